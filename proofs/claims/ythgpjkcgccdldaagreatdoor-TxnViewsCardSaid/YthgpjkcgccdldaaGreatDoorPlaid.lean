/-
  What a pager's disk says ('Laid'); what was written is what is read: pages, maps; bytes.Clone, Root, walked.
-/
import Derived.Test.YthgpjkcgccdldaaGreatDoorPio
namespace Go.Proofs.YthgpjkcgccdldaaGreatDoor
open Go.RowKit Go.Maps

set_option maxRecDepth 100000 in
theorem word_back (T : Nat → Nat) (hT : ∀ i, T i < 18446744073709551616) (j : Nat) (hj : j < 64) : wordAt (bytesOf 512 (mapB T 0)) j = T j := by
  have e : ((bytesOf 512 (mapB T 0)).drop (8 * j)).take 8 = bytesOf 8 fun i => putN (fun _ => 0) 0 8 (T j) (0 + i) := by
    apply List.ext_getElem
    · simp [bytesOf]; omega
    · intro i h1 h2
      have hi : i < 8 := by simpa [bytesOf] using h2
      simp only [bytesOf, List.getElem_take, List.getElem_drop, List.getElem_map, List.getElem_range]
      unfold mapB putN
      rw [if_pos (by omega), show 64 * 0 + (8 * j + i) / 8 = j by omega, show (8 * j + i) % 8 = i by omega, show 0 + i - 0 = i by omega]
  unfold wordAt
  rw [e, leNum_put]
  exact Nat.mod_eq_of_lt (hT j)

set_option maxRecDepth 100000 in
theorem mapB_lt (T : Nat → Nat) (i : Nat) : ∀ x, mapB T i x < 256 := fun x => Nat.mod_lt _ (by decide)

set_option maxRecDepth 100000 in
theorem pageB_lt (l : List Nat) (hb : ∀ x ∈ l, x < 256) : ∀ i, pageB l i < 256 := by
  intro i
  unfold pageB
  split
  · exact Nat.mod_lt _ (by decide)
  · split
    · rename_i h
      rw [List.getD_eq_getElem?_getD, List.getElem?_eq_getElem (by omega)]
      exact hb _ (List.getElem_mem _)
    · omega

set_option maxRecDepth 100000 in
theorem page_len (l : List Nat) (hl : l.length ≤ 496) : pageLen (pageB l) = l.length := by
  have := leNum_put (fun _ => 0) 0 2 l.length
  have e : (bytesOf 2 fun i => putN (fun _ => 0) 0 2 l.length (0 + i)) = bytesOf 2 (pageB l) := bytesOf_congr fun i hi => by
    unfold putN pageB
    rw [if_pos (by omega), if_pos hi, show 0 + i - 0 = i by omega]
  rw [e] at this
  unfold pageLen
  rw [this, Nat.mod_eq_of_lt (show l.length < 2 ^ (8 * 2) by omega), Nat.min_eq_left hl]

set_option maxRecDepth 100000 in
theorem page_bytes (l : List Nat) : (bytesOf l.length fun i => pageB l (16 + i)) = l := by
  have e : (bytesOf l.length fun i => pageB l (16 + i)) = bytesOf l.length fun i => l.getD i 0 := bytesOf_congr fun i hi => by
    unfold pageB
    rw [if_neg (by omega), if_pos (by omega), Nat.add_sub_cancel_left]
  rw [e]
  exact bytesOf_list l

/-- What the disk of a pager says: c Commits were done; the root; the pages. -/
structure Laid (s : St) (c : Nat) (root : List Nat) (K : Nat → Bool) : Prop where
  good : s.Good
  n64 : 64 ≤ s.n
  n4096 : s.n ≤ 4096
  byte : ∀ i x, x ∈ s.f i → x < 256
  num : ∀ i, i < 2 → hdNum (fB s i) < 9223372036854775808
  ck : c ≤ s.k
  zero : c = 0 → root = [] ∧ hdC (fB s 0) = 0 ∧ hdC (fB s 1) = 0
  some : 0 < c → hdC (fB s (c % 2)) = c ∧ hdR (fB s (c % 2)) = root ∧ hdC (fB s ((c + 1) % 2)) < c
  map : ∃ T, (∀ i, T i < 18446744073709551616) ∧ s.f (2 + c % 2) = bytesOf 512 (mapB T 0) ∧ ∀ n, 4 ≤ n → n < s.n → bit T n = K n
  kr : ∀ n, K n = true → 4 ≤ n ∧ n < s.n
  rl : root.length ≤ 64
  rbytes : ∀ x ∈ root, x < 256

set_option maxRecDepth 100000 in
theorem fB_lt {s : St} (h : ∀ i x, x ∈ s.f i → x < 256) (n : Nat) : ∀ i, fB s n i < 256 := by
  intro i
  unfold fB
  rw [List.getD_eq_getElem?_getD]
  by_cases hi : i < (s.f n).length
  · rw [List.getElem?_eq_getElem hi]; exact h n _ (List.getElem_mem hi)
  · rw [List.getElem?_eq_none (by omega)]; decide

set_option maxRecDepth 100000 in
theorem fB_new (n i : Nat) : fB (St.new n) i = fun _ => 0 := by
  funext j
  show zeros.getD j 0 = 0
  unfold zeros
  rw [List.getD_eq_getElem?_getD, List.getElem?_replicate]
  split <;> rfl

set_option maxRecDepth 100000 in
theorem Laid.new {n : Nat} (h1 : 64 ≤ n) (h2 : n ≤ 4096) : Laid (St.new n) 0 [] (fun _ => false) := by
  refine ⟨St.Good.new (by omega), h1, h2, ?_, ?_, Nat.zero_le _, ?_, fun h => absurd h (by omega), ⟨fun _ => 0, fun _ => by show (0 : Nat) < 18446744073709551616; decide, ?_, fun n _ _ => by unfold bit; simp⟩, fun n h => by simp at h, by simp, by simp⟩
  · intro i x hx
    have : x = 0 := List.eq_of_mem_replicate (show x ∈ List.replicate 512 0 from hx)
    omega
  · intro i _; rw [fB_new, head_zero.1]; decide
  · intro _; rw [fB_new, fB_new]; exact ⟨rfl, head_zero.2, head_zero.2⟩
  · show zeros = _
    apply List.ext_getElem
    · rw [zeros_length, bytesOf_length]
    · intro i h1 h2
      have e : zeros[i]'h1 = 0 := by unfold zeros; exact List.getElem_replicate _
      rw [e]
      simp [bytesOf, mapB]

set_option maxRecDepth 100000 in
theorem eq_nil (w : World) : Sem.run Tryz.prog (binOp .eql 68 (.slice none 0 0) (.slice none 0 0)) w = .ok (.bool true) w := by kernel_rfl
set_option maxRecDepth 100000 in
theorem eq_some (x : Addr) (n c : Nat) (w : World) : Sem.run Tryz.prog (binOp .eql 68 (.slice (some x) n c) (.slice none 0 0)) w = .ok (.bool false) w := by kernel_rfl

set_option maxRecDepth 100000 in
set_option maxHeartbeats 800000 in
theorem clone_any (a : Option Addr) (cap : Nat) (l : List Nat) (n : Nat) (hn : l.length = n) (hl : n ≤ 1000) (hnil : a = none → cap = 0) (w : World) (hB : BytesAt w a l) :
    Calls Tryz.prog 88 #[.slice a n cap] w fun e w' => ∃ a' c', e = .returned (.slice a' n c') ∧ BytesAt w' a' l ∧ (a' = none → c' = 0) ∧ (∀ x, a' = some x → w.heap.size ≤ x.block) ∧ Turn [] w w' := by
  have HN := hide hn
  have he1 := eq_nil
  have he2 := eq_some
  cases a with
  | none =>
    obtain rfl := hnil rfl
    have hl0 : l = [] := by
      rcases hB with h | ⟨_, _, e, _⟩
      · exact h
      · cases e
    subst hl0
    obtain rfl : 0 = n := hn
    clear hB
    go_enter Tryz.func88, Tryz.ntmps88
    go_wp2
    go_ret
    exact ⟨none, 0, rfl, .inl rfl, fun _ => rfl, by simp, Turn.refl _ _⟩
  | some x =>
    have hown : (w.alloc (.cells #[] 5)).ownsRow w.heap.size 5 1 (.slice (some ⟨w.heap.size, 0, none⟩) 0 0) 0 (([] : List Nat).map byteCell) := World.ownsRow_made w #[] 0 (Nat.le_refl _) (Nat.zero_le _) rfl
    have HOWN := hide hown
    have HBA := hide (hB.turn ((Turn.refl [] w).alloc (.cells #[] 5)) (by simp))
    clear hown hB hn hnil
    go_enter Tryz.func88, Tryz.ntmps88
    go_wp2_with (at_builtin; refine append_bytes rfl _ _ rfl w.heap.size (.slice (some ⟨w.heap.size, 0, none⟩) 0 0) 0 [] rfl HOWN.out (some x) n cap l rfl HN.out (by simp) HBA.out (by omega) (by simp) ?_; intro v w3 hown3 hgrow3 hnil3)
    have hvn : v ≠ .slice none 0 0 := by
      intro e
      have := hnil3
      simp [e] at this
    obtain ⟨g, cg, hv, _, hg, hgl, hbg, _⟩ := own_some (l := l) (by simpa using hown3) hvn
    have hT3 : Turn [] w w3 := ((Turn.refl [] w).alloc _).grown hgrow3 (by intro k hk; right; simp [Value.ownBlock] at hk; omega)
    rw [HN.out] at hv
    rw [hv]
    have HB3 := hide hbg
    clear hv hown3 hgrow3 hbg HOWN HBA hnil3 hvn
    go_wp2_with fail
    go_ret
    exact ⟨some ⟨g, 0, none⟩, cg, rfl, HB3.out, by simp, fun x hx => by obtain rfl := Option.some.inj hx; exact hg, hT3⟩

set_option maxRecDepth 100000 in
set_option maxHeartbeats 800000 in
theorem root_any (p b sm rb N : Nat) (d l : Int) (q : Pg) (hr : q.root.length ≤ 64) (w : World) (hP : PgAt w p b sm rb N d l q) :
    Calls Tryz.prog 62 #[.pointer (some ⟨p, 0, none⟩)] w fun e w' => ∃ a' c', e = .returned (.slice a' q.root.length c') ∧ BytesAt w' a' q.root ∧ (a' = none → c' = 0) ∧ Turn [] w w' := by
  obtain ⟨ra, rc, h5, hB, hn, _⟩ := hP.c5
  have HC := hide (clone_any ra rc q.root q.root.length rfl (by omega) hn w hB)
  clear hB hP
  generalize q.root.length = n at *
  go_enter Tryz.func62, Tryz.ntmps62
  go_wp2_with fail
  refine HC.out.mono ?_
  rintro e w1 ⟨a', c', rfl, hB1, hn1, _, hT1⟩
  have HB1 := hide hB1
  clear hB1
  go_wp2_with fail
  go_ret
  exact ⟨a', c', rfl, HB1.out, hn1, hT1⟩

end Go.Proofs.YthgpjkcgccdldaaGreatDoor

/-
  The law PagerCommits, walked.
-/
import Derived.Test.YtjbjcjcahkfgbaaDoorInts
namespace Go.Proofs.YtjbjcjcahkfgbaaDoor
open Go.RowKit Go.Maps

/-- What was done since: ys allocated, of xs the first j freed. -/
def Pg.mid (q : Pg) (xs ys : List Nat) (j : Nat) (r : Bool) (u : Nat) : Pg := { q with si := fun x => if x ∈ ys then 1 else if x ∈ xs.take j then 2 else 0, rd := r, u := u }

theorem Pg.mid_alloced {q : Pg} {xs ys : List Nat} {r : Bool} {u k : Nat} : (q.mid xs ys 0 r u).alloced k = q.mid xs (ys ++ [k]) 0 true (u + 1) := by
  unfold Pg.alloced Pg.mid
  simp only
  congr 1
  funext x
  unfold setB
  by_cases e : x = k
  · simp [e]
  · simp [e]

theorem Pg.mid_freed {q : Pg} {xs ys : List Nat} {j : Nat} {r : Bool} {u : Nat} (hj : j < xs.length) (hn : xs[j] ∉ ys) : (q.mid xs ys j r u).freed xs[j] = q.mid xs ys (j + 1) true (u + 1) := by
  have h1 : (q.mid xs ys j r u).si xs[j] ≠ 1 := by
    show (if xs[j] ∈ ys then 1 else if xs[j] ∈ xs.take j then 2 else 0) ≠ 1
    rw [if_neg hn]
    split <;> omega
  unfold Pg.freed
  rw [if_neg h1]
  unfold Pg.mid
  simp only
  congr 1
  funext x
  unfold setB
  have hm : x ∈ xs.take (j + 1) ↔ x ∈ xs.take j ∨ x = xs[j] := by rw [List.take_succ_eq_append_getElem hj, List.mem_append, List.mem_singleton]
  by_cases e : x = xs[j]
  · rw [if_pos e]
    rw [e, if_neg hn, if_pos (by rw [e] at hm; exact hm.2 (.inr rfl))]
  · rw [if_neg e]
    show (if x ∈ ys then 1 else if x ∈ xs.take j then 2 else 0) = _
    by_cases hy : x ∈ ys
    · rw [if_pos hy, if_pos hy]
    · rw [if_neg hy, if_neg hy]
      by_cases h : x ∈ xs.take j
      · rw [if_pos h, if_pos (hm.2 (.inl h))]
      · rw [if_neg h, if_neg (fun hx => by rcases hm.1 hx with h' | h'; exact h h'; exact e h')]

theorem Pg.mid_there {q : Pg} {xs ys : List Nat} {j : Nat} {r : Bool} {u : Nat} (hn : xs.Nodup) (hj : j < xs.length) (hK : q.K xs[j] = true) (hy : xs[j] ∉ ys) : (q.mid xs ys j r u).there xs[j] = true := by
  have hnot : xs[j] ∉ xs.take j := by
    intro hm
    have hd : (xs.take (j + 1)).Nodup := hn.sublist (List.take_sublist _ _)
    rw [List.take_succ_eq_append_getElem hj] at hd
    have := List.nodup_append.1 hd
    exact this.2.2 _ hm _ (by simp) rfl
  unfold Pg.there Pg.mid
  simp [hK, hnot, hy]

/-- Behind the Commit just ys are there. -/
theorem Pg.mid_committed {q : Pg} {xs ys : List Nat} {r : Bool} {u : Nat} (hK : ∀ x, q.K x = decide (x ∈ xs)) (root : List Nat) : ∀ x, ((q.mid xs ys xs.length r u).committed root).K x = decide (x ∈ ys) := by
  intro x
  show (q.mid xs ys xs.length r u).there x = _
  unfold Pg.there Pg.mid
  simp only [List.take_length, hK]
  by_cases h : x ∈ ys
  · simp [h]
  · by_cases h2 : x ∈ xs
    · simp [h, h2]
    · simp [h, h2]

theorem Pg.mid_left {q : Pg} {xs ys : List Nat} {r : Bool} {u : Nat} {N : Nat} (hN : N ≤ 16384) (hK : ∀ x, q.K x = decide (x ∈ xs)) : N - 4 ≤ (q.mid xs ys 0 r u).left N + (xs.length + ys.length) := by
  have := left_ge (q.mid xs ys 0 r u) N hN (xs ++ ys) (fun k _ _ h => by
    have h' : (q.K k || ((if k ∈ ys then 1 else if k ∈ xs.take 0 then 2 else 0) == 1)) = true := h
    rw [hK] at h'
    by_cases h1 : k ∈ xs
    · exact List.mem_append.2 (.inl h1)
    · by_cases h2 : k ∈ ys
      · exact List.mem_append.2 (.inr h2)
      · simp [h1, h2] at h')
  rw [List.length_append] at this
  exact this

/-- Where the outer loop stands: k Commits were done, the pages xs are there. -/
structure CommAt (w0 wr : World) (p b m sm rb k M : Nat) (s : St) (q : Pg) (v : Value) (xs : List Nat) : Prop where
  pat : PAt wr p b m sm rb s q
  live : s.dead = false
  qlive : q.dead = false
  n : s.n = 128
  kb : s.k ≤ 40 * k
  left : s.left < 0
  u : q.u = 0
  c : q.c = k
  si : q.si = fun _ => 0
  row : IntsAt wr v xs
  len : xs.length ≤ M
  off : ∀ g, v.ownBlock = some g → g ≠ p ∧ g ≠ b ∧ g ≠ m ∧ g ≠ sm ∧ g ≠ rb ∧ w0.heap.size ≤ g
  K : ∀ x, q.K x = decide (x ∈ xs)
  nodup : xs.Nodup
  rbl : rb < wr.heap.size
  ge : w0.heap.size ≤ p ∧ w0.heap.size ≤ b ∧ w0.heap.size ≤ m ∧ w0.heap.size ≤ sm
  turn : Turn [] w0 wr

/-- Where the allocating loop stands: ys were allocated. -/
structure MidAt (w0 wr : World) (p b m sm rb k i k0 : Nat) (s : St) (q : Pg) (r : Bool) (v v' : Value) (xs ys : List Nat) : Prop where
  pat : PAt wr p b m sm rb s (q.mid xs ys 0 r i)
  live : s.dead = false
  n : s.n = 128
  kk : s.k = k0 + i
  left : s.left < 0
  row : IntsAt wr v xs
  row' : IntsAt wr v' ys
  len : ys.length = i
  off : ∀ g, v.ownBlock = some g → g ≠ p ∧ g ≠ b ∧ g ≠ m ∧ g ≠ sm ∧ g ≠ rb ∧ w0.heap.size ≤ g
  off' : ∀ g, v'.ownBlock = some g → g ≠ p ∧ g ≠ b ∧ g ≠ m ∧ g ≠ sm ∧ g ≠ rb ∧ w0.heap.size ≤ g ∧ v.ownBlock ≠ some g
  page : ∀ t (ht : t < ys.length), s.f ys[t] = bytesOf 512 (pageB [k, t]) ∧ 4 ≤ ys[t] ∧ ys[t] < 128
  nodup : ys.Nodup
  apart : ∀ y ∈ ys, y ∉ xs
  rbl : rb < wr.heap.size
  turn : Turn [] w0 wr

theorem two_bytes (w : World) (x y : Nat) : BytesAt (w.alloc (.cells #[.int .u8 (x : Nat), .int .u8 (y : Nat)] 5)) (some ⟨w.heap.size, 0, none⟩) [x, y] := bytes_new w [x, y] 5

set_option maxRecDepth 100000 in
set_option maxHeartbeats 3200000 in
theorem commits_any (x y : Int) (w : World) (hTab : Tab w) : Calls Tryd.prog 8 #[.int .i64 x, .int .i64 y] w fun e w' => e = .returned (.bool true) ∧ Turn [] w w' := by
  have HTab := hide hTab
  have hw0 : 0 < w.heap.size := lt_of_cell (hTab 0 (by omega))
  clear hTab
  go_enter Tryd.func8, Tryd.ntmps8
  go_wp2_with fail
  refine (known_any w HTab.out).mono ?_
  rintro e w1 ⟨rfl, hT1⟩
  have HTab1 := hide (HTab.out.turn hT1 (by simp))
  go_wp2_with fail
  refine (new_any 128 (by omega) (by omega) w1).mono ?_
  rintro e w3 ⟨rfl, hD3, hT3, hs3⟩
  have HD3 := hide hD3
  have HTab3 := hide (HTab1.out.turn hT3 (by simp))
  have hs3' : w1.heap.size + 1 < w3.heap.size := by omega
  have hs0 : 0 < w1.heap.size := lt_of_cell (HTab1.out 0 (by omega))
  have hT03 : Turn [] w w3 := hT1.then hT3 (by simp)
  have h1s := hT1.size
  clear hD3 hs3 hT3 hT1
  generalize hm : w1.heap.size = m at *
  clear hm
  go_wp2_with fail
  refine (open_any (m + 1) m (St.new 128) 0 [] (fun _ => false) (Laid.new (by omega) (by omega)) rfl w3 HD3.out HTab3.out ⟨by omega, hs0⟩).mono ?_
  rintro e w4 ⟨p, sm, rb, hp1, hp2, hp3, hp4, rfl, hA4, hT4⟩
  have hT04 : Turn [] w w4 := hT03.then hT4 (by simp)
  have HA4 := hide hA4
  clear hA4
  go_wp2_with fail
  refine (within_any y 25 (by omega) (by omega) w4).mono ?_
  rintro e w5 ⟨⟨m0, hm0, rfl⟩, rfl⟩
  obtain ⟨M, hM⟩ : ∃ M, M = 1 + m0 := ⟨_, rfl⟩
  have hMI : (1 : Int) + (m0 : Int) = (M : Int) := by omega
  have hM1 : 1 ≤ M := by omega
  have hM2 : M ≤ 25 := by omega
  have HF0 : Hid (CommAt w w5 p (m + 1) m sm rb 0 M (St.new 128) ⟨false, 0, [], fun _ => false, fun _ => 0, false, 0⟩ (.slice none 0 0) []) :=
    ⟨HA4.out, rfl, rfl, rfl, Nat.zero_le _, by show (-1 : Int) < 0; omega, rfl, rfl, rfl, IntsAt.nil _, Nat.zero_le _, by simp [Value.ownBlock], by simp, List.nodup_nil, hp4, ⟨by omega, by omega, by omega, by omega⟩, hT04⟩
  clear hM HA4
  go_wp2_with fail
  go_loopw [9, 10] (fun v i wr => ∃ (k sm rb : Nat) (s : St) (q : Pg) (xs : List Nat), k ≤ 65 ∧ i = .int .i64 k ∧ CommAt w wr p (m + 1) m sm rb k M s q v xs) (fun _ i _ => 66 - (intOf i).toNat)
  case atStart => exact ⟨0, sm, rb, _, _, [], by omega, rfl, HF0.out⟩
  case round =>
    obtain ⟨k, sm, rb, s, q, xs, hk65, rfl, hC⟩ := hrel
    have HC := hide hC
    clear hC HF0
    go_wp2_with fail
    refine (within_any x 60 (by omega) (by omega) wr).mono ?_
    rintro e w6 ⟨⟨r0, hr0, rfl⟩, rfl⟩
    by_cases hkr : k < 5 + r0
    · have hkI : decide ((k : Int) < 5 + (r0 : Int)) = true := by simp; omega
      have hsk := HC.out.kb
      obtain ⟨k0, hk0⟩ : ∃ k0, k0 = s.k := ⟨_, rfl⟩
      have HWr := hide (writes_any (m + 1) m s w6 HC.out.pat.disk)
      rw [← hk0] at HWr
      have HK0 := hide hk0
      have hk0b : k0 ≤ 2600 := by omega
      have Hmid0 : Hid (MidAt w w6 p (m + 1) m sm rb k 0 k0 s q q.rd u9 (.slice none 0 0) xs []) := by
        refine ⟨?_, HC.out.live, HC.out.n, by omega, HC.out.left, HC.out.row, IntsAt.nil _, rfl, HC.out.off, by simp [Value.ownBlock], by simp, List.nodup_nil, by simp, HC.out.rbl, HC.out.turn⟩
        have e : q.mid xs [] 0 q.rd 0 = q := by
          have h1 := HC.out.si
          have h2 := HC.out.u
          unfold Pg.mid
          cases q
          simp at h1 h2
          simp [h1, h2]
        rw [e]
        exact HC.out.pat
      clear hk0
      go_wp2_with fail
      refine HWr.out.mono ?_
      rintro e w7 ⟨rfl, rfl⟩
      go_wp2_with fail
      go_loopw [12, 13] (fun v' i wr => ∃ (t : Nat) (s : St) (r : Bool) (ys : List Nat), t ≤ M ∧ i = .int .i64 t ∧ MidAt w wr p (m + 1) m sm rb k t k0 s q r u9 v' xs ys) (fun _ i _ => M - (intOf i).toNat)
      case atStart => exact ⟨0, s, q.rd, [], Nat.zero_le _, rfl, Hmid0.out⟩
      case round =>
        obtain ⟨t, s2, r2, ys, htM, rfl, hMd⟩ := hrel
        have HMd := hide hMd
        clear hMd Hmid0 HWr
        have hk64 : k ≤ 64 := by omega
        by_cases htl : t < M
        · have hyl := HMd.out.len
          have hxl := HC.out.len
          have hsk2 := HMd.out.kk
          have hpl := HMd.out.pat.pg.lt
          have Hleft : Hid (¬ ∀ j, j < 16384 → (q.mid xs ys 0 r2 t).tk s2.n j = true) := fun h => by
            rw [HMd.out.n] at h
            have h1 := (Pg.left_zero _ _).2 h
            have h2 := Pg.mid_left (q := q) (xs := xs) (ys := ys) (r := r2) (u := t) (N := 128) (by omega) HC.out.K
            omega
          have HA8 := hide (HMd.out.pat.turn0 ((Turn.refl [] wr).alloc (.cells #[.int .u8 (k : Nat), .int .u8 (t : Nat)] 5)))
          have HB8 := hide (two_bytes wr k t)
          have hge := HC.out.ge
          have hrbl := HMd.out.rbl
          have HAl := hide (alloc_any p (m + 1) m sm rb s2 (q.mid xs ys 0 r2 t) HMd.out.live HC.out.qlive (by show t < 1000000000; omega) (by omega) _ 2 [k, t] 2 rfl (by omega) (by simp; omega) _ HB8.out (fun x _ hx => by obtain rfl := Option.some.inj hx; show wr.heap.size ≠ p; omega) HA8.out)
          clear hyl hxl hsk2
          go_wp2_with fail
          refine HAl.out.mono ?_
          rintro e w9 hpost
          rcases hpost with ⟨rfl, hfull, _⟩ | ⟨kk, rfl, hNx, _, hA9, hT9⟩ | ⟨kk, _, _, h, _⟩
          · exact absurd hfull Hleft.out
          · have hkr := hNx.range
            have hkN : kk < 128 := by rw [← HMd.out.n]; exact hkr.2.1
            have hk4 := hkr.1
            have hKk : q.K kk = false := hkr.2.2.1
            have hSk : (q.mid xs ys 0 r2 t).si kk ≠ 1 := hkr.2.2.2
            have Hnx : Hid (kk ∉ xs) := fun hm => by
              have := HC.out.K kk
              rw [hKk] at this
              simp [hm] at this
            have Hny : Hid (kk ∉ ys) := fun hm => hSk (by show (if kk ∈ ys then 1 else if kk ∈ xs.take 0 then 2 else 0) = 1; rw [if_pos hm])
            rw [Pg.mid_alloced] at hA9
            have hS9 : ∀ g, u9.ownBlock = some g → g ∉ [p, m + 1, m, sm] := fun g hg => by have := HMd.out.off g hg; simp; omega
            have hS9' : ∀ g, u12.ownBlock = some g → g ∉ [p, m + 1, m, sm] := fun g hg => by have := HMd.out.off' g hg; simp; omega
            have hTa : Turn [] wr (wr.alloc (.cells #[.int .u8 (k : Nat), .int .u8 (t : Nat)] 5)) := (Turn.refl [] wr).alloc _
            have HI9 := hide ((HMd.out.row.turn hTa (by simp)).turn hT9 hS9)
            have HI9' := hide ((HMd.out.row'.turn hTa (by simp)).turn hT9 hS9')
            have hT09 : Turn [] w w9 := (HMd.out.turn.then hTa (by simp)).then hT9 (by simp; omega)
            have h9s : wr.heap.size ≤ w9.heap.size := Nat.le_trans hTa.size hT9.size
            have HA9 := hide hA9
            have hyl := HMd.out.len
            clear hA9 hT9 hNx hkr HAl HA8 HB8 Hleft hS9 hS9' hTa hKk hSk
            go_wp2_with (first | (at_builtin; refine append_int rfl _ _ rfl u12 ys kk rfl HI9'.out rfl (by omega) ?_; intro v' w10 hI10 hT10 hb10; have HI10 := hide hI10; have HT10 := hide hT10; have HB10 := hide hb10; clear hI10 hT10 hb10) | fail)
            have hpl9 := HA9.out.pg.lt
            have hsl9 := HA9.out.pg.lts
            have hbl9 := HA9.out.disk.lt
            have hml9 := HA9.out.disk.ltm
            obtain ⟨HA10, hT010, h10s, HI10x⟩ : Hid (PAt w10 p (m + 1) m sm rb (s2.did kk (bytesOf 512 (pageB [k, t]))) (q.mid xs (ys ++ [kk]) 0 true (t + 1))) ∧ Turn [] w w10 ∧ w9.heap.size ≤ w10.heap.size ∧ Hid (IntsAt w10 u9 xs) := by
              rcases HT10.out with h | ⟨g, hg, h⟩
              · exact ⟨HA9.out.turn0 h, hT09.then h (by simp), h.size, HI9.out.turn h (by simp)⟩
              · have ho := HMd.out.off' g hg
                exact ⟨HA9.out.turn h (by simp; omega) (by simp; omega) (by simp; omega) (by simp; omega) (by simp; omega) (by simp; omega), hT09.then h (by simp; omega), h.size, HI9.out.turn h (fun g' hg' hm => ho.2.2.2.2.2.2 (by rw [← List.mem_singleton.1 hm]; exact hg'))⟩
            have Hoff' : Hid (∀ g, v'.ownBlock = some g → g ≠ p ∧ g ≠ m + 1 ∧ g ≠ m ∧ g ≠ sm ∧ g ≠ rb ∧ w.heap.size ≤ g ∧ u9.ownBlock ≠ some g) := fun g hg => by
              rcases HB10.out with h | ⟨g', h1, h2⟩
              · exact HMd.out.off' g (h ▸ hg)
              · obtain rfl : g' = g := by rw [h1] at hg; exact Option.some.inj hg
                have h3 := hT09.size
                exact ⟨by omega, by omega, by omega, by omega, by omega, by omega, fun h => by have := HI9.out.lt g' h; omega⟩
            go_roundw
            case rel =>
              refine ⟨t + 1, s2.did kk (bytesOf 512 (pageB [k, t])), true, ys ++ [kk], by omega, by go_num, HA10.out, HMd.out.live, HMd.out.n, by show s2.k + 1 = _; have := HMd.out.kk; omega, ?_, HI10x.out, HI10.out, by rw [List.length_append]; show ys.length + 1 = _; omega, HMd.out.off, Hoff'.out, ?_, List.nodup_append.2 ⟨HMd.out.nodup, by simp, fun a ha b hb => by rw [List.mem_singleton.1 hb]; exact fun e => Hny.out (e ▸ ha)⟩, ?_, by omega, hT010⟩
              · show (if s2.left < 0 then s2.left else s2.left - 1) < 0
                rw [if_pos HMd.out.left]
                exact HMd.out.left
              · intro t' ht'
                by_cases e : t' < ys.length
                · rw [List.getElem_append_left e]
                  obtain ⟨h1, h2, h3⟩ := HMd.out.page t' e
                  have hne : ys[t'] ≠ kk := fun e' => Hny.out (by rw [← e']; exact List.getElem_mem e)
                  exact ⟨by rw [St.did_f _ _ _ _ hne]; exact h1, h2, h3⟩
                · have : t' = ys.length := by rw [List.length_append] at ht'; simp at ht'; omega
                  subst this
                  rw [List.getElem_append_right (Nat.le_refl _)]
                  simp only [Nat.sub_self, List.getElem_cons_zero]
                  exact ⟨by rw [St.did_f_same, hyl], hk4, hkN⟩
              · intro y hy
                rcases List.mem_append.1 hy with h | h
                · exact HMd.out.apart y h
                · rw [List.mem_singleton.1 h]; exact Hnx.out
            case measure => simp [intOf]; omega
          · exact absurd h (by have := HMd.out.left; omega)
        · obtain rfl : t = M := by omega
          have hyl := HMd.out.len
          have hxl := HC.out.len
          have hge := HC.out.ge
          have hxI := HC.out.row.slice
          obtain ⟨a9, c9, h9⟩ := hxI
          obtain ⟨a12, c12, h12⟩ := HMd.out.row'.slice
          have Hyl := hide hyl
          have hyl1 : ys.length ≤ 25 := by omega
          have hxl1 : xs.length ≤ 25 := by omega
          have hk2 : s2.k ≤ 2700 := by have := HMd.out.kk; omega
          have hpl0 := HMd.out.pat.pg.lt
          have hsl0 := HMd.out.pat.pg.lts
          have hrbl0 := HMd.out.rbl
          subst h9 h12
          clear hyl hxl htl htM
          obtain ⟨w8, hw8⟩ : ∃ w8 : World, w8 = wr := ⟨_, rfl⟩
          have hsw8 : w8.heap.size ≤ wr.heap.size := by rw [hw8]; exact Nat.le_refl _
          have hpl8 : p < w8.heap.size := by rw [hw8]; exact hpl0
          have hsl8 : sm < w8.heap.size := by rw [hw8]; exact hsl0
          have hrbl8 : rb < w8.heap.size := by rw [hw8]; exact hrbl0
          clear hw8 hpl0 hsl0 hrbl0
          go_wp2_with fail
          go_loopw [16] (fun i wr => ∃ (j : Nat) (r : Bool), j ≤ xs.length ∧ i = .int .i64 j ∧ PAt wr p (m + 1) m sm rb s2 (q.mid xs ys j r (t + j)) ∧ IntsAt wr (.slice a9 xs.length c9) xs ∧ IntsAt wr (.slice a12 ys.length c12) ys ∧ Turn [] w wr ∧ w8.heap.size ≤ wr.heap.size) (fun i _ => xs.length - (intOf i).toNat)
          case atStart => exact ⟨0, r2, Nat.zero_le _, rfl, HMd.out.pat, HMd.out.row, HMd.out.row', HMd.out.turn, hsw8⟩
          case round =>
            obtain ⟨j, r3, hj, rfl, hA2, hI2, hJ2, hT2, hsz2⟩ := hrel
            by_cases hlt : j < xs.length
            · obtain ⟨g, cap', he, hc⟩ := hI2.get (i := j) hlt
              have hmem : xs[j] ∈ xs := List.getElem_mem hlt
              have hKj : q.K xs[j] = true := by rw [HC.out.K]; simp
              have hny : xs[j] ∉ ys := fun hm => HMd.out.apart _ hm hmem
              have hrg := HMd.out.pat.laid.kr xs[j] hKj
              have hx4 := hrg.1
              have hxN : xs[j] < 128 := by rw [← HMd.out.n]; exact hrg.2
              have Hti : Hid ((q.mid xs ys j r3 (t + j)).thereI s2.n (xs[j] : Nat) = true) := by
                show _ = _
                unfold Pg.thereI
                rw [HMd.out.n]
                have e1 : (4 : Int) ≤ ((xs[j] : Nat) : Int) := by omega
                have e2 : ((xs[j] : Nat) : Int) < ((128 : Nat) : Int) := by omega
                rw [decide_eq_true e1, decide_eq_true e2]
                show (true && true && (q.mid xs ys j r3 (t + j)).there xs[j]) = true
                rw [Pg.mid_there HC.out.nodup hlt hKj hny]
                rfl
              have HFr := hide (free_yes p (m + 1) m sm rb s2 (q.mid xs ys j r3 (t + j)) HMd.out.live HC.out.qlive (by show t + j < 1000000000; omega) xs[j] Hti.out wr hA2)
              rw [Pg.mid_freed hlt hny] at HFr
              have HI2 := hide hI2
              have HJ2 := hide hJ2
              have e9 : a9 = some ⟨g, 0, none⟩ ∧ c9 = cap' := by
                injection he with e1 e2 e3
                exact ⟨e1, e3⟩
              obtain ⟨rfl, rfl⟩ := e9
              clear hA2 hI2 hJ2 he Hti hmem hKj hny hrg
              generalize xs[j] = xj at *
              go_wp2_with fail
              refine HFr.out.mono ?_
              rintro e w10 ⟨rfl, hA10, hT10⟩
              have HA10 := hide hA10
              have HI10 := hide (HI2.out.turn hT10 (fun g' hg' => by have := HMd.out.off g' hg'; simp; omega))
              have HJ10 := hide (HJ2.out.turn hT10 (fun g' hg' => by have := HMd.out.off' g' hg'; simp; omega))
              have hT010 := hT2.then hT10 (by simp; omega)
              have h10s := hT10.size
              clear hA10 hT10
              go_wp2_with fail
              go_roundw
              case rel => exact ⟨j + 1, true, by omega, by go_num, HA10.out, HI10.out, HJ10.out, hT010, by omega⟩
              case measure => simp [intOf]; omega
            · obtain rfl : j = xs.length := by omega
              have hpl2 := hA2.pg.lt
              have HA2 := hide (hA2.turn0 ((Turn.refl [] wr).alloc (.cells #[.int .u8 (k : Nat)] 5)))
              have HB2 := hide (one_byte wr k)
              have HJ2 := hide hJ2
              clear hA2 hI2 hJ2 hj hlt
              go_wp2_with fail
              refine (commit_any p (m + 1) m sm rb s2 (q.mid xs ys xs.length r3 (t + xs.length)) HMd.out.live HC.out.qlive (by omega) _ 1 [k] 1 rfl (by omega) (by simp; omega) (by simp) _ HA2.out HB2.out (fun x _ hx => by obtain rfl := Option.some.inj hx; show wr.heap.size ≠ p; omega) (by simp; omega)).mono ?_
              rintro e w11 hpost
              rcases hpost with ⟨rfl, _, _, ⟨s3, sm3, rb3, hd3, hn3, hk3, hl3, hf3, hsm3, hrb3, hrb3l, hA3⟩, hT3⟩ | ⟨_, h, _⟩
              · obtain ⟨q3, hq3⟩ : ∃ q3, q3 = (q.mid xs ys xs.length r3 (t + xs.length)).committed [k] := ⟨_, rfl⟩
                rw [← hq3] at hA3
                have hTa : Turn [] wr (wr.alloc (.cells #[.int .u8 (k : Nat)] 5)) := (Turn.refl [] wr).alloc _
                have hwa : wr.heap.size < (wr.alloc (.cells #[.int .u8 (k : Nat)] 5)).heap.size := by simp
                have HA3 := hide hA3
                have HJ3 := hide ((HJ2.out.turn hTa (by simp)).turn hT3 (fun g' hg' => by have := HMd.out.off' g' hg'; simp; omega))
                have Hoff3 : Hid (∀ g, (Value.slice a12 ys.length c12).ownBlock = some g → g ≠ p ∧ g ≠ m + 1 ∧ g ≠ m ∧ g ≠ sm3 ∧ g ≠ rb3 ∧ w.heap.size ≤ g) := fun g hg => by
                  have h1 := HMd.out.off' g hg
                  have h2 := HJ2.out.lt g hg
                  exact ⟨h1.1, h1.2.1, h1.2.2.1, by omega, by omega, h1.2.2.2.2.2.1⟩
                have hT03 : Turn [] w w11 := (hT2.then hTa (by simp)).then hT3 (by simp; omega)
                have HN3 : Hid (s3.n = 128) := hn3.trans HMd.out.n
                have HL3 := hide (hl3 HMd.out.left)
                have HK3 : Hid (∀ x, q3.K x = decide (x ∈ ys)) := by intro x; rw [hq3]; exact Pg.mid_committed HC.out.K [k] x
                have HQ3 : Hid (q3.si = (fun _ => 0) ∧ q3.u = 0 ∧ q3.dead = false ∧ q3.c = k + 1) := by
                  show _ ∧ _
                  rw [hq3]
                  refine ⟨rfl, rfl, HC.out.qlive, ?_⟩
                  show q.c + 1 = k + 1
                  rw [HC.out.c]
                have Hpg3 : Hid (∀ i (hi : i < ys.length), s3.f ys[i] = bytesOf 512 (pageB [k, i]) ∧ 4 ≤ ys[i] ∧ ys[i] < 128) := fun i hi => by
                  obtain ⟨h1, h2, h3⟩ := HMd.out.page i hi
                  exact ⟨by rw [hf3 _ h2]; exact h1, h2, h3⟩
                obtain ⟨k3, hk3'⟩ : ∃ k3, k3 = s3.k := ⟨_, rfl⟩
                have HWr3 := hide (writes_any (m + 1) m s3 w11 hA3.disk)
                rw [← hk3'] at HWr3
                have hk3a : k3 ≤ k0 + t + 2 := by have := HMd.out.kk; omega
                have hk3b : k0 ≤ k3 := by have := HMd.out.kk; omega
                have HK3' := hide hk3'
                have HSq := hide (seq_any p (m + 1) sm3 rb3 s3.n q3.word 0 q3 (by rw [HQ3.out.2.2.2]; omega) w11 hA3.pg)
                rw [HQ3.out.2.2.2] at HSq
                obtain ⟨lf, hlf⟩ : ∃ lf, lf = q3.left 128 := ⟨_, rfl⟩
                have hlge := left_ge q3 128 (by omega) ys (fun x _ _ h => by
                  rw [HK3.out, HQ3.out.1] at h
                  simpa using h)
                have hlle := left_le q3 128
                have HLf := hide (left_any p (m + 1) m sm3 rb3 s3 q3 hd3 w11 hA3)
                rw [HN3.out, ← hlf] at HLf
                rw [← hlf] at hlge hlle
                rw [Hyl.out] at hlge
                have h11s := hT3.size
                have hpl3 := hA3.pg.lt
                have hsl3 := hA3.pg.lts
                have hbl3 := hA3.disk.lt
                have hml3 := hA3.disk.ltm
                clear hA3 hT3 hTa hf3 hn3 hl3 hk3 hq3 hlf hk3' HA2 HB2 HJ2
                go_wp2_with fail
                refine HWr3.out.mono ?_
                rintro e w12 ⟨rfl, rfl⟩
                go_wp2_with fail
                refine HSq.out.mono ?_
                rintro e w13 ⟨rfl, rfl⟩
                go_wp2_with fail
                refine HLf.out.mono ?_
                rintro e w14 ⟨rfl, hA14, hT14⟩
                have HA14 := hide hA14
                have HJ14 := hide (HJ3.out.turn hT14 (fun g' hg' => by have := HMd.out.off' g' hg'; simp; omega))
                have hT014 : Turn [] w w14 := hT03.then hT14 (by simp; omega)
                have h14s := hT14.size
                clear hA14 hT14 HWr3 HSq HLf
                go_wp2_with fail
                go_loopw [17] (fun i wr => ∃ j : Nat, j ≤ ys.length ∧ i = .int .i64 j ∧ PAt wr p (m + 1) m sm3 rb3 s3 { q3 with rd := true } ∧ IntsAt wr (.slice a12 ys.length c12) ys ∧ Turn [] w wr ∧ w14.heap.size ≤ wr.heap.size) (fun i _ => ys.length - (intOf i).toNat)
                case atStart => exact ⟨0, Nat.zero_le _, rfl, HA14.out, HJ14.out, hT014, Nat.le_refl _⟩
                case round =>
                  obtain ⟨j, hj, rfl, hA2, hJ2, hT2', hsz2'⟩ := hrel
                  by_cases hlt : j < ys.length
                  · obtain ⟨g, cap', he, hc⟩ := hJ2.get (i := j) hlt
                    obtain ⟨hpf, hy4, hyN⟩ := Hpg3.out j hlt
                    have Hti : Hid (({ q3 with rd := true } : Pg).thereI s3.n (ys[j] : Nat) = true) := by
                      show _ = _
                      unfold Pg.thereI
                      rw [HN3.out]
                      have e1 : (4 : Int) ≤ ((ys[j] : Nat) : Int) := by omega
                      have e2 : ((ys[j] : Nat) : Int) < ((128 : Nat) : Int) := by omega
                      rw [decide_eq_true e1, decide_eq_true e2]
                      show (true && true && Pg.there _ ys[j]) = true
                      unfold Pg.there
                      show (true && true && ((q3.K ys[j] || q3.si ys[j] == 1) && !(q3.si ys[j] == 2))) = true
                      rw [HK3.out, HQ3.out.1]
                      simp
                    have HRd := hide (read_yes p (m + 1) m sm3 rb3 s3 { q3 with rd := true } hd3 HQ3.out.2.2.1 ys[j] Hti.out [k, j] (by simp) hpf wr hA2)
                    have HJ2 := hide hJ2
                    have e9 : a12 = some ⟨g, 0, none⟩ ∧ c12 = cap' := by
                      injection he with e1 e2 e3
                      exact ⟨e1, e3⟩
                    obtain ⟨rfl, rfl⟩ := e9
                    clear hA2 hJ2 he Hti hpf
                    generalize ys[j] = yj at *
                    go_wp2_with fail
                    refine HRd.out.mono ?_
                    rintro e w15 ⟨g2, o2, hg1, hg2, rfl, hB15, _, hA15, hT15⟩
                    have HA15 := hide (hA15.turn0 ((Turn.refl [] w15).alloc (.cells #[.int .u8 (k : Nat), .int .u8 (j : Nat)] 5)))
                    have HJ15 := hide ((HJ2.out.turn hT15 (fun g' hg' => by have := HMd.out.off' g' hg'; simp; omega)).turn ((Turn.refl [] w15).alloc (.cells #[.int .u8 (k : Nat), .int .u8 (j : Nat)] 5)) (by simp))
                    have hT015 : Turn [] w (w15.alloc (.cells #[.int .u8 (k : Nat), .int .u8 (j : Nat)] 5)) := (hT2'.then hT15 (by simp; omega)).alloc _
                    have h15s : w14.heap.size ≤ (w15.alloc (.cells #[.int .u8 (k : Nat), .int .u8 (j : Nat)] 5)).heap.size := by have := hT15.size; simp; omega
                    have hcy := text_at hB15 2 2 rfl
                    have hct := text_at (two_bytes w15 k j) 2 2 rfl
                    clear hA15 hB15 hT15 HRd
                    go_wp2_with fail
                    go_roundw
                    case rel => exact ⟨j + 1, by omega, by go_num, HA15.out, HJ15.out, hT015, h15s⟩
                    case measure => simp [intOf]; omega
                  · have HC' : Hid (CommAt w wr p (m + 1) m sm3 rb3 (k + 1) t s3 { q3 with rd := true } (.slice a12 ys.length c12) ys) := by
                      refine ⟨hA2, hd3, HQ3.out.2.2.1, HN3.out, ?_, HL3.out, HQ3.out.2.1, HQ3.out.2.2.2, HQ3.out.1, hJ2, by rw [Hyl.out]; exact Nat.le_refl _, Hoff3.out, HK3.out, HMd.out.nodup, by omega, ⟨hge.1, hge.2.1, hge.2.2.1, by have := hT03.size; omega⟩, hT2'⟩
                      have h1 := HK3'.out
                      have h2 := HK0.out
                      have h3 := HC.out.kb
                      omega
                    clear hA2 hJ2
                    go_wp2_with fail
                    go_roundw
                    case rel => exact ⟨k + 1, sm3, rb3, s3, _, ys, by omega, by go_num, HC'.out⟩
                    case measure => simp [intOf]; omega
              · exact absurd h (by have := HMd.out.left; omega)
    · have hkI : decide ((k : Int) < 5 + (r0 : Int)) = false := by simp; omega
      go_wp2_with fail
      go_ret
      exact ⟨rfl, HC.out.turn⟩
end Go.Proofs.YtjbjcjcahkfgbaaDoor

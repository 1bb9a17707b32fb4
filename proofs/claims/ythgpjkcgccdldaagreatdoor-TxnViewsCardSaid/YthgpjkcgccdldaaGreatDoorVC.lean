/-
  What a view shows: find, Get and Scan of a sight, walked.
  What a store tells: Commits; committed (with no transaction open), walked.
  A sight's once, walked: the closure runs, then the word is stored and the lock is left.
  What a sight's once runs, walked: the committed keys are asked for and stored.
  Scan of all: what it makes is nobody's yet.
  Look, walked: a new view of what is committed, its sight made there and then.
  The law's row of views: an append to it.
-/
import Derived.Test.YthgpjkcgccdldaaGreatDoorVB
import Derived.Test.YthgpjkcgccdldaaGreatDoorTNode
import Derived.Deep.RegionWith
import Derived.Test.YthgpjkcgccdldaaGreatDoorVA
namespace Go.Proofs.YthgpjkcgccdldaaGreatDoor
open Go.RowKit Go.Maps

set_option maxRecDepth 100000 in
set_option maxHeartbeats 1000000 in
theorem vfind1_any (k v key : ByteArray) (w : World) : Calls Tryz.prog 117 #[.agg #[.string k, .string v], .string key] w fun e w' => e = .returned (.int .i64 (cmp k key)) ∧ Turn [] w w' := by
  go_enter Tryz.func117, Tryz.ntmps117
  go_wp2_with fail
  refine (compare_any k key _).mono ?_
  rintro e w1 ⟨rfl, rfl⟩
  go_wp2_with fail
  go_ret
  exact ⟨rfl, (Turn.refl [] w).alloc _⟩


set_option maxRecDepth 100000 in
set_option maxHeartbeats 3200000 in
theorem vbsearch_any (a : Option Addr) (cap : Nat) (l : List (ByteArray × ByteArray)) (key : ByteArray) (hs : Rises (keysOf l)) (hlen : l.length ≤ 1000000) (w : World) (hK : KVsAt w a l) :
    Calls Tryz.prog 116 #[.slice a l.length cap, .string key, .func (.func 117) #[] #[]] w fun e w' => ∃ i f, e = .returned (.tuple #[.int .i64 (i : Nat), .bool f]) ∧ IsPos (keysOf l) key i ∧ (f = true ↔ Stands l key i) ∧ Turn [] w w' := by
  have HK := hide hK
  have HS := hide hs
  have HLk := hide (keysOf_length l)
  clear hK hs
  go_enter Tryz.func116, Tryz.ntmps116
  go_wp2_with fail
  go_loopw [9, 10] (fun i j wr => ∃ i' j' : Nat, i' ≤ j' ∧ j' ≤ l.length ∧ i = .int .i64 i' ∧ j = .int .i64 j' ∧ Hid (∀ m (h : m < l.length), m < i' → klt l[m].1 key) ∧ Hid (∀ m (h : m < l.length), j' ≤ m → ¬ klt l[m].1 key) ∧ Turn [] w wr) (fun i j _ => (intOf j).toNat - (intOf i).toNat)
  case atStart => exact ⟨0, l.length, Nat.zero_le _, Nat.le_refl _, rfl, rfl, fun m _ h => absurd h (Nat.not_lt_zero _), fun m h h2 => absurd h2 (by omega), Turn.refl _ _⟩
  case round =>
    obtain ⟨i, j, hij, hjl, rfl, rfl, H1, H2, hT⟩ := hrel
    have HT := hide hT
    clear hT
    by_cases hlt : i < j
    · obtain ⟨h, hh, hi1, hi2⟩ : ∃ h : Nat, h = (i + j) / 2 ∧ i ≤ h ∧ h < j := ⟨_, rfl, by omega, by omega⟩
      have e1 : ((i : Int) + (j : Int)) / 2 = (h : Int) := by omega
      have hhl : h < l.length := by omega
      obtain ⟨b, off, rfl, hc, hd⟩ := (HK.out.turn0 HT.out).at hhl
      clear hh
      go_wp2_with fail
      refine (vfind1_any l[h].1 l[h].2 key _).mono ?_
      rintro e w1 ⟨rfl, hT1⟩
      have HT1 := hide (HT.out.then hT1 (by simp))
      clear hT1 hc hd
      by_cases hk : cmp l[h].1 key < 0
      · have HE : Hid (∀ m (h' : m < l.length), m < h + 1 → klt l[m].1 key) := fun m h' hm => by
          by_cases he : m = h
          · subst he; exact cmp_neg.1 hk
          · have := HS.out.get (i := m) (j := h) (by omega) (by rw [HLk.out]; exact hhl)
            rw [keysOf_get h', keysOf_get hhl] at this
            exact klt_trans this (cmp_neg.1 hk)
        generalize cmp l[h].1 key = c at *
        go_wp2_with fail
        go_roundw
        case rel => exact ⟨h + 1, j, by omega, hjl, by go_num, rfl, HE, H2, HT1.out⟩
        case measure => simp [intOf]; omega
      · have HE : Hid (∀ m (h' : m < l.length), h ≤ m → ¬ klt l[m].1 key) := fun m h' hm => by
          by_cases he : m = h
          · subst he; exact fun e => hk (cmp_neg.2 e)
          · have := HS.out.get (i := h) (j := m) (by omega) (by rw [HLk.out]; exact h')
            rw [keysOf_get h', keysOf_get hhl] at this
            exact fun e => hk (cmp_neg.2 (klt_trans this e))
        generalize cmp l[h].1 key = c at *
        go_wp2_with fail
        go_roundw
        case rel => exact ⟨i, h, by omega, by omega, rfl, rfl, H1, HE, HT1.out⟩
        case measure => simp [intOf]; omega
    · obtain rfl : i = j := by omega
      have HPos : Hid (IsPos (keysOf l) key i) := ⟨by rw [HLk.out]; exact hjl, fun m h hm => by rw [HLk.out] at h; rw [keysOf_get h]; exact H1.out m h hm, fun m h hm => by rw [HLk.out] at h; rw [keysOf_get h]; exact H2.out m h hm⟩
      by_cases hil : i < l.length
      · obtain ⟨b, off, rfl, hc, hd⟩ := (HK.out.turn0 HT.out).at hil
        go_wp2_with fail
        refine (vfind1_any l[i].1 l[i].2 key _).mono ?_
        rintro e w1 ⟨rfl, hT1⟩
        have HT1 := hide (HT.out.then hT1 (by simp))
        have HE : Hid (∀ f : Bool, f = decide (cmp l[i].1 key = 0) → (f = true ↔ Stands l key i)) := fun f e => by
          rw [e, decide_eq_true_iff, cmp_zero]
          exact ⟨fun h => ⟨hil, h⟩, fun ⟨_, h⟩ => h⟩
        clear hT1 hc hd
        by_cases hz : cmp l[i].1 key = 0
        · rw [hz] at HE ⊢
          clear hz
          go_wp2_with fail
          refine bodyPost_ret (v := .tuple #[.int .i64 (i : Nat), .bool true]) (by simp [results, Tryz.results116, go_sem]) rfl ⟨i, true, rfl, HPos.out, HE.out true (by simp), HT1.out⟩
        · have hzb : (cmp l[i].1 key == 0) = false := by simpa using hz
          have HF := hide (HE.out false (by simp [hz]))
          generalize cmp l[i].1 key = c at *
          go_wp2_with fail
          refine bodyPost_ret (v := .tuple #[.int .i64 (i : Nat), .bool false]) (by simp [results, Tryz.results116, go_sem]) rfl ⟨i, false, rfl, HPos.out, HF.out, HT1.out⟩
      · go_wp2_with fail
        refine bodyPost_ret (v := .tuple #[.int .i64 (i : Nat), .bool false]) (by simp [results, Tryz.results116, go_sem]) rfl ⟨i, false, rfl, HPos.out, ⟨fun h => (by cases h), fun ⟨h, _⟩ => absurd h hil⟩, HT.out⟩


/-- What a view shows; its object, its sight and the row are other people's. -/
structure ViewAt (w : World) (O : Nat → Prop) (v : Nat) (l : KVs) : Prop where
  ex : ∃ sg a cap, w.cell? ⟨v, 1, none⟩ = some (.pointer (some ⟨sg, 0, none⟩)) ∧ w.cell? ⟨sg, 3, none⟩ = some (.slice a l.length cap) ∧ KVsAt w a l ∧ (a = none → cap = 0) ∧ (l.length ≤ cap ∧ cap ≤ 9223372036854775807) ∧ O sg ∧ ∀ x, l ≠ [] → a = some x → O x.block
  ov : O v

set_option maxRecDepth 100000 in
set_option maxHeartbeats 1600000 in
theorem vfind_any {w : World} {sg : Nat} {a : Option Addr} {cap : Nat} {l : KVs} (key : ByteArray) (hs : Rises (keysOf l)) (hlen : l.length ≤ 1000000) (h3 : w.cell? ⟨sg, 3, none⟩ = some (.slice a l.length cap)) (hK : KVsAt w a l) :
    Calls Tryz.prog 79 #[.pointer (some ⟨sg, 0, none⟩), .string key] w fun e w' => ∃ i f, e = .returned (.tuple #[.int .i64 (i : Nat), .bool f]) ∧ IsPos (keysOf l) key i ∧ (f = true ↔ Stands l key i) ∧ Turn [] w w' := by
  have HC := hide (vbsearch_any a cap l key hs hlen w hK)
  clear hs hK
  go_enter Tryz.func79, Tryz.ntmps79
  go_wp2_with fail
  refine HC.out.mono ?_
  rintro e w1 ⟨i, f, rfl, h1, h2, hT⟩
  have H1 := hide h1
  have H2 := hide h2
  clear h1 h2
  go_wp2_with fail
  go_ret2
  exact ⟨i, f, rfl, H1.out, H2.out, hT⟩

set_option maxRecDepth 100000 in
set_option maxHeartbeats 1600000 in
theorem vclone_any (a : Option Addr) (cap : Nat) (l : KVs) (hnil : a = none → cap = 0) (hlen : l.length ≤ 1000) (w : World) (hK : KVsAt w a l) :
    Calls Tryz.prog 80 #[.slice a l.length cap] w fun e w' => ∃ a' c', e = .returned (.slice a' l.length c') ∧ KVsAt w' a' l ∧ (a' = none → c' = 0) ∧ Turn [] w w' := by
  have he1 := fun n c w => Lib.run_eql_slice_nil (P := Tryz.prog) w 31 55 none n c 0 0 Tryz.underlying31
  have he2 := clone_eq_some 31 Tryz.underlying31
  cases a with
  | none =>
    obtain rfl := hnil rfl
    have hl0 : l = [] := by
      rcases hK with h | ⟨_, _, e, _⟩
      · exact h
      · cases e
    subst hl0
    clear hK
    go_enter Tryz.func80, Tryz.ntmps80
    go_wp2
    go_ret
    exact ⟨none, 0, rfl, .inl rfl, fun _ => rfl, Turn.refl _ _⟩
  | some x =>
    have hown : (w.alloc (.cells #[] 55)).ownsRow w.heap.size 55 2 (.slice (some ⟨w.heap.size, 0, none⟩) 0 0) 0 (flat ([] : List (Value × Value))) := World.ownsRow_made w #[] 0 (Nat.le_refl _) (Nat.zero_le _) rfl
    have HOWN := hide hown
    have HK := hide (hK.turn0 ((Turn.refl [] w).alloc (.cells #[] 55))).pairs
    have HLen := hide (kvCells_length l)
    have HOne := hide (kv_one l)
    clear hown hK hnil
    generalize hn : l.length = n at *
    have HN := hide hn
    clear hn
    go_enter Tryz.func80, Tryz.ntmps80
    go_wp2_with (at_builtin; refine append_pairsT 31 Tryz.underlying31 rfl _ _ rfl w.heap.size (.slice (some ⟨w.heap.size, 0, none⟩) 0 0) 0 [] rfl HOWN.out (some x) n cap (kvCells l) rfl HLen.out (by simp) HK.out HOne.out (by omega) (by simp) ?_; intro v w3 hown3 hgrow3 _)
    have hT3 : Turn [] w w3 := ((Turn.refl [] w).alloc _).grown hgrow3 (by intro k hk; right; simp [Value.ownBlock] at hk; omega)
    obtain ⟨a', c', hv, _, hc, hp, _⟩ := own_pairs (l := kvCells l) (by simpa using hown3)
    rw [HLen.out] at hv
    subst hv
    have HR := hide hp.kvs
    clear hown3 hgrow3 hp
    go_wp2_with fail
    go_ret
    exact ⟨a', c', rfl, HR.out, hc, hT3⟩

set_option maxRecDepth 100000 in
set_option maxHeartbeats 1600000 in
/-- A sight's scan of all. -/
theorem vscan_any {w : World} {sg : Nat} {a : Option Addr} {cap : Nat} {l : KVs} (hs : Rises (keysOf l)) (hlen : l.length ≤ 1000) (h3 : w.cell? ⟨sg, 3, none⟩ = some (.slice a l.length cap)) (hK : KVsAt w a l) (hnil : a = none → cap = 0) (hcap : l.length ≤ cap ∧ cap ≤ 9223372036854775807) :
    Calls Tryz.prog 53 #[.pointer (some ⟨sg, 0, none⟩), .string ⟨#[]⟩, .string ⟨#[]⟩, .int .i64 0] w fun e w' => ∃ a' c', e = .returned (.slice a' l.length c') ∧ KVsAt w' a' l ∧ (a' = none → c' = 0) ∧ Turn [] w w' := by
  have HF := hide (vfind_any (w := w) ⟨#[]⟩ hs (by omega) h3 hK)
  have HK := hide hK
  have hsl := lt_of_cell h3
  have H3 := hide h3
  have HC : Hid (∀ w1, Turn [] w w1 → Calls Tryz.prog 80 #[.slice a l.length cap] w1 fun e w' => ∃ a' c', e = .returned (.slice a' l.length c') ∧ KVsAt w' a' l ∧ (a' = none → c' = 0) ∧ Turn [] w1 w') := fun w1 hT => vclone_any a cap l hnil hlen w1 (hK.turn0 hT)
  have he : ((⟨#[]⟩ : ByteArray).toList == (⟨#[]⟩ : ByteArray).toList) = true := by simp
  clear hs hK
  obtain ⟨n, HLn⟩ : ∃ n, Hid (l.length = n) := ⟨_, rfl⟩
  rw [HLn.out] at hlen hcap HC h3 ⊢
  cases a with
  | none =>
    obtain rfl := hnil rfl
    obtain rfl : n = 0 := by omega
    clear hnil
    go_enter Tryz.func53, Tryz.ntmps53
    go_wp2_with fail
    refine HF.out.mono ?_
    rintro e w1 ⟨i, f, rfl, hp, _, hT1⟩
    obtain rfl := pos_empty hp
    have h31 := (hT1.cell (p := ⟨sg, 3, none⟩) hsl (by simp)).trans h3
    have HC1 := hide (HC.out w1 hT1)
    have HT1 := hide hT1
    clear hp hT1
    go_wp2_with fail
    refine HC1.out.mono ?_
    rintro e w2 ⟨a', c', rfl, h1, h2, hT2⟩
    have H1 := hide h1
    have HT2 := hide (HT1.out.trans hT2)
    clear h1 hT2
    go_wp2_with fail
    go_ret
    exact ⟨a', c', rfl, H1.out, h2, HT2.out⟩
  | some x =>
    clear hnil
    go_enter Tryz.func53, Tryz.ntmps53
    go_wp2_with fail
    refine HF.out.mono ?_
    rintro e w1 ⟨i, f, rfl, hp, _, hT1⟩
    obtain rfl := pos_empty hp
    have h31 := (hT1.cell (p := ⟨sg, 3, none⟩) hsl (by simp)).trans h3
    have HC1 := hide (HC.out w1 hT1)
    have HT1 := hide hT1
    clear hp hT1
    go_wp2_with fail
    refine HC1.out.mono ?_
    rintro e w2 ⟨a', c', rfl, h1, h2, hT2⟩
    have H1 := hide h1
    have HT2 := hide (HT1.out.trans hT2)
    clear h1 hT2
    go_wp2_with fail
    go_ret
    exact ⟨a', c', rfl, H1.out, h2, HT2.out⟩

set_option maxRecDepth 100000 in
set_option maxHeartbeats 1600000 in
theorem xscan {w : World} {O : Nat → Prop} {v : Nat} {l : KVs} (h : ViewAt w O v l) (hs : Rises (keysOf l)) (hlen : l.length ≤ 1000) :
    Calls Tryz.prog 24 #[.pointer (some ⟨v, 0, none⟩), .string ⟨#[]⟩, .string ⟨#[]⟩, .int .i64 0] w fun e w' => ∃ a' c', e = .returned (.slice a' l.length c') ∧ KVsAt w' a' l ∧ (a' = none → c' = 0) ∧ Turn [] w w' := by
  obtain ⟨sg, a, cap, h1, h3, hK, hnil, hcap, _⟩ := h.ex
  have HC := hide (vscan_any hs hlen h3 hK hnil hcap)
  clear h hs hK h3 hnil hcap
  go_enter Tryz.func24, Tryz.ntmps24
  go_wp2_with fail
  refine HC.out.mono ?_
  rintro e w2 ⟨a', c', rfl, h1, h2, hT2⟩
  have H1 := hide h1
  clear h1
  go_wp2_with fail
  go_ret
  exact ⟨a', c', rfl, H1.out, h2, hT2⟩

set_option maxRecDepth 100000 in
set_option maxHeartbeats 1600000 in
theorem vget_any {w : World} {sg : Nat} {a : Option Addr} {cap : Nat} {l : KVs} (key : ByteArray) (hs : Rises (keysOf l)) (hlen : l.length ≤ 1000) (h3 : w.cell? ⟨sg, 3, none⟩ = some (.slice a l.length cap)) (hK : KVsAt w a l) :
    Calls Tryz.prog 56 #[.pointer (some ⟨sg, 0, none⟩), .string key] w fun e w' => ∃ val f, e = .returned (.tuple #[.string val, .bool f]) ∧ Got l key val f ∧ Turn [] w w' := by
  have HF := hide (vfind_any (w := w) key hs (by omega) h3 hK)
  have HK := hide hK
  have HS := hide hs
  have hsl := lt_of_cell h3
  clear hs hK
  go_enter Tryz.func56, Tryz.ntmps56
  go_wp2_with fail
  refine HF.out.mono ?_
  rintro e w1 ⟨i, f, rfl, hp, hf, hT1⟩
  have h31 := (hT1.cell (p := ⟨sg, 3, none⟩) hsl (by simp)).trans h3
  have HT1 := hide hT1
  cases f with
  | true =>
    obtain ⟨hi, hik⟩ := hf.1 rfl
    obtain ⟨b, off, e, _, hc1⟩ := (HK.out.turn0 hT1).at hi
    have HG : Hid (Got l key l[i].2 true) := .inl ⟨rfl, i, hi, hik, rfl⟩
    subst e
    clear hf hp hT1 hik
    generalize l[i].2 = val at *
    obtain ⟨n, HLn⟩ : ∃ n, Hid (l.length = n) := ⟨_, rfl⟩
    rw [HLn.out] at h31 hi
    go_wp2_with fail
    go_ret2
    exact ⟨val, true, rfl, HG.out, HT1.out⟩
  | false =>
    have HG : Hid (Got l key ⟨#[]⟩ false) := .inr ⟨rfl, rfl, not_there HS.out hp (fun h => by have := hf.2 h; cases this)⟩
    clear hf hp hT1
    go_wp2_with fail
    go_ret2
    exact ⟨_, false, rfl, HG.out, HT1.out⟩

set_option maxRecDepth 100000 in
set_option maxHeartbeats 1600000 in
theorem xget {w : World} {O : Nat → Prop} {v : Nat} {l : KVs} (h : ViewAt w O v l) (key : ByteArray) (hs : Rises (keysOf l)) (hlen : l.length ≤ 1000) :
    Calls Tryz.prog 30 #[.pointer (some ⟨v, 0, none⟩), .string key] w fun e w' => ∃ val f, e = .returned (.tuple #[.string val, .bool f]) ∧ Got l key val f ∧ Turn [] w w' := by
  obtain ⟨sg, a, cap, h1, h3, hK, hnil, hcap, _⟩ := h.ex
  have HC := hide (vget_any key hs hlen h3 hK)
  clear h hs hK h3 hnil hcap
  go_enter Tryz.func30, Tryz.ntmps30
  go_wp2_with fail
  refine HC.out.mono ?_
  rintro e w2 ⟨val, f, rfl, hG, hT2⟩
  have HG := hide hG
  clear hG
  go_wp2_with fail
  go_ret2
  exact ⟨val, f, rfl, HG.out, hT2⟩

end Go.Proofs.YthgpjkcgccdldaaGreatDoor

namespace Go.Proofs.YthgpjkcgccdldaaGreatDoor
open Go.RowKit Go.Maps

set_option maxRecDepth 100000 in
set_option maxHeartbeats 800000 in
theorem xcommits {w : World} {O : Nat → Prop} {st N c vw : Nat} {fs : Bool} {tx : Option Nat} {did : Nat} {ch : Bool} {l : KVs} (h : StoreOk w O st N c vw fs tx did ch l) (_hc : c ≤ 1000) :
    Calls Tryz.prog 29 #[.pointer (some ⟨st, 0, none⟩)] w fun e w' => e = .returned (.int .i64 (c : Nat)) ∧ w' = w := by
  obtain ⟨OT, t, p, sg, h⟩ := h
  have HL := hide (aload h.obj.c3)
  clear h
  go_enter Tryz.func29, Tryz.ntmps29
  go_wp2_with fail
  refine HL.out.mono ?_
  rintro e w1 ⟨rfl, rfl⟩
  go_wp2_with fail
  go_ret
  exact ⟨rfl, rfl⟩

set_option maxRecDepth 100000 in
set_option maxHeartbeats 1600000 in
theorem committed_any {w : World} {O OT : Nat → Prop} {st t p sg N c vw : Nat} {fs : Bool} {did : Nat} {ch : Bool} {l : KVs} (h : StoreIn w O OT st t p sg N c vw fs none did ch l) :
    Calls Tryz.prog 52 #[.pointer (some ⟨st, 0, none⟩)] w fun e w' => ∃ r, e = .returned r ∧ w'.ownsRow w.heap.size 55 2 r l.length (flat (kvCells l)) ∧ StoreIn w' O OT st t p sg N c vw fs none did ch l ∧ Keep OT w w' := by
  have h1 := h.obj.c1
  have HC := hide (ok_scan h.tree)
  have H := hide h
  clear h
  go_enter Tryz.func52, Tryz.ntmps52
  go_wp2_with fail
  refine HC.out.mono ?_
  rintro e w1 ⟨r, rfl, hO, hT1, hK1⟩
  have h1' := H.out.tree' hK1 hT1
  have h21 : w1.cell? ⟨st, 2, none⟩ = some (.pointer none) := h1'.obj.c2
  obtain ⟨ra, rc, rfl⟩ := own_form hO
  have H1 := hide h1'
  have HO := hide hO
  have HK1 := hide hK1
  clear hO hT1 hK1 h1'
  go_wp2_with fail
  go_ret
  exact ⟨_, rfl, HO.out, H1.out, HK1.out⟩

/-- A view stays where nothing of O turns. -/
theorem ViewAt.keep {w w' : World} {O O' : Nat → Prop} {v : Nat} {l : KVs} (h : ViewAt w O v l) (hK : Keep O w w') (hob : ∀ x, O x → x < w.heap.size) (hO : ∀ x, O x → O' x) : ViewAt w' O' v l := by
  obtain ⟨⟨sg, a, cap, h1, h3, hk, hn, hc, ho, hx⟩, hv⟩ := h
  obtain ⟨X, hT, hX⟩ := hK
  have hno : ∀ x, O x → x ∉ X := fun x ho hm => (hX x hm).1 ho
  exact ⟨⟨sg, a, cap, (hT.cell (p := ⟨v, 1, none⟩) (hob v hv) (hno v hv)).trans h1, (hT.cell (p := ⟨sg, 3, none⟩) (hob sg ho) (hno sg ho)).trans h3, hk.turn hT (fun x hl hxx => hno _ (hx x hl hxx)), hn, hc, hO sg ho, fun x hl hxx => hO _ (hx x hl hxx)⟩, hO v hv⟩

end Go.Proofs.YthgpjkcgccdldaaGreatDoor

namespace Go.Proofs.YthgpjkcgccdldaaGreatDoor
open Go.RowKit Go.Maps

set_option maxRecDepth 100000 in
set_option maxHeartbeats 4000000 in
theorem sslow (sg sb vb : Nat) (w : World) (R : World → Prop) (h0 : w.cell? ⟨sg, 0, none⟩ = some (.int .u32 0)) (h1 : w.cell? ⟨sg, 1, none⟩ = some (.int .i32 0)) (hf : ∀ o, w.frozen? ⟨sg, o, none⟩ = false)
    (hF : Calls Tryz.prog 51 #[.pointer (some ⟨sb, 0, none⟩), .pointer (some ⟨vb, 0, none⟩)] (w.setCell ⟨sg, 1, none⟩ (.int .i32 1)) fun e w2 => e = .returned (.tuple #[]) ∧ R w2 ∧ w2.cell? ⟨sg, 0, none⟩ = some (.int .u32 0) ∧ w2.cell? ⟨sg, 1, none⟩ = some (.int .i32 1) ∧ ∀ o, w2.frozen? ⟨sg, o, none⟩ = false) :
    Calls Tryz.prog 77 #[.pointer (some ⟨sg, 0, none⟩), .func (.func 51) #[] #[.pointer (some ⟨sb, 0, none⟩), .pointer (some ⟨vb, 0, none⟩)]] w fun e w' => e = .returned (.tuple #[]) ∧ ∃ w2, R w2 ∧ w2.cell? ⟨sg, 0, none⟩ = some (.int .u32 0) ∧ w2.cell? ⟨sg, 1, none⟩ = some (.int .i32 1) ∧ w' = ((w2.setCell ⟨sg, 0, none⟩ (.int .u32 1)).drew).setCell ⟨sg, 1, none⟩ (.int .i32 0) := by
  have f0 := hf 0
  have f1 := hf 1
  have h01 : (w.setCell ⟨sg, 1, none⟩ (.int .i32 1)).cell? ⟨sg, 0, none⟩ = some (.int .u32 0) := (World.cell?_setCell_other _ _ _ _ (off_ne (by omega))).trans h0
  have hl := run_call_load (P := Tryz.prog) Tryz.func107 (by kernel_rfl) (by kernel_rfl) (by kernel_rfl) .u32 (by kernel_rfl) h01
  have hnot : ∀ (x : Bool) (w : World), (Op.unary .not (.bool x)).run Tryz.prog w = .ok (.bool (!x)) w := fun _ _ => rfl
  have HF := hide hF
  clear hF hf
  go_enter_defers Tryz.func77, Tryz.ntmps77
  go_wp2_with (first | (go_at_call 108; refine (Sm.lock_free ⟨sg, 1, none⟩ _ (by go_simp) (by go_simp)).mono ?_; rintro e w' ⟨rfl, rfl⟩) | (go_at_call 51; refine HF.out.mono ?_; rintro e w2 ⟨rfl, hR, k0, k1, kf⟩; have HR := hide hR; have HK := hide kf; clear hR kf) | (go_at_call 76; go_in))
  refine leaves_cons (f := 110) (args := #[.pointer (some ⟨sg, 0, none⟩), .bool true]) (by simp) (by simp [go_sem]) ?_
  refine (Sm.store_deferred ⟨sg, 0, none⟩ (.int .u32 0) .returning _ k0 (HK.out 0)).mono ?_
  rintro e u' w'' ⟨rfl, rfl, rfl⟩
  have hc3' : ((w2.setCell ⟨sg, 0, none⟩ (.int .u32 1)).drew).cell? ⟨sg, 1, none⟩ = some (.int .i32 1) := (World.cell?_setCell_other _ _ _ _ (off_ne (by omega))).trans k1
  have hf3' : ((w2.setCell ⟨sg, 0, none⟩ (.int .u32 1)).drew).frozen? ⟨sg, 1, none⟩ = false := (World.frozen?_setCell ..).trans (HK.out 1)
  refine leaves_cons (f := 109) (args := #[.pointer (some ⟨sg, 1, none⟩)]) (by simp [settle]) (by simp [go_sem]) ?_
  refine (Sm.unlock_deferred ⟨sg, 1, none⟩ _ _ hc3' hf3').mono ?_
  rintro e u' w'' ⟨rfl, rfl, rfl⟩
  simp [Leaves, settle, results, Tryz.results77]
  exact ⟨w2, HR.out, k0, k1, rfl⟩

set_option maxHeartbeats 1600000 in
set_option maxRecDepth 100000 in
theorem sdo (sg sb vb : Nat) (w : World) (R : World → Prop) (h0 : w.cell? ⟨sg, 0, none⟩ = some (.int .u32 0)) (h1 : w.cell? ⟨sg, 1, none⟩ = some (.int .i32 0)) (hf : ∀ o, w.frozen? ⟨sg, o, none⟩ = false)
    (hF : Calls Tryz.prog 51 #[.pointer (some ⟨sb, 0, none⟩), .pointer (some ⟨vb, 0, none⟩)] (w.setCell ⟨sg, 1, none⟩ (.int .i32 1)) fun e w2 => e = .returned (.tuple #[]) ∧ R w2 ∧ w2.cell? ⟨sg, 0, none⟩ = some (.int .u32 0) ∧ w2.cell? ⟨sg, 1, none⟩ = some (.int .i32 1) ∧ ∀ o, w2.frozen? ⟨sg, o, none⟩ = false) :
    Calls Tryz.prog 50 #[.pointer (some ⟨sg, 0, none⟩), .func (.func 51) #[] #[.pointer (some ⟨sb, 0, none⟩), .pointer (some ⟨vb, 0, none⟩)]] w fun e w' => e = .returned (.tuple #[]) ∧ ∃ w2, R w2 ∧ w2.cell? ⟨sg, 0, none⟩ = some (.int .u32 0) ∧ w2.cell? ⟨sg, 1, none⟩ = some (.int .i32 1) ∧ w' = ((w2.setCell ⟨sg, 0, none⟩ (.int .u32 1)).drew).setCell ⟨sg, 1, none⟩ (.int .i32 0) := by
  have hl := run_call_load (P := Tryz.prog) Tryz.func107 (by kernel_rfl) (by kernel_rfl) (by kernel_rfl) .u32 (by kernel_rfl) h0
  have hnot : ∀ (x : Bool) (w : World), (Op.unary .not (.bool x)).run Tryz.prog w = .ok (.bool (!x)) w := fun _ _ => rfl
  have HC := hide (sslow sg sb vb w R h0 h1 hf hF)
  clear hF hf
  go_enter Tryz.func50, Tryz.ntmps50
  go_wp2_with (first | (go_at_call 77; refine HC.out.mono ?_; rintro e w' ⟨rfl, hR⟩; have HR := hide hR; clear hR) | (go_at_call 76; go_in))
  go_end0
  exact ⟨rfl, HR.out⟩

end Go.Proofs.YthgpjkcgccdldaaGreatDoor

namespace Go.Proofs.YthgpjkcgccdldaaGreatDoor
open Go.RowKit Go.Maps

set_option maxRecDepth 100000 in
set_option maxHeartbeats 4000000 in
theorem look1 (st sg v sb vb n : Nat) (w : World) (R : Option Addr → Nat → World → Prop)
    (hR : ∀ u, Turn [] w u → Calls Tryz.prog 52 #[.pointer (some ⟨st, 0, none⟩)] u fun e w2 => ∃ ra rc, e = .returned (.slice ra n rc) ∧ R ra rc w2 ∧ (w2.cell? ⟨vb, 0, none⟩ = some (.pointer (some ⟨v, 0, none⟩)) ∧ w2.cell? ⟨v, 1, none⟩ = some (.pointer (some ⟨sg, 0, none⟩)) ∧ (∃ x, w2.cell? ⟨sg, 3, none⟩ = some x) ∧ w2.frozen? ⟨sg, 3, none⟩ = false))
    (hs : w.cell? ⟨sb, 0, none⟩ = some (.pointer (some ⟨st, 0, none⟩))) (hv : w.cell? ⟨vb, 0, none⟩ = some (.pointer (some ⟨v, 0, none⟩))) (h1 : w.cell? ⟨v, 1, none⟩ = some (.pointer (some ⟨sg, 0, none⟩))) :
    Calls Tryz.prog 51 #[.pointer (some ⟨sb, 0, none⟩), .pointer (some ⟨vb, 0, none⟩)] w fun e w' => e = .returned (.tuple #[]) ∧ ∃ ra rc w2, R ra rc w2 ∧ (w' = w2.setCell ⟨sg, 3, none⟩ (.slice ra n rc) ∨ w' = (w2.drew).setCell ⟨sg, 3, none⟩ (.slice ra n rc)) := by
  have HR := hide hR
  clear hR
  go_enter Tryz.func51, Tryz.ntmps51
  go_region_with (go_at_call 52; refine (HR.out _ (by first | exact Turn.refl _ _ | exact (Turn.refl _ _).drew | exact ((Turn.refl _ _).drew).drew)).mono ?_; rintro e w2 ⟨ra, rc, rfl, hR2, k0, k1, ⟨x, k3⟩, kf⟩; have HR2 := hide hR2; clear hR2)
  all_goals go_end0
  all_goals exact ⟨rfl, _, _, _, HR2.out, by first | exact .inl rfl | exact .inr rfl⟩

end Go.Proofs.YthgpjkcgccdldaaGreatDoor

namespace Go.Proofs.YthgpjkcgccdldaaGreatDoor
open Go.RowKit Go.Maps

/-- O, and all that has been made since. -/
def New (O : Nat → Prop) (w w' : World) : Nat → Prop := fun x => O x ∨ (w.heap.size ≤ x ∧ x < w'.heap.size)

theorem Core.new {w w' : World} {O : Nat → Prop} {t p b m sm rb : Nat} {s : St} {q : Pg} {D S : Stt} {N c : Nat} {kp : Option Nat} {l : KVs} (h : Core w O t p b m sm rb s q D S N c kp l) (h' : Core w' O t p b m sm rb s q D S N c kp l) (hs : Shape w' (New O w w') [1, t, p, b, m, sm, rb] S kp l) (hz : w.heap.size ≤ w'.heap.size) : Core w' (New O w w') t p b m sm rb s q D S N c kp l :=
  ⟨h'.pa, h'.tr, h'.off, h'.rbl, h'.sd, h'.sl, h'.sn, h'.sk, h'.cl, h'.qd, h'.qu, h'.qc, h'.qs, h'.qK, fun x hx ho => by
    rcases ho with ho | ho
    · exact h.no x hx ho
    · have := h.lts x hx
      omega, fun x hx => by
    rcases hx with hx | hx
    · exact Nat.lt_of_lt_of_le (h.ob x hx) hz
    · exact hx.2, h'.keys, h'.tiny, hs⟩

theorem ok_scan_new {w : World} {O : Nat → Prop} {t p N c : Nat} {ch : Bool} {l : KVs} (h : TreeOk w O t p N c ch l) :
    Calls Tryz.prog 49 #[.pointer (some ⟨t, 0, none⟩), .string ⟨#[]⟩, .string ⟨#[]⟩, .int .i64 0] w fun e w' => ∃ r, e = .returned r ∧ w'.ownsRow w.heap.size 55 2 r l.length (flat (kvCells l)) ∧ TreeOk w' (New O w w') t p N c ch l ∧ Keep O w w' := by
  obtain ⟨b, m, sm, rb, s, q, D, S, kp, h, hch⟩ := h
  have hlen := h.tiny.len
  have hnew : ∀ (w' : World) (x : Nat), x < w.heap.size → ¬ O x → ¬ New O w w' x := fun w' x hx hn ho => by
    rcases ho with ho | ho
    · exact hn ho
    · omega
  have hgen : ∀ (a pg : Nat) (d : Int) (bb off cap : Nat), S.root = some a → l ≠ [] → LeafAt w a pg d bb off cap l → ¬ O a → a ∉ [1, t, p, b, m, sm, rb] → bb ≠ a → (∀ w', Turn [a] w w' → LeafAt w' a pg 1 bb off cap l → Shape w' O [1, t, p, b, m, sm, rb] S kp l ∧ Shape w' (New O w w') [1, t, p, b, m, sm, rb] S kp l) → Calls Tryz.prog 49 #[.pointer (some ⟨t, 0, none⟩), .string ⟨#[]⟩, .string ⟨#[]⟩, .int .i64 0] w fun e w' => ∃ r, e = .returned r ∧ w'.ownsRow w.heap.size 55 2 r l.length (flat (kvCells l)) ∧ TreeOk w' (New O w w') t p N c ch l ∧ Keep O w w' := fun a pg d bb off cap hr hl hL ho haB hba hsh => by
    refine (scan_gen t p D S [a] l (fun w' => LeafAt w' a pg 1 bb off cap l) (by simp; intro e; exact haB (by simp [e])) w h.tr ?_).mono ?_
    · intro W fb hb lb r hTW hF hh hl'
      rw [show rootV S.root = .pointer (some ⟨a, 0, none⟩) from by rw [hr]; rfl]
      exact walk_leaf w t a pg d bb off cap l h.tiny.rises (by omega) (List.length_pos_iff.2 hl) ⟨hba, hL.kv.lt ⟨bb, off, none⟩ hl rfl, hL.place.lt⟩ fb hb lb hh hl' r W ⟨hL.place.turn hTW (by simp), hL.d01, hL.kv.turn0 hTW, hL.cap⟩ hF
    · rintro e w' ⟨r, rfl, hO, hL', hT'⟩
      have hs := hsh w' hT' hL'
      exact ⟨r, rfl, hO, ⟨b, m, sm, rb, s, q, D, S, kp, h.new (h.seen hr hT' hL' haB hs.1) hs.2 hT'.size, hch⟩, Keep.of hT' (by simp; exact ⟨ho, fun e => haB (by simp [e])⟩)⟩
  cases h.shape with
  | old a pg d bb off cap hr hf hd hp hk hl hL ho hB =>
    exact hgen a pg d bb off cap hr hl hL ho.1 hB.1 hB.2.2 fun w' hT' hL' => ⟨.old a pg 1 bb off cap hr hf hd hp hk hl hL' ho hB, .old a pg 1 bb off cap hr hf hd hp hk hl hL' ⟨hnew w' a hL.place.lt ho.1, hnew w' bb (hL.kv.lt ⟨bb, off, none⟩ hl rfl) ho.2⟩ hB⟩
  | new a d bb off cap hr hf hd hl hL ho hB =>
    exact hgen a 0 d bb off cap hr hl hL ho.1 hB.1 hB.2.2 fun w' hT' hL' => ⟨.new a 1 bb off cap hr hf (hd.turn hT' (fun g _ h1 h2 => ⟨by simp; intro e; exact h2 (by simp [e]), h1, h2⟩)) hl hL' ho hB, .new a 1 bb off cap hr hf (hd.turn hT' (fun g hg h1 h2 => ⟨by simp; intro e; exact h2 (by simp [e]), hnew w' g hg h1, h2⟩)) hl hL' ⟨hnew w' a hL.place.lt ho.1, hnew w' bb (hL.kv.lt ⟨bb, off, none⟩ hl rfl) ho.2⟩ hB⟩
  | gone hr hf hd hl =>
    subst hl
    refine (scan_gen t p D S [] [] (fun _ => True) (by simp) w h.tr ?_).mono ?_
    · intro W fb hb lb r hTW hF hh hl'
      rw [show rootV S.root = .pointer none from by rw [hr]; rfl]
      refine (walk_nil w [] t fb hb lb r W hF).mono ?_
      rintro e w' ⟨rfl, hF'⟩
      exact ⟨rfl, trivial, r, hF'⟩
    · rintro e w' ⟨r, rfl, hO, _, hT'⟩
      refine ⟨r, rfl, hO, TreeOk.turn ⟨b, m, sm, rb, s, q, D, S, kp, h, hch⟩ hT' (by simp) (fun x hx => ?_) (fun x hx => ?_), Keep.of hT' (by simp)⟩
      · rcases hx with hx | hx
        · exact .inl hx
        · exact .inr hx.1
      · rcases hx with hx | hx
        · exact Nat.lt_of_lt_of_le (h.ob x hx) hT'.size
        · exact hx.2

end Go.Proofs.YthgpjkcgccdldaaGreatDoor

namespace Go.Proofs.YthgpjkcgccdldaaGreatDoor
open Go.RowKit Go.Maps

theorem StoreIn.treeN {w w' : World} {O OT : Nat → Prop} {st t p sg N c vw : Nat} {fs : Bool} {did : Nat} {ch : Bool} {l : KVs} (h : StoreIn w O OT st t p sg N c vw fs none did ch l) (hK : Keep OT w w') (hT : TreeOk w' (New OT w w') t p N c ch l) : StoreIn w' O (New OT w w') st t p sg N c vw fs none did ch l :=
  ⟨hT, h.obj.same (hK.block h.ost h.obj.lt), fun hf => ⟨(h.sight hf).1.same (hK.block (h.sight hf).2.1 (h.sight hf).1.lt), .inl (h.sight hf).2.1, (h.sight hf).2.2⟩, fun x hx => .inl (h.sub x hx), .inl h.ost, h.nst, h.ne, trivial, fun x hx => by
    rcases hx with hx | hx
    · exact Nat.lt_of_lt_of_le (h.ob x hx) hK.size
    · exact hx.2, Nat.lt_of_lt_of_le h.sgl hK.size⟩

theorem StoreIn.wide {w w' : World} {O OT : Nat → Prop} {st t p sg N c vw : Nat} {fs : Bool} {did : Nat} {ch : Bool} {l : KVs} (h : StoreIn w O OT st t p sg N c vw fs none did ch l) (hT : Turn [] w w') (A : Nat → Prop) (hA : ∀ x, A x → w.heap.size ≤ x ∧ x < w'.heap.size) : StoreIn w' O (fun x => OT x ∨ A x) st t p sg N c vw fs none did ch l := by
  have h0 := h.turn0 hT
  refine ⟨h.tree.turn hT (by simp) (fun x hx => hx.elim .inl (fun a => .inr (hA x a).1)) (fun x hx => hx.elim (fun o => Nat.lt_of_lt_of_le (h.ob x o) hT.size) (fun a => (hA x a).2)), h0.obj, fun hf => ⟨(h0.sight hf).1, .inl (h0.sight hf).2.1, (h0.sight hf).2.2⟩, fun x hx => .inl (h.sub x hx), .inl h.ost, h.nst, h.ne, trivial, fun x hx => hx.elim (fun o => Nat.lt_of_lt_of_le (h.ob x o) hT.size) (fun a => (hA x a).2), h0.sgl⟩

/-- Blocks of the store's own turn, or such as stand beside it. -/
theorem StoreIn.own {X : List Nat} {w w' : World} {O OT : Nat → Prop} {st t p sg N c vw : Nat} {fs : Bool} {did : Nat} {ch : Bool} {l : KVs} (h : StoreIn w O OT st t p sg N c vw fs none did ch l) (hT : Turn X w w') (hX : ∀ x ∈ X, OT x ∧ x ≠ st) (hf : fs = true → sg ∉ X) : StoreIn w' O OT st t p sg N c vw fs none did ch l :=
  ⟨h.tree.turn hT (fun x hx => (hX x hx).1) (fun _x hx => .inl hx) (fun x hx => Nat.lt_of_lt_of_le (h.ob x hx) hT.size), h.obj.same (hT.block st h.obj.lt (fun hm => (hX st hm).2 rfl)), fun e => ⟨(h.sight e).1.same (hT.block sg h.sgl (hf e)), (h.sight e).2⟩, h.sub, h.ost, h.nst, h.ne, trivial, fun x hx => Nat.lt_of_lt_of_le (h.ob x hx) hT.size, Nat.lt_of_lt_of_le h.sgl hT.size⟩

theorem StoreIn.seen {w : World} {O OT : Nat → Prop} {st t p sg N c vw : Nat} {fs : Bool} {tx : Option Nat} {did : Nat} {ch : Bool} {l : KVs} (h : StoreIn w O OT st t p sg N c vw fs tx did ch l) : StoreIn w O OT st t p sg N c vw false tx did ch l :=
  ⟨h.tree, h.obj, fun e => (by cases e), h.sub, h.ost, h.nst, h.ne, h.txp, h.ob, h.sgl⟩

/-- One more view is counted. -/
theorem StoreIn.count {w : World} {O OT : Nat → Prop} {st t p sg N c vw : Nat} {fs : Bool} {did : Nat} {ch : Bool} {l : KVs} (h : StoreIn w O OT st t p sg N c vw fs none did ch l) : StoreIn (w.setCell ⟨st, 4, none⟩ (.int .i64 ((vw : Int) + 1))) O OT st t p sg N c (vw + 1) fs none did ch l := by
  have hT : Turn [st] w (w.setCell ⟨st, 4, none⟩ (.int .i64 ((vw : Int) + 1))) := (Turn.refl [st] w).setCell (List.mem_singleton.2 rfl) 4 _
  exact ⟨h.tree.turn hT (fun x hx => by simp at hx; subst hx; exact h.ost) (fun x hx => .inl hx) (fun x hx => Nat.lt_of_lt_of_le (h.ob x hx) hT.size), h.obj.set (vw' := vw + 1) 4 _ (by omega) rfl rfl (by simp) rfl, fun hf => ⟨(h.sight hf).1.same (hT.block sg h.sgl (by simp; exact h.ne.symm)), (h.sight hf).2⟩, h.sub, h.ost, h.nst, h.ne, trivial, fun x hx => Nat.lt_of_lt_of_le (h.ob x hx) hT.size, Nat.lt_of_lt_of_le h.sgl hT.size⟩

set_option maxRecDepth 100000 in
set_option maxHeartbeats 1600000 in
theorem committed_new {w : World} {O OT : Nat → Prop} {st t p sg N c vw : Nat} {fs : Bool} {did : Nat} {ch : Bool} {l : KVs} (h : StoreIn w O OT st t p sg N c vw fs none did ch l) :
    Calls Tryz.prog 52 #[.pointer (some ⟨st, 0, none⟩)] w fun e w' => ∃ ra rc, e = .returned (.slice ra l.length rc) ∧ w'.ownsRow w.heap.size 55 2 (.slice ra l.length rc) l.length (flat (kvCells l)) ∧ StoreIn w' O (New OT w w') st t p sg N c vw fs none did ch l ∧ Keep OT w w' := by
  have h1 := h.obj.c1
  have HC := hide (ok_scan_new h.tree)
  have H := hide h
  clear h
  go_enter Tryz.func52, Tryz.ntmps52
  go_wp2_with fail
  refine HC.out.mono ?_
  rintro e w1 ⟨r, rfl, hO, hT1, hK1⟩
  have h1' := H.out.treeN hK1 hT1
  have h21 : w1.cell? ⟨st, 2, none⟩ = some (.pointer none) := h1'.obj.c2
  obtain ⟨ra, rc, rfl⟩ := own_form hO
  have H1 := hide h1'
  have HO := hide hO
  have HK1 := hide hK1
  clear hO hT1 hK1 h1'
  go_wp2_with fail
  go_ret
  exact ⟨ra, rc, rfl, HO.out, H1.out, HK1.out⟩

/-- A row of pairs of the call's own, as a slice, with its bounds. -/
theorem own_bounds {w : World} {base n : Nat} {a : Option Addr} {cap : Nat} {l : List (Value × Value)} (h : w.ownsRow base 55 2 (.slice a n cap) n (flat l)) : (n ≤ cap ∧ cap ≤ 9223372036854775807) ∧ (a = none → cap = 0) ∧ PairsAt w a l ∧ ∀ x, a = some x → base ≤ x.block ∧ x.block < w.heap.size := by
  obtain ⟨a', cap', e, hn, h1, h2, h3⟩ := own_pairs h
  injection e with e1 e2 e3
  subst e1 e3
  refine ⟨?_, h1, h2, h3⟩
  obtain ⟨_, ⟨e, h0⟩ | ⟨g, cap', cur, e, _, _, hnc, hm, _⟩⟩ := h
  · injection e with e1 e2 e3
    omega
  · injection e with e1 e2 e3
    unfold maxLen at hm
    omega

set_option maxRecDepth 100000 in
set_option maxHeartbeats 1600000 in
theorem see_once {w : World} {O OT : Nat → Prop} {st t p sg N c vw : Nat} {did : Nat} {ch : Bool} {l : KVs} (h : StoreIn w O OT st t p sg N c vw true none did ch l) (sb v vb : Nat) (ho : OT sb ∧ OT v ∧ OT vb) (hn : v ≠ sg ∧ vb ≠ sg ∧ sb ≠ sg ∧ v ≠ st) (hS : w.cell? ⟨sb, 0, none⟩ = some (.pointer (some ⟨st, 0, none⟩))) (hB : w.cell? ⟨vb, 0, none⟩ = some (.pointer (some ⟨v, 0, none⟩))) (hV : w.cell? ⟨v, 1, none⟩ = some (.pointer (some ⟨sg, 0, none⟩))) (hov : ¬ O v) :
    Calls Tryz.prog 50 #[.pointer (some ⟨sg, 0, none⟩), .func (.func 51) #[] #[.pointer (some ⟨sb, 0, none⟩), .pointer (some ⟨vb, 0, none⟩)]] w fun e w' => e = .returned (.tuple #[]) ∧ ∃ O', StoreOk w' O' st N c vw false none did ch l ∧ ViewAt w' (fun y => O' y ∧ ¬ O y) v l ∧ Keep O w w' ∧ (∀ x, O x → O' x) ∧ (∀ x, O' x → x < w'.heap.size) ∧ w'.cell? ⟨vb, 0, none⟩ = some (.pointer (some ⟨v, 0, none⟩)) := by
  obtain ⟨hsi, hso, hsn⟩ := h.sight rfl
  have hT4 : Turn [sg] w (w.setCell ⟨sg, 1, none⟩ (.int .i32 1)) := (Turn.refl [sg] w).setCell (List.mem_singleton.2 rfl) 1 _
  have h4 := h.seen.own hT4 (fun x hx => by simp at hx; subst hx; exact ⟨hso, h.ne.symm⟩) (fun e => nomatch e)
  have g0 : (w.setCell ⟨sg, 1, none⟩ (.int .i32 1)).cell? ⟨sg, 0, none⟩ = some (.int .u32 0) := (World.cell?_setCell_other _ _ _ _ (off_ne (by omega))).trans hsi.c0
  have g1 : (w.setCell ⟨sg, 1, none⟩ (.int .i32 1)).cell? ⟨sg, 1, none⟩ = some (.int .i32 1) := World.cell?_setCell_same _ _ _ hsi.c1
  have g3 : (w.setCell ⟨sg, 1, none⟩ (.int .i32 1)).cell? ⟨sg, 3, none⟩ = some (.slice none 0 0) := (World.cell?_setCell_other _ _ _ _ (off_ne (by omega))).trans hsi.c3
  have gf : ∀ o, (w.setCell ⟨sg, 1, none⟩ (.int .i32 1)).frozen? ⟨sg, o, none⟩ = false := fun o => (World.frozen?_setCell ..).trans (hsi.fz o)
  have gS := (hT4.cell (p := ⟨sb, 0, none⟩) (lt_of_cell hS) (by simp; exact hn.2.2.1)).trans hS
  have gB := (hT4.cell (p := ⟨vb, 0, none⟩) (lt_of_cell hB) (by simp; exact hn.2.1)).trans hB
  have gV := (hT4.cell (p := ⟨v, 1, none⟩) (lt_of_cell hV) (by simp; exact hn.1)).trans hV
  have hcell : ∀ (u w5 : World), Turn [] (w.setCell ⟨sg, 1, none⟩ (.int .i32 1)) u → Keep OT u w5 → ∀ x, OT x → x < (w.setCell ⟨sg, 1, none⟩ (.int .i32 1)).heap.size → w5.heap[x]? = (w.setCell ⟨sg, 1, none⟩ (.int .i32 1)).heap[x]? := fun u w5 hu hK x hx hl => (hK.block hx (Nat.lt_of_lt_of_le hl hu.size)).trans (hu.block x hl (by simp))
  have hl4 : w.heap.size ≤ (w.setCell ⟨sg, 1, none⟩ (.int .i32 1)).heap.size := hT4.size
  generalize hW : w.setCell ⟨sg, 1, none⟩ (.int .i32 1) = W at *
  have hR := look1 st sg v sb vb l.length W (fun ra rc w5 => ∃ u, Turn [] W u ∧ w5.ownsRow u.heap.size 55 2 (.slice ra l.length rc) l.length (flat (kvCells l)) ∧ StoreIn w5 O (New OT u w5) st t p sg N c vw false none did ch l ∧ Keep OT u w5) (fun u hu => by
    refine (committed_new (h4.turn0 hu)).mono ?_
    rintro e w5 ⟨ra, rc, rfl, hO, hS5, hK5⟩
    have hc := hcell u w5 hu hK5
    exact ⟨ra, rc, rfl, ⟨u, hu, hO, hS5, hK5⟩, (World.cell?_of_block (a := ⟨vb, 0, none⟩) (hc vb ho.2.2 (lt_of_cell gB))).trans gB, (World.cell?_of_block (a := ⟨v, 1, none⟩) (hc v ho.2.1 (lt_of_cell gV))).trans gV, ⟨_, (World.cell?_of_block (a := ⟨sg, 3, none⟩) (hc sg hso (lt_of_cell g3))).trans g3⟩, (World.frozen?_of_block (a := ⟨sg, 3, none⟩) (hc sg hso (lt_of_cell g3))).trans (gf 3)⟩) gS gB gV
  have hF := hR.mono (R' := fun e w6 => e = .returned (.tuple #[]) ∧ (∃ ra rc w5, (∃ u, Turn [] W u ∧ w5.ownsRow u.heap.size 55 2 (.slice ra l.length rc) l.length (flat (kvCells l)) ∧ StoreIn w5 O (New OT u w5) st t p sg N c vw false none did ch l ∧ Keep OT u w5) ∧ (w6 = w5.setCell ⟨sg, 3, none⟩ (.slice ra l.length rc) ∨ w6 = (w5.drew).setCell ⟨sg, 3, none⟩ (.slice ra l.length rc))) ∧ w6.cell? ⟨sg, 0, none⟩ = some (.int .u32 0) ∧ w6.cell? ⟨sg, 1, none⟩ = some (.int .i32 1) ∧ ∀ o, w6.frozen? ⟨sg, o, none⟩ = false) (by
    rintro e w6 ⟨rfl, ra, rc, w5, ⟨u, hu, hO, hS5, hK5⟩, hw⟩
    have hc := hcell u w5 hu hK5 sg hso (lt_of_cell g3)
    have c0 := (World.cell?_of_block (a := ⟨sg, 0, none⟩) hc).trans g0
    have c1 := (World.cell?_of_block (a := ⟨sg, 1, none⟩) hc).trans g1
    have cf : ∀ o, w5.frozen? ⟨sg, o, none⟩ = false := fun o => (World.frozen?_of_block (a := ⟨sg, o, none⟩) hc).trans (gf o)
    refine ⟨rfl, ⟨ra, rc, w5, ⟨u, hu, hO, hS5, hK5⟩, hw⟩, ?_, ?_, ?_⟩
    · rcases hw with rfl | rfl
      · exact (World.cell?_setCell_other _ _ _ _ (off_ne (by omega))).trans c0
      · exact (World.cell?_setCell_other _ _ _ _ (off_ne (by omega))).trans c0
    · rcases hw with rfl | rfl
      · exact (World.cell?_setCell_other _ _ _ _ (off_ne (by omega))).trans c1
      · exact (World.cell?_setCell_other _ _ _ _ (off_ne (by omega))).trans c1
    · rcases hw with rfl | rfl
      · exact fun o => (World.frozen?_setCell ..).trans (cf o)
      · exact fun o => (World.frozen?_setCell ..).trans (cf o))
  refine (sdo sg sb vb w _ hsi.c0 hsi.c1 hsi.fz (by rw [hW]; exact hF)).mono ?_
  rintro e w' ⟨rfl, x, ⟨ra, rc, w5, ⟨u, hu, hO, hS5, hK5⟩, hw⟩, x0, x1, hw'⟩
  have hc := hcell u w5 hu hK5
  have hxT : Turn [sg] w5 x := by
    rcases hw with rfl | rfl
    · exact (Turn.refl _ _).setCell (List.mem_singleton.2 rfl) 3 _
    · exact ((Turn.refl _ _).drew).setCell (List.mem_singleton.2 rfl) 3 _
  have hx3 : x.cell? ⟨sg, 3, none⟩ = some (.slice ra l.length rc) := by
    have c3 := (World.cell?_of_block (a := ⟨sg, 3, none⟩) (hc sg hso (lt_of_cell g3))).trans g3
    rcases hw with rfl | rfl
    · exact World.cell?_setCell_same _ _ _ c3
    · exact World.cell?_setCell_same _ _ _ c3
  have hT5 : Turn [sg] w5 w' := by
    rw [hw']
    exact ((hxT.setCell (List.mem_singleton.2 rfl) 0 _).drew).setCell (List.mem_singleton.2 rfl) 1 _
  have h3' : w'.cell? ⟨sg, 3, none⟩ = some (.slice ra l.length rc) := by
    rw [hw']
    exact (World.cell?_setCell_other _ _ _ _ (off_ne (by omega))).trans ((World.cell?_setCell_other _ _ _ _ (off_ne (by omega))).trans hx3)
  clear hw hw' hF hR hxT hx3 x0 x1
  obtain ⟨hb, hnil, hP, hx⟩ := own_bounds hO
  have hus := hu.size
  have hsgl := h.sgl
  have hstl := h.obj.lt
  have hvl := lt_of_cell gV
  have h6 := hS5.own hT5 (fun y hy => by simp at hy; subst hy; exact ⟨.inl hso, h.ne.symm⟩) (fun e => nomatch e)
  have hsub : ∀ y, (O y ∨ y = sg ∨ y = v ∨ ∃ z, ra = some z ∧ y = z.block) → New OT u w5 y := fun y hy => by
    rcases hy with hy | rfl | rfl | ⟨z, hz, rfl⟩
    · exact .inl (h.sub y hy)
    · exact .inl hso
    · exact .inl ho.2.1
    · exact .inr (hx z hz)
  refine ⟨rfl, fun y => O y ∨ y = sg ∨ y = v ∨ ∃ z, ra = some z ∧ y = z.block, ⟨New OT u w5, t, p, sg, ⟨h6.tree, h6.obj, (fun e => nomatch e), hsub, h6.ost, ?_, h6.ne, trivial, h6.ob, h6.sgl⟩⟩, ⟨⟨sg, ra, rc, ?_, h3', ?_, hnil, hb, ⟨.inr (.inl rfl), hsn⟩, fun z _ hz => ⟨.inr (.inr (.inr ⟨z, hz, rfl⟩)), fun hy => by have := h.ob _ (h.sub _ hy); have := (hx z hz).1; omega⟩⟩, ⟨.inr (.inr (.inl rfl)), hov⟩⟩, ?_, fun y hy => .inl hy, fun y hy => h6.ob y (hsub y hy), ?_⟩
  · rintro (hy | hy | hy | ⟨z, hz, hy⟩)
    · exact h.nst hy
    · exact h.ne hy
    · exact hn.2.2.2 hy.symm
    · have := (hx z hz).1
      omega
  · exact (hT5.cell (p := ⟨v, 1, none⟩) (Nat.lt_of_lt_of_le hvl (Nat.le_trans hus hK5.size)) (by simp; exact hn.1)).trans ((World.cell?_of_block (a := ⟨v, 1, none⟩) (hc v ho.2.1 hvl)).trans gV)
  · exact hP.kvs.turn hT5 (fun z _ hz => by
      have := (hx z hz).1
      simp
      omega)
  · exact ((((Keep.of hT4 (by simp; exact ⟨hsn, h.tree.not1 hso⟩)).trans (Keep.of hu (by simp))).trans (hK5.less h.sub)).trans (Keep.of hT5 (by simp; exact ⟨hsn, h.tree.not1 hso⟩)))
  · exact (hT5.cell (p := ⟨vb, 0, none⟩) (Nat.lt_of_lt_of_le (lt_of_cell gB) (Nat.le_trans hus hK5.size)) (by simp; exact hn.2.1)).trans ((World.cell?_of_block (a := ⟨vb, 0, none⟩) (hc vb ho.2.2 (lt_of_cell gB))).trans gB)

set_option maxRecDepth 100000 in
set_option maxHeartbeats 3200000 in
/-- Look: the view's blocks are nobody else's. -/
theorem xlook_own {w : World} {O : Nat → Prop} {st N c vw : Nat} {did : Nat} {ch : Bool} {l : KVs} (h : StoreOk w O st N c vw true none did ch l) (hvw : vw ≤ 15) :
    Calls Tryz.prog 22 #[.pointer (some ⟨st, 0, none⟩)] w fun e w' => ∃ v O', e = .returned (.pointer (some ⟨v, 0, none⟩)) ∧ StoreOk w' O' st N c (vw + 1) false none did ch l ∧ ViewAt w' (fun y => O' y ∧ ¬ O y) v l ∧ Keep O w w' ∧ (∀ x, O x → O' x) ∧ ∀ x, O' x → x < w'.heap.size := by
  obtain ⟨OT, t, p, sg, h⟩ := h
  have h4 := h.obj.c4
  have hl := h.obj.lt
  have hsgl := h.sgl
  have hne : ¬ ((vw : Int) = 16) := by omega
  have HD : Hid (∀ u, Turn [] w u → u.heap.size = w.heap.size + 3 → Calls Tryz.prog 38 #[.pointer (some ⟨st, 0, none⟩)] u fun e w' => e = .returned (.bool false) ∧ StoreIn w' O (fun x => OT x ∨ (w.heap.size ≤ x ∧ x < w.heap.size + 3)) st t p sg N c vw true none did ch l ∧ Keep (fun x => OT x ∨ (w.heap.size ≤ x ∧ x < w.heap.size + 3)) u w') := fun u hT hz => xdead (h.wide hT (fun x => w.heap.size ≤ x ∧ x < w.heap.size + 3) (fun x hx => ⟨hx.1, by omega⟩))
  have hW4 : (((w.alloc (.cells #[.pointer (some ⟨st, 0, none⟩)] 28)).alloc (.cells #[.pointer (some ⟨st, 0, none⟩), .pointer none] 107)).alloc (.cells #[.pointer (some ⟨w.heap.size + 1, 0, none⟩)] 46)).cell? ⟨st, 4, none⟩ = some (.int .i64 (vw : Nat)) := Lib.cell?_alloc_some _ (Lib.cell?_alloc_some _ (Lib.cell?_alloc_some _ h4))
  have H := hide h
  clear h
  go_enter Tryz.func22, Tryz.ntmps22
  go_wp2_with fail
  refine (HD.out _ ((((Turn.refl [] w).alloc _).alloc _).alloc _) (by simp)).mono ?_
  rintro e w1 ⟨rfl, h1, hK1⟩
  have hc : ∀ x o, w.heap.size ≤ x → x < w.heap.size + 3 → w1.cell? ⟨x, o, none⟩ = (((w.alloc (.cells #[.pointer (some ⟨st, 0, none⟩)] 28)).alloc (.cells #[.pointer (some ⟨st, 0, none⟩), .pointer none] 107)).alloc (.cells #[.pointer (some ⟨w.heap.size + 1, 0, none⟩)] 46)).cell? ⟨x, o, none⟩ ∧ w1.frozen? ⟨x, o, none⟩ = (((w.alloc (.cells #[.pointer (some ⟨st, 0, none⟩)] 28)).alloc (.cells #[.pointer (some ⟨st, 0, none⟩), .pointer none] 107)).alloc (.cells #[.pointer (some ⟨w.heap.size + 1, 0, none⟩)] 46)).frozen? ⟨x, o, none⟩ := fun x o hx1 hx2 => by
    have hb := hK1.block (x := x) (.inr ⟨hx1, hx2⟩) (by simp; omega)
    exact ⟨World.cell?_of_block (a := ⟨x, o, none⟩) hb, World.frozen?_of_block (a := ⟨x, o, none⟩) hb⟩
  have e1 : w.heap.size + 1 = (w.alloc (.cells #[.pointer (some ⟨st, 0, none⟩)] 28)).heap.size := by simp
  have e2 : w.heap.size + 1 + 1 = ((w.alloc (.cells #[.pointer (some ⟨st, 0, none⟩)] 28)).alloc (.cells #[.pointer (some ⟨st, 0, none⟩), .pointer none] 107)).heap.size := by simp
  have hS : w1.cell? ⟨w.heap.size, 0, none⟩ = some (.pointer (some ⟨st, 0, none⟩)) := (hc _ 0 (by omega) (by omega)).1.trans (Lib.cell?_alloc_some _ (Lib.cell?_alloc_some _ (World.cell?_alloc_at _ _ _ _ rfl)))
  have hV1 : ∃ x, w1.cell? ⟨w.heap.size + 1, 1, none⟩ = some x := ⟨_, (hc _ 1 (by omega) (by omega)).1.trans (Lib.cell?_alloc_some _ (by rw [e1]; exact World.cell?_alloc_at _ _ _ _ rfl))⟩
  have hVf : w1.frozen? ⟨w.heap.size + 1, 1, none⟩ = false := by
    rw [(hc _ 1 (by omega) (by omega)).2]
    exact (World.frozen?_of_block (a := ⟨w.heap.size + 1, 1, none⟩) (((Turn.refl [] _).alloc _).block _ (by simp) (by simp))).trans (by rw [e1]; exact World.frozen?_alloc_at _ _ _ _ rfl)
  have hB : w1.cell? ⟨w.heap.size + 1 + 1, 0, none⟩ = some (.pointer (some ⟨w.heap.size + 1, 0, none⟩)) := (hc _ 0 (by omega) (by omega)).1.trans (by rw [e2]; exact World.cell?_alloc_at _ _ _ _ rfl)
  have HK1 := hide hK1
  have H1 := hide h1
  have h41 := h1.obj.c4
  have f41 := h1.obj.fz 4
  have HS1 := hide hS
  have HV1 := hide hV1
  have HVf := hide hVf
  have HB1 := hide hB
  have heq : ((vw : Int) == 16) = false := by simp; omega
  clear hK1 h1 hc e1 e2 hS hV1 hVf hB hW4
  have hB := HB1.out
  have hS := HS1.out
  go_wp2_with fail
  have h2 := H1.out.count
  have hTst : Turn [st] w1 (w1.setCell ⟨st, 4, none⟩ (.int .i64 ((vw : Int) + 1))) := (Turn.refl [st] w1).setCell (List.mem_singleton.2 rfl) 4 _
  have hB2 := (hTst.cell (p := ⟨w.heap.size + 1 + 1, 0, none⟩) (lt_of_cell HB1.out) (by simp; omega)).trans HB1.out
  have hS2 := (hTst.cell (p := ⟨w.heap.size, 0, none⟩) (lt_of_cell HS1.out) (by simp; omega)).trans HS1.out
  obtain ⟨x0, hx0⟩ := HV1.out
  have hV2 := (hTst.cell (p := ⟨w.heap.size + 1, 1, none⟩) (lt_of_cell hx0) (by simp; omega)).trans hx0
  have hVf2 : (w1.setCell ⟨st, 4, none⟩ (.int .i64 ((vw : Int) + 1))).frozen? ⟨w.heap.size + 1, 1, none⟩ = false := (World.frozen?_setCell ..).trans HVf.out
  have HTst := hide hTst
  generalize w1.setCell ⟨st, 4, none⟩ (.int .i64 ((vw : Int) + 1)) = w2 at *
  have h52 := h2.obj.c5
  have H2 := hide h2
  clear h2 hTst hB hS h41 f41 hx0
  go_region_with (fail)
  all_goals
    have hTv : Turn [w.heap.size + 1] w2 ((w2.setCell ⟨w.heap.size + 1, 1, none⟩ (.pointer (some ⟨sg, 0, none⟩))).drew) := ((Turn.refl [w.heap.size + 1] w2).setCell (List.mem_singleton.2 rfl) 1 _).drew
    have h3 := H2.out.own hTv (fun x hx => by simp at hx; subst hx; exact ⟨.inr ⟨by omega, by omega⟩, by omega⟩) (fun _ => by simp; omega)
    have hB3 := (hTv.cell (p := ⟨w.heap.size + 1 + 1, 0, none⟩) (lt_of_cell hB2) (by simp)).trans hB2
    have hS3 := (hTv.cell (p := ⟨w.heap.size, 0, none⟩) (lt_of_cell hS2) (by simp)).trans hS2
    have hV3 : ((w2.setCell ⟨w.heap.size + 1, 1, none⟩ (.pointer (some ⟨sg, 0, none⟩))).drew).cell? ⟨w.heap.size + 1, 1, none⟩ = some (.pointer (some ⟨sg, 0, none⟩)) := World.cell?_setCell_same _ _ _ hV2
    have HTv := hide hTv
    generalize (w2.setCell ⟨w.heap.size + 1, 1, none⟩ (.pointer (some ⟨sg, 0, none⟩))).drew = w3 at *
    have HO := hide (see_once h3 w.heap.size (w.heap.size + 1) (w.heap.size + 1 + 1) ⟨.inr ⟨by omega, by omega⟩, .inr ⟨by omega, by omega⟩, .inr ⟨by omega, by omega⟩⟩ ⟨by omega, by omega, by omega, by omega⟩ hS3 hB3 hV3 (fun ho => by have := H.out.ob _ (H.out.sub _ ho); omega))
    clear h3 hTv hV2 hVf2 hB2 hS2 hS3
    go_wp2_with (go_at_call 50; refine HO.out.mono ?_; rintro e w4 ⟨rfl, O', hSt, hVw, hKp, hsub, hlt, hB4⟩; have HSt := hide hSt; have HVw := hide hVw; have HKp := hide hKp; have Hsub := hide hsub; have Hlt := hide hlt; clear hSt hVw hKp hsub hlt)
    go_ret
    have hnO : ∀ x, w.heap.size ≤ x → ¬ O x := fun x hx ho => by have := H.out.ob x (H.out.sub x ho); omega
    exact ⟨w.heap.size + 1, O', rfl, HSt.out, HVw.out, ((((Keep.of ((((Turn.refl [] w).alloc _).alloc _).alloc _) (by simp)).trans (HK1.out.less (fun x hx => .inl (H.out.sub x hx)))).trans (Keep.of HTst.out (by simp; exact ⟨H.out.nst, H.out.tree.not1 H.out.ost⟩))).trans (Keep.of HTv.out (fun x hx => by obtain rfl := List.mem_singleton.1 hx; exact ⟨hnO _ (by omega), by omega⟩))).trans HKp.out, Hsub.out, Hlt.out⟩

theorem xlook {w : World} {O : Nat → Prop} {st N c vw : Nat} {did : Nat} {ch : Bool} {l : KVs} (h : StoreOk w O st N c vw true none did ch l) (hvw : vw ≤ 15) :
    Calls Tryz.prog 22 #[.pointer (some ⟨st, 0, none⟩)] w fun e w' => ∃ v O', e = .returned (.pointer (some ⟨v, 0, none⟩)) ∧ StoreOk w' O' st N c (vw + 1) false none did ch l ∧ ViewAt w' O' v l ∧ Keep O w w' ∧ (∀ x, O x → O' x) ∧ ∀ x, O' x → x < w'.heap.size := by
  refine (xlook_own h hvw).mono ?_
  rintro e w' ⟨v, O', rfl, hs, hv, hk, hsub, hlt⟩
  exact ⟨v, O', rfl, hs, hv.keep (Keep.refl _ _) (fun x hx => hlt x hx.1) (fun _ hx => hx.1), hk, hsub, hlt⟩

end Go.Proofs.YthgpjkcgccdldaaGreatDoor

namespace Go.Proofs.YthgpjkcgccdldaaGreatDoor
open Go.RowKit Go.Maps

theorem infoV : (Tryz.prog.info? 49).map (fun i => (i.zero.map fun z => z.cells.size, i.size, i.bytes)) = some (some 2, 2, 32) := by kernel_rfl

theorem infoV_all : ∃ i z, Tryz.prog.info? 49 = some i ∧ i.zero = some z ∧ z.cells.size = 2 ∧ i.size = 2 ∧ i.bytes = 32 := by
  have h := infoV
  cases hi : Tryz.prog.info? 49 with
  | none => rw [hi] at h; cases h
  | some i =>
    rw [hi] at h
    cases hz : i.zero with
    | none => rw [Option.map_some, hz] at h; cases h
    | some z =>
      rw [Option.map_some, hz] at h
      have h := Option.some.inj h
      simp only [Option.map_some, Prod.mk.injEq, Option.some.injEq] at h
      exact ⟨i, z, rfl, hz, h.1, h.2.1, h.2.2⟩

/-- An append of pairs to a row of the call's own, of views and rows. -/
theorem append_views {ops : Array Oper} {rest : List Oper} {o : Oper} {a : Act} {Q : Exit → Act → World → Prop} {w : World} (hgd : o.guard = none) (s x : Operand)
    (ho : o.op = .call { callee := .builtin .append, args := #[s, x], argTypes := #[33, 33] }) (base : Nat) (v : Value) (n : Nat) (xs : List (Value × Value)) (hs : a.eval s = v) (hown : w.ownsRow base 49 2 v n (flat xs))
    (ak : Option Addr) (m c : Nat) (l : List (Value × Value)) (hx : a.eval x = .slice ak m c) (hm : l.length = m) (hnone : ak = none → c = 0) (hb : PairsAt w ak l) (h1 : OneCell l) (hbound : n + m ≤ 1000000) (hbase : base ≤ w.heap.size)
    (h : ∀ v' w', w'.ownsRow base 49 2 v' (n + m) (flat (xs ++ l)) → w.grownBy w' v.ownBlock → (v'.ownBlock = v.ownBlock ∨ v'.ownBlock = some w.heap.size) → wpList Tryz.prog ops Q rest (a.put o.dst v') w') :
    wpList Tryz.prog ops Q (o :: rest) a w := by
  obtain ⟨i0, z, hi, hz0, hzc, hz1, hz2⟩ := infoV_all
  cases ak with
  | none =>
    obtain rfl := hnone rfl
    have hl : l = [] := by
      rcases hb with h | ⟨_, _, e, _⟩
      · exact h
      · cases e
    subst hl
    obtain rfl : 0 = m := hm
    refine wpList_append_own_none hgd s x 33 ho base 49 i0 2 Tryz.underlying33 hi v n _ hs hown hx (h v w ?_ (grownBy_refl _ _) (.inl rfl))
    simpa using hown
  | some ad =>
    refine wpList_append_own_at w hgd s x 33 ho base 49 i0 z 2 32 Tryz.underlying33 hi hz0 hz1 hz2 hzc (by decide) v n (flat xs) hs hown ad m c (flat l) hx (by rw [flat_length, hm]) hb.src (flat_one h1) (by unfold maxLen; omega) (by omega) hbase ?_
    intro v' w' h1 h2 _ h4
    exact h v' w' (by rw [flat_append]; exact h1) h2 h4

/-- A view, and the row that it is held against. -/
structure Vw where
  v : Nat
  a : Option Addr
  c : Nat
  l : KVs

def vwCells (L : List Vw) : List (Value × Value) := L.map fun x => (.pointer (some ⟨x.v, 0, none⟩), .slice x.a x.l.length x.c)
theorem vwCells_length (L : List Vw) : (vwCells L).length = L.length := by simp [vwCells]
theorem vwCells_append (L M : List Vw) : vwCells (L ++ M) = vwCells L ++ vwCells M := List.map_append
theorem vw_one (L : List Vw) : OneCell (vwCells L) := by
  intro x hx
  obtain ⟨y, _, rfl⟩ := List.mem_map.1 hx
  exact ⟨rfl, rfl⟩

/-- A view and its row in memory, in blocks of O. -/
structure VwAt (w : World) (O : Nat → Prop) (x : Vw) : Prop where
  view : ViewAt w O x.v x.l
  row : KVsAt w x.a x.l
  nil : x.a = none → x.c = 0
  own : ∀ z, x.l ≠ [] → x.a = some z → O z.block
  rises : Rises (keysOf x.l)
  few : x.l.length ≤ 20

def VwsAt (w : World) (O : Nat → Prop) (L : List Vw) : Prop := ∀ x ∈ L, VwAt w O x

theorem VwAt.keep {w w' : World} {O O' : Nat → Prop} {x : Vw} (h : VwAt w O x) (hK : Keep O w w') (hob : ∀ y, O y → y < w.heap.size) (hO : ∀ y, O y → O' y) : VwAt w' O' x := by
  refine ⟨h.view.keep hK hob hO, ?_, h.nil, fun z hl hz => hO _ (h.own z hl hz), h.rises, h.few⟩
  obtain ⟨X, hT, hX⟩ := hK
  exact h.row.turn hT (fun z hl hz hm => (hX _ hm).1 (h.own z hl hz))
theorem VwsAt.keep {w w' : World} {O O' : Nat → Prop} {L : List Vw} (h : VwsAt w O L) (hK : Keep O w w') (hob : ∀ y, O y → y < w.heap.size) (hO : ∀ y, O y → O' y) : VwsAt w' O' L := fun x hx => (h x hx).keep hK hob hO
theorem VwsAt.add {w : World} {O : Nat → Prop} {L : List Vw} {x : Vw} (h : VwsAt w O L) (hx : VwAt w O x) : VwsAt w O (L ++ [x]) := fun y hy => by
  rcases List.mem_append.1 hy with hy | hy
  · exact h y hy
  · rw [List.mem_singleton.1 hy]
    exact hx

/-- A block of others turns: the store stays. -/
theorem StoreOk.other {X : List Nat} {w w' : World} {O : Nat → Prop} {st N c vw : Nat} {fs : Bool} {did : Nat} {ch : Bool} {l : KVs} (h : StoreOk w O st N c vw fs none did ch l) (hT : Turn X w w') (hX : ∀ x ∈ X, O x) : StoreOk w' O st N c vw fs none did ch l := by
  obtain ⟨OT, t, p, sg, h⟩ := h
  exact ⟨OT, t, p, sg, h.own hT (fun x hx => ⟨h.sub x (hX x hx), fun e => h.nst (e ▸ hX x hx)⟩) (fun hf hm => (h.sight hf).2.2 (hX sg hm))⟩

end Go.Proofs.YthgpjkcgccdldaaGreatDoor

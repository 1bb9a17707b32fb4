/-
  The reference's reader: answers.
-/
import Derived.Test.YtkbboingeacgjaaQTC
namespace Go.Proofs.Ytkbboingeacgjaa
open Go.RowKit

/-- An entry. -/
structure EntD where
  id : Int
  er : Int
  l : List Int
  nm : ByteArray
  xs : List Int
/-- What is left of an entry behind its id. -/
def an2 (t : Sx) : Sx × Int := errnoS .pr t 0
def an3 (t : Sx) : Sx × List Int := numsS .pr (an2 t).1 (List.replicate 3 0)
def an4 (t : Sx) : Sx × Bool := flagS .pr (an3 t).1 false
def an5 (t : Sx) : Sx × ByteArray × List Int := tiS .pr (an4 t).1 ByteArray.empty (List.replicate 8 0)
def anS (t : Sx) : Sx × EntD :=
  if (an4 t).2 then (if (an5 t).2.2.headD 0 = 0 then refuseS (an5 t).1 11 else (an5 t).1, ⟨0, (an2 t).2, (an3 t).2, (an5 t).2.1, (an5 t).2.2⟩)
  else ((an4 t).1, ⟨0, (an2 t).2, (an3 t).2, ByteArray.empty, List.replicate 8 0⟩)
/-- What ReadAnswer answers. -/
def AnsP (w : World) (r : Nat) (a : Option Addr) (cap : Nat) (B : List Nat) (t : Sx) (e : Ending) (w' : World) : Prop := ∃ (nm : ByteArray), e = .returned (.agg (Value.int .i64 (anS t).2.er :: (intC (anS t).2.l ++ Value.string nm :: intC (anS t).2.xs)).toArray) ∧ Rdr w' r a cap B (anS t).1 ∧ ((anS t).1.e = 0 → nm = (anS t).2.nm) ∧ Turn [r] w w'

theorem numS_fault {s : Sx} (h : s.e ≠ 0) (x : Int) : (numS .pr s x).1 = s := by show (takeS s 8).1 = s; rw [takeS_fault h]
theorem numsS_fault : ∀ (l : List Int) {s : Sx} (_ : s.e ≠ 0), (numsS .pr s l).1 = s
  | [], _, _ => rfl
  | x :: l, s, h => by
    show (numsS .pr (numS .pr s x).1 l).1 = s
    rw [numS_fault h]
    exact numsS_fault l h
theorem tiS_text {t : Sx} {nm : ByteArray} {l : List Int} (h : (tiS .pr t nm l).1.e = 0) : (textS .pr t nm).1.e = 0 := by
  refine Classical.byContradiction fun k => ?_
  have : (tiS .pr t nm l).1 = (textS .pr t nm).1 := numsS_fault l k
  rw [this] at h
  exact k h

set_option maxRecDepth 100000 in
set_option maxHeartbeats 6400000 in
theorem rdAns {w : World} {r : Nat} {a : Option Addr} {cap : Nat} {B : List Nat} {t : Sx} (h : Rdr w r a cap B t) : Calls Try.prog 38 #[.pointer (some ⟨r, 0, none⟩)] w fun e w' => AnsP w r a cap B t e w' := by
  obtain ⟨hR0, hrl, hab⟩ := h.base (.cells #[.int .i64 0, .int .i64 0, .int .i64 0, .int .i64 0, .string { data := #[] }, .int .i64 0, .int .i64 0, .int .i64 0, .int .i64 0, .int .i64 0, .int .i64 0, .int .i64 0, .int .i64 0] 43)
  have HTh := hide (there_new2 w #[.int .i64 0, .int .i64 0, .int .i64 0, .int .i64 0, .string { data := #[] }, .int .i64 0, .int .i64 0, .int .i64 0, .int .i64 0, .int .i64 0, .int .i64 0, .int .i64 0, .int .i64 0] 43)
  have hs0 : (w.alloc (.cells #[.int .i64 0, .int .i64 0, .int .i64 0, .int .i64 0, .string { data := #[] }, .int .i64 0, .int .i64 0, .int .i64 0, .int .i64 0, .int .i64 0, .int .i64 0, .int .i64 0, .int .i64 0] 43)).heap.size = w.heap.size + 1 := by simp
  have HS0 := hide hs0
  have HAb := hide hab
  have HAb2 := hide (fun x hx e => h.hB.lt x hx e)
  have HC0 := hide (ru8 hR0)
  have HFin : Hid (∀ w', Turn [r] (w.alloc (.cells #[.int .i64 0, .int .i64 0, .int .i64 0, .int .i64 0, .string { data := #[] }, .int .i64 0, .int .i64 0, .int .i64 0, .int .i64 0, .int .i64 0, .int .i64 0, .int .i64 0, .int .i64 0] 43)) w' → Turn [r] w w') := fun w' hT => hT.from_alloc
  have hrw : w.heap.size ≠ r := by have := h.at; omega
  unfold U8P at HC0
  obtain ⟨⟨t0, k⟩, hT0⟩ : ∃ T, countS .pr t 0 = T := ⟨_, rfl⟩
  rw [hT0] at HC0
  obtain ⟨⟨t1, x1⟩, hT1⟩ : ∃ T, numS .pr t0 0 = T := ⟨_, rfl⟩
  obtain ⟨⟨t2, x2⟩, hT2⟩ : ∃ T, numS .pr t1 0 = T := ⟨_, rfl⟩
  obtain ⟨⟨t3, x3⟩, hT3⟩ : ∃ T, numS .pr t2 0 = T := ⟨_, rfl⟩
  obtain ⟨⟨t4, f⟩, hT4⟩ : ∃ T, countS .pr t3 0 = T := ⟨_, rfl⟩
  have e2 : an2 t = (t0, (k : Int)) := by
    show ((countS .pr t 0).1, ((countS .pr t 0).2 : Int)) = _
    rw [hT0]
  have e3 : an3 t = (t3, [x1, x2, x3]) := by
    unfold an3
    rw [e2]
    show numsS .pr t0 [0, 0, 0] = _
    simp only [numsS, hT1, hT2, hT3]
  have e4 : an4 t = (if f > 1 then refuseS t4 11 else t4, f == 1) := by
    unfold an4
    rw [e3]
    show (if (countS .pr t3 0).2 > 1 then refuseS (countS .pr t3 0).1 11 else (countS .pr t3 0).1, (countS .pr t3 0).2 == 1) = _
    rw [hT4]
  have hf0 : t4.e ≠ 0 → f = 0 := fun he => by
    have h1 : (takeS t3 1).1 = t4 := congrArg Prod.fst hT4
    have h2 : (takeS t3 1).2.headD 0 = f := congrArg Prod.snd hT4
    by_cases h3 : t3.e = 0
    · unfold takeS at h1 h2
      rw [if_neg (by omega)] at h1 h2
      split at h1
      · rename_i h4
        rw [if_pos h4] at h2
        exact h2.symm
      · rename_i h4
        exact absurd (by rw [← h1]) he
    · rw [takeS_fault h3] at h2
      exact h2.symm
  have HE2 := hide e2
  have HE3 := hide e3
  have HE4 := hide e4
  have HF0 := hide hf0
  have HT1 := hide hT1
  have HT2 := hide hT2
  have HT3 := hide hT3
  have HT4 := hide hT4
  clear hab h hs0 hR0 hT0 hT1 hT2 hT3 hT4 e2 e3 e4 hf0
  dsimp only at HC0
  generalize hq2 : w.heap.size = q2 at *
  have HQ2 := hide hq2
  go_enter Try.func38, Try.ntmps38
  go_wp2_with fail
  clear hq2
  generalize w.alloc (.cells #[.int .i64 0, .int .i64 0, .int .i64 0, .int .i64 0, .string { data := #[] }, .int .i64 0, .int .i64 0, .int .i64 0, .int .i64 0, .int .i64 0, .int .i64 0, .int .i64 0, .int .i64 0] 43) = w0 at *
  refine HC0.out.mono ?_
  rintro e w1 ⟨rfl, hR, hT⟩
  have HS1 := hide (Rs.new hR hT hrl HAb.out #[Value.int .i64 (k : Nat), .int .i64 0, .int .i64 0, .int .i64 0, .string { data := #[] }, .int .i64 0, .int .i64 0, .int .i64 0, .int .i64 0, .int .i64 0, .int .i64 0, .int .i64 0, .int .i64 0] 43)
  clear hR hT
  go_wp2_with fail
  generalize hq : w1.heap.size = q at *
  generalize w1.alloc (.cells #[Value.int .i64 (k : Nat), .int .i64 0, .int .i64 0, .int .i64 0, .string { data := #[] }, .int .i64 0, .int .i64 0, .int .i64 0, .int .i64 0, .int .i64 0, .int .i64 0, .int .i64 0, .int .i64 0] 43) = v1 at *
  clear hq
  refine (ri64 HS1.out.rd).mono ?_
  rintro e u1 ⟨rfl, hR, hT⟩
  rw [HT1.out] at hR ⊢
  have hK1 := HS1.out.call hT hR
  have c1 := hK1.cell (i := 1) rfl
  have f1 := hK1.fz (i := 1) (by simp)
  have HS2 := hide (hK1.put 1 (.int .i64 x1) (by simp))
  clear hR hT hK1
  dsimp only
  go_wp2_with fail
  generalize u1.setCell ⟨q, 1, none⟩ (.int .i64 x1) = v2 at *
  clear c1 f1 HS1
  refine (ri64 HS2.out.rd).mono ?_
  rintro e u2 ⟨rfl, hR, hT⟩
  rw [HT2.out] at hR ⊢
  have hK2 := HS2.out.call hT hR
  have c2 := hK2.cell (i := 2) rfl
  have f2 := hK2.fz (i := 2) (by simp)
  have HS3 := hide (hK2.put 2 (.int .i64 x2) (by simp))
  clear hR hT hK2
  dsimp only
  go_wp2_with fail
  generalize u2.setCell ⟨q, 2, none⟩ (.int .i64 x2) = v3 at *
  clear c2 f2 HS2
  refine (ri64 HS3.out.rd).mono ?_
  rintro e u3 ⟨rfl, hR, hT⟩
  rw [HT3.out] at hR ⊢
  have hK3 := HS3.out.call hT hR
  have c3 := hK3.cell (i := 3) rfl
  have f3 := hK3.fz (i := 3) (by simp)
  have HS4 := hide (hK3.put 3 (.int .i64 x3) (by simp))
  clear hR hT hK3
  dsimp only
  go_wp2_with fail
  generalize u3.setCell ⟨q, 3, none⟩ (.int .i64 x3) = v4 at *
  clear c3 f3 HS3
  refine (ru8 HS4.out.rd).mono ?_
  rintro e u4 ⟨rfl, hR, hT⟩
  rw [HT4.out] at hR ⊢
  have HS5 := hide (HS4.out.call hT hR)
  clear hR hT HS4
  dsimp only at HS5 ⊢
  have hc2 := HS5.out.rd.c2
  have f2 := HS5.out.rd.f2
  have HEnd : Hid (∀ (v : World) (nm : ByteArray) (xs : List Int) (s : Sx), Rs w0 v r a cap B s q (Value.int .i64 (k : Nat) :: (intC [x1, x2, x3] ++ Value.string nm :: intC xs)) → xs.length = 8 → anS t = (s, (anS t).2) → (anS t).2.er = (k : Int) → (anS t).2.l = [x1, x2, x3] → (anS t).2.xs = xs → (s.e = 0 → nm = (anS t).2.nm) →
      (∃ cs : List Value, cs.length = 13 ∧ (∀ u ∈ cs, u.oneCell' = true) ∧ v.rangeAt q 0 cs ∧ v.there q2 0 13 ∧ ∀ e, e = Ending.returned (.agg cs.toArray) → AnsP w r a cap B t e (v.setCells q2 0 cs))) := fun v nm xs s hS hx h0 h1 h2 h3 h4 => by
    refine ⟨Value.int .i64 (k : Nat) :: (intC [x1, x2, x3] ++ Value.string nm :: intC xs), by simp [intC, hx], fun u hu => ?_, hS.fl, fun j hj => ?_, fun e he => ⟨nm, ?_, ?_, ?_, ?_⟩⟩
    · simp only [intC, List.mem_cons, List.mem_append, List.mem_map] at hu
      rcases hu with rfl | ⟨x, _, rfl⟩ | rfl | ⟨x, _, rfl⟩ <;> rfl
    · have hb := hS.tn.block q2 (by rw [HS0.out]; omega) (by simp [hrw])
      rw [World.cell?_of_block (a := ⟨q2, 0 + j, none⟩) hb, World.frozen?_of_block (a := ⟨q2, 0 + j, none⟩) hb]
      exact HTh.out j hj
    · rw [he, h1, h2, h3]
    · rw [show (anS t).1 = s from congrArg Prod.fst h0]
      exact rdr_far hS.rd (heap_setCellsN q2 r (fun e => hrw e.symm) _ _ _) (fun x hx e => heap_setCellsN q2 x.block (fun k => by have := HAb2.out x hx e; have := HQ2.out; omega) _ _ _)
    · rw [show (anS t).1 = s from congrArg Prod.fst h0]
      exact h4
    · have g1 := HFin.out _ hS.tn
      have e := rest_setCellsN q2 (Value.int .i64 (k : Nat) :: (intC [x1, x2, x3] ++ Value.string nm :: intC xs)) 0 v
      exact ⟨e.1.trans g1.os, e.2.1.trans g1.tape, e.2.2.trans g1.output, by rw [size_setCellsN]; exact g1.size, fun k hk hS => (heap_setCellsN q2 k (by have := HQ2.out; omega) _ _ _).trans (g1.block k hk hS)⟩
  by_cases he : t4.e = 0
  · rw [he] at hc2
    by_cases hf1 : 1 < f
    · have hA : anS t = (⟨t4.l, 11⟩, ⟨0, (k : Int), [x1, x2, x3], ByteArray.empty, List.replicate 8 0⟩) := by
        unfold anS
        rw [HE4.out, HE2.out, HE3.out]
        have : (f == 1) = false := by simp; omega
        rw [this, if_pos hf1]
        unfold refuseS
        rw [if_pos he]
        rfl
      have hRs : Rs w0 (u4.setCell ⟨r, 2, none⟩ (.int .i64 (11 : Nat))) r a cap B ⟨t4.l, 11⟩ q _ := HS5.out.call ((Turn.refl [r] u4).setCell (by simp) 2 _) (HS5.out.rd.setE 11 (by omega) t4.l)
      obtain ⟨cs, hl, ho, hr, hth, hfin⟩ := HEnd.out _ ByteArray.empty (List.replicate 8 0) ⟨t4.l, 11⟩ hRs rfl (by rw [hA]) (by rw [hA]) (by rw [hA]) (by rw [hA]) (fun k => by cases k)
      have gc2 := hRs.rd.c2
      have gf2 := hRs.rd.f2
      have HO := hide ho
      have HRr := hide hr
      have HThq := hide hth
      have HFq := hide hfin
      have HR6 := hide (World.rangeAt_setCells_same _ q2 0 cs (by rw [hl]; exact hth))
      clear ho hr hth hfin hA
      go_upto_region 8 with fail
      generalize u4.setCell ⟨r, 2, none⟩ (.int .i64 11) = v5 at *
      go_wp2_with (first | ((with_reducible refine load_sz 43 13 sz67 _ q 0 cs hl ?_ HRr.out ?_); rfl) | ((with_reducible refine store_sz 43 13 sz67 _ _ q2 0 cs hl HO.out ?_ ?_ HThq.out ?_); rfl; rfl) | fail)
      exact bodyPost_ret (v := .agg cs.toArray) (results_sz sz67 Try.results38 hl rfl HR6.out) rfl (HFq.out _ rfl)
    · by_cases hf2 : f = 1
      · subst hf2
        obtain ⟨⟨t5, nm5, xs5⟩, h5⟩ : ∃ T, tiS .pr t4 ByteArray.empty (List.replicate 8 0) = T := ⟨_, rfl⟩
        have hx8 : xs5.length = 8 := by
          have := congrArg (fun T => T.2.2.length) h5
          rw [← this]
          exact (numsS_length .pr _ _).trans rfl
        have e5 : an5 t = (t5, nm5, xs5) := by
          unfold an5
          rw [HE4.out]
          exact h5
        obtain ⟨z1, z2, z3, z4, z5, z6, z7, z8, rfl⟩ : ∃ z1 z2 z3 z4 z5 z6 z7 z8, xs5 = [z1, z2, z3, z4, z5, z6, z7, z8] := by
          match xs5, hx8 with
          | [z1, z2, z3, z4, z5, z6, z7, z8], _ => exact ⟨z1, z2, z3, z4, z5, z6, z7, z8, rfl⟩
        have hA : anS t = (if z1 = 0 then refuseS t5 11 else t5, ⟨0, (k : Int), [x1, x2, x3], nm5, [z1, z2, z3, z4, z5, z6, z7, z8]⟩) := by
          unfold anS
          rw [e5, HE4.out, HE2.out, HE3.out]
          rfl
        have HC5 := hide (rdStm HS5.out.rd)
        have htx : t5.e = 0 → (textS .pr t4 ByteArray.empty).1.e = 0 := fun k => tiS_text (l := List.replicate 8 0) (by rw [h5]; exact k)
        unfold rdStmP at HC5
        rw [h5] at HC5
        have HTx := hide htx
        have HA := hide hA
        clear htx hA e5 h5 hx8
        dsimp only at HC5
        go_wp2_with fail
        refine HC5.out.mono ?_
        rintro e u5 ⟨nm, rfl, hR, hnm, hT⟩
        have hK := HS5.out.call hT hR
        have HNm := hide hnm
        have HT9 : Hid (u5.there q 4 9) := fun j hj => by
          have := hK.th (4 + j) (by simp; omega)
          rw [Nat.zero_add] at this
          exact this
        have hl9 : (Value.string nm :: intC [z1, z2, z3, z4, z5, z6, z7, z8]).length = 9 := rfl
        have HO9 : Hid (∀ v ∈ (Value.string nm :: intC [z1, z2, z3, z4, z5, z6, z7, z8]), v.oneCell' = true) := fun v hv => by
          rcases List.mem_cons.1 hv with rfl | hv
          · rfl
          · obtain ⟨x, _, rfl⟩ := List.mem_map.1 hv
            rfl
        have HS6 : Hid (Rs w0 (u5.setCells q 4 (Value.string nm :: intC [z1, z2, z3, z4, z5, z6, z7, z8])) r a cap B t5 q (Value.int .i64 (k : Nat) :: (intC [x1, x2, x3] ++ Value.string nm :: intC [z1, z2, z3, z4, z5, z6, z7, z8]))) := hK.puts 4 _ (by simp [hl9])
        clear hR hnm hT hK hc2 f2
        generalize hc9 : (Value.string nm :: intC [z1, z2, z3, z4, z5, z6, z7, z8]) = c9 at HT9 hl9 HO9 HS6 ⊢
        have HC9 := hide hc9
        clear hc9
        go_upto_region 10 with (first | ((with_reducible refine store_sz 41 9 sz40 _ _ q 4 c9 hl9 HO9.out ?_ ?_ HT9.out ?_); rfl; rfl) | fail)
        generalize u5.setCells q 4 c9 = v6 at *
        rw [← HC9.out] at HS6
        have gc5 := HS6.out.cell (i := 5) (v := .int .i64 z1) rfl
        have gc2 := HS6.out.rd.c2
        have gf2 := HS6.out.rd.f2
        by_cases h5e : t5.e = 0
        · rw [h5e] at gc2
          by_cases hz : z1 = 0
          · subst hz
            have hB : anS t = (⟨t5.l, 11⟩, (anS t).2) := by
              rw [HA.out, if_pos rfl]
              unfold refuseS
              rw [if_pos h5e]
            have hRs : Rs w0 (v6.setCell ⟨r, 2, none⟩ (.int .i64 (11 : Nat))) r a cap B ⟨t5.l, 11⟩ q _ := HS6.out.call ((Turn.refl [r] v6).setCell (by simp) 2 _) (HS6.out.rd.setE 11 (by omega) t5.l)
            obtain ⟨cs, hl, ho, hr, hth, hfin⟩ := HEnd.out _ nm [0, z2, z3, z4, z5, z6, z7, z8] ⟨t5.l, 11⟩ hRs rfl hB (by rw [HA.out]) (by rw [HA.out]) (by rw [HA.out]) (fun k => by cases k)
            have hA := hB
            have HO := hide ho
            have HRr := hide hr
            have HThq := hide hth
            have HFq := hide hfin
            have HR6 := hide (World.rangeAt_setCells_same _ q2 0 cs (by rw [hl]; exact hth))
            clear ho hr hth hfin hA
            go_upto_region 12 with fail
            generalize v6.setCell ⟨r, 2, none⟩ (.int .i64 11) = v7 at *
            go_wp2_with (first | ((with_reducible refine load_sz 43 13 sz67 _ q 0 cs hl ?_ HRr.out ?_); rfl) | ((with_reducible refine store_sz 43 13 sz67 _ _ q2 0 cs hl HO.out ?_ ?_ HThq.out ?_); rfl; rfl) | fail)
            exact bodyPost_ret (v := .agg cs.toArray) (results_sz sz67 Try.results38 hl rfl HR6.out) rfl (HFq.out _ rfl)
          · have hB : anS t = (t5, (anS t).2) := by rw [HA.out, if_neg hz]
            obtain ⟨cs, hl, ho, hr, hth, hfin⟩ := HEnd.out _ nm [z1, z2, z3, z4, z5, z6, z7, z8] t5 HS6.out rfl hB (by rw [HA.out]) (by rw [HA.out]) (by rw [HA.out]) (fun k => by rw [HA.out]; exact HNm.out (HTx.out k))
            have hA := hB
            have HO := hide ho
            have HRr := hide hr
            have HThq := hide hth
            have HFq := hide hfin
            have HR6 := hide (World.rangeAt_setCells_same _ q2 0 cs (by rw [hl]; exact hth))
            clear ho hr hth hfin hA
            go_wp2_with (first | ((with_reducible refine load_sz 43 13 sz67 _ q 0 cs hl ?_ HRr.out ?_); rfl) | ((with_reducible refine store_sz 43 13 sz67 _ _ q2 0 cs hl HO.out ?_ ?_ HThq.out ?_); rfl; rfl) | fail)
            exact bodyPost_ret (v := .agg cs.toArray) (results_sz sz67 Try.results38 hl rfl HR6.out) rfl (HFq.out _ rfl)
        · have hne : ¬ ((t5.e : Nat) : Int) = 0 := by omega
          have hB : anS t = (t5, (anS t).2) := by
            rw [HA.out]
            unfold refuseS
            rw [if_neg h5e]
            split <;> rfl
          obtain ⟨cs, hl, ho, hr, hth, hfin⟩ := HEnd.out _ nm [z1, z2, z3, z4, z5, z6, z7, z8] t5 HS6.out rfl hB (by rw [HA.out]) (by rw [HA.out]) (by rw [HA.out]) (fun k => absurd k h5e)
          have hA := hB
          have HO := hide ho
          have HRr := hide hr
          have HThq := hide hth
          have HFq := hide hfin
          have HR6 := hide (World.rangeAt_setCells_same _ q2 0 cs (by rw [hl]; exact hth))
          clear ho hr hth hfin hA
          go_wp2_with (first | ((with_reducible refine load_sz 43 13 sz67 _ q 0 cs hl ?_ HRr.out ?_); rfl) | ((with_reducible refine store_sz 43 13 sz67 _ _ q2 0 cs hl HO.out ?_ ?_ HThq.out ?_); rfl; rfl) | fail)
          exact bodyPost_ret (v := .agg cs.toArray) (results_sz sz67 Try.results38 hl rfl HR6.out) rfl (HFq.out _ rfl)
      · obtain rfl : f = 0 := by omega
        have hA : anS t = (t4, ⟨0, (k : Int), [x1, x2, x3], ByteArray.empty, List.replicate 8 0⟩) := by
          unfold anS
          rw [HE4.out, HE2.out, HE3.out]
          rfl
        obtain ⟨cs, hl, ho, hr, hth, hfin⟩ := HEnd.out _ ByteArray.empty (List.replicate 8 0) t4 HS5.out rfl (by rw [hA]) (by rw [hA]) (by rw [hA]) (by rw [hA]) (fun _ => by rw [hA])
        have HO := hide ho
        have HRr := hide hr
        have HThq := hide hth
        have HFq := hide hfin
        have HR6 := hide (World.rangeAt_setCells_same _ q2 0 cs (by rw [hl]; exact hth))
        clear ho hr hth hfin hA
        go_wp2_with (first | ((with_reducible refine load_sz 43 13 sz67 _ q 0 cs hl ?_ HRr.out ?_); rfl) | ((with_reducible refine store_sz 43 13 sz67 _ _ q2 0 cs hl HO.out ?_ ?_ HThq.out ?_); rfl; rfl) | fail)
        exact bodyPost_ret (v := .agg cs.toArray) (results_sz sz67 Try.results38 hl rfl HR6.out) rfl (HFq.out _ rfl)
  · obtain rfl : f = 0 := HF0.out he
    have hne : ¬ ((t4.e : Nat) : Int) = 0 := by omega
    have hA : anS t = (t4, ⟨0, (k : Int), [x1, x2, x3], ByteArray.empty, List.replicate 8 0⟩) := by
      unfold anS
      rw [HE4.out, HE2.out, HE3.out]
      rfl
    obtain ⟨cs, hl, ho, hr, hth, hfin⟩ := HEnd.out _ ByteArray.empty (List.replicate 8 0) t4 HS5.out rfl (by rw [hA]) (by rw [hA]) (by rw [hA]) (by rw [hA]) (fun _ => by rw [hA])
    have HO := hide ho
    have HRr := hide hr
    have HThq := hide hth
    have HFq := hide hfin
    have HR6 := hide (World.rangeAt_setCells_same _ q2 0 cs (by rw [hl]; exact hth))
    clear ho hr hth hfin hA
    go_wp2_with (first | ((with_reducible refine load_sz 43 13 sz67 _ q 0 cs hl ?_ HRr.out ?_); rfl) | ((with_reducible refine store_sz 43 13 sz67 _ _ q2 0 cs hl HO.out ?_ ?_ HThq.out ?_); rfl; rfl) | fail)
    exact bodyPost_ret (v := .agg cs.toArray) (results_sz sz67 Try.results38 hl rfl HR6.out) rfl (HFq.out _ rfl)
end Go.Proofs.Ytkbboingeacgjaa

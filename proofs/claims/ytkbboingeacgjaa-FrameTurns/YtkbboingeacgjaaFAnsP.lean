/-
  Answers of the frame: parsed, walked.
-/
import Derived.Test.YtkbboingeacgjaaFAns
namespace Go.Proofs.Ytkbboingeacgjaa
open Go.RowKit

def Aw.zero : Aw := ⟨0, 0, 0, 0, ByteArray.empty, 0, 0, 0, 0, 0, 0, 0, 0⟩
def Aw.setS (a : Aw) (nm : ByteArray) (xs : List Int) : Aw := { a with nm := nm, z1 := xs.getD 0 0, z2 := xs.getD 1 0, z3 := xs.getD 2 0, z4 := xs.getD 3 0, z5 := xs.getD 4 0, z6 := xs.getD 5 0, z7 := xs.getD 6 0, z8 := xs.getD 7 0 }
/-- What the parser makes of bytes. -/
def panS (s : Sx) : Sx × Aw :=
  let a := takeS s 1
  let b := numS .pr a.1 0
  let c := numS .pr b.1 0
  let d := numS .pr c.1 0
  let f := takeS d.1 1
  let A : Aw := { Aw.zero with er := (a.2.headD 0 : Nat), l1 := b.2, l2 := c.2, l3 := d.2 }
  if f.2.headD 0 = 0 then (f.1, A)
  else if f.2.headD 0 = 1 then
    let t := recS f.1 65
    let p := parsedTi 8 t.2
    (if p.2.2.headD 0 = 0 then refuseS t.1 11 else t.1, A.setS p.2.1 p.2.2)
  else (refuseS f.1 11, A)

/-- A parser, and an answer that is made in a block of the call's own; q2: where it is handed out. -/
structure As (w0 w : World) (b g : Nat) (s : Sx) (q2 q : Nat) (cs : List Value) : Prop where
  st : FpAt w b g s
  fl : w.rangeAt q 0 cs
  th : w.there q 0 cs.length
  t2 : w.there q2 0 13
  kp : Keep (fun x => x ≠ b) w0 w
  qq : w0.heap.size ≤ q ∧ w0.heap.size ≤ q2 ∧ q ≠ q2
  bg : b < w0.heap.size ∧ g < w0.heap.size
theorem As.call {w0 w w' : World} {b g : Nat} {s s' : Sx} {q2 q : Nat} {cs : List Value} (h : As w0 w b g s q2 q cs) (hK : Keep (fun x => x ≠ b) w w') (hS : FpAt w' b g s') : As w0 w' b g s' q2 q cs :=
  ⟨hS, fun j v hj => (World.cell?_of_block (a := ⟨q, 0 + j, none⟩) (hK.block q (lt_of_cell (h.fl j v hj)) (by have := h.qq.1; have := h.bg.1; omega))).trans (h.fl j v hj), there_keep hK (by have := h.qq.1; have := h.bg.1; omega) h.th, there_keep hK (by have := h.qq.2.1; have := h.bg.1; omega) h.t2, h.kp.trans hK, h.qq, h.bg⟩
theorem As.puts {w0 w : World} {b g : Nat} {s : Sx} {q2 q : Nat} {cs : List Value} (h : As w0 w b g s q2 q cs) (o : Nat) (vs : List Value) (hl : o + vs.length ≤ cs.length) : As w0 (w.setCells q o vs) b g s q2 q (cs.take o ++ vs ++ cs.drop (o + vs.length)) := by
  have hn : (cs.take o ++ vs ++ cs.drop (o + vs.length)).length = cs.length := by
    rw [List.length_append, List.length_append, List.length_take, List.length_drop]
    omega
  have h1 := h.qq
  have h2 := h.bg
  exact ⟨h.st.keep (P := fun x => x ≠ q) ((Keep.refl _ w).setCells (.inl (fun h => h rfl)) o vs) (by omega) (by omega), range_puts h.fl h.th hl, by rw [hn]; exact World.there_setCells h.th _ _ _, there_blk h.t2 (heap_setCellsN q q2 (by omega) vs o w), h.kp.setCells (.inr h1.1) o vs, h.qq, h.bg⟩

set_option maxRecDepth 100000 in
set_option maxHeartbeats 6400000 in
theorem fpanswer {w : World} {b g : Nat} {s : Sx} (hgl : g < w.heap.size) (h : FpAt w b g s) :
    Calls Try.prog 37 #[.pointer (some ⟨b, 0, none⟩)] w fun r w' => r = .returned (.agg (awC (panS s).2).toArray) ∧ FpAt w' b g (panS s).1 ∧ Keep (fun x => x ≠ b) w w' := by
  have hbl := lt_of_cell h.c0
  have hK0 : Keep (fun _ => True) w (w.alloc (.cells (awC Aw.zero).toArray 43)) := (Keep.refl _ w).alloc _
  have hsz : (w.alloc (.cells (awC Aw.zero).toArray 43)).heap.size = w.heap.size + 1 := by simp
  have hTh : (w.alloc (.cells (awC Aw.zero).toArray 43)).there w.heap.size 0 13 := there_new2 w (awC Aw.zero).toArray 43
  have hS0 := h.keep (P := fun _ => True) hK0 trivial trivial
  obtain ⟨⟨s1, la⟩, e1⟩ : ∃ T, takeS s 1 = T := ⟨_, rfl⟩
  obtain ⟨⟨s2, x1⟩, e2⟩ : ∃ T, numS .pr s1 0 = T := ⟨_, rfl⟩
  obtain ⟨⟨s3, x2⟩, e3⟩ : ∃ T, numS .pr s2 0 = T := ⟨_, rfl⟩
  obtain ⟨⟨s4, x3⟩, e4⟩ : ∃ T, numS .pr s3 0 = T := ⟨_, rfl⟩
  obtain ⟨⟨s5, lf⟩, e5⟩ : ∃ T, takeS s4 1 = T := ⟨_, rfl⟩
  obtain ⟨⟨s6, lt⟩, e6⟩ : ∃ T, recS s5 65 = T := ⟨_, rfl⟩
  obtain ⟨k, hk⟩ : ∃ k, la.headD 0 = k := ⟨_, rfl⟩
  obtain ⟨f, hf⟩ : ∃ f, lf.headD 0 = f := ⟨_, rfl⟩
  have hP : panS s = if f = 0 then (s5, { Aw.zero with er := (k : Nat), l1 := x1, l2 := x2, l3 := x3 }) else if f = 1 then (if (parsedTi 8 lt).2.2.headD 0 = 0 then refuseS s6 11 else s6, Aw.setS { Aw.zero with er := (k : Nat), l1 := x1, l2 := x2, l3 := x3 } (parsedTi 8 lt).2.1 (parsedTi 8 lt).2.2) else (refuseS s5 11, { Aw.zero with er := (k : Nat), l1 := x1, l2 := x2, l3 := x3 }) := by
    unfold panS
    simp only [e1, e2, e3, e4, e5, e6, hk, hf]
  have HP := hide hP
  have HC1 := hide (fpoctet hS0)
  rw [e1] at HC1
  dsimp only at HC1
  rw [hk] at HC1
  have HE2 := hide e2
  have HE3 := hide e3
  have HE4 := hide e4
  have HE5 := hide e5
  have HE6 := hide e6
  have HF := hide hf
  have HK0 := hide hK0
  have HTh := hide hTh
  have HZ := hide hsz
  clear hP e1 e2 e3 e4 e5 e6 hk hf hK0 hTh hsz hS0 h
  generalize hT : panS s = T at *
  clear hT
  generalize hrb : w.heap.size = rb at *
  have HW := hide hrb
  go_enter Try.func37, Try.ntmps37
  go_wp2_with fail
  clear hrb
  change Calls Try.prog _ _ (w.alloc (.cells (awC Aw.zero).toArray 43)) _
  generalize w.alloc (.cells (awC Aw.zero).toArray 43) = w0 at *
  refine HC1.out.mono ?_
  rintro e w1 ⟨rfl, hS, hK, _⟩
  have HS1 := hide hS
  have HK1 := hide hK
  clear hS hK HC1
  go_wp2_with fail
  refine (fpnum 0 HS1.out).mono ?_
  rintro e w2 ⟨rfl, hS, hK⟩
  rw [HE2.out] at hS ⊢
  have HS2 := hide hS
  have HK2 := hide (HK1.out.trans hK)
  clear hS hK
  dsimp only at HS2 ⊢
  go_wp2_with fail
  refine (fpnum 0 HS2.out).mono ?_
  rintro e w3 ⟨rfl, hS, hK⟩
  rw [HE3.out] at hS ⊢
  have HS3 := hide hS
  have HK3 := hide (HK2.out.trans hK)
  clear hS hK
  dsimp only at HS3 ⊢
  go_wp2_with fail
  refine (fpnum 0 HS3.out).mono ?_
  rintro e w4 ⟨rfl, hS, hK⟩
  rw [HE4.out] at hS ⊢
  have hK4 := HK3.out.trans hK
  have hz4 := hK4.size
  have HA1 : Hid (As w (w4.alloc (.cells #[.int .i64 (k : Nat), .int .i64 x1, .int .i64 x2, .int .i64 x3, .string { data := #[] }, .int .i64 0, .int .i64 0, .int .i64 0, .int .i64 0, .int .i64 0, .int .i64 0, .int .i64 0, .int .i64 0] 43)) b g s4 rb w4.heap.size (awC { Aw.zero with er := (k : Nat), l1 := x1, l2 := x2, l3 := x3 })) :=
    ⟨hS.keep (P := fun _ => True) ((Keep.refl _ w4).alloc _) trivial trivial, rng_new w4 (awC { Aw.zero with er := (k : Nat), l1 := x1, l2 := x2, l3 := x3 }) #[.int .i64 (k : Nat), .int .i64 x1, .int .i64 x2, .int .i64 x3, .string { data := #[] }, .int .i64 0, .int .i64 0, .int .i64 0, .int .i64 0, .int .i64 0, .int .i64 0, .int .i64 0, .int .i64 0] _ rfl, there_new2 w4 #[.int .i64 (k : Nat), .int .i64 x1, .int .i64 x2, .int .i64 x3, .string { data := #[] }, .int .i64 0, .int .i64 0, .int .i64 0, .int .i64 0, .int .i64 0, .int .i64 0, .int .i64 0, .int .i64 0] _, there_blk (there_keep hK4 (by omega) HTh.out) (Below.heap_alloc _ _ _ (by have := HZ.out; omega)), ((HK0.out.less (fun _ _ _ => trivial)).trans hK4).alloc _, ⟨by have := HZ.out; have := HW.out; omega, by have := HW.out; omega, by have := HZ.out; omega⟩, ⟨by have := HW.out; omega, by have := HW.out; omega⟩⟩
  clear hS hK hK4 hz4 HS1 HS2 HS3 HK1 HK2 HK3
  dsimp only
  go_upto_region 2 with fail
  generalize hq : w4.heap.size = q at *
  clear hq
  generalize w4.alloc (.cells #[.int .i64 (k : Nat), .int .i64 x1, .int .i64 x2, .int .i64 x3, .string { data := #[] }, .int .i64 0, .int .i64 0, .int .i64 0, .int .i64 0, .int .i64 0, .int .i64 0, .int .i64 0, .int .i64 0] 43) = v1 at *
  generalize hA : ({ Aw.zero with er := (k : Nat), l1 := x1, l2 := x2, l3 := x3 } : Aw) = A at *
  have HAe := hide hA
  clear hA
  go_wp2_with fail
  refine (fpoctet HA1.out.st).mono ?_
  rintro e v2 ⟨rfl, hS, hK, _⟩
  rw [HE5.out] at hS ⊢
  dsimp only at hS ⊢
  rw [HF.out]
  have HA2 := hide (HA1.out.call hK hS)
  have HEnd : Hid (∀ (v : World) (A' : Aw) (s' : Sx), As w v b g s' rb q (awC A') → T = (s', A') → v.rangeAt q 0 (awC A') ∧ v.there rb 0 13 ∧ (v.setCells rb 0 (awC A')).rangeAt rb 0 (awC A') ∧ FpAt (v.setCells rb 0 (awC A')) b g T.1 ∧ Keep (fun x => x ≠ b) w (v.setCells rb 0 (awC A')) ∧ T.2 = A') := fun v A' s' hA hT => by
    have h1 := hA.qq
    have h2 := hA.bg
    refine ⟨hA.fl, hA.t2, World.rangeAt_setCells_same v rb 0 (awC A') hA.t2, ?_, hA.kp.setCells (.inr h1.2.1) 0 _, by rw [hT]⟩
    rw [hT]
    exact hA.st.keep (P := fun x => x ≠ rb) ((Keep.refl _ v).setCells (.inl (fun h => h rfl)) 0 _) (by omega) (by omega)
  clear hS hK HA1
  by_cases h0 : f = 0
  · subst h0
    rw [if_pos rfl] at HP
    obtain ⟨hr, ht, hr6, hfin⟩ := HEnd.out v2 A s5 HA2.out HP.out
    have HR := hide hr
    have HTq := hide ht
    have HR6 := hide hr6
    have HFin := hide hfin
    have hl13 := awC_len A
    have HOne := hide (awC_one A)
    clear hr ht hr6 hfin HP HEnd HA2
    generalize hcs : awC A = cs at *
    go_wp2_with (first | ((with_reducible refine load_sz 43 13 sz67 _ q 0 cs hl13 ?_ HR.out ?_); rfl) | ((with_reducible refine store_sz 43 13 sz67 _ _ rb 0 cs hl13 HOne.out ?_ ?_ HTq.out ?_); rfl; rfl) | fail)
    refine bodyPost_ret (v := .agg cs.toArray) (results_sz sz67 Try.results37 hl13 rfl HR6.out) rfl ⟨?_, HFin.out.1, HFin.out.2.1⟩
    rw [HFin.out.2.2, hcs]
  · rw [if_neg h0] at HP
    by_cases h1 : f = 1
    · subst h1
      rw [if_pos rfl] at HP
      have hz1 : w.heap.size ≤ v2.heap.size := HA2.out.kp.size
      have HC6 := hide (fpstm (by have := HW.out; omega) HA2.out.st)
      unfold fpstmP at HC6
      rw [HE6.out] at HC6
      dsimp only at HC6
      go_wp2_with fail
      refine HC6.out.mono ?_
      rintro e v3 ⟨ff, nm, y1, y2, y3, y4, y5, y6, y7, y8, hp, rfl, hS, hK⟩
      rw [hp] at HP
      have hA3 := (HA2.out.call hK hS).puts 4 (stmC nm y1 y2 y3 y4 y5 y6 y7 y8) (by simp [awC, stmC])
      have HA3 : Hid (As w (v3.setCells q 4 (stmC nm y1 y2 y3 y4 y5 y6 y7 y8)) b g s6 rb q (awC (Aw.setS A nm [y1, y2, y3, y4, y5, y6, y7, y8]))) := hA3
      have HT9 : Hid (v3.there q 4 9) := fun j hj => by
        have := (HA2.out.call hK hS).th (4 + j) (by simp [awC]; omega)
        rw [Nat.zero_add] at this
        exact this
      have hl9 : (stmC nm y1 y2 y3 y4 y5 y6 y7 y8).length = 9 := rfl
      have HO9 := hide (stmC_one nm y1 y2 y3 y4 y5 y6 y7 y8)
      have c5 : (v3.setCells q 4 (stmC nm y1 y2 y3 y4 y5 y6 y7 y8)).cell? ⟨q, 5, none⟩ = some (.int .i64 y1) := by
        have := hA3.fl 5 (.int .i64 y1) rfl
        rw [Nat.zero_add] at this
        exact this
      dsimp only at HP
      clear hA3 hp hS hK HC6 HA2
      generalize hc9 : stmC nm y1 y2 y3 y4 y5 y6 y7 y8 = c9 at *
      generalize hA' : Aw.setS A nm [y1, y2, y3, y4, y5, y6, y7, y8] = A' at *
      clear hA'
      rw [show [y1, y2, y3, y4, y5, y6, y7, y8].headD 0 = y1 from rfl] at HP
      by_cases hz : y1 = 0
      · subst hz
        rw [if_pos rfl] at HP
        go_wp2_with (first | ((with_reducible refine store_sz 41 9 sz40 _ _ q 4 c9 hl9 HO9.out ?_ ?_ HT9.out ?_); rfl; rfl) | fail)
        refine (fprefuse 11 HA3.out.st).mono ?_
        rintro e v4 ⟨rfl, hS, hK⟩
        obtain ⟨hr, ht, hr6, hfin⟩ := HEnd.out v4 A' _ (HA3.out.call hK hS) HP.out
        have HR := hide hr
        have HTq := hide ht
        have HR6 := hide hr6
        have HFin := hide hfin
        have hl13 := awC_len A'
        have HOne := hide (awC_one A')
        clear hr ht hr6 hfin HP HEnd HA3 hS hK c5
        generalize hcs : awC A' = cs at *
        go_wp2_with (first | ((with_reducible refine load_sz 43 13 sz67 _ q 0 cs hl13 ?_ HR.out ?_); rfl) | ((with_reducible refine store_sz 43 13 sz67 _ _ rb 0 cs hl13 HOne.out ?_ ?_ HTq.out ?_); rfl; rfl) | fail)
        refine bodyPost_ret (v := .agg cs.toArray) (results_sz sz67 Try.results37 hl13 rfl HR6.out) rfl ⟨?_, HFin.out.1, HFin.out.2.1⟩
        rw [HFin.out.2.2, hcs]
      · rw [if_neg hz] at HP
        go_upto_region 9 with (first | ((with_reducible refine store_sz 41 9 sz40 _ _ q 4 c9 hl9 HO9.out ?_ ?_ HT9.out ?_); rfl; rfl) | fail)
        generalize v3.setCells q 4 c9 = v4 at *
        obtain ⟨hr, ht, hr6, hfin⟩ := HEnd.out v4 A' _ HA3.out HP.out
        have HR := hide hr
        have HTq := hide ht
        have HR6 := hide hr6
        have HFin := hide hfin
        have hl13 := awC_len A'
        have HOne := hide (awC_one A')
        clear hr ht hr6 hfin HP HEnd HA3 c5
        generalize hcs : awC A' = cs at *
        go_wp2_with (first | ((with_reducible refine load_sz 43 13 sz67 _ q 0 cs hl13 ?_ HR.out ?_); rfl) | ((with_reducible refine store_sz 43 13 sz67 _ _ rb 0 cs hl13 HOne.out ?_ ?_ HTq.out ?_); rfl; rfl) | fail)
        refine bodyPost_ret (v := .agg cs.toArray) (results_sz sz67 Try.results37 hl13 rfl HR6.out) rfl ⟨?_, HFin.out.1, HFin.out.2.1⟩
        rw [HFin.out.2.2, hcs]
    · rw [if_neg h1] at HP
      have n0 : ¬ ((f : Nat) : Int) = 0 := by omega
      have n1 : ¬ ((f : Nat) : Int) = 1 := by omega
      have c5 : v2.cell? ⟨q, 5, none⟩ = some (.int .i64 0) := by
        have := HA2.out.fl 5 (.int .i64 0) (by rw [← HAe.out]; rfl)
        rw [Nat.zero_add] at this
        exact this
      go_wp2_with fail
      refine (fprefuse 11 HA2.out.st).mono ?_
      rintro e v4 ⟨rfl, hS, hK⟩
      obtain ⟨hr, ht, hr6, hfin⟩ := HEnd.out v4 A _ (HA2.out.call hK hS) HP.out
      have HR := hide hr
      have HTq := hide ht
      have HR6 := hide hr6
      have HFin := hide hfin
      have hl13 := awC_len A
      have HOne := hide (awC_one A)
      clear hr ht hr6 hfin HP HEnd HA2 hS hK c5
      generalize hcs : awC A = cs at *
      go_wp2_with (first | ((with_reducible refine load_sz 43 13 sz67 _ q 0 cs hl13 ?_ HR.out ?_); rfl) | ((with_reducible refine store_sz 43 13 sz67 _ _ rb 0 cs hl13 HOne.out ?_ ?_ HTq.out ?_); rfl; rfl) | fail)
      refine bodyPost_ret (v := .agg cs.toArray) (results_sz sz67 Try.results37 hl13 rfl HR6.out) rfl ⟨?_, HFin.out.1, HFin.out.2.1⟩
      rw [HFin.out.2.2, hcs]

end Go.Proofs.Ytkbboingeacgjaa

/-
  PROVED: tolllaw6.RecTurns answers true for every account and statement, whatever bytes are turned, cut off and put behind, and leaves all that was there as it was.
-/
import Derived.Test.YtghgkjollafeiaaU2
import Derived.Test.YtghgkjollafeiaaAD
import Derived.Deep.Cut
import Derived.Deep.CutRange
import Derived.Deep.CutBlock
import Derived.ProofKit
namespace Go.Proofs.Ytghgkjollafeiaa
open Go.RowKit

/-- What is done where the value of that number is true. -/
def thenOf (n : Nat) : Code → Option Code
  | .seq a b => match thenOf n a with
    | some c => some c
    | none => thenOf n b
  | .cond (.tmp m) a b => if m = n then some a else match thenOf n a with
    | some c => some c
    | none => thenOf n b
  | .cond _ a b => match thenOf n a with
    | some c => some c
    | none => thenOf n b
  | .block _ c => thenOf n c
  | .loop c => thenOf n c
  | .scope c => thenOf n c
  | _ => none
/-- An arm of RecTurns. -/
noncomputable def arm5 (n : Nat) : Code := match Try.f5.body with
  | some c => (thenOf n c).getD .skip
  | none => .skip

/-- An account of nothing. -/
def zaccD : AccD := ⟨noT, noT, noT, nz 9, nz 3, [], nz 2, [], []⟩
theorem rows_nil (w : World) (k : Nat) : RowsAt w (.slice none 0 0) k [] := ⟨none, 0, rfl, Nat.le_refl _, Nat.zero_le _, fun _ h => (by cases h), .inl rfl⟩
theorem zacc_in (w : World) : AcIn w zaccL zaccD (.slice none 0 0) (.slice none 0 0) (.slice none 0 0) [] :=
  ⟨rfl, rfl, rfl, rfl, fun _ h => (by cases h), rows_nil w 9, rfl, rows_nil w 4, fun _ h => (by cases h), fun _ h => (by cases h), rows_nil w 14⟩
theorem ok_small {d : AccD} (h : AccOk d) : Small d := ⟨by have := h.lots; omega, by have := h.holds; omega, fun x hx => by have := h.ps x hx; omega, by have := h.win; omega⟩
theorem there_any (w : World) (A : Array Value) (t n : Nat) (hn : A.size = n) : (w.alloc (.cells A t)).there w.heap.size 0 n := fun j hj => by
  have hb : (w.alloc (.cells A t)).heap[w.heap.size]? = some (.cells A t (0, 0)) := Array.getElem?_push_size
  refine ⟨?_, frozen_of_row _ _ _ _ _ hb⟩
  rw [cell_of_row _ _ _ _ _ _ hb, Nat.zero_add, Array.getElem?_eq_getElem (show j < A.size by omega)]
  rfl
theorem Eql.nbin {t : TypeId} {A B : Array Value} (h : Eql t A B true) (w : World) : (binOp .neq t (.agg A) (.agg B)).run Try.prog w = .ok (.bool false) w := by
  rw [run_neq_struct, h w]
  rfl

theorem end_el {s : Sx} (h : endS s = 0) : s.e = 0 ∧ s.l = [] := by
  unfold endS at h
  split at h
  · rename_i k; exact ⟨h, k⟩
  · exact (refuse_e h (by decide)).elim

theorem ti_back (k : Nat) (l : List Nat) (hb : Byt l) {f : Nat} {nm : ByteArray} {xs : List Int} (h : parsedTi k l = (f, nm, xs)) (hf : f = 0) : l = tiB nm xs ∧ nm.size ≤ 255 := by
  unfold parsedTi at h
  rw [show noText = ByteArray.empty from rfl] at h
  split at h
  · rename_i h0
    obtain ⟨k1, k2, k3⟩ := wb_ti k ⟨l, 0⟩ hb (end_el h0).1
    have hr := (end_el h0).2
    generalize tiS .pr ⟨l, 0⟩ ByteArray.empty (List.replicate k 0) = T at *
    obtain ⟨s, nm', xs'⟩ := T
    injection h with h1 h2
    injection h2 with h2 h3
    subst h2 h3
    simp only at k2 k3 hr
    rw [hr, List.append_nil] at k2
    exact ⟨k2, k3⟩
  · rename_i h0
    injection h with h1 h2
    exact absurd (h1.trans hf) h0

/-- Both parsers of the same bytes. -/
theorem parsed_same {w0 w w' : World} {l : List Nat} {cx cy : List Value} {f f2 : Nat} {w1 : World} (h : ParsedA w0 w l cx f) (h2 : ParsedA w1 w' l cy f2) (hT : Turn [] w w') (hl : Byt l) (hlen : l.length ≤ 500000000) :
    f2 = f ∧ cx.length = 20 ∧ One cx ∧ cy.length = 20 ∧ One cy ∧ (∀ w2, Turn [] w' w2 → Calls Try.prog 12 #[.agg cx.toArray, .agg cy.toArray] w2 fun e w'' => e = .returned (.bool true) ∧ Turn [] w2 w'') ∧ (f = 0 → ∀ w2, Turn [] w' w2 → Calls Try.prog 9 #[.agg cx.toArray] w2 fun r w'' => ∃ v, r = .returned v ∧ Out w2 w'' v l) := by
  obtain ⟨e1, v1, z1, t1⟩ := h
  obtain ⟨e2, v2, z2, t2⟩ := h2
  have ef : f2 = f := e2.trans e1.symm
  subst ef
  by_cases hf : f2 = 0
  · have a1 := v1 hf
    have a2 := v2 hf
    obtain ⟨q1, q2⟩ := wb_acc l hl hlen (e2.symm.trans hf)
    obtain ⟨x1, x2, x3, hx, hX⟩ := a1.acin
    obtain ⟨y1, y2, y3, hy, hY⟩ := a2.acin
    obtain ⟨r, hr, hS, _⟩ := same_both (hX.turn hT) hY (ok_small q2)
    obtain rfl : r = true := hr rfl
    refine ⟨rfl, a1.len.1, a1.len.2, a2.len.1, a2.len.2, hS, fun _ w2 hT2 => ?_⟩
    have := EncodeAccount_any w2 _ cx x1 x2 x3 hx q2 (hX.turn (hT.trans hT2))
    rw [q1] at this
    exact this
  · obtain rfl := z1 hf
    obtain rfl := z2 hf
    obtain ⟨r, hr, hS, _⟩ := same_both (zacc_in w') (zacc_in w') ⟨by simp [zaccD], by simp [zaccD], fun _ h => (by cases h), by simp [zaccD]⟩
    obtain rfl : r = true := hr rfl
    exact ⟨rfl, rfl, zaccL_one, rfl, zaccL_one, hS, fun h => absurd h hf⟩

set_option maxRecDepth 100000 in
set_option maxHeartbeats 12800000 in
theorem arm0 {W : World} {g0 g1 g2 g3 g4 g5 g6 g7 g8 g9 g10 g11 g12 g13 g14 g16 g18 g19 g20 g21 g22 g23 g24 g25 g26 g27 g28 g29 g30 g31 g32 g33 g34 g35 g36 g37 g38 g39 g40 g41 g42 g43 g44 g45 g46 g47 g48 g49 g50 g51 g52 g53 g54 g55 g56 g57 g58 g59 g60 g61 g62 g63 g64 g65 g66 g67 g68 g69 g70 g71 g72 g73 g74 g75 g76 g77 g78 g79 g80 g81 g82 g83 g84 g85 g86 g87 g88 g89 g90 g91 g92 g93 g94 g95 g96 g97 g98 g99 g100 g101 g102 g103 g104 g105 g106 g107 g108 g109 g110 g111 g112 g113 g114 g115 g116 g117 g118 g119 g120 g121 g122 g123 g124 g125 g126 g127 g128 g129 g130 g131 g132 g133 g134 g135 g136 g137 g138 g139 g140 g141 g142 g143 g144 g145 g146 g147 g148 g149 g150 g151 g152 g153 g154 g155 g156 g157 g158 g159 g160 g161 g162 g163 g164 g165 g166 g167 g168 g169 g170 g171 g172 g173 g174 g175 g176 g177 g178 g179 g180 g181 g182 g183 g184 g185 g186 g187 g188 g189 g190 g191 g192 g193 g194 g195 g196 g197 g198 g199 g200 g201 g202 g203 g204 g205 g206 g207 g208 g209 : Value} (ba ma : Option Addr) (capb capm : Nat) (LB : List Nat) (Q : Exit → Act → World → Prop)
    (hB : BytesAt W ba LB) (hM : BytesAt W ma LB) (hcb : LB.length ≤ capb) (hcm : LB.length ≤ capm) (hcx : capm ≤ maxLen) (hma : ma = none ∧ capm = 0 ∨ ∃ ab ao, ma = some ⟨ab, ao, none⟩) (hl : LB.length ≤ 1000000) (hbyt : Byt LB)
    (HQ : Hid (∀ (t18 t19 t20 t21 t115 t116 t117 t118 t119 t120 t121 t122 t123 t124 t125 t126 t127 t128 t129 t130 t131 t132 t133 t134 t135 t136 t137 t138 t139 t140 t141 t142 t143 t144 : Value) w', Turn [] W w' → Q .normal ⟨#[g0, g1, g2, g3, g4, g5, g6, g7, g8, g9, g10, g11, g12, g13, g14, .slice ba LB.length capb, g16, .slice ma LB.length capm, t18, t19, t20, t21, g22, g23, g24, g25, g26, g27, g28, g29, g30, g31, g32, g33, g34, g35, g36, g37, g38, g39, g40, g41, g42, g43, g44, g45, g46, g47, g48, g49, g50, g51, g52, g53, g54, g55, g56, g57, g58, g59, g60, g61, g62, g63, g64, g65, g66, g67, g68, g69, g70, g71, g72, g73, g74, g75, g76, g77, g78, g79, g80, g81, g82, g83, g84, g85, g86, g87, g88, g89, g90, g91, g92, g93, g94, g95, g96, g97, g98, g99, g100, g101, g102, g103, g104, g105, g106, g107, g108, g109, g110, g111, g112, g113, g114, t115, t116, t117, t118, t119, t120, t121, t122, t123, t124, t125, t126, t127, t128, t129, t130, t131, t132, t133, t134, t135, t136, t137, t138, t139, t140, t141, t142, t143, t144, .bool false, g146, g147, g148, g149, g150, g151, g152, g153, g154, g155, g156, g157, g158, g159, g160, g161, g162, g163, g164, g165, g166, g167, g168, g169, g170, g171, g172, g173, g174, g175, g176, g177, g178, g179, g180, g181, g182, g183, g184, g185, g186, g187, g188, g189, g190, g191, g192, g193, g194, g195, g196, g197, g198, g199, g200, g201, g202, g203, g204, g205, g206, g207, g208, g209], []⟩ w')) :
    Code.wp Try.prog (arm5 113) Q ⟨#[g0, g1, g2, g3, g4, g5, g6, g7, g8, g9, g10, g11, g12, g13, g14, .slice ba LB.length capb, g16, .slice ma LB.length capm, g18, g19, g20, g21, g22, g23, g24, g25, g26, g27, g28, g29, g30, g31, g32, g33, g34, g35, g36, g37, g38, g39, g40, g41, g42, g43, g44, g45, g46, g47, g48, g49, g50, g51, g52, g53, g54, g55, g56, g57, g58, g59, g60, g61, g62, g63, g64, g65, g66, g67, g68, g69, g70, g71, g72, g73, g74, g75, g76, g77, g78, g79, g80, g81, g82, g83, g84, g85, g86, g87, g88, g89, g90, g91, g92, g93, g94, g95, g96, g97, g98, g99, g100, g101, g102, g103, g104, g105, g106, g107, g108, g109, g110, g111, g112, g113, g114, g115, g116, g117, g118, g119, g120, g121, g122, g123, g124, g125, g126, g127, g128, g129, g130, g131, g132, g133, g134, g135, g136, g137, g138, g139, g140, g141, g142, g143, g144, g145, g146, g147, g148, g149, g150, g151, g152, g153, g154, g155, g156, g157, g158, g159, g160, g161, g162, g163, g164, g165, g166, g167, g168, g169, g170, g171, g172, g173, g174, g175, g176, g177, g178, g179, g180, g181, g182, g183, g184, g185, g186, g187, g188, g189, g190, g191, g192, g193, g194, g195, g196, g197, g198, g199, g200, g201, g202, g203, g204, g205, g206, g207, g208, g209], []⟩ W := by
  conv => arg 2; whnf
  have HB := hide hB
  have HM := hide hM
  have HMa := hide hma
  have HBy := hide hbyt
  have HCx := hide hcx
  have HCm := hide hcm
  have HCb := hide hcb
  have HLn := hide hl
  have HBW : Hid (∀ {w'}, Turn [] W w' → BytesAt w' ba LB) := fun hT => hB.turn hT (by simp)
  clear hB hM hma hbyt hcx hcm hcb hl
  go_wp2_with fail
  refine (ParseAccount_any ma capm LB.length LB rfl HM.out HCm.out HCx.out HMa.out HBy.out).mono ?_
  rintro e w1 ⟨cx, f, rfl, hPx⟩
  have HP := hide hPx
  have HT1 : Hid (Turn [] W w1) := hPx.2.2.2
  obtain ⟨lx, ox⟩ : cx.length = 20 ∧ One cx := by
    by_cases hf : f = 0
    · exact (hPx.2.1 hf).len
    · rw [hPx.2.2.1 hf]; exact ⟨rfl, zaccL_one⟩
  have HOx := hide ox
  clear hPx ox
  have HTh := hide (there_any w1 #[Value.string { data := #[] }, Value.string { data := #[] }, Value.string { data := #[] }, Value.int .i64 0, Value.int .i64 0, Value.int .i64 0, Value.int .i64 0, Value.int .i64 0, Value.int .i64 0, Value.int .i64 0, Value.int .i64 0, Value.int .i64 0, Value.int .i64 0, Value.int .i64 0, Value.int .i64 0, Value.slice none 0 0, Value.int .i64 0, Value.int .i64 0, Value.slice none 0 0, Value.slice none 0 0] 28 20 rfl)
  have HTz : Hid (Turn [] w1 ((w1.alloc (.cells #[Value.string { data := #[] }, Value.string { data := #[] }, Value.string { data := #[] }, Value.int .i64 0, Value.int .i64 0, Value.int .i64 0, Value.int .i64 0, Value.int .i64 0, Value.int .i64 0, Value.int .i64 0, Value.int .i64 0, Value.int .i64 0, Value.int .i64 0, Value.int .i64 0, Value.int .i64 0, Value.slice none 0 0, Value.int .i64 0, Value.int .i64 0, Value.slice none 0 0, Value.slice none 0 0] 28)).setCells w1.heap.size 0 cx)) := Turn.setCellsN ((Turn.refl [] w1).alloc _) _ (Nat.le_refl _) _ _
  have HRx : Hid (((w1.alloc (.cells #[Value.string { data := #[] }, Value.string { data := #[] }, Value.string { data := #[] }, Value.int .i64 0, Value.int .i64 0, Value.int .i64 0, Value.int .i64 0, Value.int .i64 0, Value.int .i64 0, Value.int .i64 0, Value.int .i64 0, Value.int .i64 0, Value.int .i64 0, Value.int .i64 0, Value.int .i64 0, Value.slice none 0 0, Value.int .i64 0, Value.int .i64 0, Value.slice none 0 0, Value.slice none 0 0] 28)).setCells w1.heap.size 0 cx).rangeAt w1.heap.size 0 cx) := World.rangeAt_setCells_same _ _ _ _ (by rw [lx]; exact HTh.out)
  go_wp2_with (first | ((with_reducible refine store_acc _ _ w1.heap.size 0 cx lx HOx.out ?_ ?_ HTh.out ?_); rfl; rfl) | fail)
  generalize (w1.alloc (.cells #[Value.string { data := #[] }, Value.string { data := #[] }, Value.string { data := #[] }, Value.int .i64 0, Value.int .i64 0, Value.int .i64 0, Value.int .i64 0, Value.int .i64 0, Value.int .i64 0, Value.int .i64 0, Value.int .i64 0, Value.int .i64 0, Value.int .i64 0, Value.int .i64 0, Value.int .i64 0, Value.slice none 0 0, Value.int .i64 0, Value.int .i64 0, Value.slice none 0 0, Value.slice none 0 0] 28)).setCells w1.heap.size 0 cx = w2 at *
  have HT2 := hide (HT1.out.trans HTz.out)
  have HXl : Hid (w1.heap.size < w2.heap.size) := lt_of_cell (HRx.out 0 _ (List.getElem?_eq_getElem (by rw [lx]; omega)))
  generalize w1.heap.size = bx at *
  clear HTh
  refine (rpAcc ba capb LB (HBW.out HT2.out) HCb.out HLn.out HBy.out).mono ?_
  rintro e w3 ⟨cy, f2, rfl, hPy⟩
  have HT3 := hide (HT2.out.trans hPy.2.2.2)
  have HRx3 := hide (rangeAt_keep HRx.out (hPy.2.2.2.block bx HXl.out (by simp)))
  obtain ⟨ef, _, _, ly, oy, hSm, hEn⟩ := parsed_same HP.out hPy (HTz.out.trans hPy.2.2.2) HBy.out (by have := HLn.out; omega)
  subst ef
  have HSm := hide hSm
  have HEn := hide hEn
  have HOy := hide oy
  clear hPy hSm hEn oy
  have HTh := hide (there_any w3 #[Value.string { data := #[] }, Value.string { data := #[] }, Value.string { data := #[] }, Value.int .i64 0, Value.int .i64 0, Value.int .i64 0, Value.int .i64 0, Value.int .i64 0, Value.int .i64 0, Value.int .i64 0, Value.int .i64 0, Value.int .i64 0, Value.int .i64 0, Value.int .i64 0, Value.int .i64 0, Value.slice none 0 0, Value.int .i64 0, Value.int .i64 0, Value.slice none 0 0, Value.slice none 0 0] 28 20 rfl)
  have HTz3 : Hid (Turn [] w3 ((w3.alloc (.cells #[Value.string { data := #[] }, Value.string { data := #[] }, Value.string { data := #[] }, Value.int .i64 0, Value.int .i64 0, Value.int .i64 0, Value.int .i64 0, Value.int .i64 0, Value.int .i64 0, Value.int .i64 0, Value.int .i64 0, Value.int .i64 0, Value.int .i64 0, Value.int .i64 0, Value.int .i64 0, Value.slice none 0 0, Value.int .i64 0, Value.int .i64 0, Value.slice none 0 0, Value.slice none 0 0] 28)).setCells w3.heap.size 0 cy)) := Turn.setCellsN ((Turn.refl [] w3).alloc _) _ (Nat.le_refl _) _ _
  have HRy : Hid (((w3.alloc (.cells #[Value.string { data := #[] }, Value.string { data := #[] }, Value.string { data := #[] }, Value.int .i64 0, Value.int .i64 0, Value.int .i64 0, Value.int .i64 0, Value.int .i64 0, Value.int .i64 0, Value.int .i64 0, Value.int .i64 0, Value.int .i64 0, Value.int .i64 0, Value.int .i64 0, Value.int .i64 0, Value.slice none 0 0, Value.int .i64 0, Value.int .i64 0, Value.slice none 0 0, Value.slice none 0 0] 28)).setCells w3.heap.size 0 cy).rangeAt w3.heap.size 0 cy) := World.rangeAt_setCells_same _ _ _ _ (by rw [ly]; exact HTh.out)
  have HX3 : Hid (bx < w3.heap.size) := lt_of_cell (HRx3.out 0 _ (List.getElem?_eq_getElem (by rw [lx]; omega)))
  go_upto_region 22 with (first | ((with_reducible refine store_acc _ _ w3.heap.size 0 cy ly HOy.out ?_ ?_ HTh.out ?_); rfl; rfl) | fail)
  generalize (w3.alloc (.cells #[Value.string { data := #[] }, Value.string { data := #[] }, Value.string { data := #[] }, Value.int .i64 0, Value.int .i64 0, Value.int .i64 0, Value.int .i64 0, Value.int .i64 0, Value.int .i64 0, Value.int .i64 0, Value.int .i64 0, Value.int .i64 0, Value.int .i64 0, Value.int .i64 0, Value.int .i64 0, Value.slice none 0 0, Value.int .i64 0, Value.int .i64 0, Value.slice none 0 0, Value.slice none 0 0] 28)).setCells w3.heap.size 0 cy = w4 at *
  have HT4 := hide (HT3.out.trans HTz3.out)
  have HYl : Hid (w3.heap.size < w4.heap.size) := lt_of_cell (HRy.out 0 _ (List.getElem?_eq_getElem (by rw [ly]; omega)))
  have HX4 : Hid (bx < w4.heap.size) := Nat.lt_of_lt_of_le HX3.out HTz3.out.size
  have HRx4 := hide (rangeAt_keep HRx3.out (HTz3.out.block bx HX3.out (by simp)))
  generalize w3.heap.size = bz at *
  clear HTh
  have HS : Hid (∀ w', Turn [] w4 w' → (convert 31 9 (.slice ba LB.length capb)).run Try.prog w' = .ok (.string (textOf LB)) w' ∧ w'.rangeAt bx 0 cx ∧ w'.rangeAt bz 0 cy) := fun w' hT => ⟨text_at (HBW.out (HT4.out.trans hT)) _ _ rfl, rangeAt_keep HRx4.out (hT.block bx HX4.out (by simp)), rangeAt_keep HRy.out (hT.block bz HYl.out (by simp))⟩
  by_cases hf : f2 = 0
  · subst hf
    refine reg5_22_ok w4 cx cy bx bz capb ba LB _ lx ly HS (fun w' hT => HSm.out w' (HTz3.out.trans hT)) (fun w' hT => HEn.out rfl w' (HTz3.out.trans hT)) ?_
    intro q125 q126 q127 q128 q129 q130 q131 q132 q133 q134 q135 q136 q137 q138 q139 q140 q141 q142 q143 q144 w5 hT5
    have HT5 := hide (HT4.out.trans hT5)
    clear hT5 HS HSm HEn
    go_wp2_with fail
    exact HQ.out _ _ _ _ _ _ _ _ _ _ _ _ _ _ _ _ _ _ _ _ _ _ _ _ _ _ _ _ _ _ _ _ _ _ _ HT5.out
  · refine reg5_22_bad w4 cx cy bx bz capb f2 ba LB _ lx ly hf HS (fun w' hT => HSm.out w' (HTz3.out.trans hT)) ?_
    have hfn : ¬ ((f2 : Nat) : Int) = 0 := fun k => hf (Int.ofNat.inj k)
    intro q125 q126 q127 q128 q129 q130 q131 q132 q133 q134 q135 q136 q137 q138 q139 q140 q141 q142 q143 q144 w5 hT5
    have HT5 := hide (HT4.out.trans hT5)
    clear hT5 HS HSm HEn
    go_wp2_with fail
    exact HQ.out _ _ _ _ _ _ _ _ _ _ _ _ _ _ _ _ _ _ _ _ _ _ _ _ _ _ _ _ _ _ _ _ _ _ _ HT5.out

set_option maxRecDepth 100000 in
set_option maxHeartbeats 12800000 in
theorem arm1 {W : World} {g0 g1 g2 g3 g4 g5 g6 g7 g8 g9 g10 g11 g12 g13 g14 g16 g18 g19 g20 g21 g22 g23 g24 g25 g26 g27 g28 g29 g30 g31 g32 g33 g34 g35 g36 g37 g38 g39 g40 g41 g42 g43 g44 g45 g46 g47 g48 g49 g50 g51 g52 g53 g54 g55 g56 g57 g58 g59 g60 g61 g62 g63 g64 g65 g66 g67 g68 g69 g70 g71 g72 g73 g74 g75 g76 g77 g78 g79 g80 g81 g82 g83 g84 g85 g86 g87 g88 g89 g90 g91 g92 g93 g94 g95 g96 g97 g98 g99 g100 g101 g102 g103 g104 g105 g106 g107 g108 g109 g110 g111 g112 g113 g114 g115 g116 g117 g118 g119 g120 g121 g122 g123 g124 g125 g126 g127 g128 g129 g130 g131 g132 g133 g134 g135 g136 g137 g138 g139 g140 g141 g142 g143 g144 g145 g146 g147 g148 g149 g150 g151 g152 g153 g154 g155 g156 g157 g158 g159 g160 g161 g162 g163 g164 g165 g166 g167 g168 g169 g170 g171 g172 g173 g174 g175 g176 g177 g178 g179 g180 g181 g182 g183 g184 g185 g186 g187 g188 g189 g190 g191 g192 g193 g194 g195 g196 g197 g198 g199 g200 g201 g202 g203 g204 g205 g206 g207 g208 g209 : Value} (ba ma : Option Addr) (capb capm : Nat) (LB : List Nat) (Q : Exit → Act → World → Prop)
    (hB : BytesAt W ba LB) (hM : BytesAt W ma LB) (hcb : LB.length ≤ capb) (hcm : LB.length ≤ capm) (hcx : capm ≤ maxLen) (hma : ma = none ∧ capm = 0 ∨ ∃ ab ao, ma = some ⟨ab, ao, none⟩) (hl : LB.length ≤ 1000000) (hbyt : Byt LB)
    (HQ : Hid (∀ (t22 t23 t24 t25 t148 t149 t150 t151 t152 t153 t154 t155 t156 t157 t158 t159 t160 t161 t162 t163 t164 t165 t166 t167 t168 t169 t170 t171 t172 t173 t174 t175 t176 : Value) w', Turn [] W w' → Q .normal ⟨#[g0, g1, g2, g3, g4, g5, g6, g7, g8, g9, g10, g11, g12, g13, g14, .slice ba LB.length capb, g16, .slice ma LB.length capm, g18, g19, g20, g21, t22, t23, t24, t25, g26, g27, g28, g29, g30, g31, g32, g33, g34, g35, g36, g37, g38, g39, g40, g41, g42, g43, g44, g45, g46, g47, g48, g49, g50, g51, g52, g53, g54, g55, g56, g57, g58, g59, g60, g61, g62, g63, g64, g65, g66, g67, g68, g69, g70, g71, g72, g73, g74, g75, g76, g77, g78, g79, g80, g81, g82, g83, g84, g85, g86, g87, g88, g89, g90, g91, g92, g93, g94, g95, g96, g97, g98, g99, g100, g101, g102, g103, g104, g105, g106, g107, g108, g109, g110, g111, g112, g113, g114, g115, g116, g117, g118, g119, g120, g121, g122, g123, g124, g125, g126, g127, g128, g129, g130, g131, g132, g133, g134, g135, g136, g137, g138, g139, g140, g141, g142, g143, g144, g145, g146, g147, t148, t149, t150, t151, t152, t153, t154, t155, t156, t157, t158, t159, t160, t161, t162, t163, t164, t165, t166, t167, t168, t169, t170, t171, t172, t173, t174, t175, t176, .bool false, g178, g179, g180, g181, g182, g183, g184, g185, g186, g187, g188, g189, g190, g191, g192, g193, g194, g195, g196, g197, g198, g199, g200, g201, g202, g203, g204, g205, g206, g207, g208, g209], []⟩ w')) :
    Code.wp Try.prog (arm5 146) Q ⟨#[g0, g1, g2, g3, g4, g5, g6, g7, g8, g9, g10, g11, g12, g13, g14, .slice ba LB.length capb, g16, .slice ma LB.length capm, g18, g19, g20, g21, g22, g23, g24, g25, g26, g27, g28, g29, g30, g31, g32, g33, g34, g35, g36, g37, g38, g39, g40, g41, g42, g43, g44, g45, g46, g47, g48, g49, g50, g51, g52, g53, g54, g55, g56, g57, g58, g59, g60, g61, g62, g63, g64, g65, g66, g67, g68, g69, g70, g71, g72, g73, g74, g75, g76, g77, g78, g79, g80, g81, g82, g83, g84, g85, g86, g87, g88, g89, g90, g91, g92, g93, g94, g95, g96, g97, g98, g99, g100, g101, g102, g103, g104, g105, g106, g107, g108, g109, g110, g111, g112, g113, g114, g115, g116, g117, g118, g119, g120, g121, g122, g123, g124, g125, g126, g127, g128, g129, g130, g131, g132, g133, g134, g135, g136, g137, g138, g139, g140, g141, g142, g143, g144, g145, g146, g147, g148, g149, g150, g151, g152, g153, g154, g155, g156, g157, g158, g159, g160, g161, g162, g163, g164, g165, g166, g167, g168, g169, g170, g171, g172, g173, g174, g175, g176, g177, g178, g179, g180, g181, g182, g183, g184, g185, g186, g187, g188, g189, g190, g191, g192, g193, g194, g195, g196, g197, g198, g199, g200, g201, g202, g203, g204, g205, g206, g207, g208, g209], []⟩ W := by
  conv => arg 2; whnf
  have HB := hide hB
  have HM := hide hM
  have HMa := hide hma
  have HBy := hide hbyt
  have HCx := hide hcx
  have HCm := hide hcm
  have HCb := hide hcb
  have HLn := hide hl
  have HBW : Hid (∀ {w'}, Turn [] W w' → BytesAt w' ba LB) := fun hT => hB.turn hT (by simp)
  clear hB hM hma hbyt hcx hcm hcb hl
  go_wp2_with fail
  refine (pplan ma capm LB.length LB rfl HM.out HCm.out HCx.out HMa.out HBy.out).mono ?_
  rintro e w1 ⟨f, nm, y1, y2, y3, y4, y5, y6, y7, y8, y9, hPx, rfl, hT1⟩
  have HP := hide hPx
  have HT1 := hide hT1
  clear hT1
  obtain ⟨cx, hcx⟩ : ∃ cx : List Value, cx = [.string nm, .int .i64 y1, .int .i64 y2, .int .i64 y3, .int .i64 y4, .int .i64 y5, .int .i64 y6, .int .i64 y7, .int .i64 y8, .int .i64 y9] := ⟨_, rfl⟩
  have lx : cx.length = 10 := by rw [hcx]; rfl
  have ox : ∀ v ∈ cx, v.oneCell' = true := by rw [hcx]; intro v hv; simp at hv; rcases hv with rfl | rfl | rfl | rfl | rfl | rfl | rfl | rfl | rfl | rfl <;> rfl
  have HCe : Hid (.agg #[.string nm, .int .i64 y1, .int .i64 y2, .int .i64 y3, .int .i64 y4, .int .i64 y5, .int .i64 y6, .int .i64 y7, .int .i64 y8, .int .i64 y9] = Value.agg cx.toArray) := by rw [hcx]; rfl
  rw [HCe.out]
  have HCl := hide hcx
  clear hcx
  have HOx := hide ox
  clear hPx ox
  have HTh := hide (there_any w1 #[Value.string { data := #[] }, Value.int .i64 0, Value.int .i64 0, Value.int .i64 0, Value.int .i64 0, Value.int .i64 0, Value.int .i64 0, Value.int .i64 0, Value.int .i64 0, Value.int .i64 0] 23 10 rfl)
  have HTz : Hid (Turn [] w1 ((w1.alloc (.cells #[Value.string { data := #[] }, Value.int .i64 0, Value.int .i64 0, Value.int .i64 0, Value.int .i64 0, Value.int .i64 0, Value.int .i64 0, Value.int .i64 0, Value.int .i64 0, Value.int .i64 0] 23)).setCells w1.heap.size 0 cx)) := Turn.setCellsN ((Turn.refl [] w1).alloc _) _ (Nat.le_refl _) _ _
  have HRx : Hid (((w1.alloc (.cells #[Value.string { data := #[] }, Value.int .i64 0, Value.int .i64 0, Value.int .i64 0, Value.int .i64 0, Value.int .i64 0, Value.int .i64 0, Value.int .i64 0, Value.int .i64 0, Value.int .i64 0] 23)).setCells w1.heap.size 0 cx).rangeAt w1.heap.size 0 cx) := World.rangeAt_setCells_same _ _ _ _ (by rw [lx]; exact HTh.out)
  go_wp2_with (first | ((with_reducible refine store_sz 23 10 sz23 _ _ w1.heap.size 0 cx lx HOx.out ?_ ?_ HTh.out ?_); rfl; rfl) | fail)
  generalize (w1.alloc (.cells #[Value.string { data := #[] }, Value.int .i64 0, Value.int .i64 0, Value.int .i64 0, Value.int .i64 0, Value.int .i64 0, Value.int .i64 0, Value.int .i64 0, Value.int .i64 0, Value.int .i64 0] 23)).setCells w1.heap.size 0 cx = w2 at *
  have HT2 := hide (HT1.out.trans HTz.out)
  have HXl : Hid (w1.heap.size < w2.heap.size) := lt_of_cell (HRx.out 0 _ (List.getElem?_eq_getElem (by rw [lx]; omega)))
  generalize w1.heap.size = bx at *
  clear HTh
  refine (rpPlan ba capb LB (HBW.out HT2.out) HCb.out HLn.out HBy.out).mono ?_
  rintro e w3 ⟨f2, nm2, z1, z2, z3, z4, z5, z6, z7, z8, z9, hPy, rfl, hT3⟩
  have HT3 := hide (HT2.out.trans hT3)
  have HRx3 := hide (rangeAt_keep HRx.out (hT3.block bx HXl.out (by simp)))
  have hpe := HP.out.symm.trans hPy
  injection hpe with e0 e1
  injection e1 with e1 e2
  injection e2 with k1 r1
  injection r1 with k2 r2
  injection r2 with k3 r3
  injection r3 with k4 r4
  injection r4 with k5 r5
  injection r5 with k6 r6
  injection r6 with k7 r7
  injection r7 with k8 r8
  injection r8 with k9 r9
  clear r9
  subst e0 e1 k1 k2 k3 k4 k5 k6 k7 k8 k9
  rw [HCe.out]
  have HSm : Hid (∀ w', (binOp .neq 23 (.agg cx.toArray) (.agg cx.toArray)).run Try.prog w' = .ok (.bool false) w') := by rw [← HCe.out]; exact fun w' => Eql.nbin (eql_pp nm y1 y2 y3 y4 y5 y6 y7 y8 y9) w'
  have HEn : Hid (f = 0 → ∀ w2, Calls Try.prog 15 #[.agg cx.toArray] w2 fun r w'' => ∃ v, r = .returned v ∧ Out w2 w'' v LB) := fun hf w2 => by
    rw [← HCe.out]
    obtain ⟨b1, b2⟩ := ti_back 9 LB HBy.out HP.out hf
    have := enc_plan w2 nm y1 y2 y3 y4 y5 y6 y7 y8 y9 b2
    rw [← b1] at this
    exact this
  clear hT3 hPy
  have HTh := hide (there_any w3 #[Value.string { data := #[] }, Value.int .i64 0, Value.int .i64 0, Value.int .i64 0, Value.int .i64 0, Value.int .i64 0, Value.int .i64 0, Value.int .i64 0, Value.int .i64 0, Value.int .i64 0] 23 10 rfl)
  have HTz3 : Hid (Turn [] w3 ((w3.alloc (.cells #[Value.string { data := #[] }, Value.int .i64 0, Value.int .i64 0, Value.int .i64 0, Value.int .i64 0, Value.int .i64 0, Value.int .i64 0, Value.int .i64 0, Value.int .i64 0, Value.int .i64 0] 23)).setCells w3.heap.size 0 cx)) := Turn.setCellsN ((Turn.refl [] w3).alloc _) _ (Nat.le_refl _) _ _
  have HRy : Hid (((w3.alloc (.cells #[Value.string { data := #[] }, Value.int .i64 0, Value.int .i64 0, Value.int .i64 0, Value.int .i64 0, Value.int .i64 0, Value.int .i64 0, Value.int .i64 0, Value.int .i64 0, Value.int .i64 0] 23)).setCells w3.heap.size 0 cx).rangeAt w3.heap.size 0 cx) := World.rangeAt_setCells_same _ _ _ _ (by rw [lx]; exact HTh.out)
  have HX3 : Hid (bx < w3.heap.size) := lt_of_cell (HRx3.out 0 _ (List.getElem?_eq_getElem (by rw [lx]; omega)))
  go_upto_region 27 with (first | ((with_reducible refine store_sz 23 10 sz23 _ _ w3.heap.size 0 cx lx HOx.out ?_ ?_ HTh.out ?_); rfl; rfl) | fail)
  generalize (w3.alloc (.cells #[Value.string { data := #[] }, Value.int .i64 0, Value.int .i64 0, Value.int .i64 0, Value.int .i64 0, Value.int .i64 0, Value.int .i64 0, Value.int .i64 0, Value.int .i64 0, Value.int .i64 0] 23)).setCells w3.heap.size 0 cx = w4 at *
  have HT4 := hide (HT3.out.trans HTz3.out)
  have HYl : Hid (w3.heap.size < w4.heap.size) := lt_of_cell (HRy.out 0 _ (List.getElem?_eq_getElem (by rw [lx]; omega)))
  have HX4 : Hid (bx < w4.heap.size) := Nat.lt_of_lt_of_le HX3.out HTz3.out.size
  have HRx4 := hide (rangeAt_keep HRx3.out (HTz3.out.block bx HX3.out (by simp)))
  generalize w3.heap.size = bz at *
  clear HTh
  have HS : Hid (∀ w', Turn [] w4 w' → (convert 31 9 (.slice ba LB.length capb)).run Try.prog w' = .ok (.string (textOf LB)) w' ∧ w'.rangeAt bx 0 cx ∧ w'.rangeAt bz 0 cx) := fun w' hT => ⟨text_at (HBW.out (HT4.out.trans hT)) _ _ rfl, rangeAt_keep HRx4.out (hT.block bx HX4.out (by simp)), rangeAt_keep HRy.out (hT.block bz HYl.out (by simp))⟩
  by_cases hf : f = 0
  · subst hf
    refine reg5_27_ok w4 cx cx bx bz capb ba LB _ lx lx HS HSm.out (fun w' _ => HEn.out rfl w') ?_
    intro q158 q159 q160 q161 q162 q163 q164 q165 q166 q167 q168 q169 q170 q171 q172 q173 q174 q175 q176 w5 hT5
    have HT5 := hide (HT4.out.trans hT5)
    clear hT5 HS HSm HEn
    go_wp2_with fail
    exact HQ.out _ _ _ _ _ _ _ _ _ _ _ _ _ _ _ _ _ _ _ _ _ _ _ _ _ _ _ _ _ _ _ _ _ _ HT5.out
  · refine reg5_27_bad w4 cx cx bx bz capb f ba LB _ lx lx hf HS HSm.out ?_
    have hfn : ¬ ((f : Nat) : Int) = 0 := fun k => hf (Int.ofNat.inj k)
    intro q158 q159 q160 q161 q162 q163 q164 q165 q166 q167 q168 q169 q170 q171 q172 q173 q174 q175 q176 w5 hT5
    have HT5 := hide (HT4.out.trans hT5)
    clear hT5 HS HSm HEn
    go_wp2_with fail
    exact HQ.out _ _ _ _ _ _ _ _ _ _ _ _ _ _ _ _ _ _ _ _ _ _ _ _ _ _ _ _ _ _ _ _ _ _ HT5.out

set_option maxRecDepth 100000 in
set_option maxHeartbeats 12800000 in
theorem arm2 {W : World} {g0 g1 g2 g3 g4 g5 g6 g7 g8 g9 g10 g11 g12 g13 g14 g16 g18 g19 g20 g21 g22 g23 g24 g25 g26 g27 g28 g29 g30 g31 g32 g33 g34 g35 g36 g37 g38 g39 g40 g41 g42 g43 g44 g45 g46 g47 g48 g49 g50 g51 g52 g53 g54 g55 g56 g57 g58 g59 g60 g61 g62 g63 g64 g65 g66 g67 g68 g69 g70 g71 g72 g73 g74 g75 g76 g77 g78 g79 g80 g81 g82 g83 g84 g85 g86 g87 g88 g89 g90 g91 g92 g93 g94 g95 g96 g97 g98 g99 g100 g101 g102 g103 g104 g105 g106 g107 g108 g109 g110 g111 g112 g113 g114 g115 g116 g117 g118 g119 g120 g121 g122 g123 g124 g125 g126 g127 g128 g129 g130 g131 g132 g133 g134 g135 g136 g137 g138 g139 g140 g141 g142 g143 g144 g145 g146 g147 g148 g149 g150 g151 g152 g153 g154 g155 g156 g157 g158 g159 g160 g161 g162 g163 g164 g165 g166 g167 g168 g169 g170 g171 g172 g173 g174 g175 g176 g177 g178 g179 g180 g181 g182 g183 g184 g185 g186 g187 g188 g189 g190 g191 g192 g193 g194 g195 g196 g197 g198 g199 g200 g201 g202 g203 g204 g205 g206 g207 g208 g209 : Value} (ba ma : Option Addr) (capb capm : Nat) (LB : List Nat) (Q : Exit → Act → World → Prop)
    (hB : BytesAt W ba LB) (hM : BytesAt W ma LB) (hcb : LB.length ≤ capb) (hcm : LB.length ≤ capm) (hcx : capm ≤ maxLen) (hma : ma = none ∧ capm = 0 ∨ ∃ ab ao, ma = some ⟨ab, ao, none⟩) (hl : LB.length ≤ 1000000) (hbyt : Byt LB)
    (HQ : Hid (∀ (t26 t27 t28 t29 t180 t181 t182 t183 t184 t185 t186 t187 t188 t189 t190 t191 t192 t193 t194 t195 t196 t197 t198 t199 t200 t201 t202 t203 t204 t205 t206 t207 t208 : Value) w', Turn [] W w' → Q .normal ⟨#[g0, g1, g2, g3, g4, g5, g6, g7, g8, g9, g10, g11, g12, g13, g14, .slice ba LB.length capb, g16, .slice ma LB.length capm, g18, g19, g20, g21, g22, g23, g24, g25, t26, t27, t28, t29, g30, g31, g32, g33, g34, g35, g36, g37, g38, g39, g40, g41, g42, g43, g44, g45, g46, g47, g48, g49, g50, g51, g52, g53, g54, g55, g56, g57, g58, g59, g60, g61, g62, g63, g64, g65, g66, g67, g68, g69, g70, g71, g72, g73, g74, g75, g76, g77, g78, g79, g80, g81, g82, g83, g84, g85, g86, g87, g88, g89, g90, g91, g92, g93, g94, g95, g96, g97, g98, g99, g100, g101, g102, g103, g104, g105, g106, g107, g108, g109, g110, g111, g112, g113, g114, g115, g116, g117, g118, g119, g120, g121, g122, g123, g124, g125, g126, g127, g128, g129, g130, g131, g132, g133, g134, g135, g136, g137, g138, g139, g140, g141, g142, g143, g144, g145, g146, g147, g148, g149, g150, g151, g152, g153, g154, g155, g156, g157, g158, g159, g160, g161, g162, g163, g164, g165, g166, g167, g168, g169, g170, g171, g172, g173, g174, g175, g176, g177, g178, g179, t180, t181, t182, t183, t184, t185, t186, t187, t188, t189, t190, t191, t192, t193, t194, t195, t196, t197, t198, t199, t200, t201, t202, t203, t204, t205, t206, t207, t208, .bool false], []⟩ w')) :
    Code.wp Try.prog (arm5 178) Q ⟨#[g0, g1, g2, g3, g4, g5, g6, g7, g8, g9, g10, g11, g12, g13, g14, .slice ba LB.length capb, g16, .slice ma LB.length capm, g18, g19, g20, g21, g22, g23, g24, g25, g26, g27, g28, g29, g30, g31, g32, g33, g34, g35, g36, g37, g38, g39, g40, g41, g42, g43, g44, g45, g46, g47, g48, g49, g50, g51, g52, g53, g54, g55, g56, g57, g58, g59, g60, g61, g62, g63, g64, g65, g66, g67, g68, g69, g70, g71, g72, g73, g74, g75, g76, g77, g78, g79, g80, g81, g82, g83, g84, g85, g86, g87, g88, g89, g90, g91, g92, g93, g94, g95, g96, g97, g98, g99, g100, g101, g102, g103, g104, g105, g106, g107, g108, g109, g110, g111, g112, g113, g114, g115, g116, g117, g118, g119, g120, g121, g122, g123, g124, g125, g126, g127, g128, g129, g130, g131, g132, g133, g134, g135, g136, g137, g138, g139, g140, g141, g142, g143, g144, g145, g146, g147, g148, g149, g150, g151, g152, g153, g154, g155, g156, g157, g158, g159, g160, g161, g162, g163, g164, g165, g166, g167, g168, g169, g170, g171, g172, g173, g174, g175, g176, g177, g178, g179, g180, g181, g182, g183, g184, g185, g186, g187, g188, g189, g190, g191, g192, g193, g194, g195, g196, g197, g198, g199, g200, g201, g202, g203, g204, g205, g206, g207, g208, g209], []⟩ W := by
  conv => arg 2; whnf
  have HB := hide hB
  have HM := hide hM
  have HMa := hide hma
  have HBy := hide hbyt
  have HCx := hide hcx
  have HCm := hide hcm
  have HCb := hide hcb
  have HLn := hide hl
  have HBW : Hid (∀ {w'}, Turn [] W w' → BytesAt w' ba LB) := fun hT => hB.turn hT (by simp)
  clear hB hM hma hbyt hcx hcm hcb hl
  go_wp2_with fail
  refine (pstm ma capm LB.length LB rfl HM.out HCm.out HCx.out HMa.out HBy.out).mono ?_
  rintro e w1 ⟨f, nm, y1, y2, y3, y4, y5, y6, y7, y8, hPx, rfl, hT1⟩
  have HP := hide hPx
  have HT1 := hide hT1
  clear hT1
  obtain ⟨cx, hcx⟩ : ∃ cx : List Value, cx = [.string nm, .int .i64 y1, .int .i64 y2, .int .i64 y3, .int .i64 y4, .int .i64 y5, .int .i64 y6, .int .i64 y7, .int .i64 y8] := ⟨_, rfl⟩
  have lx : cx.length = 9 := by rw [hcx]; rfl
  have ox : ∀ v ∈ cx, v.oneCell' = true := by rw [hcx]; intro v hv; simp at hv; rcases hv with rfl | rfl | rfl | rfl | rfl | rfl | rfl | rfl | rfl <;> rfl
  have HCe : Hid (.agg #[.string nm, .int .i64 y1, .int .i64 y2, .int .i64 y3, .int .i64 y4, .int .i64 y5, .int .i64 y6, .int .i64 y7, .int .i64 y8] = Value.agg cx.toArray) := by rw [hcx]; rfl
  rw [HCe.out]
  have HCl := hide hcx
  clear hcx
  have HOx := hide ox
  clear hPx ox
  have HTh := hide (there_any w1 #[Value.string { data := #[] }, Value.int .i64 0, Value.int .i64 0, Value.int .i64 0, Value.int .i64 0, Value.int .i64 0, Value.int .i64 0, Value.int .i64 0, Value.int .i64 0] 40 9 rfl)
  have HTz : Hid (Turn [] w1 ((w1.alloc (.cells #[Value.string { data := #[] }, Value.int .i64 0, Value.int .i64 0, Value.int .i64 0, Value.int .i64 0, Value.int .i64 0, Value.int .i64 0, Value.int .i64 0, Value.int .i64 0] 40)).setCells w1.heap.size 0 cx)) := Turn.setCellsN ((Turn.refl [] w1).alloc _) _ (Nat.le_refl _) _ _
  have HRx : Hid (((w1.alloc (.cells #[Value.string { data := #[] }, Value.int .i64 0, Value.int .i64 0, Value.int .i64 0, Value.int .i64 0, Value.int .i64 0, Value.int .i64 0, Value.int .i64 0, Value.int .i64 0] 40)).setCells w1.heap.size 0 cx).rangeAt w1.heap.size 0 cx) := World.rangeAt_setCells_same _ _ _ _ (by rw [lx]; exact HTh.out)
  go_wp2_with (first | ((with_reducible refine store_sz 40 9 sz40 _ _ w1.heap.size 0 cx lx HOx.out ?_ ?_ HTh.out ?_); rfl; rfl) | fail)
  generalize (w1.alloc (.cells #[Value.string { data := #[] }, Value.int .i64 0, Value.int .i64 0, Value.int .i64 0, Value.int .i64 0, Value.int .i64 0, Value.int .i64 0, Value.int .i64 0, Value.int .i64 0] 40)).setCells w1.heap.size 0 cx = w2 at *
  have HT2 := hide (HT1.out.trans HTz.out)
  have HXl : Hid (w1.heap.size < w2.heap.size) := lt_of_cell (HRx.out 0 _ (List.getElem?_eq_getElem (by rw [lx]; omega)))
  generalize w1.heap.size = bx at *
  clear HTh
  refine (rpStm ba capb LB (HBW.out HT2.out) HCb.out HLn.out HBy.out).mono ?_
  rintro e w3 ⟨f2, nm2, z1, z2, z3, z4, z5, z6, z7, z8, hPy, rfl, hT3⟩
  have HT3 := hide (HT2.out.trans hT3)
  have HRx3 := hide (rangeAt_keep HRx.out (hT3.block bx HXl.out (by simp)))
  have hpe := HP.out.symm.trans hPy
  injection hpe with e0 e1
  injection e1 with e1 e2
  injection e2 with k1 r1
  injection r1 with k2 r2
  injection r2 with k3 r3
  injection r3 with k4 r4
  injection r4 with k5 r5
  injection r5 with k6 r6
  injection r6 with k7 r7
  injection r7 with k8 r8
  clear r8
  subst e0 e1 k1 k2 k3 k4 k5 k6 k7 k8
  rw [HCe.out]
  have HSm : Hid (∀ w', (binOp .neq 40 (.agg cx.toArray) (.agg cx.toArray)).run Try.prog w' = .ok (.bool false) w') := by rw [← HCe.out]; exact fun w' => Eql.nbin (eql_ss nm y1 y2 y3 y4 y5 y6 y7 y8) w'
  have HEn : Hid (f = 0 → ∀ w2, Calls Try.prog 16 #[.agg cx.toArray] w2 fun r w'' => ∃ v, r = .returned v ∧ Out w2 w'' v LB) := fun hf w2 => by
    rw [← HCe.out]
    obtain ⟨b1, b2⟩ := ti_back 8 LB HBy.out HP.out hf
    have := enc_stm w2 nm y1 y2 y3 y4 y5 y6 y7 y8 b2
    rw [← b1] at this
    exact this
  clear hT3 hPy
  have HTh := hide (there_any w3 #[Value.string { data := #[] }, Value.int .i64 0, Value.int .i64 0, Value.int .i64 0, Value.int .i64 0, Value.int .i64 0, Value.int .i64 0, Value.int .i64 0, Value.int .i64 0] 40 9 rfl)
  have HTz3 : Hid (Turn [] w3 ((w3.alloc (.cells #[Value.string { data := #[] }, Value.int .i64 0, Value.int .i64 0, Value.int .i64 0, Value.int .i64 0, Value.int .i64 0, Value.int .i64 0, Value.int .i64 0, Value.int .i64 0] 40)).setCells w3.heap.size 0 cx)) := Turn.setCellsN ((Turn.refl [] w3).alloc _) _ (Nat.le_refl _) _ _
  have HRy : Hid (((w3.alloc (.cells #[Value.string { data := #[] }, Value.int .i64 0, Value.int .i64 0, Value.int .i64 0, Value.int .i64 0, Value.int .i64 0, Value.int .i64 0, Value.int .i64 0, Value.int .i64 0] 40)).setCells w3.heap.size 0 cx).rangeAt w3.heap.size 0 cx) := World.rangeAt_setCells_same _ _ _ _ (by rw [lx]; exact HTh.out)
  have HX3 : Hid (bx < w3.heap.size) := lt_of_cell (HRx3.out 0 _ (List.getElem?_eq_getElem (by rw [lx]; omega)))
  go_upto_region 32 with (first | ((with_reducible refine store_sz 40 9 sz40 _ _ w3.heap.size 0 cx lx HOx.out ?_ ?_ HTh.out ?_); rfl; rfl) | fail)
  generalize (w3.alloc (.cells #[Value.string { data := #[] }, Value.int .i64 0, Value.int .i64 0, Value.int .i64 0, Value.int .i64 0, Value.int .i64 0, Value.int .i64 0, Value.int .i64 0, Value.int .i64 0] 40)).setCells w3.heap.size 0 cx = w4 at *
  have HT4 := hide (HT3.out.trans HTz3.out)
  have HYl : Hid (w3.heap.size < w4.heap.size) := lt_of_cell (HRy.out 0 _ (List.getElem?_eq_getElem (by rw [lx]; omega)))
  have HX4 : Hid (bx < w4.heap.size) := Nat.lt_of_lt_of_le HX3.out HTz3.out.size
  have HRx4 := hide (rangeAt_keep HRx3.out (HTz3.out.block bx HX3.out (by simp)))
  generalize w3.heap.size = bz at *
  clear HTh
  have HS : Hid (∀ w', Turn [] w4 w' → (convert 31 9 (.slice ba LB.length capb)).run Try.prog w' = .ok (.string (textOf LB)) w' ∧ w'.rangeAt bx 0 cx ∧ w'.rangeAt bz 0 cx) := fun w' hT => ⟨text_at (HBW.out (HT4.out.trans hT)) _ _ rfl, rangeAt_keep HRx4.out (hT.block bx HX4.out (by simp)), rangeAt_keep HRy.out (hT.block bz HYl.out (by simp))⟩
  by_cases hf : f = 0
  · subst hf
    refine reg5_32_ok w4 cx cx bx bz capb ba LB _ lx lx HS HSm.out (fun w' _ => HEn.out rfl w') ?_
    intro q190 q191 q192 q193 q194 q195 q196 q197 q198 q199 q200 q201 q202 q203 q204 q205 q206 q207 q208 w5 hT5
    have HT5 := hide (HT4.out.trans hT5)
    clear hT5 HS HSm HEn
    go_wp2_with fail
    exact HQ.out _ _ _ _ _ _ _ _ _ _ _ _ _ _ _ _ _ _ _ _ _ _ _ _ _ _ _ _ _ _ _ _ _ _ HT5.out
  · refine reg5_32_bad w4 cx cx bx bz capb f ba LB _ lx lx hf HS HSm.out ?_
    have hfn : ¬ ((f : Nat) : Int) = 0 := fun k => hf (Int.ofNat.inj k)
    intro q190 q191 q192 q193 q194 q195 q196 q197 q198 q199 q200 q201 q202 q203 q204 q205 q206 q207 q208 w5 hT5
    have HT5 := hide (HT4.out.trans hT5)
    clear hT5 HS HSm HEn
    go_wp2_with fail
    exact HQ.out _ _ _ _ _ _ _ _ _ _ _ _ _ _ _ _ _ _ _ _ _ _ _ _ _ _ _ _ _ _ _ _ _ _ HT5.out

end Go.Proofs.Ytghgkjollafeiaa

/-
  RecTurns: a round of its loop.
-/
namespace Go.Proofs.Ytghgkjollafeiaa
open Go.RowKit

/-- The block of that number. -/
def blockOf (n : Nat) : Code → Option Code
  | .seq a b => match blockOf n a with
    | some c => some c
    | none => blockOf n b
  | .cond _ a b => match blockOf n a with
    | some c => some c
    | none => blockOf n b
  | .block m c => if m = n then some c else blockOf n c
  | .loop c => blockOf n c
  | .scope c => blockOf n c
  | _ => none
/-- A round of RecTurns' loop. -/
noncomputable def round5 : Code := match Try.f5.body with
  | some c => (blockOf 1 c).getD .skip
  | none => .skip

theorem own_rd {w : World} {base n c : Nat} {a : Option Addr} {l : List Nat} (h : w.ownsRow base 5 1 (.slice a n c) n (l.map byteCell)) : l.length = n ∧ n ≤ c ∧ c ≤ maxLen ∧ (a = none ∧ c = 0 ∨ ∃ ab ao, a = some ⟨ab, ao, none⟩) ∧ BytesAt w a l := by
  have hl : l.length = n := by have := h.1; rw [List.length_map] at this; omega
  subst hl
  have hB := own_bytesAt h
  obtain ⟨_, ⟨hx, h0⟩ | ⟨g, cap, cur, hv, hb, hg, hnc, hmx, hsz, hcur⟩⟩ := h
  · injection hx with e1 e2 e3
    subst e1 e3
    exact ⟨rfl, by omega, Nat.zero_le _, .inl ⟨rfl, rfl⟩, hB⟩
  · injection hv with e1 e2 e3
    subst e1 e3
    exact ⟨rfl, hnc, hmx, .inr ⟨g, 0, rfl⟩, hB⟩
theorem turn_byte {g : Nat} {wr w w' : World} {k z : Nat} (h : Turn [g] wr w) (hw : w'.heap = (w.setCell ⟨g, k, none⟩ (.int .u8 (z : Nat))).heap) (h1 : w'.os = w.os) (h2 : w'.tape = w.tape) (h3 : w'.output = w.output) : Turn [g] wr w' := by
  have := h.setCell (b := g) (by simp) k (.int .u8 (z : Nat))
  exact ⟨h1.trans h.os, h2.trans h.tape, h3.trans h.output, by rw [hw]; exact this.size, fun i hi hn => by rw [hw]; exact this.block i hi hn⟩
theorem Byt.set {l : List Nat} (h : Byt l) (k z : Nat) (hz : z < 256) : Byt (l.set k z) := fun x hx => by
  rcases List.mem_or_eq_of_mem_set hx with h1 | h1
  · exact h x h1
  · omega
theorem Byt.front {l : List Nat} (h : Byt l) (m : Nat) : Byt (l.take m) := fun x hx => h x (List.mem_of_mem_take hx)
set_option maxRecDepth 100000 in
theorem slice_front (a : Option Addr) (n c m : Nat) (w : World) (hk : m ≤ c) : (Instr.slice 31 (.slice a n c) none (some (.int .i64 (m : Nat))) none).run Try.prog w = .ok (.slice a m c) w := by
  rw [run_slice_h w 31 a n c (by kernel_rfl) .i64 m (by omega) (by omega)]
  have hs : (sizeOf (Try.prog.elem 31)).run Try.prog w = .ok 1 w := by go_simp
  rw [hs]
  simp only [Result.andThen, sliced, Int.toNat_natCast, Nat.zero_mul, Nat.sub_zero]
  congr 2
  split
  · rfl
  · cases a <;> rfl

/-- What the bytes have become. -/
def Bys (base gk n cap : Nat) (wr wx : World) : Prop := ∃ L2 : List Nat, L2.length = n ∧ Byt L2 ∧ wx.ownsRow base 5 1 (.slice (some ⟨gk, 0, none⟩) n cap) n (L2.map byteCell) ∧ Turn [gk] wr wx

set_option maxRecDepth 100000 in
set_option maxHeartbeats 12800000 in
theorem round_any {wS : World} {g0 g1 g6 g7 g8 g9 g10 g11 g12 g15 g16 g17 g18 g19 g20 g21 g22 g23 g24 g25 g26 g27 g28 g29 g30 g31 g32 g33 g34 g35 g36 g37 g38 g39 g40 g41 g42 g43 g44 g45 g46 g47 g48 g49 g50 g51 g52 g53 g54 g55 g56 g57 g58 g59 g60 g61 g62 g63 g64 g65 g66 g67 g68 g69 g70 g71 g72 g73 g74 g75 g76 g77 g78 g79 g80 g81 g82 g83 g84 g85 g86 g87 g88 g89 g90 g91 g92 g93 g94 g95 g96 g97 g98 g99 g100 g101 g102 g103 g104 g105 g106 g107 g108 g109 g110 g111 g112 g113 g114 g115 g116 g117 g118 g119 g120 g121 g122 g123 g124 g125 g126 g127 g128 g129 g130 g131 g132 g133 g134 g135 g136 g137 g138 g139 g140 g141 g142 g143 g144 g145 g146 g147 g148 g149 g150 g151 g152 g153 g154 g155 g156 g157 g158 g159 g160 g161 g162 g163 g164 g165 g166 g167 g168 g169 g170 g171 g172 g173 g174 g175 g176 g177 g178 g179 g180 g181 g182 g183 g184 g185 g186 g187 g188 g189 g190 g191 g192 g193 g194 g195 g196 g197 g198 g199 g200 g201 g202 g203 g204 g205 g206 g207 g208 g209 : Value} (k gr gk cap base : Nat) (aat aby amo : Option Addr) (nat cat nby cby cmo n : Nat) (cut : Int) (lmo L : List Nat) (Q : Exit → Act → World → Prop)
    (hk : k < 3) (hn0 : 0 < n) (hn1 : n ≤ 900000) (hb : base ≤ wS.heap.size) (_hgr : gr < wS.heap.size) (hgk : gk < wS.heap.size) (hml : lmo.length ≤ 100)
    (hc : wS.cell? ⟨gr, k, none⟩ = some (.slice (some ⟨gk, 0, none⟩) n cap))
    (HO : Hid (wS.ownsRow base 5 1 (.slice (some ⟨gk, 0, none⟩) n cap) n (L.map byteCell))) (HL : Hid (Byt L)) (HM : Hid (Byt lmo))
    (HAt : Hid (∀ i, i < nat → ∃ b o x, aat = some ⟨b, o, none⟩ ∧ b ≠ gk ∧ b < wS.heap.size ∧ wS.cell? ⟨b, o + i, none⟩ = some (.int .i64 x)))
    (HBy : Hid (∀ i, i < nby → ∃ b o y, aby = some ⟨b, o, none⟩ ∧ b ≠ gk ∧ b < wS.heap.size ∧ y < 256 ∧ wS.cell? ⟨b, o + i, none⟩ = some (.int .u8 (y : Nat))))
    (HMo : Hid (∀ w', Turn [gk] wS w' → BytesAt w' amo lmo)) (HNil : Hid (amo = none → cmo = 0))
    (HQ : Hid (∀ (t15 t16 t17 t18 t19 t20 t21 t22 t23 t24 t25 t26 t27 t28 t29 t58 t59 t60 t61 t62 t63 t64 t65 t66 t67 t68 t69 t70 t71 t72 t73 t74 t75 t76 t77 t78 t79 t80 t81 t82 t83 t84 t85 t86 t87 t88 t89 t90 t91 t92 t93 t94 t95 t96 t97 t98 t99 t100 t101 t102 t103 t104 t105 t106 t107 t108 t109 t110 t111 t112 t113 t114 t115 t116 t117 t118 t119 t120 t121 t122 t123 t124 t125 t126 t127 t128 t129 t130 t131 t132 t133 t134 t135 t136 t137 t138 t139 t140 t141 t142 t143 t144 t145 t146 t147 t148 t149 t150 t151 t152 t153 t154 t155 t156 t157 t158 t159 t160 t161 t162 t163 t164 t165 t166 t167 t168 t169 t170 t171 t172 t173 t174 t175 t176 t177 t178 t179 t180 t181 t182 t183 t184 t185 t186 t187 t188 t189 t190 t191 t192 t193 t194 t195 t196 t197 t198 t199 t200 t201 t202 t203 t204 t205 t206 t207 t208 t209 : Value) w', Turn [gk] wS w' → Q .normal ⟨#[g0, g1, .slice aat nat cat, .slice aby nby cby, .int .i64 cut, .slice amo lmo.length cmo, g6, g7, g8, g9, g10, g11, g12, .slice (some ⟨gr, 0, none⟩) 3 3, .int .i64 (k : Nat), t15, t16, t17, t18, t19, t20, t21, t22, t23, t24, t25, t26, t27, t28, t29, g30, g31, g32, g33, g34, g35, g36, g37, g38, g39, g40, g41, g42, g43, g44, g45, g46, g47, g48, g49, g50, g51, g52, g53, g54, g55, g56, g57, t58, t59, t60, t61, t62, t63, t64, t65, t66, t67, t68, t69, t70, t71, t72, t73, t74, t75, t76, t77, t78, t79, t80, t81, t82, t83, t84, t85, t86, t87, t88, t89, t90, t91, t92, t93, t94, t95, t96, t97, t98, t99, t100, t101, t102, t103, t104, t105, t106, t107, t108, t109, t110, t111, t112, t113, t114, t115, t116, t117, t118, t119, t120, t121, t122, t123, t124, t125, t126, t127, t128, t129, t130, t131, t132, t133, t134, t135, t136, t137, t138, t139, t140, t141, t142, t143, t144, t145, t146, t147, t148, t149, t150, t151, t152, t153, t154, t155, t156, t157, t158, t159, t160, t161, t162, t163, t164, t165, t166, t167, t168, t169, t170, t171, t172, t173, t174, t175, t176, t177, t178, t179, t180, t181, t182, t183, t184, t185, t186, t187, t188, t189, t190, t191, t192, t193, t194, t195, t196, t197, t198, t199, t200, t201, t202, t203, t204, t205, t206, t207, t208, t209], []⟩ w')) :
    Code.wp Try.prog round5 Q ⟨#[g0, g1, .slice aat nat cat, .slice aby nby cby, .int .i64 cut, .slice amo lmo.length cmo, g6, g7, g8, g9, g10, g11, g12, .slice (some ⟨gr, 0, none⟩) 3 3, .int .i64 (k : Nat), g15, g16, g17, g18, g19, g20, g21, g22, g23, g24, g25, g26, g27, g28, g29, g30, g31, g32, g33, g34, g35, g36, g37, g38, g39, g40, g41, g42, g43, g44, g45, g46, g47, g48, g49, g50, g51, g52, g53, g54, g55, g56, g57, g58, g59, g60, g61, g62, g63, g64, g65, g66, g67, g68, g69, g70, g71, g72, g73, g74, g75, g76, g77, g78, g79, g80, g81, g82, g83, g84, g85, g86, g87, g88, g89, g90, g91, g92, g93, g94, g95, g96, g97, g98, g99, g100, g101, g102, g103, g104, g105, g106, g107, g108, g109, g110, g111, g112, g113, g114, g115, g116, g117, g118, g119, g120, g121, g122, g123, g124, g125, g126, g127, g128, g129, g130, g131, g132, g133, g134, g135, g136, g137, g138, g139, g140, g141, g142, g143, g144, g145, g146, g147, g148, g149, g150, g151, g152, g153, g154, g155, g156, g157, g158, g159, g160, g161, g162, g163, g164, g165, g166, g167, g168, g169, g170, g171, g172, g173, g174, g175, g176, g177, g178, g179, g180, g181, g182, g183, g184, g185, g186, g187, g188, g189, g190, g191, g192, g193, g194, g195, g196, g197, g198, g199, g200, g201, g202, g203, g204, g205, g206, g207, g208, g209], []⟩ wS := by
  conv => arg 2; whnf
  have HB0 : Hid (Bys base gk n cap wS wS) := ⟨L, by have := HO.out.1; rw [List.length_map] at this; omega, HL.out, HO.out, Turn.refl _ _⟩
  go_upto_block 2 with fail
  go_cut [16] from 62 to 93 (fun _ wx => Bys base gk n cap wS wx)
  case first =>
    go_wp2_with fail
    go_loopw [16] (fun iv wi => ∃ i : Nat, i ≤ 3 ∧ iv = .int .i64 (i : Nat) ∧ Hid (Bys base gk n cap wS wi)) (fun iv _ => 4 - (intOf iv).toNat)
    case atStart => exact ⟨0, by omega, rfl, HB0⟩
    case round =>
      obtain ⟨i, hi, rfl, HB⟩ := hrel
      clear hc
      by_cases hlt : i < nat ∧ i < nby ∧ i < 3
      · obtain ⟨h1, h2, h3⟩ := hlt
        obtain ⟨b1, o1, av, rfl, hb1, hb1l, hc1⟩ := HAt.out i h1
        obtain ⟨b2, o2, yv, rfl, hb2, hb2l, hy, hc2⟩ := HBy.out i h2
        obtain ⟨L2, hL2, hby2, hO2, hT2⟩ := HB.out
        subst hL2
        have hce := own_cells hO2
        have HT2 := hide hT2
        have HO2 := hide hO2
        have HC1 := hide hc1
        have HC2 := hide hc2
        go_upto_region 13 with fail
        refine reg13_any L2 b1 o1 nat cat b2 o2 nby cby gk cap i yv av _ h1 h2 hn0 (by omega) hce.2.2.1 hy hby2 (fun w' hw' => ?_) hce.1 hce.2.1 ?_
        · exact ⟨(World.cell?_of_block (a := ⟨b1, o1 + i, none⟩) ((hw' b1 hb1).trans (HT2.out.block b1 hb1l (by simp; exact hb1)))).trans HC1.out, (World.cell?_of_block (a := ⟨b2, o2 + i, none⟩) ((hw' b2 hb2).trans (HT2.out.block b2 hb2l (by simp; exact hb2)))).trans HC2.out⟩
        · intro q78 q79 q80 q81 q82 q83 q84 q85 q86 q87 q88 q89 q90 q91 q92 q93 kk z w' hkk hz hw' e1 e2 e3
          have HB2 : Hid (Bys base gk L2.length cap wS w') := ⟨L2.set kk z, List.length_set, hby2.set kk z hz, own_byte HO2.out kk z hkk hw', turn_byte HT2.out hw' e1 e2 e3⟩
          clear hw' e1 e2 e3 hce hby2 hO2 hT2 hc1 hc2
          go_wp2_with fail
          go_roundw
          case rel => exact ⟨i + 1, by omega, by go_num, HB2⟩
          case measure => simp [intOf]; omega
      · have hcs : (¬ i < nat) ∨ (i < nat ∧ ¬ i < nby) ∨ (i < nat ∧ i < nby ∧ ¬ i < 3) := by
          by_cases h : i < nat
          · by_cases h' : i < nby
            · exact .inr (.inr ⟨h, h', fun h2 => hlt ⟨h, h', h2⟩⟩)
            · exact .inr (.inl ⟨h, h'⟩)
          · exact .inl h
        clear hlt
        rcases hcs with h1 | ⟨h1, h2⟩ | ⟨h1, h2, h3⟩
        all_goals
          go_wp2_with fail
          go_meet
          case rel => exact HB.out
  case rest =>
    obtain ⟨L2, hL2, hby2, hO2, hT2⟩ := hcut
    have HL2 := hide hL2
    have HBy2 := hide hby2
    have HO2 := hide hO2
    have HT2 := hide hT2
    have hcap : n ≤ cap := (own_cells hO2).2.2.1
    clear hL2 hby2 hO2 hT2 hc HB0
    go_upto_if 95 with fail
    go_cut [15] from 94 to 105 (fun u wx => ∃ m : Nat, m ≤ n ∧ u = .slice (some ⟨gk, 0, none⟩) m cap ∧ wx = wc)
    case first =>
      by_cases hct : 0 < cut
      · have HC := hide (rwithin cut (n + 1) (by omega) (by omega) wc)
        unfold WinP at HC
        go_wp2_with fail
        refine HC.out.mono ?_
        rintro e w3 ⟨kk, rfl, hkk, rfl⟩
        have hse : (n : Int) - (kk : Int) = ((n - kk : Nat) : Int) := by omega
        have hs : ∀ w, (Instr.slice 31 (.slice (some ⟨gk, 0, none⟩) n cap) none (some (.int .i64 ((n : Int) - (kk : Int)))) none).run Try.prog w = .ok (.slice (some ⟨gk, 0, none⟩) (n - kk) cap) w := fun w => by rw [hse]; exact slice_front _ _ _ _ w (by omega)
        clear hse
        go_wp2_with fail
        go_meet
        case rel => exact ⟨n - kk, by omega, rfl, rfl⟩
      · go_wp2_with fail
        go_meet
        case rel => exact ⟨n, Nat.le_refl _, rfl, rfl⟩
    case rest =>
      obtain ⟨m, hm, rfl, rfl⟩ := hcut
      have HOm := hide (own_front HO2.out m hm)
      have HLm : Hid ((L2.take m).length = m) := by unfold Hid; rw [List.length_take, HL2.out]; omega
      have HMw := hide (HMo.out _ HT2.out)
      have HBw : Hid (base ≤ wc.heap.size) := Nat.le_trans hb HT2.out.size
      have HGw : Hid (gk < wc.heap.size) := Nat.lt_of_lt_of_le hgk HT2.out.size
      go_upto_region 17 with (first | (at_builtin; (with_reducible refine append_b rfl _ _ rfl base (.slice (some ⟨gk, 0, none⟩) m cap) (L2.take m) m HLm.out rfl HOm.out amo lmo.length cmo lmo rfl rfl HMw.out HNil.out ?_ HBw.out ?_); omega; intro v4 w4 hO4 hG4 hv4; have HO4 := hide hO4; have HG4 := hide hG4; have HV4 := hide hv4; clear hO4 hG4 hv4) | fail)
      obtain ⟨LB, hLB⟩ : ∃ LB, LB = L2.take m ++ lmo := ⟨_, rfl⟩
      have HLn : Hid (m + lmo.length = LB.length) := by unfold Hid; rw [hLB, List.length_append, HLm.out]
      have HByB : Hid (Byt LB) := by
        rw [hLB]
        intro x hx
        rcases List.mem_append.1 hx with h | h
        · exact HBy2.out.front m x h
        · exact HM.out x h
      rw [← hLB, HLn.out] at HO4
      obtain ⟨a4, c4, rfl⟩ := own_form HO4.out
      have hLB1 : LB.length ≤ 901000 := by rw [← HLn.out]; omega
      have HT4 : Hid (Turn [gk] wS w4) := HT2.out.grown HG4.out (fun q hq => .inl (by simp [Value.ownBlock] at hq; simp [hq]))
      obtain ⟨_, r1, r2, r3, r4⟩ := own_rd HO4.out
      have hnl4 : a4 = none → c4 = 0 := fun e => by
        rcases r3 with ⟨_, h⟩ | ⟨ab, ao, h⟩
        · exact h
        · rw [e] at h; cases h
      have HNl4 := hide hnl4
      have HOe : Hid ((w4.alloc (.cells #[] 5)).ownsRow base 5 1 (.slice (some ⟨w4.heap.size, 0, none⟩) 0 0) 0 (([] : List Nat).map byteCell)) := ⟨rfl, .inr ⟨w4.heap.size, 0, #[], rfl, Nat.le_trans HBw.out (Nat.le_trans (by have := HG4.out.size; exact this) (Nat.le_refl _)), Array.getElem?_push_size, Nat.le_refl _, Nat.zero_le _, rfl, rfl⟩⟩
      have HB4 : Hid (BytesAt (w4.alloc (.cells #[] 5)) a4 LB) := r4.turn ((Turn.refl [] w4).alloc _) (by simp)
      have HBw4 : Hid (base ≤ (w4.alloc (.cells #[] 5)).heap.size) := by have h1 := HBw.out; have h2 := HG4.out.size; unfold Hid; simp; omega
      clear hLB r1 r2 r3 r4 hnl4 HOm HLm HMw HG4 HV4
      go_upto_region 18 with (first | (at_builtin; (with_reducible refine append_b rfl _ _ rfl base (.slice (some ⟨w4.heap.size, 0, none⟩) 0 0) [] 0 rfl rfl HOe.out a4 LB.length c4 LB rfl ?_ HB4.out HNl4.out ?_ HBw4.out ?_); (simp only [Act.eval]; first | rfl | (simp [HLn.out]; done)); omega; intro v5 w5 hO5 hG5 hv5; have HO5 := hide hO5; have HG5 := hide hG5; clear hO5 hG5 hv5) | fail)
      rw [Nat.zero_add, List.nil_append] at HO5
      obtain ⟨a5, c5, rfl⟩ := own_form HO5.out
      have HT5 : Hid (Turn [gk] wS w5) := (HT4.out.alloc _).grown HG5.out (fun q hq => .inr (by simp [Value.ownBlock] at hq; have := HT4.out.size; omega))
      have HT45 : Hid (Turn [] w4 w5) := ((Turn.refl [] w4).alloc _).grown HG5.out (fun q hq => .inr (by simp [Value.ownBlock] at hq; omega))
      obtain ⟨_, p1, p2, p3, p4⟩ := own_rd HO5.out
      obtain ⟨_, r1, r2, r3, r4⟩ := own_rd HO4.out
      have HB5 := hide (r4.turn HT45.out (by simp))
      have HP3 := hide p3
      have HP4 := hide p4
      clear p3 p4 r2 r3 r4 HG5 HOe HB4
      rcases (show k = 0 ∨ k = 1 ∨ k = 2 by omega) with rfl | rfl | rfl
      · go_upto_if 113 with fail
        refine wp_cond (t := true) rfl ?_
        refine arm0 a4 a5 c4 c5 LB _ HB5.out HP4.out r1 p1 p2 HP3.out (by omega) HByB.out ?_
        intro q18 q19 q20 q21 q115 q116 q117 q118 q119 q120 q121 q122 q123 q124 q125 q126 q127 q128 q129 q130 q131 q132 q133 q134 q135 q136 q137 q138 q139 q140 q141 q142 q143 q144 w6 hT6
        have HT6 := hide (HT5.out.trans (hT6.mono (by simp)))
        clear hT6
        go_wp2_with fail
        exact HQ.out _ _ _ _ _ _ _ _ _ _ _ _ _ _ _ _ _ _ _ _ _ _ _ _ _ _ _ _ _ _ _ _ _ _ _ _ _ _ _ _ _ _ _ _ _ _ _ _ _ _ _ _ _ _ _ _ _ _ _ _ _ _ _ _ _ _ _ _ _ _ _ _ _ _ _ _ _ _ _ _ _ _ _ _ _ _ _ _ _ _ _ _ _ _ _ _ _ _ _ _ _ _ _ _ _ _ _ _ _ _ _ _ _ _ _ _ _ _ _ _ _ _ _ _ _ _ _ _ _ _ _ _ _ _ _ _ _ _ _ _ _ _ _ _ _ _ _ _ _ _ _ _ _ _ _ _ _ _ _ _ _ _ _ _ _ _ _ _ HT6.out
      · go_upto_if 113 with fail
        refine wp_cond (t := false) rfl ?_
        go_upto_if 146 with fail
        refine wp_cond (t := true) rfl ?_
        refine arm1 a4 a5 c4 c5 LB _ HB5.out HP4.out r1 p1 p2 HP3.out (by omega) HByB.out ?_
        intro q22 q23 q24 q25 q148 q149 q150 q151 q152 q153 q154 q155 q156 q157 q158 q159 q160 q161 q162 q163 q164 q165 q166 q167 q168 q169 q170 q171 q172 q173 q174 q175 q176 w6 hT6
        have HT6 := hide (HT5.out.trans (hT6.mono (by simp)))
        clear hT6
        go_wp2_with fail
        exact HQ.out _ _ _ _ _ _ _ _ _ _ _ _ _ _ _ _ _ _ _ _ _ _ _ _ _ _ _ _ _ _ _ _ _ _ _ _ _ _ _ _ _ _ _ _ _ _ _ _ _ _ _ _ _ _ _ _ _ _ _ _ _ _ _ _ _ _ _ _ _ _ _ _ _ _ _ _ _ _ _ _ _ _ _ _ _ _ _ _ _ _ _ _ _ _ _ _ _ _ _ _ _ _ _ _ _ _ _ _ _ _ _ _ _ _ _ _ _ _ _ _ _ _ _ _ _ _ _ _ _ _ _ _ _ _ _ _ _ _ _ _ _ _ _ _ _ _ _ _ _ _ _ _ _ _ _ _ _ _ _ _ _ _ _ _ _ _ _ _ HT6.out
      · go_upto_if 113 with fail
        refine wp_cond (t := false) rfl ?_
        go_upto_if 146 with fail
        refine wp_cond (t := false) rfl ?_
        go_upto_if 178 with fail
        refine wp_cond (t := true) rfl ?_
        refine arm2 a4 a5 c4 c5 LB _ HB5.out HP4.out r1 p1 p2 HP3.out (by omega) HByB.out ?_
        intro q26 q27 q28 q29 q180 q181 q182 q183 q184 q185 q186 q187 q188 q189 q190 q191 q192 q193 q194 q195 q196 q197 q198 q199 q200 q201 q202 q203 q204 q205 q206 q207 q208 w6 hT6
        have HT6 := hide (HT5.out.trans (hT6.mono (by simp)))
        clear hT6
        go_wp2_with fail
        exact HQ.out _ _ _ _ _ _ _ _ _ _ _ _ _ _ _ _ _ _ _ _ _ _ _ _ _ _ _ _ _ _ _ _ _ _ _ _ _ _ _ _ _ _ _ _ _ _ _ _ _ _ _ _ _ _ _ _ _ _ _ _ _ _ _ _ _ _ _ _ _ _ _ _ _ _ _ _ _ _ _ _ _ _ _ _ _ _ _ _ _ _ _ _ _ _ _ _ _ _ _ _ _ _ _ _ _ _ _ _ _ _ _ _ _ _ _ _ _ _ _ _ _ _ _ _ _ _ _ _ _ _ _ _ _ _ _ _ _ _ _ _ _ _ _ _ _ _ _ _ _ _ _ _ _ _ _ _ _ _ _ _ _ _ _ _ _ _ _ _ HT6.out

end Go.Proofs.Ytghgkjollafeiaa

/-
  RecTurns, walked.
-/
namespace Go.Proofs.Ytghgkjollafeiaa
open Go.RowKit

theorem acc_len {w : World} {cs : List Value} {d : AccD} {v1 v2 v3 : Value} {hcs : List (List Value)} (hI : AcIn w cs d v1 v2 v3 hcs) (hW : AccW d) (h : Few d) : (accBy d).length ≤ 200000 := by
  have hps := getElem_all (P := fun x : HoldD => x.ps.length ≤ 40) h.ps
  have hen := getElem_all (P := fun x : EntD => x.nm.size ≤ 255 ∧ 0 ≤ x.er ∧ x.er ≤ 255) h.en
  have l1 := h.lots
  have l2 := h.holds
  have l3 := h.win
  have q1 : (listB intsB d.lots).length ≤ 1 + d.lots.length * 72 := listB_len 72 (fun x hx => by rw [intsB_len, hI.ll x hx]; omega)
  have q2 : (listB holdBy d.holds).length ≤ 1 + d.holds.length * 700 := listB_len 700 (fun x hx => by
    have hh := hW.holds x hx
    have r1 : (listB intsB x.ps).length ≤ 1 + x.ps.length * 16 := listB_len 16 (fun p hp => by rw [intsB_len, (hh.2.1 p hp).1]; omega)
    have r2 := hps x hx
    unfold holdBy
    rw [List.length_append, List.length_append, be8_length, intsB_len, hh.2.2.2]
    omega)
  have q3 : (listB entBy d.win).length ≤ 1 + d.win.length * 500 := listB_len 500 (fun e he => ent_len (hI.we e he).1 (hI.we e he).2 (hen e he).1)
  have z1 := h.nm
  have z2 := h.key
  have z3 := h.pn
  have h1 := tiB_len d.pn d.px z3 (by rw [hI.lp]; omega)
  unfold accBy
  simp only [List.length_append, textB_len, intsB_len, hI.lt, hI.ln]
  omega

/-- The row of a number. -/
def nv {X : Type} (a b c : X) (k : Nat) : X := if k = 0 then a else if k = 1 then b else c

/-- What holds behind k rounds. -/
structure Rst (W w : World) (gr : Nat) (vs : Nat → Value) (Ls : Nat → List Nat) (k : Nat) : Prop where
  own : ∀ j, k ≤ j → j < 3 → w.ownsRow W.heap.size 5 1 (vs j) (Ls j).length ((Ls j).map byteCell)
  row : ∀ j, j < 3 → w.cell? ⟨gr, j, none⟩ = some (vs j)
  tn : Turn [] W w

/-- What does not turn. -/
structure Sta (W : World) (gr : Nat) (vs : Nat → Value) : Prop where
  ne : ∀ i j, i < 3 → j < 3 → i ≠ j → ∀ x, (vs i).ownBlock = some x → (vs j).ownBlock ≠ some x
  nr : ∀ i, i < 3 → (vs i).ownBlock ≠ some gr
  ge : W.heap.size ≤ gr

theorem three {j : Nat} (h : j < 3) : j = 0 ∨ j = 1 ∨ j = 2 := by omega

theorem tri_sta {W w : World} {gr : Nat} {v0 v1 v2 : Value} {L0 L1 L2 : List Nat} (h : Tri W w gr v0 v1 v2 L0 L1 L2) : Sta W gr (nv v0 v1 v2) := by
  refine ⟨fun i j hi hj hn x e k => ?_, fun i hi => ?_, h.ge⟩
  · rcases three hi with rfl | rfl | rfl <;> rcases three hj with rfl | rfl | rfl <;> first | exact absurd rfl hn | skip
    · exact h.n01 x e k
    · exact h.n02 x e k
    · exact h.n01 x k e
    · exact h.n12 x e k
    · exact h.n02 x k e
    · exact h.n12 x k e
  · rcases three hi with rfl | rfl | rfl
    · exact h.r0
    · exact h.r1
    · exact h.r2
theorem tri_rst {W w : World} {gr : Nat} {v0 v1 v2 : Value} {L0 L1 L2 : List Nat} (h : Tri W w gr v0 v1 v2 L0 L1 L2) : Rst W w gr (nv v0 v1 v2) (nv L0 L1 L2) 0 := by
  refine ⟨fun j _ hj => ?_, fun j hj => ?_, h.tn⟩
  · rcases three hj with rfl | rfl | rfl
    · exact h.o0
    · exact h.o1
    · exact h.o2
  · have hb := h.row
    rcases three hj with rfl | rfl | rfl
    all_goals
      rw [cell_of_row _ _ _ _ _ _ hb]
      rfl
theorem Rst.next {W w w' : World} {gr gk : Nat} {vs : Nat → Value} {Ls : Nat → List Nat} {k : Nat} (h : Rst W w gr vs Ls k) (s : Sta W gr vs) (hk : k < 3) (hv : (vs k).ownBlock = some gk) (hg : W.heap.size ≤ gk) (hT : Turn [gk] w w') : Rst W w' gr vs Ls (k + 1) := by
  refine ⟨fun j h1 h2 => ?_, fun j hj => ?_, ?_⟩
  · have ho := h.own j (by omega) h2
    refine own_same ho (fun x e => hT.block x ?_ ?_)
    · obtain ⟨_, ⟨rfl', _⟩ | ⟨g', cap, cur, hv', hb, hg', _⟩⟩ := ho
      · rw [rfl'] at e; cases e
      · rw [hv'] at e
        obtain rfl : g' = x := by simpa [Value.ownBlock] using e
        rcases Nat.lt_or_ge g' w.heap.size with h | h
        · exact h
        · rw [Array.getElem?_eq_none h] at hg'; cases hg'
    · intro hm
      obtain rfl : x = gk := by simpa using hm
      exact s.ne j k h2 hk (by omega) _ e hv
  · have hc := h.row j hj
    refine (hT.cell (p := ⟨gr, j, none⟩) (lt_of_cell hc) ?_).trans hc
    intro hm
    obtain rfl : gr = gk := by simpa using hm
    exact s.nr k hk hv
  · exact h.tn.then hT (fun x hx => .inr (by simp at hx; omega))

set_option maxRecDepth 100000 in
set_option maxHeartbeats 12800000 in
theorem turns_any {w : World} {ca : List Value} {a : AccD} {va1 va2 va3 : Value} {ha : List (List Value)} (hA : AcIn w ca a va1 va2 va3 ha) (wA : AccW a)
    (s1 : a.nm.size ≤ maxLen) (s2 : a.key.size ≤ maxLen) (s3 : a.pn.size ≤ maxLen) (s4 : ∀ x ∈ a.win, x.nm.size ≤ maxLen)
    (ns : ByteArray) (z1 z2 z3 z4 z5 z6 z7 z8 : Int) (_hns : ns.size ≤ maxLen) (aat aby amo : Option Addr) (nat cat nby cby cmo : Nat) (cut : Int) (lmo : List Nat)
    (hAt : ∀ i, i < nat → ∃ b o x, aat = some ⟨b, o, none⟩ ∧ w.cell? ⟨b, o + i, none⟩ = some (.int .i64 x))
    (hBy : ∀ i, i < nby → ∃ b o y, aby = some ⟨b, o, none⟩ ∧ y < 256 ∧ w.cell? ⟨b, o + i, none⟩ = some (.int .u8 (y : Nat)))
    (hMo : BytesAt w amo lmo) (hMb : Byt lmo) (hnil : amo = none → cmo = 0) :
    Calls Try.prog 5 #[.agg ca.toArray, .agg #[.string ns, .int .i64 z1, .int .i64 z2, .int .i64 z3, .int .i64 z4, .int .i64 z5, .int .i64 z6, .int .i64 z7, .int .i64 z8], .slice aat nat cat, .slice aby nby cby, .int .i64 cut, .slice amo lmo.length cmo] w fun e w' => e = .returned (.bool true) ∧ Turn [] w w' := by
  obtain ⟨sS, hsS⟩ : ∃ sS : List Value, sS = [.string ns, .int .i64 z1, .int .i64 z2, .int .i64 z3, .int .i64 z4, .int .i64 z5, .int .i64 z6, .int .i64 z7, .int .i64 z8] := ⟨_, rfl⟩
  have hT0 : Turn [] w ((w.alloc (.cells ca.toArray 28)).alloc (.cells #[.string ns, .int .i64 z1, .int .i64 z2, .int .i64 z3, .int .i64 z4, .int .i64 z5, .int .i64 z6, .int .i64 z7, .int .i64 z8] 40)) := ((Turn.refl [] w).alloc _).alloc _
  have hs1 : ((w.alloc (.cells ca.toArray 28)).alloc (.cells #[.string ns, .int .i64 z1, .int .i64 z2, .int .i64 z3, .int .i64 z4, .int .i64 z5, .int .i64 z6, .int .i64 z7, .int .i64 z8] 40)).heap.size = w.heap.size + 2 := by simp
  have hra : ((w.alloc (.cells ca.toArray 28)).alloc (.cells #[.string ns, .int .i64 z1, .int .i64 z2, .int .i64 z3, .int .i64 z4, .int .i64 z5, .int .i64 z6, .int .i64 z7, .int .i64 z8] 40)).rangeAt w.heap.size 0 ca := World.rangeAt_alloc (rng_new w ca ca.toArray 28 rfl) _
  have hro : ((w.alloc (.cells ca.toArray 28)).alloc (.cells #[.string ns, .int .i64 z1, .int .i64 z2, .int .i64 z3, .int .i64 z4, .int .i64 z5, .int .i64 z6, .int .i64 z7, .int .i64 z8] 40)).rangeAt (w.heap.size + 1) 0 sS := by
    have := rng_new (w.alloc (.cells ca.toArray 28)) sS #[.string ns, .int .i64 z1, .int .i64 z2, .int .i64 z3, .int .i64 z4, .int .i64 z5, .int .i64 z6, .int .i64 z7, .int .i64 z8] 40 (by rw [hsS])
    rw [show (w.alloc (.cells ca.toArray 28)).heap.size = w.heap.size + 1 by simp] at this
    exact this
  have HFa := hide (fun w' (h : Turn [] w w') => few_any (hA.turn h) s1 s2 s3 s4)
  have la := hA.len
  have HA := hide hA
  have HWa := hide wA
  have HNil := hide hnil
  have HT0 := hide hT0
  have HRa := hide hra
  have HRo := hide hro
  have HS1 := hide hs1
  have HAt := hide hAt
  have HBy := hide hBy
  have HMo := hide hMo
  have HMb := hide hMb
  have HsS := hide hsS
  clear hA wA s1 s2 s3 s4 hnil hT0 hra hro hs1 hAt hBy hMo hMb hsS
  obtain ⟨ba, hba⟩ : ∃ ba, ba = w.heap.size := ⟨_, rfl⟩
  have HBa := hide hba
  rw [← hba] at HRa HRo HS1
  go_enter Try.func5, Try.ntmps5
  go_wp2_with fail
  simp only [← hba]
  clear hba
  generalize (w.alloc (.cells ca.toArray 28)).alloc (.cells #[.string ns, .int .i64 z1, .int .i64 z2, .int .i64 z3, .int .i64 z4, .int .i64 z5, .int .i64 z6, .int .i64 z7, .int .i64 z8] 40) = w0 at *
  refine (known_any w0).mono ?_
  rintro e w1 ⟨rfl, hT1⟩
  have HT1 := hide hT1
  have HW1 := hide (HT0.out.trans hT1)
  have HRa1 := hide (rangeAt_keep HRa.out (hT1.block ba (by rw [HS1.out]; omega) (by simp)))
  clear hT1
  go_wp2_with (first | ((with_reducible refine load_acc _ ba 0 ca la ?_ HRa1.out ?_); rfl) | fail)
  refine (HFa.out _ HW1.out).mono ?_
  rintro e w2 ⟨r, rfl, hF, hT2⟩
  have HW2 := hide (HW1.out.trans hT2)
  have HT2 := hide (HT1.out.trans hT2)
  clear hT2
  cases r with
  | false =>
    clear hF
    go_wp2_with fail
    go_ret
    exact ⟨rfl, HW2.out⟩
  | true =>
    have HFew := hide (hF rfl)
    clear hF
    have HRo2 := hide (rangeAt_keep HRo.out (HT2.out.block (ba + 1) (by rw [HS1.out]; omega) (by simp)))
    have cns : w2.cell? ⟨ba + 1, 0, none⟩ = some (.string ns) := HRo2.out 0 _ (by rw [HsS.out]; rfl)
    have hbl := lt_of_cell cns
    by_cases hn2 : 255 < ns.size
    · go_wp2_with fail
      go_ret
      exact ⟨rfl, HW2.out⟩
    · by_cases hm2 : 100 < lmo.length
      · go_wp2_with fail
        go_ret
        exact ⟨rfl, HW2.out⟩
      · go_upto_region 5 with fail
        clear cns hbl
        obtain ⟨hok, hai, hlt, hpos⟩ := acc_ok HA.out HWa.out HFew.out
        have hal := acc_len HA.out HWa.out HFew.out
        obtain ⟨x1, x2, x3, x4, x5, x6, x7, x8, x9, hpx⟩ := list9 a.px HA.out.lp
        have hpn := HFew.out.pn
        have hcp : ∀ i, i < 10 → ca[2 + i]? = ([.string a.pn, .int .i64 x1, .int .i64 x2, .int .i64 x3, .int .i64 x4, .int .i64 x5, .int .i64 x6, .int .i64 x7, .int .i64 x8, .int .i64 x9] : List Value)[i]? := fun i hi => by
          rw [HA.out.e]
          unfold accL
          rw [hpx]
          rcases (show i = 0 ∨ i = 1 ∨ i = 2 ∨ i = 3 ∨ i = 4 ∨ i = 5 ∨ i = 6 ∨ i = 7 ∨ i = 8 ∨ i = 9 by omega) with rfl | rfl | rfl | rfl | rfl | rfl | rfl | rfl | rfl | rfl <;> rfl
        have hkeepA : ∀ w', Turn [] w2 w' → w'.rangeAt ba 0 ca := fun w' hT => rangeAt_keep HRa.out ((HT2.out.trans hT).block ba (by rw [HS1.out]; omega) (by simp))
        have hkeepS : ∀ w', Turn [] w2 w' → w'.rangeAt (ba + 1) 0 sS := fun w' hT => rangeAt_keep HRo.out ((HT2.out.trans hT).block (ba + 1) (by rw [HS1.out]; omega) (by simp))
        have hl1 := tiB_len a.pn [x1, x2, x3, x4, x5, x6, x7, x8, x9] hpn (by simp)
        have hl2 := tiB_len ns [z1, z2, z3, z4, z5, z6, z7, z8] (by omega) (by simp)
        refine reg5_5 ca [.string a.pn, .int .i64 x1, .int .i64 x2, .int .i64 x3, .int .i64 x4, .int .i64 x5, .int .i64 x6, .int .i64 x7, .int .i64 x8, .int .i64 x9] sS ba (ba + 1) (accBy a) (tiB a.pn [x1, x2, x3, x4, x5, x6, x7, x8, x9]) (tiB ns [z1, z2, z3, z4, z5, z6, z7, z8]) _ la rfl (by rw [HsS.out]; rfl) (fun w' hT => ⟨hkeepA w' hT, fun j v hj => ?_, hkeepS w' hT⟩) (fun w' hT => ?_) (fun w' hT => ?_) (fun w' hT => ?_) ?_
        · have hj10 : j < 10 := by
            rcases Nat.lt_or_ge j 10 with h | h
            · exact h
            · rw [List.getElem?_eq_none (by simpa using h)] at hj; cases hj
          have := hkeepA w' hT (2 + j) v ((hcp j hj10).trans hj)
          rw [Nat.zero_add] at this
          exact this
        · exact raccount a ca va1 va2 va3 ha hok (HA.out.turn (HW2.out.trans hT))
        · have := rplan (w := w') (.slice none 0 0) [] a.pn x1 x2 x3 x4 x5 x6 x7 x8 x9 hpn (by simp) (World.ownsRow_nil _ _ _ _)
          rw [List.nil_append] at this
          exact this
        · have := rstm (w := w') (.slice none 0 0) [] ns z1 z2 z3 z4 z5 z6 z7 z8 (by omega) (by simp) (World.ownsRow_nil _ _ _ _)
          rw [List.nil_append] at this
          rw [HsS.out]
          exact this
        · intro q46 q47 q48 q49 q50 q51 q52 q53 gr v0 v1 v2 w3 hTri
          have HSta := hide (tri_sta hTri)
          have HRst := hide (tri_rst hTri)
          have HLs : Hid (∀ k, k < 3 → 0 < (nv (accBy a) (tiB a.pn [x1, x2, x3, x4, x5, x6, x7, x8, x9]) (tiB ns [z1, z2, z3, z4, z5, z6, z7, z8]) k).length ∧ (nv (accBy a) (tiB a.pn [x1, x2, x3, x4, x5, x6, x7, x8, x9]) (tiB ns [z1, z2, z3, z4, z5, z6, z7, z8]) k).length ≤ 900000 ∧ Byt (nv (accBy a) (tiB a.pn [x1, x2, x3, x4, x5, x6, x7, x8, x9]) (tiB ns [z1, z2, z3, z4, z5, z6, z7, z8]) k)) := fun k hk => by
            rcases three hk with rfl | rfl | rfl
            · exact ⟨hpos, by show (accBy a).length ≤ _; omega, hlt⟩
            · exact ⟨tiB_pos _ _, by show (tiB a.pn _).length ≤ _; omega, tiB_lt _ _ hpn⟩
            · exact ⟨tiB_pos _ _, by show (tiB ns _).length ≤ _; omega, tiB_lt _ _ (by omega)⟩
          clear hTri hok hai hlt hpos hal hpx hpn hcp hkeepA hkeepS hl1 hl2
          generalize nv v0 v1 v2 = vs at *
          generalize nv (accBy a) (tiB a.pn [x1, x2, x3, x4, x5, x6, x7, x8, x9]) (tiB ns [z1, z2, z3, z4, z5, z6, z7, z8]) = Ls at *
          go_wp2_with fail
          go_loopw [14] (fun kv wi => ∃ k : Nat, k ≤ 3 ∧ kv = .int .i64 (k : Nat) ∧ Hid (Rst w2 wi gr vs Ls k)) (fun kv _ => 4 - (intOf kv).toNat)
          case atStart => exact ⟨0, by omega, rfl, HRst⟩
          case round =>
            obtain ⟨k, hk, rfl, HR⟩ := hrel
            have HTr := hide (HW2.out.trans HR.out.tn)
            by_cases hk3 : k < 3
            · obtain ⟨hp, hl, hbt⟩ := HLs.out k hk3
              obtain ⟨gk, cap, hv, _, hge, hlk, _, _⟩ := own_bytes (HR.out.own k (Nat.le_refl _) hk3) hp
              have hc := HR.out.row k hk3
              have ho := HR.out.own k (Nat.le_refl _) hk3
              rw [hv] at hc ho
              have hob : (vs k).ownBlock = some gk := by rw [hv]; rfl
              have hw2 : w.heap.size ≤ w2.heap.size := HW2.out.size
              have hoff : ∀ {b}, b < w.heap.size → b ≠ gk := fun h e => by omega
              have hin : ∀ {b}, b < w.heap.size → b < wr.heap.size := fun h => Nat.lt_of_lt_of_le h HTr.out.size
              go_upto_block 1 with fail
              refine wp_block ?_
              refine round_any k gr gk cap w2.heap.size aat aby amo nat cat nby cby cmo (Ls k).length cut lmo (Ls k) _ hk3 hp hl HR.out.tn.size (lt_of_cell hc) hlk (by omega) hc ho hbt HMb.out (fun i hi => ?_) (fun i hi => ?_) (fun w' hT => ?_) HNil.out ?_
              · obtain ⟨b, o, x, e, hcell⟩ := HAt.out i hi
                exact ⟨b, o, x, e, hoff (lt_of_cell hcell), hin (lt_of_cell hcell), (HTr.out.cell (p := ⟨b, o + i, none⟩) (lt_of_cell hcell) (by simp)).trans hcell⟩
              · obtain ⟨b, o, y, e, hy, hcell⟩ := HBy.out i hi
                exact ⟨b, o, y, e, hoff (lt_of_cell hcell), hin (lt_of_cell hcell), hy, (HTr.out.cell (p := ⟨b, o + i, none⟩) (lt_of_cell hcell) (by simp)).trans hcell⟩
              · exact HMo.out.turn (HTr.out.then hT (fun x hx => .inr (by simp at hx; omega))) (by simp)
              · intro q15 q16 q17 q18 q19 q20 q21 q22 q23 q24 q25 q26 q27 q28 q29 q58 q59 q60 q61 q62 q63 q64 q65 q66 q67 q68 q69 q70 q71 q72 q73 q74 q75 q76 q77 q78 q79 q80 q81 q82 q83 q84 q85 q86 q87 q88 q89 q90 q91 q92 q93 q94 q95 q96 q97 q98 q99 q100 q101 q102 q103 q104 q105 q106 q107 q108 q109 q110 q111 q112 q113 q114 q115 q116 q117 q118 q119 q120 q121 q122 q123 q124 q125 q126 q127 q128 q129 q130 q131 q132 q133 q134 q135 q136 q137 q138 q139 q140 q141 q142 q143 q144 q145 q146 q147 q148 q149 q150 q151 q152 q153 q154 q155 q156 q157 q158 q159 q160 q161 q162 q163 q164 q165 q166 q167 q168 q169 q170 q171 q172 q173 q174 q175 q176 q177 q178 q179 q180 q181 q182 q183 q184 q185 q186 q187 q188 q189 q190 q191 q192 q193 q194 q195 q196 q197 q198 q199 q200 q201 q202 q203 q204 q205 q206 q207 q208 q209 w5 hT5
                have HN := hide (HR.out.next HSta.out hk3 hob hge hT5)
                clear hT5 hc ho hob hoff hin hv hbt hp hl
                simp only [Exit.inBlock]
                go_wp2_with fail
                go_roundw
                case rel => exact ⟨k + 1, by omega, by go_num, HN⟩
                case measure => simp [intOf]; omega
            · go_wp2_with fail
              go_ret
              exact ⟨rfl, HTr.out⟩

end Go.Proofs.Ytghgkjollafeiaa

/-
  PROVED: tolllaw6.RecTurns answers true for every account and statement, whatever bytes are turned, cut off and put behind, and leaves all that was there as it was.
-/
namespace Go.Proofs.Ytghgkjollafeiaa.recTurns
open Go.ChangeShapes Go.WideShapes Go.ChangeAt Go.RowKit Go.Deep

theorem own : ownKnob Try.prog.godebug = none := by kernel_rfl
theorem laidOut : laidOutB Try.prog = true := by kernel_rfl

/-- The bytes that came in, out of how they are read. -/
theorem bytes_of {H : Type} {enc : TypeId × Value → H} {W : World} {fuel : Nat} {a : Option Addr} {n c : Nat} {y : DataW H × List MemPlace} (h : DataW.trod enc Try.prog W 0 (fun _ => true) true fuel 31 [.slice a n c] = some y) :
    ∃ l : List Nat, l.length = n ∧ BytesAt W a l ∧ Byt l ∧ (a = none → c = 0) := by
  rcases open_ints Try.underlying31 Try.underlying5 (by kernel_rfl) h with ⟨hcs, _⟩ | ⟨x, l, c', zs, hcs, _, hl, hm, hz, hx, hcell, hwz⟩
  · have e := List.singleton_inj.1 hcs
    injection e with e1 e2 e3
    subst e1 e2 e3
    exact ⟨[], rfl, .inl rfl, (fun x hx => by cases hx), fun _ => rfl⟩
  · have e := List.singleton_inj.1 hcs
    injection e with e1 e2 e3
    subst e1 e2 e3
    have hz' : zs.length = c := by simpa using hz
    obtain ⟨l', h1, h2, h3, h4, h5⟩ := row_bytes (w := W) (a := some x) (len := n) (cap := c) (zs := zs) (.inr ⟨x, rfl, hl, hm, hz', hcell, hwz⟩)
    exact ⟨l', h1, h5, h4, fun e => by cases e⟩

/-- The ints that came in, out of how they are read. -/
theorem nums_of {H : Type} {enc : TypeId × Value → H} {W : World} {fuel : Nat} {a : Option Addr} {n c : Nat} {y : DataW H × List MemPlace} (h : DataW.trod enc Try.prog W 0 (fun _ => true) true fuel 51 [.slice a n c] = some y) :
    ∀ i, i < n → ∃ b o x, a = some ⟨b, o, none⟩ ∧ W.cell? ⟨b, o + i, none⟩ = some (.int .i64 x) := by
  rcases open_ints Try.underlying51 Try.underlying3 (by kernel_rfl) h with ⟨hcs, _⟩ | ⟨x, l, c', zs, hcs, _, hl, hm, hz, hx, hcell, hwz⟩
  · have e := List.singleton_inj.1 hcs
    injection e with e1 e2 e3
    subst e1 e2 e3
    intro i hi
    omega
  · have e := List.singleton_inj.1 hcs
    injection e with e1 e2 e3
    subst e1 e2 e3
    have hz' : zs.length = c := by simpa using hz
    intro i hi
    have hc := hcell i (by omega)
    have hc0 := hcell 0 (by omega)
    rw [show x.add 0 = x from rfl] at hc0
    obtain ⟨_, _, _, _, hsp⟩ := World.shape?_of_cell? hc0
    obtain ⟨b, off, sp⟩ := x
    obtain rfl : sp = none := hsp
    rw [Addr.add_mid] at hc
    exact ⟨b, off, _, rfl, hc⟩

set_option maxRecDepth 100000 in
theorem lifted (os : Os) (started : os.Started) (H : Type) (enc : TypeId × Value → H) :
    ReturnsInHanded {} Try.checked os 5 .any (Rows.recTurnsSpec.pre6 enc Try.prog Try.f5 Rows.recTurnsRow.domain false) (Rows.recTurnsSpec.post enc Try.prog Try.f5 false true false false) := by
  refine returnsInHanded_of_change (C := Try.checked) own started (by kernel_rfl) Try.func5
    (ChangeSpec.witness6 (enc := enc) (C := Try.checked) false ⟨#[], #[.agg #[.string { data := #[] }, .string { data := #[] }, .string { data := #[] }, .int .i64 0, .int .i64 0, .int .i64 0, .int .i64 0, .int .i64 0, .int .i64 0, .int .i64 0, .int .i64 0, .int .i64 0, .int .i64 0, .int .i64 0, .int .i64 0, .slice none 0 0, .int .i64 0, .int .i64 0, .slice none 0 0, .slice none 0 0], .agg #[.string { data := #[] }, .int .i64 0, .int .i64 0, .int .i64 0, .int .i64 0, .int .i64 0, .int .i64 0, .int .i64 0, .int .i64 0], .slice none 0 0, .slice none 0 0, .int .i64 0, .slice none 0 0], []⟩ 8 (by kernel_rfl) (by kernel_rfl) (by kernel_rfl) (by kernel_rfl)) ?_
  intro W base args ds gs before hval0 hW _ _
  have hval : ∀ (j : Nat) t v, Try.f5.params[j]? = some t → args[j]? = some v → Value.okWide Try.prog W .any base t v := hval0
  have hW' := hW
  obtain ⟨p, q, hA0, hV, rfl, _, _⟩ := hW
  have hA : DataW.TrodAll enc Try.prog W 0 (fun _ => true) true Try.f5.params.toList args.toList ds p := hA0
  rw [Try.params5] at hA hval
  obtain ⟨v0, vs0, d0, ds0, p0, q0, hargs, rfl, rfl, h0, r0⟩ := trodAll_cons hA
  obtain ⟨v1, vs1, d1, ds1, p1, q1, rfl, rfl, rfl, h1, r1⟩ := trodAll_cons r0
  obtain ⟨v2, vs2, d2, ds2, p2, q2, rfl, rfl, rfl, h2, r2⟩ := trodAll_cons r1
  obtain ⟨v3, vs3, d3, ds3, p3, q3, rfl, rfl, rfl, h3, r3⟩ := trodAll_cons r2
  obtain ⟨v4, vs4, d4, ds4, p4, q4, rfl, rfl, rfl, h4, r4⟩ := trodAll_cons r3
  obtain ⟨v5, vs5, d5, ds5, p5, q5, rfl, rfl, rfl, h5, r5⟩ := trodAll_cons r4
  obtain ⟨rfl, rfl, rfl⟩ := trodAll_nil r5
  obtain rfl : args = #[v0, v1, v2, v3, v4, v5] := by cases args; simp_all
  obtain ⟨rfl, rfl⟩ := trodVars_none hV
  obtain ⟨A0, rfl, _⟩ := okWide_struct Try.underlying28 (hval 0 28 v0 rfl rfl)
  obtain ⟨A1, rfl, _⟩ := okWide_struct Try.underlying40 (hval 1 40 v1 rfl rfl)
  obtain ⟨a2, len2, cap2, rfl⟩ := okWide_slice Try.underlying51 (hval 2 51 v2 rfl rfl)
  obtain ⟨a3, len3, cap3, rfl⟩ := okWide_slice Try.underlying31 (hval 3 31 v3 rfl rfl)
  obtain ⟨i4, rfl, rfl, rfl, w4⟩ := open_int Try.underlying3 (hval 4 3 v4 rfl rfl) h4
  obtain ⟨a5, len5, cap5, rfl⟩ := okWide_slice Try.underlying31 (hval 5 31 v5 rfl rfl)
  have k0 := h0
  have k1 := h1
  have k2 := h2
  have k3 := h3
  have k5 := h5
  have lt0 : ∀ x ∈ p0, x.block < W.heap.size := by obtain ⟨m, hm⟩ := k0; exact DataW.trod_lt m _ _ _ hm
  have lt1 : ∀ x ∈ p1, x.block < W.heap.size := by obtain ⟨m, hm⟩ := k1; exact DataW.trod_lt m _ _ _ hm
  have lt2 : ∀ x ∈ p2, x.block < W.heap.size := by obtain ⟨m, hm⟩ := k2; exact DataW.trod_lt m _ _ _ hm
  have lt3 : ∀ x ∈ p3, x.block < W.heap.size := by obtain ⟨m, hm⟩ := k3; exact DataW.trod_lt m _ _ _ hm
  have lt5 : ∀ x ∈ p5, x.block < W.heap.size := by obtain ⟨m, hm⟩ := k5; exact DataW.trod_lt m _ _ _ hm
  obtain ⟨m0, f0⟩ := h0
  obtain ⟨m1, f1⟩ := h1
  obtain ⟨m2, f2⟩ := h2
  obtain ⟨m3, f3⟩ := h3
  obtain ⟨m5, f5⟩ := h5
  obtain ⟨a, va1, va2, va3, ha, hIa, hWa, x1, x2, x3, x4, _⟩ := open_acc f0
  obtain ⟨ns, z1, z2, z3, z4, z5, z6, z7, z8, e1, _, hns⟩ := open_stm f1
  obtain rfl : A1 = #[Value.string ns, .int .i64 z1, .int .i64 z2, .int .i64 z3, .int .i64 z4, .int .i64 z5, .int .i64 z6, .int .i64 z7, .int .i64 z8] := Array.toList_inj.1 e1
  have hat := nums_of f2
  obtain ⟨lb, hlb, hB3, hY3, _⟩ := bytes_of f3
  obtain ⟨lm, hlm, hB5, hY5, hN5⟩ := bytes_of f5
  subst hlm
  have hby : ∀ i, i < len3 → ∃ b o y, a3 = some ⟨b, o, none⟩ ∧ y < 256 ∧ W.cell? ⟨b, o + i, none⟩ = some (.int .u8 (y : Nat)) := fun i hi => by
    rcases hB3 with rfl | ⟨b, off, rfl, hc⟩
    · simp at hlb; omega
    · refine ⟨b, off, lb.getD i 0, rfl, ?_, hc i (by omega)⟩
      rw [List.getD_eq_getElem?_getD, List.getElem?_eq_getElem (by omega)]
      exact hY3 _ (List.getElem_mem _)
  clear hA0 hval0
  have hwalk : Calls Try.prog 5 #[.agg A0, .agg #[.string ns, .int .i64 z1, .int .i64 z2, .int .i64 z3, .int .i64 z4, .int .i64 z5, .int .i64 z6, .int .i64 z7, .int .i64 z8], .slice a2 len2 cap2, .slice a3 len3 cap3, .int .i64 i4, .slice a5 lm.length cap5] W fun e w' => e = .returned (.bool true) ∧ Turn [] W w' := turns_any hIa hWa x1 x2 x3 x4 ns z1 z2 z3 z4 z5 z6 z7 z8 hns a2 a3 a5 len2 cap2 len3 cap3 cap5 i4 lm hat hby hB5 hY5 hN5
  simp only [List.append_nil] at hW'
  refine hwalk.mono fun e W' ⟨he, hT⟩ => ?_
  have bel : Below W.heap.size W W' := hT.below (Nat.le_refl _) (by simp)
  subst he
  exact ⟨_, rfl, _, _, _, [], _, [], hW', trodAll_mk1 (shut_bool Try.underlying4 _), (trodAll_cons_mk (Below.trod laidOut (by kernel_rfl) (of_decide_eq_true (by kernel_rfl)) k0 bel lt0) (trodAll_cons_mk (Below.trod laidOut (by kernel_rfl) (of_decide_eq_true (by kernel_rfl)) k1 bel lt1) (trodAll_cons_mk (Below.trod laidOut (by kernel_rfl) (of_decide_eq_true (by kernel_rfl)) k2 bel lt2) (trodAll_cons_mk (Below.trod laidOut (by kernel_rfl) (of_decide_eq_true (by kernel_rfl)) k3 bel lt3) (trodAll_cons_mk (shut_int Try.underlying3 w4) (trodAll_cons_mk (Below.trod laidOut (by kernel_rfl) (of_decide_eq_true (by kernel_rfl)) k5 bel lt5) trodAll_mk0)))))), rfl, bel.frame _, fun h => by cases h⟩

theorem over : Rows.recTurnsRow.holds Try.pinned (OpenSpec.ofChange Rows.recTurnsSpec) :=
  OpenClaim.holds_of_wide 5 Try.f5 rfl rfl rfl rfl rfl rfl rfl ⟨rfl, rfl, rfl, rfl, rfl⟩ rfl rfl rfl rfl rfl (by kernel_rfl) Try.func5 (by kernel_rfl)
    (of_decide_eq_true (by kernel_rfl)) (by unfold Func.isWrapper; first | (rw [if_pos (by decide +kernel)]; kernel_rfl) | (rw [if_neg (by decide +kernel)]; exact ⟨rfl, rfl⟩))
    (fun os started H enc _ => lifted os started H enc)
end Go.Proofs.Ytghgkjollafeiaa.recTurns

namespace Go.Proofs.Ytghgkjollafeiaa
theorem recTurns_holds : Rows.RecTurnsSaid := recTurns.over
end Go.Proofs.Ytghgkjollafeiaa


/-
  FrameTurns: the reference's EncodeRequest, rows of bytes, the law, in one text.
-/
import Derived.Test.YtkbboingeacgjaaFREncA
import Derived.Test.YtkbboingeacgjaaFREncB
import Derived.Test.YtkbboingeacgjaaFRq
import Derived.Test.YtkbboingeacgjaaFwAns
import Derived.Deep.CutRange
import Derived.Deep.CutBlock
namespace Go.Proofs.Ytkbboingeacgjaa
open Go.RowKit

theorem enc_of {w w' : World} {r : Rq} {T : List ByteArray} {B : List Nat} {v : Value} {m : Nat} (hk : isK r.k) (hT : txts r = T) (hB : reqB r = B) (h : RencP w w' T B v m) : m = (reqS wrC ⟨[], 0⟩ r).1.e ∧ EncP w w' (reqS wrC ⟨[], 0⟩ r).1 v := by
  subst hT hB
  by_cases hf : Fit (txts r)
  · obtain ⟨rfl, h2⟩ := h.ok hf
    rw [enc_ok r hk hf]
    exact ⟨rfl, fun _ => h2, fun h => absurd rfl h, h.old⟩
  · obtain ⟨rfl, h2⟩ := h.no hf
    have he := enc_long r hk hf
    refine ⟨he.symm, fun h => ?_, fun _ => h2, h.old⟩
    rw [he] at h
    cases h

set_option maxRecDepth 100000 in
theorem rencno (w : World) (r : Rq) (hk : ¬ isK r.k) :
    Calls Try.prog 12 #[.agg (rqC r).toArray] w fun e w' => e = .returned (.tuple #[.slice none 0 0, .int .i64 3]) ∧ Turn [] w w' := by
  have c0 : (w.alloc (.cells (rqC r).toArray 25)).cell? ⟨w.heap.size, 0, none⟩ = some (.int .i64 r.k) := by
    rw [World.cell?_alloc_at _ _ _ _ rfl]
    rfl
  have HT : Hid (Turn [] w (w.alloc (.cells (rqC r).toArray 25))) := (Turn.refl [] w).alloc _
  generalize hcs : rqC r = cs at *
  clear hcs
  generalize hrk : w.heap.size = rk at *
  go_enter Try.func12, Try.ntmps12
  go_upto_region 1 with fail
  clear hrk
  generalize w.alloc (.cells cs.toArray 25) = w0 at *
  go_wp2_with (first | (go_at_call 26; refine (rkno _ hk _).mono ?_; rintro e w' ⟨rfl, hw'⟩; subst w') | fail)
  go_ret2
  exact ⟨rfl, HT.out⟩

theorem rencreq (w : World) (r : Rq) (hr : r.Ok) :
    Calls Try.prog 12 #[.agg (rqC r).toArray] w fun e w' => ∃ v, e = .returned (.tuple #[v, .int .i64 ((reqS wrC ⟨[], 0⟩ r).1.e : Nat)]) ∧ EncP w w' (reqS wrC ⟨[], 0⟩ r).1 v := by
  by_cases hk : isK r.k
  · have H := fun {w' : World} {T : List ByteArray} {B : List Nat} {v : Value} {m : Nat} => enc_of (w := w) (w' := w') (r := r) (T := T) (B := B) (v := v) (m := m) hk
    obtain ⟨k, key, id, n, ttl, o, nm, sec, pn, p1, p2, p3, p4, p5, p6, p7, p8, p9⟩ := r
    generalize (reqS wrC ⟨[], 0⟩ ⟨k, key, id, n, ttl, o, nm, sec, pn, p1, p2, p3, p4, p5, p6, p7, p8, p9⟩).1 = S at H ⊢
    have hend : ∀ {e : Ending} {w' : World} {T : List ByteArray} {B : List Nat}, txts ⟨k, key, id, n, ttl, o, nm, sec, pn, p1, p2, p3, p4, p5, p6, p7, p8, p9⟩ = T → reqB ⟨k, key, id, n, ttl, o, nm, sec, pn, p1, p2, p3, p4, p5, p6, p7, p8, p9⟩ = B → (∃ v m, e = .returned (.tuple #[v, .int .i64 (m : Nat)]) ∧ RencP w w' T B v m) → ∃ v, e = .returned (.tuple #[v, .int .i64 (S.e : Nat)]) ∧ EncP w w' S v := by
      rintro e w' T B hT hB ⟨v, m, rfl, h⟩
      obtain ⟨rfl, h2⟩ := H hT hB h
      exact ⟨v, rfl, h2⟩
    clear H
    dsimp only at hk
    rcases hk with rfl | rfl | rfl | rfl | rfl | rfl | rfl | rfl | rfl | rfl
    · exact (renc1 w key id n ttl o nm sec pn p1 p2 p3 p4 p5 p6 p7 p8 p9 hr).mono fun _ _ h => hend rfl (by simp [reqB, bodyB, List.append_assoc]) h
    · exact (renc4 w key id n ttl o nm sec pn p1 p2 p3 p4 p5 p6 p7 p8 p9 hr).mono fun _ _ h => hend rfl (by simp [reqB, bodyB, List.append_assoc]) h
    · exact (renc2 w key id n ttl o nm sec pn p1 p2 p3 p4 p5 p6 p7 p8 p9 hr).mono fun _ _ h => hend rfl (by simp [reqB, bodyB, List.append_assoc]) h
    · exact (renc3 w key id n ttl o nm sec pn p1 p2 p3 p4 p5 p6 p7 p8 p9 hr).mono fun _ _ h => hend rfl (by simp [reqB, bodyB, List.append_assoc]) h
    · exact (renc5 w key id n ttl o nm sec pn p1 p2 p3 p4 p5 p6 p7 p8 p9 hr).mono fun _ _ h => hend rfl (by simp [reqB, bodyB]) h
    · exact (renc16 w key id n ttl o nm sec pn p1 p2 p3 p4 p5 p6 p7 p8 p9 hr).mono fun _ _ h => hend rfl (by simp [reqB, bodyB, Rq.px]) h
    · exact (renc17 w key id n ttl o nm sec pn p1 p2 p3 p4 p5 p6 p7 p8 p9 hr).mono fun _ _ h => hend rfl (by simp [reqB, bodyB, List.append_assoc]) h
    · exact (renc18 w key id n ttl o nm sec pn p1 p2 p3 p4 p5 p6 p7 p8 p9 hr).mono fun _ _ h => hend rfl (by simp [reqB, bodyB, List.append_assoc]) h
    · exact (renc19 w key id n ttl o nm sec pn p1 p2 p3 p4 p5 p6 p7 p8 p9 hr).mono fun _ _ h => hend rfl (by simp [reqB, bodyB]) h
    · exact (renc20 w key id n ttl o nm sec pn p1 p2 p3 p4 p5 p6 p7 p8 p9 hr).mono fun _ _ h => hend rfl (by simp [reqB, bodyB, List.append_assoc]) h
  · have he := enc_no r hk
    refine (rencno w r hk).mono ?_
    rintro e w' ⟨rfl, hT⟩
    refine ⟨.slice none 0 0, by rw [he]; rfl, fun h => ?_, fun _ => rfl, hT⟩
    rw [he] at h
    cases h

open Go.RowKit Go.Maps


theorem own_same {w w' : World} {base e m n : Nat} {v : Value} {cs : List Value} (h : w.ownsRow base e m v n cs) (hT : ∀ x, v.ownBlock = some x → w'.heap[x]? = w.heap[x]?) : w'.ownsRow base e m v n cs := by
  obtain ⟨hl, h | ⟨g, cap, cur, rfl, hb, hg, rest⟩⟩ := h
  · exact ⟨hl, .inl h⟩
  · exact ⟨hl, .inr ⟨g, cap, cur, rfl, hb, (hT g rfl).trans hg, rest⟩⟩

theorem own_range {w : World} {base e m n : Nat} {q cap : Nat} {xs : List Value} (h : w.ownsRow base e m (.slice (some ⟨q, 0, none⟩) n cap) n xs) : w.rangeAt q 0 xs ∧ (∀ o, w.frozen? ⟨q, o, none⟩ = false) ∧ base ≤ q ∧ q < w.heap.size := by
  obtain ⟨hl, h | ⟨g, c, cur, e1, hb, hg, hc1, hc2, hc3, hc4⟩⟩ := h
  · obtain ⟨h, _⟩ := h
    cases h
  · obtain rfl : q = g := by injection e1 with e1; exact congrArg Addr.block (Option.some.inj e1)
    refine ⟨fun j v hj => ?_, fun o => ?_, hb, (Array.getElem?_eq_some_iff.1 hg).1⟩
    · unfold World.cell?
      rw [hg]
      show cur[0 + j]? = _
      rw [Nat.zero_add, ← Array.getElem?_toList, ← hj, ← hc4, List.getElem?_take]
      split
      · rfl
      · rw [← hc4] at hj
        rw [List.getElem?_eq_none (by rw [List.length_take]; omega)] at hj
        cases hj
    · unfold World.frozen?
      rw [hg]
      simp

theorem own_up {w : World} {base e m n : Nat} {v : Value} {cs : List Value} (h : w.ownsRow 0 e m v n cs) (hb : ∀ x, v.ownBlock = some x → base ≤ x) : w.ownsRow base e m v n cs := by
  obtain ⟨hl, h | ⟨g, cap, cur, rfl, _, hg, rest⟩⟩ := h
  · exact ⟨hl, .inl h⟩
  · exact ⟨hl, .inr ⟨g, cap, cur, rfl, hb g rfl, hg, rest⟩⟩

theorem info_byte : (Try.prog.info? 5).map (fun i => (i.zero, i.size, i.bytes)) = some (some (.int .u8 0), 1, 1) := by kernel_rfl
/-- An append of bytes, from wherever, to a row of the call's own. -/

theorem append_b {ops : Array Oper} {rest : List Oper} {o : Oper} {a : Act} {Q : Exit → Act → World → Prop} {w : World} (hgd : o.guard = none) (s x : Operand)
    (ho : o.op = .call { callee := .builtin .append, args := #[s, x], argTypes := #[26, 26] }) (base : Nat) (v : Value) (l : List Nat) (n : Nat) (_hn : l.length = n) (hs : a.eval s = v) (hown : w.ownsRow base 5 1 v n (l.map byteCell)) (a2 : Option Addr) (n2 c2 : Nat) (m : List Nat) (hm : m.length = n2) (hx : a.eval x = .slice a2 n2 c2) (hB : BytesAt w a2 m) (hnil : a2 = none → c2 = 0) (hb : n + n2 ≤ 1000000000) (hbase : base ≤ w.heap.size)
    (h : ∀ v' w', w'.ownsRow base 5 1 v' (n + n2) ((l ++ m).map byteCell) → w.grownBy w' v.ownBlock → (v'.ownBlock = v.ownBlock ∨ v'.ownBlock = some w.heap.size) → wpList Try.prog ops Q rest (a.put o.dst v') w') :
    wpList Try.prog ops Q (o :: rest) a w := by
  obtain ⟨i0, hi, hz0, hz1, hz2⟩ := info_parts info_byte
  have go : ∀ ad : Addr, a2 = some ad → (∀ j u, (m.map byteCell)[j]? = some u → w.cell? (ad.add j) = some u) → wpList Try.prog ops Q (o :: rest) a w := fun ad e hne => by
    subst e
    refine wpList_append_own_at _ hgd s x 26 ho base 5 i0 (.int .u8 0) 1 1 Try.underlying26 hi hz0 hz1 hz2 rfl (by decide) v n (l.map byteCell) hs hown ad n2 c2 (m.map byteCell) hx (by rw [List.length_map]; omega) hne (fun u hu => ?_) (by unfold maxLen; omega) (by omega) hbase ?_
    · obtain ⟨y, _, rfl⟩ := List.mem_map.1 hu
      rfl
    · intro v' w' h1 h2 _ h4
      rw [← List.map_append] at h1
      exact h v' w' h1 h2 h4
  cases a2 with
  | none =>
    obtain rfl := hnil rfl
    have hmn : m = [] := by
      rcases hB with h | ⟨b, off, hb, _⟩
      · exact h
      · cases hb
    subst hmn
    obtain rfl : n2 = 0 := by rw [← hm]; rfl
    refine wpList_append_own_none hgd s x 26 ho base 5 i0 1 Try.underlying26 hi v n (l.map byteCell) hs hown hx ?_
    exact h v w (by rw [List.append_nil]; exact hown) ⟨rfl, rfl, rfl, Nat.le_refl _, fun _ _ _ => rfl⟩ (.inl rfl)
  | some ad =>
    rcases hB with rfl | ⟨b, off, hb, hA⟩
    · exact go ad rfl (by simp)
    · obtain rfl := Option.some.inj hb
      refine go _ rfl fun j u hj => ?_
      rw [List.getElem?_map] at hj
      cases hmj : m[j]? with
      | none => rw [hmj] at hj; cases hj
      | some y =>
        rw [hmj] at hj
        obtain ⟨hjl, hy⟩ := List.getElem?_eq_some_iff.1 hmj
        have := hA j hjl
        rw [Addr.add_mid, this, List.getD_eq_getElem?_getD, hmj]
        exact hj
/-- A row's front. -/

theorem own_front {w : World} {base g cap n : Nat} {l : List Nat} (h : w.ownsRow base 5 1 (.slice (some ⟨g, 0, none⟩) n cap) n (l.map byteCell)) (m : Nat) (hm : m ≤ n) : w.ownsRow base 5 1 (.slice (some ⟨g, 0, none⟩) m cap) m ((l.take m).map byteCell) := by
  obtain ⟨hl, ⟨hx, _⟩ | ⟨g', cap', cur, hv, hb, hg, hnc, hmx, hsz, hcur⟩⟩ := h
  · cases hx
  · injection hv with e1 e2 e3
    cases e1
    cases e3
    rw [List.length_map] at hl
    refine ⟨by rw [List.length_map, List.length_take]; omega, .inr ⟨g, cap, cur, rfl, hb, hg, by omega, hmx, hsz, ?_⟩⟩
    have h2 : (cur.toList.take (n * 1)).take m = (l.map byteCell).take m := by rw [hcur]
    rw [List.take_take, Nat.min_eq_left (by omega)] at h2
    rw [Nat.mul_one, h2, List.map_take]

theorem heap_setCell_row {W : World} {b : Nat} {cur : Array Value} {t : TypeId} (o : Nat) (v : Value) (h : W.heap[b]? = some (.cells cur t (0, 0))) : (W.setCell ⟨b, o, none⟩ v).heap[b]? = some (.cells (cur.setIfInBounds o v) t (0, 0)) := by
  obtain ⟨hlt, hk⟩ := Array.getElem?_eq_some_iff.1 h
  show (W.heap.modify b _)[b]? = _
  rw [Array.getElem?_eq_getElem (by rw [Array.size_modify]; exact hlt), Array.getElem_modify_self, hk]
  rfl
/-- A row in which one byte was turned. -/

theorem own_byte {w w' : World} {base g cap n : Nat} {l : List Nat} (h : w.ownsRow base 5 1 (.slice (some ⟨g, 0, none⟩) n cap) n (l.map byteCell)) (k z : Nat) (_hk : k < n) (hw : w'.heap = (w.setCell ⟨g, k, none⟩ (.int .u8 (z : Nat))).heap) : w'.ownsRow base 5 1 (.slice (some ⟨g, 0, none⟩) n cap) n ((l.set k z).map byteCell) := by
  obtain ⟨hl, ⟨hx, _⟩ | ⟨g', cap', cur, hv, hb, hg, hnc, hmx, hsz, hcur⟩⟩ := h
  · cases hx
  · injection hv with e1 e2 e3
    cases e1
    cases e3
    rw [List.length_map] at hl
    refine ⟨by rw [List.length_map, List.length_set]; omega, .inr ⟨g, cap, cur.setIfInBounds k (.int .u8 (z : Nat)), rfl, hb, ?_, hnc, hmx, by rw [Array.size_setIfInBounds]; exact hsz, ?_⟩⟩
    · rw [hw]
      exact heap_setCell_row k _ hg
    · rw [Array.toList_setIfInBounds, List.take_set, hcur, List.map_set]
      rfl
/-- What its bytes are. -/

theorem own_cells {w : World} {base g cap n : Nat} {l : List Nat} (h : w.ownsRow base 5 1 (.slice (some ⟨g, 0, none⟩) n cap) n (l.map byteCell)) : w.rangeAt g 0 (l.map byteCell) ∧ (∀ o, w.frozen? ⟨g, o, none⟩ = false) ∧ n ≤ cap ∧ cap ≤ maxLen ∧ l.length = n := by
  have h' := h
  obtain ⟨hl, ⟨hx, _⟩ | ⟨g', cap', cur, hv, hb, hg, hnc, hmx, hsz, hcur⟩⟩ := h
  · cases hx
  · injection hv with e1 e2 e3
    cases e1
    cases e3
    rw [List.length_map] at hl
    exact ⟨(own_range h').1, (own_range h').2.1, hnc, hmx, by omega⟩

open Go.RowKit

noncomputable def reg5 (n : Nat) : Code := match Try.f5.body with
  | some c => (regOf n c).getD .skip
  | none => .skip

/-- What within answers. -/
def WinP (n : Nat) (w : World) (e : Ending) (w' : World) : Prop := ∃ k : Nat, e = .returned (.int .i64 (k : Nat)) ∧ k < n ∧ w' = w
theorem rwithin (x : Int) (n : Nat) (hn : 0 < n) (hl : n ≤ 2000000) (w : World) : Calls Try.prog 23 #[.int .i64 x, .int .i64 (n : Nat)] w fun e w' => WinP n w e w' := by
  refine (within_any x n w (by omega) (by omega)).mono ?_
  rintro e w' ⟨rfl, rfl⟩
  have h1 := Int.emod_nonneg x (show (n : Int) ≠ 0 by omega)
  have h2 := Int.emod_lt_of_pos x (show (0 : Int) < n by omega)
  exact ⟨(x % n).toNat, by rw [Int.toNat_of_nonneg h1], by omega, rfl⟩

set_option maxRecDepth 100000 in
set_option maxHeartbeats 12800000 in
theorem reg14_any {W : World} {g0 g1 g4 g5 g6 g7 g8 g9 g10 g11 g12 g13 g14 g15 g16 g19 g20 g21 g22 g23 g24 g25 g26 g27 g28 g29 g30 g31 g32 g33 g34 g35 g36 g37 g38 g39 g40 g41 g42 g43 g44 g45 g46 g47 g48 g49 g50 g51 g52 g53 g54 g55 g56 g57 g58 g59 g60 g61 g62 g63 g64 g65 g66 g67 g68 g69 g70 g71 g72 g73 g74 g75 g76 g77 g78 g79 g80 g81 g82 g83 g84 g85 g86 g87 g88 g89 g90 g91 g92 g93 g94 g95 g96 g97 g98 g99 g100 g101 g102 g103 g104 g105 g106 g107 g108 g109 g110 g111 g112 g113 g114 g115 g116 g117 g118 g119 g120 g121 g122 g123 g124 g125 g126 g127 g128 g129 g130 g131 g132 g133 g134 g135 g136 g137 g138 g139 g140 g141 g142 g143 g144 g145 g146 g147 g148 g149 g150 g151 g152 g153 g154 g155 g156 g157 g158 g159 g160 g161 g162 g163 : Value} (L : List Nat) (aa ao na ca yb yo ny cy gb capb i yv : Nat) (av : Int) (Q : Exit → Act → World → Prop)
    (hia : i < na) (hiy : i < ny) (hL0 : 0 < L.length) (hLl : L.length ≤ 1000000) (hByt : Byt L)
    (HS : Hid (∀ w' : World, (∀ b, b ≠ gb → w'.heap[b]? = W.heap[b]?) → w'.cell? ⟨aa, ao + i, none⟩ = some (.int .i64 av) ∧ w'.cell? ⟨yb, yo + i, none⟩ = some (.int .u8 (yv : Nat)))) (hR : W.rangeAt gb 0 (L.map byteCell)) (hfz : ∀ o, W.frozen? ⟨gb, o, none⟩ = false)
    (HQ : Hid (∀ (t91 t92 t93 t94 t95 t96 t97 t98 t99 t100 t101 t102 t103 t104 t105 t106 : Value) (k z : Nat) w', k < L.length → z < 256 → w'.heap = (W.setCell ⟨gb, k, none⟩ (.int .u8 (z : Nat))).heap → w'.os = W.os → w'.tape = W.tape → w'.output = W.output → Q .normal ⟨#[g0, g1, .slice (some ⟨aa, ao, none⟩) na ca, .slice (some ⟨yb, yo, none⟩) ny cy, g4, g5, g6, g7, g8, g9, g10, g11, g12, g13, g14, g15, g16, .slice (some ⟨gb, 0, none⟩) L.length capb, .int .i64 (i : Nat), g19, g20, g21, g22, g23, g24, g25, g26, g27, g28, g29, g30, g31, g32, g33, g34, g35, g36, g37, g38, g39, g40, g41, g42, g43, g44, g45, g46, g47, g48, g49, g50, g51, g52, g53, g54, g55, g56, g57, g58, g59, g60, g61, g62, g63, g64, g65, g66, g67, g68, g69, g70, g71, g72, g73, g74, g75, g76, g77, g78, g79, g80, g81, g82, g83, g84, g85, g86, g87, g88, g89, g90, t91, t92, t93, t94, t95, t96, t97, t98, t99, t100, t101, t102, t103, t104, t105, t106, g107, g108, g109, g110, g111, g112, g113, g114, g115, g116, g117, g118, g119, g120, g121, g122, g123, g124, g125, g126, g127, g128, g129, g130, g131, g132, g133, g134, g135, g136, g137, g138, g139, g140, g141, g142, g143, g144, g145, g146, g147, g148, g149, g150, g151, g152, g153, g154, g155, g156, g157, g158, g159, g160, g161, g162, g163], []⟩ w')) :
    Code.wp Try.prog (reg5 14) Q ⟨#[g0, g1, .slice (some ⟨aa, ao, none⟩) na ca, .slice (some ⟨yb, yo, none⟩) ny cy, g4, g5, g6, g7, g8, g9, g10, g11, g12, g13, g14, g15, g16, .slice (some ⟨gb, 0, none⟩) L.length capb, .int .i64 (i : Nat), g19, g20, g21, g22, g23, g24, g25, g26, g27, g28, g29, g30, g31, g32, g33, g34, g35, g36, g37, g38, g39, g40, g41, g42, g43, g44, g45, g46, g47, g48, g49, g50, g51, g52, g53, g54, g55, g56, g57, g58, g59, g60, g61, g62, g63, g64, g65, g66, g67, g68, g69, g70, g71, g72, g73, g74, g75, g76, g77, g78, g79, g80, g81, g82, g83, g84, g85, g86, g87, g88, g89, g90, g91, g92, g93, g94, g95, g96, g97, g98, g99, g100, g101, g102, g103, g104, g105, g106, g107, g108, g109, g110, g111, g112, g113, g114, g115, g116, g117, g118, g119, g120, g121, g122, g123, g124, g125, g126, g127, g128, g129, g130, g131, g132, g133, g134, g135, g136, g137, g138, g139, g140, g141, g142, g143, g144, g145, g146, g147, g148, g149, g150, g151, g152, g153, g154, g155, g156, g157, g158, g159, g160, g161, g162, g163], []⟩ W := by
  conv => arg 2; whnf
  dsimp only
  have HC := hide (fun w' => rwithin av L.length hL0 (by omega) w')
  unfold WinP at HC
  refine wp_region_noPanic ?_
  refine wp_region_held_drew (S := fun w' => w'.cell? ⟨aa, ao + i, none⟩ = some (.int .i64 av) ∧ w'.cell? ⟨yb, yo + i, none⟩ = some (.int .u8 (yv : Nat))) (by kernel_rfl) (HS.out _ (fun _ _ => rfl)) (fun hHeld => ?_)
  refine' wpAnyH_take (i := 0) (oi := { dst := some 91, op := Go.Op.move (Go.Operand.tmp 17), type := 26, pos := "law.go:91", after := #[], guard := none }) (v := _) rfl (by kernel_rfl) (by kernel_rfl) (by kernel_rfl) (fun _ _ _ h => h) (Or.inl ⟨by rfl, ?_⟩) (by assumption) ?_
  rotate_left
  · intro w hSw; (try dsimp only at hSw); go_simp <;> with_reducible rfl
  simp only [Act.put, List.setIfInBounds_toArray, List.set_cons_zero, List.set_cons_succ]
  refine' wpAnyH_take (i := 1) (oi := { dst := some 92, op := Go.Op.move (Go.Operand.tmp 2), type := 52, pos := "law.go:91", after := #[], guard := none }) (v := _) rfl (by kernel_rfl) (by kernel_rfl) (by kernel_rfl) (fun _ _ _ h => h) (Or.inl ⟨by rfl, ?_⟩) (by assumption) ?_
  rotate_left
  · intro w hSw; (try dsimp only at hSw); go_simp <;> with_reducible rfl
  simp only [Act.put, List.setIfInBounds_toArray, List.set_cons_zero, List.set_cons_succ]
  refine' wpAnyH_take (i := 2) (oi := { dst := some 93, op := Go.Op.move (Go.Operand.tmp 18), type := 3, pos := "law.go:91", after := #[], guard := none }) (v := _) rfl (by kernel_rfl) (by kernel_rfl) (by kernel_rfl) (fun _ _ _ h => h) (Or.inl ⟨by rfl, ?_⟩) (by assumption) ?_
  rotate_left
  · intro w hSw; (try dsimp only at hSw); go_simp <;> with_reducible rfl
  simp only [Act.put, List.setIfInBounds_toArray, List.set_cons_zero, List.set_cons_succ]
  refine' wpAnyH_take (i := 3) (oi := { dst := some 94, op := Go.Op.indexAddr 52 (Go.Operand.tmp 92) (Go.Operand.tmp 93), type := 0, pos := "law.go:91", after := #[{ on := 1, ground := Go.Ground.data }, { on := 2, ground := Go.Ground.data }], guard := none }) (v := _) rfl (by kernel_rfl) (by kernel_rfl) (by kernel_rfl) (fun _ _ _ h => h) (Or.inl ⟨by rfl, ?_⟩) (by assumption) ?_
  rotate_left
  · intro w hSw; (try dsimp only at hSw); go_simp <;> with_reducible rfl
  simp only [Act.put, List.setIfInBounds_toArray, List.set_cons_zero, List.set_cons_succ]
  refine' wpAnyH_take (i := 4) (oi := { dst := some 95, op := Go.Op.load 3 (Go.Operand.tmp 94), type := 3, pos := "law.go:91", after := #[{ on := 3, ground := Go.Ground.data }], guard := none }) (v := _) rfl (by kernel_rfl) (by kernel_rfl) (by kernel_rfl) (fun _ _ _ h => h) (Or.inl ⟨by rfl, ?_⟩) (by assumption) ?_
  rotate_left
  · intro w hSw; (try dsimp only at hSw); go_simp <;> with_reducible rfl
  simp only [Act.put, List.setIfInBounds_toArray, List.set_cons_zero, List.set_cons_succ]
  refine' wpAnyH_take (i := 5) (oi := { dst := some 96, op := Go.Op.move (Go.Operand.tmp 17), type := 26, pos := "law.go:91", after := #[], guard := none }) (v := _) rfl (by kernel_rfl) (by kernel_rfl) (by kernel_rfl) (fun _ _ _ h => h) (Or.inl ⟨by rfl, ?_⟩) (by assumption) ?_
  rotate_left
  · intro w hSw; (try dsimp only at hSw); go_simp <;> with_reducible rfl
  simp only [Act.put, List.setIfInBounds_toArray, List.set_cons_zero, List.set_cons_succ]
  refine' wpAnyH_take (i := 6) (oi := { dst := some 97, op := Go.Op.call { callee := Go.Callee.builtin Go.Builtin.len, args := #[Go.Operand.tmp 96], argTypes := #[26] }, type := 3, pos := "law.go:91", after := #[{ on := 5, ground := Go.Ground.data }], guard := none }) (v := _) rfl (by kernel_rfl) (by kernel_rfl) (by kernel_rfl) (fun _ _ _ h => h) (Or.inl ⟨by rfl, ?_⟩) (by assumption) ?_
  rotate_left
  · intro w hSw; (try dsimp only at hSw); go_simp <;> with_reducible rfl
  simp only [Act.put, List.setIfInBounds_toArray, List.set_cons_zero, List.set_cons_succ]
  refine' wpAnyH_take (i := 10) (oi := { dst := some 101, op := Go.Op.move (Go.Operand.tmp 3), type := 26, pos := "law.go:91", after := #[], guard := none }) (v := _) rfl (by kernel_rfl) (by kernel_rfl) (by kernel_rfl) (fun _ _ _ h => h) (Or.inl ⟨by rfl, ?_⟩) (by assumption) ?_
  rotate_left
  · intro w hSw; (try dsimp only at hSw); go_simp <;> with_reducible rfl
  simp only [Act.put, List.setIfInBounds_toArray, List.set_cons_zero, List.set_cons_succ]
  refine' wpAnyH_take (i := 11) (oi := { dst := some 102, op := Go.Op.move (Go.Operand.tmp 18), type := 3, pos := "law.go:91", after := #[], guard := none }) (v := _) rfl (by kernel_rfl) (by kernel_rfl) (by kernel_rfl) (fun _ _ _ h => h) (Or.inl ⟨by rfl, ?_⟩) (by assumption) ?_
  rotate_left
  · intro w hSw; (try dsimp only at hSw); go_simp <;> with_reducible rfl
  simp only [Act.put, List.setIfInBounds_toArray, List.set_cons_zero, List.set_cons_succ]
  refine' wpAnyH_take (i := 12) (oi := { dst := some 103, op := Go.Op.indexAddr 26 (Go.Operand.tmp 101) (Go.Operand.tmp 102), type := 0, pos := "law.go:91", after := #[{ on := 10, ground := Go.Ground.data }, { on := 11, ground := Go.Ground.data }], guard := none }) (v := _) rfl (by kernel_rfl) (by kernel_rfl) (by kernel_rfl) (fun _ _ _ h => h) (Or.inl ⟨by rfl, ?_⟩) (by assumption) ?_
  rotate_left
  · intro w hSw; (try dsimp only at hSw); go_simp <;> with_reducible rfl
  simp only [Act.put, List.setIfInBounds_toArray, List.set_cons_zero, List.set_cons_succ]
  refine' wpAnyH_take (i := 13) (oi := { dst := some 104, op := Go.Op.load 5 (Go.Operand.tmp 103), type := 5, pos := "law.go:91", after := #[{ on := 12, ground := Go.Ground.data }], guard := none }) (v := _) rfl (by kernel_rfl) (by kernel_rfl) (by kernel_rfl) (fun _ _ _ h => h) (Or.inl ⟨by rfl, ?_⟩) (by assumption) ?_
  rotate_left
  · intro w hSw; (try dsimp only at hSw); go_simp <;> with_reducible rfl
  simp only [Act.put, List.setIfInBounds_toArray, List.set_cons_zero, List.set_cons_succ]
  refine wpAnyH_ready (rs := [7]) (by kernel_rfl) (by simp) ?_
  refine AllReadyH.cons rfl (fun K hK => ?_) AllReadyH.nil
  go_simp
  go_wp2_with (first | (go_at_call 23; (with_reducible refine (HC.out _).mono ?_); rintro e q1 ⟨k, rfl, hk, rfl⟩) | fail)
  refine hK.out _ _ ?_ (fun hHeld => ?_)
  · exact HS.out _ (fun _ _ => rfl)
  clear hK K
  try simp only [Act.put, List.setIfInBounds_toArray, List.set_cons_zero, List.set_cons_succ]
  refine' wpAnyH_take (i := 8) (oi := { dst := some 99, op := Go.Op.indexAddr 26 (Go.Operand.tmp 91) (Go.Operand.tmp 98), type := 0, pos := "law.go:91", after := #[{ on := 0, ground := Go.Ground.data }, { on := 7, ground := Go.Ground.data }], guard := none }) (v := _) rfl (by kernel_rfl) (by kernel_rfl) (by kernel_rfl) (fun _ _ _ h => h) (Or.inl ⟨by rfl, ?_⟩) (by assumption) ?_
  rotate_left
  · intro w hSw; (try dsimp only at hSw); go_simp <;> with_reducible rfl
  simp only [Act.put, List.setIfInBounds_toArray, List.set_cons_zero, List.set_cons_succ]
  obtain ⟨xk, hxk⟩ : ∃ x, L[k]? = some x := ⟨_, List.getElem?_eq_getElem hk⟩
  have hx256 : xk < 256 := hByt xk (List.mem_of_getElem? hxk)
  have hck : W.drew.cell? ⟨gb, k, none⟩ = some (.int .u8 (xk : Nat)) := by
    have := hR k (byteCell xk) (by rw [List.getElem?_map, hxk]; rfl)
    rw [Nat.zero_add] at this
    exact this
  have hfk : W.drew.frozen? ⟨gb, k, none⟩ = false := hfz k
  refine wpAnyH_ready (rs := [9]) (by kernel_rfl) (by simp) ?_
  refine AllReadyH.cons rfl (fun K hK => ?_) AllReadyH.nil
  go_simp
  go_wp2_with fail
  refine hK.out _ _ ?_ (fun hHeld => ?_)
  · exact HS.out _ (fun _ _ => rfl)
  clear hK K
  try simp only [Act.put, List.setIfInBounds_toArray, List.set_cons_zero, List.set_cons_succ]
  have hw8 : IntKind.u8.wrap ((xk : Int) + (yv : Int)) = (((xk + yv) % 256 : Nat) : Int) := by rw [IntKind.wrap_u8]; omega
  refine' wpAnyH_take (i := 14) (oi := { dst := some 105, op := Go.Op.binOp Go.BinOp.add 5 (Go.Operand.tmp 100) (Go.Operand.tmp 104) 5, type := 5, pos := "law.go:91", after := #[{ on := 9, ground := Go.Ground.data }, { on := 13, ground := Go.Ground.data }], guard := none }) (v := .int .u8 (((xk + yv) % 256 : Nat) : Int)) rfl (by kernel_rfl) (by kernel_rfl) (by kernel_rfl) (fun _ _ _ h => h) (Or.inl ⟨by rfl, ?_⟩) (by assumption) ?_
  · intro w hSw; (try dsimp only at hSw); go_simp <;> first | with_reducible rfl | (simp [hw8]; done)
  simp only [Act.put, List.setIfInBounds_toArray, List.set_cons_zero, List.set_cons_succ]
  refine' wpAnyH_take (i := 15) (oi := { dst := some 106, op := Go.Op.indexAddr 26 (Go.Operand.tmp 91) (Go.Operand.tmp 98), type := 0, pos := "law.go:91", after := #[{ on := 0, ground := Go.Ground.data }, { on := 7, ground := Go.Ground.data }, { on := 0, ground := Go.Ground.phase }, { on := 1, ground := Go.Ground.phase }, { on := 2, ground := Go.Ground.phase }, { on := 3, ground := Go.Ground.phase }, { on := 4, ground := Go.Ground.phase }, { on := 5, ground := Go.Ground.phase }, { on := 6, ground := Go.Ground.phase }, { on := 7, ground := Go.Ground.phase }, { on := 8, ground := Go.Ground.phase }, { on := 9, ground := Go.Ground.phase }, { on := 10, ground := Go.Ground.phase }, { on := 11, ground := Go.Ground.phase }, { on := 12, ground := Go.Ground.phase }, { on := 13, ground := Go.Ground.phase }, { on := 14, ground := Go.Ground.phase }], guard := none }) (v := _) rfl (by kernel_rfl) (by kernel_rfl) (by kernel_rfl) (fun _ _ _ h => h) (Or.inl ⟨by rfl, ?_⟩) (by assumption) ?_
  rotate_left
  · intro w hSw; (try dsimp only at hSw); go_simp <;> with_reducible rfl
  simp only [Act.put, List.setIfInBounds_toArray, List.set_cons_zero, List.set_cons_succ]
  refine wpAnyH_ready (rs := [16]) (by kernel_rfl) (by simp) ?_
  refine AllReadyH.cons rfl (fun K hK => ?_) AllReadyH.nil
  go_simp
  go_wp2_with fail
  refine hK.out _ _ ?_ (fun hHeld => ?_)
  · exact HS.out _ (fun b hb => Below.heap_setCell W.drew ⟨gb, k, none⟩ _ b hb)
  clear hK K
  try simp only [Act.put, List.setIfInBounds_toArray, List.set_cons_zero, List.set_cons_succ]
  refine wpAnyH_done (by kernel_rfl) ?_ _
  refine NoPanic.normal ?_
  exact HQ.out _ _ _ _ _ _ _ _ _ _ _ _ _ _ _ _ k ((xk + yv) % 256) _ hk (by omega) rfl rfl rfl rfl

open Go.RowKit

/-- What begins with that region. -/
def fromOf (n : Nat) : Code → Option Code
  | .seq (.region m o d) b => if m = n then some (.seq (.region m o d) b) else fromOf n b
  | .seq a b => match fromOf n a with
    | some c => some c
    | none => fromOf n b
  | .cond _ a b => match fromOf n a with
    | some c => some c
    | none => fromOf n b
  | .block _ c => fromOf n c
  | .loop c => fromOf n c
  | .scope c => fromOf n c
  | _ => none
noncomputable def tail5 : Code := match Try.f5.body with
  | some c => (fromOf 18 c).getD .skip
  | none => .skip

/-- A request is laid into a new block. -/
theorem put_newR (u : World) (cs : List Value) (hl : cs.length = 18) : (u.alloc (.cells #[.int .i64 0, .string { data := #[] }, .int .i64 0, .int .i64 0, .int .i64 0, .int .i64 0, .string { data := #[] }, .string { data := #[] }, .string { data := #[] }, .int .i64 0, .int .i64 0, .int .i64 0, .int .i64 0, .int .i64 0, .int .i64 0, .int .i64 0, .int .i64 0, .int .i64 0] 25)).there u.heap.size 0 18 ∧ Turn [] u ((u.alloc (.cells #[.int .i64 0, .string { data := #[] }, .int .i64 0, .int .i64 0, .int .i64 0, .int .i64 0, .string { data := #[] }, .string { data := #[] }, .string { data := #[] }, .int .i64 0, .int .i64 0, .int .i64 0, .int .i64 0, .int .i64 0, .int .i64 0, .int .i64 0, .int .i64 0, .int .i64 0] 25)).setCells u.heap.size 0 cs) ∧ ((u.alloc (.cells #[.int .i64 0, .string { data := #[] }, .int .i64 0, .int .i64 0, .int .i64 0, .int .i64 0, .string { data := #[] }, .string { data := #[] }, .string { data := #[] }, .int .i64 0, .int .i64 0, .int .i64 0, .int .i64 0, .int .i64 0, .int .i64 0, .int .i64 0, .int .i64 0, .int .i64 0] 25)).setCells u.heap.size 0 cs).rangeAt u.heap.size 0 cs := by
  have h1 : (u.alloc (.cells #[.int .i64 0, .string { data := #[] }, .int .i64 0, .int .i64 0, .int .i64 0, .int .i64 0, .string { data := #[] }, .string { data := #[] }, .string { data := #[] }, .int .i64 0, .int .i64 0, .int .i64 0, .int .i64 0, .int .i64 0, .int .i64 0, .int .i64 0, .int .i64 0, .int .i64 0] 25)).there u.heap.size 0 18 := there_new2 u #[.int .i64 0, .string { data := #[] }, .int .i64 0, .int .i64 0, .int .i64 0, .int .i64 0, .string { data := #[] }, .string { data := #[] }, .string { data := #[] }, .int .i64 0, .int .i64 0, .int .i64 0, .int .i64 0, .int .i64 0, .int .i64 0, .int .i64 0, .int .i64 0, .int .i64 0] 25
  exact ⟨h1, ((Turn.refl [] u).alloc _).setCellsN _ (Nat.le_refl _) cs 0, World.rangeAt_setCells_same _ _ 0 cs (by rw [hl]; exact h1)⟩

theorem st25 : Try.prog.stoodInHeld 25 = false := by kernel_rfl
theorem fo25 : Try.prog.underlying 25 = some (.struct (Try.prog.fieldsOf 25)) := by kernel_rfl
theorem eqgR : Try.prog.eqGuardType Try.prog.depth 25 = false := by kernel_rfl
set_option maxRecDepth 100000 in
theorem eq_rq (r : Rq) (w : World) : (Op.equalIn 10000 25 (.agg (rqC r).toArray) (.agg (rqC r).toArray)).run Try.prog w = .ok true w := by
  show (Op.equalIn 10000 25 (.agg #[.int .i64 r.k, .string r.key, .int .i64 r.id, .int .i64 r.n, .int .i64 r.ttl, .int .i64 r.o, .string r.nm, .string r.sec, .string r.pn, .int .i64 r.p1, .int .i64 r.p2, .int .i64 r.p3, .int .i64 r.p4, .int .i64 r.p5, .int .i64 r.p6, .int .i64 r.p7, .int .i64 r.p8, .int .i64 r.p9]) (.agg #[.int .i64 r.k, .string r.key, .int .i64 r.id, .int .i64 r.n, .int .i64 r.ttl, .int .i64 r.o, .string r.nm, .string r.sec, .string r.pn, .int .i64 r.p1, .int .i64 r.p2, .int .i64 r.p3, .int .i64 r.p4, .int .i64 r.p5, .int .i64 r.p6, .int .i64 r.p7, .int .i64 r.p8, .int .i64 r.p9])).run Try.prog w = .ok true w
  rw [run_equalIn_struct w 9999 25 _ _ fo25 st25]
  go_simp
theorem neq_rq (r : Rq) (w : World) : (binOp .neq 25 (.agg (rqC r).toArray) (.agg (rqC r).toArray)).run Try.prog w = .ok (.bool false) w := by
  rw [run_neq_struct, eq_rq r w]
  rfl
theorem neq_aw (a : Aw) (w : World) : (binOp .neq 43 (.agg (awC a).toArray) (.agg (awC a).toArray)).run Try.prog w = .ok (.bool false) w := by
  rw [run_neq_struct, eq_aw a w]
  rfl

/-- A load, an unequal of structs, whose guard is on. -/
theorem load_gd {ops : Array Oper} {rest : List Oper} {o : Oper} {a : Act} {w : World} {Q : Exit → Act → World → Prop} (T n : Nat) (hT : Sz T n) (x : Operand) (ho : o.op = .load T x) (hw : Region.wanted o (yielded ops a.tmps) = true) (b : Nat) (cs : List Value) (hl : cs.length = n)
    (hx : a.eval x = .pointer (some ⟨b, 0, none⟩)) (hr : w.rangeAt b 0 cs)
    (h : wpList Try.prog ops Q rest (a.put o.dst (.agg cs.toArray)) w) : wpList Try.prog ops Q (o :: rest) a w := by
  obtain ⟨h0, d, h1, h2⟩ := hT
  exact wpList_step fun K hK => by
    rw [if_pos hw]
    exact wp_load_mid T x ho b 0 hx cs d hr h1 h2 (by rw [h0, hl]) (hK _ _ h)
theorem neq_gd {ops : Array Oper} {rest : List Oper} {o : Oper} {a : Act} {w : World} {Q : Exit → Act → World → Prop} (t t2 : TypeId) (x y : Operand) (ho : o.op = .binOp .neq t x y t2) (hw : Region.wanted o (yielded ops a.tmps) = true)
    (A : Array Value) (hx : a.eval x = .agg A) (hy : a.eval y = .agg A) (hg : Try.prog.eqGuardType Try.prog.depth t = false) (hE : ∀ W, (binOp .neq t (.agg A) (.agg A)).run Try.prog W = .ok (.bool false) W)
    (h : wpList Try.prog ops Q rest (a.put o.dst (.bool false)) w) : wpList Try.prog ops Q (o :: rest) a w :=
  wpList_step fun K hK => by
    rw [if_pos hw]
    unfold Oper.wp execOp
    simp only [ho, hx, hy, Sem.run_bind, Sem.run_pure, Result.andThen_ok, run_eqGuard_agg (hm := hg), hE]
    exact hK _ _ h

set_option maxRecDepth 100000 in
set_option maxHeartbeats 12800000 in
theorem tail_any {W : World} {g0 g1 g2 g3 g4 g5 g6 g7 g8 g9 g10 g11 g12 g13 g14 g15 g16 g18 g19 g20 g21 g22 g23 g24 g25 g26 g27 g28 g29 g30 g31 g32 g33 g34 g35 g36 g37 g38 g39 g40 g41 g42 g43 g44 g45 g46 g47 g48 g49 g50 g51 g52 g53 g54 g55 g56 g57 g58 g59 g60 g61 g62 g63 g64 g65 g66 g67 g68 g69 g70 g71 g72 g73 g74 g75 g76 g77 g78 g79 g80 g81 g82 g83 g84 g85 g86 g87 g88 g89 g90 g91 g92 g93 g94 g95 g96 g97 g98 g99 g100 g101 g102 g103 g104 g105 g106 g107 g108 g109 g110 g111 g112 g113 g114 g115 g116 g117 g118 g119 g120 g121 g122 g123 g124 g125 g126 g127 g128 g129 g130 g131 g132 g133 g134 g135 g136 g137 g138 g139 g140 g141 g142 g143 g144 g145 g146 g147 g148 g149 g150 g151 g152 g153 g154 g155 g156 g157 g158 g159 g160 g161 g162 g163 : Value} (ba : Option Addr) (capb : Nat) (LB : List Nat) (Q : Exit → Act → World → Prop)
    (hB : BytesAt W ba LB) (hcb : LB.length ≤ capb) (hnil : ba = none → capb = 0) (hl : LB.length ≤ 1000000) (hby : Byt LB)
    (HQ : Hid (∀ (t19 t20 t21 t22 t23 t24 t25 t26 t122 t123 t124 t125 t126 t127 t128 t129 t130 t131 t132 t133 t134 t135 t136 t137 t138 t139 t140 t141 t142 t143 t144 t145 t146 t147 t148 t149 t150 t151 t152 t153 t154 t155 t156 t157 t158 t159 t160 t161 t162 t163 : Value) w', Turn [] W w' → Q .normal ⟨#[g0, g1, g2, g3, g4, g5, g6, g7, g8, g9, g10, g11, g12, g13, g14, g15, g16, .slice ba LB.length capb, g18, t19, t20, t21, t22, t23, t24, t25, t26, g27, g28, g29, g30, g31, g32, g33, g34, g35, g36, g37, g38, g39, g40, g41, g42, g43, g44, g45, g46, g47, g48, g49, g50, g51, g52, g53, g54, g55, g56, g57, g58, g59, g60, g61, g62, g63, g64, g65, g66, g67, g68, g69, g70, g71, g72, g73, g74, g75, g76, g77, g78, g79, g80, g81, g82, g83, g84, g85, g86, g87, g88, g89, g90, g91, g92, g93, g94, g95, g96, g97, g98, g99, g100, g101, g102, g103, g104, g105, g106, g107, g108, g109, g110, g111, g112, g113, g114, g115, g116, g117, g118, g119, g120, g121, t122, t123, t124, t125, t126, t127, t128, t129, t130, t131, t132, t133, t134, t135, t136, t137, t138, t139, t140, t141, t142, t143, t144, t145, t146, t147, t148, t149, t150, t151, t152, t153, t154, t155, t156, t157, t158, t159, t160, t161, t162, t163], []⟩ w')) :
    Code.wp Try.prog tail5 Q ⟨#[g0, g1, g2, g3, g4, g5, g6, g7, g8, g9, g10, g11, g12, g13, g14, g15, g16, .slice ba LB.length capb, g18, g19, g20, g21, g22, g23, g24, g25, g26, g27, g28, g29, g30, g31, g32, g33, g34, g35, g36, g37, g38, g39, g40, g41, g42, g43, g44, g45, g46, g47, g48, g49, g50, g51, g52, g53, g54, g55, g56, g57, g58, g59, g60, g61, g62, g63, g64, g65, g66, g67, g68, g69, g70, g71, g72, g73, g74, g75, g76, g77, g78, g79, g80, g81, g82, g83, g84, g85, g86, g87, g88, g89, g90, g91, g92, g93, g94, g95, g96, g97, g98, g99, g100, g101, g102, g103, g104, g105, g106, g107, g108, g109, g110, g111, g112, g113, g114, g115, g116, g117, g118, g119, g120, g121, g122, g123, g124, g125, g126, g127, g128, g129, g130, g131, g132, g133, g134, g135, g136, g137, g138, g139, g140, g141, g142, g143, g144, g145, g146, g147, g148, g149, g150, g151, g152, g153, g154, g155, g156, g157, g158, g159, g160, g161, g162, g163], []⟩ W := by
  conv => arg 2; whnf
  obtain ⟨PR, hPR⟩ : ∃ P, (if endS (reqS prC ⟨LB, 0⟩ Rq.zero).1 = 0 then (reqS prC ⟨LB, 0⟩ Rq.zero).2 else Rq.zero) = P := ⟨_, rfl⟩
  obtain ⟨GR, hGR⟩ : ∃ G, endS (reqS prC ⟨LB, 0⟩ Rq.zero).1 = G := ⟨_, rfl⟩
  have HPR : Hid (∀ r V V', PrqP V (reqS prC ⟨LB, 0⟩ Rq.zero).1 (reqS prC ⟨LB, 0⟩ Rq.zero).2 r V' → r = .returned (.tuple #[.agg (rqC PR).toArray, .int .i64 (GR : Nat)]) ∧ Turn [] V V') := fun r V V' h => by
    obtain ⟨h1, h2⟩ := h
    exact ⟨by rw [h1, hPR, hGR], h2⟩
  clear hPR hGR
  obtain ⟨PA, hPA⟩ : ∃ P, (if endS (anS ⟨LB, 0⟩).1 = 0 then ranA ⟨LB, 0⟩ else Aw.zero) = P := ⟨_, rfl⟩
  obtain ⟨GA, hGA⟩ : ∃ G, endS (anS ⟨LB, 0⟩).1 = G := ⟨_, rfl⟩
  have HP1 : Hid (∀ r V V', PaP V (panS ⟨LB, 0⟩).1 (panS ⟨LB, 0⟩).2 r V' → r = .returned (.tuple #[.agg (awC PA).toArray, .int .i64 (GA : Nat)]) ∧ Turn [] V V') := fun r V V' h => by
    obtain ⟨h1, h2⟩ := h
    obtain ⟨p1, p2⟩ := pan_ran LB hby
    rw [p1] at h1
    refine ⟨?_, h2⟩
    rw [h1, ← hPA, ← hGA]
    by_cases he : endS (anS ⟨LB, 0⟩).1 = 0
    · rw [if_pos he, if_pos he, p2 he]
    · rw [if_neg he, if_neg he]
  have HP2 : Hid (∀ r V V', PaP V (anS ⟨LB, 0⟩).1 (ranA ⟨LB, 0⟩) r V' → r = .returned (.tuple #[.agg (awC PA).toArray, .int .i64 (GA : Nat)]) ∧ Turn [] V V') := fun r V V' h => by
    obtain ⟨h1, h2⟩ := h
    refine ⟨?_, h2⟩
    rw [h1, ← hPA, ← hGA]
  clear hPA hGA
  obtain ⟨cR, hcR⟩ : ∃ c, rqC PR = c := ⟨_, rfl⟩
  have hlR : cR.length = 18 := by rw [← hcR]; rfl
  have HOneR : Hid (∀ v ∈ cR, v.oneCell' = true) := by rw [← hcR]; exact rqC_one PR
  rw [hcR] at HPR
  have HcR := hide (fun (_ : Unit) => hcR)
  clear hcR
  obtain ⟨cA, hcA⟩ : ∃ c, awC PA = c := ⟨_, rfl⟩
  have hlA : cA.length = 13 := by rw [← hcA]; rfl
  have HOneA : Hid (∀ v ∈ cA, v.oneCell' = true) := by rw [← hcA]; exact awC_one PA
  rw [hcA] at HP1 HP2
  have HcA := hide (fun (_ : Unit) => hcA)
  clear hcA
  have HBy := hide hby
  have HNc := hide hnil
  have HLc := hide hcb
  have HLn := hide hl
  have HB0 := hide hB
  have HT0 : Hid (Turn [] W W) := Turn.refl [] W
  clear hby hnil hcb hB
  have HO : Hid ((W.alloc (.cells #[] 5)).ownsRow W.heap.size 5 1 (.slice (some ⟨W.heap.size, 0, none⟩) 0 0) 0 (([] : List Nat).map byteCell)) := World.ownsRow_lit W #[] 0 (Nat.le_refl _) (by decide) rfl
  have HBa : Hid (BytesAt (W.alloc (.cells #[] 5)) ba LB) := HB0.out.turn (S := []) ((Turn.refl [] W).alloc _) (by simp)
  have HAp : Hid (∀ v' w', w'.ownsRow W.heap.size 5 1 v' (0 + LB.length) (([] ++ LB).map byteCell) → (W.alloc (.cells #[] 5)).grownBy w' (some W.heap.size) → ∃ a c, v' = .slice a LB.length c ∧ Byr w' a c LB ∧ Turn [] W w') := fun v' w' h1 h2 => by
    obtain ⟨a5, c5, e5, y5⟩ := Byr.of h1 HBy.out
    exact ⟨a5, c5, e5, y5, ((Turn.refl [] W).alloc _).grown h2 (fun k e => .inr (by have := Option.some.inj e; omega))⟩
  go_wp2_with (first | (at_builtin; refine append_bytes rfl _ _ rfl W.heap.size (.slice (some ⟨W.heap.size, 0, none⟩) 0 0) 0 [] rfl HO.out ba LB.length capb LB rfl rfl HNc.out HBa.out (by omega) (by simp) ?_; intro v5 w5 h1 h2 h3; obtain ⟨a5, c5, rfl, hy5, hT5⟩ := HAp.out v5 w5 h1 h2; have HY5 := hide hy5; have HT5 := hide hT5; clear h1 h2 h3 hy5 hT5) | fail)
  refine (parsereq w5 a5 c5 LB HY5.out).mono ?_
  rintro e w6 hPa
  obtain ⟨h6, hT6⟩ := HPR.out _ _ _ hPa
  subst h6
  have HT6 := hide (HT0.out.trans (HT5.out.trans hT6))
  have hT56 := HT5.out.trans hT6
  have HB6 := hide (HB0.out.turn hT56 (by simp))
  clear hPa hT6 hT56 HO HBa HAp HY5 HT5 HB0 HT0
  obtain ⟨ht, hTn, hrn⟩ := put_newR w6 cR hlR
  have HTh := hide ht
  have HTn := hide hTn
  have HRn := hide hrn
  clear ht hTn hrn
  go_upto_region 19 with (first | ((with_reducible refine store_sz 25 18 sz25 _ _ w6.heap.size 0 cR hlR HOneR.out ?_ ?_ HTh.out ?_); rfl; rfl) | fail)
  generalize w6.heap.size = q0 at *
  generalize (w6.alloc (.cells #[.int .i64 0, .string { data := #[] }, .int .i64 0, .int .i64 0, .int .i64 0, .int .i64 0, .string { data := #[] }, .string { data := #[] }, .string { data := #[] }, .int .i64 0, .int .i64 0, .int .i64 0, .int .i64 0, .int .i64 0, .int .i64 0, .int .i64 0, .int .i64 0, .int .i64 0] 25)).setCells q0 0 cR = w1 at *
  clear HTh
  have HT1 := hide (HT6.out.trans HTn.out)
  have HB1 := hide (HB6.out.turn HTn.out (by simp))
  have HR10 := hide HRn.out
  clear HT6 HB6 HTn HRn
  go_wp2_with fail
  refine (rparsereq w1 ba capb LB HB1.out HLc.out HLn.out HBy.out).mono ?_
  rintro e w6 hPa
  obtain ⟨h6, hT6⟩ := HPR.out _ _ _ hPa
  subst h6
  have HT6 := hide (HT1.out.trans hT6)
  have HB6 := hide (HB1.out.turn hT6 (by simp))
  have HR60 := hide (rng_turn HR10.out hT6)
  clear hPa hT6 HB1 HT1 HR10
  obtain ⟨ht, hTn, hrn⟩ := put_newR w6 cR hlR
  have HTh := hide ht
  have HTn := hide hTn
  have HRn := hide hrn
  clear ht hTn hrn
  go_upto_region 20 with (first | ((with_reducible refine store_sz 25 18 sz25 _ _ w6.heap.size 0 cR hlR HOneR.out ?_ ?_ HTh.out ?_); rfl; rfl) | fail)
  generalize w6.heap.size = q1 at *
  generalize (w6.alloc (.cells #[.int .i64 0, .string { data := #[] }, .int .i64 0, .int .i64 0, .int .i64 0, .int .i64 0, .string { data := #[] }, .string { data := #[] }, .string { data := #[] }, .int .i64 0, .int .i64 0, .int .i64 0, .int .i64 0, .int .i64 0, .int .i64 0, .int .i64 0, .int .i64 0, .int .i64 0] 25)).setCells q1 0 cR = w2 at *
  clear HTh
  have HT2 := hide (HT6.out.trans HTn.out)
  have HB2 := hide (HB6.out.turn HTn.out (by simp))
  have HR20 := hide (rng_turn HR60.out HTn.out)
  have HR21 := hide HRn.out
  clear HT6 HB6 HTn HRn HR60
  have HO : Hid ((w2.alloc (.cells #[] 5)).ownsRow w2.heap.size 5 1 (.slice (some ⟨w2.heap.size, 0, none⟩) 0 0) 0 (([] : List Nat).map byteCell)) := World.ownsRow_lit w2 #[] 0 (Nat.le_refl _) (by decide) rfl
  have HBa : Hid (BytesAt (w2.alloc (.cells #[] 5)) ba LB) := HB2.out.turn (S := []) ((Turn.refl [] w2).alloc _) (by simp)
  have HAp : Hid (∀ v' w', w'.ownsRow w2.heap.size 5 1 v' (0 + LB.length) (([] ++ LB).map byteCell) → (w2.alloc (.cells #[] 5)).grownBy w' (some w2.heap.size) → ∃ a c, v' = .slice a LB.length c ∧ Byr w' a c LB ∧ Turn [] w2 w') := fun v' w' h1 h2 => by
    obtain ⟨a5, c5, e5, y5⟩ := Byr.of h1 HBy.out
    exact ⟨a5, c5, e5, y5, ((Turn.refl [] w2).alloc _).grown h2 (fun k e => .inr (by have := Option.some.inj e; omega))⟩
  go_wp2_with (first | (at_builtin; refine append_bytes rfl _ _ rfl w2.heap.size (.slice (some ⟨w2.heap.size, 0, none⟩) 0 0) 0 [] rfl HO.out ba LB.length capb LB rfl rfl HNc.out HBa.out (by omega) (by simp) ?_; intro v5 w5 h1 h2 h3; obtain ⟨a5, c5, rfl, hy5, hT5⟩ := HAp.out v5 w5 h1 h2; have HY5 := hide hy5; have HT5 := hide hT5; clear h1 h2 h3 hy5 hT5) | fail)
  refine (parseans w5 a5 c5 LB HY5.out).mono ?_
  rintro e w6 hPa
  obtain ⟨h6, hT6⟩ := HP1.out _ _ _ hPa
  subst h6
  have HT6 := hide (HT2.out.trans (HT5.out.trans hT6))
  have hT56 := HT5.out.trans hT6
  have HB6 := hide (HB2.out.turn hT56 (by simp))
  have HR60 := hide (rng_turn HR20.out hT56)
  have HR61 := hide (rng_turn HR21.out hT56)
  clear hPa hT6 hT56 HO HBa HAp HY5 HT5 HB2 HT2 HR20 HR21
  obtain ⟨ht, hTn, hrn⟩ := put_new w6 cA hlA
  have HTh := hide ht
  have HTn := hide hTn
  have HRn := hide hrn
  clear ht hTn hrn
  go_upto_region 21 with (first | ((with_reducible refine store_sz 43 13 sz67 _ _ w6.heap.size 0 cA hlA HOneA.out ?_ ?_ HTh.out ?_); rfl; rfl) | fail)
  generalize w6.heap.size = q2 at *
  generalize (w6.alloc (.cells #[.int .i64 0, .int .i64 0, .int .i64 0, .int .i64 0, .string { data := #[] }, .int .i64 0, .int .i64 0, .int .i64 0, .int .i64 0, .int .i64 0, .int .i64 0, .int .i64 0, .int .i64 0] 43)).setCells q2 0 cA = w3 at *
  clear HTh
  have HT3 := hide (HT6.out.trans HTn.out)
  have HB3 := hide (HB6.out.turn HTn.out (by simp))
  have HR30 := hide (rng_turn HR60.out HTn.out)
  have HR31 := hide (rng_turn HR61.out HTn.out)
  have HR32 := hide HRn.out
  clear HT6 HB6 HTn HRn HR60 HR61
  go_wp2_with fail
  refine (rparseans w3 ba capb LB HB3.out HLc.out HLn.out HBy.out).mono ?_
  rintro e w6 hPa
  obtain ⟨h6, hT6⟩ := HP2.out _ _ _ hPa
  subst h6
  have HT6 := hide (HT3.out.trans hT6)
  have HB6 := hide (HB3.out.turn hT6 (by simp))
  have HR60 := hide (rng_turn HR30.out hT6)
  have HR61 := hide (rng_turn HR31.out hT6)
  have HR62 := hide (rng_turn HR32.out hT6)
  clear hPa hT6 HB3 HT3 HR30 HR31 HR32
  obtain ⟨ht, hTn, hrn⟩ := put_new w6 cA hlA
  have HTh := hide ht
  have HTn := hide hTn
  have HRn := hide hrn
  clear ht hTn hrn
  go_upto_region 22 with (first | ((with_reducible refine store_sz 43 13 sz67 _ _ w6.heap.size 0 cA hlA HOneA.out ?_ ?_ HTh.out ?_); rfl; rfl) | fail)
  generalize w6.heap.size = q3 at *
  generalize (w6.alloc (.cells #[.int .i64 0, .int .i64 0, .int .i64 0, .int .i64 0, .string { data := #[] }, .int .i64 0, .int .i64 0, .int .i64 0, .int .i64 0, .int .i64 0, .int .i64 0, .int .i64 0, .int .i64 0] 43)).setCells q3 0 cA = w4 at *
  clear HTh
  have HT4 := hide (HT6.out.trans HTn.out)
  have HB4 := hide (HB6.out.turn HTn.out (by simp))
  have HR40 := hide (rng_turn HR60.out HTn.out)
  have HR41 := hide (rng_turn HR61.out HTn.out)
  have HR42 := hide (rng_turn HR62.out HTn.out)
  have HR43 := hide HRn.out
  clear HT6 HB6 HTn HRn HR60 HR61 HR62
  have HeR := hide (neq_rq PR)
  have HeA := hide (neq_aw PA)
  rw [HcR.out ()] at HeR
  rw [HcA.out ()] at HeA
  have hw : ∀ x : Int, (x != x) = false := fun x => by simp
  clear HPR HP1 HP2 HcR HcA HOneR HOneA HB4
  go_wp2_with (first | ((with_reducible refine load_gd 25 18 sz25 (.tmp 19) ?_ ?_ q0 cR hlR ?_ HR40.out ?_); rfl; rfl; rfl) | ((with_reducible refine load_gd 25 18 sz25 (.tmp 21) ?_ ?_ q1 cR hlR ?_ HR41.out ?_); rfl; rfl; rfl) | ((with_reducible refine load_gd 43 13 sz67 (.tmp 23) ?_ ?_ q2 cA hlA ?_ HR42.out ?_); rfl; rfl; rfl) | ((with_reducible refine load_gd 43 13 sz67 (.tmp 25) ?_ ?_ q3 cA hlA ?_ HR43.out ?_); rfl; rfl; rfl) | ((with_reducible refine neq_gd 25 25 (.tmp 146) (.tmp 147) ?_ ?_ cR.toArray ?_ ?_ eqgR HeR.out ?_); rfl; rfl; rfl; rfl) | ((with_reducible refine neq_gd 43 43 (.tmp 155) (.tmp 156) ?_ ?_ cA.toArray ?_ ?_ eqg HeA.out ?_); rfl; rfl; rfl; rfl) | fail)
  exact HQ.out _ _ _ _ _ _ _ _ _ _ _ _ _ _ _ _ _ _ _ _ _ _ _ _ _ _ _ _ _ _ _ _ _ _ _ _ _ _ _ _ _ _ _ _ _ _ _ _ _ _ _ HT4.out

open Go.RowKit

/-- The block of that number. -/
def blockOf (n : Nat) : Code → Option Code
  | .seq a b => match blockOf n a with
    | some c => some c
    | none => blockOf n b
  | .cond _ a b => match blockOf n a with
    | some c => some c
    | none => blockOf n b
  | .block m c => if m = n then some c else blockOf n c
  | .loop c => blockOf n c
  | .scope c => blockOf n c
  | _ => none
/-- A round of the loop. -/
noncomputable def round5 : Code := match Try.f5.body with
  | some c => (blockOf 1 c).getD .skip
  | none => .skip

theorem own_bytesAt {w : World} {base : Nat} {v : Option Addr} {n c : Nat} {l : List Nat} (h : w.ownsRow base 5 1 (.slice v n c) l.length (l.map byteCell)) : BytesAt w v l := by
  by_cases hl : 0 < l.length
  · obtain ⟨g, cap, e, _, _, _, hB, _⟩ := own_bytes h hl
    injection e with e1 e2 e3
    rw [e1]
    exact hB
  · exact .inl (List.eq_nil_of_length_eq_zero (by omega))

theorem own_rd {w : World} {base n c : Nat} {a : Option Addr} {l : List Nat} (h : w.ownsRow base 5 1 (.slice a n c) n (l.map byteCell)) : l.length = n ∧ n ≤ c ∧ c ≤ maxLen ∧ (a = none ∧ c = 0 ∨ ∃ ab ao, a = some ⟨ab, ao, none⟩) ∧ BytesAt w a l := by
  have hl : l.length = n := by have := h.1; rw [List.length_map] at this; omega
  subst hl
  have hB := own_bytesAt h
  obtain ⟨_, ⟨hx, h0⟩ | ⟨g, cap, cur, hv, hb, hg, hnc, hmx, hsz, hcur⟩⟩ := h
  · injection hx with e1 e2 e3
    subst e1 e3
    exact ⟨rfl, by omega, Nat.zero_le _, .inl ⟨rfl, rfl⟩, hB⟩
  · injection hv with e1 e2 e3
    subst e1 e3
    exact ⟨rfl, hnc, hmx, .inr ⟨g, 0, rfl⟩, hB⟩
theorem turn_byte {g : Nat} {wr w w' : World} {k z : Nat} (h : Turn [g] wr w) (hw : w'.heap = (w.setCell ⟨g, k, none⟩ (.int .u8 (z : Nat))).heap) (h1 : w'.os = w.os) (h2 : w'.tape = w.tape) (h3 : w'.output = w.output) : Turn [g] wr w' := by
  have := h.setCell (b := g) (by simp) k (.int .u8 (z : Nat))
  exact ⟨h1.trans h.os, h2.trans h.tape, h3.trans h.output, by rw [hw]; exact this.size, fun i hi hn => by rw [hw]; exact this.block i hi hn⟩
theorem Byt.set {l : List Nat} (h : Byt l) (k z : Nat) (hz : z < 256) : Byt (l.set k z) := fun x hx => by
  rcases List.mem_or_eq_of_mem_set hx with h1 | h1
  · exact h x h1
  · omega
theorem Byt.front {l : List Nat} (h : Byt l) (m : Nat) : Byt (l.take m) := fun x hx => h x (List.mem_of_mem_take hx)
set_option maxRecDepth 100000 in
theorem slice_front (a : Option Addr) (n c m : Nat) (w : World) (hk : m ≤ c) : (Instr.slice 26 (.slice a n c) none (some (.int .i64 (m : Nat))) none).run Try.prog w = .ok (.slice a m c) w := by
  rw [run_slice_h w 26 a n c (by kernel_rfl) .i64 m (by omega) (by omega)]
  have hs : (sizeOf (Try.prog.elem 26)).run Try.prog w = .ok 1 w := by go_simp
  rw [hs]
  simp only [Result.andThen, sliced, Int.toNat_natCast, Nat.zero_mul, Nat.sub_zero]
  congr 2
  split
  · rfl
  · cases a <;> rfl

/-- What the bytes have become. -/
def Bys (base gk n cap : Nat) (wr wx : World) : Prop := ∃ L2 : List Nat, L2.length = n ∧ Byt L2 ∧ wx.ownsRow base 5 1 (.slice (some ⟨gk, 0, none⟩) n cap) n (L2.map byteCell) ∧ Turn [gk] wr wx

set_option maxRecDepth 100000 in
set_option maxHeartbeats 12800000 in
theorem round_any {wS : World} {g0 g1 g6 g7 g8 g9 g10 g11 g12 g13 g14 g17 g18 g19 g20 g21 g22 g23 g24 g25 g26 g27 g28 g29 g30 g31 g32 g33 g34 g35 g36 g37 g38 g39 g40 g41 g42 g43 g44 g45 g46 g47 g48 g49 g50 g51 g52 g53 g54 g55 g56 g57 g58 g59 g60 g61 g62 g63 g64 g65 g66 g67 g68 g69 g70 g71 g72 g73 g74 g75 g76 g77 g78 g79 g80 g81 g82 g83 g84 g85 g86 g87 g88 g89 g90 g91 g92 g93 g94 g95 g96 g97 g98 g99 g100 g101 g102 g103 g104 g105 g106 g107 g108 g109 g110 g111 g112 g113 g114 g115 g116 g117 g118 g119 g120 g121 g122 g123 g124 g125 g126 g127 g128 g129 g130 g131 g132 g133 g134 g135 g136 g137 g138 g139 g140 g141 g142 g143 g144 g145 g146 g147 g148 g149 g150 g151 g152 g153 g154 g155 g156 g157 g158 g159 g160 g161 g162 g163 : Value} (k gr gk cap base : Nat) (aat aby amo : Option Addr) (nat cat nby cby cmo n : Nat) (cut : Int) (lmo L : List Nat) (Q : Exit → Act → World → Prop)
    (hk : k < 2) (hn0 : 0 < n) (hn1 : n ≤ 900000) (hb : base ≤ wS.heap.size) (hml : lmo.length ≤ 100)
    (hc : wS.cell? ⟨gr, k, none⟩ = some (.slice (some ⟨gk, 0, none⟩) n cap))
    (HOo : Hid (wS.ownsRow base 5 1 (.slice (some ⟨gk, 0, none⟩) n cap) n (L.map byteCell))) (HLo : Hid (Byt L)) (HMo2 : Hid (Byt lmo))
    (HAt : Hid (∀ i, i < nat → ∃ b o x, aat = some ⟨b, o, none⟩ ∧ b ≠ gk ∧ b < wS.heap.size ∧ wS.cell? ⟨b, o + i, none⟩ = some (.int .i64 x)))
    (HByR : Hid (∀ i, i < nby → ∃ b o y, aby = some ⟨b, o, none⟩ ∧ b ≠ gk ∧ b < wS.heap.size ∧ y < 256 ∧ wS.cell? ⟨b, o + i, none⟩ = some (.int .u8 (y : Nat))))
    (HMo : Hid (∀ w', Turn [gk] wS w' → BytesAt w' amo lmo)) (HNil : Hid (amo = none → cmo = 0))
    (HQ : Hid (∀ (t17 t18 t19 t20 t21 t22 t23 t24 t25 t26 t71 t72 t73 t74 t75 t76 t77 t78 t79 t80 t81 t82 t83 t84 t85 t86 t87 t88 t89 t90 t91 t92 t93 t94 t95 t96 t97 t98 t99 t100 t101 t102 t103 t104 t105 t106 t107 t108 t109 t110 t111 t112 t113 t114 t115 t116 t117 t118 t119 t120 t121 t122 t123 t124 t125 t126 t127 t128 t129 t130 t131 t132 t133 t134 t135 t136 t137 t138 t139 t140 t141 t142 t143 t144 t145 t146 t147 t148 t149 t150 t151 t152 t153 t154 t155 t156 t157 t158 t159 t160 t161 t162 t163 : Value) w', Turn [gk] wS w' → Q .normal ⟨#[g0, g1, .slice aat nat cat, .slice aby nby cby, .int .i64 cut, .slice amo lmo.length cmo, g6, g7, g8, g9, g10, g11, g12, g13, g14, .slice (some ⟨gr, 0, none⟩) 2 2, .int .i64 (k : Nat), t17, t18, t19, t20, t21, t22, t23, t24, t25, t26, g27, g28, g29, g30, g31, g32, g33, g34, g35, g36, g37, g38, g39, g40, g41, g42, g43, g44, g45, g46, g47, g48, g49, g50, g51, g52, g53, g54, g55, g56, g57, g58, g59, g60, g61, g62, g63, g64, g65, g66, g67, g68, g69, g70, t71, t72, t73, t74, t75, t76, t77, t78, t79, t80, t81, t82, t83, t84, t85, t86, t87, t88, t89, t90, t91, t92, t93, t94, t95, t96, t97, t98, t99, t100, t101, t102, t103, t104, t105, t106, t107, t108, t109, t110, t111, t112, t113, t114, t115, t116, t117, t118, t119, t120, t121, t122, t123, t124, t125, t126, t127, t128, t129, t130, t131, t132, t133, t134, t135, t136, t137, t138, t139, t140, t141, t142, t143, t144, t145, t146, t147, t148, t149, t150, t151, t152, t153, t154, t155, t156, t157, t158, t159, t160, t161, t162, t163], []⟩ w')) :
    Code.wp Try.prog round5 Q ⟨#[g0, g1, .slice aat nat cat, .slice aby nby cby, .int .i64 cut, .slice amo lmo.length cmo, g6, g7, g8, g9, g10, g11, g12, g13, g14, .slice (some ⟨gr, 0, none⟩) 2 2, .int .i64 (k : Nat), g17, g18, g19, g20, g21, g22, g23, g24, g25, g26, g27, g28, g29, g30, g31, g32, g33, g34, g35, g36, g37, g38, g39, g40, g41, g42, g43, g44, g45, g46, g47, g48, g49, g50, g51, g52, g53, g54, g55, g56, g57, g58, g59, g60, g61, g62, g63, g64, g65, g66, g67, g68, g69, g70, g71, g72, g73, g74, g75, g76, g77, g78, g79, g80, g81, g82, g83, g84, g85, g86, g87, g88, g89, g90, g91, g92, g93, g94, g95, g96, g97, g98, g99, g100, g101, g102, g103, g104, g105, g106, g107, g108, g109, g110, g111, g112, g113, g114, g115, g116, g117, g118, g119, g120, g121, g122, g123, g124, g125, g126, g127, g128, g129, g130, g131, g132, g133, g134, g135, g136, g137, g138, g139, g140, g141, g142, g143, g144, g145, g146, g147, g148, g149, g150, g151, g152, g153, g154, g155, g156, g157, g158, g159, g160, g161, g162, g163], []⟩ wS := by
  conv => arg 2; whnf
  have HB0 : Hid (Bys base gk n cap wS wS) := ⟨L, by have := HOo.out.1; rw [List.length_map] at this; omega, HLo.out, HOo.out, Turn.refl _ _⟩
  go_upto_block 2 with fail
  go_cut [18] from 75 to 106 (fun _ wx => Bys base gk n cap wS wx)
  case first =>
    go_wp2_with fail
    go_loopw [18] (fun iv wi => ∃ i : Nat, i ≤ 3 ∧ iv = .int .i64 (i : Nat) ∧ Hid (Bys base gk n cap wS wi)) (fun iv _ => 4 - (intOf iv).toNat)
    case atStart => exact ⟨0, by omega, rfl, HB0⟩
    case round =>
      obtain ⟨i, hi, rfl, HB⟩ := hrel
      clear hc
      by_cases hlt : i < nat ∧ i < nby ∧ i < 3
      · obtain ⟨h1, h2, h3⟩ := hlt
        obtain ⟨b1, o1, av, rfl, hb1, hb1l, hc1⟩ := HAt.out i h1
        obtain ⟨b2, o2, yv, rfl, hb2, hb2l, hy, hc2⟩ := HByR.out i h2
        obtain ⟨L2, hL2, hby2, hO2, hT2⟩ := HB.out
        subst hL2
        have hce := own_cells hO2
        have HT2 := hide hT2
        have HO2 := hide hO2
        have HC1 := hide hc1
        have HC2 := hide hc2
        go_upto_region 14 with fail
        refine reg14_any L2 b1 o1 nat cat b2 o2 nby cby gk cap i yv av _ h1 h2 hn0 (by omega) hby2 (fun w' hw' => ?_) hce.1 hce.2.1 ?_
        · exact ⟨(World.cell?_of_block (a := ⟨b1, o1 + i, none⟩) ((hw' b1 hb1).trans (HT2.out.block b1 hb1l (by simp; exact hb1)))).trans HC1.out, (World.cell?_of_block (a := ⟨b2, o2 + i, none⟩) ((hw' b2 hb2).trans (HT2.out.block b2 hb2l (by simp; exact hb2)))).trans HC2.out⟩
        · intro q78 q79 q80 q81 q82 q83 q84 q85 q86 q87 q88 q89 q90 q91 q92 q93 kk z w' hkk hz hw' e1 e2 e3
          have HB2 : Hid (Bys base gk L2.length cap wS w') := ⟨L2.set kk z, List.length_set, hby2.set kk z hz, own_byte HO2.out kk z hkk hw', turn_byte HT2.out hw' e1 e2 e3⟩
          clear hw' e1 e2 e3 hce hby2 hO2 hT2 hc1 hc2
          go_wp2_with fail
          go_roundw
          case rel => exact ⟨i + 1, by omega, by go_num, HB2⟩
          case measure => simp [intOf]; omega
      · have hcs : (¬ i < nat) ∨ (i < nat ∧ ¬ i < nby) ∨ (i < nat ∧ i < nby ∧ ¬ i < 3) := by
          by_cases h : i < nat
          · by_cases h' : i < nby
            · exact .inr (.inr ⟨h, h', fun h2 => hlt ⟨h, h', h2⟩⟩)
            · exact .inr (.inl ⟨h, h'⟩)
          · exact .inl h
        clear hlt
        rcases hcs with h1 | ⟨h1, h2⟩ | ⟨h1, h2, h3⟩
        all_goals
          go_wp2_with fail
          go_meet
          case rel => exact HB.out
  case rest =>
    obtain ⟨L2, hL2, hby2, hO2, hT2⟩ := hcut
    have HL2 := hide hL2
    have HBy2 := hide hby2
    have HO2 := hide hO2
    have HT2 := hide hT2
    have hcap : n ≤ cap := (own_cells hO2).2.2.1
    clear hL2 hby2 hO2 hT2 hc HB0
    go_upto_if 108 with fail
    go_cut [17] from 107 to 118 (fun u wx => ∃ m : Nat, m ≤ n ∧ u = .slice (some ⟨gk, 0, none⟩) m cap ∧ wx = wc)
    case first =>
      by_cases hct : 0 < cut
      · have HC := hide (rwithin cut (n + 1) (by omega) (by omega) wc)
        unfold WinP at HC
        go_wp2_with fail
        refine HC.out.mono ?_
        rintro e w3 ⟨kk, rfl, hkk, rfl⟩
        have hse : (n : Int) - (kk : Int) = ((n - kk : Nat) : Int) := by omega
        have hs : ∀ w, (Instr.slice 26 (.slice (some ⟨gk, 0, none⟩) n cap) none (some (.int .i64 ((n : Int) - (kk : Int)))) none).run Try.prog w = .ok (.slice (some ⟨gk, 0, none⟩) (n - kk) cap) w := fun w => by rw [hse]; exact slice_front _ _ _ _ w (by omega)
        clear hse
        go_wp2_with fail
        go_meet
        case rel => exact ⟨n - kk, by omega, rfl, rfl⟩
      · go_wp2_with fail
        go_meet
        case rel => exact ⟨n, Nat.le_refl _, rfl, rfl⟩
    case rest =>
      obtain ⟨m, hm, rfl, rfl⟩ := hcut
      have HOm := hide (own_front HO2.out m hm)
      have HLm : Hid ((L2.take m).length = m) := by unfold Hid; rw [List.length_take, HL2.out]; omega
      have HMw := hide (HMo.out _ HT2.out)
      have HBw : Hid (base ≤ wc.heap.size) := Nat.le_trans hb HT2.out.size
      go_upto_region 18 with (first | (at_builtin; (with_reducible refine append_b rfl _ _ rfl base (.slice (some ⟨gk, 0, none⟩) m cap) (L2.take m) m HLm.out rfl HOm.out amo lmo.length cmo lmo rfl rfl HMw.out HNil.out ?_ HBw.out ?_); omega; intro v4 W hO4 hG4 hv4; have HO4 := hide hO4; have HG4 := hide hG4; clear hO4 hG4 hv4) | fail)
      obtain ⟨LB, hLB⟩ : ∃ LB, LB = L2.take m ++ lmo := ⟨_, rfl⟩
      have HLn2 : Hid (m + lmo.length = LB.length) := by unfold Hid; rw [hLB, List.length_append, HLm.out]
      have hby : Byt LB := by
        rw [hLB]
        intro x hx
        rcases List.mem_append.1 hx with h | h
        · exact HBy2.out.front m x h
        · exact HMo2.out x h
      rw [← hLB, HLn2.out] at HO4
      obtain ⟨ba, capb, rfl⟩ := own_form HO4.out
      have hl : LB.length ≤ 1000000 := by rw [← HLn2.out]; omega
      have HTW : Hid (Turn [gk] wS W) := HT2.out.grown HG4.out (fun q hq => .inl (by simp [Value.ownBlock] at hq; simp [hq]))
      obtain ⟨_, hcb, r2, r3, hB⟩ := own_rd HO4.out
      have hnil : ba = none → capb = 0 := fun e => by
        rcases r3 with ⟨_, h⟩ | ⟨ab, ao, h⟩
        · exact h
        · rw [e] at h; cases h
      clear hLB r2 r3 HOm HLm HMw HG4 HO4 HO2 HBy2 HL2 HT2 HBw
      obtain ⟨PR, hPR⟩ : ∃ P, (if endS (reqS prC ⟨LB, 0⟩ Rq.zero).1 = 0 then (reqS prC ⟨LB, 0⟩ Rq.zero).2 else Rq.zero) = P := ⟨_, rfl⟩
      obtain ⟨GR, hGR⟩ : ∃ G, endS (reqS prC ⟨LB, 0⟩ Rq.zero).1 = G := ⟨_, rfl⟩
      have HPR : Hid (∀ r V V', PrqP V (reqS prC ⟨LB, 0⟩ Rq.zero).1 (reqS prC ⟨LB, 0⟩ Rq.zero).2 r V' → r = .returned (.tuple #[.agg (rqC PR).toArray, .int .i64 (GR : Nat)]) ∧ Turn [] V V') := fun r V V' h => by
        obtain ⟨h1, h2⟩ := h
        exact ⟨by rw [h1, hPR, hGR], h2⟩
      clear hPR hGR
      obtain ⟨PA, hPA⟩ : ∃ P, (if endS (anS ⟨LB, 0⟩).1 = 0 then ranA ⟨LB, 0⟩ else Aw.zero) = P := ⟨_, rfl⟩
      obtain ⟨GA, hGA⟩ : ∃ G, endS (anS ⟨LB, 0⟩).1 = G := ⟨_, rfl⟩
      have HP1 : Hid (∀ r V V', PaP V (panS ⟨LB, 0⟩).1 (panS ⟨LB, 0⟩).2 r V' → r = .returned (.tuple #[.agg (awC PA).toArray, .int .i64 (GA : Nat)]) ∧ Turn [] V V') := fun r V V' h => by
        obtain ⟨h1, h2⟩ := h
        obtain ⟨p1, p2⟩ := pan_ran LB hby
        rw [p1] at h1
        refine ⟨?_, h2⟩
        rw [h1, ← hPA, ← hGA]
        by_cases he : endS (anS ⟨LB, 0⟩).1 = 0
        · rw [if_pos he, if_pos he, p2 he]
        · rw [if_neg he, if_neg he]
      have HP2 : Hid (∀ r V V', PaP V (anS ⟨LB, 0⟩).1 (ranA ⟨LB, 0⟩) r V' → r = .returned (.tuple #[.agg (awC PA).toArray, .int .i64 (GA : Nat)]) ∧ Turn [] V V') := fun r V V' h => by
        obtain ⟨h1, h2⟩ := h
        refine ⟨?_, h2⟩
        rw [h1, ← hPA, ← hGA]
      clear hPA hGA
      obtain ⟨cR, hcR⟩ : ∃ c, rqC PR = c := ⟨_, rfl⟩
      have hlR : cR.length = 18 := by rw [← hcR]; rfl
      have HOneR : Hid (∀ v ∈ cR, v.oneCell' = true) := by rw [← hcR]; exact rqC_one PR
      rw [hcR] at HPR
      have HcR := hide (fun (_ : Unit) => hcR)
      clear hcR
      obtain ⟨cA, hcA⟩ : ∃ c, awC PA = c := ⟨_, rfl⟩
      have hlA : cA.length = 13 := by rw [← hcA]; rfl
      have HOneA : Hid (∀ v ∈ cA, v.oneCell' = true) := by rw [← hcA]; exact awC_one PA
      rw [hcA] at HP1 HP2
      have HcA := hide (fun (_ : Unit) => hcA)
      clear hcA
      have HBy := hide hby
      have HNc := hide hnil
      have HLc := hide hcb
      have HLn := hide hl
      have HB0 := hide hB
      have HT0 : Hid (Turn [] W W) := Turn.refl [] W
      clear hby hnil hcb hB
      have HO : Hid ((W.alloc (.cells #[] 5)).ownsRow W.heap.size 5 1 (.slice (some ⟨W.heap.size, 0, none⟩) 0 0) 0 (([] : List Nat).map byteCell)) := World.ownsRow_lit W #[] 0 (Nat.le_refl _) (by decide) rfl
      have HBa : Hid (BytesAt (W.alloc (.cells #[] 5)) ba LB) := HB0.out.turn (S := []) ((Turn.refl [] W).alloc _) (by simp)
      have HAp : Hid (∀ v' w', w'.ownsRow W.heap.size 5 1 v' (0 + LB.length) (([] ++ LB).map byteCell) → (W.alloc (.cells #[] 5)).grownBy w' (some W.heap.size) → ∃ a c, v' = .slice a LB.length c ∧ Byr w' a c LB ∧ Turn [] W w') := fun v' w' h1 h2 => by
        obtain ⟨a5, c5, e5, y5⟩ := Byr.of h1 HBy.out
        exact ⟨a5, c5, e5, y5, ((Turn.refl [] W).alloc _).grown h2 (fun k e => .inr (by have := Option.some.inj e; omega))⟩
      go_wp2_with (first | (at_builtin; refine append_bytes rfl _ _ rfl W.heap.size (.slice (some ⟨W.heap.size, 0, none⟩) 0 0) 0 [] rfl HO.out ba LB.length capb LB rfl rfl HNc.out HBa.out (by omega) (by simp) ?_; intro v5 w5 h1 h2 h3; obtain ⟨a5, c5, rfl, hy5, hT5⟩ := HAp.out v5 w5 h1 h2; have HY5 := hide hy5; have HT5 := hide hT5; clear h1 h2 h3 hy5 hT5) | fail)
      refine (parsereq w5 a5 c5 LB HY5.out).mono ?_
      rintro e w6 hPa
      obtain ⟨h6, hT6⟩ := HPR.out _ _ _ hPa
      subst h6
      have HT6 := hide (HT0.out.trans (HT5.out.trans hT6))
      have hT56 := HT5.out.trans hT6
      have HB6 := hide (HB0.out.turn hT56 (by simp))
      clear hPa hT6 hT56 HO HBa HAp HY5 HT5 HB0 HT0
      obtain ⟨ht, hTn, hrn⟩ := put_newR w6 cR hlR
      have HTh := hide ht
      have HTn := hide hTn
      have HRn := hide hrn
      clear ht hTn hrn
      go_upto_region 19 with (first | ((with_reducible refine store_sz 25 18 sz25 _ _ w6.heap.size 0 cR hlR HOneR.out ?_ ?_ HTh.out ?_); rfl; rfl) | fail)
      generalize w6.heap.size = q0 at *
      generalize (w6.alloc (.cells #[.int .i64 0, .string { data := #[] }, .int .i64 0, .int .i64 0, .int .i64 0, .int .i64 0, .string { data := #[] }, .string { data := #[] }, .string { data := #[] }, .int .i64 0, .int .i64 0, .int .i64 0, .int .i64 0, .int .i64 0, .int .i64 0, .int .i64 0, .int .i64 0, .int .i64 0] 25)).setCells q0 0 cR = w1 at *
      clear HTh
      have HT1 := hide (HT6.out.trans HTn.out)
      have HB1 := hide (HB6.out.turn HTn.out (by simp))
      have HR10 := hide HRn.out
      clear HT6 HB6 HTn HRn
      go_wp2_with fail
      refine (rparsereq w1 ba capb LB HB1.out HLc.out HLn.out HBy.out).mono ?_
      rintro e w6 hPa
      obtain ⟨h6, hT6⟩ := HPR.out _ _ _ hPa
      subst h6
      have HT6 := hide (HT1.out.trans hT6)
      have HB6 := hide (HB1.out.turn hT6 (by simp))
      have HR60 := hide (rng_turn HR10.out hT6)
      clear hPa hT6 HB1 HT1 HR10
      obtain ⟨ht, hTn, hrn⟩ := put_newR w6 cR hlR
      have HTh := hide ht
      have HTn := hide hTn
      have HRn := hide hrn
      clear ht hTn hrn
      go_upto_region 20 with (first | ((with_reducible refine store_sz 25 18 sz25 _ _ w6.heap.size 0 cR hlR HOneR.out ?_ ?_ HTh.out ?_); rfl; rfl) | fail)
      generalize w6.heap.size = q1 at *
      generalize (w6.alloc (.cells #[.int .i64 0, .string { data := #[] }, .int .i64 0, .int .i64 0, .int .i64 0, .int .i64 0, .string { data := #[] }, .string { data := #[] }, .string { data := #[] }, .int .i64 0, .int .i64 0, .int .i64 0, .int .i64 0, .int .i64 0, .int .i64 0, .int .i64 0, .int .i64 0, .int .i64 0] 25)).setCells q1 0 cR = w2 at *
      clear HTh
      have HT2 := hide (HT6.out.trans HTn.out)
      have HB2 := hide (HB6.out.turn HTn.out (by simp))
      have HR20 := hide (rng_turn HR60.out HTn.out)
      have HR21 := hide HRn.out
      clear HT6 HB6 HTn HRn HR60
      have HO : Hid ((w2.alloc (.cells #[] 5)).ownsRow w2.heap.size 5 1 (.slice (some ⟨w2.heap.size, 0, none⟩) 0 0) 0 (([] : List Nat).map byteCell)) := World.ownsRow_lit w2 #[] 0 (Nat.le_refl _) (by decide) rfl
      have HBa : Hid (BytesAt (w2.alloc (.cells #[] 5)) ba LB) := HB2.out.turn (S := []) ((Turn.refl [] w2).alloc _) (by simp)
      have HAp : Hid (∀ v' w', w'.ownsRow w2.heap.size 5 1 v' (0 + LB.length) (([] ++ LB).map byteCell) → (w2.alloc (.cells #[] 5)).grownBy w' (some w2.heap.size) → ∃ a c, v' = .slice a LB.length c ∧ Byr w' a c LB ∧ Turn [] w2 w') := fun v' w' h1 h2 => by
        obtain ⟨a5, c5, e5, y5⟩ := Byr.of h1 HBy.out
        exact ⟨a5, c5, e5, y5, ((Turn.refl [] w2).alloc _).grown h2 (fun k e => .inr (by have := Option.some.inj e; omega))⟩
      go_wp2_with (first | (at_builtin; refine append_bytes rfl _ _ rfl w2.heap.size (.slice (some ⟨w2.heap.size, 0, none⟩) 0 0) 0 [] rfl HO.out ba LB.length capb LB rfl rfl HNc.out HBa.out (by omega) (by simp) ?_; intro v5 w5 h1 h2 h3; obtain ⟨a5, c5, rfl, hy5, hT5⟩ := HAp.out v5 w5 h1 h2; have HY5 := hide hy5; have HT5 := hide hT5; clear h1 h2 h3 hy5 hT5) | fail)
      refine (parseans w5 a5 c5 LB HY5.out).mono ?_
      rintro e w6 hPa
      obtain ⟨h6, hT6⟩ := HP1.out _ _ _ hPa
      subst h6
      have HT6 := hide (HT2.out.trans (HT5.out.trans hT6))
      have hT56 := HT5.out.trans hT6
      have HB6 := hide (HB2.out.turn hT56 (by simp))
      have HR60 := hide (rng_turn HR20.out hT56)
      have HR61 := hide (rng_turn HR21.out hT56)
      clear hPa hT6 hT56 HO HBa HAp HY5 HT5 HB2 HT2 HR20 HR21
      obtain ⟨ht, hTn, hrn⟩ := put_new w6 cA hlA
      have HTh := hide ht
      have HTn := hide hTn
      have HRn := hide hrn
      clear ht hTn hrn
      go_upto_region 21 with (first | ((with_reducible refine store_sz 43 13 sz67 _ _ w6.heap.size 0 cA hlA HOneA.out ?_ ?_ HTh.out ?_); rfl; rfl) | fail)
      generalize w6.heap.size = q2 at *
      generalize (w6.alloc (.cells #[.int .i64 0, .int .i64 0, .int .i64 0, .int .i64 0, .string { data := #[] }, .int .i64 0, .int .i64 0, .int .i64 0, .int .i64 0, .int .i64 0, .int .i64 0, .int .i64 0, .int .i64 0] 43)).setCells q2 0 cA = w3 at *
      clear HTh
      have HT3 := hide (HT6.out.trans HTn.out)
      have HB3 := hide (HB6.out.turn HTn.out (by simp))
      have HR30 := hide (rng_turn HR60.out HTn.out)
      have HR31 := hide (rng_turn HR61.out HTn.out)
      have HR32 := hide HRn.out
      clear HT6 HB6 HTn HRn HR60 HR61
      go_wp2_with fail
      refine (rparseans w3 ba capb LB HB3.out HLc.out HLn.out HBy.out).mono ?_
      rintro e w6 hPa
      obtain ⟨h6, hT6⟩ := HP2.out _ _ _ hPa
      subst h6
      have HT6 := hide (HT3.out.trans hT6)
      have HB6 := hide (HB3.out.turn hT6 (by simp))
      have HR60 := hide (rng_turn HR30.out hT6)
      have HR61 := hide (rng_turn HR31.out hT6)
      have HR62 := hide (rng_turn HR32.out hT6)
      clear hPa hT6 HB3 HT3 HR30 HR31 HR32
      obtain ⟨ht, hTn, hrn⟩ := put_new w6 cA hlA
      have HTh := hide ht
      have HTn := hide hTn
      have HRn := hide hrn
      clear ht hTn hrn
      go_upto_region 22 with (first | ((with_reducible refine store_sz 43 13 sz67 _ _ w6.heap.size 0 cA hlA HOneA.out ?_ ?_ HTh.out ?_); rfl; rfl) | fail)
      generalize w6.heap.size = q3 at *
      generalize (w6.alloc (.cells #[.int .i64 0, .int .i64 0, .int .i64 0, .int .i64 0, .string { data := #[] }, .int .i64 0, .int .i64 0, .int .i64 0, .int .i64 0, .int .i64 0, .int .i64 0, .int .i64 0, .int .i64 0] 43)).setCells q3 0 cA = w4 at *
      clear HTh
      have HT4 := hide (HT6.out.trans HTn.out)
      have HB4 := hide (HB6.out.turn HTn.out (by simp))
      have HR40 := hide (rng_turn HR60.out HTn.out)
      have HR41 := hide (rng_turn HR61.out HTn.out)
      have HR42 := hide (rng_turn HR62.out HTn.out)
      have HR43 := hide HRn.out
      clear HT6 HB6 HTn HRn HR60 HR61 HR62
      have HeR := hide (neq_rq PR)
      have HeA := hide (neq_aw PA)
      rw [HcR.out ()] at HeR
      rw [HcA.out ()] at HeA
      have hw : ∀ x : Int, (x != x) = false := fun x => by simp
      clear HPR HP1 HP2 HcR HcA HOneR HOneA HB4
      go_wp2_with (first | ((with_reducible refine load_gd 25 18 sz25 (.tmp 19) ?_ ?_ q0 cR hlR ?_ HR40.out ?_); rfl; rfl; rfl) | ((with_reducible refine load_gd 25 18 sz25 (.tmp 21) ?_ ?_ q1 cR hlR ?_ HR41.out ?_); rfl; rfl; rfl) | ((with_reducible refine load_gd 43 13 sz67 (.tmp 23) ?_ ?_ q2 cA hlA ?_ HR42.out ?_); rfl; rfl; rfl) | ((with_reducible refine load_gd 43 13 sz67 (.tmp 25) ?_ ?_ q3 cA hlA ?_ HR43.out ?_); rfl; rfl; rfl) | ((with_reducible refine neq_gd 25 25 (.tmp 146) (.tmp 147) ?_ ?_ cR.toArray ?_ ?_ eqgR HeR.out ?_); rfl; rfl; rfl; rfl) | ((with_reducible refine neq_gd 43 43 (.tmp 155) (.tmp 156) ?_ ?_ cA.toArray ?_ ?_ eqg HeA.out ?_); rfl; rfl; rfl; rfl) | fail)
      exact HQ.out _ _ _ _ _ _ _ _ _ _ _ _ _ _ _ _ _ _ _ _ _ _ _ _ _ _ _ _ _ _ _ _ _ _ _ _ _ _ _ _ _ _ _ _ _ _ _ _ _ _ _ _ _ _ _ _ _ _ _ _ _ _ _ _ _ _ _ _ _ _ _ _ _ _ _ _ _ _ _ _ _ _ _ _ _ _ _ _ _ _ _ _ _ _ _ _ _ _ _ _ _ _ _ _ (HTW.out.trans (HT4.out.mono (by simp)))

open Go.RowKit

set_option maxRecDepth 100000 in
set_option maxHeartbeats 1600000 in
theorem rencans2 (w : World) (a : Aw) (ha : a.Ok) :
    Calls Try.prog 22 #[.agg (awC a).toArray] w fun e w' => ∃ v, e = .returned v ∧ w'.ownsRow w.heap.size 5 1 v (awB a).length ((awB a).map byteCell) ∧ Turn [] w w' := by
  obtain ⟨ha1, ha2, ha3⟩ := ha
  obtain ⟨n, hn⟩ : ∃ n : Nat, a.er = (n : Int) := ⟨a.er.toNat, by omega⟩
  have hT0 : Turn [] w (w.alloc (.cells (awC a).toArray 43)) := (Turn.refl [] w).alloc _
  have hR := rng_new w (awC a) (awC a).toArray 43 rfl
  have hB : awB a = [] ++ ansBy n [a.l1, a.l2, a.l3] a.nm [a.z1, a.z2, a.z3, a.z4, a.z5, a.z6, a.z7, a.z8] := by unfold awB; rw [hn]; rfl
  have hC := fun W => ranswer (w := W) (.slice none 0 0) [] n a.l1 a.l2 a.l3 a.nm a.z1 a.z2 a.z3 a.z4 a.z5 a.z6 a.z7 a.z8 ha3 (by omega) (by simp) (World.ownsRow_nil _ _ _ _)
  rw [← hB] at hC
  have hcs : (#[.int .i64 (n : Nat), .int .i64 a.l1, .int .i64 a.l2, .int .i64 a.l3, .string a.nm, .int .i64 a.z1, .int .i64 a.z2, .int .i64 a.z3, .int .i64 a.z4, .int .i64 a.z5, .int .i64 a.z6, .int .i64 a.z7, .int .i64 a.z8] : Array Value) = (awC a).toArray := by unfold awC; rw [hn]
  rw [hcs] at hC
  have HC := hide hC
  have HR := hide hR
  have HT0 := hide hT0
  have hl13 := awC_len a
  clear hC hR hT0 hB hcs hn ha1 ha2 ha3
  generalize awB a = B at *
  generalize awC a = cs at *
  generalize hrb : w.heap.size = rb at *
  go_enter Try.func22, Try.ntmps22
  go_wp2_with (first | ((with_reducible refine load_sz 43 13 sz67 _ rb 0 cs hl13 ?_ HR.out ?_); rfl) | fail)
  have HRb := hide hrb
  clear hrb
  refine (HC.out _).mono ?_
  rintro e w1 ⟨v, rfl, hG⟩
  have HO : Hid (w1.ownsRow rb 5 1 v B.length (B.map byteCell)) := own_up hG.own (fun x e => by
    rcases hG.loc x e with e2 | e2
    · cases e2
    · have := HRb.out; simp at e2; omega)
  have HT : Hid (Turn [] w w1) := HT0.out.grown hG.grown (fun k e => by cases e)
  clear hG
  go_wp2_with fail
  go_ret
  exact ⟨v, rfl, HO.out, HT.out⟩

theorem Byt.app {a b : List Nat} (h : Byt a) (k : Byt b) : Byt (a ++ b) := fun x hx => by
  rcases List.mem_append.1 hx with h1 | h1
  · exact h x h1
  · exact k x h1
theorem byt_tx {t : ByteArray} (h : t.size ≤ 255) : Byt (txB t) := fun x hx => by
  unfold txB at hx
  rcases List.mem_append.1 hx with h1 | h1
  · rw [List.mem_singleton] at h1; omega
  · exact natBytes_lt t x h1
theorem byt_8 (x : Int) : Byt (be8 x) := be8_lt x
theorem reqB_ok (r : Rq) (hk : isK r.k) (hf : Fit (txts r)) : 0 < (reqB r).length ∧ (reqB r).length ≤ 900000 ∧ Byt (reqB r) := by
  obtain ⟨k, key, id, n, ttl, o, nm, sec, pn, p1, p2, p3, p4, p5, p6, p7, p8, p9⟩ := r
  unfold Fit txts at hf
  dsimp only at hk hf
  have h0 : ∀ j : Nat, j < 256 → Byt [j] := fun j hj x hx => by rw [List.mem_singleton] at hx; omega
  rcases hk with rfl | rfl | rfl | rfl | rfl | rfl | rfl | rfl | rfl | rfl
  all_goals
    simp at hf
    refine ⟨by simp [reqB], ?_, ?_⟩
  · simp [reqB, bodyB, txB_len, be8_length]; omega
  · exact ((h0 1 (by omega)).app (byt_tx hf)).app (((byt_8 id).app (byt_8 n)).app (byt_8 ttl))
  · simp [reqB, bodyB, txB_len, be8_length]; omega
  · exact ((h0 4 (by omega)).app (byt_tx hf)).app (((byt_8 id).app (byt_8 n)).app (byt_8 ttl))
  · simp [reqB, bodyB, txB_len, be8_length]; omega
  · exact ((h0 2 (by omega)).app (byt_tx hf)).app (((byt_8 id).app (byt_8 o)).app (byt_8 n))
  · simp [reqB, bodyB, txB_len, be8_length]; omega
  · exact ((h0 3 (by omega)).app (byt_tx hf)).app ((byt_8 id).app (byt_8 o))
  · simp [reqB, bodyB, txB_len]; omega
  · exact ((h0 5 (by omega)).app (byt_tx hf)).app (fun x hx => by cases hx)
  · simp [reqB, bodyB, txB_len, tiB_ln, Rq.px]; omega
  · exact ((h0 16 (by omega)).app (byt_tx hf.1)).app (tiB_lt pn _ hf.2)
  · simp [reqB, bodyB, txB_len, be8_length]; omega
  · exact ((h0 17 (by omega)).app (byt_tx hf.1)).app ((((byt_tx hf.2.1).app (byt_tx hf.2.2.1)).app (byt_tx hf.2.2.2)).app (byt_8 p1))
  · simp [reqB, bodyB, txB_len, be8_length]; omega
  · exact ((h0 18 (by omega)).app (byt_tx hf.1)).app (((byt_tx hf.2.1).app (byt_tx hf.2.2)).app (byt_8 p1))
  · simp [reqB, bodyB, txB_len, be8_length]; omega
  · exact ((h0 19 (by omega)).app (byt_tx hf)).app (byt_8 n)
  · simp [reqB, bodyB, txB_len, be8_length]; omega
  · exact ((h0 20 (by omega)).app (byt_tx hf.1)).app ((byt_tx hf.2).app (byt_8 n))
theorem enc_bytes (r : Rq) (h : (reqS wrC ⟨[], 0⟩ r).1.e = 0) : 0 < (reqS wrC ⟨[], 0⟩ r).1.l.length ∧ (reqS wrC ⟨[], 0⟩ r).1.l.length ≤ 900000 ∧ Byt (reqS wrC ⟨[], 0⟩ r).1.l := by
  by_cases hk : isK r.k
  · by_cases hf : Fit (txts r)
    · rw [enc_ok r hk hf]
      exact reqB_ok r hk hf
    · rw [enc_long r hk hf] at h; cases h
  · rw [enc_no r hk] at h; cases h
theorem awB_ok (a : Aw) (h : a.Ok) : 0 < (awB a).length ∧ (awB a).length ≤ 900000 ∧ Byt (awB a) := by
  refine ⟨by unfold awB ansBy; simp, ?_, awB_lt a h⟩
  have h3 := h.2.2
  unfold awB ansBy
  rw [List.length_append, List.length_append, flat8_length]
  split
  · simp
  · rw [List.length_append, tiB_ln]; simp; omega

/-- One of two. -/
def nv {X : Type} (a b : X) (k : Nat) : X := if k = 0 then a else b
/-- What holds behind k rounds. -/
structure Rst (W w : World) (gr : Nat) (vs : Nat → Value) (Ls : Nat → List Nat) (k : Nat) : Prop where
  own : ∀ j, k ≤ j → j < 2 → w.ownsRow W.heap.size 5 1 (vs j) (Ls j).length ((Ls j).map byteCell)
  row : ∀ j, j < 2 → w.cell? ⟨gr, j, none⟩ = some (vs j)
  tn : Turn [] W w
/-- What does not turn. -/
structure Sta (gr : Nat) (vs : Nat → Value) : Prop where
  ne : ∀ i j, i < 2 → j < 2 → i ≠ j → ∀ x, (vs i).ownBlock = some x → (vs j).ownBlock ≠ some x
  nr : ∀ i, i < 2 → (vs i).ownBlock ≠ some gr
theorem two {j : Nat} (h : j < 2) : j = 0 ∨ j = 1 := by omega
theorem Rst.next {W w w' : World} {gr gk : Nat} {vs : Nat → Value} {Ls : Nat → List Nat} {k : Nat} (h : Rst W w gr vs Ls k) (s : Sta gr vs) (hk : k < 2) (hv : (vs k).ownBlock = some gk) (hg : W.heap.size ≤ gk) (hT : Turn [gk] w w') : Rst W w' gr vs Ls (k + 1) := by
  refine ⟨fun j h1 h2 => ?_, fun j hj => ?_, ?_⟩
  · have ho := h.own j (by omega) h2
    refine own_same ho (fun x e => hT.block x (ho.lt x e).2 ?_)
    intro hm
    obtain rfl : x = gk := by simpa using hm
    exact s.ne j k h2 hk (by omega) _ e hv
  · have hc := h.row j hj
    refine (hT.cell (p := ⟨gr, j, none⟩) (lt_of_cell hc) ?_).trans hc
    intro hm
    obtain rfl : gr = gk := by simpa using hm
    exact s.nr k hk hv
  · exact h.tn.then hT (fun x hx => .inr (by simp at hx; omega))
/-- Two rows of the call's own, and a row of the two. -/
theorem two_rows {W w2 w3 w4 : World} {v0 v1 : Value} {L0 L1 : List Nat} (h0 : w2.ownsRow W.heap.size 5 1 v0 L0.length (L0.map byteCell)) (hW : Turn [] W w2) (h23 : Turn [] w2 w3) (h1 : w4.ownsRow w3.heap.size 5 1 v1 L1.length (L1.map byteCell)) (h34 : Turn [] w3 w4) (t : TypeId) :
    Sta w4.heap.size (nv v0 v1) ∧ Rst W (w4.alloc (.cells #[v0, v1] t)) w4.heap.size (nv v0 v1) (nv L0 L1) 0 := by
  have a0 := h0.lt
  have a1 := h1.lt
  have z1 := hW.size
  have z2 := h23.size
  have z3 := h34.size
  have h5 : Turn [] w2 (w4.alloc (.cells #[v0, v1] t)) := (h23.trans h34).alloc _
  refine ⟨⟨fun i j hi hj hn x e k => ?_, fun i hi e => ?_⟩, fun j _ hj => ?_, fun j hj => ?_, hW.trans h5⟩
  · rcases two hi with rfl | rfl <;> rcases two hj with rfl | rfl <;> first | exact absurd rfl hn | skip
    · have := a0 x e; have := a1 x k; omega
    · have := a1 x e; have := a0 x k; omega
  · rcases two hi with rfl | rfl
    · have := a0 _ e; omega
    · have := a1 _ e; omega
  · rcases two hj with rfl | rfl
    · exact own_same h0 (fun x e => h5.block x (a0 x e).2 (by simp))
    · exact own_up (own_zero (h1.alloc _)) (fun x e => by have := a1 x e; omega)
  · rw [World.cell?_alloc_at _ _ _ _ rfl]
    rcases two hj with rfl | rfl <;> rfl

set_option maxRecDepth 100000 in
set_option maxHeartbeats 12800000 in
theorem turns_any (r : Rq) (a : Aw) (aat : Option Addr) (nat cat : Nat) (aby : Option Addr) (cby : Nat) (lby : List Nat) (cut : Int) (amo : Option Addr) (cmo : Nat) (lmo : List Nat) (w : World) (_hrn : r.Nums) (hrf : r.Fits) (_han : a.Nums) (haz : a.nm.size ≤ 9223372036854775807)
    (hAt : ∀ i, i < nat → ∃ b o x, aat = some ⟨b, o, none⟩ ∧ w.cell? ⟨b, o + i, none⟩ = some (.int .i64 x)) (hBy : ArgB w aby cby lby) (hMo : ArgB w amo cmo lmo) :
    Calls Try.prog 5 #[.agg (rqC r).toArray, .agg (awC a).toArray, .slice aat nat cat, .slice aby lby.length cby, .int .i64 cut, .slice amo lmo.length cmo] w fun e w' => e = .returned (.bool true) ∧ Turn [] w w' := by
  have HAt := hide hAt
  have HBy : Hid (∀ i, i < lby.length → ∃ b o y, aby = some ⟨b, o, none⟩ ∧ y < 256 ∧ w.cell? ⟨b, o + i, none⟩ = some (.int .u8 (y : Nat))) := fun i hi => by
    obtain ⟨hB, hb, _⟩ := hBy
    rcases hB with rfl | ⟨b, off, e, hA⟩
    · cases hi
    · exact ⟨b, off, lby.getD i 0, e, hb _ (by rw [List.getD_eq_getElem?_getD, List.getElem?_eq_getElem hi]; exact List.getElem_mem _), hA i hi⟩
  have HMo := hide hMo.1
  have HMb : Hid (Byt lmo) := hMo.2.1
  have HNil := hide hMo.2.2.1
  have hlm : lmo.length ≤ 9223372036854775807 := by have h1 := hMo.2.2.2.1; have h2 := hMo.2.2.2.2.1; unfold maxLen at h2; omega
  have hra : ((w.alloc (.cells (rqC r).toArray 25)).alloc (.cells (awC a).toArray 43)).rangeAt w.heap.size 0 (rqC r) := World.rangeAt_alloc (rng_new w (rqC r) (rqC r).toArray 25 rfl) _
  have hro : ((w.alloc (.cells (rqC r).toArray 25)).alloc (.cells (awC a).toArray 43)).rangeAt (w.heap.size + 1) 0 (awC a) := by
    have := rng_new (w.alloc (.cells (rqC r).toArray 25)) (awC a) (awC a).toArray 43 rfl
    rw [show (w.alloc (.cells (rqC r).toArray 25)).heap.size = w.heap.size + 1 by simp] at this
    exact this
  have HT0 : Hid (Turn [] w ((w.alloc (.cells (rqC r).toArray 25)).alloc (.cells (awC a).toArray 43))) := ((Turn.refl [] w).alloc _).alloc _
  have HR0 := hide hra
  have HA0 := hide hro
  have HRe := hide (fun W => rencreq W r hrf.ok)
  have HFw := hide (fun W => few_any r hrf W)
  have HEb := hide (enc_bytes r)
  have HAw := hide (rencans2)
  have HCA : Hid (∀ W : World, W.rangeAt (w.heap.size + 1) 0 (awC a) → W.cell? ⟨w.heap.size + 1, 0, none⟩ = some (.int .i64 a.er) ∧ W.cell? ⟨w.heap.size + 1, 4, none⟩ = some (.string a.nm)) := fun W h => ⟨h 0 _ rfl, h 4 _ rfl⟩
  have hlR := rqC_len r
  have hlA := awC_len a
  generalize (reqS wrC ⟨[], 0⟩ r).1 = S at *
  clear hAt hBy hMo hra hro hrf _hrn _han
  generalize hba : w.heap.size = ba at *
  have HBa := hide hba
  go_enter Try.func5, Try.ntmps5
  go_wp2_with fail
  try simp only [hba]
  clear hba
  generalize (w.alloc (.cells (rqC r).toArray 25)).alloc (.cells (awC a).toArray 43) = w0 at *
  refine (known_any w0).mono ?_
  rintro e w1 ⟨rfl, hT⟩
  have HT1 := hide (HT0.out.trans hT)
  have HR1 := hide (rng_turn HR0.out hT)
  have HA1 := hide (rng_turn HA0.out hT)
  clear hT HT0 HR0 HA0
  go_wp2_with (first | ((with_reducible refine load_sz 25 18 sz25 _ ba 0 (rqC r) hlR ?_ HR1.out ?_); rfl) | fail)
  refine (HRe.out w1).mono ?_
  rintro e w2 ⟨v0, rfl, hP⟩
  have HP := hide hP
  have HT2 := hide (HT1.out.trans hP.old)
  have HR2 := hide (rng_turn HR1.out hP.old)
  have HA2 := hide (rng_turn HA1.out hP.old)
  clear hP HR1 HA1 HRe
  go_wp2_with (first | ((with_reducible refine load_sz 25 18 sz25 _ ba 0 (rqC r) hlR ?_ HR2.out ?_); rfl) | fail)
  refine (HFw.out w2).mono ?_
  rintro e w3 ⟨rfl, hT⟩
  have HT23 := hide hT
  have HT3 := hide (HT2.out.trans hT)
  have HA3 := hide (rng_turn HA2.out hT)
  obtain ⟨c0, c4⟩ := HCA.out w3 HA3.out
  clear hT HR2 HA2 HFw HCA
  generalize decide (r.sum < 2000) = fw at *
  generalize hS : S.e = E at *
  have HSe := hide hS
  clear hS
  cases fw with
  | false =>
    go_wp2_with fail
    go_ret
    exact ⟨rfl, HT3.out⟩
  | true =>
    by_cases hE : E ≠ 0
    · have hEn : ¬ ((E : Nat) : Int) = 0 := by omega
      go_wp2_with fail
      go_ret
      exact ⟨rfl, HT3.out⟩
    obtain rfl : E = 0 := by omega
    clear hE
    by_cases hm : 100 < lmo.length
    · go_wp2_with fail
      go_ret
      exact ⟨rfl, HT3.out⟩
    by_cases a0 : a.er < 0
    · have d0 : decide (a.er < 0) = true := by simp [a0]
      go_wp2_with fail
      go_ret
      exact ⟨rfl, HT3.out⟩
    have d0 : decide (a.er < 0) = false := by simp; omega
    by_cases a1 : 255 < a.er
    · have d1 : decide (255 < a.er) = true := by simp [a1]
      go_wp2_with fail
      go_ret
      exact ⟨rfl, HT3.out⟩
    have d1 : decide (255 < a.er) = false := by simp; omega
    by_cases a2 : 255 < a.nm.size
    · have d2 : decide (255 < (a.nm.size : Int)) = true := by simp; omega
      go_wp2_with fail
      go_ret
      exact ⟨rfl, HT3.out⟩
    have d2 : decide (255 < (a.nm.size : Int)) = false := by simp; omega
    have hok : a.Ok := ⟨by omega, by omega, by omega⟩
    obtain ⟨s1, s2, s3⟩ := HEb.out rfl
    obtain ⟨b1, b2, b3⟩ := awB_ok a hok
    have HC22 := hide (HAw.out w3 a hok)
    have HO0 := hide (HP.out.own HSe.out)
    have HT12 := hide HP.out.old
    obtain ⟨va0, vc0, rfl⟩ := own_form HO0.out
    have dm : decide (100 < (lmo.length : Int)) = false := by simp; omega
    go_wp2_with (first | ((with_reducible refine load_sz 43 13 sz67 _ (ba + 1) 0 (awC a) hlA ?_ HA3.out ?_); rfl) | fail)
    refine HC22.out.mono ?_
    rintro e w4 ⟨v1, rfl, hO1, hT34⟩
    obtain ⟨va1, vc1, rfl⟩ := own_form hO1
    obtain ⟨hSta, hRst⟩ := two_rows HO0.out HT12.out HT23.out hO1 hT34 26
    have HLs : Hid (∀ k, k < 2 → 0 < (nv S.l (awB a) k).length ∧ (nv S.l (awB a) k).length ≤ 900000 ∧ Byt (nv S.l (awB a) k)) := fun k hk => by
      rcases two hk with rfl | rfl
      · exact ⟨s1, s2, s3⟩
      · exact ⟨b1, b2, b3⟩
    have HSta := hide hSta
    have HRst := hide hRst
    clear hSta hRst hO1 hT34 s1 s2 s3 b1 b2 b3 c0 c4 HC22 HO0 HT12 HT23 HEb HAw HP HA3 a0 a1 a2
    go_upto_region 7 with fail
    generalize w4.alloc (.cells #[.slice va0 S.l.length vc0, .slice va1 (awB a).length vc1] 26) = w5 at *
    generalize w4.heap.size = gr at *
    generalize nv (Value.slice va0 S.l.length vc0) (Value.slice va1 (awB a).length vc1) = vs at *
    generalize nv S.l (awB a) = Ls at *
    go_wp2_with fail
    go_loopw [16] (fun kv wi => ∃ k : Nat, k ≤ 2 ∧ kv = .int .i64 (k : Nat) ∧ Hid (Rst w1 wi gr vs Ls k)) (fun kv _ => 3 - (intOf kv).toNat)
    case atStart => exact ⟨0, by omega, rfl, HRst⟩
    case round =>
      obtain ⟨k, hk, rfl, HR⟩ := hrel
      have HTr := hide (HT1.out.trans HR.out.tn)
      by_cases hk3 : k < 2
      · obtain ⟨hp, hl, hbt⟩ := HLs.out k hk3
        obtain ⟨gk, cap, hv, _, hge, hlk, _, _⟩ := own_bytes (HR.out.own k (Nat.le_refl _) hk3) hp
        have hc := HR.out.row k hk3
        have ho := HR.out.own k (Nat.le_refl _) hk3
        rw [hv] at hc ho
        have hob : (vs k).ownBlock = some gk := by rw [hv]; rfl
        have hw2 : w.heap.size ≤ w1.heap.size := HT1.out.size
        have hoff : ∀ {b}, b < w.heap.size → b ≠ gk := fun h e => by omega
        have hin : ∀ {b}, b < w.heap.size → b < wr.heap.size := fun h => Nat.lt_of_lt_of_le h HTr.out.size
        go_upto_block 1 with fail
        refine wp_block ?_
        refine round_any k gr gk cap w1.heap.size aat aby amo nat cat lby.length cby cmo (Ls k).length cut lmo (Ls k) _ hk3 hp hl HR.out.tn.size (by omega) hc ho hbt HMb.out (fun i hi => ?_) (fun i hi => ?_) (fun w' hT => ?_) HNil.out ?_
        · obtain ⟨b, o, x, e, hcell⟩ := HAt.out i hi
          exact ⟨b, o, x, e, hoff (lt_of_cell hcell), hin (lt_of_cell hcell), (HTr.out.cell (p := ⟨b, o + i, none⟩) (lt_of_cell hcell) (by simp)).trans hcell⟩
        · obtain ⟨b, o, y, e, hy, hcell⟩ := HBy.out i hi
          exact ⟨b, o, y, e, hoff (lt_of_cell hcell), hin (lt_of_cell hcell), hy, (HTr.out.cell (p := ⟨b, o + i, none⟩) (lt_of_cell hcell) (by simp)).trans hcell⟩
        · exact HMo.out.turn (HTr.out.then hT (fun x hx => .inr (by simp at hx; omega))) (by simp)
        · intro q17 q18 q19 q20 q21 q22 q23 q24 q25 q26 q71 q72 q73 q74 q75 q76 q77 q78 q79 q80 q81 q82 q83 q84 q85 q86 q87 q88 q89 q90 q91 q92 q93 q94 q95 q96 q97 q98 q99 q100 q101 q102 q103 q104 q105 q106 q107 q108 q109 q110 q111 q112 q113 q114 q115 q116 q117 q118 q119 q120 q121 q122 q123 q124 q125 q126 q127 q128 q129 q130 q131 q132 q133 q134 q135 q136 q137 q138 q139 q140 q141 q142 q143 q144 q145 q146 q147 q148 q149 q150 q151 q152 q153 q154 q155 q156 q157 q158 q159 q160 q161 q162 q163 w6 hT5
          have HN := hide (HR.out.next HSta.out hk3 hob hge hT5)
          clear hT5 hc ho hob hoff hin hv hbt hp hl
          simp only [Exit.inBlock]
          go_wp2_with fail
          go_roundw
          case rel => exact ⟨k + 1, by omega, by go_num, HN⟩
          case measure => simp [intOf]; omega
      · go_wp2_with fail
        go_ret
        exact ⟨rfl, HTr.out⟩

end Go.Proofs.Ytkbboingeacgjaa

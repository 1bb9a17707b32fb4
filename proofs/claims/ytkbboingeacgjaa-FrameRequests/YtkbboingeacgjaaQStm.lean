/-
  A statement, carried either way, walked.
-/
import Derived.Test.YtkbboingeacgjaaQPlan
namespace Go.Proofs.Ytkbboingeacgjaa
open Go.RowKit

end Go.Proofs.Ytkbboingeacgjaa

/-
  EncodePlan, EncodeStatement; ParsePlan, ParseStatement, walked.
-/
namespace Go.Proofs.Ytkbboingeacgjaa
open Go.RowKit

/-- The bytes of a text and ints. -/
def tiB (nm : ByteArray) (xs : List Int) : List Nat := [nm.size] ++ natBytes nm ++ xs.flatMap be8

theorem numsS_wr (xs : List Int) : ∀ s, numsS .wr s xs = (⟨s.l ++ xs.flatMap be8, s.e⟩, xs) := by
  induction xs with
  | nil => intro s; simp [numsS]
  | cons x xs ih =>
    intro s
    show ((numsS .wr (numS .wr s x).1 xs).1, (numS .wr s x).2 :: (numsS .wr (numS .wr s x).1 xs).2) = _
    rw [ih]
    show ((⟨s.l ++ be8 x ++ xs.flatMap be8, s.e⟩ : Sx), x :: xs) = _
    rw [List.flatMap_cons, List.append_assoc]

theorem tiS_wr (s : Sx) (nm : ByteArray) (xs : List Int) : tiS .wr s nm xs = (⟨s.l ++ tiB nm xs, s.e⟩, nm, xs) := by
  unfold tiS
  rw [numsS_wr]
  show ((⟨s.l ++ [nm.size] ++ natBytes nm ++ xs.flatMap be8, s.e⟩ : Sx), nm, xs) = _
  unfold tiB
  simp only [List.append_assoc]

/-- What an encoder hands out: bytes of the call's own. -/
structure Out (w w' : World) (v : Value) (l : List Nat) : Prop where
  own : w'.ownsRow w.heap.size 5 1 v l.length (l.map byteCell)
  old : Turn [] w w'

theorem own_from {w w' : World} {v : Value} {l : List Nat} {n : Nat} (h : w'.ownsRow 0 5 1 v n (l.map byteCell)) (hn : ∀ g, v.ownBlock = some g → ¬ g < w.heap.size) : w'.ownsRow w.heap.size 5 1 v n (l.map byteCell) := by
  obtain ⟨k1, k2 | ⟨g', c', cur, e, k3, k4, k5⟩⟩ := h
  · exact ⟨k1, .inl k2⟩
  · exact ⟨k1, .inr ⟨g', c', cur, e, by have := hn g' (by rw [e]; rfl); omega, k4, k5⟩⟩

/-- A new writer. -/
theorem wr_new (w : World) (O : Nat → Prop) (hO : ∀ x, O x → x < w.heap.size) : WrAt (w.alloc (.cells #[.slice none 0 0, .int .i64 0] 125)) O w.heap.size [] := by
  refine ⟨⟨.slice none 0 0, World.cell?_alloc_at _ _ _ _ rfl, World.ownsRow_nil _ _ _ _, fun g e => by cases e⟩, World.cell?_alloc_at _ _ _ _ rfl, fun o => ?_, fun h => by have := hO _ h; omega, fun x hx => by have := hO x hx; simp; omega⟩
  unfold World.frozen?
  rw [show (w.alloc _).heap[(⟨w.heap.size, o, none⟩ : Addr).block]? = _ from heap_alloc_new w _]
  simp

set_option maxRecDepth 100000 in
set_option maxHeartbeats 1600000 in
theorem encode_plan {w : World} (O : Nat → Prop) (rb : Nat) (nm : ByteArray) (xs : List Int) (hn : xs.length = 9) (hx : nm.size ≤ 255) (hO : ∀ x, O x → x < w.heap.size) (hrb : ¬ O rb) (hc : w.cell? ⟨rb, 0, none⟩ = some (.string nm)) (hI : IntsAt w rb 1 xs) :
    Calls Try.prog 84 #[.pointer (some ⟨rb, 0, none⟩), .func (.func 85) #[] #[]] w fun r w' => ∃ v, r = .returned v ∧ w'.ownsRow 0 5 1 v (tiB nm xs).length ((tiB nm xs).map byteCell) ∧ (∀ g, v.ownBlock = some g → ¬ O g) ∧ Keep O w w' := by
  have hrbl := lt_of_cell hc
  have hW := wr_new w (fun x => O x ∨ x = rb) (fun x hx => by
    rcases hx with hx | hx
    · exact hO x hx
    · omega)
  have hK : Keep (fun _ => True) w (w.alloc (.cells #[.slice none 0 0, .int .i64 0] 125)) := (Keep.refl _ w).alloc _
  have hC := cplan .wr (w := w.alloc (.cells #[.slice none 0 0, .int .i64 0] 125)) (O := O) (R := fun x => x = rb) (b := w.heap.size) (g := 0) (s := ⟨[], 0⟩) rb 0 nm xs hn (fun _ => hx) ⟨hW, rfl⟩ rfl hrb ((hK.cell hrbl trivial).trans hc) (fun i hi => (hK.cell hrbl trivial).trans (hI i hi)) (fun e => by cases e) (fun _ => by show 0 + 400 ≤ _; omega)
  rw [tiS_wr] at hC
  have HC := hide hC
  have HK := hide hK
  clear hW hC hK hc hI
  generalize hl : tiB nm xs = l at *
  clear hl
  go_enter Try.func84, Try.ntmps84
  go_wp2_with fail
  refine HC.out.mono ?_
  rintro e w1 ⟨rfl, ⟨hW1, _⟩, _, _, hSt⟩
  have HW := hide hW1
  have HSt := hide hSt
  clear hW1 hSt
  go_wp2_with fail
  refine (wbytes HW.out).mono ?_
  rintro e w2 ⟨v, rfl, hown, hno, rfl⟩
  have HOwn := hide hown
  have HNo := hide hno
  clear hown hno
  go_wp2_with fail
  go_ret
  exact ⟨v, rfl, HOwn.out, fun g e h => HNo.out g e (.inl h), (HK.out.less (fun _ _ _ => trivial)).trans (HSt.out.keep.less (fun x _ hx => ⟨.inl hx, fun e => hrb (by rw [← e]; exact hx)⟩))⟩

/-- A record in a block of its own. -/
theorem rec_new (w : World) (nm : ByteArray) (xs : List Int) (cs : Array Value) (t : TypeId) (h : cs.toList = Value.string nm :: xs.map (Value.int .i64)) : (w.alloc (.cells cs t)).cell? ⟨w.heap.size, 0, none⟩ = some (.string nm) ∧ IntsAt (w.alloc (.cells cs t)) w.heap.size 1 xs := by
  constructor
  · rw [World.cell?_alloc_at _ _ _ _ rfl, ← Array.getElem?_toList, h]
    rfl
  · intro i hi
    rw [World.cell?_alloc_at _ _ _ _ rfl, ← Array.getElem?_toList, h, Nat.add_comm 1 i, List.getElem?_cons_succ, List.getElem?_map, List.getElem?_eq_getElem hi]
    rfl

set_option maxRecDepth 100000 in
set_option maxHeartbeats 1600000 in
theorem enc_plan (w : World) (nm : ByteArray) (x1 x2 x3 x4 x5 x6 x7 x8 x9 : Int) (hx : nm.size ≤ 255) :
    Calls Try.prog 83 #[.agg #[.string nm, .int .i64 x1, .int .i64 x2, .int .i64 x3, .int .i64 x4, .int .i64 x5, .int .i64 x6, .int .i64 x7, .int .i64 x8, .int .i64 x9]] w fun r w' => ∃ v, r = .returned v ∧ Out w w' v (tiB nm [x1, x2, x3, x4, x5, x6, x7, x8, x9]) := by
  have hr := rec_new w nm [x1, x2, x3, x4, x5, x6, x7, x8, x9] #[.string nm, .int .i64 x1, .int .i64 x2, .int .i64 x3, .int .i64 x4, .int .i64 x5, .int .i64 x6, .int .i64 x7, .int .i64 x8, .int .i64 x9] 23 rfl
  have hT : Turn [] w (w.alloc (.cells #[.string nm, .int .i64 x1, .int .i64 x2, .int .i64 x3, .int .i64 x4, .int .i64 x5, .int .i64 x6, .int .i64 x7, .int .i64 x8, .int .i64 x9] 23)) := (Turn.refl [] w).alloc _
  have hC := encode_plan (fun x => x < w.heap.size) w.heap.size nm [x1, x2, x3, x4, x5, x6, x7, x8, x9] rfl hx (fun x hx => by simp; omega) (by omega) hr.1 hr.2
  have HC := hide hC
  have HT := hide hT
  clear hC hr hT
  generalize tiB nm [x1, x2, x3, x4, x5, x6, x7, x8, x9] = l at *
  go_enter Try.func83, Try.ntmps83
  go_wp2_with fail
  refine HC.out.mono ?_
  rintro e w1 ⟨v, rfl, h1, h2, h3⟩
  obtain ⟨va, vc, rfl⟩ := own_form h1
  have H1 := hide (own_from (w := w) h1 h2)
  have H3 := hide h3
  clear h1 h2 h3
  go_wp2_with fail
  go_ret
  exact ⟨_, rfl, H1.out, ((Keep.of HT.out).trans H3.out).turn (fun x hx => hx)⟩

end Go.Proofs.Ytkbboingeacgjaa

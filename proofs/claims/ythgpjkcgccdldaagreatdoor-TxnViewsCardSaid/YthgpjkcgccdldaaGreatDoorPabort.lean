/-
  Going through 'since', in whatever order; Abort of a pager, walked.
-/
import Derived.Test.YthgpjkcgccdldaaGreatDoorPalloc
namespace Go.Proofs.YthgpjkcgccdldaaGreatDoor
open Go.RowKit Go.Maps

/-- Of the bits T those are struck whose page has v in 'since', and is no more to come. -/
def Swept (T T' : Nat → Nat) (si : Nat → Nat) (v : Nat) (left : Lit → Bool) : Prop := ∀ k, k < 16384 → bit T' k = (bit T k && !(si k == v && !left (.int .i64 (k : Int))))

set_option maxRecDepth 100000 in
theorem Swept.start {D : DataW Value} {si : Nat → Nat} (h : Since D si) (T : Nat → Nat) {v : Nat} (hv : v ≠ 0) : Swept T T si v (has D) := by
  intro k _
  by_cases e : si k = v
  · have : has D (.int .i64 (k : Int)) = true := by
      cases hh : has D (.int .i64 (k : Int)) with
      | true => rfl
      | false =>
        have h1 := h.at_ k
        rw [atKey_of_not_has hh] at h1
        have := (Lit.int.inj (DataW.lit.inj h1)).2
        omega
    rw [this]
    simp
  · have : (si k == v) = false := by rw [beq_eq_false_iff_ne]; exact e
    rw [this]
    simp

set_option maxRecDepth 100000 in
theorem strike_other (left : Lit → Bool) {k n : Nat} (h : k ≠ n) : (left (.int .i64 (k : Int)) && !(Lit.int .i64 (k : Int)).sameKey (.int .i64 (n : Int))) = left (.int .i64 (k : Int)) := by
  have : (Lit.int .i64 (k : Int)).sameKey (.int .i64 (n : Int)) = false := by
    cases hh : (Lit.int .i64 (k : Int)).sameKey (.int .i64 (n : Int)) with
    | false => rfl
    | true => exact absurd (WideAt.sameKey_eq hh) (key_ne h)
  rw [this]
  simp
set_option maxRecDepth 100000 in
theorem strike_same (left : Lit → Bool) (n : Nat) : (left (.int .i64 (n : Int)) && !(Lit.int .i64 (n : Int)).sameKey (.int .i64 (n : Int))) = false := by
  rw [WideAt.sameKey_self (isKey n)]
  simp

set_option maxRecDepth 100000 in
theorem Swept.hit {T T' : Nat → Nat} {si : Nat → Nat} {v : Nat} {left : Lit → Bool} (h : Swept T T' si v left) {n : Nat} (hn : si n = v) : Swept T (freeW T' n) si v (fun z => left z && !z.sameKey (.int .i64 (n : Int))) := by
  intro k hk
  show _ = (bit T k && !(si k == v && !(left (.int .i64 (k : Int)) && !(Lit.int .i64 (k : Int)).sameKey (.int .i64 (n : Int)))))
  rw [bit_freeW, h k hk]
  by_cases e : k = n
  · subst e
    rw [strike_same]
    simp [hn]
  · rw [strike_other left e]
    simp [e]
set_option maxRecDepth 100000 in
theorem Swept.miss {T T' : Nat → Nat} {si : Nat → Nat} {v : Nat} {left : Lit → Bool} (h : Swept T T' si v left) {n : Nat} (hn : si n ≠ v) : Swept T T' si v (fun z => left z && !z.sameKey (.int .i64 (n : Int))) := by
  intro k hk
  show _ = (bit T k && !(si k == v && !(left (.int .i64 (k : Int)) && !(Lit.int .i64 (k : Int)).sameKey (.int .i64 (n : Int)))))
  rw [h k hk]
  by_cases e : k = n
  · subst e
    have : (si k == v) = false := by rw [beq_eq_false_iff_ne]; exact hn
    rw [this]
    simp
  · rw [strike_other left e]
set_option maxRecDepth 100000 in
theorem Swept.done {T T' : Nat → Nat} {si : Nat → Nat} {v : Nat} {left : Lit → Bool} (h : Swept T T' si v left) (hl : ∀ kl, left kl = false) : ∀ k, k < 16384 → bit T' k = (bit T k && !(si k == v)) := by
  intro k hk
  rw [h k hk, hl]
  simp

set_option maxRecDepth 100000 in
/-- What has come out. -/
theorem Since.entry {D : DataW Value} {si : Nat → Nat} (h : Since D si) {x c : Int} (hx : has D (.int .i64 x) = true) (hat : ∀ zd, D.atKey (.int .i64 x) zd = .lit (.int .i64 c)) : ∃ n : Nat, x = n ∧ c = si n ∧ si n ≠ 0 := by
  obtain ⟨n, e, hn⟩ := h.keys _ hx
  have hxn : x = n := (Lit.int.inj e).2
  subst hxn
  have h1 := h.at_ n
  rw [hat] at h1
  exact ⟨n, rfl, (Lit.int.inj (DataW.lit.inj h1)).2, hn⟩

set_option maxRecDepth 100000 in
theorem Wturn.grown {p off r : Nat} {u w w' : World} (h : Wturn p off u w) (hg : w.grownBy w' (some r)) (hr : u.heap.size ≤ r) (hp : p < u.heap.size) : Wturn p off u w' :=
  ⟨h.turn.then (turn_of_grown hg) (fun x hx => by rw [List.mem_singleton.1 hx]; exact .inr hr), fun o ho => ((turn_of_grown hg).cell (p := ⟨p, o, none⟩) (Nat.lt_of_lt_of_le hp h.turn.size) (by simp; omega)).trans (h.out o ho)⟩
set_option maxRecDepth 100000 in
theorem Wturn.of_turn {p off : Nat} {u w : World} (hT : Turn [] u w) (hp : p < u.heap.size) : Wturn p off u w := ⟨hT.mono (by simp), fun o _ => hT.cell (p := ⟨p, o, none⟩) hp (by simp)⟩
set_option maxRecDepth 100000 in
theorem turn_of_none {w w' : World} (h : w.grownBy w' none) : Turn [] w w' := ⟨h.os, h.tape, h.output, h.size, fun k hk _ => h.block k hk (by simp)⟩
set_option maxRecDepth 100000 in
theorem grown_of_turn {p : Nat} {w w' : World} (h : Turn [p] w w') : w.grownBy w' (some p) := ⟨h.os, h.tape, h.output, h.size, fun k hk hn => h.block k hk (fun hm => hn (by rw [List.mem_singleton.1 hm]))⟩

set_option maxRecDepth 100000 in
/-- The bitmap has turned, and there is a new 'since'. -/
theorem PgAt.newSince {w w1 : World} {p b sm rb N : Nat} {d l : Int} {q : Pg} (h : PgAt w p b sm rb N d l q) (hT : Wturn p 9 w w1) {T : Nat → Nat} (hW : WordsAt w1 p 9 T) {q' : Pg} (e1 : q'.dead = q.dead) (e2 : q'.c = q.c) (e3 : q'.root = q.root) (e4 : ∀ n, q'.si n = 0) (hb : ∀ k, k < 16384 → bit T k = (q'.rd && q'.tk N k)) :
    PgAt ((w1.alloc (.map #[] 0)).setCell ⟨p, 265, none⟩ (.map (some w1.heap.size))) p b w1.heap.size rb N d l q' := by
  have hp1 := hW.blk
  have hT1 : Turn [] w1 (w1.alloc (.map #[] 0)) := (Turn.refl [] w1).alloc _
  have hT2 : Turn [p] (w1.alloc (.map #[] 0)) ((w1.alloc (.map #[] 0)).setCell ⟨p, 265, none⟩ (.map (some w1.heap.size))) := (Turn.refl [p] _).setCell (List.mem_singleton.2 rfl) _ _
  have ho : ∀ o, o < 9 → ((w1.alloc (.map #[] 0)).setCell ⟨p, 265, none⟩ (.map (some w1.heap.size))).cell? ⟨p, o, none⟩ = w.cell? ⟨p, o, none⟩ := fun o h' =>
    ((World.cell?_setCell_other _ _ _ _ (off_ne (by omega))).trans (hT1.cell (p := ⟨p, o, none⟩) hp1 (by simp))).trans (hT.out o (by omega))
  obtain ⟨x1, k1⟩ := h.c1
  obtain ⟨x2, k2⟩ := h.c2
  obtain ⟨ra, rc, k5, hB, hn, hx⟩ := h.c5
  have hr : ∀ x, q.root ≠ [] → ra = some x → x.block ∉ [p] := fun x h1 h2 hm => h.nr (by rw [← hx x h1 h2]; exact (List.mem_singleton.1 hm).symm)
  have c265 : (w1.alloc (.map #[] 0)).cell? ⟨p, 265, none⟩ = some (.map (some sm)) := ((hT1.cell (p := ⟨p, 265, none⟩) hp1 (by simp)).trans (hT.out 265 (by omega))).trans h.cs
  refine ⟨(ho 0 (by omega)).trans h.c0, ⟨x1, (ho 1 (by omega)).trans k1⟩, ⟨x2, (ho 2 (by omega)).trans k2⟩, by rw [e1]; exact (ho 3 (by omega)).trans h.c3, by rw [e2]; exact (ho 4 (by omega)).trans h.c4,
    ⟨ra, rc, by rw [e3]; exact (ho 5 (by omega)).trans k5, by rw [e3]; exact ((hB.turn hT.turn hr).turn hT1 (by simp)).turn hT2 hr, hn, by rw [e3]; exact hx⟩, (ho 6 (by omega)).trans h.c6, (ho 7 (by omega)).trans h.c7, ⟨T, ?_, hb⟩,
    World.cell?_setCell_same _ _ _ c265, ⟨0, .map [], Nat.zero_le _, (World.ownsMap_made w1 Tryz.prog 3 (plainElem Tryz.prog 3)).setCell (by simp; omega) _, ⟨fun kl hk => by simp [has] at hk, fun n => by rw [e4 n]; rfl⟩⟩, by omega, h.nr⟩
  have hWa := hW.turn hT1 (by simp)
  exact ⟨fun i hi => (World.cell?_setCell_other _ _ _ _ (off_ne (by omega))).trans (hWa.cell i hi), fun o => by rw [World.frozen?_setCell]; exact hWa.fz o, hWa.lt, by rw [World.size_setCell]; exact hWa.blk⟩

end Go.Proofs.YthgpjkcgccdldaaGreatDoor

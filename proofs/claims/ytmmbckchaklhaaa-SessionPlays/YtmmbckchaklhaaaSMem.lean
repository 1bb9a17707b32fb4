/-
  A session by itself: how long a frame is, what bytes come to, however they come in pieces.
  The parts of sync.Once in one goroutine, each a contract: the lock, the two deferred calls.
  A session in memory: its cells, its buffer; bytes that lie somewhere, cut in two.
-/
import Derived.Test.YtmmbckchaklhaaaFCar
import Derived.Test.YtmmbckchaklhaaaQBase
import Derived.Defers
import Derived.Laws.Pointers
import Derived.Laws.LoneSync
import Derived.RegionTactic
import Derived.RegionCalls
import Derived.ChangeAlike
import Derived.Test.YtmmbckchaklhaaaFPrq
namespace Go.Proofs.Ytmmbckchaklhaaa.Se
open Go.RowKit

/-- How many bytes there must be, that a frame with this front is whole. -/
def span (l : List Nat) : Nat :=
  if l.length < 2 then 2 else if 512 < l.getD 0 0 * 256 + l.getD 1 0 then 2 else 2 + (l.getD 0 0 * 256 + l.getD 1 0)
theorem span_ge (l : List Nat) : 2 ≤ span l := by unfold span; split <;> (try split) <;> omega
theorem span_le (l : List Nat) : span l ≤ 514 := by unfold span; split <;> (try split) <;> omega
theorem span_short {l : List Nat} (h : l.length < 2) : span l = 2 := by unfold span; rw [if_pos h]
theorem span_app {a : List Nat} (h : 2 ≤ a.length) (b : List Nat) : span (a ++ b) = span a := by
  unfold span
  have h0 : (a ++ b).getD 0 0 = a.getD 0 0 := by
    rw [List.getD_eq_getElem?_getD, List.getD_eq_getElem?_getD, List.getElem?_append_left (by omega)]
  have h1 : (a ++ b).getD 1 0 = a.getD 1 0 := by
    rw [List.getD_eq_getElem?_getD, List.getD_eq_getElem?_getD, List.getElem?_append_left (by omega)]
  have a1 : ¬ (a ++ b).length < 2 := by rw [List.length_append]; omega
  have a2 : ¬ a.length < 2 := by omega
  rw [h0, h1, if_neg a1, if_neg a2]

/-- An item by itself: a request, or why there is none. -/
structure It where
  r : Rq
  e : Nat
def itC (x : It) : List Value := rqC x.r ++ [.int .i64 (x.e : Nat)]
theorem itC_len (x : It) : (itC x).length = 19 := rfl
theorem itC_one (x : It) : ∀ v ∈ itC x, v.oneCell' = true := by
  intro v hv
  rcases List.mem_append.1 hv with h | h
  · exact rqC_one _ _ h
  · rw [List.mem_singleton.1 h]
    rfl
def It.long : It := ⟨Rq.zero, 5⟩
/-- What a frame's bytes say, behind its length. -/
def parsed (l : List Nat) : It := ⟨if endS (reqS prC ⟨l, 0⟩ Rq.zero).1 = 0 then (reqS prC ⟨l, 0⟩ Rq.zero).2 else Rq.zero, endS (reqS prC ⟨l, 0⟩ Rq.zero).1⟩
/-- What a whole frame says. -/
def itemOf (l : List Nat) : It := if l.length = 2 then It.long else parsed (l.drop 2)

/-- What bytes come to: items, what waits, is it broken. -/
def run (l : List Nat) : List It × List Nat × Bool :=
  if l.length < span l then ([], l, false)
  else if span l = 2 then ([It.long], [], true)
  else (parsed ((l.take (span l)).drop 2) :: (run (l.drop (span l))).1, (run (l.drop (span l))).2)
termination_by l.length
decreasing_by
  all_goals
    have := span_ge l
    rw [List.length_drop]
    omega

theorem run_wait {l : List Nat} (h : l.length < span l) : run l = ([], l, false) := by rw [run, if_pos h]
theorem run_bad {l : List Nat} (h : ¬ l.length < span l) (h2 : span l = 2) : run l = ([It.long], [], true) := by rw [run, if_neg h, if_pos h2]
theorem run_item {l : List Nat} (h : ¬ l.length < span l) (h2 : span l ≠ 2) : run l = (parsed ((l.take (span l)).drop 2) :: (run (l.drop (span l))).1, (run (l.drop (span l))).2) := by rw [run, if_neg h, if_neg h2]

theorem run_ok (n : Nat) : ∀ l : List Nat, l.length ≤ n → ((run l).2.2 = true → (run l).2.1 = []) ∧ (run l).2.1.length < span (run l).2.1 := by
  induction n with
  | zero =>
    intro l hl
    have : l.length < span l := by have := span_ge l; omega
    rw [run_wait this]
    exact ⟨fun h => absurd h (by simp), this⟩
  | succ n ih =>
    intro l hl
    by_cases h : l.length < span l
    · rw [run_wait h]
      exact ⟨fun h => absurd h (by simp), h⟩
    by_cases h2 : span l = 2
    · rw [run_bad h h2]
      exact ⟨fun _ => rfl, by show 0 < span []; have := span_ge []; omega⟩
    · rw [run_item h h2]
      exact ih _ (by rw [List.length_drop]; have := span_ge l; omega)

/-- However bytes come in pieces. -/
theorem run_app (n : Nat) : ∀ a b : List Nat, a.length ≤ n → run (a ++ b) = if (run a).2.2 = true then run a else ((run a).1 ++ (run ((run a).2.1 ++ b)).1, (run ((run a).2.1 ++ b)).2) := by
  induction n with
  | zero =>
    intro a b hl
    have : a.length < span a := by have := span_ge a; omega
    rw [run_wait this]
    simp
  | succ n ih =>
    intro a b hl
    by_cases h : a.length < span a
    · rw [run_wait h]
      simp
    have hs := span_ge a
    have hsp : span (a ++ b) = span a := span_app (by omega) b
    have h' : ¬ (a ++ b).length < span (a ++ b) := by rw [hsp, List.length_append]; omega
    by_cases h2 : span a = 2
    · rw [run_bad h h2, run_bad h' (by rw [hsp]; exact h2)]
      simp
    · rw [run_item h h2, run_item h' (by rw [hsp]; exact h2), hsp, List.take_append_of_le_length (by omega), List.drop_append_of_le_length (by omega), ih _ b (by rw [List.length_drop]; omega)]
      by_cases hb : (run (a.drop (span a))).2.2 = true
      · rw [if_pos hb, if_pos hb]
      · rw [if_neg hb, if_neg hb]
        simp

/-- A session by itself. -/
structure Ss where
  ws : List Nat
  br : Bool
def Ss.new : Ss := ⟨[], false⟩
def Ss.Ok (s : Ss) : Prop := (s.br = true → s.ws = []) ∧ s.ws.length < span s.ws
/-- What is fed. -/
def feed (s : Ss) (b : List Nat) : List It × Ss :=
  if s.br = true then ([], s) else ((run (s.ws ++ b)).1, ⟨(run (s.ws ++ b)).2.1, (run (s.ws ++ b)).2.2⟩)
theorem new_ok : Ss.new.Ok := ⟨fun h => absurd h (by simp [Ss.new]), by show 0 < span []; have := span_ge []; omega⟩
theorem feed_ok {s : Ss} (h : s.Ok) (b : List Nat) : (feed s b).2.Ok := by
  unfold feed
  split
  · exact h
  · exact run_ok _ _ (Nat.le_refl _)
theorem Ss.Ok.le {s : Ss} (h : s.Ok) : s.ws.length ≤ 513 := by
  have := h.2
  have := span_le s.ws
  omega

/-- One round of Feed. -/
theorem feed_wait {s : Ss} {b : List Nat} (hb : s.br = false) (h : (s.ws ++ b).length < span (s.ws ++ b)) : feed s b = ([], ⟨s.ws ++ b, false⟩) := by
  unfold feed
  rw [if_neg (by rw [hb]; simp), run_wait h]
theorem feed_take {s : Ss} {b : List Nat} (hb : s.br = false) (h : ¬ (s.ws ++ b).length < span (s.ws ++ b)) :
    feed s b = (itemOf ((s.ws ++ b).take (span (s.ws ++ b))) :: (feed ⟨[], decide (span (s.ws ++ b) = 2)⟩ ((s.ws ++ b).drop (span (s.ws ++ b)))).1, (feed ⟨[], decide (span (s.ws ++ b) = 2)⟩ ((s.ws ++ b).drop (span (s.ws ++ b)))).2) := by
  have hl : ((s.ws ++ b).take (span (s.ws ++ b))).length = span (s.ws ++ b) := by rw [List.length_take]; omega
  by_cases h2 : span (s.ws ++ b) = 2
  · have e : decide (span (s.ws ++ b) = 2) = true := decide_eq_true h2
    rw [e]
    unfold feed itemOf
    rw [if_neg (by rw [hb]; simp), run_bad h h2, hl, if_pos h2]
    rfl
  · have e : decide (span (s.ws ++ b) = 2) = false := decide_eq_false h2
    rw [e]
    unfold feed itemOf
    rw [if_neg (by rw [hb]; simp), run_item h h2, hl, if_neg h2]
    rfl
theorem feed_dead {s : Ss} (hb : s.br = true) (b : List Nat) : feed s b = ([], s) := by unfold feed; rw [if_pos hb]
/-- Two pieces, or one of both. -/
theorem feed_two (s : Ss) (a b : List Nat) : feed s (a ++ b) = ((feed s a).1 ++ (feed (feed s a).2 b).1, (feed (feed s a).2 b).2) := by
  by_cases hb : s.br = true
  · rw [feed_dead hb, feed_dead hb, feed_dead hb]
    rfl
  · have e : run (s.ws ++ (a ++ b)) = run ((s.ws ++ a) ++ b) := by rw [List.append_assoc]
    have h1 := run_app _ (s.ws ++ a) b (Nat.le_refl _)
    unfold feed
    rw [if_neg hb, if_neg hb, e, h1]
    by_cases hr : (run (s.ws ++ a)).2.2 = true
    · rw [if_pos hr]
      dsimp only
      rw [if_pos hr]
      simp
    · rw [if_neg hr]
      dsimp only
      rw [if_neg hr]

theorem feed_len (s : Ss) (b : List Nat) : (feed s b).1.length ≤ s.ws.length + b.length := by
  have : ∀ n, ∀ l : List Nat, l.length ≤ n → (run l).1.length ≤ l.length := by
    intro n
    induction n with
    | zero =>
      intro l hl
      have : l.length < span l := by have := span_ge l; omega
      rw [run_wait this]
      simp
    | succ n ih =>
      intro l hl
      have hs := span_ge l
      by_cases h : l.length < span l
      · rw [run_wait h]
        simp
      by_cases h2 : span l = 2
      · rw [run_bad h h2]
        simp
        omega
      · rw [run_item h h2]
        have := ih (l.drop (span l)) (by rw [List.length_drop]; omega)
        rw [List.length_drop] at this
        simp
        omega
  unfold feed
  split
  · simp
  · have := this _ (s.ws ++ b) (Nat.le_refl _)
    rw [List.length_append] at this
    exact this

end Go.Proofs.Ytmmbckchaklhaaa.Se

namespace Go.Proofs.Ytmmbckchaklhaaa.Se
open Go.RowKit

theorem disable (w : World) : (callFunc 51 #[]).run Try.prog w = .ok (.value (.tuple #[])) w := run_call_mark0 Try.func51 (by kernel_rfl) (by kernel_rfl) (by kernel_rfl) .disable (by kernel_rfl) w
theorem enable (w : World) : (callFunc 53 #[]).run Try.prog w = .ok (.value (.tuple #[])) w := run_call_mark0 Try.func53 (by kernel_rfl) (by kernel_rfl) (by kernel_rfl) .enable (by kernel_rfl) w
theorem acquire (a : Addr) (w : World) : (callFunc 54 #[.pointer (some a)]).run Try.prog w = .ok (.value (.tuple #[])) w := run_call_marked Try.func54 (by kernel_rfl) (by kernel_rfl) (by kernel_rfl) .acquire (by kernel_rfl) a w
theorem releaseMerge (a : Addr) (w : World) : (callFunc 56 #[.pointer (some a)]).run Try.prog w = .ok (.value (.tuple #[])) w := run_call_marked Try.func56 (by kernel_rfl) (by kernel_rfl) (by kernel_rfl) .releaseMerge (by kernel_rfl) a w

set_option maxRecDepth 100000 in
set_option maxHeartbeats 1000000 in
theorem store_deferred (a : Addr) (x : Value) (u : FrameMode) (w : World) (hc : w.cell? a = some x) (hz : w.frozen? a = false) :
    CallsD Try.prog 46 #[.pointer (some a), .bool true] u w fun e u' w' => u' = u ∧ (e = .returned (.tuple #[]) ∧ w' = (w.setCell a (.int .u32 1)).drew) := by
  have hc' : w.drew.cell? a = some x := by go_simp
  have hz' : w.drew.frozen? a = false := by go_simp
  have hst := run_call_store (P := Try.prog) Try.func49 (by kernel_rfl) (by kernel_rfl) (by kernel_rfl) (by kernel_rfl) (k := .u32) (y := 1) hc' hz'
  go_enter_d Try.func46, Try.ntmps46
  go_wp2
  go_region_calls
  all_goals (go_end0; exact ⟨rfl, rfl⟩)

set_option maxRecDepth 100000 in
set_option maxHeartbeats 1000000 in
theorem unlock_deferred (a : Addr) (u : FrameMode) (w : World) (hc : w.cell? a = some (.int .i32 1)) (hz : w.frozen? a = false) :
    CallsD Try.prog 45 #[.pointer (some a)] u w fun e u' w' => u' = u ∧ (e = .returned (.tuple #[]) ∧ w' = w.setCell a (.int .i32 0)) := by
  have hd := disable
  have he := enable
  have hr := releaseMerge
  have hadd := run_call_add (P := Try.prog) Try.func57 (by kernel_rfl) (by kernel_rfl) (by kernel_rfl) .i32 (by kernel_rfl) (y := -1) (s := 0) hc hz (by simp [go_sem]; rfl)
  have hcv := run_convert_to_unsafe (P := Try.prog) (src := 123) (dst := 127) Try.underlying123 Try.underlying127 (by kernel_rfl) hc
  go_enter_d Try.func45, Try.ntmps45
  go_wp2
  go_end0
  go_wp2
  go_end0
  exact ⟨rfl, rfl⟩

set_option maxRecDepth 100000 in
set_option maxHeartbeats 1000000 in
theorem lock_free (a : Addr) (w : World) (hc : w.cell? a = some (.int .i32 0)) (hz : w.frozen? a = false) :
    Calls Try.prog 44 #[.pointer (some a)] w fun e w' => e = .returned (.tuple #[]) ∧ w' = w.setCell a (.int .i32 1) := by
  have hd := disable
  have he := enable
  have ha := acquire
  have hcas := run_call_cas_hit (P := Try.prog) Try.func52 (by kernel_rfl) (by kernel_rfl) (by kernel_rfl) .i32 (by kernel_rfl) (y := 1) hc hz
  have hc' : (w.setCell a (.int .i32 1)).cell? a = some (.int .i32 1) := World.cell?_setCell_same w a _ hc
  have hcv := run_convert_to_unsafe (P := Try.prog) (src := 123) (dst := 127) Try.underlying123 Try.underlying127 (by kernel_rfl) hc'
  go_enter Try.func44, Try.ntmps44
  go_wp2
  first | go_end0 | (simp only [Exit.inBlock, Exit.then]; refine bodyPost_ret (results_none rfl _ _ _) rfl ?_) | refine bodyPost_ret (results_none rfl _ _ _) rfl ?_
  go_wp2
  go_end0
  exact ⟨rfl, rfl⟩

end Go.Proofs.Ytmmbckchaklhaaa.Se

namespace Go.Proofs.Ytmmbckchaklhaaa.Se
open Go.RowKit Go.Maps

theorem _root_.Go.Proofs.Ytmmbckchaklhaaa.Turn.drewN {S : List Nat} {u w : World} (h : Turn S u w) (n : Nat) : Turn S u (w.drewN n) := ⟨h.os, h.tape, h.output, h.size, h.block⟩

/-- A session's cells: block g; d: whether its buffer was made, t: its lock, v: its buffer, n: how many bytes wait, z: is it broken. -/
structure Cs (w : World) (g : Nat) (d t : Int) (v : Value) (n : Nat) (z : Bool) : Prop where
  c0 : w.cell? ⟨g, 0, none⟩ = some (.int .u32 d)
  c1 : w.cell? ⟨g, 1, none⟩ = some (.int .i32 t)
  c3 : w.cell? ⟨g, 3, none⟩ = some v
  c4 : w.cell? ⟨g, 4, none⟩ = some (.int .i64 (n : Nat))
  c5 : w.cell? ⟨g, 5, none⟩ = some (.bool z)
  fz : ∀ o, w.frozen? ⟨g, o, none⟩ = false

theorem Cs.lt {w : World} {g : Nat} {d t : Int} {v : Value} {n : Nat} {z : Bool} (h : Cs w g d t v n z) : g < w.heap.size := lt_of_cell h.c0
theorem Cs.of_block {w w' : World} {g : Nat} {d t : Int} {v : Value} {n : Nat} {z : Bool} (h : Cs w g d t v n z) (hb : w'.heap[g]? = w.heap[g]?) : Cs w' g d t v n z := by
  have hc : ∀ o, w'.cell? ⟨g, o, none⟩ = w.cell? ⟨g, o, none⟩ := fun o => World.cell?_of_block (a := ⟨g, o, none⟩) hb
  exact ⟨(hc 0).trans h.c0, (hc 1).trans h.c1, (hc 3).trans h.c3, (hc 4).trans h.c4, (hc 5).trans h.c5, fun o => (World.frozen?_of_block (a := ⟨g, o, none⟩) hb).trans (h.fz o)⟩
theorem Cs.set0 {w : World} {g : Nat} {d t : Int} {v : Value} {n : Nat} {z : Bool} (h : Cs w g d t v n z) (x : Int) : Cs (w.setCell ⟨g, 0, none⟩ (.int .u32 x)) g x t v n z := by
  have ho : ∀ o, o ≠ 0 → (w.setCell ⟨g, 0, none⟩ (.int .u32 x)).cell? ⟨g, o, none⟩ = w.cell? ⟨g, o, none⟩ := fun o ho => World.cell?_setCell_other _ _ _ _ (off_ne ho.symm)
  exact ⟨World.cell?_setCell_same _ _ _ h.c0, (ho 1 (by omega)).trans h.c1, (ho 3 (by omega)).trans h.c3, (ho 4 (by omega)).trans h.c4, (ho 5 (by omega)).trans h.c5, fun o => by rw [World.frozen?_setCell]; exact h.fz o⟩
theorem Cs.set1 {w : World} {g : Nat} {d t : Int} {v : Value} {n : Nat} {z : Bool} (h : Cs w g d t v n z) (x : Int) : Cs (w.setCell ⟨g, 1, none⟩ (.int .i32 x)) g d x v n z := by
  have ho : ∀ o, o ≠ 1 → (w.setCell ⟨g, 1, none⟩ (.int .i32 x)).cell? ⟨g, o, none⟩ = w.cell? ⟨g, o, none⟩ := fun o ho => World.cell?_setCell_other _ _ _ _ (off_ne ho.symm)
  exact ⟨(ho 0 (by omega)).trans h.c0, World.cell?_setCell_same _ _ _ h.c1, (ho 3 (by omega)).trans h.c3, (ho 4 (by omega)).trans h.c4, (ho 5 (by omega)).trans h.c5, fun o => by rw [World.frozen?_setCell]; exact h.fz o⟩
theorem Cs.set3 {w : World} {g : Nat} {d t : Int} {v : Value} {n : Nat} {z : Bool} (h : Cs w g d t v n z) (x : Value) : Cs (w.setCell ⟨g, 3, none⟩ (x)) g d t x n z := by
  have ho : ∀ o, o ≠ 3 → (w.setCell ⟨g, 3, none⟩ (x)).cell? ⟨g, o, none⟩ = w.cell? ⟨g, o, none⟩ := fun o ho => World.cell?_setCell_other _ _ _ _ (off_ne ho.symm)
  exact ⟨(ho 0 (by omega)).trans h.c0, (ho 1 (by omega)).trans h.c1, World.cell?_setCell_same _ _ _ h.c3, (ho 4 (by omega)).trans h.c4, (ho 5 (by omega)).trans h.c5, fun o => by rw [World.frozen?_setCell]; exact h.fz o⟩
theorem Cs.set4 {w : World} {g : Nat} {d t : Int} {v : Value} {n : Nat} {z : Bool} (h : Cs w g d t v n z) (x : Nat) : Cs (w.setCell ⟨g, 4, none⟩ (.int .i64 (x : Nat))) g d t v x z := by
  have ho : ∀ o, o ≠ 4 → (w.setCell ⟨g, 4, none⟩ (.int .i64 (x : Nat))).cell? ⟨g, o, none⟩ = w.cell? ⟨g, o, none⟩ := fun o ho => World.cell?_setCell_other _ _ _ _ (off_ne ho.symm)
  exact ⟨(ho 0 (by omega)).trans h.c0, (ho 1 (by omega)).trans h.c1, (ho 3 (by omega)).trans h.c3, World.cell?_setCell_same _ _ _ h.c4, (ho 5 (by omega)).trans h.c5, fun o => by rw [World.frozen?_setCell]; exact h.fz o⟩
theorem Cs.set5 {w : World} {g : Nat} {d t : Int} {v : Value} {n : Nat} {z : Bool} (h : Cs w g d t v n z) (x : Bool) : Cs (w.setCell ⟨g, 5, none⟩ (.bool x)) g d t v n x := by
  have ho : ∀ o, o ≠ 5 → (w.setCell ⟨g, 5, none⟩ (.bool x)).cell? ⟨g, o, none⟩ = w.cell? ⟨g, o, none⟩ := fun o ho => World.cell?_setCell_other _ _ _ _ (off_ne ho.symm)
  exact ⟨(ho 0 (by omega)).trans h.c0, (ho 1 (by omega)).trans h.c1, (ho 3 (by omega)).trans h.c3, (ho 4 (by omega)).trans h.c4, World.cell?_setCell_same _ _ _ h.c5, fun o => by rw [World.frozen?_setCell]; exact h.fz o⟩

/-- The buffer in block m: room for 514 bytes, the first of them ws. -/
structure Buf (w : World) (m : Nat) (ws : List Nat) : Prop where
  th : w.there m 0 514
  rg : w.rangeAt m 0 (ws.map byteCell)
  lt : m < w.heap.size
theorem Buf.of_block {w w' : World} {m : Nat} {ws : List Nat} (h : Buf w m ws) (hb : w'.heap[m]? = w.heap[m]?) (hs : w.heap.size ≤ w'.heap.size) : Buf w' m ws := ⟨there_blk h.th hb, rangeAt_keep h.rg hb, Nat.lt_of_lt_of_le h.lt hs⟩
theorem Buf.nil {w : World} {m : Nat} {ws : List Nat} (h : Buf w m ws) : Buf w m [] := ⟨h.th, fun j v hj => by simp at hj, h.lt⟩

/-- A session that is not broken; mo: its buffer, once it is made. -/
def Live (w : World) (g : Nat) (mo : Option Nat) (ws : List Nat) : Prop :=
  match mo with
  | none => Cs w g 0 0 (.slice none 0 0) 0 false ∧ ws = []
  | some m => Cs w g 1 0 (.slice (some ⟨m, 0, none⟩) 514 514) ws.length false ∧ m ≠ g ∧ Buf w m ws
theorem Live.cells {w : World} {g : Nat} {mo : Option Nat} {ws : List Nat} (h : Live w g mo ws) : ∃ d v, Cs w g d 0 v ws.length false := by
  cases mo with
  | none => obtain ⟨h, rfl⟩ := h; exact ⟨_, _, h⟩
  | some m => exact ⟨_, _, h.1⟩
theorem Live.lt {w : World} {g : Nat} {mo : Option Nat} {ws : List Nat} (h : Live w g mo ws) : g < w.heap.size := by
  obtain ⟨_, _, h⟩ := h.cells
  exact h.lt
theorem Live.ltm {w : World} {g m : Nat} {ws : List Nat} (h : Live w g (some m) ws) : m < w.heap.size := h.2.2.lt
theorem Live.turn {S : List Nat} {w w' : World} {g : Nat} {mo : Option Nat} {ws : List Nat} (h : Live w g mo ws) (hT : Turn S w w') (hg : g ∉ S) (hm : ∀ m, mo = some m → m ∉ S) : Live w' g mo ws := by
  have hb := hT.block g h.lt hg
  cases mo with
  | none => exact ⟨h.1.of_block hb, h.2⟩
  | some m => exact ⟨h.1.of_block hb, h.2.1, h.2.2.of_block (hT.block m h.ltm (hm m rfl)) hT.size⟩
theorem Live.turn0 {w w' : World} {g : Nat} {mo : Option Nat} {ws : List Nat} (h : Live w g mo ws) (hT : Turn [] w w') : Live w' g mo ws := h.turn hT (by simp) (fun _ _ => by simp)
/-- Which blocks a session turns. -/
def own (g : Nat) (mo : Option Nat) : List Nat := g :: mo.toList
theorem own_g (g : Nat) (mo : Option Nat) : g ∈ own g mo := by simp [own]
theorem own_m (g m : Nat) : m ∈ own g (some m) := by simp [own]
theorem own_iff {g x : Nat} {mo : Option Nat} : x ∈ own g mo ↔ x = g ∨ mo = some x := by
  cases mo with
  | none => simp [own]
  | some m => simp [own]; constructor <;> (rintro (h | h) <;> simp [h])
/-- A buffer is made once. -/
def Went (w : World) (mo mo' : Option Nat) : Prop := mo' = mo ∨ mo = none ∧ ∃ m, mo' = some m ∧ w.heap.size ≤ m
theorem Went.refl (w : World) (mo : Option Nat) : Went w mo mo := .inl rfl
theorem Went.turn {w w' w'' : World} {g : Nat} {mo mo' : Option Nat} (h : Went w mo mo') (h1 : Turn (own g mo) w w') (h2 : Turn (own g mo') w' w'') : Turn (own g mo) w w'' := by
  refine h1.then h2 fun x hx => ?_
  rcases own_iff.1 hx with rfl | hx
  · exact .inl (own_g _ _)
  · rcases h with rfl | ⟨_, m, hm, hs⟩
    · exact .inl (own_iff.2 (.inr hx))
    · rw [hx] at hm
      exact .inr (by rw [Option.some.inj hm]; exact hs)
theorem Went.trans {w w' : World} {mo mo' mo'' : Option Nat} (h : Went w mo mo') (k : Went w' mo' mo'') (hs : w.heap.size ≤ w'.heap.size) : Went w mo mo'' := by
  rcases h with rfl | ⟨rfl, m, rfl, hm⟩
  · rcases k with rfl | ⟨rfl, m, rfl, hm⟩
    · exact .inl rfl
    · exact .inr ⟨rfl, m, rfl, Nat.le_trans hs hm⟩
  · rcases k with rfl | ⟨h, _⟩
    · exact .inr ⟨rfl, m, rfl, hm⟩
    · cases h

/-- A session in memory. -/
def SessAt (w : World) (g : Nat) (mo : Option Nat) (s : Ss) : Prop :=
  s.Ok ∧ (s.br = false → Live w g mo s.ws) ∧ (s.br = true → ∃ d v, Cs w g d 0 v 0 true)
theorem SessAt.cells {w : World} {g : Nat} {mo : Option Nat} {s : Ss} (h : SessAt w g mo s) : ∃ d v, Cs w g d 0 v s.ws.length s.br := by
  obtain ⟨h0, h1, h2⟩ := h
  cases hb : s.br with
  | false => exact (h1 hb).cells
  | true =>
    rw [h0.1 hb]
    exact h2 hb
theorem SessAt.lt {w : World} {g : Nat} {mo : Option Nat} {s : Ss} (h : SessAt w g mo s) : g < w.heap.size := by
  obtain ⟨_, _, h⟩ := h.cells
  exact h.lt
theorem SessAt.turn {S : List Nat} {w w' : World} {g : Nat} {mo : Option Nat} {s : Ss} (h : SessAt w g mo s) (hT : Turn S w w') (hg : g ∉ S) (hm : ∀ m, mo = some m → m ∉ S) : SessAt w' g mo s :=
  ⟨h.1, fun e => (h.2.1 e).turn hT hg hm, fun e => by
    obtain ⟨d, v, k⟩ := h.2.2 e
    exact ⟨d, v, k.of_block (hT.block g k.lt hg)⟩⟩
theorem SessAt.turn0 {w w' : World} {g : Nat} {mo : Option Nat} {s : Ss} (h : SessAt w g mo s) (hT : Turn [] w w') : SessAt w' g mo s := h.turn hT (by simp) (fun _ _ => by simp)

/-- Where bytes lie that are cut off behind the k-th. -/
def hiA (a : Option Addr) (c k : Nat) : Option Addr := if c = k then a else a.map (·.add (k * 1))
set_option maxRecDepth 100000 in
theorem slice_lo (a : Option Addr) (n c k : Nat) (w : World) (hk : k ≤ c) : (Instr.slice 26 (.slice a n c) none (some (.int .i64 (k : Nat))) none).run Try.prog w = .ok (.slice a k c) w := by
  rw [run_slice_h w 26 a n c (by kernel_rfl) .i64 k (by omega) (by omega)]
  have hs : (sizeOf (Try.prog.elem 26)).run Try.prog w = .ok 1 w := by go_simp
  rw [hs]
  simp only [Result.andThen, sliced, Int.toNat_natCast, Nat.zero_mul, Nat.sub_zero]
  congr 2
  split
  · rfl
  · cases a <;> rfl
set_option maxRecDepth 100000 in
theorem slice_hi (a : Option Addr) (n c k : Nat) (w : World) (hk : k ≤ n) : (Instr.slice 26 (.slice a n c) (some (.int .i64 (k : Nat))) none none).run Try.prog w = .ok (.slice (hiA a c k) (n - k) (c - k)) w := by
  rw [run_slice_l w 26 a n c (by kernel_rfl) .i64 k (by omega) (by omega)]
  have hs : (sizeOf (Try.prog.elem 26)).run Try.prog w = .ok 1 w := by go_simp
  rw [hs]
  simp only [Result.andThen, sliced, Int.toNat_natCast, hiA]
theorem hiA_block {a : Option Addr} {c k : Nat} {x : Addr} (h : hiA a c k = some x) : ∃ y, a = some y ∧ y.block = x.block := by
  unfold hiA at h
  split at h
  · exact ⟨x, h, rfl⟩
  · cases a with
    | none => cases h
    | some y =>
      rw [Option.map_some] at h
      refine ⟨y, rfl, ?_⟩
      rw [← Option.some.inj h]
      unfold Addr.add
      split <;> rfl

theorem bytes_take {w : World} {a : Option Addr} {l : List Nat} (h : BytesAt w a l) (k : Nat) : BytesAt w a (l.take k) := by
  rcases h with rfl | ⟨b, off, rfl, h⟩
  · exact .inl (by simp)
  · refine .inr ⟨b, off, rfl, fun i hi => ?_⟩
    rw [List.length_take] at hi
    rw [h i (by omega), List.getD_eq_getElem?_getD, List.getD_eq_getElem?_getD, List.getElem?_take, if_pos (by omega)]
theorem bytes_drop {w : World} {a : Option Addr} {l : List Nat} (h : BytesAt w a l) (c k : Nat) (hc : l.length ≤ c) : BytesAt w (hiA a c k) (l.drop k) := by
  unfold hiA
  split
  · exact .inl (List.drop_of_length_le (by omega))
  · rcases h with rfl | ⟨b, off, rfl, h⟩
    · exact .inl (by simp)
    · refine .inr ⟨b, off + k * 1, ?_, fun i hi => ?_⟩
      · rw [Option.map_some, Addr.add_mid]
      · rw [List.length_drop] at hi
        rw [Nat.mul_one, Nat.add_assoc, h (k + i) (by omega), List.getD_eq_getElem?_getD, List.getD_eq_getElem?_getD, List.getElem?_drop]
theorem _root_.Go.Proofs.Ytmmbckchaklhaaa.Byr.take {w : World} {a : Option Addr} {c : Nat} {l : List Nat} (h : Byr w a c l) (k : Nat) : Byr w a c (l.take k) :=
  ⟨bytes_take h.bt k, fun x hx => h.by8 x (List.mem_of_mem_take hx), by rw [List.length_take]; have := h.lc; omega, h.cm, h.ad⟩
theorem _root_.Go.Proofs.Ytmmbckchaklhaaa.Byr.drop {w : World} {a : Option Addr} {c : Nat} {l : List Nat} (h : Byr w a c l) (k : Nat) : Byr w (hiA a c k) (c - k) (l.drop k) := by
  refine ⟨bytes_drop h.bt c k h.lc, fun x hx => h.by8 x (List.mem_of_mem_drop hx), by rw [List.length_drop]; have := h.lc; omega, by have := h.cm; omega, ?_⟩
  rcases h.ad with ⟨rfl, rfl⟩ | ⟨ab, ao, rfl⟩
  · refine .inl ⟨?_, by omega⟩
    unfold hiA
    split <;> rfl
  · refine .inr ?_
    unfold hiA
    split
    · exact ⟨_, _, rfl⟩
    · exact ⟨ab, ao + k * 1, by rw [Option.map_some, Addr.add_mid]⟩
theorem _root_.Go.Proofs.Ytmmbckchaklhaaa.Byr.keepS {S : List Nat} {w w' : World} {a : Option Addr} {c : Nat} {l : List Nat} (h : Byr w a c l) (hT : Turn S w w') (hn : ∀ x, l ≠ [] → a = some x → x.block ∉ S) : Byr w' a c l := ⟨h.bt.turn hT hn, h.by8, h.lc, h.cm, h.ad⟩
/-- The front of the buffer, as bytes. -/
theorem Buf.byr {w : World} {m : Nat} {ws : List Nat} (h : Buf w m ws) (hl : ws.length ≤ 514) (h8 : ∀ x ∈ ws, x < 256) : Byr w (some ⟨m, 0, none⟩) 514 ws := by
  refine ⟨.inr ⟨m, 0, rfl, fun i hi => ?_⟩, h8, hl, by decide, .inr ⟨_, _, rfl⟩⟩
  rw [h.rg i (byteCell (ws.getD i 0)) (by rw [List.getElem?_map, List.getD_eq_getElem?_getD, List.getElem?_eq_getElem hi]; rfl)]
  rfl

end Go.Proofs.Ytmmbckchaklhaaa.Se

/-
  Going through 'since', in whatever order; Abort of a pager, walked.
-/
import Derived.Test.YtjbjcjcahkfgbaaDoorPalloc
namespace Go.Proofs.YtjbjcjcahkfgbaaDoor
open Go.RowKit Go.Maps

/-- Of the bits T those are struck whose page has v in 'since', and is no more to come. -/
def Swept (T T' : Nat → Nat) (si : Nat → Nat) (v : Nat) (left : Lit → Bool) : Prop := ∀ k, k < 16384 → bit T' k = (bit T k && !(si k == v && !left (.int .i64 (k : Int))))

theorem Swept.start {D : DataW Value} {si : Nat → Nat} (h : Since D si) (T : Nat → Nat) {v : Nat} (hv : v ≠ 0) : Swept T T si v (has D) := by
  intro k _
  by_cases e : si k = v
  · have : has D (.int .i64 (k : Int)) = true := by
      cases hh : has D (.int .i64 (k : Int)) with
      | true => rfl
      | false =>
        have h1 := h.at_ k
        rw [atKey_of_not_has hh] at h1
        have := (Lit.int.inj (DataW.lit.inj h1)).2
        omega
    rw [this]
    simp
  · have : (si k == v) = false := by rw [beq_eq_false_iff_ne]; exact e
    rw [this]
    simp

theorem strike_other (left : Lit → Bool) {k n : Nat} (h : k ≠ n) : (left (.int .i64 (k : Int)) && !(Lit.int .i64 (k : Int)).sameKey (.int .i64 (n : Int))) = left (.int .i64 (k : Int)) := by
  have : (Lit.int .i64 (k : Int)).sameKey (.int .i64 (n : Int)) = false := by
    cases hh : (Lit.int .i64 (k : Int)).sameKey (.int .i64 (n : Int)) with
    | false => rfl
    | true => exact absurd (WideAt.sameKey_eq hh) (key_ne h)
  rw [this]
  simp
theorem strike_same (left : Lit → Bool) (n : Nat) : (left (.int .i64 (n : Int)) && !(Lit.int .i64 (n : Int)).sameKey (.int .i64 (n : Int))) = false := by
  rw [WideAt.sameKey_self (isKey n)]
  simp

theorem Swept.hit {T T' : Nat → Nat} {si : Nat → Nat} {v : Nat} {left : Lit → Bool} (h : Swept T T' si v left) {n : Nat} (hn : si n = v) : Swept T (freeW T' n) si v (fun z => left z && !z.sameKey (.int .i64 (n : Int))) := by
  intro k hk
  show _ = (bit T k && !(si k == v && !(left (.int .i64 (k : Int)) && !(Lit.int .i64 (k : Int)).sameKey (.int .i64 (n : Int)))))
  rw [bit_freeW, h k hk]
  by_cases e : k = n
  · subst e
    rw [strike_same]
    simp [hn]
  · rw [strike_other left e]
    simp [e]
theorem Swept.miss {T T' : Nat → Nat} {si : Nat → Nat} {v : Nat} {left : Lit → Bool} (h : Swept T T' si v left) {n : Nat} (hn : si n ≠ v) : Swept T T' si v (fun z => left z && !z.sameKey (.int .i64 (n : Int))) := by
  intro k hk
  show _ = (bit T k && !(si k == v && !(left (.int .i64 (k : Int)) && !(Lit.int .i64 (k : Int)).sameKey (.int .i64 (n : Int)))))
  rw [h k hk]
  by_cases e : k = n
  · subst e
    have : (si k == v) = false := by rw [beq_eq_false_iff_ne]; exact hn
    rw [this]
    simp
  · rw [strike_other left e]
theorem Swept.done {T T' : Nat → Nat} {si : Nat → Nat} {v : Nat} {left : Lit → Bool} (h : Swept T T' si v left) (hl : ∀ kl, left kl = false) : ∀ k, k < 16384 → bit T' k = (bit T k && !(si k == v)) := by
  intro k hk
  rw [h k hk, hl]
  simp

/-- What has come out. -/
theorem Since.entry {D : DataW Value} {si : Nat → Nat} (h : Since D si) {x c : Int} (hx : has D (.int .i64 x) = true) (hat : ∀ zd, D.atKey (.int .i64 x) zd = .lit (.int .i64 c)) : ∃ n : Nat, x = n ∧ c = si n ∧ si n ≠ 0 := by
  obtain ⟨n, e, hn⟩ := h.keys _ hx
  have hxn : x = n := (Lit.int.inj e).2
  subst hxn
  have h1 := h.at_ n
  rw [hat] at h1
  exact ⟨n, rfl, (Lit.int.inj (DataW.lit.inj h1)).2, hn⟩

theorem Wturn.grown {p off r : Nat} {u w w' : World} (h : Wturn p off u w) (hg : w.grownBy w' (some r)) (hr : u.heap.size ≤ r) (hp : p < u.heap.size) : Wturn p off u w' :=
  ⟨h.turn.then (turn_of_grown hg) (fun x hx => by rw [List.mem_singleton.1 hx]; exact .inr hr), fun o ho => ((turn_of_grown hg).cell (p := ⟨p, o, none⟩) (Nat.lt_of_lt_of_le hp h.turn.size) (by simp; omega)).trans (h.out o ho)⟩
theorem Wturn.of_turn {p off : Nat} {u w : World} (hT : Turn [] u w) (hp : p < u.heap.size) : Wturn p off u w := ⟨hT.mono (by simp), fun o _ => hT.cell (p := ⟨p, o, none⟩) hp (by simp)⟩
theorem turn_of_none {w w' : World} (h : w.grownBy w' none) : Turn [] w w' := ⟨h.os, h.tape, h.output, h.size, fun k hk _ => h.block k hk (by simp)⟩
theorem grown_of_turn {p : Nat} {w w' : World} (h : Turn [p] w w') : w.grownBy w' (some p) := ⟨h.os, h.tape, h.output, h.size, fun k hk hn => h.block k hk (fun hm => hn (by rw [List.mem_singleton.1 hm]))⟩

/-- The bitmap has turned, and there is a new 'since'. -/
theorem PgAt.newSince {w w1 : World} {p b sm rb N : Nat} {d l : Int} {q : Pg} (h : PgAt w p b sm rb N d l q) (hT : Wturn p 9 w w1) {T : Nat → Nat} (hW : WordsAt w1 p 9 T) {q' : Pg} (e1 : q'.dead = q.dead) (e2 : q'.c = q.c) (e3 : q'.root = q.root) (e4 : ∀ n, q'.si n = 0) (hb : ∀ k, k < 16384 → bit T k = (q'.rd && q'.tk N k)) :
    PgAt ((w1.alloc (.map #[] 0)).setCell ⟨p, 265, none⟩ (.map (some w1.heap.size))) p b w1.heap.size rb N d l q' := by
  have hp1 := hW.blk
  have hT1 : Turn [] w1 (w1.alloc (.map #[] 0)) := (Turn.refl [] w1).alloc _
  have hT2 : Turn [p] (w1.alloc (.map #[] 0)) ((w1.alloc (.map #[] 0)).setCell ⟨p, 265, none⟩ (.map (some w1.heap.size))) := (Turn.refl [p] _).setCell (List.mem_singleton.2 rfl) _ _
  have ho : ∀ o, o < 9 → ((w1.alloc (.map #[] 0)).setCell ⟨p, 265, none⟩ (.map (some w1.heap.size))).cell? ⟨p, o, none⟩ = w.cell? ⟨p, o, none⟩ := fun o h' =>
    ((World.cell?_setCell_other _ _ _ _ (off_ne (by omega))).trans (hT1.cell (p := ⟨p, o, none⟩) hp1 (by simp))).trans (hT.out o (by omega))
  obtain ⟨x1, k1⟩ := h.c1
  obtain ⟨x2, k2⟩ := h.c2
  obtain ⟨ra, rc, k5, hB, hn, hx⟩ := h.c5
  have hr : ∀ x, q.root ≠ [] → ra = some x → x.block ∉ [p] := fun x h1 h2 hm => h.nr (by rw [← hx x h1 h2]; exact (List.mem_singleton.1 hm).symm)
  have c265 : (w1.alloc (.map #[] 0)).cell? ⟨p, 265, none⟩ = some (.map (some sm)) := ((hT1.cell (p := ⟨p, 265, none⟩) hp1 (by simp)).trans (hT.out 265 (by omega))).trans h.cs
  refine ⟨(ho 0 (by omega)).trans h.c0, ⟨x1, (ho 1 (by omega)).trans k1⟩, ⟨x2, (ho 2 (by omega)).trans k2⟩, by rw [e1]; exact (ho 3 (by omega)).trans h.c3, by rw [e2]; exact (ho 4 (by omega)).trans h.c4,
    ⟨ra, rc, by rw [e3]; exact (ho 5 (by omega)).trans k5, by rw [e3]; exact ((hB.turn hT.turn hr).turn hT1 (by simp)).turn hT2 hr, hn, by rw [e3]; exact hx⟩, (ho 6 (by omega)).trans h.c6, (ho 7 (by omega)).trans h.c7, ⟨T, ?_, hb⟩,
    World.cell?_setCell_same _ _ _ c265, ⟨0, .map [], Nat.zero_le _, (World.ownsMap_made w1 Tryd.prog 3 (plainElem Tryd.prog 3)).setCell (by simp; omega) _, ⟨fun kl hk => by simp [has] at hk, fun n => by rw [e4 n]; rfl⟩⟩, by omega, h.nr⟩
  have hWa := hW.turn hT1 (by simp)
  exact ⟨fun i hi => (World.cell?_setCell_other _ _ _ _ (off_ne (by omega))).trans (hWa.cell i hi), fun o => by rw [World.frozen?_setCell]; exact hWa.fz o, hWa.lt, by rw [World.size_setCell]; exact hWa.blk⟩

set_option maxRecDepth 100000 in
set_option maxHeartbeats 3200000 in
theorem abort_any (p b m sm rb : Nat) (s : St) (q : Pg) (w : World) (hA : PAt w p b m sm rb s q) (hrl : rb < w.heap.size) :
    Calls Tryd.prog 21 #[.pointer (some ⟨p, 0, none⟩)] w fun e w' => e = .returned (.tuple #[]) ∧ (∃ sm', w.heap.size ≤ sm' ∧ PAt w' p b m sm' rb s { q with si := fun _ => 0, u := 0 }) ∧ Turn [p] w w' := by
  have hcs := hA.pg.cs
  have hpl := hA.pg.lt
  have hbl := hA.disk.lt
  have hml := hA.disk.ltm
  have hsl := hA.pg.lts
  obtain ⟨T, hW, hbt⟩ := hA.pg.wd
  obtain ⟨n, D, hn, hM, hS⟩ := hA.pg.since
  have hmm := @run_makeMap Tryd.prog
  have HA := hide hA
  have HW := hide hW
  have HBt := hide hbt
  have HS := hide hS
  clear hA hW hbt hS
  go_enter Tryd.func21, Tryd.ntmps21
  go_wp2_with (first
    | (at_range; refine wpList_range_own _ rfl _ 65 rfl 3 3 law3 Tryd.underlying65 _ sm n D rfl hM ?_; intro w0 hrg0 hg0 hs0)
    | go_in)
  go_frame
  have hT0 := turn_of_none hg0
  go_loopw [2] (fun _ wr => ∃ (left : Lit → Bool) (cnt : Nat) (T' : Nat → Nat), wr.ranges Tryd.prog 3 (plainElem Tryd.prog 3) sm w.heap.size n D left cnt ∧ (∀ kl, left kl = true → has D kl = true) ∧ WordsAt wr p 9 T' ∧ Swept T T' q.si 1 left ∧ Wturn p 9 w wr)
    (fun _ wr => wr.rangeLeft sm w.heap.size)
  case atStart => exact ⟨_, _, T, hrg0, fun _ h => h, HW.out.turn hT0 (by simp), Swept.start HS.out T (by omega), Wturn.of_turn hT0 hpl⟩
  case round =>
    obtain ⟨left, cnt, T', hrg, hleft, hW', hsw, hTr⟩ := hrel
    have HLeft := hide hleft
    have HW' := hide hW'
    have HSw := hide hsw
    have HTr := hide hTr
    clear hleft hW' hsw hTr hrg0 hM hg0 hs0 hT0
    go_wp2_with (first
      | (at_next; refine wpList_next_ranges_ii _ rfl _ rfl 3 3 .i64 .i64 law3 Tryd.underlying3 Tryd.underlying3 sm w.heap.size n _ _ _ rfl hrg ?_ ?_)
      | go_in)
    · intro _ hl0
      have hsd := HSw.out.done hl0
      have HPn := hide (HA.out.pg.newSince HTr.out HW'.out (q' := { q with si := fun _ => 0, u := 0 }) rfl rfl rfl (fun _ => rfl) (fun k hk => by
        rw [hsd k hk, HBt.out k hk]
        unfold Pg.tk
        by_cases e : q.si k = 1
        · obtain ⟨h1, h2, h3⟩ := HA.out.s1 k e
          have h4 : ¬ k < 4 := by omega
          have h5 : ¬ s.n ≤ k := by omega
          simp [e, h1, h4, h5]
        · have e' : (q.si k == 1) = false := by rw [beq_eq_false_iff_ne]; exact e
          simp [e']))
      have hcs2 := (HTr.out.out 265 (by omega)).trans hcs
      have hfz := HW'.out.fz 265
      have hplr := HW'.out.blk
      have hsz := HTr.out.turn.size
      clear hsd
      go_wp2
      go_end0
      rw [← World.setCell_alloc_past _ _ _ _ hplr]
      refine ⟨rfl, ⟨wr.heap.size, hsz, ?_⟩, ?_⟩
      · have hTf : Turn [p] w ((wr.alloc (.map #[] 0)).setCell ⟨p, 265, none⟩ (.map (some wr.heap.size))) := (HTr.out.turn.alloc _).setCell (List.mem_singleton.2 rfl) _ _
        refine ⟨HA.out.disk.turn hTf (by simp; exact Ne.symm HA.out.apart.pb) (by simp; exact Ne.symm HA.out.apart.pm), HPn.out, HA.out.laid, ⟨HA.out.apart.pb, HA.out.apart.pm, by omega, by omega, HA.out.apart.rbb, HA.out.apart.rbm, by omega⟩, fun n h => by simp at h, fun n h => by simp at h, fun n => by simp, fun _ _ => rfl, HA.out.tab.turn hTf (by have := HA.out.pos; simp; omega), ⟨HA.out.pos.1, HA.out.pos.2.1, HA.out.pos.2.2.1, by omega⟩⟩
      · exact (HTr.out.turn.alloc _).setCell (List.mem_singleton.2 rfl) _ _
    · intro x c w1 cnt1 hwx hwc hlx hat hrg1 hlt hg1 hs1 hen
      obtain ⟨k, rfl, rfl, hk0⟩ := HS.out.entry (HLeft.out _ hlx) hat
      have hk3 := HA.out.s3 k
      have hk16 : k < 16384 := by
        have hN := HA.out.laid.n4096
        by_cases e : q.si k = 1
        · have := HA.out.s1 k e; omega
        · have e2 : q.si k = 2 := by omega
          have := HA.out.laid.kr k (HA.out.s2 k e2); omega
      have HT1 := hide (HTr.out.grown hg1 (Nat.le_refl _) hpl)
      have HW1 := hide (HW'.out.turn (turn_of_grown hg1) (by simp; omega))
      have HL1 : Hid (∀ kl, (left kl && !kl.sameKey (.int .i64 (k : Int))) = true → has D kl = true) := fun kl h => HLeft.out kl (by simp at h; exact h.1)
      have Hrg := hide hrg
      have Hrg1 := hide hrg1
      have hmeas : w1.rangeLeft sm w.heap.size < wr.rangeLeft sm w.heap.size := by rw [hrg1.left_eq, hrg.left_eq]; exact hlt
      have HM := hide hmeas
      clear hrg hrg1 hat hlx hmeas hg1 hwx hwc
      by_cases e : q.si k = 1
      · have HSh := hide (HSw.out.hit e)
        have He := hide e
        have t1 : ((q.si k : Int) == 1) = true := by rw [e]; rfl
        clear e
        go_wp2_with fail
        refine (free_any p 9 k T' hk16 w1 HW1.out).mono ?_
        rintro e w2 ⟨rfl, hW2, hT2⟩
        have hrg2 := Hrg1.out.kept (grown_of_turn hT2.turn) (by intro e; have := HA.out.pg.ne; simp at e; omega) (by intro e; simp at e; omega)
        go_wp2_with fail
        go_roundw
        case rel => exact ⟨_, cnt1, _, hrg2, HL1.out, hW2, HSh.out, HT1.out.trans hT2⟩
        case measure =>
          rw [hrg2.left_eq, ← Hrg1.out.left_eq]
          exact HM.out
      · have HSm := hide (HSw.out.miss e)
        have t1 : ((q.si k : Int) == 1) = false := by rw [beq_eq_false_iff_ne]; omega
        go_wp2_with fail
        go_roundw
        case rel => exact ⟨_, cnt1, _, Hrg1.out, HL1.out, HW1.out, HSm.out, HT1.out⟩
        case measure => exact HM.out
end Go.Proofs.YtjbjcjcahkfgbaaDoor

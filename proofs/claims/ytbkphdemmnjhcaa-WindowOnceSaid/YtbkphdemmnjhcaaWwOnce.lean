/-
  WindowOnce, walked.
-/
import Derived.Test.YtbkphdemmnjhcaaWKnown
import Derived.Test.YtbkphdemmnjhcaaWOnceP
import Derived.Test.YtbkphdemmnjhcaaWFrame
import Derived.Deep.Cut
import Derived.Deep.CutRange
import Derived.Deep.QuietTactic
import Derived.BigQuiet
namespace Go.Proofs.Ytbkphdemmnjhcaa.Wi
open Go.RowKit Go.Maps

/-- A block of a hundred cells, no text among them. -/
structure ArrAt (w : World) (g : Nat) (f : Nat → Value) : Prop where
  cell : ∀ j, j < 100 → w.cell? ⟨g, j, none⟩ = some (f j)
  fz : ∀ o, w.frozen? ⟨g, o, none⟩ = false
  plain : ∀ o v, w.cell? ⟨g, o, none⟩ = some v → ∀ s, v ≠ .string s
theorem ArrAt.lt {w : World} {g : Nat} {f : Nat → Value} (h : ArrAt w g f) : g < w.heap.size := lt_of_cell (h.cell 0 (by omega))
theorem ArrAt.turn {S : List Nat} {w w' : World} {g : Nat} {f : Nat → Value} (h : ArrAt w g f) (hT : Turn S w w') (hg : g ∉ S) : ArrAt w' g f :=
  ⟨fun j hj => (hT.cell (p := ⟨g, j, none⟩) h.lt hg).trans (h.cell j hj), fun o => (World.frozen?_of_block (a := ⟨g, o, none⟩) (hT.block g h.lt hg)).trans (h.fz o), fun o v hv => h.plain o v ((hT.cell (p := ⟨g, o, none⟩) h.lt hg).symm.trans hv)⟩
theorem ArrAt.turn0 {w w' : World} {g : Nat} {f : Nat → Value} (h : ArrAt w g f) (hT : Turn [] w w') : ArrAt w' g f := h.turn hT (by simp)
theorem ArrAt.set {w : World} {g : Nat} {f : Nat → Value} (h : ArrAt w g f) {k : Nat} (hk : k < 100) {v : Value} (hv : ∀ s, v ≠ .string s) : ArrAt (w.setCell ⟨g, k, none⟩ v) g (fun j => if j = k then v else f j) := by
  refine ⟨fun j hj => ?_, fun o => by rw [World.frozen?_setCell]; exact h.fz o, fun o u hu => ?_⟩
  · by_cases e : j = k
    · subst e
      rw [if_pos rfl]
      exact World.cell?_setCell_same _ _ _ (h.cell j hj)
    · rw [if_neg e]
      exact (World.cell?_setCell_other _ _ _ _ (off_ne (Ne.symm e))).trans (h.cell j hj)
  · by_cases e : o = k
    · subst e
      rw [World.cell?_setCell_same _ _ _ (h.cell o hk)] at hu
      obtain rfl := Option.some.inj hu
      exact hv
    · exact h.plain o u ((World.cell?_setCell_other _ _ _ _ (off_ne (Ne.symm e))).symm.trans hu)
theorem ArrAt.other {w : World} {g b k : Nat} {f : Nat → Value} {v : Value} (h : ArrAt w g f) (hb : g ≠ b) : ArrAt (w.setCell ⟨b, k, none⟩ v) g f := h.turn (S := [b]) ((Turn.refl [b] w).setCell (by simp) k v) (by simpa using hb)
/-- Windows lie elsewhere. -/
theorem ArrAt.win {w : World} {g k : Nat} {f : Nat → Value} {v : Value} {a : Option Addr} {c : Nat} {l : List Ent} (h : ArrAt w g f) (hl : WinAt w a c l) : WinAt (w.setCell ⟨g, k, none⟩ v) a c l := by
  refine ⟨?_, hl.2⟩
  rcases hl.1 with rfl | ⟨b, off, rfl, hr⟩
  · exact .inl rfl
  · cases l with
    | nil => exact .inl rfl
    | cons e l =>
      refine .inr ⟨b, off, rfl, rangeAt_turn hr ((Turn.refl [g] w).setCell (by simp) k v) ?_⟩
      intro hb
      obtain rfl := List.mem_singleton.1 hb
      exact h.plain (off + 5) (.string e.an.nm) (hr 5 _ rfl) _ rfl

abbrev numF (N : Nat → Int) : Nat → Value := fun j => .int .i64 (N j)
abbrev bitF (S : Nat → Bool) : Nat → Value := fun j => .bool (S j)
theorem numF_set (N : Nat → Int) (k : Nat) (v : Int) : (fun j => if j = k then Value.int .i64 v else numF N j) = numF (fun j => if j = k then v else N j) := by
  funext j
  by_cases e : j = k <;> simp [numF, e]
theorem bitF_set (S : Nat → Bool) (k : Nat) : (fun j => if j = k then Value.bool true else bitF S j) = bitF (fun j => if j = k then true else S j) := by
  funext j
  by_cases e : j = k <;> simp [bitF, e]
theorem turn_at {u w : World} (h : Turn [] u w) {b : Nat} (hb : u.heap.size ≤ b) (o : Nat) (v : Value) : Turn [] u (w.setCell ⟨b, o, none⟩ v) :=
  ⟨h.os, h.tape, h.output, by rw [World.size_setCell]; exact h.size, fun i hi hn => (Below.heap_setCell w ⟨b, o, none⟩ v i (fun e => by change i = b at e; omega)).trans (h.block i hi hn)⟩

def hundredI : Array Value := Array.replicate 100 (.int .i64 0)
def hundredB : Array Value := Array.replicate 100 (.bool false)
theorem zero_ints (w : World) : (zeroValue 36).run Try.prog w = .ok (.agg hundredI) w := by kernel_rfl
theorem zero_bools (w : World) : (zeroValue 37).run Try.prog w = .ok (.agg hundredB) w := by kernel_rfl
theorem arr_new {w : World} {g : Nat} {t : TypeId} {v : Value} (hv : ∀ s, v ≠ .string s) (hb : w.heap[g]? = some (.cells (Array.replicate 100 v) t)) : ArrAt w g (fun _ => v) :=
  ⟨fun j hj => by unfold World.cell?; rw [show w.heap[(⟨g, j, none⟩ : Addr).block]? = _ from hb]; simp [hj], fun o => by unfold World.frozen?; rw [show w.heap[(⟨g, o, none⟩ : Addr).block]? = _ from hb]; simp, fun o u hu => by
    unfold World.cell? at hu
    rw [show w.heap[(⟨g, o, none⟩ : Addr).block]? = _ from hb] at hu
    simp [Array.getElem?_replicate] at hu
    rw [← hu.2]
    exact hv⟩

set_option maxRecDepth 100000 in
set_option maxHeartbeats 8000000 in
theorem once_any (ia : Option Addr) (ic : Nat) (il : List Int) (w : World) (_h1 : il.length ≤ 9223372036854775807) (hI : NumsAt w ia il) :
    Calls Try.prog 4 #[.slice ia il.length ic] w fun e w' => e = .returned (.bool true) ∧ Turn [] w w' := by
  have HI := hide hI
  clear hI
  go_enter Try.func4, Try.ntmps4
  go_wp2_with fail
  refine (known_any w).mono ?_
  rintro e w1 ⟨rfl, hT1⟩
  have HT1 := hide hT1
  clear hT1
  have hz1 := zero_ints
  have hz2 := zero_bools
  go_wp2_with fail
  clear hz1 hz2
  obtain ⟨W, hW⟩ : ∃ W, W = (w1.alloc (.cells hundredI 36)).alloc (.cells hundredB 37) := ⟨_, rfl⟩
  have hbN : W.heap[w1.heap.size]? = some (.cells (Array.replicate 100 (.int .i64 0)) 36) := by
    rw [hW, Below.heap_alloc _ _ _ (by simp)]
    exact Array.getElem?_push_size
  have hbS : W.heap[w1.heap.size + 1]? = some (.cells (Array.replicate 100 (.bool false)) 37) := by
    rw [hW]
    have e : w1.heap.size + 1 = (w1.alloc (.cells hundredI 36)).heap.size := by simp
    rw [e]
    exact Array.getElem?_push_size
  have HN0 : Hid (ArrAt W w1.heap.size (numF fun _ => 0)) := arr_new (by simp) hbN
  have HS0 : Hid (ArrAt W (w1.heap.size + 1) (bitF fun _ => false)) := arr_new (by simp) hbS
  have HTW : Hid (Turn [] w W) := by rw [hW]; exact (HT1.out.alloc _).alloc _
  have HG : Hid (w.heap.size ≤ w1.heap.size) := HT1.out.size
  rw [← hW]
  clear hW hbN hbS HT1
  generalize w1.heap.size = g at *
  go_loopw [3, 6] (fun u i wr => ∃ (j : Nat) (wa : Option Addr) (cc : Nat) (x : List Ent) (N : Nat → Int) (S : Nat → Bool), j ≤ 80 ∧ u = .slice wa x.length cc ∧ i = .int .i64 (j : Int) ∧ Hid (Once x N S) ∧ Hid (∀ k, N k ≤ 80) ∧ Hid (WinAt wr wa cc x) ∧ Hid (ArrAt wr g (numF N)) ∧ Hid (ArrAt wr (g + 1) (bitF S)) ∧ Turn [] w wr) (fun _ i _ => 81 - (intOf i).toNat)
  case atStart => exact ⟨0, none, 0, [], _, _, by omega, rfl, rfl, Once.nil, fun _ => by omega, WinAt.nil _, HN0, HS0, HTW.out⟩
  case round =>
    obtain ⟨j, wa, cc, x, N, S, hj, rfl, rfl, HO, HB, HW, HN, HS, hT⟩ := hrel
    have HT := hide hT
    clear hT HN0 HS0 HTW
    by_cases hjl : j < il.length
    · by_cases hj80 : j < 80
      · obtain ⟨b, off, rfl, cw⟩ := HI.out.at hjl
        have c0 := (HT.out.cell (p := ⟨b, off + j, none⟩) (lt_of_cell cw) (by simp)).trans cw
        have hb := lt_of_cell c0
        clear cw
        generalize il.getD j 0 = z at *
        have hm1 := Int.emod_nonneg z (show (99 : Int) ≠ 0 by omega)
        have hm2 := Int.emod_lt_of_pos z (show (0 : Int) < 99 by omega)
        have hxl : x.length ≤ 12 := HO.out.len
        go_wp2_with fail
        refine (within_any z 99 _ (by omega) (by omega)).mono ?_
        rintro e w2 ⟨rfl, rfl⟩
        go_upto_region 10 with fail
        obtain ⟨k, hk, hk1, hk2⟩ : ∃ k : Nat, 1 + z % 99 = (k : Int) ∧ 1 ≤ k ∧ k ≤ 99 := ⟨(1 + z % 99).toNat, by omega, by omega, by omega⟩
        rw [hk]
        clear hk hm1 hm2 c0 hb
        have HA1 := hide (ask_any wa cc x (k : Int) w2 (by omega) HW.out.1)
        unfold askV at HA1
        have HKc := hide (kind_cases x (k : Int))
        have HK0 : Hid (kindOf x (k : Int) = 0 → (N k = 0 ∧ S k = false) ∧ Once (note x ⟨(k : Int), nAn ((j : Int) + 1)⟩) (fun q => if q = k then (j : Int) + 1 else N q) S) := fun h => ⟨HO.out.new h, HO.out.note hk1 hk2 (a := nAn ((j : Int) + 1)) (show (0 : Int) < (j : Int) + 1 by omega) h⟩
        have HK1 : Hid (kindOf x (k : Int) = 1 → 0 < N k ∧ (ansOf x (k : Int)).n = N k) := HO.out.known
        have HK2 : Hid (kindOf x (k : Int) = 2 → Once x N (fun q => if q = k then true else S q)) := HO.out.stales
        generalize kindOf x (k : Int) = kk at *
        generalize ansOf x (k : Int) = y at *
        go_wp2_with fail
        refine HA1.out.mono ?_
        rintro e w3 ⟨rfl, hT3⟩
        have HW3 := hide (HW.out.turn0 hT3)
        have HN3 := hide (HN.out.turn0 hT3)
        have HS3 := hide (HS.out.turn0 hT3)
        have HT3 := hide (HT.out.trans hT3)
        clear hT3 HA1 HW HN HS HT
        go_upto_region 11 with (first | ((with_reducible refine keep_answer _ _ y ?_ ?_ ?_); rfl; rfl; intro w4 hR4 hT4 _ _; have HW4 := hide (HW3.out.turn0 hT4); have HN4 := hide (HN3.out.turn0 hT4); have HS4 := hide (HS3.out.turn0 hT4); have HT4 := hide (HT3.out.trans hT4); have cy : w4.cell? ⟨w3.heap.size, 3, none⟩ = some (.int .i64 y.n) := hR4 3 _ rfl; clear hR4 hT4; simp only [Act.put]) | fail)
        have cn := HN4.out.cell k (by omega)
        have fn := HN4.out.fz k
        have cs := HS4.out.cell k (by omega)
        have fs := HS4.out.fz k
        have hgn := HN4.out.lt
        have hgs := HS4.out.lt
        have hgy := lt_of_cell cy
        generalize w3.heap.size = gy at *
        clear HW3 HN3 HS3 HT3
        rcases HKc.out with hk | hk | hk
        · obtain ⟨⟨hn0, hs0⟩, hO⟩ := HK0.out hk
          change w4.cell? _ = some (.int .i64 (N k)) at cn
          change w4.cell? _ = some (.bool (S k)) at cs
          rw [hn0] at cn
          rw [hs0] at cs
          obtain ⟨N6, hN6⟩ : ∃ N6 : Nat → Int, N6 = fun q => if q = k then (j : Int) + 1 else N q := ⟨_, rfl⟩
          rw [← hN6] at hO
          have HO5 := hide hO
          have HB5 : Hid (∀ q, N6 q ≤ 80) := fun q => by rw [hN6]; by_cases e : q = k; simp only [e, if_true]; omega; simp only [e, if_false]; exact HB.out q
          rw [hk]
          clear hn0 hs0 hO hk HK0 HK1 HK2 HKc HO HB cy hgy
          have HW5 := hide (HN4.out.win (k := k) (v := .int .i64 ((j : Int) + 1)) HW4.out)
          have HN5 := hide (HN4.out.set (k := k) (by omega) (v := .int .i64 ((j : Int) + 1)) (by simp))
          rw [numF_set, ← hN6] at HN5
          clear hN6
          have HS5 := hide (HS4.out.other (b := g) (k := k) (v := .int .i64 ((j : Int) + 1)) (by omega))
          have HT5 := hide (turn_at HT4.out HG.out k (.int .i64 ((j : Int) + 1)))
          go_wp2_with fail
          generalize w4.setCell ⟨g, k, none⟩ (.int .i64 ((j : Int) + 1)) = w5 at *
          clear HW4 HN4 HS4 HT4 cn fn cs fs hgn hgs
          have HC := hide (note_any wa cc x (k : Int) (nAn ((j : Int) + 1)) w5 (by omega) HW5.out)
          generalize note x ⟨(k : Int), nAn ((j : Int) + 1)⟩ = x6 at *
          refine HC.out.mono ?_
          rintro e w6 ⟨a6, c6, rfl, hW6, hT6⟩
          have HW6 := hide hW6
          have HN6 := hide (HN5.out.turn0 hT6)
          have HS6 := hide (HS5.out.turn0 hT6)
          have HT6 := hide (HT5.out.trans hT6)
          clear hW6 hT6 HC HW5 HN5 HS5 HT5
          have hxl2 : x6.length ≤ 12 := HO5.out.len
          have HTop := hide HO5.out.top
          have HBot := hide HO5.out.bottom
          go_wp2_with fail
          go_loopw [10, 11, 12] (fun ul un uq wr => ∃ (t : Nat), t ≤ 99 ∧ ul = .int .i64 (12 - (cnt x6 (t : Int) : Nat)) ∧ un = .int .i64 (cnt x6 (t : Int) : Nat) ∧ uq = .int .i64 (t : Int) ∧ Turn [] w6 wr) (fun _ _ uq _ => (intOf uq).toNat)
          case atStart => exact ⟨99, by omega, by have := HTop.out; rw [show ((99 : Nat) : Int) = 99 from rfl, this]; rfl, by have := HTop.out; rw [show ((99 : Nat) : Int) = 99 from rfl, this]; rfl, rfl, Turn.refl _ _⟩
          case round =>
            obtain ⟨t, ht, rfl, rfl, rfl, hTq⟩ := hrel
            have HTq := hide hTq
            have HWq := hide (HW6.out.turn0 hTq)
            have HNq := hide (HN6.out.turn0 hTq)
            clear hTq
            have hcl := cnt_le x6 (t : Int)
            cases t with
            | zero =>
              have HE : Hid (cnt x6 ((0 : Nat) : Int) = x6.length) := HBot.out
              rw [HE.out]
              have HSq := hide (HS6.out.turn0 HTq.out)
              have HTf := hide (HT6.out.trans HTq.out)
              clear HE hcl HTq
              go_wp2_with fail
              go_roundw
              case rel => exact ⟨j + 1, a6, c6, x6, _, _, by omega, rfl, by go_num, HO5, HB5, HWq, HNq, HSq, HTf.out⟩
              case measure => simp [intOf]; omega
            | succ t =>
              have ct := HNq.out.cell (t + 1) (by omega)
              have hgq := HNq.out.lt
              have HR : Hid (0 < N6 (t + 1) → cnt x6 ((t + 1 : Nat) : Int) < 12 → kindOf x6 ((t + 1 : Nat) : Int) = 1 ∧ cnt x6 (t : Int) = cnt x6 ((t + 1 : Nat) : Int) + 1) := fun h1 h2 => by
                have := HO5.out.room h1 h2
                rw [show ((t + 1 : Nat) : Int) - 1 = (t : Int) by omega] at this
                exact this
              have HZ : Hid (¬ 0 < N6 (t + 1) ∨ ¬ cnt x6 ((t + 1 : Nat) : Int) < 12 → cnt x6 (t : Int) = cnt x6 ((t + 1 : Nat) : Int)) := fun h1 => by
                have := HO5.out.none h1
                rw [show ((t + 1 : Nat) : Int) - 1 = (t : Int) by omega] at this
                exact this
              change wr.cell? _ = some (.int .i64 (N6 (t + 1))) at ct
              have HA2 := hide (ask_any a6 c6 x6 ((t + 1 : Nat) : Int) wr (by omega) HWq.out.1)
              unfold askV at HA2
              generalize N6 (t + 1) = nt at *
              generalize cnt x6 ((t + 1 : Nat) : Int) = ct1 at *
              generalize kindOf x6 ((t + 1 : Nat) : Int) = kt at *
              generalize ansOf x6 ((t + 1 : Nat) : Int) = yt at *
              rw [show ((t + 1 : Nat) : Int) = (t : Int) + 1 by omega] at HA2 ⊢
              by_cases hnt : 0 < nt
              · by_cases hct : ct1 < 12
                · obtain ⟨hk3, hk4⟩ := HR.out hnt hct
                  rw [hk3] at HA2
                  have HK4 := hide hk4
                  clear hk3 hk4 HR HZ
                  go_wp2_with fail
                  refine HA2.out.mono ?_
                  rintro e w9 ⟨rfl, hT9⟩
                  have HT9 := hide (HTq.out.trans hT9)
                  clear hT9 HA2 ct
                  go_wp2_with fail
                  go_roundw
                  case rel => exact ⟨t, by omega, by rw [HK4.out]; go_num, by rw [HK4.out]; go_num, by go_num, HT9.out⟩
                  case measure => simp [intOf]
                · have HK4 := hide (HZ.out (.inr hct))
                  clear HR HZ HA2
                  go_wp2_with fail
                  go_roundw
                  case rel => exact ⟨t, by omega, by rw [HK4.out], by rw [HK4.out], by go_num, HTq.out⟩
                  case measure => simp [intOf]
              · have HK4 := hide (HZ.out (.inl hnt))
                clear HR HZ HA2
                go_wp2_with fail
                go_roundw
                case rel => exact ⟨t, by omega, by rw [HK4.out], by rw [HK4.out], by go_num, HTq.out⟩
                case measure => simp [intOf]
        · obtain ⟨hn0, hy⟩ := HK1.out hk
          rw [hy] at cy
          change w4.cell? _ = some (.int .i64 (N k)) at cn
          rw [hk]
          clear hy hk HK0 HK1 HK2 HKc fn cs fs
          have hnb := HB.out k
          generalize N k = nk at *
          have hne : (nk == 0) = false := by simp; omega
          go_upto_region 19 with fail
          go_cut [72] from 15 to 104 (fun u wx => u = .bool false ∧ Turn [] w4 wx)
          case first =>
            go_quiet (fail)
            go_wp2_with fail
            go_meet
            case rel => exact ⟨rfl, (Turn.refl [] w4).drewN _⟩
          case rest =>
            obtain ⟨rfl, hT5⟩ := hcut
            have HW5 := hide (HW4.out.turn0 hT5)
            have HN5 := hide (HN4.out.turn0 hT5)
            have HS5 := hide (HS4.out.turn0 hT5)
            have HT5 := hide (HT4.out.trans hT5)
            clear hT5 HW4 HN4 HS4 HT4 cn cy hgn hgs hgy hne hnb hn0
            have hxl2 : x.length ≤ 12 := HO.out.len
            have HTop := hide HO.out.top
            have HBot := hide HO.out.bottom
            go_wp2_with fail
            go_loopw [10, 11, 12] (fun ul un uq wr => ∃ (t : Nat), t ≤ 99 ∧ ul = .int .i64 (12 - (cnt x (t : Int) : Nat)) ∧ un = .int .i64 (cnt x (t : Int) : Nat) ∧ uq = .int .i64 (t : Int) ∧ Turn [] wc wr) (fun _ _ uq _ => (intOf uq).toNat)
            case atStart => exact ⟨99, by omega, by have := HTop.out; rw [show ((99 : Nat) : Int) = 99 from rfl, this]; rfl, by have := HTop.out; rw [show ((99 : Nat) : Int) = 99 from rfl, this]; rfl, rfl, Turn.refl _ _⟩
            case round =>
              obtain ⟨t, ht, rfl, rfl, rfl, hTq⟩ := hrel
              have HTq := hide hTq
              have HWq := hide (HW5.out.turn0 hTq)
              have HNq := hide (HN5.out.turn0 hTq)
              clear hTq
              have hcl := cnt_le x (t : Int)
              cases t with
              | zero =>
                have HE : Hid (cnt x ((0 : Nat) : Int) = x.length) := HBot.out
                rw [HE.out]
                have HSq := hide (HS5.out.turn0 HTq.out)
                have HTf := hide (HT5.out.trans HTq.out)
                clear HE hcl HTq
                go_wp2_with fail
                go_roundw
                case rel => exact ⟨j + 1, wa, cc, x, _, _, by omega, rfl, by go_num, HO, HB, HWq, HNq, HSq, HTf.out⟩
                case measure => simp [intOf]; omega
              | succ t =>
                have ct := HNq.out.cell (t + 1) (by omega)
                have hgq := HNq.out.lt
                have HR : Hid (0 < N (t + 1) → cnt x ((t + 1 : Nat) : Int) < 12 → kindOf x ((t + 1 : Nat) : Int) = 1 ∧ cnt x (t : Int) = cnt x ((t + 1 : Nat) : Int) + 1) := fun h1 h2 => by
                  have := HO.out.room h1 h2
                  rw [show ((t + 1 : Nat) : Int) - 1 = (t : Int) by omega] at this
                  exact this
                have HZ : Hid (¬ 0 < N (t + 1) ∨ ¬ cnt x ((t + 1 : Nat) : Int) < 12 → cnt x (t : Int) = cnt x ((t + 1 : Nat) : Int)) := fun h1 => by
                  have := HO.out.none h1
                  rw [show ((t + 1 : Nat) : Int) - 1 = (t : Int) by omega] at this
                  exact this
                change wr.cell? _ = some (.int .i64 (N (t + 1))) at ct
                have HA2 := hide (ask_any wa cc x ((t + 1 : Nat) : Int) wr (by omega) HWq.out.1)
                unfold askV at HA2
                generalize N (t + 1) = nt at *
                generalize cnt x ((t + 1 : Nat) : Int) = ct1 at *
                generalize kindOf x ((t + 1 : Nat) : Int) = kt at *
                generalize ansOf x ((t + 1 : Nat) : Int) = yt at *
                rw [show ((t + 1 : Nat) : Int) = (t : Int) + 1 by omega] at HA2 ⊢
                by_cases hnt : 0 < nt
                · by_cases hct : ct1 < 12
                  · obtain ⟨hk3, hk4⟩ := HR.out hnt hct
                    rw [hk3] at HA2
                    have HK4 := hide hk4
                    clear hk3 hk4 HR HZ
                    go_wp2_with fail
                    refine HA2.out.mono ?_
                    rintro e w9 ⟨rfl, hT9⟩
                    have HT9 := hide (HTq.out.trans hT9)
                    clear hT9 HA2 ct
                    go_wp2_with fail
                    go_roundw
                    case rel => exact ⟨t, by omega, by rw [HK4.out]; go_num, by rw [HK4.out]; go_num, by go_num, HT9.out⟩
                    case measure => simp [intOf]
                  · have HK4 := hide (HZ.out (.inr hct))
                    clear HR HZ HA2
                    go_wp2_with fail
                    go_roundw
                    case rel => exact ⟨t, by omega, by rw [HK4.out], by rw [HK4.out], by go_num, HTq.out⟩
                    case measure => simp [intOf]
                · have HK4 := hide (HZ.out (.inl hnt))
                  clear HR HZ HA2
                  go_wp2_with fail
                  go_roundw
                  case rel => exact ⟨t, by omega, by rw [HK4.out], by rw [HK4.out], by go_num, HTq.out⟩
                  case measure => simp [intOf]
        · have HO5 := hide (HK2.out hk)
          change w4.cell? _ = some (.bool (S k)) at cs
          rw [hk]
          clear hk HK0 HK1 HK2 HKc HO cy hgy cn fn
          have HW5 := hide (HS4.out.win (k := k) (v := .bool true) HW4.out)
          have HS5 := hide (HS4.out.set (k := k) (by omega) (v := .bool true) (by simp))
          rw [bitF_set] at HS5
          have HN5 := hide (HN4.out.other (b := g + 1) (k := k) (v := .bool true) (by omega))
          have HT5 := hide (turn_at HT4.out (show w.heap.size ≤ g + 1 by have := HG.out; omega) k (.bool true))
          generalize (fun q => if q = k then true else S q) = S6 at *
          go_upto_region 23 with fail
          generalize w4.setCell ⟨g + 1, k, none⟩ (.bool true) = w5 at *
          clear HW4 HN4 HS4 HT4 cs fs hgn hgs
          have hxl2 : x.length ≤ 12 := HO5.out.len
          have HTop := hide HO5.out.top
          have HBot := hide HO5.out.bottom
          go_wp2_with fail
          go_loopw [10, 11, 12] (fun ul un uq wr => ∃ (t : Nat), t ≤ 99 ∧ ul = .int .i64 (12 - (cnt x (t : Int) : Nat)) ∧ un = .int .i64 (cnt x (t : Int) : Nat) ∧ uq = .int .i64 (t : Int) ∧ Turn [] w5 wr) (fun _ _ uq _ => (intOf uq).toNat)
          case atStart => exact ⟨99, by omega, by have := HTop.out; rw [show ((99 : Nat) : Int) = 99 from rfl, this]; rfl, by have := HTop.out; rw [show ((99 : Nat) : Int) = 99 from rfl, this]; rfl, rfl, Turn.refl _ _⟩
          case round =>
            obtain ⟨t, ht, rfl, rfl, rfl, hTq⟩ := hrel
            have HTq := hide hTq
            have HWq := hide (HW5.out.turn0 hTq)
            have HNq := hide (HN5.out.turn0 hTq)
            clear hTq
            have hcl := cnt_le x (t : Int)
            cases t with
            | zero =>
              have HE : Hid (cnt x ((0 : Nat) : Int) = x.length) := HBot.out
              rw [HE.out]
              have HSq := hide (HS5.out.turn0 HTq.out)
              have HTf := hide (HT5.out.trans HTq.out)
              clear HE hcl HTq
              go_wp2_with fail
              go_roundw
              case rel => exact ⟨j + 1, wa, cc, x, _, _, by omega, rfl, by go_num, HO5, HB, HWq, HNq, HSq, HTf.out⟩
              case measure => simp [intOf]; omega
            | succ t =>
              have ct := HNq.out.cell (t + 1) (by omega)
              have hgq := HNq.out.lt
              have HR : Hid (0 < N (t + 1) → cnt x ((t + 1 : Nat) : Int) < 12 → kindOf x ((t + 1 : Nat) : Int) = 1 ∧ cnt x (t : Int) = cnt x ((t + 1 : Nat) : Int) + 1) := fun h1 h2 => by
                have := HO5.out.room h1 h2
                rw [show ((t + 1 : Nat) : Int) - 1 = (t : Int) by omega] at this
                exact this
              have HZ : Hid (¬ 0 < N (t + 1) ∨ ¬ cnt x ((t + 1 : Nat) : Int) < 12 → cnt x (t : Int) = cnt x ((t + 1 : Nat) : Int)) := fun h1 => by
                have := HO5.out.none h1
                rw [show ((t + 1 : Nat) : Int) - 1 = (t : Int) by omega] at this
                exact this
              change wr.cell? _ = some (.int .i64 (N (t + 1))) at ct
              have HA2 := hide (ask_any wa cc x ((t + 1 : Nat) : Int) wr (by omega) HWq.out.1)
              unfold askV at HA2
              generalize N (t + 1) = nt at *
              generalize cnt x ((t + 1 : Nat) : Int) = ct1 at *
              generalize kindOf x ((t + 1 : Nat) : Int) = kt at *
              generalize ansOf x ((t + 1 : Nat) : Int) = yt at *
              rw [show ((t + 1 : Nat) : Int) = (t : Int) + 1 by omega] at HA2 ⊢
              by_cases hnt : 0 < nt
              · by_cases hct : ct1 < 12
                · obtain ⟨hk3, hk4⟩ := HR.out hnt hct
                  rw [hk3] at HA2
                  have HK4 := hide hk4
                  clear hk3 hk4 HR HZ
                  go_wp2_with fail
                  refine HA2.out.mono ?_
                  rintro e w9 ⟨rfl, hT9⟩
                  have HT9 := hide (HTq.out.trans hT9)
                  clear hT9 HA2 ct
                  go_wp2_with fail
                  go_roundw
                  case rel => exact ⟨t, by omega, by rw [HK4.out]; go_num, by rw [HK4.out]; go_num, by go_num, HT9.out⟩
                  case measure => simp [intOf]
                · have HK4 := hide (HZ.out (.inr hct))
                  clear HR HZ HA2
                  go_wp2_with fail
                  go_roundw
                  case rel => exact ⟨t, by omega, by rw [HK4.out], by rw [HK4.out], by go_num, HTq.out⟩
                  case measure => simp [intOf]
              · have HK4 := hide (HZ.out (.inl hnt))
                clear HR HZ HA2
                go_wp2_with fail
                go_roundw
                case rel => exact ⟨t, by omega, by rw [HK4.out], by rw [HK4.out], by go_num, HTq.out⟩
                case measure => simp [intOf]
      · go_wp2_with fail
        go_ret
        exact ⟨rfl, HT.out⟩
    · go_wp2_with fail
      go_ret
      exact ⟨rfl, HT.out⟩

end Go.Proofs.Ytbkphdemmnjhcaa.Wi

/-
  How texts and calls read as arguments; the chapter's example; two gates side by side.
-/
import Derived.Test.YtgljldojmpeegaaGFns2
import Derived.ProofKit
import Derived.SizedLaws
import Derived.SliceStrings
import Derived.Deep.Strs
import Derived.Deep.Slices
namespace Go.Proofs.Ytgljldojmpeegaa.Ga
open Go.ChangeShapes Go.WideShapes Go.ChangeAt Go.RowKit
open Go.Deep

/-- Texts that a slice leads to. -/
def StrsAt (w : World) (a : Option Addr) (l : List ByteArray) : Prop := l = [] ∨ ∃ b off, a = some ⟨b, off, none⟩ ∧ ∀ i, i < l.length → w.cell? ⟨b, off + i, none⟩ = some (.string (l.getD i empty))
theorem StrsAt.at {w : World} {a : Option Addr} {l : List ByteArray} (h : StrsAt w a l) {i : Nat} (hi : i < l.length) : ∃ b off, a = some ⟨b, off, none⟩ ∧ w.cell? ⟨b, off + i, none⟩ = some (.string (l.getD i empty)) := by
  rcases h with rfl | ⟨b, off, rfl, h⟩
  · simp at hi
  · exact ⟨b, off, rfl, h i hi⟩
theorem StrsAt.turn0 {w w' : World} {a : Option Addr} {l : List ByteArray} (h : StrsAt w a l) (hT : Turn [] w w') : StrsAt w' a l := by
  rcases h with rfl | ⟨b, off, rfl, h⟩
  · exact .inl rfl
  · exact .inr ⟨b, off, rfl, fun i hi => (hT.cell (p := ⟨b, off + i, none⟩) (lt_of_cell (h i hi)) (by simp)).trans (h i hi)⟩
/-- No text is too long. -/
def Sized (l : List ByteArray) : Prop := ∀ i, i < l.length → (l.getD i empty).size ≤ 9223372036854775807

/-- The texts that came in, out of how they are read. -/
theorem strs_of {H : Type} {enc : TypeId × Value → H} {W : World} {fuel : Nat} {a : Option Addr} {n c : Nat} {y : DataW H × List MemPlace} (h : DataW.trod enc Try.prog W 0 (fun _ => true) true fuel 26 [.slice a n c] = some y) :
    ∃ l : List ByteArray, n = l.length ∧ StrsAt W a l ∧ Sized l ∧ l.length ≤ 9223372036854775807 := by
  rcases open_strings Try.underlying26 Try.underlying9 (by kernel_rfl) h with ⟨hcs, _⟩ | ⟨x, l, c', zs, hcs, _, hl, hm, hz, hx, hcell, hwz⟩
  · have e := List.singleton_inj.1 hcs
    injection e with e1 e2 e3
    subst e1 e2 e3
    exact ⟨[], rfl, .inl rfl, fun i hi => by simp at hi, by simp⟩
  · have e := List.singleton_inj.1 hcs
    injection e with e1 e2 e3
    subst e1 e2 e3
    have hz' : zs.length = c := by simpa using hz
    unfold maxLen at hm hwz
    have hsz : Sized (zs.take n) := fun i hi => by
      rw [List.length_take] at hi
      rw [List.getD_eq_getElem?_getD, List.getElem?_take, if_pos (by omega), List.getElem?_eq_getElem (by omega : i < zs.length)]
      exact hwz _ (List.getElem_mem _)
    refine ⟨zs.take n, by rw [List.length_take]; omega, ?_, hsz, by rw [List.length_take]; omega⟩
    by_cases hn : n = 0
    · subst hn; exact .inl (by simp)
    have hc0 := hcell 0 (by omega)
    rw [show x.add 0 = x from rfl] at hc0
    obtain ⟨_, _, _, _, hsp⟩ := World.shape?_of_cell? hc0
    obtain ⟨b, off, sp⟩ := x
    obtain rfl : sp = none := hsp
    refine .inr ⟨b, off, rfl, fun i hi => ?_⟩
    rw [List.length_take] at hi
    have hc := hcell i (by omega)
    rw [Addr.add_mid] at hc
    rw [hc, List.getD_eq_getElem?_getD, List.getD_eq_getElem?_getD, List.getElem?_take, if_pos (by omega), List.getElem?_eq_getElem (by omega : i < zs.length)]
    rfl

/-- A call: whether it adds, its key, its name. -/
structure Cl where
  ad : Bool
  key : ByteArray
  name : ByteArray
def Cl.nil : Cl := ⟨false, empty, empty⟩
def clC (q : Cl) : List Value := [.bool q.ad, .string q.key, .string q.name]
/-- Its cells in memory. -/
structure ClIn (w : World) (b o : Nat) (q : Cl) : Prop where
  c0 : w.cell? ⟨b, o, none⟩ = some (.bool q.ad)
  c1 : w.cell? ⟨b, o + 1, none⟩ = some (.string q.key)
  c2 : w.cell? ⟨b, o + 2, none⟩ = some (.string q.name)
theorem ClIn.turn0 {w w' : World} {b o : Nat} {q : Cl} (h : ClIn w b o q) (hT : Turn [] w w') : ClIn w' b o q :=
  have hb := hT.block b (lt_of_cell h.c0) (by simp)
  ⟨(World.cell?_of_block hb).trans h.c0, (World.cell?_of_block hb).trans h.c1, (World.cell?_of_block hb).trans h.c2⟩
/-- Calls that a slice leads to. -/
def ClsAt (w : World) (a : Option Addr) (l : List Cl) : Prop := l = [] ∨ ∃ b off, a = some ⟨b, off, none⟩ ∧ ∀ i, i < l.length → ClIn w b (off + i * 3) (l.getD i Cl.nil)
theorem ClsAt.turn0 {w w' : World} {a : Option Addr} {l : List Cl} (h : ClsAt w a l) (hT : Turn [] w w') : ClsAt w' a l := by
  rcases h with rfl | ⟨b, off, rfl, h⟩
  · exact .inl rfl
  · exact .inr ⟨b, off, rfl, fun i hi => (h i hi).turn0 hT⟩
theorem ClsAt.at {w : World} {a : Option Addr} {l : List Cl} (h : ClsAt w a l) {i : Nat} (hi : i < l.length) : ∃ b off, a = some ⟨b, off, none⟩ ∧ ClIn w b (off + i * 3) (l.getD i Cl.nil) := by
  rcases h with rfl | ⟨b, off, rfl, h⟩
  · simp at hi
  · exact ⟨b, off, rfl, h i hi⟩

theorem cells_bool : Try.prog.cellsOf 4 = 1 := by kernel_rfl
theorem cells_string : Try.prog.cellsOf 9 = 1 := by kernel_rfl
theorem cells_call : Try.prog.cellsOf 28 = 3 := by kernel_rfl

set_option maxRecDepth 100000 in
/-- The values of a call. -/
theorem open_call {H : Type} {enc : TypeId × Value → H} {W : World} {fuel : Nat} {cs : List Value} {y : DataW H × List MemPlace} (h : DataW.trod enc Try.prog W 0 (fun _ => true) true fuel 28 cs = some y) :
    ∃ q : Cl, cs = clC q ∧ y.1 = .agg [.lit (.bool q.ad), .lit (.string q.key.data.toList), .lit (.string q.name.data.toList)] := by
  obtain ⟨xs, m, _, hy, hl, hlen, hf⟩ := DataW.trod_struct Try.underlying28 h
  rw [cells_call] at hl
  obtain ⟨c0, c1, c2, rfl⟩ : ∃ c0 c1 c2, cs = [c0, c1, c2] := by
    match cs, hl with
    | [c0, c1, c2], _ => exact ⟨c0, c1, c2, rfl⟩
  have hg : ∀ i (hi : i < xs.length), xs[i]? = some xs[i] := fun i hi => List.getElem?_eq_getElem hi
  have hn : xs.length = 3 := hlen
  obtain ⟨x0, e0, g0⟩ := DataW.trod_bool Try.underlying4 ((hf 0 _ rfl).trans (hg 0 (by omega)))
  obtain ⟨x1, e1, g1, _⟩ := DataW.trod_string Try.underlying9 ((hf 1 _ rfl).trans (hg 1 (by omega)))
  obtain ⟨x2, e2, g2, _⟩ := DataW.trod_string Try.underlying9 ((hf 2 _ rfl).trans (hg 2 (by omega)))
  simp [cells_bool, cells_string] at e0 e1 e2
  subst e0 e1 e2
  refine ⟨⟨x0, x1, x2⟩, rfl, ?_⟩
  rw [hy]
  obtain ⟨z0, z1, z2, rfl⟩ : ∃ z0 z1 z2, xs = [z0, z1, z2] := by
    match xs, hn with
    | [z0, z1, z2], _ => exact ⟨z0, z1, z2, rfl⟩
  simp only [List.getElem_cons_zero, List.getElem_cons_succ] at g0 g1 g2
  simp [g0, g1, g2]

theorem weights_all_mem {H : Type} {P : Program} {e : TypeId} : ∀ {ds : List (DataW H)} {d : DataW H}, d ∈ ds → ∀ n ∈ d.weights P e, n ∈ DataW.weightsAll P e ds
  | d0 :: ds, d, hd, n, hn => by
    simp only [DataW.weightsAll, List.mem_append]
    rcases List.mem_cons.1 hd with rfl | hd
    · exact .inl hn
    · exact .inr (weights_all_mem hd n hn)

/-- No text of a call is too long. -/
def SizedC (l : List Cl) : Prop := ∀ i, i < l.length → (l.getD i Cl.nil).key.size ≤ 140737488351232 ∧ (l.getD i Cl.nil).name.size ≤ 140737488351232

/-- The calls that came in, out of how they are read. -/
theorem cls_of {H : Type} {enc : TypeId × Value → H} {W : World} {fuel : Nat} {a : Option Addr} {n c : Nat} {y : DataW H × List MemPlace} (h : DataW.trod enc Try.prog W 0 (fun _ => true) true fuel 22 [.slice a n c] = some y) (hs : ∀ x ∈ y.1.weights Try.prog 22, x ≤ reachBytes) :
    ∃ l : List Cl, n = l.length ∧ ClsAt W a l ∧ SizedC l ∧ l.length ≤ 9223372036854775807 := by
  rcases open_slice Try.underlying22 h with ⟨hcs, _⟩ | ⟨x, len, cap, m, nf, D, Pl, hcs, _, hl, hm, hmm, rfl, hx⟩
  · have e := List.singleton_inj.1 hcs
    injection e with e1 e2 e3
    subst e1 e2 e3
    exact ⟨[], rfl, .inl rfl, fun i hi => by simp at hi, by simp⟩
  · have e := List.singleton_inj.1 hcs
    injection e with e1 e2 e3
    subst e1 e2 e3
    simp only [if_true] at hmm
    subst hmm
    have hmx : n ≤ 9223372036854775807 := by unfold maxLen at hm; omega
    by_cases hn : n = 0
    · subst hn
      exact ⟨[], rfl, .inl rfl, fun i hi => by simp at hi, by simp⟩
    have hone : ∀ k, k < n → ∃ q : Cl, (∀ j, j < 3 → W.cell? ((x.add (k * 3)).add j) = (clC q)[j]?) ∧ q.key.size ≤ 140737488351232 ∧ q.name.size ≤ 140737488351232 := fun k hk => by
      obtain ⟨cs', h1, h2⟩ := hx k (by omega)
      rw [cells_call] at h1
      obtain ⟨_, hlen, hcell⟩ := World.cells?_some h1
      obtain ⟨q, rfl, hD⟩ := open_call h2
      simp only at hD
      have hin : ∀ z ∈ (D k).weights Try.prog 28, z ≤ reachBytes := fun z hz => hs z (by
        simp only [DataW.weights, Try.underlying22, List.mem_cons, List.mem_append]
        exact .inr (.inl (weights_all_mem (List.mem_map.2 ⟨k, List.mem_range.2 hk, rfl⟩) z hz)))
      rw [hD] at hin
      simp only [DataW.weights, Try.underlying28] at hin
      have z1 := hin q.key.data.toList.length (DataW.weights_mem_each (j := 1) (t := 9) (d := .lit (.string q.key.data.toList)) rfl rfl _ (by simp [DataW.weights]))
      have z2 := hin q.name.data.toList.length (DataW.weights_mem_each (j := 2) (t := 9) (d := .lit (.string q.name.data.toList)) rfl rfl _ (by simp [DataW.weights]))
      rw [← Lib.size_eq] at z1 z2
      unfold reachBytes at z1 z2
      exact ⟨q, fun j hj => hcell j hj, by omega, by omega⟩
    obtain ⟨u0, e00, _⟩ := hone 0 (by omega)
    have e00' : W.cell? x = some (.bool u0.ad) := e00 0 (by omega)
    obtain ⟨_, _, _, _, hsp⟩ := World.shape?_of_cell? e00'
    obtain ⟨b, off, sp⟩ := x
    obtain rfl : sp = none := hsp
    have hall : ∀ k, ∃ q : Cl, k < n → ClIn W b (off + k * 3) q ∧ q.key.size ≤ 140737488351232 ∧ q.name.size ≤ 140737488351232 := fun k => by
      by_cases hk : k < n
      · obtain ⟨q, hu, z1, z2⟩ := hone k hk
        simp only [Addr.add_mid] at hu
        exact ⟨q, fun _ => ⟨⟨hu 0 (by omega), hu 1 (by omega), hu 2 (by omega)⟩, z1, z2⟩⟩
      · exact ⟨Cl.nil, fun h => absurd h hk⟩
    obtain ⟨f, hf⟩ := Classical.skolem.1 hall
    have hget : ∀ i, i < n → ((List.range n).map f).getD i Cl.nil = f i := fun i hi => by
      rw [List.getD_eq_getElem?_getD]
      simp [hi]
    refine ⟨(List.range n).map f, by simp, .inr ⟨b, off, rfl, fun i hi => ?_⟩, fun i hi => ?_, by simp; exact hmx⟩
    · simp only [List.length_map, List.length_range] at hi
      rw [hget i hi]
      exact (hf i hi).1
    · simp only [List.length_map, List.length_range] at hi
      rw [hget i hi]
      exact (hf i hi).2

def root : ByteArray := ⟨#[114, 111, 111, 116]⟩
theorem nm_root : nm root = true := by kernel_rfl
theorem nm_a : nm ⟨#[97]⟩ = true := by kernel_rfl
theorem size_root : root.size = 4 := rfl

/-- A gate that the call made. -/
def Fresh (W : World) (g : Nat) (mo : Option Nat) : Prop := W.heap.size ≤ g ∧ ∀ m, mo = some m → W.heap.size ≤ m
theorem Fresh.went {W w : World} {g : Nat} {mo mo' : Option Nat} (h : Fresh W g mo) (hT : Turn [] W w) (k : Went w mo mo') : Fresh W g mo' := by
  refine ⟨h.1, fun m hm => ?_⟩
  rcases k with e | ⟨_, m', e, hm'⟩
  · exact h.2 m (e ▸ hm)
  · rw [hm] at e
    injection e with e
    have := hT.size
    omega
theorem Fresh.turn {W w w' : World} {g : Nat} {mo : Option Nat} (h : Fresh W g mo) (hT : Turn [] W w) (k : Turn (g :: mo.toList) w w') : Turn [] W w' :=
  hT.then k fun x hx => .inr (by
    rw [List.mem_cons, Option.mem_toList] at hx
    rcases hx with rfl | hx
    · exact h.1
    · exact h.2 x hx)
theorem Fresh.turn1 {W w w' : World} {g : Nat} {mo : Option Nat} (h : Fresh W g mo) (hT : Turn [] W w) (k : Turn [g] w w') : Turn [] W w' := h.turn hT (k.mono (by simp))
theorem new_own (k : ByteArray) : (Gt.new k).own k = some (empty, true) := by
  show (if k = k then some (empty, true) else none) = _
  rw [if_pos rfl]
theorem new_none {a k : ByteArray} (h : k ≠ a) : (Gt.new a).own k = none := by
  show (if k = a then some (empty, true) else none) = _
  rw [if_neg h]

set_option maxRecDepth 100000 in
set_option maxHeartbeats 2000000 in
theorem known_any (w : World) : Calls Try.prog 5 #[] w fun e w' => e = .returned (.bool true) ∧ Turn [] w w' := by
  have H1 : Hid ((Gt.new root).whose root = (empty, true) ∧ (Gt.new root).whoErr root = 0 ∧ ((Gt.new root).ask root).addErr root ⟨#[97]⟩ = 7) := by
    have h := new_own root
    have h' : ((Gt.new root).ask root).own root = some (empty, true) := h
    refine ⟨?_, ?_, ?_⟩
    · unfold Gt.whose; rw [h]; rfl
    · unfold Gt.whoErr; rw [h]; rfl
    · unfold Gt.addErr; rw [nm_root, nm_a, h']; rfl
  go_enter Try.func5, Try.ntmps5
  go_wp2_with fail
  refine (new_any root (by rw [size_root]; omega) w).mono ?_
  rintro e w1 ⟨g, rfl, hg, hG1, hT1⟩
  have HF1 : Hid (Fresh w g none) := ⟨hg, fun m hm => by cases hm⟩
  have HT1 := hide hT1
  have HG1 := hide hG1
  clear hT1 hG1 hg
  go_wp2_with fail
  refine (who_any (key := root) (by rw [size_root]; omega) (by show 0 ≤ 100000; omega) (by show 0 ≤ 100000; omega) HG1.out).mono ?_
  rintro e w2 ⟨mo2, rfl, hG2, hW2, hT2⟩
  have HG2 := hide hG2
  have HT2 := hide (HF1.out.turn1 HT1.out hT2)
  have HF2 := hide (HF1.out.went HT1.out hW2)
  rw [H1.out.1, H1.out.2.1]
  clear hG2 hW2 hT2 HG1 HT1 HF1
  go_wp2_with fail
  refine (add_any (key := root) (name := ⟨#[97]⟩) (by rw [size_root]; omega) (by show 1 ≤ 9223372036854775807; omega) (by show 0 ≤ 100000; omega) HG2.out).mono ?_
  rintro e w3 ⟨mo3, rfl, hG3, hW3, hT3⟩
  rw [H1.out.2.2]
  have HT3 := hide (HF2.out.turn HT2.out hT3)
  clear hG3 hW3 hT3
  go_wp2_with fail
  go_ret
  exact ⟨rfl, HT3.out⟩

end Go.Proofs.Ytgljldojmpeegaa.Ga

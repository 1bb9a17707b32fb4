/-
  The calls that came in, out of how they are read.
-/
import Derived.Test.YtjbjcjcahkfgbaaDoorPlCode
import Derived.ProofKit
import Derived.OpenShut
import Derived.SizedLaws
import Derived.Deep.Strs
namespace Go.Proofs.YtjbjcjcahkfgbaaDoor
open Go.ChangeShapes Go.WideShapes Go.ChangeAt Go.RowKit
open Go.Deep

theorem bytesOf5 : Tryd.prog.bytesOf 5 = 1 := by kernel_rfl
theorem cells36 : Tryd.prog.cellsOf 36 = 3 := by kernel_rfl

theorem weights_all_mem {H : Type} {P : Program} {e : TypeId} : ∀ {ds : List (DataW H)} {d : DataW H}, d ∈ ds → ∀ n ∈ d.weights P e, n ∈ DataW.weightsAll P e ds
  | d0 :: ds, d, hd, n, hn => by
    simp only [DataW.weightsAll, List.mem_append]
    rcases List.mem_cons.1 hd with rfl | hd
    · exact .inl hn
    · exact .inr (weights_all_mem hd n hn)

/-- The bytes of a slice, out of how it is read. -/
theorem bytes_of {H : Type} {enc : TypeId × Value → H} {W : World} {fuel : Nat} {v : Value} {y : DataW H × List MemPlace} (h : DataW.trod enc Tryd.prog W 0 (fun _ => true) true fuel 34 [v] = some y) (hs : ∀ x ∈ y.1.weights Tryd.prog 34, x ≤ reachBytes) :
    ∃ a c, ∃ l : List Nat, v = .slice a l.length c ∧ BytesAt W a l ∧ (a = none → c = 0) ∧ (∀ x ∈ l, x < 256) ∧ l.length ≤ 140737488351232 := by
  rcases open_ints Tryd.underlying34 Tryd.underlying5 (by kernel_rfl) h with ⟨hcs, _⟩ | ⟨x, l, c, zs, hcs, _, hl, hm, hz, hx, hcell, hwz⟩
  · obtain rfl := List.singleton_inj.1 hcs
    exact ⟨none, 0, [], rfl, .inl rfl, fun _ => rfl, by simp, by simp⟩
  · obtain rfl := List.singleton_inj.1 hcs
    have hz' : zs.length = c := by simpa using hz
    have hd : y.1 = .slice (lits .u8 (zs.take l)) (lits .u8 (zs.drop l)) := congrArg Prod.fst hx
    have hw := hs ((List.length (lits (H := H) .u8 (zs.take l)) + List.length (lits (H := H) .u8 (zs.drop l))) * Tryd.prog.bytesOf 5) (by rw [hd]; simp [DataW.weights, Tryd.underlying34])
    rw [bytesOf5] at hw
    simp only [lits, List.length_map, List.length_take, List.length_drop, reachBytes] at hw
    obtain ⟨l', h1, h2, h3, h4, h5⟩ := row_bytes (w := W) (a := some x) (len := l) (cap := c) (zs := zs) (.inr ⟨x, rfl, hl, hm, hz', hcell, hwz⟩)
    exact ⟨some x, c, l', by rw [h1], h5, fun e => (by cases e), h4, by omega⟩

set_option maxRecDepth 100000 in
theorem calls_of {H : Type} {enc : TypeId × Value → H} {W : World} {fuel : Nat} {a : Option Addr} {n c : Nat} {y : DataW H × List MemPlace} (h : DataW.trod enc Tryd.prog W 0 (fun _ => true) true fuel 22 [.slice a n c] = some y) (hs : ∀ x ∈ y.1.weights Tryd.prog 22, x ≤ reachBytes) :
    CallsAt W a n ∧ n ≤ maxLen := by
  rcases open_slice Tryd.underlying22 h with ⟨hcs, _⟩ | ⟨x, len, cap, m, nf, D, Pl, hcs, _, hl, hm, hmm, rfl, hx⟩
  · have e := List.singleton_inj.1 hcs
    injection e with e1 e2 e3
    subst e2
    exact ⟨fun k hk => absurd hk (by omega), Nat.zero_le _⟩
  · have e := List.singleton_inj.1 hcs
    injection e with e1 e2 e3
    subst e1 e2 e3
    simp only [if_true] at hmm
    subst hmm
    refine ⟨fun k hk => ?_, Nat.le_trans hl hm⟩
    have hsp0 : x.spot = none := by
      obtain ⟨cs0, h01, _⟩ := hx 0 (by omega)
      rw [cells36] at h01
      obtain ⟨_, hlen0, hcell0⟩ := World.cells?_some h01
      match cs0, hlen0 with
      | [u0, _, _], _ =>
        have e00 : W.cell? x = some u0 := hcell0 0 (by omega)
        obtain ⟨_, _, _, _, hsp⟩ := World.shape?_of_cell? e00
        exact hsp
    obtain ⟨cs', h1, h2⟩ := hx k (by omega)
    rw [cells36] at h1
    obtain ⟨_, hlen, hcell⟩ := World.cells?_some h1
    obtain ⟨y0, y1, y2, nn, hy, _, g0, g1, g2⟩ := trod_struct3 Tryd.underlying36 h2
    match cs', hlen with
    | [v0, v1, v2], _ =>
      replace g0 : DataW.trod enc Tryd.prog W 0 (fun _ => true) true nn 3 [v0] = some y0 := g0
      replace g1 : DataW.trod enc Tryd.prog W 0 (fun _ => true) true nn 3 [v1] = some y1 := g1
      replace g2 : DataW.trod enc Tryd.prog W 0 (fun _ => true) true nn 34 [v2] = some y2 := g2
      have e0 := hcell 0 (by omega)
      have e1 := hcell 1 (by omega)
      have e2 := hcell 2 (by omega)
      rw [add_add] at e0 e1 e2
      replace e0 : W.cell? (x.add (k * 3 + 0)) = some v0 := e0
      replace e1 : W.cell? (x.add (k * 3 + 1)) = some v1 := e1
      replace e2 : W.cell? (x.add (k * 3 + 2)) = some v2 := e2
      obtain ⟨b, off, sp⟩ := x
      obtain rfl : sp = none := hsp0
      rw [add_spot] at e0 e1 e2
      obtain ⟨kd, hk0, _, _⟩ := DataW.trod_int Tryd.underlying3 g0
      obtain ⟨N, hk1, _, _⟩ := DataW.trod_int Tryd.underlying3 g1
      obtain rfl := List.singleton_inj.1 hk0
      obtain rfl := List.singleton_inj.1 hk1
      have hD : D k = .agg [y0.1, y1.1, y2.1] := congrArg Prod.fst hy
      obtain ⟨ak, ck, lk, rfl, hB, hnil, hby, hlk⟩ := bytes_of g2 (fun z hz => hs z (by
        have h36 : z ∈ (D k).weights Tryd.prog 36 := by
          rw [hD]
          simp only [DataW.weights, Tryd.underlying36]
          exact DataW.weights_mem_each (j := 2) (t := 34) (d := y2.1) rfl rfl z hz
        simp only [DataW.weights, Tryd.underlying22, List.mem_cons, List.mem_append]
        exact .inr (.inl (weights_all_mem (List.mem_map.2 ⟨k, List.mem_range.2 hk, rfl⟩) z h36))))
      exact ⟨b, off, kd, N, ak, ck, lk, rfl, lt_of_cell e0, e0, e1, e2, hB, hnil, hby, hlk⟩

end Go.Proofs.YtjbjcjcahkfgbaaDoor

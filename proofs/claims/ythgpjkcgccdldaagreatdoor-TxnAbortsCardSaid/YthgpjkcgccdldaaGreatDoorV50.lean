/-
  How a group of pairs reads as an argument.
-/
import Derived.Test.YthgpjkcgccdldaaGreatDoorV49
import Derived.Test.YthgpjkcgccdldaaGreatDoorV45

namespace Go.Proofs.YthgpjkcgccdldaaGreatDoor
open Go.ChangeShapes Go.WideShapes Go.ChangeAt Go.RowKit
open Go.Deep

theorem cells_kv : Tryz.prog.cellsOf 55 = 2 := by kernel_rfl
theorem cells_group : Tryz.prog.cellsOf 65 = 2 := by kernel_rfl
theorem cells_kvs : Tryz.prog.cellsOf 31 = 1 := by kernel_rfl
theorem cells_strs : Tryz.prog.cellsOf 63 = 1 := by kernel_rfl
theorem cells_str : Tryz.prog.cellsOf 9 = 1 := by kernel_rfl
theorem bytes_kv : Tryz.prog.bytesOf 55 = 32 := by kernel_rfl

theorem weights_all_mem {H : Type} {P : Program} {e : TypeId} : ∀ {ds : List (DataW H)} {d : DataW H}, d ∈ ds → ∀ n ∈ d.weights P e, n ∈ DataW.weightsAll P e ds
  | d0 :: ds, d, hd, n, hn => by
    simp only [DataW.weightsAll, List.mem_append]
    rcases List.mem_cons.1 hd with rfl | hd
    · exact .inl hn
    · exact .inr (weights_all_mem hd n hn)

set_option maxRecDepth 100000 in
/-- The values of a pair. -/
theorem open_kv {H : Type} {enc : TypeId × Value → H} {W : World} {fuel : Nat} {cs : List Value} {y : DataW H × List MemPlace} (h : DataW.trod enc Tryz.prog W 0 (fun _ => true) true fuel 55 cs = some y) :
    ∃ k v : ByteArray, cs = [.string k, .string v] ∧ y.1 = .agg [.lit (.string k.data.toList), .lit (.string v.data.toList)] := by
  obtain ⟨xs, m, _, hy, hl, hlen, hf⟩ := DataW.trod_struct Tryz.underlying55 h
  rw [cells_kv] at hl
  obtain ⟨c0, c1, rfl⟩ : ∃ c0 c1, cs = [c0, c1] := by
    match cs, hl with
    | [c0, c1], _ => exact ⟨c0, c1, rfl⟩
  have hg : ∀ i (hi : i < xs.length), xs[i]? = some xs[i] := fun i hi => List.getElem?_eq_getElem hi
  have hn : xs.length = 2 := hlen
  obtain ⟨x0, e0, g0, _⟩ := DataW.trod_string Tryz.underlying9 ((hf 0 _ rfl).trans (hg 0 (by omega)))
  obtain ⟨x1, e1, g1, _⟩ := DataW.trod_string Tryz.underlying9 ((hf 1 _ rfl).trans (hg 1 (by omega)))
  simp [cells_str] at e0 e1
  subst e0 e1
  refine ⟨x0, x1, rfl, ?_⟩
  rw [hy]
  obtain ⟨z0, z1, rfl⟩ : ∃ z0 z1, xs = [z0, z1] := by
    match xs, hn with
    | [z0, z1], _ => exact ⟨z0, z1, rfl⟩
  simp only [List.getElem_cons_zero, List.getElem_cons_succ] at g0 g1
  simp [g0, g1]

/-- The pairs that came in. -/
theorem pairs_of {H : Type} {enc : TypeId × Value → H} {W : World} {fuel : Nat} {v : Value} {y : DataW H × List MemPlace} (h : DataW.trod enc Tryz.prog W 0 (fun _ => true) true fuel 31 [v] = some y) (hs : ∀ x ∈ y.1.weights Tryz.prog 31, x ≤ reachBytes) :
    ∃ (a : Option Addr) (c : Nat) (l : List Kv), v = .slice a l.length c ∧ KVsAt W a l ∧ (∀ x ∈ l, x.1.size ≤ 140737488351232 ∧ x.2.size ≤ 140737488351232) ∧ l.length ≤ 140737488351232 := by
  rcases open_slice Tryz.underlying31 h with ⟨hcs, _⟩ | ⟨x, n, cap, m, nf, D, Pl, hcs, _, hl, hm, hmm, rfl, hx⟩
  · have e := List.singleton_inj.1 hcs
    exact ⟨_, _, [], e, .inl rfl, by simp, by simp⟩
  · have e := List.singleton_inj.1 hcs
    subst e
    simp only [if_true] at hmm
    subst hmm
    have hw := hs ((((List.range n).map D).length + ((List.range (m - n)).map fun j => D (n + j)).length) * Tryz.prog.bytesOf 55) (by
      simp only [DataW.weights, Tryz.underlying31, List.mem_cons]
      exact .inl trivial)
    have hnl : n ≤ 140737488351232 := by
      rw [bytes_kv] at hw
      simp only [List.length_map, List.length_range] at hw
      unfold reachBytes at hw
      omega
    by_cases hn : n = 0
    · subst hn
      exact ⟨_, _, [], rfl, .inl rfl, by simp, by simp⟩
    have hone : ∀ k, k < n → ∃ q : Kv, W.cell? ((x.add (k * 2)).add 0) = some (.string q.1) ∧ W.cell? ((x.add (k * 2)).add 1) = some (.string q.2) ∧ q.1.size ≤ 140737488351232 ∧ q.2.size ≤ 140737488351232 := fun k hk => by
      obtain ⟨cs', h1, h2⟩ := hx k (by omega)
      rw [cells_kv] at h1
      obtain ⟨_, hlen, hcell⟩ := World.cells?_some h1
      obtain ⟨k0, v0, rfl, hD⟩ := open_kv h2
      simp only at hD
      have hin : ∀ z ∈ (D k).weights Tryz.prog 55, z ≤ reachBytes := fun z hz => hs z (by
        simp only [DataW.weights, Tryz.underlying31, List.mem_cons, List.mem_append]
        exact .inr (.inl (weights_all_mem (List.mem_map.2 ⟨k, List.mem_range.2 hk, rfl⟩) z hz)))
      rw [hD] at hin
      simp only [DataW.weights, Tryz.underlying55] at hin
      have z1 := hin k0.data.toList.length (DataW.weights_mem_each (j := 0) (t := 9) (d := .lit (.string k0.data.toList)) rfl rfl _ (by simp [DataW.weights]))
      have z2 := hin v0.data.toList.length (DataW.weights_mem_each (j := 1) (t := 9) (d := .lit (.string v0.data.toList)) rfl rfl _ (by simp [DataW.weights]))
      rw [← Lib.size_eq] at z1 z2
      unfold reachBytes at z1 z2
      have c0 := hcell 0 (by omega)
      have c1 := hcell 1 (by omega)
      exact ⟨(k0, v0), c0, c1, z1, z2⟩
    obtain ⟨u0, e00, _⟩ := hone 0 (by omega)
    obtain ⟨_, _, _, _, hsp⟩ := World.shape?_of_cell? e00
    obtain ⟨b, off, sp⟩ := x
    obtain rfl : sp = none := hsp
    have hall : ∀ k, ∃ q : Kv, k < n → W.cell? ⟨b, off + k * 2, none⟩ = some (.string q.1) ∧ W.cell? ⟨b, off + k * 2 + 1, none⟩ = some (.string q.2) ∧ q.1.size ≤ 140737488351232 ∧ q.2.size ≤ 140737488351232 := fun k => by
      by_cases hk : k < n
      · obtain ⟨q, h1, h2, h3⟩ := hone k hk
        simp only [Addr.add_mid] at h1 h2
        exact ⟨q, fun _ => ⟨h1, h2, h3⟩⟩
      · exact ⟨(ByteArray.empty, ByteArray.empty), fun h => absurd h hk⟩
    obtain ⟨f, hf⟩ := Classical.skolem.1 hall
    refine ⟨some ⟨b, off, none⟩, m, (List.range n).map f, by simp, .inr ⟨b, off, rfl, fun i hi => ?_⟩, fun q hq => ?_, by simp; exact hnl⟩
    · have hi' : i < n := by simpa using hi
      simp only [List.getElem_map, List.getElem_range]
      exact ⟨(hf i hi').1, (hf i hi').2.1⟩
    · obtain ⟨i, hi, rfl⟩ := List.mem_map.1 hq
      exact (hf i (List.mem_range.1 hi)).2.2

set_option maxRecDepth 100000 in
/-- The group that came in. -/
theorem group_of {H : Type} {enc : TypeId × Value → H} {W : World} {fuel : Nat} {cs : List Value} {y : DataW H × List MemPlace} (h : DataW.trod enc Tryz.prog W 0 (fun _ => true) true fuel 65 cs = some y) (hs : ∀ x ∈ y.1.weights Tryz.prog 65, x ≤ reachBytes) :
    ∃ (a : Option Addr) (c : Nat) (l : List Kv) (gd : Option Addr) (gn gdc : Nat), cs = [.slice a l.length c, .slice gd gn gdc] ∧ KVsAt W a l ∧ (∀ x ∈ l, x.1.size ≤ 140737488351232 ∧ x.2.size ≤ 140737488351232) ∧ l.length ≤ 140737488351232 := by
  obtain ⟨xs, m, _, hy, hl, hlen, hf⟩ := DataW.trod_struct Tryz.underlying65 h
  rw [cells_group] at hl
  obtain ⟨c0, c1, rfl⟩ : ∃ c0 c1, cs = [c0, c1] := by
    match cs, hl with
    | [c0, c1], _ => exact ⟨c0, c1, rfl⟩
  have hg : ∀ i (hi : i < xs.length), xs[i]? = some xs[i] := fun i hi => List.getElem?_eq_getElem hi
  have hn : xs.length = 2 := hlen
  have h0 := (hf 0 _ rfl).trans (hg 0 (by omega))
  have h1 := (hf 1 _ rfl).trans (hg 1 (by omega))
  simp [cells_kvs, cells_strs] at h0 h1
  have hw : ∀ z ∈ (xs[0].1).weights Tryz.prog 31, z ≤ reachBytes := fun z hz => hs z (by
    rw [hy]
    simp only [DataW.weights, Tryz.underlying65]
    exact DataW.weights_mem_each (j := 0) (t := 31) (d := xs[0].1) rfl (by rw [List.getElem?_map, hg 0 (by omega)]; rfl) z hz)
  obtain ⟨a, c, l, rfl, hK, hz, hln⟩ := pairs_of h0 hw
  obtain ⟨gd, gn, gdc, rfl⟩ : ∃ (gd : Option Addr) (gn gdc : Nat), c1 = .slice gd gn gdc := by
    rcases open_slice Tryz.underlying63 h1 with ⟨hcs, _⟩ | ⟨x, n, cap, _, _, _, _, hcs, _⟩
    · exact ⟨_, _, _, List.singleton_inj.1 hcs⟩
    · exact ⟨_, _, _, List.singleton_inj.1 hcs⟩
  exact ⟨a, c, l, gd, gn, gdc, rfl, hK, hz, hln⟩

/-- The law, of groups as they came in. -/
theorem aborts_groups (ga : Option Addr) (gc : Nat) (gl : List Kv) (gd : Option Addr) (gn gdc : Nat) (ha : Option Addr) (hc : Nat) (hl : List Kv) (hd : Option Addr) (hn hdc : Nat) (W : World) (hTab : Tab W) (hg : KVsAt W ga gl ∧ (∀ x ∈ gl, x.1.size ≤ 140737488351232 ∧ x.2.size ≤ 140737488351232) ∧ gl.length ≤ 140737488351232) (hh : KVsAt W ha hl ∧ (∀ x ∈ hl, x.1.size ≤ 140737488351232 ∧ x.2.size ≤ 140737488351232) ∧ hl.length ≤ 140737488351232) :
    Calls Tryz.prog 7 #[.agg #[.slice ga gl.length gc, .slice gd gn gdc], .agg #[.slice ha hl.length hc, .slice hd hn hdc]] W fun e w' => e = .returned (.bool true) ∧ Turn [] W w' :=
  aborts_any ga gc gl gd gn gdc ha hc hl hd hn hdc hg.2.2 hh.2.2 W hTab hg.1 hh.1 hg.2.1 hh.2.1

end Go.Proofs.YthgpjkcgccdldaaGreatDoor

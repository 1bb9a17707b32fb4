/-
  Read of package disk, walked.
-/
import Derived.Test.YthehkckdecckhaaGreatDoorU12
import Derived.Deep.WholeRow

namespace Go.Proofs.YthehkckdecckhaaGreatDoor
open Go.RowKit Go.Maps

/-- What Read tells. -/
def St.readRow (s : St) (i : Int) : List Nat := if s.dead = true then [] else if s.out i = true then [] else s.f i.toNat

def zcells : Array Value := (zeros.map byteCell).toArray
def bcells (l : List Nat) : Array Value := (l.map byteCell).toArray
set_option maxRecDepth 100000 in
theorem zero93c (w : World) : Sem.run Tryz.prog (zeroValue 191) w = .ok (.agg zcells) w := zero93 w
set_option maxRecDepth 100000 in
theorem info93 : (Tryz.prog.info? 191).map (·.size) = some 512 := by kernel_rfl
set_option maxRecDepth 100000 in
theorem bcells_size (l : List Nat) : (bcells l).size = l.length := by simp [bcells]
set_option maxRecDepth 100000 in
theorem bcells_one (l : List Nat) : (bcells l).all (·.oneCell') = true := all_oneCell_toArray (src_one l)

set_option maxRecDepth 100000 in
theorem look (w : World) (b m : Nat) (s : St) (hD : DiskAt w b m s) (hn : s.n ≤ 16384) (i : Nat) (hi : i < s.n) : (Instr.lookup 105 (.map (some m)) (.int .i64 (i : Nat)) false).run Tryz.prog w = .ok (.agg (bcells (s.f i))) w := by
  obtain ⟨D, q, _, hM, hat⟩ := hD.map
  obtain ⟨v, ps, hrun, hv⟩ := hM.lookup law3 Tryz.underlying105 (zero93 w) rfl (key3 (i := i) (by omega))
  rw [hat i hi] at hv
  unfold anyElem at hv
  have : v = blockVal (s.f i) := by
    have := Option.some.inj hv
    have := congrArg Prod.fst this
    exact DataW.held.inj this
  rw [hrun, this]
  rfl

set_option maxRecDepth 100000 in
set_option maxHeartbeats 400000 in
theorem read_any (b m : Nat) (s : St) (G : s.Good) (i : Int) (w : World) (hD : DiskAt w b m s) : Calls Tryz.prog 112 #[.pointer (some ⟨b, 0, none⟩), .int .i64 i] w fun e w' =>
    ∃ a n cap, e = .returned (.tuple #[.slice a n cap, .int .i64 (s.readErr i)]) ∧ (s.readRow i).length = n ∧ BytesAt w' a (s.readRow i) ∧ Turn [] w w' := by
  have hnot : ∀ (x : Bool) (w : World), (Op.unary .not (.bool x)).run Tryz.prog w = .ok (.bool (!x)) w := fun _ _ => rfl
  have h3 := hD.c3
  have h1 := hD.c1
  have HD := hide hD
  clear hD
  cases hd : s.dead with
  | true =>
    rw [hd] at h3
    have HE : Hid (s.readErr i = 12 ∧ s.readRow i = []) := by show s.readErr i = 12 ∧ s.readRow i = []; unfold St.readErr St.readRow; rw [if_pos hd, if_pos hd]; exact ⟨rfl, rfl⟩
    clear hd
    go_enter Tryz.func112, Tryz.ntmps112
    go_wp2
    go_ret2
    exact ⟨none, 0, 0, by rw [HE.out.1]; rfl, by rw [HE.out.2]; rfl, by rw [HE.out.2]; exact .inl rfl, Turn.refl _ _⟩
  | false =>
    rw [hd] at h3
    cases ho : s.out i with
    | true =>
      have HE : Hid (s.readErr i = 1 ∧ s.readRow i = []) := by show s.readErr i = 1 ∧ s.readRow i = []; simp [St.readErr, St.readRow, hd, ho]
      have HO := hide ho
      clear hd ho
      go_enter Tryz.func112, Tryz.ntmps112
      go_wp2_with fail
      refine (has_any b m s i w HD.out).mono ?_
      rintro e w1 ⟨rfl, rfl⟩
      rw [HO.out]
      go_wp2_with fail
      go_ret2
      exact ⟨none, 0, 0, by rw [HE.out.1]; rfl, by rw [HE.out.2]; rfl, by rw [HE.out.2]; exact .inl rfl, Turn.refl _ _⟩
    | false =>
      have hi : 0 ≤ i ∧ i < s.n := by
        unfold St.out at ho
        simp at ho
        omega
      obtain ⟨j, rfl⟩ := Int.eq_ofNat_of_zero_le hi.1
      have HE : Hid (s.readErr j = 0 ∧ s.readRow j = s.f j) := by show s.readErr j = 0 ∧ s.readRow j = s.f j; simp [St.readErr, St.readRow, hd, ho]
      have HO := hide ho
      have hlook := look w b m s HD.out G.n1 j (by omega)
      have hlen := G.len j
      have hz := zero93c
      have hsz : (bcells (s.f j)).size = 512 := by rw [bcells_size, hlen]
      have hst := run_storeCells_new (P := Tryz.prog) w 191 zcells (bcells (s.f j)) (by rw [bcells_size, hlen]; exact info93) (by rw [bcells_size, hlen]; show (bcells zeros).size = 512; rw [bcells_size, zeros_length]) (bcells_one _)
      have HL := hide hlen
      clear hd ho hi hlen
      go_enter Tryz.func112, Tryz.ntmps112
      go_wp2_with fail
      refine (has_any b m s j w HD.out).mono ?_
      rintro e w1 ⟨rfl, rfl⟩
      rw [HO.out]
      go_wp2_with fail
      go_ret2
      refine ⟨_, _, _, by rw [HE.out.1]; rfl, by rw [HE.out.2, HL.out], ?_, (Turn.refl _ _).alloc _⟩
      rw [HE.out.2]
      exact bytes_new _ _ _

end Go.Proofs.YthehkckdecckhaaGreatDoor

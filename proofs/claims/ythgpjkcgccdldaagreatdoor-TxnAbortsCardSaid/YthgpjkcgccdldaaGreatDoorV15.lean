/-
  Read of package disk, walked.
-/
import Derived.Test.YthgpjkcgccdldaaGreatDoorV12
import Derived.Deep.WholeRow

namespace Go.Proofs.YthgpjkcgccdldaaGreatDoor
open Go.RowKit Go.Maps

def zcells : Array Value := (zeros.map byteCell).toArray
def bcells (l : List Nat) : Array Value := (l.map byteCell).toArray
set_option maxRecDepth 100000 in
theorem zero93c (w : World) : Sem.run Tryz.prog (zeroValue 185) w = .ok (.agg zcells) w := zero93 w
set_option maxRecDepth 100000 in
theorem info93 : (Tryz.prog.info? 185).map (·.size) = some 512 := by kernel_rfl
set_option maxRecDepth 100000 in
theorem bcells_size (l : List Nat) : (bcells l).size = l.length := by simp [bcells]
set_option maxRecDepth 100000 in
theorem bcells_one (l : List Nat) : (bcells l).all (·.oneCell') = true := all_oneCell_toArray (src_one l)

set_option maxRecDepth 100000 in
theorem look (w : World) (b m : Nat) (s : St) (hD : DiskAt w b m s) (hn : s.n ≤ 16384) (i : Nat) (hi : i < s.n) : (Instr.lookup 71 (.map (some m)) (.int .i64 (i : Nat)) false).run Tryz.prog w = .ok (.agg (bcells (s.f i))) w := by
  obtain ⟨D, q, _, hM, hat⟩ := hD.map
  obtain ⟨v, ps, hrun, hv⟩ := hM.lookup law3 Tryz.underlying71 (zero93 w) rfl (key3 (i := i) (by omega))
  rw [hat i hi] at hv
  unfold anyElem at hv
  have : v = blockVal (s.f i) := by
    have := Option.some.inj hv
    have := congrArg Prod.fst this
    exact DataW.held.inj this
  rw [hrun, this]
  rfl

end Go.Proofs.YthgpjkcgccdldaaGreatDoor

/-
  A gate by itself, and in memory.
-/
import Derived.Test.YtgljldojmpeegaaGSync
import Derived.Test.YtgljldojmpeegaaGClone
import Derived.Test.YtgljldojmpeegaaGName
import Derived.Maps.OwnSet
import Derived.WideMake
import Derived.Carry
namespace Go.Proofs.Ytgljldojmpeegaa.Ga
open Go.RowKit Go.Maps

/-- A gate by itself: the admin's key, how often it was asked, and refused, how many keys were added, whose a key is. -/
structure Gt where
  admin : ByteArray
  asked : Nat
  refused : Nat
  n : Nat
  own : ByteArray → Option (ByteArray × Bool)

def empty : ByteArray := ⟨#[]⟩
def Gt.new (admin : ByteArray) : Gt := ⟨admin, 0, 0, 0, fun k => if k = admin then some (empty, true) else none⟩
def Gt.add (s : Gt) (key name : ByteArray) : Gt := { s with n := s.n + 1, own := fun k => if k = key then some (name, false) else s.own k }
def Gt.addErr (s : Gt) (key name : ByteArray) : Int := if nm key = false ∨ nm name = false then 1 else if (s.own key).isSome = true then 7 else 0
def Gt.addTo (s : Gt) (key name : ByteArray) : Gt := if nm key = false ∨ nm name = false then s else if (s.own key).isSome = true then s else s.add key name
def Gt.ask (s : Gt) (key : ByteArray) : Gt := { s with asked := s.asked + 1, refused := if (s.own key).isSome = true then s.refused else s.refused + 1 }
def Gt.whoErr (s : Gt) (key : ByteArray) : Int := if (s.own key).isSome = true then 0 else 21
def Gt.whose (s : Gt) (key : ByteArray) : ByteArray × Bool := (s.own key).getD (empty, false)

/-- An owner as a value. -/
def ownVal (o : ByteArray × Bool) : Value := .agg #[.string o.1, .bool o.2]
/-- A key as the map has it. -/
def keyLit (s : ByteArray) : Lit := .string s.data.toList
theorem keyLit_inj {a b : ByteArray} (h : keyLit a = keyLit b) : a = b := by
  unfold keyLit at h
  injection h with h
  apply ByteArray.ext
  exact Array.toList_inj.1 h
/-- Each value of the map reads as itself. -/
def anyElem (v : Value) : Option (DataW Value × List MemPlace) := some (.held v, [])

theorem law_key : Keyed Try.prog 9 := string_keyed Try.underlying9
theorem key_of {s : ByteArray} (h : s.size ≤ 9223372036854775807) : keyOf Try.prog 9 (.string s) = some (keyLit s) := WideMaps.keyOf_string_mk Try.underlying9 (by unfold maxLen; omega)
theorem zero_own (w : World) : Sem.run Try.prog (zeroValue 58) w = .ok (ownVal (empty, false)) w := by kernel_rfl

/-- The map in block m has these owners. -/
def MapAt (w : World) (m n : Nat) (own : ByteArray → Option (ByteArray × Bool)) : Prop :=
  ∃ D q, q ≤ n ∧ w.ownsMap Try.prog 9 anyElem m q D ∧ ∀ k : ByteArray, k.size ≤ 9223372036854775807 → Maps.has D (keyLit k) = (own k).isSome ∧ D.atKey (keyLit k) (.held (ownVal (empty, false))) = .held (ownVal ((own k).getD (empty, false)))

theorem MapAt.lt {w : World} {m n : Nat} {own : ByteArray → Option (ByteArray × Bool)} (h : MapAt w m n own) : m < w.heap.size := by
  obtain ⟨D, q, _, h, _⟩ := h
  exact h.lt
theorem MapAt.of_block {w w' : World} {m n : Nat} {own : ByteArray → Option (ByteArray × Bool)} (h : MapAt w m n own) (hm : w'.heap[m]? = w.heap[m]?) : MapAt w' m n own := by
  obtain ⟨D, q, hq, ⟨es, clock, he, hF⟩, hD⟩ := h
  exact ⟨D, q, hq, ⟨es, clock, hm.trans he, hF⟩, hD⟩

theorem MapAt.look {w : World} {m n : Nat} {own : ByteArray → Option (ByteArray × Bool)} (h : MapAt w m n own) {key : ByteArray} (hk : key.size ≤ 9223372036854775807) :
    (Instr.lookup 50 (.map (some m)) (.string key) true).run Try.prog w = .ok (.tuple #[ownVal ((own key).getD (empty, false)), .bool (own key).isSome]) w := by
  obtain ⟨D, q, _, hM, hat⟩ := h
  obtain ⟨v, ps, hrun, hv⟩ := hM.look_ok law_key Try.underlying50 (zero_own w) rfl (key_of hk)
  obtain ⟨h1, h2⟩ := hat key hk
  rw [h2] at hv
  unfold anyElem at hv
  have : v = ownVal ((own key).getD (empty, false)) := DataW.held.inj (congrArg Prod.fst (Option.some.inj hv))
  rw [hrun, this, h1]

theorem MapAt.put {w : World} {m n : Nat} {own : ByteArray → Option (ByteArray × Bool)} (h : MapAt w m n own) (hn : n ≤ 1000000) {key : ByteArray} (hk : key.size ≤ 9223372036854775807) (o : ByteArray × Bool) :
    ∃ w', (Instr.mapUpdate 50 (.map (some m)) (.string key) (ownVal o)).run Try.prog w = .ok () w' ∧ MapAt w' m (n + 1) (fun k => if k = key then some o else own k) ∧ Turn [m] w w' := by
  obtain ⟨D, q, hq, hM, hat⟩ := h
  obtain ⟨w', hrun, hown, hg⟩ := World.ownsMap.update hM law_key Try.underlying50 (by unfold maxLen; omega) (key_of hk) (show anyElem (ownVal o) = some (.held (ownVal o), []) from rfl)
  refine ⟨w', hrun, ⟨D.put (keyLit key) (.held (ownVal o)), q + 1, by omega, hown, fun k hk' => ?_⟩, (Turn.refl _ _).grown hg (fun k e => .inl (by injection e with e; simp [e]))⟩
  dsimp only
  by_cases he : k = key
  · subst he
    rw [if_pos rfl]
    exact ⟨has_put_same hM.isMap (by unfold keyLit; exact trivial) _, atKey_put_same hM.isMap (by unfold keyLit; exact trivial) _ _⟩
  · rw [if_neg he]
    have hne : keyLit k ≠ keyLit key := fun e => he (keyLit_inj e)
    rw [has_put_other hne, atKey_put_other hne]
    exact hat k hk'

/-- A gate's cells: block g; d: whether its map is made, t: its lock, mo: its map. -/
structure CellsAt (w : World) (g : Nat) (s : Gt) (d t : Int) (mo : Option Nat) : Prop where
  c0 : w.cell? ⟨g, 0, none⟩ = some (.string s.admin)
  c1 : w.cell? ⟨g, 1, none⟩ = some (.int .u32 d)
  c2 : w.cell? ⟨g, 2, none⟩ = some (.int .i32 t)
  c4 : w.cell? ⟨g, 4, none⟩ = some (.map mo)
  c5 : w.cell? ⟨g, 5, none⟩ = some (.int .i64 (s.asked : Nat))
  c6 : w.cell? ⟨g, 6, none⟩ = some (.int .i64 (s.refused : Nat))
  fz : ∀ o, w.frozen? ⟨g, o, none⟩ = false

theorem CellsAt.lt {w : World} {g : Nat} {s : Gt} {d t : Int} {mo : Option Nat} (h : CellsAt w g s d t mo) : g < w.heap.size := lt_of_cell h.c0
theorem CellsAt.of_block {w w' : World} {g : Nat} {s : Gt} {d t : Int} {mo : Option Nat} (h : CellsAt w g s d t mo) (hb : w'.heap[g]? = w.heap[g]?) : CellsAt w' g s d t mo := by
  have hc : ∀ o, w'.cell? ⟨g, o, none⟩ = w.cell? ⟨g, o, none⟩ := fun o => World.cell?_of_block (a := ⟨g, o, none⟩) hb
  exact ⟨(hc 0).trans h.c0, (hc 1).trans h.c1, (hc 2).trans h.c2, (hc 4).trans h.c4, (hc 5).trans h.c5, (hc 6).trans h.c6, fun o => (World.frozen?_of_block (a := ⟨g, o, none⟩) hb).trans (h.fz o)⟩
theorem CellsAt.set1 {w : World} {g : Nat} {s : Gt} {d t : Int} {mo : Option Nat} (h : CellsAt w g s d t mo) (x : Int) : CellsAt (w.setCell ⟨g, 1, none⟩ (.int .u32 x)) g s x t mo := by
  have ho : ∀ o, o ≠ 1 → (w.setCell ⟨g, 1, none⟩ (.int .u32 x)).cell? ⟨g, o, none⟩ = w.cell? ⟨g, o, none⟩ := fun o ho => World.cell?_setCell_other _ _ _ _ (off_ne ho.symm)
  exact ⟨(ho 0 (by omega)).trans h.c0, World.cell?_setCell_same _ _ _ h.c1, (ho 2 (by omega)).trans h.c2, (ho 4 (by omega)).trans h.c4, (ho 5 (by omega)).trans h.c5, (ho 6 (by omega)).trans h.c6, fun o => by rw [World.frozen?_setCell]; exact h.fz o⟩
theorem CellsAt.set2 {w : World} {g : Nat} {s : Gt} {d t : Int} {mo : Option Nat} (h : CellsAt w g s d t mo) (x : Int) : CellsAt (w.setCell ⟨g, 2, none⟩ (.int .i32 x)) g s d x mo := by
  have ho : ∀ o, o ≠ 2 → (w.setCell ⟨g, 2, none⟩ (.int .i32 x)).cell? ⟨g, o, none⟩ = w.cell? ⟨g, o, none⟩ := fun o ho => World.cell?_setCell_other _ _ _ _ (off_ne ho.symm)
  exact ⟨(ho 0 (by omega)).trans h.c0, (ho 1 (by omega)).trans h.c1, World.cell?_setCell_same _ _ _ h.c2, (ho 4 (by omega)).trans h.c4, (ho 5 (by omega)).trans h.c5, (ho 6 (by omega)).trans h.c6, fun o => by rw [World.frozen?_setCell]; exact h.fz o⟩
theorem CellsAt.set4 {w : World} {g : Nat} {s : Gt} {d t : Int} {mo : Option Nat} (h : CellsAt w g s d t mo) (x : Option Nat) : CellsAt (w.setCell ⟨g, 4, none⟩ (.map x)) g s d t x := by
  have ho : ∀ o, o ≠ 4 → (w.setCell ⟨g, 4, none⟩ (.map x)).cell? ⟨g, o, none⟩ = w.cell? ⟨g, o, none⟩ := fun o ho => World.cell?_setCell_other _ _ _ _ (off_ne ho.symm)
  exact ⟨(ho 0 (by omega)).trans h.c0, (ho 1 (by omega)).trans h.c1, (ho 2 (by omega)).trans h.c2, World.cell?_setCell_same _ _ _ h.c4, (ho 5 (by omega)).trans h.c5, (ho 6 (by omega)).trans h.c6, fun o => by rw [World.frozen?_setCell]; exact h.fz o⟩
theorem CellsAt.set5 {w : World} {g : Nat} {s : Gt} {d t : Int} {mo : Option Nat} (h : CellsAt w g s d t mo) (x : Nat) : CellsAt (w.setCell ⟨g, 5, none⟩ (.int .i64 (x : Int))) g { s with asked := x } d t mo := by
  have ho : ∀ o, o ≠ 5 → (w.setCell ⟨g, 5, none⟩ (.int .i64 (x : Int))).cell? ⟨g, o, none⟩ = w.cell? ⟨g, o, none⟩ := fun o ho => World.cell?_setCell_other _ _ _ _ (off_ne ho.symm)
  exact ⟨(ho 0 (by omega)).trans h.c0, (ho 1 (by omega)).trans h.c1, (ho 2 (by omega)).trans h.c2, (ho 4 (by omega)).trans h.c4, World.cell?_setCell_same _ _ _ h.c5, (ho 6 (by omega)).trans h.c6, fun o => by rw [World.frozen?_setCell]; exact h.fz o⟩
theorem CellsAt.set6 {w : World} {g : Nat} {s : Gt} {d t : Int} {mo : Option Nat} (h : CellsAt w g s d t mo) (x : Nat) : CellsAt (w.setCell ⟨g, 6, none⟩ (.int .i64 (x : Int))) g { s with refused := x } d t mo := by
  have ho : ∀ o, o ≠ 6 → (w.setCell ⟨g, 6, none⟩ (.int .i64 (x : Int))).cell? ⟨g, o, none⟩ = w.cell? ⟨g, o, none⟩ := fun o ho => World.cell?_setCell_other _ _ _ _ (off_ne ho.symm)
  exact ⟨(ho 0 (by omega)).trans h.c0, (ho 1 (by omega)).trans h.c1, (ho 2 (by omega)).trans h.c2, (ho 4 (by omega)).trans h.c4, (ho 5 (by omega)).trans h.c5, World.cell?_setCell_same _ _ _ h.c6, fun o => by rw [World.frozen?_setCell]; exact h.fz o⟩

/-- A gate in memory: mo: its map, if it is made. -/
def GateAt (w : World) (g : Nat) (mo : Option Nat) (s : Gt) : Prop :=
  s.admin.size ≤ 1000000 ∧ match mo with
  | none => CellsAt w g s 0 0 none ∧ s.n = 0 ∧ s.own = (Gt.new s.admin).own
  | some m => CellsAt w g s 1 0 (some m) ∧ m ≠ g ∧ MapAt w m (s.n + 1) s.own

theorem GateAt.cells {w : World} {g : Nat} {mo : Option Nat} {s : Gt} (h : GateAt w g mo s) : ∃ d, CellsAt w g s d 0 mo := by
  cases mo with
  | none => exact ⟨0, h.2.1⟩
  | some m => exact ⟨1, h.2.1⟩
theorem GateAt.lt {w : World} {g : Nat} {mo : Option Nat} {s : Gt} (h : GateAt w g mo s) : g < w.heap.size := by
  obtain ⟨d, h⟩ := h.cells
  exact h.lt
theorem GateAt.ltm {w : World} {g m : Nat} {s : Gt} (h : GateAt w g (some m) s) : m < w.heap.size := h.2.2.2.lt
theorem GateAt.turn {S : List Nat} {w w' : World} {g : Nat} {mo : Option Nat} {s : Gt} (h : GateAt w g mo s) (hT : Turn S w w') (hg : g ∉ S) (hm : ∀ m, mo = some m → m ∉ S) : GateAt w' g mo s := by
  have hb := hT.block g h.lt hg
  cases mo with
  | none => exact ⟨h.1, h.2.1.of_block hb, h.2.2⟩
  | some m => exact ⟨h.1, h.2.1.of_block hb, h.2.2.1, h.2.2.2.of_block (hT.block m h.ltm (hm m rfl))⟩
theorem GateAt.turn0 {w w' : World} {g : Nat} {mo : Option Nat} {s : Gt} (h : GateAt w g mo s) (hT : Turn [] w w') : GateAt w' g mo s := h.turn hT (by simp) (fun _ _ => by simp)
theorem GateAt.count5 {w : World} {g : Nat} {mo : Option Nat} {s : Gt} (h : GateAt w g mo s) (x : Nat) : GateAt (w.setCell ⟨g, 5, none⟩ (.int .i64 (x : Int))) g mo { s with asked := x } := by
  cases mo with
  | none => exact ⟨h.1, h.2.1.set5 x, h.2.2⟩
  | some m => exact ⟨h.1, h.2.1.set5 x, h.2.2.1, h.2.2.2.of_block (Below.heap_setCell w ⟨g, 5, none⟩ _ m h.2.2.1)⟩
theorem GateAt.count6 {w : World} {g : Nat} {mo : Option Nat} {s : Gt} (h : GateAt w g mo s) (x : Nat) : GateAt (w.setCell ⟨g, 6, none⟩ (.int .i64 (x : Int))) g mo { s with refused := x } := by
  cases mo with
  | none => exact ⟨h.1, h.2.1.set6 x, h.2.2⟩
  | some m => exact ⟨h.1, h.2.1.set6 x, h.2.2.1, h.2.2.2.of_block (Below.heap_setCell w ⟨g, 6, none⟩ _ m h.2.2.1)⟩

/-- What a gate's map may become: it stays, or it is made anew. -/
def Went (w : World) (mo mo' : Option Nat) : Prop := mo' = mo ∨ mo = none ∧ ∃ m, mo' = some m ∧ w.heap.size ≤ m

end Go.Proofs.Ytgljldojmpeegaa.Ga

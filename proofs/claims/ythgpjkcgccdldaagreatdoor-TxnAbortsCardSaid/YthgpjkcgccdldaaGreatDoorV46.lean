/-
  A store in memory: its object, its sight, its transaction and what that noted; isDead, Begin, Commits, walked.
  A transaction's Put and Del: what is noted of a key; change, walked.
  A transaction's end: Commit, Abort, walked.
  txn.Open of what is committed on a disk, walked; a new disk.
  What a view shows: find, Get and Scan of a sight, walked.
  Look, walked: a new view of what is committed, its sight made there and then, or shared.
  Look, walked whole.
-/
import Derived.Test.YthgpjkcgccdldaaGreatDoorV44
import Derived.Maps.OwnSet
import Derived.WideMake
import Derived.Carry
import Derived.Shelf.Strconv.Clone
import Derived.Deep.RegionWith
import Derived.Deep.RegionHeld3
import Derived.Test.YthgpjkcgccdldaaGreatDoorV41
import Derived.Test.YthgpjkcgccdldaaGreatDoorV25

namespace Go.Proofs.YthgpjkcgccdldaaGreatDoor
open Go.RowKit Go.Maps

/-- A store's object. -/
structure StAt (w : World) (st p t : Nat) (tx : Option Nat) (cm vw sg : Nat) : Prop where
  c0 : w.cell? ⟨st, 0, none⟩ = some (.pointer (some ⟨p, 0, none⟩))
  c1 : w.cell? ⟨st, 1, none⟩ = some (.pointer (some ⟨t, 0, none⟩))
  c2 : w.cell? ⟨st, 2, none⟩ = some (rootV tx)
  c3 : w.cell? ⟨st, 3, none⟩ = some (.int .i64 (cm : Nat))
  c4 : w.cell? ⟨st, 4, none⟩ = some (.int .i64 (vw : Nat))
  c5 : w.cell? ⟨st, 5, none⟩ = some (.pointer (some ⟨sg, 0, none⟩))
  fz : ∀ o, w.frozen? ⟨st, o, none⟩ = false

theorem StAt.same {w w' : World} {st p t : Nat} {tx : Option Nat} {cm vw sg : Nat} (h : StAt w st p t tx cm vw sg) (hb : w'.heap[st]? = w.heap[st]?) : StAt w' st p t tx cm vw sg := by
  have hc : ∀ o, w'.cell? ⟨st, o, none⟩ = w.cell? ⟨st, o, none⟩ := fun o => World.cell?_of_block (a := ⟨st, o, none⟩) hb
  exact ⟨(hc _).trans h.c0, (hc _).trans h.c1, (hc _).trans h.c2, (hc _).trans h.c3, (hc _).trans h.c4, (hc _).trans h.c5, fun o => (World.frozen?_of_block (a := ⟨st, o, none⟩) hb).trans (h.fz o)⟩
theorem StAt.lt {w : World} {st p t : Nat} {tx : Option Nat} {cm vw sg : Nat} (h : StAt w st p t tx cm vw sg) : st < w.heap.size := lt_of_cell h.c0

/-- One cell of it is stored. -/
theorem StAt.set {w : World} {st p t : Nat} {tx tx' : Option Nat} {cm cm' vw vw' sg sg' : Nat} (h : StAt w st p t tx cm vw sg) (k : Nat) (v : Value) (h2 : 2 ≤ k) (e2 : if k = 2 then v = rootV tx' else tx' = tx) (e3 : if k = 3 then v = .int .i64 (cm' : Nat) else cm' = cm) (e4 : if k = 4 then v = .int .i64 (vw' : Nat) else vw' = vw) (e5 : if k = 5 then v = .pointer (some ⟨sg', 0, none⟩) else sg' = sg) : StAt (w.setCell ⟨st, k, none⟩ v) st p t tx' cm' vw' sg' := by
  have ho : ∀ o, o ≠ k → (w.setCell ⟨st, k, none⟩ v).cell? ⟨st, o, none⟩ = w.cell? ⟨st, o, none⟩ := fun o hne => World.cell?_setCell_other _ _ _ _ (off_ne hne.symm)
  have hz : ∀ o, (w.setCell ⟨st, k, none⟩ v).frozen? ⟨st, o, none⟩ = false := fun o => by rw [World.frozen?_setCell]; exact h.fz o
  refine ⟨(ho 0 (by omega)).trans h.c0, (ho 1 (by omega)).trans h.c1, ?_, ?_, ?_, ?_, hz⟩
  · by_cases hk : k = 2
    · subst hk; rw [World.cell?_setCell_same _ _ _ h.c2]; simp at e2; rw [e2]
    · rw [ho 2 (Ne.symm hk), h.c2]; rw [if_neg hk] at e2; rw [e2]
  · by_cases hk : k = 3
    · subst hk; rw [World.cell?_setCell_same _ _ _ h.c3]; simp at e3; rw [e3]
    · rw [ho 3 (Ne.symm hk), h.c3]; rw [if_neg hk] at e3; rw [e3]
  · by_cases hk : k = 4
    · subst hk; rw [World.cell?_setCell_same _ _ _ h.c4]; simp at e4; rw [e4]
    · rw [ho 4 (Ne.symm hk), h.c4]; rw [if_neg hk] at e4; rw [e4]
  · by_cases hk : k = 5
    · subst hk; rw [World.cell?_setCell_same _ _ _ h.c5]; simp at e5; rw [e5]
    · rw [ho 5 (Ne.symm hk), h.c5]; rw [if_neg hk] at e5; rw [e5]

/-- What a sight is: its once's word, its lock, what it shows. -/
structure SightAt (w : World) (sg : Nat) (d : Int) (v : Value) : Prop where
  c0 : w.cell? ⟨sg, 0, none⟩ = some (.int .u32 d)
  c1 : w.cell? ⟨sg, 1, none⟩ = some (.int .i32 0)
  c3 : w.cell? ⟨sg, 3, none⟩ = some v
  fz : ∀ o, w.frozen? ⟨sg, o, none⟩ = false

theorem SightAt.same {w w' : World} {sg : Nat} {d : Int} {v : Value} (h : SightAt w sg d v) (hb : w'.heap[sg]? = w.heap[sg]?) : SightAt w' sg d v := by
  have hc : ∀ o, w'.cell? ⟨sg, o, none⟩ = w.cell? ⟨sg, o, none⟩ := fun o => World.cell?_of_block (a := ⟨sg, o, none⟩) hb
  exact ⟨(hc _).trans h.c0, (hc _).trans h.c1, (hc _).trans h.c3, fun o => (World.frozen?_of_block (a := ⟨sg, o, none⟩) hb).trans (h.fz o)⟩
theorem SightAt.lt {w : World} {sg : Nat} {d : Int} {v : Value} (h : SightAt w sg d v) : sg < w.heap.size := lt_of_cell h.c0

/-- What was committed under a key, as a note has it. -/
abbrev Former := ByteArray × Bool
def formerV (o : Former) : Value := .agg #[.string o.1, .bool o.2]
def formerOf (x : Option ByteArray) : Former := (x.getD ⟨#[]⟩, x.isSome)
/-- A key as the map has it. -/
def keyLit (s : ByteArray) : Lit := .string s.data.toList
theorem keyLit_inj {a b : ByteArray} (h : keyLit a = keyLit b) : a = b := by
  unfold keyLit at h
  injection h with h
  apply ByteArray.ext
  exact Array.toList_inj.1 h
/-- How a note reads. -/
def noteElem : Value → Option (DataW Value × List MemPlace)
  | .agg cs =>
    match cs.toList with
    | [.string _, .bool _] => some (.held (.agg cs), [])
    | _ => none
  | _ => none
theorem note_form {v : Value} {x : DataW Value × List MemPlace} (h : noteElem v = some x) : x = (.held v, []) ∧ ∃ o : Former, v = formerV o := by
  unfold noteElem at h
  split at h
  · split at h
    · rename_i s b e
      exact ⟨(Option.some.inj h).symm, (s, b), by unfold formerV; congr; apply Array.toList_inj.1; exact e⟩
    · cases h
  · cases h
theorem law_key : Keyed Tryz.prog 9 := string_keyed Tryz.underlying9
theorem key_of {s : ByteArray} (h : s.size ≤ 9223372036854775807) : keyOf Tryz.prog 9 (.string s) = some (keyLit s) := WideMaps.keyOf_string_mk Tryz.underlying9 (by unfold maxLen; omega)
theorem zero_former (w : World) : Sem.run Tryz.prog (zeroValue 133) w = .ok (formerV (⟨#[]⟩, false)) w := by kernel_rfl

/-- The map in block mb has these notes, n of them at most, sz just. -/
def NotesAt (w : World) (mb n sz : Nat) (nt : ByteArray → Option Former) : Prop :=
  ∃ D q, q ≤ n ∧ w.ownsMap Tryz.prog 9 noteElem mb q D ∧ Maps.size D = sz ∧ ∀ k : ByteArray, k.size ≤ 9223372036854775807 → Maps.has D (keyLit k) = (nt k).isSome ∧ D.atKey (keyLit k) (.held (formerV (⟨#[]⟩, false))) = .held (formerV ((nt k).getD (⟨#[]⟩, false)))

theorem NotesAt.lt {w : World} {mb n sz : Nat} {nt : ByteArray → Option Former} (h : NotesAt w mb n sz nt) : mb < w.heap.size := by
  obtain ⟨D, q, _, h, _⟩ := h
  exact h.lt
theorem NotesAt.of_block {w w' : World} {mb n sz : Nat} {nt : ByteArray → Option Former} (h : NotesAt w mb n sz nt) (hm : w'.heap[mb]? = w.heap[mb]?) : NotesAt w' mb n sz nt := by
  obtain ⟨D, q, hq, ⟨es, clock, he, hF⟩, hD⟩ := h
  exact ⟨D, q, hq, ⟨es, clock, hm.trans he, hF⟩, hD⟩
theorem NotesAt.look {w : World} {mb n sz : Nat} {nt : ByteArray → Option Former} (h : NotesAt w mb n sz nt) {key : ByteArray} (hk : key.size ≤ 9223372036854775807) :
    (Instr.lookup 101 (.map (some mb)) (.string key) true).run Tryz.prog w = .ok (.tuple #[formerV ((nt key).getD (⟨#[]⟩, false)), .bool (nt key).isSome]) w := by
  obtain ⟨D, q, _, hM, _, hat⟩ := h
  obtain ⟨v, ps, hrun, hv⟩ := hM.look_ok law_key Tryz.underlying101 (zero_former w) (show noteElem (formerV (⟨#[]⟩, false)) = some (.held (formerV (⟨#[]⟩, false)), []) from rfl) (key_of hk)
  obtain ⟨h1, h2⟩ := hat key hk
  rw [h2] at hv
  have : v = formerV ((nt key).getD (⟨#[]⟩, false)) := (DataW.held.inj (congrArg Prod.fst (note_form hv).1)).symm
  rw [hrun, this, h1]
theorem NotesAt.put {w : World} {mb n sz : Nat} {nt : ByteArray → Option Former} (h : NotesAt w mb n sz nt) (hn : n ≤ 1000000) {key : ByteArray} (hk : key.size ≤ 9223372036854775807) (hno : (nt key).isSome = false) (o : Former) :
    ∃ w', (Instr.mapUpdate 101 (.map (some mb)) (.string key) (formerV o)).run Tryz.prog w = .ok () w' ∧ NotesAt w' mb (n + 1) (sz + 1) (fun k => if k = key then some o else nt k) ∧ Turn [mb] w w' := by
  obtain ⟨D, q, hq, hM, hsz, hat⟩ := h
  obtain ⟨w', hrun, hown, hg⟩ := World.ownsMap.update hM law_key Tryz.underlying101 (by unfold maxLen; omega) (key_of hk) (show noteElem (formerV o) = some (.held (formerV o), []) from rfl)
  have hh := (hat key hk).1
  rw [hno] at hh
  refine ⟨w', hrun, ⟨D.put (keyLit key) (.held (formerV o)), q + 1, by omega, hown, by rw [size_put (hM.tidy law_key), hh, hsz]; rfl, fun k hk' => ?_⟩, (Turn.refl _ _).grown hg (fun k e => .inl (by injection e with e; simp [e]))⟩
  dsimp only
  by_cases he : k = key
  · subst he
    rw [if_pos rfl]
    exact ⟨has_put_same hM.isMap (by unfold keyLit; exact trivial) _, atKey_put_same hM.isMap (by unfold keyLit; exact trivial) _ _⟩
  · rw [if_neg he]
    have hne : keyLit k ≠ keyLit key := fun e => he (keyLit_inj e)
    rw [has_put_other hne, atKey_put_other hne]
    exact hat k hk'
theorem NotesAt.len {w : World} {mb n sz : Nat} {nt : ByteArray → Option Former} (h : NotesAt w mb n sz nt) (ty : TypeId) : (Builtin.len_ #[101] ty #[.map (some mb)]).run Tryz.prog w = .ok (.int .i64 (sz : Nat)) w := by
  obtain ⟨D, q, _, hM, rfl, _⟩ := h
  exact hM.len Tryz.underlying101 ty
theorem NotesAt.bound {w : World} {mb n sz : Nat} {nt : ByteArray → Option Former} (h : NotesAt w mb n sz nt) : sz ≤ n := by
  obtain ⟨D, q, hq, hM, rfl, _⟩ := h
  have := hM.size_le
  omega

/-- A transaction's object. -/
structure TxAt (w : World) (tb mb st : Nat) : Prop where
  c0 : w.cell? ⟨tb, 0, none⟩ = some (.pointer (some ⟨st, 0, none⟩))
  c1 : w.cell? ⟨tb, 1, none⟩ = some (.map (some mb))
  c2 : w.cell? ⟨tb, 2, none⟩ = some (.bool false)
  fz : ∀ o, w.frozen? ⟨tb, o, none⟩ = false
theorem TxAt.same {w w' : World} {tb mb st : Nat} (h : TxAt w tb mb st) (hb : w'.heap[tb]? = w.heap[tb]?) : TxAt w' tb mb st := by
  have hc : ∀ o, w'.cell? ⟨tb, o, none⟩ = w.cell? ⟨tb, o, none⟩ := fun o => World.cell?_of_block (a := ⟨tb, o, none⟩) hb
  exact ⟨(hc _).trans h.c0, (hc _).trans h.c1, (hc _).trans h.c2, fun o => (World.frozen?_of_block (a := ⟨tb, o, none⟩) hb).trans (h.fz o)⟩
theorem TxAt.lt {w : World} {tb mb st : Nat} (h : TxAt w tb mb st) : tb < w.heap.size := lt_of_cell h.c0

/-- The notes tell what was committed. -/
def NotesOk (nt : ByteArray → Option Former) (ld l : List Kv) : Prop := ∀ k, match nt k with
  | some f => f = formerOf (getK ld k)
  | none => getK l k = getK ld k

/-- The transaction that is open, if one is: did calls changed something. -/
def TxPart (w : World) (O OT : Nat → Prop) (st sg : Nat) (did : Nat) (ld : List Kv) (ch : Bool) (l : List Kv) : Option Nat → Prop
  | none => ch = false
  | some tb => ∃ mb sz nt, TxAt w tb mb st ∧ NotesAt w mb did sz nt ∧ (0 < sz ↔ ch = true) ∧ NotesOk nt ld l ∧ OT tb ∧ OT mb ∧ ¬ O tb ∧ ¬ O mb ∧ tb ≠ mb ∧ tb ≠ st ∧ tb ≠ sg ∧ mb ≠ st ∧ mb ≠ sg

/-- The sight: nothing is told of it, or nobody has looked yet, or it shows what is committed, in others' memory. -/
def SightG (w : World) (O OT : Nat → Prop) (sg : Nat) (ld : List Kv) : Option Bool → Prop
  | none => True
  | some true => SightAt w sg 0 (.slice none 0 0) ∧ OT sg ∧ ¬ O sg
  | some false => ∃ a cap, SightAt w sg 1 (.slice a ld.length cap) ∧ KVsAt w a ld ∧ (a = none → cap = 0) ∧ (ld.length ≤ cap ∧ cap ≤ 9223372036854775807) ∧ O sg ∧ ∀ x, a = some x → O x.block ∧ x.off = 0

/-- A store, and all that it stands on; O: blocks of others; fs: nobody has looked yet. -/
structure StoreG (w : World) (O OT : Nat → Prop) (st t p b m sg N c vw : Nat) (fs : Option Bool) (tx : Option Nat) (did : Nat) (ld : List Kv) (ch : Bool) (l : List Kv) : Prop where
  tree : TreeG w OT t p b m N c ld ch l
  obj : StAt w st p t tx c vw sg
  sight : SightG w O OT sg ld fs
  sub : ∀ x, O x → OT x
  ost : OT st
  nst : ¬ O st
  ne : st ≠ sg
  txp : TxPart w O OT st sg did ld ch l tx
  osg : OT sg

theorem StoreG.ob {w : World} {O OT : Nat → Prop} {st t p b m sg N c vw : Nat} {fs : Option Bool} {tx : Option Nat} {did : Nat} {ld : List Kv} {ch : Bool} {l : List Kv} (h : StoreG w O OT st t p b m sg N c vw fs tx did ld ch l) : ∀ x, OT x → x < w.heap.size := h.tree.ob
theorem StoreG.sgl {w : World} {O OT : Nat → Prop} {st t p b m sg N c vw : Nat} {fs : Option Bool} {tx : Option Nat} {did : Nat} {ld : List Kv} {ch : Bool} {l : List Kv} (h : StoreG w O OT st t p b m sg N c vw fs tx did ld ch l) : sg < w.heap.size := h.ob sg h.osg

def StoreK (w : World) (O : Nat → Prop) (st b m N c vw : Nat) (fs : Option Bool) (tx : Option Nat) (did : Nat) (ld : List Kv) (ch : Bool) (l : List Kv) : Prop :=
  ∃ OT t p sg, StoreG w O OT st t p b m sg N c vw fs tx did ld ch l

theorem TxPart.same {w w' : World} {O OT : Nat → Prop} {st sg : Nat} {did : Nat} {ld : List Kv} {ch : Bool} {l : List Kv} {tx : Option Nat} (h : TxPart w O OT st sg did ld ch l tx) (hb : ∀ x, OT x → ¬ O x → x ≠ st → x ≠ sg → x < w.heap.size → w'.heap[x]? = w.heap[x]?) : TxPart w' O OT st sg did ld ch l tx := by
  cases tx with
  | none => exact h
  | some tb =>
    obtain ⟨mb, sz, nt, h1, h2, h3, h4, h5, h6, h7, h8, h9, h10, h11, h12, h13⟩ := h
    exact ⟨mb, sz, nt, h1.same (hb tb h5 h7 h10 h11 h1.lt), h2.of_block (hb mb h6 h8 h12 h13 h2.lt), h3, h4, h5, h6, h7, h8, h9, h10, h11, h12, h13⟩
theorem TxPart.wide {w : World} {O OT O' OT' : Nat → Prop} {st sg : Nat} {did : Nat} {ld : List Kv} {ch : Bool} {l : List Kv} {tx : Option Nat} (h : TxPart w O OT st sg did ld ch l tx) (hT : ∀ x, OT x → OT' x) (hO : ∀ x, OT x → ¬ O x → ¬ O' x) : TxPart w O' OT' st sg did ld ch l tx := by
  cases tx with
  | none => exact h
  | some tb =>
    obtain ⟨mb, sz, nt, h1, h2, h3, h4, h5, h6, h7, h8, h9, h10, h11, h12, h13⟩ := h
    exact ⟨mb, sz, nt, h1, h2, h3, h4, hT _ h5, hT _ h6, hO _ h5 h7, hO _ h6 h8, h9, h10, h11, h12, h13⟩
theorem SightG.same {w w' : World} {O OT : Nat → Prop} {sg : Nat} {ld : List Kv} {fs : Option Bool} (h : SightG w O OT sg ld fs) (hs : w'.heap[sg]? = w.heap[sg]?) (hb : ∀ x, O x → x < w.heap.size → w'.heap[x]? = w.heap[x]?) : SightG w' O OT sg ld fs := by
  rcases fs with _ | _ | _
  · trivial
  · obtain ⟨a, cap, h1, h2, h3, h4, h5, h6⟩ := h
    refine ⟨a, cap, h1.same hs, ?_, h3, h4, h5, h6⟩
    rcases h2 with h2 | ⟨g, off, rfl, h2⟩
    · exact .inl h2
    · refine .inr ⟨g, off, rfl, fun i hi => ?_⟩
      have hg := (h6 ⟨g, off, none⟩ rfl).1
      have hb' := hb g hg (lt_of_cell (h2 i hi).1)
      exact ⟨(World.cell?_of_block (a := ⟨g, _, none⟩) hb').trans (h2 i hi).1, (World.cell?_of_block (a := ⟨g, _, none⟩) hb').trans (h2 i hi).2⟩
  · exact ⟨h.1.same hs, h.2⟩
theorem SightG.wide {w : World} {O OT O' OT' : Nat → Prop} {sg : Nat} {ld : List Kv} {fs : Option Bool} (h : SightG w O OT sg ld fs) (hT : ∀ x, OT x → OT' x) (hn : ∀ x, OT x → ¬ O x → ¬ O' x) (hO : ∀ x, O x → O' x) : SightG w O' OT' sg ld fs := by
  rcases fs with _ | _ | _
  · trivial
  · obtain ⟨a, cap, h1, h2, h3, h4, h5, h6⟩ := h
    exact ⟨a, cap, h1, h2, h3, h4, hO _ h5, fun x ha => ⟨hO _ (h6 x ha).1, (h6 x ha).2⟩⟩
  · exact ⟨h.1, hT _ h.2.1, hn _ h.2.1 h.2.2⟩

/-- A call of the tree's that changes nothing of what it has. -/
theorem StoreG.tree' {w w' : World} {O OT : Nat → Prop} {st t p b m sg N c vw : Nat} {fs : Option Bool} {tx : Option Nat} {did : Nat} {ld : List Kv} {ch : Bool} {l : List Kv} (h : StoreG w O OT st t p b m sg N c vw fs tx did ld ch l) (hK : KeepO OT w w') (hT : TreeG w' OT t p b m N c ld ch l) : StoreG w' O OT st t p b m sg N c vw fs tx did ld ch l :=
  ⟨hT, h.obj.same (hK.block h.ost h.obj.lt), h.sight.same (hK.block h.osg h.sgl) (fun x ho hx => hK.block (h.sub x ho) hx), h.sub, h.ost, h.nst, h.ne, h.txp.same (fun _x ho _ _ _ hx => hK.block ho hx), h.osg⟩

/-- Nothing of the store's turns. -/
theorem StoreG.turn0 {w w' : World} {O OT : Nat → Prop} {st t p b m sg N c vw : Nat} {fs : Option Bool} {tx : Option Nat} {did : Nat} {ld : List Kv} {ch : Bool} {l : List Kv} (h : StoreG w O OT st t p b m sg N c vw fs tx did ld ch l) (hT : Turn [] w w') : StoreG w' O OT st t p b m sg N c vw fs tx did ld ch l :=
  h.tree' (KeepO.of0 hT) (h.tree.turn hT (by simp) (fun x hx => .inl hx) (fun x hx => Nat.lt_of_lt_of_le (h.ob x hx) hT.size))
theorem StoreK.turn0 {w w' : World} {O : Nat → Prop} {st b m N c vw : Nat} {fs : Option Bool} {tx : Option Nat} {did : Nat} {ld : List Kv} {ch : Bool} {l : List Kv} (h : StoreK w O st b m N c vw fs tx did ld ch l) (hT : Turn [] w w') : StoreK w' O st b m N c vw fs tx did ld ch l := by
  obtain ⟨OT, t, p, sg, h⟩ := h
  exact ⟨OT, t, p, sg, h.turn0 hT⟩

/-- All blocks that are new are the store's own from now on. -/
theorem StoreG.grow {w w' : World} {O OT : Nat → Prop} {st t p b m sg N c vw : Nat} {fs : Option Bool} {tx : Option Nat} {did : Nat} {ld : List Kv} {ch : Bool} {l : List Kv} (h : StoreG w O OT st t p b m sg N c vw fs tx did ld ch l) (hT : Turn [] w w') : StoreG w' O (fun x => OT x ∨ (w.heap.size ≤ x ∧ x < w'.heap.size)) st t p b m sg N c vw fs tx did ld ch l := by
  have h0 := h.turn0 hT
  have hb : ∀ x, (OT x ∨ (w.heap.size ≤ x ∧ x < w'.heap.size)) → x < w'.heap.size := fun x hx => by
    rcases hx with hx | hx
    · exact h0.ob x hx
    · exact hx.2
  exact ⟨h.tree.turn hT (by simp) (fun x hx => by rcases hx with hx | hx; exact .inl hx; exact .inr hx.1) hb, h0.obj, h0.sight.wide (fun x hx => .inl hx) (fun x _ h => h) (fun x h => h), fun x hx => .inl (h.sub x hx), .inl h.ost, h.nst, h.ne, h0.txp.wide (fun x hx => .inl hx) (fun x _ h => h), .inl h.osg⟩

/-- New blocks become other people's. -/
theorem StoreK.more {w w' : World} {O O' : Nat → Prop} {st b m N c vw : Nat} {fs : Option Bool} {tx : Option Nat} {did : Nat} {ld : List Kv} {ch : Bool} {l : List Kv} (h : StoreK w O st b m N c vw fs tx did ld ch l) (hT : Turn [] w w') (hs : ∀ x, O x → O' x) (hO : ∀ x, O' x → O x ∨ w.heap.size ≤ x) (hb : ∀ x, O' x → x < w'.heap.size) : StoreK w' O' st b m N c vw fs tx did ld ch l := by
  obtain ⟨OT, t, p, sg, h⟩ := h
  have h0 := h.turn0 hT
  have hno : ∀ x, OT x → ¬ O x → ¬ O' x := fun x h1 h2 h3 => by
    rcases hO x h3 with h4 | h4
    · exact h2 h4
    · have := h.ob x h1; omega
  refine ⟨fun x => OT x ∨ O' x, t, p, sg, ⟨h.tree.turn hT (by simp) (fun x hx => ?_) (fun x hx => ?_), h0.obj, ?_, fun x hx => .inr hx, .inl h.ost, hno _ h.ost h.nst, h.ne, h0.txp.wide (fun x hx => .inl hx) hno, .inl h.osg⟩⟩
  · rcases hx with hx | hx
    · exact .inl hx
    · rcases hO x hx with h4 | h4
      · exact .inl (h.sub x h4)
      · exact .inr h4
  · rcases hx with hx | hx
    · exact Nat.lt_of_lt_of_le (h.ob x hx) hT.size
    · exact hb x hx
  · exact h0.sight.wide (fun x hx => .inl hx) hno hs

set_option maxRecDepth 100000 in
set_option maxHeartbeats 1600000 in
theorem xdead {w : World} {O OT : Nat → Prop} {st t p b m sg N c vw : Nat} {fs : Option Bool} {tx : Option Nat} {did : Nat} {ld : List Kv} {ch : Bool} {l : List Kv} (h : StoreG w O OT st t p b m sg N c vw fs tx did ld ch l) :
    Calls Tryz.prog 38 #[.pointer (some ⟨st, 0, none⟩)] w fun e w' => e = .returned (.bool false) ∧ StoreG w' O OT st t p b m sg N c vw fs tx did ld ch l ∧ KeepO OT w w' := by
  have h0 := h.obj.c0
  have HC := hide (tgk_read h.tree)
  have H := hide h
  clear h
  go_enter Tryz.func38, Tryz.ntmps38
  go_wp2_with fail
  refine HC.out.mono ?_
  rintro e w1 ⟨rfl, hT1, hK1⟩
  have H1 := hide (H.out.tree' hK1 hT1)
  have HK1 := hide hK1
  clear hT1 hK1
  go_wp2_with fail
  go_ret
  exact ⟨rfl, H1.out, HK1.out⟩

theorem zero_tx (w : World) : Sem.run Tryz.prog (zeroValue 103) w = .ok (.agg #[.pointer none, .map none, .bool false]) w := by kernel_rfl
theorem zero_sight (w : World) : Sem.run Tryz.prog (zeroValue 97) w = .ok (.agg #[.int .u32 0, .int .i32 0, .int .u32 0, .slice none 0 0]) w := by kernel_rfl
theorem zero_store (w : World) : Sem.run Tryz.prog (zeroValue 99) w = .ok (.agg #[.pointer none, .pointer none, .pointer none, .int .i64 0, .int .i64 0, .pointer none]) w := by kernel_rfl
set_option maxRecDepth 100000 in
set_option maxHeartbeats 1600000 in
theorem xbegin {w : World} {O : Nat → Prop} {st b m N c vw : Nat} {fs : Option Bool} {did : Nat} {ld : List Kv} {ch : Bool} {l : List Kv} (h : StoreK w O st b m N c vw fs none did ld ch l) :
    Calls Tryz.prog 12 #[.pointer (some ⟨st, 0, none⟩)] w fun e w' => ∃ tb, e = .returned (.tuple #[.pointer (some ⟨tb, 0, none⟩), .int .i64 0]) ∧ StoreK w' O st b m N c vw fs (some tb) 0 ld ch l ∧ KeepO O w w' ∧ w.heap.size ≤ tb := by
  obtain ⟨OT, t, p, sg, h⟩ := h
  have h2 : w.cell? ⟨st, 2, none⟩ = some (.pointer none) := h.obj.c2
  have HC := hide (xdead h)
  have hz := zero_tx
  have hmm := @run_makeMap Tryz.prog
  clear h
  go_enter Tryz.func12, Tryz.ntmps12
  go_wp2_with fail
  refine HC.out.mono ?_
  rintro e w1 ⟨rfl, h1, hK1⟩
  have H1 := hide h1
  have HK1 := hide hK1
  have h21 : w1.cell? ⟨st, 2, none⟩ = some (.pointer none) := h1.obj.c2
  have f21 := h1.obj.fz 2
  have hsl := h1.obj.lt
  have hs1 := hK1.size
  clear h1 hK1
  go_wp2_with fail
  go_ret2
  have hTs : Turn [st] w1 (w1.setCell ⟨st, 2, none⟩ (.pointer (some ⟨w1.heap.size + 1, 0, none⟩))) := (Turn.refl [st] w1).setCell (List.mem_singleton.2 rfl) 2 _
  have hO1 : StAt (w1.setCell ⟨st, 2, none⟩ (.pointer (some ⟨w1.heap.size + 1, 0, none⟩))) st p t (some (w1.heap.size + 1)) c vw sg := H1.out.obj.set (tx' := some (w1.heap.size + 1)) 2 _ (by omega) rfl rfl rfl rfl
  have hz2 : (w1.setCell ⟨st, 2, none⟩ (.pointer (some ⟨w1.heap.size + 1, 0, none⟩))).heap.size = w1.heap.size := World.size_setCell ..
  generalize w1.setCell ⟨st, 2, none⟩ (.pointer (some ⟨w1.heap.size + 1, 0, none⟩)) = w2 at *
  rw [← hz2] at hO1 ⊢
  have hTa : Turn [] w2 ((w2.alloc (.map #[] 0)).alloc (.cells #[.pointer (some ⟨st, 0, none⟩), .map (some w2.heap.size), .bool false] 103)) := ((Turn.refl [] w2).alloc _).alloc _
  have hT : Turn [st] w1 _ := hTs.then hTa (by simp)
  have hob := H1.out.ob
  have hsub := H1.out.sub
  have hnO : ∀ x, w2.heap.size ≤ x → ¬ O x := fun x hx ho => by have := hob x (hsub x ho); omega
  have hmem : ∀ x, OT x ∨ x = w2.heap.size ∨ x = w2.heap.size + 1 → x < ((w2.alloc (.map #[] 0)).alloc (.cells #[.pointer (some ⟨st, 0, none⟩), .map (some w2.heap.size), .bool false] 103)).heap.size := fun x hx => by
    rcases hx with hx | hx | hx
    · have := hob x hx; simp; omega
    · simp; omega
    · simp; omega
  have hsgl := H1.out.sgl
  have hcf : ch = false := H1.out.txp
  have hll : l = ld := by subst hcf; exact H1.out.tree.same
  have hsi : SightG ((w2.alloc (.map #[] 0)).alloc (.cells #[.pointer (some ⟨st, 0, none⟩), .map (some w2.heap.size), .bool false] 103)) O OT sg ld fs := H1.out.sight.same (hT.block sg hsgl (by simp; exact H1.out.ne.symm)) (fun x ho hx => hT.block x hx (by simp; intro e; exact H1.out.nst (e ▸ ho)))
  refine ⟨w2.heap.size + 1, rfl, ⟨fun x => OT x ∨ x = w2.heap.size ∨ x = w2.heap.size + 1, t, p, sg, ⟨H1.out.tree.turn hT (fun x hx => by simp at hx; subst hx; exact H1.out.ost) (fun x hx => ?_) hmem, hO1.same (hTa.block st (by omega) (by simp)), ?_, fun x hx => .inl (hsub x hx), .inl H1.out.ost, H1.out.nst, H1.out.ne, ?_, .inl H1.out.osg⟩⟩, (HK1.out.less hsub).trans (KeepO.of hT (by simp; exact ⟨H1.out.nst, H1.out.tree.not1 H1.out.ost⟩)), by omega⟩
  · rcases hx with hx | hx | hx
    · exact .inl hx
    · exact .inr (by omega)
    · exact .inr (by omega)
  · exact hsi.wide (fun x hx => .inl hx) (fun x _ h => h) (fun x h => h)
  · have e1 : w2.heap.size + 1 = (w2.alloc (.map #[] 0)).heap.size := by simp
    have hc : ∀ o v, #[Value.pointer (some ⟨st, 0, none⟩), .map (some w2.heap.size), .bool false][o]? = some v → ((w2.alloc (.map #[] 0)).alloc (.cells #[.pointer (some ⟨st, 0, none⟩), .map (some w2.heap.size), .bool false] 103)).cell? ⟨w2.heap.size + 1, o, none⟩ = some v := fun o v hv => by
      rw [e1]
      exact (World.cell?_alloc_at _ _ _ _ rfl).trans hv
    refine ⟨w2.heap.size, 0, fun _ => none, ⟨hc 0 _ rfl, hc 1 _ rfl, hc 2 _ rfl, fun o => ?_⟩, ⟨.map [], 0, Nat.le_refl _, (World.ownsMap_made w2 Tryz.prog 9 noteElem).alloc _, rfl, fun k hk => ⟨rfl, rfl⟩⟩, by rw [hcf]; simp, fun k => by rw [hll], .inr (.inr rfl), .inr (.inl rfl), hnO _ (by omega), hnO _ (Nat.le_refl _), by omega, by omega, by omega, by omega, by omega⟩
    rw [e1]
    exact World.frozen?_alloc_at _ _ _ _ rfl

end Go.Proofs.YthgpjkcgccdldaaGreatDoor

namespace Go.Proofs.YthgpjkcgccdldaaGreatDoor
open Go.RowKit Go.Maps

theorem find_sub {l : List Kv} {p q : Kv → Bool} (h : ∀ x, q x = true → p x = true) : (l.filter p).find? q = l.find? q := by
  induction l with
  | nil => rfl
  | cons x l ih =>
    rw [List.filter_cons, List.find?_cons]
    by_cases hq : q x = true
    · rw [if_pos (h x hq), List.find?_cons, hq]
    · have hq' : q x = false := by simpa using hq
      rw [hq']
      by_cases hp : p x = true
      · rw [if_pos hp, List.find?_cons, hq']
        exact ih
      · rw [if_neg hp]
        exact ih
theorem getK_put_other {l : List Kv} {k k' v : ByteArray} (h : k' ≠ k) : getK (putK l k v) k' = getK l k' := by
  unfold getK putK
  rw [List.find?_append, List.find?_cons, decide_eq_false (show ¬ k = k' from fun e => h e.symm)]
  dsimp only
  rcases klt_tri k' k with h1 | h1 | h1
  · have hz : (l.filter fun x => decide (klt k x.1)).find? (fun x => decide (x.1 = k')) = none := by
      rw [List.find?_eq_none]
      intro x hx
      have hx2 := (List.mem_filter.1 hx).2
      have hx3 : klt k x.1 := by simpa using hx2
      simp only [decide_eq_true_eq]
      intro e
      rw [e] at hx3
      exact klt_asymm h1 hx3
    rw [find_sub (fun x hx => by have : x.1 = k' := by simpa using hx
                                 simpa [this] using h1), hz]
    cases l.find? (fun x => decide (x.1 = k')) <;> rfl
  · exact absurd h1 h
  · have hz : (l.filter fun x => decide (klt x.1 k)).find? (fun x => decide (x.1 = k')) = none := by
      rw [List.find?_eq_none]
      intro x hx
      have hx2 := (List.mem_filter.1 hx).2
      have hx3 : klt x.1 k := by simpa using hx2
      simp only [decide_eq_true_eq]
      intro e
      rw [e] at hx3
      exact klt_asymm h1 hx3
    rw [hz, find_sub (fun x hx => by have : x.1 = k' := by simpa using hx
                                     simpa [this] using h1)]
    rfl

theorem NotesOk.known {nt : ByteArray → Option Former} {ld l l' : List Kv} {k : ByteArray} (h : NotesOk nt ld l) (hk : (nt k).isSome = true) (hl : ∀ k', k' ≠ k → getK l' k' = getK l k') : NotesOk nt ld l' := fun k' => by
  have h1 := h k'
  cases hn : nt k' with
  | some f =>
    rw [hn] at h1
    exact h1
  | none =>
    rw [hn] at h1
    have hne : k' ≠ k := fun e => by rw [← e, hn] at hk; cases hk
    show getK l' k' = getK ld k'
    rw [hl k' hne]
    exact h1
theorem NotesOk.note {nt : ByteArray → Option Former} {ld l l' : List Kv} {k : ByteArray} (h : NotesOk nt ld l) (hk : (nt k).isSome = false) (hl : ∀ k', k' ≠ k → getK l' k' = getK l k') : NotesOk (fun k' => if k' = k then some (formerOf (getK l k)) else nt k') ld l' := fun k' => by
  by_cases e : k' = k
  · subst e
    have h1 := h k'
    cases hn : nt k' with
    | some f => rw [hn] at hk; cases hk
    | none =>
      rw [hn] at h1
      have h2 : getK l k' = getK ld k' := h1
      dsimp only
      rw [if_pos rfl, h2]
  · dsimp only
    rw [if_neg e]
    have h1 := h k'
    cases hn : nt k' with
    | some f =>
      rw [hn] at h1
      exact h1
    | none =>
      rw [hn] at h1
      show getK l' k' = getK ld k'
      rw [hl k' e]
      exact h1

/-- The tree has changed, and the notes. -/
theorem StoreG.noted {w w' : World} {O OT : Nat → Prop} {st t p b m sg N c vw : Nat} {fs : Option Bool} {tb : Nat} {did : Nat} {ld : List Kv} {ch : Bool} {l l' : List Kv} {mb sz' : Nat} {nt' : ByteArray → Option Former} (h : StoreG w O OT st t p b m sg N c vw fs (some tb) did ld ch l) (hK : KeepO (fun x => OT x ∧ x ≠ mb) w w') (hx : TxAt w tb mb st) (ho : OT tb ∧ OT mb ∧ ¬ O tb ∧ ¬ O mb ∧ tb ≠ mb ∧ tb ≠ st ∧ tb ≠ sg ∧ mb ≠ st ∧ mb ≠ sg) (hT : TreeG w' OT t p b m N c ld true l') (hN : NotesAt w' mb (did + 1) sz' nt') (hz : 0 < sz') (hO : NotesOk nt' ld l') : StoreG w' O OT st t p b m sg N c vw fs (some tb) (did + 1) ld true l' ∧ KeepO O w w' := by
  obtain ⟨h1, h2, h3, h4, h5, h6, h7, h8, h9⟩ := ho
  refine ⟨⟨hT, h.obj.same (hK.block ⟨h.ost, h8.symm⟩ h.obj.lt), h.sight.same (hK.block ⟨h.osg, h9.symm⟩ h.sgl) (fun x ho hx => hK.block ⟨h.sub x ho, fun e => h4 (e ▸ ho)⟩ hx), h.sub, h.ost, h.nst, h.ne, ⟨mb, sz', nt', hx.same (hK.block ⟨h1, h5⟩ hx.lt), hN, ⟨fun _ => rfl, fun _ => hz⟩, hO, h1, h2, h3, h4, h5, h6, h7, h8, h9⟩, h.osg⟩, hK.less fun x ho => ⟨h.sub x ho, fun e => h4 (e ▸ ho)⟩⟩

theorem StoreG.txs {w : World} {O OT : Nat → Prop} {st t p b m sg N c vw : Nat} {fs : Option Bool} {tb : Nat} {did : Nat} {ld : List Kv} {ch : Bool} {l : List Kv} (h : StoreG w O OT st t p b m sg N c vw fs (some tb) did ld ch l) : ∃ mb sz nt, TxAt w tb mb st ∧ NotesAt w mb did sz nt ∧ (0 < sz ↔ ch = true) ∧ NotesOk nt ld l ∧ (OT tb ∧ OT mb ∧ ¬ O tb ∧ ¬ O mb ∧ tb ≠ mb ∧ tb ≠ st ∧ tb ≠ sg ∧ mb ≠ st ∧ mb ≠ sg) := h.txp

set_option maxRecDepth 100000 in
set_option maxHeartbeats 800000 in
theorem isOver_no {w : World} {tb st : Nat} (h0 : w.cell? ⟨tb, 0, none⟩ = some (.pointer (some ⟨st, 0, none⟩))) : Calls Tryz.prog 39 #[.pointer (some ⟨tb, 0, none⟩)] w fun e w' => e = .returned (.bool false) ∧ w' = w := by
  go_enter Tryz.func39, Tryz.ntmps39
  go_wp2
  go_ret
  exact ⟨rfl, rfl⟩

theorem formerOf_eq (x : Option ByteArray) : formerV (formerOf x) = .agg #[.string (x.getD ⟨#[]⟩), .bool x.isSome] := rfl

set_option maxRecDepth 100000 in
set_option maxHeartbeats 1600000 in
theorem doPut_ok {w : World} {O OT : Nat → Prop} {st t p b m sg N c vw : Nat} {fs : Option Bool} {tb : Nat} {did : Nat} {ld : List Kv} {ch : Bool} {l : List Kv} (h : StoreG w O OT st t p b m sg N c vw fs (some tb) did ld ch l) (b3 b4 b5 : Nat) (k v : ByteArray) (hk1 : 0 < k.size) (hk : k.size ≤ 48) (hv : v.size ≤ 120) (hn : 2 * l.length + 2 * ld.length + 10 ≤ N) (hl : l.length ≤ 15000 ∧ ld.length ≤ 15000) (hb : OT b3 ∧ OT b4 ∧ OT b5) (h3 : w.cell? ⟨b3, 0, none⟩ = some (.pointer (some ⟨tb, 0, none⟩))) (h4 : w.cell? ⟨b4, 0, none⟩ = some (.string k)) (h5 : w.cell? ⟨b5, 0, none⟩ = some (.string v)) :
    Calls Tryz.prog 41 #[.pointer (some ⟨b3, 0, none⟩), .pointer (some ⟨b4, 0, none⟩), .pointer (some ⟨b5, 0, none⟩)] w fun e w' => e = .returned (.int .i64 0) ∧ TreeG w' OT t p b m N c ld true (putK l k v) ∧ KeepO OT w w' := by
  obtain ⟨mb, sz, nt, hx, -, -, -, hxs⟩ := h.txs
  have HC := hide (tgk_put (h.tree.turn (Turn.refl [] w).drew (by simp) (fun x hx => .inl hx) h.ob) k v hk1 hk hv hn hl)
  have HS0 := hide (show w.cell? ⟨tb, 0, none⟩ = some (.pointer (some ⟨st, 0, none⟩)) ∧ w.cell? ⟨st, 1, none⟩ = some (.pointer (some ⟨t, 0, none⟩)) ∧ w.cell? ⟨b3, 0, none⟩ = some (.pointer (some ⟨tb, 0, none⟩)) ∧ w.cell? ⟨b4, 0, none⟩ = some (.string k) ∧ w.cell? ⟨b5, 0, none⟩ = some (.string v) from ⟨hx.c0, h.obj.c1, h3, h4, h5⟩)
  have HS : Hid (∀ W : World, KeepO OT w W → W.cell? ⟨tb, 0, none⟩ = some (.pointer (some ⟨st, 0, none⟩)) ∧ W.cell? ⟨st, 1, none⟩ = some (.pointer (some ⟨t, 0, none⟩)) ∧ W.cell? ⟨b3, 0, none⟩ = some (.pointer (some ⟨tb, 0, none⟩)) ∧ W.cell? ⟨b4, 0, none⟩ = some (.string k) ∧ W.cell? ⟨b5, 0, none⟩ = some (.string v)) := fun W hW => by
    have hc : ∀ x o (v : Value), OT x → w.cell? ⟨x, o, none⟩ = some v → W.cell? ⟨x, o, none⟩ = some v := fun x o v ho hv => (World.cell?_of_block (a := ⟨x, o, none⟩) (hW.block ho (lt_of_cell hv))).trans hv
    exact ⟨hc _ _ _ hxs.1 hx.c0, hc _ _ _ h.ost h.obj.c1, hc _ _ _ hb.1 h3, hc _ _ _ hb.2.1 h4, hc _ _ _ hb.2.2 h5⟩
  clear h hx hxs hb h3 h4 h5 hn hl  
  go_enter Tryz.func41, Tryz.ntmps41
  go_wp2_with fail
  go_region_held3 (fun W => W.cell? ⟨tb, 0, none⟩ = some (.pointer (some ⟨st, 0, none⟩)) ∧ W.cell? ⟨st, 1, none⟩ = some (.pointer (some ⟨t, 0, none⟩)) ∧ W.cell? ⟨b3, 0, none⟩ = some (.pointer (some ⟨tb, 0, none⟩)) ∧ W.cell? ⟨b4, 0, none⟩ = some (.string k) ∧ W.cell? ⟨b5, 0, none⟩ = some (.string v)) (first | exact HS0.out | assumption | exact HS.out _ (KeepO.of0 (Turn.refl [] w).drew) | exact HS.out _ ((KeepO.of0 (Turn.refl [] w).drew).trans HK1.out)) (first | (go_at_call 42; with_reducible refine HC.out.mono ?_; rintro e w1 ⟨rfl, hT1, hK1'⟩; have HT1 := hide hT1; have HK1 := hide hK1'; clear hT1 hK1'))
  all_goals
    go_wp2_with fail
    go_ret
    exact ⟨rfl, HT1.out, (KeepO.of0 (Turn.refl [] w).drew).trans HK1.out⟩

set_option maxRecDepth 100000 in
set_option maxHeartbeats 1600000 in
theorem doPut_no {w : World} {O OT : Nat → Prop} {st t p b m sg N c vw : Nat} {fs : Option Bool} {tb : Nat} {did : Nat} {ld : List Kv} {ch : Bool} {l : List Kv} (h : StoreG w O OT st t p b m sg N c vw fs (some tb) did ld ch l) (b3 b4 b5 : Nat) (k v : ByteArray) (hbad : k.size = 0 ∨ 48 < k.size ∨ 120 < v.size) (hkl : k.size ≤ 140737488351232) (hvl : v.size ≤ 140737488351232) (hb : OT b3 ∧ OT b4 ∧ OT b5) (h3 : w.cell? ⟨b3, 0, none⟩ = some (.pointer (some ⟨tb, 0, none⟩))) (h4 : w.cell? ⟨b4, 0, none⟩ = some (.string k)) (h5 : w.cell? ⟨b5, 0, none⟩ = some (.string v)) :
    Calls Tryz.prog 41 #[.pointer (some ⟨b3, 0, none⟩), .pointer (some ⟨b4, 0, none⟩), .pointer (some ⟨b5, 0, none⟩)] w fun e w' => e = .returned (.int .i64 (mayE k v)) ∧ TreeG w' OT t p b m N c ld ch l ∧ KeepO OT w w' := by
  obtain ⟨mb, sz, nt, hx, -, -, -, hxs⟩ := h.txs
  have HC := hide (tgk_put_bad (h.tree.turn (Turn.refl [] w).drew (by simp) (fun x hx => .inl hx) h.ob) k v hbad hkl hvl)
  have HS0 := hide (show w.cell? ⟨tb, 0, none⟩ = some (.pointer (some ⟨st, 0, none⟩)) ∧ w.cell? ⟨st, 1, none⟩ = some (.pointer (some ⟨t, 0, none⟩)) ∧ w.cell? ⟨b3, 0, none⟩ = some (.pointer (some ⟨tb, 0, none⟩)) ∧ w.cell? ⟨b4, 0, none⟩ = some (.string k) ∧ w.cell? ⟨b5, 0, none⟩ = some (.string v) from ⟨hx.c0, h.obj.c1, h3, h4, h5⟩)
  have HS : Hid (∀ W : World, KeepO OT w W → W.cell? ⟨tb, 0, none⟩ = some (.pointer (some ⟨st, 0, none⟩)) ∧ W.cell? ⟨st, 1, none⟩ = some (.pointer (some ⟨t, 0, none⟩)) ∧ W.cell? ⟨b3, 0, none⟩ = some (.pointer (some ⟨tb, 0, none⟩)) ∧ W.cell? ⟨b4, 0, none⟩ = some (.string k) ∧ W.cell? ⟨b5, 0, none⟩ = some (.string v)) := fun W hW => by
    have hc : ∀ x o (v : Value), OT x → w.cell? ⟨x, o, none⟩ = some v → W.cell? ⟨x, o, none⟩ = some v := fun x o v ho hv => (World.cell?_of_block (a := ⟨x, o, none⟩) (hW.block ho (lt_of_cell hv))).trans hv
    exact ⟨hc _ _ _ hxs.1 hx.c0, hc _ _ _ h.ost h.obj.c1, hc _ _ _ hb.1 h3, hc _ _ _ hb.2.1 h4, hc _ _ _ hb.2.2 h5⟩
  generalize mayE k v = ec at *
  clear h hx hxs hb h3 h4 h5   
  go_enter Tryz.func41, Tryz.ntmps41
  go_wp2_with fail
  go_region_held3 (fun W => W.cell? ⟨tb, 0, none⟩ = some (.pointer (some ⟨st, 0, none⟩)) ∧ W.cell? ⟨st, 1, none⟩ = some (.pointer (some ⟨t, 0, none⟩)) ∧ W.cell? ⟨b3, 0, none⟩ = some (.pointer (some ⟨tb, 0, none⟩)) ∧ W.cell? ⟨b4, 0, none⟩ = some (.string k) ∧ W.cell? ⟨b5, 0, none⟩ = some (.string v)) (first | exact HS0.out | assumption | exact HS.out _ (KeepO.of0 (Turn.refl [] w).drew) | exact HS.out _ ((KeepO.of0 (Turn.refl [] w).drew).trans HK1.out)) (first | (go_at_call 42; with_reducible refine HC.out.mono ?_; rintro e w1 ⟨rfl, hT1, hK1'⟩; have HT1 := hide hT1; have HK1 := hide hK1'; clear hT1 hK1'))
  all_goals
    go_wp2_with fail
    go_ret
    exact ⟨rfl, HT1.out, (KeepO.of0 (Turn.refl [] w).drew).trans HK1.out⟩

set_option maxRecDepth 100000 in
set_option maxHeartbeats 3200000 in
theorem changePut_ok {w : World} {O OT : Nat → Prop} {st t p b m sg N c vw : Nat} {fs : Option Bool} {tb : Nat} {did : Nat} {ld : List Kv} {ch : Bool} {l : List Kv} (h : StoreG w O OT st t p b m sg N c vw fs (some tb) did ld ch l) (b3 b4 b5 : Nat) (k v : ByteArray) (hks : k.size ≤ 140737488351232) (hk1 : 0 < k.size) (hk : k.size ≤ 48) (hv : v.size ≤ 120) (hn : 2 * l.length + 2 * ld.length + 10 ≤ N) (hl : l.length ≤ 15000 ∧ ld.length ≤ 15000) (hb : OT b3 ∧ OT b4 ∧ OT b5) (hdid : did ≤ 900000) (h3 : w.cell? ⟨b3, 0, none⟩ = some (.pointer (some ⟨tb, 0, none⟩))) (h4 : w.cell? ⟨b4, 0, none⟩ = some (.string k)) (h5 : w.cell? ⟨b5, 0, none⟩ = some (.string v)) :
    Calls Tryz.prog 40 #[.pointer (some ⟨tb, 0, none⟩), .string k, .func (.func 41) #[] #[.pointer (some ⟨b3, 0, none⟩), .pointer (some ⟨b4, 0, none⟩), .pointer (some ⟨b5, 0, none⟩)]] w fun e w' => e = .returned (.int .i64 0) ∧ StoreG w' O OT st t p b m sg N c vw fs (some tb) (did + 1) ld true (putK l k v) ∧ KeepO O w w' := by
  obtain ⟨mb, sz, nt, hx, hN, hzc, hOk, hxs⟩ := h.txs
  have ht0 := hx.c0
  have hs1 := h.obj.c1
  have HG := hide (tgk_get h.tree k)
  unfold gotV at HG
  have H := hide h
  have HB := hide hb
  have HX := hide hx
  have HN := hide hN
  have HOk := hide hOk
  have HXs := hide hxs
  have hbl : b3 < w.heap.size ∧ b4 < w.heap.size ∧ b5 < w.heap.size := ⟨lt_of_cell h3, lt_of_cell h4, lt_of_cell h5⟩
  have HH := hide (show w.cell? ⟨b3, 0, none⟩ = some (.pointer (some ⟨tb, 0, none⟩)) ∧ w.cell? ⟨b4, 0, none⟩ = some (.string k) ∧ w.cell? ⟨b5, 0, none⟩ = some (.string v) from ⟨h3, h4, h5⟩)
  have HD : Hid (∀ W : World, KeepO OT w W → TreeG W OT t p b m N c ld ch l → Calls Tryz.prog 41 #[.pointer (some ⟨b3, 0, none⟩), .pointer (some ⟨b4, 0, none⟩), .pointer (some ⟨b5, 0, none⟩)] W fun e w' => e = .returned (.int .i64 0) ∧ TreeG w' OT t p b m N c ld true (putK l k v) ∧ KeepO OT w w') := fun W hW hT => by
    have hc : ∀ x (v : Value), OT x → w.cell? ⟨x, 0, none⟩ = some v → W.cell? ⟨x, 0, none⟩ = some v := fun x v ho hv => (World.cell?_of_block (a := ⟨x, 0, none⟩) (hW.block ho (lt_of_cell hv))).trans hv
    refine (doPut_ok (h.tree' hW hT) b3 b4 b5 k v hk1 hk hv hn hl hb (hc _ _ hb.1 h3) (hc _ _ hb.2.1 h4) (hc _ _ hb.2.2 h5)).mono ?_
    rintro e w' ⟨rfl, h1, h2⟩
    exact ⟨rfl, h1, hW.trans h2⟩
  have HFo := hide (formerOf_eq (getK l k))
  obtain ⟨gv, hgv⟩ : ∃ gv, gv = (getK l k).getD ⟨#[]⟩ := ⟨_, rfl⟩
  obtain ⟨gs, hgs⟩ : ∃ gs, gs = (getK l k).isSome := ⟨_, rfl⟩
  rw [← hgv, ← hgs] at HG HFo
  clear h hx hN hOk hxs hb h3 h4 h5 hn  hgv hgs
  go_enter Tryz.func40, Tryz.ntmps40
  go_wp2_with fail
  refine HG.out.mono ?_
  rintro e w1 ⟨rfl, hT1, hK1⟩
  have HD1 := hide (HD.out w1 hK1 hT1)
  clear hT1 hK1 HD
  go_wp2_with fail
  refine HD1.out.mono ?_
  rintro e w2 ⟨rfl, hT2, hK2⟩
  have hm1 := (World.cell?_of_block (a := ⟨tb, 1, none⟩) (hK2.block HXs.out.1 HX.out.lt)).trans HX.out.c1
  have hN2 := HN.out.of_block (hK2.block HXs.out.2.1 HN.out.lt)
  have hlook := hN2.look (key := k) (by omega)
  obtain ⟨⟨f1, f2⟩, hf⟩ : ∃ f : Former, f = (nt k).getD (⟨#[]⟩, false) := ⟨_, rfl⟩
  rw [← hf] at hlook
  unfold formerV at hlook
  simp only at hlook
  clear hf
  have HT2 := hide hT2
  have HK2 := hide hK2
  have HN2 := hide hN2
  have hTa : Turn [] w2 (w2.alloc (.cells #[.string f1, .bool f2] 133)) := (Turn.refl [] w2).alloc _
  have hm3 : (w2.alloc (.cells #[.string f1, .bool f2] 133)).cell? ⟨tb, 1, none⟩ = some (.map (some mb)) := Lib.cell?_alloc_some _ hm1
  cases hhas : (nt k).isSome with
  | true =>
    rw [hhas] at hlook
    have HHas := hide hhas
    have HTa := hide hTa
    clear hT2 hK2 hN2 hhas hTa
    go_wp2_with fail
    go_ret
    have hb2 : ∀ x, OT x → x < (w2.alloc (.cells #[.string f1, .bool f2] 133)).heap.size := fun x hx => Nat.lt_of_lt_of_le (HT2.out.ob x hx) HTa.out.size
    obtain ⟨D, q, hq, hM, hs, hat⟩ := HN2.out.of_block (HTa.out.block mb HN2.out.lt (by simp))
    have hpos : 0 < sz := by
      refine Classical.byContradiction fun hc => ?_
      have hz0 : Maps.size D = 0 := by omega
      have h1 := (hat k (by omega)).1
      rw [HHas.out] at h1
      obtain ⟨es, rfl⟩ := hM.isMap
      have : es = [] := List.eq_nil_of_length_eq_zero (by simpa [Maps.size] using hz0)
      subst this
      simp [Maps.has] at h1
    have hr := H.out.noted (w' := w2.alloc (.cells #[.string f1, .bool f2] 133)) (mb := mb) (sz' := sz) (nt' := nt) (l' := (putK l k v)) ((HK2.out.less (fun x hx => hx.1)).trans (KeepO.of0 HTa.out)) HX.out HXs.out (HT2.out.turn HTa.out (by simp) (fun x hx => .inl hx) hb2) ⟨D, q, by omega, hM, hs, hat⟩ hpos (HOk.out.known HHas.out (fun k' he => getK_put_other he))
    exact ⟨rfl, hr⟩
  | false =>
    rw [hhas] at hlook
    have HHas := hide hhas
    have HUp : Hid (∀ w5 : World, Turn [] w2 w5 → ∃ w6, (Instr.mapUpdate 101 (.map (some mb)) (.string k) (.agg #[.string gv, .bool gs])).run Tryz.prog w5 = .ok () w6 ∧ w5.cell? ⟨tb, 1, none⟩ = some (.map (some mb)) ∧ (StoreG w6 O OT st t p b m sg N c vw fs (some tb) (did + 1) ld true (putK l k v) ∧ KeepO O w w6)) := fun w5 hT5 => by
      have hN5 := HN2.out.of_block (hT5.block mb HN2.out.lt (by simp))
      obtain ⟨w6, hrun, hown, hT6⟩ := hN5.put (by omega) (key := k) (by omega) HHas.out (formerOf (getK l k))
      rw [HFo.out] at hrun
      have hb5 : ∀ x, OT x → x < w6.heap.size := fun x hx => Nat.lt_of_lt_of_le (Nat.lt_of_lt_of_le (HT2.out.ob x hx) hT5.size) hT6.size
      refine ⟨w6, hrun, (hT5.cell (p := ⟨tb, 1, none⟩) (lt_of_cell hm1) (by simp)).trans hm1, H.out.noted (mb := mb) (((HK2.out.less (fun x hx => hx.1)).trans (KeepO.of0 hT5)).trans (KeepO.of hT6 (by simp; exact H.out.tree.not1 HXs.out.2.1))) HX.out HXs.out (HT2.out.turn ((hT5.mono (T := [mb]) (by simp)).trans hT6) ?_ (fun x hx => .inl hx) hb5) hown (Nat.succ_pos _) (HOk.out.note HHas.out (fun k' he => getK_put_other he))⟩
      simp
      exact HXs.out.2.1
    have HTa := hide hTa
    clear hT2 hK2 hN2 hhas hTa
    go_wp2_with fail
    go_region_with (go_at_call 65; refine (sclone_any k _ (by omega)).mono ?_; rintro e w5 ⟨rfl, hT5⟩; obtain ⟨w6, hrun, hm5, hfin⟩ := HUp.out w5 (HTa.out.trans (((Turn.refl [] _).drew).trans hT5)); have HFin := hide hfin; clear hT5 hfin)
    all_goals
      go_wp2_with fail
      go_ret
      exact ⟨rfl, HFin.out⟩

set_option maxRecDepth 100000 in
set_option maxHeartbeats 3200000 in
theorem changePut_no {w : World} {O OT : Nat → Prop} {st t p b m sg N c vw : Nat} {fs : Option Bool} {tb : Nat} {did : Nat} {ld : List Kv} {ch : Bool} {l : List Kv} (h : StoreG w O OT st t p b m sg N c vw fs (some tb) did ld ch l) (b3 b4 b5 : Nat) (k v : ByteArray) (hks : k.size ≤ 140737488351232) (hbad : k.size = 0 ∨ 48 < k.size ∨ 120 < v.size) (hkl : k.size ≤ 140737488351232) (hvl : v.size ≤ 140737488351232) (hb : OT b3 ∧ OT b4 ∧ OT b5) (_hdid : did ≤ 900000) (h3 : w.cell? ⟨b3, 0, none⟩ = some (.pointer (some ⟨tb, 0, none⟩))) (h4 : w.cell? ⟨b4, 0, none⟩ = some (.string k)) (h5 : w.cell? ⟨b5, 0, none⟩ = some (.string v)) :
    Calls Tryz.prog 40 #[.pointer (some ⟨tb, 0, none⟩), .string k, .func (.func 41) #[] #[.pointer (some ⟨b3, 0, none⟩), .pointer (some ⟨b4, 0, none⟩), .pointer (some ⟨b5, 0, none⟩)]] w fun e w' => e = .returned (.int .i64 (mayE k v)) ∧ StoreG w' O OT st t p b m sg N c vw fs (some tb) did ld ch l ∧ KeepO O w w' := by
  obtain ⟨mb, sz, nt, hx, hN, hzc, hOk, hxs⟩ := h.txs
  have ht0 := hx.c0
  have hs1 := h.obj.c1
  have HG := hide (tgk_get h.tree k)
  unfold gotV at HG
  have H := hide h
  have HB := hide hb
  have HX := hide hx
  have HN := hide hN
  have HOk := hide hOk
  have HXs := hide hxs
  have hbl : b3 < w.heap.size ∧ b4 < w.heap.size ∧ b5 < w.heap.size := ⟨lt_of_cell h3, lt_of_cell h4, lt_of_cell h5⟩
  have HH := hide (show w.cell? ⟨b3, 0, none⟩ = some (.pointer (some ⟨tb, 0, none⟩)) ∧ w.cell? ⟨b4, 0, none⟩ = some (.string k) ∧ w.cell? ⟨b5, 0, none⟩ = some (.string v) from ⟨h3, h4, h5⟩)
  have HD : Hid (∀ W : World, KeepO OT w W → TreeG W OT t p b m N c ld ch l → Calls Tryz.prog 41 #[.pointer (some ⟨b3, 0, none⟩), .pointer (some ⟨b4, 0, none⟩), .pointer (some ⟨b5, 0, none⟩)] W fun e w' => e = .returned (.int .i64 (mayE k v)) ∧ TreeG w' OT t p b m N c ld ch l ∧ KeepO OT w w') := fun W hW hT => by
    have hc : ∀ x (v : Value), OT x → w.cell? ⟨x, 0, none⟩ = some v → W.cell? ⟨x, 0, none⟩ = some v := fun x v ho hv => (World.cell?_of_block (a := ⟨x, 0, none⟩) (hW.block ho (lt_of_cell hv))).trans hv
    refine (doPut_no (h.tree' hW hT) b3 b4 b5 k v hbad hkl hvl hb (hc _ _ hb.1 h3) (hc _ _ hb.2.1 h4) (hc _ _ hb.2.2 h5)).mono ?_
    rintro e w' ⟨rfl, h1, h2⟩
    exact ⟨rfl, h1, hW.trans h2⟩
  have hm0 : (mayE k v == 0) = false ∧ (mayE k v == 13) = false := by
    unfold mayE
    by_cases h1 : k.size = 0 ∨ 48 < k.size
    · rw [if_pos h1]; exact ⟨rfl, rfl⟩
    · rw [if_neg h1, if_pos (by omega)]; exact ⟨rfl, rfl⟩
  obtain ⟨hm0, hm13⟩ := hm0
  generalize mayE k v = ec at *
  generalize (getK l k).getD ⟨#[]⟩ = gv at *
  generalize (getK l k).isSome = gs at *
  clear h hx hN hOk hxs hb h3 h4 h5   
  go_enter Tryz.func40, Tryz.ntmps40
  go_wp2_with fail
  refine HG.out.mono ?_
  rintro e w1 ⟨rfl, hT1, hK1⟩
  have HD1 := hide (HD.out w1 hK1 hT1)
  clear hT1 hK1 HD
  go_wp2_with fail
  refine HD1.out.mono ?_
  rintro e w2 ⟨rfl, hT2, hK2⟩
  have HT2 := hide hT2
  have HK2 := hide hK2
  clear hT2 hK2
  go_wp2_with fail
  go_ret
  exact ⟨rfl, H.out.tree' HK2.out HT2.out, HK2.out.less H.out.sub⟩

set_option maxRecDepth 100000 in
set_option maxHeartbeats 1600000 in
theorem xput_ok {w : World} {O : Nat → Prop} {st b m N c vw : Nat} {fs : Option Bool} {tb did : Nat} {ld : List Kv} {ch : Bool} {l : List Kv} (h : StoreK w O st b m N c vw fs (some tb) did ld ch l) (k v : ByteArray) (hks : k.size ≤ 140737488351232) (hk1 : 0 < k.size) (hk : k.size ≤ 48) (hv : v.size ≤ 120) (hn : 2 * l.length + 2 * ld.length + 10 ≤ N) (hl : l.length ≤ 15000 ∧ ld.length ≤ 15000) (hdid : did ≤ 900000) :
    Calls Tryz.prog 13 #[.pointer (some ⟨tb, 0, none⟩), .string k, .string v] w fun e w' => e = .returned (.int .i64 0) ∧ StoreK w' O st b m N c vw fs (some tb) (did + 1) ld true (putK l k v) ∧ KeepO O w w' := by
  obtain ⟨OT, t, p, sg, h⟩ := h
  have hTa : Turn [] w (((w.alloc (.cells #[.pointer (some ⟨tb, 0, none⟩)] 32)).alloc (.cells #[.string k] 9)).alloc (.cells #[.string v] 9)) := ((((Turn.refl [] w).alloc _).alloc _).alloc _)
  have hsz : (((w.alloc (.cells #[.pointer (some ⟨tb, 0, none⟩)] 32)).alloc (.cells #[.string k] 9)).alloc (.cells #[.string v] 9)).heap.size = w.heap.size + 3 := by simp
  have hG := h.grow hTa
  obtain ⟨mb, sz, nt, hx, -⟩ := hG.txs
  have hx0 := hx.c0
  have e1 : w.heap.size + 1 = (w.alloc (.cells #[.pointer (some ⟨tb, 0, none⟩)] 32)).heap.size := by simp
  have e2 : w.heap.size + 2 = ((w.alloc (.cells #[.pointer (some ⟨tb, 0, none⟩)] 32)).alloc (.cells #[.string k] 9)).heap.size := by simp
  have h3 : (((w.alloc (.cells #[.pointer (some ⟨tb, 0, none⟩)] 32)).alloc (.cells #[.string k] 9)).alloc (.cells #[.string v] 9)).cell? ⟨w.heap.size, 0, none⟩ = some (.pointer (some ⟨tb, 0, none⟩)) := by exact Lib.cell?_alloc_some _ (Lib.cell?_alloc_some _ (World.cell?_alloc_at _ _ _ _ rfl))
  have h4 : (((w.alloc (.cells #[.pointer (some ⟨tb, 0, none⟩)] 32)).alloc (.cells #[.string k] 9)).alloc (.cells #[.string v] 9)).cell? ⟨w.heap.size + 1, 0, none⟩ = some (.string k) := by rw [e1]; exact Lib.cell?_alloc_some _ (World.cell?_alloc_at _ _ _ _ rfl)
  have h5 : (((w.alloc (.cells #[.pointer (some ⟨tb, 0, none⟩)] 32)).alloc (.cells #[.string k] 9)).alloc (.cells #[.string v] 9)).cell? ⟨w.heap.size + 2, 0, none⟩ = some (.string v) := by rw [e2]; exact World.cell?_alloc_at _ _ _ _ rfl
  have HC := hide (changePut_ok hG w.heap.size (w.heap.size + 1) (w.heap.size + 2) k v hks hk1 hk hv hn hl ⟨.inr (by omega), .inr (by omega), .inr (by omega)⟩ hdid h3 h4 h5)
  have HK := hide (KeepO.of0 (O := O) hTa)
  have hmf : ∀ (fn : Fn) (first cap : Array Value) (w : World), (Instr.makeFunc fn first cap).run Tryz.prog w = .ok (.func fn first cap) w := fun _ _ _ _ => rfl
  skip
  clear h hG hx hTa hsz e1 e2 hn 
  go_enter Tryz.func13, Tryz.ntmps13
  go_wp2_with fail
  refine (isOver_no hx0).mono ?_
  rintro e w1 ⟨rfl, rfl⟩
  go_wp2_with fail
  refine HC.out.mono ?_
  rintro e w2 ⟨rfl, h2, hK2⟩
  have H2 := hide h2
  have HK2 := hide (HK.out.trans hK2)
  clear h2 hK2
  go_wp2_with fail
  go_ret
  exact ⟨rfl, ⟨_, t, p, sg, H2.out⟩, HK2.out⟩

set_option maxRecDepth 100000 in
set_option maxHeartbeats 1600000 in
theorem xput_no {w : World} {O : Nat → Prop} {st b m N c vw : Nat} {fs : Option Bool} {tb did : Nat} {ld : List Kv} {ch : Bool} {l : List Kv} (h : StoreK w O st b m N c vw fs (some tb) did ld ch l) (k v : ByteArray) (hks : k.size ≤ 140737488351232) (hbad : k.size = 0 ∨ 48 < k.size ∨ 120 < v.size) (hkl : k.size ≤ 140737488351232) (hvl : v.size ≤ 140737488351232) (hdid : did ≤ 900000) :
    Calls Tryz.prog 13 #[.pointer (some ⟨tb, 0, none⟩), .string k, .string v] w fun e w' => e = .returned (.int .i64 (mayE k v)) ∧ StoreK w' O st b m N c vw fs (some tb) did ld ch l ∧ KeepO O w w' := by
  obtain ⟨OT, t, p, sg, h⟩ := h
  have hTa : Turn [] w (((w.alloc (.cells #[.pointer (some ⟨tb, 0, none⟩)] 32)).alloc (.cells #[.string k] 9)).alloc (.cells #[.string v] 9)) := ((((Turn.refl [] w).alloc _).alloc _).alloc _)
  have hsz : (((w.alloc (.cells #[.pointer (some ⟨tb, 0, none⟩)] 32)).alloc (.cells #[.string k] 9)).alloc (.cells #[.string v] 9)).heap.size = w.heap.size + 3 := by simp
  have hG := h.grow hTa
  obtain ⟨mb, sz, nt, hx, -⟩ := hG.txs
  have hx0 := hx.c0
  have e1 : w.heap.size + 1 = (w.alloc (.cells #[.pointer (some ⟨tb, 0, none⟩)] 32)).heap.size := by simp
  have e2 : w.heap.size + 2 = ((w.alloc (.cells #[.pointer (some ⟨tb, 0, none⟩)] 32)).alloc (.cells #[.string k] 9)).heap.size := by simp
  have h3 : (((w.alloc (.cells #[.pointer (some ⟨tb, 0, none⟩)] 32)).alloc (.cells #[.string k] 9)).alloc (.cells #[.string v] 9)).cell? ⟨w.heap.size, 0, none⟩ = some (.pointer (some ⟨tb, 0, none⟩)) := by exact Lib.cell?_alloc_some _ (Lib.cell?_alloc_some _ (World.cell?_alloc_at _ _ _ _ rfl))
  have h4 : (((w.alloc (.cells #[.pointer (some ⟨tb, 0, none⟩)] 32)).alloc (.cells #[.string k] 9)).alloc (.cells #[.string v] 9)).cell? ⟨w.heap.size + 1, 0, none⟩ = some (.string k) := by rw [e1]; exact Lib.cell?_alloc_some _ (World.cell?_alloc_at _ _ _ _ rfl)
  have h5 : (((w.alloc (.cells #[.pointer (some ⟨tb, 0, none⟩)] 32)).alloc (.cells #[.string k] 9)).alloc (.cells #[.string v] 9)).cell? ⟨w.heap.size + 2, 0, none⟩ = some (.string v) := by rw [e2]; exact World.cell?_alloc_at _ _ _ _ rfl
  have HC := hide (changePut_no hG w.heap.size (w.heap.size + 1) (w.heap.size + 2) k v hks hbad hkl hvl ⟨.inr (by omega), .inr (by omega), .inr (by omega)⟩ hdid h3 h4 h5)
  have HK := hide (KeepO.of0 (O := O) hTa)
  have hmf : ∀ (fn : Fn) (first cap : Array Value) (w : World), (Instr.makeFunc fn first cap).run Tryz.prog w = .ok (.func fn first cap) w := fun _ _ _ _ => rfl
  generalize mayE k v = ec at *
  clear h hG hx hTa hsz e1 e2  
  go_enter Tryz.func13, Tryz.ntmps13
  go_wp2_with fail
  refine (isOver_no hx0).mono ?_
  rintro e w1 ⟨rfl, rfl⟩
  go_wp2_with fail
  refine HC.out.mono ?_
  rintro e w2 ⟨rfl, h2, hK2⟩
  have H2 := hide h2
  have HK2 := hide (HK.out.trans hK2)
  clear h2 hK2
  go_wp2_with fail
  go_ret
  exact ⟨rfl, ⟨_, t, p, sg, H2.out⟩, HK2.out⟩

end Go.Proofs.YthgpjkcgccdldaaGreatDoor

namespace Go.Proofs.YthgpjkcgccdldaaGreatDoor
open Go.RowKit Go.Maps

set_option maxRecDepth 100000 in
set_option maxHeartbeats 800000 in
theorem aload {w : World} {a : Nat} {o : Nat} {x : Int} (h : w.cell? ⟨a, o, none⟩ = some (.int .i64 x)) : Calls Tryz.prog 55 #[.pointer (some ⟨a, o, none⟩)] w fun e w' => e = .returned (.int .i64 x) ∧ w' = w := by
  have hl := run_call_load (P := Tryz.prog) Tryz.func83 (by kernel_rfl) (by kernel_rfl) (by kernel_rfl) .i64 (by kernel_rfl) h
  go_enter Tryz.func55, Tryz.ntmps55
  go_wp2
  go_ret
  exact ⟨rfl, rfl⟩

set_option maxRecDepth 100000 in
set_option maxHeartbeats 800000 in
theorem astore {w : World} {a : Nat} {o : Nat} {x y : Int} (h : w.cell? ⟨a, o, none⟩ = some (.int .i64 x)) (hz : w.frozen? ⟨a, o, none⟩ = false) : Calls Tryz.prog 36 #[.pointer (some ⟨a, o, none⟩), .int .i64 y] w fun e w' => e = .returned (.tuple #[]) ∧ w' = w.setCell ⟨a, o, none⟩ (.int .i64 y) := by
  have hst := run_call_store (P := Tryz.prog) Tryz.func63 (by kernel_rfl) (by kernel_rfl) (by kernel_rfl) (by kernel_rfl) (k := .i64) (y := y) h hz
  go_enter Tryz.func36, Tryz.ntmps36
  go_wp2
  go_end0
  exact ⟨rfl, rfl⟩

set_option maxRecDepth 100000 in
set_option maxHeartbeats 800000 in
theorem aadd {w : World} {a : Nat} {o : Nat} {x : Nat} (hx : x ≤ 1000000) (h : w.cell? ⟨a, o, none⟩ = some (.int .i64 (x : Nat))) (hz : w.frozen? ⟨a, o, none⟩ = false) : Calls Tryz.prog 46 #[.pointer (some ⟨a, o, none⟩), .int .i64 1] w fun e w' => (∃ v, e = .returned v) ∧ w' = w.setCell ⟨a, o, none⟩ (.int .i64 ((x + 1 : Nat) : Int)) := by
  have hw : IntKind.i64.wrap ((x : Int) + 1) = ((x + 1 : Nat) : Int) := by
    rw [IntKind.wrap_i64]
    omega
  have hs : (Op.intArith .add .i64 (x : Int) 1).run Tryz.prog w = .ok (.int .i64 ((x + 1 : Nat) : Int)) w := by
    rw [← hw]
    rfl
  have hadd := run_call_add (P := Tryz.prog) Tryz.func73 (by kernel_rfl) (by kernel_rfl) (by kernel_rfl) .i64 (by kernel_rfl) (y := 1) (s := ((x + 1 : Nat) : Int)) h hz hs
  go_enter Tryz.func46, Tryz.ntmps46
  go_wp2
  go_ret
  exact ⟨⟨_, rfl⟩, rfl⟩

set_option maxRecDepth 100000 in
set_option maxHeartbeats 1600000 in
theorem end_any {w : World} {st p t c vw sg tb mb : Nat} (h : StAt w st p t (some tb) c vw sg) (hx : TxAt w tb mb st) (hne : tb ≠ st) :
    Calls Tryz.prog 47 #[.pointer (some ⟨tb, 0, none⟩)] w fun e w' => e = .returned (.tuple #[]) ∧ StAt w' st p t none c vw sg ∧ w'.cell? ⟨tb, 0, none⟩ = some (.pointer none) ∧ Turn [st, tb] w w' := by
  have h0 := hx.c0
  have h1 := hx.c1
  have h2 := hx.c2
  have f0 := hx.fz 0
  have f1 := hx.fz 1
  have f2 := hx.fz 2
  have s2 := h.c2
  have g2 := h.fz 2
  have hz := zero_tx
  have HS : Hid (StAt (w.setCell ⟨st, 2, none⟩ (.pointer none)) st p t none c vw sg) := h.set (tx' := none) 2 _ (by omega) rfl rfl rfl rfl
  have hsl := h.lt
  have HC0 : Hid (((((w.setCell ⟨st, 2, none⟩ (.pointer none)).setCell ⟨tb, 0, none⟩ (.pointer none)).setCell ⟨tb, 1, none⟩ (.map none)).setCell ⟨tb, 2, none⟩ (.bool false)).cell? ⟨tb, 0, none⟩ = some (.pointer none)) := by
    have e0 : (w.setCell ⟨st, 2, none⟩ (.pointer none)).cell? ⟨tb, 0, none⟩ = some (.pointer (some ⟨st, 0, none⟩)) := (World.cell?_setCell_other _ _ _ _ (fun e => hne (by injection e with e; exact e.symm))).trans h0
    exact (World.cell?_setCell_other _ _ _ _ (off_ne (by omega))).trans ((World.cell?_setCell_other _ _ _ _ (off_ne (by omega))).trans (World.cell?_setCell_same _ _ _ e0))
  clear h hx
  go_enter Tryz.func47, Tryz.ntmps47
  go_wp2_with fail
  go_end0
  have hTs : Turn [tb] (w.setCell ⟨st, 2, none⟩ (.pointer none)) ((((w.setCell ⟨st, 2, none⟩ (.pointer none)).setCell ⟨tb, 0, none⟩ (.pointer none)).setCell ⟨tb, 1, none⟩ (.map none)).setCell ⟨tb, 2, none⟩ (.bool false)) := (((Turn.refl [tb] _).setCell (List.mem_singleton.2 rfl) _ _).setCell (List.mem_singleton.2 rfl) _ _).setCell (List.mem_singleton.2 rfl) _ _
  refine ⟨rfl, HS.out.same (hTs.block st (by rw [World.size_setCell]; exact hsl) (by simp; exact hne.symm)), HC0.out, (((Turn.refl [st] w).setCell (List.mem_singleton.2 rfl) 2 (.pointer none)).mono (by simp)).trans (hTs.mono (by simp))⟩

set_option maxRecDepth 100000 in
set_option maxHeartbeats 1600000 in
theorem tcommit {w : World} {O OT : Nat → Prop} {st t p b m sg N c vw : Nat} {fs : Option Bool} {tb did : Nat} {ld : List Kv} {ch : Bool} {l : List Kv} (h : StoreG w O OT st t p b m sg N c vw fs (some tb) did ld ch l) (hn : 2 * l.length + 2 * ld.length + 10 ≤ N) (hl : l.length ≤ 1900 ∧ ld.length ≤ 1900) (hc : c ≤ 140) :
    Calls Tryz.prog 45 #[.pointer (some ⟨tb, 0, none⟩)] w fun e w' => e = .returned (.int .i64 0) ∧ TreeG w' OT t p b m N (if ch = true then c + 1 else c) l false l ∧ KeepO OT w w' := by
  obtain ⟨mb, sz, nt, hx, -, -, -, hxs⟩ := h.txs
  have h0 := hx.c0
  have HD := hide (xdead h)
  have HX := hide hx
  have HXs := hide hxs
  have HB := hide (show (2 * l.length + 2 * ld.length + 10 ≤ N) ∧ (l.length ≤ 1900 ∧ ld.length ≤ 1900) ∧ c ≤ 140 from ⟨hn, hl, hc⟩)
  obtain ⟨c', hc'⟩ : ∃ c', c' = if ch = true then c + 1 else c := ⟨_, rfl⟩
  rw [← hc']
  have HC' := hide hc'
  clear h hx hxs hn hl hc hc'
  go_enter Tryz.func45, Tryz.ntmps45
  go_wp2_with fail
  refine HD.out.mono ?_
  rintro e w1 ⟨rfl, h1, hK1⟩
  have hx1 := HX.out.same (hK1.block HXs.out.1 HX.out.lt)
  have h01 := hx1.c0
  have h21 := hx1.c2
  have s11 := h1.obj.c1
  have HC := hide (tgk_commit h1.tree HB.out.1 HB.out.2.1 HB.out.2.2)
  rw [← HC'.out] at HC
  have HK1 := hide hK1
  clear h1 hK1 hx1
  go_wp2_with fail
  refine HC.out.mono ?_
  rintro e w2 ⟨rfl, hT2, hK2⟩
  have HT2 := hide hT2
  have HK2 := hide (HK1.out.trans hK2)
  clear hT2 hK2
  go_wp2_with fail
  go_ret
  exact ⟨rfl, HT2.out, HK2.out⟩

/-- The transaction is over, the sight is what it was. -/
theorem com_same {w w2 w5 : World} {O OT : Nat → Prop} {st t p b m sg N c vw : Nat} {fs : Option Bool} {tb did : Nat} {ld : List Kv} {ch : Bool} {l : List Kv} (h : StoreG w O OT st t p b m sg N c vw fs (some tb) did ld ch l) (ho : OT tb ∧ ¬ O tb ∧ tb ≠ sg) (hT2 : TreeG w2 OT t p b m N c ld false ld) (hK2 : KeepO OT w w2) (hO : StAt w5 st p t none c vw sg) (hT5 : Turn [st, tb] w2 w5) : StoreK w5 O st b m N c vw fs none 0 ld false ld ∧ KeepO O w w5 := by
  have hob2 : ∀ x, OT x → x < w2.heap.size := hT2.ob
  have hb5 : ∀ x, OT x → x < w5.heap.size := fun x hx => Nat.lt_of_lt_of_le (hob2 x hx) hT5.size
  have hin : ∀ x ∈ [st, tb], OT x := fun x hx => by
    simp at hx
    rcases hx with rfl | rfl
    · exact h.ost
    · exact ho.1
  have hno : ∀ x ∈ [st, tb], ¬ O x := fun x hx => by
    simp at hx
    rcases hx with rfl | rfl
    · exact h.nst
    · exact ho.2.1
  refine ⟨⟨OT, t, p, sg, ⟨hT2.turn hT5 hin (fun x hx => .inl hx) hb5, hO, (h.sight.same (hK2.block h.osg h.sgl) (fun x ho hx => hK2.block (h.sub x ho) hx)).same (hT5.block sg (hob2 sg h.osg) (by simp; exact ⟨h.ne.symm, ho.2.2.symm⟩)) (fun x hx hl => hT5.block x hl (fun hm => hno x hm hx)), h.sub, h.ost, h.nst, h.ne, rfl, h.osg⟩⟩, (hK2.less h.sub).trans (KeepO.of hT5 fun x hx => ⟨hno x hx, hT2.not1 (hin x hx)⟩)⟩

/-- The transaction is over, there is a new sight. -/
theorem com_new {w w2 w3 w5 : World} {O OT : Nat → Prop} {st t p b m sg N c c' vw sg' : Nat} {fs : Option Bool} {tb did : Nat} {ld : List Kv} {ch : Bool} {l : List Kv} (h : StoreG w O OT st t p b m sg N c vw fs (some tb) did ld ch l) (ho : OT tb ∧ ¬ O tb ∧ tb ≠ sg) (hT2 : TreeG w2 OT t p b m N c' l false l) (hK2 : KeepO OT w w2) (hT3 : Turn [st] w2 w3) (hs' : SightAt w3 sg' 0 (.slice none 0 0)) (hsn : w2.heap.size ≤ sg') (hO : StAt w5 st p t none c' vw sg') (hT5 : Turn [st, tb] w3 w5) (hb : sg' < w3.heap.size) : StoreK w5 O st b m N c' vw (some true) none 0 l false l ∧ KeepO O w w5 := by
  have hob2 : ∀ x, OT x → x < w2.heap.size := hT2.ob
  have hstl : st < w2.heap.size := hob2 st h.ost
  have htbl : tb < w2.heap.size := hob2 tb ho.1
  have hT25 : Turn [st, tb] w2 w5 := (hT3.mono (by simp)).trans hT5
  have hin : ∀ x ∈ [st, tb], OT x := fun x hx => by
    simp at hx
    rcases hx with rfl | rfl
    · exact h.ost
    · exact ho.1
  have hno : ∀ x ∈ [st, tb], ¬ O x := fun x hx => by
    simp at hx
    rcases hx with rfl | rfl
    · exact h.nst
    · exact ho.2.1
  have hb5 : ∀ x, OT x ∨ x = sg' → x < w5.heap.size := fun x hx => by
    have := hT5.size
    rcases hx with hx | hx
    · have := hob2 x hx; have := hT3.size; omega
    · omega
  refine ⟨⟨fun x => OT x ∨ x = sg', t, p, sg', ⟨hT2.turn hT25 hin (fun x hx => ?_) hb5, hO, ⟨hs'.same (hT5.block sg' hb (by simp; omega)), .inr rfl, fun ho => ?_⟩, fun x hx => .inl (h.sub x hx), .inl h.ost, h.nst, by omega, rfl, .inr rfl⟩⟩, (hK2.less h.sub).trans (KeepO.of hT25 fun x hx => ⟨hno x hx, hT2.not1 (hin x hx)⟩)⟩
  · rcases hx with hx | hx
    · exact .inl hx
    · exact .inr (by omega)
  · have := hob2 _ (h.sub _ ho)
    omega

theorem sight_new (W : World) (n : Nat) (hn : W.heap.size = n) : SightAt (W.alloc (.cells #[.int .u32 0, .int .i32 0, .int .u32 0, .slice none 0 0] 97)) n 0 (.slice none 0 0) := by
  subst hn
  exact ⟨World.cell?_alloc_at _ _ _ _ rfl, World.cell?_alloc_at _ _ _ _ rfl, World.cell?_alloc_at _ _ _ _ rfl, fun o => World.frozen?_alloc_at _ _ _ _ rfl⟩

set_option maxRecDepth 100000 in
set_option maxHeartbeats 3200000 in
/-- Commit of what was changed. -/
theorem xcommit {w : World} {O : Nat → Prop} {st b m N c vw : Nat} {fs : Option Bool} {tb did : Nat} {ld l : List Kv} (h : StoreK w O st b m N c vw fs (some tb) did ld true l) (hn : 2 * l.length + 2 * ld.length + 10 ≤ N) (hl : l.length ≤ 1900 ∧ ld.length ≤ 1900) (hc : c ≤ 140) (hd1 : did ≤ 1000000) :
    Calls Tryz.prog 19 #[.pointer (some ⟨tb, 0, none⟩)] w fun e w' => e = .returned (.int .i64 0) ∧ StoreK w' O st b m N (c + 1) vw (some true) none 0 l false l ∧ KeepO O w w' ∧ w'.cell? ⟨tb, 0, none⟩ = some (.pointer none) := by
  obtain ⟨OT, t, p, sg, h⟩ := h
  obtain ⟨mb, sz, nt, hx, hN, hsz, -, hxs⟩ := h.txs
  have hx0 := hx.c0
  have HC := hide (tcommit h hn hl hc)
  rw [if_pos rfl] at HC
  have H := hide h
  have HX := hide hx
  have HN := hide hN
  have HXs := hide hxs
  have hsz0 : 0 < sz := hsz.2 rfl
  have hsz1 : sz ≤ 1000000 := by have := hN.bound; omega
  have hz := zero_sight
  clear h hx hN hxs hsz hn hl
  go_enter Tryz.func19, Tryz.ntmps19
  go_wp2_with fail
  refine (isOver_no hx0).mono ?_
  rintro e w1 ⟨rfl, rfl⟩
  go_wp2_with fail
  refine HC.out.mono ?_
  rintro e w2 ⟨rfl, hT2, hK2⟩
  have hx2 := HX.out.same (hK2.block HXs.out.1 HX.out.lt)
  have hN2 := HN.out.of_block (hK2.block HXs.out.2.1 HN.out.lt)
  have ho2 := H.out.obj.same (hK2.block H.out.ost H.out.obj.lt)
  have hln := fun ty => hN2.len ty
  have hm1 := hx2.c1
  have hb0 := hx2.c0
  have HO2 := hide ho2
  have HT2 := hide hT2
  have HK2 := hide hK2
  have s3 := ho2.c3
  have z3 := ho2.fz 3
  have HA : Hid (Calls Tryz.prog 46 #[.pointer (some ⟨st, 3, none⟩), .int .i64 1] w2 fun e w' => (∃ v, e = .returned v) ∧ w' = w2.setCell ⟨st, 3, none⟩ (.int .i64 ((c + 1 : Nat) : Int))) := aadd (by omega) s3 z3
  have HO3 : Hid (StAt (w2.setCell ⟨st, 3, none⟩ (.int .i64 ((c + 1 : Nat) : Int))) st p t (some tb) (c + 1) vw sg) := ho2.set (cm' := c + 1) 3 _ (by omega) rfl rfl rfl rfl
  have hT3 : Turn [st] w2 (w2.setCell ⟨st, 3, none⟩ (.int .i64 ((c + 1 : Nat) : Int))) := (Turn.refl [st] w2).setCell (List.mem_singleton.2 rfl) 3 _
  have hz3 : (w2.setCell ⟨st, 3, none⟩ (.int .i64 ((c + 1 : Nat) : Int))).heap.size = w2.heap.size := World.size_setCell ..
  have htst : tb ≠ st := HXs.out.2.2.2.2.2.1
  have hx3 := hx2.same (hT3.block tb hx2.lt (by simp; exact htst))
  have HX3 := hide hx3
  have hb3 := hx3.c0
  have HT3 := hide hT3
  have hstl := ho2.lt
  clear hT2 hK2 hx2 ho2 hN2 hx3 hT3 s3 z3
  go_wp2_with fail
  refine HA.out.mono ?_
  rintro e w3 ⟨⟨v, rfl⟩, rfl⟩
  generalize w2.setCell ⟨st, 3, none⟩ (.int .i64 ((c + 1 : Nat) : Int)) = w3 at *
  have s5 := HO3.out.c5
  have z5 := HO3.out.fz 5
  have hTs : Turn [st] w3 (w3.setCell ⟨st, 5, none⟩ (.pointer (some ⟨w3.heap.size, 0, none⟩))) := (Turn.refl [st] w3).setCell (List.mem_singleton.2 rfl) 5 _
  have hz4 : (w3.setCell ⟨st, 5, none⟩ (.pointer (some ⟨w3.heap.size, 0, none⟩))).heap.size = w3.heap.size := World.size_setCell ..
  have hTa : Turn [] (w3.setCell ⟨st, 5, none⟩ (.pointer (some ⟨w3.heap.size, 0, none⟩))) ((w3.setCell ⟨st, 5, none⟩ (.pointer (some ⟨w3.heap.size, 0, none⟩))).alloc (.cells #[.int .u32 0, .int .i32 0, .int .u32 0, .slice none 0 0] 97)) := (Turn.refl [] _).alloc _
  have hT34 : Turn [st] w3 ((w3.setCell ⟨st, 5, none⟩ (.pointer (some ⟨w3.heap.size, 0, none⟩))).alloc (.cells #[.int .u32 0, .int .i32 0, .int .u32 0, .slice none 0 0] 97)) := hTs.then hTa (by simp)
  have hO4 : StAt ((w3.setCell ⟨st, 5, none⟩ (.pointer (some ⟨w3.heap.size, 0, none⟩))).alloc (.cells #[.int .u32 0, .int .i32 0, .int .u32 0, .slice none 0 0] 97)) st p t (some tb) (c + 1) vw w3.heap.size := (HO3.out.set (sg' := w3.heap.size) 5 _ (by omega) rfl rfl rfl rfl).same (hTa.block st (by omega) (by simp))
  have hX4 := HX3.out.same (hT34.block tb HX3.out.lt (by simp; exact htst))
  have hSg : SightAt ((w3.setCell ⟨st, 5, none⟩ (.pointer (some ⟨w3.heap.size, 0, none⟩))).alloc (.cells #[.int .u32 0, .int .i32 0, .int .u32 0, .slice none 0 0] 97)) w3.heap.size 0 (.slice none 0 0) := sight_new _ _ hz4
  have HE := hide (end_any hO4 hX4 htst)
  have HSg := hide hSg
  have HT34 := hide hT34
  have HZ3 := hide hz3
  have hbl : w3.heap.size < ((w3.setCell ⟨st, 5, none⟩ (.pointer (some ⟨w3.heap.size, 0, none⟩))).alloc (.cells #[.int .u32 0, .int .i32 0, .int .u32 0, .slice none 0 0] 97)).heap.size := by simp
  have HBl := hide hbl
  have hstl3 := HO3.out.lt
  clear hTs hTa hT34 hO4 hX4 hSg hz3 hz4 hbl
  go_wp2_with fail
  refine HE.out.mono ?_
  rintro e w5 ⟨rfl, hO5, hc5, hT5⟩
  have HFin := hide (com_new H.out ⟨HXs.out.1, HXs.out.2.2.1, HXs.out.2.2.2.2.2.2.1⟩ HT2.out HK2.out (HT3.out.trans HT34.out) HSg.out (by rw [HZ3.out]; exact Nat.le_refl _) hO5 hT5 HBl.out)
  have HC5 := hide hc5
  clear hO5 hT5 hc5
  go_wp2_with fail
  go_ret
  exact ⟨rfl, HFin.out.1, HFin.out.2, HC5.out⟩

set_option maxRecDepth 100000 in
set_option maxHeartbeats 3200000 in
/-- Commit where nothing was changed. -/
theorem xcommit_no {w : World} {O : Nat → Prop} {st b m N c vw : Nat} {fs : Option Bool} {tb did : Nat} {ld l : List Kv} (h : StoreK w O st b m N c vw fs (some tb) did ld false l) (hn : 2 * l.length + 2 * ld.length + 10 ≤ N) (hl : l.length ≤ 1900 ∧ ld.length ≤ 1900) (hc : c ≤ 140) :
    Calls Tryz.prog 19 #[.pointer (some ⟨tb, 0, none⟩)] w fun e w' => e = .returned (.int .i64 0) ∧ StoreK w' O st b m N c vw fs none 0 ld false ld ∧ KeepO O w w' ∧ w'.cell? ⟨tb, 0, none⟩ = some (.pointer none) := by
  obtain ⟨OT, t, p, sg, h⟩ := h
  obtain ⟨mb, sz, nt, hx, hN, hsz, -, hxs⟩ := h.txs
  obtain rfl : l = ld := h.tree.same
  have hx0 := hx.c0
  have HC := hide (tcommit h hn hl hc)
  rw [if_neg (by simp)] at HC
  have H := hide h
  have HX := hide hx
  have HN := hide hN
  have HXs := hide hxs
  have hsz0 : sz = 0 := by
    refine Classical.byContradiction fun hne => ?_
    have := hsz.1 (by omega)
    cases this
  subst hsz0
  clear h hx hN hxs hsz hn hl
  go_enter Tryz.func19, Tryz.ntmps19
  go_wp2_with fail
  refine (isOver_no hx0).mono ?_
  rintro e w1 ⟨rfl, rfl⟩
  go_wp2_with fail
  refine HC.out.mono ?_
  rintro e w2 ⟨rfl, hT2, hK2⟩
  have hx2 := HX.out.same (hK2.block HXs.out.1 HX.out.lt)
  have hN2 := HN.out.of_block (hK2.block HXs.out.2.1 HN.out.lt)
  have ho2 := H.out.obj.same (hK2.block H.out.ost H.out.obj.lt)
  have hln := fun ty => hN2.len ty
  have hm1 := hx2.c1
  have hb0 := hx2.c0
  have HT2 := hide hT2
  have HK2 := hide hK2
  have HE := hide (end_any ho2 hx2 HXs.out.2.2.2.2.2.1)
  clear hT2 hK2 hx2 ho2 hN2
  go_wp2_with fail
  refine HE.out.mono ?_
  rintro e w5 ⟨rfl, hO5, hc5, hT5⟩
  have HFin := hide (com_same H.out ⟨HXs.out.1, HXs.out.2.2.1, HXs.out.2.2.2.2.2.2.1⟩ HT2.out HK2.out hO5 hT5)
  have HC5 := hide hc5
  clear hO5 hT5 hc5
  go_wp2_with fail
  go_ret
  exact ⟨rfl, HFin.out.1, HFin.out.2, HC5.out⟩

set_option maxRecDepth 100000 in
set_option maxHeartbeats 3200000 in
/-- Abort. -/
theorem xabort {w : World} {O : Nat → Prop} {st b m N c vw : Nat} {fs : Option Bool} {tb did : Nat} {ld : List Kv} {ch : Bool} {l : List Kv} (h : StoreK w O st b m N c vw fs (some tb) did ld ch l) :
    Calls Tryz.prog 20 #[.pointer (some ⟨tb, 0, none⟩)] w fun e w' => e = .returned (.tuple #[]) ∧ StoreK w' O st b m N c vw fs none 0 ld false ld ∧ KeepO O w w' ∧ w'.cell? ⟨tb, 0, none⟩ = some (.pointer none) := by
  obtain ⟨OT, t, p, sg, h⟩ := h
  obtain ⟨mb, sz, nt, hx, hN, hsz, -, hxs⟩ := h.txs
  have hx0 := hx.c0
  have hs1 := h.obj.c1
  have HA := hide (tgk_abort h.tree)
  have H := hide h
  have HX := hide hx
  have HXs := hide hxs
  clear h hx hN hxs hsz
  go_enter Tryz.func20, Tryz.ntmps20
  go_wp2_with fail
  refine (isOver_no hx0).mono ?_
  rintro e w1 ⟨rfl, rfl⟩
  go_wp2_with fail
  refine HA.out.mono ?_
  rintro e w2 ⟨rfl, hT2, hK2⟩
  have hx2 := HX.out.same (hK2.block HXs.out.1 HX.out.lt)
  have ho2 := H.out.obj.same (hK2.block H.out.ost H.out.obj.lt)
  have HT2 := hide hT2
  have HK2 := hide hK2
  have HE := hide (end_any ho2 hx2 HXs.out.2.2.2.2.2.1)
  clear hT2 hK2 hx2 ho2
  go_wp2_with fail
  refine HE.out.mono ?_
  rintro e w5 ⟨rfl, hO5, hc5, hT5⟩
  have HFin := hide (com_same H.out ⟨HXs.out.1, HXs.out.2.2.1, HXs.out.2.2.2.2.2.2.1⟩ HT2.out HK2.out hO5 hT5)
  have HC5 := hide hc5
  clear hO5 hT5 hc5
  go_wp2_with fail
  go_end0
  exact ⟨rfl, HFin.out.1, HFin.out.2, HC5.out⟩

set_option maxRecDepth 100000 in
set_option maxHeartbeats 800000 in
theorem xcommits {w : World} {O : Nat → Prop} {st b m N c vw : Nat} {fs : Option Bool} {tx : Option Nat} {did : Nat} {ld : List Kv} {ch : Bool} {l : List Kv} (h : StoreK w O st b m N c vw fs tx did ld ch l) :
    Calls Tryz.prog 29 #[.pointer (some ⟨st, 0, none⟩)] w fun e w' => e = .returned (.int .i64 (c : Nat)) ∧ w' = w := by
  obtain ⟨OT, t, p, sg, h⟩ := h
  have HL := hide (aload h.obj.c3)
  clear h
  go_enter Tryz.func29, Tryz.ntmps29
  go_wp2_with fail
  refine HL.out.mono ?_
  rintro e w1 ⟨rfl, rfl⟩
  go_wp2_with fail
  go_ret
  exact ⟨rfl, rfl⟩

end Go.Proofs.YthgpjkcgccdldaaGreatDoor

namespace Go.Proofs.YthgpjkcgccdldaaGreatDoor
open Go.RowKit Go.Maps

set_option maxRecDepth 100000 in
set_option maxHeartbeats 800000 in
theorem pseq {w : World} {p : Nat} {x : Int} (h : w.cell? ⟨p, 4, none⟩ = some (.int .i64 x)) : Calls Tryz.prog 37 #[.pointer (some ⟨p, 0, none⟩)] w fun e w' => e = .returned (.int .i64 x) ∧ w' = w := by
  have HL := hide (aload h)
  clear h
  go_enter Tryz.func37, Tryz.ntmps37
  go_wp2_with fail
  refine HL.out.mono ?_
  rintro e w1 ⟨rfl, e1⟩
  obtain rfl : w = w1 := e1.symm
  go_wp2_with fail
  go_ret
  exact ⟨rfl, rfl⟩

/-- What is committed on a disk, told by its pairs. -/
def DskK (w : World) (b m N c : Nat) (ld : List Kv) : Prop := ∃ s K D rd, DskG w b m s c K D rd ∧ flatR rd = ld ∧ s.n = N ∧ s.k ≤ 4000 * c
theorem DskK.quiet {w w' : World} {b m N c : Nat} {ld : List Kv} (h : DskK w b m N c ld) (hT : Turn [] w w') : DskK w' b m N c ld := by
  obtain ⟨s, K, D, rd, h1, h2⟩ := h
  exact ⟨s, K, D, rd, h1.quiet hT, h2⟩
theorem dsk_new {w : World} {b m N : Nat} (h1 : 64 ≤ N) (h2 : N ≤ 16384) (hD : DiskAt w b m (St.new N)) (hTab : Tab w) (hb0 : 1 < b ∧ 1 < m) : DskK w b m N 0 [] :=
  ⟨St.new N, fun _ => false, fun _ => none, none, ⟨hD, Laid.new h1 h2, rfl, by show (-1 : Int) < 0; omega, fun k => by show (false = true) ↔ k ∈ []; simp, List.nodup_nil, (fun _ _ h => by cases h), (fun _ _ h => by cases h), (fun pg h l hD => by cases hD), hTab, hb0⟩, rfl, rfl, Nat.zero_le _⟩
theorem DskK.bounds {w : World} {b m N c : Nat} {ld : List Kv} (h : DskK w b m N c ld) : b < w.heap.size ∧ m < w.heap.size ∧ 1 < b ∧ 1 < m := by
  obtain ⟨s, K, D, rd, h1, _⟩ := h
  exact ⟨h1.disk.lt, h1.disk.ltm, h1.pos.1, h1.pos.2⟩

set_option maxRecDepth 100000 in
set_option maxHeartbeats 3200000 in
theorem xopen {w : World} {b m N c : Nat} {ld : List Kv} (h : DskK w b m N c ld) (O : Nat → Prop) (hO : ∀ x, O x → x < w.heap.size) (hn : ¬ O 1 ∧ ¬ O b ∧ ¬ O m) (hl : ld.length ≤ 100000) :
    Calls Tryz.prog 10 #[.pointer (some ⟨b, 0, none⟩)] w fun e w' => ∃ st, e = .returned (.tuple #[.pointer (some ⟨st, 0, none⟩), .int .i64 0]) ∧ StoreK w' O st b m N c 0 (some true) none 0 ld false ld ∧ w.heap.size ≤ st ∧ Turn [] w w' := by
  obtain ⟨s, K, D, rd, h, hld, hN, hk⟩ := h
  have HC := hide (open_any b m s c (rootB rd) K h.laid h.sd w h.disk h.tab h.pos)
  have hbl := h.disk.lt
  have hml := h.disk.ltm
  have H := hide h
  have HO := hide hO
  have HN := hide hn
  have HX := hide (show flatR rd = ld ∧ s.n = N ∧ s.k ≤ 4000 * c ∧ ld.length ≤ 100000 from ⟨hld, hN, hk, hl⟩)
  have hz7 := zero_sight
  have hz9 := zero_store
  clear h hO hn hld hN hk hl
  go_enter Tryz.func10, Tryz.ntmps10
  go_wp2_with fail
  refine HC.out.mono ?_
  rintro e w1 ⟨p, sm, rb, hp1, hp2, hp3, hp4, rfl, hA1, hT1⟩
  have HTo := hide (tg_open H.out rfl hA1 HO.out HN.out ⟨hp1, hp2, hp3⟩ hp4 hT1.size (by rw [HX.out.1]; exact HX.out.2.2.2))
  have HT1 := hide hT1
  have hpl := hA1.pg.lt
  have h1s := hT1.size
  clear hA1 hT1
  go_wp2_with fail
  refine HTo.out.mono ?_
  rintro e w2 ⟨t, r, Dn, G, rfl, hTG, ht, hG, hT2⟩
  have HTG := hide hTG
  have htl := hTG.td.tm.tr.lt
  have h2s := hT2.size
  have hp4c := hTG.td.tm.pa.pg.c4
  have HT12 := hide (HT1.out.then hT2 (by simp; omega))
  clear hTG hG hT2 HTo
  go_wp2_with fail
  have hP4 : (((w2.alloc (.cells #[.int .u32 0, .int .i32 0, .int .u32 0, .slice none 0 0] 97)).alloc (.cells #[.pointer (some ⟨p, 0, none⟩), .pointer (some ⟨t, 0, none⟩), .pointer none, .int .i64 0, .int .i64 0, .pointer (some ⟨w2.heap.size, 0, none⟩)] 99))).cell? ⟨p, 4, none⟩ = some (.int .i64 (c : Nat)) := Lib.cell?_alloc_some _ (Lib.cell?_alloc_some _ hp4c)
  have hcs : ∀ o v, #[Value.pointer (some ⟨p, 0, none⟩), .pointer (some ⟨t, 0, none⟩), .pointer none, .int .i64 0, .int .i64 0, .pointer (some ⟨w2.heap.size, 0, none⟩)][o]? = some v → (((w2.alloc (.cells #[.int .u32 0, .int .i32 0, .int .u32 0, .slice none 0 0] 97)).alloc (.cells #[.pointer (some ⟨p, 0, none⟩), .pointer (some ⟨t, 0, none⟩), .pointer none, .int .i64 0, .int .i64 0, .pointer (some ⟨w2.heap.size, 0, none⟩)] 99))).cell? ⟨w2.heap.size + 1, o, none⟩ = some v := fun o v hv => by
    rw [show w2.heap.size + 1 = (w2.alloc (.cells #[.int .u32 0, .int .i32 0, .int .u32 0, .slice none 0 0] 97)).heap.size by simp]
    exact (World.cell?_alloc_at _ _ _ _ rfl).trans hv
  have hfs : ∀ o, (((w2.alloc (.cells #[.int .u32 0, .int .i32 0, .int .u32 0, .slice none 0 0] 97)).alloc (.cells #[.pointer (some ⟨p, 0, none⟩), .pointer (some ⟨t, 0, none⟩), .pointer none, .int .i64 0, .int .i64 0, .pointer (some ⟨w2.heap.size, 0, none⟩)] 99))).frozen? ⟨w2.heap.size + 1, o, none⟩ = false := fun o => by
    rw [show w2.heap.size + 1 = (w2.alloc (.cells #[.int .u32 0, .int .i32 0, .int .u32 0, .slice none 0 0] 97)).heap.size by simp]
    exact World.frozen?_alloc_at _ _ _ _ rfl
  have hgs : SightAt ((w2.alloc (.cells #[.int .u32 0, .int .i32 0, .int .u32 0, .slice none 0 0] 97)).alloc (.cells #[.pointer (some ⟨p, 0, none⟩), .pointer (some ⟨t, 0, none⟩), .pointer none, .int .i64 0, .int .i64 0, .pointer (some ⟨w2.heap.size, 0, none⟩)] 99)) w2.heap.size 0 (.slice none 0 0) := by
    have hg : SightAt (w2.alloc (.cells #[.int .u32 0, .int .i32 0, .int .u32 0, .slice none 0 0] 97)) w2.heap.size 0 (.slice none 0 0) := ⟨World.cell?_alloc_at _ _ _ _ rfl, World.cell?_alloc_at _ _ _ _ rfl, World.cell?_alloc_at _ _ _ _ rfl, fun o => World.frozen?_alloc_at _ _ _ _ rfl⟩
    exact hg.same (((Turn.refl [] _).alloc _).block _ hg.lt (by simp))
  have hTW : Turn [] w2 ((w2.alloc (.cells #[.int .u32 0, .int .i32 0, .int .u32 0, .slice none 0 0] 97)).alloc (.cells #[.pointer (some ⟨p, 0, none⟩), .pointer (some ⟨t, 0, none⟩), .pointer none, .int .i64 0, .int .i64 0, .pointer (some ⟨w2.heap.size, 0, none⟩)] 99)) := ((Turn.refl [] w2).alloc _).alloc _
  have hWs : ((w2.alloc (.cells #[.int .u32 0, .int .i32 0, .int .u32 0, .slice none 0 0] 97)).alloc (.cells #[.pointer (some ⟨p, 0, none⟩), .pointer (some ⟨t, 0, none⟩), .pointer none, .int .i64 0, .int .i64 0, .pointer (some ⟨w2.heap.size, 0, none⟩)] 99)).heap.size = w2.heap.size + 2 := by simp
  generalize (w2.alloc (.cells #[.int .u32 0, .int .i32 0, .int .u32 0, .slice none 0 0] 97)).alloc (.cells #[.pointer (some ⟨p, 0, none⟩), .pointer (some ⟨t, 0, none⟩), .pointer none, .int .i64 0, .int .i64 0, .pointer (some ⟨w2.heap.size, 0, none⟩)] 99) = W at *
  have h3 : W.cell? ⟨w2.heap.size + 1, 3, none⟩ = some (.int .i64 0) := hcs 3 _ rfl
  have f3 := hfs 3
  have HCs := hide hcs
  have HFs := hide hfs
  have HGs := hide hgs
  have HTW := hide hTW
  have HP4 := hide hP4
  clear hcs hfs hgs hTW hP4 hp4c
  go_region_with (first | (go_at_call 37; refine (pseq (x := ((c : Nat) : Int)) (by exact HP4.out)).mono ?_; rintro e w5 ⟨rfl, rfl⟩) | (go_at_call 36; refine (astore (x := 0) (y := ((c : Nat) : Int)) (by exact h3) (by exact f3)).mono ?_; rintro e w6 ⟨rfl, rfl⟩))
  go_wp2_with fail
  go_ret2
  have hTs : Turn [w2.heap.size + 1] W ((W.setCell ⟨w2.heap.size + 1, 3, none⟩ (.int .i64 ((c : Nat) : Int))).drew) := ((Turn.refl [w2.heap.size + 1] W).setCell (List.mem_singleton.2 rfl) 3 _).drew
  have hob : StAt W (w2.heap.size + 1) p t none 0 0 w2.heap.size := ⟨HCs.out 0 _ rfl, HCs.out 1 _ rfl, HCs.out 2 _ rfl, HCs.out 3 _ rfl, HCs.out 4 _ rfl, HCs.out 5 _ rfl, HFs.out⟩
  have hob2 : StAt ((W.setCell ⟨w2.heap.size + 1, 3, none⟩ (.int .i64 ((c : Nat) : Int))).drew) (w2.heap.size + 1) p t none c 0 w2.heap.size := (hob.set (cm' := c) 3 (.int .i64 ((c : Nat) : Int)) (by omega) rfl rfl rfl rfl).same rfl
  have hgs2 := HGs.out.same (hTs.block w2.heap.size (by omega) (by simp))
  have hT2 : Turn [] w2 ((W.setCell ⟨w2.heap.size + 1, 3, none⟩ (.int .i64 ((c : Nat) : Int))).drew) := HTW.out.then hTs (by simp)
  have hsz : ((W.setCell ⟨w2.heap.size + 1, 3, none⟩ (.int .i64 ((c : Nat) : Int))).drew).heap.size = w2.heap.size + 2 := (World.size_setCell ..).trans hWs
  generalize (W.setCell ⟨w2.heap.size + 1, 3, none⟩ (.int .i64 ((c : Nat) : Int))).drew = W2 at *
  have hob3 : ∀ x, (O x ∨ x = w2.heap.size ∨ x = w2.heap.size + 1) → x < W2.heap.size := fun x hx => by
    rcases hx with hx | hx | hx
    · have := HO.out x hx; omega
    · omega
    · omega
  refine ⟨w2.heap.size + 1, rfl, ⟨fun x => O x ∨ x = w2.heap.size ∨ x = w2.heap.size + 1, t, p, w2.heap.size, ⟨⟨sm, rb, s, _, Dn, Dn, D, G, (fun _ => False), [], rd, rd, HTG.out.wide hT2 (by simp) (fun x hx => ?_) hob3, .inr ⟨rfl, rfl, rfl⟩, HX.out.2.1, rfl, HTG.out.dch, HX.out.1, HX.out.1, HX.out.2.2.1⟩, hob2, ⟨hgs2, .inr (.inl rfl), fun ho => ?_⟩, fun x hx => .inl hx, .inr (.inr rfl), fun ho => ?_, by omega, rfl, .inr (.inl rfl)⟩⟩, by omega, HT12.out.trans hT2⟩
  · rcases hx with hx | hx
    · exact .inl hx
    · exact .inr (HTG.out.newBlock (by omega))
  · have := HO.out _ ho; omega
  · have := HO.out _ ho; omega

end Go.Proofs.YthgpjkcgccdldaaGreatDoor

namespace Go.Proofs.YthgpjkcgccdldaaGreatDoor
open Go.RowKit Go.Maps

set_option maxRecDepth 100000 in
set_option maxHeartbeats 1000000 in
theorem vfind1_any (k v key : ByteArray) (w : World) : Calls Tryz.prog 117 #[.agg #[.string k, .string v], .string key] w fun e w' => e = .returned (.int .i64 (cmp k key)) ∧ Turn [] w w' := by
  go_enter Tryz.func117, Tryz.ntmps117
  go_wp2_with fail
  refine (compare_any k key _).mono ?_
  rintro e w1 ⟨rfl, rfl⟩
  go_wp2_with fail
  go_ret
  exact ⟨rfl, (Turn.refl [] w).alloc _⟩

set_option maxRecDepth 100000 in
set_option maxHeartbeats 3200000 in
theorem vbsearch_any (a : Option Addr) (cap : Nat) (l : List (ByteArray × ByteArray)) (key : ByteArray) (hs : Rises (keysOf l)) (hlen : l.length ≤ 1000000) (w : World) (hK : KVsAt w a l) :
    Calls Tryz.prog 116 #[.slice a l.length cap, .string key, .func (.func 117) #[] #[]] w fun e w' => ∃ i f, e = .returned (.tuple #[.int .i64 (i : Nat), .bool f]) ∧ IsPos (keysOf l) key i ∧ (f = true ↔ Stands l key i) ∧ Turn [] w w' := by
  have HK := hide hK
  have HS := hide hs
  have HLk := hide (keysOf_length l)
  clear hK hs
  go_enter Tryz.func116, Tryz.ntmps116
  go_wp2_with fail
  go_loopw [9, 10] (fun i j wr => ∃ i' j' : Nat, i' ≤ j' ∧ j' ≤ l.length ∧ i = .int .i64 i' ∧ j = .int .i64 j' ∧ Hid (∀ m (h : m < l.length), m < i' → klt l[m].1 key) ∧ Hid (∀ m (h : m < l.length), j' ≤ m → ¬ klt l[m].1 key) ∧ Turn [] w wr) (fun i j _ => (intOf j).toNat - (intOf i).toNat)
  case atStart => exact ⟨0, l.length, Nat.zero_le _, Nat.le_refl _, rfl, rfl, fun m _ h => absurd h (Nat.not_lt_zero _), fun m h h2 => absurd h2 (by omega), Turn.refl _ _⟩
  case round =>
    obtain ⟨i, j, hij, hjl, rfl, rfl, H1, H2, hT⟩ := hrel
    have HT := hide hT
    clear hT
    by_cases hlt : i < j
    · obtain ⟨h, hh, hi1, hi2⟩ : ∃ h : Nat, h = (i + j) / 2 ∧ i ≤ h ∧ h < j := ⟨_, rfl, by omega, by omega⟩
      have e1 : ((i : Int) + (j : Int)) / 2 = (h : Int) := by omega
      have hhl : h < l.length := by omega
      obtain ⟨b, off, rfl, hc, hd⟩ := (HK.out.turn0 HT.out).at hhl
      clear hh
      go_wp2_with fail
      refine (vfind1_any l[h].1 l[h].2 key _).mono ?_
      rintro e w1 ⟨rfl, hT1⟩
      have HT1 := hide (HT.out.then hT1 (by simp))
      clear hT1 hc hd
      by_cases hk : cmp l[h].1 key < 0
      · have HE : Hid (∀ m (h' : m < l.length), m < h + 1 → klt l[m].1 key) := fun m h' hm => by
          by_cases he : m = h
          · subst he; exact cmp_neg.1 hk
          · have := HS.out.get (i := m) (j := h) (by omega) (by rw [HLk.out]; exact hhl)
            rw [keysOf_get h', keysOf_get hhl] at this
            exact klt_trans this (cmp_neg.1 hk)
        generalize cmp l[h].1 key = c at *
        go_wp2_with fail
        go_roundw
        case rel => exact ⟨h + 1, j, by omega, hjl, by go_num, rfl, HE, H2, HT1.out⟩
        case measure => simp [intOf]; omega
      · have HE : Hid (∀ m (h' : m < l.length), h ≤ m → ¬ klt l[m].1 key) := fun m h' hm => by
          by_cases he : m = h
          · subst he; exact fun e => hk (cmp_neg.2 e)
          · have := HS.out.get (i := h) (j := m) (by omega) (by rw [HLk.out]; exact h')
            rw [keysOf_get h', keysOf_get hhl] at this
            exact fun e => hk (cmp_neg.2 (klt_trans this e))
        generalize cmp l[h].1 key = c at *
        go_wp2_with fail
        go_roundw
        case rel => exact ⟨i, h, by omega, by omega, rfl, rfl, H1, HE, HT1.out⟩
        case measure => simp [intOf]; omega
    · obtain rfl : i = j := by omega
      have HPos : Hid (IsPos (keysOf l) key i) := ⟨by rw [HLk.out]; exact hjl, fun m h hm => by rw [HLk.out] at h; rw [keysOf_get h]; exact H1.out m h hm, fun m h hm => by rw [HLk.out] at h; rw [keysOf_get h]; exact H2.out m h hm⟩
      by_cases hil : i < l.length
      · obtain ⟨b, off, rfl, hc, hd⟩ := (HK.out.turn0 HT.out).at hil
        go_wp2_with fail
        refine (vfind1_any l[i].1 l[i].2 key _).mono ?_
        rintro e w1 ⟨rfl, hT1⟩
        have HT1 := hide (HT.out.then hT1 (by simp))
        have HE : Hid (∀ f : Bool, f = decide (cmp l[i].1 key = 0) → (f = true ↔ Stands l key i)) := fun f e => by
          rw [e, decide_eq_true_iff, cmp_zero]
          exact ⟨fun h => ⟨hil, h⟩, fun ⟨_, h⟩ => h⟩
        clear hT1 hc hd
        by_cases hz : cmp l[i].1 key = 0
        · rw [hz] at HE ⊢
          clear hz
          go_wp2_with fail
          refine bodyPost_ret (v := .tuple #[.int .i64 (i : Nat), .bool true]) (by simp [results, Tryz.results116, go_sem]) rfl ⟨i, true, rfl, HPos.out, HE.out true (by simp), HT1.out⟩
        · have hzb : (cmp l[i].1 key == 0) = false := by simpa using hz
          have HF := hide (HE.out false (by simp [hz]))
          generalize cmp l[i].1 key = c at *
          go_wp2_with fail
          refine bodyPost_ret (v := .tuple #[.int .i64 (i : Nat), .bool false]) (by simp [results, Tryz.results116, go_sem]) rfl ⟨i, false, rfl, HPos.out, HF.out, HT1.out⟩
      · go_wp2_with fail
        refine bodyPost_ret (v := .tuple #[.int .i64 (i : Nat), .bool false]) (by simp [results, Tryz.results116, go_sem]) rfl ⟨i, false, rfl, HPos.out, ⟨fun h => (by cases h), fun ⟨h, _⟩ => absurd h hil⟩, HT.out⟩

/-- What a view shows; its object, its sight and the row are other people's. -/
structure ViewAt (w : World) (O : Nat → Prop) (v st : Nat) (l : List Kv) : Prop where
  ex : ∃ sg a cap, w.cell? ⟨v, 1, none⟩ = some (.pointer (some ⟨sg, 0, none⟩)) ∧ w.cell? ⟨sg, 3, none⟩ = some (.slice a l.length cap) ∧ KVsAt w a l ∧ (a = none → cap = 0) ∧ (l.length ≤ cap ∧ cap ≤ 9223372036854775807) ∧ O sg ∧ (∀ x, a = some x → O x.block) ∧ v ≠ sg ∧ ∀ x, a = some x → x.block ≠ v
  ov : O v
  c0 : w.cell? ⟨v, 0, none⟩ = some (.pointer (some ⟨st, 0, none⟩))
  fz : w.frozen? ⟨v, 1, none⟩ = false

theorem ViewAt.keep {w w' : World} {O O' : Nat → Prop} {v st : Nat} {l : List Kv} (h : ViewAt w O v st l) (hK : KeepO O w w') (hO : ∀ x, O x → O' x) : ViewAt w' O' v st l := by
  obtain ⟨⟨sg, a, cap, h1, h3, hk, hn, hc, ho, hx, h8, h9⟩, hv, h0, hz⟩ := h
  have hcell : ∀ (x o : Nat) (u : Value), O x → w.cell? ⟨x, o, none⟩ = some u → w'.cell? ⟨x, o, none⟩ = some u := fun x o u hx hu => (World.cell?_of_block (a := ⟨x, o, none⟩) (hK.block hx (lt_of_cell hu))).trans hu
  refine ⟨⟨sg, a, cap, hcell _ _ _ hv h1, hcell _ _ _ ho h3, ?_, hn, hc, hO sg ho, fun x hxx => hO _ (hx x hxx), h8, h9⟩, hO v hv, hcell _ _ _ hv h0, (World.frozen?_of_block (a := ⟨v, 1, none⟩) (hK.block hv (lt_of_cell h1))).trans hz⟩
  obtain ⟨X, hT, hX⟩ := hK
  exact hk.turn hT (fun x _ hxx hm => (hX _ hm).1 (hx x hxx))

set_option maxRecDepth 100000 in
set_option maxHeartbeats 1600000 in
theorem vfind_any {w : World} {sg : Nat} {a : Option Addr} {cap : Nat} {l : List Kv} (key : ByteArray) (hs : Rises (keysOf l)) (hlen : l.length ≤ 1000000) (h3 : w.cell? ⟨sg, 3, none⟩ = some (.slice a l.length cap)) (hK : KVsAt w a l) :
    Calls Tryz.prog 79 #[.pointer (some ⟨sg, 0, none⟩), .string key] w fun e w' => ∃ i f, e = .returned (.tuple #[.int .i64 (i : Nat), .bool f]) ∧ IsPos (keysOf l) key i ∧ (f = true ↔ Stands l key i) ∧ Turn [] w w' := by
  have HC := hide (vbsearch_any a cap l key hs hlen w hK)
  clear hs hK
  go_enter Tryz.func79, Tryz.ntmps79
  go_wp2_with fail
  refine HC.out.mono ?_
  rintro e w1 ⟨i, f, rfl, h1, h2, hT⟩
  have H1 := hide h1
  have H2 := hide h2
  clear h1 h2
  go_wp2_with fail
  go_ret2
  exact ⟨i, f, rfl, H1.out, H2.out, hT⟩

set_option maxRecDepth 100000 in
set_option maxHeartbeats 1600000 in
theorem vclone_any (a : Option Addr) (cap : Nat) (l : List Kv) (hnil : a = none → cap = 0) (hlen : l.length ≤ 1000) (w : World) (hK : KVsAt w a l) :
    Calls Tryz.prog 80 #[.slice a l.length cap] w fun e w' => ∃ a' c', e = .returned (.slice a' l.length c') ∧ KVsAt w' a' l ∧ (a' = none → c' = 0) ∧ Turn [] w w' := by
  have he1 := fun n c w => Lib.run_eql_slice_nil (P := Tryz.prog) w 31 55 none n c 0 0 Tryz.underlying31
  have he2 := clone_eq_some 31 Tryz.underlying31
  cases a with
  | none =>
    obtain rfl := hnil rfl
    have hl0 : l = [] := by
      rcases hK with h | ⟨_, _, e, _⟩
      · exact h
      · cases e
    subst hl0
    clear hK
    go_enter Tryz.func80, Tryz.ntmps80
    go_wp2
    go_ret
    exact ⟨none, 0, rfl, .inl rfl, fun _ => rfl, Turn.refl _ _⟩
  | some x =>
    have hown : (w.alloc (.cells #[] 55)).ownsRow w.heap.size 55 2 (.slice (some ⟨w.heap.size, 0, none⟩) 0 0) 0 (flat ([] : List (Value × Value))) := World.ownsRow_made w #[] 0 (Nat.le_refl _) (Nat.zero_le _) rfl
    have HOWN := hide hown
    have HK := hide (hK.turn0 ((Turn.refl [] w).alloc (.cells #[] 55))).pairs
    have HLen := hide (kvCells_length l)
    have HOne := hide (kv_one l)
    clear hown hK hnil
    generalize hn : l.length = n at *
    have HN := hide hn
    clear hn
    go_enter Tryz.func80, Tryz.ntmps80
    go_wp2_with (at_builtin; refine append_pairsT 31 Tryz.underlying31 rfl _ _ rfl w.heap.size (.slice (some ⟨w.heap.size, 0, none⟩) 0 0) 0 [] rfl HOWN.out (some x) n cap (kvCells l) rfl HLen.out (by simp) HK.out HOne.out (by omega) (by simp) ?_; intro v w3 hown3 hgrow3 _)
    have hT3 : Turn [] w w3 := ((Turn.refl [] w).alloc _).grown hgrow3 (by intro k hk; right; simp [Value.ownBlock] at hk; omega)
    obtain ⟨a', c', hv, _, hc, hp, _⟩ := own_pairs (l := kvCells l) (by simpa using hown3)
    rw [HLen.out] at hv
    subst hv
    have HR := hide hp.kvs
    clear hown3 hgrow3 hp
    go_wp2_with fail
    go_ret
    exact ⟨a', c', rfl, HR.out, hc, hT3⟩

set_option maxRecDepth 100000 in
set_option maxHeartbeats 1600000 in
/-- A sight's scan of all. -/
theorem vscan_any {w : World} {sg : Nat} {a : Option Addr} {cap : Nat} {l : List Kv} (hs : Rises (keysOf l)) (hlen : l.length ≤ 1000) (h3 : w.cell? ⟨sg, 3, none⟩ = some (.slice a l.length cap)) (hK : KVsAt w a l) (hnil : a = none → cap = 0) (hcap : l.length ≤ cap ∧ cap ≤ 9223372036854775807) :
    Calls Tryz.prog 53 #[.pointer (some ⟨sg, 0, none⟩), .string ⟨#[]⟩, .string ⟨#[]⟩, .int .i64 0] w fun e w' => ∃ a' c', e = .returned (.slice a' l.length c') ∧ KVsAt w' a' l ∧ (a' = none → c' = 0) ∧ Turn [] w w' := by
  have HF := hide (vfind_any (w := w) ⟨#[]⟩ hs (by omega) h3 hK)
  have HK := hide hK
  have hsl := lt_of_cell h3
  have H3 := hide h3
  have HC : Hid (∀ w1, Turn [] w w1 → Calls Tryz.prog 80 #[.slice a l.length cap] w1 fun e w' => ∃ a' c', e = .returned (.slice a' l.length c') ∧ KVsAt w' a' l ∧ (a' = none → c' = 0) ∧ Turn [] w1 w') := fun w1 hT => vclone_any a cap l hnil hlen w1 (hK.turn0 hT)
  have he : ((⟨#[]⟩ : ByteArray).toList == (⟨#[]⟩ : ByteArray).toList) = true := by simp
  clear hs hK
  obtain ⟨n, HLn⟩ : ∃ n, Hid (l.length = n) := ⟨_, rfl⟩
  rw [HLn.out] at hlen hcap HC h3 ⊢
  cases a with
  | none =>
    obtain rfl := hnil rfl
    obtain rfl : n = 0 := by omega
    clear hnil
    go_enter Tryz.func53, Tryz.ntmps53
    go_wp2_with fail
    refine HF.out.mono ?_
    rintro e w1 ⟨i, f, rfl, hp, _, hT1⟩
    obtain rfl := pos_empty hp
    have h31 := (hT1.cell (p := ⟨sg, 3, none⟩) hsl (by simp)).trans h3
    have HC1 := hide (HC.out w1 hT1)
    have HT1 := hide hT1
    clear hp hT1
    go_wp2_with fail
    refine HC1.out.mono ?_
    rintro e w2 ⟨a', c', rfl, h1, h2, hT2⟩
    have H1 := hide h1
    have HT2 := hide (HT1.out.trans hT2)
    clear h1 hT2
    go_wp2_with fail
    go_ret
    exact ⟨a', c', rfl, H1.out, h2, HT2.out⟩
  | some x =>
    clear hnil
    go_enter Tryz.func53, Tryz.ntmps53
    go_wp2_with fail
    refine HF.out.mono ?_
    rintro e w1 ⟨i, f, rfl, hp, _, hT1⟩
    obtain rfl := pos_empty hp
    have h31 := (hT1.cell (p := ⟨sg, 3, none⟩) hsl (by simp)).trans h3
    have HC1 := hide (HC.out w1 hT1)
    have HT1 := hide hT1
    clear hp hT1
    go_wp2_with fail
    refine HC1.out.mono ?_
    rintro e w2 ⟨a', c', rfl, h1, h2, hT2⟩
    have H1 := hide h1
    have HT2 := hide (HT1.out.trans hT2)
    clear h1 hT2
    go_wp2_with fail
    go_ret
    exact ⟨a', c', rfl, H1.out, h2, HT2.out⟩

set_option maxRecDepth 100000 in
set_option maxHeartbeats 1600000 in
theorem xscan {w : World} {O : Nat → Prop} {v st : Nat} {l : List Kv} (h : ViewAt w O v st l) (hs : Rises (keysOf l)) (hlen : l.length ≤ 1000) :
    Calls Tryz.prog 24 #[.pointer (some ⟨v, 0, none⟩), .string ⟨#[]⟩, .string ⟨#[]⟩, .int .i64 0] w fun e w' => ∃ a' c', e = .returned (.slice a' l.length c') ∧ KVsAt w' a' l ∧ (a' = none → c' = 0) ∧ Turn [] w w' := by
  obtain ⟨sg, a, cap, h1, h3, hK, hnil, hcap, _⟩ := h.ex
  have HC := hide (vscan_any hs hlen h3 hK hnil hcap)
  clear h hs hK h3 hnil hcap
  go_enter Tryz.func24, Tryz.ntmps24
  go_wp2_with fail
  refine HC.out.mono ?_
  rintro e w2 ⟨a', c', rfl, h1, h2, hT2⟩
  have H1 := hide h1
  clear h1
  go_wp2_with fail
  go_ret
  exact ⟨a', c', rfl, H1.out, h2, hT2⟩

set_option maxRecDepth 100000 in
set_option maxHeartbeats 1600000 in
theorem vget_any {w : World} {sg : Nat} {a : Option Addr} {cap : Nat} {l : List Kv} (key : ByteArray) (hs : Rises (keysOf l)) (hlen : l.length ≤ 1000000) (h3 : w.cell? ⟨sg, 3, none⟩ = some (.slice a l.length cap)) (hK : KVsAt w a l) :
    Calls Tryz.prog 56 #[.pointer (some ⟨sg, 0, none⟩), .string key] w fun e w' => e = .returned (gotV (getK l key)) ∧ Turn [] w w' := by
  have HF := hide (vfind_any (w := w) key hs (by omega) h3 hK)
  have HK := hide hK
  have HS := hide hs
  have hsl := lt_of_cell h3
  unfold gotV
  obtain ⟨gv, hgv⟩ : ∃ gv, (getK l key).getD ⟨#[]⟩ = gv := ⟨_, rfl⟩
  obtain ⟨gs, hgs⟩ : ∃ gs, (getK l key).isSome = gs := ⟨_, rfl⟩
  have HG := hide (show _ ∧ _ from ⟨hgv, hgs⟩)
  rw [hgv, hgs]
  clear hs hK hgv hgs
  go_enter Tryz.func56, Tryz.ntmps56
  go_wp2_with fail
  refine HF.out.mono ?_
  rintro e w1 ⟨i, f, rfl, hp, hf, hT1⟩
  have h31 := (hT1.cell (p := ⟨sg, 3, none⟩) hsl (by simp)).trans h3
  have HT1 := hide hT1
  cases f with
  | true =>
    obtain ⟨hi, hik⟩ := hf.1 rfl
    obtain ⟨_, h2⟩ := getK_stands HS.out (show Stands l key i from ⟨hi, hik⟩)
    obtain ⟨b, off, e, _, hc1⟩ := (HK.out.turn0 hT1).at hi
    have hv := HG.out.1
    have hb := HG.out.2
    rw [h2] at hv hb
    simp only [Option.getD_some, Option.isSome_some] at hv hb
    rw [hv] at hc1
    subst e hb
    clear hf hp hT1 hik HG h2 hv
    obtain ⟨n, HLn⟩ : ∃ n, Hid (l.length = n) := ⟨_, rfl⟩
    rw [HLn.out] at h31 hi
    go_wp2_with fail
    go_ret2
    exact ⟨rfl, HT1.out⟩
  | false =>
    have h2 := getK_none HS.out hp (fun h => by have := hf.2 h; cases this)
    have hv := HG.out.1
    have hb := HG.out.2
    rw [h2] at hv hb
    simp only [Option.getD_none, Option.isSome_none] at hv hb
    subst hv hb
    clear hf hp hT1 HG h2
    go_wp2_with fail
    go_ret2
    exact ⟨rfl, HT1.out⟩

set_option maxRecDepth 100000 in
set_option maxHeartbeats 1600000 in
theorem xget {w : World} {O : Nat → Prop} {v st : Nat} {l : List Kv} (h : ViewAt w O v st l) (key : ByteArray) (hs : Rises (keysOf l)) (hlen : l.length ≤ 1000000) :
    Calls Tryz.prog 30 #[.pointer (some ⟨v, 0, none⟩), .string key] w fun e w' => e = .returned (gotV (getK l key)) ∧ Turn [] w w' := by
  obtain ⟨sg, a, cap, h1, h3, hK, hnil, hcap, _⟩ := h.ex
  have HC := hide (vget_any key hs hlen h3 hK)
  unfold gotV at HC ⊢
  generalize (getK l key).getD ⟨#[]⟩ = gv at *
  generalize (getK l key).isSome = gs at *
  clear h hs hK h3 hnil hcap
  go_enter Tryz.func30, Tryz.ntmps30
  go_wp2_with fail
  refine HC.out.mono ?_
  rintro e w2 ⟨rfl, hT2⟩
  go_wp2_with fail
  go_ret2
  exact ⟨rfl, hT2⟩

end Go.Proofs.YthgpjkcgccdldaaGreatDoor

namespace Go.Proofs.YthgpjkcgccdldaaGreatDoor
open Go.RowKit Go.Maps

theorem StoreG.blind {w : World} {O OT : Nat → Prop} {st t p b m sg N c vw : Nat} {fs : Option Bool} {tx : Option Nat} {did : Nat} {ld : List Kv} {ch : Bool} {l : List Kv} (h : StoreG w O OT st t p b m sg N c vw fs tx did ld ch l) : StoreG w O OT st t p b m sg N c vw none tx did ld ch l := { h with sight := trivial }
theorem StoreG.seeing {w : World} {O OT : Nat → Prop} {st t p b m sg N c vw : Nat} {fs fs' : Option Bool} {tx : Option Nat} {did : Nat} {ld : List Kv} {ch : Bool} {l : List Kv} (h : StoreG w O OT st t p b m sg N c vw fs tx did ld ch l) (hs : SightG w O OT sg ld fs') : StoreG w O OT st t p b m sg N c vw fs' tx did ld ch l := { h with sight := hs }
/-- Others' blocks turn. -/
theorem StoreG.others0 {X : List Nat} {w w' : World} {O OT : Nat → Prop} {st t p b m sg N c vw : Nat} {tx : Option Nat} {did : Nat} {ld : List Kv} {ch : Bool} {l : List Kv} (h : StoreG w O OT st t p b m sg N c vw none tx did ld ch l) (hT : Turn X w w') (hX : ∀ x ∈ X, O x) : StoreG w' O OT st t p b m sg N c vw none tx did ld ch l :=
  ⟨h.tree.turn hT (fun x hx => h.sub x (hX x hx)) (fun _x hx => .inl hx) (fun x hx => Nat.lt_of_lt_of_le (h.ob x hx) hT.size), h.obj.same (hT.block st h.obj.lt (fun hm => h.nst (hX st hm))), trivial, h.sub, h.ost, h.nst, h.ne, h.txp.same (fun x _ hn _ _ hl => hT.block x hl (fun hm => hn (hX x hm))), h.osg⟩
/-- The sight turns. -/
theorem StoreG.sgTurn {w w' : World} {O OT : Nat → Prop} {st t p b m sg N c vw : Nat} {tx : Option Nat} {did : Nat} {ld : List Kv} {ch : Bool} {l : List Kv} (h : StoreG w O OT st t p b m sg N c vw none tx did ld ch l) (hT : Turn [sg] w w') : StoreG w' O OT st t p b m sg N c vw none tx did ld ch l :=
  ⟨h.tree.turn hT (fun x hx => by rw [List.mem_singleton.1 hx]; exact h.osg) (fun x hx => .inl hx) (fun x hx => Nat.lt_of_lt_of_le (h.ob x hx) hT.size), h.obj.same (hT.block st h.obj.lt (by simp; exact h.ne)), trivial, h.sub, h.ost, h.nst, h.ne, h.txp.same (fun x _ _ _ hs hl => hT.block x hl (by simp; exact hs)), h.osg⟩
/-- How many views there are is stored. -/
theorem StoreG.count {w : World} {O OT : Nat → Prop} {st t p b m sg N c vw : Nat} {tx : Option Nat} {did : Nat} {ld : List Kv} {ch : Bool} {l : List Kv} (h : StoreG w O OT st t p b m sg N c vw none tx did ld ch l) (vw' : Nat) (v : Value) (hv : v = .int .i64 (vw' : Nat)) : StoreG (w.setCell ⟨st, 4, none⟩ v) O OT st t p b m sg N c vw' none tx did ld ch l := by
  have hT : Turn [st] w (w.setCell ⟨st, 4, none⟩ v) := (Turn.refl [st] w).setCell (List.mem_singleton.2 rfl) 4 _
  exact ⟨h.tree.turn hT (fun x hx => by rw [List.mem_singleton.1 hx]; exact h.ost) (fun x hx => .inl hx) (fun x hx => Nat.lt_of_lt_of_le (h.ob x hx) hT.size), h.obj.set (vw' := vw') 4 _ (by omega) rfl rfl (by simpa using hv) rfl, trivial, h.sub, h.ost, h.nst, h.ne, h.txp.same (fun x _ _ hs _ hl => hT.block x hl (by simp; exact hs)), h.osg⟩
/-- New blocks become other people's. -/
theorem StoreG.more0 {w w' : World} {O OT : Nat → Prop} {st t p b m sg N c vw : Nat} {fs : Option Bool} {tx : Option Nat} {did : Nat} {ld : List Kv} {ch : Bool} {l : List Kv} (h : StoreG w O OT st t p b m sg N c vw fs tx did ld ch l) (hT : Turn [] w w') : StoreG w' (More O w w') (More OT w w') st t p b m sg N c vw fs tx did ld ch l := by
  have h0 := h.turn0 hT
  have hno : ∀ x, OT x → ¬ O x → ¬ More O w w' x := fun x h1 h2 h3 => by
    rcases h3 with h4 | h4
    · exact h2 h4
    · have := h.ob x h1; omega
  exact ⟨h.tree.turn hT (by simp) (fun x hx => hx.elim .inl (fun h => .inr h.1)) (fun x hx => hx.elim (h0.ob x) (fun h => h.2)), h0.obj, h0.sight.wide (fun x hx => .inl hx) hno (fun x hx => .inl hx), fun x hx => hx.elim (fun h1 => .inl (h.sub x h1)) .inr, .inl h.ost, hno _ h.ost h.nst, h.ne, h0.txp.wide (fun x hx => .inl hx) hno, .inl h.osg⟩

/-- What committed tells: a row of the call's own, which is others' from then on. -/
def ComOut (u w' : World) (O OT : Nat → Prop) (st t p b m sg N c vw : Nat) (tx : Option Nat) (did : Nat) (ld : List Kv) (ch : Bool) (l : List Kv) (ra : Option Addr) (rc : Nat) : Prop :=
  w'.ownsRow u.heap.size 55 2 (.slice ra ld.length rc) ld.length (flat (kvCells ld)) ∧ StoreG w' (Wr O (.slice ra ld.length rc)) (Wr OT (.slice ra ld.length rc)) st t p b m sg N c vw none tx did ld ch l ∧ KeepO OT u w'

/-- A row of the call's own beside the store. -/
theorem StoreG.row {u w' : World} {O OT : Nat → Prop} {st t p b m sg N c vw : Nat} {tx : Option Nat} {did : Nat} {ld : List Kv} {ch : Bool} {l : List Kv} (h : StoreG u O OT st t p b m sg N c vw none tx did ld ch l) {r : Value} (hK : KeepO OT u w') (hr : ∀ g, r.ownBlock = some g → u.heap.size ≤ g) (hT : TreeG w' (Wr OT r) t p b m N c ld ch l) : StoreG w' (Wr O r) (Wr OT r) st t p b m sg N c vw none tx did ld ch l := by
  have hno : ∀ x, OT x → ¬ O x → ¬ Wr O r x := fun x h1 h2 h3 => by
    rcases h3 with h4 | h4
    · exact h2 h4
    · have := h.ob x h1; have := hr x h4; omega
  exact ⟨hT, h.obj.same (hK.block h.ost h.obj.lt), trivial, fun x hx => hx.elim (fun h1 => .inl (h.sub x h1)) .inr, .inl h.ost, hno _ h.ost h.nst, h.ne, (h.txp.same (fun x ho _ _ _ hl => hK.block ho hl)).wide (fun x hx => .inl hx) hno, .inl h.osg⟩

set_option maxRecDepth 100000 in
set_option maxHeartbeats 1600000 in
theorem committed_none {u : World} {O OT : Nat → Prop} {st t p b m sg N c vw : Nat} {did : Nat} {ld : List Kv} {ch : Bool} {l : List Kv} (h : StoreG u O OT st t p b m sg N c vw none none did ld ch l) (hl : ld.length ≤ 100000) :
    Calls Tryz.prog 52 #[.pointer (some ⟨st, 0, none⟩)] u fun e w' => ∃ ra rc, e = .returned (.slice ra ld.length rc) ∧ ComOut u w' O OT st t p b m sg N c vw none did ld ch l ra rc := by
  have hcf : ch = false := h.txp
  subst hcf
  obtain rfl : l = ld := h.tree.same
  have h1 := h.obj.c1
  have HC := hide (tgk_scan h.tree ⟨#[]⟩ ⟨#[]⟩ 0 hl)
  rw [scanL_all] at HC
  have H := hide h
  obtain ⟨n, hn⟩ : ∃ n, l.length = n := ⟨_, rfl⟩
  have HNn := hide hn
  rw [hn] at HC ⊢
  clear h hl hn
  go_enter Tryz.func52, Tryz.ntmps52
  go_wp2_with fail
  refine HC.out.mono ?_
  rintro e w1 ⟨r, rfl, hO, hT1, hK1⟩
  have h21 : w1.cell? ⟨st, 2, none⟩ = some (.pointer none) := (H.out.obj.same (hK1.block H.out.ost H.out.obj.lt)).c2
  have HR := hide (H.out.row hK1 (fun g hg => (hO.lt g hg).1) hT1)
  obtain ⟨ra, rc, rfl⟩ := own_form hO
  have HO := hide hO
  have HK1 := hide hK1
  clear hO hT1 hK1
  go_wp2_with fail
  go_ret
  refine ⟨ra, rc, rfl, ?_⟩
  unfold ComOut
  rw [HNn.out]
  exact ⟨HO.out, HR.out, HK1.out⟩

/-- A row of pairs of the call's own, as a slice, with its bounds. -/
theorem own_bounds {w : World} {base n : Nat} {a : Option Addr} {cap : Nat} {l : List (Value × Value)} (h : w.ownsRow base 55 2 (.slice a n cap) n (flat l)) : (n ≤ cap ∧ cap ≤ 9223372036854775807) ∧ (a = none → cap = 0) ∧ PairsAt w a l ∧ (∀ x, a = some x → base ≤ x.block ∧ x.block < w.heap.size) ∧ ∀ x, a = some x → (Value.slice a n cap).ownBlock = some x.block := by
  obtain ⟨a', cap', e, hn, h1, h2, h3⟩ := own_pairs h
  injection e with e1 e2 e3
  subst e1 e3
  refine ⟨?_, h1, h2, h3, fun x hx => by rw [hx]; rfl⟩
  obtain ⟨_, ⟨e, h0⟩ | ⟨g, cap', cur, e, _, _, hnc, hm, _⟩⟩ := h
  · injection e with e1 e2 e3
    omega
  · injection e with e1 e2 e3
    unfold maxLen at hm
    omega

theorem own_zero {w : World} {base n : Nat} {a : Option Addr} {cap : Nat} {xs : List Value} (h : w.ownsRow base 55 2 (.slice a n cap) n xs) : ∀ x, a = some x → x.off = 0 := by
  obtain ⟨_, ⟨e, _⟩ | ⟨g, cap', cur, e, _⟩⟩ := h
  · injection e with e1 e2 e3
    intro x hx
    rw [e1] at hx
    cases hx
  · injection e with e1 e2 e3
    intro x hx
    rw [e1] at hx
    obtain rfl := Option.some.inj hx
    rfl

set_option maxRecDepth 100000 in
set_option maxHeartbeats 1600000 in
theorem see_once {w : World} {O OT : Nat → Prop} {st t p b m sg N c vw : Nat} {tx : Option Nat} {did : Nat} {ld : List Kv} {ch : Bool} {l : List Kv} (h : StoreG w O OT st t p b m sg N c vw (some true) tx did ld ch l)
    (hC : ∀ u, StoreG u O OT st t p b m sg N c vw none tx did ld ch l → Calls Tryz.prog 52 #[.pointer (some ⟨st, 0, none⟩)] u fun e w' => ∃ ra rc, e = .returned (.slice ra ld.length rc) ∧ ComOut u w' O OT st t p b m sg N c vw tx did ld ch l ra rc)
    (sb v vb : Nat) (ho : O sb ∧ O v ∧ O vb) (hS : w.cell? ⟨sb, 0, none⟩ = some (.pointer (some ⟨st, 0, none⟩))) (hB : w.cell? ⟨vb, 0, none⟩ = some (.pointer (some ⟨v, 0, none⟩))) (hV : w.cell? ⟨v, 1, none⟩ = some (.pointer (some ⟨sg, 0, none⟩))) :
    Calls Tryz.prog 50 #[.pointer (some ⟨sg, 0, none⟩), .func (.func 51) #[] #[.pointer (some ⟨sb, 0, none⟩), .pointer (some ⟨vb, 0, none⟩)]] w fun e w' => e = .returned (.tuple #[]) ∧ ∃ O' OT', StoreG w' O' OT' st t p b m sg N c vw (some false) tx did ld ch l ∧ KeepO O w w' ∧ (∀ x, O x → O' x) ∧ ∀ a cap, w'.cell? ⟨sg, 3, none⟩ = some (.slice a ld.length cap) → ∀ x, a = some x → w.heap.size ≤ x.block := by
  obtain ⟨hsi, hso, hsn⟩ := h.sight
  have hns : ∀ x, O x → x ≠ sg := fun x hx e => hsn (e ▸ hx)
  have hT4 : Turn [sg] w (w.setCell ⟨sg, 1, none⟩ (.int .i32 1)) := (Turn.refl [sg] w).setCell (List.mem_singleton.2 rfl) 1 _
  have h4 := h.blind.sgTurn hT4
  have g0 : (w.setCell ⟨sg, 1, none⟩ (.int .i32 1)).cell? ⟨sg, 0, none⟩ = some (.int .u32 0) := (World.cell?_setCell_other _ _ _ _ (off_ne (by omega))).trans hsi.c0
  have g1 : (w.setCell ⟨sg, 1, none⟩ (.int .i32 1)).cell? ⟨sg, 1, none⟩ = some (.int .i32 1) := World.cell?_setCell_same _ _ _ hsi.c1
  have g3 : (w.setCell ⟨sg, 1, none⟩ (.int .i32 1)).cell? ⟨sg, 3, none⟩ = some (.slice none 0 0) := (World.cell?_setCell_other _ _ _ _ (off_ne (by omega))).trans hsi.c3
  have gf : ∀ o, (w.setCell ⟨sg, 1, none⟩ (.int .i32 1)).frozen? ⟨sg, o, none⟩ = false := fun o => (World.frozen?_setCell ..).trans (hsi.fz o)
  have gS := (hT4.cell (p := ⟨sb, 0, none⟩) (lt_of_cell hS) (by simp; exact hns _ ho.1)).trans hS
  have gB := (hT4.cell (p := ⟨vb, 0, none⟩) (lt_of_cell hB) (by simp; exact hns _ ho.2.2)).trans hB
  have gV := (hT4.cell (p := ⟨v, 1, none⟩) (lt_of_cell hV) (by simp; exact hns _ ho.2.1)).trans hV
  have hcell : ∀ (u w5 : World), Turn [] (w.setCell ⟨sg, 1, none⟩ (.int .i32 1)) u → KeepO OT u w5 → ∀ x, OT x → x < (w.setCell ⟨sg, 1, none⟩ (.int .i32 1)).heap.size → w5.heap[x]? = (w.setCell ⟨sg, 1, none⟩ (.int .i32 1)).heap[x]? := fun u w5 hu hK x hx hl => (hK.block hx (Nat.lt_of_lt_of_le hl hu.size)).trans (hu.block x hl (by simp))
  have hl4 : w.heap.size ≤ (w.setCell ⟨sg, 1, none⟩ (.int .i32 1)).heap.size := hT4.size
  generalize hW : w.setCell ⟨sg, 1, none⟩ (.int .i32 1) = W at *
  have hR := look1 st sg v sb vb ld.length W (fun ra rc w5 => ∃ u, Turn [] W u ∧ ComOut u w5 O OT st t p b m sg N c vw tx did ld ch l ra rc) (fun u hu => by
    refine (hC u (h4.turn0 hu)).mono ?_
    rintro e w5 ⟨ra, rc, rfl, hO⟩
    have hc := hcell u w5 hu hO.2.2
    exact ⟨ra, rc, rfl, ⟨u, hu, hO⟩, (World.cell?_of_block (a := ⟨vb, 0, none⟩) (hc vb (h.sub _ ho.2.2) (lt_of_cell gB))).trans gB, (World.cell?_of_block (a := ⟨v, 1, none⟩) (hc v (h.sub _ ho.2.1) (lt_of_cell gV))).trans gV, ⟨_, (World.cell?_of_block (a := ⟨sg, 3, none⟩) (hc sg hso (lt_of_cell g3))).trans g3⟩, (World.frozen?_of_block (a := ⟨sg, 3, none⟩) (hc sg hso (lt_of_cell g3))).trans (gf 3)⟩) gS gB gV
  have hF := hR.mono (R' := fun e w6 => e = .returned (.tuple #[]) ∧ (∃ ra rc w5, (∃ u, Turn [] W u ∧ ComOut u w5 O OT st t p b m sg N c vw tx did ld ch l ra rc) ∧ (w6 = w5.setCell ⟨sg, 3, none⟩ (.slice ra ld.length rc) ∨ w6 = (w5.drew).setCell ⟨sg, 3, none⟩ (.slice ra ld.length rc))) ∧ w6.cell? ⟨sg, 0, none⟩ = some (.int .u32 0) ∧ w6.cell? ⟨sg, 1, none⟩ = some (.int .i32 1) ∧ ∀ o, w6.frozen? ⟨sg, o, none⟩ = false) (by
    rintro e w6 ⟨rfl, ra, rc, w5, ⟨u, hu, hO⟩, hw⟩
    have hc := hcell u w5 hu hO.2.2 sg hso (lt_of_cell g3)
    have c0 := (World.cell?_of_block (a := ⟨sg, 0, none⟩) hc).trans g0
    have c1 := (World.cell?_of_block (a := ⟨sg, 1, none⟩) hc).trans g1
    have cf : ∀ o, w5.frozen? ⟨sg, o, none⟩ = false := fun o => (World.frozen?_of_block (a := ⟨sg, o, none⟩) hc).trans (gf o)
    refine ⟨rfl, ⟨ra, rc, w5, ⟨u, hu, hO⟩, hw⟩, ?_, ?_, ?_⟩
    · rcases hw with rfl | rfl
      · exact (World.cell?_setCell_other _ _ _ _ (off_ne (by omega))).trans c0
      · exact (World.cell?_setCell_other _ _ _ _ (off_ne (by omega))).trans c0
    · rcases hw with rfl | rfl
      · exact (World.cell?_setCell_other _ _ _ _ (off_ne (by omega))).trans c1
      · exact (World.cell?_setCell_other _ _ _ _ (off_ne (by omega))).trans c1
    · rcases hw with rfl | rfl
      · exact fun o => (World.frozen?_setCell ..).trans (cf o)
      · exact fun o => (World.frozen?_setCell ..).trans (cf o))
  refine (sdo sg sb vb w _ hsi.c0 hsi.c1 hsi.fz (by rw [hW]; exact hF)).mono ?_
  rintro e w' ⟨rfl, x, ⟨ra, rc, w5, ⟨u, hu, hO, hS5, hK5⟩, hw⟩, x0, x1, hw'⟩
  have hc := hcell u w5 hu hK5
  have hxT : Turn [sg] w5 x := by
    rcases hw with rfl | rfl
    · exact (Turn.refl _ _).setCell (List.mem_singleton.2 rfl) 3 _
    · exact ((Turn.refl _ _).drew).setCell (List.mem_singleton.2 rfl) 3 _
  have hx3 : x.cell? ⟨sg, 3, none⟩ = some (.slice ra ld.length rc) := by
    have c3 := (World.cell?_of_block (a := ⟨sg, 3, none⟩) (hc sg hso (lt_of_cell g3))).trans g3
    rcases hw with rfl | rfl
    · exact World.cell?_setCell_same _ _ _ c3
    · exact World.cell?_setCell_same _ _ _ c3
  have hxf : ∀ o, x.frozen? ⟨sg, o, none⟩ = false := fun o => by
    have cf := (World.frozen?_of_block (a := ⟨sg, o, none⟩) (hc sg hso (lt_of_cell g3))).trans (gf o)
    rcases hw with rfl | rfl
    · exact (World.frozen?_setCell ..).trans cf
    · exact (World.frozen?_setCell ..).trans cf
  have hT5 : Turn [sg] w5 w' := by
    rw [hw']
    exact ((hxT.setCell (List.mem_singleton.2 rfl) 0 _).drew).setCell (List.mem_singleton.2 rfl) 1 _
  have k0 : ((x.setCell ⟨sg, 0, none⟩ (.int .u32 1)).drew).cell? ⟨sg, 0, none⟩ = some (.int .u32 1) := World.cell?_setCell_same _ _ _ x0
  have k1 : ((x.setCell ⟨sg, 0, none⟩ (.int .u32 1)).drew).cell? ⟨sg, 1, none⟩ = some (.int .i32 1) := (World.cell?_setCell_other _ _ _ _ (off_ne (by omega))).trans x1
  have k3 : ((x.setCell ⟨sg, 0, none⟩ (.int .u32 1)).drew).cell? ⟨sg, 3, none⟩ = some (.slice ra ld.length rc) := (World.cell?_setCell_other _ _ _ _ (off_ne (by omega))).trans hx3
  have kf : ∀ o, ((x.setCell ⟨sg, 0, none⟩ (.int .u32 1)).drew).frozen? ⟨sg, o, none⟩ = false := fun o => (World.frozen?_setCell ..).trans (hxf o)
  have hsg' : SightAt w' sg 1 (.slice ra ld.length rc) := by
    rw [hw']
    exact ⟨(World.cell?_setCell_other _ _ _ _ (off_ne (by omega))).trans k0, World.cell?_setCell_same _ _ _ k1, (World.cell?_setCell_other _ _ _ _ (off_ne (by omega))).trans k3, fun o => (World.frozen?_setCell ..).trans (kf o)⟩
  clear hw hw' hF hR hxT hx3 x0 x1 k0 k1 k3 kf hxf
  obtain ⟨hb, hnil, hP, hx, hxo⟩ := own_bounds hO
  have hxz := own_zero hO
  have hus := hu.size
  have hsgl := h.sgl
  have h6 := hS5.sgTurn hT5
  have hK6 : KeepO OT W w5 := (KeepO.of0 hu).trans hK5
  have hKV : KVsAt w' ra ld := hP.kvs.turn hT5 (fun z _ hz => by
    have := (hx z hz).1
    simp
    omega)
  have hwd : ∀ y, Wr OT (.slice ra ld.length rc) y → ¬ Wr O (.slice ra ld.length rc) y → y ≠ sg → ¬ (Wr O (.slice ra ld.length rc) y ∨ y = sg) := fun y _ h2 h3 h4 => h4.elim h2 h3
  refine ⟨rfl, fun y => Wr O (.slice ra ld.length rc) y ∨ y = sg, Wr OT (.slice ra ld.length rc), ⟨h6.tree, h6.obj, ⟨ra, rc, hsg', hKV, hnil, hb, .inr rfl, fun z hz => ⟨.inl (.inr (hxo z hz)), hxz z hz⟩⟩, fun y hy => hy.elim (h6.sub y) (fun e => by rw [e]; exact h6.osg), h6.ost, hwd _ h6.ost h6.nst h6.ne, h6.ne, ?_, h6.osg⟩, (((KeepO.of hT4 (by simp; exact ⟨hsn, h.tree.not1 hso⟩)).trans (hK6.less h.sub)).trans (KeepO.of hT5 (by simp; exact ⟨hsn, h.tree.not1 hso⟩))), fun y hy => .inl (.inl hy), fun a cap hc z hz => by
    rw [hsg'.c3] at hc
    injection hc with hc
    injection hc with e1 e2 e3
    have := (hx z (e1.trans hz)).1
    omega⟩
  have h7 := h6.txp
  cases tx with
  | none => exact h7
  | some tb =>
    obtain ⟨mb, sz, nt, q1, q2, q3, q4, q5, q6, q7, q8, q9, q10, q11, q12, q13⟩ := h7
    exact ⟨mb, sz, nt, q1, q2, q3, q4, q5, q6, hwd _ q5 q7 q11, hwd _ q6 q8 q13, q9, q10, q11, q12, q13⟩

set_option maxHeartbeats 1600000 in
set_option maxRecDepth 100000 in
/-- The sight was made already. -/
theorem sdo_done (sg : Nat) (f : Value) (w : World) (h0 : w.cell? ⟨sg, 0, none⟩ = some (.int .u32 1)) :
    Calls Tryz.prog 50 #[.pointer (some ⟨sg, 0, none⟩), f] w fun e w' => e = .returned (.tuple #[]) ∧ w' = w := by
  have hl := run_call_load (P := Tryz.prog) Tryz.func107 (by kernel_rfl) (by kernel_rfl) (by kernel_rfl) .u32 (by kernel_rfl) h0
  have hnot : ∀ (x : Bool) (w : World), (Op.unary .not (.bool x)).run Tryz.prog w = .ok (.bool (!x)) w := fun _ _ => rfl
  go_enter Tryz.func50, Tryz.ntmps50
  go_wp2_with (go_at_call 76; go_in)
  go_end0
  exact ⟨rfl, rfl⟩

end Go.Proofs.YthgpjkcgccdldaaGreatDoor

namespace Go.Proofs.YthgpjkcgccdldaaGreatDoor
open Go.RowKit Go.Maps

/-- What committed tells, wherever it is asked. -/
def ComAll (b m N c : Nat) (tx : Option Nat) (did : Nat) (ld : List Kv) (ch : Bool) (l : List Kv) : Prop :=
  ∀ (O OT : Nat → Prop) (st t p sg vw : Nat) (u : World), StoreG u O OT st t p b m sg N c vw none tx did ld ch l → Calls Tryz.prog 52 #[.pointer (some ⟨st, 0, none⟩)] u fun e w' => ∃ ra rc, e = .returned (.slice ra ld.length rc) ∧ ComOut u w' O OT st t p b m sg N c vw tx did ld ch l ra rc
theorem comall_none {b m N c : Nat} {did : Nat} {ld : List Kv} {ch : Bool} {l : List Kv} (hl : ld.length ≤ 100000) : ComAll b m N c none did ld ch l := fun _ _ _ _ _ _ _ _ h => committed_none h hl

set_option maxRecDepth 100000 in
set_option maxHeartbeats 3200000 in
theorem xlook_new {w : World} {O : Nat → Prop} {st b m N c vw : Nat} {tx : Option Nat} {did : Nat} {ld : List Kv} {ch : Bool} {l : List Kv} (h : StoreK w O st b m N c vw (some true) tx did ld ch l) (hvw : vw ≤ 15) (hC : ComAll b m N c tx did ld ch l) :
    Calls Tryz.prog 22 #[.pointer (some ⟨st, 0, none⟩)] w fun e w' => ∃ v O', e = .returned (.pointer (some ⟨v, 0, none⟩)) ∧ StoreK w' O' st b m N c (vw + 1) (some false) tx did ld ch l ∧ ViewAt w' O' v st ld ∧ KeepO O w w' ∧ (∀ x, O x → O' x) ∧ w.heap.size ≤ v := by
  obtain ⟨OT, t, p, sg, h⟩ := h
  have hTa : Turn [] w (((w.alloc (.cells #[.pointer (some ⟨st, 0, none⟩)] 28)).alloc (.cells #[.pointer (some ⟨st, 0, none⟩), .pointer none] 107)).alloc (.cells #[.pointer (some ⟨w.heap.size + 1, 0, none⟩)] 46)) := (((Turn.refl [] w).alloc _).alloc _).alloc _
  have hsz : (((w.alloc (.cells #[.pointer (some ⟨st, 0, none⟩)] 28)).alloc (.cells #[.pointer (some ⟨st, 0, none⟩), .pointer none] 107)).alloc (.cells #[.pointer (some ⟨w.heap.size + 1, 0, none⟩)] 46)).heap.size = w.heap.size + 3 := by simp
  have h1 := h.more0 hTa
  have h4 := h1.obj.c4
  have hne : ¬ ((vw : Int) = 16) := by omega
  have HD := hide (xdead h1)
  have H := hide h
  have H1 := hide h1
  have e1 : w.heap.size + 1 = (w.alloc (.cells #[.pointer (some ⟨st, 0, none⟩)] 28)).heap.size := by simp
  have e2 : w.heap.size + 1 + 1 = ((w.alloc (.cells #[.pointer (some ⟨st, 0, none⟩)] 28)).alloc (.cells #[.pointer (some ⟨st, 0, none⟩), .pointer none] 107)).heap.size := by simp
  have hS0 : (((w.alloc (.cells #[.pointer (some ⟨st, 0, none⟩)] 28)).alloc (.cells #[.pointer (some ⟨st, 0, none⟩), .pointer none] 107)).alloc (.cells #[.pointer (some ⟨w.heap.size + 1, 0, none⟩)] 46)).cell? ⟨w.heap.size, 0, none⟩ = some (.pointer (some ⟨st, 0, none⟩)) := Lib.cell?_alloc_some _ (Lib.cell?_alloc_some _ (World.cell?_alloc_at _ _ _ _ rfl))
  have hV00 : (((w.alloc (.cells #[.pointer (some ⟨st, 0, none⟩)] 28)).alloc (.cells #[.pointer (some ⟨st, 0, none⟩), .pointer none] 107)).alloc (.cells #[.pointer (some ⟨w.heap.size + 1, 0, none⟩)] 46)).cell? ⟨w.heap.size + 1, 0, none⟩ = some (.pointer (some ⟨st, 0, none⟩)) := Lib.cell?_alloc_some _ (by rw [e1]; exact World.cell?_alloc_at _ _ _ _ rfl)
  have hV0 : (((w.alloc (.cells #[.pointer (some ⟨st, 0, none⟩)] 28)).alloc (.cells #[.pointer (some ⟨st, 0, none⟩), .pointer none] 107)).alloc (.cells #[.pointer (some ⟨w.heap.size + 1, 0, none⟩)] 46)).cell? ⟨w.heap.size + 1, 1, none⟩ = some (.pointer none) := Lib.cell?_alloc_some _ (by rw [e1]; exact World.cell?_alloc_at _ _ _ _ rfl)
  have hVf0 : (((w.alloc (.cells #[.pointer (some ⟨st, 0, none⟩)] 28)).alloc (.cells #[.pointer (some ⟨st, 0, none⟩), .pointer none] 107)).alloc (.cells #[.pointer (some ⟨w.heap.size + 1, 0, none⟩)] 46)).frozen? ⟨w.heap.size + 1, 1, none⟩ = false := (World.frozen?_of_block (a := ⟨w.heap.size + 1, 1, none⟩) (((Turn.refl [] _).alloc _).block _ (by simp) (by simp))).trans (by rw [e1]; exact World.frozen?_alloc_at _ _ _ _ rfl)
  have hB0 : (((w.alloc (.cells #[.pointer (some ⟨st, 0, none⟩)] 28)).alloc (.cells #[.pointer (some ⟨st, 0, none⟩), .pointer none] 107)).alloc (.cells #[.pointer (some ⟨w.heap.size + 1, 0, none⟩)] 46)).cell? ⟨w.heap.size + 1 + 1, 0, none⟩ = some (.pointer (some ⟨w.heap.size + 1, 0, none⟩)) := by rw [e2]; exact World.cell?_alloc_at _ _ _ _ rfl
  have hm : ∀ x, w.heap.size ≤ x → x < w.heap.size + 3 → More O w (((w.alloc (.cells #[.pointer (some ⟨st, 0, none⟩)] 28)).alloc (.cells #[.pointer (some ⟨st, 0, none⟩), .pointer none] 107)).alloc (.cells #[.pointer (some ⟨w.heap.size + 1, 0, none⟩)] 46)) x := fun x h1 h2 => .inr ⟨h1, by omega⟩
  have HM := hide hm
  have HT := hide hTa
  have HSz := hide hsz
  have HCe := hide (show _ ∧ _ ∧ _ ∧ _ ∧ _ from ⟨hS0, hV00, hV0, hVf0, hB0⟩)
  clear h h1 hTa hsz hm e1 e2 hS0 hV00 hV0 hVf0 hB0
  go_enter Tryz.func22, Tryz.ntmps22
  go_wp2_with fail
  refine HD.out.mono ?_
  rintro e w1 ⟨rfl, h2, hK1⟩
  have hcl : ∀ (x o : Nat) (u : Value), w.heap.size ≤ x → x < w.heap.size + 3 → (((w.alloc (.cells #[.pointer (some ⟨st, 0, none⟩)] 28)).alloc (.cells #[.pointer (some ⟨st, 0, none⟩), .pointer none] 107)).alloc (.cells #[.pointer (some ⟨w.heap.size + 1, 0, none⟩)] 46)).cell? ⟨x, o, none⟩ = some u → w1.cell? ⟨x, o, none⟩ = some u := fun x o u g1 g2 hu => (World.cell?_of_block (a := ⟨x, o, none⟩) (hK1.block (H1.out.sub x (HM.out x g1 g2)) (lt_of_cell hu))).trans hu
  have hS := hcl _ 0 _ (by omega) (by omega) HCe.out.1
  have hV00 := hcl _ 0 _ (by omega) (by omega) HCe.out.2.1
  have hV := hcl _ 1 _ (by omega) (by omega) HCe.out.2.2.1
  have hVf : w1.frozen? ⟨w.heap.size + 1, 1, none⟩ = false := (World.frozen?_of_block (a := ⟨w.heap.size + 1, 1, none⟩) (hK1.block (H1.out.sub _ (HM.out (w.heap.size + 1) (by omega) (by omega))) (lt_of_cell HCe.out.2.2.1))).trans HCe.out.2.2.2.1
  have hB := hcl _ 0 _ (by omega) (by omega) HCe.out.2.2.2.2
  generalize (((w.alloc (.cells #[.pointer (some ⟨st, 0, none⟩)] 28)).alloc (.cells #[.pointer (some ⟨st, 0, none⟩), .pointer none] 107)).alloc (.cells #[.pointer (some ⟨w.heap.size + 1, 0, none⟩)] 46)) = W3 at *
  have HK1 := hide hK1
  have H2 := hide h2
  have h41 := h2.obj.c4
  have f41 := h2.obj.fz 4
  have hstl := h2.obj.lt
  have hw1 := hK1.size
  have HB := hide hB
  have HS := hide hS
  have HV := hide (show _ ∧ _ ∧ _ from ⟨hV00, hV, hVf⟩)
  have heq : ((vw : Int) == 16) = false := by simp; omega
  have hsts : st < w.heap.size := H.out.obj.lt
  have HG := hide (show ∀ O' OT', StoreG w1 O' OT' st t p b m sg N c vw none tx did ld ch l → StoreG (w1.setCell ⟨st, 4, none⟩ (.int .i64 ((vw : Int) + 1))) O' OT' st t p b m sg N c (vw + 1) none tx did ld ch l from fun O' OT' h => h.count (vw + 1) _ rfl)
  clear hK1 h2 hcl hV00 hV hVf
  go_wp2_with fail
  have h3 := HG.out _ _ H2.out.blind
  have hTst : Turn [st] w1 (w1.setCell ⟨st, 4, none⟩ (.int .i64 ((vw : Int) + 1))) := (Turn.refl [st] w1).setCell (List.mem_singleton.2 rfl) 4 _
  have hB2 := (hTst.cell (p := ⟨w.heap.size + 1 + 1, 0, none⟩) (lt_of_cell HB.out) (by simp; omega)).trans HB.out
  have hS2 := (hTst.cell (p := ⟨w.heap.size, 0, none⟩) (lt_of_cell HS.out) (by simp; omega)).trans HS.out
  have hV2 := (hTst.cell (p := ⟨w.heap.size + 1, 1, none⟩) (lt_of_cell HV.out.2.1) (by simp; omega)).trans HV.out.2.1
  have hV20 := (hTst.cell (p := ⟨w.heap.size + 1, 0, none⟩) (lt_of_cell HV.out.1) (by simp; omega)).trans HV.out.1
  have hVf2 : (w1.setCell ⟨st, 4, none⟩ (.int .i64 ((vw : Int) + 1))).frozen? ⟨w.heap.size + 1, 1, none⟩ = false := (World.frozen?_setCell ..).trans HV.out.2.2
  have HTst := hide hTst
  generalize w1.setCell ⟨st, 4, none⟩ (.int .i64 ((vw : Int) + 1)) = w2 at *
  have h52 := h3.obj.c5
  have H3 := hide h3
  have HV20 := hide hV20
  clear h3 hTst hB hS h41 f41 hV20 HG
  go_region_with (fail)
  all_goals
    have hs3 := HSz.out
    have hw2s := HTst.out.size
    have hTv : Turn [w.heap.size + 1] w2 ((w2.setCell ⟨w.heap.size + 1, 1, none⟩ (.pointer (some ⟨sg, 0, none⟩))).drew) := ((Turn.refl [w.heap.size + 1] w2).setCell (List.mem_singleton.2 rfl) 1 _).drew
    have h5 := H3.out.others0 hTv (fun x hx => by rw [List.mem_singleton.1 hx]; exact HM.out _ (by omega) (by omega))
    have hB3 := (hTv.cell (p := ⟨w.heap.size + 1 + 1, 0, none⟩) (lt_of_cell hB2) (by simp)).trans hB2
    have hS3 := (hTv.cell (p := ⟨w.heap.size, 0, none⟩) (lt_of_cell hS2) (by simp)).trans hS2
    have hV3 : ((w2.setCell ⟨w.heap.size + 1, 1, none⟩ (.pointer (some ⟨sg, 0, none⟩))).drew).cell? ⟨w.heap.size + 1, 1, none⟩ = some (.pointer (some ⟨sg, 0, none⟩)) := World.cell?_setCell_same _ _ _ hV2
    have hV30 : ((w2.setCell ⟨w.heap.size + 1, 1, none⟩ (.pointer (some ⟨sg, 0, none⟩))).drew).cell? ⟨w.heap.size + 1, 0, none⟩ = some (.pointer (some ⟨st, 0, none⟩)) := (World.cell?_setCell_other _ _ _ _ (off_ne (by omega))).trans HV20.out
    have hVf3 : ((w2.setCell ⟨w.heap.size + 1, 1, none⟩ (.pointer (some ⟨sg, 0, none⟩))).drew).frozen? ⟨w.heap.size + 1, 1, none⟩ = false := (World.frozen?_setCell ..).trans hVf2
    generalize (w2.setCell ⟨w.heap.size + 1, 1, none⟩ (.pointer (some ⟨sg, 0, none⟩))).drew = w3 at *
    have hold : ∀ x, O x → w3.heap[x]? = w.heap[x]? := fun x hx => by
      have hxl := H.out.ob x (H.out.sub x hx)
      have hxs : x ≠ st := fun e => H.out.nst (e ▸ hx)
      have g1 := HT.out.block x hxl (by simp)
      have g2 := HK1.out.block (x := x) (H1.out.sub x (.inl hx)) (by omega)
      have g3 := HTst.out.block x (by omega) (by simp; exact hxs)
      have hw2 := HTst.out.size
      have g4 := hTv.block x (by omega) (by simp; omega)
      exact g4.trans (g3.trans (g2.trans g1))
    have hK3 : KeepO O w w3 := (((KeepO.of0 HT.out).trans (HK1.out.less (fun x hx => H1.out.sub x (.inl hx)))).trans (KeepO.of HTst.out (by simp; exact ⟨H.out.nst, H.out.tree.not1 H.out.ost⟩))).trans (KeepO.of hTv (fun x hx => by
      rw [List.mem_singleton.1 hx]
      exact ⟨fun ho => by have := H.out.ob _ (H.out.sub _ ho); omega, by omega⟩))
    have hvO : More O w W3 (w.heap.size + 1) := HM.out _ (by omega) (by omega)
    have HK3 := hide hK3
    have HVs := hide (show _ ∧ _ ∧ _ ∧ _ from ⟨hvO, hV3, hV30, hVf3⟩)
    have hsi : SightG w3 (More O w W3) (More OT w W3) sg ld (some true) := by
      have g0 := H2.out.sight
      have hsl := H2.out.sgl
      have hvs : sg ≠ w.heap.size + 1 := fun e => g0.2.2 (e ▸ hvO)
      have hw2 := HTst.out.size
      exact ⟨g0.1.same ((hTv.block sg (by omega) (by simp; exact hvs)).trans (HTst.out.block sg hsl (by simp; exact H.out.ne.symm))), g0.2⟩
    have HO := hide (see_once (h5.seeing hsi) (hC _ _ _ _ _ _ _) w.heap.size (w.heap.size + 1) (w.heap.size + 1 + 1) ⟨HM.out _ (by omega) (by omega), hvO, HM.out _ (by omega) (by omega)⟩ hS3 hB3 hV3)
    clear h5 hTv hV2 hVf2 hB2 hS2 hS3 hold hK3 hsi hV30 hVf3
    go_wp2_with (go_at_call 50; refine HO.out.mono ?_; rintro e w4 ⟨rfl, O', OT', hSt, hKp, hsub, hrow⟩; have HRow := hide hrow; clear hrow; have HSt := hide hSt; have HKp := hide hKp; have Hsub := hide hsub; have hB4 := (World.cell?_of_block (a := ⟨w.heap.size + 1 + 1, 0, none⟩) (hKp.block (HM.out (w.heap.size + 1 + 1) (by omega) (by omega)) (lt_of_cell hB3))).trans hB3; clear hSt hKp hsub)
    go_ret
    obtain ⟨a, cap, q1, q2, q3, q4, q5, q6⟩ := HSt.out.sight
    have hvl := lt_of_cell HVs.out.2.1
    have hc : ∀ (o : Nat) (u : Value), w3.cell? ⟨w.heap.size + 1, o, none⟩ = some u → w4.cell? ⟨w.heap.size + 1, o, none⟩ = some u := fun o u hu => (World.cell?_of_block (a := ⟨w.heap.size + 1, o, none⟩) (HKp.out.block hvO hvl)).trans hu
    refine ⟨w.heap.size + 1, O', rfl, ⟨OT', t, p, sg, HSt.out⟩, ⟨⟨sg, a, cap, hc 1 _ HVs.out.2.1, q1.c3, q2, q3, q4, q5, fun x hx => (q6 x hx).1, fun e => ?_, fun x hx e => ?_⟩, Hsub.out _ hvO, hc 0 _ HVs.out.2.2.1, (World.frozen?_of_block (a := ⟨w.heap.size + 1, 1, none⟩) (HKp.out.block hvO hvl)).trans HVs.out.2.2.2⟩, HK3.out.trans (HKp.out.less (fun x hx => .inl hx)), fun x hx => Hsub.out _ (.inl hx), by omega⟩
    · have := H.out.sgl; omega
    · have := HRow.out a cap q1.c3 x hx; omega

set_option maxRecDepth 100000 in
set_option maxHeartbeats 3200000 in
theorem xlook_old {w : World} {O : Nat → Prop} {st b m N c vw : Nat} {tx : Option Nat} {did : Nat} {ld : List Kv} {ch : Bool} {l : List Kv} (h : StoreK w O st b m N c vw (some false) tx did ld ch l) (hvw : vw ≤ 15)  :
    Calls Tryz.prog 22 #[.pointer (some ⟨st, 0, none⟩)] w fun e w' => ∃ v O', e = .returned (.pointer (some ⟨v, 0, none⟩)) ∧ StoreK w' O' st b m N c (vw + 1) (some false) tx did ld ch l ∧ ViewAt w' O' v st ld ∧ KeepO O w w' ∧ (∀ x, O x → O' x) ∧ w.heap.size ≤ v := by
  obtain ⟨OT, t, p, sg, h⟩ := h
  have hTa : Turn [] w (((w.alloc (.cells #[.pointer (some ⟨st, 0, none⟩)] 28)).alloc (.cells #[.pointer (some ⟨st, 0, none⟩), .pointer none] 107)).alloc (.cells #[.pointer (some ⟨w.heap.size + 1, 0, none⟩)] 46)) := (((Turn.refl [] w).alloc _).alloc _).alloc _
  have hsz : (((w.alloc (.cells #[.pointer (some ⟨st, 0, none⟩)] 28)).alloc (.cells #[.pointer (some ⟨st, 0, none⟩), .pointer none] 107)).alloc (.cells #[.pointer (some ⟨w.heap.size + 1, 0, none⟩)] 46)).heap.size = w.heap.size + 3 := by simp
  have h1 := h.more0 hTa
  have h4 := h1.obj.c4
  have hne : ¬ ((vw : Int) = 16) := by omega
  have HD := hide (xdead h1)
  have H := hide h
  have H1 := hide h1
  have e1 : w.heap.size + 1 = (w.alloc (.cells #[.pointer (some ⟨st, 0, none⟩)] 28)).heap.size := by simp
  have e2 : w.heap.size + 1 + 1 = ((w.alloc (.cells #[.pointer (some ⟨st, 0, none⟩)] 28)).alloc (.cells #[.pointer (some ⟨st, 0, none⟩), .pointer none] 107)).heap.size := by simp
  have hS0 : (((w.alloc (.cells #[.pointer (some ⟨st, 0, none⟩)] 28)).alloc (.cells #[.pointer (some ⟨st, 0, none⟩), .pointer none] 107)).alloc (.cells #[.pointer (some ⟨w.heap.size + 1, 0, none⟩)] 46)).cell? ⟨w.heap.size, 0, none⟩ = some (.pointer (some ⟨st, 0, none⟩)) := Lib.cell?_alloc_some _ (Lib.cell?_alloc_some _ (World.cell?_alloc_at _ _ _ _ rfl))
  have hV00 : (((w.alloc (.cells #[.pointer (some ⟨st, 0, none⟩)] 28)).alloc (.cells #[.pointer (some ⟨st, 0, none⟩), .pointer none] 107)).alloc (.cells #[.pointer (some ⟨w.heap.size + 1, 0, none⟩)] 46)).cell? ⟨w.heap.size + 1, 0, none⟩ = some (.pointer (some ⟨st, 0, none⟩)) := Lib.cell?_alloc_some _ (by rw [e1]; exact World.cell?_alloc_at _ _ _ _ rfl)
  have hV0 : (((w.alloc (.cells #[.pointer (some ⟨st, 0, none⟩)] 28)).alloc (.cells #[.pointer (some ⟨st, 0, none⟩), .pointer none] 107)).alloc (.cells #[.pointer (some ⟨w.heap.size + 1, 0, none⟩)] 46)).cell? ⟨w.heap.size + 1, 1, none⟩ = some (.pointer none) := Lib.cell?_alloc_some _ (by rw [e1]; exact World.cell?_alloc_at _ _ _ _ rfl)
  have hVf0 : (((w.alloc (.cells #[.pointer (some ⟨st, 0, none⟩)] 28)).alloc (.cells #[.pointer (some ⟨st, 0, none⟩), .pointer none] 107)).alloc (.cells #[.pointer (some ⟨w.heap.size + 1, 0, none⟩)] 46)).frozen? ⟨w.heap.size + 1, 1, none⟩ = false := (World.frozen?_of_block (a := ⟨w.heap.size + 1, 1, none⟩) (((Turn.refl [] _).alloc _).block _ (by simp) (by simp))).trans (by rw [e1]; exact World.frozen?_alloc_at _ _ _ _ rfl)
  have hB0 : (((w.alloc (.cells #[.pointer (some ⟨st, 0, none⟩)] 28)).alloc (.cells #[.pointer (some ⟨st, 0, none⟩), .pointer none] 107)).alloc (.cells #[.pointer (some ⟨w.heap.size + 1, 0, none⟩)] 46)).cell? ⟨w.heap.size + 1 + 1, 0, none⟩ = some (.pointer (some ⟨w.heap.size + 1, 0, none⟩)) := by rw [e2]; exact World.cell?_alloc_at _ _ _ _ rfl
  have hm : ∀ x, w.heap.size ≤ x → x < w.heap.size + 3 → More O w (((w.alloc (.cells #[.pointer (some ⟨st, 0, none⟩)] 28)).alloc (.cells #[.pointer (some ⟨st, 0, none⟩), .pointer none] 107)).alloc (.cells #[.pointer (some ⟨w.heap.size + 1, 0, none⟩)] 46)) x := fun x h1 h2 => .inr ⟨h1, by omega⟩
  have HM := hide hm
  have HT := hide hTa
  have HSz := hide hsz
  have HCe := hide (show _ ∧ _ ∧ _ ∧ _ ∧ _ from ⟨hS0, hV00, hV0, hVf0, hB0⟩)
  clear h h1 hTa hsz hm e1 e2 hS0 hV00 hV0 hVf0 hB0
  go_enter Tryz.func22, Tryz.ntmps22
  go_wp2_with fail
  refine HD.out.mono ?_
  rintro e w1 ⟨rfl, h2, hK1⟩
  have hcl : ∀ (x o : Nat) (u : Value), w.heap.size ≤ x → x < w.heap.size + 3 → (((w.alloc (.cells #[.pointer (some ⟨st, 0, none⟩)] 28)).alloc (.cells #[.pointer (some ⟨st, 0, none⟩), .pointer none] 107)).alloc (.cells #[.pointer (some ⟨w.heap.size + 1, 0, none⟩)] 46)).cell? ⟨x, o, none⟩ = some u → w1.cell? ⟨x, o, none⟩ = some u := fun x o u g1 g2 hu => (World.cell?_of_block (a := ⟨x, o, none⟩) (hK1.block (H1.out.sub x (HM.out x g1 g2)) (lt_of_cell hu))).trans hu
  have hS := hcl _ 0 _ (by omega) (by omega) HCe.out.1
  have hV00 := hcl _ 0 _ (by omega) (by omega) HCe.out.2.1
  have hV := hcl _ 1 _ (by omega) (by omega) HCe.out.2.2.1
  have hVf : w1.frozen? ⟨w.heap.size + 1, 1, none⟩ = false := (World.frozen?_of_block (a := ⟨w.heap.size + 1, 1, none⟩) (hK1.block (H1.out.sub _ (HM.out (w.heap.size + 1) (by omega) (by omega))) (lt_of_cell HCe.out.2.2.1))).trans HCe.out.2.2.2.1
  have hB := hcl _ 0 _ (by omega) (by omega) HCe.out.2.2.2.2
  generalize (((w.alloc (.cells #[.pointer (some ⟨st, 0, none⟩)] 28)).alloc (.cells #[.pointer (some ⟨st, 0, none⟩), .pointer none] 107)).alloc (.cells #[.pointer (some ⟨w.heap.size + 1, 0, none⟩)] 46)) = W3 at *
  have HK1 := hide hK1
  have H2 := hide h2
  have h41 := h2.obj.c4
  have f41 := h2.obj.fz 4
  have hstl := h2.obj.lt
  have hw1 := hK1.size
  have HB := hide hB
  have HS := hide hS
  have HV := hide (show _ ∧ _ ∧ _ from ⟨hV00, hV, hVf⟩)
  have heq : ((vw : Int) == 16) = false := by simp; omega
  have hsts : st < w.heap.size := H.out.obj.lt
  have HG := hide (show ∀ O' OT', StoreG w1 O' OT' st t p b m sg N c vw none tx did ld ch l → StoreG (w1.setCell ⟨st, 4, none⟩ (.int .i64 ((vw : Int) + 1))) O' OT' st t p b m sg N c (vw + 1) none tx did ld ch l from fun O' OT' h => h.count (vw + 1) _ rfl)
  clear hK1 h2 hcl hV00 hV hVf
  go_wp2_with fail
  have h3 := HG.out _ _ H2.out.blind
  have hTst : Turn [st] w1 (w1.setCell ⟨st, 4, none⟩ (.int .i64 ((vw : Int) + 1))) := (Turn.refl [st] w1).setCell (List.mem_singleton.2 rfl) 4 _
  have hB2 := (hTst.cell (p := ⟨w.heap.size + 1 + 1, 0, none⟩) (lt_of_cell HB.out) (by simp; omega)).trans HB.out
  have hS2 := (hTst.cell (p := ⟨w.heap.size, 0, none⟩) (lt_of_cell HS.out) (by simp; omega)).trans HS.out
  have hV2 := (hTst.cell (p := ⟨w.heap.size + 1, 1, none⟩) (lt_of_cell HV.out.2.1) (by simp; omega)).trans HV.out.2.1
  have hV20 := (hTst.cell (p := ⟨w.heap.size + 1, 0, none⟩) (lt_of_cell HV.out.1) (by simp; omega)).trans HV.out.1
  have hVf2 : (w1.setCell ⟨st, 4, none⟩ (.int .i64 ((vw : Int) + 1))).frozen? ⟨w.heap.size + 1, 1, none⟩ = false := (World.frozen?_setCell ..).trans HV.out.2.2
  have HTst := hide hTst
  generalize w1.setCell ⟨st, 4, none⟩ (.int .i64 ((vw : Int) + 1)) = w2 at *
  have h52 := h3.obj.c5
  have H3 := hide h3
  have HV20 := hide hV20
  clear h3 hTst hB hS h41 f41 hV20 HG
  go_region_with (fail)
  all_goals
    have hs3 := HSz.out
    have hw2s := HTst.out.size
    have hTv : Turn [w.heap.size + 1] w2 ((w2.setCell ⟨w.heap.size + 1, 1, none⟩ (.pointer (some ⟨sg, 0, none⟩))).drew) := ((Turn.refl [w.heap.size + 1] w2).setCell (List.mem_singleton.2 rfl) 1 _).drew
    have h5 := H3.out.others0 hTv (fun x hx => by rw [List.mem_singleton.1 hx]; exact HM.out _ (by omega) (by omega))
    have hB3 := (hTv.cell (p := ⟨w.heap.size + 1 + 1, 0, none⟩) (lt_of_cell hB2) (by simp)).trans hB2
    have hS3 := (hTv.cell (p := ⟨w.heap.size, 0, none⟩) (lt_of_cell hS2) (by simp)).trans hS2
    have hV3 : ((w2.setCell ⟨w.heap.size + 1, 1, none⟩ (.pointer (some ⟨sg, 0, none⟩))).drew).cell? ⟨w.heap.size + 1, 1, none⟩ = some (.pointer (some ⟨sg, 0, none⟩)) := World.cell?_setCell_same _ _ _ hV2
    have hV30 : ((w2.setCell ⟨w.heap.size + 1, 1, none⟩ (.pointer (some ⟨sg, 0, none⟩))).drew).cell? ⟨w.heap.size + 1, 0, none⟩ = some (.pointer (some ⟨st, 0, none⟩)) := (World.cell?_setCell_other _ _ _ _ (off_ne (by omega))).trans HV20.out
    have hVf3 : ((w2.setCell ⟨w.heap.size + 1, 1, none⟩ (.pointer (some ⟨sg, 0, none⟩))).drew).frozen? ⟨w.heap.size + 1, 1, none⟩ = false := (World.frozen?_setCell ..).trans hVf2
    generalize (w2.setCell ⟨w.heap.size + 1, 1, none⟩ (.pointer (some ⟨sg, 0, none⟩))).drew = w3 at *
    have hold : ∀ x, O x → w3.heap[x]? = w.heap[x]? := fun x hx => by
      have hxl := H.out.ob x (H.out.sub x hx)
      have hxs : x ≠ st := fun e => H.out.nst (e ▸ hx)
      have g1 := HT.out.block x hxl (by simp)
      have g2 := HK1.out.block (x := x) (H1.out.sub x (.inl hx)) (by omega)
      have g3 := HTst.out.block x (by omega) (by simp; exact hxs)
      have hw2 := HTst.out.size
      have g4 := hTv.block x (by omega) (by simp; omega)
      exact g4.trans (g3.trans (g2.trans g1))
    have hK3 : KeepO O w w3 := (((KeepO.of0 HT.out).trans (HK1.out.less (fun x hx => H1.out.sub x (.inl hx)))).trans (KeepO.of HTst.out (by simp; exact ⟨H.out.nst, H.out.tree.not1 H.out.ost⟩))).trans (KeepO.of hTv (fun x hx => by
      rw [List.mem_singleton.1 hx]
      exact ⟨fun ho => by have := H.out.ob _ (H.out.sub _ ho); omega, by omega⟩))
    have hvO : More O w W3 (w.heap.size + 1) := HM.out _ (by omega) (by omega)
    have HK3 := hide hK3
    have HVs := hide (show _ ∧ _ ∧ _ ∧ _ from ⟨hvO, hV3, hV30, hVf3⟩)
    have hsi : SightG w3 O OT sg ld (some false) := by
      obtain ⟨a, cap, q1, q2, q3, q4, q5, q6⟩ := H.out.sight
      exact SightG.same (w := w) (fs := some false) ⟨a, cap, q1, q2, q3, q4, q5, q6⟩ (hold sg q5) (fun x hx _ => hold x hx)
    have hsi2 : SightG w3 (More O w W3) (More OT w W3) sg ld (some false) := hsi.wide (fun x hx => .inl hx) (fun x g1 g2 g3 => g3.elim g2 (fun g4 => by have := H.out.ob x g1; omega)) (fun x hx => .inl hx)
    have H5 := hide (h5.seeing hsi2)
    obtain ⟨a, cap, q1, q2, q3, q4, q5, q6⟩ := hsi
    have HO := hide (sdo_done sg (.func (.func 51) #[] #[.pointer (some ⟨w.heap.size, 0, none⟩), .pointer (some ⟨w.heap.size + 1 + 1, 0, none⟩)]) w3 q1.c0)
    have HQ := hide (show _ ∧ _ ∧ _ ∧ _ ∧ _ ∧ _ from ⟨q1, q2, q3, q4, q5, q6⟩)
    clear h5 hTv hV2 hVf2 hB2 hS2 hS3 hold hK3 hsi2 hV30 hVf3 q1 q2 q3 q4 q5 q6
    go_wp2_with (go_at_call 50; refine HO.out.mono ?_; rintro e w4 ⟨rfl, ew⟩; obtain rfl : w3 = w4 := ew.symm)
    go_ret
    obtain ⟨q1, q2, q3, q4, q5, q6⟩ := HQ.out
    refine ⟨w.heap.size + 1, More O w W3, rfl, ⟨_, t, p, sg, H5.out⟩, ⟨⟨sg, a, cap, HVs.out.2.1, q1.c3, q2, q3, q4, .inl q5, fun x g1 => .inl (q6 x g1).1, fun e => ?_, fun x hx e => ?_⟩, hvO, HVs.out.2.2.1, HVs.out.2.2.2⟩, HK3.out, fun x hx => .inl hx, by omega⟩
    · have := H.out.sgl; omega
    · have := H.out.ob _ (H.out.sub _ (q6 x hx).1); omega

end Go.Proofs.YthgpjkcgccdldaaGreatDoor

/-
  Rows of texts of the call's own; a gate, and what is known of it, in memory.
-/
import Derived.Test.YtgljldojmpeegaaGFrame
import Derived.Laws.AppendOwnNone
import Derived.Maps.AppendAt
namespace Go.Proofs.Ytgljldojmpeegaa.Ga
open Go.RowKit Go.Maps

theorem bytes_ext {a b : ByteArray} (h : a.data.toList = b.data.toList) : a = b := by
  apply ByteArray.ext
  exact Array.toList_inj.1 h
theorem eq_str (a b : ByteArray) : (a.toList == b.toList) = decide (a = b) := by
  by_cases h : a = b
  · subst h
    simp
  · have : ¬ a.toList = b.toList := fun e => h (by
      apply bytes_ext
      simpa [ByteArray.toList_eq] using e)
    simp [this, h]

def sc (x : ByteArray) : Value := .string x
/-- A row of texts of the call's own. -/
def OwnS (w : World) (base : Nat) (v : Value) (xs : List ByteArray) : Prop := w.ownsRow base 9 1 v xs.length (xs.map sc)
/-- The block of a row of the call's own. -/
def obs (v : Value) : List Nat := v.ownBlock.toList

theorem OwnS.nil (w : World) (base : Nat) : OwnS w base (.slice none 0 0) [] := World.ownsRow_nil _ _ _ _
theorem OwnS.ge {w : World} {base : Nat} {v : Value} {xs : List ByteArray} (h : OwnS w base v xs) : ∀ q ∈ obs v, base ≤ q ∧ q < w.heap.size := by
  obtain ⟨hl, ⟨rfl, _⟩ | ⟨g', cap, cur, rfl, hb, hg', rest⟩⟩ := h
  · simp [obs, Value.ownBlock]
  · intro q hq
    have e : q = g' := by simpa [obs, Value.ownBlock] using hq
    subst e
    refine ⟨hb, ?_⟩
    rcases Nat.lt_or_ge q w.heap.size with h | h
    · exact h
    · rw [Array.getElem?_eq_none h] at hg'; cases hg'
theorem OwnS.turn {S : List Nat} {w w' : World} {base : Nat} {v : Value} {xs : List ByteArray} (h : OwnS w base v xs) (hT : Turn S w w') (hn : ∀ q ∈ obs v, q ∉ S) : OwnS w' base v xs := by
  have hge := h.ge
  obtain ⟨hl, h | ⟨g, cap, cur, rfl, hb, hg, rest⟩⟩ := h
  · exact ⟨hl, .inl h⟩
  · have hm : g ∈ obs (.slice (some ⟨g, 0, none⟩) xs.length cap) := by simp [obs, Value.ownBlock]
    exact ⟨hl, .inr ⟨g, cap, cur, rfl, hb, (hT.block g (hge g hm).2 (hn g hm)).trans hg, rest⟩⟩
theorem OwnS.get {w : World} {base : Nat} {v : Value} {xs : List ByteArray} (h : OwnS w base v xs) {i : Nat} (hi : i < xs.length) : ∃ g cap, v = .slice (some ⟨g, 0, none⟩) xs.length cap ∧ w.cell? ⟨g, i, none⟩ = some (.string (xs.getD i empty)) := by
  obtain ⟨hl, ⟨_, h0⟩ | ⟨g, cap, cur, rfl, hb, hg, hnc, hm, hsz, hcur⟩⟩ := h
  · omega
  · refine ⟨g, cap, rfl, ?_⟩
    unfold World.cell?
    rw [hg]
    show cur[i]? = _
    have h1 : (cur.toList.take (xs.length * 1))[i]? = (xs.map sc)[i]? := by rw [hcur]
    rw [List.getElem?_take, if_pos (by omega), List.getElem?_map, List.getElem?_eq_getElem hi] at h1
    rw [← Array.getElem?_toList, h1, List.getD_eq_getElem?_getD, List.getElem?_eq_getElem hi]
    rfl
theorem OwnS.slice {w : World} {base : Nat} {v : Value} {xs : List ByteArray} (h : OwnS w base v xs) : ∃ a cap, v = .slice a xs.length cap := by
  obtain ⟨hl, ⟨rfl, h0⟩ | ⟨g, cap, cur, rfl, hb, hg, rest⟩⟩ := h
  · exact ⟨none, 0, by rw [h0]⟩
  · exact ⟨_, cap, rfl⟩

theorem info_string : (Try.prog.info? 9).map (fun i => (i.zero, i.size, i.bytes)) = some (some (.string ⟨#[]⟩), 1, 16) := by kernel_rfl

theorem append_str {ops : Array Oper} {rest : List Oper} {o : Oper} {a : Act} {Q : Exit → Act → World → Prop} {w : World} (hgd : o.guard = none) (s x : Operand)
    (ho : o.op = .call { callee := .builtin .append, args := #[s, x], argTypes := #[26, 26] }) (base : Nat) (v : Value) (xs : List ByteArray) (k : ByteArray) (hs : a.eval s = v) (hown : OwnS w base v xs) (b0 : Nat) (hb0 : b0 = w.heap.size) (hx : a.eval x = .slice (some ⟨b0, 0, none⟩) 1 1) (hb : xs.length < 1000000) (hbase : base ≤ w.heap.size)
    (h : ∀ v' w', OwnS w' base v' (xs ++ [k]) → Turn (obs v) w w' → (∀ q ∈ obs v', q ∈ obs v ∨ w.heap.size ≤ q) → wpList Try.prog ops Q rest (a.put o.dst v') w') :
    wpList Try.prog ops Q (o :: rest) a (w.alloc (.cells #[.string k] 9)) := by
  subst hb0
  obtain ⟨i0, hi, hz0, hz1, hz2⟩ := info_parts info_string
  have hown' : OwnS (w.alloc (.cells #[.string k] 9)) base v xs := hown.turn ((Turn.refl [] w).alloc _) (by simp)
  refine wpList_append_own_at (w.alloc (.cells #[.string k] 9)) hgd s x 26 ho base 9 i0 (.string ⟨#[]⟩) 1 16 Try.underlying26 hi hz0 hz1 hz2 rfl (by decide) v xs.length (xs.map sc) hs hown' ⟨w.heap.size, 0, none⟩ 1 1 [.string k] hx rfl (fun j u hj => ?_) (by simp [Value.oneCell']) (by unfold maxLen; omega) (by omega) (by simp; omega) ?_
  · rw [Addr.add_mid, Nat.zero_add, World.cell?_alloc_at _ _ _ _ rfl]
    simpa using hj
  · intro v' w' h1 h2 _ h4
    refine h v' w' ?_ ?_ ?_
    · show w'.ownsRow base 9 1 v' (xs ++ [k]).length ((xs ++ [k]).map sc)
      rw [List.length_append, List.map_append]
      exact h1
    · exact ((Turn.refl (obs v) w).alloc _).grown h2 (fun q hq => .inl (by simp [obs, hq]))
    · intro q hq
      rcases h4 with h4 | h4
      · left; unfold obs at hq ⊢; rw [h4] at hq; exact hq
      · right
        unfold obs at hq
        rw [h4] at hq
        simp at hq
        omega

/-- A gate that the call made, the keys that are somebody's, their names. -/
structure All (W w : World) (g : Nat) (mo : Option Nat) (s : Gt) (vk : Value) (K : List ByteArray) (vn : Value) (N : List ByteArray) : Prop where
  gate : GateAt w g mo s
  keys : OwnS w W.heap.size vk K
  names : OwnS w W.heap.size vn N
  fresh : Fresh W g mo
  kn : ∀ q ∈ obs vk, q ∉ obs vn
  kg : ∀ q ∈ obs vk, q ≠ g ∧ mo ≠ some q
  ng : ∀ q ∈ obs vn, q ≠ g ∧ mo ≠ some q
  turn : Turn [] W w
theorem All.turn0 {W w w' : World} {g : Nat} {mo : Option Nat} {s : Gt} {vk vn : Value} {K N : List ByteArray} (h : All W w g mo s vk K vn N) (hT : Turn [] w w') : All W w' g mo s vk K vn N :=
  ⟨h.gate.turn0 hT, h.keys.turn hT (by simp), h.names.turn hT (by simp), h.fresh, h.kn, h.kg, h.ng, h.turn.trans hT⟩
/-- Something was done to the gate. -/
theorem All.step {W w w' : World} {g : Nat} {mo mo' : Option Nat} {s s' : Gt} {vk vn : Value} {K N : List ByteArray} (h : All W w g mo s vk K vn N) (hG : GateAt w' g mo' s') (hW : Went w mo mo') (k : Turn (g :: mo.toList) w w') : All W w' g mo' s' vk K vn N := by
  have hk := h.keys.ge
  have hn := h.names.ge
  have off : ∀ q, q ≠ g ∧ mo ≠ some q → q ∉ g :: mo.toList := fun q hq => by
    rw [List.mem_cons, Option.mem_toList]
    rintro (e | e)
    · exact hq.1 e
    · exact hq.2 e
  have out : ∀ q, q < w.heap.size → q ≠ g ∧ mo ≠ some q → q ≠ g ∧ mo' ≠ some q := fun q hlt hq => ⟨hq.1, fun e => by
    rcases hW with e' | ⟨_, m, e', hm⟩
    · exact hq.2 (e' ▸ e)
    · rw [e] at e'
      injection e' with e'
      omega⟩
  exact ⟨hG, h.keys.turn k (fun q hq => off q (h.kg q hq)), h.names.turn k (fun q hq => off q (h.ng q hq)), h.fresh.went h.turn hW, h.kn, fun q hq => out q (hk q hq).2 (h.kg q hq), fun q hq => out q (hn q hq).2 (h.ng q hq), h.fresh.turn h.turn k⟩
/-- A key was put behind the others. -/
theorem All.key {W w w' : World} {g : Nat} {mo : Option Nat} {s : Gt} {vk vk' vn : Value} {K K' N : List ByteArray} (h : All W w g mo s vk K vn N) (hK : OwnS w' W.heap.size vk' K') (hT : Turn (obs vk) w w') (hv : ∀ q ∈ obs vk', q ∈ obs vk ∨ w.heap.size ≤ q) : All W w' g mo s vk' K' vn N := by
  have hk := h.keys.ge
  have hn := h.names.ge
  have hgl := h.gate.lt
  refine ⟨h.gate.turn hT (fun e => (h.kg g e).1 rfl) (fun m hm e => (h.kg m e).2 hm), hK, h.names.turn hT (fun q hq e => h.kn q e hq), h.fresh, fun q hq e => ?_, fun q hq => ⟨fun e => ?_, fun e => ?_⟩, h.ng, h.turn.then hT (fun x hx => .inr (hk x hx).1)⟩
  · rcases hv q hq with h1 | h1
    · exact h.kn q h1 e
    · have := (hn q e).2
      omega
  · rcases hv q hq with h1 | h1
    · exact (h.kg q h1).1 e
    · omega
  · rcases hv q hq with h1 | h1
    · exact (h.kg q h1).2 e
    · subst e
      have := h.gate.ltm
      omega
/-- A name was put behind the others. -/
theorem All.name {W w w' : World} {g : Nat} {mo : Option Nat} {s : Gt} {vk vn vn' : Value} {K N N' : List ByteArray} (h : All W w g mo s vk K vn N) (hN : OwnS w' W.heap.size vn' N') (hT : Turn (obs vn) w w') (hv : ∀ q ∈ obs vn', q ∈ obs vn ∨ w.heap.size ≤ q) : All W w' g mo s vk K vn' N' := by
  have hk := h.keys.ge
  have hn := h.names.ge
  have hgl := h.gate.lt
  refine ⟨h.gate.turn hT (fun e => (h.ng g e).1 rfl) (fun m hm e => (h.ng m e).2 hm), h.keys.turn hT (fun q hq e => h.kn q hq e), hN, h.fresh, fun q hq e => ?_, h.kg, fun q hq => ⟨fun e => ?_, fun e => ?_⟩, h.turn.then hT (fun x hx => .inr (hn x hx).1)⟩
  · rcases hv q e with h1 | h1
    · exact h.kn q hq h1
    · have := (hk q hq).2
      omega
  · rcases hv q hq with h1 | h1
    · exact (h.ng q h1).1 e
    · omega
  · rcases hv q hq with h1 | h1
    · exact (h.ng q h1).2 e
    · subst e
      have := h.gate.ltm
      omega

/-- A call in block p, apart from all of these. -/
structure Here (w : World) (p : Nat) (q : Cl) (g : Nat) (mo : Option Nat) (vk vn : Value) : Prop where
  c0 : w.cell? ⟨p, 0, none⟩ = some (.bool q.ad)
  c1 : w.cell? ⟨p, 1, none⟩ = some (.string q.key)
  c2 : w.cell? ⟨p, 2, none⟩ = some (.string q.name)
  pg : p ≠ g ∧ mo ≠ some p
  pk : p ∉ obs vk
  pn : p ∉ obs vn
theorem Here.of {w w' : World} {p : Nat} {q : Cl} {g : Nat} {mo mo' : Option Nat} {vk vk' vn vn' : Value} {S : List Nat} (h : Here w p q g mo vk vn) (hT : Turn S w w') (hp : p ∉ S) (hg : p ≠ g ∧ mo' ≠ some p) (hk : p ∉ obs vk') (hn : p ∉ obs vn') : Here w' p q g mo' vk' vn' := by
  have hb := hT.block p (lt_of_cell h.c0) hp
  exact ⟨(World.cell?_of_block hb).trans h.c0, (World.cell?_of_block hb).trans h.c1, (World.cell?_of_block hb).trans h.c2, hg, hk, hn⟩
theorem Here.step {w w' : World} {p : Nat} {q : Cl} {g : Nat} {mo mo' : Option Nat} {vk vn : Value} (h : Here w p q g mo vk vn) (hW : Went w mo mo') (k : Turn (g :: mo.toList) w w') : Here w' p q g mo' vk vn := by
  refine h.of k ?_ ⟨h.pg.1, fun e => ?_⟩ h.pk h.pn
  · rw [List.mem_cons, Option.mem_toList]
    rintro (e | e)
    · exact h.pg.1 e
    · exact h.pg.2 e
  · rcases hW with e' | ⟨_, m, e', hm⟩
    · exact h.pg.2 (e' ▸ e)
    · rw [e] at e'
      injection e' with e'
      have := lt_of_cell h.c0
      omega
theorem Here.key {w w' : World} {p : Nat} {q : Cl} {g : Nat} {mo : Option Nat} {vk vk' vn : Value} (h : Here w p q g mo vk vn) (hT : Turn (obs vk) w w') (hv : ∀ q ∈ obs vk', q ∈ obs vk ∨ w.heap.size ≤ q) : Here w' p q g mo vk' vn := by
  refine h.of hT h.pk h.pg (fun e => ?_) h.pn
  have := lt_of_cell h.c0
  rcases hv p e with h1 | h1
  · exact h.pk h1
  · omega

/-- What is known of a gate: whose its keys are. -/
structure Inv (admin : ByteArray) (s : Gt) (K N : List ByteArray) : Prop where
  len : N.length = K.length
  n : s.n = K.length
  ad : s.own admin = some (empty, true)
  none : ∀ key, key ≠ admin → (∀ j, j < K.length → K.getD j empty ≠ key) → s.own key = none
  some : ∀ j, j < K.length → K.getD j empty ≠ admin ∧ s.own (K.getD j empty) = some (N.getD j empty, false)
theorem Inv.start (admin : ByteArray) : Inv admin (Gt.new admin) [] [] := ⟨rfl, rfl, new_own admin, fun key h _ => new_none h, fun j h => by simp at h⟩
theorem Inv.ask {admin : ByteArray} {s : Gt} {K N : List ByteArray} (h : Inv admin s K N) (x : ByteArray) : Inv admin (s.ask x) K N := ⟨h.len, h.n, h.ad, h.none, h.some⟩
theorem getD_front {K : List ByteArray} {x : ByteArray} {j : Nat} (h : j < K.length) : (K ++ [x]).getD j empty = K.getD j empty := by
  rw [List.getD_eq_getElem?_getD, List.getD_eq_getElem?_getD, List.getElem?_append_left h]
theorem getD_last (K : List ByteArray) (x : ByteArray) : (K ++ [x]).getD K.length empty = x := by
  rw [List.getD_eq_getElem?_getD, List.getElem?_append_right (Nat.le_refl _)]
  simp
theorem Inv.add {admin : ByteArray} {s : Gt} {K N : List ByteArray} (h : Inv admin s K N) {x y : ByteArray} (hx : x ≠ admin) (hn : ∀ j, j < K.length → K.getD j empty ≠ x) : Inv admin (s.add x y) (K ++ [x]) (N ++ [y]) := by
  have own : ∀ k, (s.add x y).own k = if k = x then Option.some (y, false) else s.own k := fun _ => rfl
  refine ⟨by simp [h.len], by show s.n + 1 = _; rw [h.n]; simp, ?_, fun key h1 h2 => ?_, fun j hj => ?_⟩
  · rw [own, if_neg (fun e => hx e.symm)]; exact h.ad
  · have h3 : key ≠ x := fun e => h2 K.length (by simp) (by rw [getD_last, e])
    rw [own, if_neg h3]
    exact h.none key h1 (fun j hj => by rw [← getD_front (x := x) hj]; exact h2 j (by simp; omega))
  · rw [List.length_append, List.length_singleton] at hj
    rcases Nat.lt_or_ge j K.length with h1 | h1
    · rw [getD_front h1, getD_front (by rw [h.len]; exact h1)]
      refine ⟨(h.some j h1).1, ?_⟩
      rw [own, if_neg (hn j h1)]
      exact (h.some j h1).2
    · obtain rfl : j = K.length := by omega
      rw [getD_last]
      refine ⟨hx, ?_⟩
      rw [own, if_pos rfl]
      rw [show K.length = N.length from h.len.symm, getD_last]

/-- What was found of a key among those ahead of q. -/
def Found (K : List ByteArray) (x : ByteArray) (q : Nat) (r : Int) : Prop := (r = -1 ∧ ∀ j, j < q → K.getD j empty ≠ x) ∨ ∃ j : Nat, j < q ∧ r = j ∧ K.getD j empty = x
theorem Found.zero (K : List ByteArray) (x : ByteArray) : Found K x 0 (-1) := .inl ⟨rfl, fun j h => by omega⟩
theorem Found.yes {K : List ByteArray} {x : ByteArray} {q : Nat} (h : K.getD q empty = x) : Found K x (q + 1) q := .inr ⟨q, by omega, rfl, h⟩
theorem Found.no {K : List ByteArray} {x : ByteArray} {q : Nat} {r : Int} (h : Found K x q r) (hn : K.getD q empty ≠ x) : Found K x (q + 1) r := by
  rcases h with ⟨rfl, h⟩ | ⟨j, hj, rfl, h⟩
  · refine .inl ⟨rfl, fun j hj => ?_⟩
    rcases Nat.lt_or_ge j q with h1 | h1
    · exact h j h1
    · obtain rfl : j = q := by omega
      exact hn
  · exact .inr ⟨j, by omega, rfl, h⟩

end Go.Proofs.Ytgljldojmpeegaa.Ga

/-
  Rows of texts of the call's own.
-/
import Derived.Test.YtkbboingeacgjaaFRk
import Derived.Test.YtkbboingeacgjaaQRS
import Derived.Laws.AppendOwnNone
import Derived.Laws.OwnMore
import Derived.Maps.AppendAt
namespace Go.Proofs.Ytkbboingeacgjaa
open Go.RowKit Go.Maps

def sc (x : ByteArray) : Value := .string x
/-- A row of texts of the call's own. -/
def OwnS (w : World) (base : Nat) (v : Value) (xs : List ByteArray) : Prop := w.ownsRow base 9 1 v xs.length (xs.map sc)
theorem OwnS.get {w : World} {base : Nat} {v : Value} {xs : List ByteArray} (h : OwnS w base v xs) {i : Nat} (hi : i < xs.length) : ∃ g cap, v = .slice (some ⟨g, 0, none⟩) xs.length cap ∧ ∀ j : Nat, j < xs.length → w.cell? ⟨g, j, none⟩ = some (.string (xs.getD j ByteArray.empty)) := by
  obtain ⟨hl, ⟨_, h0⟩ | ⟨g, cap, cur, rfl, hb, hg, hnc, hm, hsz, hcur⟩⟩ := h
  · omega
  · refine ⟨g, cap, rfl, fun j hj => ?_⟩
    unfold World.cell?
    rw [hg]
    show cur[j]? = _
    have h1 : (cur.toList.take (xs.length * 1))[j]? = (xs.map sc)[j]? := by rw [hcur]
    rw [List.getElem?_take, if_pos (by omega), List.getElem?_map, List.getElem?_eq_getElem hj] at h1
    rw [← Array.getElem?_toList, h1, List.getD_eq_getElem?_getD, List.getElem?_eq_getElem hj]
    rfl
theorem own_str1 (w : World) (base : Nat) (k : ByteArray) (hb : base ≤ w.heap.size) : OwnS (w.alloc (.cells #[.string k] 9)) base (.slice (some ⟨w.heap.size, 0, none⟩) 1 1) [k] :=
  World.ownsRow_lit w #[.string k] 1 hb (by unfold maxLen; omega) rfl

theorem info_parts {P : Program} {t : Nat} {z : Value} {n b : Nat} (h : (P.info? t).map (fun i => (i.zero, i.size, i.bytes)) = some (some z, n, b)) : ∃ i, P.info? t = some i ∧ i.zero = some z ∧ i.size = n ∧ i.bytes = b := by
  cases hi : P.info? t with
  | none => rw [hi] at h; simp at h
  | some i => rw [hi] at h; simp at h; exact ⟨i, rfl, h.1, h.2.1, h.2.2⟩

theorem info_string : (Try.prog.info? 9).map (fun i => (i.zero, i.size, i.bytes)) = some (some (.string ⟨#[]⟩), 1, 16) := by kernel_rfl

/-- One text and more behind it. -/
theorem append_strs {ops : Array Oper} {rest : List Oper} {o : Oper} {a : Act} {Q : Exit → Act → World → Prop} {w : World} (hgd : o.guard = none) (s x : Operand)
    (ho : o.op = .call { callee := .builtin .append, args := #[s, x], argTypes := #[70, 70] }) (base : Nat) (v : Value) (xs ks : List ByteArray) (hs : a.eval s = v) (hown : OwnS w base v xs) (b0 n : Nat) (hn : ks.length = n) (hx : a.eval x = .slice (some ⟨b0, 0, none⟩) n n) (hx2 : ∀ j u, (ks.map sc)[j]? = some u → w.cell? ⟨b0, j, none⟩ = some u) (hb : xs.length + n < 1000000) (hbase : base ≤ w.heap.size)
    (h : ∀ v' w', OwnS w' base v' (xs ++ ks) → w.grownBy w' v.ownBlock → wpList Try.prog ops Q rest (a.put o.dst v') w') :
    wpList Try.prog ops Q (o :: rest) a w := by
  obtain ⟨i0, hi, hz0, hz1, hz2⟩ := info_parts info_string
  refine wpList_append_own_at w hgd s x 70 ho base 9 i0 (.string ⟨#[]⟩) 1 16 Try.underlying70 hi hz0 hz1 hz2 rfl (by decide) v xs.length (xs.map sc) hs hown ⟨b0, 0, none⟩ n n (ks.map sc) hx (by simp [hn]) (fun j u hj => ?_) (fun u hu => ?_) (by unfold maxLen; omega) (by omega) (by omega) ?_
  · rw [Addr.add_mid, Nat.zero_add]
    exact hx2 j u hj
  · obtain ⟨k, _, rfl⟩ := List.mem_map.1 hu
    rfl
  · intro v' w' h1 h2 _ h4
    refine h v' w' ?_ h2
    show w'.ownsRow base 9 1 v' (xs ++ ks).length ((xs ++ ks).map sc)
    rw [List.length_append, List.map_append, hn]
    exact h1

/-- Bytes of the call's own, or that a text is too long. -/
structure RencP (w w' : World) (T : List ByteArray) (B : List Nat) (v : Value) (m : Nat) : Prop where
  ok : Fit T → m = 0 ∧ w'.ownsRow w.heap.size 5 1 v B.length (B.map byteCell)
  no : ¬ Fit T → m = 5 ∧ v = .slice none 0 0
  old : Turn [] w w'

theorem tiB_ln (nm : ByteArray) (xs : List Int) : (tiB nm xs).length = 1 + nm.size + 8 * xs.length := by
  unfold tiB
  rw [List.length_append, List.length_append, natBytes_length, flat8_length]
  rfl

end Go.Proofs.Ytkbboingeacgjaa

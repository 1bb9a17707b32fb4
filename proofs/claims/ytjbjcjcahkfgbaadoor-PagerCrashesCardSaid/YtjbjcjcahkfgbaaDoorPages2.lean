/-
  Rows of pages of the call's own: read, kept, appended to.
-/
import Derived.Test.YtjbjcjcahkfgbaaDoorPages
import Derived.Test.YtjbjcjcahkfgbaaDoorInts
import Derived.Maps.AppendAt
namespace Go.Proofs.YtjbjcjcahkfgbaaDoor
open Go.RowKit Go.Maps

def pageCells (x : Nat × List Nat) : List Value := [.int .i64 (x.1 : Nat), .string (textOf x.2)]
/-- A row of pages of the call's own. -/
def PagesOf (w : World) (v : Value) (l : List (Nat × List Nat)) : Prop := w.ownsRow 0 38 2 v l.length (l.flatMap pageCells)

theorem PagesOf.nil (w : World) : PagesOf w (.slice none 0 0) [] := World.ownsRow_nil _ _ _ _

theorem pageCells_get (l : List (Nat × List Nat)) (i : Nat) (hi : i < l.length) : (l.flatMap pageCells)[i * 2]? = some (.int .i64 (l[i].1 : Nat)) ∧ (l.flatMap pageCells)[i * 2 + 1]? = some (.string (textOf l[i].2)) := by
  induction l generalizing i with
  | nil => simp at hi
  | cons x l ih =>
    cases i with
    | zero => exact ⟨rfl, rfl⟩
    | succ i =>
      have := ih i (by simpa using hi)
      have e : (i + 1) * 2 = i * 2 + 1 + 1 := by omega
      rw [e]
      exact this

theorem PagesOf.turn {S : List Nat} {w w' : World} {v : Value} {l : List (Nat × List Nat)} (h : PagesOf w v l) (hT : Turn S w w') (hn : ∀ g, v.ownBlock = some g → g ∉ S) : PagesOf w' v l := by
  obtain ⟨hl, h | ⟨g, cap, cur, rfl, hb, hg, rest⟩⟩ := h
  · exact ⟨hl, .inl h⟩
  · have hlt : g < w.heap.size := by
      rcases Nat.lt_or_ge g w.heap.size with h | h
      · exact h
      · rw [Array.getElem?_eq_none h] at hg; cases hg
    exact ⟨hl, .inr ⟨g, cap, cur, rfl, hb, (hT.block g hlt (hn g rfl)).trans hg, rest⟩⟩

theorem PagesOf.lt {w : World} {v : Value} {l : List (Nat × List Nat)} (h : PagesOf w v l) (g : Nat) (hg : v.ownBlock = some g) : g < w.heap.size := by
  obtain ⟨hl, ⟨rfl, _⟩ | ⟨g', cap, cur, rfl, hb, hg', rest⟩⟩ := h
  · simp [Value.ownBlock] at hg
  · have e : g' = g := by simpa [Value.ownBlock] using hg
    subst e
    rcases Nat.lt_or_ge g' w.heap.size with h | h
    · exact h
    · rw [Array.getElem?_eq_none h] at hg'; cases hg'

/-- The slice, and the pages that it leads to. -/
theorem PagesOf.slice {w : World} {v : Value} {l : List (Nat × List Nat)} (h : PagesOf w v l) : ∃ a cap, v = .slice a l.length cap ∧ PagesAt w a l ∧ ∀ x, a = some x → v.ownBlock = some x.block := by
  obtain ⟨hl, ⟨rfl, h0⟩ | ⟨g, cap, cur, rfl, hb, hg, hnc, hm, hsz, hcur⟩⟩ := h
  · exact ⟨none, 0, by rw [h0], .inl (List.eq_nil_of_length_eq_zero h0), by simp⟩
  · refine ⟨_, cap, rfl, .inr ⟨g, rfl, fun i hi => ?_⟩, fun x hx => by obtain rfl := Option.some.inj hx; rfl⟩
    obtain ⟨h1, h2⟩ := pageCells_get l i hi
    rw [← hcur, List.getElem?_take, if_pos (by omega), Array.getElem?_toList] at h1 h2
    unfold World.cell?
    rw [hg]
    exact ⟨h1, h2⟩

theorem info38 : (Tryd.prog.info? 38).map (fun i => (i.zero, i.size, i.bytes)) = some (some (.agg #[.int .i64 0, .string ByteArray.empty]), 2, 24) := by kernel_rfl

theorem two_new (w : World) (x y : Value) (t : TypeId) : ∀ j u, [x, y][j]? = some u → (w.alloc (.cells #[x, y] t)).cell? ((⟨w.heap.size, 0, none⟩ : Addr).add j) = some u := by
  intro j u hj
  match j, hj with
  | 0, hj => exact (World.cell?_alloc_at #[x, y] t _ 0 rfl).trans hj
  | 1, hj => exact (World.cell?_alloc_at #[x, y] t _ 1 rfl).trans hj

theorem append_page {ops : Array Oper} {rest : List Oper} {o : Oper} {a : Act} {Q : Exit → Act → World → Prop} {w : World} (hgd : o.guard = none) (s x : Operand)
    (ho : o.op = .call { callee := .builtin .append, args := #[s, x], argTypes := #[32, 32] }) (v : Value) (l : List (Nat × List Nat)) (k : Nat × List Nat) (hs : a.eval s = v) (hown : PagesOf w v l) (hx : a.eval x = .slice (some ⟨w.heap.size, 0, none⟩) 1 1) (hb : l.length < 1000000)
    (h : ∀ v' w', PagesOf w' v' (l ++ [k]) → Turn [] w w' ∨ (∃ g, v.ownBlock = some g ∧ Turn [g] w w') → (v'.ownBlock = v.ownBlock ∨ ∃ g, v'.ownBlock = some g ∧ w.heap.size ≤ g) → wpList Tryd.prog ops Q rest (a.put o.dst v') w') :
    wpList Tryd.prog ops Q (o :: rest) a (w.alloc (.cells #[.int .i64 (k.1 : Nat), .string (textOf k.2)] 38)) := by
  obtain ⟨i0, hi, hz0, hz1, hz2⟩ := info_parts info38
  have hown' : PagesOf (w.alloc (.cells #[.int .i64 (k.1 : Nat), .string (textOf k.2)] 38)) v l := hown.turn ((Turn.refl [] w).alloc _) (by simp)
  refine wpList_append_own_at (w.alloc (.cells #[.int .i64 (k.1 : Nat), .string (textOf k.2)] 38)) hgd s x 32 ho 0 38 i0 (.agg #[.int .i64 0, .string ByteArray.empty]) 2 24 Tryd.underlying32 hi hz0 hz1 hz2 rfl (by decide) v l.length (l.flatMap pageCells) hs hown' ⟨w.heap.size, 0, none⟩ 1 1 (pageCells k) hx rfl (two_new _ _ _ _) (by simp [pageCells, Value.oneCell']) (by unfold maxLen; omega) (by omega) (Nat.zero_le _) ?_
  intro v' w' h1 h2 _ h4
  refine h v' w' ?_ ?_ ?_
  · show w'.ownsRow 0 38 2 v' (l ++ [k]).length ((l ++ [k]).flatMap pageCells)
    rw [List.length_append, List.flatMap_append, List.flatMap_singleton]
    exact h1
  · cases hv : v.ownBlock with
    | none =>
      left
      rw [hv] at h2
      exact ((Turn.refl [] w).alloc _).grown h2 (by simp)
    | some g =>
      right
      rw [hv] at h2
      exact ⟨g, rfl, ((Turn.refl [g] w).alloc _).grown h2 (by simp)⟩
  · rcases h4 with h4 | h4
    · exact .inl h4
    · exact .inr ⟨_, h4, by simp⟩

/-- The pages but one. -/
def sans (l : List (Nat × List Nat)) (n : Int) : List (Nat × List Nat) := l.filter fun x => decide ((x.1 : Int) ≠ n)

theorem sans_take_yes {l : List (Nat × List Nat)} {n : Int} {j : Nat} (hj : j < l.length) (h : ((l[j].1 : Nat) : Int) ≠ n) : sans (l.take (j + 1)) n = sans (l.take j) n ++ [l[j]] := by
  unfold sans
  rw [List.take_add_one, List.getElem?_eq_getElem hj, List.filter_append]
  simp [h]
theorem sans_take_no {l : List (Nat × List Nat)} {n : Int} {j : Nat} (hj : j < l.length) (h : ((l[j].1 : Nat) : Int) = n) : sans (l.take (j + 1)) n = sans (l.take j) n := by
  unfold sans
  rw [List.take_add_one, List.getElem?_eq_getElem hj, List.filter_append]
  simp [h]
theorem sans_length (l : List (Nat × List Nat)) (n : Int) : (sans l n).length ≤ l.length := List.length_filter_le _ _

set_option maxRecDepth 100000 in
set_option maxHeartbeats 3200000 in
theorem without_any (a : Option Addr) (cap : Nat) (l : List (Nat × List Nat)) (n : Int) (hlen : l.length ≤ 100000) (w : World) (hP : PagesAt w a l) :
    Calls Tryd.prog 18 #[.slice a l.length cap, .int .i64 n] w fun e w' => ∃ v, e = .returned v ∧ PagesOf w' v (sans l n) ∧ Turn [] w w' ∧ ∀ g, v.ownBlock = some g → w.heap.size ≤ g := by
  have HP := hide hP
  clear hP
  go_enter Tryd.func18, Tryd.ntmps18
  go_wp2_with fail
  go_loopw [5, 6] (fun v i wr => ∃ j : Nat, j ≤ l.length ∧ i = .int .i64 j ∧ PagesOf wr v (sans (l.take j) n) ∧ Turn [] w wr ∧ ∀ g, v.ownBlock = some g → w.heap.size ≤ g) (fun _ i _ => l.length - (intOf i).toNat)
  case atStart => exact ⟨0, Nat.zero_le _, rfl, PagesOf.nil _, Turn.refl _ _, by simp [Value.ownBlock]⟩
  case round =>
    obtain ⟨j, hj, rfl, hO, hT, hf⟩ := hrel
    have HO := hide hO
    have HT := hide hT
    have HF := hide hf
    clear hO hT hf
    by_cases hjl : j < l.length
    · obtain ⟨g, rfl, hc, hd⟩ := (HP.out.turn HT.out (by simp)).at hjl
      by_cases hx : ((l[j].1 : Nat) : Int) = n
      · have HS := hide (sans_take_no hjl hx)
        rw [hx] at hc
        clear hx hd
        go_wp2_with fail
        go_roundw
        case rel => exact ⟨j + 1, by omega, by go_num, by rw [HS.out]; exact HO.out, HT.out, HF.out⟩
        case measure => simp [intOf]; omega
      · have HS := hide (sans_take_yes hjl hx)
        have hsl := sans_length (l.take j) n
        rw [List.length_take] at hsl
        have hsl' : (sans (l.take j) n).length < 1000000 := by omega
        clear hsl
        generalize l[j] = z at *
        go_wp2_with (first | (at_builtin; refine append_page rfl _ _ rfl u5 (sans (l.take j) n) z rfl HO.out rfl hsl' ?_; intro v' w' h1 h2 h3; have H1 := hide h1; have H2 := hide h2; have H3 := hide h3; clear h1 h2 h3) | fail)
        go_roundw
        case rel =>
          have hT2 : Turn [] w w' := by
            rcases H2.out with h | ⟨g', hg', h⟩
            · exact HT.out.then h (by simp)
            · have := HF.out g' hg'
              exact HT.out.then h (by simp; omega)
          have hs := HT.out.size
          exact ⟨j + 1, by omega, by go_num, by rw [HS.out]; exact H1.out, hT2, fun g' hg' => by
            rcases H3.out with h | ⟨g2, h, hle⟩
            · exact HF.out g' (h ▸ hg')
            · obtain rfl : g2 = g' := Option.some.inj (h.symm.trans hg')
              omega⟩
        case measure => simp [intOf]; omega
    · obtain rfl : j = l.length := by omega
      go_wp2_with fail
      go_ret
      have h := HO.out
      rw [List.take_length] at h
      exact ⟨_, rfl, h, HT.out, HF.out⟩
end Go.Proofs.YtjbjcjcahkfgbaaDoor

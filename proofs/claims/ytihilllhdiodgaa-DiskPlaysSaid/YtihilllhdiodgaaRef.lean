/-
  The reference's disk in memory ('RefAt'), and its methods, walked.
-/
import Derived.Test.YtihilllhdiodgaaHelp
import Derived.Deep.RegionLawGrows
namespace Go.Proofs.Ytihilllhdiodgaa
open Go.RowKit Go.Maps

/-- One row of the reference: never written, or of 512 bytes in a block that G allows. -/
def RowAt (w : World) (rb rs : Nat) (G : Nat → Prop) (v : Value) (l : List Nat) : Prop :=
  (∃ a cap, v = .slice a 0 cap ∧ l = zeros) ∨ (∃ g cap, v = .slice (some ⟨g, 0, none⟩) 512 cap ∧ l.length = 512 ∧ G g ∧ g ≠ rb ∧ g ≠ rs ∧ BytesAt w (some ⟨g, 0, none⟩) l)

/-- The reference's disk: its object in block rb, its rows' heads in block rs. -/
structure RefAt (w : World) (rb rs : Nat) (G : Nat → Prop) (s : St) : Prop where
  c0 : w.cell? ⟨rb, 0, none⟩ = some (.int .i64 (s.n : Nat))
  c1 : w.cell? ⟨rb, 1, none⟩ = some (.slice (some ⟨rs, 0, none⟩) s.n s.n)
  c2 : w.cell? ⟨rb, 2, none⟩ = some (.int .i64 (s.k : Nat))
  c3 : w.cell? ⟨rb, 3, none⟩ = some (.int .i64 s.left)
  c4 : w.cell? ⟨rb, 4, none⟩ = some (.bool s.dead)
  fb : ∀ o, w.frozen? ⟨rb, o, none⟩ = false
  fs : ∀ o, w.frozen? ⟨rs, o, none⟩ = false
  ne : rb ≠ rs
  lts : rs < w.heap.size
  rows : ∀ i, i < s.n → ∃ v, w.cell? ⟨rs, i, none⟩ = some v ∧ RowAt w rb rs G v (s.f i)

theorem RefAt.lt {w : World} {rb rs : Nat} {G : Nat → Prop} {s : St} (h : RefAt w rb rs G s) : rb < w.heap.size := lt_of_cell h.c0

theorem RowAt.keep {w w' : World} {rb rs : Nat} {G : Nat → Prop} {v : Value} {l : List Nat} (h : RowAt w rb rs G v l) (hb : ∀ g, G g → g ≠ rb → g ≠ rs → g < w.heap.size → w'.heap[g]? = w.heap[g]?) : RowAt w' rb rs G v l := by
  rcases h with h | ⟨g, cap, h1, h2, h3, h4, h5, h6⟩
  · exact .inl h
  · exact .inr ⟨g, cap, h1, h2, h3, h4, h5, h6.keep fun x hl hx => by
      obtain rfl := Option.some.inj hx
      exact hb g h3 h4 h5 (h6.lt _ hl rfl)⟩

theorem RowAt.allow {w : World} {rb rs : Nat} {G G' : Nat → Prop} {v : Value} {l : List Nat} (h : RowAt w rb rs G v l) (hG : ∀ g, g < w.heap.size → G g → G' g) : RowAt w rb rs G' v l := by
  rcases h with h | ⟨g, cap, h1, h2, h3, h4, h5, h6⟩
  · exact .inl h
  · exact .inr ⟨g, cap, h1, h2, hG g (h6.lt _ (by intro e; rw [e] at h2; simp at h2) rfl) h3, h4, h5, h6⟩

theorem RefAt.allow {w : World} {rb rs : Nat} {G G' : Nat → Prop} {s : St} (h : RefAt w rb rs G s) (hG : ∀ g, g < w.heap.size → G g → G' g) : RefAt w rb rs G' s :=
  ⟨h.c0, h.c1, h.c2, h.c3, h.c4, h.fb, h.fs, h.ne, h.lts, fun i hi => by
    obtain ⟨v, h1, h2⟩ := h.rows i hi
    exact ⟨v, h1, h2.allow hG⟩⟩

/-- Where its blocks are as they were, it is. -/
theorem RefAt.keep {w w' : World} {rb rs : Nat} {G : Nat → Prop} {s : St} (h : RefAt w rb rs G s) (hsz : w.heap.size ≤ w'.heap.size) (hb : w'.heap[rb]? = w.heap[rb]?) (hs : w'.heap[rs]? = w.heap[rs]?)
    (hg : ∀ g, G g → g ≠ rb → g ≠ rs → g < w.heap.size → w'.heap[g]? = w.heap[g]?) : RefAt w' rb rs G s := by
  have hc : ∀ o, w'.cell? ⟨rb, o, none⟩ = w.cell? ⟨rb, o, none⟩ := fun o => World.cell?_of_block (a := ⟨rb, o, none⟩) hb
  refine ⟨(hc 0).trans h.c0, (hc 1).trans h.c1, (hc 2).trans h.c2, (hc 3).trans h.c3, (hc 4).trans h.c4, fun o => (World.frozen?_of_block (a := ⟨rb, o, none⟩) hb).trans (h.fb o), fun o => (World.frozen?_of_block (a := ⟨rs, o, none⟩) hs).trans (h.fs o), h.ne, Nat.lt_of_lt_of_le h.lts hsz, fun i hi => ?_⟩
  obtain ⟨v, h1, h2⟩ := h.rows i hi
  exact ⟨v, (World.cell?_of_block (a := ⟨rs, i, none⟩) hs).trans h1, h2.keep hg⟩

theorem RefAt.turn {S : List Nat} {w w' : World} {rb rs : Nat} {G : Nat → Prop} {s : St} (h : RefAt w rb rs G s) (hT : Turn S w w') (hb : rb ∉ S) (hs : rs ∉ S) (hg : ∀ g, G g → g ∉ S) : RefAt w' rb rs G s :=
  h.keep hT.size (hT.block rb h.lt hb) (hT.block rs h.lts hs) fun g h1 _ _ h4 => hT.block g h4 (hg g h1)

theorem RefAt.drew {w : World} {rb rs : Nat} {G : Nat → Prop} {s : St} (h : RefAt w rb rs G s) : RefAt w.drew rb rs G s := h.keep (Nat.le_refl _) rfl rfl fun _ _ _ _ _ => rfl

/-- One of the numbers is stored. -/
theorem RefAt.set {w : World} {rb rs : Nat} {G : Nat → Prop} {s s' : St} (h : RefAt w rb rs G s) (o : Nat) (v : Value) (ho : 2 ≤ o) (hn : s'.n = s.n) (hf : s'.f = s.f)
    (h2 : o = 2 ∧ v = .int .i64 (s'.k : Nat) ∨ o ≠ 2 ∧ s'.k = s.k) (h3 : o = 3 ∧ v = .int .i64 s'.left ∨ o ≠ 3 ∧ s'.left = s.left) (h4 : o = 4 ∧ v = .bool s'.dead ∨ o ≠ 4 ∧ s'.dead = s.dead) :
    RefAt (w.setCell ⟨rb, o, none⟩ v) rb rs G s' := by
  have hc : ∀ q, q ≠ o → (w.setCell ⟨rb, o, none⟩ v).cell? ⟨rb, q, none⟩ = w.cell? ⟨rb, q, none⟩ := fun q hq => World.cell?_setCell_other _ _ _ _ (off_ne hq.symm)
  have hh : ∀ g, g ≠ rb → (w.setCell ⟨rb, o, none⟩ v).heap[g]? = w.heap[g]? := fun g hg => Below.heap_setCell w ⟨rb, o, none⟩ v g hg
  refine ⟨by rw [hn]; exact (hc 0 (by omega)).trans h.c0, by rw [hn]; exact (hc 1 (by omega)).trans h.c1, ?_, ?_, ?_, fun q => by rw [World.frozen?_setCell]; exact h.fb q, fun q => by rw [World.frozen?_setCell]; exact h.fs q, h.ne, by rw [World.size_setCell]; exact h.lts, fun i hi => ?_⟩
  · rcases h2 with ⟨rfl, rfl⟩ | ⟨e, e'⟩
    · exact World.cell?_setCell_same _ _ _ h.c2
    · rw [e']; exact (hc 2 e.symm).trans h.c2
  · rcases h3 with ⟨rfl, rfl⟩ | ⟨e, e'⟩
    · exact World.cell?_setCell_same _ _ _ h.c3
    · rw [e']; exact (hc 3 e.symm).trans h.c3
  · rcases h4 with ⟨rfl, rfl⟩ | ⟨e, e'⟩
    · exact World.cell?_setCell_same _ _ _ h.c4
    · rw [e']; exact (hc 4 e.symm).trans h.c4
  · rw [hn] at hi
    obtain ⟨u, h1, h2⟩ := h.rows i hi
    rw [hf]
    exact ⟨u, (World.cell?_of_block (a := ⟨rs, i, none⟩) (hh rs h.ne.symm)).trans h1, h2.keep fun g _ hb _ _ => hh g hb⟩

/-- A row is stored. -/
theorem RefAt.setRow {w : World} {rb rs : Nat} {G : Nat → Prop} {s : St} (h : RefAt w rb rs G s) (j : Nat) (hj : j < s.n) (v : Value) (l : List Nat) (hv : RowAt w rb rs G v l) :
    RefAt (w.setCell ⟨rs, j, none⟩ v) rb rs G { s with f := put s.f j l } := by
  have hh : ∀ g, g ≠ rs → (w.setCell ⟨rs, j, none⟩ v).heap[g]? = w.heap[g]? := fun g hg => Below.heap_setCell w ⟨rs, j, none⟩ v g hg
  have hc : ∀ o, (w.setCell ⟨rs, j, none⟩ v).cell? ⟨rb, o, none⟩ = w.cell? ⟨rb, o, none⟩ := fun o => World.cell?_of_block (a := ⟨rb, o, none⟩) (hh rb h.ne)
  refine ⟨(hc 0).trans h.c0, (hc 1).trans h.c1, (hc 2).trans h.c2, (hc 3).trans h.c3, (hc 4).trans h.c4, fun q => by rw [World.frozen?_setCell]; exact h.fb q, fun q => by rw [World.frozen?_setCell]; exact h.fs q, h.ne, by rw [World.size_setCell]; exact h.lts, fun i hi => ?_⟩
  show ∃ u, _ ∧ RowAt _ rb rs G u (put s.f j l i)
  obtain ⟨u, h1, h2⟩ := h.rows i hi
  by_cases hij : i = j
  · subst hij
    refine ⟨v, World.cell?_setCell_same _ _ _ h1, ?_⟩
    unfold put
    rw [if_pos rfl]
    exact hv.keep fun g _ _ hs _ => hh g hs
  · refine ⟨u, (World.cell?_setCell_other _ _ _ _ (off_ne (fun e => hij e.symm))).trans h1, ?_⟩
    unfold put
    rw [if_neg hij]
    exact h2.keep fun g _ _ hs _ => hh g hs

set_option maxHeartbeats 400000 in
theorem refCut_any (rb rs : Nat) (G : Nat → Prop) (s : St) (i : Int) (w : World) (hR : RefAt w rb rs G s) : Calls Try.prog 15 #[.pointer (some ⟨rb, 0, none⟩), .int .i64 i] w fun e w' => e = .returned (.tuple #[]) ∧ RefAt w' rb rs G (s.cut i) ∧ Turn [rb] w w' := by
  have h3 := hR.c3
  have f3 := hR.fb 3
  have HR := hide hR
  clear hR
  by_cases h : -1 ≤ i
  · have HM : Hid (s.cut i = { s with left := i }) := by show s.cut i = _; unfold St.cut; rw [Int.max_eq_left h]
    go_enter Try.func15, Try.ntmps15
    go_wp2
    go_end0
    refine ⟨rfl, ?_, (Turn.refl _ _).setCell (by simp) _ _⟩
    rw [HM.out]
    exact HR.out.set 3 _ (by omega) rfl rfl (.inr ⟨by omega, rfl⟩) (.inl ⟨rfl, rfl⟩) (.inr ⟨by omega, rfl⟩)
  · have HM : Hid (s.cut i = { s with left := -1 }) := by show s.cut i = _; unfold St.cut; rw [Int.max_eq_right (by omega)]
    go_enter Try.func15, Try.ntmps15
    go_wp2
    go_end0
    refine ⟨rfl, ?_, (Turn.refl _ _).setCell (by simp) _ _⟩
    rw [HM.out]
    exact HR.out.set 3 _ (by omega) rfl rfl (.inr ⟨by omega, rfl⟩) (.inl ⟨rfl, rfl⟩) (.inr ⟨by omega, rfl⟩)

set_option maxHeartbeats 400000 in
theorem refStart_any (rb rs : Nat) (G : Nat → Prop) (s : St) (w : World) (hR : RefAt w rb rs G s) : Calls Try.prog 17 #[.pointer (some ⟨rb, 0, none⟩)] w fun e w' => e = .returned (.tuple #[]) ∧ RefAt w' rb rs G s.start ∧ Turn [rb] w w' := by
  have h3 := hR.c3
  have h4 := hR.c4
  have f3 := hR.fb 3
  have f4 := hR.fb 4
  have HR := hide hR
  clear hR
  go_enter Try.func17, Try.ntmps17
  go_wp2
  go_end0
  refine ⟨rfl, ?_, ((Turn.refl _ _).setCell (by simp) _ _).setCell (by simp) _ _⟩
  exact (HR.out.set (s' := { s with dead := false }) 4 _ (by omega) rfl rfl (.inr ⟨by omega, rfl⟩) (.inr ⟨by omega, rfl⟩) (.inl ⟨rfl, rfl⟩)).set 3 _ (by omega) rfl rfl (.inr ⟨by omega, rfl⟩) (.inl ⟨rfl, rfl⟩) (.inr ⟨by omega, rfl⟩)

theorem info31 : (Try.prog.info? 31).map (fun i => (i.zero, i.size, i.bytes)) = some (some (.slice none 0 0), 1, 24) := by kernel_rfl

/-- 'make([][]byte, n)'. -/
theorem make_rows (n : Nat) (hn : n ≤ 16384) (w : World) : (Instr.makeSlice 42 (.int .i64 (n : Nat)) (.int .i64 (n : Nat))).run Try.prog w = .ok (.slice (some ⟨w.heap.size, 0, none⟩) n n) (w.alloc (.cells (List.replicate n (Value.slice none 0 0)).toArray 31)) := by
  obtain ⟨i0, hi, hz0, hz1, hz2⟩ := info_parts info31
  have h := run_make (P := Try.prog) w 42 31 i0 (.slice none 0 0) Try.underlying42 hi hz0 .i64 .i64 (n : Int) (n : Int) (by omega) (by omega) (by rw [hz2]; omega) (by omega)
  have e : madeCells (Value.slice none 0 0).cells ((n : Int).toNat * i0.size) = (List.replicate n (Value.slice none 0 0)).toArray := by
    apply Array.toList_inj.1
    rw [show (Value.slice none 0 0).cells = #[Value.slice none 0 0] from rfl, toList_madeCells_one, hz1, Int.toNat_natCast, Nat.mul_one]
  rw [h, e]
  rfl

set_option maxHeartbeats 400000 in
theorem refNew_no (n : Int) (hn : n < 1 ∨ 16384 < n) (w : World) : Calls Try.prog 8 #[.int .i64 n] w fun e w' => e = .returned (.tuple #[.pointer none, .int .i64 1]) ∧ w' = w := by
  by_cases h1 : n < 1
  · have t1 : decide (n < 1) = true := by simpa using h1
    go_enter Try.func8, Try.ntmps8
    go_wp2
    go_ret2
    exact ⟨rfl, rfl⟩
  · have t1 : decide (n < 1) = false := by simp; omega
    have t2 : decide (16384 < n) = true := by simp; omega
    go_enter Try.func8, Try.ntmps8
    go_wp2
    go_ret2
    exact ⟨rfl, rfl⟩

set_option maxHeartbeats 400000 in
theorem refNew_any (n : Nat) (h1 : 1 ≤ n) (h2 : n ≤ 16384) (G : Nat → Prop) (w : World) : Calls Try.prog 8 #[.int .i64 (n : Nat)] w fun e w' => e = .returned (.tuple #[.pointer (some ⟨w.heap.size + 1, 0, none⟩), .int .i64 0]) ∧ RefAt w' (w.heap.size + 1) w.heap.size G (St.new n) ∧ Turn [] w w' ∧ w'.heap.size = w.heap.size + 2 := by
  have t1 : decide ((n : Int) < 1) = false := by simp; omega
  have t2 : decide (16384 < (n : Int)) = false := by simp; omega
  have hmk := make_rows n h2
  obtain ⟨C, hC⟩ : ∃ C, C = (List.replicate n (Value.slice none 0 0)).toArray := ⟨_, rfl⟩
  rw [← hC] at hmk
  have HC := hide hC
  clear hC
  go_enter Try.func8, Try.ntmps8
  go_wp2
  go_ret2
  have hc : ∀ i, ((w.alloc (.cells C 31)).alloc (Obj.cells #[Value.int IntKind.i64 ↑n, Value.slice (some ⟨w.heap.size, 0, none⟩) n n, Value.int IntKind.i64 0, Value.int IntKind.i64 (-1), Value.bool false] 44)).cell? ⟨w.heap.size + 1, i, none⟩ =
      #[Value.int IntKind.i64 ↑n, Value.slice (some ⟨w.heap.size, 0, none⟩) n n, Value.int IntKind.i64 0, Value.int IntKind.i64 (-1), Value.bool false][i]? := fun i => by
    have e : w.heap.size + 1 = (w.alloc (.cells C 31)).heap.size := by simp
    rw [e]
    exact World.cell?_alloc_at _ _ _ _ rfl
  have hf : ∀ i, ((w.alloc (.cells C 31)).alloc (Obj.cells #[Value.int IntKind.i64 ↑n, Value.slice (some ⟨w.heap.size, 0, none⟩) n n, Value.int IntKind.i64 0, Value.int IntKind.i64 (-1), Value.bool false] 44)).frozen? ⟨w.heap.size + 1, i, none⟩ = false := fun i => by
    have e : w.heap.size + 1 = (w.alloc (.cells C 31)).heap.size := by simp
    rw [e]
    exact World.frozen?_alloc_at _ _ _ _ rfl
  refine ⟨rfl, ⟨(hc 0).trans rfl, (hc 1).trans rfl, (hc 2).trans rfl, (hc 3).trans rfl, (hc 4).trans rfl, hf, fun o => ?_, by omega, by simp; omega, fun i hi => ?_⟩, ((Turn.refl _ _).alloc _).alloc _, by simp⟩
  · rw [World.frozen?_of_block (w := w.alloc (.cells C 31)) (a := ⟨w.heap.size, o, none⟩) (Below.heap_alloc _ _ _ (by simp))]
    exact World.frozen?_alloc_at _ _ _ _ rfl
  · have hi' : i < n := hi
    refine ⟨.slice none 0 0, ?_, .inl ⟨none, 0, rfl, rfl⟩⟩
    rw [World.cell?_of_block (w := w.alloc (.cells C 31)) (a := ⟨w.heap.size, i, none⟩) (Below.heap_alloc _ _ _ (by simp)), World.cell?_alloc_at _ _ _ _ rfl, HC.out, List.getElem?_toArray, List.getElem?_replicate, if_pos hi']

end Go.Proofs.Ytihilllhdiodgaa

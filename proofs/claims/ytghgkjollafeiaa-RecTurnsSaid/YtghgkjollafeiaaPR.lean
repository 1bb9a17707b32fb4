/-
  ParseAccount, walked.
-/
import Derived.Test.YtghgkjollafeiaaPA
import Derived.Test.YtghgkjollafeiaaPar
namespace Go.Proofs.Ytghgkjollafeiaa
open Go.RowKit

theorem info_acc : (Try.prog.info? 28).map (·.size) = some 20 := by kernel_rfl
theorem und_acc : ∃ d, Try.prog.underlying 28 = some d ∧ d.isRow = true := ⟨.struct (Try.prog.fieldsOf 28), by kernel_rfl, rfl⟩
/-- Cells of an account may be stored. -/
def One (cs : List Value) : Prop := ∀ v ∈ cs, v.oneCell' = true
theorem store_acc {ops : Array Oper} {rest : List Oper} {dst : Option Tmp} {ty : TypeId} {pos : String} {after : Array Edge} {a : Act} {w : World} {Q : Exit → Act → World → Prop} (x y : Tmp) (b off : Nat) (cs : List Value) (hl : cs.length = 20) (h1 : One cs)
    (hx : a.eval (.tmp x) = .pointer (some ⟨b, off, none⟩)) (hy : a.eval (.tmp y) = .agg cs.toArray) (ht : w.there b off 20)
    (h : wpList Try.prog ops Q rest (a.put dst undef) (w.setCells b off cs)) : wpList Try.prog ops Q (⟨dst, .store 28 (.tmp x) (.tmp y), ty, pos, after, none⟩ :: rest) a w :=
  wpList_store_mid rfl 28 (.tmp x) (.tmp y) rfl b off cs.toArray hx hy (by rw [List.size_toArray, hl]; exact ht) (by rw [info_acc, List.size_toArray, hl]) (all_oneCell_toArray h1) h
theorem load_acc {ops : Array Oper} {rest : List Oper} {dst : Option Tmp} {ty : TypeId} {pos : String} {after : Array Edge} {a : Act} {w : World} {Q : Exit → Act → World → Prop} (x : Tmp) (b off : Nat) (cs : List Value) (hl : cs.length = 20)
    (hx : a.eval (.tmp x) = .pointer (some ⟨b, off, none⟩)) (hr : w.rangeAt b off cs)
    (h : wpList Try.prog ops Q rest (a.put dst (.agg cs.toArray)) w) : wpList Try.prog ops Q (⟨dst, .load 28 (.tmp x), ty, pos, after, none⟩ :: rest) a w := by
  obtain ⟨d, h1, h2⟩ := und_acc
  exact wpList_load_mid rfl 28 (.tmp x) rfl b off hx cs d hr h1 h2 (by rw [info_acc, hl]) h
theorem results_acc {fn : Func} {i j : Nat} (h : fn.results = #[.cell i 28, .tmp j]) {tmps : Array Value} {w : World} {k : Value} {g : Nat} {cs : List Value} (hl : cs.length = 20) (h4 : tmps.getD i undef = .pointer (some ⟨g, 0, none⟩)) (h5 : tmps.getD j undef = k) (hr : w.rangeAt g 0 cs) :
    (results fn tmps).run Try.prog w = .ok (.tuple #[.agg cs.toArray, k]) w := by
  have h4' : tmps[i]?.getD undef = .pointer (some ⟨g, 0, none⟩) := by simpa using h4
  have h5' : tmps[j]?.getD undef = k := by simpa using h5
  obtain ⟨d, k1, k2⟩ := und_acc
  have hv : (loadVar 28 ⟨g, 0, none⟩).run Try.prog w = .ok (.agg cs.toArray) w := run_loadVar_mid w g 0 _ cs d hr k1 k2 (by rw [info_acc, hl])
  simp [results, h, h4', h5', asAddr, hv]

def zaccL : List Value := accL noT noT noT (nz 9) (nz 3) (.slice none 0 0) (nz 2) (.slice none 0 0) (.slice none 0 0)
theorem zaccL_length : zaccL.length = 20 := rfl
theorem zaccL_one : One zaccL := by unfold One; decide
theorem accL_one {nm key pn : ByteArray} {px t : List Int} {v1 : Value} {n : List Int} {v2 v3 : Value} (h1 : v1.oneCell' = true) (h2 : v2.oneCell' = true) (h3 : v3.oneCell' = true) : One (accL nm key pn px t v1 n v2 v3) := by
  have hi : ∀ l : List Int, ∀ v ∈ intC l, v.oneCell' = true := fun l v hv => by
    obtain ⟨i, _, rfl⟩ := List.mem_map.1 hv
    rfl
  intro v hv
  unfold accL at hv
  rcases List.mem_cons.1 hv with rfl | hv
  · rfl
  rcases List.mem_cons.1 hv with rfl | hv
  · rfl
  rcases List.mem_cons.1 hv with rfl | hv
  · rfl
  rcases List.mem_append.1 hv with hv | hv
  · exact hi _ v hv
  rcases List.mem_append.1 hv with hv | hv
  · exact hi _ v hv
  rcases List.mem_cons.1 hv with rfl | hv
  · exact h1
  rcases List.mem_append.1 hv with hv | hv
  · exact hi _ v hv
  rcases List.mem_cons.1 hv with rfl | hv
  · exact h2
  rcases List.mem_cons.1 hv with rfl | hv
  · exact h3
  · cases hv

/-- The value of an account that was parsed. -/
def AccV (B : Nat) (w : World) (cs : List Value) (d : AccD) : Prop := ∃ v1 v2 v3 p1 p2 p3, cs = accL d.nm d.key d.pn d.px d.t v1 d.n v2 v3 ∧ d.px.length = 9 ∧ d.t.length = 3 ∧ d.n.length = 2 ∧ p1.map Prod.snd = d.lots ∧ RowP B w 82 9 IntsG v1 p1 ∧ p2.map Prod.snd = d.holds ∧ RowP B w 65 4 HoldG v2 p2 ∧ p3.map Prod.snd = d.win ∧ RowP B w 69 14 EntG v3 p3
theorem slice_one {w : World} {base e m n : Nat} {v : Value} {cs : List Value} (h : w.ownsRow base e m v n cs) : v.oneCell' = true := by
  obtain ⟨a, c, rfl⟩ := own_form h
  rfl
theorem AccV.len {B : Nat} {w : World} {cs : List Value} {d : AccD} (h : AccV B w cs d) : cs.length = 20 ∧ One cs := by
  obtain ⟨v1, v2, v3, p1, p2, p3, rfl, l1, l2, l3, _, r1, _, r2, _, r3⟩ := h
  exact ⟨accL_length l1 l2 l3, accL_one (slice_one r1.own) (slice_one r2.own) (slice_one r3.own)⟩
theorem AccV.keep {B : Nat} {w w' : World} {cs : List Value} {d : AccD} (h : AccV B w cs d) (hs : w.heap.size ≤ w'.heap.size) (hk : ∀ x, B ≤ x → x < w.heap.size → w'.heap[x]? = w.heap[x]?) : AccV B w' cs d := by
  obtain ⟨v1, v2, v3, p1, p2, p3, e, l1, l2, l3, e1, r1, e2, r2, e3, r3⟩ := h
  exact ⟨v1, v2, v3, p1, p2, p3, e, l1, l2, l3, e1, r1.keep ints_stays hs hk, e2, r2.keep hold_stays hs hk, e3, r3.keep ent_stays hs hk⟩
theorem AccV.base {B B' : Nat} {w : World} {cs : List Value} {d : AccD} (h : AccV B w cs d) (hB : B' ≤ B) : AccV B' w cs d := by
  obtain ⟨v1, v2, v3, p1, p2, p3, e, l1, l2, l3, e1, r1, e2, r2, e3, r3⟩ := h
  exact ⟨v1, v2, v3, p1, p2, p3, e, l1, l2, l3, e1, r1.base hB, e2, r2.base hB, e3, r3.base hB⟩
theorem AccG.val {B : Nat} {w : World} {rb : Nat} {d : AccD} (h : AccG B w rb d) : ∃ cs, AccV B w cs d ∧ w.rangeAt rb 0 cs := by
  obtain ⟨v1, v2, v3, p1, p2, p3, a, e1, r1, e2, r2, e3, r3⟩ := h
  exact ⟨_, ⟨v1, v2, v3, p1, p2, p3, rfl, a.lp, a.lt, a.ln, e1, r1, e2, r2, e3, r3⟩, a.range⟩

theorem rng_new (w : World) (cs : List Value) (Z : Array Value) (t : TypeId) (h : Z.toList = cs) : (w.alloc (.cells Z t)).rangeAt w.heap.size 0 cs := fun j v hj => by
  rw [Nat.zero_add, World.cell?_alloc_at _ _ _ _ rfl, ← Array.getElem?_toList, h]
  exact hj
theorem fz_new (w : World) (Z : Array Value) (t : TypeId) (o : Nat) : (w.alloc (.cells Z t)).frozen? ⟨w.heap.size, o, none⟩ = false := by
  unfold World.frozen?
  rw [show (w.alloc _).heap[(⟨w.heap.size, o, none⟩ : Addr).block]? = _ from heap_alloc_new w _]
  simp

theorem size_setCellsN (b : Nat) (vs : List Value) : ∀ (o : Nat) (w : World), (w.setCells b o vs).heap.size = w.heap.size := by
  induction vs with
  | nil => intro o w; rfl
  | cons v vs ih => intro o w; rw [World.setCells, ih, World.size_setCell]
theorem heap_setCellsN (b x : Nat) (hx : x ≠ b) (vs : List Value) : ∀ (o : Nat) (w : World), (w.setCells b o vs).heap[x]? = w.heap[x]? := by
  induction vs with
  | nil => intro o w; rfl
  | cons v vs ih => intro o w; rw [World.setCells, ih]; exact Below.heap_setCell w ⟨b, o, none⟩ v x (fun e => hx e)
theorem rest_setCellsN (b : Nat) (vs : List Value) : ∀ (o : Nat) (w : World), (w.setCells b o vs).os = w.os ∧ (w.setCells b o vs).tape = w.tape ∧ (w.setCells b o vs).output = w.output := by
  induction vs with
  | nil => intro o w; exact ⟨rfl, rfl, rfl⟩
  | cons v vs ih => intro o w; rw [World.setCells]; exact ih (o + 1) (w.setCell ⟨b, o, none⟩ v)
theorem Turn.setCellsN {u w : World} (h : Turn [] u w) (b : Nat) (hb : u.heap.size ≤ b) (vs : List Value) (o : Nat) : Turn [] u (w.setCells b o vs) := by
  obtain ⟨r1, r2, r3⟩ := rest_setCellsN b vs o w
  exact ⟨r1.trans h.os, r2.trans h.tape, r3.trans h.output, by rw [size_setCellsN]; exact h.size, fun i hi hn => (heap_setCellsN b i (by omega) vs o w).trans (h.block i hi hn)⟩

/-- What is there when a parse of an account begins. -/
theorem pa_start {w : World} (a : Option Addr) (cap n : Nat) (l : List Nat) (hn : l.length = n) (hB : BytesAt w a l) (hlc : n ≤ cap) (hcm : cap ≤ maxLen) (ha : a = none ∧ cap = 0 ∨ ∃ ab ao, a = some ⟨ab, ao, none⟩) (hl : ∀ x ∈ l, x < 256) (Z : Array Value) (hZ : Z.toList = zaccL) :
    ∃ W, W = (((w.alloc (.cells Z 28)).alloc (.cells Z 28)).alloc (.cells Z 28)).alloc (.cells #[.slice a n cap, .int .i64 0] 134) ∧ ∃ g, Ps W (w.heap.size + 3) g ⟨l, 0⟩ ∧ g < w.heap.size + 1 ∧ AccAt W (w.heap.size + 1) noT noT noT (nz 9) (nz 3) (.slice none 0 0) (nz 2) (.slice none 0 0) (.slice none 0 0) ∧ (∀ o, W.frozen? ⟨w.heap.size + 1, o, none⟩ = false) ∧ W.rangeAt (w.heap.size + 2) 0 zaccL ∧ W.there w.heap.size 0 20 ∧ Keep (fun _ => True) w W ∧ W.heap.size = w.heap.size + 4 := by
  refine ⟨_, rfl, ?_⟩
  obtain ⟨w1, hw1⟩ : ∃ w1, w.alloc (.cells Z 28) = w1 := ⟨_, rfl⟩
  obtain ⟨w2, hw2⟩ : ∃ w2, w1.alloc (.cells Z 28) = w2 := ⟨_, rfl⟩
  obtain ⟨w3, hw3⟩ : ∃ w3, w2.alloc (.cells Z 28) = w3 := ⟨_, rfl⟩
  obtain ⟨w4, hw4⟩ : ∃ w4, w3.alloc (.cells #[.slice a n cap, .int .i64 0] 134) = w4 := ⟨_, rfl⟩
  have s1 : w1.heap.size = w.heap.size + 1 := by rw [← hw1]; simp
  have s2 : w2.heap.size = w.heap.size + 2 := by rw [← hw2]; simp [s1]
  have s3 : w3.heap.size = w.heap.size + 3 := by rw [← hw3]; simp [s2]
  have s4 : w4.heap.size = w.heap.size + 4 := by rw [← hw4]; simp [s3]
  have k1 : Keep (fun _ => True) w w1 := by rw [← hw1]; exact (Keep.refl _ _).alloc _
  have k2 : Keep (fun _ => True) w1 w2 := by rw [← hw2]; exact (Keep.refl _ _).alloc _
  have k3 : Keep (fun _ => True) w2 w3 := by rw [← hw3]; exact (Keep.refl _ _).alloc _
  have k4 : Keep (fun _ => True) w3 w4 := by rw [← hw4]; exact (Keep.refl _ _).alloc _
  have r1 := rng_new w zaccL Z 28 hZ
  have r2 := rng_new w1 zaccL Z 28 hZ
  have r3 := rng_new w2 zaccL Z 28 hZ
  have f1 := fz_new w Z 28
  have f2 := fz_new w1 Z 28
  rw [hw1] at r1 f1
  rw [hw2, s1] at r2 f2
  rw [hw3, s2] at r3
  have kb : Keep (fun _ => True) w w3 := (k1.trans k2).trans k3
  have hB3 : BytesAt w3 a l := kb.bytes hB (fun _ _ _ => trivial)
  have hex : ∃ g, (∀ x, l ≠ [] → a = some x → x.block = g) ∧ g < w.heap.size + 1 := by
    by_cases hnil : l = []
    · exact ⟨w.heap.size, fun x h => absurd hnil h, by omega⟩
    · rcases ha with ⟨rfl, _⟩ | ⟨ab, ao, rfl⟩
      · rcases hB with h | ⟨_, _, e, _⟩
        · exact absurd h hnil
        · cases e
      · have := hB.lt ⟨ab, ao, none⟩ hnil rfl
        exact ⟨ab, fun x _ e => by obtain rfl := Option.some.inj e; rfl, Nat.lt_succ_of_lt this⟩
  obtain ⟨g, hg, hgl⟩ := hex
  rw [hw1, hw2, hw3, hw4]
  have k14 := (k2.trans k3).trans k4
  have k24 := k3.trans k4
  refine ⟨g, ?_, hgl, AccAt.of (fun j v hj => (k24.cell (by omega) trivial).trans (r2 j v hj)) rfl rfl rfl, fun o => (k24.fz (by omega) trivial).trans (f2 o), fun j v hj => (k4.cell (by omega) trivial).trans (r3 j v hj), fun j hj => ?_, kb.trans k4, s4⟩
  · exact Ps.of (O := fun x => x < w.heap.size + 1) (R := fun x => x = w.heap.size + 1) (pr_new s3.symm (by rw [← hw4, hn]) hB3 (by omega) hcm ha hg (fun x hx => by omega) hl hgl)
  · have hj2 : j < zaccL.length := hj
    rw [Nat.zero_add]
    have c := r1 j zaccL[j] (List.getElem?_eq_getElem hj2)
    rw [Nat.zero_add] at c
    exact ⟨by rw [k14.cell (by omega) trivial, c]; rfl, (k14.fz (by omega) trivial).trans (f1 j)⟩

/-- What a parse of an account hands out. -/
def ParsedA (w w' : World) (l : List Nat) (cs : List Value) (f : Nat) : Prop :=
  f = endS (FA ⟨l, 0⟩).1 ∧ (f = 0 → AccV w.heap.size w' cs (FA ⟨l, 0⟩).2) ∧ (f ≠ 0 → cs = zaccL) ∧ Turn [] w w'

set_option maxRecDepth 100000 in
set_option maxHeartbeats 3200000 in
theorem parse_acc {w : World} (a : Option Addr) (cap n : Nat) (l : List Nat) (hn : l.length = n) (hB : BytesAt w a l) (hlc : n ≤ cap) (hcm : cap ≤ maxLen) (ha : a = none ∧ cap = 0 ∨ ∃ ab ao, a = some ⟨ab, ao, none⟩) (hl : ∀ x ∈ l, x < 256) :
    Calls Try.prog 30 #[.slice a n cap, .func (.func 29) #[] #[]] w fun r w' => ∃ cs f, r = .returned (.tuple #[.agg cs.toArray, .int .i64 (f : Nat)]) ∧ ParsedA w w' l cs f := by
  obtain ⟨W, hW, g, hp, hgl, hA, hf, hr, hth, hK, hsz⟩ := pa_start a cap n l hn hB hlc hcm ha hl #[.string { data := #[] }, .string { data := #[] }, .string { data := #[] }, .int .i64 0, .int .i64 0, .int .i64 0, .int .i64 0, .int .i64 0, .int .i64 0, .int .i64 0, .int .i64 0, .int .i64 0, .int .i64 0, .int .i64 0, .int .i64 0, .slice none 0 0, .int .i64 0, .int .i64 0, .slice none 0 0, .slice none 0 0] rfl
  have hC := paccount (w.heap.size + 1) hp (by omega) (by omega) (by omega) hf hA
  have HC := hide hC
  have HK := hide hK
  have HR := hide hr
  have HTh := hide hth
  have HSz := hide hsz
  have HW := hide hW
  clear hp hA hf hr hth hK hsz hW hC hB hlc hcm ha hl hn
  obtain ⟨s1, hs1⟩ : ∃ s1, (FA ⟨l, 0⟩).1 = s1 := ⟨_, rfl⟩
  obtain ⟨d, hd⟩ : ∃ d, (FA ⟨l, 0⟩).2 = d := ⟨_, rfl⟩
  rw [hs1, hd] at HC
  unfold ParsedA
  rw [hs1, hd]
  clear hs1 hd
  go_enter Try.func30, Try.ntmps30
  go_wp2_with fail
  have hC := HC.out
  rw [HW.out] at hC
  refine hC.mono ?_
  clear hC HC
  rintro e w1 ⟨rfl, hP1, hSt, hG⟩
  obtain ⟨W', hW'⟩ : ∃ W', W' = W := ⟨_, rfl⟩
  rw [← HW.out] at hSt hG
  obtain ⟨cs, hV, hrg⟩ := hG.val
  have hs1 := hSt.keep.size
  rw [HSz.out] at hs1
  have hPr : PrAt w1 (fun x => x = g) (fun _ => False) (w.heap.size + 3) g s1 := hP1
  have HPr := hide hPr
  have HAll : Hid (∀ w2, Keep (fun x => x ≠ w.heap.size + 3) w1 w2 → w2.rangeAt (w.heap.size + 1) 0 cs ∧ w2.rangeAt (w.heap.size + 2) 0 zaccL ∧ w2.there w.heap.size 0 20 ∧ AccV (w.heap.size + 4) w2 cs d ∧ Turn [] w w2) := fun w2 hk => by
    have hWs := HSz.out
    refine ⟨fun j v hj => (hk.cell (by omega) (by omega)).trans (hrg j v hj), fun j v hj => (hk.cell (by omega) (by omega)).trans ((hSt.keep.cell (by omega) ⟨by omega, by omega⟩).trans (HR.out j v hj)), fun j hj => ?_, ?_, ?_⟩
    · obtain ⟨t1, t2⟩ := HTh.out j hj
      have e1 : w2.cell? ⟨w.heap.size, 0 + j, none⟩ = W.cell? ⟨w.heap.size, 0 + j, none⟩ := (hk.cell (by omega) (by omega)).trans (hSt.keep.cell (by omega) ⟨by omega, by omega⟩)
      have e2 : w2.frozen? ⟨w.heap.size, 0 + j, none⟩ = W.frozen? ⟨w.heap.size, 0 + j, none⟩ := (hk.fz (by omega) (by omega)).trans (hSt.keep.fz (by omega) ⟨by omega, by omega⟩)
      rw [e1, e2]
      exact ⟨t1, t2⟩
    · have hV' := hV
      rw [hWs] at hV'
      exact hV'.keep hk.size (fun x h1 h2 => hk.block x h2 (by omega))
    · refine Keep.turn (O := fun x => x < w.heap.size) (((HK.out.less (fun _ _ _ => trivial)).trans (hSt.keep.less (fun x _ hx => ⟨by omega, by omega⟩))).trans (hk.less (fun x _ hx => by omega))) (fun x hx => hx)
  have HLen := hide hV.len
  clear hP1 hPr hSt hG hV hrg hW' W' HR HTh HK HW HSz
  go_wp2_with fail
  refine (pend HPr.out).mono ?_
  rintro e w2 ⟨rfl, hk⟩
  obtain ⟨h1, h2, h3, h4, h5⟩ := HAll.out w2 hk
  have H1 := hide h1
  have H2 := hide h2
  have H3 := hide h3
  have H4 := hide h4
  have H5 := hide h5
  clear h1 h2 h3 h4 h5 hk HAll HPr
  obtain ⟨f, hf⟩ : ∃ f, endS s1 = f := ⟨_, rfl⟩
  have hf' : (if s1.l = [] then s1 else refuseS s1 9).e = f := hf
  have HF := hide hf
  rw [hf']
  clear hf hf'
  by_cases hz : f = 0
  · subst hz
    have HT2 : Hid (Turn [] w (w2.setCells w.heap.size 0 cs)) := Turn.setCellsN H5.out w.heap.size (Nat.le_refl _) cs 0
    have HV2 : Hid (AccV w.heap.size (w2.setCells w.heap.size 0 cs) cs d) := (H4.out.keep (by rw [size_setCellsN]; exact Nat.le_refl _) (fun x h1 _ => heap_setCellsN w.heap.size x (by omega) cs 0 w2)).base (by omega)
    have HR2 : Hid ((w2.setCells w.heap.size 0 cs).rangeAt w.heap.size 0 cs) := World.rangeAt_setCells_same _ _ _ _ (by rw [HLen.out.1]; exact H3.out)
    go_wp2_with (first | ((with_reducible refine load_acc _ (w.heap.size + 1) 0 cs HLen.out.1 ?_ H1.out ?_); rfl) | ((with_reducible refine store_acc _ _ w.heap.size 0 cs HLen.out.1 HLen.out.2 ?_ ?_ H3.out ?_); rfl; rfl) | fail)
    exact bodyPost_ret (v := .tuple #[.agg cs.toArray, .int .i64 0]) (results_acc Try.results30 HLen.out.1 rfl rfl HR2.out) rfl ⟨cs, 0, rfl, HF.out.symm, fun _ => HV2.out, fun h => absurd rfl h, HT2.out⟩
  · have hz' : ¬ ((f : Int) = 0) := by omega
    have HT2 : Hid (Turn [] w (w2.setCells w.heap.size 0 zaccL)) := Turn.setCellsN H5.out w.heap.size (Nat.le_refl _) zaccL 0
    have HR2 : Hid ((w2.setCells w.heap.size 0 zaccL).rangeAt w.heap.size 0 zaccL) := World.rangeAt_setCells_same _ _ _ _ H3.out
    generalize hzc : zaccL = zc at *
    have hzl : zc.length = 20 := by rw [← hzc]; rfl
    have hzo : One zc := by rw [← hzc]; exact zaccL_one
    have HZo := hide hzo
    have HZl := hide hzl
    have HZe := hide hzc
    clear hzo hzl hzc
    go_wp2_with (first | ((with_reducible refine load_acc _ (w.heap.size + 2) 0 zc HZl.out ?_ H2.out ?_); rfl) | ((with_reducible refine store_acc _ _ w.heap.size 0 zc HZl.out HZo.out ?_ ?_ H3.out ?_); rfl; rfl) | fail)
    exact bodyPost_ret (v := .tuple #[.agg zc.toArray, .int .i64 (f : Nat)]) (results_acc Try.results30 HZl.out rfl rfl HR2.out) rfl ⟨zc, f, rfl, HF.out.symm, fun h => absurd h hz, fun _ => HZe.out.symm, HT2.out⟩

set_option maxRecDepth 100000 in
set_option maxHeartbeats 1600000 in
theorem ParseAccount_any {w : World} (a : Option Addr) (cap n : Nat) (l : List Nat) (hn : l.length = n) (hB : BytesAt w a l) (hlc : n ≤ cap) (hcm : cap ≤ maxLen) (ha : a = none ∧ cap = 0 ∨ ∃ ab ao, a = some ⟨ab, ao, none⟩) (hl : ∀ x ∈ l, x < 256) :
    Calls Try.prog 10 #[.slice a n cap] w fun r w' => ∃ cs f, r = .returned (.tuple #[.agg cs.toArray, .int .i64 (f : Nat)]) ∧ ParsedA w w' l cs f := by
  have hT0 : Turn [] w (w.alloc (.cells zaccL.toArray 28)) := (Turn.refl [] w).alloc _
  have hs0 : (w.alloc (.cells zaccL.toArray 28)).heap.size = w.heap.size + 1 := by simp
  have HTh : Hid ((w.alloc (.cells zaccL.toArray 28)).there w.heap.size 0 20) := fun j hj => by
    have hj2 : j < zaccL.length := hj
    have c := rng_new w zaccL zaccL.toArray 28 rfl j zaccL[j] (List.getElem?_eq_getElem hj2)
    exact ⟨by rw [c]; rfl, fz_new w _ 28 _⟩
  have HC := hide (parse_acc (w := w.alloc (.cells zaccL.toArray 28)) a cap n l hn (hB.turn hT0 (by simp)) hlc hcm ha hl)
  have HT0 := hide hT0
  clear hn hB hlc hcm ha hl hT0
  go_enter Try.func10, Try.ntmps10
  go_wp2_with fail
  refine HC.out.mono ?_
  clear HC
  rintro e w2 ⟨cs, f, rfl, hf, h1, h2, h3⟩
  have hT2 := HT0.out.trans h3
  have hth2 : w2.there w.heap.size 0 20 := fun j hj => by
    obtain ⟨t1, t2⟩ := HTh.out j hj
    have hb : w2.heap[w.heap.size]? = (w.alloc (.cells zaccL.toArray 28)).heap[w.heap.size]? := h3.block _ (by omega) (by simp)
    rw [World.cell?_of_block (a := ⟨w.heap.size, 0 + j, none⟩) hb, World.frozen?_of_block (a := ⟨w.heap.size, 0 + j, none⟩) hb]
    exact ⟨t1, t2⟩
  have hlen : cs.length = 20 ∧ One cs := by
    by_cases hz : f = 0
    · exact (h1 hz).len
    · rw [h2 hz]
      exact ⟨rfl, zaccL_one⟩
  have HLen := hide hlen
  have HTh2 := hide hth2
  have HFin : Hid (ParsedA w (w2.setCells w.heap.size 0 cs) l cs f) := ⟨hf, fun hz => ((h1 hz).keep (by rw [size_setCellsN]; exact Nat.le_refl _) (fun x k1 _ => heap_setCellsN w.heap.size x (by omega) cs 0 w2)).base (by omega), h2, Turn.setCellsN hT2 w.heap.size (Nat.le_refl _) cs 0⟩
  have HR2 : Hid ((w2.setCells w.heap.size 0 cs).rangeAt w.heap.size 0 cs) := World.rangeAt_setCells_same _ _ _ _ (by rw [hlen.1]; exact hth2)
  clear hf h1 h2 h3 hT2 hth2 hlen
  go_wp2_with (first | ((with_reducible refine store_acc _ _ w.heap.size 0 cs HLen.out.1 HLen.out.2 ?_ ?_ HTh2.out ?_); rfl; rfl) | fail)
  exact bodyPost_ret (v := .tuple #[.agg cs.toArray, .int .i64 (f : Nat)]) (results_acc Try.results10 HLen.out.1 rfl rfl HR2.out) rfl ⟨cs, f, rfl, HFin.out⟩
end Go.Proofs.Ytghgkjollafeiaa

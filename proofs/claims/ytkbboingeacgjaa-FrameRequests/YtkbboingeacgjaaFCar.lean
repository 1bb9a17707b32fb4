/-
  Requests by themselves: their cells, what a carrier makes of one; the three carriers in memory.
-/
import Derived.Test.YtkbboingeacgjaaFPr2
namespace Go.Proofs.Ytkbboingeacgjaa
open Go.RowKit

/-- A request by itself. -/
structure Rq where
  k : Int
  key : ByteArray
  id : Int
  n : Int
  ttl : Int
  o : Int
  nm : ByteArray
  sec : ByteArray
  pn : ByteArray
  p1 : Int
  p2 : Int
  p3 : Int
  p4 : Int
  p5 : Int
  p6 : Int
  p7 : Int
  p8 : Int
  p9 : Int

def Rq.zero : Rq := ⟨0, ByteArray.empty, 0, 0, 0, 0, ByteArray.empty, ByteArray.empty, ByteArray.empty, 0, 0, 0, 0, 0, 0, 0, 0, 0⟩

/-- Its cells. -/
def rqC (r : Rq) : List Value := [.int .i64 r.k, .string r.key, .int .i64 r.id, .int .i64 r.n, .int .i64 r.ttl, .int .i64 r.o, .string r.nm, .string r.sec, .string r.pn, .int .i64 r.p1, .int .i64 r.p2, .int .i64 r.p3, .int .i64 r.p4, .int .i64 r.p5, .int .i64 r.p6, .int .i64 r.p7, .int .i64 r.p8, .int .i64 r.p9]

theorem rqC_len (r : Rq) : (rqC r).length = 18 := rfl

theorem rqC_one (r : Rq) : ∀ v ∈ rqC r, v.oneCell' = true := by
  intro v hv
  simp only [rqC, List.mem_cons, List.not_mem_nil, or_false] at hv
  rcases hv with rfl | rfl | rfl | rfl | rfl | rfl | rfl | rfl | rfl | rfl | rfl | rfl | rfl | rfl | rfl | rfl | rfl | rfl <;> rfl

/-- A request's texts are no longer than a text may be. -/
def Rq.Ok (r : Rq) : Prop := r.key.size ≤ 9223372036854775807 ∧ r.nm.size ≤ 9223372036854775807 ∧ r.sec.size ≤ 9223372036854775807 ∧ r.pn.size ≤ 9223372036854775807

/-- What a carrier makes of a field. -/
structure Cr where
  kind : Sx → Int → Sx × Int
  num : Sx → Int → Sx × Int
  text : Sx → ByteArray → Sx × ByteArray
  plan : Sx → ByteArray → List Int → Sx × ByteArray × List Int
  refuse : Sx → Nat → Sx

def wrC : Cr := ⟨fun s k => (⟨s.l ++ [(k % 256).toNat], s.e⟩, k), fun s x => (⟨s.l ++ be8 x, s.e⟩, x), fun s t => (txtW s.l s.e t, t), fun s nm xs => (tiW s.l s.e nm xs, nm, xs), fun s e => ⟨s.l, orE s.e e⟩⟩

def prC : Cr := ⟨fun s _ => ((takeS s 1).1, ((takeS s 1).2.headD 0 : Nat)), fun s _ => numS .pr s 0, fun s _ => textS .pr s ByteArray.empty, fun s _ _ => ((recS s 73).1, (parsedTi 9 (recS s 73).2).2.1, (parsedTi 9 (recS s 73).2).2.2), refuseS⟩

def kpC : Cr := ⟨fun s k => (s, k), fun s x => (s, x), fun s t => (s, t), fun s nm xs => (s, nm, xs), fun s _ => s⟩

def Rq.px (r : Rq) : List Int := [r.p1, r.p2, r.p3, r.p4, r.p5, r.p6, r.p7, r.p8, r.p9]

def Rq.setP (r : Rq) (nm : ByteArray) (xs : List Int) : Rq := { r with pn := nm, p1 := xs.getD 0 0, p2 := xs.getD 1 0, p3 := xs.getD 2 0, p4 := xs.getD 3 0, p5 := xs.getD 4 0, p6 := xs.getD 5 0, p7 := xs.getD 6 0, p8 := xs.getD 7 0, p9 := xs.getD 8 0 }

/-- What a carrier makes of a request whose kind is known. -/
def reqK (c : Cr) (s : Sx) (r : Rq) (K : Int) : Sx × Rq :=
  let z := Rq.zero
  let a := c.text s r.key
  if K = 1 ∨ K = 4 then
    let i := c.num a.1 r.id
    let n := c.num i.1 r.n
    let t := c.num n.1 r.ttl
    (t.1, { z with k := K, key := a.2, id := i.2, n := n.2, ttl := t.2 })
  else if K = 2 then
    let i := c.num a.1 r.id
    let o := c.num i.1 r.o
    let n := c.num o.1 r.n
    (n.1, { z with k := K, key := a.2, id := i.2, o := o.2, n := n.2 })
  else if K = 3 then
    let i := c.num a.1 r.id
    let o := c.num i.1 r.o
    (o.1, { z with k := K, key := a.2, id := i.2, o := o.2 })
  else if K = 5 then (a.1, { z with k := K, key := a.2 })
  else if K = 16 then
    let p := c.plan a.1 r.pn r.px
    (p.1, Rq.setP { z with k := K, key := a.2 } p.2.1 p.2.2)
  else if K = 17 then
    let m := c.text a.1 r.nm
    let t := c.text m.1 r.sec
    let p := c.text t.1 r.pn
    let v := c.num p.1 r.p1
    (v.1, { z with k := K, key := a.2, nm := m.2, sec := t.2, pn := p.2, p1 := v.2 })
  else if K = 18 then
    let m := c.text a.1 r.nm
    let p := c.text m.1 r.pn
    let v := c.num p.1 r.p1
    (v.1, { z with k := K, key := a.2, nm := m.2, pn := p.2, p1 := v.2 })
  else if K = 19 then
    let n := c.num a.1 r.n
    (n.1, { z with k := K, key := a.2, n := n.2 })
  else if K = 20 then
    let m := c.text a.1 r.nm
    let n := c.num m.1 r.n
    (n.1, { z with k := K, key := a.2, nm := m.2, n := n.2 })
  else (c.refuse s 3, { z with k := K })

def isK (K : Int) : Prop := K = 1 ∨ K = 4 ∨ K = 2 ∨ K = 3 ∨ K = 5 ∨ K = 16 ∨ K = 17 ∨ K = 18 ∨ K = 19 ∨ K = 20

def reqS (c : Cr) (s : Sx) (r : Rq) : Sx × Rq := reqK c (c.kind s r.k).1 r (c.kind s r.k).2

/-- A request that is carried: the carrier, the boxes, and what is made. -/
structure Fs (O : Nat → Prop) (At : Nat → World → Sx → Prop) (w0 w : World) (i : Nat) (s : Sx) (fb rb q2 q : Nat) (iv : Value) (rs cs : List Value) : Prop where
  st : At i w s
  fl : w.rangeAt q 0 cs
  th : w.there q 0 cs.length
  src : w.rangeAt rb 0 rs
  fc : w.cell? ⟨fb, 0, none⟩ = some iv
  t2 : w.there q2 0 18
  kp : Keep O w0 w
  dq : q ≠ fb ∧ q ≠ rb ∧ q ≠ q2 ∧ ¬ O q
  lt : fb < w.heap.size ∧ rb < w.heap.size ∧ q2 < w.heap.size ∧ q < w.heap.size
  put : ∀ i w s o vs, At i w s → At i (w.setCells q o vs) s

theorem rangeAt_keep {w w' : World} {b off : Nat} {cs : List Value} (h : w.rangeAt b off cs) (hb : w'.heap[b]? = w.heap[b]?) : w'.rangeAt b off cs := fun j v hj => (World.cell?_of_block (a := ⟨b, off + j, none⟩) hb).trans (h j v hj)

theorem there_blk {w w' : World} {b off n : Nat} (h : w.there b off n) (hb : w'.heap[b]? = w.heap[b]?) : w'.there b off n := fun j hj => by
  rw [World.cell?_of_block (a := ⟨b, off + j, none⟩) hb, World.frozen?_of_block (a := ⟨b, off + j, none⟩) hb]
  exact h j hj

theorem Fs.call {O P : Nat → Prop} {At : Nat → World → Sx → Prop} {w0 w w' : World} {i i' : Nat} {s s' : Sx} {fb rb q2 q : Nat} {iv : Value} {rs cs : List Value} (h : Fs O At w0 w i s fb rb q2 q iv rs cs) (hK : Keep P w w') (hP : ∀ x, O x ∨ x = fb ∨ x = rb ∨ x = q2 ∨ x = q → P x) (hA : At i' w' s') : Fs O At w0 w' i' s' fb rb q2 q iv rs cs := by
  have b1 := hK.block fb h.lt.1 (hP _ (.inr (.inl rfl)))
  have b2 := hK.block rb h.lt.2.1 (hP _ (.inr (.inr (.inl rfl))))
  have b3 := hK.block q2 h.lt.2.2.1 (hP _ (.inr (.inr (.inr (.inl rfl)))))
  have b4 := hK.block q h.lt.2.2.2 (hP _ (.inr (.inr (.inr (.inr rfl)))))
  have := hK.size
  exact ⟨hA, rangeAt_keep h.fl b4, there_blk h.th b4, rangeAt_keep h.src b2, (World.cell?_of_block (a := ⟨fb, 0, none⟩) b1).trans h.fc, there_blk h.t2 b3, h.kp.trans (hK.less (fun x _ hx => hP x (.inl hx))), h.dq, ⟨by have := h.lt.1; omega, by have := h.lt.2.1; omega, by have := h.lt.2.2.1; omega, by have := h.lt.2.2.2; omega⟩, h.put⟩

theorem Fs.puts {O : Nat → Prop} {At : Nat → World → Sx → Prop} {w0 w : World} {i : Nat} {s : Sx} {fb rb q2 q : Nat} {iv : Value} {rs cs : List Value} (h : Fs O At w0 w i s fb rb q2 q iv rs cs) (o : Nat) (vs : List Value) (hl : o + vs.length ≤ cs.length) : Fs O At w0 (w.setCells q o vs) i s fb rb q2 q iv rs (cs.take o ++ vs ++ cs.drop (o + vs.length)) := by
  have hn : (cs.take o ++ vs ++ cs.drop (o + vs.length)).length = cs.length := by
    rw [List.length_append, List.length_append, List.length_take, List.length_drop]
    omega
  obtain ⟨d1, d2, d3, d4⟩ := h.dq
  exact ⟨h.put _ _ _ _ _ h.st, range_puts h.fl h.th hl, by rw [hn]; exact World.there_setCells h.th _ _ _, rangeAt_keep h.src (heap_setCellsN q rb (fun e => d2 e.symm) vs o w), (World.cell?_of_block (a := ⟨fb, 0, none⟩) (heap_setCellsN q fb (fun e => d1 e.symm) vs o w)).trans h.fc, there_blk h.t2 (heap_setCellsN q q2 (fun e => d3 e.symm) vs o w), h.kp.setCells (.inl d4) o vs, h.dq, by rw [size_setCellsN]; exact h.lt, h.put⟩

theorem Fs.put1 {O : Nat → Prop} {At : Nat → World → Sx → Prop} {w0 w : World} {i : Nat} {s : Sx} {fb rb q2 q : Nat} {iv : Value} {rs cs : List Value} (h : Fs O At w0 w i s fb rb q2 q iv rs cs) (j : Nat) (v : Value) (hj : j < cs.length) : Fs O At w0 (w.setCell ⟨q, j, none⟩ v) i s fb rb q2 q iv rs (cs.set j v) := by
  have := h.puts j [v] (by rw [List.length_singleton]; omega)
  rw [List.length_singleton, ← set_split cs j v hj] at this
  exact this

theorem Fs.cell {O : Nat → Prop} {At : Nat → World → Sx → Prop} {w0 w : World} {i : Nat} {s : Sx} {fb rb q2 q : Nat} {iv : Value} {rs cs : List Value} (h : Fs O At w0 w i s fb rb q2 q iv rs cs) {j : Nat} {v : Value} (hi : cs[j]? = some v) : w.cell? ⟨q, j, none⟩ = some v := by
  have := h.fl j v hi
  rw [Nat.zero_add] at this
  exact this

theorem Fs.fz {O : Nat → Prop} {At : Nat → World → Sx → Prop} {w0 w : World} {i : Nat} {s : Sx} {fb rb q2 q : Nat} {iv : Value} {rs cs : List Value} (h : Fs O At w0 w i s fb rb q2 q iv rs cs) {j : Nat} (hj : j < cs.length) : w.frozen? ⟨q, j, none⟩ = false := by
  have := (h.th j hj).2
  rw [Nat.zero_add] at this
  exact this

theorem Fs.scell {O : Nat → Prop} {At : Nat → World → Sx → Prop} {w0 w : World} {i : Nat} {s : Sx} {fb rb q2 q : Nat} {iv : Value} {rs cs : List Value} (h : Fs O At w0 w i s fb rb q2 q iv rs cs) {j : Nat} {v : Value} (hi : rs[j]? = some v) : w.cell? ⟨rb, j, none⟩ = some v := by
  have := h.src j v hi
  rw [Nat.zero_add] at this
  exact this

/-- A writer in the midst of others' blocks, its bytes bounded. -/
def AtW (O : Nat → Prop) (b : Nat) (i : Nat) (w : World) (s : Sx) : Prop := FwAt w O b s.l s.e ∧ s.l.length ≤ 400 * i

def AtP (b g : Nat) (_i : Nat) (w : World) (s : Sx) : Prop := FpAt w b g s ∧ g < w.heap.size

def AtK (_i : Nat) (_w : World) (_s : Sx) : Prop := True

theorem FwAt.far {w : World} {O : Nat → Prop} {b q : Nat} {l : List Nat} {e : Nat} (h : FwAt w O b l e) (hq : O q) (o : Nat) (vs : List Value) : FwAt (w.setCells q o vs) O b l e := by
  obtain ⟨⟨v, hv, hown, hno⟩, hc0, hfz, hob, hlt⟩ := h
  have hbb := heap_setCellsN q b (fun k => hob (by rw [k]; exact hq)) vs o w
  refine ⟨⟨v, (World.cell?_of_block (a := ⟨b, 1, none⟩) hbb).trans hv, ?_, hno⟩, (World.cell?_of_block (a := ⟨b, 0, none⟩) hbb).trans hc0, fun o => (World.frozen?_of_block (a := ⟨b, o, none⟩) hbb).trans (hfz o), hob, fun x hx => by rw [size_setCellsN]; exact hlt x hx⟩
  obtain ⟨k1, k2 | ⟨g', c', cur, e', k3, k4, k5⟩⟩ := hown
  · exact ⟨k1, .inl k2⟩
  · exact ⟨k1, .inr ⟨g', c', cur, e', k3, (heap_setCellsN q g' (fun k => (hno g' (by rw [e']; rfl)).1 (by rw [k]; exact hq)) vs o w).trans k4, k5⟩⟩

theorem AtW.far {O : Nat → Prop} {b q : Nat} (hq : O q) : ∀ i w s o vs, AtW O b i w s → AtW O b i (w.setCells q o vs) s := fun _ _ _ o vs h => ⟨h.1.far hq o vs, h.2⟩

theorem AtP.far {b g q : Nat} (hb : b ≠ q) (hg : g ≠ q) : ∀ i w s o vs, AtP b g i w s → AtP b g i (w.setCells q o vs) s := fun _ w _ o vs h => ⟨h.1.keep (P := fun x => x ≠ q) ((Keep.refl _ w).setCells (.inl (fun h => h rfl)) o vs) hg hb, by rw [size_setCellsN]; exact h.2⟩

theorem AtK.far {q : Nat} : ∀ i w s o vs, AtK i w s → AtK i (w.setCells q o vs) s := fun _ _ _ _ _ _ => trivial

/- The three carriers' methods, in one form. -/

theorem wkind {O : Nat → Prop} {b i : Nat} {w : World} {s : Sx} (k : Int) (hi : i < 1000) (h : AtW O b i w s) : Calls Try.prog 80 #[.pointer (some ⟨b, 0, none⟩), .int .i64 k] w fun r w' => r = .returned (.int .i64 (wrC.kind s k).2) ∧ AtW O b (i + 1) w' (wrC.kind s k).1 ∧ Keep O w w' := by
  obtain ⟨h1, h2⟩ := h
  refine (fwkind k (by omega) h1).mono ?_
  rintro r w' ⟨rfl, h3, h4⟩
  refine ⟨rfl, ⟨h3, ?_⟩, h4⟩
  show (s.l ++ [(k % 256).toNat]).length ≤ _
  rw [List.length_append, List.length_singleton]
  omega

theorem wnumc {O : Nat → Prop} {b i : Nat} {w : World} {s : Sx} (x : Int) (hi : i < 1000) (h : AtW O b i w s) : Calls Try.prog 51 #[.pointer (some ⟨b, 0, none⟩), .int .i64 x] w fun r w' => r = .returned (.int .i64 (wrC.num s x).2) ∧ AtW O b (i + 1) w' (wrC.num s x).1 ∧ Keep O w w' := by
  obtain ⟨h1, h2⟩ := h
  refine (fwnum x (by omega) h1).mono ?_
  rintro r w' ⟨rfl, h3, h4⟩
  refine ⟨rfl, ⟨h3, ?_⟩, h4⟩
  show (s.l ++ be8 x).length ≤ _
  rw [List.length_append, be8_length]
  omega

theorem txtW_len (l : List Nat) (e : Nat) (t : ByteArray) : (txtW l e t).l.length ≤ l.length + 256 := by
  unfold txtW
  split
  · show (l ++ [t.size] ++ natBytes t).length ≤ _
    rw [List.length_append, List.length_append, natBytes_length, List.length_singleton]
    omega
  · show l.length ≤ _
    omega

theorem tiW_len (l : List Nat) (e : Nat) (t : ByteArray) (xs : List Int) (hx : xs.length ≤ 9) : (tiW l e t xs).l.length ≤ l.length + 400 := by
  unfold tiW
  split
  · show (l ++ tiB t xs).length ≤ _
    unfold tiB
    rw [List.length_append, List.length_append, List.length_append, natBytes_length, flat8_length, List.length_singleton]
    omega
  · show l.length ≤ _
    omega

theorem wtextc {O : Nat → Prop} {b i : Nat} {w : World} {s : Sx} (x : ByteArray) (hx : x.size ≤ 9223372036854775807) (hi : i < 1000) (h : AtW O b i w s) : Calls Try.prog 82 #[.pointer (some ⟨b, 0, none⟩), .string x] w fun r w' => r = .returned (.string (wrC.text s x).2) ∧ AtW O b (i + 1) w' (wrC.text s x).1 ∧ Keep O w w' := by
  obtain ⟨h1, h2⟩ := h
  refine (fwtext x hx (by omega) h1).mono ?_
  rintro r w' ⟨rfl, h3, h4⟩
  refine ⟨rfl, ⟨h3, ?_⟩, h4⟩
  have := txtW_len s.l s.e x
  show (txtW s.l s.e x).l.length ≤ _
  omega

theorem wplanc {O : Nat → Prop} {b i : Nat} {w : World} {s : Sx} (nm : ByteArray) (x1 x2 x3 x4 x5 x6 x7 x8 x9 : Int) (hx : nm.size ≤ 9223372036854775807) (hi : i < 1000) (h : AtW O b i w s) : Calls Try.prog 81 #[.pointer (some ⟨b, 0, none⟩), .agg #[.string nm, .int .i64 x1, .int .i64 x2, .int .i64 x3, .int .i64 x4, .int .i64 x5, .int .i64 x6, .int .i64 x7, .int .i64 x8, .int .i64 x9]] w fun r w' => ∃ m y1 y2 y3 y4 y5 y6 y7 y8 y9, (wrC.plan s nm [x1, x2, x3, x4, x5, x6, x7, x8, x9]).2 = (m, [y1, y2, y3, y4, y5, y6, y7, y8, y9]) ∧ r = .returned (.agg (planC m y1 y2 y3 y4 y5 y6 y7 y8 y9).toArray) ∧ AtW O b (i + 1) w' (wrC.plan s nm [x1, x2, x3, x4, x5, x6, x7, x8, x9]).1 ∧ Keep O w w' := by
  obtain ⟨h1, h2⟩ := h
  refine (fwplan nm x1 x2 x3 x4 x5 x6 x7 x8 x9 hx (by omega) h1).mono ?_
  rintro r w' ⟨rfl, h3, h4⟩
  refine ⟨nm, x1, x2, x3, x4, x5, x6, x7, x8, x9, rfl, rfl, ⟨h3, ?_⟩, h4⟩
  have := tiW_len s.l s.e nm [x1, x2, x3, x4, x5, x6, x7, x8, x9] (Nat.le_refl _)
  show (tiW s.l s.e nm [x1, x2, x3, x4, x5, x6, x7, x8, x9]).l.length ≤ _
  omega

theorem wrefusec {O : Nat → Prop} {b i : Nat} {w : World} {s : Sx} (h : AtW O b i w s) : Calls Try.prog 41 #[.pointer (some ⟨b, 0, none⟩), .int .i64 3] w fun r w' => r = .returned (.tuple #[]) ∧ AtW O b (i + 1) w' (wrC.refuse s 3) ∧ Keep O w w' := by
  obtain ⟨h1, h2⟩ := h
  refine (fwrefuse 3 h1).mono ?_
  rintro r w' ⟨rfl, h3, h4⟩
  exact ⟨rfl, ⟨h3, show s.l.length ≤ _ by omega⟩, h4⟩

theorem pkind {b g i : Nat} {w : World} {s : Sx} (k : Int) (_hi : i < 1000) (h : AtP b g i w s) : Calls Try.prog 86 #[.pointer (some ⟨b, 0, none⟩), .int .i64 k] w fun r w' => r = .returned (.int .i64 (prC.kind s k).2) ∧ AtP b g (i + 1) w' (prC.kind s k).1 ∧ Keep (fun x => x ≠ b) w w' := by
  obtain ⟨h1, h2⟩ := h
  refine (fpkind k h1).mono ?_
  rintro r w' ⟨rfl, h3, h4, _⟩
  exact ⟨rfl, ⟨h3, Nat.lt_of_lt_of_le h2 h4.size⟩, h4⟩

theorem pnumc {b g i : Nat} {w : World} {s : Sx} (x : Int) (_hi : i < 1000) (h : AtP b g i w s) : Calls Try.prog 46 #[.pointer (some ⟨b, 0, none⟩), .int .i64 x] w fun r w' => r = .returned (.int .i64 (prC.num s x).2) ∧ AtP b g (i + 1) w' (prC.num s x).1 ∧ Keep (fun x => x ≠ b) w w' := by
  obtain ⟨h1, h2⟩ := h
  refine (fpnum x h1).mono ?_
  rintro r w' ⟨rfl, h3, h4⟩
  exact ⟨rfl, ⟨h3, Nat.lt_of_lt_of_le h2 h4.size⟩, h4⟩

theorem ptextc {b g i : Nat} {w : World} {s : Sx} (x : ByteArray) (_hx : x.size ≤ 9223372036854775807) (_hi : i < 1000) (h : AtP b g i w s) : Calls Try.prog 88 #[.pointer (some ⟨b, 0, none⟩), .string x] w fun r w' => r = .returned (.string (prC.text s x).2) ∧ AtP b g (i + 1) w' (prC.text s x).1 ∧ Keep (fun x => x ≠ b) w w' := by
  obtain ⟨h1, h2⟩ := h
  refine (fptext x h1).mono ?_
  rintro r w' ⟨rfl, h3, h4⟩
  exact ⟨rfl, ⟨h3, Nat.lt_of_lt_of_le h2 h4.size⟩, h4⟩

theorem pplanc {b g i : Nat} {w : World} {s : Sx} (nm : ByteArray) (x1 x2 x3 x4 x5 x6 x7 x8 x9 : Int) (_hx : nm.size ≤ 9223372036854775807) (_hi : i < 1000) (h : AtP b g i w s) : Calls Try.prog 87 #[.pointer (some ⟨b, 0, none⟩), .agg #[.string nm, .int .i64 x1, .int .i64 x2, .int .i64 x3, .int .i64 x4, .int .i64 x5, .int .i64 x6, .int .i64 x7, .int .i64 x8, .int .i64 x9]] w fun r w' => ∃ m y1 y2 y3 y4 y5 y6 y7 y8 y9, (prC.plan s nm [x1, x2, x3, x4, x5, x6, x7, x8, x9]).2 = (m, [y1, y2, y3, y4, y5, y6, y7, y8, y9]) ∧ r = .returned (.agg (planC m y1 y2 y3 y4 y5 y6 y7 y8 y9).toArray) ∧ AtP b g (i + 1) w' (prC.plan s nm [x1, x2, x3, x4, x5, x6, x7, x8, x9]).1 ∧ Keep (fun x => x ≠ b) w w' := by
  obtain ⟨h1, h2⟩ := h
  refine (fpplan nm x1 x2 x3 x4 x5 x6 x7 x8 x9 h2 h1).mono ?_
  rintro r w' ⟨f, m, y1, y2, y3, y4, y5, y6, y7, y8, y9, hp, rfl, h3, h4⟩
  refine ⟨m, y1, y2, y3, y4, y5, y6, y7, y8, y9, ?_, rfl, ⟨h3, Nat.lt_of_lt_of_le h2 h4.size⟩, h4⟩
  show ((parsedTi 9 (recS s 73).2).2.1, (parsedTi 9 (recS s 73).2).2.2) = _
  rw [hp]

theorem prefusec {b g i : Nat} {w : World} {s : Sx} (h : AtP b g i w s) : Calls Try.prog 41 #[.pointer (some ⟨b, 0, none⟩), .int .i64 3] w fun r w' => r = .returned (.tuple #[]) ∧ AtP b g (i + 1) w' (prC.refuse s 3) ∧ Keep (fun x => x ≠ b) w w' := by
  obtain ⟨h1, h2⟩ := h
  refine (fprefuse 3 h1).mono ?_
  rintro r w' ⟨rfl, h3, h4⟩
  exact ⟨rfl, ⟨h3, Nat.lt_of_lt_of_le h2 h4.size⟩, h4⟩

set_option maxRecDepth 100000 in
theorem kkind {i : Nat} {w : World} {s : Sx} (k : Int) (_hi : i < 1000) (_h : AtK i w s) : Calls Try.prog 91 #[.agg #[], .int .i64 k] w fun r w' => r = .returned (.int .i64 (kpC.kind s k).2) ∧ AtK (i + 1) w' (kpC.kind s k).1 ∧ Keep (fun _ => True) w w' := by
  go_enter Try.func91, Try.ntmps91
  go_wp2_with fail
  go_ret
  exact ⟨rfl, trivial, (Keep.refl _ w).alloc _⟩

set_option maxRecDepth 100000 in
theorem knumc {i : Nat} {w : World} {s : Sx} (x : Int) (_hi : i < 1000) (_h : AtK i w s) : Calls Try.prog 92 #[.agg #[], .int .i64 x] w fun r w' => r = .returned (.int .i64 (kpC.num s x).2) ∧ AtK (i + 1) w' (kpC.num s x).1 ∧ Keep (fun _ => True) w w' := by
  go_enter Try.func92, Try.ntmps92
  go_wp2_with fail
  go_ret
  exact ⟨rfl, trivial, (Keep.refl _ w).alloc _⟩

set_option maxRecDepth 100000 in
theorem ktextc {i : Nat} {w : World} {s : Sx} (x : ByteArray) (_hx : x.size ≤ 9223372036854775807) (_hi : i < 1000) (_h : AtK i w s) : Calls Try.prog 95 #[.agg #[], .string x] w fun r w' => r = .returned (.string (kpC.text s x).2) ∧ AtK (i + 1) w' (kpC.text s x).1 ∧ Keep (fun _ => True) w w' := by
  go_enter Try.func95, Try.ntmps95
  go_wp2_with fail
  go_ret
  exact ⟨rfl, trivial, (Keep.refl _ w).alloc _⟩

set_option maxRecDepth 100000 in
theorem krefusec {i : Nat} {w : World} {s : Sx} (_h : AtK i w s) : Calls Try.prog 94 #[.agg #[], .int .i64 3] w fun r w' => r = .returned (.tuple #[]) ∧ AtK (i + 1) w' (kpC.refuse s 3) ∧ Keep (fun _ => True) w w' := by
  go_enter Try.func94, Try.ntmps94
  go_wp2_with fail
  go_end0
  exact ⟨rfl, trivial, (Keep.refl _ w).alloc _⟩

set_option maxRecDepth 100000 in
set_option maxHeartbeats 1000000 in
theorem kplanc {i : Nat} {w : World} {s : Sx} (nm : ByteArray) (x1 x2 x3 x4 x5 x6 x7 x8 x9 : Int) (_hx : nm.size ≤ 9223372036854775807) (_hi : i < 1000) (_h : AtK i w s) : Calls Try.prog 93 #[.agg #[], .agg #[.string nm, .int .i64 x1, .int .i64 x2, .int .i64 x3, .int .i64 x4, .int .i64 x5, .int .i64 x6, .int .i64 x7, .int .i64 x8, .int .i64 x9]] w fun r w' => ∃ m y1 y2 y3 y4 y5 y6 y7 y8 y9, (kpC.plan s nm [x1, x2, x3, x4, x5, x6, x7, x8, x9]).2 = (m, [y1, y2, y3, y4, y5, y6, y7, y8, y9]) ∧ r = .returned (.agg (planC m y1 y2 y3 y4 y5 y6 y7 y8 y9).toArray) ∧ AtK (i + 1) w' (kpC.plan s nm [x1, x2, x3, x4, x5, x6, x7, x8, x9]).1 ∧ Keep (fun _ => True) w w' := by
  go_enter Try.func93, Try.ntmps93
  go_wp2_with fail
  exact bodyPost_ret (v := .agg #[.string nm, .int .i64 x1, .int .i64 x2, .int .i64 x3, .int .i64 x4, .int .i64 x5, .int .i64 x6, .int .i64 x7, .int .i64 x8, .int .i64 x9]) (by simp [results, Try.results93, go_sem]) rfl ⟨nm, x1, x2, x3, x4, x5, x6, x7, x8, x9, rfl, rfl, trivial, ((((Keep.refl _ w).alloc _).alloc _).alloc _)⟩

end Go.Proofs.Ytkbboingeacgjaa

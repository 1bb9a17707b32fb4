/-
  Trees of any height, by themselves: entries of a level, their order, what they hold, how long they are.
  Nodes that are too long are cut in the middle, those that are short are joined with their neighbours: by themselves.
  A branch with another node in one's stead: by itself; then an edit down the levels.
  Keys put and deleted, down the levels and at the root: by themselves. How high a tree is.
  The root of a tree of any height, by itself; the pages of its nodes, counted.
  The memory of trees, by itself: what stands at each place's block, what a disk's pages hold, and what a place comes to.
  Trees that are the same but for pages; what stands at or below a place; no two entries share a place.
-/
import Derived.Test.YthgpjkcgccdldaaGreatDoorV01

namespace Go.Proofs.YthgpjkcgccdldaaGreatDoor
open Go.Lib

/-- An entry of a node: a leaf's is a key with its value; a branch's a low, a page (0: none yet), and the entries of the node below. -/
def En : Nat → Type
  | 0 => ByteArray × ByteArray
  | h + 1 => ByteArray × Nat × List (En h)

/-- A leaf's key, a branch's low. -/
def En.key : {h : Nat} → En h → ByteArray
  | 0, (e : ByteArray × ByteArray) => e.1
  | _ + 1, (e : ByteArray × Nat × List (En _)) => e.1
/-- How many bytes it takes. -/
def En.size : {h : Nat} → En h → Nat
  | 0, (e : ByteArray × ByteArray) => 2 + e.1.size + e.2.size
  | _ + 1, (e : ByteArray × Nat × List (En _)) => 5 + e.1.size
/-- The keys with their values at it and below it. -/
def En.flat : {h : Nat} → En h → List (ByteArray × ByteArray)
  | 0, (e : ByteArray × ByteArray) => [e]
  | _ + 1, (e : ByteArray × Nat × List (En _)) => e.2.2.flatMap fun k => En.flat k
/-- The pages below. -/
def En.pages : {h : Nat} → En h → List Nat
  | 0, _ => []
  | _ + 1, (e : ByteArray × Nat × List (En _)) => e.2.1 :: e.2.2.flatMap fun k => En.pages k

def flatN {h : Nat} (l : List (En h)) : List (ByteArray × ByteArray) := l.flatMap En.flat
def pagesN {h : Nat} (l : List (En h)) : List Nat := l.flatMap En.pages
def sizeN {h : Nat} (l : List (En h)) : Nat := (l.map En.size).sum

theorem flatN_append {h : Nat} (a b : List (En h)) : flatN (a ++ b) = flatN a ++ flatN b := List.flatMap_append
theorem pagesN_append {h : Nat} (a b : List (En h)) : pagesN (a ++ b) = pagesN a ++ pagesN b := List.flatMap_append
theorem sizeN_append {h : Nat} (a b : List (En h)) : sizeN (a ++ b) = sizeN a + sizeN b := by simp [sizeN]
theorem flatN_cons {h : Nat} (e : En h) (l : List (En h)) : flatN (e :: l) = e.flat ++ flatN l := rfl
theorem sizeN_cons {h : Nat} (e : En h) (l : List (En h)) : sizeN (e :: l) = e.size + sizeN l := by simp [sizeN]
theorem flatN_zero (l : List (En 0)) : flatN l = l := by
  induction l with
  | nil => rfl
  | cons e l ih => rw [flatN_cons, ih]; rfl

/-- The key that is the next one's, or what is above all. -/
def topK {h : Nat} (hi : Option ByteArray) : List (En h) → Option ByteArray
  | [] => hi
  | e :: _ => some e.key
theorem topK_append {h : Nat} (hi : Option ByteArray) (a b : List (En h)) : topK hi (a ++ b) = topK (topK hi b) a := by cases a <;> rfl

def Below? (k : ByteArray) (hi : Option ByteArray) : Prop := ∀ x, hi = some x → klt k x

/-- The entries rise; each one's own ones are below the next one. -/
def Ord {h : Nat} (P : Option ByteArray → En h → Prop) (hi : Option ByteArray) : List (En h) → Prop
  | [] => True
  | e :: l => Below? e.key (topK hi l) ∧ P (topK hi l) e ∧ Ord P hi l

/-- A node's first entry: a leaf's is not ahead of its low; a branch's has its low. -/
def Starts {h : Nat} (lo : ByteArray) (l : List (En h)) : Prop :=
  match h with
  | 0 => ∀ e, l.head? = some e → ¬ klt e.key lo
  | _ + 1 => ∀ e, l.head? = some e → e.key = lo

def OrdE : {h : Nat} → Option ByteArray → En h → Prop
  | 0, _, _ => True
  | _ + 1, hi, (e : ByteArray × Nat × List (En _)) => Starts e.1 e.2.2 ∧ Ord OrdE hi e.2.2

abbrev OrdN {h : Nat} (hi : Option ByteArray) (l : List (En h)) : Prop := Ord OrdE hi l

theorem Ord.append {h : Nat} {P : Option ByteArray → En h → Prop} {hi : Option ByteArray} {a b : List (En h)} : Ord P hi (a ++ b) ↔ Ord P (topK hi b) a ∧ Ord P hi b := by
  induction a with
  | nil => simp [Ord]
  | cons e a ih =>
    show (Below? e.key (topK hi (a ++ b)) ∧ P (topK hi (a ++ b)) e ∧ Ord P hi (a ++ b)) ↔ (Below? e.key (topK (topK hi b) a) ∧ P (topK (topK hi b) a) e ∧ Ord P (topK hi b) a) ∧ Ord P hi b
    rw [topK_append, ih]
    constructor
    · rintro ⟨h1, h2, h3, h4⟩; exact ⟨⟨h1, h2, h3⟩, h4⟩
    · rintro ⟨⟨h1, h2, h3⟩, h4⟩; exact ⟨h1, h2, h3, h4⟩

theorem Below?.trans {a b : ByteArray} {hi : Option ByteArray} (h : ¬ klt b a) (k : Below? b hi) : Below? a hi := fun x e => klt_of_le_of_klt h (k x e)

/-- All keys are below hi, and not ahead of the first entry's. -/
theorem Starts.le {h : Nat} {lo : ByteArray} {e : En h} {l : List (En h)} (hs : Starts lo (e :: l)) : ¬ klt e.key lo := by
  cases h with
  | zero => exact hs e rfl
  | succ h =>
    have : e.key = lo := hs e rfl
    rw [this]
    exact klt_irrefl _

/-- The first of a row is ahead of what is above. -/
theorem Ord.first {h : Nat} {P : Option ByteArray → En h → Prop} {hi : Option ByteArray} {e : En h} {l : List (En h)} (ho : Ord P hi (e :: l)) : Below? e.key hi ∧ ∀ x ∈ l, klt e.key x.key := by
  induction l generalizing e with
  | nil => exact ⟨ho.1, fun x hx => absurd hx (by simp)⟩
  | cons d l ih =>
    have h1 : klt e.key d.key := ho.1 _ rfl
    obtain ⟨h2, h3⟩ := ih ho.2.2
    refine ⟨fun x hx => klt_trans h1 (h2 x hx), fun x hx => ?_⟩
    rcases List.mem_cons.1 hx with rfl | hx
    · exact h1
    · exact klt_trans h1 (h3 x hx)

/-- What is within a node: keys from lo on, below hi, rising. -/
def Within (lo : ByteArray) (hi : Option ByteArray) (l : List (ByteArray × ByteArray)) : Prop := (∀ x ∈ l, ¬ klt x.1 lo ∧ Below? x.1 hi) ∧ (l.map Prod.fst).Pairwise klt

theorem Within.append {lo mid : ByteArray} {hi : Option ByteArray} {a b : List (ByteArray × ByteArray)} (ha : Within lo (some mid) a) (hb : Within mid hi b) (hlm : ¬ klt mid lo) (hmh : Below? mid hi) : Within lo hi (a ++ b) := by
  refine ⟨fun x hx => ?_, ?_⟩
  · rcases List.mem_append.1 hx with hx | hx
    · exact ⟨(ha.1 x hx).1, fun y hy => klt_trans ((ha.1 x hx).2 mid rfl) (hmh y hy)⟩
    · exact ⟨kle_trans hlm (hb.1 x hx).1, (hb.1 x hx).2⟩
  · rw [List.map_append, List.pairwise_append]
    refine ⟨ha.2, hb.2, fun x hx y hy => ?_⟩
    obtain ⟨u, hu, rfl⟩ := List.mem_map.1 hx
    obtain ⟨v, hv, rfl⟩ := List.mem_map.1 hy
    exact klt_of_klt_of_le ((ha.1 u hu).2 mid rfl) (hb.1 v hv).1

theorem within_row {h : Nat} (hE : ∀ (hi : Option ByteArray) (e : En h), OrdE hi e → Below? e.key hi → Within e.key hi e.flat) {hi : Option ByteArray} : ∀ {l : List (En h)} {e : En h}, OrdN hi (e :: l) → Within e.key hi (flatN (e :: l))
  | [], e, ho => by
    have := hE hi e ho.2.1 ho.1
    rw [flatN_cons]
    simpa [flatN] using this
  | d :: l, e, ho => by
    rw [flatN_cons]
    have h1 := hE (some d.key) e ho.2.1 ho.1
    have h2 := within_row hE (l := l) (e := d) ho.2.2
    exact h1.append h2 (klt_asymm (ho.1 _ rfl)) (Ord.first ho.2.2).1

theorem within_entry : ∀ {h : Nat} (hi : Option ByteArray) (e : En h), OrdE hi e → Below? e.key hi → Within e.key hi e.flat
  | 0, hi, e, _, hb => ⟨fun x hx => by
      have : x = e := List.mem_singleton.1 hx
      subst this
      exact ⟨klt_irrefl _, hb⟩, List.pairwise_singleton _ _⟩
  | h + 1, hi, e, ho, hb => by
    obtain ⟨lo, pg, ks⟩ := e
    show Within lo hi (flatN ks)
    cases ks with
    | nil => exact ⟨fun x hx => absurd hx (by simp [flatN]), by simp [flatN]⟩
    | cons d l =>
      have h1 := within_row (fun hi e => within_entry hi e) (l := l) (e := d) ho.2
      have hs : ¬ klt d.key lo := Starts.le ho.1
      exact ⟨fun x hx => ⟨kle_trans hs (h1.1 x hx).1, (h1.1 x hx).2⟩, h1.2⟩

/-- A node's keys rise, and lie within its bounds. -/
theorem within_node {h : Nat} {lo : ByteArray} {hi : Option ByteArray} {l : List (En h)} (hs : Starts lo l) (ho : OrdN hi l) : Within lo hi (flatN l) := by
  cases l with
  | nil => exact ⟨fun x hx => absurd hx (by simp [flatN]), by simp [flatN]⟩
  | cons d l =>
    have h1 := within_row (fun hi e => within_entry hi e) (l := l) (e := d) ho
    exact ⟨fun x hx => ⟨kle_trans (Starts.le hs) (h1.1 x hx).1, (h1.1 x hx).2⟩, h1.2⟩
end Go.Proofs.YthgpjkcgccdldaaGreatDoor

namespace Go.Proofs.YthgpjkcgccdldaaGreatDoor
open Go.Lib

/-- How long the greater part is, cut behind so many bytes. -/
def costN (all f : Nat) : Nat := max f (all - f)
/-- The loop of middle. -/
def midGo (all : Nat) : List Nat → Nat → Nat → Nat → Nat → Nat × Nat
  | [], _, best, least, _ => (best, least)
  | n :: rest, i, best, least, front => if costN all front < least then midGo all rest (i + 1) i (costN all front) (front + n) else midGo all rest (i + 1) best least (front + n)
def middleN (l : List Nat) : Nat := (midGo l.sum l 0 0 l.sum 0).1

theorem midGo_spec (all : Nat) : ∀ (rest : List Nat) (i best least front : Nat),
    (midGo all rest i best least front = (best, least) ∨ ∃ j, j < rest.length ∧ (midGo all rest i best least front).1 = i + j ∧ (midGo all rest i best least front).2 = costN all (front + (rest.take j).sum))
    ∧ (midGo all rest i best least front).2 ≤ least ∧ ∀ j, j < rest.length → (midGo all rest i best least front).2 ≤ costN all (front + (rest.take j).sum)
  | [], i, best, least, front => ⟨.inl rfl, Nat.le_refl _, fun j h => absurd h (Nat.not_lt_zero _)⟩
  | n :: rest, i, best, least, front => by
    by_cases hc : costN all front < least
    · have e : midGo all (n :: rest) i best least front = midGo all rest (i + 1) i (costN all front) (front + n) := if_pos hc
      obtain ⟨h1, h2, h3⟩ := midGo_spec all rest (i + 1) i (costN all front) (front + n)
      rw [e]
      refine ⟨.inr ?_, by omega, fun j hj => ?_⟩
      · rcases h1 with h1 | ⟨j, hj, h4, h5⟩
        · exact ⟨0, by simp, by rw [h1]; rfl, by rw [h1]; simp⟩
        · exact ⟨j + 1, by simp; omega, by rw [h4]; omega, by rw [h5]; simp [Nat.add_assoc]⟩
      · cases j with
        | zero => simpa using h2
        | succ j => simpa [Nat.add_assoc] using h3 j (by simp at hj; omega)
    · have e : midGo all (n :: rest) i best least front = midGo all rest (i + 1) best least (front + n) := if_neg hc
      obtain ⟨h1, h2, h3⟩ := midGo_spec all rest (i + 1) best least (front + n)
      rw [e]
      refine ⟨?_, h2, fun j hj => ?_⟩
      · rcases h1 with h1 | ⟨j, hj, h4, h5⟩
        · exact .inl h1
        · exact .inr ⟨j + 1, by simp; omega, by rw [h4]; omega, by rw [h5]; simp [Nat.add_assoc]⟩
      · cases j with
        | zero => simp; omega
        | succ j => simpa [Nat.add_assoc] using h3 j (by simp at hj; omega)

theorem mid_near (B all : Nat) (hB : 2 * B < all) : ∀ (l : List Nat) (front : Nat), (∀ x ∈ l, x ≤ B) → all = front + l.sum → 2 * front ≤ all → ∃ j, j < l.length ∧ 2 * costN all (front + (l.take j).sum) ≤ all + B
  | [], front, _, ha, hf => by simp at ha; omega
  | x :: l, front, hx, ha, hf => by
    have hxB := hx x (by simp)
    simp only [List.sum_cons] at ha
    by_cases h1 : all ≤ 2 * front + B
    · exact ⟨0, by simp, by simp only [List.take_zero, List.sum_nil, costN]; omega⟩
    · by_cases h2 : 2 * (front + x) ≤ all
      · obtain ⟨j, hj, hc⟩ := mid_near B all hB l (front + x) (fun y hy => hx y (by simp [hy])) (by omega) h2
        exact ⟨j + 1, by simp; omega, by simpa [Nat.add_assoc] using hc⟩
      · cases l with
        | nil => simp at ha; omega
        | cons y l => exact ⟨1, by simp, by simp only [List.take_succ_cons, List.take_zero, List.sum_cons, List.sum_nil, costN]; omega⟩

/-- Where a node is cut: both parts are about a half. -/
theorem middle_spec {l : List Nat} {B : Nat} (hl : ∀ x ∈ l, x ≤ B) (hB : 2 * B < l.sum) :
    0 < middleN l ∧ middleN l < l.length ∧ 2 * (l.take (middleN l)).sum ≤ l.sum + B ∧ 2 * (l.drop (middleN l)).sum ≤ l.sum + B ∧ l.sum ≤ 2 * (l.take (middleN l)).sum + B ∧ l.sum ≤ 2 * (l.drop (middleN l)).sum + B := by
  obtain ⟨j0, hj0, hc0⟩ := mid_near B l.sum hB l 0 hl (by omega) (by omega)
  obtain ⟨h1, h2, h3⟩ := midGo_spec l.sum l 0 0 l.sum 0
  have h4 := h3 j0 hj0
  rcases h1 with h1 | ⟨j, hj, h5, h6⟩
  · rw [h1] at h4
    simp only at h4
    omega
  · have e : middleN l = j := by rw [show middleN l = (midGo l.sum l 0 0 l.sum 0).1 from rfl, h5]; omega
    have hs : (l.take j).sum + (l.drop j).sum = l.sum := by rw [← List.sum_append, List.take_append_drop]
    rw [e]
    have h7 : 2 * costN l.sum ((l.take j).sum) ≤ l.sum + B := by
      rw [Nat.zero_add] at h6
      omega
    unfold costN at h7
    refine ⟨?_, hj, by omega, by omega, by omega, by omega⟩
    rcases Nat.eq_zero_or_pos j with rfl | h
    · simp at h7; omega
    · exact h

def minN : Nat → Nat
  | 0 => 1
  | _ + 1 => 2
/-- No node but the root may be emptier, none longer than a page. -/
def FullE : {h : Nat} → En h → Prop
  | 0, (e : ByteArray × ByteArray) => 0 < e.1.size ∧ e.1.size ≤ 48 ∧ e.2.size ≤ 120
  | h + 1, (e : ByteArray × Nat × List (En h)) => e.1.size ≤ 48 ∧ minN h ≤ e.2.2.length ∧ sizeN e.2.2 ≤ 495 ∧ ∀ k ∈ e.2.2, FullE k

/-- No entry of a level is longer. -/
def boundN : Nat → Nat
  | 0 => 170
  | _ + 1 => 53
theorem boundN_le (h : Nat) : boundN h ≤ 170 := by cases h <;> simp [boundN]
theorem FullE.size {h : Nat} {e : En h} (he : FullE e) : e.size ≤ boundN h := by
  cases h with
  | zero => have := he.2.1; have := he.2.2; show 2 + e.1.size + e.2.size ≤ 170; omega
  | succ h => have := he.1; show 5 + e.1.size ≤ 53; omega
theorem FullE.key {h : Nat} {e : En h} (he : FullE e) : e.key.size ≤ 48 := by
  cases h with
  | zero => exact he.2.1
  | succ h => exact he.1
theorem sizeN_le {h : Nat} {l : List (En h)} (hl : ∀ e ∈ l, FullE e) : sizeN l ≤ l.length * boundN h := by
  induction l with
  | nil => simp [sizeN]
  | cons e l ih =>
    have h1 := ih fun x hx => hl x (by simp [hx])
    have h2 := (hl e (by simp)).size
    rw [sizeN_cons, List.length_cons, Nat.add_mul]
    omega
/-- A node that is not short has as many entries as it must. -/
theorem min_of_size {h : Nat} {l : List (En h)} (hl : ∀ e ∈ l, FullE e) (hs : 123 ≤ sizeN l) : minN h ≤ l.length := by
  have h1 := sizeN_le hl
  cases h with
  | zero =>
    show 1 ≤ l.length
    rcases Nat.eq_zero_or_pos l.length with e | e
    · rw [e] at h1; omega
    · exact e
  | succ h =>
    show 2 ≤ l.length
    have : boundN (h + 1) = 53 := rfl
    rw [this] at h1
    omega

/-- What an edit makes of a node: it may be too long, or too short. -/
structure Made {h : Nat} (lo : ByteArray) (hi : Option ByteArray) (n : List (En h)) : Prop where
  starts : Starts lo n
  ord : OrdN hi n
  full : ∀ e ∈ n, FullE e
  long : sizeN n ≤ 665

/-- A node of a place. -/
def mkE {h : Nat} (lo : ByteArray) (pg : Nat) (n : List (En h)) : En (h + 1) := ((lo, pg, n) : ByteArray × Nat × List (En h))
def firstKey {h : Nat} : List (En h) → ByteArray
  | [] => ByteArray.empty
  | e :: _ => e.key
def placedN {h : Nat} (n : List (En h)) (lo : ByteArray) : List (En (h + 1)) :=
  if sizeN n ≤ 495 then [mkE lo 0 n] else [mkE lo 0 (n.take (middleN (n.map En.size))), mkE (firstKey (n.drop (middleN (n.map En.size)))) 0 (n.drop (middleN (n.map En.size)))]

theorem Starts.front {h : Nat} {lo : ByteArray} {a b : List (En h)} (hs : Starts lo (a ++ b)) : Starts lo a := by
  cases a with
  | nil => cases h <;> exact fun e he => absurd he (by simp)
  | cons x a => cases h <;> exact fun e he => hs e he
theorem Starts.own {h : Nat} {a : List (En h)} : Starts (firstKey a) a := by
  cases a with
  | nil => cases h <;> exact fun e he => absurd he (by simp)
  | cons x a =>
    cases h with
    | zero => intro e he; injection he with he; subst he; exact klt_irrefl _
    | succ h => intro e he; injection he with he; subst he; rfl

structure Placed {h : Nat} (lo : ByteArray) (hi : Option ByteArray) (n : List (En h)) (r : List (En (h + 1))) : Prop where
  ord : OrdN hi r
  first : ∀ top, topK top r = some lo
  full : ∀ e ∈ r, FullE e
  flat : flatN r = flatN n
  some : 1 ≤ r.length ∧ r.length ≤ 2
  size : sizeN r ≤ 5 + lo.size + 53
  pages : ∃ a b, n = a ++ b ∧ (pagesN r = 0 :: pagesN n ∧ r.length = 1 ∨ pagesN r = 0 :: pagesN a ++ 0 :: pagesN b ∧ r.length = 2)

theorem placed_spec {h : Nat} {lo : ByteArray} {hi : Option ByteArray} {n : List (En h)} (hm : Made lo hi n) (hlo : lo.size ≤ 48) (hb : Below? lo hi) (hmin : sizeN n ≤ 495 → minN h ≤ n.length) : Placed lo hi n (placedN n lo) := by
  by_cases hs : sizeN n ≤ 495
  · have e : placedN n lo = [mkE lo 0 n] := if_pos hs
    rw [e]
    refine ⟨⟨hb, ⟨hm.starts, hm.ord⟩, trivial⟩, fun _ => rfl, ?_, ?_, by simp, ?_, n, [], by simp, .inl ⟨?_, rfl⟩⟩
    · intro x hx
      rw [List.mem_singleton.1 hx]
      exact ⟨hlo, hmin hs, hs, hm.full⟩
    · show flatN n ++ [] = flatN n
      simp
    · rw [sizeN_cons]
      show 5 + lo.size + sizeN ([] : List (En (h + 1))) ≤ _
      simp [sizeN]
    · show (0 :: pagesN n) ++ [] = 0 :: pagesN n
      simp
  · have hB : ∀ x ∈ n.map En.size, x ≤ boundN h := by
      intro x hx
      obtain ⟨e, he, rfl⟩ := List.mem_map.1 hx
      exact (hm.full e he).size
    have hsum : (n.map En.size).sum = sizeN n := rfl
    have hbn := boundN_le h
    obtain ⟨h1, h2, h3, h4, h5, h6⟩ := middle_spec hB (by rw [hsum]; omega)
    rw [hsum] at h3 h4 h5 h6
    generalize hmid : middleN (n.map En.size) = m at *
    have e : placedN n lo = [mkE lo 0 (n.take m), mkE (firstKey (n.drop m)) 0 (n.drop m)] := by
      rw [← hmid]
      exact if_neg hs
    rw [List.length_map] at h2
    rw [List.map_take .. |>.symm] at h3 h5
    rw [List.map_drop .. |>.symm] at h4 h6
    rw [e]
    have hap : n.take m ++ n.drop m = n := List.take_append_drop m n
    have hlong := hm.long
    generalize ha : n.take m = a at *
    generalize hbb : n.drop m = b at *
    have hla : a.length = m := by rw [← ha, List.length_take]; omega
    have hlb : 0 < b.length := by rw [← hbb, List.length_drop]; omega
    change 2 * sizeN a ≤ _ at h3
    change 2 * sizeN b ≤ _ at h4
    change _ ≤ 2 * sizeN a + _ at h5
    change _ ≤ 2 * sizeN b + _ at h6
    have ho := hm.ord
    rw [← hap] at ho
    have ho := Ord.append.1 ho
    have hs2 := hm.starts
    rw [← hap] at hs2
    have hfa : ∀ x ∈ a, FullE x := fun x hx => hm.full x (by rw [← hap]; simp [hx])
    have hfb : ∀ x ∈ b, FullE x := fun x hx => hm.full x (by rw [← hap]; simp [hx])
    cases b with
    | nil => simp at hlb
    | cons y b =>
    cases a with
    | nil => simp at hla; omega
    | cons x a =>
    have hxy : klt x.key y.key := (Ord.first ho.1).1 _ rfl
    have hky : klt lo y.key := klt_of_le_of_klt (Starts.le hs2) hxy
    refine ⟨⟨?_, ⟨hs2.front, ho.1⟩, (Ord.first ho.2).1, ⟨Starts.own, ho.2⟩, trivial⟩, fun _ => rfl, ?_, ?_, by simp, ?_, x :: a, y :: b, hap.symm, .inr ⟨?_, rfl⟩⟩
    · intro z hz
      injection hz with hz
      rw [← hz]
      exact hky
    · intro z hz
      rcases List.mem_cons.1 hz with rfl | hz
      · exact ⟨hlo, min_of_size hfa (by omega : 123 ≤ sizeN (x :: a)), (by omega : sizeN (x :: a) ≤ 495), hfa⟩
      · rw [List.mem_singleton.1 hz]
        exact ⟨(hfb y (by simp)).key, min_of_size hfb (by omega : 123 ≤ sizeN (y :: b)), (by omega : sizeN (y :: b) ≤ 495), hfb⟩
    · rw [← hap, flatN_append]
      show flatN (x :: a) ++ (flatN (y :: b) ++ []) = _
      simp
    · have := (hfb y (by simp)).key
      rw [sizeN_cons, sizeN_cons]
      show 5 + lo.size + (5 + y.key.size + sizeN ([] : List (En (h + 1)))) ≤ _
      simp only [sizeN, List.map_nil, List.sum_nil]
      omega
    · show (0 :: pagesN (x :: a)) ++ ((0 :: pagesN (y :: b)) ++ []) = _
      simp
end Go.Proofs.YthgpjkcgccdldaaGreatDoor

namespace Go.Proofs.YthgpjkcgccdldaaGreatDoor
open Go.Lib

/-- What isShort answers. -/
def shortN {h : Nat} (n m : List (En h)) : Bool := decide (sizeN n < 123) || (decide (sizeN n < 247) && decide (sizeN n + sizeN m ≤ 495))
def kidsOf {h : Nat} (e : En (h + 1)) : List (En h) := (e : ByteArray × Nat × List (En h)).2.2
def pageOf {h : Nat} (e : En (h + 1)) : Nat := (e : ByteArray × Nat × List (En h)).2.1
def settleR {h : Nat} (a : List (En (h + 1))) (lo : ByteArray) (n : List (En h)) (z : List (En (h + 1))) : List (En (h + 1)) :=
  match z with
  | [] => a ++ (placedN n lo ++ [])
  | m :: z' => if shortN n (kidsOf m) then a ++ (placedN (n ++ kidsOf m) lo ++ z') else a ++ (placedN n lo ++ m :: z')
/-- What settled answers: a and z stand beside the one that is made anew. -/
def settleN {h : Nat} (a : List (En (h + 1))) (lo : ByteArray) (n : List (En h)) (z : List (En (h + 1))) : List (En (h + 1)) :=
  match a.getLast? with
  | none => settleR a lo n z
  | some j => if shortN n (kidsOf j) then a.dropLast ++ (placedN (kidsOf j ++ n) j.key ++ z) else settleR a lo n z

theorem short_not {h : Nat} {n m : List (En h)} (hs : shortN n m = false) : 123 ≤ sizeN n := by
  unfold shortN at hs
  simp at hs
  omega
theorem short_sum {h : Nat} {n m : List (En h)} (hs : shortN n m = true) (hm : sizeN m ≤ 495) : sizeN n + sizeN m ≤ 665 := by
  unfold shortN at hs
  simp at hs
  omega

theorem Starts.app {h : Nat} {lo : ByteArray} {a b : List (En h)} (hs : Starts lo a) (ha : 0 < a.length) : Starts lo (a ++ b) := by
  cases a with
  | nil => simp at ha
  | cons x a => cases h <;> exact fun e he => hs e he
theorem Starts.later {h : Nat} {lo mid : ByteArray} {b : List (En (h))} (hz : h = 0) (hs : Starts mid b) (hlm : ¬ klt mid lo) : Starts lo b := by
  subst hz
  exact fun e he => kle_trans hlm (hs e he)
theorem min_pos (h : Nat) : 0 < minN h := by cases h <;> simp [minN]
theorem minN_len {h : Nat} {n : List (En h)} (_hh : h = 0 ∨ 1 ≤ n.length) (k : List (En h)) (hk : minN h ≤ k.length) : minN h ≤ (n ++ k).length := by
  rw [List.length_append]; omega

theorem topK_starts {h : Nat} {mid : ByteArray} {b : List (En (h + 1))} (hs : Starts mid b) (hb : 1 ≤ b.length) (hi : Option ByteArray) : topK hi b = some mid := by
  cases b with
  | nil => simp at hb
  | cons x b => exact congrArg some (hs x rfl)

/-- Two nodes beside one another, put together. -/
theorem join_ord {h : Nat} {mid : ByteArray} {hi : Option ByteArray} {a b : List (En h)} (ha : OrdN (some mid) a) (hs : Starts mid b) (hb : OrdN hi b) (hmh : Below? mid hi) (hab : h = 0 ∨ 1 ≤ b.length) : OrdN hi (a ++ b) := by
  refine Ord.append.2 ⟨?_, hb⟩
  cases h with
  | zero =>
    clear hab
    induction a with
    | nil => trivial
    | cons x a ih =>
      refine ⟨?_, trivial, ih ha.2.2⟩
      cases a with
      | cons y a => exact ha.1
      | nil =>
        have hx : klt x.key mid := ha.1 _ rfl
        cases b with
        | nil => exact fun y hy => klt_trans hx (hmh y hy)
        | cons y b => intro z hz; injection hz with hz; subst hz; exact klt_of_klt_of_le hx (hs y rfl)
  | succ h =>
    rw [topK_starts hs (by omega) hi]
    exact ha

theorem join_starts {h : Nat} {lo mid : ByteArray} {a b : List (En h)} (hsa : Starts lo a) (hs : Starts mid b) (hlm : ¬ klt mid lo) (hab : h = 0 ∨ 1 ≤ a.length) : Starts lo (a ++ b) := by
  cases a with
  | nil =>
    rcases hab with rfl | hab
    · exact hs.later rfl hlm
    · simp at hab
  | cons x a => exact hsa.app (by simp)

/-- What stands in a row in place of some. -/
theorem swap_ord {h : Nat} {lo : ByteArray} {hi : Option ByteArray} {a r r' z : List (En (h + 1))} (ho : OrdN hi (a ++ (r ++ z))) (hr : topK (topK hi z) r = some lo) (hr' : topK (topK hi z) r' = some lo) (ho' : OrdN (topK hi z) r') : OrdN hi (a ++ (r' ++ z)) := by
  obtain ⟨h1, h2⟩ := Ord.append.1 ho
  obtain ⟨h3, h4⟩ := Ord.append.1 h2
  rw [topK_append, hr] at h1
  exact Ord.append.2 ⟨by rw [topK_append, hr']; exact h1, Ord.append.2 ⟨ho', h4⟩⟩

/-- What settled makes of a branch. -/
structure Settled {h : Nat} (hi : Option ByteArray) (b : List (En (h + 1))) (a z : List (En (h + 1))) (n : List (En h)) (r : List (En (h + 1))) : Prop where
  ord : OrdN hi r
  first : topK hi r = topK hi b
  full : ∀ e ∈ r, FullE e
  flat : flatN r = flatN a ++ (flatN n ++ flatN z)
  size : sizeN r ≤ sizeN b + 53
  some : 1 ≤ r.length

theorem full_of {h : Nat} {a r z : List (En h)} (ha : ∀ e ∈ a, FullE e) (hr : ∀ e ∈ r, FullE e) (hz : ∀ e ∈ z, FullE e) : ∀ e ∈ a ++ (r ++ z), FullE e := by
  intro e he
  rcases List.mem_append.1 he with he | he
  · exact ha e he
  · rcases List.mem_append.1 he with he | he
    · exact hr e he
    · exact hz e he

theorem settled_of {h : Nat} {lo : ByteArray} {hi : Option ByteArray} {a0 z0 a z r0 : List (En (h + 1))} {n n' : List (En h)} (b : List (En (h + 1))) (hb : b = a ++ (r0 ++ z)) (ho : OrdN hi b) (hf : ∀ e ∈ b, FullE e)
    (hr0 : topK (topK hi z) r0 = some lo) (hP : Placed lo (topK hi z) n' (placedN n' lo)) (hflat : flatN a ++ (flatN n' ++ flatN z) = flatN a0 ++ (flatN n ++ flatN z0)) (hsz : 5 + lo.size ≤ sizeN r0) : Settled hi b a0 z0 n (a ++ (placedN n' lo ++ z)) := by
  subst hb
  refine ⟨swap_ord ho hr0 (hP.first _) hP.ord, ?_, full_of (fun e he => hf e (by simp [he])) hP.full (fun e he => hf e (by simp [he])), ?_, ?_, ?_⟩
  · rw [topK_append, topK_append, topK_append, topK_append, hr0, hP.first]
  · rw [flatN_append, flatN_append, hP.flat, hflat]
  · have := hP.size
    rw [sizeN_append, sizeN_append, sizeN_append, sizeN_append]
    omega
  · have := hP.some.1
    rw [List.length_append, List.length_append]
    omega

/-- The parts of a place in a branch. -/
theorem ord_at {h : Nat} {hi : Option ByteArray} {a z : List (En (h + 1))} {c : En (h + 1)} (ho : OrdN hi (a ++ c :: z)) : Below? c.key (topK hi z) ∧ Starts c.key (kidsOf c) ∧ OrdN (topK hi z) (kidsOf c) := by
  obtain ⟨_, h2⟩ := Ord.append.1 ho
  exact ⟨h2.1, h2.2.1.1, h2.2.1.2⟩

theorem full_at {h : Nat} {c : En (h + 1)} (hf : FullE c) : c.key.size ≤ 48 ∧ minN h ≤ (kidsOf c).length ∧ sizeN (kidsOf c) ≤ 495 ∧ ∀ k ∈ kidsOf c, FullE k := hf
theorem size_at {h : Nat} (c : En (h + 1)) : c.size = 5 + c.key.size := rfl
theorem flat_at {h : Nat} (c : En (h + 1)) : c.flat = flatN (kidsOf c) := rfl

theorem settleR_spec {h : Nat} {hi : Option ByteArray} {a z : List (En (h + 1))} {c : En (h + 1)} {n : List (En h)} (ho : OrdN hi (a ++ c :: z)) (hf : ∀ e ∈ a ++ c :: z, FullE e) (hm : Made c.key (topK hi z) n) (hn : h = 0 ∨ 1 ≤ n.length) (hlong : z = [] → 123 ≤ sizeN n) :
    Settled hi (a ++ c :: z) a z n (settleR a c.key n z) := by
  have hc := full_at (hf c (by simp))
  cases z with
  | nil => exact settled_of (r0 := [c]) _ rfl ho hf rfl (placed_spec hm hc.1 (ord_at ho).1 fun _ => min_of_size hm.full (hlong rfl)) rfl (by simp [sizeN, size_at])
  | cons m z =>
    by_cases hs : shortN n (kidsOf m) = true
    · have e : settleR a c.key n (m :: z) = a ++ (placedN (n ++ kidsOf m) c.key ++ z) := if_pos hs
      have hmf := full_at (hf m (by simp))
      have ho2 : OrdN hi ((a ++ [c]) ++ m :: z) := by simpa using ho
      obtain ⟨hb2, hs2, hk2⟩ := ord_at ho2
      have hcm : klt c.key m.key := (ord_at ho).1 _ rfl
      have hcb : Below? c.key (topK hi z) := fun x hx => klt_trans hcm (hb2 x hx)
      have hmp : 0 < (kidsOf m).length := Nat.lt_of_lt_of_le (min_pos h) hmf.2.1
      rw [e]
      refine settled_of (r0 := [c, m]) _ (by simp) ho hf rfl (placed_spec ⟨join_starts hm.starts hs2 (klt_asymm hcm) hn, join_ord hm.ord hs2 hk2 hb2 (.inr hmp), ?_, ?_⟩ hc.1 hcb fun _ => minN_len hn _ hmf.2.1) ?_ (by simp [sizeN, size_at])
      · intro x hx
        rcases List.mem_append.1 hx with hx | hx
        · exact hm.full x hx
        · exact hmf.2.2.2 x hx
      · rw [sizeN_append]; exact short_sum hs hmf.2.2.1
      · rw [flatN_append, flatN_cons, flat_at, List.append_assoc]
    · have e : settleR a c.key n (m :: z) = a ++ (placedN n c.key ++ m :: z) := if_neg hs
      rw [e]
      exact settled_of (r0 := [c]) _ rfl ho hf rfl (placed_spec hm hc.1 (ord_at ho).1 fun _ => min_of_size hm.full (short_not (by simpa using hs))) rfl (by simp [sizeN, size_at])

/-- A branch of two or more, with another node in one's stead: in order, full below, with what that one has in the elder one's stead. -/
theorem settle_spec {h : Nat} {hi : Option ByteArray} {a z : List (En (h + 1))} {c : En (h + 1)} {n : List (En h)} (ho : OrdN hi (a ++ c :: z)) (hf : ∀ e ∈ a ++ c :: z, FullE e) (htwo : 2 ≤ (a ++ c :: z).length) (hm : Made c.key (topK hi z) n) (hn : h = 0 ∨ 1 ≤ n.length) :
    Settled hi (a ++ c :: z) a z n (settleN a c.key n z) := by
  rcases List.eq_nil_or_concat a with rfl | ⟨a', j, rfl⟩
  · refine settleR_spec ho hf hm hn fun hz => ?_
    subst hz
    simp at htwo
  · rw [List.concat_eq_append] at *
    have e0 : (a' ++ [j]).getLast? = some j := by simp
    by_cases hs : shortN n (kidsOf j) = true
    · have e : settleN (a' ++ [j]) c.key n z = a' ++ (placedN (kidsOf j ++ n) j.key ++ z) := by
        unfold settleN
        rw [e0]
        simp only [hs, if_true, List.dropLast_concat]
      have hjf := full_at (hf j (by simp))
      have ho2 : OrdN hi (a' ++ j :: (c :: z)) := by simpa using ho
      obtain ⟨hb2, hs2, hk2⟩ := ord_at ho2
      have hjc : klt j.key c.key := hb2 _ rfl
      have hcz := (ord_at ho).1
      have hjp : 0 < (kidsOf j).length := Nat.lt_of_lt_of_le (min_pos h) hjf.2.1
      rw [e]
      refine settled_of (r0 := [j, c]) _ (by simp) ho hf rfl (placed_spec ⟨join_starts hs2 hm.starts (klt_asymm hjc) (.inr hjp), join_ord hk2 hm.starts hm.ord hcz hn, ?_, ?_⟩ hjf.1 (fun x hx => klt_trans hjc (hcz x hx)) fun _ => ?_) ?_ (by simp [sizeN, size_at])
      · intro x hx
        rcases List.mem_append.1 hx with hx | hx
        · exact hjf.2.2.2 x hx
        · exact hm.full x hx
      · rw [sizeN_append, Nat.add_comm]; exact short_sum hs hjf.2.2.1
      · have := hjf.2.1
        rw [List.length_append]; omega
      · rw [flatN_append, flatN_append, flatN_cons, flat_at]
        simp [flatN]
    · have e : settleN (a' ++ [j]) c.key n z = settleR (a' ++ [j]) c.key n z := by
        unfold settleN
        rw [e0]
        simp only [hs]
        rfl
      rw [e]
      exact settleR_spec ho hf hm hn fun _ => short_not (by simpa using hs)
end Go.Proofs.YthgpjkcgccdldaaGreatDoor

namespace Go.Proofs.YthgpjkcgccdldaaGreatDoor
open Go.Lib

abbrev Kv := ByteArray × ByteArray
/-- A plain map by keys: put, deleted, asked. -/
def putK (l : List Kv) (k v : ByteArray) : List Kv := l.filter (fun x => decide (klt x.1 k)) ++ (k, v) :: l.filter (fun x => decide (klt k x.1))
def delK (l : List Kv) (k : ByteArray) : List Kv := l.filter (fun x => decide (x.1 ≠ k))
def getK (l : List Kv) (k : ByteArray) : Option ByteArray := (l.find? fun x => decide (x.1 = k)).map Prod.snd

theorem klt_ne {a b : ByteArray} (h : klt a b) : a ≠ b := fun e => klt_irrefl b (by rw [e] at h; exact h)

theorem filter_all {α : Type} {l : List α} {p : α → Bool} (h : ∀ x ∈ l, p x = true) : l.filter p = l := List.filter_eq_self.2 h
theorem filter_none {α : Type} {l : List α} {p : α → Bool} (h : ∀ x ∈ l, p x = false) : l.filter p = [] := List.filter_eq_nil_iff.2 fun x hx => by rw [h x hx]; simp

theorem putK_mid {A m Z : List Kv} {k v : ByteArray} (hA : ∀ x ∈ A, klt x.1 k) (hZ : ∀ x ∈ Z, klt k x.1) : putK (A ++ (m ++ Z)) k v = A ++ (putK m k v ++ Z) := by
  unfold putK
  rw [List.filter_append, List.filter_append, List.filter_append, List.filter_append, filter_all (l := A) fun x hx => decide_eq_true (hA x hx), filter_none (l := Z) (p := fun x => decide (klt x.1 k)) fun x hx => decide_eq_false (klt_asymm (hZ x hx)),
    filter_none (l := A) (p := fun x => decide (klt k x.1)) fun x hx => decide_eq_false (klt_asymm (hA x hx)), filter_all (l := Z) fun x hx => decide_eq_true (hZ x hx)]
  simp
theorem getK_mid {A m Z : List Kv} {k : ByteArray} (hA : ∀ x ∈ A, klt x.1 k) (hZ : ∀ x ∈ Z, klt k x.1) : getK (A ++ (m ++ Z)) k = getK m k := by
  unfold getK
  have h1 : A.find? (fun x => decide (x.1 = k)) = none := List.find?_eq_none.2 fun x hx => by simpa using klt_ne (hA x hx)
  have h2 : Z.find? (fun x => decide (x.1 = k)) = none := List.find?_eq_none.2 fun x hx => by simpa using (klt_ne (hZ x hx)).symm
  rw [List.find?_append, List.find?_append, h1, h2]
  simp

/-- A leaf's order is that of its keys. -/
theorem ord_zero {hi : Option ByteArray} {l : List (En 0)} : OrdN hi l ↔ (l.map En.key).Pairwise klt ∧ ∀ x ∈ l, Below? x.key hi := by
  induction l with
  | nil => simp [Ord]
  | cons e l ih =>
    constructor
    · intro ho
      obtain ⟨h1, h2⟩ := ih.1 ho.2.2
      obtain ⟨h3, h4⟩ := Ord.first ho
      refine ⟨List.pairwise_cons.2 ⟨fun y hy => ?_, h1⟩, fun x hx => ?_⟩
      · obtain ⟨x, hx, rfl⟩ := List.mem_map.1 hy
        exact h4 x hx
      · rcases List.mem_cons.1 hx with rfl | hx
        · exact h3
        · exact h2 x hx
    · rintro ⟨h1, h2⟩
      obtain ⟨h3, h4⟩ := List.pairwise_cons.1 h1
      refine ⟨?_, trivial, ih.2 ⟨h4, fun x hx => h2 x (by simp [hx])⟩⟩
      cases l with
      | nil => exact h2 e (by simp)
      | cons d l => intro x hx; injection hx with hx; subst hx; exact h3 _ (by simp)

theorem starts_zero {lo : ByteArray} {l : List (En 0)} (h : ∀ x ∈ l, ¬ klt x.key lo) : Starts lo l := fun e he => h e (List.mem_of_mem_head? (by simpa using he))
theorem zero_starts {lo : ByteArray} {hi : Option ByteArray} {l : List (En 0)} (h : Starts lo l) (ho : OrdN hi l) : ∀ x ∈ l, ¬ klt x.key lo := by
  cases l with
  | nil => intro x hx; simp at hx
  | cons e l =>
    intro x hx
    rcases List.mem_cons.1 hx with rfl | hx
    · exact h _ rfl
    · exact kle_trans (h e rfl) (klt_asymm ((Ord.first ho).2 x hx))

def sizeK (l : List Kv) : Nat := (l.map fun x => 2 + x.1.size + x.2.size).sum
theorem sizeK_two (l : List Kv) (p q : Kv → Bool) (h : ∀ x, p x = true → q x = false) : sizeK (l.filter p) + sizeK (l.filter q) ≤ sizeK l := by
  induction l with
  | nil => exact Nat.le_refl _
  | cons e l ih =>
    rw [List.filter_cons, List.filter_cons]
    unfold sizeK at ih ⊢
    cases hp : p e
    · cases hq : q e
      · simp only [List.map_cons, List.sum_cons]; simp; omega
      · simp only [List.map_cons, List.sum_cons]; simp; omega
    · rw [h e hp]
      simp; omega

/-- A leaf with a key put, or deleted. -/
theorem made_put {lo : ByteArray} {hi : Option ByteArray} {l : List (En 0)} {k v : ByteArray} (hs : Starts lo l) (ho : OrdN hi l) (hf : ∀ e ∈ l, FullE e) (hz : sizeN l ≤ 495) (hk : 0 < k.size ∧ k.size ≤ 48) (hv : v.size ≤ 120) (hlo : ¬ klt k lo) (hhi : Below? k hi) : Made (h := 0) lo hi (putK l k v) := by
  have h0 := zero_starts hs ho
  obtain ⟨h1, h2⟩ := ord_zero.1 ho
  have hmem : ∀ x : Kv, x ∈ putK l k v → x ∈ l ∨ x = (k, v) := by
    intro x hx
    rcases List.mem_append.1 hx with hx | hx
    · exact .inl (List.mem_filter.1 hx).1
    · rcases List.mem_cons.1 hx with rfl | hx
      · exact .inr rfl
      · exact .inl (List.mem_filter.1 hx).1
  refine ⟨starts_zero fun x hx => ?_, ord_zero.2 ⟨?_, fun x hx => ?_⟩, fun x hx => ?_, ?_⟩
  · rcases hmem x hx with hx | rfl
    · exact h0 x hx
    · exact hlo
  · have h3 : (l : List Kv).Pairwise fun a b => klt a.1 b.1 := List.pairwise_map.1 h1
    refine List.pairwise_map.2 ?_
    show (putK l k v).Pairwise fun a b => klt a.1 b.1
    refine List.pairwise_append.2 ⟨h3.filter _, List.pairwise_cons.2 ⟨fun x hx => of_decide_eq_true (List.mem_filter.1 hx).2, h3.filter _⟩, fun x hx y hy => ?_⟩
    have hxk : klt x.1 k := of_decide_eq_true (List.mem_filter.1 hx).2
    rcases List.mem_cons.1 hy with rfl | hy
    · exact hxk
    · exact klt_trans hxk (of_decide_eq_true (List.mem_filter.1 hy).2)
  · rcases hmem x hx with hx | rfl
    · exact h2 x hx
    · exact hhi
  · rcases hmem x hx with hx | rfl
    · exact hf x hx
    · exact ⟨hk.1, hk.2, hv⟩
  · change sizeK l ≤ 495 at hz
    show sizeK (putK l k v) ≤ 665
    have h4 := sizeK_two l (fun x => decide (klt x.1 k)) (fun x => decide (klt k x.1)) fun x hx => decide_eq_false (klt_asymm (of_decide_eq_true hx))
    have h5 : sizeK (putK l k v) = sizeK (l.filter fun x => decide (klt x.1 k)) + (2 + k.size + v.size + sizeK (l.filter fun x => decide (klt k x.1))) := by
      unfold putK sizeK
      rw [List.map_append, List.sum_append, List.map_cons, List.sum_cons]
    rw [h5]
    omega

/-- A branch in order, as full as it must be. -/
structure Branch {h : Nat} (lo : ByteArray) (hi : Option ByteArray) (b : List (En (h + 1))) : Prop where
  starts : Starts lo b
  ord : OrdN hi b
  full : ∀ e ∈ b, FullE e
  size : sizeN b ≤ 495
  two : 2 ≤ b.length

/-- The place of a key in a branch. -/
structure Spot {h : Nat} (hi : Option ByteArray) (b a : List (En (h + 1))) (c : En (h + 1)) (z : List (En (h + 1))) (k : ByteArray) : Prop where
  eq : b = a ++ c :: z
  le : ¬ klt k c.key
  lt : Below? k (topK hi z)

theorem row_below {h : Nat} {x : ByteArray} {a : List (En (h + 1))} (ho : OrdN (some x) a) : ∀ y ∈ flatN a, klt y.1 x := by
  cases a with
  | nil => intro y hy; simp [flatN] at hy
  | cons d a => intro y hy; exact ((within_row (fun hi e => within_entry hi e) ho).1 y hy).2 x rfl
theorem row_above {h : Nat} {hi : Option ByteArray} {k : ByteArray} {z : List (En (h + 1))} (ho : OrdN hi z) (hk : Below? k (topK hi z)) : ∀ y ∈ flatN z, klt k y.1 := by
  cases z with
  | nil => intro y hy; simp [flatN] at hy
  | cons d z => intro y hy; exact klt_of_klt_of_le (hk _ rfl) ((within_row (fun hi e => within_entry hi e) ho).1 y hy).1

/-- All keys of the nodes ahead are less, all of those behind are greater. -/
theorem Spot.sides {h : Nat} {hi : Option ByteArray} {b a z : List (En (h + 1))} {c : En (h + 1)} {k : ByteArray} (hs : Spot hi b a c z k) (ho : OrdN hi b) : flatN b = flatN a ++ (flatN (kidsOf c) ++ flatN z) ∧ (∀ x ∈ flatN a, klt x.1 k) ∧ ∀ x ∈ flatN z, klt k x.1 := by
  have hb := hs.eq
  subst hb
  obtain ⟨h1, h2⟩ := Ord.append.1 ho
  refine ⟨by rw [flatN_append, flatN_cons, flat_at], fun x hx => klt_of_klt_of_le (row_below h1 x hx) hs.le, row_above h2.2.2 hs.lt⟩

/-- A branch, when the node of a key was made anew. -/
theorem made_branch {h : Nat} {lo : ByteArray} {hi : Option ByteArray} {b a z : List (En (h + 1))} {c : En (h + 1)} {k : ByteArray} {n : List (En h)} (hb : Branch lo hi b) (hs : Spot hi b a c z k) (hm : Made c.key (topK hi z) n) (hn : h = 0 ∨ 1 ≤ n.length) :
    Made lo hi (settleN a c.key n z) ∧ 1 ≤ (settleN a c.key n z).length ∧ flatN (settleN a c.key n z) = flatN a ++ (flatN n ++ flatN z) := by
  have e := hs.eq
  have ho := hb.ord
  have hf := hb.full
  have h2 := hb.two
  rw [e] at ho hf h2
  have hS := settle_spec ho hf h2 hm hn
  rw [← e] at hS
  refine ⟨⟨?_, hS.ord, hS.full, by have := hS.size; have := hb.size; omega⟩, hS.some, hS.flat⟩
  have h3 := hS.first
  rw [topK_starts hb.starts (by have := hb.two; omega) hi] at h3
  generalize settleN a c.key n z = r at h3
  intro x hx
  cases r with
  | nil => simp at hx
  | cons y r =>
    injection hx with hx
    subst hx
    injection h3

/-- How many keys a tree of so many levels has at least. -/
theorem keys_ge : ∀ {h : Nat} (e : En (h + 1)), FullE e → 2 ^ h ≤ (flatN (kidsOf e)).length
  | 0, e, hf => by
    rw [flatN_zero]
    exact (full_at hf).2.1
  | h + 1, e, hf => by
    obtain ⟨_, h2, _, h4⟩ := full_at hf
    have : ∀ l : List (En (h + 1)), (∀ k ∈ l, FullE k) → l.length * 2 ^ h ≤ (flatN l).length := by
      intro l hl
      induction l with
      | nil => simp
      | cons x l ih =>
        have h5 := keys_ge x (hl x (by simp))
        have h6 := ih fun y hy => hl y (by simp [hy])
        rw [flatN_cons, List.length_append, List.length_cons, Nat.add_mul, flat_at]
        omega
    have h7 := this _ h4
    have h8 : 2 * 2 ^ h ≤ (kidsOf e).length * 2 ^ h := Nat.mul_le_mul_right _ h2
    rw [Nat.pow_succ]
    omega
end Go.Proofs.YthgpjkcgccdldaaGreatDoor

namespace Go.Proofs.YthgpjkcgccdldaaGreatDoor
open Go.Lib

/-- A root: nothing, or a node's place with its level (one less). -/
abbrev Root? := Option ((h : Nat) × En (h + 1))
def tops {h : Nat} (r : List (En (h + 1))) : Root? :=
  match r with
  | [e] => some ⟨h, e⟩
  | r => some ⟨h + 1, mkE ByteArray.empty 0 r⟩
/-- What rootOf answers. -/
def rootN : {h : Nat} → List (En h) → Root?
  | 0, [] => none
  | 0, n => tops (placedN n ByteArray.empty)
  | h + 1, [e] => some ⟨h, e⟩
  | _ + 1, n => tops (placedN n ByteArray.empty)

/-- A tree that may be. -/
def RootOk (r : Root?) : Prop := ∀ h e, r = some ⟨h, e⟩ → e.key = ByteArray.empty ∧ OrdE none e ∧ FullE e
def flatR (r : Root?) : List Kv :=
  match r with
  | none => []
  | some ⟨_, e⟩ => flatN (kidsOf e)
def heightR (r : Root?) : Nat :=
  match r with
  | none => 0
  | some ⟨h, _⟩ => h + 1
def pagesR (r : Root?) : List Nat :=
  match r with
  | none => []
  | some ⟨_, e⟩ => e.pages

theorem empty_size : ByteArray.empty.size = 0 := rfl
theorem below_none (k : ByteArray) : Below? k none := fun _x hx => nomatch hx

theorem tops_ok {h : Nat} {n : List (En h)} {r : List (En (h + 1))} (hP : Placed ByteArray.empty none n r) : RootOk (tops r) ∧ flatR (tops r) = flatN n ∧ (heightR (tops r) = h + 1 ∨ heightR (tops r) = h + 2) := by
  obtain ⟨h1, h2⟩ := hP.some
  have hfl := hP.flat
  rcases r with _ | ⟨e, _ | ⟨d, r⟩⟩
  · simp at h1
  · refine ⟨fun h' e' he => ?_, ?_, .inl rfl⟩
    · cases he
      have h3 := hP.first none
      injection h3 with h3
      exact ⟨h3, hP.ord.2.1, hP.full e (by simp)⟩
    · rw [← hfl, flatN_cons, flat_at]
      simp [tops, flatR, flatN]
  · refine ⟨fun h' e' he => ?_, ?_, .inr rfl⟩
    · cases he
      refine ⟨rfl, ⟨fun x hx => ?_, hP.ord⟩, by show ByteArray.empty.size ≤ 48; rw [empty_size]; omega, ?_, ?_, hP.full⟩
      · injection hx with hx
        subst hx
        have h3 := hP.first none
        injection h3
      · show 2 ≤ (e :: d :: r).length
        simp
      · have := hP.size
        show sizeN (e :: d :: r) ≤ 495
        rw [empty_size] at this
        omega
    · exact hfl

/-- The root of what an edit made. -/
theorem rootN_ok {h : Nat} {n : List (En h)} (hm : Made ByteArray.empty none n) (hn : h = 0 ∨ 1 ≤ n.length) : RootOk (rootN n) ∧ flatR (rootN n) = flatN n := by
  have he : ByteArray.empty.size ≤ 48 := by rw [empty_size]; omega
  cases h with
  | zero =>
    cases n with
    | nil =>
      refine ⟨fun _ _ h => ?_, rfl⟩
      cases h
    | cons e n =>
      have := tops_ok (placed_spec hm he (below_none _) fun _ => (by simp [minN]))
      exact ⟨this.1, this.2.1⟩
  | succ h =>
    rcases n with _ | ⟨e, _ | ⟨d, n⟩⟩
    · simp at hn
    · refine ⟨fun h' e' hx => ?_, ?_⟩
      · cases hx
        exact ⟨hm.starts e rfl, hm.ord.2.1, hm.full e (by simp)⟩
      · rw [flatN_cons, flat_at]
        simp [rootN, flatR, flatN]
    · have := tops_ok (placed_spec hm he (below_none _) fun _ => (by simp [minN]))
      exact ⟨this.1, this.2.1⟩

/-- A tree's keys rise. -/
theorem RootOk.rises {r : Root?} (h : RootOk r) : ((flatR r).map Prod.fst).Pairwise klt := by
  rcases r with _ | ⟨h', e⟩
  · exact List.Pairwise.nil
  · obtain ⟨h1, h2, _⟩ := h _ _ rfl
    exact (within_node (lo := e.key) h2.1 h2.2).2
/-- It is as low as it must be. -/
theorem RootOk.low {r : Root?} (h : RootOk r) : heightR r = 0 ∧ flatR r = [] ∨ 1 ≤ heightR r ∧ 2 ^ (heightR r - 1) ≤ (flatR r).length := by
  rcases r with _ | ⟨h', e⟩
  · exact .inl ⟨rfl, rfl⟩
  · exact .inr ⟨Nat.le_add_left 1 h', keys_ge e (h _ _ rfl).2.2⟩

end Go.Proofs.YthgpjkcgccdldaaGreatDoor

namespace Go.Proofs.YthgpjkcgccdldaaGreatDoor
open Go.Lib

/-- A node by blocks: a leaf's pairs, or a branch's lows with the blocks of their places. -/
abbrev Nd := List Kv ⊕ List (ByteArray × Nat)
/-- A place: its page (0: none yet), its level, its node, if it has been read. -/
structure Pl where
  pg : Nat
  lvl : Nat
  nd : Option Nd
/-- What stands at each block that is a place's. -/
abbrev Gh := Nat → Option Pl
/-- What each page of the disk holds. -/
abbrev Dk := Nat → Option (Sigma fun h => List (En h))

/-- On the disk, with all that is below it. -/
def OnDisk (D : Dk) : (h : Nat) → Nat → List (En h) → Prop
  | 0, pg, l => pg ≠ 0 ∧ D pg = some ⟨0, l⟩
  | h + 1, pg, l => pg ≠ 0 ∧ D pg = some ⟨h + 1, l⟩ ∧ ∀ e ∈ l, OnDisk D h (pageOf e) (kidsOf e)
theorem OnDisk.ne {D : Dk} : {h pg : Nat} → {l : List (En h)} → OnDisk D h pg l → pg ≠ 0
  | 0, _, _, h => h.1
  | _ + 1, _, _, h => h.1
theorem OnDisk.at {D : Dk} : {h pg : Nat} → {l : List (En h)} → OnDisk D h pg l → D pg = some ⟨h, l⟩
  | 0, _, _, h => h.2
  | _ + 1, _, _, h => h.2.1
theorem OnDisk.below {D : Dk} {h pg : Nat} {l : List (En (h + 1))} (hd : OnDisk D (h + 1) pg l) : ∀ e ∈ l, OnDisk D h (pageOf e) (kidsOf e) := hd.2.2
theorem OnDisk.unique {D : Dk} {h pg : Nat} {l l' : List (En h)} (a : OnDisk D h pg l) (b : OnDisk D h pg l') : l = l' := by
  have e := a.at.symm.trans b.at
  injection e with e
  injection e with _ e
/-- All pages on the way. -/
def pagesAt {h : Nat} (pg : Nat) (l : List (En h)) : List Nat := pg :: pagesN l
theorem pagesN_succ {h : Nat} (l : List (En (h + 1))) : pagesN l = l.flatMap fun e => pagesAt (pageOf e) (kidsOf e) := rfl
theorem OnDisk.keep {D D' : Dk} : {h pg : Nat} → {l : List (En h)} → OnDisk D h pg l → (∀ n ∈ pagesAt pg l, D' n = D n) → OnDisk D' h pg l
  | 0, pg, l, hd, he => ⟨hd.1, (he pg (List.mem_cons_self ..)).trans hd.2⟩
  | h + 1, pg, l, hd, he => ⟨hd.1, (he pg (List.mem_cons_self ..)).trans hd.2.1, fun e hm => (hd.2.2 e hm).keep fun n hn => he n (by
      refine List.mem_cons_of_mem _ ?_
      rw [pagesN_succ]
      exact List.mem_flatMap.2 ⟨e, hm, hn⟩)⟩
theorem OnDisk.pos {D : Dk} : {h pg : Nat} → {l : List (En h)} → OnDisk D h pg l → ∀ n ∈ pagesAt pg l, n ≠ 0
  | 0, pg, l, hd, n, hn => by
    rcases List.mem_cons.1 hn with rfl | hn
    · exact hd.1
    · obtain ⟨e, _, he⟩ := List.mem_flatMap.1 hn
      exact absurd he (by simp [En.pages])
  | h + 1, pg, l, hd, n, hn => by
    rcases List.mem_cons.1 hn with rfl | hn
    · exact hd.1
    · rw [pagesN_succ] at hn
      obtain ⟨e, hm, he⟩ := List.mem_flatMap.1 hn
      exact (hd.2.2 e hm).pos n he

/-- Two rows beside one another. -/
def Both {α β : Type} (R : α → β → Prop) : List α → List β → Prop
  | [], [] => True
  | a :: l, b :: m => R a b ∧ Both R l m
  | _, _ => False
theorem Both.mono {α β : Type} {R S : α → β → Prop} : {l : List α} → {m : List β} → (∀ a ∈ l, ∀ b ∈ m, R a b → S a b) → Both R l m → Both S l m
  | [], [], _, _ => trivial
  | a :: _, b :: _, h, hb => ⟨h a (List.mem_cons_self ..) b (List.mem_cons_self ..) hb.1, hb.2.mono fun x hx y hy => h x (List.mem_cons_of_mem _ hx) y (List.mem_cons_of_mem _ hy)⟩
  | [], _ :: _, _, hb => hb
  | _ :: _, [], _, hb => hb
theorem Both.length {α β : Type} {R : α → β → Prop} : {l : List α} → {m : List β} → Both R l m → l.length = m.length
  | [], [], _ => rfl
  | _ :: l, _ :: m, h => by rw [List.length_cons, List.length_cons, h.2.length]
  | [], _ :: _, h => h.elim
  | _ :: _, [], h => h.elim
theorem Both.append {α β : Type} {R : α → β → Prop} : {l l' : List α} → {m m' : List β} → Both R l m → Both R l' m' → Both R (l ++ l') (m ++ m')
  | [], _, [], _, _, h => h
  | _ :: _, _, _ :: _, _, h, h' => ⟨h.1, h.2.append h'⟩
  | [], _, _ :: _, _, h, _ => h.elim
  | _ :: _, _, [], _, h, _ => h.elim
theorem Both.take {α β : Type} {R : α → β → Prop} : {l : List α} → {m : List β} → (n : Nat) → Both R l m → Both R (l.take n) (m.take n)
  | _, _, 0, _ => by simp [Both]
  | [], [], _ + 1, _ => trivial
  | _ :: _, _ :: _, n + 1, h => ⟨h.1, h.2.take n⟩
  | [], _ :: _, _ + 1, h => h.elim
  | _ :: _, [], _ + 1, h => h.elim
theorem Both.drop {α β : Type} {R : α → β → Prop} : {l : List α} → {m : List β} → (n : Nat) → Both R l m → Both R (l.drop n) (m.drop n)
  | _, _, 0, h => h
  | [], [], _ + 1, _ => trivial
  | _ :: _, _ :: _, n + 1, h => h.2.drop n
  | [], _ :: _, _ + 1, h => h.elim
  | _ :: _, [], _ + 1, h => h.elim
theorem Both.get {α β : Type} {R : α → β → Prop} : {l : List α} → {m : List β} → Both R l m → ∀ i (h : i < l.length) (h' : i < m.length), R l[i] m[i]
  | _ :: _, _ :: _, h, 0, _, _ => h.1
  | _ :: _, _ :: _, h, i + 1, hi, hi' => h.2.get i (by simpa using hi) (by simpa using hi')
  | [], _, _, i, hi, _ => absurd hi (by simp)
  | _ :: _, [], h, _, _, _ => h.elim
theorem Both.of_get {α β : Type} {R : α → β → Prop} : {l : List α} → {m : List β} → l.length = m.length → (∀ i (h : i < l.length) (h' : i < m.length), R l[i] m[i]) → Both R l m
  | [], [], _, _ => trivial
  | _ :: l, _ :: m, e, h => ⟨h 0 (by simp) (by simp), Both.of_get (by simpa using e) fun i hi hi' => h (i + 1) (by simpa using hi) (by simpa using hi')⟩
  | [], _ :: _, e, _ => by simp at e
  | _ :: _, [], e, _ => by simp at e
theorem Both.left {α β : Type} {R : α → β → Prop} : {l : List α} → {m : List β} → Both R l m → ∀ a ∈ l, ∃ b ∈ m, R a b
  | _ :: _, y :: _, h, a, ha => by
    rcases List.mem_cons.1 ha with rfl | ha
    · exact ⟨y, List.mem_cons_self .., h.1⟩
    · obtain ⟨b, hb, hr⟩ := h.2.left a ha
      exact ⟨b, List.mem_cons_of_mem _ hb, hr⟩
  | [], _, _, a, ha => absurd ha (by simp)
  | _ :: _, [], h, _, _ => h.elim

/-- A kid of a branch comes to an entry. -/
def KidIs {h : Nat} (G : Gh) (M : Nat → List (En h) → Prop) (k : ByteArray × Nat) (e : En (h + 1)) : Prop := k.1 = e.key ∧ (∃ P, G k.2 = some P ∧ P.pg = pageOf e) ∧ M k.2 (kidsOf e)
/-- A place comes to entries. -/
def Means (G : Gh) (D : Dk) : (h : Nat) → Nat → List (En h) → Prop
  | 0, a, l => ∃ P, G a = some P ∧ P.lvl = 1 ∧ (P.pg ≠ 0 → OnDisk D 0 P.pg l) ∧ (P.nd = none → P.pg ≠ 0) ∧ ∀ nd, P.nd = some nd → nd = .inl l
  | h + 1, a, l => ∃ P, G a = some P ∧ P.lvl = h + 2 ∧ (P.pg ≠ 0 → OnDisk D (h + 1) P.pg l) ∧ (P.nd = none → P.pg ≠ 0) ∧ ∀ nd, P.nd = some nd → ∃ ks, nd = .inr ks ∧ Both (KidIs G (Means G D h)) ks l
/-- What a node comes to. -/
def NodeIs (G : Gh) (D : Dk) : (h : Nat) → Nd → List (En h) → Prop
  | 0, nd, l => nd = .inl l
  | h + 1, nd, l => ∃ ks, nd = .inr ks ∧ Both (KidIs G (Means G D h)) ks l
theorem Means.out {G : Gh} {D : Dk} : {h a : Nat} → {l : List (En h)} → Means G D h a l → ∃ P, G a = some P ∧ P.lvl = h + 1 ∧ (P.pg ≠ 0 → OnDisk D h P.pg l) ∧ (P.nd = none → P.pg ≠ 0) ∧ ∀ nd, P.nd = some nd → NodeIs G D h nd l
  | 0, _, _, h => h
  | _ + 1, _, _, h => h
theorem Means.of {G : Gh} {D : Dk} : {h a : Nat} → {l : List (En h)} → (P : Pl) → G a = some P → P.lvl = h + 1 → (P.pg ≠ 0 → OnDisk D h P.pg l) → (P.nd = none → P.pg ≠ 0) → (∀ nd, P.nd = some nd → NodeIs G D h nd l) → Means G D h a l
  | 0, _, _, P, h1, h2, h3, h4, h5 => ⟨P, h1, h2, h3, h4, h5⟩
  | _ + 1, _, _, P, h1, h2, h3, h4, h5 => ⟨P, h1, h2, h3, h4, h5⟩

/-- More is known: places that were not read have been, new ones have come. -/
structure Grown (D : Dk) (G G' : Gh) : Prop where
  at_ : ∀ a P, G a = some P → ∃ P', G' a = some P' ∧ P'.pg = P.pg ∧ P'.lvl = P.lvl ∧ (∀ nd, P.nd = some nd → P'.nd = some nd) ∧ ∀ h (l : List (En h)) nd, P.nd = none → P.lvl = h + 1 → OnDisk D h P.pg l → P'.nd = some nd → NodeIs G' D h nd l
theorem Means.grown {D : Dk} {G G' : Gh} (hg : Grown D G G') : {h a : Nat} → {l : List (En h)} → Means G D h a l → Means G' D h a l := by
  intro h
  induction h with
  | zero =>
    intro a l hm
    obtain ⟨P, h1, h2, h3, h4, h5⟩ := hm.out
    obtain ⟨P', g1, g2, g3, g4, g5⟩ := hg.at_ a P h1
    refine Means.of P' g1 (g3.trans h2) (by rw [g2]; exact h3) (fun e => ?_) (fun nd e => ?_)
    · rw [g2]
      cases hn : P.nd with
      | none => exact h4 hn
      | some nd => rw [g4 nd hn] at e; cases e
    · cases hn : P.nd with
      | none => exact g5 0 l nd hn h2 (h3 (h4 hn)) e
      | some nd' =>
        obtain rfl : nd' = nd := by rw [g4 nd' hn] at e; exact Option.some.inj e
        exact h5 _ hn
  | succ h ih =>
    intro a l hm
    obtain ⟨P, h1, h2, h3, h4, h5⟩ := hm.out
    obtain ⟨P', g1, g2, g3, g4, g5⟩ := hg.at_ a P h1
    refine Means.of P' g1 (g3.trans h2) (by rw [g2]; exact h3) (fun e => ?_) (fun nd e => ?_)
    · rw [g2]
      cases hn : P.nd with
      | none => exact h4 hn
      | some nd => rw [g4 nd hn] at e; cases e
    · cases hn : P.nd with
      | none => exact g5 (h + 1) l nd hn h2 (h3 (h4 hn)) e
      | some nd' =>
        obtain rfl : nd' = nd := by rw [g4 nd' hn] at e; exact Option.some.inj e
        obtain ⟨ks, rfl, hb⟩ := h5 _ hn
        refine ⟨ks, rfl, hb.mono fun k _ x _ hk => ?_⟩
        obtain ⟨k1, ⟨Q, k2, k3⟩, k4⟩ := hk
        obtain ⟨Q', q1, q2, _⟩ := hg.at_ k.2 Q k2
        exact ⟨k1, ⟨Q', q1, q2.trans k3⟩, ih k4⟩
theorem NodeIs.grown {D : Dk} {G G' : Gh} (hg : Grown D G G') : {h : Nat} → {nd : Nd} → {l : List (En h)} → NodeIs G D h nd l → NodeIs G' D h nd l
  | 0, _, _, hn => hn
  | h + 1, nd, l, hn => by
    obtain ⟨ks, rfl, hb⟩ := hn
    refine ⟨ks, rfl, hb.mono fun k _ x _ hk => ?_⟩
    obtain ⟨k1, ⟨Q, k2, k3⟩, k4⟩ := hk
    obtain ⟨Q', q1, q2, _⟩ := hg.at_ k.2 Q k2
    exact ⟨k1, ⟨Q', q1, q2.trans k3⟩, k4.grown hg⟩
theorem Grown.refl (D : Dk) (G : Gh) : Grown D G G := ⟨fun a P h => ⟨P, h, rfl, rfl, fun _ h => h, fun _ _ _ hn _ _ he => by rw [hn] at he; cases he⟩⟩
theorem Grown.trans {D : Dk} {G G' G'' : Gh} (h : Grown D G G') (k : Grown D G' G'') : Grown D G G'' := ⟨fun a P hP => by
  obtain ⟨P', g1, g2, g3, g4, g5⟩ := h.at_ a P hP
  obtain ⟨P'', k1, k2, k3, k4, k5⟩ := k.at_ a P' g1
  refine ⟨P'', k1, k2.trans g2, k3.trans g3, fun nd hn => k4 nd (g4 nd hn), fun hh l nd hn hl ho he => ?_⟩
  cases hn' : P'.nd with
  | none => exact k5 hh l nd hn' (g3.trans hl) (by rw [g2]; exact ho) he
  | some nd' =>
    obtain rfl : nd' = nd := by rw [k4 nd' hn'] at he; exact Option.some.inj he
    exact (g5 hh l nd' hn hl ho hn').grown k⟩

/-- A new place is made. -/
def Gh.add (G : Gh) (a : Nat) (P : Pl) : Gh := fun x => if x = a then some P else G x
theorem Gh.add_same (G : Gh) (a : Nat) (P : Pl) : G.add a P a = some P := if_pos rfl
theorem Gh.add_other (G : Gh) {a x : Nat} (P : Pl) (h : x ≠ a) : G.add a P x = G x := if_neg h
theorem Grown.add (D : Dk) {G : Gh} {a : Nat} (P : Pl) (h : G a = none) : Grown D G (G.add a P) := ⟨fun x Q hx => ⟨Q, (Gh.add_other G P (fun e => by rw [e, h] at hx; cases hx)).trans hx, rfl, rfl, fun _ h => h, fun _ _ _ hn _ _ he => by rw [hn] at he; cases he⟩⟩

/-- A place that was not read has been: new places for its kids. -/
theorem Grown.read {D : Dk} {G G' : Gh} {a : Nat} {P : Pl} {nd : Nd} {h : Nat} {l : List (En h)} (hP : G a = some P) (hn : P.nd = none) (hl : P.lvl = h + 1) (ho : OnDisk D h P.pg l) (ha : G' a = some { P with nd := some nd }) (hoth : ∀ x, x ≠ a → ∀ Q, G x = some Q → G' x = some Q) (hnd : NodeIs G' D h nd l) : Grown D G G' := ⟨fun x Q hx => by
  by_cases e : x = a
  · subst e
    obtain rfl : P = Q := by rw [hP] at hx; exact Option.some.inj hx
    refine ⟨_, ha, rfl, rfl, (fun nd' h' => by rw [hn] at h'; cases h'), fun h' l' nd' _ hl' ho' he => ?_⟩
    obtain rfl : nd = nd' := Option.some.inj he
    obtain rfl : h' = h := by omega
    rw [OnDisk.unique ho' ho]
    exact hnd
  · exact ⟨Q, hoth x e Q hx, rfl, rfl, fun _ h => h, fun _ _ _ hn _ _ he => by rw [hn] at he; cases he⟩⟩

end Go.Proofs.YthgpjkcgccdldaaGreatDoor

namespace Go.Proofs.YthgpjkcgccdldaaGreatDoor
open Go.Lib

/-- The same but for pages. -/
def LikeE : (h : Nat) → En h → En h → Prop
  | 0, e, e' => e = e'
  | h + 1, e, e' => e.key = e'.key ∧ Both (LikeE h) (kidsOf e) (kidsOf e')
def LikeN {h : Nat} (l l' : List (En h)) : Prop := Both (LikeE h) l l'
theorem Both.refl {α : Type} {R : α → α → Prop} (h : ∀ a, R a a) : (l : List α) → Both R l l
  | [] => trivial
  | a :: l => ⟨h a, Both.refl h l⟩
theorem LikeE.refl : (h : Nat) → (e : En h) → LikeE h e e
  | 0, _ => rfl
  | h + 1, _e => ⟨rfl, Both.refl (LikeE.refl h) _⟩
theorem LikeN.refl {h : Nat} (l : List (En h)) : LikeN l l := Both.refl (LikeE.refl h) l
theorem LikeE.key : {h : Nat} → {e e' : En h} → LikeE h e e' → e.key = e'.key
  | 0, _, _, h => by rw [show _ = _ from h]
  | _ + 1, _, _, h => h.1
theorem LikeE.size : {h : Nat} → {e e' : En h} → LikeE h e e' → e.size = e'.size
  | 0, _, _, h => by rw [show _ = _ from h]
  | _ + 1, e, e', h => by
    have := h.1
    show 5 + e.key.size = 5 + e'.key.size
    rw [this]
theorem both_sum {α : Type} {R : α → α → Prop} {f : α → Nat} (hf : ∀ a b, R a b → f a = f b) : {l l' : List α} → Both R l l' → (l.map f).sum = (l'.map f).sum
  | [], [], _ => rfl
  | a :: l, b :: l', h => by rw [List.map_cons, List.map_cons, List.sum_cons, List.sum_cons, hf a b h.1, both_sum hf h.2]
  | [], _ :: _, h => h.elim
  | _ :: _, [], h => h.elim
theorem both_flat {α β : Type} {R : α → α → Prop} {f : α → List β} (hf : ∀ a b, R a b → f a = f b) : {l l' : List α} → Both R l l' → l.flatMap f = l'.flatMap f
  | [], [], _ => rfl
  | a :: l, b :: l', h => by rw [List.flatMap_cons, List.flatMap_cons, hf a b h.1, both_flat hf h.2]
  | [], _ :: _, h => h.elim
  | _ :: _, [], h => h.elim
theorem LikeN.size {h : Nat} {l l' : List (En h)} (hl : LikeN l l') : sizeN l = sizeN l' := both_sum (fun _ _ h => h.size) hl
theorem LikeE.flat : {h : Nat} → {e e' : En h} → LikeE h e e' → e.flat = e'.flat
  | 0, _, _, h => by rw [show _ = _ from h]
  | h + 1, e, e', hl => both_flat (fun _ _ h => LikeE.flat h) hl.2
theorem LikeN.flat {h : Nat} {l l' : List (En h)} (hl : LikeN l l') : flatN l = flatN l' := both_flat (fun _ _ h => h.flat) hl
theorem LikeN.top {h : Nat} {l l' : List (En h)} (hi : Option ByteArray) (hl : LikeN l l') : topK hi l = topK hi l' := by
  cases l with
  | nil =>
    cases l' with
    | nil => rfl
    | cons _ _ => exact hl.elim
  | cons e l =>
    cases l' with
    | nil => exact hl.elim
    | cons e' l' =>
      show some e.key = some e'.key
      rw [hl.1.key]
theorem LikeN.starts {h : Nat} {lo : ByteArray} {l l' : List (En h)} (hl : LikeN l l') (hs : Starts lo l) : Starts lo l' := by
  cases l with
  | nil =>
    cases l' with
    | nil => exact hs
    | cons _ _ => exact hl.elim
  | cons e l =>
    cases l' with
    | nil => exact hl.elim
    | cons e' l' =>
      have hk := hl.1.key
      cases h with
      | zero =>
        intro x hx
        obtain rfl : e' = x := Option.some.inj hx
        rw [← hk]
        exact hs e rfl
      | succ h =>
        intro x hx
        obtain rfl : e' = x := Option.some.inj hx
        rw [← hk]
        exact hs e rfl
theorem like_ord {h : Nat} {P : Option ByteArray → En h → Prop} (hP : ∀ hi e e', LikeE h e e' → P hi e → P hi e') : {hi : Option ByteArray} → {l l' : List (En h)} → LikeN l l' → Ord P hi l → Ord P hi l'
  | _, [], [], _, ho => ho
  | hi, e :: l, e' :: l', hl, ho => by
    have ht := LikeN.top (l := l) (l' := l') hi hl.2
    refine ⟨?_, ?_, like_ord hP hl.2 ho.2.2⟩
    · rw [← ht, ← hl.1.key]
      exact ho.1
    · rw [← ht]
      exact hP _ _ _ hl.1 ho.2.1
  | _, [], _ :: _, h, _ => h.elim
  | _, _ :: _, [], h, _ => h.elim
theorem LikeE.ord : {h : Nat} → {hi : Option ByteArray} → {e e' : En h} → LikeE h e e' → OrdE hi e → OrdE hi e'
  | 0, _, _, _, _, _ => trivial
  | h + 1, hi, e, e', hl, ho => ⟨by
      have := hl.1
      show Starts e'.key (kidsOf e')
      rw [← this]
      exact LikeN.starts (l := kidsOf e) hl.2 ho.1, like_ord (P := OrdE) (hi := hi) (l := kidsOf e) (l' := kidsOf e') (fun _ _ _ h k => LikeE.ord h k) hl.2 ho.2⟩
theorem LikeN.ord {h : Nat} {hi : Option ByteArray} {l l' : List (En h)} (hl : LikeN l l') (ho : OrdN hi l) : OrdN hi l' := like_ord (P := OrdE) (fun _ _ _ h k => h.ord k) hl ho
theorem both_all {α : Type} {R : α → α → Prop} {P : α → Prop} (hf : ∀ a b, R a b → P a → P b) : {l l' : List α} → Both R l l' → (∀ x ∈ l, P x) → ∀ x ∈ l', P x
  | [], [], _, _, _, hx => absurd hx (by simp)
  | a :: l, b :: l', h, hp, x, hx => by
    rcases List.mem_cons.1 hx with rfl | hx
    · exact hf a _ h.1 (hp a (List.mem_cons_self ..))
    · exact both_all hf h.2 (fun y hy => hp y (List.mem_cons_of_mem _ hy)) x hx
  | [], _ :: _, h, _, _, _ => h.elim
  | _ :: _, [], h, _, _, _ => h.elim
theorem LikeE.full : {h : Nat} → {e e' : En h} → LikeE h e e' → FullE e → FullE e'
  | 0, _, _, h, hf => by rw [← show _ = _ from h]; exact hf
  | h + 1, e, e', hl, hf => by
    obtain ⟨f1, f2, f3, f4⟩ := full_at hf
    have hk := hl.1
    refine ⟨?_, ?_, ?_, ?_⟩
    · show e'.key.size ≤ 48
      rw [← hk]
      exact f1
    · show minN h ≤ (kidsOf e').length
      rw [← hl.2.length]
      exact f2
    · show sizeN (kidsOf e') ≤ 495
      rw [← LikeN.size hl.2]
      exact f3
    · exact both_all (fun _ _ h k => LikeE.full h k) hl.2 f4

/-- At or below a place. -/
def Und (G : Gh) : Nat → Nat → Nat → Prop
  | 0, a, x => x = a
  | h + 1, a, x => x = a ∨ ∃ P ks, G a = some P ∧ P.nd = some (.inr ks) ∧ ∃ k ∈ ks, Und G h k.2 x
theorem Und.self (G : Gh) : (h a : Nat) → Und G h a a
  | 0, _ => rfl
  | _ + 1, _ => .inl rfl
theorem Und.kid {G : Gh} {h a x : Nat} {P : Pl} {ks : List (ByteArray × Nat)} (hP : G a = some P) (hn : P.nd = some (.inr ks)) {k : ByteArray × Nat} (hk : k ∈ ks) (hu : Und G h k.2 x) : Und G (h + 1) a x := .inr ⟨P, ks, hP, hn, k, hk, hu⟩

theorem en_eq {h : Nat} {e e' : En (h + 1)} (h1 : e.key = e'.key) (h2 : pageOf e = pageOf e') (h3 : kidsOf e = kidsOf e') : e = e' := by
  obtain ⟨a, b, c⟩ := e
  obtain ⟨a', b', c'⟩ := e'
  have h1' : a = a' := h1
  have h2' : b = b' := h2
  have h3' : c = c' := h3
  subst h1' h2' h3'
  rfl
theorem kids_unique {h : Nat} {G : Gh} {M : Nat → List (En h) → Prop} (hM : ∀ a l l', M a l → M a l' → l = l') : {ks : List (ByteArray × Nat)} → {l l' : List (En (h + 1))} → Both (KidIs G M) ks l → Both (KidIs G M) ks l' → l = l'
  | [], [], [], _, _ => rfl
  | k :: ks, e :: l, e' :: l', hb, hb' => by
    rw [kids_unique hM hb.2 hb'.2]
    obtain ⟨k1, ⟨P, k2, k3⟩, k4⟩ := hb.1
    obtain ⟨k1', ⟨P', k2', k3'⟩, k4'⟩ := hb'.1
    obtain rfl : P = P' := by rw [k2] at k2'; exact Option.some.inj k2'
    rw [en_eq (k1.symm.trans k1') (k3.symm.trans k3') (hM _ _ _ k4 k4')]
  | [], _ :: _, _, h, _ => h.elim
  | [], _, _ :: _, _, h => h.elim
  | _ :: _, [], _, h, _ => h.elim
  | _ :: _, _, [], _, h => h.elim
/-- A place comes to one row. -/
theorem Means.unique {G : Gh} {D : Dk} : {h a : Nat} → {l l' : List (En h)} → Means G D h a l → Means G D h a l' → l = l' := by
  intro h
  induction h with
  | zero =>
    intro a l l' hm hm'
    obtain ⟨P, h1, h2, h3, h4, h5⟩ := hm.out
    obtain ⟨P', h1', h2', h3', h4', h5'⟩ := hm'.out
    obtain rfl : P = P' := by rw [h1] at h1'; exact Option.some.inj h1'
    cases hn : P.nd with
    | none => exact (h3 (h4 hn)).unique (h3' (h4 hn))
    | some nd =>
      have e1 : nd = .inl l := h5 nd hn
      have e2 : nd = .inl l' := h5' nd hn
      rw [e1] at e2
      injection e2
  | succ h ih =>
    intro a l l' hm hm'
    obtain ⟨P, h1, h2, h3, h4, h5⟩ := hm.out
    obtain ⟨P', h1', h2', h3', h4', h5'⟩ := hm'.out
    obtain rfl : P = P' := by rw [h1] at h1'; exact Option.some.inj h1'
    cases hn : P.nd with
    | none => exact (h3 (h4 hn)).unique (h3' (h4 hn))
    | some nd =>
      obtain ⟨ks, e1, hb⟩ := h5 nd hn
      obtain ⟨ks', e2, hb'⟩ := h5' nd hn
      rw [e1] at e2
      injection e2 with e2
      subst e2
      exact kids_unique (M := Means G D h) (fun _ _ _ h1 h2 => ih h1 h2) hb hb'

theorem OnDisk.more {D D' : Dk} (hD : ∀ n x, D n = some x → D' n = some x) : {h pg : Nat} → {l : List (En h)} → OnDisk D h pg l → OnDisk D' h pg l
  | 0, _, _, hd => ⟨hd.1, hD _ _ hd.2⟩
  | _ + 1, _, _, hd => ⟨hd.1, hD _ _ hd.2.1, fun e he => (hd.2.2 e he).more hD⟩

/-- What stands below has not changed, the disk has more. -/
theorem Means.frame {G G' : Gh} {D D' : Dk} (hD : ∀ n x, D n = some x → D' n = some x) : {h a : Nat} → {l : List (En h)} → Means G D h a l → (∀ x, Und G h a x → G' x = G x) → Means G' D' h a l := by
  intro h
  induction h with
  | zero =>
    intro a l hm hG
    obtain ⟨P, h1, h2, h3, h4, h5⟩ := hm.out
    exact Means.of P ((hG a rfl).trans h1) h2 (fun h => (h3 h).more hD) h4 h5
  | succ h ih =>
    intro a l hm hG
    obtain ⟨P, h1, h2, h3, h4, h5⟩ := hm.out
    refine Means.of P ((hG a (Und.self _ _ _)).trans h1) h2 (fun h => (h3 h).more hD) h4 fun nd hn => ?_
    obtain ⟨ks, rfl, hb⟩ := h5 nd hn
    refine ⟨ks, rfl, hb.mono fun k hk x _ hx => ?_⟩
    obtain ⟨k1, ⟨Q, k2, k3⟩, k4⟩ := hx
    have hu : ∀ y, Und G h k.2 y → G' y = G y := fun y hy => hG y (Und.kid h1 hn hk hy)
    exact ⟨k1, ⟨Q, (hu _ (Und.self _ _ _)).trans k2, k3⟩, ih k4 hu⟩

theorem kid_has {h : Nat} {l : List (En (h + 1))} (hf : ∀ e ∈ l, FullE e) {e : En (h + 1)} (he : e ∈ l) : (∀ k ∈ kidsOf e, FullE k) ∧ 0 < (kidsOf e).length := by
  obtain ⟨_, f2, _, f4⟩ := full_at (hf e he)
  refine ⟨f4, Nat.lt_of_lt_of_le ?_ f2⟩
  cases h <;> simp [minN]
theorem flat_some : ∀ {h : Nat} {l : List (En h)}, (∀ e ∈ l, FullE e) → 0 < l.length → ∃ y, y ∈ flatN l
  | 0, l, _, h0 => ⟨l[0], by rw [flatN_zero]; exact List.getElem_mem h0⟩
  | h + 1, l, hf, h0 => by
    obtain ⟨k1, k2⟩ := kid_has hf (List.getElem_mem h0)
    obtain ⟨y, hy⟩ := flat_some k1 k2
    exact ⟨y, List.mem_flatMap.2 ⟨l[0], List.getElem_mem h0, hy⟩⟩

/-- What is below has a level, and keys of what it is below. -/
theorem Und.at {G : Gh} {D : Dk} : {h a x : Nat} → {l : List (En h)} → Means G D h a l → (∀ e ∈ l, FullE e) → 0 < l.length → Und G h a x → ∃ hx lx, Means G D hx x lx ∧ (∀ y ∈ flatN lx, y ∈ flatN l) ∧ ∃ y, y ∈ flatN lx := by
  intro h
  induction h with
  | zero =>
    intro a x l hm hf h0 hu
    obtain rfl : x = a := hu
    exact ⟨0, l, hm, fun _ h => h, flat_some hf h0⟩
  | succ h ih =>
    intro a x l hm hf h0 hu
    rcases hu with rfl | ⟨P, ks, hP, hn, k, hk, hu⟩
    · exact ⟨h + 1, l, hm, fun _ h => h, flat_some hf h0⟩
    · obtain ⟨P', h1, h2, h3, h4, h5⟩ := hm.out
      obtain rfl : P = P' := by rw [hP] at h1; exact Option.some.inj h1
      obtain ⟨ks', e, hb⟩ := h5 _ hn
      injection e with e
      subst e
      obtain ⟨e, he, hx⟩ := hb.left k hk
      obtain ⟨k1, k2⟩ := kid_has hf he
      obtain ⟨hx', lx, g1, g2, g3⟩ := ih hx.2.2 k1 k2 hu
      exact ⟨hx', lx, g1, fun y hy => List.mem_flatMap.2 ⟨e, he, g2 y hy⟩, g3⟩

/-- Two entries of a row share nothing. -/
theorem kids_apart {G : Gh} {D : Dk} {h : Nat} {ks : List (ByteArray × Nat)} {l : List (En (h + 1))} (hb : Both (KidIs G (Means G D h)) ks l) (hr : ((flatN l).map Prod.fst).Pairwise klt) (hf : ∀ e ∈ l, FullE e) {i j : Nat} (hi : i < ks.length) (hj : j < ks.length) (hij : i < j) {x : Nat} (h1 : Und G h ks[i].2 x) (h2 : Und G h ks[j].2 x) : False := by
  have hlen := hb.length
  have b1 := hb.get i hi (by omega)
  have b2 := hb.get j hj (by omega)
  obtain ⟨f1, f2⟩ := kid_has hf (List.getElem_mem (show i < l.length by omega))
  obtain ⟨g1, g2⟩ := kid_has hf (List.getElem_mem (show j < l.length by omega))
  obtain ⟨hx, lx, m1, m2, y, hy⟩ := Und.at b1.2.2 f1 f2 h1
  obtain ⟨hx', lx', n1, n2, _⟩ := Und.at b2.2.2 g1 g2 h2
  obtain ⟨P, p1, p2, _⟩ := m1.out
  obtain ⟨P', p1', p2', _⟩ := n1.out
  obtain rfl : P = P' := by rw [p1] at p1'; exact Option.some.inj p1'
  obtain rfl : hx = hx' := by omega
  obtain rfl := m1.unique n1
  have hyi : y ∈ flatN (l.take (i + 1)) := List.mem_flatMap.2 ⟨l[i], by rw [List.mem_take_iff_getElem]; exact ⟨i, by omega, rfl⟩, m2 y hy⟩
  have hyj : y ∈ flatN (l.drop (i + 1)) := List.mem_flatMap.2 ⟨l[j], by
    rw [List.mem_drop_iff_getElem]
    exact ⟨j - (i + 1), by omega, by simp [show i + 1 + (j - (i + 1)) = j by omega]⟩, n2 y hy⟩
  rw [show l = l.take (i + 1) ++ l.drop (i + 1) from (List.take_append_drop _ _).symm, flatN_append, List.map_append, List.pairwise_append] at hr
  exact klt_irrefl _ (hr.2.2 y.1 (List.mem_map.2 ⟨y, hyi, rfl⟩) y.1 (List.mem_map.2 ⟨y, hyj, rfl⟩))

/-- Pages were given to places. -/
structure Wrt (G G' : Gh) (U : Nat → Prop) : Prop where
  none_ : ∀ x, G x = none → G' x = none
  some_ : ∀ x P, G x = some P → ∃ n, G' x = some { P with pg := n }
  same : ∀ x, ¬ U x → G' x = G x
theorem Wrt.refl (G : Gh) (U : Nat → Prop) : Wrt G G U := ⟨fun _ h => h, fun _ P h => ⟨P.pg, h⟩, fun _ _ => rfl⟩
theorem Wrt.trans {G G' G'' : Gh} {U V : Nat → Prop} (h : Wrt G G' U) (k : Wrt G' G'' V) (hV : ∀ x, V x → U x) : Wrt G G'' U :=
  ⟨fun x hx => k.none_ x (h.none_ x hx), fun x P hP => by
    obtain ⟨n, h1⟩ := h.some_ x P hP
    obtain ⟨n2, h2⟩ := k.some_ x _ h1
    exact ⟨n2, h2⟩, fun x hx => (k.same x (fun hv => hx (hV x hv))).trans (h.same x hx)⟩
theorem Wrt.wide {G G' : Gh} {U V : Nat → Prop} (h : Wrt G G' U) (hV : ∀ x, U x → V x) : Wrt G G' V := ⟨h.none_, h.some_, fun x hx => h.same x (fun hu => hx (hV x hu))⟩
theorem Wrt.und {G G' : Gh} {U : Nat → Prop} (h : Wrt G G' U) : {k a x : Nat} → Und G' k a x → Und G k a x
  | 0, _, _, hu => hu
  | k + 1, a, x, hu => by
    rcases hu with e | ⟨P, ks, hP, hn, y, hy, hu⟩
    · exact .inl e
    · cases hg : G a with
      | none => rw [h.none_ a hg] at hP; cases hP
      | some Q =>
        obtain ⟨n, h1⟩ := h.some_ a Q hg
        rw [h1] at hP
        obtain rfl := Option.some.inj hP
        exact .inr ⟨Q, ks, hg, hn, y, hy, h.und hu⟩
end Go.Proofs.YthgpjkcgccdldaaGreatDoor

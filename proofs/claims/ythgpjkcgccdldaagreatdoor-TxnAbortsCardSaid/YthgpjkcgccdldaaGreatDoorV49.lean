/-
  A transaction undone, walked: what is committed, out of what there is now and what was noted.
  What is committed, walked, where a transaction is open.
  A view is closed, walked: one view less, and a new sight where it was the last.
  The law's known, walked: a key is put and is seen by the next view, not by the one before.
  What TxnAborts calls, in its words: a transaction's Scan, Look at any time, the law's Put of a row.
  The law of transactions that are aborted, walked.
-/
import Derived.Test.YthgpjkcgccdldaaGreatDoorV48
import Derived.Shelf.SlSortCmp.NoneTotal
import Derived.Maps.RangeWalk
import Derived.Test.YthgpjkcgccdldaaGreatDoorV41
import Derived.Test.YthgpjkcgccdldaaGreatDoorV14
import Derived.Test.YthgpjkcgccdldaaGreatDoorV42

namespace Go.Proofs.YthgpjkcgccdldaaGreatDoor
open Go.RowKit Go.Maps

theorem entry_same {H : Type} {P : Program} {w w' : World} {k : TypeId} {R : Value → Option (DataW H × List MemPlace)} {b r n : Nat} {D : DataW H} {left : Lit → Bool} {cnt : Nat} (h : w.ranges P k R b r n D left cnt) (hb : w'.heap[b]? = w.heap[b]?) (hr : w'.heap[r]? = w.heap[r]?) {v : Value} (he : (Instr.entry (.pointer (some ⟨r, 0, none⟩))).run P w = .ok v w) : (Instr.entry (.pointer (some ⟨r, 0, none⟩))).run P w' = .ok v w' := by
  obtain ⟨es, clock, since, seen, c0, h1, _, _, _, h2, _⟩ := h
  rw [h1] at hb
  rw [h2] at hr
  cases hs : seen.back? with
  | none => simp [Instr.entry, getObj, Sem.run_bind, Sem.run, h2, Result.andThen, hs, stuck] at he
  | some x =>
    by_cases hc : clock = c0
    case neg => simp [Instr.entry, getObj, Sem.run_bind, Sem.run, h1, h2, Result.andThen, hs, hc, unsupported] at he
    case pos =>
      subst hc
      cases hf : es.find? (fun y => y.born == x) with
      | none => simp [Instr.entry, getObj, Sem.run_bind, Sem.run, h1, h2, Result.andThen, hs, hf, unsupported] at he
      | some e =>
        simp only [Instr.entry, getObj, Sem.run_bind, Sem.run, h1, h2, Result.andThen, hs, hf, bne_self_eq_false, Bool.false_eq_true, if_false] at he
        simp only [Instr.entry, getObj, Sem.run_bind, Sem.run, hb, hr, Result.andThen, hs, hf, bne_self_eq_false, Bool.false_eq_true, if_false]
        have he' : Result.ok (Value.tuple #[e.key, e.val]) w = Result.ok v w := he
        injection he' with e1 e2
        rw [← e1]
        rfl

theorem getK_of_mem {l : List Kv} (hr : Rises (l.map Prod.fst)) {x : Kv} (hx : x ∈ l) : getK l x.1 = some x.2 := by
  cases h : getK l x.1 with
  | none => exact absurd rfl (getK_not h x hx)
  | some v =>
    have hm := getK_mem h
    have hp : l.Pairwise fun x y => klt x.1 y.1 := List.pairwise_map.1 hr
    obtain ⟨i, hi, e1⟩ := List.mem_iff_getElem.1 hx
    obtain ⟨j, hj, e2⟩ := List.mem_iff_getElem.1 hm
    have hk : l[i].1 = l[j].1 := by rw [e1, e2]
    rcases Nat.lt_trichotomy i j with h | h | h
    · have := List.pairwise_iff_getElem.1 hp i j hi hj h
      rw [hk] at this
      exact absurd this (klt_irrefl _)
    · subst h
      rw [e1] at e2
      rw [e2]
    · have := List.pairwise_iff_getElem.1 hp j i hj hi h
      rw [hk] at this
      exact absurd this (klt_irrefl _)
theorem rises_nodup {l : List Kv} (hr : Rises (l.map Prod.fst)) : l.Nodup := (List.pairwise_map.1 hr).imp fun {a b} h e => by subst e; exact klt_irrefl _ h

/-- What was put back so far. -/
structure Backs (nt : ByteArray → Option Former) (left : Lit → Bool) (A : List Kv) : Prop where
  of : ∀ x ∈ A, nt x.1 = some (x.2, true) ∧ left (keyLit x.1) = false
  all : ∀ k v, k.size ≤ 9223372036854775807 → nt k = some (v, true) → left (keyLit k) = false → (k, v) ∈ A
  one : A.Nodup
theorem Backs.start {nt : ByteArray → Option Former} {left : Lit → Bool} (h : ∀ k, k.size ≤ 9223372036854775807 → (nt k).isSome = true → left (keyLit k) = true) : Backs nt left [] :=
  ⟨by simp, fun k v hk hn hl => by rw [h k hk (by rw [hn]; rfl)] at hl; simp at hl, List.nodup_nil⟩
theorem strike_key {left : Lit → Bool} {x k : ByteArray} : (left (keyLit k) && !(keyLit k).sameKey (keyLit x)) = false ↔ (left (keyLit k) = false ∨ k = x) := by
  have h : (keyLit k).sameKey (keyLit x) = decide (k = x) := by
    unfold keyLit Lit.sameKey
    by_cases e : k = x
    · subst e; simp
    · have : ¬ k.data = x.data := fun h => e (ByteArray.ext h)
      simp [e, this]
  rw [h]
  cases left (keyLit k) <;> simp
theorem Backs.old {nt : ByteArray → Option Former} {left : Lit → Bool} {A : List Kv} (h : Backs nt left A) {x v : ByteArray} (hn : nt x = some (v, true)) (hl : left (keyLit x) = true) : Backs nt (fun z => left z && !z.sameKey (keyLit x)) (A ++ [(x, v)]) := by
  refine ⟨fun y hy => ?_, fun k u hk hn' hl' => ?_, ?_⟩
  · rcases List.mem_append.1 hy with hy | hy
    · exact ⟨(h.of y hy).1, strike_key.2 (.inl (h.of y hy).2)⟩
    · rw [List.mem_singleton.1 hy]
      exact ⟨hn, strike_key.2 (.inr rfl)⟩
  · rcases strike_key.1 hl' with hl' | rfl
    · exact List.mem_append_left _ (h.all k u hk hn' hl')
    · rw [hn] at hn'
      injection hn' with e
      injection e with e
      rw [e]
      simp
  · refine List.nodup_append.2 ⟨h.one, by simp, fun a ha b hb e => ?_⟩
    rw [List.mem_singleton.1 hb] at e
    have := (h.of a ha).2
    rw [e] at this
    rw [this] at hl
    simp at hl
theorem Backs.new {nt : ByteArray → Option Former} {left : Lit → Bool} {A : List Kv} (h : Backs nt left A) {x v : ByteArray} (hn : nt x = some (v, false)) : Backs nt (fun z => left z && !z.sameKey (keyLit x)) A := by
  refine ⟨fun y hy => ⟨(h.of y hy).1, strike_key.2 (.inl (h.of y hy).2)⟩, fun k u hk hn' hl' => ?_, h.one⟩
  rcases strike_key.1 hl' with hl' | rfl
  · exact h.all k u hk hn' hl'
  · rw [hn] at hn'
    injection hn' with e
    injection e with _ e
    simp at e

/-- All is put back: what was committed, in some order. -/
theorem Backs.perm {nt : ByteArray → Option Former} {left : Lit → Bool} {A l ld : List Kv} (h : Backs nt left A) (h0 : ∀ kl, left kl = false) (hN : NotesOk nt ld l) (hl : Rises (l.map Prod.fst)) (hd : Rises (ld.map Prod.fst)) (hs : ∀ x ∈ ld, x.1.size ≤ 1000000) : ((l.filter fun x => !(nt x.1).isSome) ++ A).Perm ld := by
  refine (List.perm_ext_iff_of_nodup (List.nodup_append.2 ⟨(rises_nodup hl).filter _, h.one, fun a ha b hb e => ?_⟩) (rises_nodup hd)).2 fun x => ?_
  · subst e
    have h1 := (List.mem_filter.1 ha).2
    rw [(h.of a hb).1] at h1
    simp at h1
  · have hx := hN x.1
    rw [List.mem_append, List.mem_filter]
    constructor
    · rintro (⟨h1, h2⟩ | h1)
      · cases hn : nt x.1 with
        | some f => rw [hn] at h2; simp at h2
        | none =>
          rw [hn] at hx
          have e := getK_of_mem hl h1
          exact getK_mem (hx.symm.trans e)
      · rw [(h.of x h1).1] at hx
        simp only [formerOf] at hx
        injection hx with e1 e2
        cases hg : getK ld x.1 with
        | none => rw [hg] at e2; simp at e2
        | some v =>
          rw [hg] at e1
          simp at e1
          have := getK_mem hg
          rw [← e1] at this
          exact this
    · intro h1
      have e := getK_of_mem hd h1
      cases hn : nt x.1 with
      | none =>
        rw [hn] at hx
        exact .inl ⟨getK_mem (hx.trans e), by simp⟩
      | some f =>
        rw [hn, e] at hx
        simp only at hx
        rw [hx] at hn
        exact .inr (h.all x.1 x.2 (by have := hs x h1; omega) hn (h0 _))

/-- The block that a slice stands in, as a row. -/
def ab : Option Addr → List Nat
  | none => []
  | some x => [x.block]
theorem ab_sub {ra : Option Addr} {g : Nat} : g ∈ ab ra ↔ ∃ x, ra = some x ∧ x.block = g := by
  cases ra with
  | none => simp [ab]
  | some x => simp [ab]; exact eq_comm

set_option maxRecDepth 100000 in
set_option maxHeartbeats 1600000 in
theorem ydelete_nil {w : World} {sb : Nat} {p : ByteArray → Bool} (g : Nat) (hP : AskP w g sb p) :
    Calls Tryz.prog 111 #[.slice none 0 0, .func (.func 112) #[] #[.pointer (some ⟨sb, 0, none⟩)]] w fun e w' => e = .returned (.slice none 0 0) ∧ Turn [] w w' := by
  have HI := hide (yindex_any none 0 [] (by simp) (by simp) (.inl rfl) hP)
  clear hP
  go_enter Tryz.func111, Tryz.ntmps111
  go_wp2_with fail
  refine HI.out.mono ?_
  rintro e w1 ⟨⟨x, rfl, hx⟩, hT1⟩
  obtain rfl : x = -1 := by
    rcases hx with ⟨i, _, hi, _⟩ | ⟨h, _⟩
    · simp at hi
    · exact h
  clear hx
  go_wp2_with fail
  go_ret
  exact ⟨rfl, hT1⟩

theorem ydel_all {w : World} {base sb n cap : Nat} {a : Option Addr} {p : ByteArray → Bool} (l : List Kv) (hn : l.length = n) (hlen : n ≤ 1000000) (hks : ∀ x ∈ l, x.1.size ≤ 1000000) (hO : w.ownsRow base 55 2 (.slice a n cap) n (flat (kvCells l))) (hP : ∀ g, (∀ x, a = some x → x.block = g) → (a = none → w.heap.size ≤ g) → AskP w g sb p) :
    Calls Tryz.prog 111 #[.slice a n cap, .func (.func 112) #[] #[.pointer (some ⟨sb, 0, none⟩)]] w fun e w' => (∃ m, (l.filter fun x => !p x.1).length = m ∧ m ≤ n ∧ e = .returned (.slice a m cap) ∧ w'.ownsRow base 55 2 (.slice a m cap) m (flat (kvCells (l.filter fun x => !p x.1)))) ∧ Turn (ab a) w w' := by
  subst hn
  have hO0 := hO
  obtain ⟨_, ⟨h', h0⟩ | ⟨g, cap', cur, h', _⟩⟩ := hO0
  · injection h' with e1 e2 e3
    subst e1 e3
    have hl : l = [] := List.eq_nil_of_length_eq_zero h0
    subst hl
    refine (ydelete_nil w.heap.size (hP w.heap.size (by simp) (fun _ => Nat.le_refl _))).mono ?_
    rintro e w' ⟨rfl, hT⟩
    exact ⟨⟨0, rfl, Nat.le_refl _, rfl, World.ownsRow_nil _ _ _ _⟩, hT⟩
  · injection h' with e1 e2 e3
    subst e1 e3
    refine (ydelete_any l hlen hks hO (hP g (fun x hx => by rw [← Option.some.inj hx]) (by simp))).mono ?_
    rintro e w' ⟨rfl, hO', hT⟩
    exact ⟨⟨_, rfl, List.length_filter_le _ _, rfl, hO'⟩, hT⟩

theorem ysort_all {w : World} {base n cap : Nat} {a : Option Addr} (L ld : List Kv) (hn : L.length = n) (hlen : n ≤ 1000000) (hO : w.ownsRow base 55 2 (.slice a n cap) n (flat (kvCells L))) (hp : L.Perm ld) (hr : Rises (ld.map Prod.fst)) :
    Calls Tryz.prog 113 #[.slice a n cap, .func (.func 114) #[] #[]] w fun e w' => e = .returned (.tuple #[]) ∧ w'.ownsRow base 55 2 (.slice a n cap) n (flat (kvCells ld)) ∧ Turn (ab a) w w' := by
  subst hn
  have hO0 := hO
  obtain ⟨_, ⟨h', h0⟩ | ⟨g, cap', cur, h', _⟩⟩ := hO0
  · injection h' with e1 e2 e3
    subst e1 e3
    have hl : L = [] := List.eq_nil_of_length_eq_zero h0
    subst hl
    have hld : ld = [] := List.Perm.eq_nil (hp.symm)
    subst hld
    have h := AnyF.slices_SortFunc_none Tryz.sortKV none 0 (.func (.func 114) #[] #[]) w
    change Calls Tryz.prog 113 _ _ _ at h
    refine h.mono ?_
    rintro e w' ⟨rfl, rfl⟩
    exact ⟨rfl, hO, Turn.refl _ _⟩
  · injection h' with e1 e2 e3
    subst e1 e3
    exact ysort_any L ld hlen hO hp hr

/-- The next note. -/
theorem next_note {w : World} {ops : Array Oper} {rest : List Oper} {o : Oper} {a : Act} {Q : Exit → Act → World → Prop} {nt : ByteArray → Option Former} (hg : o.guard = none) (it : Operand) (hop : o.op = Op.next it false) (b r n : Nat) (D : DataW Value) (left : Lit → Bool) (cnt : Nat)
    (hit : a.eval it = .pointer (some ⟨r, 0, none⟩)) (h : w.ranges Tryz.prog 9 noteElem b r n D left cnt)
    (hD : ∀ k : ByteArray, k.size ≤ 9223372036854775807 → Maps.has D (keyLit k) = (nt k).isSome ∧ D.atKey (keyLit k) (.held (formerV (⟨#[]⟩, false))) = .held (formerV ((nt k).getD (⟨#[]⟩, false)))) (hL : ∀ kl, left kl = true → has D kl = true)
    (hDone : (∀ kl, left kl = false) → wpList Tryz.prog ops Q rest (a.put o.dst (.tuple #[.bool false])) w)
    (hMore : ∀ (x v : ByteArray) (z : Bool) (w' : World) (cnt' : Nat), nt x = some (v, z) → left (keyLit x) = true → w'.ranges Tryz.prog 9 noteElem b r n D (fun zz => left zz && !zz.sameKey (keyLit x)) cnt' → cnt' < cnt → w.grownBy w' (some r) → w'.heap.size = w.heap.size →
      (∀ W : World, W.heap[b]? = w'.heap[b]? → W.heap[r]? = w'.heap[r]? → (Instr.entry (.pointer (some ⟨r, 0, none⟩))).run Tryz.prog W = .ok (.tuple #[.string x, .agg #[.string v, .bool z]]) W) → wpList Tryz.prog ops Q rest (a.put o.dst (.tuple #[.bool true, .string x, .agg #[.string v, .bool z]])) w') :
    wpList Tryz.prog ops Q (o :: rest) a w := by
  refine wpList_next_ranges w hg it hop 9 law_key noteElem Value.string formerV (fun key kl h => by obtain ⟨s, e, _⟩ := WideMaps.string_of_keyOf Tryz.underlying9 h; exact ⟨s, e⟩) (fun v y h => (note_form h).2) b r n D left cnt hit h (fun _ => hDone) ?_
  intro x c kl y w' cnt' hkey hlk hv hat hrg hlt hgr hsz hen
  obtain ⟨s, e, rfl, hs⟩ := WideMaps.string_of_keyOf Tryz.underlying9 hkey
  injection e with e
  subst e
  have hs' : x.size ≤ 9223372036854775807 := hs
  obtain ⟨h1, h2⟩ := hD x hs'
  have h3 : (nt x).isSome = true := h1.symm.trans (hL _ hlk)
  obtain ⟨f, hf⟩ := Option.isSome_iff_exists.1 h3
  rw [hf] at h2
  have h4 := (hat (.held (formerV (⟨#[]⟩, false)))).symm.trans h2
  rw [(note_form hv).1] at h4
  have h5 : formerV c = formerV f := DataW.held.inj h4
  obtain ⟨f1, f2⟩ := f
  have h6 : formerV c = .agg #[.string f1, .bool f2] := h5
  rw [h6] at hen ⊢
  exact hMore x f1 f2 w' cnt' hf hlk hrg hlt hgr hsz (fun W hb hr => entry_same hrg hb hr hen)

set_option maxRecDepth 100000 in
set_option maxHeartbeats 3200000 in
theorem undone_any {w : World} {base n : Nat} {a : Option Addr} {cap tb mb st q sz : Nat} {nt : ByteArray → Option Former} (l ld : List Kv) (hn : l.length = n) (hlen : n ≤ 100000) (hq : q ≤ 100000) (hks : ∀ x ∈ l, x.1.size ≤ 1000000) (hkd : ∀ x ∈ ld, x.1.size ≤ 1000000) (hO : w.ownsRow base 55 2 (.slice a n cap) n (flat (kvCells l))) (hbase : base ≤ w.heap.size)
    (hx : TxAt w tb mb st) (hN : NotesAt w mb q sz nt) (hne : ∀ x, a = some x → x.block ≠ tb ∧ x.block ≠ mb) (hNO : NotesOk nt ld l) (hrl : Rises (l.map Prod.fst)) (hrd : Rises (ld.map Prod.fst)) :
    Calls Tryz.prog 78 #[.pointer (some ⟨tb, 0, none⟩), .slice a n cap] w fun e w' => (∃ ra rc, e = .returned (.slice ra ld.length rc) ∧ w'.ownsRow base 55 2 (.slice ra ld.length rc) ld.length (flat (kvCells ld)) ∧ ∀ x, ra = some x → x.block ∈ ab a ∨ w.heap.size ≤ x.block) ∧ Turn (ab a) w w' := by
  have hT1 : Turn [] w (w.alloc (.cells #[.pointer (some ⟨tb, 0, none⟩)] 32)) := (Turn.refl [] w).alloc _
  have hsb : (w.alloc (.cells #[.pointer (some ⟨tb, 0, none⟩)] 32)).cell? ⟨w.heap.size, 0, none⟩ = some (.pointer (some ⟨tb, 0, none⟩)) := World.cell?_alloc_at _ _ _ _ rfl
  have hsz1 : (w.alloc (.cells #[.pointer (some ⟨tb, 0, none⟩)] 32)).heap.size = w.heap.size + 1 := by simp
  have hal : ∀ x, a = some x → x.block < w.heap.size := fun x hx => by
    subst hx
    obtain ⟨_, ⟨h', _⟩ | ⟨g, cap', cur, h', _, hg, _⟩⟩ := hO
    · simp at h'
    · simp only [Value.slice.injEq, Option.some.injEq, true_and] at h'
      rw [h'.1]
      exact (Array.getElem?_eq_some_iff.1 hg).1
  have HP : Hid (∀ g, (∀ x, a = some x → x.block = g) → (a = none → (w.alloc (.cells #[.pointer (some ⟨tb, 0, none⟩)] 32)).heap.size ≤ g) → AskP (w.alloc (.cells #[.pointer (some ⟨tb, 0, none⟩)] 32)) g w.heap.size (fun k => (nt k).isSome)) := fun g h1 h2 => by
    have hg : g ≠ w.heap.size ∧ g ≠ tb ∧ g ≠ mb := by
      cases a with
      | none =>
        have := h2 rfl
        have := hx.lt
        have := hN.lt
        omega
      | some x =>
        have e := h1 x rfl
        have := hal x rfl
        have := hne x rfl
        omega
    intro W hT k v hk
    have hT' : Turn [g] w W := (hT1.mono (by simp)).trans hT
    refine undone1_any ((hT.cell (p := ⟨w.heap.size, 0, none⟩) (by rw [hsz1]; exact Nat.lt_succ_self _) (by simp; exact Ne.symm hg.1)).trans hsb) (hx.same (hT'.block tb hx.lt (by simp; exact Ne.symm hg.2.1))) (hN.of_block (hT'.block mb hN.lt (by simp; exact Ne.symm hg.2.2))) k v hk
  have HD := hide (ydel_all l hn (by omega) hks (own_turn hO hT1 (by simp)) HP.out)
  have HX := hide hx
  have HN := hide hN
  have HNe := hide hne
  have HAl := hide hal
  have htl := hx.lt
  have hml := hN.lt
  have hmt : a = none ∨ True := .inr trivial
  have HKd := hide hkd
  have HNO := hide hNO
  have HRl := hide hrl
  have HRd := hide hrd
  have HT1 := hide hT1
  have HSb := hide hsb
  obtain ⟨F, hF⟩ : ∃ F, (l.filter fun x => !(nt x.1).isSome) = F := ⟨_, rfl⟩
  rw [hF] at HD
  have HF := hide hF
  clear HP hO hx hN hne hal hks hkd hNO hrl hrd hT1 hsb hmt hn hF
  go_enter Tryz.func78, Tryz.ntmps78
  go_wp2_with fail
  refine HD.out.mono ?_
  rintro e w2 ⟨⟨m, hm, hmn, rfl, hO2⟩, hT2⟩
  have hT12 : Turn (ab a) w w2 := (HT1.out.mono (by simp)).trans hT2
  have htb1 : tb ∉ ab a := fun h => by obtain ⟨x, h1, h2⟩ := ab_sub.1 h; exact (HNe.out x h1).1 h2
  have hmb1 : mb ∉ ab a := fun h => by obtain ⟨x, h1, h2⟩ := ab_sub.1 h; exact (HNe.out x h1).2 h2
  have hX2 := HX.out.same (hT12.block tb htl htb1)
  have hN2 := HN.out.of_block (hT12.block mb hml hmb1)
  have hc1 := hX2.c1
  have hsb2 : w2.cell? ⟨w.heap.size, 0, none⟩ = some (.pointer (some ⟨tb, 0, none⟩)) := (hT2.cell (p := ⟨w.heap.size, 0, none⟩) (by rw [hsz1]; exact Nat.lt_succ_self _) (fun h => by obtain ⟨x, h1, h2⟩ := ab_sub.1 h; have := HAl.out x h1; simp at h2; omega)).trans HSb.out
  obtain ⟨D, q', hq', hM, hDs, hD⟩ := hN2
  have HM := hide hM
  have hszq : sz ≤ 100000 := by have := hM.size_le; omega
  have HDs := hide hDs
  have HDk := hide hD
  have HO2 := hide hO2
  have HMl := hide hm
  have hml2 : mb < w2.heap.size := hM.lt
  have hs2 := hT12.size
  have HT12 := hide hT12
  clear hO2 hT2 hT12 htb1 hmb1 hX2 hM hDs hD hm
  go_wp2_with (first
    | (at_range; refine wpList_range_own _ rfl _ 101 rfl 9 133 law_key Tryz.underlying101 _ mb q' D rfl HM.out ?_; intro w0 hrg0 hg0 hs0)
    | go_in)
  go_frame
  have hT20 : Turn [] w2 w0 := turn_of_none hg0
  have HO0 := hide (own_turn HO2.out hT20 (by simp))
  clear hg0 hc1 hsb2
  go_loopw [1, 5, 6] (fun all _ _ wr => ∃ (A : List Kv) (ra : Option Addr) (rc k : Nat) (left : Lit → Bool) (cnt : Nat), all = .slice ra k rc ∧ Hid (m + A.length = k) ∧ Hid (wr.ownsRow base 55 2 (.slice ra k rc) k (flat (kvCells (F ++ A)))) ∧ wr.ranges Tryz.prog 9 noteElem mb w2.heap.size q' D left cnt ∧ Hid (∀ kl, left kl = true → has D kl = true) ∧ Hid (Backs nt left A) ∧ A.length + cnt ≤ sz ∧ Hid (∀ x, ra = some x → x.block ≠ mb ∧ x.block ≠ w2.heap.size ∧ (x.block ∈ ab a ∨ w2.heap.size < x.block)) ∧ Turn (ab a) w2 wr) (fun _ _ _ wr => wr.rangeLeft mb w2.heap.size)
  case atStart => exact ⟨[], a, cap, m, has D, Maps.size D, rfl, by unfold Hid; simp, by unfold Hid; rw [List.append_nil]; exact HO0.out, hrg0, fun _ h => h, Backs.start fun k hk hs => ((HDk.out k hk).1.trans hs), by simp [HDs.out], fun x hx => ⟨fun e => by have := HNe.out x hx; exact this.2 e, by have := HAl.out x hx; omega, .inl (ab_sub.2 ⟨x, hx, rfl⟩)⟩, hT20.mono (by simp)⟩
  case round =>
    obtain ⟨A, ra, rc, k, left, cnt, rfl, HK, HOr, hrg, HLf, HB, hcnt, HAp, hT⟩ := hrel
    have HT := hide hT
    have hwr := hT.size
    have hk : k ≤ 200000 := by have := HK.out; omega
    have HRg := hide hrg
    clear hrg0 hT20 HO0 hs0 hT
    go_wp2_with (first
      | (at_next; refine next_note rfl _ rfl mb w2.heap.size q' _ _ _ rfl HRg.out HDk.out HLf.out ?done ?more; case' more => (
          intro x v z w5 cnt5 hnx hlk hrg5 hlt5 hg5 hs5 hen5
          have hen6 := hen5 w5 rfl rfl
          have hT5 : Turn [] wr w5 ∨ True := .inr trivial
          have HNx := hide hnx
          have HLk := hide hlk
          have HRg5 := hide hrg5
          have HG5 := hide hg5
          have hrb : w2.heap.size < wr.heap.size := hrg.lt
          have HOb : Hid (((w5.alloc (.cells #[.string v, .bool z] 133)).alloc (.cells #[.string x, .string v] 55)).ownsRow base 55 2 (.slice ra k rc) k (flat (kvCells (F ++ A)))) := own_turn HOr.out (((turn_of_grown hg5).alloc _).alloc _) (fun g hg => by
            cases ra with
            | none => cases hg
            | some y =>
              obtain rfl := Option.some.inj hg
              simp
              exact (HAp.out y rfl).2.1)
          have HP : Hid (PairsAt ((w5.alloc (.cells #[.string v, .bool z] 133)).alloc (.cells #[.string x, .string v] 55)) (some ⟨wr.heap.size + 1, 0, none⟩) (kvCells [(x, v)])) := by
            refine (KVsAt.pairs (l := [(x, v)]) (.inr ⟨wr.heap.size + 1, 0, rfl, fun i hi => ?_⟩) :)
            have : i = 0 := by simpa using hi
            subst this
            exact ⟨World.cell?_alloc_at _ _ _ _ (by simp [hs5]), World.cell?_alloc_at _ _ _ _ (by simp [hs5])⟩
          clear hT5 hnx hlk hrg5 hg5 hen5
          cases z))
      | (at_builtin; refine append_pairsT 31 Tryz.underlying31 rfl _ _ rfl base (.slice ra k rc) k (kvCells (F ++ A)) rfl HOb.out (some ⟨wr.heap.size + 1, 0, none⟩) 1 1 (kvCells [(x, v)]) rfl rfl (by simp) HP.out (kv_one _) (by omega) (by simp; omega) ?_; intro v' w7 hown7 hgrow7 hor7; have HO7 := hide hown7; have HG7 := hide hgrow7; have HOr7 := hide hor7; clear hown7 hgrow7 hor7)
      | go_in)
    · have hT5 : Turn (ab a) w2 w5 := HT.out.grown HG5.out (fun k e => .inr (by have := Option.some.inj e; omega))
      have hrgA := HRg5.out.alloc (.cells #[.string v, .bool false] 133)
      refine ⟨⟨A, ra, rc, k, _, cnt5, rfl, HK, ?_, hrgA, fun kl h => HLf.out kl (by simp at h; exact h.1), HB.out.new HNx.out, by omega, HAp, hT5.alloc _⟩, ?_⟩
      · exact own_turn HOr.out ((turn_of_grown HG5.out).alloc _) (fun g hg => by
          cases ra with
          | none => cases hg
          | some y =>
            obtain rfl := Option.some.inj hg
            simp
            exact (HAp.out y rfl).2.1)
      · rw [hrgA.left_eq, HRg.out.left_eq]
        exact hlt5
    · have hT5 : Turn (ab a) w2 w5 := HT.out.grown HG5.out (fun k e => .inr (by have := Option.some.inj e; omega))
      have hT6 := (hT5.alloc (.cells #[.string v, .bool true] 133)).alloc (.cells #[.string x, .string v] 55)
      have hob : ∀ g, (Value.slice ra k rc).ownBlock = some g → ∃ y, ra = some y ∧ y.block = g := fun g hg => by
        cases ra with
        | none => cases hg
        | some y => exact ⟨y, rfl, Option.some.inj hg⟩
      have hrgA := ((HRg5.out.alloc (.cells #[.string v, .bool true] 133)).alloc (.cells #[.string x, .string v] 55)).kept HG7.out (fun e => by
        obtain ⟨y, h1, h2⟩ := hob mb e.symm
        exact (HAp.out y h1).1 h2) (fun e => by
        obtain ⟨y, h1, h2⟩ := hob _ e.symm
        exact (HAp.out y h1).2.1 h2)
      obtain ⟨ra', rc', rfl⟩ := own_form HO7.out
      refine ⟨⟨A ++ [(x, v)], ra', rc', k + 1, _, cnt5, rfl, ?_, ?_, hrgA, fun kl h => HLf.out kl (by simp at h; exact h.1), HB.out.old HNx.out HLk.out, by simp; omega, fun y hy => ?_, hT6.grown HG7.out fun g hg => ?_⟩, ?_⟩
      · have := HK.out
        unfold Hid
        simp
        omega
      · unfold Hid
        rw [← List.append_assoc, kv_append]
        exact HO7.out
      · subst hy
        rcases HOr7.out with h | h
        · obtain ⟨y', h1, h2⟩ := hob y.block h.symm
          rw [← h2]
          exact HAp.out y' h1
        · have e : y.block = wr.heap.size + 2 := by
            have := Option.some.inj h
            simpa [hs5] using this
          exact ⟨by omega, by omega, .inr (by omega)⟩
      · obtain ⟨y, h1, h2⟩ := hob g hg
        rw [← h2]
        exact (HAp.out y h1).2.2.imp id (fun h => by omega)
      · rw [hrgA.left_eq, HRg.out.left_eq]
        exact hlt5
    case done =>
      intro hl0
      have hp := HB.out.perm hl0 HNO.out HRl.out HRd.out HKd.out
      rw [HF.out] at hp
      have hlk : (F ++ A).length = k := by rw [List.length_append, HMl.out]; exact HK.out
      have HL := hide (hlk.symm.trans hp.length_eq)
      have HS := hide (ysort_all (F ++ A) ld hlk (by omega) HOr.out hp HRd.out)
      clear hp hlk hl0
      go_wp2_with fail
      refine HS.out.mono ?_
      rintro e w9 ⟨rfl, hO9, hT9⟩
      have HO9 := hide hO9
      have hTz : Turn (ab a) w w9 := (HT12.out.trans HT.out).then hT9 (fun x hx => by
        obtain ⟨y, h1, h2⟩ := ab_sub.1 hx
        rw [← h2]
        exact (HAp.out y h1).2.2.imp id (fun h => by omega))
      have HTz := hide hTz
      clear hO9 hT9 hTz
      go_wp2_with fail
      go_ret
      rw [← HL.out]
      exact ⟨⟨_, _, rfl, HO9.out, fun x hx => (HAp.out x hx).2.2.imp id (fun h => by omega)⟩, HTz.out⟩

end Go.Proofs.YthgpjkcgccdldaaGreatDoor

namespace Go.Proofs.YthgpjkcgccdldaaGreatDoor
open Go.RowKit Go.Maps

theorem full_keys : ∀ {h : Nat} {e : En h}, FullE e → ∀ x ∈ e.flat, x.1.size ≤ 48
  | 0, e, he, x, hx => by
    obtain rfl : x = e := List.mem_singleton.1 hx
    exact he.2.1
  | h + 1, e, he, x, hx => by
    obtain ⟨k, hk, hx⟩ := List.mem_flatMap.1 hx
    exact full_keys (he.2.2.2 k hk) x hx
theorem RootOk.sizes {rt : Root?} (h : RootOk rt) : ∀ x ∈ flatR rt, x.1.size ≤ 48 := by
  intro x hx
  cases rt with
  | none => cases hx
  | some r =>
    obtain ⟨lv, e⟩ := r
    obtain ⟨k, hk, hx⟩ := List.mem_flatMap.1 hx
    exact full_keys ((h lv e rfl).2.2.2.2.2 k hk) x hx
theorem TreeG.sizes {w : World} {O : Nat → Prop} {t p b m N c : Nat} {ld : List Kv} {ch : Bool} {l : List Kv} (h : TreeG w O t p b m N c ld ch l) : (∀ x ∈ l, x.1.size ≤ 48) ∧ ∀ x ∈ ld, x.1.size ≤ 48 := by
  obtain ⟨sm, rb, s, q, Dn, S, D, G, Rw, ds, rd, rt, h1, _, _, _, _, rfl, rfl, _⟩ := h.ex
  exact ⟨h1.ok.sizes, h1.okd.sizes⟩

set_option maxRecDepth 100000 in
set_option maxHeartbeats 1600000 in
theorem committed_some {u : World} {O OT : Nat → Prop} {st t p b m sg N c vw : Nat} {tb did : Nat} {ld : List Kv} {ch : Bool} {l : List Kv} (h : StoreG u O OT st t p b m sg N c vw none (some tb) did ld ch l) (hl : l.length ≤ 100000) (hdid : did ≤ 100000) :
    Calls Tryz.prog 52 #[.pointer (some ⟨st, 0, none⟩)] u fun e w' => ∃ ra rc, e = .returned (.slice ra ld.length rc) ∧ ComOut u w' O OT st t p b m sg N c vw (some tb) did ld ch l ra rc := by
  have h1 := h.obj.c1
  have HC := hide (tgk_scan h.tree ⟨#[]⟩ ⟨#[]⟩ 0 hl)
  rw [scanL_all] at HC
  have H := hide h
  obtain ⟨n, hn⟩ : ∃ n, l.length = n := ⟨_, rfl⟩
  have HNn := hide hn
  rw [hn] at HC hl
  clear h hn
  go_enter Tryz.func52, Tryz.ntmps52
  go_wp2_with fail
  refine HC.out.mono ?_
  rintro e w1 ⟨r, rfl, hO, hT1, hK1⟩
  have h21 : w1.cell? ⟨st, 2, none⟩ = some (.pointer (some ⟨tb, 0, none⟩)) := (H.out.obj.same (hK1.block H.out.ost H.out.obj.lt)).c2
  obtain ⟨mb, sz, nt, x1, x2, x3, x4, x5, x6, x7, x8, x9, x10, x11, x12, x13⟩ := H.out.txp
  have hsz := H.out.tree.sizes
  have hri := H.out.tree.rises
  have y1 := x1.same (hK1.block x5 x1.lt)
  have y2 := x2.of_block (hK1.block x6 x2.lt)
  obtain ⟨a, cap, rfl⟩ := own_form hO
  have hab : ∀ x, a = some x → u.heap.size ≤ x.block ∧ x.block < w1.heap.size := fun x hx => hO.lt x.block (by rw [hx]; rfl)
  have HU := hide (undone_any l ld HNn.out hl hdid (fun x hx => by have := hsz.1 x hx; omega) (fun x hx => by have := hsz.2 x hx; omega) hO hK1.size y1 y2 (fun x hx => by
    have := hab x hx
    have := x1.lt
    have := x2.lt
    omega) x4 hri.1 hri.2)
  have HT1 := hide hT1
  have HK1 := hide hK1
  have HAb := hide hab
  have hw1 := hK1.size
  clear hO hT1 hK1 x1 x2 x3 x4 x5 x6 x7 x8 x9 x10 x11 x12 x13 y1 y2 hsz hri hab
  go_wp2_with fail
  refine HU.out.mono ?_
  rintro e w2 ⟨⟨ra, rc, rfl, hO2, hrx⟩, hT2⟩
  have HO2 := hide hO2
  have HRx := hide hrx
  have HT2 := hide hT2
  clear hO2 hrx hT2
  go_wp2_with fail
  go_ret
  have hw2 := HT2.out.size
  have hK2 : KeepO OT u w2 := by
    obtain ⟨X, hX, hXn⟩ := HK1.out
    refine ⟨X, hX.then HT2.out (fun x hx => ?_), hXn⟩
    obtain ⟨y, h1, h2⟩ := ab_sub.1 hx
    have := HAb.out y h1
    exact .inr (by omega)
  refine ⟨ra, rc, rfl, HO2.out, H.out.row hK2 (fun g hg => (HO2.out.lt g hg).1) ?_, hK2⟩
  refine HT1.out.turn HT2.out (fun x hx => ?_) (fun x hx => ?_) (fun x hx => ?_)
  · obtain ⟨y, h1, h2⟩ := ab_sub.1 hx
    refine .inr ?_
    subst h1
    rw [← h2]
    rfl
  · rcases hx with hx | hx
    · exact .inl (.inl hx)
    · cases ra with
      | none => cases hx
      | some y =>
        obtain rfl := Option.some.inj hx
        rcases HRx.out y rfl with h | h
        · obtain ⟨z, h1, h2⟩ := ab_sub.1 h
          refine .inl (.inr ?_)
          subst h1
          rw [← h2]
          rfl
        · exact .inr h
  · rcases hx with hx | hx
    · exact Nat.lt_of_lt_of_le (H.out.ob x hx) hK2.size
    · exact (HO2.out.lt x hx).2
theorem comall_some {b m N c : Nat} {tb did : Nat} {ld : List Kv} {ch : Bool} {l : List Kv} (hl : l.length ≤ 100000) (hd : did ≤ 100000) : ComAll b m N c (some tb) did ld ch l := fun _ _ _ _ _ _ _ _ h => committed_some h hl hd

end Go.Proofs.YthgpjkcgccdldaaGreatDoor

namespace Go.Proofs.YthgpjkcgccdldaaGreatDoor
open Go.RowKit Go.Maps

/-- A view's cell is none of a sight's row, and no transaction's. -/
theorem StoreG.closing {w w' : World} {O OT : Nat → Prop} {st t p b m sg N c vw v : Nat} {fs : Option Bool} {tx : Option Nat} {did : Nat} {ld : List Kv} {ch : Bool} {l : List Kv} (h : StoreG w O OT st t p b m sg N c vw fs tx did ld ch l) (hO : O v) (h0 : w.cell? ⟨v, 0, none⟩ = some (.pointer (some ⟨st, 0, none⟩))) (hT : Turn [v, st] w w') {vw' : Nat} (hobj : StAt w' st p t tx c vw' sg) : StoreG w' O OT st t p b m sg N c vw' fs tx did ld ch l := by
  have hin : ∀ x ∈ [v, st], OT x := fun x hx => by
    simp at hx
    rcases hx with rfl | rfl
    · exact h.sub _ hO
    · exact h.ost
  have hbl : ∀ x, x < w.heap.size → x ≠ v → x ≠ st → w'.heap[x]? = w.heap[x]? := fun x hx h1 h2 => hT.block x hx (by simp; exact ⟨h1, h2⟩)
  refine ⟨h.tree.turn hT hin (fun x hx => .inl hx) (fun x hx => Nat.lt_of_lt_of_le (h.ob x hx) hT.size), hobj, ?_, h.sub, h.ost, h.nst, h.ne, h.txp.same (fun x _ hn hs _ hl => hbl x hl (fun e => hn (e ▸ hO)) hs), h.osg⟩
  have hs := h.sight
  rcases fs with _ | _ | _
  · trivial
  · obtain ⟨a, cap, h1, h2, h3, h4, h5, h6⟩ := hs
    have hsv : sg ≠ v := fun e => by
      have := h1.c0
      rw [e, h0] at this
      simp at this
    refine ⟨a, cap, h1.same (hbl sg h.sgl hsv h.ne.symm), ?_, h3, h4, h5, h6⟩
    by_cases hl : ld = []
    · exact .inl hl
    rcases h2 with h2 | ⟨g, off, rfl, h2⟩
    · exact .inl h2
    · have hoff : off = 0 := (h6 ⟨g, off, none⟩ rfl).2
      have hg : O g := (h6 ⟨g, off, none⟩ rfl).1
      have hp : 0 < ld.length := List.length_pos_iff.2 hl
      have hgv : g ≠ v := fun e => by
        have := (h2 0 hp).1
        rw [hoff, e] at this
        have h0' : w.cell? ⟨v, 0 + 0 * 2, none⟩ = some (.pointer (some ⟨st, 0, none⟩)) := h0
        rw [h0'] at this
        simp at this
      have hgs : g ≠ st := fun e => h.nst (e ▸ hg)
      exact .inr ⟨g, off, rfl, fun i hi => ⟨(World.cell?_of_block (a := ⟨g, _, none⟩) (hbl g (h.ob g (h.sub g hg)) hgv hgs)).trans (h2 i hi).1, (World.cell?_of_block (a := ⟨g, _, none⟩) (hbl g (h.ob g (h.sub g hg)) hgv hgs)).trans (h2 i hi).2⟩⟩
  · exact ⟨hs.1.same (hbl sg h.sgl (fun e => hs.2.2 (e ▸ hO)) h.ne.symm), hs.2⟩

/-- Nobody has looked at it any more. -/
theorem StoreG.fresh {w w' : World} {O OT : Nat → Prop} {st t p b m sg sg' N c vw v : Nat} {fs : Option Bool} {tx : Option Nat} {did : Nat} {ld : List Kv} {ch : Bool} {l : List Kv} (h : StoreG w O OT st t p b m sg N c vw fs tx did ld ch l) (hO : O v) (hT : Turn [v, st] w w') {vw' : Nat} (hs : w.heap.size ≤ sg' ∧ sg' < w'.heap.size) (hobj : StAt w' st p t tx c vw' sg') (hsg : SightAt w' sg' 0 (.slice none 0 0)) : StoreG w' O (fun x => OT x ∨ x = sg') st t p b m sg' N c vw' (some true) tx did ld ch l := by
  have hin : ∀ x ∈ [v, st], OT x := fun x hx => by
    simp at hx
    rcases hx with rfl | rfl
    · exact h.sub _ hO
    · exact h.ost
  have hbl : ∀ x, x < w.heap.size → x ≠ v → x ≠ st → w'.heap[x]? = w.heap[x]? := fun x hx h1 h2 => hT.block x hx (by simp; exact ⟨h1, h2⟩)
  have hstl := h.obj.lt
  refine ⟨h.tree.turn hT hin (fun x hx => hx.imp id (fun e => by omega)) (fun x hx => ?_), hobj, ⟨hsg, .inr rfl, fun ho => ?_⟩, fun x hx => .inl (h.sub x hx), .inl h.ost, h.nst, by omega, ?_, .inr rfl⟩
  · rcases hx with hx | hx
    · exact Nat.lt_of_lt_of_le (h.ob x hx) hT.size
    · omega
  · have := h.ob _ (h.sub _ ho)
    omega
  · have hx := h.txp
    cases tx with
    | none => exact hx
    | some tb =>
      obtain ⟨mb, sz, nt, q1, q2, q3, q4, q5, q6, q7, q8, q9, q10, q11, q12, q13⟩ := hx
      have e1 := q1.lt
      have e2 := q2.lt
      exact ⟨mb, sz, nt, q1.same (hbl tb e1 (fun e => q7 (e ▸ hO)) q10), q2.of_block (hbl mb e2 (fun e => q8 (e ▸ hO)) q12), q3, q4, .inl q5, .inl q6, q7, q8, q9, q10, by omega, q12, by omega⟩

set_option maxRecDepth 100000 in
set_option maxHeartbeats 1600000 in
/-- A view is closed, others are open. -/
theorem xclose {w : World} {O : Nat → Prop} {st b m N c vw v : Nat} {fs : Option Bool} {tx : Option Nat} {did : Nat} {ld lv : List Kv} {ch : Bool} {l : List Kv} (h : StoreK w O st b m N c (vw + 2) fs tx did ld ch l) (hV : ViewAt w O v st lv) (hvw : vw ≤ 100) :
    Calls Tryz.prog 23 #[.pointer (some ⟨v, 0, none⟩)] w fun e w' => e = .returned (.tuple #[]) ∧ StoreK w' O st b m N c (vw + 1) fs tx did ld ch l ∧ KeepO (fun x => O x ∧ x ≠ v) w w' := by
  obtain ⟨OT, t, p, sg, h⟩ := h
  obtain ⟨⟨sv, a, cap, h1, -⟩, hO, h0, hz⟩ := hV
  have hvs : v ≠ st := fun e => h.nst (e ▸ hO)
  have hT1 : Turn [v] w (w.setCell ⟨v, 1, none⟩ (.pointer none)) := (Turn.refl [v] w).setCell (List.mem_singleton.2 rfl) 1 _
  have ho1 := h.obj.same (hT1.block st h.obj.lt (by simp; exact hvs.symm))
  have h4 := ho1.c4
  have f4 := ho1.fz 4
  have h01 : (w.setCell ⟨v, 1, none⟩ (.pointer none)).cell? ⟨v, 0, none⟩ = some (.pointer (some ⟨st, 0, none⟩)) := (World.cell?_setCell_other _ _ _ _ (off_ne (by omega))).trans h0
  have hT2 : Turn [v, st] w ((w.setCell ⟨v, 1, none⟩ (.pointer none)).setCell ⟨st, 4, none⟩ (.int .i64 ((vw + 1 : Nat) : Int))) := (hT1.mono (by simp)).setCell (by simp) 4 _
  have hobj : StAt ((w.setCell ⟨v, 1, none⟩ (.pointer none)).setCell ⟨st, 4, none⟩ (.int .i64 ((vw + 1 : Nat) : Int))) st p t tx c (vw + 1) sg := ho1.set (vw' := vw + 1) 4 _ (by omega) rfl rfl rfl rfl
  have h02 : ((w.setCell ⟨v, 1, none⟩ (.pointer none)).setCell ⟨st, 4, none⟩ (.int .i64 ((vw + 1 : Nat) : Int))).cell? ⟨v, 0, none⟩ = some (.pointer (some ⟨st, 0, none⟩)) := (World.cell?_setCell_other _ _ _ _ (fun e => hvs (by injection e with e; exact e.symm))).trans h01
  have HG := hide (h.closing hO h0 hT2 hobj)
  have hK : KeepO (fun x => O x ∧ x ≠ v) w ((w.setCell ⟨v, 1, none⟩ (.pointer none)).setCell ⟨st, 4, none⟩ (.int .i64 ((vw + 1 : Nat) : Int))) := KeepO.of hT2 (fun x hx => by
    simp at hx
    rcases hx with rfl | rfl
    · exact ⟨fun e => e.2 rfl, h.tree.not1 (h.sub _ hO)⟩
    · exact ⟨fun e => h.nst e.1, h.tree.not1 h.ost⟩)
  have HK := hide hK
  have h42 := hobj.c4
  have e1 : ((vw + 2 : Nat) : Int) - 1 = ((vw + 1 : Nat) : Int) := by omega
  have e2 : (((vw + 1 : Nat) : Int) == 0) = false := by simp; omega
  clear h hT1 ho1 hT2 hobj hK
  go_enter Tryz.func23, Tryz.ntmps23
  go_wp2_with fail
  go_end0
  have e3 : ((vw : Int) + 2 - 1) = ((vw + 1 : Nat) : Int) := by omega
  rw [e3]
  exact ⟨rfl, ⟨_, _, _, _, HG.out⟩, HK.out⟩

set_option maxRecDepth 100000 in
set_option maxHeartbeats 1600000 in
/-- The last view is closed. -/
theorem xclose_last {w : World} {O : Nat → Prop} {st b m N c v : Nat} {fs : Option Bool} {tx : Option Nat} {did : Nat} {ld lv : List Kv} {ch : Bool} {l : List Kv} (h : StoreK w O st b m N c 1 fs tx did ld ch l) (hV : ViewAt w O v st lv) :
    Calls Tryz.prog 23 #[.pointer (some ⟨v, 0, none⟩)] w fun e w' => e = .returned (.tuple #[]) ∧ StoreK w' O st b m N c 0 (some true) tx did ld ch l ∧ KeepO (fun x => O x ∧ x ≠ v) w w' := by
  obtain ⟨OT, t, p, sg, h⟩ := h
  obtain ⟨⟨sv, a, cap, h1, -⟩, hO, h0, hz⟩ := hV
  have hvs : v ≠ st := fun e => h.nst (e ▸ hO)
  have hT1 : Turn [v] w (w.setCell ⟨v, 1, none⟩ (.pointer none)) := (Turn.refl [v] w).setCell (List.mem_singleton.2 rfl) 1 _
  have ho1 := h.obj.same (hT1.block st h.obj.lt (by simp; exact hvs.symm))
  have h4 : (w.setCell ⟨v, 1, none⟩ (.pointer none)).cell? ⟨st, 4, none⟩ = some (.int .i64 1) := ho1.c4
  have f4 := ho1.fz 4
  have h01 : (w.setCell ⟨v, 1, none⟩ (.pointer none)).cell? ⟨v, 0, none⟩ = some (.pointer (some ⟨st, 0, none⟩)) := (World.cell?_setCell_other _ _ _ _ (off_ne (by omega))).trans h0
  have hT2 : Turn [v, st] w ((w.setCell ⟨v, 1, none⟩ (.pointer none)).setCell ⟨st, 4, none⟩ (.int .i64 0)) := (hT1.mono (by simp)).setCell (by simp) 4 _
  have ho2 : StAt ((w.setCell ⟨v, 1, none⟩ (.pointer none)).setCell ⟨st, 4, none⟩ (.int .i64 0)) st p t tx c 0 sg := ho1.set (vw' := 0) 4 _ (by omega) rfl rfl rfl rfl
  have h02 : ((w.setCell ⟨v, 1, none⟩ (.pointer none)).setCell ⟨st, 4, none⟩ (.int .i64 0)).cell? ⟨v, 0, none⟩ = some (.pointer (some ⟨st, 0, none⟩)) := (World.cell?_setCell_other _ _ _ _ (fun e => hvs (by injection e with e; exact e.symm))).trans h01
  have hs2 : ((w.setCell ⟨v, 1, none⟩ (.pointer none)).setCell ⟨st, 4, none⟩ (.int .i64 0)).heap.size = w.heap.size := by rw [World.size_setCell, World.size_setCell]
  have hnv : ∀ x ∈ [v, st], ¬ (O x ∧ x ≠ v) ∧ x ≠ 1 := fun x hx => by
    simp at hx
    rcases hx with rfl | rfl
    · exact ⟨fun e => e.2 rfl, h.tree.not1 (h.sub _ hO)⟩
    · exact ⟨fun e => h.nst e.1, h.tree.not1 h.ost⟩
  have hzs := zero_sight
  have h42 : ((w.setCell ⟨v, 1, none⟩ (.pointer none)).setCell ⟨st, 4, none⟩ (.int .i64 0)).cell? ⟨st, 4, none⟩ = some (.int .i64 0) := ho2.c4
  have s5 := ho2.c5
  have z5 := ho2.fz 5
  have H := hide h
  have HO2 := hide ho2
  have HT2 := hide hT2
  have HN := hide hnv
  have HVs := hide hvs
  have hstl := h.obj.lt
  clear h hT1 ho1 hT2 ho2 hnv h01 hvs
  go_enter Tryz.func23, Tryz.ntmps23
  go_wp2_with fail
  go_end0
  have hTs : Turn [st] ((w.setCell ⟨v, 1, none⟩ (.pointer none)).setCell ⟨st, 4, none⟩ (.int .i64 0)) (((w.setCell ⟨v, 1, none⟩ (.pointer none)).setCell ⟨st, 4, none⟩ (.int .i64 0)).setCell ⟨st, 5, none⟩ (.pointer (some ⟨w.heap.size, 0, none⟩))) := (Turn.refl [st] _).setCell (List.mem_singleton.2 rfl) 5 _
  have hz4 : (((w.setCell ⟨v, 1, none⟩ (.pointer none)).setCell ⟨st, 4, none⟩ (.int .i64 0)).setCell ⟨st, 5, none⟩ (.pointer (some ⟨w.heap.size, 0, none⟩))).heap.size = w.heap.size := by rw [World.size_setCell, hs2]
  have hTa : Turn [] (((w.setCell ⟨v, 1, none⟩ (.pointer none)).setCell ⟨st, 4, none⟩ (.int .i64 0)).setCell ⟨st, 5, none⟩ (.pointer (some ⟨w.heap.size, 0, none⟩))) ((((w.setCell ⟨v, 1, none⟩ (.pointer none)).setCell ⟨st, 4, none⟩ (.int .i64 0)).setCell ⟨st, 5, none⟩ (.pointer (some ⟨w.heap.size, 0, none⟩))).alloc (.cells #[.int .u32 0, .int .i32 0, .int .u32 0, .slice none 0 0] 97)) := (Turn.refl [] _).alloc _
  have hTz := (HT2.out.trans (hTs.mono (by simp))).trans (hTa.mono (by simp))
  have hO4 := (HO2.out.set (sg' := w.heap.size) 5 (.pointer (some ⟨w.heap.size, 0, none⟩)) (by omega) rfl rfl rfl rfl).same (hTa.block st (by omega) (by simp))
  have hSg := sight_new _ _ hz4
  exact ⟨rfl, ⟨_, _, _, _, H.out.fresh hO hTz ⟨Nat.le_refl _, by simp⟩ hO4 hSg⟩, KeepO.of hTz HN.out⟩

end Go.Proofs.YthgpjkcgccdldaaGreatDoor

namespace Go.Proofs.YthgpjkcgccdldaaGreatDoor
open Go.RowKit Go.Maps

/-- What was there stays. -/
theorem KeepO.olds {O : Nat → Prop} {B : Nat} {w w' : World} (h : KeepO O w w') (hO : ∀ x, x < B → x ≠ 1 → O x) : KeepO (fun x => x < B) w w' := by
  obtain ⟨X, hT, hX⟩ := h
  exact ⟨X, hT, fun x hx => ⟨fun hl => (hX x hx).1 (hO x hl (hX x hx).2), (hX x hx).2⟩⟩

set_option maxRecDepth 100000 in
set_option maxHeartbeats 3200000 in
theorem yknown_any (w : World) (hTab : Tab w) (hw : 2 ≤ w.heap.size) : Calls Tryz.prog 8 #[] w fun e w' => e = .returned (.bool true) ∧ Tab w' ∧ w.heap.size ≤ w'.heap.size ∧ KeepO (fun x => x < w.heap.size) w w' := by
  have HNew := hide (new_any 256 (by omega) (by omega) w)
  have HTab := hide hTab
  clear hTab
  go_enter Tryz.func8, Tryz.ntmps8
  go_wp2_with fail
  refine HNew.out.mono ?_
  rintro e w1 ⟨rfl, hD, hT1, hs1⟩
  have HDk := hide (dsk_new (by omega) (by omega) hD (HTab.out.turn hT1 (by simp)) ⟨by omega, by omega⟩)
  have HOp := hide (xopen HDk.out (fun x => x < w.heap.size ∧ x ≠ 1) (fun x hx => by omega) ⟨by omega, by omega, by omega⟩ (by simp))
  have HK1 : Hid (KeepO (fun x => x < w.heap.size) w w1) := KeepO.of hT1 (by simp)
  clear hD hT1
  go_wp2_with fail
  refine HOp.out.mono ?_
  rintro e w2 ⟨st, rfl, hst, hlt2, hT2⟩
  have hs2 := hT2.size
  have HK2 : Hid (KeepO (fun x => x < w.heap.size) w w2) := HK1.out.trans (KeepO.of hT2 (by simp))
  have HL := hide (xlook_new hst (by omega) (comall_none (by simp)))
  clear hst hT2
  go_wp2_with fail
  refine HL.out.mono ?_
  rintro e w3 ⟨v, O1, rfl, hst, hv, hK3, hsub, hlt⟩
  have hs3 := hK3.size
  have HV := hide hv
  have HK3 : Hid (KeepO (fun x => x < w.heap.size) w w3) := HK2.out.trans (hK3.olds fun x h1 h2 => ⟨h1, h2⟩)
  have HSub : Hid (∀ x, x < w.heap.size → x ≠ 1 → O1 x) := fun x h1 h2 => hsub x ⟨h1, h2⟩
  have HB := hide (xbegin hst)
  clear hst hv hK3 hsub hlt
  go_wp2_with fail
  refine HB.out.mono ?_
  rintro e w4 ⟨tb, rfl, hst, hK4, hlt4⟩
  have hs4 := hK4.size
  have HK4 : Hid (KeepO (fun x => x < w.heap.size) w w4) := HK3.out.trans (hK4.olds HSub.out)
  have HV4 := hide (HV.out.keep hK4 (fun _ h => h))
  have HP := hide (xput_ok hst ⟨#[97]⟩ ⟨#[49]⟩ (by decide) (by decide) (by decide) (by decide) (by simp) (by simp) (by omega))
  clear hst hK4 hlt4
  go_wp2_with fail
  refine HP.out.mono ?_
  rintro e w5 ⟨rfl, hst, hK5⟩
  have hs5 := hK5.size
  have hl' : putK [] ⟨#[97]⟩ ⟨#[49]⟩ = [((⟨#[97]⟩ : ByteArray), (⟨#[49]⟩ : ByteArray))] := rfl
  rw [hl'] at hst
  have HK5 : Hid (KeepO (fun x => x < w.heap.size) w w5) := HK4.out.trans (hK5.olds HSub.out)
  have HV5 := hide (HV4.out.keep hK5 (fun _ h => h))
  have HC := hide (xcommit hst (by simp) (by simp) (by omega) (by omega))
  clear hst hK5 hl'
  go_wp2_with fail
  refine HC.out.mono ?_
  rintro e w6 ⟨rfl, hst, hK6, -⟩
  have hs6 := hK6.size
  have HK6 : Hid (KeepO (fun x => x < w.heap.size) w w6) := HK5.out.trans (hK6.olds HSub.out)
  have HV6 := hide (HV5.out.keep hK6 (fun _ h => h))
  have HSt6 := hide hst
  clear hst hK6
  have HG6 := hide (xget HV6.out ⟨#[97]⟩ List.Pairwise.nil (by simp))
  have hg6 : gotV (getK [] ⟨#[97]⟩) = .tuple #[.string ⟨#[]⟩, .bool false] := rfl
  rw [hg6] at HG6
  clear hg6
  go_wp2_with fail
  refine HG6.out.mono ?_
  rintro e w7 ⟨rfl, hT7⟩
  have hs7 := hT7.size
  have HK7 : Hid (KeepO (fun x => x < w.heap.size) w w7) := HK6.out.trans (KeepO.of hT7 (by simp))
  have HL8 := hide (xlook_new (HSt6.out.turn0 hT7) (by omega) (comall_none (by simp)))
  clear hT7
  go_wp2_with fail
  refine HL8.out.mono ?_
  rintro e w8 ⟨v8, O8, rfl, hst, hv8, hK8, hsub8, hlt8⟩
  have hs8 := hK8.size
  have HSt8 := hide hst
  have HK8 : Hid (KeepO (fun x => x < w.heap.size) w w8) := HK7.out.trans (hK8.olds HSub.out)
  have HG8 := hide (xget hv8 ⟨#[97]⟩ (List.pairwise_singleton _ _) (by simp))
  have hg8 : gotV (getK [((⟨#[97]⟩ : ByteArray), (⟨#[49]⟩ : ByteArray))] ⟨#[97]⟩) = .tuple #[.string ⟨#[49]⟩, .bool true] := rfl
  rw [hg8] at HG8
  clear hst hv8 hK8 hsub8 hlt8 hg8
  go_wp2_with fail
  refine HG8.out.mono ?_
  rintro e w9 ⟨rfl, hT9⟩
  have hs9 := hT9.size
  have HK9 : Hid (KeepO (fun x => x < w.heap.size) w w9) := HK8.out.trans (KeepO.of hT9 (by simp))
  have HSt9 := hide (HSt8.out.turn0 hT9)
  clear hT9
  go_wp2_with fail
  refine (xcommits HSt9.out).mono ?_
  rintro e w10 ⟨rfl, e10⟩
  obtain rfl : w9 = w10 := e10.symm
  go_wp2_with fail
  go_ret
  exact ⟨rfl, HK9.out.tab HTab.out, by omega, HK9.out⟩

end Go.Proofs.YthgpjkcgccdldaaGreatDoor

namespace Go.Proofs.YthgpjkcgccdldaaGreatDoor
open Go.RowKit Go.Maps

set_option maxRecDepth 100000 in
set_option maxHeartbeats 1600000 in
/-- A transaction's Scan of all. -/
theorem xtscan {w : World} {O : Nat → Prop} {st b m N c vw : Nat} {fs : Option Bool} {tb did : Nat} {ld : List Kv} {ch : Bool} {l : List Kv} (h : StoreK w O st b m N c vw fs (some tb) did ld ch l) (hl : l.length ≤ 100000) :
    Calls Tryz.prog 21 #[.pointer (some ⟨tb, 0, none⟩), .string ⟨#[]⟩, .string ⟨#[]⟩, .int .i64 0] w fun e w' => ∃ ra rc, e = .returned (.slice ra l.length rc) ∧ KVsAt w' ra l ∧ StoreK w' O st b m N c vw fs (some tb) did ld ch l ∧ KeepO O w w' := by
  obtain ⟨OT, t, p, sg, h⟩ := h
  obtain ⟨mb, sz, nt, hx, -⟩ := h.txs
  have hx0 := hx.c0
  have h1 := h.obj.c1
  have HC := hide (tgk_scan h.tree ⟨#[]⟩ ⟨#[]⟩ 0 hl)
  rw [scanL_all] at HC
  have H := hide h
  obtain ⟨n, hn⟩ : ∃ n, l.length = n := ⟨_, rfl⟩
  have HNn := hide hn
  rw [hn] at HC hl ⊢
  clear h hn hx
  go_enter Tryz.func21, Tryz.ntmps21
  go_wp2_with fail
  refine (isOver_no hx0).mono ?_
  rintro e w1 ⟨rfl, rfl⟩
  go_wp2_with fail
  refine HC.out.mono ?_
  rintro e w2 ⟨r, rfl, hO, hT1, hK1⟩
  obtain ⟨ra, rc, rfl⟩ := own_form hO
  obtain ⟨a', c', e', hn', _, hpr, _⟩ := own_pairs hO
  injection e' with e1 e2 e3
  subst e1
  have HKv := hide hpr.kvs
  have HS := hide (H.out.tree' hK1 (hT1.turn (Turn.refl [] w2) (by simp) (fun x hx => .inl (.inl hx)) (fun x hx => Nat.lt_of_lt_of_le (H.out.ob x hx) hK1.size)))
  have HK1 := hide hK1
  clear hO hT1 hK1 hpr e2 e3 hn'
  go_wp2_with fail
  go_ret
  exact ⟨_, _, rfl, HKv.out, ⟨_, _, _, _, HS.out⟩, HK1.out.less H.out.sub⟩

/-- Look, whoever looked before. -/
theorem xlook_any {w : World} {O : Nat → Prop} {st b m N c vw : Nat} {z : Bool} {tx : Option Nat} {did : Nat} {ld : List Kv} {ch : Bool} {l : List Kv} (h : StoreK w O st b m N c vw (some z) tx did ld ch l) (hvw : vw ≤ 15) (hC : ComAll b m N c tx did ld ch l) :
    Calls Tryz.prog 22 #[.pointer (some ⟨st, 0, none⟩)] w fun e w' => ∃ v O', e = .returned (.pointer (some ⟨v, 0, none⟩)) ∧ StoreK w' O' st b m N c (vw + 1) (some false) tx did ld ch l ∧ ViewAt w' O' v st ld ∧ KeepO O w w' ∧ (∀ x, O x → O' x) ∧ w.heap.size ≤ v := by
  cases z with
  | true => exact xlook_new h hvw hC
  | false => exact xlook_old h hvw

/-- A view is closed, whatever others are open. -/
theorem xclose_any {w : World} {O : Nat → Prop} {st b m N c vw v : Nat} {z : Bool} {tx : Option Nat} {did : Nat} {ld lv : List Kv} {ch : Bool} {l : List Kv} (h : StoreK w O st b m N c (vw + 1) (some z) tx did ld ch l) (hV : ViewAt w O v st lv) (hvw : vw ≤ 100) :
    Calls Tryz.prog 23 #[.pointer (some ⟨v, 0, none⟩)] w fun e w' => e = .returned (.tuple #[]) ∧ (∃ z', StoreK w' O st b m N c vw (some z') tx did ld ch l) ∧ KeepO (fun x => O x ∧ x ≠ v) w w' := by
  cases vw with
  | zero =>
    refine (xclose_last h hV).mono ?_
    rintro e w' ⟨rfl, h1, h2⟩
    exact ⟨rfl, ⟨_, h1⟩, h2⟩
  | succ n =>
    refine (xclose h hV (by omega)).mono ?_
    rintro e w' ⟨rfl, h1, h2⟩
    exact ⟨rfl, ⟨_, h1⟩, h2⟩

/-- Commit, whatever was changed. -/
theorem xcommit_any {w : World} {O : Nat → Prop} {st b m N c vw : Nat} {z : Bool} {tb did : Nat} {ld l : List Kv} {ch : Bool} (h : StoreK w O st b m N c vw (some z) (some tb) did ld ch l) (hn : 2 * l.length + 2 * ld.length + 10 ≤ N) (hl : l.length ≤ 1900 ∧ ld.length ≤ 1900) (hc : c ≤ 140) (hd1 : did ≤ 1000000) :
    Calls Tryz.prog 19 #[.pointer (some ⟨tb, 0, none⟩)] w fun e w' => e = .returned (.int .i64 0) ∧ (∃ c' z', c' ≤ c + 1 ∧ StoreK w' O st b m N c' vw (some z') none 0 l false l) ∧ KeepO O w w' := by
  cases ch with
  | true =>
    refine (xcommit h hn hl hc hd1).mono ?_
    rintro e w' ⟨rfl, h1, h2, -⟩
    exact ⟨rfl, ⟨_, _, Nat.le_refl _, h1⟩, h2⟩
  | false =>
    have e : l = ld := by
      obtain ⟨OT, t, p, sg, h⟩ := h
      exact h.tree.same
    refine (xcommit_no h hn hl hc).mono ?_
    rintro e' w' ⟨rfl, h1, h2, -⟩
    rw [e]
    exact ⟨rfl, ⟨_, _, Nat.le_succ _, h1⟩, h2⟩

theorem StoreK.risesK {w : World} {O : Nat → Prop} {st b m N c vw : Nat} {fs : Option Bool} {tx : Option Nat} {did : Nat} {ld : List Kv} {ch : Bool} {l : List Kv} (h : StoreK w O st b m N c vw fs tx did ld ch l) : Rises (keysOf l) ∧ Rises (keysOf ld) := by
  obtain ⟨OT, t, p, sg, h⟩ := h
  exact h.tree.rises
theorem StoreK.obK {w : World} {O : Nat → Prop} {st b m N c vw : Nat} {fs : Option Bool} {tx : Option Nat} {did : Nat} {ld : List Kv} {ch : Bool} {l : List Kv} (h : StoreK w O st b m N c vw fs tx did ld ch l) : ∀ x, O x → x < w.heap.size := by
  obtain ⟨OT, t, p, sg, h⟩ := h
  exact fun x hx => h.ob x (h.sub x hx)
theorem StoreK.moreK {w w' : World} {O : Nat → Prop} {st b m N c vw : Nat} {fs : Option Bool} {tx : Option Nat} {did : Nat} {ld : List Kv} {ch : Bool} {l : List Kv} (h : StoreK w O st b m N c vw fs tx did ld ch l) (hT : Turn [] w w') : StoreK w' (More O w w') st b m N c vw fs tx did ld ch l :=
  h.more hT (fun _ hx => .inl hx) (fun _ hx => hx.imp id (fun h => h.1)) (fun x hx => hx.elim (fun h1 => Nat.lt_of_lt_of_le (h.obK x h1) hT.size) (fun h => h.2))

/-- The law's Put of a row. -/
theorem lput_row {w : World} {O : Nat → Prop} {a : Option Addr} (cap : Nat) {l : List Kv} (h : RowO w O a l) (k v : ByteArray) (hs : 1 < w.heap.size) (hlen : l.length ≤ 900) (hr : Rises (keysOf l)) :
    Calls Tryz.prog 15 #[.slice a l.length cap, .string k, .string v] w fun e w' => ∃ a' c', e = .returned (.slice a' (putK l k v).length c') ∧ RowO w' (More O w w') a' (putK l k v) ∧ Turn [] w w' := by
  refine (lputl_any a cap l k v hlen hr w h.kv).mono ?_
  rintro e w' ⟨r, i, rfl, hp, hO, hT⟩
  rw [put_law hp] at hO
  obtain ⟨a', c', rfl, hR⟩ := RowO.new hs hO
  exact ⟨a', c', rfl, hR, hT⟩

end Go.Proofs.YthgpjkcgccdldaaGreatDoor

namespace Go.Proofs.YthgpjkcgccdldaaGreatDoor
open Go.RowKit Go.Maps

/-- What stands still beside the store: the groups, and the row of the three. -/
structure AbO (W wr : World) (gb : Nat) (ga ha : Option Addr) (gl hl : List Kv) (gc hc : Nat) (O : Nat → Prop) : Prop where
  sub : ∀ x, x < W.heap.size → x ≠ 1 → O x
  og : O gb
  turn : Turn [] W wr
  tab : Tab wr
  c0 : wr.cell? ⟨gb, 0, none⟩ = some (.slice ga gl.length gc)
  c2 : wr.cell? ⟨gb, 2, none⟩ = some (.slice ha hl.length hc)
  c4 : wr.cell? ⟨gb, 4, none⟩ = some (.slice ga gl.length gc)
theorem AbO.keep {W wr w' : World} {gb : Nat} {ga ha : Option Addr} {gl hl : List Kv} {gc hc : Nat} {O O' : Nat → Prop} (h : AbO W wr gb ga ha gl hl gc hc O) (hK : KeepO O wr w') (hO : ∀ x, O x → O' x) : AbO W w' gb ga ha gl hl gc hc O' := by
  have hc : ∀ o v, wr.cell? ⟨gb, o, none⟩ = some v → w'.cell? ⟨gb, o, none⟩ = some v := fun o v hv => (World.cell?_of_block (a := ⟨gb, o, none⟩) (hK.block h.og (lt_of_cell hv))).trans hv
  refine ⟨fun x h1 h2 => hO x (h.sub x h1 h2), hO gb h.og, ?_, hK.tab h.tab, hc 0 _ h.c0, hc 2 _ h.c2, hc 4 _ h.c4⟩
  obtain ⟨X, hT, hX⟩ := hK
  refine h.turn.then hT (fun x hx => .inr ?_)
  have h1 := hX x hx
  by_cases hl : x < W.heap.size
  · exact absurd (h.sub x hl h1.2) h1.1
  · omega
theorem AbO.more {W wr w' : World} {gb : Nat} {ga ha : Option Addr} {gl hl : List Kv} {gc hc : Nat} {O O' : Nat → Prop} (h : AbO W wr gb ga ha gl hl gc hc O) (hT : Turn [] wr w') (hO : ∀ x, O x → O' x) : AbO W w' gb ga ha gl hl gc hc O' := h.keep (KeepO.of hT (by simp)) hO
theorem grp_all {W : World} {gb : Nat} {ga ha : Option Addr} {gl hl : List Kv} {gc hc : Nat} (hg : KVsAt W ga gl) (hh : KVsAt W ha hl) {k : Nat} (hk : k < 3) : ∃ xa xl xc, (xl = gl ∨ xl = hl) ∧ ∀ (wr : World) (O : Nat → Prop), AbO W wr gb ga ha gl hl gc hc O → wr.cell? ⟨gb, k * 2, none⟩ = some (.slice xa (xl : List Kv).length xc) ∧ KVsAt wr xa xl := by
  rcases (show k = 0 ∨ k = 1 ∨ k = 2 by omega) with rfl | rfl | rfl
  · exact ⟨ga, gl, gc, .inl rfl, fun wr O h => ⟨h.c0, hg.turn0 h.turn⟩⟩
  · exact ⟨ha, hl, hc, .inr rfl, fun wr O h => ⟨h.c2, hh.turn0 h.turn⟩⟩
  · exact ⟨ga, gl, gc, .inl rfl, fun wr O h => ⟨h.c4, hg.turn0 h.turn⟩⟩

/-- Between the rounds. -/
def AbI (W wr : World) (st b m gb : Nat) (ga ha : Option Addr) (gl hl : List Kv) (gc hc : Nat) (k : Nat) (dn : Value) : Prop :=
  ∃ (O : Nat → Prop) (c vw : Nat) (z : Bool) (da : Option Addr) (dc : Nat) (dl : List Kv), dn = .slice da dl.length dc ∧ RowO wr O da dl ∧ StoreK wr O st b m 1024 c vw (some z) none 0 dl false dl ∧ c ≤ k ∧ vw ≤ k ∧ dl.length ≤ 30 * k ∧ AbO W wr gb ga ha gl hl gc hc O
/-- In a round: i keys were put. -/
def AbN (W wr : World) (st b m gb : Nat) (ga ha : Option Addr) (gl hl : List Kv) (gc hc : Nat) (da : Option Addr) (dl : List Kv) (c vw : Nat) (z : Bool) (tb i : Nat) (nw : Value) : Prop :=
  ∃ (O : Nat → Prop) (did : Nat) (ch : Bool) (na : Option Addr) (nc : Nat) (nl : List Kv), nw = .slice na nl.length nc ∧ RowO wr O na nl ∧ RowO wr O da dl ∧ StoreK wr O st b m 1024 c vw (some z) (some tb) did dl ch nl ∧ did ≤ i ∧ nl.length ≤ dl.length + i ∧ AbO W wr gb ga ha gl hl gc hc O

set_option maxRecDepth 100000 in
set_option maxHeartbeats 6400000 in
theorem aborts_any (ga : Option Addr) (gc : Nat) (gl : List Kv) (gd : Option Addr) (gn gdc : Nat) (ha : Option Addr) (hc : Nat) (hl : List Kv) (hd : Option Addr) (hn hdc : Nat) (hgl : gl.length ≤ 140737488351232) (hhl : hl.length ≤ 140737488351232) (W : World) (hTab : Tab W) (hg : KVsAt W ga gl) (hh : KVsAt W ha hl) (hgz : ∀ x ∈ gl, x.1.size ≤ 140737488351232 ∧ x.2.size ≤ 140737488351232) (hhz : ∀ x ∈ hl, x.1.size ≤ 140737488351232 ∧ x.2.size ≤ 140737488351232) :
    Calls Tryz.prog 7 #[.agg #[.slice ga gl.length gc, .slice gd gn gdc], .agg #[.slice ha hl.length hc, .slice hd hn hdc]] W fun e w' => e = .returned (.bool true) ∧ Turn [] W w' := by
  obtain ⟨gk, HGk, hgk⟩ : ∃ gk, Hid (gl.length = gk) ∧ gk ≤ 140737488351232 := ⟨_, rfl, hgl⟩
  obtain ⟨hk, HHk, hhk⟩ : ∃ hk, Hid (hl.length = hk) ∧ hk ≤ 140737488351232 := ⟨_, rfl, hhl⟩
  rw [HGk.out, HHk.out]
  clear hgl hhl
  have HG := hide hg
  have HH := hide hh
  have HGz := hide hgz
  have HHz := hide hhz
  have h1s : 1 < W.heap.size := lt_of_cell (hTab 0 (by omega))
  have hT2 : Turn [] W ((W.alloc (.cells #[.slice ga gk gc, .slice gd gn gdc] 65)).alloc (.cells #[.slice ha hk hc, .slice hd hn hdc] 65)) := ((Turn.refl [] W).alloc _).alloc _
  have HTab2 := hide (hTab.turn hT2 (by simp))
  have hz2 : ((W.alloc (.cells #[.slice ga gk gc, .slice gd gn gdc] 65)).alloc (.cells #[.slice ha hk hc, .slice hd hn hdc] 65)).heap.size = W.heap.size + 2 := by simp
  have c0 : ((W.alloc (.cells #[.slice ga gk gc, .slice gd gn gdc] 65)).alloc (.cells #[.slice ha hk hc, .slice hd hn hdc] 65)).cell? ⟨W.heap.size, 0, none⟩ = some (.slice ga gk gc) := Lib.cell?_alloc_some _ (World.cell?_alloc_at _ _ _ _ rfl)
  have c1 : ((W.alloc (.cells #[.slice ga gk gc, .slice gd gn gdc] 65)).alloc (.cells #[.slice ha hk hc, .slice hd hn hdc] 65)).cell? ⟨W.heap.size, 1, none⟩ = some (.slice gd gn gdc) := Lib.cell?_alloc_some _ (World.cell?_alloc_at _ _ _ _ rfl)
  have c2 : ((W.alloc (.cells #[.slice ga gk gc, .slice gd gn gdc] 65)).alloc (.cells #[.slice ha hk hc, .slice hd hn hdc] 65)).cell? ⟨W.heap.size + 1, 0, none⟩ = some (.slice ha hk hc) := World.cell?_alloc_at _ _ _ _ (by simp)
  have c3 : ((W.alloc (.cells #[.slice ga gk gc, .slice gd gn gdc] 65)).alloc (.cells #[.slice ha hk hc, .slice hd hn hdc] 65)).cell? ⟨W.heap.size + 1, 1, none⟩ = some (.slice hd hn hdc) := World.cell?_alloc_at _ _ _ _ (by simp)
  have HC := hide (show _ ∧ _ ∧ _ ∧ _ from ⟨c0, c1, c2, c3⟩)
  have HT2 := hide hT2
  clear hg hh hgz hhz hTab hT2 c0 c1 c2 c3
  go_enter Tryz.func7, Tryz.ntmps7
  go_wp2_with fail
  generalize (W.alloc (.cells #[.slice ga gk gc, .slice gd gn gdc] 65)).alloc (.cells #[.slice ha hk hc, .slice hd hn hdc] 65) = w2 at *
  refine (yknown_any w2 HTab2.out (by omega)).mono ?_
  rintro e w3 ⟨rfl, hTab3, hs3, hK3⟩
  have hc3 : ∀ (x o : Nat) (u : Value), x < w2.heap.size → w2.cell? ⟨x, o, none⟩ = some u → w3.cell? ⟨x, o, none⟩ = some u := fun x o u hx hu => (World.cell?_of_block (a := ⟨x, o, none⟩) (hK3.block hx hx)).trans hu
  have d0 := hc3 _ _ _ (by omega) HC.out.1
  have d1 := hc3 _ _ _ (by omega) HC.out.2.1
  have d2 := hc3 _ _ _ (by omega) HC.out.2.2.1
  have d3 := hc3 _ _ _ (by omega) HC.out.2.2.2
  have hT3 : Turn [] W w3 := by
    obtain ⟨X, hX, hX1⟩ := hK3
    exact HT2.out.then hX (fun x hx => .inr (by have := (hX1 x hx).1; omega))
  have HT3 := hide hT3
  have HTab3 := hide hTab3
  clear hK3 hT3 hTab3 hc3
  by_cases hmany : gk + hk ≤ 30
  · have hgt : decide ((30 : Int) < (gk : Int) + (hk : Int)) = false := by simp; omega
    have HNew := hide (new_any 1024 (by omega) (by omega) w3)
    go_wp2_with fail
    refine HNew.out.mono ?_
    rintro e w4 ⟨rfl, hD4, hT4, hs4⟩
    have HDk := hide (dsk_new (by omega) (by omega) hD4 (HTab3.out.turn hT4 (by simp)) ⟨by omega, by omega⟩)
    have HOp := hide (xopen HDk.out (fun x => x < w3.heap.size ∧ x ≠ 1) (fun x hx => by omega) ⟨by omega, by omega, by omega⟩ (by simp))
    have d0' := (hT4.cell (p := ⟨W.heap.size, 0, none⟩) (lt_of_cell d0) (by simp)).trans d0
    have d1' := (hT4.cell (p := ⟨W.heap.size, 1, none⟩) (lt_of_cell d1) (by simp)).trans d1
    have d2' := (hT4.cell (p := ⟨W.heap.size + 1, 0, none⟩) (lt_of_cell d2) (by simp)).trans d2
    have d3' := (hT4.cell (p := ⟨W.heap.size + 1, 1, none⟩) (lt_of_cell d3) (by simp)).trans d3
    have HT4 := hide (HT3.out.trans hT4)
    have HTab4 := hide (HTab3.out.turn hT4 (by simp))
    clear hD4 hT4 d0 d1 d2 d3
    go_wp2_with fail
    refine HOp.out.mono ?_
    rintro e w5 ⟨st, rfl, hst, hlt5, hT5⟩
    have e0 := (hT5.cell (p := ⟨W.heap.size, 0, none⟩) (lt_of_cell d0') (by simp)).trans d0'
    have e1 := (hT5.cell (p := ⟨W.heap.size, 1, none⟩) (lt_of_cell d1') (by simp)).trans d1'
    have e2 := (hT5.cell (p := ⟨W.heap.size + 1, 0, none⟩) (lt_of_cell d2') (by simp)).trans d2'
    have e3 := (hT5.cell (p := ⟨W.heap.size + 1, 1, none⟩) (lt_of_cell d3') (by simp)).trans d3'
    have HT5 := hide (HT4.out.trans hT5)
    have HTab5 := hide (HTab4.out.turn hT5 (by simp))
    have HSt5 := hide hst
    have h5s := hT5.size
    have hTb : Turn [] w5 (w5.alloc (.cells #[.slice ga gk gc, .slice gd gn gdc, .slice ha hk hc, .slice hd hn hdc, .slice ga gk gc, .slice gd gn gdc] 65)) := (Turn.refl [] w5).alloc _
    have HI0 : Hid (AbI W (w5.alloc (.cells #[.slice ga gk gc, .slice gd gn gdc, .slice ha hk hc, .slice hd hn hdc, .slice ga gk gc, .slice gd gn gdc] 65)) st (w3.heap.size + 1) w3.heap.size w5.heap.size ga ha gl hl gc hc 0 (.slice none 0 0)) := by
      refine ⟨_, 0, 0, true, none, 0, [], rfl, RowO.nil _ _ _, hst.moreK hTb, Nat.le_refl _, Nat.le_refl _, by simp, ⟨fun x h1 h2 => .inl ⟨by omega, h2⟩, .inr ⟨Nat.le_refl _, by simp⟩, HT5.out.trans hTb, HTab5.out.turn hTb (by simp), ?_, ?_, ?_⟩⟩
      · rw [HGk.out]; exact World.cell?_alloc_at _ _ _ _ rfl
      · rw [HHk.out]; exact World.cell?_alloc_at _ _ _ _ rfl
      · rw [HGk.out]; exact World.cell?_alloc_at _ _ _ _ rfl
    clear hst hT5 d0' d1' d2' d3' hTb
    go_wp2_with fail
    generalize w5.alloc (.cells #[.slice ga gk gc, .slice gd gn gdc, .slice ha hk hc, .slice hd hn hdc, .slice ga gk gc, .slice gd gn gdc] 65) = w6 at *
    have HMany := hide hmany
    obtain ⟨gb, HGb⟩ : ∃ gb, Hid (w5.heap.size = gb) := ⟨_, rfl⟩
    obtain ⟨b, HBb⟩ : ∃ b, Hid (w3.heap.size + 1 = b) := ⟨_, rfl⟩
    obtain ⟨m, HMm⟩ : ∃ m, Hid (w3.heap.size = m) := ⟨_, rfl⟩
    rw [HGb.out, HBb.out, HMm.out] at HI0
    simp only [HGb.out]
    clear e0 e1 e2 e3 hgt
    go_loopw [9, 11, 12, 13, 14, 15, 16] (fun dn kv _ _ _ _ _ wr => ∃ k : Nat, k ≤ 3 ∧ kv = .int .i64 (k : Nat) ∧ Hid (AbI W wr st b m gb ga ha gl hl gc hc k dn)) (fun _ kv _ _ _ _ _ _ => 3 - (intOf kv).toNat)
    case atStart => exact ⟨0, by omega, rfl, HI0⟩
    case round =>
      obtain ⟨k, hk3, rfl, HI⟩ := hrel
      by_cases hlt : k < 3
      · obtain ⟨xa, xl, xc, hxs, hX⟩ := grp_all (gb := gb) (gc := gc) (hc := hc) HG.out HH.out hlt
        obtain ⟨xn, HXn, hxn⟩ : ∃ xn, Hid (xl.length = xn) ∧ xn ≤ 30 := by
          refine ⟨xl.length, rfl, ?_⟩
          have h1 := HGk.out
          have h2 := HHk.out
          rcases hxs with rfl | rfl <;> omega
        have HXz : Hid (∀ x ∈ xl, x.1.size ≤ 140737488351232 ∧ x.2.size ≤ 140737488351232) := by
          rcases hxs with rfl | rfl
          · exact HGz.out
          · exact HHz.out
        have HX := hide hX
        obtain ⟨O, c, vw, z, da, dc, dl, rfl, hR, hSt, hc, hv, hdl, hAb⟩ := HI.out
        have HBg := hide (xbegin hSt)
        have HRd := hide hR
        have HAb := hide hAb
        have HB := hide (show c ≤ k ∧ vw ≤ k ∧ dl.length ≤ 30 * k from ⟨hc, hv, hdl⟩)
        obtain ⟨dn, HDn⟩ : ∃ dn, Hid (dl.length = dn) := ⟨_, rfl⟩
        rw [HDn.out]
        clear hR hSt hc hv hdl hAb hX hxs HI HI0
        go_wp2_with fail
        refine HBg.out.mono ?_
        rintro e w7 ⟨tb, rfl, hSt7, hK7, hlt7⟩
        have HN0 : Hid (AbN W w7 st b m gb ga ha gl hl gc hc da dl c vw z tb 0 (.slice da dn dc)) := ⟨O, 0, false, da, dc, dl, by rw [HDn.out], HRd.out.keep hK7, HRd.out.keep hK7, hSt7, Nat.le_refl _, Nat.le_refl _, HAb.out.keep hK7 (fun _ h => h)⟩
        clear hSt7 hK7 hlt7 HRd HAb HBg
        go_wp2_with fail
        go_loopw [14, 15] (fun nw iv wr' => ∃ i : Nat, i ≤ xn ∧ iv = .int .i64 (i : Nat) ∧ Hid (AbN W wr' st b m gb ga ha gl hl gc hc da dl c vw z tb i nw)) (fun _ iv _ => xn - (intOf iv).toNat)
        case atStart => exact ⟨0, by omega, rfl, HN0⟩
        case round =>
          obtain ⟨i, hi, rfl, HNi⟩ := hrel
          by_cases hin : i < xn
          · obtain ⟨O2, did, ch, na, nc, nl, rfl, hRn, hRd, hSt, hdid, hnl, hAb⟩ := HNi.out
            have hil : i < xl.length := by rw [HXn.out]; exact hin
            obtain ⟨xb, xo, hxa, hq0, hq1⟩ := ((HX.out _ _ hAb).2).at hil
            subst hxa
            have HRn := hide hRn
            have HRd := hide hRd
            have HSt := hide hSt
            have HAb := hide hAb
            have HB2 := hide (show did ≤ i ∧ nl.length ≤ dl.length + i from ⟨hdid, hnl⟩)
            obtain ⟨nn, HNn⟩ : ∃ nn, Hid (nl.length = nn) := ⟨_, rfl⟩
            rw [HNn.out]
            have HKz := hide (HXz.out _ (List.getElem_mem hil))
            have HCf : Hid (∀ V : World, KeepO O2 wr V → V.cell? ⟨gb, k * 2, none⟩ = some (.slice (some ⟨xb, xo, none⟩) xn xc) ∧ V.cell? ⟨xb, xo + i * 2, none⟩ = some (.string xl[i].1) ∧ V.cell? ⟨xb, xo + i * 2 + 1, none⟩ = some (.string xl[i].2)) := fun V hV => by
              have h := HX.out V O2 (HAb.out.keep hV (fun _ h => h))
              obtain ⟨xb', xo', hxa', g0, g1⟩ := h.2.at hil
              injection hxa' with hxa'
              injection hxa' with e1 e2
              subst e1 e2
              exact ⟨by rw [h.1, HXn.out], g0, g1⟩
            have HC0 := hide (HCf.out wr (KeepO.refl _ _))
            obtain ⟨key, hkey⟩ : ∃ key, key = xl[i].1 := ⟨_, rfl⟩
            obtain ⟨val, hval⟩ : ∃ val, val = xl[i].2 := ⟨_, rfl⟩
            rw [← hkey, ← hval] at HCf HC0 HKz
            clear hkey hval hq0 hq1 hRn hRd hSt hAb hdid hnl hil HNi
            by_cases hok : 0 < key.size ∧ key.size ≤ 48 ∧ val.size ≤ 120
            · obtain ⟨hk1, hk2, hk3'⟩ := hok
              have HPt : Hid (∀ V : World, Turn [] wr V → Calls Tryz.prog 13 #[.pointer (some ⟨tb, 0, none⟩), .string key, .string val] V fun e w' => e = .returned (.int .i64 0) ∧ StoreK w' O2 st b m 1024 c vw (some z) (some tb) (did + 1) dl true (putK nl key val) ∧ KeepO O2 wr w') := fun V hV => by
                have hB := HB2.out
                have hB' := HB.out
                refine (xput_ok (HSt.out.turn0 hV) key val HKz.out.1 hk1 hk2 hk3' (by omega) ⟨by omega, by omega⟩ (by omega)).mono ?_
                rintro e w' ⟨rfl, h1, h2⟩
                exact ⟨rfl, h1, (KeepO.of0 hV).trans h2⟩
              have HLp : Hid (∀ V : World, KeepO O2 wr V → StoreK V O2 st b m 1024 c vw (some z) (some tb) (did + 1) dl true (putK nl key val) → Calls Tryz.prog 15 #[.slice na nn nc, .string key, .string val] V fun e w' => ∃ v', e = .returned v' ∧ AbN W w' st b m gb ga ha gl hl gc hc da dl c vw z tb (i + 1) v' ∧ KeepO O2 wr w') := fun V hV hS => by
                have hB := HB2.out
                have hB' := HB.out
                have hsV := hV.size
                have h1V : 1 < V.heap.size := by
                  have h := (HAb.out.keep hV (fun _ h => h)).tab
                  exact lt_of_cell (h 0 (by omega))
                rw [← HNn.out]
                refine (lput_row nc (HRn.out.keep hV) key val h1V (by omega) HSt.out.risesK.1).mono ?_
                rintro e w' ⟨a', c', rfl, hR', hT'⟩
                have hput : (putK nl key val).length ≤ nl.length + 1 := by
                  have := putK_len (v := val) (k := key) HSt.out.risesK.1
                  by_cases h : (getK nl key).isSome = true
                  · rw [if_pos h] at this; omega
                  · rw [if_neg h] at this; omega
                exact ⟨_, rfl, ⟨_, did + 1, true, a', c', putK nl key val, rfl, hR', (HRd.out.keep hV).more hT' (fun _ h => .inl h), hS.moreK hT', by omega, by omega, (HAb.out.keep hV (fun _ h => h)).more hT' (fun _ h => .inl h)⟩, hV.trans (KeepO.of0 hT')⟩
              obtain ⟨y0, y1, y2⟩ := HC0.out
              clear hk1 hk2 hk3'
              go_upto_region 21 with fail
              refine wp_region_noPanic ?_
              go_region_held3 (fun V => V.cell? ⟨gb, k * 2, none⟩ = some (.slice (some ⟨xb, xo, none⟩) xn xc) ∧ V.cell? ⟨xb, xo + i * 2, none⟩ = some (.string key) ∧ V.cell? ⟨xb, xo + i * 2 + 1, none⟩ = some (.string val)) (first | exact HC0.out | assumption | exact HCf.out _ (KeepO.of0 (Turn.refl [] _).drew) | exact HCf.out _ HK2.out) (first | (go_at_call 13; with_reducible refine (HPt.out _ (Turn.refl [] _).drew).mono ?_; rintro e w8 ⟨rfl, hS8, hK8⟩; have HS8 := hide hS8; have HK2 := hide hK8; clear hS8 hK8))
              all_goals
                refine NoPanic.normal ?_
                clear y0 y1 y2
                obtain ⟨y0, y1, y2⟩ := HCf.out _ HK2.out
                go_upto_region 22 with fail
                refine wp_region_noPanic ?_
                have HLq := hide (HLp.out _ (HK2.out.trans (KeepO.of0 (Turn.refl [] w8).drew)) (HS8.out.turn0 (Turn.refl [] w8).drew))
                go_region_held3 (fun V => V.cell? ⟨gb, k * 2, none⟩ = some (.slice (some ⟨xb, xo, none⟩) xn xc) ∧ V.cell? ⟨xb, xo + i * 2, none⟩ = some (.string key) ∧ V.cell? ⟨xb, xo + i * 2 + 1, none⟩ = some (.string val)) (first | assumption | exact HCf.out _ HK2.out | exact HCf.out _ (HK2.out.trans (KeepO.of0 (Turn.refl [] _).drew)) | exact HCf.out _ HK9.out) (first | (go_at_call 15; with_reducible refine HLq.out.mono ?_; rintro e w9 ⟨v9, rfl, hN9, hK9⟩; have HN9 := hide hN9; have HK9 := hide hK9; clear hN9 hK9))
                all_goals
                  refine NoPanic.normal ?_
                  go_wp2_with fail
                  go_roundw
                  case rel => exact ⟨i + 1, by omega, by go_num, HN9⟩
                  case measure => simp [intOf]; omega
            · have hec : (mayE key val == 0) = false := by
                unfold mayE
                by_cases h1 : key.size = 0 ∨ 48 < key.size
                · rw [if_pos h1]; rfl
                · rw [if_neg h1, if_pos (by omega)]; rfl
              have HPt : Hid (∀ V : World, Turn [] wr V → Calls Tryz.prog 13 #[.pointer (some ⟨tb, 0, none⟩), .string key, .string val] V fun e w' => e = .returned (.int .i64 (mayE key val)) ∧ AbN W w' st b m gb ga ha gl hl gc hc da dl c vw z tb (i + 1) (.slice na nn nc) ∧ KeepO O2 wr w') := fun V hV => by
                refine (xput_no (HSt.out.turn0 hV) key val HKz.out.1 (by omega) HKz.out.1 HKz.out.2 (by have := HB2.out; omega)).mono ?_
                rintro e w' ⟨rfl, h1, h2⟩
                have hK := (KeepO.of0 hV).trans h2
                have hB := HB2.out
                exact ⟨rfl, ⟨O2, did, ch, na, nc, nl, by rw [HNn.out], HRn.out.keep hK, HRd.out.keep hK, h1, by omega, by omega, HAb.out.keep hK (fun _ h => h)⟩, hK⟩
              generalize mayE key val = ec at *
              obtain ⟨y0, y1, y2⟩ := HC0.out
              go_upto_region 21 with fail
              refine wp_region_noPanic ?_
              go_region_held3 (fun V => V.cell? ⟨gb, k * 2, none⟩ = some (.slice (some ⟨xb, xo, none⟩) xn xc) ∧ V.cell? ⟨xb, xo + i * 2, none⟩ = some (.string key) ∧ V.cell? ⟨xb, xo + i * 2 + 1, none⟩ = some (.string val)) (first | exact HC0.out | assumption | exact HCf.out _ (KeepO.of0 (Turn.refl [] _).drew) | exact HCf.out _ HK2.out) (first | (go_at_call 13; with_reducible refine (HPt.out _ (Turn.refl [] _).drew).mono ?_; rintro e w8 ⟨rfl, hN8, hK8⟩; have HN8 := hide hN8; have HK2 := hide hK8; clear hN8 hK8))
              all_goals
                refine NoPanic.normal ?_
                go_wp2_with fail
                go_roundw
                case rel => exact ⟨i + 1, by omega, by go_num, HN8⟩
                case measure => simp [intOf]; omega
          · obtain rfl : i = xn := by omega
            obtain ⟨O2, did, ch, na, nc, nl, rfl, hRn, hRd, hSt, hdid, hnl, hAb⟩ := HNi.out
            obtain ⟨y0, -⟩ := HX.out _ _ hAb
            rw [HXn.out] at y0
            have hB := HB.out
            have hris := hSt.risesK
            have hobK := hSt.obK
            have HLk := hide (xlook_any hSt (by omega) (comall_some (by omega) (by omega)))
            have HRn := hide hRn
            have HRd := hide hRd
            have HAb := hide hAb
            have HRs := hide hris
            have HOb := hide hobK
            have HB2 := hide (show nl.length ≤ dl.length + i ∧ did ≤ i from ⟨hnl, hdid⟩)
            obtain ⟨nn, HNn⟩ : ∃ nn, Hid (nl.length = nn) := ⟨_, rfl⟩
            rw [HNn.out]
            clear hRn hRd hSt hdid hnl hAb HNi hB hris hobK
            go_wp2_with fail
            refine HLk.out.mono ?_
            rintro e w10 ⟨v, O3, rfl, hSt10, hV10, hK10, hsub10, hvl⟩
            have HSb := hide (xtscan hSt10 (by have := HB2.out; have := HB.out; omega))
            have HV10 := hide hV10
            have HK10 := hide hK10
            have HSub := hide hsub10
            rw [HNn.out] at HSb
            clear hSt10 hV10 hK10 hsub10 y0
            go_wp2_with fail
            refine HSb.out.mono ?_
            rintro e w11 ⟨ra, rc, rfl, hKv11, hSt11, hK11⟩
            have HV11 := hide (HV10.out.keep hK11 (fun _ h => h))
            have HK11 := hide (HK10.out.trans (hK11.less HSub.out))
            have HSt11 := hide hSt11
            have HS1 := hide (lsame_any w11 ra na rc nc nl hKv11 (HRn.out.keep HK11.out).kv (by have := HB2.out; have := HB.out; omega))
            rw [HNn.out] at HS1
            clear hKv11 hSt11 hK11
            go_wp2_with fail
            refine HS1.out.mono ?_
            rintro e w12 ⟨rfl, hT12⟩
            have HSt12 := hide (HSt11.out.turn0 hT12)
            have HV12 := hide (HV11.out.keep (KeepO.of0 hT12) (fun _ h => h))
            have HK12 := hide (HK11.out.trans (KeepO.of0 hT12))
            have HSc := hide (xscan HV12.out HRs.out.2 (by have := HB.out; omega))
            rw [HDn.out] at HSc
            clear hT12
            go_wp2_with fail
            refine HSc.out.mono ?_
            rintro e w13 ⟨a13, c13, rfl, hKv13, -, hT13⟩
            have HK13 := hide (HK12.out.trans (KeepO.of0 hT13))
            have HS2 := hide (lsame_any w13 a13 da c13 dc dl hKv13 (HRd.out.keep HK13.out).kv (by have := HB.out; omega))
            rw [HDn.out] at HS2
            have HSt13 := hide (HSt12.out.turn0 hT13)
            have HV13 := hide (HV12.out.keep (KeepO.of0 hT13) (fun _ h => h))
            clear hKv13 hT13
            go_wp2_with fail
            refine HS2.out.mono ?_
            rintro e w14 ⟨rfl, hT14⟩
            have HK14 := hide (HK13.out.trans (KeepO.of0 hT14))
            have HSt14 := hide (HSt13.out.turn0 hT14)
            have HV14 := hide (HV13.out.keep (KeepO.of0 hT14) (fun _ h => h))
            have HCl := hide (xclose_any HSt14.out HV14.out (by have := HB.out; omega))
            clear hT14
            go_wp2_with fail
            refine HCl.out.mono ?_
            rintro e w15 ⟨rfl, ⟨z15, hSt15⟩, hK15⟩
            have hKz : KeepO O2 wr w15 := HK14.out.trans (hK15.less fun x hx => ⟨HSub.out x hx, fun e => by have := HOb.out x hx; omega⟩)
            have HSt15 := hide hSt15
            have HR15 := hide (show RowO w15 O3 da dl from (HRd.out.keep hKz).more (Turn.refl [] _) HSub.out)
            have HRn15 := hide (show RowO w15 O3 na nl from (HRn.out.keep hKz).more (Turn.refl [] _) HSub.out)
            have HAb15 := hide (HAb.out.keep hKz HSub.out)
            have HB3 := hide (show nl.length ≤ 30 * (k + 1) ∧ dl.length ≤ 30 * (k + 1) by have := HB2.out; have := HB.out; omega)
            clear hSt15 hK15 hKz HSb HS1 HSc HS2 HCl HLk
            by_cases hk1 : k = 1
            · subst hk1
              have HAt := hide (xabort HSt15.out)
              go_wp2_with fail
              refine HAt.out.mono ?_
              rintro e w16 ⟨rfl, hSt16, hK16, -⟩
              have HSt16 := hide hSt16
              have HR16 := hide (HR15.out.keep hK16)
              have HAb16 := hide (HAb15.out.keep hK16 (fun _ h => h))
              have HR16s := hide hSt16.risesK.1
              have HLm := hide (xlook_any hSt16 (by have := HB.out; omega) (comall_none (by have := HB3.out; omega)))
              clear hSt16 hK16
              go_wp2_with fail
              refine HLm.out.mono ?_
              rintro e w17 ⟨v2, O4, rfl, hSt17, hV17, hK17, hsub17, -⟩
              have HSt17 := hide hSt17
              have HK17 := hide hK17
              have HSub17 := hide hsub17
              have HSd := hide (xscan hV17 HR16s.out (by have := HB3.out; omega))
              rw [HDn.out] at HSd
              clear hSt17 hV17 hK17 hsub17 HLm
              go_wp2_with fail
              refine HSd.out.mono ?_
              rintro e w18 ⟨a18, c18, rfl, hKv18, -, hT18⟩
              have HK18 := hide (HK17.out.trans (KeepO.of0 hT18))
              have HSt18 := hide (HSt17.out.turn0 hT18)
              have HS3 := hide (lsame_any w18 a18 da c18 dc dl hKv18 (HR16.out.keep HK18.out).kv (by have := HB3.out; omega))
              rw [HDn.out] at HS3
              clear hKv18 hT18
              go_wp2_with fail
              refine HS3.out.mono ?_
              rintro e w19 ⟨rfl, hT19⟩
              have HK19 := hide (HK18.out.trans (KeepO.of0 hT19))
              have hSt19 := HSt18.out.turn0 hT19
              have HFin : Hid (AbI W w19 st b m gb ga ha gl hl gc hc (1 + 1) (.slice da dn dc)) := ⟨O4, c, vw + 1, false, da, dc, dl, by rw [HDn.out], (HR16.out.keep HK19.out).more (Turn.refl [] _) HSub17.out, hSt19, by have := HB.out; omega, by have := HB.out; omega, by have := HB3.out; omega, HAb16.out.keep HK19.out HSub17.out⟩
              clear hT19 hSt19
              go_wp2_with fail
              go_roundw
              case rel => exact ⟨1 + 1, by omega, by go_num, HFin⟩
              case measure => simp [intOf]
            · have hkk : ((k : Int) == 1) = false := by simp; omega
              have HCt := hide (xcommit_any HSt15.out (by have := HB3.out; omega) (by have := HB3.out; omega) (by have := HB.out; omega) (by have := HB2.out; omega))
              go_wp2_with fail
              refine HCt.out.mono ?_
              rintro e w16 ⟨rfl, ⟨c', z', hcc, hSt16⟩, hK16⟩
              have HSt16 := hide hSt16
              have HR16 := hide (HRn15.out.keep hK16)
              have HAb16 := hide (HAb15.out.keep hK16 (fun _ h => h))
              have HR16s := hide hSt16.risesK.1
              have HLm := hide (xlook_any hSt16 (by have := HB.out; omega) (comall_none (by have := HB3.out; omega)))
              clear hSt16 hK16
              go_wp2_with fail
              refine HLm.out.mono ?_
              rintro e w17 ⟨v2, O4, rfl, hSt17, hV17, hK17, hsub17, -⟩
              have HSt17 := hide hSt17
              have HK17 := hide hK17
              have HSub17 := hide hsub17
              have HSd := hide (xscan hV17 HR16s.out (by have := HB3.out; omega))
              rw [HNn.out] at HSd
              clear hSt17 hV17 hK17 hsub17 HLm
              go_wp2_with fail
              refine HSd.out.mono ?_
              rintro e w18 ⟨a18, c18, rfl, hKv18, -, hT18⟩
              have HK18 := hide (HK17.out.trans (KeepO.of0 hT18))
              have HSt18 := hide (HSt17.out.turn0 hT18)
              have HS3 := hide (lsame_any w18 a18 na c18 nc nl hKv18 (HR16.out.keep HK18.out).kv (by have := HB3.out; omega))
              rw [HNn.out] at HS3
              clear hKv18 hT18
              go_wp2_with fail
              refine HS3.out.mono ?_
              rintro e w19 ⟨rfl, hT19⟩
              have HK19 := hide (HK18.out.trans (KeepO.of0 hT19))
              have hSt19 := HSt18.out.turn0 hT19
              have HFin : Hid (AbI W w19 st b m gb ga ha gl hl gc hc (k + 1) (.slice na nn nc)) := ⟨O4, c', vw + 1, false, na, nc, nl, by rw [HNn.out], (HR16.out.keep HK19.out).more (Turn.refl [] _) HSub17.out, hSt19, by have := HB.out; omega, by have := HB.out; omega, by have := HB3.out; omega, HAb16.out.keep HK19.out HSub17.out⟩
              clear hT19 hSt19
              go_wp2_with fail
              go_roundw
              case rel => exact ⟨k + 1, by omega, by go_num, HFin⟩
              case measure => simp [intOf]; omega
      · obtain rfl : k = 3 := by omega
        obtain ⟨O, c, vw, z, da, dc, dl, rfl, hR, hSt, hc, hv, hdl, hAb⟩ := HI.out
        have HT := hide hAb.turn
        clear hR hSt hc hv hdl hAb
        go_wp2_with fail
        go_ret
        exact ⟨rfl, HT.out⟩
  · have hgt : decide ((30 : Int) < (gk : Int) + (hk : Int)) = true := by simp; omega
    go_wp2_with fail
    go_ret
    exact ⟨rfl, HT3.out⟩

end Go.Proofs.YthgpjkcgccdldaaGreatDoor

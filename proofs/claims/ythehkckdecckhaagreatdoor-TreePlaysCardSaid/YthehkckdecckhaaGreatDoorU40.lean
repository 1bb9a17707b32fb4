/-
  A leaf read from its bytes.
  A branch read from its bytes: its kids' places are new, and not read yet.
  decode: a page's bytes made a leaf, or a branch whose kids' places are new.
  A node is read from its page.
  nodeAt of a place that was not read yet: its node is read from its page, and stays there.
  The memory of trees: places and rows as the blocks have them, pages as the disk has them.
  A branch as bytes: entries, encode; encode of any node.
  Pages that were allocated one behind the other.
-/
import Derived.Test.YthehkckdecckhaaGreatDoorU39
import Derived.Test.YthehkckdecckhaaGreatDoorU21
import Derived.Test.YthehkckdecckhaaGreatDoorU35
import Derived.Test.YthehkckdecckhaaGreatDoorU33
import Derived.Test.YthehkckdecckhaaGreatDoorU23
import Derived.Test.YthehkckdecckhaaGreatDoorU32
import Derived.Deep.RegionWith
import Derived.Test.YthehkckdecckhaaGreatDoorU03
import Derived.Test.YthehkckdecckhaaGreatDoorU25

namespace Go.Proofs.YthehkckdecckhaaGreatDoor
open Go.RowKit Go.Maps

def lenV : Value → Nat
  | .slice _ n _ => n
  | _ => 0

theorem RdAt.grown {w w' : World} {r : Nat} {l : List Nat} {row : Option Nat} (h : RdAt w r l) (hg : w.grownBy w' row) (hr : ∀ k, row = some k → r < k) : RdAt w' r l := by
  cases row with
  | none => exact h.turn ((Turn.refl [] w).grown hg (fun k hk => by cases hk)) (by simp)
  | some g => exact h.turn ((Turn.refl [g] w).grown hg (fun k hk => by cases hk; exact .inl (by simp))) (fun x hx => by rw [List.mem_singleton.1 hx]; exact hr g rfl)

theorem pair_new (w : World) (key value : ByteArray) (t : TypeId) : PairsAt (w.alloc (.cells #[.string key, .string value] t)) (some ⟨w.heap.size, 0, none⟩) (kvCells [(key, value)]) := by
  refine (KVsAt.pairs (l := [(key, value)]) (.inr ⟨w.heap.size, 0, rfl, fun i hi => ?_⟩) :)
  have : i = 0 := by simpa using hi
  subst this
  exact ⟨World.cell?_alloc_at _ _ _ _ rfl, World.cell?_alloc_at _ _ _ _ rfl⟩

theorem lbytes_drop {l : List (ByteArray × ByteArray)} {j : Nat} (h : j < l.length) : lbytes (l.drop j) = [l[j].1.size] ++ natBytes l[j].1 ++ ([l[j].2.size] ++ natBytes l[j].2 ++ lbytes (l.drop (j + 1))) := by
  rw [List.drop_eq_getElem_cons h]
  unfold lbytes
  rw [List.flatMap_cons]
  unfold kvBytes
  simp only [List.append_assoc]
theorem lbytes_small {l : List (ByteArray × ByteArray)} (h : Short l) (j : Nat) : ∀ x ∈ lbytes (l.drop j), x < 256 := lbytes_lt (fun x hx => h x (List.mem_of_mem_drop hx))

set_option maxRecDepth 100000 in
set_option maxHeartbeats 3200000 in
theorem rdleaf_any (r : Nat) (l : List (ByteArray × ByteArray)) (hlen : l.length ≤ 1000) (hsh : Short l) (w : World) (h : RdAt w r (lbytes l)) :
    Calls Tryz.prog 143 #[.pointer (some ⟨r, 0, none⟩)] w fun e w' => ∃ v, e = .returned v ∧ w'.ownsRow w.heap.size 42 2 v l.length (flat (kvCells l)) ∧ Turn [r] w w' := by
  have hr := h.lt
  have H := hide h
  have HSh := hide hsh
  have HSm := hide (lbytes_small hsh)
  clear h hsh
  go_enter Tryz.func143, Tryz.ntmps143
  go_wp2_with fail
  go_loopw [3] (fun b wr => ∃ j : Nat, j ≤ l.length ∧ Hid (wr.ownsRow w.heap.size 42 2 b j (flat (kvCells (l.take j)))) ∧ Hid (RdAt wr r (lbytes (l.drop j))) ∧ Hid (Turn [r] w wr)) (fun b _ => l.length - lenV b)
  case atStart => exact ⟨0, Nat.zero_le _, World.ownsRow_nil _ _ _ _, H.out, Turn.refl _ _⟩
  case round =>
    obtain ⟨j, hj, HO, HR, HT⟩ := hrel
    have hsz := HT.out.size
    obtain ⟨va, vc, rfl⟩ := own_form HO.out
    obtain ⟨hz, ra, rc, hrc, -⟩ := HR.out
    by_cases hjl : j < l.length
    · have hlb := lbytes_drop hjl
      obtain ⟨hs1, hs2⟩ := HSh.out l[j] (List.getElem_mem hjl)
      have hR1 := HR.out
      rw [hlb] at hR1
      have HT1 := hide (rdtext_any r l[j].1 _ (by omega) (fun x hx => HSm.out j x (by rw [hlb]; exact List.mem_append_right _ hx)) wr hR1)
      have hpos : ((lbytes (l.drop j)).length : Int) > 0 := by
        rw [hlb]
        simp
        omega
      clear hR1 hlb hz
      generalize (lbytes (l.drop j)).length = N at *
      have hlt1 := HO.out.lt
      go_wp2_with fail
      refine HT1.out.mono ?_
      rintro e w1 ⟨rfl, hR1, hTa⟩
      have HT2 := hide (rdtext_any r l[j].2 _ (by omega) (HSm.out (j + 1)) w1 hR1)
      have HTa := hide hTa
      clear hR1 hTa HT1 hrc
      go_wp2_with fail
      refine HT2.out.mono ?_
      rintro e w2 ⟨rfl, hR2, hTb⟩
      have hTab := HTa.out.trans hTb
      have hro : ∀ g, (Value.slice va j vc).ownBlock = some g → g ∉ [r] := fun g hg hm => by
        have := (hlt1 g hg).1
        simp at hm
        omega
      have HO2 := hide (own_turn (own_turn HO.out hTab hro) ((Turn.refl [] w2).alloc (.cells #[.string l[j].1, .string l[j].2] 42)) (by simp))
      have HP := hide (pair_new w2 l[j].1 l[j].2 42)
      have HR2 := hide (hR2.turn ((Turn.refl [] w2).alloc (.cells #[.string l[j].1, .string l[j].2] 42)) (by simp))
      have HTc : Hid (Turn [r] w (w2.alloc (.cells #[.string l[j].1, .string l[j].2] 42))) := (HT.out.trans hTab).alloc _
      have hsz2 := HTc.out.size
      have HNext : Hid (kvCells (l.take (j + 1)) = kvCells (l.take j) ++ kvCells [(l[j].1, l[j].2)]) := by
        show _ = _
        rw [List.take_succ_eq_append_getElem hjl]
        exact List.map_append
      clear hR2 hTb hTab HT2 HO hro
      go_wp2_with (at_builtin; refine append_pairsT 73 Tryz.underlying73 rfl _ _ rfl w.heap.size (.slice va j vc) j (kvCells (l.take j)) rfl HO2.out (some ⟨w2.heap.size, 0, none⟩) 1 1 (kvCells [(l[j].1, l[j].2)]) rfl rfl (by simp) HP.out (kv_one _) (by omega) hsz2 ?_; intro v3 w3 hown3 hgrow3 _; have HO3 := hide hown3; have HG3 := hide hgrow3; obtain ⟨vb, vd, rfl⟩ := own_form hown3; clear hown3 hgrow3)
      go_roundw
      case rel =>
        refine ⟨j + 1, hjl, ?_, ?_, ?_⟩
        · rw [HNext.out]
          exact HO3.out
        · exact HR2.out.grown HG3.out (fun k hk => Nat.lt_of_lt_of_le hr (hlt1 k hk).1)
        · exact HTc.out.grown HG3.out (fun k hk => .inr (hlt1 k hk).1)
      case measure => simp [lenV]; omega
    · obtain rfl : j = l.length := by omega
      rw [List.drop_length] at hrc
      have hrc2 : wr.cell? ⟨r, 0, none⟩ = some (.slice ra 0 rc) := hrc
      clear hrc hz
      go_wp2_with fail
      go_ret
      have h := HO.out
      rw [List.take_length] at h
      exact ⟨_, rfl, h, HT.out⟩

end Go.Proofs.YthehkckdecckhaaGreatDoor

namespace Go.Proofs.YthehkckdecckhaaGreatDoor
open Go.RowKit Go.Maps

/-- An append of kids to a row of the call's own. -/
theorem kappend_kids {ops : Array Oper} {rest : List Oper} {o : Oper} {a : Act} {Q : Exit → Act → World → Prop} {w : World} (hgd : o.guard = none) (s x : Operand)
    (ho : o.op = .call { callee := .builtin .append, args := #[s, x], argTypes := #[120, 120] }) (base : Nat) (v : Value) (n : Nat) (xs : List (Value × Value)) (hs : a.eval s = v) (hown : w.ownsRow base 122 2 v n (flat xs))
    (ad : Addr) (m c : Nat) (l : List (Value × Value)) (hx : a.eval x = .slice (some ad) m c) (hm : l.length = m) (hb : PairsAt w (some ad) l) (h1 : OneCell l) (hbound : n + m ≤ 1000000) (hbase : base ≤ w.heap.size)
    (h : ∀ v' w', w'.ownsRow base 122 2 v' (n + m) (flat (xs ++ l)) → w.grownBy w' v.ownBlock → (v'.ownBlock = v.ownBlock ∨ v'.ownBlock = some w.heap.size) → wpList Tryz.prog ops Q rest (a.put o.dst v') w') :
    wpList Tryz.prog ops Q (o :: rest) a w := by
  obtain ⟨i0, z, hi, hz0, hzc, hz1, hz2⟩ := kinfo_all
  refine wpList_append_own_at w hgd s x 120 ho base 122 i0 z 2 24 Tryz.underlying120 hi hz0 hz1 hz2 hzc (by decide) v n (flat xs) hs hown ad m c (flat l) hx (by rw [flat_length, hm]) hb.src (flat_one h1) (by unfold maxLen; omega) (by omega) hbase ?_
  intro v' w' h1 h2 _ h4
  exact h v' w' (by rw [flat_append]; exact h1) h2 h4

theorem be4_num (n : Nat) : beN (be4 n) = n := by
  unfold beN be4
  simp only [List.foldl_cons, List.foldl_nil]
  omega
/-- A branch's entries as bytes: lows with their pages. -/
def bBytes (x : ByteArray × Nat) : List Nat := [x.1.size] ++ natBytes x.1 ++ be4 x.2
def bbytes (l : List (ByteArray × Nat)) : List Nat := l.flatMap bBytes
theorem bbytes_drop {l : List (ByteArray × Nat)} {j : Nat} (h : j < l.length) : bbytes (l.drop j) = [l[j].1.size] ++ natBytes l[j].1 ++ (be4 l[j].2 ++ bbytes (l.drop (j + 1))) := by
  rw [List.drop_eq_getElem_cons h]
  unfold bbytes
  rw [List.flatMap_cons]
  unfold bBytes
  simp only [List.append_assoc]
/-- Lows are short, pages numbers of four bytes. -/
def ShortB (l : List (ByteArray × Nat)) : Prop := ∀ x ∈ l, x.1.size ≤ 255 ∧ x.2 < 4294967296
theorem bbytes_lt {l : List (ByteArray × Nat)} (h : ShortB l) : ∀ x ∈ bbytes l, x < 256 := by
  intro x hx
  obtain ⟨y, hy, hm⟩ := List.mem_flatMap.1 hx
  have := h y hy
  unfold bBytes at hm
  rcases List.mem_append.1 hm with hm | hm
  · rcases List.mem_append.1 hm with hm | hm
    · rw [List.mem_singleton.1 hm]; omega
    · exact natBytes_lt _ _ hm
  · exact be4_lt _ (by omega) _ hm
theorem bbytes_small {l : List (ByteArray × Nat)} (h : ShortB l) (j : Nat) : ∀ x ∈ bbytes (l.drop j), x < 256 := bbytes_lt (fun x hx => h x (List.mem_of_mem_drop hx))

theorem kid_new (w : World) (low : ByteArray) (b : Nat) (t : TypeId) : PairsAt (w.alloc (.cells #[.string low, .pointer (some ⟨b, 0, none⟩)] t)) (some ⟨w.heap.size, 0, none⟩) (kidCells [(low, b)]) := by
  refine (KidsAt.pairs (l := [(low, b)]) (.inr ⟨w.heap.size, 0, rfl, fun i hi => ?_⟩) :)
  have : i = 0 := by simpa using hi
  subst this
  exact ⟨World.cell?_alloc_at _ _ _ _ rfl, World.cell?_alloc_at _ _ _ _ rfl⟩

/-- New places of kids, not read yet: ks are the lows with the blocks, es the lows with the pages. -/
structure NewKids (w : World) (B lvl : Nat) (v : Value) (ks es : List (ByteArray × Nat)) : Prop where
  own : w.ownsRow B 122 2 v ks.length (flat (kidCells ks))
  low : ks.map Prod.fst = es.map Prod.fst
  at_ : ∀ i (h : i < ks.length) (h' : i < es.length), PlaceAt w ks[i].2 es[i].2 lvl 0 .nilIface
  new : ∀ k ∈ ks, B ≤ k.2 ∧ v.ownBlock ≠ some k.2
  nodup : (ks.map Prod.snd).Nodup

theorem place_new (w : World) (pg lvl : Nat) (t : TypeId) : PlaceAt (w.alloc (.cells #[.int .i64 (pg : Nat), .int .i64 (lvl : Nat), .int .u32 0, .int .i32 0, .int .u32 0, .nilIface] t)) w.heap.size pg lvl 0 .nilIface :=
  ⟨World.cell?_alloc_at _ _ _ _ rfl, World.cell?_alloc_at _ _ _ _ rfl, World.cell?_alloc_at _ _ _ _ rfl, World.cell?_alloc_at _ _ _ _ rfl, World.cell?_alloc_at _ _ _ _ rfl, fun _ => World.frozen?_alloc_at _ _ _ _ rfl⟩

theorem NewKids.nil (w : World) (B lvl : Nat) : NewKids w B lvl (.slice none 0 0) [] [] := ⟨World.ownsRow_nil _ _ _ _, rfl, fun i h => absurd h (by simp), fun k hk => absurd hk (by simp), List.nodup_nil⟩
theorem NewKids.len {w : World} {B lvl : Nat} {v : Value} {ks es : List (ByteArray × Nat)} (h : NewKids w B lvl v ks es) : ks.length = es.length := by
  have := congrArg List.length h.low
  simpa using this
theorem NewKids.turn {S : List Nat} {w w' : World} {B lvl : Nat} {v : Value} {ks es : List (ByteArray × Nat)} (h : NewKids w B lvl v ks es) (hT : Turn S w w') (hS : ∀ x ∈ S, x < B) : NewKids w' B lvl v ks es :=
  ⟨own_turn h.own hT (fun g hg hm => by have := (h.own.lt g hg).1; have := hS g hm; omega), h.low, fun i hi hi' => (h.at_ i hi hi').turn hT (fun hm => by have := (h.new _ (List.getElem_mem hi)).1; have := hS _ hm; omega), h.new, h.nodup⟩
theorem NewKids.add {w w1 w' : World} {B lvl : Nat} {v v' : Value} {ks es : List (ByteArray × Nat)} {low : ByteArray} {pg b : Nat} (h : NewKids w B lvl v ks es) (hT : Turn [] w w1) (hb : w.heap.size ≤ b) (hB : B ≤ b) (hbl : b < w1.heap.size) (hp : PlaceAt w1 b pg lvl 0 .nilIface)
    (hown : w'.ownsRow B 122 2 v' (ks.length + 1) (flat (kidCells ks ++ kidCells [(low, b)]))) (hg : w1.grownBy w' v.ownBlock) (hv : v'.ownBlock = v.ownBlock ∨ v'.ownBlock = some w1.heap.size) : NewKids w' B lvl v' (ks ++ [(low, b)]) (es ++ [(low, pg)]) := by
  have hlt : ∀ i (hi : i < ks.length) (hi' : i < es.length), ks[i].2 < w.heap.size := fun i hi hi' => (h.at_ i hi hi').lt
  have hne : ∀ x, x < w1.heap.size → v.ownBlock ≠ some x → v'.ownBlock ≠ some x := fun x hx hn e => by
    rcases hv with hv | hv
    · exact hn (hv ▸ e)
    · rw [hv] at e
      have := Option.some.inj e
      omega
  have hkeep : ∀ x pg', x < w1.heap.size → v.ownBlock ≠ some x → PlaceAt w1 x pg' lvl 0 .nilIface → PlaceAt w' x pg' lvl 0 .nilIface := fun x pg' hx hn hp => by
    cases hv0 : v.ownBlock with
    | none => exact hp.turn ((Turn.refl [] w1).grown hg (by rw [hv0]; intro k hk; cases hk)) (by simp)
    | some g => exact hp.turn ((Turn.refl [g] w1).grown hg (by rw [hv0]; intro k hk; cases hk; exact .inl (by simp))) (fun hm => hn (by rw [hv0, List.mem_singleton.1 hm]))
  have hvb : v.ownBlock ≠ some b := fun e => by
    have := (h.own.lt b e).2
    omega
  have hlen := h.len
  refine ⟨?_, by rw [List.map_append, List.map_append, h.low]; rfl, fun i hi hi' => ?_, fun k hk => ?_, ?_⟩
  · have e : kidCells ks ++ kidCells [(low, b)] = kidCells (ks ++ [(low, b)]) := List.map_append.symm
    rw [e] at hown
    rw [List.length_append]
    exact hown
  · by_cases hik : i < ks.length
    · have e1 : (ks ++ [(low, b)])[i] = ks[i] := List.getElem_append_left hik
      have e2 : (es ++ [(low, pg)])[i] = es[i]'(by omega) := List.getElem_append_left (by omega)
      rw [e1, e2]
      have hl := hlt i hik (by omega)
      exact hkeep _ _ (Nat.lt_of_lt_of_le hl hT.size) (h.new _ (List.getElem_mem hik)).2 ((h.at_ i hik (by omega)).turn hT (by simp))
    · have hi2 : i = ks.length := by
        rw [List.length_append] at hi
        have : i < ks.length + 1 := hi
        omega
      subst hi2
      have e1 : (ks ++ [(low, b)])[ks.length] = (low, b) := by simp
      have e2 : (es ++ [(low, pg)])[ks.length] = (low, pg) := by simp [hlen]
      rw [e1, e2]
      exact hkeep _ _ hbl hvb hp
  · rcases List.mem_append.1 hk with hk | hk
    · obtain ⟨i, hi, rfl⟩ := List.getElem_of_mem hk
      have hl := hlt i hi (by omega)
      exact ⟨(h.new _ hk).1, hne _ (Nat.lt_of_lt_of_le hl hT.size) (h.new _ hk).2⟩
    · obtain rfl := List.mem_singleton.1 hk
      exact ⟨hB, hne _ hbl hvb⟩
  · rw [List.map_append]
    refine List.nodup_append.2 ⟨h.nodup, by simp, fun x hx y hy e => ?_⟩
    obtain ⟨k, hk, rfl⟩ := List.mem_map.1 hx
    obtain ⟨i, hi, rfl⟩ := List.getElem_of_mem hk
    have hl := hlt i hi (by omega)
    have hy2 : y = b := by simpa using hy
    omega

set_option maxRecDepth 100000 in
set_option maxHeartbeats 3200000 in
theorem rdbranch_any (r lvl : Nat) (l : List (ByteArray × Nat)) (hlen : l.length ≤ 1000) (hsh : ShortB l) (w : World) (h : RdAt w r (bbytes l)) :
    Calls Tryz.prog 144 #[.pointer (some ⟨r, 0, none⟩), .int .i64 (lvl : Nat)] w fun e w' => ∃ v ks, e = .returned v ∧ NewKids w' w.heap.size lvl v ks l ∧ Turn [r] w w' := by
  have hr := h.lt
  have H := hide h
  have HSh := hide hsh
  have HSm := hide (bbytes_small hsh)
  have hz := zero104
  clear h hsh
  go_enter Tryz.func144, Tryz.ntmps144
  go_wp2_with fail
  go_loopw [5] (fun b wr => ∃ (j : Nat) (ks : List (ByteArray × Nat)), j ≤ l.length ∧ Hid (NewKids wr w.heap.size lvl b ks (l.take j)) ∧ Hid (RdAt wr r (bbytes (l.drop j))) ∧ Hid (Turn [r] w wr)) (fun b _ => l.length - lenV b)
  case atStart => exact ⟨0, [], Nat.zero_le _, NewKids.nil _ _ _, H.out, Turn.refl _ _⟩
  case round =>
    obtain ⟨j, ks, hj, HO, HR, HT⟩ := hrel
    have hsz := HT.out.size
    have hks : ks.length = j := by rw [HO.out.len, List.length_take]; omega
    obtain ⟨va, vc, hv⟩ := own_form HO.out.own
    rw [hks] at hv
    subst hv
    obtain ⟨hzr, ra, rc, hrc, -⟩ := HR.out
    by_cases hjl : j < l.length
    · have hlb := bbytes_drop hjl
      obtain ⟨hs1, hs2⟩ := HSh.out l[j] (List.getElem_mem hjl)
      have hR1 := HR.out
      rw [hlb] at hR1
      have HT1 := hide (rdtext_any r l[j].1 _ (by omega) (fun x hx => HSm.out j x (by rw [hlb]; exact List.mem_append_right _ hx)) wr hR1)
      have hpos : ((bbytes (l.drop j)).length : Int) > 0 := by
        rw [hlb]
        simp
        omega
      have HBn : Hid (∀ x ∈ be4 l[j].2 ++ bbytes (l.drop (j + 1)), x < 256) := fun x hx => HSm.out j x (by rw [hlb]; exact List.mem_append_right _ hx)
      clear hR1 hlb hzr
      generalize (bbytes (l.drop j)).length = N at *
      have hlt1 := HO.out.own.lt
      go_wp2_with fail
      refine HT1.out.mono ?_
      rintro e w1 ⟨rfl, hR1, hTa⟩
      have HT2 := hide (rdnum_any r _ 4 (by simp [be4]) (by omega) HBn.out w1 hR1)
      have e4 : (be4 l[j].2 ++ bbytes (l.drop (j + 1))).take 4 = be4 l[j].2 := by simp [be4]
      have e5 : (be4 l[j].2 ++ bbytes (l.drop (j + 1))).drop 4 = bbytes (l.drop (j + 1)) := by simp [be4]
      rw [e4, e5, be4_num] at HT2
      have HTa := hide hTa
      clear hR1 hTa HT1 hrc e4 e5
      go_wp2_with fail
      refine HT2.out.mono ?_
      rintro e w2 ⟨rfl, hR2, hTb⟩
      have HO2 := hide (HO.out.turn (HTa.out.trans hTb) (by simp; omega))
      have hT2 : Turn [r] w w2 := HT.out.trans (HTa.out.trans hTb)
      have hsz2 := hT2.size
      obtain ⟨W1, hW1⟩ : ∃ W1, W1 = w2.alloc (.cells #[.int .i64 (l[j].2 : Nat), .int .i64 (lvl : Nat), .int .u32 0, .int .i32 0, .int .u32 0, .nilIface] 104) := ⟨_, rfl⟩
      have hs1 : W1.heap.size = w2.heap.size + 1 := by rw [hW1]; simp
      have HPl : Hid (PlaceAt W1 w2.heap.size l[j].2 lvl 0 .nilIface) := by rw [hW1]; exact place_new w2 l[j].2 lvl _
      have hTw1 : Turn [] w2 W1 := by rw [hW1]; exact (Turn.refl [] w2).alloc _
      have HP : Hid (PairsAt (W1.alloc (.cells #[.string l[j].1, .pointer (some ⟨w2.heap.size, 0, none⟩)] 122)) (some ⟨w2.heap.size + 1, 0, none⟩) (kidCells [(l[j].1, w2.heap.size)])) := by
        have h := kid_new W1 l[j].1 w2.heap.size 122
        rw [hs1] at h
        exact h
      have HTw : Hid (Turn [] w2 (W1.alloc (.cells #[.string l[j].1, .pointer (some ⟨w2.heap.size, 0, none⟩)] 122))) := hTw1.alloc _
      have HR2 := hide (hR2.turn HTw.out (by simp))
      have HTc := hide (hT2.then HTw.out (by simp))
      have HPl2 := hide (HPl.out.turn ((Turn.refl [] W1).alloc (.cells #[.string l[j].1, .pointer (some ⟨w2.heap.size, 0, none⟩)] 122)) (by simp))
      have HO3 := hide (HO2.out.turn HTw.out (by simp))
      have hs2' : (W1.alloc (.cells #[.string l[j].1, .pointer (some ⟨w2.heap.size, 0, none⟩)] 122)).heap.size = w2.heap.size + 2 := by simp [hs1]
      have HNext : Hid (l.take (j + 1) = l.take j ++ [(l[j].1, l[j].2)]) := List.take_succ_eq_append_getElem hjl
      clear hR2 hTb HT2 HO hT2 hTw1
      have HOwn : Hid ((W1.alloc (.cells #[.string l[j].1, .pointer (some ⟨w2.heap.size, 0, none⟩)] 122)).ownsRow w.heap.size 122 2 (.slice va j vc) j (flat (kidCells ks))) := by
        have h := HO3.out.own
        rw [hks] at h
        exact h
      have HKs := hide hks
      clear hks hs1 HPl
      subst hW1
      go_wp2_with (at_builtin; refine kappend_kids rfl _ _ rfl w.heap.size (.slice va j vc) j (kidCells ks) rfl HOwn.out ⟨w2.heap.size + 1, 0, none⟩ 1 1 (kidCells [(l[j].1, w2.heap.size)]) rfl rfl HP.out (kid_one _) (by omega) (by omega) ?_; intro v3 w3 hown3 hgrow3 hblk3; have HO4 := hide hown3; have HG3 := hide hgrow3; have HBk := hide hblk3; obtain ⟨vb, vd, rfl⟩ := own_form hown3; clear hown3 hgrow3 hblk3)
      go_roundw
      case rel =>
        refine ⟨j + 1, ks ++ [(l[j].1, w2.heap.size)], hjl, ?_, ?_, ?_⟩
        · rw [HNext.out]
          refine NewKids.add HO2.out HTw.out (Nat.le_refl _) hsz2 (by omega) HPl2.out ?_ HG3.out HBk.out
          rw [HKs.out]
          exact HO4.out
        · exact HR2.out.grown HG3.out (fun k hk => Nat.lt_of_lt_of_le hr (hlt1 k hk).1)
        · exact HTc.out.grown HG3.out (fun k hk => .inr (hlt1 k hk).1)
      case measure => simp [lenV]; omega
    · obtain rfl : j = l.length := by omega
      rw [List.drop_length] at hrc
      have hrc2 : wr.cell? ⟨r, 0, none⟩ = some (.slice ra 0 rc) := hrc
      clear hrc hzr
      go_wp2_with fail
      go_ret
      have h := HO.out
      rw [List.take_length] at h
      exact ⟨_, ks, rfl, h, HT.out⟩

end Go.Proofs.YthehkckdecckhaaGreatDoor

namespace Go.Proofs.YthehkckdecckhaaGreatDoor
open Go.RowKit Go.Maps

theorem reader_new (w : World) (a : Option Addr) (l : List Nat) (c : Nat) (hne : l ≠ []) (h : BytesAt w a l) (hn : a = none → c = 0) (hc : l.length ≤ c ∧ c ≤ 9223372036854775807) (t : TypeId) : RdAt (w.alloc (.cells #[.slice a l.length c] t)) w.heap.size l :=
  ⟨fun _ => World.frozen?_alloc_at _ _ _ _ rfl, a, c, World.cell?_alloc_at _ _ _ _ rfl, h.turn ((Turn.refl [] w).alloc _) (by simp), hn, hc.1, hc.2, fun x hx => h.lt x hne hx⟩

theorem NewKids.base {w : World} {B B' lvl : Nat} {v : Value} {ks es : List (ByteArray × Nat)} (h : NewKids w B lvl v ks es) (hB : B' ≤ B) : NewKids w B' lvl v ks es := by
  obtain ⟨⟨hl, h1⟩, h2, h3, h4, h5⟩ := h
  refine ⟨⟨hl, ?_⟩, h2, h3, fun k hk => ⟨Nat.le_trans hB (h4 k hk).1, (h4 k hk).2⟩, h5⟩
  rcases h1 with h | ⟨g, cap, cur, e1, hb, rest⟩
  · exact .inl h
  · exact .inr ⟨g, cap, cur, e1, Nat.le_trans hB hb, rest⟩
theorem own_less {w : World} {b b' e size n : Nat} {v : Value} {xs : List Value} (h : w.ownsRow b e size v n xs) (hb : b' ≤ b) : w.ownsRow b' e size v n xs := by
  obtain ⟨hl, h | ⟨g, cap, cur, e1, h1, rest⟩⟩ := h
  · exact ⟨hl, .inl h⟩
  · exact ⟨hl, .inr ⟨g, cap, cur, e1, Nat.le_trans hb h1, rest⟩⟩

set_option maxRecDepth 100000 in
set_option maxHeartbeats 3200000 in
theorem decode_leaf (a : Option Addr) (c : Nat) (l : List (ByteArray × ByteArray)) (hlen : l.length ≤ 1000) (hsh : Short l) (w : World) (h : BytesAt w a ([1] ++ lbytes l)) (hn : a = none → c = 0) (hc : ([1] ++ lbytes l).length ≤ c ∧ c ≤ 9223372036854775807) :
    Calls Tryz.prog 125 #[.slice a ([1] ++ lbytes l).length c, .int .i64 1] w fun e w' => ∃ v, e = .returned (.iface 73 v) ∧ w'.ownsRow w.heap.size 42 2 v l.length (flat (kvCells l)) ∧ Turn [] w w' := by
  have hR := reader_new w a _ c (by simp) h hn hc 175
  have hall : ∀ x ∈ [1] ++ lbytes l, x < 256 := fun x hx => by
    rcases List.mem_append.1 hx with hx | hx
    · rw [List.mem_singleton.1 hx]; omega
    · exact lbytes_lt hsh x hx
  have HN := hide (rdnum_any w.heap.size _ 1 (by simp) (by omega) hall _ hR)
  have e1 : beN (([1] ++ lbytes l).take 1) = 1 := by simp [beN]
  have e2 : ([1] ++ lbytes l).drop 1 = lbytes l := by simp
  rw [e1, e2] at HN
  have HSh := hide hsh
  have hT0 : Turn [] w (w.alloc (.cells #[.slice a ([1] ++ lbytes l).length c] 175)) := (Turn.refl [] w).alloc _
  have HT0 := hide hT0
  clear h hn hc hR hall e1 e2 hsh hT0
  generalize ([1] ++ lbytes l).length = N at *
  go_enter Tryz.func125, Tryz.ntmps125
  go_wp2_with fail
  refine HN.out.mono ?_
  rintro e w1 ⟨rfl, hR, hT1⟩
  have HL := hide (rdleaf_any w.heap.size l hlen HSh.out w1 hR)
  have HT1 := hide hT1
  have hsz := hT1.size
  simp at hsz
  clear hR hT1
  go_wp2_with fail
  refine HL.out.mono ?_
  rintro e w2 ⟨v, rfl, hO, hT2⟩
  have HO := hide hO
  have HT2 := hide hT2
  clear hO hT2
  go_wp2_with fail
  go_ret
  exact ⟨v, rfl, own_less HO.out (by omega), HT0.out.then (HT1.out.trans HT2.out) (by simp)⟩

set_option maxRecDepth 100000 in
set_option maxHeartbeats 3200000 in
theorem decode_branch (a : Option Addr) (c lvl : Nat) (l : List (ByteArray × Nat)) (hlv : 1 ≤ lvl ∧ lvl ≤ 250) (hlen : 0 < l.length ∧ l.length ≤ 1000) (hsh : ShortB l) (w : World) (h : BytesAt w a ([lvl + 1] ++ bbytes l)) (hn : a = none → c = 0) (hc : ([lvl + 1] ++ bbytes l).length ≤ c ∧ c ≤ 9223372036854775807) :
    Calls Tryz.prog 125 #[.slice a ([lvl + 1] ++ bbytes l).length c, .int .i64 ((lvl + 1 : Nat) : Int)] w fun e w' => ∃ v ks, e = .returned (.iface 120 v) ∧ NewKids w' w.heap.size lvl v ks l ∧ Turn [] w w' := by
  have hR := reader_new w a _ c (by simp) h hn hc 175
  have hall : ∀ x ∈ [lvl + 1] ++ bbytes l, x < 256 := fun x hx => by
    rcases List.mem_append.1 hx with hx | hx
    · rw [List.mem_singleton.1 hx]; omega
    · exact bbytes_lt hsh x hx
  have HN := hide (rdnum_any w.heap.size _ 1 (by simp) (by omega) hall _ hR)
  have e1 : beN (([lvl + 1] ++ bbytes l).take 1) = lvl + 1 := by simp [beN]
  have e2 : ([lvl + 1] ++ bbytes l).drop 1 = bbytes l := by simp
  rw [e1, e2] at HN
  have HSh := hide hsh
  have hT0 : Turn [] w (w.alloc (.cells #[.slice a ([lvl + 1] ++ bbytes l).length c] 175)) := (Turn.refl [] w).alloc _
  have HT0 := hide hT0
  clear h hn hc hR hall e1 e2 hsh hT0
  generalize ([lvl + 1] ++ bbytes l).length = N at *
  obtain ⟨k, hk⟩ : ∃ k, k = lvl + 1 := ⟨_, rfl⟩
  have hk1 : ((k : Nat) : Int) - 1 = (lvl : Nat) := by omega
  have hk2 : (((k : Nat) : Int) == 1) = false := by simp; omega
  rw [← hk] at HN ⊢
  have HKk := hide hk
  clear hk
  go_enter Tryz.func125, Tryz.ntmps125
  go_wp2_with fail
  refine HN.out.mono ?_
  rintro e w1 ⟨rfl, hR, hT1⟩
  have HL := hide (rdbranch_any w.heap.size lvl l hlen.2 HSh.out w1 hR)
  have HT1 := hide hT1
  have hsz := hT1.size
  simp at hsz
  clear hR hT1
  go_wp2_with fail
  refine HL.out.mono ?_
  rintro e w2 ⟨v, ks, rfl, hO, hT2⟩
  obtain ⟨va, vc, rfl⟩ := own_form hO.own
  have hpos : ((ks.length : Nat) : Int) > 0 := by rw [hO.len]; omega
  have HO := hide hO
  have HT2 := hide hT2
  clear hO hT2
  go_wp2_with fail
  go_ret
  exact ⟨_, ks, rfl, HO.out.base (by omega), HT0.out.then (HT1.out.trans HT2.out) (by simp)⟩

end Go.Proofs.YthehkckdecckhaaGreatDoor

namespace Go.Proofs.YthehkckdecckhaaGreatDoor
open Go.RowKit Go.Maps

set_option maxRecDepth 100000 in
set_option maxHeartbeats 3200000 in
/-- read, whatever decode comes to. -/
theorem tread_gen (t p b m sm rb a pg lvl : Nat) (s : St) (q : Pg) (D S : Stt) (L : List Nat) (hd : s.dead = false) (hq : q.dead = false) (hth : q.thereI s.n pg = true) (hL : L.length ≤ 496) (hf : s.f pg = bytesOf 512 (pageB L)) (hap : a ≠ p) (w : World) (hA : PAt w p b m sm rb s q) (hT : TreeAt w t p D S) (hp0 : w.cell? ⟨a, 0, none⟩ = some (.int .i64 (pg : Nat))) (hp1 : w.cell? ⟨a, 1, none⟩ = some (.int .i64 (lvl : Nat))) (R : Value → World → World → Prop)
    (hDec : ∀ w1 g o, Turn [p] w w1 → w.heap.size ≤ g → BytesAt w1 (some ⟨g, o, none⟩) L → Calls Tryz.prog 125 #[.slice (some ⟨g, o, none⟩) L.length L.length, .int .i64 (lvl : Nat)] w1 fun e w2 => ∃ v, e = .returned v ∧ R v w1 w2 ∧ Turn [] w1 w2) :
    Calls Tryz.prog 94 #[.pointer (some ⟨t, 0, none⟩), .pointer (some ⟨a, 0, none⟩)] w fun e w' => ∃ v w1, e = .returned v ∧ R v w1 w' ∧ PAt w1 p b m sm rb s { q with rd := true } ∧ Turn [p] w w1 ∧ Turn [] w1 w' := by
  have ht0 := hT.c0
  have hTd : Turn [] w w.drew := (Turn.refl [] w).drew
  have HC := hide (read_yes p b m sm rb s q hd hq pg hth L hL hf w.drew (hA.turn hTd (by simp) (by simp) (by simp) (by simp) (by simp) (by simp)))
  have HD := hide hDec
  have HP1 := hide hp1
  have HTd := hide hTd
  clear hDec hA hT hf hTd
  go_enter Tryz.func94, Tryz.ntmps94
  go_upto_region 1 with fail
  go_region_with (go_at_call 54; refine HC.out.mono ?_; rintro e w1 ⟨g, o, hg, _, rfl, hB, _, hA1, hT1⟩; have HB := hide hB; have HA1 := hide hA1; have hT1' : Turn [p] w w1 := (HTd.out.mono (by simp)).trans hT1; have HT1 := hide hT1'; clear hB hA1 hT1 hT1')
  all_goals
    have hp1' := (HT1.out.cell (p := ⟨a, 1, none⟩) (lt_of_cell HP1.out) (by simp; exact hap)).trans HP1.out
    have HE := hide (HD.out w1 g o HT1.out hg HB.out)
    clear HD HC
    generalize L.length = N at *
    go_wp2_with fail
    refine HE.out.mono ?_
    rintro e w2 ⟨v, rfl, hR, hT2⟩
    have HR := hide hR
    have HT2 := hide hT2
    clear hR hT2
    go_wp2_with fail
    go_ret
    exact ⟨v, w1, rfl, HR.out, HA1.out, HT1.out, HT2.out⟩

set_option maxRecDepth 100000 in
set_option maxHeartbeats 4000000 in
/-- The closure where the node is not there: it is read and stored. -/
theorem nodeAt1_nil (t a ba ta : Nat) (w : World) (R : TypeId → Value → World → Prop)
    (hR : ∀ u, Turn [] w u → Calls Tryz.prog 94 #[.pointer (some ⟨t, 0, none⟩), .pointer (some ⟨a, 0, none⟩)] u fun e w2 => ∃ T v, e = .returned (.iface T v) ∧ R T v w2 ∧ w2.cell? ⟨ba, 0, none⟩ = some (.pointer (some ⟨a, 0, none⟩)) ∧ (∃ x, w2.cell? ⟨a, 5, none⟩ = some x) ∧ w2.frozen? ⟨a, 5, none⟩ = false)
    (hb : w.cell? ⟨ba, 0, none⟩ = some (.pointer (some ⟨a, 0, none⟩))) (ht : w.cell? ⟨ta, 0, none⟩ = some (.pointer (some ⟨t, 0, none⟩))) (h5 : w.cell? ⟨a, 5, none⟩ = some .nilIface) :
    Calls Tryz.prog 93 #[.pointer (some ⟨ba, 0, none⟩), .pointer (some ⟨ta, 0, none⟩)] w fun e w' => e = .returned (.tuple #[]) ∧ ∃ T v w2, R T v w2 ∧ (w' = w2.setCell ⟨a, 5, none⟩ (.iface T v) ∨ w' = (w2.drew).setCell ⟨a, 5, none⟩ (.iface T v)) := by
  have HR := hide hR
  clear hR
  go_enter Tryz.func93, Tryz.ntmps93
  go_upto_region 1 with fail
  go_region_with (go_at_call 94; refine (HR.out _ (by first | exact Turn.refl _ _ | exact (Turn.refl _ _).drew | exact ((Turn.refl _ _).drew).drew)).mono ?_; rintro e w2 ⟨T, v, rfl, hR2, k0, ⟨x, k3⟩, kf⟩; have HR2 := hide hR2; clear hR2)
  all_goals go_end0
  all_goals exact ⟨rfl, _, _, _, HR2.out, by first | exact .inl rfl | exact .inr rfl⟩

end Go.Proofs.YthehkckdecckhaaGreatDoor

namespace Go.Proofs.YthehkckdecckhaaGreatDoor
open Go.RowKit Go.Maps

set_option maxRecDepth 100000 in
set_option maxHeartbeats 4000000 in
theorem nodeAt_gen (t p b m sm rb a pg lvl : Nat) (s : St) (q : Pg) (D S : Stt) (L : List Nat) (hd : s.dead = false) (hq : q.dead = false) (hth : q.thereI s.n pg = true) (hL : L.length ≤ 496) (hf : s.f pg = bytesOf 512 (pageB L)) (hO : Off t p b m sm rb) (ha : a ≠ 1 ∧ a ≠ p ∧ a ≠ b ∧ a ≠ m ∧ a ≠ sm ∧ a ≠ rb ∧ a ≠ t) (w : World) (hA : PAt w p b m sm rb s q) (hT : TreeAt w t p D S) (hP : PlaceAt w a pg lvl 0 .nilIface) (R : TypeId → Value → World → Prop)
    (hSt : ∀ T v u u', R T v u → Turn [a] u u' → R T v u')
    (hDec : ∀ w1 g o, w.heap.size ≤ w1.heap.size → w.heap.size ≤ g → BytesAt w1 (some ⟨g, o, none⟩) L → Calls Tryz.prog 125 #[.slice (some ⟨g, o, none⟩) L.length L.length, .int .i64 (lvl : Nat)] w1 fun e w2 => ∃ T v, e = .returned (.iface T v) ∧ R T v w2 ∧ Turn [] w1 w2) :
    Calls Tryz.prog 62 #[.pointer (some ⟨t, 0, none⟩), .pointer (some ⟨a, 0, none⟩)] w fun e w' => ∃ T v, e = .returned (.iface T v) ∧ R T v w' ∧ PlaceAt w' a pg lvl 1 (.iface T v) ∧ PAt w' p b m sm rb s { q with rd := true } ∧ TreeAt w' t p D S ∧ Turn [p, a] w w' := by
  have hmf : ∀ (fn : Fn) (first cap : Array Value) (w : World), (Instr.makeFunc fn first cap).run Tryz.prog w = .ok (.func fn first cap) w := fun _ _ _ _ => rfl
  have hal := hP.lt
  obtain ⟨W, hW⟩ : ∃ W, W = (w.alloc (.cells #[.pointer (some ⟨t, 0, none⟩)] 25)).alloc (.cells #[.pointer (some ⟨a, 0, none⟩)] 65) := ⟨_, rfl⟩
  have hT1 : Turn [] w W := by rw [hW]; exact ((Turn.refl [] w).alloc _).alloc _
  have hWs : W.heap.size = w.heap.size + 2 := by rw [hW]; simp
  have hb : W.cell? ⟨w.heap.size + 1, 0, none⟩ = some (.pointer (some ⟨a, 0, none⟩)) := by
    have e : w.heap.size + 1 = (w.alloc (.cells #[.pointer (some ⟨t, 0, none⟩)] 25)).heap.size := by simp
    rw [hW, e]
    exact World.cell?_alloc_at _ _ _ _ rfl
  have hb0 : W.cell? ⟨w.heap.size, 0, none⟩ = some (.pointer (some ⟨t, 0, none⟩)) := by
    rw [hW]
    exact Lib.cell?_alloc_some _ (World.cell?_alloc_at _ _ _ _ rfl)
  have hPW := hP.turn hT1 (by simp)
  have hAW := hA.turn hT1 (by simp) (by simp) (by simp) (by simp) (by simp) (by simp)
  have hTW := hT.turn hT1 (by simp)
  -- the world where the lock is taken
  obtain ⟨V, hV⟩ : ∃ V, V = W.setCell ⟨a, 3, none⟩ (.int .i32 1) := ⟨_, rfl⟩
  have hTV : Turn [a] W V := by rw [hV]; exact (Turn.refl [a] W).setCell (List.mem_singleton.2 rfl) 3 _
  have hVs := hTV.size
  have hVc : ∀ o, o ≠ 3 → V.cell? ⟨a, o, none⟩ = W.cell? ⟨a, o, none⟩ := fun o ho => by rw [hV]; exact World.cell?_setCell_other _ _ _ _ (off_ne ho.symm)
  have hVf : ∀ o, V.frozen? ⟨a, o, none⟩ = false := fun o => by rw [hV, World.frozen?_setCell]; exact hPW.fz o
  have hV3 : V.cell? ⟨a, 3, none⟩ = some (.int .i32 1) := by rw [hV]; exact World.cell?_setCell_same _ _ _ hPW.c3
  have hAV := hAW.turn hTV (by simp; exact ha.1.symm) (by simp; exact ha.2.1.symm) (by simp; exact ha.2.2.1.symm) (by simp; exact ha.2.2.2.1.symm) (by simp; exact ha.2.2.2.2.1.symm) (by simp; exact ha.2.2.2.2.2.1.symm)
  have hTrV := hTW.turn hTV (by simp; exact ha.2.2.2.2.2.2.symm)
  have hbV : V.cell? ⟨w.heap.size + 1, 0, none⟩ = some (.pointer (some ⟨a, 0, none⟩)) := (hTV.cell (p := ⟨w.heap.size + 1, 0, none⟩) (by show w.heap.size + 1 < W.heap.size; omega) (by simp; omega)).trans hb
  have hb0V : V.cell? ⟨w.heap.size, 0, none⟩ = some (.pointer (some ⟨t, 0, none⟩)) := (hTV.cell (p := ⟨w.heap.size, 0, none⟩) (by show w.heap.size < W.heap.size; omega) (by simp; omega)).trans hb0
  have hal' : a < V.heap.size := by omega
  have hpl : p < V.heap.size := hAV.pg.lt
  -- what the read comes to
  have hRead : ∀ u, Turn [] V u → Calls Tryz.prog 94 #[.pointer (some ⟨t, 0, none⟩), .pointer (some ⟨a, 0, none⟩)] u fun e w2 => ∃ T v, e = .returned (.iface T v) ∧ (R T v w2 ∧ PAt w2 p b m sm rb s { q with rd := true } ∧ TreeAt w2 t p D S ∧ Turn [p] V w2 ∧ (∀ o, w2.cell? ⟨a, o, none⟩ = V.cell? ⟨a, o, none⟩ ∧ w2.frozen? ⟨a, o, none⟩ = V.frozen? ⟨a, o, none⟩)) ∧ w2.cell? ⟨w.heap.size + 1, 0, none⟩ = some (.pointer (some ⟨a, 0, none⟩)) ∧ (∃ x, w2.cell? ⟨a, 5, none⟩ = some x) ∧ w2.frozen? ⟨a, 5, none⟩ = false := fun u hu => by
    have hus := hu.size
    refine (tread_gen t p b m sm rb a pg lvl s q D S L hd hq hth hL hf ha.2.1 u (hAV.turn hu (by simp) (by simp) (by simp) (by simp) (by simp) (by simp)) (hTrV.turn hu (by simp)) ((hu.cell (p := ⟨a, 0, none⟩) hal' (by simp)).trans ((hVc 0 (by omega)).trans hPW.c0)) ((hu.cell (p := ⟨a, 1, none⟩) hal' (by simp)).trans ((hVc 1 (by omega)).trans hPW.c1)) (fun v _ w2 => ∃ T x, v = .iface T x ∧ R T x w2) (fun w1 g o h1 hg hB => ?_)).mono ?_
    · have h1s := h1.size
      refine (hDec w1 g o (by omega) (by omega) hB).mono ?_
      rintro e w2 ⟨T, v, rfl, hR, hT⟩
      exact ⟨_, rfl, ⟨T, v, rfl, hR⟩, hT⟩
    · rintro e w2 ⟨_, w1, rfl, ⟨T, v, rfl, hR⟩, hA1, hTa, hTb⟩
      have hTr : Turn [p] V w2 := ((hu.mono (by simp)).trans hTa).trans (hTb.mono (by simp))
      have hk : ∀ x, x < V.heap.size → x ≠ p → w2.heap[x]? = V.heap[x]? := fun x hx hp => hTr.block x hx (by simp; exact hp)
      have hka := hk a hal' ha.2.1
      have hkb := hk (w.heap.size + 1) (by omega) (by have := hA.pg.lt; omega)
      have hc : ∀ o, w2.cell? ⟨a, o, none⟩ = V.cell? ⟨a, o, none⟩ ∧ w2.frozen? ⟨a, o, none⟩ = V.frozen? ⟨a, o, none⟩ := fun o => ⟨World.cell?_of_block (a := ⟨a, o, none⟩) hka, World.frozen?_of_block (a := ⟨a, o, none⟩) hka⟩
      refine ⟨T, v, rfl, ⟨hR, hA1.turn hTb (by simp) (by simp) (by simp) (by simp) (by simp) (by simp), hTrV.turn hTr (by simp; exact hO.p), hTr, hc⟩, (World.cell?_of_block (a := ⟨w.heap.size + 1, 0, none⟩) hkb).trans hbV, ⟨_, (hc 5).1.trans ((hVc 5 (by omega)).trans hPW.c5)⟩, (hc 5).2.trans (hVf 5)⟩
  have hClo := nodeAt1_nil t a (w.heap.size + 1) w.heap.size V (fun T v w2 => R T v w2 ∧ PAt w2 p b m sm rb s { q with rd := true } ∧ TreeAt w2 t p D S ∧ Turn [p] V w2 ∧ (∀ o, w2.cell? ⟨a, o, none⟩ = V.cell? ⟨a, o, none⟩ ∧ w2.frozen? ⟨a, o, none⟩ = V.frozen? ⟨a, o, none⟩)) hRead hbV hb0V ((hVc 5 (by omega)).trans hPW.c5)
  -- behind the closure
  have hAfter : ∀ (w3 : World), (∃ T v w2, (R T v w2 ∧ PAt w2 p b m sm rb s { q with rd := true } ∧ TreeAt w2 t p D S ∧ Turn [p] V w2 ∧ (∀ o, w2.cell? ⟨a, o, none⟩ = V.cell? ⟨a, o, none⟩ ∧ w2.frozen? ⟨a, o, none⟩ = V.frozen? ⟨a, o, none⟩)) ∧ (w3 = w2.setCell ⟨a, 5, none⟩ (.iface T v) ∨ w3 = (w2.drew).setCell ⟨a, 5, none⟩ (.iface T v))) → (∃ T v, R T v w3 ∧ w3.cell? ⟨a, 5, none⟩ = some (.iface T v) ∧ PAt w3 p b m sm rb s { q with rd := true } ∧ TreeAt w3 t p D S ∧ Turn [p, a] V w3 ∧ w3.cell? ⟨a, 0, none⟩ = some (.int .i64 (pg : Nat)) ∧ w3.cell? ⟨a, 1, none⟩ = some (.int .i64 (lvl : Nat)) ∧ ∀ o, w3.frozen? ⟨a, o, none⟩ = false) ∧ w3.cell? ⟨a, 2, none⟩ = some (.int .u32 0) ∧ w3.cell? ⟨a, 3, none⟩ = some (.int .i32 1) ∧ ∀ o, w3.frozen? ⟨a, o, none⟩ = false := by
    rintro w3 ⟨T, v, w2, ⟨hR, hA2, hT2, hTr, hc⟩, hw⟩
    have hT3 : Turn [a] w2 w3 := by
      rcases hw with rfl | rfl
      · exact (Turn.refl _ _).setCell (List.mem_singleton.2 rfl) 5 _
      · exact ((Turn.refl _ _).drew).setCell (List.mem_singleton.2 rfl) 5 _
    have h5 : w3.cell? ⟨a, 5, none⟩ = some (.iface T v) := by
      have h := (hc 5).1.trans ((hVc 5 (by omega)).trans hPW.c5)
      rcases hw with rfl | rfl
      · exact World.cell?_setCell_same _ _ _ h
      · exact World.cell?_setCell_same _ _ _ h
    have hoth : ∀ o, o ≠ 5 → w3.cell? ⟨a, o, none⟩ = V.cell? ⟨a, o, none⟩ := fun o ho => by
      rcases hw with rfl | rfl
      · exact (World.cell?_setCell_other _ _ _ _ (off_ne ho.symm)).trans (hc o).1
      · exact (World.cell?_setCell_other _ _ _ _ (off_ne ho.symm)).trans (hc o).1
    have hfz : ∀ o, w3.frozen? ⟨a, o, none⟩ = false := fun o => by
      rcases hw with rfl | rfl
      · rw [World.frozen?_setCell]; exact (hc o).2.trans (hVf o)
      · rw [World.frozen?_setCell]; exact (hc o).2.trans (hVf o)
    refine ⟨⟨T, v, hSt T v w2 w3 hR hT3, h5, hA2.turn hT3 (by simp; exact ha.1.symm) (by simp; exact ha.2.1.symm) (by simp; exact ha.2.2.1.symm) (by simp; exact ha.2.2.2.1.symm) (by simp; exact ha.2.2.2.2.1.symm) (by simp; exact ha.2.2.2.2.2.1.symm), hT2.turn hT3 (by simp; exact ha.2.2.2.2.2.2.symm), (hTr.mono (by simp)).trans (hT3.mono (by simp)), (hoth 0 (by omega)).trans ((hVc 0 (by omega)).trans hPW.c0), (hoth 1 (by omega)).trans ((hVc 1 (by omega)).trans hPW.c1), hfz⟩, (hoth 2 (by omega)).trans ((hVc 2 (by omega)).trans hPW.c2), (hoth 3 (by omega)).trans hV3, hfz⟩
  have hF : Calls Tryz.prog 93 #[.pointer (some ⟨w.heap.size + 1, 0, none⟩), .pointer (some ⟨w.heap.size, 0, none⟩)] (W.setCell ⟨a, 3, none⟩ (.int .i32 1)) fun e w3 => e = .returned (.tuple #[]) ∧ (∃ T v, R T v w3 ∧ w3.cell? ⟨a, 5, none⟩ = some (.iface T v) ∧ PAt w3 p b m sm rb s { q with rd := true } ∧ TreeAt w3 t p D S ∧ Turn [p, a] V w3 ∧ w3.cell? ⟨a, 0, none⟩ = some (.int .i64 (pg : Nat)) ∧ w3.cell? ⟨a, 1, none⟩ = some (.int .i64 (lvl : Nat)) ∧ ∀ o, w3.frozen? ⟨a, o, none⟩ = false) ∧ w3.cell? ⟨a, 2, none⟩ = some (.int .u32 0) ∧ w3.cell? ⟨a, 3, none⟩ = some (.int .i32 1) ∧ ∀ o, w3.frozen? ⟨a, o, none⟩ = false := by
    rw [← hV]
    refine hClo.mono ?_
    rintro e w3 ⟨rfl, h⟩
    exact ⟨rfl, hAfter w3 h⟩
  have HDo := hide (pdo a (w.heap.size + 1) w.heap.size W _ hPW.c2 hPW.c3 hPW.fz hF)
  have HT1 := hide hT1
  have HTV := hide hTV
  have HSt := hide hSt
  have hlow : w.heap.size + 1 ≠ a ∧ w.heap.size + 1 ≠ p := ⟨by omega, by have := hA.pg.lt; omega⟩
  have HbV := hide hbV
  clear hF hAfter hClo hRead hDec hSt hAV hTrV hAW hTW hPW hA hT hP hf hTV hT1 hb hb0 hbV hb0V hVc hVf hV3
  subst hW
  go_enter Tryz.func62, Tryz.ntmps62
  go_wp2_with fail
  refine HDo.out.mono ?_
  rintro e w4 ⟨rfl, w3, ⟨T, v, hR, h5, hA3, hT3, hTu, h0, h1, hfz⟩, k2, k3, hw4⟩
  have hT4 : Turn [a] w3 w4 := by
    rw [hw4]
    exact (((Turn.refl [a] w3).setCell (List.mem_singleton.2 rfl) 2 _).drew).setCell (List.mem_singleton.2 rfl) 3 _
  have hc4 : ∀ o, o ≠ 2 → o ≠ 3 → w4.cell? ⟨a, o, none⟩ = w3.cell? ⟨a, o, none⟩ := fun o h2 h3 => by
    rw [hw4]
    exact (World.cell?_setCell_other _ _ _ _ (off_ne h3.symm)).trans (World.cell?_setCell_other _ _ _ _ (off_ne h2.symm))
  have hP4 : PlaceAt w4 a pg lvl 1 (.iface T v) := by
    refine ⟨(hc4 0 (by omega) (by omega)).trans h0, (hc4 1 (by omega) (by omega)).trans h1, ?_, ?_, (hc4 5 (by omega) (by omega)).trans h5, fun o => ?_⟩
    · rw [hw4]
      exact (World.cell?_setCell_other _ _ _ _ (off_ne (by omega))).trans (World.cell?_setCell_same _ _ _ k2)
    · rw [hw4]
      exact World.cell?_setCell_same _ _ _ ((World.cell?_setCell_other _ _ _ _ (off_ne (by omega))).trans k3)
    · rw [hw4, World.frozen?_setCell]
      exact (World.frozen?_setCell ..).trans (hfz o)
  have hbox : w4.cell? ⟨w.heap.size + 1, 0, none⟩ = some (.pointer (some ⟨a, 0, none⟩)) := by
    have hT := (hTu.mono (T := [p, a]) (by simp)).trans (hT4.mono (by simp))
    exact (hT.cell (p := ⟨w.heap.size + 1, 0, none⟩) (by show w.heap.size + 1 < V.heap.size; omega) (by simp; exact ⟨hlow.2, hlow.1⟩)).trans HbV.out
  have h54 := hP4.c5
  have HR := hide (HSt.out T v w3 w4 hR hT4)
  have HP4 := hide hP4
  have HA4 := hide (hA3.turn hT4 (by simp; exact ha.1.symm) (by simp; exact ha.2.1.symm) (by simp; exact ha.2.2.1.symm) (by simp; exact ha.2.2.2.1.symm) (by simp; exact ha.2.2.2.2.1.symm) (by simp; exact ha.2.2.2.2.2.1.symm))
  have HTr4 := hide (hT3.turn hT4 (by simp; exact ha.2.2.2.2.2.2.symm))
  have HT4 : Hid (Turn [p, a] w w4) := (((HT1.out.mono (by simp)).trans (HTV.out.mono (by simp))).trans hTu).trans (hT4.mono (by simp))
  clear hR h5 hA3 hT3 hTu h0 h1 hfz k2 k3 hw4 hT4 hc4 hP4 HDo
  go_wp2_with fail
  go_ret
  exact ⟨T, v, rfl, HR.out, HP4.out, HA4.out, HTr4.out, HT4.out⟩

end Go.Proofs.YthehkckdecckhaaGreatDoor

namespace Go.Proofs.YthehkckdecckhaaGreatDoor
open Go.RowKit Go.Maps

/-- A low with its page. -/
def lowPg {h : Nat} (e : En (h + 1)) : ByteArray × Nat := (e.key, pageOf e)
/-- A node's bytes. -/
def encN : {h : Nat} → List (En h) → List Nat
  | 0, l => [1] ++ lbytes l
  | h + 1, l => [h + 1 + 1] ++ bbytes (l.map lowPg)
theorem sumN_eq (l : List Nat) : sumN l = l.sum := sumN_sum l
theorem lsize_sizeN (l : List (En 0)) : lsize l = sizeN l := by
  unfold lsize lsizes sizeN
  rw [sumN_eq]
  congr 1
theorem bbytes_length (l : List (ByteArray × Nat)) : (bbytes l).length = (l.map kidSize).sum := by
  unfold bbytes
  induction l with
  | nil => rfl
  | cons x l ih =>
    rw [List.flatMap_cons, List.length_append, ih, List.map_cons, List.sum_cons]
    unfold bBytes kidSize be4
    simp [natBytes_length]
    omega
theorem kid_sizeN {h : Nat} (l : List (En (h + 1))) : ((l.map lowPg).map kidSize).sum = sizeN l := by
  unfold sizeN
  rw [List.map_map]
  congr 1
theorem encN_length {h : Nat} (l : List (En h)) : (encN l).length = 1 + sizeN l := by
  cases h with
  | zero =>
    have e : (lbytes l).length = sizeN l := (lbytes_length l).trans (lsize_sizeN l)
    exact List.length_append.trans (congrArg (1 + ·) e)
  | succ h =>
    show ([h + 1 + 1] ++ bbytes (l.map lowPg)).length = _
    rw [List.length_append, bbytes_length, kid_sizeN]
    rfl

/-- What a page may have. -/
def PageFit : {h : Nat} → List (En h) → Prop
  | 0, l => 0 < l.length ∧ Short l ∧ sizeN l ≤ 495
  | h + 1, l => h ≤ 200 ∧ 0 < l.length ∧ (∀ e ∈ l, e.key.size ≤ 48 ∧ pageOf e < 4294967296) ∧ sizeN l ≤ 495
theorem size_pos {h : Nat} (e : En h) : 2 ≤ e.size := by
  cases h with
  | zero => show 2 ≤ 2 + e.1.size + e.2.size; omega
  | succ h => show 2 ≤ 5 + e.1.size; omega
theorem len_size {h : Nat} (l : List (En h)) : 2 * l.length ≤ sizeN l := by
  induction l with
  | nil => exact Nat.le_refl _
  | cons e l ih =>
    rw [sizeN_cons, List.length_cons]
    have := size_pos e
    omega
theorem PageFit.size {h : Nat} {l : List (En h)} (hp : PageFit l) : 0 < l.length ∧ sizeN l ≤ 495 := by
  cases h with
  | zero => exact ⟨hp.1, hp.2.2⟩
  | succ h => exact ⟨hp.2.1, hp.2.2.2⟩

/-- The disk has the pages. -/
structure DkOk (s : St) (q : Pg) (D : Dk) : Prop where
  at_ : ∀ pg h (l : List (En h)), D pg = some ⟨h, l⟩ → q.thereI s.n pg = true ∧ s.f pg = bytesOf 512 (pageB (encN l)) ∧ PageFit l

/-- A node in memory. -/
def NdAt (w : World) (Rw : Nat → Prop) (G : Gh) (lvl : Nat) : Nd → TypeId → Value → Prop
  | .inl l, T, v => lvl = 1 ∧ T = 73 ∧ ∃ b off c, v = .slice (some ⟨b, off, none⟩) l.length c ∧ KVsAt w (some ⟨b, off, none⟩) l ∧ (l.length ≤ c ∧ c ≤ 9223372036854775807) ∧ Rw b
  | .inr ks, T, v => 2 ≤ lvl ∧ T = 120 ∧ ∃ b off c, v = .slice (some ⟨b, off, none⟩) ks.length c ∧ KidsAt w (some ⟨b, off, none⟩) ks ∧ (ks.length ≤ c ∧ c ≤ 9223372036854775807) ∧ Rw b ∧ ∀ k ∈ ks, ∃ Q, G k.2 = some Q ∧ Q.lvl + 1 = lvl
/-- A place in memory. -/
def PlOk (w : World) (Rw : Nat → Prop) (G : Gh) (a : Nat) (P : Pl) : Prop :=
  match P.nd with
  | none => PlaceAt w a P.pg P.lvl 0 .nilIface
  | some nd => ∃ d T v, (d = 0 ∨ d = 1) ∧ PlaceAt w a P.pg P.lvl d (.iface T v) ∧ NdAt w Rw G P.lvl nd T v
/-- All places and rows of trees. -/
structure Mem (w : World) (Rw : Nat → Prop) (G : Gh) : Prop where
  at_ : ∀ a P, G a = some P → PlOk w Rw G a P
  apart : ∀ b, Rw b → G b = none
  rows : ∀ b, Rw b → b < w.heap.size

theorem PlOk.lt {w : World} {Rw : Nat → Prop} {G : Gh} {a : Nat} {P : Pl} (h : PlOk w Rw G a P) : a < w.heap.size := by
  unfold PlOk at h
  split at h
  · exact h.lt
  · obtain ⟨_, _, _, _, h, _⟩ := h
    exact h.lt
theorem Mem.lt {w : World} {Rw : Nat → Prop} {G : Gh} (h : Mem w Rw G) {a : Nat} (ha : G a ≠ none) : a < w.heap.size := by
  cases hP : G a with
  | none => exact absurd hP ha
  | some P => exact (h.at_ a P hP).lt

/-- A node stays where its row does, and its kids' places are known still. -/
theorem NdAt.keep {w w' : World} {Rw Rw' : Nat → Prop} {G G' : Gh} {lvl : Nat} {nd : Nd} {T : TypeId} {v : Value} (h : NdAt w Rw G lvl nd T v) (hb : ∀ b, Rw b → w'.heap[b]? = w.heap[b]?) (hR : ∀ b, Rw b → Rw' b) (hG : ∀ a Q, G a = some Q → ∃ Q', G' a = some Q' ∧ Q'.lvl = Q.lvl) : NdAt w' Rw' G' lvl nd T v := by
  cases nd with
  | inl l =>
    obtain ⟨h1, h2, b, off, c, h3, h4, h5, h6⟩ := h
    refine ⟨h1, h2, b, off, c, h3, ?_, h5, hR b h6⟩
    rcases h4 with h | ⟨b', off', e, hc⟩
    · exact .inl h
    · obtain ⟨rfl, rfl⟩ : b = b' ∧ off = off' := by injection e with e; injection e with e1 e2; exact ⟨e1, e2⟩
      exact .inr ⟨b, off, rfl, fun i hi => ⟨(World.cell?_of_block (a := ⟨b, off + i * 2, none⟩) (hb b h6)).trans (hc i hi).1, (World.cell?_of_block (a := ⟨b, off + i * 2 + 1, none⟩) (hb b h6)).trans (hc i hi).2⟩⟩
  | inr ks =>
    obtain ⟨h1, h2, b, off, c, h3, h4, h5, h6, h7⟩ := h
    refine ⟨h1, h2, b, off, c, h3, ?_, h5, hR b h6, fun k hk => ?_⟩
    · rcases h4 with h | ⟨b', off', e, hc⟩
      · exact .inl h
      · obtain ⟨rfl, rfl⟩ : b = b' ∧ off = off' := by injection e with e; injection e with e1 e2; exact ⟨e1, e2⟩
        exact .inr ⟨b, off, rfl, fun i hi => ⟨(World.cell?_of_block (a := ⟨b, off + i * 2, none⟩) (hb b h6)).trans (hc i hi).1, (World.cell?_of_block (a := ⟨b, off + i * 2 + 1, none⟩) (hb b h6)).trans (hc i hi).2⟩⟩
    · obtain ⟨Q, hQ, hl⟩ := h7 k hk
      obtain ⟨Q', hQ', hl'⟩ := hG _ Q hQ
      exact ⟨Q', hQ', by omega⟩
theorem PlaceAt.same {w w' : World} {a pg lvl : Nat} {d : Int} {v : Value} (h : PlaceAt w a pg lvl d v) (hb : w'.heap[a]? = w.heap[a]?) : PlaceAt w' a pg lvl d v := by
  have hc : ∀ o, w'.cell? ⟨a, o, none⟩ = w.cell? ⟨a, o, none⟩ := fun o => World.cell?_of_block (a := ⟨a, o, none⟩) hb
  exact ⟨(hc 0).trans h.c0, (hc 1).trans h.c1, (hc 2).trans h.c2, (hc 3).trans h.c3, (hc 5).trans h.c5, fun o => (World.frozen?_of_block (a := ⟨a, o, none⟩) hb).trans (h.fz o)⟩
theorem PlOk.keep {w w' : World} {Rw Rw' : Nat → Prop} {G G' : Gh} {a : Nat} {P : Pl} (h : PlOk w Rw G a P) (ha : w'.heap[a]? = w.heap[a]?) (hb : ∀ b, Rw b → w'.heap[b]? = w.heap[b]?) (hR : ∀ b, Rw b → Rw' b) (hG : ∀ a Q, G a = some Q → ∃ Q', G' a = some Q' ∧ Q'.lvl = Q.lvl) : PlOk w' Rw' G' a P := by
  unfold PlOk at h ⊢
  split at h
  · rename_i e
    exact h.same ha
  · rename_i nd e
    obtain ⟨d, T, v, hd, hP, hN⟩ := h
    exact ⟨d, T, v, hd, hP.same ha, hN.keep hb hR hG⟩
/-- Other blocks turn. -/
theorem Mem.turn {X : List Nat} {w w' : World} {Rw : Nat → Prop} {G : Gh} (h : Mem w Rw G) (hT : Turn X w w') (hX : ∀ x ∈ X, G x = none ∧ ¬ Rw x) : Mem w' Rw G := by
  have hb : ∀ b, Rw b → w'.heap[b]? = w.heap[b]? := fun b hr => hT.block b (h.rows b hr) (fun hm => (hX b hm).2 hr)
  refine ⟨fun a P hP => (h.at_ a P hP).keep (hT.block a (h.at_ a P hP).lt (fun hm => by rw [(hX a hm).1] at hP; cases hP)) hb (fun _ h => h) (fun _ Q hQ => ⟨Q, hQ, rfl⟩), h.apart, fun b hr => Nat.lt_of_lt_of_le (h.rows b hr) hT.size⟩

end Go.Proofs.YthehkckdecckhaaGreatDoor

namespace Go.Proofs.YthehkckdecckhaaGreatDoor
open Go.RowKit Go.Maps

theorem bBytes_length (x : ByteArray × Nat) : (bBytes x).length = kidSize x := by
  unfold bBytes kidSize be4
  simp [natBytes_length]
  omega
theorem bbytes_take (l : List (ByteArray × Nat)) (i : Nat) (h : i < l.length) : bbytes (l.take (i + 1)) = bbytes (l.take i) ++ bBytes l[i] := by
  unfold bbytes
  rw [List.take_succ_eq_append_getElem h, List.flatMap_append]
  simp
theorem bbytes_le (l : List (ByteArray × Nat)) (i : Nat) : (bbytes (l.take i)).length ≤ (bbytes l).length := by
  have h : (bbytes l).length = (bbytes (l.take i)).length + (bbytes (l.drop i)).length := by
    rw [← List.length_append]
    unfold bbytes
    rw [← List.flatMap_append, List.take_append_drop]
  omega

set_option maxRecDepth 100000 in
set_option maxHeartbeats 3200000 in
theorem entriesB_any (a : Option Addr) (cap : Nat) (ks l : List (ByteArray × Nat)) (hll : l.length = ks.length) (hlow : ∀ j (h : j < ks.length) (h' : j < l.length), ks[j].1 = l[j].1) (hlen : ks.length ≤ 1000) (hsh : ShortB l) (hsz : (bbytes l).length ≤ 700) (base : Nat) (v : Value) (pre : List Nat) (hpre : pre.length ≤ 50) (w : World) (hbase : base ≤ w.heap.size) (w0 : World) (hw0 : w0.heap.size = base) (hT0 : Turn [] w0 w) (hK : KidsAt w0 a ks) (hP : ∀ j (h : j < ks.length) (h' : j < l.length), w0.cell? ⟨ks[j].2, 0, none⟩ = some (.int .i64 (l[j].2 : Nat))) (hO : OwnB w base v pre) :
    Calls Tryz.prog 192 #[.slice a ks.length cap, v] w fun e w' => ∃ v', e = .returned v' ∧ OwnB w' base v' (pre ++ bbytes l) ∧ Grew base w w' := by
  have HK := hide hK
  have HO := hide hO
  have HT0 := hide hT0
  have HSh := hide hsh
  have HLow := hide hlow
  have HP := hide hP
  have HLL := hide hll
  clear hK hO hT0 hsh hlow hP hll
  go_enter Tryz.func192, Tryz.ntmps192
  go_wp2_with fail
  go_loopw [1, 6, 9] (fun b _ i wr => ∃ j : Nat, j ≤ ks.length ∧ i = .int .i64 j ∧ OwnB wr base b (pre ++ bbytes (l.take j)) ∧ Grew base w wr ∧ w.heap.size ≤ wr.heap.size) (fun _ _ i _ => ks.length - (intOf i).toNat)
  case atStart => exact ⟨0, Nat.zero_le _, rfl, by simpa [bbytes] using HO.out, Grew.refl _ _, Nat.le_refl _⟩
  case round =>
    obtain ⟨j, hj, rfl, hO2, hG2, hs2⟩ := hrel
    have HO2 := hide hO2
    have HG2 := hide hG2
    clear hO2 hG2
    by_cases hjl : j < ks.length
    · have hjl' : j < l.length := by rw [HLL.out]; exact hjl
      have hT2 := HG2.out w0 (by omega) HT0.out
      obtain ⟨b, off, rfl, hc, hd⟩ := (HK.out.turn0 hT2).at hjl
      have hpc := (hT2.cb (lt_of_cell (HP.out j hjl hjl')) (by simp)).trans (HP.out j hjl hjl')
      obtain ⟨hb1, hb2⟩ := HSh.out l[j] (List.getElem_mem hjl')
      rw [HLow.out j hjl hjl'] at hc
      have hbl := lt_of_cell hc
      have hkl := lt_of_cell hpc
      have hpl := bbytes_le l j
      have hpl1 := bbytes_le l (j + 1)
      have HLt := hide (bbytes_take l j hjl')
      rw [HLt.out, List.length_append, bBytes_length] at hpl1
      unfold kidSize at hpl1
      obtain ⟨lw, hlw⟩ : ∃ x, x = l[j].1 := ⟨_, rfl⟩
      obtain ⟨pj, hpj⟩ : ∃ x, x = l[j].2 := ⟨_, rfl⟩
      obtain ⟨ka, hka⟩ : ∃ x, x = ks[j].2 := ⟨_, rfl⟩
      have HFin : Hid (pre ++ bbytes (l.take (j + 1)) = pre ++ bbytes (l.take j) ++ [lw.size] ++ natBytes lw ++ be4 pj) := by
        show _ = _
        rw [HLt.out]
        unfold bBytes
        rw [← hlw, ← hpj]
        simp only [List.append_assoc]
      rw [← hlw] at hc hpl1 hb1
      rw [← hpj] at hpc hb2
      have hpr : (pre ++ bbytes (l.take j)).length + lw.size ≤ 800 := by rw [List.length_append]; omega
      rw [← hka] at hpc hd hkl
      have HO3 := hide (HO2.out.alloc (.cells #[.string lw, .pointer (some ⟨ka, 0, none⟩)] 122))
      have HKA := hide hka
      have HPJ := hide hpj
      clear hT2 hlw hpj hka
      go_wp2_with fail
      refine (appendText_any base u1 (pre ++ bbytes (l.take j)) lw (by omega) (by omega) _ (by simp; omega) HO3.out).mono ?_
      rintro e w3 ⟨v3, rfl, hO3, hG3, hs3, hK3⟩
      have HO4 := hide hO3
      have HG3 := hide hG3
      have hown := HO2.out.lt
      have hkb : w3.cell? ⟨wr.heap.size, 1, none⟩ = some (.pointer (some ⟨ka, 0, none⟩)) := by
        refine (World.cell?_of_block (a := ⟨wr.heap.size, 1, none⟩) (hK3 wr.heap.size (by simp) (fun e => ?_))).trans (World.cell?_alloc_at _ _ _ _ rfl)
        have := (hown _ e).2
        omega
      have hpc3 : w3.cell? ⟨ka, 0, none⟩ = some (.int .i64 (pj : Nat)) := by
        have hT3 := ((HG2.out.trans (Grew.alloc base wr _)).trans HG3.out) w0 (by omega) HT0.out
        have hk0 := HP.out j hjl (by rw [HLL.out]; exact hjl)
        rw [HKA.out, HPJ.out]
        exact (hT3.cb (lt_of_cell hk0) (by simp)).trans hk0
      have hpr2 : (pre ++ bbytes (l.take j) ++ [lw.size] ++ natBytes lw).length ≤ 1000 := by
        rw [List.length_append, List.length_append, natBytes_length]
        show _ + 1 + _ ≤ _
        omega
      clear hO3 hG3 hK3 hc hd
      simp at hs3
      go_wp2_with fail
      refine (appendNumber_any base v3 _ pj (by omega) (by omega) w3 (by omega) HO4.out).mono ?_
      rintro e w4 ⟨v4, rfl, hO4, hG4, hs4, _⟩
      rw [← HFin.out] at hO4
      have HO5 := hide hO4
      have HG5 := hide (((HG2.out.trans (Grew.alloc base wr _)).trans HG3.out).trans hG4)
      clear hO4 hG4
      go_wp2_with fail
      go_roundw
      case rel => exact ⟨j + 1, by omega, by go_num, HO5.out, HG5.out, by omega⟩
      case measure => simp [intOf]; omega
    · obtain rfl : j = ks.length := by omega
      go_wp2_with fail
      go_ret
      have h := HO2.out
      rw [← HLL.out, List.take_length] at h
      exact ⟨_, rfl, h, HG2.out⟩

set_option maxRecDepth 100000 in
set_option maxHeartbeats 1600000 in
theorem encode_branch (bb off cap : Nat) (ks l : List (ByteArray × Nat)) (lvl : Nat) (hl : lvl ≤ 255) (hll : l.length = ks.length) (hlow : ∀ j (h : j < ks.length) (h' : j < l.length), ks[j].1 = l[j].1) (hlen : ks.length ≤ 1000) (hsh : ShortB l) (hsz : (bbytes l).length ≤ 700) (w : World) (hK : KidsAt w (some ⟨bb, off, none⟩) ks) (hP : ∀ j (h : j < ks.length) (h' : j < l.length), w.cell? ⟨ks[j].2, 0, none⟩ = some (.int .i64 (l[j].2 : Nat))) :
    Calls Tryz.prog 68 #[.iface 120 (.slice (some ⟨bb, off, none⟩) ks.length cap), .int .i64 (lvl : Nat)] w fun e w' => ∃ v, e = .returned v ∧ OwnB w' w.heap.size v ([lvl] ++ bbytes l) ∧ Turn [] w w' := by
  have hmod : (lvl : Int) % 256 = (lvl : Int) := by omega
  have hO : OwnB (w.alloc (.cells #[.int .u8 (lvl : Nat)] 5)) w.heap.size (.slice (some ⟨w.heap.size, 0, none⟩) 1 1) [lvl] := OwnB.new w [lvl] 1 rfl (by omega)
  have hT0 : Turn [] w (w.alloc (.cells #[.int .u8 (lvl : Nat)] 5)) := (Turn.refl [] w).alloc _
  have HC := hide (entriesB_any (some ⟨bb, off, none⟩) cap ks l hll hlow hlen hsh hsz w.heap.size _ [lvl] (by simp) _ (by simp) w rfl hT0 hK hP hO)
  have HT0 := hide hT0
  clear hO hT0 hK hsh hP hlow hll
  go_enter Tryz.func68, Tryz.ntmps68
  go_wp2_with fail
  refine HC.out.mono ?_
  rintro e w1 ⟨v, rfl, hO1, hG1⟩
  have HO1 := hide hO1
  have HG1 := hide hG1
  clear hO1 hG1
  go_wp2_with fail
  go_ret
  exact ⟨v, rfl, HO1.out, HG1.out w (Nat.le_refl _) HT0.out⟩

end Go.Proofs.YthehkckdecckhaaGreatDoor

namespace Go.Proofs.YthehkckdecckhaaGreatDoor
open Go.RowKit Go.Maps

theorem Pg.alloced_left (q : Pg) (N k : Nat) : q.left N ≤ (q.alloced k).left N + 1 := by
  have h := fc_more (q.tk N) k 16384
  have e : (fun j => q.tk N j || decide (j = k)) = (q.alloced k).tk N := by
    funext j
    unfold Pg.tk Pg.alloced setB
    by_cases e : j = k
    · simp [e]
    · simp [e]
  rw [e] at h
  exact h

/-- Pages that are allocated one behind the other. -/
def Als (N : Nat) : Pg → List Nat → Pg → Prop
  | q, [], q' => q' = q
  | q, k :: ks, q' => q.Next N k ∧ Als N (q.alloced k) ks q'
theorem Als.append {N : Nat} : {a b : List Nat} → {q q1 q2 : Pg} → Als N q a q1 → Als N q1 b q2 → Als N q (a ++ b) q2
  | [], _, _, _, _, h, k => by
    have h : _ = _ := h
    rw [h] at k
    exact k
  | _ :: _, _, _, _, _, h, k => ⟨h.1, h.2.append k⟩
theorem Als.one {N k : Nat} {q : Pg} (h : q.Next N k) : Als N q [k] (q.alloced k) := ⟨h, rfl⟩

/-- What is kept, what is new. -/
structure AlsIs (N : Nat) (q : Pg) (ns : List Nat) (q' : Pg) : Prop where
  dead : q'.dead = q.dead
  c : q'.c = q.c
  root : q'.root = q.root
  K : q'.K = q.K
  u : q'.u = q.u + ns.length
  left : q.left N ≤ q'.left N + ns.length
  old : ∀ x, x ∉ ns → q'.si x = q.si x
  new : ∀ x ∈ ns, q'.si x = 1 ∧ fp N ≤ x ∧ x < N ∧ q.K x = false ∧ q.si x ≠ 1
  nodup : ns.Nodup
theorem Als.is {N : Nat} : {ns : List Nat} → {q q' : Pg} → Als N q ns q' → AlsIs N q ns q'
  | [], q, q', h => by
    obtain rfl : q' = q := h
    exact ⟨rfl, rfl, rfl, rfl, rfl, Nat.le_add_right _ _, fun _ _ => rfl, fun x hx => absurd hx (by simp), List.nodup_nil⟩
  | k :: ks, q, q', h => by
    have i := h.2.is
    obtain ⟨r1, r2, r3, r4⟩ := h.1.range
    have hk : k ∉ ks := fun hm => by
      have := (i.new k hm).2.2.2.2
      unfold Pg.alloced setB at this
      simp at this
    have hl := Pg.alloced_left q N k
    have hl2 := i.left
    have hu : q'.u = q.u + 1 + ks.length := i.u
    refine ⟨i.dead, i.c, i.root, i.K, by rw [List.length_cons]; omega, by rw [List.length_cons]; omega, fun x hx => ?_, fun x hx => ?_, List.nodup_cons.2 ⟨hk, i.nodup⟩⟩
    · rw [List.mem_cons, not_or] at hx
      rw [i.old x hx.2]
      show setB q.si k 1 x = q.si x
      unfold setB
      rw [if_neg hx.1]
    · rcases List.mem_cons.1 hx with rfl | hm
      · refine ⟨?_, r1, r2, r3, r4⟩
        rw [i.old x hk]
        show setB q.si x 1 x = 1
        unfold setB
        rw [if_pos rfl]
      · obtain ⟨g1, g2, g3, g4, g5⟩ := i.new x hm
        refine ⟨g1, g2, g3, g4, fun e => g5 ?_⟩
        show setB q.si k 1 x = 1
        unfold setB
        split
        · rfl
        · exact e
theorem AlsIs.there_old {N : Nat} {q q' : Pg} {ns : List Nat} (h : AlsIs N q ns q') {x : Nat} (hx : x ∉ ns) : q'.there x = q.there x := by
  unfold Pg.there
  rw [h.K, h.old x hx]
theorem AlsIs.there_new {N : Nat} {q q' : Pg} {ns : List Nat} (h : AlsIs N q ns q') {x : Nat} (hx : x ∈ ns) : q'.there x = true ∧ q.there x = false := by
  obtain ⟨g1, _, _, g4, g5⟩ := h.new x hx
  unfold Pg.there
  rw [g1, g4]
  simp
  exact fun e => absurd e g5
theorem AlsIs.thereI {N : Nat} {q q' : Pg} {ns : List Nat} (h : AlsIs N q ns q') {M : Nat} {x : Nat} (hx : q.thereI M (x : Nat) = true) : q'.thereI M (x : Nat) = true := by
  have hn : x ∉ ns := fun hm => by
    obtain ⟨n, e, _, _, ht⟩ := Pg.there_range hx
    obtain rfl : x = n := by omega
    rw [(h.there_new hm).2] at ht
    cases ht
  unfold Pg.thereI at hx ⊢
  rw [Int.toNat_natCast] at hx ⊢
  rw [h.there_old hn]
  exact hx

theorem DkOk.pages {s : St} {q : Pg} {D : Dk} (h : DkOk s q D) {hh pg : Nat} {l : List (En hh)} (hd : OnDisk D hh pg l) : pg < s.n := by
  obtain ⟨n, e, _, h2, _⟩ := Pg.there_range (h.at_ _ _ _ hd.at).1
  omega

/-- Below a place are places of lesser levels. -/
theorem Und.lvl {G : Gh} {D : Dk} : {h a x : Nat} → {l : List (En h)} → Means G D h a l → Und G h a x → ∃ P, G x = some P ∧ P.lvl ≤ h + 1 := by
  intro h
  induction h with
  | zero =>
    intro a x l hm hu
    obtain rfl : x = a := hu
    obtain ⟨P, h1, h2, _⟩ := hm.out
    exact ⟨P, h1, by omega⟩
  | succ h ih =>
    intro a x l hm hu
    obtain ⟨P, h1, h2, h3, h4, h5⟩ := hm.out
    rcases hu with rfl | ⟨P', ks, hP, hn, k, hk, hu⟩
    · exact ⟨P, h1, by omega⟩
    · obtain rfl : P = P' := by rw [hP] at h1; exact (Option.some.inj h1).symm
      obtain ⟨ks', e, hb⟩ := h5 _ hn
      injection e with e
      subst e
      obtain ⟨e, _, hx⟩ := hb.left k hk
      obtain ⟨Q, g1, g2⟩ := ih hx.2.2 hu
      exact ⟨Q, g1, by omega⟩

/-- All pages are there: none is 0. -/
theorem ondisk_count {D : Dk} {h pg : Nat} {l : List (En h)} (hd : OnDisk D h pg l) : (pagesAt pg l).count 0 = 0 ∧ (pagesAt pg l).filter (fun x => decide (x ≠ 0)) = pagesAt pg l :=
  ⟨List.count_eq_zero.2 fun hm => hd.pos 0 hm rfl, List.filter_eq_self.2 fun x hx => decide_eq_true (hd.pos x hx)⟩

end Go.Proofs.YthehkckdecckhaaGreatDoor

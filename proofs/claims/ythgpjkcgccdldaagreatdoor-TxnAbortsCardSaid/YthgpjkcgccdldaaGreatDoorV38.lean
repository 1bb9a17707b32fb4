/-
  A leaf read from its bytes.
  A branch read from its bytes: its kids' places are new, and not read yet.
  decode: a page's bytes made a leaf, or a branch whose kids' places are new.
  A node is read from its page.
  nodeAt of a place that was not read yet: its node is read from its page, and stays there.
  The memory of trees: places and rows as the blocks have them, pages as the disk has them.
  A branch as bytes: entries, encode; encode of any node.
  Pages that were allocated one behind the other.
  A tree with its memory and its disk; nodeAt of any place of it.
  nodeAt of any place of a tree.
  The way of a key down a tree: what it meets, by itself.
  leafOf, walked: the leaf on a key's way.
  A node is laid into a page: its bytes, what the tree's memory and the disk are then.
  What write leaves of a place, and of the kids of a branch, one behind the other.
  write, walked, of any place.
  write, walked, of a branch; write of any place.
-/
import Derived.Test.YthgpjkcgccdldaaGreatDoorV37
import Derived.Test.YthgpjkcgccdldaaGreatDoorV21
import Derived.Test.YthgpjkcgccdldaaGreatDoorV33
import Derived.Test.YthgpjkcgccdldaaGreatDoorV31
import Derived.Test.YthgpjkcgccdldaaGreatDoorV23
import Derived.Test.YthgpjkcgccdldaaGreatDoorV30
import Derived.Deep.RegionWith
import Derived.Test.YthgpjkcgccdldaaGreatDoorV03
import Derived.Test.YthgpjkcgccdldaaGreatDoorV25
import Derived.Test.YthgpjkcgccdldaaGreatDoorV34

namespace Go.Proofs.YthgpjkcgccdldaaGreatDoor
open Go.RowKit Go.Maps

def lenV : Value → Nat
  | .slice _ n _ => n
  | _ => 0

theorem RdAt.grown {w w' : World} {r : Nat} {l : List Nat} {row : Option Nat} (h : RdAt w r l) (hg : w.grownBy w' row) (hr : ∀ k, row = some k → r < k) : RdAt w' r l := by
  cases row with
  | none => exact h.turn ((Turn.refl [] w).grown hg (fun k hk => by cases hk)) (by simp)
  | some g => exact h.turn ((Turn.refl [g] w).grown hg (fun k hk => by cases hk; exact .inl (by simp))) (fun x hx => by rw [List.mem_singleton.1 hx]; exact hr g rfl)

theorem pair_new (w : World) (key value : ByteArray) (t : TypeId) : PairsAt (w.alloc (.cells #[.string key, .string value] t)) (some ⟨w.heap.size, 0, none⟩) (kvCells [(key, value)]) := by
  refine (KVsAt.pairs (l := [(key, value)]) (.inr ⟨w.heap.size, 0, rfl, fun i hi => ?_⟩) :)
  have : i = 0 := by simpa using hi
  subst this
  exact ⟨World.cell?_alloc_at _ _ _ _ rfl, World.cell?_alloc_at _ _ _ _ rfl⟩

theorem lbytes_drop {l : List (ByteArray × ByteArray)} {j : Nat} (h : j < l.length) : lbytes (l.drop j) = [l[j].1.size] ++ natBytes l[j].1 ++ ([l[j].2.size] ++ natBytes l[j].2 ++ lbytes (l.drop (j + 1))) := by
  rw [List.drop_eq_getElem_cons h]
  unfold lbytes
  rw [List.flatMap_cons]
  unfold kvBytes
  simp only [List.append_assoc]
theorem lbytes_small {l : List (ByteArray × ByteArray)} (h : Short l) (j : Nat) : ∀ x ∈ lbytes (l.drop j), x < 256 := lbytes_lt (fun x hx => h x (List.mem_of_mem_drop hx))

set_option maxRecDepth 100000 in
set_option maxHeartbeats 3200000 in
theorem rdleaf_any (r : Nat) (l : List (ByteArray × ByteArray)) (hlen : l.length ≤ 1000) (hsh : Short l) (w : World) (h : RdAt w r (lbytes l)) :
    Calls Tryz.prog 197 #[.pointer (some ⟨r, 0, none⟩)] w fun e w' => ∃ v, e = .returned v ∧ w'.ownsRow w.heap.size 55 2 v l.length (flat (kvCells l)) ∧ Turn [r] w w' := by
  have hr := h.lt
  have H := hide h
  have HSh := hide hsh
  have HSm := hide (lbytes_small hsh)
  clear h hsh
  go_enter Tryz.func197, Tryz.ntmps197
  go_wp2_with fail
  go_loopw [3] (fun b wr => ∃ j : Nat, j ≤ l.length ∧ Hid (wr.ownsRow w.heap.size 55 2 b j (flat (kvCells (l.take j)))) ∧ Hid (RdAt wr r (lbytes (l.drop j))) ∧ Hid (Turn [r] w wr)) (fun b _ => l.length - lenV b)
  case atStart => exact ⟨0, Nat.zero_le _, World.ownsRow_nil _ _ _ _, H.out, Turn.refl _ _⟩
  case round =>
    obtain ⟨j, hj, HO, HR, HT⟩ := hrel
    have hsz := HT.out.size
    obtain ⟨va, vc, rfl⟩ := own_form HO.out
    obtain ⟨hz, ra, rc, hrc, -⟩ := HR.out
    by_cases hjl : j < l.length
    · have hlb := lbytes_drop hjl
      obtain ⟨hs1, hs2⟩ := HSh.out l[j] (List.getElem_mem hjl)
      have hR1 := HR.out
      rw [hlb] at hR1
      have HT1 := hide (rdtext_any r l[j].1 _ (by omega) (fun x hx => HSm.out j x (by rw [hlb]; exact List.mem_append_right _ hx)) wr hR1)
      have hpos : ((lbytes (l.drop j)).length : Int) > 0 := by
        rw [hlb]
        simp
        omega
      clear hR1 hlb hz
      generalize (lbytes (l.drop j)).length = N at *
      have hlt1 := HO.out.lt
      go_wp2_with fail
      refine HT1.out.mono ?_
      rintro e w1 ⟨rfl, hR1, hTa⟩
      have HT2 := hide (rdtext_any r l[j].2 _ (by omega) (HSm.out (j + 1)) w1 hR1)
      have HTa := hide hTa
      clear hR1 hTa HT1 hrc
      go_wp2_with fail
      refine HT2.out.mono ?_
      rintro e w2 ⟨rfl, hR2, hTb⟩
      have hTab := HTa.out.trans hTb
      have hro : ∀ g, (Value.slice va j vc).ownBlock = some g → g ∉ [r] := fun g hg hm => by
        have := (hlt1 g hg).1
        simp at hm
        omega
      have HO2 := hide (own_turn (own_turn HO.out hTab hro) ((Turn.refl [] w2).alloc (.cells #[.string l[j].1, .string l[j].2] 55)) (by simp))
      have HP := hide (pair_new w2 l[j].1 l[j].2 55)
      have HR2 := hide (hR2.turn ((Turn.refl [] w2).alloc (.cells #[.string l[j].1, .string l[j].2] 55)) (by simp))
      have HTc : Hid (Turn [r] w (w2.alloc (.cells #[.string l[j].1, .string l[j].2] 55))) := (HT.out.trans hTab).alloc _
      have hsz2 := HTc.out.size
      have HNext : Hid (kvCells (l.take (j + 1)) = kvCells (l.take j) ++ kvCells [(l[j].1, l[j].2)]) := by
        show _ = _
        rw [List.take_succ_eq_append_getElem hjl]
        exact List.map_append
      clear hR2 hTb hTab HT2 HO hro
      go_wp2_with (at_builtin; refine append_pairsT 137 Tryz.underlying137 rfl _ _ rfl w.heap.size (.slice va j vc) j (kvCells (l.take j)) rfl HO2.out (some ⟨w2.heap.size, 0, none⟩) 1 1 (kvCells [(l[j].1, l[j].2)]) rfl rfl (by simp) HP.out (kv_one _) (by omega) hsz2 ?_; intro v3 w3 hown3 hgrow3 _; have HO3 := hide hown3; have HG3 := hide hgrow3; obtain ⟨vb, vd, rfl⟩ := own_form hown3; clear hown3 hgrow3)
      go_roundw
      case rel =>
        refine ⟨j + 1, hjl, ?_, ?_, ?_⟩
        · rw [HNext.out]
          exact HO3.out
        · exact HR2.out.grown HG3.out (fun k hk => Nat.lt_of_lt_of_le hr (hlt1 k hk).1)
        · exact HTc.out.grown HG3.out (fun k hk => .inr (hlt1 k hk).1)
      case measure => simp [lenV]; omega
    · obtain rfl : j = l.length := by omega
      rw [List.drop_length] at hrc
      have hrc2 : wr.cell? ⟨r, 0, none⟩ = some (.slice ra 0 rc) := hrc
      clear hrc hz
      go_wp2_with fail
      go_ret
      have h := HO.out
      rw [List.take_length] at h
      exact ⟨_, rfl, h, HT.out⟩

end Go.Proofs.YthgpjkcgccdldaaGreatDoor

namespace Go.Proofs.YthgpjkcgccdldaaGreatDoor
open Go.RowKit Go.Maps

/-- An append of kids to a row of the call's own. -/
theorem kappend_kids {ops : Array Oper} {rest : List Oper} {o : Oper} {a : Act} {Q : Exit → Act → World → Prop} {w : World} (hgd : o.guard = none) (s x : Operand)
    (ho : o.op = .call { callee := .builtin .append, args := #[s, x], argTypes := #[170, 170] }) (base : Nat) (v : Value) (n : Nat) (xs : List (Value × Value)) (hs : a.eval s = v) (hown : w.ownsRow base 173 2 v n (flat xs))
    (ad : Addr) (m c : Nat) (l : List (Value × Value)) (hx : a.eval x = .slice (some ad) m c) (hm : l.length = m) (hb : PairsAt w (some ad) l) (h1 : OneCell l) (hbound : n + m ≤ 1000000) (hbase : base ≤ w.heap.size)
    (h : ∀ v' w', w'.ownsRow base 173 2 v' (n + m) (flat (xs ++ l)) → w.grownBy w' v.ownBlock → (v'.ownBlock = v.ownBlock ∨ v'.ownBlock = some w.heap.size) → wpList Tryz.prog ops Q rest (a.put o.dst v') w') :
    wpList Tryz.prog ops Q (o :: rest) a w := by
  obtain ⟨i0, z, hi, hz0, hzc, hz1, hz2⟩ := kinfo_all
  refine wpList_append_own_at w hgd s x 170 ho base 173 i0 z 2 24 Tryz.underlying170 hi hz0 hz1 hz2 hzc (by decide) v n (flat xs) hs hown ad m c (flat l) hx (by rw [flat_length, hm]) hb.src (flat_one h1) (by unfold maxLen; omega) (by omega) hbase ?_
  intro v' w' h1 h2 _ h4
  exact h v' w' (by rw [flat_append]; exact h1) h2 h4

theorem be4_num (n : Nat) : beN (be4 n) = n := by
  unfold beN be4
  simp only [List.foldl_cons, List.foldl_nil]
  omega
/-- A branch's entries as bytes: lows with their pages. -/
def bBytes (x : ByteArray × Nat) : List Nat := [x.1.size] ++ natBytes x.1 ++ be4 x.2
def bbytes (l : List (ByteArray × Nat)) : List Nat := l.flatMap bBytes
theorem bbytes_drop {l : List (ByteArray × Nat)} {j : Nat} (h : j < l.length) : bbytes (l.drop j) = [l[j].1.size] ++ natBytes l[j].1 ++ (be4 l[j].2 ++ bbytes (l.drop (j + 1))) := by
  rw [List.drop_eq_getElem_cons h]
  unfold bbytes
  rw [List.flatMap_cons]
  unfold bBytes
  simp only [List.append_assoc]
/-- Lows are short, pages numbers of four bytes. -/
def ShortB (l : List (ByteArray × Nat)) : Prop := ∀ x ∈ l, x.1.size ≤ 255 ∧ x.2 < 4294967296
theorem bbytes_lt {l : List (ByteArray × Nat)} (h : ShortB l) : ∀ x ∈ bbytes l, x < 256 := by
  intro x hx
  obtain ⟨y, hy, hm⟩ := List.mem_flatMap.1 hx
  have := h y hy
  unfold bBytes at hm
  rcases List.mem_append.1 hm with hm | hm
  · rcases List.mem_append.1 hm with hm | hm
    · rw [List.mem_singleton.1 hm]; omega
    · exact natBytes_lt _ _ hm
  · exact be4_lt _ (by omega) _ hm
theorem bbytes_small {l : List (ByteArray × Nat)} (h : ShortB l) (j : Nat) : ∀ x ∈ bbytes (l.drop j), x < 256 := bbytes_lt (fun x hx => h x (List.mem_of_mem_drop hx))

theorem kid_new (w : World) (low : ByteArray) (b : Nat) (t : TypeId) : PairsAt (w.alloc (.cells #[.string low, .pointer (some ⟨b, 0, none⟩)] t)) (some ⟨w.heap.size, 0, none⟩) (kidCells [(low, b)]) := by
  refine (KidsAt.pairs (l := [(low, b)]) (.inr ⟨w.heap.size, 0, rfl, fun i hi => ?_⟩) :)
  have : i = 0 := by simpa using hi
  subst this
  exact ⟨World.cell?_alloc_at _ _ _ _ rfl, World.cell?_alloc_at _ _ _ _ rfl⟩

/-- New places of kids, not read yet: ks are the lows with the blocks, es the lows with the pages. -/
structure NewKids (w : World) (B lvl : Nat) (v : Value) (ks es : List (ByteArray × Nat)) : Prop where
  own : w.ownsRow B 173 2 v ks.length (flat (kidCells ks))
  low : ks.map Prod.fst = es.map Prod.fst
  at_ : ∀ i (h : i < ks.length) (h' : i < es.length), PlaceAt w ks[i].2 es[i].2 lvl 0 .nilIface
  new : ∀ k ∈ ks, B ≤ k.2 ∧ v.ownBlock ≠ some k.2
  nodup : (ks.map Prod.snd).Nodup

theorem place_new (w : World) (pg lvl : Nat) (t : TypeId) : PlaceAt (w.alloc (.cells #[.int .i64 (pg : Nat), .int .i64 (lvl : Nat), .int .u32 0, .int .i32 0, .int .u32 0, .nilIface] t)) w.heap.size pg lvl 0 .nilIface :=
  ⟨World.cell?_alloc_at _ _ _ _ rfl, World.cell?_alloc_at _ _ _ _ rfl, World.cell?_alloc_at _ _ _ _ rfl, World.cell?_alloc_at _ _ _ _ rfl, World.cell?_alloc_at _ _ _ _ rfl, fun _ => World.frozen?_alloc_at _ _ _ _ rfl⟩

theorem NewKids.nil (w : World) (B lvl : Nat) : NewKids w B lvl (.slice none 0 0) [] [] := ⟨World.ownsRow_nil _ _ _ _, rfl, fun i h => absurd h (by simp), fun k hk => absurd hk (by simp), List.nodup_nil⟩
theorem NewKids.len {w : World} {B lvl : Nat} {v : Value} {ks es : List (ByteArray × Nat)} (h : NewKids w B lvl v ks es) : ks.length = es.length := by
  have := congrArg List.length h.low
  simpa using this
theorem NewKids.turn {S : List Nat} {w w' : World} {B lvl : Nat} {v : Value} {ks es : List (ByteArray × Nat)} (h : NewKids w B lvl v ks es) (hT : Turn S w w') (hS : ∀ x ∈ S, x < B) : NewKids w' B lvl v ks es :=
  ⟨own_turn h.own hT (fun g hg hm => by have := (h.own.lt g hg).1; have := hS g hm; omega), h.low, fun i hi hi' => (h.at_ i hi hi').turn hT (fun hm => by have := (h.new _ (List.getElem_mem hi)).1; have := hS _ hm; omega), h.new, h.nodup⟩
theorem NewKids.add {w w1 w' : World} {B lvl : Nat} {v v' : Value} {ks es : List (ByteArray × Nat)} {low : ByteArray} {pg b : Nat} (h : NewKids w B lvl v ks es) (hT : Turn [] w w1) (hb : w.heap.size ≤ b) (hB : B ≤ b) (hbl : b < w1.heap.size) (hp : PlaceAt w1 b pg lvl 0 .nilIface)
    (hown : w'.ownsRow B 173 2 v' (ks.length + 1) (flat (kidCells ks ++ kidCells [(low, b)]))) (hg : w1.grownBy w' v.ownBlock) (hv : v'.ownBlock = v.ownBlock ∨ v'.ownBlock = some w1.heap.size) : NewKids w' B lvl v' (ks ++ [(low, b)]) (es ++ [(low, pg)]) := by
  have hlt : ∀ i (hi : i < ks.length) (hi' : i < es.length), ks[i].2 < w.heap.size := fun i hi hi' => (h.at_ i hi hi').lt
  have hne : ∀ x, x < w1.heap.size → v.ownBlock ≠ some x → v'.ownBlock ≠ some x := fun x hx hn e => by
    rcases hv with hv | hv
    · exact hn (hv ▸ e)
    · rw [hv] at e
      have := Option.some.inj e
      omega
  have hkeep : ∀ x pg', x < w1.heap.size → v.ownBlock ≠ some x → PlaceAt w1 x pg' lvl 0 .nilIface → PlaceAt w' x pg' lvl 0 .nilIface := fun x pg' hx hn hp => by
    cases hv0 : v.ownBlock with
    | none => exact hp.turn ((Turn.refl [] w1).grown hg (by rw [hv0]; intro k hk; cases hk)) (by simp)
    | some g => exact hp.turn ((Turn.refl [g] w1).grown hg (by rw [hv0]; intro k hk; cases hk; exact .inl (by simp))) (fun hm => hn (by rw [hv0, List.mem_singleton.1 hm]))
  have hvb : v.ownBlock ≠ some b := fun e => by
    have := (h.own.lt b e).2
    omega
  have hlen := h.len
  refine ⟨?_, by rw [List.map_append, List.map_append, h.low]; rfl, fun i hi hi' => ?_, fun k hk => ?_, ?_⟩
  · have e : kidCells ks ++ kidCells [(low, b)] = kidCells (ks ++ [(low, b)]) := List.map_append.symm
    rw [e] at hown
    rw [List.length_append]
    exact hown
  · by_cases hik : i < ks.length
    · have e1 : (ks ++ [(low, b)])[i] = ks[i] := List.getElem_append_left hik
      have e2 : (es ++ [(low, pg)])[i] = es[i]'(by omega) := List.getElem_append_left (by omega)
      rw [e1, e2]
      have hl := hlt i hik (by omega)
      exact hkeep _ _ (Nat.lt_of_lt_of_le hl hT.size) (h.new _ (List.getElem_mem hik)).2 ((h.at_ i hik (by omega)).turn hT (by simp))
    · have hi2 : i = ks.length := by
        rw [List.length_append] at hi
        have : i < ks.length + 1 := hi
        omega
      subst hi2
      have e1 : (ks ++ [(low, b)])[ks.length] = (low, b) := by simp
      have e2 : (es ++ [(low, pg)])[ks.length] = (low, pg) := by simp [hlen]
      rw [e1, e2]
      exact hkeep _ _ hbl hvb hp
  · rcases List.mem_append.1 hk with hk | hk
    · obtain ⟨i, hi, rfl⟩ := List.getElem_of_mem hk
      have hl := hlt i hi (by omega)
      exact ⟨(h.new _ hk).1, hne _ (Nat.lt_of_lt_of_le hl hT.size) (h.new _ hk).2⟩
    · obtain rfl := List.mem_singleton.1 hk
      exact ⟨hB, hne _ hbl hvb⟩
  · rw [List.map_append]
    refine List.nodup_append.2 ⟨h.nodup, by simp, fun x hx y hy e => ?_⟩
    obtain ⟨k, hk, rfl⟩ := List.mem_map.1 hx
    obtain ⟨i, hi, rfl⟩ := List.getElem_of_mem hk
    have hl := hlt i hi (by omega)
    have hy2 : y = b := by simpa using hy
    omega

set_option maxRecDepth 100000 in
set_option maxHeartbeats 3200000 in
theorem rdbranch_any (r lvl : Nat) (l : List (ByteArray × Nat)) (hlen : l.length ≤ 1000) (hsh : ShortB l) (w : World) (h : RdAt w r (bbytes l)) :
    Calls Tryz.prog 198 #[.pointer (some ⟨r, 0, none⟩), .int .i64 (lvl : Nat)] w fun e w' => ∃ v ks, e = .returned v ∧ NewKids w' w.heap.size lvl v ks l ∧ Turn [r] w w' := by
  have hr := h.lt
  have H := hide h
  have HSh := hide hsh
  have HSm := hide (bbytes_small hsh)
  have hz := zero104
  clear h hsh
  go_enter Tryz.func198, Tryz.ntmps198
  go_wp2_with fail
  go_loopw [5] (fun b wr => ∃ (j : Nat) (ks : List (ByteArray × Nat)), j ≤ l.length ∧ Hid (NewKids wr w.heap.size lvl b ks (l.take j)) ∧ Hid (RdAt wr r (bbytes (l.drop j))) ∧ Hid (Turn [r] w wr)) (fun b _ => l.length - lenV b)
  case atStart => exact ⟨0, [], Nat.zero_le _, NewKids.nil _ _ _, H.out, Turn.refl _ _⟩
  case round =>
    obtain ⟨j, ks, hj, HO, HR, HT⟩ := hrel
    have hsz := HT.out.size
    have hks : ks.length = j := by rw [HO.out.len, List.length_take]; omega
    obtain ⟨va, vc, hv⟩ := own_form HO.out.own
    rw [hks] at hv
    subst hv
    obtain ⟨hzr, ra, rc, hrc, -⟩ := HR.out
    by_cases hjl : j < l.length
    · have hlb := bbytes_drop hjl
      obtain ⟨hs1, hs2⟩ := HSh.out l[j] (List.getElem_mem hjl)
      have hR1 := HR.out
      rw [hlb] at hR1
      have HT1 := hide (rdtext_any r l[j].1 _ (by omega) (fun x hx => HSm.out j x (by rw [hlb]; exact List.mem_append_right _ hx)) wr hR1)
      have hpos : ((bbytes (l.drop j)).length : Int) > 0 := by
        rw [hlb]
        simp
        omega
      have HBn : Hid (∀ x ∈ be4 l[j].2 ++ bbytes (l.drop (j + 1)), x < 256) := fun x hx => HSm.out j x (by rw [hlb]; exact List.mem_append_right _ hx)
      clear hR1 hlb hzr
      generalize (bbytes (l.drop j)).length = N at *
      have hlt1 := HO.out.own.lt
      go_wp2_with fail
      refine HT1.out.mono ?_
      rintro e w1 ⟨rfl, hR1, hTa⟩
      have HT2 := hide (rdnum_any r _ 4 (by simp [be4]) (by omega) HBn.out w1 hR1)
      have e4 : (be4 l[j].2 ++ bbytes (l.drop (j + 1))).take 4 = be4 l[j].2 := by simp [be4]
      have e5 : (be4 l[j].2 ++ bbytes (l.drop (j + 1))).drop 4 = bbytes (l.drop (j + 1)) := by simp [be4]
      rw [e4, e5, be4_num] at HT2
      have HTa := hide hTa
      clear hR1 hTa HT1 hrc e4 e5
      go_wp2_with fail
      refine HT2.out.mono ?_
      rintro e w2 ⟨rfl, hR2, hTb⟩
      have HO2 := hide (HO.out.turn (HTa.out.trans hTb) (by simp; omega))
      have hT2 : Turn [r] w w2 := HT.out.trans (HTa.out.trans hTb)
      have hsz2 := hT2.size
      obtain ⟨W1, hW1⟩ : ∃ W1, W1 = w2.alloc (.cells #[.int .i64 (l[j].2 : Nat), .int .i64 (lvl : Nat), .int .u32 0, .int .i32 0, .int .u32 0, .nilIface] 158) := ⟨_, rfl⟩
      have hs1 : W1.heap.size = w2.heap.size + 1 := by rw [hW1]; simp
      have HPl : Hid (PlaceAt W1 w2.heap.size l[j].2 lvl 0 .nilIface) := by rw [hW1]; exact place_new w2 l[j].2 lvl _
      have hTw1 : Turn [] w2 W1 := by rw [hW1]; exact (Turn.refl [] w2).alloc _
      have HP : Hid (PairsAt (W1.alloc (.cells #[.string l[j].1, .pointer (some ⟨w2.heap.size, 0, none⟩)] 173)) (some ⟨w2.heap.size + 1, 0, none⟩) (kidCells [(l[j].1, w2.heap.size)])) := by
        have h := kid_new W1 l[j].1 w2.heap.size 173
        rw [hs1] at h
        exact h
      have HTw : Hid (Turn [] w2 (W1.alloc (.cells #[.string l[j].1, .pointer (some ⟨w2.heap.size, 0, none⟩)] 173))) := hTw1.alloc _
      have HR2 := hide (hR2.turn HTw.out (by simp))
      have HTc := hide (hT2.then HTw.out (by simp))
      have HPl2 := hide (HPl.out.turn ((Turn.refl [] W1).alloc (.cells #[.string l[j].1, .pointer (some ⟨w2.heap.size, 0, none⟩)] 173)) (by simp))
      have HO3 := hide (HO2.out.turn HTw.out (by simp))
      have hs2' : (W1.alloc (.cells #[.string l[j].1, .pointer (some ⟨w2.heap.size, 0, none⟩)] 173)).heap.size = w2.heap.size + 2 := by simp [hs1]
      have HNext : Hid (l.take (j + 1) = l.take j ++ [(l[j].1, l[j].2)]) := List.take_succ_eq_append_getElem hjl
      clear hR2 hTb HT2 HO hT2 hTw1
      have HOwn : Hid ((W1.alloc (.cells #[.string l[j].1, .pointer (some ⟨w2.heap.size, 0, none⟩)] 173)).ownsRow w.heap.size 173 2 (.slice va j vc) j (flat (kidCells ks))) := by
        have h := HO3.out.own
        rw [hks] at h
        exact h
      have HKs := hide hks
      clear hks hs1 HPl
      subst hW1
      go_wp2_with (at_builtin; refine kappend_kids rfl _ _ rfl w.heap.size (.slice va j vc) j (kidCells ks) rfl HOwn.out ⟨w2.heap.size + 1, 0, none⟩ 1 1 (kidCells [(l[j].1, w2.heap.size)]) rfl rfl HP.out (kid_one _) (by omega) (by omega) ?_; intro v3 w3 hown3 hgrow3 hblk3; have HO4 := hide hown3; have HG3 := hide hgrow3; have HBk := hide hblk3; obtain ⟨vb, vd, rfl⟩ := own_form hown3; clear hown3 hgrow3 hblk3)
      go_roundw
      case rel =>
        refine ⟨j + 1, ks ++ [(l[j].1, w2.heap.size)], hjl, ?_, ?_, ?_⟩
        · rw [HNext.out]
          refine NewKids.add HO2.out HTw.out (Nat.le_refl _) hsz2 (by omega) HPl2.out ?_ HG3.out HBk.out
          rw [HKs.out]
          exact HO4.out
        · exact HR2.out.grown HG3.out (fun k hk => Nat.lt_of_lt_of_le hr (hlt1 k hk).1)
        · exact HTc.out.grown HG3.out (fun k hk => .inr (hlt1 k hk).1)
      case measure => simp [lenV]; omega
    · obtain rfl : j = l.length := by omega
      rw [List.drop_length] at hrc
      have hrc2 : wr.cell? ⟨r, 0, none⟩ = some (.slice ra 0 rc) := hrc
      clear hrc hzr
      go_wp2_with fail
      go_ret
      have h := HO.out
      rw [List.take_length] at h
      exact ⟨_, ks, rfl, h, HT.out⟩

end Go.Proofs.YthgpjkcgccdldaaGreatDoor

namespace Go.Proofs.YthgpjkcgccdldaaGreatDoor
open Go.RowKit Go.Maps

theorem reader_new (w : World) (a : Option Addr) (l : List Nat) (c : Nat) (hne : l ≠ []) (h : BytesAt w a l) (hn : a = none → c = 0) (hc : l.length ≤ c ∧ c ≤ 9223372036854775807) (t : TypeId) : RdAt (w.alloc (.cells #[.slice a l.length c] t)) w.heap.size l :=
  ⟨fun _ => World.frozen?_alloc_at _ _ _ _ rfl, a, c, World.cell?_alloc_at _ _ _ _ rfl, h.turn ((Turn.refl [] w).alloc _) (by simp), hn, hc.1, hc.2, fun x hx => h.lt x hne hx⟩

theorem NewKids.base {w : World} {B B' lvl : Nat} {v : Value} {ks es : List (ByteArray × Nat)} (h : NewKids w B lvl v ks es) (hB : B' ≤ B) : NewKids w B' lvl v ks es := by
  obtain ⟨⟨hl, h1⟩, h2, h3, h4, h5⟩ := h
  refine ⟨⟨hl, ?_⟩, h2, h3, fun k hk => ⟨Nat.le_trans hB (h4 k hk).1, (h4 k hk).2⟩, h5⟩
  rcases h1 with h | ⟨g, cap, cur, e1, hb, rest⟩
  · exact .inl h
  · exact .inr ⟨g, cap, cur, e1, Nat.le_trans hB hb, rest⟩
theorem own_less {w : World} {b b' e size n : Nat} {v : Value} {xs : List Value} (h : w.ownsRow b e size v n xs) (hb : b' ≤ b) : w.ownsRow b' e size v n xs := by
  obtain ⟨hl, h | ⟨g, cap, cur, e1, h1, rest⟩⟩ := h
  · exact ⟨hl, .inl h⟩
  · exact ⟨hl, .inr ⟨g, cap, cur, e1, Nat.le_trans hb h1, rest⟩⟩

set_option maxRecDepth 100000 in
set_option maxHeartbeats 3200000 in
theorem decode_leaf (a : Option Addr) (c : Nat) (l : List (ByteArray × ByteArray)) (hlen : l.length ≤ 1000) (hsh : Short l) (w : World) (h : BytesAt w a ([1] ++ lbytes l)) (hn : a = none → c = 0) (hc : ([1] ++ lbytes l).length ≤ c ∧ c ≤ 9223372036854775807) :
    Calls Tryz.prog 169 #[.slice a ([1] ++ lbytes l).length c, .int .i64 1] w fun e w' => ∃ v, e = .returned (.iface 137 v) ∧ w'.ownsRow w.heap.size 55 2 v l.length (flat (kvCells l)) ∧ Turn [] w w' := by
  have hR := reader_new w a _ c (by simp) h hn hc 153
  have hall : ∀ x ∈ [1] ++ lbytes l, x < 256 := fun x hx => by
    rcases List.mem_append.1 hx with hx | hx
    · rw [List.mem_singleton.1 hx]; omega
    · exact lbytes_lt hsh x hx
  have HN := hide (rdnum_any w.heap.size _ 1 (by simp) (by omega) hall _ hR)
  have e1 : beN (([1] ++ lbytes l).take 1) = 1 := by simp [beN]
  have e2 : ([1] ++ lbytes l).drop 1 = lbytes l := by simp
  rw [e1, e2] at HN
  have HSh := hide hsh
  have hT0 : Turn [] w (w.alloc (.cells #[.slice a ([1] ++ lbytes l).length c] 153)) := (Turn.refl [] w).alloc _
  have HT0 := hide hT0
  clear h hn hc hR hall e1 e2 hsh hT0
  generalize ([1] ++ lbytes l).length = N at *
  go_enter Tryz.func169, Tryz.ntmps169
  go_wp2_with fail
  refine HN.out.mono ?_
  rintro e w1 ⟨rfl, hR, hT1⟩
  have HL := hide (rdleaf_any w.heap.size l hlen HSh.out w1 hR)
  have HT1 := hide hT1
  have hsz := hT1.size
  simp at hsz
  clear hR hT1
  go_wp2_with fail
  refine HL.out.mono ?_
  rintro e w2 ⟨v, rfl, hO, hT2⟩
  have HO := hide hO
  have HT2 := hide hT2
  clear hO hT2
  go_wp2_with fail
  go_ret
  exact ⟨v, rfl, own_less HO.out (by omega), HT0.out.then (HT1.out.trans HT2.out) (by simp)⟩

set_option maxRecDepth 100000 in
set_option maxHeartbeats 3200000 in
theorem decode_branch (a : Option Addr) (c lvl : Nat) (l : List (ByteArray × Nat)) (hlv : 1 ≤ lvl ∧ lvl ≤ 250) (hlen : 0 < l.length ∧ l.length ≤ 1000) (hsh : ShortB l) (w : World) (h : BytesAt w a ([lvl + 1] ++ bbytes l)) (hn : a = none → c = 0) (hc : ([lvl + 1] ++ bbytes l).length ≤ c ∧ c ≤ 9223372036854775807) :
    Calls Tryz.prog 169 #[.slice a ([lvl + 1] ++ bbytes l).length c, .int .i64 ((lvl + 1 : Nat) : Int)] w fun e w' => ∃ v ks, e = .returned (.iface 170 v) ∧ NewKids w' w.heap.size lvl v ks l ∧ Turn [] w w' := by
  have hR := reader_new w a _ c (by simp) h hn hc 153
  have hall : ∀ x ∈ [lvl + 1] ++ bbytes l, x < 256 := fun x hx => by
    rcases List.mem_append.1 hx with hx | hx
    · rw [List.mem_singleton.1 hx]; omega
    · exact bbytes_lt hsh x hx
  have HN := hide (rdnum_any w.heap.size _ 1 (by simp) (by omega) hall _ hR)
  have e1 : beN (([lvl + 1] ++ bbytes l).take 1) = lvl + 1 := by simp [beN]
  have e2 : ([lvl + 1] ++ bbytes l).drop 1 = bbytes l := by simp
  rw [e1, e2] at HN
  have HSh := hide hsh
  have hT0 : Turn [] w (w.alloc (.cells #[.slice a ([lvl + 1] ++ bbytes l).length c] 153)) := (Turn.refl [] w).alloc _
  have HT0 := hide hT0
  clear h hn hc hR hall e1 e2 hsh hT0
  generalize ([lvl + 1] ++ bbytes l).length = N at *
  obtain ⟨k, hk⟩ : ∃ k, k = lvl + 1 := ⟨_, rfl⟩
  have hk1 : ((k : Nat) : Int) - 1 = (lvl : Nat) := by omega
  have hk2 : (((k : Nat) : Int) == 1) = false := by simp; omega
  rw [← hk] at HN ⊢
  have HKk := hide hk
  clear hk
  go_enter Tryz.func169, Tryz.ntmps169
  go_wp2_with fail
  refine HN.out.mono ?_
  rintro e w1 ⟨rfl, hR, hT1⟩
  have HL := hide (rdbranch_any w.heap.size lvl l hlen.2 HSh.out w1 hR)
  have HT1 := hide hT1
  have hsz := hT1.size
  simp at hsz
  clear hR hT1
  go_wp2_with fail
  refine HL.out.mono ?_
  rintro e w2 ⟨v, ks, rfl, hO, hT2⟩
  obtain ⟨va, vc, rfl⟩ := own_form hO.own
  have hpos : ((ks.length : Nat) : Int) > 0 := by rw [hO.len]; omega
  have HO := hide hO
  have HT2 := hide hT2
  clear hO hT2
  go_wp2_with fail
  go_ret
  exact ⟨_, ks, rfl, HO.out.base (by omega), HT0.out.then (HT1.out.trans HT2.out) (by simp)⟩

end Go.Proofs.YthgpjkcgccdldaaGreatDoor

namespace Go.Proofs.YthgpjkcgccdldaaGreatDoor
open Go.RowKit Go.Maps

set_option maxRecDepth 100000 in
set_option maxHeartbeats 3200000 in
/-- read, whatever decode comes to. -/
theorem tread_gen (t p b m sm rb a pg lvl : Nat) (s : St) (q : Pg) (D S : Stt) (L : List Nat) (hd : s.dead = false) (hq : q.dead = false) (hth : q.thereI s.n pg = true) (hL : L.length ≤ 496) (hf : s.f pg = bytesOf 512 (pageB L)) (hap : a ≠ p) (w : World) (hA : PAt w p b m sm rb s q) (hT : TreeAt w t p D S) (hp0 : w.cell? ⟨a, 0, none⟩ = some (.int .i64 (pg : Nat))) (hp1 : w.cell? ⟨a, 1, none⟩ = some (.int .i64 (lvl : Nat))) (R : Value → World → World → Prop)
    (hDec : ∀ w1 g o, Turn [p] w w1 → w.heap.size ≤ g → BytesAt w1 (some ⟨g, o, none⟩) L → Calls Tryz.prog 169 #[.slice (some ⟨g, o, none⟩) L.length L.length, .int .i64 (lvl : Nat)] w1 fun e w2 => ∃ v, e = .returned v ∧ R v w1 w2 ∧ Turn [] w1 w2) :
    Calls Tryz.prog 141 #[.pointer (some ⟨t, 0, none⟩), .pointer (some ⟨a, 0, none⟩)] w fun e w' => ∃ v w1, e = .returned v ∧ R v w1 w' ∧ PAt w1 p b m sm rb s { q with rd := true } ∧ Turn [p] w w1 ∧ Turn [] w1 w' := by
  have ht0 := hT.c0
  have hTd : Turn [] w w.drew := (Turn.refl [] w).drew
  have HC := hide (read_yes p b m sm rb s q hd hq pg hth L hL hf w.drew (hA.turn hTd (by simp) (by simp) (by simp) (by simp) (by simp) (by simp)))
  have HD := hide hDec
  have HP1 := hide hp1
  have HTd := hide hTd
  clear hDec hA hT hf hTd
  go_enter Tryz.func141, Tryz.ntmps141
  go_upto_region 1 with fail
  go_region_with (go_at_call 64; refine HC.out.mono ?_; rintro e w1 ⟨g, o, hg, _, rfl, hB, _, hA1, hT1⟩; have HB := hide hB; have HA1 := hide hA1; have hT1' : Turn [p] w w1 := (HTd.out.mono (by simp)).trans hT1; have HT1 := hide hT1'; clear hB hA1 hT1 hT1')
  all_goals
    have hp1' := (HT1.out.cell (p := ⟨a, 1, none⟩) (lt_of_cell HP1.out) (by simp; exact hap)).trans HP1.out
    have HE := hide (HD.out w1 g o HT1.out hg HB.out)
    clear HD HC
    generalize L.length = N at *
    go_wp2_with fail
    refine HE.out.mono ?_
    rintro e w2 ⟨v, rfl, hR, hT2⟩
    have HR := hide hR
    have HT2 := hide hT2
    clear hR hT2
    go_wp2_with fail
    go_ret
    exact ⟨v, w1, rfl, HR.out, HA1.out, HT1.out, HT2.out⟩

set_option maxRecDepth 100000 in
set_option maxHeartbeats 4000000 in
/-- The closure where the node is not there: it is read and stored. -/
theorem nodeAt1_nil (t a ba ta : Nat) (w : World) (R : TypeId → Value → World → Prop)
    (hR : ∀ u, Turn [] w u → Calls Tryz.prog 141 #[.pointer (some ⟨t, 0, none⟩), .pointer (some ⟨a, 0, none⟩)] u fun e w2 => ∃ T v, e = .returned (.iface T v) ∧ R T v w2 ∧ w2.cell? ⟨ba, 0, none⟩ = some (.pointer (some ⟨a, 0, none⟩)) ∧ (∃ x, w2.cell? ⟨a, 5, none⟩ = some x) ∧ w2.frozen? ⟨a, 5, none⟩ = false)
    (hb : w.cell? ⟨ba, 0, none⟩ = some (.pointer (some ⟨a, 0, none⟩))) (ht : w.cell? ⟨ta, 0, none⟩ = some (.pointer (some ⟨t, 0, none⟩))) (h5 : w.cell? ⟨a, 5, none⟩ = some .nilIface) :
    Calls Tryz.prog 140 #[.pointer (some ⟨ba, 0, none⟩), .pointer (some ⟨ta, 0, none⟩)] w fun e w' => e = .returned (.tuple #[]) ∧ ∃ T v w2, R T v w2 ∧ (w' = w2.setCell ⟨a, 5, none⟩ (.iface T v) ∨ w' = (w2.drew).setCell ⟨a, 5, none⟩ (.iface T v)) := by
  have HR := hide hR
  clear hR
  go_enter Tryz.func140, Tryz.ntmps140
  go_upto_region 1 with fail
  go_region_with (go_at_call 141; refine (HR.out _ (by first | exact Turn.refl _ _ | exact (Turn.refl _ _).drew | exact ((Turn.refl _ _).drew).drew)).mono ?_; rintro e w2 ⟨T, v, rfl, hR2, k0, ⟨x, k3⟩, kf⟩; have HR2 := hide hR2; clear hR2)
  all_goals go_end0
  all_goals exact ⟨rfl, _, _, _, HR2.out, by first | exact .inl rfl | exact .inr rfl⟩

end Go.Proofs.YthgpjkcgccdldaaGreatDoor

namespace Go.Proofs.YthgpjkcgccdldaaGreatDoor
open Go.RowKit Go.Maps

set_option maxRecDepth 100000 in
set_option maxHeartbeats 4000000 in
theorem nodeAt_gen (t p b m sm rb a pg lvl : Nat) (s : St) (q : Pg) (D S : Stt) (L : List Nat) (hd : s.dead = false) (hq : q.dead = false) (hth : q.thereI s.n pg = true) (hL : L.length ≤ 496) (hf : s.f pg = bytesOf 512 (pageB L)) (hO : Off t p b m sm rb) (ha : a ≠ 1 ∧ a ≠ p ∧ a ≠ b ∧ a ≠ m ∧ a ≠ sm ∧ a ≠ rb ∧ a ≠ t) (w : World) (hA : PAt w p b m sm rb s q) (hT : TreeAt w t p D S) (hP : PlaceAt w a pg lvl 0 .nilIface) (R : TypeId → Value → World → Prop)
    (hSt : ∀ T v u u', R T v u → Turn [a] u u' → R T v u')
    (hDec : ∀ w1 g o, w.heap.size ≤ w1.heap.size → w.heap.size ≤ g → BytesAt w1 (some ⟨g, o, none⟩) L → Calls Tryz.prog 169 #[.slice (some ⟨g, o, none⟩) L.length L.length, .int .i64 (lvl : Nat)] w1 fun e w2 => ∃ T v, e = .returned (.iface T v) ∧ R T v w2 ∧ Turn [] w1 w2) :
    Calls Tryz.prog 105 #[.pointer (some ⟨t, 0, none⟩), .pointer (some ⟨a, 0, none⟩)] w fun e w' => ∃ T v, e = .returned (.iface T v) ∧ R T v w' ∧ PlaceAt w' a pg lvl 1 (.iface T v) ∧ PAt w' p b m sm rb s { q with rd := true } ∧ TreeAt w' t p D S ∧ Turn [p, a] w w' := by
  have hmf : ∀ (fn : Fn) (first cap : Array Value) (w : World), (Instr.makeFunc fn first cap).run Tryz.prog w = .ok (.func fn first cap) w := fun _ _ _ _ => rfl
  have hal := hP.lt
  obtain ⟨W, hW⟩ : ∃ W, W = (w.alloc (.cells #[.pointer (some ⟨t, 0, none⟩)] 82)).alloc (.cells #[.pointer (some ⟨a, 0, none⟩)] 122) := ⟨_, rfl⟩
  have hT1 : Turn [] w W := by rw [hW]; exact ((Turn.refl [] w).alloc _).alloc _
  have hWs : W.heap.size = w.heap.size + 2 := by rw [hW]; simp
  have hb : W.cell? ⟨w.heap.size + 1, 0, none⟩ = some (.pointer (some ⟨a, 0, none⟩)) := by
    have e : w.heap.size + 1 = (w.alloc (.cells #[.pointer (some ⟨t, 0, none⟩)] 82)).heap.size := by simp
    rw [hW, e]
    exact World.cell?_alloc_at _ _ _ _ rfl
  have hb0 : W.cell? ⟨w.heap.size, 0, none⟩ = some (.pointer (some ⟨t, 0, none⟩)) := by
    rw [hW]
    exact Lib.cell?_alloc_some _ (World.cell?_alloc_at _ _ _ _ rfl)
  have hPW := hP.turn hT1 (by simp)
  have hAW := hA.turn hT1 (by simp) (by simp) (by simp) (by simp) (by simp) (by simp)
  have hTW := hT.turn hT1 (by simp)
  -- the world where the lock is taken
  obtain ⟨V, hV⟩ : ∃ V, V = W.setCell ⟨a, 3, none⟩ (.int .i32 1) := ⟨_, rfl⟩
  have hTV : Turn [a] W V := by rw [hV]; exact (Turn.refl [a] W).setCell (List.mem_singleton.2 rfl) 3 _
  have hVs := hTV.size
  have hVc : ∀ o, o ≠ 3 → V.cell? ⟨a, o, none⟩ = W.cell? ⟨a, o, none⟩ := fun o ho => by rw [hV]; exact World.cell?_setCell_other _ _ _ _ (off_ne ho.symm)
  have hVf : ∀ o, V.frozen? ⟨a, o, none⟩ = false := fun o => by rw [hV, World.frozen?_setCell]; exact hPW.fz o
  have hV3 : V.cell? ⟨a, 3, none⟩ = some (.int .i32 1) := by rw [hV]; exact World.cell?_setCell_same _ _ _ hPW.c3
  have hAV := hAW.turn hTV (by simp; exact ha.1.symm) (by simp; exact ha.2.1.symm) (by simp; exact ha.2.2.1.symm) (by simp; exact ha.2.2.2.1.symm) (by simp; exact ha.2.2.2.2.1.symm) (by simp; exact ha.2.2.2.2.2.1.symm)
  have hTrV := hTW.turn hTV (by simp; exact ha.2.2.2.2.2.2.symm)
  have hbV : V.cell? ⟨w.heap.size + 1, 0, none⟩ = some (.pointer (some ⟨a, 0, none⟩)) := (hTV.cell (p := ⟨w.heap.size + 1, 0, none⟩) (by show w.heap.size + 1 < W.heap.size; omega) (by simp; omega)).trans hb
  have hb0V : V.cell? ⟨w.heap.size, 0, none⟩ = some (.pointer (some ⟨t, 0, none⟩)) := (hTV.cell (p := ⟨w.heap.size, 0, none⟩) (by show w.heap.size < W.heap.size; omega) (by simp; omega)).trans hb0
  have hal' : a < V.heap.size := by omega
  have hpl : p < V.heap.size := hAV.pg.lt
  -- what the read comes to
  have hRead : ∀ u, Turn [] V u → Calls Tryz.prog 141 #[.pointer (some ⟨t, 0, none⟩), .pointer (some ⟨a, 0, none⟩)] u fun e w2 => ∃ T v, e = .returned (.iface T v) ∧ (R T v w2 ∧ PAt w2 p b m sm rb s { q with rd := true } ∧ TreeAt w2 t p D S ∧ Turn [p] V w2 ∧ (∀ o, w2.cell? ⟨a, o, none⟩ = V.cell? ⟨a, o, none⟩ ∧ w2.frozen? ⟨a, o, none⟩ = V.frozen? ⟨a, o, none⟩)) ∧ w2.cell? ⟨w.heap.size + 1, 0, none⟩ = some (.pointer (some ⟨a, 0, none⟩)) ∧ (∃ x, w2.cell? ⟨a, 5, none⟩ = some x) ∧ w2.frozen? ⟨a, 5, none⟩ = false := fun u hu => by
    have hus := hu.size
    refine (tread_gen t p b m sm rb a pg lvl s q D S L hd hq hth hL hf ha.2.1 u (hAV.turn hu (by simp) (by simp) (by simp) (by simp) (by simp) (by simp)) (hTrV.turn hu (by simp)) ((hu.cell (p := ⟨a, 0, none⟩) hal' (by simp)).trans ((hVc 0 (by omega)).trans hPW.c0)) ((hu.cell (p := ⟨a, 1, none⟩) hal' (by simp)).trans ((hVc 1 (by omega)).trans hPW.c1)) (fun v _ w2 => ∃ T x, v = .iface T x ∧ R T x w2) (fun w1 g o h1 hg hB => ?_)).mono ?_
    · have h1s := h1.size
      refine (hDec w1 g o (by omega) (by omega) hB).mono ?_
      rintro e w2 ⟨T, v, rfl, hR, hT⟩
      exact ⟨_, rfl, ⟨T, v, rfl, hR⟩, hT⟩
    · rintro e w2 ⟨_, w1, rfl, ⟨T, v, rfl, hR⟩, hA1, hTa, hTb⟩
      have hTr : Turn [p] V w2 := ((hu.mono (by simp)).trans hTa).trans (hTb.mono (by simp))
      have hk : ∀ x, x < V.heap.size → x ≠ p → w2.heap[x]? = V.heap[x]? := fun x hx hp => hTr.block x hx (by simp; exact hp)
      have hka := hk a hal' ha.2.1
      have hkb := hk (w.heap.size + 1) (by omega) (by have := hA.pg.lt; omega)
      have hc : ∀ o, w2.cell? ⟨a, o, none⟩ = V.cell? ⟨a, o, none⟩ ∧ w2.frozen? ⟨a, o, none⟩ = V.frozen? ⟨a, o, none⟩ := fun o => ⟨World.cell?_of_block (a := ⟨a, o, none⟩) hka, World.frozen?_of_block (a := ⟨a, o, none⟩) hka⟩
      refine ⟨T, v, rfl, ⟨hR, hA1.turn hTb (by simp) (by simp) (by simp) (by simp) (by simp) (by simp), hTrV.turn hTr (by simp; exact hO.p), hTr, hc⟩, (World.cell?_of_block (a := ⟨w.heap.size + 1, 0, none⟩) hkb).trans hbV, ⟨_, (hc 5).1.trans ((hVc 5 (by omega)).trans hPW.c5)⟩, (hc 5).2.trans (hVf 5)⟩
  have hClo := nodeAt1_nil t a (w.heap.size + 1) w.heap.size V (fun T v w2 => R T v w2 ∧ PAt w2 p b m sm rb s { q with rd := true } ∧ TreeAt w2 t p D S ∧ Turn [p] V w2 ∧ (∀ o, w2.cell? ⟨a, o, none⟩ = V.cell? ⟨a, o, none⟩ ∧ w2.frozen? ⟨a, o, none⟩ = V.frozen? ⟨a, o, none⟩)) hRead hbV hb0V ((hVc 5 (by omega)).trans hPW.c5)
  -- behind the closure
  have hAfter : ∀ (w3 : World), (∃ T v w2, (R T v w2 ∧ PAt w2 p b m sm rb s { q with rd := true } ∧ TreeAt w2 t p D S ∧ Turn [p] V w2 ∧ (∀ o, w2.cell? ⟨a, o, none⟩ = V.cell? ⟨a, o, none⟩ ∧ w2.frozen? ⟨a, o, none⟩ = V.frozen? ⟨a, o, none⟩)) ∧ (w3 = w2.setCell ⟨a, 5, none⟩ (.iface T v) ∨ w3 = (w2.drew).setCell ⟨a, 5, none⟩ (.iface T v))) → (∃ T v, R T v w3 ∧ w3.cell? ⟨a, 5, none⟩ = some (.iface T v) ∧ PAt w3 p b m sm rb s { q with rd := true } ∧ TreeAt w3 t p D S ∧ Turn [p, a] V w3 ∧ w3.cell? ⟨a, 0, none⟩ = some (.int .i64 (pg : Nat)) ∧ w3.cell? ⟨a, 1, none⟩ = some (.int .i64 (lvl : Nat)) ∧ ∀ o, w3.frozen? ⟨a, o, none⟩ = false) ∧ w3.cell? ⟨a, 2, none⟩ = some (.int .u32 0) ∧ w3.cell? ⟨a, 3, none⟩ = some (.int .i32 1) ∧ ∀ o, w3.frozen? ⟨a, o, none⟩ = false := by
    rintro w3 ⟨T, v, w2, ⟨hR, hA2, hT2, hTr, hc⟩, hw⟩
    have hT3 : Turn [a] w2 w3 := by
      rcases hw with rfl | rfl
      · exact (Turn.refl _ _).setCell (List.mem_singleton.2 rfl) 5 _
      · exact ((Turn.refl _ _).drew).setCell (List.mem_singleton.2 rfl) 5 _
    have h5 : w3.cell? ⟨a, 5, none⟩ = some (.iface T v) := by
      have h := (hc 5).1.trans ((hVc 5 (by omega)).trans hPW.c5)
      rcases hw with rfl | rfl
      · exact World.cell?_setCell_same _ _ _ h
      · exact World.cell?_setCell_same _ _ _ h
    have hoth : ∀ o, o ≠ 5 → w3.cell? ⟨a, o, none⟩ = V.cell? ⟨a, o, none⟩ := fun o ho => by
      rcases hw with rfl | rfl
      · exact (World.cell?_setCell_other _ _ _ _ (off_ne ho.symm)).trans (hc o).1
      · exact (World.cell?_setCell_other _ _ _ _ (off_ne ho.symm)).trans (hc o).1
    have hfz : ∀ o, w3.frozen? ⟨a, o, none⟩ = false := fun o => by
      rcases hw with rfl | rfl
      · rw [World.frozen?_setCell]; exact (hc o).2.trans (hVf o)
      · rw [World.frozen?_setCell]; exact (hc o).2.trans (hVf o)
    refine ⟨⟨T, v, hSt T v w2 w3 hR hT3, h5, hA2.turn hT3 (by simp; exact ha.1.symm) (by simp; exact ha.2.1.symm) (by simp; exact ha.2.2.1.symm) (by simp; exact ha.2.2.2.1.symm) (by simp; exact ha.2.2.2.2.1.symm) (by simp; exact ha.2.2.2.2.2.1.symm), hT2.turn hT3 (by simp; exact ha.2.2.2.2.2.2.symm), (hTr.mono (by simp)).trans (hT3.mono (by simp)), (hoth 0 (by omega)).trans ((hVc 0 (by omega)).trans hPW.c0), (hoth 1 (by omega)).trans ((hVc 1 (by omega)).trans hPW.c1), hfz⟩, (hoth 2 (by omega)).trans ((hVc 2 (by omega)).trans hPW.c2), (hoth 3 (by omega)).trans hV3, hfz⟩
  have hF : Calls Tryz.prog 140 #[.pointer (some ⟨w.heap.size + 1, 0, none⟩), .pointer (some ⟨w.heap.size, 0, none⟩)] (W.setCell ⟨a, 3, none⟩ (.int .i32 1)) fun e w3 => e = .returned (.tuple #[]) ∧ (∃ T v, R T v w3 ∧ w3.cell? ⟨a, 5, none⟩ = some (.iface T v) ∧ PAt w3 p b m sm rb s { q with rd := true } ∧ TreeAt w3 t p D S ∧ Turn [p, a] V w3 ∧ w3.cell? ⟨a, 0, none⟩ = some (.int .i64 (pg : Nat)) ∧ w3.cell? ⟨a, 1, none⟩ = some (.int .i64 (lvl : Nat)) ∧ ∀ o, w3.frozen? ⟨a, o, none⟩ = false) ∧ w3.cell? ⟨a, 2, none⟩ = some (.int .u32 0) ∧ w3.cell? ⟨a, 3, none⟩ = some (.int .i32 1) ∧ ∀ o, w3.frozen? ⟨a, o, none⟩ = false := by
    rw [← hV]
    refine hClo.mono ?_
    rintro e w3 ⟨rfl, h⟩
    exact ⟨rfl, hAfter w3 h⟩
  have HDo := hide (pdo a (w.heap.size + 1) w.heap.size W _ hPW.c2 hPW.c3 hPW.fz hF)
  have HT1 := hide hT1
  have HTV := hide hTV
  have HSt := hide hSt
  have hlow : w.heap.size + 1 ≠ a ∧ w.heap.size + 1 ≠ p := ⟨by omega, by have := hA.pg.lt; omega⟩
  have HbV := hide hbV
  clear hF hAfter hClo hRead hDec hSt hAV hTrV hAW hTW hPW hA hT hP hf hTV hT1 hb hb0 hbV hb0V hVc hVf hV3
  subst hW
  go_enter Tryz.func105, Tryz.ntmps105
  go_wp2_with fail
  refine HDo.out.mono ?_
  rintro e w4 ⟨rfl, w3, ⟨T, v, hR, h5, hA3, hT3, hTu, h0, h1, hfz⟩, k2, k3, hw4⟩
  have hT4 : Turn [a] w3 w4 := by
    rw [hw4]
    exact (((Turn.refl [a] w3).setCell (List.mem_singleton.2 rfl) 2 _).drew).setCell (List.mem_singleton.2 rfl) 3 _
  have hc4 : ∀ o, o ≠ 2 → o ≠ 3 → w4.cell? ⟨a, o, none⟩ = w3.cell? ⟨a, o, none⟩ := fun o h2 h3 => by
    rw [hw4]
    exact (World.cell?_setCell_other _ _ _ _ (off_ne h3.symm)).trans (World.cell?_setCell_other _ _ _ _ (off_ne h2.symm))
  have hP4 : PlaceAt w4 a pg lvl 1 (.iface T v) := by
    refine ⟨(hc4 0 (by omega) (by omega)).trans h0, (hc4 1 (by omega) (by omega)).trans h1, ?_, ?_, (hc4 5 (by omega) (by omega)).trans h5, fun o => ?_⟩
    · rw [hw4]
      exact (World.cell?_setCell_other _ _ _ _ (off_ne (by omega))).trans (World.cell?_setCell_same _ _ _ k2)
    · rw [hw4]
      exact World.cell?_setCell_same _ _ _ ((World.cell?_setCell_other _ _ _ _ (off_ne (by omega))).trans k3)
    · rw [hw4, World.frozen?_setCell]
      exact (World.frozen?_setCell ..).trans (hfz o)
  have hbox : w4.cell? ⟨w.heap.size + 1, 0, none⟩ = some (.pointer (some ⟨a, 0, none⟩)) := by
    have hT := (hTu.mono (T := [p, a]) (by simp)).trans (hT4.mono (by simp))
    exact (hT.cell (p := ⟨w.heap.size + 1, 0, none⟩) (by show w.heap.size + 1 < V.heap.size; omega) (by simp; exact ⟨hlow.2, hlow.1⟩)).trans HbV.out
  have h54 := hP4.c5
  have HR := hide (HSt.out T v w3 w4 hR hT4)
  have HP4 := hide hP4
  have HA4 := hide (hA3.turn hT4 (by simp; exact ha.1.symm) (by simp; exact ha.2.1.symm) (by simp; exact ha.2.2.1.symm) (by simp; exact ha.2.2.2.1.symm) (by simp; exact ha.2.2.2.2.1.symm) (by simp; exact ha.2.2.2.2.2.1.symm))
  have HTr4 := hide (hT3.turn hT4 (by simp; exact ha.2.2.2.2.2.2.symm))
  have HT4 : Hid (Turn [p, a] w w4) := (((HT1.out.mono (by simp)).trans (HTV.out.mono (by simp))).trans hTu).trans (hT4.mono (by simp))
  clear hR h5 hA3 hT3 hTu h0 h1 hfz k2 k3 hw4 hT4 hc4 hP4 HDo
  go_wp2_with fail
  go_ret
  exact ⟨T, v, rfl, HR.out, HP4.out, HA4.out, HTr4.out, HT4.out⟩

end Go.Proofs.YthgpjkcgccdldaaGreatDoor

namespace Go.Proofs.YthgpjkcgccdldaaGreatDoor
open Go.RowKit Go.Maps

/-- A low with its page. -/
def lowPg {h : Nat} (e : En (h + 1)) : ByteArray × Nat := (e.key, pageOf e)
/-- A node's bytes. -/
def encN : {h : Nat} → List (En h) → List Nat
  | 0, l => [1] ++ lbytes l
  | h + 1, l => [h + 1 + 1] ++ bbytes (l.map lowPg)
theorem sumN_eq (l : List Nat) : sumN l = l.sum := sumN_sum l
theorem lsize_sizeN (l : List (En 0)) : lsize l = sizeN l := by
  unfold lsize lsizes sizeN
  rw [sumN_eq]
  congr 1
theorem bbytes_length (l : List (ByteArray × Nat)) : (bbytes l).length = (l.map kidSize).sum := by
  unfold bbytes
  induction l with
  | nil => rfl
  | cons x l ih =>
    rw [List.flatMap_cons, List.length_append, ih, List.map_cons, List.sum_cons]
    unfold bBytes kidSize be4
    simp [natBytes_length]
    omega
theorem kid_sizeN {h : Nat} (l : List (En (h + 1))) : ((l.map lowPg).map kidSize).sum = sizeN l := by
  unfold sizeN
  rw [List.map_map]
  congr 1
theorem encN_length {h : Nat} (l : List (En h)) : (encN l).length = 1 + sizeN l := by
  cases h with
  | zero =>
    have e : (lbytes l).length = sizeN l := (lbytes_length l).trans (lsize_sizeN l)
    exact List.length_append.trans (congrArg (1 + ·) e)
  | succ h =>
    show ([h + 1 + 1] ++ bbytes (l.map lowPg)).length = _
    rw [List.length_append, bbytes_length, kid_sizeN]
    rfl

/-- What a page may have. -/
def PageFit : {h : Nat} → List (En h) → Prop
  | 0, l => 0 < l.length ∧ Short l ∧ sizeN l ≤ 495
  | h + 1, l => h ≤ 200 ∧ 0 < l.length ∧ (∀ e ∈ l, e.key.size ≤ 48 ∧ pageOf e < 4294967296) ∧ sizeN l ≤ 495
theorem size_pos {h : Nat} (e : En h) : 2 ≤ e.size := by
  cases h with
  | zero => show 2 ≤ 2 + e.1.size + e.2.size; omega
  | succ h => show 2 ≤ 5 + e.1.size; omega
theorem len_size {h : Nat} (l : List (En h)) : 2 * l.length ≤ sizeN l := by
  induction l with
  | nil => exact Nat.le_refl _
  | cons e l ih =>
    rw [sizeN_cons, List.length_cons]
    have := size_pos e
    omega
theorem PageFit.size {h : Nat} {l : List (En h)} (hp : PageFit l) : 0 < l.length ∧ sizeN l ≤ 495 := by
  cases h with
  | zero => exact ⟨hp.1, hp.2.2⟩
  | succ h => exact ⟨hp.2.1, hp.2.2.2⟩

/-- The disk has the pages. -/
structure DkOk (s : St) (q : Pg) (D : Dk) : Prop where
  at_ : ∀ pg h (l : List (En h)), D pg = some ⟨h, l⟩ → q.thereI s.n pg = true ∧ s.f pg = bytesOf 512 (pageB (encN l)) ∧ PageFit l

/-- A node in memory. -/
def NdAt (w : World) (Rw : Nat → Prop) (G : Gh) (lvl : Nat) : Nd → TypeId → Value → Prop
  | .inl l, T, v => lvl = 1 ∧ T = 137 ∧ ∃ b off c, v = .slice (some ⟨b, off, none⟩) l.length c ∧ KVsAt w (some ⟨b, off, none⟩) l ∧ (l.length ≤ c ∧ c ≤ 9223372036854775807) ∧ Rw b
  | .inr ks, T, v => 2 ≤ lvl ∧ T = 170 ∧ ∃ b off c, v = .slice (some ⟨b, off, none⟩) ks.length c ∧ KidsAt w (some ⟨b, off, none⟩) ks ∧ (ks.length ≤ c ∧ c ≤ 9223372036854775807) ∧ Rw b ∧ ∀ k ∈ ks, ∃ Q, G k.2 = some Q ∧ Q.lvl + 1 = lvl
/-- A place in memory. -/
def PlOk (w : World) (Rw : Nat → Prop) (G : Gh) (a : Nat) (P : Pl) : Prop :=
  match P.nd with
  | none => PlaceAt w a P.pg P.lvl 0 .nilIface
  | some nd => ∃ d T v, (d = 0 ∨ d = 1) ∧ PlaceAt w a P.pg P.lvl d (.iface T v) ∧ NdAt w Rw G P.lvl nd T v
/-- All places and rows of trees. -/
structure Mem (w : World) (Rw : Nat → Prop) (G : Gh) : Prop where
  at_ : ∀ a P, G a = some P → PlOk w Rw G a P
  apart : ∀ b, Rw b → G b = none
  rows : ∀ b, Rw b → b < w.heap.size

theorem PlOk.lt {w : World} {Rw : Nat → Prop} {G : Gh} {a : Nat} {P : Pl} (h : PlOk w Rw G a P) : a < w.heap.size := by
  unfold PlOk at h
  split at h
  · exact h.lt
  · obtain ⟨_, _, _, _, h, _⟩ := h
    exact h.lt
theorem Mem.lt {w : World} {Rw : Nat → Prop} {G : Gh} (h : Mem w Rw G) {a : Nat} (ha : G a ≠ none) : a < w.heap.size := by
  cases hP : G a with
  | none => exact absurd hP ha
  | some P => exact (h.at_ a P hP).lt

/-- A node stays where its row does, and its kids' places are known still. -/
theorem NdAt.keep {w w' : World} {Rw Rw' : Nat → Prop} {G G' : Gh} {lvl : Nat} {nd : Nd} {T : TypeId} {v : Value} (h : NdAt w Rw G lvl nd T v) (hb : ∀ b, Rw b → w'.heap[b]? = w.heap[b]?) (hR : ∀ b, Rw b → Rw' b) (hG : ∀ a Q, G a = some Q → ∃ Q', G' a = some Q' ∧ Q'.lvl = Q.lvl) : NdAt w' Rw' G' lvl nd T v := by
  cases nd with
  | inl l =>
    obtain ⟨h1, h2, b, off, c, h3, h4, h5, h6⟩ := h
    refine ⟨h1, h2, b, off, c, h3, ?_, h5, hR b h6⟩
    rcases h4 with h | ⟨b', off', e, hc⟩
    · exact .inl h
    · obtain ⟨rfl, rfl⟩ : b = b' ∧ off = off' := by injection e with e; injection e with e1 e2; exact ⟨e1, e2⟩
      exact .inr ⟨b, off, rfl, fun i hi => ⟨(World.cell?_of_block (a := ⟨b, off + i * 2, none⟩) (hb b h6)).trans (hc i hi).1, (World.cell?_of_block (a := ⟨b, off + i * 2 + 1, none⟩) (hb b h6)).trans (hc i hi).2⟩⟩
  | inr ks =>
    obtain ⟨h1, h2, b, off, c, h3, h4, h5, h6, h7⟩ := h
    refine ⟨h1, h2, b, off, c, h3, ?_, h5, hR b h6, fun k hk => ?_⟩
    · rcases h4 with h | ⟨b', off', e, hc⟩
      · exact .inl h
      · obtain ⟨rfl, rfl⟩ : b = b' ∧ off = off' := by injection e with e; injection e with e1 e2; exact ⟨e1, e2⟩
        exact .inr ⟨b, off, rfl, fun i hi => ⟨(World.cell?_of_block (a := ⟨b, off + i * 2, none⟩) (hb b h6)).trans (hc i hi).1, (World.cell?_of_block (a := ⟨b, off + i * 2 + 1, none⟩) (hb b h6)).trans (hc i hi).2⟩⟩
    · obtain ⟨Q, hQ, hl⟩ := h7 k hk
      obtain ⟨Q', hQ', hl'⟩ := hG _ Q hQ
      exact ⟨Q', hQ', by omega⟩
theorem PlaceAt.same {w w' : World} {a pg lvl : Nat} {d : Int} {v : Value} (h : PlaceAt w a pg lvl d v) (hb : w'.heap[a]? = w.heap[a]?) : PlaceAt w' a pg lvl d v := by
  have hc : ∀ o, w'.cell? ⟨a, o, none⟩ = w.cell? ⟨a, o, none⟩ := fun o => World.cell?_of_block (a := ⟨a, o, none⟩) hb
  exact ⟨(hc 0).trans h.c0, (hc 1).trans h.c1, (hc 2).trans h.c2, (hc 3).trans h.c3, (hc 5).trans h.c5, fun o => (World.frozen?_of_block (a := ⟨a, o, none⟩) hb).trans (h.fz o)⟩
theorem PlOk.keep {w w' : World} {Rw Rw' : Nat → Prop} {G G' : Gh} {a : Nat} {P : Pl} (h : PlOk w Rw G a P) (ha : w'.heap[a]? = w.heap[a]?) (hb : ∀ b, Rw b → w'.heap[b]? = w.heap[b]?) (hR : ∀ b, Rw b → Rw' b) (hG : ∀ a Q, G a = some Q → ∃ Q', G' a = some Q' ∧ Q'.lvl = Q.lvl) : PlOk w' Rw' G' a P := by
  unfold PlOk at h ⊢
  split at h
  · rename_i e
    exact h.same ha
  · rename_i nd e
    obtain ⟨d, T, v, hd, hP, hN⟩ := h
    exact ⟨d, T, v, hd, hP.same ha, hN.keep hb hR hG⟩
/-- Other blocks turn. -/
theorem Mem.turn {X : List Nat} {w w' : World} {Rw : Nat → Prop} {G : Gh} (h : Mem w Rw G) (hT : Turn X w w') (hX : ∀ x ∈ X, G x = none ∧ ¬ Rw x) : Mem w' Rw G := by
  have hb : ∀ b, Rw b → w'.heap[b]? = w.heap[b]? := fun b hr => hT.block b (h.rows b hr) (fun hm => (hX b hm).2 hr)
  refine ⟨fun a P hP => (h.at_ a P hP).keep (hT.block a (h.at_ a P hP).lt (fun hm => by rw [(hX a hm).1] at hP; cases hP)) hb (fun _ h => h) (fun _ Q hQ => ⟨Q, hQ, rfl⟩), h.apart, fun b hr => Nat.lt_of_lt_of_le (h.rows b hr) hT.size⟩

end Go.Proofs.YthgpjkcgccdldaaGreatDoor

namespace Go.Proofs.YthgpjkcgccdldaaGreatDoor
open Go.RowKit Go.Maps

theorem bBytes_length (x : ByteArray × Nat) : (bBytes x).length = kidSize x := by
  unfold bBytes kidSize be4
  simp [natBytes_length]
  omega
theorem bbytes_take (l : List (ByteArray × Nat)) (i : Nat) (h : i < l.length) : bbytes (l.take (i + 1)) = bbytes (l.take i) ++ bBytes l[i] := by
  unfold bbytes
  rw [List.take_succ_eq_append_getElem h, List.flatMap_append]
  simp
theorem bbytes_le (l : List (ByteArray × Nat)) (i : Nat) : (bbytes (l.take i)).length ≤ (bbytes l).length := by
  have h : (bbytes l).length = (bbytes (l.take i)).length + (bbytes (l.drop i)).length := by
    rw [← List.length_append]
    unfold bbytes
    rw [← List.flatMap_append, List.take_append_drop]
  omega

set_option maxRecDepth 100000 in
set_option maxHeartbeats 3200000 in
theorem entriesB_any (a : Option Addr) (cap : Nat) (ks l : List (ByteArray × Nat)) (hll : l.length = ks.length) (hlow : ∀ j (h : j < ks.length) (h' : j < l.length), ks[j].1 = l[j].1) (hlen : ks.length ≤ 1000) (hsh : ShortB l) (hsz : (bbytes l).length ≤ 700) (base : Nat) (v : Value) (pre : List Nat) (hpre : pre.length ≤ 50) (w : World) (hbase : base ≤ w.heap.size) (w0 : World) (hw0 : w0.heap.size = base) (hT0 : Turn [] w0 w) (hK : KidsAt w0 a ks) (hP : ∀ j (h : j < ks.length) (h' : j < l.length), w0.cell? ⟨ks[j].2, 0, none⟩ = some (.int .i64 (l[j].2 : Nat))) (hO : OwnB w base v pre) :
    Calls Tryz.prog 237 #[.slice a ks.length cap, v] w fun e w' => ∃ v', e = .returned v' ∧ OwnB w' base v' (pre ++ bbytes l) ∧ Grew base w w' := by
  have HK := hide hK
  have HO := hide hO
  have HT0 := hide hT0
  have HSh := hide hsh
  have HLow := hide hlow
  have HP := hide hP
  have HLL := hide hll
  clear hK hO hT0 hsh hlow hP hll
  go_enter Tryz.func237, Tryz.ntmps237
  go_wp2_with fail
  go_loopw [1, 6, 9] (fun b _ i wr => ∃ j : Nat, j ≤ ks.length ∧ i = .int .i64 j ∧ OwnB wr base b (pre ++ bbytes (l.take j)) ∧ Grew base w wr ∧ w.heap.size ≤ wr.heap.size) (fun _ _ i _ => ks.length - (intOf i).toNat)
  case atStart => exact ⟨0, Nat.zero_le _, rfl, by simpa [bbytes] using HO.out, Grew.refl _ _, Nat.le_refl _⟩
  case round =>
    obtain ⟨j, hj, rfl, hO2, hG2, hs2⟩ := hrel
    have HO2 := hide hO2
    have HG2 := hide hG2
    clear hO2 hG2
    by_cases hjl : j < ks.length
    · have hjl' : j < l.length := by rw [HLL.out]; exact hjl
      have hT2 := HG2.out w0 (by omega) HT0.out
      obtain ⟨b, off, rfl, hc, hd⟩ := (HK.out.turn0 hT2).at hjl
      have hpc := (hT2.cb (lt_of_cell (HP.out j hjl hjl')) (by simp)).trans (HP.out j hjl hjl')
      obtain ⟨hb1, hb2⟩ := HSh.out l[j] (List.getElem_mem hjl')
      rw [HLow.out j hjl hjl'] at hc
      have hbl := lt_of_cell hc
      have hkl := lt_of_cell hpc
      have hpl := bbytes_le l j
      have hpl1 := bbytes_le l (j + 1)
      have HLt := hide (bbytes_take l j hjl')
      rw [HLt.out, List.length_append, bBytes_length] at hpl1
      unfold kidSize at hpl1
      obtain ⟨lw, hlw⟩ : ∃ x, x = l[j].1 := ⟨_, rfl⟩
      obtain ⟨pj, hpj⟩ : ∃ x, x = l[j].2 := ⟨_, rfl⟩
      obtain ⟨ka, hka⟩ : ∃ x, x = ks[j].2 := ⟨_, rfl⟩
      have HFin : Hid (pre ++ bbytes (l.take (j + 1)) = pre ++ bbytes (l.take j) ++ [lw.size] ++ natBytes lw ++ be4 pj) := by
        show _ = _
        rw [HLt.out]
        unfold bBytes
        rw [← hlw, ← hpj]
        simp only [List.append_assoc]
      rw [← hlw] at hc hpl1 hb1
      rw [← hpj] at hpc hb2
      have hpr : (pre ++ bbytes (l.take j)).length + lw.size ≤ 800 := by rw [List.length_append]; omega
      rw [← hka] at hpc hd hkl
      have HO3 := hide (HO2.out.alloc (.cells #[.string lw, .pointer (some ⟨ka, 0, none⟩)] 173))
      have HKA := hide hka
      have HPJ := hide hpj
      clear hT2 hlw hpj hka
      go_wp2_with fail
      refine (appendText_any base u1 (pre ++ bbytes (l.take j)) lw (by omega) (by omega) _ (by simp; omega) HO3.out).mono ?_
      rintro e w3 ⟨v3, rfl, hO3, hG3, hs3, hK3⟩
      have HO4 := hide hO3
      have HG3 := hide hG3
      have hown := HO2.out.lt
      have hkb : w3.cell? ⟨wr.heap.size, 1, none⟩ = some (.pointer (some ⟨ka, 0, none⟩)) := by
        refine (World.cell?_of_block (a := ⟨wr.heap.size, 1, none⟩) (hK3 wr.heap.size (by simp) (fun e => ?_))).trans (World.cell?_alloc_at _ _ _ _ rfl)
        have := (hown _ e).2
        omega
      have hpc3 : w3.cell? ⟨ka, 0, none⟩ = some (.int .i64 (pj : Nat)) := by
        have hT3 := ((HG2.out.trans (Grew.alloc base wr _)).trans HG3.out) w0 (by omega) HT0.out
        have hk0 := HP.out j hjl (by rw [HLL.out]; exact hjl)
        rw [HKA.out, HPJ.out]
        exact (hT3.cb (lt_of_cell hk0) (by simp)).trans hk0
      have hpr2 : (pre ++ bbytes (l.take j) ++ [lw.size] ++ natBytes lw).length ≤ 1000 := by
        rw [List.length_append, List.length_append, natBytes_length]
        show _ + 1 + _ ≤ _
        omega
      clear hO3 hG3 hK3 hc hd
      simp at hs3
      go_wp2_with fail
      refine (appendNumber_any base v3 _ pj (by omega) (by omega) w3 (by omega) HO4.out).mono ?_
      rintro e w4 ⟨v4, rfl, hO4, hG4, hs4, _⟩
      rw [← HFin.out] at hO4
      have HO5 := hide hO4
      have HG5 := hide (((HG2.out.trans (Grew.alloc base wr _)).trans HG3.out).trans hG4)
      clear hO4 hG4
      go_wp2_with fail
      go_roundw
      case rel => exact ⟨j + 1, by omega, by go_num, HO5.out, HG5.out, by omega⟩
      case measure => simp [intOf]; omega
    · obtain rfl : j = ks.length := by omega
      go_wp2_with fail
      go_ret
      have h := HO2.out
      rw [← HLL.out, List.take_length] at h
      exact ⟨_, rfl, h, HG2.out⟩

set_option maxRecDepth 100000 in
set_option maxHeartbeats 1600000 in
theorem encode_branch (bb off cap : Nat) (ks l : List (ByteArray × Nat)) (lvl : Nat) (hl : lvl ≤ 255) (hll : l.length = ks.length) (hlow : ∀ j (h : j < ks.length) (h' : j < l.length), ks[j].1 = l[j].1) (hlen : ks.length ≤ 1000) (hsh : ShortB l) (hsz : (bbytes l).length ≤ 700) (w : World) (hK : KidsAt w (some ⟨bb, off, none⟩) ks) (hP : ∀ j (h : j < ks.length) (h' : j < l.length), w.cell? ⟨ks[j].2, 0, none⟩ = some (.int .i64 (l[j].2 : Nat))) :
    Calls Tryz.prog 136 #[.iface 170 (.slice (some ⟨bb, off, none⟩) ks.length cap), .int .i64 (lvl : Nat)] w fun e w' => ∃ v, e = .returned v ∧ OwnB w' w.heap.size v ([lvl] ++ bbytes l) ∧ Turn [] w w' := by
  have hmod : (lvl : Int) % 256 = (lvl : Int) := by omega
  have hO : OwnB (w.alloc (.cells #[.int .u8 (lvl : Nat)] 5)) w.heap.size (.slice (some ⟨w.heap.size, 0, none⟩) 1 1) [lvl] := OwnB.new w [lvl] 1 rfl (by omega)
  have hT0 : Turn [] w (w.alloc (.cells #[.int .u8 (lvl : Nat)] 5)) := (Turn.refl [] w).alloc _
  have HC := hide (entriesB_any (some ⟨bb, off, none⟩) cap ks l hll hlow hlen hsh hsz w.heap.size _ [lvl] (by simp) _ (by simp) w rfl hT0 hK hP hO)
  have HT0 := hide hT0
  clear hO hT0 hK hsh hP hlow hll
  go_enter Tryz.func136, Tryz.ntmps136
  go_wp2_with fail
  refine HC.out.mono ?_
  rintro e w1 ⟨v, rfl, hO1, hG1⟩
  have HO1 := hide hO1
  have HG1 := hide hG1
  clear hO1 hG1
  go_wp2_with fail
  go_ret
  exact ⟨v, rfl, HO1.out, HG1.out w (Nat.le_refl _) HT0.out⟩

end Go.Proofs.YthgpjkcgccdldaaGreatDoor

namespace Go.Proofs.YthgpjkcgccdldaaGreatDoor
open Go.RowKit Go.Maps

theorem Pg.alloced_left (q : Pg) (N k : Nat) : q.left N ≤ (q.alloced k).left N + 1 := by
  have h := fc_more (q.tk N) k 16384
  have e : (fun j => q.tk N j || decide (j = k)) = (q.alloced k).tk N := by
    funext j
    unfold Pg.tk Pg.alloced setB
    by_cases e : j = k
    · simp [e]
    · simp [e]
  rw [e] at h
  exact h

/-- Pages that are allocated one behind the other. -/
def Als (N : Nat) : Pg → List Nat → Pg → Prop
  | q, [], q' => q' = q
  | q, k :: ks, q' => q.Next N k ∧ Als N (q.alloced k) ks q'
theorem Als.append {N : Nat} : {a b : List Nat} → {q q1 q2 : Pg} → Als N q a q1 → Als N q1 b q2 → Als N q (a ++ b) q2
  | [], _, _, _, _, h, k => by
    have h : _ = _ := h
    rw [h] at k
    exact k
  | _ :: _, _, _, _, _, h, k => ⟨h.1, h.2.append k⟩
theorem Als.one {N k : Nat} {q : Pg} (h : q.Next N k) : Als N q [k] (q.alloced k) := ⟨h, rfl⟩

/-- What is kept, what is new. -/
structure AlsIs (N : Nat) (q : Pg) (ns : List Nat) (q' : Pg) : Prop where
  dead : q'.dead = q.dead
  c : q'.c = q.c
  root : q'.root = q.root
  K : q'.K = q.K
  u : q'.u = q.u + ns.length
  left : q.left N ≤ q'.left N + ns.length
  old : ∀ x, x ∉ ns → q'.si x = q.si x
  new : ∀ x ∈ ns, q'.si x = 1 ∧ fp N ≤ x ∧ x < N ∧ q.K x = false ∧ q.si x ≠ 1
  nodup : ns.Nodup
theorem Als.is {N : Nat} : {ns : List Nat} → {q q' : Pg} → Als N q ns q' → AlsIs N q ns q'
  | [], q, q', h => by
    obtain rfl : q' = q := h
    exact ⟨rfl, rfl, rfl, rfl, rfl, Nat.le_add_right _ _, fun _ _ => rfl, fun x hx => absurd hx (by simp), List.nodup_nil⟩
  | k :: ks, q, q', h => by
    have i := h.2.is
    obtain ⟨r1, r2, r3, r4⟩ := h.1.range
    have hk : k ∉ ks := fun hm => by
      have := (i.new k hm).2.2.2.2
      unfold Pg.alloced setB at this
      simp at this
    have hl := Pg.alloced_left q N k
    have hl2 := i.left
    have hu : q'.u = q.u + 1 + ks.length := i.u
    refine ⟨i.dead, i.c, i.root, i.K, by rw [List.length_cons]; omega, by rw [List.length_cons]; omega, fun x hx => ?_, fun x hx => ?_, List.nodup_cons.2 ⟨hk, i.nodup⟩⟩
    · rw [List.mem_cons, not_or] at hx
      rw [i.old x hx.2]
      show setB q.si k 1 x = q.si x
      unfold setB
      rw [if_neg hx.1]
    · rcases List.mem_cons.1 hx with rfl | hm
      · refine ⟨?_, r1, r2, r3, r4⟩
        rw [i.old x hk]
        show setB q.si x 1 x = 1
        unfold setB
        rw [if_pos rfl]
      · obtain ⟨g1, g2, g3, g4, g5⟩ := i.new x hm
        refine ⟨g1, g2, g3, g4, fun e => g5 ?_⟩
        show setB q.si k 1 x = 1
        unfold setB
        split
        · rfl
        · exact e
theorem AlsIs.there_old {N : Nat} {q q' : Pg} {ns : List Nat} (h : AlsIs N q ns q') {x : Nat} (hx : x ∉ ns) : q'.there x = q.there x := by
  unfold Pg.there
  rw [h.K, h.old x hx]
theorem AlsIs.there_new {N : Nat} {q q' : Pg} {ns : List Nat} (h : AlsIs N q ns q') {x : Nat} (hx : x ∈ ns) : q'.there x = true ∧ q.there x = false := by
  obtain ⟨g1, _, _, g4, g5⟩ := h.new x hx
  unfold Pg.there
  rw [g1, g4]
  simp
  exact fun e => absurd e g5
theorem AlsIs.thereI {N : Nat} {q q' : Pg} {ns : List Nat} (h : AlsIs N q ns q') {M : Nat} {x : Nat} (hx : q.thereI M (x : Nat) = true) : q'.thereI M (x : Nat) = true := by
  have hn : x ∉ ns := fun hm => by
    obtain ⟨n, e, _, _, ht⟩ := Pg.there_range hx
    obtain rfl : x = n := by omega
    rw [(h.there_new hm).2] at ht
    cases ht
  unfold Pg.thereI at hx ⊢
  rw [Int.toNat_natCast] at hx ⊢
  rw [h.there_old hn]
  exact hx

theorem DkOk.pages {s : St} {q : Pg} {D : Dk} (h : DkOk s q D) {hh pg : Nat} {l : List (En hh)} (hd : OnDisk D hh pg l) : pg < s.n := by
  obtain ⟨n, e, _, h2, _⟩ := Pg.there_range (h.at_ _ _ _ hd.at).1
  omega

/-- Below a place are places of lesser levels. -/
theorem Und.lvl {G : Gh} {D : Dk} : {h a x : Nat} → {l : List (En h)} → Means G D h a l → Und G h a x → ∃ P, G x = some P ∧ P.lvl ≤ h + 1 := by
  intro h
  induction h with
  | zero =>
    intro a x l hm hu
    obtain rfl : x = a := hu
    obtain ⟨P, h1, h2, _⟩ := hm.out
    exact ⟨P, h1, by omega⟩
  | succ h ih =>
    intro a x l hm hu
    obtain ⟨P, h1, h2, h3, h4, h5⟩ := hm.out
    rcases hu with rfl | ⟨P', ks, hP, hn, k, hk, hu⟩
    · exact ⟨P, h1, by omega⟩
    · obtain rfl : P = P' := by rw [hP] at h1; exact (Option.some.inj h1).symm
      obtain ⟨ks', e, hb⟩ := h5 _ hn
      injection e with e
      subst e
      obtain ⟨e, _, hx⟩ := hb.left k hk
      obtain ⟨Q, g1, g2⟩ := ih hx.2.2 hu
      exact ⟨Q, g1, by omega⟩

/-- All pages are there: none is 0. -/
theorem ondisk_count {D : Dk} {h pg : Nat} {l : List (En h)} (hd : OnDisk D h pg l) : (pagesAt pg l).count 0 = 0 ∧ (pagesAt pg l).filter (fun x => decide (x ≠ 0)) = pagesAt pg l :=
  ⟨List.count_eq_zero.2 fun hm => hd.pos 0 hm rfl, List.filter_eq_self.2 fun x hx => decide_eq_true (hd.pos x hx)⟩

end Go.Proofs.YthgpjkcgccdldaaGreatDoor

namespace Go.Proofs.YthgpjkcgccdldaaGreatDoor
open Go.RowKit Go.Maps

/-- Kids' places that were not read yet. -/
def addKids (G : Gh) (lvl : Nat) : List (ByteArray × Nat) → List (ByteArray × Nat) → Gh
  | k :: ks, e :: es => (addKids G lvl ks es).add k.2 ⟨e.2, lvl, none⟩
  | _, _ => G
theorem addKids_other {G : Gh} {lvl x : Nat} : {ks es : List (ByteArray × Nat)} → (∀ k ∈ ks, k.2 ≠ x) → addKids G lvl ks es x = G x
  | [], _, _ => by unfold addKids; rfl
  | _ :: _, [], _ => by unfold addKids; rfl
  | k :: ks, e :: es, h => by
    unfold addKids
    rw [Gh.add_other _ _ (Ne.symm (h k (List.mem_cons_self ..)))]
    exact addKids_other fun k' hk => h k' (List.mem_cons_of_mem _ hk)
theorem addKids_at {G : Gh} {lvl : Nat} : {ks es : List (ByteArray × Nat)} → (ks.map Prod.snd).Nodup → ∀ i (h : i < ks.length) (h' : i < es.length), addKids G lvl ks es ks[i].2 = some ⟨es[i].2, lvl, none⟩
  | k :: ks, e :: es, hn, 0, _, _ => by
    unfold addKids
    exact Gh.add_same _ _ _
  | k :: ks, e :: es, hn, i + 1, h, h' => by
    have hn' := List.nodup_cons.1 hn
    have hi : i < ks.length := by simpa using h
    unfold addKids
    rw [List.getElem_cons_succ, Gh.add_other _ _ (fun e2 => hn'.1 (List.mem_map.2 ⟨ks[i], List.getElem_mem hi, e2⟩))]
    exact addKids_at hn'.2 i hi (by simpa using h')
  | [], _, _, i, h, _ => absurd h (by simp)
  | _ :: _, [], _, i, _, h' => absurd h' (by simp)
theorem addKids_some {G : Gh} {lvl x : Nat} : {ks es : List (ByteArray × Nat)} → addKids G lvl ks es x ≠ none → G x ≠ none ∨ ∃ k ∈ ks, k.2 = x
  | [], _, h => .inl h
  | _ :: _, [], h => .inl h
  | k :: ks, e :: es, h => by
    by_cases hk : k.2 = x
    · exact .inr ⟨k, List.mem_cons_self .., hk⟩
    · unfold addKids at h
      rw [Gh.add_other _ _ (Ne.symm hk)] at h
      rcases addKids_some h with h | ⟨k', hk', e'⟩
      · exact .inl h
      · exact .inr ⟨k', List.mem_cons_of_mem _ hk', e'⟩

/-- What calls that only read make of a tree's memory. -/
structure TStep (p : Nat) (w w' : World) (G G' : Gh) (Rw Rw' : Nat → Prop) : Prop where
  turn : ∃ X, Turn X w w' ∧ ∀ x ∈ X, x = p ∨ G x ≠ none
  newG : ∀ x, G' x ≠ none → G x ≠ none ∨ w.heap.size ≤ x
  newR : ∀ x, Rw' x → Rw x ∨ w.heap.size ≤ x
  oldR : ∀ x, Rw x → Rw' x
theorem TStep.size {p : Nat} {w w' : World} {G G' : Gh} {Rw Rw' : Nat → Prop} (h : TStep p w w' G G' Rw Rw') : w.heap.size ≤ w'.heap.size := by
  obtain ⟨_, h, _⟩ := h.turn
  exact h.size
theorem TStep.refl (p : Nat) (w : World) (G : Gh) (Rw : Nat → Prop) : TStep p w w G G Rw Rw := ⟨⟨[], Turn.refl _ _, by simp⟩, fun _ h => .inl h, fun _ h => .inl h, fun _ h => h⟩
theorem TStep.trans {p : Nat} {u v w : World} {G G' G'' : Gh} {R R' R'' : Nat → Prop} (h : TStep p u v G G' R R') (k : TStep p v w G' G'' R' R'') : TStep p u w G G'' R R'' := by
  have hs := h.size
  refine ⟨?_, fun x hx => ?_, fun x hx => ?_, fun x hx => k.oldR x (h.oldR x hx)⟩
  · obtain ⟨X, hX, h1⟩ := h.turn
    obtain ⟨Y, hY, k1⟩ := k.turn
    refine ⟨X ++ Y.filter (fun x => decide (x < u.heap.size)), (hX.mono (by intro x hx; simp [hx])).then hY (fun x hx => ?_), fun x hx => ?_⟩
    · by_cases hl : x < u.heap.size
      · exact .inl (List.mem_append_right _ (List.mem_filter.2 ⟨hx, by simpa using hl⟩))
      · exact .inr (Nat.le_of_not_lt hl)
    · rcases List.mem_append.1 hx with hx | hx
      · exact h1 x hx
      · obtain ⟨hy, hl⟩ := List.mem_filter.1 hx
        rcases k1 x hy with e | hg
        · exact .inl e
        · rcases h.newG x hg with hg | hg
          · exact .inr hg
          · have : x < u.heap.size := by simpa using hl
            omega
  · rcases k.newG x hx with hx | hx
    · exact h.newG x hx
    · exact .inr (Nat.le_trans hs hx)
  · rcases k.newR x hx with hx | hx
    · exact h.newR x hx
    · exact .inr (Nat.le_trans hs hx)

/-- A tree, its memory, its disk; O: blocks of others. -/
structure TM (w : World) (O : Nat → Prop) (t p b m sm rb : Nat) (s : St) (q : Pg) (Dn S : Stt) (D : Dk) (G : Gh) (Rw : Nat → Prop) : Prop where
  pa : PAt w p b m sm rb s q
  tr : TreeAt w t p Dn S
  off : Off t p b m sm rb
  rbl : rb < w.heap.size
  sd : s.dead = false
  qd : q.dead = false
  mem : Mem w Rw G
  dk : DkOk s q D
  own : ∀ x, (G x ≠ none ∨ Rw x) → x ∉ [1, t, p, b, m, sm, rb] ∧ ¬ O x
  no : ∀ x ∈ [1, t, p, b, m, sm, rb], ¬ O x
  ob : ∀ x, O x → x < w.heap.size

theorem not7 {x t p b m sm rb : Nat} (h : x ∉ [1, t, p, b, m, sm, rb]) : x ≠ 1 ∧ x ≠ p ∧ x ≠ b ∧ x ≠ m ∧ x ≠ sm ∧ x ≠ rb ∧ x ≠ t := by
  simp at h
  exact ⟨h.1, h.2.2.1, h.2.2.2.1, h.2.2.2.2.1, h.2.2.2.2.2.1, h.2.2.2.2.2.2, h.2.1⟩
theorem TM.lts {w : World} {O : Nat → Prop} {t p b m sm rb : Nat} {s : St} {q : Pg} {Dn S : Stt} {D : Dk} {G : Gh} {Rw : Nat → Prop} (h : TM w O t p b m sm rb s q Dn S D G Rw) : ∀ x ∈ [1, t, p, b, m, sm, rb], x < w.heap.size := by
  have h1 : (1 : Nat) < w.heap.size := by have := h.pa.tab 0 (by omega); exact lt_of_cell this
  have h2 := h.tr.lt
  have h3 := h.pa.pg.lt
  have h4 := h.pa.disk.lt
  have h5 := h.pa.disk.ltm
  have h6 := h.pa.pg.lts
  have h7 := h.rbl
  intro x hx
  simp at hx
  rcases hx with rfl | rfl | rfl | rfl | rfl | rfl | rfl <;> assumption
theorem PAt.rd {w : World} {p b m sm rb : Nat} {s : St} {q : Pg} (h : PAt w p b m sm rb s q) : PAt w p b m sm rb s { q with rd := q.rd } := h

set_option maxRecDepth 100000 in
/-- nodeAt of a place that was read. -/
theorem tm_node_some {w : World} {O : Nat → Prop} {t p b m sm rb : Nat} {s : St} {q : Pg} {Dn S : Stt} {D : Dk} {G : Gh} {Rw : Nat → Prop} (h : TM w O t p b m sm rb s q Dn S D G Rw) {a : Nat} {P : Pl} (hP : G a = some P) {nd : Nd} (hnd : P.nd = some nd) :
    Calls Tryz.prog 105 #[.pointer (some ⟨t, 0, none⟩), .pointer (some ⟨a, 0, none⟩)] w fun e w' => ∃ T v, e = .returned (.iface T v) ∧ NdAt w' Rw G P.lvl nd T v ∧ TM w' O t p b m sm rb s q Dn S D G Rw ∧ TStep p w w' G G Rw Rw := by
  have hpl := h.mem.at_ a P hP
  have hpl2 := hpl
  unfold PlOk at hpl
  rw [hnd] at hpl
  obtain ⟨d, T, v, hd, hPl, hN⟩ := hpl
  have ha := (h.own a (.inl (by rw [hP]; simp))).1
  have hna := not7 ha
  refine (nodeAt_some t a P.pg P.lvl d hd T v w hPl).mono ?_
  rintro e w' ⟨rfl, hP', hT⟩
  have hrow : ∀ b, Rw b → w'.heap[b]? = w.heap[b]? := fun b hr => hT.block b (h.mem.rows b hr) (by
    simp
    rintro rfl
    rw [h.mem.apart _ hr] at hP
    cases hP)
  have hN' := hN.keep (w' := w') (Rw' := Rw) (G' := G) hrow (fun _ h => h) (fun _ Q hQ => ⟨Q, hQ, rfl⟩)
  refine ⟨T, v, rfl, hN', ⟨h.pa.turn hT (by simp; exact hna.1.symm) (by simp; exact hna.2.1.symm) (by simp; exact hna.2.2.1.symm) (by simp; exact hna.2.2.2.1.symm) (by simp; exact hna.2.2.2.2.1.symm) (by simp; exact hna.2.2.2.2.2.1.symm), h.tr.turn hT (by simp; exact hna.2.2.2.2.2.2.symm), h.off, Nat.lt_of_lt_of_le h.rbl hT.size, h.sd, h.qd, ⟨fun x Q hQ => ?_, h.mem.apart, fun b hr => Nat.lt_of_lt_of_le (h.mem.rows b hr) hT.size⟩, h.dk, h.own, h.no, fun x hx => Nat.lt_of_lt_of_le (h.ob x hx) hT.size⟩, ⟨⟨[a], hT, fun x hx => .inr (by rw [List.mem_singleton.1 hx, hP]; simp)⟩, fun _ h => .inl h, fun _ h => .inl h, fun _ h => h⟩⟩
  by_cases hxa : x = a
  · subst hxa
    obtain rfl : P = Q := by rw [hP] at hQ; exact Option.some.inj hQ
    unfold PlOk
    rw [hnd]
    exact ⟨1, T, v, .inr rfl, hP', hN'⟩
  · exact (h.mem.at_ x Q hQ).keep (hT.block x (h.mem.at_ x Q hQ).lt (by simp; exact hxa)) hrow (fun _ h => h) (fun _ Q hQ => ⟨Q, hQ, rfl⟩)

/-- What was added for a leaf that was read. -/
theorem tm_leaf {w w' : World} {O : Nat → Prop} {t p b m sm rb : Nat} {s : St} {q : Pg} {Dn S : Stt} {D : Dk} {G : Gh} {Rw : Nat → Prop} (h : TM w O t p b m sm rb s q Dn S D G Rw) {a : Nat} {P : Pl} {l : List (En 0)} (hP : G a = some P) (hnd : P.nd = none) (hlv : P.lvl = 1) (hod : OnDisk D 0 P.pg l) {g c : Nat} (hg : w.heap.size ≤ g) (hgl : g < w'.heap.size) (hK : KVsAt w' (some ⟨g, 0, none⟩) l) (hc : l.length ≤ c ∧ c ≤ 9223372036854775807) (hPl : PlaceAt w' a P.pg P.lvl 1 (.iface 137 (.slice (some ⟨g, 0, none⟩) l.length c))) (hA : PAt w' p b m sm rb s { q with rd := true }) (hTr : TreeAt w' t p Dn S) (hT : Turn [p, a] w w') :
    ∃ G' Rw', NdAt w' Rw' G' P.lvl (.inl l) 137 (.slice (some ⟨g, 0, none⟩) l.length c) ∧ TM w' O t p b m sm rb s { q with rd := true } Dn S D G' Rw' ∧ Grown D G G' ∧ TStep p w w' G G' Rw Rw' := by
  have hlt := h.lts
  have hal := h.mem.lt (a := a) (by rw [hP]; simp)
  have hap := (not7 (h.own a (.inl (by rw [hP]; simp))).1).2.1
  have hGg : G g = none := by
    cases hg0 : G g with
    | none => rfl
    | some Q => have := h.mem.lt (a := g) (by rw [hg0]; simp); omega
  have hN : NdAt w' (fun x => Rw x ∨ x = g) (G.add a { P with nd := some (.inl l) }) P.lvl (.inl l) 137 (.slice (some ⟨g, 0, none⟩) l.length c) := ⟨hlv, rfl, g, 0, c, rfl, hK, hc, .inr rfl⟩
  have hrow : ∀ b, Rw b → w'.heap[b]? = w.heap[b]? := fun b hr => hT.block b (h.mem.rows b hr) (by
    have h1 := (not7 (h.own b (.inr hr)).1).2.1
    have h2 : b ≠ a := by
      rintro rfl
      rw [h.mem.apart _ hr] at hP
      cases hP
    simp
    exact ⟨h1, h2⟩)
  have hGr : ∀ x Q, G x = some Q → ∃ Q', (G.add a { P with nd := some (.inl l) }) x = some Q' ∧ Q'.lvl = Q.lvl := fun x Q hQ => by
    by_cases e : x = a
    · subst e
      obtain rfl : P = Q := by rw [hP] at hQ; exact Option.some.inj hQ
      exact ⟨_, Gh.add_same _ _ _, rfl⟩
    · exact ⟨Q, (Gh.add_other _ _ e).trans hQ, rfl⟩
  refine ⟨_, _, hN, ⟨hA, hTr, h.off, Nat.lt_of_lt_of_le h.rbl hT.size, h.sd, h.qd, ⟨fun x Q hQ => ?_, fun x hx => ?_, fun x hx => ?_⟩, ⟨fun pg hh l' hD => h.dk.at_ pg hh l' hD⟩, fun x hx => ?_, h.no, fun x hx => Nat.lt_of_lt_of_le (h.ob x hx) hT.size⟩, Grown.read hP hnd hlv hod (Gh.add_same _ _ _) (fun x hx Q hQ => (Gh.add_other _ _ hx).trans hQ) rfl, ⟨⟨[p, a], hT, fun x hx => ?_⟩, fun x hx => ?_, fun x hx => ?_, fun x hx => .inl hx⟩⟩
  · by_cases e : x = a
    · subst e
      rw [Gh.add_same] at hQ
      obtain rfl := Option.some.inj hQ
      exact ⟨1, _, _, .inr rfl, hPl, hN⟩
    · rw [Gh.add_other _ _ e] at hQ
      have hx := h.mem.at_ x Q hQ
      exact hx.keep (hT.block x hx.lt (by simp; exact ⟨(not7 (h.own x (.inl (by rw [hQ]; simp))).1).2.1, e⟩)) hrow (fun _ h => .inl h) hGr
  · rcases hx with hx | rfl
    · rw [Gh.add_other _ _ (fun e => by rw [e, ] at hx; rw [h.mem.apart _ hx] at hP; cases hP)]
      exact h.mem.apart _ hx
    · rw [Gh.add_other _ _ (by omega)]
      exact hGg
  · rcases hx with hx | rfl
    · exact Nat.lt_of_lt_of_le (h.mem.rows x hx) hT.size
    · exact hgl
  · by_cases e : x = g
    · subst e
      exact ⟨fun hm => by have := hlt _ hm; omega, fun ho => by have := h.ob _ ho; omega⟩
    · refine h.own x ?_
      rcases hx with hx | hx | hx
      · by_cases e2 : x = a
        · subst e2
          exact .inl (by rw [hP]; simp)
        · rw [Gh.add_other _ _ e2] at hx
          exact .inl hx
      · exact .inr hx
      · exact absurd hx e
  · simp at hx
    rcases hx with rfl | rfl
    · exact .inl rfl
    · exact .inr (by rw [hP]; simp)
  · by_cases e : x = a
    · subst e
      exact .inl (by rw [hP]; simp)
    · rw [Gh.add_other _ _ e] at hx
      exact .inl hx
  · rcases hx with hx | rfl
    · exact .inl hx
    · exact .inr hg

/-- What was added for a branch that was read. -/
theorem tm_branch {w w' : World} {O : Nat → Prop} {t p b m sm rb : Nat} {s : St} {q : Pg} {Dn S : Stt} {D : Dk} {G : Gh} {Rw : Nat → Prop} (h : TM w O t p b m sm rb s q Dn S D G Rw) {a hh : Nat} {P : Pl} {l : List (En (hh + 1))} (hP : G a = some P) (hnd : P.nd = none) (hlv : P.lvl = hh + 2) (hod : OnDisk D (hh + 1) P.pg l) {g c : Nat} {ks : List (ByteArray × Nat)} (hgl : g < w'.heap.size) (hNK : NewKids w' w.heap.size (hh + 1) (.slice (some ⟨g, 0, none⟩) ks.length c) ks (l.map lowPg)) (hg : w.heap.size ≤ g) (hK : KidsAt w' (some ⟨g, 0, none⟩) ks) (hc : ks.length ≤ c ∧ c ≤ 9223372036854775807) (hPl : PlaceAt w' a P.pg P.lvl 1 (.iface 170 (.slice (some ⟨g, 0, none⟩) ks.length c))) (hA : PAt w' p b m sm rb s { q with rd := true }) (hTr : TreeAt w' t p Dn S) (hT : Turn [p, a] w w') :
    ∃ G' Rw', NdAt w' Rw' G' P.lvl (.inr ks) 170 (.slice (some ⟨g, 0, none⟩) ks.length c) ∧ NodeIs G' D (hh + 1) (.inr ks) l ∧ TM w' O t p b m sm rb s { q with rd := true } Dn S D G' Rw' ∧ Grown D G G' ∧ TStep p w w' G G' Rw Rw' := by
  have hlt := h.lts
  have hal := h.mem.lt (a := a) (by rw [hP]; simp)
  have hap := (not7 (h.own a (.inl (by rw [hP]; simp))).1).2.1
  have hnew : ∀ x, w.heap.size ≤ x → G x = none := fun x hx => by
    cases hg0 : G x with
    | none => rfl
    | some Q => have := h.mem.lt (a := x) (by rw [hg0]; simp); omega
  have hlen := hNK.len
  have hkn : ∀ k ∈ ks, w.heap.size ≤ k.2 ∧ k.2 ≠ g := fun k hk => ⟨(hNK.new k hk).1, fun e => (hNK.new k hk).2 (by rw [e]; rfl)⟩
  obtain ⟨G1, hG1⟩ : ∃ G1, G1 = addKids G (hh + 1) ks (l.map lowPg) := ⟨_, rfl⟩
  have h1old : ∀ x, x < w.heap.size → G1 x = G x := fun x hx => by
    rw [hG1]
    exact addKids_other fun k hk e => by have := (hkn k hk).1; omega
  have h1at : ∀ i (hi : i < ks.length) (hi' : i < (l.map lowPg).length), G1 ks[i].2 = some ⟨(l.map lowPg)[i].2, hh + 1, none⟩ := fun i hi hi' => by
    rw [hG1]
    exact addKids_at hNK.nodup i hi hi'
  have h1some : ∀ x, G1 x ≠ none → G x ≠ none ∨ ∃ k ∈ ks, k.2 = x := fun x hx => by
    rw [hG1] at hx
    exact addKids_some hx
  obtain ⟨G2, hG2⟩ : ∃ G2, G2 = G1.add a { P with nd := some (.inr ks) } := ⟨_, rfl⟩
  have h2a : G2 a = some { P with nd := some (.inr ks) } := by rw [hG2]; exact Gh.add_same _ _ _
  have h2o : ∀ x, x ≠ a → G2 x = G1 x := fun x hx => by rw [hG2]; exact Gh.add_other _ _ hx
  have hka : ∀ k ∈ ks, k.2 ≠ a := fun k hk e => by have := (hkn k hk).1; omega
  have h2k : ∀ i (hi : i < ks.length) (hi' : i < (l.map lowPg).length), G2 ks[i].2 = some ⟨(l.map lowPg)[i].2, hh + 1, none⟩ := fun i hi hi' => (h2o _ (hka _ (List.getElem_mem hi))).trans (h1at i hi hi')
  have hrow : ∀ b, Rw b → w'.heap[b]? = w.heap[b]? := fun b hr => hT.block b (h.mem.rows b hr) (by
    have h1 := (not7 (h.own b (.inr hr)).1).2.1
    have h2 : b ≠ a := by
      rintro rfl
      rw [h.mem.apart _ hr] at hP
      cases hP
    simp
    exact ⟨h1, h2⟩)
  have hN : NdAt w' (fun x => Rw x ∨ x = g) G2 P.lvl (.inr ks) 170 (.slice (some ⟨g, 0, none⟩) ks.length c) := ⟨by omega, rfl, g, 0, c, rfl, hK, hc, .inr rfl, fun k hk => by
    obtain ⟨i, hi, rfl⟩ := List.getElem_of_mem hk
    exact ⟨_, h2k i hi (by omega), by show hh + 1 + 1 = P.lvl; omega⟩⟩
  have hGr : ∀ x Q, G x = some Q → ∃ Q', G2 x = some Q' ∧ Q'.lvl = Q.lvl := fun x Q hQ => by
    by_cases e : x = a
    · subst e
      obtain rfl : P = Q := by rw [hP] at hQ; exact Option.some.inj hQ
      exact ⟨_, h2a, rfl⟩
    · exact ⟨Q, (h2o x e).trans ((h1old x (h.mem.at_ x Q hQ).lt).trans hQ), rfl⟩
  have hlowk : ∀ i (hi : i < ks.length) (hi' : i < l.length), ks[i].1 = l[i].key := fun i hi hi' => by
    have hl := hNK.low
    have h1 : (ks.map Prod.fst)[i]'(by simpa using hi) = ((l.map lowPg).map Prod.fst)[i]'(by simpa using hi') := by simp only [hl]
    simpa [lowPg] using h1
  have hNode : NodeIs G2 D (hh + 1) (.inr ks) l := by
    refine ⟨ks, rfl, Both.of_get (by rw [hlen, List.length_map]) fun i hi hi' => ⟨hlowk i hi hi', ⟨_, h2k i hi (by simpa using hi'), by simp [lowPg]⟩, ?_⟩⟩
    have hb := hod.below l[i] (List.getElem_mem hi')
    refine Means.of _ (h2k i hi (by simpa using hi')) rfl (fun _ => by simpa [lowPg] using hb) (fun _ => by simpa [lowPg] using hb.ne) (fun nd e => by cases e)
  refine ⟨G2, fun x => Rw x ∨ x = g, hN, hNode, ⟨hA, hTr, h.off, Nat.lt_of_lt_of_le h.rbl hT.size, h.sd, h.qd, ⟨fun x Q hQ => ?_, fun x hx => ?_, fun x hx => ?_⟩, ⟨fun pg hh' l' hD => h.dk.at_ pg hh' l' hD⟩, fun x hx => ?_, h.no, fun x hx => Nat.lt_of_lt_of_le (h.ob x hx) hT.size⟩, Grown.read hP hnd hlv hod h2a (fun x hx Q hQ => (h2o x hx).trans ((h1old x (h.mem.at_ x Q hQ).lt).trans hQ)) hNode, ⟨⟨[p, a], hT, fun x hx => ?_⟩, fun x hx => ?_, fun x hx => ?_, fun x hx => .inl hx⟩⟩
  · by_cases e : x = a
    · subst e
      rw [h2a] at hQ
      obtain rfl := Option.some.inj hQ
      exact ⟨1, _, _, .inr rfl, hPl, hN⟩
    · rw [h2o x e] at hQ
      rcases h1some x (by rw [hQ]; simp) with hx | ⟨k, hk, rfl⟩
      · have hxl := h.mem.lt hx
        rw [h1old x hxl] at hQ
        have hx := h.mem.at_ x Q hQ
        exact hx.keep (hT.block x hx.lt (by simp; exact ⟨(not7 (h.own x (.inl (by rw [hQ]; simp))).1).2.1, e⟩)) hrow (fun _ h => .inl h) hGr
      · obtain ⟨i, hi, rfl⟩ := List.getElem_of_mem hk
        rw [h1at i hi (by omega)] at hQ
        obtain rfl := Option.some.inj hQ
        exact hNK.at_ i hi (by omega)
  · have hxg : x ≠ a := by
      rintro rfl
      rcases hx with hx | hx
      · rw [h.mem.apart _ hx] at hP; cases hP
      · omega
    rw [h2o x hxg]
    cases hg1 : G1 x with
    | none => rfl
    | some Q =>
      exfalso
      rcases h1some x (by rw [hg1]; simp) with hx2 | ⟨k, hk, rfl⟩
      · rcases hx with hx | rfl
        · exact hx2 (h.mem.apart _ hx)
        · exact hx2 (hnew _ hg)
      · rcases hx with hx | hx
        · have := h.mem.rows _ hx
          have := (hkn k hk).1
          omega
        · exact (hkn k hk).2 hx
  · rcases hx with hx | rfl
    · exact Nat.lt_of_lt_of_le (h.mem.rows x hx) hT.size
    · exact hgl
  · by_cases hxo : w.heap.size ≤ x
    · exact ⟨fun hm => by have := hlt _ hm; omega, fun ho => by have := h.ob _ ho; omega⟩
    · refine h.own x ?_
      rcases hx with hx | hx | hx
      · by_cases e2 : x = a
        · subst e2
          exact .inl (by rw [hP]; simp)
        · rw [h2o x e2, h1old x (by omega)] at hx
          exact .inl hx
      · exact .inr hx
      · omega
  · simp at hx
    rcases hx with rfl | rfl
    · exact .inl rfl
    · exact .inr (by rw [hP]; simp)
  · by_cases hxo : w.heap.size ≤ x
    · exact .inr hxo
    · by_cases e : x = a
      · subst e
        exact .inl (by rw [hP]; simp)
      · rw [h2o x e, h1old x (by omega)] at hx
        exact .inl hx
  · rcases hx with hx | rfl
    · exact .inl hx
    · exact .inr hg

end Go.Proofs.YthgpjkcgccdldaaGreatDoor

namespace Go.Proofs.YthgpjkcgccdldaaGreatDoor
open Go.RowKit Go.Maps

theorem PageFit.short {l : List (En 0)} (h : PageFit l) : Short l := h.2.1
theorem PageFit.shortB {h : Nat} {l : List (En (h + 1))} (hp : PageFit l) : ShortB (l.map lowPg) := fun x hx => by
  obtain ⟨e, he, rfl⟩ := List.mem_map.1 hx
  have := hp.2.2.1 e he
  exact ⟨by show e.key.size ≤ 255; omega, this.2⟩

set_option maxRecDepth 100000 in
/-- A leaf that was not read. -/
theorem tm_node_leaf {w : World} {O : Nat → Prop} {t p b m sm rb : Nat} {s : St} {q : Pg} {Dn S : Stt} {D : Dk} {G : Gh} {Rw : Nat → Prop} (h : TM w O t p b m sm rb s q Dn S D G Rw) {a : Nat} {P : Pl} {l : List (En 0)} (hP : G a = some P) (hnd : P.nd = none) (hlv : P.lvl = 1) (hod : OnDisk D 0 P.pg l) :
    Calls Tryz.prog 105 #[.pointer (some ⟨t, 0, none⟩), .pointer (some ⟨a, 0, none⟩)] w fun e w' => ∃ T v nd G' Rw', e = .returned (.iface T v) ∧ NdAt w' Rw' G' P.lvl nd T v ∧ NodeIs G' D 0 nd l ∧ TM w' O t p b m sm rb s { q with rd := true } Dn S D G' Rw' ∧ Grown D G G' ∧ TStep p w w' G G' Rw Rw' := by
  obtain ⟨hth, hf, hfit⟩ := h.dk.at_ _ _ _ hod.at
  have hsz := hfit.size
  have hlen := encN_length l
  have hl2 := len_size l
  have hpl := h.mem.at_ a P hP
  unfold PlOk at hpl
  rw [hnd] at hpl
  have hal := hpl.lt
  rw [hlv] at hpl
  have hna := not7 (h.own a (.inl (by rw [hP]; simp))).1
  refine (nodeAt_gen t p b m sm rb a P.pg 1 s q Dn S (encN l) h.sd h.qd hth (by omega) hf h.off hna w h.pa h.tr hpl (fun T v u => T = 137 ∧ u.ownsRow w.heap.size 55 2 v l.length (flat (kvCells l))) ?_ ?_).mono ?_
  · rintro T v u u' ⟨rfl, hO⟩ hT
    exact ⟨rfl, own_turn hO hT (fun g hg hm => by have := (hO.lt g hg).1; rw [List.mem_singleton.1 hm] at this; omega)⟩
  · intro w1 g o h1 hg hB
    have hE : encN (h := 0) l = [1] ++ lbytes l := rfl
    rw [hE] at hB ⊢
    have h1c : ((1 : Nat) : Int) = 1 := rfl
    rw [h1c]
    have e : ([1] ++ lbytes l).length = 1 + sizeN l := hlen
    obtain ⟨K, hK⟩ : ∃ K : List (ByteArray × ByteArray), K = l := ⟨l, rfl⟩
    have hD := decode_leaf (some ⟨g, o, none⟩) ([1] ++ lbytes K).length K (by rw [hK]; show List.length l ≤ 1000; omega) (by rw [hK]; exact hfit.short) w1 (by rw [hK]; exact hB) (by simp) ⟨Nat.le_refl _, by rw [hK]; omega⟩
    rw [hK] at hD
    refine hD.mono ?_
    rintro e w2 ⟨v, rfl, hO, hT⟩
    exact ⟨_, v, rfl, ⟨rfl, own_less hO h1⟩, hT⟩
  · rintro e w' ⟨T, v, rfl, ⟨rfl, hO⟩, hP', hA, hTr, hT⟩
    obtain ⟨a', c, hv, hn, hnil, hpr, hbk⟩ := own_pairs hO
    rw [← hn] at hv
    subst hv
    obtain ⟨_, ⟨e, h0⟩ | ⟨g, cap, cur, e, hb, hgg, hnc, hm, _⟩⟩ := hO
    · omega
    · injection e with e1 e2 e3
      subst e1 e3
      rw [← hlv] at hP'
      obtain ⟨G', Rw', k1, k2, k3, k4⟩ := tm_leaf h hP hnd hlv hod hb (hbk _ rfl).2 hpr.kvs ⟨hnc, by unfold maxLen at hm; omega⟩ hP' hA hTr hT
      exact ⟨_, _, .inl l, G', Rw', rfl, k1, rfl, k2, k3, k4⟩

set_option maxRecDepth 100000 in
/-- A branch that was not read. -/
theorem tm_node_branch {w : World} {O : Nat → Prop} {t p b m sm rb : Nat} {s : St} {q : Pg} {Dn S : Stt} {D : Dk} {G : Gh} {Rw : Nat → Prop} (h : TM w O t p b m sm rb s q Dn S D G Rw) {a hh : Nat} {P : Pl} {l : List (En (hh + 1))} (hP : G a = some P) (hnd : P.nd = none) (hlv : P.lvl = hh + 1 + 1) (hod : OnDisk D (hh + 1) P.pg l) :
    Calls Tryz.prog 105 #[.pointer (some ⟨t, 0, none⟩), .pointer (some ⟨a, 0, none⟩)] w fun e w' => ∃ T v nd G' Rw', e = .returned (.iface T v) ∧ NdAt w' Rw' G' P.lvl nd T v ∧ NodeIs G' D (hh + 1) nd l ∧ TM w' O t p b m sm rb s { q with rd := true } Dn S D G' Rw' ∧ Grown D G G' ∧ TStep p w w' G G' Rw Rw' := by
  obtain ⟨hth, hf, hfit⟩ := h.dk.at_ _ _ _ hod.at
  have hsz := hfit.size
  have hh2 : hh ≤ 200 := hfit.1
  have hlen := encN_length l
  have hl2 := len_size l
  have hpl := h.mem.at_ a P hP
  unfold PlOk at hpl
  rw [hnd] at hpl
  have hal := hpl.lt
  rw [hlv] at hpl
  have hna := not7 (h.own a (.inl (by rw [hP]; simp))).1
  refine (nodeAt_gen t p b m sm rb a P.pg (hh + 1 + 1) s q Dn S (encN l) h.sd h.qd hth (by omega) hf h.off hna w h.pa h.tr hpl (fun T v u => T = 170 ∧ ∃ ks, NewKids u w.heap.size (hh + 1) v ks (l.map lowPg)) ?_ ?_).mono ?_
  · rintro T v u u' ⟨rfl, ks, hO⟩ hT
    exact ⟨rfl, ks, hO.turn hT (by simp; exact hal)⟩
  · intro w1 g o h1 hg hB
    have e : ([hh + 1 + 1] ++ bbytes (l.map lowPg)).length = 1 + sizeN l := hlen
    refine (decode_branch (some ⟨g, o, none⟩) ([hh + 1 + 1] ++ bbytes (l.map lowPg)).length (hh + 1) (l.map lowPg) ⟨by omega, by omega⟩ (by rw [List.length_map]; omega) hfit.shortB w1 hB (by simp) ⟨Nat.le_refl _, by omega⟩).mono ?_
    rintro e w2 ⟨v, ks, rfl, hO, hT⟩
    exact ⟨_, v, rfl, ⟨rfl, ks, hO.base h1⟩, hT⟩
  · rintro e w' ⟨T, v, rfl, ⟨rfl, ks, hNK⟩, hP', hA, hTr, hT⟩
    have hlk := hNK.len
    rw [List.length_map] at hlk
    have hO := hNK.own
    obtain ⟨a', c, hv, hn, hnil, hpr, hbk⟩ := own_pairs hO
    rw [kidCells_length] at hv
    subst hv
    obtain ⟨_, ⟨e, h0⟩ | ⟨g, cap, cur, e, hb, hgg, hnc, hm, _⟩⟩ := hO
    · omega
    · injection e with e1 e2 e3
      subst e1 e3
      rw [← hlv] at hP'
      obtain ⟨G', Rw', k1, k2, k3, k4, k5⟩ := tm_branch h hP hnd hlv hod (hbk _ rfl).2 hNK hb hpr.kids ⟨hnc, by unfold maxLen at hm; omega⟩ hP' hA hTr hT
      exact ⟨_, _, .inr ks, G', Rw', rfl, k1, k2, k3, k4, k5⟩

/-- nodeAt of any place that comes to entries. -/
theorem tm_node {w : World} {O : Nat → Prop} {t p b m sm rb : Nat} {s : St} {q : Pg} {Dn S : Stt} {D : Dk} {G : Gh} {Rw : Nat → Prop} (h : TM w O t p b m sm rb s q Dn S D G Rw) {a hh : Nat} {l : List (En hh)} (hm : Means G D hh a l) :
    Calls Tryz.prog 105 #[.pointer (some ⟨t, 0, none⟩), .pointer (some ⟨a, 0, none⟩)] w fun e w' => ∃ T v nd G' Rw' r, e = .returned (.iface T v) ∧ NdAt w' Rw' G' (hh + 1) nd T v ∧ NodeIs G' D hh nd l ∧ TM w' O t p b m sm rb s { q with rd := r } Dn S D G' Rw' ∧ Grown D G G' ∧ TStep p w w' G G' Rw Rw' := by
  obtain ⟨P, hP, hlv, hod, hpg, hnode⟩ := hm.out
  cases hnd : P.nd with
  | some nd =>
    refine (tm_node_some h hP hnd).mono ?_
    rintro e w' ⟨T, v, rfl, hN, hTM, hS⟩
    rw [hlv] at hN
    exact ⟨T, v, nd, G, Rw, q.rd, rfl, hN, hnode nd hnd, hTM, Grown.refl _ _, hS⟩
  | none =>
    cases hh with
    | zero =>
      refine (tm_node_leaf h hP hnd hlv (hod (hpg hnd))).mono ?_
      rintro e w' ⟨T, v, nd, G', Rw', rfl, hN, k⟩
      rw [hlv] at hN
      exact ⟨T, v, nd, G', Rw', true, rfl, hN, k⟩
    | succ hh =>
      refine (tm_node_branch h hP hnd hlv (hod (hpg hnd))).mono ?_
      rintro e w' ⟨T, v, nd, G', Rw', rfl, hN, k⟩
      rw [hlv] at hN
      exact ⟨T, v, nd, G', Rw', true, rfl, hN, k⟩

end Go.Proofs.YthgpjkcgccdldaaGreatDoor

namespace Go.Proofs.YthgpjkcgccdldaaGreatDoor
open Go.RowKit Go.Maps

/-- A node on a key's way. -/
structure Sub (key : ByteArray) {h : Nat} (l : List (En h)) : Prop where
  ex : ∃ lo hi, Starts lo l ∧ OrdN hi l ∧ ¬ klt key lo ∧ Below? key hi
  full : ∀ e ∈ l, FullE e
  size : sizeN l ≤ 495
  some : 1 ≤ h → 1 ≤ l.length

theorem ord_rises {h : Nat} {hi : Option ByteArray} : {l : List (En h)} → OrdN hi l → (l.map En.key).Pairwise klt
  | [], _ => List.Pairwise.nil
  | e :: l, ho => List.pairwise_cons.2 ⟨fun x hx => by
      obtain ⟨y, hy, rfl⟩ := List.mem_map.1 hx
      exact (Ord.first ho).2 y hy, ord_rises ho.2.2⟩

theorem both_lows {h : Nat} {G : Gh} {M : Nat → List (En h) → Prop} {ks : List (ByteArray × Nat)} {l : List (En (h + 1))} (hb : Both (KidIs G M) ks l) : lowsOf ks = l.map En.key := by
  refine List.ext_getElem (by rw [lowsOf_length, List.length_map, hb.length]) fun i h1 h2 => ?_
  rw [lowsOf_length] at h1
  rw [List.length_map] at h2
  rw [lowsOf_get h1, List.getElem_map]
  exact (hb.get i h1 h2).1

theorem spot_of {h : Nat} {lo key : ByteArray} {hi : Option ByteArray} {ks : List (ByteArray × Nat)} {l : List (En (h + 1))} (hl : lowsOf ks = l.map En.key) (hs : Starts lo l) (hlo : ¬ klt key lo) (hhi : Below? key hi) {i : Nat} (hk : IsKid ks key i) (hi' : i < l.length) : Spot hi l (l.take i) l[i] (l.drop (i + 1)) key := by
  obtain ⟨h1, h2, h3⟩ := hk
  have hlen : ks.length = l.length := by
    have := congrArg List.length hl
    simpa [lowsOf] using this
  have hget : ∀ m (h : m < ks.length) (h' : m < l.length), ks[m].1 = l[m].key := fun m h h' => by
    have e : (lowsOf ks)[m]'(by rw [lowsOf_length]; exact h) = (l.map En.key)[m]'(by rw [List.length_map]; exact h') := by simp only [hl]
    rw [lowsOf_get h, List.getElem_map] at e
    exact e
  refine ⟨by rw [← List.drop_eq_getElem_cons hi', List.take_append_drop], ?_, ?_⟩
  · rcases h2 h1 with rfl | h2
    · have : l[0].key = lo := hs l[0] (by rw [List.head?_eq_getElem?, List.getElem?_eq_getElem hi'])
      rw [this]
      exact hlo
    · rw [← hget i h1 hi']
      exact h2
  · by_cases hm : i + 1 < l.length
    · rw [List.drop_eq_getElem_cons hm]
      intro x hx
      injection hx with hx
      subst hx
      rw [← hget (i + 1) (by omega) hm]
      exact h3 (i + 1) (by omega) (by omega)
    · rw [List.drop_of_length_le (by omega)]
      exact hhi

/-- One step down. -/
theorem Sub.down {h : Nat} {key : ByteArray} {G : Gh} {M : Nat → List (En h) → Prop} {ks : List (ByteArray × Nat)} {l : List (En (h + 1))} (hs : Sub key l) (hb : Both (KidIs G M) ks l) {i : Nat} (hk : IsKid ks key i) (hi : i < l.length) : Sub key (kidsOf l[i]) ∧ getK (flatN (kidsOf l[i])) key = getK (flatN l) key := by
  obtain ⟨lo, hi', h1, h2, h3, h4⟩ := hs.ex
  have hsp := spot_of (both_lows hb) h1 h3 h4 hk hi
  obtain ⟨e1, e2, e3⟩ := hsp.sides h2
  have ho := h2
  rw [hsp.eq] at ho
  obtain ⟨g1, g2, g3⟩ := ord_at ho
  obtain ⟨f1, f2, f3, f4⟩ := full_at (hs.full l[i] (List.getElem_mem hi))
  refine ⟨⟨⟨_, _, g2, g3, hsp.le, hsp.lt⟩, f4, f3, fun _ => Nat.le_trans (min_pos h) f2⟩, ?_⟩
  rw [e1, getK_mid e2 e3]

end Go.Proofs.YthgpjkcgccdldaaGreatDoor

namespace Go.Proofs.YthgpjkcgccdldaaGreatDoor
open Go.RowKit Go.Maps

/-- The level that a place's block tells. -/
def lvlOf (w : World) : Value → Nat
  | .pointer (some ad) => match w.cell? ⟨ad.block, 1, none⟩ with
    | some (.int _ n) => n.toNat
    | _ => 0
  | _ => 0
theorem TM.lvl {w : World} {O : Nat → Prop} {t p b m sm rb : Nat} {s : St} {q : Pg} {Dn S : Stt} {D : Dk} {G : Gh} {Rw : Nat → Prop} (h : TM w O t p b m sm rb s q Dn S D G Rw) {hh a : Nat} {l : List (En hh)} (hm : Means G D hh a l) : lvlOf w (.pointer (some ⟨a, 0, none⟩)) = hh + 1 := by
  obtain ⟨P, hP, hlv, _⟩ := hm.out
  have hc : w.cell? ⟨a, 1, none⟩ = some (.int .i64 (P.lvl : Nat)) := by
    have := h.mem.at_ a P hP
    unfold PlOk at this
    split at this
    · exact this.c1
    · obtain ⟨_, _, _, _, hp, _⟩ := this
      exact hp.c1
  unfold lvlOf
  simp only [hc]
  rw [hlv]
  rfl

/-- Others' blocks turn, or none. -/
theorem TM.other {X : List Nat} {w w' : World} {O : Nat → Prop} {t p b m sm rb : Nat} {s : St} {q : Pg} {Dn S : Stt} {D : Dk} {G : Gh} {Rw : Nat → Prop} (h : TM w O t p b m sm rb s q Dn S D G Rw) (hT : Turn X w w') (hX : ∀ x ∈ X, x ∉ [1, t, p, b, m, sm, rb] ∧ G x = none ∧ ¬ Rw x) : TM w' O t p b m sm rb s q Dn S D G Rw := by
  have hn : ∀ x ∈ [1, t, p, b, m, sm, rb], x ∉ X := fun x hx hm => (hX x hm).1 hx
  exact ⟨h.pa.turn hT (hn 1 (by simp)) (hn p (by simp)) (hn b (by simp)) (hn m (by simp)) (hn sm (by simp)) (hn rb (by simp)), h.tr.turn hT (hn t (by simp)), h.off, Nat.lt_of_lt_of_le h.rbl hT.size, h.sd, h.qd, h.mem.turn hT (fun x hx => (hX x hx).2), h.dk, h.own, h.no, fun x hx => Nat.lt_of_lt_of_le (h.ob x hx) hT.size⟩
theorem TM.quiet {w w' : World} {O : Nat → Prop} {t p b m sm rb : Nat} {s : St} {q : Pg} {Dn S : Stt} {D : Dk} {G : Gh} {Rw : Nat → Prop} (h : TM w O t p b m sm rb s q Dn S D G Rw) (hT : Turn [] w w') : TM w' O t p b m sm rb s q Dn S D G Rw := h.other hT (by simp)
theorem TStep.quiet {p : Nat} {u w w' : World} {G G' : Gh} {Rw Rw' : Nat → Prop} (h : TStep p u w G G' Rw Rw') (hT : Turn [] w w') : TStep p u w' G G' Rw Rw' :=
  h.trans ⟨⟨[], hT, by simp⟩, fun _ h => .inl h, fun _ h => .inl h, fun _ h => h⟩

/-- A leaf's pairs, found on the way of a key. -/
structure LeafFor (w : World) (key : ByteArray) (want : Option ByteArray) (v : Value) (L : List (ByteArray × ByteArray)) : Prop where
  ex : ∃ b off c, v = .slice (some ⟨b, off, none⟩) L.length c ∧ KVsAt w (some ⟨b, off, none⟩) L ∧ (L.length ≤ c ∧ c ≤ 9223372036854775807)
  rises : Rises (keysOf L)
  len : L.length ≤ 300
  get : getK L key = want

set_option maxRecDepth 100000 in
set_option maxHeartbeats 3200000 in
theorem tm_leafOf {w : World} {O : Nat → Prop} {t p b m sm rb : Nat} {s : St} {q : Pg} {Dn S : Stt} {D : Dk} {G : Gh} {Rw : Nat → Prop} (h : TM w O t p b m sm rb s q Dn S D G Rw) (key : ByteArray) {hh a : Nat} {l : List (En hh)} (hr : S.root = some a) (hm : Means G D hh a l) (hs : Sub key l) :
    Calls Tryz.prog 81 #[.pointer (some ⟨t, 0, none⟩), .string key] w fun e w' => ∃ v L G' Rw' r, e = .returned v ∧ LeafFor w' key (getK (flatN l) key) v L ∧ TM w' O t p b m sm rb s { q with rd := r } Dn S D G' Rw' ∧ Grown D G G' ∧ TStep p w w' G G' Rw Rw' := by
  have h6 : w.cell? ⟨t, 6, none⟩ = some (.pointer (some ⟨a, 0, none⟩)) := by have := h.tr.now.c0; rw [hr] at this; exact this
  have hta := ta_ll
  have htb := ta_lb
  have htc := ta_bb
  have htd := ta_bl
  obtain ⟨want, hw⟩ : ∃ x, x = getK (flatN l) key := ⟨_, rfl⟩
  rw [← hw]
  have H0 : Hid (TM w O t p b m sm rb s { q with rd := q.rd } Dn S D G Rw ∧ Means G D hh a l ∧ Sub key l ∧ getK (flatN l) key = want ∧ Grown D G G ∧ TStep p w w G G Rw Rw) := ⟨h, hm, hs, hw.symm, Grown.refl _ _, TStep.refl _ _ _ _⟩
  clear h hm hs hw hr
  go_enter Tryz.func81, Tryz.ntmps81
  go_wp2_with fail
  go_loopw [5] (fun x wr => ∃ (k a' : Nat) (l' : List (En k)) (G' : Gh) (Rw' : Nat → Prop) (r : Bool), x = .pointer (some ⟨a', 0, none⟩) ∧ Hid (TM wr O t p b m sm rb s { q with rd := r } Dn S D G' Rw' ∧ Means G' D k a' l' ∧ Sub key l' ∧ getK (flatN l') key = want ∧ Grown D G G' ∧ TStep p w wr G G' Rw Rw')) (fun x wr => lvlOf wr x)
  case atStart => exact ⟨hh, a, l, G, Rw, q.rd, rfl, H0⟩
  case round =>
    obtain ⟨k, a', l', G', Rw', r, rfl, H⟩ := hrel
    clear H0
    have hlv := H.out.1.lvl H.out.2.1
    have HN := hide (tm_node H.out.1 H.out.2.1)
    go_wp2_with fail
    refine HN.out.mono ?_
    rintro e w2 ⟨T, v, nd, G2, Rw2, r2, rfl, hN, hNode, hTM, hGr, hS⟩
    have HTM := hide hTM
    have HGr := hide (H.out.2.2.2.2.1.trans hGr)
    have HS := hide (H.out.2.2.2.2.2.trans hS)
    clear hTM hGr hS HN
    cases k with
    | zero =>
      obtain rfl : nd = .inl l' := hNode
      obtain ⟨_, rfl, bb, off, c, rfl, hK, hc, _⟩ := hN
      have HK := hide hK
      have hc1 := hc.1
      have hc2 := hc.2
      clear hK hc hlv
      go_wp2_with fail
      go_ret
      obtain ⟨_, _, hsub, hget, _⟩ := H.out
      obtain ⟨_, _, _, ho, _⟩ := hsub.ex
      have h1 := hsub.size
      have h2 := len_size l'
      rw [flatN_zero] at hget
      exact ⟨_, l', G2, Rw2, r2, rfl, ⟨⟨bb, off, c, rfl, HK.out, hc1, hc2⟩, ord_rises ho, (show List.length (α := En 0) l' ≤ 300 by omega), hget⟩, HTM.out, HGr.out, HS.out⟩
    | succ k =>
      obtain ⟨ks, rfl, hb⟩ := hNode
      obtain ⟨_, rfl, bb, off, c, rfl, hK, hc, _, hkl⟩ := hN
      have HB := hide hb
      have hlen := hb.length
      have hsub := H.out.2.2.1
      obtain ⟨_, _, _, ho, _⟩ := hsub.ex
      have h1 := hsub.size
      have h2 := len_size l'
      have h3 := hsub.some (by omega)
      have HF := hide (bfind_any (some ⟨bb, off, none⟩) c ks key (by rw [both_lows hb]; exact ord_rises ho) (by omega) (by omega) w2 hK)
      have HK := hide hK
      have hkn : ks.length ≤ 300 := by omega
      clear hK hc hb hsub ho h1 h2 h3 hkl
      have HLen := hide hlen
      clear hlen
      go_wp2_with fail
      refine HF.out.mono ?_
      rintro e w3 ⟨i, rfl, hi, hT3⟩
      have hik := hi.1
      obtain ⟨b', off', e', _, hc1⟩ := (HK.out.turn0 hT3).at hik
      injection e' with e'
      injection e' with e1 e2
      subst e1 e2
      have HI := hide hi
      have HT3 := hide hT3
      clear hi hT3 HF
      generalize hkk : ks[i] = kk at *
      have HKK := hide hkk
      clear hkk
      go_wp2_with fail
      obtain ⟨_, _, hsub, hget, _⟩ := H.out
      have hil : i < l'.length := by rw [← HLen.out]; exact hik
      obtain ⟨hd1, hd2⟩ := hsub.down HB.out HI.out hil
      have hkid := HB.out.get i hik hil
      rw [HKK.out] at hkid
      have hTM3 := HTM.out.quiet HT3.out
      have hlv3 := hTM3.lvl hkid.2.2
      refine ⟨⟨k, kk.2, kidsOf l'[i], G2, Rw2, r2, rfl, hTM3, hkid.2.2, hd1, hd2.trans hget, HGr.out, HS.out.quiet HT3.out⟩, ?_⟩
      rw [hlv, hlv3]
      omega

end Go.Proofs.YthgpjkcgccdldaaGreatDoor

namespace Go.Proofs.YthgpjkcgccdldaaGreatDoor
open Go.RowKit Go.Maps

/-- The bytes of any node. -/
theorem enc_node {w : World} {Rw : Nat → Prop} {G : Gh} {D : Dk} (hM : Mem w Rw G) {hh : Nat} {nd : Nd} {T : TypeId} {v : Value} {l : List (En hh)} (hN : NdAt w Rw G (hh + 1) nd T v) (hI : NodeIs G D hh nd l) (hF : PageFit l) :
    Calls Tryz.prog 136 #[.iface T v, .int .i64 ((hh + 1 : Nat) : Int)] w fun e w' => ∃ u, e = .returned u ∧ OwnB w' w.heap.size u (encN l) ∧ Turn [] w w' := by
  have hsz := hF.size
  have hl2 := len_size l
  cases hh with
  | zero =>
    obtain rfl : nd = .inl l := hI
    obtain ⟨_, rfl, b, off, c, rfl, hK, hc, _⟩ := hN
    obtain ⟨K, hKl⟩ : ∃ K : List (ByteArray × ByteArray), K = l := ⟨l, rfl⟩
    have h1 : lsize K = sizeN l := by rw [hKl]; exact lsize_sizeN l
    have h2 := encode_leaf b off c K 1 (by omega) (by rw [hKl]; show List.length l ≤ 1000; omega) (by rw [hKl]; exact hF.short) (by omega) w (by rw [hKl]; exact hK)
    rw [hKl] at h2
    exact h2
  | succ hh =>
    obtain ⟨ks, rfl, hb⟩ := hI
    obtain ⟨_, rfl, b, off, c, rfl, hK, hc, _⟩ := hN
    have hlen := hb.length
    have hh2 : hh ≤ 200 := hF.1
    have hel := encN_length l
    have he : encN l = [hh + 1 + 1] ++ bbytes (l.map lowPg) := rfl
    rw [he, List.length_append] at hel
    rw [he]
    refine encode_branch b off c ks (l.map lowPg) (hh + 1 + 1) (by omega) (by rw [List.length_map]; omega) (fun j h1 h2 => ?_) (by omega) hF.shortB (by simp at hel; omega) w hK (fun j h1 h2 => ?_)
    · rw [List.length_map] at h2
      rw [List.getElem_map]
      exact (hb.get j h1 h2).1
    · rw [List.length_map] at h2
      rw [List.getElem_map]
      obtain ⟨_, ⟨Q, q1, q2⟩, _⟩ := hb.get j h1 h2
      have := hM.at_ _ Q q1
      show _ = some (Value.int .i64 (pageOf l[j] : Nat))
      rw [← q2]
      unfold PlOk at this
      split at this
      · exact this.c0
      · obtain ⟨_, _, _, _, hp, _⟩ := this
        exact hp.c0

/-- What is below is on the disk. -/
def KidsOn (D : Dk) : (h : Nat) → List (En h) → Prop
  | 0, _ => True
  | h + 1, l => ∀ e ∈ l, OnDisk D h (pageOf e) (kidsOf e)
theorem KidsOn.ondisk {D : Dk} {h pg : Nat} {l : List (En h)} (hk : KidsOn D h l) (h0 : pg ≠ 0) (hD : D pg = some ⟨h, l⟩) : OnDisk D h pg l := by
  cases h with
  | zero => exact ⟨h0, hD⟩
  | succ h => exact ⟨h0, hD, hk⟩
theorem KidsOn.more {D D' : Dk} (hD : ∀ n x, D n = some x → D' n = some x) {h : Nat} {l : List (En h)} (hk : KidsOn D h l) : KidsOn D' h l := by
  cases h with
  | zero => trivial
  | succ h => exact fun e he => (hk e he).more hD

theorem tm_lay {w1 w3 : World} {O : Nat → Prop} {t p b m sm rb : Nat} {s : St} {q : Pg} {Dn S : Stt} {D : Dk} {G : Gh} {Rw : Nat → Prop} (h : TM w1 O t p b m sm rb s q Dn S D G Rw) {a hh : Nat} {P : Pl} {nd : Nd} {l : List (En hh)} (hP : G a = some P) (hn : P.nd = some nd) (hlv : P.lvl = hh + 1) (hI : NodeIs G D hh nd l) (hF : PageFit l) (hK : KidsOn D hh l) {k : Nat} (hNx : q.Next s.n k) (hA : PAt w3 p b m sm rb (s.did k (bytesOf 512 (pageB (encN l)))) (q.alloced k)) (hT : Turn [p, b, m, sm] w1 w3) :
    ∃ D' : Dk, (∀ n x, D n = some x → D' n = some x) ∧ OnDisk D' hh k l ∧ Means (G.add a { P with pg := k }) D' hh a l ∧ TM (w3.setCell ⟨a, 0, none⟩ (.int .i64 (k : Nat))) O t p b m sm rb (s.did k (bytesOf 512 (pageB (encN l)))) (q.alloced k) Dn S D' (G.add a { P with pg := k }) Rw ∧ Wrt G (G.add a { P with pg := k }) (fun x => x = a) ∧ Turn [a, p, b, m, sm] w1 (w3.setCell ⟨a, 0, none⟩ (.int .i64 (k : Nat))) := by
  have hAls := (Als.one hNx).is
  obtain ⟨r1, r2, r3, r4⟩ := hNx.range
  have r0 := fp2 s.n
  obtain ⟨th1, th2⟩ := hAls.there_new (List.mem_singleton.2 rfl)
  have hDk : D k = none := by
    cases hd : D k with
    | none => rfl
    | some x =>
      obtain ⟨h', l'⟩ := x
      obtain ⟨n, e, _, _, ht⟩ := Pg.there_range (h.dk.at_ _ _ _ hd).1
      obtain rfl : k = n := by omega
      rw [th2] at ht
      cases ht
  obtain ⟨D', hD'⟩ : ∃ D' : Dk, D' = fun n => if n = k then some ⟨hh, l⟩ else D n := ⟨_, rfl⟩
  have hDk' : D' k = some ⟨hh, l⟩ := by rw [hD']; exact if_pos rfl
  have hDo : ∀ n, n ≠ k → D' n = D n := fun n hn => by rw [hD']; exact if_neg hn
  have hDm : ∀ n x, D n = some x → D' n = some x := fun n x hx => by
    rw [hDo n (fun e => by rw [e, hDk] at hx; cases hx)]
    exact hx
  have hod : OnDisk D' hh k l := (hK.more hDm).ondisk (by omega) hDk'
  have hna := not7 (h.own a (.inl (by rw [hP]; simp))).1
  have hal := h.mem.lt (a := a) (by rw [hP]; simp)
  have hal3 : a < w3.heap.size := Nat.lt_of_lt_of_le hal hT.size
  have hTs : Turn [a] w3 (w3.setCell ⟨a, 0, none⟩ (.int .i64 (k : Nat))) := (Turn.refl [a] w3).setCell (List.mem_singleton.2 rfl) 0 _
  have hTT : Turn [a, p, b, m, sm] w1 (w3.setCell ⟨a, 0, none⟩ (.int .i64 (k : Nat))) := (hT.mono (by simp)).trans (hTs.mono (by simp))
  have hW : Wrt G (G.add a { P with pg := k }) (fun x => x = a) := by
    refine ⟨fun x hx => ?_, fun x Q hQ => ?_, fun x hx => Gh.add_other _ _ hx⟩
    · rw [Gh.add_other _ _ (fun e => by rw [e, hP] at hx; cases hx)]
      exact hx
    · by_cases e : x = a
      · subst e
        obtain rfl : P = Q := by rw [hP] at hQ; exact Option.some.inj hQ
        exact ⟨k, Gh.add_same _ _ _⟩
      · exact ⟨Q.pg, (Gh.add_other _ _ e).trans hQ⟩
  have hme : Means (G.add a { P with pg := k }) D' hh a l := by
    refine Means.of { P with pg := k } (Gh.add_same _ _ _) hlv (fun _ => hod) (fun _ => (by show k ≠ 0; omega)) fun nd' hnd' => ?_
    obtain rfl : nd = nd' := by rw [show ({ P with pg := k } : Pl).nd = P.nd from rfl, hn] at hnd'; exact Option.some.inj hnd'
    cases hh with
    | zero => exact hI
    | succ hh =>
      obtain ⟨ks, rfl, hb⟩ := hI
      refine ⟨ks, rfl, hb.mono fun kk hkk x _ hx => ?_⟩
      obtain ⟨k1, ⟨Q, k2, k3⟩, k4⟩ := hx
      have hu : ∀ y, Und G hh kk.2 y → (G.add a { P with pg := k }) y = G y := fun y hy => by
        obtain ⟨Q', g1, g2⟩ := Und.lvl k4 hy
        refine Gh.add_other _ _ fun e => ?_
        rw [e, hP] at g1
        obtain rfl := Option.some.inj g1
        omega
      exact ⟨k1, ⟨Q, (hu _ (Und.self _ _ _)).trans k2, k3⟩, k4.frame hDm hu⟩
  have hrow : ∀ y, Rw y → (w3.setCell ⟨a, 0, none⟩ (.int .i64 (k : Nat))).heap[y]? = w1.heap[y]? := fun y hy => hTT.block y (h.mem.rows y hy) (by
    have := not7 (h.own y (.inr hy)).1
    have h2 : y ≠ a := fun e => by
      rw [e] at hy
      rw [h.mem.apart _ hy] at hP
      cases hP
    simp
    exact ⟨h2, this.2.1, this.2.2.1, this.2.2.2.1, this.2.2.2.2.1⟩)
  have hGl : ∀ x Q, G x = some Q → ∃ Q', (G.add a { P with pg := k }) x = some Q' ∧ Q'.lvl = Q.lvl := fun x Q hQ => by
    obtain ⟨n, hx⟩ := hW.some_ x Q hQ
    exact ⟨_, hx, rfl⟩
  refine ⟨D', hDm, hod, hme, ⟨hA.turn hTs (by simp; exact hna.1.symm) (by simp; exact hna.2.1.symm) (by simp; exact hna.2.2.1.symm) (by simp; exact hna.2.2.2.1.symm) (by simp; exact hna.2.2.2.2.1.symm) (by simp; exact hna.2.2.2.2.2.1.symm), (h.tr.turn hT (by simp; exact ⟨h.off.p, h.off.b, h.off.m, h.off.sm⟩)).turn hTs (by simp; exact hna.2.2.2.2.2.2.symm), h.off, Nat.lt_of_lt_of_le h.rbl hTT.size, h.sd, h.qd, ⟨fun x Q hQ => ?_, fun y hy => ?_, fun y hy => Nat.lt_of_lt_of_le (h.mem.rows y hy) hTT.size⟩, ⟨fun pg h' l' hD => ?_⟩, fun x hx => h.own x (hx.imp (fun h1 h2 => h1 (hW.none_ x h2)) id), h.no, fun x hx => Nat.lt_of_lt_of_le (h.ob x hx) hTT.size⟩, hW, hTT⟩
  · by_cases e : x = a
    · subst e
      rw [Gh.add_same] at hQ
      obtain rfl := Option.some.inj hQ
      have hpl := h.mem.at_ x P hP
      unfold PlOk at hpl
      rw [hn] at hpl
      obtain ⟨d, T, v, hd, hp, hN⟩ := hpl
      have hpp := (hp.turn hT (by simp; exact ⟨hna.2.1, hna.2.2.1, hna.2.2.2.1, hna.2.2.2.2.1⟩)).setPage k
      have hkp := hN.keep hrow (fun _ h => h) hGl
      unfold PlOk
      split
      · rename_i e
        have e' : P.nd = none := e
        rw [hn] at e'
        cases e'
      · rename_i nd' e
        have e' : P.nd = some nd' := e
        rw [hn] at e'
        obtain rfl := Option.some.inj e'
        exact ⟨d, T, v, hd, hpp, hkp⟩
    · rw [Gh.add_other _ _ e] at hQ
      have hx := h.mem.at_ x Q hQ
      have := not7 (h.own x (.inl (by rw [hQ]; simp))).1
      exact hx.keep (hTT.block x hx.lt (by simp; exact ⟨e, this.2.1, this.2.2.1, this.2.2.2.1, this.2.2.2.2.1⟩)) hrow (fun _ h => h) hGl
  · exact hW.none_ y (h.mem.apart y hy)
  · by_cases e : pg = k
    · subst e
      rw [hDk'] at hD
      obtain ⟨rfl, hl⟩ : hh = h' ∧ HEq l l' := by
        injection hD with hD
        injection hD with e1 e2
        exact ⟨e1, e2⟩
      obtain rfl := eq_of_heq hl
      refine ⟨?_, St.did_f_same _ _ _, hF⟩
      show (q.alloced pg).thereI s.n (pg : Nat) = true
      unfold Pg.thereI
      rw [Int.toNat_natCast, th1]
      simp
      omega
    · rw [hDo pg e] at hD
      obtain ⟨g1, g2, g3⟩ := h.dk.at_ pg h' l' hD
      exact ⟨hAls.thereI g1, (St.did_f _ _ _ _ e).trans g2, g3⟩

end Go.Proofs.YthgpjkcgccdldaaGreatDoor

namespace Go.Proofs.YthgpjkcgccdldaaGreatDoor
open Go.RowKit Go.Maps

/-- What is asked ahead of a write. -/
structure WIn (s : St) (q : Pg) {h : Nat} (l : List (En h)) (pg : Nat) : Prop where
  full : ∀ e ∈ l, FullE e
  some : 0 < l.length
  size : sizeN l ≤ 495
  rises : ((flatN l).map Prod.fst).Pairwise klt
  hh : h ≤ 200
  room : (pagesAt pg l).count 0 ≤ q.left s.n
  u : q.u + (pagesAt pg l).count 0 ≤ 900000
  k : s.k + (pagesAt pg l).count 0 ≤ 900000
  left : s.left < 0

/-- What write leaves of a place. -/
structure WOut (w w' : World) (O : Nat → Prop) (t p b m sm rb : Nat) (s : St) (q : Pg) (Dn S : Stt) (D : Dk) (G : Gh) (Rw : Nat → Prop) (h a : Nat) (l : List (En h)) (pg : Nat) : Prop where
  ex : ∃ (l' : List (En h)) (pg' : Nat) (ns : List Nat) (s' : St) (q' : Pg) (D' : Dk) (G' : Gh), LikeN l l' ∧ Means G' D' h a l' ∧ (∃ P', G' a = some P' ∧ P'.pg = pg') ∧ OnDisk D' h pg' l' ∧ Wrt G G' (fun x => Und G h a x) ∧ (∀ n x, D n = some x → D' n = some x) ∧ (pagesAt pg' l').Perm ((pagesAt pg l).filter (fun x => decide (x ≠ 0)) ++ ns) ∧ ns.length = (pagesAt pg l).count 0 ∧ Als s.n q ns q' ∧ s'.k = s.k + ns.length ∧ s'.n = s.n ∧ s'.left < 0 ∧ TM w' O t p b m sm rb s' q' Dn S D' G' Rw ∧ ∃ X, Turn X w w' ∧ ∀ x ∈ X, x = p ∨ x = b ∨ x = m ∨ x = sm ∨ G x ≠ none

/-- A place that has its page already. -/
theorem wout_laid {w : World} {O : Nat → Prop} {t p b m sm rb : Nat} {s : St} {q : Pg} {Dn S : Stt} {D : Dk} {G : Gh} {Rw : Nat → Prop} (h : TM w O t p b m sm rb s q Dn S D G Rw) {hh a : Nat} {l : List (En hh)} {P : Pl} (hm : Means G D hh a l) (hP : G a = some P) (h0 : P.pg ≠ 0) (hl : s.left < 0) : WOut w w O t p b m sm rb s q Dn S D G Rw hh a l P.pg := by
  obtain ⟨P', h1, _, h3, _⟩ := hm.out
  obtain rfl : P = P' := by rw [hP] at h1; exact Option.some.inj h1
  obtain ⟨c1, c2⟩ := ondisk_count (h3 h0)
  exact ⟨l, P.pg, [], s, q, D, G, LikeN.refl l, hm, ⟨P, hP, rfl⟩, h3 h0, Wrt.refl _ _, fun _ _ h => h, by rw [c2, List.append_nil], by rw [c1]; rfl, rfl, rfl, rfl, hl, h, [], Turn.refl _ _, by simp⟩

/-- The kids of a branch, the first i of them written. -/
structure WRow (w w' : World) (O : Nat → Prop) (t p b m sm rb : Nat) (s : St) (q : Pg) (Dn S : Stt) (D : Dk) (G : Gh) (Rw : Nat → Prop) (h : Nat) (ks : List (ByteArray × Nat)) (l : List (En (h + 1))) (i : Nat) (done : List (En (h + 1))) (ns : List Nat) (s' : St) (q' : Pg) (D' : Dk) (G' : Gh) : Prop where
  len : done.length = i
  like : LikeN (l.take i) done
  both : Both (KidIs G' (Means G' D' h)) ks (done ++ l.drop i)
  disk : ∀ e ∈ done, OnDisk D' h (pageOf e) (kidsOf e)
  wrt : Wrt G G' (fun x => ∃ k ∈ ks, Und G h k.2 x)
  more : ∀ n x, D n = some x → D' n = some x
  pages : (pagesN done).Perm ((pagesN (l.take i)).filter (fun x => decide (x ≠ 0)) ++ ns)
  cnt : ns.length = (pagesN (l.take i)).count 0
  als : Als s.n q ns q'
  k : s'.k = s.k + ns.length
  n : s'.n = s.n
  left : s'.left < 0
  tm : TM w' O t p b m sm rb s' q' Dn S D' G' Rw
  turn : ∃ X, Turn X w w' ∧ ∀ x ∈ X, x = p ∨ x = b ∨ x = m ∨ x = sm ∨ G x ≠ none

theorem wrow_start {w : World} {O : Nat → Prop} {t p b m sm rb : Nat} {s : St} {q : Pg} {Dn S : Stt} {D : Dk} {G : Gh} {Rw : Nat → Prop} (h : TM w O t p b m sm rb s q Dn S D G Rw) {hh : Nat} {ks : List (ByteArray × Nat)} {l : List (En (hh + 1))} (hb : Both (KidIs G (Means G D hh)) ks l) (hl : s.left < 0) : WRow w w O t p b m sm rb s q Dn S D G Rw hh ks l 0 [] [] s q D G :=
  ⟨rfl, trivial, by simpa using hb, by simp, Wrt.refl _ _, fun _ _ h => h, by simp [pagesN], by simp [pagesN], rfl, rfl, rfl, hl, h, [], Turn.refl _ _, by simp⟩

theorem set_mid {α : Type} {a l : List α} {i : Nat} (ha : a.length = i) (hi : i < l.length) (e : α) : (a ++ l.drop i).set i e = a ++ [e] ++ l.drop (i + 1) := by
  subst ha
  rw [List.set_append_right _ _ (Nat.le_refl _), Nat.sub_self, List.drop_eq_getElem_cons hi, List.set_cons_zero, List.append_assoc]
  rfl

set_option maxRecDepth 100000 in
/-- What is asked of the next kid. -/
theorem WRow.win {w w' : World} {O : Nat → Prop} {t p b m sm rb : Nat} {s : St} {q : Pg} {Dn S : Stt} {D : Dk} {G : Gh} {Rw : Nat → Prop} {h : Nat} {ks : List (ByteArray × Nat)} {l : List (En (h + 1))} {i : Nat} {done : List (En (h + 1))} {ns : List Nat} {s' : St} {q' : Pg} {D' : Dk} {G' : Gh} (hr : WRow w w' O t p b m sm rb s q Dn S D G Rw h ks l i done ns s' q' D' G') {pg : Nat} (hw : WIn s q l pg) (hi : i < l.length) : WIn s' q' (kidsOf l[i]) (pageOf l[i]) := by
  obtain ⟨_, _, f3, f4⟩ := full_at (hw.full _ (List.getElem_mem hi))
  obtain ⟨_, f5⟩ := kid_has hw.full (List.getElem_mem hi)
  have hsplit : pagesN l = pagesN (l.take i) ++ (pagesAt (pageOf l[i]) (kidsOf l[i]) ++ pagesN (l.drop (i + 1))) := by
    conv => lhs; rw [← List.take_append_drop i l, List.drop_eq_getElem_cons hi]
    rw [pagesN_append]
    rfl
  have hc : (pagesN (l.take i)).count 0 + (pagesAt (pageOf l[i]) (kidsOf l[i])).count 0 ≤ (pagesAt pg l).count 0 := by
    show _ ≤ (pg :: pagesN l).count 0
    rw [List.count_cons, hsplit, List.count_append, List.count_append]
    omega
  have hA := hr.als.is
  have h1 := hA.left
  have h2 := hA.u
  have h3 := hr.k
  have h4 := hr.cnt
  have h5 := hw.room
  have h6 := hw.u
  have h7 := hw.k
  refine ⟨f4, f5, f3, ?_, by have := hw.hh; omega, by rw [hr.n]; omega, by omega, by omega, hr.left⟩
  have hrs := hw.rises
  rw [show l = l.take i ++ l[i] :: l.drop (i + 1) from by rw [← List.drop_eq_getElem_cons hi, List.take_append_drop], flatN_append, flatN_cons, flat_at, List.map_append, List.pairwise_append] at hrs
  have h8 := hrs.2.1
  rw [List.map_append, List.pairwise_append] at h8
  exact h8.1

/-- One kid more. -/
theorem WRow.next {w w' w'' : World} {O : Nat → Prop} {t p b m sm rb : Nat} {s : St} {q : Pg} {Dn S : Stt} {D : Dk} {G : Gh} {Rw : Nat → Prop} {h : Nat} {ks : List (ByteArray × Nat)} {l : List (En (h + 1))} {i : Nat} {done : List (En (h + 1))} {ns : List Nat} {s' : St} {q' : Pg} {D' : Dk} {G' : Gh} (hr : WRow w w' O t p b m sm rb s q Dn S D G Rw h ks l i done ns s' q' D' G') {pg : Nat} (hw : WIn s q l pg) (hi : i < l.length) (hk : i < ks.length) (ho : WOut w' w'' O t p b m sm rb s' q' Dn S D' G' Rw h ks[i].2 (kidsOf l[i]) (pageOf l[i])) : ∃ done2 ns2 s2 q2 D2 G2, WRow w w'' O t p b m sm rb s q Dn S D G Rw h ks l (i + 1) done2 ns2 s2 q2 D2 G2 := by
  obtain ⟨l', pg', ns', s2, q2, D2, G2, o1, o2, ⟨P', o3, o3'⟩, o4, o5, o6, o7, o8, o9, o10, o11, o12, o13, o14⟩ := ho.ex
  obtain ⟨e2, he2⟩ : ∃ e2 : En (h + 1), e2 = ((l[i].key, pg', l') : ByteArray × Nat × List (En h)) := ⟨_, rfl⟩
  have ek : e2.key = l[i].key := by rw [he2]; rfl
  have ep : pageOf e2 = pg' := by rw [he2]; rfl
  have ed : kidsOf e2 = l' := by rw [he2]; rfl
  have hcur := hr.both
  have hlc : LikeN l (done ++ l.drop i) := by
    have := Both.append hr.like (LikeN.refl (l.drop i))
    rwa [List.take_append_drop] at this
  have hlen := hcur.length
  have hll : l.length = (done ++ l.drop i).length := Both.length hlc
  have hrc : ((flatN (done ++ l.drop i)).map Prod.fst).Pairwise klt := by rw [← hlc.flat]; exact hw.rises
  have hfc : ∀ e ∈ done ++ l.drop i, FullE e := both_all (fun _ _ h k => LikeE.full h k) hlc hw.full
  have hset := set_mid hr.len hi e2
  have htk : l.take (i + 1) = l.take i ++ [l[i]] := List.take_succ_eq_append_getElem hi
  have hlike : LikeE (h + 1) l[i] e2 := ⟨ek.symm, by rw [ed]; exact o1⟩
  obtain ⟨X, hX, hX1⟩ := hr.turn
  obtain ⟨Y, hY, hY1⟩ := o14
  refine ⟨done ++ [e2], ns ++ ns', s2, q2, D2, G2, ⟨by rw [List.length_append, hr.len]; rfl, ?_, ?_, ?_, ?_, fun n x hx => o6 n x (hr.more n x hx), ?_, ?_, ?_, ?_, o11.trans hr.n, o12, o13, X ++ Y, (hX.mono (by intro x hx; simp [hx])).trans (hY.mono (by intro x hx; simp [hx])), fun x hx => ?_⟩⟩
  · rw [htk]
    exact Both.append hr.like ⟨hlike, trivial⟩
  · rw [← hset]
    refine Both.of_get (by rw [List.length_set, hlen]) fun j h1 h2 => ?_
    rw [List.length_set] at h2
    rw [List.getElem_set]
    by_cases hij : i = j
    · subst hij
      rw [if_pos rfl]
      refine ⟨?_, ⟨P', o3, by rw [ep]; exact o3'⟩, by rw [ed]; exact o2⟩
      rw [ek, (hcur.get i h1 h2).1, List.getElem_append_right (by rw [hr.len]; exact Nat.le_refl _)]
      simp [hr.len]
    · rw [if_neg hij]
      obtain ⟨k1, ⟨Q, k2, k3⟩, k4⟩ := hcur.get j h1 h2
      have hu : ∀ x, Und G' h ks[j].2 x → G2 x = G' x := fun x hx => o5.same x fun hx2 => by
        rcases Nat.lt_or_gt_of_ne hij with h3 | h3
        · exact kids_apart hcur hrc hfc hk h1 h3 hx2 hx
        · exact kids_apart hcur hrc hfc h1 hk h3 hx hx2
      exact ⟨k1, ⟨Q, (hu _ (Und.self _ _ _)).trans k2, k3⟩, k4.frame o6 hu⟩
  · intro e he
    rcases List.mem_append.1 he with he | he
    · exact (hr.disk e he).more o6
    · rw [List.mem_singleton.1 he, ep, ed]
      exact o4
  · exact hr.wrt.trans o5 fun x hx => ⟨ks[i], List.getElem_mem hk, hr.wrt.und hx⟩
  · have e1 : pagesN (done ++ [e2]) = pagesN done ++ pagesAt pg' l' := by
      rw [pagesN_append]
      congr 1
      rw [he2]
      show (pg' :: pagesN l') ++ [] = pg' :: pagesN l'
      rw [List.append_nil]
    have e3 : pagesN (l.take (i + 1)) = pagesN (l.take i) ++ pagesAt (pageOf l[i]) (kidsOf l[i]) := by
      rw [htk, pagesN_append]
      congr 1
      show pagesAt (pageOf l[i]) (kidsOf l[i]) ++ [] = _
      rw [List.append_nil]
    rw [e1, e3, List.filter_append]
    have p1 := hr.pages
    have p2 := o7
    rw [List.perm_iff_count] at *
    intro x
    have c1 := p1 x
    have c2 := p2 x
    simp only [List.count_append] at *
    omega
  · have e3 : pagesN (l.take (i + 1)) = pagesN (l.take i) ++ pagesAt (pageOf l[i]) (kidsOf l[i]) := by
      rw [htk, pagesN_append]
      congr 1
      show pagesAt (pageOf l[i]) (kidsOf l[i]) ++ [] = _
      rw [List.append_nil]
    rw [e3, List.length_append, List.count_append, hr.cnt, o8]
  · rw [hr.n] at o9
    exact hr.als.append o9
  · rw [o10, hr.k, List.length_append]
    omega
  · rcases List.mem_append.1 hx with hx | hx
    · exact hX1 x hx
    · rcases hY1 x hx with e | e | e | e | e
      · exact .inl e
      · exact .inr (.inl e)
      · exact .inr (.inr (.inl e))
      · exact .inr (.inr (.inr (.inl e)))
      · exact .inr (.inr (.inr (.inr (fun e2 => e (hr.wrt.none_ x e2)))))

end Go.Proofs.YthgpjkcgccdldaaGreatDoor

namespace Go.Proofs.YthgpjkcgccdldaaGreatDoor
open Go.RowKit Go.Maps

theorem pagesN_zero (l : List (En 0)) : pagesN l = [] := by
  induction l with
  | nil => rfl
  | cons e l ih => exact ih
theorem encN_lt {h : Nat} {l : List (En h)} (hF : PageFit l) : ∀ x ∈ encN l, x < 256 := by
  cases h with
  | zero => exact leafPage_lt hF.short
  | succ h =>
    intro x hx
    rcases List.mem_append.1 hx with h1 | h1
    · have := hF.1
      rw [List.mem_singleton.1 h1]
      omega
    · exact bbytes_lt hF.shortB x h1

/-- What is asked of a row that is laid into a page. -/
theorem pagefit_of {s : St} {q : Pg} {D : Dk} (hD : DkOk s q D) (hn : s.n ≤ 16384) {h : Nat} {l : List (En h)} (hf : ∀ e ∈ l, FullE e) (h0 : 0 < l.length) (hs : sizeN l ≤ 495) (hh : h ≤ 200) (hk : KidsOn D h l) : PageFit l := by
  cases h with
  | zero => exact ⟨h0, fun x hx => by
      obtain ⟨_, h2, h3⟩ := hf x hx
      exact ⟨by omega, by omega⟩, hs⟩
  | succ h => exact ⟨by omega, h0, fun e he => ⟨(hf e he).key, by have := hD.pages (hk e he); omega⟩, hs⟩

/-- Encode and Alloc of a node. -/
theorem write_enc {w1 : World} {O : Nat → Prop} {t p b m sm rb : Nat} {s : St} {q : Pg} {Dn S : Stt} {D : Dk} {G : Gh} {Rw : Nat → Prop} (h : TM w1 O t p b m sm rb s q Dn S D G Rw) {hh : Nat} {nd : Nd} {T : TypeId} {v : Value} {l : List (En hh)} (hN : NdAt w1 Rw G (hh + 1) nd T v) (hI : NodeIs G D hh nd l) (hF : PageFit l) (hroom : 0 < q.left s.n) (hu : q.u ≤ 900000) (hk : s.k ≤ 900000) (hleft : s.left < 0) {lv : Nat} (hlv : lv = hh + 1) :
    ∃ n2, Hid (Calls Tryz.prog 136 #[.iface T v, .int .i64 (lv : Nat)] w1.drew fun e w' => ∃ a2 c2, e = .returned (.slice a2 n2 c2) ∧ BytesAt w' a2 (encN l) ∧ (∀ x, a2 = some x → w1.heap.size ≤ x.block) ∧ Turn [] w1 w') ∧
      Hid (∀ (w2 : World) (a2 : Option Addr) (c2 : Nat), Turn [] w1 w2 → BytesAt w2 a2 (encN l) → (∀ x, a2 = some x → w1.heap.size ≤ x.block) → Calls Tryz.prog 135 #[.pointer (some ⟨p, 0, none⟩), .slice a2 n2 c2] w2 fun e w3 => ∃ k : Nat, e = .returned (.tuple #[.int .i64 (k : Nat), .int .i64 0]) ∧ q.Next s.n k ∧ PAt w3 p b m sm rb (s.did k (bytesOf 512 (pageB (encN l)))) (q.alloced k) ∧ Turn [p, b, m, sm] w2 w3) := by
  have hd : Turn [] w1 w1.drew := (Turn.refl [] w1).drew
  have hlen := encN_length l
  have hsz := hF.size
  have hpl := h.lts p (by simp)
  have hNd : NdAt w1.drew Rw G (hh + 1) nd T v := hN.keep (fun b hr => hd.block b (h.mem.rows b hr) (by simp)) (fun _ h => h) (fun _ Q hQ => ⟨Q, hQ, rfl⟩)
  subst hlv
  refine ⟨(encN l).length, ?_, fun w2 a2 c2 hT2 hB2 hx2 => ?_⟩
  · refine (enc_node (h.quiet hd).mem hNd hI hF).mono ?_
    rintro e w2 ⟨v2, rfl, hO2, hT2⟩
    obtain ⟨a2, c2, rfl, _, hB2, hx2⟩ := OwnB.bytes hO2
    exact ⟨a2, c2, rfl, hB2, fun x hx => (hx2 x hx).1, hd.then hT2 (by simp)⟩
  · refine (alloc_any p b m sm rb s q h.sd h.qd (by omega) (by omega) a2 c2 (encN l) _ rfl (by omega) (encN_lt hF) w2 hB2 (fun x _ hx => by have := hx2 x hx; omega) (h.pa.turn0 hT2)).mono ?_
    rintro e w3 hpost
    rcases hpost with ⟨_, hfull, _⟩ | ⟨k, rfl, hNx, _, hA3, hT3⟩ | ⟨_, _, _, h, _⟩
    · exact absurd ((Pg.left_zero q s.n).2 hfull) (by omega)
    · exact ⟨k, rfl, hNx, hA3, hT3⟩
    · omega

theorem wout_of {w w1 w4 : World} {O : Nat → Prop} {t p b m sm rb : Nat} {s s1 s4 : St} {q q1 q4 : Pg} {Dn S : Stt} {D D1 : Dk} {G G1 : Gh} {Rw : Nat → Prop} {hh a k : Nat} {P : Pl} {l l' : List (En hh)} {ns : List Nat} (hl : LikeN l l') (hW1 : Wrt G G1 (fun x => Und G hh a x)) (hD1 : ∀ n x, D n = some x → D1 n = some x) (hp : (pagesN l').Perm ((pagesN l).filter (fun x => decide (x ≠ 0)) ++ ns)) (hc : ns.length = (pagesN l).count 0) (hA : Als s.n q ns q1) (hk : s1.k = s.k + ns.length) (hn : s1.n = s.n) (hT1 : ∃ X, Turn X w w1 ∧ ∀ x ∈ X, x = p ∨ x = b ∨ x = m ∨ x = sm ∨ G x ≠ none) (hP : G1 a = some P)
    (hNx : q1.Next s1.n k) (h4k : s4.k = s1.k + 1) (h4n : s4.n = s1.n) (h4l : s4.left < 0) (h4q : q4 = q1.alloced k) (hL : ∃ D' : Dk, (∀ n x, D1 n = some x → D' n = some x) ∧ OnDisk D' hh k l' ∧ Means (G1.add a { P with pg := k }) D' hh a l' ∧ TM w4 O t p b m sm rb s4 q4 Dn S D' (G1.add a { P with pg := k }) Rw ∧ Wrt G1 (G1.add a { P with pg := k }) (fun x => x = a) ∧ Turn [a, p, b, m, sm] w1 w4) :
    WOut w w4 O t p b m sm rb s q Dn S D G Rw hh a l 0 := by
  obtain ⟨D', d1, d2, d3, d4, d5, d6⟩ := hL
  obtain ⟨X, hX, hX1⟩ := hT1
  have hGa : G a ≠ none := fun e => by rw [hW1.none_ a e] at hP; cases hP
  refine ⟨l', k, ns ++ [k], s4, q4, D', _, hl, d3, ⟨_, Gh.add_same _ _ _, rfl⟩, d2, hW1.trans d5 (fun x hx => by rw [hx]; exact Und.self _ _ _), fun n x hx => d1 n x (hD1 n x hx), ?_, ?_, ?_, ?_, h4n.trans hn, h4l, d4, X ++ [a, p, b, m, sm], (hX.mono (by intro x hx; simp [hx])).trans (d6.mono (by intro x hx; exact List.mem_append_right _ hx)), fun x hx => ?_⟩
  · show (k :: pagesN l').Perm ((0 :: pagesN l).filter _ ++ (ns ++ [k]))
    rw [List.filter_cons, if_neg (by simp)]
    rw [List.perm_iff_count] at *
    intro x
    have c1 := hp x
    simp only [List.count_append, List.count_cons, List.count_nil] at *
    omega
  · show _ = (0 :: pagesN l).count 0
    rw [List.length_append, hc]
    simp
  · rw [h4q]
    rw [hn] at hNx
    exact hA.append (Als.one hNx)
  · rw [h4k, hk, List.length_append]
    rfl
  · rcases List.mem_append.1 hx with hx | hx
    · exact hX1 x hx
    · simp at hx
      rcases hx with rfl | rfl | rfl | rfl | rfl
      · exact .inr (.inr (.inr (.inr hGa)))
      · exact .inl rfl
      · exact .inr (.inl rfl)
      · exact .inr (.inr (.inl rfl))
      · exact .inr (.inr (.inr (.inl rfl)))

theorem did_left {s : St} {j : Nat} {l : List Nat} (h : s.left < 0) : (s.did j l).left < 0 := by
  unfold St.did
  show (if _ then _ else _) < (0 : Int)
  split <;> omega

set_option maxRecDepth 100000 in
set_option maxHeartbeats 3200000 in
theorem tm_write_leaf {w : World} {O : Nat → Prop} {t p b m sm rb : Nat} {s : St} {q : Pg} {Dn S : Stt} {D : Dk} {G : Gh} {Rw : Nat → Prop} (h : TM w O t p b m sm rb s q Dn S D G Rw) {a : Nat} {l : List (En 0)} {P : Pl} (hm : Means G D 0 a l) (hP : G a = some P) (h0 : P.pg = 0) (hw : WIn s q l 0) :
    Calls Tryz.prog 101 #[.pointer (some ⟨t, 0, none⟩), .pointer (some ⟨a, 0, none⟩)] w fun e w' => e = .returned (.int .i64 0) ∧ WOut w w' O t p b m sm rb s q Dn S D G Rw 0 a l 0 := by
  obtain ⟨P', h1, hlv, h3, h4, h5⟩ := hm.out
  obtain rfl : P = P' := by rw [hP] at h1; exact Option.some.inj h1
  cases hnd : P.nd with
  | none => exact absurd h0 (h4 hnd)
  | some nd =>
    have hI := h5 nd hnd
    have hF : PageFit l := pagefit_of h.dk (by have := h.pa.laid.n16; omega) hw.full hw.some hw.size hw.hh trivial
    have hc0 : w.cell? ⟨a, 0, none⟩ = some (.int .i64 0) := by
      have := h.mem.at_ a P hP
      unfold PlOk at this
      rw [hnd] at this
      obtain ⟨_, _, _, _, hp, _⟩ := this
      have h7 := hp.c0
      rw [h0] at h7
      exact h7
    have hta := ta_lb
    have HN := hide (tm_node_some h hP hnd)
    have HH := hide (show Means G D 0 a l ∧ G a = some P ∧ P.pg = 0 ∧ P.lvl = 0 + 1 ∧ P.nd = some nd ∧ NodeIs G D 0 nd l ∧ PageFit l ∧ WIn s q l 0 from ⟨hm, hP, h0, hlv, hnd, hI, hF, hw⟩)
    have hal := lt_of_cell hc0
    clear hm hP h0 hlv hnd hF hw h1 h3 h4 h5 h hI
    go_enter Tryz.func101, Tryz.ntmps101
    go_wp2_with fail
    with_reducible refine HN.out.mono ?_
    rintro e w1 ⟨T, v, rfl, hN, hTM, hS⟩
    obtain ⟨hm, hP, h0, hlv, hnd, hI, hF, hw⟩ := HH.out
    rw [hlv] at hN
    have hcnt := hw.room
    have hone : (pagesAt 0 l).count 0 = 1 + (pagesN l).count 0 := by
      show (0 :: pagesN l).count 0 = _
      rw [List.count_cons]
      simp
      omega
    have hu := hw.u
    have hk := hw.k
    obtain ⟨n2, HCe, HAl⟩ := write_enc (lv := 0 + 1) hTM hN hI hF (by omega) (by omega) (by omega) hw.left rfl
    have HTM := hide hTM
    have HS := hide hS
    obtain rfl : nd = .inl l := hI
    obtain ⟨_, rfl, bb, off, cap, rfl, _⟩ := hN
    have h11 : w1.cell? ⟨a, 1, none⟩ = some (.int .i64 ((0 + 1 : Nat) : Int)) := by
      have := hTM.mem.at_ a P hP
      unfold PlOk at this
      rw [hnd] at this
      obtain ⟨_, _, _, _, hp, _⟩ := this
      rw [hp.c1, hlv]
    have hp0 := hTM.tr.c0
    have hs1 := hS.size
    have hna := not7 (hTM.own a (.inl (by rw [hP]; simp))).1
    have HNa := hide hna
    clear hm hP h0 hlv hnd hF hw hcnt hone hu hk hTM hS HN hna
    go_wp2_with fail
    go_region_with (first
      | (go_at_call 136; refine HCe.out.mono ?_; rintro e w2 ⟨a2, c2, rfl, hB2, hx2, hT2⟩; have hp2 := (HTM.out.tr.turn hT2 (by simp)).c0; have HB2 := hide hB2; have HX2 := hide hx2; have HT2 := hide hT2; clear hT2 hB2 hx2)
      | (go_at_call 135; refine (HAl.out w2 a2 c2 HT2.out HB2.out HX2.out).mono ?_; rintro e w3 ⟨k, rfl, hNx, hA3, hT3⟩; have HNx := hide hNx; have HA3 := hide hA3; have HT3 := hide hT3; clear hNx hA3 hT3))
    all_goals
      obtain ⟨hm, hP, h0, hlv, hnd, hI, hF, hw⟩ := HH.out
      have hT13 : Turn [p, b, m, sm] w1 w3 := (HT2.out.mono (T := [p, b, m, sm]) (by simp)).trans HT3.out
      have hL := tm_lay HTM.out hP hnd hlv hI hF trivial HNx.out HA3.out hT13
      have hc3 : w3.cell? ⟨a, 0, none⟩ ≠ none ∧ w3.frozen? ⟨a, 0, none⟩ = false := by
        have := HTM.out.mem.at_ a P hP
        unfold PlOk at this
        rw [hnd] at this
        obtain ⟨_, _, _, _, hp, _⟩ := this
        have hp3 := hp.turn hT13 (by simp; exact ⟨HNa.out.2.1, HNa.out.2.2.1, HNa.out.2.2.2.1, HNa.out.2.2.2.2.1⟩)
        exact ⟨by rw [hp3.c0]; simp, hp3.fz 0⟩
      obtain ⟨x3, hx3⟩ := Option.ne_none_iff_exists'.1 hc3.1
      have hz3 := hc3.2
      have HFin := hide (wout_of (LikeN.refl l) (Wrt.refl G _) (fun _ _ h => h) (by rw [pagesN_zero]; exact List.Perm.refl _) (by rw [pagesN_zero]; rfl) (show Als s.n q [] q from rfl) rfl rfl (by
        obtain ⟨X, hX, hX1⟩ := HS.out.turn
        exact ⟨X, hX, fun x hx => (hX1 x hx).imp id (fun h => .inr (.inr (.inr h)))⟩) hP HNx.out (show (s.did k (bytesOf 512 (pageB (encN l)))).k = s.k + 1 from rfl) rfl (did_left hw.left) rfl hL)
      clear hm hP h0 hlv hnd hI hF hw hL hc3 hT13
      go_wp2_with fail
      go_ret
      exact ⟨rfl, HFin.out⟩

end Go.Proofs.YthgpjkcgccdldaaGreatDoor

namespace Go.Proofs.YthgpjkcgccdldaaGreatDoor
open Go.RowKit Go.Maps

theorem WRow.quiet {w w' w'' : World} {O : Nat → Prop} {t p b m sm rb : Nat} {s : St} {q : Pg} {Dn S : Stt} {D : Dk} {G : Gh} {Rw : Nat → Prop} {h : Nat} {ks : List (ByteArray × Nat)} {l : List (En (h + 1))} {i : Nat} {done : List (En (h + 1))} {ns : List Nat} {s' : St} {q' : Pg} {D' : Dk} {G' : Gh} (hr : WRow w w' O t p b m sm rb s q Dn S D G Rw h ks l i done ns s' q' D' G') (hT : Turn [] w' w'') : WRow w w'' O t p b m sm rb s q Dn S D G Rw h ks l i done ns s' q' D' G' := by
  obtain ⟨X, hX, hX1⟩ := hr.turn
  exact { hr with tm := hr.tm.quiet hT, turn := ⟨X, hX.then hT (by simp), hX1⟩ }
theorem WRow.row {w w' : World} {O : Nat → Prop} {t p b m sm rb : Nat} {s : St} {q : Pg} {Dn S : Stt} {D : Dk} {G : Gh} {Rw : Nat → Prop} {h : Nat} {ks : List (ByteArray × Nat)} {l : List (En (h + 1))} {i : Nat} {done : List (En (h + 1))} {ns : List Nat} {s' : St} {q' : Pg} {D' : Dk} {G' : Gh} (hr : WRow w w' O t p b m sm rb s q Dn S D G Rw h ks l i done ns s' q' D' G') (h1 : TM w O t p b m sm rb s q Dn S D G Rw) {y : Nat} (hy : Rw y) : w'.heap[y]? = w.heap[y]? := by
  obtain ⟨X, hX, hX1⟩ := hr.turn
  refine hX.block y (h1.mem.rows y hy) fun hm => ?_
  have := not7 (h1.own y (.inr hy)).1
  rcases hX1 y hm with e | e | e | e | e
  · exact this.2.1 e
  · exact this.2.2.1 e
  · exact this.2.2.2.1 e
  · exact this.2.2.2.2.1 e
  · exact e (h1.mem.apart y hy)

/-- All kids are written. -/
theorem WRow.whole {w w' : World} {O : Nat → Prop} {t p b m sm rb : Nat} {s : St} {q : Pg} {Dn S : Stt} {D : Dk} {G : Gh} {Rw : Nat → Prop} {h a : Nat} {P : Pl} {ks : List (ByteArray × Nat)} {l : List (En (h + 1))} {done : List (En (h + 1))} {ns : List Nat} {s' : St} {q' : Pg} {D' : Dk} {G' : Gh} (hr : WRow w w' O t p b m sm rb s q Dn S D G Rw h ks l ks.length done ns s' q' D' G') (hb : Both (KidIs G (Means G D h)) ks l) (hP : G a = some P) (hlv : P.lvl = h + 1 + 1) (hn : P.nd = some (.inr ks)) (hw : WIn s q l 0) :
    LikeN l done ∧ NodeIs G' D' (h + 1) (.inr ks) done ∧ KidsOn D' (h + 1) done ∧ G' a = some P ∧ PageFit done ∧ Wrt G G' (fun x => Und G (h + 1) a x) ∧ (pagesN done).Perm ((pagesN l).filter (fun x => decide (x ≠ 0)) ++ ns) ∧ ns.length = (pagesN l).count 0 ∧ 0 < q'.left s'.n ∧ q'.u ≤ 900000 ∧ s'.k ≤ 900000 := by
  have hlen := hb.length
  have h1 := hr.like
  have h2 := hr.both
  have h3 := hr.pages
  have h4 := hr.cnt
  rw [hlen] at h1 h2 h3 h4
  rw [List.take_length] at h1 h3 h4
  rw [List.drop_length, List.append_nil] at h2
  have hk : KidsOn D' (h + 1) done := hr.disk
  have hf : ∀ e ∈ done, FullE e := both_all (fun _ _ h k => LikeE.full h k) h1 hw.full
  have hll := Both.length h1
  have hA := hr.als.is
  have hone : (pagesAt 0 l).count 0 = 1 + (pagesN l).count 0 := by
    show (0 :: pagesN l).count 0 = _
    rw [List.count_cons]
    simp
    omega
  have g1 := hA.left
  have g2 := hA.u
  have g3 := hr.k
  have g4 := hw.room
  have g5 := hw.u
  have g6 := hw.k
  refine ⟨h1, ⟨ks, rfl, h2⟩, hk, ?_, pagefit_of hr.tm.dk (by have := hr.tm.pa.laid.n16; omega) hf (by have := hw.some; omega) (by rw [← h1.size]; exact hw.size) hw.hh hk, hr.wrt.wide (fun x hx => ?_), h3, h4, by rw [hr.n]; omega, by omega, by omega⟩
  · refine (hr.wrt.same a fun hx => ?_).trans hP
    obtain ⟨k, hkk, hu⟩ := hx
    obtain ⟨e, _, hx⟩ := hb.left k hkk
    obtain ⟨Q, q1, q2⟩ := Und.lvl hx.2.2 hu
    rw [hP] at q1
    obtain rfl := Option.some.inj q1
    omega
  · obtain ⟨k, hkk, hu⟩ := hx
    exact Und.kid hP hn hkk hu

set_option maxRecDepth 100000 in
set_option maxHeartbeats 6400000 in
theorem tm_write_branch {O : Nat → Prop} {t p b m sm rb : Nat} {Dn S : Stt} {Rw : Nat → Prop} {hh : Nat}
    (IH : ∀ (w : World) (s : St) (q : Pg) (D : Dk) (G : Gh) (a : Nat) (l : List (En hh)) (P : Pl), TM w O t p b m sm rb s q Dn S D G Rw → Means G D hh a l → G a = some P → WIn s q l P.pg → Calls Tryz.prog 101 #[.pointer (some ⟨t, 0, none⟩), .pointer (some ⟨a, 0, none⟩)] w fun e w' => e = .returned (.int .i64 0) ∧ WOut w w' O t p b m sm rb s q Dn S D G Rw hh a l P.pg)
    {w : World} {s : St} {q : Pg} {D : Dk} {G : Gh} (h : TM w O t p b m sm rb s q Dn S D G Rw) {a : Nat} {l : List (En (hh + 1))} {P : Pl} (hm : Means G D (hh + 1) a l) (hP : G a = some P) (h0 : P.pg = 0) (hw : WIn s q l 0) :
    Calls Tryz.prog 101 #[.pointer (some ⟨t, 0, none⟩), .pointer (some ⟨a, 0, none⟩)] w fun e w' => e = .returned (.int .i64 0) ∧ WOut w w' O t p b m sm rb s q Dn S D G Rw (hh + 1) a l 0 := by
  obtain ⟨P', h1, hlv, h3, h4, h5⟩ := hm.out
  obtain rfl : P = P' := by rw [hP] at h1; exact Option.some.inj h1
  cases hnd : P.nd with
  | none => exact absurd h0 (h4 hnd)
  | some nd =>
    obtain ⟨ks, rfl, hb⟩ := h5 nd hnd
    have hc0 : w.cell? ⟨a, 0, none⟩ = some (.int .i64 0) := by
      have := h.mem.at_ a P hP
      unfold PlOk at this
      rw [hnd] at this
      obtain ⟨_, _, _, _, hp, _⟩ := this
      have h7 := hp.c0
      rw [h0] at h7
      exact h7
    have hta := ta_bb
    have HN := hide (tm_node_some h hP hnd)
    have HH := hide (show G a = some P ∧ P.lvl = hh + 1 + 1 ∧ P.nd = some (.inr ks) ∧ Both (KidIs G (Means G D hh)) ks l ∧ WIn s q l 0 from ⟨hP, hlv, hnd, hb, hw⟩)
    have HIH := hide IH
    have hal := lt_of_cell hc0
    have hkn : ks.length ≤ 300 := by
      have := hb.length
      have := len_size l
      have := hw.size
      omega
    clear hm hP h0 hlv hnd hw h1 h3 h4 h5 h hb IH
    go_enter Tryz.func101, Tryz.ntmps101
    go_wp2_with fail
    with_reducible refine HN.out.mono ?_
    rintro e w1 ⟨T, v, rfl, hN, hTM, hS⟩
    rw [HH.out.2.1] at hN
    have HNd := hide hN
    obtain ⟨_, rfl, bb, off, cap, rfl, hK, hcap, hRb, _⟩ := hN
    have HTM := hide hTM
    have HS := hide hS
    have HK := hide hK
    have HRb := hide hRb
    have HNa := hide (not7 (hTM.own a (.inl (by rw [HH.out.1]; simp))).1)
    have hs1 := hS.size
    have hbl := hTM.mem.rows bb hRb
    clear hTM hS HN hK hRb
    go_wp2_with fail
    go_loopw [9, 10, 33] (fun _ _ i wr => ∃ (j : Nat) (done : List (En (hh + 1))) (ns : List Nat) (s' : St) (q' : Pg) (D' : Dk) (G' : Gh), j ≤ ks.length ∧ i = .int .i64 (j : Nat) ∧ Hid (WRow w1 wr O t p b m sm rb s q Dn S D G Rw hh ks l j done ns s' q' D' G')) (fun _ _ i _ => ks.length - (intOf i).toNat)
    case atStart => exact ⟨0, [], [], s, q, D, G, Nat.zero_le _, rfl, wrow_start HTM.out HH.out.2.2.2.1 HH.out.2.2.2.2.left⟩
    case round =>
      obtain ⟨j, done, ns, s', q', D', G', hj, rfl, HR⟩ := hrel
      have hbr := HR.out.row HTM.out HRb.out
      have hsr := HR.out.tm.lts t (by simp)
      by_cases hlt : j < ks.length
      · have hKr : KidsAt wr (some ⟨bb, off, none⟩) ks := by
          obtain ⟨X, hX, _⟩ := HR.out.turn
          refine .inr ⟨bb, off, rfl, fun i hi => ?_⟩
          obtain ⟨b', off', e, k1, k2⟩ := HK.out.at hi
          injection e with e
          injection e with e1 e2
          subst e1 e2
          exact ⟨(World.cell?_of_block (a := ⟨bb, off + i * 2, none⟩) hbr).trans k1, (World.cell?_of_block (a := ⟨bb, off + i * 2 + 1, none⟩) hbr).trans k2⟩
        obtain ⟨b', off', e, hk0, hk1⟩ := hKr.at hlt
        obtain ⟨rfl, rfl⟩ : bb = b' ∧ off = off' := by injection e with e; injection e with e1 e2; exact ⟨e1, e2⟩
        have hTa : Turn [] wr (wr.alloc (.cells #[.string ks[j].1, .pointer (some ⟨ks[j].2, 0, none⟩)] 173)) := (Turn.refl [] wr).alloc _
        have hlen := HH.out.2.2.2.1.length
        have hjl : j < l.length := by omega
        have hRa := HR.out.quiet hTa
        have hkid := hRa.both.get j hlt (by have := hRa.both.length; omega)
        have hej : (done ++ l.drop j)[j]'(by have := hRa.both.length; omega) = l[j] := by
          rw [List.getElem_append_right (by rw [hRa.len]; exact Nat.le_refl _)]
          simp [hRa.len]
        rw [hej] at hkid
        obtain ⟨q0, ⟨Q, q1, q2⟩, q3⟩ := hkid
        have HC := hide (HIH.out _ s' q' D' G' ks[j].2 (kidsOf l[j]) Q hRa.tm q3 q1 (by rw [q2]; exact hRa.win HH.out.2.2.2.2 hjl))
        have HNx := hide (fun (w2 : World) (ho : WOut (wr.alloc (.cells #[.string ks[j].1, .pointer (some ⟨ks[j].2, 0, none⟩)] 173)) w2 O t p b m sm rb s' q' Dn S D' G' Rw hh ks[j].2 (kidsOf l[j]) Q.pg) => hRa.next HH.out.2.2.2.2 hjl hlt (by rw [← q2]; exact ho))
        clear hKr e hTa hlen hRa hej q0 q1 q2 q3
        generalize ks[j] = kk at *
        go_wp2_with fail
        with_reducible refine HC.out.mono ?_
        rintro e w2 ⟨rfl, hO2⟩
        obtain ⟨done2, ns2, s2, q2, D2, G2, hR2⟩ := HNx.out w2 hO2
        have HR2 := hide hR2
        clear hO2 hR2 HC HNx
        go_wp2_with fail
        go_roundw
        case rel => exact ⟨j + 1, done2, ns2, s2, q2, D2, G2, by omega, by go_num, HR2⟩
        case measure => simp [intOf]; omega
      · obtain rfl : j = ks.length := by omega
        obtain ⟨hP, hlv, hnd, hb, hw⟩ := HH.out
        obtain ⟨g1, g2, g3, g4, g5, g6, g7, g8, g9, g10, g11⟩ := HR.out.whole hb hP hlv hnd hw
        have hNr := HNd.out.keep (w' := wr) (Rw' := Rw) (G' := G') (fun y hy => HR.out.row HTM.out hy) (fun _ h => h) (fun x Q hQ => by
          obtain ⟨n, hx⟩ := HR.out.wrt.some_ x Q hQ
          exact ⟨_, hx, rfl⟩)
        obtain ⟨n2, HCe, HAl⟩ := write_enc (lv := hh + 1 + 1) HR.out.tm hNr g2 g5 g9 g10 g11 HR.out.left rfl
        have HG := hide (show LikeN l done ∧ NodeIs G' D' (hh + 1) (.inr ks) done ∧ KidsOn D' (hh + 1) done ∧ G' a = some P ∧ PageFit done ∧ Wrt G G' (fun x => Und G (hh + 1) a x) ∧ (pagesN done).Perm ((pagesN l).filter (fun x => decide (x ≠ 0)) ++ ns) ∧ ns.length = (pagesN l).count 0 from ⟨g1, g2, g3, g4, g5, g6, g7, g8⟩)
        obtain ⟨lv, hlv2⟩ : ∃ lv, lv = hh + 1 + 1 := ⟨_, rfl⟩
        have h11 : wr.cell? ⟨a, 1, none⟩ = some (.int .i64 (lv : Nat)) := by
          have := HR.out.tm.mem.at_ a P g4
          unfold PlOk at this
          rw [hnd] at this
          obtain ⟨_, _, _, _, hp, _⟩ := this
          rw [hp.c1, hlv, hlv2]
        have hp0 := HR.out.tm.tr.c0
        have hal2 := lt_of_cell h11
        rw [← hlv2] at HCe
        have HKn : Hid (ks.length ≤ 300) := hkn
        clear hP hlv hnd hb hw g1 g2 g3 g4 g5 g6 g7 g8 g9 g10 g11 hNr hlv2 hbr
        go_wp2_with fail
        go_region_with (first
          | (go_at_call 136; refine HCe.out.mono ?_; rintro e w2 ⟨a2, c2, rfl, hB2, hx2, hT2⟩; have hp2 := (HR.out.tm.tr.turn hT2 (by simp)).c0; have HB2 := hide hB2; have HX2 := hide hx2; have HT2 := hide hT2; clear hT2 hB2 hx2)
          | (go_at_call 135; refine (HAl.out w2 a2 c2 HT2.out HB2.out HX2.out).mono ?_; rintro e w3 ⟨k, rfl, hNx, hA3, hT3⟩; have HNx := hide hNx; have HA3 := hide hA3; have HT3 := hide hT3; clear hNx hA3 hT3))
        all_goals
          obtain ⟨hP, hlv, hnd, hb, hw⟩ := HH.out
          obtain ⟨g1, g2, g3, g4, g5, g6, g7, g8⟩ := HG.out
          have hT13 : Turn [p, b, m, sm] wr w3 := (HT2.out.mono (T := [p, b, m, sm]) (by simp)).trans HT3.out
          have hL := tm_lay HR.out.tm g4 hnd hlv g2 g5 g3 HNx.out HA3.out hT13
          have hc3 : w3.cell? ⟨a, 0, none⟩ ≠ none ∧ w3.frozen? ⟨a, 0, none⟩ = false := by
            have := HR.out.tm.mem.at_ a P g4
            unfold PlOk at this
            rw [hnd] at this
            obtain ⟨_, _, _, _, hp, _⟩ := this
            have hp3 := hp.turn hT13 (by simp; exact ⟨HNa.out.2.1, HNa.out.2.2.1, HNa.out.2.2.2.1, HNa.out.2.2.2.2.1⟩)
            exact ⟨by rw [hp3.c0]; simp, hp3.fz 0⟩
          obtain ⟨x3, hx3⟩ := Option.ne_none_iff_exists'.1 hc3.1
          have hz3 := hc3.2
          have HFin := hide (wout_of g1 g6 HR.out.more g7 g8 HR.out.als HR.out.k HR.out.n (by
            obtain ⟨X, hX, hX1⟩ := HS.out.turn
            obtain ⟨Y, hY, hY1⟩ := HR.out.turn
            exact ⟨X ++ Y, (hX.mono (by intro x hx; simp [hx])).trans (hY.mono (by intro x hx; simp [hx])), fun x hx => (List.mem_append.1 hx).elim (fun h => (hX1 x h).imp id (fun h => .inr (.inr (.inr h)))) (hY1 x)⟩) g4 HNx.out (show (s'.did k (bytesOf 512 (pageB (encN done)))).k = s'.k + 1 from rfl) rfl (did_left HR.out.left) rfl hL)
          clear hP hlv hnd hb hw g1 g2 g3 g4 g5 g6 g7 g8 hL hc3 hT13
          go_wp2_with fail
          go_ret
          exact ⟨rfl, HFin.out⟩

set_option maxRecDepth 100000 in
set_option maxHeartbeats 800000 in
/-- write of a place that has its page. -/
theorem tm_write_laid {w : World} {O : Nat → Prop} {t p b m sm rb : Nat} {s : St} {q : Pg} {Dn S : Stt} {D : Dk} {G : Gh} {Rw : Nat → Prop} (h : TM w O t p b m sm rb s q Dn S D G Rw) {hh a : Nat} {l : List (En hh)} {P : Pl} (hm : Means G D hh a l) (hP : G a = some P) (h0 : P.pg ≠ 0) (hl : s.left < 0) :
    Calls Tryz.prog 101 #[.pointer (some ⟨t, 0, none⟩), .pointer (some ⟨a, 0, none⟩)] w fun e w' => e = .returned (.int .i64 0) ∧ WOut w w' O t p b m sm rb s q Dn S D G Rw hh a l P.pg := by
  have HW := hide (wout_laid h hm hP h0 hl)
  have hc0 : w.cell? ⟨a, 0, none⟩ = some (.int .i64 (P.pg : Nat)) := by
    have := h.mem.at_ a P hP
    unfold PlOk at this
    split at this
    · exact this.c0
    · obtain ⟨_, _, _, _, hp, _⟩ := this
      exact hp.c0
  have hpz : ((P.pg : Int) == 0) = false := by rw [beq_eq_false_iff_ne]; omega
  clear hm hP hl h
  generalize P.pg = pg at *
  go_enter Tryz.func101, Tryz.ntmps101
  go_wp2_with fail
  go_ret
  exact ⟨rfl, HW.out⟩

/-- write of any place. -/
theorem tm_write {O : Nat → Prop} {t p b m sm rb : Nat} {Dn S : Stt} {Rw : Nat → Prop} : ∀ (hh : Nat) (w : World) (s : St) (q : Pg) (D : Dk) (G : Gh) (a : Nat) (l : List (En hh)) (P : Pl), TM w O t p b m sm rb s q Dn S D G Rw → Means G D hh a l → G a = some P → WIn s q l P.pg → Calls Tryz.prog 101 #[.pointer (some ⟨t, 0, none⟩), .pointer (some ⟨a, 0, none⟩)] w fun e w' => e = .returned (.int .i64 0) ∧ WOut w w' O t p b m sm rb s q Dn S D G Rw hh a l P.pg := by
  intro hh
  induction hh with
  | zero =>
    intro w s q D G a l P h hm hP hw
    by_cases h0 : P.pg = 0
    · rw [h0] at hw ⊢
      exact tm_write_leaf h hm hP h0 hw
    · exact tm_write_laid h hm hP h0 hw.left
  | succ hh ih =>
    intro w s q D G a l P h hm hP hw
    by_cases h0 : P.pg = 0
    · rw [h0] at hw ⊢
      exact tm_write_branch ih h hm hP h0 hw
    · exact tm_write_laid h hm hP h0 hw.left

end Go.Proofs.YthgpjkcgccdldaaGreatDoor

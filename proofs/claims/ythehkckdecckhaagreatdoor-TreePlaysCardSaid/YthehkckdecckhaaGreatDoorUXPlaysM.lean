/-
  A Del of a key that is not there, a Commit of what was changed or was not, by what a tree has.
  Get of a tree with its pager, by what it has.
  How calls of a tree read as arguments.
  The law's Has and Range on plain rows, walked; a number's remainder; what is wrong with a Put.
  The law TreePlays, walked.
-/
import Derived.Test.YthehkckdecckhaaGreatDoorU49
import Derived.Test.YthehkckdecckhaaGreatDoorU50
import Derived.Deep.CutRange
import Derived.Test.YthehkckdecckhaaGreatDoorU51
import Derived.Deep.RegionHeld3
namespace Go.Proofs.YthehkckdecckhaaGreatDoor
open Go.RowKit Go.Maps

/-- Nothing was changed since the Commit, or something was. -/
def Fresh (Dn S : Stt) (ds : List Nat) (rd rt : Root?) : Prop := S.changed = true ∨ (S = Dn ∧ rt = rd ∧ ds = [])

theorem tg_del_no {w : World} {O : Nat → Prop} {t p b m sm rb : Nat} {s : St} {q : Pg} {Dn S : Stt} {D : Dk} {G : Gh} {Rw : Nat → Prop} {ds : List Nat} {rd rt : Root?} (h : TG w O t p b m sm rb s q Dn S D G Rw ds rd rt) (k : ByteArray) (hg : getK (flatR rt) k = none) :
    Calls Tryz.prog 15 #[.pointer (some ⟨t, 0, none⟩), .string k] w fun e w' => e = .returned (.int .i64 2) ∧ ∃ G' Rw' r, TG w' O t p b m sm rb s { q with rd := r } Dn S D G' Rw' ds rd rt ∧ KeepO O w w' := by
  refine (tm_del_no h.td h.now h.ok k hg).mono ?_
  rintro e w' ⟨rfl, G', Rw', r, hTD, hG, hS⟩
  exact ⟨rfl, G', Rw', r, h.seen r hTD hG, (hS.go _).keepO h.td⟩

/-- A Commit that has room, whether or not something was changed. -/
theorem tg_commit2 {w : World} {O : Nat → Prop} {t p b m sm rb : Nat} {s : St} {q : Pg} {Dn S : Stt} {D : Dk} {G : Gh} {Rw : Nat → Prop} {ds : List Nat} {rd rt : Root?} (h : TG w O t p b m sm rb s q Dn S D G Rw ds rd rt) (hF : Fresh Dn S ds rd rt) (hroom : S.fresh ≤ q.left s.n) (hkeys : (flatR rt).length ≤ 40000) (hkd : (flatR rd).length ≤ 40000) (hk : s.k ≤ 600000) :
    Calls Tryz.prog 23 #[.pointer (some ⟨t, 0, none⟩)] w fun e w' => e = .returned (.int .i64 0) ∧ ∃ sm' rb' s' q' Dn' D' G' rt', TG w' O t p b m sm' rb' s' q' Dn' Dn' D' G' Rw [] rt' rt' ∧ flatR rt' = flatR rt ∧ heightR rt' = heightR rt ∧ s'.k ≤ s.k + S.fresh + 5 ∧ s'.n = s.n ∧ KeepO O w w' := by
  by_cases hc : S.changed = true
  · have hmb := mbs_le s.n h.td.tm.pa.laid.n16
    refine (tg_commit h hc hroom hkeys hkd hk).mono ?_
    rintro e w' ⟨rfl, sm', rb', s', q', D', G', rt', h1, h2, h3, h4, h5, _, h7⟩
    exact ⟨rfl, sm', rb', s', q', _, D', G', rt', h1, h2, h3, by omega, h5, h7⟩
  · obtain ⟨rfl, rfl, rfl⟩ := hF.resolve_left hc
    refine (commit_clean t p b m sm rb s q S S h.td.tm.sd h.td.tm.qd h.td.tm.off (by simpa using hc) w h.td.tm.pa h.td.tm.tr).mono ?_
    rintro e w' ⟨rfl, ⟨r, hA⟩, hT⟩
    obtain ⟨h1, h2⟩ := h.ask r hA hT
    exact ⟨rfl, sm, rb, s, _, S, D, G, rt, h1, rfl, rfl, by omega, rfl, h2⟩

end Go.Proofs.YthehkckdecckhaaGreatDoor

namespace Go.Proofs.YthehkckdecckhaaGreatDoor
open Go.RowKit Go.Maps

theorem tg_get {w : World} {O : Nat → Prop} {t p b m sm rb : Nat} {s : St} {q : Pg} {Dn S : Stt} {D : Dk} {G : Gh} {Rw : Nat → Prop} {ds : List Nat} {rd rt : Root?} (h : TG w O t p b m sm rb s q Dn S D G Rw ds rd rt) (k : ByteArray) :
    Calls Tryz.prog 18 #[.pointer (some ⟨t, 0, none⟩), .string k] w fun e w' => e = .returned (gotV (getK (flatR rt) k)) ∧ ∃ G' Rw' r, TG w' O t p b m sm rb s { q with rd := r } Dn S D G' Rw' ds rd rt ∧ KeepO O w w' := by
  refine (tm_get h.td h.now h.ok k).mono ?_
  rintro e w' ⟨rfl, G', Rw', r, hTD, hG, hS⟩
  exact ⟨rfl, G', Rw', r, h.seen r hTD hG, (hS.go _).keepO h.td⟩

end Go.Proofs.YthehkckdecckhaaGreatDoor

namespace Go.Proofs.YthehkckdecckhaaGreatDoor
open Go.ChangeShapes Go.WideShapes Go.ChangeAt Go.RowKit
open Go.Deep

/-- A call: its kind, its number, its key, its end, its value. -/
structure Cl where
  kd : Int
  n : Int
  key : ByteArray
  hi : ByteArray
  val : ByteArray
def Cl.nil : Cl := ⟨0, 0, ByteArray.empty, ByteArray.empty, ByteArray.empty⟩
def clC (q : Cl) : List Value := [.int .i64 q.kd, .int .i64 q.n, .string q.key, .string q.hi, .string q.val]
/-- Its cells in memory. -/
structure ClIn (w : World) (b o : Nat) (q : Cl) : Prop where
  c0 : w.cell? ⟨b, o, none⟩ = some (.int .i64 q.kd)
  c1 : w.cell? ⟨b, o + 1, none⟩ = some (.int .i64 q.n)
  c2 : w.cell? ⟨b, o + 2, none⟩ = some (.string q.key)
  c3 : w.cell? ⟨b, o + 3, none⟩ = some (.string q.hi)
  c4 : w.cell? ⟨b, o + 4, none⟩ = some (.string q.val)
theorem ClIn.turn0 {w w' : World} {b o : Nat} {q : Cl} (h : ClIn w b o q) (hT : Turn [] w w') : ClIn w' b o q :=
  have hb := hT.block b (lt_of_cell h.c0) (by simp)
  ⟨(World.cell?_of_block hb).trans h.c0, (World.cell?_of_block hb).trans h.c1, (World.cell?_of_block hb).trans h.c2, (World.cell?_of_block hb).trans h.c3, (World.cell?_of_block hb).trans h.c4⟩
/-- Calls that a slice leads to. -/
def ClsAt (w : World) (a : Option Addr) (l : List Cl) : Prop := l = [] ∨ ∃ b off, a = some ⟨b, off, none⟩ ∧ ∀ i, i < l.length → ClIn w b (off + i * 5) (l.getD i Cl.nil)
theorem ClsAt.turn0 {w w' : World} {a : Option Addr} {l : List Cl} (h : ClsAt w a l) (hT : Turn [] w w') : ClsAt w' a l := by
  rcases h with rfl | ⟨b, off, rfl, h⟩
  · exact .inl rfl
  · exact .inr ⟨b, off, rfl, fun i hi => (h i hi).turn0 hT⟩
theorem ClsAt.at {w : World} {a : Option Addr} {l : List Cl} (h : ClsAt w a l) {i : Nat} (hi : i < l.length) : ∃ b off, a = some ⟨b, off, none⟩ ∧ ClIn w b (off + i * 5) (l.getD i Cl.nil) := by
  rcases h with rfl | ⟨b, off, rfl, h⟩
  · simp at hi
  · exact ⟨b, off, rfl, h i hi⟩

theorem cells_int : Tryz.prog.cellsOf 3 = 1 := by kernel_rfl
theorem cells_string : Tryz.prog.cellsOf 9 = 1 := by kernel_rfl
theorem cells_call : Tryz.prog.cellsOf 30 = 5 := by kernel_rfl

set_option maxRecDepth 100000 in
/-- The values of a call. -/
theorem open_call {H : Type} {enc : TypeId × Value → H} {W : World} {fuel : Nat} {cs : List Value} {y : DataW H × List MemPlace} (h : DataW.trod enc Tryz.prog W 0 (fun _ => true) true fuel 30 cs = some y) :
    ∃ q : Cl, cs = clC q ∧ y.1 = .agg [.lit (.int .i64 q.kd), .lit (.int .i64 q.n), .lit (.string q.key.data.toList), .lit (.string q.hi.data.toList), .lit (.string q.val.data.toList)] := by
  obtain ⟨xs, m, _, hy, hl, hlen, hf⟩ := DataW.trod_struct Tryz.underlying30 h
  rw [cells_call] at hl
  obtain ⟨c0, c1, c2, c3, c4, rfl⟩ : ∃ c0 c1 c2 c3 c4, cs = [c0, c1, c2, c3, c4] := by
    match cs, hl with
    | [c0, c1, c2, c3, c4], _ => exact ⟨c0, c1, c2, c3, c4, rfl⟩
  have hg : ∀ i (hi : i < xs.length), xs[i]? = some xs[i] := fun i hi => List.getElem?_eq_getElem hi
  have hn : xs.length = 5 := hlen
  obtain ⟨x0, e0, g0, _⟩ := DataW.trod_int Tryz.underlying3 ((hf 0 _ rfl).trans (hg 0 (by omega)))
  obtain ⟨x1, e1, g1, _⟩ := DataW.trod_int Tryz.underlying3 ((hf 1 _ rfl).trans (hg 1 (by omega)))
  obtain ⟨x2, e2, g2, _⟩ := DataW.trod_string Tryz.underlying9 ((hf 2 _ rfl).trans (hg 2 (by omega)))
  obtain ⟨x3, e3, g3, _⟩ := DataW.trod_string Tryz.underlying9 ((hf 3 _ rfl).trans (hg 3 (by omega)))
  obtain ⟨x4, e4, g4, _⟩ := DataW.trod_string Tryz.underlying9 ((hf 4 _ rfl).trans (hg 4 (by omega)))
  simp [cells_int, cells_string] at e0 e1 e2 e3 e4
  subst e0 e1 e2 e3 e4
  refine ⟨⟨x0, x1, x2, x3, x4⟩, rfl, ?_⟩
  rw [hy]
  obtain ⟨z0, z1, z2, z3, z4, rfl⟩ : ∃ z0 z1 z2 z3 z4, xs = [z0, z1, z2, z3, z4] := by
    match xs, hn with
    | [z0, z1, z2, z3, z4], _ => exact ⟨z0, z1, z2, z3, z4, rfl⟩
  simp only [List.getElem_cons_zero, List.getElem_cons_succ] at g0 g1 g2 g3 g4
  simp [g0, g1, g2, g3, g4]

theorem weights_all_mem {H : Type} {P : Program} {e : TypeId} : ∀ {ds : List (DataW H)} {d : DataW H}, d ∈ ds → ∀ n ∈ d.weights P e, n ∈ DataW.weightsAll P e ds
  | d0 :: ds, d, hd, n, hn => by
    simp only [DataW.weightsAll, List.mem_append]
    rcases List.mem_cons.1 hd with rfl | hd
    · exact .inl hn
    · exact .inr (weights_all_mem hd n hn)

/-- No text of a call is too long. -/
def Cl.Sz (q : Cl) : Prop := q.key.size ≤ 140737488351232 ∧ q.hi.size ≤ 140737488351232 ∧ q.val.size ≤ 140737488351232
def SizedC (l : List Cl) : Prop := ∀ i, i < l.length → (l.getD i Cl.nil).Sz

/-- The calls that came in, out of how they are read. -/
theorem calls_of {H : Type} {enc : TypeId × Value → H} {W : World} {fuel : Nat} {a : Option Addr} {n c : Nat} {y : DataW H × List MemPlace} (h : DataW.trod enc Tryz.prog W 0 (fun _ => true) true fuel 22 [.slice a n c] = some y) (hs : ∀ x ∈ y.1.weights Tryz.prog 22, x ≤ reachBytes) :
    ∃ l : List Cl, n = l.length ∧ ClsAt W a l ∧ SizedC l ∧ l.length ≤ 9223372036854775807 := by
  rcases open_slice Tryz.underlying22 h with ⟨hcs, _⟩ | ⟨x, len, cap, m, nf, D, Pl, hcs, _, hl, hm, hmm, rfl, hx⟩
  · have e := List.singleton_inj.1 hcs
    injection e with e1 e2 e3
    subst e1 e2 e3
    exact ⟨[], rfl, .inl rfl, fun i hi => by simp at hi, by simp⟩
  · have e := List.singleton_inj.1 hcs
    injection e with e1 e2 e3
    subst e1 e2 e3
    simp only [if_true] at hmm
    subst hmm
    have hmx : n ≤ 9223372036854775807 := by unfold maxLen at hm; omega
    by_cases hn : n = 0
    · subst hn
      exact ⟨[], rfl, .inl rfl, fun i hi => by simp at hi, by simp⟩
    have hone : ∀ k, k < n → ∃ q : Cl, (∀ j, j < 5 → W.cell? ((x.add (k * 5)).add j) = (clC q)[j]?) ∧ q.Sz := fun k hk => by
      obtain ⟨cs', h1, h2⟩ := hx k (by omega)
      rw [cells_call] at h1
      obtain ⟨_, hlen, hcell⟩ := World.cells?_some h1
      obtain ⟨q, rfl, hD⟩ := open_call h2
      simp only at hD
      have hin : ∀ z ∈ (D k).weights Tryz.prog 30, z ≤ reachBytes := fun z hz => hs z (by
        simp only [DataW.weights, Tryz.underlying22, List.mem_cons, List.mem_append]
        exact .inr (.inl (weights_all_mem (List.mem_map.2 ⟨k, List.mem_range.2 hk, rfl⟩) z hz)))
      rw [hD] at hin
      simp only [DataW.weights, Tryz.underlying30] at hin
      have z1 := hin q.key.data.toList.length (DataW.weights_mem_each (j := 2) (t := 9) (d := .lit (.string q.key.data.toList)) rfl rfl _ (by simp [DataW.weights]))
      have z2 := hin q.hi.data.toList.length (DataW.weights_mem_each (j := 3) (t := 9) (d := .lit (.string q.hi.data.toList)) rfl rfl _ (by simp [DataW.weights]))
      have z3 := hin q.val.data.toList.length (DataW.weights_mem_each (j := 4) (t := 9) (d := .lit (.string q.val.data.toList)) rfl rfl _ (by simp [DataW.weights]))
      rw [← Lib.size_eq] at z1 z2 z3
      unfold reachBytes at z1 z2 z3
      exact ⟨q, fun j hj => hcell j hj, by omega, by omega, by omega⟩
    obtain ⟨u0, e00, _⟩ := hone 0 (by omega)
    have e00' : W.cell? x = some (.int .i64 u0.kd) := e00 0 (by omega)
    obtain ⟨_, _, _, _, hsp⟩ := World.shape?_of_cell? e00'
    obtain ⟨b, off, sp⟩ := x
    obtain rfl : sp = none := hsp
    have hall : ∀ k, ∃ q : Cl, k < n → ClIn W b (off + k * 5) q ∧ q.Sz := fun k => by
      by_cases hk : k < n
      · obtain ⟨q, hu, z1⟩ := hone k hk
        simp only [Addr.add_mid] at hu
        exact ⟨q, fun _ => ⟨⟨hu 0 (by omega), hu 1 (by omega), hu 2 (by omega), hu 3 (by omega), hu 4 (by omega)⟩, z1⟩⟩
      · exact ⟨Cl.nil, fun h => absurd h hk⟩
    obtain ⟨f, hf⟩ := Classical.skolem.1 hall
    have hget : ∀ i, i < n → ((List.range n).map f).getD i Cl.nil = f i := fun i hi => by
      rw [List.getD_eq_getElem?_getD]
      simp [hi]
    refine ⟨(List.range n).map f, by simp, .inr ⟨b, off, rfl, fun i hi => ?_⟩, fun i hi => ?_, by simp; exact hmx⟩
    · simp only [List.length_map, List.length_range] at hi
      rw [hget i hi]
      exact (hf i hi).1
    · simp only [List.length_map, List.length_range] at hi
      rw [hget i hi]
      exact (hf i hi).2

end Go.Proofs.YthehkckdecckhaaGreatDoor

namespace Go.Proofs.YthehkckdecckhaaGreatDoor
open Go.RowKit Go.Maps

set_option maxRecDepth 100000 in
set_option maxHeartbeats 1600000 in
/-- Has: is a key there? -/
theorem lhas_any (a : Option Addr) (cap : Nat) (l : List (ByteArray × ByteArray)) (key : ByteArray) (n : Nat) (hn : l.length = n) (hlen : n ≤ 1000) (hs : Rises (keysOf l)) (w : World) (hK : KVsAt w a l) :
    Calls Tryz.prog 16 #[.slice a n cap, .string key] w fun e w' => e = .returned (.bool (getK l key).isSome) ∧ w' = w := by
  have HF := hide (lfindl_any a cap l key n hn hlen hs w hK)
  have HK := hide hK
  have HLn := hide hn
  have HS := hide hs
  obtain ⟨gs, hgs⟩ : ∃ gs, (getK l key).isSome = gs := ⟨_, rfl⟩
  rw [hgs]
  have HGs := hide hgs
  clear hK hn hs hgs
  go_enter Tryz.func16, Tryz.ntmps16
  go_wp2_with fail
  refine HF.out.mono ?_
  rintro e w' ⟨i, rfl, hi, ew⟩
  obtain rfl : w = w' := ew.symm
  have HI := hide hi
  have hin : i ≤ n := by
    have := hi.1
    rw [keysOf_length, HLn.out] at this
    exact this
  clear hi
  by_cases hlt : i < n
  · have hjl : i < l.length := by rw [HLn.out]; exact hlt
    obtain ⟨b, off, e, hk0, hk1⟩ := HK.out.at hjl
    subst e
    have heq := eq_str l[i].1 key
    have hg : (getK l key).isSome = decide (l[i].1 = key) := by
      by_cases h : l[i].1 = key
      · obtain ⟨_, h2⟩ := getK_stands HS.out (show Stands l key i from ⟨hjl, h⟩)
        rw [h2, decide_eq_true h]
        rfl
      · rw [getK_none HS.out HI.out (fun ⟨_, h2⟩ => h h2), decide_eq_false h]
        rfl
    rw [HGs.out] at hg
    clear hk1 HGs
    rw [← hg] at heq
    clear hg
    generalize l[i].1 = jk at *
    clear hjl
    go_wp2_with fail
    go_ret
    exact ⟨rfl, rfl⟩
  · obtain rfl : i = n := by omega
    have hg : (getK l key).isSome = false := by
      rw [getK_none HS.out HI.out (fun ⟨h1, _⟩ => by rw [HLn.out] at h1; omega)]
      rfl
    rw [HGs.out] at hg
    subst hg
    go_wp2_with fail
    go_ret
    exact ⟨rfl, rfl⟩

/-- One pair more of a range. -/
def rgL (lo hi : ByteArray) (lim : Int) (xs : List Kv) (x : Kv) : List Kv := if ¬ klt x.1 lo ∧ (hi = ⟨#[]⟩ ∨ klt x.1 hi) ∧ (lim < 1 ∨ (xs.length : Int) < lim) then xs ++ [x] else xs
theorem rgL_len (lo hi : ByteArray) (lim : Int) (xs : List Kv) (x : Kv) : (rgL lo hi lim xs x).length ≤ xs.length + 1 := by
  unfold rgL
  split <;> simp
theorem rg_len (lo hi : ByteArray) (lim : Int) : ∀ (l xs : List Kv), (l.foldl (rgL lo hi lim) xs).length ≤ xs.length + l.length
  | [], xs => by simp
  | x :: l, xs => by
    have h1 := rg_len lo hi lim l (rgL lo hi lim xs x)
    have h2 := rgL_len lo hi lim xs x
    rw [List.foldl_cons, List.length_cons]
    omega
theorem rg_full {lo hi : ByteArray} {lim : Int} (h1 : 1 ≤ lim) : ∀ (l xs : List Kv), lim ≤ (xs.length : Int) → l.foldl (rgL lo hi lim) xs = xs
  | [], _, _ => rfl
  | x :: l, xs, h => by
    have e : rgL lo hi lim xs x = xs := by
      unfold rgL
      rw [if_neg]
      rintro ⟨_, _, h3⟩
      omega
    rw [List.foldl_cons, e]
    exact rg_full h1 l xs h
theorem rg_end {lo hi : ByteArray} {lim : Int} (h1 : hi ≠ ⟨#[]⟩) : ∀ (l xs : List Kv), (∀ y ∈ l, ¬ klt y.1 hi) → l.foldl (rgL lo hi lim) xs = xs
  | [], _, _ => rfl
  | x :: l, xs, h => by
    have e : rgL lo hi lim xs x = xs := by
      unfold rgL
      rw [if_neg]
      rintro ⟨_, h2, _⟩
      rcases h2 with h2 | h2
      · exact h1 h2
      · exact h x (List.mem_cons_self ..) h2
    rw [List.foldl_cons, e]
    exact rg_end h1 l xs fun y hy => h y (List.mem_cons_of_mem _ hy)
theorem rg_scan (lo hi : ByteArray) (lim : Int) : ∀ (l xs : List Kv), (l.map Prod.fst).Pairwise klt → (lim < 1 ∨ (xs.length : Int) < lim) → l.foldl (rgL lo hi lim) xs = (scanRun hi lim xs (fromK lo l)).1
  | [], xs, _, _ => by simp [fromK, scanRun]
  | x :: l, xs, hs, hl => by
    rw [List.map_cons, List.pairwise_cons] at hs
    rw [List.foldl_cons]
    by_cases h1 : klt x.1 lo
    · have e1 : rgL lo hi lim xs x = xs := by
        unfold rgL
        rw [if_neg]
        rintro ⟨h2, _⟩
        exact h2 h1
      have e2 : fromK lo (x :: l) = fromK lo l := by
        unfold fromK
        rw [List.filter_cons]
        simp [h1]
      rw [e1, e2]
      exact rg_scan lo hi lim l xs hs.2 hl
    · have e2 : fromK lo (x :: l) = x :: fromK lo l := by
        unfold fromK
        rw [List.filter_cons]
        simp [h1]
      rw [e2, scanRun_cons]
      by_cases h2 : hi ≠ ⟨#[]⟩ ∧ ¬ klt x.1 hi
      · have e1 : rgL lo hi lim xs x = xs := by
          unfold rgL
          rw [if_neg]
          rintro ⟨_, h3, _⟩
          exact h3.elim h2.1 h2.2
        have e3 : scanStep hi lim xs x = (xs, false) := if_pos h2
        rw [e1, e3]
        refine rg_end h2.1 l xs fun y hy h3 => ?_
        exact h2.2 (klt_trans (hs.1 y.1 (List.mem_map.2 ⟨y, hy, rfl⟩)) h3)
      · have h3 : hi = ⟨#[]⟩ ∨ klt x.1 hi := by
          by_cases h : hi = ⟨#[]⟩
          · exact .inl h
          · exact .inr (Classical.byContradiction fun h4 => h2 ⟨h, h4⟩)
        have e1 : rgL lo hi lim xs x = xs ++ [x] := if_pos ⟨h1, h3, hl⟩
        have e3 : scanStep hi lim xs x = (xs ++ [x], decide (lim < 1) || decide (((xs.length + 1 : Nat) : Int) < lim)) := if_neg h2
        rw [e1, e3]
        by_cases h4 : lim < 1 ∨ ((xs.length + 1 : Nat) : Int) < lim
        · rw [if_pos (by simp only [Bool.or_eq_true, decide_eq_true_eq]; exact h4)]
          exact rg_scan lo hi lim l (xs ++ [x]) hs.2 (by rw [List.length_append, List.length_singleton]; exact h4)
        · rw [not_or] at h4
          have h6 : ¬ (decide (lim < 1) || decide (((xs.length + 1 : Nat) : Int) < lim)) = true := by simp; omega
          rw [if_neg h6]
          exact rg_full (by omega) l (xs ++ [x]) (by rw [List.length_append, List.length_singleton]; omega)
theorem range_scan (lo hi : ByteArray) (lim : Int) {l : List Kv} (hs : (l.map Prod.fst).Pairwise klt) : l.foldl (rgL lo hi lim) [] = scanL lo hi lim l := by
  unfold scanL
  exact rg_scan lo hi lim l [] hs (by simp; omega)

set_option maxRecDepth 100000 in
set_option maxHeartbeats 1600000 in
/-- A number's remainder, from 0 on. -/
theorem within_emod (a : Int) (n : Nat) (hn : 0 < n) (hn2 : n ≤ 1000000) (w : World) : Calls Tryz.prog 11 #[.int .i64 a, .int .i64 (n : Nat)] w fun e w' => e = .returned (.int .i64 (a % (n : Int))) ∧ w' = w := by
  have h1 := Int.tmod_lt_of_pos a (show (0 : Int) < n by omega)
  have h2 := Int.lt_tmod_of_pos a (show (0 : Int) < n by omega)
  have h3 : a % (n : Int) = if a.tmod n < 0 then a.tmod n + n else a.tmod n := by
    have e := Int.tmod_eq_emod (a := a) (b := (n : Int))
    have h4 := Int.emod_nonneg a (show (n : Int) ≠ 0 by omega)
    have h5 := Int.emod_lt_of_pos a (show (0 : Int) < n by omega)
    rw [e] at h1 h2 ⊢
    by_cases hc : 0 ≤ a ∨ (n : Int) ∣ a
    · rw [if_pos hc] at h1 h2 ⊢
      rw [if_neg (by omega)]
      omega
    · rw [if_neg hc] at h1 h2 ⊢
      have h6 : a % (n : Int) ≠ 0 := fun h => hc (.inr (Int.dvd_of_emod_eq_zero h))
      rw [Int.natAbs_natCast] at *
      rw [if_pos (by omega)]
      omega
  rw [h3]
  clear h3
  generalize hy : a.tmod n = y at *
  by_cases h : y < 0
  · have t1 : decide (y < 0) = true := by simpa using h
    rw [if_pos h]
    go_enter Tryz.func11, Tryz.ntmps11
    go_wp2
    go_ret
    exact ⟨rfl, rfl⟩
  · have t1 : decide (y < 0) = false := by simp; omega
    rw [if_neg h]
    go_enter Tryz.func11, Tryz.ntmps11
    go_wp2
    go_ret
    exact ⟨rfl, rfl⟩

/-- A Put that is refused, by what a tree has. -/
theorem tg_put_bad {w : World} {O : Nat → Prop} {t p b m sm rb : Nat} {s : St} {q : Pg} {Dn S : Stt} {D : Dk} {G : Gh} {Rw : Nat → Prop} {ds : List Nat} {rd rt : Root?} (h : TG w O t p b m sm rb s q Dn S D G Rw ds rd rt) (k v : ByteArray) (hbad : k.size = 0 ∨ 48 < k.size ∨ 120 < v.size) (hkl : k.size ≤ 1000000) (hvl : v.size ≤ 1000000) :
    Calls Tryz.prog 12 #[.pointer (some ⟨t, 0, none⟩), .string k, .string v] w fun e w' => e = .returned (.int .i64 (mayE k v)) ∧ ∃ r, TG w' O t p b m sm rb s { q with rd := r } Dn S D G Rw ds rd rt ∧ KeepO O w w' := by
  refine (put_bad t p b m sm rb s q Dn S h.td.tm.sd h.td.tm.qd k v hbad hkl hvl w h.td.tm.pa h.td.tm.tr).mono ?_
  rintro e w' ⟨rfl, ⟨r, hA⟩, hT⟩
  have e1 : mayE k v = if k.size = 0 ∨ 48 < k.size then 1 else 5 := by
    unfold mayE
    by_cases h1 : k.size = 0 ∨ 48 < k.size
    · rw [if_pos h1, if_pos h1]
    · rw [if_neg h1, if_neg h1, if_pos (by omega)]
  rw [e1]
  exact ⟨rfl, r, h.ask r hA hT⟩
theorem scanL_len (lo hi : ByteArray) (lim : Int) (l : List Kv) : (scanL lo hi lim l).length ≤ l.length := by
  have h1 := scanRun_len hi lim (fromK lo l) []
  have h2 := fromK_len lo l
  unfold scanL
  simp only [List.length_nil] at h1
  omega

set_option maxRecDepth 100000 in
set_option maxHeartbeats 3200000 in
/-- Range: the row of those of a range, in memory of the call's own. -/
theorem lrange_any (a : Option Addr) (cap : Nat) (l : List (ByteArray × ByteArray)) (lo hi : ByteArray) (lim : Int) (hlen : l.length ≤ 1000) (w : World) (hK : KVsAt w a l) :
    Calls Tryz.prog 22 #[.slice a l.length cap, .string lo, .string hi, .int .i64 lim] w fun e w' => ∃ r, e = .returned r ∧ w'.ownsRow w.heap.size 42 2 r (l.foldl (rgL lo hi lim) []).length (flat (kvCells (l.foldl (rgL lo hi lim) []))) ∧ Turn [] w w' := by
  have HK := hide hK
  obtain ⟨n, HLn⟩ : ∃ n, Hid (l.length = n) := ⟨_, rfl⟩
  rw [HLn.out] at hlen ⊢
  have HFl : Hid (∀ j (h : j < l.length), (l.take (j + 1)).foldl (rgL lo hi lim) [] = rgL lo hi lim ((l.take j).foldl (rgL lo hi lim) []) (l[j].1, l[j].2)) := fun j h => by
    rw [List.take_succ_eq_append_getElem h, List.foldl_append]
    rfl
  have HFn : Hid (∀ j, ((l.take j).foldl (rgL lo hi lim) []).length ≤ n) := fun j => by
    have h1 := rg_len lo hi lim (l.take j) []
    have h2 : (l.take j).length ≤ l.length := by rw [List.length_take]; omega
    rw [HLn.out] at h2
    simp only [List.length_nil] at h1
    omega
  clear hK
  go_enter Tryz.func22, Tryz.ntmps22
  go_wp2_with fail
  go_loopw [9, 10] (fun r i wr => ∃ j : Nat, j ≤ n ∧ i = .int .i64 (j : Nat) ∧ wr.ownsRow w.heap.size 42 2 r ((l.take j).foldl (rgL lo hi lim) []).length (flat (kvCells ((l.take j).foldl (rgL lo hi lim) []))) ∧ Turn [] w wr) (fun _ i _ => n - (intOf i).toNat)
  case atStart => exact ⟨0, Nat.zero_le _, rfl, World.ownsRow_nil _ _ _ _, Turn.refl _ _⟩
  case round =>
    obtain ⟨j, hj, rfl, hO, hT⟩ := hrel
    by_cases hlt : j < n
    · have hjl : j < l.length := by rw [HLn.out]; exact hlt
      obtain ⟨b, off, e, hk0, hk1⟩ := (HK.out.turn0 hT).at hjl
      subst e
      have HE := hide (HFl.out j hjl)
      have HO := hide hO
      have HT := hide hT
      have hbd := HFn.out j
      have hsz := hT.size
      have HP : Hid (PairsAt (wr.alloc (.cells #[.string l[j].1, .string l[j].2] 42)) (some ⟨wr.heap.size, 0, none⟩) (kvCells [(l[j].1, l[j].2)])) := by
        refine (KVsAt.pairs (l := [(l[j].1, l[j].2)]) (.inr ⟨wr.heap.size, 0, rfl, fun i hi => ?_⟩) :)
        have : i = 0 := by simpa using hi
        subst this
        exact ⟨World.cell?_alloc_at _ _ _ _ rfl, World.cell?_alloc_at _ _ _ _ rfl⟩
      obtain ⟨oa, oc, rfl⟩ := own_form hO
      clear hO hT
      generalize (l.take j).foldl (rgL lo hi lim) [] = xs at *
      generalize l[j].1 = jk at *
      generalize l[j].2 = jv at *
      obtain ⟨xn, hxn⟩ : ∃ xn, xn = xs.length := ⟨_, rfl⟩
      have HXn := hide hxn
      rw [← hxn] at hbd HO ⊢
      clear hjl hxn
      have HP1 := hide (less_klt jk lo)
      have HP2 := hide (toList_empty hi)
      have HP3 := hide (less_klt jk hi)
      go_upto_region 5 with fail
      go_cut [46] from 15 to 53 (fun u wx => u = .bool (decide (¬ klt jk lo ∧ (hi = ⟨#[]⟩ ∨ klt jk hi) ∧ (lim < 1 ∨ (xn : Int) < lim))) ∧ wx = wr)
      case first =>
        have hE : hi = ⟨#[]⟩ ↔ hi.size = 0 := ⟨fun h => by rw [h]; rfl, fun h => by
          cases hi with
          | mk d => exact congrArg ByteArray.mk (Array.eq_empty_of_size_eq_zero h)⟩
        have d1 := HP1.out
        have d2 := HP2.out
        have d3 := HP3.out
        by_cases h1 : klt jk lo
        · rw [decide_eq_true h1] at d1
          have HF := hide (show ¬ (¬ klt jk lo ∧ (hi = ⟨#[]⟩ ∨ klt jk hi) ∧ (lim < 1 ∨ (xn : Int) < lim)) from fun h => h.1 h1)
          clear d2 d3 hE h1
          clear HP1 HP2 HP3
          go_wp2_with fail
          go_meet
          case rel => exact ⟨by rw [decide_eq_false (HF.out)], rfl⟩
        · rw [decide_eq_false h1] at d1
          by_cases h2 : hi.size = 0
          · rw [decide_eq_true h2] at d2
            have H2e := hide (hE.2 h2)
            clear d3 hE
            by_cases h3 : lim < 1
            · have HF := hide (show ¬ klt jk lo ∧ (hi = ⟨#[]⟩ ∨ klt jk hi) ∧ (lim < 1 ∨ (xn : Int) < lim) from ⟨h1, .inl H2e.out, .inl h3⟩)
              clear HP1 HP2 HP3
              go_wp2_with fail
              go_meet
              case rel => exact ⟨by rw [decide_eq_true (HF.out)], rfl⟩
            · by_cases h4 : (xn : Int) < lim
              · have HF := hide (show ¬ klt jk lo ∧ (hi = ⟨#[]⟩ ∨ klt jk hi) ∧ (lim < 1 ∨ (xn : Int) < lim) from ⟨h1, .inl H2e.out, .inr h4⟩)
                clear HP1 HP2 HP3
                go_wp2_with fail
                go_meet
                case rel => exact ⟨by rw [decide_eq_true (HF.out)], rfl⟩
              · have HF := hide (show ¬ (¬ klt jk lo ∧ (hi = ⟨#[]⟩ ∨ klt jk hi) ∧ (lim < 1 ∨ (xn : Int) < lim)) from fun h => h.2.2.elim h3 h4)
                clear HP1 HP2 HP3
                go_wp2_with fail
                go_meet
                case rel => exact ⟨by rw [decide_eq_false (HF.out)], rfl⟩
          · rw [decide_eq_false h2] at d2
            have H2e : Hid (¬ hi = ⟨#[]⟩) := fun h => h2 (hE.1 h)
            clear hE
            by_cases h5 : klt jk hi
            · rw [decide_eq_true h5] at d3
              by_cases h3 : lim < 1
              · have HF := hide (show ¬ klt jk lo ∧ (hi = ⟨#[]⟩ ∨ klt jk hi) ∧ (lim < 1 ∨ (xn : Int) < lim) from ⟨h1, .inr h5, .inl h3⟩)
                clear HP1 HP2 HP3
                go_wp2_with fail
                go_meet
                case rel => exact ⟨by rw [decide_eq_true (HF.out)], rfl⟩
              · by_cases h4 : (xn : Int) < lim
                · have HF := hide (show ¬ klt jk lo ∧ (hi = ⟨#[]⟩ ∨ klt jk hi) ∧ (lim < 1 ∨ (xn : Int) < lim) from ⟨h1, .inr h5, .inr h4⟩)
                  clear HP1 HP2 HP3
                  go_wp2_with fail
                  go_meet
                  case rel => exact ⟨by rw [decide_eq_true (HF.out)], rfl⟩
                · have HF := hide (show ¬ (¬ klt jk lo ∧ (hi = ⟨#[]⟩ ∨ klt jk hi) ∧ (lim < 1 ∨ (xn : Int) < lim)) from fun h => h.2.2.elim h3 h4)
                  clear HP1 HP2 HP3
                  go_wp2_with fail
                  go_meet
                  case rel => exact ⟨by rw [decide_eq_false (HF.out)], rfl⟩
            · rw [decide_eq_false h5] at d3
              have HF := hide (show ¬ (¬ klt jk lo ∧ (hi = ⟨#[]⟩ ∨ klt jk hi) ∧ (lim < 1 ∨ (xn : Int) < lim)) from fun h => h.2.1.elim H2e.out h5)
              clear HP1 HP2 HP3
              go_wp2_with fail
              go_meet
              case rel => exact ⟨by rw [decide_eq_false (HF.out)], rfl⟩
      case rest =>
        obtain ⟨rfl, rfl⟩ := hcut
        clear HP1 HP2 HP3
        by_cases hP : ¬ klt jk lo ∧ (hi = ⟨#[]⟩ ∨ klt jk hi) ∧ (lim < 1 ∨ (xn : Int) < lim)
        · have hd := decide_eq_true hP
          have HE' : Hid ((l.take (j + 1)).foldl (rgL lo hi lim) [] = xs ++ [(jk, jv)]) := by
            show _ = _
            rw [HE.out]
            unfold rgL
            rw [HXn.out] at hP
            exact if_pos hP
          have HOa := hide (own_turn HO.out ((Turn.refl [] wc).alloc (.cells #[.string jk, .string jv] 42)) (by simp))
          have HTa := hide (HT.out.alloc (.cells #[.string jk, .string jv] 42))
          rw [hd]
          clear HE hP hd
          go_wp2_with (at_builtin; refine append_pairsT 28 Tryz.underlying28 rfl _ _ rfl w.heap.size (.slice oa xn oc) xn (kvCells xs) rfl HOa.out (some ⟨wc.heap.size, 0, none⟩) 1 1 (kvCells [(jk, jv)]) rfl rfl (by simp) HP.out (kv_one _) (by omega) (by simp; omega) ?_; intro v' w3 hown3 hgrow3 _; have HO3 := hide hown3; have HG3 := hide hgrow3; clear hown3 hgrow3)
          go_roundw
          case rel =>
            refine ⟨j + 1, by omega, by go_num, ?_, HTa.out.grown HG3.out (fun g hg => .inr (HOa.out.lt g hg).1)⟩
            rw [HE'.out, List.length_append, kv_append, ← HXn.out]
            exact HO3.out
          case measure => simp [intOf]; omega
        · have hd := decide_eq_false hP
          have HE' : Hid ((l.take (j + 1)).foldl (rgL lo hi lim) [] = xs) := by
            show _ = _
            rw [HE.out]
            unfold rgL
            rw [HXn.out] at hP
            exact if_neg hP
          rw [hd]
          clear HE hP hd
          go_wp2_with fail
          go_roundw
          case rel => exact ⟨j + 1, by omega, by go_num, by rw [HE'.out, ← HXn.out]; exact HO.out, HT.out⟩
          case measure => simp [intOf]; omega
    · obtain rfl : j = n := by omega
      have HO := hide hO
      have HT := hide hT
      obtain ⟨ra, rc, rfl⟩ := own_form hO
      clear hO hT
      go_wp2_with fail
      go_ret
      have h := HO.out
      rw [← HLn.out, List.take_length] at h
      rw [← HLn.out, List.take_length]
      exact ⟨_, rfl, h, HT.out⟩

end Go.Proofs.YthehkckdecckhaaGreatDoor

namespace Go.Proofs.YthehkckdecckhaaGreatDoor
open Go.RowKit Go.Maps

/-- A round of TreePlays begins. -/
structure PlI (w0 wr : World) (t p b m i : Nat) (v5 v6 : Value) : Prop where
  ex : ∃ (O : Nat → Prop) (sm rb : Nat) (s : St) (q : Pg) (Dn S : Stt) (D : Dk) (G : Gh) (Rw : Nat → Prop) (ds : List Nat) (rd rt : Root?) (a5 : Option Addr) (c5 : Nat) (a6 : Option Addr) (c6 : Nat), TG wr O t p b m sm rb s q Dn S D G Rw ds rd rt ∧ Fresh Dn S ds rd rt ∧ v5 = .slice a5 (flatR rt).length c5 ∧ RowO wr O a5 (flatR rt) ∧ v6 = .slice a6 (flatR rd).length c6 ∧ RowO wr O a6 (flatR rd) ∧ (flatR rt).length ≤ i ∧ (flatR rd).length ≤ i ∧ s.n = 8192 ∧ s.k ≤ 1000 * i ∧ (∀ x, x < w0.heap.size → x ≠ 1 → O x) ∧ Turn [] w0 wr

theorem PlI.turn0 {w0 wr wr' : World} {t p b m i : Nat} {v5 v6 : Value} (h : PlI w0 wr t p b m i v5 v6) (hT : Turn [] wr wr') : PlI w0 wr' t p b m i v5 v6 := by
  obtain ⟨O, sm, rb, s, q, Dn, S, D, G, Rw, ds, rd, rt, a5, c5, a6, c6, h1, h2, h3, h4, h5, h6, h7, h8, h9, h10, h11, h12⟩ := h.ex
  exact ⟨O, sm, rb, s, q, Dn, S, D, G, Rw, ds, rd, rt, a5, c5, a6, c6, h1.quiet hT, h2, h3, h4.more hT (fun _ h => h), h5, h6.more hT (fun _ h => h), h7, h8, h9, h10, h11, h12.trans hT⟩

theorem KeepO.cell {O : Nat → Prop} {w w' : World} (h : KeepO O w w') {b o : Nat} {v : Value} (hb : O b) (hc : w.cell? ⟨b, o, none⟩ = some v) : w'.cell? ⟨b, o, none⟩ = some v := by
  obtain ⟨X, hT, hX⟩ := h
  exact (hT.cell (p := ⟨b, o, none⟩) (lt_of_cell hc) (fun hm => (hX _ hm).1 hb)).trans hc
theorem ClIn.keep {w w' : World} {O : Nat → Prop} {b o : Nat} {q : Cl} (h : ClIn w b o q) (hK : KeepO O w w') (hb : O b) : ClIn w' b o q :=
  ⟨hK.cell hb h.c0, hK.cell hb h.c1, hK.cell hb h.c2, hK.cell hb h.c3, hK.cell hb h.c4⟩
theorem clIn_alloc (w : World) (q : Cl) (T : TypeId) : ClIn (w.alloc (.cells #[.int .i64 q.kd, .int .i64 q.n, .string q.key, .string q.hi, .string q.val] T)) w.heap.size 0 q :=
  ⟨World.cell?_alloc_at _ _ _ _ rfl, World.cell?_alloc_at _ _ _ _ rfl, World.cell?_alloc_at _ _ _ _ rfl, World.cell?_alloc_at _ _ _ _ rfl, World.cell?_alloc_at _ _ _ _ rfl⟩

/-- What a change of the law leaves. -/
def ChP (O : Nat → Prop) (t p b m : Nat) (s : St) (Dn : Stt) (D : Dk) (rd : Root?) (w w' : World) (L : List Kv) : Prop :=
  KeepO O w w' ∧ ∃ (sm rb : Nat) (q : Pg) (S : Stt) (G : Gh) (Rw : Nat → Prop) (ds : List Nat) (rt : Root?), TG w' O t p b m sm rb s q Dn S D G Rw ds rd rt ∧ Fresh Dn S ds rd rt ∧ flatR rt = L
theorem putP_of {w : World} {O : Nat → Prop} {t p b m sm rb : Nat} {s : St} {q : Pg} {Dn S : Stt} {D : Dk} {G : Gh} {Rw : Nat → Prop} {ds : List Nat} {rd rt : Root?} (h : TG w O t p b m sm rb s q Dn S D G Rw ds rd rt) (k v : ByteArray) (hk1 : 0 < k.size) (hk : k.size ≤ 48) (hv : v.size ≤ 120) (hn : (flatR rt).length ≤ 300) (hnd : (flatR rd).length ≤ 240) (hs : s.n = 8192) :
    Calls Tryz.prog 12 #[.pointer (some ⟨t, 0, none⟩), .string k, .string v] w fun e w' => e = .returned (.int .i64 0) ∧ ChP O t p b m s Dn D rd w w' (putK (flatR rt) k v) := by
  have hr := h.room
  have hp := h.ok.pages
  have hc := count_le (pagesR rt)
  have hf := h.fresh
  refine (tg_put h k v hk1 hk hv (by omega) (by omega) (by omega)).mono ?_
  rintro e w' ⟨rfl, rt', G', Rw', r, S', ds', h1, h2, h3, _, h5⟩
  exact ⟨rfl, h5, sm, rb, _, S', G', Rw', ds', rt', h1, .inl h3, h2⟩
theorem delK_none {l : List Kv} {k : ByteArray} (h : getK l k = none) : delK l k = l := by
  unfold delK
  exact List.filter_eq_self.2 fun x hx => by simpa using getK_not h x hx
theorem delK_plain (l : List Kv) (k : ByteArray) : (l.filter fun x => !decide (x.1 = k)) = delK l k := by
  unfold delK
  exact List.filter_congr fun x _ => by simp
theorem delP_some {w : World} {O : Nat → Prop} {t p b m sm rb : Nat} {s : St} {q : Pg} {Dn S : Stt} {D : Dk} {G : Gh} {Rw : Nat → Prop} {ds : List Nat} {rd rt : Root?} (h : TG w O t p b m sm rb s q Dn S D G Rw ds rd rt) (k : ByteArray) (hn : (flatR rt).length ≤ 300) (hnd : (flatR rd).length ≤ 240) (hg : (getK (flatR rt) k).isSome = true) :
    Calls Tryz.prog 15 #[.pointer (some ⟨t, 0, none⟩), .string k] w fun e w' => e = .returned (.int .i64 0) ∧ ChP O t p b m s Dn D rd w w' (delK (flatR rt) k) := by
  obtain ⟨v, hv⟩ := Option.isSome_iff_exists.1 hg
  refine (tg_del h k v hv (by omega) (by omega)).mono ?_
  rintro e w' ⟨rfl, rt', G', Rw', r, S', ds', h1, h2, h3, _, h5⟩
  exact ⟨rfl, h5, sm, rb, _, S', G', Rw', ds', rt', h1, .inl h3, h2⟩
theorem delP_none {w : World} {O : Nat → Prop} {t p b m sm rb : Nat} {s : St} {q : Pg} {Dn S : Stt} {D : Dk} {G : Gh} {Rw : Nat → Prop} {ds : List Nat} {rd rt : Root?} (h : TG w O t p b m sm rb s q Dn S D G Rw ds rd rt) (hF : Fresh Dn S ds rd rt) (k : ByteArray) (hg : (getK (flatR rt) k).isSome = false) :
    Calls Tryz.prog 15 #[.pointer (some ⟨t, 0, none⟩), .string k] w fun e w' => e = .returned (.int .i64 2) ∧ ChP O t p b m s Dn D rd w w' (delK (flatR rt) k) := by
  have hg' : getK (flatR rt) k = none := by
    cases h : getK (flatR rt) k with
    | none => rfl
    | some v => rw [h] at hg; cases hg
  refine (tg_del_no h k hg').mono ?_
  rintro e w' ⟨rfl, G', Rw', r, h1, h2⟩
  exact ⟨rfl, h2, sm, rb, _, S, G', Rw', ds, rt, h1, hF, (delK_none hg').symm⟩
theorem RowO.wide {w : World} {O : Nat → Prop} {a : Option Addr} {l : List Kv} (hR : RowO w O a l) {t p b m sm rb : Nat} {s : St} {q : Pg} {Dn S : Stt} {D : Dk} {G : Gh} {Rw : Nat → Prop} {ds : List Nat} {rd rt : Root?} (h : TG w O t p b m sm rb s q Dn S D G Rw ds rd rt) : RowO w (fun x => x < w.heap.size ∧ x ≠ 1 ∧ x ≠ b ∧ x ≠ m) a l :=
  ⟨hR.kv, fun x hl ha => by
    obtain ⟨o1, o2⟩ := hR.own x hl ha
    exact ⟨⟨h.td.tm.ob _ o1, o2, fun e => h.td.tm.no b (by simp) (e ▸ o1), fun e => h.td.tm.no m (by simp) (e ▸ o1)⟩, o2⟩⟩

set_option maxRecDepth 100000 in
set_option maxHeartbeats 25600000 in
theorem plays_any (aa : Option Addr) (ca : Nat) (l : List Cl) (hll : l.length ≤ 9223372036854775807) (w : World) (hTab : Tab w) (hA : ClsAt w aa l) (hSz : SizedC l) : Calls Tryz.prog 3 #[.slice aa l.length ca] w fun e w' => e = .returned (.bool true) ∧ Turn [] w w' := by
  have HTab := hide hTab
  have HA := hide hA
  have HSz := hide hSz
  have hs0 : 1 < w.heap.size := lt_of_cell (hTab 0 (by omega))
  clear hTab hA hSz
  obtain ⟨nl, HNl, hnl9⟩ : ∃ nl, Hid (l.length = nl) ∧ nl ≤ 9223372036854775807 := ⟨_, rfl, hll⟩
  rw [HNl.out]
  go_enter Tryz.func3, Tryz.ntmps3
  go_wp2_with fail
  refine (known_any w HTab.out).mono ?_
  rintro e w0 ⟨rfl, hT0⟩
  have HTab0 := hide (HTab.out.turn hT0 (by simp))
  have HT0 := hide hT0
  have h0s := hT0.size
  clear hT0
  go_wp2_with fail
  have HMd := hide (made_new 8192 (by omega) (by omega) w0 HTab0.out)
  refine HMd.out.mono ?_
  rintro e w1 ⟨t0, p0, b, m, sm, rb, r, rfl, g1, g2, g3, g4, g5, g6, g7, hO, hTr1, hA1, hT1⟩
  have HTG := hide (tg_of_new (by omega) g1 g2 g3 g4 g5 g6 g7 hO hTr1 hA1 hT1)
  have HT1 := hide (HT0.out.then hT1 (by simp))
  have h1s := hT1.size
  clear hTr1 hA1 hT1 hO HMd g1 g2 g5 g6 g7
  go_wp2_with fail
  go_loopw [4, 5, 6, 7, 8, 9, 10, 11, 12, 13] (fun tv a d iv _ _ _ _ _ _ wr => ∃ i t p : Nat, i ≤ nl ∧ i ≤ 150 ∧ tv = .pointer (some ⟨t, 0, none⟩) ∧ iv = .int .i64 (i : Nat) ∧ Hid (PlI w wr t p b m i a d)) (fun _ _ _ iv _ _ _ _ _ _ _ => 150 - (intOf iv).toNat)
  case atStart =>
    refine ⟨0, t0, p0, by omega, by omega, rfl, rfl, ⟨_, sm, rb, _, _, _, _, _, _, _, [], none, none, none, 0, none, 0, HTG.out, .inr ⟨rfl, rfl, rfl⟩, rfl, RowO.nil _ _ _, rfl, RowO.nil _ _ _, Nat.zero_le _, Nat.zero_le _, rfl, Nat.zero_le _, fun x hx h1 => ⟨by omega, h1⟩, HT1.out⟩⟩
  case round =>
    obtain ⟨i, t, p, hi, hi150, rfl, rfl, HI⟩ := hrel
    rename World => wr
    obtain ⟨O, sm2, rb2, s, q, Dn, S, D, G, Rw, ds, rd, rt, a5, c5, a6, c6, hTG, hF, rfl, h5, rfl, h6, hlen, hrd, hn, hk, hOo, hT⟩ := HI.out.ex
    have HTG2 := hide hTG
    have HF := hide hF
    have H5 := hide h5
    have H6 := hide h6
    have HOo := hide hOo
    have HT := hide hT
    have HX := hide (show (flatR rt).length ≤ 150 ∧ (flatR rd).length ≤ 150 ∧ (flatR rt).length ≤ i ∧ (flatR rd).length ≤ i ∧ s.n = 8192 ∧ s.k ≤ 1000 * i from ⟨by omega, by omega, hlen, hrd, hn, hk⟩)
    have hsr := hT.size
    have htr := hTG.td.tm.lts t (by simp)
    clear hTG hF h5 h6 hlen hrd hn hk hOo hT
    by_cases hlt : i < nl
    · by_cases h15 : i < 150
      · have hil : i < l.length := by rw [HNl.out]; exact hlt
        obtain ⟨ba, oa, rfl, hci⟩ := HA.out.at hil
        have hszc := HSz.out i hil
        have hcw := hci.turn0 HT.out
        generalize l.getD i Cl.nil = c at *
        obtain ⟨kd, cn, key, chi, val⟩ := c
        have z0 := hcw.c0
        have z1 := hcw.c1
        have z2 := hcw.c2
        have z3 := hcw.c3
        have z4 := hcw.c4
        obtain ⟨sz1, sz2, sz3⟩ := hszc
        simp only at z0 z1 z2 z3 z4 sz1 sz2 sz3
        clear hci hcw hil
        go_upto_region 11 with fail
        have HCin := hide (clIn_alloc wr ⟨kd, cn, key, chi, val⟩ 30)
        have hTa : Turn [] wr (wr.alloc (.cells #[.int .i64 kd, .int .i64 cn, .string key, .string chi, .string val] 30)) := (Turn.refl [] wr).alloc _
        have hszA : (wr.alloc (.cells #[.int .i64 kd, .int .i64 cn, .string key, .string chi, .string val] 30)).heap.size = wr.heap.size + 1 := by simp
        clear z0 z1 z2 z3 z4
        generalize wr.alloc (.cells #[.int .i64 kd, .int .i64 cn, .string key, .string chi, .string val] 30) = W1 at *
        obtain ⟨C, hC⟩ : ∃ C, C = wr.heap.size := ⟨_, rfl⟩
        rw [← hC] at HCin ⊢
        have HCO : Hid (More O wr W1 C) := .inr ⟨by omega, by omega⟩
        have HTG3 := hide (HTG2.out.more hTa)
        have H53 := hide (H5.out.more hTa (O' := More O wr W1) (fun _ h => .inl h))
        have H63 := hide (H6.out.more hTa (O' := More O wr W1) (fun _ h => .inl h))
        have HOo3 : Hid (∀ x, x < w.heap.size → x ≠ 1 → More O wr W1 x) := fun x h1 h2 => .inl (HOo.out x h1 h2)
        have HT3 := hide (HT.out.trans hTa)
        have hC1 : C < W1.heap.size := by omega
        have h0w := HT3.out.size
        have HC0 : Hid (∀ W : World, KeepO (More O wr W1) W1 W → ClIn W C 0 ⟨kd, cn, key, chi, val⟩) := fun W hW => HCin.out.keep hW HCO.out
        clear HTG2 H5 H6 HOo HT hTa hC hszA HCO
        generalize More O wr W1 = O1 at *
        have y0 := HCin.out.c0
        have y1 := HCin.out.c1
        have y2 := HCin.out.c2
        have y3 := HCin.out.c3
        have y4 := HCin.out.c4
        simp only at y0 y1 y2 y3 y4
        by_cases hbig : 1000 < key.size + chi.size + val.size
        · have HNext : Hid (PlI w W1 t p b m (i + 1) (.slice a5 (flatR rt).length c5) (.slice a6 (flatR rd).length c6)) := by
            have := HX.out
            exact ⟨O1, sm2, rb2, s, q, Dn, S, D, G, Rw, ds, rd, rt, a5, c5, a6, c6, HTG3.out, HF.out, rfl, H53.out, rfl, H63.out, by omega, by omega, this.2.2.2.2.1, by omega, HOo3.out, HT3.out⟩
          go_wp2_with fail
          go_roundw
          case rel => exact ⟨i + 1, t, p, by omega, by omega, rfl, by go_num, HNext.out⟩
          case measure => simp [intOf]; omega
        · go_upto_block 2 with (refine (within_any kd 7 (by omega) (by omega) W1).mono ?_; rintro e wx ⟨⟨k, hk7, rfl⟩, ew⟩; obtain rfl : W1 = wx := ew.symm)
          go_cut [4, 5, 6, 9, 10, 11, 12, 13] from 22 to 185 (fun tv a d _ _ _ _ _ wx => ∃ t2 p2 : Nat, tv = .pointer (some ⟨t2, 0, none⟩) ∧ Hid (PlI w wx t2 p2 b m (i + 1) a d))
          case first =>
            have hbd : key.size ≤ 1000 ∧ chi.size ≤ 1000 ∧ val.size ≤ 1000 := ⟨by omega, by omega, by omega⟩
            obtain ⟨hb1, hb2, hb3⟩ := hbd
            obtain rfl | rfl | rfl | rfl | rfl | rfl | rfl : k = 0 ∨ k = 1 ∨ k = 2 ∨ k = 3 ∨ k = 4 ∨ k = 5 ∨ k = 6 := by omega
            · by_cases hok : (0 < key.size ∧ key.size ≤ 48) ∧ val.size ≤ 120
              · have HM0 : Hid (mayE key val = 0) := by
                  unfold Hid mayE
                  rw [if_neg (by omega), if_neg (by omega)]
                have HPut := hide (putP_of HTG3.out key val hok.1.1 hok.1.2 hok.2 (by have := HX.out; omega) (by have := HX.out; omega) HX.out.2.2.2.2.1)
                go_wp2_with fail
                refine HPut.out.mono ?_
                rintro e wP ⟨rfl, hK5, sm5, rb5, q5, S5, G5, Rw5, ds5, rt5, hTG5, hF5, hfl5⟩
                have hCP := HC0.out wP hK5
                have v2 := hCP.c2
                have v4 := hCP.c4
                simp only at v2 v4
                have HMay := hide (may_any key val (by omega) (by omega) wP)
                rw [HM0.out] at HMay
                have HT5 := hide (KeepO.from HT3.out hK5 HOo3.out)
                have HR5 := hide (H53.out.keep hK5)
                have HR6 := hide (H63.out.keep hK5)
                have hs5 := hK5.size
                have HTG5 := hide hTG5
                have HF5 := hide hF5
                have HFl5 := hide hfl5
                have HPl : Hid (Calls Tryz.prog 14 #[.slice a5 (flatR rt).length c5, .string key, .string val] wP fun e w' => ∃ a c, e = .returned (.slice a (putK (flatR rt) key val).length c) ∧ RowO w' (More O1 wP w') a (putK (flatR rt) key val) ∧ Turn [] wP w') := by
                  refine (lputl_any a5 c5 (flatR rt) key val (by have := HX.out; omega) HTG3.out.ok.rises wP HR5.out.kv).mono ?_
                  rintro e w' ⟨r, i, rfl, hp, hO, hT'⟩
                  rw [put_law hp] at hO
                  obtain ⟨a, c, hv, hR⟩ := RowO.new (O := O1) (by omega) hO
                  exact ⟨a, c, by rw [hv], hR, hT'⟩
                clear hK5 hTG5 hF5 hfl5 HPut hCP y0 y1 y2 y3 y4
                go_wp2_with fail
                refine HMay.out.mono ?_
                rintro e wP2 ⟨rfl, ew⟩
                obtain rfl : wP = wP2 := ew.symm
                go_wp2_with fail
                refine HPl.out.mono ?_
                rintro e wE ⟨a9, c9, rfl, hR9, hT9⟩
                have HNext : Hid (PlI w wE t p b m (i + 1) (.slice a9 (putK (flatR rt) key val).length c9) (.slice a6 (flatR rd).length c6)) := by
                  have hX := HX.out
                  refine ⟨_, sm5, rb5, s, q5, Dn, S5, D, G5, Rw5, ds5, rd, rt5, a9, c9, a6, c6, HTG5.out.more hT9, HF5.out, by rw [HFl5.out], by rw [HFl5.out]; exact hR9, rfl, HR6.out.more hT9 (fun _ h => .inl h), ?_, by omega, hX.2.2.2.2.1, by omega, fun x h1 h2 => .inl (HOo3.out x h1 h2), HT5.out.trans hT9⟩
                  rw [HFl5.out, putK_len HTG3.out.ok.rises]
                  split <;> omega
                clear hR9 hT9 HPl
                go_wp2_with fail
                go_meet
                case rel => exact ⟨t, p, rfl, HNext.out⟩
              · have HPut := hide (tg_put_bad HTG3.out key val (by omega) (by omega) (by omega))
                have hm0 : (mayE key val == 0) = false := by
                  unfold mayE
                  by_cases h1 : key.size = 0 ∨ 48 < key.size
                  · rw [if_pos h1]; rfl
                  · rw [if_neg h1, if_pos (by omega)]; rfl
                have HMay := hide (fun W => may_any key val (by omega) (by omega) W)
                generalize mayE key val = ec at *
                go_wp2_with fail
                refine HPut.out.mono ?_
                rintro e wP ⟨rfl, r, hTG5, hK5⟩
                have hCP := HC0.out wP hK5
                have v2 := hCP.c2
                have v4 := hCP.c4
                simp only at v2 v4
                have HNext : Hid (PlI w wP t p b m (i + 1) (.slice a5 (flatR rt).length c5) (.slice a6 (flatR rd).length c6)) := by
                  have hX := HX.out
                  exact ⟨O1, sm2, rb2, s, _, Dn, S, D, G, Rw, ds, rd, rt, a5, c5, a6, c6, hTG5, HF.out, rfl, H53.out.keep hK5, rfl, H63.out.keep hK5, by omega, by omega, hX.2.2.2.2.1, by omega, HOo3.out, KeepO.from HT3.out hK5 HOo3.out⟩
                clear hTG5 hK5 hCP y0 y1 y2 y3 y4 HPut
                go_wp2_with fail
                refine (HMay.out wP).mono ?_
                rintro e wP2 ⟨rfl, ew⟩
                obtain rfl : wP = wP2 := ew.symm
                go_wp2_with fail
                go_meet
                case rel => exact ⟨t, p, rfl, HNext.out⟩
            · cases hg : (getK (flatR rt) key).isSome with
              | true =>
                have HDel := hide (delP_some HTG3.out key (by have := HX.out; omega) (by have := HX.out; omega) hg)
                have HHas := hide (fun (W : World) (hW : KVsAt W a5 (flatR rt)) => lhas_any a5 c5 (flatR rt) key _ rfl (by have := HX.out; omega) HTG3.out.ok.rises W hW)
                rw [hg] at HHas
                go_wp2_with fail
                refine HDel.out.mono ?_
                rintro e wP ⟨rfl, hK5, sm5, rb5, q5, S5, G5, Rw5, ds5, rt5, hTG5, hF5, hfl5⟩
                have hCP := HC0.out wP hK5
                have v2 := hCP.c2
                simp only at v2
                have HT5 := hide (KeepO.from HT3.out hK5 HOo3.out)
                have HR5 := hide (H53.out.keep hK5)
                have HR6 := hide (H63.out.keep hK5)
                have HHas2 := hide (HHas.out wP HR5.out.kv)
                have hs5 := hK5.size
                have HTG5 := hide hTG5
                have HF5 := hide hF5
                have HFl5 := hide hfl5
                have HDl : Hid (Calls Tryz.prog 17 #[.slice a5 (flatR rt).length c5, .string key] wP fun e w' => ∃ a c, e = .returned (.slice a (delK (flatR rt) key).length c) ∧ RowO w' (More O1 wP w') a (delK (flatR rt) key) ∧ Turn [] wP w') := by
                  refine (ldelete_any a5 c5 (flatR rt) key (by have := HX.out; omega) wP HR5.out.kv).mono ?_
                  rintro e w' ⟨r, rfl, hO, hT'⟩
                  rw [delK_plain] at hO
                  obtain ⟨a, c, hv, hR⟩ := RowO.new (O := O1) (by omega) hO
                  exact ⟨a, c, by rw [hv], hR, hT'⟩
                clear hK5 hTG5 hF5 hfl5 HDel hCP y0 y1 y2 y3 y4 HHas
                go_wp2_with fail
                refine HHas2.out.mono ?_
                rintro e wP2 ⟨rfl, ew⟩
                obtain rfl : wP = wP2 := ew.symm
                go_wp2_with fail
                refine HDl.out.mono ?_
                rintro e wE ⟨a9, c9, rfl, hR9, hT9⟩
                have HNext : Hid (PlI w wE t p b m (i + 1) (.slice a9 (delK (flatR rt) key).length c9) (.slice a6 (flatR rd).length c6)) := by
                  have hX := HX.out
                  refine ⟨_, sm5, rb5, s, q5, Dn, S5, D, G5, Rw5, ds5, rd, rt5, a9, c9, a6, c6, HTG5.out.more hT9, HF5.out, by rw [HFl5.out], by rw [HFl5.out]; exact hR9, rfl, HR6.out.more hT9 (fun _ h => .inl h), ?_, by omega, hX.2.2.2.2.1, by omega, fun x h1 h2 => .inl (HOo3.out x h1 h2), HT5.out.trans hT9⟩
                  rw [HFl5.out]
                  have : (delK (flatR rt) key).length ≤ (flatR rt).length := List.length_filter_le ..
                  omega
                clear hR9 hT9 HDl
                go_wp2_with fail
                go_meet
                case rel => exact ⟨t, p, rfl, HNext.out⟩
              | false =>
                have HDel := hide (delP_none HTG3.out HF.out key hg)
                have HHas := hide (fun (W : World) (hW : KVsAt W a5 (flatR rt)) => lhas_any a5 c5 (flatR rt) key _ rfl (by have := HX.out; omega) HTG3.out.ok.rises W hW)
                rw [hg] at HHas
                go_wp2_with fail
                refine HDel.out.mono ?_
                rintro e wP ⟨rfl, hK5, sm5, rb5, q5, S5, G5, Rw5, ds5, rt5, hTG5, hF5, hfl5⟩
                have hCP := HC0.out wP hK5
                have v2 := hCP.c2
                simp only at v2
                have HT5 := hide (KeepO.from HT3.out hK5 HOo3.out)
                have HR5 := hide (H53.out.keep hK5)
                have HR6 := hide (H63.out.keep hK5)
                have HHas2 := hide (HHas.out wP HR5.out.kv)
                have hs5 := hK5.size
                have HTG5 := hide hTG5
                have HF5 := hide hF5
                have HFl5 := hide hfl5
                have HDl : Hid (Calls Tryz.prog 17 #[.slice a5 (flatR rt).length c5, .string key] wP fun e w' => ∃ a c, e = .returned (.slice a (delK (flatR rt) key).length c) ∧ RowO w' (More O1 wP w') a (delK (flatR rt) key) ∧ Turn [] wP w') := by
                  refine (ldelete_any a5 c5 (flatR rt) key (by have := HX.out; omega) wP HR5.out.kv).mono ?_
                  rintro e w' ⟨r, rfl, hO, hT'⟩
                  rw [delK_plain] at hO
                  obtain ⟨a, c, hv, hR⟩ := RowO.new (O := O1) (by omega) hO
                  exact ⟨a, c, by rw [hv], hR, hT'⟩
                clear hK5 hTG5 hF5 hfl5 HDel hCP y0 y1 y2 y3 y4 HHas
                go_wp2_with fail
                refine HHas2.out.mono ?_
                rintro e wP2 ⟨rfl, ew⟩
                obtain rfl : wP = wP2 := ew.symm
                go_wp2_with fail
                refine HDl.out.mono ?_
                rintro e wE ⟨a9, c9, rfl, hR9, hT9⟩
                have HNext : Hid (PlI w wE t p b m (i + 1) (.slice a9 (delK (flatR rt) key).length c9) (.slice a6 (flatR rd).length c6)) := by
                  have hX := HX.out
                  refine ⟨_, sm5, rb5, s, q5, Dn, S5, D, G5, Rw5, ds5, rd, rt5, a9, c9, a6, c6, HTG5.out.more hT9, HF5.out, by rw [HFl5.out], by rw [HFl5.out]; exact hR9, rfl, HR6.out.more hT9 (fun _ h => .inl h), ?_, by omega, hX.2.2.2.2.1, by omega, fun x h1 h2 => .inl (HOo3.out x h1 h2), HT5.out.trans hT9⟩
                  rw [HFl5.out]
                  have : (delK (flatR rt) key).length ≤ (flatR rt).length := List.length_filter_le ..
                  omega
                clear hR9 hT9 HDl
                go_wp2_with fail
                go_meet
                case rel => exact ⟨t, p, rfl, HNext.out⟩
            · cases hg : getK (flatR rt) key with
              | none =>
                have HG := hide hg
                have hgs : (getK (flatR rt) key).isSome = false := by rw [hg]; rfl
                have HGet := hide (tg_get HTG3.out key)
                have HHas := hide (fun (W : World) (hW : KVsAt W a5 (flatR rt)) => lhas_any a5 c5 (flatR rt) key _ rfl (by have := HX.out; omega) HTG3.out.ok.rises W hW)
                have HFnd := hide (fun (W : World) (hW : KVsAt W a5 (flatR rt)) => lfindl_any a5 c5 (flatR rt) key _ rfl (by have := HX.out; omega) HTG3.out.ok.rises W hW)
                rw [hgs] at HHas
                rw [hg] at HGet
                unfold gotV at HGet
                simp only [Option.getD_none, Option.isSome_none] at HGet
                clear hg hgs
                go_wp2_with fail
                refine HGet.out.mono ?_
                rintro e wP ⟨rfl, G5, Rw5, r, hTG5, hK5⟩
                have hCP := HC0.out wP hK5
                have v2 := hCP.c2
                simp only at v2
                have HR5 := hide (H53.out.keep hK5)
                have HHas2 := hide (HHas.out wP HR5.out.kv)
                have HFnd2 := hide (HFnd.out wP HR5.out.kv)
                have HNext : Hid (PlI w wP t p b m (i + 1) (.slice a5 (flatR rt).length c5) (.slice a6 (flatR rd).length c6)) := by
                  have hX := HX.out
                  exact ⟨O1, sm2, rb2, s, _, Dn, S, D, _, _, ds, rd, rt, a5, c5, a6, c6, hTG5, HF.out, rfl, HR5.out, rfl, H63.out.keep hK5, by omega, by omega, hX.2.2.2.2.1, by omega, HOo3.out, KeepO.from HT3.out hK5 HOo3.out⟩
                clear hK5 hTG5 HGet hCP y0 y1 y2 y3 y4 HHas HFnd
                go_wp2_with fail
                refine HFnd2.out.mono ?_
                rintro e wP2 ⟨j, rfl, hjp, ew⟩
                obtain rfl : wP = wP2 := ew.symm
                clear hjp
                go_wp2_with fail
                refine HHas2.out.mono ?_
                rintro e wP2 ⟨rfl, ew⟩
                obtain rfl : wP = wP2 := ew.symm
                go_wp2_with fail
                go_meet
                case rel => exact ⟨t, p, rfl, HNext.out⟩
              | some gv =>
                have HG := hide hg
                have hgs : (getK (flatR rt) key).isSome = true := by rw [hg]; rfl
                have HGet := hide (tg_get HTG3.out key)
                have HHas := hide (fun (W : World) (hW : KVsAt W a5 (flatR rt)) => lhas_any a5 c5 (flatR rt) key _ rfl (by have := HX.out; omega) HTG3.out.ok.rises W hW)
                have HFnd := hide (fun (W : World) (hW : KVsAt W a5 (flatR rt)) => lfindl_any a5 c5 (flatR rt) key _ rfl (by have := HX.out; omega) HTG3.out.ok.rises W hW)
                rw [hgs] at HHas
                rw [hg] at HGet
                unfold gotV at HGet
                simp only [Option.getD_some, Option.isSome_some] at HGet
                clear hg hgs
                go_wp2_with fail
                refine HGet.out.mono ?_
                rintro e wP ⟨rfl, G5, Rw5, r, hTG5, hK5⟩
                have hCP := HC0.out wP hK5
                have v2 := hCP.c2
                simp only at v2
                have HR5 := hide (H53.out.keep hK5)
                have HHas2 := hide (HHas.out wP HR5.out.kv)
                have HFnd2 := hide (HFnd.out wP HR5.out.kv)
                have HNext : Hid (PlI w wP t p b m (i + 1) (.slice a5 (flatR rt).length c5) (.slice a6 (flatR rd).length c6)) := by
                  have hX := HX.out
                  exact ⟨O1, sm2, rb2, s, _, Dn, S, D, _, _, ds, rd, rt, a5, c5, a6, c6, hTG5, HF.out, rfl, HR5.out, rfl, H63.out.keep hK5, by omega, by omega, hX.2.2.2.2.1, by omega, HOo3.out, KeepO.from HT3.out hK5 HOo3.out⟩
                clear hK5 hTG5 HGet hCP y0 y1 y2 y3 y4 HHas HFnd
                go_wp2_with fail
                refine HFnd2.out.mono ?_
                rintro e wP2 ⟨j, rfl, hjp, ew⟩
                obtain rfl : wP = wP2 := ew.symm
                have hst : ∃ hj : j < (flatR rt).length, (flatR rt)[j].2 = gv := by
                  refine Classical.byContradiction fun hc => ?_
                  by_cases hs : Stands (flatR rt) key j
                  · obtain ⟨h1, h2⟩ := getK_stands HTG3.out.ok.rises hs
                    rw [HG.out] at h2
                    exact hc ⟨h1, (Option.some.inj h2).symm⟩
                  · rw [getK_none HTG3.out.ok.rises hjp hs] at HG
                    cases HG.out
                obtain ⟨hjl, hjv⟩ := hst
                obtain ⟨nb, no, rfl, x1, x2⟩ := (HR5.out.kv).at hjl
                rw [hjv] at x2
                clear x1 hjv
                clear hjp
                go_wp2_with fail
                refine HHas2.out.mono ?_
                rintro e wP2 ⟨rfl, ew⟩
                obtain rfl : wP = wP2 := ew.symm
                go_wp2_with fail
                go_meet
                case rel => exact ⟨t, p, rfl, HNext.out⟩
            · have HLn := hide (scanL_len key chi cn (flatR rt))
              have HSc : Hid (∀ W : World, Turn [] W1 W → Calls Tryz.prog 21 #[.pointer (some ⟨t, 0, none⟩), .string key, .string chi, .int .i64 cn] W fun e w' => ∃ a c, e = .returned (.slice a (scanL key chi cn (flatR rt)).length c) ∧ KVsAt w' a (scanL key chi cn (flatR rt)) ∧ PlI w w' t p b m (i + 1) (.slice a5 (flatR rt).length c5) (.slice a6 (flatR rd).length c6) ∧ KeepO O1 W1 w') := fun W hW => by
                have hq := HTG3.out.quiet hW
                refine (tg_scan hq key chi cn (by have := HX.out; omega)).mono ?_
                rintro e w' ⟨r1, c1, rfl, hK1, _, _, GC, RwC, rC, hTC, hSC, _⟩
                have hKC := (KeepO.of0 hW).trans ((hSC.go _).keepO hq.td)
                have hX := HX.out
                exact ⟨r1, c1, rfl, hK1, ⟨O1, sm2, rb2, s, _, Dn, S, D, _, _, ds, rd, rt, a5, c5, a6, c6, hTC, HF.out, rfl, H53.out.keep hKC, rfl, H63.out.keep hKC, by omega, by omega, hX.2.2.2.2.1, by omega, HOo3.out, KeepO.from HT3.out hKC HOo3.out⟩, hKC⟩
              have HRg : Hid (∀ W W' : World, KeepO O1 W1 W → Turn [] W W' → Calls Tryz.prog 22 #[.slice a5 (flatR rt).length c5, .string key, .string chi, .int .i64 cn] W' fun e w' => ∃ a c, e = .returned (.slice a (scanL key chi cn (flatR rt)).length c) ∧ KVsAt w' a (scanL key chi cn (flatR rt)) ∧ Turn [] W w') := fun W W' hW hW2 => by
                refine (lrange_any a5 c5 (flatR rt) key chi cn (by have := HX.out; omega) W' ((H53.out.keep hW).kv.turn0 hW2)).mono ?_
                rintro e w' ⟨r, rfl, hO, hT'⟩
                rw [range_scan key chi cn HTG3.out.ok.rises] at hO
                have hsz := (hW.size)
                have hsz2 := hW2.size
                obtain ⟨a, c, hv, hR⟩ := RowO.new (O := O1) (by omega) hO
                exact ⟨a, c, by rw [hv], hR.kv, hW2.trans hT'⟩
              have HSm : Hid (∀ (W W' : World) (a1 a2 : Option Addr) (n1 n2 : Nat), KVsAt W a1 (scanL key chi cn (flatR rt)) → KVsAt W a2 (scanL key chi cn (flatR rt)) → Turn [] W W' → Calls Tryz.prog 20 #[.slice a1 (scanL key chi cn (flatR rt)).length n1, .slice a2 (scanL key chi cn (flatR rt)).length n2] W' fun e w' => e = .returned (.bool true) ∧ Turn [] W w') := fun W W' a1 a2 n1 n2 h1 h2 hW => by
                refine (lsame_any W' a1 a2 n1 n2 _ (h1.turn0 hW) (h2.turn0 hW) (by have := HLn.out; have := HX.out; omega)).mono ?_
                rintro e w' ⟨rfl, hT'⟩
                exact ⟨rfl, hW.trans hT'⟩
              have HNx : Hid (∀ W W' : World, PlI w W t p b m (i + 1) (.slice a5 (flatR rt).length c5) (.slice a6 (flatR rd).length c6) → Turn [] W W' → PlI w W' t p b m (i + 1) (.slice a5 (flatR rt).length c5) (.slice a6 (flatR rd).length c6)) := fun W W' h hW => h.turn0 hW
              have HCf : Hid (∀ W : World, KeepO O1 W1 W → W.cell? ⟨C, 2, none⟩ = some (.string key) ∧ W.cell? ⟨C, 3, none⟩ = some (.string chi) ∧ W.cell? ⟨C, 1, none⟩ = some (.int .i64 cn)) := fun W hW => by
                have h := HC0.out W hW
                exact ⟨h.c2, h.c3, h.c1⟩
              generalize scanL key chi cn (flatR rt) = L at *
              go_upto_region 30 with fail
              refine wp_region_noPanic ?_
              go_region_held3 (fun w' => w'.cell? ⟨C, 2, none⟩ = some (.string key) ∧ w'.cell? ⟨C, 3, none⟩ = some (.string chi) ∧ w'.cell? ⟨C, 1, none⟩ = some (.int .i64 cn)) (first | assumption | exact HCf.out _ (KeepO.of0 (Turn.refl [] _).drew) | exact HCf.out _ HK2.out | exact HCf.out _ HK3.out | exact HCf.out _ HK4.out)
                (first
                  | (go_at_call 21; with_reducible refine (HSc.out _ (Turn.refl [] W1).drew).mono ?_; rintro e w2 ⟨b1, n1, rfl, hL1, hP1, hk1⟩; have HL1 := hide hL1; have HP1 := hide hP1; have HK2 := hide hk1; clear hL1 hP1 hk1)
                  | (go_at_call 22; with_reducible refine (HRg.out w2 _ HK2.out (Turn.refl [] w2)).mono ?_; rintro e w3 ⟨b2, n2, rfl, hL2, hT4⟩; have HL2 := hide hL2; have HT4 := hide hT4; have HK3 := hide (HK2.out.trans (KeepO.of0 hT4)); clear hL2 hT4)
                  | (go_at_call 20; with_reducible refine (HSm.out w3 _ _ _ _ _ (HL1.out.turn0 HT4.out) HL2.out (Turn.refl [] w3)).mono ?_; rintro e w4 ⟨rfl, hT5⟩; have HT5 := hide hT5; have HK4 := hide (HK3.out.trans (KeepO.of0 hT5)); clear hT5))
              all_goals
                refine NoPanic.normal ?_
                have HNext := hide (HNx.out _ _ HP1.out (HT4.out.trans HT5.out))
                go_wp2_with fail
                go_meet
                case rel => exact ⟨t, p, rfl, HNext.out⟩
            · have HFr := hide (show S.fresh ≤ 480 by have := HTG3.out.fresh; have := HTG3.out.ok.pages; have := count_le (pagesR rt); have := HX.out; omega)
              have HCm := hide (tg_commit2 HTG3.out HF.out (by have := HTG3.out.room; have := HFr.out; have := HX.out; omega) (by have := HX.out; omega) (by have := HX.out; omega) (by have := HX.out; omega))
              go_wp2_with fail
              refine HCm.out.mono ?_
              rintro e wA ⟨rfl, smA, rbA, sA, qA, DnA, DA, GA, rtA, hTGA, hflA, hhtA, hkA, hnA, hKA⟩
              have HNext : Hid (PlI w wA t p b m (i + 1) (.slice a5 (flatR rt).length c5) (.slice a5 (flatR rt).length c5)) := by
                have hX := HX.out
                have hFr := HFr.out
                exact ⟨O1, smA, rbA, sA, qA, DnA, DnA, DA, GA, _, [], rtA, rtA, a5, c5, a5, c5, hTGA, .inr ⟨rfl, rfl, rfl⟩, by rw [hflA], by rw [hflA]; exact H53.out.keep hKA, by rw [hflA], by rw [hflA]; exact H53.out.keep hKA, by rw [hflA]; omega, by rw [hflA]; omega, by rw [hnA]; exact hX.2.2.2.2.1, by omega, HOo3.out, KeepO.from HT3.out hKA HOo3.out⟩
              clear hTGA hflA hhtA hkA hnA hKA HCm y0 y1 y2 y3 y4
              go_wp2_with fail
              go_meet
              case rel => exact ⟨t, p, rfl, HNext.out⟩
            · have HAb := hide (tg_abort HTG3.out)
              go_wp2_with fail
              refine HAb.out.mono ?_
              rintro e wA ⟨rfl, hTGA, hKA⟩
              have HNext : Hid (PlI w wA t p b m (i + 1) (.slice a6 (flatR rd).length c6) (.slice a6 (flatR rd).length c6)) := by
                have hX := HX.out
                exact ⟨O1, sm2, rb2, s, q, Dn, Dn, D, G, Rw, [], rd, rd, a6, c6, a6, c6, hTGA, .inr ⟨rfl, rfl, rfl⟩, rfl, H63.out.keep hKA, rfl, H63.out.keep hKA, by omega, by omega, hX.2.2.2.2.1, by omega, HOo3.out, KeepO.from HT3.out hKA HOo3.out⟩
              clear hTGA hKA HAb y0 y1 y2 y3 y4
              go_wp2_with fail
              go_meet
              case rel => exact ⟨t, p, rfl, HNext.out⟩
            · have HOp := hide (opened_any (O := fun x => x < W1.heap.size ∧ x ≠ 1 ∧ x ≠ b ∧ x ≠ m) HTG3.out.dsk (fun x hx => hx.1) ⟨fun h => h.2.1 rfl, fun h => h.2.2.1 rfl, fun h => h.2.2.2 rfl⟩ (by have := HX.out; omega))
              have HR6 := hide (H63.out.wide HTG3.out)
              have hw1 := HT3.out.size
              go_wp2_with fail
              refine HOp.out.mono ?_
              rintro e wB ⟨t2, p2, smB, rbB, qB, DnB, GB, rfl, hTB, hnB, hGB, _, hTT⟩
              have HNext : Hid (PlI w wB t2 p2 b m (i + 1) (.slice a6 (flatR rd).length c6) (.slice a6 (flatR rd).length c6)) := by
                have hX := HX.out
                exact ⟨_, smB, rbB, s, qB, DnB, DnB, D, GB, _, [], rd, rd, a6, c6, a6, c6, hTB, .inr ⟨rfl, rfl, rfl⟩, rfl, HR6.out.more hTT (fun _ h => h), rfl, HR6.out.more hTT (fun _ h => h), by omega, by omega, hX.2.2.2.2.1, by omega, fun x h1 h2 => ⟨by omega, h2, by omega, by omega⟩, HT3.out.trans hTT⟩
              clear hTB hnB hGB hTT HOp y0 y1 y2 y3 y4
              go_wp2_with fail
              go_meet
              case rel => exact ⟨t2, p2, rfl, HNext.out⟩
          case rest =>
            obtain ⟨t2, p2, rfl, HI2⟩ := hcut
            obtain ⟨O2, sm5, rb5, s5, q5, Dn5, S5, D5, G5, Rw5, ds5, rd5, rt5, a7, c7, a8, c8, hTG5, hF5, rfl, h7, rfl, h8, hlen5, hrd5, hn5, hk5, hOo5, hT5⟩ := HI2.out.ex
            have HLn := hide (len_any t2 p2 _ _ wc hTG5.td.tm.tr)
            rw [hTG5.keys] at HLn
            have HLow := hide (low_any hTG5 (by omega))
            clear hTG5 hF5 h7 h8 hlen5 hrd5 hn5 hk5 hOo5 hT5
            obtain ⟨n7, hn7⟩ : ∃ n7, n7 = (flatR rt5).length := ⟨_, rfl⟩
            rw [← hn7] at HLn HI2 ⊢
            clear hn7
            go_wp2_with fail
            refine HLn.out.mono ?_
            rintro e w5 ⟨rfl, ew⟩
            obtain rfl : w5 = wc := ew
            go_wp2_with fail
            refine HLow.out.mono ?_
            rintro e wc ⟨rfl, ew⟩
            obtain rfl : wc = w5 := ew
            go_wp2_with fail
            go_roundw
            case rel => exact ⟨i + 1, t2, p2, by omega, by omega, rfl, by go_num, HI2.out⟩
            case measure => simp [intOf]; omega
      · obtain rfl : i = 150 := by omega
        have HS1 := hide (tg_scan HTG2.out ⟨#[]⟩ ⟨#[]⟩ 0 (by have := HX.out; omega))
        rw [scanL_all] at HS1
        obtain ⟨n5, hn5⟩ : ∃ n5, (flatR rt).length = n5 := ⟨_, rfl⟩
        have HN5 := hide hn5
        rw [hn5] at HS1 ⊢
        clear hn5
        go_wp2_with fail
        refine HS1.out.mono ?_
        rintro e wC ⟨r1, c1, rfl, hK1, _, _, GC, RwC, rC, hTC, hSC, _⟩
        have hKC := (hSC.go _).keepO HTG2.out.td
        have HSm := hide (lsame_any wC r1 a5 c1 c5 (flatR rt) hK1 (H5.out.keep hKC).kv (by have := HX.out; omega))
        rw [HN5.out] at HSm
        have HTC := hide (KeepO.from HT.out hKC HOo.out)
        clear hK1 hTC hSC hKC HS1
        go_wp2_with fail
        refine HSm.out.mono ?_
        rintro e wD ⟨rfl, hTD⟩
        have HTD := hide (HTC.out.trans hTD)
        clear hTD HSm
        go_wp2_with fail
        go_ret
        exact ⟨rfl, HTD.out⟩
    · obtain rfl : i = nl := by omega
      have HS1 := hide (tg_scan HTG2.out ⟨#[]⟩ ⟨#[]⟩ 0 (by have := HX.out; omega))
      rw [scanL_all] at HS1
      obtain ⟨n5, hn5⟩ : ∃ n5, (flatR rt).length = n5 := ⟨_, rfl⟩
      have HN5 := hide hn5
      rw [hn5] at HS1 ⊢
      clear hn5
      go_wp2_with fail
      refine HS1.out.mono ?_
      rintro e wC ⟨r1, c1, rfl, hK1, _, _, GC, RwC, rC, hTC, hSC, _⟩
      have hKC := (hSC.go _).keepO HTG2.out.td
      have HSm := hide (lsame_any wC r1 a5 c1 c5 (flatR rt) hK1 (H5.out.keep hKC).kv (by have := HX.out; omega))
      rw [HN5.out] at HSm
      have HTC := hide (KeepO.from HT.out hKC HOo.out)
      clear hK1 hTC hSC hKC HS1
      go_wp2_with fail
      refine HSm.out.mono ?_
      rintro e wD ⟨rfl, hTD⟩
      have HTD := hide (HTC.out.trans hTD)
      clear hTD HSm
      go_wp2_with fail
      go_ret
      exact ⟨rfl, HTD.out⟩

end Go.Proofs.YthehkckdecckhaaGreatDoor

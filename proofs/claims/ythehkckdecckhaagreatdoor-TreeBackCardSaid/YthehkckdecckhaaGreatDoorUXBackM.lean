/-
  How rows of texts read as arguments.
  A Del of a key that is not there, a Commit of what was changed or was not, by what a tree has.
  The law TreeBack, walked.
-/
import Derived.Test.YthehkckdecckhaaGreatDoorU50
import Derived.Test.YthehkckdecckhaaGreatDoorU49
import Derived.Test.YthehkckdecckhaaGreatDoorU51
import Derived.Deep.CutRange
import Derived.Deep.RegionHeld3
namespace Go.Proofs.YthehkckdecckhaaGreatDoor
open Go.ChangeShapes Go.WideShapes Go.ChangeAt Go.RowKit
open Go.Deep

/-- Rows of texts that a slice leads to. -/
def RowssAt (w : World) (a : Option Addr) (l : List (List ByteArray)) : Prop := l = [] ∨ ∃ b off, a = some ⟨b, off, none⟩ ∧ ∀ i (hi : i < l.length), ∃ A C, w.cell? ⟨b, off + i, none⟩ = some (.slice A l[i].length C) ∧ StrsAt w A l[i]
theorem RowssAt.turn0 {w w' : World} {a : Option Addr} {l : List (List ByteArray)} (h : RowssAt w a l) (hT : Turn [] w w') : RowssAt w' a l := by
  rcases h with rfl | ⟨b, off, rfl, h⟩
  · exact .inl rfl
  · refine .inr ⟨b, off, rfl, fun i hi => ?_⟩
    obtain ⟨A, C, hc, hB⟩ := h i hi
    exact ⟨A, C, (hT.cell (p := ⟨b, off + i, none⟩) (lt_of_cell hc) (by simp)).trans hc, hB.turn0 hT⟩
theorem RowssAt.at {w : World} {a : Option Addr} {l : List (List ByteArray)} (h : RowssAt w a l) {i : Nat} (hi : i < l.length) : ∃ b off A C, a = some ⟨b, off, none⟩ ∧ w.cell? ⟨b, off + i, none⟩ = some (.slice A l[i].length C) ∧ StrsAt w A l[i] := by
  rcases h with rfl | ⟨b, off, rfl, h⟩
  · simp at hi
  · obtain ⟨A, C, hc, hB⟩ := h i hi
    exact ⟨b, off, A, C, rfl, hc, hB⟩
/-- No text of theirs is too long. -/
def SizedR (l : List (List ByteArray)) : Prop := ∀ x ∈ l, Sized x

/-- The rows of texts that came in, out of how they are read. -/
theorem rowss_of {H : Type} {enc : TypeId × Value → H} {W : World} {fuel : Nat} {a : Option Addr} {n c : Nat} {y : DataW H × List MemPlace} (h : DataW.trod enc Tryz.prog W 0 (fun _ => true) true fuel 58 [.slice a n c] = some y) :
    ∃ l : List (List ByteArray), n = l.length ∧ RowssAt W a l ∧ SizedR l ∧ l.length ≤ 9223372036854775807 := by
  rcases open_slice1 Tryz.underlying58 (by kernel_rfl) h with ⟨hcs, _⟩ | ⟨x, len, cap, m, k, V, D, Pl, hcs, _, hl, hm, hmm, _, hx⟩
  · have e := List.singleton_inj.1 hcs
    injection e with e1 e2 e3
    subst e1 e2 e3
    exact ⟨[], rfl, .inl rfl, (fun x hx => by cases hx), by simp⟩
  · have e := List.singleton_inj.1 hcs
    injection e with e1 e2 e3
    subst e1 e2 e3
    have hmx : n ≤ 9223372036854775807 := by unfold maxLen at hm; omega
    by_cases hn : n = 0
    · subst hn
      exact ⟨[], rfl, .inl rfl, (fun x hx => by cases hx), by simp⟩
    simp only [if_true] at hmm
    have hnm : n ≤ m := by omega
    have hc0 := (hx 0 (by omega)).1
    rw [show x.add 0 = x from rfl] at hc0
    obtain ⟨_, _, _, _, hsp⟩ := World.shape?_of_cell? hc0
    obtain ⟨b, off, sp⟩ := x
    obtain rfl : sp = none := hsp
    have hall : ∀ i, ∃ l : List ByteArray, i < n → ∃ A C, W.cell? ⟨b, off + i, none⟩ = some (.slice A l.length C) ∧ StrsAt W A l ∧ Sized l := fun i => by
      by_cases hi : i < n
      · obtain ⟨hc, ht⟩ := hx i (by omega)
        rw [Addr.add_mid] at hc
        have hv : ∃ A L C, V i = .slice A L C := by
          rcases open_strings Tryz.underlying56 Tryz.underlying9 (by kernel_rfl) ht with ⟨hcs, _⟩ | ⟨x, l, c', zs, hcs, _⟩
          · exact ⟨none, 0, 0, List.singleton_inj.1 hcs⟩
          · exact ⟨some x, l, c', List.singleton_inj.1 hcs⟩
        obtain ⟨A, L, C, e⟩ := hv
        rw [e] at ht hc
        obtain ⟨l, rfl, h1, h2, _⟩ := strs_of ht
        exact ⟨l, fun _ => ⟨A, C, hc, h1, h2⟩⟩
      · exact ⟨[], fun h => absurd h hi⟩
    obtain ⟨f, hf⟩ := Classical.skolem.1 hall
    refine ⟨(List.range n).map f, by simp, .inr ⟨b, off, rfl, fun i hi => ?_⟩, fun x hx => ?_, by simp; exact hmx⟩
    · simp only [List.length_map, List.length_range] at hi
      rw [List.getElem_map, List.getElem_range]
      obtain ⟨A, C, h1, h2, _⟩ := hf i hi
      exact ⟨A, C, h1, h2⟩
    · obtain ⟨i, hi, rfl⟩ := List.mem_map.1 hx
      obtain ⟨_, _, _, _, h3⟩ := hf i (List.mem_range.1 hi)
      exact h3

end Go.Proofs.YthehkckdecckhaaGreatDoor

namespace Go.Proofs.YthehkckdecckhaaGreatDoor
open Go.RowKit Go.Maps

/-- Nothing was changed since the Commit, or something was. -/
def Fresh (Dn S : Stt) (ds : List Nat) (rd rt : Root?) : Prop := S.changed = true ∨ (S = Dn ∧ rt = rd ∧ ds = [])

theorem tg_del_no {w : World} {O : Nat → Prop} {t p b m sm rb : Nat} {s : St} {q : Pg} {Dn S : Stt} {D : Dk} {G : Gh} {Rw : Nat → Prop} {ds : List Nat} {rd rt : Root?} (h : TG w O t p b m sm rb s q Dn S D G Rw ds rd rt) (k : ByteArray) (hg : getK (flatR rt) k = none) :
    Calls Tryz.prog 15 #[.pointer (some ⟨t, 0, none⟩), .string k] w fun e w' => e = .returned (.int .i64 2) ∧ ∃ G' Rw' r, TG w' O t p b m sm rb s { q with rd := r } Dn S D G' Rw' ds rd rt ∧ KeepO O w w' := by
  refine (tm_del_no h.td h.now h.ok k hg).mono ?_
  rintro e w' ⟨rfl, G', Rw', r, hTD, hG, hS⟩
  exact ⟨rfl, G', Rw', r, h.seen r hTD hG, (hS.go _).keepO h.td⟩

/-- A Commit that has room, whether or not something was changed. -/
theorem tg_commit2 {w : World} {O : Nat → Prop} {t p b m sm rb : Nat} {s : St} {q : Pg} {Dn S : Stt} {D : Dk} {G : Gh} {Rw : Nat → Prop} {ds : List Nat} {rd rt : Root?} (h : TG w O t p b m sm rb s q Dn S D G Rw ds rd rt) (hF : Fresh Dn S ds rd rt) (hroom : S.fresh ≤ q.left s.n) (hkeys : (flatR rt).length ≤ 40000) (hkd : (flatR rd).length ≤ 40000) (hk : s.k ≤ 600000) :
    Calls Tryz.prog 23 #[.pointer (some ⟨t, 0, none⟩)] w fun e w' => e = .returned (.int .i64 0) ∧ ∃ sm' rb' s' q' Dn' D' G' rt', TG w' O t p b m sm' rb' s' q' Dn' Dn' D' G' Rw [] rt' rt' ∧ flatR rt' = flatR rt ∧ heightR rt' = heightR rt ∧ s'.k ≤ s.k + S.fresh + 5 ∧ s'.n = s.n ∧ KeepO O w w' := by
  by_cases hc : S.changed = true
  · have hmb := mbs_le s.n h.td.tm.pa.laid.n16
    refine (tg_commit h hc hroom hkeys hkd hk).mono ?_
    rintro e w' ⟨rfl, sm', rb', s', q', D', G', rt', h1, h2, h3, h4, h5, _, h7⟩
    exact ⟨rfl, sm', rb', s', q', _, D', G', rt', h1, h2, h3, by omega, h5, h7⟩
  · obtain ⟨rfl, rfl, rfl⟩ := hF.resolve_left hc
    refine (commit_clean t p b m sm rb s q S S h.td.tm.sd h.td.tm.qd h.td.tm.off (by simpa using hc) w h.td.tm.pa h.td.tm.tr).mono ?_
    rintro e w' ⟨rfl, ⟨r, hA⟩, hT⟩
    obtain ⟨h1, h2⟩ := h.ask r hA hT
    exact ⟨rfl, sm, rb, s, _, S, D, G, rt, h1, rfl, rfl, by omega, rfl, h2⟩

end Go.Proofs.YthehkckdecckhaaGreatDoor

namespace Go.Proofs.YthehkckdecckhaaGreatDoor
open Go.RowKit Go.Maps

/-- A round of TreeBack begins. -/
structure BkJ (w0 wr : World) (t p b m i N : Nat) (v5 : Value) : Prop where
  ex : ∃ (O : Nat → Prop) (sm rb : Nat) (s : St) (q : Pg) (Dn S : Stt) (D : Dk) (G : Gh) (Rw : Nat → Prop) (ds : List Nat) (rd rt : Root?) (a5 : Option Addr) (c5 : Nat), TG wr O t p b m sm rb s q Dn S D G Rw ds rd rt ∧ Fresh Dn S ds rd rt ∧ v5 = .slice a5 (flatR rt).length c5 ∧ RowO wr O a5 (flatR rt) ∧ (flatR rt).length ≤ N ∧ (flatR rd).length ≤ 240 ∧ s.n = 8192 ∧ s.k ≤ 1000 * i ∧ (∀ x, x < w0.heap.size → x ≠ 1 → O x) ∧ Turn [] w0 wr

/-- What a change of the law leaves. -/
def ChB (O : Nat → Prop) (t p b m : Nat) (s : St) (Dn : Stt) (D : Dk) (rd : Root?) (w w' : World) (L : List Kv) : Prop :=
  KeepO O w w' ∧ ∃ (sm rb : Nat) (q : Pg) (S : Stt) (G : Gh) (Rw : Nat → Prop) (ds : List Nat) (rt : Root?), TG w' O t p b m sm rb s q Dn S D G Rw ds rd rt ∧ Fresh Dn S ds rd rt ∧ flatR rt = L
theorem ChB.of0 {O : Nat → Prop} {t p b m : Nat} {s : St} {Dn : Stt} {D : Dk} {rd : Root?} {w0 w w' : World} {L : List Kv} (hT : Turn [] w0 w) (h : ChB O t p b m s Dn D rd w w' L) : ChB O t p b m s Dn D rd w0 w' L := ⟨(KeepO.of0 hT).trans h.1, h.2⟩
theorem putB_of {w : World} {O : Nat → Prop} {t p b m sm rb : Nat} {s : St} {q : Pg} {Dn S : Stt} {D : Dk} {G : Gh} {Rw : Nat → Prop} {ds : List Nat} {rd rt : Root?} (h : TG w O t p b m sm rb s q Dn S D G Rw ds rd rt) (hF : Fresh Dn S ds rd rt) (k v : ByteArray) (hk : k.size ≤ 1000000) (hv : v.size ≤ 120) (hn : (flatR rt).length ≤ 300) (hnd : (flatR rd).length ≤ 240) (hs : s.n = 8192) :
    Calls Tryz.prog 12 #[.pointer (some ⟨t, 0, none⟩), .string k, .string v] w fun e w' => ∃ ec : Int, e = .returned (.int .i64 ec) ∧ ((ec = 0 ∧ ChB O t p b m s Dn D rd w w' (putK (flatR rt) k v)) ∨ (ec = 1 ∧ ChB O t p b m s Dn D rd w w' (flatR rt))) := by
  by_cases hk1 : k.size = 0 ∨ 48 < k.size
  · refine (put_badK t p b m sm rb s q Dn S h.td.tm.sd h.td.tm.qd k v hk1 hk w h.td.tm.pa h.td.tm.tr).mono ?_
    rintro e w' ⟨rfl, ⟨r, hA⟩, hT⟩
    obtain ⟨h1, h2⟩ := h.ask r hA hT
    exact ⟨1, rfl, .inr ⟨rfl, h2, sm, rb, _, S, G, Rw, ds, rt, h1, hF, rfl⟩⟩
  · have hr := h.room
    have hp := h.ok.pages
    have hc := count_le (pagesR rt)
    have hf := h.fresh
    refine (tg_put h k v (by omega) (by omega) hv (by omega) (by omega) (by omega)).mono ?_
    rintro e w' ⟨rfl, rt', G', Rw', r, S', ds', h1, h2, h3, _, h5⟩
    exact ⟨0, rfl, .inl ⟨rfl, h5, sm, rb, _, S', G', Rw', ds', rt', h1, .inl h3, h2⟩⟩
theorem delK_same {l : List Kv} {k : ByteArray} (h : getK l k = none) : delK l k = l := by
  unfold delK
  exact List.filter_eq_self.2 fun x hx => by simpa using getK_not h x hx
theorem delK_law (l : List Kv) (k : ByteArray) : (l.filter fun x => !decide (x.1 = k)) = delK l k := by
  unfold delK
  exact List.filter_congr fun x _ => by simp
theorem delB_of {w : World} {O : Nat → Prop} {t p b m sm rb : Nat} {s : St} {q : Pg} {Dn S : Stt} {D : Dk} {G : Gh} {Rw : Nat → Prop} {ds : List Nat} {rd rt : Root?} (h : TG w O t p b m sm rb s q Dn S D G Rw ds rd rt) (hF : Fresh Dn S ds rd rt) (k : ByteArray) (hn : (flatR rt).length ≤ 300) (hnd : (flatR rd).length ≤ 240) :
    Calls Tryz.prog 15 #[.pointer (some ⟨t, 0, none⟩), .string k] w fun e w' => ∃ ec : Int, e = .returned (.int .i64 ec) ∧ ChB O t p b m s Dn D rd w w' (delK (flatR rt) k) := by
  cases hg : getK (flatR rt) k with
  | none =>
    refine (tg_del_no h k hg).mono ?_
    rintro e w' ⟨rfl, G', Rw', r, h1, h2⟩
    exact ⟨2, rfl, h2, sm, rb, _, S, G', Rw', ds, rt, h1, hF, (delK_same hg).symm⟩
  | some v =>
    refine (tg_del h k v hg (by omega) (by omega)).mono ?_
    rintro e w' ⟨rfl, rt', G', Rw', r, S', ds', h1, h2, h3, _, h5⟩
    exact ⟨0, rfl, h5, sm, rb, _, S', G', Rw', ds', rt', h1, .inl h3, h2⟩

set_option maxRecDepth 100000 in
set_option maxHeartbeats 12800000 in
theorem back_any (aa : Option Addr) (ca : Nat) (l : List (List ByteArray)) (hll : l.length ≤ 9223372036854775807) (w : World) (hTab : Tab w) (hA : RowssAt w aa l) (hSz : SizedR l) : Calls Tryz.prog 7 #[.slice aa l.length ca] w fun e w' => e = .returned (.bool true) ∧ Turn [] w w' := by
  have HTab := hide hTab
  have HA := hide hA
  have HSz := hide hSz
  have hs0 : 1 < w.heap.size := lt_of_cell (hTab 0 (by omega))
  clear hTab hA hSz
  obtain ⟨nl, HNl, hnl9⟩ : ∃ nl, Hid (l.length = nl) ∧ nl ≤ 9223372036854775807 := ⟨_, rfl, hll⟩
  rw [HNl.out]
  by_cases h12 : 12 < nl
  · go_enter Tryz.func7, Tryz.ntmps7
    go_wp2_with fail
    refine (known_any w HTab.out).mono ?_
    rintro e w0 ⟨rfl, hT0⟩
    have HT0 := hide hT0
    clear hT0
    go_wp2_with fail
    go_ret
    exact ⟨rfl, HT0.out⟩
  go_enter Tryz.func7, Tryz.ntmps7
  go_wp2_with fail
  refine (known_any w HTab.out).mono ?_
  rintro e w0 ⟨rfl, hT0⟩
  have HTab0 := hide (HTab.out.turn hT0 (by simp))
  have HT0 := hide hT0
  have h0s := hT0.size
  clear hT0
  go_wp2_with fail
  have HMd := hide (made_new 8192 (by omega) (by omega) w0 HTab0.out)
  refine HMd.out.mono ?_
  rintro e w1 ⟨t0, p0, b, m, sm, rb, r, rfl, g1, g2, g3, g4, g5, g6, g7, hO, hTr1, hA1, hT1⟩
  have HTG := hide (tg_of_new (by omega) g1 g2 g3 g4 g5 g6 g7 hO hTr1 hA1 hT1)
  have HT1 := hide (HT0.out.then hT1 (by simp))
  have h1s := hT1.size
  clear hTr1 hA1 hT1 hO HMd g1 g2 g5 g6 g7
  go_wp2_with fail
  go_loopw [4, 5, 6, 7, 8, 9] (fun tv a iv _ _ _ wr => ∃ i t p : Nat, i ≤ nl ∧ tv = .pointer (some ⟨t, 0, none⟩) ∧ iv = .int .i64 (i : Nat) ∧ Hid (BkJ w wr t p b m i (20 * i) a)) (fun _ _ iv _ _ _ _ => nl - (intOf iv).toNat)
  case atStart =>
    refine ⟨0, t0, p0, by omega, rfl, rfl, ⟨_, sm, rb, _, _, _, _, _, _, _, [], none, none, none, 0, HTG.out, .inr ⟨rfl, rfl, rfl⟩, rfl, RowO.nil _ _ _, Nat.zero_le _, Nat.zero_le _, rfl, Nat.zero_le _, fun x hx h1 => ⟨by omega, h1⟩, HT1.out⟩⟩
  case round =>
    obtain ⟨i, t, p, hi, rfl, rfl, HI⟩ := hrel
    rename World => wr
    obtain ⟨O, sm2, rb2, s, q, Dn, S, D, G, Rw, ds, rd, rt, a5, c5, hTG, hF, rfl, h5, hlen, hrd, hn, hk, hOo, hT⟩ := HI.out.ex
    have HT := hide hT
    have hsr := hT.size
    clear hTG hF h5 hlen hrd hn hk hOo hT
    generalize (flatR rt).length = n5 at *
    by_cases hlt : i < nl
    · have hil : i < l.length := by rw [HNl.out]; exact hlt
      obtain ⟨ba, oa, A, C, rfl, hcw, hrow⟩ := HA.out.at hil
      have hszr := HSz.out _ (List.getElem_mem hil)
      generalize l[i] = row at *
      have HCk : Hid (∀ W : World, Turn [] w W → W.cell? ⟨ba, oa + i, none⟩ = some (.slice A row.length C)) := fun W hW => (hW.cell (p := ⟨ba, oa + i, none⟩) (lt_of_cell hcw) (by simp)).trans hcw
      have HRow := hide hrow
      have HSr := hide hszr
      obtain ⟨K, HK⟩ : ∃ K, Hid (row.length = K) := ⟨_, rfl⟩
      rw [HK.out] at HCk
      have hck := HCk.out wr HT.out
      clear hcw hrow hszr hil
      by_cases h20 : 20 < K
      · have HNext : Hid (BkJ w wr t p b m (i + 1) (20 * (i + 1)) (.slice a5 n5 c5)) := by
          obtain ⟨O, sm2, rb2, s, q, Dn, S, D, G, Rw, ds, rd, rt, a7, c7, h1, h2, h3, h4, h5, h6, h7, h8, h9, h10⟩ := HI.out.ex
          exact ⟨O, sm2, rb2, s, q, Dn, S, D, G, Rw, ds, rd, rt, a7, c7, h1, h2, h3, h4, by omega, h6, h7, by omega, h9, h10⟩
        go_wp2_with fail
        go_roundw
        case rel => exact ⟨i + 1, t, p, by omega, rfl, by go_num, HNext.out⟩
        case measure => simp [intOf]; omega
      · go_wp2_with fail
        go_loopw [5, 7, 8] (fun a kv _ wr => ∃ k : Nat, k ≤ K ∧ kv = .int .i64 (k : Nat) ∧ Hid (BkJ w wr t p b m i (20 * i + k) a)) (fun _ kv _ _ => K - (intOf kv).toNat)
        case atStart => exact ⟨0, by omega, rfl, HI.out⟩
        case round =>
          clear HI hck HT hsr
          obtain ⟨k, hk, rfl, HI⟩ := hrel
          rename World => wr
          obtain ⟨O, sm2, rb2, s, q, Dn, S, D, G, Rw, ds, rd, rt, a5, c5, hTG, hF, rfl, h5, hlen, hrd, hn, hk2, hOo, hT⟩ := HI.out.ex
          have HTG2 := hide hTG
          have HF := hide hF
          have H5 := hide h5
          have HOo := hide hOo
          have HT := hide hT
          have HX := hide (show (flatR rt).length ≤ 20 * i + k ∧ (flatR rd).length ≤ 240 ∧ s.n = 8192 ∧ s.k ≤ 1000 * i from ⟨hlen, hrd, hn, hk2⟩)
          have hsr := hT.size
          have htr := hTG.td.tm.lts t (by simp)
          have hck := HCk.out wr HT.out
          clear hTG hF h5 hlen hrd hn hk2 hOo hT HI
          by_cases hkl : k < K
          · have hkr : k < row.length := by rw [HK.out]; exact hkl
            obtain ⟨bb, ob, rfl, hcr⟩ := HRow.out.at hkr
            have hks := HSr.out k hkr
            have HCr : Hid (∀ W : World, Turn [] w W → W.cell? ⟨bb, ob + k, none⟩ = some (.string (row.getD k ByteArray.empty))) := fun W hW => (hW.cell (p := ⟨bb, ob + k, none⟩) (lt_of_cell hcr) (by simp)).trans hcr
            clear hcr
            generalize row.getD k ByteArray.empty = ky at *
            obtain ⟨vn, hvn, hvl⟩ : ∃ vn : Nat, ((vn : Nat) : Int) = ((i : Int) * 17 + (k : Int) * 5) % 121 ∧ vn ≤ 120 := ⟨(i * 17 + k * 5) % 121, by omega, by omega⟩
            have HMk := make_bytes vn (by omega)
            have HZ := hide (fun W : World => bytes_new W (List.replicate vn 0) 5)
            have hcv : ∀ W : World, (convert 52 9 (.slice (some ⟨W.heap.size, 0, none⟩) vn vn)).run Tryz.prog (W.alloc (.cells ((List.replicate vn 0).map byteCell).toArray 5)) = .ok (.string (zs vn)) (W.alloc (.cells ((List.replicate vn 0).map byteCell).toArray 5)) := fun W => text_at (HZ.out W) vn vn (by simp)
            have HVs : Hid ((zs vn).size ≤ 120) := by show _ ≤ _; rw [zs_size]; exact hvl
            rw [hvn] at HMk
            clear hvn
            generalize ((List.replicate vn 0).map byteCell).toArray = Z at *
            generalize zs vn = vs at *
            have hTz : Turn [] w (wr.alloc (.cells Z 5)) := HT.out.alloc _
            have hckz := HCk.out _ hTz
            have hcrz := HCr.out _ hTz
            have HTz := hide hTz
            clear hTz
            by_cases h4 : k % 4 = 3
            · have hm4 : ((k : Int) % 4 == 3) = true := by rw [beq_iff_eq]; omega
              have HDel := hide (delB_of (HTG2.out.quiet ((Turn.refl [] wr).alloc (.cells Z 5))) HF.out ky (by have := HX.out; omega) HX.out.2.1)
              go_wp2_with fail
              refine HDel.out.mono ?_
              rintro e wP ⟨ec, rfl, hP0⟩
              obtain ⟨hK5, sm5, rb5, q5, S5, G5, Rw5, ds5, rt5, hTG5, hF5, hfl5⟩ := hP0.of0 ((Turn.refl [] wr).alloc (.cells Z 5))
              have HT5 := hide (KeepO.from HT.out hK5 HOo.out)
              have HRw5 := hide (H5.out.keep hK5)
              have hckP := HCk.out wP HT5.out
              have hcrP := HCr.out wP HT5.out
              have hs5 := hK5.size
              have HTG5 := hide hTG5
              have HF5 := hide hF5
              have HFl5 := hide hfl5
              have HDl : Hid (Calls Tryz.prog 17 #[.slice a5 (flatR rt).length c5, .string ky] wP fun e w' => ∃ a c, e = .returned (.slice a (delK (flatR rt) ky).length c) ∧ RowO w' (More O wP w') a (delK (flatR rt) ky) ∧ Turn [] wP w') := by
                refine (ldelete_any a5 c5 (flatR rt) ky (by have := HX.out; omega) wP HRw5.out.kv).mono ?_
                rintro e w' ⟨r, rfl, hO, hT'⟩
                rw [delK_law] at hO
                obtain ⟨a, c, hv, hR⟩ := RowO.new (O := O) (by omega) hO
                exact ⟨a, c, by rw [hv], hR, hT'⟩
              clear hK5 hTG5 hF5 hfl5 hP0 HDel
              go_wp2_with fail
              refine HDl.out.mono ?_
              rintro e wc ⟨a9, c9, rfl, hR9, hT9⟩
              have HNext : Hid (BkJ w wc t p b m i (20 * i + (k + 1)) (.slice a9 (delK (flatR rt) ky).length c9)) := by
                refine ⟨_, sm5, rb5, s, q5, Dn, S5, D, G5, Rw5, ds5, rd, rt5, a9, c9, HTG5.out.more hT9, HF5.out, by rw [HFl5.out], by rw [HFl5.out]; exact hR9, ?_, HX.out.2.1, HX.out.2.2.1, HX.out.2.2.2, fun x h1 h2 => .inl (HOo.out x h1 h2), HT5.out.trans hT9⟩
                rw [HFl5.out]
                have := HX.out
                have : (delK (flatR rt) ky).length ≤ (flatR rt).length := List.length_filter_le ..
                omega
              clear hR9 hT9 HDl
              go_wp2_with fail
              go_roundw
              case rel => exact ⟨k + 1, by omega, by go_num, HNext.out⟩
              case measure => simp [intOf]; omega
            · have hm4 : ((k : Int) % 4 == 3) = false := by rw [beq_eq_false_iff_ne]; omega
              by_cases h300 : ky.size < 300
              · have HPut := hide (putB_of (HTG2.out.quiet ((Turn.refl [] wr).alloc (.cells Z 5))) HF.out ky vs (by omega) HVs.out (by have := HX.out; omega) HX.out.2.1 HX.out.2.2.1)
                go_wp2_with fail
                refine HPut.out.mono ?_
                rintro e wP ⟨ec, rfl, hP⟩
                rcases hP with ⟨rfl, hP0⟩ | ⟨rfl, hP0⟩
                · obtain ⟨hK5, sm5, rb5, q5, S5, G5, Rw5, ds5, rt5, hTG5, hF5, hfl5⟩ := hP0.of0 ((Turn.refl [] wr).alloc (.cells Z 5))
                  have HT5 := hide (KeepO.from HT.out hK5 HOo.out)
                  have HRw5 := hide (H5.out.keep hK5)
                  have hckP := HCk.out wP HT5.out
                  have hcrP := HCr.out wP HT5.out
                  have hs5 := hK5.size
                  have HTG5 := hide hTG5
                  have HF5 := hide hF5
                  have HFl5 := hide hfl5
                  have HPl : Hid (Calls Tryz.prog 14 #[.slice a5 (flatR rt).length c5, .string ky, .string vs] wP fun e w' => ∃ a c, e = .returned (.slice a (putK (flatR rt) ky vs).length c) ∧ RowO w' (More O wP w') a (putK (flatR rt) ky vs) ∧ Turn [] wP w') := by
                    refine (lputl_any a5 c5 (flatR rt) ky vs (by have := HX.out; omega) HTG2.out.ok.rises wP HRw5.out.kv).mono ?_
                    rintro e w' ⟨r, i, rfl, hp, hO, hT'⟩
                    rw [put_law hp] at hO
                    obtain ⟨a, c, hv, hR⟩ := RowO.new (O := O) (by omega) hO
                    exact ⟨a, c, by rw [hv], hR, hT'⟩
                  clear hK5 hTG5 hF5 hfl5 hP0 HPut
                  go_wp2_with fail
                  refine HPl.out.mono ?_
                  rintro e wc ⟨a9, c9, rfl, hR9, hT9⟩
                  have HNext : Hid (BkJ w wc t p b m i (20 * i + (k + 1)) (.slice a9 (putK (flatR rt) ky vs).length c9)) := by
                    refine ⟨_, sm5, rb5, s, q5, Dn, S5, D, G5, Rw5, ds5, rd, rt5, a9, c9, HTG5.out.more hT9, HF5.out, by rw [HFl5.out], by rw [HFl5.out]; exact hR9, ?_, HX.out.2.1, HX.out.2.2.1, HX.out.2.2.2, fun x h1 h2 => .inl (HOo.out x h1 h2), HT5.out.trans hT9⟩
                    rw [HFl5.out, putK_len HTG2.out.ok.rises]
                    have := HX.out
                    split <;> omega
                  clear hR9 hT9 HPl
                  go_wp2_with fail
                  go_roundw
                  case rel => exact ⟨k + 1, by omega, by go_num, HNext.out⟩
                  case measure => simp [intOf]; omega
                · obtain ⟨hK5, sm5, rb5, q5, S5, G5, Rw5, ds5, rt5, hTG5, hF5, hfl5⟩ := hP0.of0 ((Turn.refl [] wr).alloc (.cells Z 5))
                  have HNext : Hid (BkJ w wP t p b m i (20 * i + (k + 1)) (.slice a5 (flatR rt).length c5)) := by
                    refine ⟨_, sm5, rb5, s, q5, Dn, S5, D, G5, Rw5, ds5, rd, rt5, a5, c5, hTG5, hF5, by rw [hfl5], by rw [hfl5]; exact H5.out.keep hK5, by rw [hfl5]; have := HX.out; omega, HX.out.2.1, HX.out.2.2.1, HX.out.2.2.2, HOo.out, KeepO.from HT.out hK5 HOo.out⟩
                  clear hK5 hTG5 hF5 hfl5 hP0 HPut
                  go_wp2_with fail
                  go_roundw
                  case rel => exact ⟨k + 1, by omega, by go_num, HNext.out⟩
                  case measure => simp [intOf]; omega
              · have HNext : Hid (BkJ w (wr.alloc (.cells Z 5)) t p b m i (20 * i + (k + 1)) (.slice a5 (flatR rt).length c5)) := by
                  have hA := (Turn.refl [] wr).alloc (.cells Z 5)
                  refine ⟨_, sm2, rb2, s, q, Dn, S, D, G, Rw, ds, rd, rt, a5, c5, HTG2.out.quiet hA, HF.out, rfl, H5.out.more hA (fun _ h => h), by have := HX.out; omega, HX.out.2.1, HX.out.2.2.1, HX.out.2.2.2, HOo.out, HT.out.trans hA⟩
                go_wp2_with fail
                go_roundw
                case rel => exact ⟨k + 1, by omega, by go_num, HNext.out⟩
                case measure => simp [intOf]; omega
          · have hkK : k = K := by omega
            have hlen240 : (flatR rt).length ≤ 240 := by have := HX.out; omega
            have hlenN : (flatR rt).length ≤ 20 * (i + 1) := by have := HX.out; omega
            have HFr := hide (show S.fresh ≤ 480 by have := HTG2.out.fresh; have := HTG2.out.ok.pages; have := count_le (pagesR rt); omega)
            have HCm := hide (tg_commit2 HTG2.out HF.out (by have := HTG2.out.room; have := HFr.out; have := HX.out; omega) (by omega) (by have := HX.out; omega) (by have := HX.out; omega))
            clear hkK
            go_wp2_with fail
            refine HCm.out.mono ?_
            rintro e wA ⟨rfl, smA, rbA, sA, qA, DnA, DA, GA, rtA, hTGA, hflA, hhtA, hkA, hnA, hKA⟩
            have HTA := hide (KeepO.from HT.out hKA HOo.out)
            have HKA : Hid (sA.k ≤ 1000 * (i + 1) ∧ sA.n = 8192) := ⟨by have := HFr.out; have := HX.out; omega, by rw [hnA]; exact HX.out.2.2.1⟩
            have hRA := H5.out.keep hKA
            have HRA : Hid (RowO wA (fun x => x < wA.heap.size ∧ x ≠ 1 ∧ x ≠ b ∧ x ≠ m) a5 (flatR rt)) := ⟨hRA.kv, fun x hl ha => by
              obtain ⟨o1, o2⟩ := hRA.own x hl ha
              exact ⟨⟨hTGA.td.tm.ob _ o1, o2, fun e => hTGA.td.tm.no b (by simp) (e ▸ o1), fun e => hTGA.td.tm.no m (by simp) (e ▸ o1)⟩, o2⟩⟩
            have HHt := hide (tg_height hTGA)
            have HFl := hide hflA
            have HOp := hide (opened_any (O := fun x => x < wA.heap.size ∧ x ≠ 1 ∧ x ≠ b ∧ x ≠ m) hTGA.dsk (fun x hx => hx.1) ⟨fun h => h.2.1 rfl, fun h => h.2.2.1 rfl, fun h => h.2.2.2 rfl⟩ (by rw [hflA]; omega))
            have hsA := HTA.out.size
            obtain ⟨hr, hhr⟩ : ∃ hr, hr = heightR rtA := ⟨_, rfl⟩
            have HHr := hide hhr
            rw [← hhr] at HHt
            clear hTGA hflA hhtA hkA hnA hKA hRA HCm hhr
            go_wp2_with fail
            refine HHt.out.mono ?_
            rintro e w3 ⟨rfl, ew⟩
            obtain rfl : w3 = wA := ew
            go_wp2_with fail
            refine HOp.out.mono ?_
            rintro e wB ⟨t2, p2, smB, rbB, qB, DnB, GB, rfl, hTB, hnB, hGB, _, hTT⟩
            have HTB := hide hTB
            have HRB := hide (HRA.out.more hTT (fun _ h => h))
            have HTAB := hide (HTA.out.trans hTT)
            have HS1 := hide (tg_scan hTB ⟨#[]⟩ ⟨#[]⟩ 0 (by rw [HFl.out]; omega))
            rw [scanL_all, HFl.out] at HS1
            clear hTB hnB hGB hTT HOp
            go_wp2_with fail
            refine HS1.out.mono ?_
            rintro e wC ⟨r1, c1, rfl, hK1, _, _, GC, RwC, rC, hTC, hSC, _⟩
            have hKC := (hSC.go _).keepO HTB.out.td
            have HRC := hide (HRB.out.keep hKC)
            have HTC := hide (KeepO.from HTAB.out hKC (fun x h1 h2 => (⟨by omega, h2, by omega, by omega⟩ : _ ∧ _)))
            have HSm := hide (lsame_any wC r1 a5 c1 c5 (flatR rt) hK1 HRC.out.kv (by omega))
            have HTGC := hide hTC
            clear hK1 hTC hSC hKC HS1
            go_wp2_with fail
            refine HSm.out.mono ?_
            rintro e wD ⟨rfl, hTD⟩
            have HTGD := hide (HTGC.out.quiet hTD)
            have HRD := hide (HRC.out.more hTD (fun _ h => h))
            have HTD := hide (HTC.out.trans hTD)
            have HLn := hide (len_any t2 p2 _ _ wD HTGD.out.td.tm.tr)
            rw [HTGD.out.keys, HFl.out] at HLn
            have HH2 := hide (tg_height HTGD.out)
            rw [← HHr.out] at HH2
            have HLow := hide (low_any HTGD.out (by rw [HFl.out]; omega))
            have HNext : Hid (BkJ w wD t2 p2 b m (i + 1) (20 * (i + 1)) (.slice a5 (flatR rt).length c5)) := by
              refine ⟨_, smB, rbB, sA, _, DnB, DnB, DA, GC, RwC, [], rtA, rtA, a5, c5, HTGD.out, .inr ⟨rfl, rfl, rfl⟩, by rw [HFl.out], by rw [HFl.out]; exact HRD.out, by rw [HFl.out]; exact hlenN, by rw [HFl.out]; exact hlen240, HKA.out.2, HKA.out.1, fun x h1 h2 => ⟨by omega, h2, by omega, by omega⟩, HTD.out⟩
            clear hTD HSm
            generalize (flatR rt).length = n5 at *
            go_wp2_with fail
            refine HLn.out.mono ?_
            rintro e w5 ⟨rfl, ew⟩
            obtain rfl : w5 = wD := ew
            go_wp2_with fail
            refine HH2.out.mono ?_
            rintro e wD ⟨rfl, ew⟩
            obtain rfl : wD = w5 := ew
            go_wp2_with fail
            refine HLow.out.mono ?_
            rintro e w5 ⟨rfl, ew⟩
            obtain rfl : w5 = wD := ew
            go_wp2_with fail
            go_roundw
            case rel => exact ⟨i + 1, t2, p2, by omega, rfl, by go_num, HNext.out⟩
            case measure => simp [intOf]; omega
    · go_wp2_with fail
      go_ret
      exact ⟨rfl, HT.out⟩

end Go.Proofs.YthehkckdecckhaaGreatDoor

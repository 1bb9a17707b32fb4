/-
  How ints read as arguments.
  Scan of all, as the laws ask it; two trees on one disk.
  Scan after scan, each from behind the last key: by itself. A Put that is refused.
  Is a tree as low as it must be? A number's remainder, exactly; the keys of TreeGrows differ.
  What TreeGrows keeps: the keys that are there, how many places are new.
  A Del of a key that is not there, a Commit of what was changed or was not, by what a tree has.
  Get of a tree with its pager, by what it has.
-/
import Derived.Test.YthgpjkcgccdldaaGreatDoorV42
import Derived.ProofKit
import Derived.OpenShut
import Derived.SizedLaws
import Derived.Deep.Strs
import Derived.Deep.Slices

namespace Go.Proofs.YthgpjkcgccdldaaGreatDoor
open Go.ChangeShapes Go.WideShapes Go.ChangeAt Go.RowKit
open Go.Deep

/-- Ints that a slice leads to. -/
def NumsAt (w : World) (a : Option Addr) (l : List Int) : Prop := l = [] ∨ ∃ b off, a = some ⟨b, off, none⟩ ∧ ∀ i, i < l.length → w.cell? ⟨b, off + i, none⟩ = some (.int .i64 (l.getD i 0))
theorem NumsAt.at {w : World} {a : Option Addr} {l : List Int} (h : NumsAt w a l) {i : Nat} (hi : i < l.length) : ∃ b off, a = some ⟨b, off, none⟩ ∧ w.cell? ⟨b, off + i, none⟩ = some (.int .i64 (l.getD i 0)) := by
  rcases h with rfl | ⟨b, off, rfl, h⟩
  · simp at hi
  · exact ⟨b, off, rfl, h i hi⟩
theorem NumsAt.turn0 {w w' : World} {a : Option Addr} {l : List Int} (h : NumsAt w a l) (hT : Turn [] w w') : NumsAt w' a l := by
  rcases h with rfl | ⟨b, off, rfl, h⟩
  · exact .inl rfl
  · exact .inr ⟨b, off, rfl, fun i hi => (hT.cell (p := ⟨b, off + i, none⟩) (lt_of_cell (h i hi)) (by simp)).trans (h i hi)⟩
end Go.Proofs.YthgpjkcgccdldaaGreatDoor

namespace Go.Proofs.YthgpjkcgccdldaaGreatDoor
open Go.RowKit Go.Maps

/-- Another tree's calls leave this one alone. -/
theorem TG.beside {w w' : World} {O : Nat → Prop} {t p b m sm rb : Nat} {s : St} {q : Pg} {Dn S : Stt} {D : Dk} {G : Gh} {Rw : Nat → Prop} {ds : List Nat} {rd rt : Root?} (h : TG w O t p b m sm rb s q Dn S D G Rw ds rd rt) {O1 : Nat → Prop} {t1 p1 sm1 rb1 : Nat} {s1 : St} {q1 : Pg} {Dn1 S1 : Stt} {D1 : Dk} {G1 G1' : Gh} {Rw1 Rw1' : Nat → Prop} {ds1 : List Nat} {rd1 rt1 : Root?} (h1 : TG w O1 t1 p1 b m sm1 rb1 s1 q1 Dn1 S1 D1 G1 Rw1 ds1 rd1 rt1) (hS : TStep p1 w w' G1 G1' Rw1 Rw1') (hn : ∀ x, (x = p1 ∨ G1 x ≠ none) → x ∉ [t, p, sm, rb] ∧ G x = none ∧ ¬ Rw x ∧ S.dropped.ownBlock ≠ some x) : TG w' O t p b m sm rb s q Dn S D G Rw ds rd rt := by
  obtain ⟨X, hX, hX1⟩ := hS.turn
  refine h.others hX fun x hx => ?_
  obtain ⟨g1, g2⟩ := hn x (hX1 x hx)
  have h3 : x ≠ 1 ∧ x ≠ b ∧ x ≠ m := by
    rcases hX1 x hx with rfl | e
    · have ha := h1.td.tm.pa.apart
      have hp := h1.td.tm.pa.pos
      exact ⟨by omega, ha.pb, ha.pm⟩
    · have := not7 (h1.td.tm.own x (.inl e)).1
      exact ⟨this.1, this.2.2.1, this.2.2.2.1⟩
  refine ⟨?_, g2⟩
  simp at g1 ⊢
  exact ⟨h3.1, g1.1, g1.2.1, h3.2.1, h3.2.2, g1.2.2.1, g1.2.2.2⟩

end Go.Proofs.YthgpjkcgccdldaaGreatDoor

namespace Go.Proofs.YthgpjkcgccdldaaGreatDoor
open Go.RowKit Go.Maps Go.Lib

/-- Behind a key. -/
def behind (x : ByteArray) : ByteArray := x ++ ⟨#[0]⟩
end Go.Proofs.YthgpjkcgccdldaaGreatDoor

namespace Go.Proofs.YthgpjkcgccdldaaGreatDoor
open Go.RowKit Go.Maps

/-- A key of TreeGrows. -/
def gk (st j : Nat) : ByteArray := nm (j * st % 17576)
theorem cop {st : Nat} (h2 : st % 2 = 1) (h13 : st % 13 ≠ 0) : Nat.Coprime 17576 st := by
  have h : Nat.Coprime 26 st := by
    unfold Nat.Coprime
    rw [Nat.gcd_rec]
    have hm : st % 26 % 2 = 1 := by omega
    have hn : st % 26 % 13 ≠ 0 := by omega
    have hl : st % 26 < 26 := by omega
    have all : ∀ r, r < 26 → r % 2 = 1 → r % 13 ≠ 0 → Nat.gcd r 26 = 1 := by decide
    exact all _ hl hm hn
  exact Nat.Coprime.pow_left 3 h
theorem gk_inj {st i j : Nat} (h2 : st % 2 = 1) (h13 : st % 13 ≠ 0) (hi : i < 17576) (hj : j < 17576) (h : gk st i = gk st j) : i = j := by
  have h1 := nm_inj (Nat.mod_lt _ (by decide)) (Nat.mod_lt _ (by decide)) h
  have key : ∀ {a b : Nat}, a ≤ b → b < 17576 → a * st % 17576 = b * st % 17576 → a = b := fun {a b} hab hb he => by
    have hd : 17576 ∣ (b - a) * st := by
      rw [Nat.sub_mul]
      have hle := Nat.mul_le_mul_right st hab
      exact Nat.dvd_of_mod_eq_zero (by omega)
    have := (cop h2 h13).dvd_of_dvd_mul_right hd
    rcases Nat.eq_zero_or_pos (b - a) with h | h
    · omega
    · have := Nat.le_of_dvd h this
      omega
  rcases Nat.le_total i j with hle | hle
  · exact key hle hj h1
  · exact (key hle hi h1.symm).symm

end Go.Proofs.YthgpjkcgccdldaaGreatDoor

namespace Go.Proofs.YthgpjkcgccdldaaGreatDoor
open Go.RowKit Go.Maps

/-- The keys from i - N to min i N are there, and no others. -/
structure Keys (st N i : Nat) (l : List Kv) : Prop where
  some : ∀ x ∈ l, ∃ j, i - N ≤ j ∧ j < min i N ∧ x.1 = gk st j
  all : ∀ j, i - N ≤ j → j < min i N → ∃ v, (gk st j, v) ∈ l
  len : l.length = min i N - (i - N)
theorem Keys.nil (st N : Nat) : Keys st N 0 [] := ⟨fun x hx => (by cases hx), fun j _ h => by omega, by simp⟩

theorem mem_putK_self (l : List Kv) (k v : ByteArray) : (k, v) ∈ putK l k v := by
  unfold putK
  exact List.mem_append_right _ (List.mem_cons_self ..)
theorem mem_putK_of {l : List Kv} {k v : ByteArray} {x : Kv} (h : x ∈ l) (hn : x.1 ≠ k) : x ∈ putK l k v := by
  unfold putK
  rcases klt_tri x.1 k with h1 | h1 | h1
  · exact List.mem_append_left _ (List.mem_filter.2 ⟨h, decide_eq_true h1⟩)
  · exact absurd h1 hn
  · exact List.mem_append_right _ (List.mem_cons_of_mem _ (List.mem_filter.2 ⟨h, decide_eq_true h1⟩))

theorem Keys.fresh {st N i : Nat} {l : List Kv} (h : Keys st N i l) (h2 : st % 2 = 1) (h13 : st % 13 ≠ 0) (hN : N < 250) (hi : i < N) : getK l (gk st i) = none := by
  refine getK_absent fun x hx e => ?_
  obtain ⟨j, h1, h3, h4⟩ := h.some x hx
  rw [e] at h4
  have := gk_inj h2 h13 (by omega) (by omega) h4
  omega
theorem Keys.put {st N i : Nat} {l : List Kv} (h : Keys st N i l) (h2 : st % 2 = 1) (h13 : st % 13 ≠ 0) (hN : N < 250) (hi : i < N) (hr : (l.map Prod.fst).Pairwise klt) (v : ByteArray) : Keys st N (i + 1) (putK l (gk st i) v) := by
  refine ⟨fun x hx => ?_, fun j h1 h3 => ?_, ?_⟩
  · rcases putK_mem hx with rfl | hx
    · exact ⟨i, by omega, by omega, rfl⟩
    · obtain ⟨j, g1, g2, g3⟩ := h.some x hx
      exact ⟨j, by omega, by omega, g3⟩
  · by_cases e : j = i
    · subst e
      exact ⟨v, mem_putK_self _ _ _⟩
    · obtain ⟨v', hv⟩ := h.all j (by omega) (by omega)
      refine ⟨v', mem_putK_of hv fun e2 => e ?_⟩
      exact gk_inj h2 h13 (by omega) (by omega) e2
  · rw [putK_len hr, h.fresh h2 h13 hN hi, h.len]
    simp
    omega
theorem Keys.there {st N i : Nat} {l : List Kv} (h : Keys st N i l) (hi : N ≤ i) (hi2 : i - N < N) : ∃ v, getK l (gk st (i - N)) = .some v := by
  obtain ⟨v, hv⟩ := h.all (i - N) (Nat.le_refl _) (by omega)
  cases hg : getK l (gk st (i - N)) with
  | none => exact absurd rfl (getK_not hg _ hv)
  | some y => exact ⟨y, rfl⟩
theorem Keys.del {st N i : Nat} {l : List Kv} (h : Keys st N i l) (h2 : st % 2 = 1) (h13 : st % 13 ≠ 0) (hN : N < 250) (hi : N ≤ i) (hi2 : i - N < N) (hr : (l.map Prod.fst).Pairwise klt) : Keys st N (i + 1) (delK l (gk st (i - N))) := by
  refine ⟨fun x hx => ?_, fun j h1 h3 => ?_, ?_⟩
  · unfold delK at hx
    obtain ⟨hx, hne⟩ := List.mem_filter.1 hx
    obtain ⟨j, g1, g2, g3⟩ := h.some x hx
    have hne' : x.1 ≠ gk st (i - N) := by simpa using hne
    have : j ≠ i - N := fun e => hne' (by rw [g3, e])
    exact ⟨j, by omega, by omega, g3⟩
  · obtain ⟨v, hv⟩ := h.all j (by omega) (by omega)
    refine ⟨v, ?_⟩
    unfold delK
    refine List.mem_filter.2 ⟨hv, ?_⟩
    have : gk st j ≠ gk st (i - N) := fun e => by
      have := gk_inj h2 h13 (by omega) (by omega) e
      omega
    simpa using this
  · obtain ⟨v, hv⟩ := h.there hi hi2
    have := delK_len hr hv
    have := h.len
    omega

theorem RootOk.high {rt : Root?} (h : RootOk rt) (hl : 0 < (flatR rt).length) : 1 ≤ heightR rt := by
  rcases h.low with ⟨_, h2⟩ | h2
  · rw [h2] at hl
    cases hl
  · exact h2.1
/-- There is room for all but the pages of what is committed. -/
theorem TG.room {w : World} {O : Nat → Prop} {t p b m sm rb : Nat} {s : St} {q : Pg} {Dn S : Stt} {D : Dk} {G : Gh} {Rw : Nat → Prop} {ds : List Nat} {rd rt : Root?} (h : TG w O t p b m sm rb s q Dn S D G Rw ds rd rt) : s.n ≤ 10 + q.left s.n + 2 * (flatR rd).length := by
  have hf := fp_bd h.td.tm.pa.laid.n64 h.td.tm.pa.laid.n16
  have hp := h.okd.pages
  have hn := h.td.tm.pa.laid.n16
  have := left_ge q s.n (by omega) (pagesR rd) fun k _ _ hk => (h.qK k).1 (by
    rw [h.qs k] at hk
    simpa using hk)
  omega

/-- A call of TreeGrows. -/
def StepR (w w' : World) (O : Nat → Prop) (t p b m : Nat) (s : St) (Dn S : Stt) (D : Dk) (rd rt : Root?) (st N i : Nat) : Prop :=
  KeepO O w w' ∧ ∃ (sm rb : Nat) (q : Pg) (S' : Stt) (G : Gh) (Rw : Nat → Prop) (ds : List Nat) (rt' : Root?), TG w' O t p b m sm rb s q Dn S' D G Rw ds rd rt' ∧ Keys st N i (flatR rt') ∧ S'.changed = true ∧ S'.fresh ≤ S.fresh + (2 * max 1 (heightR rt) + 1) ∧ (1 ≤ heightR rt ∨ 1 ≤ heightR rt')
theorem StepR.of0 {w0 w w' : World} {O : Nat → Prop} {t p b m : Nat} {s : St} {Dn S : Stt} {D : Dk} {rd rt : Root?} {st N i : Nat} (hT : Turn [] w0 w) (h : StepR w w' O t p b m s Dn S D rd rt st N i) : StepR w0 w' O t p b m s Dn S D rd rt st N i := ⟨(KeepO.of0 hT).trans h.1, h.2⟩

end Go.Proofs.YthgpjkcgccdldaaGreatDoor

namespace Go.Proofs.YthgpjkcgccdldaaGreatDoor
open Go.RowKit Go.Maps

/-- Nothing was changed since the Commit, or something was. -/
def Fresh (Dn S : Stt) (ds : List Nat) (rd rt : Root?) : Prop := S.changed = true ∨ (S = Dn ∧ rt = rd ∧ ds = [])

end Go.Proofs.YthgpjkcgccdldaaGreatDoor

namespace Go.Proofs.YthgpjkcgccdldaaGreatDoor
open Go.RowKit Go.Maps

theorem tg_get {w : World} {O : Nat → Prop} {t p b m sm rb : Nat} {s : St} {q : Pg} {Dn S : Stt} {D : Dk} {G : Gh} {Rw : Nat → Prop} {ds : List Nat} {rd rt : Root?} (h : TG w O t p b m sm rb s q Dn S D G Rw ds rd rt) (k : ByteArray) :
    Calls Tryz.prog 54 #[.pointer (some ⟨t, 0, none⟩), .string k] w fun e w' => e = .returned (gotV (getK (flatR rt) k)) ∧ ∃ G' Rw' r, TG w' O t p b m sm rb s { q with rd := r } Dn S D G' Rw' ds rd rt ∧ KeepO O w w' := by
  refine (tm_get h.td h.now h.ok k).mono ?_
  rintro e w' ⟨rfl, G', Rw', r, hTD, hG, hS⟩
  exact ⟨rfl, G', Rw', r, h.seen r hTD hG, (hS.go _).keepO h.td⟩

end Go.Proofs.YthgpjkcgccdldaaGreatDoor

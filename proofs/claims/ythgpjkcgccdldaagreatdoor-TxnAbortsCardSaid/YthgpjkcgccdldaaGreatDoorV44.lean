/-
  The law's Has and Range on plain rows, walked; a number's remainder; what is wrong with a Put.
  The law TreeFull, walked.
  A tree with its pager and its disk, told by what is committed and what it has: its calls.
-/
import Derived.Test.YthgpjkcgccdldaaGreatDoorV43
import Derived.Deep.CutRange
import Derived.Deep.RegionHeld3

namespace Go.Proofs.YthgpjkcgccdldaaGreatDoor
open Go.RowKit Go.Maps

/-- All that turned is new. -/
theorem KeepO.from {w0 w w' : World} {O : Nat → Prop} (h0 : Turn [] w0 w) (hK : KeepO O w w') (hO : ∀ x, x < w0.heap.size → x ≠ 1 → O x) : Turn [] w0 w' := by
  obtain ⟨X, hT, hX⟩ := hK
  exact h0.then hT fun x hx => .inr (Nat.le_of_not_lt fun hl => (hX x hx).1 (hO x hl (hX x hx).2))

end Go.Proofs.YthgpjkcgccdldaaGreatDoor

namespace Go.Proofs.YthgpjkcgccdldaaGreatDoor
open Go.RowKit Go.Maps

theorem KeepO.of {O : Nat → Prop} {X : List Nat} {w w' : World} (hT : Turn X w w') (hX : ∀ x ∈ X, ¬ O x ∧ x ≠ 1) : KeepO O w w' := ⟨X, hT, hX⟩
theorem KeepO.less {O O' : Nat → Prop} {w w' : World} (h : KeepO O w w') (hs : ∀ x, O' x → O x) : KeepO O' w w' := by
  obtain ⟨X, hT, hX⟩ := h
  exact ⟨X, hT, fun x hx => ⟨fun ho => (hX x hx).1 (hs x ho), (hX x hx).2⟩⟩
theorem KeepO.block {O : Nat → Prop} {w w' : World} (h : KeepO O w w') {x : Nat} (ho : O x) (hx : x < w.heap.size) : w'.heap[x]? = w.heap[x]? := by
  obtain ⟨X, hT, hX⟩ := h
  exact hT.block x hx (fun hm => (hX x hm).1 ho)
theorem KeepO.tab {O : Nat → Prop} {w w' : World} (h : KeepO O w w') (hT : Tab w) : Tab w' := by
  obtain ⟨X, hX, h1⟩ := h
  exact hT.turn hX (fun hm => (h1 1 hm).2 rfl)

/-- A tree with all it stands on: N blocks, c commits, ld committed, l what it has, ch: something was changed. -/
structure TreeG (w : World) (O : Nat → Prop) (t p b m N c : Nat) (ld : List Kv) (ch : Bool) (l : List Kv) : Prop where
  ex : ∃ (sm rb : Nat) (s : St) (q : Pg) (Dn S : Stt) (D : Dk) (G : Gh) (Rw : Nat → Prop) (ds : List Nat) (rd rt : Root?), TG w O t p b m sm rb s q Dn S D G Rw ds rd rt ∧ Fresh Dn S ds rd rt ∧ s.n = N ∧ q.c = c ∧ S.changed = ch ∧ flatR rd = ld ∧ flatR rt = l ∧ s.k ≤ 4000 * c

theorem TG.wide {X : List Nat} {w w' : World} {O O' : Nat → Prop} {t p b m sm rb : Nat} {s : St} {q : Pg} {Dn S : Stt} {D : Dk} {G : Gh} {Rw : Nat → Prop} {ds : List Nat} {rd rt : Root?} (h : TG w O t p b m sm rb s q Dn S D G Rw ds rd rt) (hT : Turn X w w') (hX : ∀ x ∈ X, O x) (hO : ∀ x, O' x → O x ∨ (x ∉ [1, t, p, b, m, sm, rb] ∧ G x = none ∧ ¬ Rw x ∧ S.dropped.ownBlock ≠ some x)) (hb : ∀ x, O' x → x < w'.heap.size) : TG w' O' t p b m sm rb s q Dn S D G Rw ds rd rt := by
  have hq := h.others hT (fun x hx => ⟨fun hm => h.td.tm.no x hm (hX x hx), by
    refine ⟨Classical.byContradiction fun hc => (h.td.tm.own x (.inl hc)).2 (hX x hx), fun hr => (h.td.tm.own x (.inr hr)).2 (hX x hx), fun hd => (h.td.far x hd).2.1 (hX x hx)⟩⟩)
  refine { hq with td := ⟨{ hq.td.tm with own := fun x hx => ⟨(hq.td.tm.own x hx).1, fun ho => ?_⟩, no := fun x hx ho => ?_, ob := hb }, hq.td.drop, fun g hg => ⟨(hq.td.far g hg).1, fun ho => ?_, (hq.td.far g hg).2.2⟩⟩ }
  · rcases hO x ho with ho | ho
    · exact (hq.td.tm.own x hx).2 ho
    · exact hx.elim (fun h => h ho.2.1) ho.2.2.1
  · rcases hO x ho with ho | ho
    · exact hq.td.tm.no x hx ho
    · exact ho.1 hx
  · rcases hO g ho with ho | ho
    · exact (hq.td.far g hg).2.1 ho
    · exact ho.2.2.2 hg
theorem TG.newBlock {w : World} {O : Nat → Prop} {t p b m sm rb : Nat} {s : St} {q : Pg} {Dn S : Stt} {D : Dk} {G : Gh} {Rw : Nat → Prop} {ds : List Nat} {rd rt : Root?} (h : TG w O t p b m sm rb s q Dn S D G Rw ds rd rt) {x : Nat} (hx : w.heap.size ≤ x) : x ∉ [1, t, p, b, m, sm, rb] ∧ G x = none ∧ ¬ Rw x ∧ S.dropped.ownBlock ≠ some x := by
  have hlt := h.td.tm.lts
  refine ⟨fun hm => by have := hlt x hm; omega, Classical.byContradiction fun hc => ?_, fun hr => ?_, fun hd => ?_⟩
  · have := h.td.tm.mem.lt hc; omega
  · have := h.td.tm.mem.rows x hr; omega
  · have := (h.td.drop.lt x hd).2; omega

theorem TreeG.turn {X : List Nat} {w w' : World} {O O' : Nat → Prop} {t p b m N c : Nat} {ld : List Kv} {ch : Bool} {l : List Kv} (h : TreeG w O t p b m N c ld ch l) (hT : Turn X w w') (hX : ∀ x ∈ X, O x) (hO : ∀ x, O' x → O x ∨ w.heap.size ≤ x) (hb : ∀ x, O' x → x < w'.heap.size) : TreeG w' O' t p b m N c ld ch l := by
  obtain ⟨sm, rb, s, q, Dn, S, D, G, Rw, ds, rd, rt, h1, h2⟩ := h.ex
  exact ⟨sm, rb, s, q, Dn, S, D, G, Rw, ds, rd, rt, h1.wide hT hX (fun x hx => (hO x hx).imp id (fun h => h1.newBlock h)) hb, h2⟩
theorem TreeG.ob {w : World} {O : Nat → Prop} {t p b m N c : Nat} {ld : List Kv} {ch : Bool} {l : List Kv} (h : TreeG w O t p b m N c ld ch l) : ∀ x, O x → x < w.heap.size := by
  obtain ⟨sm, rb, s, q, Dn, S, D, G, Rw, ds, rd, rt, h1, h2⟩ := h.ex
  exact h1.td.tm.ob
theorem TreeG.no {w : World} {O : Nat → Prop} {t p b m N c : Nat} {ld : List Kv} {ch : Bool} {l : List Kv} (h : TreeG w O t p b m N c ld ch l) : ¬ O 1 ∧ ¬ O t ∧ ¬ O p ∧ ¬ O b ∧ ¬ O m := by
  obtain ⟨sm, rb, s, q, Dn, S, D, G, Rw, ds, rd, rt, h1, h2⟩ := h.ex
  have hn := h1.td.tm.no
  exact ⟨hn 1 (by simp), hn t (by simp), hn p (by simp), hn b (by simp), hn m (by simp)⟩
theorem TreeG.lts {w : World} {O : Nat → Prop} {t p b m N c : Nat} {ld : List Kv} {ch : Bool} {l : List Kv} (h : TreeG w O t p b m N c ld ch l) : 1 < w.heap.size ∧ t < w.heap.size ∧ p < w.heap.size ∧ b < w.heap.size ∧ m < w.heap.size := by
  obtain ⟨sm, rb, s, q, Dn, S, D, G, Rw, ds, rd, rt, h1, h2⟩ := h.ex
  have hn := h1.td.tm.lts
  exact ⟨hn 1 (by simp), hn t (by simp), hn p (by simp), hn b (by simp), hn m (by simp)⟩
theorem TreeG.not1 {w : World} {O : Nat → Prop} {t p b m N c : Nat} {ld : List Kv} {ch : Bool} {l : List Kv} (h : TreeG w O t p b m N c ld ch l) {x : Nat} (ho : O x) : x ≠ 1 := fun e => h.no.1 (e ▸ ho)
theorem TreeG.rises {w : World} {O : Nat → Prop} {t p b m N c : Nat} {ld : List Kv} {ch : Bool} {l : List Kv} (h : TreeG w O t p b m N c ld ch l) : Rises (keysOf l) ∧ Rises (keysOf ld) := by
  obtain ⟨sm, rb, s, q, Dn, S, D, G, Rw, ds, rd, rt, h1, _, _, _, _, rfl, rfl, _⟩ := h.ex
  exact ⟨h1.ok.rises, h1.okd.rises⟩
theorem TreeG.same {w : World} {O : Nat → Prop} {t p b m N c : Nat} {ld : List Kv} {l : List Kv} (h : TreeG w O t p b m N c ld false l) : l = ld := by
  obtain ⟨sm, rb, s, q, Dn, S, D, G, Rw, ds, rd, rt, _, h2, _, _, h5, rfl, rfl, _⟩ := h.ex
  rcases h2 with h2 | ⟨_, h2, _⟩
  · rw [h5] at h2; cases h2
  · rw [h2]

theorem tgk_get {w : World} {O : Nat → Prop} {t p b m N c : Nat} {ld : List Kv} {ch : Bool} {l : List Kv} (h : TreeG w O t p b m N c ld ch l) (k : ByteArray) :
    Calls Tryz.prog 54 #[.pointer (some ⟨t, 0, none⟩), .string k] w fun e w' => e = .returned (gotV (getK l k)) ∧ TreeG w' O t p b m N c ld ch l ∧ KeepO O w w' := by
  obtain ⟨sm, rb, s, q, Dn, S, D, G, Rw, ds, rd, rt, h1, h2, h3, h4, h5, h6, rfl, h8⟩ := h.ex
  refine (tg_get h1 k).mono ?_
  rintro e w' ⟨rfl, G', Rw', r, h1', hK⟩
  exact ⟨rfl, ⟨sm, rb, s, _, Dn, S, D, G', Rw', ds, rd, rt, h1', h2, h3, h4, h5, h6, rfl, h8⟩, hK⟩

theorem tgk_put {w : World} {O : Nat → Prop} {t p b m N c : Nat} {ld : List Kv} {ch : Bool} {l : List Kv} (h : TreeG w O t p b m N c ld ch l) (k v : ByteArray) (hk1 : 0 < k.size) (hk : k.size ≤ 48) (hv : v.size ≤ 120) (hn : 2 * l.length + 2 * ld.length + 10 ≤ N) (hl : l.length ≤ 15000 ∧ ld.length ≤ 15000) :
    Calls Tryz.prog 42 #[.pointer (some ⟨t, 0, none⟩), .string k, .string v] w fun e w' => e = .returned (.int .i64 0) ∧ TreeG w' O t p b m N c ld true (putK l k v) ∧ KeepO O w w' := by
  obtain ⟨sm, rb, s, q, Dn, S, D, G, Rw, ds, rd, rt, h1, h2, h3, h4, h5, h6, h7, h8⟩ := h.ex
  have hr := h1.room
  have hp := h1.ok.pages
  have hc := count_le (pagesR rt)
  have hf := h1.fresh
  rw [h6] at hr
  rw [h7] at hp
  refine (tg_put h1 k v hk1 hk hv (by omega) (by rw [h7]; exact hl.1) (by rw [h6]; exact hl.2)).mono ?_
  rintro e w' ⟨rfl, rt', G', Rw', r, S', ds', g1, g2, g3, _, g5⟩
  exact ⟨rfl, ⟨sm, rb, s, _, Dn, S', D, G', Rw', ds', rd, rt', g1, .inl g3, h3, h4, g3, h6, by rw [g2, h7], h8⟩, g5⟩

set_option maxRecDepth 100000 in
set_option maxHeartbeats 3200000 in
/-- A key, or a value, that may not be. -/
theorem put_bad_w (t p b m sm rb : Nat) (s : St) (q : Pg) (D S : Stt) (hd : s.dead = false) (hq : q.dead = false) (k v : ByteArray) (hbad : k.size = 0 ∨ 48 < k.size ∨ 120 < v.size) (hkl : k.size ≤ 140737488351232) (hvl : v.size ≤ 140737488351232) (w : World) (hA : PAt w p b m sm rb s q) (hT : TreeAt w t p D S) :
    Calls Tryz.prog 42 #[.pointer (some ⟨t, 0, none⟩), .string k, .string v] w fun e w' => e = .returned (.int .i64 (if k.size = 0 ∨ 48 < k.size then 1 else 5)) ∧ (∃ r, PAt w' p b m sm rb s { q with rd := r }) ∧ Turn [p] w w' := by
  have HC := hide (tdead_any t p b m sm rb s q D S hd hq w hA hT)
  clear hA hT
  have hk0 := toList_empty k
  by_cases h1 : k.size = 0
  · rw [if_pos (.inl h1)]
    rw [decide_eq_true h1] at hk0
    clear hbad
    go_enter Tryz.func42, Tryz.ntmps42
    go_wp2_with fail
    refine HC.out.mono ?_
    rintro e w1 ⟨rfl, hA1, hT1⟩
    have HA1 := hide hA1
    clear hA1
    go_wp2_with fail
    go_ret
    exact ⟨rfl, HA1.out, hT1⟩
  · rw [decide_eq_false h1] at hk0
    by_cases h2 : 48 < k.size
    · rw [if_pos (.inr h2)]
      clear hbad
      go_enter Tryz.func42, Tryz.ntmps42
      go_wp2_with fail
      refine HC.out.mono ?_
      rintro e w1 ⟨rfl, hA1, hT1⟩
      have HA1 := hide hA1
      clear hA1
      go_wp2_with fail
      go_ret
      exact ⟨rfl, HA1.out, hT1⟩
    · have h3 : 120 < v.size := by omega
      rw [if_neg (by omega)]
      clear hbad
      go_enter Tryz.func42, Tryz.ntmps42
      go_wp2_with fail
      refine HC.out.mono ?_
      rintro e w1 ⟨rfl, hA1, hT1⟩
      have HA1 := hide hA1
      clear hA1
      go_wp2_with fail
      go_ret
      exact ⟨rfl, HA1.out, hT1⟩

/-- A Put that is refused, by what a tree has. -/
theorem tg_put_bad_w {w : World} {O : Nat → Prop} {t p b m sm rb : Nat} {s : St} {q : Pg} {Dn S : Stt} {D : Dk} {G : Gh} {Rw : Nat → Prop} {ds : List Nat} {rd rt : Root?} (h : TG w O t p b m sm rb s q Dn S D G Rw ds rd rt) (k v : ByteArray) (hbad : k.size = 0 ∨ 48 < k.size ∨ 120 < v.size) (hkl : k.size ≤ 140737488351232) (hvl : v.size ≤ 140737488351232) :
    Calls Tryz.prog 42 #[.pointer (some ⟨t, 0, none⟩), .string k, .string v] w fun e w' => e = .returned (.int .i64 (mayE k v)) ∧ ∃ r, TG w' O t p b m sm rb s { q with rd := r } Dn S D G Rw ds rd rt ∧ KeepO O w w' := by
  refine (put_bad_w t p b m sm rb s q Dn S h.td.tm.sd h.td.tm.qd k v hbad hkl hvl w h.td.tm.pa h.td.tm.tr).mono ?_
  rintro e w' ⟨rfl, ⟨r, hA⟩, hT⟩
  have e1 : mayE k v = if k.size = 0 ∨ 48 < k.size then 1 else 5 := by
    unfold mayE
    by_cases h1 : k.size = 0 ∨ 48 < k.size
    · rw [if_pos h1, if_pos h1]
    · rw [if_neg h1, if_neg h1, if_pos (by omega)]
  rw [e1]
  exact ⟨rfl, r, h.ask r hA hT⟩

theorem tgk_put_bad {w : World} {O : Nat → Prop} {t p b m N c : Nat} {ld : List Kv} {ch : Bool} {l : List Kv} (h : TreeG w O t p b m N c ld ch l) (k v : ByteArray) (hbad : k.size = 0 ∨ 48 < k.size ∨ 120 < v.size) (hkl : k.size ≤ 140737488351232) (hvl : v.size ≤ 140737488351232) :
    Calls Tryz.prog 42 #[.pointer (some ⟨t, 0, none⟩), .string k, .string v] w fun e w' => e = .returned (.int .i64 (mayE k v)) ∧ TreeG w' O t p b m N c ld ch l ∧ KeepO O w w' := by
  obtain ⟨sm, rb, s, q, Dn, S, D, G, Rw, ds, rd, rt, h1, h2⟩ := h.ex
  refine (tg_put_bad_w h1 k v hbad hkl hvl).mono ?_
  rintro e w' ⟨rfl, r, h1', hK⟩
  exact ⟨rfl, ⟨sm, rb, s, _, Dn, S, D, G, Rw, ds, rd, rt, h1', h2⟩, hK⟩

/-- Others' blocks, and a row's. -/
def Wr (O : Nat → Prop) (r : Value) : Nat → Prop := fun x => O x ∨ r.ownBlock = some x

theorem tgk_scan {w : World} {O : Nat → Prop} {t p b m N c : Nat} {ld : List Kv} {ch : Bool} {l : List Kv} (h : TreeG w O t p b m N c ld ch l) (lo hi : ByteArray) (lim : Int) (hl : l.length ≤ 100000) :
    Calls Tryz.prog 49 #[.pointer (some ⟨t, 0, none⟩), .string lo, .string hi, .int .i64 lim] w fun e w' => ∃ r, e = .returned r ∧ w'.ownsRow w.heap.size 55 2 r (scanL lo hi lim l).length (flat (kvCells (scanL lo hi lim l))) ∧ TreeG w' (Wr O r) t p b m N c ld ch l ∧ KeepO O w w' := by
  obtain ⟨sm, rb, s, q, Dn, S, D, G, Rw, ds, rd, rt, h1, h2, h3, h4, h5, h6, rfl, h8⟩ := h.ex
  refine (tm_scan h1.td h1.now h1.ok lo hi lim (by omega)).mono ?_
  rintro e w' ⟨r, rfl, hO, G', Rw', r', hTD, hG, hS, hout⟩
  have hlt := hO.lt
  have hT1 := h1.seen r' hTD hG
  refine ⟨r, rfl, hO, ⟨sm, rb, s, _, Dn, S, D, G', Rw', ds, rd, rt, hT1.wide (Turn.refl [] w') (by simp) (fun x hx => ?_) (fun x hx => ?_), h2, h3, h4, h5, h6, rfl, h8⟩, (hS.go _).keepO h1.td⟩
  · rcases hx with hx | hx
    · exact .inl hx
    · have hn := h1.newBlock (hlt x hx).1
      exact .inr ⟨hn.1, (hout x hx).1, (hout x hx).2, hn.2.2.2⟩
  · rcases hx with hx | hx
    · exact hTD.tm.ob x hx
    · exact (hlt x hx).2

theorem tgk_commit {w : World} {O : Nat → Prop} {t p b m N c : Nat} {ld : List Kv} {ch : Bool} {l : List Kv} (h : TreeG w O t p b m N c ld ch l) (hn : 2 * l.length + 2 * ld.length + 10 ≤ N) (hl : l.length ≤ 1900 ∧ ld.length ≤ 1900) (hc : c ≤ 140) :
    Calls Tryz.prog 72 #[.pointer (some ⟨t, 0, none⟩)] w fun e w' => e = .returned (.int .i64 0) ∧ TreeG w' O t p b m N (if ch = true then c + 1 else c) l false l ∧ KeepO O w w' := by
  obtain ⟨sm, rb, s, q, Dn, S, D, G, Rw, ds, rd, rt, h1, h2, h3, h4, h5, h6, h7, h8⟩ := h.ex
  have hr := h1.room
  have hp := h1.ok.pages
  have hcl := count_le (pagesR rt)
  have hf := h1.fresh
  rw [h6] at hr
  rw [h7] at hp
  by_cases hch : ch = true
  · have hmb := mbs_le s.n h1.td.tm.pa.laid.n16
    rw [if_pos hch]
    refine (tg_commit h1 (by rw [h5]; exact hch) (by omega) (by rw [h7]; omega) (by rw [h6]; omega) (by omega)).mono ?_
    rintro e w' ⟨rfl, sm', rb', s', q', D', G', rt', g1, g2, g3, g4, g5, g6, g7⟩
    exact ⟨rfl, ⟨sm', rb', s', q', _, _, D', G', Rw, [], rt', rt', g1, .inr ⟨rfl, rfl, rfl⟩, by rw [g5, h3], by rw [g6, h4], rfl, by rw [g2, h7], by rw [g2, h7], by omega⟩, g7⟩
  · rw [if_neg hch]
    have hcf : ch = false := by simpa using hch
    obtain ⟨rfl, rfl, rfl⟩ := h2.resolve_left (by rw [h5]; exact hch)
    refine (commit_clean t p b m sm rb s q S S h1.td.tm.sd h1.td.tm.qd h1.td.tm.off (by rw [h5]; exact hcf) w h1.td.tm.pa h1.td.tm.tr).mono ?_
    rintro e w' ⟨rfl, ⟨r, hA⟩, hT⟩
    obtain ⟨g1, g2⟩ := h1.ask r hA hT
    exact ⟨rfl, ⟨sm, rb, s, _, S, S, D, G, Rw, [], rt, rt, g1, .inr ⟨rfl, rfl, rfl⟩, h3, h4, by rw [h5, hcf], h7, h7, h8⟩, g2⟩

theorem tgk_abort {w : World} {O : Nat → Prop} {t p b m N c : Nat} {ld : List Kv} {ch : Bool} {l : List Kv} (h : TreeG w O t p b m N c ld ch l) :
    Calls Tryz.prog 48 #[.pointer (some ⟨t, 0, none⟩)] w fun e w' => e = .returned (.tuple #[]) ∧ TreeG w' O t p b m N c ld false ld ∧ KeepO O w w' := by
  obtain ⟨sm, rb, s, q, Dn, S, D, G, Rw, ds, rd, rt, h1, h2, h3, h4, h5, h6, h7, h8⟩ := h.ex
  refine (tg_abort h1).mono ?_
  rintro e w' ⟨rfl, g1, g2⟩
  exact ⟨rfl, ⟨sm, rb, s, q, Dn, Dn, D, G, Rw, [], rd, rd, g1, .inr ⟨rfl, rfl, rfl⟩, h3, h4, h1.dch, h6, h6, h8⟩, g2⟩

/-- isDead's question. -/
theorem tgk_read {w : World} {O : Nat → Prop} {t p b m N c : Nat} {ld : List Kv} {ch : Bool} {l : List Kv} (h : TreeG w O t p b m N c ld ch l) :
    Calls Tryz.prog 64 #[.pointer (some ⟨p, 0, none⟩), .int .i64 0] w fun e w' => e = .returned (.tuple #[.slice none 0 0, .int .i64 2]) ∧ TreeG w' O t p b m N c ld ch l ∧ KeepO O w w' := by
  obtain ⟨sm, rb, s, q, Dn, S, D, G, Rw, ds, rd, rt, h1, h2⟩ := h.ex
  refine (read_no p b m sm rb s q h1.td.tm.sd h1.td.tm.qd 0 (there0 q s.n) w h1.td.tm.pa).mono ?_
  rintro e w' ⟨rfl, ⟨r, hA⟩, hT⟩
  obtain ⟨g1, g2⟩ := h1.ask r hA hT
  exact ⟨rfl, ⟨sm, rb, s, _, Dn, S, D, G, Rw, ds, rd, rt, g1, h2⟩, g2⟩

end Go.Proofs.YthgpjkcgccdldaaGreatDoor

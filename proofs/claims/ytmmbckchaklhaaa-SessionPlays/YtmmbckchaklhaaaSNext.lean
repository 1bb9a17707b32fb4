/-
  fill and nextWaiting of package session, walked: a frame that began in an earlier piece.
  nextWaiting, next, read of package session, walked: the first whole frame.
-/
import Derived.Test.YtmmbckchaklhaaaSKeep
namespace Go.Proofs.Ytmmbckchaklhaaa.Se
open Go.RowKit Go.Maps

/-- A slice's length. -/
def lenV : Value → Nat
  | .slice _ n _ => n
  | _ => 0

/-- What fill has done when j bytes went over. -/
structure Fil (X : List Nat) (w wr : World) (g m : Nat) (ws b : List Nat) (j : Nat) (A : Option Addr) (C : Nat) : Prop where
  live : Live wr g (some m) (ws ++ b.take j)
  tn : Turn (own g (some m)) w wr
  byr : Byr wr A C (b.drop j)
  jb : j ≤ b.length
  js : ws.length + j ≤ span (ws ++ b)
  blk : ∀ x, b.drop j ≠ [] → A = some x → x.block ∉ X ++ own g (some m)
theorem Fil.len {X : List Nat} {w wr : World} {g m : Nat} {ws b : List Nat} {j : Nat} {A : Option Addr} {C : Nat} (h : Fil X w wr g m ws b j A C) : (ws ++ b.take j).length = ws.length + j := by
  rw [List.length_append, List.length_take, Nat.min_eq_left h.jb]
theorem Fil.next {X : List Nat} {w wr w' : World} {g m : Nat} {ws b : List Nat} {j : Nat} {A : Option Addr} {C q : Nat} {mo' : Option Nat} (h : Fil X w wr g m ws b j A C) (hq : q ≤ b.length - j) (hs : ws.length + (j + q) ≤ span (ws ++ b))
    (hL : Live w' g mo' ((ws ++ b.take j) ++ (b.drop j).take q)) (hW : Went wr (some m) mo') (hT : Turn (own g (some m)) wr w') : Fil X w w' g m ws b (j + q) (hiA A C q) (C - q) := by
  obtain rfl : mo' = some m := by
    rcases hW with e | ⟨e, _⟩
    · exact e
    · cases e
  have hj := h.jb
  have hby := h.byr.keepS hT (fun x h1 h2 h3 => h.blk x h1 h2 (List.mem_append_right _ h3))
  have hd := hby.drop q
  rw [List.drop_drop] at hd
  refine ⟨?_, h.tn.trans hT, hd, by omega, hs, fun x hne e => ?_⟩
  · rw [List.take_add, ← List.append_assoc]
    exact hL
  · obtain ⟨y, hy, hyx⟩ := hiA_block e
    rw [← hyx]
    refine h.blk y (fun e' => hne ?_) hy
    rw [← List.drop_drop, e', List.drop_nil]
/-- How long its front says that the frame is. -/
theorem Fil.span {X : List Nat} {w wr : World} {g m : Nat} {ws b : List Nat} {j : Nat} {A : Option Addr} {C : Nat} (h : Fil X w wr g m ws b j A C) : ws.length + j ≤ span (ws ++ b.take j) ∧ span (ws ++ b.take j) ≤ span (ws ++ b) ∧ (ws.length + j = span (ws ++ b.take j) → ws.length + j = span (ws ++ b)) := by
  have e : ws ++ b = (ws ++ b.take j) ++ b.drop j := by rw [List.append_assoc, List.take_append_drop]
  have hl := h.len
  have hs := h.js
  have h2 := span_ge (ws ++ b)
  by_cases hlt : (ws ++ b.take j).length < 2
  · rw [span_short hlt]
    omega
  · have hsp : Se.span (ws ++ b) = Se.span (ws ++ b.take j) := by
      rw [e]
      exact span_app (by omega) _
    rw [hsp] at hs
    rw [hsp]
    exact ⟨hs, Nat.le_refl _, fun h => h⟩

/-- What fill answers. -/
def FilP (X : List Nat) (w : World) (g m : Nat) (ws b : List Nat) (e : Ending) (w' : World) : Prop :=
  ∃ j A C, e = .returned (.slice A (b.length - j) C) ∧ Fil X w w' g m ws b j A C ∧ (j = b.length ∨ ws.length + j = span (ws ++ b))

set_option maxRecDepth 100000 in
set_option maxHeartbeats 4000000 in
theorem fill_any {w : World} {g m : Nat} {ws : List Nat} (hL : Live w g (some m) ws) (a : Option Addr) (c : Nat) (b : List Nat) (hB : Byr w a c b) (h8 : ∀ x ∈ ws, x < 256) (hws : ws.length ≤ span (ws ++ b)) (X : List Nat) (hap : ∀ x, b ≠ [] → a = some x → x.block ∉ X ++ own g (some m)) :
    Calls Try.prog 34 #[.pointer (some ⟨g, 0, none⟩), .slice a b.length c] w fun e w' => FilP X w g m ws b e w' := by
  have HF0 : Hid (Fil X w w g m ws b 0 a c) := ⟨by rw [List.take_zero, List.append_nil]; exact hL, Turn.refl _ _, hB, Nat.zero_le _, by omega, hap⟩
  have HB8 := hide hB.by8
  have H8 := hide h8
  have hbl := hB.lc
  have hbm := hB.cm
  unfold maxLen at hbm
  have hbl2 : b.length ≤ 9223372036854775807 := by omega
  obtain ⟨E, hE⟩ : ∃ E, E = fun e w' => FilP X w g m ws b e w' := ⟨_, rfl⟩
  rw [← hE]
  have HE : Hid (∀ j A C w', Fil X w w' g m ws b j A C → (j = b.length ∨ ws.length + j = span (ws ++ b)) → E (.returned (.slice A (b.length - j) C)) w') := fun j A C w' h1 h2 => by
    rw [hE]
    exact ⟨j, A, C, rfl, h1, h2⟩
  clear hE hL hB hap h8 hbl hbm hws
  obtain ⟨N, hN⟩ : ∃ N, b.length = N := ⟨_, rfl⟩
  rw [hN] at HE hbl2 ⊢
  have HN := hide hN
  clear hN
  go_enter Try.func34, Try.ntmps34
  go_wp2_with fail
  go_loopw [1] (fun u wr => ∃ (j n C : Nat) (A : Option Addr), u = .slice A n C ∧ n = N - j ∧ Hid (Fil X w wr g m ws b j A C)) (fun u _ => lenV u)
  case atStart => exact ⟨0, N, c, a, rfl, by omega, HF0⟩
  case round =>
    obtain ⟨j, n, C, A, rfl, hn, HF⟩ := hrel
    have hjb : j ≤ N := by rw [← HN.out]; exact HF.out.jb
    have hnN : n ≤ 9223372036854775807 := by omega
    by_cases h0 : n = 0
    · subst h0
      have HX : Hid (E (.returned (.slice A 0 C)) wr) := by
        have := HE.out j A C wr HF.out (.inl (by omega))
        rwa [← hn] at this
      clear hn HE
      go_wp2_with fail
      exact HX.out
    · obtain ⟨d1, d2, d3⟩ := HF.out.span
      have hlen := HF.out.len
      have c3 := HF.out.live.1.c3
      have c4 := HF.out.live.1.c4
      have hg := HF.out.live.lt
      have hp514 : ws.length + j ≤ 514 := by have := span_le (ws ++ b.take j); omega
      have h8F : ∀ x ∈ ws ++ b.take j, x < 256 := fun x hx => by
        rcases List.mem_append.1 hx with h | h
        · exact H8.out x h
        · exact HB8.out x (List.mem_of_mem_take h)
      have HSp : Hid (∀ k, Calls Try.prog 26 #[.slice (some ⟨m, 0, none⟩) (ws.length + j) 514] (wr.drewN k) fun e w' => e = .returned (.int .i64 (span (ws ++ b.take j) : Nat)) ∧ ∃ m, w' = (wr.drewN k).drewN m) := fun k => by
        have := span_any (wr.drewN k) (some ⟨m, 0, none⟩) 514 (ws ++ b.take j) (((HF.out.live.2.2).byr (by rw [hlen]; exact hp514) h8F).turn ((Turn.refl [] wr).drewN k))
        rwa [hlen] at this
      have hsl := fun u => slice_lo (some ⟨m, 0, none⟩) 514 514 (ws.length + j) u hp514
      have HD := hide d3
      have HS2 := hide (And.intro d2 HF.out.js)
      have HNJ : Hid (n = N - j) := hn
      rw [hlen] at c4
      have hsp514 := span_le (ws ++ b.take j)
      clear d3 d2 h8F hlen hn
      have HPJ : Hid (ws.length + j = ws.length + j) := rfl
      generalize hp : ws.length + j = p at *
      clear HPJ
      have HP := hide hp
      clear hp
      obtain ⟨S, hS⟩ : ∃ S, span (ws ++ b.take j) = S := ⟨_, rfl⟩
      rw [hS] at HSp HD HS2 d1 hsp514
      clear hS
      obtain ⟨q, hq⟩ : ∃ q : Nat, q = S - p := ⟨_, rfl⟩
      have hwq : IntKind.i64.wrap ((S : Int) - (p : Int)) = (q : Int) := by rw [IntKind.wrap_i64]; omega
      have HQ := hide hq
      clear hq
      by_cases hq0 : q = 0
      · subst hq0
        have HX : Hid (∀ k, E (.returned (.slice A n C)) (wr.drewN k)) := fun k => by
          have hFk : Fil X w (wr.drewN k) g m ws b j A C := ⟨HF.out.live.turn0 ((Turn.refl [] wr).drewN k), HF.out.tn.drewN k, HF.out.byr.turn ((Turn.refl [] wr).drewN k), HF.out.jb, HF.out.js, HF.out.blk⟩
          have := HE.out j A C _ hFk (.inr (by have := HQ.out; have := HP.out; have := HD.out (by omega); omega))
          rwa [← HNJ.out] at this
        clear HE
        go_wp2_with fail
        go_quiet (first | (go_at_call 26; refine Calls.quiet_of (HSp.out _)) | fail)
        go_wp2_with fail
        exact HX.out _
      · have HKp : Hid (∀ k k', k ≤ q → k ≤ n → Calls Try.prog 27 #[.pointer (some ⟨g, 0, none⟩), .slice A k C] (wr.drewN k') fun e w' => e = .returned (.tuple #[]) ∧ Fil X w w' g m ws b (j + k) (hiA A C k) (C - k)) := fun k k' hkq hkn => by
          have hFk : Fil X w (wr.drewN k') g m ws b j A C := ⟨HF.out.live.turn0 ((Turn.refl [] wr).drewN k'), HF.out.tn.drewN k', HF.out.byr.turn ((Turn.refl [] wr).drewN k'), HF.out.jb, HF.out.js, HF.out.blk⟩
          have hbn := HN.out
          have hnj := HNJ.out
          have hpj := HP.out
          have hqq := HQ.out
          obtain ⟨s1, s2⟩ := HS2.out
          have hkl : ((b.drop j).take k).length = k := by rw [List.length_take, List.length_drop]; omega
          have hc := keep_any hFk.live A C ((b.drop j).take k) (hFk.byr.take k) (by rw [hkl, hFk.len]; omega) (fun x hne e h3 => hFk.blk x (fun e' => hne (by rw [e', List.take_nil])) e (List.mem_append_right _ h3))
          rw [hkl] at hc
          refine hc.mono ?_
          rintro e w' ⟨he, mo', hL, hW, hT⟩
          exact ⟨he, hFk.next (by omega) (by omega) hL hW hT⟩
        have hAC : n ≤ C := by
          have := HF.out.byr.lc
          rw [List.length_drop, HN.out, ← HNJ.out] at this
          exact this
        by_cases hmn : n < q
        · have hs1 := fun u => slice_lo A n C n u (by omega)
          have hs2 := fun u => slice_hi A n C n u (Nat.le_refl _)
          rw [Nat.sub_self] at hs2
          have HK2 := hide (fun k' => HKp.out n k' (by omega) (Nat.le_refl _))
          clear HKp
          go_wp2_with fail
          go_quiet (first | (go_at_call 26; refine Calls.quiet_of (HSp.out _)) | fail)
          go_wp2_with fail
          refine (HK2.out _).mono ?_
          rintro e w2 ⟨rfl, hF2⟩
          have HF2 := hide hF2
          clear hF2 HK2 HSp
          go_wp2_with fail
          go_roundw
          case rel => exact ⟨j + n, 0, C - n, _, rfl, by have := HNJ.out; omega, HF2⟩
          case measure => simp [lenV]; omega
        · have hs1 := fun u => slice_lo A n C q u (by omega)
          have hs2 := fun u => slice_hi A n C q u (by omega)
          have HK2 := hide (fun k' => HKp.out q k' (Nat.le_refl _) (by omega))
          clear HKp
          go_wp2_with fail
          go_quiet (first | (go_at_call 26; refine Calls.quiet_of (HSp.out _)) | fail)
          go_wp2_with fail
          refine (HK2.out _).mono ?_
          rintro e w2 ⟨rfl, hF2⟩
          have HF2 := hide hF2
          clear hF2 HK2 HSp
          go_wp2_with fail
          go_roundw
          case rel => exact ⟨j + q, n - q, C - q, _, rfl, by have := HNJ.out; omega, HF2⟩
          case measure => simp [lenV]; omega

end Go.Proofs.Ytmmbckchaklhaaa.Se

namespace Go.Proofs.Ytmmbckchaklhaaa.Se
open Go.RowKit Go.Maps

/-- What next does where there is no whole frame: all bytes wait; or where there is one: it is told, and what is behind it. -/
def NextP (X : List Nat) (w : World) (g : Nat) (mo : Option Nat) (l : List Nat) (e : Ending) (w' : World) : Prop :=
  (l.length < span l ∧ e = .returned (.tuple #[.slice none 0 0, .slice none 0 0]) ∧ ∃ mo', Live w' g mo' l ∧ Went w mo mo' ∧ Turn (own g mo) w w')
  ∨ (¬ l.length < span l ∧ ∃ A C A' C', e = .returned (.tuple #[.slice A (span l) C, .slice A' (l.length - span l) C']) ∧ Live w' g mo [] ∧ Turn (own g mo) w w' ∧ Byr w' A C (l.take (span l)) ∧ Byr w' A' C' (l.drop (span l)) ∧ ∀ x, l.drop (span l) ≠ [] → A' = some x → x.block ∉ X ++ own g mo)

theorem Live.none4 {w : World} {g m : Nat} {ws : List Nat} (h : Live w g (some m) ws) : Live (w.setCell ⟨g, 4, none⟩ (.int .i64 0)) g (some m) [] := by
  obtain ⟨h1, h2, h3⟩ := h
  exact ⟨h1.set4 0, h2, h3.nil.of_block (Below.heap_setCell w ⟨g, 4, none⟩ _ m h2) (by rw [World.size_setCell]; exact Nat.le_refl _)⟩

set_option maxRecDepth 100000 in
set_option maxHeartbeats 4000000 in
theorem waiting_any {w : World} {g m : Nat} {ws : List Nat} (hL : Live w g (some m) ws) (a : Option Addr) (c : Nat) (b : List Nat) (hB : Byr w a c b) (h8 : ∀ x ∈ ws, x < 256) (hws : ws.length < span ws) (X : List Nat) (hap : ∀ x, b ≠ [] → a = some x → x.block ∉ X ++ own g (some m)) :
    Calls Try.prog 25 #[.pointer (some ⟨g, 0, none⟩), .slice a b.length c] w fun e w' => NextP X w g (some m) (ws ++ b) e w' := by
  have hws2 : ws.length ≤ span (ws ++ b) := by
    by_cases h2 : ws.length < 2
    · have := span_ge (ws ++ b)
      omega
    · rw [span_app (by omega)]
      omega
  have HFl := hide (fill_any hL a c b hB h8 hws2 X hap)
  have H8 := hide h8
  have HB8 := hide hB.by8
  obtain ⟨E, hE⟩ : ∃ E, E = fun e w' => NextP X w g (some m) (ws ++ b) e w' := ⟨_, rfl⟩
  rw [← hE]
  have HE : Hid (E = fun e w' => NextP X w g (some m) (ws ++ b) e w') := hE
  clear hE hL hB hap h8 hws hws2
  obtain ⟨N, hN⟩ : ∃ N, b.length = N := ⟨_, rfl⟩
  rw [hN] at HFl ⊢
  have HN := hide hN
  clear hN
  go_enter Try.func25, Try.ntmps25
  go_wp2_with fail
  refine HFl.out.mono ?_
  rintro e w1 ⟨j, A, C, rfl, hF, hj⟩
  obtain ⟨d1, d2, d3⟩ := hF.span
  have hlen := hF.len
  have hjb := hF.jb
  have c3 := hF.live.1.c3
  have c4 := hF.live.1.c4
  have fz := hF.live.1.fz 4
  have hg := hF.live.lt
  have hp514 : ws.length + j ≤ 514 := by have := span_le (ws ++ b.take j); omega
  have h8F : ∀ x ∈ ws ++ b.take j, x < 256 := fun x hx => by
    rcases List.mem_append.1 hx with h | h
    · exact H8.out x h
    · exact HB8.out x (List.mem_of_mem_take h)
  have HBy : Hid (∀ w', Turn [] w1 w' → Byr w' (some ⟨m, 0, none⟩) 514 (ws ++ b.take j)) := fun w' hT => ((hF.live.2.2).byr (by rw [hlen]; exact hp514) h8F).turn hT
  have HSp : Hid (∀ k, Calls Try.prog 26 #[.slice (some ⟨m, 0, none⟩) (ws.length + j) 514] (w1.drewN k) fun e w' => e = .returned (.int .i64 (span (ws ++ b.take j) : Nat)) ∧ ∃ m, w' = (w1.drewN k).drewN m) := fun k => by
    have := span_any (w1.drewN k) (some ⟨m, 0, none⟩) 514 (ws ++ b.take j) (HBy.out _ ((Turn.refl [] w1).drewN k))
    rwa [hlen] at this
  have hsl := fun u => slice_lo (some ⟨m, 0, none⟩) 514 514 (ws.length + j) u hp514
  rw [hlen] at c4
  have hsp514 := span_le (ws ++ b.take j)
  have eall : ws ++ b = (ws ++ b.take j) ++ b.drop j := by rw [List.append_assoc, List.take_append_drop]
  have hF2 : ∀ k, Fil X w (w1.drewN k) g m ws b j A C := fun k => ⟨hF.live.turn0 ((Turn.refl [] w1).drewN k), hF.tn.drewN k, hF.byr.turn ((Turn.refl [] w1).drewN k), hF.jb, hF.js, hF.blk⟩
  by_cases hlt : ws.length + j < span (ws ++ b.take j)
  · have HX : Hid (∀ k, E (.returned (.tuple #[.slice none 0 0, .slice none 0 0])) (w1.drewN k)) := fun k => by
      rw [HE.out]
      have hjN : j = b.length := by
        rcases hj with h | h
        · exact h
        · exfalso
          have h2 := span_ge (ws ++ b)
          have := span_app (a := ws ++ b.take j) (by rw [hlen]; omega) (b.drop j)
          rw [← eall] at this
          omega
      have eF : ws ++ b.take j = ws ++ b := by rw [hjN, List.take_length]
      rw [eF] at hlt
      refine .inl ⟨by rw [List.length_append, ← hjN]; exact hlt, rfl, some m, ?_, .inl rfl, (hF2 k).tn⟩
      rw [← eF]
      exact (hF2 k).live
    clear hF hF2 HE eall d1 d2 d3 hlen hj h8F HBy hsp514
    generalize ws.length + j = p at *
    generalize span (ws ++ b.take j) = S at *
    go_wp2_with fail
    go_quiet (fail)
    go_wp2_with fail
    refine (HSp.out _).mono ?_
    rintro e w2 ⟨rfl, k2, hw2⟩
    have HX2 : Hid (E (.returned (.tuple #[.slice none 0 0, .slice none 0 0])) w2) := by
      rw [hw2, World.drewN_drewN]
      exact HX.out _
    clear hw2 HX HSp
    go_wp2_with fail
    exact HX2.out
  · have hpe : ws.length + j = span (ws ++ b.take j) := by omega
    have hpa := d3 hpe
    have HX : Hid (∀ k, E (.returned (.tuple #[.slice (some ⟨m, 0, none⟩) (ws.length + j) 514, .slice A (b.length - j) C])) ((w1.drewN k).setCell ⟨g, 4, none⟩ (.int .i64 0))) := fun k => by
      rw [HE.out]
      have e1 : (ws ++ b).take (span (ws ++ b)) = ws ++ b.take j := by
        rw [← hpa, eall, List.take_append_of_le_length (by rw [hlen]; exact Nat.le_refl _), List.take_of_length_le (by rw [hlen]; exact Nat.le_refl _)]
      have e2 : (ws ++ b).drop (span (ws ++ b)) = b.drop j := by
        rw [← hpa, eall, List.drop_append_of_le_length (by rw [hlen]; exact Nat.le_refl _), List.drop_of_length_le (by rw [hlen]; exact Nat.le_refl _), List.nil_append]
      have hTs : Turn [g] (w1.drewN k) ((w1.drewN k).setCell ⟨g, 4, none⟩ (.int .i64 0)) := (Turn.refl _ _).setCell (by simp) _ _
      refine .inr ⟨by rw [List.length_append]; omega, some ⟨m, 0, none⟩, 514, A, C, ?_, (hF2 k).live.none4, ?_, ?_, ?_, ?_⟩
      · rw [← hpa, List.length_append, show ws.length + b.length - (ws.length + j) = b.length - j by omega]
      · exact (hF2 k).tn.trans (hTs.mono (fun x hx => by rw [List.mem_singleton.1 hx]; exact own_g _ _))
      · rw [e1]
        exact (HBy.out _ ((Turn.refl [] w1).drewN k)).keepS hTs (fun x _ e => by rw [← Option.some.inj e]; simpa using hF.live.2.1)
      · rw [e2]
        exact (hF2 k).byr.keepS hTs (fun x hx e => by
          have := hF.blk x hx e
          intro h
          exact this (List.mem_append_right _ (by rw [List.mem_singleton.1 h]; exact own_g _ _)))
      · rw [e2]
        exact hF.blk
    clear hF hF2 HE eall d1 d2 d3 hlen hj h8F HBy hsp514 hpa
    have hlt2 : ¬ ((ws.length + j : Nat) : Int) < (span (ws ++ b.take j) : Nat) := by omega
    clear hpe
    generalize ws.length + j = p at *
    generalize span (ws ++ b.take j) = S at *
    generalize b.length - j = r at *
    go_wp2_with fail
    go_quiet (fail)
    go_wp2_with fail
    refine (HSp.out _).mono ?_
    rintro e w2 ⟨rfl, k2, hw2⟩
    have HX2 : Hid (E (.returned (.tuple #[.slice (some ⟨m, 0, none⟩) p 514, .slice A r C])) (w2.setCell ⟨g, 4, none⟩ (.int .i64 0))) := by
      rw [hw2, World.drewN_drewN]
      exact HX.out _
    have k4 : w2.cell? ⟨g, 4, none⟩ = some (.int .i64 (p : Nat)) := by rw [hw2]; exact c4
    have kf : w2.frozen? ⟨g, 4, none⟩ = false := by rw [hw2]; exact fz
    have hg2 : g < w2.heap.size := by rw [hw2]; exact hg
    clear hw2 HX HSp
    go_wp2_with fail
    exact HX2.out

set_option maxRecDepth 100000 in
set_option maxHeartbeats 4000000 in
theorem next_any {w : World} {g : Nat} {mo : Option Nat} {ws : List Nat} (hL : Live w g mo ws) (a : Option Addr) (c : Nat) (b : List Nat) (hB : Byr w a c b) (h8 : ∀ x ∈ ws, x < 256) (hws : ws.length < span ws) (X : List Nat) (hap : ∀ x, b ≠ [] → a = some x → x.block ∉ X ++ own g mo) :
    Calls Try.prog 18 #[.pointer (some ⟨g, 0, none⟩), .slice a b.length c] w fun e w' => NextP X w g mo (ws ++ b) e w' := by
  obtain ⟨d, v, hC⟩ := hL.cells
  have c4 := hC.c4
  have hg := hC.lt
  clear hC
  by_cases hne : ws = []
  · subst hne
    rw [List.nil_append]
    have HSp := hide (span_any w a c b hB)
    obtain ⟨E, hE⟩ : ∃ E, E = fun e w' => NextP X w g mo b e w' := ⟨_, rfl⟩
    rw [← hE]
    have hlc := hB.lc
    have hcm := hB.cm
    unfold maxLen at hcm
    have hsp := span_le b
    by_cases hlt : b.length < span b
    · have HK : Hid (∀ k, Calls Try.prog 27 #[.pointer (some ⟨g, 0, none⟩), .slice a b.length c] (w.drewN k) fun e w' => e = .returned (.tuple #[]) ∧ E (.returned (.tuple #[.slice none 0 0, .slice none 0 0])) w') := fun k => by
        refine (keep_any (hL.turn0 ((Turn.refl [] w).drewN k)) a c b (hB.turn ((Turn.refl [] w).drewN k)) (by rw [List.length_nil]; omega) (fun x h1 h2 h3 => hap x h1 h2 (List.mem_append_right _ h3))).mono ?_
        rintro e w' ⟨he, mo', h1, h2, h3⟩
        refine ⟨he, ?_⟩
        rw [hE]
        refine .inl ⟨hlt, rfl, mo', h1, ?_, ((Turn.refl _ w).drewN k).trans h3⟩
        exact h2
      clear hE hL hB hap h8 hws
      generalize span b = S at *
      generalize b.length = n at *
      go_enter Try.func18, Try.ntmps18
      go_wp2_with fail
      refine HSp.out.mono ?_
      rintro e w1 ⟨rfl, k, hw1⟩
      subst w1
      go_wp2_with fail
      refine (HK.out _).mono ?_
      rintro e w2 ⟨rfl, hE2⟩
      have HE2 := hide hE2
      clear hE2 HK HSp
      go_wp2_with fail
      exact HE2.out
    · have HX : Hid (∀ k k', E (.returned (.tuple #[.slice a (span b) c, .slice (hiA a c (span b)) (b.length - span b) (c - span b)])) ((w.drewN k).drewN k')) := fun k k' => by
        rw [hE, World.drewN_drewN]
        have hT := (Turn.refl [] w).drewN (k + k')
        refine .inr ⟨hlt, a, c, _, _, rfl, hL.turn0 hT, (Turn.refl _ w).drewN _, (hB.turn hT).take _, (hB.turn hT).drop _, fun x hne e => ?_⟩
        obtain ⟨y, hy, hyx⟩ := hiA_block e
        rw [← hyx]
        refine hap y (fun e' => hne ?_) hy
        rw [e', List.drop_nil]
      have hs1 := fun u => slice_lo a b.length c (span b) u (by omega)
      have hs2 := fun u => slice_hi a b.length c (span b) u (by omega)
      clear hE hL hB hap h8 hws
      generalize span b = S at *
      generalize hiA a c S = a2 at *
      generalize b.length = n at *
      go_enter Try.func18, Try.ntmps18
      go_wp2_with fail
      refine HSp.out.mono ?_
      rintro e w1 ⟨rfl, k, hw1⟩
      have HX1 : Hid (∀ k', E (.returned (.tuple #[.slice a S c, .slice a2 (n - S) (c - S)])) (w1.drewN k')) := fun k' => by rw [hw1]; exact HX.out _ _
      clear hw1 HX HSp
      go_wp2_with fail
      go_quiet (fail)
      go_wp2_with fail
      exact HX1.out _
  · have hpos : ¬ ws.length = 0 := fun e => hne (List.length_eq_zero_iff.1 e)
    cases mo with
    | none => exact absurd hL.2 hne
    | some m =>
      have HK := hide (waiting_any hL a c b hB h8 hws X hap)
      obtain ⟨E, hE⟩ : ∃ E, E = fun e w' => NextP X w g (some m) (ws ++ b) e w' := ⟨_, rfl⟩
      rw [← hE] at HK ⊢
      have HT : Hid (∀ e w', E e w' → ∃ v1 v2, e = .returned (.tuple #[v1, v2])) := fun e w' h => by
        rw [hE] at h
        rcases h with ⟨_, rfl, _⟩ | ⟨_, A, C, A', C', rfl, _⟩
        · exact ⟨_, _, rfl⟩
        · exact ⟨_, _, rfl⟩
      clear hE hL hB hap h8 hws hne
      generalize ws.length = p at *
      generalize b.length = n at *
      go_enter Try.func18, Try.ntmps18
      go_wp2_with fail
      refine HK.out.mono ?_
      rintro e w1 hE1
      obtain ⟨v1, v2, rfl⟩ := HT.out _ _ hE1
      have HE1 := hide hE1
      clear hE1 HK HT
      go_wp2_with fail
      exact HE1.out

end Go.Proofs.Ytmmbckchaklhaaa.Se

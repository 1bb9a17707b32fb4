/-
  LotsPlays, walked.
-/
import Derived.Test.YtegbinlpojpffaaLHead
import Derived.Test.YtegbinlpojpffaaLRefU
import Derived.Test.YtegbinlpojpffaaLPRow
import Derived.Test.YtegbinlpojpffaaLPlaysP
import Derived.Test.YtegbinlpojpffaaLFrame
import Derived.Deep.CutRange
namespace Go.Proofs.Ytegbinlpojpffaa
open Go.ChangeShapes Go.WideShapes Go.ChangeAt Go.RowKit Go.Maps Lo
open Go.Deep

/-- A step: take or use; how much; which; how much later. -/
structure Stp where
  us : Bool
  n : Int
  k : Int
  t : Int
def Stp.nil : Stp := ⟨false, 0, 0, 0⟩
/-- Its cells in memory. -/
structure StpIn (w : World) (b o : Nat) (q : Stp) : Prop where
  us : w.cell? ⟨b, o, none⟩ = some (.bool q.us)
  n : w.cell? ⟨b, o + 1, none⟩ = some (.int .i64 q.n)
  k : w.cell? ⟨b, o + 2, none⟩ = some (.int .i64 q.k)
  t : w.cell? ⟨b, o + 3, none⟩ = some (.int .i64 q.t)
theorem StpIn.turn0 {w w' : World} {b o : Nat} {q : Stp} (h : StpIn w b o q) (hT : Turn [] w w') : StpIn w' b o q :=
  have hb := hT.block b (lt_of_cell h.us) (by simp)
  ⟨(World.cell?_of_block hb).trans h.us, (World.cell?_of_block hb).trans h.n, (World.cell?_of_block hb).trans h.k, (World.cell?_of_block hb).trans h.t⟩
def StepsAt (w : World) (a : Option Addr) (l : List Stp) : Prop := l = [] ∨ ∃ b off, a = some ⟨b, off, none⟩ ∧ ∀ i, i < l.length → StpIn w b (off + i * 4) (l.getD i Stp.nil)
theorem StepsAt.turn0 {w w' : World} {a : Option Addr} {l : List Stp} (h : StepsAt w a l) (hT : Turn [] w w') : StepsAt w' a l := by
  rcases h with rfl | ⟨b, off, rfl, h⟩
  · exact .inl rfl
  · exact .inr ⟨b, off, rfl, fun i hi => (h i hi).turn0 hT⟩
theorem StepsAt.at {w : World} {a : Option Addr} {l : List Stp} (h : StepsAt w a l) {i : Nat} (hi : i < l.length) : ∃ b off, a = some ⟨b, off, none⟩ ∧ StpIn w b (off + i * 4) (l.getD i Stp.nil) := by
  rcases h with rfl | ⟨b, off, rfl, h⟩
  · simp at hi
  · exact ⟨b, off, rfl, h i hi⟩

/-- The parts' numbers are small. -/
def Sm (r : Pr) : Prop := r.p.length ≤ 14 ∧ ∀ x ∈ r.p, 1 ≤ x.2 ∧ x.2 ≤ 1000000
/-- What holds at the head of each round. -/
structure Inv (base : Nat) (k : Nat) (ak : Option Addr) (ck : Nat) (lk : List Lt) (v : Value) (rs : List Pr) (w : World) : Prop where
  lots : LotsAt w ak lk
  nil : ak = none → ck = 0
  rises : Rises lk
  bds : Bds (1000000 + k * 14000000) lk
  row : OwnR w base v rs
  sm : ∀ r ∈ rs, Sm r
  off : ∀ q, v.ownBlock = some q → ∀ x, ak = some x → lk ≠ [] → x.block ≠ q
  base : base ≤ w.heap.size
theorem Inv.turn {base k ck : Nat} {ak : Option Addr} {lk : List Lt} {v : Value} {rs : List Pr} {w w' : World} (h : Inv base k ak ck lk v rs w) (hT : Turn [] w w') : Inv base k ak ck lk v rs w' :=
  ⟨h.lots.turn0 hT, h.nil, h.rises, h.bds, h.row.turn hT, h.sm, h.off, Nat.le_trans h.base hT.size⟩
theorem Inv.later {base k m ck : Nat} {ak : Option Addr} {lk : List Lt} {v : Value} {rs : List Pr} {w : World} (h : Inv base k ak ck lk v rs w) (hm : k ≤ m) : Inv base m ak ck lk v rs w :=
  ⟨h.lots, h.nil, h.rises, h.bds.mono (by omega), h.row, h.sm, h.off, h.base⟩

set_option maxRecDepth 100000 in
set_option maxHeartbeats 8000000 in
theorem plays_any (a : Option Addr) (cap : Nat) (l : List Lt) (now : Int) (sa : Option Addr) (sc : Nat) (ss : List Stp) (w : World) (hlen : l.length ≤ 9223372036854775807) (hL : LotsAt w a l) (hS : StepsAt w sa ss) :
    Calls Try.prog 4 #[.slice a l.length cap, .int .i64 now, .slice sa ss.length sc] w fun e w' => e = .returned (.bool true) ∧ Turn [] w w' := by
  have HL := hide hL
  have HSt := hide hS
  clear hL hS
  go_enter Try.func4, Try.ntmps4
  go_wp2_with fail
  refine (known_any w).mono ?_
  rintro e w1 ⟨rfl, hT1⟩
  have HT1 := hide hT1
  clear hT1
  go_wp2_with fail
  refine (within_any _ _ _ (by omega) (by omega)).mono ?_
  rintro e w1 ⟨rfl, rfl⟩
  obtain ⟨t, ht⟩ : ∃ t, t = now % 100000 := ⟨_, rfl⟩
  rw [← ht]
  have ht1 : 0 ≤ t ∧ t < 100000 := by omega
  clear ht
  go_wp2_with fail
  refine (goodAt_any a cap l t w1 hlen (HL.out.turn0 HT1.out) (by omega) (by omega)).mono ?_
  rintro e w2 ⟨ga, gc, G, rfl, hG, hT2⟩
  have HT2 := hide (HT1.out.trans hT2)
  have hGl := hG.good.len
  have HI : Hid (Inv w2.heap.size 0 ga gc G (.slice none 0 0) [] w2) := ⟨hG.lots, hG.nil, hG.good.rises, (hG.good.bd ht1.1 (by omega)).mono (by omega), OwnR.nil _ _, by simp, by simp [Value.ownBlock], Nat.le_refl _⟩
  clear hG hT2 HT1 HL
  go_wp2_with fail
  go_loopw [0, 1, 7, 8] (fun u0 u1 u7 u8 wr => ∃ (k : Nat) (lk : List Lt) (ak : Option Addr) (ck : Nat) (tk : Int) (rs : List Pr), k ≤ ss.length ∧ k ≤ 20 ∧ u0 = .slice ak lk.length ck ∧ u1 = .int .i64 tk ∧ u8 = .int .i64 k ∧ lk.length ≤ 14 ∧ 0 ≤ tk ∧ tk ≤ 100000 + 4 * k ∧ rs.length ≤ k ∧ Hid (Inv w2.heap.size k ak ck lk u7 rs wr) ∧ Turn [] w wr) (fun _ _ _ u8 _ => 20 - (intOf u8).toNat)
  case atStart => exact ⟨0, G, ga, gc, t, [], Nat.zero_le _, by omega, rfl, rfl, rfl, hGl, by omega, by omega, Nat.le_refl _, HI, HT2.out⟩
  case round =>
    obtain ⟨k, lk, ak, ck, tk, rs, hk, hk2, rfl, rfl, rfl, hlk, htk0, htk1, hrs, HIk, hT⟩ := hrel
    have HT := hide hT
    clear hT HI
    by_cases hlt : k < ss.length ∧ k < 20
    · obtain ⟨hlt, hk20⟩ := hlt
      obtain ⟨b, off, rfl, s0, s1, s2, s3⟩ := (HSt.out.turn0 HT.out).at hlt
      generalize ss.getD k Stp.nil = q at *
      obtain ⟨qu, qn, qk, qt⟩ := q
      simp only at s0 s1 s2 s3
      have hb := lt_of_cell s0
      obtain ⟨W, hW⟩ : ∃ W, W = wr.alloc (.cells #[.bool qu, .int .i64 qn, .int .i64 qk, .int .i64 qt] 37) := ⟨_, rfl⟩
      have hbW : W.heap[wr.heap.size]? = some (.cells #[.bool qu, .int .i64 qn, .int .i64 qk, .int .i64 qt] 37) := by rw [hW]; exact Array.getElem?_push_size
      have hq : StpIn W wr.heap.size 0 ⟨qu, qn, qk, qt⟩ := by
        refine ⟨?_, ?_, ?_, ?_⟩ <;> (unfold World.cell?; rw [hbW]; rfl)
      have HTW : Hid (Turn [] wr W) := by rw [hW]; exact (Turn.refl [] wr).alloc _
      have HQ := hide hq
      have HIW := hide (HIk.out.turn HTW.out)
      have HTw := hide (HT.out.trans HTW.out)
      go_upto_region 10 with fail
      rw [← hW]
      clear s0 s1 s2 s3 hW hbW HT HTW HIk hb
      generalize wr.heap.size = gq at *
      obtain ⟨q0, q1, q2, q3⟩ := hq
      simp only [Nat.zero_add] at q0 q1 q2 q3
      have hgq := lt_of_cell q0
      go_wp2_with fail
      refine (within_any _ _ _ (by omega) (by omega)).mono ?_
      rintro e W ⟨rfl, rfl⟩
      obtain ⟨d, hd⟩ : ∃ d, d = qt % 4 := ⟨_, rfl⟩
      rw [← hd]
      have hd4 : 0 ≤ d ∧ d < 4 := by omega
      clear hd
      obtain ⟨T, hTe⟩ : ∃ T, T = tk + d := ⟨_, rfl⟩
      have hT0 : 0 ≤ T ∧ T ≤ 100000 + 4 * (k + 1) := by omega
      go_wp2_with (first | (at_builtin; refine append_lots rfl _ _ rfl lk ak ck W.heap.size rfl rfl rfl HIW.out.lots HIW.out.nil (by omega) ?_; intro gw cw w3 hO3 hg3 hcw1 hcw2 hT3; have HW3 := hide hO3.at; have HT3 := hide hT3; obtain ⟨q0, q1, q2, q3⟩ := HQ.out.turn0 hT3; simp only [Nat.zero_add] at q0 q1 q2 q3; have hgq := lt_of_cell q0; clear hO3 hT3) | fail)
      have HI3 := hide (HIW.out.turn HT3.out)
      have HTw3 := hide (HTw.out.trans HT3.out)
      have HQ3 := hide (HQ.out.turn0 HT3.out)
      clear HIW HTw HT3 HQ
      refine (within_any _ _ _ (by omega) (by omega)).mono ?_
      rintro e w3 ⟨rfl, rfl⟩
      obtain ⟨n, hn⟩ : ∃ n, n = qn % 3000 := ⟨_, rfl⟩
      rw [← hn]
      have hn3 : 0 ≤ n ∧ n < 3000 := by omega
      rw [← hTe]
      clear hn hTe
      have HBh : Hid (Bhs lk) := HI3.out.bds.h (by omega)
      cases qu with
      | false =>
        go_wp2_with fail
        refine (take_any ak ck lk n T w3 HI3.out.rises hlk HBh.out HI3.out.lots HI3.out.nil hn3.1 (by omega)).mono ?_
        rintro e w4 ⟨is, g1, L, P, N, pa, pc, hTd, htk, rfl, hLl, _, hg1, hO4, hP4, hpn, hP14, hpc1, hpc2, hpx, hT4⟩
        have HTd := hide hTd
        have HTk := hide htk
        have HO4 := hide hO4.at
        have HP4 := hide hP4
        have HT4 := hide hT4
        have HPx := hide hpx
        have HG1 : Hid (w3.heap.size ≤ g1 ∧ g1 < w4.heap.size) := ⟨hg1, hO4.lt⟩
        have hil : is.length ≤ 14 := Nat.le_trans (turned_len hTd) hlk
        have HLl := hide hLl
        clear hTd htk hO4 hP4 hT4 hpx hLl
        go_wp2_with fail
        refine (rtake_any (some ⟨gw, 0, none⟩) cw lk is n T w4 HI3.out.rises HTd.out hlk HBh.out (HW3.out.turn0 HT4.out) (fun e => by cases e) hn3.1 (by omega) hil).mono ?_
        rintro e w5 ⟨g2, c2, L2, P2, N2, pa2, pc2, htk2, rfl, _, hg2, hO5, hP5, hT5⟩
        rw [HTk.out] at htk2
        obtain ⟨rfl, rfl, rfl⟩ : L = L2 ∧ P = P2 ∧ N = N2 := by
          injection htk2 with h1 h2
          injection h2 with h2 h3
          exact ⟨h1, h2, h3⟩
        have HSL := hide (sameLots_any (some ⟨g1, 0, none⟩) (some ⟨g2, 0, none⟩) lk.length c2 L w5 (by rw [HLl.out]; omega) (HO4.out.turn0 hT5) hO5.at)
        rw [HLl.out] at HSL
        have HP5 := hide hP5
        have HP45 := hide (HP4.out.turn0 hT5)
        have HT5 := hide hT5
        clear htk2 hO5 hP5 hT5
        go_wp2_with fail
        refine HSL.out.mono ?_
        rintro e w6 ⟨rfl, hT6⟩
        have HSP := hide (sameParts_any pa pa2 pc pc2 P w6 (by omega) (HP45.out.turn0 hT6) (HP5.out.turn0 hT6))
        have HT6 := hide (HT5.out.trans hT6)
        clear hT6 HSL HP5
        go_wp2_with fail
        refine HSP.out.mono ?_
        rintro e w7 ⟨rfl, hT7⟩
        have HT7 := hide (HT6.out.trans hT7)
        have HSK := hide (sameLots_any ak (some ⟨gw, 0, none⟩) ck cw lk w7 (by omega) (HI3.out.lots.turn0 (HT4.out.trans HT7.out)) (HW3.out.turn0 (HT4.out.trans HT7.out)))
        clear hT7 HSP HT6
        go_wp2_with fail
        refine HSK.out.mono ?_
        rintro e w8 ⟨rfl, hT8⟩
        have hT48 := HT7.out.trans hT8
        have HT8 := hide hT48
        have HI8 := hide (HI3.out.turn (HT4.out.trans hT48))
        have HP8 := hide (HP4.out.turn0 hT48)
        have HL8 := hide (HO4.out.turn0 hT48)
        have HQl : Hid (∀ q, u7.ownBlock = some q → q < w3.heap.size) := fun q hq => own_lt HI3.out.row.row hq
        have HTw8 := hide (HTw3.out.trans (HT4.out.trans hT48))
        have hs48 := hT48.size
        have HG1' := HG1.out
        clear HSK hT8 HT7 HT5 hT48
        go_wp2_with (first | (at_builtin; refine append_prow rfl _ _ rfl w2.heap.size u7 rs ⟨pa, pc, P⟩ rfl HI8.out.row w8.heap.size rfl rfl (by omega) HI8.out.base HP8.out (fun q hq x hx _ => by have h1 := HQl.out q hq; have h2 := HPx.out x hx; omega) ?_; intro v' w9 hown9 hgr9 hb9) | fail)
        have HI9 : Hid (Inv w2.heap.size (k + 1) (some ⟨g1, 0, none⟩) lk.length L v' (rs ++ [⟨pa, pc, P⟩]) w9) := by
          have e1 : L = (Lo.tk lk is n []).1 := by rw [HTk.out]
          have e2 : P = (Lo.tk lk is n []).2.1 := by rw [HTk.out]
          refine ⟨lots_grown HL8.out hgr9 (fun q hq x hx _ => by obtain rfl := Option.some.inj hx; have h1 := HQl.out q hq; simp only; omega), (fun e => by cases e), ?_, ?_, hown9, fun r hr => ?_, fun q hq x hx _ => ?_, Nat.le_trans HI8.out.base hgr9.size⟩
          · rw [e1]
            exact tk_rises is lk n HTd.out.lt HI3.out.rises
          · rw [e1]
            exact (tk_bds is lk n _ T HTd.out hn3.1 HI3.out.bds).mono (by omega)
          · rcases List.mem_append.1 hr with hr | hr
            · exact HI3.out.sm r hr
            · obtain rfl := List.mem_singleton.1 hr
              refine ⟨hP14, fun x hx => ?_⟩
              simp only at hx
              rw [e2] at hx
              have := tk_parts is lk n T HTd.out x hx
              omega
          · obtain rfl := Option.some.inj hx
            simp only
            rcases hb9 q hq with h | h
            · have h1 := HQl.out q h
              omega
            · omega
        have HTw9 : Hid (Turn [] w w9) := HTw8.out.grown hgr9 (fun q hq => .inr (by have h1 := own_ge HI8.out.row.row hq; have h2 := HT2.out.size; omega))
        have HLk := HLl.out
        clear hown9 hgr9 hb9 HI8 HL8 HP8 HTw8
        go_roundw
        case rel => exact ⟨k + 1, L, some ⟨g1, 0, none⟩, lk.length, T, _, by omega, by omega, by rw [HLk], rfl, by go_num, by omega, hT0.1, by have := hT0.2; simp; omega, by simp; omega, HI9, HTw9.out⟩
        case measure => simp [intOf]; omega
      | true =>
        obtain ⟨pa, pc, rfl, hpn, hpl, hpc, hat⟩ := HI3.out.row.at
        by_cases h0 : rs.length = 0
        · obtain rfl : rs = [] := List.eq_nil_of_length_eq_zero h0
          go_wp2_with fail
          go_roundw
          case rel => exact ⟨k + 1, lk, ak, ck, T, [], by omega, by omega, rfl, rfl, by go_num, hlk, hT0.1, by have := hT0.2; simp; omega, by simp, hide (HI3.out.later (by omega)), HTw3.out⟩
          case measure => simp [intOf]; omega
        · have h0b : ((rs.length : Int) == 0) = false := by simp only [beq_eq_false_iff_ne, ne_eq]; omega
          have hrl : rs.length ≤ 20 := by omega
          go_wp2_with fail
          refine (within_any qk rs.length w3 (by omega) (by omega)).mono ?_
          rintro e w3 ⟨rfl, rfl⟩
          obtain ⟨i, hie, hi⟩ : ∃ i : Nat, qk % (rs.length : Int) = (i : Int) ∧ i < rs.length := by
            have h1 := Int.emod_nonneg qk (show (rs.length : Int) ≠ 0 by omega)
            have h2 := Int.emod_lt_of_pos qk (show (0 : Int) < rs.length by omega)
            exact ⟨(qk % (rs.length : Int)).toNat, by omega, by omega⟩
          rw [hie]
          clear hie
          obtain ⟨g, rfl, hgb, hgl, hcell⟩ := hat i hi
          have hrm : rs.getD i Pr.nil ∈ rs := by rw [List.getD_eq_getElem?_getD, List.getElem?_eq_getElem hi]; exact List.getElem_mem hi
          have hok := HI3.out.row.ok _ hrm
          obtain ⟨hsm1, hsm2⟩ := HI3.out.sm _ hrm
          have HOk := hide hok
          have HSm := hide hsm2
          generalize rs.getD i Pr.nil = r at *
          have HUb : Hid (Bds 10000000000000 lk) := HI3.out.bds.mono (by omega)
          have hcl := hcell
          clear hok hsm2 hat hpn hrm
          go_wp2_with fail
          refine (use_any ak ck lk r.a r.c r.p n T w3 hlk HUb.out HI3.out.lots HI3.out.nil HOk.out hsm1 HSm.out hn3.1 (by omega)).mono ?_
          rintro e w4 ⟨g1, L, N, hus, rfl, hLl, hg1, hO4, hT4⟩
          have HUs := hide hus
          have HO4 := hide hO4.at
          have HT4 := hide hT4
          have HG1 : Hid (w3.heap.size ≤ g1 ∧ g1 < w4.heap.size) := ⟨hg1, hO4.lt⟩
          have HLl := hide hLl
          have hcell4 := (hT4.cell (p := ⟨g, i, none⟩) hgl (by simp)).trans hcell
          have hgl4 := lt_of_cell hcell4
          clear hus hO4 hT4 hLl hcell
          go_wp2_with fail
          refine (ruse_any (some ⟨gw, 0, none⟩) cw lk r.a r.c r.p n T w4 hlk HUb.out (HW3.out.turn0 HT4.out) (fun e => by cases e) (HOk.out.turn0 HT4.out) hsm1 HSm.out hn3.1 (by omega)).mono ?_
          rintro e w5 ⟨g2, c2, L2, N2, hus2, rfl, _, hg2, hO5, hT5⟩
          rw [HUs.out] at hus2
          obtain ⟨rfl, rfl⟩ : L = L2 ∧ N = N2 := by
            injection hus2 with h1 h2
            exact ⟨h1, h2⟩
          have HSL := hide (sameLots_any (some ⟨g1, 0, none⟩) (some ⟨g2, 0, none⟩) lk.length c2 L w5 (by rw [HLl.out]; omega) (HO4.out.turn0 hT5) hO5.at)
          rw [HLl.out] at HSL
          have HT5 := hide hT5
          clear hus2 hO5 hT5 hcell4 hgl4
          go_wp2_with fail
          refine HSL.out.mono ?_
          rintro e w6 ⟨rfl, hT6⟩
          have HT6 := hide (HT5.out.trans hT6)
          have HSK := hide (sameLots_any ak (some ⟨gw, 0, none⟩) ck cw lk w6 (by omega) (HI3.out.lots.turn0 (HT4.out.trans HT6.out)) (HW3.out.turn0 (HT4.out.trans HT6.out)))
          clear hT6 HSL
          go_wp2_with fail
          refine HSK.out.mono ?_
          rintro e w7 ⟨rfl, hT7⟩
          have hT47 := HT6.out.trans hT7
          have HI7 := hide (HI3.out.turn (HT4.out.trans hT47))
          have HL7 := hide (HO4.out.turn0 hT47)
          have HTw7 := hide (HTw3.out.trans (HT4.out.trans hT47))
          have hs47 := hT47.size
          clear HSK hT7 HT6 HT5 hT47
          obtain ⟨v1, w8, v2, w9, hr1, hr2, hR9, hT9, hq9⟩ := cut_rows w7 w2.heap.size g pc rs i HI7.out.row hi (by omega) HI7.out.base
          have HR9 := hide hR9
          have HT9 := hide hT9
          have HQ9 := hide hq9
          have hsl := fun w => prow_lo (some ⟨g, 0, none⟩) rs.length pc i w (by omega)
          have hsh := fun w => prow_hi ⟨g, 0, none⟩ rs.length pc i w (by omega)
          have hwi : IntKind.i64.wrap ((i : Int) + 1) = (i : Int) + 1 := by rw [IntKind.wrap_i64]; omega
          generalize hiP ⟨g, 0, none⟩ pc (i + 1) = x3 at *
          clear hR9 hT9 hq9
          go_upto_region 27 with fail
          go_cut [7] from 30 to 162 (fun u wx => u = v2 ∧ wx = w9)
          case first =>
            refine wp_region_noPanic ?_
            refine wp_region_held_drew (S := fun _ => True) (by kernel_rfl) trivial (fun hHeld => ?_)
            refine' wpAnyH_take (i := 1) (oi := { dst := some 147, op := Op.move (Operand.tmp 7), type := 35, pos := "law.go:107", after := #[], guard := none }) (v := _) rfl (by kernel_rfl) (by kernel_rfl) (by kernel_rfl) (fun _ _ _ h => h) (Or.inl ⟨by rfl, ?_⟩) (by assumption) ?_
            rotate_left
            · intro w hSw; (try dsimp only at hSw); go_simp <;> with_reducible rfl
            simp only [Act.put, List.setIfInBounds_toArray, List.set_cons_zero, List.set_cons_succ]
            refine' wpAnyH_take (i := 2) (oi := { dst := some 148, op := Op.move (Operand.tmp 18), type := 3, pos := "law.go:107", after := #[], guard := none }) (v := _) rfl (by kernel_rfl) (by kernel_rfl) (by kernel_rfl) (fun _ _ _ h => h) (Or.inl ⟨by rfl, ?_⟩) (by assumption) ?_
            rotate_left
            · intro w hSw; (try dsimp only at hSw); go_simp <;> with_reducible rfl
            simp only [Act.put, List.setIfInBounds_toArray, List.set_cons_zero, List.set_cons_succ]
            refine' wpAnyH_take (i := 3) (oi := { dst := some 149, op := Op.slice 35 (Operand.tmp 147) none (some (Operand.tmp 148)) none, type := 35, pos := "law.go:107", after := #[{ on := 1, ground := Ground.data }, { on := 2, ground := Ground.data }], guard := none }) (v := _) rfl (by kernel_rfl) (by kernel_rfl) (by kernel_rfl) (fun _ _ _ h => h) (Or.inl ⟨by rfl, ?_⟩) (by assumption) ?_
            rotate_left
            · intro w hSw; (try dsimp only at hSw); go_simp <;> with_reducible rfl
            simp only [Act.put, List.setIfInBounds_toArray, List.set_cons_zero, List.set_cons_succ]
            refine' wpAnyH_take (i := 5) (oi := { dst := some 151, op := Op.move (Operand.tmp 7), type := 35, pos := "law.go:107", after := #[], guard := none }) (v := _) rfl (by kernel_rfl) (by kernel_rfl) (by kernel_rfl) (fun _ _ _ h => h) (Or.inl ⟨by rfl, ?_⟩) (by assumption) ?_
            rotate_left
            · intro w hSw; (try dsimp only at hSw); go_simp <;> with_reducible rfl
            simp only [Act.put, List.setIfInBounds_toArray, List.set_cons_zero, List.set_cons_succ]
            refine' wpAnyH_take (i := 6) (oi := { dst := some 152, op := Op.move (Operand.tmp 18), type := 3, pos := "law.go:107", after := #[], guard := none }) (v := _) rfl (by kernel_rfl) (by kernel_rfl) (by kernel_rfl) (fun _ _ _ h => h) (Or.inl ⟨by rfl, ?_⟩) (by assumption) ?_
            rotate_left
            · intro w hSw; (try dsimp only at hSw); go_simp <;> with_reducible rfl
            simp only [Act.put, List.setIfInBounds_toArray, List.set_cons_zero, List.set_cons_succ]
            refine' wpAnyH_take (i := 7) (oi := { dst := some 153, op := Op.binOp BinOp.add 3 (Operand.tmp 152) (Operand.const (Value.int IntKind.i64 1)) 3, type := 3, pos := "law.go:107", after := #[{ on := 6, ground := Ground.data }], guard := none }) (v := _) rfl (by kernel_rfl) (by kernel_rfl) (by kernel_rfl) (fun _ _ _ h => h) (Or.inl ⟨by rfl, ?_⟩) (by assumption) ?_
            rotate_left
            · intro w hSw; (try dsimp only at hSw); go_simp <;> with_reducible rfl
            simp only [Act.put, List.setIfInBounds_toArray, List.set_cons_zero, List.set_cons_succ]
            refine' wpAnyH_take (i := 8) (oi := { dst := some 154, op := Op.slice 35 (Operand.tmp 151) (some (Operand.tmp 153)) none none, type := 35, pos := "law.go:107", after := #[{ on := 5, ground := Ground.data }, { on := 7, ground := Ground.data }], guard := none }) (v := _) rfl (by kernel_rfl) (by kernel_rfl) (by kernel_rfl) (fun _ _ _ h => h) (Or.inl ⟨by rfl, ?_⟩) (by assumption) ?_
            rotate_left
            · intro w hSw; (try dsimp only at hSw); go_simp <;> with_reducible rfl
            simp only [Act.put, List.setIfInBounds_toArray, List.set_cons_zero, List.set_cons_succ]
            refine wpAnyH_ready (rs := [0]) (by kernel_rfl) (by simp) ?_
            refine AllReadyH.cons (o := { dst := some 146, op := Op.buildSlice 35 0 #[], type := 35, pos := "law.go:107", after := #[], guard := none }) rfl (fun K hK => ?_) AllReadyH.nil
            go_simp
            refine hK.out _ _ trivial (fun hHeld => ?_)
            clear hK K
            refine wpAnyH_ready (rs := [4]) (by kernel_rfl) (by simp) ?_
            refine AllReadyH.cons (o := { dst := some 150, op := Op.call { callee := Callee.builtin Builtin.append, args := #[Operand.tmp 146, Operand.tmp 149], argTypes := #[35, 35] }, type := 35, pos := "law.go:107", after := #[{ on := 0, ground := Ground.data }, { on := 3, ground := Ground.data }], guard := none }) rfl (fun K hK => ?_) AllReadyH.nil
            rw [if_pos (by rfl)]
            refine oper_append _ _ _ _ _ _ rfl rfl rfl hr1 ?_
            refine hK.out _ _ trivial (fun hHeld => ?_)
            clear hK K
            simp only [Act.put, List.setIfInBounds_toArray, List.set_cons_zero, List.set_cons_succ]
            refine wpAnyH_ready (rs := [9]) (by kernel_rfl) (by simp) ?_
            refine AllReadyH.cons (o := { dst := some 155, op := Op.call { callee := Callee.builtin Builtin.append, args := #[Operand.tmp 150, Operand.tmp 154], argTypes := #[35, 35] }, type := 35, pos := "law.go:107", after := #[{ on := 4, ground := Ground.data }, { on := 8, ground := Ground.data }, { on := 4, ground := Ground.chain }], guard := none }) rfl (fun K hK => ?_) AllReadyH.nil
            rw [if_pos (by rfl)]
            refine oper_append _ _ _ _ _ _ rfl rfl rfl hr2 ?_
            refine hK.out _ _ trivial (fun hHeld => ?_)
            clear hK K
            simp only [Act.put, List.setIfInBounds_toArray, List.set_cons_zero, List.set_cons_succ]
            refine' wpAnyH_take (i := 10) (oi := { dst := some 7, op := Op.assign (Operand.tmp 155), type := 35, pos := "law.go:107", after := #[{ on := 9, ground := Ground.data }, { on := 9, ground := Ground.chain }, { on := 0, ground := Ground.phase }, { on := 1, ground := Ground.phase }, { on := 2, ground := Ground.phase }, { on := 3, ground := Ground.phase }, { on := 4, ground := Ground.phase }, { on := 5, ground := Ground.phase }, { on := 6, ground := Ground.phase }, { on := 7, ground := Ground.phase }, { on := 8, ground := Ground.phase }, { on := 9, ground := Ground.phase }], guard := none }) (v := _) rfl (by kernel_rfl) (by kernel_rfl) (by kernel_rfl) (fun _ _ _ h => h) (Or.inl ⟨by rfl, ?_⟩) (by assumption) ?_
            rotate_left
            · intro w hSw; (try dsimp only at hSw); go_simp <;> with_reducible rfl
            simp only [Act.put, List.setIfInBounds_toArray, List.set_cons_zero, List.set_cons_succ]
            refine wpAnyH_done (by kernel_rfl) ?_ _
            refine NoPanic.normal ?_
            go_wp2_with fail
            go_meet
            case rel => exact ⟨rfl, rfl⟩
          case rest =>
            obtain ⟨rfl, rfl⟩ := hcut
            have HL9 := hide (HL7.out.turn0 HT9.out)
            have hs79 := HT9.out.size
            have HG1' := HG1.out
            have HK9 : Hid (Rises L ∧ Bds (1000000 + (k + 1 : Nat) * 14000000) L) := by
              have h := us_keep r.p lk n (1000000 + k * 14000000) T HSm.out hn3.1 HI3.out.rises HI3.out.bds (by omega)
              rw [HUs.out] at h
              exact ⟨h.1, h.2.mono (by simp; omega)⟩
            have HI9 : Hid (Inv w2.heap.size (k + 1) (some ⟨g1, 0, none⟩) lk.length L u7 (rs.take i ++ rs.drop (i + 1)) wc) := by
              refine ⟨HL9.out, (fun e => by cases e), HK9.out.1, HK9.out.2, HR9.out, fun x hx => ?_, fun q hq x hx _ => ?_, Nat.le_trans HI7.out.base hs79⟩
              · rcases List.mem_append.1 hx with h | h
                · exact HI3.out.sm x (List.mem_of_mem_take h)
                · exact HI3.out.sm x (List.mem_of_mem_drop h)
              · obtain rfl := Option.some.inj hx
                have h1 := HQ9.out q hq
                simp only
                omega
            have HTw9 := hide (HTw7.out.trans HT9.out)
            have HLl' := HLl.out
            have HBl : Hid (Bds 1000000000000 L) := HK9.out.2.mono (by simp; omega)
            have HLf := hide (left_any (some ⟨g1, 0, none⟩) lk.length L T wc (by omega) HBl.out HL9.out)
            rw [HLl'] at HLf
            clear HK9 HL9 HR9 HT9 HQ9 HTw7 HI7 HL7 hr1 hr2 hsl hsh
            go_wp2_with fail
            refine HLf.out.mono ?_
            rintro e w10 ⟨rfl, hT10⟩
            have HI10 := hide (HI9.out.turn hT10)
            have HTw10 := hide (HTw9.out.trans hT10)
            have HRl := hide (rleft_any (some ⟨g1, 0, none⟩) lk.length L T w10 (by omega) HBl.out HI10.out.lots)
            rw [HLl'] at HRl
            clear hT10 HI9 HTw9 HLf
            go_wp2_with fail
            refine HRl.out.mono ?_
            rintro e w11 ⟨rfl, hT11⟩
            have HI11 := hide (HI10.out.turn hT11)
            have HTw11 := hide (HTw10.out.trans hT11)
            clear hT11 HI10 HTw10 HRl
            go_wp2_with fail
            go_roundw
            case rel => exact ⟨k + 1, L, some ⟨g1, 0, none⟩, lk.length, T, _, by omega, by omega, by rw [HLl'], rfl, by go_num, by omega, hT0.1, by have := hT0.2; simp; omega, by simp; omega, HI11, HTw11.out⟩
            case measure => simp [intOf]; omega
    · have hcs : (¬ k < ss.length) ∨ (k < ss.length ∧ ¬ k < 20) := by
        by_cases h : k < ss.length
        · exact .inr ⟨h, fun h2 => hlt ⟨h, h2⟩⟩
        · exact .inl h
      clear hlt
      rcases hcs with h1 | ⟨h1, h2⟩
      all_goals
        go_wp2_with fail
        go_ret
        exact ⟨rfl, HT.out⟩

theorem cells_step : Try.prog.cellsOf 37 = 4 := by kernel_rfl
theorem cells_bool : Try.prog.cellsOf 4 = 1 := by kernel_rfl

set_option maxRecDepth 100000 in
/-- The values of a step. -/
theorem open_step {H : Type} {enc : TypeId × Value → H} {W : World} {base : Nat} {spare : Nat → Bool} {held : Bool} {fuel : Nat} {cs : List Value} {y : DataW H × List MemPlace} (h : DataW.trod enc Try.prog W base spare held fuel 37 cs = some y) :
    ∃ q : Stp, cs = [.bool q.us, .int .i64 q.n, .int .i64 q.k, .int .i64 q.t] := by
  obtain ⟨xs, m, _, _, hl, hlen, hf⟩ := DataW.trod_struct Try.underlying37 h
  rw [cells_step] at hl
  obtain ⟨c0, c1, c2, c3, rfl⟩ : ∃ c0 c1 c2 c3, cs = [c0, c1, c2, c3] := by
    match cs, hl with
    | [c0, c1, c2, c3], _ => exact ⟨c0, c1, c2, c3, rfl⟩
  have hg : ∀ i (hi : i < xs.length), xs[i]? = some xs[i] := fun i hi => List.getElem?_eq_getElem hi
  have hn : xs.length = 4 := hlen
  obtain ⟨x0, e0, _⟩ := DataW.trod_bool Try.underlying4 ((hf 0 _ rfl).trans (hg 0 (by omega)))
  obtain ⟨x1, e1, _, _⟩ := DataW.trod_int Try.underlying3 ((hf 1 _ rfl).trans (hg 1 (by omega)))
  obtain ⟨x2, e2, _, _⟩ := DataW.trod_int Try.underlying3 ((hf 2 _ rfl).trans (hg 2 (by omega)))
  obtain ⟨x3, e3, _, _⟩ := DataW.trod_int Try.underlying3 ((hf 3 _ rfl).trans (hg 3 (by omega)))
  simp [cells_int, cells_bool] at e0 e1 e2 e3
  subst e0 e1 e2 e3
  exact ⟨⟨x0, x1, x2, x3⟩, rfl⟩

/-- The steps that came in, out of how they are read. -/
theorem steps_of {H : Type} {enc : TypeId × Value → H} {W : World} {fuel : Nat} {a : Option Addr} {n c : Nat} {y : DataW H × List MemPlace} (h : DataW.trod enc Try.prog W 0 (fun _ => true) true fuel 34 [.slice a n c] = some y) :
    ∃ l : List Stp, n = l.length ∧ StepsAt W a l := by
  rcases open_slice Try.underlying34 h with ⟨hcs, _⟩ | ⟨x, len, cap, m, nf, D, Pl, hcs, _, hl, hm, hmm, rfl, hx⟩
  · have e := List.singleton_inj.1 hcs
    injection e with e1 e2 e3
    subst e1 e2 e3
    exact ⟨[], rfl, .inl rfl⟩
  · have e := List.singleton_inj.1 hcs
    injection e with e1 e2 e3
    subst e1 e2 e3
    simp only [if_true] at hmm
    subst hmm
    by_cases hn : n = 0
    · subst hn
      exact ⟨[], rfl, .inl rfl⟩
    have hone : ∀ k, k < n → ∃ q : Stp, ∀ j, j < 4 → W.cell? ((x.add (k * 4)).add j) = [Value.bool q.us, .int .i64 q.n, .int .i64 q.k, .int .i64 q.t][j]? := fun k hk => by
      obtain ⟨cs', h1, h2⟩ := hx k (by omega)
      rw [cells_step] at h1
      obtain ⟨_, hlen, hcell⟩ := World.cells?_some h1
      obtain ⟨q, rfl⟩ := open_step h2
      exact ⟨q, fun j hj => hcell j hj⟩
    obtain ⟨u0, e00⟩ := hone 0 (by omega)
    have e00' : W.cell? x = some (.bool u0.us) := e00 0 (by omega)
    obtain ⟨_, _, _, _, hsp⟩ := World.shape?_of_cell? e00'
    obtain ⟨b, off, sp⟩ := x
    obtain rfl : sp = none := hsp
    have hall : ∀ k, ∃ q : Stp, k < n → StpIn W b (off + k * 4) q := fun k => by
      by_cases hk : k < n
      · obtain ⟨q, hu⟩ := hone k hk
        simp only [add_spot] at hu
        exact ⟨q, fun _ => ⟨hu 0 (by omega), hu 1 (by omega), hu 2 (by omega), hu 3 (by omega)⟩⟩
      · exact ⟨Stp.nil, fun h => absurd h hk⟩
    obtain ⟨f, hf⟩ := Classical.skolem.1 hall
    refine ⟨(List.range n).map f, by simp, .inr ⟨b, off, rfl, fun i hi => ?_⟩⟩
    simp only [List.length_map, List.length_range] at hi
    have : ((List.range n).map f).getD i Stp.nil = f i := by
      rw [List.getD_eq_getElem?_getD]
      simp [hi]
    rw [this]
    exact hf i hi

end Go.Proofs.Ytegbinlpojpffaa

/-
  Rows of items put one behind the other; two sessions beside one another, one of which has all bytes, the other the first i of them.
  SessionPieces, walked: however bytes come in pieces, byte by byte, or all at once.
-/
import Derived.Test.YtmmbckchaklhaaaSArg
import Derived.Test.YtmmbckchaklhaaaSBytes
import Derived.Deep.RegionHeld
import Derived.Deep.RegionHeld3
namespace Go.Proofs.Ytmmbckchaklhaaa.Se
open Go.RowKit Go.Maps

theorem flatI_one (l : List It) : ∀ v ∈ flatI l, v.oneCell' = true := by
  induction l with
  | nil => intro v hv; cases hv
  | cons x l ih =>
    intro v hv
    rw [flatI] at hv
    rcases List.mem_append.1 hv with k | k
    · exact itC_one x v k
    · exact ih v k

/-- A row of items more. -/
theorem append_items {ops : Array Oper} {rest : List Oper} {o : Oper} {a : Act} {Q : Exit → Act → World → Prop} {w : World} (hgd : o.guard = none) (s x : Operand)
    (ho : o.op = .call { callee := .builtin .append, args := #[s, x], argTypes := #[34, 34] }) (base : Nat) (v : Value) (rs : List It) (b2 : Nat) (u : Value) (ts : List It) (hs : a.eval s = v) (hown : Items w base v rs) (hx : a.eval x = u) (hU : Items w b2 u ts) (hb : rs.length + ts.length ≤ 1000001) (hbase : base ≤ w.heap.size)
    (h : ∀ v' w', Items w' base v' (rs ++ ts) → Turn v.ownBlock.toList w w' → (v'.ownBlock = v.ownBlock ∨ v'.ownBlock = some w.heap.size) → wpList Try.prog ops Q rest (a.put o.dst v') w') :
    wpList Try.prog ops Q (o :: rest) a w := by
  obtain ⟨i0, hi, hz0, hz1, hz2⟩ := info_parts info_item
  obtain ⟨hl, ⟨hu, h0⟩ | ⟨g, cap, cur, hu, hb2, hg, hnc, hm, hsz, hcur⟩⟩ := hU
  · have : ts = [] := List.eq_nil_of_length_eq_zero h0
    subst this
    rw [hu] at hx
    refine wpList_append_own_none hgd s x 34 ho base 46 i0 19 Try.underlying34 hi v rs.length (flatI rs) hs hown hx ?_
    exact h v w (by rw [List.append_nil]; exact hown) (Turn.refl _ _) (.inl rfl)
  · rw [hu] at hx
    refine wpList_append_own_at _ hgd s x 34 ho base 46 i0 (.agg (itC ⟨Rq.zero, 0⟩).toArray) 19 184 Try.underlying34 hi hz0 hz1 hz2 rfl (by decide) v rs.length (flatI rs) hs hown ⟨g, 0, none⟩ ts.length cap (flatI ts) hx hl (fun j u hj => ?_) (flatI_one ts) (by unfold maxLen; omega) (by omega) hbase ?_
    · rw [Addr.add_mid]
      have hjl : j < ts.length * 19 := by
        rw [← hl]
        exact (List.getElem?_eq_some_iff.1 hj).1
      unfold World.cell?
      rw [hg]
      show cur[0 + j]? = _
      rw [Nat.zero_add, ← Array.getElem?_toList, ← hj, ← hcur, List.getElem?_take, if_pos hjl]
    · intro v' w' h1 h2 _ h4
      refine h v' w' ?_ ((Turn.refl _ w).grown h2 fun k hk => .inl (by rw [hk]; simp)) h4
      unfold Items
      rw [List.length_append, flatI_append]
      exact h1

/-- Session g1 has all bytes l, session g2 the first i of them. -/
structure Pc (w0 wr : World) (g1 g2 : Nat) (mo1 mo2 : Option Nat) (va vo : Value) (B : Nat) (a : Option Addr) (c : Nat) (l : List Nat) (i : Nat) : Prop where
  m1 : Mine w0.heap.size wr g1 mo1 (feed Ss.new l).2
  all : Items wr w0.heap.size va (feed Ss.new l).1
  m2 : Mine w0.heap.size wr g2 mo2 (feed Ss.new (l.take i)).2
  one : Items wr B vo (feed Ss.new (l.take i)).1
  byr : Byr wr a c l
  blk : ∀ x, l ≠ [] → a = some x → x.block < B ∧ x.block ∉ own g2 mo2
  low1 : ∀ x ∈ own g1 mo1, x < B ∧ x ∉ own g2 mo2
  lowa : ∀ q, va.ownBlock = some q → q < B ∧ q ∉ own g2 mo2
  apo : ∀ q, vo.ownBlock = some q → q ∉ own g2 mo2
  tn : Turn [] w0 wr
  sz : B ≤ wr.heap.size
  sz0 : w0.heap.size ≤ B

theorem take_more (l : List Nat) (i : Nat) : feed Ss.new (l.take (i + 1)) = ((feed Ss.new (l.take i)).1 ++ (feed (feed Ss.new (l.take i)).2 ((l.drop i).take 1)).1, (feed (feed Ss.new (l.take i)).2 ((l.drop i).take 1)).2) := by
  rw [List.take_add, feed_two]

theorem Pc.step {w0 wr w' w'' : World} {g1 g2 : Nat} {mo1 mo2 mo2' : Option Nat} {va vo v vo' : Value} {B : Nat} {a : Option Addr} {c : Nat} {l : List Nat} {i : Nat} (h : Pc w0 wr g1 g2 mo1 mo2 va vo B a c l i)
    (hP : MP w0.heap.size wr g2 mo2 (feed (feed Ss.new (l.take i)).2 ((l.drop i).take 1)).1 (feed (feed Ss.new (l.take i)).2 ((l.drop i).take 1)).2 v mo2' w')
    (hI : Items w'' B vo' ((feed Ss.new (l.take i)).1 ++ (feed (feed Ss.new (l.take i)).2 ((l.drop i).take 1)).1)) (hT : Turn vo.ownBlock.toList w' w'') (hv : vo'.ownBlock = vo.ownBlock ∨ vo'.ownBlock = some w'.heap.size) :
    Pc w0 w'' g1 g2 mo1 mo2' va vo' B a c l (i + 1) := by
  have e := take_more l i
  have hsz := hP.tn.size
  have hov : ∀ q, vo.ownBlock = some q → B ≤ q ∧ q < wr.heap.size := fun q hq => own_ge h.one hq
  have hnew : ∀ x, x < wr.heap.size → x ∉ own g2 mo2 → x ∉ own g2 mo2' := fun x hx hn hm => by
    rcases hP.new x hm with k | k
    · exact hn k
    · omega
  have hB := h.sz
  have hB0 := h.sz0
  refine ⟨(h.m1.turn hP.tn (fun x hx => (h.low1 x hx).2)).turn hT (fun x hx hm => ?_), own_keepS (own_keepS h.all hP.tn (fun q hq => (h.lowa q hq).2)) hT (fun q hq hm => ?_), ?_, ?_, (h.byr.keepS hP.tn (fun x h1 h2 => (h.blk x h1 h2).2)).keepS hT (fun x h1 h2 hm => ?_), fun x h1 h2 => ⟨(h.blk x h1 h2).1, hnew _ (by have := (h.blk x h1 h2).1; omega) (h.blk x h1 h2).2⟩, fun x hx => ⟨(h.low1 x hx).1, hnew _ (by have := (h.low1 x hx).1; omega) (h.low1 x hx).2⟩, fun q hq => ⟨(h.lowa q hq).1, hnew _ (by have := (h.lowa q hq).1; omega) (h.lowa q hq).2⟩, fun q hq hm => ?_, ?_, by have := hT.size; omega, h.sz0⟩
  · have := (h.low1 x hx).1
    have := (hov x (Option.mem_toList.1 hm)).1
    omega
  · have := (h.lowa q hq).1
    have := (hov q (Option.mem_toList.1 hm)).1
    omega
  · rw [e]
    exact hP.mine.turn hT (fun x hx hm => hnew x (hov x (Option.mem_toList.1 hm)).2 (h.apo x (Option.mem_toList.1 hm)) hx)
  · rw [e]
    exact hI
  · have := (h.blk x h1 h2).1
    have := (hov x.block (Option.mem_toList.1 hm)).1
    omega
  · rcases hv with k | k
    · rw [k] at hq
      exact hnew q (hov q hq).2 (h.apo q hq) hm
    · rw [k] at hq
      have := (hP.mine.up q hm).2
      have := Option.some.inj hq
      omega
  · refine (hP.old h.m2 (Nat.le_refl _) h.tn).then hT (fun x hx => .inr ?_)
    have := (hov x (Option.mem_toList.1 hx)).1
    omega

end Go.Proofs.Ytmmbckchaklhaaa.Se

namespace Go.Proofs.Ytmmbckchaklhaaa.Se
open Go.RowKit Go.Maps

theorem own_low {w : World} {base base' e m n : Nat} {v : Value} {cs : List Value} (h : w.ownsRow base e m v n cs) (hb : base' ≤ base) : w.ownsRow base' e m v n cs := by
  obtain ⟨k1, k2 | ⟨g', c', cur, e, k3, k4, k5⟩⟩ := h
  · exact ⟨k1, .inl k2⟩
  · exact ⟨k1, .inr ⟨g', c', cur, e, Nat.le_trans hb k3, k4, k5⟩⟩

theorem Mine.low {B B' : Nat} {w : World} {g : Nat} {mo : Option Nat} {s : Ss} (h : Mine B w g mo s) (hB : B' ≤ B) : Mine B' w g mo s := ⟨h.at_, fun x hx => ⟨Nat.le_trans hB (h.up x hx).1, (h.up x hx).2⟩, h.h8⟩

/-- Where the two begin. -/
theorem Pc.start {w0 w2 w3 w4 w5 : World} {g1 g2 : Nat} {mo1 : Option Nat} {va : Value} {a : Option Addr} {c : Nat} {l : List Nat} (h02 : Turn [] w0 w2) (hB : Byr w2 a c l) (hblk : ∀ x, l ≠ [] → a = some x → x.block < w2.heap.size)
    (hg1 : w2.heap.size ≤ g1) (hg1' : g1 < w3.heap.size) (h23 : Turn [] w2 w3) (hg2 : w3.heap.size ≤ g2) (hS2 : SessAt w4 g2 none Ss.new) (h34 : Turn [] w3 w4) (hM1 : Mine w0.heap.size w4 g1 none Ss.new)
    (hP : MP w0.heap.size w4 g1 none (feed Ss.new l).1 (feed Ss.new l).2 va mo1 w5) : Pc w0 w5 g1 g2 mo1 none va (.slice none 0 0) w5.heap.size a c l 0 := by
  have e0 : feed Ss.new (l.take 0) = ([], Ss.new) := feed_none
  have s0 := h02.size
  have s1 := h23.size
  have s2 := h34.size
  have s3 := hP.tn.size
  have hg2' := hS2.lt
  have o1 : ∀ x ∈ own g1 none, x = g1 := fun x hx => by
    rcases own_iff.1 hx with e | e
    · exact e
    · cases e
  have o2 : ∀ x, x ≠ g2 → x ∉ own g2 none := fun x hx hm => by
    rcases own_iff.1 hm with e | e
    · exact hx e
    · cases e
  have hB4 := (hB.turn h23).turn h34
  refine ⟨hP.mine, own_low hP.its (by omega), ?_, ?_, hB4.keepS hP.tn (fun x h1 h2 h3 => ?_), fun x h1 h2 => ?_, fun x hx => ⟨(hP.mine.up x hx).2, o2 x (fun e => ?_)⟩, fun q hq => ?_, fun q hq => (by cases hq), hP.old hM1 (Nat.le_refl _) ((h02.trans h23).trans h34), Nat.le_refl _, by omega⟩
  · rw [e0]
    refine (Mine.turn (B := w0.heap.size) ⟨hS2, fun x hx => ?_, fun x hx => by cases hx⟩ hP.tn (fun x hx hm => ?_))
    · rcases own_iff.1 hx with rfl | e
      · omega
      · cases e
    · have := o1 x hm
      rcases own_iff.1 hx with e | e
      · omega
      · cases e
  · rw [e0]
    exact Items.nil _ _
  · have := o1 _ h3
    have := hblk x h1 h2
    omega
  · have := hblk x h1 h2
    exact ⟨by omega, o2 _ (by omega)⟩
  · rcases hP.new x hx with k | k
    · have := o1 x k
      omega
    · omega
  · have := own_ge hP.its hq
    exact ⟨this.2, o2 q (by omega)⟩

theorem stI : Try.prog.stoodInHeld 46 = false := by kernel_rfl
theorem foI : Try.prog.underlying 46 = some (.struct (Try.prog.fieldsOf 46)) := by kernel_rfl
theorem eqgI : Try.prog.eqGuardType Try.prog.depth 46 = false := by kernel_rfl
set_option maxRecDepth 100000 in
theorem eq_it (x : It) (w : World) : (Op.equalIn 10000 46 (.agg (itC x).toArray) (.agg (itC x).toArray)).run Try.prog w = .ok true w := by
  obtain ⟨r, e⟩ := x
  show (Op.equalIn 10000 46 (.agg #[.int .i64 r.k, .string r.key, .int .i64 r.id, .int .i64 r.n, .int .i64 r.ttl, .int .i64 r.o, .string r.nm, .string r.sec, .string r.pn, .int .i64 r.p1, .int .i64 r.p2, .int .i64 r.p3, .int .i64 r.p4, .int .i64 r.p5, .int .i64 r.p6, .int .i64 r.p7, .int .i64 r.p8, .int .i64 r.p9, .int .i64 (e : Nat)]) (.agg #[.int .i64 r.k, .string r.key, .int .i64 r.id, .int .i64 r.n, .int .i64 r.ttl, .int .i64 r.o, .string r.nm, .string r.sec, .string r.pn, .int .i64 r.p1, .int .i64 r.p2, .int .i64 r.p3, .int .i64 r.p4, .int .i64 r.p5, .int .i64 r.p6, .int .i64 r.p7, .int .i64 r.p8, .int .i64 r.p9, .int .i64 (e : Nat)])).run Try.prog w = .ok true w
  rw [run_equalIn_struct w 9999 46 _ _ foI stI]
  go_simp
theorem neq_it (x : It) (w : World) : (binOp .neq 46 (.agg (itC x).toArray) (.agg (itC x).toArray)).run Try.prog w = .ok (.bool false) w := by
  rw [run_neq_struct, eq_it x w]
  rfl
theorem yieldsIf_neq {ops : Array Oper} {S : World → Prop} {op : Oper} {a : Act} (hw : Region.wanted op (yielded ops a.tmps) = true) (t t2 : TypeId) (x y : Operand) (ho : op.op = .binOp .neq t x y t2)
    (A B : Array Value) (hx : a.eval x = .agg A) (hy : a.eval y = .agg B) (r : Bool) (hg : Try.prog.eqGuardType Try.prog.depth t = false) (hE : ∀ W, (binOp .neq t (.agg A) (.agg B)).run Try.prog W = .ok (.bool r) W) : YieldsIf Try.prog ops S op (.bool r) a :=
  .inl ⟨hw, fun W _ => by
    unfold execOp
    simp only [ho, hx, hy, Sem.run_bind, Sem.run_pure, Result.andThen_ok, run_eqGuard_agg (hm := hg), hE]⟩

set_option maxRecDepth 100000 in
set_option maxHeartbeats 16000000 in
theorem pieces_law (ra : Option Addr) (rc : Nat) (rs : List Rq) (wa : Option Addr) (wc : Nat) (raw : List (List Nat)) (w : World) (hR : RqsAt w ra rs) (hF : ∀ r ∈ rs, r.Fits) (hrl : rs.length ≤ 9223372036854775807) (hW : RowsAt w wa raw) (hwl : raw.length ≤ 9223372036854775807) :
    Calls Try.prog 4 #[.slice ra rs.length rc, .slice wa raw.length wc] w fun e w' => e = .returned (.bool true) ∧ Turn [] w w' := by
  have HBy := hide (fun (u : World) (hT : Turn [] w u) => bytes_any ra rc rs wa wc raw u (hR.turn0 hT) hF hrl (hW.turn0 hT) hwl)
  clear hR hF hW
  generalize rs.length = N at *
  generalize raw.length = M at *
  go_enter Try.func4, Try.ntmps4
  go_wp2_with fail
  refine (known_any w).mono ?_
  rintro e w1 ⟨rfl, hT1⟩
  have HT1 := hide hT1
  clear hT1
  go_upto_if 19 with (first | (go_at_call 8; refine (HBy.out _ HT1.out).mono ?_; rintro e w2 ⟨v, b, rfl, hB⟩; obtain ⟨a, c, hv, hBy⟩ := Byr.of hB.own hB.by8; have HB := hide hB; have HBr := hide hBy; clear hB hBy; subst hv) | fail)
  go_cut [5] from 20 to 22 (fun u wx => ∃ (a : Option Addr) (c : Nat) (l : List Nat), u = .slice a l.length c ∧ l.length ≤ 3000 ∧ Hid (Byr wx a c l) ∧ wx = w2)
  case first =>
    by_cases h3 : 3000 < b.length
    · have hd : decide (3000 < (b.length : Int)) = true := decide_eq_true (by omega)
      have hs : ∀ u : World, (Instr.slice 26 (.slice a b.length c) none (some (.int .i64 3000)) none).run Try.prog u = .ok (.slice a 3000 c) u := fun u => slice_lo a b.length c 3000 u (by have := HBr.out.lc; omega)
      have hl3 : (b.take 3000).length = 3000 := by rw [List.length_take]; omega
      have HB3 := hide (HBr.out.take 3000)
      clear HB HBr
      go_wp2_with fail
      go_meet
      case rel => exact ⟨a, c, b.take 3000, by rw [hl3], by omega, HB3, rfl⟩
    · have hd : decide (3000 < (b.length : Int)) = false := decide_eq_false (by omega)
      go_wp2_with fail
      go_meet
      case rel => exact ⟨a, c, b, rfl, by omega, HBr, rfl⟩
  case rest =>
  have HT2 := hide (HT1.out.trans HB.out.tn)
  clear HB HBr HBy HT1
  obtain ⟨a, c, l, rfl, hl3, HBr, rfl⟩ := hcut
  have hblk : ∀ x, l ≠ [] → a = some x → x.block < wc.heap.size := fun x h1 h2 => HBr.out.bt.lt x h1 h2
  have Hblk := hide hblk
  have hlc := HBr.out.lc
  have hcm := HBr.out.cm
  unfold maxLen at hcm
  obtain ⟨n, hn⟩ : ∃ n, n = l.length := ⟨_, rfl⟩
  have Hn := hide hn
  rw [← hn] at hl3 hlc ⊢
  clear hblk hn
  go_upto_region 7 with (first | (go_at_call 9; (with_reducible refine (new_any w3).mono ?_); rintro e w4 ⟨g2, rfl, hg2, hS2, hT4⟩; have Hg2 := hide hg2; have HS2 := hide hS2; have HT4 := hide hT4; clear hg2 hS2 hT4) | (go_at_call 9; (with_reducible refine (new_any wc).mono ?_); rintro e w3 ⟨g1, rfl, hg1, hS1, hT3⟩; have Hg1 := hide hg1; have HS1 := hide hS1; have HT3 := hide hT3; clear hg1 hS1 hT3) | fail)
  have HM1 := hide (((Mine.new Hg1.out HS1.out).low HT2.out.size).turn0 HT4.out)
  have HFe := hide (feed_mine (B := w.heap.size) (Nat.le_trans HT2.out.size (Nat.le_trans HT3.out.size HT4.out.size)) HM1.out a c l ((HBr.out.turn HT3.out).turn HT4.out) (fun x hx he hm => by
    have h1 := Hblk.out x hx he
    have h2 := Hg1.out
    rcases own_iff.1 hm with e | e
    · omega
    · cases e) (by have := Hn.out; omega))
  have hg1l : g1 < w4.heap.size := HM1.out.at_.lt
  have hg2l : g2 < w4.heap.size := HS2.out.lt
  rw [← Hn.out] at HFe
  go_upto_region 9 with (first | (go_at_call 11; refine HFe.out.mono ?_; rintro e w5 ⟨va, mo1, rfl, hP⟩; have HP := hide hP; clear hP) | fail)
  have HPc0 := hide (Pc.start HT2.out HBr.out Hblk.out Hg1.out HS1.out.lt HT3.out Hg2.out HS2.out HT4.out HM1.out HP.out)
  have hsz5 : w4.heap.size ≤ w5.heap.size := HP.out.tn.size
  have hg1l5 : g1 < w5.heap.size := by omega
  have hg2l5 : g2 < w5.heap.size := by omega
  clear HFe HM1 HS1 HS2 Hg1 Hg2 HT2 HT3 HT4 HBr Hblk
  have hva := HPc0.out.all.form
  obtain ⟨aa, ca, hva⟩ := hva
  obtain ⟨K, hK⟩ : ∃ K, K = (feed Ss.new l).1.length := ⟨_, rfl⟩
  have HK := hide hK
  rw [← hK] at hva
  have hKn : K ≤ 3000 := by
    have h1 := feed_len Ss.new l
    have h2 := Hn.out
    rw [← hK] at h1
    have e : Ss.new.ws.length = 0 := rfl
    omega
  have Hva := hide (fun (_ : Unit) => hva)
  clear hK HP hva
  rw [Hva.out ()]
  go_wp2_with fail
  go_loopw [9, 10] (fun u9 u10 wr => ∃ (i : Nat) (mo2 : Option Nat), i ≤ n ∧ u10 = .int .i64 (i : Nat) ∧ Hid (Pc w wr g1 g2 mo1 mo2 va u9 w5.heap.size a c l i)) (fun _ u10 _ => n - (intOf u10).toNat)
  case atStart => exact ⟨0, none, Nat.zero_le _, rfl, HPc0⟩
  case round =>
    obtain ⟨i, mo2, hi, rfl, HPc⟩ := hrel
    clear HPc0
    by_cases hlt : i < n
    · have hsl := fun u => slice_one a n c i u (by omega)
      have hb1 : ((l.drop i).take 1).length = 1 := by rw [List.length_take, List.length_drop]; have := Hn.out; omega
      have hF := feed_mine (B := w.heap.size) (Nat.le_trans HPc.out.sz0 HPc.out.sz) HPc.out.m2 (hiA a c i) (c - i) ((l.drop i).take 1) ((HPc.out.byr.drop i).take 1) (fun x hx he => by
        obtain ⟨y, hy, hyx⟩ := hiA_block he
        have := (HPc.out.blk y (fun e => by rw [e] at hx; simp at hx) hy).2
        rwa [hyx] at this) (by omega)
      rw [hb1] at hF
      have HF := hide hF
      have hlen : (feed Ss.new (l.take i)).1.length + (feed (feed Ss.new (l.take i)).2 ((l.drop i).take 1)).1.length ≤ 1000001 := by
        have h1 := feed_len Ss.new (l.take i)
        have h2 := feed_len (feed Ss.new (l.take i)).2 ((l.drop i).take 1)
        have h3 := HPc.out.m2.at_.1.le
        have h4 : (l.take i).length ≤ i := List.length_take_le _ _
        have e : Ss.new.ws.length = 0 := rfl
        omega
      have hbase : ∀ w6 : World, wr.heap.size ≤ w6.heap.size → w5.heap.size ≤ w6.heap.size := fun w6 h => Nat.le_trans HPc.out.sz h
      have HSt : Hid (∀ v mo6 w6 v' w7, MP w.heap.size wr g2 mo2 (feed (feed Ss.new (l.take i)).2 ((l.drop i).take 1)).1 (feed (feed Ss.new (l.take i)).2 ((l.drop i).take 1)).2 v mo6 w6 → Items w7 w5.heap.size v' ((feed Ss.new (l.take i)).1 ++ (feed (feed Ss.new (l.take i)).2 ((l.drop i).take 1)).1) → Turn u9.ownBlock.toList w6 w7 → (v'.ownBlock = u9.ownBlock ∨ v'.ownBlock = some w6.heap.size) → Pc w w7 g1 g2 mo1 mo6 va v' w5.heap.size a c l (i + 1)) := fun v mo6 w6 v' w7 h1 h2 h3 h4 => HPc.out.step h1 h2 h3 h4
      have HIt : Hid (∀ w6, Turn (own g2 mo2) wr w6 → Items w6 w5.heap.size u9 (feed Ss.new (l.take i)).1) := fun w6 h => own_keepS HPc.out.one h HPc.out.apo
      clear HPc hb1 hF
      generalize hiA a c i = A at *
      generalize (feed (feed Ss.new (l.take i)).2 ((l.drop i).take 1)).1 = L2 at *
      generalize (feed Ss.new (l.take i)).1 = L1 at *
      go_wp2_with (first | (go_at_call 11; refine HF.out.mono ?_; rintro e w6 ⟨v6, mo6, rfl, hP⟩; have HI6 := hide (HIt.out w6 hP.tn); have hb6 := hbase w6 hP.tn.size; have HP := hide hP; clear hP) | (at_builtin; (with_reducible refine append_items rfl _ _ rfl w5.heap.size u9 L1 wr.heap.size v6 L2 rfl HI6.out rfl HP.out.its hlen hb6 ?_); intro v7 w7 k1 k2 k3; have HPc := hide (HSt.out v6 mo6 w6 v7 w7 HP.out k1 k2 k3); clear k1 k2 k3) | fail)
      refine ⟨⟨i + 1, mo6, by omega, ?_, HPc⟩, ?_⟩
      · exact congrArg (Value.int .i64) (by omega)
      · first | omega | (simp [intOf]; omega) | (simp; omega)
    · have hin : i = n := by omega
      have hli : l.take i = l := List.take_of_length_le (by have := Hn.out; omega)
      have hPc := HPc.out
      have hone := hPc.one
      have hm2 := hPc.m2
      rw [hli] at hone hm2
      have Hone := hide hone
      have HAll := hide hPc.all
      obtain ⟨ao, co, ho⟩ := hone.form
      rw [← HK.out] at ho
      have HBr1 : Hid (Calls Try.prog 13 #[.pointer (some ⟨g1, 0, none⟩)] wr fun e w' => e = .returned (.bool (feed Ss.new l).2.br) ∧ w' = wr) := broken_any hPc.m1.at_
      have HBr2 : Hid (Calls Try.prog 13 #[.pointer (some ⟨g2, 0, none⟩)] wr fun e w' => e = .returned (.bool (feed Ss.new l).2.br) ∧ w' = wr) := broken_any hm2.at_
      have HWa1 : Hid (Calls Try.prog 14 #[.pointer (some ⟨g1, 0, none⟩)] wr fun e w' => e = .returned (.int .i64 ((feed Ss.new l).2.ws.length : Nat)) ∧ w' = wr) := waits_any hPc.m1.at_
      have HWa2 : Hid (Calls Try.prog 14 #[.pointer (some ⟨g2, 0, none⟩)] wr fun e w' => e = .returned (.int .i64 ((feed Ss.new l).2.ws.length : Nat)) ∧ w' = wr) := waits_any hm2.at_
      have HT := hide hPc.tn
      have hg1r : g1 < wr.heap.size := hPc.m1.at_.lt
      have hg2r : g2 < wr.heap.size := hm2.at_.lt
      subst ho
      clear hPc HPc hone hm2 hli
      generalize (feed Ss.new l).2.br = zb at *
      generalize (feed Ss.new l).2.ws.length = zw at *
      generalize (feed Ss.new l).1 = its at *
      go_upto_region 15 with (first | (go_at_call 13; (with_reducible refine HBr2.out.mono ?_); rintro e w8 ⟨rfl, hw8⟩; subst w8) | (go_at_call 13; (with_reducible refine HBr1.out.mono ?_); rintro e w8 ⟨rfl, hw8⟩; subst w8) | (go_at_call 14; (with_reducible refine HWa2.out.mono ?_); rintro e w8 ⟨rfl, hw8⟩; subst w8) | (go_at_call 14; (with_reducible refine HWa1.out.mono ?_); rintro e w8 ⟨rfl, hw8⟩; subst w8) | fail)
      clear HBr1 HBr2 HWa1 HWa2
      generalize wr = wx at *
      have HT0 : Hid (Turn [] wx wx) := Turn.refl _ _
      go_wp2_with fail
      go_loopw [11] (fun u11 wz => ∃ (k : Nat), k ≤ K ∧ u11 = .int .i64 (k : Nat) ∧ Hid (Turn [] wx wz)) (fun u11 _ => K - (intOf u11).toNat)
      case atStart => exact ⟨0, Nat.zero_le _, rfl, HT0⟩
      case round =>
        obtain ⟨k, hk, rfl, HTz⟩ := hrel
        clear HT0
        by_cases hkl : k < K
        · have hne : its ≠ [] := fun e => by have := HK.out; rw [e] at this; simp at this; omega
          obtain ⟨qa, c1, e1, hr1, hq1⟩ := HAll.out.get hne
          obtain ⟨qo, c2, e2, hr2, hq2⟩ := Items.get Hone.out hne
          rw [Hva.out ()] at e1
          injection e1 with e1 _ _
          injection e2 with e2 _ _
          subst e1 e2
          have hr1' := rangeAt_keep (flatI_at hr1 (k := k) (by have := HK.out; omega)) (HTz.out.block qa hq1 (by simp))
          have hr2' := rangeAt_keep (flatI_at hr2 (k := k) (by have := HK.out; omega)) (HTz.out.block qo hq2 (by simp))
          rw [Nat.zero_add] at hr1' hr2'
          have HNe := hide (neq_it (its[k]'(by have := HK.out; omega)))
          have iI : Hid ((Try.prog.info? 46).map (·.size) = some (itC (its[k]'(by have := HK.out; omega))).length) := sz_item.1
          have HTd := hide HTz.out.drew
          generalize itC (its[k]'(by have := HK.out; omega)) = cs at *
          have hS : wr.rangeAt qa (k * 19) cs ∧ wr.rangeAt qo (k * 19) cs := ⟨hr1', hr2'⟩
          have HS := hide hS
          have hq1z : qa < wr.heap.size := by have := HTz.out.size; omega
          have hq2z : qo < wr.heap.size := by have := HTz.out.size; omega
          clear hr1 hr2 hr1' hr2' hS hne HAll Hone
          go_upto_region 18 with fail
          refine wp_region_noPanic ?_
          refine wp_region_held_drew (S := fun W => W.rangeAt qa (k * 19) cs ∧ W.rangeAt qo (k * 19) cs) (by kernel_rfl) HS.out (fun hHeld => ?_)
          refine' wpAnyH_take (i := 0) (oi := { dst := some 67, op := Go.Op.move (Go.Operand.tmp 8), type := 34, pos := "law.go:101", after := #[], guard := none }) (v := _) rfl (by kernel_rfl) (by kernel_rfl) (by kernel_rfl) (fun _ _ _ h => h) (Or.inl ⟨by rfl, ?_⟩) (by assumption) ?_
          rotate_left
          · intro w hSw; (try dsimp only at hSw); go_simp <;> with_reducible rfl
          simp only [Act.put, List.setIfInBounds_toArray, List.set_cons_zero, List.set_cons_succ]
          refine' wpAnyH_take (i := 1) (oi := { dst := some 68, op := Go.Op.move (Go.Operand.tmp 11), type := 3, pos := "law.go:101", after := #[], guard := none }) (v := _) rfl (by kernel_rfl) (by kernel_rfl) (by kernel_rfl) (fun _ _ _ h => h) (Or.inl ⟨by rfl, ?_⟩) (by assumption) ?_
          rotate_left
          · intro w hSw; (try dsimp only at hSw); go_simp <;> with_reducible rfl
          simp only [Act.put, List.setIfInBounds_toArray, List.set_cons_zero, List.set_cons_succ]
          refine' wpAnyH_take (i := 2) (oi := { dst := some 69, op := Go.Op.indexAddr 34 (Go.Operand.tmp 67) (Go.Operand.tmp 68), type := 0, pos := "law.go:101", after := #[{ on := 0, ground := Go.Ground.data }, { on := 1, ground := Go.Ground.data }], guard := none }) (v := .pointer (some ⟨qa, k * 19, none⟩)) rfl (by kernel_rfl) (by kernel_rfl) (by kernel_rfl) (fun _ _ _ h => h) (Or.inl ⟨by rfl, ?_⟩) (by assumption) ?_
          · intro w hSw; go_simp
          simp only [Act.put, List.setIfInBounds_toArray, List.set_cons_zero, List.set_cons_succ]
          refine' wpAnyH_take (i := 3) (oi := { dst := some 70, op := Go.Op.load 46 (Go.Operand.tmp 69), type := 46, pos := "law.go:101", after := #[{ on := 2, ground := Go.Ground.data }], guard := none }) (v := .agg cs.toArray) rfl (by kernel_rfl) (by kernel_rfl) (by kernel_rfl) (fun _ _ _ h => h) (yieldsIf_load_mid (by rfl) _ _ rfl _ _ rfl _ _ (fun W hW => hW.1) foI rfl iI.out) (by assumption) ?_
          simp only [Act.put, List.setIfInBounds_toArray, List.set_cons_zero, List.set_cons_succ]
          refine' wpAnyH_take (i := 4) (oi := { dst := some 71, op := Go.Op.move (Go.Operand.tmp 9), type := 34, pos := "law.go:101", after := #[], guard := none }) (v := _) rfl (by kernel_rfl) (by kernel_rfl) (by kernel_rfl) (fun _ _ _ h => h) (Or.inl ⟨by rfl, ?_⟩) (by assumption) ?_
          rotate_left
          · intro w hSw; (try dsimp only at hSw); go_simp <;> with_reducible rfl
          simp only [Act.put, List.setIfInBounds_toArray, List.set_cons_zero, List.set_cons_succ]
          refine' wpAnyH_take (i := 5) (oi := { dst := some 72, op := Go.Op.move (Go.Operand.tmp 11), type := 3, pos := "law.go:101", after := #[], guard := none }) (v := _) rfl (by kernel_rfl) (by kernel_rfl) (by kernel_rfl) (fun _ _ _ h => h) (Or.inl ⟨by rfl, ?_⟩) (by assumption) ?_
          rotate_left
          · intro w hSw; (try dsimp only at hSw); go_simp <;> with_reducible rfl
          simp only [Act.put, List.setIfInBounds_toArray, List.set_cons_zero, List.set_cons_succ]
          refine' wpAnyH_take (i := 6) (oi := { dst := some 73, op := Go.Op.indexAddr 34 (Go.Operand.tmp 71) (Go.Operand.tmp 72), type := 0, pos := "law.go:101", after := #[{ on := 4, ground := Go.Ground.data }, { on := 5, ground := Go.Ground.data }], guard := none }) (v := .pointer (some ⟨qo, k * 19, none⟩)) rfl (by kernel_rfl) (by kernel_rfl) (by kernel_rfl) (fun _ _ _ h => h) (Or.inl ⟨by rfl, ?_⟩) (by assumption) ?_
          · intro w hSw; go_simp
          simp only [Act.put, List.setIfInBounds_toArray, List.set_cons_zero, List.set_cons_succ]
          refine' wpAnyH_take (i := 7) (oi := { dst := some 74, op := Go.Op.load 46 (Go.Operand.tmp 73), type := 46, pos := "law.go:101", after := #[{ on := 6, ground := Go.Ground.data }], guard := none }) (v := .agg cs.toArray) rfl (by kernel_rfl) (by kernel_rfl) (by kernel_rfl) (fun _ _ _ h => h) (yieldsIf_load_mid (by rfl) _ _ rfl _ _ rfl _ _ (fun W hW => hW.2) foI rfl iI.out) (by assumption) ?_
          simp only [Act.put, List.setIfInBounds_toArray, List.set_cons_zero, List.set_cons_succ]
          refine' wpAnyH_take (i := 8) (oi := { dst := some 75, op := Go.Op.binOp Go.BinOp.neq 46 (Go.Operand.tmp 70) (Go.Operand.tmp 74) 46, type := 4, pos := "law.go:101", after := #[{ on := 3, ground := Go.Ground.data }, { on := 7, ground := Go.Ground.data }], guard := none }) (v := .bool false) rfl (by kernel_rfl) (by kernel_rfl) (by kernel_rfl) (fun _ _ _ h => h) (yieldsIf_neq (by rfl) _ _ _ _ rfl _ _ rfl rfl false eqgI HNe.out) (by assumption) ?_
          simp only [Act.put, List.setIfInBounds_toArray, List.set_cons_zero, List.set_cons_succ]
          refine wpAnyH_done (by kernel_rfl) ?_ _
          refine NoPanic.normal ?_
          go_wp2_with fail
          refine ⟨⟨k + 1, by omega, ?_, HTd⟩, ?_⟩
          · exact congrArg (Value.int .i64) (by omega)
          · first | omega | (simp [intOf]; omega) | (simp; omega)
        · clear HAll Hone
          go_wp2_with fail
          go_ret
          exact ⟨rfl, HT.out.trans HTz.out⟩

end Go.Proofs.Ytmmbckchaklhaaa.Se

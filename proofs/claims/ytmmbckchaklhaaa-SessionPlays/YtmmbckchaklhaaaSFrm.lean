/-
  What the laws of package session share: items read in memory, the example.
  Frames by themselves, and how a session takes them; a piece of one byte.
-/
import Derived.Test.YtmmbckchaklhaaaSFeed
import Derived.Test.YtmmbckchaklhaaaFREnc
import Derived.Test.YtmmbckchaklhaaaFwFrames
namespace Go.Proofs.Ytmmbckchaklhaaa.Se
open Go.RowKit Go.Maps

/-- A show's bytes, parsed. -/
theorem parsed_show (key : ByteArray) : parsed ([5, key.size] ++ natBytes key) = ⟨{ Rq.zero with k := 5, key := key }, 0⟩ := by
  have h1 : reqS prC ⟨[5, key.size] ++ natBytes key, 0⟩ Rq.zero = (⟨[], 0⟩, { Rq.zero with k := 5, key := key }) := by
    have e1 : prC.kind ⟨[5, key.size] ++ natBytes key, 0⟩ Rq.zero.k = (⟨[key.size] ++ natBytes key, 0⟩, 5) := by
      show ((takeS ⟨[5, key.size] ++ natBytes key, 0⟩ 1).1, (((takeS ⟨[5, key.size] ++ natBytes key, 0⟩ 1).2.headD 0 : Nat) : Int)) = _
      have : takeS ⟨[5, key.size] ++ natBytes key, 0⟩ 1 = (⟨[key.size] ++ natBytes key, 0⟩, [5]) := by
        unfold takeS
        rw [if_neg (by simp), if_neg (by simp)]
        rfl
      rw [this]
      rfl
    have e2 : prC.text ⟨[key.size] ++ natBytes key, 0⟩ Rq.zero.key = (⟨[], 0⟩, key) := by
      have := textS_back key [] ByteArray.empty
      rw [List.append_nil] at this
      exact this
    unfold reqS
    rw [e1]
    show reqK prC ⟨[key.size] ++ natBytes key, 0⟩ Rq.zero 5 = _
    unfold reqK
    rw [e2]
    simp
  unfold parsed
  rw [h1]
  have h2 : endS ⟨[], 0⟩ = 0 := by decide
  rw [h2, if_pos rfl]

/-- How items read. -/
theorem Items.form {w : World} {base : Nat} {v : Value} {l : List It} (h : Items w base v l) : ∃ a c, v = .slice a l.length c := own_form h
theorem Items.get {w : World} {base : Nat} {v : Value} {l : List It} (h : Items w base v l) (hl : l ≠ []) : ∃ q cap, v = .slice (some ⟨q, 0, none⟩) l.length cap ∧ w.rangeAt q 0 (flatI l) ∧ q < w.heap.size := by
  obtain ⟨hln, ⟨rfl, hn⟩ | ⟨g, cap, cur, rfl, hb, hg, hnc, hm, hsz, hcur⟩⟩ := h
  · exact absurd (List.eq_nil_of_length_eq_zero hn) hl
  · refine ⟨g, cap, rfl, fun j v hj => ?_, (Array.getElem?_eq_some_iff.1 hg).1⟩
    have hjl : j < l.length * 19 := by
      rw [← hln]
      exact (List.getElem?_eq_some_iff.1 hj).1
    unfold World.cell?
    rw [hg]
    show cur[0 + j]? = _
    rw [Nat.zero_add, ← Array.getElem?_toList, ← hj, ← hcur, List.getElem?_take, if_pos hjl]
theorem flatI_at {w : World} {b off : Nat} {l : List It} (h : w.rangeAt b off (flatI l)) {k : Nat} (hk : k < l.length) : w.rangeAt b (off + k * 19) (itC l[k]) := by
  have e : flatI l = flatI (l.take k) ++ (itC l[k] ++ flatI (l.drop (k + 1))) := by
    rw [← flatI, ← flatI_append]
    congr 1
    rw [← List.drop_eq_getElem_cons hk, List.take_append_drop]
  intro j v hj
  have hjl : j < 19 := by rw [← itC_len l[k]]; exact (List.getElem?_eq_some_iff.1 hj).1
  have hfl : (flatI (l.take k)).length = k * 19 := by rw [flatI_length, List.length_take, Nat.min_eq_left (by omega)]
  rw [Nat.add_assoc]
  refine h (k * 19 + j) v ?_
  rw [e, List.getElem?_append_right (by omega), hfl, show k * 19 + j - k * 19 = j by omega, List.getElem?_append_left (by rw [itC_len]; exact hjl)]
  exact hj

/-- Bytes of the call's own, written out. -/
theorem byr_new (w : World) (l : List Nat) (h : ∀ x ∈ l, x < 256) (hl : l.length ≤ maxLen) : Byr (w.alloc (.cells (l.map byteCell).toArray 5)) (some ⟨w.heap.size, 0, none⟩) l.length l := ⟨bytes_new w l 5, h, Nat.le_refl _, hl, .inr ⟨_, _, rfl⟩⟩
/-- A session of the call's own: its blocks are at B or behind. -/
structure Mine (B : Nat) (w : World) (g : Nat) (mo : Option Nat) (s : Ss) : Prop where
  at_ : SessAt w g mo s
  up : ∀ x ∈ own g mo, B ≤ x ∧ x < w.heap.size
  h8 : ∀ x ∈ s.ws, x < 256
theorem Mine.turn0 {B : Nat} {w w' : World} {g : Nat} {mo : Option Nat} {s : Ss} (h : Mine B w g mo s) (hT : Turn [] w w') : Mine B w' g mo s := ⟨h.at_.turn0 hT, fun x hx => by have := h.up x hx; have := hT.size; omega, h.h8⟩
theorem Mine.turn {B : Nat} {S : List Nat} {w w' : World} {g : Nat} {mo : Option Nat} {s : Ss} (h : Mine B w g mo s) (hT : Turn S w w') (hS : ∀ x ∈ own g mo, x ∉ S) : Mine B w' g mo s := ⟨h.at_.turn hT (hS g (own_g _ _)) (fun m hm => hS m (own_iff.2 (.inr hm))), fun x hx => by have := h.up x hx; have := hT.size; omega, h.h8⟩
theorem Mine.new {w w' : World} {g : Nat} (hg : w.heap.size ≤ g) (h : SessAt w' g none Ss.new) : Mine w.heap.size w' g none Ss.new := by
  refine ⟨h, fun x hx => ?_, fun x hx => by cases hx⟩
  rcases own_iff.1 hx with rfl | e
  · exact ⟨hg, h.lt⟩
  · cases e
/-- What Feed makes of it. -/
structure MP (B : Nat) (w : World) (g : Nat) (mo : Option Nat) (l : List It) (s : Ss) (v : Value) (mo' : Option Nat) (w' : World) : Prop where
  its : Items w' w.heap.size v l
  mine : Mine B w' g mo' s
  tn : Turn (own g mo) w w'
  new : ∀ x ∈ own g mo', x ∈ own g mo ∨ w.heap.size ≤ x
  apart : ∀ q, v.ownBlock = some q → q ∉ own g mo'
theorem MP.old {B : Nat} {w : World} {g : Nat} {mo : Option Nat} {l : List It} {s s0 : Ss} {v : Value} {mo' : Option Nat} {w' u : World} (h : MP B w g mo l s v mo' w') (hM : Mine B w g mo s0) (hu : u.heap.size ≤ B) (hT : Turn [] u w) : Turn [] u w' := hT.then h.tn (fun x hx => .inr (by have := hM.up x hx; omega))
theorem mp_of {B : Nat} {w : World} {g : Nat} {mo : Option Nat} {l : List It} {s s0 : Ss} {v : Value} {mo' : Option Nat} {w' : World} (hB : B ≤ w.heap.size) (hM : Mine B w g mo s0) (h : FeedP w g mo l s v mo' w') (h8 : ∀ x ∈ s.ws, x < 256) : ∃ mo', MP B w g mo l s v mo' w' := by
  have hsz := h.tn.size
  have hg := hM.up g (own_g _ _)
  by_cases hb : s.br = true
  · refine ⟨none, h.its, ⟨⟨h.sess.1, fun e => (by rw [hb] at e; cases e), h.sess.2.2⟩, fun x hx => ?_, h8⟩, h.tn, fun x hx => ?_, fun q hq hm => ?_⟩
    · rcases own_iff.1 hx with rfl | e
      · omega
      · cases e
    · rcases own_iff.1 hx with rfl | e
      · exact .inl (own_g _ _)
      · cases e
    · rcases own_iff.1 hm with rfl | e
      · exact h.apart _ hq (own_g _ _)
      · cases e
  · have hb' : s.br = false := by simpa using hb
    have hnew : ∀ x ∈ own g mo', x ∈ own g mo ∨ w.heap.size ≤ x := fun x hx => by
      rcases own_iff.1 hx with rfl | e
      · exact .inl (own_g _ _)
      · rcases h.went with rfl | ⟨_, m, rfl, hm⟩
        · exact .inl (own_iff.2 (.inr e))
        · rw [← Option.some.inj e]
          exact .inr hm
    refine ⟨mo', h.its, ⟨h.sess, fun x hx => ⟨?_, ?_⟩, h8⟩, h.tn, hnew, h.apart⟩
    · rcases hnew x hx with k | k
      · exact (hM.up x k).1
      · omega
    · rcases own_iff.1 hx with rfl | rfl
      · exact h.sess.lt
      · exact (h.sess.2.1 hb').ltm
theorem feed_mine {B : Nat} {w : World} {g : Nat} {mo : Option Nat} {s : Ss} (hB : B ≤ w.heap.size) (hM : Mine B w g mo s) (a : Option Addr) (c : Nat) (b : List Nat) (hBy : Byr w a c b) (hblk : ∀ x, b ≠ [] → a = some x → x.block ∉ own g mo) (hlen : b.length ≤ 900000) :
    Calls Try.prog 11 #[.pointer (some ⟨g, 0, none⟩), .slice a b.length c] w fun e w' => ∃ v mo', e = .returned v ∧ MP B w g mo (feed s b).1 (feed s b).2 v mo' w' := by
  refine (feed_any hM.at_ a c b hBy hM.h8 hblk (by have := hM.at_.1.le; omega)).mono ?_
  rintro e w' ⟨v, mo', he, hP⟩
  obtain ⟨mo'', h⟩ := mp_of hB hM hP (feed_8 hM.h8 hBy.by8)
  exact ⟨v, mo'', he, h⟩
/-- Feed of bytes in a block of their own. -/
theorem feed_new {B : Nat} {w : World} {g : Nat} {mo : Option Nat} {s : Ss} (hB : B ≤ w.heap.size) (hM : Mine B w g mo s) (b : List Nat) (hb8 : ∀ x ∈ b, x < 256) (hlen : b.length ≤ 1000) :
    Calls Try.prog 11 #[.pointer (some ⟨g, 0, none⟩), .slice (some ⟨w.heap.size, 0, none⟩) b.length b.length] (w.alloc (.cells (b.map byteCell).toArray 5)) fun e w' => ∃ v mo', e = .returned v ∧ MP B (w.alloc (.cells (b.map byteCell).toArray 5)) g mo (feed s b).1 (feed s b).2 v mo' w' := by
  have hT := (Turn.refl [] w).alloc (.cells (b.map byteCell).toArray 5)
  refine feed_mine (Nat.le_trans hB hT.size) (hM.turn0 hT) _ _ b (byr_new w b hb8 (by unfold maxLen; omega)) (fun x _ e hm => ?_) (by omega)
  have := (hM.up _ hm).2
  rw [← Option.some.inj e] at this
  exact absurd this (Nat.lt_irrefl _)

theorem feed_ex1 : feed Ss.new [0, 3, 5] = ([], ⟨[0, 3, 5], false⟩) := feed_wait (s := Ss.new) rfl (by decide)
theorem feed_ex2 : feed ⟨[0, 3, 5], false⟩ [1, 107] = ([⟨{ Rq.zero with k := 5, key := ⟨#[107]⟩ }, 0⟩], Ss.new) := by
  have h := feed_take (s := ⟨[0, 3, 5], false⟩) (b := [1, 107]) rfl (by decide)
  have e1 : span (([0, 3, 5] : List Nat) ++ [1, 107]) = 5 := by decide
  have e2 : itemOf ([0, 3, 5, 1, 107] : List Nat) = ⟨{ Rq.zero with k := 5, key := ⟨#[107]⟩ }, 0⟩ := by
    unfold itemOf
    rw [if_neg (by decide)]
    exact parsed_show ⟨#[107]⟩
  have e3 : feed ⟨[], decide ((5 : Nat) = 2)⟩ [] = ([], Ss.new) := feed_wait (s := ⟨[], false⟩) rfl (by decide)
  rw [h]
  dsimp only
  rw [e1]
  show (itemOf [0, 3, 5, 1, 107] :: (feed ⟨[], decide ((5 : Nat) = 2)⟩ []).1, (feed ⟨[], decide ((5 : Nat) = 2)⟩ []).2) = _
  rw [e2, e3]

set_option maxRecDepth 100000 in
set_option maxHeartbeats 4000000 in
theorem known_any (w : World) : Calls Try.prog 7 #[] w fun e w' => e = .returned (.bool true) ∧ Turn [] w w' := by
  go_enter Try.func7, Try.ntmps7
  go_wp2_with fail
  refine (new_any w).mono ?_
  rintro e w1 ⟨g, rfl, hg, hS1, hT1⟩
  have hM1 := Mine.new hg hS1
  have HM1 := hide (hM1.turn0 ((Turn.refl [] w1).alloc (.cells (([0, 3, 5] : List Nat).map byteCell).toArray 5)))
  have HF1 := hide (feed_new hT1.size hM1 [0, 3, 5] (by decide) (by decide))
  rw [feed_ex1] at HF1
  have HT1 : Hid (Turn [] w (w1.alloc (.cells (([0, 3, 5] : List Nat).map byteCell).toArray 5))) := hT1.alloc _
  have hgl := hS1.lt
  clear hS1 hT1 hM1 hg
  go_upto_region 5 with (first | (go_at_call 11; refine HF1.out.mono ?_; rintro e w2 ⟨v, mo2, rfl, hP⟩; have HP := hide hP; clear hP) | fail)
  have HT2 : Hid (Turn [] w w2) := HP.out.old HM1.out (Nat.le_refl _) HT1.out
  obtain ⟨a2, c2, hv2⟩ := HP.out.its.form
  have HM2 := hide HP.out.mine
  have HF2 := hide (feed_new HT2.out.size HM2.out [1, 107] (by decide) (by decide))
  rw [feed_ex2] at HF2
  have HM2a := hide (HM2.out.turn0 ((Turn.refl [] w2).alloc (.cells (([1, 107] : List Nat).map byteCell).toArray 5)))
  have HT2a : Hid (Turn [] w (w2.alloc (.cells (([1, 107] : List Nat).map byteCell).toArray 5))) := HT2.out.alloc _
  have hg2 : g < w2.heap.size := (HM2.out.up g (own_g _ _)).2
  clear HP HF1 HM1 HT1 hgl
  subst hv2
  go_upto_region 6 with (first | (go_at_call 11; refine HF2.out.mono ?_; rintro e w3 ⟨v, mo3, rfl, hP⟩; have HP := hide hP; clear hP) | fail)
  have HT3 : Hid (Turn [] w w3) := HP.out.old HM2a.out (Nat.le_refl _) HT2a.out
  obtain ⟨q, cap, hv3, hrg, hq⟩ := HP.out.its.get (by simp)
  have hr := flatI_at hrg (k := 0) (by simp)
  have k1 : w3.cell? ⟨q, 1, none⟩ = some (.string ⟨#[107]⟩) := hr 1 _ rfl
  have k18 : w3.cell? ⟨q, 18, none⟩ = some (.int .i64 0) := hr 18 _ rfl
  clear HP HF2 HM2 HM2a HT2 HT2a hrg hr
  subst hv3
  go_wp2_with fail
  go_ret
  exact ⟨rfl, HT3.out⟩

end Go.Proofs.Ytmmbckchaklhaaa.Se

namespace Go.Proofs.Ytmmbckchaklhaaa.Se
open Go.RowKit Go.Maps

/-- A frame of these bytes. -/
def frm (l : List Nat) : List Nat := [l.length / 256, l.length % 256] ++ l
theorem frm_len (l : List Nat) : (frm l).length = l.length + 2 := by unfold frm; rw [List.length_append]; simp; omega
theorem frm_8 {l : List Nat} (h : ∀ x ∈ l, x < 256) (hl : l.length ≤ 512) : ∀ x ∈ frm l, x < 256 := fun x hx => by
  rcases List.mem_append.1 hx with k | k
  · rcases List.mem_cons.1 k with rfl | k
    · omega
    · rw [List.mem_singleton.1 k]
      omega
  · exact h x k
theorem span_frm {l : List Nat} (hl : l.length ≤ 512) (r : List Nat) : span (frm l ++ r) = 2 + l.length := by
  unfold span frm
  have e0 : ([l.length / 256, l.length % 256] ++ l ++ r).getD 0 0 = l.length / 256 := rfl
  have e1 : ([l.length / 256, l.length % 256] ++ l ++ r).getD 1 0 = l.length % 256 := rfl
  rw [e0, e1, if_neg (by simp), if_neg (by omega)]
  omega
theorem span_take {l : List Nat} (hl : l.length ≤ 512) (i : Nat) (hi : i < l.length + 2) : i < span ((frm l).take i) ∨ i = 2 ∧ span ((frm l).take i) = 2 + l.length ∨ i < 2 := by
  by_cases h2 : i < 2
  · exact .inr (.inr h2)
  · have hfl := frm_len l
    have : span ((frm l).take i) = span (frm l) := by
      have := span_app (a := (frm l).take i) (by rw [List.length_take]; omega) ((frm l).drop i)
      rw [List.take_append_drop] at this
      exact this.symm
    have e := span_frm hl []
    rw [List.append_nil] at e
    rw [this, e]
    omega
theorem front_waits {l : List Nat} (hl : l.length ≤ 512) (h0 : 0 < l.length) {i : Nat} (hi : i < l.length + 2) : ((frm l).take i).length < span ((frm l).take i) := by
  have hfl := frm_len l
  have e : ((frm l).take i).length = i := by rw [List.length_take]; omega
  rw [e]
  rcases span_take hl i hi with h | ⟨rfl, h⟩ | h
  · exact h
  · rw [h]
    omega
  · rw [span_short (by omega)]
    omega
theorem run_frm {l : List Nat} (hl : l.length ≤ 512) (h0 : 0 < l.length) (r : List Nat) : run (frm l ++ r) = (parsed l :: (run r).1, (run r).2) := by
  have hsp := span_frm hl r
  have hfl := frm_len l
  have e1 : (frm l ++ r).take (2 + l.length) = frm l := by rw [List.take_append_of_le_length (by omega), List.take_of_length_le (by omega)]
  have e2 : (frm l ++ r).drop (2 + l.length) = r := by rw [List.drop_append_of_le_length (by omega), List.drop_of_length_le (by omega), List.nil_append]
  rw [run_item (by rw [hsp, List.length_append]; omega) (by omega), hsp, e1, e2]
  rfl

/-- One byte more of a frame. -/
theorem feed_byte {l : List Nat} (hl : l.length ≤ 512) (h0 : 0 < l.length) {i : Nat} (hi : i + 1 < l.length + 2) : feed ⟨(frm l).take i, false⟩ (((frm l).drop i).take 1) = ([], ⟨(frm l).take (i + 1), false⟩) := by
  have e : (frm l).take i ++ ((frm l).drop i).take 1 = (frm l).take (i + 1) := (List.take_add ..).symm
  have := feed_wait (s := ⟨(frm l).take i, false⟩) (b := ((frm l).drop i).take 1) rfl (by
    show ((frm l).take i ++ ((frm l).drop i).take 1).length < span ((frm l).take i ++ ((frm l).drop i).take 1)
    rw [e]
    exact front_waits hl h0 hi)
  rw [this]
  show ([], Ss.mk ((frm l).take i ++ ((frm l).drop i).take 1) false) = _
  rw [e]
theorem feed_last {l : List Nat} (hl : l.length ≤ 512) (h0 : 0 < l.length) {i : Nat} (hi : i + 1 = l.length + 2) : feed ⟨(frm l).take i, false⟩ (((frm l).drop i).take 1) = ([parsed l], Ss.new) := by
  have e : (frm l).take i ++ ((frm l).drop i).take 1 = frm l := by rw [← List.take_add, hi, ← frm_len, List.take_length]
  unfold feed
  rw [if_neg (by simp)]
  show ((run ((frm l).take i ++ ((frm l).drop i).take 1)).1, Ss.mk (run ((frm l).take i ++ ((frm l).drop i).take 1)).2.1 (run ((frm l).take i ++ ((frm l).drop i).take 1)).2.2) = _
  rw [e]
  have := run_frm hl h0 []
  rw [List.append_nil] at this
  rw [this, run_wait (by decide)]
  rfl
theorem feed_none : feed Ss.new [] = ([], Ss.new) := feed_wait (s := Ss.new) rfl (by decide)

set_option maxRecDepth 100000 in
theorem slice_one (a : Option Addr) (n c k : Nat) (w : World) (hk : k + 1 ≤ c) : (Instr.slice 26 (.slice a n c) (some (.int .i64 (k : Nat))) (some (.int .i64 ((k : Nat) + 1))) none).run Try.prog w = .ok (.slice (hiA a c k) 1 (c - k)) w := by
  rw [run_slice_lh w 26 a n c (by kernel_rfl) .i64 .i64 k (k + 1) (by omega) (by omega) (by omega)]
  have hs : (sizeOf (Try.prog.elem 26)).run Try.prog w = .ok 1 w := by go_simp
  rw [hs]
  have e : ((k : Int) + 1).toNat = k + 1 := by omega
  simp only [Result.andThen, sliced, Int.toNat_natCast, hiA, e, Nat.add_sub_cancel_left]

/-- A show's bytes. -/
theorem enc_show (key : ByteArray) (hk : key.size ≤ 255) : (reqS wrC ⟨[], 0⟩ { Rq.zero with k := 5, key := key }).1 = ⟨[5, key.size] ++ natBytes key, 0⟩ := by
  rw [enc_ok { Rq.zero with k := 5, key := key } (by unfold isK; simp) (by unfold Fit txts; simpa using hk)]
  have : reqB { Rq.zero with k := 5, key := key } = [5] ++ txB key ++ bodyB { Rq.zero with k := 5, key := key } := rfl
  rw [this]
  have e : bodyB { Rq.zero with k := 5, key := key } = [] := by unfold bodyB; simp
  rw [e, List.append_nil]
  rfl

end Go.Proofs.Ytmmbckchaklhaaa.Se

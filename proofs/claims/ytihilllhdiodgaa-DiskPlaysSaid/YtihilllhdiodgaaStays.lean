/-
  The law DiskStays, walked: it returns true, and nothing that was there is written.
-/
import Derived.Test.YtihilllhdiodgaaHelp
import Derived.Deep.RegionWith
namespace Go.Proofs.Ytihilllhdiodgaa
open Go.RowKit Go.Maps

/-- One call that came in: its kind, its number, its bytes. -/
structure CallAt (w : World) (b off : Nat) (kd N : Int) (ak : Option Addr) (ck : Nat) (lk : List Nat) : Prop where
  lt : b < w.heap.size
  c0 : w.cell? ⟨b, off, none⟩ = some (.int .i64 kd)
  c1 : w.cell? ⟨b, off + 1, none⟩ = some (.int .i64 N)
  c2 : w.cell? ⟨b, off + 2, none⟩ = some (.slice ak lk.length ck)
  bytes : BytesAt w ak lk
  nil : ak = none → ck = 0
  n1 : N ≤ 9223372036854775807
  len : lk.length ≤ 140737488351232

/-- The calls that came in. -/
def CallsAt (w : World) (a : Option Addr) (n : Nat) : Prop :=
  ∀ k, k < n → ∃ b off kd N ak ck lk, a = some ⟨b, off, none⟩ ∧ CallAt w b (off + k * 3) kd N ak ck lk

theorem CallAt.turn {w w' : World} {b off : Nat} {kd N : Int} {ak : Option Addr} {ck : Nat} {lk : List Nat} (h : CallAt w b off kd N ak ck lk) (hT : Turn [] w w') : CallAt w' b off kd N ak ck lk :=
  ⟨Nat.lt_of_lt_of_le h.lt hT.size, (hT.cell (p := ⟨b, off, none⟩) h.lt (by simp)).trans h.c0, (hT.cell (p := ⟨b, off + 1, none⟩) h.lt (by simp)).trans h.c1, (hT.cell (p := ⟨b, off + 2, none⟩) h.lt (by simp)).trans h.c2, h.bytes.turn hT (by simp), h.nil, h.n1, h.len⟩

/-- The disk of the law: block 3 holds l. -/
structure StayAt (s : St) (q : Nat) (l : List Nat) : Prop where
  good : s.Good
  n8 : s.n = 8
  kq : s.k ≤ q + 1
  f3 : s.f 3 = l

theorem StayAt.cut {s : St} {q : Nat} {l : List Nat} (h : StayAt s q l) {i : Int} (hi : i ≤ 9223372036854775807) : StayAt (s.cut i) (q + 1) l := ⟨h.good.cut hi, h.n8, by have := h.kq; show s.k ≤ q + 1 + 1; omega, h.f3⟩
theorem StayAt.start {s : St} {q : Nat} {l : List Nat} (h : StayAt s q l) : StayAt s.start (q + 1) l := ⟨h.good.start, h.n8, by have := h.kq; show s.k ≤ q + 1 + 1; omega, h.f3⟩
theorem StayAt.stay {s : St} {q : Nat} {l : List Nat} (h : StayAt s q l) : StayAt s (q + 1) l := ⟨h.good, h.n8, by have := h.kq; omega, h.f3⟩
theorem StayAt.write {s : St} {q : Nat} {l : List Nat} (h : StayAt s q l) (hq : q ≤ 1000) {i : Int} (hi : i ≠ 3) (l' : List Nat) : StayAt (s.write i l') (q + 1) l := by
  refine ⟨h.good.write i l' (by have := h.kq; omega), (s.write_n i l').trans h.n8, by have := s.write_k i l'; have := h.kq; omega, ?_⟩
  unfold St.write
  split
  · exact h.f3
  · rename_i hd
    split
    · exact h.f3
    · rename_i ho
      split
      · exact h.f3
      · show put s.f i.toNat l' 3 = l
        unfold put
        have hout : s.out i = false := by
          cases hv : s.out i with
          | true => exact absurd (.inl hv) ho
          | false => rfl
        unfold St.out at hout
        simp at hout
        rw [if_neg (by omega)]
        exact h.f3

theorem stay_facts {s : St} {q : Nat} {l : List Nat} (h : StayAt s q l) : s.start.readErr 3 = 0 ∧ s.start.readRow 3 = l := by
  have hn : s.start.n = 8 := h.n8
  have ho : s.start.out 3 = false := by unfold St.out; rw [hn]; decide
  refine ⟨?_, ?_⟩
  · simp only [St.readErr, ho]
    simp [St.start]
  · simp only [St.readRow, ho]
    have := h.f3
    simpa [St.start] using this

theorem first_facts (l : List Nat) (hl : l.length = 512) : (St.new 8).writeErr 3 512 = 0 ∧ StayAt ((St.new 8).write 3 l) 0 l := by
  have e : (St.new 8).write 3 l = { St.new 8 with k := 1, f := put (St.new 8).f 3 l } := by simp [St.write, St.new, St.out, hl]
  refine ⟨by simp [St.writeErr, St.new, St.out], (St.Good.new (by omega)).write 3 l (by show 0 < 1000000; omega), (St.write_n _ _ _).trans rfl, ?_, ?_⟩
  · rw [e]; show 1 ≤ 0 + 1; omega
  · rw [e]; show put (St.new 8).f 3 l 3 = l; unfold put; rw [if_pos rfl]

set_option maxRecDepth 100000 in
set_option maxHeartbeats 2000000 in
theorem stays_any (a : Option Addr) (cap : Nat) (lb : List Nat) (a0 : Option Addr) (n0 cap0 : Nat) (hlb : lb.length ≤ 140737488351232) (hn0 : n0 ≤ maxLen) (w : World) (hB : BytesAt w a lb) (hnil : a = none → cap = 0) (hC : CallsAt w a0 n0) :
    Calls Try.prog 4 #[.slice a lb.length cap, .slice a0 n0 cap0] w fun e w' => e = .returned (.bool true) ∧ Turn [] w w' := by
  unfold maxLen at hn0
  have hnot : ∀ (x : Bool) (w : World), (Op.unary .not (.bool x)).run Try.prog w = .ok (.bool (!x)) w := fun _ _ => rfl
  have HB := hide hB
  have HC := hide hC
  clear hB hC
  go_enter Try.func4, Try.ntmps4
  go_wp2_with fail
  refine (known_any _).mono ?_
  rintro e w1 ⟨rfl, hT1⟩
  go_wp2_with fail
  refine (new_any 8 (by omega) (by omega) w1).mono ?_
  rintro e w2 ⟨rfl, hD2, hT2, hs2⟩
  have hT12 := hT1.then hT2 (by simp)
  have hb1 := hT1.size
  have HD2 := hide hD2
  have hz2 : w1.heap.size + 2 ≤ w2.heap.size := by omega
  clear hD2 hT1 hT2 hs2
  generalize hm : w1.heap.size = m at *
  clear hm
  have hown : (w2.alloc (.cells #[.int .u8 1] 5)).ownsRow w2.heap.size 5 1 (.slice (some ⟨w2.heap.size, 0, none⟩) 1 1) 1 ([1].map byteCell) := World.ownsRow_lit w2 #[.int .u8 1] 1 (Nat.le_refl _) (by unfold maxLen; omega) rfl
  have hbA : BytesAt (w2.alloc (.cells #[.int .u8 1] 5)) a lb := (HB.out.turn hT12 (by simp)).turn ((Turn.refl [] _).alloc _) (by simp)
  have HOWN := hide hown
  have HBA := hide hbA
  clear hown hbA
  go_wp2_with (at_builtin; refine append_bytes rfl _ _ rfl w2.heap.size (.slice (some ⟨w2.heap.size, 0, none⟩) 1 1) 1 [1] rfl HOWN.out a lb.length cap lb rfl rfl hnil HBA.out ?b1 ?b2 ?_)
  case b1 => omega
  case b2 => simp
  intro v w3 hown3 hgrow3 hnil3
  obtain ⟨lx, hlx⟩ : ∃ lx, lx = 1 :: lb := ⟨_, rfl⟩
  replace hown3 : w3.ownsRow w2.heap.size 5 1 v (1 + lb.length) (lx.map byteCell) := by rw [hlx]; exact hown3
  have hlen : lx.length = 1 + lb.length := by rw [hlx]; simp; omega
  obtain ⟨g, cg, hv, _, hg, hgl, hbg, _⟩ := own_bytes hown3 (by omega)
  have hT3 : Turn [] w w3 := (hT12.alloc _).grown hgrow3 (by intro k hk; right; simp [Value.ownBlock] at hk; have := hT12.size; omega)
  have hD3 : DiskAt w3 (m + 1) m (St.new 8) := by
    have hDa : DiskAt (w2.alloc (.cells #[.int .u8 1] 5)) (m + 1) m (St.new 8) := HD2.out.turn ((Turn.refl [] _).alloc _) (by simp) (by simp)
    exact hDa.of_blocks (hgrow3.block _ hDa.lt (by simp [Value.ownBlock]; omega)) (hgrow3.block _ hDa.ltm (by simp [Value.ownBlock]; omega))
  have hz3 : m + 2 ≤ w3.heap.size := by have := hgrow3.size; simp at this; omega
  have HD3 := hide hD3
  have HBG := hide hbg
  have HLX := hide (show lx.length ≤ 140737488355328 by omega)
  have hpos : lx ≠ [] := by intro e; rw [e] at hlen; simp at hlen; omega
  have HPOS := hide hpos
  clear hown3 hgrow3 hnil3 HOWN HBA hlx hlen hbg hD3 HD2 hT12 HB hpos
  rw [hv]
  clear hv
  go_wp2_with fail
  refine (block_any (some ⟨g, 0, none⟩) cg lx (by have := HLX.out; unfold maxLen; omega) w3 HBG.out).mono ?_
  rintro e w4 ⟨vx, rfl, hbl, hT34⟩
  obtain ⟨gx, nx, cx, l, hvx, hgx, hnx, hnm, hBx⟩ : ∃ gx nx cx, ∃ l : List Nat, vx = .slice (some ⟨gx, 0, none⟩) nx cx ∧ m + 2 ≤ gx ∧ l.length = nx ∧ nx ≤ 140737488355328 ∧ BytesAt w4 (some ⟨gx, 0, none⟩) l := by
    rcases hbl with ⟨e1, _⟩ | ⟨_, g', l', e1, h1, h2, h3, h4⟩
    · exact ⟨g, lx.length, cg, lx, e1, by omega, rfl, HLX.out, HBG.out.turn hT34 (by simp)⟩
    · exact ⟨g', 512, 512, l', e1, by omega, h3, by omega, h4⟩
  have HD4 : Hid (DiskAt w4 (m + 1) m (St.new 8)) := HD3.out.turn hT34 (by simp) (by simp)
  have hT4 : Turn [] w w4 := hT3.then hT34 (by simp)
  have HBX := hide hBx
  have HNX := hide hnx
  rw [hvx]
  clear hvx hbl HD3 HBG HLX hT3 hT34 hBx hnx
  by_cases h512 : nx = 512
  · subst h512
    obtain ⟨f1, hS0⟩ := first_facts l HNX.out
    have HF1 := hide f1
    have HS0 := hide hS0
    clear f1 hS0
    go_wp2_with fail
    refine (write_at _ _ _ (St.Good.new (by omega)) 3 _ cx 512 l HNX.out (by unfold maxLen; omega) w4 HD4.out HBX.out).mono ?_
    rintro e w5 ⟨rfl, hD5, hT5⟩
    rw [HF1.out]
    have HD5 := hide hD5
    have hB5 : BytesAt w5 (some ⟨gx, 0, none⟩) l := HBX.out.turn hT5 (fun x _ hx => by obtain rfl := Option.some.inj hx; simp; omega)
    have hT05 : Turn [] w w5 := hT4.then hT5 (by simp; omega)
    have hz5 : m + 2 ≤ w5.heap.size := by have := HD5.out.lt; omega
    have HB5 := hide hB5
    clear hD5 hB5 HBX HD4 HF1 hT5 hT4
    generalize hs0 : (St.new 8).write 3 l = s0 at *
    clear hs0
    go_wp2_with fail
    go_loopw [8] (fun i wr => ∃ q : Nat, q ≤ n0 ∧ q ≤ 60 ∧ i = .int .i64 q ∧ ∃ s : St, DiskAt wr (m + 1) m s ∧ StayAt s q l ∧ Turn [] w wr ∧ BytesAt wr (some ⟨gx, 0, none⟩) l) (fun i _ => 60 - (intOf i).toNat)
    case atStart => exact ⟨0, Nat.zero_le _, Nat.zero_le _, rfl, s0, HD5.out, HS0.out, hT05, HB5.out⟩
    case round =>
      obtain ⟨q, hq0, hq60, rfl, s, hD, hS, hTr, hBr⟩ := hrel
      have hzr : m + 2 ≤ wr.heap.size := by have := hD.lt; omega
      have HD := hide hD
      have HS := hide hS
      have HBR := hide hBr
      clear hD hS hBr HD5 HS0 hT05 HB5
      by_cases hlt : q < n0
      · by_cases h60 : q < 60
        · obtain ⟨b', off, kd, N, ak, ck, lk, rfl, hcall⟩ := HC.out q hlt
          have hcr := hcall.turn hTr
          have hc0 := hcr.c0
          have hc1 := hcr.c1
          have hc2 := hcr.c2
          have hbr := hcr.lt
          have HCR := hide hcr
          clear hcall hcr
          have hTc : Turn [] w (wr.alloc (.cells #[.int .i64 kd, .int .i64 N, .slice ak lk.length ck] 33)) := hTr.alloc _
          have HDc : Hid (DiskAt (wr.alloc (.cells #[.int .i64 kd, .int .i64 N, .slice ak lk.length ck] 33)) (m + 1) m s) := HD.out.turn ((Turn.refl [] _).alloc _) (by simp) (by simp)
          have HBc : Hid (BytesAt (wr.alloc (.cells #[.int .i64 kd, .int .i64 N, .slice ak lk.length ck] 33)) (some ⟨gx, 0, none⟩) l) := HBR.out.turn ((Turn.refl [] _).alloc _) (by simp)
          have HBk : Hid (BytesAt (wr.alloc (.cells #[.int .i64 kd, .int .i64 N, .slice ak lk.length ck] 33)) ak lk) := HCR.out.bytes.turn ((Turn.refl [] _).alloc _) (by simp)
          have hN := HCR.out.n1
          have hLk := HCR.out.len
          have HNil := hide HCR.out.nil
          clear HD HBR
          by_cases k2 : kd = 2
          · subst k2
            by_cases n3 : N = 3
            · subst n3
              clear HCR
              go_wp2_with fail
              go_roundw
              case rel => exact ⟨q + 1, by omega, by omega, by go_num, s, HDc.out, HS.out.stay, hTc, HBc.out⟩
              case measure => simp [intOf]; omega
            · have tn : (N != 3) = true := by rw [bne_iff_ne]; exact n3
              have HN3 := hide n3
              clear n3 HCR
              go_wp2_with fail
              have hk0 : (wr.alloc (.cells #[.int .i64 2, .int .i64 N, .slice ak lk.length ck] 33)).cell? ⟨wr.heap.size, 0, none⟩ = some (.int .i64 2) := World.cell?_alloc_at _ _ _ _ rfl
              have hk1 : (wr.alloc (.cells #[.int .i64 2, .int .i64 N, .slice ak lk.length ck] 33)).cell? ⟨wr.heap.size, 1, none⟩ = some (.int .i64 N) := World.cell?_alloc_at _ _ _ _ rfl
              have hk2 : (wr.alloc (.cells #[.int .i64 2, .int .i64 N, .slice ak lk.length ck] 33)).cell? ⟨wr.heap.size, 2, none⟩ = some (.slice ak lk.length ck) := World.cell?_alloc_at _ _ _ _ rfl
              have hkl : wr.heap.size < (wr.alloc (.cells #[.int .i64 2, .int .i64 N, .slice ak lk.length ck] 33)).heap.size := by simp
              generalize hwc : wr.alloc (.cells #[.int .i64 2, .int .i64 N, .slice ak lk.length ck] 33) = wc at *
              generalize hcb : wr.heap.size = cb at *
              clear hwc hcb hc0 hc1 hc2
              go_region_with (first
                | (go_at_call 11; refine (block_at ak ck lk hLk HNil.out _ ?_).mono ?_; exact HBk.out; rintro e w6 ⟨a', n', c', l', rfl, hl', hn', hb', _, _, hT6⟩; have h60 := (hT6.cell (p := ⟨cb, 0, none⟩) hkl (by simp)).trans hk0; have h61 := (hT6.cell (p := ⟨cb, 1, none⟩) hkl (by simp)).trans hk1; have HL' := hide hl'; have HB' := hide hb'; have HD6 := hide (HDc.out.drew.turn hT6 (by simp) (by simp)); have HB6 := hide (BytesAt.turn (w := wc) HBc.out (Turn.mk hT6.os hT6.tape hT6.output hT6.size hT6.block) (by simp)); have hT06 := hTc.drew.then hT6 (by simp); have hkl6 := Nat.lt_of_lt_of_le hkl hT6.size; clear hl' hb' hT6)
                | (go_at_call 12; refine (write_at (m + 1) m s HS.out.good N _ _ _ l' HL'.out (by unfold maxLen; omega) _ ?_ ?_).mono ?_; exact HD6.out; exact HB'.out; rintro e w7 ⟨rfl, hD7, hT7⟩; have h70 := (hT7.cell (p := ⟨cb, 0, none⟩) hkl6 (by simp; omega)).trans h60; have HD7 := hide hD7; have HB7 := hide (HB6.out.turn hT7 (fun x _ hx => by obtain rfl := Option.some.inj hx; simp; omega)); have hT07 := hT06.then hT7 (by simp; omega); clear hD7 hT7))
              all_goals
                go_wp2_with fail
                go_roundw
                case rel => exact ⟨q + 1, by omega, by omega, by go_num, _, HD7.out, HS.out.write (by omega) HN3.out _, hT07, HB7.out⟩
                case measure => simp [intOf]; omega
          · by_cases k3 : kd = 3
            · subst k3
              clear HCR k2
              go_wp2_with fail
              have hk0 : (wr.alloc (.cells #[.int .i64 3, .int .i64 N, .slice ak lk.length ck] 33)).cell? ⟨wr.heap.size, 0, none⟩ = some (.int .i64 3) := World.cell?_alloc_at _ _ _ _ rfl
              have hkl : wr.heap.size < (wr.alloc (.cells #[.int .i64 3, .int .i64 N, .slice ak lk.length ck] 33)).heap.size := by simp
              generalize hwc : wr.alloc (.cells #[.int .i64 3, .int .i64 N, .slice ak lk.length ck] 33) = wc at *
              generalize hcb : wr.heap.size = cb at *
              clear hwc hcb hc0 hc1 hc2
              refine (cut_any _ _ _ N hN _ HDc.out).mono ?_
              rintro e w7 ⟨rfl, hD7, hT7⟩
              have h70 := (hT7.cell (p := ⟨cb, 0, none⟩) hkl (by simp; omega)).trans hk0
              have HD7 := hide hD7
              have HB7 := hide (HBc.out.turn hT7 (fun x _ hx => by obtain rfl := Option.some.inj hx; simp; omega))
              have hT07 := hTc.then hT7 (by simp; omega)
              clear hD7 hT7 hk0
              go_wp2_with fail
              go_roundw
              case rel => exact ⟨q + 1, by omega, by omega, by go_num, _, HD7.out, HS.out.cut hN, hT07, HB7.out⟩
              case measure => simp [intOf]; omega
            · by_cases k4 : kd = 4
              · subst k4
                clear HCR k2 k3
                go_wp2_with fail
                have hk0 : (wr.alloc (.cells #[.int .i64 4, .int .i64 N, .slice ak lk.length ck] 33)).cell? ⟨wr.heap.size, 0, none⟩ = some (.int .i64 4) := World.cell?_alloc_at _ _ _ _ rfl
                have hkl : wr.heap.size < (wr.alloc (.cells #[.int .i64 4, .int .i64 N, .slice ak lk.length ck] 33)).heap.size := by simp
                generalize hwc : wr.alloc (.cells #[.int .i64 4, .int .i64 N, .slice ak lk.length ck] 33) = wc at *
                generalize hcb : wr.heap.size = cb at *
                clear hwc hcb hc0 hc1 hc2
                refine (start_any _ _ _ _ HDc.out).mono ?_
                rintro e w7 ⟨rfl, hD7, hT7⟩
                have HD7 := hide hD7
                have HB7 := hide (HBc.out.turn hT7 (fun x _ hx => by obtain rfl := Option.some.inj hx; simp; omega))
                have hT07 := hTc.then hT7 (by simp; omega)
                clear hD7 hT7 hk0
                go_wp2_with fail
                go_roundw
                case rel => exact ⟨q + 1, by omega, by omega, by go_num, _, HD7.out, HS.out.start, hT07, HB7.out⟩
                case measure => simp [intOf]; omega
              · have t2 : (kd == 2) = false := by rw [beq_eq_false_iff_ne]; exact k2
                have t3 : (kd == 3) = false := by rw [beq_eq_false_iff_ne]; exact k3
                have t4 : (kd == 4) = false := by rw [beq_eq_false_iff_ne]; exact k4
                clear HCR k2 k3 k4
                go_wp2_with fail
                go_roundw
                case rel => exact ⟨q + 1, by omega, by omega, by go_num, s, HDc.out, HS.out.stay, hTc, HBc.out⟩
                case measure => simp [intOf]; omega
        · obtain rfl : q = 60 := by omega
          have hGs := hide HS.out.good.start
          obtain ⟨f1, f2⟩ := stay_facts HS.out
          have HF1 := hide f1
          have HF2 := hide f2
          clear f1 f2
          go_wp2_with fail
          refine (start_any _ _ _ _ HD.out).mono ?_
          rintro e w6 ⟨rfl, hD6, hT6⟩
          have HD6 := hide hD6
          have HB6 := hide (HBR.out.turn hT6 (fun x _ hx => by obtain rfl := Option.some.inj hx; simp; omega))
          have hT06 := hTr.then hT6 (by simp; omega)
          clear hD6 hT6
          go_wp2_with fail
          refine (read_any _ _ _ hGs.out 3 _ HD6.out).mono ?_
          rintro e w7 ⟨ay, ny, cy, rfl, hny, hBy, hT7⟩
          rw [HF1.out]
          rw [HF2.out] at hny hBy
          have hy := text_at hBy ny cy hny
          have hx := text_at (HB6.out.turn hT7 (by simp)) 512 cx HNX.out
          have hT07 := hT06.then hT7 (by simp)
          clear hny hBy hT7
          go_wp2_with fail
          go_ret
          exact ⟨rfl, hT07⟩
      · obtain rfl : q = n0 := by omega
        have hGs := hide HS.out.good.start
        obtain ⟨f1, f2⟩ := stay_facts HS.out
        have HF1 := hide f1
        have HF2 := hide f2
        clear f1 f2
        go_wp2_with fail
        refine (start_any _ _ _ _ HD.out).mono ?_
        rintro e w6 ⟨rfl, hD6, hT6⟩
        have HD6 := hide hD6
        have HB6 := hide (HBR.out.turn hT6 (fun x _ hx => by obtain rfl := Option.some.inj hx; simp; omega))
        have hT06 := hTr.then hT6 (by simp; omega)
        clear hD6 hT6
        go_wp2_with fail
        refine (read_any _ _ _ hGs.out 3 _ HD6.out).mono ?_
        rintro e w7 ⟨ay, ny, cy, rfl, hny, hBy, hT7⟩
        rw [HF1.out]
        rw [HF2.out] at hny hBy
        have hy := text_at hBy ny cy hny
        have hx := text_at (HB6.out.turn hT7 (by simp)) 512 cx HNX.out
        have hT07 := hT06.then hT7 (by simp)
        clear hny hBy hT7
        go_wp2_with fail
        go_ret
        exact ⟨rfl, hT07⟩
  · have t5 : ((nx : Int) != 512) = true := by rw [bne_iff_ne]; omega
    go_wp2_with fail
    go_ret
    exact ⟨rfl, hT4⟩

end Go.Proofs.Ytihilllhdiodgaa

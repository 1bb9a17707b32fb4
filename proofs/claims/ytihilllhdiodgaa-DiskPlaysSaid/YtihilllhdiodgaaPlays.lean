/-
  The law DiskPlays, walked: it returns true, and nothing that was there is written.
-/
import Derived.Test.YtihilllhdiodgaaStays
import Derived.Test.YtihilllhdiodgaaRefRW
namespace Go.Proofs.Ytihilllhdiodgaa
open Go.RowKit Go.Maps

theorem refWrite_at (rb rs : Nat) (G : Nat → Prop) (s : St) (hG : s.Good) (i : Int) (a : Option Addr) (cap n : Nat) (l : List Nat) (hn : l.length = n) (w : World) (hR : RefAt w rb rs G s) (hb : BytesAt w a l) (hab : ∀ x, l ≠ [] → a = some x → x.block ≠ rb) (hN : ∀ g, w.heap.size ≤ g → G g) :
    Calls Try.prog 13 #[.pointer (some ⟨rb, 0, none⟩), .int .i64 i, .slice a n cap] w fun e w' =>
      e = .returned (.int .i64 (s.writeErr i n)) ∧ RefAt w' rb rs G (s.write i l) ∧ Turn [rb, rs] w w' := by
  subst hn
  exact refWrite_any rb rs G s hG i a cap l w hR hb hab hN

/-- Behind some draws all is as it was. -/
theorem DiskAt.drewN {w : World} {b m : Nat} {s : St} (h : DiskAt w b m s) (n : Nat) : DiskAt (w.drewN n) b m s := h.of_blocks rfl rfl
theorem RefAt.drewN {w : World} {rb rs : Nat} {G : Nat → Prop} {s : St} (h : RefAt w rb rs G s) (n : Nat) : RefAt (w.drewN n) rb rs G s := h.keep (Nat.le_refl _) rfl rfl fun _ _ _ _ _ => rfl
theorem Turn.drewN {S : List Nat} {u w : World} (h : Turn S u w) (n : Nat) : Turn S u (w.drewN n) := ⟨h.os, h.tape, h.output, h.size, h.block⟩

/-- The two disks of the law stand alike. -/
structure PlayAt (w wr : World) (m r q : Nat) (s : St) : Prop where
  disk : DiskAt wr (m + 1) m s
  ref : RefAt wr (r + 1) r (fun g => r + 1 < g) s
  good : s.Good
  k : s.k ≤ q
  turn : Turn [] w wr

theorem PlayAt.drewN {w wr : World} {m r q : Nat} {s : St} (h : PlayAt w wr m r q s) (n : Nat) : PlayAt w (wr.drewN n) m r q s := ⟨h.disk.drewN n, h.ref.drewN n, h.good, h.k, h.turn.drewN n⟩

set_option maxHeartbeats 800000 in
theorem plays_no (x : Int) (a0 : Option Addr) (n0 cap0 : Nat) (hx : x < 1 ∨ 16384 < x) (w : World) :
    Calls Try.prog 3 #[.int .i64 x, .slice a0 n0 cap0] w fun e w' => e = .returned (.bool true) ∧ Turn [] w w' := by
  have hnot : ∀ (x : Bool) (w : World), (Op.unary .not (.bool x)).run Try.prog w = .ok (.bool (!x)) w := fun _ _ => rfl
  go_enter Try.func3, Try.ntmps3
  go_wp2_with fail
  refine (known_any _).mono ?_
  rintro e w1 ⟨rfl, hT1⟩
  go_wp2_with fail
  refine (new_no x hx w1).mono ?_
  rintro e w2 ⟨rfl, rfl⟩
  go_wp2_with fail
  refine (refNew_no x hx _).mono ?_
  rintro e w3 ⟨rfl, rfl⟩
  go_wp2_with fail
  go_loopw [9] (fun i wr => i = .int .i64 0 ∧ wr = w3) (fun _ _ => 0)
  case atStart => exact ⟨rfl, rfl⟩
  case round =>
    obtain ⟨rfl, rfl⟩ := hrel
    go_wp2_with fail
    go_ret
    exact ⟨rfl, hT1⟩

set_option maxRecDepth 100000 in
set_option maxHeartbeats 8000000 in
theorem plays_any (n : Nat) (a0 : Option Addr) (n0 cap0 : Nat) (hn1 : 1 ≤ n) (hn2 : n ≤ 16384) (hn0 : n0 ≤ maxLen) (w : World) (hC : CallsAt w a0 n0) :
    Calls Try.prog 3 #[.int .i64 (n : Nat), .slice a0 n0 cap0] w fun e w' => e = .returned (.bool true) ∧ Turn [] w w' := by
  unfold maxLen at hn0
  have hnot : ∀ (x : Bool) (w : World), (Op.unary .not (.bool x)).run Try.prog w = .ok (.bool (!x)) w := fun _ _ => rfl
  have HC := hide hC
  clear hC
  go_enter Try.func3, Try.ntmps3
  go_wp2_with fail
  refine (known_any _).mono ?_
  rintro e w1 ⟨rfl, hT1⟩
  go_wp2_with fail
  refine (new_any n hn1 hn2 w1).mono ?_
  rintro e w2 ⟨rfl, hD2, hT2, hs2⟩
  have hz2 : w1.heap.size + 2 ≤ w2.heap.size := by omega
  have hT12 := hT1.then hT2 (by simp)
  have hb1 := hT1.size
  have HD2 := hide hD2
  clear hD2 hT1 hT2 hs2
  go_wp2_with fail
  refine (refNew_any n hn1 hn2 (fun g => w2.heap.size + 1 < g) w2).mono ?_
  rintro e w3 ⟨rfl, hR3, hT3, hs3⟩
  have hz3 : w2.heap.size + 2 ≤ w3.heap.size := by omega
  have HP3 : Hid (PlayAt w w3 w1.heap.size w2.heap.size 0 (St.new n)) := ⟨HD2.out.turn hT3 (by simp) (by simp), hR3, St.Good.new hn2, Nat.le_refl _, hT12.then hT3 (by simp)⟩
  clear hR3 hT3 hs3 HD2 hT12
  generalize hm : w1.heap.size = m at *
  generalize hr : w2.heap.size = r at *
  clear hm hr
  go_wp2_with fail
  go_loopw [9] (fun i wr => ∃ q : Nat, q ≤ n0 ∧ q ≤ 100 ∧ i = .int .i64 q ∧ ∃ s : St, PlayAt w wr m r q s) (fun i _ => 100 - (intOf i).toNat)
  case atStart => exact ⟨0, Nat.zero_le _, Nat.zero_le _, rfl, _, HP3.out⟩
  case round =>
    obtain ⟨q, hq0, hq100, rfl, s, hP⟩ := hrel
    have hzr : r + 2 ≤ wr.heap.size := by have := hP.ref.lt; omega
    have hTr := hP.turn
    have HP := hide hP
    clear hP HP3
    by_cases hlt : q < n0
    · by_cases h100 : q < 100
      · obtain ⟨b', off, kd, N, ak, ck, lk, rfl, hcall⟩ := HC.out q hlt
        have hcr := hcall.turn hTr
        have hc0 := hcr.c0
        have hc1 := hcr.c1
        have hc2 := hcr.c2
        have hbr := hcr.lt
        have HBk : Hid (BytesAt (wr.alloc (.cells #[.int .i64 kd, .int .i64 N, .slice ak lk.length ck] 33)) ak lk) := hcr.bytes.turn ((Turn.refl [] _).alloc _) (by simp)
        have hN := hcr.n1
        have hLk := hcr.len
        have HNil := hide hcr.nil
        have HLtk := hide hcall.bytes.lt
        have HPc : Hid (PlayAt w (wr.alloc (.cells #[.int .i64 kd, .int .i64 N, .slice ak lk.length ck] 33)) m r (q + 1) s) := ⟨HP.out.disk.turn ((Turn.refl [] _).alloc _) (by simp) (by simp), HP.out.ref.turn ((Turn.refl [] _).alloc _) (by simp) (by simp) (by simp), HP.out.good, by have := HP.out.k; omega, hTr.alloc _⟩
        have hkq0 := HP.out.k
        clear hcall hcr HP
        by_cases k1 : kd = 1
        · subst k1
          go_wp2_with fail
          have hk1 : (wr.alloc (.cells #[.int .i64 1, .int .i64 N, .slice ak lk.length ck] 33)).cell? ⟨wr.heap.size, 1, none⟩ = some (.int .i64 N) := World.cell?_alloc_at _ _ _ _ rfl
          have hkl : wr.heap.size < (wr.alloc (.cells #[.int .i64 1, .int .i64 N, .slice ak lk.length ck] 33)).heap.size := by simp
          generalize hwc : wr.alloc (.cells #[.int .i64 1, .int .i64 N, .slice ak lk.length ck] 33) = wc at *
          generalize hcb : wr.heap.size = cb at *
          clear hwc hcb hc0 hc1 hc2
          refine (read_any _ _ _ HPc.out.good N _ HPc.out.disk).mono ?_
          rintro e w6 ⟨ay, ny, cy, rfl, hny, hBy, hT6⟩
          have h61 := (hT6.cell (p := ⟨cb, 1, none⟩) hkl (by simp)).trans hk1
          have HR6 := hide (HPc.out.ref.turn hT6 (by simp) (by simp) (by simp))
          have HBy := hide hBy
          have HNy := hide hny
          clear hBy hny hk1
          go_wp2_with fail
          refine (refRead_any _ _ _ _ N _ HR6.out).mono ?_
          rintro e w7 ⟨az, nz, cz, rfl, hnz, hBz, hT7⟩
          have hy := text_at (HBy.out.turn hT7 (by simp)) ny cy HNy.out
          have hz := text_at hBz nz cz hnz
          have HP7 : Hid (PlayAt w w7 m r (q + 1) s) := ⟨(HPc.out.disk.turn hT6 (by simp) (by simp)).turn hT7 (by simp) (by simp), HR6.out.turn hT7 (by simp) (by simp) (by simp), HPc.out.good, HPc.out.k, (HPc.out.turn.then hT6 (by simp)).then hT7 (by simp)⟩
          clear hnz hBz hT6 hT7 HBy HNy HR6 HPc
          have hPd := hide HP7.out.disk
          have h130 := HP7.out.ref.c0
          have h132 := HP7.out.ref.c2
          have h134 := HP7.out.ref.c4
          go_wp2_with fail
          go_quiet (first
            | (go_at_call 18; refine Calls.quiet_of_same (dead_any (m + 1) m s _ ?_); exact hPd.out.drewN _)
            | (go_at_call 19; refine Calls.quiet_of_same (writes_any (m + 1) m s _ ?_); exact hPd.out.drewN _)
            | (go_at_call 20; refine Calls.quiet_of_same (blocks_any (m + 1) m s _ ?_); exact hPd.out.drewN _))
          go_wp2_with fail
          go_roundw
          case rel => exact ⟨q + 1, by omega, by omega, by go_num, _, HP7.out.drewN _⟩
          case measure => simp [intOf]; omega
        · by_cases k2 : kd = 2
          · subst k2
            clear k1
            go_wp2_with fail
            have hk1 : (wr.alloc (.cells #[.int .i64 2, .int .i64 N, .slice ak lk.length ck] 33)).cell? ⟨wr.heap.size, 1, none⟩ = some (.int .i64 N) := World.cell?_alloc_at _ _ _ _ rfl
            have hkl : wr.heap.size < (wr.alloc (.cells #[.int .i64 2, .int .i64 N, .slice ak lk.length ck] 33)).heap.size := by simp
            generalize hwc : wr.alloc (.cells #[.int .i64 2, .int .i64 N, .slice ak lk.length ck] 33) = wc at *
            generalize hcb : wr.heap.size = cb at *
            clear hwc hcb hc0 hc1 hc2
            refine (block_at ak ck lk hLk HNil.out _ HBk.out).mono ?_
            rintro e w6 ⟨a', n', c', l', rfl, hl', hn', hb', hnil', hloc', hT6⟩
            have h61 := (hT6.cell (p := ⟨cb, 1, none⟩) hkl (by simp)).trans hk1
            have hkl6 := Nat.lt_of_lt_of_le hkl hT6.size
            have HD6 := hide (HPc.out.disk.turn hT6 (by simp) (by simp))
            have HR6 := hide (HPc.out.ref.turn hT6 (by simp) (by simp) (by simp))
            have hT06 := HPc.out.turn.then hT6 (by simp)
            have HLoc : Hid (∀ x, l' ≠ [] → a' = some x → x.block < m ∨ r + 1 < x.block) := fun x h1 h2 => by
              rcases hloc' x h1 h2 with ⟨h3, h4⟩ | h3
              · have := HLtk.out x h3 h4; omega
              · omega
            have HL' := hide hl'
            have HB6 := hide hb'
            have hown : (w6.alloc (.cells #[] 5)).ownsRow w6.heap.size 5 1 (.slice (some ⟨w6.heap.size, 0, none⟩) 0 0) 0 (([] : List Nat).map byteCell) := World.ownsRow_made w6 #[] 0 (Nat.le_refl _) (Nat.zero_le _) rfl
            have HOWN := hide hown
            have HBA : Hid (BytesAt (w6.alloc (.cells #[] 5)) a' l') := hb'.turn ((Turn.refl [] _).alloc _) (by simp)
            have hgood := hide HPc.out.good
            have hkq : s.k ≤ q := hkq0
            clear hk1 hloc' hl' hb' hT6 hown HBk HPc
            go_wp2_with (at_builtin; refine append_bytes rfl _ _ rfl w6.heap.size (.slice (some ⟨w6.heap.size, 0, none⟩) 0 0) 0 [] rfl HOWN.out a' n' c' l' rfl HL'.out hnil' HBA.out (by omega) (by simp) ?_; intro v w7 hown7 hgrow7 hnil7)
            have hvn : v ≠ .slice none 0 0 := by
              intro e
              have := hnil7
              simp [e] at this
            obtain ⟨g, cg, hv, hng, hg, hgl, hbg, hfz⟩ := own_some (l := l') (by simpa using hown7) hvn
            clear hng
            rw [HL'.out] at hv
            rw [hv]
            have hT7 : Turn [] w6 w7 := ((Turn.refl [] w6).alloc _).grown hgrow7 (by intro k hk; right; simp [Value.ownBlock] at hk; omega)
            have h71 := (hT7.cell (p := ⟨cb, 1, none⟩) hkl6 (by simp)).trans h61
            have hkl7 := Nat.lt_of_lt_of_le hkl6 hT7.size
            have HD7 := hide (HD6.out.turn hT7 (by simp) (by simp))
            have HR7 : Hid (RefAt w7 (r + 1) r (fun g' => r + 1 < g' ∧ g' ≠ g) s) := (HR6.out.allow (G' := fun g' => r + 1 < g' ∧ g' ≠ g) (fun g' h1 h2 => ⟨h2, by omega⟩)).turn hT7 (by simp) (by simp) (by simp)
            have HB7 := hide (HB6.out.turn hT7 (by simp))
            have HBG := hide hbg
            have HFZ := hide hfz
            have hT07 := hT06.then hT7 (by simp)
            clear hv hown7 hgrow7 hnil7 hvn hbg hfz hT7 HOWN HBA HD6 HR6 HB6 h61 hT06
            go_wp2_with fail
            go_region_with (first
              | (go_at_call 12; refine (write_at (m + 1) m s hgood.out N (some ⟨g, 0, none⟩) cg n' l' HL'.out (by unfold maxLen; omega) _ ?_ ?_).mono ?_; exact HD7.out.drew; exact HBG.out; rintro e w8 ⟨rfl, hD8, hT8⟩; have h81 := (hT8.cell (p := ⟨cb, 1, none⟩) hkl7 (by simp; omega)).trans h71; have HD8 := hide hD8; have HR8 := hide (HR7.out.drew.turn hT8 (by simp; omega) (by simp; omega) (fun g' hg' => by simp; omega)); have HB8 := hide (BytesAt.turn (w := w7.drew) HB7.out hT8 (fun x h1 h2 => by have := HLoc.out x h1 h2; simp; omega)); have HBG8 := hide (BytesAt.turn (w := w7.drew) HBG.out hT8 (fun x h1 h2 => by obtain rfl := Option.some.inj h2; simp; omega)); have HFZ8 : Hid (∀ o, w8.frozen? ⟨g, o, none⟩ = false) := (fun o => (World.frozen?_of_block (w := w7) (a := ⟨g, o, none⟩) (hT8.block g hgl (by simp; omega))).trans (HFZ.out o)); have hz8 : w7.heap.size ≤ w8.heap.size := hT8.size; have hT08 := hT07.drew.then hT8 (by simp; omega); clear hD8 hT8)
              | (go_at_call 13; refine (refWrite_at (r + 1) r (fun g' => r + 1 < g' ∧ g' ≠ g) s hgood.out N a' c' n' l' HL'.out _ ?_ ?_ ?_ ?_).mono ?_; exact HR8.out; exact HB8.out; exact (fun x h1 h2 => by have := HLoc.out x h1 h2; omega); exact (fun g' h1 => ⟨by omega, by omega⟩); rintro e w9 ⟨rfl, hR9, hT9⟩; have HD9 := hide (HD8.out.turn hT9 (by simp; omega) (by simp; omega)); have HR9 := hide hR9; have HBG9 := hide (HBG8.out.turn hT9 (fun x h1 h2 => by obtain rfl := Option.some.inj h2; simp; omega)); have HFZ9 : Hid (∀ o, w9.frozen? ⟨g, o, none⟩ = false) := (fun o => (World.frozen?_of_block (w := w8) (a := ⟨g, o, none⟩) (hT9.block g (by omega) (by simp; omega))).trans (HFZ8.out o)); have hz9 : w8.heap.size ≤ w9.heap.size := hT9.size; have hT09 := hT08.then hT9 (by simp; omega); clear hR9 hT9))
            all_goals
              clear h71 h81 HD7 HR7 HB7 HBG HFZ HD8 HR8 HB8 HBG8 HFZ8 hT08
              go_wp2_with fail
              go_loopw [17] (fun j wr => ∃ p : Nat, p ≤ n' ∧ j = .int .i64 p ∧ ∃ l'' : List Nat, l''.length = n' ∧ BytesAt wr (some ⟨g, 0, none⟩) l'' ∧ (∀ o, wr.frozen? ⟨g, o, none⟩ = false) ∧ Turn [g] w9 wr) (fun j _ => n' - (intOf j).toNat)
              case atStart => exact ⟨0, Nat.zero_le _, rfl, l', HL'.out, HBG9.out, HFZ9.out, Turn.refl _ _⟩
              case round =>
                obtain ⟨p, hp, rfl, l'', hl'', hb'', hf'', hT''⟩ := hrel
                by_cases hpl : p < n'
                · have hcq := hb''.cell0 (i := p) (by omega)
                  have hfq := hf'' p
                  have HB'' := hide hb''
                  have HF'' := hide hf''
                  clear hb'' hf''
                  go_wp2_with fail
                  go_roundw
                  case rel =>
                    refine ⟨p + 1, by omega, by go_num, l''.set p 238, by rw [List.length_set, hl''], HB''.out.set p (by omega) 238, fun o => ?_, hT''.setCell (by simp) _ _⟩
                    rw [World.frozen?_setCell]; exact HF''.out o
                  case measure => simp [intOf]; omega
                · have HPx : Hid (PlayAt w wr m r (q + 1) (s.write N l')) := ⟨HD9.out.turn hT'' (by simp; omega) (by simp; omega), (HR9.out.turn hT'' (by simp; omega) (by simp; omega) (fun g' hg' => by simp; omega)).allow (fun g' _ hg' => hg'.1), hgood.out.write N l' (by omega), by have := s.write_k N l'; omega, hT09.then hT'' (by simp; omega)⟩
                  clear hb'' hf'' hT'' HD9 HR9 HBG9 HFZ9 hT09
                  have hPd := hide HPx.out.disk
                  have h130 := HPx.out.ref.c0
                  have h132 := HPx.out.ref.c2
                  have h134 := HPx.out.ref.c4
                  go_wp2_with fail
                  go_quiet (first
                    | (go_at_call 18; refine Calls.quiet_of_same (dead_any (m + 1) m (s.write N l') _ ?_); exact hPd.out.drewN _)
                    | (go_at_call 19; refine Calls.quiet_of_same (writes_any (m + 1) m (s.write N l') _ ?_); exact hPd.out.drewN _)
                    | (go_at_call 20; refine Calls.quiet_of_same (blocks_any (m + 1) m (s.write N l') _ ?_); exact hPd.out.drewN _))
                  go_wp2_with fail
                  go_roundw
                  case rel => exact ⟨q + 1, by omega, by omega, by go_num, _, HPx.out.drewN _⟩
                  case measure => simp [intOf]; omega
          · by_cases k3 : kd = 3
            · subst k3
              clear k1 k2
              go_wp2_with fail
              have hk1 : (wr.alloc (.cells #[.int .i64 3, .int .i64 N, .slice ak lk.length ck] 33)).cell? ⟨wr.heap.size, 1, none⟩ = some (.int .i64 N) := World.cell?_alloc_at _ _ _ _ rfl
              have hkl : wr.heap.size < (wr.alloc (.cells #[.int .i64 3, .int .i64 N, .slice ak lk.length ck] 33)).heap.size := by simp
              generalize hwc : wr.alloc (.cells #[.int .i64 3, .int .i64 N, .slice ak lk.length ck] 33) = wc at *
              generalize hcb : wr.heap.size = cb at *
              clear hwc hcb hc0 hc1 hc2
              refine (cut_any _ _ _ N hN _ HPc.out.disk).mono ?_
              rintro e w6 ⟨rfl, hD6, hT6⟩
              have h61 := (hT6.cell (p := ⟨cb, 1, none⟩) hkl (by simp; omega)).trans hk1
              have HD6 := hide hD6
              have HR6 := hide (HPc.out.ref.turn hT6 (by simp; omega) (by simp; omega) (fun g hg => by simp; omega))
              clear hD6 hk1
              go_wp2_with fail
              refine (refCut_any _ _ _ _ N _ HR6.out).mono ?_
              rintro e w7 ⟨rfl, hR7, hT7⟩
              have HP7 : Hid (PlayAt w w7 m r (q + 1) (s.cut N)) := ⟨HD6.out.turn hT7 (by simp; omega) (by simp; omega), hR7, HPc.out.good.cut hN, HPc.out.k, (HPc.out.turn.then hT6 (by simp; omega)).then hT7 (by simp; omega)⟩
              clear hR7 hT6 hT7 HD6 HR6 HPc
              have hPd := hide HP7.out.disk
              have h130 := HP7.out.ref.c0
              have h132 := HP7.out.ref.c2
              have h134 := HP7.out.ref.c4
              go_wp2_with fail
              go_quiet (first
                | (go_at_call 18; refine Calls.quiet_of_same (dead_any (m + 1) m (s.cut N) _ ?_); exact hPd.out.drewN _)
                | (go_at_call 19; refine Calls.quiet_of_same (writes_any (m + 1) m (s.cut N) _ ?_); exact hPd.out.drewN _)
                | (go_at_call 20; refine Calls.quiet_of_same (blocks_any (m + 1) m (s.cut N) _ ?_); exact hPd.out.drewN _))
              go_wp2_with fail
              go_roundw
              case rel => exact ⟨q + 1, by omega, by omega, by go_num, _, HP7.out.drewN _⟩
              case measure => simp [intOf]; omega
            · by_cases k4 : kd = 4
              · subst k4
                clear k1 k2 k3
                go_wp2_with fail
                generalize hwc : wr.alloc (.cells #[.int .i64 4, .int .i64 N, .slice ak lk.length ck] 33) = wc at *
                clear hwc hc0 hc1 hc2
                refine (start_any _ _ _ _ HPc.out.disk).mono ?_
                rintro e w6 ⟨rfl, hD6, hT6⟩
                have HD6 := hide hD6
                have HR6 := hide (HPc.out.ref.turn hT6 (by simp; omega) (by simp; omega) (fun g hg => by simp; omega))
                clear hD6
                go_wp2_with fail
                refine (refStart_any _ _ _ _ _ HR6.out).mono ?_
                rintro e w7 ⟨rfl, hR7, hT7⟩
                have HP7 : Hid (PlayAt w w7 m r (q + 1) s.start) := ⟨HD6.out.turn hT7 (by simp; omega) (by simp; omega), hR7, HPc.out.good.start, HPc.out.k, (HPc.out.turn.then hT6 (by simp; omega)).then hT7 (by simp; omega)⟩
                clear hR7 hT6 hT7 HD6 HR6 HPc
                have hPd := hide HP7.out.disk
                have h130 := HP7.out.ref.c0
                have h132 := HP7.out.ref.c2
                have h134 := HP7.out.ref.c4
                go_wp2_with fail
                go_quiet (first
                  | (go_at_call 18; refine Calls.quiet_of_same (dead_any (m + 1) m s.start _ ?_); exact hPd.out.drewN _)
                  | (go_at_call 19; refine Calls.quiet_of_same (writes_any (m + 1) m s.start _ ?_); exact hPd.out.drewN _)
                  | (go_at_call 20; refine Calls.quiet_of_same (blocks_any (m + 1) m s.start _ ?_); exact hPd.out.drewN _))
                go_wp2_with fail
                go_roundw
                case rel => exact ⟨q + 1, by omega, by omega, by go_num, _, HP7.out.drewN _⟩
                case measure => simp [intOf]; omega
              · have t1 : (kd == 1) = false := by rw [beq_eq_false_iff_ne]; exact k1
                have t2 : (kd == 2) = false := by rw [beq_eq_false_iff_ne]; exact k2
                have t3 : (kd == 3) = false := by rw [beq_eq_false_iff_ne]; exact k3
                have t4 : (kd == 4) = false := by rw [beq_eq_false_iff_ne]; exact k4
                clear k1 k2 k3 k4
                go_wp2_with fail
                generalize hwc : wr.alloc (.cells #[.int .i64 kd, .int .i64 N, .slice ak lk.length ck] 33) = wc at *
                clear hwc hc0 hc1 hc2
                have hPd := hide HPc.out.disk
                have h130 := HPc.out.ref.c0
                have h132 := HPc.out.ref.c2
                have h134 := HPc.out.ref.c4
                go_wp2_with fail
                go_quiet (first
                  | (go_at_call 18; refine Calls.quiet_of_same (dead_any (m + 1) m s _ ?_); exact hPd.out.drewN _)
                  | (go_at_call 19; refine Calls.quiet_of_same (writes_any (m + 1) m s _ ?_); exact hPd.out.drewN _)
                  | (go_at_call 20; refine Calls.quiet_of_same (blocks_any (m + 1) m s _ ?_); exact hPd.out.drewN _))
                go_wp2_with fail
                go_roundw
                case rel => exact ⟨q + 1, by omega, by omega, by go_num, _, HPc.out.drewN _⟩
                case measure => simp [intOf]; omega
      · obtain rfl : q = 100 := by omega
        go_wp2_with fail
        go_ret
        exact ⟨rfl, hTr⟩
    · obtain rfl : q = n0 := by omega
      go_wp2_with fail
      go_ret
      exact ⟨rfl, hTr⟩

end Go.Proofs.Ytihilllhdiodgaa

/-
  write, walked, of a branch; write of any place.
  take, walked: the node of a place that is the tree's no more, whatever it is.
  take, as a tree with its memory and what it drops has it.
  isShort, walked: whether a node is to be joined with its neighbour.
  placed, as a tree with its memory has it: one new place, or two.
  placed, where the node is longer than a page: both halves have places.
  join, whatever the nodes are: their entries behind one another in a new row.
  What settled works on: a branch of the tree's and a node that stands in one entry's stead.
  placed, of any node that is not empty.
-/
import Derived.Test.YthehkckdecckhaaGreatDoorU41
import Derived.Deep.RegionLawGrows
import Derived.Test.YthehkckdecckhaaGreatDoorU33
import Derived.Test.YthehkckdecckhaaGreatDoorU03

namespace Go.Proofs.YthehkckdecckhaaGreatDoor
open Go.RowKit Go.Maps

theorem WRow.quiet {w w' w'' : World} {O : Nat → Prop} {t p b m sm rb : Nat} {s : St} {q : Pg} {Dn S : Stt} {D : Dk} {G : Gh} {Rw : Nat → Prop} {h : Nat} {ks : List (ByteArray × Nat)} {l : List (En (h + 1))} {i : Nat} {done : List (En (h + 1))} {ns : List Nat} {s' : St} {q' : Pg} {D' : Dk} {G' : Gh} (hr : WRow w w' O t p b m sm rb s q Dn S D G Rw h ks l i done ns s' q' D' G') (hT : Turn [] w' w'') : WRow w w'' O t p b m sm rb s q Dn S D G Rw h ks l i done ns s' q' D' G' := by
  obtain ⟨X, hX, hX1⟩ := hr.turn
  exact { hr with tm := hr.tm.quiet hT, turn := ⟨X, hX.then hT (by simp), hX1⟩ }
theorem WRow.row {w w' : World} {O : Nat → Prop} {t p b m sm rb : Nat} {s : St} {q : Pg} {Dn S : Stt} {D : Dk} {G : Gh} {Rw : Nat → Prop} {h : Nat} {ks : List (ByteArray × Nat)} {l : List (En (h + 1))} {i : Nat} {done : List (En (h + 1))} {ns : List Nat} {s' : St} {q' : Pg} {D' : Dk} {G' : Gh} (hr : WRow w w' O t p b m sm rb s q Dn S D G Rw h ks l i done ns s' q' D' G') (h1 : TM w O t p b m sm rb s q Dn S D G Rw) {y : Nat} (hy : Rw y) : w'.heap[y]? = w.heap[y]? := by
  obtain ⟨X, hX, hX1⟩ := hr.turn
  refine hX.block y (h1.mem.rows y hy) fun hm => ?_
  have := not7 (h1.own y (.inr hy)).1
  rcases hX1 y hm with e | e | e | e | e
  · exact this.2.1 e
  · exact this.2.2.1 e
  · exact this.2.2.2.1 e
  · exact this.2.2.2.2.1 e
  · exact e (h1.mem.apart y hy)

/-- All kids are written. -/
theorem WRow.whole {w w' : World} {O : Nat → Prop} {t p b m sm rb : Nat} {s : St} {q : Pg} {Dn S : Stt} {D : Dk} {G : Gh} {Rw : Nat → Prop} {h a : Nat} {P : Pl} {ks : List (ByteArray × Nat)} {l : List (En (h + 1))} {done : List (En (h + 1))} {ns : List Nat} {s' : St} {q' : Pg} {D' : Dk} {G' : Gh} (hr : WRow w w' O t p b m sm rb s q Dn S D G Rw h ks l ks.length done ns s' q' D' G') (hb : Both (KidIs G (Means G D h)) ks l) (hP : G a = some P) (hlv : P.lvl = h + 1 + 1) (hn : P.nd = some (.inr ks)) (hw : WIn s q l 0) :
    LikeN l done ∧ NodeIs G' D' (h + 1) (.inr ks) done ∧ KidsOn D' (h + 1) done ∧ G' a = some P ∧ PageFit done ∧ Wrt G G' (fun x => Und G (h + 1) a x) ∧ (pagesN done).Perm ((pagesN l).filter (fun x => decide (x ≠ 0)) ++ ns) ∧ ns.length = (pagesN l).count 0 ∧ 0 < q'.left s'.n ∧ q'.u ≤ 900000 ∧ s'.k ≤ 900000 := by
  have hlen := hb.length
  have h1 := hr.like
  have h2 := hr.both
  have h3 := hr.pages
  have h4 := hr.cnt
  rw [hlen] at h1 h2 h3 h4
  rw [List.take_length] at h1 h3 h4
  rw [List.drop_length, List.append_nil] at h2
  have hk : KidsOn D' (h + 1) done := hr.disk
  have hf : ∀ e ∈ done, FullE e := both_all (fun _ _ h k => LikeE.full h k) h1 hw.full
  have hll := Both.length h1
  have hA := hr.als.is
  have hone : (pagesAt 0 l).count 0 = 1 + (pagesN l).count 0 := by
    show (0 :: pagesN l).count 0 = _
    rw [List.count_cons]
    simp
    omega
  have g1 := hA.left
  have g2 := hA.u
  have g3 := hr.k
  have g4 := hw.room
  have g5 := hw.u
  have g6 := hw.k
  refine ⟨h1, ⟨ks, rfl, h2⟩, hk, ?_, pagefit_of hr.tm.dk (by have := hr.tm.pa.laid.n16; omega) hf (by have := hw.some; omega) (by rw [← h1.size]; exact hw.size) hw.hh hk, hr.wrt.wide (fun x hx => ?_), h3, h4, by rw [hr.n]; omega, by omega, by omega⟩
  · refine (hr.wrt.same a fun hx => ?_).trans hP
    obtain ⟨k, hkk, hu⟩ := hx
    obtain ⟨e, _, hx⟩ := hb.left k hkk
    obtain ⟨Q, q1, q2⟩ := Und.lvl hx.2.2 hu
    rw [hP] at q1
    obtain rfl := Option.some.inj q1
    omega
  · obtain ⟨k, hkk, hu⟩ := hx
    exact Und.kid hP hn hkk hu

set_option maxRecDepth 100000 in
set_option maxHeartbeats 6400000 in
theorem tm_write_branch {O : Nat → Prop} {t p b m sm rb : Nat} {Dn S : Stt} {Rw : Nat → Prop} {hh : Nat}
    (IH : ∀ (w : World) (s : St) (q : Pg) (D : Dk) (G : Gh) (a : Nat) (l : List (En hh)) (P : Pl), TM w O t p b m sm rb s q Dn S D G Rw → Means G D hh a l → G a = some P → WIn s q l P.pg → Calls Tryz.prog 46 #[.pointer (some ⟨t, 0, none⟩), .pointer (some ⟨a, 0, none⟩)] w fun e w' => e = .returned (.int .i64 0) ∧ WOut w w' O t p b m sm rb s q Dn S D G Rw hh a l P.pg)
    {w : World} {s : St} {q : Pg} {D : Dk} {G : Gh} (h : TM w O t p b m sm rb s q Dn S D G Rw) {a : Nat} {l : List (En (hh + 1))} {P : Pl} (hm : Means G D (hh + 1) a l) (hP : G a = some P) (h0 : P.pg = 0) (hw : WIn s q l 0) :
    Calls Tryz.prog 46 #[.pointer (some ⟨t, 0, none⟩), .pointer (some ⟨a, 0, none⟩)] w fun e w' => e = .returned (.int .i64 0) ∧ WOut w w' O t p b m sm rb s q Dn S D G Rw (hh + 1) a l 0 := by
  obtain ⟨P', h1, hlv, h3, h4, h5⟩ := hm.out
  obtain rfl : P = P' := by rw [hP] at h1; exact Option.some.inj h1
  cases hnd : P.nd with
  | none => exact absurd h0 (h4 hnd)
  | some nd =>
    obtain ⟨ks, rfl, hb⟩ := h5 nd hnd
    have hc0 : w.cell? ⟨a, 0, none⟩ = some (.int .i64 0) := by
      have := h.mem.at_ a P hP
      unfold PlOk at this
      rw [hnd] at this
      obtain ⟨_, _, _, _, hp, _⟩ := this
      have h7 := hp.c0
      rw [h0] at h7
      exact h7
    have hta := ta_bb
    have HN := hide (tm_node_some h hP hnd)
    have HH := hide (show G a = some P ∧ P.lvl = hh + 1 + 1 ∧ P.nd = some (.inr ks) ∧ Both (KidIs G (Means G D hh)) ks l ∧ WIn s q l 0 from ⟨hP, hlv, hnd, hb, hw⟩)
    have HIH := hide IH
    have hal := lt_of_cell hc0
    have hkn : ks.length ≤ 300 := by
      have := hb.length
      have := len_size l
      have := hw.size
      omega
    clear hm hP h0 hlv hnd hw h1 h3 h4 h5 h hb IH
    go_enter Tryz.func46, Tryz.ntmps46
    go_wp2_with fail
    with_reducible refine HN.out.mono ?_
    rintro e w1 ⟨T, v, rfl, hN, hTM, hS⟩
    rw [HH.out.2.1] at hN
    have HNd := hide hN
    obtain ⟨_, rfl, bb, off, cap, rfl, hK, hcap, hRb, _⟩ := hN
    have HTM := hide hTM
    have HS := hide hS
    have HK := hide hK
    have HRb := hide hRb
    have HNa := hide (not7 (hTM.own a (.inl (by rw [HH.out.1]; simp))).1)
    have hs1 := hS.size
    have hbl := hTM.mem.rows bb hRb
    clear hTM hS HN hK hRb
    go_wp2_with fail
    go_loopw [9, 10, 33] (fun _ _ i wr => ∃ (j : Nat) (done : List (En (hh + 1))) (ns : List Nat) (s' : St) (q' : Pg) (D' : Dk) (G' : Gh), j ≤ ks.length ∧ i = .int .i64 (j : Nat) ∧ Hid (WRow w1 wr O t p b m sm rb s q Dn S D G Rw hh ks l j done ns s' q' D' G')) (fun _ _ i _ => ks.length - (intOf i).toNat)
    case atStart => exact ⟨0, [], [], s, q, D, G, Nat.zero_le _, rfl, wrow_start HTM.out HH.out.2.2.2.1 HH.out.2.2.2.2.left⟩
    case round =>
      obtain ⟨j, done, ns, s', q', D', G', hj, rfl, HR⟩ := hrel
      have hbr := HR.out.row HTM.out HRb.out
      have hsr := HR.out.tm.lts t (by simp)
      by_cases hlt : j < ks.length
      · have hKr : KidsAt wr (some ⟨bb, off, none⟩) ks := by
          obtain ⟨X, hX, _⟩ := HR.out.turn
          refine .inr ⟨bb, off, rfl, fun i hi => ?_⟩
          obtain ⟨b', off', e, k1, k2⟩ := HK.out.at hi
          injection e with e
          injection e with e1 e2
          subst e1 e2
          exact ⟨(World.cell?_of_block (a := ⟨bb, off + i * 2, none⟩) hbr).trans k1, (World.cell?_of_block (a := ⟨bb, off + i * 2 + 1, none⟩) hbr).trans k2⟩
        obtain ⟨b', off', e, hk0, hk1⟩ := hKr.at hlt
        obtain ⟨rfl, rfl⟩ : bb = b' ∧ off = off' := by injection e with e; injection e with e1 e2; exact ⟨e1, e2⟩
        have hTa : Turn [] wr (wr.alloc (.cells #[.string ks[j].1, .pointer (some ⟨ks[j].2, 0, none⟩)] 122)) := (Turn.refl [] wr).alloc _
        have hlen := HH.out.2.2.2.1.length
        have hjl : j < l.length := by omega
        have hRa := HR.out.quiet hTa
        have hkid := hRa.both.get j hlt (by have := hRa.both.length; omega)
        have hej : (done ++ l.drop j)[j]'(by have := hRa.both.length; omega) = l[j] := by
          rw [List.getElem_append_right (by rw [hRa.len]; exact Nat.le_refl _)]
          simp [hRa.len]
        rw [hej] at hkid
        obtain ⟨q0, ⟨Q, q1, q2⟩, q3⟩ := hkid
        have HC := hide (HIH.out _ s' q' D' G' ks[j].2 (kidsOf l[j]) Q hRa.tm q3 q1 (by rw [q2]; exact hRa.win HH.out.2.2.2.2 hjl))
        have HNx := hide (fun (w2 : World) (ho : WOut (wr.alloc (.cells #[.string ks[j].1, .pointer (some ⟨ks[j].2, 0, none⟩)] 122)) w2 O t p b m sm rb s' q' Dn S D' G' Rw hh ks[j].2 (kidsOf l[j]) Q.pg) => hRa.next HH.out.2.2.2.2 hjl hlt (by rw [← q2]; exact ho))
        clear hKr e hTa hlen hRa hej q0 q1 q2 q3
        generalize ks[j] = kk at *
        go_wp2_with fail
        with_reducible refine HC.out.mono ?_
        rintro e w2 ⟨rfl, hO2⟩
        obtain ⟨done2, ns2, s2, q2, D2, G2, hR2⟩ := HNx.out w2 hO2
        have HR2 := hide hR2
        clear hO2 hR2 HC HNx
        go_wp2_with fail
        go_roundw
        case rel => exact ⟨j + 1, done2, ns2, s2, q2, D2, G2, by omega, by go_num, HR2⟩
        case measure => simp [intOf]; omega
      · obtain rfl : j = ks.length := by omega
        obtain ⟨hP, hlv, hnd, hb, hw⟩ := HH.out
        obtain ⟨g1, g2, g3, g4, g5, g6, g7, g8, g9, g10, g11⟩ := HR.out.whole hb hP hlv hnd hw
        have hNr := HNd.out.keep (w' := wr) (Rw' := Rw) (G' := G') (fun y hy => HR.out.row HTM.out hy) (fun _ h => h) (fun x Q hQ => by
          obtain ⟨n, hx⟩ := HR.out.wrt.some_ x Q hQ
          exact ⟨_, hx, rfl⟩)
        obtain ⟨n2, HCe, HAl⟩ := write_enc (lv := hh + 1 + 1) HR.out.tm hNr g2 g5 g9 g10 g11 HR.out.left rfl
        have HG := hide (show LikeN l done ∧ NodeIs G' D' (hh + 1) (.inr ks) done ∧ KidsOn D' (hh + 1) done ∧ G' a = some P ∧ PageFit done ∧ Wrt G G' (fun x => Und G (hh + 1) a x) ∧ (pagesN done).Perm ((pagesN l).filter (fun x => decide (x ≠ 0)) ++ ns) ∧ ns.length = (pagesN l).count 0 from ⟨g1, g2, g3, g4, g5, g6, g7, g8⟩)
        obtain ⟨lv, hlv2⟩ : ∃ lv, lv = hh + 1 + 1 := ⟨_, rfl⟩
        have h11 : wr.cell? ⟨a, 1, none⟩ = some (.int .i64 (lv : Nat)) := by
          have := HR.out.tm.mem.at_ a P g4
          unfold PlOk at this
          rw [hnd] at this
          obtain ⟨_, _, _, _, hp, _⟩ := this
          rw [hp.c1, hlv, hlv2]
        have hp0 := HR.out.tm.tr.c0
        have hal2 := lt_of_cell h11
        rw [← hlv2] at HCe
        have HKn : Hid (ks.length ≤ 300) := hkn
        clear hP hlv hnd hb hw g1 g2 g3 g4 g5 g6 g7 g8 g9 g10 g11 hNr hlv2 hbr
        go_wp2_with fail
        go_region_with (first
          | (go_at_call 68; refine HCe.out.mono ?_; rintro e w2 ⟨a2, c2, rfl, hB2, hx2, hT2⟩; have hp2 := (HR.out.tm.tr.turn hT2 (by simp)).c0; have HB2 := hide hB2; have HX2 := hide hx2; have HT2 := hide hT2; clear hT2 hB2 hx2)
          | (go_at_call 67; refine (HAl.out w2 a2 c2 HT2.out HB2.out HX2.out).mono ?_; rintro e w3 ⟨k, rfl, hNx, hA3, hT3⟩; have HNx := hide hNx; have HA3 := hide hA3; have HT3 := hide hT3; clear hNx hA3 hT3))
        all_goals
          obtain ⟨hP, hlv, hnd, hb, hw⟩ := HH.out
          obtain ⟨g1, g2, g3, g4, g5, g6, g7, g8⟩ := HG.out
          have hT13 : Turn [p, b, m, sm] wr w3 := (HT2.out.mono (T := [p, b, m, sm]) (by simp)).trans HT3.out
          have hL := tm_lay HR.out.tm g4 hnd hlv g2 g5 g3 HNx.out HA3.out hT13
          have hc3 : w3.cell? ⟨a, 0, none⟩ ≠ none ∧ w3.frozen? ⟨a, 0, none⟩ = false := by
            have := HR.out.tm.mem.at_ a P g4
            unfold PlOk at this
            rw [hnd] at this
            obtain ⟨_, _, _, _, hp, _⟩ := this
            have hp3 := hp.turn hT13 (by simp; exact ⟨HNa.out.2.1, HNa.out.2.2.1, HNa.out.2.2.2.1, HNa.out.2.2.2.2.1⟩)
            exact ⟨by rw [hp3.c0]; simp, hp3.fz 0⟩
          obtain ⟨x3, hx3⟩ := Option.ne_none_iff_exists'.1 hc3.1
          have hz3 := hc3.2
          have HFin := hide (wout_of g1 g6 HR.out.more g7 g8 HR.out.als HR.out.k HR.out.n (by
            obtain ⟨X, hX, hX1⟩ := HS.out.turn
            obtain ⟨Y, hY, hY1⟩ := HR.out.turn
            exact ⟨X ++ Y, (hX.mono (by intro x hx; simp [hx])).trans (hY.mono (by intro x hx; simp [hx])), fun x hx => (List.mem_append.1 hx).elim (fun h => (hX1 x h).imp id (fun h => .inr (.inr (.inr h)))) (hY1 x)⟩) g4 HNx.out (show (s'.did k (bytesOf 512 (pageB (encN done)))).k = s'.k + 1 from rfl) rfl (did_left HR.out.left) rfl hL)
          clear hP hlv hnd hb hw g1 g2 g3 g4 g5 g6 g7 g8 hL hc3 hT13
          go_wp2_with fail
          go_ret
          exact ⟨rfl, HFin.out⟩

set_option maxRecDepth 100000 in
set_option maxHeartbeats 800000 in
/-- write of a place that has its page. -/
theorem tm_write_laid {w : World} {O : Nat → Prop} {t p b m sm rb : Nat} {s : St} {q : Pg} {Dn S : Stt} {D : Dk} {G : Gh} {Rw : Nat → Prop} (h : TM w O t p b m sm rb s q Dn S D G Rw) {hh a : Nat} {l : List (En hh)} {P : Pl} (hm : Means G D hh a l) (hP : G a = some P) (h0 : P.pg ≠ 0) (hl : s.left < 0) :
    Calls Tryz.prog 46 #[.pointer (some ⟨t, 0, none⟩), .pointer (some ⟨a, 0, none⟩)] w fun e w' => e = .returned (.int .i64 0) ∧ WOut w w' O t p b m sm rb s q Dn S D G Rw hh a l P.pg := by
  have HW := hide (wout_laid h hm hP h0 hl)
  have hc0 : w.cell? ⟨a, 0, none⟩ = some (.int .i64 (P.pg : Nat)) := by
    have := h.mem.at_ a P hP
    unfold PlOk at this
    split at this
    · exact this.c0
    · obtain ⟨_, _, _, _, hp, _⟩ := this
      exact hp.c0
  have hpz : ((P.pg : Int) == 0) = false := by rw [beq_eq_false_iff_ne]; omega
  clear hm hP hl h
  generalize P.pg = pg at *
  go_enter Tryz.func46, Tryz.ntmps46
  go_wp2_with fail
  go_ret
  exact ⟨rfl, HW.out⟩

/-- write of any place. -/
theorem tm_write {O : Nat → Prop} {t p b m sm rb : Nat} {Dn S : Stt} {Rw : Nat → Prop} : ∀ (hh : Nat) (w : World) (s : St) (q : Pg) (D : Dk) (G : Gh) (a : Nat) (l : List (En hh)) (P : Pl), TM w O t p b m sm rb s q Dn S D G Rw → Means G D hh a l → G a = some P → WIn s q l P.pg → Calls Tryz.prog 46 #[.pointer (some ⟨t, 0, none⟩), .pointer (some ⟨a, 0, none⟩)] w fun e w' => e = .returned (.int .i64 0) ∧ WOut w w' O t p b m sm rb s q Dn S D G Rw hh a l P.pg := by
  intro hh
  induction hh with
  | zero =>
    intro w s q D G a l P h hm hP hw
    by_cases h0 : P.pg = 0
    · rw [h0] at hw ⊢
      exact tm_write_leaf h hm hP h0 hw
    · exact tm_write_laid h hm hP h0 hw.left
  | succ hh ih =>
    intro w s q D G a l P h hm hP hw
    by_cases h0 : P.pg = 0
    · rw [h0] at hw ⊢
      exact tm_write_branch ih h hm hP h0 hw
    · exact tm_write_laid h hm hP h0 hw.left

end Go.Proofs.YthehkckdecckhaaGreatDoor

namespace Go.Proofs.YthehkckdecckhaaGreatDoor
open Go.RowKit Go.Maps

/-- An append to a row of the call's own, in a region that draws. -/
theorem step_append_own {P : Program} {ops : Array Oper} {o : Oper} {a : Act} {w : World} {K : Act → World → Prop} {Q : Exit → Act → World → Prop} {E : Prop}
    (hg : o.guard = none) (s x : Operand) (t : TypeId) (ho : o.op = .call { callee := .builtin .append, args := #[s, x], argTypes := #[t, t] })
    (base : Nat) (e : TypeId) (i : TypeInfo) (z : Value) (size bytes : Nat) (ht : P.underlying t = some (.slice e)) (hi : P.info? e = some i) (hz : i.zero = some z) (hsize : i.size = size) (hby : i.bytes = bytes) (hzs : z.cells.size = size) (hsz : 0 < size)
    (v : Value) (n : Nat) (xs : List Value) (hs : a.eval s = v) (hown : w.ownsRow base e size v n xs)
    (ad : Addr) (m c : Nat) (news : List Value) (hx : a.eval x = .slice (some ad) m c) (hl : news.length = m * size) (hnews : ∀ j u, news[j]? = some u → w.cell? (ad.add j) = some u) (h1 : ∀ u ∈ news, u.oneCell' = true)
    (h63 : n + m ≤ maxLen) (hbytes : (n + m) * bytes ≤ 140737488355328) (hbase : base ≤ w.heap.size)
    (hK : ∀ v' w', w'.ownsRow base e size v' (n + m) (xs ++ news) → w.grownBy w' v.ownBlock → (v'.ownBlock = v.ownBlock ∨ v'.ownBlock = some w.heap.size) → K (a.put o.dst v') w') :
    if Region.wanted o (yielded ops a.tmps) = true then Oper.wp P o a w K Q else E := by
  have hw : Region.wanted o (yielded ops a.tmps) = true := by simp [Region.wanted, hg]
  rw [if_pos hw]
  obtain ⟨v', w', hr, h2, h3, h4, h5⟩ := run_append_own_at (P := P) w base t o.type e i z size bytes ht hi hz hsize hby hzs hsz v n xs hown ad m c news hl hnews h1 h63 hbytes hbase
  unfold Oper.wp execOp
  simp only [ho, resolve, invoke, builtin, Sem.run_bind, Sem.run_pure, Result.andThen_ok, List.map_toArray, List.map_cons, List.map_nil, hs, hx, hr]
  exact hK _ _ h2 h3 h5

/-- Numbers of pages, as cells. -/
def pgV (l : List Nat) : List Value := l.map fun x => .int .i64 (x : Nat)
/-- The row of pages that are dropped. -/
def DropAt (w : World) (v : Value) (l : List Nat) : Prop := w.ownsRow 0 3 1 v l.length (pgV l)

set_option maxRecDepth 100000 in
set_option maxHeartbeats 4000000 in
theorem take_gen (t p a pg : Nat) (Dn S : Stt) (ds : List Nat) (w : World) (R : TypeId → Value → World → Prop) (hds : ds.length ≤ 100000) (hfr : S.fresh ≤ 100000 ∧ (pg = 0 → 1 ≤ S.fresh))
    (hN : Calls Tryz.prog 62 #[.pointer (some ⟨t, 0, none⟩), .pointer (some ⟨a, 0, none⟩)] w fun e w1 => ∃ T v, e = .returned (.iface T v) ∧ R T v w1 ∧ TreeAt w1 t p Dn S ∧ w1.cell? ⟨a, 0, none⟩ = some (.int .i64 (pg : Nat)) ∧ DropAt w1 S.dropped ds ∧ S.dropped.ownBlock ≠ some t) :
    Calls Tryz.prog 88 #[.pointer (some ⟨t, 0, none⟩), .pointer (some ⟨a, 0, none⟩)] w fun e w' => ∃ T v w1, e = .returned (.iface T v) ∧ R T v w1 ∧
      ((pg = 0 ∧ TreeAt w' t p Dn { S with fresh := S.fresh - 1 } ∧ DropAt w' S.dropped ds ∧ Turn [t] w1 w') ∨
       (pg ≠ 0 ∧ ∃ dv, TreeAt w' t p Dn { S with dropped := dv } ∧ DropAt w' dv (ds ++ [pg]) ∧ (dv.ownBlock = S.dropped.ownBlock ∨ ∃ g, dv.ownBlock = some g ∧ w1.heap.size ≤ g) ∧ ∃ X, Turn X w1 w' ∧ ∀ x ∈ X, x = t ∨ S.dropped.ownBlock = some x)) := by
  have HN := hide hN
  clear hN
  by_cases hpg : pg = 0
  · subst hpg
    have hf1 := hfr.2 rfl
    have hf2 := hfr.1
    clear hfr
    go_enter Tryz.func88, Tryz.ntmps88
    go_wp2_with fail
    refine HN.out.mono ?_
    rintro e w1 ⟨T, v, rfl, hR, hTr, h0, hD, hdt⟩
    have HR := hide hR
    have HTr := hide hTr
    have HD := hide hD
    have h9 := hTr.now.c3
    have f9 := hTr.fz 9
    have HDt := hide hdt
    clear hR hTr hD hdt HN
    go_wp2_with fail
    go_ret
    have hT2 := HTr.out.setFresh (S.fresh - 1)
    rw [show ((S.fresh - 1 : Nat) : Int) = (S.fresh : Int) - 1 by omega] at hT2
    have hTt : Turn [t] w1 (w1.setCell ⟨t, 9, none⟩ (.int .i64 ((S.fresh : Int) - 1))) := (Turn.refl [t] w1).setCell (List.mem_singleton.2 rfl) 9 _
    exact ⟨T, v, w1, rfl, HR.out, .inl ⟨(by first | trivial | rfl), hT2, own_turn HD.out hTt (fun g hg hm => HDt.out (by rw [hg, List.mem_singleton.1 hm])), hTt⟩⟩
  · have hpz : ((pg : Int) == 0) = false := by rw [beq_eq_false_iff_ne]; omega
    clear hfr
    go_enter Tryz.func88, Tryz.ntmps88
    go_wp2_with fail
    refine HN.out.mono ?_
    rintro e w1 ⟨T, v, rfl, hR, hTr, h0, hD, hdt⟩
    have HR := hide hR
    have HTr := hide hTr
    have h10 := hTr.now.c4
    have f10 := hTr.fz 10
    have htl := hTr.lt
    obtain ⟨da, dc, hdv⟩ := own_form hD
    rw [hdv] at h10
    have HD := hide hD
    have HDt := hide hdt
    have HDv := hide hdv
    clear hR hTr hD hdt HN hdv
    obtain ⟨i0, hi, hz0, hz1, hz2⟩ := info_parts info3
    have HD2 : Hid ((w1.alloc (.cells #[.int .i64 (pg : Nat)] 3)).drew.ownsRow 0 3 1 (.slice da ds.length dc) ds.length (pgV ds)) := by
      have h := own_turn HD.out (((Turn.refl [] w1).alloc (.cells #[.int .i64 (pg : Nat)] 3)).drew) (by simp)
      rw [HDv.out] at h
      exact h
    go_wp2_with fail
    go_region_law (refine step_append_own rfl (.tmp 14) (.tmp 19) 54 rfl 0 3 i0 (.int .i64 0) 1 8 Tryz.underlying54 hi hz0 hz1 hz2 rfl (by decide) (.slice da ds.length dc) ds.length (pgV ds) (by simp [Act.eval]) HD2.out ⟨w1.heap.size, 0, none⟩ 1 1 [.int .i64 (pg : Nat)] (by simp [Act.eval]) rfl (by exact one_src w1 _ _) (by simp [Value.oneCell']) (by unfold maxLen; omega) (by omega) (by omega) ?_; intro v' w6 h1 h2 h3; obtain ⟨av, cv, rfl⟩ := own_form h1; have hb6 : w6.heap[t]? = w1.heap[t]? := (h2.block t (by simp; omega) (fun e => HDt.out (by rw [HDv.out]; exact e.symm))).trans (((Turn.refl [] w1).alloc (.cells #[.int .i64 (pg : Nat)] 3)).block t htl (by simp)); have h106 := (World.cell?_of_block (a := ⟨t, 10, none⟩) hb6).trans h10; have f106 := (World.frozen?_of_block (a := ⟨t, 10, none⟩) hb6).trans f10; have Hb6 := hide hb6; have HR6 := hide h1; have HG6 := hide h2; have HB6 := hide h3; clear h1 h2 h3 hb6)
    all_goals
      go_wp2_with fail
      go_ret
      have hW : Turn [] w1 ((w1.alloc (.cells #[.int .i64 (pg : Nat)] 3)).drew) := ((Turn.refl [] w1).alloc _).drew
      have hTX : ∃ X, Turn X w1 w6 ∧ ∀ x ∈ X, S.dropped.ownBlock = some x := by
        rw [HDv.out]
        cases hb : (Value.slice da ds.length dc).ownBlock with
        | none => exact ⟨[], hW.grown HG6.out (by rw [hb]; intro k hk; cases hk), by simp⟩
        | some g => exact ⟨[g], (hW.mono (by simp)).grown HG6.out (by rw [hb]; intro k hk; cases hk; exact .inl (by simp)), fun x hx => by rw [List.mem_singleton.1 hx]⟩
      obtain ⟨X, hT6, hX⟩ := hTX
      have htX : t ∉ X := fun hm => HDt.out (hX t hm)
      have hTr6 := HTr.out.turn hT6 htX
      have hTs : Turn [t] w6 (w6.setCell ⟨t, 10, none⟩ (.slice av (ds.length + 1) cv)) := (Turn.refl [t] w6).setCell (List.mem_singleton.2 rfl) 10 _
      have hnt : ∀ g, (Value.slice av (ds.length + 1) cv).ownBlock = some g → g ∉ [t] := fun g hg hm => by
        have hgt := List.mem_singleton.1 hm
        rcases HB6.out with e | e
        · exact HDt.out (by rw [HDv.out, ← e, hg, hgt])
        · rw [hg] at e
          have h1 := Option.some.inj e
          simp at h1
          omega
      refine ⟨T, v, w1, rfl, HR.out, .inr ⟨(by first | trivial | exact hpg), .slice av (ds.length + 1) cv, hTr6.setDropped _, ?_, ?_, ⟨t :: X, (hT6.mono (by intro x hx; simp [hx])).trans (hTs.mono (by simp)), fun x hx => ?_⟩⟩⟩
      · have h := own_turn HR6.out hTs hnt
        unfold DropAt pgV
        rw [List.length_append, List.map_append]
        exact h
      · rcases HB6.out with e | e
        · exact .inl (by rw [HDv.out]; exact e)
        · exact .inr ⟨_, e, by simp⟩
      · rcases List.mem_cons.1 hx with hx | hx
        · exact .inl hx
        · exact .inr (hX x hx)

end Go.Proofs.YthehkckdecckhaaGreatDoor

namespace Go.Proofs.YthehkckdecckhaaGreatDoor
open Go.RowKit Go.Maps

/-- What a change of a tree makes of its memory. -/
structure TGo (t p : Nat) (w w' : World) (G G' : Gh) (Rw Rw' : Nat → Prop) (dv dv' : Value) : Prop where
  turn : ∃ X, Turn X w w' ∧ ∀ x ∈ X, x = t ∨ x = p ∨ G x ≠ none ∨ dv.ownBlock = some x
  newG : ∀ x, G' x ≠ none → G x ≠ none ∨ w.heap.size ≤ x
  newR : ∀ x, Rw' x → Rw x ∨ w.heap.size ≤ x
  oldR : ∀ x, Rw x → Rw' x
  newD : ∀ x, dv'.ownBlock = some x → dv.ownBlock = some x ∨ w.heap.size ≤ x
theorem TGo.size {t p : Nat} {w w' : World} {G G' : Gh} {Rw Rw' : Nat → Prop} {dv dv' : Value} (h : TGo t p w w' G G' Rw Rw' dv dv') : w.heap.size ≤ w'.heap.size := by
  obtain ⟨_, h, _⟩ := h.turn
  exact h.size
theorem TStep.go {t p : Nat} {w w' : World} {G G' : Gh} {Rw Rw' : Nat → Prop} (h : TStep p w w' G G' Rw Rw') (dv : Value) : TGo t p w w' G G' Rw Rw' dv dv := by
  obtain ⟨X, hT, hX⟩ := h.turn
  exact ⟨⟨X, hT, fun x hx => (hX x hx).elim (fun e => .inr (.inl e)) (fun e => .inr (.inr (.inl e)))⟩, h.newG, h.newR, h.oldR, fun _ h => .inl h⟩
theorem TGo.refl (t p : Nat) (w : World) (G : Gh) (Rw : Nat → Prop) (dv : Value) : TGo t p w w G G Rw Rw dv dv := (TStep.refl p w G Rw).go dv
theorem TGo.trans {t p : Nat} {u v w : World} {G G' G'' : Gh} {R R' R'' : Nat → Prop} {d d' d'' : Value} (h : TGo t p u v G G' R R' d d') (k : TGo t p v w G' G'' R' R'' d' d'') : TGo t p u w G G'' R R'' d d'' := by
  have hs := h.size
  refine ⟨?_, fun x hx => ?_, fun x hx => ?_, fun x hx => k.oldR x (h.oldR x hx), fun x hx => ?_⟩
  · obtain ⟨X, hX, h1⟩ := h.turn
    obtain ⟨Y, hY, k1⟩ := k.turn
    refine ⟨X ++ Y.filter (fun x => decide (x < u.heap.size)), (hX.mono (by intro x hx; simp [hx])).then hY (fun x hx => ?_), fun x hx => ?_⟩
    · by_cases hl : x < u.heap.size
      · exact .inl (List.mem_append_right _ (List.mem_filter.2 ⟨hx, by simpa using hl⟩))
      · exact .inr (Nat.le_of_not_lt hl)
    · rcases List.mem_append.1 hx with hx | hx
      · exact h1 x hx
      · obtain ⟨hy, hl⟩ := List.mem_filter.1 hx
        have hl' : x < u.heap.size := by simpa using hl
        rcases k1 x hy with e | e | hg | hd
        · exact .inl e
        · exact .inr (.inl e)
        · rcases h.newG x hg with hg | hg
          · exact .inr (.inr (.inl hg))
          · omega
        · rcases h.newD x hd with hd | hd
          · exact .inr (.inr (.inr hd))
          · omega
  · rcases k.newG x hx with hx | hx
    · exact h.newG x hx
    · exact .inr (Nat.le_trans hs hx)
  · rcases k.newR x hx with hx | hx
    · exact h.newR x hx
    · exact .inr (Nat.le_trans hs hx)
  · rcases k.newD x hx with hx | hx
    · exact h.newD x hx
    · exact .inr (Nat.le_trans hs hx)
theorem TGo.quiet {t p : Nat} {u w w' : World} {G G' : Gh} {Rw Rw' : Nat → Prop} {d d' : Value} (h : TGo t p u w G G' Rw Rw' d d') (hT : Turn [] w w') : TGo t p u w' G G' Rw Rw' d d' :=
  h.trans ⟨⟨[], hT, by simp⟩, fun _ h => .inl h, fun _ h => .inl h, fun _ h => h, fun _ h => .inl h⟩

/-- A tree with the pages that it drops. -/
structure TD (w : World) (O : Nat → Prop) (t p b m sm rb : Nat) (s : St) (q : Pg) (Dn S : Stt) (D : Dk) (G : Gh) (Rw : Nat → Prop) (ds : List Nat) : Prop where
  tm : TM w O t p b m sm rb s q Dn S D G Rw
  drop : DropAt w S.dropped ds
  far : ∀ g, S.dropped.ownBlock = some g → g ∉ [1, t, p, b, m, sm, rb] ∧ ¬ O g ∧ G g = none ∧ ¬ Rw g

/-- What is left of a state when a place of page pg was taken. -/
structure Took (pg : Nat) (S S' : Stt) (ds ds' : List Nat) : Prop where
  root : S'.root = S.root
  keys : S'.keys = S.keys
  changed : S'.changed = S.changed
  fresh : S'.fresh + (if pg = 0 then 1 else 0) = S.fresh
  drop : ds' = ds ++ (if pg = 0 then [] else [pg])

/-- The state's object turns, or rows that are nobody's. -/
theorem TM.state {X : List Nat} {w w' : World} {O : Nat → Prop} {t p b m sm rb : Nat} {s : St} {q : Pg} {Dn S S' : Stt} {D : Dk} {G : Gh} {Rw : Nat → Prop} (h : TM w O t p b m sm rb s q Dn S D G Rw) (hT : Turn X w w') (hX : ∀ x ∈ X, x = t ∨ x ∉ [1, t, p, b, m, sm, rb] ∧ G x = none ∧ ¬ Rw x) (hTr : TreeAt w' t p Dn S') : TM w' O t p b m sm rb s q Dn S' D G Rw := by
  have ht := h.off
  have hn : ∀ x ∈ [1, p, b, m, sm, rb], x ∉ X := fun x hx hm => by
    rcases hX x hm with rfl | h2
    · simp at hx
      rcases hx with e | e | e | e | e | e
      · exact ht.one e
      · exact ht.p e
      · exact ht.b e
      · exact ht.m e
      · exact ht.sm e
      · exact ht.rb e
    · refine h2.1 ?_
      simp at hx ⊢
      omega
  have hG : ∀ x ∈ X, G x = none ∧ ¬ Rw x := fun x hx => by
    rcases hX x hx with rfl | h2
    · refine ⟨?_, fun hr => (h.own x (.inr hr)).1 (by simp)⟩
      cases hg : G x with
      | none => rfl
      | some Q => exact absurd (by simp) (h.own x (.inl (by rw [hg]; simp))).1
    · exact h2.2
  exact ⟨h.pa.turn hT (hn 1 (by simp)) (hn p (by simp)) (hn b (by simp)) (hn m (by simp)) (hn sm (by simp)) (hn rb (by simp)), hTr, h.off, Nat.lt_of_lt_of_le h.rbl hT.size, h.sd, h.qd, h.mem.turn hT hG, h.dk, h.own, h.no, fun x hx => Nat.lt_of_lt_of_le (h.ob x hx) hT.size⟩

/-- Reading leaves the row of dropped pages. -/
theorem TD.read {w w' : World} {O : Nat → Prop} {t p b m sm rb : Nat} {s : St} {q q' : Pg} {Dn S : Stt} {D : Dk} {G G' : Gh} {Rw Rw' : Nat → Prop} {ds : List Nat} (h : TD w O t p b m sm rb s q Dn S D G Rw ds) (hM : TM w' O t p b m sm rb s q' Dn S D G' Rw') (hS : TStep p w w' G G' Rw Rw') : TD w' O t p b m sm rb s q' Dn S D G' Rw' ds := by
  refine ⟨hM, ?_, fun g hg => ?_⟩
  · obtain ⟨X, hT, hX⟩ := hS.turn
    refine own_turn h.drop hT (fun g hg hm => ?_)
    obtain ⟨h1, _, h3, _⟩ := h.far g hg
    rcases hX g hm with rfl | h4
    · exact h1 (by simp)
    · exact h4 h3
  · obtain ⟨h1, h2, h3, h4⟩ := h.far g hg
    have hl := (h.drop.lt g hg).2
    refine ⟨h1, h2, ?_, fun hr => ?_⟩
    · cases hg' : G' g with
      | none => rfl
      | some Q =>
        rcases hS.newG g (by rw [hg']; simp) with h5 | h5
        · exact absurd h3 h5
        · omega
    · rcases hS.newR g hr with h5 | h5
      · exact h4 h5
      · omega

/-- take. -/
theorem tm_take {w : World} {O : Nat → Prop} {t p b m sm rb : Nat} {s : St} {q : Pg} {Dn S : Stt} {D : Dk} {G : Gh} {Rw : Nat → Prop} {ds : List Nat} (h : TD w O t p b m sm rb s q Dn S D G Rw ds) {a hh : Nat} {l : List (En hh)} (hm : Means G D hh a l) {P : Pl} (hP : G a = some P) (hds : ds.length ≤ 100000) (hfr : S.fresh ≤ 100000 ∧ (P.pg = 0 → 1 ≤ S.fresh)) :
    Calls Tryz.prog 88 #[.pointer (some ⟨t, 0, none⟩), .pointer (some ⟨a, 0, none⟩)] w fun e w' => ∃ T v nd G' Rw' r S' ds', e = .returned (.iface T v) ∧ NdAt w' Rw' G' (hh + 1) nd T v ∧ NodeIs G' D hh nd l ∧ TD w' O t p b m sm rb s { q with rd := r } Dn S' D G' Rw' ds' ∧ Grown D G G' ∧ TGo t p w w' G G' Rw Rw' S.dropped S'.dropped ∧ Took P.pg S S' ds ds' := by
  refine (take_gen t p a P.pg Dn S ds w (fun T v w1 => ∃ nd G' Rw' r, NdAt w1 Rw' G' (hh + 1) nd T v ∧ NodeIs G' D hh nd l ∧ TD w1 O t p b m sm rb s { q with rd := r } Dn S D G' Rw' ds ∧ Grown D G G' ∧ TStep p w w1 G G' Rw Rw') hds hfr ?_).mono ?_
  · refine (tm_node h.tm hm).mono ?_
    rintro e w1 ⟨T, v, nd, G', Rw', r, rfl, hN, hNode, hTM, hGr, hS⟩
    have hTD := h.read hTM hS
    obtain ⟨P', hP', hpg, hlv, _⟩ := hGr.at_ a P hP
    have hc : w1.cell? ⟨a, 0, none⟩ = some (.int .i64 (P.pg : Nat)) := by
      have := hTM.mem.at_ a P' hP'
      unfold PlOk at this
      rw [← hpg]
      split at this
      · exact this.c0
      · obtain ⟨_, _, _, _, hp, _⟩ := this
        exact hp.c0
    exact ⟨T, v, rfl, ⟨nd, G', Rw', r, hN, hNode, hTD, hGr, hS⟩, hTM.tr, hc, hTD.drop, fun e => (hTD.far t e).1 (by simp)⟩
  · rintro e w' ⟨T, v, w1, rfl, ⟨nd, G', Rw', r, hN, hNode, hTD, hGr, hS⟩, hcase⟩
    have hrow : ∀ X : List Nat, (∀ x ∈ X, x = t ∨ S.dropped.ownBlock = some x) → ∀ x ∈ X, x = t ∨ x ∉ [1, t, p, b, m, sm, rb] ∧ G' x = none ∧ ¬ Rw' x := fun X hX x hx => by
      rcases hX x hx with e | e
      · exact .inl e
      · obtain ⟨h1, _, h3, h4⟩ := hTD.far x e
        exact .inr ⟨h1, h3, h4⟩
    have hkeepN : ∀ X, Turn X w1 w' → (∀ x ∈ X, x = t ∨ S.dropped.ownBlock = some x) → NdAt w' Rw' G' (hh + 1) nd T v := fun X hT hX => hN.keep (fun b hr => hT.block b (hTD.tm.mem.rows b hr) (fun hm => by
      rcases hrow X hX b hm with rfl | h2
      · exact (hTD.tm.own b (.inr hr)).1 (by simp)
      · exact h2.2.2 hr)) (fun _ h => h) (fun _ Q hQ => ⟨Q, hQ, rfl⟩)
    rcases hcase with ⟨h0, hTr, hD, hT⟩ | ⟨h0, dv, hTr, hD, hdv, X, hT, hX⟩
    · have hX : ∀ x ∈ [t], x = t ∨ S.dropped.ownBlock = some x := fun x hx => .inl (List.mem_singleton.1 hx)
      refine ⟨T, v, nd, G', Rw', r, _, ds, rfl, hkeepN _ hT hX, hNode, ⟨hTD.tm.state hT (hrow _ hX) hTr, hD, hTD.far⟩, hGr, (hS.go S.dropped).trans ⟨⟨[t], hT, fun x hx => .inl (List.mem_singleton.1 hx)⟩, fun _ h => .inl h, fun _ h => .inl h, fun _ h => h, fun _ h => .inl h⟩, ⟨rfl, rfl, rfl, ?_, by rw [if_pos h0, List.append_nil]⟩⟩
      rw [if_pos h0]
      have := hfr.2 h0
      show S.fresh - 1 + 1 = S.fresh
      omega
    · have hnew : ∀ g, dv.ownBlock = some g → S.dropped.ownBlock = some g ∨ w1.heap.size ≤ g := fun g hg => by
        rcases hdv with e | ⟨g', e, hl⟩
        · exact .inl (e ▸ hg)
        · rw [hg] at e
          have := Option.some.inj e
          exact .inr (by omega)
      refine ⟨T, v, nd, G', Rw', r, _, ds ++ [P.pg], rfl, hkeepN _ hT hX, hNode, ⟨hTD.tm.state hT (hrow _ hX) hTr, hD, fun g hg => ?_⟩, hGr, (hS.go S.dropped).trans ⟨⟨X, hT, fun x hx => (hX x hx).elim .inl (fun e => .inr (.inr (.inr e)))⟩, fun _ h => .inl h, fun _ h => .inl h, fun _ h => h, hnew⟩, ⟨rfl, rfl, rfl, by rw [if_neg h0]; rfl, by rw [if_neg h0]⟩⟩
      rcases hnew g hg with e | hl
      · exact hTD.far g e
      · refine ⟨fun hm => by have := hTD.tm.lts g hm; omega, fun ho => by have := hTD.tm.ob g ho; omega, ?_, fun hr => by have := hTD.tm.mem.rows g hr; omega⟩
        cases hg' : G' g with
        | none => rfl
        | some Q => have := hTD.tm.mem.lt (a := g) (by rw [hg']; simp); omega

end Go.Proofs.YthehkckdecckhaaGreatDoor

namespace Go.Proofs.YthehkckdecckhaaGreatDoor
open Go.RowKit Go.Maps

/-- A node in memory, wherever its row lies. -/
def NdV (w : World) : Nd → TypeId → Value → Prop
  | .inl l, T, v => T = 73 ∧ ∃ a c, v = .slice a l.length c ∧ KVsAt w a l ∧ (a = none → c = 0) ∧ l.length ≤ c ∧ c ≤ 9223372036854775807
  | .inr ks, T, v => T = 120 ∧ ∃ a c, v = .slice a ks.length c ∧ KidsAt w a ks ∧ (a = none → c = 0) ∧ ks.length ≤ c ∧ c ≤ 9223372036854775807
theorem NdAt.v {w : World} {Rw : Nat → Prop} {G : Gh} {lvl : Nat} {nd : Nd} {T : TypeId} {v : Value} (h : NdAt w Rw G lvl nd T v) : NdV w nd T v := by
  cases nd with
  | inl l =>
    obtain ⟨_, h2, b, off, c, h3, h4, h5, _⟩ := h
    exact ⟨h2, _, c, h3, h4, by simp, h5.1, h5.2⟩
  | inr ks =>
    obtain ⟨_, h2, b, off, c, h3, h4, h5, _⟩ := h
    exact ⟨h2, _, c, h3, h4, by simp, h5.1, h5.2⟩

/-- How many bytes a node's entries have. -/
def sizeNd : Nd → Nat
  | .inl l => sumN (lsizes l)
  | .inr ks => sumN (bsizes ks)
/-- A node is not too long to be reckoned with. -/
def FineNd : Nd → Prop
  | .inl l => l.length ≤ 1000 ∧ (∀ x ∈ l, x.1.size ≤ 1000 ∧ x.2.size ≤ 1000) ∧ sumN (lsizes l) ≤ 1000000
  | .inr ks => ks.length ≤ 1000 ∧ (∀ x ∈ ks, x.1.size ≤ 1000) ∧ sumN (bsizes ks) ≤ 1000000

theorem size_nd {w : World} {nd : Nd} {T : TypeId} {v : Value} (h : NdV w nd T v) (hf : FineNd nd) : Calls Tryz.prog 137 #[.iface T v] w fun e w' => e = .returned (.int .i64 (sizeNd nd : Nat)) ∧ Turn [] w w' := by
  cases nd with
  | inl l =>
    obtain ⟨rfl, a, c, rfl, hK, _⟩ := h
    exact lsize_any a c l hf.1 hf.2.1 hf.2.2 w hK
  | inr ks =>
    obtain ⟨rfl, a, c, rfl, hK, _⟩ := h
    exact bsize_any a c ks hf.1 hf.2.1 hf.2.2 w hK

/-- A node that comes to entries is as long as they are. -/
theorem size_is {G : Gh} {D : Dk} {h : Nat} {nd : Nd} {l : List (En h)} (hn : NodeIs G D h nd l) : sizeNd nd = sizeN l := by
  cases h with
  | zero =>
    obtain rfl : nd = .inl l := hn
    exact lsize_sizeN l
  | succ h =>
    obtain ⟨ks, rfl, hb⟩ := hn
    show sumN (bsizes ks) = _
    rw [sumN_eq, ← kid_sizeN l]
    unfold bsizes
    have e1 : (ks.map kidSize) = (lowsOf ks).map (fun x => 5 + x.size) := by
      unfold lowsOf
      rw [List.map_map]
      rfl
    have e2 : (l.map lowPg).map kidSize = (l.map En.key).map (fun x => 5 + x.size) := by
      rw [List.map_map, List.map_map]
      rfl
    rw [e1, e2, both_lows hb]
theorem fine_is {G : Gh} {D : Dk} {h : Nat} {nd : Nd} {l : List (En h)} (hn : NodeIs G D h nd l) (hf : ∀ e ∈ l, FullE e) (hz : sizeN l ≤ 1900) : FineNd nd := by
  have hs := size_is hn
  have hl := len_size l
  cases h with
  | zero =>
    obtain rfl : nd = .inl l := hn
    refine ⟨(show List.length (α := En 0) l ≤ 1000 by omega), fun x hx => ?_, ?_⟩
    · have h1 := FullE.key (hf x hx)
      have h2 := FullE.size (hf x hx)
      have h3 := boundN_le 0
      have h4 : En.size (h := 0) x = 2 + x.1.size + x.2.size := rfl
      have h5 : En.key (h := 0) x = x.1 := rfl
      rw [h5] at h1
      exact ⟨by omega, by omega⟩
    · have : sumN (lsizes l) = sizeN l := hs
      omega
  | succ h =>
    obtain ⟨ks, rfl, hb⟩ := hn
    have hlen := hb.length
    refine ⟨by omega, fun x hx => ?_, ?_⟩
    · obtain ⟨e, he, hk⟩ := hb.left x hx
      have h1 := FullE.key (hf e he)
      rw [← hk.1] at h1
      omega
    · have : sumN (bsizes ks) = sizeN l := hs
      omega

/-- A tree behind calls that only read. -/
structure TRd (w w' : World) (O : Nat → Prop) (t p b m sm rb : Nat) (s : St) (q : Pg) (Dn S : Stt) (D : Dk) (G : Gh) (Rw : Nat → Prop) : Prop where
  ex : ∃ G' Rw' r, TM w' O t p b m sm rb s { q with rd := r } Dn S D G' Rw' ∧ Grown D G G' ∧ TStep p w w' G G' Rw Rw'

set_option maxRecDepth 100000 in
set_option maxHeartbeats 3200000 in
theorem tm_short {w : World} {O : Nat → Prop} {t p b m sm rb : Nat} {s : St} {q : Pg} {Dn S : Stt} {D : Dk} {G : Gh} {Rw : Nat → Prop} (h : TM w O t p b m sm rb s q Dn S D G Rw) {hh : Nat} {nd : Nd} {T : TypeId} {v : Value} {n : List (En hh)} (hv : NdV w nd T v) (hn : sizeNd nd = sizeN n) (hf : FineNd nd) {a : Nat} {lb : List (En hh)} (hm : Means G D hh a lb) (hfb : ∀ e ∈ lb, FullE e) (hzb : sizeN lb ≤ 495) (hzn : sizeN n ≤ 1900) :
    Calls Tryz.prog 120 #[.pointer (some ⟨t, 0, none⟩), .iface T v, .pointer (some ⟨a, 0, none⟩)] w fun e w' => e = .returned (.bool (shortN n lb)) ∧ TRd w w' O t p b m sm rb s q Dn S D G Rw := by
  have HS := hide (size_nd hv hf)
  rw [hn] at HS
  have HQ : Hid (∀ w1, Turn [] w w1 → Calls Tryz.prog 62 #[.pointer (some ⟨t, 0, none⟩), .pointer (some ⟨a, 0, none⟩)] w1 fun e w' => ∃ T v nd G' Rw' r, e = .returned (.iface T v) ∧ NdV w' nd T v ∧ sizeNd nd = sizeN lb ∧ FineNd nd ∧ TM w' O t p b m sm rb s { q with rd := r } Dn S D G' Rw' ∧ Grown D G G' ∧ TStep p w w' G G' Rw Rw') := fun w1 hT => by
    refine (tm_node (h.quiet hT) hm).mono ?_
    rintro e w' ⟨T, v, nd, G', Rw', r, rfl, hN, hNode, hTM, hGr, hS⟩
    exact ⟨T, v, nd, G', Rw', r, rfl, hN.v, size_is hNode, fine_is hNode hfb (by omega), hTM, hGr, ((TStep.refl p w G Rw).quiet hT).trans hS⟩
  have HM := hide h
  have HSh : Hid (shortN n lb = (decide (sizeN n < 123) || (decide (sizeN n < 247) && decide (sizeN n + sizeN lb ≤ 495)))) := rfl
  clear hv hn hf hm hfb h
  generalize shortN n lb = X at *
  generalize sizeN n = A at *
  generalize sizeN lb = B at *
  by_cases h1 : A < 123
  · go_enter Tryz.func120, Tryz.ntmps120
    go_wp2_with fail
    refine HS.out.mono ?_
    rintro e w1 ⟨rfl, hT⟩
    have HT := hide hT
    clear hT
    go_wp2_with fail
    go_ret
    refine ⟨?_, ⟨G, Rw, q.rd, HM.out.quiet HT.out, Grown.refl _ _, (TStep.refl _ _ _ _).quiet HT.out⟩⟩
    rw [HSh.out]
    simp [h1]
  · by_cases h2 : A < 247
    · go_enter Tryz.func120, Tryz.ntmps120
      go_wp2_with fail
      refine HS.out.mono ?_
      rintro e w1 ⟨rfl, hT⟩
      have HN := hide (HQ.out w1 hT)
      clear hT HS HQ
      go_wp2_with fail
      refine HN.out.mono ?_
      rintro e w2 ⟨T2, v2, nd2, G', Rw', r, rfl, hv2, hs2, hf2, hTM, hGr, hS⟩
      have HS2 := hide (size_nd hv2 hf2)
      rw [hs2] at HS2
      have HTM := hide hTM
      have HGr := hide hGr
      have HSt := hide hS
      clear hv2 hs2 hf2 hTM hGr hS HN
      go_wp2_with fail
      refine HS2.out.mono ?_
      rintro e w3 ⟨rfl, hT3⟩
      have HT3 := hide hT3
      clear hT3
      go_wp2_with fail
      go_ret
      refine ⟨?_, ⟨G', Rw', r, HTM.out.quiet HT3.out, HGr.out, HSt.out.quiet HT3.out⟩⟩
      rw [HSh.out]
      simp [h1, h2]
      omega
    · go_enter Tryz.func120, Tryz.ntmps120
      go_wp2_with fail
      refine HS.out.mono ?_
      rintro e w1 ⟨rfl, hT⟩
      have HT := hide hT
      clear hT
      go_wp2_with fail
      go_ret
      refine ⟨?_, ⟨G, Rw, q.rd, HM.out.quiet HT.out, Grown.refl _ _, (TStep.refl _ _ _ _).quiet HT.out⟩⟩
      rw [HSh.out]
      simp [h1, h2]

end Go.Proofs.YthehkckdecckhaaGreatDoor

namespace Go.Proofs.YthehkckdecckhaaGreatDoor
open Go.RowKit Go.Maps

/-- A node's row lies in bb, which may become a row of the tree's. -/
def NdIn (w : World) (bb : Nat) : Nd → TypeId → Value → Prop
  | .inl l, T, v => T = 73 ∧ 0 < l.length ∧ ∃ off c, v = .slice (some ⟨bb, off, none⟩) l.length c ∧ KVsAt w (some ⟨bb, off, none⟩) l ∧ l.length ≤ c ∧ c ≤ 9223372036854775807
  | .inr ks, T, v => T = 120 ∧ 0 < ks.length ∧ ∃ off c, v = .slice (some ⟨bb, off, none⟩) ks.length c ∧ KidsAt w (some ⟨bb, off, none⟩) ks ∧ ks.length ≤ c ∧ c ≤ 9223372036854775807
/-- A block that may become a row of the tree's. -/
def Able (O : Nat → Prop) (t p b m sm rb : Nat) (G : Gh) (Rw : Nat → Prop) (dv : Value) (x : Nat) : Prop := Rw x ∨ (x ∉ [1, t, p, b, m, sm, rb] ∧ ¬ O x ∧ G x = none ∧ dv.ownBlock ≠ some x)

theorem NdIn.lt {w : World} {bb : Nat} {nd : Nd} {T : TypeId} {v : Value} (h : NdIn w bb nd T v) : bb < w.heap.size := by
  cases nd with
  | inl l =>
    obtain ⟨_, h0, off, c, _, hK, _⟩ := h
    exact hK.lt ⟨bb, off, none⟩ (List.length_pos_iff.1 h0) rfl
  | inr ks =>
    obtain ⟨_, h0, off, c, _, hK, _⟩ := h
    exact hK.lt ⟨bb, off, none⟩ (List.length_pos_iff.1 h0) rfl

/-- New places: each comes to an entry of a new row; the node's row in bb becomes the tree's. -/
structure NewPl (w : World) (O : Nat → Prop) (t p b m sm rb : Nat) (s : St) (q : Pg) (Dn S : Stt) (D : Dk) (G : Gh) (Rw : Nat → Prop) (ds : List Nat) (bb hh : Nat) (r : List (En (hh + 1))) (w' : World) (e : Value) : Prop where
  ex : ∃ G' ks g, e = .slice (some ⟨g, 0, none⟩) ks.length ks.length ∧ w.heap.size ≤ g ∧ KidsAt w' (some ⟨g, 0, none⟩) ks ∧ Both (KidIs G' (Means G' D hh)) ks r ∧ TD w' O t p b m sm rb s q Dn { S with fresh := S.fresh + r.length } D G' (fun y => Rw y ∨ y = bb) ds ∧ Grown D G G' ∧ Turn [t] w w' ∧ (∀ x, G' x ≠ none → G x ≠ none ∨ w.heap.size ≤ x) ∧ G' g = none ∧ (∀ k ∈ ks, ∃ Q, G' k.2 = some Q ∧ Q.lvl = hh + 1)

def addPl (G : Gh) (lvl : Nat) : List (Nat × Nd) → Gh
  | [] => G
  | x :: A => (addPl G lvl A).add x.1 ⟨0, lvl, some x.2⟩
theorem addPl_at {G : Gh} {lvl : Nat} : {A : List (Nat × Nd)} → (A.map Prod.fst).Nodup → ∀ x ∈ A, addPl G lvl A x.1 = some ⟨0, lvl, some x.2⟩
  | y :: A, hn, x, hx => by
    have hn' := List.nodup_cons.1 hn
    unfold addPl
    rcases List.mem_cons.1 hx with rfl | hx
    · exact Gh.add_same _ _ _
    · rw [Gh.add_other _ _ (fun e => hn'.1 (List.mem_map.2 ⟨x, hx, e⟩))]
      exact addPl_at hn'.2 x hx
  | [], _, _, hx => absurd hx (by simp)
theorem addPl_other {G : Gh} {lvl x : Nat} : {A : List (Nat × Nd)} → (∀ y ∈ A, y.1 ≠ x) → addPl G lvl A x = G x
  | [], _ => rfl
  | y :: A, h => by
    unfold addPl
    rw [Gh.add_other _ _ (Ne.symm (h y (List.mem_cons_self ..)))]
    exact addPl_other fun z hz => h z (List.mem_cons_of_mem _ hz)

/-- New places in memory. -/
theorem tm_places {w w' : World} {O : Nat → Prop} {t p b m sm rb : Nat} {s : St} {q : Pg} {Dn S S' : Stt} {D : Dk} {G : Gh} {Rw : Nat → Prop} {ds : List Nat} (h : TD w O t p b m sm rb s q Dn S D G Rw ds) (hd : S'.dropped = S.dropped) (hTr : TreeAt w' t p Dn S') (hT : Turn [t] w w') {bb : Nat} (hbb : bb < w.heap.size) (hab : Able O t p b m sm rb G Rw S.dropped bb) (A : List (Nat × Nd)) (lvl : Nat) (hA : ∀ x ∈ A, w.heap.size ≤ x.1) (hnd : (A.map Prod.fst).Nodup)
    (hP : ∀ x ∈ A, ∃ T v, PlaceAt w' x.1 0 lvl 0 (.iface T v) ∧ ∀ G', (∀ a Q, G a = some Q → ∃ Q', G' a = some Q' ∧ Q'.lvl = Q.lvl) → NdAt w' (fun y => Rw y ∨ y = bb) G' lvl x.2 T v) :
    ∃ G', (∀ x ∈ A, G' x.1 = some ⟨0, lvl, some x.2⟩) ∧ (∀ x, x < w.heap.size → G' x = G x) ∧ (∀ x, G' x ≠ none → G x ≠ none ∨ ∃ y ∈ A, y.1 = x) ∧ Grown D G G' ∧ TD w' O t p b m sm rb s q Dn S' D G' (fun y => Rw y ∨ y = bb) ds := by
  have hlts := h.tm.lts
  have hsz := hT.size
  have hbase := h.tm.state hT (fun x hx => .inl (List.mem_singleton.1 hx)) hTr
  have hnew : ∀ x ∈ A, G x.1 = none := fun x hx => by
    cases hg : G x.1 with
    | none => rfl
    | some Q => have := h.tm.mem.lt (a := x.1) (by rw [hg]; simp); have := hA x hx; omega
  have hold : ∀ x, x < w.heap.size → addPl G lvl A x = G x := fun x hx => addPl_other fun y hy e => by have := hA y hy; omega
  have hsome : ∀ x, addPl G lvl A x ≠ none → G x ≠ none ∨ ∃ y ∈ A, y.1 = x := fun x hx => by
    by_cases hy : ∃ y ∈ A, y.1 = x
    · exact .inr hy
    · refine .inl ?_
      rw [addPl_other (fun y h1 e => hy ⟨y, h1, e⟩)] at hx
      exact hx
  have hlvl : ∀ a Q, G a = some Q → ∃ Q', addPl G lvl A a = some Q' ∧ Q'.lvl = Q.lvl := fun a Q hQ => ⟨Q, (hold a (h.tm.mem.at_ a Q hQ).lt).trans hQ, rfl⟩
  have hGb : G bb = none := by
    rcases hab with hr | hr
    · exact h.tm.mem.apart bb hr
    · exact hr.2.2.1
  have hbn : bb ∉ [1, t, p, b, m, sm, rb] ∧ ¬ O bb := by
    rcases hab with hr | hr
    · exact h.tm.own bb (.inr hr)
    · exact ⟨hr.1, hr.2.1⟩
  refine ⟨addPl G lvl A, addPl_at hnd, hold, hsome, ⟨fun a P hP => ⟨P, (hold a (h.tm.mem.at_ a P hP).lt).trans hP, rfl, rfl, fun _ h => h, fun _ _ _ hn _ _ he => by rw [hn] at he; cases he⟩⟩, ⟨⟨hbase.pa, hbase.tr, hbase.off, hbase.rbl, hbase.sd, hbase.qd, ⟨fun a P hP' => ?_, fun x hx => ?_, fun x hx => ?_⟩, hbase.dk, fun x hx => ?_, hbase.no, hbase.ob⟩, ?_, fun g hg => ?_⟩⟩
  · by_cases hy : ∃ y ∈ A, y.1 = a
    · obtain ⟨y, hy, rfl⟩ := hy
      rw [addPl_at hnd y hy] at hP'
      obtain rfl := Option.some.inj hP'
      obtain ⟨T, v, h1, h2⟩ := hP y hy
      exact ⟨0, T, v, .inl rfl, h1, h2 _ hlvl⟩
    · rw [addPl_other (fun y h1 e => hy ⟨y, h1, e⟩)] at hP'
      exact (hbase.mem.at_ a P hP').keep rfl (fun _ _ => rfl) (fun _ h => .inl h) hlvl
  · rcases hx with hx | rfl
    · rw [hold x (h.tm.mem.rows x hx)]
      exact h.tm.mem.apart x hx
    · rw [hold x hbb]
      exact hGb
  · rcases hx with hx | rfl
    · exact hbase.mem.rows x hx
    · omega
  · rcases hx with hx | hx | rfl
    · rcases hsome x hx with hx | ⟨y, hy, rfl⟩
      · exact h.tm.own x (.inl hx)
      · have := hA y hy
        exact ⟨fun hm => by have := hlts _ hm; omega, fun ho => by have := h.tm.ob _ ho; omega⟩
    · exact h.tm.own x (.inr hx)
    · exact hbn
  · rw [hd]
    refine own_turn h.drop hT (fun g hg hm => ?_)
    rw [List.mem_singleton.1 hm] at hg
    exact (h.far t hg).1 (by simp)
  · rw [hd] at hg
    obtain ⟨h1, h2, h3, h4⟩ := h.far g hg
    have hgl := (h.drop.lt g hg).2
    refine ⟨h1, h2, (hold g hgl).trans h3, fun hx => ?_⟩
    rcases hx with hx | rfl
    · exact h4 hx
    · rcases hab with hr | hr
      · exact h4 hr
      · exact hr.2.2.2 hg

/-- A row of kids is no place. -/
theorem kid_ne {w : World} {a g pg lvl : Nat} {d : Int} {v : Value} {k : ByteArray × Nat} {ks : List (ByteArray × Nat)} (hK : KidsAt w (some ⟨g, 0, none⟩) (k :: ks)) (hP : PlaceAt w a pg lvl d v) : a ≠ g := by
  rintro rfl
  obtain ⟨b', off', e, h0, _⟩ := hK.at (i := 0) (by simp)
  injection e with e
  injection e with e1 e2
  subst e1 e2
  have := hP.c0
  simp only [Nat.zero_mul, Nat.add_zero] at h0
  rw [h0] at this
  cases this
theorem placedN_one {h : Nat} {n : List (En h)} {lo : ByteArray} (hz : sizeN n ≤ 495) : placedN n lo = [mkE lo 0 n] := if_pos hz

/-- placed, where the node fits in a page. -/
theorem tm_placed_one {w : World} {O : Nat → Prop} {t p b m sm rb : Nat} {s : St} {q : Pg} {Dn S : Stt} {D : Dk} {G : Gh} {Rw : Nat → Prop} {ds : List Nat} (h : TD w O t p b m sm rb s q Dn S D G Rw ds) {hh bb : Nat} {nd : Nd} {T : TypeId} {v : Value} {n : List (En hh)} (hin : NdIn w bb nd T v) (hn : NodeIs G D hh nd n) (hf : FineNd nd) (hz : sizeN n ≤ 495) (hab : Able O t p b m sm rb G Rw S.dropped bb) (hfr : S.fresh ≤ 100000) (hkl : ∀ ks, nd = .inr ks → ∀ k ∈ ks, ∃ Q, G k.2 = some Q ∧ Q.lvl + 1 = hh + 1) (low : ByteArray) :
    Calls Tryz.prog 86 #[.pointer (some ⟨t, 0, none⟩), .iface T v, .int .i64 ((hh + 1 : Nat) : Int), .string low] w fun e w' => ∃ v', e = .returned v' ∧ NewPl w O t p b m sm rb s q Dn S D G Rw ds bb hh (placedN n low) w' v' := by
  have hbl := hin.lt
  have hgN : ∀ g, w.heap.size ≤ g → G g = none := fun g hg => by
    cases hg' : G g with
    | none => rfl
    | some Q => have := h.tm.mem.lt (a := g) (by rw [hg']; simp); omega
  have hfin : ∀ (w' : World) (a g : Nat), w.heap.size ≤ a → w.heap.size ≤ g → a ≠ g → KidsAt w' (some ⟨g, 0, none⟩) [(low, a)] → PlaceAt w' a 0 (hh + 1) 0 (.iface T v) → TreeAt w' t p Dn { S with fresh := S.fresh + 1 } → Turn [t] w w' → NewPl w O t p b m sm rb s q Dn S D G Rw ds bb hh (placedN n low) w' (.slice (some ⟨g, 0, none⟩) 1 1) := fun w' a g ha hg hag hK hP hTr hT => by
    have hrow : w'.heap[bb]? = w.heap[bb]? := hT.block bb hbl (by
      simp
      rintro rfl
      rcases hab with hr | hr
      · exact (h.tm.own _ (.inr hr)).1 (by simp)
      · exact hr.1 (by simp))
    obtain ⟨G', h1, h2, h3, h4, h5⟩ := tm_places h (S' := { S with fresh := S.fresh + 1 }) rfl hTr hT hbl hab [(a, nd)] (hh + 1) (fun x hx => by rw [List.mem_singleton.1 hx]; exact ha) (by simp) (fun x hx => by
      rw [List.mem_singleton.1 hx]
      refine ⟨T, v, hP, fun G' hG' => ?_⟩
      cases hh with
      | zero =>
        obtain rfl : nd = .inl n := hn
        obtain ⟨rfl, h0, off, c, rfl, hK, hc⟩ := hin
        refine ⟨rfl, rfl, bb, off, c, rfl, ?_, hc, .inr rfl⟩
        rcases hK with hK | ⟨b', off', e, hc⟩
        · exact .inl hK
        · obtain ⟨rfl, rfl⟩ : bb = b' ∧ off = off' := by injection e with e; injection e with e1 e2; exact ⟨e1, e2⟩
          exact .inr ⟨bb, off, rfl, fun i hi => ⟨(World.cell?_of_block (a := ⟨bb, off + i * 2, none⟩) hrow).trans (hc i hi).1, (World.cell?_of_block (a := ⟨bb, off + i * 2 + 1, none⟩) hrow).trans (hc i hi).2⟩⟩
      | succ hh =>
        obtain ⟨ks, rfl, hb⟩ := hn
        obtain ⟨rfl, h0, off, c, rfl, hK, hc⟩ := hin
        refine ⟨by omega, rfl, bb, off, c, rfl, ?_, hc, .inr rfl, fun k hk => ?_⟩
        · rcases hK with hK | ⟨b', off', e, hc⟩
          · exact .inl hK
          · obtain ⟨rfl, rfl⟩ : bb = b' ∧ off = off' := by injection e with e; injection e with e1 e2; exact ⟨e1, e2⟩
            exact .inr ⟨bb, off, rfl, fun i hi => ⟨(World.cell?_of_block (a := ⟨bb, off + i * 2, none⟩) hrow).trans (hc i hi).1, (World.cell?_of_block (a := ⟨bb, off + i * 2 + 1, none⟩) hrow).trans (hc i hi).2⟩⟩
        · obtain ⟨Q, hQ, hl⟩ := hkl ks rfl k hk
          obtain ⟨Q', hQ', hl'⟩ := hG' _ Q hQ
          exact ⟨Q', hQ', by omega⟩)
    have hGa := h1 (a, nd) (by simp)
    rw [placedN_one hz]
    refine ⟨G', [(low, a)], g, rfl, hg, hK, ⟨⟨rfl, ⟨_, hGa, rfl⟩, Means.of _ hGa rfl (fun e => absurd rfl e) (fun e => by cases e) (fun nd' e => ?_)⟩, trivial⟩, h5, h4, hT, fun x hx => ?_, ?_, fun k hk => ?_⟩
    · obtain rfl : nd = nd' := Option.some.inj e
      exact hn.grown h4
    · rcases h3 x hx with hx | ⟨y, hy, rfl⟩
      · exact .inl hx
      · rw [List.mem_singleton.1 hy]
        exact .inr ha
    · cases hg' : G' g with
      | none => rfl
      | some Q =>
        rcases h3 g (by rw [hg']; simp) with hx | ⟨y, hy, e⟩
        · exact absurd (hgN g hg) hx
        · rw [List.mem_singleton.1 hy] at e
          exact absurd e hag
    · rw [List.mem_singleton.1 hk]
      exact ⟨_, hGa, rfl⟩
  have hs := size_is hn
  cases hh with
  | zero =>
    obtain rfl : nd = .inl n := hn
    obtain ⟨hT0, h0, off, c, hv, hK, hc⟩ := hin
    subst hT0 hv
    have hs' : sumN (lsizes n) = sizeN n := hs
    refine (lplaced_one t p Dn S bb off c n 1 low hfr hf.1 hf.2.1 (by omega) w h.tm.tr hK).mono ?_
    rintro e w' ⟨a, g, rfl, ha, hg, hKd, hP, hTr, hT⟩
    exact ⟨_, rfl, hfin w' a g ha hg (kid_ne hKd hP) hKd hP hTr hT⟩
  | succ hh =>
    obtain ⟨ks, rfl, hb⟩ := hn
    obtain ⟨hT0, h0, off, c, hv, hK, hc⟩ := hin
    subst hT0 hv
    have hs' : sumN (bsizes ks) = sizeN n := hs
    refine (bplaced_one t p Dn S bb off c ks (hh + 1 + 1) low hfr hf.1 hf.2.1 (by omega) w h.tm.tr hK).mono ?_
    rintro e w' ⟨a, g, rfl, ha, hg, hKd, hP, hTr, hT⟩
    exact ⟨_, rfl, hfin w' a g ha hg (kid_ne hKd hP) hKd hP hTr hT⟩

end Go.Proofs.YthehkckdecckhaaGreatDoor

namespace Go.Proofs.YthehkckdecckhaaGreatDoor
open Go.RowKit Go.Maps

theorem placedN_two {h : Nat} {n : List (En h)} {lo : ByteArray} {m : Nat} (hz : ¬ sizeN n ≤ 495) (hm : m = middleN (n.map En.size)) : placedN n lo = [mkE lo 0 (n.take m), mkE (firstKey (n.drop m)) 0 (n.drop m)] := by
  unfold placedN
  rw [if_neg hz, ← hm]
theorem firstKey_drop {h : Nat} {n : List (En h)} {m : Nat} (hm : m < n.length) : firstKey (n.drop m) = n[m].key := by
  rw [List.drop_eq_getElem_cons hm]
  rfl
/-- Halves of a node. -/
def cutNd : Nd → Nat → Nd × Nd
  | .inl l, m => (.inl (l.take m), .inl (l.drop m))
  | .inr ks, m => (.inr (ks.take m), .inr (ks.drop m))
theorem cut_is {G : Gh} {D : Dk} {h : Nat} {nd : Nd} {n : List (En h)} (hn : NodeIs G D h nd n) (m : Nat) : NodeIs G D h (cutNd nd m).1 (n.take m) ∧ NodeIs G D h (cutNd nd m).2 (n.drop m) := by
  cases h with
  | zero =>
    obtain rfl : nd = .inl n := hn
    exact ⟨rfl, rfl⟩
  | succ h =>
    obtain ⟨ks, rfl, hb⟩ := hn
    exact ⟨⟨_, rfl, hb.take m⟩, ⟨_, rfl, hb.drop m⟩⟩

/-- placed, where it does not fit. -/
theorem tm_placed_two {w : World} {O : Nat → Prop} {t p b m sm rb : Nat} {s : St} {q : Pg} {Dn S : Stt} {D : Dk} {G : Gh} {Rw : Nat → Prop} {ds : List Nat} (h : TD w O t p b m sm rb s q Dn S D G Rw ds) {hh bb : Nat} {nd : Nd} {T : TypeId} {v : Value} {n : List (En hh)} (hin : NdIn w bb nd T v) (hn : NodeIs G D hh nd n) (hf : FineNd nd) (hz : ¬ sizeN n ≤ 495) {m1 : Nat} (hm1 : m1 = middleN (n.map En.size)) (hml : m1 < n.length) (hab : Able O t p b m sm rb G Rw S.dropped bb) (hfr : S.fresh ≤ 100000) (hkl : ∀ ks, nd = .inr ks → ∀ k ∈ ks, ∃ Q, G k.2 = some Q ∧ Q.lvl + 1 = hh + 1) (low : ByteArray) :
    Calls Tryz.prog 86 #[.pointer (some ⟨t, 0, none⟩), .iface T v, .int .i64 ((hh + 1 : Nat) : Int), .string low] w fun e w' => ∃ v', e = .returned v' ∧ NewPl w O t p b m sm rb s q Dn S D G Rw ds bb hh (placedN n low) w' v' := by
  have hbl := hin.lt
  have hgN : ∀ g, w.heap.size ≤ g → G g = none := fun g hg => by
    cases hg' : G g with
    | none => rfl
    | some Q => have := h.tm.mem.lt (a := g) (by rw [hg']; simp); omega
  have hcut := cut_is hn m1
  have hbt : bb ≠ t := by
    rintro rfl
    rcases hab with hr | hr
    · exact (h.tm.own _ (.inr hr)).1 (by simp)
    · exact hr.1 (by simp)
  have hfin : ∀ (w' : World) (a a' g off c : Nat) (T : TypeId), w.heap.size ≤ a → w.heap.size ≤ a' → a ≠ a' → w.heap.size ≤ g → a ≠ g → a' ≠ g → KidsAt w' (some ⟨g, 0, none⟩) [(low, a), (firstKey (n.drop m1), a')] → (∃ v, PlaceAt w' a 0 (hh + 1) 0 (.iface T v) ∧ ∀ G', (∀ a Q, G a = some Q → ∃ Q', G' a = some Q' ∧ Q'.lvl = Q.lvl) → NdAt w' (fun y => Rw y ∨ y = bb) G' (hh + 1) (cutNd nd m1).1 T v) → (∃ v, PlaceAt w' a' 0 (hh + 1) 0 (.iface T v) ∧ ∀ G', (∀ a Q, G a = some Q → ∃ Q', G' a = some Q' ∧ Q'.lvl = Q.lvl) → NdAt w' (fun y => Rw y ∨ y = bb) G' (hh + 1) (cutNd nd m1).2 T v) → TreeAt w' t p Dn { S with fresh := S.fresh + 2 } → Turn [t] w w' → NewPl w O t p b m sm rb s q Dn S D G Rw ds bb hh (placedN n low) w' (.slice (some ⟨g, 0, none⟩) 2 2) := fun w' a a' g off c T ha ha' haa hg hag hag' hK hP hP' hTr hT => by
    obtain ⟨v1, hp1, hn1⟩ := hP
    obtain ⟨v2, hp2, hn2⟩ := hP'
    obtain ⟨G', h1, h2, h3, h4, h5⟩ := tm_places h (S' := { S with fresh := S.fresh + 2 }) rfl hTr hT hbl hab [(a, (cutNd nd m1).1), (a', (cutNd nd m1).2)] (hh + 1) (fun x hx => by
      simp at hx
      rcases hx with rfl | rfl <;> assumption) (by simp; exact haa) (fun x hx => by
      simp at hx
      rcases hx with rfl | rfl
      · exact ⟨T, v1, hp1, hn1⟩
      · exact ⟨T, v2, hp2, hn2⟩)
    have hGa := h1 (a, (cutNd nd m1).1) (by simp)
    have hGb := h1 (a', (cutNd nd m1).2) (by simp)
    rw [placedN_two hz hm1]
    refine ⟨G', [(low, a), (firstKey (n.drop m1), a')], g, rfl, hg, hK, ⟨⟨rfl, ⟨_, hGa, rfl⟩, Means.of _ hGa rfl (fun e => absurd rfl e) (fun e => by cases e) (fun nd' e => ?_)⟩, ⟨rfl, ⟨_, hGb, rfl⟩, Means.of _ hGb rfl (fun e => absurd rfl e) (fun e => by cases e) (fun nd' e => ?_)⟩, trivial⟩, h5, h4, hT, fun x hx => ?_, ?_, fun k hk => ?_⟩
    · obtain rfl := Option.some.inj e
      exact hcut.1.grown h4
    · obtain rfl := Option.some.inj e
      exact hcut.2.grown h4
    · rcases h3 x hx with hx | ⟨y, hy, rfl⟩
      · exact .inl hx
      · simp at hy
        rcases hy with rfl | rfl
        · exact .inr ha
        · exact .inr ha'
    · cases hg' : G' g with
      | none => rfl
      | some Q =>
        rcases h3 g (by rw [hg']; simp) with hx | ⟨y, hy, e⟩
        · exact absurd (hgN g hg) hx
        · simp at hy
          rcases hy with rfl | rfl
          · exact absurd e hag
          · exact absurd e hag'
    · simp at hk
      rcases hk with rfl | rfl
      · exact ⟨_, hGa, rfl⟩
      · exact ⟨_, hGb, rfl⟩
  have hs := size_is hn
  have hrowOf : ∀ w', Turn [t] w w' → w'.heap[bb]? = w.heap[bb]? := fun w' hT => hT.block bb hbl (by simp; exact hbt)
  cases hh with
  | zero =>
    obtain rfl : nd = .inl n := hn
    obtain ⟨hT0, h0, off, c, hv, hK, hc⟩ := hin
    subst hT0 hv
    have hs' : sumN (lsizes n) = sizeN n := hs
    have hms : m1 = middleN (lsizes n) := hm1
    refine (lplaced_two t p Dn S bb off c m1 n 1 low hfr hf.1 hc hf.2.1 ⟨by omega, hf.2.2⟩ hms hml hbt w h.tm.tr hK).mono ?_
    rintro e w' ⟨a, a', g, rfl, ha, ha', haa, hg, hKd, hP, hP', hTr, hT⟩
    have hK' : KVsAt w' (some ⟨bb, off, none⟩) n := hK.turn hT (fun x _ hx => by obtain rfl := Option.some.inj hx; simp; exact hbt)
    obtain ⟨hKa, hKb⟩ := hK'.part m1
    have hl1 : List.length (α := ByteArray × ByteArray) (List.take m1 n) = m1 := (show (List.take (α := En 0) m1 n).length = m1 by rw [List.length_take]; exact Nat.min_eq_left (Nat.le_of_lt hml))
    have hl2 : List.length (α := ByteArray × ByteArray) (List.drop m1 n) = List.length (α := En 0) n - m1 := List.length_drop
    have hc1 : List.length (α := En 0) n ≤ c := hc.1
    refine ⟨_, rfl, hfin w' a a' g off c _ ha ha' haa hg (kid_ne hKd hP) (kid_ne hKd hP') ?_ ⟨_, hP, fun G' _ => ⟨rfl, rfl, bb, off, c, by rw [hl1], hKa, ⟨by rw [hl1]; omega, hc.2⟩, .inr rfl⟩⟩ ⟨_, hP', fun G' _ => ⟨rfl, rfl, bb, off + m1 * 2, c - m1, by rw [hl2]; rfl, hKb, ⟨by rw [hl2]; omega, by omega⟩, .inr rfl⟩⟩ hTr hT⟩
    rw [firstKey_drop hml]
    exact hKd
  | succ hh =>
    obtain ⟨ks, rfl, hb⟩ := hn
    obtain ⟨hT0, h0, off, c, hv, hK, hc⟩ := hin
    subst hT0 hv
    have hs' : sumN (bsizes ks) = sizeN n := hs
    have hlen := hb.length
    have hbs : bsizes ks = n.map En.size := by
      have e1 : bsizes ks = (lowsOf ks).map (fun x => 5 + x.size) := by
        unfold bsizes lowsOf
        rw [List.map_map]
        rfl
      have e2 : n.map En.size = (n.map En.key).map (fun x => 5 + x.size) := by
        rw [List.map_map]
        rfl
      rw [e1, e2, both_lows hb]
    have hms : m1 = middleN (bsizes ks) := by rw [hbs]; exact hm1
    have hmk : m1 < ks.length := by omega
    refine (bplaced_two t p Dn S bb off c m1 ks (hh + 1 + 1) low hfr hf.1 hc hf.2.1 ⟨by omega, hf.2.2⟩ hms hmk hbt w h.tm.tr hK).mono ?_
    rintro e w' ⟨a, a', g, rfl, ha, ha', haa, hg, hKd, hP, hP', hTr, hT⟩
    have hK' : KidsAt w' (some ⟨bb, off, none⟩) ks := hK.turn hT (fun x _ hx => by obtain rfl := Option.some.inj hx; simp; exact hbt)
    obtain ⟨hKa, hKb⟩ := hK'.part m1
    have hl1 : (ks.take m1).length = m1 := by rw [List.length_take]; omega
    have hl2 : (ks.drop m1).length = ks.length - m1 := List.length_drop
    have hkG : ∀ G' : Gh, (∀ a Q, G a = some Q → ∃ Q', G' a = some Q' ∧ Q'.lvl = Q.lvl) → ∀ k ∈ ks, ∃ Q, G' k.2 = some Q ∧ Q.lvl + 1 = hh + 1 + 1 := fun G' hG' k hk => by
      obtain ⟨Q, hQ, hl⟩ := hkl ks rfl k hk
      obtain ⟨Q', hQ', hl'⟩ := hG' _ Q hQ
      exact ⟨Q', hQ', by omega⟩
    refine ⟨_, rfl, hfin w' a a' g off c _ ha ha' haa hg (kid_ne hKd hP) (kid_ne hKd hP') ?_ ⟨_, hP, fun G' hG' => ⟨by omega, rfl, bb, off, c, by rw [hl1], hKa, ⟨by rw [hl1]; omega, hc.2⟩, .inr rfl, fun k hk => hkG G' hG' k (List.mem_of_mem_take hk)⟩⟩ ⟨_, hP', fun G' hG' => ⟨by omega, rfl, bb, off + m1 * 2, c - m1, by rw [hl2], hKb, ⟨by rw [hl2]; omega, by omega⟩, .inr rfl, fun k hk => hkG G' hG' k (List.mem_of_mem_drop hk)⟩⟩ hTr hT⟩
    rw [firstKey_drop hml, ← (hb.get m1 hmk hml).1]
    exact hKd

end Go.Proofs.YthehkckdecckhaaGreatDoor

namespace Go.Proofs.YthehkckdecckhaaGreatDoor
open Go.RowKit Go.Maps

theorem own_in {w : World} {B : Nat} {e : TypeId} {v : Value} {n : Nat} {l : List (Value × Value)} (h : w.ownsRow B e 2 v n (flat l)) (hn : 0 < n) : ∃ g c, v = .slice (some ⟨g, 0, none⟩) n c ∧ B ≤ g ∧ g < w.heap.size ∧ PairsAt w (some ⟨g, 0, none⟩) l ∧ n ≤ c ∧ c ≤ 9223372036854775807 ∧ n = l.length := by
  obtain ⟨a', c', hv, hl, hnil, hpr, hbk⟩ := own_pairs h
  obtain ⟨_, ⟨e, h0⟩ | ⟨g, cap, cur, e, hb, hgg, hnc, hm, _⟩⟩ := h
  · omega
  · subst hv
    injection e with e1 e2 e3
    subst e1 e3
    exact ⟨g, c', by rw [hl], hb, (hbk _ rfl).2, hpr, hnc, by unfold maxLen at hm; omega, hl⟩

/-- join. -/
theorem tm_join {w : World} {G : Gh} {D : Dk} {hh : Nat} {nd nd' : Nd} {T T' : TypeId} {v v' : Value} {n n' : List (En hh)} (hv : NdV w nd T v) (hv' : NdV w nd' T' v') (hn : NodeIs G D hh nd n) (hn' : NodeIs G D hh nd' n') (hl : n.length ≤ 1000 ∧ n'.length ≤ 1000) (hne : 0 < (n ++ n').length) :
    Calls Tryz.prog 121 #[.iface T v, .iface T' v'] w fun e w' => ∃ T2 v2 nd2 bb, e = .returned (.iface T2 v2) ∧ NdIn w' bb nd2 T2 v2 ∧ w.heap.size ≤ bb ∧ NodeIs G D hh nd2 (n ++ n') ∧ Turn [] w w' := by
  cases hh with
  | zero =>
    obtain rfl : nd = .inl n := hn
    obtain rfl : nd' = .inl n' := hn'
    obtain ⟨rfl, a, c, rfl, hK, hnil, hc⟩ := hv
    obtain ⟨rfl, a', c', rfl, hK', hnil', hc'⟩ := hv'
    refine (ljoin_any w a a' c c' n n' hl hnil hnil' hK hK').mono ?_
    rintro e w' ⟨r, rfl, hO, hT⟩
    obtain ⟨g, c2, rfl, hg, hgl, hpr, h1, h2, h3⟩ := own_in hO hne
    exact ⟨_, _, .inl (n ++ n'), g, rfl, ⟨rfl, hne, 0, c2, rfl, hpr.kvs, h1, h2⟩, hg, rfl, hT⟩
  | succ hh =>
    obtain ⟨ks, rfl, hb⟩ := hn
    obtain ⟨ks', rfl, hb'⟩ := hn'
    obtain ⟨rfl, a, c, rfl, hK, hnil, hc⟩ := hv
    obtain ⟨rfl, a', c', rfl, hK', hnil', hc'⟩ := hv'
    have h1 := hb.length
    have h2 := hb'.length
    rw [List.length_append] at hne
    refine (bjoin_any w a a' c c' ks ks' ⟨by omega, by omega⟩ hnil hnil' hK hK').mono ?_
    rintro e w' ⟨r, rfl, hO, hT⟩
    obtain ⟨g, c2, rfl, hg, hgl, hpr, h1', h2', h3⟩ := own_in hO (by rw [List.length_append]; omega)
    exact ⟨_, _, .inr (ks ++ ks'), g, rfl, ⟨rfl, by rw [List.length_append]; omega, 0, c2, rfl, hpr.kids, h1', h2'⟩, hg, ⟨_, rfl, hb.append hb'⟩, hT⟩

end Go.Proofs.YthehkckdecckhaaGreatDoor

namespace Go.Proofs.YthehkckdecckhaaGreatDoor
open Go.RowKit Go.Maps

theorem NdV.keep {w w' : World} {nd : Nd} {T : TypeId} {v : Value} (h : NdV w nd T v) (hb : ∀ ad m c, v = .slice (some ad) m c → w'.heap[ad.block]? = w.heap[ad.block]?) : NdV w' nd T v := by
  cases nd with
  | inl l =>
    obtain ⟨h1, a, c, rfl, hK, h2⟩ := h
    refine ⟨h1, a, c, rfl, ?_, h2⟩
    rcases hK with hK | ⟨b, off, rfl, hc⟩
    · exact .inl hK
    · have hh := hb _ _ _ rfl
      exact .inr ⟨b, off, rfl, fun i hi => ⟨(World.cell?_of_block (a := ⟨b, off + i * 2, none⟩) hh).trans (hc i hi).1, (World.cell?_of_block (a := ⟨b, off + i * 2 + 1, none⟩) hh).trans (hc i hi).2⟩⟩
  | inr ks =>
    obtain ⟨h1, a, c, rfl, hK, h2⟩ := h
    refine ⟨h1, a, c, rfl, ?_, h2⟩
    rcases hK with hK | ⟨b, off, rfl, hc⟩
    · exact .inl hK
    · have hh := hb _ _ _ rfl
      exact .inr ⟨b, off, rfl, fun i hi => ⟨(World.cell?_of_block (a := ⟨b, off + i * 2, none⟩) hh).trans (hc i hi).1, (World.cell?_of_block (a := ⟨b, off + i * 2 + 1, none⟩) hh).trans (hc i hi).2⟩⟩
/-- A node that is not empty has its row in a block. -/
theorem NdV.in_ {w : World} {nd : Nd} {T : TypeId} {v : Value} (h : NdV w nd T v) (hn : match nd with | .inl l => 0 < l.length | .inr ks => 0 < ks.length) : ∃ bb off m c, v = .slice (some ⟨bb, off, none⟩) m c ∧ NdIn w bb nd T v := by
  cases nd with
  | inl l =>
    obtain ⟨h1, a, c, rfl, hK, hnil, h2⟩ := h
    have hn' : 0 < l.length := hn
    rcases hK with hK | ⟨b, off, rfl, hc⟩
    · rw [hK] at hn'
      exact absurd hn' (by simp)
    · exact ⟨b, off, _, c, rfl, h1, hn', off, c, rfl, .inr ⟨b, off, rfl, hc⟩, h2⟩
  | inr ks =>
    obtain ⟨h1, a, c, rfl, hK, hnil, h2⟩ := h
    have hn' : 0 < ks.length := hn
    rcases hK with hK | ⟨b, off, rfl, hc⟩
    · rw [hK] at hn'
      exact absurd hn' (by simp)
    · exact ⟨b, off, _, c, rfl, h1, hn', off, c, rfl, .inr ⟨b, off, rfl, hc⟩, h2⟩
theorem NdIn.v {w : World} {bb : Nat} {nd : Nd} {T : TypeId} {v : Value} (h : NdIn w bb nd T v) : NdV w nd T v := by
  cases nd with
  | inl l =>
    obtain ⟨h1, _, off, c, h3, h4, h5⟩ := h
    exact ⟨h1, _, c, h3, h4, by simp, h5⟩
  | inr ks =>
    obtain ⟨h1, _, off, c, h3, h4, h5⟩ := h
    exact ⟨h1, _, c, h3, h4, by simp, h5⟩

/-- A branch bl (row b0, blocks ks) of the tree's, and a node n beside it. -/
structure SIn (w : World) (O : Nat → Prop) (t p b m sm rb : Nat) (s : St) (q : Pg) (Dn S : Stt) (D : Dk) (G : Gh) (Rw : Nat → Prop) (ds : List Nat) (hh b0 off : Nat) (ks : List (ByteArray × Nat)) (bl : List (En (hh + 1))) (nd : Nd) (T : TypeId) (v : Value) (n : List (En hh)) : Prop where
  td : TD w O t p b m sm rb s q Dn S D G Rw ds
  kids : KidsAt w (some ⟨b0, off, none⟩) ks
  row : Rw b0
  both : Both (KidIs G (Means G D hh)) ks bl
  lvls : ∀ k ∈ ks, ∃ Q, G k.2 = some Q ∧ Q.lvl = hh + 1
  nv : NdV w nd T v
  nis : NodeIs G D hh nd n
  able : ∀ ad c' c, v = .slice (some ad) c' c → Able O t p b m sm rb G Rw S.dropped ad.block ∧ ad.block < w.heap.size

/-- Some of it turns, more is known. -/
theorem SIn.go {w w' : World} {O : Nat → Prop} {t p b m sm rb : Nat} {s : St} {q q' : Pg} {Dn S S' : Stt} {D : Dk} {G G' : Gh} {Rw Rw' : Nat → Prop} {ds ds' : List Nat} {hh b0 off : Nat} {ks : List (ByteArray × Nat)} {bl : List (En (hh + 1))} {nd : Nd} {T : TypeId} {v : Value} {n : List (En hh)} (h : SIn w O t p b m sm rb s q Dn S D G Rw ds hh b0 off ks bl nd T v n) (hTD : TD w' O t p b m sm rb s q' Dn S' D G' Rw' ds') (hGr : Grown D G G') (hS : TGo t p w w' G G' Rw Rw' S.dropped S'.dropped) : SIn w' O t p b m sm rb s q' Dn S' D G' Rw' ds' hh b0 off ks bl nd T v n := by
  obtain ⟨X, hT, hX⟩ := hS.turn
  have hown : ∀ x, Able O t p b m sm rb G Rw S.dropped x → x ∉ X := fun x ha hm => by
    rcases hX x hm with e | e | e | e
    · rcases ha with hr | hr
      · exact (h.td.tm.own x (.inr hr)).1 (by simp [e])
      · exact hr.1 (by simp [e])
    · rcases ha with hr | hr
      · exact (h.td.tm.own x (.inr hr)).1 (by simp [e])
      · exact hr.1 (by simp [e])
    · rcases ha with hr | hr
      · exact e (h.td.tm.mem.apart x hr)
      · exact e hr.2.2.1
    · rcases ha with hr | hr
      · exact (h.td.far x e).2.2.2 hr
      · exact hr.2.2.2 e
  have hb0 := hT.block b0 (h.td.tm.mem.rows b0 h.row) (hown b0 (.inl h.row))
  refine ⟨hTD, ?_, hS.oldR b0 h.row, h.both.mono fun k _ e _ hk => ?_, fun k hk => ?_, h.nv.keep fun ad m c e => hT.block _ (h.able ad m c e).2 (hown _ (h.able ad m c e).1), h.nis.grown hGr, fun ad m c e => ?_⟩
  · rcases h.kids with hK | ⟨b', off', e, hc⟩
    · exact .inl hK
    · obtain ⟨rfl, rfl⟩ : b0 = b' ∧ off = off' := by injection e with e; injection e with e1 e2; exact ⟨e1, e2⟩
      exact .inr ⟨b0, off, rfl, fun i hi => ⟨(World.cell?_of_block (a := ⟨b0, off + i * 2, none⟩) hb0).trans (hc i hi).1, (World.cell?_of_block (a := ⟨b0, off + i * 2 + 1, none⟩) hb0).trans (hc i hi).2⟩⟩
  · obtain ⟨h1, ⟨Q, h2, h3⟩, h4⟩ := hk
    obtain ⟨Q', q1, q2, _⟩ := hGr.at_ _ Q h2
    exact ⟨h1, ⟨Q', q1, q2.trans h3⟩, h4.grown hGr⟩
  · obtain ⟨Q, h1, h2⟩ := h.lvls k hk
    obtain ⟨Q', q1, _, q3, _⟩ := hGr.at_ _ Q h1
    exact ⟨Q', q1, q3.trans h2⟩
  · obtain ⟨ha, hl⟩ := h.able ad m c e
    refine ⟨?_, Nat.lt_of_lt_of_le hl hT.size⟩
    rcases ha with hr | ⟨h1, h2, h3, h4⟩
    · exact .inl (hS.oldR _ hr)
    · refine .inr ⟨h1, h2, ?_, fun e' => ?_⟩
      · cases hg : G' ad.block with
        | none => rfl
        | some Q =>
          rcases hS.newG _ (by rw [hg]; simp) with h5 | h5
          · exact absurd h3 h5
          · omega
      · rcases hS.newD _ e' with h5 | h5
        · exact h4 h5
        · omega
theorem SIn.quiet {w w' : World} {O : Nat → Prop} {t p b m sm rb : Nat} {s : St} {q : Pg} {Dn S : Stt} {D : Dk} {G : Gh} {Rw : Nat → Prop} {ds : List Nat} {hh b0 off : Nat} {ks : List (ByteArray × Nat)} {bl : List (En (hh + 1))} {nd : Nd} {T : TypeId} {v : Value} {n : List (En hh)} (h : SIn w O t p b m sm rb s q Dn S D G Rw ds hh b0 off ks bl nd T v n) (hT : Turn [] w w') : SIn w' O t p b m sm rb s q Dn S D G Rw ds hh b0 off ks bl nd T v n :=
  h.go (h.td.read (h.td.tm.quiet hT) ((TStep.refl p w G Rw).quiet hT)) (Grown.refl _ _) ((TGo.refl t p w G Rw _).quiet hT)

end Go.Proofs.YthehkckdecckhaaGreatDoor

namespace Go.Proofs.YthehkckdecckhaaGreatDoor
open Go.RowKit Go.Maps

/-- Kids of a node that comes to entries have its level less one. -/
theorem kids_lvl {G : Gh} {D : Dk} {hh : Nat} {nd : Nd} {n : List (En hh)} (hn : NodeIs G D hh nd n) : ∀ ks, nd = .inr ks → ∀ k ∈ ks, ∃ Q, G k.2 = some Q ∧ Q.lvl + 1 = hh + 1 := fun ks e k hk => by
  cases hh with
  | zero =>
    obtain rfl : nd = .inl n := hn
    cases e
  | succ hh =>
    obtain ⟨ks', e', hb⟩ := hn
    rw [e'] at e
    obtain rfl := Sum.inr.inj e
    obtain ⟨e2, _, h1⟩ := hb.left k hk
    obtain ⟨P, hP, hl, _⟩ := h1.2.2.out
    exact ⟨P, hP, by omega⟩

/-- placed. -/
theorem tm_placed {w : World} {O : Nat → Prop} {t p b m sm rb : Nat} {s : St} {q : Pg} {Dn S : Stt} {D : Dk} {G : Gh} {Rw : Nat → Prop} {ds : List Nat} (h : TD w O t p b m sm rb s q Dn S D G Rw ds) {hh bb : Nat} {nd : Nd} {T : TypeId} {v : Value} {n : List (En hh)} (hin : NdIn w bb nd T v) (hn : NodeIs G D hh nd n) (hfe : ∀ e ∈ n, FullE e) (hz : sizeN n ≤ 1900) (hab : Able O t p b m sm rb G Rw S.dropped bb) (hfr : S.fresh ≤ 100000) (low : ByteArray) :
    Calls Tryz.prog 86 #[.pointer (some ⟨t, 0, none⟩), .iface T v, .int .i64 ((hh + 1 : Nat) : Int), .string low] w fun e w' => ∃ v', e = .returned v' ∧ NewPl w O t p b m sm rb s q Dn S D G Rw ds bb hh (placedN n low) w' v' := by
  have hf := fine_is hn hfe hz
  by_cases h1 : sizeN n ≤ 495
  · exact tm_placed_one h hin hn hf h1 hab hfr (kids_lvl hn) low
  · have hm := middle_spec (l := n.map En.size) (B := 170) (fun x hx => by
      obtain ⟨e, he, rfl⟩ := List.mem_map.1 hx
      have h2 := FullE.size (hfe e he)
      have h3 := boundN_le hh
      omega) (by
      have : sizeN n = (n.map En.size).sum := rfl
      omega)
    exact tm_placed_two h hin hn hf h1 rfl (by simpa using hm.2.1) hab hfr (kids_lvl hn) low

/-- Concat of three rows of kids. -/
theorem kcat3 (g c n1 n2 n3 c1 c2 c3 : Nat) (a1 a2 a3 : Option Addr) (l1 l2 l3 : List (ByteArray × Nat)) (e1 : l1.length = n1) (e2 : l2.length = n2) (e3 : l3.length = n3) (hl : l1.length + l2.length + l3.length ≤ 1000000) (w : World)
    (h1 : w.cell? ⟨g, 0, none⟩ = some (.slice a1 n1 c1)) (h2 : w.cell? ⟨g, 1, none⟩ = some (.slice a2 n2 c2)) (h3 : w.cell? ⟨g, 2, none⟩ = some (.slice a3 n3 c3)) (z1 : a1 = none → c1 = 0) (z2 : a2 = none → c2 = 0) (z3 : a3 = none → c3 = 0) (k1 : KidsAt w a1 l1) (k2 : KidsAt w a2 l2) (k3 : KidsAt w a3 l3) :
    Calls Tryz.prog 122 #[.slice (some ⟨g, 0, none⟩) 3 c] w fun e w' => ∃ v, e = .returned v ∧ w'.ownsRow w.heap.size 122 2 v (l1.length + l2.length + l3.length) (flat (kidCells (l1 ++ (l2 ++ l3)))) ∧ Turn [] w w' := by
  subst e1 e2 e3
  have hlen : ∀ l : List (ByteArray × Nat), (kidCells l).length = l.length := fun l => List.length_map _
  have ht : tlen [kidCells l1, kidCells l2, kidCells l3] = l1.length + l2.length + l3.length := by
    simp [tlen, hlen]
    omega
  have := kconcat_any g 0 c [kidCells l1, kidCells l2, kidCells l3] (by simp) (by rw [ht]; exact hl) (fun p hp => by
    simp at hp
    rcases hp with rfl | rfl | rfl <;> exact kid_one _) w (fun i hi => by
    have hi' : i = 0 ∨ i = 1 ∨ i = 2 := by simp at hi; omega
    rcases hi' with rfl | rfl | rfl
    · exact ⟨a1, c1, by simpa [hlen] using h1, z1, k1.pairs⟩
    · exact ⟨a2, c2, by simpa [hlen] using h2, z2, k2.pairs⟩
    · exact ⟨a3, c3, by simpa [hlen] using h3, z3, k3.pairs⟩)
  rw [ht] at this
  refine this.mono ?_
  rintro e w' ⟨v, rfl, hO, hT⟩
  refine ⟨v, rfl, ?_, hT⟩
  have e : ([kidCells l1, kidCells l2, kidCells l3] : List (List (Value × Value))).flatten = kidCells (l1 ++ (l2 ++ l3)) := by
    simp [kidCells]
  rw [← e]
  exact hO

end Go.Proofs.YthehkckdecckhaaGreatDoor

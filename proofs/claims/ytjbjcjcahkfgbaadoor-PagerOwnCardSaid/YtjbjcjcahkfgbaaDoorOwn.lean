/-
  The law PagerOwn, walked.
-/
import Derived.Test.YtjbjcjcahkfgbaaDoorPknown
import Derived.Deep.RegionHeld3
namespace Go.Proofs.YtjbjcjcahkfgbaaDoor
open Go.RowKit Go.Maps

/-- Bytes in a row that lies in one block. -/
theorem BytesAt.setOwn {w : World} {g off : Nat} {l : List Nat} (h : BytesAt w (some ⟨g, off, none⟩) l) (i : Nat) (hi : i < l.length) (y : Nat) :
    BytesAt (w.setCell ⟨g, off + i, none⟩ (.int .u8 (y : Nat))) (some ⟨g, off, none⟩) (l.set i y) := by
  refine .inr ⟨g, off, rfl, fun j hj => ?_⟩
  rw [List.length_set] at hj
  obtain ⟨b, off', e, hc⟩ := h.at hj
  obtain ⟨rfl, rfl⟩ : b = g ∧ off' = off := by
    have := Option.some.inj e
    exact ⟨(congrArg Addr.block this).symm, (congrArg Addr.off this).symm⟩
  by_cases hij : i = j
  · subst hij
    rw [World.cell?_setCell_same _ _ _ hc, List.getD_eq_getElem?_getD, List.getElem?_set_self hi]
    rfl
  · rw [World.cell?_setCell_other _ _ _ _ (off_ne (by omega)), hc, List.getD_eq_getElem?_getD, List.getElem?_set_ne hij, List.getElem?_eq_getElem hj]
    rfl

/-- What the last statement looks at. -/
structure OwnIn (w0 : World) (y a : Option Addr) (l : List Nat) (p b sm rb N : Nat) (dd ll : Int) (q : Pg) (w : World) : Prop where
  hy : BytesAt w y l
  hb : BytesAt w a l
  hp : PgAt w p b sm rb N dd ll q
  ht : Turn [] w0 w
theorem OwnIn.turn {w0 : World} {y a : Option Addr} {l : List Nat} {p b sm rb N : Nat} {dd ll : Int} {q : Pg} {w w' : World} (h : OwnIn w0 y a l p b sm rb N dd ll q w) (hT : Turn [] w w') : OwnIn w0 y a l p b sm rb N dd ll q w' :=
  ⟨h.hy.turn hT (by simp), h.hb.turn hT (by simp), h.hp.turn0 hT, h.ht.then hT (by simp)⟩
theorem OwnIn.all {w0 : World} {y a : Option Addr} {l : List Nat} {p b sm rb N : Nat} {dd ll : Int} {q : Pg} {w : World} (cap : Nat) (h : OwnIn w0 y a l p b sm rb N dd ll q w) :
    (convert 34 9 (.slice y l.length l.length)).run Tryd.prog w = .ok (.string (textOf l)) w ∧ (convert 34 9 (.slice a l.length cap)).run Tryd.prog w = .ok (.string (textOf l)) w ∧ OwnIn w0 y a l p b sm rb N dd ll q w :=
  ⟨text_at h.hy _ _ rfl, text_at h.hb _ _ rfl, h⟩
theorem root_own {w0 : World} {y a : Option Addr} {l : List Nat} {p b sm rb N : Nat} {dd ll : Int} {q : Pg} {tn : Nat} (hq : q.root = [tn]) (w : World) (h : OwnIn w0 y a l p b sm rb N dd ll q w) :
    Calls Tryd.prog 22 #[.pointer (some ⟨p, 0, none⟩)] w fun e w' => ∃ a' c', e = .returned (.slice a' 1 c') ∧ BytesAt w' a' [tn] ∧ OwnIn w0 y a l p b sm rb N dd ll q w' ∧ Turn [] w w' := by
  refine (root_any p b sm rb N dd ll q (by rw [hq]; show 1 ≤ 64; omega) w h.hp).mono ?_
  rintro e w' ⟨a', c', rfl, hB, _, hT⟩
  rw [hq] at hB ⊢
  exact ⟨a', c', rfl, hB, h.turn hT, hT⟩

set_option maxRecDepth 100000 in
set_option maxHeartbeats 3200000 in
theorem own_any (a : Option Addr) (cap : Nat) (l : List Nat) (tn : Nat) (ht : tn < 256) (hlen : l.length ≤ maxLen) (hnil : a = none → cap = 0) (hby : ∀ x ∈ l, x < 256) (w : World) (hTab : Tab w) (hB : BytesAt w a l) :
    Calls Tryd.prog 7 #[.slice a l.length cap, .int .u8 (tn : Nat)] w fun e w' => e = .returned (.bool true) ∧ Turn [] w w' := by
  have HTab := hide hTab
  have HB := hide hB
  have HBy := hide hby
  unfold maxLen at hlen
  clear hTab hB hby
  go_enter Tryd.func7, Tryd.ntmps7
  go_wp2_with fail
  refine (known_any w HTab.out).mono ?_
  rintro e w1 ⟨rfl, hT1⟩
  have HTab1 := hide (HTab.out.turn hT1 (by simp))
  have HB1 := hide (HB.out.turn hT1 (by simp))
  by_cases hl : 496 < l.length
  · go_wp2_with fail
    go_ret
    exact ⟨rfl, hT1⟩
  · go_wp2_with fail
    refine (new_any 100 (by omega) (by omega) w1).mono ?_
    rintro e w3 ⟨rfl, hD3, hT3, hs3⟩
    have HD3 := hide hD3
    have HTab3 := hide (HTab1.out.turn hT3 (by simp))
    have HB3 := hide (HB1.out.turn hT3 (by simp))
    have hs3' : w1.heap.size + 1 < w3.heap.size := by omega
    have hs0 : 0 < w1.heap.size := lt_of_cell (HTab1.out 0 (by omega))
    have hT03 : Turn [] w w3 := hT1.then hT3 (by simp)
    have h1s := hT1.size
    clear hD3 hs3 hT3 hT1
    generalize hm : w1.heap.size = m at *
    clear hm
    go_wp2_with fail
    refine (open_any (m + 1) m (St.new 100) 0 [] (fun _ => false) (Laid.new (by omega) (by omega)) rfl w3 HD3.out HTab3.out ⟨by omega, hs0⟩).mono ?_
    rintro e w4 ⟨p, sm, rb, hp1, hp2, hp3, hp4, rfl, hA4, hT4⟩
    have hpl4 := hA4.pg.lt
    have hsl4 := hA4.pg.lts
    have HA4 := hide hA4
    have HBA := hide ((HB3.out.turn hT4 (by simp)).turn ((Turn.refl [] w4).alloc (.cells #[] 5)) (by simp))
    have hown : (w4.alloc (.cells #[] 5)).ownsRow w4.heap.size 5 1 (.slice (some ⟨w4.heap.size, 0, none⟩) 0 0) 0 (([] : List Nat).map byteCell) := World.ownsRow_made w4 #[] 0 (Nat.le_refl _) (Nat.zero_le _) rfl
    have HOWN := hide hown
    have hT04 : Turn [] w w4 := hT03.then hT4 (by simp)
    have hxa := fun x => HB.out.lt x
    have HXa := hide hxa
    clear hA4 hown hxa
    go_wp2_with (at_builtin; refine append_bytes rfl _ _ rfl w4.heap.size (.slice (some ⟨w4.heap.size, 0, none⟩) 0 0) 0 [] rfl HOWN.out a l.length cap l rfl rfl hnil HBA.out (by omega) (by simp) ?_; intro v w5 hown5 hgrow5 hnil5)
    have hvn : v ≠ .slice none 0 0 := by
      intro e
      have := hnil5
      simp [e] at this
    obtain ⟨g, cg, hv, hng, hg, hgl, hbg, hfg⟩ := own_some (l := l) (by simpa using hown5) hvn
    have hT45 : Turn [] w4 w5 := ((Turn.refl [] w4).alloc _).grown hgrow5 (by intro k hk; right; simp [Value.ownBlock] at hk; omega)
    have HA5 := hide (HA4.out.turn0 hT45)
    have hT05 : Turn [] w w5 := hT04.then hT45 (by simp)
    have HBG := hide hbg
    have HFG := hide hfg
    have h45s := hT45.size
    have HBa5 := hide (HB.out.turn hT05 (by simp))
    rw [hv]
    clear hv hown5 hgrow5 hbg hfg hnil5 hvn hng HOWN HBA HA4 hT45
    go_wp2_with fail
    refine (alloc_any p (m + 1) m sm rb (St.new 100) _ rfl rfl (by show 0 < 1000000000; omega) (by show 0 < 1000000; omega) _ cg l l.length rfl (by omega) HBy.out w5 HBG.out (fun x _ hx => by obtain rfl := Option.some.inj hx; show g ≠ p; omega) HA5.out).mono ?_
    rintro e w6 hpost
    have hfull : ¬ ∀ k, k < 16384 → (Pg.mk false 0 [] (fun _ => false) (fun _ => 0) false 0).tk (St.new 100).n k = true := fun h => by
      have := h 4 (by omega)
      rw [isTk4 (by show 4 < 100; omega) rfl rfl] at this
      cases this
    rcases hpost with ⟨_, h, _⟩ | ⟨k, rfl, hNx, _, hA6, hT6⟩ | ⟨k, _, _, h, _⟩
    · exact absurd h hfull
    · have hkN : k < 100 := hNx.range.2.1
      have hk4 := hNx.range.1
      have hS6 : g ∉ [p, m + 1, m, sm] := by simp; omega
      have HBG6 := hide ((HBG.out.turn hT6 (fun x _ hx => by obtain rfl := Option.some.inj hx; exact hS6)).turn ((Turn.refl [] w6).alloc (.cells #[.int .u8 (tn : Nat)] 5)) (by simp))
      have HFG6 : Hid (∀ o, (w6.alloc (.cells #[.int .u8 (tn : Nat)] 5)).frozen? ⟨g, o, none⟩ = false) := fun o => (World.frozen?_of_block (a := ⟨g, o, none⟩) ((((Turn.refl [] w6).alloc (.cells #[.int .u8 (tn : Nat)] 5)) : Turn [] w6 _).block g (by have := hT6.size; omega) (by simp))).trans ((World.frozen?_of_block (a := ⟨g, o, none⟩) (hT6.block g hgl hS6)).trans (HFG.out o))
      have HA6 := hide (hA6.turn0 ((Turn.refl [] w6).alloc (.cells #[.int .u8 (tn : Nat)] 5)))
      have HRt := hide (one_byte w6 tn)
      have hT06 : Turn [] w (w6.alloc (.cells #[.int .u8 (tn : Nat)] 5)) := (hT05.then hT6 (by simp; omega)).alloc _
      have h6s := hT6.size
      have h7s : w6.heap.size < (w6.alloc (.cells #[.int .u8 (tn : Nat)] 5)).heap.size := by simp
      have hr0 : (w6.alloc (.cells #[.int .u8 (tn : Nat)] 5)).cell? ⟨w6.heap.size, 0, none⟩ = some (.int .u8 (tn : Nat)) := World.cell?_alloc_at _ _ _ _ rfl
      have hrf : (w6.alloc (.cells #[.int .u8 (tn : Nat)] 5)).frozen? ⟨w6.heap.size, 0, none⟩ = false := World.frozen?_alloc_at _ _ _ _ rfl
      clear hA6 hT6 hNx hfull HBG HFG HA5
      go_wp2_with fail
      generalize hw7 : w6.alloc (.cells #[.int .u8 (tn : Nat)] 5) = w7 at *
      generalize hr : w6.heap.size = r at *
      clear hw7
      go_loopw [13] (fun i wr => ∃ (j : Nat) (lr : List Nat), j ≤ l.length ∧ i = .int .i64 j ∧ lr.length = l.length ∧ (∀ x ∈ lr, x < 256) ∧ BytesAt wr (some ⟨g, 0, none⟩) lr ∧ (∀ o, wr.frozen? ⟨g, o, none⟩ = false) ∧ Turn [g] w7 wr) (fun i _ => l.length - (intOf i).toNat)
      case atStart => exact ⟨0, l, Nat.zero_le _, rfl, rfl, HBy.out, HBG6.out, HFG6.out, Turn.refl _ _⟩
      case round =>
        obtain ⟨j, lr, hj, rfl, hlr, hby, hBr, hfr, hTr⟩ := hrel
        by_cases hjl : j < l.length
        · have hc := hBr.cell0 (i := j) (by omega)
          have hz := hfr j
          have HFr := hide hfr
          clear hfr
          have hx := hby _ (List.getElem_mem (show j < lr.length by omega))
          have hxo := u8_xor_nat _ _ hx ht
          have hxl : lr[j] ^^^ tn < 256 := Nat.xor_lt_two_pow (n := 8) hx ht
          have HBs := hide (hBr.set j (by omega) (lr[j] ^^^ tn))
          have HBy2 : Hid (∀ x ∈ lr.set j (lr[j] ^^^ tn), x < 256) := fun x hx => by
            rcases List.mem_or_eq_of_mem_set hx with h | h
            · exact hby x h
            · rw [h]; exact hxl
          have HLs : Hid ((lr.set j (lr[j] ^^^ tn)).length = l.length) := by show _ = _; rw [List.length_set]; exact hlr
          clear hBr hby
          generalize lr[j] = z at *
          generalize hxv : z ^^^ tn = y at *
          clear hxv
          have HLr := hide hlr
          clear hlr
          go_wp2_with fail
          go_roundw
          case rel => exact ⟨j + 1, _, by omega, by go_num, HLs.out, HBy2.out, HBs.out, fun o => by rw [World.frozen?_setCell]; exact HFr.out o, hTr.setCell (List.mem_singleton.2 rfl) _ _⟩
          case measure => simp [intOf]; omega
        · have hsg : ∀ x : Nat, x < w4.heap.size → x ∉ [g] := fun x hx => by simp; omega
          have HAr := hide (HA6.out.turn hTr (hsg 0 (by omega)) (hsg p (by omega)) (hsg (m + 1) (by omega)) (hsg m (by omega)) (hsg sm (by omega)) (hsg rb (by omega)))
          have hrg : r ∉ [g] := by simp; omega
          have HRr := hide (HRt.out.turn hTr (fun x _ hx => by obtain rfl := Option.some.inj hx; exact hrg))
          have hrr0 := (hTr.cell (p := ⟨r, 0, none⟩) h7s hrg).trans hr0
          have hrrf := (World.frozen?_of_block (a := ⟨r, 0, none⟩) (hTr.block r h7s hrg)).trans hrf
          have hT0r : Turn [] w wr := hT06.then hTr (by simp; omega)
          have hrs := hTr.size
          have HFk : Hid (((St.new 100).did k (bytesOf 512 (pageB l))).f k = bytesOf 512 (pageB l)) := St.did_f_same _ _ _
          have hlN : l.length ≤ 496 := by omega
          clear HA6 HRt HBG6 HFG6 hTr hBr hfr hby hlr hr0 hrf
          obtain rfl : j = l.length := by omega
          clear hj hjl
          go_wp2_with fail
          refine (commit_any p (m + 1) m sm rb _ _ rfl rfl (by show 0 + 1 < 999990; omega) _ 1 [tn] 1 rfl (by omega) (by simp; exact ht) (by simp) wr HAr.out HRr.out (fun x _ hx => by obtain rfl := Option.some.inj hx; show r ≠ p; omega) (by omega)).mono ?_
          rintro e w8 hpost
          rcases hpost with ⟨rfl, _, _, ⟨s8, sm8, rb8, hd8, hn8, hk8, hl8, hf8, hsm8, hrb8, hrb8l, hA8⟩, hT8⟩ | ⟨_, h, _⟩
          · have hr8 : r ∉ [p, m + 1, m] := by simp; omega
            have hr80 := (hT8.cell (p := ⟨r, 0, none⟩) (show r < wr.heap.size by omega) hr8).trans hrr0
            have hr8f := (World.frozen?_of_block (a := ⟨r, 0, none⟩) (hT8.block r (show r < wr.heap.size by omega) hr8)).trans hrrf
            have hxo := u8_xor_nat tn 255 ht (by decide)
            have HF8 : Hid (s8.f k = bytesOf 512 (pageB l)) := by show _ = _; rw [hf8 k hk4]; exact HFk.out
            have HN8 : Hid (s8.n = 100) := hn8
            have hT9 : Turn [r] w8 (w8.setCell ⟨r, 0, none⟩ (.int .u8 ((tn ^^^ 255 : Nat) : Int))) := (Turn.refl [r] w8).setCell (List.mem_singleton.2 rfl) _ _
            have HA9 := hide (hA8.turn hT9 (by simp; omega) (by simp; omega) (by simp; omega) (by simp; omega) (by simp; omega) (by simp; omega))
            have hT09 : Turn [] w (w8.setCell ⟨r, 0, none⟩ (.int .u8 ((tn ^^^ 255 : Nat) : Int))) := (hT0r.then hT8 (by simp; omega)).then hT9 (by simp; omega)
            have h8s := hT8.size
            have h9s := hT9.size
            generalize hxv : tn ^^^ 255 = tx at *
            clear hxv hT8 hA8 hf8 hn8 hl8 hk8 HAr HRr hrr0 hrrf hT9
            have hxo' : bits .xor .u8 (tn : Int) 255 = (tx : Int) := hxo
            clear hxo
            have Hth : Hid (((Pg.alloced ⟨false, 0, [], fun _ => false, fun _ => 0, false, 0⟩ k).committed [tn]).thereI s8.n (k : Nat) = true) := by
              show _ = _
              unfold Pg.thereI
              rw [HN8.out]
              have h1 : (4 : Int) ≤ (k : Int) := by omega
              have h2 : (k : Int) < ((100 : Nat) : Int) := by omega
              rw [decide_eq_true h1, decide_eq_true h2]
              show (true && true && ((Pg.there _ k || _) && _)) = true
              rw [Pg.alloced_there]
              rfl
            go_wp2_with fail
            generalize hw9 : w8.setCell ⟨r, 0, none⟩ (.int .u8 (tx : Int)) = w9 at *
            clear hw9
            refine (read_yes p (m + 1) m sm8 rb8 s8 _ hd8 rfl k Hth.out l hlN HF8.out w9 HA9.out).mono ?_
            rintro e w10 ⟨g2, o2, hg1, hg2, rfl, hB10, hF10, hA10, hT10⟩
            have HB10 := hide hB10
            have HF10 := hide hF10
            have HA10 := hide hA10
            have hT010 : Turn [] w w10 := hT09.then hT10 (by simp; omega)
            have hpl9 := HA9.out.pg.lt
            have hsl9 := HA9.out.pg.lts
            have hbl9 := HA9.out.disk.lt
            have hml9 := HA9.out.disk.ltm
            clear hB10 hF10 hA10 hT10
            go_wp2_with fail
            go_loopw [17] (fun i wr => ∃ (j : Nat) (lr : List Nat), j ≤ l.length ∧ i = .int .i64 j ∧ lr.length = l.length ∧ (∀ x ∈ lr, x < 256) ∧ BytesAt wr (some ⟨g2, o2, none⟩) lr ∧ (∀ o, wr.frozen? ⟨g2, o, none⟩ = false) ∧ Turn [g2] w10 wr) (fun i _ => l.length - (intOf i).toNat)
            case atStart => exact ⟨0, l, Nat.zero_le _, rfl, rfl, HBy.out, HB10.out, HF10.out, Turn.refl _ _⟩
            case round =>
              obtain ⟨j, lr, hj, rfl, hlr, hby, hBr, hfr, hTr⟩ := hrel
              by_cases hjl : j < l.length
              · obtain ⟨b', off', e', hc⟩ := hBr.at (k := j) (by omega)
                obtain ⟨rfl, rfl⟩ : b' = g2 ∧ off' = o2 := by
                  have := Option.some.inj e'
                  exact ⟨(congrArg Addr.block this).symm, (congrArg Addr.off this).symm⟩
                have hz := hfr (off' + j)
                have HFr := hide hfr
                clear hfr e'
                have hx := hby _ (List.getElem_mem (show j < lr.length by omega))
                have hxo := u8_xor_nat _ _ hx ht
                have hxl : lr[j] ^^^ tn < 256 := Nat.xor_lt_two_pow (n := 8) hx ht
                have HBs := hide (hBr.setOwn j (by omega) (lr[j] ^^^ tn))
                have HBy2 : Hid (∀ x ∈ lr.set j (lr[j] ^^^ tn), x < 256) := fun x hx => by
                  rcases List.mem_or_eq_of_mem_set hx with h | h
                  · exact hby x h
                  · rw [h]; exact hxl
                have HLs : Hid ((lr.set j (lr[j] ^^^ tn)).length = l.length) := by show _ = _; rw [List.length_set]; exact hlr
                clear hBr hby
                generalize lr[j] = z at *
                generalize hxv : z ^^^ tn = y at *
                clear hxv
                have HLr := hide hlr
                clear hlr
                go_wp2_with fail
                go_roundw
                case rel => exact ⟨j + 1, _, by omega, by go_num, HLs.out, HBy2.out, HBs.out, fun o => by rw [World.frozen?_setCell]; exact HFr.out o, hTr.setCell (List.mem_singleton.2 rfl) _ _⟩
                case measure => simp [intOf]; omega
              · have hsg : ∀ x : Nat, x < w9.heap.size → x ∉ [g2] := fun x hx => by simp; omega
                have HAr := hide (HA10.out.turn hTr (hsg 0 (by omega)) (hsg p (by omega)) (hsg (m + 1) (by omega)) (hsg m (by omega)) (hsg sm8 (by omega)) (hsg rb8 (by omega)))
                have hT0r2 : Turn [] w wr := hT010.then hTr (by simp; omega)
                have hrs2 := hTr.size
                obtain rfl : j = l.length := by omega
                clear HB10 HF10 HA10 hTr hBr hfr hby hlr hj hjl
                go_wp2_with fail
                refine (read_yes p (m + 1) m sm8 rb8 s8 _ hd8 rfl k Hth.out l hlN HF8.out wr HAr.out).mono ?_
                rintro e w12 ⟨g3, o3, hg31, hg32, rfl, hB12, _, hA12, hT12⟩
                have HA12 := hide hA12
                have hT012 : Turn [] w w12 := hT0r2.then hT12 (by simp; omega)
                obtain ⟨q, dd, hqr, hI⟩ : ∃ (q : Pg) (dd : Int), q.root = [tn] ∧ OwnIn w (some ⟨g3, o3, none⟩) a l p (m + 1) sm8 rb8 s8.n dd 0 q w12 := ⟨_, _, rfl, hB12, HB.out.turn hT012 (by simp), hA12.pg, hT012⟩
                clear hA12 hB12 hT12 hT012 hT0r2 HAr HA12 hrs2 hsg Hth HF8 HN8 hT010 hpl9 hsl9 hbl9 hml9 hT09 h8s h9s hd8 hsm8 hrb8 hrb8l HTab HB HBy HTab1 HB1 HTab3 HB3 HD3 hT03 hT04 HXa hT05 HBa5 hT06 hT0r HFk HA9 hxo' hr80 hr8f
                generalize s8.n = N8 at *
                have HQ := hide hqr
                clear hqr
                go_wp2_with fail
                have hct0 : (convert 34 9 (.slice (some ⟨w12.heap.size, 0, none⟩) 1 1)).run Tryd.prog (w12.alloc (.cells #[.int .u8 (tn : Nat)] 5)).drew = .ok (.string (textOf [tn])) (w12.alloc (.cells #[.int .u8 (tn : Nat)] 5)).drew := text_at ((one_byte w12 tn).turn (Turn.refl [] _).drew (by simp)) 1 1 rfl
                refine wp_region_noPanic ?_
                go_region_held (fun w' => (convert 34 9 (.slice (some ⟨g3, o3, none⟩) l.length l.length)).run Tryd.prog w' = .ok (.string (textOf l)) w' ∧ (convert 34 9 (.slice a l.length cap)).run Tryd.prog w' = .ok (.string (textOf l)) w' ∧ OwnIn w (some ⟨g3, o3, none⟩) a l p (m + 1) sm8 rb8 N8 dd 0 q w') (first | assumption | (exact OwnIn.all cap hI13) | (exact OwnIn.all cap (hI13.turn ((Turn.refl [] _).alloc _))) | (exact OwnIn.all cap (hI.turn (Turn.refl [] _).drew)) | (exact OwnIn.all cap (hI.turn ((Turn.refl [] _).alloc _).drew)))
                  (first
                  | (go_at_call 22; refine (root_own HQ.out w12.drew (hI.turn (Turn.refl [] _).drew)).mono ?_; rintro e w13 ⟨a13, c13, rfl, hB13, hI13, hT13⟩; have hcr := text_at hB13 1 c13 rfl; have hcr2 := text_at (hB13.turn ((Turn.refl [] w13).alloc (.cells #[.int .u8 (tn : Nat)] 5)) (by simp)) 1 c13 rfl; have hct := text_at (one_byte w13 tn) 1 1 rfl; clear hB13 hT13)
                  | (go_at_call 22; refine (root_own HQ.out (w12.alloc (.cells #[.int .u8 (tn : Nat)] 5)).drew (hI.turn ((Turn.refl [] _).alloc _).drew)).mono ?_; rintro e w13 ⟨a13, c13, rfl, hB13, hI13, hT13⟩; have hcr := text_at hB13 1 c13 rfl; have hct : (convert 34 9 (.slice (some ⟨w12.heap.size, 0, none⟩) 1 1)).run Tryd.prog w13 = .ok (.string (textOf [tn])) w13 := text_at (((one_byte w12 tn).turn (Turn.refl [] _).drew (by simp)).turn hT13 (by simp)) 1 1 rfl; clear hB13 hT13))
                all_goals (refine NoPanic.normal ?_; go_wp2_with fail; go_ret; first | exact ⟨rfl, hI13.ht⟩ | exact ⟨rfl, hI13.ht.alloc _⟩)
          · exact absurd h (by show ¬ ((-1 : Int) = 0 ∨ (-1 : Int) = 1); omega)
    · exact absurd h (by show ¬ (-1 : Int) = 0; omega)
end Go.Proofs.YtjbjcjcahkfgbaaDoor

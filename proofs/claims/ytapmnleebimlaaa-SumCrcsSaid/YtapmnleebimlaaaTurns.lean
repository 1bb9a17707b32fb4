/-
  The law SumTurns, walked: it returns true, and nothing that was there is written.
-/
import Derived.Test.YtapmnleebimlaaaAdd
namespace Go.Proofs.Ytapmnleebimlaaa
open Go.RowKit

/-- A byte as a cell. -/
def byteCell (x : Nat) : Value := .int .u8 (x : Nat)

theorem info5 : (Try.prog.info? 5).map (fun i => (i.zero, i.size, i.bytes)) = some (some (.int .u8 0), 1, 1) := by kernel_rfl

/-- A row of the call's own that is not empty: where it lies. -/
theorem own_bytes {w : World} {base : Nat} {v : Value} {n : Nat} {l : List Nat} (h : w.ownsRow base 5 1 v n (l.map byteCell)) (hn : 0 < n) :
    ∃ g cap, v = .slice (some ⟨g, 0, none⟩) l.length cap ∧ n = l.length ∧ base ≤ g ∧ g < w.heap.size ∧ BytesAt w (some ⟨g, 0, none⟩) l ∧ ∀ o, w.frozen? ⟨g, o, none⟩ = false := by
  obtain ⟨hl, h | ⟨g, cap, cur, rfl, hb, hg, hnc, hm, hsz, hcur⟩⟩ := h
  · omega
  · have e : n = l.length := by simpa using hl.symm
    have hlt : g < w.heap.size := by
      rcases Nat.lt_or_ge g w.heap.size with h | h
      · exact h
      · rw [Array.getElem?_eq_none h] at hg; cases hg
    refine ⟨g, cap, by rw [e], e, hb, hlt, .inr ⟨g, 0, rfl, fun i hi => ?_⟩, fun o => ?_⟩
    · unfold World.cell?
      rw [hg]
      show cur[0 + i]? = _
      have h1 : (cur.toList.take (n * 1))[i]? = (l.map byteCell)[i]? := by rw [hcur]
      rw [List.getElem?_take, if_pos (by omega), List.getElem?_map, List.getElem?_eq_getElem hi] at h1
      rw [Nat.zero_add, ← Array.getElem?_toList, h1, List.getD_eq_getElem?_getD, List.getElem?_eq_getElem hi]
      rfl
    · unfold World.frozen?
      rw [hg]
      simp

theorem BytesAt.set {w : World} {g : Nat} {l : List Nat} (h : BytesAt w (some ⟨g, 0, none⟩) l) (i : Nat) (hi : i < l.length) (y : Nat) :
    BytesAt (w.setCell ⟨g, i, none⟩ (.int .u8 (y : Nat))) (some ⟨g, 0, none⟩) (l.set i y) := by
  refine .inr ⟨g, 0, rfl, fun j hj => ?_⟩
  rw [List.length_set] at hj
  obtain ⟨b, off, e, hc⟩ := h.at hj
  obtain ⟨rfl, rfl⟩ : b = g ∧ off = 0 := by
    have := Option.some.inj e
    exact ⟨(congrArg Addr.block this).symm, (congrArg Addr.off this).symm⟩
  rw [Nat.zero_add] at hc ⊢
  by_cases hij : i = j
  · subst hij
    rw [World.cell?_setCell_same _ _ _ hc, List.getD_eq_getElem?_getD, List.getElem?_set_self hi]
    rfl
  · rw [World.cell?_setCell_other _ _ _ _ (off_ne hij), hc, List.getD_eq_getElem?_getD, List.getElem?_set_ne hij, List.getElem?_eq_getElem hj]
    rfl

theorem crc_set (l : List Nat) (i y : Nat) (hi : i < l.length) (hl : ∀ x ∈ l, x < 256) (hy : y < 256) (hne : l[i] ≠ y) : Crc.crc (l.set i y) ≠ Crc.crc l := by
  rw [List.set_eq_take_append_cons_drop, if_pos hi]
  have e : l = l.take i ++ l[i] :: l.drop (i + 1) := by rw [← List.drop_eq_getElem_cons hi, List.take_append_drop]
  have := Crc.crc_turned (l.take i) (l.drop (i + 1)) l[i] y (fun x hx => hl x (List.mem_of_mem_take hx)) (fun x hx => hl x (List.mem_of_mem_drop hx)) (hl _ (List.getElem_mem hi)) hy hne
  rw [← e] at this
  exact fun h => this h.symm

theorem set_lt (l : List Nat) (i y : Nat) (hl : ∀ x ∈ l, x < 256) (hy : y < 256) : ∀ x ∈ l.set i y, x < 256 := by
  intro x hx
  rcases List.mem_or_eq_of_mem_set hx with h | h
  · exact hl x h
  · omega

theorem turned (x y : Nat) (hx : x < 256) (hy : y < 256) : bits .xor .u8 (x : Int) (y : Int) = ((x ^^^ y : Nat) : Int) := u8_xor_nat x y hx hy

theorem src_bytes {w : World} {b off : Nat} {l : List Nat} (h : BytesAt w (some ⟨b, off, none⟩) l) : ∀ j u, (l.map byteCell)[j]? = some u → w.cell? ((⟨b, off, none⟩ : Addr).add j) = some u := by
  intro j u hj
  rw [List.getElem?_map] at hj
  by_cases hlt : j < l.length
  · rw [List.getElem?_eq_getElem hlt] at hj
    obtain ⟨b', off', e, hc⟩ := h.at hlt
    obtain ⟨rfl, rfl⟩ : b' = b ∧ off' = off := by
      have := Option.some.inj e
      exact ⟨(congrArg Addr.block this).symm, (congrArg Addr.off this).symm⟩
    rw [add_spot, hc]
    exact hj
  · rw [List.getElem?_eq_none (by omega)] at hj
    cases hj

theorem src_one (l : List Nat) : ∀ u ∈ l.map byteCell, u.oneCell' = true := by
  intro u hu
  obtain ⟨x, _, rfl⟩ := List.mem_map.1 hu
  rfl

theorem crc_at (a : Option Addr) (cap n : Nat) (l : List Nat) (hn : l.length = n) (hl : n ≤ maxLen) (hb : ∀ x ∈ l, x < 256) (w : World) (hm : BytesAt w a l) :
    Calls Try.prog 11 #[.slice a n cap] w fun e w' => e = .returned (.int .u32 (Crc.crc l : Nat)) ∧ Below w.heap.size w w' := by
  subst hn; exact crc_any a cap l hl hb w hm

theorem ref_at (a : Option Addr) (cap n : Nat) (l : List Nat) (hn : l.length = n) (hl : n ≤ maxLen) (hb : ∀ x ∈ l, x < 256) (w : World) (hm : BytesAt w a l) :
    Calls Try.prog 10 #[.slice a n cap] w fun e w' => e = .returned (.int .u32 (Crc.crc l : Nat)) ∧ w' = w := by
  subst hn; exact ref_any a cap l hl hb w hm

theorem turned_lt (x y : Nat) (hx : x < 256) (hy : y < 256) : x ^^^ y < 256 := Nat.xor_lt_two_pow (n := 8) hx hy

theorem turned_ne (x y : Nat) (hy : 0 < y) : x ≠ x ^^^ y := by
  intro h
  have : x ^^^ 0 = x ^^^ y := by rw [Nat.xor_zero]; exact h
  have := Crc.cancel_left this
  omega

set_option maxRecDepth 100000 in
set_option maxHeartbeats 1000000 in
theorem turns_any (l : List Nat) (b off cap : Nat) (n y : Nat) (w : World) (hl : ∀ x ∈ l, x < 256) (hlen : l.length ≤ 2000) (hpos : 0 < l.length) (hm : BytesAt w (some ⟨b, off, none⟩) l)
    (hn : n < 9223372036854775808) (hy0 : 0 < y) (hy : y < 256) :
    Calls Try.prog 4 #[.slice (some ⟨b, off, none⟩) l.length cap, .int .i64 n, .int .u8 y] w fun e w' => e = .returned (.bool true) ∧ Below w.heap.size w w' := by
  have hnot : ∀ (x : Bool) (w : World), (Op.unary .not (.bool x)).run Try.prog w = .ok (.bool (!x)) w := fun _ _ => rfl
  have t1 : ((l.length : Int) == 0) = false := by rw [beq_eq_false_iff_ne]; omega
  have t2 : decide (2000 < (l.length : Int)) = false := by simp; omega
  have t3 : decide ((n : Int) < 0) = false := by simp
  have t4 : ((y : Int) == 0) = false := by rw [beq_eq_false_iff_ne]; omega
  have HM : Hid (BytesAt w (some ⟨b, off, none⟩) l) := hm
  obtain ⟨i0, hi, hz0, hz1, hz2⟩ := info_parts info5
  clear hm
  go_enter Try.func4, Try.ntmps4
  go_wp2_with fail
  refine (known_any _).mono ?_
  rintro e w1 ⟨rfl, hW1⟩
  have hm1 : BytesAt (w1.alloc (.cells #[] 5)) (some ⟨b, off, none⟩) l := (HM.out.keep fun x hq hx => hW1.block _ (HM.out.lt x hq hx)).keep fun x hq hx => Below.heap_alloc w1 _ _ (Nat.lt_of_lt_of_le (HM.out.lt x hq hx) hW1.size)
  have hown : (w1.alloc (.cells #[] 5)).ownsRow w.heap.size 5 1 (.slice (some ⟨w1.heap.size, 0, none⟩) 0 0) 0 [] := World.ownsRow_made w1 #[] 0 hW1.size (Nat.zero_le _) rfl
  go_wp2_with (at_builtin; refine wpList_append_own _ rfl _ _ 28 rfl w.heap.size 5 i0 (.int .u8 0) 1 1 Try.underlying28 hi hz0 hz1 hz2 rfl (by decide) _ _ _ rfl hown ⟨b, off, none⟩ l.length cap (l.map byteCell) rfl ?c0 ?c1 ?c2 ?c3 ?c4 ?c5 ?_)
  case c0 => simp
  case c1 => exact src_bytes hm1
  case c2 => exact src_one l
  case c3 => unfold maxLen; omega
  case c4 => omega
  case c5 => have := hW1.size; simp; omega
  intro v w2 hown2 hgrow _
  have hown3 : w2.ownsRow w.heap.size 5 1 v l.length (l.map byteCell) := by simpa using hown2
  obtain ⟨g, cap2, hv, _, hg, hgl, hbg, hfz⟩ := own_bytes hown3 hpos
  rw [hv]
  have hW2 : Below w.heap.size w w2 := ((hW1.alloc hW1.size _).grown hgrow (by have := hW1.size; simp; omega) (fun k hk => by simp [Value.ownBlock] at hk; have := hW1.size; omega))
  have hlt : n % l.length < l.length := Nat.mod_lt _ hpos
  have hc0 : w2.cell? ⟨g, n % l.length, none⟩ = some (.int .u8 (l[n % l.length] : Nat)) := by
    obtain ⟨b', off', e, hc⟩ := hbg.at hlt
    obtain ⟨rfl, rfl⟩ : b' = g ∧ off' = 0 := by
      have := Option.some.inj e
      exact ⟨(congrArg Addr.block this).symm, (congrArg Addr.off this).symm⟩
    rw [Nat.zero_add] at hc
    exact hc
  have hf0 := hfz (n % l.length)
  have hv0 := hl _ (List.getElem_mem hlt)
  have hx := turned _ y hv0 hy
  clear hown2 hown3 hgrow hv hm1 hown
  have hlt' := turned_lt l[n % l.length] y hv0 hy
  have HNE := crc_set l (n % l.length) (l[n % l.length] ^^^ y) hlt hl hlt' (turned_ne _ y hy0)
  have hsl := set_lt l (n % l.length) (l[n % l.length] ^^^ y) hl hlt'
  have hbs := hbg.set (n % l.length) hlt (l[n % l.length] ^^^ y)
  have hlm : l.length ≤ maxLen := by unfold maxLen; omega
  have hset : (l.set (n % l.length) (l[n % l.length] ^^^ y)).length = l.length := List.length_set
  have hW3 : Below w.heap.size w (w2.setCell ⟨g, n % l.length, none⟩ (.int .u8 ((l[n % l.length] ^^^ y : Nat) : Int))) := hW2.setCell hg _
  have HSET := hset
  have HS : Hid ((l.set (n % l.length) (l[n % l.length] ^^^ y)).length = l.length) := hset
  clear hset HSET
  go_wp2_with fail
  clear hx hc0
  generalize hQ : l.set (n % l.length) (l[n % l.length] ^^^ y) = q at *
  generalize hZ : l[n % l.length] ^^^ y = z at *
  generalize hI : n % l.length = i at *
  clear hQ hZ hI
  have hz : i < l.length := hlt
  refine (crc_at (some ⟨g, 0, none⟩) cap2 l.length q HS.out hlm hsl _ hbs).mono ?_
  rintro e w4 ⟨rfl, hW4⟩
  have hgs : g < (w2.setCell ⟨g, i, none⟩ (.int .u8 (z : Nat))).heap.size := by rw [World.size_setCell]; exact hgl
  have hW4' : Below w.heap.size w w4 := hW3.trans (hW4.mono hW3.size)
  have hbq : BytesAt w4 (some ⟨g, 0, none⟩) q := hbs.keep fun x _ hx => by
    obtain rfl := Option.some.inj hx
    exact hW4.block _ hgs
  have hg4 : g < w4.heap.size := Nat.lt_of_lt_of_le hgs hW4.size
  have hbl : BytesAt w4 (some ⟨b, off, none⟩) l := HM.out.keep fun x hq hx => hW4'.block _ (HM.out.lt x hq hx)
  clear hW4 hbs hbg
  go_wp2_with fail
  refine (crc_at (some ⟨b, off, none⟩) cap l.length l rfl hlm hl _ hbl).mono ?_
  rintro e w5 ⟨rfl, hW5⟩
  have hne : (((Crc.crc q : Nat) : Int) != ((Crc.crc l : Nat) : Int)) = true := by rw [bne_iff_ne]; omega
  have hW5' : Below w.heap.size w w5 := hW4'.trans (hW5.mono hW4'.size)
  have hbq5 : BytesAt w5 (some ⟨g, 0, none⟩) q := hbq.keep fun x _ hx => by
    obtain rfl := Option.some.inj hx
    exact hW5.block _ hg4
  have hg5 : g < w5.heap.size := Nat.lt_of_lt_of_le hg4 hW5.size
  clear hW5 hbq hbl
  go_wp2_with fail
  refine (crc_at (some ⟨g, 0, none⟩) cap2 l.length q HS.out hlm hsl _ hbq5).mono ?_
  rintro e w6 ⟨rfl, hW6⟩
  have hW6' : Below w.heap.size w w6 := hW5'.trans (hW6.mono hW5'.size)
  have hbq6 : BytesAt w6 (some ⟨g, 0, none⟩) q := hbq5.keep fun x _ hx => by
    obtain rfl := Option.some.inj hx
    exact hW6.block _ hg5
  clear hW6 hbq5
  go_wp2_with fail
  refine (ref_at (some ⟨g, 0, none⟩) cap2 l.length q HS.out hlm hsl _ hbq6).mono ?_
  rintro e w7 ⟨rfl, rfl⟩
  go_wp2_with fail
  go_ret
  exact ⟨rfl, hW6'⟩

set_option maxHeartbeats 1000000 in
theorem turns_no (a0 : Option Addr) (len cap : Nat) (x1 x2 : Int) (w : World) (hlen : len ≤ 4611686018427387903) (h : len = 0 ∨ 2000 < len ∨ x1 < 0 ∨ x2 = 0) :
    Calls Try.prog 4 #[.slice a0 len cap, .int .i64 x1, .int .u8 x2] w fun e w' => e = .returned (.bool true) ∧ Below w.heap.size w w' := by
  have hnot : ∀ (x : Bool) (w : World), (Op.unary .not (.bool x)).run Try.prog w = .ok (.bool (!x)) w := fun _ _ => rfl
  by_cases h1 : len = 0
  · have t1 : ((len : Int) == 0) = true := by rw [beq_iff_eq]; omega
    clear h h1
    go_enter Try.func4, Try.ntmps4
    go_wp2_with fail
    refine (known_any _).mono ?_
    rintro e w1 ⟨rfl, hW1⟩
    go_wp2_with fail
    go_ret
    exact ⟨rfl, hW1⟩
  · have t1 : ((len : Int) == 0) = false := by rw [beq_eq_false_iff_ne]; omega
    by_cases h2 : 2000 < len
    · have t2 : decide (2000 < (len : Int)) = true := by simp; omega
      clear h h1
      go_enter Try.func4, Try.ntmps4
      go_wp2_with fail
      refine (known_any _).mono ?_
      rintro e w1 ⟨rfl, hW1⟩
      go_wp2_with fail
      go_ret
      exact ⟨rfl, hW1⟩
    · have t2 : decide (2000 < (len : Int)) = false := by simp; omega
      by_cases h3 : x1 < 0
      · have t3 : decide (x1 < 0) = true := by simp; omega
        clear h h1
        go_enter Try.func4, Try.ntmps4
        go_wp2_with fail
        refine (known_any _).mono ?_
        rintro e w1 ⟨rfl, hW1⟩
        go_wp2_with fail
        go_ret
        exact ⟨rfl, hW1⟩
      · have t3 : decide (x1 < 0) = false := by simp; omega
        have t4 : (x2 == 0) = true := by rw [beq_iff_eq]; omega
        clear h h1
        go_enter Try.func4, Try.ntmps4
        go_wp2_with fail
        refine (known_any _).mono ?_
        rintro e w1 ⟨rfl, hW1⟩
        go_wp2_with fail
        go_ret
        exact ⟨rfl, hW1⟩
end Go.Proofs.Ytapmnleebimlaaa

/-
  For every two ints the law TxnViews of the program at this commit returns true and leaves its arguments as they were: a view of a store shows what was committed when it was taken, through as many commits as the law makes (eight at most, of fifteen keys at most), that overwrite and delete all of it. Conditions: the library's table math/bits.deBruijn64tab holds what the program's text lays (the card ties it); none else.
  txn.Open of a new disk, walked: a store of nothing.
  The law's known, walked: a key is put and is seen by the next view, not by the one before.
  The law of TxnViews, walked.
  What the rows' condition gives: the library's table is in its variable; a world that meets the condition.
-/
import Derived.Test.YthgpjkcgccdldaaGreatDoorVB
import Derived.Deep.RegionWith
import Derived.Test.YthgpjkcgccdldaaGreatDoorVC
import Derived.Test.YthgpjkcgccdldaaGreatDoorVD
import Derived.Deep.RegionHeld3
import Derived.Deep.CutRange
import Derived.Test.YthgpjkcgccdldaaGreatDoorBits
import Derived.ProofKit
import Derived.LaidMore
import Derived.OpenShut
import Derived.Stop.Joined
import Derived.Test.YthgpjkcgccdldaaGreatDoorRows
import Derived.Test.YthgpjkcgccdldaaGreatDoorCards
import Derived.Test.YthgpjkcgccdldaaGreatDoorTie
import Derived.ChangeOld
import Derived.Below
import Derived.SevenTiedAt
namespace Go.Proofs.YthgpjkcgccdldaaGreatDoor
open Go.RowKit Go.Maps

set_option maxRecDepth 100000 in
set_option maxHeartbeats 800000 in
theorem pseq {w : World} {p : Nat} {x : Int} (h : w.cell? ⟨p, 4, none⟩ = some (.int .i64 x)) : Calls Tryz.prog 37 #[.pointer (some ⟨p, 0, none⟩)] w fun e w' => e = .returned (.int .i64 x) ∧ w' = w := by
  have HL := hide (aload h)
  clear h
  go_enter Tryz.func37, Tryz.ntmps37
  go_wp2_with fail
  refine HL.out.mono ?_
  rintro e w1 ⟨rfl, e1⟩
  obtain rfl : w = w1 := e1.symm
  go_wp2_with fail
  go_ret
  exact ⟨rfl, rfl⟩

set_option maxRecDepth 100000 in
set_option maxHeartbeats 3200000 in
theorem xopen (O : Nat → Prop) (b m N : Nat) (h1 : 64 ≤ N) (h2 : N ≤ 4096) (w : World) (hD : DiskAt w b m (St.new N)) (hTab : Tab w) (hb0 : 1 < b ∧ 1 < m) (hO : ∀ x, O x → x < w.heap.size) (hn : ¬ O 1 ∧ ¬ O b ∧ ¬ O m) :
    Calls Tryz.prog 10 #[.pointer (some ⟨b, 0, none⟩)] w fun e w' => ∃ st, e = .returned (.tuple #[.pointer (some ⟨st, 0, none⟩), .int .i64 0]) ∧ StoreOk w' O st N 0 0 true none 0 false [] ∧ Turn [] w w' := by
  have HC := hide (open_any b m (St.new N) 0 [] (fun _ => false) (Laid.new h1 h2) rfl w hD hTab hb0)
  have hbl := hD.lt
  have hml := hD.ltm
  have HO := hide hO
  have HN := hide hn
  have hz7 := zero97
  have hz9 := zero99
  clear hD hTab hO hn
  go_enter Tryz.func10, Tryz.ntmps10
  go_wp2_with fail
  refine HC.out.mono ?_
  rintro e w1 ⟨p, sm, rb, hp1, hp2, hp3, hp4, rfl, hA1, hT1⟩
  have HA1 := hide hA1
  have HT1 := hide hT1
  have hpl := hA1.pg.lt
  have hsl := hA1.pg.lts
  have h1s := hT1.size
  clear hA1 hT1
  go_wp2_with fail
  refine (topen_new p b m sm rb (St.new N) ⟨false, 0, [], fun _ => false, fun _ => 0, false, 0⟩ rfl rfl (by simp) w1 hp4 HA1.out).mono ?_
  rintro e w2 ⟨t, r, rfl, ht, hTr2, hA2, hT2⟩
  have HTr2 := hide hTr2
  have HA2 := hide hA2
  have HT2 := hide hT2
  have htl := hTr2.lt
  have h2s := hT2.size
  clear hTr2 hA2 hT2
  go_wp2_with fail
  have hP4 : (((w2.alloc (.cells #[.int .u32 0, .int .i32 0, .int .u32 0, .slice none 0 0] 97)).alloc (.cells #[.pointer (some ⟨p, 0, none⟩), .pointer (some ⟨t, 0, none⟩), .pointer none, .int .i64 0, .int .i64 0, .pointer (some ⟨w2.heap.size, 0, none⟩)] 99))).cell? ⟨p, 4, none⟩ = some (.int .i64 0) := Lib.cell?_alloc_some _ (Lib.cell?_alloc_some _ HA2.out.pg.c4)
  have hcs : ∀ o v, #[Value.pointer (some ⟨p, 0, none⟩), .pointer (some ⟨t, 0, none⟩), .pointer none, .int .i64 0, .int .i64 0, .pointer (some ⟨w2.heap.size, 0, none⟩)][o]? = some v → (((w2.alloc (.cells #[.int .u32 0, .int .i32 0, .int .u32 0, .slice none 0 0] 97)).alloc (.cells #[.pointer (some ⟨p, 0, none⟩), .pointer (some ⟨t, 0, none⟩), .pointer none, .int .i64 0, .int .i64 0, .pointer (some ⟨w2.heap.size, 0, none⟩)] 99))).cell? ⟨w2.heap.size + 1, o, none⟩ = some v := fun o v hv => by
    rw [show w2.heap.size + 1 = (w2.alloc (.cells #[.int .u32 0, .int .i32 0, .int .u32 0, .slice none 0 0] 97)).heap.size by simp]
    exact (World.cell?_alloc_at _ _ _ _ rfl).trans hv
  have hfs : ∀ o, (((w2.alloc (.cells #[.int .u32 0, .int .i32 0, .int .u32 0, .slice none 0 0] 97)).alloc (.cells #[.pointer (some ⟨p, 0, none⟩), .pointer (some ⟨t, 0, none⟩), .pointer none, .int .i64 0, .int .i64 0, .pointer (some ⟨w2.heap.size, 0, none⟩)] 99))).frozen? ⟨w2.heap.size + 1, o, none⟩ = false := fun o => by
    rw [show w2.heap.size + 1 = (w2.alloc (.cells #[.int .u32 0, .int .i32 0, .int .u32 0, .slice none 0 0] 97)).heap.size by simp]
    exact World.frozen?_alloc_at _ _ _ _ rfl
  have hgs : SightAt ((w2.alloc (.cells #[.int .u32 0, .int .i32 0, .int .u32 0, .slice none 0 0] 97)).alloc (.cells #[.pointer (some ⟨p, 0, none⟩), .pointer (some ⟨t, 0, none⟩), .pointer none, .int .i64 0, .int .i64 0, .pointer (some ⟨w2.heap.size, 0, none⟩)] 99)) w2.heap.size 0 (.slice none 0 0) := by
    have hg : SightAt (w2.alloc (.cells #[.int .u32 0, .int .i32 0, .int .u32 0, .slice none 0 0] 97)) w2.heap.size 0 (.slice none 0 0) := ⟨World.cell?_alloc_at _ _ _ _ rfl, World.cell?_alloc_at _ _ _ _ rfl, World.cell?_alloc_at _ _ _ _ rfl, fun o => World.frozen?_alloc_at _ _ _ _ rfl⟩
    exact hg.same (((Turn.refl [] _).alloc _).block _ hg.lt (by simp))
  have hTW : Turn [] w2 ((w2.alloc (.cells #[.int .u32 0, .int .i32 0, .int .u32 0, .slice none 0 0] 97)).alloc (.cells #[.pointer (some ⟨p, 0, none⟩), .pointer (some ⟨t, 0, none⟩), .pointer none, .int .i64 0, .int .i64 0, .pointer (some ⟨w2.heap.size, 0, none⟩)] 99)) := ((Turn.refl [] w2).alloc _).alloc _
  have hWs : ((w2.alloc (.cells #[.int .u32 0, .int .i32 0, .int .u32 0, .slice none 0 0] 97)).alloc (.cells #[.pointer (some ⟨p, 0, none⟩), .pointer (some ⟨t, 0, none⟩), .pointer none, .int .i64 0, .int .i64 0, .pointer (some ⟨w2.heap.size, 0, none⟩)] 99)).heap.size = w2.heap.size + 2 := by simp
  generalize (w2.alloc (.cells #[.int .u32 0, .int .i32 0, .int .u32 0, .slice none 0 0] 97)).alloc (.cells #[.pointer (some ⟨p, 0, none⟩), .pointer (some ⟨t, 0, none⟩), .pointer none, .int .i64 0, .int .i64 0, .pointer (some ⟨w2.heap.size, 0, none⟩)] 99) = W at *
  have h3 : W.cell? ⟨w2.heap.size + 1, 3, none⟩ = some (.int .i64 0) := hcs 3 _ rfl
  have f3 := hfs 3
  have HCs := hide hcs
  have HFs := hide hfs
  have HGs := hide hgs
  have HTW := hide hTW
  have HP4 := hide hP4
  clear hcs hfs hgs hTW hP4
  go_region_with (first | (go_at_call 37; refine (pseq (x := 0) (by exact HP4.out)).mono ?_; rintro e w5 ⟨rfl, rfl⟩) | (go_at_call 36; refine (astore (x := 0) (y := 0) (by exact h3) (by exact f3)).mono ?_; rintro e w6 ⟨rfl, rfl⟩))
  go_wp2_with fail
  go_ret2
  have hTs : Turn [w2.heap.size + 1] W ((W.setCell ⟨w2.heap.size + 1, 3, none⟩ (.int .i64 0)).drew) := ((Turn.refl [w2.heap.size + 1] W).setCell (List.mem_singleton.2 rfl) 3 _).drew
  have hob : StAt W (w2.heap.size + 1) p t none 0 0 w2.heap.size := ⟨HCs.out 0 _ rfl, HCs.out 1 _ rfl, HCs.out 2 _ rfl, HCs.out 3 _ rfl, HCs.out 4 _ rfl, HCs.out 5 _ rfl, HFs.out⟩
  have hob2 : StAt ((W.setCell ⟨w2.heap.size + 1, 3, none⟩ (.int .i64 0)).drew) (w2.heap.size + 1) p t none 0 0 w2.heap.size := (hob.set (cm' := 0) 3 (.int .i64 0) (by omega) rfl rfl rfl rfl).same rfl
  have hgs2 := HGs.out.same (hTs.block w2.heap.size (by omega) (by simp))
  have hT2 : Turn [] w2 ((W.setCell ⟨w2.heap.size + 1, 3, none⟩ (.int .i64 0)).drew) := HTW.out.then hTs (by simp)
  have hsz : ((W.setCell ⟨w2.heap.size + 1, 3, none⟩ (.int .i64 0)).drew).heap.size = w2.heap.size + 2 := (World.size_setCell ..).trans hWs
  generalize (W.setCell ⟨w2.heap.size + 1, 3, none⟩ (.int .i64 0)).drew = W2 at *
  refine ⟨w2.heap.size + 1, rfl, ⟨fun x => O x ∨ x = w2.heap.size ∨ x = w2.heap.size + 1, t, p, w2.heap.size, ⟨⟨b, m, sm, rb, St.new N, noPages r, ⟨none, 0, false, 0, .slice none 0 0⟩, ⟨none, 0, false, 0, .slice none 0 0⟩, none, ⟨HA2.out.turn0 hT2, HTr2.out.turn hT2 (by simp), ⟨by omega, by omega, by omega, by omega, by omega, by omega⟩, by omega, rfl, (by show (-1 : Int) < 0; decide), rfl, Nat.zero_le _, Nat.zero_le _, rfl, rfl, rfl, fun _ => rfl, fun k => by simp [noPages], ?_, ?_, rfl, ?_, .gone rfl rfl rfl rfl⟩, rfl⟩, hob2, fun _ => ⟨hgs2, .inr (.inl rfl), fun ho => ?_⟩, fun x hx => .inl hx, .inr (.inr rfl), fun ho => ?_, by omega, trivial, ?_, by omega⟩⟩, (HT1.out.then HT2.out (by simp; omega)).then hT2 (by simp)⟩
  · intro x hx ho
    have hxl : x < w2.heap.size ∧ (¬ O x) := by
      have hbig : ∀ y, w.heap.size ≤ y → ¬ O y := fun y hy hoy => by have := HO.out y hoy; omega
      simp at hx
      rcases hx with rfl | rfl | rfl | rfl | rfl | rfl | rfl
      · exact ⟨by omega, HN.out.1⟩
      · exact ⟨htl, hbig _ (by omega)⟩
      · exact ⟨by omega, hbig _ hp1⟩
      · exact ⟨by omega, HN.out.2.1⟩
      · exact ⟨by omega, HN.out.2.2⟩
      · exact ⟨by omega, hbig _ hp2⟩
      · exact ⟨by omega, hbig _ hp3⟩
    rcases ho with ho | ho | ho
    · exact hxl.2 ho
    · omega
    · omega
  · intro x hx
    rcases hx with hx | hx | hx
    · have := HO.out x hx; omega
    · omega
    · omega
  · exact ⟨by simp, by simp, List.Pairwise.nil⟩
  · have := HO.out _ ho; omega
  · have := HO.out _ ho; omega
  · intro x hx
    rcases hx with hx | hx | hx
    · have := HO.out x hx; omega
    · omega
    · omega

end Go.Proofs.YthgpjkcgccdldaaGreatDoor

namespace Go.Proofs.YthgpjkcgccdldaaGreatDoor
open Go.RowKit Go.Maps

/-- What was there stays. -/
theorem Keep.olds {O : Nat → Prop} {B : Nat} {w w' : World} (h : Keep O w w') (hO : ∀ x, x < B → x ≠ 1 → O x) : Keep (fun x => x < B) w w' := by
  obtain ⟨X, hT, hX⟩ := h
  exact ⟨X, hT, fun x hx => ⟨fun hl => (hX x hx).1 (hO x hl (hX x hx).2), (hX x hx).2⟩⟩

set_option maxRecDepth 100000 in
set_option maxHeartbeats 3200000 in
theorem known_any (w : World) (hTab : Tab w) (hw : 2 ≤ w.heap.size) : Calls Tryz.prog 8 #[] w fun e w' => e = .returned (.bool true) ∧ Tab w' ∧ w.heap.size ≤ w'.heap.size ∧ Keep (fun x => x < w.heap.size) w w' := by
  have HNew := hide (new_any 256 (by omega) (by omega) w)
  have HTab := hide hTab
  clear hTab
  go_enter Tryz.func8, Tryz.ntmps8
  go_wp2_with fail
  refine HNew.out.mono ?_
  rintro e w1 ⟨rfl, hD, hT1, hs1⟩
  have HOp := hide (xopen (fun x => x < w.heap.size ∧ x ≠ 1) (w.heap.size + 1) w.heap.size 256 (by omega) (by omega) w1 hD (HTab.out.turn hT1 (by simp)) ⟨by omega, by omega⟩ (fun x hx => by omega) ⟨by omega, by omega, by omega⟩)
  have HK1 : Hid (Keep (fun x => x < w.heap.size) w w1) := Keep.of hT1 (by simp)
  clear hD hT1
  go_wp2_with fail
  refine HOp.out.mono ?_
  rintro e w2 ⟨st, rfl, hst, hT2⟩
  have hs2 := hT2.size
  have HK2 : Hid (Keep (fun x => x < w.heap.size) w w2) := HK1.out.then0 hT2
  have HL := hide (xlook hst (by omega))
  clear hst hT2
  go_wp2_with fail
  refine HL.out.mono ?_
  rintro e w3 ⟨v, O1, rfl, hst, hv, hK3, hsub, hlt⟩
  have hs3 := hK3.size
  have HV := hide hv
  have HLt := hide hlt
  have HK3 : Hid (Keep (fun x => x < w.heap.size) w w3) := HK2.out.trans (hK3.olds fun x h1 h2 => ⟨h1, h2⟩)
  have HSub : Hid (∀ x, x < w.heap.size → x ≠ 1 → O1 x) := fun x h1 h2 => hsub x ⟨h1, h2⟩
  have HB := hide (xbegin hst)
  clear hst hv hK3 hsub hlt
  go_wp2_with fail
  refine HB.out.mono ?_
  rintro e w4 ⟨tb, rfl, hst, hK4⟩
  have hs4 := hK4.size
  have HK4 : Hid (Keep (fun x => x < w.heap.size) w w4) := HK3.out.trans (hK4.olds HSub.out)
  have HV4 := hide (HV.out.keep hK4 HLt.out (fun _ h => h))
  have HLt4 : Hid (∀ x, O1 x → x < w4.heap.size) := fun x hx => Nat.lt_of_lt_of_le (HLt.out x hx) hs4
  have HP := hide (xput hst ⟨#[97]⟩ ⟨#[49]⟩ rfl (by decide) (fun l' h => by obtain ⟨i, f, _, _, rfl⟩ := h; cases f <;> simp [putL]) (by omega))
  clear hst hK4
  go_wp2_with fail
  refine HP.out.mono ?_
  rintro e w5 ⟨rfl, l', hput, hst, hK5⟩
  have hs5 := hK5.size
  have hl' : l' = [(⟨#[97]⟩, ⟨#[49]⟩)] := by
    obtain ⟨i, f, hi, hf, rfl⟩ := hput
    obtain rfl : i = 0 := Nat.le_zero.1 hi.1
    have : f = false := by
      cases f with
      | false => rfl
      | true => obtain ⟨h, _⟩ := hf.1 rfl; exact absurd h (by simp)
    subst this
    rfl
  subst hl'
  have HK5 : Hid (Keep (fun x => x < w.heap.size) w w5) := HK4.out.trans (hK5.olds HSub.out)
  have HV5 := hide (HV4.out.keep hK5 HLt4.out (fun _ h => h))
  have HLt5 : Hid (∀ x, O1 x → x < w5.heap.size) := fun x hx => Nat.lt_of_lt_of_le (HLt4.out x hx) hs5
  have HC := hide (xcommit hst (by omega) (by omega) (by omega) 0)
  clear hst hK5 hput
  go_wp2_with fail
  refine HC.out.mono ?_
  rintro e w6 ⟨rfl, hst, hK6⟩
  have hs6 := hK6.size
  have HK6 : Hid (Keep (fun x => x < w.heap.size) w w6) := HK5.out.trans (hK6.olds HSub.out)
  have HV6 := hide (HV5.out.keep hK6 HLt5.out (fun _ h => h))
  have HSt6 := hide hst
  clear hst hK6
  go_wp2_with fail
  refine (xget HV6.out ⟨#[97]⟩ List.Pairwise.nil (by simp)).mono ?_
  rintro e w7 ⟨val7, f7, rfl, hg7, hT7⟩
  have hs7 := hT7.size
  have HK7 : Hid (Keep (fun x => x < w.heap.size) w w7) := HK6.out.then0 hT7
  have hf7 : f7 = false := by
    rcases hg7 with ⟨_, i, h, _⟩ | ⟨h, _⟩
    · exact absurd h (by simp)
    · exact h
  subst hf7
  have HL8 := hide (xlook (HSt6.out.turn0 hT7) (by omega))
  clear hT7 hg7
  go_wp2_with fail
  refine HL8.out.mono ?_
  rintro e w8 ⟨v8, O8, rfl, hst, hv8, hK8, hsub8, hlt8⟩
  have hs8 := hK8.size
  have HSt8 := hide hst
  have HK8 : Hid (Keep (fun x => x < w.heap.size) w w8) := HK7.out.trans (hK8.olds HSub.out)
  have HV8 := hide hv8
  clear hst hv8 hK8 hsub8 hlt8
  go_wp2_with fail
  refine (xget HV8.out ⟨#[97]⟩ (List.pairwise_singleton _ _) (by simp)).mono ?_
  rintro e w9 ⟨val9, f9, rfl, hg9, hT9⟩
  have hs9 := hT9.size
  have HK9 : Hid (Keep (fun x => x < w.heap.size) w w9) := HK8.out.then0 hT9
  have hf9 : f9 = true := by
    rcases hg9 with ⟨h, _⟩ | ⟨_, _, h⟩
    · exact h
    · exact absurd rfl (h (⟨#[97]⟩, ⟨#[49]⟩) (by simp))
  subst hf9
  have HSt9 := hide (HSt8.out.turn0 hT9)
  clear hT9 hg9
  go_wp2_with fail
  refine (xcommits HSt9.out (by omega)).mono ?_
  rintro e w10 ⟨rfl, e10⟩
  obtain rfl : w9 = w10 := e10.symm
  go_wp2_with fail
  go_ret
  refine ⟨rfl, ?_, by omega, HK9.out⟩
  obtain ⟨OT, t, p, sg, h⟩ := HSt9.out
  obtain ⟨b, m, sm, rb, s, q, D, S, kp, h, _⟩ := h.tree
  exact h.pa.tab

end Go.Proofs.YthgpjkcgccdldaaGreatDoor

namespace Go.Proofs.YthgpjkcgccdldaaGreatDoor
open Go.RowKit Go.Maps

theorem text1 (w : World) (x : Nat) (t : Nat) : (convert 68 9 (.slice (some ⟨w.heap.size, 0, none⟩) 1 1)).run Tryz.prog (w.alloc (.cells #[.int .u8 (x : Nat)] t)) = .ok (.string ⟨#[UInt8.ofNat x]⟩) (w.alloc (.cells #[.int .u8 (x : Nat)] t)) := by
  have h : BytesAt (w.alloc (.cells #[.int .u8 (x : Nat)] t)) (some ⟨w.heap.size, 0, none⟩) [x] := .inr ⟨w.heap.size, 0, rfl, fun i hi => by
    obtain rfl : i = 0 := by simpa using hi
    exact World.cell?_alloc_at _ _ _ _ rfl⟩
  rw [text_at h 1 1 rfl]
  have e : textOf [x] = ⟨#[UInt8.ofNat x]⟩ := by
    unfold textOf strOfNums
    simp
  rw [e]
theorem text2 (w : World) (x y : Nat) (t : Nat) : (convert 68 9 (.slice (some ⟨w.heap.size, 0, none⟩) 2 2)).run Tryz.prog (w.alloc (.cells #[.int .u8 (x : Nat), .int .u8 (y : Nat)] t)) = .ok (.string ⟨#[UInt8.ofNat x, UInt8.ofNat y]⟩) (w.alloc (.cells #[.int .u8 (x : Nat), .int .u8 (y : Nat)] t)) := by
  have h : BytesAt (w.alloc (.cells #[.int .u8 (x : Nat), .int .u8 (y : Nat)] t)) (some ⟨w.heap.size, 0, none⟩) [x, y] := .inr ⟨w.heap.size, 0, rfl, fun i hi => by
    have : i = 0 ∨ i = 1 := by
      have : i < 2 := hi
      omega
    rcases this with rfl | rfl
    · exact World.cell?_alloc_at _ _ _ _ rfl
    · exact World.cell?_alloc_at _ _ _ _ rfl⟩
  rw [text_at h 2 2 rfl]
  have e : textOf [x, y] = ⟨#[UInt8.ofNat x, UInt8.ofNat y]⟩ := by
    unfold textOf strOfNums
    simp
  rw [e]

theorem LMid.size {w0 : World} {B k n st v : Nat} {now views : Value} {w : World} (h : LMid w0 B k n st v now views w) (o : Obj) (hB : B = w0.heap.size) : B ≤ (w.alloc o).heap.size := by
  obtain ⟨_, _, _, _, _, _, _, _, _, _, _, _, h⟩ := h
  have := h.kept.size
  simp
  omega

/-- A view of the row. -/
theorem OInv.view {w0 : World} {B : Nat} {fs : Bool} {k c vw n st K vc : Nat} {va : Option Addr} {now : Value} {w : World} (h : OInv w0 B fs k c vw n st now (.slice va K vc) w) {y : Nat} (hy : y < K) :
    ∃ (b off : Nat) (x : Vw) (P : Nat → Prop), va = some ⟨b, off, none⟩ ∧ w.cell? ⟨b, off + y * 2, none⟩ = some (.pointer (some ⟨x.v, 0, none⟩)) ∧ w.cell? ⟨b, off + y * 2 + 1, none⟩ = some (.slice x.a x.l.length x.c) ∧ VwAt w P x ∧ ∀ z, P z → z < w.heap.size := by
  obtain ⟨O, l, did, L, h1, h2, h3, h4, h5, h6⟩ := h
  obtain ⟨a, cap, e, hn, hnil, hP, hb⟩ := own_pairs h4.own
  injection e with e1 e2 e3
  subst e1
  rw [vwCells_length] at e2
  have hyL : y < L.length := by omega
  have hyc : y < (vwCells L).length := by rw [vwCells_length]; exact hyL
  rcases hP with h0 | ⟨b, off, e, hc⟩
  · rw [h0] at hyc
    exact absurd hyc (by simp)
  · obtain ⟨c0, c1⟩ := hc y hyc
    have hx : (vwCells L)[y] = (.pointer (some ⟨L[y].v, 0, none⟩), .slice L[y].a L[y].l.length L[y].c) := by simp [vwCells]
    rw [hx] at c0 c1
    exact ⟨b, off, L[y], _, e, c0, c1, h4.vws _ (List.getElem_mem hyL), fun z hz => h6.ob z hz.1⟩

set_option maxRecDepth 100000 in
set_option maxHeartbeats 6400000 in
theorem views_any (rounds many : Int) (w : World) (hTab : Tab w) (hw : 2 ≤ w.heap.size) : Calls Tryz.prog 6 #[.int .i64 rounds, .int .i64 many] w fun e w' => e = .returned (.bool true) ∧ Keep (fun x => x < w.heap.size) w w' := by
  have HKn := hide (known_any w hTab hw)
  clear hTab
  go_enter Tryz.func6, Tryz.ntmps6
  go_wp2_with fail
  refine HKn.out.mono ?_
  rintro e w1 ⟨rfl, hTab1, hs1, hK1⟩
  have HK1 := hide hK1
  clear hK1
  have HNew := hide (new_any 2048 (by omega) (by omega) w1)
  have HTab1 := hide hTab1
  clear hTab1
  go_wp2_with fail
  refine HNew.out.mono ?_
  rintro e w2 ⟨rfl, hD, hT2, hs2⟩
  have HK2 := hide (HK1.out.then0 hT2)
  have HOp := hide (xopen (fun x => x < w.heap.size ∧ x ≠ 1) (w1.heap.size + 1) w1.heap.size 2048 (by omega) (by omega) w2 hD (HTab1.out.turn hT2 (by simp)) ⟨by omega, by omega⟩ (fun x hx => by omega) ⟨by omega, by omega, by omega⟩)
  clear hD hT2
  go_wp2_with fail
  refine HOp.out.mono ?_
  rintro e w3 ⟨st, rfl, hst, hT3⟩
  have HSt := hide hst
  have hs3 := hT3.size
  have HK3 := hide (HK2.out.then0 hT3)
  clear hst hT3
  go_wp2_with fail
  refine (within_any many 15 (by omega) (by omega) _).mono ?_
  rintro e w4 ⟨⟨j, hj, rfl⟩, hw4⟩
  obtain rfl : w3 = w4 := hw4.symm
  obtain ⟨n, hn⟩ : ∃ n, n = 1 + j := ⟨_, rfl⟩
  have hn' : (1 : Int) + (j : Int) = (n : Nat) := by omega
  have HN := hide (show 1 ≤ n ∧ n ≤ 15 by omega)
  have HI0 : Hid (OInv w w.heap.size true 0 0 0 n st (.slice none 0 0) (.slice none 0 0) w3) := ⟨fun x => x < w.heap.size ∧ x ≠ 1, [], 0, [], HSt.out, by simp [keysAt, ltrs, keysOf], ⟨none, 0, rfl, .inl rfl, fun _ => rfl, fun _ h => absurd rfl h⟩, ⟨World.ownsRow_nil _ _ _ _, fun _ h => by simp [Value.ownBlock] at h, fun x hx => by cases hx⟩, rfl, ⟨fun x h => by omega, fun x h1 h2 => ⟨h1, h2⟩, HK3.out⟩⟩
  clear hn hw4 HSt
  go_wp2_with fail
  go_loopw [9, 10, 11] (fun vs nw i wr => ∃ (k : Nat) (fs : Bool), k ≤ 8 ∧ i = .int .i64 (k : Nat) ∧ Hid (OInv w w.heap.size fs k k k n st nw vs wr)) (fun _ _ i _ => 9 - (intOf i).toNat)
  case atStart => exact ⟨0, true, by omega, rfl, HI0⟩
  case round =>
    obtain ⟨k, fs, hk, rfl, HI⟩ := hrel
    clear HI0
    go_wp2_with fail
    refine (within_any rounds 6 (by omega) (by omega) _).mono ?_
    rintro e w5 ⟨⟨q, hq, rfl⟩, e5⟩
    obtain rfl : wr = w5 := e5.symm
    clear e5
    obtain ⟨m, hm⟩ : ∃ m, m = 3 + q := ⟨_, rfl⟩
    have h3q : (3 : Int) + (q : Int) = (m : Nat) := by omega
    have hm8 : m ≤ 8 := by omega
    clear hm
    by_cases hlt : k < m
    · go_wp2_with fail
      refine (m_begin HI.out).mono ?_
      rintro e w6 ⟨tb, rfl, hm0⟩
      have HM0 := hide hm0
      clear hm0 HI
      go_wp2_with fail
      generalize wr = wo at *
      generalize u9 = vs at *
      go_loopw [10, 14] (fun nw' i' wi => ∃ j : Nat, j ≤ n ∧ i' = .int .i64 (j : Nat) ∧ Hid (MInv w w.heap.size k n j st tb nw' vs wi)) (fun _ i' _ => 16 - (intOf i').toNat)
      case atStart => exact ⟨0, by omega, rfl, HM0⟩
      case round =>
        obtain ⟨i, hi, rfl, HM⟩ := hrel
        have hn15 := HN.out
        by_cases hin : i < n
        · go_wp2_with fail
          have hcv : (convert (68 : Nat) (9 : Nat) (.slice (some ⟨wr.heap.size, 0, none⟩) 1 1)).run Tryz.prog (wr.alloc (.cells #[.int .u8 (97 + (i : Int))] (5 : Nat))) = .ok (.string (ltr i)) (wr.alloc (.cells #[.int .u8 (97 + (i : Int))] (5 : Nat))) := text1 wr (97 + i) 5
          have HT1 : Hid (Turn [] wr (wr.alloc (.cells #[.int .u8 (97 + (i : Int))] (5 : Nat)))) := (Turn.refl [] wr).alloc _
          by_cases h3 : k % 3 = 2
          · have hk3 : (k : Int) % 3 = 2 := by omega
            have HD := hide (m_del (HM.out.turn0 HT1.out) ⟨#[]⟩ h3 hin hn15.2)
            clear HM
            go_wp2_with fail
            simp only [hcv]
            clear hcv
            go_wp2_with fail
            refine HD.out.mono ?_
            rintro e w7 ⟨rfl, hp⟩
            have HLd := hide (m_ldel hp hin hn15.2)
            clear hp HD
            go_wp2_with fail
            refine HLd.out.mono ?_
            rintro e w8 ⟨r, rfl, hm8⟩
            have HM8 := hide hm8
            clear hm8 HLd
            go_wp2_with fail
            go_roundw
            case rel => exact ⟨i + 1, by omega, by go_num, HM8⟩
            case measure => simp [intOf]; omega
          · have hk3 : ((k : Int) % 3 == 2) = false := by simp; omega
            go_wp2_with fail
            simp only [hcv]
            clear hcv
            have HM1 := hide (HM.out.turn0 HT1.out)
            clear HM HT1
            generalize wr.alloc (.cells #[.int .u8 (97 + (i : Int))] (5 : Nat)) = wz at *
            have hcv2 : (convert (68 : Nat) (9 : Nat) (.slice (some ⟨wz.heap.size, 0, none⟩) 2 2)).run Tryz.prog (wz.alloc (.cells #[.int .u8 (k : Int), .int .u8 (i : Int)] (5 : Nat))) = .ok (.string ⟨#[UInt8.ofNat k, UInt8.ofNat i]⟩) (wz.alloc (.cells #[.int .u8 (k : Int), .int .u8 (i : Int)] (5 : Nat))) := text2 wz k i 5
            have HT2 : Hid (Turn [] wz (wz.alloc (.cells #[.int .u8 (k : Int), .int .u8 (i : Int)] (5 : Nat)))) := (Turn.refl [] wz).alloc _
            have HP := hide (m_put (HM1.out.turn0 HT2.out) ⟨#[UInt8.ofNat k, UInt8.ofNat i]⟩ (by show 2 ≤ 2; omega) h3 hin hn15.2)
            go_wp2_with fail
            clear hcv2
            refine HP.out.mono ?_
            rintro e w7 ⟨rfl, hp⟩
            have HLp := hide (m_lput hp hin hn15.2)
            clear hp HP
            go_wp2_with fail
            refine HLp.out.mono ?_
            rintro e w8 ⟨r, rfl, hm8⟩
            have HM8 := hide hm8
            clear hm8 HLp
            go_wp2_with fail
            go_roundw
            case rel => exact ⟨i + 1, by omega, by go_num, HM8⟩
            case measure => simp [intOf]; omega
        · obtain rfl : i = n := by omega
          have HC := hide (m_commit HM.out hk HN.out)
          clear HM HM0
          go_wp2_with fail
          refine HC.out.mono ?_
          rintro e w7 ⟨rfl, ho7⟩
          obtain ⟨k1, hk1⟩ : ∃ k1, k1 = k + 1 := ⟨_, rfl⟩
          have hk1' : (k : Int) + 1 = (k1 : Nat) := by omega
          have HL := hide (m_look ho7 hk hn15.2)
          rw [← hk1] at ho7 HL
          have HCs := hide (m_commits ho7 (by omega))
          have hk9 : k1 ≤ 9 := by omega
          have HK1 := hide hk1
          clear hk1
          obtain ⟨ia, il, ic, rfl⟩ : ∃ ia il ic, u10 = .slice ia il ic := by
            obtain ⟨_, l, _, _, _, _, ⟨a, c, e, _⟩, _⟩ := ho7
            exact ⟨a, l.length, c, e⟩
          clear ho7 HC
          go_wp2_with fail
          refine HCs.out.mono ?_
          rintro e w8 ⟨rfl, e8⟩
          obtain rfl : w7 = w8 := e8.symm
          clear e8 HCs
          go_wp2_with fail
          refine HL.out.mono ?_
          rintro e w9 ⟨v, rfl, hl9⟩
          have HSz : Hid (w.heap.size ≤ (w9.alloc (.cells #[.pointer (some ⟨v, 0, none⟩), .slice ia il ic] 49)).heap.size) := hl9.size _ rfl
          have hTa : Turn [] w9 (w9.alloc (.cells #[.pointer (some ⟨v, 0, none⟩), .slice ia il ic] 49)) := (Turn.refl [] w9).alloc _
          obtain ⟨O, a, c, l, did, L, h1, h2, h3, h4, h5, h6, h7⟩ := hl9.turn0 hTa
          injection h3 with e1 e2 e3
          subst e1 e2 e3
          have HP : Hid (PairsAt (w9.alloc (.cells #[.pointer (some ⟨v, 0, none⟩), .slice ia l.length ic] 49)) (some ⟨w9.heap.size, 0, none⟩) (vwCells [⟨v, ia, ic, l⟩])) := .inr ⟨w9.heap.size, 0, rfl, fun z hz => by
            obtain rfl : z = 0 := by simpa [vwCells] using hz
            exact ⟨World.cell?_alloc_at _ _ _ _ rfl, World.cell?_alloc_at _ _ _ _ rfl⟩⟩
          have HOwn := hide h5.own
          have HLaid := hide (fun (views' : Value) (w' : World) hown hg hb => LMid.laid (views' := views') (w' := w') hw h1 h2 rfl h4 h5 h6 h7 hown hg hb)
          have HL6 := hide h6
          have hLk : L.length ≤ 8 := by omega
          clear hl9 h1 h2 h4 h5 h6 h7 hTa HL
          go_wp2_with (at_builtin; refine append_views rfl _ _ rfl w.heap.size vs L.length (vwCells L) rfl HOwn.out (some ⟨w9.heap.size, 0, none⟩) 1 1 (vwCells [⟨v, ia, ic, l⟩]) rfl rfl (by simp) HP.out (vw_one _) (by omega) HSz.out ?_; intro vs' w10 hown hgrow hblk; have HI10 := hide (HLaid.out vs' w10 hown hgrow hblk); obtain ⟨va, vc, rfl⟩ := own_form hown; clear hown hgrow hblk)
          have hK9 : L.length + 1 ≤ 9 := by omega
          clear HLaid HOwn HP HL6 hLk HSz hin hi
          generalize L.length + 1 = K at *
          generalize l.length = il at *
          generalize wr = wm at *
          go_loopw [17] (fun i' wi => ∃ y : Nat, y ≤ K ∧ i' = .int .i64 (y : Nat) ∧ Hid (OInv w w.heap.size false k1 k1 k1 i st (.slice ia il ic) (.slice va K vc) wi)) (fun i' _ => 20 - (intOf i').toNat)
          case atStart => exact ⟨0, by omega, rfl, HI10⟩
          case round =>
            obtain ⟨y, hy, rfl, HY⟩ := hrel
            clear HI10
            by_cases hyK : y < K
            · obtain ⟨b, off, x, P, rfl, hc0, hc1, hx, hob⟩ := HY.out.view hyK
              have HX := hide hx
              have HAll : Hid (∀ w', Turn [] wr w' → w'.cell? ⟨b, off + y * 2, none⟩ = some (.pointer (some ⟨x.v, 0, none⟩)) ∧ w'.cell? ⟨b, off + y * 2 + 1, none⟩ = some (.slice x.a x.l.length x.c)) := fun w' hT => ⟨(hT.cell (lt_of_cell hc0) (by simp)).trans hc0, (hT.cell (lt_of_cell hc1) (by simp)).trans hc1⟩
              have HSc : Hid (∀ w', Turn [] wr w' → Calls Tryz.prog 24 #[.pointer (some ⟨x.v, 0, none⟩), .string ⟨#[]⟩, .string ⟨#[]⟩, .int .i64 0] w' fun e w'' => ∃ a' c', e = .returned (.slice a' x.l.length c') ∧ KVsAt w'' a' x.l ∧ (a' = none → c' = 0) ∧ Turn [] w' w'') := fun w' hT => xscan (HX.out.view.keep (Keep.of hT (by simp)) hob (fun _ h => h)) HX.out.rises (by have := HX.out.few; omega)
              have HSm : Hid (∀ w', Turn [] wr w' → ∀ a' c', KVsAt w' a' x.l → Calls Tryz.prog 25 #[.slice a' x.l.length c', .slice x.a x.l.length x.c] w' fun e w'' => e = .returned (.bool true) ∧ Turn [] w' w'') := fun w' hT a' c' hk => lsame_any w' a' x.a c' x.c x.l hk (HX.out.row.turn0 hT) (by have := HX.out.few; omega)
              clear hx hob
              go_upto_region 34 with fail
              go_cut [118] from 100 to 118 (fun u wx => u = .bool false ∧ Turn [] wr wx)
              case first =>
                refine wp_region_noPanic ?_
                go_region_held (fun w' => w'.cell? ⟨b, off + y * 2, none⟩ = some (.pointer (some ⟨x.v, 0, none⟩)) ∧ w'.cell? ⟨b, off + y * 2 + 1, none⟩ = some (.slice x.a x.l.length x.c)) (first | assumption | exact HAll.out _ (Turn.refl [] _) | exact HAll.out _ (Turn.refl [] wr).drew | exact HAll.out _ HT2.out | exact HAll.out _ HT1.out | exact HAll.out _ HT1.out.drew)
                  (first
                    | (go_at_call 25; with_reducible refine (HSm.out _ HT1.out a1 c1 HK1.out).mono ?_; rintro e wb ⟨rfl, hT2⟩; have HT2 := hide (HT1.out.trans hT2); clear hT2)
                    | (go_at_call 24; with_reducible refine (HSc.out _ (Turn.refl [] wr).drew).mono ?_; rintro e wa ⟨a1, c1, rfl, hk, _, hT1⟩; have HT1 := hide ((Turn.refl [] wr).drew.trans hT1); have HK1 := hide hk; clear hk hT1))
                all_goals
                  refine NoPanic.normal ?_
                  go_wp2_with fail
                  go_meet
                  case rel => exact ⟨rfl, HT2.out⟩
              case rest =>
                obtain ⟨rfl, hTc⟩ := hcut
                have HY1 := hide (HY.out.turn0 hTc)
                clear hTc HY HAll HSc HSm hc0 hc1 HX
                go_wp2_with fail
                go_roundw
                case rel => exact ⟨y + 1, by omega, by go_num, HY1⟩
                case measure => simp [intOf]; omega
            · go_wp2_with fail
              go_roundw
              case rel => exact ⟨k1, false, by omega, by go_num, HY⟩
              case measure => simp [intOf]; omega
    · go_wp2_with fail
      go_ret
      obtain ⟨_, _, _, _, _, _, _, _, _, h6⟩ := HI.out
      exact ⟨rfl, h6.kept⟩

end Go.Proofs.YthgpjkcgccdldaaGreatDoor

namespace Go.Proofs.YthgpjkcgccdldaaGreatDoor
open Go.ChangeShapes Go.WideShapes Go.ChangeAt Go.WideMaps Go.WideElems Go.RowKit

def lst : List (String × DataW Unit) := [("math/bits.deBruijn64tab", Rows.laid_math_bits_deBruijn64tab)]
theorem own : ownKnob Tryz.prog.godebug = none := by kernel_rfl
theorem laidOut : laidOutB Tryz.prog = true := by kernel_rfl
theorem gTab : Tryz.prog.globalNamed "math/bits.deBruijn64tab" = some 1 := by kernel_rfl
theorem tTab : (Tryz.prog.globals[1]?).map (·.type) = some 264 := by kernel_rfl
theorem cells5 : Tryz.prog.cellsOf 5 = 1 := by kernel_rfl

theorem door_met (os : Os) (args : Array Value) : laidMetH Tryz.prog lst ((World.doorLaid Tryz.prog 400 os).forCall (fun _ _ => 0) ⟨#[], args, []⟩).memory :=
  laidMetH_of_parts3 (fuel := 8) (laidMet_of_run' 8 (by kernel_rfl) (by kernel_rfl)) (by kernel_rfl) (by kernel_rfl)

theorem tab_data : ∀ j, j < 64 → ∀ (xs : List (DataW Unit × List MemPlace)), (Rows.laid_math_bits_deBruijn64tab : DataW Unit) = .agg (xs.map (·.1)) → (xs[j]?).map (·.1) = some (.lit (.int .u8 (Lib.deBruijn64tab.getD j 0 : Nat))) := by
  intro j hj xs h
  have h1 : ∃ ys : List (DataW Unit), (Rows.laid_math_bits_deBruijn64tab : DataW Unit) = .agg ys ∧ ∀ j, j < 64 → ys[j]? = some (.lit (.int .u8 (Lib.deBruijn64tab.getD j 0 : Nat))) := by
    refine ⟨Lib.deBruijn64tab.map fun x => .lit (.int .u8 (x : Nat)), rfl, fun j hj => ?_⟩
    have hl : Lib.deBruijn64tab.length = 64 := rfl
    rw [List.getElem?_map, List.getElem?_eq_getElem (by rw [hl]; exact hj), List.getD_eq_getElem?_getD, List.getElem?_eq_getElem (by rw [hl]; exact hj)]
    rfl
  obtain ⟨ys, e, hy⟩ := h1
  rw [e] at h
  have : ys = xs.map (·.1) := DataW.agg.inj h
  rw [← List.getElem?_map, ← this]
  exact hy j hj

theorem of_laid {W : World} (h : laidMetH Tryz.prog lst W) : Tab W := by
  rw [MakeChecks.laidMetH_plain _ _ _ (by kernel_rfl)] at h
  obtain ⟨ps, ⟨g0, t0, cs0, f0, p0, q0, hg0, ht0, hv0, hd0, _⟩, _, _⟩ := h
  obtain rfl := Option.some.inj (gTab.symm.trans hg0)
  obtain rfl := Option.some.inj (tTab.symm.trans ht0)
  obtain ⟨xs, m1, rfl, hx1, hlen, hn, hel⟩ := DataW.trod_array Tryz.underlying264 hd0
  simp only [Prod.mk.injEq] at hx1
  intro j hj
  have hc := World.var?_cell hg0 hv0 j
  have h1 := hel j hj
  have h2 := tab_data j hj xs hx1.1
  cases hxj : xs[j]? with
  | none => rw [hxj] at h2; cases h2
  | some x =>
    rw [hxj] at h1 h2
    obtain ⟨k, e1, e2, _⟩ := DataW.trod_int Tryz.underlying5 h1
    rw [e2] at h2
    have hk : k = (Lib.deBruijn64tab.getD j 0 : Nat) := by
      have := Option.some.inj h2
      exact (Lit.int.inj (DataW.lit.inj this)).2
    rw [hc]
    rw [cells5, Nat.mul_one] at e1
    have h3 : (cs0.toList.drop j)[0]? = some (.int .u8 k) := by
      have : ((cs0.toList.drop j).take 1)[0]? = some (.int .u8 k) := by rw [e1]; rfl
      rw [List.getElem?_take, if_pos (by omega)] at this
      exact this
    rw [List.getElem?_drop, Nat.add_zero] at h3
    rw [← Array.getElem?_toList, h3, hk]
end Go.Proofs.YthgpjkcgccdldaaGreatDoor

namespace Go.Proofs.YthgpjkcgccdldaaGreatDoor.txnViews
open Go.ChangeShapes Go.WideShapes Go.ChangeAt Go.RowKit

set_option maxRecDepth 100000 in
theorem lifted (os : Os) (started : os.Started) (H : Type) (enc : TypeId × Value → H) :
    ReturnsInHanded {} Tryz.checked os 6 .any (fun w args => (Rows.txnViewsSpec.pre enc Tryz.prog Tryz.f6 [] false w args ∧ laidMetH Tryz.prog lst w) ∧ sizedMet enc Tryz.prog Tryz.f6 (OpenSpec.ofChange Rows.txnViewsSpec) false w args)
      (Rows.txnViewsSpec.post enc Tryz.prog Tryz.f6 false true false false) := by
  refine returnsInHanded_of_change_and (C := Tryz.checked) (X := fun w _ => laidMetH Tryz.prog lst w) (fun _ _ _ hh h => h.of_heap hh) own started (by kernel_rfl) Tryz.func6
    (ChangeSpec.witness_shaped (enc := enc) (C := Tryz.checked) (os := os) (X := fun w _ => laidMetH Tryz.prog lst w) false (World.doorLaid Tryz.prog 400 os) #[.int .i64 0, .int .i64 0] 8 rfl (World.shaped_of_RefB (by kernel_rfl) (by kernel_rfl)) (by kernel_rfl) (by kernel_rfl) (by kernel_rfl) (door_met os _)) ?_
  intro W base args ds gs before hval0 hW _ _ hL _
  have hval : ∀ (j : Nat) t v, Tryz.f6.params[j]? = some t → args[j]? = some v → Value.okWide Tryz.prog W .any base t v := hval0
  have hW' := hW
  obtain ⟨p, q, hA0, hV, rfl, _, _⟩ := hW
  have hA : DataW.TrodAll enc Tryz.prog W 0 (fun _ => true) true Tryz.f6.params.toList args.toList ds p := hA0
  rw [Tryz.params6] at hA hval
  obtain ⟨v0, vs0, d0, ds0, p0, q0, hargs, rfl, rfl, h0, r0⟩ := trodAll_cons hA
  obtain ⟨v1, vs1, d1, ds1, p1, q1, rfl, rfl, rfl, h1, r1⟩ := trodAll_cons r0
  obtain ⟨rfl, rfl, rfl⟩ := trodAll_nil r1
  obtain rfl : args = #[v0, v1] := by cases args; simp_all
  obtain ⟨rfl, rfl⟩ := trodVars_none hV
  obtain ⟨a0, rfl, rfl, rfl, w0⟩ := open_int Tryz.underlying3 (hval 0 3 v0 rfl rfl) h0
  obtain ⟨a1, rfl, rfl, rfl, w1⟩ := open_int Tryz.underlying3 (hval 1 3 v1 rfl rfl) h1
  clear hA0 hval0
  have hTab := of_laid hL
  have hsz : 2 ≤ W.heap.size := by
    have h := hTab 0 (by omega)
    have : 1 < W.heap.size := lt_of_cell h
    omega
  refine (views_any a0 a1 W hTab hsz).mono fun e W' ⟨he, hK⟩ => ?_
  subst he
  obtain ⟨X, hT, hX⟩ := hK
  have bel : Below W.heap.size W W' := hT.below (Nat.le_refl _) (fun x hx => Nat.le_of_not_lt (hX x hx).1)
  exact ⟨_, rfl, _, _, _, [], _, [], hW', trodAll_mk1 (shut_bool Tryz.underlying4 _), trodAll_cons_mk (shut_int Tryz.underlying3 w0) (trodAll_mk1 (shut_int Tryz.underlying3 w1)), rfl, bel.frame _, fun h => by cases h⟩

theorem over : Rows.TxnViewsSaid :=
  OpenClaim.holds_of_wide 6 Tryz.f6 rfl rfl rfl rfl rfl rfl rfl ⟨rfl, rfl, rfl, rfl, rfl⟩ rfl rfl rfl rfl rfl (by kernel_rfl) Tryz.func6 (by kernel_rfl)
    (of_decide_eq_true (by kernel_rfl)) (by unfold Func.isWrapper; first | (rw [if_pos (by decide +kernel)]; kernel_rfl) | (rw [if_neg (by decide +kernel)]; exact ⟨rfl, rfl⟩))
    (fun os started H enc _ => lifted os started H enc)

end Go.Proofs.YthgpjkcgccdldaaGreatDoor.txnViews

namespace Go.Proofs.YthgpjkcgccdldaaGreatDoor
theorem txnViews_holds : Rows.TxnViewsCardSaid :=
  Claim7.holds_tied_plain_at .later [] [.data] true (true, "14beae2bba7d807d023daf8843bc63808650f17bdd68a8750c0d125f89d3021c") true
    txnViews.over (fun _ h => by cases h) (by kernel_rfl) (fun _ h => by cases h) txnViews_row_tie rfl ⟨rfl, rfl⟩ (by kernel_rfl) rfl
    (fun f fn hf hfn => by
      obtain rfl : f = 6 := Option.some.inj ((show Tryz.prog.funcNamed "toll/tolllaw5.TxnViews" = some 6 by kernel_rfl).symm.trans hf) |>.symm
      obtain rfl : fn = Tryz.f6 := (Option.some.inj (Tryz.func6.symm.trans hfn)).symm
      exact ⟨by kernel_rfl, fun j t ht => by
        rw [Tryz.params6] at ht
        have hm : t ∈ [3, 3] := by simpa using Array.mem_of_getElem? ht
        have hall : ([3, 3].all fun u => !Tryz.prog.wantsStandIn u) = true := by kernel_rfl
        exact (show Tryz.prog.wantsStandIn t = false by simpa using List.all_eq_true.1 hall t hm)⟩)
    (by kernel_rfl)
end Go.Proofs.YthgpjkcgccdldaaGreatDoor

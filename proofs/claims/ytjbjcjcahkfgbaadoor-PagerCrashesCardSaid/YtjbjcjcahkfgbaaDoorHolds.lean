/-
  tolllaw3.holds, where the pager has the pages.
-/
import Derived.Test.YtjbjcjcahkfgbaaDoorPages
import Derived.Deep.QuietTactic
import Derived.BigQuiet
namespace Go.Proofs.YtjbjcjcahkfgbaaDoor
open Go.RowKit

/-- A pager has these pages. -/
def Has (s : St) (q : Pg) (l : List (Nat × List Nat)) : Prop :=
  ∀ i (h : i < l.length), q.thereI s.n (l[i].1 : Nat) = true ∧ l[i].2.length ≤ 496 ∧ s.f l[i].1 = bytesOf 512 (pageB l[i].2)

set_option maxRecDepth 100000 in
set_option maxHeartbeats 3200000 in
theorem holds_yes (p b m sm rb : Nat) (s : St) (q : Pg) (hd : s.dead = false) (hq : q.dead = false) (hr : q.root.length ≤ 64) (a : Option Addr) (cap : Nat) (l : List (Nat × List Nat)) (hlen : l.length ≤ 1000000) (hl : Has s q l) (w : World) (hA : PAt w p b m sm rb s q) (hP : PagesAt w a l) (hn : ∀ x, l ≠ [] → a = some x → x.block ≠ p) :
    Calls Tryd.prog 24 #[.pointer (some ⟨p, 0, none⟩), .slice a l.length cap, .string (textOf q.root)] w fun e w' => e = .returned (.bool true) ∧ Turn [p] w w' := by
  have HA := hide hA
  have HP := hide hP
  have HL := hide hl
  have HN := hide hn
  clear hA hP hl hn
  go_enter Tryd.func24, Tryd.ntmps24
  go_wp2_with fail
  refine (root_any p b sm rb s.n q.word 0 q hr w HA.out.pg).mono ?_
  rintro e w1 ⟨a1, c1, rfl, hB1, _, hT1⟩
  have hcv := text_at hB1 q.root.length c1 rfl
  have HA1 := hide (HA.out.turn0 hT1)
  have HP1 := hide (HP.out.turn hT1 (by simp))
  have HT1 := hide (show Turn [p] w w1 from ⟨hT1.os, hT1.tape, hT1.output, hT1.size, fun i hi _ => hT1.block i hi (by simp)⟩)
  clear hB1 hT1 HA HP
  generalize textOf q.root = tr at *
  generalize q.root.length = nr at *
  go_wp2_with fail
  clear hcv
  go_loopw [7] (fun i wr => ∃ (j : Nat) (r : Bool), j ≤ l.length ∧ i = .int .i64 j ∧ PAt wr p b m sm rb s { q with rd := r } ∧ PagesAt wr a l ∧ Turn [p] w wr) (fun i _ => l.length - (intOf i).toNat)
  case atStart => exact ⟨0, q.rd, Nat.zero_le _, rfl, HA1.out, HP1.out, HT1.out⟩
  case round =>
    obtain ⟨j, r, hj, rfl, hA2, hP2, hT2⟩ := hrel
    have HA2 := hide hA2
    have HP2 := hide hP2
    have HT2 := hide hT2
    clear hA2 hP2 hT2
    by_cases hjl : j < l.length
    · obtain ⟨g, rfl, hc, hs⟩ := HP2.out.at hjl
      obtain ⟨h1, h2, h3⟩ := HL.out j hjl
      have hgp : g ≠ p := HN.out ⟨g, 0, none⟩ (fun e => by rw [e] at hjl; simp at hjl) rfl
      have H1 := hide h1
      have H3 := hide h3
      have HS := hide hs
      clear h1 h3 hs
      generalize l[j] = z at *
      go_wp2_with fail
      refine (read_yes p b m sm rb s { q with rd := r } hd hq z.1 H1.out z.2 h2 H3.out wr HA2.out).mono ?_
      rintro e w3 ⟨g3, o3, hg3, hg3', rfl, hB3, _, hA3, hT3⟩
      have HA3 := hide hA3
      have HP3 := hide (HP2.out.turn hT3 (fun x _ hx => by obtain rfl := Option.some.inj hx; simp; exact hgp))
      have HT3 := hide (HT2.out.then hT3 (by simp))
      have hcv3 := fun nn => text_at (hB3.turn ((Turn.refl [] w3).drewN nn) (by simp)) z.2.length z.2.length rfl
      have hs3 := (hT3.cell (p := ⟨g, j * 2 + 1, none⟩) (lt_of_cell HS.out) (by simp; exact hgp)).trans HS.out
      clear hA3 hB3 hT3 HA2 HP2 HT2 hc HS
      generalize textOf z.2 = tz at *
      generalize z.2.length = nz at *
      go_wp2_with fail
      go_quiet (fail)
      rename_i nq
      go_wp2_with fail
      go_roundw
      case rel => exact ⟨j + 1, true, by omega, by go_num, HA3.out.turn0 ((Turn.refl [] w3).drewN nq), HP3.out.turn ((Turn.refl [] w3).drewN nq) (by simp), HT3.out.drewN nq⟩
      case measure => simp [intOf]; omega
    · obtain rfl : j = l.length := by omega
      go_wp2_with fail
      go_ret
      exact ⟨rfl, HT2.out⟩
end Go.Proofs.YtjbjcjcahkfgbaaDoor

/-
  An entry of the window, parsed into a row.
-/
import Derived.Test.YtghgkjollafeiaaCEp
import Derived.Test.YtghgkjollafeiaaPH
import Derived.Test.YtghgkjollafeiaaPB
import Derived.Test.YtghgkjollafeiaaPLe
namespace Go.Proofs.Ytghgkjollafeiaa
open Go.RowKit

def E0 : EntD := ⟨0, 0, nz 3, ByteArray.empty, nz 8⟩
def FE (s : Sx) : Sx × EntD := entS .pr s E0
def entC (d : EntD) : List Value := .int .i64 d.id :: .int .i64 d.er :: (intC d.l ++ .string d.nm :: intC d.xs)
def EntG (_w : World) (cs : List Value) (d : EntD) : Prop := cs = entC d ∧ d.l.length = 3 ∧ d.xs.length = 8
theorem ent_stays : Stays EntG := fun _ _ _ _ h _ => h
theorem lead_ent {d : EntD} {x : Nat} (h : lead (entC d) x) : False := by
  obtain ⟨v, hv, e⟩ := h
  rcases List.mem_cons.1 hv with rfl | hv
  · cases e
  rcases List.mem_cons.1 hv with rfl | hv
  · cases e
  rcases List.mem_append.1 hv with hv | hv
  · exact lead_ints ⟨v, hv, e⟩
  rcases List.mem_cons.1 hv with rfl | hv
  · cases e
  · exact lead_ints ⟨v, hv, e⟩
theorem range_ent {w : World} {q o : Nat} {d : EntD} (h : w.rangeAt q o (entC d)) (h3 : d.l.length = 3) : EntAt w q o d := by
  have hr : w.rangeAt q (o + 2) (intC d.l ++ .string d.nm :: intC d.xs) := fun j v hj => by
    have := h (j + 2) v hj
    rw [show o + (j + 2) = o + 2 + j by omega] at this
    exact this
  have h5 := rangeAt_right hr
  rw [show (intC d.l).length = 3 by unfold intC; rw [List.length_map, h3]] at h5
  refine ⟨h 0 _ rfl, h 1 _ rfl, ints_range (rangeAt_left hr), ?_, ints_range fun j v hj => ?_⟩
  · have := h5 0 _ rfl
    exact this
  · have := h5 (j + 1) v hj
    rw [show o + 2 + 3 + (j + 1) = o + 6 + j by omega] at this
    exact this
theorem ent_range {w : World} {q o : Nat} {d : EntD} (h : EntAt w q o d) (h3 : d.l.length = 3) : w.rangeAt q o (entC d) := by
  have hl : (intC d.l).length = 3 := by unfold intC; rw [List.length_map, h3]
  intro j v hj
  match j, hj with
  | 0, hj => rw [← Option.some.inj hj]; exact h.c0
  | 1, hj => rw [← Option.some.inj hj]; exact h.c1
  | j + 2, hj =>
    have hj : (intC d.l ++ .string d.nm :: intC d.xs)[j]? = some v := hj
    rw [show o + (j + 2) = o + 2 + j by omega]
    by_cases h1 : j < 3
    · rw [List.getElem?_append_left (by omega)] at hj
      exact range_ints h.l j v hj
    · rw [List.getElem?_append_right (by omega), hl] at hj
      by_cases h2 : j = 3
      · subst h2
        rw [← Option.some.inj hj]
        exact h.c5
      · obtain ⟨i, rfl⟩ : ∃ i, j = i + 4 := ⟨j - 4, by omega⟩
        rw [show i + 4 - 3 = i + 1 by omega] at hj
        have := range_ints h.xs i v hj
        rw [show o + 2 + (i + 4) = o + 6 + i by omega]
        exact this
theorem FE_len (s : Sx) : (FE s).2.l.length = 3 ∧ (FE s).2.xs.length = 8 := by
  unfold FE entS
  split
  · exact ⟨numsS_length _ _ _, numsS_length _ _ _⟩
  · exact ⟨numsS_length _ _ _, rfl⟩

set_option maxRecDepth 100000 in
set_option maxHeartbeats 1600000 in
theorem carries_entry (b g : Nat) : Carries 58 14 b g FE EntG zentry := fun w s q off hp hb hg hgl hf hr => by
  have hE : EntAt w q off E0 := range_ent hr rfl
  have hq : q < w.heap.size := lt_of_cell hE.c0
  have hK0 : Keep (fun _ => True) w (w.alloc (.cells #[ifc .pr b] 77)) := (Keep.refl _ w).alloc _
  have hp0 : Ps (w.alloc (.cells #[ifc .pr b] 77)) b g s := hp.keep (hK0.less (fun _ _ _ => trivial))
  have hk0 : (w.alloc (.cells #[ifc .pr b] 77)).cell? ⟨w.heap.size, 0, none⟩ = some (ifc .pr b) := World.cell?_alloc_at _ _ _ _ rfl
  have HC := hide (centry_pr .pr rfl (w := (w.alloc (.cells #[ifc .pr b] 77)).drew) q off E0 rfl rfl (fun e => nomatch e) (fun e => nomatch e) rfl (hp0.drew.one hb hg) rfl (fun k => k.2 rfl) (hE.keep (fun x => hK0.cell hq trivial)) (fun _ o => (hK0.fz hq trivial).trans (hf o)) room_pr)
  have HK0 := hide hK0
  clear hE hp0 hK0 hf hr hp
  go_enter Try.func58, Try.ntmps58
  go_wp2_with fail
  generalize w.alloc (.cells #[ifc .pr b] 77) = w0 at *
  dsimp only [ifc, tyOf] at hk0
  go_region_with (go_at_call 62; refine HC.out.mono ?_; rintro e w1 ⟨rfl, h1, h2, h3⟩; have H1 := hide h1; have H2 := hide h2; have H3 := hide h3.undrew; clear h1 h2 h3)
  all_goals
    go_end0
    obtain ⟨hl3, hl8⟩ := FE_len s
    refine ⟨rfl, Ps.of H1.out, PStep.box HK0.out hq (PStep.of H3.out), entC (FE s).2, ?_, ent_range H2.out hl3, ⟨rfl, hl3, hl8⟩, fun x hx => (lead_ent hx).elim⟩
    simp [entC, intC, hl3, hl8]
end Go.Proofs.Ytghgkjollafeiaa

/-
  EncodeRequest of the frame, and the example, walked.
-/
import Derived.Test.YtkbboingeacgjaaFReqWA
import Derived.Test.YtkbboingeacgjaaFReqWB
import Derived.Test.YtkbboingeacgjaaFReqWC
namespace Go.Proofs.Ytkbboingeacgjaa
open Go.RowKit

theorem reqw {O : Nat → Prop} {b : Nat} {w : World} {s : Sx} (r : Rq) (hr : r.Ok) (h : AtW O b 0 w s) :
    Calls Try.prog 24 #[.agg #[.iface 58 (.pointer (some ⟨b, 0, none⟩))], .agg (rqC r).toArray] w fun e w' => e = .returned (.agg (rqC (reqS wrC s r).2).toArray) ∧ AtW O b 99 w' (reqS wrC s r).1 ∧ Keep O w w' := by
  by_cases hk : isK (wrC.kind s r.k).2
  · obtain ⟨K, hK⟩ : ∃ K, (wrC.kind s r.k).2 = K := ⟨_, rfl⟩
    rw [hK] at hk
    rcases hk with rfl | rfl | rfl | rfl | rfl | rfl | rfl | rfl | rfl | rfl
    · exact reqw1 r hr hK h
    · exact reqw4 r hr hK h
    · exact reqw2 r hr hK h
    · exact reqw3 r hr hK h
    · exact reqw5 r hr hK h
    · exact reqw16 r hr hK h
    · exact reqw17 r hr hK h
    · exact reqw18 r hr hK h
    · exact reqw19 r hr hK h
    · exact reqw20 r hr hK h
  · exact reqwno r hr hk h

/-- What EncodeRequest answers: bytes of the call's own, or a fault. -/
structure EncP (w w' : World) (s : Sx) (v : Value) : Prop where
  own : s.e = 0 → w'.ownsRow w.heap.size 5 1 v s.l.length (s.l.map byteCell)
  no : s.e ≠ 0 → v = .slice none 0 0
  old : Turn [] w w'

theorem fw_new (w : World) (O : Nat → Prop) (hO : ∀ x, O x → x < w.heap.size) : FwAt (w.alloc (.cells #[.int .i64 0, .slice none 0 0] 62)) O w.heap.size [] 0 := by
  refine ⟨⟨.slice none 0 0, World.cell?_alloc_at _ _ _ _ rfl, World.ownsRow_nil _ _ _ _, fun g e => by cases e⟩, World.cell?_alloc_at _ _ _ _ rfl, fun o => ?_, fun h => by have := hO _ h; omega, fun x hx => by have := hO x hx; simp; omega⟩
  unfold World.frozen?
  rw [show (w.alloc _).heap[(⟨w.heap.size, o, none⟩ : Addr).block]? = _ from heap_alloc_new w _]
  simp

set_option maxRecDepth 100000 in
set_option maxHeartbeats 3200000 in
theorem encreq (w : World) (r : Rq) (hr : r.Ok) :
    Calls Try.prog 11 #[.agg (rqC r).toArray] w fun e w' => ∃ v, e = .returned (.tuple #[v, .int .i64 ((reqS wrC ⟨[], 0⟩ r).1.e : Nat)]) ∧ EncP w w' (reqS wrC ⟨[], 0⟩ r).1 v := by
  have hW : AtW (fun x => x < w.heap.size + 1) (w.heap.size + 1) 0 ((w.alloc (.cells (rqC r).toArray 25)).alloc (.cells #[.int .i64 0, .slice none 0 0] 62)) ⟨[], 0⟩ := by
    have := fw_new (w.alloc (.cells (rqC r).toArray 25)) (fun x => x < w.heap.size + 1) (fun x hx => by simp; omega)
    rw [show (w.alloc (.cells (rqC r).toArray 25)).heap.size = w.heap.size + 1 by simp] at this
    exact ⟨this, by simp⟩
  have hR : ((w.alloc (.cells (rqC r).toArray 25)).alloc (.cells #[.int .i64 0, .slice none 0 0] 62)).rangeAt w.heap.size 0 (rqC r) := rangeAt_keep (rng_new w (rqC r) (rqC r).toArray 25 rfl) (Below.heap_alloc _ _ _ (by simp))
  have hK0 : Keep (fun _ => True) w ((w.alloc (.cells (rqC r).toArray 25)).alloc (.cells #[.int .i64 0, .slice none 0 0] 62)) := ((Keep.refl _ w).alloc _).alloc _
  have HC := hide (reqw r hr hW)
  have HR := hide hR
  have HK0 := hide hK0
  have hlr := rqC_len r
  clear hW hR hK0 hr
  generalize reqS wrC ⟨[], 0⟩ r = T at *
  obtain ⟨s, r'⟩ := T
  dsimp only at HC ⊢
  generalize hcs : rqC r = cs at *
  clear hcs
  generalize hfb : w.heap.size = fb at *
  go_enter Try.func11, Try.ntmps11
  go_wp2_with (first | ((with_reducible refine load_sz 25 18 sz25 _ fb 0 cs hlr ?_ HR.out ?_); rfl) | fail)
  have HFb := hide hfb
  clear hfb
  generalize (w.alloc (.cells cs.toArray 25)).alloc (.cells #[.int .i64 0, .slice none 0 0] 62) = w0 at *
  refine HC.out.mono ?_
  rintro e w1 ⟨rfl, hA, hK⟩
  have HE := hide (fwend hA.1)
  have HK : Hid (Turn [] w w1) := by
    have h1 : Keep (fun x => x < fb + 1) w w1 := (HK0.out.less (fun _ _ _ => trivial)).trans hK
    exact ⟨h1.os, h1.tape, h1.output, h1.size, fun k hk _ => h1.block k hk (by have := HFb.out; omega)⟩
  clear hA hK
  go_wp2_with fail
  refine HE.out.mono ?_
  rintro e w2 ⟨⟨v, rfl, h1, h2⟩, n, rfl⟩
  have HP : Hid (EncP w (w1.drewN n) s v) := by
    refine ⟨fun he => ?_, h2, ⟨HK.out.os, HK.out.tape, HK.out.output, HK.out.size, HK.out.block⟩⟩
    obtain ⟨k1, k2⟩ := h1 he
    exact own_from k1 (fun g e h => k2 g e (by have := HFb.out; omega))
  clear h1 h2
  go_wp2_with fail
  go_ret2
  exact ⟨v, rfl, by have := HFb.out; subst this; exact HP.out⟩

end Go.Proofs.Ytkbboingeacgjaa

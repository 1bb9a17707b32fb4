/-
  EncodeRequest of the reference: it answers as the program does.
-/
import Derived.Test.YtkbboingeacgjaaFREncA
import Derived.Test.YtkbboingeacgjaaFREncB
namespace Go.Proofs.Ytkbboingeacgjaa
open Go.RowKit

theorem enc_of {w w' : World} {r : Rq} {T : List ByteArray} {B : List Nat} {v : Value} {m : Nat} (hk : isK r.k) (hT : txts r = T) (hB : reqB r = B) (h : RencP w w' T B v m) : m = (reqS wrC ⟨[], 0⟩ r).1.e ∧ EncP w w' (reqS wrC ⟨[], 0⟩ r).1 v := by
  subst hT hB
  by_cases hf : Fit (txts r)
  · obtain ⟨rfl, h2⟩ := h.ok hf
    rw [enc_ok r hk hf]
    exact ⟨rfl, fun _ => h2, fun h => absurd rfl h, h.old⟩
  · obtain ⟨rfl, h2⟩ := h.no hf
    have he := enc_long r hk hf
    refine ⟨he.symm, fun h => ?_, fun _ => h2, h.old⟩
    rw [he] at h
    cases h

set_option maxRecDepth 100000 in
theorem rencno (w : World) (r : Rq) (hk : ¬ isK r.k) :
    Calls Try.prog 12 #[.agg (rqC r).toArray] w fun e w' => e = .returned (.tuple #[.slice none 0 0, .int .i64 3]) ∧ Turn [] w w' := by
  have c0 : (w.alloc (.cells (rqC r).toArray 25)).cell? ⟨w.heap.size, 0, none⟩ = some (.int .i64 r.k) := by
    rw [World.cell?_alloc_at _ _ _ _ rfl]
    rfl
  have HT : Hid (Turn [] w (w.alloc (.cells (rqC r).toArray 25))) := (Turn.refl [] w).alloc _
  generalize hcs : rqC r = cs at *
  clear hcs
  generalize hrk : w.heap.size = rk at *
  go_enter Try.func12, Try.ntmps12
  go_upto_region 1 with fail
  clear hrk
  generalize w.alloc (.cells cs.toArray 25) = w0 at *
  go_wp2_with (first | (go_at_call 26; refine (rkno _ hk _).mono ?_; rintro e w' ⟨rfl, hw'⟩; subst w') | fail)
  go_ret2
  exact ⟨rfl, HT.out⟩

theorem rencreq (w : World) (r : Rq) (hr : r.Ok) :
    Calls Try.prog 12 #[.agg (rqC r).toArray] w fun e w' => ∃ v, e = .returned (.tuple #[v, .int .i64 ((reqS wrC ⟨[], 0⟩ r).1.e : Nat)]) ∧ EncP w w' (reqS wrC ⟨[], 0⟩ r).1 v := by
  by_cases hk : isK r.k
  · have H := fun {w' : World} {T : List ByteArray} {B : List Nat} {v : Value} {m : Nat} => enc_of (w := w) (w' := w') (r := r) (T := T) (B := B) (v := v) (m := m) hk
    obtain ⟨k, key, id, n, ttl, o, nm, sec, pn, p1, p2, p3, p4, p5, p6, p7, p8, p9⟩ := r
    generalize (reqS wrC ⟨[], 0⟩ ⟨k, key, id, n, ttl, o, nm, sec, pn, p1, p2, p3, p4, p5, p6, p7, p8, p9⟩).1 = S at H ⊢
    have hend : ∀ {e : Ending} {w' : World} {T : List ByteArray} {B : List Nat}, txts ⟨k, key, id, n, ttl, o, nm, sec, pn, p1, p2, p3, p4, p5, p6, p7, p8, p9⟩ = T → reqB ⟨k, key, id, n, ttl, o, nm, sec, pn, p1, p2, p3, p4, p5, p6, p7, p8, p9⟩ = B → (∃ v m, e = .returned (.tuple #[v, .int .i64 (m : Nat)]) ∧ RencP w w' T B v m) → ∃ v, e = .returned (.tuple #[v, .int .i64 (S.e : Nat)]) ∧ EncP w w' S v := by
      rintro e w' T B hT hB ⟨v, m, rfl, h⟩
      obtain ⟨rfl, h2⟩ := H hT hB h
      exact ⟨v, rfl, h2⟩
    clear H
    dsimp only at hk
    rcases hk with rfl | rfl | rfl | rfl | rfl | rfl | rfl | rfl | rfl | rfl
    · exact (renc1 w key id n ttl o nm sec pn p1 p2 p3 p4 p5 p6 p7 p8 p9 hr).mono fun _ _ h => hend rfl (by simp [reqB, bodyB, List.append_assoc]) h
    · exact (renc4 w key id n ttl o nm sec pn p1 p2 p3 p4 p5 p6 p7 p8 p9 hr).mono fun _ _ h => hend rfl (by simp [reqB, bodyB, List.append_assoc]) h
    · exact (renc2 w key id n ttl o nm sec pn p1 p2 p3 p4 p5 p6 p7 p8 p9 hr).mono fun _ _ h => hend rfl (by simp [reqB, bodyB, List.append_assoc]) h
    · exact (renc3 w key id n ttl o nm sec pn p1 p2 p3 p4 p5 p6 p7 p8 p9 hr).mono fun _ _ h => hend rfl (by simp [reqB, bodyB, List.append_assoc]) h
    · exact (renc5 w key id n ttl o nm sec pn p1 p2 p3 p4 p5 p6 p7 p8 p9 hr).mono fun _ _ h => hend rfl (by simp [reqB, bodyB]) h
    · exact (renc16 w key id n ttl o nm sec pn p1 p2 p3 p4 p5 p6 p7 p8 p9 hr).mono fun _ _ h => hend rfl (by simp [reqB, bodyB, Rq.px]) h
    · exact (renc17 w key id n ttl o nm sec pn p1 p2 p3 p4 p5 p6 p7 p8 p9 hr).mono fun _ _ h => hend rfl (by simp [reqB, bodyB, List.append_assoc]) h
    · exact (renc18 w key id n ttl o nm sec pn p1 p2 p3 p4 p5 p6 p7 p8 p9 hr).mono fun _ _ h => hend rfl (by simp [reqB, bodyB, List.append_assoc]) h
    · exact (renc19 w key id n ttl o nm sec pn p1 p2 p3 p4 p5 p6 p7 p8 p9 hr).mono fun _ _ h => hend rfl (by simp [reqB, bodyB]) h
    · exact (renc20 w key id n ttl o nm sec pn p1 p2 p3 p4 p5 p6 p7 p8 p9 hr).mono fun _ _ h => hend rfl (by simp [reqB, bodyB, List.append_assoc]) h
  · have he := enc_no r hk
    refine (rencno w r hk).mono ?_
    rintro e w' ⟨rfl, hT⟩
    refine ⟨.slice none 0 0, by rw [he]; rfl, fun h => ?_, fun _ => rfl, hT⟩
    rw [he] at h
    cases h

end Go.Proofs.Ytkbboingeacgjaa

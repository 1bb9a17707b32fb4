/-
  There is a date of every day; Of by its date; the laws' examples.
-/
import Derived.Test.YtllbcbodfahidaaDoorOf
namespace Go.Proofs.YtllbcbodfahidaaDoor
open Go.RowKit Cal


theorem of_at {y m d n : Int} (hv : vldB y m d = true) (hn : num y m d = n) (w : World) (hT : Tab w) :
    Calls Tryd.prog 30 #[.int .i64 n] w fun e w' => e = .returned (.tuple #[.agg #[.int .i64 y, .int .i64 m, .int .i64 d], .int .i64 0]) ∧ Turn [] w w' := by
  have hb := num_bd hv
  refine (of_yes n w hT (by omega) (by omega)).mono ?_
  rintro e w' ⟨y', m', d', rfl, hv', hn', hT'⟩
  obtain ⟨rfl, rfl, rfl⟩ := num_inj hv hv' (hn.trans hn'.symm)
  exact ⟨rfl, hT'⟩
theorem number_at {y m d n : Int} (hv : vldB y m d = true) (hn : num y m d = n) (w : World) (hT : Tab w) :
    Calls Tryd.prog 26 #[.agg #[.int .i64 y, .int .i64 m, .int .i64 d]] w fun e w' => e = .returned (.tuple #[.int .i64 n, .int .i64 0]) ∧ Turn [] w w' := by
  subst hn; exact number_yes y m d w hT hv

end Go.Proofs.YtllbcbodfahidaaDoor

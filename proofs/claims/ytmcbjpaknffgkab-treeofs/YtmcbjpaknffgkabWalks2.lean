/- What Check of package roll, and the document's answer to it, do. -/
import Derived.Test.YtmcbjpaknffgkabWalks
namespace Go.Proofs.Ytmcbjpaknffgkab
open Go.RowKit Plain

def boundsB (c s lo hi t l : Int) : Bool := inB c 0 1073741824 && inB s (-1125899906842624) 1125899906842624 && inB t 0 1048575 && inB lo (-1000000) 1000000 && inB hi (-1000000) 1000000 && inB l (-1000000) 1000000

set_option maxHeartbeats 400000 in
theorem inBounds_any (c s lo hi t l : Int) (w : World) :
    Calls Try.prog 68 #[.agg #[.int .i64 c, .int .i64 s, .int .i64 lo, .int .i64 hi, .int .i64 t, .int .i64 l]] w fun e w' => e = .returned (.bool (boundsB c s lo hi t l)) ∧ Below w.heap.size w w' := by
  go_enter Try.func68, Try.ntmps68
  go_wp2_with (first | (go_at_call 54; refine (count_any _ _).mono ?_; rintro e w' ⟨rfl, rfl⟩) | (go_at_call 55; refine (sum_any _ _).mono ?_; rintro e w' ⟨rfl, rfl⟩) | (go_at_call 91; refine (time_any _ _).mono ?_; rintro e w' ⟨rfl, rfl⟩) | (go_at_call 92; refine (value_any _ _).mono ?_; rintro e w' ⟨rfl, rfl⟩))
  all_goals (go_ret; exact ⟨by simp [boundsB, *], (Below.refl _ _).alloc (Nat.le_refl _) _⟩)

end Go.Proofs.Ytmcbjpaknffgkab

/- Plain mathematics of rollups: what a check, a point and a merge come to, in integers; no Go in sight. -/
import Derived.RowKit
namespace Go.Proofs.Ytdhbbfmkamgkjaa.Plain

/-- n lies from lo to hi. -/
def inB (n lo hi : Int) : Bool := decide (lo ≤ n) && decide (n ≤ hi)

theorem inB_iff (n lo hi : Int) : inB n lo hi = true ↔ lo ≤ n ∧ n ≤ hi := by simp [inB]
theorem inB_not (n lo hi : Int) : inB n lo hi = false ↔ n < lo ∨ hi < n := by
  simp only [inB, Bool.and_eq_false_iff, decide_eq_false_iff_not]; omega

end Go.Proofs.Ytdhbbfmkamgkjaa.Plain

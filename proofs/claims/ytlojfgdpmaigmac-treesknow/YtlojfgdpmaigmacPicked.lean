/- What picked of package winnowerkeep does: a number from 0 to many - 1. -/
import Derived.Test.YtlojfgdpmaigmacRows
import Derived.WalkKit
import Derived.WalkSpells
import Derived.WalkLawsBesides
namespace Go.Proofs.Ytlojfgdpmaigmac
open Go.RowKit

/-- picked. -/
def pick (n many : Int) : Int := if n < 0 then (-(n + 1)) % many else n % many
theorem pick_bd (n : Int) {many : Int} (h : 0 < many) : 0 ≤ pick n many ∧ pick n many < many := by
  unfold pick
  split
  · exact ⟨Int.emod_nonneg _ (by omega), Int.emod_lt_of_pos _ h⟩
  · exact ⟨Int.emod_nonneg _ (by omega), Int.emod_lt_of_pos _ h⟩
theorem pick_neg {n : Int} (many : Int) (h : n < 0) : pick n many = (-(n + 1)) % many := by simp [pick, h]
theorem pick_pos {n : Int} (many : Int) (h : 0 ≤ n) : pick n many = n % many := by unfold pick; rw [if_neg (by omega)]

set_option maxHeartbeats 400000 in
theorem picked_any (n many : Int) (w : World) (h1 : -9223372036854775808 ≤ n) (h2 : n ≤ 9223372036854775807) (h3 : 0 < many) (h4 : many ≤ 1000000) :
    Calls Try.prog 5 #[.int .i64 n, .int .i64 many] w fun e w' => e = .returned (.int .i64 (pick n many)) ∧ w' = w := by
  by_cases hn : n < 0
  · have e : (-(n + 1)) % many = -((n + 1).tmod many) := by rw [← Int.neg_tmod, Int.tmod_eq_emod_of_nonneg (by omega)]
    rw [pick_neg many hn, e]
    clear e
    go_enter Try.func5, Try.ntmps5
    go_wp2
    go_ret
    exact ⟨rfl, rfl⟩
  · rw [pick_pos many (by omega)]
    go_enter Try.func5, Try.ntmps5
    go_wp2
    go_ret
    exact ⟨rfl, rfl⟩

end Go.Proofs.Ytlojfgdpmaigmac

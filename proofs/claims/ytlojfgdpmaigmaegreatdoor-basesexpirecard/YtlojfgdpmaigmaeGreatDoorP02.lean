/- What the functions of package roll, and of the document's answer to it, do: a contract each. -/
import Derived.Test.YtlojfgdpmaigmaeGreatDoorRows
import Derived.Test.YtlojfgdpmaigmaeGreatDoorP01
import Derived.WalkKit
import Derived.WalkSpells
import Derived.WalkLawsBesides
namespace Go.Proofs.YtlojfgdpmaigmaeGreatDoor
open Go.RowKit Plain

set_option maxHeartbeats 400000 in
theorem within_any (n lo hi : Int) (w : World) :
    Calls Tryz.prog 88 #[.int .i64 n, .int .i64 lo, .int .i64 hi] w fun e w' => e = .returned (.bool (inB n lo hi)) ∧ w' = w := by
  by_cases h1 : lo ≤ n <;> by_cases h2 : n ≤ hi <;>
  · go_enter Tryz.func88, Tryz.ntmps88
    go_wp2
    go_ret
    exact ⟨by simp [inB, h1, h2], rfl⟩

set_option maxHeartbeats 400000 in
theorem count_any (n : Int) (w : World) :
    Calls Tryz.prog 68 #[.int .i64 n] w fun e w' => e = .returned (.bool (inB n (0) 1073741824)) ∧ w' = w := by
  go_enter Tryz.func68, Tryz.ntmps68
  go_wp2_with (go_at_call 88; refine (within_any _ _ _ _).mono ?_; rintro e w' ⟨rfl, rfl⟩)
  go_ret
  exact ⟨rfl, rfl⟩

set_option maxHeartbeats 400000 in
theorem sum_any (n : Int) (w : World) :
    Calls Tryz.prog 69 #[.int .i64 n] w fun e w' => e = .returned (.bool (inB n (-1125899906842624) 1125899906842624)) ∧ w' = w := by
  go_enter Tryz.func69, Tryz.ntmps69
  go_wp2_with (go_at_call 88; refine (within_any _ _ _ _).mono ?_; rintro e w' ⟨rfl, rfl⟩)
  go_ret
  exact ⟨rfl, rfl⟩

set_option maxHeartbeats 400000 in
theorem time_any (n : Int) (w : World) :
    Calls Tryz.prog 64 #[.int .i64 n] w fun e w' => e = .returned (.bool (inB n (0) 1048575)) ∧ w' = w := by
  go_enter Tryz.func64, Tryz.ntmps64
  go_wp2_with (go_at_call 88; refine (within_any _ _ _ _).mono ?_; rintro e w' ⟨rfl, rfl⟩)
  go_ret
  exact ⟨rfl, rfl⟩

set_option maxHeartbeats 400000 in
theorem value_any (n : Int) (w : World) :
    Calls Tryz.prog 65 #[.int .i64 n] w fun e w' => e = .returned (.bool (inB n (-1000000) 1000000)) ∧ w' = w := by
  go_enter Tryz.func65, Tryz.ntmps65
  go_wp2_with (go_at_call 88; refine (within_any _ _ _ _).mono ?_; rintro e w' ⟨rfl, rfl⟩)
  go_ret
  exact ⟨rfl, rfl⟩

end Go.Proofs.YtlojfgdpmaigmaeGreatDoor

/- What Check of package roll, and the document's answer to it, do. -/
namespace Go.Proofs.YtlojfgdpmaigmaeGreatDoor
open Go.RowKit Plain

def boundsB (c s lo hi t l : Int) : Bool := inB c 0 1073741824 && inB s (-1125899906842624) 1125899906842624 && inB t 0 1048575 && inB lo (-1000000) 1000000 && inB hi (-1000000) 1000000 && inB l (-1000000) 1000000

set_option maxHeartbeats 400000 in
theorem inBounds_any (c s lo hi t l : Int) (w : World) :
    Calls Tryz.prog 89 #[.agg #[.int .i64 c, .int .i64 s, .int .i64 lo, .int .i64 hi, .int .i64 t, .int .i64 l]] w fun e w' => e = .returned (.bool (boundsB c s lo hi t l)) ∧ Below w.heap.size w w' := by
  go_enter Tryz.func89, Tryz.ntmps89
  go_wp2_with (first | (go_at_call 68; refine (count_any _ _).mono ?_; rintro e w' ⟨rfl, rfl⟩) | (go_at_call 69; refine (sum_any _ _).mono ?_; rintro e w' ⟨rfl, rfl⟩) | (go_at_call 64; refine (time_any _ _).mono ?_; rintro e w' ⟨rfl, rfl⟩) | (go_at_call 65; refine (value_any _ _).mono ?_; rintro e w' ⟨rfl, rfl⟩))
  all_goals (go_ret; exact ⟨by simp [boundsB, *], (Below.refl _ _).alloc (Nat.le_refl _) _⟩)

end Go.Proofs.YtlojfgdpmaigmaeGreatDoor

/- What two rollups held against each other, and inForm of package roll, come to. -/
namespace Go.Proofs.YtlojfgdpmaigmaeGreatDoor
open Go.RowKit Plain

def eqR (c s lo hi t l c' s' lo' hi' t' l' : Int) : Bool := c == c' && s == s' && lo == lo' && hi == hi' && t == t' && l == l'

def formB (c s lo hi t l : Int) : Bool := if c = 0 then eqR c s lo hi t l 0 0 0 0 0 0 else inB l lo hi && inB s (wrap64 (c * lo)) (wrap64 (c * hi))


set_option maxHeartbeats 400000 in
theorem inForm_any (c s lo hi t l : Int) (w : World) :
    Calls Tryz.prog 90 #[.agg #[.int .i64 c, .int .i64 s, .int .i64 lo, .int .i64 hi, .int .i64 t, .int .i64 l]] w fun e w' => e = .returned (.bool (formB c s lo hi t l)) ∧ Below w.heap.size w w' := by
  by_cases hc : c = 0
  · subst hc
    go_enter Tryz.func90, Tryz.ntmps90
    go_wp2
    all_goals (go_ret; exact ⟨by simp [formB, eqR, *], (Below.refl _ _).alloc (Nat.le_refl _) _⟩)
  · have h0 : (c == 0) = false := by simpa using hc
    have e0 : formB c s lo hi t l = (inB l lo hi && inB s (wrap64 (c * lo)) (wrap64 (c * hi))) := by simp [formB, hc]
    have E0 : Hid (formB c s lo hi t l = (inB l lo hi && inB s (wrap64 (c * lo)) (wrap64 (c * hi)))) := e0
    clear e0 hc
    by_cases h1 : inB l lo hi = true
    · go_enter Tryz.func90, Tryz.ntmps90
      go_wp2_with (first | (go_at_call 88; refine (within_any _ _ _ _).mono ?_; rintro e w' ⟨rfl, rfl⟩))
      go_ret
      exact ⟨by rw [E0.out, h1]; rfl, (Below.refl _ _).alloc (Nat.le_refl _) _⟩
    · have h1 : inB l lo hi = false := by simpa using h1
      go_enter Tryz.func90, Tryz.ntmps90
      go_wp2_with (first | (go_at_call 88; refine (within_any _ _ _ _).mono ?_; rintro e w' ⟨rfl, rfl⟩))
      go_ret
      exact ⟨by rw [E0.out, h1]; rfl, (Below.refl _ _).alloc (Nat.le_refl _) _⟩

end Go.Proofs.YtlojfgdpmaigmaeGreatDoor

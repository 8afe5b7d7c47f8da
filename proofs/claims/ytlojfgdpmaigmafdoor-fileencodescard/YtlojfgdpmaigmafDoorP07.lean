/- What the functions of package roll, and of the document's answer to it, do: a contract each. -/
import Derived.Test.YtlojfgdpmaigmafDoorRows
import Derived.Test.YtlojfgdpmaigmafDoorP01
import Derived.WalkKit
import Derived.WalkSpells
import Derived.WalkLawsBesides
namespace Go.Proofs.YtlojfgdpmaigmafDoor
open Go.RowKit Plain

set_option maxHeartbeats 400000 in
theorem within_any (n lo hi : Int) (w : World) :
    Calls Tryd.prog 77 #[.int .i64 n, .int .i64 lo, .int .i64 hi] w fun e w' => e = .returned (.bool (inB n lo hi)) ∧ w' = w := by
  by_cases h1 : lo ≤ n <;> by_cases h2 : n ≤ hi <;>
  · go_enter Tryd.func77, Tryd.ntmps77
    go_wp2
    go_ret
    exact ⟨by simp [inB, h1, h2], rfl⟩

set_option maxHeartbeats 400000 in
theorem in_any (n lo hi : Int) (w : World) :
    Calls Tryd.prog 26 #[.int .i64 n, .int .i64 lo, .int .i64 hi] w fun e w' => e = .returned (.bool (inB n lo hi)) ∧ w' = w := by
  by_cases h1 : lo ≤ n <;> by_cases h2 : n ≤ hi <;>
  · go_enter Tryd.func26, Tryd.ntmps26
    go_wp2
    go_ret
    exact ⟨by simp [inB, h1, h2], rfl⟩

set_option maxHeartbeats 400000 in
theorem count_any (n : Int) (w : World) :
    Calls Tryd.prog 59 #[.int .i64 n] w fun e w' => e = .returned (.bool (inB n (0) 1073741824)) ∧ w' = w := by
  go_enter Tryd.func59, Tryd.ntmps59
  go_wp2_with (go_at_call 77; refine (within_any _ _ _ _).mono ?_; rintro e w' ⟨rfl, rfl⟩)
  go_ret
  exact ⟨rfl, rfl⟩

set_option maxHeartbeats 400000 in
theorem sum_any (n : Int) (w : World) :
    Calls Tryd.prog 60 #[.int .i64 n] w fun e w' => e = .returned (.bool (inB n (-1125899906842624) 1125899906842624)) ∧ w' = w := by
  go_enter Tryd.func60, Tryd.ntmps60
  go_wp2_with (go_at_call 77; refine (within_any _ _ _ _).mono ?_; rintro e w' ⟨rfl, rfl⟩)
  go_ret
  exact ⟨rfl, rfl⟩

set_option maxHeartbeats 400000 in
theorem time_any (n : Int) (w : World) :
    Calls Tryd.prog 80 #[.int .i64 n] w fun e w' => e = .returned (.bool (inB n (0) 1048575)) ∧ w' = w := by
  go_enter Tryd.func80, Tryd.ntmps80
  go_wp2_with (go_at_call 77; refine (within_any _ _ _ _).mono ?_; rintro e w' ⟨rfl, rfl⟩)
  go_ret
  exact ⟨rfl, rfl⟩

set_option maxHeartbeats 400000 in
theorem value_any (n : Int) (w : World) :
    Calls Tryd.prog 81 #[.int .i64 n] w fun e w' => e = .returned (.bool (inB n (-1000000) 1000000)) ∧ w' = w := by
  go_enter Tryd.func81, Tryd.ntmps81
  go_wp2_with (go_at_call 77; refine (within_any _ _ _ _).mono ?_; rintro e w' ⟨rfl, rfl⟩)
  go_ret
  exact ⟨rfl, rfl⟩

end Go.Proofs.YtlojfgdpmaigmafDoor

/- What Check of package roll, and the document's answer to it, do. -/
namespace Go.Proofs.YtlojfgdpmaigmafDoor
open Go.RowKit Plain

def boundsB (c s lo hi t l : Int) : Bool := inB c 0 1073741824 && inB s (-1125899906842624) 1125899906842624 && inB t 0 1048575 && inB lo (-1000000) 1000000 && inB hi (-1000000) 1000000 && inB l (-1000000) 1000000

set_option maxHeartbeats 400000 in
theorem inBounds_any (c s lo hi t l : Int) (w : World) :
    Calls Tryd.prog 63 #[.agg #[.int .i64 c, .int .i64 s, .int .i64 lo, .int .i64 hi, .int .i64 t, .int .i64 l]] w fun e w' => e = .returned (.bool (boundsB c s lo hi t l)) ∧ Below w.heap.size w w' := by
  go_enter Tryd.func63, Tryd.ntmps63
  go_wp2_with (first | (go_at_call 59; refine (count_any _ _).mono ?_; rintro e w' ⟨rfl, rfl⟩) | (go_at_call 60; refine (sum_any _ _).mono ?_; rintro e w' ⟨rfl, rfl⟩) | (go_at_call 80; refine (time_any _ _).mono ?_; rintro e w' ⟨rfl, rfl⟩) | (go_at_call 81; refine (value_any _ _).mono ?_; rintro e w' ⟨rfl, rfl⟩))
  all_goals (go_ret; exact ⟨by simp [boundsB, *], (Below.refl _ _).alloc (Nat.le_refl _) _⟩)

end Go.Proofs.YtlojfgdpmaigmafDoor

/- What two rollups held against each other, and inForm of package roll, come to. -/
namespace Go.Proofs.YtlojfgdpmaigmafDoor
open Go.RowKit Plain

def eqR (c s lo hi t l c' s' lo' hi' t' l' : Int) : Bool := c == c' && s == s' && lo == lo' && hi == hi' && t == t' && l == l'

def formB (c s lo hi t l : Int) : Bool := if c = 0 then eqR c s lo hi t l 0 0 0 0 0 0 else inB l lo hi && inB s (wrap64 (c * lo)) (wrap64 (c * hi))


set_option maxHeartbeats 400000 in
theorem inForm_any (c s lo hi t l : Int) (w : World) :
    Calls Tryd.prog 64 #[.agg #[.int .i64 c, .int .i64 s, .int .i64 lo, .int .i64 hi, .int .i64 t, .int .i64 l]] w fun e w' => e = .returned (.bool (formB c s lo hi t l)) ∧ Below w.heap.size w w' := by
  by_cases hc : c = 0
  · subst hc
    go_enter Tryd.func64, Tryd.ntmps64
    go_wp2
    all_goals (go_ret; exact ⟨by simp [formB, eqR, *], (Below.refl _ _).alloc (Nat.le_refl _) _⟩)
  · have h0 : (c == 0) = false := by simpa using hc
    have e0 : formB c s lo hi t l = (inB l lo hi && inB s (wrap64 (c * lo)) (wrap64 (c * hi))) := by simp [formB, hc]
    have E0 : Hid (formB c s lo hi t l = (inB l lo hi && inB s (wrap64 (c * lo)) (wrap64 (c * hi)))) := e0
    clear e0 hc
    by_cases h1 : inB l lo hi = true
    · go_enter Tryd.func64, Tryd.ntmps64
      go_wp2_with (first | (go_at_call 77; refine (within_any _ _ _ _).mono ?_; rintro e w' ⟨rfl, rfl⟩))
      go_ret
      exact ⟨by rw [E0.out, h1]; rfl, (Below.refl _ _).alloc (Nat.le_refl _) _⟩
    · have h1 : inB l lo hi = false := by simpa using h1
      go_enter Tryd.func64, Tryd.ntmps64
      go_wp2_with (first | (go_at_call 77; refine (within_any _ _ _ _).mono ?_; rintro e w' ⟨rfl, rfl⟩))
      go_ret
      exact ⟨by rw [E0.out, h1]; rfl, (Below.refl _ _).alloc (Nat.le_refl _) _⟩

end Go.Proofs.YtlojfgdpmaigmafDoor

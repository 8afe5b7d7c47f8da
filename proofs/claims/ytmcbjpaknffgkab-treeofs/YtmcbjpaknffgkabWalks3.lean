/- What two rollups held against each other, and inForm of package roll, come to. -/
import Derived.Test.YtmcbjpaknffgkabWalks2
namespace Go.Proofs.Ytmcbjpaknffgkab
open Go.RowKit Plain

def eqR (c s lo hi t l c' s' lo' hi' t' l' : Int) : Bool := c == c' && s == s' && lo == lo' && hi == hi' && t == t' && l == l'

set_option maxHeartbeats 400000 in
theorem eqRu (c s lo hi t l c' s' lo' hi' t' l' : Int) (w : World) : (Op.equalIn 10000 36 (.agg #[.int .i64 c, .int .i64 s, .int .i64 lo, .int .i64 hi, .int .i64 t, .int .i64 l]) (.agg #[.int .i64 c', .int .i64 s', .int .i64 lo', .int .i64 hi', .int .i64 t', .int .i64 l'])).run Try.prog w = .ok (eqR c s lo hi t l c' s' lo' hi' t' l') w := by
  have hS : Try.prog.underlying 36 = some (.struct (Try.prog.fieldsOf 36)) := by kernel_rfl
  rw [show (10000 : Nat) = 9999 + 1 from rfl, run_equalIn_agg w 9999 36 _ _ hS Try.stoodInHeld36]
  simp only [Program.fieldsOf, Try.underlying36]
  go_simp
  unfold eqR
  by_cases h1 : c = c' <;> by_cases h2 : s = s' <;> by_cases h3 : lo = lo' <;> by_cases h4 : hi = hi' <;> by_cases h5 : t = t' <;> by_cases h6 : l = l' <;> simp [h1, h2, h3, h4, h5, h6]

theorem runEq (c s lo hi t l c' s' lo' hi' t' l' : Int) (w : World) : (binOp .eql 36 (.agg #[.int .i64 c, .int .i64 s, .int .i64 lo, .int .i64 hi, .int .i64 t, .int .i64 l]) (.agg #[.int .i64 c', .int .i64 s', .int .i64 lo', .int .i64 hi', .int .i64 t', .int .i64 l'])).run Try.prog w = .ok (.bool (eqR c s lo hi t l c' s' lo' hi' t' l')) w := by
  rw [run_eql_struct, eqRu]; rfl

def formB (c s lo hi t l : Int) : Bool := if c = 0 then eqR c s lo hi t l 0 0 0 0 0 0 else inB l lo hi && inB s (wrap64 (c * lo)) (wrap64 (c * hi))


set_option maxHeartbeats 400000 in
theorem inForm_any (c s lo hi t l : Int) (w : World) :
    Calls Try.prog 69 #[.agg #[.int .i64 c, .int .i64 s, .int .i64 lo, .int .i64 hi, .int .i64 t, .int .i64 l]] w fun e w' => e = .returned (.bool (formB c s lo hi t l)) ∧ Below w.heap.size w w' := by
  by_cases hc : c = 0
  · subst hc
    go_enter Try.func69, Try.ntmps69
    go_wp2
    all_goals (go_ret; exact ⟨by simp [formB, eqR, *], (Below.refl _ _).alloc (Nat.le_refl _) _⟩)
  · have h0 : (c == 0) = false := by simpa using hc
    have e0 : formB c s lo hi t l = (inB l lo hi && inB s (wrap64 (c * lo)) (wrap64 (c * hi))) := by simp [formB, hc]
    have E0 : Hid (formB c s lo hi t l = (inB l lo hi && inB s (wrap64 (c * lo)) (wrap64 (c * hi)))) := e0
    clear e0 hc
    by_cases h1 : inB l lo hi = true
    · go_enter Try.func69, Try.ntmps69
      go_wp2_with (first | (go_at_call 71; refine (within_any _ _ _ _).mono ?_; rintro e w' ⟨rfl, rfl⟩))
      go_ret
      exact ⟨by rw [E0.out, h1]; rfl, (Below.refl _ _).alloc (Nat.le_refl _) _⟩
    · have h1 : inB l lo hi = false := by simpa using h1
      go_enter Try.func69, Try.ntmps69
      go_wp2_with (first | (go_at_call 71; refine (within_any _ _ _ _).mono ?_; rintro e w' ⟨rfl, rfl⟩))
      go_ret
      exact ⟨by rw [E0.out, h1]; rfl, (Below.refl _ _).alloc (Nat.le_refl _) _⟩

end Go.Proofs.Ytmcbjpaknffgkab

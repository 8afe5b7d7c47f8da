/- What together of package roll does. -/
import Derived.Test.YtmcbjpaknffgkabWalks6
import Derived.Test.YtmcbjpaknffgkabAid
namespace Go.Proofs.Ytmcbjpaknffgkab
open Go.RowKit Plain

set_option maxHeartbeats 1000000 in
theorem together_any (c s lo hi t l c' s' lo' hi' t' l' : Int) (w : World) (a1 : 0 ≤ c) (a2 : c ≤ 1073741824) (b1 : 0 ≤ c') (b2 : c' ≤ 1073741824) (a3 : -1125899906842624 ≤ s) (a4 : s ≤ 1125899906842624) (b3 : -1125899906842624 ≤ s') (b4 : s' ≤ 1125899906842624) :
    Calls Try.prog 53 #[.agg #[.int .i64 c, .int .i64 s, .int .i64 lo, .int .i64 hi, .int .i64 t, .int .i64 l], .agg #[.int .i64 c', .int .i64 s', .int .i64 lo', .int .i64 hi', .int .i64 t', .int .i64 l']] w fun e w' => e = .returned (.agg #[.int .i64 (c + c'), .int .i64 (s + s'), .int .i64 (mn lo lo'), .int .i64 (mx hi hi'), .int .i64 (pk (ltr t l t' l') t t'), .int .i64 (pk (ltr t l t' l') l l')]) ∧ Below w.heap.size w w' := by
  by_cases hl : ltr t l t' l' = true
  · rw [pk_t t t' hl, pk_t l l' hl]
    go_enter Try.func53, Try.ntmps53
    go_wp2_with (first | (go_at_call 70; refine (later_a _ _ _ _ _ _ _ _ _ _ _ _ _ hl).mono ?_; rintro e w1 ⟨rfl, hb1⟩; obtain ⟨hc1, hf1⟩ := bcell hb1; obtain ⟨hz1, hz2, hz3⟩ := sz3 hb1))
    all_goals
      first
      | exact bodyPost_ret (v := .agg #[.int .i64 (c + c'), .int .i64 (s + s'), .int .i64 lo, .int .i64 hi, .int .i64 t, .int .i64 l]) (by simp [results, Try.results53, go_sem, hc1, hz3]) rfl ⟨by rw [mn_l (show lo ≤ lo' by omega), mx_l (show hi' ≤ hi by omega)], (set6 ((Below.refl _ _).alloc (Nat.le_refl _) _ |>.alloc (by simp) _ |>.alloc (by simp; omega) _ |>.trans (hb1.mono (by simp; omega))) (by omega) _ _ _ _ _ _).alloc (by simp; omega) _⟩
      | exact bodyPost_ret (v := .agg #[.int .i64 (c + c'), .int .i64 (s + s'), .int .i64 lo, .int .i64 hi', .int .i64 t, .int .i64 l]) (by simp [results, Try.results53, go_sem, hc1, hz3]) rfl ⟨by rw [mn_l (show lo ≤ lo' by omega), mx_r (show hi ≤ hi' by omega)], (set6 ((Below.refl _ _).alloc (Nat.le_refl _) _ |>.alloc (by simp) _ |>.alloc (by simp; omega) _ |>.trans (hb1.mono (by simp; omega))) (by omega) _ _ _ _ _ _).alloc (by simp; omega) _⟩
      | exact bodyPost_ret (v := .agg #[.int .i64 (c + c'), .int .i64 (s + s'), .int .i64 lo', .int .i64 hi, .int .i64 t, .int .i64 l]) (by simp [results, Try.results53, go_sem, hc1, hz3]) rfl ⟨by rw [mn_r (show lo' ≤ lo by omega), mx_l (show hi' ≤ hi by omega)], (set6 ((Below.refl _ _).alloc (Nat.le_refl _) _ |>.alloc (by simp) _ |>.alloc (by simp; omega) _ |>.trans (hb1.mono (by simp; omega))) (by omega) _ _ _ _ _ _).alloc (by simp; omega) _⟩
      | exact bodyPost_ret (v := .agg #[.int .i64 (c + c'), .int .i64 (s + s'), .int .i64 lo', .int .i64 hi', .int .i64 t, .int .i64 l]) (by simp [results, Try.results53, go_sem, hc1, hz3]) rfl ⟨by rw [mn_r (show lo' ≤ lo by omega), mx_r (show hi ≤ hi' by omega)], (set6 ((Below.refl _ _).alloc (Nat.le_refl _) _ |>.alloc (by simp) _ |>.alloc (by simp; omega) _ |>.trans (hb1.mono (by simp; omega))) (by omega) _ _ _ _ _ _).alloc (by simp; omega) _⟩
  · have hl : ltr t l t' l' = false := by simpa using hl
    rw [pk_f t t' hl, pk_f l l' hl]
    go_enter Try.func53, Try.ntmps53
    go_wp2_with (first | (go_at_call 70; refine (later_b _ _ _ _ _ _ _ _ _ _ _ _ _ hl).mono ?_; rintro e w1 ⟨rfl, hb1⟩; obtain ⟨hc1, hf1⟩ := bcell hb1; obtain ⟨hz1, hz2, hz3⟩ := sz3 hb1))
    all_goals
      first
      | exact bodyPost_ret (v := .agg #[.int .i64 (c + c'), .int .i64 (s + s'), .int .i64 lo, .int .i64 hi, .int .i64 t', .int .i64 l']) (by simp [results, Try.results53, go_sem, hc1, hz3]) rfl ⟨by rw [mn_l (show lo ≤ lo' by omega), mx_l (show hi' ≤ hi by omega)], (set6 ((Below.refl _ _).alloc (Nat.le_refl _) _ |>.alloc (by simp) _ |>.alloc (by simp; omega) _ |>.trans (hb1.mono (by simp; omega))) (by omega) _ _ _ _ _ _).alloc (by simp; omega) _⟩
      | exact bodyPost_ret (v := .agg #[.int .i64 (c + c'), .int .i64 (s + s'), .int .i64 lo, .int .i64 hi', .int .i64 t', .int .i64 l']) (by simp [results, Try.results53, go_sem, hc1, hz3]) rfl ⟨by rw [mn_l (show lo ≤ lo' by omega), mx_r (show hi ≤ hi' by omega)], (set6 ((Below.refl _ _).alloc (Nat.le_refl _) _ |>.alloc (by simp) _ |>.alloc (by simp; omega) _ |>.trans (hb1.mono (by simp; omega))) (by omega) _ _ _ _ _ _).alloc (by simp; omega) _⟩
      | exact bodyPost_ret (v := .agg #[.int .i64 (c + c'), .int .i64 (s + s'), .int .i64 lo', .int .i64 hi, .int .i64 t', .int .i64 l']) (by simp [results, Try.results53, go_sem, hc1, hz3]) rfl ⟨by rw [mn_r (show lo' ≤ lo by omega), mx_l (show hi' ≤ hi by omega)], (set6 ((Below.refl _ _).alloc (Nat.le_refl _) _ |>.alloc (by simp) _ |>.alloc (by simp; omega) _ |>.trans (hb1.mono (by simp; omega))) (by omega) _ _ _ _ _ _).alloc (by simp; omega) _⟩
      | exact bodyPost_ret (v := .agg #[.int .i64 (c + c'), .int .i64 (s + s'), .int .i64 lo', .int .i64 hi', .int .i64 t', .int .i64 l']) (by simp [results, Try.results53, go_sem, hc1, hz3]) rfl ⟨by rw [mn_r (show lo' ≤ lo by omega), mx_r (show hi ≤ hi' by omega)], (set6 ((Below.refl _ _).alloc (Nat.le_refl _) _ |>.alloc (by simp) _ |>.alloc (by simp; omega) _ |>.trans (hb1.mono (by simp; omega))) (by omega) _ _ _ _ _ _).alloc (by simp; omega) _⟩

end Go.Proofs.Ytmcbjpaknffgkab

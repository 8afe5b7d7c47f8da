/- What Merge of package roll does, where something is refused or one has no points. -/
import Derived.Test.YtmcbjpaknffgkabWalks7
namespace Go.Proofs.Ytmcbjpaknffgkab
open Go.RowKit Plain

set_option maxHeartbeats 1000000 in
theorem merge_bad1 (c s lo hi t l c' s' lo' hi' t' l' : Int) (w : World) (h : (checkC c s lo hi t l != 0) = true) :
    Calls Try.prog 39 #[.agg #[.int .i64 c, .int .i64 s, .int .i64 lo, .int .i64 hi, .int .i64 t, .int .i64 l], .agg #[.int .i64 c', .int .i64 s', .int .i64 lo', .int .i64 hi', .int .i64 t', .int .i64 l']] w fun e w' => e = .returned (.tuple #[.agg #[.int .i64 0, .int .i64 0, .int .i64 0, .int .i64 0, .int .i64 0, .int .i64 0], .int .i64 (checkC c s lo hi t l)]) ∧ Below w.heap.size w w' := by
  go_enter Try.func39, Try.ntmps39
  go_wp2_with (first | (go_at_call 52; refine (check_any _ _ _ _ _ _ _).mono ?_; rintro e w1 ⟨rfl, hb1⟩; obtain ⟨hc1, hf1⟩ := bcell hb1; obtain ⟨hz1, hz2, hz3⟩ := sz3 hb1))
  exact bodyPost_ret (v := .tuple #[.agg #[.int .i64 0, .int .i64 0, .int .i64 0, .int .i64 0, .int .i64 0, .int .i64 0], .int .i64 (checkC c s lo hi t l)]) (by simp [results, Try.results39, go_sem, hc1]) rfl ⟨rfl, set6 (up3 hb1) (by omega) _ _ _ _ _ _⟩

set_option maxHeartbeats 1000000 in
theorem merge_bad2 (c s lo hi t l c' s' lo' hi' t' l' : Int) (w : World) (h0 : checkC c s lo hi t l = 0) (h : (checkC c' s' lo' hi' t' l' != 0) = true) :
    Calls Try.prog 39 #[.agg #[.int .i64 c, .int .i64 s, .int .i64 lo, .int .i64 hi, .int .i64 t, .int .i64 l], .agg #[.int .i64 c', .int .i64 s', .int .i64 lo', .int .i64 hi', .int .i64 t', .int .i64 l']] w fun e w' => e = .returned (.tuple #[.agg #[.int .i64 0, .int .i64 0, .int .i64 0, .int .i64 0, .int .i64 0, .int .i64 0], .int .i64 (checkC c' s' lo' hi' t' l')]) ∧ Below w.heap.size w w' := by
  go_enter Try.func39, Try.ntmps39
  go_wp2_with fail
  refine (check_any _ _ _ _ _ _ _).mono ?_
  rintro e w1 ⟨rfl, hb1⟩
  obtain ⟨hc1, hf1⟩ := bcell hb1
  obtain ⟨hz1, hz2, hz3⟩ := sz3 hb1
  have hy1 := hb1.size
  go_wp2_with fail
  refine (check_any _ _ _ _ _ _ _).mono ?_
  rintro e w2 ⟨rfl, hb2⟩
  obtain ⟨hc2, hf2⟩ := bcell hb2
  go_wp2
  exact bodyPost_ret (v := .tuple #[.agg #[.int .i64 0, .int .i64 0, .int .i64 0, .int .i64 0, .int .i64 0, .int .i64 0], .int .i64 (checkC c' s' lo' hi' t' l')]) (by simp [results, Try.results39, go_sem, hc1, hc2, hz3]) rfl ⟨rfl, set6 (up (up3 hb1) hb2) (by omega) _ _ _ _ _ _⟩

set_option maxHeartbeats 1000000 in
theorem merge_none1 (s lo hi t l c' s' lo' hi' t' l' : Int) (w : World) (h0 : checkC 0 s lo hi t l = 0) (h : checkC c' s' lo' hi' t' l' = 0) :
    Calls Try.prog 39 #[.agg #[.int .i64 0, .int .i64 s, .int .i64 lo, .int .i64 hi, .int .i64 t, .int .i64 l], .agg #[.int .i64 c', .int .i64 s', .int .i64 lo', .int .i64 hi', .int .i64 t', .int .i64 l']] w fun e w' => e = .returned (.tuple #[.agg #[.int .i64 c', .int .i64 s', .int .i64 lo', .int .i64 hi', .int .i64 t', .int .i64 l'], .int .i64 0]) ∧ Below w.heap.size w w' := by
  go_enter Try.func39, Try.ntmps39
  go_wp2_with fail
  refine (check_any _ _ _ _ _ _ _).mono ?_
  rintro e w1 ⟨rfl, hb1⟩
  obtain ⟨hc1, hf1⟩ := bcell hb1
  obtain ⟨hz1, hz2, hz3⟩ := sz3 hb1
  have hy1 := hb1.size
  go_wp2_with fail
  refine (check_any _ _ _ _ _ _ _).mono ?_
  rintro e w2 ⟨rfl, hb2⟩
  obtain ⟨hc2, hf2⟩ := bcell hb2
  go_wp2
  exact bodyPost_ret (v := .tuple #[.agg #[.int .i64 c', .int .i64 s', .int .i64 lo', .int .i64 hi', .int .i64 t', .int .i64 l'], .int .i64 0]) (by simp [results, Try.results39, go_sem, hc1, hc2, hz3]) rfl ⟨rfl, set6 (up (up3 hb1) hb2) (by omega) _ _ _ _ _ _⟩

set_option maxHeartbeats 1000000 in
theorem merge_none2 (c s lo hi t l s' lo' hi' t' l' : Int) (w : World) (h0 : checkC c s lo hi t l = 0) (h : checkC 0 s' lo' hi' t' l' = 0) (hn : (c == 0) = false) :
    Calls Try.prog 39 #[.agg #[.int .i64 c, .int .i64 s, .int .i64 lo, .int .i64 hi, .int .i64 t, .int .i64 l], .agg #[.int .i64 0, .int .i64 s', .int .i64 lo', .int .i64 hi', .int .i64 t', .int .i64 l']] w fun e w' => e = .returned (.tuple #[.agg #[.int .i64 c, .int .i64 s, .int .i64 lo, .int .i64 hi, .int .i64 t, .int .i64 l], .int .i64 0]) ∧ Below w.heap.size w w' := by
  go_enter Try.func39, Try.ntmps39
  go_wp2_with fail
  refine (check_any _ _ _ _ _ _ _).mono ?_
  rintro e w1 ⟨rfl, hb1⟩
  obtain ⟨hc1, hf1⟩ := bcell hb1
  obtain ⟨hz1, hz2, hz3⟩ := sz3 hb1
  have hy1 := hb1.size
  go_wp2_with fail
  refine (check_any _ _ _ _ _ _ _).mono ?_
  rintro e w2 ⟨rfl, hb2⟩
  obtain ⟨hc2, hf2⟩ := bcell hb2
  go_wp2
  exact bodyPost_ret (v := .tuple #[.agg #[.int .i64 c, .int .i64 s, .int .i64 lo, .int .i64 hi, .int .i64 t, .int .i64 l], .int .i64 0]) (by simp [results, Try.results39, go_sem, hc1, hc2, hz3]) rfl ⟨rfl, set6 (up (up3 hb1) hb2) (by omega) _ _ _ _ _ _⟩

theorem check_bounds {c s lo hi t l : Int} (h : checkC c s lo hi t l = 0) : (0 ≤ c ∧ c ≤ 1073741824) ∧ (-1125899906842624 ≤ s ∧ s ≤ 1125899906842624) ∧ (0 ≤ t ∧ t ≤ 1048575) ∧ (-1000000 ≤ lo ∧ lo ≤ 1000000) ∧ (-1000000 ≤ hi ∧ hi ≤ 1000000) ∧ (-1000000 ≤ l ∧ l ≤ 1000000) := by
  unfold checkC at h
  by_cases hb : boundsB c s lo hi t l = true
  · simp only [boundsB, Bool.and_eq_true, inB_iff] at hb
    obtain ⟨⟨⟨⟨⟨h1, h2⟩, h3⟩, h4⟩, h5⟩, h6⟩ := hb
    exact ⟨h1, h2, h3, h4, h5, h6⟩
  · rw [if_neg hb] at h; omega

end Go.Proofs.Ytmcbjpaknffgkab

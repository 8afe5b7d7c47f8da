/- What Merge of package roll does with two that have points. -/
import Derived.Test.YtmcbjpaknffgkabWalks8
namespace Go.Proofs.Ytmcbjpaknffgkab
open Go.RowKit Plain

set_option maxHeartbeats 1000000 in
theorem merge_ok (c s lo hi t l c' s' lo' hi' t' l' : Int) (w : World) (h0 : checkC c s lo hi t l = 0) (h : checkC c' s' lo' hi' t' l' = 0) (hn : (c == 0) = false) (hn' : (c' == 0) = false) (k1 : inB (c + c') 0 1073741824 = true) (k2 : inB (s + s') (-1125899906842624) 1125899906842624 = true) :
    Calls Try.prog 39 #[.agg #[.int .i64 c, .int .i64 s, .int .i64 lo, .int .i64 hi, .int .i64 t, .int .i64 l], .agg #[.int .i64 c', .int .i64 s', .int .i64 lo', .int .i64 hi', .int .i64 t', .int .i64 l']] w fun e w' => e = .returned (.tuple #[.agg #[.int .i64 (c + c'), .int .i64 (s + s'), .int .i64 (mn lo lo'), .int .i64 (mx hi hi'), .int .i64 (pk (ltr t l t' l') t t'), .int .i64 (pk (ltr t l t' l') l l')], .int .i64 0]) ∧ Below w.heap.size w w' := by
  obtain ⟨⟨a1, a2⟩, ⟨a3, a4⟩, _⟩ := check_bounds h0
  obtain ⟨⟨b1, b2⟩, ⟨b3, b4⟩, _⟩ := check_bounds h
  go_enter Try.func39, Try.ntmps39
  go_wp2_with fail
  refine (check_any _ _ _ _ _ _ _).mono ?_
  rintro e w1 ⟨rfl, hb1⟩
  obtain ⟨hc1, hf1⟩ := bcell hb1
  obtain ⟨hz1, hz2, hz3⟩ := sz3 hb1
  have hy1 := hb1.size
  go_wp2_with fail
  refine (check_any _ _ _ _ _ _ _).mono ?_
  rintro e w2 ⟨rfl, hb2⟩
  obtain ⟨hc2, hf2⟩ := bcell hb2
  have hy2 := hb2.size
  go_wp2_with fail
  refine (together_any _ _ _ _ _ _ _ _ _ _ _ _ _ a1 a2 b1 b2 a3 a4 b3 b4).mono ?_
  rintro e w3 ⟨rfl, hb3⟩
  obtain ⟨hc3, hf3⟩ := bcell hb3
  have hy3 := hb3.size
  have hx2 : w.heap.size + 2 < w2.heap.size := by omega
  have hx3 : w.heap.size + 2 < w3.heap.size := by omega
  go_wp2_with (first | (go_at_call 54; refine (count_any _ _).mono ?_; rintro e w' ⟨rfl, rfl⟩) | (go_at_call 55; refine (sum_any _ _).mono ?_; rintro e w' ⟨rfl, rfl⟩))
  exact bodyPost_ret (v := .tuple #[.agg #[.int .i64 (c + c'), .int .i64 (s + s'), .int .i64 (mn lo lo'), .int .i64 (mx hi hi'), .int .i64 (pk (ltr t l t' l') t t'), .int .i64 (pk (ltr t l t' l') l l')], .int .i64 0]) (by simp [results, Try.results39, go_sem, hc1, hc2, hc3, hz3, hx2, hx3]) rfl ⟨rfl, (set6 (up (up (up3 hb1) hb2) hb3) (by omega) _ _ _ _ _ _).alloc (by simp; omega) _⟩

set_option maxHeartbeats 1000000 in
theorem merge_big1 (c s lo hi t l c' s' lo' hi' t' l' : Int) (w : World) (h0 : checkC c s lo hi t l = 0) (h : checkC c' s' lo' hi' t' l' = 0) (hn : (c == 0) = false) (hn' : (c' == 0) = false) (k1 : inB (c + c') 0 1073741824 = false) :
    Calls Try.prog 39 #[.agg #[.int .i64 c, .int .i64 s, .int .i64 lo, .int .i64 hi, .int .i64 t, .int .i64 l], .agg #[.int .i64 c', .int .i64 s', .int .i64 lo', .int .i64 hi', .int .i64 t', .int .i64 l']] w fun e w' => e = .returned (.tuple #[.agg #[.int .i64 0, .int .i64 0, .int .i64 0, .int .i64 0, .int .i64 0, .int .i64 0], .int .i64 1]) ∧ Below w.heap.size w w' := by
  obtain ⟨⟨a1, a2⟩, ⟨a3, a4⟩, _⟩ := check_bounds h0
  obtain ⟨⟨b1, b2⟩, ⟨b3, b4⟩, _⟩ := check_bounds h
  go_enter Try.func39, Try.ntmps39
  go_wp2_with fail
  refine (check_any _ _ _ _ _ _ _).mono ?_
  rintro e w1 ⟨rfl, hb1⟩
  obtain ⟨hc1, hf1⟩ := bcell hb1
  obtain ⟨hz1, hz2, hz3⟩ := sz3 hb1
  have hy1 := hb1.size
  go_wp2_with fail
  refine (check_any _ _ _ _ _ _ _).mono ?_
  rintro e w2 ⟨rfl, hb2⟩
  obtain ⟨hc2, hf2⟩ := bcell hb2
  have hy2 := hb2.size
  go_wp2_with fail
  refine (together_any _ _ _ _ _ _ _ _ _ _ _ _ _ a1 a2 b1 b2 a3 a4 b3 b4).mono ?_
  rintro e w3 ⟨rfl, hb3⟩
  obtain ⟨hc3, hf3⟩ := bcell hb3
  have hy3 := hb3.size
  have hx2 : w.heap.size + 2 < w2.heap.size := by omega
  have hx3 : w.heap.size + 2 < w3.heap.size := by omega
  go_wp2_with (first | (go_at_call 54; refine (count_any _ _).mono ?_; rintro e w' ⟨rfl, rfl⟩) | (go_at_call 55; refine (sum_any _ _).mono ?_; rintro e w' ⟨rfl, rfl⟩))
  exact bodyPost_ret (v := .tuple #[.agg #[.int .i64 0, .int .i64 0, .int .i64 0, .int .i64 0, .int .i64 0, .int .i64 0], .int .i64 1]) (by simp [results, Try.results39, go_sem, hc1, hc2, hc3, hz3, hx2, hx3]) rfl ⟨rfl, (set6 (up (up (up3 hb1) hb2) hb3) (by omega) _ _ _ _ _ _).alloc (by simp; omega) _⟩

set_option maxHeartbeats 1000000 in
theorem merge_big2 (c s lo hi t l c' s' lo' hi' t' l' : Int) (w : World) (h0 : checkC c s lo hi t l = 0) (h : checkC c' s' lo' hi' t' l' = 0) (hn : (c == 0) = false) (hn' : (c' == 0) = false) (k1 : inB (c + c') 0 1073741824 = true) (k2 : inB (s + s') (-1125899906842624) 1125899906842624 = false) :
    Calls Try.prog 39 #[.agg #[.int .i64 c, .int .i64 s, .int .i64 lo, .int .i64 hi, .int .i64 t, .int .i64 l], .agg #[.int .i64 c', .int .i64 s', .int .i64 lo', .int .i64 hi', .int .i64 t', .int .i64 l']] w fun e w' => e = .returned (.tuple #[.agg #[.int .i64 0, .int .i64 0, .int .i64 0, .int .i64 0, .int .i64 0, .int .i64 0], .int .i64 1]) ∧ Below w.heap.size w w' := by
  obtain ⟨⟨a1, a2⟩, ⟨a3, a4⟩, _⟩ := check_bounds h0
  obtain ⟨⟨b1, b2⟩, ⟨b3, b4⟩, _⟩ := check_bounds h
  go_enter Try.func39, Try.ntmps39
  go_wp2_with fail
  refine (check_any _ _ _ _ _ _ _).mono ?_
  rintro e w1 ⟨rfl, hb1⟩
  obtain ⟨hc1, hf1⟩ := bcell hb1
  obtain ⟨hz1, hz2, hz3⟩ := sz3 hb1
  have hy1 := hb1.size
  go_wp2_with fail
  refine (check_any _ _ _ _ _ _ _).mono ?_
  rintro e w2 ⟨rfl, hb2⟩
  obtain ⟨hc2, hf2⟩ := bcell hb2
  have hy2 := hb2.size
  go_wp2_with fail
  refine (together_any _ _ _ _ _ _ _ _ _ _ _ _ _ a1 a2 b1 b2 a3 a4 b3 b4).mono ?_
  rintro e w3 ⟨rfl, hb3⟩
  obtain ⟨hc3, hf3⟩ := bcell hb3
  have hy3 := hb3.size
  have hx2 : w.heap.size + 2 < w2.heap.size := by omega
  have hx3 : w.heap.size + 2 < w3.heap.size := by omega
  go_wp2_with (first | (go_at_call 54; refine (count_any _ _).mono ?_; rintro e w' ⟨rfl, rfl⟩) | (go_at_call 55; refine (sum_any _ _).mono ?_; rintro e w' ⟨rfl, rfl⟩))
  exact bodyPost_ret (v := .tuple #[.agg #[.int .i64 0, .int .i64 0, .int .i64 0, .int .i64 0, .int .i64 0, .int .i64 0], .int .i64 1]) (by simp [results, Try.results39, go_sem, hc1, hc2, hc3, hz3, hx2, hx3]) rfl ⟨rfl, (set6 (up (up (up3 hb1) hb2) hb3) (by omega) _ _ _ _ _ _).alloc (by simp; omega) _⟩

end Go.Proofs.Ytmcbjpaknffgkab

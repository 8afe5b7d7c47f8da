/- What together of package roll does. -/
import Derived.Test.YtlojfgdpmaigmacP04
import Derived.Test.YtlojfgdpmaigmacP01
import Derived.Test.YtlojfgdpmaigmacP02
import Derived.Deep.DeepCutAuto
namespace Go.Proofs.Ytlojfgdpmaigmac
open Go.RowKit Plain

set_option maxHeartbeats 1000000 in
theorem together_any (c s lo hi t l c' s' lo' hi' t' l' : Int) (w : World) (a1 : 0 ≤ c) (a2 : c ≤ 1073741824) (b1 : 0 ≤ c') (b2 : c' ≤ 1073741824) (a3 : -1125899906842624 ≤ s) (a4 : s ≤ 1125899906842624) (b3 : -1125899906842624 ≤ s') (b4 : s' ≤ 1125899906842624) :
    Calls Try.prog 32 #[.agg #[.int .i64 c, .int .i64 s, .int .i64 lo, .int .i64 hi, .int .i64 t, .int .i64 l], .agg #[.int .i64 c', .int .i64 s', .int .i64 lo', .int .i64 hi', .int .i64 t', .int .i64 l']] w fun e w' => e = .returned (.agg #[.int .i64 (c + c'), .int .i64 (s + s'), .int .i64 (mn lo lo'), .int .i64 (mx hi hi'), .int .i64 (pk (ltr t l t' l') t t'), .int .i64 (pk (ltr t l t' l') l l')]) ∧ Below w.heap.size w w' := by
  by_cases hl : ltr t l t' l' = true
  · rw [pk_t t t' hl, pk_t l l' hl]
    go_enter Try.func32, Try.ntmps32
    go_wp2_with (first | (go_at_call 53; refine (later_a _ _ _ _ _ _ _ _ _ _ _ _ _ hl).mono ?_; rintro e w1 ⟨rfl, hb1⟩; obtain ⟨hc1, hf1⟩ := bcell hb1; obtain ⟨hz1, hz2, hz3⟩ := sz3 hb1))
    all_goals
      first
      | exact bodyPost_ret (v := .agg #[.int .i64 (c + c'), .int .i64 (s + s'), .int .i64 lo, .int .i64 hi, .int .i64 t, .int .i64 l]) (by simp [results, Try.results32, go_sem, hc1, hz3]) rfl ⟨by rw [mn_l (show lo ≤ lo' by omega), mx_l (show hi' ≤ hi by omega)], (set6 ((Below.refl _ _).alloc (Nat.le_refl _) _ |>.alloc (by simp) _ |>.alloc (by simp; omega) _ |>.trans (hb1.mono (by simp; omega))) (by omega) _ _ _ _ _ _).alloc (by simp; omega) _⟩
      | exact bodyPost_ret (v := .agg #[.int .i64 (c + c'), .int .i64 (s + s'), .int .i64 lo, .int .i64 hi', .int .i64 t, .int .i64 l]) (by simp [results, Try.results32, go_sem, hc1, hz3]) rfl ⟨by rw [mn_l (show lo ≤ lo' by omega), mx_r (show hi ≤ hi' by omega)], (set6 ((Below.refl _ _).alloc (Nat.le_refl _) _ |>.alloc (by simp) _ |>.alloc (by simp; omega) _ |>.trans (hb1.mono (by simp; omega))) (by omega) _ _ _ _ _ _).alloc (by simp; omega) _⟩
      | exact bodyPost_ret (v := .agg #[.int .i64 (c + c'), .int .i64 (s + s'), .int .i64 lo', .int .i64 hi, .int .i64 t, .int .i64 l]) (by simp [results, Try.results32, go_sem, hc1, hz3]) rfl ⟨by rw [mn_r (show lo' ≤ lo by omega), mx_l (show hi' ≤ hi by omega)], (set6 ((Below.refl _ _).alloc (Nat.le_refl _) _ |>.alloc (by simp) _ |>.alloc (by simp; omega) _ |>.trans (hb1.mono (by simp; omega))) (by omega) _ _ _ _ _ _).alloc (by simp; omega) _⟩
      | exact bodyPost_ret (v := .agg #[.int .i64 (c + c'), .int .i64 (s + s'), .int .i64 lo', .int .i64 hi', .int .i64 t, .int .i64 l]) (by simp [results, Try.results32, go_sem, hc1, hz3]) rfl ⟨by rw [mn_r (show lo' ≤ lo by omega), mx_r (show hi ≤ hi' by omega)], (set6 ((Below.refl _ _).alloc (Nat.le_refl _) _ |>.alloc (by simp) _ |>.alloc (by simp; omega) _ |>.trans (hb1.mono (by simp; omega))) (by omega) _ _ _ _ _ _).alloc (by simp; omega) _⟩
  · have hl : ltr t l t' l' = false := by simpa using hl
    rw [pk_f t t' hl, pk_f l l' hl]
    go_enter Try.func32, Try.ntmps32
    go_wp2_with (first | (go_at_call 53; refine (later_b _ _ _ _ _ _ _ _ _ _ _ _ _ hl).mono ?_; rintro e w1 ⟨rfl, hb1⟩; obtain ⟨hc1, hf1⟩ := bcell hb1; obtain ⟨hz1, hz2, hz3⟩ := sz3 hb1))
    all_goals
      first
      | exact bodyPost_ret (v := .agg #[.int .i64 (c + c'), .int .i64 (s + s'), .int .i64 lo, .int .i64 hi, .int .i64 t', .int .i64 l']) (by simp [results, Try.results32, go_sem, hc1, hz3]) rfl ⟨by rw [mn_l (show lo ≤ lo' by omega), mx_l (show hi' ≤ hi by omega)], (set6 ((Below.refl _ _).alloc (Nat.le_refl _) _ |>.alloc (by simp) _ |>.alloc (by simp; omega) _ |>.trans (hb1.mono (by simp; omega))) (by omega) _ _ _ _ _ _).alloc (by simp; omega) _⟩
      | exact bodyPost_ret (v := .agg #[.int .i64 (c + c'), .int .i64 (s + s'), .int .i64 lo, .int .i64 hi', .int .i64 t', .int .i64 l']) (by simp [results, Try.results32, go_sem, hc1, hz3]) rfl ⟨by rw [mn_l (show lo ≤ lo' by omega), mx_r (show hi ≤ hi' by omega)], (set6 ((Below.refl _ _).alloc (Nat.le_refl _) _ |>.alloc (by simp) _ |>.alloc (by simp; omega) _ |>.trans (hb1.mono (by simp; omega))) (by omega) _ _ _ _ _ _).alloc (by simp; omega) _⟩
      | exact bodyPost_ret (v := .agg #[.int .i64 (c + c'), .int .i64 (s + s'), .int .i64 lo', .int .i64 hi, .int .i64 t', .int .i64 l']) (by simp [results, Try.results32, go_sem, hc1, hz3]) rfl ⟨by rw [mn_r (show lo' ≤ lo by omega), mx_l (show hi' ≤ hi by omega)], (set6 ((Below.refl _ _).alloc (Nat.le_refl _) _ |>.alloc (by simp) _ |>.alloc (by simp; omega) _ |>.trans (hb1.mono (by simp; omega))) (by omega) _ _ _ _ _ _).alloc (by simp; omega) _⟩
      | exact bodyPost_ret (v := .agg #[.int .i64 (c + c'), .int .i64 (s + s'), .int .i64 lo', .int .i64 hi', .int .i64 t', .int .i64 l']) (by simp [results, Try.results32, go_sem, hc1, hz3]) rfl ⟨by rw [mn_r (show lo' ≤ lo by omega), mx_r (show hi ≤ hi' by omega)], (set6 ((Below.refl _ _).alloc (Nat.le_refl _) _ |>.alloc (by simp) _ |>.alloc (by simp; omega) _ |>.trans (hb1.mono (by simp; omega))) (by omega) _ _ _ _ _ _).alloc (by simp; omega) _⟩

end Go.Proofs.Ytlojfgdpmaigmac

/- What Merge of package roll does, where something is refused or one has no points. -/
namespace Go.Proofs.Ytlojfgdpmaigmac
open Go.RowKit Plain

set_option maxHeartbeats 1000000 in
theorem merge_bad1 (c s lo hi t l c' s' lo' hi' t' l' : Int) (w : World) (h : (checkC c s lo hi t l != 0) = true) :
    Calls Try.prog 16 #[.agg #[.int .i64 c, .int .i64 s, .int .i64 lo, .int .i64 hi, .int .i64 t, .int .i64 l], .agg #[.int .i64 c', .int .i64 s', .int .i64 lo', .int .i64 hi', .int .i64 t', .int .i64 l']] w fun e w' => e = .returned (.tuple #[.agg #[.int .i64 0, .int .i64 0, .int .i64 0, .int .i64 0, .int .i64 0, .int .i64 0], .int .i64 (checkC c s lo hi t l)]) ∧ Below w.heap.size w w' := by
  go_enter Try.func16, Try.ntmps16
  go_wp2_with (first | (go_at_call 31; refine (check_any _ _ _ _ _ _ _).mono ?_; rintro e w1 ⟨rfl, hb1⟩; obtain ⟨hc1, hf1⟩ := bcell hb1; obtain ⟨hz1, hz2, hz3⟩ := sz3 hb1))
  exact bodyPost_ret (v := .tuple #[.agg #[.int .i64 0, .int .i64 0, .int .i64 0, .int .i64 0, .int .i64 0, .int .i64 0], .int .i64 (checkC c s lo hi t l)]) (by simp [results, Try.results16, go_sem, hc1]) rfl ⟨rfl, set6 (up3 hb1) (by omega) _ _ _ _ _ _⟩

set_option maxHeartbeats 1000000 in
theorem merge_bad2 (c s lo hi t l c' s' lo' hi' t' l' : Int) (w : World) (h0 : checkC c s lo hi t l = 0) (h : (checkC c' s' lo' hi' t' l' != 0) = true) :
    Calls Try.prog 16 #[.agg #[.int .i64 c, .int .i64 s, .int .i64 lo, .int .i64 hi, .int .i64 t, .int .i64 l], .agg #[.int .i64 c', .int .i64 s', .int .i64 lo', .int .i64 hi', .int .i64 t', .int .i64 l']] w fun e w' => e = .returned (.tuple #[.agg #[.int .i64 0, .int .i64 0, .int .i64 0, .int .i64 0, .int .i64 0, .int .i64 0], .int .i64 (checkC c' s' lo' hi' t' l')]) ∧ Below w.heap.size w w' := by
  go_enter Try.func16, Try.ntmps16
  go_wp2_with fail
  refine (check_any _ _ _ _ _ _ _).mono ?_
  rintro e w1 ⟨rfl, hb1⟩
  obtain ⟨hc1, hf1⟩ := bcell hb1
  obtain ⟨hz1, hz2, hz3⟩ := sz3 hb1
  have hy1 := hb1.size
  go_wp2_with fail
  refine (check_any _ _ _ _ _ _ _).mono ?_
  rintro e w2 ⟨rfl, hb2⟩
  obtain ⟨hc2, hf2⟩ := bcell hb2
  go_wp2
  exact bodyPost_ret (v := .tuple #[.agg #[.int .i64 0, .int .i64 0, .int .i64 0, .int .i64 0, .int .i64 0, .int .i64 0], .int .i64 (checkC c' s' lo' hi' t' l')]) (by simp [results, Try.results16, go_sem, hc1, hc2, hz3]) rfl ⟨rfl, set6 (up (up3 hb1) hb2) (by omega) _ _ _ _ _ _⟩

set_option maxHeartbeats 1000000 in
theorem merge_none1 (s lo hi t l c' s' lo' hi' t' l' : Int) (w : World) (h0 : checkC 0 s lo hi t l = 0) (h : checkC c' s' lo' hi' t' l' = 0) :
    Calls Try.prog 16 #[.agg #[.int .i64 0, .int .i64 s, .int .i64 lo, .int .i64 hi, .int .i64 t, .int .i64 l], .agg #[.int .i64 c', .int .i64 s', .int .i64 lo', .int .i64 hi', .int .i64 t', .int .i64 l']] w fun e w' => e = .returned (.tuple #[.agg #[.int .i64 c', .int .i64 s', .int .i64 lo', .int .i64 hi', .int .i64 t', .int .i64 l'], .int .i64 0]) ∧ Below w.heap.size w w' := by
  go_enter Try.func16, Try.ntmps16
  go_wp2_with fail
  refine (check_any _ _ _ _ _ _ _).mono ?_
  rintro e w1 ⟨rfl, hb1⟩
  obtain ⟨hc1, hf1⟩ := bcell hb1
  obtain ⟨hz1, hz2, hz3⟩ := sz3 hb1
  have hy1 := hb1.size
  go_wp2_with fail
  refine (check_any _ _ _ _ _ _ _).mono ?_
  rintro e w2 ⟨rfl, hb2⟩
  obtain ⟨hc2, hf2⟩ := bcell hb2
  go_wp2
  exact bodyPost_ret (v := .tuple #[.agg #[.int .i64 c', .int .i64 s', .int .i64 lo', .int .i64 hi', .int .i64 t', .int .i64 l'], .int .i64 0]) (by simp [results, Try.results16, go_sem, hc1, hc2, hz3]) rfl ⟨rfl, set6 (up (up3 hb1) hb2) (by omega) _ _ _ _ _ _⟩

set_option maxHeartbeats 1000000 in
theorem merge_none2 (c s lo hi t l s' lo' hi' t' l' : Int) (w : World) (h0 : checkC c s lo hi t l = 0) (h : checkC 0 s' lo' hi' t' l' = 0) (hn : (c == 0) = false) :
    Calls Try.prog 16 #[.agg #[.int .i64 c, .int .i64 s, .int .i64 lo, .int .i64 hi, .int .i64 t, .int .i64 l], .agg #[.int .i64 0, .int .i64 s', .int .i64 lo', .int .i64 hi', .int .i64 t', .int .i64 l']] w fun e w' => e = .returned (.tuple #[.agg #[.int .i64 c, .int .i64 s, .int .i64 lo, .int .i64 hi, .int .i64 t, .int .i64 l], .int .i64 0]) ∧ Below w.heap.size w w' := by
  go_enter Try.func16, Try.ntmps16
  go_wp2_with fail
  refine (check_any _ _ _ _ _ _ _).mono ?_
  rintro e w1 ⟨rfl, hb1⟩
  obtain ⟨hc1, hf1⟩ := bcell hb1
  obtain ⟨hz1, hz2, hz3⟩ := sz3 hb1
  have hy1 := hb1.size
  go_wp2_with fail
  refine (check_any _ _ _ _ _ _ _).mono ?_
  rintro e w2 ⟨rfl, hb2⟩
  obtain ⟨hc2, hf2⟩ := bcell hb2
  go_wp2
  exact bodyPost_ret (v := .tuple #[.agg #[.int .i64 c, .int .i64 s, .int .i64 lo, .int .i64 hi, .int .i64 t, .int .i64 l], .int .i64 0]) (by simp [results, Try.results16, go_sem, hc1, hc2, hz3]) rfl ⟨rfl, set6 (up (up3 hb1) hb2) (by omega) _ _ _ _ _ _⟩

theorem check_bounds {c s lo hi t l : Int} (h : checkC c s lo hi t l = 0) : (0 ≤ c ∧ c ≤ 1073741824) ∧ (-1125899906842624 ≤ s ∧ s ≤ 1125899906842624) ∧ (0 ≤ t ∧ t ≤ 1048575) ∧ (-1000000 ≤ lo ∧ lo ≤ 1000000) ∧ (-1000000 ≤ hi ∧ hi ≤ 1000000) ∧ (-1000000 ≤ l ∧ l ≤ 1000000) := by
  unfold checkC at h
  by_cases hb : boundsB c s lo hi t l = true
  · simp only [boundsB, Bool.and_eq_true, inB_iff] at hb
    obtain ⟨⟨⟨⟨⟨h1, h2⟩, h3⟩, h4⟩, h5⟩, h6⟩ := hb
    exact ⟨h1, h2, h3, h4, h5, h6⟩
  · rw [if_neg hb] at h; omega

end Go.Proofs.Ytlojfgdpmaigmac

/- What Merge of package roll does with two that have points. -/
namespace Go.Proofs.Ytlojfgdpmaigmac
open Go.RowKit Plain

set_option maxHeartbeats 1000000 in
theorem merge_ok (c s lo hi t l c' s' lo' hi' t' l' : Int) (w : World) (h0 : checkC c s lo hi t l = 0) (h : checkC c' s' lo' hi' t' l' = 0) (hn : (c == 0) = false) (hn' : (c' == 0) = false) (k1 : inB (c + c') 0 1073741824 = true) (k2 : inB (s + s') (-1125899906842624) 1125899906842624 = true) :
    Calls Try.prog 16 #[.agg #[.int .i64 c, .int .i64 s, .int .i64 lo, .int .i64 hi, .int .i64 t, .int .i64 l], .agg #[.int .i64 c', .int .i64 s', .int .i64 lo', .int .i64 hi', .int .i64 t', .int .i64 l']] w fun e w' => e = .returned (.tuple #[.agg #[.int .i64 (c + c'), .int .i64 (s + s'), .int .i64 (mn lo lo'), .int .i64 (mx hi hi'), .int .i64 (pk (ltr t l t' l') t t'), .int .i64 (pk (ltr t l t' l') l l')], .int .i64 0]) ∧ Below w.heap.size w w' := by
  obtain ⟨⟨a1, a2⟩, ⟨a3, a4⟩, _⟩ := check_bounds h0
  obtain ⟨⟨b1, b2⟩, ⟨b3, b4⟩, _⟩ := check_bounds h
  go_enter Try.func16, Try.ntmps16
  go_wp2_with fail
  refine (check_any _ _ _ _ _ _ _).mono ?_
  rintro e w1 ⟨rfl, hb1⟩
  obtain ⟨hc1, hf1⟩ := bcell hb1
  obtain ⟨hz1, hz2, hz3⟩ := sz3 hb1
  have hy1 := hb1.size
  go_wp2_with fail
  refine (check_any _ _ _ _ _ _ _).mono ?_
  rintro e w2 ⟨rfl, hb2⟩
  obtain ⟨hc2, hf2⟩ := bcell hb2
  have hy2 := hb2.size
  go_wp2_with fail
  refine (together_any _ _ _ _ _ _ _ _ _ _ _ _ _ a1 a2 b1 b2 a3 a4 b3 b4).mono ?_
  rintro e w3 ⟨rfl, hb3⟩
  obtain ⟨hc3, hf3⟩ := bcell hb3
  have hy3 := hb3.size
  have hx2 : w.heap.size + 2 < w2.heap.size := by omega
  have hx3 : w.heap.size + 2 < w3.heap.size := by omega
  go_wp2_with (first | (go_at_call 33; refine (count_any _ _).mono ?_; rintro e w' ⟨rfl, rfl⟩) | (go_at_call 34; refine (sum_any _ _).mono ?_; rintro e w' ⟨rfl, rfl⟩))
  exact bodyPost_ret (v := .tuple #[.agg #[.int .i64 (c + c'), .int .i64 (s + s'), .int .i64 (mn lo lo'), .int .i64 (mx hi hi'), .int .i64 (pk (ltr t l t' l') t t'), .int .i64 (pk (ltr t l t' l') l l')], .int .i64 0]) (by simp [results, Try.results16, go_sem, hc1, hc2, hc3, hz3, hx2, hx3]) rfl ⟨rfl, (set6 (up (up (up3 hb1) hb2) hb3) (by omega) _ _ _ _ _ _).alloc (by simp; omega) _⟩

set_option maxHeartbeats 1000000 in
theorem merge_big1 (c s lo hi t l c' s' lo' hi' t' l' : Int) (w : World) (h0 : checkC c s lo hi t l = 0) (h : checkC c' s' lo' hi' t' l' = 0) (hn : (c == 0) = false) (hn' : (c' == 0) = false) (k1 : inB (c + c') 0 1073741824 = false) :
    Calls Try.prog 16 #[.agg #[.int .i64 c, .int .i64 s, .int .i64 lo, .int .i64 hi, .int .i64 t, .int .i64 l], .agg #[.int .i64 c', .int .i64 s', .int .i64 lo', .int .i64 hi', .int .i64 t', .int .i64 l']] w fun e w' => e = .returned (.tuple #[.agg #[.int .i64 0, .int .i64 0, .int .i64 0, .int .i64 0, .int .i64 0, .int .i64 0], .int .i64 1]) ∧ Below w.heap.size w w' := by
  obtain ⟨⟨a1, a2⟩, ⟨a3, a4⟩, _⟩ := check_bounds h0
  obtain ⟨⟨b1, b2⟩, ⟨b3, b4⟩, _⟩ := check_bounds h
  go_enter Try.func16, Try.ntmps16
  go_wp2_with fail
  refine (check_any _ _ _ _ _ _ _).mono ?_
  rintro e w1 ⟨rfl, hb1⟩
  obtain ⟨hc1, hf1⟩ := bcell hb1
  obtain ⟨hz1, hz2, hz3⟩ := sz3 hb1
  have hy1 := hb1.size
  go_wp2_with fail
  refine (check_any _ _ _ _ _ _ _).mono ?_
  rintro e w2 ⟨rfl, hb2⟩
  obtain ⟨hc2, hf2⟩ := bcell hb2
  have hy2 := hb2.size
  go_wp2_with fail
  refine (together_any _ _ _ _ _ _ _ _ _ _ _ _ _ a1 a2 b1 b2 a3 a4 b3 b4).mono ?_
  rintro e w3 ⟨rfl, hb3⟩
  obtain ⟨hc3, hf3⟩ := bcell hb3
  have hy3 := hb3.size
  have hx2 : w.heap.size + 2 < w2.heap.size := by omega
  have hx3 : w.heap.size + 2 < w3.heap.size := by omega
  go_wp2_with (first | (go_at_call 33; refine (count_any _ _).mono ?_; rintro e w' ⟨rfl, rfl⟩) | (go_at_call 34; refine (sum_any _ _).mono ?_; rintro e w' ⟨rfl, rfl⟩))
  exact bodyPost_ret (v := .tuple #[.agg #[.int .i64 0, .int .i64 0, .int .i64 0, .int .i64 0, .int .i64 0, .int .i64 0], .int .i64 1]) (by simp [results, Try.results16, go_sem, hc1, hc2, hc3, hz3, hx2, hx3]) rfl ⟨rfl, (set6 (up (up (up3 hb1) hb2) hb3) (by omega) _ _ _ _ _ _).alloc (by simp; omega) _⟩

set_option maxHeartbeats 1000000 in
theorem merge_big2 (c s lo hi t l c' s' lo' hi' t' l' : Int) (w : World) (h0 : checkC c s lo hi t l = 0) (h : checkC c' s' lo' hi' t' l' = 0) (hn : (c == 0) = false) (hn' : (c' == 0) = false) (k1 : inB (c + c') 0 1073741824 = true) (k2 : inB (s + s') (-1125899906842624) 1125899906842624 = false) :
    Calls Try.prog 16 #[.agg #[.int .i64 c, .int .i64 s, .int .i64 lo, .int .i64 hi, .int .i64 t, .int .i64 l], .agg #[.int .i64 c', .int .i64 s', .int .i64 lo', .int .i64 hi', .int .i64 t', .int .i64 l']] w fun e w' => e = .returned (.tuple #[.agg #[.int .i64 0, .int .i64 0, .int .i64 0, .int .i64 0, .int .i64 0, .int .i64 0], .int .i64 1]) ∧ Below w.heap.size w w' := by
  obtain ⟨⟨a1, a2⟩, ⟨a3, a4⟩, _⟩ := check_bounds h0
  obtain ⟨⟨b1, b2⟩, ⟨b3, b4⟩, _⟩ := check_bounds h
  go_enter Try.func16, Try.ntmps16
  go_wp2_with fail
  refine (check_any _ _ _ _ _ _ _).mono ?_
  rintro e w1 ⟨rfl, hb1⟩
  obtain ⟨hc1, hf1⟩ := bcell hb1
  obtain ⟨hz1, hz2, hz3⟩ := sz3 hb1
  have hy1 := hb1.size
  go_wp2_with fail
  refine (check_any _ _ _ _ _ _ _).mono ?_
  rintro e w2 ⟨rfl, hb2⟩
  obtain ⟨hc2, hf2⟩ := bcell hb2
  have hy2 := hb2.size
  go_wp2_with fail
  refine (together_any _ _ _ _ _ _ _ _ _ _ _ _ _ a1 a2 b1 b2 a3 a4 b3 b4).mono ?_
  rintro e w3 ⟨rfl, hb3⟩
  obtain ⟨hc3, hf3⟩ := bcell hb3
  have hy3 := hb3.size
  have hx2 : w.heap.size + 2 < w2.heap.size := by omega
  have hx3 : w.heap.size + 2 < w3.heap.size := by omega
  go_wp2_with (first | (go_at_call 33; refine (count_any _ _).mono ?_; rintro e w' ⟨rfl, rfl⟩) | (go_at_call 34; refine (sum_any _ _).mono ?_; rintro e w' ⟨rfl, rfl⟩))
  exact bodyPost_ret (v := .tuple #[.agg #[.int .i64 0, .int .i64 0, .int .i64 0, .int .i64 0, .int .i64 0, .int .i64 0], .int .i64 1]) (by simp [results, Try.results16, go_sem, hc1, hc2, hc3, hz3, hx2, hx3]) rfl ⟨rfl, (set6 (up (up (up3 hb1) hb2) hb3) (by omega) _ _ _ _ _ _).alloc (by simp; omega) _⟩

end Go.Proofs.Ytlojfgdpmaigmac

/- What the document's answer to Merge does, where something is refused or one has no points. -/
namespace Go.Proofs.Ytlojfgdpmaigmac
open Go.RowKit Plain

end Go.Proofs.Ytlojfgdpmaigmac

/- What the document's answer to Merge does with two that have points. -/
namespace Go.Proofs.Ytlojfgdpmaigmac
open Go.RowKit Plain

end Go.Proofs.Ytlojfgdpmaigmac

/- What the document's answer to Merge does with two that have points. -/
namespace Go.Proofs.Ytlojfgdpmaigmac
open Go.RowKit Plain

end Go.Proofs.Ytlojfgdpmaigmac

/- What the document's answer to Merge does with two that have points. -/
namespace Go.Proofs.Ytlojfgdpmaigmac
open Go.RowKit Plain

end Go.Proofs.Ytlojfgdpmaigmac

/- What Merge of package roll, and the document's answer to it, do with any two rollups. -/
namespace Go.Proofs.Ytlojfgdpmaigmac
open Go.RowKit Plain

/-- What is known of some points. -/
structure Ru where
  c : Int
  s : Int
  lo : Int
  hi : Int
  t : Int
  l : Int

def chk (r : Ru) : Int := checkC r.c r.s r.lo r.hi r.t r.l
def zro : Ru := ⟨0, 0, 0, 0, 0, 0⟩
def jn (a b : Ru) : Ru := ⟨a.c + b.c, a.s + b.s, mn a.lo b.lo, mx a.hi b.hi, pk (ltr a.t a.l b.t b.l) a.t b.t, pk (ltr a.t a.l b.t b.l) a.l b.l⟩
def mrg (a b : Ru) : Ru × Int :=
  if chk a ≠ 0 then (zro, chk a) else if chk b ≠ 0 then (zro, chk b) else if a.c = 0 then (b, 0) else if b.c = 0 then (a, 0)
  else if a.c + b.c ≤ 1073741824 ∧ inB (a.s + b.s) (-1125899906842624) 1125899906842624 = true then (jn a b, 0) else (zro, 1)

theorem mrg_1 {a b : Ru} (h : chk a ≠ 0) : mrg a b = (zro, chk a) := by unfold mrg; rw [if_pos h]
theorem mrg_2 {a b : Ru} (h : chk a = 0) (h' : chk b ≠ 0) : mrg a b = (zro, chk b) := by unfold mrg; rw [if_neg (by simpa using h), if_pos h']
theorem mrg_3 {a b : Ru} (h : chk a = 0) (h' : chk b = 0) (e : a.c = 0) : mrg a b = (b, 0) := by unfold mrg; rw [if_neg (by simpa using h), if_neg (by simpa using h'), if_pos e]
theorem mrg_4 {a b : Ru} (h : chk a = 0) (h' : chk b = 0) (e : ¬ a.c = 0) (e' : b.c = 0) : mrg a b = (a, 0) := by unfold mrg; rw [if_neg (by simpa using h), if_neg (by simpa using h'), if_neg e, if_pos e']
theorem mrg_5 {a b : Ru} (h : chk a = 0) (h' : chk b = 0) (e : ¬ a.c = 0) (e' : ¬ b.c = 0) (k : a.c + b.c ≤ 1073741824) (k' : inB (a.s + b.s) (-1125899906842624) 1125899906842624 = true) : mrg a b = (jn a b, 0) := by
  unfold mrg; rw [if_neg (by simpa using h), if_neg (by simpa using h'), if_neg e, if_neg e', if_pos ⟨k, k'⟩]
theorem mrg_6 {a b : Ru} (h : chk a = 0) (h' : chk b = 0) (e : ¬ a.c = 0) (e' : ¬ b.c = 0) (k : ¬ (a.c + b.c ≤ 1073741824 ∧ inB (a.s + b.s) (-1125899906842624) 1125899906842624 = true)) : mrg a b = (zro, 1) := by
  unfold mrg; rw [if_neg (by simpa using h), if_neg (by simpa using h'), if_neg e, if_neg e', if_neg k]
theorem mrg_33 {a b : Ru} (h : chk a = 0) (h' : chk b = 0) (e : a.c = 0) (e' : b.c = 0) : a = b := by
  have key : ∀ r : Ru, chk r = 0 → r.c = 0 → r = zro := by
    intro r hr hc
    obtain ⟨c, s, lo, hi, t, l⟩ := r
    simp only at hc
    subst hc
    simp only [chk, checkC] at hr
    by_cases hb : boundsB 0 s lo hi t l = true
    · rw [if_pos hb] at hr
      by_cases hf : formB 0 s lo hi t l = true
      · simp [formB, eqR] at hf
        obtain ⟨⟨⟨⟨rfl, rfl⟩, rfl⟩, rfl⟩, rfl⟩ := hf
        rfl
      · rw [if_neg hf] at hr; omega
    · rw [if_neg hb] at hr; omega
  rw [key a h e, key b h' e']

theorem bne_of {x : Int} (h : x ≠ 0) : (x != 0) = true := by simpa using h
theorem beq_of {x : Int} (h : x ≠ 0) : (x == 0) = false := by simpa using h

theorem merge_any (a b : Ru) (w : World) :
    Calls Try.prog 16 #[.agg #[.int .i64 a.c, .int .i64 a.s, .int .i64 a.lo, .int .i64 a.hi, .int .i64 a.t, .int .i64 a.l], .agg #[.int .i64 b.c, .int .i64 b.s, .int .i64 b.lo, .int .i64 b.hi, .int .i64 b.t, .int .i64 b.l]] w fun e w' => e = .returned (.tuple #[.agg #[.int .i64 (mrg a b).1.c, .int .i64 (mrg a b).1.s, .int .i64 (mrg a b).1.lo, .int .i64 (mrg a b).1.hi, .int .i64 (mrg a b).1.t, .int .i64 (mrg a b).1.l], .int .i64 (mrg a b).2]) ∧ Below w.heap.size w w' := by
  by_cases h1 : chk a = 0
  · by_cases h2 : chk b = 0
    · by_cases e1 : a.c = 0
      · rw [mrg_3 h1 h2 e1]
        obtain ⟨c, s, lo, hi, t, l⟩ := a
        simp only at e1
        subst e1
        exact merge_none1 _ _ _ _ _ _ _ _ _ _ _ _ h1 h2
      · by_cases e2 : b.c = 0
        · rw [mrg_4 h1 h2 e1 e2]
          obtain ⟨c, s, lo, hi, t, l⟩ := b
          simp only at e2
          subst e2
          exact merge_none2 _ _ _ _ _ _ _ _ _ _ _ _ h1 h2 (beq_of e1)
        · obtain ⟨⟨a1, _⟩, _⟩ := check_bounds h1
          obtain ⟨⟨b1, _⟩, _⟩ := check_bounds h2
          by_cases k1 : a.c + b.c ≤ 1073741824
          · have k1' : inB (a.c + b.c) 0 1073741824 = true := (inB_iff _ _ _).2 ⟨by omega, k1⟩
            by_cases k2 : inB (a.s + b.s) (-1125899906842624) 1125899906842624 = true
            · rw [mrg_5 h1 h2 e1 e2 k1 k2]
              exact merge_ok _ _ _ _ _ _ _ _ _ _ _ _ _ h1 h2 (beq_of e1) (beq_of e2) k1' k2
            · rw [mrg_6 h1 h2 e1 e2 (fun h => k2 h.2)]
              exact merge_big2 _ _ _ _ _ _ _ _ _ _ _ _ _ h1 h2 (beq_of e1) (beq_of e2) k1' (by simpa using k2)
          · rw [mrg_6 h1 h2 e1 e2 (fun h => k1 h.1)]
            exact merge_big1 _ _ _ _ _ _ _ _ _ _ _ _ _ h1 h2 (beq_of e1) (beq_of e2) ((inB_not _ _ _).2 (Or.inr (by omega)))
    · rw [mrg_2 h1 h2]
      exact merge_bad2 _ _ _ _ _ _ _ _ _ _ _ _ _ h1 (bne_of h2)
  · rw [mrg_1 h1]
    exact merge_bad1 _ _ _ _ _ _ _ _ _ _ _ _ _ (bne_of h1)

theorem pk_1 {t l t' l' : Int} (h : t < t') : pk (ltr t l t' l') t t' = t' ∧ pk (ltr t l t' l') l l' = l' := by
  have : ltr t l t' l' = false := by simp [ltr]; omega
  exact ⟨pk_f _ _ this, pk_f _ _ this⟩
theorem pk_2 {t l l' : Int} (h : l < l') : pk (ltr t l t l') t t = t ∧ pk (ltr t l t l') l l' = l' := by
  have : ltr t l t l' = false := by simp [ltr]; omega
  exact ⟨pk_f _ _ this, pk_f _ _ this⟩
theorem pk_3 {t l l' : Int} (h : l' ≤ l) : pk (ltr t l t l') t t = t ∧ pk (ltr t l t l') l l' = l := by
  by_cases e : l' < l
  · have : ltr t l t l' = true := by simp [ltr]; omega
    exact ⟨pk_t _ _ this, pk_t _ _ this⟩
  · have : ltr t l t l' = false := by simp [ltr]; omega
    exact ⟨pk_f _ _ this, (pk_f _ _ this).trans (by omega)⟩
theorem pk_4 {t l t' l' : Int} (h : t' < t) : pk (ltr t l t' l') t t' = t ∧ pk (ltr t l t' l') l l' = l := by
  have : ltr t l t' l' = true := by simp [ltr]; omega
  exact ⟨pk_t _ _ this, pk_t _ _ this⟩

end Go.Proofs.Ytlojfgdpmaigmac

/- Plain mathematics of points that come one by one: what is known of the first k of them. -/
namespace Go.Proofs.Ytlojfgdpmaigmac
open Go.RowKit Plain

theorem w64 (n : Int) (h : -9223372036854775808 ≤ n ∧ n ≤ 9223372036854775807) : wrap64 n = n := by unfold wrap64; omega

theorem mulbd {c x : Int} (h1 : 0 ≤ c) (h2 : c ≤ 1073741824) (h3 : -1000000 ≤ x) (h4 : x ≤ 1000000) : -1073741824000000 ≤ c * x ∧ c * x ≤ 1073741824000000 := by
  have a := Int.mul_le_mul_of_nonneg_left h3 h1
  have b := Int.mul_le_mul_of_nonneg_left h4 h1
  omega

theorem chk_ok {r : Ru} (h1 : 0 < r.c) (h2 : r.c ≤ 1073741824) (ht : 0 ≤ r.t ∧ r.t ≤ 1048575) (hlo : -1000000 ≤ r.lo) (hhi : r.hi ≤ 1000000) (hl : r.lo ≤ r.l ∧ r.l ≤ r.hi) (hs : r.c * r.lo ≤ r.s ∧ r.s ≤ r.c * r.hi) : chk r = 0 := by
  have m1 := mulbd (x := r.lo) (by omega) h2 hlo (by omega)
  have m2 := mulbd (x := r.hi) (by omega) h2 (by omega) hhi
  have hb : boundsB r.c r.s r.lo r.hi r.t r.l = true := by
    simp only [boundsB, Bool.and_eq_true, inB_iff]
    omega
  have hf : formB r.c r.s r.lo r.hi r.t r.l = true := by
    unfold formB
    rw [if_neg (by omega), w64 _ (by omega), w64 _ (by omega)]
    simp only [Bool.and_eq_true, inB_iff]
    omega
  simp [chk, checkC, hb, hf]

theorem chk_zro : chk zro = 0 := by simp [chk, checkC, zro, boundsB, formB, eqR, inB]

/-- What is known of one point. -/
def one (t v : Int) : Ru := ⟨1, v, v, v, t, v⟩
theorem chk_one {t v : Int} (ht : 0 ≤ t ∧ t ≤ 1048575) (hv : -1000000 ≤ v ∧ v ≤ 1000000) : chk (one t v) = 0 :=
  chk_ok (by simp [one]) (by simp [one]) ht hv.1 hv.2 (by simp [one]) (by simp [one])

/-- What is known of k points, at the times 0 to k - 1, with values from -1000 to 1000. -/
def Inv (k : Nat) (o : Ru) : Prop := k ≤ 30 ∧ o.c = k ∧ (k = 0 → o = zro) ∧ (0 < k → o.t = k - 1 ∧ -1000 ≤ o.lo ∧ o.hi ≤ 1000 ∧ (o.lo ≤ o.l ∧ o.l ≤ o.hi) ∧ (o.c * o.lo ≤ o.s ∧ o.s ≤ o.c * o.hi))

def nxt (k : Nat) (o : Ru) (v : Int) : Ru := if k = 0 then one 0 v else ⟨(k : Int) + 1, o.s + v, mn o.lo v, mx o.hi v, k, v⟩

theorem inv_chk {k : Nat} {o : Ru} (h : Inv k o) : chk o = 0 := by
  obtain ⟨h1, h2, h3, h4⟩ := h
  by_cases e : k = 0
  · rw [h3 e]; exact chk_zro
  · obtain ⟨a, b, c, d, e'⟩ := h4 (by omega)
    exact chk_ok (by omega) (by omega) (by omega) (by omega) (by omega) d e'

theorem inv_step {k : Nat} {o : Ru} {v : Int} (h : Inv k o) (hk : k < 30) (hv : -1000 ≤ v ∧ v ≤ 1000) : mrg o (one k v) = (nxt k o v, 0) ∧ Inv (k + 1) (nxt k o v) := by
  have hc := inv_chk h
  have h1 : chk (one k v) = 0 := chk_one (by omega) (by omega)
  obtain ⟨_, h2, h3, h4⟩ := h
  by_cases e : k = 0
  · subst e
    refine ⟨?_, ?_⟩
    · rw [mrg_3 hc h1 (by omega)]; simp [nxt]
    · refine ⟨by omega, by simp [nxt, one], by omega, fun _ => ?_⟩
      simp only [nxt, one, if_pos]
      omega
  · obtain ⟨a, b, c, d, e'⟩ := h4 (by omega)
    have m1 : o.c * mn o.lo v ≤ o.c * o.lo := Int.mul_le_mul_of_nonneg_left (by unfold mn; split <;> omega) (by omega)
    have m2 : o.c * o.hi ≤ o.c * mx o.hi v := Int.mul_le_mul_of_nonneg_left (by unfold mx; split <;> omega) (by omega)
    have m3 : mn o.lo v ≤ v ∧ -1000 ≤ mn o.lo v ∧ mn o.lo v ≤ o.lo := by unfold mn; split <;> omega
    have m4 : v ≤ mx o.hi v ∧ mx o.hi v ≤ 1000 ∧ o.hi ≤ mx o.hi v := by unfold mx; split <;> omega
    have b1 := mulbd (c := o.c) (x := o.lo) (by omega) (by omega) (by omega) (by omega)
    have b2 := mulbd (c := o.c) (x := o.hi) (by omega) (by omega) (by omega) (by omega)
    refine ⟨?_, ?_⟩
    · have hl : ltr o.t o.l k v = false := by simp [ltr]; omega
      rw [mrg_5 hc h1 (by omega) (by simp [one]) (by simp only [one]; omega) ((inB_iff _ _ _).2 (by simp only [one]; omega))]
      simp only [jn, one, nxt, if_neg e, h2, hl, pk_f _ _ rfl]
    · refine ⟨by omega, by simp [nxt, e], by omega, fun _ => ?_⟩
      simp only [nxt, if_neg e]
      have x1 : ((k : Int) + 1) * mn o.lo v = o.c * mn o.lo v + mn o.lo v := by rw [h2, Int.add_mul]; omega
      have x2 : ((k : Int) + 1) * mx o.hi v = o.c * mx o.hi v + mx o.hi v := by rw [h2, Int.add_mul]; omega
      rw [x1, x2]
      omega

end Go.Proofs.Ytlojfgdpmaigmac

/- What comes together, in whatever order: rollups, and entries by their keys. -/
namespace Go.Proofs.Ytlojfgdpmaigmac
open Go.RowKit Plain

theorem Ru.ext' {a b : Ru} (h1 : a.c = b.c) (h2 : a.s = b.s) (h3 : a.lo = b.lo) (h4 : a.hi = b.hi) (h5 : a.t = b.t) (h6 : a.l = b.l) : a = b := by
  cases a; cases b; simp at *; exact ⟨h1, h2, h3, h4, h5, h6⟩

theorem mn_comm (a b : Int) : mn a b = mn b a := by unfold mn; split <;> split <;> omega
theorem mx_comm (a b : Int) : mx a b = mx b a := by unfold mx; split <;> split <;> omega
theorem mn_assoc (a b c : Int) : mn (mn a b) c = mn a (mn b c) := by
  unfold mn
  by_cases h1 : a ≤ b <;> by_cases h2 : b ≤ c <;> by_cases h3 : a ≤ c <;> simp [h1, h2, h3] <;> omega
theorem mx_assoc (a b c : Int) : mx (mx a b) c = mx a (mx b c) := by
  unfold mx
  by_cases h1 : a ≤ b <;> by_cases h2 : b ≤ c <;> by_cases h3 : a ≤ c <;> simp [h1, h2, h3] <;> omega

theorem ltr_iff {t l t' l' : Int} : ltr t l t' l' = true ↔ t' < t ∨ (t = t' ∧ l' < l) := by simp [ltr]

/-- The later of two last points, as a pair. -/
theorem jn_tl (a b : Ru) : ((jn a b).t = a.t ∧ (jn a b).l = a.l ∧ (b.t < a.t ∨ (a.t = b.t ∧ b.l < a.l))) ∨ ((jn a b).t = b.t ∧ (jn a b).l = b.l ∧ ¬ (b.t < a.t ∨ (a.t = b.t ∧ b.l < a.l))) := by
  by_cases h : ltr a.t a.l b.t b.l = true
  · left
    refine ⟨?_, ?_, ltr_iff.1 h⟩ <;> simp [jn, pk, h]
  · right
    refine ⟨?_, ?_, fun e => h (ltr_iff.2 e)⟩ <;> simp [jn, pk, h]

theorem jn_comm (a b : Ru) : jn a b = jn b a := by
  have h1 := jn_tl a b
  have h2 := jn_tl b a
  refine Ru.ext' (Int.add_comm _ _) (Int.add_comm _ _) (mn_comm _ _) (mx_comm _ _) ?_ ?_ <;> omega

theorem jn_assoc (a b c : Ru) : jn (jn a b) c = jn a (jn b c) := by
  have h1 := jn_tl a b
  have h2 := jn_tl (jn a b) c
  have h3 := jn_tl b c
  have h4 := jn_tl a (jn b c)
  refine Ru.ext' (Int.add_assoc _ _ _) (Int.add_assoc _ _ _) (mn_assoc _ _ _) (mx_assoc _ _ _) ?_ ?_
  · rcases h1 with h1 | h1 <;> rcases h3 with h3 | h3 <;> omega
  · rcases h1 with h1 | h1 <;> rcases h3 with h3 | h3 <;> omega

/-- A rollup that may be, of some points. -/
def Good (a : Ru) : Prop := chk a = 0 ∧ a.c ≠ 0

theorem good_iff {a : Ru} : Good a ↔ (1 ≤ a.c ∧ a.c ≤ 1073741824) ∧ (0 ≤ a.t ∧ a.t ≤ 1048575) ∧ -1000000 ≤ a.lo ∧ a.hi ≤ 1000000 ∧ (a.lo ≤ a.l ∧ a.l ≤ a.hi) ∧ (a.c * a.lo ≤ a.s ∧ a.s ≤ a.c * a.hi) := by
  constructor
  · rintro ⟨h, hc⟩
    obtain ⟨b1, b2, b3, b4, b5, b6⟩ := check_bounds h
    have m1 := mulbd (x := a.lo) b1.1 b1.2 b4.1 b4.2
    have m2 := mulbd (x := a.hi) b1.1 b1.2 b5.1 b5.2
    have hf : formB a.c a.s a.lo a.hi a.t a.l = true := by
      unfold chk checkC at h
      split at h
      · split at h
        · assumption
        · omega
      · omega
    unfold formB at hf
    rw [if_neg hc, w64 _ (by omega), w64 _ (by omega)] at hf
    simp only [Bool.and_eq_true, inB_iff] at hf
    exact ⟨by omega, b3, b4.1, b5.2, hf.1, hf.2⟩
  · rintro ⟨h1, h2, h3, h4, h5, h6⟩
    exact ⟨chk_ok (by omega) h1.2 h2 h3 h4 h5 h6, by omega⟩

theorem mn_le (a b : Int) : mn a b ≤ a ∧ mn a b ≤ b ∧ (mn a b = a ∨ mn a b = b) := by unfold mn; split <;> omega
theorem mx_ge (a b : Int) : a ≤ mx a b ∧ b ≤ mx a b ∧ (mx a b = a ∨ mx a b = b) := by unfold mx; split <;> omega

theorem good_jn {a b : Ru} (ha : Good a) (hb : Good b) (h : a.c + b.c ≤ 1073741824) : Good (jn a b) := by
  rw [good_iff] at *
  obtain ⟨a1, a2, a3, a4, a5, a6⟩ := ha
  obtain ⟨b1, b2, b3, b4, b5, b6⟩ := hb
  have n := mn_le a.lo b.lo
  have x := mx_ge a.hi b.hi
  have tl := jn_tl a b
  have e1 : (jn a b).lo = mn a.lo b.lo := rfl
  have e2 : (jn a b).hi = mx a.hi b.hi := rfl
  have e3 : (jn a b).c = a.c + b.c := rfl
  have e4 : (jn a b).s = a.s + b.s := rfl
  have p1 := Int.mul_le_mul_of_nonneg_left n.1 (show 0 ≤ a.c by omega)
  have p2 := Int.mul_le_mul_of_nonneg_left n.2.1 (show 0 ≤ b.c by omega)
  have p3 := Int.mul_le_mul_of_nonneg_left x.1 (show 0 ≤ a.c by omega)
  have p4 := Int.mul_le_mul_of_nonneg_left x.2.1 (show 0 ≤ b.c by omega)
  rw [e1, e2, e3, e4, Int.add_mul, Int.add_mul]
  refine ⟨by omega, by omega, by omega, by omega, by omega, by omega⟩

theorem mrg_good {a b : Ru} (ha : Good a) (hb : Good b) : mrg a b = if a.c + b.c ≤ 1073741824 then (jn a b, 0) else (zro, 1) := by
  have ga := good_iff.1 ha
  have gb := good_iff.1 hb
  split
  · rename_i h
    refine mrg_5 ha.1 hb.1 ha.2 hb.2 h ?_
    have gj := good_iff.1 (good_jn ha hb h)
    have hc := check_bounds (good_jn ha hb h).1
    rw [inB_iff]
    exact hc.2.1
  · rename_i h
    exact mrg_6 ha.1 hb.1 ha.2 hb.2 (fun e => h e.1)

theorem mrg_zro {b : Ru} (hb : Good b) : mrg zro b = (b, 0) := mrg_3 chk_zro hb.1 rfl

/-! ### Entries -/

def En.ru (x : En) : Ru := ⟨x.c, x.s, x.lo, x.hi, x.t, x.l⟩
def mkE (k : Int) (r : Ru) : En := ⟨k, r.c, r.s, r.lo, r.hi, r.t, r.l⟩
theorem mkE_ru (k : Int) (r : Ru) : (mkE k r).ru = r := rfl
theorem ru_mkE (x : En) : mkE x.key x.ru = x := rfl
theorem mkE_key (k : Int) (r : Ru) : (mkE k r).key = k := rfl
theorem mkE_c (k : Int) (r : Ru) : (mkE k r).c = r.c := rfl

theorem entB_good {x : En} {low high : Int} (h : entB x low high = true) : Good x.ru := by
  simp only [entB, Bool.and_eq_true, Bool.not_eq_true', beq_eq_false_iff_ne, beq_iff_eq] at h
  exact ⟨h.2, h.1.2⟩

theorem entsB_good {high : Int} : ∀ {xs : List En} {low : Int}, entsB xs low high = true → ∀ x ∈ xs, Good x.ru
  | [], _, _, x, hx => by simp at hx
  | y :: r, low, h, x, hx => by
    simp only [entsB, Bool.and_eq_true] at h
    rcases List.mem_cons.1 hx with rfl | hx
    · exact entB_good h.1
    · exact entsB_good h.2 x hx

/-- Entries with one more; none: what is known of its key can't come together. -/
def ins : List En → En → Option (List En)
  | [], x => some [x]
  | y :: r, x =>
    if x.key < y.key then some (x :: y :: r)
    else if y.key = x.key then (if y.c + x.c ≤ 1073741824 then some (mkE x.key (jn y.ru x.ru) :: r) else none)
    else (ins r x).map (y :: ·)
def insO (o : Option (List En)) (x : En) : Option (List En) := o.bind fun l => ins l x
def allL (xs : List En) : Option (List En) := xs.foldl insO (some [])

theorem ins_lt {y x : En} {r : List En} (h : x.key < y.key) : ins (y :: r) x = some (x :: y :: r) := by simp [ins, h]
theorem ins_eq {y x : En} {r : List En} (h : y.key = x.key) : ins (y :: r) x = if y.c + x.c ≤ 1073741824 then some (mkE x.key (jn y.ru x.ru) :: r) else none := by
  simp [ins, h]
theorem ins_gt {y x : En} {r : List En} (h : y.key < x.key) : ins (y :: r) x = (ins r x).map (y :: ·) := by
  simp only [ins]
  rw [if_neg (by omega), if_neg (by omega)]

theorem map_bind_cons {o : Option (List En)} {y x : En} (h : y.key < x.key) : (o.map (y :: ·)).bind (ins · x) = (o.bind (ins · x)).map (y :: ·) := by
  cases o with
  | none => rfl
  | some l => simp [ins_gt h]

theorem ins_comm {x y : En} (hx : 1 ≤ x.c) (hy : 1 ≤ y.c) : ∀ l : List En, (ins l x).bind (ins · y) = (ins l y).bind (ins · x)
  | [] => by
    simp only [ins, Option.bind_some]
    rcases Int.lt_trichotomy x.key y.key with h | h | h
    · have h1 : ¬ y.key < x.key := by omega
      have h2 : ¬ x.key = y.key := by omega
      simp [h, h1, h2]
    · have h1 : ¬ y.key < x.key := by omega
      have h2 : ¬ x.key < y.key := by omega
      simp only [h, Int.lt_irrefl, if_false, if_true]
      rw [Int.add_comm y.c x.c, jn_comm y.ru x.ru]
    · have h1 : ¬ x.key < y.key := by omega
      have h2 : ¬ y.key = x.key := by omega
      simp [h, h1, h2]
  | z :: r => by
    rcases Int.lt_trichotomy x.key z.key with hxz | hxz | hxz <;> rcases Int.lt_trichotomy y.key z.key with hyz | hyz | hyz
    · rw [ins_lt hxz, ins_lt hyz]
      simp only [Option.bind_some]
      rcases Int.lt_trichotomy x.key y.key with h | h | h
      · rw [ins_gt h, ins_lt h, ins_lt hyz]; rfl
      · rw [ins_eq h, ins_eq h.symm, Int.add_comm y.c x.c, jn_comm y.ru x.ru, h]
      · rw [ins_lt h, ins_gt h, ins_lt hxz]; rfl
    · rw [ins_lt hxz, ins_eq hyz.symm]
      simp only [Option.bind_some]
      rw [ins_gt (by omega), ins_eq hyz.symm]
      split
      · simp only [Option.map_some, Option.bind_some]
        rw [ins_lt (by rw [mkE_key]; omega)]
      · rfl
    · rw [ins_lt hxz, ins_gt hyz]
      simp only [Option.bind_some]
      rw [ins_gt (by omega), ins_gt hyz]
      cases ins r y with
      | none => rfl
      | some l => simp [ins_lt hxz]
    · rw [ins_eq hxz.symm, ins_lt hyz]
      simp only [Option.bind_some]
      rw [ins_gt (by omega), ins_eq hxz.symm]
      split
      · simp only [Option.map_some, Option.bind_some]
        rw [ins_lt (by rw [mkE_key]; omega)]
      · rfl
    · rw [ins_eq hxz.symm, ins_eq hyz.symm]
      have hxy : x.key = y.key := by omega
      by_cases h1 : z.c + x.c ≤ 1073741824 <;> by_cases h2 : z.c + y.c ≤ 1073741824
      · simp only [h1, h2, if_true, Option.bind_some]
        rw [ins_eq (by rw [mkE_key]; exact hxy), ins_eq (by rw [mkE_key]; exact hxy.symm)]
        show (if z.c + x.c + y.c ≤ 1073741824 then some (mkE y.key (jn (jn z.ru x.ru) y.ru) :: r) else none) = if z.c + y.c + x.c ≤ 1073741824 then some (mkE x.key (jn (jn z.ru y.ru) x.ru) :: r) else none
        rw [jn_assoc, jn_assoc, jn_comm x.ru y.ru, hxy]
        by_cases h3 : z.c + x.c + y.c ≤ 1073741824
        · rw [if_pos h3, if_pos (by omega)]
        · rw [if_neg h3, if_neg (by omega)]
      · simp only [h1, h2, if_true, if_false, Option.bind_some, Option.bind_none]
        rw [ins_eq (by rw [mkE_key]; exact hxy)]
        exact if_neg (show ¬ z.c + x.c + y.c ≤ 1073741824 by omega)
      · simp only [h1, h2, if_true, if_false, Option.bind_some, Option.bind_none]
        rw [ins_eq (by rw [mkE_key]; exact hxy.symm)]
        exact (if_neg (show ¬ z.c + y.c + x.c ≤ 1073741824 by omega)).symm
      · simp [h1, h2]
    · rw [ins_eq hxz.symm, ins_gt hyz]
      by_cases h1 : z.c + x.c ≤ 1073741824
      · simp only [h1, if_true, Option.bind_some]
        rw [ins_gt (by rw [mkE_key]; omega)]
        cases ins r y with
        | none => rfl
        | some l => simp [ins_eq hxz.symm, h1]
      · simp only [h1, if_false, Option.bind_none]
        cases ins r y with
        | none => rfl
        | some l => simp [ins_eq hxz.symm, h1]
    · rw [ins_gt hxz, ins_lt hyz]
      simp only [Option.bind_some]
      rw [ins_gt (by omega), ins_gt hxz]
      cases ins r x with
      | none => rfl
      | some l => simp [ins_lt hyz]
    · rw [ins_gt hxz, ins_eq hyz.symm]
      by_cases h1 : z.c + y.c ≤ 1073741824
      · simp only [h1, if_true, Option.bind_some]
        rw [ins_gt (by rw [mkE_key]; omega)]
        cases ins r x with
        | none => rfl
        | some l => simp [ins_eq hyz.symm, h1]
      · simp only [h1, if_false, Option.bind_none]
        cases ins r x with
        | none => rfl
        | some l => simp [ins_eq hyz.symm, h1]
    · rw [ins_gt hxz, ins_gt hyz, map_bind_cons hyz, map_bind_cons hxz, ins_comm hx hy r]

/-- It does not matter in what order entries come together. -/
theorem allL_perm {l₁ l₂ : List En} (h : l₁.Perm l₂) (hp : ∀ x ∈ l₁, 1 ≤ x.c) : allL l₁ = allL l₂ := by
  unfold allL
  refine h.foldl_eq' (fun x hx y hy z => ?_) _
  cases z with
  | none => rfl
  | some l => exact ins_comm (hp x hx) (hp y hy) l

end Go.Proofs.Ytlojfgdpmaigmac

/- All entries of a tree that may be, as the code walks them and as they stand in the nodes: the same ones, in another order. -/
namespace Go.Proofs.Ytlojfgdpmaigmac
open Go.RowKit Plain

def inR (low high : Int) (x : En) : Bool := decide (low ≤ x.key) && decide (x.key < high)

/-- All entries from a node on. -/
def Fl (ns : List Nd) : Nat → Int → List En
  | 0, _ => []
  | f + 1, n => (ns.getD n.toNat default).buf ++ (ns.getD n.toNat default).ents ++ (ns.getD n.toNat default).kids.flatMap (Fl ns f)

/-- Is a kid passed by? 'pr': the key ahead of it; 'nx': the one behind it. -/
def skipB (low high : Int) (pr nx : Option Int) : Bool := (pr.any fun k => decide (high ≤ k)) || (nx.any fun k => decide (k ≤ low))

def WlK (g : Int → List En) (low high : Int) : List Int → List Int → Option Int → List En
  | [], _, _ => []
  | d :: ds, keys, pr => (if skipB low high pr keys.head? = true then [] else g d) ++ WlK g low high ds keys.tail keys.head?

/-- The entries of keys from low on, below high, as the code walks them. -/
def Wl (ns : List Nd) (low high : Int) : Nat → Int → List En
  | 0, _ => []
  | f + 1, n => (ns.getD n.toNat default).buf.filter (inR low high) ++ (ns.getD n.toNat default).ents.filter (inR low high) ++
      WlK (Wl ns low high f) low high (ns.getD n.toNat default).kids (ns.getD n.toNat default).keys none

theorem entsB_in {lo hi : Int} : ∀ {xs : List En} {low : Int}, entsB xs low hi = true → lo ≤ low → ∀ x ∈ xs, lo ≤ x.key ∧ x.key < hi
  | [], _, _, _, x, hx => by simp at hx
  | y :: r, low, h, hl, x, hx => by
    simp only [entsB, entB, Bool.and_eq_true, decide_eq_true_eq] at h
    rcases List.mem_cons.1 hx with rfl | hx
    · omega
    · exact entsB_in h.2 (by omega) x hx

/-- What W lets pass lies within its keys. -/
theorem Wk_in {g : Int → Int → Int → St → Option (St × List Int)} {F : Int → List En} (hg : ∀ d lo hi S r, g d lo hi S = some r → (∀ x ∈ F d, lo ≤ x.key ∧ x.key < hi) ∧ lo < hi) :
    ∀ (ds keys : List Int) (lo hi : Int) (S : St) (r : St × List Int), Wk g ds keys lo hi S = some r → keys.length + 1 = ds.length → ∀ x ∈ ds.flatMap F, lo ≤ x.key ∧ x.key < hi
  | [], _, _, _, _, _, _, _, x, hx => by simp at hx
  | d :: ds, keys, lo, hi, S, r, hr, hl, x, hx => by
    have hlow := Wk_low (fun d lo hi S r h => (hg d lo hi S r h).2) _ _ _ _ _ _ hr (by simp) hl
    unfold Wk at hr
    split at hr
    · cases hr
    · rename_i S1 l1 h1
      have a := hg _ _ _ _ _ h1
      simp only [List.flatMap_cons, List.mem_append] at hx
      cases keys with
      | nil =>
        have hds : ds = [] := by cases ds with | nil => rfl | cons _ _ => simp at hl
        subst hds
        simp at hx
        simpa using a.1 x hx
      | cons k ks =>
        simp only [List.headD_cons, List.tail_cons] at a hr
        have hk := hlow.2 k List.mem_cons_self
        split at hr
        · cases hr
        · rename_i S2 l2 h2
          rcases hx with hx | hx
          · have := a.1 x hx; omega
          · have := Wk_in hg ds ks k hi S1 _ h2 (by simpa using hl) x hx
            omega

theorem W_in {ns : List Nd} : ∀ (f : Nat) (n lo hi : Int) (S : St) (r : St × List Int), W ns f n lo hi S = some r → ∀ x ∈ Fl ns f n, lo ≤ x.key ∧ x.key < hi := by
  intro f
  induction f with
  | zero => intro n lo hi S r h; cases h
  | succ f ih =>
    intro n lo hi S r h x hx
    unfold W at h
    split at h
    · cases h
    · unfold Fl at hx
      split at h
      · split at h
        · rename_i hl
          obtain ⟨h1, h2, h3, _, _, h6⟩ := leafB_iff.1 hl
          simp only [h2, h3, List.nil_append, List.flatMap_nil, List.append_nil] at hx
          exact entsB_in h6 (Int.le_refl _) x hx
        · cases h
      · split at h
        · rename_i hin
          obtain ⟨h1, h2, h3, h4, h5, h6⟩ := innerB_kids hin
          simp only [h1, List.append_nil, List.mem_append] at hx
          rcases hx with hx | hx
          · exact entsB_in h6 (Int.le_refl _) x hx
          · exact Wk_in (fun d lo hi S r h => ⟨ih d lo hi S r h, W_low f d lo hi S r h⟩) _ _ _ _ _ _ h h4 x hx
        · cases h

theorem filter_none {low high lo hi : Int} {l : List En} (h : ∀ x ∈ l, lo ≤ x.key ∧ x.key < hi) (hs : high ≤ lo ∨ hi ≤ low) : l.filter (inR low high) = [] := by
  rw [List.filter_eq_nil_iff]
  intro x hx
  have := h x hx
  simp only [inR, Bool.and_eq_true, decide_eq_true_eq]
  omega

theorem Wk_filter {g : Int → Int → Int → St → Option (St × List Int)} {F G : Int → List En} {low high : Int} (hg : ∀ d lo hi S r, g d lo hi S = some r → (∀ x ∈ F d, lo ≤ x.key ∧ x.key < hi) ∧ G d = (F d).filter (inR low high)) :
    ∀ (ds keys : List Int) (lo hi : Int) (S : St) (r : St × List Int) (pr : Option Int), Wk g ds keys lo hi S = some r → keys.length + 1 = ds.length → (∀ k, pr = some k → k = lo) → WlK G low high ds keys pr = (ds.flatMap F).filter (inR low high)
  | [], _, _, _, _, _, _, _, h, _ => by simp at h
  | d :: ds, keys, lo, hi, S, r, pr, hr, hl, hp => by
    unfold Wk at hr
    split at hr
    · cases hr
    · rename_i S1 l1 h1
      have a := hg _ _ _ _ _ h1
      simp only [WlK, List.flatMap_cons, List.filter_append]
      have hd : (if skipB low high pr keys.head? = true then [] else G d) = (F d).filter (inR low high) := by
        split
        · rename_i hs
          symm
          refine filter_none a.1 ?_
          simp only [skipB, Bool.or_eq_true, Option.any_eq_true, decide_eq_true_eq] at hs
          rcases hs with ⟨k, hk, hh⟩ | ⟨k, hk, hh⟩
          · have := hp k hk; omega
          · right
            cases keys with
            | nil => simp at hk
            | cons k' ks => simp at hk; subst hk; simpa using hh
        · exact a.2
      rw [hd]
      cases keys with
      | nil =>
        have hds : ds = [] := by cases ds with | nil => rfl | cons _ _ => simp at hl
        subst hds
        simp [WlK]
      | cons k ks =>
        simp only [List.headD_cons, List.tail_cons, List.head?_cons] at hr ⊢
        split at hr
        · cases hr
        · rename_i S2 l2 h2
          rw [Wk_filter hg ds ks k hi S1 _ (some k) h2 (by simpa using hl) (fun _ h => by cases h; rfl)]

/-- The code's walk comes to what of all is within the keys. -/
theorem Wl_eq {ns : List Nd} {low high : Int} : ∀ (f : Nat) (n lo hi : Int) (S : St) (r : St × List Int), W ns f n lo hi S = some r → Wl ns low high f n = (Fl ns f n).filter (inR low high) := by
  intro f
  induction f with
  | zero => intro n lo hi S r h; cases h
  | succ f ih =>
    intro n lo hi S r h
    have h0 := h
    unfold W at h
    split at h
    · cases h
    · unfold Wl Fl
      simp only [List.filter_append]
      congr 1
      split at h
      · split at h
        · rename_i hl
          obtain ⟨h1, h2, _⟩ := leafB_iff.1 hl
          rw [h2]
          rfl
        · cases h
      · split at h
        · rename_i hin
          obtain ⟨h1, h2, h3, h4, _⟩ := innerB_kids hin
          exact Wk_filter (fun d lo hi S r h => ⟨W_in f d lo hi S r h, ih d lo hi S r h⟩) _ _ _ _ _ _ _ h h4 (fun _ h => by cases h)
        · cases h

/-! ### The nodes come to, and their entries -/

def allOf (ns : List Nd) (n : Int) : List En := (ns.getD n.toNat default).buf ++ (ns.getD n.toNat default).ents

theorem Wk_perm {ns : List Nd} {g : Int → Int → Int → St → Option (St × List Int)} {F : Int → List En} (hg : ∀ d lo hi S S' l, g d lo hi S = some (S', l) → ∃ T : St, S' = T ++ S ∧ (F d).Perm (T.flatMap fun p => allOf ns p.1)) :
    ∀ (ds keys : List Int) (lo hi : Int) (S S' : St) (l : List Int), Wk g ds keys lo hi S = some (S', l) → ∃ T : St, S' = T ++ S ∧ (ds.flatMap F).Perm (T.flatMap fun p => allOf ns p.1)
  | [], _, _, _, _, _, _, h => by cases h; exact ⟨[], rfl, by simp⟩
  | d :: ds, keys, lo, hi, S, S', l, hr => by
    unfold Wk at hr
    split at hr
    · cases hr
    · rename_i S1 l1 h1
      split at hr
      · cases hr
      · rename_i S2 l2 h2
        cases hr
        obtain ⟨T1, e1, p1⟩ := hg _ _ _ _ _ _ h1
        obtain ⟨T2, e2, p2⟩ := Wk_perm hg _ _ _ _ _ _ _ h2
        refine ⟨T2 ++ T1, by rw [e2, e1, List.append_assoc], ?_⟩
        simp only [List.flatMap_cons, List.flatMap_append]
        exact (p1.append p2).trans List.perm_append_comm

theorem W_perm {ns : List Nd} : ∀ (f : Nat) (n lo hi : Int) (S S' : St) (l : List Int), W ns f n lo hi S = some (S', l) → ∃ T : St, S' = T ++ S ∧ (Fl ns f n).Perm (T.flatMap fun p => allOf ns p.1) := by
  intro f
  induction f with
  | zero => intro n lo hi S S' l h; cases h
  | succ f ih =>
    intro n lo hi S S' l h
    unfold W at h
    split at h
    · cases h
    · unfold Fl
      split at h
      · split at h
        · rename_i hl
          obtain ⟨_, h2, _⟩ := leafB_iff.1 hl
          cases h
          refine ⟨[(n, 12 - (f : Int))], rfl, ?_⟩
          rw [h2]
          simp only [List.flatMap_nil, List.append_nil, List.flatMap_cons, allOf]
          exact List.Perm.refl _
        · cases h
      · split at h
        · obtain ⟨T, e, p⟩ := Wk_perm ih _ _ _ _ _ _ _ h
          refine ⟨T ++ [(n, 12 - (f : Int))], by rw [e]; simp, ?_⟩
          simp only [List.flatMap_append, List.flatMap_cons, List.flatMap_nil, List.append_nil]
          exact (List.Perm.append_left _ p).trans List.perm_append_comm
        · cases h

/-- What the nodes of a tree that may be hold is what is come to from its root. -/
theorem tree_perm {ns : List Nd} {root : Int} (h : treeC ns root = 0) : (Fl ns 12 root).Perm (ns.flatMap fun x => x.buf ++ x.ents) := by
  unfold treeC at h
  split at h
  · omega
  · cases hW : W ns 12 root 0 1099511627776 [] with
    | none => rw [hW] at h; simp at h
    | some p =>
      obtain ⟨S, l⟩ := p
      rw [hW] at h
      simp only at h
      split at h
      · rename_i hc
        obtain ⟨T, e, pm⟩ := W_perm 12 _ _ _ _ _ _ hW
        simp at e
        subst e
        have hst := (W_st 12 _ _ _ _ _ _ hW ⟨by simp, by simp⟩).1
        have hseen := (all_seen hst).1 hc.2
        have hpm : (S.map (·.1)).Perm ((List.range ns.length).map fun i : Nat => (i : Int)) := by
          rw [List.perm_ext_iff_of_nodup hst.1 (by
            rw [List.Nodup, List.pairwise_map]
            exact List.nodup_range.imp (fun h e => h (by omega)))]
          intro a
          constructor
          · intro ha
            obtain ⟨p, hp, rfl⟩ := List.mem_map.1 ha
            have := hst.2 p hp
            exact List.mem_map.2 ⟨p.1.toNat, by simp; omega, by omega⟩
          · intro ha
            obtain ⟨i, hi, rfl⟩ := List.mem_map.1 ha
            exact seenB_iff.1 (hseen i (by simpa using hi))
        refine pm.trans ?_
        have e1 : (S.flatMap fun p => allOf ns p.1) = (S.map (·.1)).flatMap (allOf ns) := by rw [List.flatMap_map]
        rw [e1]
        refine (hpm.flatMap_right _).trans ?_
        rw [List.flatMap_map]
        have e2 : (List.range ns.length).flatMap (fun i => allOf ns ((i : Nat) : Int)) = ns.flatMap fun x => x.buf ++ x.ents := by
          rw [List.flatMap_def, List.flatMap_def]
          congr 1
          apply List.ext_getElem?
          intro i
          by_cases hi : i < ns.length
          · simp [hi, allOf]
          · simp [hi]
        rw [e2]
      · omega

end Go.Proofs.Ytlojfgdpmaigmac

/- Plain facts on the document's AllOf: what the nodes of a tree that may be hold, and what comes of putting it together. -/
namespace Go.Proofs.Ytlojfgdpmaigmac
open Go.RowKit Plain

def NodeOk (x : Nd) : Prop := x.ents.length ≤ 6 ∧ x.buf.length ≤ 8 ∧ (∀ y ∈ x.ents, Good y.ru) ∧ ∀ y ∈ x.buf, Good y.ru

theorem leaf_ok {x : Nd} {low high : Int} {f : Nat} (h : leafB x low high f = true) : NodeOk x := by
  obtain ⟨_, _, h3, h4, _, h6⟩ := leafB_iff.1 h
  exact ⟨h4, by rw [h3]; simp, entsB_good h6, by rw [h3]; simp⟩

theorem inner_ok {x : Nd} {low high : Int} (h : innerB x low high = true) : NodeOk x := by
  obtain ⟨h1, _, _, _, h5, h6⟩ := innerB_kids h
  exact ⟨by rw [h1]; simp, h5, by rw [h1]; simp, entsB_good h6⟩

theorem Wk_each {ns : List Nd} {g : Int → Int → Int → St → Option (St × List Int)} (hg : ∀ d lo hi S S' l, g d lo hi S = some (S', l) → ∀ p ∈ S', p ∈ S ∨ NodeOk (ns.getD p.1.toNat default)) :
    ∀ (ds keys : List Int) (lo hi : Int) (S S' : St) (l : List Int), Wk g ds keys lo hi S = some (S', l) → ∀ p ∈ S', p ∈ S ∨ NodeOk (ns.getD p.1.toNat default)
  | [], _, _, _, _, _, _, h, p, hp => by cases h; exact .inl hp
  | d :: ds, keys, lo, hi, S, S', l, hr, p, hp => by
    unfold Wk at hr
    split at hr
    · cases hr
    · rename_i S1 l1 h1
      split at hr
      · cases hr
      · rename_i S2 l2 h2
        cases hr
        rcases Wk_each hg _ _ _ _ _ _ _ h2 p hp with h | h
        · exact hg _ _ _ _ _ _ h1 p h
        · exact .inr h

theorem W_each {ns : List Nd} : ∀ (f : Nat) (n lo hi : Int) (S S' : St) (l : List Int), W ns f n lo hi S = some (S', l) → ∀ p ∈ S', p ∈ S ∨ NodeOk (ns.getD p.1.toNat default) := by
  intro f
  induction f with
  | zero => intro n lo hi S S' l h; cases h
  | succ f ih =>
    intro n lo hi S S' l h p hp
    unfold W at h
    split at h
    · cases h
    · split at h
      · split at h
        · rename_i hl
          cases h
          rcases List.mem_cons.1 hp with rfl | hp
          · exact .inr (leaf_ok hl)
          · exact .inl hp
        · cases h
      · split at h
        · rename_i hin
          rcases Wk_each ih _ _ _ _ _ _ _ h p hp with h | h
          · rcases List.mem_cons.1 h with rfl | h
            · exact .inr (inner_ok hin)
            · exact .inl h
          · exact .inr h
        · cases h

theorem tree_each {ns : List Nd} {root : Int} (h : treeC ns root = 0) : ns.length ≤ 2000 ∧ ∀ i (hi : i < ns.length), NodeOk ns[i] := by
  unfold treeC at h
  split at h
  · omega
  · rename_i hn
    refine ⟨by omega, fun i hi => ?_⟩
    cases hW : W ns 12 root 0 1099511627776 [] with
    | none => rw [hW] at h; simp at h
    | some p =>
      obtain ⟨S, l⟩ := p
      rw [hW] at h
      simp only at h
      split at h
      · rename_i hc
        have hst := (W_st 12 _ _ _ _ _ _ hW ⟨by simp, by simp⟩).1
        have hseen := (all_seen hst).1 hc.2 i hi
        obtain ⟨p, hp, hpe⟩ := List.mem_map.1 (seenB_iff.1 hseen)
        rcases W_each 12 _ _ _ _ _ _ hW p hp with h | h
        · simp at h
        · rw [hpe] at h
          simpa [hi] using h
      · omega

/-- What the document has come to behind i nodes and k entries of the next one. -/
def Nd.lst (x : Nd) : List En := x.ents ++ x.buf
def soFar (ns : List Nd) (i k : Nat) : List En := (ns.take i).flatMap Nd.lst ++ ((ns.getD i default).lst).take k

def allR (low high : Int) (xs : List En) : Option (List En) := allL (xs.filter (inR low high))

theorem allL_snoc (xs : List En) (x : En) : allL (xs ++ [x]) = insO (allL xs) x := by simp [allL]

theorem allR_snoc {low high : Int} {xs : List En} {x : En} : allR low high (xs ++ [x]) = if inR low high x = true then insO (allR low high xs) x else allR low high xs := by
  unfold allR
  rw [List.filter_append]
  by_cases h : inR low high x = true
  · rw [if_pos h, List.filter_cons_of_pos h]
    exact allL_snoc _ _
  · rw [if_neg h, List.filter_cons_of_neg h]
    simp

theorem soFar_snoc {ns : List Nd} {i k : Nat} (hk : k < ((ns.getD i default).lst).length) : soFar ns i (k + 1) = soFar ns i k ++ [((ns.getD i default).lst)[k]] := by
  unfold soFar
  rw [List.take_succ_eq_append_getElem hk, List.append_assoc]

theorem soFar_next {ns : List Nd} {i : Nat} (hi : i < ns.length) : soFar ns i ((ns.getD i default).lst).length = soFar ns (i + 1) 0 := by
  have hg : ns.getD i default = ns[i] := by simp [hi]
  unfold soFar
  rw [hg, List.take_length, List.take_zero, List.append_nil, List.take_succ_eq_append_getElem hi, List.flatMap_append]
  simp only [List.flatMap_cons, List.flatMap_nil, List.append_nil]

theorem soFar_end (ns : List Nd) : soFar ns ns.length 0 = ns.flatMap Nd.lst := by simp [soFar]

theorem soFar_prefix {ns : List Nd} {i k : Nat} (hi : i < ns.length) : ∃ rest, ns.flatMap Nd.lst = soFar ns i k ++ rest := by
  have hg : ns.getD i default = ns[i] := by simp [hi]
  refine ⟨(ns[i]).lst.drop k ++ (ns.drop (i + 1)).flatMap Nd.lst, ?_⟩
  unfold soFar
  rw [hg]
  have e : ns = ns.take i ++ ns[i] :: ns.drop (i + 1) := by rw [← List.drop_eq_getElem_cons hi, List.take_append_drop]
  conv => lhs; rw [e]
  rw [List.flatMap_append, List.flatMap_cons, List.append_assoc, ← List.append_assoc ((ns[i]).lst.take k), List.take_append_drop]

/-- What can't come together stays so. -/
theorem fold_none : ∀ ys : List En, ys.foldl insO none = none
  | [] => rfl
  | _ :: r => fold_none r
theorem allR_none {low high : Int} {xs ys : List En} (h : allR low high xs = none) : allR low high (xs ++ ys) = none := by
  unfold allR allL at *
  rw [List.filter_append, List.foldl_append, h, fold_none]

theorem ins_good {x : En} (hx : Good x.ru) : ∀ {l r : List En}, (∀ y ∈ l, Good y.ru) → ins l x = some r → (∀ y ∈ r, Good y.ru) ∧ r.length ≤ l.length + 1
  | [], r, _, h => by simp [ins] at h; subst h; simpa using hx
  | y :: l, r, hl, h => by
    have hy := hl y List.mem_cons_self
    have hl' : ∀ z ∈ l, Good z.ru := fun z hz => hl z (List.mem_cons_of_mem _ hz)
    simp only [ins] at h
    split at h
    · cases h
      refine ⟨fun z hz => ?_, by simp⟩
      rcases List.mem_cons.1 hz with rfl | hz
      · exact hx
      · exact hl z hz
    · split at h
      · split at h
        · rename_i hc
          cases h
          refine ⟨fun z hz => ?_, by simp⟩
          rcases List.mem_cons.1 hz with rfl | hz
          · exact good_jn hy hx hc
          · exact hl' z hz
        · cases h
      · cases hr : ins l x with
        | none => rw [hr] at h; cases h
        | some q =>
          rw [hr] at h
          cases h
          have ih := ins_good hx hl' hr
          refine ⟨fun z hz => ?_, by simp; omega⟩
          rcases List.mem_cons.1 hz with rfl | hz
          · exact hy
          · exact ih.1 z hz

end Go.Proofs.Ytlojfgdpmaigmac

/- The document's WithEntry: entries with one more. -/
namespace Go.Proofs.Ytlojfgdpmaigmac
open Go.RowKit Plain

theorem ins_app {x : En} : ∀ {l : List En} (r : List En), (∀ y ∈ l, y.key < x.key) → ins (l ++ r) x = (ins r x).map (l ++ ·)
  | [], r, _ => by rw [List.nil_append]; cases ins r x <;> rfl
  | y :: l, r, h => by
    rw [List.cons_append, ins_gt (h y List.mem_cons_self), ins_app r (fun z hz => h z (List.mem_cons_of_mem _ hz))]
    cases ins r x <;> rfl

/-- What WithEntry has come to behind i entries. -/
def WithAt (xs : List En) (x : En) (i : Nat) (done : Bool) (out : List En) : Prop :=
  (done = false ∧ out = xs.take i ∧ ∀ y ∈ xs.take i, y.key < x.key) ∨ (done = true ∧ ins xs x = some (out ++ xs.drop i))

theorem with_split {xs : List En} {i : Nat} (hi : i < xs.length) : xs = xs.take i ++ xs[i] :: xs.drop (i + 1) := by
  rw [← List.drop_eq_getElem_cons hi, List.take_append_drop]

theorem with_less {xs : List En} {x : En} {i : Nat} {out : List En} (h : WithAt xs x i false out) (hi : i < xs.length) (hk : xs[i].key < x.key) : WithAt xs x (i + 1) false (out ++ [xs[i]]) := by
  rcases h with ⟨_, rfl, h⟩ | ⟨h, _⟩
  · refine .inl ⟨rfl, by rw [List.take_succ_eq_append_getElem hi], fun y hy => ?_⟩
    rw [List.take_succ_eq_append_getElem hi] at hy
    rcases List.mem_append.1 hy with hy | hy
    · exact h y hy
    · rw [List.mem_singleton] at hy; rw [hy]; exact hk
  · cases h

theorem with_same {xs : List En} {x : En} {i : Nat} {out : List En} (h : WithAt xs x i false out) (hi : i < xs.length) (hk : xs[i].key = x.key) :
    (xs[i].c + x.c ≤ 1073741824 → WithAt xs x (i + 1) true (out ++ [mkE x.key (jn xs[i].ru x.ru)])) ∧ (¬ xs[i].c + x.c ≤ 1073741824 → ins xs x = none) := by
  rcases h with ⟨_, rfl, h⟩ | ⟨h, _⟩
  · have e : ins xs x = (ins (xs[i] :: xs.drop (i + 1)) x).map (xs.take i ++ ·) := by
      conv => lhs; rw [with_split hi]
      exact ins_app _ h
    rw [ins_eq hk] at e
    constructor
    · intro hc
      rw [if_pos hc] at e
      exact .inr ⟨rfl, by rw [e]; simp⟩
    · intro hc
      rw [if_neg hc] at e
      exact e
  · cases h

theorem with_more {xs : List En} {x : En} {i : Nat} {out : List En} (h : WithAt xs x i false out) (hi : i < xs.length) (hk : x.key < xs[i].key) : WithAt xs x (i + 1) true (out ++ [x] ++ [xs[i]]) := by
  rcases h with ⟨_, rfl, h⟩ | ⟨h, _⟩
  · have e : ins xs x = (ins (xs[i] :: xs.drop (i + 1)) x).map (xs.take i ++ ·) := by
      conv => lhs; rw [with_split hi]
      exact ins_app _ h
    rw [ins_lt hk] at e
    exact .inr ⟨rfl, by rw [e]; simp⟩
  · cases h

theorem with_done {xs : List En} {x : En} {i : Nat} {out : List En} (h : WithAt xs x i true out) (hi : i < xs.length) : WithAt xs x (i + 1) true (out ++ [xs[i]]) := by
  rcases h with ⟨h, _⟩ | ⟨_, h⟩
  · cases h
  · refine .inr ⟨rfl, ?_⟩
    rw [h, List.drop_eq_getElem_cons hi]
    simp

theorem with_end {xs : List En} {x : En} {out : List En} {done : Bool} (h : WithAt xs x xs.length done out) : ins xs x = some (if done = true then out else out ++ [x]) := by
  rcases h with ⟨rfl, rfl, h⟩ | ⟨rfl, h⟩
  · rw [List.take_length] at h ⊢
    have := ins_app (x := x) [] h
    rw [List.append_nil] at this
    rw [this]
    simp [ins]
  · rw [h]; simp

theorem with_len {xs : List En} {x : En} {i : Nat} {out : List En} {done : Bool} (h : WithAt xs x i done out) (hi : i ≤ xs.length) : out.length ≤ i + 1 := by
  rcases h with ⟨_, rfl, _⟩ | ⟨_, h⟩
  · simp; omega
  · have hl : ∀ {l : List En} {r : List En}, ins l x = some r → r.length ≤ l.length + 1 := by
      intro l
      induction l with
      | nil => intro r h; simp [ins] at h; subst h; simp
      | cons y l ih =>
        intro r h
        simp only [ins] at h
        split at h
        · cases h; simp
        · split at h
          · split at h
            · cases h; simp
            · cases h
          · cases hr : ins l x with
            | none => rw [hr] at h; cases h
            | some q => rw [hr] at h; cases h; have := ih hr; simp; omega
    have := hl h
    simp at this
    omega

theorem news1 (w : World) (x : En) : ∀ j u, x.vals[j]? = some u → (w.alloc (.cells x.vals.toArray 53)).cell? ((⟨w.heap.size, 0, none⟩ : Addr).add j) = some u := by
  intro j u hu
  rw [WideShapes.add_plain, Nat.zero_add, (rowL_alloc w x.vals 53).cell]
  exact hu

theorem vals_one (x : En) : ∀ u ∈ x.vals, u.oneCell' = true := by
  have := flatE_one [x]
  simpa [flatE] using this

theorem vals_toArray (x : En) : x.vals.toArray = #[.int .i64 x.key, .int .i64 x.c, .int .i64 x.s, .int .i64 x.lo, .int .i64 x.hi, .int .i64 x.t, .int .i64 x.l] := rfl

theorem flatE_snoc (l : List En) (x : En) : flatE l ++ x.vals = flatE (l ++ [x]) := by rw [flatE_append]; simp [flatE]

theorem app_below {B : Nat} {W wd w1 : World} {v : Value} {out : List En} {o : Obj} (hown : wd.ownsRow B 53 7 v out.length (flatE out)) (hb : Below B W wd) (hB : B ≤ wd.heap.size) (hg : (wd.alloc o).grownBy w1 v.ownBlock) : Below B W w1 ∧ B ≤ w1.heap.size := by
  have hs := hg.size
  simp at hs
  exact ⟨(hb.alloc hB o).grown hg (by simp; omega) (fun k hk => (hown.lt k hk).1), by omega⟩

theorem app_own {B : Nat} {w1 : World} {v : Value} {out : List En} {y : En} (h : w1.ownsRow B 53 7 v (out.length + 1) (flatE out ++ y.vals)) : w1.ownsRow B 53 7 v (out ++ [y]).length (flatE (out ++ [y])) := by
  rw [flatE_snoc] at h
  simpa using h

theorem alloc_rule {W w3 : World} {c : Array Value} {t : TypeId} {n : Nat} (hb : Below (W.alloc (.cells c t)).heap.size (W.alloc (.cells c t)) w3) (hn : W.heap.size = n) :
    w3.cell? ⟨n, 0, none⟩ = c[0]? ∧ w3.cell? ⟨n, 1, none⟩ = c[1]? ∧ w3.cell? ⟨n, 2, none⟩ = c[2]? ∧ w3.cell? ⟨n, 3, none⟩ = c[3]? ∧ w3.cell? ⟨n, 4, none⟩ = c[4]? ∧ w3.cell? ⟨n, 5, none⟩ = c[5]? ∧ ∀ j, w3.frozen? ⟨n, j, none⟩ = false := by
  subst hn
  have g : ∀ j, w3.cell? ⟨W.heap.size, j, none⟩ = c[j]? := fun j => (hb.cell (p := ⟨W.heap.size, j, none⟩) (by simp)).trans (by simp)
  exact ⟨g 0, g 1, g 2, g 3, g 4, g 5, fun j => (hb.frozen (p := ⟨W.heap.size, j, none⟩) (by simp)).trans (by simp)⟩

end Go.Proofs.Ytlojfgdpmaigmac

/- The document's 'height' of a tree: leaves. -/
namespace Go.Proofs.Ytlojfgdpmaigmac
open Go.RowKit Plain

end Go.Proofs.Ytlojfgdpmaigmac

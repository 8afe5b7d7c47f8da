/- What together of package roll does. -/
import Derived.Test.YtlojfgdpmaigmafDoorWalks6
import Derived.Test.YtlojfgdpmaigmafDoorAid
namespace Go.Proofs.YtlojfgdpmaigmafDoor
open Go.RowKit Plain

set_option maxHeartbeats 1000000 in
theorem together_any (c s lo hi t l c' s' lo' hi' t' l' : Int) (w : World) (a1 : 0 ≤ c) (a2 : c ≤ 1073741824) (b1 : 0 ≤ c') (b2 : c' ≤ 1073741824) (a3 : -1125899906842624 ≤ s) (a4 : s ≤ 1125899906842624) (b3 : -1125899906842624 ≤ s') (b4 : s' ≤ 1125899906842624) :
    Calls Tryd.prog 58 #[.agg #[.int .i64 c, .int .i64 s, .int .i64 lo, .int .i64 hi, .int .i64 t, .int .i64 l], .agg #[.int .i64 c', .int .i64 s', .int .i64 lo', .int .i64 hi', .int .i64 t', .int .i64 l']] w fun e w' => e = .returned (.agg #[.int .i64 (c + c'), .int .i64 (s + s'), .int .i64 (mn lo lo'), .int .i64 (mx hi hi'), .int .i64 (pk (ltr t l t' l') t t'), .int .i64 (pk (ltr t l t' l') l l')]) ∧ Below w.heap.size w w' := by
  by_cases hl : ltr t l t' l' = true
  · rw [pk_t t t' hl, pk_t l l' hl]
    go_enter Tryd.func58, Tryd.ntmps58
    go_wp2_with (first | (go_at_call 76; refine (later_a _ _ _ _ _ _ _ _ _ _ _ _ _ hl).mono ?_; rintro e w1 ⟨rfl, hb1⟩; obtain ⟨hc1, hf1⟩ := bcell hb1; obtain ⟨hz1, hz2, hz3⟩ := sz3 hb1))
    all_goals
      first
      | exact bodyPost_ret (v := .agg #[.int .i64 (c + c'), .int .i64 (s + s'), .int .i64 lo, .int .i64 hi, .int .i64 t, .int .i64 l]) (by simp [results, Tryd.results58, go_sem, hc1, hz3]) rfl ⟨by rw [mn_l (show lo ≤ lo' by omega), mx_l (show hi' ≤ hi by omega)], (set6 ((Below.refl _ _).alloc (Nat.le_refl _) _ |>.alloc (by simp) _ |>.alloc (by simp; omega) _ |>.trans (hb1.mono (by simp; omega))) (by omega) _ _ _ _ _ _).alloc (by simp; omega) _⟩
      | exact bodyPost_ret (v := .agg #[.int .i64 (c + c'), .int .i64 (s + s'), .int .i64 lo, .int .i64 hi', .int .i64 t, .int .i64 l]) (by simp [results, Tryd.results58, go_sem, hc1, hz3]) rfl ⟨by rw [mn_l (show lo ≤ lo' by omega), mx_r (show hi ≤ hi' by omega)], (set6 ((Below.refl _ _).alloc (Nat.le_refl _) _ |>.alloc (by simp) _ |>.alloc (by simp; omega) _ |>.trans (hb1.mono (by simp; omega))) (by omega) _ _ _ _ _ _).alloc (by simp; omega) _⟩
      | exact bodyPost_ret (v := .agg #[.int .i64 (c + c'), .int .i64 (s + s'), .int .i64 lo', .int .i64 hi, .int .i64 t, .int .i64 l]) (by simp [results, Tryd.results58, go_sem, hc1, hz3]) rfl ⟨by rw [mn_r (show lo' ≤ lo by omega), mx_l (show hi' ≤ hi by omega)], (set6 ((Below.refl _ _).alloc (Nat.le_refl _) _ |>.alloc (by simp) _ |>.alloc (by simp; omega) _ |>.trans (hb1.mono (by simp; omega))) (by omega) _ _ _ _ _ _).alloc (by simp; omega) _⟩
      | exact bodyPost_ret (v := .agg #[.int .i64 (c + c'), .int .i64 (s + s'), .int .i64 lo', .int .i64 hi', .int .i64 t, .int .i64 l]) (by simp [results, Tryd.results58, go_sem, hc1, hz3]) rfl ⟨by rw [mn_r (show lo' ≤ lo by omega), mx_r (show hi ≤ hi' by omega)], (set6 ((Below.refl _ _).alloc (Nat.le_refl _) _ |>.alloc (by simp) _ |>.alloc (by simp; omega) _ |>.trans (hb1.mono (by simp; omega))) (by omega) _ _ _ _ _ _).alloc (by simp; omega) _⟩
  · have hl : ltr t l t' l' = false := by simpa using hl
    rw [pk_f t t' hl, pk_f l l' hl]
    go_enter Tryd.func58, Tryd.ntmps58
    go_wp2_with (first | (go_at_call 76; refine (later_b _ _ _ _ _ _ _ _ _ _ _ _ _ hl).mono ?_; rintro e w1 ⟨rfl, hb1⟩; obtain ⟨hc1, hf1⟩ := bcell hb1; obtain ⟨hz1, hz2, hz3⟩ := sz3 hb1))
    all_goals
      first
      | exact bodyPost_ret (v := .agg #[.int .i64 (c + c'), .int .i64 (s + s'), .int .i64 lo, .int .i64 hi, .int .i64 t', .int .i64 l']) (by simp [results, Tryd.results58, go_sem, hc1, hz3]) rfl ⟨by rw [mn_l (show lo ≤ lo' by omega), mx_l (show hi' ≤ hi by omega)], (set6 ((Below.refl _ _).alloc (Nat.le_refl _) _ |>.alloc (by simp) _ |>.alloc (by simp; omega) _ |>.trans (hb1.mono (by simp; omega))) (by omega) _ _ _ _ _ _).alloc (by simp; omega) _⟩
      | exact bodyPost_ret (v := .agg #[.int .i64 (c + c'), .int .i64 (s + s'), .int .i64 lo, .int .i64 hi', .int .i64 t', .int .i64 l']) (by simp [results, Tryd.results58, go_sem, hc1, hz3]) rfl ⟨by rw [mn_l (show lo ≤ lo' by omega), mx_r (show hi ≤ hi' by omega)], (set6 ((Below.refl _ _).alloc (Nat.le_refl _) _ |>.alloc (by simp) _ |>.alloc (by simp; omega) _ |>.trans (hb1.mono (by simp; omega))) (by omega) _ _ _ _ _ _).alloc (by simp; omega) _⟩
      | exact bodyPost_ret (v := .agg #[.int .i64 (c + c'), .int .i64 (s + s'), .int .i64 lo', .int .i64 hi, .int .i64 t', .int .i64 l']) (by simp [results, Tryd.results58, go_sem, hc1, hz3]) rfl ⟨by rw [mn_r (show lo' ≤ lo by omega), mx_l (show hi' ≤ hi by omega)], (set6 ((Below.refl _ _).alloc (Nat.le_refl _) _ |>.alloc (by simp) _ |>.alloc (by simp; omega) _ |>.trans (hb1.mono (by simp; omega))) (by omega) _ _ _ _ _ _).alloc (by simp; omega) _⟩
      | exact bodyPost_ret (v := .agg #[.int .i64 (c + c'), .int .i64 (s + s'), .int .i64 lo', .int .i64 hi', .int .i64 t', .int .i64 l']) (by simp [results, Tryd.results58, go_sem, hc1, hz3]) rfl ⟨by rw [mn_r (show lo' ≤ lo by omega), mx_r (show hi ≤ hi' by omega)], (set6 ((Below.refl _ _).alloc (Nat.le_refl _) _ |>.alloc (by simp) _ |>.alloc (by simp; omega) _ |>.trans (hb1.mono (by simp; omega))) (by omega) _ _ _ _ _ _).alloc (by simp; omega) _⟩

end Go.Proofs.YtlojfgdpmaigmafDoor

/- What Merge of package roll does, where something is refused or one has no points. -/
namespace Go.Proofs.YtlojfgdpmaigmafDoor
open Go.RowKit Plain

set_option maxHeartbeats 1000000 in
theorem merge_bad1 (c s lo hi t l c' s' lo' hi' t' l' : Int) (w : World) (h : (checkC c s lo hi t l != 0) = true) :
    Calls Tryd.prog 43 #[.agg #[.int .i64 c, .int .i64 s, .int .i64 lo, .int .i64 hi, .int .i64 t, .int .i64 l], .agg #[.int .i64 c', .int .i64 s', .int .i64 lo', .int .i64 hi', .int .i64 t', .int .i64 l']] w fun e w' => e = .returned (.tuple #[.agg #[.int .i64 0, .int .i64 0, .int .i64 0, .int .i64 0, .int .i64 0, .int .i64 0], .int .i64 (checkC c s lo hi t l)]) ∧ Below w.heap.size w w' := by
  go_enter Tryd.func43, Tryd.ntmps43
  go_wp2_with (first | (go_at_call 50; refine (check_any _ _ _ _ _ _ _).mono ?_; rintro e w1 ⟨rfl, hb1⟩; obtain ⟨hc1, hf1⟩ := bcell hb1; obtain ⟨hz1, hz2, hz3⟩ := sz3 hb1))
  exact bodyPost_ret (v := .tuple #[.agg #[.int .i64 0, .int .i64 0, .int .i64 0, .int .i64 0, .int .i64 0, .int .i64 0], .int .i64 (checkC c s lo hi t l)]) (by simp [results, Tryd.results43, go_sem, hc1]) rfl ⟨rfl, set6 (up3 hb1) (by omega) _ _ _ _ _ _⟩

set_option maxHeartbeats 1000000 in
theorem merge_bad2 (c s lo hi t l c' s' lo' hi' t' l' : Int) (w : World) (h0 : checkC c s lo hi t l = 0) (h : (checkC c' s' lo' hi' t' l' != 0) = true) :
    Calls Tryd.prog 43 #[.agg #[.int .i64 c, .int .i64 s, .int .i64 lo, .int .i64 hi, .int .i64 t, .int .i64 l], .agg #[.int .i64 c', .int .i64 s', .int .i64 lo', .int .i64 hi', .int .i64 t', .int .i64 l']] w fun e w' => e = .returned (.tuple #[.agg #[.int .i64 0, .int .i64 0, .int .i64 0, .int .i64 0, .int .i64 0, .int .i64 0], .int .i64 (checkC c' s' lo' hi' t' l')]) ∧ Below w.heap.size w w' := by
  go_enter Tryd.func43, Tryd.ntmps43
  go_wp2_with fail
  refine (check_any _ _ _ _ _ _ _).mono ?_
  rintro e w1 ⟨rfl, hb1⟩
  obtain ⟨hc1, hf1⟩ := bcell hb1
  obtain ⟨hz1, hz2, hz3⟩ := sz3 hb1
  have hy1 := hb1.size
  go_wp2_with fail
  refine (check_any _ _ _ _ _ _ _).mono ?_
  rintro e w2 ⟨rfl, hb2⟩
  obtain ⟨hc2, hf2⟩ := bcell hb2
  go_wp2
  exact bodyPost_ret (v := .tuple #[.agg #[.int .i64 0, .int .i64 0, .int .i64 0, .int .i64 0, .int .i64 0, .int .i64 0], .int .i64 (checkC c' s' lo' hi' t' l')]) (by simp [results, Tryd.results43, go_sem, hc1, hc2, hz3]) rfl ⟨rfl, set6 (up (up3 hb1) hb2) (by omega) _ _ _ _ _ _⟩

set_option maxHeartbeats 1000000 in
theorem merge_none1 (s lo hi t l c' s' lo' hi' t' l' : Int) (w : World) (h0 : checkC 0 s lo hi t l = 0) (h : checkC c' s' lo' hi' t' l' = 0) :
    Calls Tryd.prog 43 #[.agg #[.int .i64 0, .int .i64 s, .int .i64 lo, .int .i64 hi, .int .i64 t, .int .i64 l], .agg #[.int .i64 c', .int .i64 s', .int .i64 lo', .int .i64 hi', .int .i64 t', .int .i64 l']] w fun e w' => e = .returned (.tuple #[.agg #[.int .i64 c', .int .i64 s', .int .i64 lo', .int .i64 hi', .int .i64 t', .int .i64 l'], .int .i64 0]) ∧ Below w.heap.size w w' := by
  go_enter Tryd.func43, Tryd.ntmps43
  go_wp2_with fail
  refine (check_any _ _ _ _ _ _ _).mono ?_
  rintro e w1 ⟨rfl, hb1⟩
  obtain ⟨hc1, hf1⟩ := bcell hb1
  obtain ⟨hz1, hz2, hz3⟩ := sz3 hb1
  have hy1 := hb1.size
  go_wp2_with fail
  refine (check_any _ _ _ _ _ _ _).mono ?_
  rintro e w2 ⟨rfl, hb2⟩
  obtain ⟨hc2, hf2⟩ := bcell hb2
  go_wp2
  exact bodyPost_ret (v := .tuple #[.agg #[.int .i64 c', .int .i64 s', .int .i64 lo', .int .i64 hi', .int .i64 t', .int .i64 l'], .int .i64 0]) (by simp [results, Tryd.results43, go_sem, hc1, hc2, hz3]) rfl ⟨rfl, set6 (up (up3 hb1) hb2) (by omega) _ _ _ _ _ _⟩

set_option maxHeartbeats 1000000 in
theorem merge_none2 (c s lo hi t l s' lo' hi' t' l' : Int) (w : World) (h0 : checkC c s lo hi t l = 0) (h : checkC 0 s' lo' hi' t' l' = 0) (hn : (c == 0) = false) :
    Calls Tryd.prog 43 #[.agg #[.int .i64 c, .int .i64 s, .int .i64 lo, .int .i64 hi, .int .i64 t, .int .i64 l], .agg #[.int .i64 0, .int .i64 s', .int .i64 lo', .int .i64 hi', .int .i64 t', .int .i64 l']] w fun e w' => e = .returned (.tuple #[.agg #[.int .i64 c, .int .i64 s, .int .i64 lo, .int .i64 hi, .int .i64 t, .int .i64 l], .int .i64 0]) ∧ Below w.heap.size w w' := by
  go_enter Tryd.func43, Tryd.ntmps43
  go_wp2_with fail
  refine (check_any _ _ _ _ _ _ _).mono ?_
  rintro e w1 ⟨rfl, hb1⟩
  obtain ⟨hc1, hf1⟩ := bcell hb1
  obtain ⟨hz1, hz2, hz3⟩ := sz3 hb1
  have hy1 := hb1.size
  go_wp2_with fail
  refine (check_any _ _ _ _ _ _ _).mono ?_
  rintro e w2 ⟨rfl, hb2⟩
  obtain ⟨hc2, hf2⟩ := bcell hb2
  go_wp2
  exact bodyPost_ret (v := .tuple #[.agg #[.int .i64 c, .int .i64 s, .int .i64 lo, .int .i64 hi, .int .i64 t, .int .i64 l], .int .i64 0]) (by simp [results, Tryd.results43, go_sem, hc1, hc2, hz3]) rfl ⟨rfl, set6 (up (up3 hb1) hb2) (by omega) _ _ _ _ _ _⟩

theorem check_bounds {c s lo hi t l : Int} (h : checkC c s lo hi t l = 0) : (0 ≤ c ∧ c ≤ 1073741824) ∧ (-1125899906842624 ≤ s ∧ s ≤ 1125899906842624) ∧ (0 ≤ t ∧ t ≤ 1048575) ∧ (-1000000 ≤ lo ∧ lo ≤ 1000000) ∧ (-1000000 ≤ hi ∧ hi ≤ 1000000) ∧ (-1000000 ≤ l ∧ l ≤ 1000000) := by
  unfold checkC at h
  by_cases hb : boundsB c s lo hi t l = true
  · simp only [boundsB, Bool.and_eq_true, inB_iff] at hb
    obtain ⟨⟨⟨⟨⟨h1, h2⟩, h3⟩, h4⟩, h5⟩, h6⟩ := hb
    exact ⟨h1, h2, h3, h4, h5, h6⟩
  · rw [if_neg hb] at h; omega

end Go.Proofs.YtlojfgdpmaigmafDoor

/- What Merge of package roll does with two that have points. -/
namespace Go.Proofs.YtlojfgdpmaigmafDoor
open Go.RowKit Plain

set_option maxHeartbeats 1000000 in
theorem merge_ok (c s lo hi t l c' s' lo' hi' t' l' : Int) (w : World) (h0 : checkC c s lo hi t l = 0) (h : checkC c' s' lo' hi' t' l' = 0) (hn : (c == 0) = false) (hn' : (c' == 0) = false) (k1 : inB (c + c') 0 1073741824 = true) (k2 : inB (s + s') (-1125899906842624) 1125899906842624 = true) :
    Calls Tryd.prog 43 #[.agg #[.int .i64 c, .int .i64 s, .int .i64 lo, .int .i64 hi, .int .i64 t, .int .i64 l], .agg #[.int .i64 c', .int .i64 s', .int .i64 lo', .int .i64 hi', .int .i64 t', .int .i64 l']] w fun e w' => e = .returned (.tuple #[.agg #[.int .i64 (c + c'), .int .i64 (s + s'), .int .i64 (mn lo lo'), .int .i64 (mx hi hi'), .int .i64 (pk (ltr t l t' l') t t'), .int .i64 (pk (ltr t l t' l') l l')], .int .i64 0]) ∧ Below w.heap.size w w' := by
  obtain ⟨⟨a1, a2⟩, ⟨a3, a4⟩, _⟩ := check_bounds h0
  obtain ⟨⟨b1, b2⟩, ⟨b3, b4⟩, _⟩ := check_bounds h
  go_enter Tryd.func43, Tryd.ntmps43
  go_wp2_with fail
  refine (check_any _ _ _ _ _ _ _).mono ?_
  rintro e w1 ⟨rfl, hb1⟩
  obtain ⟨hc1, hf1⟩ := bcell hb1
  obtain ⟨hz1, hz2, hz3⟩ := sz3 hb1
  have hy1 := hb1.size
  go_wp2_with fail
  refine (check_any _ _ _ _ _ _ _).mono ?_
  rintro e w2 ⟨rfl, hb2⟩
  obtain ⟨hc2, hf2⟩ := bcell hb2
  have hy2 := hb2.size
  go_wp2_with fail
  refine (together_any _ _ _ _ _ _ _ _ _ _ _ _ _ a1 a2 b1 b2 a3 a4 b3 b4).mono ?_
  rintro e w3 ⟨rfl, hb3⟩
  obtain ⟨hc3, hf3⟩ := bcell hb3
  have hy3 := hb3.size
  have hx2 : w.heap.size + 2 < w2.heap.size := by omega
  have hx3 : w.heap.size + 2 < w3.heap.size := by omega
  go_wp2_with (first | (go_at_call 59; refine (count_any _ _).mono ?_; rintro e w' ⟨rfl, rfl⟩) | (go_at_call 60; refine (sum_any _ _).mono ?_; rintro e w' ⟨rfl, rfl⟩))
  exact bodyPost_ret (v := .tuple #[.agg #[.int .i64 (c + c'), .int .i64 (s + s'), .int .i64 (mn lo lo'), .int .i64 (mx hi hi'), .int .i64 (pk (ltr t l t' l') t t'), .int .i64 (pk (ltr t l t' l') l l')], .int .i64 0]) (by simp [results, Tryd.results43, go_sem, hc1, hc2, hc3, hz3, hx2, hx3]) rfl ⟨rfl, (set6 (up (up (up3 hb1) hb2) hb3) (by omega) _ _ _ _ _ _).alloc (by simp; omega) _⟩

set_option maxHeartbeats 1000000 in
theorem merge_big1 (c s lo hi t l c' s' lo' hi' t' l' : Int) (w : World) (h0 : checkC c s lo hi t l = 0) (h : checkC c' s' lo' hi' t' l' = 0) (hn : (c == 0) = false) (hn' : (c' == 0) = false) (k1 : inB (c + c') 0 1073741824 = false) :
    Calls Tryd.prog 43 #[.agg #[.int .i64 c, .int .i64 s, .int .i64 lo, .int .i64 hi, .int .i64 t, .int .i64 l], .agg #[.int .i64 c', .int .i64 s', .int .i64 lo', .int .i64 hi', .int .i64 t', .int .i64 l']] w fun e w' => e = .returned (.tuple #[.agg #[.int .i64 0, .int .i64 0, .int .i64 0, .int .i64 0, .int .i64 0, .int .i64 0], .int .i64 1]) ∧ Below w.heap.size w w' := by
  obtain ⟨⟨a1, a2⟩, ⟨a3, a4⟩, _⟩ := check_bounds h0
  obtain ⟨⟨b1, b2⟩, ⟨b3, b4⟩, _⟩ := check_bounds h
  go_enter Tryd.func43, Tryd.ntmps43
  go_wp2_with fail
  refine (check_any _ _ _ _ _ _ _).mono ?_
  rintro e w1 ⟨rfl, hb1⟩
  obtain ⟨hc1, hf1⟩ := bcell hb1
  obtain ⟨hz1, hz2, hz3⟩ := sz3 hb1
  have hy1 := hb1.size
  go_wp2_with fail
  refine (check_any _ _ _ _ _ _ _).mono ?_
  rintro e w2 ⟨rfl, hb2⟩
  obtain ⟨hc2, hf2⟩ := bcell hb2
  have hy2 := hb2.size
  go_wp2_with fail
  refine (together_any _ _ _ _ _ _ _ _ _ _ _ _ _ a1 a2 b1 b2 a3 a4 b3 b4).mono ?_
  rintro e w3 ⟨rfl, hb3⟩
  obtain ⟨hc3, hf3⟩ := bcell hb3
  have hy3 := hb3.size
  have hx2 : w.heap.size + 2 < w2.heap.size := by omega
  have hx3 : w.heap.size + 2 < w3.heap.size := by omega
  go_wp2_with (first | (go_at_call 59; refine (count_any _ _).mono ?_; rintro e w' ⟨rfl, rfl⟩) | (go_at_call 60; refine (sum_any _ _).mono ?_; rintro e w' ⟨rfl, rfl⟩))
  exact bodyPost_ret (v := .tuple #[.agg #[.int .i64 0, .int .i64 0, .int .i64 0, .int .i64 0, .int .i64 0, .int .i64 0], .int .i64 1]) (by simp [results, Tryd.results43, go_sem, hc1, hc2, hc3, hz3, hx2, hx3]) rfl ⟨rfl, (set6 (up (up (up3 hb1) hb2) hb3) (by omega) _ _ _ _ _ _).alloc (by simp; omega) _⟩

set_option maxHeartbeats 1000000 in
theorem merge_big2 (c s lo hi t l c' s' lo' hi' t' l' : Int) (w : World) (h0 : checkC c s lo hi t l = 0) (h : checkC c' s' lo' hi' t' l' = 0) (hn : (c == 0) = false) (hn' : (c' == 0) = false) (k1 : inB (c + c') 0 1073741824 = true) (k2 : inB (s + s') (-1125899906842624) 1125899906842624 = false) :
    Calls Tryd.prog 43 #[.agg #[.int .i64 c, .int .i64 s, .int .i64 lo, .int .i64 hi, .int .i64 t, .int .i64 l], .agg #[.int .i64 c', .int .i64 s', .int .i64 lo', .int .i64 hi', .int .i64 t', .int .i64 l']] w fun e w' => e = .returned (.tuple #[.agg #[.int .i64 0, .int .i64 0, .int .i64 0, .int .i64 0, .int .i64 0, .int .i64 0], .int .i64 1]) ∧ Below w.heap.size w w' := by
  obtain ⟨⟨a1, a2⟩, ⟨a3, a4⟩, _⟩ := check_bounds h0
  obtain ⟨⟨b1, b2⟩, ⟨b3, b4⟩, _⟩ := check_bounds h
  go_enter Tryd.func43, Tryd.ntmps43
  go_wp2_with fail
  refine (check_any _ _ _ _ _ _ _).mono ?_
  rintro e w1 ⟨rfl, hb1⟩
  obtain ⟨hc1, hf1⟩ := bcell hb1
  obtain ⟨hz1, hz2, hz3⟩ := sz3 hb1
  have hy1 := hb1.size
  go_wp2_with fail
  refine (check_any _ _ _ _ _ _ _).mono ?_
  rintro e w2 ⟨rfl, hb2⟩
  obtain ⟨hc2, hf2⟩ := bcell hb2
  have hy2 := hb2.size
  go_wp2_with fail
  refine (together_any _ _ _ _ _ _ _ _ _ _ _ _ _ a1 a2 b1 b2 a3 a4 b3 b4).mono ?_
  rintro e w3 ⟨rfl, hb3⟩
  obtain ⟨hc3, hf3⟩ := bcell hb3
  have hy3 := hb3.size
  have hx2 : w.heap.size + 2 < w2.heap.size := by omega
  have hx3 : w.heap.size + 2 < w3.heap.size := by omega
  go_wp2_with (first | (go_at_call 59; refine (count_any _ _).mono ?_; rintro e w' ⟨rfl, rfl⟩) | (go_at_call 60; refine (sum_any _ _).mono ?_; rintro e w' ⟨rfl, rfl⟩))
  exact bodyPost_ret (v := .tuple #[.agg #[.int .i64 0, .int .i64 0, .int .i64 0, .int .i64 0, .int .i64 0, .int .i64 0], .int .i64 1]) (by simp [results, Tryd.results43, go_sem, hc1, hc2, hc3, hz3, hx2, hx3]) rfl ⟨rfl, (set6 (up (up (up3 hb1) hb2) hb3) (by omega) _ _ _ _ _ _).alloc (by simp; omega) _⟩

end Go.Proofs.YtlojfgdpmaigmafDoor

/- What the document's answer to Merge does, where something is refused or one has no points. -/
namespace Go.Proofs.YtlojfgdpmaigmafDoor
open Go.RowKit Plain

set_option maxHeartbeats 1000000 in
theorem rmerge_bad1 (c s lo hi t l c' s' lo' hi' t' l' : Int) (w : World) (h : (checkC c s lo hi t l != 0) = true) (h2 : (checkC c s lo hi t l == 0) = false) :
    Calls Tryd.prog 61 #[.agg #[.int .i64 c, .int .i64 s, .int .i64 lo, .int .i64 hi, .int .i64 t, .int .i64 l], .agg #[.int .i64 c', .int .i64 s', .int .i64 lo', .int .i64 hi', .int .i64 t', .int .i64 l']] w fun e w' => e = .returned (.tuple #[.agg #[.int .i64 0, .int .i64 0, .int .i64 0, .int .i64 0, .int .i64 0, .int .i64 0], .int .i64 (checkC c s lo hi t l)]) ∧ Below w.heap.size w w' := by
  go_enter Tryd.func61, Tryd.ntmps61
  go_wp2_with fail
  refine (fault_any _ _ _ _ _ _ _).mono ?_
  rintro e w1 ⟨rfl, hb1⟩
  obtain ⟨hc1, hf1⟩ := bcell hb1
  obtain ⟨hz1, hz2, hz3⟩ := sz3 hb1
  go_wp2
  exact bodyPost_ret (v := .tuple #[.agg #[.int .i64 0, .int .i64 0, .int .i64 0, .int .i64 0, .int .i64 0, .int .i64 0], .int .i64 (checkC c s lo hi t l)]) (by simp [results, Tryd.results61, go_sem, hc1]) rfl ⟨rfl, set6 (up3 hb1) (by omega) _ _ _ _ _ _⟩

set_option maxHeartbeats 1000000 in
theorem rmerge_bad2 (c s lo hi t l c' s' lo' hi' t' l' : Int) (w : World) (h0 : checkC c s lo hi t l = 0) (h : (checkC c' s' lo' hi' t' l' != 0) = true) :
    Calls Tryd.prog 61 #[.agg #[.int .i64 c, .int .i64 s, .int .i64 lo, .int .i64 hi, .int .i64 t, .int .i64 l], .agg #[.int .i64 c', .int .i64 s', .int .i64 lo', .int .i64 hi', .int .i64 t', .int .i64 l']] w fun e w' => e = .returned (.tuple #[.agg #[.int .i64 0, .int .i64 0, .int .i64 0, .int .i64 0, .int .i64 0, .int .i64 0], .int .i64 (checkC c' s' lo' hi' t' l')]) ∧ Below w.heap.size w w' := by
  go_enter Tryd.func61, Tryd.ntmps61
  go_wp2_with fail
  refine (fault_any _ _ _ _ _ _ _).mono ?_
  rintro e w1 ⟨rfl, hb1⟩
  obtain ⟨hc1, hf1⟩ := bcell hb1
  obtain ⟨hz1, hz2, hz3⟩ := sz3 hb1
  have hy1 := hb1.size
  go_wp2_with fail
  refine (fault_any _ _ _ _ _ _ _).mono ?_
  rintro e w2 ⟨rfl, hb2⟩
  obtain ⟨hc2, hf2⟩ := bcell hb2
  go_wp2
  exact bodyPost_ret (v := .tuple #[.agg #[.int .i64 0, .int .i64 0, .int .i64 0, .int .i64 0, .int .i64 0, .int .i64 0], .int .i64 (checkC c' s' lo' hi' t' l')]) (by simp [results, Tryd.results61, go_sem, hc1, hc2, hz3]) rfl ⟨rfl, set6 (up (up3 hb1) hb2) (by omega) _ _ _ _ _ _⟩

set_option maxHeartbeats 1000000 in
theorem rmerge_none1 (s lo hi t l c' s' lo' hi' t' l' : Int) (w : World) (h0 : checkC 0 s lo hi t l = 0) (h : checkC c' s' lo' hi' t' l' = 0) (hn : (c' == 0) = false) :
    Calls Tryd.prog 61 #[.agg #[.int .i64 0, .int .i64 s, .int .i64 lo, .int .i64 hi, .int .i64 t, .int .i64 l], .agg #[.int .i64 c', .int .i64 s', .int .i64 lo', .int .i64 hi', .int .i64 t', .int .i64 l']] w fun e w' => e = .returned (.tuple #[.agg #[.int .i64 c', .int .i64 s', .int .i64 lo', .int .i64 hi', .int .i64 t', .int .i64 l'], .int .i64 0]) ∧ Below w.heap.size w w' := by
  go_enter Tryd.func61, Tryd.ntmps61
  go_wp2_with fail
  refine (fault_any _ _ _ _ _ _ _).mono ?_
  rintro e w1 ⟨rfl, hb1⟩
  obtain ⟨hc1, hf1⟩ := bcell hb1
  obtain ⟨hz1, hz2, hz3⟩ := sz3 hb1
  have hy1 := hb1.size
  go_wp2_with fail
  refine (fault_any _ _ _ _ _ _ _).mono ?_
  rintro e w2 ⟨rfl, hb2⟩
  obtain ⟨hc2, hf2⟩ := bcell hb2
  go_wp2
  exact bodyPost_ret (v := .tuple #[.agg #[.int .i64 c', .int .i64 s', .int .i64 lo', .int .i64 hi', .int .i64 t', .int .i64 l'], .int .i64 0]) (by simp [results, Tryd.results61, go_sem, hc1, hc2, hz3]) rfl ⟨rfl, set6 (up (up3 hb1) hb2) (by omega) _ _ _ _ _ _⟩

set_option maxHeartbeats 1000000 in
theorem rmerge_none2 (c s lo hi t l s' lo' hi' t' l' : Int) (w : World) (h0 : checkC c s lo hi t l = 0) (h : checkC 0 s' lo' hi' t' l' = 0) :
    Calls Tryd.prog 61 #[.agg #[.int .i64 c, .int .i64 s, .int .i64 lo, .int .i64 hi, .int .i64 t, .int .i64 l], .agg #[.int .i64 0, .int .i64 s', .int .i64 lo', .int .i64 hi', .int .i64 t', .int .i64 l']] w fun e w' => e = .returned (.tuple #[.agg #[.int .i64 c, .int .i64 s, .int .i64 lo, .int .i64 hi, .int .i64 t, .int .i64 l], .int .i64 0]) ∧ Below w.heap.size w w' := by
  go_enter Tryd.func61, Tryd.ntmps61
  go_wp2_with fail
  refine (fault_any _ _ _ _ _ _ _).mono ?_
  rintro e w1 ⟨rfl, hb1⟩
  obtain ⟨hc1, hf1⟩ := bcell hb1
  obtain ⟨hz1, hz2, hz3⟩ := sz3 hb1
  have hy1 := hb1.size
  go_wp2_with fail
  refine (fault_any _ _ _ _ _ _ _).mono ?_
  rintro e w2 ⟨rfl, hb2⟩
  obtain ⟨hc2, hf2⟩ := bcell hb2
  go_wp2
  exact bodyPost_ret (v := .tuple #[.agg #[.int .i64 c, .int .i64 s, .int .i64 lo, .int .i64 hi, .int .i64 t, .int .i64 l], .int .i64 0]) (by simp [results, Tryd.results61, go_sem, hc1, hc2, hz3]) rfl ⟨rfl, set6 (up (up3 hb1) hb2) (by omega) _ _ _ _ _ _⟩

end Go.Proofs.YtlojfgdpmaigmafDoor

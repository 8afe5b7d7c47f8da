/- What the document's answer to Merge does with two that have points. -/
import Derived.Test.YtlojfgdpmaigmafDoorP23
namespace Go.Proofs.YtlojfgdpmaigmafDoor
open Go.RowKit Plain

set_option maxHeartbeats 1000000 in
theorem rmerge_big2_1 (c s lo hi t l c' s' lo' hi' t' l' : Int) (w : World) (h0 : checkC c s lo hi t l = 0) (h : checkC c' s' lo' hi' t' l' = 0) (hn : (c == 0) = false) (hn' : (c' == 0) = false) (hz : t < t') (k1 : c + c' ≤ 1073741824) (k2 : inB (s + s') (-1125899906842624) 1125899906842624 = false) :
    Calls Tryd.prog 61 #[.agg #[.int .i64 c, .int .i64 s, .int .i64 lo, .int .i64 hi, .int .i64 t, .int .i64 l], .agg #[.int .i64 c', .int .i64 s', .int .i64 lo', .int .i64 hi', .int .i64 t', .int .i64 l']] w fun e w' => e = .returned (.tuple #[.agg #[.int .i64 0, .int .i64 0, .int .i64 0, .int .i64 0, .int .i64 0, .int .i64 0], .int .i64 1]) ∧ Below w.heap.size w w' := by
  obtain ⟨⟨a1, a2⟩, ⟨a3, a4⟩, _⟩ := check_bounds h0
  obtain ⟨⟨b1, b2⟩, ⟨b3, b4⟩, _⟩ := check_bounds h
  go_enter Tryd.func61, Tryd.ntmps61
  go_wp2_with fail
  refine (fault_any _ _ _ _ _ _ _).mono ?_
  rintro e w1 ⟨rfl, hb1⟩
  obtain ⟨hc1, hf1⟩ := bcell hb1
  obtain ⟨hz1, hz2, hz3⟩ := sz3 hb1
  have hy1 := hb1.size
  go_wp2_with fail
  refine (fault_any _ _ _ _ _ _ _).mono ?_
  rintro e w2 ⟨rfl, hb2⟩
  obtain ⟨hc2, hf2⟩ := bcell hb2
  have hy2 := hb2.size
  have hx1 : w.heap.size < w2.heap.size ∧ w.heap.size + 1 < w2.heap.size ∧ w.heap.size + 2 < w2.heap.size := by omega
  obtain ⟨hx1, hx2, hx3⟩ := hx1
  go_wp2_with (first | (go_at_call 26; refine (in_any _ _ _ _).mono ?_; rintro e w' ⟨rfl, rfl⟩))
  all_goals exact bodyPost_ret (v := .tuple #[.agg #[.int .i64 0, .int .i64 0, .int .i64 0, .int .i64 0, .int .i64 0, .int .i64 0], .int .i64 1]) (by simp [results, Tryd.results61, go_sem, hc1, hc2, hz3, hx3]) rfl ⟨rfl, (set6 (up (up3 hb1) hb2) (by omega) _ _ _ _ _ _).alloc (by simp; omega) _⟩

set_option maxHeartbeats 1000000 in
theorem rmerge_big2_2 (c s lo hi t l c' s' lo' hi' l' : Int) (w : World) (h0 : checkC c s lo hi t l = 0) (h : checkC c' s' lo' hi' t l' = 0) (hn : (c == 0) = false) (hn' : (c' == 0) = false) (hz : l < l') (k1 : c + c' ≤ 1073741824) (k2 : inB (s + s') (-1125899906842624) 1125899906842624 = false) :
    Calls Tryd.prog 61 #[.agg #[.int .i64 c, .int .i64 s, .int .i64 lo, .int .i64 hi, .int .i64 t, .int .i64 l], .agg #[.int .i64 c', .int .i64 s', .int .i64 lo', .int .i64 hi', .int .i64 t, .int .i64 l']] w fun e w' => e = .returned (.tuple #[.agg #[.int .i64 0, .int .i64 0, .int .i64 0, .int .i64 0, .int .i64 0, .int .i64 0], .int .i64 1]) ∧ Below w.heap.size w w' := by
  obtain ⟨⟨a1, a2⟩, ⟨a3, a4⟩, _⟩ := check_bounds h0
  obtain ⟨⟨b1, b2⟩, ⟨b3, b4⟩, _⟩ := check_bounds h
  go_enter Tryd.func61, Tryd.ntmps61
  go_wp2_with fail
  refine (fault_any _ _ _ _ _ _ _).mono ?_
  rintro e w1 ⟨rfl, hb1⟩
  obtain ⟨hc1, hf1⟩ := bcell hb1
  obtain ⟨hz1, hz2, hz3⟩ := sz3 hb1
  have hy1 := hb1.size
  go_wp2_with fail
  refine (fault_any _ _ _ _ _ _ _).mono ?_
  rintro e w2 ⟨rfl, hb2⟩
  obtain ⟨hc2, hf2⟩ := bcell hb2
  have hy2 := hb2.size
  have hx1 : w.heap.size < w2.heap.size ∧ w.heap.size + 1 < w2.heap.size ∧ w.heap.size + 2 < w2.heap.size := by omega
  obtain ⟨hx1, hx2, hx3⟩ := hx1
  go_wp2_with (first | (go_at_call 26; refine (in_any _ _ _ _).mono ?_; rintro e w' ⟨rfl, rfl⟩))
  all_goals exact bodyPost_ret (v := .tuple #[.agg #[.int .i64 0, .int .i64 0, .int .i64 0, .int .i64 0, .int .i64 0, .int .i64 0], .int .i64 1]) (by simp [results, Tryd.results61, go_sem, hc1, hc2, hz3, hx3]) rfl ⟨rfl, (set6 (up (up3 hb1) hb2) (by omega) _ _ _ _ _ _).alloc (by simp; omega) _⟩

set_option maxHeartbeats 1000000 in
theorem rmerge_big2_3 (c s lo hi t l c' s' lo' hi' l' : Int) (w : World) (h0 : checkC c s lo hi t l = 0) (h : checkC c' s' lo' hi' t l' = 0) (hn : (c == 0) = false) (hn' : (c' == 0) = false) (hz : l' ≤ l) (k1 : c + c' ≤ 1073741824) (k2 : inB (s + s') (-1125899906842624) 1125899906842624 = false) :
    Calls Tryd.prog 61 #[.agg #[.int .i64 c, .int .i64 s, .int .i64 lo, .int .i64 hi, .int .i64 t, .int .i64 l], .agg #[.int .i64 c', .int .i64 s', .int .i64 lo', .int .i64 hi', .int .i64 t, .int .i64 l']] w fun e w' => e = .returned (.tuple #[.agg #[.int .i64 0, .int .i64 0, .int .i64 0, .int .i64 0, .int .i64 0, .int .i64 0], .int .i64 1]) ∧ Below w.heap.size w w' := by
  obtain ⟨⟨a1, a2⟩, ⟨a3, a4⟩, _⟩ := check_bounds h0
  obtain ⟨⟨b1, b2⟩, ⟨b3, b4⟩, _⟩ := check_bounds h
  go_enter Tryd.func61, Tryd.ntmps61
  go_wp2_with fail
  refine (fault_any _ _ _ _ _ _ _).mono ?_
  rintro e w1 ⟨rfl, hb1⟩
  obtain ⟨hc1, hf1⟩ := bcell hb1
  obtain ⟨hz1, hz2, hz3⟩ := sz3 hb1
  have hy1 := hb1.size
  go_wp2_with fail
  refine (fault_any _ _ _ _ _ _ _).mono ?_
  rintro e w2 ⟨rfl, hb2⟩
  obtain ⟨hc2, hf2⟩ := bcell hb2
  have hy2 := hb2.size
  have hx1 : w.heap.size < w2.heap.size ∧ w.heap.size + 1 < w2.heap.size ∧ w.heap.size + 2 < w2.heap.size := by omega
  obtain ⟨hx1, hx2, hx3⟩ := hx1
  go_wp2_with (first | (go_at_call 26; refine (in_any _ _ _ _).mono ?_; rintro e w' ⟨rfl, rfl⟩))
  all_goals exact bodyPost_ret (v := .tuple #[.agg #[.int .i64 0, .int .i64 0, .int .i64 0, .int .i64 0, .int .i64 0, .int .i64 0], .int .i64 1]) (by simp [results, Tryd.results61, go_sem, hc1, hc2, hz3, hx3]) rfl ⟨rfl, (set6 (up (up3 hb1) hb2) (by omega) _ _ _ _ _ _).alloc (by simp; omega) _⟩

set_option maxHeartbeats 1000000 in
theorem rmerge_big2_4 (c s lo hi t l c' s' lo' hi' t' l' : Int) (w : World) (h0 : checkC c s lo hi t l = 0) (h : checkC c' s' lo' hi' t' l' = 0) (hn : (c == 0) = false) (hn' : (c' == 0) = false) (hz : t' < t) (k1 : c + c' ≤ 1073741824) (k2 : inB (s + s') (-1125899906842624) 1125899906842624 = false) :
    Calls Tryd.prog 61 #[.agg #[.int .i64 c, .int .i64 s, .int .i64 lo, .int .i64 hi, .int .i64 t, .int .i64 l], .agg #[.int .i64 c', .int .i64 s', .int .i64 lo', .int .i64 hi', .int .i64 t', .int .i64 l']] w fun e w' => e = .returned (.tuple #[.agg #[.int .i64 0, .int .i64 0, .int .i64 0, .int .i64 0, .int .i64 0, .int .i64 0], .int .i64 1]) ∧ Below w.heap.size w w' := by
  obtain ⟨⟨a1, a2⟩, ⟨a3, a4⟩, _⟩ := check_bounds h0
  obtain ⟨⟨b1, b2⟩, ⟨b3, b4⟩, _⟩ := check_bounds h
  go_enter Tryd.func61, Tryd.ntmps61
  go_wp2_with fail
  refine (fault_any _ _ _ _ _ _ _).mono ?_
  rintro e w1 ⟨rfl, hb1⟩
  obtain ⟨hc1, hf1⟩ := bcell hb1
  obtain ⟨hz1, hz2, hz3⟩ := sz3 hb1
  have hy1 := hb1.size
  go_wp2_with fail
  refine (fault_any _ _ _ _ _ _ _).mono ?_
  rintro e w2 ⟨rfl, hb2⟩
  obtain ⟨hc2, hf2⟩ := bcell hb2
  have hy2 := hb2.size
  have hx1 : w.heap.size < w2.heap.size ∧ w.heap.size + 1 < w2.heap.size ∧ w.heap.size + 2 < w2.heap.size := by omega
  obtain ⟨hx1, hx2, hx3⟩ := hx1
  go_wp2_with (first | (go_at_call 26; refine (in_any _ _ _ _).mono ?_; rintro e w' ⟨rfl, rfl⟩))
  all_goals exact bodyPost_ret (v := .tuple #[.agg #[.int .i64 0, .int .i64 0, .int .i64 0, .int .i64 0, .int .i64 0, .int .i64 0], .int .i64 1]) (by simp [results, Tryd.results61, go_sem, hc1, hc2, hz3, hx3]) rfl ⟨rfl, (set6 (up (up3 hb1) hb2) (by omega) _ _ _ _ _ _).alloc (by simp; omega) _⟩

end Go.Proofs.YtlojfgdpmaigmafDoor

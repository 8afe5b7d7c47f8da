/- What the document's answer to Merge does, where something is refused or one has no points. -/
import Derived.Test.YtlojfgdpmaigmadDoorP05
namespace Go.Proofs.YtlojfgdpmaigmadDoor
open Go.RowKit Plain

set_option maxHeartbeats 1000000 in
theorem rmerge_bad1 (c s lo hi t l c' s' lo' hi' t' l' : Int) (w : World) (h : (checkC c s lo hi t l != 0) = true) (h2 : (checkC c s lo hi t l == 0) = false) :
    Calls Tryd.prog 34 #[.agg #[.int .i64 c, .int .i64 s, .int .i64 lo, .int .i64 hi, .int .i64 t, .int .i64 l], .agg #[.int .i64 c', .int .i64 s', .int .i64 lo', .int .i64 hi', .int .i64 t', .int .i64 l']] w fun e w' => e = .returned (.tuple #[.agg #[.int .i64 0, .int .i64 0, .int .i64 0, .int .i64 0, .int .i64 0, .int .i64 0], .int .i64 (checkC c s lo hi t l)]) ∧ Below w.heap.size w w' := by
  go_enter Tryd.func34, Tryd.ntmps34
  go_wp2_with fail
  refine (fault_any _ _ _ _ _ _ _).mono ?_
  rintro e w1 ⟨rfl, hb1⟩
  obtain ⟨hc1, hf1⟩ := bcell hb1
  obtain ⟨hz1, hz2, hz3⟩ := sz3 hb1
  go_wp2
  exact bodyPost_ret (v := .tuple #[.agg #[.int .i64 0, .int .i64 0, .int .i64 0, .int .i64 0, .int .i64 0, .int .i64 0], .int .i64 (checkC c s lo hi t l)]) (by simp [results, Tryd.results34, go_sem, hc1]) rfl ⟨rfl, set6 (up3 hb1) (by omega) _ _ _ _ _ _⟩

set_option maxHeartbeats 1000000 in
theorem rmerge_bad2 (c s lo hi t l c' s' lo' hi' t' l' : Int) (w : World) (h0 : checkC c s lo hi t l = 0) (h : (checkC c' s' lo' hi' t' l' != 0) = true) :
    Calls Tryd.prog 34 #[.agg #[.int .i64 c, .int .i64 s, .int .i64 lo, .int .i64 hi, .int .i64 t, .int .i64 l], .agg #[.int .i64 c', .int .i64 s', .int .i64 lo', .int .i64 hi', .int .i64 t', .int .i64 l']] w fun e w' => e = .returned (.tuple #[.agg #[.int .i64 0, .int .i64 0, .int .i64 0, .int .i64 0, .int .i64 0, .int .i64 0], .int .i64 (checkC c' s' lo' hi' t' l')]) ∧ Below w.heap.size w w' := by
  go_enter Tryd.func34, Tryd.ntmps34
  go_wp2_with fail
  refine (fault_any _ _ _ _ _ _ _).mono ?_
  rintro e w1 ⟨rfl, hb1⟩
  obtain ⟨hc1, hf1⟩ := bcell hb1
  obtain ⟨hz1, hz2, hz3⟩ := sz3 hb1
  have hy1 := hb1.size
  go_wp2_with fail
  refine (fault_any _ _ _ _ _ _ _).mono ?_
  rintro e w2 ⟨rfl, hb2⟩
  obtain ⟨hc2, hf2⟩ := bcell hb2
  go_wp2
  exact bodyPost_ret (v := .tuple #[.agg #[.int .i64 0, .int .i64 0, .int .i64 0, .int .i64 0, .int .i64 0, .int .i64 0], .int .i64 (checkC c' s' lo' hi' t' l')]) (by simp [results, Tryd.results34, go_sem, hc1, hc2, hz3]) rfl ⟨rfl, set6 (up (up3 hb1) hb2) (by omega) _ _ _ _ _ _⟩

set_option maxHeartbeats 1000000 in
theorem rmerge_none1 (s lo hi t l c' s' lo' hi' t' l' : Int) (w : World) (h0 : checkC 0 s lo hi t l = 0) (h : checkC c' s' lo' hi' t' l' = 0) (hn : (c' == 0) = false) :
    Calls Tryd.prog 34 #[.agg #[.int .i64 0, .int .i64 s, .int .i64 lo, .int .i64 hi, .int .i64 t, .int .i64 l], .agg #[.int .i64 c', .int .i64 s', .int .i64 lo', .int .i64 hi', .int .i64 t', .int .i64 l']] w fun e w' => e = .returned (.tuple #[.agg #[.int .i64 c', .int .i64 s', .int .i64 lo', .int .i64 hi', .int .i64 t', .int .i64 l'], .int .i64 0]) ∧ Below w.heap.size w w' := by
  go_enter Tryd.func34, Tryd.ntmps34
  go_wp2_with fail
  refine (fault_any _ _ _ _ _ _ _).mono ?_
  rintro e w1 ⟨rfl, hb1⟩
  obtain ⟨hc1, hf1⟩ := bcell hb1
  obtain ⟨hz1, hz2, hz3⟩ := sz3 hb1
  have hy1 := hb1.size
  go_wp2_with fail
  refine (fault_any _ _ _ _ _ _ _).mono ?_
  rintro e w2 ⟨rfl, hb2⟩
  obtain ⟨hc2, hf2⟩ := bcell hb2
  go_wp2
  exact bodyPost_ret (v := .tuple #[.agg #[.int .i64 c', .int .i64 s', .int .i64 lo', .int .i64 hi', .int .i64 t', .int .i64 l'], .int .i64 0]) (by simp [results, Tryd.results34, go_sem, hc1, hc2, hz3]) rfl ⟨rfl, set6 (up (up3 hb1) hb2) (by omega) _ _ _ _ _ _⟩

set_option maxHeartbeats 1000000 in
theorem rmerge_none2 (c s lo hi t l s' lo' hi' t' l' : Int) (w : World) (h0 : checkC c s lo hi t l = 0) (h : checkC 0 s' lo' hi' t' l' = 0) :
    Calls Tryd.prog 34 #[.agg #[.int .i64 c, .int .i64 s, .int .i64 lo, .int .i64 hi, .int .i64 t, .int .i64 l], .agg #[.int .i64 0, .int .i64 s', .int .i64 lo', .int .i64 hi', .int .i64 t', .int .i64 l']] w fun e w' => e = .returned (.tuple #[.agg #[.int .i64 c, .int .i64 s, .int .i64 lo, .int .i64 hi, .int .i64 t, .int .i64 l], .int .i64 0]) ∧ Below w.heap.size w w' := by
  go_enter Tryd.func34, Tryd.ntmps34
  go_wp2_with fail
  refine (fault_any _ _ _ _ _ _ _).mono ?_
  rintro e w1 ⟨rfl, hb1⟩
  obtain ⟨hc1, hf1⟩ := bcell hb1
  obtain ⟨hz1, hz2, hz3⟩ := sz3 hb1
  have hy1 := hb1.size
  go_wp2_with fail
  refine (fault_any _ _ _ _ _ _ _).mono ?_
  rintro e w2 ⟨rfl, hb2⟩
  obtain ⟨hc2, hf2⟩ := bcell hb2
  go_wp2
  exact bodyPost_ret (v := .tuple #[.agg #[.int .i64 c, .int .i64 s, .int .i64 lo, .int .i64 hi, .int .i64 t, .int .i64 l], .int .i64 0]) (by simp [results, Tryd.results34, go_sem, hc1, hc2, hz3]) rfl ⟨rfl, set6 (up (up3 hb1) hb2) (by omega) _ _ _ _ _ _⟩

end Go.Proofs.YtlojfgdpmaigmadDoor

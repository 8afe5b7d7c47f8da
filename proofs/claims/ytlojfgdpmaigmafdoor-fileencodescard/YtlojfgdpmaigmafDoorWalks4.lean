/- What Check of package roll, and the document's answer to it, do. -/
import Derived.Test.YtlojfgdpmaigmafDoorP07
import Derived.Deep.Light
namespace Go.Proofs.YtlojfgdpmaigmafDoor
open Go.RowKit Plain

theorem bcell {W w1 : World} (hb : Below W.heap.size W w1) : (∀ b o, b < W.heap.size → w1.cell? ⟨b, o, none⟩ = W.cell? ⟨b, o, none⟩) ∧ (∀ b o, b < W.heap.size → w1.frozen? ⟨b, o, none⟩ = W.frozen? ⟨b, o, none⟩) :=
  ⟨fun b o h => hb.cell (p := ⟨b, o, none⟩) h, fun b o h => hb.frozen (p := ⟨b, o, none⟩) h⟩

theorem ret_int {k : IntKind} {a b : Int} (h : a = b) : Ending.returned (.int k a) = .returned (.int k b) := by rw [h]

def checkC (c s lo hi t l : Int) : Int := if boundsB c s lo hi t l = true then (if formB c s lo hi t l = true then 0 else 4) else 2

set_option maxHeartbeats 400000 in
theorem check_any (c s lo hi t l : Int) (w : World) :
    Calls Tryd.prog 50 #[.agg #[.int .i64 c, .int .i64 s, .int .i64 lo, .int .i64 hi, .int .i64 t, .int .i64 l]] w fun e w' => e = .returned (.int .i64 (checkC c s lo hi t l)) ∧ Below w.heap.size w w' := by
  by_cases h1 : boundsB c s lo hi t l = true
  · by_cases h2 : formB c s lo hi t l = true
    · have E0 : Hid (checkC c s lo hi t l = 0) := by simp [Hid, checkC, h1, h2]
      go_enter Tryd.func50, Tryd.ntmps50
      go_wp2_with (first | (go_at_call 63; refine (inBounds_any _ _ _ _ _ _ _).mono ?_; rintro e w1 ⟨rfl, hb1⟩; obtain ⟨hc1, hf1⟩ := bcell hb1) | (go_at_call 64; refine (inForm_any _ _ _ _ _ _ _).mono ?_; rintro e w2 ⟨rfl, hb2⟩))
      go_ret
      exact ⟨by rw [E0.out]; rfl, (((Below.refl _ _).alloc (Nat.le_refl _) _).trans (hb1.mono (by simp))).trans (hb2.mono (by have := hb1.size; simp at this; omega))⟩
    · have E0 : Hid (checkC c s lo hi t l = 4) := by simp [Hid, checkC, h1, h2]
      have h2 : formB c s lo hi t l = false := by simpa using h2
      go_enter Tryd.func50, Tryd.ntmps50
      go_wp2_with (first | (go_at_call 63; refine (inBounds_any _ _ _ _ _ _ _).mono ?_; rintro e w1 ⟨rfl, hb1⟩; obtain ⟨hc1, hf1⟩ := bcell hb1) | (go_at_call 64; refine (inForm_any _ _ _ _ _ _ _).mono ?_; rintro e w2 ⟨rfl, hb2⟩))
      go_ret
      exact ⟨by rw [E0.out]; rfl, (((Below.refl _ _).alloc (Nat.le_refl _) _).trans (hb1.mono (by simp))).trans (hb2.mono (by have := hb1.size; simp at this; omega))⟩
  · have E0 : Hid (checkC c s lo hi t l = 2) := by simp [Hid, checkC, h1]
    have h1 : boundsB c s lo hi t l = false := by simpa using h1
    go_enter Tryd.func50, Tryd.ntmps50
    go_wp2_with (first | (go_at_call 63; refine (inBounds_any _ _ _ _ _ _ _).mono ?_; rintro e w1 ⟨rfl, hb1⟩))
    go_ret
    exact ⟨by rw [E0.out]; rfl, (((Below.refl _ _).alloc (Nat.le_refl _) _).trans (hb1.mono (by simp)))⟩

set_option maxHeartbeats 1000000 in
theorem fault_any (c s lo hi t l : Int) (w : World) :
    Calls Tryd.prog 78 #[.agg #[.int .i64 c, .int .i64 s, .int .i64 lo, .int .i64 hi, .int .i64 t, .int .i64 l]] w fun e w' => e = .returned (.int .i64 (checkC c s lo hi t l)) ∧ Below w.heap.size w w' := by
  by_cases h0 : c = 0
  · subst h0
    go_enter Tryd.func78, Tryd.ntmps78
    go_wp2_with (first | (go_at_call 26; refine (in_any _ _ _ _).mono ?_; rintro e w' ⟨rfl, rfl⟩))
    all_goals
      go_ret
      refine ⟨ret_int ?_, (Below.refl _ _).alloc (Nat.le_refl _) _⟩
      go_light
      simp_all [checkC, boundsB, formB, eqR]
  · have h0' : (c == 0) = false := by simpa using h0
    have E0 : Hid (¬ c = 0) := h0
    clear h0
    go_enter Tryd.func78, Tryd.ntmps78
    go_wp2_with (first | (go_at_call 26; refine (in_any _ _ _ _).mono ?_; rintro e w' ⟨rfl, rfl⟩))
    all_goals
      go_ret
      refine ⟨ret_int ?_, (Below.refl _ _).alloc (Nat.le_refl _) _⟩
      have E1 := E0.out
      clear E0
      go_light
      simp_all [checkC, boundsB, formB]

end Go.Proofs.YtlojfgdpmaigmafDoor

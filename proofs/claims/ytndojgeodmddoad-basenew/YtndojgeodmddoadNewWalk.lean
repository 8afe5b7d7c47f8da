/- What the document says of a new tree: the functions of its answer, at an empty leaf. -/
import Derived.Test.YtndojgeodmddoadWalks
import Derived.Test.YtndojgeodmddoadAid
import Derived.Handy
import Derived.Deep.OwnRows
import Derived.Deep.Light
namespace Go.Proofs.Ytndojgeodmddoad
open Go.RowKit Plain

set_option maxHeartbeats 400000 in
theorem entriesMay_none (lo hi : Int) (w : World) :
    Calls Try.prog 32 #[.slice none 0 0, .int .i64 lo, .int .i64 hi] w fun e w' => e = .returned (.bool true) ∧ w' = w := by
  go_enter Try.func32, Try.ntmps32
  go_wp2_with fail
  go_rounds 1
  go_ret
  exact ⟨rfl, rfl⟩

set_option maxHeartbeats 400000 in
theorem sameEntries_none (w : World) :
    Calls Try.prog 24 #[.slice none 0 0, .slice none 0 0] w fun e w' => e = .returned (.bool true) ∧ w' = w := by
  go_enter Try.func24, Try.ntmps24
  go_wp2_with fail
  go_rounds 1
  go_ret
  exact ⟨rfl, rfl⟩

structure NewAt (w : World) (g : Nat) : Prop where
  c0 : w.cell? ⟨g, 0, none⟩ = some (.bool true)
  c1 : w.cell? ⟨g, 1, none⟩ = some (.slice none 0 0)
  c2 : w.cell? ⟨g, 2, none⟩ = some (.slice none 0 0)
  c3 : w.cell? ⟨g, 3, none⟩ = some (.slice none 0 0)
  c4 : w.cell? ⟨g, 4, none⟩ = some (.slice none 0 0)
  lt : g < w.heap.size

theorem NewAt.below {B g : Nat} {w w' : World} (h : NewAt w g) (hb : Below B w w') (hg : g < B) : NewAt w' g :=
  ⟨(hb.cell (p := ⟨g, 0, none⟩) hg).trans h.c0, (hb.cell (p := ⟨g, 1, none⟩) hg).trans h.c1, (hb.cell (p := ⟨g, 2, none⟩) hg).trans h.c2, (hb.cell (p := ⟨g, 3, none⟩) hg).trans h.c3, (hb.cell (p := ⟨g, 4, none⟩) hg).trans h.c4, Nat.lt_of_lt_of_le h.lt hb.size⟩

theorem NewAt.alloc {g : Nat} {w : World} (h : NewAt w g) (o : Obj) : NewAt (w.alloc o) g :=
  h.below ((Below.refl w.heap.size w).alloc (Nat.le_refl _) o) h.lt

set_option maxRecDepth 20000 in
set_option maxHeartbeats 1000000 in
theorem height_new (g s : Nat) (w : World) (hn : NewAt w g) (hs : s < w.heap.size) (hgs : g < s) (h0 : w.cell? ⟨s, 0, none⟩ = some (.int .i64 0)) (hf : w.frozen? ⟨s, 0, none⟩ = false) :
    Calls Try.prog 30 #[.agg #[.slice (some ⟨g, 0, none⟩) 1 1, .int .i64 0], .int .i64 0, .int .i64 0, .int .i64 1099511627776, .int .i64 1, .slice (some ⟨s, 0, none⟩) 1 1] w
      fun e w' => e = .returned (.int .i64 1) ∧ Below s w w' ∧ w'.cell? ⟨s, 0, none⟩ = some (.int .i64 1) := by
  obtain ⟨c0, c1, c2, c3, c4, hlt⟩ := hn
  go_enter Try.func30, Try.ntmps30
  go_wp2_with (first | (go_at_call 16; refine (in_any _ _ _ _).mono ?_; rintro e w' ⟨rfl, rfl⟩) | (go_at_call 32; refine (entriesMay_none _ _ _).mono ?_; rintro e w' ⟨rfl, rfl⟩))
  go_ret
  go_light
  have hz : (w.setCell ⟨s, 0, none⟩ (.int .i64 1)).heap.size = w.heap.size := by simp
  have b1 : Below s w (w.setCell ⟨s, 0, none⟩ (.int .i64 1)) := (Below.refl s w).setCell (p := ⟨s, 0, none⟩) (Nat.le_refl s) _
  refine ⟨rfl, (b1.alloc (by omega) _).alloc (by simp; omega) _, ?_⟩
  refine (World.cell?_alloc_lt _ _ _ ?_).trans ((World.cell?_alloc_lt _ _ _ ?_).trans (World.cell?_setCell_same _ _ _ h0))
  · simp; omega
  · simp; omega

theorem made0 (w : World) (o : Obj) : ((w.alloc o).alloc (.cells (madeCells #[.int .i64 0] 1) 3)).cell? ⟨w.heap.size + 1, 0, none⟩ = some (.int .i64 0) := by
  have := (World.rowIs_made (w.alloc o) (.int .i64 0) 1 3).cell (i := 0) (by decide)
  simpa using this
theorem made0f (w : World) (o : Obj) : ((w.alloc o).alloc (.cells (madeCells #[.int .i64 0] 1) 3)).frozen? ⟨w.heap.size + 1, 0, none⟩ = false := by
  simp

theorem infoIntN : (Try.prog.info? 3).map (fun i => (i.zero, i.size, i.bytes)) = some (some (.int .i64 0), 1, 8) := by kernel_rfl

set_option maxHeartbeats 1000000 in
theorem treeFault_new (g : Nat) (w : World) (hn : NewAt w g) :
    Calls Try.prog 27 #[.agg #[.slice (some ⟨g, 0, none⟩) 1 1, .int .i64 0]] w fun e w' => e = .returned (.int .i64 0) ∧ Below w.heap.size w w' := by
  have hmk : ∀ w : World, (Instr.makeSlice 43 (.int .i64 1) (.int .i64 1)).run Try.prog w = .ok (.slice (some ⟨w.heap.size, 0, none⟩) 1 1) (w.alloc (.cells (madeCells #[.int .i64 0] 1) 3)) := fun w =>
    run_make_row' (P := Try.prog) 43 3 (.int .i64 0) 8 Try.underlying43 infoIntN rfl .i64 .i64 1 (by decide) (by decide) w
  go_enter Try.func27, Try.ntmps27
  have hlt := hn.lt
  go_wp2_with (first | (go_at_call 30; refine (height_new g (w.heap.size + 1) _ ((hn.alloc _).alloc _) (by simp) (by omega) (made0 _ _) (made0f _ _)).mono ?_; rintro e w1 ⟨rfl, hb1, hc1⟩))
  go_rounds 2
  go_ret
  exact ⟨rfl, (((Below.refl w.heap.size w).alloc (Nat.le_refl _) _).alloc (by simp) _).trans (hb1.mono (by omega))⟩

set_option maxHeartbeats 1000000 in
theorem allOf_new (g : Nat) (lo hi : Int) (w : World) (hn : NewAt w g) :
    Calls Try.prog 20 #[.agg #[.slice (some ⟨g, 0, none⟩) 1 1, .int .i64 0], .int .i64 lo, .int .i64 hi] w
      fun e w' => e = .returned (.tuple #[.slice none 0 0, .int .i64 0]) ∧ Below w.heap.size w w' := by
  have hlt := hn.lt
  go_enter Try.func20, Try.ntmps20
  go_wp2_with (first | (go_at_call 27; refine (treeFault_new g _ (hn.alloc _)).mono ?_; rintro e w1 ⟨rfl, hb1⟩; obtain ⟨c0, c1, c2, c3, c4, hlt1⟩ := (hn.alloc _).below hb1 (by simp; omega); have d0 : w1.cell? ⟨w.heap.size, 0, none⟩ = some (.slice (some ⟨g, 0, none⟩) 1 1) := (hb1.cell (p := ⟨w.heap.size, 0, none⟩) (by simp)).trans (by simp)))
  refine wp_loop_rounds 2 ?_
  rw [rounds_succ]
  go_wp2
  refine wp_loop_rounds 1 ?_
  rw [rounds_succ]
  go_wp2
  go_region
  all_goals (try go_wp2)
  all_goals (try (rw [rounds_succ]; go_wp2))
  all_goals go_ret2
  exact ⟨rfl, (((Below.refl w.heap.size w).alloc (Nat.le_refl _) _).trans (hb1.mono (by simp))).drew⟩

set_option maxHeartbeats 1000000 in
theorem new_any (w : World) :
    Calls Try.prog 9 #[] w
      fun e w' => ∃ g, e = .returned (.agg #[.slice (some ⟨g, 0, none⟩) 1 1, .int .i64 0]) ∧ w.heap.size ≤ g ∧ NewAt w' g ∧ Below w.heap.size w w' := by
  go_enter Try.func9, Try.ntmps9
  go_wp2_with fail
  exact bodyPost_ret (v := .agg #[.slice (some ⟨w.heap.size + 1, 0, none⟩) 1 1, .int .i64 0]) (by simp [results, Try.results9, go_sem]) rfl ⟨w.heap.size + 1, rfl, by omega, ⟨by simp, by simp, by simp, by simp, by simp, by simp⟩, ((Below.refl w.heap.size w).alloc (Nat.le_refl _) _).alloc (by simp) _⟩

end Go.Proofs.Ytndojgeodmddoad

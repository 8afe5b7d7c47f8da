/- The small functions of package base. -/
import Derived.Test.YtlojfgdpmaigmadGreatDoorP02
namespace Go.Proofs.YtlojfgdpmaigmadGreatDoor
open Go.RowKit Plain

theorem hideB {p : Prop} (h : p) : Hid p := h

theorem btime_any (t : Int) (w : World) : Calls Tryz.prog 32 #[.int .i64 t] w fun e w' => e = .returned (.bool (inB t 0 1048575)) ∧ w' = w := by
  by_cases h1 : 0 ≤ t <;> by_cases h2 : t ≤ 1048575 <;>
  · go_enter Tryz.func32, Tryz.ntmps32
    go_wp2
    go_ret
    exact ⟨by simp [inB, h1, h2], rfl⟩

theorem place_any (k : Int) (w : World) (h : 0 ≤ k ∧ k < 1099511627776) : Calls Tryz.prog 82 #[.int .i64 k] w fun e w' => e = .returned (.int .i64 (k / 1048576)) ∧ w' = w := by
  go_enter Tryz.func82, Tryz.ntmps82
  go_wp2
  go_ret
  exact ⟨rfl, rfl⟩

theorem timeOf_any (k : Int) (w : World) (h : 0 ≤ k ∧ k < 1099511627776) : Calls Tryz.prog 81 #[.int .i64 k] w fun e w' => e = .returned (.int .i64 (k % 1048576)) ∧ w' = w := by
  go_enter Tryz.func81, Tryz.ntmps81
  go_wp2
  go_ret
  exact ⟨rfl, rfl⟩

theorem bbegin_any (t s : Int) (w : World) (h : 0 ≤ t ∧ t < 1099511627776) (hs : s = 1 ∨ s = 60 ∨ s = 3600) : Calls Tryz.prog 19 #[.int .i64 t, .int .i64 s] w fun e w' => e = .returned (.int .i64 (t - t % s)) ∧ w' = w := by
  have hm : ∀ q : Int, q = 1 ∨ q = 60 ∨ q = 3600 → 0 ≤ t % q ∧ t % q ≤ t := by
    rintro q (rfl | rfl | rfl) <;> omega
  have hq := hm s hs
  rcases hs with rfl | rfl | rfl <;>
  · go_enter Tryz.func19, Tryz.ntmps19
    go_wp2
    go_ret
    first | exact ⟨rfl, rfl⟩ | exact ⟨by simp, rfl⟩

theorem keyOf_any (p t : Int) (w : World) (hp : 0 ≤ p ∧ p < 1048576) (ht : 0 ≤ t ∧ t < 1048576) : Calls Tryz.prog 18 #[.int .i64 p, .int .i64 t] w fun e w' => e = .returned (.int .i64 (p * 1048576 + t)) ∧ w' = w := by
  go_enter Tryz.func18, Tryz.ntmps18
  go_wp2
  go_ret
  exact ⟨rfl, rfl⟩

/-- The table of sizes, as it is laid. -/
structure SzAt (w : World) : Prop where
  c0 : w.cell? ⟨0, 0, none⟩ = some (.int .i64 1)
  c1 : w.cell? ⟨0, 1, none⟩ = some (.int .i64 60)
  c2 : w.cell? ⟨0, 2, none⟩ = some (.int .i64 3600)
  lt : 0 < w.heap.size

theorem SzAt.below {w w' : World} (h : SzAt w) (hb : Below w.heap.size w w') : SzAt w' :=
  ⟨(hb.cell (p := ⟨0, 0, none⟩) h.lt).trans h.c0, (hb.cell (p := ⟨0, 1, none⟩) h.lt).trans h.c1, (hb.cell (p := ⟨0, 2, none⟩) h.lt).trans h.c2, Nat.lt_of_lt_of_le h.lt hb.size⟩

def szV : Value := .agg #[.int .i64 1, .int .i64 60, .int .i64 3600]

theorem sizes_any (w : World) (hs : SzAt w) : Calls Tryz.prog 16 #[] w fun e w' => e = .returned (.agg #[.int .i64 1, .int .i64 60, .int .i64 3600]) ∧ Below w.heap.size w w' := by
  obtain ⟨c0, c1, c2, hl⟩ := hs
  go_enter Tryz.func16, Tryz.ntmps16
  go_wp2
  exact bodyPost_ret (v := .agg #[.int .i64 1, .int .i64 60, .int .i64 3600]) (by simp [results, Tryz.results16, go_sem]) rfl ⟨rfl, (Below.refl _ _).alloc (Nat.le_refl _) _⟩

theorem sz_i0 (w : World) : (Instr.index 51 (.agg #[.int .i64 1, .int .i64 60, .int .i64 3600]) (.int .i64 0)).run Tryz.prog w = .ok (.int .i64 1) w := by kernel_rfl
theorem sz_i1 (w : World) : (Instr.index 51 (.agg #[.int .i64 1, .int .i64 60, .int .i64 3600]) (.int .i64 1)).run Tryz.prog w = .ok (.int .i64 60) w := by kernel_rfl
theorem sz_i2 (w : World) : (Instr.index 51 (.agg #[.int .i64 1, .int .i64 60, .int .i64 3600]) (.int .i64 2)).run Tryz.prog w = .ok (.int .i64 3600) w := by kernel_rfl

theorem isFloor_any (t : Int) (w : World) (hs : SzAt w) (ht : 0 ≤ t ∧ t < 1099511627776) : Calls Tryz.prog 33 #[.int .i64 t] w fun e w' => e = .returned (.bool (decide (t % 3600 = 0))) ∧ Below w.heap.size w w' := by
  have e2 := sz_i2
  by_cases h : t % 3600 = 0
  · have h' : (t % 3600 == 0) = true := by simpa using h
    go_enter Tryz.func33, Tryz.ntmps33
    go_wp2_with (go_at_call 16; refine (sizes_any _ hs).mono ?_; rintro e w1 ⟨rfl, hb1⟩)
    go_ret
    exact ⟨by simp [h], hb1⟩
  · have h' : (t % 3600 == 0) = false := by simpa using h
    go_enter Tryz.func33, Tryz.ntmps33
    go_wp2_with (go_at_call 16; refine (sizes_any _ hs).mono ?_; rintro e w1 ⟨rfl, hb1⟩)
    go_ret
    exact ⟨by simp [h], hb1⟩

end Go.Proofs.YtlojfgdpmaigmadGreatDoor

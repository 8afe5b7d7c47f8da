/- For every time and value, package roll's Of answers what promise P1.2 says. No condition. -/
import Derived.Test.YtdhbbfmkamgkjaaWalks5
import Derived.Test.YtdhbbfmkamgkjaaOpen
namespace Go.Proofs.Ytdhbbfmkamgkjaa
open Go.ChangeShapes Go.WideShapes Go.ChangeAt Go.RowKit Plain

set_option maxHeartbeats 400000 in
theorem rollOfs_yes (t v : Int) (w : World) (h1 : inB t 0 1048575 = true) (h2 : inB v (-1000000) 1000000 = true) :
    Calls Try.prog 4 #[.int .i64 t, .int .i64 v] w fun e w' => e = .returned (.bool true) ∧ Below w.heap.size w w' := by
  go_enter Try.func4, Try.ntmps4
  go_wp2_with (first | (go_at_call 9; refine (of_yes _ _ _ h1 h2).mono ?_; rintro e w1 ⟨rfl, hb1⟩) | (go_at_call 10; refine (rof_yes _ _ _ h1 h2).mono ?_; rintro e w2 ⟨rfl, hb2⟩; obtain ⟨hc2, hf2⟩ := bcell hb2; have hz2 : w1.heap.size < w2.heap.size := by have := hb2.size; simp at this; omega))
  go_ret
  have hz1 := hb1.size
  exact ⟨rfl, ((hb1.alloc hz1 _).trans (hb2.mono (by simp; omega))).alloc (by omega) _⟩

set_option maxHeartbeats 400000 in
theorem rollOfs_no1 (t v : Int) (w : World) (h1 : inB t 0 1048575 = false) :
    Calls Try.prog 4 #[.int .i64 t, .int .i64 v] w fun e w' => e = .returned (.bool true) ∧ Below w.heap.size w w' := by
  go_enter Try.func4, Try.ntmps4
  go_wp2_with (first | (go_at_call 9; refine (of_no1 _ _ _ h1).mono ?_; rintro e w1 ⟨rfl, hb1⟩) | (go_at_call 10; refine (rof_no1 _ _ _ h1).mono ?_; rintro e w2 ⟨rfl, hb2⟩; obtain ⟨hc2, hf2⟩ := bcell hb2; have hz2 : w1.heap.size < w2.heap.size := by have := hb2.size; simp at this; omega))
  go_ret
  have hz1 := hb1.size
  exact ⟨rfl, ((hb1.alloc hz1 _).trans (hb2.mono (by simp; omega))).alloc (by omega) _⟩

set_option maxHeartbeats 400000 in
theorem rollOfs_no2 (t v : Int) (w : World) (h1 : inB t 0 1048575 = true) (h2 : inB v (-1000000) 1000000 = false) :
    Calls Try.prog 4 #[.int .i64 t, .int .i64 v] w fun e w' => e = .returned (.bool true) ∧ Below w.heap.size w w' := by
  go_enter Try.func4, Try.ntmps4
  go_wp2_with (first | (go_at_call 9; refine (of_no2 _ _ _ h1 h2).mono ?_; rintro e w1 ⟨rfl, hb1⟩) | (go_at_call 10; refine (rof_no2 _ _ _ h1 h2).mono ?_; rintro e w2 ⟨rfl, hb2⟩; obtain ⟨hc2, hf2⟩ := bcell hb2; have hz2 : w1.heap.size < w2.heap.size := by have := hb2.size; simp at this; omega))
  go_ret
  have hz1 := hb1.size
  exact ⟨rfl, ((hb1.alloc hz1 _).trans (hb2.mono (by simp; omega))).alloc (by omega) _⟩

theorem rollOfs_walk (t v : Int) (w : World) (_ : (Lit.int .i64 t).wf = true) (_ : (Lit.int .i64 v).wf = true) :
    Calls Try.prog 4 #[.int .i64 t, .int .i64 v] w fun e w' => e = .returned (.bool true) ∧ Below w.heap.size w w' := by
  by_cases h1 : inB t 0 1048575 = true
  · by_cases h2 : inB v (-1000000) 1000000 = true
    · exact rollOfs_yes t v w h1 h2
    · exact rollOfs_no2 t v w h1 (by simpa using h2)
  · exact rollOfs_no1 t v w (by simpa using h1)

set_option maxRecDepth 100000 in
theorem rollOfs_lifted (os : Os) (started : os.Started) (H : Type) (enc : TypeId × Value → H) :
    ReturnsInHanded {} Try.checked os 4 .any (Rows.rollOfsSpec.pre6 enc Try.prog Try.f4 Rows.rollOfsRow.domain false) (Rows.rollOfsSpec.post enc Try.prog Try.f4 false true false false) := by
  refine returnsInHanded_of_change (C := Try.checked) own started (by kernel_rfl) Try.func4
    (ChangeSpec.witness6 (enc := enc) (C := Try.checked) false ⟨#[], #[.int .i64 0, .int .i64 0], []⟩ 8 (by kernel_rfl) (by kernel_rfl) (by kernel_rfl) (by kernel_rfl)) ?_
  intro W base args ds gs before hval0 hW hcnd _
  have hval : ∀ (j : Nat) t v, Try.f4.params[j]? = some t → args[j]? = some v → Value.okWide Try.prog W .any base t v := hval0
  have hW' := hW
  obtain ⟨p, q, hA0, hV, rfl, hfz, hnd⟩ := hW
  have hA : DataW.TrodAll enc Try.prog W 0 (fun _ => true) true Try.f4.params.toList args.toList ds p := hA0
  rw [Try.params4] at hA hval
  obtain ⟨v0, vs0, d0, ds0, p0, q0, hargs, rfl, rfl, h0, r0⟩ := trodAll_cons hA
  obtain ⟨v1, vs1, d1, ds1, p1, q1, rfl, rfl, rfl, h1, r1⟩ := trodAll_cons r0
  obtain ⟨rfl, rfl, rfl⟩ := trodAll_nil r1
  obtain rfl : args = #[v0, v1] := by cases args; simp_all
  obtain ⟨rfl, rfl⟩ := trodVars_none hV
  have k0 := h0
  have lt0 : ∀ x ∈ p0, x.block < W.heap.size := by obtain ⟨m, hm⟩ := k0; exact DataW.trod_lt m _ _ _ hm
  obtain ⟨a0, rfl, w0⟩ : ∃ n : Int, v0 = .int .i64 n ∧ (Lit.int .i64 n).wf = true := by
    obtain ⟨n, h, _, _, w⟩ := open_int Try.underlying3 (hval 0 3 v0 rfl rfl) h0; exact ⟨n, h, w⟩
  have k1 := h1
  have lt1 : ∀ x ∈ p1, x.block < W.heap.size := by obtain ⟨m, hm⟩ := k1; exact DataW.trod_lt m _ _ _ hm
  obtain ⟨a1, rfl, w1⟩ : ∃ n : Int, v1 = .int .i64 n ∧ (Lit.int .i64 n).wf = true := by
    obtain ⟨n, h, _, _, w⟩ := open_int Try.underlying3 (hval 1 3 v1 rfl rfl) h1; exact ⟨n, h, w⟩
  clear hA0 hval0
  refine (rollOfs_walk a0 a1 W w0 w1).mono fun e W' ⟨he, bel⟩ => ?_
  subst he
  exact ⟨_, rfl, _, _, _, [], _, [], hW', trodAll_mk1 (shut_bool Try.underlying4 _), (trodAll_cons_mk (Below.trod laidOut (by kernel_rfl) (of_decide_eq_true (by kernel_rfl)) k0 bel lt0) (trodAll_cons_mk (Below.trod laidOut (by kernel_rfl) (of_decide_eq_true (by kernel_rfl)) k1 bel lt1) trodAll_mk0)), rfl, bel.frame _, fun h => by cases h⟩

theorem rollOfs_holds : Rows.RollOfsSaid :=
  OpenClaim.holds_of_wide 4 Try.f4 rfl rfl rfl rfl rfl rfl rfl ⟨rfl, rfl, rfl, rfl, rfl⟩ rfl rfl rfl rfl rfl (by kernel_rfl) Try.func4 (by kernel_rfl)
    (of_decide_eq_true (by kernel_rfl)) (by unfold Func.isWrapper; first | (rw [if_pos (by decide +kernel)]; kernel_rfl) | (rw [if_neg (by decide +kernel)]; exact ⟨rfl, rfl⟩))
    (fun os started H enc _ => rollOfs_lifted os started H enc)
#print axioms rollOfs_holds
end Go.Proofs.Ytdhbbfmkamgkjaa

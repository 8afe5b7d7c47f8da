/- For every base, package base's Copy answers what promise P3.2 says: the same base. No condition. -/
import Derived.Test.YtndojgeodmddoadBaseSame
namespace Go.Proofs.Ytndojgeodmddoad
open Go.ChangeShapes Go.WideShapes Go.ChangeAt Go.RowKit

theorem hideIt {p : Prop} (h : p) : Hid p := h

set_option maxRecDepth 20000 in
set_option maxHeartbeats 1000000 in
theorem baseCopies_walk (A : Option Addr) (C : Nat) (ss : List ByteArray) (t0 t1 t2 : TR) (f : Int) (w : World) (h : StrsAt w.heap.size w A ss) (h0 : t0.ok w) (h1 : t1.ok w) (h2 : t2.ok w) (_ : (Lit.int .i64 f).wf = true) :
    Calls Try.prog 4 #[.agg #[.slice A ss.length C, .slice t0.A t0.ps.length t0.C, .int .i64 t0.r, .slice t1.A t1.ps.length t1.C, .int .i64 t1.r, .slice t2.A t2.ps.length t2.C, .int .i64 t2.r, .int .i64 f]] w fun e w' => e = .returned (.bool true) ∧ Below w.heap.size w w' := by
  have b0 : ∀ o : Obj, Below w.heap.size w (w.alloc o) := fun o => (Below.refl _ _).alloc (Nat.le_refl _) o
  have n0 := h0.1
  have n1 := h1.1
  have n2 := h2.1
  clear h0 h1 h2
  obtain ⟨A0, C0, p0, r0⟩ := t0
  obtain ⟨A1, C1, p1, r1⟩ := t1
  obtain ⟨A2, C2, p2, r2⟩ := t2
  simp only at n0 n1 n2 ⊢
  go_enter Try.func4, Try.ntmps4
  go_wp2_with (first
    | (go_at_call 7; refine (bcopy_any A C ss ⟨A0, C0, p0, r0⟩ ⟨A1, C1, p1, r1⟩ ⟨A2, C2, p2, r2⟩ f _ (h.up (b0 _)) (n0.up (b0 _)) (n1.up (b0 _)) (n2.up (b0 _))).mono ?_; rintro e w1 ⟨v, g0, g1, g2, q0, q1, q2, rfl, hov, m0, m1, m2, e0, e1, e2, hb1⟩; obtain ⟨VA, VC, hvv, -, -, -, hvr⟩ := own_row hov; subst hvv; have hw1 : Below w.heap.size w w1 := nextB (b0 _) (Nat.le_refl _) hb1; have d := (bcells hb1).1; have z1 := sz1 hb1; have l0 : p0.length = q0.length := (by have := congrArg List.length e0; simpa using this.symm); have l1 : p1.length = q1.length := (by have := congrArg List.length e1; simpa using this.symm); have l2 : p2.length = q2.length := (by have := congrArg List.length e2; simpa using this.symm); have up1 : ∀ o : Obj, Below w1.heap.size w1 (w1.alloc o) := (fun o => (Below.refl _ _).alloc (Nat.le_refl _) o); have sb := (fun w' (hu : Below w1.heap.size w1 w') => sameBase_eq VA A VC C ss ⟨some ⟨g0, 0, none⟩, p0.length, q0, r0⟩ ⟨some ⟨g1, 0, none⟩, p1.length, q1, r1⟩ ⟨some ⟨g2, 0, none⟩, p2.length, q2, r2⟩ ⟨A0, C0, p0, r0⟩ ⟨A1, C1, p1, r1⟩ ⟨A2, C2, p2, r2⟩ f w' (hvr.up hu) (h.up (nextB hw1 (Nat.le_refl _) hu)) (m0.up hu) (m1.up hu) (m2.up hu) (n0.up (nextB hw1 (Nat.le_refl _) hu)) (n1.up (nextB hw1 (Nat.le_refl _) hu)) (n2.up (nextB hw1 (Nat.le_refl _) hu)) e0 e1 e2 rfl rfl rfl); simp only [← l0, ← l1, ← l2] at sb; have SB := hideIt sb; clear sb l0 l1 l2 e0 e1 e2 m0 m1 m2)
    | (go_at_call 8; refine (SB.out _ (up1 _)).mono ?_; rintro e w2 ⟨rfl, hb2⟩))
  go_ret
  exact ⟨rfl, nextB (hw1.alloc (by omega) _) (Nat.le_refl _) hb2⟩

set_option maxRecDepth 100000 in
theorem baseCopies_lifted (os : Os) (started : os.Started) (H : Type) (enc : TypeId × Value → H) :
    ReturnsInHanded {} Try.checked os 4 .any (Rows.baseCopiesSpec.pre6 enc Try.prog Try.f4 Rows.baseCopiesRow.domain false) (Rows.baseCopiesSpec.post enc Try.prog Try.f4 false true false false) := by
  refine returnsInHanded_of_change_sized (C := Try.checked) own started (by kernel_rfl) Try.func4
    (ChangeSpec.witness6 (enc := enc) (C := Try.checked) false ⟨#[], #[.agg #[.slice none 0 0, .slice none 0 0, .int .i64 0, .slice none 0 0, .int .i64 0, .slice none 0 0, .int .i64 0, .int .i64 0]], []⟩ 8 (by kernel_rfl) (by kernel_rfl) (by kernel_rfl) (by kernel_rfl)) ?_
  intro W base args ds gs before hval0 hW hcnd hsz0 _
  have hval : ∀ (j : Nat) t v, Try.f4.params[j]? = some t → args[j]? = some v → Value.okWide Try.prog W .any base t v := hval0
  have hW' := hW
  obtain ⟨p, q, hA0, hV, rfl, hfz, hnd⟩ := hW
  have hA : DataW.TrodAll enc Try.prog W 0 (fun _ => true) true Try.f4.params.toList args.toList ds p := hA0
  have hsz : (DataW.weightsEach Try.prog (Try.f4.params.toList ++ Rows.baseCopiesSpec.plain.varTypes Try.prog) (ds ++ gs)).all (· ≤ reachBytes) = true := hsz0
  rw [Try.params4] at hA hval hsz
  obtain ⟨v0, vs0, d0, ds0, p0, q0, hargs, rfl, rfl, h0, r0⟩ := trodAll_cons hA
  obtain ⟨rfl, rfl, rfl⟩ := trodAll_nil r0
  obtain rfl : args = #[v0] := by cases args; simp_all
  obtain ⟨rfl, rfl⟩ := trodVars_none hV
  have k0 := h0
  have lt0 : ∀ x ∈ p0, x.block < W.heap.size := by obtain ⟨m, hm⟩ := k0; exact DataW.trod_lt m _ _ _ hm
  obtain ⟨A0, C0, ss0, ta0, tb0, tc0, f0, rfl, -, hS0, ha0, hb0, hc0, w0⟩ := open_base rfl (hval 0 28 v0 rfl rfl) h0 (fun n hn => by
    have := List.all_eq_true.1 hsz n (DataW.weights_mem_each (j := 0) (t := 28) rfl rfl n hn)
    exact of_decide_eq_true this)
  clear hA0 hval0 hsz0
  refine (baseCopies_walk A0 C0 ss0 ta0 tb0 tc0 f0 W hS0 ha0 hb0 hc0 w0).mono fun e W' ⟨he, bel⟩ => ?_
  subst he
  exact ⟨_, rfl, _, _, _, [], _, [], hW', trodAll_mk1 (shut_bool Try.underlying4 _), (trodAll_cons_mk (Below.trod laidOut (by kernel_rfl) (of_decide_eq_true (by kernel_rfl)) k0 bel lt0) trodAll_mk0), rfl, bel.frame _, fun h => by cases h⟩

theorem baseCopies_holds : Rows.BaseCopiesSaid :=
  OpenClaim.holds_of_wide 4 Try.f4 rfl rfl rfl rfl rfl rfl rfl ⟨rfl, rfl, rfl, rfl, rfl⟩ rfl rfl rfl rfl rfl (by kernel_rfl) Try.func4 (by kernel_rfl)
    (of_decide_eq_true (by kernel_rfl)) (by unfold Func.isWrapper; first | (rw [if_pos (by decide +kernel)]; kernel_rfl) | (rw [if_neg (by decide +kernel)]; exact ⟨rfl, rfl⟩))
    (fun os started H enc _ => baseCopies_lifted os started H enc)
#print axioms baseCopies_holds
end Go.Proofs.Ytndojgeodmddoad

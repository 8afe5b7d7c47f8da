/- For every tree, package tree's Copy answers what promise P2.3 says: the same tree. No condition. -/
import Derived.Test.YtgialookkilcnabCopyWalk
import Derived.Test.YtgialookkilcnabOpenTree
namespace Go.Proofs.Ytgialookkilcnab
open Go.ChangeShapes Go.WideShapes Go.ChangeAt Go.RowKit

theorem sameTree_len (A A' : Option Addr) (C C' n n' : Nat) (r : Int) (ps qs : List PN) (w : World) (h : NodesAt w.heap.size w A ps) (h' : NodesAt w.heap.size w A' qs) (hpq : ps.map PN.nd = qs.map PN.nd) (hn : n = ps.length) (hn' : n' = qs.length) :
    Calls Try.prog 12 #[.agg #[.slice A n C, .int .i64 r], .agg #[.slice A' n' C', .int .i64 r]] w fun e w' => e = .returned (.bool true) ∧ Below w.heap.size w w' := by
  subst hn hn'
  exact sameTree_eq A A' C C' r ps qs w h h' hpq

set_option maxHeartbeats 1000000 in
theorem treeCopies_walk (A : Option Addr) (C : Nat) (ps : List PN) (r : Int) (w : World) (h : NodesAt w.heap.size w A ps) (_ : ∀ p ∈ ps, p.wf) (_ : (Lit.int .i64 r).wf = true) :
    Calls Try.prog 4 #[.agg #[.slice A ps.length C, .int .i64 r]] w fun e w' => e = .returned (.bool true) ∧ Below w.heap.size w w' := by
  have b0 : ∀ o : Obj, Below w.heap.size w (w.alloc o) := fun o => (Below.refl _ _).alloc (Nat.le_refl _) o
  go_enter Try.func4, Try.ntmps4
  go_wp2_with (first
    | (go_at_call 11; refine (copy_any _ _ _ ps _ (h.up (b0 _))).mono ?_; rintro e w1 ⟨g, qs, rfl, hO, hm, hb1⟩; have g1 : Below w.heap.size w w1 := nextB (b0 _) (Nat.le_refl _) hb1; have z1 := sz1 hb1; have hc1 := (bcells hb1).1)
    | (go_at_call 12; refine (sameTree_len _ _ _ _ _ _ _ qs ps _ (hO.nodes.up ((Below.refl _ _).alloc (Nat.le_refl _) _)) (h.up (g1.alloc g1.size _)) hm (by have := congrArg List.length hm; simpa using this.symm) rfl).mono ?_; rintro e w2 ⟨rfl, hb2⟩))
  go_ret
  exact ⟨rfl, nextB (g1.alloc g1.size _) (Nat.le_refl _) hb2⟩

set_option maxRecDepth 100000 in
theorem treeCopies_lifted (os : Os) (started : os.Started) (H : Type) (enc : TypeId × Value → H) :
    ReturnsInHanded {} Try.checked os 4 .any (Rows.treeCopiesSpec.pre6 enc Try.prog Try.f4 Rows.treeCopiesRow.domain false) (Rows.treeCopiesSpec.post enc Try.prog Try.f4 false true false false) := by
  refine returnsInHanded_of_change_sized (C := Try.checked) own started (by kernel_rfl) Try.func4
    (ChangeSpec.witness6 (enc := enc) (C := Try.checked) false ⟨#[], #[.agg #[.slice none 0 0, .int .i64 0]], []⟩ 8 (by kernel_rfl) (by kernel_rfl) (by kernel_rfl) (by kernel_rfl)) ?_
  intro W base args ds gs before hval0 hW hcnd hsz0 _
  have hval : ∀ (j : Nat) t v, Try.f4.params[j]? = some t → args[j]? = some v → Value.okWide Try.prog W .any base t v := hval0
  have hW' := hW
  obtain ⟨p, q, hA0, hV, rfl, hfz, hnd⟩ := hW
  have hA : DataW.TrodAll enc Try.prog W 0 (fun _ => true) true Try.f4.params.toList args.toList ds p := hA0
  have hsz : (DataW.weightsEach Try.prog (Try.f4.params.toList ++ Rows.treeCopiesSpec.plain.varTypes Try.prog) (ds ++ gs)).all (· ≤ reachBytes) = true := hsz0
  rw [Try.params4] at hA hval hsz
  obtain ⟨v0, vs0, d0, ds0, p0, q0, hargs, rfl, rfl, h0, r0⟩ := trodAll_cons hA
  obtain ⟨rfl, rfl, rfl⟩ := trodAll_nil r0
  obtain rfl : args = #[v0] := by cases args; simp_all
  obtain ⟨rfl, rfl⟩ := trodVars_none hV
  have k0 := h0
  have lt0 : ∀ x ∈ p0, x.block < W.heap.size := by obtain ⟨m, hm⟩ := k0; exact DataW.trod_lt m _ _ _ hm
  obtain ⟨A0, C0, ps0, n0, rfl, hN0, hw0, w0⟩ := open_tree rfl (hval 0 24 v0 rfl rfl) h0 (fun n hn => by
    have := List.all_eq_true.1 hsz n (DataW.weights_mem_each (j := 0) (t := 24) rfl rfl n hn)
    exact of_decide_eq_true this)
  clear hA0 hval0 hsz0
  refine (treeCopies_walk A0 C0 ps0 n0 W hN0 hw0 w0).mono fun e W' ⟨he, bel⟩ => ?_
  subst he
  exact ⟨_, rfl, _, _, _, [], _, [], hW', trodAll_mk1 (shut_bool Try.underlying4 _), (trodAll_cons_mk (Below.trod laidOut (by kernel_rfl) (of_decide_eq_true (by kernel_rfl)) k0 bel lt0) trodAll_mk0), rfl, bel.frame _, fun h => by cases h⟩

theorem treeCopies_holds : Rows.TreeCopiesSaid :=
  OpenClaim.holds_of_wide 4 Try.f4 rfl rfl rfl rfl rfl rfl rfl ⟨rfl, rfl, rfl, rfl, rfl⟩ rfl rfl rfl rfl rfl (by kernel_rfl) Try.func4 (by kernel_rfl)
    (of_decide_eq_true (by kernel_rfl)) (by unfold Func.isWrapper; first | (rw [if_pos (by decide +kernel)]; kernel_rfl) | (rw [if_neg (by decide +kernel)]; exact ⟨rfl, rfl⟩))
    (fun os started H enc _ => treeCopies_lifted os started H enc)
#print axioms treeCopies_holds
end Go.Proofs.Ytgialookkilcnab

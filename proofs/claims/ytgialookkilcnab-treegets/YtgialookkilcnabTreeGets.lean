/- For every tree and key, package tree's Get answers what promise P2 says. No condition. -/
import Derived.Test.YtgialookkilcnabGetWalk
namespace Go.Proofs.Ytgialookkilcnab
open Go.ChangeShapes Go.WideShapes Go.ChangeAt Go.RowKit

set_option maxRecDepth 20000 in
set_option maxHeartbeats 4000000 in
theorem treeGets_walk (A : Option Addr) (C : Nat) (ps : List PN) (r key : Int) (w : World) (h : NodesAt w.heap.size w A ps) (hw : ∀ p ∈ ps, p.wf) (_ : (Lit.int .i64 r).wf = true) (_ : (Lit.int .i64 key).wf = true) :
    Calls Try.prog 6 #[.agg #[.slice A ps.length C, .int .i64 r], .int .i64 key] w fun e w' => e = .returned (.bool true) ∧ Below w.heap.size w w' := by
  obtain ⟨s, hs⟩ : ∃ s, gotP (ps.map PN.nd) r key = s := ⟨_, rfl⟩
  have g1 := fun w' hN => get_any A C r key ps w' hN hw
  have g2 := fun w' hN => gotOf_any A C r key ps w' hN
  simp only [hs, tupR] at g1 g2
  clear hs
  obtain ⟨⟨c, t, lo, hi, u, l⟩, e⟩ := s
  simp only at g1 g2
  have b0 : ∀ o : Obj, Below w.heap.size w (w.alloc o) := fun o => (Below.refl _ _).alloc (Nat.le_refl _) o
  go_enter Try.func6, Try.ntmps6
  go_wp2_with (first
    | (go_at_call 16; refine (g1 _ (h.up (b0 _))).mono ?_; rintro e w1 ⟨rfl, hb1⟩; have hg1 : Below w.heap.size w w1 := nextB (b0 _) (Nat.le_refl _) hb1; have x0 : w1.cell? ⟨w.heap.size, 0, none⟩ = some (.slice A ps.length C) := (hb1.cell (p := ⟨w.heap.size, 0, none⟩) (by simp)).trans (by simp); have x1 : w1.cell? ⟨w.heap.size, 1, none⟩ = some (.int .i64 r) := (hb1.cell (p := ⟨w.heap.size, 1, none⟩) (by simp)).trans (by simp); have z1 := sz1 hb1; have hg1' : ∀ o : Obj, Below w.heap.size w (w1.alloc o) := fun o => hg1.alloc (Nat.le_of_lt z1) o)
    | (go_at_call 17; refine (g2 _ (h.up (hg1' _))).mono ?_; rintro e w2 ⟨rfl, hb2⟩; have hc2 := (bcells hb2).1; have z2 := sz1 hb2; have hg2 : Below w.heap.size w w2 := nextB (hg1' _) (Nat.le_refl _) hb2))
  go_ret
  exact ⟨rfl, hg2.alloc (by omega) _⟩

set_option maxRecDepth 100000 in
theorem treeGets_lifted (os : Os) (started : os.Started) (H : Type) (enc : TypeId × Value → H) :
    ReturnsInHanded {} Try.checked os 6 .any (Rows.treeGetsSpec.pre6 enc Try.prog Try.f6 Rows.treeGetsRow.domain false) (Rows.treeGetsSpec.post enc Try.prog Try.f6 false true false false) := by
  refine returnsInHanded_of_change_sized (C := Try.checked) own started (by kernel_rfl) Try.func6
    (ChangeSpec.witness6 (enc := enc) (C := Try.checked) false ⟨#[], #[.agg #[.slice none 0 0, .int .i64 0], .int .i64 0], []⟩ 8 (by kernel_rfl) (by kernel_rfl) (by kernel_rfl) (by kernel_rfl)) ?_
  intro W base args ds gs before hval0 hW hcnd hsz0 _
  have hval : ∀ (j : Nat) t v, Try.f6.params[j]? = some t → args[j]? = some v → Value.okWide Try.prog W .any base t v := hval0
  have hW' := hW
  obtain ⟨p, q, hA0, hV, rfl, hfz, hnd⟩ := hW
  have hA : DataW.TrodAll enc Try.prog W 0 (fun _ => true) true Try.f6.params.toList args.toList ds p := hA0
  have hsz : (DataW.weightsEach Try.prog (Try.f6.params.toList ++ Rows.treeGetsSpec.plain.varTypes Try.prog) (ds ++ gs)).all (· ≤ reachBytes) = true := hsz0
  rw [Try.params6] at hA hval hsz
  obtain ⟨v0, vs0, d0, ds0, p0, q0, hargs, rfl, rfl, h0, r0⟩ := trodAll_cons hA
  obtain ⟨v1, vs1, d1, ds1, p1, q1, rfl, rfl, rfl, h1, r1⟩ := trodAll_cons r0
  obtain ⟨rfl, rfl, rfl⟩ := trodAll_nil r1
  obtain rfl : args = #[v0, v1] := by cases args; simp_all
  obtain ⟨rfl, rfl⟩ := trodVars_none hV
  have k0 := h0
  have lt0 : ∀ x ∈ p0, x.block < W.heap.size := by obtain ⟨m, hm⟩ := k0; exact DataW.trod_lt m _ _ _ hm
  obtain ⟨A0, C0, ps0, n0, rfl, hN0, hw0, w0⟩ := open_tree rfl (hval 0 24 v0 rfl rfl) h0 (fun n hn => by
    have := List.all_eq_true.1 hsz n (DataW.weights_mem_each (j := 0) (t := 24) rfl rfl n hn)
    exact of_decide_eq_true this)
  have k1 := h1
  have lt1 : ∀ x ∈ p1, x.block < W.heap.size := by obtain ⟨m, hm⟩ := k1; exact DataW.trod_lt m _ _ _ hm
  obtain ⟨a1, rfl, w1⟩ : ∃ n : Int, v1 = .int .i64 n ∧ (Lit.int .i64 n).wf = true := by
    obtain ⟨n, h, _, _, w⟩ := open_int Try.underlying3 (hval 1 3 v1 rfl rfl) h1; exact ⟨n, h, w⟩
  clear hA0 hval0 hsz0
  refine (treeGets_walk A0 C0 ps0 n0 a1 W hN0 hw0 w0 w1).mono fun e W' ⟨he, bel⟩ => ?_
  subst he
  exact ⟨_, rfl, _, _, _, [], _, [], hW', trodAll_mk1 (shut_bool Try.underlying4 _), (trodAll_cons_mk (Below.trod laidOut (by kernel_rfl) (of_decide_eq_true (by kernel_rfl)) k0 bel lt0) (trodAll_cons_mk (Below.trod laidOut (by kernel_rfl) (of_decide_eq_true (by kernel_rfl)) k1 bel lt1) trodAll_mk0)), rfl, bel.frame _, fun h => by cases h⟩

theorem treeGets_holds : Rows.TreeGetsSaid :=
  OpenClaim.holds_of_wide 6 Try.f6 rfl rfl rfl rfl rfl rfl rfl ⟨rfl, rfl, rfl, rfl, rfl⟩ rfl rfl rfl rfl rfl (by kernel_rfl) Try.func6 (by kernel_rfl)
    (of_decide_eq_true (by kernel_rfl)) (by unfold Func.isWrapper; first | (rw [if_pos (by decide +kernel)]; kernel_rfl) | (rw [if_neg (by decide +kernel)]; exact ⟨rfl, rfl⟩))
    (fun os started H enc _ => treeGets_lifted os started H enc)
#print axioms treeGets_holds
end Go.Proofs.Ytgialookkilcnab

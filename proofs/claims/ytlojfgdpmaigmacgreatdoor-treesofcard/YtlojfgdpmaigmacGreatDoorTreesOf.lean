/- For every list of raw things, of what a tree knows another one is made, that knows the same; the other way round the entries are refused. No condition beside the table of sizes, which is tied to the program's text. -/
import Derived.Test.YtlojfgdpmaigmacGreatDoorP45
import Derived.Test.YtlojfgdpmaigmacGreatDoorP39
import Derived.Test.YtlojfgdpmaigmacGreatDoorP24
import Derived.Test.YtlojfgdpmaigmacGreatDoorP48
import Derived.Test.YtlojfgdpmaigmacGreatDoorLaidSz
import Derived.ChangeMaps5
namespace Go.Proofs.YtlojfgdpmaigmacGreatDoor
open Go.ChangeShapes Go.WideShapes Go.ChangeAt Go.RowKit Plain Go.Shelf

set_option maxRecDepth 20000 in
set_option maxHeartbeats 4000000 in
theorem treesOf_walk (A : Option Addr) (C : Nat) (xs : List Rw) (w : World) (hZ : SzAt w) (hA : RowAt w.heap.size w A (flatR xs)) (_ : xs.length * 32 ≤ 140737488351232) (hwf : ∀ x ∈ xs, x.wf) :
    Calls Tryz.prog 5 #[.slice A xs.length C] w fun e w' => e = .returned (.bool true) ∧ Below w.heap.size w w' := by
  have TT := hideC (tells_any w hZ)
  have KT := hideC fun W (hW : RowAt W.heap.size W A (flatR xs)) => ktree_key A C xs 150 W hW hwf (by decide) (by decide)
  have HA := hideC hA
  have k8 : IntKind.i64.wrap (8 - 8) = 0 := by decide
  clear hZ hA hwf
  go_enter Tryz.func5, Tryz.ntmps5
  go_upto_region 8 with (first
    | (go_at_call 7; refine TT.out.mono ?_; rintro e w1 ⟨rfl, hb1⟩; have HB1 := hideC hb1; clear hb1)
    | (go_at_call 8; refine (KT.out _ (HA.out.up HB1.out)).mono ?_; rintro e w2 ⟨g, C2, qs, root, mb, n, l, rfl, hn2, hk2, hm2, hb2, hkey⟩; have HB2 := hideC (nextB HB1.out (Nat.le_refl _) hb2); have A2 := hideC fun (W : World) hW => all_kn g C2 root qs l W hW hk2; have HN2 := hideC hn2; have hl2 := keys_few (many := 150) hk2.inc hkey; have HF2 := hideC (fault_zero hk2.inc hk2.good fun y hy => by have := hkey y hy; omega); have HR2 := hideC (fault_rev hk2.inc hk2.good fun y hy => by have := hkey y hy; omega); clear hn2 hk2 hm2 hb2 hkey)
    | (go_at_call 11; have kk := A4; clear kk; refine (A4.out _ (HN4.out.up ((Below.refl _ _).alloc (Nat.le_refl _) _))).mono ?_; rintro e w5 ⟨⟨A5, C5, rfl, -, -, -, -⟩, hb5⟩; have HB5 := hideC hb5; clear hb5)
    | (go_at_call 11; refine (A2.out _ (HN2.out.up ((Below.refl _ _).alloc (Nat.le_refl _) _))).mono ?_; rintro e w3 ⟨⟨A3, C3, rfl, hA3, hr3, hne3, ho3⟩, hb3⟩; have HB3 := hideC (nextB (HB2.out.alloc HB2.out.size _) (Nat.le_refl _) hb3); have HR3 := hideC hr3; have HO3 := hideC (And.intro hA3 (And.intro hne3 ho3)); clear hb3 hr3 hA3 hne3 ho3)
    | (go_at_call 17; refine (of_ok A3 C3 l _ HR3.out HO3.out.1 HF2.out (by omega)).mono ?_; rintro e w4 ⟨⟨g4, C4, qs4, root4, rfl, hn4, hk4⟩, hb4⟩; have HB4 := hideC hb4; have HT4 := hideC hn4; have HN4 := hideC hn4.nodes; have A4 := hideC fun (W : World) hW => all_kn g4 C4 root4 qs4 l W hW hk4; have C4K := hideC fun (W : World) (hW : NodesAt W.heap.size W (some ⟨g4, 0, none⟩) qs4) => checkT_any (some ⟨g4, 0, none⟩) C4 root4 qs4 W hW (treeC_wf hk4.ok); rw [hk4.ok] at C4K; clear hb4 hn4 hk4))
  have U5 : Hid (RowL w5 w4.heap.size 26 [.slice (some ⟨g4, 0, none⟩) qs4.length C4, .int .i64 root4]) := (rowL_alloc w4 [.slice (some ⟨g4, 0, none⟩) qs4.length C4, .int .i64 root4] 26).below HB5.out (by simp)
  have B45 : Below w4.heap.size w4 w5 := nextB ((Below.refl _ _).alloc (Nat.le_refl _) _) (Nat.le_refl _) HB5.out
  have N5 := hideC (HT4.out.below B45 (Nat.le_refl _))
  have H5 := hideC (nextB (nextB HB3.out (Nat.le_refl _) HB4.out) (Nat.le_refl _) B45)
  have B35 := hideC (nextB HB4.out (Nat.le_refl _) B45)
  have l5 := U5.out.lt
  have z34 := HB4.out.size
  have d5 := fun j => U5.out.cell j
  clear A4 A2 HN2 HF2 HN4 HT4 B45 KT TT HA
  by_cases h1 : 1 < l.length
  · have h1' : (1 : Int) < (l.length : Int) := by omega
    obtain ⟨b, rfl, hb1, hb2⟩ := HO3.out.2.1 (fun e => by rw [e] at h1; simp at h1)
    have hbw : w.heap.size ≤ b := by
      have := HB2.out.size
      have : w2.heap.size + 1 ≤ b := by simpa using hb1
      omega
    have RV := hideC (reverse_any _ b C3 l w5 (by omega) (own_of_block HO3.out.2.2 fun k hk => B35.out.block k (HO3.out.2.2.lt k hk).2))
    have O2 : Hid (∀ W : World, RowAt W.heap.size W (some ⟨b, 0, none⟩) (flatE l.reverse) → Calls Tryz.prog 17 #[.slice (some ⟨b, 0, none⟩) l.length C3] W fun e w' => e = .returned (.tuple #[.agg #[.slice none 0 0, .int .i64 0], .int .i64 8]) ∧ Below W.heap.size W w') := fun W hW => by
      have c := of_no (some ⟨b, 0, none⟩) C3 l.reverse W hW (fun e => by cases e) (HR2.out (by omega)) (by rw [List.length_reverse]; omega)
      rw [List.length_reverse] at c
      exact c
    go_wp2_with (first
      | (go_at_call 18; refine RV.out.mono ?_; rintro e w6 ⟨rfl, ho6, hk6⟩; have R6 := hideC (own_ok ho6).1; have U6 := hideC (U5.out.of_block (hk6.block _ l5 (by simp; omega))); have N6 := hideC (N5.out.of_blocks fun k hk => hk6.block k (N5.out.lt k hk).2 (by have := (N5.out.lt k hk).1; simp; omega)); have H6 : Hid (Below w.heap.size w w6) := ⟨hk6.os.trans H5.out.os, hk6.tape.trans H5.out.tape, hk6.output.trans H5.out.output, Nat.le_trans H5.out.size hk6.size, fun k hk => (hk6.block k (by have := H5.out.size; omega) (by simp; omega)).trans (H5.out.block k hk)⟩; clear ho6 hk6 d5)
      | (go_at_call 17; refine (O2.out _ R6.out).mono ?_; rintro e w7 ⟨rfl, hb7⟩; have U7 := hideC (U6.out.below hb7 U6.out.lt); have N7 := hideC (N6.out.below hb7 (Nat.le_refl _)); have H7 := hideC (nextB H6.out (Nat.le_refl _) hb7); have d7 := fun j => U7.out.cell j; have l7 := U7.out.lt; clear hb7)
      | (go_at_call 19; refine (C4K.out _ N7.out.nodes).mono ?_; rintro e w8 ⟨rfl, hb8⟩))
    go_ret
    exact ⟨rfl, nextB H7.out (Nat.le_refl _) hb8⟩
  · have h1' : ¬ (1 : Int) < (l.length : Int) := by omega
    go_wp2_with (first
      | (go_at_call 19; refine (C4K.out _ N5.out.nodes).mono ?_; rintro e w8 ⟨rfl, hb8⟩))
    go_ret
    exact ⟨rfl, nextB H5.out (Nat.le_refl _) hb8⟩

set_option maxRecDepth 100000 in
theorem treesOf_lifted (os : Os) (started : os.Started) (H : Type) (enc : TypeId × Value → H) :
    ReturnsInHanded {} Tryz.checked os 5 .any (fun w args => (Rows.treesOfSpec.pre enc Tryz.prog Tryz.f5 [] false w args ∧ laidMetH Tryz.prog laidSz w) ∧ sizedMet enc Tryz.prog Tryz.f5 (OpenSpec.ofChange Rows.treesOfSpec) false w args)
      (Rows.treesOfSpec.post enc Tryz.prog Tryz.f5 false true false false) := by
  refine returnsInHanded_of_change_and (C := Tryz.checked) (X := fun w _ => laidMetH Tryz.prog laidSz w) (fun _ _ _ hh h => h.of_heap hh) own started (by kernel_rfl) Tryz.func5
    (ChangeSpec.witness_at (enc := enc) (C := Tryz.checked) (os := os) (X := fun w _ => laidMetH Tryz.prog laidSz w) false (World.laidAll Tryz.prog os laidSz) #[.slice none 0 0] 8 (World.laidAll_os _ _ _) (by kernel_rfl) (by kernel_rfl) (by kernel_rfl) (by kernel_rfl) (by kernel_rfl)
      (by rw [MakeChecks.laidMetH_plain _ _ _ (by kernel_rfl)]; exact laidMet_laidAll _ (by kernel_rfl) (by kernel_rfl))) ?_
  intro W base args ds gs before hval0 hW _ hsz0 hL _
  have hval : ∀ (j : Nat) t v, Tryz.f5.params[j]? = some t → args[j]? = some v → Value.okWide Tryz.prog W .any base t v := hval0
  have hW' := hW
  obtain ⟨p, q, hA0, hV, rfl, hfz, hnd⟩ := hW
  have hA : DataW.TrodAll enc Tryz.prog W 0 (fun _ => true) true Tryz.f5.params.toList args.toList ds p := hA0
  have hsz : (DataW.weightsEach Tryz.prog (Tryz.f5.params.toList ++ Rows.treesOfSpec.plain.varTypes Tryz.prog) (ds ++ gs)).all (· ≤ reachBytes) = true := hsz0
  rw [Tryz.params5] at hA hval hsz
  obtain ⟨v0, vs0, d0, ds0, p0, q0, hargs, rfl, rfl, h0, r0⟩ := trodAll_cons hA
  obtain ⟨rfl, rfl, rfl⟩ := trodAll_nil r0
  obtain rfl : args = #[v0] := by cases args; simp_all
  obtain ⟨rfl, rfl⟩ := trodVars_none hV
  have k0 := h0
  have lt0 : ∀ x ∈ p0, x.block < W.heap.size := by obtain ⟨m, hm⟩ := k0; exact DataW.trod_lt m _ _ _ hm
  obtain ⟨A0, C0, xs0, rfl, hR0, hz0, hw0⟩ := open_rawsArg (hval 0 22 v0 rfl rfl) h0 (fun n hn => by
    have := List.all_eq_true.1 hsz n (DataW.weights_mem_each (j := 0) (t := 22) rfl rfl n hn)
    exact of_decide_eq_true this)
  clear hA0 hval0 hsz0
  refine (treesOf_walk A0 C0 xs0 W (szAt_of hL) hR0 hz0 hw0).mono fun e W' ⟨he, bel⟩ => ?_
  subst he
  exact ⟨_, rfl, _, _, _, [], _, [], hW', trodAll_mk1 (shut_bool Tryz.underlying4 _), (trodAll_cons_mk (Below.trod laidOut (by kernel_rfl) (of_decide_eq_true (by kernel_rfl)) k0 bel lt0) trodAll_mk0), rfl, bel.frame _, fun h => by cases h⟩

theorem treesOf_holds : Rows.TreesOfSaid :=
  OpenClaim.holds_of_wide 5 Tryz.f5 rfl rfl rfl rfl rfl rfl rfl ⟨rfl, rfl, rfl, rfl, rfl⟩ rfl rfl rfl rfl rfl (by kernel_rfl) Tryz.func5 (by kernel_rfl)
    (of_decide_eq_true (by kernel_rfl)) (by unfold Func.isWrapper; first | (rw [if_pos (by decide +kernel)]; kernel_rfl) | (rw [if_neg (by decide +kernel)]; exact ⟨rfl, rfl⟩))
    (fun os started H enc _ => treesOf_lifted os started H enc)

theorem treesOfCard_holds : Rows.TreesOfCardSaid :=
  Claim7.holds_tied_plain_at .later [] [.data] true (true, "1cef10210324de520e3d696ebb71de6e12924da4b5318bc055a49091c079c855") false treesOf_holds (fun _ h => by cases h) (by kernel_rfl) (fun _ h => by cases h) treesOf_row_tie rfl ⟨rfl, rfl⟩ (by kernel_rfl) rfl
    (fun f fn hf hfn => by
      obtain rfl : f = 5 := Option.some.inj ((show Tryz.prog.funcNamed "winnower/winnowerkeep.TreesOf" = some 5 by kernel_rfl).symm.trans hf) |>.symm
      obtain rfl : fn = Tryz.f5 := (Option.some.inj (Tryz.func5.symm.trans hfn)).symm
      exact ⟨by kernel_rfl, fun j t ht => by
        rw [Tryz.params5] at ht
        have hm : t ∈ [22] := by simpa using Array.mem_of_getElem? ht
        have hall : ([22].all fun u => !Tryz.prog.wantsStandIn u) = true := by kernel_rfl
        exact (show Tryz.prog.wantsStandIn t = false by simpa using List.all_eq_true.1 hall t hm)⟩)
    (by kernel_rfl)
#print axioms treesOfCard_holds
end Go.Proofs.YtlojfgdpmaigmacGreatDoor

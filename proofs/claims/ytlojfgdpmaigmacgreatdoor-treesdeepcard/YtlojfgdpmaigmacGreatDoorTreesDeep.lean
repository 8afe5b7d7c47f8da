/- For any two numbers, a tree into which package tree's Put has put that many keys is not deep. No condition beside the table of sizes, which is tied to the program's text. -/
import Derived.Test.YtlojfgdpmaigmacGreatDoorP51
import Derived.Test.YtlojfgdpmaigmacGreatDoorP47
import Derived.Test.YtlojfgdpmaigmacGreatDoorP02
import Derived.Test.YtlojfgdpmaigmacGreatDoorLaidSz
import Derived.ChangeMaps5
namespace Go.Proofs.YtlojfgdpmaigmacGreatDoor
open Go.ChangeShapes Go.WideShapes Go.ChangeAt Go.RowKit Plain Go.Shelf

theorem Knows.allP {ns : List Nd} {root : Int} {l : List En} (h : Knows ns root l) : allP ns root 0 1099511627776 = (0, l) :=
  allP_of h.ok (by rw [allR_all h.ok]; exact h.all)

/-- A tree that knows of few keys, each of few points. -/
structure DeepK (i : Nat) (ns : List Nd) (root : Int) (l : List En) : Prop where
  kn : Knows ns root l
  len : l.length ≤ i
  cnt : ∀ k, cntK k l ≤ i

theorem put_deep (A : Option Addr) (C i : Nat) (root key t v : Int) (ps : List PN) (l : List En) (W : World) (hN : NodesAt W.heap.size W A ps) (hK : DeepK i (ps.map PN.nd) root l) (hi : i ≤ 500) (hk : 0 ≤ key ∧ key ≤ 1099511627775) (ht : 0 ≤ t ∧ t ≤ 1048575) (hv : -1000000 ≤ v ∧ v ≤ 1000000) :
    Calls Tryz.prog 13 #[.agg #[.slice A ps.length C, .int .i64 root], .int .i64 key, .agg #[.int .i64 1, .int .i64 v, .int .i64 v, .int .i64 v, .int .i64 t, .int .i64 v]] W
      fun e w' => (∃ g C' qs root2 ys, e = .returned (.tuple #[.agg #[.slice (some ⟨g, 0, none⟩) qs.length C', .int .i64 root2], .int .i64 0]) ∧ NT W.heap.size w' g C' qs ∧ DeepK (i + 1) (qs.map PN.nd) root2 ys) ∧ Below W.heap.size W w' := by
  have hg := one_good ht hv
  have hcode := put_code (key := key) hK.kn.allP hg hk
  have hins : ∃ ys, ins l (mkE key (one t v)) = some ys ∧ putF (ps.map PN.nd) root key (one t v) = 0 := by
    rcases hcode with ⟨h1, ys, h2⟩ | ⟨_, h2⟩
    · exact ⟨ys, h2, h1⟩
    · have h3 := ins_none (good_pos hK.kn.good) h2
      have h4 := hK.cnt key
      have h5 : (mkE key (one t v)).c = 1 := rfl
      have h6 : (mkE key (one t v)).key = key := rfl
      rw [h5, h6] at h3
      omega
  obtain ⟨ys, hys, hF⟩ := hins
  refine (put_any A C root key (one t v) ps W hN (treeC_wf hK.kn.ok)).mono ?_
  intro e w' h
  rcases h with ⟨h0, _, _⟩ | ⟨_, _, hP⟩
  · exact absurd hF h0
  · obtain ⟨ns2, root2, hok, hb, hres⟩ := hP.res
    obtain ⟨hg2, hl2⟩ := ins_good (x := mkE key (one t v)) hg hK.kn.good hys
    have hfew := hK.kn.put_few hok hys
    have hlen := hK.len
    rcases hres with ⟨h2, _⟩ | ⟨h2, g, C', qs, rfl, hNT, rfl⟩
    · omega
    · refine ⟨⟨g, C', qs, root2, ys, rfl, hNT, knows_allP (put_allP hK.kn.allP hF hok h2 hys), by omega, fun k => ?_⟩, hb⟩
      have h3 := ins_cnt (k := k) hys
      have h4 := hK.cnt k
      have h5 : (mkE key (one t v)).c = 1 := rfl
      rw [h3, h5]
      split <;> omega

/-- The box of the tree, and what the tree knows. -/
structure DpA (w wr : World) (tb i g C : Nat) (qs : List PN) (root : Int) (l : List En) : Prop where
  below : Below w.heap.size w wr
  bt : RowL wr tb 26 [.slice (some ⟨g, 0, none⟩) qs.length C, .int .i64 root]
  nt : NT w.heap.size wr g C qs
  kn : DeepK i (qs.map PN.nd) root l
  tf : tb ∉ feet g qs
  t1 : w.heap.size ≤ tb

theorem DpA.next {w wr w' : World} {tb i g C : Nat} {qs : List PN} {root : Int} {l : List En} (h : DpA w wr tb i g C qs root l) (hb : Below wr.heap.size wr w') : DpA w w' tb i g C qs root l :=
  ⟨nextB h.below (Nat.le_refl _) hb, h.bt.below hb h.bt.lt, h.nt.below hb (Nat.le_refl _), h.kn, h.tf, h.t1⟩

theorem setT2_block (w : World) (t : Nat) (a b : Value) {k : Nat} (hk : k ≠ t) : ((w.setCell ⟨t, 0, none⟩ a).setCell ⟨t, 1, none⟩ b).heap[k]? = w.heap[k]? := by
  simp only [Below.heap_setCell _ _ _ _ (show k ≠ (⟨t, _, none⟩ : Addr).block from hk)]

theorem DpA.turn {w wr : World} {tb i j g C B g' C' : Nat} {qs qs' : List PN} {root root' : Int} {l ys : List En} (h : DpA w wr tb i g C qs root l) (hn : NT B wr g' C' qs') (hB : w.heap.size ≤ B) (ht : tb < B) (hk : DeepK j (qs'.map PN.nd) root' ys) :
    DpA w ((wr.setCell ⟨tb, 0, none⟩ (.slice (some ⟨g', 0, none⟩) qs'.length C')).setCell ⟨tb, 1, none⟩ (.int .i64 root')) tb j g' C' qs' root' ys := by
  have hf := hn.lt
  have h1 := h.t1
  refine ⟨(h.below.setCell (p := ⟨tb, 0, none⟩) h1 _).setCell (p := ⟨tb, 1, none⟩) h1 _, (h.bt.set 0 _).set 1 _, (hn.of_blocks fun k hk => setT2_block _ _ _ _ (by have := (hf k hk).1; omega)).low hB, hk, fun e => ?_, h1⟩
  have := (hf _ e).1
  omega

theorem deep_new : DeepK 0 ([zleaf].map PN.nd) 0 [] := ⟨knows_allP new_allP, by simp, fun k => by simp [cntK]⟩

theorem new_nt {w w' : World} {g : Nat} (hg : w.heap.size ≤ g) (hr : RowL w' g 84 [.bool true, .slice none 0 0, .slice none 0 0, .slice none 0 0, .slice none 0 0]) : NT w.heap.size w' g 1 [zleaf] := by
  have hot : OwnTree w.heap.size w' g [zleaf] := ⟨hr, hg, fun q hq => by
      obtain rfl : q = zleaf := by simpa using hq
      exact ⟨World.ownsRow_nil _ _ _ _, World.ownsRow_nil _ _ _ _, World.ownsRow_nil _ _ _ _, World.ownsRow_nil _ _ _ _, by decide, by decide, by decide, by decide⟩, by simp [zleaf, PN.blocks], by decide⟩
  exact put_nt hot rfl (by decide) (Nat.le_refl _)

theorem dp_start {w W w2 : World} {g : Nat} (hW : Below w.heap.size w W) (hg : W.heap.size ≤ g) (hr : RowL w2 g 84 [.bool true, .slice none 0 0, .slice none 0 0, .slice none 0 0, .slice none 0 0]) (hb : Below W.heap.size W w2) :
    DpA w (w2.alloc (.cells #[.slice (some ⟨g, 0, none⟩) 1 1, .int .i64 0] 26)) w2.heap.size 0 g 1 [zleaf] 0 [] := by
  have hlt := hr.lt
  have h1 := hW.size
  have h2 := hb.size
  have hnt := new_nt hg hr
  refine ⟨(nextB hW (Nat.le_refl _) hb).alloc (by omega) _, rowL_alloc w2 [.slice (some ⟨g, 0, none⟩) 1 1, .int .i64 0] _, (hnt.below ((Below.refl _ _).alloc (Nat.le_refl _) _) (Nat.le_refl _)).low h1, deep_new, fun e => ?_, by omega⟩
  have := (hnt.lt _ e).2
  omega

set_option maxRecDepth 20000 in
set_option maxHeartbeats 4000000 in
theorem treesDeep_walk (n step : Int) (w : World) (hZ : SzAt w) (hn : (Lit.int .i64 n).wf = true) (hst : (Lit.int .i64 step).wf = true) :
    Calls Tryz.prog 6 #[.int .i64 n, .int .i64 step] w fun e w' => e = .returned (.bool true) ∧ Below w.heap.size w w' := by
  have bn : -9223372036854775808 ≤ n ∧ n ≤ 9223372036854775807 := by
    simp [Lit.wf, IntKind.min, IntKind.max, IntKind.signed, IntKind.bits] at hn
    omega
  have bs : -9223372036854775808 ≤ step ∧ step ≤ 9223372036854775807 := by
    simp [Lit.wf, IntKind.min, IntKind.max, IntKind.signed, IntKind.bits] at hst
    omega
  have p1 := pick_bd n (show (0 : Int) < 200 by decide)
  have p2 := pick_bd step (show (0 : Int) < 50 by decide)
  have TT := hideC (tells_any w hZ)
  have PK1 := hideC fun W => picked_any n 200 W bn.1 bn.2 (by decide) (by decide)
  have PK2 := hideC fun W => picked_any step 50 W bs.1 bs.2 (by decide) (by decide)
  obtain ⟨u, hu⟩ : ∃ u, pick n 200 = u := ⟨_, rfl⟩
  obtain ⟨s0, hs0⟩ : ∃ s0, pick step 50 = s0 := ⟨_, rfl⟩
  rw [hu] at PK1 p1
  rw [hs0] at PK2 p2
  clear hu hs0 bn bs hn hst hZ
  have k1 : IntKind.i64.wrap (1 + u) = 1 + u := by rw [IntKind.wrap_i64]; omega
  have k2 : IntKind.i64.wrap (2 * s0) = 2 * s0 := by rw [IntKind.wrap_i64]; omega
  have k3 : IntKind.i64.wrap (1 + 2 * s0) = 1 + 2 * s0 := by rw [IntKind.wrap_i64]; omega
  have k4 : IntKind.i64.wrap (2 * (1 + u)) = 2 * (1 + u) := by rw [IntKind.wrap_i64]; omega
  go_enter Tryz.func6, Tryz.ntmps6
  go_wp2_with (first
    | (go_at_call 7; refine TT.out.mono ?_; rintro e w1 ⟨rfl, hb1⟩)
    | (go_at_call_of 9 n; refine (PK1.out _).mono ?_; rintro e wx ⟨rfl, hwx⟩; subst wx)
    | (go_at_call_of 9 step; refine (PK2.out _).mono ?_; rintro e wy ⟨rfl, hwy⟩; subst wy)
    | (go_at_call 20; refine (newT_any _).mono ?_; rintro e w2 ⟨g0, rfl, hg0, hr0, hb0⟩; have HS := hideC (dp_start hb1 hg0 hr0 hb0); clear hg0 hr0 hb0))
  obtain ⟨tb, htb⟩ : ∃ tb, tb = w2.heap.size := ⟨_, rfl⟩
  rw [← htb] at HS ⊢
  clear htb TT PK1 PK2 hb1
  go_loopw [24] (fun vi wr => ∃ (i g C : Nat) (qs : List PN) (root : Int) (l : List En), (i : Int) ≤ 1 + u ∧ vi = .int .i64 (i : Int) ∧ DpA w wr tb i g C qs root l) (fun vi _ => (1 + u).toNat - (intOf vi).toNat)
  case atStart => exact ⟨0, g0, 1, [zleaf], 0, [], by omega, rfl, HS.out⟩
  case round =>
    obtain ⟨i, g, C, qs, root, l, hiu, rfl, hat⟩ := hrel
    clear HS
    have t0 : wr.cell? ⟨tb, 0, none⟩ = some (.slice (some ⟨g, 0, none⟩) qs.length C) := hat.bt.cell 0
    have t1 : wr.cell? ⟨tb, 1, none⟩ = some (.int .i64 root) := hat.bt.cell 1
    have lt := hat.bt.lt
    by_cases hlt : (i : Int) < 1 + u
    · obtain ⟨z, hz⟩ : ∃ z, (i : Int) * (1 + 2 * s0) = z := ⟨_, rfl⟩
      have hzb : 0 ≤ z ∧ z ≤ 20000 := by
        rw [← hz]
        refine ⟨Int.mul_nonneg (by omega) (by omega), ?_⟩
        have : (i : Int) * (1 + 2 * s0) ≤ 200 * 100 := Int.mul_le_mul (by omega) (by omega) (by omega) (by omega)
        omega
      obtain ⟨m, hm⟩ : ∃ m, z % 211 = m := ⟨_, rfl⟩
      have z1 : IntKind.i64.wrap z = z := by rw [IntKind.wrap_i64]; omega
      have z2 : z.tmod 211 = m := by rw [Int.tmod_eq_emod_of_nonneg hzb.1]; exact hm
      have hmb : 0 ≤ m ∧ m < 211 := by omega
      have z3 : IntKind.i64.wrap m = m := by rw [IntKind.wrap_i64]; omega
      have z4 : IntKind.i64.wrap (m * 3) = m * 3 := by rw [IntKind.wrap_i64]; omega
      have OF := hideC fun W => of_yes (i : Int) (i : Int) W ((inB_iff _ _ _).2 (by omega)) ((inB_iff _ _ _).2 (by omega))
      have HA := hideC hat
      clear hm hat
      go_wp2_with (first
        | (go_at_call 21; refine (OF.out _).mono ?_; rintro e w3 ⟨rfl, hb3⟩; have H3 := hideC (HA.out.next hb3); have H4 := hideC (H3.out.next ((Below.refl _ _).alloc (Nat.le_refl _) (.cells #[.int .i64 1, .int .i64 (i : Int), .int .i64 (i : Int), .int .i64 (i : Int), .int .i64 (i : Int), .int .i64 (i : Int)] 38))); have t30 : w3.cell? ⟨tb, 0, none⟩ = some (.slice (some ⟨g, 0, none⟩) qs.length C) := H3.out.bt.cell 0; have t31 : w3.cell? ⟨tb, 1, none⟩ = some (.int .i64 root) := H3.out.bt.cell 1; have lt3 := H3.out.bt.lt; clear hb3 t0 t1)
        | (go_at_call 13; refine (put_deep (some ⟨g, 0, none⟩) C i root (m * 3) (i : Int) (i : Int) qs l _ H4.out.nt.nodes H4.out.kn (by omega) (by omega) (by omega) (by omega)).mono ?_; rintro e w5 ⟨⟨g5, C5, q5, root5, ys, rfl, hNT5, hk5⟩, hb5⟩; have H5 := hideC (H4.out.next hb5); have N5 := hideC hNT5; have K5 := hideC hk5; have lt5 := H5.out.bt.lt; have d5 := fun j => H5.out.bt.cell j; have f5 := fun j => H5.out.bt.frozen j; clear hb5 hNT5 hk5 t30 t31))
      go_roundw
      case rel =>
        go_light
        exact ⟨i + 1, g5, C5, q5, root5, ys, by omega, by go_num, (H5.out.turn N5.out (by have := H3.out.below.size; simp; omega) (by simp; omega) K5.out).next ((Below.refl _ _).alloc (Nat.le_refl _) _)⟩
      case measure => simp [intOf]; omega
    · have hiu' : (i : Int) = 1 + u := by omega
      have hnd := hat.kn.kn.nodes
      have hln := hat.kn.len
      have hz := hat.nt.z
      rw [List.length_map] at hnd
      have hle : (qs.length : Int) ≤ 2 * (1 + u) := by omega
      have CK := hideC (checkT_any (some ⟨g, 0, none⟩) C root qs wr hat.nt.nodes (treeC_wf hat.kn.kn.ok))
      rw [hat.kn.kn.ok] at CK
      have HA := hideC hat
      clear hat hnd hln
      go_wp2_with (first
        | (go_at_call 19; refine CK.out.mono ?_; rintro e w6 ⟨rfl, hb6⟩; have H6 := hideC (HA.out.next hb6); have t60 : w6.cell? ⟨tb, 0, none⟩ = some (.slice (some ⟨g, 0, none⟩) qs.length C) := H6.out.bt.cell 0; clear hb6 t0 t1))
      go_ret
      exact ⟨rfl, H6.out.below⟩

set_option maxRecDepth 100000 in
theorem treesDeep_lifted (os : Os) (started : os.Started) (H : Type) (enc : TypeId × Value → H) :
    ReturnsInHanded {} Tryz.checked os 6 .any (fun w args => (Rows.treesDeepSpec.pre enc Tryz.prog Tryz.f6 [] false w args ∧ laidMetH Tryz.prog laidSz w) ∧ sizedMet enc Tryz.prog Tryz.f6 (OpenSpec.ofChange Rows.treesDeepSpec) false w args)
      (Rows.treesDeepSpec.post enc Tryz.prog Tryz.f6 false true false false) := by
  refine returnsInHanded_of_change_and (C := Tryz.checked) (X := fun w _ => laidMetH Tryz.prog laidSz w) (fun _ _ _ hh h => h.of_heap hh) own started (by kernel_rfl) Tryz.func6
    (ChangeSpec.witness_at (enc := enc) (C := Tryz.checked) (os := os) (X := fun w _ => laidMetH Tryz.prog laidSz w) false (World.laidAll Tryz.prog os laidSz) #[.int .i64 0, .int .i64 0] 8 (World.laidAll_os _ _ _) (by kernel_rfl) (by kernel_rfl) (by kernel_rfl) (by kernel_rfl) (by kernel_rfl)
      (by rw [MakeChecks.laidMetH_plain _ _ _ (by kernel_rfl)]; exact laidMet_laidAll _ (by kernel_rfl) (by kernel_rfl))) ?_
  intro W base args ds gs before hval0 hW _ hsz0 hL _
  have hval : ∀ (j : Nat) t v, Tryz.f6.params[j]? = some t → args[j]? = some v → Value.okWide Tryz.prog W .any base t v := hval0
  have hW' := hW
  obtain ⟨p, q, hA0, hV, rfl, hfz, hnd⟩ := hW
  have hA : DataW.TrodAll enc Tryz.prog W 0 (fun _ => true) true Tryz.f6.params.toList args.toList ds p := hA0
  have hsz : (DataW.weightsEach Tryz.prog (Tryz.f6.params.toList ++ Rows.treesDeepSpec.plain.varTypes Tryz.prog) (ds ++ gs)).all (· ≤ reachBytes) = true := hsz0
  rw [Tryz.params6] at hA hval hsz
  obtain ⟨v0, vs0, d0, ds0, p0, q0, hargs, rfl, rfl, h0, r0⟩ := trodAll_cons hA
  obtain ⟨v1, vs1, d1, ds1, p1, q1, rfl, rfl, rfl, h1, r1⟩ := trodAll_cons r0
  obtain ⟨rfl, rfl, rfl⟩ := trodAll_nil r1
  obtain rfl : args = #[v0, v1] := by cases args; simp_all
  obtain ⟨rfl, rfl⟩ := trodVars_none hV
  have k0 := h0
  have lt0 : ∀ x ∈ p0, x.block < W.heap.size := by obtain ⟨m, hm⟩ := k0; exact DataW.trod_lt m _ _ _ hm
  obtain ⟨a0, rfl, w0⟩ : ∃ n : Int, v0 = .int .i64 n ∧ (Lit.int .i64 n).wf = true := by
    obtain ⟨n, h, _, _, w⟩ := open_int Tryz.underlying3 (hval 0 3 v0 rfl rfl) h0; exact ⟨n, h, w⟩
  have k1 := h1
  have lt1 : ∀ x ∈ p1, x.block < W.heap.size := by obtain ⟨m, hm⟩ := k1; exact DataW.trod_lt m _ _ _ hm
  obtain ⟨a1, rfl, w1⟩ : ∃ n : Int, v1 = .int .i64 n ∧ (Lit.int .i64 n).wf = true := by
    obtain ⟨n, h, _, _, w⟩ := open_int Tryz.underlying3 (hval 1 3 v1 rfl rfl) h1; exact ⟨n, h, w⟩
  clear hA0 hval0 hsz0
  refine (treesDeep_walk a0 a1 W (szAt_of hL) w0 w1).mono fun e W' ⟨he, bel⟩ => ?_
  subst he
  exact ⟨_, rfl, _, _, _, [], _, [], hW', trodAll_mk1 (shut_bool Tryz.underlying4 _), (trodAll_cons_mk (Below.trod laidOut (by kernel_rfl) (of_decide_eq_true (by kernel_rfl)) k0 bel lt0) (trodAll_cons_mk (Below.trod laidOut (by kernel_rfl) (of_decide_eq_true (by kernel_rfl)) k1 bel lt1) trodAll_mk0)), rfl, bel.frame _, fun h => by cases h⟩

theorem treesDeep_holds : Rows.TreesDeepSaid :=
  OpenClaim.holds_of_wide 6 Tryz.f6 rfl rfl rfl rfl rfl rfl rfl ⟨rfl, rfl, rfl, rfl, rfl⟩ rfl rfl rfl rfl rfl (by kernel_rfl) Tryz.func6 (by kernel_rfl)
    (of_decide_eq_true (by kernel_rfl)) (by unfold Func.isWrapper; first | (rw [if_pos (by decide +kernel)]; kernel_rfl) | (rw [if_neg (by decide +kernel)]; exact ⟨rfl, rfl⟩))
    (fun os started H enc _ => treesDeep_lifted os started H enc)

theorem treesDeepCard_holds : Rows.TreesDeepCardSaid :=
  Claim7.holds_tied_plain_at .later [] [.data] true (true, "1cef10210324de520e3d696ebb71de6e12924da4b5318bc055a49091c079c855") false treesDeep_holds (fun _ h => by cases h) (by kernel_rfl) (fun _ h => by cases h) treesDeep_row_tie rfl ⟨rfl, rfl⟩ (by kernel_rfl) rfl
    (fun f fn hf hfn => by
      obtain rfl : f = 6 := Option.some.inj ((show Tryz.prog.funcNamed "winnower/winnowerkeep.TreesDeep" = some 6 by kernel_rfl).symm.trans hf) |>.symm
      obtain rfl : fn = Tryz.f6 := (Option.some.inj (Tryz.func6.symm.trans hfn)).symm
      exact ⟨by kernel_rfl, fun j t ht => by
        rw [Tryz.params6] at ht
        have hm : t ∈ [3, 3] := by simpa using Array.mem_of_getElem? ht
        have hall : ([3, 3].all fun u => !Tryz.prog.wantsStandIn u) = true := by kernel_rfl
        exact (show Tryz.prog.wantsStandIn t = false by simpa using List.all_eq_true.1 hall t hm)⟩)
    (by kernel_rfl)
#print axioms treesDeepCard_holds
end Go.Proofs.YtlojfgdpmaigmacGreatDoor

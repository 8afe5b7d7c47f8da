/- For every list of raw things, every series, and any two times, a total is what all the series' points between them come to, whichever buckets are asked; of a series without points there is none. No condition beside the table of sizes, which is tied to the program's text. -/
import Derived.Test.YtlojfgdpmaigmaeGreatDoorP51
import Derived.Test.YtlojfgdpmaigmaeGreatDoorLaidSz
import Derived.ChangeMaps5
namespace Go.Proofs.YtlojfgdpmaigmaeGreatDoor
open Go.ChangeShapes Go.WideShapes Go.ChangeAt Go.RowKit Plain Go.Shelf

theorem wf_b {z : Int} (h : (Lit.int .i64 z).wf = true) : i64B z := i64_wf h

theorem contains_idx (ss : List ByteArray) (x : ByteArray) : Lib.containsS ss x = decide (0 ≤ Lib.idxOfS ss x) := by
  rw [Bool.eq_iff_iff, Lib.containsS_iff, decide_eq_true_eq, Lib.idxOfS_nonneg_iff]

theorem pts_ok {f : Int} {ss : List ByteArray} {t0 t1 t2 : TR} {pts : List Pt} (h : KB ss f t0 t1 t2 pts) : ∀ p ∈ pts, ∃ f, Pt.ok f p := fun p hp => by
  obtain ⟨_, _, _, k⟩ := h
  exact ⟨f, (k.pt p hp).2⟩

set_option maxRecDepth 20000 in
set_option maxHeartbeats 4000000 in
theorem basesTotal_walk (A : Option Addr) (C : Nat) (xs : List Rw) (n from_ more : Int) (w : World) (hZ : SzAt w) (hA : RowAt w.heap.size w A (flatR xs)) (_ : xs.length * 32 ≤ 140737488351232) (hwf : ∀ x ∈ xs, x.wf) (hn : (Lit.int .i64 n).wf = true) (hf : (Lit.int .i64 from_).wf = true) (hm : (Lit.int .i64 more).wf = true) :
    Calls Tryz.prog 4 #[.slice A xs.length C, .int .i64 n, .int .i64 from_, .int .i64 more] w fun e w' => e = .returned (.bool true) ∧ Below w.heap.size w w' := by
  have bf := wf_b hf
  have bm := wf_b hm
  have p1 := pick_bd from_ (show (0 : Int) < 9000 by decide)
  have p2 := pick_bd more (show (0 : Int) < 9000 by decide)
  have KB1 := hideC (kbase_any A C xs 40 w hZ hA hwf (by decide) (by decide))
  have hlen : ((xs.take (40 : Int).toNat).map rawPt).length ≤ 40 := by simp; omega
  obtain ⟨pts, hpts⟩ : ∃ pts, (xs.take (40 : Int).toNat).map rawPt = pts := ⟨_, rfl⟩
  rw [hpts] at KB1 hlen
  have KN := hideC fun W => kname_any n W (wf_b hn)
  obtain ⟨s, hs⟩ : ∃ s, nmS (pick n 4) = s := ⟨_, rfl⟩
  rw [hs] at KN
  have PF := hideC fun W => picked_any from_ 9000 W bf.1 bf.2 (by decide) (by decide)
  have PM := hideC fun W => picked_any more 9000 W bm.1 bm.2 (by decide) (by decide)
  obtain ⟨a, ha⟩ : ∃ a, pick from_ 9000 = a := ⟨_, rfl⟩
  obtain ⟨d, hd⟩ : ∃ d, pick more 9000 = d := ⟨_, rfl⟩
  rw [ha] at PF p1
  rw [hd] at PM p2
  have k1 : IntKind.i64.wrap (a + d) = a + d := by rw [IntKind.wrap_i64]; omega
  have hsp : spanB a (a + d) = true := by simp only [spanB, Bool.and_eq_true, decide_eq_true_eq]; omega
  have HZ := hideC hZ
  clear hpts hs ha hd hA hwf hn hf hm bf bm hZ
  go_enter Tryz.func4, Tryz.ntmps4
  go_upto_region 5 with (first
    | (go_at_call 13; refine KB1.out.mono ?_; rintro e w1 ⟨A1, PA1, C1, PC1, ss, t0, t1, t2, he, ho, hk, hf4, hr, hb⟩; obtain ⟨A10, C10, q0, s0⟩ := t0; obtain ⟨A11, C11, q1, s1⟩ := t1; obtain ⟨A12, C12, q2, s2⟩ := t2; have BA1 := hideC (ho.at hk); have K1 := hideC hk; have R1 := hideC hr; have HB1 := hideC hb; have X1 := hideC (rowL_alloc w1 (baseV A1 C1 ss ⟨A10, C10, q0, s0⟩ ⟨A11, C11, q1, s1⟩ ⟨A12, C12, q2, s2⟩ 0) 28); have HO1 := hideC (pts_ok hk); simp only [baseV] at he; subst he; clear ho hk hf4 hr hb KB1)
    | (go_at_call 14; refine (KN.out _).mono ?_; rintro e w2 ⟨rfl, hb2⟩; have HB2 := hideC (nextB ((Below.refl _ _).alloc (Nat.le_refl _) _) (Nat.le_refl _) hb2); have X2 := hideC (X1.out.below hb2 X1.out.lt); clear hb2 X1 KN)
    | (go_at_call_of 15 from_; refine (PF.out _).mono ?_; rintro e wx ⟨rfl, hwx⟩; subst wx)
    | (go_at_call_of 15 more; refine (PM.out _).mono ?_; rintro e wy ⟨rfl, hwy⟩; subst wy))
  clear PF PM
  have x2 := fun j => X2.out.cell j
  simp only [baseV] at x2
  have CT := hideC fun W (hW : Below w1.heap.size w1 W) => contains_any A1 C1 ss s W (BA1.out.up hW).st
  have CK := hideC fun W (hW : Below w1.heap.size w1 W) => bcheck_kn (HZ.out.below (nextB HB1.out (Nat.le_refl _) hW)) (BA1.out.up hW) K1.out
  simp only [baseV] at CK
  rw [contains_idx] at CT
  by_cases hx : 0 ≤ Lib.idxOfS ss s
  · have TK := hideC fun W (hW : Below w1.heap.size w1 W) => total_kn (HZ.out.below (nextB HB1.out (Nat.le_refl _) hW)) (BA1.out.up hW) K1.out (x := s) (a := a) (b := a + d) hx hsp (by omega)
    have KK := hideC fun W (hW : Below w1.heap.size w1 W) => knownK_any PA1 PC1 pts s a (a + d) W (R1.out.up hW) (by omega) HO1.out
    rw [show decide (0 ≤ Lib.idxOfS ss s) = true by simpa using hx] at CT
    obtain ⟨S, hS⟩ : ∃ S, sumR (ofPts s a (a + d) pts) = S := ⟨_, rfl⟩
    rw [hS] at TK KK
    simp only [baseV, ruV] at TK KK
    clear hS hx
    go_upto_region 8 with (first
      | (go_at_call 16; refine (TK.out _ HB2.out).mono ?_; rintro e w4 ⟨rfl, hb4⟩; have HB4 := hideC (nextB HB2.out (Nat.le_refl _) hb4); have X4 := hideC (X2.out.below hb4 X2.out.lt); have x4 := fun j => X4.out.cell j; simp only [baseV] at x4; have l4 := X4.out.lt; clear hb4 x2)
      | (go_at_call 17; refine (CT.out _ (HB4.out.alloc HB4.out.size _)).mono ?_; rintro e w5 ⟨rfl, hw5⟩; subst w5))
    have b0 := x4 0
    have b1 := x4 1
    have b2 := x4 2
    have b3 := x4 3
    have b4 := x4 4
    have b5 := x4 5
    have b6 := x4 6
    have b7 := x4 7
    simp only [List.getElem?_cons_zero, List.getElem?_cons_succ] at b0 b1 b2 b3 b4 b5 b6 b7
    have l4' : w1.heap.size < w4.heap.size + 1 := by omega
    clear x4 CT TK
    go_region_held3 (fun w' => w'.cell? ⟨w4.heap.size, 0, none⟩ = some (.int .i64 S.c) ∧ w'.cell? ⟨w4.heap.size, 1, none⟩ = some (.int .i64 S.s) ∧ w'.cell? ⟨w4.heap.size, 2, none⟩ = some (.int .i64 S.lo) ∧ w'.cell? ⟨w4.heap.size, 3, none⟩ = some (.int .i64 S.hi) ∧ w'.cell? ⟨w4.heap.size, 4, none⟩ = some (.int .i64 S.t) ∧ w'.cell? ⟨w4.heap.size, 5, none⟩ = some (.int .i64 S.l) ∧ w'.cell? ⟨w1.heap.size, 0, none⟩ = some (.slice A1 ss.length C1) ∧ w'.cell? ⟨w1.heap.size, 1, none⟩ = some (.slice A10 q0.length C10) ∧ w'.cell? ⟨w1.heap.size, 2, none⟩ = some (.int .i64 s0) ∧ w'.cell? ⟨w1.heap.size, 3, none⟩ = some (.slice A11 q1.length C11) ∧ w'.cell? ⟨w1.heap.size, 4, none⟩ = some (.int .i64 s1) ∧ w'.cell? ⟨w1.heap.size, 5, none⟩ = some (.slice A12 q2.length C12) ∧ w'.cell? ⟨w1.heap.size, 6, none⟩ = some (.int .i64 s2) ∧ w'.cell? ⟨w1.heap.size, 7, none⟩ = some (.int .i64 0)) (go_keep)
      (first
        | (go_at_call 18; refine (KK.out _ ((HB4.out.alloc HB4.out.size _).drew)).mono ?_; rintro e w6 ⟨rfl, hb6⟩; have T6 := (bcells (hb6.mono (show w4.heap.size + 1 ≤ _ by simp))).1; have Z6 : w4.heap.size + 1 ≤ w6.heap.size := (by simpa using hb6.size); have HB6 := hideC (nextB ((HB4.out.alloc HB4.out.size _).drew) (Nat.le_refl _) hb6))
        | (go_at_call 19; refine (CK.out _ HB6.out).mono ?_; rintro e w7 ⟨rfl, hb7⟩; have T7 := (bcells (hb7.mono (show w4.heap.size + 1 ≤ _ from Z6))).1; have HB7 := hideC (nextB HB6.out (Nat.le_refl _) hb7)))
    go_wp2
    go_ret
    exact ⟨rfl, nextB HB1.out (Nat.le_refl _) HB7.out⟩
  · have TK := hideC fun W (hW : Below w1.heap.size w1 W) => total_no (HZ.out.below (nextB HB1.out (Nat.le_refl _) hW)) (BA1.out.up hW) K1.out (x := s) (a := a) (b := a + d) (by omega)
    rw [show decide (0 ≤ Lib.idxOfS ss s) = false by simpa using hx] at CT
    simp only [baseV, zro] at TK
    clear hx
    go_wp2_with (first
      | (go_at_call 16; refine (TK.out _ HB2.out).mono ?_; rintro e w4 ⟨rfl, hb4⟩; have HB4 := hideC (nextB HB2.out (Nat.le_refl _) hb4); have X4 := hideC (X2.out.below hb4 X2.out.lt); have x4 := fun j => X4.out.cell j; simp only [baseV] at x4; have l4 := X4.out.lt; clear hb4 x2)
      | (go_at_call 17; refine (CT.out _ (HB4.out.alloc HB4.out.size _)).mono ?_; rintro e w5 ⟨rfl, hw5⟩; subst w5))
    go_ret
    exact ⟨rfl, (nextB HB1.out (Nat.le_refl _) HB4.out).alloc (by have := HB1.out.size; have := HB4.out.size; omega) _⟩

set_option maxRecDepth 100000 in
theorem basesTotal_lifted (os : Os) (started : os.Started) (H : Type) (enc : TypeId × Value → H) :
    ReturnsInHanded {} Tryz.checked os 4 .any (fun w args => (Rows.basesTotalSpec.pre enc Tryz.prog Tryz.f4 [] false w args ∧ laidMetH Tryz.prog laidSz w) ∧ sizedMet enc Tryz.prog Tryz.f4 (OpenSpec.ofChange Rows.basesTotalSpec) false w args)
      (Rows.basesTotalSpec.post enc Tryz.prog Tryz.f4 false true false false) := by
  refine returnsInHanded_of_change_and (C := Tryz.checked) (X := fun w _ => laidMetH Tryz.prog laidSz w) (fun _ _ _ hh h => h.of_heap hh) own started (by kernel_rfl) Tryz.func4
    (ChangeSpec.witness_at (enc := enc) (C := Tryz.checked) (os := os) (X := fun w _ => laidMetH Tryz.prog laidSz w) false (World.laidAll Tryz.prog os laidSz) #[.slice none 0 0, .int .i64 0, .int .i64 0, .int .i64 0] 8 (World.laidAll_os _ _ _) (by kernel_rfl) (by kernel_rfl) (by kernel_rfl) (by kernel_rfl) (by kernel_rfl)
      (by rw [MakeChecks.laidMetH_plain _ _ _ (by kernel_rfl)]; exact laidMet_laidAll _ (by kernel_rfl) (by kernel_rfl))) ?_
  intro W base args ds gs before hval0 hW _ hsz0 hL _
  have hval : ∀ (j : Nat) t v, Tryz.f4.params[j]? = some t → args[j]? = some v → Value.okWide Tryz.prog W .any base t v := hval0
  have hW' := hW
  obtain ⟨p, q, hA0, hV, rfl, hfz, hnd⟩ := hW
  have hA : DataW.TrodAll enc Tryz.prog W 0 (fun _ => true) true Tryz.f4.params.toList args.toList ds p := hA0
  have hsz : (DataW.weightsEach Tryz.prog (Tryz.f4.params.toList ++ Rows.basesTotalSpec.plain.varTypes Tryz.prog) (ds ++ gs)).all (· ≤ reachBytes) = true := hsz0
  rw [Tryz.params4] at hA hval hsz
  obtain ⟨v0, vs0, d0, ds0, p0, q0, hargs, rfl, rfl, h0, r0⟩ := trodAll_cons hA
  obtain ⟨v1, vs1, d1, ds1, p1, q1, rfl, rfl, rfl, h1, r1⟩ := trodAll_cons r0
  obtain ⟨v2, vs2, d2, ds2, p2, q2, rfl, rfl, rfl, h2, r2⟩ := trodAll_cons r1
  obtain ⟨v3, vs3, d3, ds3, p3, q3, rfl, rfl, rfl, h3, r3⟩ := trodAll_cons r2
  obtain ⟨rfl, rfl, rfl⟩ := trodAll_nil r3
  obtain rfl : args = #[v0, v1, v2, v3] := by cases args; simp_all
  obtain ⟨rfl, rfl⟩ := trodVars_none hV
  have k0 := h0
  have lt0 : ∀ x ∈ p0, x.block < W.heap.size := by obtain ⟨m, hm⟩ := k0; exact DataW.trod_lt m _ _ _ hm
  obtain ⟨A0, C0, xs0, rfl, hR0, hz0, hw0⟩ := open_rawsArg (hval 0 38 v0 rfl rfl) h0 (fun n hn => by
    have := List.all_eq_true.1 hsz n (DataW.weights_mem_each (j := 0) (t := 38) rfl rfl n hn)
    exact of_decide_eq_true this)
  have k1 := h1
  have lt1 : ∀ x ∈ p1, x.block < W.heap.size := by obtain ⟨m, hm⟩ := k1; exact DataW.trod_lt m _ _ _ hm
  obtain ⟨a1, rfl, w1⟩ : ∃ n : Int, v1 = .int .i64 n ∧ (Lit.int .i64 n).wf = true := by
    obtain ⟨n, h, _, _, w⟩ := open_int Tryz.underlying3 (hval 1 3 v1 rfl rfl) h1; exact ⟨n, h, w⟩
  have k2 := h2
  have lt2 : ∀ x ∈ p2, x.block < W.heap.size := by obtain ⟨m, hm⟩ := k2; exact DataW.trod_lt m _ _ _ hm
  obtain ⟨a2, rfl, w2⟩ : ∃ n : Int, v2 = .int .i64 n ∧ (Lit.int .i64 n).wf = true := by
    obtain ⟨n, h, _, _, w⟩ := open_int Tryz.underlying3 (hval 2 3 v2 rfl rfl) h2; exact ⟨n, h, w⟩
  have k3 := h3
  have lt3 : ∀ x ∈ p3, x.block < W.heap.size := by obtain ⟨m, hm⟩ := k3; exact DataW.trod_lt m _ _ _ hm
  obtain ⟨a3, rfl, w3⟩ : ∃ n : Int, v3 = .int .i64 n ∧ (Lit.int .i64 n).wf = true := by
    obtain ⟨n, h, _, _, w⟩ := open_int Tryz.underlying3 (hval 3 3 v3 rfl rfl) h3; exact ⟨n, h, w⟩
  clear hA0 hval0 hsz0
  refine (basesTotal_walk A0 C0 xs0 a1 a2 a3 W (szAt_of hL) hR0 hz0 hw0 w1 w2 w3).mono fun e W' ⟨he, bel⟩ => ?_
  subst he
  exact ⟨_, rfl, _, _, _, [], _, [], hW', trodAll_mk1 (shut_bool Tryz.underlying4 _), (trodAll_cons_mk (Below.trod laidOut (by kernel_rfl) (of_decide_eq_true (by kernel_rfl)) k0 bel lt0) (trodAll_cons_mk (Below.trod laidOut (by kernel_rfl) (of_decide_eq_true (by kernel_rfl)) k1 bel lt1) (trodAll_cons_mk (Below.trod laidOut (by kernel_rfl) (of_decide_eq_true (by kernel_rfl)) k2 bel lt2) (trodAll_cons_mk (Below.trod laidOut (by kernel_rfl) (of_decide_eq_true (by kernel_rfl)) k3 bel lt3) trodAll_mk0)))), rfl, bel.frame _, fun h => by cases h⟩

theorem basesTotal_holds : Rows.BasesTotalSaid :=
  OpenClaim.holds_of_wide 4 Tryz.f4 rfl rfl rfl rfl rfl rfl rfl ⟨rfl, rfl, rfl, rfl, rfl⟩ rfl rfl rfl rfl rfl (by kernel_rfl) Tryz.func4 (by kernel_rfl)
    (of_decide_eq_true (by kernel_rfl)) (by unfold Func.isWrapper; first | (rw [if_pos (by decide +kernel)]; kernel_rfl) | (rw [if_neg (by decide +kernel)]; exact ⟨rfl, rfl⟩))
    (fun os started H enc _ => basesTotal_lifted os started H enc)

theorem basesTotalCard_holds : Rows.BasesTotalCardSaid :=
  Claim7.holds_tied_plain_at .later [] [.data] true (true, "70812a8111c496b7e791c729587af830859d64019f6e8c761a5939306b334728") false basesTotal_holds (fun _ h => by cases h) (by kernel_rfl) (fun _ h => by cases h) basesTotal_row_tie rfl ⟨rfl, rfl⟩ (by kernel_rfl) rfl
    (fun f fn hf hfn => by
      obtain rfl : f = 4 := Option.some.inj ((show Tryz.prog.funcNamed "winnower/winnowerkeep.BasesTotal" = some 4 by kernel_rfl).symm.trans hf) |>.symm
      obtain rfl : fn = Tryz.f4 := (Option.some.inj (Tryz.func4.symm.trans hfn)).symm
      exact ⟨by kernel_rfl, fun j t ht => by
        rw [Tryz.params4] at ht
        have hm : t ∈ [38, 3, 3, 3] := by simpa using Array.mem_of_getElem? ht
        have hall : ([38, 3, 3, 3].all fun u => !Tryz.prog.wantsStandIn u) = true := by kernel_rfl
        exact (show Tryz.prog.wantsStandIn t = false by simpa using List.all_eq_true.1 hall t hm)⟩)
    (by kernel_rfl)
#print axioms basesTotalCard_holds
end Go.Proofs.YtlojfgdpmaigmaeGreatDoor

/- For every base, name, and two times, package base's Total answers what promise P3.5 says. No condition beside the table of sizes, which is tied to the program's text. -/
import Derived.Test.YtlojfgdpmaigmadDoorTotalBad
import Derived.Test.YtlojfgdpmaigmadDoorLaidSz
import Derived.ChangeMaps5
namespace Go.Proofs.YtlojfgdpmaigmadDoor
open Go.ChangeShapes Go.WideShapes Go.ChangeAt Go.RowKit Plain
open Go.ChangeMaps (open_string)

set_option maxRecDepth 20000 in
set_option maxHeartbeats 1000000 in
theorem baseTotals_s (A : Option Addr) (C : Nat) (ss : List ByteArray) (t0 t1 t2 : TR) (f : Int) (x : ByteArray) (a b : Int) (s : Ru × Int) (w : World) (conP : Hid (∀ W, Below w.heap.size w W → Calls Tryd.prog 11 #[.agg (baseV A C ss t0 t1 t2 f).toArray, .string x, .int .i64 a, .int .i64 b] W (MaTo s W))) (conD : Hid (∀ W, Below w.heap.size w W → Calls Tryd.prog 12 #[.agg (baseV A C ss t0 t1 t2 f).toArray, .string x, .int .i64 a, .int .i64 b] W (MaTo s W))) :
    Calls Tryd.prog 5 #[.agg (baseV A C ss t0 t1 t2 f).toArray, .string x, .int .i64 a, .int .i64 b] w fun e w' => e = .returned (.bool true) ∧ Below w.heap.size w w' := by
  have b0 : ∀ o : Obj, Below w.heap.size w (w.alloc o) := fun o => (Below.refl _ _).alloc (Nat.le_refl _) o
  obtain ⟨⟨c, su, lo, hi, tt, la⟩, k⟩ := s
  unfold MaTo at conP conD
  simp only at conP conD
  have hcc : (k == k) = true := by simp
  obtain ⟨A0, C0, p0, r0⟩ := t0
  obtain ⟨A1, C1, p1, r1⟩ := t1
  obtain ⟨A2, C2, p2, r2⟩ := t2
  simp only [baseV] at *
  go_enter Tryd.func5, Tryd.ntmps5
  go_wp2_with (first
    | (go_at_call 11; refine (conP.out _ (b0 _)).mono ?_; rintro e w1 ⟨rfl, hb1⟩; have hw1 : Below w.heap.size w w1 := nextB (b0 _) (Nat.le_refl _) hb1; have yy := (bcells hb1).1; have z1 := sz1 hb1)
    | (go_at_call 12; refine (conD.out _ (hw1.alloc hw1.size _)).mono ?_; rintro e w2 ⟨rfl, hb2⟩; have hw2 : Below w.heap.size w w2 := nextB (hw1.alloc hw1.size _) (Nat.le_refl _) hb2; have y2 := (bcells hb2).1; have z2 := sz1 hb2; clear yy))
  go_ret
  exact ⟨rfl, hw2.alloc hw2.size _⟩

theorem idx_lt : ∀ (zs : List ByteArray) (x : ByteArray) (i : Nat), Lib.idxFromS zs x i < i + zs.length ∨ Lib.idxFromS zs x i = -1
  | [], _, _ => .inr rfl
  | z :: zs, x, i => by
    by_cases hz : z = x
    · left
      simp only [Lib.idxFromS, hz, if_true, List.length_cons]
      omega
    · simp only [Lib.idxFromS, hz, if_false, List.length_cons]
      rcases idx_lt zs x (i + 1) with h | h
      · left; omega
      · exact .inr h

set_option maxHeartbeats 1000000 in
theorem baseTotals_walk (A : Option Addr) (C : Nat) (ss : List ByteArray) (t0 t1 t2 : TR) (f : Int) (x : ByteArray) (a b : Int) (w : World) (hZ : SzAt w) (hC : ss.length ≤ C) (hS : StrsAt w.heap.size w A ss) (h0 : t0.ok w) (h1 : t1.ok w) (h2 : t2.ok w) (_ : (Lit.int .i64 f).wf = true) (_ : x.size ≤ maxLen) (_ : (Lit.int .i64 a).wf = true) (_ : (Lit.int .i64 b).wf = true) :
    Calls Tryd.prog 5 #[.agg (baseV A C ss t0 t1 t2 f).toArray, .string x, .int .i64 a, .int .i64 b] w fun e w' => e = .returned (.bool true) ∧ Below w.heap.size w w' := by
  have okup : ∀ (t : TR) (w' : World), Below w.heap.size w w' → t.ok w → t.ok w' := fun t w' hb ht => ⟨ht.1.up hb, ht.2.1, ht.2.2⟩
  have serc := fun (bb : Bool) (hbb : Hid (baseB ss f (t0.ps.map PN.nd) t0.r (t1.ps.map PN.nd) t1.r (t2.ps.map PN.nd) t2.r = bb)) W (hW : Below w.heap.size w W) => series_any A C ss t0 t1 t2 f x W (hZ.below hW) hC (hS.up hW) (okup t0 W hW h0) (okup t1 W hW h1) (okup t2 W hW h2) bb hbb
  have fauc := fun (bb : Bool) (hbb : Hid (baseB ss f (t0.ps.map PN.nd) t0.r (t1.ps.map PN.nd) t1.r (t2.ps.map PN.nd) t2.r = bb)) W (hW : Below w.heap.size w W) => seriesFault_any A C ss t0 t1 t2 f x W (hS.up hW) (okup t0 W hW h0) (okup t1 W hW h1) (okup t2 W hW h2) bb hbb
  cases hB : baseB ss f (t0.ps.map PN.nd) t0.r (t1.ps.map PN.nd) t1.r (t2.ps.map PN.nd) t2.r with
  | false =>
    refine baseTotals_s A C ss t0 t1 t2 f x a b (zro, 7) w (fun W hW => total_c A C ss t0 t1 t2 f x a b W 7 0 rfl (fun V hV => ?_)) (fun W hW => totalOf_c A C ss t0 t1 t2 f x a b W 7 rfl rfl (fun V hV => ?_))
    · have k := serc false hB V (nextB hW (Nat.le_refl _) hV)
      simp only [Bool.false_eq_true, if_false] at k
      exact k
    · have k := fauc false hB V (nextB hW (Nat.le_refl _) hV)
      simp only [Bool.false_eq_true, if_false] at k
      exact k
  | true =>
    obtain ⟨p, hx⟩ : ∃ p, Lib.idxOfS ss x = p := ⟨_, rfl⟩
    obtain ⟨L0, L1, L2, hL⟩ := baseL hB
    by_cases hp : p < 0
    · refine baseTotals_s A C ss t0 t1 t2 f x a b (zro, 6) w (fun W hW => total_c A C ss t0 t1 t2 f x a b W 6 0 rfl (fun V hV => ?_)) (fun W hW => totalOf_c A C ss t0 t1 t2 f x a b W 6 rfl rfl (fun V hV => ?_))
      · have k := serc true hB V (nextB hW (Nat.le_refl _) hV)
        rw [hx] at k
        simp only [if_true, hp] at k
        exact k
      · have k := fauc true hB V (nextB hW (Nat.le_refl _) hV)
        rw [hx] at k
        simp only [if_true, hp] at k
        exact k
    · have sero : ∀ W, Below w.heap.size w W → Hid (∀ V, Below W.heap.size W V → Calls Tryd.prog 24 #[.agg (baseV A C ss t0 t1 t2 f).toArray, .string x] V fun e w' => e = .returned (.tuple #[.int .i64 p, .int .i64 0]) ∧ Below V.heap.size V w') := fun W hW V hV => by
        have k := serc true hB V (nextB hW (Nat.le_refl _) hV)
        rw [hx] at k
        simp only [if_true, hp, if_false] at k
        exact k
      have fauo : ∀ W, Below w.heap.size w W → Hid (∀ V, Below W.heap.size W V → Calls Tryd.prog 29 #[.agg (baseV A C ss t0 t1 t2 f).toArray, .string x] V fun e w' => e = .returned (.int .i64 0) ∧ Below V.heap.size V w') := fun W hW V hV => by
        have k := fauc true hB V (nextB hW (Nat.le_refl _) hV)
        rw [hx] at k
        simp only [if_true, hp, if_false] at k
        exact k
      have hp2 : p < 16 := by
        have k := idx_lt ss x 0
        have e : Lib.idxFromS ss x 0 = p := hx
        rw [e] at k
        have := hL.few
        omega
      cases hsp : spanB a b with
      | false => exact baseTotals_s A C ss t0 t1 t2 f x a b (zro, 2) w (fun W hW => total_span A C ss t0 t1 t2 f x a b W p hsp (sero W hW)) (fun W hW => totalOf_span A C ss t0 t1 t2 f x a b W hsp (fauo W hW))
      | true =>
        have fc0 := allP_facts (ns := t0.ps.map PN.nd) (r := t0.r) (low := 0) (high := 1099511627776)
        have ln0 := allP_len (t0.ps.map PN.nd) t0.r 0 1099511627776
        rw [hL.a0] at fc0 ln0
        exact baseTotals_s A C ss t0 t1 t2 f x a b _ w (fun W hW => total_ok A C ss t0 t1 t2 f x a b p L0 L1 L2 W (hZ.below hW) hC (hS.up hW) (okup t0 W hW h0) (okup t1 W hW h1) (okup t2 W hW h2) hB hL hx (by omega) hp2 hsp)
          (fun W hW => totalOf_ok A C ss t0 t1 t2 f x a b p L0 W (hS.up hW) (okup t0 W hW h0) (okup t1 W hW h1) (okup t2 W hW h2) hB hx (by omega) hsp hL.book ln0 fc0.2.2 fc0.2.1)

set_option maxRecDepth 100000 in
theorem baseTotals_lifted (os : Os) (started : os.Started) (H : Type) (enc : TypeId × Value → H) :
    ReturnsInHanded {} Tryd.checked os 5 .any (fun w args => (Rows.baseTotalsSpec.pre enc Tryd.prog Tryd.f5 [] false w args ∧ laidMetH Tryd.prog laidSz w) ∧ sizedMet enc Tryd.prog Tryd.f5 (OpenSpec.ofChange Rows.baseTotalsSpec) false w args)
      (Rows.baseTotalsSpec.post enc Tryd.prog Tryd.f5 false true false false) := by
  refine returnsInHanded_of_change_and (C := Tryd.checked) (X := fun w _ => laidMetH Tryd.prog laidSz w) (fun _ _ _ hh h => h.of_heap hh) own started (by kernel_rfl) Tryd.func5
    (ChangeSpec.witness_at (enc := enc) (C := Tryd.checked) (os := os) (X := fun w _ => laidMetH Tryd.prog laidSz w) false (World.laidAll Tryd.prog os laidSz) #[.agg #[.slice none 0 0, .slice none 0 0, .int .i64 0, .slice none 0 0, .int .i64 0, .slice none 0 0, .int .i64 0, .int .i64 0], .string ByteArray.empty, .int .i64 0, .int .i64 0] 8 (World.laidAll_os _ _ _) (by kernel_rfl) (by kernel_rfl) (by kernel_rfl) (by kernel_rfl) (by kernel_rfl)
      (by rw [MakeChecks.laidMetH_plain _ _ _ (by kernel_rfl)]; exact laidMet_laidAll _ (by kernel_rfl) (by kernel_rfl))) ?_
  intro W base args ds gs before hval0 hW _ hsz0 hL _
  have hval : ∀ (j : Nat) t v, Tryd.f5.params[j]? = some t → args[j]? = some v → Value.okWide Tryd.prog W .any base t v := hval0
  have hW' := hW
  obtain ⟨p, q, hA0, hV, rfl, hfz, hnd⟩ := hW
  have hA : DataW.TrodAll enc Tryd.prog W 0 (fun _ => true) true Tryd.f5.params.toList args.toList ds p := hA0
  have hsz : (DataW.weightsEach Tryd.prog (Tryd.f5.params.toList ++ Rows.baseTotalsSpec.plain.varTypes Tryd.prog) (ds ++ gs)).all (· ≤ reachBytes) = true := hsz0
  rw [Tryd.params5] at hA hval hsz
  obtain ⟨v0, vs0, d0, ds0, p0, q0, hargs, rfl, rfl, h0, r0⟩ := trodAll_cons hA
  obtain ⟨v1, vs1, d1, ds1, p1, q1, rfl, rfl, rfl, h1, r1⟩ := trodAll_cons r0
  obtain ⟨v2, vs2, d2, ds2, p2, q2, rfl, rfl, rfl, h2, r2⟩ := trodAll_cons r1
  obtain ⟨v3, vs3, d3, ds3, p3, q3, rfl, rfl, rfl, h3, r3⟩ := trodAll_cons r2
  obtain ⟨rfl, rfl, rfl⟩ := trodAll_nil r3
  obtain rfl : args = #[v0, v1, v2, v3] := by cases args; simp_all
  obtain ⟨rfl, rfl⟩ := trodVars_none hV
  have k0 := h0
  have lt0 : ∀ x ∈ p0, x.block < W.heap.size := by obtain ⟨m, hm⟩ := k0; exact DataW.trod_lt m _ _ _ hm
  obtain ⟨A0, C0, ss0, ta0, tb0, tc0, f0, rfl, -, hC0, hS0, ha0, hb0, hc0, w0⟩ := open_base rfl (hval 0 28 v0 rfl rfl) h0 (fun n hn => by
    have := List.all_eq_true.1 hsz n (DataW.weights_mem_each (j := 0) (t := 28) rfl rfl n hn)
    exact of_decide_eq_true this)
  have k1 := h1
  have lt1 : ∀ x ∈ p1, x.block < W.heap.size := by obtain ⟨m, hm⟩ := k1; exact DataW.trod_lt m _ _ _ hm
  obtain ⟨a1, rfl, -, -, w1⟩ := open_string Tryd.underlying9 (hval 1 9 v1 rfl rfl) h1
  have k2 := h2
  have lt2 : ∀ x ∈ p2, x.block < W.heap.size := by obtain ⟨m, hm⟩ := k2; exact DataW.trod_lt m _ _ _ hm
  obtain ⟨a2, rfl, w2⟩ : ∃ n : Int, v2 = .int .i64 n ∧ (Lit.int .i64 n).wf = true := by
    obtain ⟨n, h, _, _, w⟩ := open_int Tryd.underlying3 (hval 2 3 v2 rfl rfl) h2; exact ⟨n, h, w⟩
  have k3 := h3
  have lt3 : ∀ x ∈ p3, x.block < W.heap.size := by obtain ⟨m, hm⟩ := k3; exact DataW.trod_lt m _ _ _ hm
  obtain ⟨a3, rfl, w3⟩ : ∃ n : Int, v3 = .int .i64 n ∧ (Lit.int .i64 n).wf = true := by
    obtain ⟨n, h, _, _, w⟩ := open_int Tryd.underlying3 (hval 3 3 v3 rfl rfl) h3; exact ⟨n, h, w⟩
  clear hA0 hval0 hsz0
  refine (baseTotals_walk A0 C0 ss0 ta0 tb0 tc0 f0 a1 a2 a3 W (szAt_of hL) hC0 hS0 ha0 hb0 hc0 w0 w1 w2 w3).mono fun e W' ⟨he, bel⟩ => ?_
  subst he
  exact ⟨_, rfl, _, _, _, [], _, [], hW', trodAll_mk1 (shut_bool Tryd.underlying4 _), (trodAll_cons_mk (Below.trod laidOut (by kernel_rfl) (of_decide_eq_true (by kernel_rfl)) k0 bel lt0) (trodAll_cons_mk (Below.trod laidOut (by kernel_rfl) (of_decide_eq_true (by kernel_rfl)) k1 bel lt1) (trodAll_cons_mk (Below.trod laidOut (by kernel_rfl) (of_decide_eq_true (by kernel_rfl)) k2 bel lt2) (trodAll_cons_mk (Below.trod laidOut (by kernel_rfl) (of_decide_eq_true (by kernel_rfl)) k3 bel lt3) trodAll_mk0)))), rfl, bel.frame _, fun h => by cases h⟩

theorem baseTotals_holds : Rows.BaseTotalsSaid :=
  OpenClaim.holds_of_wide 5 Tryd.f5 rfl rfl rfl rfl rfl rfl rfl ⟨rfl, rfl, rfl, rfl, rfl⟩ rfl rfl rfl rfl rfl (by kernel_rfl) Tryd.func5 (by kernel_rfl)
    (of_decide_eq_true (by kernel_rfl)) (by unfold Func.isWrapper; first | (rw [if_pos (by decide +kernel)]; kernel_rfl) | (rw [if_neg (by decide +kernel)]; exact ⟨rfl, rfl⟩))
    (fun os started H enc _ => baseTotals_lifted os started H enc)

theorem baseTotalsCard_holds : Rows.BaseTotalsCardSaid :=
  Claim7.holds_tied_plain_at .later [] [.data] true (true, "778ac4088cc39b418fb54c163749a4a331474be8f10bd7bda9abbcb1f01f6800") false baseTotals_holds (fun _ h => by cases h) (by kernel_rfl) (fun _ h => by cases h) baseTotals_row_tie rfl ⟨rfl, rfl⟩ (by kernel_rfl) rfl
    (fun f fn hf hfn => by
      obtain rfl : f = 5 := Option.some.inj ((show Tryd.prog.funcNamed "winnower/winnowerlaw.BaseTotals" = some 5 by kernel_rfl).symm.trans hf) |>.symm
      obtain rfl : fn = Tryd.f5 := (Option.some.inj (Tryd.func5.symm.trans hfn)).symm
      exact ⟨by kernel_rfl, fun j t ht => by
        rw [Tryd.params5] at ht
        have hm : t ∈ [28, 9, 3, 3] := by simpa using Array.mem_of_getElem? ht
        have hall : ([28, 9, 3, 3].all fun u => !Tryd.prog.wantsStandIn u) = true := by kernel_rfl
        exact (show Tryd.prog.wantsStandIn t = false by simpa using List.all_eq_true.1 hall t hm)⟩)
    (by kernel_rfl)
#print axioms baseTotalsCard_holds
end Go.Proofs.YtlojfgdpmaigmadDoor

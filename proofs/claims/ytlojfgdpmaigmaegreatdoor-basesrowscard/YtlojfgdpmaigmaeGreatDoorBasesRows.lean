/- For every list of raw things, every series and each size of buckets, a bucket is what the points within it come to, and each point is in one; a size that there is not is refused. No condition beside the table of sizes, which is tied to the program's text. -/
import Derived.Test.YtlojfgdpmaigmaeGreatDoorP51
import Derived.Test.YtlojfgdpmaigmaeGreatDoorLaidSz
import Derived.ChangeMaps5
namespace Go.Proofs.YtlojfgdpmaigmaeGreatDoor
open Go.ChangeShapes Go.WideShapes Go.ChangeAt Go.RowKit Plain Go.Shelf

def szJ (j : Nat) : Int := if j = 0 then 1 else if j = 1 then 60 else 3600

theorem size_cells (w : World) (t : TypeId) {j : Nat} (hj : j < 3) : (w.alloc (.cells #[.int .i64 1, .int .i64 60, .int .i64 3600] t)).cell? ⟨w.heap.size, j, none⟩ = some (.int .i64 (szJ j)) := by
  have h := rowL_alloc w [.int .i64 1, .int .i64 60, .int .i64 3600] t
  refine (h.cell _).trans ?_
  rcases (show j = 0 ∨ j = 1 ∨ j = 2 by omega) with rfl | rfl | rfl <;> rfl

theorem szJ_is (j : Nat) : szJ j = 1 ∨ szJ j = 60 ∨ szJ j = 3600 := by
  unfold szJ
  split
  · exact .inl rfl
  · split
    · exact .inr (.inl rfl)
    · exact .inr (.inr rfl)

theorem sumC_take {R : List En} {i : Nat} (h : i < R.length) : sumC (R.take (i + 1)) = sumC (R.take i) + R[i].c := by
  rw [List.take_succ_eq_append_getElem h, sumC_append]
  simp [sumC]

theorem sumC_le {R : List En} (hp : ∀ y ∈ R, 0 ≤ y.c) : ∀ i, 0 ≤ sumC (R.take i) ∧ sumC (R.take i) ≤ sumC R := fun i => by
  have nn : ∀ l : List En, (∀ y ∈ l, 0 ≤ y.c) → 0 ≤ sumC l := fun l => by
    induction l with
    | nil => intro _; exact Int.le_refl _
    | cons y r ih =>
      intro h
      have := h y List.mem_cons_self
      have := ih fun z hz => h z (List.mem_cons_of_mem _ hz)
      simp only [sumC]
      omega
  have e : sumC R = sumC (R.take i) + sumC (R.drop i) := by rw [← sumC_append, List.take_append_drop]
  have h1 := nn (R.take i) fun y hy => hp y (List.mem_of_mem_take hy)
  have h2 := nn (R.drop i) fun y hy => hp y (List.mem_of_mem_drop hy)
  omega

theorem sumR_c {l : List Pt} (hp : ∀ p ∈ l, ∃ f, Pt.ok f p) (hc : (l.length : Int) ≤ 1073741824) : (sumR l).c = l.length := (tot_pts [] hp hc).2

set_option maxRecDepth 20000 in
set_option maxHeartbeats 4000000 in
theorem basesRows_walk (A : Option Addr) (C : Nat) (xs : List Rw) (n which : Int) (w : World) (hZ : SzAt w) (hA : RowAt w.heap.size w A (flatR xs)) (_ : xs.length * 32 ≤ 140737488351232) (hwf : ∀ x ∈ xs, x.wf) (hn : (Lit.int .i64 n).wf = true) (hw : (Lit.int .i64 which).wf = true) :
    Calls Tryz.prog 5 #[.slice A xs.length C, .int .i64 n, .int .i64 which] w fun e w' => e = .returned (.bool true) ∧ Below w.heap.size w w' := by
  have bw := i64_wf hw
  have p2 := pick_bd which (show (0 : Int) < 3 by decide)
  have KB1 := hideC (kbase_any A C xs 40 w hZ hA hwf (by decide) (by decide))
  have hlen : ((xs.take (40 : Int).toNat).map rawPt).length ≤ 40 := by simp; omega
  obtain ⟨pts, hpts⟩ : ∃ pts, (xs.take (40 : Int).toNat).map rawPt = pts := ⟨_, rfl⟩
  rw [hpts] at KB1 hlen
  have KN := hideC fun W => kname_any n W (i64_wf hn)
  obtain ⟨s, hs⟩ : ∃ s, nmS (pick n 4) = s := ⟨_, rfl⟩
  rw [hs] at KN
  have PW := hideC fun W => picked_any which 3 W bw.1 bw.2 (by decide) (by decide)
  obtain ⟨j, hj⟩ : ∃ j : Nat, pick which 3 = (j : Int) := ⟨(pick which 3).toNat, by omega⟩
  rw [hj] at PW p2
  have hj3 : j < 3 := by omega
  have hsj := szJ_is j
  have SC := hideC fun (W : World) (t : TypeId) => size_cells W t hj3
  obtain ⟨sz, hsz⟩ : ∃ sz, szJ j = sz := ⟨_, rfl⟩
  rw [hsz] at hsj SC
  have szb : 1 ≤ sz ∧ sz ≤ 3600 := by rcases hsj with rfl | rfl | rfl <;> decide
  have kz : IntKind.i64.wrap (sz + 1) = sz + 1 := by rw [IntKind.wrap_i64]; omega
  have HZ := hideC hZ
  have SJ := hideC hsj
  have j0 : (0 : Int) ≤ (j : Int) := by omega
  have j1 : (j : Int) < 3 := by omega
  clear hpts hs hj hsz hA hwf hn hw bw hZ p2 hsj
  go_enter Tryz.func5, Tryz.ntmps5
  go_upto_region 3 with (first
    | (go_at_call 13; refine KB1.out.mono ?_; rintro e w1 ⟨A1, PA1, C1, PC1, ss, t0, t1, t2, he, ho, hk, hf4, hr, hb⟩; obtain ⟨A10, C10, q0, s0⟩ := t0; obtain ⟨A11, C11, q1, s1⟩ := t1; obtain ⟨A12, C12, q2, s2⟩ := t2; have BA1 := hideC (ho.at hk); have K1 := hideC hk; have R1 := hideC hr; have HB1 := hideC hb; have X1 := hideC (rowL_alloc w1 (baseV A1 C1 ss ⟨A10, C10, q0, s0⟩ ⟨A11, C11, q1, s1⟩ ⟨A12, C12, q2, s2⟩ 0) 28); have HO1 := hideC (show ∀ p ∈ pts, ∃ f, Pt.ok f p from fun p hp => by obtain ⟨_, _, _, k⟩ := hk; exact ⟨0, (k.pt p hp).2⟩); simp only [baseV] at he; subst he; clear ho hk hf4 hr hb KB1)
    | (go_at_call 14; refine (KN.out _).mono ?_; rintro e w2 ⟨rfl, hb2⟩; have HB2 := hideC (nextB ((Below.refl _ _).alloc (Nat.le_refl _) _) (Nat.le_refl _) hb2 : Below w1.heap.size w1 w2); have X2 := hideC (X1.out.below hb2 X1.out.lt); clear hb2 X1 KN))
  have cz := SC.out w2 3
  have HB2a := hideC (HB2.out.alloc HB2.out.size (.cells #[.int .i64 1, .int .i64 60, .int .i64 3600] 3))
  have X2a := hideC (X2.out.of_block (Below.heap_alloc w2 (.cells #[.int .i64 1, .int .i64 60, .int .i64 3600] 3) _ X2.out.lt))
  have x2 := fun j => X2a.out.cell j
  simp only [baseV] at x2
  have lz : w2.heap.size < w2.heap.size + 1 := by omega
  have CT := hideC fun W (hW : Below w1.heap.size w1 W) => contains_any A1 C1 ss s W (BA1.out.up hW).st
  rw [show Lib.containsS ss s = decide (0 ≤ Lib.idxOfS ss s) by rw [Bool.eq_iff_iff, Lib.containsS_iff, decide_eq_true_eq, Lib.idxOfS_nonneg_iff]] at CT
  by_cases hx : 0 ≤ Lib.idxOfS ss s
  · have RK := hideC fun W (hW : Below w1.heap.size w1 W) => rows_kn (HZ.out.below (nextB HB1.out (Nat.le_refl _) hW)) (BA1.out.up hW) K1.out (x := s) (sz := sz) SJ.out hx (by omega)
    have RD := hideC fun W (hW : Below w1.heap.size w1 W) => rows_kd (HZ.out.below (nextB HB1.out (Nat.le_refl _) hW)) (BA1.out.up hW) K1.out (x := s) (sz := sz + 1) (a := 0) (b := 1) hx (by have := SJ.out; omega)
    have KK := hideC fun (a b : Int) W (hW : Below w1.heap.size w1 W) => knownK_any PA1 PC1 pts s a b W (R1.out.up hW) (by omega) HO1.out
    have HP : Hid (∀ p ∈ pts, p.s ∈ ss ∧ p.ok 0) := by
      obtain ⟨_, _, _, k⟩ := K1.out
      exact k.pt
    have HX : Hid (0 ≤ Lib.idxOfS ss s) := hx
    rw [show decide (0 ≤ Lib.idxOfS ss s) = true by simpa using hx] at CT
    simp only [baseV] at RK RD
    have P0 : True := trivial
    clear hx
    go_wp2_with (first
      | (go_at_call 15; refine (PW.out _).mono ?_; rintro e wx ⟨rfl, hwx⟩; subst wx)
      | (go_at_call 20; have kk := P0; clear kk; refine (RK.out _ HB2a.out).mono ?_; rintro e w4 ⟨R, ⟨M, hM, hR⟩, hb4, A4, C4, rfl, hrow4⟩; have RR := hideC (show RowsR s sz pts R from by rw [hR]; exact rowsR_of SJ.out HP.out rfl HX.out hM (by omega)); have HB4 := hideC (nextB HB2a.out (Nat.le_refl _) hb4); have HR4 := hideC hrow4; have X4 := hideC (X2a.out.below hb4 X2a.out.lt); have x4 := fun j => X4.out.cell j; simp only [baseV] at x4; have l4 := X4.out.lt; clear hb4 x2 P0 hM hR hrow4)
      | (go_at_call 20; refine (RD.out _ HB4.out).mono ?_; rintro e w5 ⟨rfl, hb5⟩; have HB5 := hideC (nextB HB4.out (Nat.le_refl _) hb5); have HR5 := hideC (HR4.out.up hb5); have X5 := hideC (X4.out.below hb5 X4.out.lt); have x5 := fun j => X5.out.cell j; simp only [baseV] at x5; have l5 := X5.out.lt; clear hb5 x4)
      | (go_at_call 17; refine (CT.out _ HB5.out).mono ?_; rintro e w6 ⟨rfl, hw6⟩; subst w6))
    clear x5
    have hRl := RR.out.len
    have hSc : Hid (sumC R = (sumR (ofPts s 0 1048575 pts)).c) := RR.out.sum
    have hS40 : (sumR (ofPts s 0 1048575 pts)).c ≤ 40 := by
      have hl : (ofPts s 0 1048575 pts).length ≤ pts.length := List.length_filter_le _ _
      rw [sumR_c (l := ofPts s 0 1048575 pts) (fun p hp => HO1.out p (List.mem_filter.1 hp).1) (by omega)]
      omega
    obtain ⟨S, hS⟩ : ∃ S, sumR (ofPts s 0 1048575 pts) = S := ⟨_, rfl⟩
    have K0 := hideC fun W (hW : Below w1.heap.size w1 W) => KK.out 0 1048575 W hW
    rw [hS] at hSc hS40 K0
    simp only [ruV] at K0
    have hS2 : Hid (S.c ≤ 40) := hS40
    clear hS hS40
    have hpos : Hid (∀ y ∈ R, 0 ≤ y.c) := fun y hy => by
      have h1 := RR.out.ru y hy
      have hl : (ofPts s y.key (y.key + sz - 1) pts).length ≤ pts.length := List.length_filter_le _ _
      have h2 := sumR_c (l := ofPts s y.key (y.key + sz - 1) pts) (fun p hp => HO1.out p (List.mem_filter.1 hp).1) (by omega)
      have h3 : y.ru.c = y.c := rfl
      rw [h1] at h3
      omega
    go_loopw [15, 58] (fun vc vi wr => ∃ i : Nat, i ≤ R.length ∧ vc = .int .i64 (sumC (R.take i)) ∧ vi = .int .i64 (i : Int) ∧ Below w5.heap.size w5 wr) (fun _ vi _ => R.length - (intOf vi).toNat)
    case atStart => exact ⟨0, Nat.zero_le _, rfl, rfl, Below.refl _ _⟩
    case round =>
      obtain ⟨i, hi, rfl, rfl, hbr⟩ := hrel
      have hcb := sumC_le hpos.out i
      have HBr := hideC (nextB HB5.out (Nat.le_refl _) hbr)
      have hszr := hbr.size
      by_cases hlt : i < R.length
      · obtain ⟨rb, ro, rfl, hrl, c0, c1, c2, c3, c4, c5, c6⟩ := (HR5.out.below hbr (Nat.le_refl _)).en hlt
        have hyM := List.getElem_mem hlt
        have hmd := RR.out.mod _ hyM
        have hrg := RR.out.rng _ hyM
        have hru := RR.out.ru _ hyM
        have hcn := RR.out.pos _ hyM
        have htk := sumC_take hlt
        have hnx := sumC_le hpos.out (i + 1)
        have hic := RR.out.inc
        obtain ⟨y, hy⟩ : ∃ y, R[i] = y := ⟨_, rfl⟩
        rw [hy] at c0 c1 c2 c3 c4 c5 c6 hmd hrg hru hcn htk
        have hpr : ∀ h : 0 < i, (R[i - 1]'(by omega)).key < y.key := fun h => by
          rw [← hy]
          exact List.pairwise_iff_getElem.1 hic (i - 1) i (by omega) hlt (by omega)
        have hs40 := hS2.out
        have hsc := hSc.out
        have K2 := hideC fun W (hW : Below w1.heap.size w1 W) => KK.out y.key (y.key + sz - 1) W hW
        rw [← hru] at K2
        simp only [ruV, En.ru] at K2
        have hr : y.key.tmod sz = 0 := by rw [Int.tmod_eq_emod_of_nonneg hrg.1]; exact hmd
        have hs0 : (sz == 0) = false := by rcases SJ.out with h | h | h <;> (rw [h]; rfl)
        have hs1 : ¬ sz = 0 := by omega
        have hs2 : ¬ sz = -1 := by omega
        have hw1 : IntKind.i64.wrap (y.key + sz) = y.key + sz := by rw [IntKind.wrap_i64]; omega
        have hw2 : IntKind.i64.wrap (y.key + sz - 1) = y.key + sz - 1 := by rw [IntKind.wrap_i64]; omega
        have hw3 : IntKind.i64.wrap (sumC (R.take i) + y.c) = sumC (R.take (i + 1)) := by rw [htk, IntKind.wrap_i64]; omega
        have hc0 : (y.c == 0) = false := by simpa using hcn
        have i0 : (0 : Int) ≤ (i : Int) := by omega
        have i1 : (i : Int) < (R.length : Int) := by omega
        clear hmd hy hic hru hcn hyM
        by_cases hz : i = 0
        · have i2 : ¬ ((0 : Int) < (i : Int)) := by omega
          have i3 : ¬ (0 < i) := by omega
          clear hz hpr
          go_upto_region 12 with fail
          have XD := hideC (rowL_alloc wr [.int .i64 y.key, .int .i64 y.c, .int .i64 y.s, .int .i64 y.lo, .int .i64 y.hi, .int .i64 y.t, .int .i64 y.l] 57)
          have BD := hideC ((Below.refl wr.heap.size wr).alloc (Nat.le_refl _) (.cells #[.int .i64 y.key, .int .i64 y.c, .int .i64 y.s, .int .i64 y.lo, .int .i64 y.hi, .int .i64 y.t, .int .i64 y.l] 57))
          have lD : wr.heap.size < (wr.alloc (.cells #[.int .i64 y.key, .int .i64 y.c, .int .i64 y.s, .int .i64 y.lo, .int .i64 y.hi, .int .i64 y.t, .int .i64 y.l] 57)).heap.size := by simp
          obtain ⟨wd, hwd⟩ : ∃ wd, wd = wr.alloc (.cells #[.int .i64 y.key, .int .i64 y.c, .int .i64 y.s, .int .i64 y.lo, .int .i64 y.hi, .int .i64 y.t, .int .i64 y.l] 57) := ⟨_, rfl⟩
          rw [← hwd] at XD BD lD ⊢
          clear hwd
          have hrd : rb < wd.heap.size := by omega
          have d := fun j => XD.out.cell j
          have d0 := d 0
          have d1 := d 1
          have d2 := d 2
          have d3 := d 3
          have d4 := d 4
          have d5 := d 5
          have d6 := d 6
          simp only [List.getElem?_cons_zero, List.getElem?_cons_succ] at d0 d1 d2 d3 d4 d5 d6
          have HD := hideC (nextB HBr.out (Nat.le_refl _) BD.out)
          clear d c0 c1 c2 c3 c4 c5 c6
          refine wp_region_held_drew (S := (fun w' => w'.cell? ⟨wr.heap.size, 0, none⟩ = some (.int .i64 y.key) ∧ w'.cell? ⟨wr.heap.size, 1, none⟩ = some (.int .i64 y.c) ∧ w'.cell? ⟨wr.heap.size, 2, none⟩ = some (.int .i64 y.s) ∧ w'.cell? ⟨wr.heap.size, 3, none⟩ = some (.int .i64 y.lo) ∧ w'.cell? ⟨wr.heap.size, 4, none⟩ = some (.int .i64 y.hi) ∧ w'.cell? ⟨wr.heap.size, 5, none⟩ = some (.int .i64 y.t) ∧ w'.cell? ⟨wr.heap.size, 6, none⟩ = some (.int .i64 y.l))) (by kernel_rfl) ?_ (fun hHeld => ?_)
          · (try dsimp only)
            go_keep
          refine wpAnyH_take (i := 0) (oi := { dst := some 63, op := Op.fieldAddr 57 (Operand.tmp 17) 0, type := 0, pos := "keep.go:186", after := #[], guard := none }) (v := ?_) rfl (by kernel_rfl) (by kernel_rfl) (by kernel_rfl) (fun _ _ _ h => h) (Or.inl ⟨by rfl, ?_⟩) (by assumption) ?_
          rotate_left
          · (intro wz hSw; (try dsimp only at hSw); go_simp; all_goals with_reducible rfl)
          try simp only [Act.put, List.setIfInBounds_toArray, List.set_cons_zero, List.set_cons_succ]
          refine wpAnyH_take (i := 1) (oi := { dst := some 64, op := Op.load 3 (Operand.tmp 63), type := 3, pos := "keep.go:186", after := #[{ on := 0, ground := Ground.data }], guard := none }) (v := ?_) rfl (by kernel_rfl) (by kernel_rfl) (by kernel_rfl) (fun _ _ _ h => h) (Or.inl ⟨by rfl, ?_⟩) (by assumption) ?_
          rotate_left
          · (intro wz hSw; (try dsimp only at hSw); go_simp; all_goals with_reducible rfl)
          try simp only [Act.put, List.setIfInBounds_toArray, List.set_cons_zero, List.set_cons_succ]
          refine wpAnyH_take (i := 2) (oi := { dst := some 65, op := Op.move (Operand.tmp 10), type := 3, pos := "keep.go:186", after := #[], guard := none }) (v := ?_) rfl (by kernel_rfl) (by kernel_rfl) (by kernel_rfl) (fun _ _ _ h => h) (Or.inl ⟨by rfl, ?_⟩) (by assumption) ?_
          rotate_left
          · (intro wz hSw; (try dsimp only at hSw); go_simp; all_goals with_reducible rfl)
          try simp only [Act.put, List.setIfInBounds_toArray, List.set_cons_zero, List.set_cons_succ]
          refine wpAnyH_take (i := 3) (oi := { dst := some 66, op := Op.binOp BinOp.rem 3 (Operand.tmp 64) (Operand.tmp 65) 3, type := 3, pos := "keep.go:186", after := #[{ on := 1, ground := Ground.data }, { on := 2, ground := Ground.data }], guard := none }) (v := ?_) rfl (by kernel_rfl) (by kernel_rfl) (by kernel_rfl) (fun _ _ _ h => h) (Or.inl ⟨by rfl, ?_⟩) (by assumption) ?_
          rotate_left
          · (intro wz hSw; (try dsimp only at hSw); go_simp; all_goals with_reducible rfl)
          try simp only [Act.put, List.setIfInBounds_toArray, List.set_cons_zero, List.set_cons_succ]
          refine wpAnyH_take (i := 4) (oi := { dst := some 67, op := Op.binOp BinOp.neq 3 (Operand.tmp 66) (Operand.const (Value.int IntKind.i64 0)) 3, type := 4, pos := "keep.go:186", after := #[{ on := 3, ground := Ground.data }], guard := none }) (v := ?_) rfl (by kernel_rfl) (by kernel_rfl) (by kernel_rfl) (fun _ _ _ h => h) (Or.inl ⟨by rfl, ?_⟩) (by assumption) ?_
          rotate_left
          · (intro wz hSw; (try dsimp only at hSw); go_simp; all_goals with_reducible rfl)
          try simp only [Act.put, List.setIfInBounds_toArray, List.set_cons_zero, List.set_cons_succ]
          refine wpAnyH_take (i := 5) (oi := { dst := some 68, op := Op.move (Operand.tmp 67), type := 4, pos := "keep.go:186", after := #[{ on := 4, ground := Ground.data }], guard := none }) (v := ?_) rfl (by kernel_rfl) (by kernel_rfl) (by kernel_rfl) (fun _ _ _ h => h) (Or.inl ⟨by rfl, ?_⟩) (by assumption) ?_
          rotate_left
          · (intro wz hSw; (try dsimp only at hSw); go_simp; all_goals with_reducible rfl)
          try simp only [Act.put, List.setIfInBounds_toArray, List.set_cons_zero, List.set_cons_succ]
          refine wpAnyH_take (i := 6) (oi := { dst := some 69, op := Op.move (Operand.tmp 16), type := 3, pos := "keep.go:186", after := #[{ on := 5, ground := Ground.guard }], guard := some (5, false) }) (v := ?_) rfl (by kernel_rfl) (by kernel_rfl) (by kernel_rfl) (fun _ _ _ h => h) (Or.inl ⟨by rfl, ?_⟩) (by assumption) ?_
          rotate_left
          · (intro wz hSw; (try dsimp only at hSw); go_simp; all_goals with_reducible rfl)
          try simp only [Act.put, List.setIfInBounds_toArray, List.set_cons_zero, List.set_cons_succ]
          refine wpAnyH_take (i := 7) (oi := { dst := some 70, op := Op.binOp BinOp.gtr 3 (Operand.tmp 69) (Operand.const (Value.int IntKind.i64 0)) 3, type := 4, pos := "keep.go:186", after := #[{ on := 6, ground := Ground.data }, { on := 5, ground := Ground.guard }], guard := some (5, false) }) (v := ?_) rfl (by kernel_rfl) (by kernel_rfl) (by kernel_rfl) (fun _ _ _ h => h) (Or.inl ⟨by rfl, ?_⟩) (by assumption) ?_
          rotate_left
          · (intro wz hSw; (try dsimp only at hSw); go_simp; all_goals with_reducible rfl)
          try simp only [Act.put, List.setIfInBounds_toArray, List.set_cons_zero, List.set_cons_succ]
          refine wpAnyH_take (i := 8) (oi := { dst := some 71, op := Op.move (Operand.tmp 70), type := 4, pos := "keep.go:186", after := #[{ on := 7, ground := Ground.data }, { on := 5, ground := Ground.chain }, { on := 5, ground := Ground.guard }], guard := some (5, false) }) (v := ?_) rfl (by kernel_rfl) (by kernel_rfl) (by kernel_rfl) (fun _ _ _ h => h) (Or.inl ⟨by rfl, ?_⟩) (by assumption) ?_
          rotate_left
          · (intro wz hSw; (try dsimp only at hSw); go_simp; all_goals with_reducible rfl)
          try simp only [Act.put, List.setIfInBounds_toArray, List.set_cons_zero, List.set_cons_succ]
          refine wpAnyH_take (i := 9) (oi := { dst := some 72, op := Op.move (Operand.tmp 11), type := 53, pos := "keep.go:186", after := #[{ on := 8, ground := Ground.guard }], guard := some (8, true) }) (v := undef) rfl (by kernel_rfl) (by kernel_rfl) (by kernel_rfl) (fun _ _ _ h => h) (Or.inr ⟨by rfl, rfl⟩) (by assumption) ?_
          try simp only [Act.put, List.setIfInBounds_toArray, List.set_cons_zero, List.set_cons_succ]
          refine wpAnyH_take (i := 10) (oi := { dst := some 73, op := Op.move (Operand.tmp 16), type := 3, pos := "keep.go:186", after := #[{ on := 8, ground := Ground.guard }], guard := some (8, true) }) (v := undef) rfl (by kernel_rfl) (by kernel_rfl) (by kernel_rfl) (fun _ _ _ h => h) (Or.inr ⟨by rfl, rfl⟩) (by assumption) ?_
          try simp only [Act.put, List.setIfInBounds_toArray, List.set_cons_zero, List.set_cons_succ]
          refine wpAnyH_take (i := 11) (oi := { dst := some 74, op := Op.binOp BinOp.sub 3 (Operand.tmp 73) (Operand.const (Value.int IntKind.i64 1)) 3, type := 3, pos := "keep.go:186", after := #[{ on := 10, ground := Ground.data }, { on := 8, ground := Ground.guard }], guard := some (8, true) }) (v := undef) rfl (by kernel_rfl) (by kernel_rfl) (by kernel_rfl) (fun _ _ _ h => h) (Or.inr ⟨by rfl, rfl⟩) (by assumption) ?_
          try simp only [Act.put, List.setIfInBounds_toArray, List.set_cons_zero, List.set_cons_succ]
          refine wpAnyH_take (i := 12) (oi := { dst := some 75, op := Op.indexAddr 53 (Operand.tmp 72) (Operand.tmp 74), type := 0, pos := "keep.go:186", after := #[{ on := 9, ground := Ground.data }, { on := 11, ground := Ground.data }, { on := 8, ground := Ground.guard }], guard := some (8, true) }) (v := undef) rfl (by kernel_rfl) (by kernel_rfl) (by kernel_rfl) (fun _ _ _ h => h) (Or.inr ⟨by rfl, rfl⟩) (by assumption) ?_
          try simp only [Act.put, List.setIfInBounds_toArray, List.set_cons_zero, List.set_cons_succ]
          refine wpAnyH_take (i := 13) (oi := { dst := some 76, op := Op.fieldAddr 57 (Operand.tmp 75) 0, type := 0, pos := "keep.go:186", after := #[{ on := 12, ground := Ground.data }, { on := 8, ground := Ground.guard }], guard := some (8, true) }) (v := undef) rfl (by kernel_rfl) (by kernel_rfl) (by kernel_rfl) (fun _ _ _ h => h) (Or.inr ⟨by rfl, rfl⟩) (by assumption) ?_
          try simp only [Act.put, List.setIfInBounds_toArray, List.set_cons_zero, List.set_cons_succ]
          refine wpAnyH_take (i := 14) (oi := { dst := some 77, op := Op.load 3 (Operand.tmp 76), type := 3, pos := "keep.go:186", after := #[{ on := 13, ground := Ground.data }, { on := 8, ground := Ground.guard }], guard := some (8, true) }) (v := undef) rfl (by kernel_rfl) (by kernel_rfl) (by kernel_rfl) (fun _ _ _ h => h) (Or.inr ⟨by rfl, rfl⟩) (by assumption) ?_
          try simp only [Act.put, List.setIfInBounds_toArray, List.set_cons_zero, List.set_cons_succ]
          refine wpAnyH_take (i := 15) (oi := { dst := some 78, op := Op.fieldAddr 57 (Operand.tmp 17) 0, type := 0, pos := "keep.go:186", after := #[{ on := 8, ground := Ground.guard }], guard := some (8, true) }) (v := undef) rfl (by kernel_rfl) (by kernel_rfl) (by kernel_rfl) (fun _ _ _ h => h) (Or.inr ⟨by rfl, rfl⟩) (by assumption) ?_
          try simp only [Act.put, List.setIfInBounds_toArray, List.set_cons_zero, List.set_cons_succ]
          refine wpAnyH_take (i := 16) (oi := { dst := some 79, op := Op.load 3 (Operand.tmp 78), type := 3, pos := "keep.go:186", after := #[{ on := 15, ground := Ground.data }, { on := 8, ground := Ground.guard }], guard := some (8, true) }) (v := undef) rfl (by kernel_rfl) (by kernel_rfl) (by kernel_rfl) (fun _ _ _ h => h) (Or.inr ⟨by rfl, rfl⟩) (by assumption) ?_
          try simp only [Act.put, List.setIfInBounds_toArray, List.set_cons_zero, List.set_cons_succ]
          refine wpAnyH_take (i := 17) (oi := { dst := some 80, op := Op.binOp BinOp.geq 3 (Operand.tmp 77) (Operand.tmp 79) 3, type := 4, pos := "keep.go:186", after := #[{ on := 14, ground := Ground.data }, { on := 16, ground := Ground.data }, { on := 8, ground := Ground.guard }], guard := some (8, true) }) (v := undef) rfl (by kernel_rfl) (by kernel_rfl) (by kernel_rfl) (fun _ _ _ h => h) (Or.inr ⟨by rfl, rfl⟩) (by assumption) ?_
          try simp only [Act.put, List.setIfInBounds_toArray, List.set_cons_zero, List.set_cons_succ]
          refine wpAnyH_take (i := 18) (oi := { dst := some 81, op := Op.pick (Operand.tmp 71) (Operand.tmp 80) (Operand.const (Value.bool false)), type := 4, pos := "keep.go:186", after := #[{ on := 8, ground := Ground.data }, { on := 17, ground := Ground.data }, { on := 5, ground := Ground.guard }], guard := some (5, false) }) (v := ?_) rfl (by kernel_rfl) (by kernel_rfl) (by kernel_rfl) (fun _ _ _ h => h) (Or.inl ⟨by rfl, ?_⟩) (by assumption) ?_
          rotate_left
          · (intro wz hSw; (try dsimp only at hSw); go_simp; all_goals with_reducible rfl)
          try simp only [Act.put, List.setIfInBounds_toArray, List.set_cons_zero, List.set_cons_succ]
          refine wpAnyH_take (i := 19) (oi := { dst := some 82, op := Op.pick (Operand.tmp 68) (Operand.const (Value.bool true)) (Operand.tmp 81), type := 4, pos := "keep.go:186", after := #[{ on := 5, ground := Ground.data }, { on := 18, ground := Ground.data }], guard := none }) (v := ?_) rfl (by kernel_rfl) (by kernel_rfl) (by kernel_rfl) (fun _ _ _ h => h) (Or.inl ⟨by rfl, ?_⟩) (by assumption) ?_
          rotate_left
          · (intro wz hSw; (try dsimp only at hSw); go_simp; all_goals with_reducible rfl)
          try simp only [Act.put, List.setIfInBounds_toArray, List.set_cons_zero, List.set_cons_succ]
          refine wpAnyH_take (i := 20) (oi := { dst := some 83, op := Op.move (Operand.tmp 82), type := 4, pos := "keep.go:186", after := #[{ on := 19, ground := Ground.data }, { on := 8, ground := Ground.chain }], guard := none }) (v := ?_) rfl (by kernel_rfl) (by kernel_rfl) (by kernel_rfl) (fun _ _ _ h => h) (Or.inl ⟨by rfl, ?_⟩) (by assumption) ?_
          rotate_left
          · (intro wz hSw; (try dsimp only at hSw); go_simp; all_goals with_reducible rfl)
          try simp only [Act.put, List.setIfInBounds_toArray, List.set_cons_zero, List.set_cons_succ]
          refine wpAnyH_take (i := 21) (oi := { dst := some 84, op := Op.fieldAddr 57 (Operand.tmp 17) 1, type := 0, pos := "keep.go:186", after := #[{ on := 20, ground := Ground.guard }], guard := some (20, false) }) (v := ?_) rfl (by kernel_rfl) (by kernel_rfl) (by kernel_rfl) (fun _ _ _ h => h) (Or.inl ⟨by rfl, ?_⟩) (by assumption) ?_
          rotate_left
          · (intro wz hSw; (try dsimp only at hSw); go_simp; all_goals with_reducible rfl)
          try simp only [Act.put, List.setIfInBounds_toArray, List.set_cons_zero, List.set_cons_succ]
          refine wpAnyH_take (i := 22) (oi := { dst := some 85, op := Op.load 45 (Operand.tmp 84), type := 45, pos := "keep.go:186", after := #[{ on := 21, ground := Ground.data }, { on := 20, ground := Ground.guard }], guard := some (20, false) }) (v := ?_) rfl (by kernel_rfl) (by kernel_rfl) (by kernel_rfl) (fun _ _ _ h => h) (Or.inl ⟨by rfl, ?_⟩) (by assumption) ?_
          rotate_left
          · (intro wz hSw; (try dsimp only at hSw); go_simp; all_goals with_reducible rfl)
          try simp only [Act.put, List.setIfInBounds_toArray, List.set_cons_zero, List.set_cons_succ]
          refine wpAnyH_take (i := 23) (oi := { dst := some 86, op := Op.move (Operand.tmp 8), type := 39, pos := "keep.go:186", after := #[{ on := 20, ground := Ground.guard }], guard := some (20, false) }) (v := ?_) rfl (by kernel_rfl) (by kernel_rfl) (by kernel_rfl) (fun _ _ _ h => h) (Or.inl ⟨by rfl, ?_⟩) (by assumption) ?_
          rotate_left
          · (intro wz hSw; (try dsimp only at hSw); go_simp; all_goals with_reducible rfl)
          try simp only [Act.put, List.setIfInBounds_toArray, List.set_cons_zero, List.set_cons_succ]
          refine wpAnyH_take (i := 24) (oi := { dst := some 87, op := Op.move (Operand.tmp 9), type := 9, pos := "keep.go:186", after := #[{ on := 20, ground := Ground.guard }], guard := some (20, false) }) (v := ?_) rfl (by kernel_rfl) (by kernel_rfl) (by kernel_rfl) (fun _ _ _ h => h) (Or.inl ⟨by rfl, ?_⟩) (by assumption) ?_
          rotate_left
          · (intro wz hSw; (try dsimp only at hSw); go_simp; all_goals with_reducible rfl)
          try simp only [Act.put, List.setIfInBounds_toArray, List.set_cons_zero, List.set_cons_succ]
          refine wpAnyH_take (i := 25) (oi := { dst := some 88, op := Op.fieldAddr 57 (Operand.tmp 17) 0, type := 0, pos := "keep.go:186", after := #[{ on := 20, ground := Ground.guard }], guard := some (20, false) }) (v := ?_) rfl (by kernel_rfl) (by kernel_rfl) (by kernel_rfl) (fun _ _ _ h => h) (Or.inl ⟨by rfl, ?_⟩) (by assumption) ?_
          rotate_left
          · (intro wz hSw; (try dsimp only at hSw); go_simp; all_goals with_reducible rfl)
          try simp only [Act.put, List.setIfInBounds_toArray, List.set_cons_zero, List.set_cons_succ]
          refine wpAnyH_take (i := 26) (oi := { dst := some 89, op := Op.load 3 (Operand.tmp 88), type := 3, pos := "keep.go:186", after := #[{ on := 25, ground := Ground.data }, { on := 20, ground := Ground.guard }], guard := some (20, false) }) (v := ?_) rfl (by kernel_rfl) (by kernel_rfl) (by kernel_rfl) (fun _ _ _ h => h) (Or.inl ⟨by rfl, ?_⟩) (by assumption) ?_
          rotate_left
          · (intro wz hSw; (try dsimp only at hSw); go_simp; all_goals with_reducible rfl)
          try simp only [Act.put, List.setIfInBounds_toArray, List.set_cons_zero, List.set_cons_succ]
          refine wpAnyH_take (i := 27) (oi := { dst := some 90, op := Op.fieldAddr 57 (Operand.tmp 17) 0, type := 0, pos := "keep.go:186", after := #[{ on := 20, ground := Ground.guard }], guard := some (20, false) }) (v := ?_) rfl (by kernel_rfl) (by kernel_rfl) (by kernel_rfl) (fun _ _ _ h => h) (Or.inl ⟨by rfl, ?_⟩) (by assumption) ?_
          rotate_left
          · (intro wz hSw; (try dsimp only at hSw); go_simp; all_goals with_reducible rfl)
          try simp only [Act.put, List.setIfInBounds_toArray, List.set_cons_zero, List.set_cons_succ]
          refine wpAnyH_take (i := 28) (oi := { dst := some 91, op := Op.load 3 (Operand.tmp 90), type := 3, pos := "keep.go:186", after := #[{ on := 27, ground := Ground.data }, { on := 20, ground := Ground.guard }], guard := some (20, false) }) (v := ?_) rfl (by kernel_rfl) (by kernel_rfl) (by kernel_rfl) (fun _ _ _ h => h) (Or.inl ⟨by rfl, ?_⟩) (by assumption) ?_
          rotate_left
          · (intro wz hSw; (try dsimp only at hSw); go_simp; all_goals with_reducible rfl)
          try simp only [Act.put, List.setIfInBounds_toArray, List.set_cons_zero, List.set_cons_succ]
          refine wpAnyH_take (i := 29) (oi := { dst := some 92, op := Op.move (Operand.tmp 10), type := 3, pos := "keep.go:186", after := #[{ on := 20, ground := Ground.guard }], guard := some (20, false) }) (v := ?_) rfl (by kernel_rfl) (by kernel_rfl) (by kernel_rfl) (fun _ _ _ h => h) (Or.inl ⟨by rfl, ?_⟩) (by assumption) ?_
          rotate_left
          · (intro wz hSw; (try dsimp only at hSw); go_simp; all_goals with_reducible rfl)
          try simp only [Act.put, List.setIfInBounds_toArray, List.set_cons_zero, List.set_cons_succ]
          refine wpAnyH_take (i := 30) (oi := { dst := some 93, op := Op.binOp BinOp.add 3 (Operand.tmp 91) (Operand.tmp 92) 3, type := 3, pos := "keep.go:186", after := #[{ on := 28, ground := Ground.data }, { on := 29, ground := Ground.data }, { on := 20, ground := Ground.guard }], guard := some (20, false) }) (v := ?_) rfl (by kernel_rfl) (by kernel_rfl) (by kernel_rfl) (fun _ _ _ h => h) (Or.inl ⟨by rfl, ?_⟩) (by assumption) ?_
          rotate_left
          · (intro wz hSw; (try dsimp only at hSw); go_simp; all_goals with_reducible rfl)
          try simp only [Act.put, List.setIfInBounds_toArray, List.set_cons_zero, List.set_cons_succ]
          refine wpAnyH_take (i := 31) (oi := { dst := some 94, op := Op.binOp BinOp.sub 3 (Operand.tmp 93) (Operand.const (Value.int IntKind.i64 1)) 3, type := 3, pos := "keep.go:186", after := #[{ on := 30, ground := Ground.data }, { on := 20, ground := Ground.guard }], guard := some (20, false) }) (v := ?_) rfl (by kernel_rfl) (by kernel_rfl) (by kernel_rfl) (fun _ _ _ h => h) (Or.inl ⟨by rfl, ?_⟩) (by assumption) ?_
          rotate_left
          · (intro wz hSw; (try dsimp only at hSw); go_simp; all_goals with_reducible rfl)
          try simp only [Act.put, List.setIfInBounds_toArray, List.set_cons_zero, List.set_cons_succ]
          refine wpAnyH_ready (rs := [32]) (by kernel_rfl) (by simp) ?_
          refine AllReadyH.cons (o := { dst := some 95, op := Op.call { callee := Callee.value (Operand.func 18), args := #[Operand.tmp 86, Operand.tmp 87, Operand.tmp 89, Operand.tmp 94], argTypes := #[39, 9, 3, 3] }, type := 45, pos := "keep.go:186", after := #[{ on := 23, ground := Ground.data }, { on := 24, ground := Ground.data }, { on := 26, ground := Ground.data }, { on := 31, ground := Ground.data }, { on := 20, ground := Ground.chain }, { on := 20, ground := Ground.guard }], guard := some (20, false) }) rfl (fun K hK => ?_) AllReadyH.nil
          go_simp
          go_at_call 18
          refine (K2.out _ HD.out.drew).mono ?_
          rintro e w7 ⟨rfl, hb7⟩
          have T7 := (bcells (hb7.mono (show wd.heap.size ≤ _ by simp))).1
          have HB7 := hideC (nextB (BD.out.drew) (by have := BD.out.size; omega) hb7)
          go_wp2_with fail
          refine hK.out _ _ ?_ (fun hHeld => ?_)
          · (try dsimp only)
            go_keep
          clear hK K
          try simp only [Act.put, List.setIfInBounds_toArray, List.set_cons_zero, List.set_cons_succ]
          refine wpAnyH_take (i := 33) (oi := { dst := some 96, op := Op.binOp BinOp.neq 45 (Operand.tmp 85) (Operand.tmp 95) 45, type := 4, pos := "keep.go:186", after := #[{ on := 22, ground := Ground.data }, { on := 32, ground := Ground.data }, { on := 20, ground := Ground.guard }], guard := some (20, false) }) (v := ?_) rfl (by kernel_rfl) (by kernel_rfl) (by kernel_rfl) (fun _ _ _ h => h) (Or.inl ⟨by rfl, ?_⟩) (by assumption) ?_
          rotate_left
          · (intro wz hSw; (try dsimp only at hSw); go_simp; all_goals with_reducible rfl)
          try simp only [Act.put, List.setIfInBounds_toArray, List.set_cons_zero, List.set_cons_succ]
          refine wpAnyH_take (i := 34) (oi := { dst := some 97, op := Op.pick (Operand.tmp 83) (Operand.const (Value.bool true)) (Operand.tmp 96), type := 4, pos := "keep.go:186", after := #[{ on := 20, ground := Ground.data }, { on := 33, ground := Ground.data }], guard := none }) (v := ?_) rfl (by kernel_rfl) (by kernel_rfl) (by kernel_rfl) (fun _ _ _ h => h) (Or.inl ⟨by rfl, ?_⟩) (by assumption) ?_
          rotate_left
          · (intro wz hSw; (try dsimp only at hSw); go_simp; all_goals with_reducible rfl)
          try simp only [Act.put, List.setIfInBounds_toArray, List.set_cons_zero, List.set_cons_succ]
          refine wpAnyH_take (i := 35) (oi := { dst := some 98, op := Op.move (Operand.tmp 97), type := 4, pos := "keep.go:186", after := #[{ on := 34, ground := Ground.data }, { on := 32, ground := Ground.chain }], guard := none }) (v := ?_) rfl (by kernel_rfl) (by kernel_rfl) (by kernel_rfl) (fun _ _ _ h => h) (Or.inl ⟨by rfl, ?_⟩) (by assumption) ?_
          rotate_left
          · (intro wz hSw; (try dsimp only at hSw); go_simp; all_goals with_reducible rfl)
          try simp only [Act.put, List.setIfInBounds_toArray, List.set_cons_zero, List.set_cons_succ]
          refine wpAnyH_take (i := 36) (oi := { dst := some 99, op := Op.fieldAddr 57 (Operand.tmp 17) 1, type := 0, pos := "keep.go:186", after := #[{ on := 35, ground := Ground.guard }], guard := some (35, false) }) (v := ?_) rfl (by kernel_rfl) (by kernel_rfl) (by kernel_rfl) (fun _ _ _ h => h) (Or.inl ⟨by rfl, ?_⟩) (by assumption) ?_
          rotate_left
          · (intro wz hSw; (try dsimp only at hSw); go_simp; all_goals with_reducible rfl)
          try simp only [Act.put, List.setIfInBounds_toArray, List.set_cons_zero, List.set_cons_succ]
          refine wpAnyH_take (i := 37) (oi := { dst := some 100, op := Op.fieldAddr 45 (Operand.tmp 99) 0, type := 0, pos := "keep.go:186", after := #[{ on := 36, ground := Ground.data }, { on := 35, ground := Ground.guard }], guard := some (35, false) }) (v := ?_) rfl (by kernel_rfl) (by kernel_rfl) (by kernel_rfl) (fun _ _ _ h => h) (Or.inl ⟨by rfl, ?_⟩) (by assumption) ?_
          rotate_left
          · (intro wz hSw; (try dsimp only at hSw); go_simp; all_goals with_reducible rfl)
          try simp only [Act.put, List.setIfInBounds_toArray, List.set_cons_zero, List.set_cons_succ]
          refine wpAnyH_take (i := 38) (oi := { dst := some 101, op := Op.load 3 (Operand.tmp 100), type := 3, pos := "keep.go:186", after := #[{ on := 37, ground := Ground.data }, { on := 35, ground := Ground.guard }], guard := some (35, false) }) (v := ?_) rfl (by kernel_rfl) (by kernel_rfl) (by kernel_rfl) (fun _ _ _ h => h) (Or.inl ⟨by rfl, ?_⟩) (by assumption) ?_
          rotate_left
          · (intro wz hSw; (try dsimp only at hSw); go_simp; all_goals with_reducible rfl)
          try simp only [Act.put, List.setIfInBounds_toArray, List.set_cons_zero, List.set_cons_succ]
          refine wpAnyH_take (i := 39) (oi := { dst := some 102, op := Op.binOp BinOp.eql 3 (Operand.tmp 101) (Operand.const (Value.int IntKind.i64 0)) 3, type := 4, pos := "keep.go:186", after := #[{ on := 38, ground := Ground.data }, { on := 35, ground := Ground.guard }], guard := some (35, false) }) (v := ?_) rfl (by kernel_rfl) (by kernel_rfl) (by kernel_rfl) (fun _ _ _ h => h) (Or.inl ⟨by rfl, ?_⟩) (by assumption) ?_
          rotate_left
          · (intro wz hSw; (try dsimp only at hSw); go_simp; all_goals with_reducible rfl)
          try simp only [Act.put, List.setIfInBounds_toArray, List.set_cons_zero, List.set_cons_succ]
          refine wpAnyH_take (i := 40) (oi := { dst := some 103, op := Op.pick (Operand.tmp 98) (Operand.const (Value.bool true)) (Operand.tmp 102), type := 4, pos := "keep.go:186", after := #[{ on := 35, ground := Ground.data }, { on := 39, ground := Ground.data }], guard := none }) (v := ?_) rfl (by kernel_rfl) (by kernel_rfl) (by kernel_rfl) (fun _ _ _ h => h) (Or.inl ⟨by rfl, ?_⟩) (by assumption) ?_
          rotate_left
          · (intro wz hSw; (try dsimp only at hSw); go_simp; all_goals with_reducible rfl)
          try simp only [Act.put, List.setIfInBounds_toArray, List.set_cons_zero, List.set_cons_succ]
          refine wpAnyH_done (by kernel_rfl) ?_ _
          go_wp2
          go_roundw
          case rel =>
            go_light
            exact ⟨i + 1, by omega, by rw [htk], by go_num, nextB hbr (Nat.le_refl _) HB7.out⟩
          case measure => simp [intOf]; omega
        · have i2 : ((0 : Int) < (i : Int)) := by omega
          have i3 : 0 < i := by omega
          obtain ⟨k, hk⟩ : ∃ k, k = i - 1 := ⟨_, rfl⟩
          have hkl : k < R.length := by omega
          obtain ⟨rb', ro', he, -, q0, -⟩ := (HR5.out.below hbr (Nat.le_refl _)).en hkl
          cases he
          have hzk : R[k].key < y.key := by
            have h := hpr (by omega)
            subst hk
            exact h
          obtain ⟨zk, hzq⟩ : ∃ z, R[k].key = z := ⟨_, rfl⟩
          rw [hzq] at q0 hzk
          have hzn : ¬ y.key ≤ zk := by omega
          have hwk : IntKind.i64.wrap ((i : Int) - 1) = (k : Int) := by rw [IntKind.wrap_i64]; omega
          have k0 : (0 : Int) ≤ (k : Int) := by omega
          have k1 : (k : Int) < (R.length : Int) := by omega
          clear hz hpr hk hzq
          go_upto_region 12 with fail
          have XD := hideC (rowL_alloc wr [.int .i64 y.key, .int .i64 y.c, .int .i64 y.s, .int .i64 y.lo, .int .i64 y.hi, .int .i64 y.t, .int .i64 y.l] 57)
          have BD := hideC ((Below.refl wr.heap.size wr).alloc (Nat.le_refl _) (.cells #[.int .i64 y.key, .int .i64 y.c, .int .i64 y.s, .int .i64 y.lo, .int .i64 y.hi, .int .i64 y.t, .int .i64 y.l] 57))
          have lD : wr.heap.size < (wr.alloc (.cells #[.int .i64 y.key, .int .i64 y.c, .int .i64 y.s, .int .i64 y.lo, .int .i64 y.hi, .int .i64 y.t, .int .i64 y.l] 57)).heap.size := by simp
          obtain ⟨wd, hwd⟩ : ∃ wd, wd = wr.alloc (.cells #[.int .i64 y.key, .int .i64 y.c, .int .i64 y.s, .int .i64 y.lo, .int .i64 y.hi, .int .i64 y.t, .int .i64 y.l] 57) := ⟨_, rfl⟩
          rw [← hwd] at XD BD lD ⊢
          clear hwd
          have hrd : rb < wd.heap.size := by omega
          have d := fun j => XD.out.cell j
          have d0 := d 0
          have d1 := d 1
          have d2 := d 2
          have d3 := d 3
          have d4 := d 4
          have d5 := d 5
          have d6 := d 6
          simp only [List.getElem?_cons_zero, List.getElem?_cons_succ] at d0 d1 d2 d3 d4 d5 d6
          have p0 := (BD.out.cell (p := ⟨rb, ro + k * 7, none⟩) (by show rb < wr.heap.size; omega)).trans q0
          have HD := hideC (nextB HBr.out (Nat.le_refl _) BD.out)
          clear d c0 c1 c2 c3 c4 c5 c6
          first | (go_region_held3 (fun w' => w'.cell? ⟨wr.heap.size, 0, none⟩ = some (.int .i64 y.key) ∧ w'.cell? ⟨wr.heap.size, 1, none⟩ = some (.int .i64 y.c) ∧ w'.cell? ⟨wr.heap.size, 2, none⟩ = some (.int .i64 y.s) ∧ w'.cell? ⟨wr.heap.size, 3, none⟩ = some (.int .i64 y.lo) ∧ w'.cell? ⟨wr.heap.size, 4, none⟩ = some (.int .i64 y.hi) ∧ w'.cell? ⟨wr.heap.size, 5, none⟩ = some (.int .i64 y.t) ∧ w'.cell? ⟨wr.heap.size, 6, none⟩ = some (.int .i64 y.l) ∧ w'.cell? ⟨rb, ro + k * 7, none⟩ = some (.int .i64 zk)) (go_keep)
            (first
              | (go_at_call 18; refine (K2.out _ HD.out.drew).mono ?_; rintro e w7 ⟨rfl, hb7⟩; have T7 := (bcells (hb7.mono (show wd.heap.size ≤ _ by simp))).1; have HB7 := hideC (nextB (BD.out.drew) (by have := BD.out.size; omega) hb7)))) | fail
          go_wp2
          go_roundw
          case rel =>
            go_light
            exact ⟨i + 1, by omega, by rw [htk], by go_num, nextB hbr (Nat.le_refl _) HB7.out⟩
          case measure => simp [intOf]; omega
      · obtain rfl : i = R.length := by omega
        have hni : ¬ ((R.length : Int) < (R.length : Int)) := by omega
        have hce : sumC (R.take R.length) = S.c := by rw [List.take_length]; exact hSc.out
        rw [hce]
        clear hcb hce
        have hfd : ∀ W : World, (Instr.field 45 (.agg #[.int .i64 S.c, .int .i64 S.s, .int .i64 S.lo, .int .i64 S.hi, .int .i64 S.t, .int .i64 S.l]) 0).run Tryz.prog W = .ok (.int .i64 S.c) W := fun _ => by kernel_rfl
        go_wp2_with (first
          | (go_at_call 18; refine (K0.out _ HBr.out).mono ?_; rintro e w7 ⟨rfl, hb7⟩; have HB7 := hideC (nextB HBr.out (Nat.le_refl _) hb7); clear hb7))
        go_ret
        exact ⟨rfl, nextB HB1.out (Nat.le_refl _) HB7.out⟩
  · have RN := hideC fun (sz' a b : Int) W (hW : Below w1.heap.size w1 W) => rows_no (HZ.out.below (nextB HB1.out (Nat.le_refl _) hW)) (BA1.out.up hW) K1.out (x := s) (sz := sz') (a := a) (b := b) (by omega)
    rw [show decide (0 ≤ Lib.idxOfS ss s) = false by simpa using hx] at CT
    simp only [baseV] at RN
    have P0 : True := trivial
    clear hx
    go_wp2_with (first
      | (go_at_call 15; refine (PW.out _).mono ?_; rintro e wx ⟨rfl, hwx⟩; subst wx)
      | (go_at_call 20; have kk := P0; clear kk; refine (RN.out _ _ _ _ HB2a.out).mono ?_; rintro e w4 ⟨rfl, hb4⟩; have HB4 := hideC (nextB HB2a.out (Nat.le_refl _) hb4); have X4 := hideC (X2a.out.below hb4 X2a.out.lt); have x4 := fun j => X4.out.cell j; simp only [baseV] at x4; have l4 := X4.out.lt; clear hb4 x2 P0)
      | (go_at_call 20; refine (RN.out _ _ _ _ HB4.out).mono ?_; rintro e w5 ⟨rfl, hb5⟩; have HB5 := hideC (nextB HB4.out (Nat.le_refl _) hb5); have X5 := hideC (X4.out.below hb5 X4.out.lt); have x5 := fun j => X5.out.cell j; simp only [baseV] at x5; have l5 := X5.out.lt; clear hb5 x4)
      | (go_at_call 17; refine (CT.out _ HB5.out).mono ?_; rintro e w6 ⟨rfl, hw6⟩; subst w6))
    go_ret
    exact ⟨rfl, nextB HB1.out (Nat.le_refl _) HB5.out⟩
set_option maxRecDepth 100000 in
theorem basesRows_lifted (os : Os) (started : os.Started) (H : Type) (enc : TypeId × Value → H) :
    ReturnsInHanded {} Tryz.checked os 5 .any (fun w args => (Rows.basesRowsSpec.pre enc Tryz.prog Tryz.f5 [] false w args ∧ laidMetH Tryz.prog laidSz w) ∧ sizedMet enc Tryz.prog Tryz.f5 (OpenSpec.ofChange Rows.basesRowsSpec) false w args)
      (Rows.basesRowsSpec.post enc Tryz.prog Tryz.f5 false true false false) := by
  refine returnsInHanded_of_change_and (C := Tryz.checked) (X := fun w _ => laidMetH Tryz.prog laidSz w) (fun _ _ _ hh h => h.of_heap hh) own started (by kernel_rfl) Tryz.func5
    (ChangeSpec.witness_at (enc := enc) (C := Tryz.checked) (os := os) (X := fun w _ => laidMetH Tryz.prog laidSz w) false (World.laidAll Tryz.prog os laidSz) #[.slice none 0 0, .int .i64 0, .int .i64 0] 8 (World.laidAll_os _ _ _) (by kernel_rfl) (by kernel_rfl) (by kernel_rfl) (by kernel_rfl) (by kernel_rfl)
      (by rw [MakeChecks.laidMetH_plain _ _ _ (by kernel_rfl)]; exact laidMet_laidAll _ (by kernel_rfl) (by kernel_rfl))) ?_
  intro W base args ds gs before hval0 hW _ hsz0 hL _
  have hval : ∀ (j : Nat) t v, Tryz.f5.params[j]? = some t → args[j]? = some v → Value.okWide Tryz.prog W .any base t v := hval0
  have hW' := hW
  obtain ⟨p, q, hA0, hV, rfl, hfz, hnd⟩ := hW
  have hA : DataW.TrodAll enc Tryz.prog W 0 (fun _ => true) true Tryz.f5.params.toList args.toList ds p := hA0
  have hsz : (DataW.weightsEach Tryz.prog (Tryz.f5.params.toList ++ Rows.basesRowsSpec.plain.varTypes Tryz.prog) (ds ++ gs)).all (· ≤ reachBytes) = true := hsz0
  rw [Tryz.params5] at hA hval hsz
  obtain ⟨v0, vs0, d0, ds0, p0, q0, hargs, rfl, rfl, h0, r0⟩ := trodAll_cons hA
  obtain ⟨v1, vs1, d1, ds1, p1, q1, rfl, rfl, rfl, h1, r1⟩ := trodAll_cons r0
  obtain ⟨v2, vs2, d2, ds2, p2, q2, rfl, rfl, rfl, h2, r2⟩ := trodAll_cons r1
  obtain ⟨rfl, rfl, rfl⟩ := trodAll_nil r2
  obtain rfl : args = #[v0, v1, v2] := by cases args; simp_all
  obtain ⟨rfl, rfl⟩ := trodVars_none hV
  have k0 := h0
  have lt0 : ∀ x ∈ p0, x.block < W.heap.size := by obtain ⟨m, hm⟩ := k0; exact DataW.trod_lt m _ _ _ hm
  obtain ⟨A0, C0, xs0, rfl, hR0, hz0, hw0⟩ := open_rawsArg (hval 0 38 v0 rfl rfl) h0 (fun n hn => by
    have := List.all_eq_true.1 hsz n (DataW.weights_mem_each (j := 0) (t := 38) rfl rfl n hn)
    exact of_decide_eq_true this)
  have k1 := h1
  have lt1 : ∀ x ∈ p1, x.block < W.heap.size := by obtain ⟨m, hm⟩ := k1; exact DataW.trod_lt m _ _ _ hm
  obtain ⟨a1, rfl, w1⟩ : ∃ n : Int, v1 = .int .i64 n ∧ (Lit.int .i64 n).wf = true := by
    obtain ⟨n, h, _, _, w⟩ := open_int Tryz.underlying3 (hval 1 3 v1 rfl rfl) h1; exact ⟨n, h, w⟩
  have k2 := h2
  have lt2 : ∀ x ∈ p2, x.block < W.heap.size := by obtain ⟨m, hm⟩ := k2; exact DataW.trod_lt m _ _ _ hm
  obtain ⟨a2, rfl, w2⟩ : ∃ n : Int, v2 = .int .i64 n ∧ (Lit.int .i64 n).wf = true := by
    obtain ⟨n, h, _, _, w⟩ := open_int Tryz.underlying3 (hval 2 3 v2 rfl rfl) h2; exact ⟨n, h, w⟩
  clear hA0 hval0 hsz0
  refine (basesRows_walk A0 C0 xs0 a1 a2 W (szAt_of hL) hR0 hz0 hw0 w1 w2).mono fun e W' ⟨he, bel⟩ => ?_
  subst he
  exact ⟨_, rfl, _, _, _, [], _, [], hW', trodAll_mk1 (shut_bool Tryz.underlying4 _), (trodAll_cons_mk (Below.trod laidOut (by kernel_rfl) (of_decide_eq_true (by kernel_rfl)) k0 bel lt0) (trodAll_cons_mk (Below.trod laidOut (by kernel_rfl) (of_decide_eq_true (by kernel_rfl)) k1 bel lt1) (trodAll_cons_mk (Below.trod laidOut (by kernel_rfl) (of_decide_eq_true (by kernel_rfl)) k2 bel lt2) trodAll_mk0))), rfl, bel.frame _, fun h => by cases h⟩

theorem basesRows_holds : Rows.BasesRowsSaid :=
  OpenClaim.holds_of_wide 5 Tryz.f5 rfl rfl rfl rfl rfl rfl rfl ⟨rfl, rfl, rfl, rfl, rfl⟩ rfl rfl rfl rfl rfl (by kernel_rfl) Tryz.func5 (by kernel_rfl)
    (of_decide_eq_true (by kernel_rfl)) (by unfold Func.isWrapper; first | (rw [if_pos (by decide +kernel)]; kernel_rfl) | (rw [if_neg (by decide +kernel)]; exact ⟨rfl, rfl⟩))
    (fun os started H enc _ => basesRows_lifted os started H enc)

theorem basesRowsCard_holds : Rows.BasesRowsCardSaid :=
  Claim7.holds_tied_plain_at .later [] [.data] true (true, "70812a8111c496b7e791c729587af830859d64019f6e8c761a5939306b334728") false basesRows_holds (fun _ h => by cases h) (by kernel_rfl) (fun _ h => by cases h) basesRows_row_tie rfl ⟨rfl, rfl⟩ (by kernel_rfl) rfl
    (fun f fn hf hfn => by
      obtain rfl : f = 5 := Option.some.inj ((show Tryz.prog.funcNamed "winnower/winnowerkeep.BasesRows" = some 5 by kernel_rfl).symm.trans hf) |>.symm
      obtain rfl : fn = Tryz.f5 := (Option.some.inj (Tryz.func5.symm.trans hfn)).symm
      exact ⟨by kernel_rfl, fun j t ht => by
        rw [Tryz.params5] at ht
        have hm : t ∈ [38, 3, 3] := by simpa using Array.mem_of_getElem? ht
        have hall : ([38, 3, 3].all fun u => !Tryz.prog.wantsStandIn u) = true := by kernel_rfl
        exact (show Tryz.prog.wantsStandIn t = false by simpa using List.all_eq_true.1 hall t hm)⟩)
    (by kernel_rfl)
#print axioms basesRowsCard_holds
end Go.Proofs.YtlojfgdpmaigmaeGreatDoor

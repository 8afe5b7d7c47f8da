/- For every list of raw things and any two numbers, what is too old is gone from a base that expired, and comes no more, and the rest stays. No condition beside the table of sizes, which is tied to the program's text. -/
import Derived.Test.YtlojfgdpmaigmaeGreatDoorBasesTotal
import Derived.Test.YtlojfgdpmaigmaeGreatDoorP51
namespace Go.Proofs.YtlojfgdpmaigmaeGreatDoor
open Go.ChangeShapes Go.WideShapes Go.ChangeAt Go.RowKit Plain Go.Shelf

theorem ofPts_yng {s : ByteArray} {t : Int} {pts : List Pt} (hp : ∀ p ∈ pts, ∃ f, Pt.ok f p) : ofPts s 0 1048575 (ynger t pts) = ofPts s t 1048575 pts := by
  unfold ofPts ynger
  rw [List.filter_filter]
  refine List.filter_congr fun p hm => ?_
  obtain ⟨f, h⟩ := hp p hm
  have := h.t0
  unfold inPt
  by_cases h1 : p.s = s <;> by_cases h2 : t ≤ p.t <;> by_cases h3 : p.t ≤ 1048575 <;> simp [h1, h2, h3, this]

theorem ofPts_old {s : ByteArray} {t : Int} {pts : List Pt} : ofPts s 0 (t - 1) (ynger t pts) = [] := by
  unfold ofPts ynger
  rw [List.filter_filter, List.filter_eq_nil_iff]
  intro p _
  unfold inPt
  simp only [Bool.and_eq_true, decide_eq_true_eq, not_and]
  omega

theorem pt_late {s : ByteArray} {t f : Int} (hn : nameB s = true) (h0 : 0 ≤ t) (h1 : t ≤ 1048575) (h2 : t < f) : ptC s t 0 f = 8 := by
  unfold ptC
  rw [if_pos hn, if_pos, if_pos h2]
  unfold ofOk
  simp only [Bool.and_eq_true]
  exact ⟨(inB_iff _ _ _).2 ⟨h0, h1⟩, (inB_iff _ _ _).2 ⟨by decide, by decide⟩⟩

theorem floor_at {p : Int} (h0 : 0 ≤ p) (h1 : p ≤ 2) : floorC 0 (3600 * (1 + p)) = 0 := by
  unfold floorC
  rw [if_pos ((inB_iff _ _ _).2 ⟨by omega, by omega⟩), if_pos (by omega), if_neg (by omega)]

theorem floor_odd {t u : Int} (h : t = 3600 ∨ t = 7200 ∨ t = 10800) (u0 : 0 ≤ u) (u1 : u ≤ 3597) : floorC 0 (t + 1 + u) = 4 := by
  unfold floorC
  rw [if_pos ((inB_iff _ _ _).2 ⟨by omega, by omega⟩), if_neg (by omega)]

theorem floor_back {t : Int} (h : t = 3600 ∨ t = 7200 ∨ t = 10800) : floorC t (t - 3600) = 8 := by
  unfold floorC
  rw [if_pos ((inB_iff _ _ _).2 ⟨by omega, by omega⟩), if_pos (by omega), if_pos (by omega)]

set_option maxRecDepth 20000 in
set_option maxHeartbeats 40000000 in
theorem basesExpire_walk (A : Option Addr) (C : Nat) (xs : List Rw) (n back : Int) (w : World) (hZ : SzAt w) (hA : RowAt w.heap.size w A (flatR xs)) (_ : xs.length * 32 ≤ 140737488351232) (hwf : ∀ x ∈ xs, x.wf) (hn : (Lit.int .i64 n).wf = true) (hm : (Lit.int .i64 back).wf = true) :
    Calls Tryz.prog 7 #[.slice A xs.length C, .int .i64 n, .int .i64 back] w fun e w' => e = .returned (.bool true) ∧ Below w.heap.size w w' := by
  have bn := wf_b hn
  have bm := wf_b hm
  have p1 := pick_bd n (show (0 : Int) < 3 by decide)
  have p2 := pick_bd back (show (0 : Int) < 3598 by decide)
  have KB1 := hideC (kbase_any A C xs 40 w hZ hA hwf (by decide) (by decide))
  have hlen : ((xs.take (40 : Int).toNat).map rawPt).length ≤ 40 := by simp; omega
  obtain ⟨pts, hpts⟩ : ∃ pts, (xs.take (40 : Int).toNat).map rawPt = pts := ⟨_, rfl⟩
  rw [hpts] at KB1 hlen
  have PN := hideC fun W => picked_any n 3 W bn.1 bn.2 (by decide) (by decide)
  have PU := hideC fun W => picked_any back 3598 W bm.1 bm.2 (by decide) (by decide)
  obtain ⟨t, ht⟩ : ∃ t, 3600 * (1 + pick n 3) = t := ⟨_, rfl⟩
  have fl0 : floorC 0 t = 0 := by rw [← ht]; exact floor_at p1.1 (by omega)
  have t3 : t = 3600 ∨ t = 7200 ∨ t = 10800 := by omega
  have PT := hideC fun W => picked_any back t W bm.1 bm.2 (by omega) (by omega)
  have p3 := pick_bd back (show (0 : Int) < t by omega)
  obtain ⟨p, hp⟩ : ∃ p, pick n 3 = p := ⟨_, rfl⟩
  obtain ⟨u, hu⟩ : ∃ u, pick back 3598 = u := ⟨_, rfl⟩
  obtain ⟨v, hv⟩ : ∃ v, pick back t = v := ⟨_, rfl⟩
  rw [hp] at PN p1 ht
  rw [hu] at PU p2
  rw [hv] at PT p3
  have k1 : IntKind.i64.wrap (1 + p) = 1 + p := by rw [IntKind.wrap_i64]; omega
  have k2 : IntKind.i64.wrap (3600 * (1 + p)) = t := by rw [IntKind.wrap_i64]; omega
  have k3 : IntKind.i64.wrap (t + 1) = t + 1 := by rw [IntKind.wrap_i64]; omega
  have k4 : IntKind.i64.wrap (t + 1 + u) = t + 1 + u := by rw [IntKind.wrap_i64]; omega
  have k5 : IntKind.i64.wrap (t - 3600) = t - 3600 := by rw [IntKind.wrap_i64]; omega
  have k6 : IntKind.i64.wrap (t - 1) = t - 1 := by rw [IntKind.wrap_i64]; omega
  have fl1 := floor_odd t3 p2.1 (show u ≤ 3597 by omega)
  have fl2 := floor_back t3
  have fl3 := pt_late (s := nmS 0) (t := v) (f := t) (nmS_name 0) p3.1 (by omega) (by omega)
  have HZ := hideC hZ
  clear hpts hp hu hv hA hwf hn hm bn bm hZ
  go_enter Tryz.func7, Tryz.ntmps7
  go_upto_region 3 with (first
    | (go_at_call 13; refine KB1.out.mono ?_; rintro e w1 ⟨A1, PA1, C1, PC1, ss, t0, t1, t2, he, ho, hk, hf4, hr, hb⟩; obtain ⟨A10, C10, q0, s0⟩ := t0; obtain ⟨A11, C11, q1, s1⟩ := t1; obtain ⟨A12, C12, q2, s2⟩ := t2; have BA1 := hideC (ho.at hk); have K1 := hideC hk; have R1 := hideC hr; have HB1 := hideC hb; have X1 := hideC (rowL_alloc w1 (baseV A1 C1 ss ⟨A10, C10, q0, s0⟩ ⟨A11, C11, q1, s1⟩ ⟨A12, C12, q2, s2⟩ 0) 28); have HO1 := hideC (pts_ok hk); simp only [baseV] at he; subst he; clear ho hk hf4 hr hb KB1)
    | (go_at_call 15; refine (PN.out _).mono ?_; rintro e wx ⟨rfl, hwx⟩; subst wx))
  have EX := hideC fun W (hW : Below w1.heap.size w1 W) => bexp_kn (HZ.out.below (nextB HB1.out (Nat.le_refl _) hW)) (BA1.out.up hW) K1.out (t := t) fl0 (by omega)
  have EO := hideC fun W (hW : Below w1.heap.size w1 W) => bexp_no (HZ.out.below (nextB HB1.out (Nat.le_refl _) hW)) (BA1.out.up hW) K1.out (t := t + 1 + u) fl1 (by decide)
  simp only [baseV, noBase] at EX EO
  have P0 : True := trivial
  go_upto_region 4 with (first
    | (go_at_call 9; refine (EX.out _ ((Below.refl _ _).alloc (Nat.le_refl _) _)).mono ?_; rintro e w3 ⟨A3, C3, ⟨A30, C30, u0, v0⟩, ⟨A31, C31, u1, v1⟩, ⟨A32, C32, u2, v2⟩, he3, ho3, hk3, hb3⟩; simp only [baseV] at he3; subst he3))
  have HB3 : Hid (Below w1.heap.size w1 w3) := nextB ((Below.refl _ _).alloc (Nat.le_refl _) _) (Nat.le_refl _) hb3
  have BA3 := hideC (ho3.at hk3)
  have K3 := hideC hk3
  have X3 := hideC (X1.out.below hb3 X1.out.lt)
  obtain ⟨wd, hwd⟩ : ∃ wd, wd = w3.alloc (.cells #[.slice A3 ss.length C3, .slice A30 u0.length C30, .int .i64 v0, .slice A31 u1.length C31, .int .i64 v1, .slice A32 u2.length C32, .int .i64 v2, .int .i64 t] 28) := ⟨_, rfl⟩
  obtain ⟨cb, hcb⟩ : ∃ cb, cb = w3.heap.size := ⟨_, rfl⟩
  obtain ⟨bb, hbb⟩ : ∃ bb, bb = w1.heap.size := ⟨_, rfl⟩
  have HBd : Hid (Below w3.heap.size w3 wd) := by rw [hwd]; exact (Below.refl _ _).alloc (Nat.le_refl _) _
  have XC : Hid (RowL wd cb 28 [.slice A3 ss.length C3, .slice A30 u0.length C30, .int .i64 v0, .slice A31 u1.length C31, .int .i64 v1, .slice A32 u2.length C32, .int .i64 v2, .int .i64 t]) := by rw [hwd, hcb]; exact rowL_alloc w3 _ _
  have XB : Hid (RowL wd bb 28 [.slice A1 ss.length C1, .slice A10 q0.length C10, .int .i64 s0, .slice A11 q1.length C11, .int .i64 s1, .slice A12 q2.length C12, .int .i64 s2, .int .i64 0]) := by rw [hbb]; exact X3.out.below HBd.out X3.out.lt
  have HW : Hid (Below w1.heap.size w1 wd) := nextB HB3.out (Nat.le_refl _) HBd.out
  rw [← hwd, ← hcb, ← hbb]
  clear hwd hcb hbb X3 X1 ho3 hk3 hb3 EX PN k1 k2
  have b := fun j => XB.out.cell j
  have b0 := b 0
  have b1 := b 1
  have b2 := b 2
  have b3 := b 3
  have b4 := b 4
  have b5 := b 5
  have b6 := b 6
  have b7 := b 7
  simp only [List.getElem?_cons_zero, List.getElem?_cons_succ] at b0 b1 b2 b3 b4 b5 b6 b7
  clear b
  have lb := XB.out.lt
  go_cut [13] (fun v13 wc => v13 = .int .i64 4 ∧ Below wd.heap.size wd wc)
  case first =>
    have n1 : ¬ bb = wd.heap.size := by omega
    have KS : ∀ (W : World) (b' o' j : Nat) (u : Value), ¬ b' = wd.heap.size → (W.setCell ⟨wd.heap.size, j, none⟩ u).cell? ⟨b', o', none⟩ = W.cell? ⟨b', o', none⟩ := fun W b' o' j u hb => World.cell?_setCell_far _ _ _ _ (fun e => hb e.symm)
    go_region_held3 (fun w' => w'.cell? ⟨bb, 0, none⟩ = some (.slice A1 ss.length C1) ∧ w'.cell? ⟨bb, 1, none⟩ = some (.slice A10 q0.length C10) ∧ w'.cell? ⟨bb, 2, none⟩ = some (.int .i64 s0) ∧ w'.cell? ⟨bb, 3, none⟩ = some (.slice A11 q1.length C11) ∧ w'.cell? ⟨bb, 4, none⟩ = some (.int .i64 s1) ∧ w'.cell? ⟨bb, 5, none⟩ = some (.slice A12 q2.length C12) ∧ w'.cell? ⟨bb, 6, none⟩ = some (.int .i64 s2) ∧ w'.cell? ⟨bb, 7, none⟩ = some (.int .i64 0)) (go_keep)
      (first
        | (go_at_call 15; refine (PU.out _).mono ?_; rintro e wx ⟨rfl, hwx⟩; subst wx)
        | (go_at_call 9; refine (EO.out _ (by first | exact nextB HW.out (Nat.le_refl _) ((Below.refl _ _).drew) | exact nextB HW.out (Nat.le_refl _) (((Below.refl _ _).alloc (Nat.le_refl _) _).drew))).mono ?_; rintro e w4 ⟨rfl, hb4⟩; have T4 := (bcells (hb4.mono (show wd.heap.size ≤ _ by first | simp | (simp; omega)))).1; (first | (have T5 := alloc_rule8 (W := wd.drew) (n := wd.heap.size) hb4 rfl; obtain ⟨T50, U5⟩ := T5) | skip); have HB4 := hideC hb4))
    all_goals
      go_wp2
      go_meet
      case rel =>
        first
          | (have bw : Below wd.heap.size wd w4 := ((Below.refl wd.heap.size wd).drew).trans (HB4.out.mono (by simp))
             exact ⟨rfl, bw.alloc bw.size _⟩)
          | (have bw : Below wd.heap.size wd w4 := (((Below.refl wd.heap.size wd).alloc (Nat.le_refl _) _).drew).trans (HB4.out.mono (by simp))
             exact ⟨rfl, set8_below bw (Nat.le_refl _) _ _ _ _ _ _ _ _⟩)
  case rest =>
    obtain ⟨rfl, hcut⟩ := hcut
    obtain ⟨wq, hwq⟩ : ∃ wq, wq = wc := ⟨_, rfl⟩
    subst hwq
    have HQ : Hid (Below w1.heap.size w1 wq) := nextB HW.out (Nat.le_refl _) hcut
    have HQ3 : Hid (Below w3.heap.size w3 wq) := nextB HBd.out (Nat.le_refl _) hcut
    have XBq := hideC (XB.out.below hcut XB.out.lt)
    have XCq := hideC (XC.out.below hcut XC.out.lt)
    clear b0 b1 b2 b3 b4 b5 b6 b7 hcut EO PU k3 k4 fl1 XB XC HW HBd lb
    have b := fun j => XBq.out.cell j
    have c := fun j => XCq.out.cell j
    have lb := XBq.out.lt
    have lc := XCq.out.lt
    have EB := hideC fun W (hW : Below w3.heap.size w3 W) => bexp_no (HZ.out.below (nextB (nextB HB1.out (Nat.le_refl _) HB3.out) (Nat.le_refl _) hW)) (BA3.out.up hW) K3.out (t := t - 3600) fl2 (by decide)
    have AD := hideC fun W (hW : Below w3.heap.size w3 W) => badd_pt (HZ.out.below (nextB (nextB HB1.out (Nat.le_refl _) HB3.out) (Nat.le_refl _) hW)) (BA3.out.up hW) K3.out (s := nmS 0) (t := v) (v := 0) (c := 8) (by decide) fl3 (by decide)
    simp only [baseV, noBase] at EB AD
    rw [show nmS 0 = (⟨#[99, 112, 117]⟩ : ByteArray) from rfl] at AD
    go_upto_region 6 with (first
      | (go_at_call 9; refine (EB.out _ HQ3.out).mono ?_; rintro e w5 ⟨rfl, hb5⟩))
    obtain ⟨we, hwe⟩ : ∃ we, we = w5.alloc (.cells #[.slice none 0 0, .slice none 0 0, .int .i64 0, .slice none 0 0, .int .i64 0, .slice none 0 0, .int .i64 0, .int .i64 0] 28) := ⟨_, rfl⟩
    have hbe : Below wq.heap.size wq we := by rw [hwe]; exact hb5.alloc hb5.size _
    have HE := hideC (nextB HQ.out (Nat.le_refl _) hbe)
    have HE3 := hideC (nextB HQ3.out (Nat.le_refl _) hbe)
    have XBe := hideC (XBq.out.below hbe XBq.out.lt)
    have XCe := hideC (XCq.out.below hbe XCq.out.lt)
    rw [← hwe]
    clear hwe hbe hb5 b c lb lc XBq XCq HQ HQ3 EB k5 fl2
    have b := fun j => XCe.out.cell j
    have b0 := b 0
    have b1 := b 1
    have b2 := b 2
    have b3 := b 3
    have b4 := b 4
    have b5 := b 5
    have b6 := b 6
    have b7 := b 7
    simp only [List.getElem?_cons_zero, List.getElem?_cons_succ] at b0 b1 b2 b3 b4 b5 b6 b7
    clear b
    have lc := XCe.out.lt
    go_cut [17] (fun v17 wc => v17 = .int .i64 8 ∧ Below we.heap.size we wc)
    case first =>
      have n1 : ¬ cb = we.heap.size := by omega
      have KS : ∀ (W : World) (b' o' j : Nat) (u : Value), ¬ b' = we.heap.size → (W.setCell ⟨we.heap.size, j, none⟩ u).cell? ⟨b', o', none⟩ = W.cell? ⟨b', o', none⟩ := fun W b' o' j u hb => World.cell?_setCell_far _ _ _ _ (fun e => hb e.symm)
      go_region_held3 (fun w' => w'.cell? ⟨cb, 0, none⟩ = some (.slice A3 ss.length C3) ∧ w'.cell? ⟨cb, 1, none⟩ = some (.slice A30 u0.length C30) ∧ w'.cell? ⟨cb, 2, none⟩ = some (.int .i64 v0) ∧ w'.cell? ⟨cb, 3, none⟩ = some (.slice A31 u1.length C31) ∧ w'.cell? ⟨cb, 4, none⟩ = some (.int .i64 v1) ∧ w'.cell? ⟨cb, 5, none⟩ = some (.slice A32 u2.length C32) ∧ w'.cell? ⟨cb, 6, none⟩ = some (.int .i64 v2) ∧ w'.cell? ⟨cb, 7, none⟩ = some (.int .i64 t)) (go_keep)
        (first
          | (go_at_call 15; refine (PT.out _).mono ?_; rintro e wx ⟨rfl, hwx⟩; subst wx)
          | (go_at_call 22; refine (AD.out _ (by first | exact nextB HE3.out (Nat.le_refl _) ((Below.refl _ _).drew) | exact nextB HE3.out (Nat.le_refl _) (((Below.refl _ _).alloc (Nat.le_refl _) _).drew))).mono ?_; rintro e w4 ⟨rfl, hb4⟩; have T4 := (bcells (hb4.mono (show we.heap.size ≤ _ by first | simp | (simp; omega)))).1; (first | (have T5 := alloc_rule8 (W := we.drew) (n := we.heap.size) hb4 rfl; obtain ⟨T50, U5⟩ := T5) | skip); have HB4 := hideC hb4))
      all_goals
        go_wp2
        go_meet
        case rel =>
          first
            | (have bw : Below we.heap.size we w4 := ((Below.refl we.heap.size we).drew).trans (HB4.out.mono (by simp))
               exact ⟨rfl, bw.alloc bw.size _⟩)
            | (have bw : Below we.heap.size we w4 := (((Below.refl we.heap.size we).alloc (Nat.le_refl _) _).drew).trans (HB4.out.mono (by simp))
               exact ⟨rfl, set8_below bw (Nat.le_refl _) _ _ _ _ _ _ _ _⟩)
    case rest =>
      obtain ⟨rfl, hcut⟩ := hcut
      obtain ⟨wf, hwf⟩ : ∃ wf, wf = wc := ⟨_, rfl⟩
      subst hwf
      have HF := hideC (nextB HE.out (Nat.le_refl _) hcut)
      have HF3 := hideC (nextB HE3.out (Nat.le_refl _) hcut)
      have XBf := hideC (XBe.out.below hcut XBe.out.lt)
      have XCf := hideC (XCe.out.below hcut XCe.out.lt)
      clear b0 b1 b2 b3 b4 b5 b6 b7 hcut AD PT fl3 XBe XCe HE HE3 lc
      have b := fun j => XBf.out.cell j
      have c := fun j => XCf.out.cell j
      have lb := XBf.out.lt
      have lc := XCf.out.lt
      have CK := hideC fun W (hW : Below w3.heap.size w3 W) => bcheck_kn (HZ.out.below (nextB (nextB HB1.out (Nat.le_refl _) HB3.out) (Nat.le_refl _) hW)) (BA3.out.up hW) K3.out
      simp only [baseV] at CK
      go_wp2_with (first
        | (go_at_call 19; refine (CK.out _ HF3.out).mono ?_; rintro e w6 ⟨rfl, hb6⟩; have HG := hideC (nextB HF.out (Nat.le_refl _) hb6); have HG3 := hideC (nextB HF3.out (Nat.le_refl _) hb6); have XBg := hideC (XBf.out.below hb6 XBf.out.lt); have XCg := hideC (XCf.out.below hb6 XCf.out.lt); have bg := fun j => XBg.out.cell j; have lg := XBg.out.lt; clear b c lb lc hb6))
      clear CK HF HF3 XBf XCf
      have hfew : ss.length ≤ 16 := by
        obtain ⟨_, _, _, kk⟩ := K3.out
        exact kk.lst.few
      have hsp1 : spanB 0 1048575 = true := by decide
      have hsp2 : spanB 0 (t - 1) = true := by
        simp only [spanB, Bool.and_eq_true, decide_eq_true_eq]
        omega
      go_loopw [19, 20, 21, 22, 23, 87] (fun _ _ _ _ _ vi wr => ∃ i : Nat, i ≤ ss.length ∧ vi = .int .i64 (i : Int) ∧ Below w6.heap.size w6 wr) (fun _ _ _ _ _ vi _ => ss.length - (intOf vi).toNat)
      case atStart => exact ⟨0, Nat.zero_le _, rfl, Below.refl _ _⟩
      case round =>
        obtain ⟨i, hi, rfl, hb⟩ := hrel
        have HRW := hideC hb
        have HL := hideC (nextB HG.out (Nat.le_refl _) hb)
        have HL3 := hideC (nextB HG3.out (Nat.le_refl _) hb)
        have XCw := hideC (XCg.out.below hb XCg.out.lt)
        clear hb
        by_cases hlt : i < ss.length
        · obtain ⟨sb, so, rfl, hbl, hc, -⟩ := ((BA1.out.up HL.out).st.row).str hlt
          have hmem : ss[i] ∈ ss := List.getElem_mem hlt
          obtain ⟨s, hs⟩ : ∃ s, ss[i] = s := ⟨_, rfl⟩
          rw [hs] at hc hmem
          have hx : 0 ≤ Lib.idxOfS ss s := (Lib.idxOfS_nonneg_iff _ _).2 hmem
          have hny : (ynger t pts).length ≤ 40 := Nat.le_trans (List.length_filter_le _ _) hlen
          have T1 := hideC fun W (hW : Below w3.heap.size w3 W) => total_kn (HZ.out.below (nextB (nextB HB1.out (Nat.le_refl _) HB3.out) (Nat.le_refl _) hW)) (BA3.out.up hW) K3.out (x := s) (a := 0) (b := 1048575) hx hsp1 (by omega)
          have T2 := hideC fun W (hW : Below w3.heap.size w3 W) => total_kn (HZ.out.below (nextB (nextB HB1.out (Nat.le_refl _) HB3.out) (Nat.le_refl _) hW)) (BA3.out.up hW) K3.out (x := s) (a := 0) (b := t - 1) hx hsp2 (by omega)
          have KK := hideC fun W (hW : Below w1.heap.size w1 W) => knownK_any PA1 PC1 pts s t 1048575 W (R1.out.up hW) (by omega) HO1.out
          rw [ofPts_yng HO1.out] at T1
          rw [ofPts_old] at T2
          obtain ⟨S, hS⟩ : ∃ S, sumR (ofPts s t 1048575 pts) = S := ⟨_, rfl⟩
          rw [hS] at T1 KK
          rw [show sumR [] = zro from rfl] at T2
          simp only [baseV, ruV, zro] at T1 T2 KK
          have q0 : (0 : Int) ≤ (i : Int) := by omega
          have q1 : (i : Int) < (ss.length : Int) := by omega
          have hbl' : sb < wr.heap.size := by omega
          have c := fun j => XCw.out.cell j
          have lc := XCw.out.lt
          have P0 : True := trivial
          clear hS hs hx hmem hny
          go_upto_region 13 with (first
            | (go_at_call 16; have kk := P0; clear kk; refine (T1.out _ HL3.out).mono ?_; rintro e w7 ⟨rfl, hb7⟩; have H7 := hideC (nextB HL.out (Nat.le_refl _) hb7); have H73 := hideC (nextB HL3.out (Nat.le_refl _) hb7); have XC7 := hideC (XCw.out.below hb7 XCw.out.lt); have c7 := fun j => XC7.out.cell j; have l7 := XC7.out.lt; have P1 : True := trivial; have HB7 := hideC hb7; clear hb7 c lc P0))
          go_upto_region 14 with (first
            | (go_at_call 16; have kk := P1; clear kk; go_must (refine (T2.out _ (H73.out.alloc H73.out.size _)).mono ?_); rintro e w8 ⟨rfl, hb8⟩; have HB8 := hideC hb8; clear P1))
          obtain ⟨wx, hwx⟩ : ∃ wx, wx = w8.alloc (.cells #[.int .i64 0, .int .i64 0, .int .i64 0, .int .i64 0, .int .i64 0, .int .i64 0] 45) := ⟨_, rfl⟩
          obtain ⟨rb, hrb⟩ : ∃ rb, rb = w7.heap.size := ⟨_, rfl⟩
          obtain ⟨gb, hgb⟩ : ∃ gb, gb = w8.heap.size := ⟨_, rfl⟩
          have HBx : Hid (Below w8.heap.size w8 wx) := by rw [hwx]; exact (Below.refl _ _).alloc (Nat.le_refl _) _
          have XG : Hid (RowL wx gb 45 [.int .i64 0, .int .i64 0, .int .i64 0, .int .i64 0, .int .i64 0, .int .i64 0]) := by rw [hwx, hgb]; exact rowL_alloc w8 _ _
          have XR : Hid (RowL wx rb 45 [.int .i64 S.c, .int .i64 S.s, .int .i64 S.lo, .int .i64 S.hi, .int .i64 S.t, .int .i64 S.l]) := by
            rw [hrb]
            exact ((rowL_alloc w7 [.int .i64 S.c, .int .i64 S.s, .int .i64 S.lo, .int .i64 S.hi, .int .i64 S.t, .int .i64 S.l] 45).below HB8.out (by simp)).below HBx.out (Nat.lt_of_lt_of_le (by simp) HB8.out.size)
          have HX1 : Hid (Below w1.heap.size w1 wx) := nextB (nextB (H7.out.alloc H7.out.size _) (Nat.le_refl _) HB8.out) (Nat.le_refl _) HBx.out
          have HXw : Hid (Below wr.heap.size wr wx) := nextB (nextB (HB7.out.alloc HB7.out.size _) (Nat.le_refl _) HB8.out) (Nat.le_refl _) HBx.out
          rw [← hwx, ← hrb, ← hgb]
          clear hwx hrb hgb H7 H73 XC7 c7 l7 HB8 HBx T1 T2 HL HL3 XCw HB7
          have r0 := XR.out.cell 0
          have r1 := XR.out.cell 1
          have r2 := XR.out.cell 2
          have r3 := XR.out.cell 3
          have r4 := XR.out.cell 4
          have r5 := XR.out.cell 5
          have g0 := XG.out.cell 0
          simp only [List.getElem?_cons_zero, List.getElem?_cons_succ] at r0 r1 r2 r3 r4 r5 g0
          have lr := XR.out.lt
          have lg := XG.out.lt
          clear XR XG
          go_region_held3 (fun w' => w'.cell? ⟨rb, 0, none⟩ = some (.int .i64 S.c) ∧ w'.cell? ⟨rb, 1, none⟩ = some (.int .i64 S.s) ∧ w'.cell? ⟨rb, 2, none⟩ = some (.int .i64 S.lo) ∧ w'.cell? ⟨rb, 3, none⟩ = some (.int .i64 S.hi) ∧ w'.cell? ⟨rb, 4, none⟩ = some (.int .i64 S.t) ∧ w'.cell? ⟨rb, 5, none⟩ = some (.int .i64 S.l) ∧ w'.cell? ⟨gb, 0, none⟩ = some (.int .i64 0)) (go_keep)
            (first
              | (go_at_call 18; refine (KK.out _ (nextB HX1.out (Nat.le_refl _) ((Below.refl _ _).drew))).mono ?_; rintro e w9 ⟨rfl, hb9⟩; have T9 := (bcells (hb9.mono (show wx.heap.size ≤ _ by simp))).1; have HB9 := hideC hb9))
          go_wp2
          go_roundw
          case rel => exact ⟨i + 1, hlt, by go_num, nextB HRW.out (Nat.le_refl _) (nextB HXw.out (Nat.le_refl _) (((Below.refl wx.heap.size wx).drew).trans (HB9.out.mono (by simp))))⟩
          case measure => simp [intOf]; omega
        · have hni : ¬ ((i : Int) < (ss.length : Int)) := by omega
          go_wp2_with fail
          go_ret
          exact ⟨rfl, nextB HB1.out (Nat.le_refl _) HL.out⟩

set_option maxRecDepth 100000 in
theorem basesExpire_lifted (os : Os) (started : os.Started) (H : Type) (enc : TypeId × Value → H) :
    ReturnsInHanded {} Tryz.checked os 7 .any (fun w args => (Rows.basesExpireSpec.pre enc Tryz.prog Tryz.f7 [] false w args ∧ laidMetH Tryz.prog laidSz w) ∧ sizedMet enc Tryz.prog Tryz.f7 (OpenSpec.ofChange Rows.basesExpireSpec) false w args)
      (Rows.basesExpireSpec.post enc Tryz.prog Tryz.f7 false true false false) := by
  refine returnsInHanded_of_change_and (C := Tryz.checked) (X := fun w _ => laidMetH Tryz.prog laidSz w) (fun _ _ _ hh h => h.of_heap hh) own started (by kernel_rfl) Tryz.func7
    (ChangeSpec.witness_at (enc := enc) (C := Tryz.checked) (os := os) (X := fun w _ => laidMetH Tryz.prog laidSz w) false (World.laidAll Tryz.prog os laidSz) #[.slice none 0 0, .int .i64 0, .int .i64 0] 8 (World.laidAll_os _ _ _) (by kernel_rfl) (by kernel_rfl) (by kernel_rfl) (by kernel_rfl) (by kernel_rfl)
      (by rw [MakeChecks.laidMetH_plain _ _ _ (by kernel_rfl)]; exact laidMet_laidAll _ (by kernel_rfl) (by kernel_rfl))) ?_
  intro W base args ds gs before hval0 hW _ hsz0 hL _
  have hval : ∀ (j : Nat) t v, Tryz.f7.params[j]? = some t → args[j]? = some v → Value.okWide Tryz.prog W .any base t v := hval0
  have hW' := hW
  obtain ⟨p, q, hA0, hV, rfl, hfz, hnd⟩ := hW
  have hA : DataW.TrodAll enc Tryz.prog W 0 (fun _ => true) true Tryz.f7.params.toList args.toList ds p := hA0
  have hsz : (DataW.weightsEach Tryz.prog (Tryz.f7.params.toList ++ Rows.basesExpireSpec.plain.varTypes Tryz.prog) (ds ++ gs)).all (· ≤ reachBytes) = true := hsz0
  rw [Tryz.params7] at hA hval hsz
  obtain ⟨v0, vs0, d0, ds0, p0, q0, hargs, rfl, rfl, h0, r0⟩ := trodAll_cons hA
  obtain ⟨v1, vs1, d1, ds1, p1, q1, rfl, rfl, rfl, h1, r1⟩ := trodAll_cons r0
  obtain ⟨v2, vs2, d2, ds2, p2, q2, rfl, rfl, rfl, h2, r2⟩ := trodAll_cons r1
  obtain ⟨rfl, rfl, rfl⟩ := trodAll_nil r2
  obtain rfl : args = #[v0, v1, v2] := by cases args; simp_all
  obtain ⟨rfl, rfl⟩ := trodVars_none hV
  have k0 := h0
  have lt0 : ∀ x ∈ p0, x.block < W.heap.size := by obtain ⟨m, hm⟩ := k0; exact DataW.trod_lt m _ _ _ hm
  obtain ⟨A0, C0, xs0, rfl, hR0, hz0, hw0⟩ := open_rawsArg (hval 0 38 v0 rfl rfl) h0 (fun n hn => by
    have := List.all_eq_true.1 hsz n (DataW.weights_mem_each (j := 0) (t := 38) rfl rfl n hn)
    exact of_decide_eq_true this)
  have k1 := h1
  have lt1 : ∀ x ∈ p1, x.block < W.heap.size := by obtain ⟨m, hm⟩ := k1; exact DataW.trod_lt m _ _ _ hm
  obtain ⟨a1, rfl, w1⟩ : ∃ n : Int, v1 = .int .i64 n ∧ (Lit.int .i64 n).wf = true := by
    obtain ⟨n, h, _, _, w⟩ := open_int Tryz.underlying3 (hval 1 3 v1 rfl rfl) h1; exact ⟨n, h, w⟩
  have k2 := h2
  have lt2 : ∀ x ∈ p2, x.block < W.heap.size := by obtain ⟨m, hm⟩ := k2; exact DataW.trod_lt m _ _ _ hm
  obtain ⟨a2, rfl, w2⟩ : ∃ n : Int, v2 = .int .i64 n ∧ (Lit.int .i64 n).wf = true := by
    obtain ⟨n, h, _, _, w⟩ := open_int Tryz.underlying3 (hval 2 3 v2 rfl rfl) h2; exact ⟨n, h, w⟩
  clear hA0 hval0 hsz0
  refine (basesExpire_walk A0 C0 xs0 a1 a2 W (szAt_of hL) hR0 hz0 hw0 w1 w2).mono fun e W' ⟨he, bel⟩ => ?_
  subst he
  exact ⟨_, rfl, _, _, _, [], _, [], hW', trodAll_mk1 (shut_bool Tryz.underlying4 _), (trodAll_cons_mk (Below.trod laidOut (by kernel_rfl) (of_decide_eq_true (by kernel_rfl)) k0 bel lt0) (trodAll_cons_mk (Below.trod laidOut (by kernel_rfl) (of_decide_eq_true (by kernel_rfl)) k1 bel lt1) (trodAll_cons_mk (Below.trod laidOut (by kernel_rfl) (of_decide_eq_true (by kernel_rfl)) k2 bel lt2) trodAll_mk0))), rfl, bel.frame _, fun h => by cases h⟩

theorem basesExpire_holds : Rows.BasesExpireSaid :=
  OpenClaim.holds_of_wide 7 Tryz.f7 rfl rfl rfl rfl rfl rfl rfl ⟨rfl, rfl, rfl, rfl, rfl⟩ rfl rfl rfl rfl rfl (by kernel_rfl) Tryz.func7 (by kernel_rfl)
    (of_decide_eq_true (by kernel_rfl)) (by unfold Func.isWrapper; first | (rw [if_pos (by decide +kernel)]; kernel_rfl) | (rw [if_neg (by decide +kernel)]; exact ⟨rfl, rfl⟩))
    (fun os started H enc _ => basesExpire_lifted os started H enc)

theorem basesExpireCard_holds : Rows.BasesExpireCardSaid :=
  Claim7.holds_tied_plain_at .later [] [.data] true (true, "70812a8111c496b7e791c729587af830859d64019f6e8c761a5939306b334728") false basesExpire_holds (fun _ h => by cases h) (by kernel_rfl) (fun _ h => by cases h) basesExpire_row_tie rfl ⟨rfl, rfl⟩ (by kernel_rfl) rfl
    (fun f fn hf hfn => by
      obtain rfl : f = 7 := Option.some.inj ((show Tryz.prog.funcNamed "winnower/winnowerkeep.BasesExpire" = some 7 by kernel_rfl).symm.trans hf) |>.symm
      obtain rfl : fn = Tryz.f7 := (Option.some.inj (Tryz.func7.symm.trans hfn)).symm
      exact ⟨by kernel_rfl, fun j t ht => by
        rw [Tryz.params7] at ht
        have hm : t ∈ [38, 3, 3] := by simpa using Array.mem_of_getElem? ht
        have hall : ([38, 3, 3].all fun u => !Tryz.prog.wantsStandIn u) = true := by kernel_rfl
        exact (show Tryz.prog.wantsStandIn t = false by simpa using List.all_eq_true.1 hall t hm)⟩)
    (by kernel_rfl)
#print axioms basesExpireCard_holds
end Go.Proofs.YtlojfgdpmaigmaeGreatDoor

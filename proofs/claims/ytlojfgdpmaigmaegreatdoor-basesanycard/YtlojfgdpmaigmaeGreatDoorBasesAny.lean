/- For every list of raw things and every span: two bases of one series, made of the same points in two orders, answer the same. No condition beside the table of sizes, which is tied to the program's text. -/
import Derived.Test.YtlojfgdpmaigmaeGreatDoorP51
import Derived.Test.YtlojfgdpmaigmaeGreatDoorLaidSz
import Derived.ChangeMaps5
namespace Go.Proofs.YtlojfgdpmaigmaeGreatDoor
open Go.ChangeShapes Go.WideShapes Go.ChangeAt Go.RowKit Plain Go.Shelf

set_option maxRecDepth 20000 in
set_option maxHeartbeats 4000000 in
theorem basesAny_walk (A : Option Addr) (C : Nat) (xs : List Rw) (fr more : Int) (w : World) (hZ : SzAt w) (hA : RowAt w.heap.size w A (flatR xs)) (_ : xs.length * 32 ≤ 140737488351232) (hwf : ∀ x ∈ xs, x.wf) (hn : (Lit.int .i64 fr).wf = true) (hw : (Lit.int .i64 more).wf = true) :
    Calls Tryz.prog 6 #[.slice A xs.length C, .int .i64 fr, .int .i64 more] w fun e w' => e = .returned (.bool true) ∧ Below w.heap.size w w' := by
  have bf := i64_wf hn
  have bm := i64_wf hw
  have qf := pick_bd fr (show (0 : Int) < 9000 by decide)
  have qm := pick_bd more (show (0 : Int) < 9000 by decide)
  have PF := hideC fun W => picked_any fr 9000 W bf.1 bf.2 (by decide) (by decide)
  have PM := hideC fun W => picked_any more 9000 W bm.1 bm.2 (by decide) (by decide)
  obtain ⟨a, ha⟩ : ∃ a, pick fr 9000 = a := ⟨_, rfl⟩
  obtain ⟨d, hd⟩ : ∃ d, pick more 9000 = d := ⟨_, rfl⟩
  rw [ha] at PF qf
  rw [hd] at PM qm
  have KB1 := hideC (kbase_any A C xs 30 w hZ hA hwf (by decide) (by decide))
  have hlen : ((xs.take (30 : Int).toNat).map rawPt).length ≤ 30 := by simp; omega
  obtain ⟨pts, hpts⟩ : ∃ pts, (xs.take (30 : Int).toNat).map rawPt = pts := ⟨_, rfl⟩
  rw [hpts] at KB1 hlen
  have HZ := hideC hZ
  have hsp : Hid (spanB a (a + d) = true) := by
    show _ = true
    simp only [spanB, Bool.and_eq_true, decide_eq_true_eq]
    omega
  have hwr : IntKind.i64.wrap (a + d) = a + d := by rw [IntKind.wrap_i64]; omega
  clear hpts ha hd hA hwf hn hw bf bm hZ qf qm
  have P0 : True := trivial
  go_enter Tryz.func6, Tryz.ntmps6
  go_wp2_with (first
    | (go_at_call 13; refine KB1.out.mono ?_; rintro e w1 ⟨A1, PA1, C1, PC1, ss, t0, t1, t2, he, ho, hk, hf4, hr, hb⟩; obtain ⟨A10, C10, q0, s0⟩ := t0; obtain ⟨A11, C11, q1, s1⟩ := t1; obtain ⟨A12, C12, q2, s2⟩ := t2; have R1 := hideC hr; have HB1 := hideC hb; have HO1 : Hid (∀ p ∈ pts, p.ok 0) := (by obtain ⟨_, _, _, k⟩ := hk; exact fun p hp => (k.pt p hp).2); have BB := hideC ((Below.refl w1.heap.size w1).alloc (Nat.le_refl _) (.cells (baseV A1 C1 ss ⟨A10, C10, q0, s0⟩ ⟨A11, C11, q1, s1⟩ ⟨A12, C12, q2, s2⟩ 0).toArray 28)); simp only [baseV] at he BB; subst he; clear ho hk hf4 hr hb KB1)
    | (go_at_call 21; have kk := P1; clear kk; refine (bnew_kn _).mono ?_; rintro e wy ⟨y0, y1, y2, he, ho2, hk2, hb2⟩; have HS := hideC (ana_start (nextB BB.out (Nat.le_refl _) BX.out) OX.out hb2 (by simpa using ho2)); have KY := hideC hk2; obtain ⟨A20, C20, q0', s0'⟩ := y0; obtain ⟨A21, C21, q1', s1'⟩ := y1; obtain ⟨A22, C22, q2', s2'⟩ := y2; simp only [baseV] at he; subst he; clear ho2 hk2 hb2 P1)
    | (go_at_call 21; have kk := P0; clear kk; refine (bnew_kn _).mono ?_; rintro e wx ⟨u0, u1, u2, he, ho1, hk1, hb1⟩; have BX := hideC hb1; have OX := hideC ho1; have KX := hideC hk1; obtain ⟨A30, C30, p0, r0⟩ := u0; obtain ⟨A31, C31, p1, r1⟩ := u1; obtain ⟨A32, C32, p2, r2⟩ := u2; simp only [baseV] at he; subst he; have P1 : True := trivial; clear ho1 hk1 hb1 P0))
  obtain ⟨bx, hbx⟩ : ∃ bx, bx = wx.heap.size := ⟨_, rfl⟩
  obtain ⟨bY, hbY⟩ : ∃ bY, bY = wy.heap.size := ⟨_, rfl⟩
  rw [← hbx, ← hbY] at HS ⊢
  clear hbx hbY BX OX BB
  go_loopw [37] (fun vi wr => ∃ (k : Nat) (A : Option Addr) (C : Nat) (t0 t1 t2 : TR) (A' : Option Addr) (C' : Nat) (u0 u1 u2 : TR), k ≤ pts.length ∧ vi = .int .i64 (k : Int) ∧ AnA w1 wr bx bY A C (sK k) t0 t1 t2 A' C' (sK k) u0 u1 u2 ∧ KB (sK k) 0 t0 t1 t2 ((pts.take k).map oneP) ∧ KB (sK k) 0 u0 u1 u2 ((pts.reverse.take k).map oneP)) (fun vi _ => pts.length - (intOf vi).toNat)
  case atStart => exact ⟨0, none, 0, ⟨A30, C30, p0, r0⟩, ⟨A31, C31, p1, r1⟩, ⟨A32, C32, p2, r2⟩, none, 0, ⟨A20, C20, q0', s0'⟩, ⟨A21, C21, q1', s1'⟩, ⟨A22, C22, q2', s2'⟩, Nat.zero_le _, rfl, HS.out, KX.out, KY.out⟩
  case round =>
    obtain ⟨k, A4, C4, t0, t1, t2, A5, C5, u0, u1, u2, hk, rfl, hat, hkx, hky⟩ := hrel
    clear HS KX KY
    have lx := hat.hx.lt
    have lY := hat.hy.lt
    have llo := hat.lo
    have llt := hat.lt
    have hge := hat.below.size
    by_cases hlt : k < pts.length
    · obtain ⟨j, hj⟩ : ∃ j : Nat, j = pts.length - 1 - k := ⟨_, rfl⟩
      have hjl : j < pts.length := by omega
      have hjr : pts.reverse[k]'(by simpa using hlt) = pts[j] := by rw [List.getElem_reverse]; congr 1; omega
      have w1' : IntKind.i64.wrap ((pts.length : Int) - 1) = (pts.length : Int) - 1 := by rw [IntKind.wrap_i64]; omega
      have w2' : IntKind.i64.wrap ((pts.length : Int) - 1 - (k : Int)) = (j : Int) := by rw [IntKind.wrap_i64]; omega
      obtain ⟨pb, po, rfl, hpl, c0, c1, c2⟩ := (R1.out.below hat.below (Nat.le_refl _)).pt3 hlt
      obtain ⟨pb', po', he', -, d0, d1, d2⟩ := (R1.out.below hat.below (Nat.le_refl _)).pt3 hjl
      cases he'
      have hpk := HO1.out _ (List.getElem_mem hlt)
      have hqk := HO1.out _ (List.getElem_mem hjl)
      have htx : Hid ((pts.take (k + 1)).map oneP = (pts.take k).map oneP ++ [oneP pts[k]]) := by
        show _ = _
        rw [List.take_succ_eq_append_getElem hlt, List.map_append]
        rfl
      have hty : Hid ((pts.reverse.take (k + 1)).map oneP = (pts.reverse.take k).map oneP ++ [oneP pts[j]]) := by
        show _ = _
        rw [List.take_succ_eq_append_getElem (by simpa using hlt), List.map_append, hjr]
        rfl
      have hlx : ((pts.take k).map oneP).length = k := by simp; omega
      have hly : ((pts.reverse.take k).map oneP).length = k := by simp; omega
      obtain ⟨xp, hxp⟩ : ∃ xp, (pts.take k).map oneP = xp := ⟨_, rfl⟩
      obtain ⟨yp, hyp⟩ : ∃ yp, (pts.reverse.take k).map oneP = yp := ⟨_, rfl⟩
      rw [hxp] at htx hlx hkx
      rw [hyp] at hty hly hky
      obtain ⟨p, hp⟩ : ∃ p, pts[k] = p := ⟨_, rfl⟩
      obtain ⟨q, hq⟩ : ∃ q, pts[j] = q := ⟨_, rfl⟩
      rw [hp] at c0 c1 c2 hpk htx
      rw [hq] at d0 d1 d2 hqk hty
      have cp := oneP_c hpk
      have cq := oneP_c hqk
      obtain ⟨ps, pt, pv⟩ := p
      obtain ⟨qs, qt, qv⟩ := q
      simp only at c0 c1 c2 d0 d1 d2 cp cq
      have hs1 : (sK (k + 1)).length ≤ 16 := by unfold sK; rw [if_neg (Nat.succ_ne_zero k)]; decide
      have hsw := sK_with k
      have con1 : Hid (∀ W, Below wr.heap.size wr W → Calls Tryz.prog 22 #[.agg (baseV A4 C4 (sK k) t0 t1 t2 0).toArray, .agg #[.string oneB, .int .i64 pt, .int .i64 pv]] W (AddKn (sK (k + 1)) 0 (xp ++ [⟨oneB, pt, pv⟩]) W)) := fun W hW => by
        have h := badd_kn (HZ.out.below (nextB HB1.out (Nat.le_refl _) (nextB hat.below (Nat.le_refl _) hW))) ((hat.ax.at hkx).up hW) hkx (s := oneB) (t := pt) (v := pv) (by decide) cp (by rw [hsw]; exact hs1) (by omega)
        rw [hsw] at h
        exact h
      have con2 : Hid (∀ W, Below wr.heap.size wr W → Calls Tryz.prog 22 #[.agg (baseV A5 C5 (sK k) u0 u1 u2 0).toArray, .agg #[.string oneB, .int .i64 qt, .int .i64 qv]] W (AddKn (sK (k + 1)) 0 (yp ++ [⟨oneB, qt, qv⟩]) W)) := fun W hW => by
        have h := badd_kn (HZ.out.below (nextB HB1.out (Nat.le_refl _) (nextB hat.below (Nat.le_refl _) hW))) ((hat.ay.at hky).up hW) hky (s := oneB) (t := qt) (v := qv) (by decide) cq (by rw [hsw]; exact hs1) (by omega)
        rw [hsw] at h
        exact h
      have HT := hideC hat
      have b0 := fun j => hat.hx.cell j
      have e0 := fun j => hat.hy.cell j
      have k0 : (0 : Int) ≤ (k : Int) := by omega
      have k1 : (k : Int) < (pts.length : Int) := by omega
      have k2 : (0 : Int) ≤ (j : Int) := by omega
      have k3 : (j : Int) < (pts.length : Int) := by omega
      have lpb : pb < wr.heap.size := by omega
      obtain ⟨s, hs⟩ : ∃ s, sK k = s := ⟨_, rfl⟩
      obtain ⟨s', hs'⟩ : ∃ s, sK (k + 1) = s := ⟨_, rfl⟩
      rw [hs] at con1 con2 b0 e0 HT
      rw [hs'] at con1 con2
      clear hat hkx hky hxp hyp hp hq hpk hqk cp cq hs1 hsw hjr hj
      obtain ⟨A40, C40, m0, n0⟩ := t0
      obtain ⟨A41, C41, m1, n1⟩ := t1
      obtain ⟨A42, C42, m2, n2⟩ := t2
      obtain ⟨A50, C50, m0', n0'⟩ := u0
      obtain ⟨A51, C51, m1', n1'⟩ := u1
      obtain ⟨A52, C52, m2', n2'⟩ := u2
      simp only [baseV, oneB] at con1 con2 b0 e0
      go_upto_region 11 with fail
      have AB := alloc2_below wr (.cells #[.string ⟨#[111, 110, 101]⟩, .int .i64 pt, .int .i64 pv] 61) (.cells #[.string ⟨#[111, 110, 101]⟩, .int .i64 qt, .int .i64 qv] 61)
      have PD0 := (rowL_alloc wr [.string ⟨#[111, 110, 101]⟩, .int .i64 pt, .int .i64 pv] 61).of_block (Below.heap_alloc (wr.alloc (.cells #[.string ⟨#[111, 110, 101]⟩, .int .i64 pt, .int .i64 pv] 61)) (.cells #[.string ⟨#[111, 110, 101]⟩, .int .i64 qt, .int .i64 qv] 61) _ (by simp))
      have QD0 := rowL_alloc (wr.alloc (.cells #[.string ⟨#[111, 110, 101]⟩, .int .i64 pt, .int .i64 pv] 61)) [.string ⟨#[111, 110, 101]⟩, .int .i64 qt, .int .i64 qv] 61
      rw [show (wr.alloc (.cells #[.string ⟨#[111, 110, 101]⟩, .int .i64 pt, .int .i64 pv] 61)).heap.size = wr.heap.size + 1 by simp] at QD0
      obtain ⟨wd, hwd⟩ : ∃ wd, wd = (wr.alloc (.cells #[.string ⟨#[111, 110, 101]⟩, .int .i64 pt, .int .i64 pv] 61)).alloc (.cells #[.string ⟨#[111, 110, 101]⟩, .int .i64 qt, .int .i64 qv] 61) := ⟨_, rfl⟩
      have AB' : Below wr.heap.size wr wd := by rw [hwd]; exact AB
      have PD : Hid (RowL wd wr.heap.size 61 [.string ⟨#[111, 110, 101]⟩, .int .i64 pt, .int .i64 pv]) := by rw [hwd]; exact PD0
      have QD : Hid (RowL wd (wr.heap.size + 1) 61 [.string ⟨#[111, 110, 101]⟩, .int .i64 qt, .int .i64 qv]) := by rw [hwd]; exact QD0
      rw [← hwd]
      clear AB PD0 QD0 hwd
      have BD := hideC AB'
      have HD := hideC (HT.out.next AB')
      have p0' := PD.out.cell 0
      have p1' := PD.out.cell 1
      have p2' := PD.out.cell 2
      simp only [List.getElem?_cons_zero, List.getElem?_cons_succ] at p0' p1' p2'
      have d0' := fun j => HD.out.hx.cell j
      simp only [baseV] at d0'
      have P0 : True := trivial
      clear AB' b0 e0 c0 c1 c2 d0 d1 d2
      go_upto_region 17 with (first
        | (go_at_call 22; have kk := P0; clear kk; refine (con1.out _ BD.out).mono ?_; rintro e w5 ⟨A6, C6, ⟨A60, C60, g0, h0⟩, ⟨A61, C61, g1, h1⟩, ⟨A62, C62, g2, h2⟩, he5, ho5, hk5, hb5⟩; simp only [baseV] at he5; subst he5; have O5 := hideC ho5; have K5 := hideC hk5; have H5 := hideC (HD.out.next hb5); have B5 := hideC (nextB BD.out (Nat.le_refl _) hb5); have QD5 := QD.out.below hb5 QD.out.lt; have q50 := QD5.cell 0; have q51 := QD5.cell 1; have q52 := QD5.cell 2; simp only [List.getElem?_cons_zero, List.getElem?_cons_succ] at q50 q51 q52; have ql := QD5.lt; have e5 := fun j => H5.out.hy.cell j; simp only [baseV] at e5; have el := H5.out.hy.lt; have X5 := hideC (rowL_alloc w5 (baseV A6 C6 s' ⟨A60, C60, g0, h0⟩ ⟨A61, C61, g1, h1⟩ ⟨A62, C62, g2, h2⟩ 0) 28); have G5 := hideC ((Below.refl w5.heap.size w5).alloc (Nat.le_refl _) (.cells (baseV A6 C6 s' ⟨A60, C60, g0, h0⟩ ⟨A61, C61, g1, h1⟩ ⟨A62, C62, g2, h2⟩ 0).toArray 28)); simp only [baseV] at G5; clear ho5 hk5 hb5 QD5 p0' p1' p2' d0' P0; have P1 : True := trivial)
        | (go_at_call 22; have kk := P1; clear kk; refine (con2.out _ (nextB B5.out (Nat.le_refl _) G5.out)).mono ?_; rintro e w7 ⟨A7, C7, ⟨A70, C70, i0, j0⟩, ⟨A71, C71, i1, j1⟩, ⟨A72, C72, i2, j2⟩, he7, ho7, hk7, hb7⟩; simp only [baseV] at he7; subst he7; have O7 := hideC ho7; have K7 := hideC hk7; have H7 := hideC ((H5.out.next G5.out).next hb7); have L7 := hideC hb7; have X7 := X5.out.below hb7 X5.out.lt; have x7 := fun j => X7.cell j; simp only [baseV] at x7; have xl := X7.lt; have z7 := fun j => H7.out.hx.cell j; have zf := fun j => H7.out.hx.frozen j; have y7 := fun j => H7.out.hy.cell j; have yf := fun j => H7.out.hy.frozen j; simp only [baseV] at z7 y7; have zl := H7.out.hx.lt; have yl := H7.out.hy.lt; clear ho7 hk7 hb7 X7 q50 q51 q52 e5 ql P1))
      have z1 := BD.out.size
      have z2 := B5.out.size
      have z3 := G5.out.size
      have z4 := L7.out.size
      have a5 : Aw bx bY w7 A6 C6 s' ⟨A60, C60, g0, h0⟩ ⟨A61, C61, g1, h1⟩ ⟨A62, C62, g2, h2⟩ := (Aw.new O5.out (by omega) (by omega)).next (nextB G5.out (Nat.le_refl _) L7.out)
      have a6 : Aw bx bY w7 A7 C7 s' ⟨A70, C70, i0, j0⟩ ⟨A71, C71, i1, j1⟩ ⟨A72, C72, i2, j2⟩ := Aw.new O7.out (by omega) (by omega)
      have HF := hideC (H7.out.turn a5 a6)
      have HS' := hideC hs'
      clear a5 a6 z1 z2 z3 z4 hs hs'
      go_wp2_with fail
      go_roundw
      case rel =>
        go_light
        refine ⟨k + 1, A6, C6, ⟨A60, C60, g0, h0⟩, ⟨A61, C61, g1, h1⟩, ⟨A62, C62, g2, h2⟩, A7, C7, ⟨A70, C70, i0, j0⟩, ⟨A71, C71, i1, j1⟩, ⟨A72, C72, i2, j2⟩, by omega, by go_num, ?_, ?_, ?_⟩
        · rw [HS'.out]
          exact HF.out.next ((Below.refl _ _).alloc (Nat.le_refl _) _)
        · rw [HS'.out, htx.out]
          exact K5.out
        · rw [HS'.out, hty.out]
          exact K7.out
      case measure => simp [intOf]; omega
    · obtain rfl : k = pts.length := by omega
      have hni : ¬ ((pts.length : Int) < (pts.length : Int)) := by omega
      have hperm : ((pts.take pts.length).map oneP).Perm ((pts.reverse.take pts.length).map oneP) := by
        rw [List.take_of_length_le (Nat.le_refl _), List.take_of_length_le (by simp)]
        exact (List.reverse_perm pts).symm.map _
      have hlx : ((pts.take pts.length).map oneP).length = pts.length := by simp
      have hly : ((pts.reverse.take pts.length).map oneP).length = pts.length := by simp
      obtain ⟨xp, hxp⟩ : ∃ xp, (pts.take pts.length).map oneP = xp := ⟨_, rfl⟩
      obtain ⟨yp, hyp⟩ : ∃ yp, (pts.reverse.take pts.length).map oneP = yp := ⟨_, rfl⟩
      rw [hxp] at hkx hperm hlx
      rw [hyp] at hky hperm hly
      clear hxp hyp hlt hk
      by_cases h0 : 0 < pts.length
      · have hix := sK_idx h0
        have hii : 0 ≤ Lib.idxOfS (sK pts.length) oneB := by omega
        have hsm := kb_sum hkx hky hperm (x := oneB) (a := a) (b := a + d) hii (by omega)
        have TX := hideC fun W (hW : Below wr.heap.size wr W) => total_kn (HZ.out.below (nextB HB1.out (Nat.le_refl _) (nextB hat.below (Nat.le_refl _) hW))) ((hat.ax.at hkx).up hW) hkx (x := oneB) (a := a) (b := a + d) hii hsp.out (by omega)
        have TY := hideC fun W (hW : Below wr.heap.size wr W) => total_kn (HZ.out.below (nextB HB1.out (Nat.le_refl _) (nextB hat.below (Nat.le_refl _) hW))) ((hat.ay.at hky).up hW) hky (x := oneB) (a := a) (b := a + d) hii hsp.out (by omega)
        have RX := hideC fun W (hW : Below wr.heap.size wr W) => rows_kn (HZ.out.below (nextB HB1.out (Nat.le_refl _) (nextB hat.below (Nat.le_refl _) hW))) ((hat.ax.at hkx).up hW) hkx (x := oneB) (sz := 60) (.inr (.inl rfl)) hii (by omega)
        have RY := hideC fun W (hW : Below wr.heap.size wr W) => rows_kn (HZ.out.below (nextB HB1.out (Nat.le_refl _) (nextB hat.below (Nat.le_refl _) hW))) ((hat.ay.at hky).up hW) hky (x := oneB) (sz := 60) (.inr (.inl rfl)) hii (by omega)
        rw [← hsm] at TY
        obtain ⟨S, hS⟩ : ∃ S, sumR (ofPts oneB a (a + d) xp) = S := ⟨_, rfl⟩
        rw [hS] at TX TY
        have HT := hideC hat
        have HP := hideC hperm
        have HPX : Hid (∀ p ∈ xp, p.s ∈ sK pts.length ∧ p.ok 0) := by
          obtain ⟨_, _, _, k⟩ := hkx
          exact k.pt
        have HII : Hid (0 ≤ Lib.idxOfS (sK pts.length) oneB) := hii
        have b0 := fun j => hat.hx.cell j
        have e0 := fun j => hat.hy.cell j
        have hn0 : ¬ ((pts.length : Int) = 0) := by omega
        have hn1 : ((pts.length : Int) == 0) = false := by simpa using hn0
        obtain ⟨s, hs⟩ : ∃ s, sK pts.length = s := ⟨_, rfl⟩
        rw [hs] at TX TY RX RY b0 e0 HT HPX HII
        clear hat hkx hky hS hs hsm hperm hix hii
        obtain ⟨A40, C40, m0, n0⟩ := t0
        obtain ⟨A41, C41, m1, n1⟩ := t1
        obtain ⟨A42, C42, m2, n2⟩ := t2
        obtain ⟨A50, C50, m0', n0'⟩ := u0
        obtain ⟨A51, C51, m1', n1'⟩ := u1
        obtain ⟨A52, C52, m2', n2'⟩ := u2
        simp only [baseV, oneB] at TX TY RX RY b0 e0
        have P0 : True := trivial
        have Q0 : True := trivial
        go_upto_region 24 with (first
          | (go_at_call 15; have kk := Q1; clear kk; refine (PM.out _).mono ?_; rintro e wv ⟨rfl, hwv⟩; subst wv; clear Q1)
          | (go_at_call 15; have kk := Q0; clear kk; refine (PF.out _).mono ?_; rintro e wu ⟨rfl, hwu⟩; subst wu; clear Q0; have Q1 : True := trivial)
          | (go_at_call 16; have kk := P0; clear kk; refine (TX.out _ (Below.refl _ _)).mono ?_; rintro e w4 ⟨rfl, hb4⟩; have B4 := hideC (hb4.alloc hb4.size (.cells #[.int .i64 S.c, .int .i64 S.s, .int .i64 S.lo, .int .i64 S.hi, .int .i64 S.t, .int .i64 S.l] 45)); have R4 := rowL_alloc w4 [.int .i64 S.c, .int .i64 S.s, .int .i64 S.lo, .int .i64 S.hi, .int .i64 S.t, .int .i64 S.l] 45; have E4 := HT.out.next hb4; have e4 := fun j => E4.hy.cell j; simp only [baseV] at e4; have el4 := E4.hy.lt; have P1 : True := trivial; clear E4 hb4 b0 e0 P0)
          | (go_at_call 16; have kk := P1; clear kk; refine (TY.out _ B4.out).mono ?_; rintro e w5 ⟨rfl, hb5⟩; have R5 := hideC (R4.below hb5 R4.lt); have B5 := hideC ((nextB B4.out (Nat.le_refl _) hb5).alloc (Nat.le_trans B4.out.size hb5.size) (.cells #[.int .i64 S.c, .int .i64 S.s, .int .i64 S.lo, .int .i64 S.hi, .int .i64 S.t, .int .i64 S.l] 45)); have R6 := hideC (rowL_alloc w5 [.int .i64 S.c, .int .i64 S.s, .int .i64 S.lo, .int .i64 S.hi, .int .i64 S.t, .int .i64 S.l] 45); have E5 := HT.out.next (nextB B4.out (Nat.le_refl _) hb5); have e5 := fun j => E5.hx.cell j; simp only [baseV] at e5; have el5 := E5.hx.lt; have P2 : True := trivial; clear E5 hb5 e4 R4 el4 P1)
          | (go_at_call 20; have kk := P2; clear kk; refine (RX.out _ B5.out).mono ?_; rintro e w6 ⟨RR, hRR, hb6, A6, C6, rfl, hrow6⟩; have HR6 := hideC hrow6; have HM6 := hideC hRR; have B6 := hideC (nextB B5.out (Nat.le_refl _) hb6); have L6 := hideC hb6; have E6 := HT.out.next (nextB B5.out (Nat.le_refl _) hb6); have e6 := fun j => E6.hy.cell j; simp only [baseV] at e6; have el6 := E6.hy.lt; have P3 : True := trivial; clear E6 hb6 hRR hrow6 e5 el5 P2)
          | (go_at_call 20; have kk := P3; clear kk; refine (RY.out _ B6.out).mono ?_; rintro e w7 ⟨R', hR7, hb7, A7, C7, rfl, hrow7⟩; have HR7 := hideC hrow7; have HM7 := hideC hR7; have B7 := hideC (nextB B6.out (Nat.le_refl _) hb7); have L7 := hideC hb7; clear hb7 hR7 hrow7 e6 el6 P3))
        have hlR : RR.length ≤ xp.length := by
          obtain ⟨M, hM, hR⟩ := HM6.out
          rw [hR]
          exact (rowsR_of (.inr (.inl rfl)) HPX.out rfl HII.out hM (by omega)).len
        have e7 : RR = R' := kb_rows HP.out HM6.out HM7.out
        clear HM6 HM7
        subst e7
        have y5 := R5.out.of_block (Below.heap_alloc w5 (.cells #[.int .i64 S.c, .int .i64 S.s, .int .i64 S.lo, .int .i64 S.hi, .int .i64 S.t, .int .i64 S.l] 45) _ R5.out.lt)
        have y6 := y5.below L6.out y5.lt
        have y7 := y6.below L7.out y6.lt
        have x6 := R6.out.below L6.out R6.out.lt
        have x7 := x6.below L7.out x6.lt
        have c5 := fun j => y7.cell j
        have c6 := fun j => x7.cell j
        have cl5 := y7.lt
        have cl6 := x7.lt
        have EQ : Hid (Calls Tryz.prog 23 #[.slice A6 RR.length C6, .slice A7 RR.length C7] w7 fun e w' => e = .returned (.bool true) ∧ Below w7.heap.size w7 w') := by
          have h := equalRow_any A6 A7 C6 C7 RR RR w7 (HR6.out.up L7.out) HR7.out (by omega) (by omega)
          rw [show decide (RR = RR) = true by simp] at h
          exact h
        have Z7 := hideC (nextB HB1.out (Nat.le_refl _) (nextB HT.out.below (Nat.le_refl _) B7.out))
        clear y5 y6 y7 x6 x7 hlR
        go_wp2_with (first
          | (go_at_call 23; refine EQ.out.mono ?_; rintro e w8 ⟨rfl, hb8⟩; have B8 := hideC hb8; clear hb8))
        go_ret
        exact ⟨rfl, nextB Z7.out (Nat.le_refl _) B8.out⟩
      · have hxn : Lib.idxOfS (sK pts.length) oneB < 0 := by
          rw [show pts.length = 0 by omega]
          exact sK_no
        have TX := hideC fun W (hW : Below wr.heap.size wr W) => total_no (HZ.out.below (nextB HB1.out (Nat.le_refl _) (nextB hat.below (Nat.le_refl _) hW))) ((hat.ax.at hkx).up hW) hkx (x := oneB) (a := a) (b := a + d) hxn
        have TY := hideC fun W (hW : Below wr.heap.size wr W) => total_no (HZ.out.below (nextB HB1.out (Nat.le_refl _) (nextB hat.below (Nat.le_refl _) hW))) ((hat.ay.at hky).up hW) hky (x := oneB) (a := a) (b := a + d) hxn
        have RX := hideC fun W (hW : Below wr.heap.size wr W) => rows_no (HZ.out.below (nextB HB1.out (Nat.le_refl _) (nextB hat.below (Nat.le_refl _) hW))) ((hat.ax.at hkx).up hW) hkx (x := oneB) (sz := 60) (a := 0) (b := 1048575) hxn
        have RY := hideC fun W (hW : Below wr.heap.size wr W) => rows_no (HZ.out.below (nextB HB1.out (Nat.le_refl _) (nextB hat.below (Nat.le_refl _) hW))) ((hat.ay.at hky).up hW) hky (x := oneB) (sz := 60) (a := 0) (b := 1048575) hxn
        have HT := hideC hat
        have b0 := fun j => hat.hx.cell j
        have e0 := fun j => hat.hy.cell j
        have hn1 : ((pts.length : Int) == 0) = true := by
          have : pts.length = 0 := by omega
          rw [this]; rfl
        obtain ⟨s, hs⟩ : ∃ s, sK pts.length = s := ⟨_, rfl⟩
        rw [hs] at TX TY RX RY b0 e0 HT
        clear hat hkx hky hs hperm hxn
        obtain ⟨A40, C40, m0, n0⟩ := t0
        obtain ⟨A41, C41, m1, n1⟩ := t1
        obtain ⟨A42, C42, m2, n2⟩ := t2
        obtain ⟨A50, C50, m0', n0'⟩ := u0
        obtain ⟨A51, C51, m1', n1'⟩ := u1
        obtain ⟨A52, C52, m2', n2'⟩ := u2
        simp only [baseV, oneB, zro] at TX TY RX RY b0 e0
        have P0 : True := trivial
        have Q0 : True := trivial
        go_upto_region 24 with (first
          | (go_at_call 15; have kk := Q1; clear kk; refine (PM.out _).mono ?_; rintro e wv ⟨rfl, hwv⟩; subst wv; clear Q1)
          | (go_at_call 15; have kk := Q0; clear kk; refine (PF.out _).mono ?_; rintro e wu ⟨rfl, hwu⟩; subst wu; clear Q0; have Q1 : True := trivial)
          | (go_at_call 16; have kk := P0; clear kk; refine (TX.out _ (Below.refl _ _)).mono ?_; rintro e w4 ⟨rfl, hb4⟩; have B4 := hideC (hb4.alloc hb4.size (.cells #[.int .i64 0, .int .i64 0, .int .i64 0, .int .i64 0, .int .i64 0, .int .i64 0] 45)); have R4 := rowL_alloc w4 [.int .i64 0, .int .i64 0, .int .i64 0, .int .i64 0, .int .i64 0, .int .i64 0] 45; have E4 := HT.out.next hb4; have e4 := fun j => E4.hy.cell j; simp only [baseV] at e4; have el4 := E4.hy.lt; have P1 : True := trivial; clear E4 hb4 b0 e0 P0)
          | (go_at_call 16; have kk := P1; clear kk; refine (TY.out _ B4.out).mono ?_; rintro e w5 ⟨rfl, hb5⟩; have R5 := hideC (R4.below hb5 R4.lt); have B5 := hideC ((nextB B4.out (Nat.le_refl _) hb5).alloc (Nat.le_trans B4.out.size hb5.size) (.cells #[.int .i64 0, .int .i64 0, .int .i64 0, .int .i64 0, .int .i64 0, .int .i64 0] 45)); have R6 := hideC (rowL_alloc w5 [.int .i64 0, .int .i64 0, .int .i64 0, .int .i64 0, .int .i64 0, .int .i64 0] 45); have E5 := HT.out.next (nextB B4.out (Nat.le_refl _) hb5); have e5 := fun j => E5.hx.cell j; simp only [baseV] at e5; have el5 := E5.hx.lt; have P2 : True := trivial; clear E5 hb5 e4 R4 el4 P1)
          | (go_at_call 20; have kk := P2; clear kk; refine (RX.out _ B5.out).mono ?_; rintro e w6 ⟨rfl, hb6⟩; have B6 := hideC (nextB B5.out (Nat.le_refl _) hb6); have L6 := hideC hb6; have E6 := HT.out.next (nextB B5.out (Nat.le_refl _) hb6); have e6 := fun j => E6.hy.cell j; simp only [baseV] at e6; have el6 := E6.hy.lt; have P3 : True := trivial; clear E6 hb6 e5 el5 P2)
          | (go_at_call 20; have kk := P3; clear kk; refine (RY.out _ B6.out).mono ?_; rintro e w7 ⟨rfl, hb7⟩; have B7 := hideC (nextB B6.out (Nat.le_refl _) hb7); have L7 := hideC hb7; clear hb7 e6 el6 P3))
        have y5 := R5.out.of_block (Below.heap_alloc w5 (.cells #[.int .i64 0, .int .i64 0, .int .i64 0, .int .i64 0, .int .i64 0, .int .i64 0] 45) _ R5.out.lt)
        have y6 := y5.below L6.out y5.lt
        have y7 := y6.below L7.out y6.lt
        have x6 := R6.out.below L6.out R6.out.lt
        have x7 := x6.below L7.out x6.lt
        have c5 := fun j => y7.cell j
        have c6 := fun j => x7.cell j
        have cl5 := y7.lt
        have cl6 := x7.lt
        have EQ : Hid (Calls Tryz.prog 23 #[.slice none 0 0, .slice none 0 0] w7 fun e w' => e = .returned (.bool true) ∧ Below w7.heap.size w7 w') := by
          have h := equalRow_any none none 0 0 [] [] w7 (.inl rfl) (.inl rfl) (by simp) (by simp)
          exact h
        have Z7 := hideC (nextB HB1.out (Nat.le_refl _) (nextB HT.out.below (Nat.le_refl _) B7.out))
        clear y5 y6 y7 x6 x7
        go_wp2_with (first
          | (go_at_call 23; refine EQ.out.mono ?_; rintro e w8 ⟨rfl, hb8⟩; have B8 := hideC hb8; clear hb8))
        go_ret
        exact ⟨rfl, nextB Z7.out (Nat.le_refl _) B8.out⟩
set_option maxRecDepth 100000 in
theorem basesAny_lifted (os : Os) (started : os.Started) (H : Type) (enc : TypeId × Value → H) :
    ReturnsInHanded {} Tryz.checked os 6 .any (fun w args => (Rows.basesAnySpec.pre enc Tryz.prog Tryz.f6 [] false w args ∧ laidMetH Tryz.prog laidSz w) ∧ sizedMet enc Tryz.prog Tryz.f6 (OpenSpec.ofChange Rows.basesAnySpec) false w args)
      (Rows.basesAnySpec.post enc Tryz.prog Tryz.f6 false true false false) := by
  refine returnsInHanded_of_change_and (C := Tryz.checked) (X := fun w _ => laidMetH Tryz.prog laidSz w) (fun _ _ _ hh h => h.of_heap hh) own started (by kernel_rfl) Tryz.func6
    (ChangeSpec.witness_at (enc := enc) (C := Tryz.checked) (os := os) (X := fun w _ => laidMetH Tryz.prog laidSz w) false (World.laidAll Tryz.prog os laidSz) #[.slice none 0 0, .int .i64 0, .int .i64 0] 8 (World.laidAll_os _ _ _) (by kernel_rfl) (by kernel_rfl) (by kernel_rfl) (by kernel_rfl) (by kernel_rfl)
      (by rw [MakeChecks.laidMetH_plain _ _ _ (by kernel_rfl)]; exact laidMet_laidAll _ (by kernel_rfl) (by kernel_rfl))) ?_
  intro W base args ds gs before hval0 hW _ hsz0 hL _
  have hval : ∀ (j : Nat) t v, Tryz.f6.params[j]? = some t → args[j]? = some v → Value.okWide Tryz.prog W .any base t v := hval0
  have hW' := hW
  obtain ⟨p, q, hA0, hV, rfl, hfz, hnd⟩ := hW
  have hA : DataW.TrodAll enc Tryz.prog W 0 (fun _ => true) true Tryz.f6.params.toList args.toList ds p := hA0
  have hsz : (DataW.weightsEach Tryz.prog (Tryz.f6.params.toList ++ Rows.basesAnySpec.plain.varTypes Tryz.prog) (ds ++ gs)).all (· ≤ reachBytes) = true := hsz0
  rw [Tryz.params6] at hA hval hsz
  obtain ⟨v0, vs0, d0, ds0, p0, q0, hargs, rfl, rfl, h0, r0⟩ := trodAll_cons hA
  obtain ⟨v1, vs1, d1, ds1, p1, q1, rfl, rfl, rfl, h1, r1⟩ := trodAll_cons r0
  obtain ⟨v2, vs2, d2, ds2, p2, q2, rfl, rfl, rfl, h2, r2⟩ := trodAll_cons r1
  obtain ⟨rfl, rfl, rfl⟩ := trodAll_nil r2
  obtain rfl : args = #[v0, v1, v2] := by cases args; simp_all
  obtain ⟨rfl, rfl⟩ := trodVars_none hV
  have k0 := h0
  have lt0 : ∀ x ∈ p0, x.block < W.heap.size := by obtain ⟨m, hm⟩ := k0; exact DataW.trod_lt m _ _ _ hm
  obtain ⟨A0, C0, xs0, rfl, hR0, hz0, hw0⟩ := open_rawsArg (hval 0 38 v0 rfl rfl) h0 (fun n hn => by
    have := List.all_eq_true.1 hsz n (DataW.weights_mem_each (j := 0) (t := 38) rfl rfl n hn)
    exact of_decide_eq_true this)
  have k1 := h1
  have lt1 : ∀ x ∈ p1, x.block < W.heap.size := by obtain ⟨m, hm⟩ := k1; exact DataW.trod_lt m _ _ _ hm
  obtain ⟨a1, rfl, w1⟩ : ∃ n : Int, v1 = .int .i64 n ∧ (Lit.int .i64 n).wf = true := by
    obtain ⟨n, h, _, _, w⟩ := open_int Tryz.underlying3 (hval 1 3 v1 rfl rfl) h1; exact ⟨n, h, w⟩
  have k2 := h2
  have lt2 : ∀ x ∈ p2, x.block < W.heap.size := by obtain ⟨m, hm⟩ := k2; exact DataW.trod_lt m _ _ _ hm
  obtain ⟨a2, rfl, w2⟩ : ∃ n : Int, v2 = .int .i64 n ∧ (Lit.int .i64 n).wf = true := by
    obtain ⟨n, h, _, _, w⟩ := open_int Tryz.underlying3 (hval 2 3 v2 rfl rfl) h2; exact ⟨n, h, w⟩
  clear hA0 hval0 hsz0
  refine (basesAny_walk A0 C0 xs0 a1 a2 W (szAt_of hL) hR0 hz0 hw0 w1 w2).mono fun e W' ⟨he, bel⟩ => ?_
  subst he
  exact ⟨_, rfl, _, _, _, [], _, [], hW', trodAll_mk1 (shut_bool Tryz.underlying4 _), (trodAll_cons_mk (Below.trod laidOut (by kernel_rfl) (of_decide_eq_true (by kernel_rfl)) k0 bel lt0) (trodAll_cons_mk (Below.trod laidOut (by kernel_rfl) (of_decide_eq_true (by kernel_rfl)) k1 bel lt1) (trodAll_cons_mk (Below.trod laidOut (by kernel_rfl) (of_decide_eq_true (by kernel_rfl)) k2 bel lt2) trodAll_mk0))), rfl, bel.frame _, fun h => by cases h⟩

theorem basesAny_holds : Rows.BasesAnySaid :=
  OpenClaim.holds_of_wide 6 Tryz.f6 rfl rfl rfl rfl rfl rfl rfl ⟨rfl, rfl, rfl, rfl, rfl⟩ rfl rfl rfl rfl rfl (by kernel_rfl) Tryz.func6 (by kernel_rfl)
    (of_decide_eq_true (by kernel_rfl)) (by unfold Func.isWrapper; first | (rw [if_pos (by decide +kernel)]; kernel_rfl) | (rw [if_neg (by decide +kernel)]; exact ⟨rfl, rfl⟩))
    (fun os started H enc _ => basesAny_lifted os started H enc)

theorem basesAnyCard_holds : Rows.BasesAnyCardSaid :=
  Claim7.holds_tied_plain_at .later [] [.data] true (true, "70812a8111c496b7e791c729587af830859d64019f6e8c761a5939306b334728") false basesAny_holds (fun _ h => by cases h) (by kernel_rfl) (fun _ h => by cases h) basesAny_row_tie rfl ⟨rfl, rfl⟩ (by kernel_rfl) rfl
    (fun f fn hf hfn => by
      obtain rfl : f = 6 := Option.some.inj ((show Tryz.prog.funcNamed "winnower/winnowerkeep.BasesAny" = some 6 by kernel_rfl).symm.trans hf) |>.symm
      obtain rfl : fn = Tryz.f6 := (Option.some.inj (Tryz.func6.symm.trans hfn)).symm
      exact ⟨by kernel_rfl, fun j t ht => by
        rw [Tryz.params6] at ht
        have hm : t ∈ [38, 3, 3] := by simpa using Array.mem_of_getElem? ht
        have hall : ([38, 3, 3].all fun u => !Tryz.prog.wantsStandIn u) = true := by kernel_rfl
        exact (show Tryz.prog.wantsStandIn t = false by simpa using List.all_eq_true.1 hall t hm)⟩)
    (by kernel_rfl)
#print axioms basesAnyCard_holds
end Go.Proofs.YtlojfgdpmaigmaeGreatDoor

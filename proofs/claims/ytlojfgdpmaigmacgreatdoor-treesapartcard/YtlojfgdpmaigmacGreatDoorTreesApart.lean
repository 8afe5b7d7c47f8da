/- For every list of raw things, one more, and another key: what is put at one key changes what is got there, and nowhere else. No condition beside the table of sizes, which is tied to the program's text. -/
import Derived.Test.YtlojfgdpmaigmacGreatDoorTreeAid
import Derived.Test.YtlojfgdpmaigmacGreatDoorP43
import Derived.Test.YtlojfgdpmaigmacGreatDoorP24
import Derived.Test.YtlojfgdpmaigmacGreatDoorP51
import Derived.Test.YtlojfgdpmaigmacGreatDoorP25
import Derived.Test.YtlojfgdpmaigmacGreatDoorLaidSz
import Derived.ChangeMaps5
import Derived.Deep.RegionHeld3
import Derived.BigQuiet
namespace Go.Proofs.YtlojfgdpmaigmacGreatDoor
open Go.ChangeShapes Go.WideShapes Go.ChangeAt Go.RowKit Plain Go.Shelf

/-- On the way: the raw thing's box, the tree's, the map. -/
structure ApA (w wr : World) (tb g C2 : Nat) (qs : List PN) (root : Int) (mb nn : Nat) (l : List En) (k0 a0 b0 c0 : Int) : Prop where
  below : Below w.heap.size w wr
  raw : RowL wr w.heap.size 44 [.int .i64 k0, .int .i64 a0, .int .i64 b0, .int .i64 c0]
  tr : RowL wr tb 26 [.slice (some ⟨g, 0, none⟩) qs.length C2, .int .i64 root]
  nt : NodesAt wr.heap.size wr (some ⟨g, 0, none⟩) qs
  mp : MapR wr mb nn l

theorem ApA.next {w wr w' : World} {tb g C2 : Nat} {qs : List PN} {root : Int} {mb nn : Nat} {l : List En} {k0 a0 b0 c0 : Int} (h : ApA w wr tb g C2 qs root mb nn l k0 a0 b0 c0) (hb : Below wr.heap.size wr w') : ApA w w' tb g C2 qs root mb nn l k0 a0 b0 c0 :=
  ⟨nextB h.below (Nat.le_refl _) hb, h.raw.below hb h.raw.lt, h.tr.below hb h.tr.lt, h.nt.up hb, h.mp.below hb h.mp.lt⟩

theorem ApA.start {w w2 : World} {g C2 : Nat} {qs : List PN} {root : Int} {mb nn : Nat} {l : List En} {k0 a0 b0 c0 : Int} (hb : Below w.heap.size w w2) (hr : RowL w2 w.heap.size 44 [.int .i64 k0, .int .i64 a0, .int .i64 b0, .int .i64 c0]) (hn : NodesAt w2.heap.size w2 (some ⟨g, 0, none⟩) qs) (hm : MapR w2 mb nn l) :
    ApA w (w2.alloc (.cells #[.slice (some ⟨g, 0, none⟩) qs.length C2, .int .i64 root] 26)) w2.heap.size g C2 qs root mb nn l k0 a0 b0 c0 := by
  have b1 : Below w2.heap.size w2 (w2.alloc (.cells #[.slice (some ⟨g, 0, none⟩) qs.length C2, .int .i64 root] 26)) := (Below.refl _ _).alloc (Nat.le_refl _) _
  exact ⟨nextB hb (Nat.le_refl _) b1, hr.below b1 hr.lt, rowL_alloc w2 _ _, hn.up b1, hm.below b1 hm.lt⟩

/-- What is refused of the Put: nothing. -/
theorem apart_in {l : List En} {key : Int} {R : Ru} (hg : ∀ y ∈ l, Good y.ru) (hs : sumC l ≤ 600) (hc : R.c ≤ 4) : ins l (mkE key R) ≠ none := fun h => by
  have h1 := ins_none (good_pos hg) h
  have h2 := cntK_sum (k := key) (good_pos hg)
  have e1 : (mkE key R).key = key := rfl
  have e2 : (mkE key R).c = R.c := rfl
  rw [e1, e2] at h1
  omega

theorem row6 {w : World} {b : Nat} {t : TypeId} {y0 y1 y2 y3 y4 y5 : Value} (h : RowL w b t [y0, y1, y2, y3, y4, y5]) (x0 x1 x2 x3 x4 x5 : Value) :
    RowL ((((((w.setCell ⟨b, 0, none⟩ x0).setCell ⟨b, 1, none⟩ x1).setCell ⟨b, 2, none⟩ x2).setCell ⟨b, 3, none⟩ x3).setCell ⟨b, 4, none⟩ x4).setCell ⟨b, 5, none⟩ x5) b t [x0, x1, x2, x3, x4, x5] :=
  (((((h.set 0 x0).set 1 x1).set 2 x2).set 3 x3).set 4 x4).set 5 x5

theorem look_cases (l : List En) (key : Int) : look l key = zro ∨ ∃ y ∈ l, y.key = key ∧ look l key = y.ru := by
  induction l with
  | nil => exact .inl rfl
  | cons y r ih =>
    rw [look_cons]
    by_cases h : y.key = key
    · rw [if_pos h]
      exact .inr ⟨y, List.mem_cons_self, h, rfl⟩
    · rw [if_neg h]
      rcases ih with ih | ⟨z, hz, h1, h2⟩
      · exact .inl ih
      · exact .inr ⟨z, List.mem_cons_of_mem _ hz, h1, h2⟩

theorem mem_sum {l : List En} (hp : Pos l) {y : En} (h : y ∈ l) : y.c ≤ sumC l := by
  induction l with
  | nil => simp at h
  | cons z r ih =>
    have h1 := hp z List.mem_cons_self
    have h0 : ∀ l : List En, Pos l → 0 ≤ sumC l := fun l => by
      induction l with
      | nil => intro _; exact Int.le_refl _
      | cons a b ih =>
        intro h
        have q1 := h a List.mem_cons_self
        have q2 := ih fun x hx => h x (List.mem_cons_of_mem _ hx)
        simp only [sumC]
        omega
    have h3 := h0 r fun x hx => hp x (List.mem_cons_of_mem _ hx)
    simp only [sumC]
    rcases List.mem_cons.1 h with rfl | h
    · omega
    · have := ih (fun x hx => hp x (List.mem_cons_of_mem _ hx)) h
      omega

theorem apart_mrg {l : List En} {key : Int} {R : Ru} (hg : ∀ y ∈ l, Good y.ru) (hs : sumC l ≤ 600) (hR : Good R) (hc : R.c ≤ 4) : (mrg (look l key) R).2 = 0 := by
  rcases look_cases l key with h | ⟨y, hy, -, h⟩
  · rw [h, mrg_zro hR]
  · have h1 := mem_sum (good_pos hg) hy
    have e : y.ru.c = y.c := rfl
    rw [h, mrg_good (hg y hy) hR, if_pos (by omega)]

set_option maxRecDepth 20000 in
set_option maxHeartbeats 4000000 in
theorem treesApart_walk (A : Option Addr) (C : Nat) (xs : List Rw) (k0 a0 b0 c0 n : Int) (w : World) (hZ : SzAt w) (hA : RowAt w.heap.size w A (flatR xs)) (_ : xs.length * 32 ≤ 140737488351232) (hwf : ∀ x ∈ xs, x.wf) (hr : i64B k0 ∧ i64B a0 ∧ i64B b0 ∧ i64B c0) (hn : (Lit.int .i64 n).wf = true) :
    Calls Tryz.prog 4 #[.slice A xs.length C, .agg #[.int .i64 k0, .int .i64 a0, .int .i64 b0, .int .i64 c0], .int .i64 n] w fun e w' => e = .returned (.bool true) ∧ Below w.heap.size w w' := by
  have hw0 : Below w.heap.size w (w.alloc (.cells #[.int .i64 k0, .int .i64 a0, .int .i64 b0, .int .i64 c0] 44)) := (Below.refl _ _).alloc (Nat.le_refl _) _
  have B0 := hideC hw0
  have TT := hideC fun W (hW : Below w.heap.size w W) => tells_any W (hZ.below hW)
  have KT := hideC fun W (hW : RowAt W.heap.size W A (flatR xs)) => ktree_sum A C xs 60 W hW hwf (by decide) (by decide)
  have HA := hideC hA
  have bn := i64_wf hn
  have hr1 := hr.1
  have PA := hideC fun W => picked_any k0 60 W hr1.1 hr1.2 (by decide) (by decide)
  have PB := hideC fun W => picked_any n 60 W bn.1 bn.2 (by decide) (by decide)
  have qa := pick_bd k0 (show (0 : Int) < 60 by decide)
  have qb := pick_bd n (show (0 : Int) < 60 by decide)
  have RU := hideC fun W => rollup_is k0 a0 b0 c0 W hr.2.1 hr.2.2.1 hr.2.2.2
  have qc := pick_bd c0 (show (0 : Int) < 4 by decide)
  have hG := rollG_good a0 b0 (pick c0 4).toNat (by omega)
  have hGc : (rollG a0 b0 (pick c0 4).toNat).c ≤ 4 := by omega
  obtain ⟨R, hR⟩ : ∃ R, rollG a0 b0 (pick c0 4).toNat = R := ⟨_, rfl⟩
  rw [hR] at RU hG hGc
  obtain ⟨key, hkey⟩ : ∃ key, pick k0 60 = key := ⟨_, rfl⟩
  obtain ⟨k, hk⟩ : ∃ k, pick n 60 = k := ⟨_, rfl⟩
  rw [hkey] at PA qa
  rw [hk] at PB qb
  have X0 := hideC (rowL_alloc w [.int .i64 k0, .int .i64 a0, .int .i64 b0, .int .i64 c0] 44)
  have QQ := hideC (And.intro qa (And.intro qb (And.intro hG.1 hGc)))
  clear hkey hk hR hZ hA hwf hn hr1 hr bn hG hGc qa qb qc hw0
  have P0 : True := trivial
  go_enter Tryz.func4, Tryz.ntmps4
  go_upto_region 6 with (first
    | (go_at_call 7; refine (TT.out _ B0.out).mono ?_; rintro e w1 ⟨rfl, hb1⟩; have HB1 := hideC (nextB B0.out (Nat.le_refl _) hb1); have X1 := hideC (X0.out.below hb1 X0.out.lt); clear hb1)
    | (go_at_call 8; refine (KT.out _ (HA.out.up HB1.out)).mono ?_; rintro e w2 ⟨g, C2, qs, root, mb, nn, l, rfl, hn2, hk2, hm2, hb2, hkl, hsl⟩; have HB2 := hideC (nextB HB1.out (Nat.le_refl _) hb2); have X2 := hideC (X1.out.below hb2 X1.out.lt); have x2 := fun j => X2.out.cell j; have xl := X2.out.lt; have HN2 := hideC hn2; have HK2 := hideC hk2; have HM2 := hideC hm2; have HL2 := hideC (And.intro hkl hsl); clear hn2 hk2 hm2 hb2 hkl hsl)
    | (go_at_call 9; have kk := P1; clear kk; refine (PB.out _).mono ?_; rintro e wy ⟨rfl, hwy⟩; subst wy)
    | (go_at_call 9; have kk := P0; clear kk; refine (PA.out _).mono ?_; rintro e wx ⟨rfl, hwx⟩; subst wx; have P1 : True := trivial; clear P0))
  have AD := hideC (ApA.start (C2 := C2) (root := root) HB2.out X2.out HN2.out HM2.out)
  have ltb : w2.heap.size < (w2.alloc (.cells #[.slice (some ⟨g, 0, none⟩) qs.length C2, .int .i64 root] 26)).heap.size := by simp
  obtain ⟨tb, htb⟩ : ∃ tb, tb = w2.heap.size := ⟨_, rfl⟩
  obtain ⟨wd, hwd⟩ : ∃ wd, wd = w2.alloc (.cells #[.slice (some ⟨g, 0, none⟩) qs.length C2, .int .i64 root] 26) := ⟨_, rfl⟩
  rw [← hwd, ← htb] at AD ltb ⊢
  clear htb hwd HM2 HN2 X2 X1 X0 x2 xl P1
  obtain ⟨ob, hob⟩ : ∃ ob, ob = w.heap.size := ⟨_, rfl⟩
  rw [← hob]
  have lob : ob < wd.heap.size := by rw [hob]; exact AD.out.raw.lt
  have t0 : wd.cell? ⟨tb, 0, none⟩ = some (.slice (some ⟨g, 0, none⟩) qs.length C2) := AD.out.tr.cell 0
  have t1 : wd.cell? ⟨tb, 1, none⟩ = some (.int .i64 root) := AD.out.tr.cell 1
  have r0 : wd.cell? ⟨ob, 0, none⟩ = some (.int .i64 k0) := by rw [hob]; exact AD.out.raw.cell 0
  have r1 : wd.cell? ⟨ob, 1, none⟩ = some (.int .i64 a0) := by rw [hob]; exact AD.out.raw.cell 1
  have r2 : wd.cell? ⟨ob, 2, none⟩ = some (.int .i64 b0) := by rw [hob]; exact AD.out.raw.cell 2
  have r3 : wd.cell? ⟨ob, 3, none⟩ = some (.int .i64 c0) := by rw [hob]; exact AD.out.raw.cell 3
  have n1 : ¬ ob = wd.heap.size := by omega
  have n2 : ¬ tb = wd.heap.size := by omega
  have l1 : ob < wd.heap.size + 1 := by omega
  have l2 : tb < wd.heap.size + 1 := by omega
  have HOB := hideC hob
  clear hob
  have KS : ∀ (W : World) (b' o' j m : Nat) (u : Value), ¬ b' = m → (W.setCell ⟨m, j, none⟩ u).cell? ⟨b', o', none⟩ = W.cell? ⟨b', o', none⟩ := fun W b' o' j m u hb => World.cell?_setCell_far _ _ _ _ (fun e => hb e.symm)
  have PT := hideC fun W (hW : Below wd.heap.size wd W) => put_con (A := some ⟨g, 0, none⟩) (C := C2) (root := root) (key := key) (r := R) (ps := qs) (L := l) (x := mkE key R) (AD.out.nt.up hW) (treeC_wf HK2.out.ok) (knows_all HK2.out) QQ.out.2.2.1 (by have := QQ.out.1; omega) rfl
  go_cut [11, 12] (fun v3 v4 wc => PutM (fun c => c = 1 ∧ (ins l (mkE key R) = none ∨ (200 < (qs.map PN.nd).length ∧ 900 < l.length))) (fun m q => ∃ M, ins l (mkE key R) = some M ∧ allP m q 0 1099511627776 = (0, M)) 0 wd v3 v4 (.int .i64 0) wc)
  case first =>
    go_region_held3 (fun w' => w'.cell? ⟨tb, 0, none⟩ = some (.slice (some ⟨g, 0, none⟩) qs.length C2) ∧ w'.cell? ⟨tb, 1, none⟩ = some (.int .i64 root) ∧ w'.cell? ⟨ob, 0, none⟩ = some (.int .i64 k0) ∧ w'.cell? ⟨ob, 1, none⟩ = some (.int .i64 a0) ∧ w'.cell? ⟨ob, 2, none⟩ = some (.int .i64 b0) ∧ w'.cell? ⟨ob, 3, none⟩ = some (.int .i64 c0)) (go_keep)
      (first
        | (go_at_call 14; refine (RU.out _).mono ?_; rintro e v2 ⟨rfl, hb2⟩; have T2 := (bcells (hb2.mono (show wd.heap.size ≤ _ by first | simp | (simp; omega)))).1; have D2 := (bcells hb2).1 wd.heap.size; have F2 := (bcells hb2).2 wd.heap.size; have Z2 : wd.heap.size ≤ v2.heap.size := Nat.le_trans (by first | simp | (simp; omega)) hb2.size; have n4 : ¬ ob = v2.heap.size := (by omega); have n5 : ¬ tb = v2.heap.size := (by omega); have l4 : ob < v2.heap.size := (by omega); have l5 : tb < v2.heap.size := (by omega); have l6 : ob < v2.heap.size + 1 := (by omega); have l7 : tb < v2.heap.size + 1 := (by omega); have HW2 : Hid (Below wd.heap.size wd v2) := (by first | exact ((Below.refl _ _).drew).trans (hb2.mono (by simp)) | exact (((Below.refl _ _).alloc (Nat.le_refl _) _).drew).trans (hb2.mono (by simp))); have HB2' := hideC hb2; (first | (have n6 : ¬ wd.heap.size = v2.heap.size := (by have h := hb2.size; simp at h; omega); have n7 : wd.heap.size < v2.heap.size := (by have h := hb2.size; simp at h; omega)) | skip); clear hb2)
        | (go_at_call 13; refine (PT.out _ ?_).mono ?_; (first | exact HW2.out | exact HW2.out.alloc Z2 _); rintro e v3 ⟨XA, xl', XC, sr, c, rfl, hb3, hP⟩; have T3 := (bcells (hb3.mono (show v2.heap.size ≤ _ by first | simp | (simp; omega)))).1; have D3 := (bcells hb3).1 wd.heap.size; have F3 := (bcells hb3).2 wd.heap.size; have D4 := (bcells hb3).1 v2.heap.size; have F4 := (bcells hb3).2 v2.heap.size; have HB3 := hideC hb3; have HP3 := hideC hP; clear hb3 hP))
    all_goals
      go_wp2
      go_meet
      case rel =>
        first
          | exact put_late (HW2.out.trans (HB3.out.mono Z2)) (HP3.out.keep Z2 fun _ _ _ => rfl)
          | exact put_at (HW2.out.trans (((Below.refl _ _).alloc Z2 _).trans (HB3.out.mono (by simp; omega)))) Z2 (by simp) ((rowL_alloc v2 [.slice none 0 0, .int .i64 0] 26).below HB3.out (by simp)) HP3.out
          | exact put_at (HW2.out.trans (HB3.out.mono Z2)) (Nat.le_refl _) (by have := HB2'.out.size; simp at this; omega) (((rowL_alloc wd [.slice none 0 0, .int .i64 0] 26).of_block (w' := (wd.alloc (.cells #[.slice none 0 0, .int .i64 0] 26)).drew) rfl |>.below HB2'.out (by simp)).below HB3.out (by have := HB2'.out.size; simp at this; omega)) HP3.out
  case rest =>
    obtain ⟨ub, XA, xl', XC, sr, c, rfl, rfl, -, hmb, hbc, hrm, hP⟩ := hcut
    obtain ⟨wq, hwq⟩ : ∃ wq, wq = wc := ⟨_, rfl⟩
    subst hwq
    have hl60 : l.length ≤ 60 := keys_few (many := 60) HK2.out.inc HL2.out.1
    rcases hP with ⟨_, _, h | ⟨_, h⟩⟩ | ⟨rfl, g2, q, rfl, rfl, hT, M, hM, ha⟩
    · exact absurd h (apart_in HK2.out.good HL2.out.2 QQ.out.2.2.2)
    · omega
    · have hk2 := knows_allP ha
      have qa := QQ.out.1
      have qb := QQ.out.2.1
      have lkk := (look_ins (x := mkE key R) QQ.out.2.2.1 HK2.out.inc HK2.out.good hM).1 k
      have e1 : (mkE key R).key = key := rfl
      have e2 : (mkE key R).ru = R := rfl
      rw [e1, e2] at lkk
      have hm0 := apart_mrg (key := key) HK2.out.good HL2.out.2 QQ.out.2.2.1 QQ.out.2.2.2
      have GT1 := hideC fun W (hW : Below wq.heap.size wq W) => get_any (some ⟨g, 0, none⟩) C2 root k qs W ((AD.out.next hbc).nt.up hW) (treeC_wf HK2.out.ok)
      have GT2 := hideC fun W (hW : Below wq.heap.size wq W) => get_any (some ⟨g2, 0, none⟩) XC sr k q W (hT.nodes.up hW) (treeC_wf hk2.ok)
      rw [HK2.out.got (by omega)] at GT1
      rw [hk2.got (by omega)] at GT2
      have MG := hideC fun W => merge_any (look l key) R W
      have ML := hideC fun W (hW : MapR W mb nn l) => hW.look (key := key) (WalkArith.wf_i64 (by omega))
      obtain ⟨S1, hS1⟩ : ∃ S, look l k = S := ⟨_, rfl⟩
      obtain ⟨S2, hS2⟩ : ∃ S, look M k = S := ⟨_, rfl⟩
      have hkeyS : k = key → look l key = S1 := fun e => by rw [← hS1, e]
      obtain ⟨S3, hS3⟩ : ∃ S, look l key = S := ⟨_, rfl⟩
      obtain ⟨J, hJ⟩ : ∃ J, (mrg S3 R).1 = J := ⟨_, rfl⟩
      rw [hS1] at GT1 lkk
      rw [hS2] at GT2 lkk
      rw [hS3] at MG hm0 hkeyS ML
      have hJ2 : mrg S3 R = (J, 0) := Prod.ext hJ hm0
      rw [hJ2] at MG
      simp only [tupR] at GT1 GT2 MG
      have LK : Hid ((k = key → S2 = J) ∧ (¬ k = key → S2 = S1)) := by
        refine ⟨fun e => ?_, fun e => ?_⟩
        · rw [lkk, if_pos e.symm, ← hkeyS e, hJ]
        · rw [lkk, if_neg fun e' => e e'.symm]
      have AQ := hideC (AD.out.next hbc)
      have UQ := hideC hrm
      have t0 := AQ.out.tr.cell 0
      have t1 := AQ.out.tr.cell 1
      have lt1 := AQ.out.tr.lt
      simp only [List.getElem?_cons_zero, List.getElem?_cons_succ] at t0 t1
      clear hk2 qa qb lkk e1 e2 hm0 hS1 hS2 hS3 hJ hJ2 hkeyS ha hM hT hbc hrm KS PT AD hl60
      have P7 : True := trivial
      go_upto_region 9 with (first
        | (go_at_call 15; have kk := P7; clear kk; refine (GT1.out _ (Below.refl _ _)).mono ?_; rintro e w4 ⟨rfl, hb4⟩; have B4 := hideC (hb4.alloc hb4.size (.cells #[.int .i64 S1.c, .int .i64 S1.s, .int .i64 S1.lo, .int .i64 S1.hi, .int .i64 S1.t, .int .i64 S1.l] 38)); have V4 := hideC (rowL_alloc w4 [.int .i64 S1.c, .int .i64 S1.s, .int .i64 S1.lo, .int .i64 S1.hi, .int .i64 S1.t, .int .i64 S1.l] 38); have U4 := UQ.out.below hb4 UQ.out.lt; have u0 := U4.cell 0; have u1 := U4.cell 1; have lu := U4.lt; simp only [List.getElem?_cons_zero, List.getElem?_cons_succ] at u0 u1; clear U4 hb4 P7 t0 t1)
        | (go_at_call 15; refine (GT2.out _ B4.out).mono ?_; rintro e w5 ⟨rfl, hb5⟩; have V5 := hideC (V4.out.below hb5 V4.out.lt); have B5 := hideC (nextB B4.out (Nat.le_refl _) hb5); clear hb5 u0 u1 lu V4))
      have EA := hideC (AQ.out.next ((B5.out).alloc B5.out.size (.cells #[.int .i64 S2.c, .int .i64 S2.s, .int .i64 S2.lo, .int .i64 S2.hi, .int .i64 S2.t, .int .i64 S2.l] 38)))
      have EV := hideC (rowL_alloc w5 [.int .i64 S2.c, .int .i64 S2.s, .int .i64 S2.lo, .int .i64 S2.hi, .int .i64 S2.t, .int .i64 S2.l] 38)
      have V6 := hideC (V5.out.of_block (Below.heap_alloc w5 (.cells #[.int .i64 S2.c, .int .i64 S2.s, .int .i64 S2.lo, .int .i64 S2.hi, .int .i64 S2.t, .int .i64 S2.l] 38) _ V5.out.lt))
      obtain ⟨we, hwe⟩ : ∃ we, we = w5.alloc (.cells #[.int .i64 S2.c, .int .i64 S2.s, .int .i64 S2.lo, .int .i64 S2.hi, .int .i64 S2.t, .int .i64 S2.l] 38) := ⟨_, rfl⟩
      obtain ⟨b15, hb15⟩ : ∃ b, b = w5.heap.size := ⟨_, rfl⟩
      obtain ⟨b13, hb13⟩ : ∃ b, b = w4.heap.size := ⟨_, rfl⟩
      rw [← hwe] at EA EV V6 ⊢
      rw [← hb15] at EV ⊢
      rw [← hb13] at V6 ⊢
      clear hwe hb15 hb13 V5 B5 B4 GT1 GT2 UQ AQ
      have lob' : ob < we.heap.size := by rw [HOB.out]; exact EA.out.raw.lt
      have r0' : we.cell? ⟨ob, 0, none⟩ = some (.int .i64 k0) := by rw [HOB.out]; exact EA.out.raw.cell 0
      have r1' : we.cell? ⟨ob, 1, none⟩ = some (.int .i64 a0) := by rw [HOB.out]; exact EA.out.raw.cell 1
      have r2' : we.cell? ⟨ob, 2, none⟩ = some (.int .i64 b0) := by rw [HOB.out]; exact EA.out.raw.cell 2
      have r3' : we.cell? ⟨ob, 3, none⟩ = some (.int .i64 c0) := by rw [HOB.out]; exact EA.out.raw.cell 3
      have m1 : ¬ ob = we.heap.size := by omega
      have o1 : ob < we.heap.size + 1 := by omega
      clear r0 r1 r2 r3 n1 n2 l1 l2 lob ltb t0 t1 lt1
      have KS : ∀ (W : World) (b' o' j m : Nat) (u : Value), ¬ b' = m → (W.setCell ⟨m, j, none⟩ u).cell? ⟨b', o', none⟩ = W.cell? ⟨b', o', none⟩ := fun W b' o' j m u hb => World.cell?_setCell_far _ _ _ _ (fun e => hb e.symm)
      simp only [ruVal] at ML
      have ML0 := ML.out we.drew (EA.out.mp.below ((Below.refl _ _).drew) EA.out.mp.lt)
      have ML1 := ML.out (we.alloc (.cells #[.int .i64 0, .int .i64 0, .int .i64 0, .int .i64 0, .int .i64 0, .int .i64 0] 38)).drew (EA.out.mp.below (((Below.refl we.heap.size we).alloc (Nat.le_refl _) _).drew) EA.out.mp.lt)
      go_cut [17, 18] (fun va vb wc => vb = .int .i64 0 ∧ ∃ jb, va = .pointer (some ⟨jb, 0, none⟩) ∧ RowL wc jb 38 [.int .i64 J.c, .int .i64 J.s, .int .i64 J.lo, .int .i64 J.hi, .int .i64 J.t, .int .i64 J.l] ∧ Below we.heap.size we wc)
      case first =>
        go_region_held3 (fun w' => w'.cell? ⟨ob, 0, none⟩ = some (.int .i64 k0) ∧ w'.cell? ⟨ob, 1, none⟩ = some (.int .i64 a0) ∧ w'.cell? ⟨ob, 2, none⟩ = some (.int .i64 b0) ∧ w'.cell? ⟨ob, 3, none⟩ = some (.int .i64 c0)) (go_keep)
          (first
            | (go_at_call 14; refine (RU.out _).mono ?_; rintro e v2 ⟨rfl, hb2⟩; have T2 := (bcells (hb2.mono (show we.heap.size ≤ _ by first | simp | (simp; omega)))).1; have D2 := (bcells hb2).1 we.heap.size; have F2 := (bcells hb2).2 we.heap.size; have Z2 : we.heap.size ≤ v2.heap.size := Nat.le_trans (by first | simp | (simp; omega)) hb2.size; have n4 : ¬ ob = v2.heap.size := (by omega); have l4 : ob < v2.heap.size := (by omega); have l6 : ob < v2.heap.size + 1 := (by omega); have HW2 : Hid (Below we.heap.size we v2) := (by first | exact ((Below.refl _ _).drew).trans (hb2.mono (by simp)) | exact (((Below.refl _ _).alloc (Nat.le_refl _) _).drew).trans (hb2.mono (by simp))); have HB2' := hideC hb2; have ML2 := ML.out v2 (EA.out.mp.below HW2.out EA.out.mp.lt); have ML3 := ML.out (v2.alloc (.cells #[.int .i64 0, .int .i64 0, .int .i64 0, .int .i64 0, .int .i64 0, .int .i64 0] 38)) (EA.out.mp.below (HW2.out.alloc Z2 _) EA.out.mp.lt); (first | (have n6 : ¬ we.heap.size = v2.heap.size := (by have h := hb2.size; simp at h; omega); have n7 : we.heap.size < v2.heap.size := (by have h := hb2.size; simp at h; omega)) | skip); clear hb2)
            | (go_at_call 16; refine (MG.out _).mono ?_; rintro e v3 ⟨rfl, hb3⟩; have T3 := (bcells (hb3.mono (show v2.heap.size ≤ _ by first | simp | (simp; omega)))).1; have D3 := (bcells hb3).1 we.heap.size; have F3 := (bcells hb3).2 we.heap.size; have D4 := (bcells hb3).1 v2.heap.size; have F4 := (bcells hb3).2 v2.heap.size; have HB3 := hideC hb3; clear hb3))
        all_goals
          go_wp2
          go_meet
          case rel =>
            first
              | (refine ⟨rfl, v3.heap.size, rfl, ?_, ?_⟩; (exact rowL_alloc v3 [.int .i64 J.c, .int .i64 J.s, .int .i64 J.lo, .int .i64 J.hi, .int .i64 J.t, .int .i64 J.l] _); (exact (HW2.out.trans (HB3.out.mono Z2)).alloc (Nat.le_trans Z2 HB3.out.size) _))
              | (refine ⟨rfl, v2.heap.size, rfl, ?_, ?_⟩; (exact row6 ((rowL_alloc v2 [.int .i64 0, .int .i64 0, .int .i64 0, .int .i64 0, .int .i64 0, .int .i64 0] 38).below HB3.out (by simp)) _ _ _ _ _ _); (exact set6_below (HW2.out.trans (((Below.refl _ _).alloc Z2 _).trans (HB3.out.mono (by simp; omega)))) Z2 _ _ _ _ _ _))
              | (refine ⟨rfl, we.heap.size, rfl, ?_, ?_⟩; (exact row6 ((((rowL_alloc we [.int .i64 0, .int .i64 0, .int .i64 0, .int .i64 0, .int .i64 0, .int .i64 0] 38).of_block (w' := (we.alloc (.cells #[.int .i64 0, .int .i64 0, .int .i64 0, .int .i64 0, .int .i64 0, .int .i64 0] 38)).drew) rfl).below HB2'.out (by simp)).below HB3.out (by have := HB2'.out.size; simp at this; omega)) _ _ _ _ _ _); (exact set6_below (HW2.out.trans (HB3.out.mono Z2)) (Nat.le_refl _) _ _ _ _ _ _))
      case rest =>
        obtain ⟨rfl, jb, rfl, hrj, hbj⟩ := hcut
        have f15 := EV.out.below hbj (EV.out.lt)
        have f13 := V6.out.below hbj (V6.out.lt)
        have c15 := fun j => f15.cell j
        have c13 := fun j => f13.cell j
        have c17 := fun j => hrj.cell j
        have g15 := f15.lt
        have g13 := f13.lt
        have g17 := hrj.lt
        have FIN := hideC (nextB EA.out.below (Nat.le_refl _) hbj)
        clear f15 f13 hrj hbj EV V6 r0' r1' r2' r3' ML0 ML1 lob' m1 o1 KS
        by_cases hkk : k = key
        · have hq : (k == key) = true := by simpa using hkk
          have e := LK.out.1 hkk
          subst e
          clear hkk
          go_wp2_with fail
          go_ret
          exact ⟨rfl, FIN.out⟩
        · have hq : (k == key) = false := by simpa using hkk
          have e := LK.out.2 hkk
          subst e
          go_wp2_with fail
          go_ret
          exact ⟨rfl, FIN.out⟩
set_option maxRecDepth 100000 in
theorem treesApart_lifted (os : Os) (started : os.Started) (H : Type) (enc : TypeId × Value → H) :
    ReturnsInHanded {} Tryz.checked os 4 .any (fun w args => (Rows.treesApartSpec.pre enc Tryz.prog Tryz.f4 [] false w args ∧ laidMetH Tryz.prog laidSz w) ∧ sizedMet enc Tryz.prog Tryz.f4 (OpenSpec.ofChange Rows.treesApartSpec) false w args)
      (Rows.treesApartSpec.post enc Tryz.prog Tryz.f4 false true false false) := by
  refine returnsInHanded_of_change_and (C := Tryz.checked) (X := fun w _ => laidMetH Tryz.prog laidSz w) (fun _ _ _ hh h => h.of_heap hh) own started (by kernel_rfl) Tryz.func4
    (ChangeSpec.witness_at (enc := enc) (C := Tryz.checked) (os := os) (X := fun w _ => laidMetH Tryz.prog laidSz w) false (World.laidAll Tryz.prog os laidSz) #[.slice none 0 0, .agg #[.int .i64 0, .int .i64 0, .int .i64 0, .int .i64 0], .int .i64 0] 8 (World.laidAll_os _ _ _) (by kernel_rfl) (by kernel_rfl) (by kernel_rfl) (by kernel_rfl) (by kernel_rfl)
      (by rw [MakeChecks.laidMetH_plain _ _ _ (by kernel_rfl)]; exact laidMet_laidAll _ (by kernel_rfl) (by kernel_rfl))) ?_
  intro W base args ds gs before hval0 hW _ hsz0 hL _
  have hval : ∀ (j : Nat) t v, Tryz.f4.params[j]? = some t → args[j]? = some v → Value.okWide Tryz.prog W .any base t v := hval0
  have hW' := hW
  obtain ⟨p, q, hA0, hV, rfl, hfz, hnd⟩ := hW
  have hA : DataW.TrodAll enc Tryz.prog W 0 (fun _ => true) true Tryz.f4.params.toList args.toList ds p := hA0
  have hsz : (DataW.weightsEach Tryz.prog (Tryz.f4.params.toList ++ Rows.treesApartSpec.plain.varTypes Tryz.prog) (ds ++ gs)).all (· ≤ reachBytes) = true := hsz0
  rw [Tryz.params4] at hA hval hsz
  obtain ⟨v0, vs0, d0, ds0, p0, q0, hargs, rfl, rfl, h0, r0⟩ := trodAll_cons hA
  obtain ⟨v1, vs1, d1, ds1, p1, q1, rfl, rfl, rfl, h1, r1⟩ := trodAll_cons r0
  obtain ⟨v2, vs2, d2, ds2, p2, q2, rfl, rfl, rfl, h2, r2⟩ := trodAll_cons r1
  obtain ⟨rfl, rfl, rfl⟩ := trodAll_nil r2
  obtain rfl : args = #[v0, v1, v2] := by cases args; simp_all
  obtain ⟨rfl, rfl⟩ := trodVars_none hV
  have k0 := h0
  have lt0 : ∀ x ∈ p0, x.block < W.heap.size := by obtain ⟨m, hm⟩ := k0; exact DataW.trod_lt m _ _ _ hm
  obtain ⟨A0, C0, xs0, rfl, hR0, hz0, hw0⟩ := open_rawsArg (hval 0 22 v0 rfl rfl) h0 (fun n hn => by
    have := List.all_eq_true.1 hsz n (DataW.weights_mem_each (j := 0) (t := 22) rfl rfl n hn)
    exact of_decide_eq_true this)
  have k1 := h1
  have lt1 : ∀ x ∈ p1, x.block < W.heap.size := by obtain ⟨m, hm⟩ := k1; exact DataW.trod_lt m _ _ _ hm
  obtain ⟨kk1, aa1, bb1, cc1, rfl, w1⟩ := open_raw rfl (hval 1 44 v1 rfl rfl) h1
  have k2 := h2
  have lt2 : ∀ x ∈ p2, x.block < W.heap.size := by obtain ⟨m, hm⟩ := k2; exact DataW.trod_lt m _ _ _ hm
  obtain ⟨a2, rfl, w2⟩ : ∃ n : Int, v2 = .int .i64 n ∧ (Lit.int .i64 n).wf = true := by
    obtain ⟨n, h, _, _, w⟩ := open_int Tryz.underlying3 (hval 2 3 v2 rfl rfl) h2; exact ⟨n, h, w⟩
  clear hA0 hval0 hsz0
  refine (treesApart_walk A0 C0 xs0 kk1 aa1 bb1 cc1 a2 W (szAt_of hL) hR0 hz0 hw0 w1 w2).mono fun e W' ⟨he, bel⟩ => ?_
  subst he
  exact ⟨_, rfl, _, _, _, [], _, [], hW', trodAll_mk1 (shut_bool Tryz.underlying4 _), (trodAll_cons_mk (Below.trod laidOut (by kernel_rfl) (of_decide_eq_true (by kernel_rfl)) k0 bel lt0) (trodAll_cons_mk (Below.trod laidOut (by kernel_rfl) (of_decide_eq_true (by kernel_rfl)) k1 bel lt1) (trodAll_cons_mk (Below.trod laidOut (by kernel_rfl) (of_decide_eq_true (by kernel_rfl)) k2 bel lt2) trodAll_mk0))), rfl, bel.frame _, fun h => by cases h⟩

theorem treesApart_holds : Rows.TreesApartSaid :=
  OpenClaim.holds_of_wide 4 Tryz.f4 rfl rfl rfl rfl rfl rfl rfl ⟨rfl, rfl, rfl, rfl, rfl⟩ rfl rfl rfl rfl rfl (by kernel_rfl) Tryz.func4 (by kernel_rfl)
    (of_decide_eq_true (by kernel_rfl)) (by unfold Func.isWrapper; first | (rw [if_pos (by decide +kernel)]; kernel_rfl) | (rw [if_neg (by decide +kernel)]; exact ⟨rfl, rfl⟩))
    (fun os started H enc _ => treesApart_lifted os started H enc)

theorem treesApartCard_holds : Rows.TreesApartCardSaid :=
  Claim7.holds_tied_plain_at .later [] [.data] true (true, "1cef10210324de520e3d696ebb71de6e12924da4b5318bc055a49091c079c855") false treesApart_holds (fun _ h => by cases h) (by kernel_rfl) (fun _ h => by cases h) treesApart_row_tie rfl ⟨rfl, rfl⟩ (by kernel_rfl) rfl
    (fun f fn hf hfn => by
      obtain rfl : f = 4 := Option.some.inj ((show Tryz.prog.funcNamed "winnower/winnowerkeep.TreesApart" = some 4 by kernel_rfl).symm.trans hf) |>.symm
      obtain rfl : fn = Tryz.f4 := (Option.some.inj (Tryz.func4.symm.trans hfn)).symm
      exact ⟨by kernel_rfl, fun j t ht => by
        rw [Tryz.params4] at ht
        have hm : t ∈ [22, 44, 3] := by simpa using Array.mem_of_getElem? ht
        have hall : ([22, 44, 3].all fun u => !Tryz.prog.wantsStandIn u) = true := by kernel_rfl
        exact (show Tryz.prog.wantsStandIn t = false by simpa using List.all_eq_true.1 hall t hm)⟩)
    (by kernel_rfl)
#print axioms treesApartCard_holds
end Go.Proofs.YtlojfgdpmaigmacGreatDoor

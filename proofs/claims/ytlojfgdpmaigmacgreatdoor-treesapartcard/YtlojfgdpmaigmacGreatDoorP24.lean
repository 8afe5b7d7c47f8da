/- The walk of Rollup of package winnowerkeep. -/
import Derived.Test.YtlojfgdpmaigmacGreatDoorKeepRoll
import Derived.Test.YtlojfgdpmaigmacGreatDoorP12
import Derived.Deep.RegionHeld3
import Derived.Test.YtlojfgdpmaigmacGreatDoorP19
import Derived.Test.YtlojfgdpmaigmacGreatDoorP07
namespace Go.Proofs.YtlojfgdpmaigmacGreatDoor
open Go.RowKit Plain

def i64B (z : Int) : Prop := -9223372036854775808 ≤ z ∧ z ≤ 9223372036854775807

theorem quo_i64 {b d : Int} (h : i64B b) (hd : 2 ≤ d) : i64B (b.tdiv d) := by
  obtain ⟨h1, h2⟩ := h
  have key : ∀ x : Int, 0 ≤ x → 0 ≤ x / d ∧ x / d ≤ x := fun x hx => ⟨Int.ediv_nonneg hx (by omega), Int.ediv_le_self d hx⟩
  rcases Int.lt_or_le b 0 with hb | hb
  · have e : b.tdiv d = -((-b).tdiv d) := by rw [Int.neg_tdiv, Int.neg_neg]
    have k := key (-b) (by omega)
    unfold i64B
    rw [e, Int.tdiv_eq_ediv_of_nonneg (by omega)]
    omega
  · have k := key b hb
    unfold i64B
    rw [Int.tdiv_eq_ediv_of_nonneg hb]
    omega

end Go.Proofs.YtlojfgdpmaigmacGreatDoor

/- Rollup of package winnowerkeep: one that may be, of four points at most. -/
namespace Go.Proofs.YtlojfgdpmaigmacGreatDoor
open Go.RowKit Plain

theorem mrg_small {r x : Ru} {i : Nat} (hr : Good r ∧ r.c = i + 1) (hx : Good x ∧ x.c = 1) (hi : i < 4) : Good (mrg r x).1 ∧ (mrg r x).1.c = (i + 1 : Nat) + 1 := by
  have hc : r.c + x.c ≤ 1073741824 := by omega
  rw [mrg_good hr.1 hx.1, if_pos hc]
  refine ⟨good_jn hr.1 hx.1 hc, ?_⟩
  show r.c + x.c = _
  omega

end Go.Proofs.YtlojfgdpmaigmacGreatDoor

/- Rollup of package winnowerkeep: which one it is. -/
namespace Go.Proofs.YtlojfgdpmaigmacGreatDoor
open Go.RowKit Plain

theorem one_goodK {t v : Int} (ht : 0 ≤ t ∧ t ≤ 1048575) (hv : -1000000 ≤ v ∧ v ≤ 1000000) : Good (one t v) := ⟨chk_one ht hv, by simp [one]⟩

/-- What is known of i points more than one. -/
def rollG (a b : Int) : Nat → Ru
  | 0 => one (pick a 5000) (pick b 200 - 100)
  | i + 1 => (mrg (rollG a b i) (one (pick a 5000 + i) (pick (b.tdiv ((i : Int) + 2)) 300 - 150))).1

theorem rollG_good (a b : Int) : ∀ i : Nat, i ≤ 4 → Good (rollG a b i) ∧ (rollG a b i).c = i + 1
  | 0, _ => by
    have p5 := pick_bd a (show (0 : Int) < 5000 by decide)
    have p2 := pick_bd b (show (0 : Int) < 200 by decide)
    exact ⟨one_goodK (by omega) (by omega), rfl⟩
  | i + 1, h => by
    have p5 := pick_bd a (show (0 : Int) < 5000 by decide)
    have p3 := pick_bd (b.tdiv ((i : Int) + 2)) (show (0 : Int) < 300 by decide)
    have ih := rollG_good a b i (by omega)
    have hx : Good (one (pick a 5000 + i) (pick (b.tdiv ((i : Int) + 2)) 300 - 150)) ∧ (one (pick a 5000 + i) (pick (b.tdiv ((i : Int) + 2)) 300 - 150)).c = 1 := ⟨one_goodK (by omega) (by omega), rfl⟩
    exact mrg_small ih hx (by omega)

theorem of_one (t v t' v' : Int) (w : World) (et : t = t') (ev : v = v') (ht : 0 ≤ t' ∧ t' ≤ 1048575) (hv : -1000000 ≤ v' ∧ v' ≤ 1000000) : Calls Tryz.prog 21 #[.int .i64 t, .int .i64 v] w fun e w' => ∃ (r : Ru) (c : Int), e = .returned (.tuple #[.agg #[.int .i64 r.c, .int .i64 r.s, .int .i64 r.lo, .int .i64 r.hi, .int .i64 r.t, .int .i64 r.l], .int .i64 c]) ∧ Below w.heap.size w w' ∧ Hid (r = one t' v') := by
  subst et ev
  exact (of_yes t v w ((inB_iff _ _ _).2 ht) ((inB_iff _ _ _).2 hv)).mono fun _ _ ⟨he, hb⟩ => ⟨one t v, 0, he, hb, rfl⟩

set_option maxRecDepth 20000 in
set_option maxHeartbeats 4000000 in
theorem rollup_is (k a b c : Int) (w : World) (ha : i64B a) (hb : i64B b) (hc : i64B c) :
    Calls Tryz.prog 14 #[.agg #[.int .i64 k, .int .i64 a, .int .i64 b, .int .i64 c]] w fun e w' => e = .returned (.agg #[.int .i64 (rollG a b (pick c 4).toNat).c, .int .i64 (rollG a b (pick c 4).toNat).s, .int .i64 (rollG a b (pick c 4).toNat).lo, .int .i64 (rollG a b (pick c 4).toNat).hi, .int .i64 (rollG a b (pick c 4).toNat).t, .int .i64 (rollG a b (pick c 4).toNat).l]) ∧ Below w.heap.size w w' := by
  have HS := hideC (RoB.start w k a b c)
  have p5 := pick_bd a (show (0 : Int) < 5000 by decide)
  have p2 := pick_bd b (show (0 : Int) < 200 by decide)
  have p4 := pick_bd c (show (0 : Int) < 4 by decide)
  have l0 : w.heap.size < w.heap.size + 1 + 1 := by omega
  have l1 : w.heap.size + 1 + 1 < w.heap.size + 1 + 1 + 1 := by omega
  have n1 : ¬ w.heap.size + 1 + 1 = w.heap.size := by omega
  have n2 : ¬ w.heap.size = w.heap.size + 1 + 1 := by omega
  go_enter Tryz.func14, Tryz.ntmps14
  go_upto_region 1 with fail
  go_cut [3, 4] (fun v3 v4 wc => ∃ ob r z, v3 = .pointer (some ⟨ob, 0, none⟩) ∧ v4 = .int .i64 z ∧ RoA w wc k a b c ob r ∧ Hid (r = rollG a b 0))
  case first =>
    go_region_held3 (fun w' => w'.cell? ⟨w.heap.size, 1, none⟩ = some (.int .i64 a) ∧ w'.cell? ⟨w.heap.size, 2, none⟩ = some (.int .i64 b)) (go_keep)
      (first
        | (go_at_call_of 9 a; refine (picked_any a 5000 _ ha.1 ha.2 (by decide) (by decide)).mono ?_; rintro e w1 ⟨rfl, hw1⟩; subst w1)
        | (go_at_call_of 9 b; refine (picked_any b 200 _ hb.1 hb.2 (by decide) (by decide)).mono ?_; rintro e w2 ⟨rfl, hw2⟩; subst w2)
        | (go_at_call 21; refine (of_one _ _ (pick a 5000) (pick b 200 - 100) _ (by first | rfl | (simp only [IntKind.wrap_i64]; omega)) (by first | rfl | (simp only [IntKind.wrap_i64]; omega)) (by omega) (by omega)).mono ?_; rintro e w3 ⟨r3, z3, rfl, hb3, HG3⟩; have T3 := (bcells (hb3.mono (show w.heap.size + 1 + 1 ≤ _ by first | simp | (simp; omega)))).1; have D3 := (bcells hb3).1 (w.heap.size + 1 + 1); have F3 := (bcells hb3).2 (w.heap.size + 1 + 1); have HB3 := hideC hb3))
    all_goals
      have HD : Hid (RoB w (((w.alloc (.cells #[.int .i64 k, .int .i64 a, .int .i64 b, .int .i64 c] 44)).alloc (.cells #[.int .i64 0, .int .i64 0, .int .i64 0, .int .i64 0, .int .i64 0, .int .i64 0] 38)).drew) k a b c) := HS.out.next ((Below.refl _ _).drew)
      go_wp2
      go_meet
      case rel =>
        first
          | exact ⟨_, r3, z3, rfl, rfl, HD.out.early HB3.out r3 (by simp), HG3⟩
          | exact ⟨_, r3, z3, rfl, rfl, (HD.out.next HB3.out).late r3, HG3⟩
  case rest =>
    obtain ⟨ob, r, z, rfl, rfl, hcut, HG⟩ := hcut
    have s3 : wc.cell? ⟨w.heap.size, 3, none⟩ = some (.int .i64 c) := hcut.bx.cell 3
    have hge := hcut.ge
    clear HS
    generalize hn : pick c 4 = n at *
    have HC := hideC hcut
    clear hcut
    go_wp2_with (first | (go_at_call 9; refine (picked_any c 4 _ hc.1 hc.2 (by decide) (by decide)).mono ?_; rintro e w1 ⟨rfl, hw1⟩; subst w1; rw [hn]))
    go_loopw [22] (fun v wr => ∃ (i : Nat) (r' : Ru), v = .int .i64 (i : Int) ∧ (i : Int) ≤ n ∧ RoA w wr k a b c ob r' ∧ Hid (r' = rollG a b i)) (fun v _ => n.toNat - (intOf v).toNat)
    case atStart => exact ⟨0, r, rfl, by omega, HC.out, HG⟩
    case round =>
      obtain ⟨i, r', rfl, hin, hro, HGr⟩ := hrel
      have s1 : wr.cell? ⟨w.heap.size, 1, none⟩ = some (.int .i64 a) := hro.bx.cell 1
      have s2 : wr.cell? ⟨w.heap.size, 2, none⟩ = some (.int .i64 b) := hro.bx.cell 2
      have lb := hro.bx.lt
      have lo := hro.out.lt
      by_cases hlt : (i : Int) < n
      · have m1 : wr.heap.size < wr.heap.size + 1 := by omega
        have m2 : ¬ wr.heap.size = w.heap.size := by omega
        have m3 : ¬ w.heap.size = wr.heap.size := by omega
        have q1 : IntKind.i64.wrap ((i : Int) + 2) = (i : Int) + 2 := by rw [IntKind.wrap_i64]; omega
        have q2 : ¬ (i : Int) + 2 = 0 := by omega
        obtain ⟨d, hd⟩ : ∃ d, b.tdiv ((i : Int) + 2) = d := ⟨_, rfl⟩
        have hdB : i64B d := hd ▸ quo_i64 hb (by omega)
        have pd := pick_bd d (show (0 : Int) < 300 by decide)
        have HDD := hideC hd
        have q3 : IntKind.i64.wrap d = d := by have := hdB.1; have := hdB.2; rw [IntKind.wrap_i64]; omega
        have HRO := hideC hro
        clear hro HC s3
        go_upto_region 5 with fail
        go_cut [6, 7, 22] from 22 to 47 (fun v6 v7 v22 wd => ∃ xb x z', v6 = .pointer (some ⟨xb, 0, none⟩) ∧ v7 = .int .i64 z' ∧ v22 = .int .i64 (i : Int) ∧ RoC w wd k a b c ob xb r' x ∧ Hid (x = one (pick a 5000 + (i : Int)) (pick d 300 - 150)))
        case first =>
          go_region_held3 (fun w' => w'.cell? ⟨w.heap.size, 1, none⟩ = some (.int .i64 a) ∧ w'.cell? ⟨w.heap.size, 2, none⟩ = some (.int .i64 b)) (go_keep)
            (first
              | (go_at_call_of 9 a; refine (picked_any a 5000 _ ha.1 ha.2 (by decide) (by decide)).mono ?_; rintro e w1 ⟨rfl, hw1⟩; subst w1)
              | (go_at_call_of 9 d; refine (picked_any d 300 _ hdB.1 hdB.2 (by decide) (by decide)).mono ?_; rintro e w2 ⟨rfl, hw2⟩; subst w2)
              | (go_at_call 21; refine (of_one _ _ (pick a 5000 + (i : Int)) (pick d 300 - 150) _ (by first | rfl | (simp only [IntKind.wrap_i64]; omega)) (by first | rfl | (simp only [IntKind.wrap_i64]; omega)) (by omega) (by omega)).mono ?_; rintro e w3 ⟨r3, z3, rfl, hb3, HG3⟩; have T3 := (bcells (hb3.mono (show wr.heap.size ≤ _ by first | simp | (simp; omega)))).1; have D3 := (bcells hb3).1 wr.heap.size; have F3 := (bcells hb3).2 wr.heap.size; have HB3 := hideC hb3))
          all_goals
            have HD : Hid (RoA w wr.drew k a b c ob r') := HRO.out.next ((Below.refl _ _).drew)
            go_wp2
            go_meet
            case rel =>
              first
                | exact ⟨_, r3, z3, rfl, rfl, rfl, HD.out.early HB3.out r3 (by simp), HG3⟩
                | exact ⟨_, r3, z3, rfl, rfl, rfl, (HD.out.next HB3.out).late r3, HG3⟩
        case rest =>
          obtain ⟨xb, x, z', rfl, rfl, rfl, hcut, HGx⟩ := hcut
          have HGm : Hid ((mrg r' x).1 = rollG a b (i + 1)) := by show _ = _; rw [HGr.out, HGx.out, ← HDD.out]; rfl
          have o1 := fun j => hcut.roa.out.cell j
          have x1 := fun j => hcut.bx.cell j
          simp only [ruV] at o1 x1
          have HC := hideC hcut
          obtain ⟨m, hm⟩ : ∃ m, mrg r' x = m := ⟨_, rfl⟩
          have con := hideC fun W => merge_any r' x W
          rw [hm] at con HGm
          clear hcut HRO hm s1 s2
          go_wp2_with (first | (go_at_call 16; refine (con.out _).mono ?_; rintro e w5 ⟨rfl, hb5⟩; have H5 := hideC (HC.out.roa.next hb5); have o5 := fun j => H5.out.out.cell j; simp only [ruV] at o5; have f5 := fun j => H5.out.out.frozen j; clear hb5 o1 x1))
          go_roundw
          case rel =>
            go_light
            exact ⟨i + 1, m.1, by go_num, by omega, H5.out.turn, HGm⟩
          case measure => simp [intOf]; omega
      · have o1 := fun j => hro.out.cell j
        have r1 := fun j => hro.res.cell j
        have rf := fun j => hro.res.frozen j
        simp only [ruV, zro] at o1 r1
        have HRO := hideC hro
        have hni : ¬ ((i : Int) < n) := hlt
        clear hro HC s3 s1 s2
        go_wp2
        exact bodyPost_ret (v := .agg #[.int .i64 r'.c, .int .i64 r'.s, .int .i64 r'.lo, .int .i64 r'.hi, .int .i64 r'.t, .int .i64 r'.l]) (by simp [results, Tryz.results14, go_sem, r1]) rfl ⟨by rw [HGr.out, show i = n.toNat by omega], setR_below HRO.out.below (by omega) r'⟩

end Go.Proofs.YtlojfgdpmaigmacGreatDoor

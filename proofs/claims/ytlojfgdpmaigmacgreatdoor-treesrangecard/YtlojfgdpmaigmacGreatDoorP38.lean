/- Rollup of package winnowerkeep: some rollup. -/
import Derived.Test.YtlojfgdpmaigmacGreatDoorP27
import Derived.Test.YtlojfgdpmaigmacGreatDoorP03
import Derived.Test.YtlojfgdpmaigmacGreatDoorP02
import Derived.Deep.DeepCutAuto
import Derived.Test.YtlojfgdpmaigmacGreatDoorP12
import Derived.Deep.RegionHeld3
import Derived.Test.YtlojfgdpmaigmacGreatDoorP09
namespace Go.Proofs.YtlojfgdpmaigmacGreatDoor
open Go.RowKit Plain

theorem of_some (t v : Int) (w : World) : Calls Tryz.prog 21 #[.int .i64 t, .int .i64 v] w fun e w' => ∃ (r : Ru) (c : Int), e = .returned (.tuple #[.agg #[.int .i64 r.c, .int .i64 r.s, .int .i64 r.lo, .int .i64 r.hi, .int .i64 r.t, .int .i64 r.l], .int .i64 c]) ∧ Below w.heap.size w w' := by
  cases h1 : inB t 0 1048575 with
  | false => exact (of_no1 t v w h1).mono fun e w' ⟨he, hb⟩ => ⟨zro, 2, he, hb⟩
  | true =>
    cases h2 : inB v (-1000000) 1000000 with
    | false => exact (of_no2 t v w h1 h2).mono fun e w' ⟨he, hb⟩ => ⟨zro, 2, he, hb⟩
    | true => exact (of_yes t v w h1 h2).mono fun e w' ⟨he, hb⟩ => ⟨⟨1, v, v, v, t, v⟩, 0, he, hb⟩

/-- On the way: the boxes of the raw thing, of the answer, and of what is out so far. -/
structure RoA (w wr : World) (k a b c : Int) (ob : Nat) (r : Ru) : Prop where
  below : Below w.heap.size w wr
  bx : RowL wr w.heap.size 44 [.int .i64 k, .int .i64 a, .int .i64 b, .int .i64 c]
  res : RowL wr (w.heap.size + 1) 38 (ruV zro)
  out : RowL wr ob 38 (ruV r)
  ge : w.heap.size + 2 ≤ ob

theorem RoA.next {w wr w' : World} {k a b c : Int} {ob : Nat} {r : Ru} (h : RoA w wr k a b c ob r) (hb : Below wr.heap.size wr w') : RoA w w' k a b c ob r :=
  ⟨nextB h.below (Nat.le_refl _) hb, h.bx.below hb h.bx.lt, h.res.below hb h.res.lt, h.out.below hb h.out.lt, h.ge⟩

theorem setR_block (w : World) (g : Nat) (a b c d e f : Value) {k : Nat} (hk : k ≠ g) : ((((((w.setCell ⟨g, 0, none⟩ a).setCell ⟨g, 1, none⟩ b).setCell ⟨g, 2, none⟩ c).setCell ⟨g, 3, none⟩ d).setCell ⟨g, 4, none⟩ e).setCell ⟨g, 5, none⟩ f).heap[k]? = w.heap[k]? := by
  simp only [Below.heap_setCell _ _ _ _ (show k ≠ (⟨g, _, none⟩ : Addr).block from hk)]

def setR (w : World) (g : Nat) (r : Ru) : World := (((((w.setCell ⟨g, 0, none⟩ (.int .i64 r.c)).setCell ⟨g, 1, none⟩ (.int .i64 r.s)).setCell ⟨g, 2, none⟩ (.int .i64 r.lo)).setCell ⟨g, 3, none⟩ (.int .i64 r.hi)).setCell ⟨g, 4, none⟩ (.int .i64 r.t)).setCell ⟨g, 5, none⟩ (.int .i64 r.l)

theorem setR_row {w : World} {g : Nat} {r r' : Ru} (h : RowL w g 38 (ruV r)) : RowL (setR w g r') g 38 (ruV r') :=
  (((((h.set 0 _).set 1 _).set 2 _).set 3 _).set 4 _).set 5 _

theorem setR_below {B : Nat} {w wr : World} (h : Below B w wr) {g : Nat} (hg : B ≤ g) (r : Ru) : Below B w (setR wr g r) :=
  (((((h.setCell (p := ⟨g, 0, none⟩) hg _).setCell (p := ⟨g, 1, none⟩) hg _).setCell (p := ⟨g, 2, none⟩) hg _).setCell (p := ⟨g, 3, none⟩) hg _).setCell (p := ⟨g, 4, none⟩) hg _).setCell (p := ⟨g, 5, none⟩) hg _

theorem RoA.turn {w wr : World} {k a b c : Int} {ob : Nat} {r r' : Ru} (h : RoA w wr k a b c ob r) : RoA w (setR wr ob r') k a b c ob r' := by
  have hg := h.ge
  exact ⟨setR_below h.below (by omega) _, h.bx.of_block (setR_block _ _ _ _ _ _ _ _ (by omega)), h.res.of_block (setR_block _ _ _ _ _ _ _ _ (by omega)), setR_row h.out, hg⟩

/-- The two boxes that stand first. -/
structure RoB (w wr : World) (k a b c : Int) : Prop where
  below : Below w.heap.size w wr
  bx : RowL wr w.heap.size 44 [.int .i64 k, .int .i64 a, .int .i64 b, .int .i64 c]
  res : RowL wr (w.heap.size + 1) 38 (ruV zro)

theorem RoB.start (w : World) (k a b c : Int) : RoB w ((w.alloc (.cells #[.int .i64 k, .int .i64 a, .int .i64 b, .int .i64 c] 44)).alloc (.cells #[.int .i64 0, .int .i64 0, .int .i64 0, .int .i64 0, .int .i64 0, .int .i64 0] 38)) k a b c := by
  have s1 : (w.alloc (.cells #[.int .i64 k, .int .i64 a, .int .i64 b, .int .i64 c] 44)).heap.size = w.heap.size + 1 := by simp
  have r0 : RowL (w.alloc (.cells #[.int .i64 k, .int .i64 a, .int .i64 b, .int .i64 c] 44)) w.heap.size 44 [.int .i64 k, .int .i64 a, .int .i64 b, .int .i64 c] := rowL_alloc w _ _
  have r1 := rowL_alloc (w.alloc (.cells #[.int .i64 k, .int .i64 a, .int .i64 b, .int .i64 c] 44)) (ruV zro) 38
  rw [s1] at r1
  exact ⟨((Below.refl _ _).alloc (Nat.le_refl _) _).alloc (by omega) _, r0.of_block (Below.heap_alloc _ _ _ (by omega)), r1⟩

theorem RoB.next {w wr w' : World} {k a b c : Int} (h : RoB w wr k a b c) (hb : Below wr.heap.size wr w') : RoB w w' k a b c :=
  ⟨nextB h.below (Nat.le_refl _) hb, h.bx.below hb h.bx.lt, h.res.below hb h.res.lt⟩

/-- Made behind the call .. -/
theorem RoB.late {w wr : World} {k a b c : Int} (h : RoB w wr k a b c) (r : Ru) : RoA w (wr.alloc (.cells (ruV r).toArray 38)) k a b c wr.heap.size r := by
  have h1 := h.next ((Below.refl _ _).alloc (Nat.le_refl _) (.cells (ruV r).toArray 38))
  exact ⟨h1.below, h1.bx, h1.res, rowL_alloc wr _ _, by have := h.res.lt; omega⟩

/-- .. or ahead of it. -/
theorem RoB.early {w wr w1 : World} {k a b c : Int} {ob : Nat} (h : RoB w wr k a b c) (hb : Below (wr.alloc (.cells (ruV zro).toArray 38)).heap.size (wr.alloc (.cells (ruV zro).toArray 38)) w1) (r : Ru) (e : wr.heap.size = ob) : RoA w (setR w1 ob r) k a b c ob r := by
  subst e
  exact ((h.late zro).next hb).turn

/-- In a round: what is out so far, and one more. -/
structure RoC (w wr : World) (k a b c : Int) (ob xb : Nat) (r x : Ru) : Prop where
  roa : RoA w wr k a b c ob r
  bx : RowL wr xb 38 (ruV x)
  gt : ob < xb

theorem RoA.late {w wr : World} {k a b c : Int} {ob : Nat} {r : Ru} (h : RoA w wr k a b c ob r) (x : Ru) : RoC w (wr.alloc (.cells (ruV x).toArray 38)) k a b c ob wr.heap.size r x :=
  ⟨h.next ((Below.refl _ _).alloc (Nat.le_refl _) _), rowL_alloc wr _ _, h.out.lt⟩

theorem RoA.early {w wr w1 : World} {k a b c : Int} {ob xb : Nat} {r : Ru} (h : RoA w wr k a b c ob r) (hb : Below (wr.alloc (.cells (ruV zro).toArray 38)).heap.size (wr.alloc (.cells (ruV zro).toArray 38)) w1) (x : Ru) (e : wr.heap.size = xb) : RoC w (setR w1 xb x) k a b c ob xb r x := by
  subst e
  have h1 := (h.late zro).roa.next hb
  have l1 := h.out.lt
  have hr : RowL w1 wr.heap.size 38 (ruV zro) := (rowL_alloc wr _ _).below hb (by simp)
  have hg := h.ge
  refine ⟨⟨setR_below h1.below (by omega) _, h1.bx.of_block (setR_block _ _ _ _ _ _ _ _ (by omega)), h1.res.of_block (setR_block _ _ _ _ _ _ _ _ (by omega)), h1.out.of_block (setR_block _ _ _ _ _ _ _ _ (by omega)), hg⟩, setR_row hr, l1⟩

end Go.Proofs.YtlojfgdpmaigmacGreatDoor

/- The walk of Rollup of package winnowerkeep. -/
namespace Go.Proofs.YtlojfgdpmaigmacGreatDoor
open Go.RowKit Plain

def i64B (z : Int) : Prop := -9223372036854775808 ≤ z ∧ z ≤ 9223372036854775807

theorem quo_i64 {b d : Int} (h : i64B b) (hd : 2 ≤ d) : i64B (b.tdiv d) := by
  obtain ⟨h1, h2⟩ := h
  have key : ∀ x : Int, 0 ≤ x → 0 ≤ x / d ∧ x / d ≤ x := fun x hx => ⟨Int.ediv_nonneg hx (by omega), Int.ediv_le_self d hx⟩
  rcases Int.lt_or_le b 0 with hb | hb
  · have e : b.tdiv d = -((-b).tdiv d) := by rw [Int.neg_tdiv, Int.neg_neg]
    have k := key (-b) (by omega)
    unfold i64B
    rw [e, Int.tdiv_eq_ediv_of_nonneg (by omega)]
    omega
  · have k := key b hb
    unfold i64B
    rw [Int.tdiv_eq_ediv_of_nonneg hb]
    omega

set_option maxRecDepth 20000 in
set_option maxHeartbeats 4000000 in
theorem rollup_any (k a b c : Int) (w : World) (ha : i64B a) (hb : i64B b) (hc : i64B c) :
    Calls Tryz.prog 14 #[.agg #[.int .i64 k, .int .i64 a, .int .i64 b, .int .i64 c]] w fun e w' => ∃ r : Ru, e = .returned (.agg #[.int .i64 r.c, .int .i64 r.s, .int .i64 r.lo, .int .i64 r.hi, .int .i64 r.t, .int .i64 r.l]) ∧ Below w.heap.size w w' := by
  have HS := hideC (RoB.start w k a b c)
  have p5 := pick_bd a (show (0 : Int) < 5000 by decide)
  have p2 := pick_bd b (show (0 : Int) < 200 by decide)
  have p4 := pick_bd c (show (0 : Int) < 4 by decide)
  have l0 : w.heap.size < w.heap.size + 1 + 1 := by omega
  have l1 : w.heap.size + 1 + 1 < w.heap.size + 1 + 1 + 1 := by omega
  have n1 : ¬ w.heap.size + 1 + 1 = w.heap.size := by omega
  have n2 : ¬ w.heap.size = w.heap.size + 1 + 1 := by omega
  go_enter Tryz.func14, Tryz.ntmps14
  go_upto_region 1 with fail
  go_cut [3, 4] (fun v3 v4 wc => ∃ ob r z, v3 = .pointer (some ⟨ob, 0, none⟩) ∧ v4 = .int .i64 z ∧ RoA w wc k a b c ob r)
  case first =>
    go_region_held3 (fun w' => w'.cell? ⟨w.heap.size, 1, none⟩ = some (.int .i64 a) ∧ w'.cell? ⟨w.heap.size, 2, none⟩ = some (.int .i64 b)) (go_keep)
      (first
        | (go_at_call_of 9 a; refine (picked_any a 5000 _ ha.1 ha.2 (by decide) (by decide)).mono ?_; rintro e w1 ⟨rfl, hw1⟩; subst w1)
        | (go_at_call_of 9 b; refine (picked_any b 200 _ hb.1 hb.2 (by decide) (by decide)).mono ?_; rintro e w2 ⟨rfl, hw2⟩; subst w2)
        | (go_at_call 21; refine (of_some _ _ _).mono ?_; rintro e w3 ⟨r3, z3, rfl, hb3⟩; have T3 := (bcells (hb3.mono (show w.heap.size + 1 + 1 ≤ _ by first | simp | (simp; omega)))).1; have D3 := (bcells hb3).1 (w.heap.size + 1 + 1); have F3 := (bcells hb3).2 (w.heap.size + 1 + 1); have HB3 := hideC hb3))
    all_goals
      have HD : Hid (RoB w (((w.alloc (.cells #[.int .i64 k, .int .i64 a, .int .i64 b, .int .i64 c] 44)).alloc (.cells #[.int .i64 0, .int .i64 0, .int .i64 0, .int .i64 0, .int .i64 0, .int .i64 0] 38)).drew) k a b c) := HS.out.next ((Below.refl _ _).drew)
      go_wp2
      go_meet
      case rel =>
        first
          | exact ⟨_, r3, z3, rfl, rfl, HD.out.early HB3.out r3 (by simp)⟩
          | exact ⟨_, r3, z3, rfl, rfl, (HD.out.next HB3.out).late r3⟩
  case rest =>
    obtain ⟨ob, r, z, rfl, rfl, hcut⟩ := hcut
    have s3 : wc.cell? ⟨w.heap.size, 3, none⟩ = some (.int .i64 c) := hcut.bx.cell 3
    have hge := hcut.ge
    clear HS
    generalize hn : pick c 4 = n at *
    have HC := hideC hcut
    clear hcut
    go_wp2_with (first | (go_at_call 9; refine (picked_any c 4 _ hc.1 hc.2 (by decide) (by decide)).mono ?_; rintro e w1 ⟨rfl, hw1⟩; subst w1; rw [hn]))
    go_loopw [22] (fun v wr => ∃ (i : Nat) (r' : Ru), v = .int .i64 (i : Int) ∧ (i : Int) ≤ n ∧ RoA w wr k a b c ob r') (fun v _ => n.toNat - (intOf v).toNat)
    case atStart => exact ⟨0, r, rfl, by omega, HC.out⟩
    case round =>
      obtain ⟨i, r', rfl, hin, hro⟩ := hrel
      have s1 : wr.cell? ⟨w.heap.size, 1, none⟩ = some (.int .i64 a) := hro.bx.cell 1
      have s2 : wr.cell? ⟨w.heap.size, 2, none⟩ = some (.int .i64 b) := hro.bx.cell 2
      have lb := hro.bx.lt
      have lo := hro.out.lt
      by_cases hlt : (i : Int) < n
      · have m1 : wr.heap.size < wr.heap.size + 1 := by omega
        have m2 : ¬ wr.heap.size = w.heap.size := by omega
        have m3 : ¬ w.heap.size = wr.heap.size := by omega
        have q1 : IntKind.i64.wrap ((i : Int) + 2) = (i : Int) + 2 := by rw [IntKind.wrap_i64]; omega
        have q2 : ¬ (i : Int) + 2 = 0 := by omega
        obtain ⟨d, hd⟩ : ∃ d, b.tdiv ((i : Int) + 2) = d := ⟨_, rfl⟩
        have hdB : i64B d := hd ▸ quo_i64 hb (by omega)
        have q3 : IntKind.i64.wrap d = d := by have := hdB.1; have := hdB.2; rw [IntKind.wrap_i64]; omega
        have HRO := hideC hro
        clear hro HC s3
        go_upto_region 5 with fail
        go_cut [6, 7, 22] from 22 to 47 (fun v6 v7 v22 wd => ∃ xb x z', v6 = .pointer (some ⟨xb, 0, none⟩) ∧ v7 = .int .i64 z' ∧ v22 = .int .i64 (i : Int) ∧ RoC w wd k a b c ob xb r' x)
        case first =>
          go_region_held3 (fun w' => w'.cell? ⟨w.heap.size, 1, none⟩ = some (.int .i64 a) ∧ w'.cell? ⟨w.heap.size, 2, none⟩ = some (.int .i64 b)) (go_keep)
            (first
              | (go_at_call_of 9 a; refine (picked_any a 5000 _ ha.1 ha.2 (by decide) (by decide)).mono ?_; rintro e w1 ⟨rfl, hw1⟩; subst w1)
              | (go_at_call_of 9 d; refine (picked_any d 300 _ hdB.1 hdB.2 (by decide) (by decide)).mono ?_; rintro e w2 ⟨rfl, hw2⟩; subst w2)
              | (go_at_call 21; refine (of_some _ _ _).mono ?_; rintro e w3 ⟨r3, z3, rfl, hb3⟩; have T3 := (bcells (hb3.mono (show wr.heap.size ≤ _ by first | simp | (simp; omega)))).1; have D3 := (bcells hb3).1 wr.heap.size; have F3 := (bcells hb3).2 wr.heap.size; have HB3 := hideC hb3))
          all_goals
            have HD : Hid (RoA w wr.drew k a b c ob r') := HRO.out.next ((Below.refl _ _).drew)
            go_wp2
            go_meet
            case rel =>
              first
                | exact ⟨_, r3, z3, rfl, rfl, rfl, HD.out.early HB3.out r3 (by simp)⟩
                | exact ⟨_, r3, z3, rfl, rfl, rfl, (HD.out.next HB3.out).late r3⟩
        case rest =>
          obtain ⟨xb, x, z', rfl, rfl, rfl, hcut⟩ := hcut
          have o1 := fun j => hcut.roa.out.cell j
          have x1 := fun j => hcut.bx.cell j
          simp only [ruV] at o1 x1
          have HC := hideC hcut
          obtain ⟨m, hm⟩ : ∃ m, mrg r' x = m := ⟨_, rfl⟩
          have con := hideC fun W => merge_any r' x W
          rw [hm] at con
          clear hcut HRO hm s1 s2
          go_wp2_with (first | (go_at_call 16; refine (con.out _).mono ?_; rintro e w5 ⟨rfl, hb5⟩; have H5 := hideC (HC.out.roa.next hb5); have o5 := fun j => H5.out.out.cell j; simp only [ruV] at o5; have f5 := fun j => H5.out.out.frozen j; clear hb5 o1 x1))
          go_roundw
          case rel =>
            go_light
            exact ⟨i + 1, m.1, by go_num, by omega, H5.out.turn⟩
          case measure => simp [intOf]; omega
      · have o1 := fun j => hro.out.cell j
        have r1 := fun j => hro.res.cell j
        have rf := fun j => hro.res.frozen j
        simp only [ruV, zro] at o1 r1
        have HRO := hideC hro
        have hni : ¬ ((i : Int) < n) := hlt
        clear hro HC s3 s1 s2
        go_wp2
        exact bodyPost_ret (v := .agg #[.int .i64 r'.c, .int .i64 r'.s, .int .i64 r'.lo, .int .i64 r'.hi, .int .i64 r'.t, .int .i64 r'.l]) (by simp [results, Tryz.results14, go_sem, r1]) rfl ⟨⟨r', rfl⟩, setR_below HRO.out.below (by omega) r'⟩

end Go.Proofs.YtlojfgdpmaigmacGreatDoor

/- Raw things in a row: four numbers each. -/
namespace Go.Proofs.YtlojfgdpmaigmacGreatDoor
open Go.ChangeShapes Go.WideShapes Go.ChangeAt Go.RowKit Go.Deep Plain

structure Rw where
  k : Int
  a : Int
  b : Int
  c : Int
deriving Inhabited

def Rw.vals (x : Rw) : List Value := [.int .i64 x.k, .int .i64 x.a, .int .i64 x.b, .int .i64 x.c]
def Rw.wf (x : Rw) : Prop := i64B x.k ∧ i64B x.a ∧ i64B x.b ∧ i64B x.c
def flatR : List Rw → List Value
  | [] => []
  | x :: r => x.vals ++ flatR r

theorem flatR_length : ∀ xs : List Rw, (flatR xs).length = xs.length * 4
  | [] => rfl
  | x :: r => by simp [flatR, Rw.vals, flatR_length r]; omega

theorem flatR_get (xs : List Rw) (k j : Nat) (hk : k < xs.length) (hj : j < 4) : (flatR xs)[k * 4 + j]? = (xs[k]).vals[j]? := by
  induction xs generalizing k with
  | nil => simp at hk
  | cons x r ih =>
    cases k with
    | zero => simp only [flatR]; rw [List.getElem?_append_left (by simp [Rw.vals]; omega)]; simp
    | succ k =>
      simp only [flatR]
      rw [List.getElem?_append_right (by simp [Rw.vals]; omega)]
      have := ih k (by simpa using hk)
      simp only [Rw.vals, List.length_cons, List.length_nil] at *
      rw [show (k + 1) * 4 + j - (0 + 1 + 1 + 1 + 1) = k * 4 + j by omega]
      simpa using this

structure RwAt (w : World) (b o : Nat) (x : Rw) : Prop where
  c0 : w.cell? ⟨b, o, none⟩ = some (.int .i64 x.k)
  c1 : w.cell? ⟨b, o + 1, none⟩ = some (.int .i64 x.a)
  c2 : w.cell? ⟨b, o + 2, none⟩ = some (.int .i64 x.b)
  c3 : w.cell? ⟨b, o + 3, none⟩ = some (.int .i64 x.c)

theorem RowAt.rw4 {B : Nat} {w : World} {A : Option Addr} {xs : List Rw} (h : RowAt B w A (flatR xs)) {k : Nat} (hk : k < xs.length) :
    ∃ b o, A = some ⟨b, o, none⟩ ∧ b < B ∧ RwAt w b (o + k * 4) xs[k] := by
  rcases h with h | ⟨b, o, hA, hlt, hc⟩
  · have := flatR_length xs; rw [h] at this; simp at this; omega
  · refine ⟨b, o, hA, hlt, ?_⟩
    have g : ∀ j, j < 4 → ∀ u, (xs[k]).vals[j]? = some u → w.cell? ⟨b, o + k * 4 + j, none⟩ = some u := fun j hj u hu => by
      have := hc (k * 4 + j) u (by rw [flatR_get xs k j hk hj]; exact hu)
      rwa [← Nat.add_assoc] at this
    exact ⟨g 0 (by decide) _ rfl, g 1 (by decide) _ rfl, g 2 (by decide) _ rfl, g 3 (by decide) _ rfl⟩

theorem i64_wf {z : Int} (h : (Lit.int .i64 z).wf = true) : i64B z := by
  simp [Lit.wf, IntKind.min, IntKind.max, IntKind.signed, IntKind.bits] at h
  unfold i64B
  omega

theorem cellsRw : Tryz.prog.cellsOf 44 = 4 := by kernel_rfl
theorem bytesRw : Tryz.prog.bytesOf 44 = 32 := by kernel_rfl

section
variable {H : Type} {enc : TypeId × Value → H} {W : World} {held : Bool} {fuel : Nat} {spare : Nat → Bool}

set_option maxRecDepth 100000 in
theorem open_rw {cs : List Value} {x : DataW H × List MemPlace} (h : DataW.trod enc Tryz.prog W 0 spare held fuel 44 cs = some x) : ∃ y : Rw, cs = y.vals ∧ y.wf := by
  obtain ⟨xs, n, _, _, hl, hxl, hg⟩ := DataW.trod_struct Tryz.underlying44 h
  rw [cellsRw] at hl
  match cs, hl with
  | [v0, v1, v2, v3], _ =>
    match xs, hxl with
    | [y0, y1, y2, y3], _ =>
      obtain ⟨k, e0, _, w0⟩ := DataW.trod_int Tryz.underlying3 (hg 0 _ rfl)
      obtain ⟨a, e1, _, w1⟩ := DataW.trod_int Tryz.underlying3 (hg 1 _ rfl)
      obtain ⟨b, e2, _, w2⟩ := DataW.trod_int Tryz.underlying3 (hg 2 _ rfl)
      obtain ⟨c, e3, _, w3⟩ := DataW.trod_int Tryz.underlying3 (hg 3 _ rfl)
      simp [cellsInt] at e0 e1 e2 e3
      subst e0 e1 e2 e3
      exact ⟨⟨k, a, b, c⟩, rfl, i64_wf w0, i64_wf w1, i64_wf w2, i64_wf w3⟩

set_option maxRecDepth 100000 in
theorem open_raws {v : Value} {x : DataW H × List MemPlace} (h : DataW.trod enc Tryz.prog W 0 (fun _ => true) held fuel 22 [v] = some x) (hs : Sized 22 x.1) :
    ∃ A C xs, v = .slice A xs.length C ∧ RowAt W.heap.size W A (flatR xs) ∧ xs.length * 32 ≤ 140737488351232 ∧ ∀ y ∈ xs, y.wf := by
  rcases open_slice Tryz.underlying22 h with ⟨hv, _⟩ | ⟨a, len, cap, m, n, D, Pl, hv, _, hl, _, hm, hx, he⟩
  · simp at hv
    subst hv
    exact ⟨none, 0, [], rfl, .inl rfl, by simp, by simp⟩
  · simp at hv
    subst hv
    simp only [if_true] at hm
    subst hm
    obtain ⟨X, hX⟩ := choose_lt (α := Rw) (p := fun i y => W.cells? 0 (a.add (i * 4)) 4 = some y.vals ∧ y.wf) (n := len) (fun i hi => by
      obtain ⟨cs', h1, h2⟩ := he i (by omega)
      obtain ⟨y, rfl, hy⟩ := open_rw h2
      rw [cellsRw] at h1
      exact ⟨y, h1, hy⟩)
    have hwt : (len + (m - len)) * 32 ≤ 140737488351232 := by
      have := hs ((len + (m - len)) * Tryz.prog.bytesOf 44) (by rw [hx]; simp [DataW.weights, Tryz.underlying22])
      rwa [bytesRw] at this
    refine ⟨some a, m, (List.range len).map X, by simp, ?_, ?_, ?_⟩
    · refine row_of (by decide) (fun k => (X k).vals) _ (by rw [flatR_length]; simp) (fun k j hk hj => ?_) (fun i hi => (hX i hi).1)
      rw [flatR_get _ k j (by simpa using hk) hj]
      simp
    · simp only [List.length_map, List.length_range]; omega
    · intro y hy
      obtain ⟨i, hi, rfl⟩ := List.mem_map.1 hy
      exact (hX i (by simpa using hi)).2

end

set_option maxRecDepth 100000 in
theorem open_rawsArg {H : Type} {enc : TypeId × Value → H} {W : World} {held : Bool} {b0 : Nat} {r : Go.Reach} {v : Value} {d : DataW H} {p : List MemPlace} (hv : Value.okWide Tryz.prog W r b0 22 v) (h : DataW.Trod enc Tryz.prog W 0 (fun _ => true) held 22 v d p) (hs : Sized 22 d) :
    ∃ A C xs, v = .slice A xs.length C ∧ RowAt W.heap.size W A (flatR xs) ∧ xs.length * 32 ≤ 140737488351232 ∧ ∀ y ∈ xs, y.wf := by
  obtain ⟨a, len, cap, rfl⟩ := okWide_slice Tryz.underlying22 hv
  obtain ⟨fuel, hf⟩ := h
  exact open_raws hf hs

end Go.Proofs.YtlojfgdpmaigmacGreatDoor

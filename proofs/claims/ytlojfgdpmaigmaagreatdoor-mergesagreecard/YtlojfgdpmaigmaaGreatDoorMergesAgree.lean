/- For all raw numbers, it does not matter in what order package roll's Merge brings things together. No condition beside the table of sizes, which is tied to the program's text. -/
import Derived.Test.YtlojfgdpmaigmaaGreatDoorP52
import Derived.Test.YtlojfgdpmaigmaaGreatDoorP36
import Derived.Test.YtlojfgdpmaigmaaGreatDoorP37
import Derived.Test.YtlojfgdpmaigmaaGreatDoorLaidSz
import Derived.ChangeMaps5
namespace Go.Proofs.YtlojfgdpmaigmaaGreatDoor
open Go.ChangeShapes Go.WideShapes Go.ChangeAt Go.RowKit Plain Go.Shelf

theorem mrg_right {a : Ru} (h : Good a) : mrg a zro = (a, 0) := mrg_4 h.1 chk_zro h.2 rfl

theorem mrg_few {a b : Ru} (ha : Good a) (hb : Good b) (h : a.c + b.c ≤ 1000) : mrg a b = (jn a b, 0) ∧ Good (jn a b) ∧ (jn a b).c = a.c + b.c := by
  have hc : a.c + b.c ≤ 1073741824 := by omega
  exact ⟨by rw [mrg_good ha hb, if_pos hc], good_jn ha hb hc, rfl⟩

set_option maxRecDepth 20000 in
set_option maxHeartbeats 4000000 in
theorem agree_s (k0 a0 b0 c0 k1 a1 b1 c1 k2 a2 b2 c2 : Int) (w : World) (G : Ru → Prop)
    (TT : Hid (∀ W, Below w.heap.size w W → Calls Tryz.prog 4 #[] W fun e w' => e = .returned (.bool true) ∧ Below W.heap.size W w'))
    (RL0 : Hid (∀ W, Calls Tryz.prog 5 #[.agg #[.int .i64 k0, .int .i64 a0, .int .i64 b0, .int .i64 c0]] W fun e w' => ∃ r : Ru, e = .returned (.agg #[.int .i64 r.c, .int .i64 r.s, .int .i64 r.lo, .int .i64 r.hi, .int .i64 r.t, .int .i64 r.l]) ∧ Below W.heap.size W w' ∧ G r))
    (RL1 : Hid (∀ W, Calls Tryz.prog 5 #[.agg #[.int .i64 k1, .int .i64 a1, .int .i64 b1, .int .i64 c1]] W fun e w' => ∃ r : Ru, e = .returned (.agg #[.int .i64 r.c, .int .i64 r.s, .int .i64 r.lo, .int .i64 r.hi, .int .i64 r.t, .int .i64 r.l]) ∧ Below W.heap.size W w' ∧ G r))
    (RL2 : Hid (∀ W, Calls Tryz.prog 5 #[.agg #[.int .i64 k2, .int .i64 a2, .int .i64 b2, .int .i64 c2]] W fun e w' => ∃ r : Ru, e = .returned (.agg #[.int .i64 r.c, .int .i64 r.s, .int .i64 r.lo, .int .i64 r.hi, .int .i64 r.t, .int .i64 r.l]) ∧ Below W.heap.size W w' ∧ G r))
    (MM : Hid (∀ X Y Z, G X → G Y → G Z → ∃ M L N : Ru, (∀ W, Calls Tryz.prog 6 #[.agg #[.int .i64 X.c, .int .i64 X.s, .int .i64 X.lo, .int .i64 X.hi, .int .i64 X.t, .int .i64 X.l], .agg #[.int .i64 Y.c, .int .i64 Y.s, .int .i64 Y.lo, .int .i64 Y.hi, .int .i64 Y.t, .int .i64 Y.l]] W fun e w' => e = .returned (.tuple #[.agg #[.int .i64 M.c, .int .i64 M.s, .int .i64 M.lo, .int .i64 M.hi, .int .i64 M.t, .int .i64 M.l], .int .i64 0]) ∧ Below W.heap.size W w') ∧ (∀ W, Calls Tryz.prog 6 #[.agg #[.int .i64 Y.c, .int .i64 Y.s, .int .i64 Y.lo, .int .i64 Y.hi, .int .i64 Y.t, .int .i64 Y.l], .agg #[.int .i64 X.c, .int .i64 X.s, .int .i64 X.lo, .int .i64 X.hi, .int .i64 X.t, .int .i64 X.l]] W fun e w' => e = .returned (.tuple #[.agg #[.int .i64 M.c, .int .i64 M.s, .int .i64 M.lo, .int .i64 M.hi, .int .i64 M.t, .int .i64 M.l], .int .i64 0]) ∧ Below W.heap.size W w') ∧ (∀ W, Calls Tryz.prog 6 #[.agg #[.int .i64 M.c, .int .i64 M.s, .int .i64 M.lo, .int .i64 M.hi, .int .i64 M.t, .int .i64 M.l], .agg #[.int .i64 Z.c, .int .i64 Z.s, .int .i64 Z.lo, .int .i64 Z.hi, .int .i64 Z.t, .int .i64 Z.l]] W fun e w' => e = .returned (.tuple #[.agg #[.int .i64 L.c, .int .i64 L.s, .int .i64 L.lo, .int .i64 L.hi, .int .i64 L.t, .int .i64 L.l], .int .i64 0]) ∧ Below W.heap.size W w') ∧ (∀ W, Calls Tryz.prog 6 #[.agg #[.int .i64 Y.c, .int .i64 Y.s, .int .i64 Y.lo, .int .i64 Y.hi, .int .i64 Y.t, .int .i64 Y.l], .agg #[.int .i64 Z.c, .int .i64 Z.s, .int .i64 Z.lo, .int .i64 Z.hi, .int .i64 Z.t, .int .i64 Z.l]] W fun e w' => e = .returned (.tuple #[.agg #[.int .i64 N.c, .int .i64 N.s, .int .i64 N.lo, .int .i64 N.hi, .int .i64 N.t, .int .i64 N.l], .int .i64 0]) ∧ Below W.heap.size W w') ∧ (∀ W, Calls Tryz.prog 6 #[.agg #[.int .i64 X.c, .int .i64 X.s, .int .i64 X.lo, .int .i64 X.hi, .int .i64 X.t, .int .i64 X.l], .agg #[.int .i64 N.c, .int .i64 N.s, .int .i64 N.lo, .int .i64 N.hi, .int .i64 N.t, .int .i64 N.l]] W fun e w' => e = .returned (.tuple #[.agg #[.int .i64 L.c, .int .i64 L.s, .int .i64 L.lo, .int .i64 L.hi, .int .i64 L.t, .int .i64 L.l], .int .i64 0]) ∧ Below W.heap.size W w') ∧ (∀ W, Calls Tryz.prog 6 #[.agg #[.int .i64 X.c, .int .i64 X.s, .int .i64 X.lo, .int .i64 X.hi, .int .i64 X.t, .int .i64 X.l], .agg #[.int .i64 0, .int .i64 0, .int .i64 0, .int .i64 0, .int .i64 0, .int .i64 0]] W fun e w' => e = .returned (.tuple #[.agg #[.int .i64 X.c, .int .i64 X.s, .int .i64 X.lo, .int .i64 X.hi, .int .i64 X.t, .int .i64 X.l], .int .i64 0]) ∧ Below W.heap.size W w') ∧ ∀ W, Calls Tryz.prog 7 #[.agg #[.int .i64 L.c, .int .i64 L.s, .int .i64 L.lo, .int .i64 L.hi, .int .i64 L.t, .int .i64 L.l]] W fun e w' => e = .returned (.int .i64 0) ∧ Below W.heap.size W w')) :
    Calls Tryz.prog 3 #[.agg #[.int .i64 k0, .int .i64 a0, .int .i64 b0, .int .i64 c0], .agg #[.int .i64 k1, .int .i64 a1, .int .i64 b1, .int .i64 c1], .agg #[.int .i64 k2, .int .i64 a2, .int .i64 b2, .int .i64 c2]] w fun e w' => e = .returned (.bool true) ∧ Below w.heap.size w w' := by
  have HW := hideC (rows3 w [.int .i64 k0, .int .i64 a0, .int .i64 b0, .int .i64 c0] [.int .i64 k1, .int .i64 a1, .int .i64 b1, .int .i64 c1] [.int .i64 k2, .int .i64 a2, .int .i64 b2, .int .i64 c2] 23 23 23)
  go_enter Tryz.func3, Tryz.ntmps3
  have P4 : True := trivial
  go_wp2_with (first
    | (go_at_call 4; refine (TT.out _ HW.out.2.2.2).mono ?_; rintro e v0 ⟨rfl, hb⟩; have H0 := hideC (nextB HW.out.2.2.2 (Nat.le_refl _) hb); have A0 := hideC (HW.out.1.below hb HW.out.1.lt); have A1 := hideC (HW.out.2.1.below hb HW.out.2.1.lt); have A2 := hideC (HW.out.2.2.1.below hb HW.out.2.2.1.lt); have d0 := fun j => A0.out.cell j; clear hb)
    | (go_at_call 5; have tt := d0; clear tt; refine (RL0.out _).mono ?_; rintro e v1 ⟨X, rfl, hb, hX⟩; clear d0; have HB := hideC hb; have H1 := hideC (nextB H0.out (Nat.le_refl _) HB.out); replace A1 := hideC (A1.out.below HB.out A1.out.lt); replace A2 := hideC (A2.out.below HB.out A2.out.lt); have d1 := fun j => A1.out.cell j; have l1 := A1.out.lt; clear hb HB A0)
    | (go_at_call 5; have tt := d1; clear tt; refine (RL1.out _).mono ?_; rintro e v2 ⟨Y, rfl, hb, hY⟩; clear d1; have HB := hideC (nextB ((Below.refl _ _).alloc (Nat.le_refl _) _) (Nat.le_refl _) hb : Below v1.heap.size v1 v2); have H2 := hideC (nextB H1.out (Nat.le_refl _) HB.out); replace A2 := hideC (A2.out.below HB.out A2.out.lt); have B1 : Hid (RowL v2 v1.heap.size 26 (ruV X)) := (rowL_alloc v1 (ruV X) _).below hb (by simp); have d2 := fun j => A2.out.cell j; have l2 := A2.out.lt; clear hb HB A1)
    | (go_at_call 5; refine (RL2.out _).mono ?_; rintro e v3 ⟨Z, rfl, hb, hZ⟩; clear d2; have HB := hideC (nextB ((Below.refl _ _).alloc (Nat.le_refl _) _) (Nat.le_refl _) hb : Below v2.heap.size v2 v3); have H3 := hideC (nextB H2.out (Nat.le_refl _) HB.out); replace B1 := hideC (B1.out.below HB.out B1.out.lt); have B2 : Hid (RowL v3 v2.heap.size 26 (ruV Y)) := (rowL_alloc v2 (ruV Y) _).below hb (by simp); have e1 := fun j => B1.out.cell j; have m1 := B1.out.lt; simp only [ruV] at e1; have e2 := fun j => B2.out.cell j; have m2 := B2.out.lt; simp only [ruV] at e2; clear hb HB A2; obtain ⟨M, L, N, c1, c2, c3, c4, c5, c6, c7⟩ := MM.out X Y Z hX hY hZ; have C1 := hideC c1; have C2 := hideC c2; have C3 := hideC c3; have C4 := hideC c4; have C5 := hideC c5; have C6 := hideC c6; have C7 := hideC c7; clear c1 c2 c3 c4 c5 c6 c7 hX hY hZ)
    | (go_at_call 6; have tt := P4; clear tt; refine (C1.out _).mono ?_; rintro e v4 ⟨rfl, hb⟩; clear P4 e1 e2; have P5 : True := trivial; have HB := hideC (nextB ((Below.refl _ _).alloc (Nat.le_refl _) _) (Nat.le_refl _) hb : Below v3.heap.size v3 v4); have H4 := hideC (nextB H3.out (Nat.le_refl _) HB.out); replace B1 := hideC (B1.out.below HB.out B1.out.lt); replace B2 := hideC (B2.out.below HB.out B2.out.lt); have B3 : Hid (RowL v4 v3.heap.size 26 (ruV Z)) := (rowL_alloc v3 (ruV Z) _).below hb (by simp); have e1 := fun j => B1.out.cell j; have m1 := B1.out.lt; simp only [ruV] at e1; have e2 := fun j => B2.out.cell j; have m2 := B2.out.lt; simp only [ruV] at e2; clear hb HB)
    | (go_at_call 6; have tt := P5; clear tt; refine (C2.out _).mono ?_; rintro e v5 ⟨rfl, hb⟩; clear P5 e1 e2; have P6 : True := trivial; have HB := hideC (nextB ((Below.refl _ _).alloc (Nat.le_refl _) _) (Nat.le_refl _) hb : Below v4.heap.size v4 v5); have H5 := hideC (nextB H4.out (Nat.le_refl _) HB.out); replace B1 := hideC (B1.out.below HB.out B1.out.lt); replace B2 := hideC (B2.out.below HB.out B2.out.lt); replace B3 := hideC (B3.out.below HB.out B3.out.lt); have B4 : Hid (RowL v5 v4.heap.size 26 (ruV M)) := (rowL_alloc v4 (ruV M) _).below hb (by simp); have e3 := fun j => B3.out.cell j; have m3 := B3.out.lt; simp only [ruV] at e3; have e4 := fun j => B4.out.cell j; have m4 := B4.out.lt; simp only [ruV] at e4; clear hb HB)
    | (go_at_call 6; have tt := P6; clear tt; refine (C3.out _).mono ?_; rintro e v6 ⟨rfl, hb⟩; clear P6 e3 e4; have P7 : True := trivial; have HB := hideC (nextB ((Below.refl _ _).alloc (Nat.le_refl _) _) (Nat.le_refl _) hb : Below v5.heap.size v5 v6); have H6 := hideC (nextB H5.out (Nat.le_refl _) HB.out); replace B1 := hideC (B1.out.below HB.out B1.out.lt); replace B2 := hideC (B2.out.below HB.out B2.out.lt); replace B3 := hideC (B3.out.below HB.out B3.out.lt); replace B4 := hideC (B4.out.below HB.out B4.out.lt); have B5 : Hid (RowL v6 v5.heap.size 26 (ruV M)) := (rowL_alloc v5 (ruV M) _).below hb (by simp); have e2 := fun j => B2.out.cell j; have m2 := B2.out.lt; simp only [ruV] at e2; have e3 := fun j => B3.out.cell j; have m3 := B3.out.lt; simp only [ruV] at e3; clear hb HB)
    | (go_at_call 6; have tt := P7; clear tt; refine (C4.out _).mono ?_; rintro e v7 ⟨rfl, hb⟩; clear P7 e2 e3; have P8 : True := trivial; have HB := hideC (nextB ((Below.refl _ _).alloc (Nat.le_refl _) _) (Nat.le_refl _) hb : Below v6.heap.size v6 v7); have H7 := hideC (nextB H6.out (Nat.le_refl _) HB.out); replace B1 := hideC (B1.out.below HB.out B1.out.lt); replace B2 := hideC (B2.out.below HB.out B2.out.lt); replace B3 := hideC (B3.out.below HB.out B3.out.lt); replace B4 := hideC (B4.out.below HB.out B4.out.lt); replace B5 := hideC (B5.out.below HB.out B5.out.lt); have B6 : Hid (RowL v7 v6.heap.size 26 (ruV L)) := (rowL_alloc v6 (ruV L) _).below hb (by simp); have e1 := fun j => B1.out.cell j; have m1 := B1.out.lt; simp only [ruV] at e1; clear hb HB)
    | (go_at_call 6; have tt := P8; clear tt; refine (C5.out _).mono ?_; rintro e v8 ⟨rfl, hb⟩; clear P8 e1; have P9 : True := trivial; have HB := hideC (nextB ((Below.refl _ _).alloc (Nat.le_refl _) _) (Nat.le_refl _) hb : Below v7.heap.size v7 v8); have H8 := hideC (nextB H7.out (Nat.le_refl _) HB.out); replace B1 := hideC (B1.out.below HB.out B1.out.lt); replace B2 := hideC (B2.out.below HB.out B2.out.lt); replace B3 := hideC (B3.out.below HB.out B3.out.lt); replace B4 := hideC (B4.out.below HB.out B4.out.lt); replace B5 := hideC (B5.out.below HB.out B5.out.lt); replace B6 := hideC (B6.out.below HB.out B6.out.lt); have B7 : Hid (RowL v8 v7.heap.size 26 (ruV N)) := (rowL_alloc v7 (ruV N) _).below hb (by simp); have e1 := fun j => B1.out.cell j; have m1 := B1.out.lt; simp only [ruV] at e1; clear hb HB)
    | (go_at_call 6; have tt := P9; clear tt; refine (C6.out _).mono ?_; rintro e v9 ⟨rfl, hb⟩; clear P9 e1; have P10 : True := trivial; have HB := hideC (nextB ((Below.refl _ _).alloc (Nat.le_refl _) _) (Nat.le_refl _) hb : Below v8.heap.size v8 v9); have H9 := hideC (nextB H8.out (Nat.le_refl _) HB.out); replace B1 := hideC (B1.out.below HB.out B1.out.lt); replace B2 := hideC (B2.out.below HB.out B2.out.lt); replace B3 := hideC (B3.out.below HB.out B3.out.lt); replace B4 := hideC (B4.out.below HB.out B4.out.lt); replace B5 := hideC (B5.out.below HB.out B5.out.lt); replace B6 := hideC (B6.out.below HB.out B6.out.lt); replace B7 := hideC (B7.out.below HB.out B7.out.lt); have B8 : Hid (RowL v9 v8.heap.size 26 (ruV L)) := (rowL_alloc v8 (ruV L) _).below hb (by simp); have e1 := fun j => B1.out.cell j; have m1 := B1.out.lt; simp only [ruV] at e1; have e4 := fun j => B4.out.cell j; have m4 := B4.out.lt; simp only [ruV] at e4; have e5 := fun j => B5.out.cell j; have m5 := B5.out.lt; simp only [ruV] at e5; have e6 := fun j => B6.out.cell j; have m6 := B6.out.lt; simp only [ruV] at e6; have e8 := fun j => B8.out.cell j; have m8 := B8.out.lt; simp only [ruV] at e8; clear hb HB)
    | (go_at_call 7; refine (C7.out _).mono ?_; rintro e v10 ⟨rfl, hb⟩; have H10 := hideC (nextB (H9.out.alloc H9.out.size _) (Nat.le_refl _) hb); clear hb))
  go_ret
  exact ⟨rfl, H10.out⟩

def gd (r : Ru) : Prop := Good r ∧ r.c ≤ 4

theorem mergesAgree_walk (k0 a0 b0 c0 k1 a1 b1 c1 k2 a2 b2 c2 : Int) (w : World) (hZ : SzAt w) (h0 : i64B k0 ∧ i64B a0 ∧ i64B b0 ∧ i64B c0) (h1 : i64B k1 ∧ i64B a1 ∧ i64B b1 ∧ i64B c1) (h2 : i64B k2 ∧ i64B a2 ∧ i64B b2 ∧ i64B c2) :
    Calls Tryz.prog 3 #[.agg #[.int .i64 k0, .int .i64 a0, .int .i64 b0, .int .i64 c0], .agg #[.int .i64 k1, .int .i64 a1, .int .i64 b1, .int .i64 c1], .agg #[.int .i64 k2, .int .i64 a2, .int .i64 b2, .int .i64 c2]] w fun e w' => e = .returned (.bool true) ∧ Below w.heap.size w w' := by
  refine agree_s k0 a0 b0 c0 k1 a1 b1 c1 k2 a2 b2 c2 w gd (fun W hW => tells_any W (hZ.below hW)) (fun W => rollup_good k0 a0 b0 c0 W h0.2.1 h0.2.2.1 h0.2.2.2) (fun W => rollup_good k1 a1 b1 c1 W h1.2.1 h1.2.2.1 h1.2.2.2) (fun W => rollup_good k2 a2 b2 c2 W h2.2.1 h2.2.2.1 h2.2.2.2) (fun X Y Z hX hY hZ' => ?_)
  obtain ⟨e1, g1, n1⟩ := mrg_few hX.1 hY.1 (by have := hX.2; have := hY.2; omega)
  obtain ⟨e2, g2, n2⟩ := mrg_few hY.1 hX.1 (by have := hX.2; have := hY.2; omega)
  obtain ⟨e3, g3, n3⟩ := mrg_few g1 hZ'.1 (by have := hX.2; have := hY.2; have := hZ'.2; omega)
  obtain ⟨e4, g4, n4⟩ := mrg_few hY.1 hZ'.1 (by have := hY.2; have := hZ'.2; omega)
  obtain ⟨e5, g5, n5⟩ := mrg_few hX.1 g4 (by have := hX.2; have := hY.2; have := hZ'.2; omega)
  have e6 := mrg_right hX.1
  rw [jn_comm Y X] at e2
  rw [← jn_assoc] at e5
  refine ⟨jn X Y, jn (jn X Y) Z, jn Y Z, fun W => ?_, fun W => ?_, fun W => ?_, fun W => ?_, fun W => ?_, fun W => ?_, fun W => ?_⟩
  · have k := merge_any X Y W; rw [e1] at k; exact k
  · have k := merge_any Y X W; rw [e2] at k; exact k
  · have k := merge_any (jn X Y) Z W; rw [e3] at k; exact k
  · have k := merge_any Y Z W; rw [e4] at k; exact k
  · have k := merge_any X (jn Y Z) W; rw [e5] at k; exact k
  · have k := merge_any X zro W; rw [e6] at k; exact k
  · have k := check_any (jn (jn X Y) Z).c (jn (jn X Y) Z).s (jn (jn X Y) Z).lo (jn (jn X Y) Z).hi (jn (jn X Y) Z).t (jn (jn X Y) Z).l W
    rw [show checkC (jn (jn X Y) Z).c (jn (jn X Y) Z).s (jn (jn X Y) Z).lo (jn (jn X Y) Z).hi (jn (jn X Y) Z).t (jn (jn X Y) Z).l = 0 from g3.1] at k
    exact k

set_option maxRecDepth 100000 in
theorem mergesAgree_lifted (os : Os) (started : os.Started) (H : Type) (enc : TypeId × Value → H) :
    ReturnsInHanded {} Tryz.checked os 3 .any (fun w args => (Rows.mergesAgreeSpec.pre enc Tryz.prog Tryz.f3 [] false w args ∧ laidMetH Tryz.prog laidSz w) ∧ sizedMet enc Tryz.prog Tryz.f3 (OpenSpec.ofChange Rows.mergesAgreeSpec) false w args)
      (Rows.mergesAgreeSpec.post enc Tryz.prog Tryz.f3 false true false false) := by
  refine returnsInHanded_of_change_and (C := Tryz.checked) (X := fun w _ => laidMetH Tryz.prog laidSz w) (fun _ _ _ hh h => h.of_heap hh) own started (by kernel_rfl) Tryz.func3
    (ChangeSpec.witness_at (enc := enc) (C := Tryz.checked) (os := os) (X := fun w _ => laidMetH Tryz.prog laidSz w) false (World.laidAll Tryz.prog os laidSz) #[.agg #[.int .i64 0, .int .i64 0, .int .i64 0, .int .i64 0], .agg #[.int .i64 0, .int .i64 0, .int .i64 0, .int .i64 0], .agg #[.int .i64 0, .int .i64 0, .int .i64 0, .int .i64 0]] 8 (World.laidAll_os _ _ _) (by kernel_rfl) (by kernel_rfl) (by kernel_rfl) (by kernel_rfl) (by kernel_rfl)
      (by rw [MakeChecks.laidMetH_plain _ _ _ (by kernel_rfl)]; exact laidMet_laidAll _ (by kernel_rfl) (by kernel_rfl))) ?_
  intro W base args ds gs before hval0 hW _ hsz0 hL _
  have hval : ∀ (j : Nat) t v, Tryz.f3.params[j]? = some t → args[j]? = some v → Value.okWide Tryz.prog W .any base t v := hval0
  have hW' := hW
  obtain ⟨p, q, hA0, hV, rfl, hfz, hnd⟩ := hW
  have hA : DataW.TrodAll enc Tryz.prog W 0 (fun _ => true) true Tryz.f3.params.toList args.toList ds p := hA0
  have hsz : (DataW.weightsEach Tryz.prog (Tryz.f3.params.toList ++ Rows.mergesAgreeSpec.plain.varTypes Tryz.prog) (ds ++ gs)).all (· ≤ reachBytes) = true := hsz0
  rw [Tryz.params3] at hA hval hsz
  obtain ⟨v0, vs0, d0, ds0, p0, q0, hargs, rfl, rfl, h0, r0⟩ := trodAll_cons hA
  obtain ⟨v1, vs1, d1, ds1, p1, q1, rfl, rfl, rfl, h1, r1⟩ := trodAll_cons r0
  obtain ⟨v2, vs2, d2, ds2, p2, q2, rfl, rfl, rfl, h2, r2⟩ := trodAll_cons r1
  obtain ⟨rfl, rfl, rfl⟩ := trodAll_nil r2
  obtain rfl : args = #[v0, v1, v2] := by cases args; simp_all
  obtain ⟨rfl, rfl⟩ := trodVars_none hV
  have k0 := h0
  have lt0 : ∀ x ∈ p0, x.block < W.heap.size := by obtain ⟨m, hm⟩ := k0; exact DataW.trod_lt m _ _ _ hm
  obtain ⟨kk0, aa0, bb0, cc0, rfl, w0⟩ := open_raw rfl (hval 0 23 v0 rfl rfl) h0
  have k1 := h1
  have lt1 : ∀ x ∈ p1, x.block < W.heap.size := by obtain ⟨m, hm⟩ := k1; exact DataW.trod_lt m _ _ _ hm
  obtain ⟨kk1, aa1, bb1, cc1, rfl, w1⟩ := open_raw rfl (hval 1 23 v1 rfl rfl) h1
  have k2 := h2
  have lt2 : ∀ x ∈ p2, x.block < W.heap.size := by obtain ⟨m, hm⟩ := k2; exact DataW.trod_lt m _ _ _ hm
  obtain ⟨kk2, aa2, bb2, cc2, rfl, w2⟩ := open_raw rfl (hval 2 23 v2 rfl rfl) h2
  clear hA0 hval0 hsz0
  refine (mergesAgree_walk kk0 aa0 bb0 cc0 kk1 aa1 bb1 cc1 kk2 aa2 bb2 cc2 W (szAt_of hL) w0 w1 w2).mono fun e W' ⟨he, bel⟩ => ?_
  subst he
  exact ⟨_, rfl, _, _, _, [], _, [], hW', trodAll_mk1 (shut_bool Tryz.underlying4 _), (trodAll_cons_mk (Below.trod laidOut (by kernel_rfl) (of_decide_eq_true (by kernel_rfl)) k0 bel lt0) (trodAll_cons_mk (Below.trod laidOut (by kernel_rfl) (of_decide_eq_true (by kernel_rfl)) k1 bel lt1) (trodAll_cons_mk (Below.trod laidOut (by kernel_rfl) (of_decide_eq_true (by kernel_rfl)) k2 bel lt2) trodAll_mk0))), rfl, bel.frame _, fun h => by cases h⟩

theorem mergesAgree_holds : Rows.MergesAgreeSaid :=
  OpenClaim.holds_of_wide 3 Tryz.f3 rfl rfl rfl rfl rfl rfl rfl ⟨rfl, rfl, rfl, rfl, rfl⟩ rfl rfl rfl rfl rfl (by kernel_rfl) Tryz.func3 (by kernel_rfl)
    (of_decide_eq_true (by kernel_rfl)) (by unfold Func.isWrapper; first | (rw [if_pos (by decide +kernel)]; kernel_rfl) | (rw [if_neg (by decide +kernel)]; exact ⟨rfl, rfl⟩))
    (fun os started H enc _ => mergesAgree_lifted os started H enc)

theorem mergesAgreeCard_holds : Rows.MergesAgreeCardSaid :=
  Claim7.holds_tied_plain_at .later [] [.data] true (true, "b32a0725f830f663ddbe83cbd3346edca8b1938c0f62766d59ccf42965662936") false mergesAgree_holds (fun _ h => by cases h) (by kernel_rfl) (fun _ h => by cases h) mergesAgree_row_tie rfl ⟨rfl, rfl⟩ (by kernel_rfl) rfl
    (fun f fn hf hfn => by
      obtain rfl : f = 3 := Option.some.inj ((show Tryz.prog.funcNamed "winnower/winnowerkeep.MergesAgree" = some 3 by kernel_rfl).symm.trans hf) |>.symm
      obtain rfl : fn = Tryz.f3 := (Option.some.inj (Tryz.func3.symm.trans hfn)).symm
      exact ⟨by kernel_rfl, fun j t ht => by
        rw [Tryz.params3] at ht
        have hm : t ∈ [23, 23, 23] := by simpa using Array.mem_of_getElem? ht
        have hall : ([23, 23, 23].all fun u => !Tryz.prog.wantsStandIn u) = true := by kernel_rfl
        exact (show Tryz.prog.wantsStandIn t = false by simpa using List.all_eq_true.1 hall t hm)⟩)
    (by kernel_rfl)
#print axioms mergesAgreeCard_holds
end Go.Proofs.YtlojfgdpmaigmaaGreatDoor

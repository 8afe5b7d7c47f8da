/- The law of Add: its walk, over what its callees do. -/
import Derived.Test.YtlojfgdpmaigmadGreatDoorP51
import Derived.Test.YtlojfgdpmaigmadGreatDoorP34
import Derived.Test.YtlojfgdpmaigmadGreatDoorP49
import Derived.Test.YtlojfgdpmaigmadGreatDoorP50
namespace Go.Proofs.YtlojfgdpmaigmadGreatDoor
open Go.RowKit Plain Go.Shelf

theorem large_any (A : Option Addr) (n C : Nat) (r : Int) (w : World) (hz : n ≤ 9223372036854775807) : Calls Tryz.prog 8 #[.agg #[.slice A n C, .int .i64 r]] w fun e w' => e = .returned (.bool (decide (200 < n))) ∧ Below w.heap.size w w' := by
  have b0 : ∀ o : Obj, Below w.heap.size w (w.alloc o) := fun o => (Below.refl _ _).alloc (Nat.le_refl _) o
  by_cases h : 200 < n
  · have h' : (200 : Int) < (n : Int) := by omega
    rw [decide_eq_true h]
    go_enter Tryz.func8, Tryz.ntmps8
    go_wp2
    go_ret
    exact ⟨rfl, b0 _⟩
  · have h' : ¬ (200 : Int) < (n : Int) := by omega
    rw [decide_eq_false h]
    go_enter Tryz.func8, Tryz.ntmps8
    go_wp2
    go_ret
    exact ⟨rfl, b0 _⟩

theorem kept_any (A A0 A1 A2 : Option Addr) (C C0 C1 C2 : Nat) (r0 r1 r2 : Int) (w : World) : Calls Tryz.prog 9 #[.agg #[.slice A 0 C, .slice A0 0 C0, .int .i64 r0, .slice A1 0 C1, .int .i64 r1, .slice A2 0 C2, .int .i64 r2, .int .i64 0]] w fun e w' => e = .returned (.bool true) ∧ Below w.heap.size w w' := by
  have b0 : ∀ o : Obj, Below w.heap.size w (w.alloc o) := fun o => (Below.refl _ _).alloc (Nat.le_refl _) o
  go_enter Tryz.func9, Tryz.ntmps9
  go_wp2
  go_ret
  exact ⟨rfl, b0 _⟩

/-- A copy of a base. -/
structure CpyB (ss : List ByteArray) (p0 p1 p2 : List PN) (w : World) (VA : Option Addr) (VC : Nat) (G0 G1 G2 : Option Addr) (q0 q1 q2 : List PN) : Prop where
  len : ss.length ≤ VC
  st : StrsAt w.heap.size w VA ss
  n0 : NodesAt w.heap.size w G0 q0
  n1 : NodesAt w.heap.size w G1 q1
  n2 : NodesAt w.heap.size w G2 q2
  e0 : q0.map PN.nd = p0.map PN.nd
  e1 : q1.map PN.nd = p1.map PN.nd
  e2 : q2.map PN.nd = p2.map PN.nd

theorem CpyB.up {ss : List ByteArray} {p0 p1 p2 q0 q1 q2 : List PN} {w w' : World} {VA G0 G1 G2 : Option Addr} {VC : Nat} (h : CpyB ss p0 p1 p2 w VA VC G0 G1 G2 q0 q1 q2) (hb : Below w.heap.size w w') : CpyB ss p0 p1 p2 w' VA VC G0 G1 G2 q0 q1 q2 :=
  ⟨h.len, h.st.up hb, h.n0.up hb, h.n1.up hb, h.n2.up hb, h.e0, h.e1, h.e2⟩

/-- What the law finds, once all is called: both refuse alike, or the tree was too large for the program alone, or the base is the one that is asked. -/
def LawC (p0 p1 p2 : List PN) (f : Int) (w : World) (NA : Option Addr) (nl NC : Nat) (X0 : Option Addr) (x0 Y0 : Nat) (s0 : Int) (X1 : Option Addr) (x1 Y1 : Nat) (s1 : Int) (X2 : Option Addr) (x2 Y2 : Nat) (s2 g c : Int) (MA : Option Addr) (ml MC : Nat) (EA : Option Addr) (el EC : Nat) (d : Int) : Prop :=
  (c ≠ 0 ∧ nl = 0 ∧ x0 = 0 ∧ x1 = 0 ∧ x2 = 0 ∧ g = 0 ∧ (c = d ∨ (d = 0 ∧ c = 1 ∧ (200 < p0.length ∨ 200 < p1.length ∨ 200 < p2.length)))) ∨
  (c = 0 ∧ d = 0 ∧ ∀ W, Below w.heap.size w W → Calls Tryz.prog 10 #[.agg #[.slice NA nl NC, .slice X0 x0 Y0, .int .i64 s0, .slice X1 x1 Y1, .int .i64 s1, .slice X2 x2 Y2, .int .i64 s2, .int .i64 g], .slice MA ml MC, .int .i64 f, .slice EA el EC] W fun e w' => e = .returned (.bool true) ∧ Below W.heap.size W w')

set_option maxRecDepth 20000 in
set_option maxHeartbeats 4000000 in
theorem adds_s (A A0 A1 A2 : Option Addr) (C C0 C1 C2 : Nat) (ss : List ByteArray) (p0 p1 p2 : List PN) (r0 r1 r2 f : Int) (s : ByteArray) (t v : Int) (w : World) (P : World → (NA : Option Addr) → (nl NC : Nat) → (X0 : Option Addr) → (x0 Y0 : Nat) → (s0 : Int) → (X1 : Option Addr) → (x1 Y1 : Nat) → (s1 : Int) → (X2 : Option Addr) → (x2 Y2 : Nat) → (s2 g c : Int) → Prop) (Q : World → (MA : Option Addr) → (ml MC : Nat) → (EA : Option Addr) → (el EC : Nat) → (d : Int) → Prop)
    (hz0 : p0.length ≤ 9223372036854775807) (hz1 : p1.length ≤ 9223372036854775807) (hz2 : p2.length ≤ 9223372036854775807)
    (CP : Hid (∀ W, Below w.heap.size w W → Calls Tryz.prog 4 #[.agg #[.slice A ss.length C, .slice A0 p0.length C0, .int .i64 r0, .slice A1 p1.length C1, .int .i64 r1, .slice A2 p2.length C2, .int .i64 r2, .int .i64 f]] W fun e w' => ∃ VA VC G0 G1 G2 D0 D1 D2 q0 q1 q2, e = .returned (.agg #[.slice VA ss.length VC, .slice G0 q0.length D0, .int .i64 r0, .slice G1 q1.length D1, .int .i64 r1, .slice G2 q2.length D2, .int .i64 r2, .int .i64 f]) ∧ CpyB ss p0 p1 p2 w' VA VC G0 G1 G2 q0 q1 q2 ∧ Below W.heap.size W w'))
    (AD : Hid (∀ VA VC G0 G1 G2 D0 D1 D2 q0 q1 q2 W, Below w.heap.size w W → CpyB ss p0 p1 p2 W VA VC G0 G1 G2 q0 q1 q2 → Calls Tryz.prog 5 #[.agg #[.slice VA ss.length VC, .slice G0 q0.length D0, .int .i64 r0, .slice G1 q1.length D1, .int .i64 r1, .slice G2 q2.length D2, .int .i64 r2, .int .i64 f], .agg #[.string s, .int .i64 t, .int .i64 v]] W fun e w' => ∃ NA nl NC X0 x0 Y0 s0 X1 x1 Y1 s1 X2 x2 Y2 s2 g c, e = .returned (.tuple #[.agg #[.slice NA nl NC, .slice X0 x0 Y0, .int .i64 s0, .slice X1 x1 Y1, .int .i64 s1, .slice X2 x2 Y2, .int .i64 s2, .int .i64 g], .int .i64 c]) ∧ Below W.heap.size W w' ∧ P w' NA nl NC X0 x0 Y0 s0 X1 x1 Y1 s1 X2 x2 Y2 s2 g c))
    (DC : Hid (∀ W, Below w.heap.size w W → Calls Tryz.prog 6 #[.agg #[.slice A ss.length C, .slice A0 p0.length C0, .int .i64 r0, .slice A1 p1.length C1, .int .i64 r1, .slice A2 p2.length C2, .int .i64 r2, .int .i64 f], .agg #[.string s, .int .i64 t, .int .i64 v]] W fun e w' => ∃ MA ml MC EA el EC d, e = .returned (.tuple #[.slice MA ml MC, .slice EA el EC, .int .i64 d]) ∧ Below W.heap.size W w' ∧ Q w' MA ml MC EA el EC d))
    (SB : Hid (∀ VA VC G0 G1 G2 D0 D1 D2 q0 q1 q2 W, Below w.heap.size w W → CpyB ss p0 p1 p2 W VA VC G0 G1 G2 q0 q1 q2 → Calls Tryz.prog 7 #[.agg #[.slice VA ss.length VC, .slice G0 q0.length D0, .int .i64 r0, .slice G1 q1.length D1, .int .i64 r1, .slice G2 q2.length D2, .int .i64 r2, .int .i64 f], .agg #[.slice A ss.length C, .slice A0 p0.length C0, .int .i64 r0, .slice A1 p1.length C1, .int .i64 r1, .slice A2 p2.length C2, .int .i64 r2, .int .i64 f]] W fun e w' => e = .returned (.bool true) ∧ Below W.heap.size W w'))
    (LC : Hid (∀ wa wb W NA nl NC X0 x0 Y0 s0 X1 x1 Y1 s1 X2 x2 Y2 s2 g c MA ml MC EA el EC d, P wa NA nl NC X0 x0 Y0 s0 X1 x1 Y1 s1 X2 x2 Y2 s2 g c → Q wb MA ml MC EA el EC d → Below wa.heap.size wa W → Below wb.heap.size wb W → LawC p0 p1 p2 f W NA nl NC X0 x0 Y0 s0 X1 x1 Y1 s1 X2 x2 Y2 s2 g c MA ml MC EA el EC d)) :
    Calls Tryz.prog 3 #[.agg #[.slice A ss.length C, .slice A0 p0.length C0, .int .i64 r0, .slice A1 p1.length C1, .int .i64 r1, .slice A2 p2.length C2, .int .i64 r2, .int .i64 f], .agg #[.string s, .int .i64 t, .int .i64 v]] w fun e w' => e = .returned (.bool true) ∧ Below w.heap.size w w' := by
  have HS := hideC (ArS.start w [.slice A ss.length C, .slice A0 p0.length C0, .int .i64 r0, .slice A1 p1.length C1, .int .i64 r1, .slice A2 p2.length C2, .int .i64 r2, .int .i64 f] s t v)
  go_enter Tryz.func3, Tryz.ntmps3
  go_upto_region 6 with (first
    | (go_at_call 4; refine (CP.out _ HS.out.below).mono ?_; rintro e w1 ⟨VA, VC, G0, G1, G2, D0, D1, D2, q0, q1, q2, rfl, hcp, hb1⟩; have HC1 := hideC hcp; have H1 := hideC (HS.out.next hb1); have d1 := fun j => H1.out.bp.cell j; have l1 := H1.out.bp.lt; simp only [ptV] at d1; clear hb1 hcp)
    | (go_at_call 5; refine (AD.out VA VC G0 G1 G2 D0 D1 D2 q0 q1 q2 _ (H1.out.below.alloc H1.out.below.size _) (HC1.out.up ((Below.refl _ _).alloc (Nat.le_refl _) _))).mono ?_; rintro e w2 ⟨NA, nl, NC, X0, x0, Y0, s0, X1, x1, Y1, s1, X2, x2, Y2, s2, g, c, rfl, hb2, hP⟩; have HP2 := hideC hP; have HB2 := hideC (nextB ((Below.refl _ _).alloc (Nat.le_refl _) _) (Nat.le_refl _) hb2 : Below w1.heap.size w1 w2); have K2 : Hid (RowL w2 w1.heap.size 28 [.slice VA ss.length VC, .slice G0 q0.length D0, .int .i64 r0, .slice G1 q1.length D1, .int .i64 r1, .slice G2 q2.length D2, .int .i64 r2, .int .i64 f]) := (rowL_alloc w1 [.slice VA ss.length VC, .slice G0 q0.length D0, .int .i64 r0, .slice G1 q1.length D1, .int .i64 r1, .slice G2 q2.length D2, .int .i64 r2, .int .i64 f] _).below hb2 (by simp); have H2 := hideC (H1.out.next HB2.out); have HC2 := hideC (HC1.out.up HB2.out); have d2 := fun j => H2.out.bp.cell j; have e2 := fun j => H2.out.bb.cell j; have l2 := H2.out.bp.lt; have l3 := H2.out.bb.lt; simp only [ptV] at d2; clear hb2 hP d1)
    | (go_at_call 6; refine (DC.out _ (H2.out.below.alloc H2.out.below.size _)).mono ?_; rintro e w3 ⟨MA, ml, MC, EA, el, EC, d, rfl, hb3, hQ⟩; have HQ3 := hideC hQ; have HB3 := hideC (nextB ((Below.refl _ _).alloc (Nat.le_refl _) _) (Nat.le_refl _) hb3 : Below w2.heap.size w2 w3); have A3 : Hid (RowL w3 w2.heap.size 28 [.slice NA nl NC, .slice X0 x0 Y0, .int .i64 s0, .slice X1 x1 Y1, .int .i64 s1, .slice X2 x2 Y2, .int .i64 s2, .int .i64 g]) := (rowL_alloc w2 [.slice NA nl NC, .slice X0 x0 Y0, .int .i64 s0, .slice X1 x1 Y1, .int .i64 s1, .slice X2 x2 Y2, .int .i64 s2, .int .i64 g] _).below hb3 (by simp); have H3 := hideC (H2.out.next HB3.out); have K3 := hideC (K2.out.below HB3.out K2.out.lt); have HC3 := hideC (HC2.out.up HB3.out); have e3 := fun j => H3.out.bb.cell j; have k3 := fun j => K3.out.cell j; clear hb3 hQ d2 e2)
    | (go_at_call 7; refine (SB.out VA VC G0 G1 G2 D0 D1 D2 q0 q1 q2 _ H3.out.below HC3.out).mono ?_; rintro e w4 ⟨rfl, hb4⟩; have H4 := hideC (H3.out.next hb4); have A4 := hideC (A3.out.below hb4 A3.out.lt); have HB4 := hideC hb4; clear hb4 e3 k3))
  have HL := LC.out w2 w3 w4 _ _ _ _ _ _ _ _ _ _ _ _ _ _ _ _ _ _ _ _ _ _ _ _ HP2.out HQ3.out (nextB HB3.out (Nat.le_refl _) HB4.out) HB4.out
  have e4 := fun j => H4.out.bb.cell j
  have a4 := fun j => A4.out.cell j
  clear HP2 HQ3 HB2 HB3 HB4 K2 K3 A3 H3 H2 H1 HS HC1 HC2 HC3 CP AD DC SB LC l1 l2 l3
  obtain ⟨ab, hab⟩ : ∃ ab, ab = w2.heap.size := ⟨_, rfl⟩
  rw [← hab] at a4 A4 ⊢
  clear hab
  rcases HL with ⟨hc, rfl, rfl, rfl, rfl, rfl, hcd⟩ | ⟨rfl, rfl, hIs⟩
  · have hc' : (c != 0) = true := by simpa using hc
    have KP := hideC fun W => kept_any NA X0 X1 X2 NC Y0 Y1 Y2 s0 s1 s2 W
    have armk : True := trivial
    rcases hcd with rfl | ⟨rfl, rfl, hla⟩
    · have hcc : (c == c) = true := by simp
      go_wp2_with (first
        | (go_at_call 9; refine (KP.out _).mono ?_; rintro e w9 ⟨rfl, hb9⟩))
      go_ret
      exact ⟨rfl, nextB H4.out.below (Nat.le_refl _) hb9⟩
    · have LG0 := hideC fun W => large_any A0 p0.length C0 r0 W hz0
      have LG1 := hideC fun W => large_any A1 p1.length C1 r1 W hz1
      have LG2 := hideC fun W => large_any A2 p2.length C2 r2 W hz2
      by_cases g0 : 200 < p0.length
      · rw [decide_eq_true g0] at LG0
        go_wp2_with (first
          | (go_at_call 8; refine (LG0.out _).mono ?_; rintro e w5 ⟨rfl, hb5⟩; have B5 := hideC (nextB H4.out.below (Nat.le_refl _) hb5); have A5 := hideC (A4.out.below hb5 A4.out.lt); have a5 := fun j => A5.out.cell j; clear hb5 a4 e4)
          | (go_at_call 9; refine (KP.out _).mono ?_; rintro e w9 ⟨rfl, hb9⟩))
        go_ret
        exact ⟨rfl, nextB B5.out (Nat.le_refl _) hb9⟩
      · rw [decide_eq_false g0] at LG0
        by_cases g1 : 200 < p1.length
        · rw [decide_eq_true g1] at LG1
          go_wp2_with (first
            | (go_at_call 8; have T4 := e4; refine (LG0.out _).mono ?_; rintro e w5 ⟨rfl, hb5⟩; have H5 := hideC (H4.out.next hb5); have A5 := hideC (A4.out.below hb5 A4.out.lt); have e5 := fun j => H5.out.bb.cell j; clear hb5 a4 e4 T4)
            | (go_at_call 8; refine (LG1.out _).mono ?_; rintro e w6 ⟨rfl, hb6⟩; have B6 := hideC (nextB H5.out.below (Nat.le_refl _) hb6); have A6 := hideC (A5.out.below hb6 A5.out.lt); have a6 := fun j => A6.out.cell j; clear hb6 e5)
            | (go_at_call 9; refine (KP.out _).mono ?_; rintro e w9 ⟨rfl, hb9⟩))
          go_ret
          exact ⟨rfl, nextB B6.out (Nat.le_refl _) hb9⟩
        · rw [decide_eq_false g1] at LG1
          have g2 : 200 < p2.length := by omega
          rw [decide_eq_true g2] at LG2
          go_wp2_with (first
            | (go_at_call 8; have T4 := e4; refine (LG0.out _).mono ?_; rintro e w5 ⟨rfl, hb5⟩; have H5 := hideC (H4.out.next hb5); have A5 := hideC (A4.out.below hb5 A4.out.lt); have e5 := fun j => H5.out.bb.cell j; clear hb5 a4 e4 T4)
            | (go_at_call 8; have T5 := e5; refine (LG1.out _).mono ?_; rintro e w6 ⟨rfl, hb6⟩; have H6 := hideC (H5.out.next hb6); have A6 := hideC (A5.out.below hb6 A5.out.lt); have e6 := fun j => H6.out.bb.cell j; clear hb6 e5 T5)
            | (go_at_call 8; refine (LG2.out _).mono ?_; rintro e w7 ⟨rfl, hb7⟩; have B7 := hideC (nextB H6.out.below (Nat.le_refl _) hb7); have A7 := hideC (A6.out.below hb7 A6.out.lt); have a7 := fun j => A7.out.cell j; clear hb7 e6)
            | (go_at_call 9; refine (KP.out _).mono ?_; rintro e w9 ⟨rfl, hb9⟩))
          go_ret
          exact ⟨rfl, nextB B7.out (Nat.le_refl _) hb9⟩
  · have HI := hideC hIs
    clear hIs
    go_wp2_with (first
      | (go_at_call 10; refine (HI.out _ (Below.refl _ _)).mono ?_; rintro e w9 ⟨rfl, hb9⟩))
    go_ret
    exact ⟨rfl, nextB H4.out.below (Nat.le_refl _) hb9⟩

end Go.Proofs.YtlojfgdpmaigmadGreatDoor

/- base.Add: what it answers, at any base and any point. -/
namespace Go.Proofs.YtlojfgdpmaigmadGreatDoor
open Go.RowKit Plain Go.Shelf

/-- Why a point is refused. -/
def AddNo (ss : List ByteArray) (s : ByteArray) (t v f : Int) (n0 : List Nd) (r0 : Int) (n1 : List Nd) (r1 : Int) (n2 : List Nd) (r2 c : Int) : Prop :=
  (baseB ss f n0 r0 n1 r1 n2 r2 = false ∧ c = 7) ∨ (baseB ss f n0 r0 n1 r1 n2 r2 = true ∧ ptC s t v f ≠ 0 ∧ c = ptC s t v f) ∨
  (baseB ss f n0 r0 n1 r1 n2 r2 = true ∧ ptC s t v f = 0 ∧ c = 1 ∧ (16 < (withS ss s).length ∨ ((withS ss s).length ≤ 16 ∧ ∀ L0 L1 L2, BaseL ss f n0 r0 n1 r1 n2 r2 L0 L1 L2 →
    (ins L0 (ptE (plc ss s) t v) = none ∨ ins L1 (bk 60 (ptE (plc ss s) t v)) = none ∨ ins L2 (bk 3600 (ptE (plc ss s) t v)) = none) ∨ 200 < n0.length ∨ 200 < n1.length ∨ 200 < n2.length)))

/-- What a base knows, once a point was added. -/
structure AddYes (ss : List ByteArray) (s : ByteArray) (t v f : Int) (n0 : List Nd) (r0 : Int) (n1 : List Nd) (r1 : Int) (n2 : List Nd) (r2 : Int) (m0 : List Nd) (q0 : Int) (m1 : List Nd) (q1 : Int) (m2 : List Nd) (q2 : Int) (L0 L1 L2 M0 M1 M2 : List En) : Prop where
  was : baseB ss f n0 r0 n1 r1 n2 r2 = true
  pt : ptC s t v f = 0
  few : (withS ss s).length ≤ 16
  lst : BaseL ss f n0 r0 n1 r1 n2 r2 L0 L1 L2
  i0 : ins L0 (ptE (plc ss s) t v) = some M0
  i1 : ins L1 (bk 60 (ptE (plc ss s) t v)) = some M1
  i2 : ins L2 (bk 3600 (ptE (plc ss s) t v)) = some M2
  a0 : allP m0 q0 0 1099511627776 = (0, M0)
  a1 : allP m1 q1 0 1099511627776 = (0, M1)
  a2 : allP m2 q2 0 1099511627776 = (0, M2)

theorem AddYes.base {ss : List ByteArray} {s : ByteArray} {t v f : Int} {n0 n1 n2 m0 m1 m2 : List Nd} {r0 r1 r2 q0 q1 q2 : Int} {L0 L1 L2 M0 M1 M2 : List En} (h : AddYes ss s t v f n0 r0 n1 r1 n2 r2 m0 q0 m1 q1 m2 q2 L0 L1 L2 M0 M1 M2) :
    baseB (withS ss s) f m0 q0 m1 q1 m2 q2 = true ∧ bookP m0 q0 (withS ss s).length f = some M0 := by
  obtain ⟨h1, h2, h3, h4⟩ := pt_facts h.pt
  exact add_base h.was h.lst h1 h.few h2 h3 h4 h.i0 h.i1 h.i2 h.a0 h.a1 h.a2

/-- What Add answers. -/
def AddTo (ss : List ByteArray) (s : ByteArray) (t v f : Int) (n0 : List Nd) (r0 : Int) (n1 : List Nd) (r1 : Int) (n2 : List Nd) (r2 : Int) (w : World) (e : Ending) (w' : World) : Prop :=
  Below w.heap.size w w' ∧ ((∃ c, c ≠ 0 ∧ AddNo ss s t v f n0 r0 n1 r1 n2 r2 c ∧ e = .returned (noBase c)) ∨
    ∃ (A' : Option Addr) (C' : Nat) (t0 t1 t2 : TR) (L0 L1 L2 M0 M1 M2 : List En), AddYes ss s t v f n0 r0 n1 r1 n2 r2 (t0.ps.map PN.nd) t0.r (t1.ps.map PN.nd) t1.r (t2.ps.map PN.nd) t2.r L0 L1 L2 M0 M1 M2 ∧ e = .returned (.tuple #[.agg (baseV A' C' (withS ss s) t0 t1 t2 f).toArray, .int .i64 0]) ∧
      (A' = none → C' = 0) ∧ (withS ss s).length ≤ C' ∧ StrsAt w'.heap.size w' A' (withS ss s) ∧ t0.ok w' ∧ t1.ok w' ∧ t2.ok w')

theorem put_con {A : Option Addr} {C : Nat} {root key : Int} {r : Ru} {ps : List PN} {L : List En} {x : En} {W : World} (hN : NodesAt W.heap.size W A ps) (hwf : ∀ p ∈ ps, p.wf) (ha : allP (ps.map PN.nd) root 0 1099511627776 = (0, L)) (hg : Good r) (hk : 0 ≤ key ∧ key ≤ 1099511627775) (hx : x = mkE key r) :
    Calls Tryz.prog 17 #[.agg #[.slice A ps.length C, .int .i64 root], .int .i64 key, .agg #[.int .i64 r.c, .int .i64 r.s, .int .i64 r.lo, .int .i64 r.hi, .int .i64 r.t, .int .i64 r.l]] W (PutC (fun c => c = 1 ∧ (ins L x = none ∨ 200 < (ps.map PN.nd).length)) (fun m q => ∃ M, ins L x = some M ∧ allP m q 0 1099511627776 = (0, M)) W) := by
  subst hx
  refine (put_any A C root key r ps W hN hwf).mono ?_
  intro e w' h
  have hcode := put_code (key := key) ha hg hk
  rcases h with ⟨h0, rfl, hb⟩ | ⟨h0, hc, hP⟩
  · rcases hcode with ⟨h1, _⟩ | ⟨h1, h2⟩
    · exact absurd h1 h0
    · rw [h1]
      exact ⟨none, 0, 0, 0, 1, rfl, hb, .inl ⟨by decide, rfl, .inl h2⟩⟩
  · obtain ⟨ns2, root2, hok, hb, ⟨h2, rfl⟩ | ⟨h2, g, C', qs, rfl, hNT, hm⟩⟩ := hP.res
    · exact ⟨none, 0, 0, 0, 1, rfl, hb, .inl ⟨by decide, rfl, .inr (by have := hok.few; omega)⟩⟩
    · rcases hcode with ⟨_, ys, h3⟩ | ⟨h1, _⟩
      · refine ⟨some ⟨g, 0, none⟩, qs.length, C', root2, 0, rfl, hb, .inr ⟨rfl, g, qs, rfl, rfl, hNT, ys, h3, ?_⟩⟩
        rw [hm]
        exact put_allP ha h0 hok h2 h3
      · omega

theorem root_wf {ns : List Nd} {root : Int} (h : treeC ns root = 0) : (Lit.int .i64 root).wf = true := by
  have hz := (tree_each h).1
  have : 0 ≤ root ∧ root ≤ 2000 := by
    rcases treeC_sub h with ⟨ht, P, hs, hp⟩ | ⟨_, rfl⟩
    · have := Sub_self hs
      omega
    · omega
  exact WalkArith.wf_i64 (by omega)

theorem badd_any (A : Option Addr) (C : Nat) (ss : List ByteArray) (t0 t1 t2 : TR) (f : Int) (s : ByteArray) (t v : Int) (w : World) (hZ : SzAt w) (hC : ss.length ≤ C) (hS : StrsAt w.heap.size w A ss) (hs : s.size ≤ 140737488351232) (h0 : t0.ok w) (h1 : t1.ok w) (h2 : t2.ok w) :
    Calls Tryz.prog 5 #[.agg (baseV A C ss t0 t1 t2 f).toArray, .agg #[.string s, .int .i64 t, .int .i64 v]] w (AddTo ss s t v f (t0.ps.map PN.nd) t0.r (t1.ps.map PN.nd) t1.r (t2.ps.map PN.nd) t2.r w) := by
  have okup : ∀ (t : TR) (w' : World), Below w.heap.size w w' → t.ok w → t.ok w' := fun t w' hb ht => ⟨ht.1.up hb, ht.2.1, ht.2.2⟩
  have ck := fun (bb : Bool) (hbb : Hid (baseB ss f (t0.ps.map PN.nd) t0.r (t1.ps.map PN.nd) t1.r (t2.ps.map PN.nd) t2.r = bb)) W (hW : Below w.heap.size w W) => bcheck_any A C ss t0 t1 t2 f W (hZ.below hW) hC (hS.up hW) (okup t0 W hW h0) (okup t1 W hW h1) (okup t2 W hW h2) bb hbb
  have pf := fun W => pointFor_any A C ss t0 t1 t2 f s t v W
  cases hB : baseB ss f (t0.ps.map PN.nd) t0.r (t1.ps.map PN.nd) t1.r (t2.ps.map PN.nd) t2.r with
  | false =>
    refine (add_b1 _ _ _ _ _ _ _ _ _ rfl s t v 7 (by decide) w (fun W hW => ?_)).mono ?_
    · have k := ck false hB W hW
      simp only [Bool.false_eq_true, if_false] at k
      exact k
    · rintro e w' ⟨rfl, hb⟩
      exact ⟨hb, .inl ⟨7, by decide, .inl ⟨hB, rfl⟩, rfl⟩⟩
  | true =>
    have ck0 : ∀ W, Below w.heap.size w W → Calls Tryz.prog 12 #[.agg (baseV A C ss t0 t1 t2 f).toArray] W fun e w' => e = .returned (.int .i64 0) ∧ Below W.heap.size W w' := fun W hW => by
      have k := ck true hB W hW
      simp only [if_true] at k
      exact k
    by_cases hp : ptC s t v f = 0
    · obtain ⟨L0, L1, L2, hL⟩ := baseL hB
      obtain ⟨hn, ht, hv, hf⟩ := pt_facts hp
      have hr : ptR s t v f = one t v := by unfold ptR; rw [if_pos hp]
      obtain ⟨e1, e2, e3⟩ := plc_with ss s
      have hfew := hL.few
      have hlen : (withS ss s).length ≤ ss.length + 1 := by
        unfold withS
        split <;> simp
      have hpl : 0 ≤ plc ss s ∧ plc ss s < 17 := by omega
      have hg := one_good ht hv
      have hes : ∀ x ∈ withS ss s, x.size ≤ 140737488351232 := by
        intro x hx
        unfold withS at hx
        split at hx
        · rcases List.mem_append.1 hx with hx | hx
          · exact hS.each x hx
          · obtain rfl : x = s := by simpa using hx
            exact hs
        · exact hS.each x hx
      have kb : ∀ sz : Int, (sz = 1 ∨ sz = 60 ∨ sz = 3600) → (0 ≤ t - t % sz ∧ t - t % sz < 1048576) ∧ 0 ≤ plc ss s * 1048576 + (t - t % sz) ∧ plc ss s * 1048576 + (t - t % sz) ≤ 1099511627775 := by
        intro sz hsz
        rcases hsz with rfl | rfl | rfl <;> omega
      have x0 : ptE (plc ss s) t v = mkE (plc ss s * 1048576 + (t - t % 1)) (one t v) := by
        have e : t - t % 1 = t := by omega
        rw [e]
        rfl
      have x1 : bk 60 (ptE (plc ss s) t v) = mkE (plc ss s * 1048576 + (t - t % 60)) (one t v) := pt_bk ht
      have x2 : bk 3600 (ptE (plc ss s) t v) = mkE (plc ss s * 1048576 + (t - t % 3600)) (one t v) := pt_bk ht
      refine (add_core A t0.A t1.A t2.A C t0.C t1.C t2.C ss (withS ss s) t0.ps t1.ps t2.ps t0.r t1.r t2.r f s t v (one t v) w _ _ _ _ _ _ (plc ss s) (t - t % 1) (t - t % 60) (t - t % 3600) (plc ss s * 1048576 + (t - t % 1)) (plc ss s * 1048576 + (t - t % 60)) (plc ss s * 1048576 + (t - t % 3600)) (by omega) hes ck0 (fun W => ?_) (fun W hW => namesWith_any A C ss s W (hS.up hW) hs hfew) (fun VA VC W h => ?_) (fun W hW => sizes_any W (hZ.below hW))
        (fun W => bbegin_any t 1 W (by omega) (.inl rfl)) (fun W => bbegin_any t 60 W (by omega) (.inr (.inl rfl))) (fun W => bbegin_any t 3600 W (by omega) (.inr (.inr rfl)))
        (fun W => keyOf_any _ _ W (by omega) (kb 1 (.inl rfl)).1) (fun W => keyOf_any _ _ W (by omega) (kb 60 (.inr (.inl rfl))).1) (fun W => keyOf_any _ _ W (by omega) (kb 3600 (.inr (.inr rfl))).1)
        (fun W hW => put_con (L := L0) (h0.1.up hW) h0.2.1 hL.a0 hg (kb 1 (.inl rfl)).2 x0) (fun W hW => put_con (L := L1) (h1.1.up hW) h1.2.1 hL.a1 hg (kb 60 (.inr (.inl rfl))).2 x1) (fun W hW => put_con (L := L2) (h2.1.up hW) h2.2.1 hL.a2 hg (kb 3600 (.inr (.inr rfl))).2 x2)).mono ?_
      · have k := pf W
        rw [hp, hr] at k
        exact k
      · have k := index_any VA VC (withS ss s) s W h
        rw [e1] at k
        exact k
      · intro e w' h
        obtain ⟨hb, h⟩ := h
        refine ⟨hb, ?_⟩
        rcases h with ⟨h16, rfl⟩ | ⟨h16, c, hc0, hbad, rfl⟩ | ⟨h16, VA, VC, g0, D0, g1, D1, g2, D2, q0, q1, q2, s0, s1, s2, rfl, hown, N0, N1, N2, ⟨M0, i0, a0⟩, ⟨M1, i1, a1⟩, M2, i2, a2⟩
        · exact .inl ⟨1, by decide, .inr (.inr ⟨hB, hp, rfl, .inl h16⟩), rfl⟩
        · have hc1 : c = 1 := by
            rcases hbad with h | h | h <;> exact h.1
          refine .inl ⟨c, hc0, .inr (.inr ⟨hB, hp, hc1, .inr ⟨h16, fun K0 K1 K2 hK => ?_⟩⟩), rfl⟩
          obtain rfl : K0 = L0 := by have := hK.a0.symm.trans hL.a0; exact (Prod.mk.inj this).2
          obtain rfl : K1 = L1 := by have := hK.a1.symm.trans hL.a1; exact (Prod.mk.inj this).2
          obtain rfl : K2 = L2 := by have := hK.a2.symm.trans hL.a2; exact (Prod.mk.inj this).2
          rcases hbad with ⟨_, h | h⟩ | ⟨_, h | h⟩ | ⟨_, h | h⟩
          · exact .inl (.inl h)
          · exact .inr (.inl h)
          · exact .inl (.inr (.inl h))
          · exact .inr (.inr (.inl h))
          · exact .inl (.inr (.inr h))
          · exact .inr (.inr (.inr h))
        · have k0 := (allP_zero a0).1
          have k1 := (allP_zero a1).1
          have k2 := (allP_zero a2).1
          obtain ⟨_, _, e9, hA9, hl9, _, hrow9⟩ := own_row hown
          cases e9
          exact .inr ⟨VA, VC, ⟨some ⟨g0, 0, none⟩, D0, q0, s0⟩, ⟨some ⟨g1, 0, none⟩, D1, q1, s1⟩, ⟨some ⟨g2, 0, none⟩, D2, q2, s2⟩, L0, L1, L2, M0, M1, M2, ⟨hB, hp, h16, hL, i0, i1, i2, a0, a1, a2⟩, rfl, hA9, hl9, ⟨hrow9, by omega, hes⟩, ⟨N0.nodes, treeC_wf k0, root_wf k0⟩, ⟨N1.nodes, treeC_wf k1, root_wf k1⟩, ⟨N2.nodes, treeC_wf k2, root_wf k2⟩⟩
    · refine (add_b2 _ _ _ _ _ _ _ _ _ rfl s t v _ _ hp w ck0 pf).mono ?_
      rintro e w' ⟨rfl, hb⟩
      exact ⟨hb, .inl ⟨_, hp, .inr (.inl ⟨hB, hp, rfl⟩), rfl⟩⟩

end Go.Proofs.YtlojfgdpmaigmadGreatDoor

/- The document's AddedOf: what it answers, at any base and any point. -/
namespace Go.Proofs.YtlojfgdpmaigmadGreatDoor
open Go.RowKit Plain Go.Shelf

/-- Why the document refuses a point. -/
def DocNo (ss : List ByteArray) (s : ByteArray) (t v f : Int) (n0 : List Nd) (r0 : Int) (n1 : List Nd) (r1 : Int) (n2 : List Nd) (r2 d : Int) : Prop :=
  (baseB ss f n0 r0 n1 r1 n2 r2 = false ∧ d = 7) ∨ (baseB ss f n0 r0 n1 r1 n2 r2 = true ∧ ptC s t v f ≠ 0 ∧ d = ptC s t v f) ∨
  (baseB ss f n0 r0 n1 r1 n2 r2 = true ∧ ptC s t v f = 0 ∧ d = 1 ∧ (16 < (withS ss s).length ∨ ∃ L0 L1 L2, BaseL ss f n0 r0 n1 r1 n2 r2 L0 L1 L2 ∧
    (ins L0 (ptE (plc ss s) t v) = none ∨ ins L1 (bk 60 (ptE (plc ss s) t v)) = none ∨ ins L2 (bk 3600 (ptE (plc ss s) t v)) = none)))

/-- What it knows then. -/
structure DocYes (ss : List ByteArray) (s : ByteArray) (t v f : Int) (n0 : List Nd) (r0 : Int) (n1 : List Nd) (r1 : Int) (n2 : List Nd) (r2 : Int) (L0 L1 L2 M : List En) : Prop where
  was : baseB ss f n0 r0 n1 r1 n2 r2 = true
  pt : ptC s t v f = 0
  few : (withS ss s).length ≤ 16
  lst : BaseL ss f n0 r0 n1 r1 n2 r2 L0 L1 L2
  i0 : ins L0 (ptE (plc ss s) t v) = some M
  i1 : ins L1 (bk 60 (ptE (plc ss s) t v)) ≠ none
  i2 : ins L2 (bk 3600 (ptE (plc ss s) t v)) ≠ none
  len : M.length ≤ 28001

/-- What AddedOf answers. -/
def DocTo (ss : List ByteArray) (s : ByteArray) (t v f : Int) (n0 : List Nd) (r0 : Int) (n1 : List Nd) (r1 : Int) (n2 : List Nd) (r2 : Int) (w : World) (e : Ending) (w' : World) : Prop :=
  ∃ (MA EA : Option Addr) (ml MC el EC : Nat) (d : Int), e = .returned (.tuple #[.slice MA ml MC, .slice EA el EC, .int .i64 d]) ∧ Below w.heap.size w w' ∧
    ((d ≠ 0 ∧ DocNo ss s t v f n0 r0 n1 r1 n2 r2 d) ∨ (d = 0 ∧ ∃ L0 L1 L2 M, DocYes ss s t v f n0 r0 n1 r1 n2 r2 L0 L1 L2 M ∧ ml = (withS ss s).length ∧ el = M.length ∧ StrsAt w'.heap.size w' MA (withS ss s) ∧ RowAt w'.heap.size w' EA (flatE M)))

theorem docTo_no {ss : List ByteArray} {s : ByteArray} {t v f : Int} {n0 n1 n2 : List Nd} {r0 r1 r2 d : Int} {w w' : World} (hb : Below w.heap.size w w') (hd : d ≠ 0) (h : DocNo ss s t v f n0 r0 n1 r1 n2 r2 d) : DocTo ss s t v f n0 r0 n1 r1 n2 r2 w (.returned (noAdd d)) w' :=
  ⟨none, none, 0, 0, 0, 0, d, rfl, hb, .inl ⟨hd, h⟩⟩

theorem ins_keys {x : En} {L M : List En} (hp : L.Pairwise fun a b => a.key < b.key) (hk : ∀ z ∈ L, 0 ≤ z.key ∧ z.key < 1099511627776) (hx : 0 ≤ x.key ∧ x.key < 1099511627776) (h : ins L x = some M) : ∀ z ∈ M, 0 ≤ z.key ∧ z.key < 1099511627776 := by
  intro z hz
  rcases (ins_inc hp h).2 z hz with e | ⟨y, hy, e⟩
  · omega
  · have := hk y hy
    omega

theorem addedOf_any (A : Option Addr) (C : Nat) (ss : List ByteArray) (t0 t1 t2 : TR) (f : Int) (s : ByteArray) (t v : Int) (w : World) (hA : A = none → C = 0) (hS : StrsAt w.heap.size w A ss) (hs : s.size ≤ 140737488351232) (h0 : t0.ok w) (h1 : t1.ok w) (h2 : t2.ok w) :
    Calls Tryz.prog 6 #[.agg (baseV A C ss t0 t1 t2 f).toArray, .agg #[.string s, .int .i64 t, .int .i64 v]] w (DocTo ss s t v f (t0.ps.map PN.nd) t0.r (t1.ps.map PN.nd) t1.r (t2.ps.map PN.nd) t2.r w) := by
  have mm := fun W (hW : Below w.heap.size w W) => baseMay_any A C ss t0 t1 t2 f W (hS.up hW) (h0.1.up hW) (h1.1.up hW) (h2.1.up hW)
  have nm := fun W => nameMay_any s W (by unfold maxLen; omega)
  cases hB : baseB ss f (t0.ps.map PN.nd) t0.r (t1.ps.map PN.nd) t1.r (t2.ps.map PN.nd) t2.r with
  | false =>
    rw [hB] at mm
    refine (ar_b1 A t0.A t1.A t2.A C t0.C t1.C t2.C ss t0.ps t1.ps t2.ps t0.r t1.r t2.r f s t v w mm).mono ?_
    rintro e w' ⟨rfl, hb⟩
    exact docTo_no hb (by decide) (.inl ⟨hB, rfl⟩)
  | true =>
    rw [hB] at mm
    cases hn : nameB s with
    | false =>
      rw [hn] at nm
      have hp : ptC s t v f = 4 := by unfold ptC; rw [hn]; rfl
      refine (ar_b2 A t0.A t1.A t2.A C t0.C t1.C t2.C ss t0.ps t1.ps t2.ps t0.r t1.r t2.r f s t v w mm nm).mono ?_
      rintro e w' ⟨rfl, hb⟩
      exact docTo_no hb (by decide) (.inr (.inl ⟨hB, by rw [hp]; decide, hp.symm⟩))
    | true =>
      rw [hn] at nm
      have ro := fun W => rrollOf_any t v W
      have pl := fun VA VC W (h : StrsAt W.heap.size W VA ss) => placeR_any VA VC ss s W h
      cases ho : ofOk t v with
      | false =>
        have e1 : ofC t v = 2 := by unfold ofC; rw [ho]; rfl
        rw [e1] at ro
        have hp : ptC s t v f = 2 := by unfold ptC; rw [hn, ho]; rfl
        refine (ar_b3 A t0.A t1.A t2.A C t0.C t1.C t2.C ss t0.ps t1.ps t2.ps t0.r t1.r t2.r f s t v w (ofR t v) 2 _ (by decide) hS hA mm nm ro pl).mono ?_
        rintro e w' ⟨rfl, hb⟩
        exact docTo_no hb (by decide) (.inr (.inl ⟨hB, by rw [hp]; decide, hp.symm⟩))
      | true =>
        have e1 : ofC t v = 0 := by unfold ofC; rw [ho]; rfl
        have e2 : ofR t v = one t v := by unfold ofR; rw [ho]; rfl
        rw [e1, e2] at ro
        by_cases hf : t < f
        · have hp : ptC s t v f = 8 := by unfold ptC; rw [hn, ho, if_pos rfl, if_pos rfl, if_pos hf]
          refine (ar_b4 A t0.A t1.A t2.A C t0.C t1.C t2.C ss t0.ps t1.ps t2.ps t0.r t1.r t2.r f s t v w (one t v) _ hf hS hA mm nm ro pl).mono ?_
          rintro e w' ⟨rfl, hb⟩
          exact docTo_no hb (by decide) (.inr (.inl ⟨hB, by rw [hp]; decide, hp.symm⟩))
        · have hp : ptC s t v f = 0 := by unfold ptC; rw [hn, ho, if_pos rfl, if_pos rfl, if_neg hf]
          obtain ⟨_, ht, hv, _⟩ := pt_facts hp
          obtain ⟨L0, L1, L2, hL⟩ := baseL hB
          obtain ⟨p1, p2, p3⟩ := plc_with ss s
          have hfew := hL.few
          have hlen : (withS ss s).length ≤ ss.length + 1 := by
            unfold withS
            split <;> simp
          have hg := one_good ht hv
          have hf0 := allP_facts (ns := t0.ps.map PN.nd) (r := t0.r) (low := 0) (high := 1099511627776)
          have hl0 := allP_len (t0.ps.map PN.nd) t0.r 0 1099511627776
          rw [hL.a0] at hf0 hl0
          simp only at hf0 hl0
          obtain ⟨f1, f2, f3⟩ := hf0
          have hx : mkE (1048576 * plc ss s + t) (one t v) = ptE (plc ss s) t v := by unfold ptE; rw [Int.mul_comm]
          have hxk : 0 ≤ (ptE (plc ss s) t v).key ∧ (ptE (plc ss s) t v).key < 1099511627776 := by
            show 0 ≤ plc ss s * 1048576 + t ∧ plc ss s * 1048576 + t < 1099511627776
            omega
          have mg : ∀ M, ins L0 (ptE (plc ss s) t v) = some M → (∀ y ∈ M, Good y.ru) ∧ M.length ≤ 28001 ∧ (∀ z ∈ M, 0 ≤ z.key ∧ z.key < 1099511627776) ∧ rollP 60 M = ins L1 (bk 60 (ptE (plc ss s) t v)) ∧ rollP 3600 M = ins L2 (bk 3600 (ptE (plc ss s) t v)) := fun M hM => by
            obtain ⟨g1, g2⟩ := ins_good (x := ptE (plc ss s) t v) hg f2 hM
            refine ⟨g1, by omega, ins_keys f1 f3 hxk hM, ?_, ?_⟩
            · rw [roll_ins (x := ptE (plc ss s) t v) f2 hg hM, hL.p1]; rfl
            · rw [roll_ins (x := ptE (plc ss s) t v) f2 hg hM, hL.p2]; rfl
          refine (ar_go A t0.A t1.A t2.A C t0.C t1.C t2.C ss t0.ps t1.ps t2.ps t0.r t1.r t2.r f s t v w (withS ss s) (one t v) _ (plc ss s) L0 (ins L0 (ptE (plc ss s) t v)) (ins L1 (bk 60 (ptE (plc ss s) t v))).isSome (ins L2 (bk 3600 (ptE (plc ss s) t v))).isSome hf rfl rfl (by omega) ht hfew hS hA hs mm nm ro pl (fun W hW => ?_) (fun LA LC W hr => ?_) (fun M hM MA MC W hr => ?_) (fun M hM MA MC W hr => ?_)).mono ?_
          · exact book_any A C ss t0 t1 t2 f W (h0.1.up hW) _ (fun e w' hbe h3 _ => by
              obtain ⟨x, rfl, hox⟩ := h3 L0 hL.book
              obtain ⟨VA, VC, rfl, -, -, -, hrow⟩ := own_row hox
              exact ⟨⟨VA, VC, rfl, hrow⟩, hbe⟩)
          · refine (withEntry_any LA LC L0 (mkE (1048576 * plc ss s + t) (one t v)) W hr (by omega) f2 hg).mono ?_
            rintro e w' ⟨hb, hm⟩
            rw [hx] at hm
            refine ⟨hb, ?_⟩
            cases hi : ins L0 (ptE (plc ss s) t v) with
            | none => rw [hi] at hm; exact .inr ⟨rfl, hm⟩
            | some M =>
              rw [hi] at hm
              obtain ⟨x, rfl, hox⟩ := hm
              obtain ⟨VA, VC, rfl, -, -, -, hrow⟩ := own_row hox
              exact .inl ⟨M, rfl, VA, VC, rfl, hrow⟩
          · obtain ⟨m1, m2, m3, m4, _⟩ := mg M hM
            refine rolled_more MA MC M 60 (.inr (.inl rfl)) W hr m2 m1 m3 _ (fun e w' hb q1 q2 => ?_)
            rw [m4] at q1 q2
            cases hi : ins L1 (bk 60 (ptE (plc ss s) t v)) with
            | none => exact ⟨⟨_, q2 hi⟩, hb⟩
            | some N =>
              obtain ⟨x, rfl, _⟩ := q1 N hi
              exact ⟨⟨x, rfl⟩, hb⟩
          · obtain ⟨m1, m2, m3, _, m4⟩ := mg M hM
            refine rolled_more MA MC M 3600 (.inr (.inr rfl)) W hr m2 m1 m3 _ (fun e w' hb q1 q2 => ?_)
            rw [m4] at q1 q2
            cases hi : ins L2 (bk 3600 (ptE (plc ss s) t v)) with
            | none => exact ⟨⟨_, q2 hi⟩, hb⟩
            | some N =>
              obtain ⟨x, rfl, _⟩ := q1 N hi
              exact ⟨⟨x, rfl⟩, hb⟩
          · rintro e w' ⟨hb, h⟩
            rcases h with ⟨M, h16, hM, o1, o2, VA, VC, MA, MC, rfl, hSt, hRo⟩ | ⟨hno, rfl⟩
            · exact ⟨VA, MA, _, VC, _, MC, 0, rfl, hb, .inr ⟨rfl, L0, L1, L2, M, ⟨hB, hp, h16, hL, hM, (fun e => by rw [e] at o1; cases o1), (fun e => by rw [e] at o2; cases o2), (mg M hM).2.1⟩, rfl, rfl, hSt, hRo⟩⟩
            · refine docTo_no hb (by decide) (.inr (.inr ⟨hB, hp, rfl, ?_⟩))
              rcases hno with h | h | h | h
              · exact .inl h
              · exact .inr ⟨L0, L1, L2, hL, .inl h⟩
              · exact .inr ⟨L0, L1, L2, hL, .inr (.inl (by cases hi : ins L1 (bk 60 (ptE (plc ss s) t v)) with | none => rfl | some N => rw [hi] at h; cases h))⟩
              · exact .inr ⟨L0, L1, L2, hL, .inr (.inr (by cases hi : ins L2 (bk 3600 (ptE (plc ss s) t v)) with | none => rfl | some N => rw [hi] at h; cases h))⟩

end Go.Proofs.YtlojfgdpmaigmadGreatDoor

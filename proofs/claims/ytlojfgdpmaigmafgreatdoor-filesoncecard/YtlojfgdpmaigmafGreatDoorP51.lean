/- base.Add: what it answers, at any base and any point. -/
import Derived.Test.YtlojfgdpmaigmafGreatDoorP47
import Derived.Test.YtlojfgdpmaigmafGreatDoorP43
import Derived.Test.YtlojfgdpmaigmafGreatDoorP15
import Derived.Test.YtlojfgdpmaigmafGreatDoorP12
import Derived.Test.YtlojfgdpmaigmafGreatDoorP42
import Derived.Test.YtlojfgdpmaigmafGreatDoorP45
import Derived.Test.YtlojfgdpmaigmafGreatDoorP30
import Derived.Test.YtlojfgdpmaigmafGreatDoorP28
import Derived.Test.YtlojfgdpmaigmafGreatDoorP36
import Derived.Test.YtlojfgdpmaigmafGreatDoorP35
namespace Go.Proofs.YtlojfgdpmaigmafGreatDoor
open Go.RowKit Plain Go.Shelf

/-- A base in memory of its own. -/
structure OwnB (B : Nat) (w : World) (A : Option Addr) (C : Nat) (ss : List ByteArray) (t0 t1 t2 : TR) : Prop where
  sr : w.ownsRow B 9 1 (.slice A ss.length C) ss.length (strs ss)
  se : ∀ s ∈ ss, s.size ≤ 140737488351232
  sn : ss.length ≤ 17
  n0 : ∃ g, t0.A = some ⟨g, 0, none⟩ ∧ NT B w g t0.C t0.ps
  n1 : ∃ g, t1.A = some ⟨g, 0, none⟩ ∧ NT B w g t1.C t1.ps
  n2 : ∃ g, t2.A = some ⟨g, 0, none⟩ ∧ NT B w g t2.C t2.ps

theorem OwnB.keep {B B' : Nat} {w w' : World} {A : Option Addr} {C : Nat} {ss : List ByteArray} {t0 t1 t2 : TR} (h : OwnB B w A C ss t0 t1 t2) (hb : B' ≤ B) (hk : ∀ k, B ≤ k → k < w.heap.size → w'.heap[k]? = w.heap[k]?) : OwnB B' w' A C ss t0 t1 t2 := by
  obtain ⟨g0, e0, k0⟩ := h.n0
  obtain ⟨g1, e1, k1⟩ := h.n1
  obtain ⟨g2, e2, k2⟩ := h.n2
  exact ⟨own_mono (own_of_block h.sr fun k hk' => hk k (h.sr.lt k hk').1 (h.sr.lt k hk').2) hb, h.se, h.sn, ⟨g0, e0, (k0.of_blocks fun k hk' => hk k (k0.lt k hk').1 (k0.lt k hk').2).low hb⟩, ⟨g1, e1, (k1.of_blocks fun k hk' => hk k (k1.lt k hk').1 (k1.lt k hk').2).low hb⟩, ⟨g2, e2, (k2.of_blocks fun k hk' => hk k (k2.lt k hk').1 (k2.lt k hk').2).low hb⟩⟩

theorem root_wf {ns : List Nd} {root : Int} (h : treeC ns root = 0) : (Lit.int .i64 root).wf = true := by
  have hz := (tree_each h).1
  have : 0 ≤ root ∧ root ≤ 2000 := by
    rcases treeC_sub h with ⟨ht, P, hs, hp⟩ | ⟨_, rfl⟩
    · have := Sub_self hs
      omega
    · omega
  exact WalkArith.wf_i64 (by omega)

end Go.Proofs.YtlojfgdpmaigmafGreatDoor

/- Points that a base knows: in plain terms. -/
namespace Go.Proofs.YtlojfgdpmaigmafGreatDoor
open Go.RowKit Plain

structure Pt where
  s : ByteArray
  t : Int
  v : Int
deriving Inhabited

section
variable {ss : List ByteArray} {f : Int} {n0 n1 n2 m0 m1 m2 : List Nd} {r0 r1 r2 q0 q1 q2 : Int} {pts : List Pt} {L0 L1 L2 : List En}

/-! ### Of a series, within times -/

end

end Go.Proofs.YtlojfgdpmaigmafGreatDoor

/- TreeTells of package winnowerkeep: it is so. -/
namespace Go.Proofs.YtlojfgdpmaigmafGreatDoor
open Go.RowKit Plain Go.Shelf

theorem new_allP : allP ([zleaf].map PN.nd) 0 0 1099511627776 = (0, []) := by
  have h : treeC ([zleaf].map PN.nd) 0 = 0 := by decide
  exact allP_of h (by rw [allR_all h]; rfl)

theorem new_base : baseB [] 0 ([zleaf].map PN.nd) 0 ([zleaf].map PN.nd) 0 ([zleaf].map PN.nd) 0 = true := by
  have hb : bookP ([zleaf].map PN.nd) 0 0 0 = some [] := by
    unfold bookP
    rw [new_allP]
    rfl
  have hs : ∀ sz, stepB sz [] ([zleaf].map PN.nd) 0 = true := fun sz => by
    unfold stepB
    rw [new_allP]
    rfl
  have ht : treesB 0 0 ([zleaf].map PN.nd) 0 ([zleaf].map PN.nd) 0 ([zleaf].map PN.nd) 0 = true := by
    unfold treesB
    rw [hb]
    simp only [hs]
    rfl
  unfold baseB
  have e : ((([] : List ByteArray).length : Nat) : Int) = 0 := rfl
  rw [e, ht]
  decide

theorem new_L {L0 L1 L2 : List En} (h : BaseL [] 0 ([zleaf].map PN.nd) 0 ([zleaf].map PN.nd) 0 ([zleaf].map PN.nd) 0 L0 L1 L2) : L0 = [] ∧ L1 = [] ∧ L2 = [] :=
  ⟨(Prod.mk.inj (h.a0.symm.trans new_allP)).2, (Prod.mk.inj (h.a1.symm.trans new_allP)).2, (Prod.mk.inj (h.a2.symm.trans new_allP)).2⟩

end Go.Proofs.YtlojfgdpmaigmafGreatDoor

/- A base in memory, and the points that it knows: what the calls make of it. -/
namespace Go.Proofs.YtlojfgdpmaigmafGreatDoor
open Go.RowKit Plain Go.Shelf

structure BaseAt (w : World) (A : Option Addr) (C : Nat) (ss : List ByteArray) (t0 t1 t2 : TR) : Prop where
  nn : A = none → C = 0
  len : ss.length ≤ C
  st : StrsAt w.heap.size w A ss
  o0 : t0.ok w
  o1 : t1.ok w
  o2 : t2.ok w

section
variable {B C : Nat} {A : Option Addr} {ss : List ByteArray} {t0 t1 t2 : TR} {f : Int} {pts : List Pt} {w w' : World}

theorem BaseAt.up (h : BaseAt w A C ss t0 t1 t2) (hb : Below w.heap.size w w') : BaseAt w' A C ss t0 t1 t2 :=
  ⟨h.nn, h.len, h.st.up hb, ⟨h.o0.1.up hb, h.o0.2⟩, ⟨h.o1.1.up hb, h.o1.2⟩, ⟨h.o2.1.up hb, h.o2.2⟩⟩

end

end Go.Proofs.YtlojfgdpmaigmafGreatDoor

/- file.emptyMayBe: is there a base of these names and this Floor, if it knows nothing? -/
namespace Go.Proofs.YtlojfgdpmaigmafGreatDoor
open Go.RowKit Plain Go.Shelf

def emptyB (ss : List ByteArray) (f : Int) : Bool := decide (ss.length ≤ 16) && (inB f 0 1048575 && (decide (f % 3600 = 0) && namesB ss))

theorem zl_all : allP ([zleaf].map PN.nd) 0 0 1099511627776 = (0, []) := by
  obtain ⟨L0, L1, L2, hL⟩ := baseL new_base
  obtain ⟨rfl, rfl, rfl⟩ := new_L hL
  exact hL.a0

theorem empty_base (ss : List ByteArray) (f : Int) : baseB ss f ([zleaf].map PN.nd) 0 ([zleaf].map PN.nd) 0 ([zleaf].map PN.nd) 0 = emptyB ss f := by
  have ht : treesB ss.length f ([zleaf].map PN.nd) 0 ([zleaf].map PN.nd) 0 ([zleaf].map PN.nd) 0 = true := by
    have hb : bookP ([zleaf].map PN.nd) 0 ss.length f = some [] := by
      unfold bookP
      rw [zl_all]
      rfl
    have hs : ∀ size : Int, stepB size [] ([zleaf].map PN.nd) 0 = true := fun size => by
      unfold stepB
      rw [zl_all]
      rfl
    unfold treesB
    rw [hb]
    simp only [hs, Bool.and_self]
  unfold baseB emptyB
  rw [ht, Bool.and_true]

/-- The tree of a new base, where it lies. -/
def zTR (g : Nat) : TR := ⟨some ⟨g, 0, none⟩, 1, [zleaf], 0⟩

theorem zTR_ok {B g : Nat} {w : World} (h : NT B w g 1 [zleaf]) : (zTR g).ok w := by
  obtain ⟨L0, L1, L2, hL⟩ := baseL new_base
  have k0 := (allP_zero hL.a0).1
  exact ⟨h.nodes, treeC_wf k0, root_wf k0⟩

set_option maxRecDepth 20000 in
set_option maxHeartbeats 2000000 in
theorem emptyMay_any (A : Option Addr) (C : Nat) (ss : List ByteArray) (f : Int) (w : World) (hZ : SzAt w) (hC : ss.length ≤ C) (hS : StrsAt w.heap.size w A ss) :
    Calls Tryz.prog 81 #[.slice A ss.length C, .int .i64 f] w fun e w' => e = .returned (.bool (emptyB ss f)) ∧ Below w.heap.size w w' := by
  obtain ⟨bb, hbb⟩ : ∃ bb, emptyB ss f = bb := ⟨_, rfl⟩
  rw [hbb]
  have CK := hideC fun W (hW : Below w.heap.size w W) g0 g1 g2 (h0 : (zTR g0).ok W) (h1 : (zTR g1).ok W) (h2 : (zTR g2).ok W) => bcheck_any A C ss (zTR g0) (zTR g1) (zTR g2) f W (hZ.below hW) hC (hS.up hW) h0 h1 h2 bb (by show _ = _; rw [← hbb, ← empty_base]; rfl)
  have BN := hideC (bnew_own w)
  simp only [baseV, zTR] at CK
  clear hbb hZ hS
  cases bb with
  | true =>
    simp only [if_true] at CK
    go_enter Tryz.func81, Tryz.ntmps81
    go_upto_region 2 with (first
      | (go_at_call 50; refine BN.out.mono ?_; rintro e w2 ⟨g0, g1, g2, rfl, n0, n1, n2, hb2⟩; have H0 := hideC (fun W (hW : Below w2.heap.size w2 W) => (⟨(zTR_ok n0).1.up hW, (zTR_ok n0).2⟩ : (zTR g0).ok W)); have H1 := hideC (fun W (hW : Below w2.heap.size w2 W) => (⟨(zTR_ok n1).1.up hW, (zTR_ok n1).2⟩ : (zTR g1).ok W)); have H2 := hideC (fun W (hW : Below w2.heap.size w2 W) => (⟨(zTR_ok n2).1.up hW, (zTR_ok n2).2⟩ : (zTR g2).ok W)); have HB2 := hideC hb2; clear n0 n1 n2 hb2))
    go_wp2_with (first
      | (go_at_call 15; refine (CK.out _ (nextB HB2.out (Nat.le_refl _) (by repeat (first | exact (Below.refl _ _).alloc (Nat.le_refl _) _ | refine Below.setCell ?_ (Nat.le_refl _) _))) _ _ _ (H0.out _ (by repeat (first | exact (Below.refl _ _).alloc (Nat.le_refl _) _ | refine Below.setCell ?_ (Nat.le_refl _) _))) (H1.out _ (by repeat (first | exact (Below.refl _ _).alloc (Nat.le_refl _) _ | refine Below.setCell ?_ (Nat.le_refl _) _))) (H2.out _ (by repeat (first | exact (Below.refl _ _).alloc (Nat.le_refl _) _ | refine Below.setCell ?_ (Nat.le_refl _) _)))).mono ?_; rintro e w3 ⟨rfl, hb3⟩))
    go_ret
    exact ⟨rfl, nextB (nextB HB2.out (Nat.le_refl _) (by repeat (first | exact (Below.refl _ _).alloc (Nat.le_refl _) _ | refine Below.setCell ?_ (Nat.le_refl _) _))) (Nat.le_refl _) hb3⟩
  | false =>
    simp only [Bool.false_eq_true, if_false] at CK
    go_enter Tryz.func81, Tryz.ntmps81
    go_upto_region 2 with (first
      | (go_at_call 50; refine BN.out.mono ?_; rintro e w2 ⟨g0, g1, g2, rfl, n0, n1, n2, hb2⟩; have H0 := hideC (fun W (hW : Below w2.heap.size w2 W) => (⟨(zTR_ok n0).1.up hW, (zTR_ok n0).2⟩ : (zTR g0).ok W)); have H1 := hideC (fun W (hW : Below w2.heap.size w2 W) => (⟨(zTR_ok n1).1.up hW, (zTR_ok n1).2⟩ : (zTR g1).ok W)); have H2 := hideC (fun W (hW : Below w2.heap.size w2 W) => (⟨(zTR_ok n2).1.up hW, (zTR_ok n2).2⟩ : (zTR g2).ok W)); have HB2 := hideC hb2; clear n0 n1 n2 hb2))
    go_wp2_with (first
      | (go_at_call 15; refine (CK.out _ (nextB HB2.out (Nat.le_refl _) (by repeat (first | exact (Below.refl _ _).alloc (Nat.le_refl _) _ | refine Below.setCell ?_ (Nat.le_refl _) _))) _ _ _ (H0.out _ (by repeat (first | exact (Below.refl _ _).alloc (Nat.le_refl _) _ | refine Below.setCell ?_ (Nat.le_refl _) _))) (H1.out _ (by repeat (first | exact (Below.refl _ _).alloc (Nat.le_refl _) _ | refine Below.setCell ?_ (Nat.le_refl _) _))) (H2.out _ (by repeat (first | exact (Below.refl _ _).alloc (Nat.le_refl _) _ | refine Below.setCell ?_ (Nat.le_refl _) _)))).mono ?_; rintro e w3 ⟨rfl, hb3⟩))
    go_ret
    exact ⟨rfl, nextB (nextB HB2.out (Nat.le_refl _) (by repeat (first | exact (Below.refl _ _).alloc (Nat.le_refl _) _ | refine Below.setCell ?_ (Nat.le_refl _) _))) (Nat.le_refl _) hb3⟩

end Go.Proofs.YtlojfgdpmaigmafGreatDoor

/- file.bucketsOf: its walk. -/
namespace Go.Proofs.YtlojfgdpmaigmafGreatDoor
open Go.RowKit Plain Go.Shelf

/-- Points that were read: keys that rise, each Good. -/
structure PtsL (l : List En) : Prop where
  z : l.length ≤ 28000
  rise : l.Pairwise fun a b => a.key < b.key
  good : ∀ x ∈ l, Good x.ru
  keys : ∀ x ∈ l, 0 ≤ x.key ∧ x.key < 1099511627776

def GaTo (l : List En) (size : Int) (w : World) (e : Ending) (w' : World) : Prop :=
  Below w.heap.size w w' ∧ ((∃ ys v, rollP size l = some ys ∧ e = .returned (.tuple #[v, .int .i64 0]) ∧ w'.ownsRow w.heap.size 86 7 v ys.length (flatE ys)) ∨ (rollP size l = none ∧ e = .returned (.tuple #[.slice none 0 0, .int .i64 1])))

theorem gather_any (A : Option Addr) (C : Nat) (l : List En) (size : Int) (hs : size = 1 ∨ size = 60 ∨ size = 3600) (w : World) (h : RowAt w.heap.size w A (flatE l)) (hl : PtsL l) :
    Calls Tryz.prog 110 #[.slice A l.length C, .int .i64 size] w (GaTo l size w) :=
  bucketsG_any A C l size hs w h hl.z hl.rise hl.good hl.keys _ (fun e w' hb h1 h2 => by
    cases hr : rollP size l with
    | none => exact ⟨hb, .inr ⟨hr, h2 hr⟩⟩
    | some ys =>
      obtain ⟨v, he, ho⟩ := h1 ys hr
      exact ⟨hb, .inl ⟨ys, v, hr, he, ho⟩⟩)

theorem gather_some {A : Option Addr} {C : Nat} {l ys : List En} {size : Int} (hs : size = 1 ∨ size = 60 ∨ size = 3600) {w : World} (h : RowAt w.heap.size w A (flatE l)) (hl : PtsL l) (hr : rollP size l = some ys) :
    Calls Tryz.prog 110 #[.slice A l.length C, .int .i64 size] w fun e w' => ∃ g c, e = .returned (.tuple #[.slice g ys.length c, .int .i64 0]) ∧ Below w.heap.size w w' ∧ w'.ownsRow w.heap.size 86 7 (.slice g ys.length c) ys.length (flatE ys) := by
  refine (gather_any A C l size hs w h hl).mono ?_
  rintro e w' ⟨hb, ⟨zs, v, hz, rfl, ho⟩ | ⟨hz, _⟩⟩
  · rw [hr] at hz
    cases hz
    obtain ⟨g, c, rfl, -⟩ := own_row ho
    exact ⟨g, c, rfl, hb, ho⟩
  · rw [hr] at hz
    cases hz

theorem gather_none {A : Option Addr} {C : Nat} {l : List En} {size : Int} (hs : size = 1 ∨ size = 60 ∨ size = 3600) {w : World} (h : RowAt w.heap.size w A (flatE l)) (hl : PtsL l) (hr : rollP size l = none) :
    Calls Tryz.prog 110 #[.slice A l.length C, .int .i64 size] w fun e w' => e = .returned (.tuple #[.slice none 0 0, .int .i64 1]) ∧ Below w.heap.size w w' := by
  refine (gather_any A C l size hs w h hl).mono ?_
  rintro e w' ⟨hb, ⟨zs, v, hz, _⟩ | ⟨_, he⟩⟩
  · rw [hr] at hz
    cases hz
  · exact ⟨he, hb⟩

theorem own_keep {B : Nat} {w w' : World} {t : TypeId} {size n : Nat} {v : Value} {vs : List Value} (h : w.ownsRow B t size v n vs) (hk : ∀ j, B ≤ j → j < w.heap.size → w'.heap[j]? = w.heap[j]?) : w'.ownsRow B t size v n vs :=
  own_of_block h fun k e => hk k (h.lt k e).1 (h.lt k e).2

theorem own_down {B B' : Nat} {w : World} {t : TypeId} {size n : Nat} {v : Value} {vs : List Value} (h : w.ownsRow B t size v n vs) (hB : B' ≤ B) : w.ownsRow B' t size v n vs :=
  ⟨h.1, h.2.imp id fun ⟨g, cap, cur, hv, hb, r⟩ => ⟨g, cap, cur, hv, Nat.le_trans hB hb, r⟩⟩

/-- The buckets that were made, in their box. -/
def BkAt (B : Nat) (w : World) (xb : Nat) (l : List En) : Nat → Prop
  | 0 => RowL w xb 141 [.slice none 0 0, .slice none 0 0, .slice none 0 0]
  | 1 => ∃ g0 c0 y0, rollP 1 l = some y0 ∧ w.ownsRow B 86 7 (.slice g0 y0.length c0) y0.length (flatE y0) ∧ RowL w xb 141 [.slice g0 y0.length c0, .slice none 0 0, .slice none 0 0]
  | 2 => ∃ g0 c0 y0 g1 c1 y1, rollP 1 l = some y0 ∧ rollP 60 l = some y1 ∧ w.ownsRow B 86 7 (.slice g0 y0.length c0) y0.length (flatE y0) ∧ w.ownsRow B 86 7 (.slice g1 y1.length c1) y1.length (flatE y1) ∧ RowL w xb 141 [.slice g0 y0.length c0, .slice g1 y1.length c1, .slice none 0 0]
  | _ => ∃ g0 c0 y0 g1 c1 y1 g2 c2 y2, rollP 1 l = some y0 ∧ rollP 60 l = some y1 ∧ rollP 3600 l = some y2 ∧ w.ownsRow B 86 7 (.slice g0 y0.length c0) y0.length (flatE y0) ∧ w.ownsRow B 86 7 (.slice g1 y1.length c1) y1.length (flatE y1) ∧ w.ownsRow B 86 7 (.slice g2 y2.length c2) y2.length (flatE y2) ∧ RowL w xb 141 [.slice g0 y0.length c0, .slice g1 y1.length c1, .slice g2 y2.length c2]

/-- What bucketsOf answers. -/
def BkTo (l : List En) (w : World) (e : Ending) (w' : World) : Prop :=
  Below w.heap.size w w' ∧ (((rollP 1 l = none ∨ rollP 60 l = none ∨ rollP 3600 l = none) ∧ e = .returned (.tuple #[.agg #[.slice none 0 0, .slice none 0 0, .slice none 0 0], .int .i64 1])) ∨
    (∃ g0 c0 y0 g1 c1 y1 g2 c2 y2, rollP 1 l = some y0 ∧ rollP 60 l = some y1 ∧ rollP 3600 l = some y2 ∧ w'.ownsRow w.heap.size 86 7 (.slice g0 y0.length c0) y0.length (flatE y0) ∧ w'.ownsRow w.heap.size 86 7 (.slice g1 y1.length c1) y1.length (flatE y1) ∧ w'.ownsRow w.heap.size 86 7 (.slice g2 y2.length c2) y2.length (flatE y2) ∧ e = .returned (.tuple #[.agg #[.slice g0 y0.length c0, .slice g1 y1.length c1, .slice g2 y2.length c2], .int .i64 0])))

theorem own_old {B xb k n : Nat} {w w3 : World} {u v : Value} {vs : List Value} (h : w.ownsRow B 86 7 v n vs) (hb : Below w.heap.size w w3) (hx : xb < B) : (w3.setCell ⟨xb, k, none⟩ u).ownsRow B 86 7 v n vs :=
  own_keep h fun j h1 h2 => (Below.heap_setCell _ _ _ _ (show j ≠ xb by omega)).trans (hb.block j h2)

theorem own_new {B B' xb k n : Nat} {w3 : World} {u v : Value} {vs : List Value} (h : w3.ownsRow B' 86 7 v n vs) (hB : B ≤ B') (hx : xb < B) : (w3.setCell ⟨xb, k, none⟩ u).ownsRow B 86 7 v n vs :=
  own_keep (own_down h hB) fun j h1 _ => Below.heap_setCell _ _ _ _ (show j ≠ xb by omega)

theorem own_end {B B' rb n : Nat} {w : World} {u0 u1 u2 v : Value} {vs : List Value} (h : w.ownsRow B 86 7 v n vs) (hB : B' ≤ B) (hx : rb < B) : (((w.setCell ⟨rb, 0, none⟩ u0).setCell ⟨rb, 1, none⟩ u1).setCell ⟨rb, 2, none⟩ u2).ownsRow B' 86 7 v n vs :=
  own_down (own_keep h fun j h1 _ => (Below.heap_setCell _ _ _ _ (show j ≠ rb by omega)).trans ((Below.heap_setCell _ _ _ _ (show j ≠ rb by omega)).trans (Below.heap_setCell _ _ _ _ (show j ≠ rb by omega)))) hB

set_option maxRecDepth 20000 in
set_option maxHeartbeats 4000000 in
theorem bucketsOf_any (A : Option Addr) (C : Nat) (l : List En) (w : World) (hZ : SzAt w) (h : RowAt w.heap.size w A (flatE l)) (hl : PtsL l) :
    Calls Tryz.prog 83 #[.slice A l.length C] w (BkTo l w) := by
  unfold BkTo
  have SZ := hideC fun W (hW : Below w.heap.size w W) => sizes_any W (hZ.below hW)
  have HRW := hideC h
  have HPL := hideC hl
  clear h hl hZ
  have i0 : ∀ w, (Instr.index 156 (.agg #[.int .i64 1, .int .i64 60, .int .i64 3600]) (.int .i64 0)).run Tryz.prog w = .ok (.int .i64 1) w := fun _ => by kernel_rfl
  have i1 : ∀ w, (Instr.index 156 (.agg #[.int .i64 1, .int .i64 60, .int .i64 3600]) (.int .i64 1)).run Tryz.prog w = .ok (.int .i64 60) w := fun _ => by kernel_rfl
  have i2 : ∀ w, (Instr.index 156 (.agg #[.int .i64 1, .int .i64 60, .int .i64 3600]) (.int .i64 2)).run Tryz.prog w = .ok (.int .i64 3600) w := fun _ => by kernel_rfl
  go_enter Tryz.func83, Tryz.ntmps83
  go_upto_region 2 with fail
  obtain ⟨w0, hw0⟩ : ∃ w0, w0 = (w.alloc (.cells #[.slice none 0 0, .slice none 0 0, .slice none 0 0] 141)).alloc (.cells #[.slice none 0 0, .slice none 0 0, .slice none 0 0] 141) := ⟨_, rfl⟩
  obtain ⟨xb, hxb⟩ : ∃ xb, xb = w.heap.size + 1 := ⟨_, rfl⟩
  obtain ⟨rb, hrb⟩ : ∃ rb, rb = w.heap.size := ⟨_, rfl⟩
  have HX : Hid (w.heap.size ≤ rb ∧ rb < xb) := ⟨by omega, by omega⟩
  have XA : Hid (RowL w0 xb 141 [.slice none 0 0, .slice none 0 0, .slice none 0 0]) := by
    have k := rowL_alloc (w.alloc (.cells #[.slice none 0 0, .slice none 0 0, .slice none 0 0] 141)) [.slice none 0 0, .slice none 0 0, .slice none 0 0] 141
    rw [hw0, hxb]
    show RowL _ _ _ _
    simpa using k
  have XR : Hid (RowL w0 rb 141 [.slice none 0 0, .slice none 0 0, .slice none 0 0]) := by
    rw [hw0, hrb]
    exact (rowL_alloc w [.slice none 0 0, .slice none 0 0, .slice none 0 0] 141).below ((Below.refl _ _).alloc (Nat.le_refl _) _) (by simp)
  have HB0 : Hid (Below w.heap.size w w0) := by
    rw [hw0]
    exact ((Below.refl _ _).alloc (Nat.le_refl _) _).alloc (by simp) _
  rw [← hw0, ← hxb, ← hrb]
  clear hw0 hxb hrb
  go_upto_region 3 with (first
    | (go_at_call 99; refine (SZ.out _ HB0.out).mono ?_; rintro e w1 ⟨rfl, hb1⟩; have XA' := hideC (XA.out.below hb1 XA.out.lt); have XR' := hideC (XR.out.below hb1 XR.out.lt); have HB1 := hideC (nextB HB0.out (Nat.le_refl _) hb1); have hxl := XA'.out.lt; clear hb1 XA XR))
  clear SZ
  go_loopw [10] (fun vi wr => ∃ k : Nat, k ≤ 3 ∧ vi = .int .i64 (k : Int) ∧ Hid (BkAt w1.heap.size wr xb l k) ∧ Hid (Below w.heap.size w wr) ∧ Hid (w1.heap.size ≤ wr.heap.size) ∧ Hid (RowL wr rb 141 [.slice none 0 0, .slice none 0 0, .slice none 0 0])) (fun vi _ => 3 - (intOf vi).toNat)
  case atStart => exact ⟨0, by omega, rfl, XA'.out, HB1.out, Nat.le_refl _, XR'.out⟩
  case round =>
    obtain ⟨k, hk, rfl, HK, HB, HZ, HR⟩ := hrel
    rcases (show k = 0 ∨ k = 1 ∨ k = 2 ∨ k = 3 by omega) with rfl | rfl | rfl | rfl
    · have hrow : RowL wr xb 141 [.slice none 0 0, .slice none 0 0, .slice none 0 0] := HK.out
      have HRx := hideC hrow
      have x := fun j => HRx.out.cell j
      have lx := HRx.out.lt
      have rr := fun j => HR.out.cell j
      have lr := HR.out.lt
      have fr := fun j => HR.out.frozen j
      clear hrow HK 
      cases hr : rollP 1 l with
      | none =>
        have con := hideC (gather_none (C := C) (.inl rfl) (HRW.out.up HB.out) HPL.out hr)
        have HN := hideC hr
        clear hr
        go_wp2_with (first
          | (go_at_call 110; refine con.out.mono ?_; rintro e w3 ⟨rfl, hb3⟩; have R3 := hideC (HR.out.below hb3 HR.out.lt); have s := fun j => R3.out.cell j; have ls := R3.out.lt; have fs := fun j => R3.out.frozen j))
        refine bodyPost_ret (v := .tuple #[.agg #[.slice none 0 0, .slice none 0 0, .slice none 0 0], .int .i64 1]) (by simp [results, Tryz.results83, go_sem, s]) rfl ⟨?_, .inl ⟨.inl HN.out, rfl⟩⟩
        exact (((nextB HB.out (Nat.le_refl _) hb3).setCell HX.out.1 _).setCell HX.out.1 _).setCell HX.out.1 _
      | some y0 =>
        have con := hideC (gather_some (C := C) (.inl rfl) (HRW.out.up HB.out) HPL.out hr)
        have HN := hideC hr
        clear hr rr lr fr
        go_wp2_with (first
          | (go_at_call 110; refine con.out.mono ?_; rintro e w3 ⟨g0, c0, rfl, hb3, ho3⟩; have R3 := hideC (HR.out.below hb3 HR.out.lt); have X3 := hideC (HRx.out.below hb3 HRx.out.lt); have s := fun j => X3.out.cell j; have ls := X3.out.lt; have fs := fun j => X3.out.frozen j; have HB3 := hideC hb3; have HO3 := hideC ho3; clear hb3 ho3))
        exact ⟨⟨1, by omega, rfl, ⟨g0, c0, y0, HN.out, own_new HO3.out HZ.out hxl, X3.out.set 0 _⟩, (nextB HB.out (Nat.le_refl _) HB3.out).setCell (by have := HX.out; show w.heap.size ≤ xb; omega) _, by have := HB3.out.size; have := HZ.out; simp [Hid]; omega, R3.out.of_block (Below.heap_setCell _ _ _ _ (show rb ≠ xb by have := HX.out; omega))⟩, by simp only [intOf]; omega⟩
    · obtain ⟨g0, c0, y0, r0, o0, hrow⟩ := HK.out
      have HRx := hideC hrow
      have HO0 := hideC o0
      have HN0 := hideC r0
      have x := fun j => HRx.out.cell j
      have lx := HRx.out.lt
      have rr := fun j => HR.out.cell j
      have lr := HR.out.lt
      have fr := fun j => HR.out.frozen j
      clear hrow HK o0 r0
      cases hr : rollP 60 l with
      | none =>
        have con := hideC (gather_none (C := C) (.inr (.inl rfl)) (HRW.out.up HB.out) HPL.out hr)
        have HN := hideC hr
        clear hr
        go_wp2_with (first
          | (go_at_call 110; refine con.out.mono ?_; rintro e w3 ⟨rfl, hb3⟩; have R3 := hideC (HR.out.below hb3 HR.out.lt); have s := fun j => R3.out.cell j; have ls := R3.out.lt; have fs := fun j => R3.out.frozen j))
        refine bodyPost_ret (v := .tuple #[.agg #[.slice none 0 0, .slice none 0 0, .slice none 0 0], .int .i64 1]) (by simp [results, Tryz.results83, go_sem, s]) rfl ⟨?_, .inl ⟨.inr (.inl HN.out), rfl⟩⟩
        exact (((nextB HB.out (Nat.le_refl _) hb3).setCell HX.out.1 _).setCell HX.out.1 _).setCell HX.out.1 _
      | some y1 =>
        have con := hideC (gather_some (C := C) (.inr (.inl rfl)) (HRW.out.up HB.out) HPL.out hr)
        have HN := hideC hr
        clear hr rr lr fr
        go_wp2_with (first
          | (go_at_call 110; refine con.out.mono ?_; rintro e w3 ⟨g1, c1, rfl, hb3, ho3⟩; have R3 := hideC (HR.out.below hb3 HR.out.lt); have X3 := hideC (HRx.out.below hb3 HRx.out.lt); have s := fun j => X3.out.cell j; have ls := X3.out.lt; have fs := fun j => X3.out.frozen j; have HB3 := hideC hb3; have HO3 := hideC ho3; clear hb3 ho3))
        exact ⟨⟨2, by omega, rfl, ⟨g0, c0, y0, g1, c1, y1, HN0.out, HN.out, own_old HO0.out HB3.out hxl, own_new HO3.out HZ.out hxl, X3.out.set 1 _⟩, (nextB HB.out (Nat.le_refl _) HB3.out).setCell (by have := HX.out; show w.heap.size ≤ xb; omega) _, by have := HB3.out.size; have := HZ.out; simp [Hid]; omega, R3.out.of_block (Below.heap_setCell _ _ _ _ (show rb ≠ xb by have := HX.out; omega))⟩, by simp only [intOf]; omega⟩
    · obtain ⟨g0, c0, y0, g1, c1, y1, r0, r1, o0, o1, hrow⟩ := HK.out
      have HRx := hideC hrow
      have HO0 := hideC o0
      have HN0 := hideC r0
      have HO1 := hideC o1
      have HN1 := hideC r1
      have x := fun j => HRx.out.cell j
      have lx := HRx.out.lt
      have rr := fun j => HR.out.cell j
      have lr := HR.out.lt
      have fr := fun j => HR.out.frozen j
      clear hrow HK o0 r0 o1 r1
      cases hr : rollP 3600 l with
      | none =>
        have con := hideC (gather_none (C := C) (.inr (.inr rfl)) (HRW.out.up HB.out) HPL.out hr)
        have HN := hideC hr
        clear hr
        go_wp2_with (first
          | (go_at_call 110; refine con.out.mono ?_; rintro e w3 ⟨rfl, hb3⟩; have R3 := hideC (HR.out.below hb3 HR.out.lt); have s := fun j => R3.out.cell j; have ls := R3.out.lt; have fs := fun j => R3.out.frozen j))
        refine bodyPost_ret (v := .tuple #[.agg #[.slice none 0 0, .slice none 0 0, .slice none 0 0], .int .i64 1]) (by simp [results, Tryz.results83, go_sem, s]) rfl ⟨?_, .inl ⟨.inr (.inr HN.out), rfl⟩⟩
        exact (((nextB HB.out (Nat.le_refl _) hb3).setCell HX.out.1 _).setCell HX.out.1 _).setCell HX.out.1 _
      | some y2 =>
        have con := hideC (gather_some (C := C) (.inr (.inr rfl)) (HRW.out.up HB.out) HPL.out hr)
        have HN := hideC hr
        clear hr rr lr fr
        go_wp2_with (first
          | (go_at_call 110; refine con.out.mono ?_; rintro e w3 ⟨g2, c2, rfl, hb3, ho3⟩; have R3 := hideC (HR.out.below hb3 HR.out.lt); have X3 := hideC (HRx.out.below hb3 HRx.out.lt); have s := fun j => X3.out.cell j; have ls := X3.out.lt; have fs := fun j => X3.out.frozen j; have HB3 := hideC hb3; have HO3 := hideC ho3; clear hb3 ho3))
        exact ⟨⟨3, by omega, rfl, ⟨g0, c0, y0, g1, c1, y1, g2, c2, y2, HN0.out, HN1.out, HN.out, own_old HO0.out HB3.out hxl, own_old HO1.out HB3.out hxl, own_new HO3.out HZ.out hxl, X3.out.set 2 _⟩, (nextB HB.out (Nat.le_refl _) HB3.out).setCell (by have := HX.out; show w.heap.size ≤ xb; omega) _, by have := HB3.out.size; have := HZ.out; simp [Hid]; omega, R3.out.of_block (Below.heap_setCell _ _ _ _ (show rb ≠ xb by have := HX.out; omega))⟩, by simp only [intOf]; omega⟩
    · obtain ⟨g0, c0, y0, g1, c1, y1, g2, c2, y2, r0, r1, r2, o0, o1, o2, hrow⟩ := HK.out
      have HRx := hideC hrow
      have HO0 := hideC o0
      have HN0 := hideC r0
      have HO1 := hideC o1
      have HN1 := hideC r1
      have HO2 := hideC o2
      have HN2 := hideC r2
      have x := fun j => HRx.out.cell j
      have lx := HRx.out.lt
      have rr := fun j => HR.out.cell j
      have lr := HR.out.lt
      have fr := fun j => HR.out.frozen j
      clear hrow HK o0 r0 o1 r1 o2 r2
      go_wp2_with fail
      refine bodyPost_ret (v := .tuple #[.agg #[.slice g0 y0.length c0, .slice g1 y1.length c1, .slice g2 y2.length c2], .int .i64 0]) (by simp [results, Tryz.results83, go_sem, rr]) rfl ⟨((HB.out.setCell HX.out.1 _).setCell HX.out.1 _).setCell HX.out.1 _, .inr ⟨g0, c0, y0, g1, c1, y1, g2, c2, y2, HN0.out, HN1.out, HN2.out, ?_, ?_, ?_, rfl⟩⟩
      · exact own_end HO0.out HB1.out.size (by have := HX.out; omega)
      · exact own_end HO1.out HB1.out.size (by have := HX.out; omega)
      · exact own_end HO2.out HB1.out.size (by have := HX.out; omega)

end Go.Proofs.YtlojfgdpmaigmafGreatDoor

/- file.baseOf: its walk. -/
namespace Go.Proofs.YtlojfgdpmaigmafGreatDoor
open Go.RowKit Plain Go.Shelf

/-- May there be a base of this? -/
def bofB (ss : List ByteArray) (f : Int) (L : List En) : Bool := emptyB ss f && L.all (pointG ss.length f)

theorem pts_of {n f : Int} {L : List En} (hz : L.length ≤ 28000) (hr : L.Pairwise fun a b => a.key < b.key) (hk : ∀ x ∈ L, 0 ≤ x.key ∧ x.key < 1099511627776) (hc : ∀ x ∈ L, x.c ≠ 0) (h : L.all (pointG n f) = true) : PtsL L := by
  refine ⟨hz, hr, fun x hx => ⟨?_, hc x hx⟩, hk⟩
  have k := List.all_eq_true.1 h x hx
  unfold pointG at k
  simp only [Bool.and_eq_true, decide_eq_true_eq] at k
  exact k.2

set_option maxRecDepth 20000 in
set_option maxHeartbeats 4000000 in
theorem baseOf_bad (A VA : Option Addr) (C VC : Nat) (ss : List ByteArray) (f : Int) (L : List En) (w : World) (hZ : SzAt w) (hC : ss.length ≤ C) (hS : StrsAt w.heap.size w A ss) (hR : RowAt w.heap.size w VA (flatE L)) (hz : L.length ≤ 28000) (hk : ∀ x ∈ L, 0 ≤ x.key ∧ x.key < 1099511627776) (hc : ∀ x ∈ L, x.c ≠ 0)
    (hb : bofB ss f L = false) :
    Calls Tryz.prog 31 #[.slice A ss.length C, .int .i64 f, .slice VA L.length VC] w fun e w' => e = .returned (.tuple #[.agg #[.slice none 0 0, .slice none 0 0, .int .i64 0, .slice none 0 0, .int .i64 0, .slice none 0 0, .int .i64 0, .int .i64 0], .int .i64 7]) ∧ Below w.heap.size w w' := by
  unfold bofB at hb
  have EM := hideC fun W (hW : Below w.heap.size w W) => emptyMay_any A C ss f W (hZ.below hW) hC (hS.up hW)
  have PM := hideC fun W (hW : Below w.heap.size w W) => pointsG_any ss.length f VA VC L W (hR.up hW) hz hk hc
  have b0 : ∀ o : Obj, Below w.heap.size w (w.alloc o) := fun o => (Below.refl _ _).alloc (Nat.le_refl _) o
  clear hZ hS hR hz hk hc
  cases he : emptyB ss f with
  | false =>
    rw [he] at EM
    clear hb PM he
    go_enter Tryz.func31, Tryz.ntmps31
    go_wp2_with (first
      | (go_at_call 81; refine (EM.out _ (b0 _)).mono ?_; rintro e w1 ⟨rfl, hb1⟩; have XB := hideC ((rowL_alloc w [.slice none 0 0, .slice none 0 0, .int .i64 0, .slice none 0 0, .int .i64 0, .slice none 0 0, .int .i64 0, .int .i64 0] 29).below hb1 (by simp)); have x := fun j => XB.out.cell j; have lx := XB.out.lt; have fx := fun j => XB.out.frozen j; have HB1 := hideC (nextB (b0 _) (Nat.le_refl _) hb1); clear hb1))
    refine bodyPost_ret (v := .tuple #[.agg #[.slice none 0 0, .slice none 0 0, .int .i64 0, .slice none 0 0, .int .i64 0, .slice none 0 0, .int .i64 0, .int .i64 0], .int .i64 7]) (by simp [results, Tryz.results31, go_sem, x]) rfl ⟨rfl, ?_⟩
    exact set8_below HB1.out (Nat.le_refl _) _ _ _ _ _ _ _ _
  | true =>
    rw [he] at EM
    rw [he, Bool.true_and] at hb
    rw [hb] at PM
    clear hb he
    go_enter Tryz.func31, Tryz.ntmps31
    go_wp2_with (first
      | (go_at_call 81; refine (EM.out _ (b0 _)).mono ?_; rintro e w1 ⟨rfl, hb1⟩; have XB := hideC ((rowL_alloc w [.slice none 0 0, .slice none 0 0, .int .i64 0, .slice none 0 0, .int .i64 0, .slice none 0 0, .int .i64 0, .int .i64 0] 29).below hb1 (by simp)); have x := fun j => XB.out.cell j; have lx := XB.out.lt; have fx := fun j => XB.out.frozen j; have HB1 := hideC (nextB (b0 _) (Nat.le_refl _) hb1); clear hb1)
      | (go_at_call 82; refine (PM.out _ HB1.out).mono ?_; rintro e w2 ⟨rfl, hb2⟩; have XC := hideC (XB.out.below hb2 XB.out.lt); have y := fun j => XC.out.cell j; have ly := XC.out.lt; have fy := fun j => XC.out.frozen j; have HB2 := hideC (nextB HB1.out (Nat.le_refl _) hb2); clear hb2 x lx fx))
    refine bodyPost_ret (v := .tuple #[.agg #[.slice none 0 0, .slice none 0 0, .int .i64 0, .slice none 0 0, .int .i64 0, .slice none 0 0, .int .i64 0, .int .i64 0], .int .i64 7]) (by simp [results, Tryz.results31, go_sem, y]) rfl ⟨rfl, ?_⟩
    exact set8_below HB2.out (Nat.le_refl _) _ _ _ _ _ _ _ _

theorem buckets_none {A : Option Addr} {C : Nat} {l : List En} {w : World} (hZ : SzAt w) (h : RowAt w.heap.size w A (flatE l)) (hl : PtsL l) (hn : rollP 1 l = none ∨ rollP 60 l = none ∨ rollP 3600 l = none) :
    Calls Tryz.prog 83 #[.slice A l.length C] w fun e w' => e = .returned (.tuple #[.agg #[.slice none 0 0, .slice none 0 0, .slice none 0 0], .int .i64 1]) ∧ Below w.heap.size w w' := by
  refine (bucketsOf_any A C l w hZ h hl).mono ?_
  rintro e w' ⟨hb, ⟨_, he⟩ | ⟨_, _, y0, _, _, y1, _, _, y2, r0, r1, r2, _⟩⟩
  · exact ⟨he, hb⟩
  · rw [r0, r1, r2] at hn
    simp at hn

set_option maxRecDepth 20000 in
set_option maxHeartbeats 4000000 in
theorem baseOf_roll (A VA : Option Addr) (C VC : Nat) (ss : List ByteArray) (f : Int) (L : List En) (w : World) (hZ : SzAt w) (hC : ss.length ≤ C) (hS : StrsAt w.heap.size w A ss) (hR : RowAt w.heap.size w VA (flatE L)) (hz : L.length ≤ 28000) (hk : ∀ x ∈ L, 0 ≤ x.key ∧ x.key < 1099511627776) (hc : ∀ x ∈ L, x.c ≠ 0)
    (hr : L.Pairwise fun a b => a.key < b.key) (hb : bofB ss f L = true) (hn : rollP 1 L = none ∨ rollP 60 L = none ∨ rollP 3600 L = none) :
    Calls Tryz.prog 31 #[.slice A ss.length C, .int .i64 f, .slice VA L.length VC] w fun e w' => e = .returned (.tuple #[.agg #[.slice none 0 0, .slice none 0 0, .int .i64 0, .slice none 0 0, .int .i64 0, .slice none 0 0, .int .i64 0, .int .i64 0], .int .i64 7]) ∧ Below w.heap.size w w' := by
  unfold bofB at hb
  rw [Bool.and_eq_true] at hb
  obtain ⟨he, ha⟩ := hb
  have EM := hideC fun W (hW : Below w.heap.size w W) => emptyMay_any A C ss f W (hZ.below hW) hC (hS.up hW)
  have PM := hideC fun W (hW : Below w.heap.size w W) => pointsG_any ss.length f VA VC L W (hR.up hW) hz hk hc
  have b0 : ∀ o : Obj, Below w.heap.size w (w.alloc o) := fun o => (Below.refl _ _).alloc (Nat.le_refl _) o
  have BO := hideC fun W (hW : Below w.heap.size w W) => buckets_none (C := VC) (hZ.below hW) (hR.up hW) (pts_of hz hr hk hc ha) hn
  rw [he] at EM
  rw [ha] at PM
  clear hZ hS hR hz hk hc he ha hr hn
  go_enter Tryz.func31, Tryz.ntmps31
  go_upto_region 3 with (first
    | (go_at_call 81; refine (EM.out _ (b0 _)).mono ?_; rintro e w1 ⟨rfl, hb1⟩; have XB := hideC ((rowL_alloc w [.slice none 0 0, .slice none 0 0, .int .i64 0, .slice none 0 0, .int .i64 0, .slice none 0 0, .int .i64 0, .int .i64 0] 29).below hb1 (by simp)); have x := fun j => XB.out.cell j; have lx := XB.out.lt; have fx := fun j => XB.out.frozen j; have HB1 := hideC (nextB (b0 _) (Nat.le_refl _) hb1); clear hb1)
    | (go_at_call 82; refine (PM.out _ HB1.out).mono ?_; rintro e w2 ⟨rfl, hb2⟩; have XC := hideC (XB.out.below hb2 XB.out.lt); have y := fun j => XC.out.cell j; have ly := XC.out.lt; have fy := fun j => XC.out.frozen j; have HB2 := hideC (nextB HB1.out (Nat.le_refl _) hb2); clear hb2 x lx fx))
  go_upto_region 4 with (first
    | (go_at_call 83; refine (BO.out _ HB2.out).mono ?_; rintro e w3 ⟨rfl, hb3⟩; have XD := hideC (XC.out.below hb3 XC.out.lt); have z := fun j => XD.out.cell j; have lz := XD.out.lt; have fz := fun j => XD.out.frozen j; have HB3 := hideC (nextB HB2.out (Nat.le_refl _) hb3); clear hb3 y ly fy))
  obtain ⟨w4, hw4⟩ : ∃ w4, w4 = w3.alloc (.cells #[.slice none 0 0, .slice none 0 0, .slice none 0 0] 141) := ⟨_, rfl⟩
  have hb4 : Below w3.heap.size w3 w4 := by rw [hw4]; exact (Below.refl _ _).alloc (Nat.le_refl _) _
  have XE := hideC (XD.out.below hb4 XD.out.lt)
  have u := fun j => XE.out.cell j
  have lu := XE.out.lt
  have fu := fun j => XE.out.frozen j
  have HB4 := hideC (nextB HB3.out (Nat.le_refl _) hb4)
  rw [← hw4]
  clear hw4 hb4 z lz fz
  go_wp2_with fail
  refine bodyPost_ret (v := .tuple #[.agg #[.slice none 0 0, .slice none 0 0, .int .i64 0, .slice none 0 0, .int .i64 0, .slice none 0 0, .int .i64 0, .int .i64 0], .int .i64 7]) (by simp [results, Tryz.results31, go_sem, u]) rfl ⟨rfl, ?_⟩
  exact set8_below HB4.out (Nat.le_refl _) _ _ _ _ _ _ _ _

end Go.Proofs.YtlojfgdpmaigmafGreatDoor

/- base.nextFloor, base.younger: their walks. -/
namespace Go.Proofs.YtlojfgdpmaigmafGreatDoor
open Go.RowKit Plain Go.Shelf

theorem of_put {M : List En} {w w' : World} {e : Ending} (hf : faultE M = 0) (h : OfP M w e w') : PutC (fun c => c = 1 ∧ 2900 < M.length) (fun m q => allP m q 0 1099511627776 = (0, M)) w e w' := by
  obtain ⟨hb, h⟩ := h
  rcases h with ⟨c, h0, rfl, h | ⟨_, h1, h2⟩⟩ | ⟨_, g, C', qs, root, rfl, hN, hc, hp⟩
  · rw [hf] at h
    exact absurd h h0
  · exact ⟨none, 0, 0, 0, c, rfl, hb, .inl ⟨h0, h1, h2⟩⟩
  · have h1 := allR_of hf hp
    refine ⟨_, _, _, _, 0, rfl, hb, .inr ⟨rfl, g, qs, rfl, rfl, hN, ?_⟩⟩
    show allP _ _ 0 1099511627776 = (0, M)
    unfold allP
    rw [if_neg (by simpa using hc), h1]

end Go.Proofs.YtlojfgdpmaigmafGreatDoor

/- Buckets that come of points are such that a tree can be made of them. -/
namespace Go.Proofs.YtlojfgdpmaigmafGreatDoor
open Go.RowKit Plain Go.Shelf

theorem PtsL.roll {size : Int} {l M : List En} (hs : size = 1 ∨ size = 60 ∨ size = 3600) (hl : PtsL l) (h : rollP size l = some M) : PtsL M := by
  have hg : ∀ x ∈ l.map (bk size), Good x.ru := fun x hx => by
    obtain ⟨y, hy, rfl⟩ := List.mem_map.1 hx
    exact hl.good y hy
  obtain ⟨q1, q2, q3⟩ := allL_inc (l.map (bk size)) [] M (by simp) (by simp) hg h
  refine ⟨Nat.le_trans (roll_len hl.good h) hl.z, q1, q2, fun z hz => ?_⟩
  rcases q3 z hz with ⟨y, hy, _⟩ | ⟨y, hy, e⟩
  · simp at hy
  · obtain ⟨x, hx, rfl⟩ := List.mem_map.1 hy
    have hk := hl.keys x hx
    have he : (bk size x).key = x.key - x.key % 1048576 % size := rfl
    rw [he] at e
    rcases hs with rfl | rfl | rfl <;> omega

/-- What tree.Of makes of them. -/
theorem of_pts {B : Nat} {A : Option Addr} {C : Nat} {M : List En} {w : World} (hM : PtsL M) (h : w.ownsRow B 86 7 (.slice A M.length C) M.length (flatE M)) :
    Calls Tryz.prog 84 #[.slice A M.length C] w (PutC (fun c => c = 1 ∧ 2900 < M.length) (fun m q => allP m q 0 1099511627776 = (0, M)) w) := by
  obtain ⟨A', C', e, hn, _, _, hr⟩ := own_row h
  cases e
  have hz := hM.z
  refine (of_any A C M w hr hn (by omega)).mono fun e w' hP => of_put (fault_zero hM.rise hM.good hM.keys) hP

end Go.Proofs.YtlojfgdpmaigmafGreatDoor

/- file.baseOf, where there is a base: its walk. (mkbof.py writes this.) -/
namespace Go.Proofs.YtlojfgdpmaigmafGreatDoor
open Go.RowKit Plain Go.Shelf

theorem buckets_some {A : Option Addr} {C : Nat} {l y0 y1 y2 : List En} {w : World} (hZ : SzAt w) (h : RowAt w.heap.size w A (flatE l)) (hl : PtsL l) (r0 : rollP 1 l = some y0) (r1 : rollP 60 l = some y1) (r2 : rollP 3600 l = some y2) :
    Calls Tryz.prog 83 #[.slice A l.length C] w fun e w' => ∃ g0 c0 g1 c1 g2 c2, e = .returned (.tuple #[.agg #[.slice g0 y0.length c0, .slice g1 y1.length c1, .slice g2 y2.length c2], .int .i64 0]) ∧ Below w.heap.size w w' ∧ w'.ownsRow w.heap.size 86 7 (.slice g0 y0.length c0) y0.length (flatE y0) ∧ w'.ownsRow w.heap.size 86 7 (.slice g1 y1.length c1) y1.length (flatE y1) ∧ w'.ownsRow w.heap.size 86 7 (.slice g2 y2.length c2) y2.length (flatE y2) := by
  refine (bucketsOf_any A C l w hZ h hl).mono ?_
  rintro e w' ⟨hb, ⟨hn, _⟩ | ⟨g0, c0, z0, g1, c1, z1, g2, c2, z2, s0, s1, s2, o0, o1, o2, he⟩⟩
  · rw [r0, r1, r2] at hn
    simp at hn
  · rw [r0] at s0
    rw [r1] at s1
    rw [r2] at s2
    cases s0
    cases s1
    cases s2
    exact ⟨g0, c0, g1, c1, g2, c2, he, hb, o0, o1, o2⟩

/-- The trees that were made, in the base's box. -/
def BtAt (A : Option Addr) (C : Nat) (ss : List ByteArray) (f : Int) (y0 y1 y2 : List En) (B : Nat) (w : World) (xb : Nat) : Nat → Prop
  | 0 => RowL w xb 29 [.slice A ss.length C, .slice none 0 0, .int .i64 0, .slice none 0 0, .int .i64 0, .slice none 0 0, .int .i64 0, .int .i64 f]
  | 1 => ∃ (h0 D0 : Nat) (q0 : List PN) (p0 : Int), NT B w h0 D0 q0 ∧ allP (q0.map PN.nd) p0 0 1099511627776 = (0, y0) ∧ RowL w xb 29 [.slice A ss.length C, .slice (some ⟨h0, 0, none⟩) q0.length D0, .int .i64 p0, .slice none 0 0, .int .i64 0, .slice none 0 0, .int .i64 0, .int .i64 f]
  | 2 => ∃ (h0 D0 : Nat) (q0 : List PN) (p0 : Int) (h1 D1 : Nat) (q1 : List PN) (p1 : Int), NT B w h0 D0 q0 ∧ allP (q0.map PN.nd) p0 0 1099511627776 = (0, y0) ∧ NT B w h1 D1 q1 ∧ allP (q1.map PN.nd) p1 0 1099511627776 = (0, y1) ∧ RowL w xb 29 [.slice A ss.length C, .slice (some ⟨h0, 0, none⟩) q0.length D0, .int .i64 p0, .slice (some ⟨h1, 0, none⟩) q1.length D1, .int .i64 p1, .slice none 0 0, .int .i64 0, .int .i64 f]
  | _ => ∃ (h0 D0 : Nat) (q0 : List PN) (p0 : Int) (h1 D1 : Nat) (q1 : List PN) (p1 : Int) (h2 D2 : Nat) (q2 : List PN) (p2 : Int), NT B w h0 D0 q0 ∧ allP (q0.map PN.nd) p0 0 1099511627776 = (0, y0) ∧ NT B w h1 D1 q1 ∧ allP (q1.map PN.nd) p1 0 1099511627776 = (0, y1) ∧ NT B w h2 D2 q2 ∧ allP (q2.map PN.nd) p2 0 1099511627776 = (0, y2) ∧ RowL w xb 29 [.slice A ss.length C, .slice (some ⟨h0, 0, none⟩) q0.length D0, .int .i64 p0, .slice (some ⟨h1, 0, none⟩) q1.length D1, .int .i64 p1, .slice (some ⟨h2, 0, none⟩) q2.length D2, .int .i64 p2, .int .i64 f]

/-- What baseOf answers, where the buckets come together. -/
def BfTo (A : Option Addr) (C : Nat) (ss : List ByteArray) (f : Int) (y0 y1 y2 : List En) (w : World) (e : Ending) (w' : World) : Prop :=
  Below w.heap.size w w' ∧ (((2900 < y0.length ∨ 2900 < y1.length ∨ 2900 < y2.length) ∧ e = .returned (.tuple #[.agg #[.slice none 0 0, .slice none 0 0, .int .i64 0, .slice none 0 0, .int .i64 0, .slice none 0 0, .int .i64 0, .int .i64 0], .int .i64 1])) ∨
    ∃ (h0 D0 : Nat) (q0 : List PN) (p0 : Int) (h1 D1 : Nat) (q1 : List PN) (p1 : Int) (h2 D2 : Nat) (q2 : List PN) (p2 : Int), NT w.heap.size w' h0 D0 q0 ∧ allP (q0.map PN.nd) p0 0 1099511627776 = (0, y0) ∧ NT w.heap.size w' h1 D1 q1 ∧ allP (q1.map PN.nd) p1 0 1099511627776 = (0, y1) ∧ NT w.heap.size w' h2 D2 q2 ∧ allP (q2.map PN.nd) p2 0 1099511627776 = (0, y2) ∧ e = .returned (.tuple #[.agg #[.slice A ss.length C, .slice (some ⟨h0, 0, none⟩) q0.length D0, .int .i64 p0, .slice (some ⟨h1, 0, none⟩) q1.length D1, .int .i64 p1, .slice (some ⟨h2, 0, none⟩) q2.length D2, .int .i64 p2, .int .i64 f], .int .i64 0]))

theorem nt_old {B xb a b g C : Nat} {w w7 : World} {u v : Value} {q : List PN} (h : NT B w g C q) (hb : Below w.heap.size w w7) (hx : xb < B) : NT B ((w7.setCell ⟨xb, a, none⟩ u).setCell ⟨xb, b, none⟩ v) g C q :=
  h.of_blocks fun k hk => ((Below.heap_setCell _ _ _ _ (show k ≠ xb by have := (h.lt k hk).1; omega)).trans (Below.heap_setCell _ _ _ _ (show k ≠ xb by have := (h.lt k hk).1; omega))).trans (hb.block k (h.lt k hk).2)

theorem nt_new {B B' xb a b g C : Nat} {w7 : World} {u v : Value} {q : List PN} (h : NT B' w7 g C q) (hB : B ≤ B') (hx : xb < B) : NT B ((w7.setCell ⟨xb, a, none⟩ u).setCell ⟨xb, b, none⟩ v) g C q :=
  (h.low hB).of_blocks fun k hk => (Below.heap_setCell _ _ _ _ (show k ≠ xb by have := (h.lt k hk).1; omega)).trans (Below.heap_setCell _ _ _ _ (show k ≠ xb by have := (h.lt k hk).1; omega))

set_option maxRecDepth 20000 in
set_option maxHeartbeats 8000000 in
theorem baseOf_ok (A VA : Option Addr) (C VC : Nat) (ss : List ByteArray) (f : Int) (L : List En) (w : World) (hZ : SzAt w) (hC : ss.length ≤ C) (hS : StrsAt w.heap.size w A ss) (hR : RowAt w.heap.size w VA (flatE L)) (hz : L.length ≤ 28000) (hk : ∀ x ∈ L, 0 ≤ x.key ∧ x.key < 1099511627776) (hc : ∀ x ∈ L, x.c ≠ 0)
    (hr : L.Pairwise fun a b => a.key < b.key) (hb : bofB ss f L = true) (y0 y1 y2 : List En) (r0 : rollP 1 L = some y0) (r1 : rollP 60 L = some y1) (r2 : rollP 3600 L = some y2) :
    Calls Tryz.prog 31 #[.slice A ss.length C, .int .i64 f, .slice VA L.length VC] w (BfTo A C ss f y0 y1 y2 w) := by
  unfold bofB at hb
  rw [Bool.and_eq_true] at hb
  obtain ⟨he, ha⟩ := hb
  unfold BfTo
  have EM := hideC fun W (hW : Below w.heap.size w W) => emptyMay_any A C ss f W (hZ.below hW) hC (hS.up hW)
  have PM := hideC fun W (hW : Below w.heap.size w W) => pointsG_any ss.length f VA VC L W (hR.up hW) hz hk hc
  have b0 : ∀ o : Obj, Below w.heap.size w (w.alloc o) := fun o => (Below.refl _ _).alloc (Nat.le_refl _) o
  have hP := pts_of hz hr hk hc ha
  have BO := hideC fun W (hW : Below w.heap.size w W) => buckets_some (C := VC) (hZ.below hW) (hR.up hW) hP r0 r1 r2
  have M0 := hideC (hP.roll (.inl rfl) r0)
  have M1 := hideC (hP.roll (.inr (.inl rfl)) r1)
  have M2 := hideC (hP.roll (.inr (.inr rfl)) r2)
  rw [he] at EM
  rw [ha] at PM
  clear hZ hS hR hz hk hc he ha hr hP r0 r1 r2
  go_enter Tryz.func31, Tryz.ntmps31
  go_upto_region 3 with (first
    | (go_at_call 81; refine (EM.out _ (b0 _)).mono ?_; rintro e w1 ⟨rfl, hb1⟩; have XB := hideC ((rowL_alloc w [.slice none 0 0, .slice none 0 0, .int .i64 0, .slice none 0 0, .int .i64 0, .slice none 0 0, .int .i64 0, .int .i64 0] 29).below hb1 (by simp)); have x := fun j => XB.out.cell j; have lx := XB.out.lt; have fx := fun j => XB.out.frozen j; have HB1 := hideC (nextB (b0 _) (Nat.le_refl _) hb1); clear hb1)
    | (go_at_call 82; refine (PM.out _ HB1.out).mono ?_; rintro e w2 ⟨rfl, hb2⟩; have XC := hideC (XB.out.below hb2 XB.out.lt); have y := fun j => XC.out.cell j; have ly := XC.out.lt; have fy := fun j => XC.out.frozen j; have HB2 := hideC (nextB HB1.out (Nat.le_refl _) hb2); clear hb2 x lx fx))
  go_upto_region 4 with (first
    | (go_at_call 83; refine (BO.out _ HB2.out).mono ?_; rintro e w3 ⟨g0, c0, g1, c1, g2, c2, rfl, hb3, o0, o1, o2⟩; have XD := hideC (XC.out.below hb3 XC.out.lt); have HB3 := hideC (nextB HB2.out (Nat.le_refl _) hb3); have O0 := hideC o0; have O1 := hideC o1; have O2 := hideC o2; clear hb3 y ly fy o0 o1 o2))
  obtain ⟨w4, hw4⟩ : ∃ w4, w4 = w3.alloc (.cells #[.slice g0 y0.length c0, .slice g1 y1.length c1, .slice g2 y2.length c2] 141) := ⟨_, rfl⟩
  have hb4 : Below w3.heap.size w3 w4 := by rw [hw4]; exact (Below.refl _ _).alloc (Nat.le_refl _) _
  obtain ⟨xa, hxa⟩ : ∃ xa, xa = w3.heap.size := ⟨_, rfl⟩
  have XA := hideC (show RowL w4 xa 141 [.slice g0 y0.length c0, .slice g1 y1.length c1, .slice g2 y2.length c2] by rw [hw4, hxa]; exact rowL_alloc w3 _ _)
  have a := fun j => XA.out.cell j
  have la := XA.out.lt
  have XE := hideC (XD.out.below hb4 XD.out.lt)
  have HB4 := hideC (nextB HB3.out (Nat.le_refl _) hb4)
  have U0 := hideC (own_keep O0.out fun j _ hj => hb4.block j hj)
  have U1 := hideC (own_keep O1.out fun j _ hj => hb4.block j hj)
  have U2 := hideC (own_keep O2.out fun j _ hj => hb4.block j hj)
  rw [← hw4, ← hxa]
  clear hw4 hxa hb4 XD O0 O1 O2
  go_upto_region 8 with fail
  obtain ⟨w5, hw5⟩ : ∃ w5, w5 = w4.alloc (.cells #[.slice A ss.length C, .slice none 0 0, .int .i64 0, .slice none 0 0, .int .i64 0, .slice none 0 0, .int .i64 0, .int .i64 f] 29) := ⟨_, rfl⟩
  obtain ⟨xb, hxb⟩ : ∃ xb, xb = w4.heap.size := ⟨_, rfl⟩
  have XB0 := hideC (show RowL w5 xb 29 [.slice A ss.length C, .slice none 0 0, .int .i64 0, .slice none 0 0, .int .i64 0, .slice none 0 0, .int .i64 0, .int .i64 f] by rw [hw5, hxb]; exact rowL_alloc w4 _ _)
  have HB5 := hideC (show Below w4.heap.size w4 w5 by rw [hw5]; exact (Below.refl _ _).alloc (Nat.le_refl _) _)
  have hx4 : w4.heap.size ≤ xb := by omega
  have hx5 : xb < w5.heap.size := XB0.out.lt
  rw [← hw5, ← hxb]
  clear hw5 hxb a la XA XB XC EM PM BO
  have i0 : ∀ w, (Instr.index 141 (.agg #[.slice g0 y0.length c0, .slice g1 y1.length c1, .slice g2 y2.length c2]) (.int .i64 0)).run Tryz.prog w = .ok (.slice g0 y0.length c0) w := fun _ => by kernel_rfl
  have i1 : ∀ w, (Instr.index 141 (.agg #[.slice g0 y0.length c0, .slice g1 y1.length c1, .slice g2 y2.length c2]) (.int .i64 1)).run Tryz.prog w = .ok (.slice g1 y1.length c1) w := fun _ => by kernel_rfl
  have i2 : ∀ w, (Instr.index 141 (.agg #[.slice g0 y0.length c0, .slice g1 y1.length c1, .slice g2 y2.length c2]) (.int .i64 2)).run Tryz.prog w = .ok (.slice g2 y2.length c2) w := fun _ => by kernel_rfl
  go_loopw [40] (fun vi wr => ∃ k : Nat, k ≤ 3 ∧ vi = .int .i64 (k : Int) ∧ Hid (BtAt A C ss f y0 y1 y2 w5.heap.size wr xb k) ∧ Hid (Below w4.heap.size w4 wr) ∧ Hid (w5.heap.size ≤ wr.heap.size)) (fun vi _ => 3 - (intOf vi).toNat)
  case atStart => exact ⟨0, by omega, rfl, XB0.out, HB5.out, Nat.le_refl _⟩
  case round =>
    obtain ⟨k, hk, rfl, HK, HB, HZ⟩ := hrel
    rcases (show k = 0 ∨ k = 1 ∨ k = 2 ∨ k = 3 by omega) with rfl | rfl | rfl | rfl
    · have hrow : RowL wr xb 29 [.slice A ss.length C, .slice none 0 0, .int .i64 0, .slice none 0 0, .int .i64 0, .slice none 0 0, .int .i64 0, .int .i64 f] := HK.out
      have HRx := hideC hrow
      clear hrow HK 
      have con := hideC (of_pts M0.out (own_keep U0.out fun j _ hj => HB.out.block j hj))
      go_upto_region 11 with (first
        | (go_at_call 84; refine con.out.mono ?_; rintro e w6 ⟨XA, xl, XC, sr, c, rfl, hb6, hP⟩))
      obtain ⟨w7, hw7⟩ : ∃ w7, w7 = w6.alloc (.cells #[.slice XA xl XC, .int .i64 sr] 26) := ⟨_, rfl⟩
      obtain ⟨mb, hmb⟩ : ∃ mb, mb = w6.heap.size := ⟨_, rfl⟩
      have hb7 : Below wr.heap.size wr w7 := by rw [hw7]; exact hb6.alloc hb6.size _
      have HM := hideC (show RowL w7 mb 26 [.slice XA xl XC, .int .i64 sr] by rw [hw7, hmb]; exact rowL_alloc w6 _ _)
      have hPP := hP.keep (w' := w7) (Nat.le_refl _) (fun _ _ hk => by rw [hw7]; exact Below.heap_alloc _ _ _ hk)
      have XR7 := hideC ((XE.out.below HB.out XE.out.lt).below hb7 (Nat.lt_of_lt_of_le XE.out.lt HB.out.size))
      have X7 := hideC (HRx.out.below hb7 HRx.out.lt)
      have HB7 := hideC hb7
      rw [← hw7, ← hmb]
      clear hw7 hmb hP hb6 hb7 con
      rcases hPP with ⟨_, rfl, h29⟩ | ⟨rfl, g, q, rfl, rfl, hT, hF⟩
      · have d := fun j => XR7.out.cell j
        have ld := XR7.out.lt
        have fd := fun j => XR7.out.frozen j
        have H29 := hideC h29
        clear h29
        go_wp2_with fail
        refine bodyPost_ret (v := .tuple #[.agg #[.slice none 0 0, .slice none 0 0, .int .i64 0, .slice none 0 0, .int .i64 0, .slice none 0 0, .int .i64 0, .int .i64 0], .int .i64 1]) (by simp [results, Tryz.results31, go_sem, d]) rfl ⟨?_, .inl ⟨.inl H29.out, rfl⟩⟩
        exact set8_below (nextB HB4.out (Nat.le_refl _) (HB.out.trans (HB7.out.mono HB.out.size))) (Nat.le_refl _) _ _ _ _ _ _ _ _
      · have d := fun j => X7.out.cell j
        have ld := X7.out.lt
        have fd := fun j => X7.out.frozen j
        have m := fun j => HM.out.cell j
        have lm := HM.out.lt
        have HT := hideC hT
        have HF := hideC hF
        clear hT hF
        go_wp2_with fail
        exact ⟨⟨1, by omega, rfl, ⟨g, XC, q, sr, nt_new HT.out HZ.out hx5, HF.out, (X7.out.set 1 _).set 2 _⟩, ((HB.out.trans (HB7.out.mono HB.out.size)).setCell hx4 _).setCell hx4 _, by have := HB7.out.size; have := HZ.out; simp [Hid]; omega⟩, by simp only [intOf]; omega⟩
    · obtain ⟨h0, D0, q0, p0, n0, a0, hrow⟩ := HK.out
      have HRx := hideC hrow
      have N0 := hideC n0
      have A0 := hideC a0
      clear hrow HK n0 a0
      have con := hideC (of_pts M1.out (own_keep U1.out fun j _ hj => HB.out.block j hj))
      go_upto_region 11 with (first
        | (go_at_call 84; refine con.out.mono ?_; rintro e w6 ⟨XA, xl, XC, sr, c, rfl, hb6, hP⟩))
      obtain ⟨w7, hw7⟩ : ∃ w7, w7 = w6.alloc (.cells #[.slice XA xl XC, .int .i64 sr] 26) := ⟨_, rfl⟩
      obtain ⟨mb, hmb⟩ : ∃ mb, mb = w6.heap.size := ⟨_, rfl⟩
      have hb7 : Below wr.heap.size wr w7 := by rw [hw7]; exact hb6.alloc hb6.size _
      have HM := hideC (show RowL w7 mb 26 [.slice XA xl XC, .int .i64 sr] by rw [hw7, hmb]; exact rowL_alloc w6 _ _)
      have hPP := hP.keep (w' := w7) (Nat.le_refl _) (fun _ _ hk => by rw [hw7]; exact Below.heap_alloc _ _ _ hk)
      have XR7 := hideC ((XE.out.below HB.out XE.out.lt).below hb7 (Nat.lt_of_lt_of_le XE.out.lt HB.out.size))
      have X7 := hideC (HRx.out.below hb7 HRx.out.lt)
      have HB7 := hideC hb7
      rw [← hw7, ← hmb]
      clear hw7 hmb hP hb6 hb7 con
      rcases hPP with ⟨_, rfl, h29⟩ | ⟨rfl, g, q, rfl, rfl, hT, hF⟩
      · have d := fun j => XR7.out.cell j
        have ld := XR7.out.lt
        have fd := fun j => XR7.out.frozen j
        have H29 := hideC h29
        clear h29
        go_wp2_with fail
        refine bodyPost_ret (v := .tuple #[.agg #[.slice none 0 0, .slice none 0 0, .int .i64 0, .slice none 0 0, .int .i64 0, .slice none 0 0, .int .i64 0, .int .i64 0], .int .i64 1]) (by simp [results, Tryz.results31, go_sem, d]) rfl ⟨?_, .inl ⟨.inr (.inl H29.out), rfl⟩⟩
        exact set8_below (nextB HB4.out (Nat.le_refl _) (HB.out.trans (HB7.out.mono HB.out.size))) (Nat.le_refl _) _ _ _ _ _ _ _ _
      · have d := fun j => X7.out.cell j
        have ld := X7.out.lt
        have fd := fun j => X7.out.frozen j
        have m := fun j => HM.out.cell j
        have lm := HM.out.lt
        have HT := hideC hT
        have HF := hideC hF
        clear hT hF
        go_wp2_with fail
        exact ⟨⟨2, by omega, rfl, ⟨h0, D0, q0, p0, g, XC, q, sr, nt_old N0.out HB7.out hx5, A0.out, nt_new HT.out HZ.out hx5, HF.out, (X7.out.set 3 _).set 4 _⟩, ((HB.out.trans (HB7.out.mono HB.out.size)).setCell hx4 _).setCell hx4 _, by have := HB7.out.size; have := HZ.out; simp [Hid]; omega⟩, by simp only [intOf]; omega⟩
    · obtain ⟨h0, D0, q0, p0, h1, D1, q1, p1, n0, a0, n1, a1, hrow⟩ := HK.out
      have HRx := hideC hrow
      have N0 := hideC n0
      have A0 := hideC a0
      have N1 := hideC n1
      have A1 := hideC a1
      clear hrow HK n0 a0 n1 a1
      have con := hideC (of_pts M2.out (own_keep U2.out fun j _ hj => HB.out.block j hj))
      go_upto_region 11 with (first
        | (go_at_call 84; refine con.out.mono ?_; rintro e w6 ⟨XA, xl, XC, sr, c, rfl, hb6, hP⟩))
      obtain ⟨w7, hw7⟩ : ∃ w7, w7 = w6.alloc (.cells #[.slice XA xl XC, .int .i64 sr] 26) := ⟨_, rfl⟩
      obtain ⟨mb, hmb⟩ : ∃ mb, mb = w6.heap.size := ⟨_, rfl⟩
      have hb7 : Below wr.heap.size wr w7 := by rw [hw7]; exact hb6.alloc hb6.size _
      have HM := hideC (show RowL w7 mb 26 [.slice XA xl XC, .int .i64 sr] by rw [hw7, hmb]; exact rowL_alloc w6 _ _)
      have hPP := hP.keep (w' := w7) (Nat.le_refl _) (fun _ _ hk => by rw [hw7]; exact Below.heap_alloc _ _ _ hk)
      have XR7 := hideC ((XE.out.below HB.out XE.out.lt).below hb7 (Nat.lt_of_lt_of_le XE.out.lt HB.out.size))
      have X7 := hideC (HRx.out.below hb7 HRx.out.lt)
      have HB7 := hideC hb7
      rw [← hw7, ← hmb]
      clear hw7 hmb hP hb6 hb7 con
      rcases hPP with ⟨_, rfl, h29⟩ | ⟨rfl, g, q, rfl, rfl, hT, hF⟩
      · have d := fun j => XR7.out.cell j
        have ld := XR7.out.lt
        have fd := fun j => XR7.out.frozen j
        have H29 := hideC h29
        clear h29
        go_wp2_with fail
        refine bodyPost_ret (v := .tuple #[.agg #[.slice none 0 0, .slice none 0 0, .int .i64 0, .slice none 0 0, .int .i64 0, .slice none 0 0, .int .i64 0, .int .i64 0], .int .i64 1]) (by simp [results, Tryz.results31, go_sem, d]) rfl ⟨?_, .inl ⟨.inr (.inr H29.out), rfl⟩⟩
        exact set8_below (nextB HB4.out (Nat.le_refl _) (HB.out.trans (HB7.out.mono HB.out.size))) (Nat.le_refl _) _ _ _ _ _ _ _ _
      · have d := fun j => X7.out.cell j
        have ld := X7.out.lt
        have fd := fun j => X7.out.frozen j
        have m := fun j => HM.out.cell j
        have lm := HM.out.lt
        have HT := hideC hT
        have HF := hideC hF
        clear hT hF
        go_wp2_with fail
        exact ⟨⟨3, by omega, rfl, ⟨h0, D0, q0, p0, h1, D1, q1, p1, g, XC, q, sr, nt_old N0.out HB7.out hx5, A0.out, nt_old N1.out HB7.out hx5, A1.out, nt_new HT.out HZ.out hx5, HF.out, (X7.out.set 5 _).set 6 _⟩, ((HB.out.trans (HB7.out.mono HB.out.size)).setCell hx4 _).setCell hx4 _, by have := HB7.out.size; have := HZ.out; simp [Hid]; omega⟩, by simp only [intOf]; omega⟩
    · obtain ⟨h0, D0, q0, p0, h1, D1, q1, p1, h2, D2, q2, p2, n0, a0, n1, a1, n2, a2, hrow⟩ := HK.out
      have HRx := hideC hrow
      have N0 := hideC n0
      have A0 := hideC a0
      have N1 := hideC n1
      have A1 := hideC a1
      have N2 := hideC n2
      have A2 := hideC a2
      clear hrow HK n0 a0 n1 a1 n2 a2
      have XR := hideC (XE.out.below HB.out XE.out.lt)
      have d := fun j => XR.out.cell j
      have ld := XR.out.lt
      have fd := fun j => XR.out.frozen j
      have x := fun j => HRx.out.cell j
      have lx := HRx.out.lt
      have hwx : w.heap.size < w5.heap.size := Nat.lt_of_lt_of_le XE.out.lt HB5.out.size
      go_wp2_with fail
      refine bodyPost_ret (v := .tuple #[.agg #[.slice A ss.length C, .slice (some ⟨h0, 0, none⟩) q0.length D0, .int .i64 p0, .slice (some ⟨h1, 0, none⟩) q1.length D1, .int .i64 p1, .slice (some ⟨h2, 0, none⟩) q2.length D2, .int .i64 p2, .int .i64 f], .int .i64 0]) (by simp [results, Tryz.results31, go_sem, d]) rfl ⟨?_, .inr ⟨h0, D0, q0, p0, h1, D1, q1, p1, h2, D2, q2, p2, ?_, A0.out, ?_, A1.out, ?_, A2.out, rfl⟩⟩
      · exact set8_below (nextB HB4.out (Nat.le_refl _) HB.out) (Nat.le_refl _) _ _ _ _ _ _ _ _
      · exact (N0.out.low (Nat.le_of_lt hwx)).of_blocks fun k hk => set8_far _ _ _ _ _ _ _ _ _ _ k (by have := (N0.out.lt k hk).1; omega)
      · exact (N1.out.low (Nat.le_of_lt hwx)).of_blocks fun k hk => set8_far _ _ _ _ _ _ _ _ _ _ k (by have := (N1.out.lt k hk).1; omega)
      · exact (N2.out.low (Nat.le_of_lt hwx)).of_blocks fun k hk => set8_far _ _ _ _ _ _ _ _ _ _ k (by have := (N2.out.lt k hk).1; omega)

end Go.Proofs.YtlojfgdpmaigmafGreatDoor

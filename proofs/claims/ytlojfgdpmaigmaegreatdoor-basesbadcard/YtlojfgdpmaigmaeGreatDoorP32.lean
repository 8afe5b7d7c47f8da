/- Rows of a series: in plain terms. -/
import Derived.Test.YtlojfgdpmaigmaeGreatDoorP28
import Derived.Test.YtlojfgdpmaigmaeGreatDoorP31
import Derived.Deep.RegionHeld3
import Derived.Deep.AppendLies
import Derived.BigQuiet
namespace Go.Proofs.YtlojfgdpmaigmaeGreatDoor
open Go.RowKit Plain

/-- What a base that may be knows, tree by tree. -/
structure BaseL (ss : List ByteArray) (f : Int) (n0 : List Nd) (r0 : Int) (n1 : List Nd) (r1 : Int) (n2 : List Nd) (r2 : Int) (L0 L1 L2 : List En) : Prop where
  few : ss.length ≤ 16
  book : bookP n0 r0 ss.length f = some L0
  a0 : allP n0 r0 0 1099511627776 = (0, L0)
  a1 : allP n1 r1 0 1099511627776 = (0, L1)
  a2 : allP n2 r2 0 1099511627776 = (0, L2)
  p0 : rollP 1 L0 = some L0
  p1 : rollP 60 L0 = some L1
  p2 : rollP 3600 L0 = some L2

theorem step_some {size : Int} {l : List En} {ns : List Nd} {r : Int} (h : stepB size l ns r = true) : ∃ M, rollP size l = some M ∧ allP ns r 0 1099511627776 = (0, M) := by
  unfold stepB at h
  cases hr : rollP size l with
  | none => rw [hr] at h; cases h
  | some W =>
    rw [hr] at h
    simp only [Bool.and_eq_true, decide_eq_true_eq] at h
    exact ⟨W, rfl, Prod.ext h.1 h.2.symm⟩

theorem baseL {ss : List ByteArray} {f : Int} {n0 : List Nd} {r0 : Int} {n1 : List Nd} {r1 : Int} {n2 : List Nd} {r2 : Int} (h : baseB ss f n0 r0 n1 r1 n2 r2 = true) : ∃ L0 L1 L2, BaseL ss f n0 r0 n1 r1 n2 r2 L0 L1 L2 := by
  unfold baseB at h
  simp only [Bool.and_eq_true, decide_eq_true_eq] at h
  obtain ⟨h1, _, _, _, h2⟩ := h
  unfold treesB at h2
  cases hb : bookP n0 r0 ss.length f with
  | none => rw [hb] at h2; cases h2
  | some l =>
    rw [hb] at h2
    simp only [Bool.and_eq_true] at h2
    obtain ⟨s0, s1, s2⟩ := h2
    obtain ⟨b1, b2, _⟩ := book_some hb
    obtain ⟨M1, q1, q2⟩ := step_some s1
    obtain ⟨M2, q3, q4⟩ := step_some s2
    have hp := (allP_facts (ns := n0) (r := r0) (low := 0) (high := 1099511627776)).1
    rw [b2] at hp
    exact ⟨l, M1, M2, h1, hb, Prod.ext b1 b2, q2, q4, roll_one hp, q1, q3⟩

end Go.Proofs.YtlojfgdpmaigmaeGreatDoor

/- base.known: what a tree knows of a series, from a time on, up to another one. -/
namespace Go.Proofs.YtlojfgdpmaigmaeGreatDoor
open Go.RowKit Plain

end Go.Proofs.YtlojfgdpmaigmaeGreatDoor

/- base.Rows: the program's rows. -/
namespace Go.Proofs.YtlojfgdpmaigmaeGreatDoor
open Go.RowKit Plain

theorem ownR_next {w1 w4 : World} {base : Nat} {e : TypeId} {size n : Nat} {v : Value} {vs : List Value} (o : w1.ownsRow base e size v n vs) (hb : Below w1.heap.size w1 w4) : w4.ownsRow base e size v n vs :=
  own_of_block o fun k hk => hb.block k (o.lt k hk).2

theorem ownR_lt {w : World} {base : Nat} {e : TypeId} {size n C : Nat} {A : Option Addr} {vs : List Value} (h : w.ownsRow base e size (.slice A n C) n vs) : ∀ k, (Value.slice A n C).ownBlock = some k → base ≤ k ∧ k < w.heap.size := fun k hk => h.lt k hk

end Go.Proofs.YtlojfgdpmaigmaeGreatDoor

/- The document's rows. -/
namespace Go.Proofs.YtlojfgdpmaigmaeGreatDoor
open Go.RowKit Plain

end Go.Proofs.YtlojfgdpmaigmaeGreatDoor

/- Rows: what is refused, by the program and by the document. -/
namespace Go.Proofs.YtlojfgdpmaigmaeGreatDoor
open Go.RowKit Plain

set_option maxRecDepth 20000 in
set_option maxHeartbeats 2000000 in
theorem rows_span1 (A : Option Addr) (C : Nat) (ss : List ByteArray) (t0 t1 t2 : TR) (f : Int) (x : ByteArray) (a b : Int) (w : World) (q : Int) (hZ : SzAt w) (hsp : spanB a b = false) (con1 : Hid (∀ W, Below w.heap.size w W → Calls Tryz.prog 32 #[.agg (baseV A C ss t0 t1 t2 f).toArray, .string x] W fun e w' => e = .returned (.tuple #[.int .i64 q, .int .i64 0]) ∧ Below W.heap.size W w')) :
    Calls Tryz.prog 20 #[.agg (baseV A C ss t0 t1 t2 f).toArray, .string x, .int .i64 60, .int .i64 a, .int .i64 b] w fun e w' => e = .returned (.tuple #[.slice none 0 0, .int .i64 2]) ∧ Below w.heap.size w w' := by
  have b0 : ∀ o : Obj, Below w.heap.size w (w.alloc o) := fun o => (Below.refl _ _).alloc (Nat.le_refl _) o
  have con2 : Hid (∀ W, Below w.heap.size w W → Calls Tryz.prog 45 #[.int .i64 60] W fun e w' => e = .returned (.tuple #[.int .i64 1, .bool true]) ∧ w' = W) := fun W hW => stepOf_any 60 W (hZ.below hW)
  have con3 := hideB fun W => span_any a b W
  rw [hsp] at con3
  obtain ⟨A0, C0, p0, r0⟩ := t0
  obtain ⟨A1, C1, p1, r1⟩ := t1
  obtain ⟨A2, C2, p2, r2⟩ := t2
  simp only [baseV] at *
  go_enter Tryz.func20, Tryz.ntmps20
  go_wp2_with (first
    | (go_at_call 32; refine (con1.out _ (b0 _)).mono ?_; rintro e w1 ⟨rfl, hb1⟩; have hw1 : Below w.heap.size w w1 := nextB (b0 _) (Nat.le_refl _) hb1)
    | (go_at_call 45; refine (con2.out _ hw1).mono ?_; rintro e wx ⟨rfl, hwx⟩; subst wx)
    | (go_at_call 33; refine (con3.out _).mono ?_; rintro e wx ⟨rfl, hwx⟩; subst wx))
  go_ret2
  exact ⟨rfl, hw1⟩

end Go.Proofs.YtlojfgdpmaigmaeGreatDoor

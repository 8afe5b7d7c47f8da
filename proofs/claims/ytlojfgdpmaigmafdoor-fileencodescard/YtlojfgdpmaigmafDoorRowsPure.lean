/- Rows of a series: in plain terms. -/
import Derived.Test.YtlojfgdpmaigmafDoorP40
import Derived.Test.YtlojfgdpmaigmafDoorP47
namespace Go.Proofs.YtlojfgdpmaigmafDoor
open Go.RowKit Plain

/-- What a base that may be knows, tree by tree. -/
structure BaseL (ss : List ByteArray) (f : Int) (n0 : List Nd) (r0 : Int) (n1 : List Nd) (r1 : Int) (n2 : List Nd) (r2 : Int) (L0 L1 L2 : List En) : Prop where
  few : ss.length ≤ 16
  book : bookP n0 r0 ss.length f = some L0
  a0 : allP n0 r0 0 1099511627776 = (0, L0)
  a1 : allP n1 r1 0 1099511627776 = (0, L1)
  a2 : allP n2 r2 0 1099511627776 = (0, L2)
  p0 : rollP 1 L0 = some L0
  p1 : rollP 60 L0 = some L1
  p2 : rollP 3600 L0 = some L2

theorem step_some {size : Int} {l : List En} {ns : List Nd} {r : Int} (h : stepB size l ns r = true) : ∃ M, rollP size l = some M ∧ allP ns r 0 1099511627776 = (0, M) := by
  unfold stepB at h
  cases hr : rollP size l with
  | none => rw [hr] at h; cases h
  | some W =>
    rw [hr] at h
    simp only [Bool.and_eq_true, decide_eq_true_eq] at h
    exact ⟨W, rfl, Prod.ext h.1 h.2.symm⟩

theorem baseL {ss : List ByteArray} {f : Int} {n0 : List Nd} {r0 : Int} {n1 : List Nd} {r1 : Int} {n2 : List Nd} {r2 : Int} (h : baseB ss f n0 r0 n1 r1 n2 r2 = true) : ∃ L0 L1 L2, BaseL ss f n0 r0 n1 r1 n2 r2 L0 L1 L2 := by
  unfold baseB at h
  simp only [Bool.and_eq_true, decide_eq_true_eq] at h
  obtain ⟨h1, _, _, _, h2⟩ := h
  unfold treesB at h2
  cases hb : bookP n0 r0 ss.length f with
  | none => rw [hb] at h2; cases h2
  | some l =>
    rw [hb] at h2
    simp only [Bool.and_eq_true] at h2
    obtain ⟨s0, s1, s2⟩ := h2
    obtain ⟨b1, b2, _⟩ := book_some hb
    obtain ⟨M1, q1, q2⟩ := step_some s1
    obtain ⟨M2, q3, q4⟩ := step_some s2
    have hp := (allP_facts (ns := n0) (r := r0) (low := 0) (high := 1099511627776)).1
    rw [b2] at hp
    exact ⟨l, M1, M2, h1, hb, Prod.ext b1 b2, q2, q4, roll_one hp, q1, q3⟩

end Go.Proofs.YtlojfgdpmaigmafDoor

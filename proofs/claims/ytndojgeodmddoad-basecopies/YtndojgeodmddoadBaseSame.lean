/- Two bases that are the same. -/
import Derived.Test.YtndojgeodmddoadBaseCopyWalk
namespace Go.Proofs.Ytndojgeodmddoad
open Go.RowKit Go.Shelf

set_option maxRecDepth 20000 in
set_option maxHeartbeats 1000000 in
theorem sameBase_eq (A A' : Option Addr) (C C' : Nat) (ss : List ByteArray) (a0 a1 a2 b0 b1 b2 : TR) (f : Int) (w : World) (h : RowAt w.heap.size w A (strs ss)) (h' : StrsAt w.heap.size w A' ss) (ha0 : NodesAt w.heap.size w a0.A a0.ps) (ha1 : NodesAt w.heap.size w a1.A a1.ps) (ha2 : NodesAt w.heap.size w a2.A a2.ps) (hb0 : NodesAt w.heap.size w b0.A b0.ps) (hb1' : NodesAt w.heap.size w b1.A b1.ps) (hb2 : NodesAt w.heap.size w b2.A b2.ps)
    (e0 : a0.ps.map PN.nd = b0.ps.map PN.nd) (e1 : a1.ps.map PN.nd = b1.ps.map PN.nd) (e2 : a2.ps.map PN.nd = b2.ps.map PN.nd) (f0 : a0.r = b0.r) (f1 : a1.r = b1.r) (f2 : a2.r = b2.r) :
    Calls Try.prog 8 #[.agg #[.slice A ss.length C, .slice a0.A a0.ps.length a0.C, .int .i64 a0.r, .slice a1.A a1.ps.length a1.C, .int .i64 a1.r, .slice a2.A a2.ps.length a2.C, .int .i64 a2.r, .int .i64 f], .agg #[.slice A' ss.length C', .slice b0.A b0.ps.length b0.C, .int .i64 b0.r, .slice b1.A b1.ps.length b1.C, .int .i64 b1.r, .slice b2.A b2.ps.length b2.C, .int .i64 b2.r, .int .i64 f]] w fun e w' => e = .returned (.bool true) ∧ Below w.heap.size w w' := by
  have hz := h'.z
  obtain ⟨A0, C0, p0, r0⟩ := a0
  obtain ⟨A1, C1, p1, r1⟩ := a1
  obtain ⟨A2, C2, p2, r2⟩ := a2
  obtain ⟨B0, D0, q0, s0⟩ := b0
  obtain ⟨B1, D1, q1, s1⟩ := b1
  obtain ⟨B2, D2, q2, s2⟩ := b2
  simp only at ha0 ha1 ha2 hb0 hb1' hb2 e0 e1 e2 f0 f1 f2 ⊢
  subst f0 f1 f2
  go_enter Try.func8, Try.ntmps8
  go_wp2_with fail
  obtain ⟨wd, hwd⟩ : ∃ wd, wd = (w.alloc (.cells #[.slice A ss.length C, .slice A0 p0.length C0, .int .i64 r0, .slice A1 p1.length C1, .int .i64 r1, .slice A2 p2.length C2, .int .i64 r2, .int .i64 f] 28)).alloc (.cells #[.slice A' ss.length C', .slice B0 q0.length D0, .int .i64 r0, .slice B1 q1.length D1, .int .i64 r1, .slice B2 q2.length D2, .int .i64 r2, .int .i64 f] 28) := ⟨_, rfl⟩
  obtain ⟨rn, rr, zz⟩ := two_rows' (v := w) (w2 := wd) (l1 := [.slice A ss.length C, .slice A0 p0.length C0, .int .i64 r0, .slice A1 p1.length C1, .int .i64 r1, .slice A2 p2.length C2, .int .i64 r2, .int .i64 f]) (l2 := [.slice A' ss.length C', .slice B0 q0.length D0, .int .i64 r0, .slice B1 q1.length D1, .int .i64 r1, .slice B2 q2.length D2, .int .i64 r2, .int .i64 f]) (t1 := 28) (t2 := 28) (by rw [hwd]; exact Below.refl _ _) rfl
  have hbd : Below w.heap.size w wd := by
    rw [hwd]
    exact two _ _
  rw [← hwd]
  clear hwd
  obtain ⟨n, hn⟩ : ∃ n, n = w.heap.size := ⟨_, rfl⟩
  rw [← hn] at rn rr zz ⊢
  have HN : Hid (n = w.heap.size) := hn
  clear hn
  go_loopw [5] (fun vi wr => ∃ i : Nat, i ≤ ss.length ∧ vi = .int .i64 i ∧ Below wd.heap.size wd wr) (fun vi _ => ss.length - (intOf vi).toNat)
  case atStart => exact ⟨0, Nat.zero_le _, rfl, Below.refl _ _⟩
  case round =>
    obtain ⟨i, hi, rfl, hb⟩ := hrel
    have hwr : Below w.heap.size w wr := nextB hbd (Nat.le_refl _) hb
    have rn1 := rn.below hb (by omega)
    have rr1 := rr.below hb zz
    have ln := rn1.lt
    have lr := rr1.lt
    have d := fun j => rn1.cell j
    have d' := fun j => rr1.cell j
    by_cases hlt : i < ss.length
    · obtain ⟨b, o, rfl, hbl, hc⟩ := (h.below hwr (Nat.le_refl _)).str hlt
      obtain ⟨b', o', rfl, hbl', hc'⟩ := (h'.row.below hwr (Nat.le_refl _)).str hlt
      have hwz := hwr.size
      have l1 : b < wr.heap.size := by omega
      have l2 : b' < wr.heap.size := by omega
      obtain ⟨s, hs⟩ : ∃ s, ss[i] = s := ⟨_, rfl⟩
      rw [hs] at hc hc'
      go_wp2_with fail
      go_quiet (fail)
      go_wp2_with fail
      go_roundw
      case rel =>
        go_light
        exact ⟨i + 1, hlt, by go_num, below_drewN hb _⟩
      case measure => simp [intOf]; omega
    · go_wp2_with (first
        | (have k3 := hw2; clear k3; go_at_call 15; refine (sameTree_eq A2 B2 C2 D2 r2 p2 q2 _ (ha2.up hw2) (hb2.up hw2) e2).mono ?_; rintro e w3 ⟨rfl, hb3⟩)
        | (have k2 := hw1; clear k2; go_at_call 15; refine (sameTree_eq A1 B1 C1 D1 r1 p1 q1 _ (ha1.up hw1) (hb1'.up hw1) e1).mono ?_; rintro e w2 ⟨rfl, hb2'⟩; have hw2 : Below w.heap.size w w2 := nextB hw1 (Nat.le_refl _) hb2'; have rn3 := rn2.below hb2' ln2; have rr3 := rr2.below hb2' lr2; have ln3 := rn3.lt; have lr3 := rr3.lt; have ddd := fun j => rn3.cell j; have ddd' := fun j => rr3.cell j)
        | (go_at_call 15; refine (sameTree_eq A0 B0 C0 D0 r0 p0 q0 _ (ha0.up hwr) (hb0.up hwr) e0).mono ?_; rintro e w1 ⟨rfl, hb1⟩; have hw1 : Below w.heap.size w w1 := nextB hwr (Nat.le_refl _) hb1; have rn2 := rn1.below hb1 ln; have rr2 := rr1.below hb1 lr; have ln2 := rn2.lt; have lr2 := rr2.lt; have dd := fun j => rn2.cell j; have dd' := fun j => rr2.cell j))
      go_ret
      exact ⟨rfl, nextB hw2 (Nat.le_refl _) hb3⟩

end Go.Proofs.Ytndojgeodmddoad

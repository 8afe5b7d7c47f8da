/- Two trees that hold the same are found the same. -/
import Derived.Test.YtmcbjpaknffgkabRows2
namespace Go.Proofs.Ytmcbjpaknffgkab
open Go.RowKit

theorem bcells {W w1 : World} {B : Nat} (hb : Below B W w1) : (∀ b o, b < B → w1.cell? ⟨b, o, none⟩ = W.cell? ⟨b, o, none⟩) ∧ (∀ b o, b < B → w1.frozen? ⟨b, o, none⟩ = W.frozen? ⟨b, o, none⟩) :=
  ⟨fun b o h => hb.cell (p := ⟨b, o, none⟩) h, fun b o h => hb.frozen (p := ⟨b, o, none⟩) h⟩

theorem RowAt.go {B B' : Nat} {w w' : World} {A : Option Addr} {vs : List Value} (h : RowAt B w A vs) (hb : Below B' w w') (hB : B ≤ B') (hw : B' ≤ w.heap.size) : RowAt w'.heap.size w' A vs :=
  (h.below hb hB).mono (Nat.le_trans hB (Nat.le_trans hw hb.size))

theorem two {w : World} (a b : Obj) : Below w.heap.size w ((w.alloc a).alloc b) := ((Below.refl _ _).alloc (Nat.le_refl _) _).alloc (by simp) _

set_option maxHeartbeats 4000000 in
theorem sameTree_eq (A A' : Option Addr) (C C' : Nat) (r : Int) (ps qs : List PN) (w : World) (h : NodesAt w.heap.size w A ps) (h' : NodesAt w.heap.size w A' qs) (hpq : ps.map PN.nd = qs.map PN.nd) :
    Calls Try.prog 12 #[.agg #[.slice A ps.length C, .int .i64 r], .agg #[.slice A' qs.length C', .int .i64 r]] w fun e w' => e = .returned (.bool true) ∧ Below w.heap.size w w' := by
  have hlen : qs.length = ps.length := by have := congrArg List.length hpq; simpa using this.symm
  have hz := h.z
  rw [hlen]
  have HL : Hid (qs.length = ps.length) := hlen
  have HP : Hid (ps.map PN.nd = qs.map PN.nd) := hpq
  clear hlen hpq
  go_enter Try.func12, Try.ntmps12
  go_wp2_with fail
  go_loopw [5] (fun i wr => ∃ k : Nat, k ≤ ps.length ∧ i = .int .i64 k ∧ Below w.heap.size w wr ∧ wr.cell? ⟨w.heap.size, 0, none⟩ = some (.slice A ps.length C) ∧ wr.cell? ⟨w.heap.size + 1, 0, none⟩ = some (.slice A' ps.length C') ∧ w.heap.size + 1 < wr.heap.size) (fun i _ => ps.length - (intOf i).toNat)
  case atStart => exact ⟨0, Nat.zero_le _, rfl, ((Below.refl _ _).alloc (Nat.le_refl _) _).alloc (by simp) _, by simp, by simp, by simp⟩
  case round =>
    obtain ⟨k, hk, rfl, hb, ca, cb, hsz⟩ := hrel
    by_cases hlt : k < ps.length
    · have hltq : k < qs.length := by have := HL.out; omega
      have hnd : (ps[k]).nd = (qs[k]).nd := by
        have := congrArg (·[k]?) HP.out
        simpa [hlt, hltq] using this
      have hN := h.below hb (Nat.le_refl _)
      have hN' := h'.below hb (Nat.le_refl _)
      obtain ⟨b, o, rfl, hbl, c0, c1, c2, c3, c4⟩ := hN.row.pn hlt
      obtain ⟨b', o', rfl, hbl', d0, d1, d2, d3, d4⟩ := hN'.row.pn hltq
      have ok := hN.each k hlt
      have ok' := hN'.each k hltq
      clear hN hN'
      generalize ps[k] = p at *
      generalize qs[k] = q at *
      obtain ⟨leaf, eA, eC, ents, kA, kC, keys, dA, dC, kids, bA, bC, buf⟩ := p
      obtain ⟨leaf', eA', eC', ents', kA', kC', keys', dA', dC', kids', bA', bC', buf'⟩ := q
      simp only [PN.nd, Nd.mk.injEq] at hnd
      obtain ⟨rfl, rfl, rfl, rfl, rfl⟩ := hnd
      simp only at c0 c1 c2 c3 c4 d0 d1 d2 d3 d4
      obtain ⟨e1, k1, t1, f1, -, -, -, -, ez, kz, dz, fz⟩ := ok
      obtain ⟨e2, k2, t2, f2, -, -, -, -, -, -, -, -⟩ := ok'
      simp only at e1 k1 t1 f1 e2 k2 t2 f2 ez kz dz fz
      have hbr : b < wr.heap.size := by omega
      have hbr' : b' < wr.heap.size := by omega
      have hle : w.heap.size ≤ wr.heap.size := by omega
      go_wp2_with (first
        | (go_at_call_of 15 eA; refine (sameEntries_eq _ _ _ _ _ _ (e1.go (two _ _) hle (Nat.le_refl _)) (e2.go (two _ _) hle (Nat.le_refl _)) ez).mono ?_; rintro e w1 ⟨rfl, hb1⟩; have g1 : Below wr.heap.size wr w1 := nextB (two _ _) (Nat.le_refl _) hb1; obtain ⟨z1, z1'⟩ := sz2 hb1; have hc1 := (bcells hb1).1)
        | (go_at_call_of 15 bA; refine (sameEntries_eq _ _ _ _ _ _ (f1.go g1 hle (Nat.le_refl _)) (f2.go g1 hle (Nat.le_refl _)) fz).mono ?_; rintro e w2 ⟨rfl, hb2⟩; have g2 : Below wr.heap.size wr w2 := nextB g1 (Nat.le_refl _) hb2; have z2 := Nat.lt_of_lt_of_le z1 hb2.size; have z2' := Nat.lt_of_lt_of_le z1' hb2.size; have hc2 := (bcells hb2).1)
        | (go_at_call_of 30 kA; refine (sameInts_eq _ _ _ _ _ _ (k1.go g2 hle (Nat.le_refl _)) (k2.go g2 hle (Nat.le_refl _)) kz).mono ?_; rintro e w3 ⟨rfl, hb3⟩; have g3 : Below wr.heap.size wr w3 := nextB g2 (Nat.le_refl _) hb3; have z3 := Nat.lt_of_lt_of_le z2 hb3.size; have z3' := Nat.lt_of_lt_of_le z2' hb3.size; have hc3 := (bcells hb3).1)
        | (go_at_call_of 30 dA; refine (sameInts_eq _ _ _ _ _ _ (t1.go g3 hle (Nat.le_refl _)) (t2.go g3 hle (Nat.le_refl _)) dz).mono ?_; rintro e w4 ⟨rfl, hb4⟩; have g4 : Below wr.heap.size wr w4 := nextB g3 (Nat.le_refl _) hb4))
      go_roundw
      case rel =>
        go_light
        exact ⟨k + 1, by omega, by go_num, nextB hb (Nat.le_refl _) g4, (g4.cell (p := ⟨w.heap.size, 0, none⟩) (by show w.heap.size < _; omega)).trans ca, (g4.cell (p := ⟨w.heap.size + 1, 0, none⟩) (by show w.heap.size + 1 < _; omega)).trans cb, Nat.lt_of_lt_of_le hsz g4.size⟩
      case measure => simp [intOf]; omega
    · obtain rfl : k = ps.length := by omega
      go_wp2
      go_ret
      exact ⟨rfl, hb⟩

end Go.Proofs.Ytmcbjpaknffgkab

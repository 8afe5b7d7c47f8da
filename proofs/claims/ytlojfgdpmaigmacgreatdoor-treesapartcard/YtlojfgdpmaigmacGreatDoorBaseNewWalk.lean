/- A new base: what the document says of it. -/
import Derived.Test.YtlojfgdpmaigmacGreatDoorP12
import Derived.Test.YtlojfgdpmaigmacGreatDoorP08
namespace Go.Proofs.YtlojfgdpmaigmacGreatDoor
open Go.RowKit Plain

def tv (b : Bool) (g : Nat) : Value := if b = true then .slice (some ⟨g, 0, none⟩) 1 1 else .slice none 0 0

theorem NewAt.set {w : World} {g b j : Nat} {v : Value} (h : NewAt w g) (hne : g ≠ b) : NewAt (w.setCell ⟨b, j, none⟩ v) g := by
  have c : ∀ i, (w.setCell ⟨b, j, none⟩ v).cell? ⟨g, i, none⟩ = w.cell? ⟨g, i, none⟩ := fun i => World.cell?_setCell_far _ _ _ _ (fun e => hne e.symm)
  exact ⟨(c 0).trans h.c0, (c 1).trans h.c1, (c 2).trans h.c2, (c 3).trans h.c3, (c 4).trans h.c4, by simpa using h.lt⟩

theorem bn_step {w w1 : World} {n : Nat} {t : TypeId} {l A : List Value} (ra : RowL w1 n t A) (rb : RowL w1 (n + 1) t l) (hb : Below n w w1) (i : Nat) (v1 v2 : Value) :
    RowL ((w1.setCell ⟨n + 1, i, none⟩ v1).setCell ⟨n + 1, i + 1, none⟩ v2) n t A ∧ RowL ((w1.setCell ⟨n + 1, i, none⟩ v1).setCell ⟨n + 1, i + 1, none⟩ v2) (n + 1) t ((l.set i v1).set (i + 1) v2) ∧ Below n w ((w1.setCell ⟨n + 1, i, none⟩ v1).setCell ⟨n + 1, i + 1, none⟩ v2) ∧
    ∀ g, NewAt w1 g → n + 1 < g → NewAt ((w1.setCell ⟨n + 1, i, none⟩ v1).setCell ⟨n + 1, i + 1, none⟩ v2) g := by
  have far : ∀ (W : World) (j : Nat) (v : Value), (W.setCell ⟨n + 1, j, none⟩ v).heap[n]? = W.heap[n]? := fun W j v => Below.heap_setCell _ _ _ _ (show n ≠ n + 1 by omega)
  refine ⟨(ra.of_block (far _ _ _)).of_block (far _ _ _), (rb.set i v1).set (i + 1) v2, ⟨hb.os, hb.tape, hb.output, by simpa using hb.size, fun k hk => ?_⟩, fun g hg hl => (hg.set (by omega)).set (by omega)⟩
  exact (Below.heap_setCell _ _ _ _ (show k ≠ n + 1 by omega)).trans ((Below.heap_setCell _ _ _ _ (show k ≠ n + 1 by omega)).trans (hb.block k hk))

set_option maxRecDepth 20000 in
set_option maxHeartbeats 800000 in
theorem bnew_any (w : World) :
    Calls Tryz.prog 23 #[] w
      fun e w' => ∃ g0 g1 g2, e = .returned (.agg #[.slice none 0 0, .slice (some ⟨g0, 0, none⟩) 1 1, .int .i64 0, .slice (some ⟨g1, 0, none⟩) 1 1, .int .i64 0, .slice (some ⟨g2, 0, none⟩) 1 1, .int .i64 0, .int .i64 0]) ∧ NewAt w' g0 ∧ NewAt w' g1 ∧ NewAt w' g2 ∧ Below w.heap.size w w' := by
  go_enter Tryz.func23, Tryz.ntmps23
  go_wp2_with fail
  obtain ⟨W0, hW0⟩ : ∃ W0, W0 = (w.alloc (.cells #[.slice none 0 0, .slice none 0 0, .int .i64 0, .slice none 0 0, .int .i64 0, .slice none 0 0, .int .i64 0, .int .i64 0] 62)).alloc (.cells #[.slice none 0 0, .slice none 0 0, .int .i64 0, .slice none 0 0, .int .i64 0, .slice none 0 0, .int .i64 0, .int .i64 0] 62) := ⟨_, rfl⟩
  have ra : RowL W0 w.heap.size 62 [.slice none 0 0, .slice none 0 0, .int .i64 0, .slice none 0 0, .int .i64 0, .slice none 0 0, .int .i64 0, .int .i64 0] := by
    rw [hW0]
    exact (rowL_alloc w _ _).of_block (Below.heap_alloc _ _ _ (by simp))
  have rb : RowL W0 (w.heap.size + 1) 62 [.slice none 0 0, .slice none 0 0, .int .i64 0, .slice none 0 0, .int .i64 0, .slice none 0 0, .int .i64 0, .int .i64 0] := by
    rw [hW0]
    have := rowL_alloc (w.alloc (.cells #[.slice none 0 0, .slice none 0 0, .int .i64 0, .slice none 0 0, .int .i64 0, .slice none 0 0, .int .i64 0, .int .i64 0] 62)) [.slice none 0 0, .slice none 0 0, .int .i64 0, .slice none 0 0, .int .i64 0, .slice none 0 0, .int .i64 0, .int .i64 0] 62
    simpa using this
  have hb0 : Below w.heap.size w W0 := by
    rw [hW0]
    exact ((Below.refl _ _).alloc (Nat.le_refl _) _).alloc (by simp) _
  rw [← hW0]
  clear hW0
  obtain ⟨n, hn⟩ : ∃ n, n = w.heap.size := ⟨_, rfl⟩
  rw [← hn] at ra rb hb0 ⊢
  have HN : Hid (n = w.heap.size) := hn
  clear hn
  go_loopw [3] (fun vi wr => ∃ (k g0 g1 g2 : Nat), k ≤ 3 ∧ vi = .int .i64 k ∧ RowL wr n 62 [.slice none 0 0, .slice none 0 0, .int .i64 0, .slice none 0 0, .int .i64 0, .slice none 0 0, .int .i64 0, .int .i64 0] ∧ RowL wr (n + 1) 62 [.slice none 0 0, tv (decide (0 < k)) g0, .int .i64 0, tv (decide (1 < k)) g1, .int .i64 0, tv (decide (2 < k)) g2, .int .i64 0, .int .i64 0] ∧ (0 < k → NewAt wr g0 ∧ n + 1 < g0) ∧ (1 < k → NewAt wr g1 ∧ n + 1 < g1) ∧ (2 < k → NewAt wr g2 ∧ n + 1 < g2) ∧ Below n w wr) (fun vi _ => 3 - (intOf vi).toNat)
  case atStart => exact ⟨0, 0, 0, 0, by omega, rfl, ra, rb, fun h => by omega, fun h => by omega, fun h => by omega, hb0⟩
  case round =>
    clear ra rb hb0
    obtain ⟨k, g0, g1, g2, hk, rfl, ra, rb, p0, p1, p2, hb⟩ := hrel
    have hla := ra.lt
    have hlb := rb.lt
    rcases (show k = 0 ∨ k = 1 ∨ k = 2 ∨ k = 3 by omega) with rfl | rfl | rfl | rfl
    · have rb' := rb
      simp only [tv] at rb
      simp at rb
      go_wp2_with (go_at_call 20; refine (new_any _).mono ?_; rintro e w1 ⟨g, rfl, hg, hn, hb1⟩; have rb1 := rb.below hb1 hlb; have ra1 := ra.below hb1 hla; have d := fun j => rb1.cell j; have f := fun j => rb1.frozen j; have l1 := rb1.lt)
      obtain ⟨q1, q2, q3, q4⟩ := bn_step ra1 rb1 (hb.trans (hb1.mono (show n ≤ wr.heap.size by omega))) 1 (.slice (some ⟨g, 0, none⟩) 1 1) (.int .i64 0)
      exact ⟨⟨1, g, 0, 0, by omega, by go_num, q1, by simpa [tv] using q2, fun _ => ⟨q4 _ hn (by omega), by omega⟩, fun h => by omega, fun h => by omega, q3⟩, by simp only [intOf]; omega⟩
    · have rb' := rb
      simp only [tv] at rb
      simp at rb
      go_wp2_with (go_at_call 20; refine (new_any _).mono ?_; rintro e w1 ⟨g, rfl, hg, hn, hb1⟩; have rb1 := rb.below hb1 hlb; have ra1 := ra.below hb1 hla; have d := fun j => rb1.cell j; have f := fun j => rb1.frozen j; have l1 := rb1.lt)
      obtain ⟨q1, q2, q3, q4⟩ := bn_step ra1 rb1 (hb.trans (hb1.mono (show n ≤ wr.heap.size by omega))) 3 (.slice (some ⟨g, 0, none⟩) 1 1) (.int .i64 0)
      exact ⟨⟨2, g0, g, 0, by omega, by go_num, q1, by simpa [tv] using q2, fun _ => ⟨q4 _ ((p0 (by omega)).1.below hb1 (p0 (by omega)).1.lt) (p0 (by omega)).2, (p0 (by omega)).2⟩, fun _ => ⟨q4 _ hn (by omega), by omega⟩, fun h => by omega, q3⟩, by simp only [intOf]; omega⟩
    · have rb' := rb
      simp only [tv] at rb
      simp at rb
      go_wp2_with (go_at_call 20; refine (new_any _).mono ?_; rintro e w1 ⟨g, rfl, hg, hn, hb1⟩; have rb1 := rb.below hb1 hlb; have ra1 := ra.below hb1 hla; have d := fun j => rb1.cell j; have f := fun j => rb1.frozen j; have l1 := rb1.lt)
      obtain ⟨q1, q2, q3, q4⟩ := bn_step ra1 rb1 (hb.trans (hb1.mono (show n ≤ wr.heap.size by omega))) 5 (.slice (some ⟨g, 0, none⟩) 1 1) (.int .i64 0)
      exact ⟨⟨3, g0, g1, g, by omega, by go_num, q1, by simpa [tv] using q2, fun _ => ⟨q4 _ ((p0 (by omega)).1.below hb1 (p0 (by omega)).1.lt) (p0 (by omega)).2, (p0 (by omega)).2⟩, fun _ => ⟨q4 _ ((p1 (by omega)).1.below hb1 (p1 (by omega)).1.lt) (p1 (by omega)).2, (p1 (by omega)).2⟩, fun _ => ⟨q4 _ hn (by omega), by omega⟩, q3⟩, by simp only [intOf]; omega⟩
    · simp only [tv] at rb
      simp at rb
      have d := fun j => rb.cell j
      have da := fun j => ra.cell j
      have fa := fun j => ra.frozen j
      have N : ∀ g, NewAt wr g → n + 1 < g → NewAt ((((((((wr.setCell ⟨n, 0, none⟩ (.slice none 0 0)).setCell ⟨n, 1, none⟩ (.slice (some ⟨g0, 0, none⟩) 1 1)).setCell ⟨n, 2, none⟩ (.int .i64 0)).setCell ⟨n, 3, none⟩ (.slice (some ⟨g1, 0, none⟩) 1 1)).setCell ⟨n, 4, none⟩ (.int .i64 0)).setCell ⟨n, 5, none⟩ (.slice (some ⟨g2, 0, none⟩) 1 1)).setCell ⟨n, 6, none⟩ (.int .i64 0)).setCell ⟨n, 7, none⟩ (.int .i64 0)) g := fun g h hl =>
        (((((((h.set (by omega)).set (by omega)).set (by omega)).set (by omega)).set (by omega)).set (by omega)).set (by omega)).set (by omega)
      have S : ∀ {W : World} (j : Nat) (v : Value), Below n w W → Below n w (W.setCell ⟨n, j, none⟩ v) := fun j v h => ⟨h.os, h.tape, h.output, by simpa using h.size, fun k hk => (Below.heap_setCell _ _ _ _ (show k ≠ n by omega)).trans (h.block k hk)⟩
      have B8 := S 7 (.int .i64 0) (S 6 (.int .i64 0) (S 5 (.slice (some ⟨g2, 0, none⟩) 1 1) (S 4 (.int .i64 0) (S 3 (.slice (some ⟨g1, 0, none⟩) 1 1) (S 2 (.int .i64 0) (S 1 (.slice (some ⟨g0, 0, none⟩) 1 1) (S 0 (.slice none 0 0) hb)))))))
      have E0 : Hid (NewAt _ g0) := N g0 (p0 (by omega)).1 (p0 (by omega)).2
      have E1 : Hid (NewAt _ g1) := N g1 (p1 (by omega)).1 (p1 (by omega)).2
      have E2 : Hid (NewAt _ g2) := N g2 (p2 (by omega)).1 (p2 (by omega)).2
      have B : Hid (Below w.heap.size w _) := B8.mono (by have := HN.out; omega)
      clear N S B8 p0 p1 p2
      go_wp2_with fail
      refine bodyPost_ret (v := .agg #[.slice none 0 0, .slice (some ⟨g0, 0, none⟩) 1 1, .int .i64 0, .slice (some ⟨g1, 0, none⟩) 1 1, .int .i64 0, .slice (some ⟨g2, 0, none⟩) 1 1, .int .i64 0, .int .i64 0]) ?_ rfl ?_
      · simp [results, Tryz.results23, go_sem, da]
      · exact ⟨g0, g1, g2, rfl, E0.out, E1.out, E2.out, B.out⟩

end Go.Proofs.YtlojfgdpmaigmacGreatDoor

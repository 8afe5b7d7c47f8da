/- A new base: what the document says of it. -/
import Derived.Test.YtndojgeodmddoadNewWalk
import Derived.Test.YtndojgeodmddoadCopyAid
namespace Go.Proofs.Ytndojgeodmddoad
open Go.RowKit Plain

set_option maxHeartbeats 400000 in
theorem sameR_none (w : World) :
    Calls Try.prog 12 #[.slice none 0 0, .slice none 0 0] w fun e w' => e = .returned (.bool true) ∧ w' = w := by
  go_enter Try.func12, Try.ntmps12
  go_wp2_with fail
  go_rounds 1
  go_ret
  exact ⟨rfl, rfl⟩

set_option maxHeartbeats 400000 in
theorem rolled_none (n : Int) (w : World) :
    Calls Try.prog 18 #[.slice none 0 0, .int .i64 n] w fun e w' => e = .returned (.tuple #[.slice none 0 0, .bool true]) ∧ w' = w := by
  go_enter Try.func18, Try.ntmps18
  go_wp2_with fail
  go_rounds 1
  go_ret2
  exact ⟨rfl, rfl⟩

set_option maxHeartbeats 400000 in
theorem sizeOf_any (k : Nat) (hk : k < 3) (w : World) :
    Calls Try.prog 19 #[.int .i64 k] w fun e w' => (∃ n, e = .returned (.int .i64 n)) ∧ Below w.heap.size w w' := by
  rcases (show k = 0 ∨ k = 1 ∨ k = 2 by omega) with rfl | rfl | rfl <;>
  · go_enter Try.func19, Try.ntmps19
    go_wp2
    go_ret
    exact ⟨⟨_, rfl⟩, (Below.refl _ _).alloc (Nat.le_refl _) _⟩

set_option maxHeartbeats 1000000 in
theorem book_new (g0 g1 g2 : Nat) (w : World) (h0 : NewAt w g0) :
    Calls Try.prog 11 #[.agg #[.slice none 0 0, .slice (some ⟨g0, 0, none⟩) 1 1, .int .i64 0, .slice (some ⟨g1, 0, none⟩) 1 1, .int .i64 0, .slice (some ⟨g2, 0, none⟩) 1 1, .int .i64 0, .int .i64 0]] w
      fun e w' => e = .returned (.tuple #[.slice none 0 0, .bool true]) ∧ Below w.heap.size w w' := by
  have b0 : ∀ o : Obj, Below w.heap.size w (w.alloc o) := fun o => (Below.refl _ _).alloc (Nat.le_refl _) o
  go_enter Try.func11, Try.ntmps11
  go_wp2_with (first | (go_at_call 20; refine (allOf_new g0 _ _ _ (h0.alloc _)).mono ?_; rintro e w1 ⟨rfl, hb1⟩))
  go_rounds 1
  go_ret2
  exact ⟨rfl, nextB (b0 _) (Nat.le_refl _) hb1⟩

def tv (b : Bool) (g : Nat) : Value := if b = true then .slice (some ⟨g, 0, none⟩) 1 1 else .slice none 0 0

theorem NewAt.set {w : World} {g b j : Nat} {v : Value} (h : NewAt w g) (hne : g ≠ b) : NewAt (w.setCell ⟨b, j, none⟩ v) g := by
  have c : ∀ i, (w.setCell ⟨b, j, none⟩ v).cell? ⟨g, i, none⟩ = w.cell? ⟨g, i, none⟩ := fun i => World.cell?_setCell_far _ _ _ _ (fun e => hne e.symm)
  exact ⟨(c 0).trans h.c0, (c 1).trans h.c1, (c 2).trans h.c2, (c 3).trans h.c3, (c 4).trans h.c4, by simpa using h.lt⟩

theorem bn_step {w w1 : World} {n : Nat} {t : TypeId} {l A : List Value} (ra : RowL w1 n t A) (rb : RowL w1 (n + 1) t l) (hb : Below n w w1) (i : Nat) (v1 v2 : Value) :
    RowL ((w1.setCell ⟨n + 1, i, none⟩ v1).setCell ⟨n + 1, i + 1, none⟩ v2) n t A ∧ RowL ((w1.setCell ⟨n + 1, i, none⟩ v1).setCell ⟨n + 1, i + 1, none⟩ v2) (n + 1) t ((l.set i v1).set (i + 1) v2) ∧ Below n w ((w1.setCell ⟨n + 1, i, none⟩ v1).setCell ⟨n + 1, i + 1, none⟩ v2) ∧
    ∀ g, NewAt w1 g → n + 1 < g → NewAt ((w1.setCell ⟨n + 1, i, none⟩ v1).setCell ⟨n + 1, i + 1, none⟩ v2) g := by
  have far : ∀ (W : World) (j : Nat) (v : Value), (W.setCell ⟨n + 1, j, none⟩ v).heap[n]? = W.heap[n]? := fun W j v => Below.heap_setCell _ _ _ _ (show n ≠ n + 1 by omega)
  refine ⟨(ra.of_block (far _ _ _)).of_block (far _ _ _), (rb.set i v1).set (i + 1) v2, ⟨hb.os, hb.tape, hb.output, by simpa using hb.size, fun k hk => ?_⟩, fun g hg hl => (hg.set (by omega)).set (by omega)⟩
  exact (Below.heap_setCell _ _ _ _ (show k ≠ n + 1 by omega)).trans ((Below.heap_setCell _ _ _ _ (show k ≠ n + 1 by omega)).trans (hb.block k hk))

set_option maxRecDepth 20000 in
set_option maxHeartbeats 800000 in
theorem bnew_any (w : World) :
    Calls Try.prog 5 #[] w
      fun e w' => ∃ g0 g1 g2, e = .returned (.agg #[.slice none 0 0, .slice (some ⟨g0, 0, none⟩) 1 1, .int .i64 0, .slice (some ⟨g1, 0, none⟩) 1 1, .int .i64 0, .slice (some ⟨g2, 0, none⟩) 1 1, .int .i64 0, .int .i64 0]) ∧ NewAt w' g0 ∧ NewAt w' g1 ∧ NewAt w' g2 ∧ Below w.heap.size w w' := by
  go_enter Try.func5, Try.ntmps5
  go_wp2_with fail
  obtain ⟨W0, hW0⟩ : ∃ W0, W0 = (w.alloc (.cells #[.slice none 0 0, .slice none 0 0, .int .i64 0, .slice none 0 0, .int .i64 0, .slice none 0 0, .int .i64 0, .int .i64 0] 28)).alloc (.cells #[.slice none 0 0, .slice none 0 0, .int .i64 0, .slice none 0 0, .int .i64 0, .slice none 0 0, .int .i64 0, .int .i64 0] 28) := ⟨_, rfl⟩
  have ra : RowL W0 w.heap.size 28 [.slice none 0 0, .slice none 0 0, .int .i64 0, .slice none 0 0, .int .i64 0, .slice none 0 0, .int .i64 0, .int .i64 0] := by
    rw [hW0]
    exact (rowL_alloc w _ _).of_block (Below.heap_alloc _ _ _ (by simp))
  have rb : RowL W0 (w.heap.size + 1) 28 [.slice none 0 0, .slice none 0 0, .int .i64 0, .slice none 0 0, .int .i64 0, .slice none 0 0, .int .i64 0, .int .i64 0] := by
    rw [hW0]
    have := rowL_alloc (w.alloc (.cells #[.slice none 0 0, .slice none 0 0, .int .i64 0, .slice none 0 0, .int .i64 0, .slice none 0 0, .int .i64 0, .int .i64 0] 28)) [.slice none 0 0, .slice none 0 0, .int .i64 0, .slice none 0 0, .int .i64 0, .slice none 0 0, .int .i64 0, .int .i64 0] 28
    simpa using this
  have hb0 : Below w.heap.size w W0 := by
    rw [hW0]
    exact ((Below.refl _ _).alloc (Nat.le_refl _) _).alloc (by simp) _
  rw [← hW0]
  clear hW0
  obtain ⟨n, hn⟩ : ∃ n, n = w.heap.size := ⟨_, rfl⟩
  rw [← hn] at ra rb hb0 ⊢
  have HN : Hid (n = w.heap.size) := hn
  clear hn
  go_loopw [3] (fun vi wr => ∃ (k g0 g1 g2 : Nat), k ≤ 3 ∧ vi = .int .i64 k ∧ RowL wr n 28 [.slice none 0 0, .slice none 0 0, .int .i64 0, .slice none 0 0, .int .i64 0, .slice none 0 0, .int .i64 0, .int .i64 0] ∧ RowL wr (n + 1) 28 [.slice none 0 0, tv (decide (0 < k)) g0, .int .i64 0, tv (decide (1 < k)) g1, .int .i64 0, tv (decide (2 < k)) g2, .int .i64 0, .int .i64 0] ∧ (0 < k → NewAt wr g0 ∧ n + 1 < g0) ∧ (1 < k → NewAt wr g1 ∧ n + 1 < g1) ∧ (2 < k → NewAt wr g2 ∧ n + 1 < g2) ∧ Below n w wr) (fun vi _ => 3 - (intOf vi).toNat)
  case atStart => exact ⟨0, 0, 0, 0, by omega, rfl, ra, rb, fun h => by omega, fun h => by omega, fun h => by omega, hb0⟩
  case round =>
    clear ra rb hb0
    obtain ⟨k, g0, g1, g2, hk, rfl, ra, rb, p0, p1, p2, hb⟩ := hrel
    have hla := ra.lt
    have hlb := rb.lt
    rcases (show k = 0 ∨ k = 1 ∨ k = 2 ∨ k = 3 by omega) with rfl | rfl | rfl | rfl
    · have rb' := rb
      simp only [tv] at rb
      simp at rb
      go_wp2_with (go_at_call 9; refine (new_any _).mono ?_; rintro e w1 ⟨g, rfl, hg, hn, hb1⟩; have rb1 := rb.below hb1 hlb; have ra1 := ra.below hb1 hla; have d := fun j => rb1.cell j; have f := fun j => rb1.frozen j; have l1 := rb1.lt)
      obtain ⟨q1, q2, q3, q4⟩ := bn_step ra1 rb1 (hb.trans (hb1.mono (show n ≤ wr.heap.size by omega))) 1 (.slice (some ⟨g, 0, none⟩) 1 1) (.int .i64 0)
      exact ⟨⟨1, g, 0, 0, by omega, by go_num, q1, by simpa [tv] using q2, fun _ => ⟨q4 _ hn (by omega), by omega⟩, fun h => by omega, fun h => by omega, q3⟩, by simp only [intOf]; omega⟩
    · have rb' := rb
      simp only [tv] at rb
      simp at rb
      go_wp2_with (go_at_call 9; refine (new_any _).mono ?_; rintro e w1 ⟨g, rfl, hg, hn, hb1⟩; have rb1 := rb.below hb1 hlb; have ra1 := ra.below hb1 hla; have d := fun j => rb1.cell j; have f := fun j => rb1.frozen j; have l1 := rb1.lt)
      obtain ⟨q1, q2, q3, q4⟩ := bn_step ra1 rb1 (hb.trans (hb1.mono (show n ≤ wr.heap.size by omega))) 3 (.slice (some ⟨g, 0, none⟩) 1 1) (.int .i64 0)
      exact ⟨⟨2, g0, g, 0, by omega, by go_num, q1, by simpa [tv] using q2, fun _ => ⟨q4 _ ((p0 (by omega)).1.below hb1 (p0 (by omega)).1.lt) (p0 (by omega)).2, (p0 (by omega)).2⟩, fun _ => ⟨q4 _ hn (by omega), by omega⟩, fun h => by omega, q3⟩, by simp only [intOf]; omega⟩
    · have rb' := rb
      simp only [tv] at rb
      simp at rb
      go_wp2_with (go_at_call 9; refine (new_any _).mono ?_; rintro e w1 ⟨g, rfl, hg, hn, hb1⟩; have rb1 := rb.below hb1 hlb; have ra1 := ra.below hb1 hla; have d := fun j => rb1.cell j; have f := fun j => rb1.frozen j; have l1 := rb1.lt)
      obtain ⟨q1, q2, q3, q4⟩ := bn_step ra1 rb1 (hb.trans (hb1.mono (show n ≤ wr.heap.size by omega))) 5 (.slice (some ⟨g, 0, none⟩) 1 1) (.int .i64 0)
      exact ⟨⟨3, g0, g1, g, by omega, by go_num, q1, by simpa [tv] using q2, fun _ => ⟨q4 _ ((p0 (by omega)).1.below hb1 (p0 (by omega)).1.lt) (p0 (by omega)).2, (p0 (by omega)).2⟩, fun _ => ⟨q4 _ ((p1 (by omega)).1.below hb1 (p1 (by omega)).1.lt) (p1 (by omega)).2, (p1 (by omega)).2⟩, fun _ => ⟨q4 _ hn (by omega), by omega⟩, q3⟩, by simp only [intOf]; omega⟩
    · simp only [tv] at rb
      simp at rb
      have d := fun j => rb.cell j
      have da := fun j => ra.cell j
      have fa := fun j => ra.frozen j
      have N : ∀ g, NewAt wr g → n + 1 < g → NewAt ((((((((wr.setCell ⟨n, 0, none⟩ (.slice none 0 0)).setCell ⟨n, 1, none⟩ (.slice (some ⟨g0, 0, none⟩) 1 1)).setCell ⟨n, 2, none⟩ (.int .i64 0)).setCell ⟨n, 3, none⟩ (.slice (some ⟨g1, 0, none⟩) 1 1)).setCell ⟨n, 4, none⟩ (.int .i64 0)).setCell ⟨n, 5, none⟩ (.slice (some ⟨g2, 0, none⟩) 1 1)).setCell ⟨n, 6, none⟩ (.int .i64 0)).setCell ⟨n, 7, none⟩ (.int .i64 0)) g := fun g h hl =>
        (((((((h.set (by omega)).set (by omega)).set (by omega)).set (by omega)).set (by omega)).set (by omega)).set (by omega)).set (by omega)
      have S : ∀ {W : World} (j : Nat) (v : Value), Below n w W → Below n w (W.setCell ⟨n, j, none⟩ v) := fun j v h => ⟨h.os, h.tape, h.output, by simpa using h.size, fun k hk => (Below.heap_setCell _ _ _ _ (show k ≠ n by omega)).trans (h.block k hk)⟩
      have B8 := S 7 (.int .i64 0) (S 6 (.int .i64 0) (S 5 (.slice (some ⟨g2, 0, none⟩) 1 1) (S 4 (.int .i64 0) (S 3 (.slice (some ⟨g1, 0, none⟩) 1 1) (S 2 (.int .i64 0) (S 1 (.slice (some ⟨g0, 0, none⟩) 1 1) (S 0 (.slice none 0 0) hb)))))))
      have E0 : Hid (NewAt _ g0) := N g0 (p0 (by omega)).1 (p0 (by omega)).2
      have E1 : Hid (NewAt _ g1) := N g1 (p1 (by omega)).1 (p1 (by omega)).2
      have E2 : Hid (NewAt _ g2) := N g2 (p2 (by omega)).1 (p2 (by omega)).2
      have B : Hid (Below w.heap.size w _) := B8.mono (by have := HN.out; omega)
      clear N S B8 p0 p1 p2
      go_wp2_with fail
      refine bodyPost_ret (v := .agg #[.slice none 0 0, .slice (some ⟨g0, 0, none⟩) 1 1, .int .i64 0, .slice (some ⟨g1, 0, none⟩) 1 1, .int .i64 0, .slice (some ⟨g2, 0, none⟩) 1 1, .int .i64 0, .int .i64 0]) ?_ rfl ?_
      · simp [results, Try.results5, go_sem, da]
      · exact ⟨g0, g1, g2, rfl, E0.out, E1.out, E2.out, B.out⟩

set_option maxRecDepth 20000 in
set_option maxHeartbeats 4000000 in
theorem baseMay_new (g0 g1 g2 : Nat) (w : World) (h0 : NewAt w g0) (h1 : NewAt w g1) (h2 : NewAt w g2) :
    Calls Try.prog 10 #[.agg #[.slice none 0 0, .slice (some ⟨g0, 0, none⟩) 1 1, .int .i64 0, .slice (some ⟨g1, 0, none⟩) 1 1, .int .i64 0, .slice (some ⟨g2, 0, none⟩) 1 1, .int .i64 0, .int .i64 0]] w
      fun e w' => e = .returned (.bool true) ∧ Below w.heap.size w w' := by
  have b0 : ∀ o : Obj, Below w.heap.size w (w.alloc o) := fun o => (Below.refl _ _).alloc (Nat.le_refl _) o
  go_enter Try.func10, Try.ntmps10
  go_wp2_with (first | (go_at_call 16; refine (in_any _ _ _ _).mono ?_; rintro e w1 ⟨rfl, hw1⟩; subst w1))
  refine wp_loop_rounds 1 ?_
  rw [rounds_succ]
  go_wp2_with (first | (go_at_call 11; refine (book_new g0 g1 g2 _ (h0.alloc _)).mono ?_; rintro e w1 ⟨rfl, hb1⟩))
  have rb : RowL w1 w.heap.size 28 [.slice none 0 0, .slice (some ⟨g0, 0, none⟩) 1 1, .int .i64 0, .slice (some ⟨g1, 0, none⟩) 1 1, .int .i64 0, .slice (some ⟨g2, 0, none⟩) 1 1, .int .i64 0, .int .i64 0] := (rowL_alloc w _ _).below hb1 (by simp)
  have hw1 : Below w.heap.size w w1 := nextB (b0 _) (Nat.le_refl _) hb1
  clear hb1
  go_loopw [6, 7] (fun v6 v7 wr => ∃ k : Nat, k ≤ 3 ∧ v6 = .bool true ∧ v7 = .int .i64 k ∧ RowL wr w.heap.size 28 [.slice none 0 0, .slice (some ⟨g0, 0, none⟩) 1 1, .int .i64 0, .slice (some ⟨g1, 0, none⟩) 1 1, .int .i64 0, .slice (some ⟨g2, 0, none⟩) 1 1, .int .i64 0, .int .i64 0] ∧ Below w.heap.size w wr) (fun _ v7 _ => 3 - (intOf v7).toNat)
  case atStart => exact ⟨0, by omega, rfl, rfl, rb, hw1⟩
  case round =>
    clear rb hw1
    obtain ⟨k, hk, rfl, rfl, rb, hb⟩ := hrel
    have hl := rb.lt
    rcases (show k = 0 ∨ k = 1 ∨ k = 2 ∨ k = 3 by omega) with rfl | rfl | rfl | rfl
    · go_wp2_with (first | (go_at_call 19; refine (sizeOf_any 0 (by decide) _).mono ?_; rintro e w2 ⟨⟨n, rfl⟩, hb2⟩; have rb2 := rb.below hb2 hl; have d := fun j => rb2.cell j; have l2 := rb2.lt; have hw2 : Below w.heap.size w w2 := hb.trans (hb2.mono (by omega))) | (go_at_call 18; refine (rolled_none _ _).mono ?_; rintro e w3 ⟨rfl, hw3⟩; subst w3) | (go_at_call 20; refine (allOf_new g0 _ _ _ (h0.below hw2 h0.lt)).mono ?_; rintro e w4 ⟨rfl, hb4⟩) | (go_at_call 12; refine (sameR_none _).mono ?_; rintro e w5 ⟨rfl, hw5⟩; subst w5))
      exact ⟨⟨1, by omega, rfl, by go_num, rb2.below hb4 l2, hw2.trans (hb4.mono (by omega))⟩, by decide⟩
    · go_wp2_with (first | (go_at_call 19; refine (sizeOf_any 1 (by decide) _).mono ?_; rintro e w2 ⟨⟨n, rfl⟩, hb2⟩; have rb2 := rb.below hb2 hl; have d := fun j => rb2.cell j; have l2 := rb2.lt; have hw2 : Below w.heap.size w w2 := hb.trans (hb2.mono (by omega))) | (go_at_call 18; refine (rolled_none _ _).mono ?_; rintro e w3 ⟨rfl, hw3⟩; subst w3) | (go_at_call 20; refine (allOf_new g1 _ _ _ (h1.below hw2 h1.lt)).mono ?_; rintro e w4 ⟨rfl, hb4⟩) | (go_at_call 12; refine (sameR_none _).mono ?_; rintro e w5 ⟨rfl, hw5⟩; subst w5))
      exact ⟨⟨2, by omega, rfl, by go_num, rb2.below hb4 l2, hw2.trans (hb4.mono (by omega))⟩, by decide⟩
    · go_wp2_with (first | (go_at_call 19; refine (sizeOf_any 2 (by decide) _).mono ?_; rintro e w2 ⟨⟨n, rfl⟩, hb2⟩; have rb2 := rb.below hb2 hl; have d := fun j => rb2.cell j; have l2 := rb2.lt; have hw2 : Below w.heap.size w w2 := hb.trans (hb2.mono (by omega))) | (go_at_call 18; refine (rolled_none _ _).mono ?_; rintro e w3 ⟨rfl, hw3⟩; subst w3) | (go_at_call 20; refine (allOf_new g2 _ _ _ (h2.below hw2 h2.lt)).mono ?_; rintro e w4 ⟨rfl, hb4⟩) | (go_at_call 12; refine (sameR_none _).mono ?_; rintro e w5 ⟨rfl, hw5⟩; subst w5))
      exact ⟨⟨3, by omega, rfl, by go_num, rb2.below hb4 l2, hw2.trans (hb4.mono (by omega))⟩, by decide⟩
    · go_wp2_with fail
      go_ret
      exact ⟨rfl, hb⟩

set_option maxRecDepth 20000 in
set_option maxHeartbeats 4000000 in
theorem baseIs_new (g0 g1 g2 : Nat) (w : World) (h0 : NewAt w g0) (h1 : NewAt w g1) (h2 : NewAt w g2) :
    Calls Try.prog 6 #[.agg #[.slice none 0 0, .slice (some ⟨g0, 0, none⟩) 1 1, .int .i64 0, .slice (some ⟨g1, 0, none⟩) 1 1, .int .i64 0, .slice (some ⟨g2, 0, none⟩) 1 1, .int .i64 0, .int .i64 0], .slice none 0 0, .int .i64 0, .slice none 0 0] w
      fun e w' => e = .returned (.bool true) ∧ Below w.heap.size w w' := by
  have b0 : ∀ o : Obj, Below w.heap.size w (w.alloc o) := fun o => (Below.refl _ _).alloc (Nat.le_refl _) o
  go_enter Try.func6, Try.ntmps6
  go_wp2_with (first | (go_at_call 10; refine (baseMay_new g0 g1 g2 _ (h0.alloc _) (h1.alloc _) (h2.alloc _)).mono ?_; rintro e w1 ⟨rfl, hb1⟩; have rb : RowL w1 w.heap.size 28 [.slice none 0 0, .slice (some ⟨g0, 0, none⟩) 1 1, .int .i64 0, .slice (some ⟨g1, 0, none⟩) 1 1, .int .i64 0, .slice (some ⟨g2, 0, none⟩) 1 1, .int .i64 0, .int .i64 0] := (rowL_alloc w _ _).below hb1 (by simp); have d := fun j => rb.cell j; have l1 := rb.lt; have hw1 : Below w.heap.size w w1 := nextB (b0 _) (Nat.le_refl _) hb1))
  refine wp_loop_rounds 1 ?_
  rw [rounds_succ]
  go_wp2_with (first | (go_at_call 11; refine (book_new g0 g1 g2 _ (h0.below hw1 h0.lt)).mono ?_; rintro e w2 ⟨rfl, hb2⟩) | (go_at_call 12; refine (sameR_none _).mono ?_; rintro e w5 ⟨rfl, hw5⟩; subst w5))
  go_ret
  exact ⟨rfl, nextB hw1 (Nat.le_refl _) hb2⟩

end Go.Proofs.Ytndojgeodmddoad

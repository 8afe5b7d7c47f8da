/- tree.kidOf, tree.greatest. -/
import Derived.Test.YtlojfgdpmaigmacWithE
import Derived.Shelf.Slices.SearchI
namespace Go.Proofs.Ytlojfgdpmaigmac
open Go.RowKit Plain Go.Shelf

theorem drewNB {B : Nat} {w w' : World} (h : Below B w w') (n : Nat) : Below B w (w'.drewN n) := ⟨h.os, h.tape, h.output, h.size, h.block⟩

/-- Which of the kids has a key. -/
def kidI (keys : List Int) (k : Int) : Nat := keys.countP (· < k) + if keys.contains k = true then 1 else 0

set_option maxRecDepth 20000 in
set_option maxHeartbeats 1000000 in
theorem kidOf_any (p : PN) (k : Int) (w : World) (hk : RowAt w.heap.size w p.kA (ints p.keys)) (hne : p.keys ≠ []) (hz : p.keys.length * 8 ≤ 140737488351232) (hs : p.keys.Pairwise (· ≤ ·)) :
    Calls Try.prog 46 #[.agg #[.bool p.leaf, .slice p.eA p.ents.length p.eC, .slice p.kA p.keys.length p.kC, .slice p.dA p.kids.length p.dC, .slice p.bA p.buf.length p.bC], .int .i64 k] w
      fun e w' => e = .returned (.int .i64 (kidI p.keys k : Int)) ∧ Below w.heap.size w w' := by
  obtain ⟨b, o, hA, hlt, hc⟩ : ∃ b o, p.kA = some ⟨b, o, none⟩ ∧ b < w.heap.size ∧ ∀ j u, (ints p.keys)[j]? = some u → w.cell? ⟨b, o + j, none⟩ = some u := by
    rcases hk with h | h
    · exact absurd (by simpa [ints] using h) hne
    · exact h
  have hb0 : ∀ ob : Obj, Below w.heap.size w (w.alloc ob) := fun ob => (Below.refl _ _).alloc (Nat.le_refl _) ob
  have hcon := fun W (hW : Below w.heap.size w W) => Any.slices_BinarySearch_int Try.searchI b o p.keys.length p.kC p.keys k W (Nat.le_refl _) (by omega) (fun j hj => by
    rw [hW.cell (p := ⟨b, o + j, none⟩) hlt]
    exact hc j _ (by rw [ints, List.getElem?_map, List.getElem?_eq_getElem hj, List.getD_eq_getElem?_getD, List.getElem?_eq_getElem hj]; rfl)) (by rw [List.take_length]; exact hs)
  rw [List.take_length] at hcon
  have hle : p.keys.countP (· < k) ≤ p.keys.length := List.countP_le_length
  rw [hA]
  unfold kidI
  generalize p.keys.countP (· < k) = r at hcon hle ⊢
  cases hq : p.keys.contains k with
  | true =>
    rw [hq] at hcon
    have HC := hideC hcon
    clear hcon hq
    have e1 : ((r + if true = true then 1 else 0 : Nat) : Int) = (r : Int) + 1 := by simp
    rw [e1]
    go_enter Try.func46, Try.ntmps46
    go_wp2_with (go_at_call 63; refine (HC.out _ (hb0 _)).mono ?_; rintro e w1 ⟨rfl, q, rfl⟩)
    go_ret
    exact ⟨rfl, drewNB (hb0 _) _⟩
  | false =>
    rw [hq] at hcon
    have HC := hideC hcon
    clear hcon hq
    have e1 : ((r + if false = true then 1 else 0 : Nat) : Int) = (r : Int) := by simp
    rw [e1]
    go_enter Try.func46, Try.ntmps46
    go_wp2_with (go_at_call 63; refine (HC.out _ (hb0 _)).mono ?_; rintro e w1 ⟨rfl, q, rfl⟩)
    go_ret
    exact ⟨rfl, drewNB (hb0 _) _⟩

set_option maxRecDepth 20000 in
set_option maxHeartbeats 4000000 in
theorem greatest_any (a0 a1 a2 a3 : Int) (w : World) :
    Calls Try.prog 62 #[.agg #[.int .i64 a0, .int .i64 a1, .int .i64 a2, .int .i64 a3]] w
      fun e w' => ∃ m : Nat, m < 4 ∧ e = .returned (.int .i64 (m : Int)) ∧ Below w.heap.size w w' := by
  have i0 : ∀ (x y z u : Value) (w : World), (Instr.index 95 (.agg #[x, y, z, u]) (.int .i64 0)).run Try.prog w = .ok x w := fun _ _ _ _ _ => by kernel_rfl
  have i1 : ∀ (x y z u : Value) (w : World), (Instr.index 95 (.agg #[x, y, z, u]) (.int .i64 1)).run Try.prog w = .ok y w := fun _ _ _ _ _ => by kernel_rfl
  have i2 : ∀ (x y z u : Value) (w : World), (Instr.index 95 (.agg #[x, y, z, u]) (.int .i64 2)).run Try.prog w = .ok z w := fun _ _ _ _ _ => by kernel_rfl
  have i3 : ∀ (x y z u : Value) (w : World), (Instr.index 95 (.agg #[x, y, z, u]) (.int .i64 3)).run Try.prog w = .ok u w := fun _ _ _ _ _ => by kernel_rfl
  go_enter Try.func62, Try.ntmps62
  go_wp2_with fail
  generalize hW : w.alloc (.cells #[.int .i64 a0, .int .i64 a1, .int .i64 a2, .int .i64 a3] 95) = W
  have hbW : Below w.heap.size w W := by rw [← hW]; exact (Below.refl _ _).alloc (Nat.le_refl _) _
  have hlW : w.heap.size < W.heap.size := by rw [← hW]; simp
  have hat : ∀ a : Nat, a < 4 → ∃ v : Int, W.cell? ⟨w.heap.size, a, none⟩ = some (.int .i64 v) := by
    intro a ha
    rw [← hW]
    rcases (show a = 0 ∨ a = 1 ∨ a = 2 ∨ a = 3 by omega) with rfl | rfl | rfl | rfl
    · exact ⟨a0, by simp⟩
    · exact ⟨a1, by simp⟩
    · exact ⟨a2, by simp⟩
    · exact ⟨a3, by simp⟩
  have hix : ∀ i : Nat, i < 4 → ∃ v : Int, (Instr.index 95 (.agg #[.int .i64 a0, .int .i64 a1, .int .i64 a2, .int .i64 a3]) (.int .i64 (i : Int))).run Try.prog W = .ok (.int .i64 v) W := by
    intro i hi
    rcases (show i = 0 ∨ i = 1 ∨ i = 2 ∨ i = 3 by omega) with rfl | rfl | rfl | rfl
    · exact ⟨a0, i0 _ _ _ _ _⟩
    · exact ⟨a1, i1 _ _ _ _ _⟩
    · exact ⟨a2, i2 _ _ _ _ _⟩
    · exact ⟨a3, i3 _ _ _ _ _⟩
  clear i0 i1 i2 i3 hW
  have HAT := hideC hat
  have HIX := hideC hix
  clear hat hix
  go_loopw [3, 7] (fun va vi wr => ∃ a i : Nat, a < 4 ∧ i ≤ 4 ∧ va = .int .i64 a ∧ vi = .int .i64 i ∧ wr = W) (fun _ vi _ => 4 - (intOf vi).toNat)
  case atStart => exact ⟨0, 0, by decide, by decide, rfl, rfl, rfl⟩
  case round =>
    obtain ⟨a, i, ha, hi, rfl, rfl, hw⟩ := hrel
    subst hw
    by_cases hi4 : i < 4
    · obtain ⟨va, ca⟩ := HAT.out a ha
      obtain ⟨vi, ci⟩ := HIX.out i hi4
      have hia : (a : Int) < 4 := by omega
      have hia0 : (0 : Int) ≤ (a : Int) := by omega
      have hii : (i : Int) < 4 := by omega
      by_cases hv : va < vi
      · go_wp2_with fail
        go_roundw
        case rel => exact ⟨i, i + 1, hi4, by omega, rfl, by go_num, trivial⟩
        case measure => simp [intOf]; omega
      · go_wp2_with fail
        go_roundw
        case rel => exact ⟨a, i + 1, ha, by omega, rfl, by go_num, trivial⟩
        case measure => simp [intOf]; omega
    · have hii : ¬ (i : Int) < 4 := by omega
      go_wp2_with fail
      go_ret
      exact ⟨a, ha, rfl, hbW⟩

end Go.Proofs.Ytlojfgdpmaigmac

/- Entries that may be (P2.1): the code's test and the document's. -/
import Derived.Test.YtlojfgdpmaigmadDoorP09
import Derived.Test.YtlojfgdpmaigmadDoorRows
import Derived.WalkKit
import Derived.ProofKit
import Derived.OpenShut
import Derived.Below
import Derived.ChangeOld
namespace Go.Proofs.YtlojfgdpmaigmadDoor
open Go.RowKit Plain

theorem lowAt_le {xs : List En} {low high : Int} {k : Nat} (hk : k < xs.length) (h : low ≤ lowAt xs low k) (he : entB xs[k] (lowAt xs low k) high = true) : low ≤ lowAt xs low (k + 1) := by
  simp only [entB, Bool.and_eq_true, decide_eq_true_eq] at he
  have : lowAt xs low (k + 1) = xs[k].key + 1 := by simp [lowAt, hk]
  omega

theorem ents_no {xs : List En} {low high : Int} {k : Nat} (hk : k < xs.length) (h : entsB xs low high = entsB (xs.drop k) (lowAt xs low k) high) (he : entB xs[k] (lowAt xs low k) high = false) : entsB xs low high = false := by
  rw [h, entsB_drop hk, he, Bool.false_and]

theorem ents_yes {xs : List En} {low high : Int} {k : Nat} (hk : k < xs.length) (h : entsB xs low high = entsB (xs.drop k) (lowAt xs low k) high) (he : entB xs[k] (lowAt xs low k) high = true) :
    entsB xs low high = entsB (xs.drop (k + 1)) (lowAt xs low (k + 1)) high := by
  rw [h, entsB_drop hk, he, Bool.true_and]

theorem ents_end {xs : List En} {low high : Int} {k : Nat} (hk : k = xs.length) (h : entsB xs low high = entsB (xs.drop k) (lowAt xs low k) high) : entsB xs low high = true := by
  rw [h, hk, List.drop_length]; rfl

theorem ret_bool {a b : Bool} (h : a = b) : Ending.returned (.bool a) = .returned (.bool b) := by rw [h]

set_option maxRecDepth 20000 in
set_option maxHeartbeats 4000000 in
theorem entriesMayBe_any (A : Option Addr) (C : Nat) (xs : List En) (most low high : Int) (w : World) (h : RowAt w.heap.size w A (flatE xs)) (hz : xs.length * 56 ≤ 140737488351232) (hl : -9223372036854775808 ≤ low) (hh : high ≤ 9223372036854775807) :
    Calls Tryd.prog 77 #[.slice A xs.length C, .int .i64 most, .int .i64 low, .int .i64 high] w fun e w' => e = .returned (.bool (decide ((xs.length : Int) ≤ most) && entsB xs low high)) ∧ Below w.heap.size w w' := by
  by_cases hm : most < xs.length
  · have HE : Hid ((decide ((xs.length : Int) ≤ most) && entsB xs low high) = false) := by
      show _ = false
      rw [decide_eq_false (by omega), Bool.false_and]
    go_enter Tryd.func77, Tryd.ntmps77
    go_wp2_with fail
    go_ret
    exact ⟨ret_bool HE.out.symm, Below.refl _ _⟩
  · have HE : Hid ((decide ((xs.length : Int) ≤ most) && entsB xs low high) = entsB xs low high) := by
      show _ = _
      rw [decide_eq_true (by omega), Bool.true_and]
    rw [HE.out]
    go_enter Tryd.func77, Tryd.ntmps77
    go_wp2_with fail
    go_loopw [2, 17] (fun lo i wr => ∃ k : Nat, k ≤ xs.length ∧ i = .int .i64 k ∧ lo = .int .i64 (lowAt xs low k) ∧ low ≤ lowAt xs low k ∧ Hid (entsB xs low high = entsB (xs.drop k) (lowAt xs low k) high) ∧ Below w.heap.size w wr) (fun _ i _ => xs.length - (intOf i).toNat)
    case atStart => exact ⟨0, Nat.zero_le _, rfl, rfl, Int.le_refl _, (show _ = _ from rfl), Below.refl _ _⟩
    case round =>
      obtain ⟨k, hk, rfl, rfl, hlo, HR, hb⟩ := hrel
      by_cases hlt : k < xs.length
      · obtain ⟨b, o, rfl, hbl, c0, c1, c2, c3, c4, c5, c6⟩ := (h.below hb (Nat.le_refl _)).en hlt
        have hle : w.heap.size ≤ wr.heap.size := hb.size
        have hbr : b < wr.heap.size := by omega
        have HY : Hid (entB xs[k] (lowAt xs low k) high = true → entsB xs low high = entsB (xs.drop (k + 1)) (lowAt xs low (k + 1)) high) := fun he => ents_yes hlt HR.out he
        have HN : Hid (entB xs[k] (lowAt xs low k) high = false → entsB xs low high = false) := fun he => ents_no hlt HR.out he
        have HS : Hid (lowAt xs low (k + 1) = xs[k].key + 1) := by show _ = _; simp [lowAt, hlt]
        clear HR
        generalize xs[k] = x at *
        generalize lowAt xs low k = lo at *
        obtain ⟨key, c, s, xlo, xhi, t, l⟩ := x
        simp only at c0 c1 c2 c3 c4 c5 c6
        by_cases h1 : lo ≤ key
        · by_cases h2 : key < high
          · by_cases h3 : c = 0
            · have HN' := HN.out (by simp [entB, h3])
              clear HN HY
              have HN'' : Hid (entsB xs low high = false) := HN'
              clear HN'
              subst h3
              go_wp2_with fail
              go_ret
              exact ⟨ret_bool HN''.out.symm, hb.alloc hle _⟩
            · by_cases h4 : checkC c s xlo xhi t l = 0
              · have h4' : (checkC c s xlo xhi t l == 0) = true := by simpa using h4
                have h3' : (c == 0) = false := by simpa using h3
                have HY' : Hid (entsB xs low high = entsB (xs.drop (k + 1)) (lowAt xs low (k + 1)) high) := HY.out (by simp [entB, h1, h2, h3, h4])
                clear h3 HY HN
                go_wp2_with (first | (go_at_call 52; refine (check_any _ _ _ _ _ _ _).mono ?_; rintro e w1 ⟨rfl, hb1⟩; have hc1 := (bcells hb1).1))
                go_roundw
                case rel =>
                  go_light
                  have hs := HS.out
                  exact ⟨k + 1, by omega, by go_num, by rw [hs], by omega, HY', nextB (hb.alloc hle _) (Nat.le_refl _) hb1⟩
                case measure => simp [intOf]; omega
              · have h4' : (checkC c s xlo xhi t l == 0) = false := by simpa using h4
                have h3' : (c == 0) = false := by simpa using h3
                have HN' : Hid (entsB xs low high = false) := HN.out (by simp [entB, h4])
                clear h3 HY HN
                have h4n : (checkC c s xlo xhi t l != 0) = true := by simpa using h4
                go_wp2_with (first | (go_at_call 52; refine (check_any _ _ _ _ _ _ _).mono ?_; rintro e w1 ⟨rfl, hb1⟩; have hc1 := (bcells hb1).1))
                go_ret
                exact ⟨ret_bool HN'.out.symm, nextB (hb.alloc hle _) (Nat.le_refl _) hb1⟩
          · have HN' : Hid (entsB xs low high = false) := HN.out (by simp [entB, h2])
            clear HN HY
            go_wp2_with fail
            go_ret
            exact ⟨ret_bool HN'.out.symm, hb.alloc hle _⟩
        · have HN' : Hid (entsB xs low high = false) := HN.out (by simp [entB, h1])
          clear HN HY
          go_wp2_with fail
          go_ret
          exact ⟨ret_bool HN'.out.symm, hb.alloc hle _⟩
      · obtain rfl : k = xs.length := by omega
        go_wp2
        go_ret
        exact ⟨ret_bool (ents_end rfl HR.out).symm, hb⟩

end Go.Proofs.YtlojfgdpmaigmadDoor

/- How the arguments of the statements are opened: rollups by value. -/
namespace Go.Proofs.YtlojfgdpmaigmadDoor
open Go.ChangeShapes Go.WideShapes Go.ChangeAt Go.RowKit

theorem own : ownKnob Tryd.prog.godebug = none := by kernel_rfl
theorem laidOut : laidOutB Tryd.prog = true := by kernel_rfl
theorem cellsRu : Tryd.prog.cellsOf 38 = 6 := by kernel_rfl
theorem cellsInt : Tryd.prog.cellsOf 3 = 1 := by kernel_rfl

set_option maxRecDepth 100000 in
theorem open_ru {H : Type} {enc : TypeId × Value → H} {W : World} {base : Nat} {spare : Nat → Bool} {held : Bool} {r : Reach} {b0 : Nat} {v : Value} {d : DataW H} {p : List MemPlace}
    (hv : Value.okWide Tryd.prog W r b0 38 v) (h : DataW.Trod enc Tryd.prog W base spare held 38 v d p) :
    ∃ c s lo hi t l : Int, v = .agg #[.int .i64 c, .int .i64 s, .int .i64 lo, .int .i64 hi, .int .i64 t, .int .i64 l] ∧ (Lit.int .i64 c).wf = true ∧ (Lit.int .i64 s).wf = true ∧ (Lit.int .i64 lo).wf = true ∧ (Lit.int .i64 hi).wf = true ∧ (Lit.int .i64 t).wf = true ∧ (Lit.int .i64 l).wf = true := by
  obtain ⟨⟨cs⟩, rfl, hsz⟩ := okWide_struct Tryd.underlying38 hv
  rw [cellsRu] at hsz
  match cs, hsz with
  | [v0, v1, v2, v3, v4, v5], _ =>
    obtain ⟨fuel, hf⟩ := h
    obtain ⟨xs, n, _, _, _, hlen, hg⟩ := DataW.trod_struct Tryd.underlying38 hf
    match xs, hlen with
    | [y0, y1, y2, y3, y4, y5], _ =>
      have g0 := hg 0 _ rfl
      have g1 := hg 1 _ rfl
      have g2 := hg 2 _ rfl
      have g3 := hg 3 _ rfl
      have g4 := hg 4 _ rfl
      have g5 := hg 5 _ rfl
      obtain ⟨c, e0, _, w0⟩ := DataW.trod_int Tryd.underlying3 g0
      obtain ⟨s, e1, _, w1⟩ := DataW.trod_int Tryd.underlying3 g1
      obtain ⟨lo, e2, _, w2⟩ := DataW.trod_int Tryd.underlying3 g2
      obtain ⟨hi, e3, _, w3⟩ := DataW.trod_int Tryd.underlying3 g3
      obtain ⟨t, e4, _, w4⟩ := DataW.trod_int Tryd.underlying3 g4
      obtain ⟨l, e5, _, w5⟩ := DataW.trod_int Tryd.underlying3 g5
      simp [Value.cells, cellsInt] at e0 e1 e2 e3 e4 e5
      subst e0 e1 e2 e3 e4 e5
      exact ⟨c, s, lo, hi, t, l, rfl, w0, w1, w2, w3, w4, w5⟩

theorem bd {n : Int} (h : (Lit.int .i64 n).wf = true) : -9223372036854775808 ≤ n ∧ n ≤ 9223372036854775807 := by
  have := bounds_i64 h
  omega

end Go.Proofs.YtlojfgdpmaigmadDoor

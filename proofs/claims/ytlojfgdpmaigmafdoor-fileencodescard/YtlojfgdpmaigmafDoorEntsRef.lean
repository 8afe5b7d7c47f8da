/- Entries that may be (P2.1): the document's test. -/
import Derived.Test.YtlojfgdpmaigmafDoorP10
import Derived.BigQuiet
namespace Go.Proofs.YtlojfgdpmaigmafDoor
open Go.RowKit Plain

theorem below_drewN {B : Nat} {w w' : World} (h : Below B w w') (n : Nat) : Below B w (w'.drewN n) := ⟨h.os, h.tape, h.output, h.size, h.block⟩

set_option maxRecDepth 20000 in
set_option maxHeartbeats 1600000 in
theorem entriesMay_any (A : Option Addr) (C : Nat) (xs : List En) (low high : Int) (w : World) (h : RowAt w.heap.size w A (flatE xs)) (hz : xs.length * 56 ≤ 140737488351232) (hl : -9223372036854775807 ≤ high) (hh : high ≤ 9223372036854775807) :
    Calls Tryd.prog 79 #[.slice A xs.length C, .int .i64 low, .int .i64 high] w fun e w' => e = .returned (.bool (entsB xs low high)) ∧ Below w.heap.size w w' := by
  go_enter Tryd.func79, Tryd.ntmps79
  go_wp2_with fail
  go_loopw [7] (fun i wr => ∃ k : Nat, k ≤ xs.length ∧ i = .int .i64 k ∧ low ≤ lowAt xs low k ∧ Hid (entsB xs low high = entsB (xs.drop k) (lowAt xs low k) high) ∧ Below w.heap.size w wr) (fun i _ => xs.length - (intOf i).toNat)
  case atStart => exact ⟨0, Nat.zero_le _, rfl, Int.le_refl _, (show _ = _ from rfl), Below.refl _ _⟩
  case round =>
    obtain ⟨k, hk, rfl, hlo, HR, hb⟩ := hrel
    by_cases hlt : k < xs.length
    · obtain ⟨b, o, rfl, hbl, c0, c1, c2, c3, c4, c5, c6⟩ := (h.below hb (Nat.le_refl _)).en hlt
      have hle : w.heap.size ≤ wr.heap.size := hb.size
      have hbr : b < wr.heap.size := by omega
      have HY : Hid (entB xs[k] (lowAt xs low k) high = true → entsB xs low high = entsB (xs.drop (k + 1)) (lowAt xs low (k + 1)) high) := fun he => ents_yes hlt HR.out he
      have HN : Hid (entB xs[k] (lowAt xs low k) high = false → entsB xs low high = false) := fun he => ents_no hlt HR.out he
      have HS : Hid (lowAt xs low (k + 1) = xs[k].key + 1) := by show _ = _; simp [lowAt, hlt]
      clear HR
      have HP : Hid (k = 0 ∧ lowAt xs low k = low ∨ ∃ m, k = m + 1 ∧ m < xs.length ∧ lowAt xs low k = (xs.getD m default).key + 1 ∧ wr.cell? ⟨b, o + m * 7, none⟩ = some (.int .i64 (xs.getD m default).key)) := by
        cases k with
        | zero => exact .inl ⟨rfl, rfl⟩
        | succ m =>
          have hm : m < xs.length := by omega
          obtain ⟨b', o', hA, _, d0, _⟩ := (h.below hb (Nat.le_refl _)).en hm
          cases hA
          exact .inr ⟨m, rfl, hm, by simp [lowAt], by simpa [hm] using d0⟩
      generalize xs[k] = x at *
      obtain ⟨key, c, s, xlo, xhi, t, l⟩ := x
      simp only at c0 c1 c2 c3 c4 c5 c6
      generalize lowAt xs low k = lo at *
      by_cases h1 : inB key low (high - 1) = true
      · have h1' : low ≤ key ∧ key ≤ high - 1 := by simpa [inB] using h1
        by_cases h3 : c = 0
        · have HN' : Hid (entsB xs low high = false) := HN.out (by simp [entB, h3])
          clear HN HY HP
          subst h3
          go_wp2_with (first | (go_at_call 26; refine (in_any _ _ _ _).mono ?_; rintro e w1 ⟨rfl, rfl⟩) | (go_at_call 78; refine (fault_any _ _ _ _ _ _ _).mono ?_; rintro e w2 ⟨rfl, hb2⟩; have hc2 := (bcells hb2).1))
          go_ret
          exact ⟨ret_bool HN'.out.symm, hb⟩
        · have h3' : (c == 0) = false := by simpa using h3
          by_cases h4 : checkC c s xlo xhi t l = 0
          · have h4' : (checkC c s xlo xhi t l == 0) = true := by simpa using h4
            have E2 : Hid (entB ⟨key, c, s, xlo, xhi, t, l⟩ lo high = decide (lo ≤ key)) := by
              show _ = _
              have h5 : key < high := by omega
              simp [entB, h3', h4, h5]
            clear h3
            rcases HP.out with ⟨hk0, hlo0⟩ | ⟨m, hkm, hm, hlom, cm⟩
            · have HY' : Hid (entsB xs low high = entsB (xs.drop (k + 1)) (lowAt xs low (k + 1)) high) := HY.out (by rw [E2.out]; simp; omega)
              have hk0' : decide (0 < k) = false := by simp; omega
              clear HN HY HP E2
              have hk0'' : Hid (k = 0) := hk0
              have HL : Hid (lo = low) := hlo0
              clear hk0 hlo0
              go_wp2_with (first | (go_at_call 26; refine (in_any _ _ _ _).mono ?_; rintro e w1 ⟨rfl, rfl⟩) | (go_at_call 78; refine (fault_any _ _ _ _ _ _ _).mono ?_; rintro e w2 ⟨rfl, hb2⟩; have hc2 := (bcells hb2).1))
              go_quiet (fail)
              go_wp2
              go_roundw
              case rel =>
                go_light
                have hs := HS.out
                exact ⟨k + 1, by omega, by go_num, by rw [hs]; omega, HY', below_drewN (nextB hb (Nat.le_refl _) hb2) _⟩
              case measure => simp [intOf]; omega
            · subst hkm
              have hk0' : decide (0 < m + 1) = true := by simp
              generalize (xs.getD m default).key = pk at *
              by_cases h5 : key ≤ pk
              · have HN' : Hid (entsB xs low high = false) := HN.out (by rw [E2.out]; simp; omega)
                clear HN HY HP E2
                have HL : Hid (lo = pk + 1) := hlom
                clear hlom
                go_wp2_with (first | (go_at_call 26; refine (in_any _ _ _ _).mono ?_; rintro e w1 ⟨rfl, rfl⟩) | (go_at_call 78; refine (fault_any _ _ _ _ _ _ _).mono ?_; rintro e w2 ⟨rfl, hb2⟩; have hc2 := (bcells hb2).1))
                go_quiet (fail)
                go_wp2
                go_ret
                exact ⟨ret_bool HN'.out.symm, below_drewN (nextB hb (Nat.le_refl _) hb2) _⟩
              · have HY' : Hid (entsB xs low high = entsB (xs.drop (m + 1 + 1)) (lowAt xs low (m + 1 + 1)) high) := HY.out (by rw [E2.out]; simp; omega)
                clear HN HY HP E2
                have HL : Hid (lo = pk + 1) := hlom
                clear hlom
                go_wp2_with (first | (go_at_call 26; refine (in_any _ _ _ _).mono ?_; rintro e w1 ⟨rfl, rfl⟩) | (go_at_call 78; refine (fault_any _ _ _ _ _ _ _).mono ?_; rintro e w2 ⟨rfl, hb2⟩; have hc2 := (bcells hb2).1))
                go_quiet (fail)
                go_wp2
                go_roundw
                case rel =>
                  go_light
                  have hs := HS.out
                  exact ⟨m + 1 + 1, by omega, by go_num, by rw [hs]; omega, HY', below_drewN (nextB hb (Nat.le_refl _) hb2) _⟩
                case measure => simp [intOf]; omega
          · have h4n : (checkC c s xlo xhi t l != 0) = true := by simpa using h4
            have HN' : Hid (entsB xs low high = false) := HN.out (by simp [entB, h4])
            clear h3 HY HN HP
            go_wp2_with (first | (go_at_call 26; refine (in_any _ _ _ _).mono ?_; rintro e w1 ⟨rfl, rfl⟩) | (go_at_call 78; refine (fault_any _ _ _ _ _ _ _).mono ?_; rintro e w2 ⟨rfl, hb2⟩; have hc2 := (bcells hb2).1))
            go_ret
            exact ⟨ret_bool HN'.out.symm, nextB hb (Nat.le_refl _) hb2⟩
      · have h1' : inB key low (high - 1) = false := by simpa using h1
        have HN' : Hid (entsB xs low high = false) := HN.out (by
          simp [inB] at h1
          simp [entB]
          intro a b
          exact absurd b (by omega))
        clear HN HY HP h1
        go_wp2_with (first | (go_at_call 26; refine (in_any _ _ _ _).mono ?_; rintro e w1 ⟨rfl, rfl⟩) | (go_at_call 78; refine (fault_any _ _ _ _ _ _ _).mono ?_; rintro e w2 ⟨rfl, hb2⟩; have hc2 := (bcells hb2).1))
        go_ret
        exact ⟨ret_bool HN'.out.symm, hb⟩
    · obtain rfl : k = xs.length := by omega
      go_wp2
      go_ret
      exact ⟨ret_bool (ents_end rfl HR.out).symm, hb⟩

end Go.Proofs.YtlojfgdpmaigmafDoor

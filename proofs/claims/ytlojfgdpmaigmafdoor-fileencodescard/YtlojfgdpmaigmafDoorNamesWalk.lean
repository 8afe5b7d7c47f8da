/- Lists of names: base.namesMayBe. -/
import Derived.Test.YtlojfgdpmaigmafDoorP40
import Derived.Test.YtlojfgdpmaigmafDoorP14
import Derived.Test.YtlojfgdpmaigmafDoorLays
import Derived.Shelf.Slices.Turned
namespace Go.Proofs.YtlojfgdpmaigmafDoor
open Go.RowKit Plain

theorem names_bad {ss : List ByteArray} {i : Nat} (hi : i < ss.length) (h : okN ss i = false) : namesB ss = false := by
  cases hn : namesB ss with
  | false => rfl
  | true =>
    unfold namesB at hn
    rw [List.all_eq_true] at hn
    have := hn i (by simpa using hi)
    rw [h] at this
    cases this

theorem names_ok {ss : List ByteArray} (h : ∀ j, j < ss.length → okN ss j = true) : namesB ss = true := by
  unfold namesB
  rw [List.all_eq_true]
  exact fun j hj => h j (by simpa using hj)

set_option maxRecDepth 20000 in
set_option maxHeartbeats 1000000 in
theorem namesMayBe_any (A : Option Addr) (C : Nat) (ss : List ByteArray) (w : World) (h : StrsAt w.heap.size w A ss) (hC : ss.length ≤ C) :
    Calls Tryd.prog 17 #[.slice A ss.length C] w fun e w' => e = .returned (.bool (decide (ss.length ≤ 16) && namesB ss)) ∧ w' = w := by
  obtain ⟨nb, hnb⟩ : ∃ nb, nb = (decide (ss.length ≤ 16) && namesB ss) := ⟨_, rfl⟩
  have HN : Hid (nb = (decide (ss.length ≤ 16) && namesB ss)) := hnb
  rw [← hnb]
  clear hnb
  have hz := h.z
  have con : ∀ (b o i : Nat) (x : ByteArray) (W : World), i ≤ ss.length → (∀ j, j < ss.length → W.cell? ⟨b, o + j, none⟩ = some (.string (ss.getD j ByteArray.empty))) → Calls Tryd.prog 33 #[.slice (some ⟨b, o, none⟩) i C, .string x] W fun e w' => e = .returned (.bool (Lib.containsS (ss.take i) x)) ∧ w' = W := fun b o i x W hi hc => Any.slices_Contains_string Tryd.containsS b o i C ss x W hi (by omega) hc
  by_cases h16 : ss.length ≤ 16
  · have h16' : ¬ (16 < (ss.length : Int)) := by omega
    go_enter Tryd.func17, Tryd.ntmps17
    go_wp2_with fail
    go_loopw [10] (fun vi wr => ∃ k : Nat, k ≤ ss.length ∧ vi = .int .i64 k ∧ Hid (∀ j, j < k → okN ss j = true) ∧ wr = w) (fun vi _ => ss.length - (intOf vi).toNat)
    case atStart => exact ⟨0, Nat.zero_le _, rfl, (fun j hj => by omega), rfl⟩
    case round =>
      obtain ⟨k, hk, rfl, HA, hw⟩ := hrel
      subst hw
      by_cases hlt : k < ss.length
      · obtain ⟨b, o, rfl, hbl, hc, hcs⟩ := h.row.str hlt
        have HE : Hid (okN ss k = (nameB ss[k] && !Lib.containsS (ss.take k) ss[k])) := by
          show _ = _
          unfold okN
          rw [show ss.getD k ByteArray.empty = ss[k] by rw [List.getD_eq_getElem?_getD, List.getElem?_eq_getElem hlt]; rfl]
        have HB : Hid (okN ss k = true → ∀ j, j < k + 1 → okN ss j = true) := fun q j hj => by
          by_cases e : j = k
          · subst e
            exact q
          · exact HA.out j (by omega)
        have HF : Hid (okN ss k = false → nb = false) := fun q => by
          rw [HN.out, names_bad hlt q]
          simp
        have cc := con b o k ss[k] wr (by omega) hcs
        have nm := name_any ss[k] wr
        generalize ss[k] = s at *
        have h0k : (0 : Int) ≤ (k : Int) := by omega
        have hkC : (k : Int) ≤ (C : Int) := by omega
        cases hn : nameB s with
        | false =>
          have H1 : Hid (nb = false) := HF.out (by rw [HE.out, hn]; rfl)
          simp only [hn] at nm
          clear HE HB HF cc con hcs
          go_wp2_with (first | (go_at_call 32; refine nm.mono ?_; rintro e w1 ⟨rfl, hw1⟩; subst w1))
          go_ret
          exact ⟨by rw [H1.out]; rfl, rfl⟩
        | true =>
          simp only [hn] at nm
          cases hcn : Lib.containsS (ss.take k) s with
          | true =>
            have H1 : Hid (nb = false) := HF.out (by rw [HE.out, hn, hcn]; rfl)
            simp only [hcn] at cc
            clear HE HB HF con hcs
            go_wp2_with (first | (go_at_call 32; refine nm.mono ?_; rintro e w1 ⟨rfl, hw1⟩; subst w1) | (go_at_call 33; refine cc.mono ?_; rintro e w1 ⟨rfl, hw1⟩; subst w1))
            go_ret
            exact ⟨by rw [H1.out]; rfl, rfl⟩
          | false =>
            have H1 : Hid (∀ j, j < k + 1 → okN ss j = true) := HB.out (by rw [HE.out, hn, hcn]; rfl)
            simp only [hcn] at cc
            clear HE HB HF con hcs
            go_wp2_with (first | (go_at_call 32; refine nm.mono ?_; rintro e w1 ⟨rfl, hw1⟩; subst w1) | (go_at_call 33; refine cc.mono ?_; rintro e w1 ⟨rfl, hw1⟩; subst w1))
            exact ⟨⟨k + 1, hlt, by go_num, H1, by trivial⟩, by simp only [intOf]; omega⟩
      · have HT : Hid (nb = true) := by
          show nb = true
          rw [HN.out, names_ok (fun j hj => HA.out j (by omega)), show decide (ss.length ≤ 16) = true by simpa using h16]
          rfl
        go_wp2_with fail
        go_ret
        exact ⟨by rw [HT.out]; rfl, rfl⟩
  · have HF : Hid (nb = false) := by
      show nb = false
      rw [HN.out, show decide (ss.length ≤ 16) = false by simpa using h16]
      rfl
    have h16' : 16 < (ss.length : Int) := by omega
    go_enter Tryd.func17, Tryd.ntmps17
    go_wp2_with fail
    go_ret
    exact ⟨by rw [HF.out]; rfl, rfl⟩

end Go.Proofs.YtlojfgdpmaigmafDoor

/- Names of series: base.Name, and the document's NameMay. -/
import Derived.Test.YtndojgeodmddoacWalks
namespace Go.Proofs.Ytndojgeodmddoac
open Go.RowKit Plain

/-- May a byte be in a name? -/
def chB (c : Int) : Bool := inB c 97 122 || inB c 48 57 || decide (c = 46)
/-- May a text be a name? -/
def nameB (s : ByteArray) : Bool := inB s.size 1 10 && s.data.toList.all fun c => chB c.toNat

theorem bytes_all (s : ByteArray) (f : UInt8 → Bool) : s.data.toList.all f = true ↔ ∀ j (hj : j < s.size), f s[j] = true := by
  rw [List.all_eq_true]
  constructor
  · intro h j hj
    exact h _ (by rw [ByteArray.getElem_eq_getElem_data]; simp)
  · intro h x hx
    obtain ⟨j, hj, rfl⟩ := List.getElem_of_mem hx
    have := h j (by simpa using hj)
    rw [ByteArray.getElem_eq_getElem_data] at this
    simpa using this

theorem name_yes {s : ByteArray} (h : inB s.size 1 10 = true) (ha : ∀ j (hj : j < s.size), j < s.size → chB s[j].toNat = true) : nameB s = true := by
  unfold nameB
  rw [h, Bool.true_and, bytes_all]
  exact fun j hj => ha j hj hj

theorem name_no {s : ByteArray} {k : Nat} (hk : k < s.size) (hc : chB s[k].toNat = false) : nameB s = false := by
  cases hn : nameB s with
  | false => rfl
  | true =>
    unfold nameB at hn
    rw [Bool.and_eq_true, bytes_all] at hn
    have := hn.2 k hk
    rw [hc] at this
    cases this

theorem name_size {s : ByteArray} (h : inB s.size 1 10 = false) : nameB s = false := by
  unfold nameB
  rw [h, Bool.false_and]

theorem inName_any (c : Int) (w : World) : Calls Try.prog 25 #[.int .u8 c] w fun e w' => e = .returned (.bool (chB c)) ∧ w' = w := by
  unfold chB inB
  by_cases h1 : 97 ≤ c <;> by_cases h2 : c ≤ 122 <;> by_cases h3 : 48 ≤ c <;> by_cases h4 : c ≤ 57 <;> by_cases h5 : c = 46 <;>
  · have h5' : (c == 46) = decide (c = 46) := rfl
    go_enter Try.func25, Try.ntmps25
    go_wp2
    go_ret
    exact ⟨by simp [*], rfl⟩

/-- The first k bytes may be in a name. -/
def Upto (s : ByteArray) (k : Nat) : Prop := ∀ j (hj : j < s.size), j < k → chB s[j].toNat = true

theorem Upto.next {s : ByteArray} {k : Nat} (h : Upto s k) (hk : k < s.size) (hc : chB s[k].toNat = true) : Upto s (k + 1) := fun j hj hjk => by
  by_cases e : j = k
  · subst e
    exact hc
  · exact h j hj (by omega)

set_option maxRecDepth 20000 in
set_option maxHeartbeats 4000000 in
theorem name_any (s : ByteArray) (w : World) : Calls Try.prog 11 #[.string s] w fun e w' => e = .returned (.bool (nameB s)) ∧ w' = w := by
  obtain ⟨nb, hnb⟩ : ∃ nb, nb = nameB s := ⟨_, rfl⟩
  have HN : Hid (nb = nameB s) := hnb
  rw [← hnb]
  clear hnb
  by_cases h : inB s.size 1 10 = true
  · have h' := (inB_iff _ _ _).1 h
    have hd1 : decide ((s.size : Int) < 1) = false := by simp; omega
    have hd2 : decide (10 < (s.size : Int)) = false := by simp; omega
    go_enter Try.func11, Try.ntmps11
    go_wp2_with fail
    go_loopw [14] (fun vi wr => ∃ k : Nat, k ≤ s.size ∧ vi = .int .i64 k ∧ Hid (Upto s k) ∧ wr = w) (fun vi _ => s.size - (intOf vi).toNat)
    case atStart => exact ⟨0, Nat.zero_le _, rfl, (fun j _ hj => by omega), rfl⟩
    case round =>
      obtain ⟨k, hk, rfl, HA, hw⟩ := hrel
      subst hw
      by_cases hlt : k < s.size
      · by_cases hc : chB s[k].toNat = true
        · have HB : Hid (Upto s (k + 1)) := HA.out.next hlt hc
          go_wp2_with (go_at_call 25; refine (inName_any _ _).mono ?_; rintro e w1 ⟨rfl, hw1⟩; subst w1)
          exact ⟨⟨k + 1, hlt, by go_num, HB, by trivial⟩, by simp only [intOf]; omega⟩
        · have hc' : chB s[k].toNat = false := by simpa using hc
          have HF : Hid (nb = false) := HN.out.trans (name_no hlt hc')
          clear hc
          go_wp2_with (go_at_call 25; refine (inName_any _ _).mono ?_; rintro e w1 ⟨rfl, hw1⟩; subst w1)
          go_ret
          exact ⟨by rw [HF.out]; rfl, rfl⟩
      · have HT : Hid (nb = true) := HN.out.trans (name_yes h (fun j hj _ => HA.out j hj (by omega)))
        go_wp2_with fail
        go_ret
        exact ⟨by rw [HT.out]; rfl, rfl⟩
  · have h0 : inB s.size 1 10 = false := by simpa using h
    have HF : Hid (nb = false) := HN.out.trans (name_size h0)
    have h' := (inB_not _ _ _).1 h0
    clear h h0
    rcases h' with h' | h'
    · have h2 : ¬ (10 < (s.size : Int)) := by omega
      go_enter Try.func11, Try.ntmps11
      go_wp2_with fail
      go_ret
      exact ⟨by rw [HF.out]; rfl, rfl⟩
    · have h2 : ¬ ((s.size : Int) < 1) := by omega
      go_enter Try.func11, Try.ntmps11
      go_wp2_with fail
      go_ret
      exact ⟨by rw [HF.out]; rfl, rfl⟩

set_option maxRecDepth 20000 in
set_option maxHeartbeats 4000000 in
theorem nameMay_any (s : ByteArray) (w : World) (hs : s.size ≤ maxLen) : Calls Try.prog 12 #[.string s] w fun e w' => e = .returned (.bool (nameB s)) ∧ w' = w := by
  obtain ⟨nb, hnb⟩ : ∃ nb, nb = nameB s := ⟨_, rfl⟩
  have HN : Hid (nb = nameB s) := hnb
  rw [← hnb]
  clear hnb
  have hs' : s.size ≤ 9223372036854775807 := hs
  go_enter Try.func12, Try.ntmps12
  go_wp2_with fail
  go_loopw [3] (fun vi wr => ∃ k : Nat, k ≤ s.size ∧ vi = .int .i64 k ∧ Hid (Upto s k) ∧ wr = w) (fun vi _ => s.size - (intOf vi).toNat)
  case atStart => exact ⟨0, Nat.zero_le _, rfl, (fun j _ hj => by omega), rfl⟩
  case round =>
    obtain ⟨k, hk, rfl, HA, hw⟩ := hrel
    subst hw
    by_cases hlt : k < s.size
    · obtain ⟨c, hc⟩ : ∃ c : Int, c = s[k].toNat := ⟨_, rfl⟩
      have hb : 0 ≤ c ∧ c ≤ 255 := by
        have := s[k].toNat_lt
        omega
      have HB : Hid (chB c = true → Upto s (k + 1)) := fun q => HA.out.next hlt (by rw [← hc]; exact q)
      have HF : Hid (chB c = false → nb = false) := fun q => HN.out.trans (name_no hlt (by rw [← hc]; exact q))
      by_cases h1 : inB c 97 122 = true
      · have H1 : Hid (Upto s (k + 1)) := HB.out (by unfold chB; rw [h1]; rfl)
        rw [hc] at h1
        go_wp2_with (go_at_call 26; refine (in_any _ _ _ _).mono ?_; rintro e w1 ⟨rfl, hw1⟩; subst w1)
        exact ⟨⟨k + 1, hlt, by go_num, H1, by trivial⟩, by simp only [intOf]; omega⟩
      · have h1 : inB c 97 122 = false := by simpa using h1
        by_cases h2 : inB c 48 57 = true
        · have H1 : Hid (Upto s (k + 1)) := HB.out (by unfold chB; rw [h1, h2]; rfl)
          rw [hc] at h1 h2
          go_wp2_with (go_at_call 26; refine (in_any _ _ _ _).mono ?_; rintro e w1 ⟨rfl, hw1⟩; subst w1)
          exact ⟨⟨k + 1, hlt, by go_num, H1, by trivial⟩, by simp only [intOf]; omega⟩
        · have h2 : inB c 48 57 = false := by simpa using h2
          by_cases h3 : c = 46
          · have H1 : Hid (Upto s (k + 1)) := HB.out (by unfold chB; rw [h1, h2, h3]; rfl)
            rw [hc] at h1 h2 h3
            have h3' : ((s[k].toNat : Int) != 46) = false := by simpa using h3
            go_wp2_with (go_at_call 26; refine (in_any _ _ _ _).mono ?_; rintro e w1 ⟨rfl, hw1⟩; subst w1)
            exact ⟨⟨k + 1, hlt, by go_num, H1, by trivial⟩, by simp only [intOf]; omega⟩
          · have H1 : Hid (nb = false) := HF.out (by unfold chB; rw [h1, h2]; simp [h3])
            rw [hc] at h1 h2 h3
            have h3' : ((s[k].toNat : Int) != 46) = true := by simpa using h3
            go_wp2_with (go_at_call 26; refine (in_any _ _ _ _).mono ?_; rintro e w1 ⟨rfl, hw1⟩; subst w1)
            go_ret
            exact ⟨by rw [H1.out]; rfl, rfl⟩
    · have H1 : Hid (nb = inB s.size 1 10) := by
        show _ = _
        rw [HN.out]
        cases h : inB s.size 1 10 with
        | true => exact name_yes h (fun j hj _ => HA.out j hj (by omega))
        | false => exact name_size h
      go_wp2_with (go_at_call 26; refine (in_any _ _ _ _).mono ?_; rintro e w1 ⟨rfl, hw1⟩; subst w1)
      go_ret
      exact ⟨by rw [H1.out]; rfl, rfl⟩

end Go.Proofs.Ytndojgeodmddoac

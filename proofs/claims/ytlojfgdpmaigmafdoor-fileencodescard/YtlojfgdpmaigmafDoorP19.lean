/- What later and together of package roll do. -/
import Derived.Test.YtlojfgdpmaigmafDoorP04
import Derived.Test.YtlojfgdpmaigmafDoorP01
namespace Go.Proofs.YtlojfgdpmaigmafDoor
open Go.RowKit Plain

set_option maxHeartbeats 400000 in
theorem later_a (c s lo hi t l c' s' lo' hi' t' l' : Int) (w : World) (h : ltr t l t' l' = true) :
    Calls Tryd.prog 76 #[.agg #[.int .i64 c, .int .i64 s, .int .i64 lo, .int .i64 hi, .int .i64 t, .int .i64 l], .agg #[.int .i64 c', .int .i64 s', .int .i64 lo', .int .i64 hi', .int .i64 t', .int .i64 l']] w fun e w' => e = .returned (.agg #[.int .i64 c, .int .i64 s, .int .i64 lo, .int .i64 hi, .int .i64 t, .int .i64 l]) ∧ Below w.heap.size w w' := by
  by_cases h1 : t' < t
  · clear h
    go_enter Tryd.func76, Tryd.ntmps76
    go_wp2
    exact bodyPost_ret (v := .agg #[.int .i64 c, .int .i64 s, .int .i64 lo, .int .i64 hi, .int .i64 t, .int .i64 l]) (by simp [results, Tryd.results76, go_sem]) rfl ⟨rfl, (((Below.refl _ _).alloc (Nat.le_refl _) _).alloc (by simp) _).alloc (by simp; omega) _⟩
  · have h2 : t = t' ∧ l' < l := by simpa [ltr, h1] using h
    obtain ⟨rfl, h3⟩ := h2
    clear h
    go_enter Tryd.func76, Tryd.ntmps76
    go_wp2
    exact bodyPost_ret (v := .agg #[.int .i64 c, .int .i64 s, .int .i64 lo, .int .i64 hi, .int .i64 t, .int .i64 l]) (by simp [results, Tryd.results76, go_sem]) rfl ⟨rfl, (((Below.refl _ _).alloc (Nat.le_refl _) _).alloc (by simp) _).alloc (by simp; omega) _⟩

set_option maxHeartbeats 400000 in
theorem later_b (c s lo hi t l c' s' lo' hi' t' l' : Int) (w : World) (h : ltr t l t' l' = false) :
    Calls Tryd.prog 76 #[.agg #[.int .i64 c, .int .i64 s, .int .i64 lo, .int .i64 hi, .int .i64 t, .int .i64 l], .agg #[.int .i64 c', .int .i64 s', .int .i64 lo', .int .i64 hi', .int .i64 t', .int .i64 l']] w fun e w' => e = .returned (.agg #[.int .i64 c', .int .i64 s', .int .i64 lo', .int .i64 hi', .int .i64 t', .int .i64 l']) ∧ Below w.heap.size w w' := by
  have h' : ¬ t' < t ∧ (t = t' → l ≤ l') := by simpa [ltr] using h
  obtain ⟨h1, h2⟩ := h'
  clear h
  by_cases h3 : t = t'
  · obtain rfl := h3
    have h4 : ¬ l' < l := by have := h2 rfl; omega
    clear h2
    go_enter Tryd.func76, Tryd.ntmps76
    go_wp2
    exact bodyPost_ret (v := .agg #[.int .i64 c', .int .i64 s', .int .i64 lo', .int .i64 hi', .int .i64 t, .int .i64 l']) (by simp [results, Tryd.results76, go_sem]) rfl ⟨rfl, (((Below.refl _ _).alloc (Nat.le_refl _) _).alloc (by simp) _).alloc (by simp; omega) _⟩
  · have h4 : (t == t') = false := by simpa using h3
    clear h2 h3
    go_enter Tryd.func76, Tryd.ntmps76
    go_wp2
    exact bodyPost_ret (v := .agg #[.int .i64 c', .int .i64 s', .int .i64 lo', .int .i64 hi', .int .i64 t', .int .i64 l']) (by simp [results, Tryd.results76, go_sem]) rfl ⟨rfl, (((Below.refl _ _).alloc (Nat.le_refl _) _).alloc (by simp) _).alloc (by simp; omega) _⟩

end Go.Proofs.YtlojfgdpmaigmafDoor

/- Names of series: base.Name, and the document's NameMay. -/
namespace Go.Proofs.YtlojfgdpmaigmafDoor
open Go.RowKit Plain

/-- May a byte be in a name? -/
def chB (c : Int) : Bool := inB c 97 122 || inB c 48 57 || decide (c = 46)
/-- May a text be a name? -/
def nameB (s : ByteArray) : Bool := inB s.size 1 10 && s.data.toList.all fun c => chB c.toNat

theorem bytes_all (s : ByteArray) (f : UInt8 → Bool) : s.data.toList.all f = true ↔ ∀ j (hj : j < s.size), f s[j] = true := by
  rw [List.all_eq_true]
  constructor
  · intro h j hj
    exact h _ (by rw [ByteArray.getElem_eq_getElem_data]; simp)
  · intro h x hx
    obtain ⟨j, hj, rfl⟩ := List.getElem_of_mem hx
    have := h j (by simpa using hj)
    rw [ByteArray.getElem_eq_getElem_data] at this
    simpa using this

theorem name_yes {s : ByteArray} (h : inB s.size 1 10 = true) (ha : ∀ j (hj : j < s.size), j < s.size → chB s[j].toNat = true) : nameB s = true := by
  unfold nameB
  rw [h, Bool.true_and, bytes_all]
  exact fun j hj => ha j hj hj

theorem name_no {s : ByteArray} {k : Nat} (hk : k < s.size) (hc : chB s[k].toNat = false) : nameB s = false := by
  cases hn : nameB s with
  | false => rfl
  | true =>
    unfold nameB at hn
    rw [Bool.and_eq_true, bytes_all] at hn
    have := hn.2 k hk
    rw [hc] at this
    cases this

theorem name_size {s : ByteArray} (h : inB s.size 1 10 = false) : nameB s = false := by
  unfold nameB
  rw [h, Bool.false_and]

theorem inName_any (c : Int) (w : World) : Calls Tryd.prog 46 #[.int .u8 c] w fun e w' => e = .returned (.bool (chB c)) ∧ w' = w := by
  unfold chB inB
  by_cases h1 : 97 ≤ c <;> by_cases h2 : c ≤ 122 <;> by_cases h3 : 48 ≤ c <;> by_cases h4 : c ≤ 57 <;> by_cases h5 : c = 46 <;>
  · have h5' : (c == 46) = decide (c = 46) := rfl
    go_enter Tryd.func46, Tryd.ntmps46
    go_wp2
    go_ret
    exact ⟨by simp [*], rfl⟩

/-- The first k bytes may be in a name. -/
def Upto (s : ByteArray) (k : Nat) : Prop := ∀ j (hj : j < s.size), j < k → chB s[j].toNat = true

theorem Upto.next {s : ByteArray} {k : Nat} (h : Upto s k) (hk : k < s.size) (hc : chB s[k].toNat = true) : Upto s (k + 1) := fun j hj hjk => by
  by_cases e : j = k
  · subst e
    exact hc
  · exact h j hj (by omega)

set_option maxRecDepth 20000 in
set_option maxHeartbeats 4000000 in
theorem name_any (s : ByteArray) (w : World) : Calls Tryd.prog 32 #[.string s] w fun e w' => e = .returned (.bool (nameB s)) ∧ w' = w := by
  obtain ⟨nb, hnb⟩ : ∃ nb, nb = nameB s := ⟨_, rfl⟩
  have HN : Hid (nb = nameB s) := hnb
  rw [← hnb]
  clear hnb
  by_cases h : inB s.size 1 10 = true
  · have h' := (inB_iff _ _ _).1 h
    have hd1 : decide ((s.size : Int) < 1) = false := by simp; omega
    have hd2 : decide (10 < (s.size : Int)) = false := by simp; omega
    go_enter Tryd.func32, Tryd.ntmps32
    go_wp2_with fail
    go_loopw [14] (fun vi wr => ∃ k : Nat, k ≤ s.size ∧ vi = .int .i64 k ∧ Hid (Upto s k) ∧ wr = w) (fun vi _ => s.size - (intOf vi).toNat)
    case atStart => exact ⟨0, Nat.zero_le _, rfl, (fun j _ hj => by omega), rfl⟩
    case round =>
      obtain ⟨k, hk, rfl, HA, hw⟩ := hrel
      subst hw
      by_cases hlt : k < s.size
      · by_cases hc : chB s[k].toNat = true
        · have HB : Hid (Upto s (k + 1)) := HA.out.next hlt hc
          go_wp2_with (go_at_call 46; refine (inName_any _ _).mono ?_; rintro e w1 ⟨rfl, hw1⟩; subst w1)
          exact ⟨⟨k + 1, hlt, by go_num, HB, by trivial⟩, by simp only [intOf]; omega⟩
        · have hc' : chB s[k].toNat = false := by simpa using hc
          have HF : Hid (nb = false) := HN.out.trans (name_no hlt hc')
          clear hc
          go_wp2_with (go_at_call 46; refine (inName_any _ _).mono ?_; rintro e w1 ⟨rfl, hw1⟩; subst w1)
          go_ret
          exact ⟨by rw [HF.out]; rfl, rfl⟩
      · have HT : Hid (nb = true) := HN.out.trans (name_yes h (fun j hj _ => HA.out j hj (by omega)))
        go_wp2_with fail
        go_ret
        exact ⟨by rw [HT.out]; rfl, rfl⟩
  · have h0 : inB s.size 1 10 = false := by simpa using h
    have HF : Hid (nb = false) := HN.out.trans (name_size h0)
    have h' := (inB_not _ _ _).1 h0
    clear h h0
    rcases h' with h' | h'
    · have h2 : ¬ (10 < (s.size : Int)) := by omega
      go_enter Tryd.func32, Tryd.ntmps32
      go_wp2_with fail
      go_ret
      exact ⟨by rw [HF.out]; rfl, rfl⟩
    · have h2 : ¬ ((s.size : Int) < 1) := by omega
      go_enter Tryd.func32, Tryd.ntmps32
      go_wp2_with fail
      go_ret
      exact ⟨by rw [HF.out]; rfl, rfl⟩

set_option maxRecDepth 20000 in
set_option maxHeartbeats 4000000 in
theorem nameMay_any (s : ByteArray) (w : World) (hs : s.size ≤ maxLen) : Calls Tryd.prog 27 #[.string s] w fun e w' => e = .returned (.bool (nameB s)) ∧ w' = w := by
  obtain ⟨nb, hnb⟩ : ∃ nb, nb = nameB s := ⟨_, rfl⟩
  have HN : Hid (nb = nameB s) := hnb
  rw [← hnb]
  clear hnb
  have hs' : s.size ≤ 9223372036854775807 := hs
  go_enter Tryd.func27, Tryd.ntmps27
  go_wp2_with fail
  go_loopw [3] (fun vi wr => ∃ k : Nat, k ≤ s.size ∧ vi = .int .i64 k ∧ Hid (Upto s k) ∧ wr = w) (fun vi _ => s.size - (intOf vi).toNat)
  case atStart => exact ⟨0, Nat.zero_le _, rfl, (fun j _ hj => by omega), rfl⟩
  case round =>
    obtain ⟨k, hk, rfl, HA, hw⟩ := hrel
    subst hw
    by_cases hlt : k < s.size
    · obtain ⟨c, hc⟩ : ∃ c : Int, c = s[k].toNat := ⟨_, rfl⟩
      have hb : 0 ≤ c ∧ c ≤ 255 := by
        have := s[k].toNat_lt
        omega
      have HB : Hid (chB c = true → Upto s (k + 1)) := fun q => HA.out.next hlt (by rw [← hc]; exact q)
      have HF : Hid (chB c = false → nb = false) := fun q => HN.out.trans (name_no hlt (by rw [← hc]; exact q))
      by_cases h1 : inB c 97 122 = true
      · have H1 : Hid (Upto s (k + 1)) := HB.out (by unfold chB; rw [h1]; rfl)
        rw [hc] at h1
        go_wp2_with (go_at_call 26; refine (in_any _ _ _ _).mono ?_; rintro e w1 ⟨rfl, hw1⟩; subst w1)
        exact ⟨⟨k + 1, hlt, by go_num, H1, by trivial⟩, by simp only [intOf]; omega⟩
      · have h1 : inB c 97 122 = false := by simpa using h1
        by_cases h2 : inB c 48 57 = true
        · have H1 : Hid (Upto s (k + 1)) := HB.out (by unfold chB; rw [h1, h2]; rfl)
          rw [hc] at h1 h2
          go_wp2_with (go_at_call 26; refine (in_any _ _ _ _).mono ?_; rintro e w1 ⟨rfl, hw1⟩; subst w1)
          exact ⟨⟨k + 1, hlt, by go_num, H1, by trivial⟩, by simp only [intOf]; omega⟩
        · have h2 : inB c 48 57 = false := by simpa using h2
          by_cases h3 : c = 46
          · have H1 : Hid (Upto s (k + 1)) := HB.out (by unfold chB; rw [h1, h2, h3]; rfl)
            rw [hc] at h1 h2 h3
            have h3' : ((s[k].toNat : Int) != 46) = false := by simpa using h3
            go_wp2_with (go_at_call 26; refine (in_any _ _ _ _).mono ?_; rintro e w1 ⟨rfl, hw1⟩; subst w1)
            exact ⟨⟨k + 1, hlt, by go_num, H1, by trivial⟩, by simp only [intOf]; omega⟩
          · have H1 : Hid (nb = false) := HF.out (by unfold chB; rw [h1, h2]; simp [h3])
            rw [hc] at h1 h2 h3
            have h3' : ((s[k].toNat : Int) != 46) = true := by simpa using h3
            go_wp2_with (go_at_call 26; refine (in_any _ _ _ _).mono ?_; rintro e w1 ⟨rfl, hw1⟩; subst w1)
            go_ret
            exact ⟨by rw [H1.out]; rfl, rfl⟩
    · have H1 : Hid (nb = inB s.size 1 10) := by
        show _ = _
        rw [HN.out]
        cases h : inB s.size 1 10 with
        | true => exact name_yes h (fun j hj _ => HA.out j hj (by omega))
        | false => exact name_size h
      go_wp2_with (go_at_call 26; refine (in_any _ _ _ _).mono ?_; rintro e w1 ⟨rfl, hw1⟩; subst w1)
      go_ret
      exact ⟨by rw [H1.out]; rfl, rfl⟩

end Go.Proofs.YtlojfgdpmaigmafDoor

/- The small functions of package base. -/
namespace Go.Proofs.YtlojfgdpmaigmafDoor
open Go.RowKit Plain

theorem hideB {p : Prop} (h : p) : Hid p := h

theorem btime_any (t : Int) (w : World) : Calls Tryd.prog 18 #[.int .i64 t] w fun e w' => e = .returned (.bool (inB t 0 1048575)) ∧ w' = w := by
  by_cases h1 : 0 ≤ t <;> by_cases h2 : t ≤ 1048575 <;>
  · go_enter Tryd.func18, Tryd.ntmps18
    go_wp2
    go_ret
    exact ⟨by simp [inB, h1, h2], rfl⟩

theorem place_any (k : Int) (w : World) (h : 0 ≤ k ∧ k < 1099511627776) : Calls Tryd.prog 49 #[.int .i64 k] w fun e w' => e = .returned (.int .i64 (k / 1048576)) ∧ w' = w := by
  go_enter Tryd.func49, Tryd.ntmps49
  go_wp2
  go_ret
  exact ⟨rfl, rfl⟩

theorem timeOf_any (k : Int) (w : World) (h : 0 ≤ k ∧ k < 1099511627776) : Calls Tryd.prog 48 #[.int .i64 k] w fun e w' => e = .returned (.int .i64 (k % 1048576)) ∧ w' = w := by
  go_enter Tryd.func48, Tryd.ntmps48
  go_wp2
  go_ret
  exact ⟨rfl, rfl⟩

theorem bbegin_any (t s : Int) (w : World) (h : 0 ≤ t ∧ t < 1099511627776) (hs : s = 1 ∨ s = 60 ∨ s = 3600) : Calls Tryd.prog 52 #[.int .i64 t, .int .i64 s] w fun e w' => e = .returned (.int .i64 (t - t % s)) ∧ w' = w := by
  have hm : ∀ q : Int, q = 1 ∨ q = 60 ∨ q = 3600 → 0 ≤ t % q ∧ t % q ≤ t := by
    rintro q (rfl | rfl | rfl) <;> omega
  have hq := hm s hs
  rcases hs with rfl | rfl | rfl <;>
  · go_enter Tryd.func52, Tryd.ntmps52
    go_wp2
    go_ret
    first | exact ⟨rfl, rfl⟩ | exact ⟨by simp, rfl⟩

theorem keyOf_any (p t : Int) (w : World) (hp : 0 ≤ p ∧ p < 1048576) (ht : 0 ≤ t ∧ t < 1048576) : Calls Tryd.prog 51 #[.int .i64 p, .int .i64 t] w fun e w' => e = .returned (.int .i64 (p * 1048576 + t)) ∧ w' = w := by
  go_enter Tryd.func51, Tryd.ntmps51
  go_wp2
  go_ret
  exact ⟨rfl, rfl⟩

/-- The table of sizes, as it is laid. -/
structure SzAt (w : World) : Prop where
  c0 : w.cell? ⟨0, 0, none⟩ = some (.int .i64 1)
  c1 : w.cell? ⟨0, 1, none⟩ = some (.int .i64 60)
  c2 : w.cell? ⟨0, 2, none⟩ = some (.int .i64 3600)
  lt : 0 < w.heap.size

theorem SzAt.below {w w' : World} (h : SzAt w) (hb : Below w.heap.size w w') : SzAt w' :=
  ⟨(hb.cell (p := ⟨0, 0, none⟩) h.lt).trans h.c0, (hb.cell (p := ⟨0, 1, none⟩) h.lt).trans h.c1, (hb.cell (p := ⟨0, 2, none⟩) h.lt).trans h.c2, Nat.lt_of_lt_of_le h.lt hb.size⟩

theorem sizes_any (w : World) (hs : SzAt w) : Calls Tryd.prog 34 #[] w fun e w' => e = .returned (.agg #[.int .i64 1, .int .i64 60, .int .i64 3600]) ∧ Below w.heap.size w w' := by
  obtain ⟨c0, c1, c2, hl⟩ := hs
  go_enter Tryd.func34, Tryd.ntmps34
  go_wp2
  exact bodyPost_ret (v := .agg #[.int .i64 1, .int .i64 60, .int .i64 3600]) (by simp [results, Tryd.results34, go_sem]) rfl ⟨rfl, (Below.refl _ _).alloc (Nat.le_refl _) _⟩

theorem sz_i0 (w : World) : (Instr.index 63 (.agg #[.int .i64 1, .int .i64 60, .int .i64 3600]) (.int .i64 0)).run Tryd.prog w = .ok (.int .i64 1) w := by kernel_rfl
theorem sz_i1 (w : World) : (Instr.index 63 (.agg #[.int .i64 1, .int .i64 60, .int .i64 3600]) (.int .i64 1)).run Tryd.prog w = .ok (.int .i64 60) w := by kernel_rfl
theorem sz_i2 (w : World) : (Instr.index 63 (.agg #[.int .i64 1, .int .i64 60, .int .i64 3600]) (.int .i64 2)).run Tryd.prog w = .ok (.int .i64 3600) w := by kernel_rfl

theorem isFloor_any (t : Int) (w : World) (hs : SzAt w) (ht : 0 ≤ t ∧ t < 1099511627776) : Calls Tryd.prog 19 #[.int .i64 t] w fun e w' => e = .returned (.bool (decide (t % 3600 = 0))) ∧ Below w.heap.size w w' := by
  have e2 := sz_i2
  by_cases h : t % 3600 = 0
  · have h' : (t % 3600 == 0) = true := by simpa using h
    go_enter Tryd.func19, Tryd.ntmps19
    go_wp2_with (go_at_call 34; refine (sizes_any _ hs).mono ?_; rintro e w1 ⟨rfl, hb1⟩)
    go_ret
    exact ⟨by simp [h], hb1⟩
  · have h' : (t % 3600 == 0) = false := by simpa using h
    go_enter Tryd.func19, Tryd.ntmps19
    go_wp2_with (go_at_call 34; refine (sizes_any _ hs).mono ?_; rintro e w1 ⟨rfl, hb1⟩)
    go_ret
    exact ⟨by simp [h], hb1⟩

end Go.Proofs.YtlojfgdpmaigmafDoor

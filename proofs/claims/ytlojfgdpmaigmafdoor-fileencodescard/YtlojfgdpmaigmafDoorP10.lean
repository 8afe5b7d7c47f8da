/- Entries that may be (P2.1): the code's test and the document's. -/
import Derived.Test.YtlojfgdpmaigmafDoorP09
import Derived.Test.YtlojfgdpmaigmafDoorP06
import Derived.Test.YtlojfgdpmaigmafDoorP07
namespace Go.Proofs.YtlojfgdpmaigmafDoor
open Go.RowKit Plain

theorem ents_no {xs : List En} {low high : Int} {k : Nat} (hk : k < xs.length) (h : entsB xs low high = entsB (xs.drop k) (lowAt xs low k) high) (he : entB xs[k] (lowAt xs low k) high = false) : entsB xs low high = false := by
  rw [h, entsB_drop hk, he, Bool.false_and]

theorem ents_yes {xs : List En} {low high : Int} {k : Nat} (hk : k < xs.length) (h : entsB xs low high = entsB (xs.drop k) (lowAt xs low k) high) (he : entB xs[k] (lowAt xs low k) high = true) :
    entsB xs low high = entsB (xs.drop (k + 1)) (lowAt xs low (k + 1)) high := by
  rw [h, entsB_drop hk, he, Bool.true_and]

theorem ents_end {xs : List En} {low high : Int} {k : Nat} (hk : k = xs.length) (h : entsB xs low high = entsB (xs.drop k) (lowAt xs low k) high) : entsB xs low high = true := by
  rw [h, hk, List.drop_length]; rfl

theorem ret_bool {a b : Bool} (h : a = b) : Ending.returned (.bool a) = .returned (.bool b) := by rw [h]

set_option maxRecDepth 20000 in
set_option maxHeartbeats 4000000 in
theorem entriesMayBe_any (A : Option Addr) (C : Nat) (xs : List En) (most low high : Int) (w : World) (h : RowAt w.heap.size w A (flatE xs)) (hz : xs.length * 56 ≤ 140737488351232) (hl : -9223372036854775808 ≤ low) (hh : high ≤ 9223372036854775807) :
    Calls Tryd.prog 65 #[.slice A xs.length C, .int .i64 most, .int .i64 low, .int .i64 high] w fun e w' => e = .returned (.bool (decide ((xs.length : Int) ≤ most) && entsB xs low high)) ∧ Below w.heap.size w w' := by
  by_cases hm : most < xs.length
  · have HE : Hid ((decide ((xs.length : Int) ≤ most) && entsB xs low high) = false) := by
      show _ = false
      rw [decide_eq_false (by omega), Bool.false_and]
    go_enter Tryd.func65, Tryd.ntmps65
    go_wp2_with fail
    go_ret
    exact ⟨ret_bool HE.out.symm, Below.refl _ _⟩
  · have HE : Hid ((decide ((xs.length : Int) ≤ most) && entsB xs low high) = entsB xs low high) := by
      show _ = _
      rw [decide_eq_true (by omega), Bool.true_and]
    rw [HE.out]
    go_enter Tryd.func65, Tryd.ntmps65
    go_wp2_with fail
    go_loopw [2, 17] (fun lo i wr => ∃ k : Nat, k ≤ xs.length ∧ i = .int .i64 k ∧ lo = .int .i64 (lowAt xs low k) ∧ low ≤ lowAt xs low k ∧ Hid (entsB xs low high = entsB (xs.drop k) (lowAt xs low k) high) ∧ Below w.heap.size w wr) (fun _ i _ => xs.length - (intOf i).toNat)
    case atStart => exact ⟨0, Nat.zero_le _, rfl, rfl, Int.le_refl _, (show _ = _ from rfl), Below.refl _ _⟩
    case round =>
      obtain ⟨k, hk, rfl, rfl, hlo, HR, hb⟩ := hrel
      by_cases hlt : k < xs.length
      · obtain ⟨b, o, rfl, hbl, c0, c1, c2, c3, c4, c5, c6⟩ := (h.below hb (Nat.le_refl _)).en hlt
        have hle : w.heap.size ≤ wr.heap.size := hb.size
        have hbr : b < wr.heap.size := by omega
        have HY : Hid (entB xs[k] (lowAt xs low k) high = true → entsB xs low high = entsB (xs.drop (k + 1)) (lowAt xs low (k + 1)) high) := fun he => ents_yes hlt HR.out he
        have HN : Hid (entB xs[k] (lowAt xs low k) high = false → entsB xs low high = false) := fun he => ents_no hlt HR.out he
        have HS : Hid (lowAt xs low (k + 1) = xs[k].key + 1) := by show _ = _; simp [lowAt, hlt]
        clear HR
        generalize xs[k] = x at *
        generalize lowAt xs low k = lo at *
        obtain ⟨key, c, s, xlo, xhi, t, l⟩ := x
        simp only at c0 c1 c2 c3 c4 c5 c6
        by_cases h1 : lo ≤ key
        · by_cases h2 : key < high
          · by_cases h3 : c = 0
            · have HN' := HN.out (by simp [entB, h3])
              clear HN HY
              have HN'' : Hid (entsB xs low high = false) := HN'
              clear HN'
              subst h3
              go_wp2_with fail
              go_ret
              exact ⟨ret_bool HN''.out.symm, hb.alloc hle _⟩
            · by_cases h4 : checkC c s xlo xhi t l = 0
              · have h4' : (checkC c s xlo xhi t l == 0) = true := by simpa using h4
                have h3' : (c == 0) = false := by simpa using h3
                have HY' : Hid (entsB xs low high = entsB (xs.drop (k + 1)) (lowAt xs low (k + 1)) high) := HY.out (by simp [entB, h1, h2, h3, h4])
                clear h3 HY HN
                go_wp2_with (first | (go_at_call 50; refine (check_any _ _ _ _ _ _ _).mono ?_; rintro e w1 ⟨rfl, hb1⟩; have hc1 := (bcells hb1).1))
                go_roundw
                case rel =>
                  go_light
                  have hs := HS.out
                  exact ⟨k + 1, by omega, by go_num, by rw [hs], by omega, HY', nextB (hb.alloc hle _) (Nat.le_refl _) hb1⟩
                case measure => simp [intOf]; omega
              · have h4' : (checkC c s xlo xhi t l == 0) = false := by simpa using h4
                have h3' : (c == 0) = false := by simpa using h3
                have HN' : Hid (entsB xs low high = false) := HN.out (by simp [entB, h4])
                clear h3 HY HN
                have h4n : (checkC c s xlo xhi t l != 0) = true := by simpa using h4
                go_wp2_with (first | (go_at_call 50; refine (check_any _ _ _ _ _ _ _).mono ?_; rintro e w1 ⟨rfl, hb1⟩; have hc1 := (bcells hb1).1))
                go_ret
                exact ⟨ret_bool HN'.out.symm, nextB (hb.alloc hle _) (Nat.le_refl _) hb1⟩
          · have HN' : Hid (entsB xs low high = false) := HN.out (by simp [entB, h2])
            clear HN HY
            go_wp2_with fail
            go_ret
            exact ⟨ret_bool HN'.out.symm, hb.alloc hle _⟩
        · have HN' : Hid (entsB xs low high = false) := HN.out (by simp [entB, h1])
          clear HN HY
          go_wp2_with fail
          go_ret
          exact ⟨ret_bool HN'.out.symm, hb.alloc hle _⟩
      · obtain rfl : k = xs.length := by omega
        go_wp2
        go_ret
        exact ⟨ret_bool (ents_end rfl HR.out).symm, hb⟩

end Go.Proofs.YtlojfgdpmaigmafDoor

/- The small functions of package base. -/
namespace Go.Proofs.YtlojfgdpmaigmafDoor
open Go.RowKit Plain

theorem hideB {p : Prop} (h : p) : Hid p := h

theorem btime_any (t : Int) (w : World) : Calls Tryd.prog 18 #[.int .i64 t] w fun e w' => e = .returned (.bool (inB t 0 1048575)) ∧ w' = w := by
  by_cases h1 : 0 ≤ t <;> by_cases h2 : t ≤ 1048575 <;>
  · go_enter Tryd.func18, Tryd.ntmps18
    go_wp2
    go_ret
    exact ⟨by simp [inB, h1, h2], rfl⟩

theorem place_any (k : Int) (w : World) (h : 0 ≤ k ∧ k < 1099511627776) : Calls Tryd.prog 49 #[.int .i64 k] w fun e w' => e = .returned (.int .i64 (k / 1048576)) ∧ w' = w := by
  go_enter Tryd.func49, Tryd.ntmps49
  go_wp2
  go_ret
  exact ⟨rfl, rfl⟩

theorem timeOf_any (k : Int) (w : World) (h : 0 ≤ k ∧ k < 1099511627776) : Calls Tryd.prog 48 #[.int .i64 k] w fun e w' => e = .returned (.int .i64 (k % 1048576)) ∧ w' = w := by
  go_enter Tryd.func48, Tryd.ntmps48
  go_wp2
  go_ret
  exact ⟨rfl, rfl⟩

theorem bbegin_any (t s : Int) (w : World) (h : 0 ≤ t ∧ t < 1099511627776) (hs : s = 1 ∨ s = 60 ∨ s = 3600) : Calls Tryd.prog 52 #[.int .i64 t, .int .i64 s] w fun e w' => e = .returned (.int .i64 (t - t % s)) ∧ w' = w := by
  have hm : ∀ q : Int, q = 1 ∨ q = 60 ∨ q = 3600 → 0 ≤ t % q ∧ t % q ≤ t := by
    rintro q (rfl | rfl | rfl) <;> omega
  have hq := hm s hs
  rcases hs with rfl | rfl | rfl <;>
  · go_enter Tryd.func52, Tryd.ntmps52
    go_wp2
    go_ret
    first | exact ⟨rfl, rfl⟩ | exact ⟨by simp, rfl⟩

theorem keyOf_any (p t : Int) (w : World) (hp : 0 ≤ p ∧ p < 1048576) (ht : 0 ≤ t ∧ t < 1048576) : Calls Tryd.prog 51 #[.int .i64 p, .int .i64 t] w fun e w' => e = .returned (.int .i64 (p * 1048576 + t)) ∧ w' = w := by
  go_enter Tryd.func51, Tryd.ntmps51
  go_wp2
  go_ret
  exact ⟨rfl, rfl⟩

/-- The table of sizes, as it is laid. -/
structure SzAt (w : World) : Prop where
  c0 : w.cell? ⟨0, 0, none⟩ = some (.int .i64 1)
  c1 : w.cell? ⟨0, 1, none⟩ = some (.int .i64 60)
  c2 : w.cell? ⟨0, 2, none⟩ = some (.int .i64 3600)
  lt : 0 < w.heap.size

theorem SzAt.below {w w' : World} (h : SzAt w) (hb : Below w.heap.size w w') : SzAt w' :=
  ⟨(hb.cell (p := ⟨0, 0, none⟩) h.lt).trans h.c0, (hb.cell (p := ⟨0, 1, none⟩) h.lt).trans h.c1, (hb.cell (p := ⟨0, 2, none⟩) h.lt).trans h.c2, Nat.lt_of_lt_of_le h.lt hb.size⟩

theorem sizes_any (w : World) (hs : SzAt w) : Calls Tryd.prog 34 #[] w fun e w' => e = .returned (.agg #[.int .i64 1, .int .i64 60, .int .i64 3600]) ∧ Below w.heap.size w w' := by
  obtain ⟨c0, c1, c2, hl⟩ := hs
  go_enter Tryd.func34, Tryd.ntmps34
  go_wp2
  exact bodyPost_ret (v := .agg #[.int .i64 1, .int .i64 60, .int .i64 3600]) (by simp [results, Tryd.results34, go_sem]) rfl ⟨rfl, (Below.refl _ _).alloc (Nat.le_refl _) _⟩

theorem sz_i0 (w : World) : (Instr.index 63 (.agg #[.int .i64 1, .int .i64 60, .int .i64 3600]) (.int .i64 0)).run Tryd.prog w = .ok (.int .i64 1) w := by kernel_rfl
theorem sz_i1 (w : World) : (Instr.index 63 (.agg #[.int .i64 1, .int .i64 60, .int .i64 3600]) (.int .i64 1)).run Tryd.prog w = .ok (.int .i64 60) w := by kernel_rfl
theorem sz_i2 (w : World) : (Instr.index 63 (.agg #[.int .i64 1, .int .i64 60, .int .i64 3600]) (.int .i64 2)).run Tryd.prog w = .ok (.int .i64 3600) w := by kernel_rfl

theorem isFloor_any (t : Int) (w : World) (hs : SzAt w) (ht : 0 ≤ t ∧ t < 1099511627776) : Calls Tryd.prog 19 #[.int .i64 t] w fun e w' => e = .returned (.bool (decide (t % 3600 = 0))) ∧ Below w.heap.size w w' := by
  have e2 := sz_i2
  by_cases h : t % 3600 = 0
  · have h' : (t % 3600 == 0) = true := by simpa using h
    go_enter Tryd.func19, Tryd.ntmps19
    go_wp2_with (go_at_call 34; refine (sizes_any _ hs).mono ?_; rintro e w1 ⟨rfl, hb1⟩)
    go_ret
    exact ⟨by simp [h], hb1⟩
  · have h' : (t % 3600 == 0) = false := by simpa using h
    go_enter Tryd.func19, Tryd.ntmps19
    go_wp2_with (go_at_call 34; refine (sizes_any _ hs).mono ?_; rintro e w1 ⟨rfl, hb1⟩)
    go_ret
    exact ⟨by simp [h], hb1⟩

end Go.Proofs.YtlojfgdpmaigmafDoor

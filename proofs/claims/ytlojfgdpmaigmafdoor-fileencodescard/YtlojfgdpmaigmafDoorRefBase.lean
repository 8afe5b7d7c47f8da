/- What the document says of bases: Book, Rolled, and its sameEntries. -/
import Derived.Test.YtlojfgdpmaigmafDoorP40
import Derived.BigQuiet
import Derived.Deep.RegionHeld3
import Derived.Deep.DeepCutAuto
namespace Go.Proofs.YtlojfgdpmaigmafDoor
open Go.RowKit Plain

theorem en_ne {x y : En} (h : ¬ x = y) : (x.key == y.key) = false ∨ ((x.key == y.key) = true ∧ (x.c == y.c) = false) ∨ ((x.key == y.key) = true ∧ (x.c == y.c) = true ∧ (x.s == y.s) = false) ∨ ((x.key == y.key) = true ∧ (x.c == y.c) = true ∧ (x.s == y.s) = true ∧ (x.lo == y.lo) = false) ∨ ((x.key == y.key) = true ∧ (x.c == y.c) = true ∧ (x.s == y.s) = true ∧ (x.lo == y.lo) = true ∧ (x.hi == y.hi) = false) ∨ ((x.key == y.key) = true ∧ (x.c == y.c) = true ∧ (x.s == y.s) = true ∧ (x.lo == y.lo) = true ∧ (x.hi == y.hi) = true ∧ (x.t == y.t) = false) ∨ ((x.key == y.key) = true ∧ (x.c == y.c) = true ∧ (x.s == y.s) = true ∧ (x.lo == y.lo) = true ∧ (x.hi == y.hi) = true ∧ (x.t == y.t) = true ∧ (x.l == y.l) = false) := by
  obtain ⟨a0, a1, a2, a3, a4, a5, a6⟩ := x
  obtain ⟨b0, b1, b2, b3, b4, b5, b6⟩ := y
  simp only [En.mk.injEq] at h
  by_cases h0 : a0 = b0 <;> by_cases h1 : a1 = b1 <;> by_cases h2 : a2 = b2 <;> by_cases h3 : a3 = b3 <;> by_cases h4 : a4 = b4 <;> by_cases h5 : a5 = b5 <;> by_cases h6 : a6 = b6 <;> simp_all

set_option maxRecDepth 20000 in
set_option maxHeartbeats 1000000 in
theorem sameR_any (A A' : Option Addr) (C C' : Nat) (xs ys : List En) (w : World) (h : RowAt w.heap.size w A (flatE xs)) (h' : RowAt w.heap.size w A' (flatE ys)) (hz : xs.length * 56 ≤ 140737488351232) (hz' : ys.length * 56 ≤ 140737488351232) :
    Calls Tryd.prog 31 #[.slice A xs.length C, .slice A' ys.length C'] w fun e w' => e = .returned (.bool (decide (xs = ys))) ∧ Below w.heap.size w w' := by
  obtain ⟨nb, hnb⟩ : ∃ nb, nb = decide (xs = ys) := ⟨_, rfl⟩
  rw [← hnb]
  by_cases hl : xs.length = ys.length
  · have HN : Hid (nb = decide (xs = ys)) := hnb
    clear hnb
    go_enter Tryd.func31, Tryd.ntmps31
    go_wp2_with fail
    have hl' : (xs.length : Int) = (ys.length : Int) := by omega
    go_loopw [5] (fun vi wr => ∃ i : Nat, i ≤ xs.length ∧ vi = .int .i64 i ∧ Hid (xs.take i = ys.take i) ∧ Below w.heap.size w wr) (fun vi _ => xs.length - (intOf vi).toNat)
    case atStart => exact ⟨0, Nat.zero_le _, rfl, (by show _ = _; simp), Below.refl _ _⟩
    case round =>
      obtain ⟨i, hi, rfl, HT, hb⟩ := hrel
      by_cases hlt : i < xs.length
      · have hlt' : i < ys.length := by omega
        obtain ⟨b, o, rfl, hbl, c0, c1, c2, c3, c4, c5, c6⟩ := (h.below hb (Nat.le_refl _)).en hlt
        obtain ⟨b', o', rfl, hbl', d0, d1, d2, d3, d4, d5, d6⟩ := (h'.below hb (Nat.le_refl _)).en hlt'
        have hsz := hb.size
        have l1 : b < wr.heap.size := by omega
        have l2 : b' < wr.heap.size := by omega
        by_cases hxy : xs[i] = ys[i]
        · have HT' : Hid (xs.take (i + 1) = ys.take (i + 1)) := by
            show _ = _
            rw [List.take_succ_eq_append_getElem hlt, List.take_succ_eq_append_getElem hlt', HT.out, hxy]
          rw [hxy] at c0 c1 c2 c3 c4 c5 c6
          clear hxy HT
          generalize ys[i] = y at *
          go_wp2_with fail
          go_quiet (fail)
          go_wp2_with fail
          go_roundw
          case rel =>
            go_light
            exact ⟨i + 1, hlt, by go_num, HT', below_drewN hb _⟩
          case measure => simp [intOf]; omega
        · have HF : Hid (nb = false) := by
            show nb = false
            rw [HN.out, decide_eq_false_iff_not]
            intro e
            subst e
            exact hxy rfl
          have hne := en_ne hxy
          clear HT HN hxy
          generalize xs[i] = x at *
          generalize ys[i] = y at *
          rcases hne with k0 | ⟨k0, k1⟩ | ⟨k0, k1, k2⟩ | ⟨k0, k1, k2, k3⟩ | ⟨k0, k1, k2, k3, k4⟩ | ⟨k0, k1, k2, k3, k4, k5⟩ | ⟨k0, k1, k2, k3, k4, k5, k6⟩
          all_goals
            go_wp2_with fail
            go_quiet (fail)
            go_wp2_with fail
            go_ret
            exact ⟨by rw [HF.out]; rfl, below_drewN hb _⟩
      · have HE : Hid (nb = true) := by
          show nb = true
          have q := HT.out
          rw [List.take_of_length_le (by omega), List.take_of_length_le (by omega)] at q
          rw [HN.out, q]
          simp
        go_wp2_with fail
        go_ret
        exact ⟨by rw [HE.out]; rfl, hb⟩
  · have HF : Hid (nb = false) := by
      show nb = false
      rw [hnb]
      simp only [decide_eq_false_iff_not]
      intro e
      exact hl (by rw [e])
    clear hnb
    go_enter Tryd.func31, Tryd.ntmps31
    go_wp2_with fail
    go_ret
    exact ⟨by rw [HF.out]; rfl, Below.refl _ _⟩

theorem roll_take {size : Int} {l : List En} {i : Nat} (hi : i < l.length) : allL ((l.take (i + 1)).map (bk size)) = insO (allL ((l.take i).map (bk size))) (bk size l[i]) := by
  rw [List.take_succ_eq_append_getElem hi, List.map_append, List.map_cons, List.map_nil, allL_snoc]

theorem roll_stop {size : Int} {l : List En} {i : Nat} (h : allL ((l.take i).map (bk size)) = none) : rollP size l = none := by
  unfold rollP
  have e : l = l.take i ++ l.drop i := (List.take_append_drop _ _).symm
  rw [e, List.map_append]
  unfold allL at h ⊢
  rw [List.foldl_append, h]
  exact fold_none _

set_option maxRecDepth 20000 in
set_option maxHeartbeats 1000000 in
theorem rolled_more (A : Option Addr) (C : Nat) (l : List En) (size : Int) (hs : size = 1 ∨ size = 60 ∨ size = 3600) (w : World) (h : RowAt w.heap.size w A (flatE l)) (hz : l.length ≤ 28001) (hg : ∀ x ∈ l, Good x.ru) (hk : ∀ x ∈ l, 0 ≤ x.key ∧ x.key < 1099511627776) (Q : Ending → World → Prop)
    (HQ : Hid (∀ e w', Below w.heap.size w w' → (∀ ys, rollP size l = some ys → ∃ v, e = .returned (.tuple #[v, .bool true]) ∧ w'.ownsRow w.heap.size 48 7 v ys.length (flatE ys)) → (rollP size l = none → e = .returned (.tuple #[.slice none 0 0, .bool false])) → Q e w')) :
    Calls Tryd.prog 28 #[.slice A l.length C, .int .i64 size] w Q := by
  go_enter Tryd.func28, Tryd.ntmps28
  go_wp2_with fail
  go_loopw [6, 7] (fun vo vi wr => ∃ (i : Nat) (out : List En), i ≤ l.length ∧ vi = .int .i64 i ∧ Hid (allL ((l.take i).map (bk size)) = some out) ∧ out.length ≤ i ∧ (∀ y ∈ out, Good y.ru) ∧ wr.ownsRow w.heap.size 48 7 vo out.length (flatE out) ∧ Below w.heap.size w wr) (fun _ vi _ => l.length - (intOf vi).toNat)
  case atStart => exact ⟨0, [], Nat.zero_le _, rfl, (by show _ = _; simp [allL]), by simp, by simp, World.ownsRow_nil _ _ _ _, Below.refl _ _⟩
  case round =>
    obtain ⟨i, out, hi, rfl, HA, hol, hgo, hown, hb⟩ := hrel
    by_cases hlt : i < l.length
    · obtain ⟨b, o, rfl, hbl, c0, c1, c2, c3, c4, c5, c6⟩ := (h.below hb (Nat.le_refl _)).en hlt
      have hsz := hb.size
      have hbr : b < wr.heap.size := by omega
      have hgi := hg _ (List.getElem_mem hlt)
      have hki := hk _ (List.getElem_mem hlt)
      obtain ⟨x, hx⟩ : ∃ x, l[i] = x := ⟨_, rfl⟩
      have HT := roll_take (size := size) hlt
      rw [hx] at c0 c1 c2 c3 c4 c5 c6 hgi hki HT
      have hkm : 0 ≤ x.key % 1048576 ∧ x.key % 1048576 < 1048576 := by omega
      obtain ⟨m, hmm⟩ : ∃ m, m = x.key % 1048576 % size := ⟨_, rfl⟩
      have hm : 0 ≤ m ∧ m ≤ x.key := by rw [hmm]; rcases hs with rfl | rfl | rfl <;> omega
      have HX : Hid (bk size x = ⟨x.key - m, x.c, x.s, x.lo, x.hi, x.t, x.l⟩) := by rw [hmm]; rfl
      have hr : (x.key % 1048576).tmod size = m := by rw [hmm, Int.tmod_eq_emod_of_nonneg hkm.1]
      have hs0 : ¬ size = 0 := by rcases hs with rfl | rfl | rfl <;> decide
      have hs1 : (size == 0) = false := by simpa using hs0
      have hs2 : ¬ size = -1 := by rcases hs with rfl | rfl | rfl <;> decide
      have hkw : IntKind.i64.wrap (x.key - m) = x.key - m := by rw [IntKind.wrap_i64]; omega
      have hmw : IntKind.i64.wrap m = m := by rw [IntKind.wrap_i64]; omega
      have i0 : (0 : Int) ≤ (i : Int) := by omega
      have i1 : (i : Int) < (l.length : Int) := by omega
      have n1 : ¬ b = wr.heap.size := by omega
      have hbr1 : b < wr.heap.size + 1 := by omega
      have KS : ∀ (W : World) (b' o' j : Nat) (v : Value), ¬ b' = wr.heap.size → (W.setCell ⟨wr.heap.size, j, none⟩ v).cell? ⟨b', o', none⟩ = W.cell? ⟨b', o', none⟩ := fun W b' o' j v hb => World.cell?_setCell_far _ _ _ _ (fun e => hb e.symm)
      clear hs hmm
      go_upto_region 6 with fail
      go_cut [9] (fun v9 wc => ∃ rb, v9 = .pointer (some ⟨rb, 0, none⟩) ∧ wr.heap.size ≤ rb ∧ RowL wc rb 48 [.int .i64 (x.key - m), .int .i64 x.c, .int .i64 x.s, .int .i64 x.lo, .int .i64 x.hi, .int .i64 x.t, .int .i64 x.l] ∧ Below wr.heap.size wr wc)
      case first =>
        go_region_held3 (fun w' => w'.cell? ⟨b, o + i * 7, none⟩ = some (.int .i64 x.key) ∧ w'.cell? ⟨b, o + i * 7 + 1, none⟩ = some (.int .i64 x.c) ∧ w'.cell? ⟨b, o + i * 7 + 2, none⟩ = some (.int .i64 x.s) ∧ w'.cell? ⟨b, o + i * 7 + 3, none⟩ = some (.int .i64 x.lo) ∧ w'.cell? ⟨b, o + i * 7 + 4, none⟩ = some (.int .i64 x.hi) ∧ w'.cell? ⟨b, o + i * 7 + 5, none⟩ = some (.int .i64 x.t) ∧ w'.cell? ⟨b, o + i * 7 + 6, none⟩ = some (.int .i64 x.l)) (go_keep) (fail)
        go_wp2
        go_meet
        case rel => exact ⟨wr.heap.size, rfl, Nat.le_refl _, rowL_alloc wr _ _, ((Below.refl _ _).alloc (Nat.le_refl _) _).drew⟩
      case rest =>
        obtain ⟨rb, rfl, hrb, hrw, hbc⟩ := hcut
        have r0 := hrw.cell 0
        have r1 := hrw.cell 1
        have r2 := hrw.cell 2
        have r3 := hrw.cell 3
        have r4 := hrw.cell 4
        have r5 := hrw.cell 5
        have r6 := hrw.cell 6
        simp only [List.getElem?_cons_zero, List.getElem?_cons_succ] at r0 r1 r2 r3 r4 r5 r6
        have hrl := hrw.lt
        obtain ⟨A0, C0, hv, -, -, -, hro⟩ := own_row hown
        have hroc := hro.up hbc
        have hwc : Below w.heap.size w wc := nextB hb (Nat.le_refl _) hbc
        have hcz := hbc.size
        have wc0 := withEntry_any A0 C0 out (bk size x) wc hroc (by omega) hgo hgi
        have hins : insO (some out) (bk size x) = ins out (bk size x) := rfl
        rw [HA.out, hins] at HT
        simp only [HX.out] at wc0 HT
        cases hi1 : ins out ⟨x.key - m, x.c, x.s, x.lo, x.hi, x.t, x.l⟩ with
        | none =>
          rw [hi1] at wc0 HT
          have HE : Hid (rollP size l = none) := roll_stop HT
          simp only at wc0
          clear HT HA
          rw [hv]
          go_wp2_with (go_at_call 44; refine wc0.mono ?_; rintro e w3 ⟨hb3, rfl⟩)
          refine HQ.out _ _ (nextB hwc (Nat.le_refl _) hb3) (fun ys hys => by rw [HE.out] at hys; cases hys) (fun _ => rfl)
        | some zs =>
          rw [hi1] at wc0 HT
          have HE : Hid (allL ((l.take (i + 1)).map (bk size)) = some zs) := HT
          obtain ⟨gz, lz⟩ := ins_good (x := ⟨x.key - m, x.c, x.s, x.lo, x.hi, x.t, x.l⟩) hgi hgo hi1
          simp only at wc0
          clear HT HA
          rw [hv]
          go_wp2_with (go_at_call 44; refine wc0.mono ?_; rintro e w3 ⟨hb3, v3, rfl, ho3⟩)
          exact ⟨⟨i + 1, zs, hlt, by go_num, HE, by omega, gz, own_mono ho3 (by have := hwc.size; omega), nextB hwc (Nat.le_refl _) hb3⟩, by simp only [intOf]; omega⟩
    · have HE : Hid (rollP size l = some out) := by
        have q := HA.out
        rw [List.take_of_length_le (by omega)] at q
        exact q
      clear HA
      go_wp2_with fail
      exact HQ.out _ _ hb (fun ys hys => by rw [HE.out] at hys; cases hys; exact ⟨_, rfl, hown⟩) (fun hn => by rw [HE.out] at hn; cases hn)

theorem rolled_any (A : Option Addr) (C : Nat) (l : List En) (size : Int) (hs : size = 1 ∨ size = 60 ∨ size = 3600) (w : World) (h : RowAt w.heap.size w A (flatE l)) (hz : l.length ≤ 28000) (hg : ∀ x ∈ l, Good x.ru) (hk : ∀ x ∈ l, 0 ≤ x.key ∧ x.key < 1099511627776) (Q : Ending → World → Prop)
    (HQ : Hid (∀ e w', Below w.heap.size w w' → (∀ ys, rollP size l = some ys → ∃ v, e = .returned (.tuple #[v, .bool true]) ∧ w'.ownsRow w.heap.size 48 7 v ys.length (flatE ys)) → (rollP size l = none → e = .returned (.tuple #[.slice none 0 0, .bool false])) → Q e w')) :
    Calls Tryd.prog 28 #[.slice A l.length C, .int .i64 size] w Q :=
  rolled_more A C l size hs w h (by omega) hg hk Q HQ

end Go.Proofs.YtlojfgdpmaigmafDoor

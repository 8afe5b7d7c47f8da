/- slices.IndexFunc and slices.DeleteFunc over entries, with the predicate of base.younger: their walks. -/
import Derived.Test.YtlojfgdpmaigmaeGreatDoorP24
import Derived.Test.YtlojfgdpmaigmaeGreatDoorP14
import Derived.BigQuiet
namespace Go.Proofs.YtlojfgdpmaigmaeGreatDoor
open Go.RowKit Plain Go.Shelf

/-- Older than that. -/
def oldB (t : Int) (x : En) : Bool := decide (x.key % 1048576 < t)

set_option maxRecDepth 20000 in
set_option maxHeartbeats 1000000 in
theorem young_any (key c s lo hi tt l : Int) (tb : Nat) (t : Int) (w : World) (hx : 0 ≤ key ∧ key < 1099511627776) (ht : w.cell? ⟨tb, 0, none⟩ = some (.int .i64 t)) :
    Calls Tryz.prog 58 #[.agg #[.int .i64 key, .int .i64 c, .int .i64 s, .int .i64 lo, .int .i64 hi, .int .i64 tt, .int .i64 l], .pointer (some ⟨tb, 0, none⟩)] w fun e w' => e = .returned (.bool (oldB t ⟨key, c, s, lo, hi, tt, l⟩)) ∧ Below w.heap.size w w' := by
  have b0 : ∀ o : Obj, Below w.heap.size w (w.alloc o) := fun o => (Below.refl _ _).alloc (Nat.le_refl _) o
  have hl : tb < w.heap.size := World.block_lt_of_cell? _ _ ht
  have con := hideB fun W => timeOf_any key W hx
  show Calls _ _ _ _ fun e w' => e = .returned (.bool (decide (key % 1048576 < t))) ∧ _
  clear hx
  go_enter Tryz.func58, Tryz.ntmps58
  go_wp2_with fail
  go_quiet (refine Calls.quiet_of ((con.out _).mono (fun _ _ h => ⟨h.1, 0, h.2⟩)))
  go_wp2
  go_ret
  exact ⟨rfl, below_drewN (b0 _) _⟩

/-- What IndexFunc tells. -/
def IdxTo (del : En → Bool) (xs : List En) (z : Int) : Prop := (z = -1 ∧ ∀ x ∈ xs, del x = false) ∨ ∃ k : Nat, z = k ∧ ∃ h : k < xs.length, del xs[k] = true ∧ ∀ x ∈ xs.take k, del x = false

set_option maxRecDepth 20000 in
set_option maxHeartbeats 2000000 in
theorem idxF_any (A : Option Addr) (C : Nat) (xs : List En) (tb : Nat) (t : Int) (w : World) (h : RowAt w.heap.size w A (flatE xs)) (hz : xs.length * 56 ≤ 140737488351232) (hk : ∀ x ∈ xs, 0 ≤ x.key ∧ x.key < 1099511627776) (ht : w.cell? ⟨tb, 0, none⟩ = some (.int .i64 t)) :
    Calls Tryz.prog 82 #[.slice A xs.length C, .func (.func 58) #[] #[.pointer (some ⟨tb, 0, none⟩)]] w
      fun e w' => ∃ z, e = .returned (.int .i64 z) ∧ IdxTo (oldB t) xs z ∧ Below w.heap.size w w' := by
  have htl : tb < w.heap.size := World.block_lt_of_cell? _ _ ht
  go_enter Tryz.func82, Tryz.ntmps82
  go_wp2_with fail
  go_loopw [5, 8] (fun _ vi wr => ∃ k : Nat, k ≤ xs.length ∧ vi = .int .i64 (k : Int) ∧ Hid (∀ x ∈ xs.take k, oldB t x = false) ∧ Below w.heap.size w wr) (fun _ vi _ => xs.length - (intOf vi).toNat)
  case atStart => exact ⟨0, Nat.zero_le _, rfl, fun x hx => by simp at hx, Below.refl _ _⟩
  case round =>
    obtain ⟨k, hkn, rfl, HI, hb⟩ := hrel
    by_cases hlt : k < xs.length
    · obtain ⟨b, o, rfl, hbl, hat⟩ := (h.below hb (Nat.le_refl _)).en hlt
      have hbw : b < wr.heap.size := Nat.lt_of_lt_of_le hbl hb.size
      have hkx := hk _ (List.getElem_mem hlt)
      have HX : Hid (∀ v, oldB t xs[k] = v → v = false → ∀ x ∈ xs.take (k + 1), oldB t x = false) := fun v e1 e2 x hx => by
        rw [List.take_succ_eq_append_getElem hlt] at hx
        rcases List.mem_append.1 hx with hx | hx
        · exact HI.out x hx
        · obtain rfl : x = xs[k] := by simpa using hx
          rw [e1, e2]
      have HY : Hid (oldB t xs[k] = true → IdxTo (oldB t) xs (k : Int)) := fun e => .inr ⟨k, rfl, hlt, e, HI.out⟩
      obtain ⟨x, hx⟩ : ∃ x, xs[k] = x := ⟨_, rfl⟩
      rw [hx] at hat hkx HX HY
      clear hx
      obtain ⟨key, c, s, lo, hi, tt, l⟩ := x
      obtain ⟨c0, c1, c2, c3, c4, c5, c6⟩ := hat
      simp only at c0 c1 c2 c3 c4 c5 c6 hkx
      have q0 : (0 : Int) ≤ (k : Int) := by omega
      have q1 : (k : Int) < (xs.length : Int) := by omega
      have hcon := young_any key c s lo hi tt l tb t wr hkx ((hb.cell (p := ⟨tb, 0, none⟩) htl).trans ht)
      generalize oldB t ⟨key, c, s, lo, hi, tt, l⟩ = v at hcon HX HY
      have HC := hideB hcon
      clear hcon hkx h hk ht
      cases v with
      | true =>
        go_wp2_with (go_at_call 58; refine HC.out.mono ?_; rintro e w1 ⟨rfl, hb1⟩)
        go_ret
        exact ⟨_, rfl, HY.out (by simp), nextB hb (Nat.le_refl _) hb1⟩
      | false =>
        go_wp2_with (go_at_call 58; refine HC.out.mono ?_; rintro e w1 ⟨rfl, hb1⟩)
        go_roundw
        case rel => exact ⟨k + 1, hlt, by go_num, HX.out false (by simp) (by simp), nextB hb (Nat.le_refl _) hb1⟩
        case measure => simp [intOf]; omega
    · have hlt' : ¬ ((k : Int) < (xs.length : Int)) := by omega
      go_wp2_with fail
      go_ret
      refine ⟨_, rfl, .inl ⟨rfl, fun x hx => HI.out x ?_⟩, hb⟩
      rw [List.take_of_length_le (by omega)]
      exact hx

theorem kept_cells {g : Nat} {w wr : World} (h : Kept [g] w wr) (a : Nat) (vs : List Value) : Kept [g] w (wr.setCells g a vs) := h.trans (setCells_kept g vs a wr)

theorem kept_below {ex : List Nat} {w wr w' : World} (h : Kept ex w wr) (hb : Below wr.heap.size wr w') : Kept ex w w' :=
  ⟨hb.os.trans h.os, hb.tape.trans h.tape, hb.output.trans h.output, Nat.le_trans h.size hb.size, fun k hk hne => (hb.block k (Nat.lt_of_lt_of_le hk h.size)).trans (h.block k hk hne)⟩

set_option maxRecDepth 20000 in
set_option maxHeartbeats 4000000 in
/-- In a row of one's own. -/
theorem delF_own (base g C : Nat) (xs : List En) (tb : Nat) (t : Int) (w : World) (h : w.ownsRow base 73 7 (.slice (some ⟨g, 0, none⟩) xs.length C) xs.length (flatE xs)) (hz : xs.length * 56 ≤ 140737488351232) (hk : ∀ x ∈ xs, 0 ≤ x.key ∧ x.key < 1099511627776) (ht : w.cell? ⟨tb, 0, none⟩ = some (.int .i64 t)) (htg : tb ≠ g) :
    Calls Tryz.prog 57 #[.slice (some ⟨g, 0, none⟩) xs.length C, .func (.func 58) #[] #[.pointer (some ⟨tb, 0, none⟩)]] w
      fun e w' => e = .returned (.slice (some ⟨g, 0, none⟩) (xs.filter fun x => !oldB t x).length C) ∧ w'.ownsRow base 73 7 (.slice (some ⟨g, 0, none⟩) (xs.filter fun x => !oldB t x).length C) (xs.filter fun x => !oldB t x).length (flatE (xs.filter fun x => !oldB t x)) ∧ Kept [g] w w' := by
  obtain ⟨M, hM⟩ : ∃ M, (xs.filter fun x => !oldB t x) = M := ⟨_, rfl⟩
  rw [hM]
  have HM := hideB hM
  clear hM
  have htl : tb < w.heap.size := World.block_lt_of_cell? _ _ ht
  have gl : g < w.heap.size := (h.lt g rfl).2
  have lC : xs.length ≤ C := by
    obtain ⟨A', C', e, _, hl, _⟩ := own_row h
    cases e
    exact hl
  have HI := hideB (idxF_any _ C xs tb t w (own_ok h).1 hz hk ht)
  go_enter Tryz.func57, Tryz.ntmps57
  have HW := hideB h
  clear h
  go_upto_region 2 with (first | (go_at_call 82; refine HI.out.mono ?_; rintro e w1 ⟨z, rfl, hI, hb1⟩))
  rcases hI with ⟨rfl, hall⟩ | ⟨k, rfl, hkl, hd, hn⟩
  · go_wp2_with fail
    go_ret
    have e : M = xs := by
      rw [← HM.out]
      exact List.filter_eq_self.2 fun x hx => by rw [hall x hx]; rfl
    subst e
    exact ⟨rfl, own_next HW.out hb1, Kept.of_below hb1⟩
  · have hk1 : ((k : Int) == -1) = false := beq_eq_false_iff_ne.2 (by omega)
    have HS := hideB (Dl.start (del := oldB t) hkl hd hn)
    have HB1 := hideB hb1
    clear hd hn hb1 HI
    go_wp2_with fail
    go_loopw [5, 6, 7] (fun vi vj _ wr => ∃ (i j : Nat) (R : List En), vi = .int .i64 (i : Int) ∧ vj = .int .i64 (j : Int) ∧ Dl (oldB t) xs i j R ∧ wr.ownsRow base 73 7 (.slice (some ⟨g, 0, none⟩) R.length C) R.length (flatE R) ∧ Kept [g] w wr) (fun _ vj _ _ => xs.length - (intOf vj).toNat)
    case atStart => exact ⟨k, k + 1, xs, rfl, by go_num, HS.out, own_next HW.out HB1.out, Kept.of_below HB1.out⟩
    case round =>
      obtain ⟨i, j, R, rfl, rfl, hD, hown, hkp⟩ := hrel
      have hij := hD.lt
      have hjn := hD.le
      have hRl := hD.len
      have gw : g < wr.heap.size := Nat.lt_of_lt_of_le gl hkp.size
      have tw : wr.cell? ⟨tb, 0, none⟩ = some (.int .i64 t) := (World.cell?_of_block (a := ⟨tb, 0, none⟩) (hkp.block tb htl (by simp [htg]))).trans ht
      by_cases hlt : j < xs.length
      · obtain ⟨b, o, hA, hbl, hat⟩ := (own_ok hown).1.en (k := j) (by omega)
        cases hA
        rw [hD.get hlt] at hat
        have hkx := hk _ (List.getElem_mem hlt)
        have HK := hideB (fun e => hD.keep hlt e)
        have HN := hideB (fun e => hD.skip hlt e)
        obtain ⟨x, hx⟩ : ∃ x, xs[j] = x := ⟨_, rfl⟩
        rw [hx] at hat hkx HK HN
        clear hx
        rw [Nat.zero_add] at hat
        have q0 : (0 : Int) ≤ (j : Int) := by omega
        have q1 : (j : Int) < (xs.length : Int) := by omega
        have q2 : (0 : Int) ≤ (i : Int) := by omega
        have q3 : (i : Int) < (xs.length : Int) := by omega
        have k1 : IntKind.i64.wrap ((i : Int) + 1) = (i : Int) + 1 := by rw [IntKind.wrap_i64]; omega
        have k2 : IntKind.i64.wrap ((j : Int) + 1) = (j : Int) + 1 := by rw [IntKind.wrap_i64]; omega
        obtain ⟨key, c, s, lo, hi, tt, l⟩ := x
        obtain ⟨c0, c1, c2, c3, c4, c5, c6⟩ := hat
        simp only at c0 c1 c2 c3 c4 c5 c6 hkx
        have hcon := hideB fun W (hW : Below wr.heap.size wr W) => young_any key c s lo hi tt l tb t W hkx ((hW.cell (p := ⟨tb, 0, none⟩) (Nat.lt_of_lt_of_le htl hkp.size)).trans tw)
        have HO := hideB hown
        have HP := hideB hkp
        obtain ⟨v, hv⟩ : ∃ v, oldB t ⟨key, c, s, lo, hi, tt, l⟩ = v := ⟨_, rfl⟩
        rw [hv] at hcon HK HN
        have hiR : i < R.length := by omega
        clear hkx hown hkp tw hk ht hv hD HW HS
        cases v with
        | true =>
          clear HK
          go_wp2_with (first | (go_at_call 58; refine (hcon.out _ ((Below.refl _ _).alloc (Nat.le_refl _) _)).mono ?_; rintro e w2 ⟨rfl, hb2⟩))
          go_roundw
          case rel =>
            have hb3 : Below wr.heap.size wr w2 := nextB ((Below.refl _ _).alloc (Nat.le_refl _) _) (Nat.le_refl _) hb2
            exact ⟨i, j + 1, R, rfl, by go_num, HN.out (by simp), own_next HO.out hb3, kept_below HP.out hb3⟩
          case measure => simp [intOf]; omega
        | false =>
          clear HN
          go_upto_region 9 with (first | (go_at_call 58; refine (hcon.out _ ((Below.refl _ _).alloc (Nat.le_refl _) _)).mono ?_; rintro e w2 ⟨rfl, hb2⟩))
          have hb3 : Below wr.heap.size wr w2 := nextB ((Below.refl _ _).alloc (Nat.le_refl _) _) (Nat.le_refl _) hb2
          have O2 := hideB (own_next HO.out hb3)
          have P2 := hideB (kept_below HP.out hb3)
          have V2 : RowL w2 wr.heap.size 73 [.int .i64 key, .int .i64 c, .int .i64 s, .int .i64 lo, .int .i64 hi, .int .i64 tt, .int .i64 l] := (rowL_alloc wr [.int .i64 key, .int .i64 c, .int .i64 s, .int .i64 lo, .int .i64 hi, .int .i64 tt, .int .i64 l] 73).below hb2 (by simp)
          have d0 := fun o => V2.cell o
          have s2 : wr.heap.size < w2.heap.size := V2.lt
          have g2 : g < w2.heap.size := by omega
          have f2 : ∀ o, w2.frozen? ⟨g, o, none⟩ = false := fun o => O2.out.frozenAt o
          have gn : ¬ wr.heap.size = g := by omega
          have gn' : ¬ g = wr.heap.size := by omega
          have hz7 : EnAt w2 g (i * 7) (R[i]'hiR) := by
            obtain ⟨b', o', hA', -, hat'⟩ := (own_ok O2.out).1.en hiR
            cases hA'
            rw [Nat.zero_add] at hat'
            exact hat'
          obtain ⟨z0, z1, z2, z3, z4, z5, z6⟩ := hz7
          clear hb2 hb3 c0 c1 c2 c3 c4 c5 c6 V2
          go_wp2_with fail
          go_roundw
          case rel =>
            go_light
            exact ⟨i + 1, j + 1, R.set i ⟨key, c, s, lo, hi, tt, l⟩, by go_num, by go_num, HK.out (by simp), own_set7 (x := ⟨key, c, s, lo, hi, tt, l⟩) O2.out hiR, kept_set7 P2.out (i * 7) ⟨key, c, s, lo, hi, tt, l⟩⟩
          case measure => simp [intOf]; omega
      · obtain rfl : j = xs.length := by omega
        have hlt' : ¬ ((xs.length : Int) < (xs.length : Int)) := by omega
        have hcnt : M.length = i := by rw [← HM.out]; exact hD.count
        have hdone : R.take i = M := hD.done.trans HM.out
        have hCi : ¬ C = i := by omega
        have hC0 : ¬ C = 0 := by omega
        have q2 : (0 : Int) ≤ (i : Int) := by omega
        have q3 : (i : Int) ≤ (xs.length : Int) := by omega
        have q4 : (i : Int) ≤ (C : Int) := by omega
        have hcell : ∀ m, m < (xs.length - i) * 7 → (wr.cell? ⟨g, i * 7 + m, none⟩).isSome = true := fun m hm => by
          have hfl := flatE_length R
          rcases (own_ok hown).1 with h0 | ⟨b', o', hA, _, hc⟩
          · have : (flatE R).length = 0 := by rw [h0]; rfl
            omega
          · cases hA
            have hlt2 : i * 7 + m < (flatE R).length := by rw [hfl, hRl, Nat.sub_mul] at *; omega
            have := hc (i * 7 + m) _ (List.getElem?_eq_getElem hlt2)
            rw [Nat.zero_add] at this
            rw [this]; rfl
        have hcl := fun ty => run_clear7 wr ty g (i * 7) (xs.length - i) (C - i) (by omega) hcell (fun m _ => hown.frozenAt _)
        have HO := hideB (own_clear (zs := List.replicate ((xs.length - i) * 7) (.int .i64 0)) hown rfl (show i ≤ R.length by omega) rfl)
        have HP := hideB (kept_cells hkp (i * 7) (List.replicate ((xs.length - i) * 7) (.int .i64 0)))
        have HD := hideB hdone
        clear hcell hown hkp hdone hD hk ht HW HS tw HB1
        go_wp2_with fail
        go_ret
        obtain rfl := hcnt
        refine ⟨rfl, ?_, HP.out⟩
        have h9 := HO.out
        rw [HD.out] at h9
        exact h9

end Go.Proofs.YtlojfgdpmaigmaeGreatDoor

/- slices.DeleteFunc over entries, of any row of one's own, an empty one too. -/
namespace Go.Proofs.YtlojfgdpmaigmaeGreatDoor
open Go.RowKit Plain Go.Shelf

set_option maxRecDepth 20000 in
set_option maxHeartbeats 1000000 in
theorem delF_any (base : Nat) (A : Option Addr) (C : Nat) (xs : List En) (tb : Nat) (t : Int) (w : World) (h : w.ownsRow base 73 7 (.slice A xs.length C) xs.length (flatE xs)) (hz : xs.length * 56 ≤ 140737488351232) (hk : ∀ x ∈ xs, 0 ≤ x.key ∧ x.key < 1099511627776) (ht : w.cell? ⟨tb, 0, none⟩ = some (.int .i64 t)) (htg : ∀ g, A = some ⟨g, 0, none⟩ → tb ≠ g) :
    Calls Tryz.prog 57 #[.slice A xs.length C, .func (.func 58) #[] #[.pointer (some ⟨tb, 0, none⟩)]] w
      fun e w' => e = .returned (.slice A (xs.filter fun x => !oldB t x).length C) ∧ w'.ownsRow base 73 7 (.slice A (xs.filter fun x => !oldB t x).length C) (xs.filter fun x => !oldB t x).length (flatE (xs.filter fun x => !oldB t x)) ∧ Kept (obk A) w w' := by
  rcases h.2 with ⟨hv, hn⟩ | ⟨g, cap, cur, hv, hb, hg, hl, hm, hs, htk⟩
  · have e0 : xs = [] := List.eq_nil_of_length_eq_zero hn
    subst e0
    obtain ⟨rfl, rfl⟩ : A = none ∧ C = 0 := by simpa using hv
    have HI := hideB (idxF_any none 0 [] tb t w (.inl rfl) (by simp) hk ht)
    go_enter Tryz.func57, Tryz.ntmps57
    go_upto_region 2 with (first | (go_at_call 82; refine HI.out.mono ?_; rintro e w1 ⟨z, rfl, hI, hb1⟩))
    rcases hI with ⟨rfl, hall⟩ | ⟨k, rfl, hkl, hd, hn⟩
    · go_wp2_with fail
      go_ret
      exact ⟨rfl, World.ownsRow_nil _ _ _ _, Kept.of_below hb1⟩
    · simp at hkl
  · obtain ⟨rfl, rfl⟩ : A = some ⟨g, 0, none⟩ ∧ C = cap := by simpa using hv
    exact delF_own base g C xs tb t w h hz hk ht (htg g rfl)

end Go.Proofs.YtlojfgdpmaigmaeGreatDoor

/- Entries that may be (P2.1): the document's test. -/
import Derived.Test.YtlojfgdpmaigmacGreatDoorP10
import Derived.BigQuiet
import Derived.Test.YtlojfgdpmaigmacGreatDoorP08
import Derived.Test.YtlojfgdpmaigmacGreatDoorP09
namespace Go.Proofs.YtlojfgdpmaigmacGreatDoor
open Go.RowKit Plain

theorem below_drewN {B : Nat} {w w' : World} (h : Below B w w') (n : Nat) : Below B w (w'.drewN n) := ⟨h.os, h.tape, h.output, h.size, h.block⟩

end Go.Proofs.YtlojfgdpmaigmacGreatDoor

/- Where an entry of a key stands, or would stand: the search by halves. -/
namespace Go.Proofs.YtlojfgdpmaigmacGreatDoor
open Go.RowKit Plain

theorem hideC {p : Prop} (h : p) : Hid p := h
theorem ret_ib {a b : Int} {c d : Bool} (h : a = b) (h' : c = d) : Ending.returned (.tuple #[.int .i64 a, .bool c]) = .returned (.tuple #[.int .i64 b, .bool d]) := by rw [h, h']

def cmpI (x y : Int) : Int := if x < y then -1 else if y < x then 1 else 0

theorem isNaN_any (x : Int) (w : World) : Calls Tryz.prog 93 #[.int .i64 x] w fun e w' => e = .returned (.bool false) ∧ w' = w := by
  go_enter Tryz.func93, Tryz.ntmps93
  go_wp2
  go_ret
  exact ⟨rfl, rfl⟩

set_option maxHeartbeats 400000 in
theorem compare_any (x y : Int) (w : World) : Calls Tryz.prog 63 #[.int .i64 x, .int .i64 y] w fun e w' => e = .returned (.int .i64 (cmpI x y)) ∧ w' = w := by
  rcases Int.lt_trichotomy x y with h | h | h
  · have e : cmpI x y = -1 := by simp [cmpI, h]
    have E : Hid (cmpI x y = -1) := e
    clear e
    go_enter Tryz.func63, Tryz.ntmps63
    go_wp2_with (go_at_call 93; refine (isNaN_any _ _).mono ?_; rintro e w' ⟨rfl, rfl⟩)
    go_ret
    exact ⟨ret_int E.out.symm, rfl⟩
  · subst h
    have E : Hid (cmpI x x = 0) := by show _ = _; simp [cmpI]
    have h1 : ¬ x < x := by omega
    go_enter Tryz.func63, Tryz.ntmps63
    go_wp2_with (go_at_call 93; refine (isNaN_any _ _).mono ?_; rintro e w' ⟨rfl, rfl⟩)
    go_ret
    exact ⟨ret_int E.out.symm, rfl⟩
  · have h1 : ¬ x < y := by omega
    have E : Hid (cmpI x y = 1) := by show _ = _; simp [cmpI, h, h1]
    go_enter Tryz.func63, Tryz.ntmps63
    go_wp2_with (go_at_call 93; refine (isNaN_any _ _).mono ?_; rintro e w' ⟨rfl, rfl⟩)
    go_ret
    exact ⟨ret_int E.out.symm, rfl⟩

set_option maxHeartbeats 400000 in
theorem find1_any (x : En) (k : Int) (w : World) : Calls Tryz.prog 120 #[.agg #[.int .i64 x.key, .int .i64 x.c, .int .i64 x.s, .int .i64 x.lo, .int .i64 x.hi, .int .i64 x.t, .int .i64 x.l], .int .i64 k] w
    fun e w' => e = .returned (.int .i64 (cmpI x.key k)) ∧ Below w.heap.size w w' := by
  have hcon := fun W' => compare_any x.key k W'
  generalize cmpI x.key k = r at hcon ⊢
  go_enter Tryz.func120, Tryz.ntmps120
  go_wp2_with (go_at_call 63; refine (hcon _).mono ?_; rintro e w' ⟨rfl, rfl⟩)
  go_ret
  exact ⟨rfl, (Below.refl _ _).alloc (Nat.le_refl _) _⟩

/-! ### The search, in plain terms -/

def hasK (l : List En) (k : Int) : Bool := l.any fun x => x.key == k

theorem entsB_lt {hi : Int} : ∀ {l : List En} {lo : Int}, entsB l lo hi = true → (∀ x ∈ l, lo ≤ x.key ∧ x.key < hi) ∧ l.Pairwise (fun x y => x.key < y.key)
  | [], _, _ => ⟨by simp, List.Pairwise.nil⟩
  | x :: r, lo, h => by
    simp only [entsB, Bool.and_eq_true] at h
    have h1 := h.1
    simp only [entB, Bool.and_eq_true, decide_eq_true_eq] at h1
    obtain ⟨a, b⟩ := entsB_lt h.2
    refine ⟨fun y hy => ?_, List.pairwise_cons.2 ⟨fun y hy => ?_, b⟩⟩
    · rcases List.mem_cons.1 hy with rfl | hy
      · exact ⟨h1.1.1.1, h1.1.1.2⟩
      · have := a y hy; omega
    · have := a y hy; omega

theorem lowN_is {l : List En} {k : Int} {i : Nat} (hi : i ≤ l.length) (h1 : ∀ j (h : j < l.length), j < i → l[j].key < k) (h2 : ∀ j (h : j < l.length), i ≤ j → k ≤ l[j].key) : lowN l k = i := by
  induction l generalizing i with
  | nil => simp at hi; subst hi; rfl
  | cons x r ih =>
    cases i with
    | zero =>
      have := h2 0 (by simp) (Nat.le_refl _)
      simp at this
      simp [lowN, show ¬ x.key < k by omega]
    | succ i =>
      have hx := h1 0 (by simp) (by omega)
      simp at hx
      have e : lowN (x :: r) k = lowN r k + 1 := by simp [lowN, hx]
      rw [e, ih (i := i) (by simpa using hi) (fun j hj hji => by
        have := h1 (j + 1) (by simpa using hj) (by omega)
        simpa using this) (fun j hj hij => by
        have := h2 (j + 1) (by simpa using hj) (by omega)
        simpa using this)]

theorem hasK_is {l : List En} {k : Int} (hp : l.Pairwise (fun x y => x.key < y.key)) {i : Nat} (h1 : ∀ j (h : j < l.length), j < i → l[j].key < k) : hasK l k = (if h : i < l.length then decide (l[i].key = k) else false) ∨ ¬ (∀ j (h : j < l.length), i ≤ j → k ≤ l[j].key) := by
  by_cases h2 : ∀ j (h : j < l.length), i ≤ j → k ≤ l[j].key
  · left
    rw [Bool.eq_iff_iff]
    unfold hasK
    rw [List.any_eq_true]
    constructor
    · rintro ⟨x, hx, hk⟩
      obtain ⟨j, hj, rfl⟩ := List.getElem_of_mem hx
      have hk' : l[j].key = k := by simpa using hk
      by_cases hji : j < i
      · have := h1 j hj hji; omega
      · by_cases hij : i = j
        · subst hij; simp [hj, hk']
        · have hi : i < l.length := by omega
          have a := h2 i hi (Nat.le_refl _)
          have b := List.pairwise_iff_getElem.1 hp i j hi hj (by omega)
          omega
    · intro h
      split at h
      · rename_i hi
        exact ⟨l[i], List.getElem_mem hi, by simpa using h⟩
      · cases h
  · right; exact h2

set_option maxRecDepth 20000 in
set_option maxHeartbeats 1000000 in
theorem search_any (A : Option Addr) (C : Nat) (xs : List En) (k : Int) (w : World) (h : RowAt w.heap.size w A (flatE xs)) (hz : xs.length * 56 ≤ 140737488351232) (hp : xs.Pairwise (fun x y => x.key < y.key)) :
    Calls Tryz.prog 119 #[.slice A xs.length C, .int .i64 k, .func (.func 120) #[] #[]] w
      fun e w' => e = .returned (.tuple #[.int .i64 (lowN xs k : Int), .bool (hasK xs k)]) ∧ Below w.heap.size w w' := by
  go_enter Tryz.func119, Tryz.ntmps119
  go_wp2_with fail
  go_loopw [9, 10] (fun vi vj wr => ∃ i j : Nat, i ≤ j ∧ j ≤ xs.length ∧ vi = .int .i64 i ∧ vj = .int .i64 j ∧ Hid ((∀ a (h : a < xs.length), a < i → xs[a].key < k) ∧ (∀ a (h : a < xs.length), j ≤ a → k ≤ xs[a].key)) ∧ Below w.heap.size w wr) (fun vi vj _ => (intOf vj).toNat - (intOf vi).toNat)
  case atStart => exact ⟨0, xs.length, Nat.zero_le _, Nat.le_refl _, rfl, rfl, ⟨fun a _ h => by omega, fun a h1 h2 => by omega⟩, Below.refl _ _⟩
  case round =>
    obtain ⟨i, j, hij, hjn, rfl, rfl, hI, hb⟩ := hrel
    by_cases hlt : i < j
    · obtain ⟨m, hm⟩ : ∃ m : Nat, m = (i + j) / 2 := ⟨_, rfl⟩
      have hmj : m < j := by omega
      have hmi : i ≤ m := by omega
      have hm2 : ((i : Int) + (j : Int)) / 2 = (m : Int) := by omega
      have HM : Hid (m = (i + j) / 2) := hm
      clear hm
      obtain ⟨b, o, rfl, hbl, hat⟩ := (h.below hb (Nat.le_refl _)).en (show m < xs.length by omega)
      have hbw : b < wr.heap.size := Nat.lt_of_lt_of_le hbl hb.size
      obtain ⟨x, hx⟩ : ∃ x, xs[m]'(by omega) = x := ⟨_, rfl⟩
      rw [hx] at hat
      obtain ⟨c0, c1, c2, c3, c4, c5, c6⟩ := hat
      have hcon := fun W => find1_any x k W
      have HX : Hid (xs[m]'(by omega) = x) := hx
      clear hx
      by_cases hk : x.key < k
      · have hr : cmpI x.key k < 0 := by unfold cmpI; rw [if_pos hk]; decide
        generalize cmpI x.key k = r at hcon hr
        have HC : Hid _ := hcon
        clear hcon
        go_wp2_with (go_at_call 120; refine (HC.out _).mono ?_; rintro e w1 ⟨rfl, hb1⟩)
        go_roundw
        case rel =>
          refine ⟨m + 1, j, by omega, hjn, by go_num, rfl, ⟨fun a ha hai => ?_, hI.out.2⟩, up hb hb1⟩
          have hxm := HX.out
          by_cases e : a = m
          · subst e; rw [hxm]; exact hk
          · have := List.pairwise_iff_getElem.1 hp a m ha (by omega) (by omega)
            rw [hxm] at this
            omega
        case measure => simp [intOf]; omega
      · have hr : ¬ cmpI x.key k < 0 := by unfold cmpI; rw [if_neg hk]; split <;> decide
        generalize cmpI x.key k = r at hcon hr
        have HC : Hid _ := hcon
        clear hcon
        go_wp2_with (go_at_call 120; refine (HC.out _).mono ?_; rintro e w1 ⟨rfl, hb1⟩)
        go_roundw
        case rel =>
          refine ⟨i, m, by omega, by omega, rfl, by go_num, ⟨hI.out.1, fun a ha hai => ?_⟩, up hb hb1⟩
          have hxm := HX.out
          by_cases e : a = m
          · subst e; rw [hxm]; omega
          · have := List.pairwise_iff_getElem.1 hp m a (by omega) ha (by omega)
            rw [hxm] at this
            omega
        case measure => simp [intOf]; omega
    · obtain rfl : i = j := by omega
      have E1 : Hid (lowN xs k = i) := lowN_is hjn hI.out.1 hI.out.2
      have E2 : Hid (hasK xs k = (if h : i < xs.length then decide (xs[i].key = k) else false)) := by
        rcases hasK_is hp hI.out.1 with e | e
        · exact e
        · exact absurd hI.out.2 e
      by_cases hin : i < xs.length
      · obtain ⟨b, o, rfl, hbl, hat⟩ := (h.below hb (Nat.le_refl _)).en hin
        have hbw : b < wr.heap.size := Nat.lt_of_lt_of_le hbl hb.size
        obtain ⟨x, hx⟩ : ∃ x, xs[i] = x := ⟨_, rfl⟩
        rw [hx] at hat
        obtain ⟨c0, c1, c2, c3, c4, c5, c6⟩ := hat
        have hcon := fun W => find1_any x k W
        have E3 : Hid (hasK xs k = decide (x.key = k)) := by
          show _ = _
          rw [E2.out, dif_pos hin, hx]
        clear hx E2
        have hr : (cmpI x.key k == 0) = decide (x.key = k) := by
          rw [Bool.eq_iff_iff, decide_eq_true_eq, beq_iff_eq]
          unfold cmpI
          split
          · omega
          · split <;> omega
        generalize cmpI x.key k = r at hcon hr
        generalize decide (x.key = k) = q at hr E3
        have HC : Hid _ := hcon
        clear hcon
        go_wp2_with (go_at_call 120; refine (HC.out _).mono ?_; rintro e w1 ⟨rfl, hb1⟩)
        go_ret2
        exact ⟨ret_ib (by rw [E1.out]) E3.out.symm, up hb hb1⟩
      · have hin' : ¬ ((i : Int) < (xs.length : Int)) := by omega
        go_wp2_with fail
        go_ret2
        exact ⟨ret_ib (by rw [E1.out]) (by rw [E2.out, dif_neg hin]), hb⟩

set_option maxHeartbeats 400000 in
theorem find_any (A : Option Addr) (C : Nat) (xs : List En) (k : Int) (w : World) (h : RowAt w.heap.size w A (flatE xs)) (hz : xs.length * 56 ≤ 140737488351232) (hp : xs.Pairwise (fun x y => x.key < y.key)) :
    Calls Tryz.prog 95 #[.slice A xs.length C, .int .i64 k] w fun e w' => e = .returned (.tuple #[.int .i64 (lowN xs k : Int), .bool (hasK xs k)]) ∧ Below w.heap.size w w' := by
  have hcon := search_any A C xs k w h hz hp
  generalize lowN xs k = r at hcon ⊢
  generalize hasK xs k = q at hcon ⊢
  have HC := hideC hcon
  clear hcon
  go_enter Tryz.func95, Tryz.ntmps95
  go_wp2_with (go_at_call 119; refine HC.out.mono ?_; rintro e w1 ⟨rfl, hb1⟩)
  go_ret2
  exact ⟨rfl, hb1⟩

end Go.Proofs.YtlojfgdpmaigmacGreatDoor

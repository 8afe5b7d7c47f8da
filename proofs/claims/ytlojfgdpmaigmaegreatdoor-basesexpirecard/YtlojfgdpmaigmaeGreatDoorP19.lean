/- Entries that may be (P2.1): the code's test and the document's. -/
import Derived.Test.YtlojfgdpmaigmaeGreatDoorP15
import Derived.Test.YtlojfgdpmaigmaeGreatDoorP14
import Derived.BigQuiet
import Derived.Test.YtlojfgdpmaigmaeGreatDoorP18
namespace Go.Proofs.YtlojfgdpmaigmaeGreatDoor
open Go.RowKit Plain

theorem ents_no {xs : List En} {low high : Int} {k : Nat} (hk : k < xs.length) (h : entsB xs low high = entsB (xs.drop k) (lowAt xs low k) high) (he : entB xs[k] (lowAt xs low k) high = false) : entsB xs low high = false := by
  rw [h, entsB_drop hk, he, Bool.false_and]

theorem ents_yes {xs : List En} {low high : Int} {k : Nat} (hk : k < xs.length) (h : entsB xs low high = entsB (xs.drop k) (lowAt xs low k) high) (he : entB xs[k] (lowAt xs low k) high = true) :
    entsB xs low high = entsB (xs.drop (k + 1)) (lowAt xs low (k + 1)) high := by
  rw [h, entsB_drop hk, he, Bool.true_and]

theorem ents_end {xs : List En} {low high : Int} {k : Nat} (hk : k = xs.length) (h : entsB xs low high = entsB (xs.drop k) (lowAt xs low k) high) : entsB xs low high = true := by
  rw [h, hk, List.drop_length]; rfl

theorem ret_bool {a b : Bool} (h : a = b) : Ending.returned (.bool a) = .returned (.bool b) := by rw [h]

set_option maxRecDepth 20000 in
set_option maxHeartbeats 4000000 in
theorem entriesMayBe_any (A : Option Addr) (C : Nat) (xs : List En) (most low high : Int) (w : World) (h : RowAt w.heap.size w A (flatE xs)) (hz : xs.length * 56 ≤ 140737488351232) (hl : -9223372036854775808 ≤ low) (hh : high ≤ 9223372036854775807) :
    Calls Tryz.prog 127 #[.slice A xs.length C, .int .i64 most, .int .i64 low, .int .i64 high] w fun e w' => e = .returned (.bool (decide ((xs.length : Int) ≤ most) && entsB xs low high)) ∧ Below w.heap.size w w' := by
  by_cases hm : most < xs.length
  · have HE : Hid ((decide ((xs.length : Int) ≤ most) && entsB xs low high) = false) := by
      show _ = false
      rw [decide_eq_false (by omega), Bool.false_and]
    go_enter Tryz.func127, Tryz.ntmps127
    go_wp2_with fail
    go_ret
    exact ⟨ret_bool HE.out.symm, Below.refl _ _⟩
  · have HE : Hid ((decide ((xs.length : Int) ≤ most) && entsB xs low high) = entsB xs low high) := by
      show _ = _
      rw [decide_eq_true (by omega), Bool.true_and]
    rw [HE.out]
    go_enter Tryz.func127, Tryz.ntmps127
    go_wp2_with fail
    go_loopw [2, 17] (fun lo i wr => ∃ k : Nat, k ≤ xs.length ∧ i = .int .i64 k ∧ lo = .int .i64 (lowAt xs low k) ∧ low ≤ lowAt xs low k ∧ Hid (entsB xs low high = entsB (xs.drop k) (lowAt xs low k) high) ∧ Below w.heap.size w wr) (fun _ i _ => xs.length - (intOf i).toNat)
    case atStart => exact ⟨0, Nat.zero_le _, rfl, rfl, Int.le_refl _, (show _ = _ from rfl), Below.refl _ _⟩
    case round =>
      obtain ⟨k, hk, rfl, rfl, hlo, HR, hb⟩ := hrel
      by_cases hlt : k < xs.length
      · obtain ⟨b, o, rfl, hbl, c0, c1, c2, c3, c4, c5, c6⟩ := (h.below hb (Nat.le_refl _)).en hlt
        have hle : w.heap.size ≤ wr.heap.size := hb.size
        have hbr : b < wr.heap.size := by omega
        have HY : Hid (entB xs[k] (lowAt xs low k) high = true → entsB xs low high = entsB (xs.drop (k + 1)) (lowAt xs low (k + 1)) high) := fun he => ents_yes hlt HR.out he
        have HN : Hid (entB xs[k] (lowAt xs low k) high = false → entsB xs low high = false) := fun he => ents_no hlt HR.out he
        have HS : Hid (lowAt xs low (k + 1) = xs[k].key + 1) := by show _ = _; simp [lowAt, hlt]
        clear HR
        generalize xs[k] = x at *
        generalize lowAt xs low k = lo at *
        obtain ⟨key, c, s, xlo, xhi, t, l⟩ := x
        simp only at c0 c1 c2 c3 c4 c5 c6
        by_cases h1 : lo ≤ key
        · by_cases h2 : key < high
          · by_cases h3 : c = 0
            · have HN' := HN.out (by simp [entB, h3])
              clear HN HY
              have HN'' : Hid (entsB xs low high = false) := HN'
              clear HN'
              subst h3
              go_wp2_with fail
              go_ret
              exact ⟨ret_bool HN''.out.symm, hb.alloc hle _⟩
            · by_cases h4 : checkC c s xlo xhi t l = 0
              · have h4' : (checkC c s xlo xhi t l == 0) = true := by simpa using h4
                have h3' : (c == 0) = false := by simpa using h3
                have HY' : Hid (entsB xs low high = entsB (xs.drop (k + 1)) (lowAt xs low (k + 1)) high) := HY.out (by simp [entB, h1, h2, h3, h4])
                clear h3 HY HN
                go_wp2_with (first | (go_at_call 66; refine (check_any _ _ _ _ _ _ _).mono ?_; rintro e w1 ⟨rfl, hb1⟩; have hc1 := (bcells hb1).1))
                go_roundw
                case rel =>
                  go_light
                  have hs := HS.out
                  exact ⟨k + 1, by omega, by go_num, by rw [hs], by omega, HY', nextB (hb.alloc hle _) (Nat.le_refl _) hb1⟩
                case measure => simp [intOf]; omega
              · have h4' : (checkC c s xlo xhi t l == 0) = false := by simpa using h4
                have h3' : (c == 0) = false := by simpa using h3
                have HN' : Hid (entsB xs low high = false) := HN.out (by simp [entB, h4])
                clear h3 HY HN
                have h4n : (checkC c s xlo xhi t l != 0) = true := by simpa using h4
                go_wp2_with (first | (go_at_call 66; refine (check_any _ _ _ _ _ _ _).mono ?_; rintro e w1 ⟨rfl, hb1⟩; have hc1 := (bcells hb1).1))
                go_ret
                exact ⟨ret_bool HN'.out.symm, nextB (hb.alloc hle _) (Nat.le_refl _) hb1⟩
          · have HN' : Hid (entsB xs low high = false) := HN.out (by simp [entB, h2])
            clear HN HY
            go_wp2_with fail
            go_ret
            exact ⟨ret_bool HN'.out.symm, hb.alloc hle _⟩
        · have HN' : Hid (entsB xs low high = false) := HN.out (by simp [entB, h1])
          clear HN HY
          go_wp2_with fail
          go_ret
          exact ⟨ret_bool HN'.out.symm, hb.alloc hle _⟩
      · obtain rfl : k = xs.length := by omega
        go_wp2
        go_ret
        exact ⟨ret_bool (ents_end rfl HR.out).symm, hb⟩

end Go.Proofs.YtlojfgdpmaigmaeGreatDoor

/- Entries that may be (P2.1): the document's test. -/
namespace Go.Proofs.YtlojfgdpmaigmaeGreatDoor
open Go.RowKit Plain

theorem below_drewN {B : Nat} {w w' : World} (h : Below B w w') (n : Nat) : Below B w (w'.drewN n) := ⟨h.os, h.tape, h.output, h.size, h.block⟩

end Go.Proofs.YtlojfgdpmaigmaeGreatDoor

/- Where an entry of a key stands, or would stand: the search by halves. -/
namespace Go.Proofs.YtlojfgdpmaigmaeGreatDoor
open Go.RowKit Plain

theorem hideC {p : Prop} (h : p) : Hid p := h
theorem ret_ib {a b : Int} {c d : Bool} (h : a = b) (h' : c = d) : Ending.returned (.tuple #[.int .i64 a, .bool c]) = .returned (.tuple #[.int .i64 b, .bool d]) := by rw [h, h']

def cmpI (x y : Int) : Int := if x < y then -1 else if y < x then 1 else 0

theorem isNaN_any (x : Int) (w : World) : Calls Tryz.prog 126 #[.int .i64 x] w fun e w' => e = .returned (.bool false) ∧ w' = w := by
  go_enter Tryz.func126, Tryz.ntmps126
  go_wp2
  go_ret
  exact ⟨rfl, rfl⟩

set_option maxHeartbeats 400000 in
theorem compare_any (x y : Int) (w : World) : Calls Tryz.prog 110 #[.int .i64 x, .int .i64 y] w fun e w' => e = .returned (.int .i64 (cmpI x y)) ∧ w' = w := by
  rcases Int.lt_trichotomy x y with h | h | h
  · have e : cmpI x y = -1 := by simp [cmpI, h]
    have E : Hid (cmpI x y = -1) := e
    clear e
    go_enter Tryz.func110, Tryz.ntmps110
    go_wp2_with (go_at_call 126; refine (isNaN_any _ _).mono ?_; rintro e w' ⟨rfl, rfl⟩)
    go_ret
    exact ⟨ret_int E.out.symm, rfl⟩
  · subst h
    have E : Hid (cmpI x x = 0) := by show _ = _; simp [cmpI]
    have h1 : ¬ x < x := by omega
    go_enter Tryz.func110, Tryz.ntmps110
    go_wp2_with (go_at_call 126; refine (isNaN_any _ _).mono ?_; rintro e w' ⟨rfl, rfl⟩)
    go_ret
    exact ⟨ret_int E.out.symm, rfl⟩
  · have h1 : ¬ x < y := by omega
    have E : Hid (cmpI x y = 1) := by show _ = _; simp [cmpI, h, h1]
    go_enter Tryz.func110, Tryz.ntmps110
    go_wp2_with (go_at_call 126; refine (isNaN_any _ _).mono ?_; rintro e w' ⟨rfl, rfl⟩)
    go_ret
    exact ⟨ret_int E.out.symm, rfl⟩

set_option maxHeartbeats 400000 in
theorem find1_any (x : En) (k : Int) (w : World) : Calls Tryz.prog 129 #[.agg #[.int .i64 x.key, .int .i64 x.c, .int .i64 x.s, .int .i64 x.lo, .int .i64 x.hi, .int .i64 x.t, .int .i64 x.l], .int .i64 k] w
    fun e w' => e = .returned (.int .i64 (cmpI x.key k)) ∧ Below w.heap.size w w' := by
  have hcon := fun W' => compare_any x.key k W'
  generalize cmpI x.key k = r at hcon ⊢
  go_enter Tryz.func129, Tryz.ntmps129
  go_wp2_with (go_at_call 110; refine (hcon _).mono ?_; rintro e w' ⟨rfl, rfl⟩)
  go_ret
  exact ⟨rfl, (Below.refl _ _).alloc (Nat.le_refl _) _⟩

/-! ### The search, in plain terms -/

def hasK (l : List En) (k : Int) : Bool := l.any fun x => x.key == k

theorem entsB_lt {hi : Int} : ∀ {l : List En} {lo : Int}, entsB l lo hi = true → (∀ x ∈ l, lo ≤ x.key ∧ x.key < hi) ∧ l.Pairwise (fun x y => x.key < y.key)
  | [], _, _ => ⟨by simp, List.Pairwise.nil⟩
  | x :: r, lo, h => by
    simp only [entsB, Bool.and_eq_true] at h
    have h1 := h.1
    simp only [entB, Bool.and_eq_true, decide_eq_true_eq] at h1
    obtain ⟨a, b⟩ := entsB_lt h.2
    refine ⟨fun y hy => ?_, List.pairwise_cons.2 ⟨fun y hy => ?_, b⟩⟩
    · rcases List.mem_cons.1 hy with rfl | hy
      · exact ⟨h1.1.1.1, h1.1.1.2⟩
      · have := a y hy; omega
    · have := a y hy; omega

theorem lowN_is {l : List En} {k : Int} {i : Nat} (hi : i ≤ l.length) (h1 : ∀ j (h : j < l.length), j < i → l[j].key < k) (h2 : ∀ j (h : j < l.length), i ≤ j → k ≤ l[j].key) : lowN l k = i := by
  induction l generalizing i with
  | nil => simp at hi; subst hi; rfl
  | cons x r ih =>
    cases i with
    | zero =>
      have := h2 0 (by simp) (Nat.le_refl _)
      simp at this
      simp [lowN, show ¬ x.key < k by omega]
    | succ i =>
      have hx := h1 0 (by simp) (by omega)
      simp at hx
      have e : lowN (x :: r) k = lowN r k + 1 := by simp [lowN, hx]
      rw [e, ih (i := i) (by simpa using hi) (fun j hj hji => by
        have := h1 (j + 1) (by simpa using hj) (by omega)
        simpa using this) (fun j hj hij => by
        have := h2 (j + 1) (by simpa using hj) (by omega)
        simpa using this)]

theorem hasK_is {l : List En} {k : Int} (hp : l.Pairwise (fun x y => x.key < y.key)) {i : Nat} (h1 : ∀ j (h : j < l.length), j < i → l[j].key < k) : hasK l k = (if h : i < l.length then decide (l[i].key = k) else false) ∨ ¬ (∀ j (h : j < l.length), i ≤ j → k ≤ l[j].key) := by
  by_cases h2 : ∀ j (h : j < l.length), i ≤ j → k ≤ l[j].key
  · left
    rw [Bool.eq_iff_iff]
    unfold hasK
    rw [List.any_eq_true]
    constructor
    · rintro ⟨x, hx, hk⟩
      obtain ⟨j, hj, rfl⟩ := List.getElem_of_mem hx
      have hk' : l[j].key = k := by simpa using hk
      by_cases hji : j < i
      · have := h1 j hj hji; omega
      · by_cases hij : i = j
        · subst hij; simp [hj, hk']
        · have hi : i < l.length := by omega
          have a := h2 i hi (Nat.le_refl _)
          have b := List.pairwise_iff_getElem.1 hp i j hi hj (by omega)
          omega
    · intro h
      split at h
      · rename_i hi
        exact ⟨l[i], List.getElem_mem hi, by simpa using h⟩
      · cases h
  · right; exact h2

set_option maxRecDepth 20000 in
set_option maxHeartbeats 1000000 in
theorem search_any (A : Option Addr) (C : Nat) (xs : List En) (k : Int) (w : World) (h : RowAt w.heap.size w A (flatE xs)) (hz : xs.length * 56 ≤ 140737488351232) (hp : xs.Pairwise (fun x y => x.key < y.key)) :
    Calls Tryz.prog 128 #[.slice A xs.length C, .int .i64 k, .func (.func 129) #[] #[]] w
      fun e w' => e = .returned (.tuple #[.int .i64 (lowN xs k : Int), .bool (hasK xs k)]) ∧ Below w.heap.size w w' := by
  go_enter Tryz.func128, Tryz.ntmps128
  go_wp2_with fail
  go_loopw [9, 10] (fun vi vj wr => ∃ i j : Nat, i ≤ j ∧ j ≤ xs.length ∧ vi = .int .i64 i ∧ vj = .int .i64 j ∧ Hid ((∀ a (h : a < xs.length), a < i → xs[a].key < k) ∧ (∀ a (h : a < xs.length), j ≤ a → k ≤ xs[a].key)) ∧ Below w.heap.size w wr) (fun vi vj _ => (intOf vj).toNat - (intOf vi).toNat)
  case atStart => exact ⟨0, xs.length, Nat.zero_le _, Nat.le_refl _, rfl, rfl, ⟨fun a _ h => by omega, fun a h1 h2 => by omega⟩, Below.refl _ _⟩
  case round =>
    obtain ⟨i, j, hij, hjn, rfl, rfl, hI, hb⟩ := hrel
    by_cases hlt : i < j
    · obtain ⟨m, hm⟩ : ∃ m : Nat, m = (i + j) / 2 := ⟨_, rfl⟩
      have hmj : m < j := by omega
      have hmi : i ≤ m := by omega
      have hm2 : ((i : Int) + (j : Int)) / 2 = (m : Int) := by omega
      have HM : Hid (m = (i + j) / 2) := hm
      clear hm
      obtain ⟨b, o, rfl, hbl, hat⟩ := (h.below hb (Nat.le_refl _)).en (show m < xs.length by omega)
      have hbw : b < wr.heap.size := Nat.lt_of_lt_of_le hbl hb.size
      obtain ⟨x, hx⟩ : ∃ x, xs[m]'(by omega) = x := ⟨_, rfl⟩
      rw [hx] at hat
      obtain ⟨c0, c1, c2, c3, c4, c5, c6⟩ := hat
      have hcon := fun W => find1_any x k W
      have HX : Hid (xs[m]'(by omega) = x) := hx
      clear hx
      by_cases hk : x.key < k
      · have hr : cmpI x.key k < 0 := by unfold cmpI; rw [if_pos hk]; decide
        generalize cmpI x.key k = r at hcon hr
        have HC : Hid _ := hcon
        clear hcon
        go_wp2_with (go_at_call 129; refine (HC.out _).mono ?_; rintro e w1 ⟨rfl, hb1⟩)
        go_roundw
        case rel =>
          refine ⟨m + 1, j, by omega, hjn, by go_num, rfl, ⟨fun a ha hai => ?_, hI.out.2⟩, up hb hb1⟩
          have hxm := HX.out
          by_cases e : a = m
          · subst e; rw [hxm]; exact hk
          · have := List.pairwise_iff_getElem.1 hp a m ha (by omega) (by omega)
            rw [hxm] at this
            omega
        case measure => simp [intOf]; omega
      · have hr : ¬ cmpI x.key k < 0 := by unfold cmpI; rw [if_neg hk]; split <;> decide
        generalize cmpI x.key k = r at hcon hr
        have HC : Hid _ := hcon
        clear hcon
        go_wp2_with (go_at_call 129; refine (HC.out _).mono ?_; rintro e w1 ⟨rfl, hb1⟩)
        go_roundw
        case rel =>
          refine ⟨i, m, by omega, by omega, rfl, by go_num, ⟨hI.out.1, fun a ha hai => ?_⟩, up hb hb1⟩
          have hxm := HX.out
          by_cases e : a = m
          · subst e; rw [hxm]; omega
          · have := List.pairwise_iff_getElem.1 hp m a (by omega) ha (by omega)
            rw [hxm] at this
            omega
        case measure => simp [intOf]; omega
    · obtain rfl : i = j := by omega
      have E1 : Hid (lowN xs k = i) := lowN_is hjn hI.out.1 hI.out.2
      have E2 : Hid (hasK xs k = (if h : i < xs.length then decide (xs[i].key = k) else false)) := by
        rcases hasK_is hp hI.out.1 with e | e
        · exact e
        · exact absurd hI.out.2 e
      by_cases hin : i < xs.length
      · obtain ⟨b, o, rfl, hbl, hat⟩ := (h.below hb (Nat.le_refl _)).en hin
        have hbw : b < wr.heap.size := Nat.lt_of_lt_of_le hbl hb.size
        obtain ⟨x, hx⟩ : ∃ x, xs[i] = x := ⟨_, rfl⟩
        rw [hx] at hat
        obtain ⟨c0, c1, c2, c3, c4, c5, c6⟩ := hat
        have hcon := fun W => find1_any x k W
        have E3 : Hid (hasK xs k = decide (x.key = k)) := by
          show _ = _
          rw [E2.out, dif_pos hin, hx]
        clear hx E2
        have hr : (cmpI x.key k == 0) = decide (x.key = k) := by
          rw [Bool.eq_iff_iff, decide_eq_true_eq, beq_iff_eq]
          unfold cmpI
          split
          · omega
          · split <;> omega
        generalize cmpI x.key k = r at hcon hr
        generalize decide (x.key = k) = q at hr E3
        have HC : Hid _ := hcon
        clear hcon
        go_wp2_with (go_at_call 129; refine (HC.out _).mono ?_; rintro e w1 ⟨rfl, hb1⟩)
        go_ret2
        exact ⟨ret_ib (by rw [E1.out]) E3.out.symm, up hb hb1⟩
      · have hin' : ¬ ((i : Int) < (xs.length : Int)) := by omega
        go_wp2_with fail
        go_ret2
        exact ⟨ret_ib (by rw [E1.out]) (by rw [E2.out, dif_neg hin]), hb⟩

set_option maxHeartbeats 400000 in
theorem find_any (A : Option Addr) (C : Nat) (xs : List En) (k : Int) (w : World) (h : RowAt w.heap.size w A (flatE xs)) (hz : xs.length * 56 ≤ 140737488351232) (hp : xs.Pairwise (fun x y => x.key < y.key)) :
    Calls Tryz.prog 113 #[.slice A xs.length C, .int .i64 k] w fun e w' => e = .returned (.tuple #[.int .i64 (lowN xs k : Int), .bool (hasK xs k)]) ∧ Below w.heap.size w w' := by
  have hcon := search_any A C xs k w h hz hp
  generalize lowN xs k = r at hcon ⊢
  generalize hasK xs k = q at hcon ⊢
  have HC := hideC hcon
  clear hcon
  go_enter Tryz.func113, Tryz.ntmps113
  go_wp2_with (go_at_call 128; refine HC.out.mono ?_; rintro e w1 ⟨rfl, hb1⟩)
  go_ret2
  exact ⟨rfl, hb1⟩

end Go.Proofs.YtlojfgdpmaigmaeGreatDoor

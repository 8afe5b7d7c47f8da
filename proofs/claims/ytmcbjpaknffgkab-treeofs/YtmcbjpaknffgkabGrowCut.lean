/- A node that holds too much, cut into parts. -/
import Derived.Test.YtmcbjpaknffgkabGrowSub
namespace Go.Proofs.Ytmcbjpaknffgkab
open Go.RowKit Plain

def waitA (x : Nd) (kid : Nat) : Nat := if kid = 0 then 0 else if kid = x.kids.length then x.buf.length else lowN x.buf (x.keys.getD (kid - 1) 0)
def partN (x : Nd) (a b : Nat) : Nd :=
  if x.leaf = true then ⟨true, (x.ents.drop a).take (b - a), [], [], []⟩
  else ⟨false, [], (x.keys.drop a).take (b - 1 - a), (x.kids.drop a).take (b - a), (x.buf.drop (waitA x a)).take (waitA x b - waitA x a)⟩
def firstK (x : Nd) (a : Nat) : Int := if x.leaf = true then (x.ents.getD a default).key else x.keys.getD (a - 1) 0

def partsL (x : Nd) : Nat → List Nat → List Nd
  | _, [] => []
  | a, b :: bs => partN x a b :: partsL x b bs
def keysL (x : Nd) : List Nat → List Int
  | [] => []
  | [_] => []
  | b :: c :: bs => firstK x b :: keysL x (c :: bs)

def CutsOk (mn mx size : Nat) : Nat → List Nat → Prop
  | a, [] => a = size
  | a, b :: bs => a + mn ≤ b ∧ b ≤ a + mx ∧ CutsOk mn mx size b bs

theorem CutsOk.le {mn mx size : Nat} : ∀ {bs : List Nat} {a : Nat}, CutsOk mn mx size a bs → a ≤ size
  | [], a, h => by rw [show a = size from h]; exact Nat.le_refl _
  | b :: bs, a, h => by have := CutsOk.le h.2.2; have := h.1; omega

def cont (x : Nd) : List En := x.buf ++ x.ents

def PcsOk (g : Nd → Int → Int → List Int → Prop) (hi : Int) : Int → List Nd → List Int → List (List Int) → Prop
  | _, [], _, _ => False
  | lo, [x], ks, Qs => ks = [] ∧ ∃ Q, Qs = [Q] ∧ lo < hi ∧ g x lo hi Q
  | lo, x :: y :: xs, ks, Qs => ∃ k ks' Q Qs', ks = k :: ks' ∧ Qs = Q :: Qs' ∧ lo < k ∧ g x lo k Q ∧ PcsOk g hi k (y :: xs) ks' Qs'

/-! ### A leaf -/

theorem cut_leaf {x : Nd} {hi : Int} (hl : x.leaf = true) : ∀ (bs : List Nat) (a : Nat) (lo : Int), a < x.ents.length → CutsOk 1 6 x.ents.length a bs → entsB (x.ents.drop a) lo hi = true → lo < hi →
    PcsOk (fun x lo hi Q => LeafOk 6 x lo hi ∧ Q = []) hi lo (partsL x a bs) (keysL x bs) (bs.map fun _ => []) ∧ (partsL x a bs).flatMap cont = x.ents.drop a
  | [], a, lo, ha, hc, _, _ => by exact absurd hc (by show ¬ a = x.ents.length; omega)
  | [b], a, lo, ha, hc, he, hlh => by
    obtain ⟨h1, h2, h3⟩ := hc
    have hb : b = x.ents.length := h3
    subst hb
    refine ⟨⟨rfl, [], rfl, hlh, ?_, rfl⟩, ?_⟩
    all_goals have e : (x.ents.drop a).take (x.ents.length - a) = x.ents.drop a := List.take_of_length_le (by simp)
    · simp only [partN, hl, if_true, e]
      exact ⟨rfl, rfl, rfl, rfl, by simp; omega, by simp; omega, he⟩
    · simp [partsL, partN, hl, e, cont]
  | b :: c :: bs, a, lo, ha, hc, he, hlh => by
    obtain ⟨h1, h2, h3⟩ := hc
    have hbl : b < x.ents.length := by have := h3.1; have := h3.2.2.le; omega
    have e : x.ents.drop a = (x.ents.drop a).take (b - a) ++ x.ents.drop b := by
      have := List.take_append_drop (b - a) (x.ents.drop a)
      rw [List.drop_drop, show a + (b - a) = b by omega] at this
      exact this.symm
    have hd : (x.ents.drop b).head? = some x.ents[b] := by rw [List.drop_eq_getElem_cons hbl]; rfl
    rw [e] at he
    obtain ⟨p1, p2, p3, p4⟩ := entsB_append he x.ents[b] (by rw [hd]; rfl)
    have hfk : firstK x b = x.ents[b].key := by simp [firstK, hl, hbl]
    have hne : (x.ents.drop a).take (b - a) ≠ [] := by
      intro e'
      have := congrArg List.length e'
      simp at this
      omega
    have hlast : x.ents[b].key < hi := by
      rw [List.drop_eq_getElem_cons hbl] at p2
      simp only [entsB, entB, Bool.and_eq_true, decide_eq_true_eq] at p2
      exact p2.1.1.1.2
    have ih := cut_leaf hl (c :: bs) b _ hbl h3 p2 hlast
    refine ⟨⟨firstK x b, keysL x (c :: bs), [], (c :: bs).map fun _ => [], rfl, rfl, by rw [hfk]; exact p3 hne, ⟨?_, rfl⟩, ?_⟩, ?_⟩
    · rw [hfk]
      simp only [partN, hl, if_true]
      exact ⟨rfl, rfl, rfl, rfl, hne, by simp; omega, p1⟩
    · rw [hfk]
      exact ih.1
    · show (partN x a b :: partsL x b (c :: bs)).flatMap cont = _
      rw [List.flatMap_cons, ih.2, e]
      simp [partN, hl, cont]

/-! ### Any other node -/

theorem drop_zip' {α β : Type} : ∀ (n : Nat) (l : List α) (m : List β), (l.zip m).drop n = (l.drop n).zip (m.drop n)
  | 0, _, _ => rfl
  | _ + 1, [], _ => by simp
  | _ + 1, _ :: _, [] => by simp
  | n + 1, _ :: l, _ :: m => by simpa using drop_zip' n l m
theorem take_zip' {α β : Type} : ∀ (n : Nat) (l : List α) (m : List β), (l.zip m).take n = (l.take n).zip (m.take n)
  | 0, _, _ => rfl
  | _ + 1, [], _ => by simp
  | _ + 1, _ :: _, [] => by simp
  | n + 1, _ :: l, _ :: m => by simpa using take_zip' n l m

theorem ups_drop (kids keys : List Int) (hi : Int) (a : Nat) : (ups kids keys hi).drop a = (kids.drop a).zip ((keys ++ [hi]).drop a) := by
  unfold ups
  exact drop_zip' _ _ _

theorem ups_get {kids keys : List Int} {hi : Int} (hk : keys.length + 1 = kids.length) {i : Nat} (h : i < kids.length) : (ups kids keys hi)[i]? = some (kids[i], (keys ++ [hi])[i]'(by simp; omega)) := by
  unfold ups
  rw [List.getElem?_zip_eq_some]
  exact ⟨by simp [h], by simp⟩

theorem ups_part {kids keys : List Int} {hi : Int} (hk : keys.length + 1 = kids.length) {a b : Nat} (hab : a < b) (hb : b ≤ keys.length) :
    ups ((kids.drop a).take (b - a)) ((keys.drop a).take (b - 1 - a)) (keys.getD (b - 1) 0) = ((ups kids keys hi).drop a).take (b - a) := by
  rw [ups_drop, take_zip']
  unfold ups
  congr 1
  have hlt : b - 1 < keys.length := by omega
  have hg : keys.getD (b - 1) 0 = keys[b - 1] := by simp [hlt]
  rw [hg, List.drop_append_of_le_length (by omega), List.take_append_of_le_length (by simp; omega)]
  have e : b - a = (b - 1 - a) + 1 := by omega
  rw [e, List.take_succ_eq_append_getElem (by simp; omega), List.getElem_drop]
  congr 3
  omega

theorem endU_take {kids keys : List Int} {hi lo : Int} (hk : keys.length + 1 = kids.length) {a b : Nat} (hab : a < b) (hb : b ≤ keys.length) : endU lo (((ups kids keys hi).drop a).take (b - a)) = keys.getD (b - 1) 0 := by
  have hl : (ups kids keys hi).length = kids.length := by simp [ups]; omega
  have e : b - a = (b - 1 - a) + 1 := by omega
  have hlt : b - 1 - a < ((ups kids keys hi).drop a).length := by simp [hl]; omega
  rw [e, List.take_succ_eq_append_getElem hlt]
  have hg := ups_get (hi := hi) hk (show b - 1 < kids.length by omega)
  have h2 : ((ups kids keys hi).drop a)[b - 1 - a]'hlt = (kids[b - 1]'(by omega), keys[b - 1]'(by omega)) := by
    have h3 : ((ups kids keys hi).drop a)[b - 1 - a]? = some (kids[b - 1]'(by omega), keys[b - 1]'(by omega)) := by
      rw [List.getElem?_drop, show a + (b - 1 - a) = b - 1 by omega, hg, List.getElem_append_left (show b - 1 < keys.length by omega)]
    exact (List.getElem?_eq_some_iff.1 h3).2
  rw [h2, endU_last]
  simp [show b - 1 < keys.length by omega]

theorem ups_nil (d hi : Int) : ups [d] [] hi = [(d, hi)] := rfl
theorem ups_cons (d k : Int) (ds ks : List Int) (hi : Int) : ups (d :: ds) (k :: ks) hi = (d, k) :: ups ds ks hi := rfl

theorem endU_ups {hi : Int} : ∀ {kids keys : List Int} {lo : Int}, keys.length + 1 = kids.length → endU lo (ups kids keys hi) = hi
  | [], _, _, h => by simp at h
  | [d], keys, lo, h => by
    obtain rfl : keys = [] := List.eq_nil_of_length_eq_zero (by simpa using h)
    rfl
  | d :: e :: ds, keys, lo, h => by
    cases keys with
    | nil => simp at h
    | cons k ks =>
      rw [ups_cons]
      exact endU_ups (kids := e :: ds) (by simpa using h)

theorem ups_tail {kids keys : List Int} {hi : Int} {a : Nat} (ha : a ≤ keys.length) : (ups kids keys hi).drop a = ups (kids.drop a) (keys.drop a) hi := by
  rw [ups_drop, List.drop_append_of_le_length ha]
  rfl

theorem cut_inner {x : Nd} {hi : Int} {g : Rel} (hg : ∀ d lo hi Q, g d lo hi Q → lo < hi) (hl : x.leaf = false) (hk : x.keys.length + 1 = x.kids.length) (hf : x.buf.length ≤ 8) :
    ∀ (bs : List Nat) (a : Nat) (lo : Int) (Q : List Int), a < x.kids.length → CutsOk 2 4 x.kids.length a bs → SubK g lo ((ups x.kids x.keys hi).drop a) Q → entsB (x.buf.drop (waitA x a)) lo hi = true → (a = 0 ∨ waitA x a = lowN x.buf lo) →
    (∃ Qs : List (List Int), Q = Qs.flatten ∧ PcsOk (InnOk 4 g) hi lo (partsL x a bs) (keysL x bs) Qs) ∧ (partsL x a bs).flatMap cont = x.buf.drop (waitA x a)
  | [], a, lo, Q, ha, hc, _, _, _ => by exact absurd hc (by show ¬ a = x.kids.length; omega)
  | [b], a, lo, Q, ha, hc, hs, he, _ => by
    obtain ⟨h1, h2, h3⟩ := hc
    have hb : b = x.kids.length := h3
    subst hb
    rw [ups_tail (by omega)] at hs
    have hlh : lo < hi := by
      have := (SubK_lt hg hs).2 (by
        intro e
        have := congrArg List.length e
        simp [ups] at this
        omega)
      rwa [endU_ups (by simp; omega)] at this
    have hw : waitA x x.kids.length = x.buf.length := by unfold waitA; rw [if_neg (by omega), if_pos rfl]
    have e1 : (x.keys.drop a).take (x.kids.length - 1 - a) = x.keys.drop a := List.take_of_length_le (by simp; omega)
    have e2 : (x.kids.drop a).take (x.kids.length - a) = x.kids.drop a := List.take_of_length_le (by simp)
    have e3 : (x.buf.drop (waitA x a)).take (x.buf.length - waitA x a) = x.buf.drop (waitA x a) := List.take_of_length_le (by simp)
    have ep : partN x a x.kids.length = ⟨false, [], x.keys.drop a, x.kids.drop a, x.buf.drop (waitA x a)⟩ := by simp only [partN, hl, Bool.false_eq_true, if_false, hw, e1, e2, e3]
    refine ⟨⟨[Q], by simp, rfl, Q, rfl, hlh, ?_⟩, ?_⟩
    · rw [ep]
      exact ⟨rfl, rfl, by simp; omega, by simp; omega, by simp; omega, by simp; omega, he, hs⟩
    · simp [partsL, ep, cont]
  | b :: c :: bs, a, lo, Q, ha, hc, hs, he, hw => by
    obtain ⟨h1, h2, h3⟩ := hc
    have hbl : b < x.kids.length := by have := h3.1; have := h3.2.2.le; omega
    have e : (ups x.kids x.keys hi).drop a = ((ups x.kids x.keys hi).drop a).take (b - a) ++ (ups x.kids x.keys hi).drop b := by
      have := List.take_append_drop (b - a) ((ups x.kids x.keys hi).drop a)
      rw [List.drop_drop, show a + (b - a) = b by omega] at this
      exact this.symm
    rw [e] at hs
    obtain ⟨QA, QB, rfl, hA, hB⟩ := SubK_append.1 hs
    have hne : ((ups x.kids x.keys hi).drop a).take (b - a) ≠ [] := by
      intro e'
      have := congrArg List.length e'
      simp [ups] at this
      omega
    have hlt := (SubK_lt hg hA).2 hne
    rw [endU_take hk (by omega) (by omega)] at hB hlt
    have hfk : firstK x b = x.keys.getD (b - 1) 0 := by simp [firstK, hl]
    have hwb : waitA x b = lowN x.buf (x.keys.getD (b - 1) 0) := by
      unfold waitA
      rw [if_neg (by omega), if_neg (by omega)]
    have hsum : waitA x b = waitA x a + lowN (x.buf.drop (waitA x a)) (x.keys.getD (b - 1) 0) := by
      rw [hwb]
      rcases hw with rfl | hw
      · simp [waitA]
      · rw [hw]; exact lowN_drop (by omega) _
    obtain ⟨p1, p2⟩ := entsB_lowN (k := x.keys.getD (b - 1) 0) he (by omega)
    rw [List.drop_drop, ← hsum] at p2
    obtain ⟨⟨Qs, hQs, hP⟩, hC⟩ := cut_inner hg hl hk hf (c :: bs) b (x.keys.getD (b - 1) 0) QB hbl h3 hB p2 (.inr hwb)
    refine ⟨⟨QA :: Qs, by rw [hQs]; rfl, firstK x b, keysL x (c :: bs), QA, Qs, rfl, rfl, by rw [hfk]; exact hlt, ?_, by rw [hfk]; exact hP⟩, ?_⟩
    · rw [hfk]
      simp only [partN, hl, Bool.false_eq_true, if_false]
      rw [← ups_part hk (by omega) (by omega)] at hA
      exact ⟨rfl, rfl, by simp; omega, by simp; omega, by simp; omega, by simp; omega, by rw [hsum, Nat.add_sub_cancel_left]; exact p1, hA⟩
    · show (partN x a b :: partsL x b (c :: bs)).flatMap cont = _
      rw [List.flatMap_cons, hC]
      simp only [partN, hl, Bool.false_eq_true, if_false, cont, List.append_nil]
      rw [hsum, Nat.add_sub_cancel_left, ← List.drop_drop, List.take_append_drop]

/-! ### Where the parts begin -/

def beg (size parts i : Nat) : Nat := (size * i + parts - 1) / parts

theorem beg_bounds (s q i : Nat) (hq : 1 ≤ q) : q * beg s q i ≤ s * i + q - 1 ∧ s * i + q - 1 < q * beg s q i + q := by
  unfold beg
  have h1 := Nat.div_add_mod (s * i + q - 1) q
  have h2 := Nat.mod_lt (s * i + q - 1) (show 0 < q by omega)
  omega

theorem beg_zero (s q : Nat) (hq : 1 ≤ q) : beg s q 0 = 0 := by
  unfold beg
  rw [Nat.mul_zero, Nat.zero_add]
  exact Nat.div_eq_of_lt (by omega)

theorem beg_last (s q : Nat) (hq : 1 ≤ q) : beg s q q = s := by
  have h := beg_bounds s q q hq
  rw [Nat.mul_comm s q] at h
  have h1 : ¬ beg s q q < s := fun e => by
    have := Nat.mul_le_mul_left q (show beg s q q + 1 ≤ s by omega)
    rw [Nat.mul_add] at this
    omega
  have h2 : ¬ s < beg s q q := fun e => by
    have := Nat.mul_le_mul_left q (show s + 1 ≤ beg s q q by omega)
    rw [Nat.mul_add] at this
    omega
  omega

/-- Each part has at most m, and at least mn. -/
theorem beg_next (s q i m mn : Nat) (hq : 1 ≤ q) (hm : s ≤ q * m) (hmn : q * mn ≤ s) : beg s q i + mn ≤ beg s q (i + 1) ∧ beg s q (i + 1) ≤ beg s q i + m := by
  have h1 := beg_bounds s q i hq
  have h2 := beg_bounds s q (i + 1) hq
  rw [Nat.mul_add s i 1, Nat.mul_one] at h2
  constructor
  · apply Nat.le_of_not_lt
    intro e
    have := Nat.mul_le_mul_left q (show beg s q (i + 1) + 1 ≤ beg s q i + mn by omega)
    rw [Nat.mul_add, Nat.mul_add] at this
    omega
  · apply Nat.le_of_not_lt
    intro e
    have := Nat.mul_le_mul_left q (show beg s q i + m + 1 ≤ beg s q (i + 1) by omega)
    rw [Nat.mul_add, Nat.mul_add] at this
    omega

end Go.Proofs.Ytmcbjpaknffgkab

/- Trees in parts: a node and what is below it, with the places that it takes. -/
import Derived.Test.YtmcbjpaknffgkabTreeW2
namespace Go.Proofs.Ytmcbjpaknffgkab
open Go.RowKit Plain

abbrev Rel := Int → Int → Int → List Int → Prop

/-- Kids, each with the end of its keys. -/
def ups (kids keys : List Int) (hi : Int) : List (Int × Int) := kids.zip (keys ++ [hi])

def SubK (g : Rel) : Int → List (Int × Int) → List Int → Prop
  | _, [], Q => Q = []
  | lo, (d, u) :: r, Q => ∃ Q1 Q2, Q = Q1 ++ Q2 ∧ g d lo u Q1 ∧ SubK g u r Q2

def endU : Int → List (Int × Int) → Int
  | lo, [] => lo
  | _, (_, u) :: r => endU u r

theorem SubK_append {g : Rel} : ∀ {A B : List (Int × Int)} {lo : Int} {Q : List Int}, SubK g lo (A ++ B) Q ↔ ∃ QA QB, Q = QA ++ QB ∧ SubK g lo A QA ∧ SubK g (endU lo A) B QB
  | [], B, lo, Q => by
    constructor
    · intro h; exact ⟨[], Q, rfl, rfl, h⟩
    · rintro ⟨QA, QB, rfl, h1, h2⟩
      cases h1
      exact h2
  | (d, u) :: A, B, lo, Q => by
    constructor
    · rintro ⟨Q1, Q2, rfl, h1, h2⟩
      obtain ⟨QA, QB, rfl, h3, h4⟩ := SubK_append.1 h2
      exact ⟨Q1 ++ QA, QB, by rw [List.append_assoc], ⟨Q1, QA, rfl, h1, h3⟩, h4⟩
    · rintro ⟨QA, QB, rfl, ⟨Q1, Q2, rfl, h1, h2⟩, h3⟩
      exact ⟨Q1, Q2 ++ QB, by rw [List.append_assoc], h1, SubK_append.2 ⟨Q2, QB, rfl, h2, h3⟩⟩

theorem endU_append : ∀ (A B : List (Int × Int)) (lo : Int), endU lo (A ++ B) = endU (endU lo A) B
  | [], _, _ => rfl
  | (_, u) :: A, B, _ => endU_append A B u

theorem endU_last (A : List (Int × Int)) (d u lo : Int) : endU lo (A ++ [(d, u)]) = u := by rw [endU_append]; rfl

theorem SubK_imp {g g' : Rel} : ∀ {L : List (Int × Int)} {lo : Int} {Q : List Int}, SubK g lo L Q → (∀ d lo hi Q1, g d lo hi Q1 → (∀ n ∈ Q1, n ∈ Q) → g' d lo hi Q1) → SubK g' lo L Q
  | [], _, _, h, _ => h
  | (d, u) :: r, lo, Q, h, hg => by
    obtain ⟨Q1, Q2, rfl, h1, h2⟩ := h
    exact ⟨Q1, Q2, rfl, hg _ _ _ _ h1 (fun n hn => List.mem_append_left _ hn), SubK_imp h2 (fun d lo hi Q1 a b => hg d lo hi Q1 a (fun n hn => List.mem_append_right _ (b n hn)))⟩

theorem SubK_lt {g : Rel} (hg : ∀ d lo hi Q, g d lo hi Q → lo < hi) : ∀ {L : List (Int × Int)} {lo : Int} {Q : List Int}, SubK g lo L Q → lo ≤ endU lo L ∧ (L ≠ [] → lo < endU lo L)
  | [], _, _, _ => ⟨Int.le_refl _, fun h => absurd rfl h⟩
  | (d, u) :: r, lo, Q, h => by
    obtain ⟨Q1, Q2, rfl, h1, h2⟩ := h
    have a := hg _ _ _ _ h1
    have b := (SubK_lt hg h2).1
    exact ⟨by show lo ≤ endU u r; omega, fun _ => by show lo < endU u r; omega⟩

structure LeafOk (m : Nat) (x : Nd) (lo hi : Int) : Prop where
  leaf : x.leaf = true
  keys : x.keys = []
  kids : x.kids = []
  buf : x.buf = []
  ne : x.ents ≠ []
  most : x.ents.length ≤ m
  ents : entsB x.ents lo hi = true

structure InnOk (m : Nat) (g : Rel) (x : Nd) (lo hi : Int) (Q : List Int) : Prop where
  leaf : x.leaf = false
  ents : x.ents = []
  two : 2 ≤ x.kids.length
  most : x.kids.length ≤ m
  keys : x.keys.length + 1 = x.kids.length
  few : x.buf.length ≤ 8
  buf : entsB x.buf lo hi = true
  kids : SubK g lo (ups x.kids x.keys hi) Q

def nth (ns : List Nd) (n : Int) : Nd := ns.getD n.toNat default

/-- What a node, h above the leaves, is, with the keys from lo to below hi; it and all below it stand at the places P. -/
def Sub (mL mK : Nat) (ns : List Nd) : Nat → Rel
  | 0, n, lo, hi, P => (0 ≤ n ∧ n < ns.length ∧ lo < hi) ∧ P = [n] ∧ LeafOk mL (nth ns n) lo hi
  | h + 1, n, lo, hi, P => (0 ≤ n ∧ n < ns.length ∧ lo < hi) ∧ ∃ Q, P = n :: Q ∧ InnOk mK (Sub mL mK ns h) (nth ns n) lo hi Q

/-- The same; the node itself may hold more. -/
def Top (mL mK : Nat) (ns : List Nd) : Nat → Rel
  | 0, n, lo, hi, P => (0 ≤ n ∧ n < ns.length ∧ lo < hi) ∧ P = [n] ∧ LeafOk mL (nth ns n) lo hi
  | h + 1, n, lo, hi, P => (0 ≤ n ∧ n < ns.length ∧ lo < hi) ∧ ∃ Q, P = n :: Q ∧ InnOk mK (Sub 6 4 ns h) (nth ns n) lo hi Q

theorem Sub_lt {mL mK : Nat} {ns : List Nd} : ∀ (h : Nat) (d lo hi : Int) (Q : List Int), Sub mL mK ns h d lo hi Q → lo < hi
  | 0, _, _, _, _, h => h.1.2.2
  | _ + 1, _, _, _, _, h => h.1.2.2

theorem Sub_range {mL mK : Nat} {ns : List Nd} : ∀ (h : Nat) (d lo hi : Int) (P : List Int), Sub mL mK ns h d lo hi P → ∀ n ∈ P, 0 ≤ n ∧ n < ns.length
  | 0, d, lo, hi, P, h => by
    obtain ⟨hr, rfl, _⟩ := h
    intro n hn
    obtain rfl : n = d := by simpa using hn
    exact ⟨hr.1, hr.2.1⟩
  | h + 1, d, lo, hi, P, hs => by
    obtain ⟨hr, Q, rfl, hi⟩ := hs
    intro n hn
    rcases List.mem_cons.1 hn with rfl | hn
    · exact ⟨hr.1, hr.2.1⟩
    · have ih := Sub_range (mL := mL) (mK := mK) (ns := ns) h
      have : ∀ (L : List (Int × Int)) (lo : Int) (Q : List Int), SubK (Sub mL mK ns h) lo L Q → ∀ n ∈ Q, 0 ≤ n ∧ n < ns.length := by
        intro L
        induction L with
        | nil => intro lo Q hQ n hn; cases hQ; simp at hn
        | cons p r ihr =>
          obtain ⟨d, u⟩ := p
          rintro lo Q ⟨Q1, Q2, rfl, h1, h2⟩ n hn
          rcases List.mem_append.1 hn with hn | hn
          · exact ih _ _ _ _ h1 n hn
          · exact ihr _ _ h2 n hn
      exact this _ _ _ hi.kids n hn

theorem SubK_range {mL mK : Nat} {ns : List Nd} {h : Nat} : ∀ {L : List (Int × Int)} {lo : Int} {Q : List Int}, SubK (Sub mL mK ns h) lo L Q → ∀ n ∈ Q, 0 ≤ n ∧ n < ns.length
  | [], _, _, hQ => by cases hQ; simp
  | (d, u) :: r, lo, Q, hQ => by
    obtain ⟨Q1, Q2, rfl, h1, h2⟩ := hQ
    intro n hn
    rcases List.mem_append.1 hn with hn | hn
    · exact Sub_range h _ _ _ _ h1 n hn
    · exact SubK_range h2 n hn

theorem InnOk.imp {m : Nat} {g g' : Rel} {x : Nd} {lo hi : Int} {Q : List Int} (h : InnOk m g x lo hi Q) (hg : ∀ d lo hi Q1, g d lo hi Q1 → (∀ n ∈ Q1, n ∈ Q) → g' d lo hi Q1) : InnOk m g' x lo hi Q :=
  ⟨h.leaf, h.ents, h.two, h.most, h.keys, h.few, h.buf, SubK_imp h.kids hg⟩

/-- Only the nodes at its places tell. -/
theorem Sub_congr {mL mK : Nat} {ns ns' : List Nd} : ∀ (h : Nat) (d lo hi : Int) (P : List Int), Sub mL mK ns h d lo hi P → (∀ n ∈ P, nth ns' n = nth ns n ∧ n < ns'.length) → Sub mL mK ns' h d lo hi P
  | 0, d, lo, hi, P, h, hc => by
    obtain ⟨hr, rfl, hl⟩ := h
    obtain ⟨e, hlt⟩ := hc d (by simp)
    exact ⟨⟨hr.1, hlt, hr.2.2⟩, rfl, by rw [e]; exact hl⟩
  | h + 1, d, lo, hi, P, hs, hc => by
    obtain ⟨hr, Q, rfl, hin⟩ := hs
    obtain ⟨e, hlt⟩ := hc d (by simp)
    refine ⟨⟨hr.1, hlt, hr.2.2⟩, Q, rfl, ?_⟩
    rw [e]
    exact hin.imp fun d lo hi Q1 a b => Sub_congr h d lo hi Q1 a fun n hn => hc n (List.mem_cons_of_mem _ (b n hn))

theorem LeafOk.mono {m m' : Nat} {x : Nd} {lo hi : Int} (h : LeafOk m x lo hi) (hm : m ≤ m') : LeafOk m' x lo hi :=
  ⟨h.leaf, h.keys, h.kids, h.buf, h.ne, Nat.le_trans h.most hm, h.ents⟩
theorem InnOk.mono {m m' : Nat} {g : Rel} {x : Nd} {lo hi : Int} {Q : List Int} (h : InnOk m g x lo hi Q) (hm : m ≤ m') : InnOk m' g x lo hi Q :=
  ⟨h.leaf, h.ents, h.two, Nat.le_trans h.most hm, h.keys, h.few, h.buf, h.kids⟩

/-! ### Lists of entries, cut -/

theorem entsB_append {hi : Int} : ∀ {A B : List En} {lo : Int}, entsB (A ++ B) lo hi = true → ∀ y ∈ B.head?, entsB A lo y.key = true ∧ entsB B y.key hi = true ∧ (A ≠ [] → lo < y.key) ∧ lo ≤ y.key
  | [], B, lo, h, y, hy => by
    cases B with
    | nil => simp at hy
    | cons z r =>
      simp at hy
      subst hy
      simp only [List.nil_append, entsB, Bool.and_eq_true] at h
      have hl : lo ≤ z.key := by have := h.1; simp only [entB, Bool.and_eq_true, decide_eq_true_eq] at this; exact this.1.1.1
      refine ⟨rfl, ?_, fun e => absurd rfl e, hl⟩
      simp only [entsB, Bool.and_eq_true]
      refine ⟨?_, h.2⟩
      have := h.1
      simp only [entB, Bool.and_eq_true, decide_eq_true_eq] at this ⊢
      exact ⟨⟨⟨Int.le_refl _, this.1.1.2⟩, this.1.2⟩, this.2⟩
  | x :: A, B, lo, h, y, hy => by
    simp only [List.cons_append, entsB, Bool.and_eq_true] at h
    obtain ⟨a, b, c, d⟩ := entsB_append h.2 y hy
    have h1 := h.1
    simp only [entB, Bool.and_eq_true, decide_eq_true_eq] at h1
    refine ⟨?_, b, fun _ => by omega, by omega⟩
    simp only [entsB, Bool.and_eq_true]
    refine ⟨?_, a⟩
    simp only [entB, Bool.and_eq_true, decide_eq_true_eq]
    exact ⟨⟨⟨h1.1.1.1, by omega⟩, h1.1.2⟩, h1.2⟩

/-- How many stand ahead of a key. -/
def lowN (l : List En) (k : Int) : Nat := (l.takeWhile fun x => decide (x.key < k)).length

theorem lowN_le (l : List En) (k : Int) : lowN l k ≤ l.length := by
  unfold lowN
  exact (List.takeWhile_sublist _).length_le

theorem takeWhile_take (l : List En) (k : Int) : l.take (lowN l k) = l.takeWhile fun x => decide (x.key < k) := by
  unfold lowN
  induction l with
  | nil => rfl
  | cons x r ih =>
    simp only [List.takeWhile_cons]
    split
    · simp [ih]
    · rfl

theorem entsB_lowN {hi k : Int} : ∀ {l : List En} {lo : Int}, entsB l lo hi = true → lo ≤ k → entsB (l.take (lowN l k)) lo k = true ∧ entsB (l.drop (lowN l k)) k hi = true
  | [], lo, h, _ => by simp [lowN, entsB]
  | x :: r, lo, h, hk => by
    have h' := h
    simp only [entsB, Bool.and_eq_true] at h'
    have h1 := h'.1
    simp only [entB, Bool.and_eq_true, decide_eq_true_eq] at h1
    by_cases hx : x.key < k
    · have e : lowN (x :: r) k = lowN r k + 1 := by simp [lowN, hx]
      obtain ⟨a, b⟩ := entsB_lowN (k := k) h'.2 (by omega)
      rw [e, List.take_succ_cons, List.drop_succ_cons]
      refine ⟨?_, b⟩
      simp only [entsB, Bool.and_eq_true]
      refine ⟨?_, a⟩
      simp only [entB, Bool.and_eq_true, decide_eq_true_eq]
      exact ⟨⟨⟨h1.1.1.1, hx⟩, h1.1.2⟩, h1.2⟩
    · have e : lowN (x :: r) k = 0 := by simp [lowN, hx]
      rw [e]
      refine ⟨rfl, ?_⟩
      simp only [List.drop_zero, entsB, Bool.and_eq_true]
      refine ⟨?_, h'.2⟩
      simp only [entB, Bool.and_eq_true, decide_eq_true_eq]
      exact ⟨⟨⟨by omega, h1.1.1.2⟩, h1.1.2⟩, h1.2⟩

theorem lowN_drop {k k' : Int} (hk : k ≤ k') : ∀ (l : List En), lowN l k' = lowN l k + lowN (l.drop (lowN l k)) k'
  | [] => rfl
  | x :: r => by
    by_cases hx : x.key < k
    · have e : lowN (x :: r) k = lowN r k + 1 := by simp [lowN, hx]
      have e' : lowN (x :: r) k' = lowN r k' + 1 := by simp [lowN, show x.key < k' by omega]
      rw [e, e', List.drop_succ_cons, lowN_drop hk r]
      omega
    · have e : lowN (x :: r) k = 0 := by simp [lowN, hx]
      rw [e]
      simp

theorem entsB_mono {hi : Int} : ∀ {l : List En} {lo lo' : Int}, entsB l lo hi = true → lo' ≤ lo → entsB l lo' hi = true
  | [], _, _, _, _ => rfl
  | x :: r, lo, lo', h, hl => by
    simp only [entsB, Bool.and_eq_true] at h ⊢
    refine ⟨?_, h.2⟩
    have h1 := h.1
    simp only [entB, Bool.and_eq_true, decide_eq_true_eq] at h1 ⊢
    exact ⟨⟨⟨by omega, h1.1.1.2⟩, h1.1.2⟩, h1.2⟩

end Go.Proofs.Ytmcbjpaknffgkab

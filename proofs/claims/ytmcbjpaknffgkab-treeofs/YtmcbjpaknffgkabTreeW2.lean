/- A loop over kids, as plain functions. -/
import Derived.Test.YtmcbjpaknffgkabTreeW
namespace Go.Proofs.Ytmcbjpaknffgkab
open Go.RowKit Plain

def join (acc : List Int) : Option (St × List Int) → Option (St × List Int)
  | none => none
  | some (S, l) => some (S, acc ++ l)

theorem join_nil (r : Option (St × List Int)) : join [] r = r := by cases r <;> simp [join]
theorem join_join (a b : List Int) (r : Option (St × List Int)) : join a (join b r) = join (a ++ b) r := by cases r <;> simp [join]

def toAt (keys : List Int) (high : Int) (i : Nat) : Int := if i < keys.length then keys.getD i 0 else high

theorem headD_drop (keys : List Int) (high : Int) (i : Nat) : (keys.drop i).headD high = toAt keys high i := by
  unfold toAt
  split
  · rename_i h
    rw [List.drop_eq_getElem_cons h]
    simp [h]
  · rename_i h
    rw [List.drop_eq_nil_of_le (by omega)]
    rfl

theorem Wk_drop {g : Int → Int → Int → St → Option (St × List Int)} {kids keys : List Int} {lo high : Int} {S : St} {i : Nat} (hi : i < kids.length) :
    Wk g (kids.drop i) (keys.drop i) lo high S =
      match g kids[i] lo (toAt keys high i) S with
      | none => none
      | some (S1, l1) => join l1 (Wk g (kids.drop (i + 1)) (keys.drop (i + 1)) (toAt keys high i) high S1) := by
  rw [List.drop_eq_getElem_cons hi]
  simp only [Wk, headD_drop, List.tail_drop]
  cases g kids[i] lo (toAt keys high i) S with
  | none => rfl
  | some p =>
    obtain ⟨S1, l1⟩ := p
    simp only
    cases Wk g (kids.drop (i + 1)) (keys.drop (i + 1)) (toAt keys high i) high S1 with
    | none => rfl
    | some q => rfl

/-- What the loop has come to behind i kids. -/
structure KidsAt (g : Int → Int → Int → St → Option (St × List Int)) (kids keys : List Int) (low high : Int) (S0 : St) (i : Nat) (lo : Int) (S : St) (acc : List Int) (a : Int) : Prop where
  eq : Wk g kids keys low high S0 = join acc (Wk g (kids.drop i) (keys.drop i) lo high S)
  same : ∀ x ∈ acc, x = a
  some : 0 < i → acc ≠ []
  none : acc = [] → a = 0
  pos : acc ≠ [] → 1 ≤ a
  low : low ≤ lo

theorem kidsAt_start (g : Int → Int → Int → St → Option (St × List Int)) (kids keys : List Int) (low high : Int) (S0 : St) : KidsAt g kids keys low high S0 0 low S0 [] 0 :=
  ⟨by rw [join_nil]; rfl, by simp, by simp, fun _ => rfl, by simp, Int.le_refl _⟩

theorem resH_bad {acc : List Int} {R : Option (St × List Int)} {x y : Int} (hx : x ∈ acc) (hy : y ∈ acc) (h : x ≠ y) : resH (join acc R) = 0 := by
  cases R with
  | none => rfl
  | some p =>
    obtain ⟨S, l⟩ := p
    cases acc with
    | nil => simp at hx
    | cons d r =>
      simp only [join, List.cons_append, resH]
      split
      · rename_i hall
        rw [List.all_eq_true] at hall
        have e : ∀ z ∈ d :: r, z = d := by
          intro z hz
          rcases List.mem_cons.1 hz with rfl | hz
          · rfl
          · simpa using hall z (List.mem_append_left _ hz)
        exact absurd ((e x hx).trans (e y hy).symm) h
      · rfl

theorem resH_some {S : St} {l : List Int} {h : Int} (hr : resH (some (S, l)) = h) (h0 : h ≠ 0) : l ≠ [] ∧ ∀ x ∈ l, x = h := by
  cases l with
  | nil => simp [resH] at hr; omega
  | cons d r =>
    simp only [resH] at hr
    split at hr
    · rename_i hall
      subst hr
      rw [List.all_eq_true] at hall
      refine ⟨by simp, fun x hx => ?_⟩
      rcases List.mem_cons.1 hx with rfl | hx
      · rfl
      · simpa using hall x hx
    · omega

theorem resH_zero {S : St} {l : List Int} (hr : resH (some (S, l)) = 0) (hne : l ≠ []) (hpos : ∀ x ∈ l, 1 ≤ x) : ∃ x ∈ l, ∃ y ∈ l, x ≠ y := by
  cases l with
  | nil => exact absurd rfl hne
  | cons d r =>
    simp only [resH] at hr
    split at hr
    · have := hpos d List.mem_cons_self; omega
    · rename_i hall
      apply Classical.byContradiction
      intro hno
      apply hall
      rw [List.all_eq_true]
      intro x hx
      rw [beq_iff_eq]
      apply Classical.byContradiction
      intro hxd
      exact hno ⟨x, List.mem_cons_of_mem _ hx, d, List.mem_cons_self, hxd⟩

theorem resH_all {S : St} {l : List Int} {a : Int} (hne : l ≠ []) (h : ∀ x ∈ l, x = a) : resH (some (S, l)) = a := by
  cases l with
  | nil => exact absurd rfl hne
  | cons d r =>
    have hd : d = a := h d List.mem_cons_self
    simp only [resH]
    rw [if_pos (List.all_eq_true.2 fun x hx => by rw [beq_iff_eq, hd]; exact h x (List.mem_cons_of_mem _ hx))]
    exact hd

section
variable {g : Int → Int → Int → St → Option (St × List Int)} {kids keys : List Int} {low high lo a : Int} {S0 S : St} {i : Nat} {acc : List Int}

/-- The kid's keys may not be: the whole is refused. -/
theorem kidsAt_out (hg : ∀ d low high S r, g d low high S = some r → low < high) (h : KidsAt g kids keys low high S0 i lo S acc a) (hi : i < kids.length) (hlen : keys.length + 1 = kids.length) (ho : ¬ (low ≤ toAt keys high i ∧ toAt keys high i ≤ high)) :
    resH (Wk g kids keys low high S0) = 0 := by
  rw [h.eq]
  cases hw : Wk g (kids.drop i) (keys.drop i) lo high S with
  | none => rfl
  | some r =>
    exfalso
    have hL := Wk_low hg _ _ _ _ _ _ hw (by intro e; have := congrArg List.length e; simp at this; omega) (by simp; omega)
    have hlow := h.low
    by_cases hik : i < keys.length
    · have hm : toAt keys high i ∈ keys.drop i := by
        rw [List.drop_eq_getElem_cons hik, show toAt keys high i = keys[i] by simp [toAt, hik]]
        exact List.mem_cons_self
      have := hL.2 _ hm
      omega
    · have : toAt keys high i = high := by simp [toAt, hik]
      omega

theorem kidsAt_none (h : KidsAt g kids keys low high S0 i lo S acc a) (hi : i < kids.length) (hr : g kids[i] lo (toAt keys high i) S = none) : resH (Wk g kids keys low high S0) = 0 := by
  rw [h.eq, Wk_drop hi, hr]; rfl

theorem kidsAt_zero (hd : ∀ d low high S S' l, g d low high S = some (S', l) → l ≠ [] ∧ ∀ x ∈ l, 1 ≤ x) (h : KidsAt g kids keys low high S0 i lo S acc a) (hi : i < kids.length) (hr : resH (g kids[i] lo (toAt keys high i) S) = 0) :
    resH (Wk g kids keys low high S0) = 0 := by
  cases hg : g kids[i] lo (toAt keys high i) S with
  | none => exact kidsAt_none h hi hg
  | some p =>
    obtain ⟨S1, l1⟩ := p
    rw [hg] at hr
    have := hd _ _ _ _ _ _ hg
    obtain ⟨x, hx, y, hy, hxy⟩ := resH_zero hr this.1 this.2
    rw [h.eq, Wk_drop hi, hg]
    simp only [join_join]
    exact resH_bad (List.mem_append_right _ hx) (List.mem_append_right _ hy) hxy

theorem kidsAt_part (h : KidsAt g kids keys low high S0 i lo S acc a) (hi : i < kids.length) {hh : Int} (hr : resH (g kids[i] lo (toAt keys high i) S) = hh) (h0 : hh ≠ 0) (ha : 0 < a) (hne : hh ≠ a) :
    resH (Wk g kids keys low high S0) = 0 := by
  cases hg : g kids[i] lo (toAt keys high i) S with
  | none => exact kidsAt_none h hi hg
  | some p =>
    obtain ⟨S1, l1⟩ := p
    rw [hg] at hr
    obtain ⟨hl, he⟩ := resH_some hr h0
    have hacc : acc ≠ [] := by intro e; have := h.none e; omega
    obtain ⟨x, hx⟩ := List.exists_mem_of_ne_nil _ hl
    obtain ⟨y, hy⟩ := List.exists_mem_of_ne_nil _ hacc
    rw [h.eq, Wk_drop hi, hg]
    simp only [join_join]
    refine resH_bad (List.mem_append_right _ hx) (List.mem_append_left _ hy) ?_
    rw [he x hx, h.same y hy]
    exact hne

theorem kidsAt_next (hd : ∀ d low high S S' l, g d low high S = some (S', l) → l ≠ [] ∧ ∀ x ∈ l, 1 ≤ x) (hw : ∀ d low high S r, g d low high S = some r → low < high) (h : KidsAt g kids keys low high S0 i lo S acc a) (hi : i < kids.length) {hh : Int} (hr : resH (g kids[i] lo (toAt keys high i) S) = hh) (h0 : hh ≠ 0) (ha : ¬ (0 < a ∧ hh ≠ a)) :
    ∃ S1 l1, g kids[i] lo (toAt keys high i) S = some (S1, l1) ∧ KidsAt g kids keys low high S0 (i + 1) (toAt keys high i) S1 (acc ++ l1) hh := by
  cases hg : g kids[i] lo (toAt keys high i) S with
  | none => rw [hg] at hr; simp [resH] at hr; omega
  | some p =>
    obtain ⟨S1, l1⟩ := p
    rw [hg] at hr
    obtain ⟨hl, he⟩ := resH_some hr h0
    have hpos := hd _ _ _ _ _ _ hg
    have hlt := hw _ _ _ _ _ hg
    have hlow := h.low
    obtain ⟨x, hx⟩ := List.exists_mem_of_ne_nil _ hl
    have h1 : 1 ≤ hh := by rw [← he x hx]; exact hpos.2 x hx
    refine ⟨S1, l1, rfl, ⟨?_, ?_, fun _ e => hl (List.append_eq_nil_iff.1 e).2, fun e => absurd (List.append_eq_nil_iff.1 e).2 hl, fun _ => h1, by omega⟩⟩
    · rw [h.eq, Wk_drop hi, hg]
      simp only [join_join]
    · intro z hz
      rcases List.mem_append.1 hz with hz | hz
      · by_cases hacc : acc = []
        · subst hacc; simp at hz
        · have := h.pos hacc
          have hza := h.same z hz
          rw [hza]
          apply Classical.byContradiction
          intro hne
          exact ha ⟨by omega, fun e => hne e.symm⟩
      · exact he z hz

theorem kidsAt_end (h : KidsAt g kids keys low high S0 i lo S acc a) (hi : i = kids.length) (hk : 0 < kids.length) : Wk g kids keys low high S0 = some (S, acc) ∧ resH (Wk g kids keys low high S0) = a := by
  have e : Wk g kids keys low high S0 = some (S, acc) := by
    rw [h.eq, hi, List.drop_length]
    simp [Wk, join]
  refine ⟨e, ?_⟩
  rw [e]
  exact resH_all (h.some (by omega)) h.same

end
end Go.Proofs.Ytmcbjpaknffgkab

/- Which trees may be, as plain functions: what the code's survey and the document's 'height' both come to. -/
import Derived.Test.YtmcbjpaknffgkabWalks4
import Derived.Test.YtmcbjpaknffgkabRows2
namespace Go.Proofs.Ytmcbjpaknffgkab
open Go.RowKit Plain

def entB (x : En) (low high : Int) : Bool := decide (low ≤ x.key) && decide (x.key < high) && !(x.c == 0) && (checkC x.c x.s x.lo x.hi x.t x.l == 0)
def entsB : List En → Int → Int → Bool
  | [], _, _ => true
  | x :: r, low, high => entB x low high && entsB r (x.key + 1) high

abbrev St := List (Int × Int)
def seenB (S : St) (n : Int) : Bool := S.any fun p => p.1 == n

def leafB (x : Nd) (low high : Int) (f : Nat) : Bool :=
  x.keys.isEmpty && x.kids.isEmpty && x.buf.isEmpty && decide (x.ents.length ≤ 6) && (f == 11 || !x.ents.isEmpty) && entsB x.ents low high
def innerB (x : Nd) (low high : Int) : Bool :=
  x.ents.isEmpty && decide (2 ≤ x.kids.length) && decide (x.kids.length ≤ 4) && (x.keys.length + 1 == x.kids.length) && decide (x.buf.length ≤ 8) && entsB x.buf low high

def Wk (g : Int → Int → Int → St → Option (St × List Int)) : List Int → List Int → Int → Int → St → Option (St × List Int)
  | [], _, _, _, S => some (S, [])
  | d :: ds, keys, low, high, S =>
    match g d low (keys.headD high) S with
    | none => none
    | some (S1, l1) =>
      match Wk g ds keys.tail (keys.headD high) high S1 with
      | none => none
      | some (S2, l2) => some (S2, l1 ++ l2)

/-- From node n on, with keys from low to below high; 12 - f' deep, where f' + 1 is the first number: which nodes are come to, and how deep the leaves are. -/
def W (ns : List Nd) : Nat → Int → Int → Int → St → Option (St × List Int)
  | 0, _, _, _, _ => none
  | f + 1, n, low, high, S =>
    if n < 0 ∨ (ns.length : Int) ≤ n ∨ high ≤ low ∨ seenB S n = true then none
    else if (ns.getD n.toNat default).leaf = true then
      (if leafB (ns.getD n.toNat default) low high f = true then some ((n, 12 - (f : Int)) :: S, [12 - (f : Int)]) else none)
    else if innerB (ns.getD n.toNat default) low high = true then Wk (W ns f) (ns.getD n.toNat default).kids (ns.getD n.toNat default).keys low high ((n, 12 - (f : Int)) :: S)
    else none

def resH : Option (St × List Int) → Int
  | some (_, d :: r) => if r.all (· == d) = true then d else 0
  | _ => 0

def okL (L : Int) (l : List Int) : Bool := l.all (· == (if L = 0 then l.headD 0 else L))
def resN (L : Int) : Option (St × List Int) → Bool
  | some (_, l) => okL L l
  | none => false

/-- What Check tells. -/
def treeC (ns : List Nd) (root : Int) : Int :=
  if 2000 < ns.length then 1 else
  match W ns 12 root 0 1099511627776 [] with
  | some (S, l) => if okL 0 l = true ∧ S.length = ns.length then 0 else 7
  | none => 7

/-! ### Entries -/

def lowAt (xs : List En) (low : Int) (k : Nat) : Int := if k = 0 then low else (xs.getD (k - 1) default).key + 1

theorem entsB_drop {xs : List En} {low high : Int} {k : Nat} (hk : k < xs.length) :
    entsB (xs.drop k) (lowAt xs low k) high = (entB xs[k] (lowAt xs low k) high && entsB (xs.drop (k + 1)) (lowAt xs low (k + 1)) high) := by
  rw [List.drop_eq_getElem_cons hk]
  simp [entsB, lowAt, hk]

/-! ### What W yields -/

theorem Wk_low {g : Int → Int → Int → St → Option (St × List Int)} (hg : ∀ d low high S r, g d low high S = some r → low < high) :
    ∀ (ds keys : List Int) (low high : Int) (S : St) (r : St × List Int), Wk g ds keys low high S = some r → ds ≠ [] → keys.length + 1 = ds.length → low < high ∧ ∀ k ∈ keys, low < k ∧ k < high
  | [], _, _, _, _, _, _, h, _ => absurd rfl h
  | d :: ds, keys, low, high, S, r, hr, _, hl => by
    unfold Wk at hr
    split at hr
    · cases hr
    · rename_i S1 l1 h1
      have hlt := hg _ _ _ _ _ h1
      cases keys with
      | nil => exact ⟨by simpa using hlt, by simp⟩
      | cons k ks =>
        simp only [List.headD_cons, List.tail_cons] at hlt hr
        split at hr
        · cases hr
        · rename_i S2 l2 h2
          have hds : ds ≠ [] := by intro e; subst e; simp at hl
          have ih := Wk_low hg ds ks k high S1 _ h2 hds (by simpa using hl)
          refine ⟨by omega, fun x hx => ?_⟩
          rcases List.mem_cons.1 hx with rfl | hx
          · exact ⟨hlt, ih.1⟩
          · have := ih.2 x hx; omega

theorem W_low {ns : List Nd} : ∀ (f : Nat) (n low high : Int) (S : St) (r : St × List Int), W ns f n low high S = some r → low < high := by
  intro f n low high S r h
  cases f with
  | zero => cases h
  | succ f =>
    unfold W at h
    split at h
    · cases h
    · omega

theorem innerB_kids {x : Nd} {low high : Int} (h : innerB x low high = true) : x.ents = [] ∧ 2 ≤ x.kids.length ∧ x.kids.length ≤ 4 ∧ x.keys.length + 1 = x.kids.length ∧ x.buf.length ≤ 8 ∧ entsB x.buf low high = true := by
  simp only [innerB, Bool.and_eq_true, decide_eq_true_eq, beq_iff_eq, List.isEmpty_iff] at h
  obtain ⟨⟨⟨⟨⟨a, b⟩, c⟩, d⟩, e⟩, g⟩ := h
  exact ⟨a, b, c, d, e, g⟩

theorem leafB_iff {x : Nd} {low high : Int} {f : Nat} : leafB x low high f = true ↔ x.keys = [] ∧ x.kids = [] ∧ x.buf = [] ∧ x.ents.length ≤ 6 ∧ (f = 11 ∨ x.ents ≠ []) ∧ entsB x.ents low high = true := by
  simp only [leafB, Bool.and_eq_true, decide_eq_true_eq, beq_iff_eq, List.isEmpty_iff, Bool.or_eq_true, Bool.not_eq_true', List.isEmpty_eq_false_iff]
  constructor <;> intro h <;> simp_all

/-- The leaves' depths: there are some, each at least 1. -/
theorem Wk_ds {g : Int → Int → Int → St → Option (St × List Int)} (hg : ∀ d low high S S' l, g d low high S = some (S', l) → l ≠ [] ∧ ∀ x ∈ l, 1 ≤ x) :
    ∀ (ds keys : List Int) (low high : Int) (S S' : St) (l : List Int), Wk g ds keys low high S = some (S', l) → (ds ≠ [] → l ≠ []) ∧ ∀ x ∈ l, 1 ≤ x
  | [], _, _, _, _, _, _, h => by cases h; simp
  | d :: ds, keys, low, high, S, S', l, hr => by
    unfold Wk at hr
    split at hr
    · cases hr
    · rename_i S1 l1 h1
      split at hr
      · cases hr
      · rename_i S2 l2 h2
        cases hr
        have a := hg _ _ _ _ _ _ h1
        have b := Wk_ds hg _ _ _ _ _ _ _ h2
        refine ⟨fun _ e => a.1 (List.append_eq_nil_iff.1 e).1, fun x hx => ?_⟩
        rcases List.mem_append.1 hx with hx | hx
        · exact a.2 x hx
        · exact b.2 x hx

theorem W_ds {ns : List Nd} : ∀ (f : Nat), f ≤ 12 → ∀ (n low high : Int) (S S' : St) (l : List Int), W ns f n low high S = some (S', l) → l ≠ [] ∧ ∀ x ∈ l, 1 ≤ x := by
  intro f
  induction f with
  | zero => intro _ n low high S S' l h; cases h
  | succ f ih =>
    intro hf n low high S S' l h
    unfold W at h
    split at h
    · cases h
    · split at h
      · split at h
        · cases h
          exact ⟨by simp, by simp; omega⟩
        · cases h
      · split at h
        · rename_i hin
          have := Wk_ds (ih (by omega)) _ _ _ _ _ _ _ h
          have hk := (innerB_kids hin).2.1
          exact ⟨this.1 (by intro e; rw [e] at hk; simp at hk), this.2⟩
        · cases h

/-- What was seen stays seen; each once; all are places of nodes. -/
def StOk (N : Nat) (S : St) : Prop := (S.map (·.1)).Nodup ∧ ∀ p ∈ S, 0 ≤ p.1 ∧ p.1 < (N : Int)

theorem seenB_iff {S : St} {n : Int} : seenB S n = true ↔ n ∈ S.map (·.1) := by
  simp [seenB]

theorem Wk_st {N : Nat} {g : Int → Int → Int → St → Option (St × List Int)} (hg : ∀ d low high S S' l, g d low high S = some (S', l) → StOk N S → StOk N S' ∧ ∀ p ∈ S, p ∈ S') :
    ∀ (ds keys : List Int) (low high : Int) (S S' : St) (l : List Int), Wk g ds keys low high S = some (S', l) → StOk N S → StOk N S' ∧ ∀ p ∈ S, p ∈ S'
  | [], _, _, _, _, _, _, h => by cases h; exact fun h => ⟨h, fun _ h => h⟩
  | d :: ds, keys, low, high, S, S', l, hr => by
    unfold Wk at hr
    split at hr
    · cases hr
    · rename_i S1 l1 h1
      split at hr
      · cases hr
      · rename_i S2 l2 h2
        cases hr
        intro hS
        have a := hg _ _ _ _ _ _ h1 hS
        have b := Wk_st hg _ _ _ _ _ _ _ h2 a.1
        exact ⟨b.1, fun p hp => b.2 p (a.2 p hp)⟩

theorem W_st {ns : List Nd} : ∀ (f : Nat) (n low high : Int) (S S' : St) (l : List Int), W ns f n low high S = some (S', l) → StOk ns.length S → StOk ns.length S' ∧ ∀ p ∈ S, p ∈ S' := by
  intro f
  induction f with
  | zero => intro n low high S S' l h; cases h
  | succ f ih =>
    intro n low high S S' l h hS
    unfold W at h
    split at h
    · cases h
    · rename_i hc
      have h1 : StOk ns.length ((n, 12 - (f : Int)) :: S) := by
        refine ⟨?_, fun p hp => ?_⟩
        · rw [List.map_cons, List.nodup_cons]
          refine ⟨fun e => hc (.inr (.inr (.inr (seenB_iff.2 e)))), hS.1⟩
        · rcases List.mem_cons.1 hp with rfl | hp
          · constructor <;> simp <;> omega
          · exact hS.2 p hp
      split at h
      · split at h
        · cases h
          exact ⟨h1, fun p hp => List.mem_cons_of_mem _ hp⟩
        · cases h
      · split at h
        · have := Wk_st ih _ _ _ _ _ _ _ h h1
          exact ⟨this.1, fun p hp => this.2 p (List.mem_cons_of_mem _ hp)⟩
        · cases h

/-! ### Counting -/

theorem nodup_le {α : Type} [DecidableEq α] : ∀ (l m : List α), l.Nodup → (∀ x ∈ l, x ∈ m) → l.length ≤ m.length
  | [], _, _, _ => Nat.zero_le _
  | x :: l, m, hn, hs => by
    rw [List.nodup_cons] at hn
    have hx : x ∈ m := hs x List.mem_cons_self
    have := nodup_le l (m.erase x) hn.2 (fun y hy => (List.mem_erase_of_ne (by intro e; subst e; exact hn.1 hy)).2 (hs y (List.mem_cons_of_mem _ hy)))
    rw [List.length_erase_of_mem hx] at this
    have hpos : 0 < m.length := List.length_pos_of_mem hx
    simp only [List.length_cons]
    omega

theorem all_seen {N : Nat} {S : St} (h : StOk N S) : S.length = N ↔ ∀ i : Nat, i < N → seenB S i = true := by
  have hsub : ∀ x ∈ S.map (·.1), x ∈ (List.range N).map (fun i : Nat => (i : Int)) := by
    intro x hx
    obtain ⟨p, hp, rfl⟩ := List.mem_map.1 hx
    have := h.2 p hp
    exact List.mem_map.2 ⟨p.1.toNat, by simp; omega, by omega⟩
  have hrn : ((List.range N).map (fun i : Nat => (i : Int))).Nodup := by
    rw [List.Nodup, List.pairwise_map]
    exact List.nodup_range.imp (fun h e => h (by omega))
  constructor
  · intro hl i hi
    rw [seenB_iff]
    apply Classical.byContradiction
    intro hni
    have := nodup_le ((i : Int) :: S.map (·.1)) ((List.range N).map (fun i : Nat => (i : Int))) (List.nodup_cons.2 ⟨hni, h.1⟩) (fun x hx => by
      rcases List.mem_cons.1 hx with rfl | hx
      · exact List.mem_map.2 ⟨i, by simpa using hi, rfl⟩
      · exact hsub x hx)
    simp at this
    omega
  · intro hall
    have h1 := nodup_le _ _ h.1 hsub
    have h2 := nodup_le _ (S.map (·.1)) hrn (fun x hx => by
      obtain ⟨i, hi, rfl⟩ := List.mem_map.1 hx
      exact seenB_iff.1 (hall i (by simpa using hi)))
    simp at h1 h2
    omega

end Go.Proofs.Ytmcbjpaknffgkab

/- Which trees may be, as plain functions: what the code's survey and the document's 'height' both come to. -/
import Derived.Test.YtlojfgdpmaigmafDoorWalks4
import Derived.Test.YtlojfgdpmaigmafDoorP06
import Derived.Test.YtlojfgdpmaigmafDoorP07
namespace Go.Proofs.YtlojfgdpmaigmafDoor
open Go.RowKit Plain

def entB (x : En) (low high : Int) : Bool := decide (low ≤ x.key) && decide (x.key < high) && !(x.c == 0) && (checkC x.c x.s x.lo x.hi x.t x.l == 0)
def entsB : List En → Int → Int → Bool
  | [], _, _ => true
  | x :: r, low, high => entB x low high && entsB r (x.key + 1) high

abbrev St := List (Int × Int)
def seenB (S : St) (n : Int) : Bool := S.any fun p => p.1 == n

def leafB (x : Nd) (low high : Int) (f : Nat) : Bool :=
  x.keys.isEmpty && x.kids.isEmpty && x.buf.isEmpty && decide (x.ents.length ≤ 6) && (f == 11 || !x.ents.isEmpty) && entsB x.ents low high
def innerB (x : Nd) (low high : Int) : Bool :=
  x.ents.isEmpty && decide (2 ≤ x.kids.length) && decide (x.kids.length ≤ 4) && (x.keys.length + 1 == x.kids.length) && decide (x.buf.length ≤ 8) && entsB x.buf low high

def Wk (g : Int → Int → Int → St → Option (St × List Int)) : List Int → List Int → Int → Int → St → Option (St × List Int)
  | [], _, _, _, S => some (S, [])
  | d :: ds, keys, low, high, S =>
    match g d low (keys.headD high) S with
    | none => none
    | some (S1, l1) =>
      match Wk g ds keys.tail (keys.headD high) high S1 with
      | none => none
      | some (S2, l2) => some (S2, l1 ++ l2)

/-- From node n on, with keys from low to below high; 12 - f' deep, where f' + 1 is the first number: which nodes are come to, and how deep the leaves are. -/
def W (ns : List Nd) : Nat → Int → Int → Int → St → Option (St × List Int)
  | 0, _, _, _, _ => none
  | f + 1, n, low, high, S =>
    if n < 0 ∨ (ns.length : Int) ≤ n ∨ high ≤ low ∨ seenB S n = true then none
    else if (ns.getD n.toNat default).leaf = true then
      (if leafB (ns.getD n.toNat default) low high f = true then some ((n, 12 - (f : Int)) :: S, [12 - (f : Int)]) else none)
    else if innerB (ns.getD n.toNat default) low high = true then Wk (W ns f) (ns.getD n.toNat default).kids (ns.getD n.toNat default).keys low high ((n, 12 - (f : Int)) :: S)
    else none

def resH : Option (St × List Int) → Int
  | some (_, d :: r) => if r.all (· == d) = true then d else 0
  | _ => 0

def okL (L : Int) (l : List Int) : Bool := l.all (· == (if L = 0 then l.headD 0 else L))
def resN (L : Int) : Option (St × List Int) → Bool
  | some (_, l) => okL L l
  | none => false

/-- What Check tells. -/
def treeC (ns : List Nd) (root : Int) : Int :=
  if 2000 < ns.length then 1 else
  match W ns 12 root 0 1099511627776 [] with
  | some (S, l) => if okL 0 l = true ∧ S.length = ns.length then 0 else 7
  | none => 7

/-! ### Entries -/

def lowAt (xs : List En) (low : Int) (k : Nat) : Int := if k = 0 then low else (xs.getD (k - 1) default).key + 1

theorem entsB_drop {xs : List En} {low high : Int} {k : Nat} (hk : k < xs.length) :
    entsB (xs.drop k) (lowAt xs low k) high = (entB xs[k] (lowAt xs low k) high && entsB (xs.drop (k + 1)) (lowAt xs low (k + 1)) high) := by
  rw [List.drop_eq_getElem_cons hk]
  simp [entsB, lowAt, hk]

/-! ### What W yields -/

theorem Wk_low {g : Int → Int → Int → St → Option (St × List Int)} (hg : ∀ d low high S r, g d low high S = some r → low < high) :
    ∀ (ds keys : List Int) (low high : Int) (S : St) (r : St × List Int), Wk g ds keys low high S = some r → ds ≠ [] → keys.length + 1 = ds.length → low < high ∧ ∀ k ∈ keys, low < k ∧ k < high
  | [], _, _, _, _, _, _, h, _ => absurd rfl h
  | d :: ds, keys, low, high, S, r, hr, _, hl => by
    unfold Wk at hr
    split at hr
    · cases hr
    · rename_i S1 l1 h1
      have hlt := hg _ _ _ _ _ h1
      cases keys with
      | nil => exact ⟨by simpa using hlt, by simp⟩
      | cons k ks =>
        simp only [List.headD_cons, List.tail_cons] at hlt hr
        split at hr
        · cases hr
        · rename_i S2 l2 h2
          have hds : ds ≠ [] := by intro e; subst e; simp at hl
          have ih := Wk_low hg ds ks k high S1 _ h2 hds (by simpa using hl)
          refine ⟨by omega, fun x hx => ?_⟩
          rcases List.mem_cons.1 hx with rfl | hx
          · exact ⟨hlt, ih.1⟩
          · have := ih.2 x hx; omega

theorem W_low {ns : List Nd} : ∀ (f : Nat) (n low high : Int) (S : St) (r : St × List Int), W ns f n low high S = some r → low < high := by
  intro f n low high S r h
  cases f with
  | zero => cases h
  | succ f =>
    unfold W at h
    split at h
    · cases h
    · omega

theorem innerB_kids {x : Nd} {low high : Int} (h : innerB x low high = true) : x.ents = [] ∧ 2 ≤ x.kids.length ∧ x.kids.length ≤ 4 ∧ x.keys.length + 1 = x.kids.length ∧ x.buf.length ≤ 8 ∧ entsB x.buf low high = true := by
  simp only [innerB, Bool.and_eq_true, decide_eq_true_eq, beq_iff_eq, List.isEmpty_iff] at h
  obtain ⟨⟨⟨⟨⟨a, b⟩, c⟩, d⟩, e⟩, g⟩ := h
  exact ⟨a, b, c, d, e, g⟩

theorem leafB_iff {x : Nd} {low high : Int} {f : Nat} : leafB x low high f = true ↔ x.keys = [] ∧ x.kids = [] ∧ x.buf = [] ∧ x.ents.length ≤ 6 ∧ (f = 11 ∨ x.ents ≠ []) ∧ entsB x.ents low high = true := by
  simp only [leafB, Bool.and_eq_true, decide_eq_true_eq, beq_iff_eq, List.isEmpty_iff, Bool.or_eq_true, Bool.not_eq_true', List.isEmpty_eq_false_iff]
  constructor <;> intro h <;> simp_all

/-- The leaves' depths: there are some, each at least 1. -/
theorem Wk_ds {g : Int → Int → Int → St → Option (St × List Int)} (hg : ∀ d low high S S' l, g d low high S = some (S', l) → l ≠ [] ∧ ∀ x ∈ l, 1 ≤ x) :
    ∀ (ds keys : List Int) (low high : Int) (S S' : St) (l : List Int), Wk g ds keys low high S = some (S', l) → (ds ≠ [] → l ≠ []) ∧ ∀ x ∈ l, 1 ≤ x
  | [], _, _, _, _, _, _, h => by cases h; simp
  | d :: ds, keys, low, high, S, S', l, hr => by
    unfold Wk at hr
    split at hr
    · cases hr
    · rename_i S1 l1 h1
      split at hr
      · cases hr
      · rename_i S2 l2 h2
        cases hr
        have a := hg _ _ _ _ _ _ h1
        have b := Wk_ds hg _ _ _ _ _ _ _ h2
        refine ⟨fun _ e => a.1 (List.append_eq_nil_iff.1 e).1, fun x hx => ?_⟩
        rcases List.mem_append.1 hx with hx | hx
        · exact a.2 x hx
        · exact b.2 x hx

theorem W_ds {ns : List Nd} : ∀ (f : Nat), f ≤ 12 → ∀ (n low high : Int) (S S' : St) (l : List Int), W ns f n low high S = some (S', l) → l ≠ [] ∧ ∀ x ∈ l, 1 ≤ x := by
  intro f
  induction f with
  | zero => intro _ n low high S S' l h; cases h
  | succ f ih =>
    intro hf n low high S S' l h
    unfold W at h
    split at h
    · cases h
    · split at h
      · split at h
        · cases h
          exact ⟨by simp, by simp; omega⟩
        · cases h
      · split at h
        · rename_i hin
          have := Wk_ds (ih (by omega)) _ _ _ _ _ _ _ h
          have hk := (innerB_kids hin).2.1
          exact ⟨this.1 (by intro e; rw [e] at hk; simp at hk), this.2⟩
        · cases h

/-- What was seen stays seen; each once; all are places of nodes. -/
def StOk (N : Nat) (S : St) : Prop := (S.map (·.1)).Nodup ∧ ∀ p ∈ S, 0 ≤ p.1 ∧ p.1 < (N : Int)

theorem seenB_iff {S : St} {n : Int} : seenB S n = true ↔ n ∈ S.map (·.1) := by
  simp [seenB]

theorem Wk_st {N : Nat} {g : Int → Int → Int → St → Option (St × List Int)} (hg : ∀ d low high S S' l, g d low high S = some (S', l) → StOk N S → StOk N S' ∧ ∀ p ∈ S, p ∈ S') :
    ∀ (ds keys : List Int) (low high : Int) (S S' : St) (l : List Int), Wk g ds keys low high S = some (S', l) → StOk N S → StOk N S' ∧ ∀ p ∈ S, p ∈ S'
  | [], _, _, _, _, _, _, h => by cases h; exact fun h => ⟨h, fun _ h => h⟩
  | d :: ds, keys, low, high, S, S', l, hr => by
    unfold Wk at hr
    split at hr
    · cases hr
    · rename_i S1 l1 h1
      split at hr
      · cases hr
      · rename_i S2 l2 h2
        cases hr
        intro hS
        have a := hg _ _ _ _ _ _ h1 hS
        have b := Wk_st hg _ _ _ _ _ _ _ h2 a.1
        exact ⟨b.1, fun p hp => b.2 p (a.2 p hp)⟩

theorem W_st {ns : List Nd} : ∀ (f : Nat) (n low high : Int) (S S' : St) (l : List Int), W ns f n low high S = some (S', l) → StOk ns.length S → StOk ns.length S' ∧ ∀ p ∈ S, p ∈ S' := by
  intro f
  induction f with
  | zero => intro n low high S S' l h; cases h
  | succ f ih =>
    intro n low high S S' l h hS
    unfold W at h
    split at h
    · cases h
    · rename_i hc
      have h1 : StOk ns.length ((n, 12 - (f : Int)) :: S) := by
        refine ⟨?_, fun p hp => ?_⟩
        · rw [List.map_cons, List.nodup_cons]
          refine ⟨fun e => hc (.inr (.inr (.inr (seenB_iff.2 e)))), hS.1⟩
        · rcases List.mem_cons.1 hp with rfl | hp
          · constructor <;> simp <;> omega
          · exact hS.2 p hp
      split at h
      · split at h
        · cases h
          exact ⟨h1, fun p hp => List.mem_cons_of_mem _ hp⟩
        · cases h
      · split at h
        · have := Wk_st ih _ _ _ _ _ _ _ h h1
          exact ⟨this.1, fun p hp => this.2 p (List.mem_cons_of_mem _ hp)⟩
        · cases h

/-! ### Counting -/

theorem nodup_le {α : Type} [DecidableEq α] : ∀ (l m : List α), l.Nodup → (∀ x ∈ l, x ∈ m) → l.length ≤ m.length
  | [], _, _, _ => Nat.zero_le _
  | x :: l, m, hn, hs => by
    rw [List.nodup_cons] at hn
    have hx : x ∈ m := hs x List.mem_cons_self
    have := nodup_le l (m.erase x) hn.2 (fun y hy => (List.mem_erase_of_ne (by intro e; subst e; exact hn.1 hy)).2 (hs y (List.mem_cons_of_mem _ hy)))
    rw [List.length_erase_of_mem hx] at this
    have hpos : 0 < m.length := List.length_pos_of_mem hx
    simp only [List.length_cons]
    omega

theorem all_seen {N : Nat} {S : St} (h : StOk N S) : S.length = N ↔ ∀ i : Nat, i < N → seenB S i = true := by
  have hsub : ∀ x ∈ S.map (·.1), x ∈ (List.range N).map (fun i : Nat => (i : Int)) := by
    intro x hx
    obtain ⟨p, hp, rfl⟩ := List.mem_map.1 hx
    have := h.2 p hp
    exact List.mem_map.2 ⟨p.1.toNat, by simp; omega, by omega⟩
  have hrn : ((List.range N).map (fun i : Nat => (i : Int))).Nodup := by
    rw [List.Nodup, List.pairwise_map]
    exact List.nodup_range.imp (fun h e => h (by omega))
  constructor
  · intro hl i hi
    rw [seenB_iff]
    apply Classical.byContradiction
    intro hni
    have := nodup_le ((i : Int) :: S.map (·.1)) ((List.range N).map (fun i : Nat => (i : Int))) (List.nodup_cons.2 ⟨hni, h.1⟩) (fun x hx => by
      rcases List.mem_cons.1 hx with rfl | hx
      · exact List.mem_map.2 ⟨i, by simpa using hi, rfl⟩
      · exact hsub x hx)
    simp at this
    omega
  · intro hall
    have h1 := nodup_le _ _ h.1 hsub
    have h2 := nodup_le _ (S.map (·.1)) hrn (fun x hx => by
      obtain ⟨i, hi, rfl⟩ := List.mem_map.1 hx
      exact seenB_iff.1 (hall i (by simpa using hi)))
    simp at h1 h2
    omega

end Go.Proofs.YtlojfgdpmaigmafDoor

/- A loop over kids, as plain functions. -/
namespace Go.Proofs.YtlojfgdpmaigmafDoor
open Go.RowKit Plain

def join (acc : List Int) : Option (St × List Int) → Option (St × List Int)
  | none => none
  | some (S, l) => some (S, acc ++ l)

theorem join_nil (r : Option (St × List Int)) : join [] r = r := by cases r <;> simp [join]
theorem join_join (a b : List Int) (r : Option (St × List Int)) : join a (join b r) = join (a ++ b) r := by cases r <;> simp [join]

def toAt (keys : List Int) (high : Int) (i : Nat) : Int := if i < keys.length then keys.getD i 0 else high

theorem headD_drop (keys : List Int) (high : Int) (i : Nat) : (keys.drop i).headD high = toAt keys high i := by
  unfold toAt
  split
  · rename_i h
    rw [List.drop_eq_getElem_cons h]
    simp [h]
  · rename_i h
    rw [List.drop_eq_nil_of_le (by omega)]
    rfl

theorem Wk_drop {g : Int → Int → Int → St → Option (St × List Int)} {kids keys : List Int} {lo high : Int} {S : St} {i : Nat} (hi : i < kids.length) :
    Wk g (kids.drop i) (keys.drop i) lo high S =
      match g kids[i] lo (toAt keys high i) S with
      | none => none
      | some (S1, l1) => join l1 (Wk g (kids.drop (i + 1)) (keys.drop (i + 1)) (toAt keys high i) high S1) := by
  rw [List.drop_eq_getElem_cons hi]
  simp only [Wk, headD_drop, List.tail_drop]
  cases g kids[i] lo (toAt keys high i) S with
  | none => rfl
  | some p =>
    obtain ⟨S1, l1⟩ := p
    simp only
    cases Wk g (kids.drop (i + 1)) (keys.drop (i + 1)) (toAt keys high i) high S1 with
    | none => rfl
    | some q => rfl

/-- What the loop has come to behind i kids. -/
structure KidsAt (g : Int → Int → Int → St → Option (St × List Int)) (kids keys : List Int) (low high : Int) (S0 : St) (i : Nat) (lo : Int) (S : St) (acc : List Int) (a : Int) : Prop where
  eq : Wk g kids keys low high S0 = join acc (Wk g (kids.drop i) (keys.drop i) lo high S)
  same : ∀ x ∈ acc, x = a
  some : 0 < i → acc ≠ []
  none : acc = [] → a = 0
  pos : acc ≠ [] → 1 ≤ a
  low : low ≤ lo

theorem kidsAt_start (g : Int → Int → Int → St → Option (St × List Int)) (kids keys : List Int) (low high : Int) (S0 : St) : KidsAt g kids keys low high S0 0 low S0 [] 0 :=
  ⟨by rw [join_nil]; rfl, by simp, by simp, fun _ => rfl, by simp, Int.le_refl _⟩

theorem resH_bad {acc : List Int} {R : Option (St × List Int)} {x y : Int} (hx : x ∈ acc) (hy : y ∈ acc) (h : x ≠ y) : resH (join acc R) = 0 := by
  cases R with
  | none => rfl
  | some p =>
    obtain ⟨S, l⟩ := p
    cases acc with
    | nil => simp at hx
    | cons d r =>
      simp only [join, List.cons_append, resH]
      split
      · rename_i hall
        rw [List.all_eq_true] at hall
        have e : ∀ z ∈ d :: r, z = d := by
          intro z hz
          rcases List.mem_cons.1 hz with rfl | hz
          · rfl
          · simpa using hall z (List.mem_append_left _ hz)
        exact absurd ((e x hx).trans (e y hy).symm) h
      · rfl

theorem resH_some {S : St} {l : List Int} {h : Int} (hr : resH (some (S, l)) = h) (h0 : h ≠ 0) : l ≠ [] ∧ ∀ x ∈ l, x = h := by
  cases l with
  | nil => simp [resH] at hr; omega
  | cons d r =>
    simp only [resH] at hr
    split at hr
    · rename_i hall
      subst hr
      rw [List.all_eq_true] at hall
      refine ⟨by simp, fun x hx => ?_⟩
      rcases List.mem_cons.1 hx with rfl | hx
      · rfl
      · simpa using hall x hx
    · omega

theorem resH_zero {S : St} {l : List Int} (hr : resH (some (S, l)) = 0) (hne : l ≠ []) (hpos : ∀ x ∈ l, 1 ≤ x) : ∃ x ∈ l, ∃ y ∈ l, x ≠ y := by
  cases l with
  | nil => exact absurd rfl hne
  | cons d r =>
    simp only [resH] at hr
    split at hr
    · have := hpos d List.mem_cons_self; omega
    · rename_i hall
      apply Classical.byContradiction
      intro hno
      apply hall
      rw [List.all_eq_true]
      intro x hx
      rw [beq_iff_eq]
      apply Classical.byContradiction
      intro hxd
      exact hno ⟨x, List.mem_cons_of_mem _ hx, d, List.mem_cons_self, hxd⟩

theorem resH_all {S : St} {l : List Int} {a : Int} (hne : l ≠ []) (h : ∀ x ∈ l, x = a) : resH (some (S, l)) = a := by
  cases l with
  | nil => exact absurd rfl hne
  | cons d r =>
    have hd : d = a := h d List.mem_cons_self
    simp only [resH]
    rw [if_pos (List.all_eq_true.2 fun x hx => by rw [beq_iff_eq, hd]; exact h x (List.mem_cons_of_mem _ hx))]
    exact hd

section
variable {g : Int → Int → Int → St → Option (St × List Int)} {kids keys : List Int} {low high lo a : Int} {S0 S : St} {i : Nat} {acc : List Int}

/-- The kid's keys may not be: the whole is refused. -/
theorem kidsAt_out (hg : ∀ d low high S r, g d low high S = some r → low < high) (h : KidsAt g kids keys low high S0 i lo S acc a) (hi : i < kids.length) (hlen : keys.length + 1 = kids.length) (ho : ¬ (low ≤ toAt keys high i ∧ toAt keys high i ≤ high)) :
    resH (Wk g kids keys low high S0) = 0 := by
  rw [h.eq]
  cases hw : Wk g (kids.drop i) (keys.drop i) lo high S with
  | none => rfl
  | some r =>
    exfalso
    have hL := Wk_low hg _ _ _ _ _ _ hw (by intro e; have := congrArg List.length e; simp at this; omega) (by simp; omega)
    have hlow := h.low
    by_cases hik : i < keys.length
    · have hm : toAt keys high i ∈ keys.drop i := by
        rw [List.drop_eq_getElem_cons hik, show toAt keys high i = keys[i] by simp [toAt, hik]]
        exact List.mem_cons_self
      have := hL.2 _ hm
      omega
    · have : toAt keys high i = high := by simp [toAt, hik]
      omega

theorem kidsAt_none (h : KidsAt g kids keys low high S0 i lo S acc a) (hi : i < kids.length) (hr : g kids[i] lo (toAt keys high i) S = none) : resH (Wk g kids keys low high S0) = 0 := by
  rw [h.eq, Wk_drop hi, hr]; rfl

theorem kidsAt_zero (hd : ∀ d low high S S' l, g d low high S = some (S', l) → l ≠ [] ∧ ∀ x ∈ l, 1 ≤ x) (h : KidsAt g kids keys low high S0 i lo S acc a) (hi : i < kids.length) (hr : resH (g kids[i] lo (toAt keys high i) S) = 0) :
    resH (Wk g kids keys low high S0) = 0 := by
  cases hg : g kids[i] lo (toAt keys high i) S with
  | none => exact kidsAt_none h hi hg
  | some p =>
    obtain ⟨S1, l1⟩ := p
    rw [hg] at hr
    have := hd _ _ _ _ _ _ hg
    obtain ⟨x, hx, y, hy, hxy⟩ := resH_zero hr this.1 this.2
    rw [h.eq, Wk_drop hi, hg]
    simp only [join_join]
    exact resH_bad (List.mem_append_right _ hx) (List.mem_append_right _ hy) hxy

theorem kidsAt_part (h : KidsAt g kids keys low high S0 i lo S acc a) (hi : i < kids.length) {hh : Int} (hr : resH (g kids[i] lo (toAt keys high i) S) = hh) (h0 : hh ≠ 0) (ha : 0 < a) (hne : hh ≠ a) :
    resH (Wk g kids keys low high S0) = 0 := by
  cases hg : g kids[i] lo (toAt keys high i) S with
  | none => exact kidsAt_none h hi hg
  | some p =>
    obtain ⟨S1, l1⟩ := p
    rw [hg] at hr
    obtain ⟨hl, he⟩ := resH_some hr h0
    have hacc : acc ≠ [] := by intro e; have := h.none e; omega
    obtain ⟨x, hx⟩ := List.exists_mem_of_ne_nil _ hl
    obtain ⟨y, hy⟩ := List.exists_mem_of_ne_nil _ hacc
    rw [h.eq, Wk_drop hi, hg]
    simp only [join_join]
    refine resH_bad (List.mem_append_right _ hx) (List.mem_append_left _ hy) ?_
    rw [he x hx, h.same y hy]
    exact hne

theorem kidsAt_next (hd : ∀ d low high S S' l, g d low high S = some (S', l) → l ≠ [] ∧ ∀ x ∈ l, 1 ≤ x) (hw : ∀ d low high S r, g d low high S = some r → low < high) (h : KidsAt g kids keys low high S0 i lo S acc a) (hi : i < kids.length) {hh : Int} (hr : resH (g kids[i] lo (toAt keys high i) S) = hh) (h0 : hh ≠ 0) (ha : ¬ (0 < a ∧ hh ≠ a)) :
    ∃ S1 l1, g kids[i] lo (toAt keys high i) S = some (S1, l1) ∧ KidsAt g kids keys low high S0 (i + 1) (toAt keys high i) S1 (acc ++ l1) hh := by
  cases hg : g kids[i] lo (toAt keys high i) S with
  | none => rw [hg] at hr; simp [resH] at hr; omega
  | some p =>
    obtain ⟨S1, l1⟩ := p
    rw [hg] at hr
    obtain ⟨hl, he⟩ := resH_some hr h0
    have hpos := hd _ _ _ _ _ _ hg
    have hlt := hw _ _ _ _ _ hg
    have hlow := h.low
    obtain ⟨x, hx⟩ := List.exists_mem_of_ne_nil _ hl
    have h1 : 1 ≤ hh := by rw [← he x hx]; exact hpos.2 x hx
    refine ⟨S1, l1, rfl, ⟨?_, ?_, fun _ e => hl (List.append_eq_nil_iff.1 e).2, fun e => absurd (List.append_eq_nil_iff.1 e).2 hl, fun _ => h1, by omega⟩⟩
    · rw [h.eq, Wk_drop hi, hg]
      simp only [join_join]
    · intro z hz
      rcases List.mem_append.1 hz with hz | hz
      · by_cases hacc : acc = []
        · subst hacc; simp at hz
        · have := h.pos hacc
          have hza := h.same z hz
          rw [hza]
          apply Classical.byContradiction
          intro hne
          exact ha ⟨by omega, fun e => hne e.symm⟩
      · exact he z hz

theorem kidsAt_end (h : KidsAt g kids keys low high S0 i lo S acc a) (hi : i = kids.length) (hk : 0 < kids.length) : Wk g kids keys low high S0 = some (S, acc) ∧ resH (Wk g kids keys low high S0) = a := by
  have e : Wk g kids keys low high S0 = some (S, acc) := by
    rw [h.eq, hi, List.drop_length]
    simp [Wk, join]
  refine ⟨e, ?_⟩
  rw [e]
  exact resH_all (h.some (by omega)) h.same

end
end Go.Proofs.YtlojfgdpmaigmafDoor

/- All entries of a tree that may be, as the code walks them and as they stand in the nodes: the same ones, in another order. -/
namespace Go.Proofs.YtlojfgdpmaigmafDoor
open Go.RowKit Plain

def inR (low high : Int) (x : En) : Bool := decide (low ≤ x.key) && decide (x.key < high)

/-- All entries from a node on. -/
def Fl (ns : List Nd) : Nat → Int → List En
  | 0, _ => []
  | f + 1, n => (ns.getD n.toNat default).buf ++ (ns.getD n.toNat default).ents ++ (ns.getD n.toNat default).kids.flatMap (Fl ns f)

/-- Is a kid passed by? 'pr': the key ahead of it; 'nx': the one behind it. -/
def skipB (low high : Int) (pr nx : Option Int) : Bool := (pr.any fun k => decide (high ≤ k)) || (nx.any fun k => decide (k ≤ low))

def WlK (g : Int → List En) (low high : Int) : List Int → List Int → Option Int → List En
  | [], _, _ => []
  | d :: ds, keys, pr => (if skipB low high pr keys.head? = true then [] else g d) ++ WlK g low high ds keys.tail keys.head?

/-- The entries of keys from low on, below high, as the code walks them. -/
def Wl (ns : List Nd) (low high : Int) : Nat → Int → List En
  | 0, _ => []
  | f + 1, n => (ns.getD n.toNat default).buf.filter (inR low high) ++ (ns.getD n.toNat default).ents.filter (inR low high) ++
      WlK (Wl ns low high f) low high (ns.getD n.toNat default).kids (ns.getD n.toNat default).keys none

theorem entsB_in {lo hi : Int} : ∀ {xs : List En} {low : Int}, entsB xs low hi = true → lo ≤ low → ∀ x ∈ xs, lo ≤ x.key ∧ x.key < hi
  | [], _, _, _, x, hx => by simp at hx
  | y :: r, low, h, hl, x, hx => by
    simp only [entsB, entB, Bool.and_eq_true, decide_eq_true_eq] at h
    rcases List.mem_cons.1 hx with rfl | hx
    · omega
    · exact entsB_in h.2 (by omega) x hx

/-- What W lets pass lies within its keys. -/
theorem Wk_in {g : Int → Int → Int → St → Option (St × List Int)} {F : Int → List En} (hg : ∀ d lo hi S r, g d lo hi S = some r → (∀ x ∈ F d, lo ≤ x.key ∧ x.key < hi) ∧ lo < hi) :
    ∀ (ds keys : List Int) (lo hi : Int) (S : St) (r : St × List Int), Wk g ds keys lo hi S = some r → keys.length + 1 = ds.length → ∀ x ∈ ds.flatMap F, lo ≤ x.key ∧ x.key < hi
  | [], _, _, _, _, _, _, _, x, hx => by simp at hx
  | d :: ds, keys, lo, hi, S, r, hr, hl, x, hx => by
    have hlow := Wk_low (fun d lo hi S r h => (hg d lo hi S r h).2) _ _ _ _ _ _ hr (by simp) hl
    unfold Wk at hr
    split at hr
    · cases hr
    · rename_i S1 l1 h1
      have a := hg _ _ _ _ _ h1
      simp only [List.flatMap_cons, List.mem_append] at hx
      cases keys with
      | nil =>
        have hds : ds = [] := by cases ds with | nil => rfl | cons _ _ => simp at hl
        subst hds
        simp at hx
        simpa using a.1 x hx
      | cons k ks =>
        simp only [List.headD_cons, List.tail_cons] at a hr
        have hk := hlow.2 k List.mem_cons_self
        split at hr
        · cases hr
        · rename_i S2 l2 h2
          rcases hx with hx | hx
          · have := a.1 x hx; omega
          · have := Wk_in hg ds ks k hi S1 _ h2 (by simpa using hl) x hx
            omega

theorem W_in {ns : List Nd} : ∀ (f : Nat) (n lo hi : Int) (S : St) (r : St × List Int), W ns f n lo hi S = some r → ∀ x ∈ Fl ns f n, lo ≤ x.key ∧ x.key < hi := by
  intro f
  induction f with
  | zero => intro n lo hi S r h; cases h
  | succ f ih =>
    intro n lo hi S r h x hx
    unfold W at h
    split at h
    · cases h
    · unfold Fl at hx
      split at h
      · split at h
        · rename_i hl
          obtain ⟨h1, h2, h3, _, _, h6⟩ := leafB_iff.1 hl
          simp only [h2, h3, List.nil_append, List.flatMap_nil, List.append_nil] at hx
          exact entsB_in h6 (Int.le_refl _) x hx
        · cases h
      · split at h
        · rename_i hin
          obtain ⟨h1, h2, h3, h4, h5, h6⟩ := innerB_kids hin
          simp only [h1, List.append_nil, List.mem_append] at hx
          rcases hx with hx | hx
          · exact entsB_in h6 (Int.le_refl _) x hx
          · exact Wk_in (fun d lo hi S r h => ⟨ih d lo hi S r h, W_low f d lo hi S r h⟩) _ _ _ _ _ _ h h4 x hx
        · cases h

theorem filter_none {low high lo hi : Int} {l : List En} (h : ∀ x ∈ l, lo ≤ x.key ∧ x.key < hi) (hs : high ≤ lo ∨ hi ≤ low) : l.filter (inR low high) = [] := by
  rw [List.filter_eq_nil_iff]
  intro x hx
  have := h x hx
  simp only [inR, Bool.and_eq_true, decide_eq_true_eq]
  omega

theorem Wk_filter {g : Int → Int → Int → St → Option (St × List Int)} {F G : Int → List En} {low high : Int} (hg : ∀ d lo hi S r, g d lo hi S = some r → (∀ x ∈ F d, lo ≤ x.key ∧ x.key < hi) ∧ G d = (F d).filter (inR low high)) :
    ∀ (ds keys : List Int) (lo hi : Int) (S : St) (r : St × List Int) (pr : Option Int), Wk g ds keys lo hi S = some r → keys.length + 1 = ds.length → (∀ k, pr = some k → k = lo) → WlK G low high ds keys pr = (ds.flatMap F).filter (inR low high)
  | [], _, _, _, _, _, _, _, h, _ => by simp at h
  | d :: ds, keys, lo, hi, S, r, pr, hr, hl, hp => by
    unfold Wk at hr
    split at hr
    · cases hr
    · rename_i S1 l1 h1
      have a := hg _ _ _ _ _ h1
      simp only [WlK, List.flatMap_cons, List.filter_append]
      have hd : (if skipB low high pr keys.head? = true then [] else G d) = (F d).filter (inR low high) := by
        split
        · rename_i hs
          symm
          refine filter_none a.1 ?_
          simp only [skipB, Bool.or_eq_true, Option.any_eq_true, decide_eq_true_eq] at hs
          rcases hs with ⟨k, hk, hh⟩ | ⟨k, hk, hh⟩
          · have := hp k hk; omega
          · right
            cases keys with
            | nil => simp at hk
            | cons k' ks => simp at hk; subst hk; simpa using hh
        · exact a.2
      rw [hd]
      cases keys with
      | nil =>
        have hds : ds = [] := by cases ds with | nil => rfl | cons _ _ => simp at hl
        subst hds
        simp [WlK]
      | cons k ks =>
        simp only [List.headD_cons, List.tail_cons, List.head?_cons] at hr ⊢
        split at hr
        · cases hr
        · rename_i S2 l2 h2
          rw [Wk_filter hg ds ks k hi S1 _ (some k) h2 (by simpa using hl) (fun _ h => by cases h; rfl)]

/-- The code's walk comes to what of all is within the keys. -/
theorem Wl_eq {ns : List Nd} {low high : Int} : ∀ (f : Nat) (n lo hi : Int) (S : St) (r : St × List Int), W ns f n lo hi S = some r → Wl ns low high f n = (Fl ns f n).filter (inR low high) := by
  intro f
  induction f with
  | zero => intro n lo hi S r h; cases h
  | succ f ih =>
    intro n lo hi S r h
    have h0 := h
    unfold W at h
    split at h
    · cases h
    · unfold Wl Fl
      simp only [List.filter_append]
      congr 1
      split at h
      · split at h
        · rename_i hl
          obtain ⟨h1, h2, _⟩ := leafB_iff.1 hl
          rw [h2]
          rfl
        · cases h
      · split at h
        · rename_i hin
          obtain ⟨h1, h2, h3, h4, _⟩ := innerB_kids hin
          exact Wk_filter (fun d lo hi S r h => ⟨W_in f d lo hi S r h, ih d lo hi S r h⟩) _ _ _ _ _ _ _ h h4 (fun _ h => by cases h)
        · cases h

/-! ### The nodes come to, and their entries -/

def allOf (ns : List Nd) (n : Int) : List En := (ns.getD n.toNat default).buf ++ (ns.getD n.toNat default).ents

theorem Wk_perm {ns : List Nd} {g : Int → Int → Int → St → Option (St × List Int)} {F : Int → List En} (hg : ∀ d lo hi S S' l, g d lo hi S = some (S', l) → ∃ T : St, S' = T ++ S ∧ (F d).Perm (T.flatMap fun p => allOf ns p.1)) :
    ∀ (ds keys : List Int) (lo hi : Int) (S S' : St) (l : List Int), Wk g ds keys lo hi S = some (S', l) → ∃ T : St, S' = T ++ S ∧ (ds.flatMap F).Perm (T.flatMap fun p => allOf ns p.1)
  | [], _, _, _, _, _, _, h => by cases h; exact ⟨[], rfl, by simp⟩
  | d :: ds, keys, lo, hi, S, S', l, hr => by
    unfold Wk at hr
    split at hr
    · cases hr
    · rename_i S1 l1 h1
      split at hr
      · cases hr
      · rename_i S2 l2 h2
        cases hr
        obtain ⟨T1, e1, p1⟩ := hg _ _ _ _ _ _ h1
        obtain ⟨T2, e2, p2⟩ := Wk_perm hg _ _ _ _ _ _ _ h2
        refine ⟨T2 ++ T1, by rw [e2, e1, List.append_assoc], ?_⟩
        simp only [List.flatMap_cons, List.flatMap_append]
        exact (p1.append p2).trans List.perm_append_comm

theorem W_perm {ns : List Nd} : ∀ (f : Nat) (n lo hi : Int) (S S' : St) (l : List Int), W ns f n lo hi S = some (S', l) → ∃ T : St, S' = T ++ S ∧ (Fl ns f n).Perm (T.flatMap fun p => allOf ns p.1) := by
  intro f
  induction f with
  | zero => intro n lo hi S S' l h; cases h
  | succ f ih =>
    intro n lo hi S S' l h
    unfold W at h
    split at h
    · cases h
    · unfold Fl
      split at h
      · split at h
        · rename_i hl
          obtain ⟨_, h2, _⟩ := leafB_iff.1 hl
          cases h
          refine ⟨[(n, 12 - (f : Int))], rfl, ?_⟩
          rw [h2]
          simp only [List.flatMap_nil, List.append_nil, List.flatMap_cons, allOf]
          exact List.Perm.refl _
        · cases h
      · split at h
        · obtain ⟨T, e, p⟩ := Wk_perm ih _ _ _ _ _ _ _ h
          refine ⟨T ++ [(n, 12 - (f : Int))], by rw [e]; simp, ?_⟩
          simp only [List.flatMap_append, List.flatMap_cons, List.flatMap_nil, List.append_nil]
          exact (List.Perm.append_left _ p).trans List.perm_append_comm
        · cases h

/-- What the nodes of a tree that may be hold is what is come to from its root. -/
theorem tree_perm {ns : List Nd} {root : Int} (h : treeC ns root = 0) : (Fl ns 12 root).Perm (ns.flatMap fun x => x.buf ++ x.ents) := by
  unfold treeC at h
  split at h
  · omega
  · cases hW : W ns 12 root 0 1099511627776 [] with
    | none => rw [hW] at h; simp at h
    | some p =>
      obtain ⟨S, l⟩ := p
      rw [hW] at h
      simp only at h
      split at h
      · rename_i hc
        obtain ⟨T, e, pm⟩ := W_perm 12 _ _ _ _ _ _ hW
        simp at e
        subst e
        have hst := (W_st 12 _ _ _ _ _ _ hW ⟨by simp, by simp⟩).1
        have hseen := (all_seen hst).1 hc.2
        have hpm : (S.map (·.1)).Perm ((List.range ns.length).map fun i : Nat => (i : Int)) := by
          rw [List.perm_ext_iff_of_nodup hst.1 (by
            rw [List.Nodup, List.pairwise_map]
            exact List.nodup_range.imp (fun h e => h (by omega)))]
          intro a
          constructor
          · intro ha
            obtain ⟨p, hp, rfl⟩ := List.mem_map.1 ha
            have := hst.2 p hp
            exact List.mem_map.2 ⟨p.1.toNat, by simp; omega, by omega⟩
          · intro ha
            obtain ⟨i, hi, rfl⟩ := List.mem_map.1 ha
            exact seenB_iff.1 (hseen i (by simpa using hi))
        refine pm.trans ?_
        have e1 : (S.flatMap fun p => allOf ns p.1) = (S.map (·.1)).flatMap (allOf ns) := by rw [List.flatMap_map]
        rw [e1]
        refine (hpm.flatMap_right _).trans ?_
        rw [List.flatMap_map]
        have e2 : (List.range ns.length).flatMap (fun i => allOf ns ((i : Nat) : Int)) = ns.flatMap fun x => x.buf ++ x.ents := by
          rw [List.flatMap_def, List.flatMap_def]
          congr 1
          apply List.ext_getElem?
          intro i
          by_cases hi : i < ns.length
          · simp [hi, allOf]
          · simp [hi]
        rw [e2]
      · omega

end Go.Proofs.YtlojfgdpmaigmafDoor

/- Names of series: base.Name, and the document's NameMay. -/
namespace Go.Proofs.YtlojfgdpmaigmafDoor
open Go.RowKit Plain

/-- May a byte be in a name? -/
def chB (c : Int) : Bool := inB c 97 122 || inB c 48 57 || decide (c = 46)
/-- May a text be a name? -/
def nameB (s : ByteArray) : Bool := inB s.size 1 10 && s.data.toList.all fun c => chB c.toNat

theorem bytes_all (s : ByteArray) (f : UInt8 → Bool) : s.data.toList.all f = true ↔ ∀ j (hj : j < s.size), f s[j] = true := by
  rw [List.all_eq_true]
  constructor
  · intro h j hj
    exact h _ (by rw [ByteArray.getElem_eq_getElem_data]; simp)
  · intro h x hx
    obtain ⟨j, hj, rfl⟩ := List.getElem_of_mem hx
    have := h j (by simpa using hj)
    rw [ByteArray.getElem_eq_getElem_data] at this
    simpa using this

theorem name_yes {s : ByteArray} (h : inB s.size 1 10 = true) (ha : ∀ j (hj : j < s.size), j < s.size → chB s[j].toNat = true) : nameB s = true := by
  unfold nameB
  rw [h, Bool.true_and, bytes_all]
  exact fun j hj => ha j hj hj

theorem name_no {s : ByteArray} {k : Nat} (hk : k < s.size) (hc : chB s[k].toNat = false) : nameB s = false := by
  cases hn : nameB s with
  | false => rfl
  | true =>
    unfold nameB at hn
    rw [Bool.and_eq_true, bytes_all] at hn
    have := hn.2 k hk
    rw [hc] at this
    cases this

theorem name_size {s : ByteArray} (h : inB s.size 1 10 = false) : nameB s = false := by
  unfold nameB
  rw [h, Bool.false_and]

theorem inName_any (c : Int) (w : World) : Calls Tryd.prog 46 #[.int .u8 c] w fun e w' => e = .returned (.bool (chB c)) ∧ w' = w := by
  unfold chB inB
  by_cases h1 : 97 ≤ c <;> by_cases h2 : c ≤ 122 <;> by_cases h3 : 48 ≤ c <;> by_cases h4 : c ≤ 57 <;> by_cases h5 : c = 46 <;>
  · have h5' : (c == 46) = decide (c = 46) := rfl
    go_enter Tryd.func46, Tryd.ntmps46
    go_wp2
    go_ret
    exact ⟨by simp [*], rfl⟩

/-- The first k bytes may be in a name. -/
def Upto (s : ByteArray) (k : Nat) : Prop := ∀ j (hj : j < s.size), j < k → chB s[j].toNat = true

theorem Upto.next {s : ByteArray} {k : Nat} (h : Upto s k) (hk : k < s.size) (hc : chB s[k].toNat = true) : Upto s (k + 1) := fun j hj hjk => by
  by_cases e : j = k
  · subst e
    exact hc
  · exact h j hj (by omega)

set_option maxRecDepth 20000 in
set_option maxHeartbeats 4000000 in
theorem name_any (s : ByteArray) (w : World) : Calls Tryd.prog 32 #[.string s] w fun e w' => e = .returned (.bool (nameB s)) ∧ w' = w := by
  obtain ⟨nb, hnb⟩ : ∃ nb, nb = nameB s := ⟨_, rfl⟩
  have HN : Hid (nb = nameB s) := hnb
  rw [← hnb]
  clear hnb
  by_cases h : inB s.size 1 10 = true
  · have h' := (inB_iff _ _ _).1 h
    have hd1 : decide ((s.size : Int) < 1) = false := by simp; omega
    have hd2 : decide (10 < (s.size : Int)) = false := by simp; omega
    go_enter Tryd.func32, Tryd.ntmps32
    go_wp2_with fail
    go_loopw [14] (fun vi wr => ∃ k : Nat, k ≤ s.size ∧ vi = .int .i64 k ∧ Hid (Upto s k) ∧ wr = w) (fun vi _ => s.size - (intOf vi).toNat)
    case atStart => exact ⟨0, Nat.zero_le _, rfl, (fun j _ hj => by omega), rfl⟩
    case round =>
      obtain ⟨k, hk, rfl, HA, hw⟩ := hrel
      subst hw
      by_cases hlt : k < s.size
      · by_cases hc : chB s[k].toNat = true
        · have HB : Hid (Upto s (k + 1)) := HA.out.next hlt hc
          go_wp2_with (go_at_call 46; refine (inName_any _ _).mono ?_; rintro e w1 ⟨rfl, hw1⟩; subst w1)
          exact ⟨⟨k + 1, hlt, by go_num, HB, by trivial⟩, by simp only [intOf]; omega⟩
        · have hc' : chB s[k].toNat = false := by simpa using hc
          have HF : Hid (nb = false) := HN.out.trans (name_no hlt hc')
          clear hc
          go_wp2_with (go_at_call 46; refine (inName_any _ _).mono ?_; rintro e w1 ⟨rfl, hw1⟩; subst w1)
          go_ret
          exact ⟨by rw [HF.out]; rfl, rfl⟩
      · have HT : Hid (nb = true) := HN.out.trans (name_yes h (fun j hj _ => HA.out j hj (by omega)))
        go_wp2_with fail
        go_ret
        exact ⟨by rw [HT.out]; rfl, rfl⟩
  · have h0 : inB s.size 1 10 = false := by simpa using h
    have HF : Hid (nb = false) := HN.out.trans (name_size h0)
    have h' := (inB_not _ _ _).1 h0
    clear h h0
    rcases h' with h' | h'
    · have h2 : ¬ (10 < (s.size : Int)) := by omega
      go_enter Tryd.func32, Tryd.ntmps32
      go_wp2_with fail
      go_ret
      exact ⟨by rw [HF.out]; rfl, rfl⟩
    · have h2 : ¬ ((s.size : Int) < 1) := by omega
      go_enter Tryd.func32, Tryd.ntmps32
      go_wp2_with fail
      go_ret
      exact ⟨by rw [HF.out]; rfl, rfl⟩

set_option maxRecDepth 20000 in
set_option maxHeartbeats 4000000 in
theorem nameMay_any (s : ByteArray) (w : World) (hs : s.size ≤ maxLen) : Calls Tryd.prog 27 #[.string s] w fun e w' => e = .returned (.bool (nameB s)) ∧ w' = w := by
  obtain ⟨nb, hnb⟩ : ∃ nb, nb = nameB s := ⟨_, rfl⟩
  have HN : Hid (nb = nameB s) := hnb
  rw [← hnb]
  clear hnb
  have hs' : s.size ≤ 9223372036854775807 := hs
  go_enter Tryd.func27, Tryd.ntmps27
  go_wp2_with fail
  go_loopw [3] (fun vi wr => ∃ k : Nat, k ≤ s.size ∧ vi = .int .i64 k ∧ Hid (Upto s k) ∧ wr = w) (fun vi _ => s.size - (intOf vi).toNat)
  case atStart => exact ⟨0, Nat.zero_le _, rfl, (fun j _ hj => by omega), rfl⟩
  case round =>
    obtain ⟨k, hk, rfl, HA, hw⟩ := hrel
    subst hw
    by_cases hlt : k < s.size
    · obtain ⟨c, hc⟩ : ∃ c : Int, c = s[k].toNat := ⟨_, rfl⟩
      have hb : 0 ≤ c ∧ c ≤ 255 := by
        have := s[k].toNat_lt
        omega
      have HB : Hid (chB c = true → Upto s (k + 1)) := fun q => HA.out.next hlt (by rw [← hc]; exact q)
      have HF : Hid (chB c = false → nb = false) := fun q => HN.out.trans (name_no hlt (by rw [← hc]; exact q))
      by_cases h1 : inB c 97 122 = true
      · have H1 : Hid (Upto s (k + 1)) := HB.out (by unfold chB; rw [h1]; rfl)
        rw [hc] at h1
        go_wp2_with (go_at_call 26; refine (in_any _ _ _ _).mono ?_; rintro e w1 ⟨rfl, hw1⟩; subst w1)
        exact ⟨⟨k + 1, hlt, by go_num, H1, by trivial⟩, by simp only [intOf]; omega⟩
      · have h1 : inB c 97 122 = false := by simpa using h1
        by_cases h2 : inB c 48 57 = true
        · have H1 : Hid (Upto s (k + 1)) := HB.out (by unfold chB; rw [h1, h2]; rfl)
          rw [hc] at h1 h2
          go_wp2_with (go_at_call 26; refine (in_any _ _ _ _).mono ?_; rintro e w1 ⟨rfl, hw1⟩; subst w1)
          exact ⟨⟨k + 1, hlt, by go_num, H1, by trivial⟩, by simp only [intOf]; omega⟩
        · have h2 : inB c 48 57 = false := by simpa using h2
          by_cases h3 : c = 46
          · have H1 : Hid (Upto s (k + 1)) := HB.out (by unfold chB; rw [h1, h2, h3]; rfl)
            rw [hc] at h1 h2 h3
            have h3' : ((s[k].toNat : Int) != 46) = false := by simpa using h3
            go_wp2_with (go_at_call 26; refine (in_any _ _ _ _).mono ?_; rintro e w1 ⟨rfl, hw1⟩; subst w1)
            exact ⟨⟨k + 1, hlt, by go_num, H1, by trivial⟩, by simp only [intOf]; omega⟩
          · have H1 : Hid (nb = false) := HF.out (by unfold chB; rw [h1, h2]; simp [h3])
            rw [hc] at h1 h2 h3
            have h3' : ((s[k].toNat : Int) != 46) = true := by simpa using h3
            go_wp2_with (go_at_call 26; refine (in_any _ _ _ _).mono ?_; rintro e w1 ⟨rfl, hw1⟩; subst w1)
            go_ret
            exact ⟨by rw [H1.out]; rfl, rfl⟩
    · have H1 : Hid (nb = inB s.size 1 10) := by
        show _ = _
        rw [HN.out]
        cases h : inB s.size 1 10 with
        | true => exact name_yes h (fun j hj _ => HA.out j hj (by omega))
        | false => exact name_size h
      go_wp2_with (go_at_call 26; refine (in_any _ _ _ _).mono ?_; rintro e w1 ⟨rfl, hw1⟩; subst w1)
      go_ret
      exact ⟨by rw [H1.out]; rfl, rfl⟩

end Go.Proofs.YtlojfgdpmaigmafDoor

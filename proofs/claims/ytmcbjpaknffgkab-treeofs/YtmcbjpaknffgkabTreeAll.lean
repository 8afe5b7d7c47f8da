/- All entries of a tree that may be, as the code walks them and as they stand in the nodes: the same ones, in another order. -/
import Derived.Test.YtmcbjpaknffgkabTreeW2
namespace Go.Proofs.Ytmcbjpaknffgkab
open Go.RowKit Plain

def inR (low high : Int) (x : En) : Bool := decide (low ≤ x.key) && decide (x.key < high)

/-- All entries from a node on. -/
def Fl (ns : List Nd) : Nat → Int → List En
  | 0, _ => []
  | f + 1, n => (ns.getD n.toNat default).buf ++ (ns.getD n.toNat default).ents ++ (ns.getD n.toNat default).kids.flatMap (Fl ns f)

/-- Is a kid passed by? 'pr': the key ahead of it; 'nx': the one behind it. -/
def skipB (low high : Int) (pr nx : Option Int) : Bool := (pr.any fun k => decide (high ≤ k)) || (nx.any fun k => decide (k ≤ low))

def WlK (g : Int → List En) (low high : Int) : List Int → List Int → Option Int → List En
  | [], _, _ => []
  | d :: ds, keys, pr => (if skipB low high pr keys.head? = true then [] else g d) ++ WlK g low high ds keys.tail keys.head?

/-- The entries of keys from low on, below high, as the code walks them. -/
def Wl (ns : List Nd) (low high : Int) : Nat → Int → List En
  | 0, _ => []
  | f + 1, n => (ns.getD n.toNat default).buf.filter (inR low high) ++ (ns.getD n.toNat default).ents.filter (inR low high) ++
      WlK (Wl ns low high f) low high (ns.getD n.toNat default).kids (ns.getD n.toNat default).keys none

theorem entsB_in {lo hi : Int} : ∀ {xs : List En} {low : Int}, entsB xs low hi = true → lo ≤ low → ∀ x ∈ xs, lo ≤ x.key ∧ x.key < hi
  | [], _, _, _, x, hx => by simp at hx
  | y :: r, low, h, hl, x, hx => by
    simp only [entsB, entB, Bool.and_eq_true, decide_eq_true_eq] at h
    rcases List.mem_cons.1 hx with rfl | hx
    · omega
    · exact entsB_in h.2 (by omega) x hx

/-- What W lets pass lies within its keys. -/
theorem Wk_in {g : Int → Int → Int → St → Option (St × List Int)} {F : Int → List En} (hg : ∀ d lo hi S r, g d lo hi S = some r → (∀ x ∈ F d, lo ≤ x.key ∧ x.key < hi) ∧ lo < hi) :
    ∀ (ds keys : List Int) (lo hi : Int) (S : St) (r : St × List Int), Wk g ds keys lo hi S = some r → keys.length + 1 = ds.length → ∀ x ∈ ds.flatMap F, lo ≤ x.key ∧ x.key < hi
  | [], _, _, _, _, _, _, _, x, hx => by simp at hx
  | d :: ds, keys, lo, hi, S, r, hr, hl, x, hx => by
    have hlow := Wk_low (fun d lo hi S r h => (hg d lo hi S r h).2) _ _ _ _ _ _ hr (by simp) hl
    unfold Wk at hr
    split at hr
    · cases hr
    · rename_i S1 l1 h1
      have a := hg _ _ _ _ _ h1
      simp only [List.flatMap_cons, List.mem_append] at hx
      cases keys with
      | nil =>
        have hds : ds = [] := by cases ds with | nil => rfl | cons _ _ => simp at hl
        subst hds
        simp at hx
        simpa using a.1 x hx
      | cons k ks =>
        simp only [List.headD_cons, List.tail_cons] at a hr
        have hk := hlow.2 k List.mem_cons_self
        split at hr
        · cases hr
        · rename_i S2 l2 h2
          rcases hx with hx | hx
          · have := a.1 x hx; omega
          · have := Wk_in hg ds ks k hi S1 _ h2 (by simpa using hl) x hx
            omega

theorem W_in {ns : List Nd} : ∀ (f : Nat) (n lo hi : Int) (S : St) (r : St × List Int), W ns f n lo hi S = some r → ∀ x ∈ Fl ns f n, lo ≤ x.key ∧ x.key < hi := by
  intro f
  induction f with
  | zero => intro n lo hi S r h; cases h
  | succ f ih =>
    intro n lo hi S r h x hx
    unfold W at h
    split at h
    · cases h
    · unfold Fl at hx
      split at h
      · split at h
        · rename_i hl
          obtain ⟨h1, h2, h3, _, _, h6⟩ := leafB_iff.1 hl
          simp only [h2, h3, List.nil_append, List.flatMap_nil, List.append_nil] at hx
          exact entsB_in h6 (Int.le_refl _) x hx
        · cases h
      · split at h
        · rename_i hin
          obtain ⟨h1, h2, h3, h4, h5, h6⟩ := innerB_kids hin
          simp only [h1, List.append_nil, List.mem_append] at hx
          rcases hx with hx | hx
          · exact entsB_in h6 (Int.le_refl _) x hx
          · exact Wk_in (fun d lo hi S r h => ⟨ih d lo hi S r h, W_low f d lo hi S r h⟩) _ _ _ _ _ _ h h4 x hx
        · cases h

theorem filter_none {low high lo hi : Int} {l : List En} (h : ∀ x ∈ l, lo ≤ x.key ∧ x.key < hi) (hs : high ≤ lo ∨ hi ≤ low) : l.filter (inR low high) = [] := by
  rw [List.filter_eq_nil_iff]
  intro x hx
  have := h x hx
  simp only [inR, Bool.and_eq_true, decide_eq_true_eq]
  omega

theorem Wk_filter {g : Int → Int → Int → St → Option (St × List Int)} {F G : Int → List En} {low high : Int} (hg : ∀ d lo hi S r, g d lo hi S = some r → (∀ x ∈ F d, lo ≤ x.key ∧ x.key < hi) ∧ G d = (F d).filter (inR low high)) :
    ∀ (ds keys : List Int) (lo hi : Int) (S : St) (r : St × List Int) (pr : Option Int), Wk g ds keys lo hi S = some r → keys.length + 1 = ds.length → (∀ k, pr = some k → k = lo) → WlK G low high ds keys pr = (ds.flatMap F).filter (inR low high)
  | [], _, _, _, _, _, _, _, h, _ => by simp at h
  | d :: ds, keys, lo, hi, S, r, pr, hr, hl, hp => by
    unfold Wk at hr
    split at hr
    · cases hr
    · rename_i S1 l1 h1
      have a := hg _ _ _ _ _ h1
      simp only [WlK, List.flatMap_cons, List.filter_append]
      have hd : (if skipB low high pr keys.head? = true then [] else G d) = (F d).filter (inR low high) := by
        split
        · rename_i hs
          symm
          refine filter_none a.1 ?_
          simp only [skipB, Bool.or_eq_true, Option.any_eq_true, decide_eq_true_eq] at hs
          rcases hs with ⟨k, hk, hh⟩ | ⟨k, hk, hh⟩
          · have := hp k hk; omega
          · right
            cases keys with
            | nil => simp at hk
            | cons k' ks => simp at hk; subst hk; simpa using hh
        · exact a.2
      rw [hd]
      cases keys with
      | nil =>
        have hds : ds = [] := by cases ds with | nil => rfl | cons _ _ => simp at hl
        subst hds
        simp [WlK]
      | cons k ks =>
        simp only [List.headD_cons, List.tail_cons, List.head?_cons] at hr ⊢
        split at hr
        · cases hr
        · rename_i S2 l2 h2
          rw [Wk_filter hg ds ks k hi S1 _ (some k) h2 (by simpa using hl) (fun _ h => by cases h; rfl)]

/-- The code's walk comes to what of all is within the keys. -/
theorem Wl_eq {ns : List Nd} {low high : Int} : ∀ (f : Nat) (n lo hi : Int) (S : St) (r : St × List Int), W ns f n lo hi S = some r → Wl ns low high f n = (Fl ns f n).filter (inR low high) := by
  intro f
  induction f with
  | zero => intro n lo hi S r h; cases h
  | succ f ih =>
    intro n lo hi S r h
    have h0 := h
    unfold W at h
    split at h
    · cases h
    · unfold Wl Fl
      simp only [List.filter_append]
      congr 1
      split at h
      · split at h
        · rename_i hl
          obtain ⟨h1, h2, _⟩ := leafB_iff.1 hl
          rw [h2]
          rfl
        · cases h
      · split at h
        · rename_i hin
          obtain ⟨h1, h2, h3, h4, _⟩ := innerB_kids hin
          exact Wk_filter (fun d lo hi S r h => ⟨W_in f d lo hi S r h, ih d lo hi S r h⟩) _ _ _ _ _ _ _ h h4 (fun _ h => by cases h)
        · cases h

/-! ### The nodes come to, and their entries -/

def allOf (ns : List Nd) (n : Int) : List En := (ns.getD n.toNat default).buf ++ (ns.getD n.toNat default).ents

theorem Wk_perm {ns : List Nd} {g : Int → Int → Int → St → Option (St × List Int)} {F : Int → List En} (hg : ∀ d lo hi S S' l, g d lo hi S = some (S', l) → ∃ T : St, S' = T ++ S ∧ (F d).Perm (T.flatMap fun p => allOf ns p.1)) :
    ∀ (ds keys : List Int) (lo hi : Int) (S S' : St) (l : List Int), Wk g ds keys lo hi S = some (S', l) → ∃ T : St, S' = T ++ S ∧ (ds.flatMap F).Perm (T.flatMap fun p => allOf ns p.1)
  | [], _, _, _, _, _, _, h => by cases h; exact ⟨[], rfl, by simp⟩
  | d :: ds, keys, lo, hi, S, S', l, hr => by
    unfold Wk at hr
    split at hr
    · cases hr
    · rename_i S1 l1 h1
      split at hr
      · cases hr
      · rename_i S2 l2 h2
        cases hr
        obtain ⟨T1, e1, p1⟩ := hg _ _ _ _ _ _ h1
        obtain ⟨T2, e2, p2⟩ := Wk_perm hg _ _ _ _ _ _ _ h2
        refine ⟨T2 ++ T1, by rw [e2, e1, List.append_assoc], ?_⟩
        simp only [List.flatMap_cons, List.flatMap_append]
        exact (p1.append p2).trans List.perm_append_comm

theorem W_perm {ns : List Nd} : ∀ (f : Nat) (n lo hi : Int) (S S' : St) (l : List Int), W ns f n lo hi S = some (S', l) → ∃ T : St, S' = T ++ S ∧ (Fl ns f n).Perm (T.flatMap fun p => allOf ns p.1) := by
  intro f
  induction f with
  | zero => intro n lo hi S S' l h; cases h
  | succ f ih =>
    intro n lo hi S S' l h
    unfold W at h
    split at h
    · cases h
    · unfold Fl
      split at h
      · split at h
        · rename_i hl
          obtain ⟨_, h2, _⟩ := leafB_iff.1 hl
          cases h
          refine ⟨[(n, 12 - (f : Int))], rfl, ?_⟩
          rw [h2]
          simp only [List.flatMap_nil, List.append_nil, List.flatMap_cons, allOf]
          exact List.Perm.refl _
        · cases h
      · split at h
        · obtain ⟨T, e, p⟩ := Wk_perm ih _ _ _ _ _ _ _ h
          refine ⟨T ++ [(n, 12 - (f : Int))], by rw [e]; simp, ?_⟩
          simp only [List.flatMap_append, List.flatMap_cons, List.flatMap_nil, List.append_nil]
          exact (List.Perm.append_left _ p).trans List.perm_append_comm
        · cases h

/-- What the nodes of a tree that may be hold is what is come to from its root. -/
theorem tree_perm {ns : List Nd} {root : Int} (h : treeC ns root = 0) : (Fl ns 12 root).Perm (ns.flatMap fun x => x.buf ++ x.ents) := by
  unfold treeC at h
  split at h
  · omega
  · cases hW : W ns 12 root 0 1099511627776 [] with
    | none => rw [hW] at h; simp at h
    | some p =>
      obtain ⟨S, l⟩ := p
      rw [hW] at h
      simp only at h
      split at h
      · rename_i hc
        obtain ⟨T, e, pm⟩ := W_perm 12 _ _ _ _ _ _ hW
        simp at e
        subst e
        have hst := (W_st 12 _ _ _ _ _ _ hW ⟨by simp, by simp⟩).1
        have hseen := (all_seen hst).1 hc.2
        have hpm : (S.map (·.1)).Perm ((List.range ns.length).map fun i : Nat => (i : Int)) := by
          rw [List.perm_ext_iff_of_nodup hst.1 (by
            rw [List.Nodup, List.pairwise_map]
            exact List.nodup_range.imp (fun h e => h (by omega)))]
          intro a
          constructor
          · intro ha
            obtain ⟨p, hp, rfl⟩ := List.mem_map.1 ha
            have := hst.2 p hp
            exact List.mem_map.2 ⟨p.1.toNat, by simp; omega, by omega⟩
          · intro ha
            obtain ⟨i, hi, rfl⟩ := List.mem_map.1 ha
            exact seenB_iff.1 (hseen i (by simpa using hi))
        refine pm.trans ?_
        have e1 : (S.flatMap fun p => allOf ns p.1) = (S.map (·.1)).flatMap (allOf ns) := by rw [List.flatMap_map]
        rw [e1]
        refine (hpm.flatMap_right _).trans ?_
        rw [List.flatMap_map]
        have e2 : (List.range ns.length).flatMap (fun i => allOf ns ((i : Nat) : Int)) = ns.flatMap fun x => x.buf ++ x.ents := by
          rw [List.flatMap_def, List.flatMap_def]
          congr 1
          apply List.ext_getElem?
          intro i
          by_cases hi : i < ns.length
          · simp [hi, allOf]
          · simp [hi]
        rw [e2]
      · omega

end Go.Proofs.Ytmcbjpaknffgkab

/- Plain facts on the document's AllOf: what the nodes of a tree that may be hold, and what comes of putting it together. -/
import Derived.Test.YtlojfgdpmaigmafDoorTogeth
import Derived.Test.YtlojfgdpmaigmafDoorP09
namespace Go.Proofs.YtlojfgdpmaigmafDoor
open Go.RowKit Plain

def NodeOk (x : Nd) : Prop := x.ents.length ≤ 6 ∧ x.buf.length ≤ 8 ∧ (∀ y ∈ x.ents, Good y.ru) ∧ ∀ y ∈ x.buf, Good y.ru

theorem leaf_ok {x : Nd} {low high : Int} {f : Nat} (h : leafB x low high f = true) : NodeOk x := by
  obtain ⟨_, _, h3, h4, _, h6⟩ := leafB_iff.1 h
  exact ⟨h4, by rw [h3]; simp, entsB_good h6, by rw [h3]; simp⟩

theorem inner_ok {x : Nd} {low high : Int} (h : innerB x low high = true) : NodeOk x := by
  obtain ⟨h1, _, _, _, h5, h6⟩ := innerB_kids h
  exact ⟨by rw [h1]; simp, h5, by rw [h1]; simp, entsB_good h6⟩

theorem Wk_each {ns : List Nd} {g : Int → Int → Int → St → Option (St × List Int)} (hg : ∀ d lo hi S S' l, g d lo hi S = some (S', l) → ∀ p ∈ S', p ∈ S ∨ NodeOk (ns.getD p.1.toNat default)) :
    ∀ (ds keys : List Int) (lo hi : Int) (S S' : St) (l : List Int), Wk g ds keys lo hi S = some (S', l) → ∀ p ∈ S', p ∈ S ∨ NodeOk (ns.getD p.1.toNat default)
  | [], _, _, _, _, _, _, h, p, hp => by cases h; exact .inl hp
  | d :: ds, keys, lo, hi, S, S', l, hr, p, hp => by
    unfold Wk at hr
    split at hr
    · cases hr
    · rename_i S1 l1 h1
      split at hr
      · cases hr
      · rename_i S2 l2 h2
        cases hr
        rcases Wk_each hg _ _ _ _ _ _ _ h2 p hp with h | h
        · exact hg _ _ _ _ _ _ h1 p h
        · exact .inr h

theorem W_each {ns : List Nd} : ∀ (f : Nat) (n lo hi : Int) (S S' : St) (l : List Int), W ns f n lo hi S = some (S', l) → ∀ p ∈ S', p ∈ S ∨ NodeOk (ns.getD p.1.toNat default) := by
  intro f
  induction f with
  | zero => intro n lo hi S S' l h; cases h
  | succ f ih =>
    intro n lo hi S S' l h p hp
    unfold W at h
    split at h
    · cases h
    · split at h
      · split at h
        · rename_i hl
          cases h
          rcases List.mem_cons.1 hp with rfl | hp
          · exact .inr (leaf_ok hl)
          · exact .inl hp
        · cases h
      · split at h
        · rename_i hin
          rcases Wk_each ih _ _ _ _ _ _ _ h p hp with h | h
          · rcases List.mem_cons.1 h with rfl | h
            · exact .inr (inner_ok hin)
            · exact .inl h
          · exact .inr h
        · cases h

theorem tree_each {ns : List Nd} {root : Int} (h : treeC ns root = 0) : ns.length ≤ 2000 ∧ ∀ i (hi : i < ns.length), NodeOk ns[i] := by
  unfold treeC at h
  split at h
  · omega
  · rename_i hn
    refine ⟨by omega, fun i hi => ?_⟩
    cases hW : W ns 12 root 0 1099511627776 [] with
    | none => rw [hW] at h; simp at h
    | some p =>
      obtain ⟨S, l⟩ := p
      rw [hW] at h
      simp only at h
      split at h
      · rename_i hc
        have hst := (W_st 12 _ _ _ _ _ _ hW ⟨by simp, by simp⟩).1
        have hseen := (all_seen hst).1 hc.2 i hi
        obtain ⟨p, hp, hpe⟩ := List.mem_map.1 (seenB_iff.1 hseen)
        rcases W_each 12 _ _ _ _ _ _ hW p hp with h | h
        · simp at h
        · rw [hpe] at h
          simpa [hi] using h
      · omega

/-- What the document has come to behind i nodes and k entries of the next one. -/
def Nd.lst (x : Nd) : List En := x.ents ++ x.buf
def soFar (ns : List Nd) (i k : Nat) : List En := (ns.take i).flatMap Nd.lst ++ ((ns.getD i default).lst).take k

def allR (low high : Int) (xs : List En) : Option (List En) := allL (xs.filter (inR low high))

theorem allL_snoc (xs : List En) (x : En) : allL (xs ++ [x]) = insO (allL xs) x := by simp [allL]

theorem allR_snoc {low high : Int} {xs : List En} {x : En} : allR low high (xs ++ [x]) = if inR low high x = true then insO (allR low high xs) x else allR low high xs := by
  unfold allR
  rw [List.filter_append]
  by_cases h : inR low high x = true
  · rw [if_pos h, List.filter_cons_of_pos h]
    exact allL_snoc _ _
  · rw [if_neg h, List.filter_cons_of_neg h]
    simp

theorem soFar_snoc {ns : List Nd} {i k : Nat} (hk : k < ((ns.getD i default).lst).length) : soFar ns i (k + 1) = soFar ns i k ++ [((ns.getD i default).lst)[k]] := by
  unfold soFar
  rw [List.take_succ_eq_append_getElem hk, List.append_assoc]

theorem soFar_next {ns : List Nd} {i : Nat} (hi : i < ns.length) : soFar ns i ((ns.getD i default).lst).length = soFar ns (i + 1) 0 := by
  have hg : ns.getD i default = ns[i] := by simp [hi]
  unfold soFar
  rw [hg, List.take_length, List.take_zero, List.append_nil, List.take_succ_eq_append_getElem hi, List.flatMap_append]
  simp only [List.flatMap_cons, List.flatMap_nil, List.append_nil]

theorem soFar_end (ns : List Nd) : soFar ns ns.length 0 = ns.flatMap Nd.lst := by simp [soFar]

theorem soFar_prefix {ns : List Nd} {i k : Nat} (hi : i < ns.length) : ∃ rest, ns.flatMap Nd.lst = soFar ns i k ++ rest := by
  have hg : ns.getD i default = ns[i] := by simp [hi]
  refine ⟨(ns[i]).lst.drop k ++ (ns.drop (i + 1)).flatMap Nd.lst, ?_⟩
  unfold soFar
  rw [hg]
  have e : ns = ns.take i ++ ns[i] :: ns.drop (i + 1) := by rw [← List.drop_eq_getElem_cons hi, List.take_append_drop]
  conv => lhs; rw [e]
  rw [List.flatMap_append, List.flatMap_cons, List.append_assoc, ← List.append_assoc ((ns[i]).lst.take k), List.take_append_drop]

/-- What can't come together stays so. -/
theorem fold_none : ∀ ys : List En, ys.foldl insO none = none
  | [] => rfl
  | _ :: r => fold_none r
theorem allR_none {low high : Int} {xs ys : List En} (h : allR low high xs = none) : allR low high (xs ++ ys) = none := by
  unfold allR allL at *
  rw [List.filter_append, List.foldl_append, h, fold_none]

theorem ins_good {x : En} (hx : Good x.ru) : ∀ {l r : List En}, (∀ y ∈ l, Good y.ru) → ins l x = some r → (∀ y ∈ r, Good y.ru) ∧ r.length ≤ l.length + 1
  | [], r, _, h => by simp [ins] at h; subst h; simpa using hx
  | y :: l, r, hl, h => by
    have hy := hl y List.mem_cons_self
    have hl' : ∀ z ∈ l, Good z.ru := fun z hz => hl z (List.mem_cons_of_mem _ hz)
    simp only [ins] at h
    split at h
    · cases h
      refine ⟨fun z hz => ?_, by simp⟩
      rcases List.mem_cons.1 hz with rfl | hz
      · exact hx
      · exact hl z hz
    · split at h
      · split at h
        · rename_i hc
          cases h
          refine ⟨fun z hz => ?_, by simp⟩
          rcases List.mem_cons.1 hz with rfl | hz
          · exact good_jn hy hx hc
          · exact hl' z hz
        · cases h
      · cases hr : ins l x with
        | none => rw [hr] at h; cases h
        | some q =>
          rw [hr] at h
          cases h
          have ih := ins_good hx hl' hr
          refine ⟨fun z hz => ?_, by simp; omega⟩
          rcases List.mem_cons.1 hz with rfl | hz
          · exact hy
          · exact ih.1 z hz

end Go.Proofs.YtlojfgdpmaigmafDoor

/- Plain facts on the document's AllOf: what the nodes of a tree that may be hold, and what comes of putting it together. -/
import Derived.Test.YtlojfgdpmaigmadDoorTogeth
import Derived.Test.YtlojfgdpmaigmadDoorP17
namespace Go.Proofs.YtlojfgdpmaigmadDoor
open Go.RowKit Plain

def NodeOk (x : Nd) : Prop := x.ents.length ≤ 6 ∧ x.buf.length ≤ 8 ∧ (∀ y ∈ x.ents, Good y.ru) ∧ ∀ y ∈ x.buf, Good y.ru

theorem leaf_ok {x : Nd} {low high : Int} {f : Nat} (h : leafB x low high f = true) : NodeOk x := by
  obtain ⟨_, _, h3, h4, _, h6⟩ := leafB_iff.1 h
  exact ⟨h4, by rw [h3]; simp, entsB_good h6, by rw [h3]; simp⟩

theorem inner_ok {x : Nd} {low high : Int} (h : innerB x low high = true) : NodeOk x := by
  obtain ⟨h1, _, _, _, h5, h6⟩ := innerB_kids h
  exact ⟨by rw [h1]; simp, h5, by rw [h1]; simp, entsB_good h6⟩

theorem Wk_each {ns : List Nd} {g : Int → Int → Int → St → Option (St × List Int)} (hg : ∀ d lo hi S S' l, g d lo hi S = some (S', l) → ∀ p ∈ S', p ∈ S ∨ NodeOk (ns.getD p.1.toNat default)) :
    ∀ (ds keys : List Int) (lo hi : Int) (S S' : St) (l : List Int), Wk g ds keys lo hi S = some (S', l) → ∀ p ∈ S', p ∈ S ∨ NodeOk (ns.getD p.1.toNat default)
  | [], _, _, _, _, _, _, h, p, hp => by cases h; exact .inl hp
  | d :: ds, keys, lo, hi, S, S', l, hr, p, hp => by
    unfold Wk at hr
    split at hr
    · cases hr
    · rename_i S1 l1 h1
      split at hr
      · cases hr
      · rename_i S2 l2 h2
        cases hr
        rcases Wk_each hg _ _ _ _ _ _ _ h2 p hp with h | h
        · exact hg _ _ _ _ _ _ h1 p h
        · exact .inr h

theorem W_each {ns : List Nd} : ∀ (f : Nat) (n lo hi : Int) (S S' : St) (l : List Int), W ns f n lo hi S = some (S', l) → ∀ p ∈ S', p ∈ S ∨ NodeOk (ns.getD p.1.toNat default) := by
  intro f
  induction f with
  | zero => intro n lo hi S S' l h; cases h
  | succ f ih =>
    intro n lo hi S S' l h p hp
    unfold W at h
    split at h
    · cases h
    · split at h
      · split at h
        · rename_i hl
          cases h
          rcases List.mem_cons.1 hp with rfl | hp
          · exact .inr (leaf_ok hl)
          · exact .inl hp
        · cases h
      · split at h
        · rename_i hin
          rcases Wk_each ih _ _ _ _ _ _ _ h p hp with h | h
          · rcases List.mem_cons.1 h with rfl | h
            · exact .inr (inner_ok hin)
            · exact .inl h
          · exact .inr h
        · cases h

theorem tree_each {ns : List Nd} {root : Int} (h : treeC ns root = 0) : ns.length ≤ 2000 ∧ ∀ i (hi : i < ns.length), NodeOk ns[i] := by
  unfold treeC at h
  split at h
  · omega
  · rename_i hn
    refine ⟨by omega, fun i hi => ?_⟩
    cases hW : W ns 12 root 0 1099511627776 [] with
    | none => rw [hW] at h; simp at h
    | some p =>
      obtain ⟨S, l⟩ := p
      rw [hW] at h
      simp only at h
      split at h
      · rename_i hc
        have hst := (W_st 12 _ _ _ _ _ _ hW ⟨by simp, by simp⟩).1
        have hseen := (all_seen hst).1 hc.2 i hi
        obtain ⟨p, hp, hpe⟩ := List.mem_map.1 (seenB_iff.1 hseen)
        rcases W_each 12 _ _ _ _ _ _ hW p hp with h | h
        · simp at h
        · rw [hpe] at h
          simpa [hi] using h
      · omega

/-- What the document has come to behind i nodes and k entries of the next one. -/
def Nd.lst (x : Nd) : List En := x.ents ++ x.buf
def soFar (ns : List Nd) (i k : Nat) : List En := (ns.take i).flatMap Nd.lst ++ ((ns.getD i default).lst).take k

def allR (low high : Int) (xs : List En) : Option (List En) := allL (xs.filter (inR low high))

theorem allL_snoc (xs : List En) (x : En) : allL (xs ++ [x]) = insO (allL xs) x := by simp [allL]

theorem allR_snoc {low high : Int} {xs : List En} {x : En} : allR low high (xs ++ [x]) = if inR low high x = true then insO (allR low high xs) x else allR low high xs := by
  unfold allR
  rw [List.filter_append]
  by_cases h : inR low high x = true
  · rw [if_pos h, List.filter_cons_of_pos h]
    exact allL_snoc _ _
  · rw [if_neg h, List.filter_cons_of_neg h]
    simp

theorem soFar_snoc {ns : List Nd} {i k : Nat} (hk : k < ((ns.getD i default).lst).length) : soFar ns i (k + 1) = soFar ns i k ++ [((ns.getD i default).lst)[k]] := by
  unfold soFar
  rw [List.take_succ_eq_append_getElem hk, List.append_assoc]

theorem soFar_next {ns : List Nd} {i : Nat} (hi : i < ns.length) : soFar ns i ((ns.getD i default).lst).length = soFar ns (i + 1) 0 := by
  have hg : ns.getD i default = ns[i] := by simp [hi]
  unfold soFar
  rw [hg, List.take_length, List.take_zero, List.append_nil, List.take_succ_eq_append_getElem hi, List.flatMap_append]
  simp only [List.flatMap_cons, List.flatMap_nil, List.append_nil]

theorem soFar_end (ns : List Nd) : soFar ns ns.length 0 = ns.flatMap Nd.lst := by simp [soFar]

theorem soFar_prefix {ns : List Nd} {i k : Nat} (hi : i < ns.length) : ∃ rest, ns.flatMap Nd.lst = soFar ns i k ++ rest := by
  have hg : ns.getD i default = ns[i] := by simp [hi]
  refine ⟨(ns[i]).lst.drop k ++ (ns.drop (i + 1)).flatMap Nd.lst, ?_⟩
  unfold soFar
  rw [hg]
  have e : ns = ns.take i ++ ns[i] :: ns.drop (i + 1) := by rw [← List.drop_eq_getElem_cons hi, List.take_append_drop]
  conv => lhs; rw [e]
  rw [List.flatMap_append, List.flatMap_cons, List.append_assoc, ← List.append_assoc ((ns[i]).lst.take k), List.take_append_drop]

/-- What can't come together stays so. -/
theorem fold_none : ∀ ys : List En, ys.foldl insO none = none
  | [] => rfl
  | _ :: r => fold_none r
theorem allR_none {low high : Int} {xs ys : List En} (h : allR low high xs = none) : allR low high (xs ++ ys) = none := by
  unfold allR allL at *
  rw [List.filter_append, List.foldl_append, h, fold_none]

theorem ins_good {x : En} (hx : Good x.ru) : ∀ {l r : List En}, (∀ y ∈ l, Good y.ru) → ins l x = some r → (∀ y ∈ r, Good y.ru) ∧ r.length ≤ l.length + 1
  | [], r, _, h => by simp [ins] at h; subst h; simpa using hx
  | y :: l, r, hl, h => by
    have hy := hl y List.mem_cons_self
    have hl' : ∀ z ∈ l, Good z.ru := fun z hz => hl z (List.mem_cons_of_mem _ hz)
    simp only [ins] at h
    split at h
    · cases h
      refine ⟨fun z hz => ?_, by simp⟩
      rcases List.mem_cons.1 hz with rfl | hz
      · exact hx
      · exact hl z hz
    · split at h
      · split at h
        · rename_i hc
          cases h
          refine ⟨fun z hz => ?_, by simp⟩
          rcases List.mem_cons.1 hz with rfl | hz
          · exact good_jn hy hx hc
          · exact hl' z hz
        · cases h
      · cases hr : ins l x with
        | none => rw [hr] at h; cases h
        | some q =>
          rw [hr] at h
          cases h
          have ih := ins_good hx hl' hr
          refine ⟨fun z hz => ?_, by simp; omega⟩
          rcases List.mem_cons.1 hz with rfl | hz
          · exact hy
          · exact ih.1 z hz

end Go.Proofs.YtlojfgdpmaigmadDoor

/- Lists of entries that tell the same. In plain terms. -/
namespace Go.Proofs.YtlojfgdpmaigmadDoor
open Go.RowKit Plain

def cntK (k : Int) : List En → Int
  | [] => 0
  | y :: r => (if y.key = k then y.c else 0) + cntK k r

theorem cntK_append (k : Int) : ∀ l m : List En, cntK k (l ++ m) = cntK k l + cntK k m
  | [], m => by simp [cntK]
  | y :: r, m => by simp only [List.cons_append, cntK, cntK_append k r m]; omega

theorem cntK_perm {k : Int} {l m : List En} (h : l.Perm m) : cntK k l = cntK k m := by
  induction h with
  | nil => rfl
  | cons x _ ih => simp only [cntK, ih]
  | swap x y l => simp only [cntK]; omega
  | trans _ _ h1 h2 => rw [h1, h2]

def Pos (l : List En) : Prop := ∀ y ∈ l, 1 ≤ y.c

theorem cntK_nn {k : Int} : ∀ {l : List En}, Pos l → 0 ≤ cntK k l
  | [], _ => Int.le_refl _
  | y :: r, h => by
    have h1 := h y List.mem_cons_self
    have h2 := cntK_nn (k := k) (l := r) fun z hz => h z (List.mem_cons_of_mem _ hz)
    simp only [cntK]
    split <;> omega

theorem Pos.app {l m : List En} (h : Pos l) (k : Pos m) : Pos (l ++ m) := fun y hy => (List.mem_append.1 hy).elim (h y) (k y)
theorem Pos.left {l m : List En} (h : Pos (l ++ m)) : Pos l := fun y hy => h y (List.mem_append_left _ hy)
theorem Pos.right {l m : List En} (h : Pos (l ++ m)) : Pos m := fun y hy => h y (List.mem_append_right _ hy)
theorem Pos.perm {l m : List En} (h : Pos l) (p : l.Perm m) : Pos m := fun y hy => h y (p.mem_iff.2 hy)

/-- Two lists of entries tell the same, whatever else comes. -/
structure Eqv (l m : List En) : Prop where
  all : ∀ r, Pos r → allL (l ++ r) = allL (m ++ r)
  cnt : ∀ k, cntK k l = cntK k m
  posl : Pos l
  posm : Pos m

theorem Eqv.refl {l : List En} (h : Pos l) : Eqv l l := ⟨fun _ _ => rfl, fun _ => rfl, h, h⟩
theorem Eqv.symm {l m : List En} (h : Eqv l m) : Eqv m l := ⟨fun r hr => (h.all r hr).symm, fun k => (h.cnt k).symm, h.posm, h.posl⟩
theorem Eqv.trans {l m n : List En} (h : Eqv l m) (k : Eqv m n) : Eqv l n := ⟨fun r hr => (h.all r hr).trans (k.all r hr), fun q => (h.cnt q).trans (k.cnt q), h.posl, k.posm⟩
theorem Eqv.of_perm {l m : List En} (h : l.Perm m) (hp : Pos l) : Eqv l m := ⟨fun r hr => allL_perm (h.append_right r) (hp.app hr), fun _ => cntK_perm h, hp, hp.perm h⟩
theorem Eqv.app {l m : List En} (h : Eqv l m) {r : List En} (hr : Pos r) : Eqv (l ++ r) (m ++ r) :=
  ⟨fun s hs => by rw [List.append_assoc, List.append_assoc]; exact h.all _ (hr.app hs), fun k => by rw [cntK_append, cntK_append, h.cnt], h.posl.app hr, h.posm.app hr⟩
theorem Eqv.app_left {l m : List En} (h : Eqv l m) {r : List En} (hr : Pos r) : Eqv (r ++ l) (r ++ m) :=
  (Eqv.of_perm List.perm_append_comm (hr.app h.posl)).trans ((h.app hr).trans (Eqv.of_perm List.perm_append_comm (h.posm.app hr)))
theorem Eqv.eq {l m : List En} (h : Eqv l m) : allL l = allL m := by simpa using h.all [] (by intro y hy; simp at hy)

/-- Two entries of one key become one. -/
theorem Eqv.join {x y : En} (hk : y.key = x.key) (hx : Good x.ru) (hy : Good y.ru) (hc : y.c + x.c ≤ 1073741824) : Eqv [y, x] [mkE x.key (jn y.ru x.ru)] := by
  have gx := (good_iff.1 hx).1
  have gy := (good_iff.1 hy).1
  have cx : x.ru.c = x.c := rfl
  have cy : y.ru.c = y.c := rfl
  have cj : (mkE x.key (jn y.ru x.ru)).c = y.c + x.c := rfl
  refine ⟨fun r _ => ?_, fun k => ?_, fun z hz => ?_, fun z hz => ?_⟩
  · have e : insO (insO (some []) y) x = insO (some []) (mkE x.key (jn y.ru x.ru)) := by
      show ins [y] x = some [mkE x.key (jn y.ru x.ru)]
      rw [ins_eq hk, if_pos hc]
    show r.foldl insO (insO (insO (some []) y) x) = r.foldl insO (insO (some []) (mkE x.key (jn y.ru x.ru)))
    rw [e]
  · simp only [cntK, mkE_key, cj, hk]
    split <;> omega
  · rcases List.mem_cons.1 hz with rfl | hz
    · omega
    · obtain rfl : z = x := by simpa using hz
      omega
  · obtain rfl : z = mkE x.key (jn y.ru x.ru) := by simpa using hz
    omega

/-! ### A list with an entry more -/

end Go.Proofs.YtlojfgdpmaigmadDoor

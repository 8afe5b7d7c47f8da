/- What comes of a list of entries whose keys do not fall, gone through once; and what a tree's walk hands to it. -/
import Derived.Test.YtlojfgdpmaigmafDoorAllPure
import Derived.Test.YtlojfgdpmaigmafDoorWithWalk
namespace Go.Proofs.YtlojfgdpmaigmafDoor
open Go.RowKit Plain

theorem ins_end {x : En} {l : List En} (h : ∀ z ∈ l, z.key < x.key) : ins l x = some (l ++ [x]) := by
  have := ins_app (x := x) [] h
  simpa [ins] using this

theorem ins_last {x y : En} {l : List En} (h : ∀ z ∈ l, z.key < x.key) (hy : y.key = x.key) : ins (l ++ [y]) x = if y.c + x.c ≤ 1073741824 then some (l ++ [mkE x.key (jn y.ru x.ru)]) else none := by
  rw [ins_app _ h, ins_eq hy]
  split <;> simp

/-- What is out so far, of the first i of xs. -/
structure Brg (xs : List En) (i : Nat) (out : List En) : Prop where
  is : allL (xs.take i) = some out
  inc : out.Pairwise fun a b => a.key < b.key
  up : ∀ z ∈ out, ∀ x ∈ xs.drop i, z.key ≤ x.key
  good : ∀ z ∈ out, Good z.ru
  len : out.length ≤ i

theorem brg_start (xs : List En) : Brg xs 0 [] := ⟨by simp [allL], by simp, by simp, by simp, by simp⟩

theorem drop_mem {xs : List En} {i : Nat} {x : En} (h : x ∈ xs.drop (i + 1)) : x ∈ xs.drop i := by
  have : xs.drop (i + 1) = (xs.drop i).drop 1 := by rw [List.drop_drop]
  rw [this] at h
  exact List.mem_of_mem_drop h

theorem take_step {xs : List En} {i : Nat} (hi : i < xs.length) : allL (xs.take (i + 1)) = insO (allL (xs.take i)) xs[i] := by
  rw [List.take_succ_eq_append_getElem hi, allL_snoc]

theorem sorted_drop {xs : List En} (hs : xs.Pairwise fun a b => a.key ≤ b.key) {i : Nat} (hi : i < xs.length) : ∀ x ∈ xs.drop (i + 1), xs[i].key ≤ x.key := by
  intro x hx
  obtain ⟨j, hj, rfl⟩ := List.getElem_of_mem hx
  rw [List.getElem_drop]
  exact List.pairwise_iff_getElem.1 hs i (i + 1 + j) hi _ (by omega)

/-- The next one has a key of its own. -/
theorem brg_new {xs : List En} {i : Nat} {out : List En} (hs : xs.Pairwise fun a b => a.key ≤ b.key) (h : Brg xs i out) (hi : i < xs.length) (hg : Good xs[i].ru) (hn : ∀ l y, out = l ++ [y] → y.key ≠ xs[i].key) : Brg xs (i + 1) (out ++ [xs[i]]) := by
  have mem : xs[i] ∈ xs.drop i := by rw [List.drop_eq_getElem_cons hi]; exact List.mem_cons_self
  have low : ∀ z ∈ out, z.key < xs[i].key := by
    intro z hz
    rcases List.eq_nil_or_concat out with rfl | ⟨l, y, rfl⟩
    · simp at hz
    · have hy := h.up y (by simp) _ mem
      have hne := hn l y (by simp)
      rcases List.mem_append.1 (by simpa using hz : z ∈ l ++ [y]) with hz | hz
      · have := (List.pairwise_append.1 (by simpa using h.inc : (l ++ [y]).Pairwise _)).2.2 z hz y (by simp)
        omega
      · have : z = y := by simpa using hz
        subst this
        omega
  refine ⟨?_, ?_, ?_, ?_, ?_⟩
  · rw [take_step hi, h.is]
    exact ins_end low
  · rw [List.pairwise_append]
    exact ⟨h.inc, by simp, fun a ha b hb => by have : b = xs[i] := by simpa using hb
                                               subst this; exact low a ha⟩
  · intro z hz x hx
    rcases List.mem_append.1 hz with hz | hz
    · exact h.up z hz x (drop_mem hx)
    · have : z = xs[i] := by simpa using hz
      subst this
      exact sorted_drop hs hi x hx
  · intro z hz
    rcases List.mem_append.1 hz with hz | hz
    · exact h.good z hz
    · have : z = xs[i] := by simpa using hz
      subst this
      exact hg
  · have := h.len
    simp
    omega

/-- The next one has the last one's key. -/
theorem brg_same {xs : List En} {i : Nat} {l : List En} {y : En} (hs : xs.Pairwise fun a b => a.key ≤ b.key) (h : Brg xs i (l ++ [y])) (hi : i < xs.length) (hg : Good xs[i].ru) (hy : y.key = xs[i].key) :
    mrg y.ru xs[i].ru = (if y.c + xs[i].c ≤ 1073741824 then (jn y.ru xs[i].ru, 0) else (zro, 1)) ∧
    (y.c + xs[i].c ≤ 1073741824 → Brg xs (i + 1) (l ++ [mkE xs[i].key (jn y.ru xs[i].ru)])) ∧ (¬ y.c + xs[i].c ≤ 1073741824 → allL xs = none) := by
  have low : ∀ z ∈ l, z.key < xs[i].key := fun z hz => by
    have := (List.pairwise_append.1 h.inc).2.2 z hz y (by simp)
    omega
  have st : allL (xs.take (i + 1)) = if y.c + xs[i].c ≤ 1073741824 then some (l ++ [mkE xs[i].key (jn y.ru xs[i].ru)]) else none := by
    rw [take_step hi, h.is]
    exact ins_last low hy
  have gy := h.good y (by simp)
  refine ⟨mrg_good gy hg, fun hc => ?_, fun hc => ?_⟩
  · rw [if_pos hc] at st
    refine ⟨st, ?_, ?_, ?_, ?_⟩
    · rw [List.pairwise_append]
      exact ⟨(List.pairwise_append.1 h.inc).1, by simp, fun a ha b hb => by have : b = mkE xs[i].key (jn y.ru xs[i].ru) := by simpa using hb
                                                                            subst this; exact low a ha⟩
    · intro z hz x hx
      rcases List.mem_append.1 hz with hz | hz
      · exact h.up z (by simp [hz]) x (drop_mem hx)
      · have : z = mkE xs[i].key (jn y.ru xs[i].ru) := by simpa using hz
        subst this
        exact sorted_drop hs hi x hx
    · intro z hz
      rcases List.mem_append.1 hz with hz | hz
      · exact h.good z (by simp [hz])
      · have : z = mkE xs[i].key (jn y.ru xs[i].ru) := by simpa using hz
        subst this
        exact good_jn gy hg hc
    · have := h.len
      simp only [List.length_append, List.length_cons, List.length_nil] at this ⊢
      omega
  · rw [if_neg hc] at st
    have e : xs = xs.take (i + 1) ++ xs.drop (i + 1) := (List.take_append_drop _ _).symm
    rw [e]
    unfold allL at st ⊢
    rw [List.foldl_append, st]
    exact fold_none _

theorem brg_end {xs out : List En} (h : Brg xs xs.length out) : allL xs = some out := by
  have := h.is
  rwa [List.take_length] at this

theorem own_some {w : World} {base : Nat} {e : TypeId} {size n k : Nat} {v : Value} {vs : List Value} (h : w.ownsRow base e size v n vs) (hk : v.ownBlock = some k) : base ≤ k ∧ k < w.heap.size := by
  rcases h.2 with ⟨rfl, _⟩ | ⟨g, cap, cur, rfl, hb, hg, _⟩
  · cases hk
  · have : g = k := by simpa [Value.ownBlock] using hk
    subst this
    exact ⟨hb, (Array.getElem?_eq_some_iff.1 hg).1⟩

theorem news2 (w : World) (o : Obj) (x : En) : ∀ j u, x.vals[j]? = some u → ((w.alloc o).alloc (.cells x.vals.toArray 48)).cell? ((⟨w.heap.size + 1, 0, none⟩ : Addr).add j) = some u := by
  have := news1 (w.alloc o) x
  simpa using this

end Go.Proofs.YtlojfgdpmaigmafDoor

/- What comes together of some keys is what of all that comes together has them. -/
namespace Go.Proofs.YtlojfgdpmaigmafDoor
open Go.RowKit Plain

theorem ins_inc {x : En} : ∀ {l r : List En}, (l.Pairwise fun a b => a.key < b.key) → ins l x = some r → (r.Pairwise fun a b => a.key < b.key) ∧ ∀ z ∈ r, z.key = x.key ∨ ∃ y ∈ l, y.key = z.key
  | [], r, _, h => by
    cases h
    exact ⟨by simp, by simp⟩
  | y :: l, r, hp, h => by
    obtain ⟨h1, h2⟩ := List.pairwise_cons.1 hp
    rcases Int.lt_trichotomy x.key y.key with hk | hk | hk
    · rw [ins_lt hk] at h
      cases h
      refine ⟨List.pairwise_cons.2 ⟨fun z hz => ?_, hp⟩, fun z hz => ?_⟩
      · rcases List.mem_cons.1 hz with rfl | hz
        · exact hk
        · have := h1 z hz
          omega
      · rcases List.mem_cons.1 hz with rfl | hz
        · exact .inl rfl
        · exact .inr ⟨z, hz, rfl⟩
    · rw [ins_eq hk.symm] at h
      split at h
      · cases h
        refine ⟨List.pairwise_cons.2 ⟨fun z hz => ?_, h2⟩, fun z hz => ?_⟩
        · rw [mkE_key, hk]
          exact h1 z hz
        · rcases List.mem_cons.1 hz with rfl | hz
          · exact .inl rfl
          · exact .inr ⟨z, List.mem_cons_of_mem _ hz, rfl⟩
      · cases h
    · rw [ins_gt hk] at h
      cases hi : ins l x with
      | none => rw [hi] at h; cases h
      | some r' =>
        rw [hi] at h
        cases h
        obtain ⟨q1, q2⟩ := ins_inc h2 hi
        refine ⟨List.pairwise_cons.2 ⟨fun z hz => ?_, q1⟩, fun z hz => ?_⟩
        · rcases q2 z hz with e | ⟨u, hu, e⟩
          · omega
          · have := h1 u hu
            omega
        · rcases List.mem_cons.1 hz with rfl | hz
          · exact .inr ⟨z, List.mem_cons_self, rfl⟩
          · rcases q2 z hz with e | ⟨u, hu, e⟩
            · exact .inl e
            · exact .inr ⟨u, List.mem_cons_of_mem _ hu, e⟩

end Go.Proofs.YtlojfgdpmaigmafDoor

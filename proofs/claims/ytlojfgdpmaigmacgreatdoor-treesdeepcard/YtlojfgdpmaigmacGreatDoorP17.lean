/- What comes of a list of entries whose keys do not fall, gone through once; and what a tree's walk hands to it. -/
import Derived.Test.YtlojfgdpmaigmacGreatDoorP13
import Derived.Test.YtlojfgdpmaigmacGreatDoorWithWalk
import Derived.Test.YtlojfgdpmaigmacGreatDoorP09
import Derived.Test.YtlojfgdpmaigmacGreatDoorEntsRef
import Derived.Test.YtlojfgdpmaigmacGreatDoorP08
import Derived.Maps.OwnSet
import Derived.Maps.Views
import Derived.Maps.OwnOps
namespace Go.Proofs.YtlojfgdpmaigmacGreatDoor
open Go.RowKit Plain

theorem ins_end {x : En} {l : List En} (h : ∀ z ∈ l, z.key < x.key) : ins l x = some (l ++ [x]) := by
  have := ins_app (x := x) [] h
  simpa [ins] using this

theorem ins_last {x y : En} {l : List En} (h : ∀ z ∈ l, z.key < x.key) (hy : y.key = x.key) : ins (l ++ [y]) x = if y.c + x.c ≤ 1073741824 then some (l ++ [mkE x.key (jn y.ru x.ru)]) else none := by
  rw [ins_app _ h, ins_eq hy]
  split <;> simp

/-- What is out so far, of the first i of xs. -/
structure Brg (xs : List En) (i : Nat) (out : List En) : Prop where
  is : allL (xs.take i) = some out
  inc : out.Pairwise fun a b => a.key < b.key
  up : ∀ z ∈ out, ∀ x ∈ xs.drop i, z.key ≤ x.key
  good : ∀ z ∈ out, Good z.ru
  len : out.length ≤ i

theorem brg_start (xs : List En) : Brg xs 0 [] := ⟨by simp [allL], by simp, by simp, by simp, by simp⟩

theorem drop_mem {xs : List En} {i : Nat} {x : En} (h : x ∈ xs.drop (i + 1)) : x ∈ xs.drop i := by
  have : xs.drop (i + 1) = (xs.drop i).drop 1 := by rw [List.drop_drop]
  rw [this] at h
  exact List.mem_of_mem_drop h

theorem take_step {xs : List En} {i : Nat} (hi : i < xs.length) : allL (xs.take (i + 1)) = insO (allL (xs.take i)) xs[i] := by
  rw [List.take_succ_eq_append_getElem hi, allL_snoc]

theorem sorted_drop {xs : List En} (hs : xs.Pairwise fun a b => a.key ≤ b.key) {i : Nat} (hi : i < xs.length) : ∀ x ∈ xs.drop (i + 1), xs[i].key ≤ x.key := by
  intro x hx
  obtain ⟨j, hj, rfl⟩ := List.getElem_of_mem hx
  rw [List.getElem_drop]
  exact List.pairwise_iff_getElem.1 hs i (i + 1 + j) hi _ (by omega)

/-- The next one has a key of its own. -/
theorem brg_new {xs : List En} {i : Nat} {out : List En} (hs : xs.Pairwise fun a b => a.key ≤ b.key) (h : Brg xs i out) (hi : i < xs.length) (hg : Good xs[i].ru) (hn : ∀ l y, out = l ++ [y] → y.key ≠ xs[i].key) : Brg xs (i + 1) (out ++ [xs[i]]) := by
  have mem : xs[i] ∈ xs.drop i := by rw [List.drop_eq_getElem_cons hi]; exact List.mem_cons_self
  have low : ∀ z ∈ out, z.key < xs[i].key := by
    intro z hz
    rcases List.eq_nil_or_concat out with rfl | ⟨l, y, rfl⟩
    · simp at hz
    · have hy := h.up y (by simp) _ mem
      have hne := hn l y (by simp)
      rcases List.mem_append.1 (by simpa using hz : z ∈ l ++ [y]) with hz | hz
      · have := (List.pairwise_append.1 (by simpa using h.inc : (l ++ [y]).Pairwise _)).2.2 z hz y (by simp)
        omega
      · have : z = y := by simpa using hz
        subst this
        omega
  refine ⟨?_, ?_, ?_, ?_, ?_⟩
  · rw [take_step hi, h.is]
    exact ins_end low
  · rw [List.pairwise_append]
    exact ⟨h.inc, by simp, fun a ha b hb => by have : b = xs[i] := by simpa using hb
                                               subst this; exact low a ha⟩
  · intro z hz x hx
    rcases List.mem_append.1 hz with hz | hz
    · exact h.up z hz x (drop_mem hx)
    · have : z = xs[i] := by simpa using hz
      subst this
      exact sorted_drop hs hi x hx
  · intro z hz
    rcases List.mem_append.1 hz with hz | hz
    · exact h.good z hz
    · have : z = xs[i] := by simpa using hz
      subst this
      exact hg
  · have := h.len
    simp
    omega

/-- The next one has the last one's key. -/
theorem brg_same {xs : List En} {i : Nat} {l : List En} {y : En} (hs : xs.Pairwise fun a b => a.key ≤ b.key) (h : Brg xs i (l ++ [y])) (hi : i < xs.length) (hg : Good xs[i].ru) (hy : y.key = xs[i].key) :
    mrg y.ru xs[i].ru = (if y.c + xs[i].c ≤ 1073741824 then (jn y.ru xs[i].ru, 0) else (zro, 1)) ∧
    (y.c + xs[i].c ≤ 1073741824 → Brg xs (i + 1) (l ++ [mkE xs[i].key (jn y.ru xs[i].ru)])) ∧ (¬ y.c + xs[i].c ≤ 1073741824 → allL xs = none) := by
  have low : ∀ z ∈ l, z.key < xs[i].key := fun z hz => by
    have := (List.pairwise_append.1 h.inc).2.2 z hz y (by simp)
    omega
  have st : allL (xs.take (i + 1)) = if y.c + xs[i].c ≤ 1073741824 then some (l ++ [mkE xs[i].key (jn y.ru xs[i].ru)]) else none := by
    rw [take_step hi, h.is]
    exact ins_last low hy
  have gy := h.good y (by simp)
  refine ⟨mrg_good gy hg, fun hc => ?_, fun hc => ?_⟩
  · rw [if_pos hc] at st
    refine ⟨st, ?_, ?_, ?_, ?_⟩
    · rw [List.pairwise_append]
      exact ⟨(List.pairwise_append.1 h.inc).1, by simp, fun a ha b hb => by have : b = mkE xs[i].key (jn y.ru xs[i].ru) := by simpa using hb
                                                                            subst this; exact low a ha⟩
    · intro z hz x hx
      rcases List.mem_append.1 hz with hz | hz
      · exact h.up z (by simp [hz]) x (drop_mem hx)
      · have : z = mkE xs[i].key (jn y.ru xs[i].ru) := by simpa using hz
        subst this
        exact sorted_drop hs hi x hx
    · intro z hz
      rcases List.mem_append.1 hz with hz | hz
      · exact h.good z (by simp [hz])
      · have : z = mkE xs[i].key (jn y.ru xs[i].ru) := by simpa using hz
        subst this
        exact good_jn gy hg hc
    · have := h.len
      simp only [List.length_append, List.length_cons, List.length_nil] at this ⊢
      omega
  · rw [if_neg hc] at st
    have e : xs = xs.take (i + 1) ++ xs.drop (i + 1) := (List.take_append_drop _ _).symm
    rw [e]
    unfold allL at st ⊢
    rw [List.foldl_append, st]
    exact fold_none _

theorem brg_end {xs out : List En} (h : Brg xs xs.length out) : allL xs = some out := by
  have := h.is
  rwa [List.take_length] at this

theorem own_some {w : World} {base : Nat} {e : TypeId} {size n k : Nat} {v : Value} {vs : List Value} (h : w.ownsRow base e size v n vs) (hk : v.ownBlock = some k) : base ≤ k ∧ k < w.heap.size := by
  rcases h.2 with ⟨rfl, _⟩ | ⟨g, cap, cur, rfl, hb, hg, _⟩
  · cases hk
  · have : g = k := by simpa [Value.ownBlock] using hk
    subst this
    exact ⟨hb, (Array.getElem?_eq_some_iff.1 hg).1⟩

theorem news2 (w : World) (o : Obj) (x : En) : ∀ j u, x.vals[j]? = some u → ((w.alloc o).alloc (.cells x.vals.toArray 40)).cell? ((⟨w.heap.size + 1, 0, none⟩ : Addr).add j) = some u := by
  have := news1 (w.alloc o) x
  simpa using this

end Go.Proofs.YtlojfgdpmaigmacGreatDoor

/- What comes together of some keys is what of all that comes together has them. -/
namespace Go.Proofs.YtlojfgdpmaigmacGreatDoor
open Go.RowKit Plain

theorem ins_inc {x : En} : ∀ {l r : List En}, (l.Pairwise fun a b => a.key < b.key) → ins l x = some r → (r.Pairwise fun a b => a.key < b.key) ∧ ∀ z ∈ r, z.key = x.key ∨ ∃ y ∈ l, y.key = z.key
  | [], r, _, h => by
    cases h
    exact ⟨by simp, by simp⟩
  | y :: l, r, hp, h => by
    obtain ⟨h1, h2⟩ := List.pairwise_cons.1 hp
    rcases Int.lt_trichotomy x.key y.key with hk | hk | hk
    · rw [ins_lt hk] at h
      cases h
      refine ⟨List.pairwise_cons.2 ⟨fun z hz => ?_, hp⟩, fun z hz => ?_⟩
      · rcases List.mem_cons.1 hz with rfl | hz
        · exact hk
        · have := h1 z hz
          omega
      · rcases List.mem_cons.1 hz with rfl | hz
        · exact .inl rfl
        · exact .inr ⟨z, hz, rfl⟩
    · rw [ins_eq hk.symm] at h
      split at h
      · cases h
        refine ⟨List.pairwise_cons.2 ⟨fun z hz => ?_, h2⟩, fun z hz => ?_⟩
        · rw [mkE_key, hk]
          exact h1 z hz
        · rcases List.mem_cons.1 hz with rfl | hz
          · exact .inl rfl
          · exact .inr ⟨z, List.mem_cons_of_mem _ hz, rfl⟩
      · cases h
    · rw [ins_gt hk] at h
      cases hi : ins l x with
      | none => rw [hi] at h; cases h
      | some r' =>
        rw [hi] at h
        cases h
        obtain ⟨q1, q2⟩ := ins_inc h2 hi
        refine ⟨List.pairwise_cons.2 ⟨fun z hz => ?_, q1⟩, fun z hz => ?_⟩
        · rcases q2 z hz with e | ⟨u, hu, e⟩
          · omega
          · have := h1 u hu
            omega
        · rcases List.mem_cons.1 hz with rfl | hz
          · exact .inr ⟨z, List.mem_cons_self, rfl⟩
          · rcases q2 z hz with e | ⟨u, hu, e⟩
            · exact .inl e
            · exact .inr ⟨u, List.mem_cons_of_mem _ hu, e⟩

theorem ins_below {x : En} : ∀ {l : List En}, (∀ z ∈ l, x.key < z.key) → ins l x = some (x :: l)
  | [], _ => rfl
  | y :: _, h => ins_lt (h y List.mem_cons_self)

theorem ins_filter {P : Int → Bool} {x : En} : ∀ {o o' : List En}, (o.Pairwise fun a b => a.key < b.key) → ins o x = some o' →
    (P x.key = true → ins (o.filter fun z => P z.key) x = some (o'.filter fun z => P z.key)) ∧ (P x.key = false → (o'.filter fun z => P z.key) = o.filter fun z => P z.key)
  | [], o', _, h => by
    cases h
    exact ⟨fun hp => by simp [ins, hp], fun hp => by simp [hp]⟩
  | y :: r, o', hs, h => by
    obtain ⟨h1, h2⟩ := List.pairwise_cons.1 hs
    rcases Int.lt_trichotomy x.key y.key with hk | hk | hk
    · rw [ins_lt hk] at h
      cases h
      refine ⟨fun hp => ?_, fun hp => by rw [List.filter_cons_of_neg (by simp [hp])]⟩
      rw [List.filter_cons_of_pos (a := x) (by simpa using hp)]
      refine ins_below fun z hz => ?_
      rcases List.mem_cons.1 (List.mem_filter.1 hz).1 with rfl | hz
      · exact hk
      · have := h1 z hz
        omega
    · rw [ins_eq hk.symm] at h
      split at h
      · rename_i hc
        cases h
        refine ⟨fun hp => ?_, fun hp => ?_⟩
        · rw [List.filter_cons_of_pos (by rw [← hk]; exact hp), List.filter_cons_of_pos (by exact hp), ins_eq hk.symm, if_pos hc]
        · rw [List.filter_cons_of_neg (by rw [mkE_key, hp]; simp), List.filter_cons_of_neg (by rw [← hk, hp]; simp)]
      · cases h
    · rw [ins_gt hk] at h
      cases hi : ins r x with
      | none => rw [hi] at h; cases h
      | some r' =>
        rw [hi] at h
        cases h
        obtain ⟨q1, q2⟩ := ins_filter (P := P) h2 hi
        refine ⟨fun hp => ?_, fun hp => ?_⟩
        · by_cases hy : P y.key = true
          · rw [List.filter_cons_of_pos (by exact hy), List.filter_cons_of_pos (by exact hy), ins_gt hk, q1 hp]
            rfl
          · rw [List.filter_cons_of_neg (by exact hy), List.filter_cons_of_neg (by exact hy), q1 hp]
        · by_cases hy : P y.key = true
          · rw [List.filter_cons_of_pos (by exact hy), List.filter_cons_of_pos (by exact hy), q2 hp]
          · rw [List.filter_cons_of_neg (by exact hy), List.filter_cons_of_neg (by exact hy), q2 hp]

theorem allL_filter {P : Int → Bool} : ∀ (xs o r : List En), (o.Pairwise fun a b => a.key < b.key) → xs.foldl insO (some o) = some r → (xs.filter fun z => P z.key).foldl insO (some (o.filter fun z => P z.key)) = some (r.filter fun z => P z.key)
  | [], o, r, _, h => by
    cases h
    simp
  | x :: xs, o, r, hs, h => by
    rw [List.foldl_cons] at h
    cases hi : insO (some o) x with
    | none => rw [hi, fold_none] at h; cases h
    | some o' =>
      rw [hi] at h
      have hi' : ins o x = some o' := hi
      have ih := allL_filter (P := P) xs o' r (ins_inc hs hi').1 h
      obtain ⟨q1, q2⟩ := ins_filter (P := P) hs hi'
      by_cases hp : P x.key = true
      · rw [List.filter_cons_of_pos (by exact hp), List.foldl_cons, show insO (some (o.filter fun z => P z.key)) x = ins (o.filter fun z => P z.key) x from rfl, q1 hp]
        exact ih
      · rw [List.filter_cons_of_neg (by exact hp), ← q2 (by simpa using hp)]
        exact ih

end Go.Proofs.YtlojfgdpmaigmacGreatDoor

/- What a call leaves as it was, some blocks apart; which nodes have been seen. -/
namespace Go.Proofs.YtlojfgdpmaigmacGreatDoor
open Go.RowKit Plain

/-- w' is w with new blocks, and with writes to the blocks of ex alone. -/
structure Kept (ex : List Nat) (w w' : World) : Prop where
  os : w'.os = w.os
  tape : w'.tape = w.tape
  output : w'.output = w.output
  size : w.heap.size ≤ w'.heap.size
  block : ∀ k, k < w.heap.size → k ∉ ex → w'.heap[k]? = w.heap[k]?

section
variable {ex : List Nat} {w w' w'' : World}

theorem Kept.refl (ex : List Nat) (w : World) : Kept ex w w := ⟨rfl, rfl, rfl, Nat.le_refl _, fun _ _ _ => rfl⟩
theorem Kept.trans (h : Kept ex w w') (k : Kept ex w' w'') : Kept ex w w'' :=
  ⟨k.os.trans h.os, k.tape.trans h.tape, k.output.trans h.output, Nat.le_trans h.size k.size, fun i hi hx => (k.block i (Nat.lt_of_lt_of_le hi h.size) hx).trans (h.block i hi hx)⟩
theorem Kept.alloc (h : Kept ex w w') (o : Obj) : Kept ex w (w'.alloc o) :=
  h.trans ⟨rfl, rfl, rfl, by simp, fun k hk _ => Below.heap_alloc _ _ _ hk⟩
theorem Kept.set (h : Kept ex w w') {b j : Nat} (hb : b ∈ ex ∨ w.heap.size ≤ b) (v : Value) : Kept ex w (w'.setCell ⟨b, j, none⟩ v) :=
  ⟨h.os, h.tape, h.output, by simpa using h.size, fun k hk hx => (Below.heap_setCell _ _ _ _ (by rintro rfl; rcases hb with hb | hb; exact hx hb; omega)).trans (h.block k hk hx)⟩
theorem Kept.drew (h : Kept ex w w') : Kept ex w w'.drew := ⟨h.os, h.tape, h.output, h.size, h.block⟩
theorem Kept.drewN (h : Kept ex w w') (n : Nat) : Kept ex w (w'.drewN n) := ⟨h.os, h.tape, h.output, h.size, h.block⟩
theorem Kept.of_below (h : Below w.heap.size w w') : Kept ex w w' := ⟨h.os, h.tape, h.output, h.size, fun k hk _ => h.block k hk⟩
theorem Kept.below (h : Kept ex w w') {B : Nat} (hB : B ≤ w.heap.size) (hx : ∀ x ∈ ex, B ≤ x) : Below B w w' :=
  ⟨h.os, h.tape, h.output, h.size, fun k hk => h.block k (by omega) (fun hm => by have := hx k hm; omega)⟩
theorem Kept.cell (h : Kept ex w w') {b : Nat} (o : Nat) (hb : b < w.heap.size) (hx : b ∉ ex) : w'.cell? ⟨b, o, none⟩ = w.cell? ⟨b, o, none⟩ :=
  World.cell?_of_block (w := w) (a := ⟨b, o, none⟩) (h.block b hb hx)
theorem Kept.row (h : Kept ex w w') {b : Nat} {t : TypeId} {vs : List Value} (hr : RowL w b t vs) (hx : b ∉ ex) : RowL w' b t vs := hr.of_block (h.block b hr.lt hx)
end

theorem two_rows {v w2 : World} {l1 l2 : List Value} {t1 t2 : TypeId} (hb : Below ((v.alloc (.cells l1.toArray t1)).alloc (.cells l2.toArray t2)).heap.size ((v.alloc (.cells l1.toArray t1)).alloc (.cells l2.toArray t2)) w2) {n : Nat} (hn : n = v.heap.size) :
    RowL w2 n t1 l1 ∧ RowL w2 (n + 1) t2 l2 ∧ n + 1 < w2.heap.size := by
  subst hn
  have s1 : (v.alloc (.cells l1.toArray t1)).heap.size = v.heap.size + 1 := by simp
  have s2 : ((v.alloc (.cells l1.toArray t1)).alloc (.cells l2.toArray t2)).heap.size = v.heap.size + 2 := by simp
  have r1 : RowL ((v.alloc (.cells l1.toArray t1)).alloc (.cells l2.toArray t2)) v.heap.size t1 l1 := (rowL_alloc v l1 t1).of_block (Below.heap_alloc _ _ _ (by omega))
  have r2 : RowL ((v.alloc (.cells l1.toArray t1)).alloc (.cells l2.toArray t2)) (v.heap.size + 1) t2 l2 := by
    have := rowL_alloc (v.alloc (.cells l1.toArray t1)) l2 t2
    rwa [s1] at this
  have hs := hb.size
  exact ⟨r1.below hb (by omega), r2.below hb (by omega), by omega⟩

theorem W_succ (ns : List Nd) (f : Nat) (n low high : Int) (S : St) : W ns (f + 1) n low high S =
    if n < 0 ∨ (ns.length : Int) ≤ n ∨ high ≤ low ∨ seenB S n = true then none
    else if (ns.getD n.toNat default).leaf = true then
      (if leafB (ns.getD n.toNat default) low high f = true then some ((n, 12 - (f : Int)) :: S, [12 - (f : Int)]) else none)
    else if innerB (ns.getD n.toNat default) low high = true then Wk (W ns f) (ns.getD n.toNat default).kids (ns.getD n.toNat default).keys low high ((n, 12 - (f : Int)) :: S)
    else none := rfl

theorem W_out {ns : List Nd} {f : Nat} {n low high : Int} {S : St} (h : n < 0 ∨ (ns.length : Int) ≤ n ∨ high ≤ low ∨ seenB S n = true) : W ns f n low high S = none := by
  cases f with
  | zero => rfl
  | succ f => rw [W_succ, if_pos h]

theorem W_leaf {ns : List Nd} {f m : Nat} {low high : Int} {S : St} {x : Nd} (hm : m < ns.length) (hx : ns[m] = x) (hlh : low < high) (hs : seenB S m = false) (hl : x.leaf = true) :
    W ns (f + 1) m low high S = if leafB x low high f = true then some (((m : Int), 12 - (f : Int)) :: S, [12 - (f : Int)]) else none := by
  have hg : ns.getD m default = x := by simp [hm, hx]
  rw [W_succ, if_neg (by simp [hs]; omega)]
  simp only [Int.toNat_natCast, hg, hl, if_true]

theorem W_inner {ns : List Nd} {f m : Nat} {low high : Int} {S : St} {x : Nd} (hm : m < ns.length) (hx : ns[m] = x) (hlh : low < high) (hs : seenB S m = false) (hl : x.leaf = false) :
    W ns (f + 1) m low high S = if innerB x low high = true then Wk (W ns f) x.kids x.keys low high (((m : Int), 12 - (f : Int)) :: S) else none := by
  have hg : ns.getD m default = x := by simp [hm, hx]
  rw [W_succ, if_neg (by simp [hs]; omega)]
  simp only [Int.toNat_natCast, hg, hl, Bool.false_eq_true, if_false]

end Go.Proofs.YtlojfgdpmaigmacGreatDoor

/- The document's 'height' of a tree: leaves. -/
namespace Go.Proofs.YtlojfgdpmaigmacGreatDoor
open Go.RowKit Plain

end Go.Proofs.YtlojfgdpmaigmacGreatDoor

/- The document's 'height' of a tree: the loop over a node's kids. -/
namespace Go.Proofs.YtlojfgdpmaigmacGreatDoor
open Go.RowKit Plain

end Go.Proofs.YtlojfgdpmaigmacGreatDoor

/- The document's 'height' of a tree: nodes that are no leaves. -/
namespace Go.Proofs.YtlojfgdpmaigmacGreatDoor
open Go.RowKit Plain

end Go.Proofs.YtlojfgdpmaigmacGreatDoor

/- The document's 'height' of a tree, walked. -/
namespace Go.Proofs.YtlojfgdpmaigmacGreatDoor
open Go.RowKit Plain

end Go.Proofs.YtlojfgdpmaigmacGreatDoor

/- The document's answer to Check of package tree. -/
namespace Go.Proofs.YtlojfgdpmaigmacGreatDoor
open Go.RowKit Plain

end Go.Proofs.YtlojfgdpmaigmacGreatDoor

/- The document's AllOf. -/
namespace Go.Proofs.YtlojfgdpmaigmacGreatDoor
open Go.RowKit Plain

end Go.Proofs.YtlojfgdpmaigmacGreatDoor

/- The document's GotOf: what a tree knows of a key. -/
namespace Go.Proofs.YtlojfgdpmaigmacGreatDoor
open Go.RowKit Plain

/-- What is known of a key, out of all that the nodes hold. -/
def gotA (ns : List Nd) (key : Int) : Ru × Int :=
  match allR key (key + 1) (ns.flatMap Nd.lst) with
  | none => (zro, 1)
  | some [] => (zro, 0)
  | some (y :: _) => (y.ru, 0)
def gotP (ns : List Nd) (root key : Int) : Ru × Int :=
  if treeC ns root ≠ 0 then (zro, treeC ns root) else if inB key 0 1099511627775 = true then gotA ns key else (zro, 2)

theorem two_cells {w w1 : World} {a : Obj} {c : Array Value} {t : TypeId} (hb : Below ((w.alloc a).alloc (.cells c t)).heap.size ((w.alloc a).alloc (.cells c t)) w1) :
    (∀ j, w1.cell? ⟨w.heap.size + 1, j, none⟩ = c[j]?) ∧ (∀ j, w1.frozen? ⟨w.heap.size + 1, j, none⟩ = false) ∧ w.heap.size + 1 < w1.heap.size :=
  ⟨fun j => (hb.cell (p := ⟨w.heap.size + 1, j, none⟩) (by simp)).trans (by simp), fun j => (hb.frozen (p := ⟨w.heap.size + 1, j, none⟩) (by simp)).trans (by simp), (sz2 hb).2⟩

theorem rest_below {w w1 w2 : World} {a b : Obj} (hb1 : Below ((w.alloc a).alloc b).heap.size ((w.alloc a).alloc b) w1) (hb2 : Below w1.heap.size w1 w2) : Below w.heap.size w w2 := nextB (nextB (two a b) (Nat.le_refl _) hb1) (Nat.le_refl _) hb2

end Go.Proofs.YtlojfgdpmaigmacGreatDoor

/- What is known of a key: the visitor of tree.knownAt. -/
namespace Go.Proofs.YtlojfgdpmaigmacGreatDoor
open Go.RowKit Plain

def ruV (r : Ru) : List Value := [.int .i64 r.c, .int .i64 r.s, .int .i64 r.lo, .int .i64 r.hi, .int .i64 r.t, .int .i64 r.l]

/-- What is known so far, and the code so far, in their two blocks. -/
structure KAt (bk bc : Nat) (w : World) (s : Ru × Int) : Prop where
  ne : bk ≠ bc
  rk : RowL w bk 38 (ruV s.1)
  rc : RowL w bc 34 [.int .i64 s.2]

def stepK (s : Ru × Int) (x : En) : Ru × Int := if s.2 = 0 then mrg s.1 x.ru else s

theorem KAt.below {bk bc : Nat} {w w' : World} {s : Ru × Int} (h : KAt bk bc w s) (hb : Below w.heap.size w w') : KAt bk bc w' s :=
  ⟨h.ne, h.rk.below hb h.rk.lt, h.rc.below hb h.rc.lt⟩

theorem KAt.set {bk bc : Nat} {w : World} {s : Ru × Int} (h : KAt bk bc w s) (r : Ru) (e : Int) :
    KAt bk bc (((((((w.setCell ⟨bk, 0, none⟩ (.int .i64 r.c)).setCell ⟨bk, 1, none⟩ (.int .i64 r.s)).setCell ⟨bk, 2, none⟩ (.int .i64 r.lo)).setCell ⟨bk, 3, none⟩ (.int .i64 r.hi)).setCell ⟨bk, 4, none⟩ (.int .i64 r.t)).setCell ⟨bk, 5, none⟩ (.int .i64 r.l)).setCell ⟨bc, 0, none⟩ (.int .i64 e)) (r, e) := by
  have far : ∀ (W : World) (j : Nat) (v : Value), (W.setCell ⟨bk, j, none⟩ v).heap[bc]? = W.heap[bc]? := fun W j v => Below.heap_setCell _ _ _ _ (fun q => h.ne q.symm)
  refine ⟨h.ne, ?_, ?_⟩
  · exact ((((((h.rk.set 0 _).set 1 _).set 2 _).set 3 _).set 4 _).set 5 _).of_block (Below.heap_setCell _ _ _ _ h.ne)
  · exact ((((((h.rc.of_block (far _ _ _)).of_block (far _ _ _)).of_block (far _ _ _)).of_block (far _ _ _)).of_block (far _ _ _)).of_block (far _ _ _)).set 0 (.int .i64 e)

set_option maxRecDepth 20000 in
set_option maxHeartbeats 4000000 in
theorem visit_no (x : En) (bk bc : Nat) (s : Ru × Int) (w : World) (h : KAt bk bc w s) (he : s.2 ≠ 0) :
    Calls Tryz.prog 64 #[.agg #[.int .i64 x.key, .int .i64 x.c, .int .i64 x.s, .int .i64 x.lo, .int .i64 x.hi, .int .i64 x.t, .int .i64 x.l], .pointer (some ⟨bc, 0, none⟩), .pointer (some ⟨bk, 0, none⟩)] w
      fun e w' => e = .returned (.tuple #[]) ∧ KAt bk bc w' s ∧ Kept [bk, bc] w w' := by
  have ce : w.cell? ⟨bc, 0, none⟩ = some (.int .i64 s.2) := h.rc.cell 0
  have lc := h.rc.lt
  have b0 : ∀ o : Obj, Below w.heap.size w (w.alloc o) := fun o => (Below.refl _ _).alloc (Nat.le_refl _) o
  have he' : (s.2 == 0) = false := by simpa using he
  go_enter Tryz.func64, Tryz.ntmps64
  go_wp2_with fail
  go_end0
  exact ⟨rfl, h.below (b0 _), Kept.of_below (b0 _)⟩

set_option maxRecDepth 20000 in
set_option maxHeartbeats 4000000 in
theorem visit_yes (x : En) (bk bc : Nat) (ru : Ru) (w : World) (h : KAt bk bc w (ru, 0)) :
    Calls Tryz.prog 64 #[.agg #[.int .i64 x.key, .int .i64 x.c, .int .i64 x.s, .int .i64 x.lo, .int .i64 x.hi, .int .i64 x.t, .int .i64 x.l], .pointer (some ⟨bc, 0, none⟩), .pointer (some ⟨bk, 0, none⟩)] w
      fun e w' => e = .returned (.tuple #[]) ∧ KAt bk bc w' (mrg ru x.ru) ∧ Kept [bk, bc] w w' := by
  have ce : w.cell? ⟨bc, 0, none⟩ = some (.int .i64 0) := h.rc.cell 0
  have c0 : w.cell? ⟨bk, 0, none⟩ = some (.int .i64 ru.c) := h.rk.cell 0
  have c1 : w.cell? ⟨bk, 1, none⟩ = some (.int .i64 ru.s) := h.rk.cell 1
  have c2 : w.cell? ⟨bk, 2, none⟩ = some (.int .i64 ru.lo) := h.rk.cell 2
  have c3 : w.cell? ⟨bk, 3, none⟩ = some (.int .i64 ru.hi) := h.rk.cell 3
  have c4 : w.cell? ⟨bk, 4, none⟩ = some (.int .i64 ru.t) := h.rk.cell 4
  have c5 : w.cell? ⟨bk, 5, none⟩ = some (.int .i64 ru.l) := h.rk.cell 5
  have lc := h.rc.lt
  have lk := h.rk.lt
  have ne := h.ne
  have ne' : ¬ bc = bk := fun q => ne q.symm
  have HK : Hid (KAt bk bc w (ru, 0)) := h
  clear h
  have b0 : ∀ o : Obj, Below w.heap.size w (w.alloc o) := fun o => (Below.refl _ _).alloc (Nat.le_refl _) o
  go_enter Tryz.func64, Tryz.ntmps64
  go_wp2_with (first | (go_at_call 16; refine (merge_any ru x.ru _).mono ?_; rintro e w1 ⟨rfl, hb1⟩; have hbw : Below w.heap.size w w1 := nextB (b0 _) (Nat.le_refl _) hb1; have K1 : Hid (KAt bk bc w1 (ru, 0)) := HK.out.below hbw; have d0 := fun j => K1.out.rk.cell j; have df := fun j => K1.out.rk.frozen j; have e0 := fun j => K1.out.rc.cell j; have ef := fun j => K1.out.rc.frozen j; simp only [ruV] at d0; clear ce c0 c1 c2 c3 c4 c5 hb1))
  go_end0
  have m1 : bk ∈ [bk, bc] := by simp
  have m2 : bc ∈ [bk, bc] := by simp
  exact ⟨rfl, K1.out.set (mrg ru x.ru).1 (mrg ru x.ru).2, (((((((Kept.of_below hbw).set (.inl m1) _).set (.inl m1) _).set (.inl m1) _).set (.inl m1) _).set (.inl m1) _).set (.inl m1) _).set (.inl m2) _⟩

theorem visit_any (x : En) (bk bc : Nat) (s : Ru × Int) (w : World) (h : KAt bk bc w s) :
    Calls Tryz.prog 64 #[.agg #[.int .i64 x.key, .int .i64 x.c, .int .i64 x.s, .int .i64 x.lo, .int .i64 x.hi, .int .i64 x.t, .int .i64 x.l], .pointer (some ⟨bc, 0, none⟩), .pointer (some ⟨bk, 0, none⟩)] w
      fun e w' => e = .returned (.tuple #[]) ∧ KAt bk bc w' (stepK s x) ∧ Kept [bk, bc] w w' := by
  unfold stepK
  by_cases he : s.2 = 0
  · rw [if_pos he]
    obtain ⟨ru, e⟩ := s
    simp only at he
    subst he
    exact visit_yes x bk bc ru w h
  · rw [if_neg he]
    exact visit_no x bk bc s w h he

end Go.Proofs.YtlojfgdpmaigmacGreatDoor

/- A walk that calls a visitor: what the visitor may turn, and what it leaves. -/
namespace Go.Proofs.YtlojfgdpmaigmacGreatDoor
open Go.RowKit Plain

/-- w' is w with new blocks, and with writes to the blocks that X names alone; no block that was there comes to be named. -/
structure Turned (X : World → Nat → Prop) (w w' : World) : Prop where
  os : w'.os = w.os
  tape : w'.tape = w.tape
  output : w'.output = w.output
  size : w.heap.size ≤ w'.heap.size
  block : ∀ k, k < w.heap.size → ¬ X w k → w'.heap[k]? = w.heap[k]?
  back : ∀ k, k < w.heap.size → X w' k → X w k

section
variable {X : World → Nat → Prop} {w w' w'' : World}
theorem Turned.refl (X : World → Nat → Prop) (w : World) : Turned X w w := ⟨rfl, rfl, rfl, Nat.le_refl _, fun _ _ _ => rfl, fun _ _ h => h⟩
theorem Turned.trans (h : Turned X w w') (k : Turned X w' w'') : Turned X w w'' :=
  ⟨k.os.trans h.os, k.tape.trans h.tape, k.output.trans h.output, Nat.le_trans h.size k.size,
   fun i hi hx => (k.block i (Nat.lt_of_lt_of_le hi h.size) (fun hx' => hx (h.back i hi hx'))).trans (h.block i hi hx),
   fun i hi hx => h.back i hi (k.back i (Nat.lt_of_lt_of_le hi h.size) hx)⟩
theorem Turned.of_below (h : Below w.heap.size w w') (hX : ∀ k, X w' k → X w k) : Turned X w w' :=
  ⟨h.os, h.tape, h.output, h.size, fun k hk _ => h.block k hk, fun k _ hx => hX k hx⟩
theorem Turned.below (h : Turned X w w') {B : Nat} (hB : B ≤ w.heap.size) (hx : ∀ k, X w k → B ≤ k) : Below B w w' :=
  ⟨h.os, h.tape, h.output, h.size, fun k hk => h.block k (by omega) (fun hm => by have := hx k hm; omega)⟩
theorem Turned.far (h : Turned X w w') {B : Nat} (hB : B ≤ w.heap.size) (hx : ∀ k, X w k → B ≤ k) : ∀ k, X w' k → B ≤ k := fun k hk => by
  by_cases hl : k < w.heap.size
  · exact hx k (h.back k hl hk)
  · omega
theorem Turned.row (h : Turned X w w') {b : Nat} {t : TypeId} {vs : List Value} (hr : RowL w b t vs) (hx : ¬ X w b) : RowL w' b t vs := hr.of_block (h.block b hr.lt hx)
end

/-- A visitor: the function's number is F; it holds the state s where I says so. -/
structure Vis {σ : Type} (F : FuncId) (cap : Array Value) (I : World → σ → Prop) (X : World → Nat → Prop) (step : σ → En → σ) : Prop where
  call : ∀ (x : En) (s : σ) (w : World), I w s → Calls Tryz.prog F (#[.agg #[.int .i64 x.key, .int .i64 x.c, .int .i64 x.s, .int .i64 x.lo, .int .i64 x.hi, .int .i64 x.t, .int .i64 x.l]] ++ cap) w
    fun e w' => e = .returned (.tuple #[]) ∧ I w' (step s x) ∧ Turned X w w'
  stay : ∀ (s : σ) (w w' : World), I w s → Below w.heap.size w w' → I w' s
  same : ∀ (s : σ) (w w' : World), I w s → Below w.heap.size w w' → ∀ k, X w' k → X w k
  lt : ∀ (s : σ) (w : World), I w s → ∀ k, X w k → k < w.heap.size

def XK (bk bc : Nat) : World → Nat → Prop := fun _ k => k = bk ∨ k = bc

theorem visK (bk bc : Nat) : Vis 64 #[.pointer (some ⟨bc, 0, none⟩), .pointer (some ⟨bk, 0, none⟩)] (KAt bk bc) (XK bk bc) stepK where
  call x s w h := (visit_any x bk bc s w h).mono fun e w' ⟨h1, h2, h3⟩ => ⟨h1, h2, h3.os, h3.tape, h3.output, h3.size, fun k hk hx => h3.block k hk (fun hm => hx (by simpa [XK] using hm)), fun _ _ hx => hx⟩
  stay _ _ _ h hb := h.below hb
  same _ _ _ _ _ _ hx := hx
  lt _ w h k hx := by
    rcases hx with rfl | rfl
    · exact h.rk.lt
    · exact h.rc.lt

/-- The nodes that a walk from n on down comes to. -/
def Reach (ns : List Nd) : Nat → Int → Prop
  | 0, _ => False
  | f + 1, n => 0 ≤ n ∧ n < ns.length ∧ (ns.getD n.toNat default).kids.length ≤ (ns.getD n.toNat default).keys.length + 1 ∧ ∀ d ∈ (ns.getD n.toNat default).kids, Reach ns f d

def itK (g : Int → List En) (low high : Int) (kids keys : List Int) (pr : Option Int) (i : Nat) : List En :=
  if skipB low high (if i = 0 then pr else keys[i - 1]?) keys[i]? = true then [] else g (kids.getD i 0)

theorem WlK_range (g : Int → List En) (low high : Int) : ∀ (kids keys : List Int) (pr : Option Int), WlK g low high kids keys pr = (List.range kids.length).flatMap (itK g low high kids keys pr)
  | [], _, _ => by simp [WlK]
  | d :: ds, keys, pr => by
    have ih := WlK_range g low high ds keys.tail keys.head?
    have e : ∀ i, itK g low high (d :: ds) keys pr (i + 1) = itK g low high ds keys.tail keys.head? i := fun i => by
      unfold itK
      cases i with
      | zero => cases keys <;> simp
      | succ j => cases keys <;> simp
    have e0 : itK g low high (d :: ds) keys pr 0 = if skipB low high pr keys.head? = true then [] else g d := by
      show (if skipB low high pr keys[0]? = true then [] else g d) = _
      rw [show keys[0]? = keys.head? by cases keys <;> rfl]
    rw [WlK, ih, List.length_cons, List.range_succ_eq_map, List.flatMap_cons, List.flatMap_map, e0]
    simp only [Nat.succ_eq_add_one, e]

theorem flat_le (f : Nat → List En) {i n : Nat} (h : i ≤ n) : ((List.range i).flatMap f).length ≤ ((List.range n).flatMap f).length := by
  obtain ⟨d, rfl⟩ := Nat.le.dest h
  rw [List.range_add, List.flatMap_append, List.length_append]
  omega

theorem Wk_kid {g : Int → Int → Int → St → Option (St × List Int)} : ∀ (ds keys : List Int) (lo hi : Int) (S : St) (r : St × List Int), Wk g ds keys lo hi S = some r → ∀ d ∈ ds, ∃ lo' hi' S' r', g d lo' hi' S' = some r'
  | [], _, _, _, _, _, _, d, hd => by simp at hd
  | x :: ds, keys, lo, hi, S, r, hr, d, hd => by
    unfold Wk at hr
    split at hr
    · cases hr
    · rename_i S1 l1 h1
      rcases List.mem_cons.1 hd with rfl | hd
      · exact ⟨_, _, _, _, h1⟩
      · split at hr
        · cases hr
        · rename_i S2 l2 h2
          exact Wk_kid ds _ _ _ _ _ h2 d hd

theorem W_reach {ns : List Nd} : ∀ (f : Nat) (n lo hi : Int) (S : St) (r : St × List Int), W ns f n lo hi S = some r → Reach ns f n := by
  intro f
  induction f with
  | zero => intro n lo hi S r h; cases h
  | succ f ih =>
    intro n lo hi S r h
    unfold W at h
    split at h
    · cases h
    · rename_i hc
      refine ⟨by omega, by omega, ?_⟩
      split at h
      · split at h
        · rename_i hl
          simp only [leafB, Bool.and_eq_true, List.isEmpty_iff] at hl
          obtain ⟨⟨⟨⟨⟨h1, h2⟩, h3⟩, _⟩, _⟩, _⟩ := hl
          rw [h1, h2]
          simp
        · cases h
      · split at h
        · rename_i hl
          simp only [innerB, Bool.and_eq_true, List.isEmpty_iff, beq_iff_eq] at hl
          obtain ⟨⟨⟨⟨⟨h1, h2⟩, h3⟩, h4⟩, _⟩, _⟩ := hl
          refine ⟨by omega, fun d hd => ?_⟩
          obtain ⟨_, _, _, _, q⟩ := Wk_kid _ _ _ _ _ _ h d hd
          exact ih _ _ _ _ _ q
        · cases h

theorem treeC_W {ns : List Nd} {root : Int} (h : treeC ns root = 0) : ∃ r, W ns 12 root 0 1099511627776 [] = some r := by
  unfold treeC at h
  split at h
  · omega
  · cases hW : W ns 12 root 0 1099511627776 [] with
    | none => rw [hW] at h; simp at h
    | some p => exact ⟨p, rfl⟩

end Go.Proofs.YtlojfgdpmaigmacGreatDoor

/- A loop over kids as the code's survey goes: with one depth for all leaves. -/
namespace Go.Proofs.YtlojfgdpmaigmacGreatDoor
open Go.RowKit Plain Go.Maps

def nextL (L : Int) (l : List Int) : Int := if L = 0 then l.headD 0 else L

structure KidsN (g : Int → Int → Int → St → Option (St × List Int)) (kids keys : List Int) (low high : Int) (S0 : St) (L0 : Int) (i : Nat) (lo : Int) (S : St) (acc : List Int) (L : Int) : Prop where
  eq : Wk g kids keys low high S0 = join acc (Wk g (kids.drop i) (keys.drop i) lo high S)
  same : ∀ x ∈ acc, x = L
  none : acc = [] → L = L0
  pos : acc ≠ [] → L ≠ 0
  first : L0 ≠ 0 → L = L0
  low : low ≤ lo

section
variable {g : Int → Int → Int → St → Option (St × List Int)} {kids keys : List Int} {low high lo L0 L : Int} {S0 S : St} {i : Nat} {acc : List Int}

theorem kidsN_start (g : Int → Int → Int → St → Option (St × List Int)) (kids keys : List Int) (low high : Int) (S0 : St) (L0 : Int) : KidsN g kids keys low high S0 L0 0 low S0 [] L0 :=
  ⟨by rw [join_nil]; rfl, by simp, fun _ => rfl, by simp, fun _ => rfl, Int.le_refl _⟩

theorem okL_iff {L : Int} {l : List Int} : okL L l = true ↔ ∀ x ∈ l, x = nextL L l := by
  simp [okL, nextL]

theorem kidsN_no (h : KidsN g kids keys low high S0 L0 i lo S acc L) (hi : i < kids.length) (hr : resN L (g kids[i] lo (toAt keys high i) S) = false) : resN L0 (Wk g kids keys low high S0) = false := by
  rw [h.eq, Wk_drop hi]
  cases hg : g kids[i] lo (toAt keys high i) S with
  | none => rfl
  | some p =>
    obtain ⟨S1, l1⟩ := p
    rw [hg] at hr
    simp only [join_join]
    cases Wk g (kids.drop (i + 1)) (keys.drop (i + 1)) (toAt keys high i) high S1 with
    | none => rfl
    | some q =>
      obtain ⟨S2, l2⟩ := q
      simp only [join, resN] at hr ⊢
      rw [Bool.eq_false_iff] at hr ⊢
      intro hok
      apply hr
      rw [okL_iff] at hok ⊢
      intro x hx
      have hx' := hok x (List.mem_append_left _ (List.mem_append_right _ hx))
      rw [hx']
      by_cases hacc : acc = []
      · have hL := h.none hacc
        subst hacc hL
        cases l1 with
        | nil => simp at hx
        | cons d r => simp [nextL]
      · have hL := h.pos hacc
        obtain ⟨y, hy⟩ := List.exists_mem_of_ne_nil _ hacc
        have hy' := hok y (List.mem_append_left _ (List.mem_append_left _ hy))
        rw [← hy', h.same y hy]
        simp [nextL, hL]

theorem kidsN_next (hd : ∀ d low high S S' l, g d low high S = some (S', l) → l ≠ [] ∧ ∀ x ∈ l, 1 ≤ x) (hw : ∀ d low high S r, g d low high S = some r → low < high) (h : KidsN g kids keys low high S0 L0 i lo S acc L) (hi : i < kids.length) (hr : resN L (g kids[i] lo (toAt keys high i) S) = true) :
    ∃ S1 l1, g kids[i] lo (toAt keys high i) S = some (S1, l1) ∧ okL L l1 = true ∧ KidsN g kids keys low high S0 L0 (i + 1) (toAt keys high i) S1 (acc ++ l1) (nextL L l1) := by
  cases hg : g kids[i] lo (toAt keys high i) S with
  | none => rw [hg] at hr; simp [resN] at hr
  | some p =>
    obtain ⟨S1, l1⟩ := p
    rw [hg] at hr
    simp only [resN] at hr
    have hall := okL_iff.1 hr
    obtain ⟨hl, hpos⟩ := hd _ _ _ _ _ _ hg
    have hlt := hw _ _ _ _ _ hg
    have hlow := h.low
    obtain ⟨x, hx⟩ := List.exists_mem_of_ne_nil _ hl
    have hn0 : nextL L l1 ≠ 0 := by
      have := hpos x hx
      rw [hall x hx] at this
      omega
    refine ⟨S1, l1, rfl, hr, ⟨?_, ?_, fun e => absurd (List.append_eq_nil_iff.1 e).2 hl, fun _ => hn0, fun h0 => ?_, by omega⟩⟩
    · rw [h.eq, Wk_drop hi, hg]
      simp only [join_join]
    · intro z hz
      rcases List.mem_append.1 hz with hz | hz
      · have hacc : acc ≠ [] := List.ne_nil_of_mem hz
        have hL := h.pos hacc
        rw [h.same z hz]
        simp [nextL, hL]
      · exact hall z hz
    · have := h.first h0
      subst this
      simp [nextL, h0]

theorem kidsN_end (h : KidsN g kids keys low high S0 L0 i lo S acc L) (hi : i = kids.length) : Wk g kids keys low high S0 = some (S, acc) ∧ resN L0 (Wk g kids keys low high S0) = true ∧ nextL L0 acc = L := by
  have e : Wk g kids keys low high S0 = some (S, acc) := by
    rw [h.eq, hi, List.drop_length]
    simp [Wk, join]
  have hn : nextL L0 acc = L := by
    unfold nextL
    split
    · rename_i h0
      cases acc with
      | nil => simp; rw [h.none rfl]; exact h0.symm
      | cons d r => simpa using h.same d List.mem_cons_self
    · rename_i h0
      exact (h.first h0).symm
  refine ⟨e, ?_, hn⟩
  rw [e]
  simp only [resN]
  rw [okL_iff, hn]
  exact h.same

end

theorem law : Keyed Tryz.prog 3 := int_keyed Tryz.underlying3
theorem zeroI (w : World) : (zeroValue 3).run Tryz.prog w = .ok (.int .i64 0) w := by kernel_rfl

/-- Block mb is the map of which nodes have been come to, and how deep. -/
def MapIs (w : World) (mb : Nat) (S : St) : Prop :=
  ∃ D : DataW Unit, w.ownsMap Tryz.prog 3 (plainElem Tryz.prog 3) mb S.length D ∧ (∀ n : Int, Maps.has D (.int .i64 n) = seenB S n) ∧ (∀ p ∈ S, D.atKey (.int .i64 p.1) (.lit (.int .i64 0)) = .lit (.int .i64 p.2)) ∧ Maps.size D = S.length

theorem map_of_block {w w' : World} {mb n : Nat} {D : DataW Unit} (h : w.ownsMap Tryz.prog 3 (plainElem Tryz.prog 3) mb n D) (e : w'.heap[mb]? = w.heap[mb]?) : w'.ownsMap Tryz.prog 3 (plainElem Tryz.prog 3) mb n D := by
  unfold World.ownsMap at *
  rw [e]
  exact h

theorem MapIs.of_block {w w' : World} {mb : Nat} {S : St} (h : MapIs w mb S) (e : w'.heap[mb]? = w.heap[mb]?) : MapIs w' mb S := by
  obtain ⟨D, a, b⟩ := h
  exact ⟨D, map_of_block a e, b⟩

theorem MapIs.lt {w : World} {mb : Nat} {S : St} (h : MapIs w mb S) : mb < w.heap.size := by
  obtain ⟨D, a, _⟩ := h
  exact a.lt

theorem MapIs.look {w : World} {mb : Nat} {S : St} (h : MapIs w mb S) {n d : Int} (hp : (n, d) ∈ S) (hw : (Lit.int .i64 n).wf = true) :
    ∀ w' : World, w'.heap[mb]? = w.heap[mb]? → (Instr.lookup 85 (.map (some mb)) (.int .i64 n) false).run Tryz.prog w' = .ok (.int .i64 d) w' := by
  intro w' e
  obtain ⟨D, a, _, b, _⟩ := h
  obtain ⟨c, hrun, hat, _⟩ := (map_of_block a e).lookup_int law Tryz.underlying85 Tryz.underlying3 (zeroI _) (keyOf_int_mk Tryz.underlying3 hw)
  have := (b _ hp).symm.trans hat
  simp at this
  subst this
  exact hrun

end Go.Proofs.YtlojfgdpmaigmacGreatDoor

/- What comes together of one key, step by step. -/
namespace Go.Proofs.YtlojfgdpmaigmacGreatDoor
open Go.RowKit Plain

def ansO : Option (List En) → Ru × Int
  | none => (zro, 1)
  | some [] => (zro, 0)
  | some (y :: _) => (y.ru, 0)

def RelO (key : Int) (o : Option (List En)) (s : Ru × Int) : Prop :=
  (o = some [] ∧ s = (zro, 0)) ∨ (∃ y, o = some [y] ∧ y.key = key ∧ Good y.ru ∧ s = (y.ru, 0)) ∨ (o = none ∧ s = (zro, 1))

theorem relO_ans {key : Int} {o : Option (List En)} {s : Ru × Int} (h : RelO key o s) : ansO o = s := by
  rcases h with ⟨rfl, rfl⟩ | ⟨y, rfl, _, _, rfl⟩ | ⟨rfl, rfl⟩ <;> rfl

theorem relO_step {key : Int} {o : Option (List En)} {s : Ru × Int} (h : RelO key o s) {x : En} (hk : x.key = key) (hg : Good x.ru) : RelO key (insO o x) (stepK s x) := by
  rcases h with ⟨rfl, rfl⟩ | ⟨y, rfl, hy, gy, rfl⟩ | ⟨rfl, rfl⟩
  · refine .inr (.inl ⟨x, rfl, hk, hg, ?_⟩)
    unfold stepK
    rw [if_pos rfl]
    exact mrg_zro hg
  · have e : insO (some [y]) x = ins [y] x := rfl
    rw [e, ins_eq (hy.trans hk.symm)]
    unfold stepK
    rw [if_pos rfl]
    show RelO key _ (mrg y.ru x.ru)
    rw [mrg_good gy hg]
    by_cases hc : y.c + x.c ≤ 1073741824
    · rw [if_pos hc, if_pos (show y.ru.c + x.ru.c ≤ 1073741824 from hc)]
      exact .inr (.inl ⟨_, rfl, hk, good_jn gy hg hc, rfl⟩)
    · rw [if_neg hc, if_neg (show ¬ y.ru.c + x.ru.c ≤ 1073741824 from hc)]
      exact .inr (.inr ⟨rfl, rfl⟩)
  · exact .inr (.inr ⟨rfl, rfl⟩)

theorem relO_fold {key : Int} : ∀ (xs : List En) (o : Option (List En)) (s : Ru × Int), RelO key o s → (∀ x ∈ xs, x.key = key ∧ Good x.ru) → RelO key (xs.foldl insO o) (xs.foldl stepK s)
  | [], _, _, h, _ => h
  | x :: xs, o, s, h, hx => relO_fold xs _ _ (relO_step h (hx x (by simp)).1 (hx x (by simp)).2) (fun y hy => hx y (by simp [hy]))

end Go.Proofs.YtlojfgdpmaigmacGreatDoor

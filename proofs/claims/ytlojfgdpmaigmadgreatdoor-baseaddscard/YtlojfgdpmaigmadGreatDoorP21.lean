/- What comes of a list of entries whose keys do not fall, gone through once; and what a tree's walk hands to it. -/
import Derived.Test.YtlojfgdpmaigmadGreatDoorP18
import Derived.Test.YtlojfgdpmaigmadGreatDoorWithWalk
import Derived.Test.YtlojfgdpmaigmadGreatDoorP14
import Derived.Test.YtlojfgdpmaigmadGreatDoorP19
import Derived.Test.YtlojfgdpmaigmadGreatDoorP11
namespace Go.Proofs.YtlojfgdpmaigmadGreatDoor
open Go.RowKit Plain

theorem ins_end {x : En} {l : List En} (h : ∀ z ∈ l, z.key < x.key) : ins l x = some (l ++ [x]) := by
  have := ins_app (x := x) [] h
  simpa [ins] using this

theorem ins_last {x y : En} {l : List En} (h : ∀ z ∈ l, z.key < x.key) (hy : y.key = x.key) : ins (l ++ [y]) x = if y.c + x.c ≤ 1073741824 then some (l ++ [mkE x.key (jn y.ru x.ru)]) else none := by
  rw [ins_app _ h, ins_eq hy]
  split <;> simp

/-- What is out so far, of the first i of xs. -/
structure Brg (xs : List En) (i : Nat) (out : List En) : Prop where
  is : allL (xs.take i) = some out
  inc : out.Pairwise fun a b => a.key < b.key
  up : ∀ z ∈ out, ∀ x ∈ xs.drop i, z.key ≤ x.key
  good : ∀ z ∈ out, Good z.ru
  len : out.length ≤ i

theorem brg_start (xs : List En) : Brg xs 0 [] := ⟨by simp [allL], by simp, by simp, by simp, by simp⟩

theorem drop_mem {xs : List En} {i : Nat} {x : En} (h : x ∈ xs.drop (i + 1)) : x ∈ xs.drop i := by
  have : xs.drop (i + 1) = (xs.drop i).drop 1 := by rw [List.drop_drop]
  rw [this] at h
  exact List.mem_of_mem_drop h

theorem take_step {xs : List En} {i : Nat} (hi : i < xs.length) : allL (xs.take (i + 1)) = insO (allL (xs.take i)) xs[i] := by
  rw [List.take_succ_eq_append_getElem hi, allL_snoc]

theorem sorted_drop {xs : List En} (hs : xs.Pairwise fun a b => a.key ≤ b.key) {i : Nat} (hi : i < xs.length) : ∀ x ∈ xs.drop (i + 1), xs[i].key ≤ x.key := by
  intro x hx
  obtain ⟨j, hj, rfl⟩ := List.getElem_of_mem hx
  rw [List.getElem_drop]
  exact List.pairwise_iff_getElem.1 hs i (i + 1 + j) hi _ (by omega)

/-- The next one has a key of its own. -/
theorem brg_new {xs : List En} {i : Nat} {out : List En} (hs : xs.Pairwise fun a b => a.key ≤ b.key) (h : Brg xs i out) (hi : i < xs.length) (hg : Good xs[i].ru) (hn : ∀ l y, out = l ++ [y] → y.key ≠ xs[i].key) : Brg xs (i + 1) (out ++ [xs[i]]) := by
  have mem : xs[i] ∈ xs.drop i := by rw [List.drop_eq_getElem_cons hi]; exact List.mem_cons_self
  have low : ∀ z ∈ out, z.key < xs[i].key := by
    intro z hz
    rcases List.eq_nil_or_concat out with rfl | ⟨l, y, rfl⟩
    · simp at hz
    · have hy := h.up y (by simp) _ mem
      have hne := hn l y (by simp)
      rcases List.mem_append.1 (by simpa using hz : z ∈ l ++ [y]) with hz | hz
      · have := (List.pairwise_append.1 (by simpa using h.inc : (l ++ [y]).Pairwise _)).2.2 z hz y (by simp)
        omega
      · have : z = y := by simpa using hz
        subst this
        omega
  refine ⟨?_, ?_, ?_, ?_, ?_⟩
  · rw [take_step hi, h.is]
    exact ins_end low
  · rw [List.pairwise_append]
    exact ⟨h.inc, by simp, fun a ha b hb => by have : b = xs[i] := by simpa using hb
                                               subst this; exact low a ha⟩
  · intro z hz x hx
    rcases List.mem_append.1 hz with hz | hz
    · exact h.up z hz x (drop_mem hx)
    · have : z = xs[i] := by simpa using hz
      subst this
      exact sorted_drop hs hi x hx
  · intro z hz
    rcases List.mem_append.1 hz with hz | hz
    · exact h.good z hz
    · have : z = xs[i] := by simpa using hz
      subst this
      exact hg
  · have := h.len
    simp
    omega

/-- The next one has the last one's key. -/
theorem brg_same {xs : List En} {i : Nat} {l : List En} {y : En} (hs : xs.Pairwise fun a b => a.key ≤ b.key) (h : Brg xs i (l ++ [y])) (hi : i < xs.length) (hg : Good xs[i].ru) (hy : y.key = xs[i].key) :
    mrg y.ru xs[i].ru = (if y.c + xs[i].c ≤ 1073741824 then (jn y.ru xs[i].ru, 0) else (zro, 1)) ∧
    (y.c + xs[i].c ≤ 1073741824 → Brg xs (i + 1) (l ++ [mkE xs[i].key (jn y.ru xs[i].ru)])) ∧ (¬ y.c + xs[i].c ≤ 1073741824 → allL xs = none) := by
  have low : ∀ z ∈ l, z.key < xs[i].key := fun z hz => by
    have := (List.pairwise_append.1 h.inc).2.2 z hz y (by simp)
    omega
  have st : allL (xs.take (i + 1)) = if y.c + xs[i].c ≤ 1073741824 then some (l ++ [mkE xs[i].key (jn y.ru xs[i].ru)]) else none := by
    rw [take_step hi, h.is]
    exact ins_last low hy
  have gy := h.good y (by simp)
  refine ⟨mrg_good gy hg, fun hc => ?_, fun hc => ?_⟩
  · rw [if_pos hc] at st
    refine ⟨st, ?_, ?_, ?_, ?_⟩
    · rw [List.pairwise_append]
      exact ⟨(List.pairwise_append.1 h.inc).1, by simp, fun a ha b hb => by have : b = mkE xs[i].key (jn y.ru xs[i].ru) := by simpa using hb
                                                                            subst this; exact low a ha⟩
    · intro z hz x hx
      rcases List.mem_append.1 hz with hz | hz
      · exact h.up z (by simp [hz]) x (drop_mem hx)
      · have : z = mkE xs[i].key (jn y.ru xs[i].ru) := by simpa using hz
        subst this
        exact sorted_drop hs hi x hx
    · intro z hz
      rcases List.mem_append.1 hz with hz | hz
      · exact h.good z (by simp [hz])
      · have : z = mkE xs[i].key (jn y.ru xs[i].ru) := by simpa using hz
        subst this
        exact good_jn gy hg hc
    · have := h.len
      simp only [List.length_append, List.length_cons, List.length_nil] at this ⊢
      omega
  · rw [if_neg hc] at st
    have e : xs = xs.take (i + 1) ++ xs.drop (i + 1) := (List.take_append_drop _ _).symm
    rw [e]
    unfold allL at st ⊢
    rw [List.foldl_append, st]
    exact fold_none _

theorem brg_end {xs out : List En} (h : Brg xs xs.length out) : allL xs = some out := by
  have := h.is
  rwa [List.take_length] at this

theorem own_some {w : World} {base : Nat} {e : TypeId} {size n k : Nat} {v : Value} {vs : List Value} (h : w.ownsRow base e size v n vs) (hk : v.ownBlock = some k) : base ≤ k ∧ k < w.heap.size := by
  rcases h.2 with ⟨rfl, _⟩ | ⟨g, cap, cur, rfl, hb, hg, _⟩
  · cases hk
  · have : g = k := by simpa [Value.ownBlock] using hk
    subst this
    exact ⟨hb, (Array.getElem?_eq_some_iff.1 hg).1⟩

theorem news2 (w : World) (o : Obj) (x : En) : ∀ j u, x.vals[j]? = some u → ((w.alloc o).alloc (.cells x.vals.toArray 63)).cell? ((⟨w.heap.size + 1, 0, none⟩ : Addr).add j) = some u := by
  have := news1 (w.alloc o) x
  simpa using this

end Go.Proofs.YtlojfgdpmaigmadGreatDoor

/- What comes together of some keys is what of all that comes together has them. -/
namespace Go.Proofs.YtlojfgdpmaigmadGreatDoor
open Go.RowKit Plain

theorem ins_inc {x : En} : ∀ {l r : List En}, (l.Pairwise fun a b => a.key < b.key) → ins l x = some r → (r.Pairwise fun a b => a.key < b.key) ∧ ∀ z ∈ r, z.key = x.key ∨ ∃ y ∈ l, y.key = z.key
  | [], r, _, h => by
    cases h
    exact ⟨by simp, by simp⟩
  | y :: l, r, hp, h => by
    obtain ⟨h1, h2⟩ := List.pairwise_cons.1 hp
    rcases Int.lt_trichotomy x.key y.key with hk | hk | hk
    · rw [ins_lt hk] at h
      cases h
      refine ⟨List.pairwise_cons.2 ⟨fun z hz => ?_, hp⟩, fun z hz => ?_⟩
      · rcases List.mem_cons.1 hz with rfl | hz
        · exact hk
        · have := h1 z hz
          omega
      · rcases List.mem_cons.1 hz with rfl | hz
        · exact .inl rfl
        · exact .inr ⟨z, hz, rfl⟩
    · rw [ins_eq hk.symm] at h
      split at h
      · cases h
        refine ⟨List.pairwise_cons.2 ⟨fun z hz => ?_, h2⟩, fun z hz => ?_⟩
        · rw [mkE_key, hk]
          exact h1 z hz
        · rcases List.mem_cons.1 hz with rfl | hz
          · exact .inl rfl
          · exact .inr ⟨z, List.mem_cons_of_mem _ hz, rfl⟩
      · cases h
    · rw [ins_gt hk] at h
      cases hi : ins l x with
      | none => rw [hi] at h; cases h
      | some r' =>
        rw [hi] at h
        cases h
        obtain ⟨q1, q2⟩ := ins_inc h2 hi
        refine ⟨List.pairwise_cons.2 ⟨fun z hz => ?_, q1⟩, fun z hz => ?_⟩
        · rcases q2 z hz with e | ⟨u, hu, e⟩
          · omega
          · have := h1 u hu
            omega
        · rcases List.mem_cons.1 hz with rfl | hz
          · exact .inr ⟨z, List.mem_cons_self, rfl⟩
          · rcases q2 z hz with e | ⟨u, hu, e⟩
            · exact .inl e
            · exact .inr ⟨u, List.mem_cons_of_mem _ hu, e⟩

theorem ins_below {x : En} : ∀ {l : List En}, (∀ z ∈ l, x.key < z.key) → ins l x = some (x :: l)
  | [], _ => rfl
  | y :: _, h => ins_lt (h y List.mem_cons_self)

theorem ins_filter {P : Int → Bool} {x : En} : ∀ {o o' : List En}, (o.Pairwise fun a b => a.key < b.key) → ins o x = some o' →
    (P x.key = true → ins (o.filter fun z => P z.key) x = some (o'.filter fun z => P z.key)) ∧ (P x.key = false → (o'.filter fun z => P z.key) = o.filter fun z => P z.key)
  | [], o', _, h => by
    cases h
    exact ⟨fun hp => by simp [ins, hp], fun hp => by simp [hp]⟩
  | y :: r, o', hs, h => by
    obtain ⟨h1, h2⟩ := List.pairwise_cons.1 hs
    rcases Int.lt_trichotomy x.key y.key with hk | hk | hk
    · rw [ins_lt hk] at h
      cases h
      refine ⟨fun hp => ?_, fun hp => by rw [List.filter_cons_of_neg (by simp [hp])]⟩
      rw [List.filter_cons_of_pos (a := x) (by simpa using hp)]
      refine ins_below fun z hz => ?_
      rcases List.mem_cons.1 (List.mem_filter.1 hz).1 with rfl | hz
      · exact hk
      · have := h1 z hz
        omega
    · rw [ins_eq hk.symm] at h
      split at h
      · rename_i hc
        cases h
        refine ⟨fun hp => ?_, fun hp => ?_⟩
        · rw [List.filter_cons_of_pos (by rw [← hk]; exact hp), List.filter_cons_of_pos (by exact hp), ins_eq hk.symm, if_pos hc]
        · rw [List.filter_cons_of_neg (by rw [mkE_key, hp]; simp), List.filter_cons_of_neg (by rw [← hk, hp]; simp)]
      · cases h
    · rw [ins_gt hk] at h
      cases hi : ins r x with
      | none => rw [hi] at h; cases h
      | some r' =>
        rw [hi] at h
        cases h
        obtain ⟨q1, q2⟩ := ins_filter (P := P) h2 hi
        refine ⟨fun hp => ?_, fun hp => ?_⟩
        · by_cases hy : P y.key = true
          · rw [List.filter_cons_of_pos (by exact hy), List.filter_cons_of_pos (by exact hy), ins_gt hk, q1 hp]
            rfl
          · rw [List.filter_cons_of_neg (by exact hy), List.filter_cons_of_neg (by exact hy), q1 hp]
        · by_cases hy : P y.key = true
          · rw [List.filter_cons_of_pos (by exact hy), List.filter_cons_of_pos (by exact hy), q2 hp]
          · rw [List.filter_cons_of_neg (by exact hy), List.filter_cons_of_neg (by exact hy), q2 hp]

theorem allL_filter {P : Int → Bool} : ∀ (xs o r : List En), (o.Pairwise fun a b => a.key < b.key) → xs.foldl insO (some o) = some r → (xs.filter fun z => P z.key).foldl insO (some (o.filter fun z => P z.key)) = some (r.filter fun z => P z.key)
  | [], o, r, _, h => by
    cases h
    simp
  | x :: xs, o, r, hs, h => by
    rw [List.foldl_cons] at h
    cases hi : insO (some o) x with
    | none => rw [hi, fold_none] at h; cases h
    | some o' =>
      rw [hi] at h
      have hi' : ins o x = some o' := hi
      have ih := allL_filter (P := P) xs o' r (ins_inc hs hi').1 h
      obtain ⟨q1, q2⟩ := ins_filter (P := P) hs hi'
      by_cases hp : P x.key = true
      · rw [List.filter_cons_of_pos (by exact hp), List.foldl_cons, show insO (some (o.filter fun z => P z.key)) x = ins (o.filter fun z => P z.key) x from rfl, q1 hp]
        exact ih
      · rw [List.filter_cons_of_neg (by exact hp), ← q2 (by simpa using hp)]
        exact ih

end Go.Proofs.YtlojfgdpmaigmadGreatDoor

/- What a call leaves as it was, some blocks apart; which nodes have been seen. -/
namespace Go.Proofs.YtlojfgdpmaigmadGreatDoor
open Go.RowKit Plain

/-- w' is w with new blocks, and with writes to the blocks of ex alone. -/
structure Kept (ex : List Nat) (w w' : World) : Prop where
  os : w'.os = w.os
  tape : w'.tape = w.tape
  output : w'.output = w.output
  size : w.heap.size ≤ w'.heap.size
  block : ∀ k, k < w.heap.size → k ∉ ex → w'.heap[k]? = w.heap[k]?

section
variable {ex : List Nat} {w w' w'' : World}

theorem Kept.refl (ex : List Nat) (w : World) : Kept ex w w := ⟨rfl, rfl, rfl, Nat.le_refl _, fun _ _ _ => rfl⟩
theorem Kept.trans (h : Kept ex w w') (k : Kept ex w' w'') : Kept ex w w'' :=
  ⟨k.os.trans h.os, k.tape.trans h.tape, k.output.trans h.output, Nat.le_trans h.size k.size, fun i hi hx => (k.block i (Nat.lt_of_lt_of_le hi h.size) hx).trans (h.block i hi hx)⟩
theorem Kept.alloc (h : Kept ex w w') (o : Obj) : Kept ex w (w'.alloc o) :=
  h.trans ⟨rfl, rfl, rfl, by simp, fun k hk _ => Below.heap_alloc _ _ _ hk⟩
theorem Kept.set (h : Kept ex w w') {b j : Nat} (hb : b ∈ ex ∨ w.heap.size ≤ b) (v : Value) : Kept ex w (w'.setCell ⟨b, j, none⟩ v) :=
  ⟨h.os, h.tape, h.output, by simpa using h.size, fun k hk hx => (Below.heap_setCell _ _ _ _ (by rintro rfl; rcases hb with hb | hb; exact hx hb; omega)).trans (h.block k hk hx)⟩
theorem Kept.drew (h : Kept ex w w') : Kept ex w w'.drew := ⟨h.os, h.tape, h.output, h.size, h.block⟩
theorem Kept.drewN (h : Kept ex w w') (n : Nat) : Kept ex w (w'.drewN n) := ⟨h.os, h.tape, h.output, h.size, h.block⟩
theorem Kept.of_below (h : Below w.heap.size w w') : Kept ex w w' := ⟨h.os, h.tape, h.output, h.size, fun k hk _ => h.block k hk⟩
theorem Kept.below (h : Kept ex w w') {B : Nat} (hB : B ≤ w.heap.size) (hx : ∀ x ∈ ex, B ≤ x) : Below B w w' :=
  ⟨h.os, h.tape, h.output, h.size, fun k hk => h.block k (by omega) (fun hm => by have := hx k hm; omega)⟩
theorem Kept.cell (h : Kept ex w w') {b : Nat} (o : Nat) (hb : b < w.heap.size) (hx : b ∉ ex) : w'.cell? ⟨b, o, none⟩ = w.cell? ⟨b, o, none⟩ :=
  World.cell?_of_block (w := w) (a := ⟨b, o, none⟩) (h.block b hb hx)
theorem Kept.row (h : Kept ex w w') {b : Nat} {t : TypeId} {vs : List Value} (hr : RowL w b t vs) (hx : b ∉ ex) : RowL w' b t vs := hr.of_block (h.block b hr.lt hx)
end

theorem two_rows {v w2 : World} {l1 l2 : List Value} {t1 t2 : TypeId} (hb : Below ((v.alloc (.cells l1.toArray t1)).alloc (.cells l2.toArray t2)).heap.size ((v.alloc (.cells l1.toArray t1)).alloc (.cells l2.toArray t2)) w2) {n : Nat} (hn : n = v.heap.size) :
    RowL w2 n t1 l1 ∧ RowL w2 (n + 1) t2 l2 ∧ n + 1 < w2.heap.size := by
  subst hn
  have s1 : (v.alloc (.cells l1.toArray t1)).heap.size = v.heap.size + 1 := by simp
  have s2 : ((v.alloc (.cells l1.toArray t1)).alloc (.cells l2.toArray t2)).heap.size = v.heap.size + 2 := by simp
  have r1 : RowL ((v.alloc (.cells l1.toArray t1)).alloc (.cells l2.toArray t2)) v.heap.size t1 l1 := (rowL_alloc v l1 t1).of_block (Below.heap_alloc _ _ _ (by omega))
  have r2 : RowL ((v.alloc (.cells l1.toArray t1)).alloc (.cells l2.toArray t2)) (v.heap.size + 1) t2 l2 := by
    have := rowL_alloc (v.alloc (.cells l1.toArray t1)) l2 t2
    rwa [s1] at this
  have hs := hb.size
  exact ⟨r1.below hb (by omega), r2.below hb (by omega), by omega⟩

def SeenIs (w : World) (sb N : Nat) (S : St) : Prop := w.rowIs sb 3 N (fun i => .int .i64 (if seenB S (i : Int) = true then 1 else 0))

theorem SeenIs.set {w : World} {sb N m : Nat} {S : St} (h : SeenIs w sb N S) (d : Int) : SeenIs (w.setCell ⟨sb, m, none⟩ (.int .i64 1)) sb N (((m : Int), d) :: S) := by
  refine (World.rowIs.set h m (.int .i64 1)).congr fun i _ => ?_
  by_cases e : i = m
  · subst e; simp [seenB]
  · have hn : seenB (((m : Int), d) :: S) (i : Int) = seenB S (i : Int) := by
      unfold seenB
      rw [List.any_cons, show ((((m : Int), d) : Int × Int).1 == (i : Int)) = false by simp; omega, Bool.false_or]
    simp only [e, if_false, hn]

theorem SeenIs.kept {w w' : World} {sb N : Nat} {S : St} (h : SeenIs w sb N S) (hk : w'.heap[sb]? = w.heap[sb]?) : SeenIs w' sb N S := World.rowIs.of_block h hk

theorem W_succ (ns : List Nd) (f : Nat) (n low high : Int) (S : St) : W ns (f + 1) n low high S =
    if n < 0 ∨ (ns.length : Int) ≤ n ∨ high ≤ low ∨ seenB S n = true then none
    else if (ns.getD n.toNat default).leaf = true then
      (if leafB (ns.getD n.toNat default) low high f = true then some ((n, 12 - (f : Int)) :: S, [12 - (f : Int)]) else none)
    else if innerB (ns.getD n.toNat default) low high = true then Wk (W ns f) (ns.getD n.toNat default).kids (ns.getD n.toNat default).keys low high ((n, 12 - (f : Int)) :: S)
    else none := rfl

theorem W_out {ns : List Nd} {f : Nat} {n low high : Int} {S : St} (h : n < 0 ∨ (ns.length : Int) ≤ n ∨ high ≤ low ∨ seenB S n = true) : W ns f n low high S = none := by
  cases f with
  | zero => rfl
  | succ f => rw [W_succ, if_pos h]

theorem W_leaf {ns : List Nd} {f m : Nat} {low high : Int} {S : St} {x : Nd} (hm : m < ns.length) (hx : ns[m] = x) (hlh : low < high) (hs : seenB S m = false) (hl : x.leaf = true) :
    W ns (f + 1) m low high S = if leafB x low high f = true then some (((m : Int), 12 - (f : Int)) :: S, [12 - (f : Int)]) else none := by
  have hg : ns.getD m default = x := by simp [hm, hx]
  rw [W_succ, if_neg (by simp [hs]; omega)]
  simp only [Int.toNat_natCast, hg, hl, if_true]

theorem W_inner {ns : List Nd} {f m : Nat} {low high : Int} {S : St} {x : Nd} (hm : m < ns.length) (hx : ns[m] = x) (hlh : low < high) (hs : seenB S m = false) (hl : x.leaf = false) :
    W ns (f + 1) m low high S = if innerB x low high = true then Wk (W ns f) x.kids x.keys low high (((m : Int), 12 - (f : Int)) :: S) else none := by
  have hg : ns.getD m default = x := by simp [hm, hx]
  rw [W_succ, if_neg (by simp [hs]; omega)]
  simp only [Int.toNat_natCast, hg, hl, Bool.false_eq_true, if_false]

end Go.Proofs.YtlojfgdpmaigmadGreatDoor

/- Roots above roots, till one is enough; and what Check tells of the tree then. -/
namespace Go.Proofs.YtlojfgdpmaigmadGreatDoor
open Go.RowKit Plain

def newRoot (root : Int) (more : List (Int × Int)) : Nd := ⟨false, [], more.map (·.1), root :: more.map (·.2), []⟩

def growN : Nat → List Nd → Int → List (Int × Int) → List Nd × Int
  | 0, ns, root, _ => (ns, root)
  | f + 1, ns, root, more =>
    if more = [] then (ns, root)
    else growN f (splitN (ns ++ [newRoot root more]) ns.length).1 ns.length (splitN (ns ++ [newRoot root more]) ns.length).2

/-- Nodes in a row, above all others. -/
structure RowOk (ns : List Nd) (h : Nat) (root : Int) (more : List (Int × Int)) : Prop where
  sub : ∃ Q, SubK (Sub 6 4 ns h) 0 (ups (root :: more.map (·.2)) (more.map (·.1)) 1099511627776) Q ∧ Q.Perm (placesF 0 ns.length)

theorem nth_last (ns : List Nd) (x : Nd) : nth (ns ++ [x]) (ns.length : Int) = x := by
  unfold nth
  simp

theorem splitN_more (ns : List Nd) (root : Int) (more : List (Int × Int)) : (splitN (ns ++ [newRoot root more]) ns.length).2.length = (more.length + 4) / 4 - 1 ∧ (splitN (ns ++ [newRoot root more]) ns.length).1.length = ns.length + (more.length + 4) / 4 := by
  unfold splitN
  rw [nth_last]
  have hs : sizeN (newRoot root more) = more.length + 1 := by simp [sizeN, newRoot]
  have hm : mostN (newRoot root more) = 4 := by simp [mostN, newRoot]
  have hp : partsN (newRoot root more) = (more.length + 4) / 4 := by
    rw [partsN, hs, hm]
    congr 1
  split
  · rename_i h
    rw [hs, hm] at h
    simp
    omega
  · rename_i h
    rw [hs, hm] at h
    have hc : (cutsN (newRoot root more)).length = (more.length + 4) / 4 := by unfold cutsN; rw [cutsF_length, hp]
    constructor
    · simp only [List.length_zip, keysL_length, hc, placesF_length, hp]
      omega
    · simp only [List.length_append, List.length_set, List.length_tail, partsL_length, hc, List.length_cons, List.length_nil]
      omega

theorem row_step {ns : List Nd} {h : Nat} {root : Int} {more : List (Int × Int)} (hr : RowOk ns h root more) (hm : more ≠ []) :
    RowOk (splitN (ns ++ [newRoot root more]) ns.length).1 (h + 1) ns.length (splitN (ns ++ [newRoot root more]) ns.length).2 ∧ ((splitN (ns ++ [newRoot root more]) ns.length).1.flatMap cont).Perm (ns.flatMap cont) := by
  obtain ⟨Q, hQ, hp⟩ := hr.sub
  have hml : 1 ≤ more.length := by cases more with | nil => exact absurd rfl hm | cons => simp
  have hkl : (more.map (·.1)).length + 1 = (root :: more.map (·.2)).length := by simp
  have hlt : (0 : Int) < 1099511627776 := by decide
  have hQ' : SubK (Sub 6 4 (ns ++ [newRoot root more]) h) 0 (ups (root :: more.map (·.2)) (more.map (·.1)) 1099511627776) Q :=
    SubK_imp hQ fun d lo hi Q1 a b => Sub_congr h d lo hi Q1 a fun n hn => by
      have hm := placesF_mem.1 (hp.mem_iff.1 (b n hn))
      exact ⟨nth_append_left (by omega) (by omega), by simp; omega⟩
  have htop : Top 0 (more.length + 1) (ns ++ [newRoot root more]) (h + 1) ns.length 0 1099511627776 ((ns.length : Int) :: Q) := by
    refine ⟨⟨by omega, by simp; omega, hlt⟩, Q, rfl, ?_⟩
    rw [nth_last]
    exact ⟨rfl, rfl, by simp [newRoot]; omega, by simp [newRoot], by simp [newRoot], by simp [newRoot], rfl, hQ'⟩
  have hpl : ((ns.length : Int) :: Q).Perm (placesF 0 (ns.length + 1)) := by
    rw [placesF_append]
    refine (hp.cons _).trans ?_
    show ((ns.length : Int) :: placesF 0 ns.length).Perm (placesF 0 ns.length ++ placesF (0 + ns.length) 1)
    rw [Nat.zero_add]
    exact (List.perm_append_comm (l₁ := [(ns.length : Int)]) (l₂ := placesF 0 ns.length))
  have hnd : ((ns.length : Int) :: Q).Nodup := hpl.nodup_iff.2 (placesF_nodup _ _)
  have hs := split_ok htop hnd
  obtain ⟨Q', h1, h2⟩ := hs.sub
  refine ⟨⟨Q', h1, h2.trans ?_⟩, hs.cont.trans ?_⟩
  · have hle := hs.le
    rw [show (splitN (ns ++ [newRoot root more]) ns.length).1.length = (ns.length + 1) + ((splitN (ns ++ [newRoot root more]) ns.length).1.length - (ns ++ [newRoot root more]).length) by simp at hle ⊢; omega, placesF_append]
    have e : (ns ++ [newRoot root more]).length = 0 + (ns.length + 1) := by simp
    rw [e]
    refine (hpl.append_right _).trans ?_
    exact List.Perm.of_eq (by congr 2; simp at hle; omega)
  · simp [cont, newRoot]

theorem grow_ok : ∀ (f : Nat) {ns : List Nd} {h : Nat} {root : Int} {more : List (Int × Int)}, more.length ≤ f → RowOk ns h root more →
    (∃ h' Q, Sub 6 4 (growN f ns root more).1 h' (growN f ns root more).2 0 1099511627776 Q ∧ Q.Perm (placesF 0 (growN f ns root more).1.length)) ∧ ((growN f ns root more).1.flatMap cont).Perm (ns.flatMap cont) ∧ (growN f ns root more).1.length ≤ ns.length + more.length := by
  intro f
  induction f with
  | zero =>
    intro ns h root more hf hr
    obtain rfl : more = [] := List.eq_nil_of_length_eq_zero (by omega)
    obtain ⟨Q, ⟨Q1, Q2, rfl, h1, h2⟩, hp⟩ := hr.sub
    cases h2
    rw [List.append_nil] at hp
    exact ⟨⟨h, Q1, h1, hp⟩, List.Perm.refl _, by simp [growN]⟩
  | succ f ih =>
    intro ns h root more hf hr
    unfold growN
    split
    · rename_i hm
      subst hm
      obtain ⟨Q, ⟨Q1, Q2, rfl, h1, h2⟩, hp⟩ := hr.sub
      cases h2
      rw [List.append_nil] at hp
      exact ⟨⟨h, Q1, h1, hp⟩, List.Perm.refl _, by simp⟩
    · rename_i hm
      have hml : 1 ≤ more.length := by cases more with | nil => exact absurd rfl hm | cons => simp
      obtain ⟨hr', hc⟩ := row_step hr hm
      obtain ⟨l1, l2⟩ := splitN_more ns root more
      obtain ⟨a, b, c⟩ := ih (by rw [l1]; omega) hr'
      exact ⟨a, b.trans hc, by rw [l1, l2] at c; omega⟩

/-! ### What Check tells of it -/

theorem two_pow_succ (h : Nat) : 2 ^ (h + 1) = 2 ^ h + 2 ^ h := by rw [Nat.pow_succ]; omega

theorem Sub_size {mL mK : Nat} {ns : List Nd} : ∀ (h : Nat) (d lo hi : Int) (P : List Int), Sub mL mK ns h d lo hi P → 2 ^ (h + 1) ≤ P.length + 1
  | 0, _, _, _, _, h => by rw [h.2.1]; simp
  | h + 1, d, lo, hi, P, hs => by
    obtain ⟨_, Q, rfl, hin⟩ := hs
    have ih := Sub_size (mL := mL) (mK := mK) (ns := ns) h
    obtain ⟨kids, keys, hk1, hk2⟩ : ∃ kids keys, kids = (nth ns d).kids ∧ keys = (nth ns d).keys := ⟨_, _, rfl, rfl⟩
    have h2 := hin.two
    have h3 := hin.keys
    have h4 := hin.kids
    rw [← hk1] at h2 h3 h4
    rw [← hk2] at h3 h4
    match kids, keys, h2, h3, h4 with
    | a :: b :: r, k :: ks, _, _, h4 =>
      rw [ups_cons] at h4
      obtain ⟨Q1, Q2, rfl, g1, g2⟩ := h4
      have i1 := ih _ _ _ _ g1
      have : ∃ u r', ups (b :: r) ks hi = (b, u) :: r' := by cases ks <;> exact ⟨_, _, rfl⟩
      obtain ⟨u, r', e⟩ := this
      rw [e] at g2
      obtain ⟨Q3, Q4, rfl, g3, _⟩ := g2
      have i2 := ih _ _ _ _ g3
      rw [two_pow_succ (h + 1)]
      simp only [List.length_cons, List.length_append]
      omega

/-- What W yields where all is as it must be. -/
def Yields (S : St) (dp : Int) (P : List Int) (r : Option (St × List Int)) : Prop := ∃ S' l, r = some (S', l) ∧ (S'.map (·.1)).Perm (P ++ S.map (·.1)) ∧ l ≠ [] ∧ ∀ x ∈ l, x = dp

theorem Wk_yields {g : Int → Int → Int → St → Option (St × List Int)} {G : Rel} {dp : Int} (hg : ∀ d lo hi P S, G d lo hi P → P.Nodup → (∀ n ∈ P, n ∉ S.map (·.1)) → Yields S dp P (g d lo hi S)) :
    ∀ (kids keys : List Int) (lo hi : Int) (Q : List Int) (S : St), keys.length + 1 = kids.length → SubK G lo (ups kids keys hi) Q → Q.Nodup → (∀ n ∈ Q, n ∉ S.map (·.1)) → Yields S dp Q (Wk g kids keys lo hi S)
  | [], _, _, _, _, _, h, _, _, _ => by simp at h
  | [d], keys, lo, hi, Q, S, hl, hs, hn, hd => by
    obtain rfl : keys = [] := List.eq_nil_of_length_eq_zero (by simpa using hl)
    obtain ⟨Q1, Q2, rfl, h1, h2⟩ := hs
    cases h2
    rw [List.append_nil] at hn hd ⊢
    obtain ⟨S', l, e, hp, hne, ha⟩ := hg d lo hi Q1 S h1 hn hd
    refine ⟨S', l, ?_, hp, hne, ha⟩
    simp [Wk, e]
  | d :: d' :: ds, keys, lo, hi, Q, S, hl, hs, hn, hd => by
    cases keys with
    | nil => simp at hl
    | cons k ks =>
      rw [ups_cons] at hs
      obtain ⟨Q1, Q2, rfl, h1, h2⟩ := hs
      rw [List.nodup_append] at hn
      obtain ⟨S1, l1, e1, hp1, hne1, ha1⟩ := hg d lo k Q1 S h1 hn.1 (fun n hn' => hd n (List.mem_append_left _ hn'))
      obtain ⟨S2, l2, e2, hp2, hne2, ha2⟩ := Wk_yields hg (d' :: ds) ks k hi Q2 S1 (by simpa using hl) h2 hn.2.1 (fun n hn' hm => by
        rcases List.mem_append.1 (hp1.mem_iff.1 hm) with hm | hm
        · exact hn.2.2 n hm n hn' rfl
        · exact hd n (List.mem_append_right _ hn') hm)
      refine ⟨S2, l1 ++ l2, ?_, ?_, by simp [hne1], fun x hx => ?_⟩
      · show (match g d lo k S with | none => none | some (S1, l1) => match Wk g (d' :: ds) ks k hi S1 with | none => none | some (S2, l2) => some (S2, l1 ++ l2)) = _
        rw [e1]
        simp only
        rw [e2]
      · refine hp2.trans ((hp1.append_left Q2).trans ?_)
        rw [List.append_assoc]
        exact List.perm_append_comm_assoc _ _ _
      · rcases List.mem_append.1 hx with hx | hx
        · exact ha1 x hx
        · exact ha2 x hx

theorem Sub_W {ns : List Nd} : ∀ (h f : Nat) (n lo hi : Int) (P : List Int) (S : St), Sub 6 4 ns h n lo hi P → h < f → P.Nodup → (∀ m ∈ P, m ∉ S.map (·.1)) → Yields S (13 - (f : Int) + h) P (W ns f n lo hi S) := by
  intro h
  induction h with
  | zero =>
    intro f n lo hi P S hs hf hn hd
    obtain ⟨⟨h0, h1, hlt⟩, rfl, hl⟩ := hs
    obtain ⟨f, rfl⟩ : ∃ g, f = g + 1 := ⟨f - 1, by omega⟩
    have hseen : seenB S n = false := by
      have := hd n (by simp)
      cases hb : seenB S n with
      | false => rfl
      | true => exact absurd (seenB_iff.1 hb) this
    have hlB : leafB (nth ns n) lo hi f = true := leafB_iff.2 ⟨hl.keys, hl.kids, hl.buf, hl.most, .inr hl.ne, hl.ents⟩
    refine ⟨(n, 12 - (f : Int)) :: S, [12 - (f : Int)], ?_, by simp, by simp, by simp; omega⟩
    rw [W_succ, if_neg (by simp [hseen]; omega)]
    show (if (nth ns n).leaf = true then _ else _) = _
    rw [if_pos hl.leaf]
    show (if leafB (nth ns n) lo hi f = true then _ else _) = _
    rw [if_pos hlB]
  | succ h ih =>
    intro f n lo hi P S hs hf hn hd
    obtain ⟨⟨h0, h1, hlt⟩, Q, rfl, hl⟩ := hs
    obtain ⟨f, rfl⟩ : ∃ g, f = g + 1 := ⟨f - 1, by omega⟩
    have hseen : seenB S n = false := by
      have := hd n (by simp)
      cases hb : seenB S n with
      | false => rfl
      | true => exact absurd (seenB_iff.1 hb) this
    have hiB : innerB (nth ns n) lo hi = true := by
      simp only [innerB, Bool.and_eq_true, decide_eq_true_eq, beq_iff_eq, List.isEmpty_iff]
      exact ⟨⟨⟨⟨⟨hl.ents, hl.two⟩, hl.most⟩, hl.keys⟩, hl.few⟩, hl.buf⟩
    rw [List.nodup_cons] at hn
    obtain ⟨S', l, e, hp, hne, ha⟩ := Wk_yields (dp := 13 - (f : Int) + h) (fun d lo hi P S a b c => ih f d lo hi P S a (by omega) b c) (nth ns n).kids (nth ns n).keys lo hi Q ((n, 12 - (f : Int)) :: S) hl.keys hl.kids hn.2 (fun m hm hm' => by
      rw [List.map_cons, List.mem_cons] at hm'
      rcases hm' with rfl | hm'
      · exact hn.1 hm
      · exact hd m (List.mem_cons_of_mem _ hm) hm')
    refine ⟨S', l, ?_, hp.trans ?_, hne, fun x hx => by rw [ha x hx]; push_cast; omega⟩
    · rw [W_succ, if_neg (by simp [hseen]; omega)]
      show (if (nth ns n).leaf = true then _ else if innerB (nth ns n) lo hi = true then _ else _) = _
      rw [if_neg (by simp [hl.leaf]), if_pos hiB]
      exact e
    · rw [List.map_cons]
      exact List.perm_middle

theorem placesF_len {Q : List Int} {N : Nat} (h : Q.Perm (placesF 0 N)) : Q.length = N := by rw [h.length_eq, placesF_length]

theorem Sub_treeC {ns : List Nd} {h : Nat} {root : Int} {Q : List Int} (hs : Sub 6 4 ns h root 0 1099511627776 Q) (hp : Q.Perm (placesF 0 ns.length)) (hz : ns.length ≤ 2000) : treeC ns root = 0 := by
  have hl := placesF_len hp
  have h1 := Sub_size h _ _ _ _ hs
  have hh : h < 12 := by
    apply Classical.byContradiction
    intro e
    have : 2 ^ 13 ≤ 2 ^ (h + 1) := Nat.pow_le_pow_right (by decide) (by omega)
    omega
  obtain ⟨S', l, e, hpm, hne, ha⟩ := Sub_W h 12 root 0 1099511627776 Q [] hs hh (hp.nodup_iff.2 (placesF_nodup _ _)) (by simp)
  unfold treeC
  rw [if_neg (by omega), e]
  simp only
  rw [if_pos]
  refine ⟨?_, ?_⟩
  · unfold okL
    rw [if_pos rfl, List.all_eq_true]
    intro x hx
    rw [beq_iff_eq, ha x hx]
    cases l with
    | nil => exact absurd rfl hne
    | cons y r => exact (ha y (by simp)).symm
  · have := hpm.length_eq
    simp at this
    omega

end Go.Proofs.YtlojfgdpmaigmadGreatDoor

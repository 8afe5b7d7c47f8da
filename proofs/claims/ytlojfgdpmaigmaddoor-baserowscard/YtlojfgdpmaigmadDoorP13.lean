/- What comes of a list of entries whose keys do not fall, gone through once; and what a tree's walk hands to it. -/
import Derived.Test.YtlojfgdpmaigmadDoorP09
import Derived.Test.YtlojfgdpmaigmadDoorWithWalk
import Derived.Test.YtlojfgdpmaigmadDoorEntsRef
import Derived.Shelf.Lays
import Derived.Shelf.SlLaysC2
import Derived.Shelf.SlLaysF0
import Derived.Test.YtlojfgdpmaigmadDoorProg
import Derived.Shelf.SlSortCmp.NoneTotal
import Derived.Shelf.SlicesG.Cmp
import Derived.Test.YtlojfgdpmaigmadDoorP10
import Derived.Deep.Slices
import Derived.SizedLaws
namespace Go.Proofs.YtlojfgdpmaigmadDoor
open Go.RowKit Plain

theorem ins_end {x : En} {l : List En} (h : ∀ z ∈ l, z.key < x.key) : ins l x = some (l ++ [x]) := by
  have := ins_app (x := x) [] h
  simpa [ins] using this

theorem ins_last {x y : En} {l : List En} (h : ∀ z ∈ l, z.key < x.key) (hy : y.key = x.key) : ins (l ++ [y]) x = if y.c + x.c ≤ 1073741824 then some (l ++ [mkE x.key (jn y.ru x.ru)]) else none := by
  rw [ins_app _ h, ins_eq hy]
  split <;> simp

/-- What is out so far, of the first i of xs. -/
structure Brg (xs : List En) (i : Nat) (out : List En) : Prop where
  is : allL (xs.take i) = some out
  inc : out.Pairwise fun a b => a.key < b.key
  up : ∀ z ∈ out, ∀ x ∈ xs.drop i, z.key ≤ x.key
  good : ∀ z ∈ out, Good z.ru
  len : out.length ≤ i

theorem brg_start (xs : List En) : Brg xs 0 [] := ⟨by simp [allL], by simp, by simp, by simp, by simp⟩

theorem drop_mem {xs : List En} {i : Nat} {x : En} (h : x ∈ xs.drop (i + 1)) : x ∈ xs.drop i := by
  have : xs.drop (i + 1) = (xs.drop i).drop 1 := by rw [List.drop_drop]
  rw [this] at h
  exact List.mem_of_mem_drop h

theorem take_step {xs : List En} {i : Nat} (hi : i < xs.length) : allL (xs.take (i + 1)) = insO (allL (xs.take i)) xs[i] := by
  rw [List.take_succ_eq_append_getElem hi, allL_snoc]

theorem sorted_drop {xs : List En} (hs : xs.Pairwise fun a b => a.key ≤ b.key) {i : Nat} (hi : i < xs.length) : ∀ x ∈ xs.drop (i + 1), xs[i].key ≤ x.key := by
  intro x hx
  obtain ⟨j, hj, rfl⟩ := List.getElem_of_mem hx
  rw [List.getElem_drop]
  exact List.pairwise_iff_getElem.1 hs i (i + 1 + j) hi _ (by omega)

/-- The next one has a key of its own. -/
theorem brg_new {xs : List En} {i : Nat} {out : List En} (hs : xs.Pairwise fun a b => a.key ≤ b.key) (h : Brg xs i out) (hi : i < xs.length) (hg : Good xs[i].ru) (hn : ∀ l y, out = l ++ [y] → y.key ≠ xs[i].key) : Brg xs (i + 1) (out ++ [xs[i]]) := by
  have mem : xs[i] ∈ xs.drop i := by rw [List.drop_eq_getElem_cons hi]; exact List.mem_cons_self
  have low : ∀ z ∈ out, z.key < xs[i].key := by
    intro z hz
    rcases List.eq_nil_or_concat out with rfl | ⟨l, y, rfl⟩
    · simp at hz
    · have hy := h.up y (by simp) _ mem
      have hne := hn l y (by simp)
      rcases List.mem_append.1 (by simpa using hz : z ∈ l ++ [y]) with hz | hz
      · have := (List.pairwise_append.1 (by simpa using h.inc : (l ++ [y]).Pairwise _)).2.2 z hz y (by simp)
        omega
      · have : z = y := by simpa using hz
        subst this
        omega
  refine ⟨?_, ?_, ?_, ?_, ?_⟩
  · rw [take_step hi, h.is]
    exact ins_end low
  · rw [List.pairwise_append]
    exact ⟨h.inc, by simp, fun a ha b hb => by have : b = xs[i] := by simpa using hb
                                               subst this; exact low a ha⟩
  · intro z hz x hx
    rcases List.mem_append.1 hz with hz | hz
    · exact h.up z hz x (drop_mem hx)
    · have : z = xs[i] := by simpa using hz
      subst this
      exact sorted_drop hs hi x hx
  · intro z hz
    rcases List.mem_append.1 hz with hz | hz
    · exact h.good z hz
    · have : z = xs[i] := by simpa using hz
      subst this
      exact hg
  · have := h.len
    simp
    omega

/-- The next one has the last one's key. -/
theorem brg_same {xs : List En} {i : Nat} {l : List En} {y : En} (hs : xs.Pairwise fun a b => a.key ≤ b.key) (h : Brg xs i (l ++ [y])) (hi : i < xs.length) (hg : Good xs[i].ru) (hy : y.key = xs[i].key) :
    mrg y.ru xs[i].ru = (if y.c + xs[i].c ≤ 1073741824 then (jn y.ru xs[i].ru, 0) else (zro, 1)) ∧
    (y.c + xs[i].c ≤ 1073741824 → Brg xs (i + 1) (l ++ [mkE xs[i].key (jn y.ru xs[i].ru)])) ∧ (¬ y.c + xs[i].c ≤ 1073741824 → allL xs = none) := by
  have low : ∀ z ∈ l, z.key < xs[i].key := fun z hz => by
    have := (List.pairwise_append.1 h.inc).2.2 z hz y (by simp)
    omega
  have st : allL (xs.take (i + 1)) = if y.c + xs[i].c ≤ 1073741824 then some (l ++ [mkE xs[i].key (jn y.ru xs[i].ru)]) else none := by
    rw [take_step hi, h.is]
    exact ins_last low hy
  have gy := h.good y (by simp)
  refine ⟨mrg_good gy hg, fun hc => ?_, fun hc => ?_⟩
  · rw [if_pos hc] at st
    refine ⟨st, ?_, ?_, ?_, ?_⟩
    · rw [List.pairwise_append]
      exact ⟨(List.pairwise_append.1 h.inc).1, by simp, fun a ha b hb => by have : b = mkE xs[i].key (jn y.ru xs[i].ru) := by simpa using hb
                                                                            subst this; exact low a ha⟩
    · intro z hz x hx
      rcases List.mem_append.1 hz with hz | hz
      · exact h.up z (by simp [hz]) x (drop_mem hx)
      · have : z = mkE xs[i].key (jn y.ru xs[i].ru) := by simpa using hz
        subst this
        exact sorted_drop hs hi x hx
    · intro z hz
      rcases List.mem_append.1 hz with hz | hz
      · exact h.good z (by simp [hz])
      · have : z = mkE xs[i].key (jn y.ru xs[i].ru) := by simpa using hz
        subst this
        exact good_jn gy hg hc
    · have := h.len
      simp only [List.length_append, List.length_cons, List.length_nil] at this ⊢
      omega
  · rw [if_neg hc] at st
    have e : xs = xs.take (i + 1) ++ xs.drop (i + 1) := (List.take_append_drop _ _).symm
    rw [e]
    unfold allL at st ⊢
    rw [List.foldl_append, st]
    exact fold_none _

theorem brg_end {xs out : List En} (h : Brg xs xs.length out) : allL xs = some out := by
  have := h.is
  rwa [List.take_length] at this

theorem own_some {w : World} {base : Nat} {e : TypeId} {size n k : Nat} {v : Value} {vs : List Value} (h : w.ownsRow base e size v n vs) (hk : v.ownBlock = some k) : base ≤ k ∧ k < w.heap.size := by
  rcases h.2 with ⟨rfl, _⟩ | ⟨g, cap, cur, rfl, hb, hg, _⟩
  · cases hk
  · have : g = k := by simpa [Value.ownBlock] using hk
    subst this
    exact ⟨hb, (Array.getElem?_eq_some_iff.1 hg).1⟩

theorem news2 (w : World) (o : Obj) (x : En) : ∀ j u, x.vals[j]? = some u → ((w.alloc o).alloc (.cells x.vals.toArray 61)).cell? ((⟨w.heap.size + 1, 0, none⟩ : Addr).add j) = some u := by
  have := news1 (w.alloc o) x
  simpa using this

end Go.Proofs.YtlojfgdpmaigmadDoor

/- What comes together of some keys is what of all that comes together has them. -/
namespace Go.Proofs.YtlojfgdpmaigmadDoor
open Go.RowKit Plain

theorem ins_inc {x : En} : ∀ {l r : List En}, (l.Pairwise fun a b => a.key < b.key) → ins l x = some r → (r.Pairwise fun a b => a.key < b.key) ∧ ∀ z ∈ r, z.key = x.key ∨ ∃ y ∈ l, y.key = z.key
  | [], r, _, h => by
    cases h
    exact ⟨by simp, by simp⟩
  | y :: l, r, hp, h => by
    obtain ⟨h1, h2⟩ := List.pairwise_cons.1 hp
    rcases Int.lt_trichotomy x.key y.key with hk | hk | hk
    · rw [ins_lt hk] at h
      cases h
      refine ⟨List.pairwise_cons.2 ⟨fun z hz => ?_, hp⟩, fun z hz => ?_⟩
      · rcases List.mem_cons.1 hz with rfl | hz
        · exact hk
        · have := h1 z hz
          omega
      · rcases List.mem_cons.1 hz with rfl | hz
        · exact .inl rfl
        · exact .inr ⟨z, hz, rfl⟩
    · rw [ins_eq hk.symm] at h
      split at h
      · cases h
        refine ⟨List.pairwise_cons.2 ⟨fun z hz => ?_, h2⟩, fun z hz => ?_⟩
        · rw [mkE_key, hk]
          exact h1 z hz
        · rcases List.mem_cons.1 hz with rfl | hz
          · exact .inl rfl
          · exact .inr ⟨z, List.mem_cons_of_mem _ hz, rfl⟩
      · cases h
    · rw [ins_gt hk] at h
      cases hi : ins l x with
      | none => rw [hi] at h; cases h
      | some r' =>
        rw [hi] at h
        cases h
        obtain ⟨q1, q2⟩ := ins_inc h2 hi
        refine ⟨List.pairwise_cons.2 ⟨fun z hz => ?_, q1⟩, fun z hz => ?_⟩
        · rcases q2 z hz with e | ⟨u, hu, e⟩
          · omega
          · have := h1 u hu
            omega
        · rcases List.mem_cons.1 hz with rfl | hz
          · exact .inr ⟨z, List.mem_cons_self, rfl⟩
          · rcases q2 z hz with e | ⟨u, hu, e⟩
            · exact .inl e
            · exact .inr ⟨u, List.mem_cons_of_mem _ hu, e⟩

theorem ins_below {x : En} : ∀ {l : List En}, (∀ z ∈ l, x.key < z.key) → ins l x = some (x :: l)
  | [], _ => rfl
  | y :: _, h => ins_lt (h y List.mem_cons_self)

theorem ins_filter {P : Int → Bool} {x : En} : ∀ {o o' : List En}, (o.Pairwise fun a b => a.key < b.key) → ins o x = some o' →
    (P x.key = true → ins (o.filter fun z => P z.key) x = some (o'.filter fun z => P z.key)) ∧ (P x.key = false → (o'.filter fun z => P z.key) = o.filter fun z => P z.key)
  | [], o', _, h => by
    cases h
    exact ⟨fun hp => by simp [ins, hp], fun hp => by simp [hp]⟩
  | y :: r, o', hs, h => by
    obtain ⟨h1, h2⟩ := List.pairwise_cons.1 hs
    rcases Int.lt_trichotomy x.key y.key with hk | hk | hk
    · rw [ins_lt hk] at h
      cases h
      refine ⟨fun hp => ?_, fun hp => by rw [List.filter_cons_of_neg (by simp [hp])]⟩
      rw [List.filter_cons_of_pos (a := x) (by simpa using hp)]
      refine ins_below fun z hz => ?_
      rcases List.mem_cons.1 (List.mem_filter.1 hz).1 with rfl | hz
      · exact hk
      · have := h1 z hz
        omega
    · rw [ins_eq hk.symm] at h
      split at h
      · rename_i hc
        cases h
        refine ⟨fun hp => ?_, fun hp => ?_⟩
        · rw [List.filter_cons_of_pos (by rw [← hk]; exact hp), List.filter_cons_of_pos (by exact hp), ins_eq hk.symm, if_pos hc]
        · rw [List.filter_cons_of_neg (by rw [mkE_key, hp]; simp), List.filter_cons_of_neg (by rw [← hk, hp]; simp)]
      · cases h
    · rw [ins_gt hk] at h
      cases hi : ins r x with
      | none => rw [hi] at h; cases h
      | some r' =>
        rw [hi] at h
        cases h
        obtain ⟨q1, q2⟩ := ins_filter (P := P) h2 hi
        refine ⟨fun hp => ?_, fun hp => ?_⟩
        · by_cases hy : P y.key = true
          · rw [List.filter_cons_of_pos (by exact hy), List.filter_cons_of_pos (by exact hy), ins_gt hk, q1 hp]
            rfl
          · rw [List.filter_cons_of_neg (by exact hy), List.filter_cons_of_neg (by exact hy), q1 hp]
        · by_cases hy : P y.key = true
          · rw [List.filter_cons_of_pos (by exact hy), List.filter_cons_of_pos (by exact hy), q2 hp]
          · rw [List.filter_cons_of_neg (by exact hy), List.filter_cons_of_neg (by exact hy), q2 hp]

theorem allL_filter {P : Int → Bool} : ∀ (xs o r : List En), (o.Pairwise fun a b => a.key < b.key) → xs.foldl insO (some o) = some r → (xs.filter fun z => P z.key).foldl insO (some (o.filter fun z => P z.key)) = some (r.filter fun z => P z.key)
  | [], o, r, _, h => by
    cases h
    simp
  | x :: xs, o, r, hs, h => by
    rw [List.foldl_cons] at h
    cases hi : insO (some o) x with
    | none => rw [hi, fold_none] at h; cases h
    | some o' =>
      rw [hi] at h
      have hi' : ins o x = some o' := hi
      have ih := allL_filter (P := P) xs o' r (ins_inc hs hi').1 h
      obtain ⟨q1, q2⟩ := ins_filter (P := P) hs hi'
      by_cases hp : P x.key = true
      · rw [List.filter_cons_of_pos (by exact hp), List.foldl_cons, show insO (some (o.filter fun z => P z.key)) x = ins (o.filter fun z => P z.key) x from rfl, q1 hp]
        exact ih
      · rw [List.filter_cons_of_neg (by exact hp), ← q2 (by simpa using hp)]
        exact ih

end Go.Proofs.YtlojfgdpmaigmadDoor

/- What a call leaves as it was, some blocks apart; which nodes have been seen. -/
namespace Go.Proofs.YtlojfgdpmaigmadDoor
open Go.RowKit Plain

/-- w' is w with new blocks, and with writes to the blocks of ex alone. -/
structure Kept (ex : List Nat) (w w' : World) : Prop where
  os : w'.os = w.os
  tape : w'.tape = w.tape
  output : w'.output = w.output
  size : w.heap.size ≤ w'.heap.size
  block : ∀ k, k < w.heap.size → k ∉ ex → w'.heap[k]? = w.heap[k]?

section
variable {ex : List Nat} {w w' w'' : World}

theorem Kept.refl (ex : List Nat) (w : World) : Kept ex w w := ⟨rfl, rfl, rfl, Nat.le_refl _, fun _ _ _ => rfl⟩
theorem Kept.trans (h : Kept ex w w') (k : Kept ex w' w'') : Kept ex w w'' :=
  ⟨k.os.trans h.os, k.tape.trans h.tape, k.output.trans h.output, Nat.le_trans h.size k.size, fun i hi hx => (k.block i (Nat.lt_of_lt_of_le hi h.size) hx).trans (h.block i hi hx)⟩
theorem Kept.alloc (h : Kept ex w w') (o : Obj) : Kept ex w (w'.alloc o) :=
  h.trans ⟨rfl, rfl, rfl, by simp, fun k hk _ => Below.heap_alloc _ _ _ hk⟩
theorem Kept.set (h : Kept ex w w') {b j : Nat} (hb : b ∈ ex ∨ w.heap.size ≤ b) (v : Value) : Kept ex w (w'.setCell ⟨b, j, none⟩ v) :=
  ⟨h.os, h.tape, h.output, by simpa using h.size, fun k hk hx => (Below.heap_setCell _ _ _ _ (by rintro rfl; rcases hb with hb | hb; exact hx hb; omega)).trans (h.block k hk hx)⟩
theorem Kept.drew (h : Kept ex w w') : Kept ex w w'.drew := ⟨h.os, h.tape, h.output, h.size, h.block⟩
theorem Kept.drewN (h : Kept ex w w') (n : Nat) : Kept ex w (w'.drewN n) := ⟨h.os, h.tape, h.output, h.size, h.block⟩
theorem Kept.of_below (h : Below w.heap.size w w') : Kept ex w w' := ⟨h.os, h.tape, h.output, h.size, fun k hk _ => h.block k hk⟩
theorem Kept.below (h : Kept ex w w') {B : Nat} (hB : B ≤ w.heap.size) (hx : ∀ x ∈ ex, B ≤ x) : Below B w w' :=
  ⟨h.os, h.tape, h.output, h.size, fun k hk => h.block k (by omega) (fun hm => by have := hx k hm; omega)⟩
theorem Kept.cell (h : Kept ex w w') {b : Nat} (o : Nat) (hb : b < w.heap.size) (hx : b ∉ ex) : w'.cell? ⟨b, o, none⟩ = w.cell? ⟨b, o, none⟩ :=
  World.cell?_of_block (w := w) (a := ⟨b, o, none⟩) (h.block b hb hx)
theorem Kept.row (h : Kept ex w w') {b : Nat} {t : TypeId} {vs : List Value} (hr : RowL w b t vs) (hx : b ∉ ex) : RowL w' b t vs := hr.of_block (h.block b hr.lt hx)
end

theorem two_rows {v w2 : World} {l1 l2 : List Value} {t1 t2 : TypeId} (hb : Below ((v.alloc (.cells l1.toArray t1)).alloc (.cells l2.toArray t2)).heap.size ((v.alloc (.cells l1.toArray t1)).alloc (.cells l2.toArray t2)) w2) {n : Nat} (hn : n = v.heap.size) :
    RowL w2 n t1 l1 ∧ RowL w2 (n + 1) t2 l2 ∧ n + 1 < w2.heap.size := by
  subst hn
  have s1 : (v.alloc (.cells l1.toArray t1)).heap.size = v.heap.size + 1 := by simp
  have s2 : ((v.alloc (.cells l1.toArray t1)).alloc (.cells l2.toArray t2)).heap.size = v.heap.size + 2 := by simp
  have r1 : RowL ((v.alloc (.cells l1.toArray t1)).alloc (.cells l2.toArray t2)) v.heap.size t1 l1 := (rowL_alloc v l1 t1).of_block (Below.heap_alloc _ _ _ (by omega))
  have r2 : RowL ((v.alloc (.cells l1.toArray t1)).alloc (.cells l2.toArray t2)) (v.heap.size + 1) t2 l2 := by
    have := rowL_alloc (v.alloc (.cells l1.toArray t1)) l2 t2
    rwa [s1] at this
  have hs := hb.size
  exact ⟨r1.below hb (by omega), r2.below hb (by omega), by omega⟩

def SeenIs (w : World) (sb N : Nat) (S : St) : Prop := w.rowIs sb 3 N (fun i => .int .i64 (if seenB S (i : Int) = true then 1 else 0))

theorem SeenIs.set {w : World} {sb N m : Nat} {S : St} (h : SeenIs w sb N S) (d : Int) : SeenIs (w.setCell ⟨sb, m, none⟩ (.int .i64 1)) sb N (((m : Int), d) :: S) := by
  refine (World.rowIs.set h m (.int .i64 1)).congr fun i _ => ?_
  by_cases e : i = m
  · subst e; simp [seenB]
  · have hn : seenB (((m : Int), d) :: S) (i : Int) = seenB S (i : Int) := by
      unfold seenB
      rw [List.any_cons, show ((((m : Int), d) : Int × Int).1 == (i : Int)) = false by simp; omega, Bool.false_or]
    simp only [e, if_false, hn]

theorem SeenIs.kept {w w' : World} {sb N : Nat} {S : St} (h : SeenIs w sb N S) (hk : w'.heap[sb]? = w.heap[sb]?) : SeenIs w' sb N S := World.rowIs.of_block h hk

theorem W_succ (ns : List Nd) (f : Nat) (n low high : Int) (S : St) : W ns (f + 1) n low high S =
    if n < 0 ∨ (ns.length : Int) ≤ n ∨ high ≤ low ∨ seenB S n = true then none
    else if (ns.getD n.toNat default).leaf = true then
      (if leafB (ns.getD n.toNat default) low high f = true then some ((n, 12 - (f : Int)) :: S, [12 - (f : Int)]) else none)
    else if innerB (ns.getD n.toNat default) low high = true then Wk (W ns f) (ns.getD n.toNat default).kids (ns.getD n.toNat default).keys low high ((n, 12 - (f : Int)) :: S)
    else none := rfl

theorem W_out {ns : List Nd} {f : Nat} {n low high : Int} {S : St} (h : n < 0 ∨ (ns.length : Int) ≤ n ∨ high ≤ low ∨ seenB S n = true) : W ns f n low high S = none := by
  cases f with
  | zero => rfl
  | succ f => rw [W_succ, if_pos h]

theorem W_leaf {ns : List Nd} {f m : Nat} {low high : Int} {S : St} {x : Nd} (hm : m < ns.length) (hx : ns[m] = x) (hlh : low < high) (hs : seenB S m = false) (hl : x.leaf = true) :
    W ns (f + 1) m low high S = if leafB x low high f = true then some (((m : Int), 12 - (f : Int)) :: S, [12 - (f : Int)]) else none := by
  have hg : ns.getD m default = x := by simp [hm, hx]
  rw [W_succ, if_neg (by simp [hs]; omega)]
  simp only [Int.toNat_natCast, hg, hl, if_true]

theorem W_inner {ns : List Nd} {f m : Nat} {low high : Int} {S : St} {x : Nd} (hm : m < ns.length) (hx : ns[m] = x) (hlh : low < high) (hs : seenB S m = false) (hl : x.leaf = false) :
    W ns (f + 1) m low high S = if innerB x low high = true then Wk (W ns f) x.kids x.keys low high (((m : Int), 12 - (f : Int)) :: S) else none := by
  have hg : ns.getD m default = x := by simp [hm, hx]
  rw [W_succ, if_neg (by simp [hs]; omega)]
  simp only [Int.toNat_natCast, hg, hl, Bool.false_eq_true, if_false]

end Go.Proofs.YtlojfgdpmaigmadDoor

/- Contracts of functions of Go's library, laid at this dump. -/
namespace Go.Proofs
open Go.Shelf
def Tryd.sortEn_ren : Go.Shelf.Ren := ⟨fun | 6 => 65 | 15 => 75 | 14 => 74 | 28 => 86 | 29 => 87 | 20 => 78 | 21 => 79 | 22 => 80 | 23 => 81 | 24 => 82 | 25 => 83 | 26 => 84 | 27 => 85 | 46 => 88 | 47 => 89 | 48 => 90 | 49 => 91 | 50 => 92 | 57 => 93 | n => n, fun | 22 => 46 | 24 => 61 | 25 => 96 | 3 => 3 | 39 => 100 | 0 => 0 | 53 => 110 | 55 => 112 | 4 => 4 | 46 => 104 | 45 => 103 | 50 => 56 | 5 => 5 | 9 => 9 | 66 => 113 | 70 => 117 | 76 => 119 | 77 => 120 | n => n, fun | n => n⟩
theorem Tryd.sortEn : Go.Proofs.SlLaysF0.n6 Tryd.prog Tryd.sortEn_ren := {
  mixed := by kernel_rfl
  f6 := ⟨Tryd.f65.name, by decide, Tryd.func65.trans (congrArg some (by kernel_rfl))⟩
  f14 := ⟨Tryd.f74.name, by decide, Tryd.func74.trans (congrArg some (by kernel_rfl))⟩
  f15 := Tryd.func75.trans (congrArg some (by kernel_rfl))
  f20 := ⟨Tryd.f78.name, by decide, Tryd.func78.trans (congrArg some (by kernel_rfl))⟩
  f21 := ⟨Tryd.f79.name, by decide, Tryd.func79.trans (congrArg some (by kernel_rfl))⟩
  f22 := ⟨Tryd.f80.name, by decide, Tryd.func80.trans (congrArg some (by kernel_rfl))⟩
  f23 := ⟨Tryd.f81.name, by decide, Tryd.func81.trans (congrArg some (by kernel_rfl))⟩
  f24 := ⟨Tryd.f82.name, by decide, Tryd.func82.trans (congrArg some (by kernel_rfl))⟩
  f25 := ⟨Tryd.f83.name, by decide, Tryd.func83.trans (congrArg some (by kernel_rfl))⟩
  f26 := ⟨Tryd.f84.name, by decide, Tryd.func84.trans (congrArg some (by kernel_rfl))⟩
  f27 := ⟨Tryd.f85.name, by decide, Tryd.func85.trans (congrArg some (by kernel_rfl))⟩
  f28 := Tryd.func86.trans (congrArg some (by kernel_rfl))
  f29 := Tryd.func87.trans (congrArg some (by kernel_rfl))
  f46 := ⟨Tryd.f88.name, by decide, Tryd.func88.trans (congrArg some (by kernel_rfl))⟩
  f47 := Tryd.func89.trans (congrArg some (by kernel_rfl))
  f48 := Tryd.func90.trans (congrArg some (by kernel_rfl))
  f49 := ⟨Tryd.f91.name, by decide, Tryd.func91.trans (congrArg some (by kernel_rfl))⟩
  f50 := ⟨Tryd.f92.name, by decide, Tryd.func92.trans (congrArg some (by kernel_rfl))⟩
  f57 := ⟨Tryd.f93.name, by decide, Tryd.func93.trans (congrArg some (by kernel_rfl))⟩
  t0 := Tryd.underlying0
  a0 := Tryd.isAgg0
  z0 := Tryd.sizeOf0
  v0 := Tryd.zeroValue0
  t3 := Tryd.underlying3
  a3 := Tryd.isAgg3
  z3 := Tryd.sizeOf3
  v3 := Tryd.zeroValue3
  t4 := Tryd.underlying4
  a4 := Tryd.isAgg4
  z4 := Tryd.sizeOf4
  v4 := Tryd.zeroValue4
  t5 := Tryd.underlying5
  a5 := Tryd.isAgg5
  z5 := Tryd.sizeOf5
  v5 := Tryd.zeroValue5
  t9 := Tryd.underlying9
  a9 := Tryd.isAgg9
  z9 := Tryd.sizeOf9
  v9 := Tryd.zeroValue9
  t22 := Tryd.underlying46
  a22 := Tryd.isAgg46
  z22 := Tryd.sizeOf46
  v22 := Tryd.zeroValue46
  t25 := Tryd.underlying96
  a25 := Tryd.isAgg96
  z25 := Tryd.sizeOf96
  v25 := Tryd.zeroValue96
  t39 := Tryd.underlying100
  a39 := Tryd.isAgg100
  z39 := Tryd.sizeOf100
  v39 := Tryd.zeroValue100
  t45 := Tryd.underlying103
  a45 := Tryd.isAgg103
  z45 := Tryd.sizeOf103
  v45 := Tryd.zeroValue103
  t46 := Tryd.underlying104
  a46 := Tryd.isAgg104
  z46 := Tryd.sizeOf104
  v46 := Tryd.zeroValue104
  t50 := Tryd.underlying56
  a50 := Tryd.isAgg56
  z50 := Tryd.sizeOf56
  v50 := Tryd.zeroValue56
  t53 := Tryd.underlying110
  a53 := Tryd.isAgg110
  z53 := Tryd.sizeOf110
  v53 := Tryd.zeroValue110
  t55 := Tryd.underlying112
  a55 := Tryd.isAgg112
  z55 := Tryd.sizeOf112
  v55 := Tryd.zeroValue112
  t66 := Tryd.underlying113
  a66 := Tryd.isAgg113
  z66 := Tryd.sizeOf113
  v66 := Tryd.zeroValue113
  t70 := Tryd.underlying117
  a70 := Tryd.isAgg117
  z70 := Tryd.sizeOf117
  v70 := Tryd.zeroValue117
  t76 := Tryd.underlying119
  a76 := Tryd.isAgg119
  z76 := Tryd.sizeOf119
  v76 := Tryd.zeroValue119
  t77 := Tryd.underlying120
  a77 := Tryd.isAgg120
  z77 := Tryd.sizeOf120
  v77 := Tryd.zeroValue120 }
def Tryd.cmpInt_ren : Go.Shelf.Ren := ⟨fun | 5 => 67 | 7 => 76 | n => n, fun | 22 => 3 | 3 => 3 | 4 => 4 | n => n, fun | n => n⟩
theorem Tryd.cmpInt : Go.Proofs.SlLaysC2.n5 Tryd.prog Tryd.cmpInt_ren := {
  mixed := by kernel_rfl
  f5 := ⟨Tryd.f67.name, by decide, Tryd.func67.trans (congrArg some (by kernel_rfl))⟩
  f7 := ⟨Tryd.f76.name, by decide, Tryd.func76.trans (congrArg some (by kernel_rfl))⟩
  t3 := Tryd.underlying3
  a3 := Tryd.isAgg3
  z3 := Tryd.sizeOf3
  v3 := Tryd.zeroValue3
  t4 := Tryd.underlying4
  a4 := Tryd.isAgg4
  z4 := Tryd.sizeOf4
  v4 := Tryd.zeroValue4
  t22 := Tryd.underlying3
  a22 := Tryd.isAgg3
  z22 := Tryd.sizeOf3
  v22 := Tryd.zeroValue3 }
def Tryd.containsS_ren : Go.Shelf.Ren := ⟨fun | 110 => 36 | 109 => 44 | n => n, fun | 31 => 22 | 9 => 9 | 4 => 4 | 3 => 3 | 0 => 0 | n => n, fun | n => n⟩
theorem Tryd.containsS : Go.Proofs.Lays.n110 Tryd.prog Tryd.containsS_ren := {
  mixed := by kernel_rfl
  f109 := Tryd.func44.trans (congrArg some (by kernel_rfl))
  f110 := Tryd.func36.trans (congrArg some (by kernel_rfl))
  t0 := Tryd.underlying0
  a0 := Tryd.isAgg0
  z0 := Tryd.sizeOf0
  v0 := Tryd.zeroValue0
  t3 := Tryd.underlying3
  a3 := Tryd.isAgg3
  z3 := Tryd.sizeOf3
  v3 := Tryd.zeroValue3
  t4 := Tryd.underlying4
  a4 := Tryd.isAgg4
  z4 := Tryd.sizeOf4
  v4 := Tryd.zeroValue4
  t9 := Tryd.underlying9
  a9 := Tryd.isAgg9
  z9 := Tryd.sizeOf9
  v9 := Tryd.zeroValue9
  t31 := Tryd.underlying22
  a31 := Tryd.isAgg22
  z31 := Tryd.sizeOf22
  v31 := Tryd.zeroValue22 }
def Tryd.indexS_ren : Go.Shelf.Ren := ⟨fun | 109 => 44 | n => n, fun | 31 => 22 | 9 => 9 | 3 => 3 | 0 => 0 | 4 => 4 | n => n, fun | n => n⟩
theorem Tryd.indexS : Go.Proofs.Lays.n109 Tryd.prog Tryd.indexS_ren := {
  mixed := by kernel_rfl
  f109 := Tryd.func44.trans (congrArg some (by kernel_rfl))
  t0 := Tryd.underlying0
  a0 := Tryd.isAgg0
  z0 := Tryd.sizeOf0
  v0 := Tryd.zeroValue0
  t3 := Tryd.underlying3
  a3 := Tryd.isAgg3
  z3 := Tryd.sizeOf3
  v3 := Tryd.zeroValue3
  t4 := Tryd.underlying4
  a4 := Tryd.isAgg4
  z4 := Tryd.sizeOf4
  v4 := Tryd.zeroValue4
  t9 := Tryd.underlying9
  a9 := Tryd.isAgg9
  z9 := Tryd.sizeOf9
  v9 := Tryd.zeroValue9
  t31 := Tryd.underlying22
  a31 := Tryd.isAgg22
  z31 := Tryd.sizeOf22
  v31 := Tryd.zeroValue22 }
end Go.Proofs

/- slices.SortFunc over entries, by their keys. -/
namespace Go.Proofs.YtlojfgdpmaigmadDoor
open Go.RowKit Plain Go.Shelf

set_option maxHeartbeats 1000000 in
theorem keyCmp (x y : En) (W : World) : Calls Tryd.prog 66 #[.agg #[.int .i64 x.key, .int .i64 x.c, .int .i64 x.s, .int .i64 x.lo, .int .i64 x.hi, .int .i64 x.t, .int .i64 x.l], .agg #[.int .i64 y.key, .int .i64 y.c, .int .i64 y.s, .int .i64 y.lo, .int .i64 y.hi, .int .i64 y.t, .int .i64 y.l]] W
    fun e w' => e = .returned (.int .i64 (Lib.compareInt x.key y.key)) ∧ ∃ q os', w' = Sort.grow (W.drewN q) os' := by
  have hcon := fun W' => AnyG.cmp_Compare_int Tryd.cmpInt x.key y.key W'
  change ∀ W', Calls Tryd.prog 67 _ _ _ at hcon
  generalize Lib.compareInt x.key y.key = r at hcon ⊢
  go_enter Tryd.func66, Tryd.ntmps66
  go_wp2_with (go_at_call 67; refine (hcon _).mono ?_; rintro e w' ⟨rfl, rfl⟩)
  go_ret
  exact ⟨rfl, 0, _, by rw [Sort.alloc_eq_grow, Sort.alloc_eq_grow, Sort.grow_grow]; rfl⟩

theorem ltKey (x y : En) : ltOf (fun x y : En => Lib.compareInt x.key y.key) x y = decide (x.key < y.key) := by
  unfold ltOf Lib.compareInt
  by_cases h1 : x.key < y.key
  · simp [h1]
  · by_cases h2 : y.key < x.key <;> simp [h1, h2]

theorem swoKey : Sort.SWO (ltOf fun x y : En => Lib.compareInt x.key y.key) where
  irrefl x := by rw [ltKey]; simp
  trans x y z h1 h2 := by rw [ltKey] at *; simp at *; omega
  ntrans x y z h1 h2 := by rw [ltKey] at *; simp at *; omega

theorem flatE_bang (xs : List En) (t : Nat) (h : t < xs.length * 7) : (flatE xs)[t]? = some ((xs.toArray[t / 7]!).vals)[t % 7]! := by
  have h1 : t / 7 < xs.length := by omega
  have e : t = t / 7 * 7 + t % 7 := by omega
  have g := flatE_get xs (t / 7) (t % 7) h1 (Nat.mod_lt _ (by decide))
  rw [← e] at g
  rw [g]
  have e2 : xs.toArray[t / 7]! = xs[t / 7] := by simp [h1]
  rw [e2]
  have l : t % 7 < (xs[t / 7]).vals.length := by simp only [En.vals, List.length_cons, List.length_nil]; omega
  rw [List.getElem?_eq_getElem l, getElem!_pos (xs[t / 7]).vals (t % 7) l]

theorem holds_own {w : World} {H g n cap : Nat} {xs : List En} {t : TypeId} (h : w.ownsRow H t 7 (.slice (some ⟨g, 0, none⟩) n cap) n (flatE xs)) (hn : n = xs.length) : Sort.HoldsK En.vals 7 w g 0 xs.toArray := by
  subst hn
  intro j hj
  have hj' : j < xs.length * 7 := by simpa using hj
  rw [Nat.zero_add, Sort.get_flatK _ _ _ _ (by simpa using hj')]
  exact ⟨(h.cellAt j hj').trans (flatE_bang xs j hj'), h.frozenAt j⟩

theorem below_sorted {B : Nat} {w : World} {g n : Nat} (hg : B ≤ g) (hB : B ≤ w.heap.size) (d : Array En) (os : Array Obj) : Below B w (sortWorldK En.vals 7 w g 0 n d os) := by
  unfold sortWorldK Sort.putRowK
  refine ⟨rfl, rfl, rfl, ?_, fun k hk => ?_⟩
  · rw [Sort.size_grow]
    simp [Sort.putRow, Sort.mapBlock, Sort.ahead]
  · rw [Sort.heap_grow_old _ _ (by simp [Sort.putRow, Sort.mapBlock, Sort.ahead]; omega)]
    have : g ≠ k := by omega
    simp [Sort.putRow, Sort.mapBlock, Sort.ahead, Array.getElem?_modify, this]

set_option maxHeartbeats 1000000 in
theorem sortE_some (xs : List En) (g cap H : Nat) (w : World) (t : TypeId) (h : w.ownsRow H t 7 (.slice (some ⟨g, 0, none⟩) xs.length cap) xs.length (flatE xs)) (hH : H ≤ w.heap.size) (hg : H ≤ g) (hgl : g < w.heap.size) (hz : xs.length < 4611686018427387904) :
    Calls Tryd.prog 65 #[.slice (some ⟨g, 0, none⟩) xs.length cap, .func (.func 66) #[] #[]] w
      fun e w' => e = .returned (.tuple #[]) ∧ Below H w w' ∧ ∃ ys : List En, ys.Perm xs ∧ (ys.Pairwise fun a b => a.key ≤ b.key) ∧ RowAt w'.heap.size w' (some ⟨g, 0, none⟩) (flatE ys) := by
  have eg : ∀ args w, (callFunc 66 args).run Tryd.prog w = .ok (.enter 66 args) w := enters_of Tryd.func66 (by kernel_rfl) rfl
  have hh := holds_own h rfl
  have hcon := AnyQ.slices_SortFunc Tryd.sortEn 7 Tryd.isAgg61 Tryd.sizeOf61 En.vals (fun _ => rfl) (fun x v hv => vals_one x v hv) (fun x y => Lib.compareInt x.key y.key) swoKey 66 #[] g 0 cap xs.toArray w eg (fun _ _ _ _ x y => keyCmp x y _) hh hgl (by simpa using hz)
  change Calls Tryd.prog 65 _ _ _ at hcon
  simp only [List.size_toArray] at hcon
  refine hcon.mono ?_
  rintro e w' ⟨rfl, d', n, os, hp, hs, rfl⟩
  have hsz : d'.size = xs.length := by simpa using hp.1
  have hd := holdsK_sortWorldK En.vals 7 w g 0 n xs.toArray d' os hgl hh (by simpa using hsz)
  have hlt := lt_sortWorldK En.vals 7 w g 0 n d' os hgl
  refine ⟨rfl, below_sorted hg hH d' os, d'.toList, ?_, ?_, .inr ⟨g, 0, rfl, hlt, fun j u hu => ?_⟩⟩
  · have := hp.2.2
    simp only [← hsz, Array.extract_size, List.extract_toArray, List.extract_eq_take_drop, List.drop_zero, Nat.sub_zero] at this
    rw [hsz, List.take_length] at this
    exact this
  · rw [List.pairwise_iff_getElem]
    intro i j hi hj hij
    simp only [Array.length_toList] at hi hj
    have := hs i j (Nat.zero_le _) hij (by omega)
    rw [ltKey, getElem!_pos d' i hi, getElem!_pos d' j hj] at this
    simp only [decide_eq_false_iff_not, Array.getElem_toList] at this ⊢
    omega
  · have hj : j < d'.size * 7 := by
      have := (List.getElem?_eq_some_iff.1 hu).1
      rw [flatE_length] at this
      simpa using this
    have c := (hd j (by simpa using hj)).1
    rw [Sort.get_flatK _ _ _ _ hj] at c
    have f := flatE_bang d'.toList j (by simpa using hj)
    rw [f] at hu
    cases hu
    simpa using c

theorem sortE_none (p : Option Addr) (cap : Nat) (w : World) :
    Calls Tryd.prog 65 #[.slice p 0 cap, .func (.func 66) #[] #[]] w fun e w' => e = .returned (.tuple #[]) ∧ w' = w :=
  AnyF.slices_SortFunc_none Tryd.sortEn p cap _ w

/-- Whatever the list is. -/
theorem sortE_any (xs : List En) (v : Value) (H : Nat) (w : World) (h : w.ownsRow H 61 7 v xs.length (flatE xs)) (hH : H ≤ w.heap.size) (hz : xs.length < 4611686018427387904) :
    ∃ A C, v = .slice A xs.length C ∧ Calls Tryd.prog 65 #[.slice A xs.length C, .func (.func 66) #[] #[]] w
      fun e w' => e = .returned (.tuple #[]) ∧ Below H w w' ∧ ∃ ys : List En, ys.Perm xs ∧ (ys.Pairwise fun a b => a.key ≤ b.key) ∧ RowAt w'.heap.size w' A (flatE ys) := by
  rcases h.2 with ⟨rfl, h0⟩ | ⟨g, cap, cur, rfl, hb, hg, _⟩
  · have e : xs = [] := List.length_eq_zero_iff.1 h0
    subst e
    refine ⟨none, 0, rfl, (sortE_none none 0 w).mono ?_⟩
    rintro e w' ⟨rfl, rfl⟩
    exact ⟨rfl, Below.refl _ _, [], List.Perm.refl _, by simp, .inl rfl⟩
  · have hgl : g < w.heap.size := (Array.getElem?_eq_some_iff.1 hg).1
    exact ⟨_, cap, rfl, sortE_some xs g cap H w _ h hH hb hgl hz⟩

end Go.Proofs.YtlojfgdpmaigmadDoor

/- How a tree that came in is opened. -/
namespace Go.Proofs.YtlojfgdpmaigmadDoor
open Go.ChangeShapes Go.WideShapes Go.ChangeAt Go.RowKit Go.Deep

theorem spot_none {w : World} {a : Addr} {v : Value} (h : w.cell? a = some v) : a.spot = none := by
  unfold World.cell? at h
  split at h
  · cases hs : a.spot with
    | none => rfl
    | some x => simp [hs] at h
  · simp at h

/-- Rows of elements of several cells, from their elements. -/
theorem row_of {w : World} {a : Addr} {size len : Nat} (hs : 0 < size) (F : Nat → List Value) (all : List Value) (hlen : all.length = len * size) (hget : ∀ k j, k < len → j < size → all[k * size + j]? = (F k)[j]?)
    (hc : ∀ i, i < len → w.cells? 0 (a.add (i * size)) size = some (F i)) : RowAt w.heap.size w (some a) all := by
  by_cases h0 : len = 0
  · left
    exact List.eq_nil_of_length_eq_zero (by rw [hlen, h0, Nat.zero_mul])
  · right
    have hcell : ∀ q u, all[q]? = some u → w.cell? (a.add q) = some u := by
      intro q u hu
      have hq : q < len * size := by rw [← hlen]; exact (List.getElem?_eq_some_iff.1 hu).1
      have hk : q / size < len := Nat.div_lt_of_lt_mul (by rw [Nat.mul_comm]; exact hq)
      have hj : q % size < size := Nat.mod_lt _ hs
      have hqe : q / size * size + q % size = q := Nat.div_add_mod' q size
      have h1 := (World.cells?_some (hc _ hk)).2.2 _ hj
      rw [add_add, hqe, ← hget _ _ hk hj, hqe, hu] at h1
      exact h1
    have hpos : 0 < all.length := by rw [hlen]; exact Nat.mul_pos (by omega) hs
    have ha := hcell 0 _ (List.getElem?_eq_getElem hpos)
    have hsp := spot_none ha
    have ha0 : a.add 0 = a := by simp [Addr.add]
    rw [ha0] at hsp ha
    obtain ⟨b, o, s⟩ := a
    simp only at hsp
    subst hsp
    refine ⟨b, o, rfl, World.block_lt_of_cell? _ _ ha, fun j u hu => ?_⟩
    have := hcell j u hu
    rwa [add_plain] at this

section
variable {H : Type} {enc : TypeId × Value → H} {W : World} {held : Bool} {spare : Nat → Bool} {fuel : Nat}

theorem cellsEn : Tryd.prog.cellsOf 61 = 7 := by kernel_rfl
theorem cellsNd : Tryd.prog.cellsOf 80 = 5 := by kernel_rfl
theorem cellsTr : Tryd.prog.cellsOf 25 = 2 := by kernel_rfl
theorem cellsBool : Tryd.prog.cellsOf 4 = 1 := by kernel_rfl
theorem cellsSlE : Tryd.prog.cellsOf 46 = 1 := by kernel_rfl
theorem cellsSlI : Tryd.prog.cellsOf 77 = 1 := by kernel_rfl
theorem cellsSlN : Tryd.prog.cellsOf 23 = 1 := by kernel_rfl
theorem bytesEn : Tryd.prog.bytesOf 61 = 56 := by kernel_rfl
theorem bytesNd : Tryd.prog.bytesOf 80 = 104 := by kernel_rfl
theorem bytesInt : Tryd.prog.bytesOf 3 = 8 := by kernel_rfl

def En.wf (x : En) : Prop := (Lit.int .i64 x.key).wf = true ∧ (Lit.int .i64 x.c).wf = true ∧ (Lit.int .i64 x.s).wf = true ∧ (Lit.int .i64 x.lo).wf = true ∧ (Lit.int .i64 x.hi).wf = true ∧ (Lit.int .i64 x.t).wf = true ∧ (Lit.int .i64 x.l).wf = true

set_option maxRecDepth 100000 in
theorem open_en {cs : List Value} {x : DataW H × List MemPlace} (h : DataW.trod enc Tryd.prog W 0 spare held fuel 61 cs = some x) : ∃ y : En, cs = y.vals ∧ y.wf := by
  obtain ⟨xs, n, _, _, hl, hxl, hg⟩ := DataW.trod_struct Tryd.underlying61 h
  rw [cellsEn] at hl
  match cs, hl with
  | [v0, v1, v2, v3, v4, v5, v6], _ =>
    match xs, hxl with
    | [y0, y1], _ =>
      have g0 := hg 0 _ rfl
      have g1 := hg 1 _ rfl
      obtain ⟨k, e0, _, w0⟩ := DataW.trod_int Tryd.underlying3 g0
      obtain ⟨zs, m, _, _, _, hzl, hz⟩ := DataW.trod_struct Tryd.underlying38 g1
      match zs, hzl with
      | [z0, z1, z2, z3, z4, z5], _ =>
        obtain ⟨c, e1, _, w1⟩ := DataW.trod_int Tryd.underlying3 (hz 0 _ rfl)
        obtain ⟨s, e2, _, w2⟩ := DataW.trod_int Tryd.underlying3 (hz 1 _ rfl)
        obtain ⟨lo, e3, _, w3⟩ := DataW.trod_int Tryd.underlying3 (hz 2 _ rfl)
        obtain ⟨hi, e4, _, w4⟩ := DataW.trod_int Tryd.underlying3 (hz 3 _ rfl)
        obtain ⟨t, e5, _, w5⟩ := DataW.trod_int Tryd.underlying3 (hz 4 _ rfl)
        obtain ⟨l, e6, _, w6⟩ := DataW.trod_int Tryd.underlying3 (hz 5 _ rfl)
        simp [cellsInt, cellsRu] at e0 e1 e2 e3 e4 e5 e6
        subst e0 e1 e2 e3 e4 e5 e6
        exact ⟨⟨k, c, s, lo, hi, t, l⟩, rfl, w0, w1, w2, w3, w4, w5, w6⟩

def Sized (t : TypeId) (d : DataW H) : Prop := ∀ n ∈ d.weights Tryd.prog t, n ≤ 140737488351232

set_option maxRecDepth 100000 in
theorem open_ents {v : Value} {x : DataW H × List MemPlace} (h : DataW.trod enc Tryd.prog W 0 (fun _ => true) held fuel 46 [v] = some x) (hs : Sized 46 x.1) :
    ∃ A C xs, v = .slice A xs.length C ∧ (A = none → C = 0) ∧ xs.length ≤ C ∧ RowAt W.heap.size W A (flatE xs) ∧ xs.length * 56 ≤ 140737488351232 ∧ ∀ y ∈ xs, y.wf := by
  rcases open_slice Tryd.underlying46 h with ⟨hv, _⟩ | ⟨a, len, cap, m, n, D, Pl, hv, _, hl, _, hm, hx, he⟩
  · simp at hv
    subst hv
    exact ⟨none, 0, [], rfl, fun _ => rfl, Nat.le_refl _, .inl rfl, by simp, by simp⟩
  · simp at hv
    subst hv
    simp only [if_true] at hm
    subst hm
    obtain ⟨X, hX⟩ := choose_lt (α := En) (p := fun i y => W.cells? 0 (a.add (i * 7)) 7 = some y.vals ∧ y.wf) (n := len) (fun i hi => by
      obtain ⟨cs', h1, h2⟩ := he i (by omega)
      obtain ⟨y, rfl, hy⟩ := open_en h2
      rw [cellsEn] at h1
      exact ⟨y, h1, hy⟩)
    have hwt : (len + (m - len)) * 56 ≤ 140737488351232 := by
      have := hs ((len + (m - len)) * Tryd.prog.bytesOf 61) (by rw [hx]; simp [DataW.weights, Tryd.underlying46])
      rwa [bytesEn] at this
    refine ⟨some a, m, (List.range len).map X, by simp, fun h => (by cases h), by simpa using hl, ?_, ?_, ?_⟩
    · refine row_of (by decide) (fun k => (X k).vals) _ (by rw [flatE_length]; simp) (fun k j hk hj => ?_) (fun i hi => (hX i hi).1)
      rw [flatE_get _ k j (by simpa using hk) hj]
      simp
    · simp only [List.length_map, List.length_range]; omega
    · intro y hy
      obtain ⟨i, hi, rfl⟩ := List.mem_map.1 hy
      exact (hX i (by simpa using hi)).2

set_option maxRecDepth 100000 in
theorem open_nums {v : Value} {x : DataW H × List MemPlace} (h : DataW.trod enc Tryd.prog W 0 (fun _ => true) held fuel 77 [v] = some x) (hs : Sized 77 x.1) :
    ∃ A C zs, v = .slice A zs.length C ∧ (A = none → C = 0) ∧ zs.length ≤ C ∧ RowAt W.heap.size W A (ints zs) ∧ zs.length * 8 ≤ 140737488351232 ∧ ∀ z ∈ zs, (Lit.int .i64 z).wf = true := by
  rcases open_slice Tryd.underlying77 h with ⟨hv, _⟩ | ⟨a, len, cap, m, n, D, Pl, hv, _, hl, _, hm, hx, he⟩
  · simp at hv
    subst hv
    exact ⟨none, 0, [], rfl, fun _ => rfl, Nat.le_refl _, .inl rfl, by simp, by simp⟩
  · simp at hv
    subst hv
    simp only [if_true] at hm
    subst hm
    obtain ⟨X, hX⟩ := choose_lt (α := Int) (p := fun i z => W.cells? 0 (a.add (i * 1)) 1 = some [.int .i64 z] ∧ (Lit.int .i64 z).wf = true) (n := len) (fun i hi => by
      obtain ⟨cs', h1, h2⟩ := he i (by omega)
      obtain ⟨z, rfl, _, hz⟩ := DataW.trod_int Tryd.underlying3 h2
      rw [cellsInt] at h1
      exact ⟨z, h1, hz⟩)
    have hwt : (len + (m - len)) * 8 ≤ 140737488351232 := by
      have := hs ((len + (m - len)) * Tryd.prog.bytesOf 3) (by rw [hx]; simp [DataW.weights, Tryd.underlying77])
      rwa [bytesInt] at this
    refine ⟨some a, m, (List.range len).map X, by simp, fun h => (by cases h), by simpa using hl, ?_, ?_, ?_⟩
    · refine row_of (by decide) (fun k => [.int .i64 (X k)]) _ (by simp [ints]) (fun k j hk hj => ?_) (fun i hi => (hX i hi).1)
      obtain rfl : j = 0 := by omega
      simp [ints, hk]
    · simp only [List.length_map, List.length_range]; omega
    · intro y hy
      obtain ⟨i, hi, rfl⟩ := List.mem_map.1 hy
      exact (hX i (by simpa using hi)).2

def PN.wf (p : PN) : Prop := (∀ y ∈ p.ents, y.wf) ∧ (∀ z ∈ p.keys, (Lit.int .i64 z).wf = true) ∧ (∀ z ∈ p.kids, (Lit.int .i64 z).wf = true) ∧ ∀ y ∈ p.buf, y.wf

set_option maxRecDepth 100000 in
theorem open_node {cs : List Value} {x : DataW H × List MemPlace} (h : DataW.trod enc Tryd.prog W 0 (fun _ => true) held fuel 80 cs = some x) (hs : Sized 80 x.1) :
    ∃ p : PN, cs = p.vals ∧ p.ok W.heap.size W ∧ p.wf := by
  obtain ⟨xs, n, _, hx, hl, hxl, hg⟩ := DataW.trod_struct Tryd.underlying80 h
  rw [cellsNd] at hl
  match cs, hl with
  | [v0, v1, v2, v3, v4], _ =>
    match xs, hxl with
    | [y0, y1, y2, y3, y4], _ =>
      have g0 := hg 0 _ rfl
      have g1 := hg 1 _ rfl
      have g2 := hg 2 _ rfl
      have g3 := hg 3 _ rfl
      have g4 := hg 4 _ rfl
      simp [cellsBool, cellsSlE, cellsSlI] at g0 g1 g2 g3 g4
      have hw : ∀ n ∈ DataW.weightsEach Tryd.prog [4, 46, 77, 77, 46] [y0.1, y1.1, y2.1, y3.1, y4.1], n ≤ 140737488351232 := by
        intro n hn
        refine hs n ?_
        rw [hx]
        simp only [List.map_cons, List.map_nil, DataW.weights, Tryd.underlying80]
        exact hn
      obtain ⟨lf, e0, _⟩ := DataW.trod_bool Tryd.underlying4 g0
      simp at e0
      subst e0
      obtain ⟨eA, eC, ents, rfl, en, _, er, ez, ew⟩ := open_ents g1 (fun n hn => hw n (DataW.weights_mem_each (j := 1) rfl rfl n hn))
      obtain ⟨kA, kC, keys, rfl, kn, _, kr, kz, kw⟩ := open_nums g2 (fun n hn => hw n (DataW.weights_mem_each (j := 2) rfl rfl n hn))
      obtain ⟨dA, dC, kids, rfl, dn, _, dr, dz, dw⟩ := open_nums g3 (fun n hn => hw n (DataW.weights_mem_each (j := 3) rfl rfl n hn))
      obtain ⟨bA, bC, buf, rfl, bn, _, br, bz, bw⟩ := open_ents g4 (fun n hn => hw n (DataW.weights_mem_each (j := 4) rfl rfl n hn))
      exact ⟨⟨lf, eA, eC, ents, kA, kC, keys, dA, dC, kids, bA, bC, buf⟩, rfl, ⟨er, kr, dr, br, en, kn, dn, bn, ez, kz, dz, bz⟩, ew, kw, dw, bw⟩

theorem weightsAll_mem {P : Program} {e : TypeId} : ∀ {ds : List (DataW H)} {d : DataW H}, d ∈ ds → ∀ n ∈ d.weights P e, n ∈ DataW.weightsAll P e ds
  | d0 :: r, d, hd, n, hn => by
    simp only [DataW.weightsAll, List.mem_append]
    rcases List.mem_cons.1 hd with rfl | h
    · exact .inl hn
    · exact .inr (weightsAll_mem h n hn)

set_option maxRecDepth 100000 in
theorem open_nodes {v : Value} {x : DataW H × List MemPlace} (h : DataW.trod enc Tryd.prog W 0 (fun _ => true) held fuel 23 [v] = some x) (hs : Sized 23 x.1) :
    ∃ A C ps, v = .slice A ps.length C ∧ NodesAt W.heap.size W A ps ∧ ∀ p ∈ ps, p.wf := by
  rcases open_slice Tryd.underlying23 h with ⟨hv, _⟩ | ⟨a, len, cap, m, n, D, Pl, hv, _, hl, _, hm, hx, he⟩
  · simp at hv
    subst hv
    exact ⟨none, 0, [], rfl, ⟨.inl rfl, fun k hk => absurd hk (Nat.not_lt_zero _), by simp⟩, by simp⟩
  · simp at hv
    subst hv
    simp only [if_true] at hm
    subst hm
    have hw : ∀ i, i < len → Sized 80 (D i) := by
      intro i hi n hn
      refine hs n ?_
      rw [hx]
      simp only [DataW.weights, Tryd.underlying23, List.mem_cons, List.mem_append]
      exact .inr (.inl (weightsAll_mem (List.mem_map.2 ⟨i, by simpa using hi, rfl⟩) n hn))
    obtain ⟨X, hX⟩ := choose_lt (α := PN) (p := fun i y => W.cells? 0 (a.add (i * 5)) 5 = some y.vals ∧ y.ok W.heap.size W ∧ y.wf) (n := len) (fun i hi => by
      obtain ⟨cs', h1, h2⟩ := he i (by omega)
      obtain ⟨y, rfl, hy, hyw⟩ := open_node h2 (hw i hi)
      rw [cellsNd] at h1
      exact ⟨y, h1, hy, hyw⟩)
    have hwt : (len + (m - len)) * 104 ≤ 140737488351232 := by
      have := hs ((len + (m - len)) * Tryd.prog.bytesOf 80) (by rw [hx]; simp [DataW.weights, Tryd.underlying23])
      rwa [bytesNd] at this
    refine ⟨some a, m, (List.range len).map X, by simp, ⟨?_, ?_, ?_⟩, ?_⟩
    · refine row_of (by decide) (fun k => (X k).vals) _ (by rw [flatN_length]; simp) (fun k j hk hj => ?_) (fun i hi => (hX i hi).1)
      rw [flatN_get _ k j (by simpa using hk) hj]
      simp
    · intro k hk
      simp only [List.length_map, List.length_range] at hk
      simpa using (hX k hk).2.1
    · simp only [List.length_map, List.length_range]; omega
    · intro y hy
      obtain ⟨i, hi, rfl⟩ := List.mem_map.1 hy
      exact (hX i (by simpa using hi)).2.2

set_option maxRecDepth 100000 in
theorem open_tree {base b0 : Nat} {r : Reach} {v : Value} {d : DataW H} {p : List MemPlace} (hb : base = 0) (hv : Value.okWide Tryd.prog W r b0 25 v) (h : DataW.Trod enc Tryd.prog W base (fun _ => true) held 25 v d p) (hs : Sized 25 d) :
    ∃ A C ps n, v = .agg #[.slice A ps.length C, .int .i64 n] ∧ NodesAt W.heap.size W A ps ∧ (∀ p ∈ ps, p.wf) ∧ (Lit.int .i64 n).wf = true := by
  subst hb
  obtain ⟨⟨cs⟩, rfl, hsz⟩ := okWide_struct Tryd.underlying25 hv
  rw [cellsTr] at hsz
  match cs, hsz with
  | [v0, v1], _ =>
    obtain ⟨fuel, hf⟩ := h
    obtain ⟨xs, n, _, hx, _, hlen, hg⟩ := DataW.trod_struct Tryd.underlying25 hf
    match xs, hlen with
    | [y0, y1], _ =>
      have g0 := hg 0 _ rfl
      have g1 := hg 1 _ rfl
      simp [Value.cells, cellsSlN, cellsInt] at g0 g1
      cases hx
      obtain ⟨A, C, ps, rfl, hN, hw⟩ := open_nodes g0 (fun n hn => hs n (by
        simp only [List.map_cons, List.map_nil, DataW.weights, Tryd.underlying25]
        exact DataW.weights_mem_each (ts := [23, 3]) (j := 0) rfl rfl n hn))
      obtain ⟨m, e1, _, w1⟩ := DataW.trod_int Tryd.underlying3 g1
      simp at e1
      subst e1
      exact ⟨A, C, ps, m, rfl, hN, hw, w1⟩

end
end Go.Proofs.YtlojfgdpmaigmadDoor

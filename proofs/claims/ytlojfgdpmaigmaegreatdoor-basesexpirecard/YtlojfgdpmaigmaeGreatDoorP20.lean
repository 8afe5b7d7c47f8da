/- What a call leaves as it was, some blocks apart; which nodes have been seen. -/
import Derived.Test.YtlojfgdpmaigmaeGreatDoorP15
import Derived.Test.YtlojfgdpmaigmaeGreatDoorP19
import Derived.Test.YtlojfgdpmaigmaeGreatDoorP14
namespace Go.Proofs.YtlojfgdpmaigmaeGreatDoor
open Go.RowKit Plain

/-- w' is w with new blocks, and with writes to the blocks of ex alone. -/
structure Kept (ex : List Nat) (w w' : World) : Prop where
  os : w'.os = w.os
  tape : w'.tape = w.tape
  output : w'.output = w.output
  size : w.heap.size ≤ w'.heap.size
  block : ∀ k, k < w.heap.size → k ∉ ex → w'.heap[k]? = w.heap[k]?

section
variable {ex : List Nat} {w w' w'' : World}

theorem Kept.refl (ex : List Nat) (w : World) : Kept ex w w := ⟨rfl, rfl, rfl, Nat.le_refl _, fun _ _ _ => rfl⟩
theorem Kept.trans (h : Kept ex w w') (k : Kept ex w' w'') : Kept ex w w'' :=
  ⟨k.os.trans h.os, k.tape.trans h.tape, k.output.trans h.output, Nat.le_trans h.size k.size, fun i hi hx => (k.block i (Nat.lt_of_lt_of_le hi h.size) hx).trans (h.block i hi hx)⟩
theorem Kept.alloc (h : Kept ex w w') (o : Obj) : Kept ex w (w'.alloc o) :=
  h.trans ⟨rfl, rfl, rfl, by simp, fun k hk _ => Below.heap_alloc _ _ _ hk⟩
theorem Kept.set (h : Kept ex w w') {b j : Nat} (hb : b ∈ ex ∨ w.heap.size ≤ b) (v : Value) : Kept ex w (w'.setCell ⟨b, j, none⟩ v) :=
  ⟨h.os, h.tape, h.output, by simpa using h.size, fun k hk hx => (Below.heap_setCell _ _ _ _ (by rintro rfl; rcases hb with hb | hb; exact hx hb; omega)).trans (h.block k hk hx)⟩
theorem Kept.drew (h : Kept ex w w') : Kept ex w w'.drew := ⟨h.os, h.tape, h.output, h.size, h.block⟩
theorem Kept.drewN (h : Kept ex w w') (n : Nat) : Kept ex w (w'.drewN n) := ⟨h.os, h.tape, h.output, h.size, h.block⟩
theorem Kept.of_below (h : Below w.heap.size w w') : Kept ex w w' := ⟨h.os, h.tape, h.output, h.size, fun k hk _ => h.block k hk⟩
theorem Kept.below (h : Kept ex w w') {B : Nat} (hB : B ≤ w.heap.size) (hx : ∀ x ∈ ex, B ≤ x) : Below B w w' :=
  ⟨h.os, h.tape, h.output, h.size, fun k hk => h.block k (by omega) (fun hm => by have := hx k hm; omega)⟩
theorem Kept.cell (h : Kept ex w w') {b : Nat} (o : Nat) (hb : b < w.heap.size) (hx : b ∉ ex) : w'.cell? ⟨b, o, none⟩ = w.cell? ⟨b, o, none⟩ :=
  World.cell?_of_block (w := w) (a := ⟨b, o, none⟩) (h.block b hb hx)
theorem Kept.row (h : Kept ex w w') {b : Nat} {t : TypeId} {vs : List Value} (hr : RowL w b t vs) (hx : b ∉ ex) : RowL w' b t vs := hr.of_block (h.block b hr.lt hx)
end

theorem two_rows {v w2 : World} {l1 l2 : List Value} {t1 t2 : TypeId} (hb : Below ((v.alloc (.cells l1.toArray t1)).alloc (.cells l2.toArray t2)).heap.size ((v.alloc (.cells l1.toArray t1)).alloc (.cells l2.toArray t2)) w2) {n : Nat} (hn : n = v.heap.size) :
    RowL w2 n t1 l1 ∧ RowL w2 (n + 1) t2 l2 ∧ n + 1 < w2.heap.size := by
  subst hn
  have s1 : (v.alloc (.cells l1.toArray t1)).heap.size = v.heap.size + 1 := by simp
  have s2 : ((v.alloc (.cells l1.toArray t1)).alloc (.cells l2.toArray t2)).heap.size = v.heap.size + 2 := by simp
  have r1 : RowL ((v.alloc (.cells l1.toArray t1)).alloc (.cells l2.toArray t2)) v.heap.size t1 l1 := (rowL_alloc v l1 t1).of_block (Below.heap_alloc _ _ _ (by omega))
  have r2 : RowL ((v.alloc (.cells l1.toArray t1)).alloc (.cells l2.toArray t2)) (v.heap.size + 1) t2 l2 := by
    have := rowL_alloc (v.alloc (.cells l1.toArray t1)) l2 t2
    rwa [s1] at this
  have hs := hb.size
  exact ⟨r1.below hb (by omega), r2.below hb (by omega), by omega⟩

theorem W_succ (ns : List Nd) (f : Nat) (n low high : Int) (S : St) : W ns (f + 1) n low high S =
    if n < 0 ∨ (ns.length : Int) ≤ n ∨ high ≤ low ∨ seenB S n = true then none
    else if (ns.getD n.toNat default).leaf = true then
      (if leafB (ns.getD n.toNat default) low high f = true then some ((n, 12 - (f : Int)) :: S, [12 - (f : Int)]) else none)
    else if innerB (ns.getD n.toNat default) low high = true then Wk (W ns f) (ns.getD n.toNat default).kids (ns.getD n.toNat default).keys low high ((n, 12 - (f : Int)) :: S)
    else none := rfl

theorem W_out {ns : List Nd} {f : Nat} {n low high : Int} {S : St} (h : n < 0 ∨ (ns.length : Int) ≤ n ∨ high ≤ low ∨ seenB S n = true) : W ns f n low high S = none := by
  cases f with
  | zero => rfl
  | succ f => rw [W_succ, if_pos h]

theorem W_leaf {ns : List Nd} {f m : Nat} {low high : Int} {S : St} {x : Nd} (hm : m < ns.length) (hx : ns[m] = x) (hlh : low < high) (hs : seenB S m = false) (hl : x.leaf = true) :
    W ns (f + 1) m low high S = if leafB x low high f = true then some (((m : Int), 12 - (f : Int)) :: S, [12 - (f : Int)]) else none := by
  have hg : ns.getD m default = x := by simp [hm, hx]
  rw [W_succ, if_neg (by simp [hs]; omega)]
  simp only [Int.toNat_natCast, hg, hl, if_true]

theorem W_inner {ns : List Nd} {f m : Nat} {low high : Int} {S : St} {x : Nd} (hm : m < ns.length) (hx : ns[m] = x) (hlh : low < high) (hs : seenB S m = false) (hl : x.leaf = false) :
    W ns (f + 1) m low high S = if innerB x low high = true then Wk (W ns f) x.kids x.keys low high (((m : Int), 12 - (f : Int)) :: S) else none := by
  have hg : ns.getD m default = x := by simp [hm, hx]
  rw [W_succ, if_neg (by simp [hs]; omega)]
  simp only [Int.toNat_natCast, hg, hl, Bool.false_eq_true, if_false]

end Go.Proofs.YtlojfgdpmaigmaeGreatDoor

/- The document's 'height' of a tree: leaves. -/
namespace Go.Proofs.YtlojfgdpmaigmaeGreatDoor
open Go.RowKit Plain

end Go.Proofs.YtlojfgdpmaigmaeGreatDoor

/- The document's 'height' of a tree: the loop over a node's kids. -/
namespace Go.Proofs.YtlojfgdpmaigmaeGreatDoor
open Go.RowKit Plain

end Go.Proofs.YtlojfgdpmaigmaeGreatDoor

/- The document's 'height' of a tree: nodes that are no leaves. -/
namespace Go.Proofs.YtlojfgdpmaigmaeGreatDoor
open Go.RowKit Plain

end Go.Proofs.YtlojfgdpmaigmaeGreatDoor

/- The document's 'height' of a tree, walked. -/
namespace Go.Proofs.YtlojfgdpmaigmaeGreatDoor
open Go.RowKit Plain

end Go.Proofs.YtlojfgdpmaigmaeGreatDoor

/- The document's answer to Check of package tree. -/
namespace Go.Proofs.YtlojfgdpmaigmaeGreatDoor
open Go.RowKit Plain

end Go.Proofs.YtlojfgdpmaigmaeGreatDoor

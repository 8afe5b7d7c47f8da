/- The document's AllOf. -/
import Derived.Test.YtlojfgdpmaigmafGreatDoorP16
import Derived.Test.YtlojfgdpmaigmafGreatDoorP18
namespace Go.Proofs.YtlojfgdpmaigmafGreatDoor
open Go.RowKit Plain

end Go.Proofs.YtlojfgdpmaigmafGreatDoor

/- The document's GotOf: what a tree knows of a key. -/
namespace Go.Proofs.YtlojfgdpmaigmafGreatDoor
open Go.RowKit Plain

end Go.Proofs.YtlojfgdpmaigmafGreatDoor

/- What is known of a key: the visitor of tree.knownAt. -/
namespace Go.Proofs.YtlojfgdpmaigmafGreatDoor
open Go.RowKit Plain

end Go.Proofs.YtlojfgdpmaigmafGreatDoor

/- A walk that calls a visitor: what the visitor may turn, and what it leaves. -/
namespace Go.Proofs.YtlojfgdpmaigmafGreatDoor
open Go.RowKit Plain

/-- w' is w with new blocks, and with writes to the blocks that X names alone; no block that was there comes to be named. -/
structure Turned (X : World → Nat → Prop) (w w' : World) : Prop where
  os : w'.os = w.os
  tape : w'.tape = w.tape
  output : w'.output = w.output
  size : w.heap.size ≤ w'.heap.size
  block : ∀ k, k < w.heap.size → ¬ X w k → w'.heap[k]? = w.heap[k]?
  back : ∀ k, k < w.heap.size → X w' k → X w k

section
variable {X : World → Nat → Prop} {w w' w'' : World}
theorem Turned.refl (X : World → Nat → Prop) (w : World) : Turned X w w := ⟨rfl, rfl, rfl, Nat.le_refl _, fun _ _ _ => rfl, fun _ _ h => h⟩
theorem Turned.trans (h : Turned X w w') (k : Turned X w' w'') : Turned X w w'' :=
  ⟨k.os.trans h.os, k.tape.trans h.tape, k.output.trans h.output, Nat.le_trans h.size k.size,
   fun i hi hx => (k.block i (Nat.lt_of_lt_of_le hi h.size) (fun hx' => hx (h.back i hi hx'))).trans (h.block i hi hx),
   fun i hi hx => h.back i hi (k.back i (Nat.lt_of_lt_of_le hi h.size) hx)⟩
theorem Turned.of_below (h : Below w.heap.size w w') (hX : ∀ k, X w' k → X w k) : Turned X w w' :=
  ⟨h.os, h.tape, h.output, h.size, fun k hk _ => h.block k hk, fun k _ hx => hX k hx⟩
theorem Turned.below (h : Turned X w w') {B : Nat} (hB : B ≤ w.heap.size) (hx : ∀ k, X w k → B ≤ k) : Below B w w' :=
  ⟨h.os, h.tape, h.output, h.size, fun k hk => h.block k (by omega) (fun hm => by have := hx k hm; omega)⟩
theorem Turned.far (h : Turned X w w') {B : Nat} (hB : B ≤ w.heap.size) (hx : ∀ k, X w k → B ≤ k) : ∀ k, X w' k → B ≤ k := fun k hk => by
  by_cases hl : k < w.heap.size
  · exact hx k (h.back k hl hk)
  · omega
theorem Turned.row (h : Turned X w w') {b : Nat} {t : TypeId} {vs : List Value} (hr : RowL w b t vs) (hx : ¬ X w b) : RowL w' b t vs := hr.of_block (h.block b hr.lt hx)
end

/-- The nodes that a walk from n on down comes to. -/
def Reach (ns : List Nd) : Nat → Int → Prop
  | 0, _ => False
  | f + 1, n => 0 ≤ n ∧ n < ns.length ∧ (ns.getD n.toNat default).kids.length ≤ (ns.getD n.toNat default).keys.length + 1 ∧ ∀ d ∈ (ns.getD n.toNat default).kids, Reach ns f d

def itK (g : Int → List En) (low high : Int) (kids keys : List Int) (pr : Option Int) (i : Nat) : List En :=
  if skipB low high (if i = 0 then pr else keys[i - 1]?) keys[i]? = true then [] else g (kids.getD i 0)

theorem WlK_range (g : Int → List En) (low high : Int) : ∀ (kids keys : List Int) (pr : Option Int), WlK g low high kids keys pr = (List.range kids.length).flatMap (itK g low high kids keys pr)
  | [], _, _ => by simp [WlK]
  | d :: ds, keys, pr => by
    have ih := WlK_range g low high ds keys.tail keys.head?
    have e : ∀ i, itK g low high (d :: ds) keys pr (i + 1) = itK g low high ds keys.tail keys.head? i := fun i => by
      unfold itK
      cases i with
      | zero => cases keys <;> simp
      | succ j => cases keys <;> simp
    have e0 : itK g low high (d :: ds) keys pr 0 = if skipB low high pr keys.head? = true then [] else g d := by
      show (if skipB low high pr keys[0]? = true then [] else g d) = _
      rw [show keys[0]? = keys.head? by cases keys <;> rfl]
    rw [WlK, ih, List.length_cons, List.range_succ_eq_map, List.flatMap_cons, List.flatMap_map, e0]
    simp only [Nat.succ_eq_add_one, e]

theorem flat_le (f : Nat → List En) {i n : Nat} (h : i ≤ n) : ((List.range i).flatMap f).length ≤ ((List.range n).flatMap f).length := by
  obtain ⟨d, rfl⟩ := Nat.le.dest h
  rw [List.range_add, List.flatMap_append, List.length_append]
  omega

theorem Wk_kid {g : Int → Int → Int → St → Option (St × List Int)} : ∀ (ds keys : List Int) (lo hi : Int) (S : St) (r : St × List Int), Wk g ds keys lo hi S = some r → ∀ d ∈ ds, ∃ lo' hi' S' r', g d lo' hi' S' = some r'
  | [], _, _, _, _, _, _, d, hd => by simp at hd
  | x :: ds, keys, lo, hi, S, r, hr, d, hd => by
    unfold Wk at hr
    split at hr
    · cases hr
    · rename_i S1 l1 h1
      rcases List.mem_cons.1 hd with rfl | hd
      · exact ⟨_, _, _, _, h1⟩
      · split at hr
        · cases hr
        · rename_i S2 l2 h2
          exact Wk_kid ds _ _ _ _ _ h2 d hd

theorem W_reach {ns : List Nd} : ∀ (f : Nat) (n lo hi : Int) (S : St) (r : St × List Int), W ns f n lo hi S = some r → Reach ns f n := by
  intro f
  induction f with
  | zero => intro n lo hi S r h; cases h
  | succ f ih =>
    intro n lo hi S r h
    unfold W at h
    split at h
    · cases h
    · rename_i hc
      refine ⟨by omega, by omega, ?_⟩
      split at h
      · split at h
        · rename_i hl
          simp only [leafB, Bool.and_eq_true, List.isEmpty_iff] at hl
          obtain ⟨⟨⟨⟨⟨h1, h2⟩, h3⟩, _⟩, _⟩, _⟩ := hl
          rw [h1, h2]
          simp
        · cases h
      · split at h
        · rename_i hl
          simp only [innerB, Bool.and_eq_true, List.isEmpty_iff, beq_iff_eq] at hl
          obtain ⟨⟨⟨⟨⟨h1, h2⟩, h3⟩, h4⟩, _⟩, _⟩ := hl
          refine ⟨by omega, fun d hd => ?_⟩
          obtain ⟨_, _, _, _, q⟩ := Wk_kid _ _ _ _ _ _ h d hd
          exact ih _ _ _ _ _ q
        · cases h

theorem treeC_W {ns : List Nd} {root : Int} (h : treeC ns root = 0) : ∃ r, W ns 12 root 0 1099511627776 [] = some r := by
  unfold treeC at h
  split at h
  · omega
  · cases hW : W ns 12 root 0 1099511627776 [] with
    | none => rw [hW] at h; simp at h
    | some p => exact ⟨p, rfl⟩

end Go.Proofs.YtlojfgdpmaigmafGreatDoor

/- What comes together of one key, step by step. -/
namespace Go.Proofs.YtlojfgdpmaigmafGreatDoor
open Go.RowKit Plain

end Go.Proofs.YtlojfgdpmaigmafGreatDoor

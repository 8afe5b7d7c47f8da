/- A tree in memory of one's own that grows: its nodes in a row that may move, each list in a block of its own. -/
import Derived.Test.YtlojfgdpmaigmaeGreatDoorP21
import Derived.Test.YtlojfgdpmaigmaeGreatDoorP22
import Derived.Deep.AppendLies
namespace Go.Proofs.YtlojfgdpmaigmaeGreatDoor
open Go.RowKit Plain

def feet (g : Nat) (qs : List PN) : List Nat := g :: qs.flatMap PN.blocks

structure NT (base : Nat) (w : World) (g C : Nat) (qs : List PN) : Prop where
  own : w.ownsRow base 112 5 (.slice (some ⟨g, 0, none⟩) qs.length C) qs.length (flatN qs)
  each : ∀ q ∈ qs, q.own base w
  apart : (feet g qs).Nodup
  z : qs.length * 104 ≤ 140737488351232

/-- .. and the variable that holds it. -/
structure TB (base : Nat) (w : World) (tb g C : Nat) (qs : List PN) (root : Int) : Prop where
  nt : NT base w g C qs
  box : RowL w tb 25 [.slice (some ⟨g, 0, none⟩) qs.length C, .int .i64 root]
  ne : tb ∉ feet g qs
  hb : base ≤ tb

section
variable {base g C : Nat} {w w' : World} {qs : List PN}

theorem NT.glt (h : NT base w g C qs) : base ≤ g ∧ g < w.heap.size := h.own.lt g rfl

theorem NT.lt (h : NT base w g C qs) : ∀ k ∈ feet g qs, base ≤ k ∧ k < w.heap.size := by
  intro k hk
  rcases List.mem_cons.1 hk with rfl | hk
  · exact h.glt
  · obtain ⟨q, hq, hk⟩ := List.mem_flatMap.1 hk
    exact (h.each q hq).lt k hk

theorem NT.of_blocks (h : NT base w g C qs) (hk : ∀ k ∈ feet g qs, w'.heap[k]? = w.heap[k]?) : NT base w' g C qs :=
  ⟨own_of_block h.own fun k hb => hk k (by simp [Value.ownBlock] at hb; subst hb; exact List.mem_cons_self), fun q hq => (h.each q hq).of_blocks fun k hb => hk k (List.mem_cons_of_mem _ (List.mem_flatMap.2 ⟨q, hq, hb⟩)), h.apart, h.z⟩

theorem NT.below {B : Nat} (h : NT base w g C qs) (hb : Below B w w') (hB : w.heap.size ≤ B) : NT base w' g C qs :=
  h.of_blocks fun k hk => hb.block k (Nat.lt_of_lt_of_le (h.lt k hk).2 hB)

theorem NT.cell (h : NT base w g C qs) {j : Nat} (hj : j < qs.length * 5) : w.cell? ⟨g, j, none⟩ = (flatN qs)[j]? := h.own.cellAt j hj

theorem NT.node (h : NT base w g C qs) {k : Nat} (hk : k < qs.length) : PnAt w g (k * 5) qs[k] := by
  have c : ∀ j, j < 5 → ∀ u, (qs[k]).vals[j]? = some u → w.cell? ⟨g, k * 5 + j, none⟩ = some u := fun j hj u hu => by
    rw [h.cell (by omega), flatN_get qs k j hk hj]; exact hu
  exact ⟨c 0 (by decide) _ rfl, c 1 (by decide) _ rfl, c 2 (by decide) _ rfl, c 3 (by decide) _ rfl, c 4 (by decide) _ rfl⟩

theorem NT.free (h : NT base w g C qs) (j : Nat) : w.frozen? ⟨g, j, none⟩ = false := h.own.frozenAt j

theorem NT.nodes (h : NT base w g C qs) : NodesAt w.heap.size w (some ⟨g, 0, none⟩) qs :=
  ⟨(own_ok h.own).1, fun _ hk => (h.each _ (List.getElem_mem hk)).ok, h.z⟩
end

theorem set_nodeAt (qs : List PN) (k : Nat) (hk : k < qs.length) (p : PN) :
    (((((flatN qs).set (k * 5) (.bool p.leaf)).set (k * 5 + 1) (.slice p.eA p.ents.length p.eC)).set (k * 5 + 2) (.slice p.kA p.keys.length p.kC)).set (k * 5 + 3) (.slice p.dA p.kids.length p.dC)).set (k * 5 + 4) (.slice p.bA p.buf.length p.bC) = flatN (qs.set k p) := by
  obtain ⟨e1, e2⟩ := set_split qs k p hk
  rw [e2]
  conv => lhs; rw [e1]
  have h := set_node (qs.take k) (qs.drop (k + 1)) qs[k] p
  rw [List.length_take, Nat.min_eq_left (Nat.le_of_lt hk)] at h
  exact h

theorem own_set {w : World} {base : Nat} {e : TypeId} {size n g C : Nat} {vs : List Value} (h : w.ownsRow base e size (.slice (some ⟨g, 0, none⟩) n C) n vs) (j : Nat) (v : Value) :
    (w.setCell ⟨g, j, none⟩ v).ownsRow base e size (.slice (some ⟨g, 0, none⟩) n C) n (vs.set j v) := by
  refine ⟨by simp [h.1], .inr ?_⟩
  rcases h.2 with ⟨hv, _⟩ | ⟨g', cap, cur, hv, hb, hg, hl, hm, hs, ht⟩
  · cases hv
  · cases hv
    refine ⟨g, C, cur.setIfInBounds j v, rfl, hb, ?_, hl, hm, by simp [hs], ?_⟩
    · simp [World.setCell, Array.getElem?_modify, hg]
    · rw [Array.toList_setIfInBounds, List.take_set, ht]

theorem feet_set {g k : Nat} {qs : List PN} {p : PN} (hk : k < qs.length) (ha : (feet g qs).Nodup) (hn : p.blocks.Nodup) (hd : ∀ b ∈ p.blocks, b ∉ feet g qs) : (feet g (qs.set k p)).Nodup ∧ ∀ b ∈ feet g (qs.set k p), b ∈ feet g qs ∨ b ∈ p.blocks := by
  obtain ⟨A, x, B, hq, hset⟩ : ∃ A x B, qs = A ++ x :: B ∧ qs.set k p = A ++ p :: B := ⟨_, _, _, set_split qs k p hk⟩
  rw [hset]
  clear hset hk
  subst hq
  unfold feet at *
  simp only [List.flatMap_append, List.flatMap_cons, List.nodup_cons, List.nodup_append, List.mem_append, List.mem_cons, not_or] at *
  obtain ⟨⟨a1, a2, a3⟩, a4, ⟨a5, a6, a7⟩, a8⟩ := ha
  refine ⟨⟨⟨a1, fun h => (hd g h).1 rfl, a3⟩, a4, ⟨hn, a6, fun b hb c hc e => (hd b hb).2.2.2 (e ▸ hc)⟩, fun b hb c hc e => ?_⟩, fun b hb => ?_⟩
  · rcases hc with hc | hc
    · exact (hd c hc).2.1 (e ▸ hb)
    · exact a8 b hb c (.inr hc) e
  · rcases hb with hb | hb | hb | hb
    · exact .inl (.inl hb)
    · exact .inl (.inr (.inl hb))
    · exact .inr hb
    · exact .inl (.inr (.inr (.inr hb)))

theorem NT.setNode {base g C k : Nat} {w : World} {qs : List PN} {p : PN} (h : NT base w g C qs) (hk : k < qs.length) (hp : p.own base w) (hn : p.blocks.Nodup) (hd : ∀ b ∈ p.blocks, b ∉ feet g qs) :
    NT base (((((w.setCell ⟨g, k * 5, none⟩ (.bool p.leaf)).setCell ⟨g, k * 5 + 1, none⟩ (.slice p.eA p.ents.length p.eC)).setCell ⟨g, k * 5 + 2, none⟩ (.slice p.kA p.keys.length p.kC)).setCell ⟨g, k * 5 + 3, none⟩ (.slice p.dA p.kids.length p.dC)).setCell ⟨g, k * 5 + 4, none⟩ (.slice p.bA p.buf.length p.bC)) g C (qs.set k p) := by
  have hg : g ∉ p.blocks := fun e => hd g e List.mem_cons_self
  have hs : ∀ b, b ≠ g → (((((w.setCell ⟨g, k * 5, none⟩ (.bool p.leaf)).setCell ⟨g, k * 5 + 1, none⟩ (.slice p.eA p.ents.length p.eC)).setCell ⟨g, k * 5 + 2, none⟩ (.slice p.kA p.keys.length p.kC)).setCell ⟨g, k * 5 + 3, none⟩ (.slice p.dA p.kids.length p.dC)).setCell ⟨g, k * 5 + 4, none⟩ (.slice p.bA p.buf.length p.bC)).heap[b]? = w.heap[b]? := fun b hb => set5_block w g (k * 5) _ _ _ _ _ hb
  refine ⟨?_, fun q hq => ?_, (feet_set hk h.apart hn hd).1, by simpa using h.z⟩
  · rw [← set_nodeAt qs k hk p, List.length_set]
    exact own_set (own_set (own_set (own_set (own_set h.own _ _) _ _) _ _) _ _) _ _
  · rcases List.mem_or_eq_of_mem_set hq with hq | rfl
    · refine (h.each q hq).of_blocks fun b hb => hs b ?_
      rintro rfl
      have := h.apart
      rw [feet, List.nodup_cons] at this
      exact this.1 (List.mem_flatMap.2 ⟨q, hq, hb⟩)
    · exact hp.of_blocks fun b hb => hs b (fun e => hg (e ▸ hb))

theorem flatN_one (ps : List PN) : ∀ u ∈ flatN ps, u.oneCell' = true := by
  induction ps with
  | nil => simp [flatN]
  | cons x r ih =>
    intro u hu
    simp only [flatN, PN.vals, List.cons_append, List.nil_append, List.mem_cons] at hu
    rcases hu with h | h | h | h | h | h
    all_goals first | (subst h; rfl) | exact ih u h

theorem newsN (W : World) (b : Nat) (t : TypeId) (p : PN) (h : RowL W b t p.vals) : ∀ j u, (flatN [p])[j]? = some u → W.cell? (Addr.add ⟨b, 0, none⟩ j) = some u := by
  intro j u hu
  rw [WideShapes.add_plain, Nat.zero_add, h.cell]
  simpa [flatN] using hu

theorem feet_append {g' : Nat} {g : Nat} {qs : List PN} {q : PN} (ha : (feet g qs).Nodup) (hn : q.blocks.Nodup) (hd : ∀ b ∈ q.blocks, b ∉ feet g qs) (hg : g' = g ∨ (g' ∉ feet g qs ∧ g' ∉ q.blocks)) : (feet g' (qs ++ [q])).Nodup := by
  unfold feet at *
  simp only [List.flatMap_append, List.flatMap_cons, List.flatMap_nil, List.append_nil, List.nodup_cons, List.nodup_append, List.mem_append, List.mem_cons, not_or] at *
  refine ⟨⟨?_, ?_⟩, ha.2, hn, fun b hb c hc e => (hd c hc).2 (e ▸ hb)⟩
  · rcases hg with rfl | hg
    · exact ha.1
    · exact hg.1.2
  · rcases hg with rfl | hg
    · intro h; exact (hd g' h).1 rfl
    · exact hg.2

end Go.Proofs.YtlojfgdpmaigmaeGreatDoor

/- The document's entries: a list in new memory. -/
namespace Go.Proofs.YtlojfgdpmaigmaeGreatDoor
open Go.RowKit Plain

theorem newsE1 {w : World} {vb : Nat} {x : En} (hv : RowL w vb 73 x.vals) : ∀ j u, (flatE [x])[j]? = some u → w.cell? (Addr.add ⟨vb, 0, none⟩ j) = some u := by
  intro j u hu
  rw [WideShapes.add_plain, Nat.zero_add, hv.cell]
  simpa [flatE] using hu

end Go.Proofs.YtlojfgdpmaigmaeGreatDoor

/- The document's TreeCopy: what stands while it copies. -/
namespace Go.Proofs.YtlojfgdpmaigmaeGreatDoor
open Go.RowKit Plain

end Go.Proofs.YtlojfgdpmaigmaeGreatDoor

/- The document's TreeCopy: the same nodes, in new memory. -/
namespace Go.Proofs.YtlojfgdpmaigmaeGreatDoor
open Go.RowKit Plain

/-- The load of what the copy holds so far: by a name, so that the walk comes to it in each of its places (the region stores there in the end, so no one condition tells what it reads). -/
def ldOut : Op := .load 23 (.tmp 21)
theorem ldOut_fold : Op.load 23 (.tmp 21) = ldOut := rfl
theorem ldOut_open : ldOut = Op.load 23 (.tmp 21) := rfl
attribute [local go_sem] ldOut_open

end Go.Proofs.YtlojfgdpmaigmaeGreatDoor

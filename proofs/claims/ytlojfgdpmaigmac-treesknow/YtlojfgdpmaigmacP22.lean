/- A tree in memory of one's own that grows: its nodes in a row that may move, each list in a block of its own. -/
import Derived.Test.YtlojfgdpmaigmacPartWalk
import Derived.Test.YtlojfgdpmaigmacP09
import Derived.Deep.AppendLies
import Derived.Deep.RegionLaw
namespace Go.Proofs.Ytlojfgdpmaigmac
open Go.RowKit Plain

def feet (g : Nat) (qs : List PN) : List Nat := g :: qs.flatMap PN.blocks

structure NT (base : Nat) (w : World) (g C : Nat) (qs : List PN) : Prop where
  own : w.ownsRow base 62 5 (.slice (some ⟨g, 0, none⟩) qs.length C) qs.length (flatN qs)
  each : ∀ q ∈ qs, q.own base w
  apart : (feet g qs).Nodup
  z : qs.length * 104 ≤ 140737488351232

/-- .. and the variable that holds it. -/
structure TB (base : Nat) (w : World) (tb g C : Nat) (qs : List PN) (root : Int) : Prop where
  nt : NT base w g C qs
  box : RowL w tb 26 [.slice (some ⟨g, 0, none⟩) qs.length C, .int .i64 root]
  ne : tb ∉ feet g qs
  hb : base ≤ tb

section
variable {base g C : Nat} {w w' : World} {qs : List PN}

theorem NT.glt (h : NT base w g C qs) : base ≤ g ∧ g < w.heap.size := h.own.lt g rfl

theorem NT.lt (h : NT base w g C qs) : ∀ k ∈ feet g qs, base ≤ k ∧ k < w.heap.size := by
  intro k hk
  rcases List.mem_cons.1 hk with rfl | hk
  · exact h.glt
  · obtain ⟨q, hq, hk⟩ := List.mem_flatMap.1 hk
    exact (h.each q hq).lt k hk

theorem NT.of_blocks (h : NT base w g C qs) (hk : ∀ k ∈ feet g qs, w'.heap[k]? = w.heap[k]?) : NT base w' g C qs :=
  ⟨own_of_block h.own fun k hb => hk k (by simp [Value.ownBlock] at hb; subst hb; exact List.mem_cons_self), fun q hq => (h.each q hq).of_blocks fun k hb => hk k (List.mem_cons_of_mem _ (List.mem_flatMap.2 ⟨q, hq, hb⟩)), h.apart, h.z⟩

theorem NT.below {B : Nat} (h : NT base w g C qs) (hb : Below B w w') (hB : w.heap.size ≤ B) : NT base w' g C qs :=
  h.of_blocks fun k hk => hb.block k (Nat.lt_of_lt_of_le (h.lt k hk).2 hB)

theorem NT.cell (h : NT base w g C qs) {j : Nat} (hj : j < qs.length * 5) : w.cell? ⟨g, j, none⟩ = (flatN qs)[j]? := h.own.cellAt j hj

theorem NT.node (h : NT base w g C qs) {k : Nat} (hk : k < qs.length) : PnAt w g (k * 5) qs[k] := by
  have c : ∀ j, j < 5 → ∀ u, (qs[k]).vals[j]? = some u → w.cell? ⟨g, k * 5 + j, none⟩ = some u := fun j hj u hu => by
    rw [h.cell (by omega), flatN_get qs k j hk hj]; exact hu
  exact ⟨c 0 (by decide) _ rfl, c 1 (by decide) _ rfl, c 2 (by decide) _ rfl, c 3 (by decide) _ rfl, c 4 (by decide) _ rfl⟩

theorem NT.free (h : NT base w g C qs) (j : Nat) : w.frozen? ⟨g, j, none⟩ = false := h.own.frozenAt j

theorem NT.nodes (h : NT base w g C qs) : NodesAt w.heap.size w (some ⟨g, 0, none⟩) qs :=
  ⟨(own_ok h.own).1, fun _ hk => (h.each _ (List.getElem_mem hk)).ok, h.z⟩
end

theorem set_nodeAt (qs : List PN) (k : Nat) (hk : k < qs.length) (p : PN) :
    (((((flatN qs).set (k * 5) (.bool p.leaf)).set (k * 5 + 1) (.slice p.eA p.ents.length p.eC)).set (k * 5 + 2) (.slice p.kA p.keys.length p.kC)).set (k * 5 + 3) (.slice p.dA p.kids.length p.dC)).set (k * 5 + 4) (.slice p.bA p.buf.length p.bC) = flatN (qs.set k p) := by
  obtain ⟨e1, e2⟩ := set_split qs k p hk
  rw [e2]
  conv => lhs; rw [e1]
  have h := set_node (qs.take k) (qs.drop (k + 1)) qs[k] p
  rw [List.length_take, Nat.min_eq_left (Nat.le_of_lt hk)] at h
  exact h

theorem own_set {w : World} {base : Nat} {e : TypeId} {size n g C : Nat} {vs : List Value} (h : w.ownsRow base e size (.slice (some ⟨g, 0, none⟩) n C) n vs) (j : Nat) (v : Value) :
    (w.setCell ⟨g, j, none⟩ v).ownsRow base e size (.slice (some ⟨g, 0, none⟩) n C) n (vs.set j v) := by
  refine ⟨by simp [h.1], .inr ?_⟩
  rcases h.2 with ⟨hv, _⟩ | ⟨g', cap, cur, hv, hb, hg, hl, hm, hs, ht⟩
  · cases hv
  · cases hv
    refine ⟨g, C, cur.setIfInBounds j v, rfl, hb, ?_, hl, hm, by simp [hs], ?_⟩
    · simp [World.setCell, Array.getElem?_modify, hg]
    · rw [Array.toList_setIfInBounds, List.take_set, ht]

theorem feet_set {g k : Nat} {qs : List PN} {p : PN} (hk : k < qs.length) (ha : (feet g qs).Nodup) (hn : p.blocks.Nodup) (hd : ∀ b ∈ p.blocks, b ∉ feet g qs) : (feet g (qs.set k p)).Nodup ∧ ∀ b ∈ feet g (qs.set k p), b ∈ feet g qs ∨ b ∈ p.blocks := by
  obtain ⟨A, x, B, hq, hset⟩ : ∃ A x B, qs = A ++ x :: B ∧ qs.set k p = A ++ p :: B := ⟨_, _, _, set_split qs k p hk⟩
  rw [hset]
  clear hset hk
  subst hq
  unfold feet at *
  simp only [List.flatMap_append, List.flatMap_cons, List.nodup_cons, List.nodup_append, List.mem_append, List.mem_cons, not_or] at *
  obtain ⟨⟨a1, a2, a3⟩, a4, ⟨a5, a6, a7⟩, a8⟩ := ha
  refine ⟨⟨⟨a1, fun h => (hd g h).1 rfl, a3⟩, a4, ⟨hn, a6, fun b hb c hc e => (hd b hb).2.2.2 (e ▸ hc)⟩, fun b hb c hc e => ?_⟩, fun b hb => ?_⟩
  · rcases hc with hc | hc
    · exact (hd c hc).2.1 (e ▸ hb)
    · exact a8 b hb c (.inr hc) e
  · rcases hb with hb | hb | hb | hb
    · exact .inl (.inl hb)
    · exact .inl (.inr (.inl hb))
    · exact .inr hb
    · exact .inl (.inr (.inr (.inr hb)))

theorem NT.setNode {base g C k : Nat} {w : World} {qs : List PN} {p : PN} (h : NT base w g C qs) (hk : k < qs.length) (hp : p.own base w) (hn : p.blocks.Nodup) (hd : ∀ b ∈ p.blocks, b ∉ feet g qs) :
    NT base (((((w.setCell ⟨g, k * 5, none⟩ (.bool p.leaf)).setCell ⟨g, k * 5 + 1, none⟩ (.slice p.eA p.ents.length p.eC)).setCell ⟨g, k * 5 + 2, none⟩ (.slice p.kA p.keys.length p.kC)).setCell ⟨g, k * 5 + 3, none⟩ (.slice p.dA p.kids.length p.dC)).setCell ⟨g, k * 5 + 4, none⟩ (.slice p.bA p.buf.length p.bC)) g C (qs.set k p) := by
  have hg : g ∉ p.blocks := fun e => hd g e List.mem_cons_self
  have hs : ∀ b, b ≠ g → (((((w.setCell ⟨g, k * 5, none⟩ (.bool p.leaf)).setCell ⟨g, k * 5 + 1, none⟩ (.slice p.eA p.ents.length p.eC)).setCell ⟨g, k * 5 + 2, none⟩ (.slice p.kA p.keys.length p.kC)).setCell ⟨g, k * 5 + 3, none⟩ (.slice p.dA p.kids.length p.dC)).setCell ⟨g, k * 5 + 4, none⟩ (.slice p.bA p.buf.length p.bC)).heap[b]? = w.heap[b]? := fun b hb => set5_block w g (k * 5) _ _ _ _ _ hb
  refine ⟨?_, fun q hq => ?_, (feet_set hk h.apart hn hd).1, by simpa using h.z⟩
  · rw [← set_nodeAt qs k hk p, List.length_set]
    exact own_set (own_set (own_set (own_set (own_set h.own _ _) _ _) _ _) _ _) _ _
  · rcases List.mem_or_eq_of_mem_set hq with hq | rfl
    · refine (h.each q hq).of_blocks fun b hb => hs b ?_
      rintro rfl
      have := h.apart
      rw [feet, List.nodup_cons] at this
      exact this.1 (List.mem_flatMap.2 ⟨q, hq, hb⟩)
    · exact hp.of_blocks fun b hb => hs b (fun e => hg (e ▸ hb))

theorem flatN_one (ps : List PN) : ∀ u ∈ flatN ps, u.oneCell' = true := by
  induction ps with
  | nil => simp [flatN]
  | cons x r ih =>
    intro u hu
    simp only [flatN, PN.vals, List.cons_append, List.nil_append, List.mem_cons] at hu
    rcases hu with h | h | h | h | h | h
    all_goals first | (subst h; rfl) | exact ih u h

theorem newsN (W : World) (b : Nat) (t : TypeId) (p : PN) (h : RowL W b t p.vals) : ∀ j u, (flatN [p])[j]? = some u → W.cell? (Addr.add ⟨b, 0, none⟩ j) = some u := by
  intro j u hu
  rw [WideShapes.add_plain, Nat.zero_add, h.cell]
  simpa [flatN] using hu

theorem feet_append {g' : Nat} {g : Nat} {qs : List PN} {q : PN} (ha : (feet g qs).Nodup) (hn : q.blocks.Nodup) (hd : ∀ b ∈ q.blocks, b ∉ feet g qs) (hg : g' = g ∨ (g' ∉ feet g qs ∧ g' ∉ q.blocks)) : (feet g' (qs ++ [q])).Nodup := by
  unfold feet at *
  simp only [List.flatMap_append, List.flatMap_cons, List.flatMap_nil, List.append_nil, List.nodup_cons, List.nodup_append, List.mem_append, List.mem_cons, not_or] at *
  refine ⟨⟨?_, ?_⟩, ha.2, hn, fun b hb c hc e => (hd c hc).2 (e ▸ hb)⟩
  · rcases hg with rfl | hg
    · exact ha.1
    · exact hg.1.2
  · rcases hg with rfl | hg
    · intro h; exact (hd g' h).1 rfl
    · exact hg.2

end Go.Proofs.Ytlojfgdpmaigmac

/- A node more. -/
namespace Go.Proofs.Ytlojfgdpmaigmac
open Go.RowKit Plain

theorem newsA (w : World) (q : PN) (o1 : Obj) (t : TypeId) : ∀ j u, (flatN [q])[j]? = some u → ((w.alloc o1).drew.alloc (.cells #[.bool q.leaf, .slice q.eA q.ents.length q.eC, .slice q.kA q.keys.length q.kC, .slice q.dA q.kids.length q.dC, .slice q.bA q.buf.length q.bC] t)).cell? (Addr.add ⟨w.heap.size + 1, 0, none⟩ j) = some u := by
  have h := rowL_alloc (w.alloc o1).drew q.vals t
  have e : (w.alloc o1).drew.heap.size = w.heap.size + 1 := by simp
  rw [e] at h
  exact newsN _ _ _ q h

theorem add_end {base tb g C g' C' : Nat} {qs : List PN} {root : Int} {q : PN} {w W w1 : World} (hT : TB base w tb g C qs root) (hq : q.own base w) (hqn : q.blocks.Nodup) (hqd : ∀ b ∈ q.blocks, b ∉ feet g qs) (hqt : tb ∉ q.blocks) (hz : (qs.length + 1) * 104 ≤ 140737488351232)
    (hW : Below w.heap.size w W) (hown : w1.ownsRow base 62 5 (.slice (some ⟨g', 0, none⟩) (qs.length + 1) C') (qs.length + 1) (flatN qs ++ flatN [q])) (hgrow : W.grownBy w1 (Value.slice (some ⟨g, 0, none⟩) qs.length C).ownBlock) (hat : (Value.slice (some ⟨g, 0, none⟩) qs.length C).ownBlock = some g' ∨ g' = w.heap.size + 2) :
    TB base (w1.setCell ⟨tb, 0, none⟩ (.slice (some ⟨g', 0, none⟩) (qs.length + 1) C')) tb g' C' (qs ++ [q]) root ∧ Kept [tb, g] w (w1.setCell ⟨tb, 0, none⟩ (.slice (some ⟨g', 0, none⟩) (qs.length + 1) C')) ∧ (g' = g ∨ w.heap.size ≤ g') := by
  have hat' : g' = g ∨ g' = w.heap.size + 2 := by
    rcases hat with h | h
    · left; simpa [Value.ownBlock] using h.symm
    · exact .inr h
  have htg : tb ≠ g := fun e => hT.ne (e ▸ List.mem_cons_self)
  have htl := hT.box.lt
  have hk1 : ∀ k, k < w.heap.size → k ≠ g → w1.heap[k]? = w.heap[k]? := fun k hk hne => (hgrow.block k (Nat.lt_of_lt_of_le hk hW.size) (by simpa [Value.ownBlock] using hne)).trans (hW.block k hk)
  have hk2 : ∀ k, k ≠ tb → (w1.setCell ⟨tb, 0, none⟩ (.slice (some ⟨g', 0, none⟩) (qs.length + 1) C')).heap[k]? = w1.heap[k]? := fun k hne => Below.heap_setCell _ _ _ _ hne
  have hg't : g' ≠ tb := by rcases hat' with rfl | rfl <;> omega
  have hfl := hT.nt.lt
  have hap := hT.nt.apart
  have hgn : g ∉ qs.flatMap PN.blocks := by rw [feet, List.nodup_cons] at hap; exact hap.1
  refine ⟨⟨⟨?_, fun x hx => ?_, ?_, by simpa using hz⟩, ?_, ?_, hT.hb⟩, ⟨hgrow.os.trans hW.os, hgrow.tape.trans hW.tape, hgrow.output.trans hW.output, ?_, fun k hk hx => ?_⟩, by omega⟩
  · rw [flatN_append, List.length_append]
    exact own_of_block hown fun k hk => hk2 k (by have : g' = k := (by simpa [Value.ownBlock] using hk); omega)
  · rcases List.mem_append.1 hx with hx | hx
    · refine (hT.nt.each x hx).of_blocks fun k hk => ?_
      have hm : k ∈ feet g qs := List.mem_cons_of_mem _ (List.mem_flatMap.2 ⟨x, hx, hk⟩)
      rw [hk2 k (fun e => hT.ne (e ▸ hm)), hk1 k (hfl k hm).2 (fun e => hgn (e ▸ List.mem_flatMap.2 ⟨x, hx, hk⟩))]
    · obtain rfl : x = q := by simpa using hx
      refine hq.of_blocks fun k hk => ?_
      rw [hk2 k (fun e => hqt (e ▸ hk)), hk1 k (hq.lt k hk).2 (fun e => hqd k hk (e ▸ List.mem_cons_self))]
  · refine feet_append hap hqn hqd ?_
    rcases hat' with h | h
    · exact .inl h
    · refine .inr ⟨fun e => ?_, fun e => ?_⟩
      · have := (hfl _ e).2; omega
      · have := (hq.lt _ e).2; omega
  · have hr : RowL w1 tb 26 [.slice (some ⟨g, 0, none⟩) qs.length C, .int .i64 root] := hT.box.of_block (hk1 tb htl htg)
    rw [List.length_append]
    exact hr.set 0 _
  · unfold feet
    simp only [List.flatMap_append, List.flatMap_cons, List.flatMap_nil, List.append_nil, List.mem_cons, List.mem_append, not_or]
    refine ⟨fun e => hg't e.symm, fun e => hT.ne (List.mem_cons_of_mem _ e), hqt⟩
  · have h1 := hgrow.size
    have h2 := hW.size
    simp
    omega
  · simp only [List.mem_cons, List.not_mem_nil, or_false, not_or] at hx
    rw [hk2 k hx.1, hk1 k hk hx.2]

set_option maxRecDepth 20000 in
set_option maxHeartbeats 4000000 in
theorem add_any (base tb g C : Nat) (qs : List PN) (root : Int) (q : PN) (w : World) (hT : TB base w tb g C qs root) (hq : q.own base w) (hqn : q.blocks.Nodup) (hqd : ∀ b ∈ q.blocks, b ∉ feet g qs) (hqt : tb ∉ q.blocks) (hz : (qs.length + 1) * 104 ≤ 140737488351232) (hB : base ≤ w.heap.size) :
    Calls Try.prog 49 #[.pointer (some ⟨tb, 0, none⟩), .agg #[.bool q.leaf, .slice q.eA q.ents.length q.eC, .slice q.kA q.keys.length q.kC, .slice q.dA q.kids.length q.dC, .slice q.bA q.buf.length q.bC]] w
      fun e w' => e = .returned (.int .i64 (qs.length : Int)) ∧ ∃ g' C', TB base w' tb g' C' (qs ++ [q]) root ∧ Kept [tb, g] w w' ∧ (g' = g ∨ w.heap.size ≤ g') := by
  obtain ⟨i0, hi0, hz0, hz1, hz2⟩ := info_parts infoN
  have own := hT.nt.own
  have HT : Hid (TB base w tb g C qs root) := hT
  have c0 := hT.box.cell 0
  have c1 := hT.box.cell 1
  have fz := hT.box.frozen
  have tlt := hT.box.lt
  have glt := hT.nt.glt.2
  simp only [List.getElem?_cons_zero, List.getElem?_cons_succ] at c0 c1
  have HN : Hid (tb ≠ g) := fun e => hT.ne (e ▸ List.mem_cons_self)
  have HM : Hid (some tb ≠ (Value.slice (some ⟨g, 0, none⟩) qs.length C).ownBlock) := fun e => HN.out (by simpa [Value.ownBlock] using e)
  have hb2 : ∀ o1 o2 : Obj, Below w.heap.size w ((w.alloc o1).drew.alloc o2) := fun o1 o2 => (((Below.refl _ _).alloc (Nat.le_refl _) _).drew).alloc (by simp) _
  clear hT
  go_enter Try.func49, Try.ntmps49
  go_wp2_with fail
  go_region_law (refine step_append_lies _ rfl (.tmp 9) (.tmp 11) 24 rfl base 62 i0 _ 5 104 Try.underlying24 hi0 hz0 hz1 hz2 rfl (by decide) (.slice (some ⟨g, 0, none⟩) qs.length C) qs.length (flatN qs) (by simp [Act.eval]) (own_next own ((((Below.refl _ _).alloc (Nat.le_refl _) _).drew).alloc (by simp) _)) ⟨w.heap.size + 1, 0, none⟩ 1 1 (flatN [q]) (by simp [Act.eval]) rfl (newsA w q _ _) (flatN_one _) (by decide) (by unfold maxLen; omega) (by omega) (by simp; omega) (w.heap.size + 2) (by simp) ?_; intro g' C' w1 hown1 hgrow1 hat1 hlt1; have cv1 : w1.cell? ⟨tb, 0, none⟩ = some (.slice (some ⟨g, 0, none⟩) qs.length C) := (hgrow1.cell_far ⟨tb, 0, none⟩ (by simp; omega) HM.out).trans ((hb2 _ _).cell (p := ⟨tb, 0, none⟩) tlt |>.trans c0); have fv1 : w1.frozen? ⟨tb, 0, none⟩ = false := (hgrow1.frozen_far ⟨tb, 0, none⟩ (by simp; omega) HM.out).trans ((hb2 _ _).frozen (p := ⟨tb, 0, none⟩) tlt |>.trans (fz 0)); have HR := hideC (And.intro hown1 (And.intro hgrow1 hat1)); clear hown1 hgrow1 hat1)
  all_goals
    go_wp2
    go_ret
    obtain ⟨hown1, hgrow1, hat1⟩ := HR.out
    have R := add_end HT.out hq hqn hqd hqt hz (hb2 _ _) hown1 hgrow1 hat1
    exact ⟨ret_int (by omega), _, _, R⟩

end Go.Proofs.Ytlojfgdpmaigmac

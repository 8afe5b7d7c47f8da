/- A node more. -/
import Derived.Test.YtmcbjpaknffgkabOwnMem
import Derived.Deep.RegionLaw
namespace Go.Proofs.Ytmcbjpaknffgkab
open Go.RowKit Plain

theorem newsA (w : World) (q : PN) (o1 : Obj) (t : TypeId) : ∀ j u, (flatN [q])[j]? = some u → ((w.alloc o1).drew.alloc (.cells #[.bool q.leaf, .slice q.eA q.ents.length q.eC, .slice q.kA q.keys.length q.kC, .slice q.dA q.kids.length q.dC, .slice q.bA q.buf.length q.bC] t)).cell? (Addr.add ⟨w.heap.size + 1, 0, none⟩ j) = some u := by
  have h := rowL_alloc (w.alloc o1).drew q.vals t
  have e : (w.alloc o1).drew.heap.size = w.heap.size + 1 := by simp
  rw [e] at h
  exact newsN _ _ _ q h

theorem add_end {base tb g C g' C' : Nat} {qs : List PN} {root : Int} {q : PN} {w W w1 : World} (hT : TB base w tb g C qs root) (hq : q.own base w) (hqn : q.blocks.Nodup) (hqd : ∀ b ∈ q.blocks, b ∉ feet g qs) (hqt : tb ∉ q.blocks) (hz : (qs.length + 1) * 104 ≤ 140737488351232)
    (hW : Below w.heap.size w W) (hown : w1.ownsRow base 58 5 (.slice (some ⟨g', 0, none⟩) (qs.length + 1) C') (qs.length + 1) (flatN qs ++ flatN [q])) (hgrow : W.grownBy w1 (Value.slice (some ⟨g, 0, none⟩) qs.length C).ownBlock) (hat : (Value.slice (some ⟨g, 0, none⟩) qs.length C).ownBlock = some g' ∨ g' = w.heap.size + 2) :
    TB base (w1.setCell ⟨tb, 0, none⟩ (.slice (some ⟨g', 0, none⟩) (qs.length + 1) C')) tb g' C' (qs ++ [q]) root ∧ Kept [tb, g] w (w1.setCell ⟨tb, 0, none⟩ (.slice (some ⟨g', 0, none⟩) (qs.length + 1) C')) ∧ (g' = g ∨ w.heap.size ≤ g') := by
  have hat' : g' = g ∨ g' = w.heap.size + 2 := by
    rcases hat with h | h
    · left; simpa [Value.ownBlock] using h.symm
    · exact .inr h
  have htg : tb ≠ g := fun e => hT.ne (e ▸ List.mem_cons_self)
  have htl := hT.box.lt
  have hk1 : ∀ k, k < w.heap.size → k ≠ g → w1.heap[k]? = w.heap[k]? := fun k hk hne => (hgrow.block k (Nat.lt_of_lt_of_le hk hW.size) (by simpa [Value.ownBlock] using hne)).trans (hW.block k hk)
  have hk2 : ∀ k, k ≠ tb → (w1.setCell ⟨tb, 0, none⟩ (.slice (some ⟨g', 0, none⟩) (qs.length + 1) C')).heap[k]? = w1.heap[k]? := fun k hne => Below.heap_setCell _ _ _ _ hne
  have hg't : g' ≠ tb := by rcases hat' with rfl | rfl <;> omega
  have hfl := hT.nt.lt
  have hap := hT.nt.apart
  have hgn : g ∉ qs.flatMap PN.blocks := by rw [feet, List.nodup_cons] at hap; exact hap.1
  refine ⟨⟨⟨?_, fun x hx => ?_, ?_, by simpa using hz⟩, ?_, ?_, hT.hb⟩, ⟨hgrow.os.trans hW.os, hgrow.tape.trans hW.tape, hgrow.output.trans hW.output, ?_, fun k hk hx => ?_⟩, by omega⟩
  · rw [flatN_append, List.length_append]
    exact own_of_block hown fun k hk => hk2 k (by have : g' = k := (by simpa [Value.ownBlock] using hk); omega)
  · rcases List.mem_append.1 hx with hx | hx
    · refine (hT.nt.each x hx).of_blocks fun k hk => ?_
      have hm : k ∈ feet g qs := List.mem_cons_of_mem _ (List.mem_flatMap.2 ⟨x, hx, hk⟩)
      rw [hk2 k (fun e => hT.ne (e ▸ hm)), hk1 k (hfl k hm).2 (fun e => hgn (e ▸ List.mem_flatMap.2 ⟨x, hx, hk⟩))]
    · obtain rfl : x = q := by simpa using hx
      refine hq.of_blocks fun k hk => ?_
      rw [hk2 k (fun e => hqt (e ▸ hk)), hk1 k (hq.lt k hk).2 (fun e => hqd k hk (e ▸ List.mem_cons_self))]
  · refine feet_append hap hqn hqd ?_
    rcases hat' with h | h
    · exact .inl h
    · refine .inr ⟨fun e => ?_, fun e => ?_⟩
      · have := (hfl _ e).2; omega
      · have := (hq.lt _ e).2; omega
  · have hr : RowL w1 tb 24 [.slice (some ⟨g, 0, none⟩) qs.length C, .int .i64 root] := hT.box.of_block (hk1 tb htl htg)
    rw [List.length_append]
    exact hr.set 0 _
  · unfold feet
    simp only [List.flatMap_append, List.flatMap_cons, List.flatMap_nil, List.append_nil, List.mem_cons, List.mem_append, not_or]
    refine ⟨fun e => hg't e.symm, fun e => hT.ne (List.mem_cons_of_mem _ e), hqt⟩
  · have h1 := hgrow.size
    have h2 := hW.size
    simp
    omega
  · simp only [List.mem_cons, List.not_mem_nil, or_false, not_or] at hx
    rw [hk2 k hx.1, hk1 k hk hx.2]

set_option maxRecDepth 20000 in
set_option maxHeartbeats 4000000 in
theorem add_any (base tb g C : Nat) (qs : List PN) (root : Int) (q : PN) (w : World) (hT : TB base w tb g C qs root) (hq : q.own base w) (hqn : q.blocks.Nodup) (hqd : ∀ b ∈ q.blocks, b ∉ feet g qs) (hqt : tb ∉ q.blocks) (hz : (qs.length + 1) * 104 ≤ 140737488351232) (hB : base ≤ w.heap.size) :
    Calls Try.prog 62 #[.pointer (some ⟨tb, 0, none⟩), .agg #[.bool q.leaf, .slice q.eA q.ents.length q.eC, .slice q.kA q.keys.length q.kC, .slice q.dA q.kids.length q.dC, .slice q.bA q.buf.length q.bC]] w
      fun e w' => e = .returned (.int .i64 (qs.length : Int)) ∧ ∃ g' C', TB base w' tb g' C' (qs ++ [q]) root ∧ Kept [tb, g] w w' ∧ (g' = g ∨ w.heap.size ≤ g') := by
  obtain ⟨i0, hi0, hz0, hz1, hz2⟩ := info_parts infoN
  have own := hT.nt.own
  have HT : Hid (TB base w tb g C qs root) := hT
  have c0 := hT.box.cell 0
  have c1 := hT.box.cell 1
  have fz := hT.box.frozen
  have tlt := hT.box.lt
  have glt := hT.nt.glt.2
  simp only [List.getElem?_cons_zero, List.getElem?_cons_succ] at c0 c1
  have HN : Hid (tb ≠ g) := fun e => hT.ne (e ▸ List.mem_cons_self)
  have HM : Hid (some tb ≠ (Value.slice (some ⟨g, 0, none⟩) qs.length C).ownBlock) := fun e => HN.out (by simpa [Value.ownBlock] using e)
  have hb2 : ∀ o1 o2 : Obj, Below w.heap.size w ((w.alloc o1).drew.alloc o2) := fun o1 o2 => (((Below.refl _ _).alloc (Nat.le_refl _) _).drew).alloc (by simp) _
  clear hT
  go_enter Try.func62, Try.ntmps62
  go_wp2_with fail
  go_region_law (refine step_append_lies _ rfl (.tmp 9) (.tmp 11) 22 rfl base 58 i0 _ 5 104 Try.underlying22 hi0 hz0 hz1 hz2 rfl (by decide) (.slice (some ⟨g, 0, none⟩) qs.length C) qs.length (flatN qs) (by simp [Act.eval]) (own_next own ((((Below.refl _ _).alloc (Nat.le_refl _) _).drew).alloc (by simp) _)) ⟨w.heap.size + 1, 0, none⟩ 1 1 (flatN [q]) (by simp [Act.eval]) rfl (newsA w q _ _) (flatN_one _) (by decide) (by unfold maxLen; omega) (by omega) (by simp; omega) (w.heap.size + 2) (by simp) ?_; intro g' C' w1 hown1 hgrow1 hat1 hlt1; have cv1 : w1.cell? ⟨tb, 0, none⟩ = some (.slice (some ⟨g, 0, none⟩) qs.length C) := (hgrow1.cell_far ⟨tb, 0, none⟩ (by simp; omega) HM.out).trans ((hb2 _ _).cell (p := ⟨tb, 0, none⟩) tlt |>.trans c0); have fv1 : w1.frozen? ⟨tb, 0, none⟩ = false := (hgrow1.frozen_far ⟨tb, 0, none⟩ (by simp; omega) HM.out).trans ((hb2 _ _).frozen (p := ⟨tb, 0, none⟩) tlt |>.trans (fz 0)); have HR := hideC (And.intro hown1 (And.intro hgrow1 hat1)); clear hown1 hgrow1 hat1)
  all_goals
    go_wp2
    go_ret
    obtain ⟨hown1, hgrow1, hat1⟩ := HR.out
    have R := add_end HT.out hq hqn hqd hqt hz (hb2 _ _) hown1 hgrow1 hat1
    exact ⟨ret_int (by omega), _, _, R⟩

end Go.Proofs.Ytmcbjpaknffgkab

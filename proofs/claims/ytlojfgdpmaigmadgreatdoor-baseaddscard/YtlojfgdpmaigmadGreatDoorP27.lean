/- A tree in memory of one's own that grows: its nodes in a row that may move, each list in a block of its own. -/
import Derived.Test.YtlojfgdpmaigmadGreatDoorPartWalk
import Derived.Test.YtlojfgdpmaigmadGreatDoorP21
import Derived.Deep.AppendLies
namespace Go.Proofs.YtlojfgdpmaigmadGreatDoor
open Go.RowKit Plain

def feet (g : Nat) (qs : List PN) : List Nat := g :: qs.flatMap PN.blocks

structure NT (base : Nat) (w : World) (g C : Nat) (qs : List PN) : Prop where
  own : w.ownsRow base 70 5 (.slice (some ⟨g, 0, none⟩) qs.length C) qs.length (flatN qs)
  each : ∀ q ∈ qs, q.own base w
  apart : (feet g qs).Nodup
  z : qs.length * 104 ≤ 140737488351232

/-- .. and the variable that holds it. -/
structure TB (base : Nat) (w : World) (tb g C : Nat) (qs : List PN) (root : Int) : Prop where
  nt : NT base w g C qs
  box : RowL w tb 25 [.slice (some ⟨g, 0, none⟩) qs.length C, .int .i64 root]
  ne : tb ∉ feet g qs
  hb : base ≤ tb

section
variable {base g C : Nat} {w w' : World} {qs : List PN}

theorem NT.glt (h : NT base w g C qs) : base ≤ g ∧ g < w.heap.size := h.own.lt g rfl

theorem NT.lt (h : NT base w g C qs) : ∀ k ∈ feet g qs, base ≤ k ∧ k < w.heap.size := by
  intro k hk
  rcases List.mem_cons.1 hk with rfl | hk
  · exact h.glt
  · obtain ⟨q, hq, hk⟩ := List.mem_flatMap.1 hk
    exact (h.each q hq).lt k hk

theorem NT.of_blocks (h : NT base w g C qs) (hk : ∀ k ∈ feet g qs, w'.heap[k]? = w.heap[k]?) : NT base w' g C qs :=
  ⟨own_of_block h.own fun k hb => hk k (by simp [Value.ownBlock] at hb; subst hb; exact List.mem_cons_self), fun q hq => (h.each q hq).of_blocks fun k hb => hk k (List.mem_cons_of_mem _ (List.mem_flatMap.2 ⟨q, hq, hb⟩)), h.apart, h.z⟩

theorem NT.below {B : Nat} (h : NT base w g C qs) (hb : Below B w w') (hB : w.heap.size ≤ B) : NT base w' g C qs :=
  h.of_blocks fun k hk => hb.block k (Nat.lt_of_lt_of_le (h.lt k hk).2 hB)

theorem NT.cell (h : NT base w g C qs) {j : Nat} (hj : j < qs.length * 5) : w.cell? ⟨g, j, none⟩ = (flatN qs)[j]? := h.own.cellAt j hj

theorem NT.node (h : NT base w g C qs) {k : Nat} (hk : k < qs.length) : PnAt w g (k * 5) qs[k] := by
  have c : ∀ j, j < 5 → ∀ u, (qs[k]).vals[j]? = some u → w.cell? ⟨g, k * 5 + j, none⟩ = some u := fun j hj u hu => by
    rw [h.cell (by omega), flatN_get qs k j hk hj]; exact hu
  exact ⟨c 0 (by decide) _ rfl, c 1 (by decide) _ rfl, c 2 (by decide) _ rfl, c 3 (by decide) _ rfl, c 4 (by decide) _ rfl⟩

theorem NT.free (h : NT base w g C qs) (j : Nat) : w.frozen? ⟨g, j, none⟩ = false := h.own.frozenAt j

theorem NT.nodes (h : NT base w g C qs) : NodesAt w.heap.size w (some ⟨g, 0, none⟩) qs :=
  ⟨(own_ok h.own).1, fun _ hk => (h.each _ (List.getElem_mem hk)).ok, h.z⟩
end

theorem set_nodeAt (qs : List PN) (k : Nat) (hk : k < qs.length) (p : PN) :
    (((((flatN qs).set (k * 5) (.bool p.leaf)).set (k * 5 + 1) (.slice p.eA p.ents.length p.eC)).set (k * 5 + 2) (.slice p.kA p.keys.length p.kC)).set (k * 5 + 3) (.slice p.dA p.kids.length p.dC)).set (k * 5 + 4) (.slice p.bA p.buf.length p.bC) = flatN (qs.set k p) := by
  obtain ⟨e1, e2⟩ := set_split qs k p hk
  rw [e2]
  conv => lhs; rw [e1]
  have h := set_node (qs.take k) (qs.drop (k + 1)) qs[k] p
  rw [List.length_take, Nat.min_eq_left (Nat.le_of_lt hk)] at h
  exact h

theorem own_set {w : World} {base : Nat} {e : TypeId} {size n g C : Nat} {vs : List Value} (h : w.ownsRow base e size (.slice (some ⟨g, 0, none⟩) n C) n vs) (j : Nat) (v : Value) :
    (w.setCell ⟨g, j, none⟩ v).ownsRow base e size (.slice (some ⟨g, 0, none⟩) n C) n (vs.set j v) := by
  refine ⟨by simp [h.1], .inr ?_⟩
  rcases h.2 with ⟨hv, _⟩ | ⟨g', cap, cur, hv, hb, hg, hl, hm, hs, ht⟩
  · cases hv
  · cases hv
    refine ⟨g, C, cur.setIfInBounds j v, rfl, hb, ?_, hl, hm, by simp [hs], ?_⟩
    · simp [World.setCell, Array.getElem?_modify, hg]
    · rw [Array.toList_setIfInBounds, List.take_set, ht]

theorem feet_set {g k : Nat} {qs : List PN} {p : PN} (hk : k < qs.length) (ha : (feet g qs).Nodup) (hn : p.blocks.Nodup) (hd : ∀ b ∈ p.blocks, b ∉ feet g qs) : (feet g (qs.set k p)).Nodup ∧ ∀ b ∈ feet g (qs.set k p), b ∈ feet g qs ∨ b ∈ p.blocks := by
  obtain ⟨A, x, B, hq, hset⟩ : ∃ A x B, qs = A ++ x :: B ∧ qs.set k p = A ++ p :: B := ⟨_, _, _, set_split qs k p hk⟩
  rw [hset]
  clear hset hk
  subst hq
  unfold feet at *
  simp only [List.flatMap_append, List.flatMap_cons, List.nodup_cons, List.nodup_append, List.mem_append, List.mem_cons, not_or] at *
  obtain ⟨⟨a1, a2, a3⟩, a4, ⟨a5, a6, a7⟩, a8⟩ := ha
  refine ⟨⟨⟨a1, fun h => (hd g h).1 rfl, a3⟩, a4, ⟨hn, a6, fun b hb c hc e => (hd b hb).2.2.2 (e ▸ hc)⟩, fun b hb c hc e => ?_⟩, fun b hb => ?_⟩
  · rcases hc with hc | hc
    · exact (hd c hc).2.1 (e ▸ hb)
    · exact a8 b hb c (.inr hc) e
  · rcases hb with hb | hb | hb | hb
    · exact .inl (.inl hb)
    · exact .inl (.inr (.inl hb))
    · exact .inr hb
    · exact .inl (.inr (.inr (.inr hb)))

theorem NT.setNode {base g C k : Nat} {w : World} {qs : List PN} {p : PN} (h : NT base w g C qs) (hk : k < qs.length) (hp : p.own base w) (hn : p.blocks.Nodup) (hd : ∀ b ∈ p.blocks, b ∉ feet g qs) :
    NT base (((((w.setCell ⟨g, k * 5, none⟩ (.bool p.leaf)).setCell ⟨g, k * 5 + 1, none⟩ (.slice p.eA p.ents.length p.eC)).setCell ⟨g, k * 5 + 2, none⟩ (.slice p.kA p.keys.length p.kC)).setCell ⟨g, k * 5 + 3, none⟩ (.slice p.dA p.kids.length p.dC)).setCell ⟨g, k * 5 + 4, none⟩ (.slice p.bA p.buf.length p.bC)) g C (qs.set k p) := by
  have hg : g ∉ p.blocks := fun e => hd g e List.mem_cons_self
  have hs : ∀ b, b ≠ g → (((((w.setCell ⟨g, k * 5, none⟩ (.bool p.leaf)).setCell ⟨g, k * 5 + 1, none⟩ (.slice p.eA p.ents.length p.eC)).setCell ⟨g, k * 5 + 2, none⟩ (.slice p.kA p.keys.length p.kC)).setCell ⟨g, k * 5 + 3, none⟩ (.slice p.dA p.kids.length p.dC)).setCell ⟨g, k * 5 + 4, none⟩ (.slice p.bA p.buf.length p.bC)).heap[b]? = w.heap[b]? := fun b hb => set5_block w g (k * 5) _ _ _ _ _ hb
  refine ⟨?_, fun q hq => ?_, (feet_set hk h.apart hn hd).1, by simpa using h.z⟩
  · rw [← set_nodeAt qs k hk p, List.length_set]
    exact own_set (own_set (own_set (own_set (own_set h.own _ _) _ _) _ _) _ _) _ _
  · rcases List.mem_or_eq_of_mem_set hq with hq | rfl
    · refine (h.each q hq).of_blocks fun b hb => hs b ?_
      rintro rfl
      have := h.apart
      rw [feet, List.nodup_cons] at this
      exact this.1 (List.mem_flatMap.2 ⟨q, hq, hb⟩)
    · exact hp.of_blocks fun b hb => hs b (fun e => hg (e ▸ hb))

theorem flatN_one (ps : List PN) : ∀ u ∈ flatN ps, u.oneCell' = true := by
  induction ps with
  | nil => simp [flatN]
  | cons x r ih =>
    intro u hu
    simp only [flatN, PN.vals, List.cons_append, List.nil_append, List.mem_cons] at hu
    rcases hu with h | h | h | h | h | h
    all_goals first | (subst h; rfl) | exact ih u h

theorem newsN (W : World) (b : Nat) (t : TypeId) (p : PN) (h : RowL W b t p.vals) : ∀ j u, (flatN [p])[j]? = some u → W.cell? (Addr.add ⟨b, 0, none⟩ j) = some u := by
  intro j u hu
  rw [WideShapes.add_plain, Nat.zero_add, h.cell]
  simpa [flatN] using hu

theorem feet_append {g' : Nat} {g : Nat} {qs : List PN} {q : PN} (ha : (feet g qs).Nodup) (hn : q.blocks.Nodup) (hd : ∀ b ∈ q.blocks, b ∉ feet g qs) (hg : g' = g ∨ (g' ∉ feet g qs ∧ g' ∉ q.blocks)) : (feet g' (qs ++ [q])).Nodup := by
  unfold feet at *
  simp only [List.flatMap_append, List.flatMap_cons, List.flatMap_nil, List.append_nil, List.nodup_cons, List.nodup_append, List.mem_append, List.mem_cons, not_or] at *
  refine ⟨⟨?_, ?_⟩, ha.2, hn, fun b hb c hc e => (hd c hc).2 (e ▸ hb)⟩
  · rcases hg with rfl | hg
    · exact ha.1
    · exact hg.1.2
  · rcases hg with rfl | hg
    · intro h; exact (hd g' h).1 rfl
    · exact hg.2

end Go.Proofs.YtlojfgdpmaigmadGreatDoor

/- The document's entries: a list in new memory. -/
namespace Go.Proofs.YtlojfgdpmaigmadGreatDoor
open Go.RowKit Plain

theorem newsE1 {w : World} {vb : Nat} {x : En} (hv : RowL w vb 63 x.vals) : ∀ j u, (flatE [x])[j]? = some u → w.cell? (Addr.add ⟨vb, 0, none⟩ j) = some u := by
  intro j u hu
  rw [WideShapes.add_plain, Nat.zero_add, hv.cell]
  simpa [flatE] using hu

set_option maxRecDepth 20000 in
set_option maxHeartbeats 4000000 in
theorem entries_any (A : Option Addr) (C : Nat) (xs : List En) (w : World) (h : RowAt w.heap.size w A (flatE xs)) (hz : xs.length * 56 ≤ 140737488351232) :
    Calls Tryz.prog 30 #[.slice A xs.length C] w fun e w' => ∃ v, e = .returned v ∧ w'.ownsRow w.heap.size 63 7 v xs.length (flatE xs) ∧ Below w.heap.size w w' := by
  obtain ⟨i0', hi0, hz0, hz1, hz2⟩ := info_parts infoE
  go_enter Tryz.func30, Tryz.ntmps30
  go_wp2_with fail
  go_loopw [3, 4] (fun vo vi wr => ∃ i : Nat, i ≤ xs.length ∧ vi = .int .i64 i ∧ Hid (wr.ownsRow w.heap.size 63 7 vo i (flatE (xs.take i)) ∧ Below w.heap.size w wr)) (fun _ vi _ => xs.length - (intOf vi).toNat)
  case atStart => exact ⟨0, Nat.zero_le _, rfl, World.ownsRow_nil _ _ _ _, Below.refl _ _⟩
  case round =>
    obtain ⟨i, hil, rfl, HI⟩ := hrel
    obtain ⟨hown0, hbw⟩ := HI.out
    by_cases hlt : i < xs.length
    · obtain ⟨b, o, rfl, hbl, hen⟩ := (h.below hbw (Nat.le_refl _)).en hlt
      obtain ⟨x, hx⟩ : ∃ x, xs[i] = x := ⟨_, rfl⟩
      rw [hx] at hen
      obtain ⟨c0, c1, c2, c3, c4, c5, c6⟩ := hen
      have hbr : b < wr.heap.size := Nat.lt_of_lt_of_le hbl hbw.size
      have hsz := hbw.size
      have i0 : (0 : Int) ≤ (i : Int) := by omega
      have i1 : (i : Int) < (xs.length : Int) := by omega
      have HX : Hid (flatE (xs.take (i + 1)) = flatE (xs.take i) ++ flatE [x]) := by
        show _ = _
        rw [List.take_succ_eq_append_getElem hlt, hx, flatE_append]
      have HO := hideC hown0
      clear hown0 hx
      go_wp2_with (at_builtin; refine wpList_append_lies _ rfl _ _ 35 rfl w.heap.size 63 i0' _ 7 56 Tryz.underlying35 hi0 hz0 hz1 hz2 rfl (by decide) u3 i (flatE (xs.take i)) rfl (own_next HO.out ((Below.refl _ _).alloc (Nat.le_refl _) _)) ⟨wr.heap.size, 0, none⟩ 1 1 (flatE [x]) rfl rfl (newsE1 (rowL_alloc wr x.vals _)) (flatE_one _) (by decide) (by unfold maxLen; omega) (by omega) (by simp; omega) (wr.heap.size + 1) (by simp) ?_; intro g' cap w4 hown hgrow hat hlt')
      refine ⟨⟨i + 1, by omega, by go_num, ?_, ?_⟩, by simp [intOf]; omega⟩
      · rw [HX.out]
        exact hown
      · refine (hbw.alloc hsz _).grown hgrow (Nat.le_trans hsz (by simp)) fun b' hb' => ?_
        exact (HO.out.lt b' hb').1
    · obtain rfl : i = xs.length := by omega
      have hlti : ¬ ((xs.length : Int) < (xs.length : Int)) := by omega
      rw [List.take_length] at hown0
      go_wp2_with fail
      go_ret
      exact ⟨_, rfl, hown0, hbw⟩

end Go.Proofs.YtlojfgdpmaigmadGreatDoor

/- The document's TreeCopy: what stands while it copies. -/
namespace Go.Proofs.YtlojfgdpmaigmadGreatDoor
open Go.RowKit Plain

/-- append(nil, ks...) at a step of a region that draws its order, whatever the list. -/
theorem step_app_nilI {ops : Array Oper} {o : Oper} {a : Act} {w : World} {K : Act → World → Prop} {Q : Exit → Act → World → Prop} {E : Prop} (hgd : o.guard = none) (s x : Operand)
    (ho : o.op = .call { callee := .builtin .append, args := #[s, x], argTypes := #[68, 68] }) (A : Option Addr) (C : Nat) (ks : List Int) (hs : a.eval s = .slice none 0 0) (hx : a.eval x = .slice A ks.length C)
    (hr : RowAt w.heap.size w A (ints ks)) (hn : A = none → C = 0) (hz : ks.length * 8 ≤ 140737488351232)
    (h : ∀ A' C' w', w'.ownsRow w.heap.size 3 1 (.slice A' ks.length C') ks.length (ints ks) → Below w.heap.size w w' → K (a.put o.dst (.slice A' ks.length C')) w') :
    if Region.wanted o (yielded ops a.tmps) = true then Oper.wp Tryz.prog o a w K Q else E := by
  have hw : Region.wanted o (yielded ops a.tmps) = true := by simp [Region.wanted, hgd]
  rw [if_pos hw]
  obtain ⟨i0, hi, hz0, hz1, hz2⟩ := info_parts infoInt
  cases A with
  | none =>
    have hk : ks = [] := by
      rcases hr with hr | ⟨b, o', hA, _⟩
      · cases ks with
        | nil => rfl
        | cons y r => simp [ints] at hr
      · cases hA
    subst hk
    obtain rfl := hn rfl
    have hrun := run_append_owned_none (P := Tryz.prog) (w := w) w.heap.size 68 o.type 3 i0 1 Tryz.underlying68 hi (.slice none 0 0) 0 [] (World.ownsRow_nil _ _ _ _)
    have hx' : a.eval x = .slice none 0 0 := hx
    have h' := h none 0 w (World.ownsRow_nil _ _ _ _) (Below.refl _ _)
    unfold Oper.wp
    simp [execOp, ho, resolve, invoke, builtin, hs, hx', hrun, Result.andThen]
    exact h'
  | some ad =>
    refine wp_append_own (P := Tryz.prog) w s x 68 ho w.heap.size 3 i0 _ 1 8 Tryz.underlying68 hi hz0 hz1 hz2 rfl (by decide) (.slice none 0 0) 0 [] hs (World.ownsRow_nil _ _ _ _) ad ks.length C (ints ks) hx (by simp [ints]) (news_of hr) (ints_one ks) (by unfold maxLen; omega) (by omega) (Nat.le_refl _) ?_
    intro v' w' hown hg _
    rw [Nat.zero_add, List.nil_append] at hown
    obtain ⟨A', C', rfl, -⟩ := own_row hown
    exact h A' C' w' hown ((Below.refl _ _).grown hg (Nat.le_refl _) (by intro k hk; cases hk))

/-- What stands where a round begins. -/
structure CopT (w wr : World) (A : Option Addr) (C : Nat) (r : Int) (n : Nat) (Av : Option Addr) (Cv : Nat) (qs : List PN) : Prop where
  bel : Below w.heap.size w wr
  src : RowL wr w.heap.size 25 [.slice A n C, .int .i64 r]
  res : RowL wr (w.heap.size + 1) 25 [.slice none 0 0, .int .i64 0]
  out : RowL wr (w.heap.size + 1 + 1) 25 [.slice Av qs.length Cv, .int .i64 r]
  own : wr.ownsRow (w.heap.size + 3) 70 5 (.slice Av qs.length Cv) qs.length (flatN qs)
  each : ∀ q ∈ qs, q.own (w.heap.size + 3) wr
  ap : ∀ k, (Value.slice Av qs.length Cv).ownBlock = some k → k ∉ qs.flatMap PN.blocks

theorem CopT.start (w : World) (A : Option Addr) (C : Nat) (r : Int) (n : Nat) :
    CopT w (((w.alloc (.cells #[.slice A n C, .int .i64 r] 25)).alloc (.cells #[.slice none 0 0, .int .i64 0] 25)).alloc (.cells #[.slice none 0 0, .int .i64 r] 25)) A C r n none 0 [] := by
  have s1 : (w.alloc (.cells #[.slice A n C, .int .i64 r] 25)).heap.size = w.heap.size + 1 := by simp
  have s2 : ((w.alloc (.cells #[.slice A n C, .int .i64 r] 25)).alloc (.cells #[.slice none 0 0, .int .i64 0] 25)).heap.size = w.heap.size + 1 + 1 := by simp
  refine ⟨(((Below.refl _ _).alloc (Nat.le_refl _) _).alloc (by simp) _).alloc (by simp; omega) _, ?_, ?_, ?_, World.ownsRow_nil _ _ _ _, by simp, by simp⟩
  · show _ = _
    rw [Below.heap_alloc _ _ _ (by omega), Below.heap_alloc _ _ _ (by omega)]; exact heap_alloc_new w _
  · show _ = _
    rw [Below.heap_alloc _ _ _ (by omega), ← s1]; exact heap_alloc_new _ _
  · show _ = _
    rw [← s2]; exact heap_alloc_new _ _

theorem CopT.below {w wr w4 : World} {A Av : Option Addr} {C Cv n : Nat} {r : Int} {qs : List PN} (h : CopT w wr A C r n Av Cv qs) (hb : Below wr.heap.size wr w4) : CopT w w4 A C r n Av Cv qs :=
  ⟨nextB h.bel (Nat.le_refl _) hb, h.src.below hb h.src.lt, h.res.below hb h.res.lt, h.out.below hb h.out.lt, own_next h.own hb, fun q hq => (h.each q hq).of_blocks fun k hk => hb.block k ((h.each q hq).lt k hk).2, h.ap⟩

theorem own_block_lt {w : World} {base : Nat} {e : TypeId} {size n C : Nat} {A : Option Addr} {vs : List Value} (h : w.ownsRow base e size (.slice A n C) n vs) : ∀ k, (Value.slice A n C).ownBlock = some k → base ≤ k ∧ k < w.heap.size := fun k hk => h.lt k hk

theorem CopT.step {w wr w4 w5 : World} {A Av : Option Addr} {C Cv n g' C' : Nat} {r : Int} {qs : List PN} {q : PN} {o : Obj} (h : CopT w wr A C r n Av Cv qs) (hb : Below wr.heap.size wr w4) (hq : q.own wr.heap.size w4)
    (hown : w5.ownsRow (w.heap.size + 3) 70 5 (.slice (some ⟨g', 0, none⟩) (qs.length + 1) C') (qs.length + 1) (flatN qs ++ flatN [q])) (hgrow : (w4.alloc o).grownBy w5 (Value.slice Av qs.length Cv).ownBlock) (hat : (Value.slice Av qs.length Cv).ownBlock = some g' ∨ g' = w4.heap.size + 1) :
    CopT w (w5.setCell ⟨w.heap.size + 1 + 1, 0, none⟩ (.slice (some ⟨g', 0, none⟩) (qs.length + 1) C')) A C r n (some ⟨g', 0, none⟩) C' (qs ++ [q]) := by
  have hov := own_block_lt h.own
  have hl := h.out.lt
  have hsz := hb.size
  have h4 := h.below hb
  have hl4 := h4.out.lt
  have hk1 : ∀ k, k < w4.heap.size → (Value.slice Av qs.length Cv).ownBlock ≠ some k → w5.heap[k]? = w4.heap[k]? := fun k hk hne => (hgrow.block k (by simp; omega) (fun e => hne e.symm)).trans (Below.heap_alloc _ _ _ hk)
  have hk2 : ∀ k, k ≠ w.heap.size + 1 + 1 → (w5.setCell ⟨w.heap.size + 1 + 1, 0, none⟩ (.slice (some ⟨g', 0, none⟩) (qs.length + 1) C')).heap[k]? = w5.heap[k]? := fun k hne => Below.heap_setCell _ _ _ _ hne
  have hlow : ∀ k, k < w.heap.size + 3 → w5.heap[k]? = w4.heap[k]? := fun k hk => hk1 k (by omega) (fun e => by have := (hov k e).1; omega)
  have hg3 : w.heap.size + 3 ≤ g' := by
    rcases hat with e | e
    · exact (hov _ e).1
    · omega
  have hold : ∀ x ∈ qs, ∀ k ∈ x.blocks, w.heap.size + 3 ≤ k ∧ k < wr.heap.size := fun x hx => (h.each x hx).lt
  have hnew := hq.lt
  have hq3 : q.own (w.heap.size + 3) w4 := ⟨own_mono hq.e (by omega), own_mono hq.k (by omega), own_mono hq.d (by omega), own_mono hq.b (by omega), hq.ez, hq.kz, hq.dz, hq.bz⟩
  refine ⟨?_, ?_, ?_, ?_, ?_, fun x hx => ?_, fun k hk => ?_⟩
  · refine ⟨hgrow.os.trans h4.bel.os, hgrow.tape.trans h4.bel.tape, hgrow.output.trans h4.bel.output, ?_, fun k hk => ?_⟩
    · have h1 := hgrow.size
      have h2 := h4.bel.size
      simp at h1
      simp
      omega
    · rw [hk2 k (by omega), hlow k (by omega)]
      exact h4.bel.block k hk
  · exact h4.src.of_block ((hk2 _ (by omega)).trans (hlow _ (by omega)))
  · exact h4.res.of_block ((hk2 _ (by omega)).trans (hlow _ (by omega)))
  · have hr : RowL w5 (w.heap.size + 1 + 1) 25 [.slice Av qs.length Cv, .int .i64 r] := h4.out.of_block (hlow _ (by omega))
    rw [List.length_append]
    exact hr.set 0 _
  · rw [flatN_append, List.length_append]
    exact own_of_block hown fun k hk => hk2 k (by have : g' = k := (by simpa [Value.ownBlock] using hk); omega)
  · rcases List.mem_append.1 hx with hx | hx
    · refine (h4.each x hx).of_blocks fun k hk => ?_
      have h1 := hold x hx k hk
      rw [hk2 k (by omega), hk1 k (by omega) (fun e => h.ap k e (List.mem_flatMap.2 ⟨x, hx, hk⟩))]
    · obtain rfl : x = q := by simpa using hx
      refine hq3.of_blocks fun k hk => ?_
      have h1 := hnew k hk
      rw [hk2 k (by omega), hk1 k (by omega) (fun e => by have := (hov k e).2; omega)]
  · have hgk : g' = k := by simpa [Value.ownBlock] using hk
    subst hgk
    simp only [List.flatMap_append, List.flatMap_cons, List.flatMap_nil, List.append_nil, List.mem_append, not_or]
    refine ⟨fun e => ?_, fun e => ?_⟩
    · rcases hat with h1 | h1
      · exact h.ap _ h1 e
      · obtain ⟨x, hx, hk⟩ := List.mem_flatMap.1 e
        have := (hold x hx _ hk).2
        omega
    · have h2 := hnew _ e
      rcases hat with h1 | h1
      · have := (hov _ h1).2; omega
      · omega

/-- Nodes in a row of their own, each list in a row of its own, or none. -/
structure OwnN (base : Nat) (w : World) (A : Option Addr) (C : Nat) (qs : List PN) : Prop where
  own : w.ownsRow base 70 5 (.slice A qs.length C) qs.length (flatN qs)
  each : ∀ q ∈ qs, q.own base w
  z : qs.length * 104 ≤ 140737488351232

theorem OwnN.keep {base C : Nat} {w w' : World} {A : Option Addr} {qs : List PN} (h : OwnN base w A C qs) (hk : ∀ k, base ≤ k → k < w.heap.size → w'.heap[k]? = w.heap[k]?) : OwnN base w' A C qs :=
  ⟨own_of_block h.own fun k hk' => hk k (h.own.lt k hk').1 (h.own.lt k hk').2, fun q hq => (h.each q hq).of_blocks fun b hb => hk b ((h.each q hq).lt b hb).1 ((h.each q hq).lt b hb).2, h.z⟩

theorem OwnN.nodes {base C : Nat} {w : World} {A : Option Addr} {qs : List PN} (h : OwnN base w A C qs) : NodesAt w.heap.size w A qs :=
  ⟨(own_ok h.own).1, fun _ hk => (h.each _ (List.getElem_mem hk)).ok, h.z⟩

theorem CopT.fin {w wr : World} {A Av : Option Addr} {C Cv n : Nat} {r : Int} {qs : List PN} (h : CopT w wr A C r n Av Cv qs) (hz : qs.length * 104 ≤ 140737488351232) (v0 v1 : Value) :
    OwnN (w.heap.size + 3) ((wr.setCell ⟨w.heap.size + 1, 0, none⟩ v0).setCell ⟨w.heap.size + 1, 1, none⟩ v1) Av Cv qs ∧ Below w.heap.size w ((wr.setCell ⟨w.heap.size + 1, 0, none⟩ v0).setCell ⟨w.heap.size + 1, 1, none⟩ v1) := by
  have hother : ∀ b, b ≠ w.heap.size + 1 → ((wr.setCell ⟨w.heap.size + 1, 0, none⟩ v0).setCell ⟨w.heap.size + 1, 1, none⟩ v1).heap[b]? = wr.heap[b]? := by
    intro b hbg
    simp only [Below.heap_setCell _ _ _ _ (show b ≠ (⟨w.heap.size + 1, _, none⟩ : Addr).block from hbg)]
  refine ⟨(⟨h.own, h.each, hz⟩ : OwnN (w.heap.size + 3) wr Av Cv qs).keep fun k hk _ => hother k (by omega), ?_⟩
  exact (h.bel.setCell (p := ⟨w.heap.size + 1, 0, none⟩) (by show _ ≤ w.heap.size + 1; omega) _).setCell (p := ⟨w.heap.size + 1, 1, none⟩) (by show _ ≤ w.heap.size + 1; omega) _

end Go.Proofs.YtlojfgdpmaigmadGreatDoor

/- The document's TreeCopy: the same nodes, in new memory. -/
namespace Go.Proofs.YtlojfgdpmaigmadGreatDoor
open Go.RowKit Plain

/-- The load of what the copy holds so far: by a name, so that the walk comes to it in each of its places (the region stores there in the end, so no one condition tells what it reads). -/
def ldOut : Op := .load 23 (.tmp 21)
theorem ldOut_fold : Op.load 23 (.tmp 21) = ldOut := rfl
theorem ldOut_open : ldOut = Op.load 23 (.tmp 21) := rfl
attribute [local go_sem] ldOut_open

theorem region_fold {P : Program} {id : Nat} {ops ops' : Array Oper} {Q : Exit → Act → World → Prop} {a : Act} {w : World} (h : ops = ops') (k : (Code.region id ops' true).wp P Q a w) : (Code.region id ops true).wp P Q a w := h ▸ k

set_option maxRecDepth 20000 in
set_option maxHeartbeats 8000000 in
theorem treeCopy_own (A : Option Addr) (C : Nat) (r : Int) (ps : List PN) (w : World) (h : NodesAt w.heap.size w A ps) :
    Calls Tryz.prog 11 #[.agg #[.slice A ps.length C, .int .i64 r]] w
      fun e w' => ∃ A' C' qs, e = .returned (.agg #[.slice A' qs.length C', .int .i64 r]) ∧ OwnN (w.heap.size + 3) w' A' C' qs ∧ qs.map PN.nd = ps.map PN.nd ∧ Below w.heap.size w w' := by
  have hz := h.z
  obtain ⟨j0, hi0, hz0, hz1, hz2⟩ := info_parts infoN
  have HS := hideC (CopT.start w A C r ps.length)
  go_enter Tryz.func11, Tryz.ntmps11
  go_wp2_with fail
  go_loopw [4] (fun i wr => ∃ k qs Av Cv, k ≤ ps.length ∧ i = .int .i64 (k : Nat) ∧ qs.length = k ∧ CopT w wr A C r ps.length Av Cv qs ∧ qs.map PN.nd = (ps.take k).map PN.nd) (fun i _ => ps.length - (intOf i).toNat)
  case atStart => exact ⟨0, [], none, 0, Nat.zero_le _, rfl, rfl, HS.out, by simp⟩
  case round =>
    obtain ⟨k, qs, Av, Cv, hk, rfl, hql, hat, hmap⟩ := hrel
    have s0 : wr.cell? ⟨w.heap.size, 0, none⟩ = some (.slice A ps.length C) := hat.src.cell 0
    have sl := hat.out.lt
    have hle : w.heap.size ≤ wr.heap.size := hat.bel.size
    by_cases hlt : k < ps.length
    · have hN := h.below hat.bel (Nat.le_refl _)
      obtain ⟨b, o, rfl, hbl, c0, c1, c2, c3, c4⟩ := hN.row.pn hlt
      have ok := hN.each k hlt
      have hnk : (ps.take (k + 1)).map PN.nd = (ps.take k).map PN.nd ++ [(ps[k]).nd] := by rw [List.take_succ_eq_append_getElem hlt, List.map_append]; rfl
      have HM : Hid (qs.map PN.nd = (ps.take k).map PN.nd ∧ (ps.take (k + 1)).map PN.nd = (ps.take k).map PN.nd ++ [(ps[k]).nd]) := ⟨hmap, hnk⟩
      clear hN hmap hnk HS
      generalize ps[k] = p at *
      obtain ⟨leaf, eA, eC, ents, kA, kC, keys, dA, dC, kids, bA, bC, buf⟩ := p
      simp only at c0 c1 c2 c3 c4
      obtain ⟨e1, k1, t1, f1, en, kn, dn, fn, ez, kz, dz, fz⟩ := ok
      simp only at e1 k1 t1 f1 en kn dn fn ez kz dz fz
      have hbr : b < wr.heap.size := by omega
      have HQ : Hid (qs.length = k) := hql
      have oc : wr.cell? ⟨w.heap.size + 1 + 1, 0, none⟩ = some (.slice Av k Cv) := by rw [← hql]; exact hat.out.cell 0
      have hown : Hid (wr.ownsRow (w.heap.size + 3) 70 5 (.slice Av k Cv) k (flatN qs)) := by rw [← hql]; exact hat.own
      have hov : Hid (∀ x, (Value.slice Av k Cv).ownBlock = some x → w.heap.size + 3 ≤ x ∧ x < wr.heap.size) := own_block_lt hown.out
      have of : ∀ j, wr.frozen? ⟨w.heap.size + 1 + 1, j, none⟩ = false := fun j => hat.out.frozen j
      have HAT := hideC hat
      clear hql hat
      have i0 : (0 : Int) ≤ (k : Int) := by omega
      have i1 : (k : Int) < (ps.length : Int) := by omega
      have n1 : ¬ wr.heap.size = w.heap.size + 1 + 1 := by omega
      have n2 : ¬ w.heap.size + 1 + 1 = wr.heap.size := by omega
      have n3 : w.heap.size + 1 + 1 < wr.heap.size + 1 := by omega
      have KS : ∀ (W : World) (j : Nat) (v : Value), (W.setCell ⟨w.heap.size + 1 + 1, 0, none⟩ v).cell? ⟨wr.heap.size, j, none⟩ = W.cell? ⟨wr.heap.size, j, none⟩ := fun W j v => World.cell?_setCell_far _ _ _ _ (fun e => n2 e)
      go_wp2_with fail
      refine region_fold (by simp only [ldOut_fold]; rfl) ?_
      go_region_held3 (fun w' => w'.cell? ⟨wr.heap.size, 0, none⟩ = some (.bool leaf) ∧ w'.cell? ⟨wr.heap.size, 1, none⟩ = some (.slice eA ents.length eC) ∧ w'.cell? ⟨wr.heap.size, 2, none⟩ = some (.slice kA keys.length kC) ∧ w'.cell? ⟨wr.heap.size, 3, none⟩ = some (.slice dA kids.length dC) ∧ w'.cell? ⟨wr.heap.size, 4, none⟩ = some (.slice bA buf.length bC)) (go_keep)
        (first
          | (go_at_call_of 30 eA; refine (entries_any _ _ _ _ (e1.go (((Below.refl _ _).alloc (Nat.le_refl _) _).drew) hle (Nat.le_refl _)) ez).mono ?_; rintro e w1 ⟨v1, rfl, o1, hb1⟩; obtain ⟨A1, C1, rfl, -⟩ := own_row o1; have G1 : Below wr.heap.size wr w1 := nextB (((Below.refl _ _).alloc (Nat.le_refl _) _).drew) (Nat.le_refl _) hb1; have T1 := (bcells (hb1.mono (show wr.heap.size + 1 ≤ _ by simp))).1; have Z1 : wr.heap.size + 1 ≤ w1.heap.size := Nat.le_trans (by simp) hb1.size; have O1 : w1.cell? ⟨w.heap.size + 1 + 1, 0, none⟩ = some (.slice Av k Cv) := (G1.cell (p := ⟨w.heap.size + 1 + 1, 0, none⟩) sl).trans oc)
          | (refine step_app_nilI rfl (.const (.slice none 0 0)) (.tmp 29) rfl kA kC keys (by simp [Act.eval]) (by simp [Act.eval]) (k1.go G1 hle (Nat.le_refl _)) kn kz ?_; intro A2 C2 w2 o2 hb2; have G2 : Below wr.heap.size wr w2 := nextB G1 (Nat.le_refl _) hb2; have T2 := (bcells (hb2.mono (show wr.heap.size + 1 ≤ _ by exact Z1))).1; have Z2 : wr.heap.size + 1 ≤ w2.heap.size := Nat.le_trans (Z1) hb2.size; have O2 : w2.cell? ⟨w.heap.size + 1 + 1, 0, none⟩ = some (.slice Av k Cv) := (G2.cell (p := ⟨w.heap.size + 1 + 1, 0, none⟩) sl).trans oc)
          | (refine step_app_nilI rfl (.const (.slice none 0 0)) (.tmp 32) rfl dA dC kids (by simp [Act.eval]) (by simp [Act.eval]) (t1.go G2 hle (Nat.le_refl _)) dn dz ?_; intro A3 C3 w3 o3 hb3; have G3 : Below wr.heap.size wr w3 := nextB G2 (Nat.le_refl _) hb3; have T3 := (bcells (hb3.mono (show wr.heap.size + 1 ≤ _ by exact Z2))).1; have Z3 : wr.heap.size + 1 ≤ w3.heap.size := Nat.le_trans (Z2) hb3.size; have O3 : w3.cell? ⟨w.heap.size + 1 + 1, 0, none⟩ = some (.slice Av k Cv) := (G3.cell (p := ⟨w.heap.size + 1 + 1, 0, none⟩) sl).trans oc)
          | (go_at_call_of 30 bA; refine (entries_any _ _ _ _ (f1.go G3 hle (Nat.le_refl _)) fz).mono ?_; rintro e w4 ⟨v4, rfl, o4, hb4⟩; obtain ⟨A4, C4, rfl, -⟩ := own_row o4; have G4 : Below wr.heap.size wr w4 := nextB G3 (Nat.le_refl _) hb4; have T4 := (bcells (hb4.mono (show wr.heap.size + 1 ≤ _ by exact Z3))).1; have Z4 : wr.heap.size + 1 ≤ w4.heap.size := Nat.le_trans (Z3) hb4.size; have O4 : w4.cell? ⟨w.heap.size + 1 + 1, 0, none⟩ = some (.slice Av k Cv) := (G4.cell (p := ⟨w.heap.size + 1 + 1, 0, none⟩) sl).trans oc; have OA4 : ∀ ob : Obj, (w4.alloc ob).cell? ⟨w.heap.size + 1 + 1, 0, none⟩ = some (.slice Av k Cv) := fun ob => ((((Below.refl w4.heap.size w4).alloc (Nat.le_refl _) ob).cell (p := ⟨w.heap.size + 1 + 1, 0, none⟩) (by show w.heap.size + 1 + 1 < w4.heap.size; omega))).trans O4)
          | (refine step_append_lies _ rfl (.tmp 22) (.tmp 38) 23 rfl (w.heap.size + 3) 70 j0 _ 5 104 Tryz.underlying23 hi0 hz0 hz1 hz2 rfl (by decide) (.slice Av k Cv) k (flatN qs) (by simp [Act.eval]) (own_next (own_next hown.out G4) ((Below.refl _ _).alloc (Nat.le_refl _) _)) ⟨w4.heap.size, 0, none⟩ 1 1 (flatN [⟨leaf, A1, C1, ents, A2, C2, keys, A3, C3, kids, A4, C4, buf⟩]) (by simp [Act.eval]) rfl (newsN _ _ _ _ (rowL_alloc w4 _ _)) (flatN_one _) (by decide) (by unfold maxLen; omega) (by omega) (by simp; omega) (w4.heap.size + 1) (by simp) ?_; intro g' C' w5 hown5 hgrow5 hat5 hlt5; have CF : ∀ j, w5.cell? ⟨wr.heap.size, j, none⟩ = w4.cell? ⟨wr.heap.size, j, none⟩ := (fun j => (hgrow5.cell_far ⟨wr.heap.size, j, none⟩ (by show wr.heap.size < _; simp; omega) (fun e => by have := (hov.out wr.heap.size e.symm).2; omega)).trans (((Below.refl w4.heap.size w4).alloc (Nat.le_refl _) _).cell (p := ⟨wr.heap.size, j, none⟩) (by show wr.heap.size < w4.heap.size; omega))); have O5 : w5.cell? ⟨w.heap.size + 1 + 1, 0, none⟩ = some (.slice Av k Cv) := (hgrow5.cell_far ⟨w.heap.size + 1 + 1, 0, none⟩ (by show w.heap.size + 1 + 1 < _; simp; omega) (fun e => by have := (hov.out (w.heap.size + 1 + 1) e.symm).1; omega)).trans (OA4 _); have F5 : w5.frozen? ⟨w.heap.size + 1 + 1, 0, none⟩ = false := (hgrow5.frozen_far ⟨w.heap.size + 1 + 1, 0, none⟩ (by show w.heap.size + 1 + 1 < _; simp; omega) (fun e => by have := (hov.out (w.heap.size + 1 + 1) e.symm).1; omega)).trans ((((Below.refl w4.heap.size w4).alloc (Nat.le_refl _) _).frozen (p := ⟨w.heap.size + 1 + 1, 0, none⟩) (by show w.heap.size + 1 + 1 < w4.heap.size; omega)).trans ((G4.frozen (p := ⟨w.heap.size + 1 + 1, 0, none⟩) sl).trans (of 0))); have HR := hideC (And.intro hown5 (And.intro hgrow5 hat5)); clear hown5 hgrow5 hat5))
      all_goals
        have hqlen := HQ.out
        obtain ⟨hm1, hm2⟩ := HM.out
        obtain ⟨hown5, hgrow5, hat5⟩ := HR.out
        clear HM HQ HR
        subst hqlen
        have hb34 : Below w2.heap.size w2 w4 := nextB hb3 (Nat.le_refl _) hb4
        have hb234 : Below w1.heap.size w1 w4 := nextB hb2 (Nat.le_refl _) hb34
        have q1 : w4.ownsRow wr.heap.size _ _ _ _ _ := own_mono (own_next o1 hb234) (by simp)
        have q2 : w4.ownsRow wr.heap.size _ _ _ _ _ := own_mono (own_next o2 hb34) (by omega)
        have q3 : w4.ownsRow wr.heap.size _ _ _ _ _ := own_mono (own_next o3 hb4) (by omega)
        have q4 : w4.ownsRow wr.heap.size _ _ _ _ _ := own_mono o4 (by omega)
        have hq : PN.own wr.heap.size w4 ⟨leaf, A1, C1, ents, A2, C2, keys, A3, C3, kids, A4, C4, buf⟩ := ⟨q1, q2, q3, q4, ez, kz, dz, fz⟩
        have R := HAT.out.step G4 hq hown5 hgrow5 hat5
        have Rm : (qs ++ [PN.mk leaf A1 C1 ents A2 C2 keys A3 C3 kids A4 C4 buf]).map PN.nd = (ps.take (qs.length + 1)).map PN.nd := by
          rw [hm2, List.map_append, hm1]; rfl
        have RR := hideC (And.intro R Rm)
        clear R Rm hq q1 q2 q3 q4 o1 o2 o3 o4 hm1 hm2 T1 T2 T3 T4 KS CF O1 O2 O3 O4 OA4 O5 F5 hown5 hgrow5 hat5 hown hov HAT
        go_wp2
        go_roundw
        case rel =>
          go_light
          obtain ⟨R, Rm⟩ := RR.out
          exact ⟨qs.length + 1, qs ++ [PN.mk leaf A1 C1 ents A2 C2 keys A3 C3 kids A4 C4 buf], _, _, by omega, by go_num, by simp, R, Rm⟩
        case measure => simp [intOf]; omega
    · obtain rfl : k = ps.length := by omega
      have o0 : wr.cell? ⟨w.heap.size + 1 + 1, 0, none⟩ = some (.slice Av ps.length Cv) := by rw [← hql]; exact hat.out.cell 0
      have o1 : wr.cell? ⟨w.heap.size + 1 + 1, 1, none⟩ = some (.int .i64 r) := hat.out.cell 1
      have r0 : wr.cell? ⟨w.heap.size + 1, 0, none⟩ = some (.slice none 0 0) := hat.res.cell 0
      have r1 : wr.cell? ⟨w.heap.size + 1, 1, none⟩ = some (.int .i64 0) := hat.res.cell 1
      have rf : ∀ j, wr.frozen? ⟨w.heap.size + 1, j, none⟩ = false := fun j => hat.res.frozen j
      have HQ := hideC (And.intro hql (And.intro hat hmap))
      have hni : ¬ ((ps.length : Int) < (ps.length : Int)) := by omega
      clear hql hat hmap HS
      go_wp2
      obtain ⟨hql, hat, hmap⟩ := HQ.out
      rw [List.take_length] at hmap
      have hE := hat.fin (by rw [hql]; exact hz) (.slice Av ps.length Cv) (.int .i64 r)
      exact bodyPost_ret (v := .agg #[.slice Av ps.length Cv, .int .i64 r]) (by simp [results, Tryz.results11, go_sem, r0, r1]) rfl ⟨Av, Cv, qs, by rw [hql], hE.1, hmap, hE.2⟩

theorem treeCopy_any (A : Option Addr) (C : Nat) (r : Int) (ps : List PN) (w : World) (h : NodesAt w.heap.size w A ps) :
    Calls Tryz.prog 11 #[.agg #[.slice A ps.length C, .int .i64 r]] w
      fun e w' => ∃ A' C' qs, e = .returned (.agg #[.slice A' qs.length C', .int .i64 r]) ∧ NodesAt w'.heap.size w' A' qs ∧ qs.map PN.nd = ps.map PN.nd ∧ Below w.heap.size w w' :=
  (treeCopy_own A C r ps w h).mono fun _ _ ⟨A', C', qs, e, ho, hm, hb⟩ => ⟨A', C', qs, e, ho.nodes, hm, hb⟩

end Go.Proofs.YtlojfgdpmaigmadGreatDoor

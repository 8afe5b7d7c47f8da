/- A node more. -/
import Derived.Test.YtlojfgdpmaigmacP07
import Derived.Deep.RegionLaw
import Derived.Maps.OwnSet
import Derived.Maps.Views
import Derived.Maps.OwnOps
namespace Go.Proofs.Ytlojfgdpmaigmac
open Go.RowKit Plain

theorem newsA (w : World) (q : PN) (o1 : Obj) (t : TypeId) : ∀ j u, (flatN [q])[j]? = some u → ((w.alloc o1).drew.alloc (.cells #[.bool q.leaf, .slice q.eA q.ents.length q.eC, .slice q.kA q.keys.length q.kC, .slice q.dA q.kids.length q.dC, .slice q.bA q.buf.length q.bC] t)).cell? (Addr.add ⟨w.heap.size + 1, 0, none⟩ j) = some u := by
  have h := rowL_alloc (w.alloc o1).drew q.vals t
  have e : (w.alloc o1).drew.heap.size = w.heap.size + 1 := by simp
  rw [e] at h
  exact newsN _ _ _ q h

theorem add_end {base tb g C g' C' : Nat} {qs : List PN} {root : Int} {q : PN} {w W w1 : World} (hT : TB base w tb g C qs root) (hq : q.own base w) (hqn : q.blocks.Nodup) (hqd : ∀ b ∈ q.blocks, b ∉ feet g qs) (hqt : tb ∉ q.blocks) (hz : (qs.length + 1) * 104 ≤ 140737488351232)
    (hW : Below w.heap.size w W) (hown : w1.ownsRow base 62 5 (.slice (some ⟨g', 0, none⟩) (qs.length + 1) C') (qs.length + 1) (flatN qs ++ flatN [q])) (hgrow : W.grownBy w1 (Value.slice (some ⟨g, 0, none⟩) qs.length C).ownBlock) (hat : (Value.slice (some ⟨g, 0, none⟩) qs.length C).ownBlock = some g' ∨ g' = w.heap.size + 2) :
    TB base (w1.setCell ⟨tb, 0, none⟩ (.slice (some ⟨g', 0, none⟩) (qs.length + 1) C')) tb g' C' (qs ++ [q]) root ∧ Kept [tb, g] w (w1.setCell ⟨tb, 0, none⟩ (.slice (some ⟨g', 0, none⟩) (qs.length + 1) C')) ∧ (g' = g ∨ w.heap.size ≤ g') := by
  have hat' : g' = g ∨ g' = w.heap.size + 2 := by
    rcases hat with h | h
    · left; simpa [Value.ownBlock] using h.symm
    · exact .inr h
  have htg : tb ≠ g := fun e => hT.ne (e ▸ List.mem_cons_self)
  have htl := hT.box.lt
  have hk1 : ∀ k, k < w.heap.size → k ≠ g → w1.heap[k]? = w.heap[k]? := fun k hk hne => (hgrow.block k (Nat.lt_of_lt_of_le hk hW.size) (by simpa [Value.ownBlock] using hne)).trans (hW.block k hk)
  have hk2 : ∀ k, k ≠ tb → (w1.setCell ⟨tb, 0, none⟩ (.slice (some ⟨g', 0, none⟩) (qs.length + 1) C')).heap[k]? = w1.heap[k]? := fun k hne => Below.heap_setCell _ _ _ _ hne
  have hg't : g' ≠ tb := by rcases hat' with rfl | rfl <;> omega
  have hfl := hT.nt.lt
  have hap := hT.nt.apart
  have hgn : g ∉ qs.flatMap PN.blocks := by rw [feet, List.nodup_cons] at hap; exact hap.1
  refine ⟨⟨⟨?_, fun x hx => ?_, ?_, by simpa using hz⟩, ?_, ?_, hT.hb⟩, ⟨hgrow.os.trans hW.os, hgrow.tape.trans hW.tape, hgrow.output.trans hW.output, ?_, fun k hk hx => ?_⟩, by omega⟩
  · rw [flatN_append, List.length_append]
    exact own_of_block hown fun k hk => hk2 k (by have : g' = k := (by simpa [Value.ownBlock] using hk); omega)
  · rcases List.mem_append.1 hx with hx | hx
    · refine (hT.nt.each x hx).of_blocks fun k hk => ?_
      have hm : k ∈ feet g qs := List.mem_cons_of_mem _ (List.mem_flatMap.2 ⟨x, hx, hk⟩)
      rw [hk2 k (fun e => hT.ne (e ▸ hm)), hk1 k (hfl k hm).2 (fun e => hgn (e ▸ List.mem_flatMap.2 ⟨x, hx, hk⟩))]
    · obtain rfl : x = q := by simpa using hx
      refine hq.of_blocks fun k hk => ?_
      rw [hk2 k (fun e => hqt (e ▸ hk)), hk1 k (hq.lt k hk).2 (fun e => hqd k hk (e ▸ List.mem_cons_self))]
  · refine feet_append hap hqn hqd ?_
    rcases hat' with h | h
    · exact .inl h
    · refine .inr ⟨fun e => ?_, fun e => ?_⟩
      · have := (hfl _ e).2; omega
      · have := (hq.lt _ e).2; omega
  · have hr : RowL w1 tb 26 [.slice (some ⟨g, 0, none⟩) qs.length C, .int .i64 root] := hT.box.of_block (hk1 tb htl htg)
    rw [List.length_append]
    exact hr.set 0 _
  · unfold feet
    simp only [List.flatMap_append, List.flatMap_cons, List.flatMap_nil, List.append_nil, List.mem_cons, List.mem_append, not_or]
    refine ⟨fun e => hg't e.symm, fun e => hT.ne (List.mem_cons_of_mem _ e), hqt⟩
  · have h1 := hgrow.size
    have h2 := hW.size
    simp
    omega
  · simp only [List.mem_cons, List.not_mem_nil, or_false, not_or] at hx
    rw [hk2 k hx.1, hk1 k hk hx.2]

set_option maxRecDepth 20000 in
set_option maxHeartbeats 4000000 in
theorem add_any (base tb g C : Nat) (qs : List PN) (root : Int) (q : PN) (w : World) (hT : TB base w tb g C qs root) (hq : q.own base w) (hqn : q.blocks.Nodup) (hqd : ∀ b ∈ q.blocks, b ∉ feet g qs) (hqt : tb ∉ q.blocks) (hz : (qs.length + 1) * 104 ≤ 140737488351232) (hB : base ≤ w.heap.size) :
    Calls Try.prog 49 #[.pointer (some ⟨tb, 0, none⟩), .agg #[.bool q.leaf, .slice q.eA q.ents.length q.eC, .slice q.kA q.keys.length q.kC, .slice q.dA q.kids.length q.dC, .slice q.bA q.buf.length q.bC]] w
      fun e w' => e = .returned (.int .i64 (qs.length : Int)) ∧ ∃ g' C', TB base w' tb g' C' (qs ++ [q]) root ∧ Kept [tb, g] w w' ∧ (g' = g ∨ w.heap.size ≤ g') := by
  obtain ⟨i0, hi0, hz0, hz1, hz2⟩ := info_parts infoN
  have own := hT.nt.own
  have HT : Hid (TB base w tb g C qs root) := hT
  have c0 := hT.box.cell 0
  have c1 := hT.box.cell 1
  have fz := hT.box.frozen
  have tlt := hT.box.lt
  have glt := hT.nt.glt.2
  simp only [List.getElem?_cons_zero, List.getElem?_cons_succ] at c0 c1
  have HN : Hid (tb ≠ g) := fun e => hT.ne (e ▸ List.mem_cons_self)
  have HM : Hid (some tb ≠ (Value.slice (some ⟨g, 0, none⟩) qs.length C).ownBlock) := fun e => HN.out (by simpa [Value.ownBlock] using e)
  have hb2 : ∀ o1 o2 : Obj, Below w.heap.size w ((w.alloc o1).drew.alloc o2) := fun o1 o2 => (((Below.refl _ _).alloc (Nat.le_refl _) _).drew).alloc (by simp) _
  clear hT
  go_enter Try.func49, Try.ntmps49
  go_wp2_with fail
  go_region_law (refine step_append_lies _ rfl (.tmp 9) (.tmp 11) 24 rfl base 62 i0 _ 5 104 Try.underlying24 hi0 hz0 hz1 hz2 rfl (by decide) (.slice (some ⟨g, 0, none⟩) qs.length C) qs.length (flatN qs) (by simp [Act.eval]) (own_next own ((((Below.refl _ _).alloc (Nat.le_refl _) _).drew).alloc (by simp) _)) ⟨w.heap.size + 1, 0, none⟩ 1 1 (flatN [q]) (by simp [Act.eval]) rfl (newsA w q _ _) (flatN_one _) (by decide) (by unfold maxLen; omega) (by omega) (by simp; omega) (w.heap.size + 2) (by simp) ?_; intro g' C' w1 hown1 hgrow1 hat1 hlt1; have cv1 : w1.cell? ⟨tb, 0, none⟩ = some (.slice (some ⟨g, 0, none⟩) qs.length C) := (hgrow1.cell_far ⟨tb, 0, none⟩ (by simp; omega) HM.out).trans ((hb2 _ _).cell (p := ⟨tb, 0, none⟩) tlt |>.trans c0); have fv1 : w1.frozen? ⟨tb, 0, none⟩ = false := (hgrow1.frozen_far ⟨tb, 0, none⟩ (by simp; omega) HM.out).trans ((hb2 _ _).frozen (p := ⟨tb, 0, none⟩) tlt |>.trans (fz 0)); have HR := hideC (And.intro hown1 (And.intro hgrow1 hat1)); clear hown1 hgrow1 hat1)
  all_goals
    go_wp2
    go_ret
    obtain ⟨hown1, hgrow1, hat1⟩ := HR.out
    have R := add_end HT.out hq hqn hqd hqt hz (hb2 _ _) hown1 hgrow1 hat1
    exact ⟨ret_int (by omega), _, _, R⟩

end Go.Proofs.Ytlojfgdpmaigmac

/- The document's 'height' of a tree: leaves. -/
namespace Go.Proofs.Ytlojfgdpmaigmac
open Go.RowKit Plain

end Go.Proofs.Ytlojfgdpmaigmac

/- The document's 'height' of a tree: the loop over a node's kids. -/
namespace Go.Proofs.Ytlojfgdpmaigmac
open Go.RowKit Plain

end Go.Proofs.Ytlojfgdpmaigmac

/- The document's 'height' of a tree: nodes that are no leaves. -/
namespace Go.Proofs.Ytlojfgdpmaigmac
open Go.RowKit Plain

end Go.Proofs.Ytlojfgdpmaigmac

/- The document's 'height' of a tree, walked. -/
namespace Go.Proofs.Ytlojfgdpmaigmac
open Go.RowKit Plain

end Go.Proofs.Ytlojfgdpmaigmac

/- The document's answer to Check of package tree. -/
namespace Go.Proofs.Ytlojfgdpmaigmac
open Go.RowKit Plain

theorem infoI : (Try.prog.info? 3).map (fun i => (i.zero, i.size, i.bytes)) = some (some (.int .i64 0), 1, 8) := by kernel_rfl

theorem seen_start (w : World) (N : Nat) : SeenIs (w.alloc (.cells (madeCells #[.int .i64 0] N) 3)) w.heap.size N [] :=
  (World.rowIs_made w (.int .i64 0) N 3).congr fun i _ => by simp [seenB]

theorem seen_start2 (w : World) (o : Obj) (N : Nat) : SeenIs ((w.alloc o).alloc (.cells (madeCells #[.int .i64 0] N) 3)) (w.heap.size + 1) N [] := by
  have := seen_start (w.alloc o) N
  rwa [show (w.alloc o).heap.size = w.heap.size + 1 by simp] at this

/-- What the loop behind 'height' tells: were all nodes come to? -/
theorem treeC_some {ns : List Nd} {root : Int} {S : St} {l : List Int} (hn : ¬ 2000 < ns.length) (hW : W ns 12 root 0 1099511627776 [] = some (S, l)) (h0 : resH (some (S, l)) ≠ 0) : treeC ns root = if S.length = ns.length then 0 else 7 := by
  unfold treeC
  rw [if_neg hn, hW]
  have hok : okL 0 l = true := by
    obtain ⟨hl, he⟩ := resH_some rfl h0
    unfold okL
    rw [List.all_eq_true]
    intro x hx
    cases l with
    | nil => exact absurd rfl hl
    | cons d r =>
      have e1 := he x hx
      have e2 := he d List.mem_cons_self
      simp
      omega
  simp [hok]

theorem treeC_none {ns : List Nd} {root : Int} (hn : ¬ 2000 < ns.length) (h0 : resH (W ns 12 root 0 1099511627776 []) = 0) : treeC ns root = 7 := by
  unfold treeC
  rw [if_neg hn]
  cases hW : W ns 12 root 0 1099511627776 [] with
  | none => rfl
  | some p =>
    obtain ⟨S, l⟩ := p
    rw [hW] at h0
    have hd := W_ds 12 (Nat.le_refl _) _ _ _ _ _ _ hW
    obtain ⟨x, hx, y, hy, hxy⟩ := resH_zero h0 hd.1 hd.2
    have hno : ¬ okL 0 l = true := by
      intro hok
      unfold okL at hok
      rw [List.all_eq_true] at hok
      have a := hok x hx
      have b := hok y hy
      simp at a b
      omega
    simp [hno]

end Go.Proofs.Ytlojfgdpmaigmac

/- A loop over kids as the code's survey goes: with one depth for all leaves. -/
namespace Go.Proofs.Ytlojfgdpmaigmac
open Go.RowKit Plain Go.Maps

def nextL (L : Int) (l : List Int) : Int := if L = 0 then l.headD 0 else L

structure KidsN (g : Int → Int → Int → St → Option (St × List Int)) (kids keys : List Int) (low high : Int) (S0 : St) (L0 : Int) (i : Nat) (lo : Int) (S : St) (acc : List Int) (L : Int) : Prop where
  eq : Wk g kids keys low high S0 = join acc (Wk g (kids.drop i) (keys.drop i) lo high S)
  same : ∀ x ∈ acc, x = L
  none : acc = [] → L = L0
  pos : acc ≠ [] → L ≠ 0
  first : L0 ≠ 0 → L = L0
  low : low ≤ lo

section
variable {g : Int → Int → Int → St → Option (St × List Int)} {kids keys : List Int} {low high lo L0 L : Int} {S0 S : St} {i : Nat} {acc : List Int}

theorem kidsN_start (g : Int → Int → Int → St → Option (St × List Int)) (kids keys : List Int) (low high : Int) (S0 : St) (L0 : Int) : KidsN g kids keys low high S0 L0 0 low S0 [] L0 :=
  ⟨by rw [join_nil]; rfl, by simp, fun _ => rfl, by simp, fun _ => rfl, Int.le_refl _⟩

theorem okL_iff {L : Int} {l : List Int} : okL L l = true ↔ ∀ x ∈ l, x = nextL L l := by
  simp [okL, nextL]

theorem kidsN_no (h : KidsN g kids keys low high S0 L0 i lo S acc L) (hi : i < kids.length) (hr : resN L (g kids[i] lo (toAt keys high i) S) = false) : resN L0 (Wk g kids keys low high S0) = false := by
  rw [h.eq, Wk_drop hi]
  cases hg : g kids[i] lo (toAt keys high i) S with
  | none => rfl
  | some p =>
    obtain ⟨S1, l1⟩ := p
    rw [hg] at hr
    simp only [join_join]
    cases Wk g (kids.drop (i + 1)) (keys.drop (i + 1)) (toAt keys high i) high S1 with
    | none => rfl
    | some q =>
      obtain ⟨S2, l2⟩ := q
      simp only [join, resN] at hr ⊢
      rw [Bool.eq_false_iff] at hr ⊢
      intro hok
      apply hr
      rw [okL_iff] at hok ⊢
      intro x hx
      have hx' := hok x (List.mem_append_left _ (List.mem_append_right _ hx))
      rw [hx']
      by_cases hacc : acc = []
      · have hL := h.none hacc
        subst hacc hL
        cases l1 with
        | nil => simp at hx
        | cons d r => simp [nextL]
      · have hL := h.pos hacc
        obtain ⟨y, hy⟩ := List.exists_mem_of_ne_nil _ hacc
        have hy' := hok y (List.mem_append_left _ (List.mem_append_left _ hy))
        rw [← hy', h.same y hy]
        simp [nextL, hL]

theorem kidsN_next (hd : ∀ d low high S S' l, g d low high S = some (S', l) → l ≠ [] ∧ ∀ x ∈ l, 1 ≤ x) (hw : ∀ d low high S r, g d low high S = some r → low < high) (h : KidsN g kids keys low high S0 L0 i lo S acc L) (hi : i < kids.length) (hr : resN L (g kids[i] lo (toAt keys high i) S) = true) :
    ∃ S1 l1, g kids[i] lo (toAt keys high i) S = some (S1, l1) ∧ okL L l1 = true ∧ KidsN g kids keys low high S0 L0 (i + 1) (toAt keys high i) S1 (acc ++ l1) (nextL L l1) := by
  cases hg : g kids[i] lo (toAt keys high i) S with
  | none => rw [hg] at hr; simp [resN] at hr
  | some p =>
    obtain ⟨S1, l1⟩ := p
    rw [hg] at hr
    simp only [resN] at hr
    have hall := okL_iff.1 hr
    obtain ⟨hl, hpos⟩ := hd _ _ _ _ _ _ hg
    have hlt := hw _ _ _ _ _ hg
    have hlow := h.low
    obtain ⟨x, hx⟩ := List.exists_mem_of_ne_nil _ hl
    have hn0 : nextL L l1 ≠ 0 := by
      have := hpos x hx
      rw [hall x hx] at this
      omega
    refine ⟨S1, l1, rfl, hr, ⟨?_, ?_, fun e => absurd (List.append_eq_nil_iff.1 e).2 hl, fun _ => hn0, fun h0 => ?_, by omega⟩⟩
    · rw [h.eq, Wk_drop hi, hg]
      simp only [join_join]
    · intro z hz
      rcases List.mem_append.1 hz with hz | hz
      · have hacc : acc ≠ [] := List.ne_nil_of_mem hz
        have hL := h.pos hacc
        rw [h.same z hz]
        simp [nextL, hL]
      · exact hall z hz
    · have := h.first h0
      subst this
      simp [nextL, h0]

theorem kidsN_end (h : KidsN g kids keys low high S0 L0 i lo S acc L) (hi : i = kids.length) : Wk g kids keys low high S0 = some (S, acc) ∧ resN L0 (Wk g kids keys low high S0) = true ∧ nextL L0 acc = L := by
  have e : Wk g kids keys low high S0 = some (S, acc) := by
    rw [h.eq, hi, List.drop_length]
    simp [Wk, join]
  have hn : nextL L0 acc = L := by
    unfold nextL
    split
    · rename_i h0
      cases acc with
      | nil => simp; rw [h.none rfl]; exact h0.symm
      | cons d r => simpa using h.same d List.mem_cons_self
    · rename_i h0
      exact (h.first h0).symm
  refine ⟨e, ?_, hn⟩
  rw [e]
  simp only [resN]
  rw [okL_iff, hn]
  exact h.same

end

theorem law : Keyed Try.prog 3 := int_keyed Try.underlying3
theorem zeroI (w : World) : (zeroValue 3).run Try.prog w = .ok (.int .i64 0) w := by kernel_rfl

/-- Block mb is the map of which nodes have been come to, and how deep. -/
def MapIs (w : World) (mb : Nat) (S : St) : Prop :=
  ∃ D : DataW Unit, w.ownsMap Try.prog 3 (plainElem Try.prog 3) mb S.length D ∧ (∀ n : Int, Maps.has D (.int .i64 n) = seenB S n) ∧ (∀ p ∈ S, D.atKey (.int .i64 p.1) (.lit (.int .i64 0)) = .lit (.int .i64 p.2)) ∧ Maps.size D = S.length

theorem map_of_block {w w' : World} {mb n : Nat} {D : DataW Unit} (h : w.ownsMap Try.prog 3 (plainElem Try.prog 3) mb n D) (e : w'.heap[mb]? = w.heap[mb]?) : w'.ownsMap Try.prog 3 (plainElem Try.prog 3) mb n D := by
  unfold World.ownsMap at *
  rw [e]
  exact h

theorem MapIs.of_block {w w' : World} {mb : Nat} {S : St} (h : MapIs w mb S) (e : w'.heap[mb]? = w.heap[mb]?) : MapIs w' mb S := by
  obtain ⟨D, a, b⟩ := h
  exact ⟨D, map_of_block a e, b⟩

theorem MapIs.lt {w : World} {mb : Nat} {S : St} (h : MapIs w mb S) : mb < w.heap.size := by
  obtain ⟨D, a, _⟩ := h
  exact a.lt

theorem MapIs.look {w : World} {mb : Nat} {S : St} (h : MapIs w mb S) {n d : Int} (hp : (n, d) ∈ S) (hw : (Lit.int .i64 n).wf = true) :
    ∀ w' : World, w'.heap[mb]? = w.heap[mb]? → (Instr.lookup 56 (.map (some mb)) (.int .i64 n) false).run Try.prog w' = .ok (.int .i64 d) w' := by
  intro w' e
  obtain ⟨D, a, _, b, _⟩ := h
  obtain ⟨c, hrun, hat, _⟩ := (map_of_block a e).lookup_int law Try.underlying56 Try.underlying3 (zeroI _) (keyOf_int_mk Try.underlying3 hw)
  have := (b _ hp).symm.trans hat
  simp at this
  subst this
  exact hrun

end Go.Proofs.Ytlojfgdpmaigmac

/- Put: an entry goes down from the root, then the tree grows. -/
import Derived.Test.YtlojfgdpmaigmafGreatDoorP38
import Derived.Test.YtlojfgdpmaigmafGreatDoorSinkAny
import Derived.Test.YtlojfgdpmaigmafGreatDoorP39
import Derived.Test.YtlojfgdpmaigmafGreatDoorP35
import Derived.Test.YtlojfgdpmaigmafGreatDoorP15
import Derived.Test.YtlojfgdpmaigmafGreatDoorP12
namespace Go.Proofs.YtlojfgdpmaigmafGreatDoor
open Go.RowKit Plain Go.Shelf

end Go.Proofs.YtlojfgdpmaigmafGreatDoor

/- The walk of Put. -/
namespace Go.Proofs.YtlojfgdpmaigmafGreatDoor
open Go.RowKit Plain Go.Shelf

theorem OwnTree.nt {base : Nat} {w : World} {g : Nat} {qs : List PN} (h : OwnTree base w g qs) (hn : qs.length ≤ maxLen) : NT base w g qs.length qs :=
  ⟨own_glue h.row (by rw [flatN_length]) (by rw [List.take_of_length_le (by rw [flatN_length]; omega)]) (Nat.le_refl _) hn h.hbase (flatN_length qs), h.each, h.apart, h.z⟩

theorem own_low {w : World} {base base' : Nat} {e : TypeId} {size n : Nat} {v : Value} {vs : List Value} (h : w.ownsRow base e size v n vs) (hb : base' ≤ base) : w.ownsRow base' e size v n vs := own_base' h hb

theorem NT.low {base base' g C : Nat} {w : World} {qs : List PN} (h : NT base w g C qs) (hb : base' ≤ base) : NT base' w g C qs :=
  ⟨own_low h.own hb, fun q hq => ⟨own_low (h.each q hq).e hb, own_low (h.each q hq).k hb, own_low (h.each q hq).d hb, own_low (h.each q hq).b hb, (h.each q hq).ez, (h.each q hq).kz, (h.each q hq).dz, (h.each q hq).bz⟩, h.apart, h.z⟩

theorem put_nt {base base' : Nat} {w : World} {g n : Nat} {qs : List PN} (h : OwnTree base w g qs) (hn : qs.length = n) (hz : n * 104 ≤ 140737488351232) (hb : base' ≤ base) : NT base' w g n qs := by
  subst hn
  exact (h.nt (by unfold maxLen; omega)).low hb

end Go.Proofs.YtlojfgdpmaigmafGreatDoor

/- The walk of Put: what it refuses. -/
namespace Go.Proofs.YtlojfgdpmaigmafGreatDoor
open Go.RowKit Plain Go.Shelf

end Go.Proofs.YtlojfgdpmaigmafGreatDoor

/- The walk of Put: all of it. -/
namespace Go.Proofs.YtlojfgdpmaigmafGreatDoor
open Go.RowKit Plain Go.Shelf

end Go.Proofs.YtlojfgdpmaigmafGreatDoor

/- The document's PutFault. -/
namespace Go.Proofs.YtlojfgdpmaigmafGreatDoor
open Go.RowKit Plain Go.Shelf

end Go.Proofs.YtlojfgdpmaigmafGreatDoor

/- What Put's tree knows, held against the document's entries with one more: in plain terms. -/
namespace Go.Proofs.YtlojfgdpmaigmafGreatDoor
open Go.RowKit Plain

/-- What a tree that may be knows lies within the keys. -/
theorem tree_in {ns : List Nd} {root : Int} (h : treeC ns root = 0) : ∀ y ∈ ns.flatMap cont, (0 ≤ y.key ∧ y.key < 1099511627776) ∧ Good y.ru := by
  rcases treeC_sub h with ⟨ht, P, hs, hp⟩ | ⟨he, rfl⟩
  · intro y hy
    exact Sub_cont ht _ _ _ _ hs y ((cP_all hp).mem_iff.2 hy)
  · rw [he]
    simp [cont, leafOf]

theorem allR_all {ns : List Nd} {root : Int} (h : treeC ns root = 0) : allR 0 1099511627776 (ns.flatMap Nd.lst) = allL (ns.flatMap cont) := by
  have hin := tree_in h
  have hf : ∀ x ∈ ns.flatMap Nd.lst, inR 0 1099511627776 x = true := by
    intro x hx
    have := (hin x (lst_cont.mem_iff.1 hx)).1
    simp [inR]
    omega
  unfold allR
  rw [List.filter_eq_self.2 hf]
  exact allL_perm lst_cont fun x hx => (good_iff.1 (hin x (lst_cont.mem_iff.1 hx)).2).1.1

end Go.Proofs.YtlojfgdpmaigmafGreatDoor

/- base.New: its trees lie in memory of their own. -/
namespace Go.Proofs.YtlojfgdpmaigmafGreatDoor
open Go.RowKit Plain

def NodeR (w : World) (g : Nat) : Prop := RowL w g 153 [.bool true, .slice none 0 0, .slice none 0 0, .slice none 0 0, .slice none 0 0]

theorem NodeR.lt {w : World} {g : Nat} (h : NodeR w g) : g < w.heap.size := RowL.lt h
theorem NodeR.below {w w' : World} {g B : Nat} (h : NodeR w g) (hb : Below B w w') (hB : g < B) : NodeR w' g := RowL.below h hb hB
theorem NodeR.of_block {w w' : World} {g : Nat} (h : NodeR w g) (e : w'.heap[g]? = w.heap[g]?) : NodeR w' g := RowL.of_block h e

theorem new_nt {B : Nat} {w' : World} {g : Nat} (hg : B ≤ g) (hr : NodeR w' g) : NT B w' g 1 [zleaf] := by
  have hot : OwnTree B w' g [zleaf] := ⟨hr, hg, fun q hq => by
      obtain rfl : q = zleaf := by simpa using hq
      exact ⟨World.ownsRow_nil _ _ _ _, World.ownsRow_nil _ _ _ _, World.ownsRow_nil _ _ _ _, World.ownsRow_nil _ _ _ _, by decide, by decide, by decide, by decide⟩, by simp [zleaf, PN.blocks], by decide⟩
  exact put_nt hot rfl (by decide) (Nat.le_refl _)

theorem bnr_step {w w1 : World} {n : Nat} {t : TypeId} {l A : List Value} (ra : RowL w1 n t A) (rb : RowL w1 (n + 1) t l) (hb : Below n w w1) (i : Nat) (v1 v2 : Value) :
    RowL ((w1.setCell ⟨n + 1, i, none⟩ v1).setCell ⟨n + 1, i + 1, none⟩ v2) n t A ∧ RowL ((w1.setCell ⟨n + 1, i, none⟩ v1).setCell ⟨n + 1, i + 1, none⟩ v2) (n + 1) t ((l.set i v1).set (i + 1) v2) ∧ Below n w ((w1.setCell ⟨n + 1, i, none⟩ v1).setCell ⟨n + 1, i + 1, none⟩ v2) ∧
    ∀ g, NodeR w1 g → n + 1 < g → NodeR ((w1.setCell ⟨n + 1, i, none⟩ v1).setCell ⟨n + 1, i + 1, none⟩ v2) g := by
  have far : ∀ (W : World) (j : Nat) (v : Value), (W.setCell ⟨n + 1, j, none⟩ v).heap[n]? = W.heap[n]? := fun W j v => Below.heap_setCell _ _ _ _ (show n ≠ n + 1 by omega)
  refine ⟨(ra.of_block (far _ _ _)).of_block (far _ _ _), (rb.set i v1).set (i + 1) v2, ⟨hb.os, hb.tape, hb.output, by simpa using hb.size, fun k hk => ?_⟩, fun g hg hl => hg.of_block ((Below.heap_setCell _ _ _ _ (show g ≠ n + 1 by omega)).trans (Below.heap_setCell _ _ _ _ (show g ≠ n + 1 by omega)))⟩
  exact (Below.heap_setCell _ _ _ _ (show k ≠ n + 1 by omega)).trans ((Below.heap_setCell _ _ _ _ (show k ≠ n + 1 by omega)).trans (hb.block k hk))

set_option maxRecDepth 20000 in
set_option maxHeartbeats 800000 in
theorem bnew_own (w : World) :
    Calls Tryz.prog 50 #[] w
      fun e w' => ∃ g0 g1 g2, e = .returned (.agg #[.slice none 0 0, .slice (some ⟨g0, 0, none⟩) 1 1, .int .i64 0, .slice (some ⟨g1, 0, none⟩) 1 1, .int .i64 0, .slice (some ⟨g2, 0, none⟩) 1 1, .int .i64 0, .int .i64 0]) ∧ NT w.heap.size w' g0 1 [zleaf] ∧ NT w.heap.size w' g1 1 [zleaf] ∧ NT w.heap.size w' g2 1 [zleaf] ∧ Below w.heap.size w w' := by
  go_enter Tryz.func50, Tryz.ntmps50
  go_wp2_with fail
  obtain ⟨W0, hW0⟩ : ∃ W0, W0 = (w.alloc (.cells #[.slice none 0 0, .slice none 0 0, .int .i64 0, .slice none 0 0, .int .i64 0, .slice none 0 0, .int .i64 0, .int .i64 0] 29)).alloc (.cells #[.slice none 0 0, .slice none 0 0, .int .i64 0, .slice none 0 0, .int .i64 0, .slice none 0 0, .int .i64 0, .int .i64 0] 29) := ⟨_, rfl⟩
  have ra : RowL W0 w.heap.size 29 [.slice none 0 0, .slice none 0 0, .int .i64 0, .slice none 0 0, .int .i64 0, .slice none 0 0, .int .i64 0, .int .i64 0] := by
    rw [hW0]
    exact (rowL_alloc w _ _).of_block (Below.heap_alloc _ _ _ (by simp))
  have rb : RowL W0 (w.heap.size + 1) 29 [.slice none 0 0, .slice none 0 0, .int .i64 0, .slice none 0 0, .int .i64 0, .slice none 0 0, .int .i64 0, .int .i64 0] := by
    rw [hW0]
    have := rowL_alloc (w.alloc (.cells #[.slice none 0 0, .slice none 0 0, .int .i64 0, .slice none 0 0, .int .i64 0, .slice none 0 0, .int .i64 0, .int .i64 0] 29)) [.slice none 0 0, .slice none 0 0, .int .i64 0, .slice none 0 0, .int .i64 0, .slice none 0 0, .int .i64 0, .int .i64 0] 29
    simpa using this
  have hb0 : Below w.heap.size w W0 := by
    rw [hW0]
    exact ((Below.refl _ _).alloc (Nat.le_refl _) _).alloc (by simp) _
  rw [← hW0]
  clear hW0
  obtain ⟨n, hn⟩ : ∃ n, n = w.heap.size := ⟨_, rfl⟩
  rw [← hn] at ra rb hb0 ⊢
  have HN : Hid (n = w.heap.size) := hn
  clear hn
  go_loopw [3] (fun vi wr => ∃ (k g0 g1 g2 : Nat), k ≤ 3 ∧ vi = .int .i64 k ∧ RowL wr n 29 [.slice none 0 0, .slice none 0 0, .int .i64 0, .slice none 0 0, .int .i64 0, .slice none 0 0, .int .i64 0, .int .i64 0] ∧ RowL wr (n + 1) 29 [.slice none 0 0, tv (decide (0 < k)) g0, .int .i64 0, tv (decide (1 < k)) g1, .int .i64 0, tv (decide (2 < k)) g2, .int .i64 0, .int .i64 0] ∧ (0 < k → NodeR wr g0 ∧ n + 1 < g0) ∧ (1 < k → NodeR wr g1 ∧ n + 1 < g1) ∧ (2 < k → NodeR wr g2 ∧ n + 1 < g2) ∧ Below n w wr) (fun vi _ => 3 - (intOf vi).toNat)
  case atStart => exact ⟨0, 0, 0, 0, by omega, rfl, ra, rb, fun h => by omega, fun h => by omega, fun h => by omega, hb0⟩
  case round =>
    clear ra rb hb0
    obtain ⟨k, g0, g1, g2, hk, rfl, ra, rb, p0, p1, p2, hb⟩ := hrel
    have hla := ra.lt
    have hlb := rb.lt
    rcases (show k = 0 ∨ k = 1 ∨ k = 2 ∨ k = 3 by omega) with rfl | rfl | rfl | rfl
    · have rb' := rb
      simp only [tv] at rb
      simp at rb
      go_wp2_with (go_at_call 47; refine (newT_any _).mono ?_; rintro e w1 ⟨g, rfl, hg, hn, hb1⟩; have hgl := hn.lt; have rb1 := rb.below hb1 hlb; have ra1 := ra.below hb1 hla; have d := fun j => rb1.cell j; have f := fun j => rb1.frozen j; have l1 := rb1.lt)
      obtain ⟨q1, q2, q3, q4⟩ := bnr_step ra1 rb1 (hb.trans (hb1.mono (show n ≤ wr.heap.size by omega))) 1 (.slice (some ⟨g, 0, none⟩) 1 1) (.int .i64 0)
      exact ⟨⟨1, g, 0, 0, by omega, by go_num, q1, by simpa [tv] using q2, fun _ => ⟨q4 _ hn (by omega), by omega⟩, fun h => by omega, fun h => by omega, q3⟩, by simp only [intOf]; omega⟩
    · have rb' := rb
      simp only [tv] at rb
      simp at rb
      go_wp2_with (go_at_call 47; refine (newT_any _).mono ?_; rintro e w1 ⟨g, rfl, hg, hn, hb1⟩; have hgl := hn.lt; have rb1 := rb.below hb1 hlb; have ra1 := ra.below hb1 hla; have d := fun j => rb1.cell j; have f := fun j => rb1.frozen j; have l1 := rb1.lt)
      obtain ⟨q1, q2, q3, q4⟩ := bnr_step ra1 rb1 (hb.trans (hb1.mono (show n ≤ wr.heap.size by omega))) 3 (.slice (some ⟨g, 0, none⟩) 1 1) (.int .i64 0)
      exact ⟨⟨2, g0, g, 0, by omega, by go_num, q1, by simpa [tv] using q2, fun _ => ⟨q4 _ ((p0 (by omega)).1.below hb1 (p0 (by omega)).1.lt) (p0 (by omega)).2, (p0 (by omega)).2⟩, fun _ => ⟨q4 _ hn (by omega), by omega⟩, fun h => by omega, q3⟩, by simp only [intOf]; omega⟩
    · have rb' := rb
      simp only [tv] at rb
      simp at rb
      go_wp2_with (go_at_call 47; refine (newT_any _).mono ?_; rintro e w1 ⟨g, rfl, hg, hn, hb1⟩; have hgl := hn.lt; have rb1 := rb.below hb1 hlb; have ra1 := ra.below hb1 hla; have d := fun j => rb1.cell j; have f := fun j => rb1.frozen j; have l1 := rb1.lt)
      obtain ⟨q1, q2, q3, q4⟩ := bnr_step ra1 rb1 (hb.trans (hb1.mono (show n ≤ wr.heap.size by omega))) 5 (.slice (some ⟨g, 0, none⟩) 1 1) (.int .i64 0)
      exact ⟨⟨3, g0, g1, g, by omega, by go_num, q1, by simpa [tv] using q2, fun _ => ⟨q4 _ ((p0 (by omega)).1.below hb1 (p0 (by omega)).1.lt) (p0 (by omega)).2, (p0 (by omega)).2⟩, fun _ => ⟨q4 _ ((p1 (by omega)).1.below hb1 (p1 (by omega)).1.lt) (p1 (by omega)).2, (p1 (by omega)).2⟩, fun _ => ⟨q4 _ hn (by omega), by omega⟩, q3⟩, by simp only [intOf]; omega⟩
    · simp only [tv] at rb
      simp at rb
      have d := fun j => rb.cell j
      have da := fun j => ra.cell j
      have fa := fun j => ra.frozen j
      have N : ∀ g, NodeR wr g → n + 1 < g → NodeR ((((((((wr.setCell ⟨n, 0, none⟩ (.slice none 0 0)).setCell ⟨n, 1, none⟩ (.slice (some ⟨g0, 0, none⟩) 1 1)).setCell ⟨n, 2, none⟩ (.int .i64 0)).setCell ⟨n, 3, none⟩ (.slice (some ⟨g1, 0, none⟩) 1 1)).setCell ⟨n, 4, none⟩ (.int .i64 0)).setCell ⟨n, 5, none⟩ (.slice (some ⟨g2, 0, none⟩) 1 1)).setCell ⟨n, 6, none⟩ (.int .i64 0)).setCell ⟨n, 7, none⟩ (.int .i64 0)) g := fun g h hl =>
        h.of_block ((Below.heap_setCell _ _ _ _ (show g ≠ n by omega)).trans <| (Below.heap_setCell _ _ _ _ (show g ≠ n by omega)).trans <| (Below.heap_setCell _ _ _ _ (show g ≠ n by omega)).trans <| (Below.heap_setCell _ _ _ _ (show g ≠ n by omega)).trans <| (Below.heap_setCell _ _ _ _ (show g ≠ n by omega)).trans <| (Below.heap_setCell _ _ _ _ (show g ≠ n by omega)).trans <| (Below.heap_setCell _ _ _ _ (show g ≠ n by omega)).trans <| Below.heap_setCell _ _ _ _ (show g ≠ n by omega))
      have S : ∀ {W : World} (j : Nat) (v : Value), Below n w W → Below n w (W.setCell ⟨n, j, none⟩ v) := fun j v h => ⟨h.os, h.tape, h.output, by simpa using h.size, fun k hk => (Below.heap_setCell _ _ _ _ (show k ≠ n by omega)).trans (h.block k hk)⟩
      have B8 := S 7 (.int .i64 0) (S 6 (.int .i64 0) (S 5 (.slice (some ⟨g2, 0, none⟩) 1 1) (S 4 (.int .i64 0) (S 3 (.slice (some ⟨g1, 0, none⟩) 1 1) (S 2 (.int .i64 0) (S 1 (.slice (some ⟨g0, 0, none⟩) 1 1) (S 0 (.slice none 0 0) hb)))))))
      have E0 : Hid (NodeR _ g0) := N g0 (p0 (by omega)).1 (p0 (by omega)).2
      have E1 : Hid (NodeR _ g1) := N g1 (p1 (by omega)).1 (p1 (by omega)).2
      have E2 : Hid (NodeR _ g2) := N g2 (p2 (by omega)).1 (p2 (by omega)).2
      have B : Hid (Below w.heap.size w _) := B8.mono (by have := HN.out; omega)
      have G : Hid (n + 1 < g0 ∧ n + 1 < g1 ∧ n + 1 < g2) := ⟨(p0 (by omega)).2, (p1 (by omega)).2, (p2 (by omega)).2⟩
      clear N S B8 p0 p1 p2
      go_wp2_with fail
      refine bodyPost_ret (v := .agg #[.slice none 0 0, .slice (some ⟨g0, 0, none⟩) 1 1, .int .i64 0, .slice (some ⟨g1, 0, none⟩) 1 1, .int .i64 0, .slice (some ⟨g2, 0, none⟩) 1 1, .int .i64 0, .int .i64 0]) ?_ rfl ?_
      · simp [results, Tryz.results50, go_sem, da]
      · exact ⟨g0, g1, g2, rfl, new_nt (by have := HN.out; have := G.out; omega) E0.out, new_nt (by have := HN.out; have := G.out; omega) E1.out, new_nt (by have := HN.out; have := G.out; omega) E2.out, B.out⟩

end Go.Proofs.YtlojfgdpmaigmafGreatDoor

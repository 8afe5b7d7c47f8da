/- base.mergeAll: what all entries come to. -/
import Derived.Test.YtlojfgdpmaigmaeGreatDoorP32
import Derived.Test.YtlojfgdpmaigmaeGreatDoorP45
namespace Go.Proofs.YtlojfgdpmaigmaeGreatDoor
open Go.RowKit Plain

structure MaA (w wr : World) (r : Ru) : Prop where
  below : Below w.heap.size w wr
  res : RowL wr w.heap.size 45 (ruV zro)
  tot : RowL wr (w.heap.size + 1) 45 (ruV r)

theorem MaA.next {w wr w' : World} {r : Ru} (h : MaA w wr r) (hb : Below wr.heap.size wr w') : MaA w w' r :=
  ⟨nextB h.below (Nat.le_refl _) hb, h.res.below hb h.res.lt, h.tot.below hb h.tot.lt⟩

theorem MaA.start (w : World) : MaA w ((w.alloc (.cells #[.int .i64 0, .int .i64 0, .int .i64 0, .int .i64 0, .int .i64 0, .int .i64 0] 45)).alloc (.cells #[.int .i64 0, .int .i64 0, .int .i64 0, .int .i64 0, .int .i64 0, .int .i64 0] 45)) zro := by
  have s1 : (w.alloc (.cells #[.int .i64 0, .int .i64 0, .int .i64 0, .int .i64 0, .int .i64 0, .int .i64 0] 45)).heap.size = w.heap.size + 1 := by simp
  have r0 : RowL (w.alloc (.cells #[.int .i64 0, .int .i64 0, .int .i64 0, .int .i64 0, .int .i64 0, .int .i64 0] 45)) w.heap.size 45 (ruV zro) := rowL_alloc w _ _
  have r1 := rowL_alloc (w.alloc (.cells #[.int .i64 0, .int .i64 0, .int .i64 0, .int .i64 0, .int .i64 0, .int .i64 0] 45)) (ruV zro) 45
  rw [s1] at r1
  exact ⟨((Below.refl _ _).alloc (Nat.le_refl _) _).alloc (by omega) _, r0.of_block (Below.heap_alloc _ _ _ (by omega)), r1⟩

theorem setB6_block (w : World) (g : Nat) (a b c d e f : Value) {k : Nat} (hk : k ≠ g) : ((((((w.setCell ⟨g, 0, none⟩ a).setCell ⟨g, 1, none⟩ b).setCell ⟨g, 2, none⟩ c).setCell ⟨g, 3, none⟩ d).setCell ⟨g, 4, none⟩ e).setCell ⟨g, 5, none⟩ f).heap[k]? = w.heap[k]? := by
  simp only [Below.heap_setCell _ _ _ _ (show k ≠ (⟨g, _, none⟩ : Addr).block from hk)]

def setB6 (w : World) (g : Nat) (r : Ru) : World := (((((w.setCell ⟨g, 0, none⟩ (.int .i64 r.c)).setCell ⟨g, 1, none⟩ (.int .i64 r.s)).setCell ⟨g, 2, none⟩ (.int .i64 r.lo)).setCell ⟨g, 3, none⟩ (.int .i64 r.hi)).setCell ⟨g, 4, none⟩ (.int .i64 r.t)).setCell ⟨g, 5, none⟩ (.int .i64 r.l)

theorem setB6_below {B : Nat} {w wr : World} (h : Below B w wr) {g : Nat} (hg : B ≤ g) (r : Ru) : Below B w (setB6 wr g r) :=
  (((((h.setCell (p := ⟨g, 0, none⟩) hg _).setCell (p := ⟨g, 1, none⟩) hg _).setCell (p := ⟨g, 2, none⟩) hg _).setCell (p := ⟨g, 3, none⟩) hg _).setCell (p := ⟨g, 4, none⟩) hg _).setCell (p := ⟨g, 5, none⟩) hg _

theorem MaA.turn {w wr : World} {r r' : Ru} (h : MaA w wr r) : MaA w (setB6 wr (w.heap.size + 1) r') r' :=
  ⟨setB6_below h.below (by omega) _, h.res.of_block (setB6_block _ _ _ _ _ _ _ _ (by omega)), (((((h.tot.set 0 _).set 1 _).set 2 _).set 3 _).set 4 _).set 5 _⟩

end Go.Proofs.YtlojfgdpmaigmaeGreatDoor

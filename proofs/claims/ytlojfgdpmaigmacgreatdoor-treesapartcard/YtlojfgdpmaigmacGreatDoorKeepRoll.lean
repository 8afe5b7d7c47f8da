/- Rollup of package winnowerkeep: some rollup. -/
import Derived.Test.YtlojfgdpmaigmacGreatDoorP21
import Derived.Test.YtlojfgdpmaigmacGreatDoorP03
import Derived.Test.YtlojfgdpmaigmacGreatDoorP02
import Derived.Deep.DeepCutAuto
namespace Go.Proofs.YtlojfgdpmaigmacGreatDoor
open Go.RowKit Plain

/-- On the way: the boxes of the raw thing, of the answer, and of what is out so far. -/
structure RoA (w wr : World) (k a b c : Int) (ob : Nat) (r : Ru) : Prop where
  below : Below w.heap.size w wr
  bx : RowL wr w.heap.size 44 [.int .i64 k, .int .i64 a, .int .i64 b, .int .i64 c]
  res : RowL wr (w.heap.size + 1) 38 (ruV zro)
  out : RowL wr ob 38 (ruV r)
  ge : w.heap.size + 2 ≤ ob

theorem RoA.next {w wr w' : World} {k a b c : Int} {ob : Nat} {r : Ru} (h : RoA w wr k a b c ob r) (hb : Below wr.heap.size wr w') : RoA w w' k a b c ob r :=
  ⟨nextB h.below (Nat.le_refl _) hb, h.bx.below hb h.bx.lt, h.res.below hb h.res.lt, h.out.below hb h.out.lt, h.ge⟩

theorem setR_block (w : World) (g : Nat) (a b c d e f : Value) {k : Nat} (hk : k ≠ g) : ((((((w.setCell ⟨g, 0, none⟩ a).setCell ⟨g, 1, none⟩ b).setCell ⟨g, 2, none⟩ c).setCell ⟨g, 3, none⟩ d).setCell ⟨g, 4, none⟩ e).setCell ⟨g, 5, none⟩ f).heap[k]? = w.heap[k]? := by
  simp only [Below.heap_setCell _ _ _ _ (show k ≠ (⟨g, _, none⟩ : Addr).block from hk)]

def setR (w : World) (g : Nat) (r : Ru) : World := (((((w.setCell ⟨g, 0, none⟩ (.int .i64 r.c)).setCell ⟨g, 1, none⟩ (.int .i64 r.s)).setCell ⟨g, 2, none⟩ (.int .i64 r.lo)).setCell ⟨g, 3, none⟩ (.int .i64 r.hi)).setCell ⟨g, 4, none⟩ (.int .i64 r.t)).setCell ⟨g, 5, none⟩ (.int .i64 r.l)

theorem setR_row {w : World} {g : Nat} {r r' : Ru} (h : RowL w g 38 (ruV r)) : RowL (setR w g r') g 38 (ruV r') :=
  (((((h.set 0 _).set 1 _).set 2 _).set 3 _).set 4 _).set 5 _

theorem setR_below {B : Nat} {w wr : World} (h : Below B w wr) {g : Nat} (hg : B ≤ g) (r : Ru) : Below B w (setR wr g r) :=
  (((((h.setCell (p := ⟨g, 0, none⟩) hg _).setCell (p := ⟨g, 1, none⟩) hg _).setCell (p := ⟨g, 2, none⟩) hg _).setCell (p := ⟨g, 3, none⟩) hg _).setCell (p := ⟨g, 4, none⟩) hg _).setCell (p := ⟨g, 5, none⟩) hg _

theorem RoA.turn {w wr : World} {k a b c : Int} {ob : Nat} {r r' : Ru} (h : RoA w wr k a b c ob r) : RoA w (setR wr ob r') k a b c ob r' := by
  have hg := h.ge
  exact ⟨setR_below h.below (by omega) _, h.bx.of_block (setR_block _ _ _ _ _ _ _ _ (by omega)), h.res.of_block (setR_block _ _ _ _ _ _ _ _ (by omega)), setR_row h.out, hg⟩

/-- The two boxes that stand first. -/
structure RoB (w wr : World) (k a b c : Int) : Prop where
  below : Below w.heap.size w wr
  bx : RowL wr w.heap.size 44 [.int .i64 k, .int .i64 a, .int .i64 b, .int .i64 c]
  res : RowL wr (w.heap.size + 1) 38 (ruV zro)

theorem RoB.start (w : World) (k a b c : Int) : RoB w ((w.alloc (.cells #[.int .i64 k, .int .i64 a, .int .i64 b, .int .i64 c] 44)).alloc (.cells #[.int .i64 0, .int .i64 0, .int .i64 0, .int .i64 0, .int .i64 0, .int .i64 0] 38)) k a b c := by
  have s1 : (w.alloc (.cells #[.int .i64 k, .int .i64 a, .int .i64 b, .int .i64 c] 44)).heap.size = w.heap.size + 1 := by simp
  have r0 : RowL (w.alloc (.cells #[.int .i64 k, .int .i64 a, .int .i64 b, .int .i64 c] 44)) w.heap.size 44 [.int .i64 k, .int .i64 a, .int .i64 b, .int .i64 c] := rowL_alloc w _ _
  have r1 := rowL_alloc (w.alloc (.cells #[.int .i64 k, .int .i64 a, .int .i64 b, .int .i64 c] 44)) (ruV zro) 38
  rw [s1] at r1
  exact ⟨((Below.refl _ _).alloc (Nat.le_refl _) _).alloc (by omega) _, r0.of_block (Below.heap_alloc _ _ _ (by omega)), r1⟩

theorem RoB.next {w wr w' : World} {k a b c : Int} (h : RoB w wr k a b c) (hb : Below wr.heap.size wr w') : RoB w w' k a b c :=
  ⟨nextB h.below (Nat.le_refl _) hb, h.bx.below hb h.bx.lt, h.res.below hb h.res.lt⟩

/-- Made behind the call .. -/
theorem RoB.late {w wr : World} {k a b c : Int} (h : RoB w wr k a b c) (r : Ru) : RoA w (wr.alloc (.cells (ruV r).toArray 38)) k a b c wr.heap.size r := by
  have h1 := h.next ((Below.refl _ _).alloc (Nat.le_refl _) (.cells (ruV r).toArray 38))
  exact ⟨h1.below, h1.bx, h1.res, rowL_alloc wr _ _, by have := h.res.lt; omega⟩

/-- .. or ahead of it. -/
theorem RoB.early {w wr w1 : World} {k a b c : Int} {ob : Nat} (h : RoB w wr k a b c) (hb : Below (wr.alloc (.cells (ruV zro).toArray 38)).heap.size (wr.alloc (.cells (ruV zro).toArray 38)) w1) (r : Ru) (e : wr.heap.size = ob) : RoA w (setR w1 ob r) k a b c ob r := by
  subst e
  exact ((h.late zro).next hb).turn

/-- In a round: what is out so far, and one more. -/
structure RoC (w wr : World) (k a b c : Int) (ob xb : Nat) (r x : Ru) : Prop where
  roa : RoA w wr k a b c ob r
  bx : RowL wr xb 38 (ruV x)
  gt : ob < xb

theorem RoA.late {w wr : World} {k a b c : Int} {ob : Nat} {r : Ru} (h : RoA w wr k a b c ob r) (x : Ru) : RoC w (wr.alloc (.cells (ruV x).toArray 38)) k a b c ob wr.heap.size r x :=
  ⟨h.next ((Below.refl _ _).alloc (Nat.le_refl _) _), rowL_alloc wr _ _, h.out.lt⟩

theorem RoA.early {w wr w1 : World} {k a b c : Int} {ob xb : Nat} {r : Ru} (h : RoA w wr k a b c ob r) (hb : Below (wr.alloc (.cells (ruV zro).toArray 38)).heap.size (wr.alloc (.cells (ruV zro).toArray 38)) w1) (x : Ru) (e : wr.heap.size = xb) : RoC w (setR w1 xb x) k a b c ob xb r x := by
  subst e
  have h1 := (h.late zro).roa.next hb
  have l1 := h.out.lt
  have hr : RowL w1 wr.heap.size 38 (ruV zro) := (rowL_alloc wr _ _).below hb (by simp)
  have hg := h.ge
  refine ⟨⟨setR_below h1.below (by omega) _, h1.bx.of_block (setR_block _ _ _ _ _ _ _ _ (by omega)), h1.res.of_block (setR_block _ _ _ _ _ _ _ _ (by omega)), h1.out.of_block (setR_block _ _ _ _ _ _ _ _ (by omega)), hg⟩, setR_row hr, l1⟩

end Go.Proofs.YtlojfgdpmaigmacGreatDoor

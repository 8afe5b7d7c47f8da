/- base.mergeAll: what all entries come to. -/
import Derived.Test.YtlojfgdpmaigmaeGreatDoorP32
import Derived.Test.YtlojfgdpmaigmaeGreatDoorP45
namespace Go.Proofs.YtlojfgdpmaigmaeGreatDoor
open Go.RowKit Plain

def setB6 (w : World) (g : Nat) (r : Ru) : World := (((((w.setCell ⟨g, 0, none⟩ (.int .i64 r.c)).setCell ⟨g, 1, none⟩ (.int .i64 r.s)).setCell ⟨g, 2, none⟩ (.int .i64 r.lo)).setCell ⟨g, 3, none⟩ (.int .i64 r.hi)).setCell ⟨g, 4, none⟩ (.int .i64 r.t)).setCell ⟨g, 5, none⟩ (.int .i64 r.l)

theorem setB6_below {B : Nat} {w wr : World} (h : Below B w wr) {g : Nat} (hg : B ≤ g) (r : Ru) : Below B w (setB6 wr g r) :=
  (((((h.setCell (p := ⟨g, 0, none⟩) hg _).setCell (p := ⟨g, 1, none⟩) hg _).setCell (p := ⟨g, 2, none⟩) hg _).setCell (p := ⟨g, 3, none⟩) hg _).setCell (p := ⟨g, 4, none⟩) hg _).setCell (p := ⟨g, 5, none⟩) hg _

/-- What mergeAll answers. -/
def MaTo (s : Ru × Int) (w : World) (e : Ending) (w' : World) : Prop :=
  e = .returned (.tuple #[.agg #[.int .i64 s.1.c, .int .i64 s.1.s, .int .i64 s.1.lo, .int .i64 s.1.hi, .int .i64 s.1.t, .int .i64 s.1.l], .int .i64 s.2]) ∧ Below w.heap.size w w'

theorem maTo {S : Ru × Int} {r : Ru} {c : Int} {w w' : World} (h : S = (r, c)) (hb : Below w.heap.size w w') : MaTo S w (.returned (.tuple #[.agg #[.int .i64 r.c, .int .i64 r.s, .int .i64 r.lo, .int .i64 r.hi, .int .i64 r.t, .int .i64 r.l], .int .i64 c])) w' := by
  subst h
  exact ⟨rfl, hb⟩

theorem maZ {S : Ru × Int} {c : Int} {w w' : World} (h : S = (zro, c)) (hb : Below w.heap.size w w') : MaTo S w (.returned (.tuple #[.agg #[.int .i64 0, .int .i64 0, .int .i64 0, .int .i64 0, .int .i64 0, .int .i64 0], .int .i64 c])) w' := maTo h hb

end Go.Proofs.YtlojfgdpmaigmaeGreatDoor

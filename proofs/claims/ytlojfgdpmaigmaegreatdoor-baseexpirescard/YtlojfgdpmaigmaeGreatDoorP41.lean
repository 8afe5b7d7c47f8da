/- What goes down a tree: lists of entries that tell the same; a list with an entry more. In plain terms. -/
import Derived.Test.YtlojfgdpmaigmaeGreatDoorP30
import Derived.Test.YtlojfgdpmaigmaeGreatDoorP33
import Derived.Test.YtlojfgdpmaigmaeGreatDoorP28
import Derived.Test.YtlojfgdpmaigmaeGreatDoorP20
import Derived.Test.YtlojfgdpmaigmaeGreatDoorP36
import Derived.Test.YtlojfgdpmaigmaeGreatDoorP34
import Derived.Test.YtlojfgdpmaigmaeGreatDoorP37
import Derived.Test.YtlojfgdpmaigmaeGreatDoorP35
namespace Go.Proofs.YtlojfgdpmaigmaeGreatDoor
open Go.RowKit Plain

end Go.Proofs.YtlojfgdpmaigmaeGreatDoor

/- What goes down a tree: the node's kids, what is below. In plain terms. -/
namespace Go.Proofs.YtlojfgdpmaigmaeGreatDoor
open Go.RowKit Plain

/-! ### Which kid -/

end Go.Proofs.YtlojfgdpmaigmaeGreatDoor

/- What goes down a tree: each step, in plain terms. -/
namespace Go.Proofs.YtlojfgdpmaigmaeGreatDoor
open Go.RowKit Plain

end Go.Proofs.YtlojfgdpmaigmaeGreatDoor

/- How many nodes there are when all that hold too much are split. In plain terms. -/
namespace Go.Proofs.YtlojfgdpmaigmaeGreatDoor
open Go.RowKit Plain

end Go.Proofs.YtlojfgdpmaigmaeGreatDoor

/- What Put makes of a tree: in plain terms. -/
namespace Go.Proofs.YtlojfgdpmaigmaeGreatDoor
open Go.RowKit Plain

end Go.Proofs.YtlojfgdpmaigmaeGreatDoor

/- A tree in memory of one's own: one list of a node is turned. -/
namespace Go.Proofs.YtlojfgdpmaigmaeGreatDoor
open Go.RowKit Plain

end Go.Proofs.YtlojfgdpmaigmaeGreatDoor

/- tree.sink at a leaf; tree.stuck. -/
namespace Go.Proofs.YtlojfgdpmaigmaeGreatDoor
open Go.RowKit Plain Go.Shelf

end Go.Proofs.YtlojfgdpmaigmaeGreatDoor

/- tree.flush: what stands where. -/
namespace Go.Proofs.YtlojfgdpmaigmaeGreatDoor
open Go.RowKit Plain Go.Shelf

end Go.Proofs.YtlojfgdpmaigmaeGreatDoor

/- A node of a tree in memory of one's own adopts the siblings of a kid. -/
namespace Go.Proofs.YtlojfgdpmaigmaeGreatDoor
open Go.RowKit Plain

end Go.Proofs.YtlojfgdpmaigmaeGreatDoor

/- The walk of splitAll. -/
namespace Go.Proofs.YtlojfgdpmaigmaeGreatDoor
open Go.RowKit Plain

theorem own_base' {w : World} {base base' : Nat} {e : TypeId} {size n : Nat} {v : Value} {vs : List Value} (h : w.ownsRow base e size v n vs) (hb : base' ≤ base) : w.ownsRow base' e size v n vs := by
  refine ⟨h.1, ?_⟩
  rcases h.2 with q | ⟨g, cap, cur, h1, h2, rest⟩
  · exact .inl q
  · exact .inr ⟨g, cap, cur, h1, Nat.le_trans hb h2, rest⟩

end Go.Proofs.YtlojfgdpmaigmaeGreatDoor

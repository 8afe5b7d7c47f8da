/- A tree in memory of one's own: one list of a node is turned. -/
import Derived.Test.YtlojfgdpmaigmafGreatDoorP38
import Derived.Test.YtlojfgdpmaigmafGreatDoorP33
import Derived.Test.YtlojfgdpmaigmafGreatDoorP31
import Derived.Test.YtlojfgdpmaigmafGreatDoorP34
namespace Go.Proofs.YtlojfgdpmaigmafGreatDoor
open Go.RowKit Plain

end Go.Proofs.YtlojfgdpmaigmafGreatDoor

/- tree.sink at a leaf; tree.stuck. -/
namespace Go.Proofs.YtlojfgdpmaigmafGreatDoor
open Go.RowKit Plain Go.Shelf

end Go.Proofs.YtlojfgdpmaigmafGreatDoor

/- tree.flush: what stands where. -/
namespace Go.Proofs.YtlojfgdpmaigmafGreatDoor
open Go.RowKit Plain Go.Shelf

end Go.Proofs.YtlojfgdpmaigmafGreatDoor

/- tree.sink at a node with kids. -/
namespace Go.Proofs.YtlojfgdpmaigmafGreatDoor
open Go.RowKit Plain Go.Shelf

end Go.Proofs.YtlojfgdpmaigmafGreatDoor

/- A node of a tree in memory of one's own adopts the siblings of a kid. -/
namespace Go.Proofs.YtlojfgdpmaigmafGreatDoor
open Go.RowKit Plain

theorem own_glue {w : World} {base g C n : Nat} {e : TypeId} {size : Nat} {vs cur : List Value} (hr : RowL w g e cur) (hl : cur.length = C * size) (ht : cur.take (n * size) = vs) (hn : n ≤ C) (hm : C ≤ maxLen) (hb : base ≤ g) (hv : vs.length = n * size) : w.ownsRow base e size (.slice (some ⟨g, 0, none⟩) n C) n vs :=
  ⟨hv, .inr ⟨g, C, cur.toArray, rfl, hb, hr, hn, hm, by simpa using hl, by simpa using ht⟩⟩

end Go.Proofs.YtlojfgdpmaigmafGreatDoor

/- The walk of splitAll. -/
namespace Go.Proofs.YtlojfgdpmaigmafGreatDoor
open Go.RowKit Plain

theorem own_base' {w : World} {base base' : Nat} {e : TypeId} {size n : Nat} {v : Value} {vs : List Value} (h : w.ownsRow base e size v n vs) (hb : base' ≤ base) : w.ownsRow base' e size v n vs := by
  refine ⟨h.1, ?_⟩
  rcases h.2 with q | ⟨g, cap, cur, h1, h2, rest⟩
  · exact .inl q
  · exact .inr ⟨g, cap, cur, h1, Nat.le_trans hb h2, rest⟩

end Go.Proofs.YtlojfgdpmaigmafGreatDoor

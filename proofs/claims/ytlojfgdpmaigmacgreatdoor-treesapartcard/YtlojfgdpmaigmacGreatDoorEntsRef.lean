/- Entries that may be (P2.1): the document's test. -/
import Derived.Test.YtlojfgdpmaigmacGreatDoorP12
import Derived.BigQuiet
namespace Go.Proofs.YtlojfgdpmaigmacGreatDoor
open Go.RowKit Plain

theorem below_drewN {B : Nat} {w w' : World} (h : Below B w w') (n : Nat) : Below B w (w'.drewN n) := ⟨h.os, h.tape, h.output, h.size, h.block⟩

end Go.Proofs.YtlojfgdpmaigmacGreatDoor

/- What the document's answer to Merge does, where something is refused or one has no points. -/
import Derived.Test.YtlojfgdpmaigmaeGreatDoorP06
namespace Go.Proofs.YtlojfgdpmaigmaeGreatDoor
open Go.RowKit Plain

end Go.Proofs.YtlojfgdpmaigmaeGreatDoor

/- What the document's answer to Merge does with two that have points. -/
namespace Go.Proofs.YtlojfgdpmaigmaeGreatDoor
open Go.RowKit Plain

end Go.Proofs.YtlojfgdpmaigmaeGreatDoor

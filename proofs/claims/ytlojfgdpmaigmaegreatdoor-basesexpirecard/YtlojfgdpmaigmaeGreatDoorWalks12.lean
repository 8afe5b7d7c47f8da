/- What the document's answer to Merge does with two that have points. -/
import Derived.Test.YtlojfgdpmaigmaeGreatDoorP07
namespace Go.Proofs.YtlojfgdpmaigmaeGreatDoor
open Go.RowKit Plain

end Go.Proofs.YtlojfgdpmaigmaeGreatDoor

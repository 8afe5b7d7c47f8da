/- What the document's answer to Merge does with two that have points. -/
import Derived.Test.YtlojfgdpmaigmafGreatDoorP05
namespace Go.Proofs.YtlojfgdpmaigmafGreatDoor
open Go.RowKit Plain

end Go.Proofs.YtlojfgdpmaigmafGreatDoor

/- What the document's answer to Merge does, where something is refused or one has no points. -/
import Derived.Test.YtlojfgdpmaigmaeGreatDoorP05
namespace Go.Proofs.YtlojfgdpmaigmaeGreatDoor
open Go.RowKit Plain

end Go.Proofs.YtlojfgdpmaigmaeGreatDoor

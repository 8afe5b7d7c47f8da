/- The document's 'height' of a tree: nodes that are no leaves. -/
import Derived.Test.YtlojfgdpmaigmaeGreatDoorP20
namespace Go.Proofs.YtlojfgdpmaigmaeGreatDoor
open Go.RowKit Plain

end Go.Proofs.YtlojfgdpmaigmaeGreatDoor

/- The document's 'height' of a tree, walked. -/
namespace Go.Proofs.YtlojfgdpmaigmaeGreatDoor
open Go.RowKit Plain

end Go.Proofs.YtlojfgdpmaigmaeGreatDoor

/- The document's answer to Check of package tree. -/
namespace Go.Proofs.YtlojfgdpmaigmaeGreatDoor
open Go.RowKit Plain

end Go.Proofs.YtlojfgdpmaigmaeGreatDoor

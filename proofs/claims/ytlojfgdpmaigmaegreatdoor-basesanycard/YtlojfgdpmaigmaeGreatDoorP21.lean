/- The document's 'height' of a tree: the loop over a node's kids. -/
import Derived.Test.YtlojfgdpmaigmaeGreatDoorP20
namespace Go.Proofs.YtlojfgdpmaigmaeGreatDoor
open Go.RowKit Plain

end Go.Proofs.YtlojfgdpmaigmaeGreatDoor

/- The document's 'height' of a tree: nodes that are no leaves. -/
namespace Go.Proofs.YtlojfgdpmaigmaeGreatDoor
open Go.RowKit Plain

end Go.Proofs.YtlojfgdpmaigmaeGreatDoor

/- The document's 'height' of a tree, walked. -/
namespace Go.Proofs.YtlojfgdpmaigmaeGreatDoor
open Go.RowKit Plain

end Go.Proofs.YtlojfgdpmaigmaeGreatDoor

/- The document's answer to Check of package tree. -/
namespace Go.Proofs.YtlojfgdpmaigmaeGreatDoor
open Go.RowKit Plain

end Go.Proofs.YtlojfgdpmaigmaeGreatDoor

/- tree.sink at a node with kids. -/
import Derived.Test.YtlojfgdpmaigmaeGreatDoorP41
import Derived.Test.YtlojfgdpmaigmaeGreatDoorFlushWalk
namespace Go.Proofs.YtlojfgdpmaigmaeGreatDoor
open Go.RowKit Plain Go.Shelf

end Go.Proofs.YtlojfgdpmaigmaeGreatDoor

/- tree.flush and tree.sink, at whatever node. -/
namespace Go.Proofs.YtlojfgdpmaigmaeGreatDoor
open Go.RowKit Plain Go.Shelf

end Go.Proofs.YtlojfgdpmaigmaeGreatDoor

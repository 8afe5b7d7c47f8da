/- tree.flush and tree.sink, at whatever node. -/
import Derived.Test.YtlojfgdpmaigmafGreatDoorFlushWalk
import Derived.Test.YtlojfgdpmaigmafGreatDoorP39
namespace Go.Proofs.YtlojfgdpmaigmafGreatDoor
open Go.RowKit Plain Go.Shelf

end Go.Proofs.YtlojfgdpmaigmafGreatDoor

/- tree.flush. -/
import Derived.Test.YtlojfgdpmaigmafGreatDoorP39
namespace Go.Proofs.YtlojfgdpmaigmafGreatDoor
open Go.RowKit Plain Go.Shelf

end Go.Proofs.YtlojfgdpmaigmafGreatDoor

/- A reader's times: the walk of all. -/
import Derived.Test.YtlojfgdpmaigmafDoorP13
import Derived.Test.YtlojfgdpmaigmafDoorReadNames
namespace Go.Proofs.YtlojfgdpmaigmafDoor
open Go.RowKit Plain

end Go.Proofs.YtlojfgdpmaigmafDoor

/- base.Copy: the same base, in memory of its own. -/
import Derived.Shelf.Strconv.Clone
import Derived.BigQuiet
import Derived.Test.YtlojfgdpmaigmafDoorLays
import Derived.Test.YtlojfgdpmaigmafDoorCopyWalk
import Derived.Test.YtlojfgdpmaigmafDoorP14
namespace Go.Proofs.YtlojfgdpmaigmafDoor
open Go.RowKit Go.Shelf

end Go.Proofs.YtlojfgdpmaigmafDoor

/- Copy of package tree. -/
import Derived.Test.YtlojfgdpmaigmafDoorP06
import Derived.Deep.DeepCutAuto
namespace Go.Proofs.YtlojfgdpmaigmafDoor
open Go.RowKit

end Go.Proofs.YtlojfgdpmaigmafDoor

/- Copy of package tree. -/
import Derived.Test.YtlojfgdpmaigmafDoorP05
import Derived.Deep.DeepCutAuto
namespace Go.Proofs.YtlojfgdpmaigmafDoor
open Go.RowKit

end Go.Proofs.YtlojfgdpmaigmafDoor

/- The program's walk over a tree. -/
import Derived.Test.YtlojfgdpmaigmafGreatDoorP19
import Derived.Test.YtlojfgdpmaigmafGreatDoorP22
namespace Go.Proofs.YtlojfgdpmaigmafGreatDoor
open Go.RowKit Plain

end Go.Proofs.YtlojfgdpmaigmafGreatDoor

/- The program's walk over a tree: all of it; and what knownAt makes of it. -/
namespace Go.Proofs.YtlojfgdpmaigmafGreatDoor
open Go.RowKit Plain

end Go.Proofs.YtlojfgdpmaigmafGreatDoor

/- What comes together, for one key. -/
namespace Go.Proofs.YtlojfgdpmaigmafGreatDoor
open Go.RowKit Plain

end Go.Proofs.YtlojfgdpmaigmafGreatDoor

/- tree.knownAt and tree.Get. -/
namespace Go.Proofs.YtlojfgdpmaigmafGreatDoor
open Go.RowKit Plain

end Go.Proofs.YtlojfgdpmaigmafGreatDoor

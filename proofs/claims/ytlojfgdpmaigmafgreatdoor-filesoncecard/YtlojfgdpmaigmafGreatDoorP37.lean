/- tree.with: a list with an entry more; tree.canWait, tree.kidOf. -/
import Derived.Test.YtlojfgdpmaigmafGreatDoorP36
import Derived.Test.YtlojfgdpmaigmafGreatDoorP19
import Derived.Shelf.Slices.SearchI
namespace Go.Proofs.YtlojfgdpmaigmafGreatDoor
open Go.RowKit Plain Go.Shelf

end Go.Proofs.YtlojfgdpmaigmafGreatDoor

/- tree.kidOf, tree.greatest. -/
namespace Go.Proofs.YtlojfgdpmaigmafGreatDoor
open Go.RowKit Plain Go.Shelf

end Go.Proofs.YtlojfgdpmaigmafGreatDoor

/- tree.with: a list with an entry more; tree.canWait, tree.kidOf. -/
import Derived.Test.YtlojfgdpmaigmaeGreatDoorP24
import Derived.Test.YtlojfgdpmaigmaeGreatDoorP27
import Derived.Shelf.Slices.SearchI
namespace Go.Proofs.YtlojfgdpmaigmaeGreatDoor
open Go.RowKit Plain Go.Shelf

end Go.Proofs.YtlojfgdpmaigmaeGreatDoor

/- tree.kidOf, tree.greatest. -/
namespace Go.Proofs.YtlojfgdpmaigmaeGreatDoor
open Go.RowKit Plain Go.Shelf

end Go.Proofs.YtlojfgdpmaigmaeGreatDoor

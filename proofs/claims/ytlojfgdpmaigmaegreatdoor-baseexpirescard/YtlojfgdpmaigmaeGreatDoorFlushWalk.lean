/- tree.flush. -/
import Derived.Test.YtlojfgdpmaigmaeGreatDoorP41
namespace Go.Proofs.YtlojfgdpmaigmaeGreatDoor
open Go.RowKit Plain Go.Shelf

end Go.Proofs.YtlojfgdpmaigmaeGreatDoor

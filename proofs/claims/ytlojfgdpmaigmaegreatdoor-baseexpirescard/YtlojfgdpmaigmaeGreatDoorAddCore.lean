/- base.Add: its walk. -/
import Derived.Test.YtlojfgdpmaigmaeGreatDoorP49
import Derived.Deep.DeepCutAuto
namespace Go.Proofs.YtlojfgdpmaigmaeGreatDoor
open Go.RowKit Plain Go.Shelf

end Go.Proofs.YtlojfgdpmaigmaeGreatDoor

/- The document's total. -/
import Derived.Test.YtlojfgdpmaigmafGreatDoorP45
import Derived.Test.YtlojfgdpmaigmafGreatDoorP30
namespace Go.Proofs.YtlojfgdpmaigmafGreatDoor
open Go.RowKit Plain

def qz7 : Op := .load 49 (.tmp 13)
theorem qxh : Op.load 49 (.tmp 13) = qz7 := rfl
theorem qn8 : qz7 = Op.load 49 (.tmp 13) := rfl
attribute [local go_sem] qn8

end Go.Proofs.YtlojfgdpmaigmafGreatDoor

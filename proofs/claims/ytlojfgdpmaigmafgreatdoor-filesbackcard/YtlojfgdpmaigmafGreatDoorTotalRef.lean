/- The document's total. -/
import Derived.Test.YtlojfgdpmaigmafGreatDoorP45
import Derived.Test.YtlojfgdpmaigmafGreatDoorP30
namespace Go.Proofs.YtlojfgdpmaigmafGreatDoor
open Go.RowKit Plain

def qxr : Op := .load 49 (.tmp 13)
theorem qxg : Op.load 49 (.tmp 13) = qxr := rfl
theorem qmi : qxr = Op.load 49 (.tmp 13) := rfl
attribute [local go_sem] qmi

end Go.Proofs.YtlojfgdpmaigmafGreatDoor

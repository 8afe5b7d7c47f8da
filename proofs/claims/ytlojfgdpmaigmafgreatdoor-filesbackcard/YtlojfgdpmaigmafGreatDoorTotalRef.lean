/- The document's total. -/
import Derived.Test.YtlojfgdpmaigmafGreatDoorP45
import Derived.Test.YtlojfgdpmaigmafGreatDoorP30
namespace Go.Proofs.YtlojfgdpmaigmafGreatDoor
open Go.RowKit Plain

/-- The load of what is known so far: by a name (its region stores there in the end). -/
def ldTot : Op := .load 49 (.tmp 13)
theorem ldTot_fold : Op.load 49 (.tmp 13) = ldTot := rfl
theorem ldTot_open : ldTot = Op.load 49 (.tmp 13) := rfl
attribute [local go_sem] ldTot_open

end Go.Proofs.YtlojfgdpmaigmafGreatDoor

/- The document's total. -/
import Derived.Test.YtlojfgdpmaigmafGreatDoorP41
import Derived.Test.YtlojfgdpmaigmafGreatDoorP40
namespace Go.Proofs.YtlojfgdpmaigmafGreatDoor
open Go.RowKit Plain

def z0l:Op:=.load 49 (.tmp 13)
theorem z0j:Op.load 49 (.tmp 13)=z0l:=rfl
theorem qp9:z0l=Op.load 49 (.tmp 13):=rfl
attribute [local go_sem] qp9

end Go.Proofs.YtlojfgdpmaigmafGreatDoor

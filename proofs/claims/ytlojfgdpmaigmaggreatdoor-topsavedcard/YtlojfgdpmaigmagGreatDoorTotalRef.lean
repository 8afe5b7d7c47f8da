/- The document's total. -/
import Derived.Test.YtlojfgdpmaigmagGreatDoorP38
import Derived.Test.YtlojfgdpmaigmagGreatDoorP26
namespace Go.Proofs.YtlojfgdpmaigmagGreatDoor
open Go.RowKit Plain

def z2c:Op:=.load 42 (.tmp 13)
theorem z1q:Op.load 42 (.tmp 13)=z2c:=rfl
theorem qqa:z2c=Op.load 42 (.tmp 13):=rfl
attribute [local go_sem] qqa

end Go.Proofs.YtlojfgdpmaigmagGreatDoor

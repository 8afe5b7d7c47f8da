/- The document's total. -/
import Derived.Test.YtlojfgdpmaigmagGreatDoorP39
import Derived.Test.YtlojfgdpmaigmagGreatDoorP27
namespace Go.Proofs.YtlojfgdpmaigmagGreatDoor
open Go.RowKit Plain

def qr3:Op:=.load 42 (.tmp 13)
theorem qox:Op.load 42 (.tmp 13)=qr3:=rfl
theorem qda:qr3=Op.load 42 (.tmp 13):=rfl
attribute [local go_sem] qda

end Go.Proofs.YtlojfgdpmaigmagGreatDoor

/- The document's total. -/
import Derived.Test.YtlojfgdpmaigmagGreatDoorP39
import Derived.Test.YtlojfgdpmaigmagGreatDoorP27
namespace Go.Proofs.YtlojfgdpmaigmagGreatDoor
open Go.RowKit Plain

def qrj:Op:=.load 42 (.tmp 13)
theorem qp6:Op.load 42 (.tmp 13)=qrj:=rfl
theorem qcw:qrj=Op.load 42 (.tmp 13):=rfl
attribute [local go_sem] qcw

end Go.Proofs.YtlojfgdpmaigmagGreatDoor

/- The document's total. -/
import Derived.Test.YtlojfgdpmaigmagGreatDoorP40
import Derived.Test.YtlojfgdpmaigmagGreatDoorP28
namespace Go.Proofs.YtlojfgdpmaigmagGreatDoor
open Go.RowKit Plain

def qpk:Op:=.load 42 (.tmp 13)
theorem qp6:Op.load 42 (.tmp 13)=qpk:=rfl
theorem qcs:qpk=Op.load 42 (.tmp 13):=rfl
attribute [local go_sem] qcs

end Go.Proofs.YtlojfgdpmaigmagGreatDoor

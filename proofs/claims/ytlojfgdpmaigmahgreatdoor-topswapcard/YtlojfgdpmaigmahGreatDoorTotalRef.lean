/- The document's total. -/
import Derived.Test.YtlojfgdpmaigmahGreatDoorP40
import Derived.Test.YtlojfgdpmaigmahGreatDoorP31
namespace Go.Proofs.YtlojfgdpmaigmahGreatDoor
open Go.RowKit Plain

def z3v:Op:=.load 58 (.tmp 13)
theorem z1p:Op.load 58 (.tmp 13)=z3v:=rfl
theorem qq5:z3v=Op.load 58 (.tmp 13):=rfl
attribute [local go_sem] qq5

end Go.Proofs.YtlojfgdpmaigmahGreatDoor

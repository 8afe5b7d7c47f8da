/- Acts that are picked out of a row, one by one. -/
import Derived.Test.YtlojfgdpmaigmagGreatDoorActsWalk
import Derived.Test.YtlojfgdpmaigmagGreatDoorP50
namespace Go.Proofs.YtlojfgdpmaigmagGreatDoor
open Go.RowKit Plain Go.Shelf

theorem qd5{B:Nat}{w0 wr w7:World}{row:Option Nat}(h:Below B w0 wr)(hB:B<=wr.heap.size)(g:wr.grownBy w7 row)(hr:∀q,row=some q->B<=q):Below B w0 w7:=
 ⟨g.os.trans h.os,g.tape.trans h.tape,g.output.trans h.output,Nat.le_trans h.size g.size,fun k hk=>(g.block k (Nat.lt_of_lt_of_le hk hB) fun e=>by have:=hr k e.symm;omega).trans (h.block k hk)⟩

end Go.Proofs.YtlojfgdpmaigmagGreatDoor

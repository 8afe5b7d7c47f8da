/- TreeTells of package winnowerkeep: it is so. -/
import Derived.Test.YtlojfgdpmaigmagGreatDoorP43
import Derived.Test.YtlojfgdpmaigmagGreatDoorP13
import Derived.Test.YtlojfgdpmaigmagGreatDoorP09
namespace Go.Proofs.YtlojfgdpmaigmagGreatDoor
open Go.RowKit Plain Go.Shelf

theorem qb6:allP ([q3o].map PN.nd) 0 0 1099511627776=(0,[]):=by
 have h:q1l ([q3o].map PN.nd) 0=0:=by decide
 exact qra h (by rw[qat h];rfl)

theorem qd3:q2n [] 0 ([q3o].map PN.nd) 0 ([q3o].map PN.nd) 0 ([q3o].map PN.nd) 0=true:=by
 have hb:q7h ([q3o].map PN.nd) 0 0 0=some []:=by
  unfold q7h
  rw[qb6]
  rfl
 have hs:∀sz,q2y sz [] ([q3o].map PN.nd) 0=true:=fun sz=>by
  unfold q2y
  rw[qb6]
  rfl
 have ht:q9m 0 0 ([q3o].map PN.nd) 0 ([q3o].map PN.nd) 0 ([q3o].map PN.nd) 0=true:=by
  unfold q9m
  rw[hb]
  simp only[hs]
  rfl
 unfold q2n
 have e:((([]:List ByteArray).length:Nat):Int)=0:=rfl
 rw[e,ht]
 decide

theorem z1y{L0 L1 L2:List En}(h:qcp [] 0 ([q3o].map PN.nd) 0 ([q3o].map PN.nd) 0 ([q3o].map PN.nd) 0 L0 L1 L2):L0=[]/\L1=[]/\L2=[]:=
 ⟨(Prod.mk.inj (h.a0.symm.trans qb6)).2,(Prod.mk.inj (h.a1.symm.trans qb6)).2,(Prod.mk.inj (h.a2.symm.trans qb6)).2⟩

end Go.Proofs.YtlojfgdpmaigmagGreatDoor

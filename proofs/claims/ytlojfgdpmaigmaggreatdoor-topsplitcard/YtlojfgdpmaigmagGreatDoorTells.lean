/- TreeTells of package winnowerkeep: it is so. -/
import Derived.Test.YtlojfgdpmaigmagGreatDoorP45
import Derived.Test.YtlojfgdpmaigmagGreatDoorP12
import Derived.Test.YtlojfgdpmaigmagGreatDoorP08
namespace Go.Proofs.YtlojfgdpmaigmagGreatDoor
open Go.RowKit Plain Go.Shelf

theorem uG:allP ([cO].map PN.nd) 0 0 1099511627776=(0,[]):=by
 have h:aT ([cO].map PN.nd) 0=0:=by decide
 exact qf9 h (by rw[uH h];rfl)

theorem xZ:bK [] 0 ([cO].map PN.nd) 0 ([cO].map PN.nd) 0 ([cO].map PN.nd) 0=true:=by
 have hb:fU ([cO].map PN.nd) 0 0 0=some []:=by
  unfold fU
  rw[uG]
  rfl
 have hs:∀sz,bY sz [] ([cO].map PN.nd) 0=true:=fun sz=>by
  unfold bY
  rw[uG]
  rfl
 have ht:lG 0 0 ([cO].map PN.nd) 0 ([cO].map PN.nd) 0 ([cO].map PN.nd) 0=true:=by
  unfold lG
  rw[hb]
  simp only[hs]
  rfl
 unfold bK
 have e:((([]:List ByteArray).length:Nat):Int)=0:=rfl
 rw[e,ht]
 decide

theorem qpp{L0 L1 L2:List En}(h:kQ [] 0 ([cO].map PN.nd) 0 ([cO].map PN.nd) 0 ([cO].map PN.nd) 0 L0 L1 L2):L0=[]/\L1=[]/\L2=[]:=
 ⟨(Prod.mk.inj (h.a0.symm.trans uG)).2,(Prod.mk.inj (h.a1.symm.trans uG)).2,(Prod.mk.inj (h.a2.symm.trans uG)).2⟩

end Go.Proofs.YtlojfgdpmaigmagGreatDoor

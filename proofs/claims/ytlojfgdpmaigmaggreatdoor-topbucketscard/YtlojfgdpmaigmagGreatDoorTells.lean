/- TreeTells of package winnowerkeep: it is so. -/
import Derived.Test.YtlojfgdpmaigmagGreatDoorP44
import Derived.Test.YtlojfgdpmaigmagGreatDoorP12
import Derived.Test.YtlojfgdpmaigmagGreatDoorP08
namespace Go.Proofs.YtlojfgdpmaigmagGreatDoor
open Go.RowKit Plain Go.Shelf

theorem tZ:allP ([cO].map PN.nd) 0 0 1099511627776=(0,[]):=by
 have h:aT ([cO].map PN.nd) 0=0:=by decide
 exact qgm h (by rw[uF h];rfl)

theorem xI:bM [] 0 ([cO].map PN.nd) 0 ([cO].map PN.nd) 0 ([cO].map PN.nd) 0=true:=by
 have hb:fU ([cO].map PN.nd) 0 0 0=some []:=by
  unfold fU;rw[tZ]
  rfl
 have hs:∀sz,bW sz [] ([cO].map PN.nd) 0=true:=fun sz=>by
  unfold bW;rw[tZ]
  rfl
 have ht:lG 0 0 ([cO].map PN.nd) 0 ([cO].map PN.nd) 0 ([cO].map PN.nd) 0=true:=by
  unfold lG;rw[hb];simp only[hs]
  rfl
 unfold bM;have e:((([]:List ByteArray).length:Nat):Int)=0:=rfl;rw[e,ht]
 decide

theorem qp1{L0 L1 L2:List En}(h:kL [] 0 ([cO].map PN.nd) 0 ([cO].map PN.nd) 0 ([cO].map PN.nd) 0 L0 L1 L2):L0=[]/\L1=[]/\L2=[]:=
 ⟨(Prod.mk.inj (h.a0.symm.trans tZ)).2,(Prod.mk.inj (h.a1.symm.trans tZ)).2,(Prod.mk.inj (h.a2.symm.trans tZ)).2⟩

end Go.Proofs.YtlojfgdpmaigmagGreatDoor

/- The table of sizes, as the program's text lays it. -/
import Derived.Test.YtlojfgdpmaigmagGreatDoorP02
import Derived.Test.YtlojfgdpmaigmagGreatDoorP08
import Derived.Test.YtlojfgdpmaigmagGreatDoorTie
import Derived.Test.YtlojfgdpmaigmagGreatDoorCards
import Derived.SevenTiedAt
import Derived.OpenVars
import Derived.OpenShut
import Derived.LaidMore
import Derived.Lay
import Derived.LaidOnce
namespace Go.Proofs.YtlojfgdpmaigmagGreatDoor
open Go.ChangeShapes Go.WideShapes Go.ChangeAt Go.RowKit

def rO : List (String × DataW Unit) := [("winnower/bucket.sizes", Rows.laid_winnower_bucket_sizes)]

set_option maxRecDepth 100000 in
theorem qkq {W : World} (h : laidMetH Tryz.prog rO W) : W.var? Tryz.prog "winnower/bucket.sizes" = some #[.int .i64 1, .int .i64 60, .int .i64 3600] := by
 rw[MakeChecks.laidMetH_plain _ _ _ (by kernel_rfl)] at h
 obtain⟨ps,⟨g,t,cs,fuel,p,q,hg,ht,hv,hd,_,_⟩,_,_⟩:=h;obtain rfl := Option.some.inj ((show Tryz.prog.globalNamed "winnower/bucket.sizes" = some 0 by kernel_rfl).symm.trans hg)
 obtain rfl:=Option.some.inj ((show(Tryz.prog.globals[0]?).map (·.type)=some 142 by kernel_rfl).symm.trans ht)
 have c5:Tryz.prog.cellsOf 3=1:=by kernel_rfl
 have c29:Tryz.prog.cellsOf 142=3:=by kernel_rfl
 obtain⟨xs,m,_,ex,hlen,hl,hel⟩:=DataW.trod_array Tryz.underlying142 hd;rw[c29] at hlen;obtain⟨l⟩:=cs
 match l,hlen with
 |[a,b,c],_=>
  match xs,hl with
  |[x0,x1,x2],_=>
   have e3:=(DataW.agg.inj (Prod.mk.inj ex).1);simp only[List.map_cons,List.map_nil,List.cons.injEq,and_true] at e3;have k0:=hel 0 (by omega)
   have k1:=hel 1 (by omega)
   have k2:=hel 2 (by omega)
   rw[c5] at k0 k1 k2;obtain⟨z0,a0,b0,_⟩:=DataW.trod_int Tryz.underlying3 k0;obtain⟨z1,a1,b1,_⟩:=DataW.trod_int Tryz.underlying3 k1;obtain⟨z2,a2,b2,_⟩:=DataW.trod_int Tryz.underlying3 k2;rw[hv]
   simp_all

set_option maxRecDepth 100000 in
theorem qml{W:World}(h:laidMetH Tryz.prog rO W):SzAt W:=by
 have hcell := fun j => World.var?_cell (show Tryz.prog.globalNamed "winnower/bucket.sizes" = some 0 by kernel_rfl) (qkq h) j
 have c0:W.cell? ⟨0,0,none⟩=some (.int .i64 1):=by rw[hcell];rfl
 exact⟨c0,by rw[hcell];rfl,by rw[hcell];rfl,World.block_lt_of_cell? _ _ c0⟩

end Go.Proofs.YtlojfgdpmaigmagGreatDoor

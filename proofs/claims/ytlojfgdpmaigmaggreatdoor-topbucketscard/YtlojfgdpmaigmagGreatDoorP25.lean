/- Rollup of package winnowerkeep: some rollup. -/
import Derived.Test.YtlojfgdpmaigmagGreatDoorP14
import Derived.Test.YtlojfgdpmaigmagGreatDoorP03
import Derived.Test.YtlojfgdpmaigmagGreatDoorP02
import Derived.Deep.DeepCutAuto
import Derived.Test.YtlojfgdpmaigmagGreatDoorP24
import Derived.Deep.RegionHeld3
import Derived.Test.YtlojfgdpmaigmagGreatDoorP08
namespace Go.Proofs.YtlojfgdpmaigmagGreatDoor
section
open Go.RowKit Plain

def i64B(z:Int):Prop:=-9223372036854775808<=z/\z<=9223372036854775807

end
section
open Go.ChangeShapes Go.WideShapes Go.ChangeAt Go.RowKit Go.Deep Plain

structure Rw where
 k:Int
 a:Int
 b:Int
 c:Int
deriving Inhabited

def Rw.vals(x:Rw):List Value:=[.int .i64 x.k,.int .i64 x.a,.int .i64 x.b,.int .i64 x.c]
def Rw.wf(x:Rw):Prop:=i64B x.k/\i64B x.a/\i64B x.b/\i64B x.c
def lK:List Rw->List Value
 |[]=>[]
 |x::r=>x.vals++lK r

theorem zG:∀xs:List Rw,(lK xs).length=xs.length*4
 |[]=>rfl
 |x::r=>by simp[lK,Rw.vals,zG r];omega

theorem q8c(xs:List Rw)(k j:Nat)(hk:k<xs.length)(hj:j<4):(lK xs)[k*4+j]? =(xs[k]).vals[j]? :=by
 induction xs generalizing k with
 |nil=>simp at hk
 |cons x r ih=>
  cases k with
  |zero=>simp only[lK];rw[List.getElem?_append_left (by simp[Rw.vals];omega)];simp
  |succ k=>
   simp only[lK];rw[List.getElem?_append_right (by simp[Rw.vals];omega)]
   have:=ih k (by simpa using hk)
   simp only[Rw.vals,List.length_cons,List.length_nil] at *;rw[show(k+1)*4+j-(0+1+1+1+1)=k*4+j by omega]
   simpa using this

structure RwAt(w:World)(b o:Nat)(x:Rw):Prop where
 c0:w.cell? ⟨b,o,none⟩=some (.int .i64 x.k)
 c1:w.cell? ⟨b,o+1,none⟩=some (.int .i64 x.a)
 c2:w.cell? ⟨b,o+2,none⟩=some (.int .i64 x.b)
 c3:w.cell? ⟨b,o+3,none⟩=some (.int .i64 x.c)

theorem aH.rw4{B:Nat}{w:World}{A:Option Addr}{xs:List Rw}(h:aH B w A (lK xs)){k:Nat}(hk:k<xs.length):
  ∃b o,A=some ⟨b,o,none⟩/\b<B/\RwAt w b (o+k*4) xs[k]:=by
 rcases h with h|⟨b,o,hA,hlt,hc⟩
 ·have:=zG xs;rw[h] at this;simp at this;omega
 ·refine⟨b,o,hA,hlt,?_⟩
  have g:∀j,j<4->∀u,(xs[k]).vals[j]? =some u->w.cell? ⟨b,o+k*4+j,none⟩=some u:=fun j hj u hu=>by
   have:=hc (k*4+j) u (by rw[q8c xs k j hk hj];exact hu)
   rwa [<-Nat.add_assoc] at this
  exact⟨g 0 (by decide) _ rfl,g 1 (by decide) _ rfl,g 2 (by decide) _ rfl,g 3 (by decide) _ rfl⟩

theorem uS{z:Int}(h:(Lit.int .i64 z).wf=true):i64B z:=by
 simp[Lit.wf,IntKind.min,IntKind.max,IntKind.signed,IntKind.bits] at h;unfold i64B;omega

theorem qf1:Tryz.prog.cellsOf 65=4:=by kernel_rfl
theorem qn9:Tryz.prog.bytesOf 65=32:=by kernel_rfl

section
variable {H : Type} {enc : TypeId × Value -> H} {W : World} {held : Bool} {fuel : Nat} {spare : Nat -> Bool}

set_option maxRecDepth 100000 in
theorem qmn{cs:List Value}{x:DataW H × List MemPlace}(h:DataW.trod enc Tryz.prog W 0 spare held fuel 65 cs=some x):∃y:Rw,cs=y.vals/\y.wf:=by
 obtain⟨xs,n,_,_,hl,hxl,hg⟩:=DataW.trod_struct Tryz.underlying65 h;rw[qf1] at hl
 match cs,hl with
 |[v0,v1,v2,v3],_=>
  match xs,hxl with
  |[y0,y1,y2,y3],_=>
   obtain⟨k,e0,_,w0⟩:=DataW.trod_int Tryz.underlying3 (hg 0 _ rfl);obtain⟨a,e1,_,w1⟩:=DataW.trod_int Tryz.underlying3 (hg 1 _ rfl);obtain⟨b,e2,_,w2⟩:=DataW.trod_int Tryz.underlying3 (hg 2 _ rfl);obtain⟨c,e3,_,w3⟩:=DataW.trod_int Tryz.underlying3 (hg 3 _ rfl);simp[qiq] at e0 e1 e2 e3;subst e0 e1 e2 e3;exact⟨⟨k,a,b,c⟩,rfl,uS w0,uS w1,uS w2,uS w3⟩

set_option maxRecDepth 100000 in
theorem qi8{v:Value}{x:DataW H × List MemPlace}(h:DataW.trod enc Tryz.prog W 0 (fun _=>true) held fuel 22 [v]=some x)(hs:qqt 22 x.1):
  ∃A C xs,v=.slice A xs.length C/\aH W.heap.size W A (lK xs)/\xs.length*32<=140737488351232/\∀y∈xs,y.wf:=by
 rcases open_slice Tryz.underlying22 h with⟨hv,_⟩|⟨a,len,cap,m,n,D,Pl,hv,_,hl,_,hm,hx,he⟩
 ·simp at hv;subst hv;exact⟨none,0,[],rfl,.inl rfl,by simp,by simp⟩
 ·simp at hv;subst hv;simp only[if_true] at hm;subst hm
  obtain⟨X,hX⟩:=choose_lt (α:=Rw) (p:=fun i y=>W.cells? 0 (a.add (i*4)) 4=some y.vals/\y.wf) (n:=len) (fun i hi=>by
   obtain⟨cs',h1,h2⟩:=he i (by omega)
   obtain⟨y,rfl,hy⟩:=qmn h2;rw[qf1] at h1;exact⟨y,h1,hy⟩)
  have hwt:(len+(m-len))*32<=140737488351232:=by
   have:=hs ((len+(m-len))*Tryz.prog.bytesOf 65) (by rw[hx];simp[DataW.weights,Tryz.underlying22])
   rwa [qn9] at this
  refine⟨some a,m,(List.range len).map X,by simp,?_,?_,?_⟩
  ·refine qpf (by decide) (fun k=>(X k).vals) _ (by rw[zG];simp) (fun k j hk hj=>?_) (fun i hi=>(hX i hi).1)
   rw[q8c _ k j (by simpa using hk) hj]
   simp
  ·simp only[List.length_map,List.length_range];omega
  ·intro y hy;obtain⟨i,hi,rfl⟩:=List.mem_map.1 hy;exact(hX i (by simpa using hi)).2

end

set_option maxRecDepth 100000 in
theorem q7l{H:Type}{enc:TypeId × Value->H}{W:World}{held:Bool}{b0:Nat}{r:Go.Reach}{v:Value}{d:DataW H}{p:List MemPlace}(hv:Value.okWide Tryz.prog W r b0 22 v)(h:DataW.Trod enc Tryz.prog W 0 (fun _=>true) held 22 v d p)(hs:qqt 22 d):
  ∃A C xs,v=.slice A xs.length C/\aH W.heap.size W A (lK xs)/\xs.length*32<=140737488351232/\∀y∈xs,y.wf:=by
 obtain⟨a,len,cap,rfl⟩:=okWide_slice Tryz.underlying22 hv;obtain⟨fuel,hf⟩:=h;exact qi8 hf hs

end
end Go.Proofs.YtlojfgdpmaigmagGreatDoor

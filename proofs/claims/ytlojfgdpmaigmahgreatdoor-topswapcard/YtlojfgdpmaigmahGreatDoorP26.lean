/- The walk of adopt. -/
import Derived.Test.YtlojfgdpmaigmahGreatDoorP23
import Derived.Deep.DeepCutAuto
import Derived.Test.YtlojfgdpmaigmahGreatDoorP22
import Derived.Test.YtlojfgdpmaigmahGreatDoorP14
import Derived.Test.YtlojfgdpmaigmahGreatDoorP02
import Derived.BigQuiet
namespace Go.Proofs.YtlojfgdpmaigmahGreatDoor
section
open Go.RowKit Plain

theorem AdAt.cells{base:Nat}{w:World}{nb no:Nat}{t:TypeId}{vs:List Value}{kA0 dA0:Option Addr}{wr:World}{kA:Option Addr}{kC:Nat}{keys:List Int}{dA:Option Addr}{dC:Nat}{kids:List Int}(h:AdAt base w nb no t vs kA0 dA0 wr kA kC keys dA dC kids)(hl:no+3<vs.length):
  wr.cell? ⟨nb,no+2,none⟩=some (.slice kA keys.length kC)/\wr.cell? ⟨nb,no+3,none⟩=some (.slice dA kids.length dC):=by
 constructor
 ·rw[h.row.cell,List.getElem?_set_ne (by omega),List.getElem?_set_self (by omega)]
 ·rw[h.row.cell,List.getElem?_set_self (by simp;omega)]

theorem qyo{base:Nat}{w:World}{nb no:Nat}{t t1 t2:TypeId}{vs l1:List Value}{kA0 dA0:Option Addr}{wr w2:World}{kA:Option Addr}{kC:Nat}{keys:List Int}{dA:Option Addr}{dC:Nat}{kids:List Int}{o2 v:Value}(h:AdAt base w nb no t vs kA0 dA0 wr kA kC keys dA dC kids)
  (hk:Kept (obk kA) ((wr.alloc (.cells l1.toArray t1)).drew.alloc (.cells #[o2] t2)) w2):RowL (w2.setCell ⟨nb,no+2,none⟩ v) wr.heap.size t1 l1:=by
 have r1:RowL ((wr.alloc (.cells l1.toArray t1)).drew.alloc (.cells #[o2] t2)) wr.heap.size t1 l1:=(q0b wr l1 t1).of_block (Below.heap_alloc _ _ _ (by simp))
 have r2:=hk.row r1 (fun e=>by have:=h.lt.1 _ e;omega)
 exact r2.of_block (Below.heap_setCell _ _ _ _ (by have:=h.row.lt;show wr.heap.size≠nb;omega))

set_option maxRecDepth 20000 in
set_option maxHeartbeats 4000000 in
theorem qjt(base nb no:Nat)(t:TypeId)(vs:List Value)(kA:Option Addr)(kC:Nat)(keys:List Int)(dA:Option Addr)(dC:Nat)(kids:List Int)(i:Nat)(mA:Option Addr)(mC:Nat)(more:List (Int × Int))(w:World)
  (hA:AdAt base w nb no t vs kA dA w kA kC keys dA dC kids) (hvl:no+3<vs.length) (hB:base<=w.heap.size) (hm:q0i w.heap.size w mA (q7e more)) (hmb:∀a,mA=some a->a.block∉nb::obk kA++obk dA)
  (hi:i<=keys.length) (hi':i+1<=kids.length) (hkz:(keys.length+more.length+1)*8<=140737488351232) (hdz:(kids.length+more.length+1)*8<=140737488351232):
  Calls Tryz.prog 129 #[.pointer (some ⟨nb,no,none⟩),.int .i64 (i:Int),.slice mA more.length mC] w
   fun e w'=>e=.returned (.tuple #[])/\∃kA' kC' dA' dC',AdAt base w nb no t vs kA dA w' kA' kC' (q6b keys i more more.length) dA' dC' (q5z kids i more more.length):=by
 go_enter Tryz.func129,Tryz.ntmps129
 go_wp2_with fail
 go_loopw [10] (fun vi wr=>∃(k:Nat) (kA':Option Addr) (kC':Nat) (dA':Option Addr) (dC':Nat),k<=more.length/\vi=.int .i64 (k:Nat)/\AdAt base w nb no t vs kA dA wr kA' kC' (q6b keys i more k) dA' dC' (q5z kids i more k)) (fun vi _=>more.length-(intOf vi).toNat)
 case atStart=>exact⟨0,kA,kC,dA,dC,Nat.zero_le _,rfl,by simpa [q6b,q5z] using hA⟩
 case round=>
  obtain⟨k,kA',kC',dA',dC',hk,rfl,hat⟩:=hrel
  by_cases hlt:k<more.length
  ·obtain⟨b,o,rfl,hbl,hc⟩:∃b o,mA=some ⟨b,o,none⟩/\b<w.heap.size/\∀j u,(q7e more)[j]? =some u->w.cell? ⟨b,o+j,none⟩=some u:=by
    rcases hm with h|h
    ·have:=qck more;rw[h] at this;simp at this;omega
    ·exact h
   have hkp:=hat.kept.cell (b:=b) (hb:=hbl) (hx:=hmb _ rfl)
   have c0:wr.cell? ⟨b,o+k*2,none⟩=some (.int .i64 more[k].1):=(hkp _).trans (hc _ _ (qdr more k hlt).1)
   have c1:wr.cell? ⟨b,o+k*2+1,none⟩=some (.int .i64 more[k].2):=by
    have:=(hkp _).trans (hc _ _ (qdr more k hlt).2)
    rwa [<-Nat.add_assoc] at this
   obtain⟨n0,n1⟩:=hat.cells hvl
   have L1:Hid _:=qar (keys:=keys) (i:=i) (Nat.le_of_lt hlt)
   have L2:Hid _:=qbc (kids:=kids) (i:=i) (Nat.le_of_lt hlt)
   have fz:=hat.row.frozen
   have hnl:=hat.row.lt
   have hbw:b<wr.heap.size:=Nat.lt_of_lt_of_le hbl hat.kept.size
   have HA:Hid _:=hat
   have HK1:Hid _:=ql7 (keys:=keys) hi hlt
   have HK2:Hid _:=qkl (kids:=kids) hi' hlt
   have L1s:Hid _:=qar (keys:=keys) (i:=i) (more:=more) (k:=k+1) hlt
   have L2s:Hid _:=qbc (kids:=kids) (i:=i) (more:=more) (k:=k+1) hlt
   have hBr:base<=wr.heap.size:=Nat.le_trans hB hat.kept.size
   clear hat hkp
   generalize more[k].1=sk at *
   generalize more[k].2=sp at *
   generalize q6b keys i more k=ks at *
   generalize q5z kids i more k=ds at *
   obtain⟨ks',hks⟩:∃ks',q6b keys i more (k+1)=ks':=⟨_,rfl⟩
   obtain⟨ds',hds⟩:∃ds',q5z kids i more (k+1)=ds':=⟨_,rfl⟩
   rw[hks] at HK1 L1s
   rw[hds] at HK2 L2s
   have HE:=q0a (And.intro hks hds)
   clear hks hds
   obtain⟨p,hp⟩:∃p,p=i+k:=⟨_,rfl⟩
   obtain⟨p1,hp1⟩:∃p1,p1=i+k+1:=⟨_,rfl⟩
   rw[<-hp1] at HK2
   rw[<-hp] at HK1
   have x1:IntKind.i64.wrap ((i:Int)+(k:Int))=(p:Int):=by rw[IntKind.wrap_i64];omega
   have x2:IntKind.i64.wrap ((p:Int)+1)=(p1:Int):=by rw[IntKind.wrap_i64];omega
   have hpl:p<=ks.length:=by have:=L1.out;omega
   have hpl1:p1<=ds.length:=by have:=L2.out;omega
   have z1:(ks.length+1)*8<=140737488351232:=by have:=L1.out;omega
   have z2:(ds.length+1)*8<=140737488351232:=by have:=L2.out;omega
   have z3:Hid (ks'.length=ks.length+1):=by show _=_;rw[L1.out,L1s.out];omega
   have z4:Hid (ds'.length=ds.length+1):=by show _=_;rw[L2.out,L2s.out];omega
   have HP:Hid (p=i+k/\p1=i+k+1):=⟨hp,hp1⟩
   clear hp hp1 L1 L2 L1s L2s
   have hb1:∀o1 o2:Obj,Below wr.heap.size wr ((wr.alloc o1).drew.alloc o2):=fun o1 o2=>(((Below.refl _ _).alloc (Nat.le_refl _) _).drew).alloc (by simp) _
   have hv1:∀o1:Obj,RowL ((wr.alloc o1).drew.alloc (.cells #[.int .i64 sk] 3)) (wr.heap.size+1) 3 [.int .i64 sk]:=fun o1=>by
    have h:=q0b (wr.alloc o1).drew [.int .i64 sk] 3
    rwa [show(wr.alloc o1).drew.heap.size=wr.heap.size+1 by simp] at h
   have hnk1:wr.heap.size+1∉obk kA':=fun e=>by have:=HA.out.lt.1 _ e;omega
   go_upto_region 3 with fail
   go_cut [10] from 10 to 44 (fun v wc=>v=.int .i64 (k:Int)/\RowL wc wr.heap.size 210 [.int .i64 sk,.int .i64 sp]/\∃kA2 kC2,AdAt base w nb no t vs kA dA wc kA2 kC2 ks' dA' dC' ds)
   case first=>
    go_region_with (go_at_call 152;refine(qei base kA' kC' (wr.heap.size+1) 1 ks p sk _ (q0v HA.out.ok (hb1 _ _)) hpl (hv1 _) hnk1 (by simp;omega) z1).mono ?_;rintro e w2 ⟨A2,C2,rfl,hm2⟩;have q2:=hm2.kept.block nb (by simp;omega) HA.out.nk;have c2:w2.cell? ⟨nb,no+2,none⟩=some (.slice kA' ks.length kC'):=(World.cell?_of_block (a:=⟨nb,no+2,none⟩) q2).trans ((hb1 _ _).cell (p:=⟨nb,no+2,none⟩) hnl |>.trans n0);have f2:w2.frozen? ⟨nb,no+2,none⟩=false:=(World.frozen?_of_block (a:=⟨nb,no+2,none⟩) q2).trans ((hb1 _ _).frozen (p:=⟨nb,no+2,none⟩) hnl |>.trans (fz _));have HM:=q0a hm2;clear hm2 q2)
    all_goals
     go_wp2
     go_meet
     case rel=>
      have hm2:=HM.out
      rw[HK1.out] at hm2
      exact⟨rfl,qyo HA.out hm2.kept,A2,C2,HA.out.putK (hb1 _ _) hm2 z3.out⟩
   case rest=>
    obtain⟨rfl,hsr,kA2,kC2,hat2⟩:=hcut
    have s0:=hsr.cell 0
    have s1:=hsr.cell 1
    simp only[List.getElem?_cons_zero,List.getElem?_cons_succ] at s0 s1
    obtain⟨-,m1⟩:=hat2.cells hvl
    have fz2:=hat2.row.frozen
    have hnl2:=hat2.row.lt
    have hsl:=hsr.lt
    have hwc:=hat2.kept.size
    have HA2:=q0a hat2
    clear hat2 hsr fz hb1 hv1
    have hb1:∀o2:Obj,Below wc.heap.size wc (wc.drew.alloc o2):=fun o2=>((Below.refl _ _).drew).alloc (Nat.le_refl _) _
    have hv1:RowL (wc.drew.alloc (.cells #[.int .i64 sp] 3)) wc.heap.size 3 [.int .i64 sp]:=q0b wc.drew [.int .i64 sp] 3
    have hnk2:wc.heap.size∉obk dA':=fun e=>by have:=HA2.out.lt.2 _ e;omega
    go_upto_region 4 with fail
    go_region_with (go_at_call 152;refine(qei base dA' dC' wc.heap.size 1 ds p1 sp _ (q0v HA2.out.od (hb1 _)) hpl1 hv1 hnk2 (by simp;omega) z2).mono ?_;rintro e w3 ⟨A3,C3,rfl,hm3⟩;have q2:=hm3.kept.block nb (by simp;omega) HA2.out.nd;have c2:w3.cell? ⟨nb,no+3,none⟩=some (.slice dA' ds.length dC'):=(World.cell?_of_block (a:=⟨nb,no+3,none⟩) q2).trans ((hb1 _).cell (p:=⟨nb,no+3,none⟩) hnl2 |>.trans m1);have f2:w3.frozen? ⟨nb,no+3,none⟩=false:=(World.frozen?_of_block (a:=⟨nb,no+3,none⟩) q2).trans ((hb1 _).frozen (p:=⟨nb,no+3,none⟩) hnl2 |>.trans (fz2 _));have HM:=q0a hm3;clear hm3 q2)
    all_goals
     go_wp2
     go_roundw
     case rel=>
      have hm3:=HM.out
      rw[HK2.out] at hm3
      exact⟨k+1,kA2,kC2,A3,C3,by omega,by go_num,by rw[HE.out.1,HE.out.2];exact HA2.out.putD (hb1 _) hm3 z4.out⟩
     case measure=>simp[intOf];omega
  ·obtain rfl:k=more.length:=by omega
   go_wp2
   go_end0
   exact⟨rfl,kA',kC',dA',dC',hat⟩

end
section
open Go.RowKit Plain Go.Shelf

theorem z0s(A B:List En)(y x:En)(a:Nat)(ha:A.length*7=a):
  (((((((q0d (A++y::B)).set a (.int .i64 x.key)).set (a+1) (.int .i64 x.c)).set (a+2) (.int .i64 x.s)).set (a+3) (.int .i64 x.lo)).set (a+4) (.int .i64 x.hi)).set (a+5) (.int .i64 x.t)).set (a+6) (.int .i64 x.l)=q0d (A++x::B):=by
 have h:(q0d A).length=a:=by rw[q0u];exact ha
 rw[q1r,q1r,q0d,q0d]
 rw[List.set_append_right _ _ (by omega),List.set_append_right _ _ (by omega),List.set_append_right _ _ (by omega),List.set_append_right _ _ (by omega),List.set_append_right _ _ (by omega),List.set_append_right _ _ (by omega),List.set_append_right _ _ (by omega),h]
 simp only[Nat.add_sub_cancel_left,Nat.sub_self]
 rfl

theorem z0k(xs:List En)(i:Nat)(x:En)(hi:i<xs.length):
  (((((((q0d xs).set (i*7) (.int .i64 x.key)).set (i*7+1) (.int .i64 x.c)).set (i*7+2) (.int .i64 x.s)).set (i*7+3) (.int .i64 x.lo)).set (i*7+4) (.int .i64 x.hi)).set (i*7+5) (.int .i64 x.t)).set (i*7+6) (.int .i64 x.l)=q0d (xs.set i x):=by
 have e1:xs=xs.take i++xs[i]::xs.drop (i+1):=by rw[List.getElem_cons_drop,List.take_append_drop]
 have e2:xs.set i x=xs.take i++x::xs.drop (i+1):=by rw[List.set_eq_take_append_cons_drop,if_pos hi]
 rw[e2]
 conv=>lhs;rw[e1]
 exact z0s _ _ xs[i] x _ (by rw[List.length_take];omega)

def z0d(w:World)(g a:Nat)(x:En):World:=((((((w.setCell ⟨g,a,none⟩ (.int .i64 x.key)).setCell ⟨g,a+1,none⟩ (.int .i64 x.c)).setCell ⟨g,a+2,none⟩ (.int .i64 x.s)).setCell ⟨g,a+3,none⟩ (.int .i64 x.lo)).setCell ⟨g,a+4,none⟩ (.int .i64 x.hi)).setCell ⟨g,a+5,none⟩ (.int .i64 x.t)).setCell ⟨g,a+6,none⟩ (.int .i64 x.l)

theorem quz{w:World}{base g C i:Nat}{xs:List En}{x:En}(h:w.ownsRow base 84 7 (.slice (some ⟨g,0,none⟩) xs.length C) xs.length (q0d xs))(hi:i<xs.length):
  (z0d w g (i*7) x).ownsRow base 84 7 (.slice (some ⟨g,0,none⟩) (xs.set i x).length C) (xs.set i x).length (q0d (xs.set i x)):=by
 rw[<-z0k xs i x hi,List.length_set]
 exact q3j (q3j (q3j (q3j (q3j (q3j (q3j h _ _) _ _) _ _) _ _) _ _) _ _) _ _

theorem q6w{g:Nat}{w wr:World}(h:Kept [g] w wr)(a:Nat)(v:Value):Kept [g] w (wr.setCell ⟨g,a,none⟩ v):=
 ⟨h.os,h.tape,h.output,by simpa using h.size,fun k hk hne=>(Below.heap_setCell _ _ _ _ (show k≠g from fun e=>hne (by simp[e]))).trans (h.block k hk hne)⟩

theorem qu8{g:Nat}{w wr:World}(h:Kept [g] w wr)(a:Nat)(x:En):Kept [g] w (z0d wr g a x):=by
 unfold z0d
 exact q6w (q6w (q6w (q6w (q6w (q6w (q6w h _ _) _ _) _ _) _ _) _ _) _ _) _ _

structure Dl(del:En->Bool)(xs:List En)(i j:Nat)(R:List En):Prop where
 len:R.length=xs.length
 lt:i<j
 le:j<=xs.length
 tk:R.take i=(xs.take j).filter fun x=>!del x
 dr:R.drop j=xs.drop j

theorem Dl.get{del:En->Bool}{xs R:List En}{i j:Nat}(h:Dl del xs i j R)(hj:j<xs.length):R[j]'(by rw[h.len];exact hj)=xs[j]:=by
 have h1:R[j]? =xs[j]? :=by
  have e:(R.drop j)[0]? =(xs.drop j)[0]? :=by rw[h.dr]
  simpa using e
 rw[List.getElem?_eq_getElem (by rw[h.len];exact hj),List.getElem?_eq_getElem hj] at h1
 exact Option.some.inj h1

theorem Dl.start{del:En->Bool}{xs:List En}{k:Nat}(hk:k<xs.length)(hd:del xs[k]=true)(hn:∀x∈xs.take k,del x=false):Dl del xs k (k+1) xs:=by
 refine⟨rfl,by omega,hk,?_,rfl⟩
 rw[List.take_succ_eq_append_getElem hk,List.filter_append,List.filter_eq_self.2 (fun x hx=>by rw[hn x hx];rfl)]
 simp[hd]

theorem Dl.skip{del:En->Bool}{xs R:List En}{i j:Nat}(h:Dl del xs i j R)(hj:j<xs.length)(hd:del xs[j]=true):Dl del xs i (j+1) R:=by
 refine⟨h.len,by have:=h.lt;omega,hj,?_,?_⟩
 ·rw[List.take_succ_eq_append_getElem hj,List.filter_append,<-h.tk]
  simp[hd]
 ·have:=h.dr
  rw[<-List.drop_drop,<-List.drop_drop,this]

theorem Dl.keep{del:En->Bool}{xs R:List En}{i j:Nat}(h:Dl del xs i j R)(hj:j<xs.length)(hd:del xs[j]=false):Dl del xs (i+1) (j+1) (R.set i xs[j]):=by
 have hl:=h.lt
 have hn:=h.len
 refine⟨by rw[List.length_set,hn],by omega,hj,?_,?_⟩
 ·rw[List.take_succ_eq_append_getElem hj,List.filter_append,<-h.tk,List.take_succ_eq_append_getElem (show i<(R.set i xs[j]).length by rw[List.length_set];omega),List.take_set_of_le (Nat.le_refl _)]
  simp[hd]
 ·rw[List.drop_set_of_lt (by omega),<-List.drop_drop,<-List.drop_drop,h.dr]

theorem Dl.done{del:En->Bool}{xs R:List En}{i:Nat}(h:Dl del xs i xs.length R):R.take i=xs.filter fun x=>!del x:=by
 have:=h.tk
 rwa [List.take_length] at this

theorem Dl.count{del:En->Bool}{xs R:List En}{i:Nat}(h:Dl del xs i xs.length R):(xs.filter fun x=>!del x).length=i:=by
 rw[<-h.done,List.length_take]
 have:=h.lt
 have:=h.len
 omega

theorem z2q(n:Nat):(Builtin.zeroCells (Value.agg #[.int .i64 0,.int .i64 0,.int .i64 0,.int .i64 0,.int .i64 0,.int .i64 0,.int .i64 0]).cells n).toList=List.replicate (n*7) (.int .i64 0):=by
 have hz:(Value.agg #[.int .i64 0,.int .i64 0,.int .i64 0,.int .i64 0,.int .i64 0,.int .i64 0,.int .i64 0]).cells=#[.int .i64 0,.int .i64 0,.int .i64 0,.int .i64 0,.int .i64 0,.int .i64 0,.int .i64 0]:=by simp[Value.cells]
 rw[hz]
 apply List.ext_getElem
 ·simp[Builtin.zeroCells]
 ·intro i h1 h2
  have h3:i%7=0\/i%7=1\/i%7=2\/i%7=3\/i%7=4\/i%7=5\/i%7=6:=by omega
  rcases h3 with h3|h3|h3|h3|h3|h3|h3<;>simp[Builtin.zeroCells,h3]

theorem qoj(w:World)(ty:TypeId)(b o n c:Nat)(hn:0<n)
  (hc:∀j,j<n*7->(w.cell? ⟨b,o+j,none⟩).isSome=true) (hf:∀j,j<n*7->w.frozen? ⟨b,o+j,none⟩=false):
  (Builtin.clear_ #[67] ty #[.slice (some ⟨b,o,none⟩) n c]).run Tryz.prog w=.ok (.tuple #[]) (w.setCells b o (List.replicate (n*7) (.int .i64 0))):=by
 have hst:=run_storeCells_cells (P:=Tryz.prog) b o (List.replicate (n*7) (.int .i64 0)) 0 w (by simpa using hc) (by simpa using hf) (by intro v hv';rw[List.eq_of_mem_replicate hv'];rfl)
 simp only[Nat.add_zero] at hst
 obtain⟨m,rfl⟩:∃m,n=m+1:=⟨n-1,by omega⟩
 simp[Builtin.clear_,run_underlying Tryz.underlying67,z2q,hst]

theorem qno:∀(vs l:List Value) (o k:Nat),k<=o->(ovr l o vs).take k=l.take k
 |[],_,_,_,_=>rfl
 |v::r,l,o,k,h=>by
  rw[ovr,qno r _ _ _ (by omega),List.take_set_of_le h]

theorem qub{w:World}{base g C n i m:Nat}{xs:List En}{zs:List Value}(h:w.ownsRow base 84 7 (.slice (some ⟨g,0,none⟩) n C) n (q0d xs))(hn:xs.length=n)(hi:i<=n)(hm:m=i):
  (w.setCells g (i*7) zs).ownsRow base 84 7 (.slice (some ⟨g,0,none⟩) m C) m (q0d (xs.take i)):=by
 subst hm
 refine⟨by rw[q0u,List.length_take];omega,.inr ?_⟩
 rcases h.2 with⟨hv,_⟩|⟨g',cap,cur,hv,hb,hg,hl,hmm,hs,ht⟩
 ·cases hv
 ·cases hv
  have h1:=q2j g 84 zs (m*7) cur w hg
  refine⟨g,C,_,rfl,hb,h1,by omega,hmm,by simp[q3g,hs],?_⟩
  rw[qa1,<-ht,List.take_take,Nat.min_eq_left (by omega)]
  show(ovr cur.toList (m*7) zs).take (m*7)=_
  exact qno _ _ _ _ (Nat.le_refl _)

def oldB(t:Int)(x:En):Bool:=decide (x.key%1048576<t)

set_option maxRecDepth 20000 in
set_option maxHeartbeats 1000000 in
theorem qiq(key c s lo hi tt l:Int)(tb:Nat)(t:Int)(w:World)(hx:0<=key/\key<1099511627776)(ht:w.cell? ⟨tb,0,none⟩=some (.int .i64 t)):
  Calls Tryz.prog 95 #[.agg #[.int .i64 key,.int .i64 c,.int .i64 s,.int .i64 lo,.int .i64 hi,.int .i64 tt,.int .i64 l],.pointer (some ⟨tb,0,none⟩)] w fun e w'=>e=.returned (.bool (oldB t ⟨key,c,s,lo,hi,tt,l⟩))/\Below w.heap.size w w':=by
 have b0:∀o:Obj,Below w.heap.size w (w.alloc o):=fun o=>(Below.refl _ _).alloc (Nat.le_refl _) o
 have hl:tb<w.heap.size:=World.block_lt_of_cell? _ _ ht
 have con:=q0k fun W=>q2c key W hx
 show Calls _ _ _ _ fun e w'=>e=.returned (.bool (decide (key%1048576<t)))/\_
 clear hx
 go_enter Tryz.func95,Tryz.ntmps95
 go_wp2_with fail
 go_quiet (refine Calls.quiet_of ((con.out _).mono (fun _ _ h=>⟨h.1,0,h.2⟩)))
 go_wp2
 go_ret
 exact⟨rfl,q1o (b0 _) _⟩

def z4t(del:En->Bool)(xs:List En)(z:Int):Prop:=(z=-1/\∀x∈xs,del x=false)\/∃k:Nat,z=k/\∃h:k<xs.length,del xs[k]=true/\∀x∈xs.take k,del x=false

set_option maxRecDepth 20000 in
set_option maxHeartbeats 2000000 in
theorem qoe(A:Option Addr)(C:Nat)(xs:List En)(tb:Nat)(t:Int)(w:World)(h:q0i w.heap.size w A (q0d xs))(hz:xs.length*56<=140737488351232)(hk:∀x∈xs,0<=x.key/\x.key<1099511627776)(ht:w.cell? ⟨tb,0,none⟩=some (.int .i64 t)):
  Calls Tryz.prog 132 #[.slice A xs.length C,.func (.func 95) #[] #[.pointer (some ⟨tb,0,none⟩)]] w
   fun e w'=>∃z,e=.returned (.int .i64 z)/\z4t (oldB t) xs z/\Below w.heap.size w w':=by
 have htl:tb<w.heap.size:=World.block_lt_of_cell? _ _ ht
 go_enter Tryz.func132,Tryz.ntmps132
 go_wp2_with fail
 go_loopw [5,8] (fun _ vi wr=>∃k:Nat,k<=xs.length/\vi=.int .i64 (k:Int)/\Hid (∀x∈xs.take k,oldB t x=false)/\Below w.heap.size w wr) (fun _ vi _=>xs.length-(intOf vi).toNat)
 case atStart=>exact⟨0,Nat.zero_le _,rfl,fun x hx=>by simp at hx,Below.refl _ _⟩
 case round=>
  obtain⟨k,hkn,rfl,HI,hb⟩:=hrel
  by_cases hlt:k<xs.length
  ·obtain⟨b,o,rfl,hbl,hat⟩:=(h.below hb (Nat.le_refl _)).en hlt
   have hbw:b<wr.heap.size:=Nat.lt_of_lt_of_le hbl hb.size
   have hkx:=hk _ (List.getElem_mem hlt)
   have HX:Hid (∀v,oldB t xs[k]=v->v=false->∀x∈xs.take (k+1),oldB t x=false):=fun v e1 e2 x hx=>by
    rw[List.take_succ_eq_append_getElem hlt] at hx
    rcases List.mem_append.1 hx with hx|hx
    ·exact HI.out x hx
    ·obtain rfl:x=xs[k]:=by simpa using hx
     rw[e1,e2]
   have HY:Hid (oldB t xs[k]=true->z4t (oldB t) xs (k:Int)):=fun e=>.inr ⟨k,rfl,hlt,e,HI.out⟩
   obtain⟨x,hx⟩:∃x,xs[k]=x:=⟨_,rfl⟩
   rw[hx] at hat hkx HX HY
   clear hx
   obtain⟨key,c,s,lo,hi,tt,l⟩:=x
   obtain⟨c0,c1,c2,c3,c4,c5,c6⟩:=hat
   simp only at c0 c1 c2 c3 c4 c5 c6 hkx
   have q0:(0:Int)<=(k:Int):=by omega
   have q1:(k:Int)<(xs.length:Int):=by omega
   have hcon:=qiq key c s lo hi tt l tb t wr hkx ((hb.cell (p:=⟨tb,0,none⟩) htl).trans ht)
   generalize oldB t ⟨key,c,s,lo,hi,tt,l⟩=v at hcon HX HY
   have HC:=q0k hcon
   clear hcon hkx h hk ht
   cases v with
   |true=>
    go_wp2_with (go_at_call 95;refine HC.out.mono ?_;rintro e w1 ⟨rfl,hb1⟩)
    go_ret
    exact⟨_,rfl,HY.out (by simp),q0e hb (Nat.le_refl _) hb1⟩
   |false=>
    go_wp2_with (go_at_call 95;refine HC.out.mono ?_;rintro e w1 ⟨rfl,hb1⟩)
    go_roundw
    case rel=>exact⟨k+1,hlt,by go_num,HX.out false (by simp) (by simp),q0e hb (Nat.le_refl _) hb1⟩
    case measure=>simp[intOf];omega
  ·have hlt':¬((k:Int)<(xs.length:Int)):=by omega
   go_wp2_with fail
   go_ret
   refine⟨_,rfl,.inl ⟨rfl,fun x hx=>HI.out x ?_⟩,hb⟩
   rw[List.take_of_length_le (by omega)]
   exact hx

theorem qpe{g:Nat}{w wr:World}(h:Kept [g] w wr)(a:Nat)(vs:List Value):Kept [g] w (wr.setCells g a vs):=h.trans (q1p g vs a wr)

theorem qfj{ex:List Nat}{w wr w':World}(h:Kept ex w wr)(hb:Below wr.heap.size wr w'):Kept ex w w':=
 ⟨hb.os.trans h.os,hb.tape.trans h.tape,hb.output.trans h.output,Nat.le_trans h.size hb.size,fun k hk hne=>(hb.block k (Nat.lt_of_lt_of_le hk h.size)).trans (h.block k hk hne)⟩

set_option maxRecDepth 20000 in
set_option maxHeartbeats 4000000 in
theorem qwu(base g C:Nat)(xs:List En)(tb:Nat)(t:Int)(w:World)(h:w.ownsRow base 84 7 (.slice (some ⟨g,0,none⟩) xs.length C) xs.length (q0d xs))(hz:xs.length*56<=140737488351232)(hk:∀x∈xs,0<=x.key/\x.key<1099511627776)(ht:w.cell? ⟨tb,0,none⟩=some (.int .i64 t))(htg:tb≠g):
  Calls Tryz.prog 94 #[.slice (some ⟨g,0,none⟩) xs.length C,.func (.func 95) #[] #[.pointer (some ⟨tb,0,none⟩)]] w
   fun e w'=>e=.returned (.slice (some ⟨g,0,none⟩) (xs.filter fun x=>!oldB t x).length C)/\w'.ownsRow base 84 7 (.slice (some ⟨g,0,none⟩) (xs.filter fun x=>!oldB t x).length C) (xs.filter fun x=>!oldB t x).length (q0d (xs.filter fun x=>!oldB t x))/\Kept [g] w w':=by
 obtain⟨M,hM⟩:∃M,(xs.filter fun x=>!oldB t x)=M:=⟨_,rfl⟩
 rw[hM]
 have HM:=q0k hM
 clear hM
 have htl:tb<w.heap.size:=World.block_lt_of_cell? _ _ ht
 have gl:g<w.heap.size:=(h.lt g rfl).2
 have lC:xs.length<=C:=by
  obtain⟨A',C',e,_,hl,_⟩:=q0g h
  cases e
  exact hl
 have HI:=q0k (qoe _ C xs tb t w (q3d h).1 hz hk ht)
 go_enter Tryz.func94,Tryz.ntmps94
 have HW:=q0k h
 clear h
 go_upto_region 2 with(first|(go_at_call 132;refine HI.out.mono ?_;rintro e w1 ⟨z,rfl,hI,hb1⟩))
 rcases hI with⟨rfl,hall⟩|⟨k,rfl,hkl,hd,hn⟩
 ·go_wp2_with fail
  go_ret
  have e:M=xs:=by
   rw[<-HM.out]
   exact List.filter_eq_self.2 fun x hx=>by rw[hall x hx];rfl
  subst e
  exact⟨rfl,q0v HW.out hb1,Kept.of_below hb1⟩
 ·have hk1:((k:Int)== -1)=false:=beq_eq_false_iff_ne.2 (by omega)
  have HS:=q0k (Dl.start (del:=oldB t) hkl hd hn)
  have HB1:=q0k hb1
  clear hd hn hb1 HI
  go_wp2_with fail
  go_loopw [5,6,7] (fun vi vj _ wr=>∃(i j:Nat) (R:List En),vi=.int .i64 (i:Int)/\vj=.int .i64 (j:Int)/\Dl (oldB t) xs i j R/\wr.ownsRow base 84 7 (.slice (some ⟨g,0,none⟩) R.length C) R.length (q0d R)/\Kept [g] w wr) (fun _ vj _ _=>xs.length-(intOf vj).toNat)
  case atStart=>exact⟨k,k+1,xs,rfl,by go_num,HS.out,q0v HW.out HB1.out,Kept.of_below HB1.out⟩
  case round=>
   obtain⟨i,j,R,rfl,rfl,hD,hown,hkp⟩:=hrel
   have hij:=hD.lt
   have hjn:=hD.le
   have hRl:=hD.len
   have gw:g<wr.heap.size:=Nat.lt_of_lt_of_le gl hkp.size
   have tw:wr.cell? ⟨tb,0,none⟩=some (.int .i64 t):=(World.cell?_of_block (a:=⟨tb,0,none⟩) (hkp.block tb htl (by simp[htg]))).trans ht
   by_cases hlt:j<xs.length
   ·obtain⟨b,o,hA,hbl,hat⟩:=(q3d hown).1.en (k:=j) (by omega)
    cases hA
    rw[hD.get hlt] at hat
    have hkx:=hk _ (List.getElem_mem hlt)
    have HK:=q0k (fun e=>hD.keep hlt e)
    have HN:=q0k (fun e=>hD.skip hlt e)
    obtain⟨x,hx⟩:∃x,xs[j]=x:=⟨_,rfl⟩
    rw[hx] at hat hkx HK HN
    clear hx
    rw[Nat.zero_add] at hat
    have q0:(0:Int)<=(j:Int):=by omega
    have q1:(j:Int)<(xs.length:Int):=by omega
    have q2:(0:Int)<=(i:Int):=by omega
    have q3:(i:Int)<(xs.length:Int):=by omega
    have k1:IntKind.i64.wrap ((i:Int)+1)=(i:Int)+1:=by rw[IntKind.wrap_i64];omega
    have k2:IntKind.i64.wrap ((j:Int)+1)=(j:Int)+1:=by rw[IntKind.wrap_i64];omega
    obtain⟨key,c,s,lo,hi,tt,l⟩:=x
    obtain⟨c0,c1,c2,c3,c4,c5,c6⟩:=hat
    simp only at c0 c1 c2 c3 c4 c5 c6 hkx
    have hcon:=q0k fun W (hW:Below wr.heap.size wr W)=>qiq key c s lo hi tt l tb t W hkx ((hW.cell (p:=⟨tb,0,none⟩) (Nat.lt_of_lt_of_le htl hkp.size)).trans tw)
    have HO:=q0k hown
    have HP:=q0k hkp
    obtain⟨v,hv⟩:∃v,oldB t ⟨key,c,s,lo,hi,tt,l⟩=v:=⟨_,rfl⟩
    rw[hv] at hcon HK HN
    have hiR:i<R.length:=by omega
    clear hkx hown hkp tw hk ht hv hD HW HS
    cases v with
    |true=>
     clear HK
     go_wp2_with (first|(go_at_call 95;refine(hcon.out _ ((Below.refl _ _).alloc (Nat.le_refl _) _)).mono ?_;rintro e w2 ⟨rfl,hb2⟩))
     go_roundw
     case rel=>
      have hb3:Below wr.heap.size wr w2:=q0e ((Below.refl _ _).alloc (Nat.le_refl _) _) (Nat.le_refl _) hb2
      exact⟨i,j+1,R,rfl,by go_num,HN.out (by simp),q0v HO.out hb3,qfj HP.out hb3⟩
     case measure=>simp[intOf];omega
    |false=>
     clear HN
     go_upto_region 9 with(first|(go_at_call 95;refine(hcon.out _ ((Below.refl _ _).alloc (Nat.le_refl _) _)).mono ?_;rintro e w2 ⟨rfl,hb2⟩))
     have hb3:Below wr.heap.size wr w2:=q0e ((Below.refl _ _).alloc (Nat.le_refl _) _) (Nat.le_refl _) hb2
     have O2:=q0k (q0v HO.out hb3)
     have P2:=q0k (qfj HP.out hb3)
     have V2:RowL w2 wr.heap.size 84 [.int .i64 key,.int .i64 c,.int .i64 s,.int .i64 lo,.int .i64 hi,.int .i64 tt,.int .i64 l]:=(q0b wr [.int .i64 key,.int .i64 c,.int .i64 s,.int .i64 lo,.int .i64 hi,.int .i64 tt,.int .i64 l] 84).below hb2 (by simp)
     have d0:=fun o=>V2.cell o
     have s2:wr.heap.size<w2.heap.size:=V2.lt
     have g2:g<w2.heap.size:=by omega
     have f2:∀o,w2.frozen? ⟨g,o,none⟩=false:=fun o=>O2.out.frozenAt o
     have gn:¬wr.heap.size=g:=by omega
     have gn':¬g=wr.heap.size:=by omega
     have hz7:EnAt w2 g (i*7) (R[i]'hiR):=by
      obtain⟨b',o',hA',-,hat'⟩:=(q3d O2.out).1.en hiR
      cases hA'
      rw[Nat.zero_add] at hat'
      exact hat'
     obtain⟨z0,z1,z2,z3,z4,z5,z6⟩:=hz7
     clear hb2 hb3 c0 c1 c2 c3 c4 c5 c6 V2
     go_wp2_with fail
     go_roundw
     case rel=>
      go_light
      exact⟨i+1,j+1,R.set i ⟨key,c,s,lo,hi,tt,l⟩,by go_num,by go_num,HK.out (by simp),quz (x:=⟨key,c,s,lo,hi,tt,l⟩) O2.out hiR,qu8 P2.out (i*7) ⟨key,c,s,lo,hi,tt,l⟩⟩
     case measure=>simp[intOf];omega
   ·obtain rfl:j=xs.length:=by omega
    have hlt':¬((xs.length:Int)<(xs.length:Int)):=by omega
    have hcnt:M.length=i:=by rw[<-HM.out];exact hD.count
    have hdone:R.take i=M:=hD.done.trans HM.out
    have hCi:¬C=i:=by omega
    have hC0:¬C=0:=by omega
    have q2:(0:Int)<=(i:Int):=by omega
    have q3:(i:Int)<=(xs.length:Int):=by omega
    have q4:(i:Int)<=(C:Int):=by omega
    have hcell:∀m,m<(xs.length-i)*7->(wr.cell? ⟨g,i*7+m,none⟩).isSome=true:=fun m hm=>by
     have hfl:=q0u R
     rcases(q3d hown).1 with h0|⟨b',o',hA,_,hc⟩
     ·have:(q0d R).length=0:=by rw[h0];rfl
      omega
     ·cases hA
      have hlt2:i*7+m<(q0d R).length:=by rw[hfl,hRl,Nat.sub_mul] at *;omega
      have:=hc (i*7+m) _ (List.getElem?_eq_getElem hlt2)
      rw[Nat.zero_add] at this
      rw[this];rfl
    have hcl:=fun ty=>qoj wr ty g (i*7) (xs.length-i) (C-i) (by omega) hcell (fun m _=>hown.frozenAt _)
    have HO:=q0k (qub (zs:=List.replicate ((xs.length-i)*7) (.int .i64 0)) hown rfl (show i<=R.length by omega) rfl)
    have HP:=q0k (qpe hkp (i*7) (List.replicate ((xs.length-i)*7) (.int .i64 0)))
    have HD:=q0k hdone
    clear hcell hown hkp hdone hD hk ht HW HS tw HB1
    go_wp2_with fail
    go_ret
    obtain rfl:=hcnt
    refine⟨rfl,?_,HP.out⟩
    have h9:=HO.out
    rw[HD.out] at h9
    exact h9

set_option maxRecDepth 20000 in
set_option maxHeartbeats 1000000 in
theorem qxg(base:Nat)(A:Option Addr)(C:Nat)(xs:List En)(tb:Nat)(t:Int)(w:World)(h:w.ownsRow base 84 7 (.slice A xs.length C) xs.length (q0d xs))(hz:xs.length*56<=140737488351232)(hk:∀x∈xs,0<=x.key/\x.key<1099511627776)(ht:w.cell? ⟨tb,0,none⟩=some (.int .i64 t))(htg:∀g,A=some ⟨g,0,none⟩->tb≠g):
  Calls Tryz.prog 94 #[.slice A xs.length C,.func (.func 95) #[] #[.pointer (some ⟨tb,0,none⟩)]] w
   fun e w'=>e=.returned (.slice A (xs.filter fun x=>!oldB t x).length C)/\w'.ownsRow base 84 7 (.slice A (xs.filter fun x=>!oldB t x).length C) (xs.filter fun x=>!oldB t x).length (q0d (xs.filter fun x=>!oldB t x))/\Kept (obk A) w w':=by
 rcases h.2 with⟨hv,hn⟩|⟨g,cap,cur,hv,hb,hg,hl,hm,hs,htk⟩
 ·have e0:xs=[]:=List.eq_nil_of_length_eq_zero hn
  subst e0
  obtain⟨rfl,rfl⟩:A=none/\C=0:=by simpa using hv
  have HI:=q0k (qoe none 0 [] tb t w (.inl rfl) (by simp) hk ht)
  go_enter Tryz.func94,Tryz.ntmps94
  go_upto_region 2 with(first|(go_at_call 132;refine HI.out.mono ?_;rintro e w1 ⟨z,rfl,hI,hb1⟩))
  rcases hI with⟨rfl,hall⟩|⟨k,rfl,hkl,hd,hn⟩
  ·go_wp2_with fail
   go_ret
   exact⟨rfl,World.ownsRow_nil _ _ _ _,Kept.of_below hb1⟩
  ·simp at hkl
 ·obtain⟨rfl,rfl⟩:A=some ⟨g,0,none⟩/\C=cap:=by simpa using hv
  exact qwu base g C xs tb t w h hz hk ht (htg g rfl)

end
end Go.Proofs.YtlojfgdpmaigmahGreatDoor

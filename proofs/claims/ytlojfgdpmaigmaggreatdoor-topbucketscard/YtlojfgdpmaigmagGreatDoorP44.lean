/- base.Add: what it answers, at any base and any point. -/
import Derived.Test.YtlojfgdpmaigmagGreatDoorAddCore
import Derived.Test.YtlojfgdpmaigmagGreatDoorP39
import Derived.Test.YtlojfgdpmaigmagGreatDoorP25
import Derived.Test.YtlojfgdpmaigmagGreatDoorP02
import Derived.Deep.RegionHeld3
import Derived.Deep.DeepCutAuto
namespace Go.Proofs.YtlojfgdpmaigmagGreatDoor
section
open Go.RowKit Plain Go.Shelf

def qqr(ss:List ByteArray)(s:ByteArray)(t v f:Int)(n0:List Nd)(r0:Int)(n1:List Nd)(r1:Int)(n2:List Nd)(r2 c:Int):Prop:=
 (bM ss f n0 r0 n1 r1 n2 r2=false/\c=7)\/(bM ss f n0 r0 n1 r1 n2 r2=true/\ptC s t v f≠0/\c=ptC s t v f)\/
 (bM ss f n0 r0 n1 r1 n2 r2=true/\ptC s t v f=0/\c=1/\(16<(bH ss s).length\/((bH ss s).length<=16/\∀L0 L1 L2,kL ss f n0 r0 n1 r1 n2 r2 L0 L1 L2->
  (ins L0 (ptE (plc ss s) t v)=none\/ins L1 (bk 60 (ptE (plc ss s) t v))=none\/ins L2 (bk 3600 (ptE (plc ss s) t v))=none)\/(200<n0.length/\900<L0.length)\/(200<n1.length/\900<L1.length)\/(200<n2.length/\900<L2.length))))

structure yF(ss:List ByteArray)(s:ByteArray)(t v f:Int)(n0:List Nd)(r0:Int)(n1:List Nd)(r1:Int)(n2:List Nd)(r2:Int)(m0:List Nd)(q0:Int)(m1:List Nd)(q1:Int)(m2:List Nd)(q2:Int)(L0 L1 L2 M0 M1 M2:List En):Prop where
 was:bM ss f n0 r0 n1 r1 n2 r2=true
 pt:ptC s t v f=0
 few:(bH ss s).length<=16
 lst:kL ss f n0 r0 n1 r1 n2 r2 L0 L1 L2
 i0:ins L0 (ptE (plc ss s) t v)=some M0
 i1:ins L1 (bk 60 (ptE (plc ss s) t v))=some M1
 i2:ins L2 (bk 3600 (ptE (plc ss s) t v))=some M2
 a0:allP m0 q0 0 1099511627776=(0,M0)
 a1:allP m1 q1 0 1099511627776=(0,M1)
 a2:allP m2 q2 0 1099511627776=(0,M2)

theorem yF.base{ss:List ByteArray}{s:ByteArray}{t v f:Int}{n0 n1 n2 m0 m1 m2:List Nd}{r0 r1 r2 q0 q1 q2:Int}{L0 L1 L2 M0 M1 M2:List En}(h:yF ss s t v f n0 r0 n1 r1 n2 r2 m0 q0 m1 q1 m2 q2 L0 L1 L2 M0 M1 M2):
  bM (bH ss s) f m0 q0 m1 q1 m2 q2=true/\fU m0 q0 (bH ss s).length f=some M0:=by
 obtain⟨h1,h2,h3,h4⟩:=q4o h.pt;exact qkc h.was h.lst h1 h.few h2 h3 h4 h.i0 h.i1 h.i2 h.a0 h.a1 h.a2

structure OwnB(B:Nat)(w:World)(A:Option Addr)(C:Nat)(ss:List ByteArray)(t0 t1 t2:TR):Prop where
 sr:w.ownsRow B 9 1 (.slice A ss.length C) ss.length (strs ss)
 se:∀s∈ss,s.size<=140737488351232
 sn:ss.length<=17
 n0:∃g,t0.A=some ⟨g,0,none⟩/\NT B w g t0.C t0.ps
 n1:∃g,t1.A=some ⟨g,0,none⟩/\NT B w g t1.C t1.ps
 n2:∃g,t2.A=some ⟨g,0,none⟩/\NT B w g t2.C t2.ps

theorem OwnB.keep{B B':Nat}{w w':World}{A:Option Addr}{C:Nat}{ss:List ByteArray}{t0 t1 t2:TR}(h:OwnB B w A C ss t0 t1 t2)(hb:B'<=B)(hk:∀k,B<=k->k<w.heap.size->w'.heap[k]? =w.heap[k]?):OwnB B' w' A C ss t0 t1 t2:=by
 obtain⟨g0,e0,k0⟩:=h.n0;obtain⟨g1,e1,k1⟩:=h.n1;obtain⟨g2,e2,k2⟩:=h.n2;exact⟨bQ (aV h.sr fun k hk'=>hk k (h.sr.lt k hk').1 (h.sr.lt k hk').2) hb,h.se,h.sn,⟨g0,e0,(k0.of_blocks fun k hk'=>hk k (k0.lt k hk').1 (k0.lt k hk').2).low hb⟩,⟨g1,e1,(k1.of_blocks fun k hk'=>hk k (k1.lt k hk').1 (k1.lt k hk').2).low hb⟩,⟨g2,e2,(k2.of_blocks fun k hk'=>hk k (k2.lt k hk').1 (k2.lt k hk').2).low hb⟩⟩

def qrs(ss:List ByteArray)(s:ByteArray)(t v f:Int)(n0:List Nd)(r0:Int)(n1:List Nd)(r1:Int)(n2:List Nd)(r2:Int)(w:World)(e:Ending)(w':World):Prop:=
 Below w.heap.size w w'/\((∃c,c≠0/\qqr ss s t v f n0 r0 n1 r1 n2 r2 c/\e=.returned (dF c))\/
  ∃(A':Option Addr) (C':Nat) (t0 t1 t2:TR) (L0 L1 L2 M0 M1 M2:List En),yF ss s t v f n0 r0 n1 r1 n2 r2 (t0.ps.map PN.nd) t0.r (t1.ps.map PN.nd) t1.r (t2.ps.map PN.nd) t2.r L0 L1 L2 M0 M1 M2/\e=.returned (.tuple #[.agg (aJ A' C' (bH ss s) t0 t1 t2 f).toArray,.int .i64 0])/\
   (A'=none->C'=0)/\(bH ss s).length<=C'/\dX w'.heap.size w' A' (bH ss s)/\t0.ok w'/\t1.ok w'/\t2.ok w'/\OwnB w.heap.size w' A' C' (bH ss s) t0 t1 t2)

theorem q3s{ns:List Nd}{root:Int}{l:List En}(h:allP ns root 0 1099511627776=(0,l)):sH ns root l:=by
 obtain⟨h1,h2⟩:=jK h;rw[uF h1] at h2;exact sH.mk' h1 h2

theorem qac{A:Option Addr}{C:Nat}{root key:Int}{r:Ru}{ps:List PN}{L:List En}{x:En}{W:World}(hN:bF W.heap.size W A ps)(hwf:∀p∈ps,p.wf)(ha:allP (ps.map PN.nd) root 0 1099511627776=(0,L))(hg:Good r)(hk:0<=key/\key<=1099511627775)(hx:x=mkE key r):
  Calls Tryz.prog 88 #[.agg #[.slice A ps.length C,.int .i64 root],.int .i64 key,.agg #[.int .i64 r.c,.int .i64 r.s,.int .i64 r.lo,.int .i64 r.hi,.int .i64 r.t,.int .i64 r.l]] W (PutC (fun c=>c=1/\(ins L x=none\/(200<(ps.map PN.nd).length/\900<L.length))) (fun m q=>∃M,ins L x=some M/\allP m q 0 1099511627776=(0,M)) W):=by
 subst hx;refine(qnb A C root key r ps W hN hwf).mono ?_;intro e w' h;have hcode:=qjk (key:=key) ha hg hk;rcases h with⟨h0,rfl,hb⟩|⟨h0,hc,hP⟩
 ·rcases hcode with⟨h1,_⟩|⟨h1,h2⟩
  ·exact absurd h1 h0
  ·rw[h1];exact⟨none,0,0,0,1,rfl,hb,.inl ⟨by decide,rfl,.inl h2⟩⟩
 ·obtain⟨ns2,root2,hok,hb,⟨h2,rfl⟩|⟨h2,g,C',qs,rfl,hNT,hm⟩⟩:=hP.res
  ·refine⟨none,0,0,0,1,rfl,hb,.inl ⟨by decide,rfl,.inr ⟨by have:=hok.few;omega,?_⟩⟩⟩
   rcases hcode with⟨_,ys,h3⟩|⟨h1,_⟩
   ·have h4:=(q3s ha).put_few hok h3;have h5:=(mD (x:=mkE key r) hg (q3s ha).good h3).2;omega
   ·omega
  ·rcases hcode with⟨_,ys,h3⟩|⟨h1,_⟩
   ·refine⟨some ⟨g,0,none⟩,qs.length,C',root2,0,rfl,hb,.inr ⟨rfl,g,qs,rfl,rfl,hNT,ys,h3,?_⟩⟩;rw[hm];exact qij ha h0 hok h2 h3
   ·omega

theorem mG{ns:List Nd}{root:Int}(h:aT ns root=0):(Lit.int .i64 root).wf=true:=by
 have hz:=(sZ h).1
 have:0<=root/\root<=2000:=by
  rcases tC h with⟨ht,P,hs,hp⟩|⟨_,rfl⟩
  ·have:=q4u hs;omega
  ·omega
 exact WalkArith.wf_i64 (by omega)

theorem q5c(A:Option Addr)(C:Nat)(ss:List ByteArray)(t0 t1 t2:TR)(f:Int)(s:ByteArray)(t v:Int)(w:World)(hZ:SzAt w)(hC:ss.length<=C)(hS:dX w.heap.size w A ss)(hs:s.size<=140737488351232)(h0:t0.ok w)(h1:t1.ok w)(h2:t2.ok w):
  Calls Tryz.prog 63 #[.agg (aJ A C ss t0 t1 t2 f).toArray,.agg #[.string s,.int .i64 t,.int .i64 v]] w (qrs ss s t v f (t0.ps.map PN.nd) t0.r (t1.ps.map PN.nd) t1.r (t2.ps.map PN.nd) t2.r w):=by
 have okup:∀(t:TR) (w':World),Below w.heap.size w w'->t.ok w->t.ok w':=fun t w' hb ht=>⟨ht.1.up hb,ht.2.1,ht.2.2⟩
 have ck:=fun(bb:Bool) (hbb:Hid (bM ss f (t0.ps.map PN.nd) t0.r (t1.ps.map PN.nd) t1.r (t2.ps.map PN.nd) t2.r=bb)) W (hW:Below w.heap.size w W)=>sQ A C ss t0 t1 t2 f W (hZ.below hW) hC (hS.up hW) (okup t0 W hW h0) (okup t1 W hW h1) (okup t2 W hW h2) bb hbb
 have pf:=fun W=>q5p A C ss t0 t1 t2 f s t v W
 cases hB:bM ss f (t0.ps.map PN.nd) t0.r (t1.ps.map PN.nd) t1.r (t2.ps.map PN.nd) t2.r with
 |false=>
  refine(qpd _ _ _ _ _ _ _ _ _ rfl s t v 7 (by decide) w (fun W hW=>?_)).mono ?_
  ·have k:=ck false hB W hW;simp only[Bool.false_eq_true,if_false] at k;exact k
  ·rintro e w' ⟨rfl,hb⟩;exact⟨hb,.inl ⟨7,by decide,.inl ⟨hB,rfl⟩,rfl⟩⟩
 |true=>
  have ck0:∀W,Below w.heap.size w W->Calls Tryz.prog 55 #[.agg (aJ A C ss t0 t1 t2 f).toArray] W fun e w'=>e=.returned (.int .i64 0)/\Below W.heap.size W w':=fun W hW=>by
   have k:=ck true hB W hW;simp only[if_true] at k;exact k
  by_cases hp:ptC s t v f=0
  ·obtain⟨L0,L1,L2,hL⟩:=mX hB;obtain⟨hn,ht,hv,hf⟩:=q4o hp;have hr:ptR s t v f=one t v:=by unfold ptR;rw[if_pos hp]
   obtain⟨e1,e2,e3⟩:=q4b ss s;have hfew:=hL.few
   have hlen:(bH ss s).length<=ss.length+1:=by
    unfold bH
    split<;>simp
   have hpl:0<=plc ss s/\plc ss s<17:=by omega
   have hg:=wZ ht hv
   have hes:∀x∈bH ss s,x.size<=140737488351232:=by
    intro x hx;unfold bH at hx
    split at hx
    ·rcases List.mem_append.1 hx with hx|hx
     ·exact hS.each x hx
     ·obtain rfl:x=s:=by simpa using hx
      exact hs
    ·exact hS.each x hx
   have kb:∀sz:Int,(sz=1\/sz=60\/sz=3600)->(0<=t-t%sz/\t-t%sz<1048576)/\0<=plc ss s*1048576+(t-t%sz)/\plc ss s*1048576+(t-t%sz)<=1099511627775:=by
    intro sz hsz;rcases hsz with rfl|rfl|rfl<;>omega
   have x0:ptE (plc ss s) t v=mkE (plc ss s*1048576+(t-t%1)) (one t v):=by
    have e:t-t%1=t:=by omega
    rw[e]
    rfl
   have x1:bk 60 (ptE (plc ss s) t v)=mkE (plc ss s*1048576+(t-t%60)) (one t v):=qpc ht;have x2:bk 3600 (ptE (plc ss s) t v)=mkE (plc ss s*1048576+(t-t%3600)) (one t v):=qpc ht
   refine(qk3 A t0.A t1.A t2.A C t0.C t1.C t2.C ss (bH ss s) t0.ps t1.ps t2.ps t0.r t1.r t2.r f s t v (one t v) w _ _ _ _ _ _ (plc ss s) (t-t%1) (t-t%60) (t-t%3600) (plc ss s*1048576+(t-t%1)) (plc ss s*1048576+(t-t%60)) (plc ss s*1048576+(t-t%3600)) (by omega) hes ck0 (fun W=>?_) (fun W hW=>q4p A C ss s W (hS.up hW) hs hfew) (fun VA VC W h=>?_) (fun W hW=>jJ W (hZ.below hW))
    (fun W=>lU t 1 W (by omega) (.inl rfl)) (fun W=>lU t 60 W (by omega) (.inr (.inl rfl))) (fun W=>lU t 3600 W (by omega) (.inr (.inr rfl)))
    (fun W=>qU _ _ W (by omega) (kb 1 (.inl rfl)).1) (fun W=>qU _ _ W (by omega) (kb 60 (.inr (.inl rfl))).1) (fun W=>qU _ _ W (by omega) (kb 3600 (.inr (.inr rfl))).1)
    (fun W hW=>qac (L:=L0) (h0.1.up hW) h0.2.1 hL.a0 hg (kb 1 (.inl rfl)).2 x0) (fun W hW=>qac (L:=L1) (h1.1.up hW) h1.2.1 hL.a1 hg (kb 60 (.inr (.inl rfl))).2 x1) (fun W hW=>qac (L:=L2) (h2.1.up hW) h2.2.1 hL.a2 hg (kb 3600 (.inr (.inr rfl))).2 x2)).mono ?_
   ·have k:=pf W;rw[hp,hr] at k;exact k
   ·have k:=q7g VA VC (bH ss s) s W h;rw[e1] at k;exact k
   ·intro e w' h;obtain⟨hb,h⟩:=h;refine⟨hb,?_⟩;rcases h with⟨h16,rfl⟩|⟨h16,c,hc0,hbad,rfl⟩|⟨h16,VA,VC,g0,D0,g1,D1,g2,D2,q0,q1,q2,s0,s1,s2,rfl,hown,N0,N1,N2,⟨M0,i0,a0⟩,⟨M1,i1,a1⟩,M2,i2,a2⟩
    ·exact .inl ⟨1,by decide,.inr (.inr ⟨hB,hp,rfl,.inl h16⟩),rfl⟩
    ·have hc1:c=1:=by
      rcases hbad with h|h|h<;>exact h.1
     refine .inl ⟨c,hc0,.inr (.inr ⟨hB,hp,hc1,.inr ⟨h16,fun K0 K1 K2 hK=>?_⟩⟩),rfl⟩
     obtain rfl:K0=L0:=by have:=hK.a0.symm.trans hL.a0;exact(Prod.mk.inj this).2
     obtain rfl:K1=L1:=by have:=hK.a1.symm.trans hL.a1;exact(Prod.mk.inj this).2
     obtain rfl:K2=L2:=by have:=hK.a2.symm.trans hL.a2;exact(Prod.mk.inj this).2
     rcases hbad with⟨_,h|h⟩|⟨_,h|h⟩|⟨_,h|h⟩
     ·exact .inl (.inl h)
     ·exact .inr (.inl h)
     ·exact .inl (.inr (.inl h))
     ·exact .inr (.inr (.inl h))
     ·exact .inl (.inr (.inr h))
     ·exact .inr (.inr (.inr h))
    ·have k0:=(jK a0).1;have k1:=(jK a1).1;have k2:=(jK a2).1;obtain⟨_,_,e9,hA9,hl9,_,hrow9⟩:=aP hown;cases e9;exact .inr ⟨VA,VC,⟨some ⟨g0,0,none⟩,D0,q0,s0⟩,⟨some ⟨g1,0,none⟩,D1,q1,s1⟩,⟨some ⟨g2,0,none⟩,D2,q2,s2⟩,L0,L1,L2,M0,M1,M2,⟨hB,hp,h16,hL,i0,i1,i2,a0,a1,a2⟩,rfl,hA9,hl9,⟨hrow9,by omega,hes⟩,⟨N0.nodes,mF k0,mG k0⟩,⟨N1.nodes,mF k1,mG k1⟩,⟨N2.nodes,mF k2,mG k2⟩,hown,hes,by omega,⟨g0,rfl,N0⟩,⟨g1,rfl,N1⟩,⟨g2,rfl,N2⟩⟩
  ·refine(qr9 _ _ _ _ _ _ _ _ _ rfl s t v _ _ hp w ck0 pf).mono ?_;rintro e w' ⟨rfl,hb⟩;exact⟨hb,.inl ⟨_,hp,.inr (.inl ⟨hB,hp,rfl⟩),rfl⟩⟩

end
section
open Go.RowKit Plain

structure Pt where
 s:ByteArray
 t:Int
 v:Int
deriving Inhabited

def ptIn(ss:List ByteArray)(p:Pt):En:=ptE (Lib.idxOfS ss p.s) p.t p.v

structure Pt.ok(f:Int)(p:Pt):Prop where
 t0:0<=p.t
 t1:p.t<=1048575
 v0: -1000000<=p.v
 v1:p.v<=1000000
 f0:f<=p.t

theorem q9b(size:Int):∀l:List En,sumC (l.map (bk size))=sumC l
 |[]=>rfl
 |y::r=>by
  simp only[List.map_cons,sumC,q9b size r]
  rfl

theorem qb3(ss:List ByteArray):∀l:List Pt,sumC (l.map (ptIn ss))=l.length
 |[]=>rfl
 |p::r=>by
  simp only[List.map_cons,sumC,qb3 ss r,List.length_cons];show(1:Int)+_=_;omega

structure fQ(ss:List ByteArray)(f:Int)(n0:List Nd)(r0:Int)(n1:List Nd)(r1:Int)(n2:List Nd)(r2:Int)(pts:List Pt)(L0 L1 L2:List En):Prop where
 ok:bM ss f n0 r0 n1 r1 n2 r2=true
 lst:kL ss f n0 r0 n1 r1 n2 r2 L0 L1 L2
 all:allL (pts.map (ptIn ss))=some L0
 pt:∀p∈pts,p.s∈ss/\p.ok f

section
variable {ss : List ByteArray} {f : Int} {n0 n1 n2 m0 m1 m2 : List Nd} {r0 r1 r2 q0 q1 q2 : Int} {pts : List Pt} {L0 L1 L2 : List En}

theorem fQ.good(h:fQ ss f n0 r0 n1 r1 n2 r2 pts L0 L1 L2):(∀y∈L0,Good y.ru)/\(∀y∈L1,Good y.ru)/\∀y∈L2,Good y.ru:=by
 have f0:=gU (ns:=n0) (r:=r0) (low:=0) (high:=1099511627776);have f1:=gU (ns:=n1) (r:=r1) (low:=0) (high:=1099511627776);have f2:=gU (ns:=n2) (r:=r2) (low:=0) (high:=1099511627776);rw[h.lst.a0] at f0;rw[h.lst.a1] at f1;rw[h.lst.a2] at f2;exact⟨f0.2.1,f1.2.1,f2.2.1⟩

theorem fQ.sum(h:fQ ss f n0 r0 n1 r1 n2 r2 pts L0 L1 L2):sumC L0=pts.length/\sumC L1=pts.length/\sumC L2=pts.length:=by
 have h0:=(q8u h.all).trans (qb3 ss pts);exact⟨h0,((q8u h.lst.p1).trans (q9b 60 L0)).trans h0,((q8u h.lst.p2).trans (q9b 3600 L0)).trans h0⟩

theorem fQ.few(h:fQ ss f n0 r0 n1 r1 n2 r2 pts L0 L1 L2):L0.length<=pts.length/\L1.length<=pts.length/\L2.length<=pts.length:=by
 obtain⟨g0,g1,g2⟩:=h.good;obtain⟨s0,s1,s2⟩:=h.sum;have:=xG (jL g0);have:=xG (jL g1);have:=xG (jL g2);omega

theorem q9v{L:List En}{x:En}(hg:∀y∈L,Good y.ru)(hx:x.c=1)(hs:sumC L<=1000000):ins L x≠none:=fun h=>by
 have h1:=xP (jL hg) h;have h2:=qbl (k:=x.key) (jL hg);omega

theorem fQ.add_ok(h:fQ ss f n0 r0 n1 r1 n2 r2 pts L0 L1 L2){s:ByteArray}{t v c:Int}(hp:ptC s t v f=0)(hl:(bH ss s).length<=16)(hn:pts.length<=900):¬qqr ss s t v f n0 r0 n1 r1 n2 r2 c:=by
 obtain⟨g0,g1,g2⟩:=h.good;obtain⟨s0,s1,s2⟩:=h.sum;obtain⟨l0,l1,l2⟩:=h.few;rintro(⟨h1,_⟩|⟨_,h1,_⟩|⟨_,_,_,h1⟩)
 ·rw[h.ok] at h1;cases h1
 ·exact h1 hp
 ·rcases h1 with h1|⟨_,h1⟩
  ·omega
  ·rcases h1 L0 L1 L2 h.lst with(h1|h1|h1)|h1|h1|h1
   ·exact q9v g0 rfl (by omega) h1
   ·exact q9v g1 rfl (by omega) h1
   ·exact q9v g2 rfl (by omega) h1
   ·omega
   ·omega
   ·omega

theorem qno{ss:List ByteArray}{q s:ByteArray}(h:q∈ss):Lib.idxOfS (ss++[s]) q=Lib.idxOfS ss q:=by
 obtain⟨k,hk,e,hd⟩:=qG h;obtain⟨k',h1,h2,h3⟩:=qas (ss:=ss) k hd;have e1:=Lib.idxOfS_hit ss ss.length k' q (by omega) (Nat.le_refl _) h2 h3
 rw[List.take_length] at e1
 have gd:∀j,j<ss.length->(ss++[s]).getD j ByteArray.empty=ss.getD j ByteArray.empty:=fun j hj=>by
  rw[pO (by simp;omega),List.getElem_append_left hj,pO hj]
 have e2:=Lib.idxOfS_hit (ss++[s]) (ss++[s]).length k' q (by simp;omega) (Nat.le_refl _) (by rw[gd k' (by omega)];exact h2) (fun j hj=>by rw[gd j (by omega)];exact h3 j hj)
 rw[List.take_length] at e2;rw[e1,e2]

theorem qkd{ss:List ByteArray}{q s:ByteArray}(h:q∈ss):Lib.idxOfS (bH ss s) q=Lib.idxOfS ss q:=by
 unfold bH
 split
 ·exact qno h
 ·rfl

theorem qb4{ss:List ByteArray}{q s:ByteArray}(h:q∈ss):q∈bH ss s:=by
 unfold bH
 split
 ·exact List.mem_append_left _ h
 ·exact h

theorem q4x(ss:List ByteArray)(s:ByteArray):s∈bH ss s:=by
 unfold bH
 split
 ·simp
 ·rename_i h
  exact Classical.byContradiction fun c=>h (idx_neg.2 c)

theorem fQ.add(h:fQ ss f n0 r0 n1 r1 n2 r2 pts L0 L1 L2){s:ByteArray}{t v:Int}{K0 K1 K2 M0 M1 M2:List En}(hy:yF ss s t v f n0 r0 n1 r1 n2 r2 m0 q0 m1 q1 m2 q2 K0 K1 K2 M0 M1 M2):fQ (bH ss s) f m0 q0 m1 q1 m2 q2 (pts++[⟨s,t,v⟩]) M0 M1 M2:=by
 obtain⟨hb,-⟩:=hy.base;obtain⟨J0,J1,J2,hJ⟩:=mX hb;obtain rfl:J0=M0:=(Prod.mk.inj (hJ.a0.symm.trans hy.a0)).2;obtain rfl:J1=M1:=(Prod.mk.inj (hJ.a1.symm.trans hy.a1)).2;obtain rfl:J2=M2:=(Prod.mk.inj (hJ.a2.symm.trans hy.a2)).2;obtain rfl:K0=L0:=(Prod.mk.inj (hy.lst.a0.symm.trans h.lst.a0)).2;obtain⟨_,h2,h3,h4⟩:=q4o hy.pt;refine⟨hb,hJ,?_,fun p hp=>?_⟩
 ·have e:pts.map (ptIn (bH ss s))=pts.map (ptIn ss):=List.map_congr_left fun p hp=>by
   unfold ptIn;rw[qkd (h.pt p hp).1]
  rw[List.map_append,e,List.map_singleton,wL,h.all]
  have e2:ptIn (bH ss s) ⟨s,t,v⟩=ptE (plc ss s) t v:=by
   unfold ptIn;rw[(q4b ss s).1]
  rw[e2];exact hy.i0
 ·rcases List.mem_append.1 hp with hp|hp
  ·exact⟨qb4 (h.pt p hp).1,(h.pt p hp).2⟩
  ·obtain rfl:p=⟨s,t,v⟩:=by simpa using hp
   exact⟨q4x ss s,⟨h2.1,h2.2,h3.1,h3.2,h4⟩⟩

def inPt(x:ByteArray)(a b:Int)(p:Pt):Bool:=decide (p.s=x)&&(decide (a<=p.t)&&decide (p.t<=b))
def iH(x:ByteArray)(a b:Int)(l:List Pt):List Pt:=l.filter (inPt x a b)
def ruP(p:Pt):Ru:=one p.t p.v
def sumR(l:List Pt):Ru:=l.foldl (fun o p=>(mrg o (ruP p)).1) zro

theorem qlx{p:Pt}{x:ByteArray}{i a b:Int}(hm:p.s∈ss)(hx:Lib.idxOfS ss x=i)(_:0<=i)(hp:p.ok f):selK i a b (ptIn ss p)=inPt x a b p:=by
 have h0:=hp.t0;have h1:=hp.t1;obtain⟨k,hk,ek,hd⟩:=qG hm
 have k1:(ptIn ss p).key/1048576=k:=by
  show(Lib.idxOfS ss p.s*1048576+p.t)/1048576=k;rw[ek];omega
 have k2:(ptIn ss p).key%1048576=p.t:=by
  show(Lib.idxOfS ss p.s*1048576+p.t)%1048576=p.t;rw[ek];omega
 unfold selK keyB inPt;rw[k1,k2];congr 1;refine decide_eq_decide.2 ⟨fun e=>?_,fun e=>?_⟩
 ·have hxm:x∈ss:=by
   rw[<-Lib.idxOfS_nonneg_iff];omega
  obtain⟨j,hj,ej,hdj⟩:=qG hxm;have:j=k:=by omega
  rw[<-hd,<-hdj,this]
 ·rw[<-hx,<-e,ek]

theorem fQ.sel(h:fQ ss f n0 r0 n1 r1 n2 r2 pts L0 L1 L2){x:ByteArray}{i a b:Int}(hx:Lib.idxOfS ss x=i)(hi:0<=i):allL ((iH x a b pts).map (ptIn ss))=some (L0.filter (selK i a b)):=by
 have h1:=pF (P:=keyB i a b) (pts.map (ptIn ss)) [] L0 (by simp) h.all
 have e:((pts.map (ptIn ss)).filter fun z=>keyB i a b z.key)=(iH x a b pts).map (ptIn ss):=by
  rw[List.filter_map];congr 1;exact List.filter_congr fun p hp=>qlx (h.pt p hp).1 hx hi (h.pt p hp).2
 rw[e] at h1;exact h1

theorem q2j{p:Pt}(hp:p.ok f):Good (ptIn ss p).ru:=wZ ⟨hp.t0,hp.t1⟩ ⟨hp.v0,hp.v1⟩

theorem qc5:∀(l:List Pt) (o:Ru),(o=zro\/Good o)->(∀p∈l,∃f,Pt.ok f p)->o.c+l.length<=1073741824->∀(ss:List ByteArray),(l.map (ptIn ss)).foldl bJ (o,0)=(l.foldl (fun o p=>(mrg o (ruP p)).1) o,0)/\(l.foldl (fun o p=>(mrg o (ruP p)).1) o).c=o.c+l.length/\((l.foldl (fun o p=>(mrg o (ruP p)).1) o)=zro\/Good (l.foldl (fun o p=>(mrg o (ruP p)).1) o))
 |[],o,ho,_,_,_=>⟨rfl,by simp,ho⟩
 |p::l,o,ho,hp,hc,ss=>by
  obtain⟨f,hf⟩:=hp p List.mem_cons_self;have hg:Good (ruP p):=wZ ⟨hf.t0,hf.t1⟩ ⟨hf.v0,hf.v1⟩;have c1:(ruP p).c=1:=rfl;have hl:((p::l).length:Int)=l.length+1:=by simp
  rw[hl] at hc ⊢
  have hm:(mrg o (ruP p)).2=0/\(mrg o (ruP p)).1.c=o.c+1/\Good (mrg o (ruP p)).1:=by
   rcases ho with rfl|ho
   ·rw[xR hg];exact⟨rfl,by rw[c1];rfl,hg⟩
   ·rw[qB ho hg,if_pos (by rw[c1];omega)]
    exact⟨rfl,rfl,oO ho hg (by rw[c1];omega)⟩
  obtain⟨h1,h2,h3⟩:=qc5 l (mrg o (ruP p)).1 (.inr hm.2.2) (fun q hq=>hp q (List.mem_cons_of_mem _ hq)) (by omega) ss
  simp only[List.map_cons,List.foldl_cons]
  have e:bJ (o,0) (ptIn ss p)=((mrg o (ruP p)).1,0):=by
   unfold bJ;rw[if_pos rfl];exact Prod.ext rfl hm.1
  rw[e];exact⟨h1,by rw[h2,hm.2.1];omega,h3⟩

theorem qeu{l:List Pt}(ss:List ByteArray)(hp:∀p∈l,∃f,Pt.ok f p)(hc:(l.length:Int)<=1073741824):tot (l.map (ptIn ss))=(sumR l,0)/\(sumR l).c=l.length:=by
 have k:=qc5 l zro (.inl rfl) hp (by show(0:Int)+_<=_;omega) ss
 exact⟨k.1,k.2.1.trans (by show(0:Int)+_=_;omega)⟩

theorem fQ.total(h:fQ ss f n0 r0 n1 r1 n2 r2 pts L0 L1 L2){x:ByteArray}{i a b:Int}(hx:Lib.idxOfS ss x=i)(hi:0<=i)(hn:pts.length<=100000):tot (L0.filter (selB i a b))=(sumR (iH x a b pts),0):=by
 have hsub:∀p∈iH x a b pts,p∈pts:=fun p hp=>(List.mem_filter.1 hp).1
 have hl:(iH x a b pts).length<=pts.length:=List.length_filter_le _ _;have h1:=h.sel (a:=a) (b:=b) hx hi
 have hg1:∀y∈(iH x a b pts).map (ptIn ss),Good y.ru:=fun y hy=>by
  obtain⟨p,hp,rfl⟩:=List.mem_map.1 hy;exact q2j (h.pt p (hsub p hp)).2
 have h2:=qmq hg1 h1;rw[<-(qeu ss (fun p hp=>⟨f,(h.pt p (hsub p hp)).2⟩) (by omega)).1]
 exact(qgp hg1 (fun y hy=>h.good.1 y (List.mem_filter.1 hy).1) h2).symm
end

end
section
open Go.RowKit Plain Go.Shelf

def nmS(i:Int):ByteArray:=if i=0 then⟨#[99,112,117]⟩ else if i=1 then⟨#[109,101,109]⟩ else if i=2 then⟨#[110,101,116,46,105,110]⟩ else⟨#[57]⟩

theorem qji(i:Int):(nmS i).size<=6:=by
 unfold nmS
 split
 ·decide
 ·split
  ·decide
  ·split<;>decide

theorem q4i(i:Int):gX (nmS i)=true:=by
 unfold nmS
 split
 ·decide
 ·split
  ·decide
  ·split<;>decide

set_option maxHeartbeats 400000 in
theorem qh4(n:Int)(w:World)(hn:i64B n):Calls Tryz.prog 37 #[.int .i64 n] w fun e w'=>e=.returned (.string (nmS (pick n 4)))/\Below w.heap.size w w':=by
 have hb:=jZ n (show(0:Int)<4 by decide)
 have con:=aA fun W=>qQ n 4 W hn.1 hn.2 (by decide) (by decide)
 rcases(show pick n 4=0\/pick n 4=1\/pick n 4=2\/pick n 4=3 by omega) with h|h|h|h<;>rw[h] at con ⊢<;>
 ·go_enter Tryz.func37,Tryz.ntmps37
  go_wp2_with (go_at_call 22;refine(con.out _).mono ?_;rintro e w1 ⟨rfl,hw1⟩;subst w1);go_ret;exact⟨rfl,(Below.refl _ _).alloc (Nat.le_refl _) _⟩

set_option maxRecDepth 20000 in
set_option maxHeartbeats 1000000 in
theorem qd4(k a b c:Int)(w:World)(hk:i64B k)(ha:i64B a)(hb:i64B b):Calls Tryz.prog 21 #[.agg #[.int .i64 k,.int .i64 a,.int .i64 b,.int .i64 c]] w fun e w'=>e=.returned (.agg #[.string (nmS (pick k 4)),.int .i64 (pick a 12000),.int .i64 (pick b 2000-1000)])/\Below w.heap.size w w':=by
 have q2:=jZ b (show(0:Int)<2000 by decide)
 have b2:∀o1 o2:Obj,Below w.heap.size w ((w.alloc o1).alloc o2):=fun o1 o2=>((Below.refl _ _).alloc (Nat.le_refl _) _).alloc (by simp) _
 have c1:=aA fun W=>qh4 k W hk
 have c2:=aA fun W=>qQ a 12000 W ha.1 ha.2 (by decide) (by decide)
 have c3:=aA fun W=>qQ b 2000 W hb.1 hb.2 (by decide) (by decide)
 obtain⟨s,hs⟩:∃s,nmS (pick k 4)=s:=⟨_,rfl⟩;obtain⟨t,ht⟩:∃t,pick a 12000=t:=⟨_,rfl⟩;obtain⟨u,hu⟩:∃u,pick b 2000=u:=⟨_,rfl⟩;rw[hs] at c1 ⊢;rw[ht] at c2 ⊢;rw[hu] at c3 q2 ⊢;clear hs ht hu;have k1:IntKind.i64.wrap (u-1000)=u-1000:=by rw[IntKind.wrap_i64];omega
 go_enter Tryz.func21,Tryz.ntmps21
 go_wp2_with fail
 go_region_held3 (fun w'=>w'.cell? ⟨w.heap.size,0,none⟩=some (.int .i64 k)/\w'.cell? ⟨w.heap.size,1,none⟩=some (.int .i64 a)/\w'.cell? ⟨w.heap.size,2,none⟩=some (.int .i64 b)) (go_keep)
  (first
   |(go_at_call 37;refine(c1.out _).mono ?_;rintro e w1 ⟨rfl,hb1⟩;have T1:=(aY (hb1.mono (show w.heap.size+1<=_ by simp))).1;have D1:=(aY (hb1.mono (show w.heap.size+1+1<=_ by simp))).1;have F1:=(aY (hb1.mono (show w.heap.size+1+1<=_ by simp))).2;have HB:=aA hb1)
   |(go_at_call_of 22 a;refine(c2.out _).mono ?_;rintro e w2 ⟨rfl,hw2⟩;subst w2)
   |(go_at_call_of 22 b;refine(c3.out _).mono ?_;rintro e w3 ⟨rfl,hw3⟩;subst w3))
 all_goals
  go_wp2;have D2:=fun o=>D1 (w.heap.size+1) o (by omega)
  refine bodyPost_ret (v:=.agg #[.string s,.int .i64 t,.int .i64 (u-1000)]) (by simp[results,Tryz.results21,go_sem,D2]) rfl ⟨rfl,?_⟩
  have hb:=aC ((b2 _ _).drew) (Nat.le_refl _) HB.out;exact fH (fH (fH hb (by omega) _ _) (by omega) _ _) (by omega) _ _

structure Ac where
 k:Int
 s:ByteArray
 t:Int
 z:Int
 n:Int
 v:Int

def Ac.vals(a:Ac):List Value:=[.int .i64 a.k,.string a.s,.int .i64 a.t,.int .i64 a.z,.int .i64 a.n,.int .i64 a.v]
def bD:List Ac->List Value
 |[]=>[]
 |x::r=>x.vals++bD r

theorem jT:∀xs:List Ac,(bD xs).length=xs.length*6
 |[]=>rfl
 |x::r=>by simp[bD,Ac.vals,jT r];omega

theorem zH:∀xs ys:List Ac,bD (xs++ys)=bD xs++bD ys
 |[],_=>rfl
 |x::r,ys=>by simp[bD,zH r ys]

theorem kX(xs:List Ac):∀u∈bD xs,u.oneCell'=true:=by
 induction xs with
 |nil=>simp[bD]
 |cons x r ih=>
  intro u hu;simp only[bD,Ac.vals,List.cons_append,List.nil_append,List.mem_cons] at hu;rcases hu with h|h|h|h|h|h|h
  all_goals first|(subst h;rfl)|exact ih u h

theorem qgg(xs:List Ac)(k j:Nat)(hk:k<xs.length)(hj:j<6):(bD xs)[k*6+j]? =(xs[k]).vals[j]? :=by
 induction xs generalizing k with
 |nil=>simp at hk
 |cons x r ih=>
  cases k with
  |zero=>simp only[bD];rw[List.getElem?_append_left (by simp[Ac.vals];omega)];simp
  |succ k=>
   simp only[bD];rw[List.getElem?_append_right (by simp[Ac.vals];omega)]
   have:=ih k (by simpa using hk)
   simp only[Ac.vals,List.length_cons,List.length_nil] at *;rw[show(k+1)*6+j-(0+1+1+1+1+1+1)=k*6+j by omega]
   simpa using this

structure AcAt(w:World)(b o:Nat)(x:Ac):Prop where
 c0:w.cell? ⟨b,o,none⟩=some (.int .i64 x.k)
 c1:w.cell? ⟨b,o+1,none⟩=some (.string x.s)
 c2:w.cell? ⟨b,o+2,none⟩=some (.int .i64 x.t)
 c3:w.cell? ⟨b,o+3,none⟩=some (.int .i64 x.z)
 c4:w.cell? ⟨b,o+4,none⟩=some (.int .i64 x.n)
 c5:w.cell? ⟨b,o+5,none⟩=some (.int .i64 x.v)

theorem aH.ac6{B:Nat}{w:World}{A:Option Addr}{xs:List Ac}(h:aH B w A (bD xs)){k:Nat}(hk:k<xs.length):
  ∃b o,A=some ⟨b,o,none⟩/\b<B/\AcAt w b (o+k*6) xs[k]:=by
 rcases h with h|⟨b,o,hA,hlt,hc⟩
 ·have:=jT xs;rw[h] at this;simp at this;omega
 ·refine⟨b,o,hA,hlt,?_⟩
  have g:∀j,j<6->∀u,(xs[k]).vals[j]? =some u->w.cell? ⟨b,o+k*6+j,none⟩=some u:=fun j hj u hu=>by
   have:=hc (k*6+j) u (by rw[qgg xs k j hk hj];exact hu)
   rwa [<-Nat.add_assoc] at this
  exact⟨g 0 (by decide) _ rfl,g 1 (by decide) _ rfl,g 2 (by decide) _ rfl,g 3 (by decide) _ rfl,g 4 (by decide) _ rfl,g 5 (by decide) _ rfl⟩

def szI(i:Int):Int:=if i=0 then 1 else if i=1 then 60 else 3600

def gY(x:Rw):Ac:=
 if pick x.c 16=0 then⟨2,nmS (pick x.k 4),pick x.a 6000,pick x.a 6000+pick x.b 9000,szI (pick x.b 3),0⟩
 else if pick x.c 16<3 then⟨3,nmS (pick x.k 4),pick x.a 6000,pick x.a 6000+pick x.b 9000,0,0⟩
 else if pick x.c 16=3/\pick x.a 4=0 then⟨4,ByteArray.empty,3600*pick x.b 3,0,0,0⟩
 else if pick x.c 16=4 then⟨5,ByteArray.empty,0,0,0,0⟩
 else if pick x.c 16=5/\pick x.a 3=0 then⟨6,ByteArray.empty,0,0,0,0⟩
 else⟨1,nmS (pick x.k 4),pick x.a 12000,0,0,pick x.b 2000-1000⟩

structure AcOk(a:Ac):Prop where
 sz:a.s.size<=6
 k:1<=a.k/\a.k<=6
 nm:a.k<=3->∃i,a.s=nmS i
 put:a.k=1->0<=a.t/\a.t<=11999/\ -1000000<=a.v/\a.v<=1000000
 ask:a.k=2->0<=a.t/\a.t<=a.z/\a.z<=1048575/\(a.n=1\/a.n=60\/a.n=3600)
 sum:a.k=3->0<=a.t/\a.t<=a.z/\a.z<=1048575
 exp:a.k=4->a.t=0\/a.t=3600\/a.t=7200

theorem qpp(i:Int):szI i=1\/szI i=60\/szI i=3600:=by
 unfold szI
 split
 ·exact .inl rfl
 ·split
  ·exact .inr (.inl rfl)
  ·exact .inr (.inr rfl)

theorem qjn(x:Rw):AcOk (gY x):=by
 have h1:=jZ x.a (show(0:Int)<6000 by decide)
 have h2:=jZ x.b (show(0:Int)<9000 by decide)
 have h3:=jZ x.a (show(0:Int)<12000 by decide)
 have h4:=jZ x.b (show(0:Int)<2000 by decide)
 have h5:=jZ x.b (show(0:Int)<3 by decide)
 have hs:=qji (pick x.k 4);have e0:ByteArray.empty.size<=6:=by decide
 unfold gY
 split
 ·exact⟨hs,⟨by simp,by simp⟩,fun _=>⟨_,rfl⟩,fun h=>by simp at h,fun _=>⟨h1.1,by simp only;omega,by simp only;omega,qpp _⟩,fun h=>by simp at h,fun h=>by simp at h⟩
 ·split
  ·exact⟨hs,⟨by simp,by simp⟩,fun _=>⟨_,rfl⟩,fun h=>by simp at h,fun h=>by simp at h,fun _=>⟨h1.1,by simp only;omega,by simp only;omega⟩,fun h=>by simp at h⟩
  ·split
   ·exact⟨e0,⟨by simp,by simp⟩,fun h=>by simp at h,fun h=>by simp at h,fun h=>by simp at h,fun h=>by simp at h,fun _=>by simp only;omega⟩
   ·split
    ·exact⟨e0,⟨by simp,by simp⟩,fun h=>by simp at h,fun h=>by simp at h,fun h=>by simp at h,fun h=>by simp at h,fun h=>by simp at h⟩
    ·split
     ·exact⟨e0,⟨by simp,by simp⟩,fun h=>by simp at h,fun h=>by simp at h,fun h=>by simp at h,fun h=>by simp at h,fun h=>by simp at h⟩
     ·exact⟨hs,⟨by simp,by simp⟩,fun _=>⟨_,rfl⟩,fun _=>⟨h3.1,by simp only;omega,by simp only;omega,by simp only;omega⟩,fun h=>by simp at h,fun h=>by simp at h,fun h=>by simp at h⟩

end
end Go.Proofs.YtlojfgdpmaigmagGreatDoor

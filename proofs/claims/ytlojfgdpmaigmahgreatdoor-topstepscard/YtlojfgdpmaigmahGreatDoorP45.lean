/- base.Add: what it answers, at any base and any point. -/
import Derived.Test.YtlojfgdpmaigmahGreatDoorAddCore
import Derived.Test.YtlojfgdpmaigmahGreatDoorP40
import Derived.Test.YtlojfgdpmaigmahGreatDoorP12
import Derived.Test.YtlojfgdpmaigmahGreatDoorP08
import Derived.Test.YtlojfgdpmaigmahGreatDoorP25
import Derived.Test.YtlojfgdpmaigmahGreatDoorP02
import Derived.Deep.RegionHeld3
import Derived.Deep.DeepCutAuto
namespace Go.Proofs.YtlojfgdpmaigmahGreatDoor
section
open Go.RowKit Plain Go.Shelf

def z2a(ss:List ByteArray)(s:ByteArray)(t v f:Int)(n0:List Nd)(r0:Int)(n1:List Nd)(r1:Int)(n2:List Nd)(r2 c:Int):Prop:=
 (q2o ss f n0 r0 n1 r1 n2 r2=false/\c=7)\/(q2o ss f n0 r0 n1 r1 n2 r2=true/\ptC s t v f≠0/\c=ptC s t v f)\/
 (q2o ss f n0 r0 n1 r1 n2 r2=true/\ptC s t v f=0/\c=1/\(16<(q1x ss s).length\/((q1x ss s).length<=16/\∀L0 L1 L2,qcw ss f n0 r0 n1 r1 n2 r2 L0 L1 L2->
  (ins L0 (ptE (plc ss s) t v)=none\/ins L1 (bk 60 (ptE (plc ss s) t v))=none\/ins L2 (bk 3600 (ptE (plc ss s) t v))=none)\/(200<n0.length/\900<L0.length)\/(200<n1.length/\900<L1.length)\/(200<n2.length/\900<L2.length))))

structure qnr(ss:List ByteArray)(s:ByteArray)(t v f:Int)(n0:List Nd)(r0:Int)(n1:List Nd)(r1:Int)(n2:List Nd)(r2:Int)(m0:List Nd)(q0:Int)(m1:List Nd)(q1:Int)(m2:List Nd)(q2:Int)(L0 L1 L2 M0 M1 M2:List En):Prop where
 was:q2o ss f n0 r0 n1 r1 n2 r2=true
 pt:ptC s t v f=0
 few:(q1x ss s).length<=16
 lst:qcw ss f n0 r0 n1 r1 n2 r2 L0 L1 L2
 i0:ins L0 (ptE (plc ss s) t v)=some M0
 i1:ins L1 (bk 60 (ptE (plc ss s) t v))=some M1
 i2:ins L2 (bk 3600 (ptE (plc ss s) t v))=some M2
 a0:allP m0 q0 0 1099511627776=(0,M0)
 a1:allP m1 q1 0 1099511627776=(0,M1)
 a2:allP m2 q2 0 1099511627776=(0,M2)

theorem qnr.base{ss:List ByteArray}{s:ByteArray}{t v f:Int}{n0 n1 n2 m0 m1 m2:List Nd}{r0 r1 r2 q0 q1 q2:Int}{L0 L1 L2 M0 M1 M2:List En}(h:qnr ss s t v f n0 r0 n1 r1 n2 r2 m0 q0 m1 q1 m2 q2 L0 L1 L2 M0 M1 M2):
  q2o (q1x ss s) f m0 q0 m1 q1 m2 q2=true/\q7h m0 q0 (q1x ss s).length f=some M0:=by
 obtain⟨h1,h2,h3,h4⟩:=qgi h.pt
 exact qx5 h.was h.lst h1 h.few h2 h3 h4 h.i0 h.i1 h.i2 h.a0 h.a1 h.a2

structure OwnB(B:Nat)(w:World)(A:Option Addr)(C:Nat)(ss:List ByteArray)(t0 t1 t2:TR):Prop where
 sr:w.ownsRow B 9 1 (.slice A ss.length C) ss.length (strs ss)
 se:∀s∈ss,s.size<=140737488351232
 sn:ss.length<=17
 n0:∃g,t0.A=some ⟨g,0,none⟩/\NT B w g t0.C t0.ps
 n1:∃g,t1.A=some ⟨g,0,none⟩/\NT B w g t1.C t1.ps
 n2:∃g,t2.A=some ⟨g,0,none⟩/\NT B w g t2.C t2.ps

theorem OwnB.keep{B B':Nat}{w w':World}{A:Option Addr}{C:Nat}{ss:List ByteArray}{t0 t1 t2:TR}(h:OwnB B w A C ss t0 t1 t2)(hb:B'<=B)(hk:∀k,B<=k->k<w.heap.size->w'.heap[k]? =w.heap[k]?):OwnB B' w' A C ss t0 t1 t2:=by
 obtain⟨g0,e0,k0⟩:=h.n0
 obtain⟨g1,e1,k1⟩:=h.n1
 obtain⟨g2,e2,k2⟩:=h.n2
 exact⟨q0n (q0c h.sr fun k hk'=>hk k (h.sr.lt k hk').1 (h.sr.lt k hk').2) hb,h.se,h.sn,⟨g0,e0,(k0.of_blocks fun k hk'=>hk k (k0.lt k hk').1 (k0.lt k hk').2).low hb⟩,⟨g1,e1,(k1.of_blocks fun k hk'=>hk k (k1.lt k hk').1 (k1.lt k hk').2).low hb⟩,⟨g2,e2,(k2.of_blocks fun k hk'=>hk k (k2.lt k hk').1 (k2.lt k hk').2).low hb⟩⟩

def z5p(ss:List ByteArray)(s:ByteArray)(t v f:Int)(n0:List Nd)(r0:Int)(n1:List Nd)(r1:Int)(n2:List Nd)(r2:Int)(w:World)(e:Ending)(w':World):Prop:=
 Below w.heap.size w w'/\((∃c,c≠0/\z2a ss s t v f n0 r0 n1 r1 n2 r2 c/\e=.returned (q2b c))\/
  ∃(A':Option Addr) (C':Nat) (t0 t1 t2:TR) (L0 L1 L2 M0 M1 M2:List En),qnr ss s t v f n0 r0 n1 r1 n2 r2 (t0.ps.map PN.nd) t0.r (t1.ps.map PN.nd) t1.r (t2.ps.map PN.nd) t2.r L0 L1 L2 M0 M1 M2/\e=.returned (.tuple #[.agg (q0l A' C' (q1x ss s) t0 t1 t2 f).toArray,.int .i64 0])/\
   (A'=none->C'=0)/\(q1x ss s).length<=C'/\q2y w'.heap.size w' A' (q1x ss s)/\t0.ok w'/\t1.ok w'/\t2.ok w'/\OwnB w.heap.size w' A' C' (q1x ss s) t0 t1 t2)

theorem qg2{ns:List Nd}{root:Int}{l:List En}(h:allP ns root 0 1099511627776=(0,l)):qoo ns root l:=by
 obtain⟨h1,h2⟩:=q3f h
 rw[qaw h1] at h2
 exact qoo.mk' h1 h2

theorem qln{A:Option Addr}{C:Nat}{root key:Int}{r:Ru}{ps:List PN}{L:List En}{x:En}{W:World}(hN:q0q W.heap.size W A ps)(hwf:∀p∈ps,p.wf)(ha:allP (ps.map PN.nd) root 0 1099511627776=(0,L))(hg:Good r)(hk:0<=key/\key<=1099511627775)(hx:x=mkE key r):
  Calls Tryz.prog 60 #[.agg #[.slice A ps.length C,.int .i64 root],.int .i64 key,.agg #[.int .i64 r.c,.int .i64 r.s,.int .i64 r.lo,.int .i64 r.hi,.int .i64 r.t,.int .i64 r.l]] W (PutC (fun c=>c=1/\(ins L x=none\/(200<(ps.map PN.nd).length/\900<L.length))) (fun m q=>∃M,ins L x=some M/\allP m q 0 1099511627776=(0,M)) W):=by
 subst hx
 refine(qz1 A C root key r ps W hN hwf).mono ?_
 intro e w' h
 have hcode:=qxm (key:=key) ha hg hk
 rcases h with⟨h0,rfl,hb⟩|⟨h0,hc,hP⟩
 ·rcases hcode with⟨h1,_⟩|⟨h1,h2⟩
  ·exact absurd h1 h0
  ·rw[h1]
   exact⟨none,0,0,0,1,rfl,hb,.inl ⟨by decide,rfl,.inl h2⟩⟩
 ·obtain⟨ns2,root2,hok,hb,⟨h2,rfl⟩|⟨h2,g,C',qs,rfl,hNT,hm⟩⟩:=hP.res
  ·refine⟨none,0,0,0,1,rfl,hb,.inl ⟨by decide,rfl,.inr ⟨by have:=hok.few;omega,?_⟩⟩⟩
   rcases hcode with⟨_,ys,h3⟩|⟨h1,_⟩
   ·have h4:=(qg2 ha).put_few hok h3
    have h5:=(q5k (x:=mkE key r) hg (qg2 ha).good h3).2
    omega
   ·omega
  ·rcases hcode with⟨_,ys,h3⟩|⟨h1,_⟩
   ·refine⟨some ⟨g,0,none⟩,qs.length,C',root2,0,rfl,hb,.inr ⟨rfl,g,qs,rfl,rfl,hNT,ys,h3,?_⟩⟩
    rw[hm]
    exact qvi ha h0 hok h2 h3
   ·omega

theorem q7w{ns:List Nd}{root:Int}(h:q1k ns root=0):(Lit.int .i64 root).wf=true:=by
 have hz:=(q9q h).1
 have:0<=root/\root<=2000:=by
  rcases q9t h with⟨ht,P,hs,hp⟩|⟨_,rfl⟩
  ·have:=qhm hs
   omega
  ·omega
 exact WalkArith.wf_i64 (by omega)

theorem qhb(A:Option Addr)(C:Nat)(ss:List ByteArray)(t0 t1 t2:TR)(f:Int)(s:ByteArray)(t v:Int)(w:World)(hZ:SzAt w)(hC:ss.length<=C)(hS:q2y w.heap.size w A ss)(hs:s.size<=140737488351232)(h0:t0.ok w)(h1:t1.ok w)(h2:t2.ok w):
  Calls Tryz.prog 39 #[.agg (q0l A C ss t0 t1 t2 f).toArray,.agg #[.string s,.int .i64 t,.int .i64 v]] w (z5p ss s t v f (t0.ps.map PN.nd) t0.r (t1.ps.map PN.nd) t1.r (t2.ps.map PN.nd) t2.r w):=by
 have okup:∀(t:TR) (w':World),Below w.heap.size w w'->t.ok w->t.ok w':=fun t w' hb ht=>⟨ht.1.up hb,ht.2.1,ht.2.2⟩
 have ck:=fun(bb:Bool) (hbb:Hid (q2o ss f (t0.ps.map PN.nd) t0.r (t1.ps.map PN.nd) t1.r (t2.ps.map PN.nd) t2.r=bb)) W (hW:Below w.heap.size w W)=>q8e A C ss t0 t1 t2 f W (hZ.below hW) hC (hS.up hW) (okup t0 W hW h0) (okup t1 W hW h1) (okup t2 W hW h2) bb hbb
 have pf:=fun W=>qiy A C ss t0 t1 t2 f s t v W
 cases hB:q2o ss f (t0.ps.map PN.nd) t0.r (t1.ps.map PN.nd) t1.r (t2.ps.map PN.nd) t2.r with
 |false=>
  refine(z2j _ _ _ _ _ _ _ _ _ rfl s t v 7 (by decide) w (fun W hW=>?_)).mono ?_
  ·have k:=ck false hB W hW
   simp only[Bool.false_eq_true,if_false] at k
   exact k
  ·rintro e w' ⟨rfl,hb⟩
   exact⟨hb,.inl ⟨7,by decide,.inl ⟨hB,rfl⟩,rfl⟩⟩
 |true=>
  have ck0:∀W,Below w.heap.size w W->Calls Tryz.prog 20 #[.agg (q0l A C ss t0 t1 t2 f).toArray] W fun e w'=>e=.returned (.int .i64 0)/\Below W.heap.size W w':=fun W hW=>by
   have k:=ck true hB W hW
   simp only[if_true] at k
   exact k
  by_cases hp:ptC s t v f=0
  ·obtain⟨L0,L1,L2,hL⟩:=qf0 hB
   obtain⟨hn,ht,hv,hf⟩:=qgi hp
   have hr:ptR s t v f=one t v:=by unfold ptR;rw[if_pos hp]
   obtain⟨e1,e2,e3⟩:=qhk ss s
   have hfew:=hL.few
   have hlen:(q1x ss s).length<=ss.length+1:=by
    unfold q1x
    split<;>simp
   have hpl:0<=plc ss s/\plc ss s<17:=by omega
   have hg:=qd9 ht hv
   have hes:∀x∈q1x ss s,x.size<=140737488351232:=by
    intro x hx
    unfold q1x at hx
    split at hx
    ·rcases List.mem_append.1 hx with hx|hx
     ·exact hS.each x hx
     ·obtain rfl:x=s:=by simpa using hx
      exact hs
    ·exact hS.each x hx
   have kb:∀sz:Int,(sz=1\/sz=60\/sz=3600)->(0<=t-t%sz/\t-t%sz<1048576)/\0<=plc ss s*1048576+(t-t%sz)/\plc ss s*1048576+(t-t%sz)<=1099511627775:=by
    intro sz hsz
    rcases hsz with rfl|rfl|rfl<;>omega
   have x0:ptE (plc ss s) t v=mkE (plc ss s*1048576+(t-t%1)) (one t v):=by
    have e:t-t%1=t:=by omega
    rw[e]
    rfl
   have x1:bk 60 (ptE (plc ss s) t v)=mkE (plc ss s*1048576+(t-t%60)) (one t v):=z2p ht
   have x2:bk 3600 (ptE (plc ss s) t v)=mkE (plc ss s*1048576+(t-t%3600)) (one t v):=z2p ht
   refine(qx0 A t0.A t1.A t2.A C t0.C t1.C t2.C ss (q1x ss s) t0.ps t1.ps t2.ps t0.r t1.r t2.r f s t v (one t v) w _ _ _ _ _ _ (plc ss s) (t-t%1) (t-t%60) (t-t%3600) (plc ss s*1048576+(t-t%1)) (plc ss s*1048576+(t-t%60)) (plc ss s*1048576+(t-t%3600)) (by omega) hes ck0 (fun W=>?_) (fun W hW=>qhp A C ss s W (hS.up hW) hs hfew) (fun VA VC W h=>?_) (fun W hW=>q3e W (hZ.below hW))
    (fun W=>q3n t 1 W (by omega) (.inl rfl)) (fun W=>q3n t 60 W (by omega) (.inr (.inl rfl))) (fun W=>q3n t 3600 W (by omega) (.inr (.inr rfl)))
    (fun W=>q7z _ _ W (by omega) (kb 1 (.inl rfl)).1) (fun W=>q7z _ _ W (by omega) (kb 60 (.inr (.inl rfl))).1) (fun W=>q7z _ _ W (by omega) (kb 3600 (.inr (.inr rfl))).1)
    (fun W hW=>qln (L:=L0) (h0.1.up hW) h0.2.1 hL.a0 hg (kb 1 (.inl rfl)).2 x0) (fun W hW=>qln (L:=L1) (h1.1.up hW) h1.2.1 hL.a1 hg (kb 60 (.inr (.inl rfl))).2 x1) (fun W hW=>qln (L:=L2) (h2.1.up hW) h2.2.1 hL.a2 hg (kb 3600 (.inr (.inr rfl))).2 x2)).mono ?_
   ·have k:=pf W
    rw[hp,hr] at k
    exact k
   ·have k:=qir VA VC (q1x ss s) s W h
    rw[e1] at k
    exact k
   ·intro e w' h
    obtain⟨hb,h⟩:=h
    refine⟨hb,?_⟩
    rcases h with⟨h16,rfl⟩|⟨h16,c,hc0,hbad,rfl⟩|⟨h16,VA,VC,g0,D0,g1,D1,g2,D2,q0,q1,q2,s0,s1,s2,rfl,hown,N0,N1,N2,⟨M0,i0,a0⟩,⟨M1,i1,a1⟩,M2,i2,a2⟩
    ·exact .inl ⟨1,by decide,.inr (.inr ⟨hB,hp,rfl,.inl h16⟩),rfl⟩
    ·have hc1:c=1:=by
      rcases hbad with h|h|h<;>exact h.1
     refine .inl ⟨c,hc0,.inr (.inr ⟨hB,hp,hc1,.inr ⟨h16,fun K0 K1 K2 hK=>?_⟩⟩),rfl⟩
     obtain rfl:K0=L0:=by have:=hK.a0.symm.trans hL.a0;exact(Prod.mk.inj this).2
     obtain rfl:K1=L1:=by have:=hK.a1.symm.trans hL.a1;exact(Prod.mk.inj this).2
     obtain rfl:K2=L2:=by have:=hK.a2.symm.trans hL.a2;exact(Prod.mk.inj this).2
     rcases hbad with⟨_,h|h⟩|⟨_,h|h⟩|⟨_,h|h⟩
     ·exact .inl (.inl h)
     ·exact .inr (.inl h)
     ·exact .inl (.inr (.inl h))
     ·exact .inr (.inr (.inl h))
     ·exact .inl (.inr (.inr h))
     ·exact .inr (.inr (.inr h))
    ·have k0:=(q3f a0).1
     have k1:=(q3f a1).1
     have k2:=(q3f a2).1
     obtain⟨_,_,e9,hA9,hl9,_,hrow9⟩:=q0g hown
     cases e9
     exact .inr ⟨VA,VC,⟨some ⟨g0,0,none⟩,D0,q0,s0⟩,⟨some ⟨g1,0,none⟩,D1,q1,s1⟩,⟨some ⟨g2,0,none⟩,D2,q2,s2⟩,L0,L1,L2,M0,M1,M2,⟨hB,hp,h16,hL,i0,i1,i2,a0,a1,a2⟩,rfl,hA9,hl9,⟨hrow9,by omega,hes⟩,⟨N0.nodes,q5l k0,q7w k0⟩,⟨N1.nodes,q5l k1,q7w k1⟩,⟨N2.nodes,q5l k2,q7w k2⟩,hown,hes,by omega,⟨g0,rfl,N0⟩,⟨g1,rfl,N1⟩,⟨g2,rfl,N2⟩⟩
  ·refine(z3y _ _ _ _ _ _ _ _ _ rfl s t v _ _ hp w ck0 pf).mono ?_
   rintro e w' ⟨rfl,hb⟩
   exact⟨hb,.inl ⟨_,hp,.inr (.inl ⟨hB,hp,rfl⟩),rfl⟩⟩

end
section
open Go.RowKit Plain

structure Pt where
 s:ByteArray
 t:Int
 v:Int
deriving Inhabited

def ptIn(ss:List ByteArray)(p:Pt):En:=ptE (Lib.idxOfS ss p.s) p.t p.v

structure Pt.ok(f:Int)(p:Pt):Prop where
 t0:0<=p.t
 t1:p.t<=1048575
 v0: -1000000<=p.v
 v1:p.v<=1000000
 f0:f<=p.t

theorem qki(size:Int):∀l:List En,sumC (l.map (bk size))=sumC l
 |[]=>rfl
 |y::r=>by
  simp only[List.map_cons,sumC,qki size r]
  rfl

theorem qo1(ss:List ByteArray):∀l:List Pt,sumC (l.map (ptIn ss))=l.length
 |[]=>rfl
 |p::r=>by
  simp only[List.map_cons,sumC,qo1 ss r,List.length_cons]
  show(1:Int)+_=_
  omega

structure q4b(ss:List ByteArray)(f:Int)(n0:List Nd)(r0:Int)(n1:List Nd)(r1:Int)(n2:List Nd)(r2:Int)(pts:List Pt)(L0 L1 L2:List En):Prop where
 ok:q2o ss f n0 r0 n1 r1 n2 r2=true
 lst:qcw ss f n0 r0 n1 r1 n2 r2 L0 L1 L2
 all:allL (pts.map (ptIn ss))=some L0
 pt:∀p∈pts,p.s∈ss/\p.ok f

section
variable {ss : List ByteArray} {f : Int} {n0 n1 n2 m0 m1 m2 : List Nd} {r0 r1 r2 q0 q1 q2 : Int} {pts : List Pt} {L0 L1 L2 : List En}

theorem q4b.good(h:q4b ss f n0 r0 n1 r1 n2 r2 pts L0 L1 L2):(∀y∈L0,Good y.ru)/\(∀y∈L1,Good y.ru)/\∀y∈L2,Good y.ru:=by
 have f0:=q1d (ns:=n0) (r:=r0) (low:=0) (high:=1099511627776)
 have f1:=q1d (ns:=n1) (r:=r1) (low:=0) (high:=1099511627776)
 have f2:=q1d (ns:=n2) (r:=r2) (low:=0) (high:=1099511627776)
 rw[h.lst.a0] at f0
 rw[h.lst.a1] at f1
 rw[h.lst.a2] at f2
 exact⟨f0.2.1,f1.2.1,f2.2.1⟩

theorem q4b.sum(h:q4b ss f n0 r0 n1 r1 n2 r2 pts L0 L1 L2):sumC L0=pts.length/\sumC L1=pts.length/\sumC L2=pts.length:=by
 have h0:=(qkz h.all).trans (qo1 ss pts)
 exact⟨h0,((qkz h.lst.p1).trans (qki 60 L0)).trans h0,((qkz h.lst.p2).trans (qki 3600 L0)).trans h0⟩

theorem q4b.few(h:q4b ss f n0 r0 n1 r1 n2 r2 pts L0 L1 L2):L0.length<=pts.length/\L1.length<=pts.length/\L2.length<=pts.length:=by
 obtain⟨g0,g1,g2⟩:=h.good
 obtain⟨s0,s1,s2⟩:=h.sum
 have:=qde (q3z g0)
 have:=qde (q3z g1)
 have:=qde (q3z g2)
 omega

theorem qk9{L:List En}{x:En}(hg:∀y∈L,Good y.ru)(hx:x.c=1)(hs:sumC L<=1000000):ins L x≠none:=fun h=>by
 have h1:=qd2 (q3z hg) h
 have h2:=qne (k:=x.key) (q3z hg)
 omega

theorem q4b.add_ok(h:q4b ss f n0 r0 n1 r1 n2 r2 pts L0 L1 L2){s:ByteArray}{t v c:Int}(hp:ptC s t v f=0)(hl:(q1x ss s).length<=16)(hn:pts.length<=900):¬z2a ss s t v f n0 r0 n1 r1 n2 r2 c:=by
 obtain⟨g0,g1,g2⟩:=h.good
 obtain⟨s0,s1,s2⟩:=h.sum
 obtain⟨l0,l1,l2⟩:=h.few
 rintro(⟨h1,_⟩|⟨_,h1,_⟩|⟨_,_,_,h1⟩)
 ·rw[h.ok] at h1;cases h1
 ·exact h1 hp
 ·rcases h1 with h1|⟨_,h1⟩
  ·omega
  ·rcases h1 L0 L1 L2 h.lst with(h1|h1|h1)|h1|h1|h1
   ·exact qk9 g0 rfl (by omega) h1
   ·exact qk9 g1 rfl (by omega) h1
   ·exact qk9 g2 rfl (by omega) h1
   ·omega
   ·omega
   ·omega

theorem qz3{ss:List ByteArray}{q s:ByteArray}(h:q∈ss):Lib.idxOfS (ss++[s]) q=Lib.idxOfS ss q:=by
 obtain⟨k,hk,e,hd⟩:=qhv h
 obtain⟨k',h1,h2,h3⟩:=qmo (ss:=ss) k hd
 have e1:=Lib.idxOfS_hit ss ss.length k' q (by omega) (Nat.le_refl _) h2 h3
 rw[List.take_length] at e1
 have gd:∀j,j<ss.length->(ss++[s]).getD j ByteArray.empty=ss.getD j ByteArray.empty:=fun j hj=>by
  rw[q5g (by simp;omega),List.getElem_append_left hj,q5g hj]
 have e2:=Lib.idxOfS_hit (ss++[s]) (ss++[s]).length k' q (by simp;omega) (Nat.le_refl _) (by rw[gd k' (by omega)];exact h2) (fun j hj=>by rw[gd j (by omega)];exact h3 j hj)
 rw[List.take_length] at e2
 rw[e1,e2]

theorem qvk{ss:List ByteArray}{q s:ByteArray}(h:q∈ss):Lib.idxOfS (q1x ss s) q=Lib.idxOfS ss q:=by
 unfold q1x
 split
 ·exact qz3 h
 ·rfl

theorem q7r{ss:List ByteArray}{q s:ByteArray}(h:q∈ss):q∈q1x ss s:=by
 unfold q1x
 split
 ·exact List.mem_append_left _ h
 ·exact h

theorem qa4(ss:List ByteArray)(s:ByteArray):s∈q1x ss s:=by
 unfold q1x
 split
 ·simp
 ·rename_i h
  exact Classical.byContradiction fun c=>h (idx_neg.2 c)

theorem q4b.add(h:q4b ss f n0 r0 n1 r1 n2 r2 pts L0 L1 L2){s:ByteArray}{t v:Int}{K0 K1 K2 M0 M1 M2:List En}(hy:qnr ss s t v f n0 r0 n1 r1 n2 r2 m0 q0 m1 q1 m2 q2 K0 K1 K2 M0 M1 M2):q4b (q1x ss s) f m0 q0 m1 q1 m2 q2 (pts++[⟨s,t,v⟩]) M0 M1 M2:=by
 obtain⟨hb,-⟩:=hy.base
 obtain⟨J0,J1,J2,hJ⟩:=qf0 hb
 obtain rfl:J0=M0:=(Prod.mk.inj (hJ.a0.symm.trans hy.a0)).2
 obtain rfl:J1=M1:=(Prod.mk.inj (hJ.a1.symm.trans hy.a1)).2
 obtain rfl:J2=M2:=(Prod.mk.inj (hJ.a2.symm.trans hy.a2)).2
 obtain rfl:K0=L0:=(Prod.mk.inj (hy.lst.a0.symm.trans h.lst.a0)).2
 obtain⟨_,h2,h3,h4⟩:=qgi hy.pt
 refine⟨hb,hJ,?_,fun p hp=>?_⟩
 ·have e:pts.map (ptIn (q1x ss s))=pts.map (ptIn ss):=List.map_congr_left fun p hp=>by
   unfold ptIn
   rw[qvk (h.pt p hp).1]
  rw[List.map_append,e,List.map_singleton,qb1,h.all]
  have e2:ptIn (q1x ss s) ⟨s,t,v⟩=ptE (plc ss s) t v:=by
   unfold ptIn
   rw[(qhk ss s).1]
  rw[e2]
  exact hy.i0
 ·rcases List.mem_append.1 hp with hp|hp
  ·exact⟨q7r (h.pt p hp).1,(h.pt p hp).2⟩
  ·obtain rfl:p=⟨s,t,v⟩:=by simpa using hp
   exact⟨qa4 ss s,⟨h2.1,h2.2,h3.1,h3.2,h4⟩⟩

def inPt(x:ByteArray)(a b:Int)(p:Pt):Bool:=decide (p.s=x)&&(decide (a<=p.t)&&decide (p.t<=b))
def qis(x:ByteArray)(a b:Int)(l:List Pt):List Pt:=l.filter (inPt x a b)
def ruP(p:Pt):Ru:=one p.t p.v
def sumR(l:List Pt):Ru:=l.foldl (fun o p=>(mrg o (ruP p)).1) zro

theorem z1w{p:Pt}{x:ByteArray}{i a b:Int}(hm:p.s∈ss)(hx:Lib.idxOfS ss x=i)(_:0<=i)(hp:p.ok f):selK i a b (ptIn ss p)=inPt x a b p:=by
 have h0:=hp.t0
 have h1:=hp.t1
 obtain⟨k,hk,ek,hd⟩:=qhv hm
 have k1:(ptIn ss p).key/1048576=k:=by
  show(Lib.idxOfS ss p.s*1048576+p.t)/1048576=k
  rw[ek];omega
 have k2:(ptIn ss p).key%1048576=p.t:=by
  show(Lib.idxOfS ss p.s*1048576+p.t)%1048576=p.t
  rw[ek];omega
 unfold selK keyB inPt
 rw[k1,k2]
 congr 1
 refine decide_eq_decide.2 ⟨fun e=>?_,fun e=>?_⟩
 ·have hxm:x∈ss:=by
   rw[<-Lib.idxOfS_nonneg_iff]
   omega
  obtain⟨j,hj,ej,hdj⟩:=qhv hxm
  have:j=k:=by omega
  rw[<-hd,<-hdj,this]
 ·rw[<-hx,<-e,ek]

theorem q4b.sel(h:q4b ss f n0 r0 n1 r1 n2 r2 pts L0 L1 L2){x:ByteArray}{i a b:Int}(hx:Lib.idxOfS ss x=i)(hi:0<=i):allL ((qis x a b pts).map (ptIn ss))=some (L0.filter (selK i a b)):=by
 have h1:=q5e (P:=keyB i a b) (pts.map (ptIn ss)) [] L0 (by simp) h.all
 have e:((pts.map (ptIn ss)).filter fun z=>keyB i a b z.key)=(qis x a b pts).map (ptIn ss):=by
  rw[List.filter_map]
  congr 1
  exact List.filter_congr fun p hp=>z1w (h.pt p hp).1 hx hi (h.pt p hp).2
 rw[e] at h1
 exact h1

theorem qet{p:Pt}(hp:p.ok f):Good (ptIn ss p).ru:=qd9 ⟨hp.t0,hp.t1⟩ ⟨hp.v0,hp.v1⟩

theorem qnj:∀(l:List Pt) (o:Ru),(o=zro\/Good o)->(∀p∈l,∃f,Pt.ok f p)->o.c+l.length<=1073741824->∀(ss:List ByteArray),(l.map (ptIn ss)).foldl q3a (o,0)=(l.foldl (fun o p=>(mrg o (ruP p)).1) o,0)/\(l.foldl (fun o p=>(mrg o (ruP p)).1) o).c=o.c+l.length/\((l.foldl (fun o p=>(mrg o (ruP p)).1) o)=zro\/Good (l.foldl (fun o p=>(mrg o (ruP p)).1) o))
 |[],o,ho,_,_,_=>⟨rfl,by simp,ho⟩
 |p::l,o,ho,hp,hc,ss=>by
  obtain⟨f,hf⟩:=hp p List.mem_cons_self
  have hg:Good (ruP p):=qd9 ⟨hf.t0,hf.t1⟩ ⟨hf.v0,hf.v1⟩
  have c1:(ruP p).c=1:=rfl
  have hl:((p::l).length:Int)=l.length+1:=by simp
  rw[hl] at hc ⊢
  have hm:(mrg o (ruP p)).2=0/\(mrg o (ruP p)).1.c=o.c+1/\Good (mrg o (ruP p)).1:=by
   rcases ho with rfl|ho
   ·rw[qh2 hg]
    exact⟨rfl,by rw[c1];rfl,hg⟩
   ·rw[q8m ho hg,if_pos (by rw[c1];omega)]
    exact⟨rfl,rfl,q9m ho hg (by rw[c1];omega)⟩
  obtain⟨h1,h2,h3⟩:=qnj l (mrg o (ruP p)).1 (.inr hm.2.2) (fun q hq=>hp q (List.mem_cons_of_mem _ hq)) (by omega) ss
  simp only[List.map_cons,List.foldl_cons]
  have e:q3a (o,0) (ptIn ss p)=((mrg o (ruP p)).1,0):=by
   unfold q3a
   rw[if_pos rfl]
   exact Prod.ext rfl hm.1
  rw[e]
  exact⟨h1,by rw[h2,hm.2.1];omega,h3⟩

theorem qzf{l:List Pt}(ss:List ByteArray)(hp:∀p∈l,∃f,Pt.ok f p)(hc:(l.length:Int)<=1073741824):tot (l.map (ptIn ss))=(sumR l,0)/\(sumR l).c=l.length:=by
 have k:=qnj l zro (.inl rfl) hp (by show(0:Int)+_<=_;omega) ss
 exact⟨k.1,k.2.1.trans (by show(0:Int)+_=_;omega)⟩

theorem q4b.total(h:q4b ss f n0 r0 n1 r1 n2 r2 pts L0 L1 L2){x:ByteArray}{i a b:Int}(hx:Lib.idxOfS ss x=i)(hi:0<=i)(hn:pts.length<=100000):tot (L0.filter (selB i a b))=(sumR (qis x a b pts),0):=by
 have hsub:∀p∈qis x a b pts,p∈pts:=fun p hp=>(List.mem_filter.1 hp).1
 have hl:(qis x a b pts).length<=pts.length:=List.length_filter_le _ _
 have h1:=h.sel (a:=a) (b:=b) hx hi
 have hg1:∀y∈(qis x a b pts).map (ptIn ss),Good y.ru:=fun y hy=>by
  obtain⟨p,hp,rfl⟩:=List.mem_map.1 hy
  exact qet (h.pt p (hsub p hp)).2
 have h2:=z3j hg1 h1
 rw[<-(qzf ss (fun p hp=>⟨f,(h.pt p (hsub p hp)).2⟩) (by omega)).1]
 exact(qyi hg1 (fun y hy=>h.good.1 y (List.mem_filter.1 hy).1) h2).symm
end

end
section
open Go.RowKit Plain Go.Shelf

theorem qb5:allP ([q3o].map PN.nd) 0 0 1099511627776=(0,[]):=by
 have h:q1k ([q3o].map PN.nd) 0=0:=by decide
 exact qtc h (by rw[qaw h];rfl)

theorem qd5:q2o [] 0 ([q3o].map PN.nd) 0 ([q3o].map PN.nd) 0 ([q3o].map PN.nd) 0=true:=by
 have hb:q7h ([q3o].map PN.nd) 0 0 0=some []:=by
  unfold q7h
  rw[qb5]
  rfl
 have hs:∀sz,q2z sz [] ([q3o].map PN.nd) 0=true:=fun sz=>by
  unfold q2z
  rw[qb5]
  rfl
 have ht:q9d 0 0 ([q3o].map PN.nd) 0 ([q3o].map PN.nd) 0 ([q3o].map PN.nd) 0=true:=by
  unfold q9d
  rw[hb]
  simp only[hs]
  rfl
 unfold q2o
 have e:((([]:List ByteArray).length:Nat):Int)=0:=rfl
 rw[e,ht]
 decide

theorem z3k{L0 L1 L2:List En}(h:qcw [] 0 ([q3o].map PN.nd) 0 ([q3o].map PN.nd) 0 ([q3o].map PN.nd) 0 L0 L1 L2):L0=[]/\L1=[]/\L2=[]:=
 ⟨(Prod.mk.inj (h.a0.symm.trans qb5)).2,(Prod.mk.inj (h.a1.symm.trans qb5)).2,(Prod.mk.inj (h.a2.symm.trans qb5)).2⟩

def nmS(i:Int):ByteArray:=if i=0 then⟨#[99,112,117]⟩ else if i=1 then⟨#[109,101,109]⟩ else if i=2 then⟨#[110,101,116,46,105,110]⟩ else⟨#[57]⟩

theorem q8r(i:Int):(nmS i).size<=6:=by
 unfold nmS
 split
 ·decide
 ·split
  ·decide
  ·split<;>decide

theorem qgk(i:Int):q8d (nmS i)=true:=by
 unfold nmS
 split
 ·decide
 ·split
  ·decide
  ·split<;>decide

set_option maxHeartbeats 400000 in
theorem qrx(n:Int)(w:World)(hn:i64B n):Calls Tryz.prog 13 #[.int .i64 n] w fun e w'=>e=.returned (.string (nmS (pick n 4)))/\Below w.heap.size w w':=by
 have hb:=q3u n (show(0:Int)<4 by decide)
 have con:=q0a fun W=>q6o n 4 W hn.1 hn.2 (by decide) (by decide)
 rcases(show pick n 4=0\/pick n 4=1\/pick n 4=2\/pick n 4=3 by omega) with h|h|h|h<;>rw[h] at con ⊢<;>
 ·go_enter Tryz.func13,Tryz.ntmps13
  go_wp2_with (go_at_call 14;refine(con.out _).mono ?_;rintro e w1 ⟨rfl,hw1⟩;subst w1)
  go_ret
  exact⟨rfl,(Below.refl _ _).alloc (Nat.le_refl _) _⟩

set_option maxRecDepth 20000 in
set_option maxHeartbeats 1000000 in
theorem qf7(k a b c:Int)(w:World)(hk:i64B k)(ha:i64B a)(hb:i64B b):Calls Tryz.prog 6 #[.agg #[.int .i64 k,.int .i64 a,.int .i64 b,.int .i64 c]] w fun e w'=>e=.returned (.agg #[.string (nmS (pick k 4)),.int .i64 (pick a 12000),.int .i64 (pick b 2000-1000)])/\Below w.heap.size w w':=by
 have q2:=q3u b (show(0:Int)<2000 by decide)
 have b2:∀o1 o2:Obj,Below w.heap.size w ((w.alloc o1).alloc o2):=fun o1 o2=>((Below.refl _ _).alloc (Nat.le_refl _) _).alloc (by simp) _
 have c1:=q0a fun W=>qrx k W hk
 have c2:=q0a fun W=>q6o a 12000 W ha.1 ha.2 (by decide) (by decide)
 have c3:=q0a fun W=>q6o b 2000 W hb.1 hb.2 (by decide) (by decide)
 obtain⟨s,hs⟩:∃s,nmS (pick k 4)=s:=⟨_,rfl⟩
 obtain⟨t,ht⟩:∃t,pick a 12000=t:=⟨_,rfl⟩
 obtain⟨u,hu⟩:∃u,pick b 2000=u:=⟨_,rfl⟩
 rw[hs] at c1 ⊢
 rw[ht] at c2 ⊢
 rw[hu] at c3 q2 ⊢
 clear hs ht hu
 have k1:IntKind.i64.wrap (u-1000)=u-1000:=by rw[IntKind.wrap_i64];omega
 go_enter Tryz.func6,Tryz.ntmps6
 go_wp2_with fail
 go_region_held3 (fun w'=>w'.cell? ⟨w.heap.size,0,none⟩=some (.int .i64 k)/\w'.cell? ⟨w.heap.size,1,none⟩=some (.int .i64 a)/\w'.cell? ⟨w.heap.size,2,none⟩=some (.int .i64 b)) (go_keep)
  (first
   |(go_at_call 13;refine(c1.out _).mono ?_;rintro e w1 ⟨rfl,hb1⟩;have T1:=(q0w (hb1.mono (show w.heap.size+1<=_ by simp))).1;have D1:=(q0w (hb1.mono (show w.heap.size+1+1<=_ by simp))).1;have F1:=(q0w (hb1.mono (show w.heap.size+1+1<=_ by simp))).2;have HB:=q0a hb1)
   |(go_at_call_of 14 a;refine(c2.out _).mono ?_;rintro e w2 ⟨rfl,hw2⟩;subst w2)
   |(go_at_call_of 14 b;refine(c3.out _).mono ?_;rintro e w3 ⟨rfl,hw3⟩;subst w3))
 all_goals
  go_wp2
  have D2:=fun o=>D1 (w.heap.size+1) o (by omega)
  refine bodyPost_ret (v:=.agg #[.string s,.int .i64 t,.int .i64 (u-1000)]) (by simp[results,Tryz.results6,go_sem,D2]) rfl ⟨rfl,?_⟩
  have hb:=q0e ((b2 _ _).drew) (Nat.le_refl _) HB.out
  exact q0y (q0y (q0y hb (by omega) _ _) (by omega) _ _) (by omega) _ _

structure Ac where
 k:Int
 s:ByteArray
 t:Int
 z:Int
 n:Int
 v:Int

def Ac.vals(a:Ac):List Value:=[.int .i64 a.k,.string a.s,.int .i64 a.t,.int .i64 a.z,.int .i64 a.n,.int .i64 a.v]
def q1f:List Ac->List Value
 |[]=>[]
 |x::r=>x.vals++q1f r

theorem q1l:∀xs:List Ac,(q1f xs).length=xs.length*6
 |[]=>rfl
 |x::r=>by simp[q1f,Ac.vals,q1l r];omega

theorem q5v:∀xs ys:List Ac,q1f (xs++ys)=q1f xs++q1f ys
 |[],_=>rfl
 |x::r,ys=>by simp[q1f,q5v r ys]

theorem q2q(xs:List Ac):∀u∈q1f xs,u.oneCell'=true:=by
 induction xs with
 |nil=>simp[q1f]
 |cons x r ih=>
  intro u hu
  simp only[q1f,Ac.vals,List.cons_append,List.nil_append,List.mem_cons] at hu
  rcases hu with h|h|h|h|h|h|h
  all_goals first|(subst h;rfl)|exact ih u h

theorem qu3(xs:List Ac)(k j:Nat)(hk:k<xs.length)(hj:j<6):(q1f xs)[k*6+j]? =(xs[k]).vals[j]? :=by
 induction xs generalizing k with
 |nil=>simp at hk
 |cons x r ih=>
  cases k with
  |zero=>simp only[q1f];rw[List.getElem?_append_left (by simp[Ac.vals];omega)];simp
  |succ k=>
   simp only[q1f]
   rw[List.getElem?_append_right (by simp[Ac.vals];omega)]
   have:=ih k (by simpa using hk)
   simp only[Ac.vals,List.length_cons,List.length_nil] at *
   rw[show(k+1)*6+j-(0+1+1+1+1+1+1)=k*6+j by omega]
   simpa using this

structure AcAt(w:World)(b o:Nat)(x:Ac):Prop where
 c0:w.cell? ⟨b,o,none⟩=some (.int .i64 x.k)
 c1:w.cell? ⟨b,o+1,none⟩=some (.string x.s)
 c2:w.cell? ⟨b,o+2,none⟩=some (.int .i64 x.t)
 c3:w.cell? ⟨b,o+3,none⟩=some (.int .i64 x.z)
 c4:w.cell? ⟨b,o+4,none⟩=some (.int .i64 x.n)
 c5:w.cell? ⟨b,o+5,none⟩=some (.int .i64 x.v)

theorem q0i.ac6{B:Nat}{w:World}{A:Option Addr}{xs:List Ac}(h:q0i B w A (q1f xs)){k:Nat}(hk:k<xs.length):
  ∃b o,A=some ⟨b,o,none⟩/\b<B/\AcAt w b (o+k*6) xs[k]:=by
 rcases h with h|⟨b,o,hA,hlt,hc⟩
 ·have:=q1l xs;rw[h] at this;simp at this;omega
 ·refine⟨b,o,hA,hlt,?_⟩
  have g:∀j,j<6->∀u,(xs[k]).vals[j]? =some u->w.cell? ⟨b,o+k*6+j,none⟩=some u:=fun j hj u hu=>by
   have:=hc (k*6+j) u (by rw[qu3 xs k j hk hj];exact hu)
   rwa [<-Nat.add_assoc] at this
  exact⟨g 0 (by decide) _ rfl,g 1 (by decide) _ rfl,g 2 (by decide) _ rfl,g 3 (by decide) _ rfl,g 4 (by decide) _ rfl,g 5 (by decide) _ rfl⟩

def szI(i:Int):Int:=if i=0 then 1 else if i=1 then 60 else 3600

def q6m(x:Rw):Ac:=
 if pick x.c 16=0 then⟨2,nmS (pick x.k 4),pick x.a 6000,pick x.a 6000+pick x.b 9000,szI (pick x.b 3),0⟩
 else if pick x.c 16<3 then⟨3,nmS (pick x.k 4),pick x.a 6000,pick x.a 6000+pick x.b 9000,0,0⟩
 else if pick x.c 16=3/\pick x.a 4=0 then⟨4,ByteArray.empty,3600*pick x.b 3,0,0,0⟩
 else if pick x.c 16=4 then⟨5,ByteArray.empty,0,0,0,0⟩
 else if pick x.c 16=5/\pick x.a 3=0 then⟨6,ByteArray.empty,0,0,0,0⟩
 else⟨1,nmS (pick x.k 4),pick x.a 12000,0,0,pick x.b 2000-1000⟩

structure AcOk(a:Ac):Prop where
 sz:a.s.size<=6
 k:1<=a.k/\a.k<=6
 nm:a.k<=3->∃i,a.s=nmS i
 put:a.k=1->0<=a.t/\a.t<=11999/\ -1000000<=a.v/\a.v<=1000000
 ask:a.k=2->0<=a.t/\a.t<=a.z/\a.z<=1048575/\(a.n=1\/a.n=60\/a.n=3600)
 sum:a.k=3->0<=a.t/\a.t<=a.z/\a.z<=1048575
 exp:a.k=4->a.t=0\/a.t=3600\/a.t=7200

theorem z2v(i:Int):szI i=1\/szI i=60\/szI i=3600:=by
 unfold szI
 split
 ·exact .inl rfl
 ·split
  ·exact .inr (.inl rfl)
  ·exact .inr (.inr rfl)

theorem qgl(x:Rw):AcOk (q6m x):=by
 have h1:=q3u x.a (show(0:Int)<6000 by decide)
 have h2:=q3u x.b (show(0:Int)<9000 by decide)
 have h3:=q3u x.a (show(0:Int)<12000 by decide)
 have h4:=q3u x.b (show(0:Int)<2000 by decide)
 have h5:=q3u x.b (show(0:Int)<3 by decide)
 have hs:=q8r (pick x.k 4)
 have e0:ByteArray.empty.size<=6:=by decide
 unfold q6m
 split
 ·exact⟨hs,⟨by simp,by simp⟩,fun _=>⟨_,rfl⟩,fun h=>by simp at h,fun _=>⟨h1.1,by simp only;omega,by simp only;omega,z2v _⟩,fun h=>by simp at h,fun h=>by simp at h⟩
 ·split
  ·exact⟨hs,⟨by simp,by simp⟩,fun _=>⟨_,rfl⟩,fun h=>by simp at h,fun h=>by simp at h,fun _=>⟨h1.1,by simp only;omega,by simp only;omega⟩,fun h=>by simp at h⟩
  ·split
   ·exact⟨e0,⟨by simp,by simp⟩,fun h=>by simp at h,fun h=>by simp at h,fun h=>by simp at h,fun h=>by simp at h,fun _=>by simp only;omega⟩
   ·split
    ·exact⟨e0,⟨by simp,by simp⟩,fun h=>by simp at h,fun h=>by simp at h,fun h=>by simp at h,fun h=>by simp at h,fun h=>by simp at h⟩
    ·split
     ·exact⟨e0,⟨by simp,by simp⟩,fun h=>by simp at h,fun h=>by simp at h,fun h=>by simp at h,fun h=>by simp at h,fun h=>by simp at h⟩
     ·exact⟨hs,⟨by simp,by simp⟩,fun _=>⟨_,rfl⟩,fun _=>⟨h3.1,by simp only;omega,by simp only;omega,by simp only;omega⟩,fun h=>by simp at h,fun h=>by simp at h,fun h=>by simp at h⟩

end
end Go.Proofs.YtlojfgdpmaigmahGreatDoor

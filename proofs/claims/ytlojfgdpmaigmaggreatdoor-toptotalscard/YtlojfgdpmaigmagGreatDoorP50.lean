/- A base that was read: that it may be, and when there is none. -/
import Derived.Test.YtlojfgdpmaigmagGreatDoorP48
import Derived.Test.YtlojfgdpmaigmagGreatDoorP07
import Derived.Test.YtlojfgdpmaigmagGreatDoorEncPure
import Derived.Test.YtlojfgdpmaigmagGreatDoorDecodeBad
import Derived.Test.YtlojfgdpmaigmagGreatDoorP22
import Derived.Test.YtlojfgdpmaigmagGreatDoorP27
import Derived.BigQuiet
import Derived.Lib.SlBytesConst
namespace Go.Proofs.YtlojfgdpmaigmagGreatDoor
section
open Go.RowKit Plain

def iW(ss:List ByteArray)(f:Int)(L:List En):Bool:=bofB ss f L&&((aP 60 L).isSome&&(aP 3600 L).isSome)

theorem q0v:∀(L:List En) (first:Bool) (ahead:Int),rU first ahead L->(∀x∈L,ahead<=x.key/\0<=x.key/\x.key<1099511627776/\x.c≠0/\(first=true\/ahead<x.key))/\L.Pairwise fun a b=>a.key<b.key
 |[],_,_,_=>⟨fun _ h=>(by simp at h),.nil⟩
 |x::r,first,ahead,h=>by
  obtain⟨h1,h2,h3⟩:=h;obtain⟨k1,k2⟩:=q0v r false x.key h3;have g1:=h1.k0;have g2:=h1.a0;have g3:=h1.k1;have g4:=h1.c0;refine⟨fun y hy=>?_,List.pairwise_cons.2 ⟨fun y hy=>?_,k2⟩⟩
  ·rcases List.mem_cons.1 hy with rfl|hy
   ·exact⟨g1,by omega,g3,by omega,h2⟩
   ·obtain⟨j1,j2,j3,j4,j5⟩:=k1 y hy;refine⟨by omega,j2,j3,j4,?_⟩
    rcases j5 with j5|j5
    ·cases j5
    ·right;omega
  ·rcases(k1 y hy).2.2.2.2 with j|j
   ·cases j
   ·exact j

theorem qif{ss:List ByteArray}{f:Int}{L y1 y2:List En}{m0 m1 m2:List Nd}{q0 q1 q2:Int}(hr:L.Pairwise fun a b=>a.key<b.key)(hb:bofB ss f L=true)(r1:aP 60 L=some y1)(r2:aP 3600 L=some y2)
  (a0:allP m0 q0 0 1099511627776=(0,L)) (a1:allP m1 q1 0 1099511627776=(0,y1)) (a2:allP m2 q2 0 1099511627776=(0,y2)):bM ss f m0 q0 m1 q1 m2 q2=true:=by
 unfold bofB oV at hb;simp only[Bool.and_eq_true,decide_eq_true_eq] at hb;obtain⟨⟨h1,h2,h3,h4⟩,h5⟩:=hb
 have hall:L.all (dJ ss.length f)=true:=by
  rw[List.all_eq_true] at h5 ⊢;intro x hx;have:=h5 x hx;unfold iT at this;rw[Bool.and_eq_true] at this;exact this.1
 have hbook:fU m0 q0 ss.length f=some L:=by
  unfold fU;rw[a0,if_pos ⟨rfl,hall⟩]
 have s:∀(size:Int) (M:List En) (m:List Nd) (q:Int),aP size L=some M->allP m q 0 1099511627776=(0,M)->bW size L m q=true:=by
  intro size M m q k1 k2;unfold bW;rw[k1,k2];simp
 have e0:=s 1 L m0 q0 (wV hr) a0;have e1:=s 60 y1 m1 q1 r1 a1;have e2:=s 3600 y2 m2 q2 r2 a2;unfold bM;simp only[Bool.and_eq_true,decide_eq_true_eq];refine⟨h1,h2,h3,h4,?_⟩;unfold lG;rw[hbook];simp only[e0,e1,e2,Bool.and_self]

theorem qk8{ss:List ByteArray}{f:Int}{n0 n1 n2:List Nd}{r0 r1 r2:Int}{L0 L1 L2:List En}(hb:bM ss f n0 r0 n1 r1 n2 r2=true)(hL:kL ss f n0 r0 n1 r1 n2 r2 L0 L1 L2):iW ss f L0=true:=by
 unfold iW;rw[hL.p1,hL.p2];simp only[Option.isSome_some,Bool.and_self,Bool.and_true];unfold bM at hb;simp only[Bool.and_eq_true,decide_eq_true_eq] at hb;obtain⟨h1,h2,h3,h4,_⟩:=hb;unfold bofB oV;simp only[Bool.and_eq_true,decide_eq_true_eq];refine⟨⟨h1,h2,h3,h4⟩,?_⟩;obtain⟨_,_,hpt⟩:=qA hL.book;have hg:=(gK (ns:=n0) (r:=r0) (low:=0) (high:=1099511627776)).2.1;rw[hL.a0] at hg;rw[List.all_eq_true] at hpt ⊢;intro x hx;unfold iT;rw[hpt x hx,Bool.true_and];exact decide_eq_true (hg x hx).1

theorem q7q:∀(L:List En) (first:Bool) (ahead:Int),0<=ahead->(L.Pairwise fun a b=>a.key<b.key)->(∀x∈L,Told x/\0<x.c/\x.t=x.key%1048576/\ahead<=x.key/\(first=true\/ahead<x.key))->rU first ahead L
 |[],_,_,_,_,_=>trivial
 |x::r,first,ahead,ha,hr,h=>by
  obtain⟨h1,h2,h3,h4,h5⟩:=h x List.mem_cons_self;obtain⟨p1,p2⟩:=List.pairwise_cons.1 hr;refine⟨⟨h4,ha,h1.k1,h2,h1.c1,h1.s,h1.lo,h1.hi,h1.l,h3⟩,h5,q7q r false x.key (by omega) p2 fun y hy=>?_⟩
  obtain⟨g1,g2,g3,_,_⟩:=h y (List.mem_cons_of_mem _ hy);have:=p1 y hy;exact⟨g1,g2,g3,by omega,.inr this⟩

theorem qi1{ss:List ByteArray}{f:Int}{n0 n1 n2:List Nd}{r0 r1 r2:Int}{L0 L1 L2:List En}(hb:bM ss f n0 r0 n1 r1 n2 r2=true)(hL:kL ss f n0 r0 n1 r1 n2 r2 L0 L1 L2)(hn:L0.length<=10000):qJ ss f L0:=by
 obtain⟨hT,-⟩:=qhb hb;rw[tZ,hL.a0] at hT;obtain⟨_,_,hpt⟩:=qA hL.book;have hg:=(gK (ns:=n0) (r:=r0) (low:=0) (high:=1099511627776)).2.1;rw[hL.a0] at hg;rw[List.all_eq_true] at hpt;refine⟨hT.few,hT.nm,hT.f0,by have:=hT.f1;omega,hn,q7q L0 true 0 (Int.le_refl 0) hT.rise fun x hx=>?_⟩
 have h1:=hT.told x hx;have h2:=hpt x hx;simp only[dJ,Bool.and_eq_true,decide_eq_true_eq] at h2;have h3:=(good_iff.1 (hg x hx)).1;exact⟨h1,by have:1<=x.c:=h3.1;omega,h2.2.2,h1.k0,.inl rfl⟩

theorem qoj{ss:List ByteArray}{f:Int}{L:List En}(hT:yN ss f L)(hn:L.length<=1000):(encB ss f L).length<=200000:=by
 obtain⟨k1,k2,_⟩:=hT.len (by omega)
 have k3:=q1x L 0 (Int.le_refl 0) hT.told;have k4:=pX (n:=L.length) 9 (by omega) (by omega)
 rw[qgf];unfold kE;rw[List.length_append,List.length_append,List.length_append];omega

end
section
open Go.RowKit Plain Go.Shelf

def QB(ss:List ByteArray)(f:Int)(L:List En)(A:Option Addr)(C:Nat)(w w':World)(V:List Value)(c:Int):Prop:=
 (c≠0/\V=sJ/\((iW ss f L=false/\c=7)\/(iW ss f L=true/\2900<L.length/\c=1)))\/
 (c=0/\∃t0 t1 t2:TR,V=aJ A C ss t0 t1 t2 f/\iW ss f L=true/\bM ss f (t0.ps.map PN.nd) t0.r (t1.ps.map PN.nd) t1.r (t2.ps.map PN.nd) t2.r=true/\allP (t0.ps.map PN.nd) t0.r 0 1099511627776=(0,L)/\
  (∃g,t0.A=some ⟨g,0,none⟩/\NT w.heap.size w' g t0.C t0.ps)/\(∃g,t1.A=some ⟨g,0,none⟩/\NT w.heap.size w' g t1.C t1.ps)/\∃g,t2.A=some ⟨g,0,none⟩/\NT w.heap.size w' g t2.C t2.ps)

theorem qdl(A VA:Option Addr)(C VC:Nat)(ss:List ByteArray)(f:Int)(L:List En)(w:World)(hZ:SzAt w)(hC:ss.length<=C)(hS:dW w.heap.size w A ss)(hR:aH w.heap.size w VA (aB L))(hz:L.length<=28000)(hk:∀x∈L,0<=x.key/\x.key<1099511627776)(hc:∀x∈L,x.c≠0)
  (hr:L.Pairwise fun a b=>a.key<b.key):
  Calls Tryz.prog 128 #[.slice A ss.length C,.int .i64 f,.slice VA L.length VC] w (BoIn (QB ss f L) A C w):=by
 have no:iW ss f L=false->∀(e:Ending) (w':World),(e=.returned (.tuple #[.agg #[.slice none 0 0,.slice none 0 0,.int .i64 0,.slice none 0 0,.int .i64 0,.slice none 0 0,.int .i64 0,.int .i64 0],.int .i64 7])/\Below w.heap.size w w')->BoIn (QB ss f L) A C w e w':=fun hn e w' ⟨he,hb⟩=>
  ⟨_,_,_,_,_,_,_,_,_,_,_,_,_,_,_,_,7,he,hb,.inl ⟨by decide,rfl,.inl ⟨hn,rfl⟩⟩⟩
 cases hb:bofB ss f L with
 |false=>exact(qed A VA C VC ss f L w hZ hC hS hR hz hk hc hb).mono (no (by unfold iW;rw[hb];rfl))
 |true=>
  have hP:=qgv (n:=ss.length) (f:=f) hz hr hk hc (by
   unfold bofB at hb;rw[Bool.and_eq_true] at hb;exact hb.2)
  cases h1:aP 60 L with
  |none=>exact(q1i A VA C VC ss f L w hZ hC hS hR hz hk hc hr hb (.inr (.inl h1))).mono (no (by unfold iW;rw[h1];simp))
  |some y1=>
   cases h2:aP 3600 L with
   |none=>exact(q1i A VA C VC ss f L w hZ hC hS hR hz hk hc hr hb (.inr (.inr h2))).mono (no (by unfold iW;rw[h2];simp))
   |some y2=>
    have hok:iW ss f L=true:=by unfold iW;rw[hb,h1,h2];rfl
    have l1:=uH hP.good h1;have l2:=uH hP.good h2;refine(qf4 A VA C VC ss f L w hZ hC hS hR hz hk hc hr hb L y1 y2 (wV hr) h1 h2).mono ?_;rintro e w' ⟨hbw,⟨hn,he⟩|⟨g0,D0,q0,p0,g1,D1,q1,p1,g2,D2,q2,p2,n0,a0,n1,a1,n2,a2,he⟩⟩
    ·exact⟨_,_,_,_,_,_,_,_,_,_,_,_,_,_,_,_,1,he,hbw,.inl ⟨by decide,rfl,.inr ⟨hok,by omega,rfl⟩⟩⟩
    ·exact⟨_,_,_,_,_,_,_,_,_,_,_,_,_,_,_,_,0,he,hbw,.inr ⟨rfl,⟨some ⟨g0,0,none⟩,D0,q0,p0⟩,⟨some ⟨g1,0,none⟩,D1,q1,p1⟩,⟨some ⟨g2,0,none⟩,D2,q2,p2⟩,rfl,hok,qif hr hb h1 h2 a0 a1 a2,a0,⟨g0,rfl,n0⟩,⟨g1,rfl,n1⟩,⟨g2,rfl,n2⟩⟩⟩

def qsd(bs:List Int)(c:Int):Prop:=
 (decC bs≠0/\c=decC bs)\/(decC bs=0/\iW (cZ (aU bs)).1 (dP (aU bs)).1 (dL (aU bs)).1=false/\c=7)\/(decC bs=0/\iW (cZ (aU bs)).1 (dP (aU bs)).1 (dL (aU bs)).1=true/\2900<(dL (aU bs)).1.length/\c=1)

structure qff(bs:List Int)(A:Option Addr)(C:Nat)(t0 t1 t2:TR)(w w':World):Prop where
 dec:decC bs=0
 ok:iW (cZ (aU bs)).1 (dP (aU bs)).1 (dL (aU bs)).1=true
 own:OwnB w.heap.size w' A C (cZ (aU bs)).1 t0 t1 t2
 base:bM (cZ (aU bs)).1 (dP (aU bs)).1 (t0.ps.map PN.nd) t0.r (t1.ps.map PN.nd) t1.r (t2.ps.map PN.nd) t2.r=true
 all:allP (t0.ps.map PN.nd) t0.r 0 1099511627776=(0,(dL (aU bs)).1)

def qru(bs:List Int)(w:World)(e:Ending)(w':World):Prop:=
 ∃(M:Option Addr) (m D:Nat) (X0:Option Addr) (x0 Y0:Nat) (z0:Int) (X1:Option Addr) (x1 Y1:Nat) (z1:Int) (X2:Option Addr) (x2 Y2:Nat) (z2 z c:Int),e=.returned (.tuple #[.agg #[.slice M m D,.slice X0 x0 Y0,.int .i64 z0,.slice X1 x1 Y1,.int .i64 z1,.slice X2 x2 Y2,.int .i64 z2,.int .i64 z],.int .i64 c])/\Below w.heap.size w w'/\
  ((c≠0/\[.slice M m D,.slice X0 x0 Y0,.int .i64 z0,.slice X1 x1 Y1,.int .i64 z1,.slice X2 x2 Y2,.int .i64 z2,.int .i64 z]=sJ/\qsd bs c)\/
   (c=0/\∃(A:Option Addr) (C:Nat) (t0 t1 t2:TR),[.slice M m D,.slice X0 x0 Y0,.int .i64 z0,.slice X1 x1 Y1,.int .i64 z1,.slice X2 x2 Y2,.int .i64 z2,.int .i64 z]=aJ A C (cZ (aU bs)).1 t0 t1 t2 (dP (aU bs)).1/\qff bs A C t0 t1 t2 w w'))

theorem qff.at{bs:List Int}{A:Option Addr}{C:Nat}{t0 t1 t2:TR}{w w':World}(h:qff bs A C t0 t1 t2 w w'):dU w' A C (cZ (aU bs)).1 t0 t1 t2:=by
 obtain⟨L0,L1,L2,hL⟩:=mY h.base;obtain⟨A',C',e,hn,hl,_,hr⟩:=aN h.own.sr;cases e;obtain⟨g0,e0,n0⟩:=h.own.n0;obtain⟨g1,e1,n1⟩:=h.own.n1;obtain⟨g2,e2,n2⟩:=h.own.n2;have k0:=(jL hL.a0).1;have k1:=(jL hL.a1).1;have k2:=(jL hL.a2).1;have hs:=h.own.sn;exact⟨hn,hl,⟨hr,by omega,h.own.se⟩,⟨by rw[e0];exact n0.nodes,lZ k0,mG k0⟩,⟨by rw[e1];exact n1.nodes,lZ k1,mG k1⟩,⟨by rw[e2];exact n2.nodes,lZ k2,mG k2⟩⟩

theorem qe4(A:Option Addr)(C:Nat)(bs:List Int)(w:World)(hZ:SzAt w)(h:bs=[]\/aX w.heap.size w A C bs)(hu:U8 bs):
  Calls Tryz.prog 102 #[.slice A bs.length C] w (qru bs w):=by
 by_cases hs:dK bs=0
 ·have hb:aX w.heap.size w A C bs:=by
   rcases h with rfl|h
   ·exact absurd hs (by decide)
   ·exact h
  by_cases hc:(kM (aU bs)).code=0
  ·have hd:decC bs=0:=by unfold decC;rw[if_pos hs];exact hc
   obtain⟨-,hT⟩:=qk4 hu hd;obtain⟨hk,hr⟩:=q0v _ _ _ hT.p;have hm:=hT.m;have hn:=hT.n;have hse:∀s∈(cZ (aU bs)).1,s.size<=140737488351232:=fun s hs=>by have:=hT.s s hs;omega
   refine(q9o (QB (cZ (aU bs)).1 (dP (aU bs)).1 (dL (aU bs)).1) A C bs w hb hu hs hc fun NA VA NC VC W hW hl h1 h2=>?_).mono ?_
   ·exact qdl NA VA NC VC _ _ _ W (hZ.below hW) hl ⟨h1,by omega,hse⟩ h2 (by omega) (fun x hx=>⟨(hk x hx).2.1,(hk x hx).2.2.1⟩) (fun x hx=>(hk x hx).2.2.2.1) hr
   ·rintro e w' ⟨M,m,D,X0,x0,Y0,z0,X1,x1,Y1,z1,X2,x2,Y2,z2,z,c,NA,NC,W,w7,rfl,hbw,hbW,hlt,hown,hb7,hQ,hfar⟩;refine⟨_,_,_,_,_,_,_,_,_,_,_,_,_,_,_,_,_,rfl,hbw,?_⟩;rcases hQ with⟨h0,hz,h7⟩|⟨rfl,t0,t1,t2,hV,hok,hB,hall,⟨g0,e0,n0⟩,⟨g1,e1,n1⟩,⟨g2,e2,n2⟩⟩
    ·refine .inl ⟨h0,hz,?_⟩;rcases h7 with⟨k1,k2⟩|⟨k1,k2,k3⟩
     ·exact .inr (.inl ⟨hd,k1,k2⟩)
     ·exact .inr (.inr ⟨hd,k1,k2,k3⟩)
    ·refine .inr ⟨rfl,NA,NC,t0,t1,t2,hV,hd,hok,?_,hB,hall⟩
     have ho:OwnB (w.heap.size+1) w7 NA NC (cZ (aU bs)).1 t0 t1 t2:=
      ⟨aW hown fun k hk=>hb7.block k (hown.lt k hk).2,hse,by omega,⟨g0,e0,n0.low hlt⟩,⟨g1,e1,n1.low hlt⟩,⟨g2,e2,n2.low hlt⟩⟩
     exact ho.keep (by omega) fun k hk _=>hfar k (by omega)
  ·refine(q9d A C bs w hb hu hs hc).mono ?_;rintro e w' ⟨rfl,hbw⟩;exact⟨_,_,_,_,_,_,_,_,_,_,_,_,_,_,_,_,_,rfl,hbw,.inl ⟨hc,rfl,.inl ⟨by unfold decC;rw[if_pos hs];exact hc,by unfold decC;rw[if_pos hs]⟩⟩⟩
 ·refine(q8v A C bs w h hu hs).mono ?_;rintro e w' ⟨rfl,hbw⟩;exact⟨_,_,_,_,_,_,_,_,_,_,_,_,_,_,_,_,_,rfl,hbw,.inl ⟨hs,rfl,.inl ⟨by unfold decC;rw[if_neg hs];exact hs,by unfold decC;rw[if_neg hs]⟩⟩⟩

end
section
open Go.RowKit Plain

theorem qkl{w:World}:bY w.heap.size (w.alloc (.cells #[.int .u8 119,.int .u8 110] 5 (2,3))) (.slice (some ⟨w.heap.size,0,none⟩) 2 2) mark:=by
 have hn:(w.alloc (.cells #[.int .u8 119,.int .u8 110] 5 (2,3))).heap[w.heap.size]? =some (.cells #[.int .u8 119,.int .u8 110] 5 (2,3)):=heap_alloc_new w _;have hc:∀j,(w.alloc (.cells #[.int .u8 119,.int .u8 110] 5 (2,3))).cell? ⟨w.heap.size,j,none⟩=(#[Value.int .u8 119,Value.int .u8 110]:Array Value)[j]? :=fun j=>cell_of_row _ _ _ _ _ _ hn
 refine⟨w.heap.size,2,rfl,Nat.le_refl _,by simp,Nat.le_refl _,by omega,fun j hj=>⟨?_,?_⟩,fun j u hu=>?_⟩
 ·rw[hc,Array.getElem?_eq_getElem (by simpa using hj)]
  rfl
 ·unfold World.frozen?;rw[hn];simp;omega
 ·rw[hc]
  have h2:(u8s mark)[j]? =(#[Value.int .u8 119,Value.int .u8 110]:Array Value)[j]? :=by
   show([Value.int .u8 119,Value.int .u8 110]:List Value)[j]? =_;simp
  rw[<-h2];exact hu

def qpy(ss:List ByteArray)(f:Int)(L:List En)(w:World)(e:Ending)(w':World):Prop:=
 Below w.heap.size w w'/\(((10000<L.length\/200000<(encB ss f L).length)/\e=.returned (.tuple #[.slice none 0 0,.int .i64 1]))\/
  (L.length<=10000/\(encB ss f L).length<=200000/\∃v,e=.returned (.tuple #[v,.int .i64 0])/\bY w.heap.size w' v (encB ss f L)))

set_option maxRecDepth 20000 in
set_option maxHeartbeats 8000000 in
theorem qcs(A:Option Addr)(C:Nat)(ss:List ByteArray)(t0 t1 t2:TR)(f:Int)(w:World)(hZ:SzAt w)(hC:ss.length<=C)(hS:dW w.heap.size w A ss)(h0:t0.ok w)(h1:t1.ok w)(h2:t2.ok w)
  (hb:bM ss f (t0.ps.map PN.nd) t0.r (t1.ps.map PN.nd) t1.r (t2.ps.map PN.nd) t2.r=true):
  Calls Tryz.prog 36 #[.agg (aJ A C ss t0 t1 t2 f).toArray] w (qpy ss f (allP (t0.ps.map PN.nd) t0.r 0 1099511627776).2 w):=by
 rw[<-tZ];obtain⟨hT,hz⟩:=qhb hb;have okup:∀(t:TR) (W:World),Below w.heap.size w W->t.ok w->t.ok W:=fun t W hW ht=>⟨ht.1.up hW,ht.2.1,ht.2.2⟩
 have con:=aF fun W (hW:Below w.heap.size w W)=>sV A C ss t0 t1 t2 f W (hZ.below hW) hC (hS.up hW) (okup t0 W hW h0) (okup t1 W hW h1) (okup t2 W hW h2) true hb
 have conA:=aF fun W (hW:Below w.heap.size w W)=>q9v t0.A t0.C t0.r 0 9223372036854775807 t0.ps W (okup t0 W hW h0).1 h0.2.1
 have hlen:=kX (t0.ps.map PN.nd) t0.r 0 9223372036854775807;obtain⟨A0,C0,p0,r0⟩:=t0;obtain⟨A1,C1,p1,r1⟩:=t1;obtain⟨A2,C2,p2,r2⟩:=t2;simp only[aJ] at *;rw[hz] at conA;obtain⟨L,hL⟩:∃L,(allP (p0.map PN.nd) r0 0 9223372036854775807).2=L:=⟨_,rfl⟩;rw[hL] at conA hlen hT ⊢;have HT:=aF hT;have HS:=aF hS;clear hb okup h0 h1 h2 hz hL hT hS hZ;unfold qpy;obtain⟨EB,hEB⟩:∃EB,encB ss f L=EB:=⟨_,rfl⟩;rw[hEB];have HEB:=aF hEB;clear hEB;have b0:∀o:Obj,Below w.heap.size w (w.alloc o):=fun o=>(Below.refl _ _).alloc (Nat.le_refl _) o
 go_enter Tryz.func36,Tryz.ntmps36
 go_upto_region 7 with(first
  |(go_at_call 55;refine(con.out _ (b0 _)).mono ?_;rintro e w1 ⟨rfl,hb1⟩;have hb1':=aC (b0 _) (Nat.le_refl _) hb1;have XB:=aF ((aG w [.slice A ss.length C,.slice A0 p0.length C0,.int .i64 r0,.slice A1 p1.length C1,.int .i64 r1,.slice A2 p2.length C2,.int .i64 r2,.int .i64 f] 35).below hb1 (by simp));have b:=fun j=>XB.out.cell j;have lb:=XB.out.lt)
  |(go_at_call 56;refine(conA.out _ hb1').mono ?_;rintro e w2 ⟨hb2,v2,rfl,ho2⟩;obtain⟨LA,LC,rfl,hnL,hlL,_,hrL⟩:=aN ho2;have hb2':=aC hb1' (Nat.le_refl _) hb2;have XC:=aF (XB.out.below hb2 XB.out.lt);have c:=fun j=>XC.out.cell j;have lc:=XC.out.lt;clear b lb XB con conA))
 have HB2:=aF hb2';have HR:=aF hrL;clear hb1 hb1' hb2 hb2' ho2 hrL
 by_cases hm:10000<L.length
 ·have hm':(10000:Int)<(L.length:Int):=by omega
  go_wp2_with fail;exact bodyPost_ret (v:=.tuple #[.slice none 0 0,.int .i64 1]) (by simp[results,Tryz.results36,go_sem]) rfl ⟨HB2.out,.inl ⟨.inl hm,rfl⟩⟩
 ·have hm':¬(10000:Int)<(L.length:Int):=by omega
  obtain⟨hl1,hl2,hl3⟩:=HT.out.len (by omega)
  have hfew:=HT.out.few;obtain⟨bx,hbx⟩:∃bx,bx=w.heap.size:=⟨_,rfl⟩;have hbl:bx<w2.heap.size:=by rw[hbx];exact lc
  rw[<-hbx] at XC c lc;rw[<-hbx];obtain⟨e1,he1⟩:∃e1,mark++mF ss=e1:=⟨_,rfl⟩;obtain⟨e2,he2⟩:∃e2,e1++sev f.toNat=e2:=⟨_,rfl⟩;obtain⟨e3,he3⟩:∃e3,e2++(sev L.length++dB 0 L)=e3:=⟨_,rfl⟩
  have hH:encH ss f L=e3:=by
   rw[<-he3,<-he2,<-he1];unfold encH kE;simp only[List.append_assoc]
  have he4:e3++iH e3=EB:=by
   rw[<-HEB.out,encB,hH]
  have hu:U8 e3:=fun b hb=>qhx ss f L b (by rw[HEB.out,<-he4];exact List.mem_append_left _ hb)
  have z1:e1.length<=402:=by rw[<-he1,List.length_append];have:mark.length=2:=rfl;omega
  have z2:e2.length<=411:=by rw[<-he2,List.length_append];omega
  have z3:e3.length<=1600411:=by rw[<-he3,List.length_append];omega
  have conN:Hid (∀v W,w2.heap.size<=W.heap.size->Below w2.heap.size w2 W->bY w2.heap.size W v mark->Calls Tryz.prog 57 #[v,.slice A ss.length C] W fun e w'=>∃v',e=.returned v'/\bY w2.heap.size w' v' e1/\Grew W w' v v'):=fun v W hW hb hv=>by
   have k:=q1p w2.heap.size v mark A C ss W hW hv (((HS.out.row.below HB2.out (Nat.le_refl _)).mono HB2.out.size).below hb (Nat.le_refl _)) (by rw[he1];omega) (by omega)
   rw[he1] at k;exact k
  have conF:Hid (∀v W,w2.heap.size<=W.heap.size->bY w2.heap.size W v e1->Calls Tryz.prog 58 #[v,.int .i64 f] W fun e w'=>∃v',e=.returned v'/\bY w2.heap.size w' v' e2/\Grew W w' v v'):=fun v W hW hv=>by
   have k:=vN w2.heap.size v e1 f W hW hv HT.out.f0 (by have:=HT.out.f1;omega) (by omega)
   rw[he2] at k;exact k
  have conP:Hid (∀v W,w2.heap.size<=W.heap.size->Below w2.heap.size w2 W->bY w2.heap.size W v e2->Calls Tryz.prog 59 #[v,.slice LA L.length LC] W fun e w'=>∃v',e=.returned v'/\bY w2.heap.size w' v' e3/\Grew W w' v v'):=fun v W hW hb hv=>by
   have k:=q1a w2.heap.size v e2 LA LC L W hW hv (HR.out.below hb (Nat.le_refl _)) (by rw[he3];omega) (by omega) HT.out.rise HT.out.told
   rw[he3] at k;exact k
  have conS:Hid (∀g cap W,aX W.heap.size W (some ⟨g,0,none⟩) cap e3->Calls Tryz.prog 60 #[.slice (some ⟨g,0,none⟩) e3.length cap] W fun e w'=>∃g,e=.returned (.slice (some ⟨g,0,none⟩) 4 4)/\W.heap.size<=g/\RowL w' g 5 (u8s (iH e3))/\Below W.heap.size W w'):=fun g cap W h=>qbp _ _ _ _ h hu
  have HE4:=aF he4;clear hbx hH hu he1 he2 he3 he4 hl1 hl2 hl3;have kc:=fun(C':Array Value) (n c:Nat)=>Lib.run_convert_bytes_const (P:=Tryz.prog) w2 60 5 C' n c Tryz.underlying60 (by kernel_rfl)
  go_upto_region 10 with fail;have HM:Hid (bY w2.heap.size (w2.alloc (.cells #[.int .u8 119,.int .u8 110] 5 (2,3))) (.slice (some ⟨w2.heap.size,0,none⟩) 2 2) mark):=qkl;have HW:Hid (Below w2.heap.size w2 (w2.alloc (.cells #[.int .u8 119,.int .u8 110] 5 (2,3)))):=(Below.refl _ _).alloc (Nat.le_refl _) _;obtain⟨wm,hwm⟩:∃wm,wm=w2.alloc (.cells #[.int .u8 119,.int .u8 110] 5 (2,3)):=⟨_,rfl⟩;obtain⟨vm,hvm⟩:∃vm,vm=Value.slice (some ⟨w2.heap.size,0,none⟩) 2 2:=⟨_,rfl⟩;rw[<-hwm] at HM HW ⊢;rw[<-hvm] at HM ⊢;have XD:=aF (XC.out.below HW.out hbl);have d:=fun j=>XD.out.cell j
  have ld:=XD.out.lt;clear hwm hvm c lc kc;have P0:True:=trivial
  go_upto_region 14 with(first
   |(go_at_call 57;refine(conN.out vm wm HW.out.size HW.out HM.out).mono ?_;rintro e w3 ⟨v3,rfl,hbuf3,hg3⟩;have hb3:=hg3.below HM.out;have HW3:=aF (HW.out.trans hb3);have X3:=aF (XD.out.below hb3 hbl);have d3:=fun j=>X3.out.cell j;have ld3:=X3.out.lt;clear d ld XD conN)
   |(go_at_call 58;refine(conF.out v3 w3 HW3.out.size hbuf3).mono ?_;rintro e w4 ⟨v4,rfl,hbuf4,hg4⟩;have hb4:=hg4.below hbuf3;have HW4:=aF (HW3.out.trans hb4);clear d3 ld3 X3 conF)
   |(go_at_call 59;refine(conP.out v4 w4 HW4.out.size HW4.out hbuf4).mono ?_;rintro e w5 ⟨v5,rfl,hbuf5,hg5⟩;have hb5:=hg5.below hbuf4;have HW5:=aF (HW4.out.trans hb5);obtain⟨g5,cap5,hv5,hby5⟩:=hbuf5.bytes;have HF5:=aF hbuf5;clear hbuf5;subst hv5)
   |(go_at_call 60;refine(conS.out g5 cap5 w5 hby5).mono ?_;rintro e w6 ⟨g6,rfl,hg6,hrow6,hb6⟩;have HF6:=aF (HF5.out.below hb6);have HW6:=aF (HW5.out.trans (hb6.mono HW5.out.size)))
   |(at_builtin;refine vI rfl _ _ 60 rfl w2.heap.size _ _ e3 (iH e3) rfl HF6.out rfl (qnz hrow6 rfl 4) HW6.out.size (by rw[qgu];omega) ?_;intro v7 w7 hbuf7 hg7))
  have hb7:=hg7.below HF6.out;rw[HE4.out] at hbuf7;have HW7:=aF (aC HB2.out (Nat.le_refl _) (HW6.out.trans hb7));obtain⟨g7,cap7,hv7,hr7⟩:=hbuf7;have HR7:=aF hr7;subst hv7
  by_cases hq:200000<EB.length
  ·have hq':(200000:Int)<(EB.length:Int):=by omega
   go_wp2_with fail;exact bodyPost_ret (v:=.tuple #[.slice none 0 0,.int .i64 1]) (by simp[results,Tryz.results36,go_sem]) rfl ⟨HW7.out,.inl ⟨.inr hq,rfl⟩⟩
  ·have hq':¬(200000:Int)<(EB.length:Int):=by omega
   go_wp2_with fail;refine bodyPost_ret (v:=.tuple #[.slice (some ⟨g7,0,none⟩) EB.length cap7,.int .i64 0]) (by simp[results,Tryz.results36,go_sem]) rfl ⟨HW7.out,by omega,by omega,_,rfl,g7,cap7,rfl,?_⟩
   exact⟨Nat.le_trans HB2.out.size HR7.out.1,HR7.out.2⟩

end
section
open Go.RowKit Plain Go.Shelf

section
variable {A : Option Addr} {C : Nat} {ss : List ByteArray} {t0 t1 t2 : TR} {f : Int} {L : List En} {w : World}

def DkTo(ss:List ByteArray)(f:Int)(L:List En)(w:World)(e:Ending)(w':World):Prop:=
 ∃(A:Option Addr) (C:Nat) (t0 t1 t2:TR),e=.returned (.tuple #[.agg (aJ A C ss t0 t1 t2 f).toArray,.int .i64 0])/\dU w' A C ss t0 t1 t2/\bM ss f (t0.ps.map PN.nd) t0.r (t1.ps.map PN.nd) t1.r (t2.ps.map PN.nd) t2.r=true/\allP (t0.ps.map PN.nd) t0.r 0 1099511627776=(0,L)/\OwnB w.heap.size w' A C ss t0 t1 t2/\Below w.heap.size w w'

theorem qq8(hZ:SzAt w)(h:aX w.heap.size w A C (encB ss f L))(hT:qJ ss f L)(hl:(encB ss f L).length<=200000)(hok:iW ss f L=true)(hn:L.length<=2900):
  Calls Tryz.prog 102 #[.slice A (encB ss f L).length C] w (DkTo ss f L w):=by
 obtain⟨d0,d1,d2,d3⟩:=qnr hT hl;refine(qe4 A C _ w hZ (.inr h) (qhx ss f L)).mono ?_;rintro e w' ⟨M,m,D,X0,x0,Y0,z0,X1,x1,Y1,z1,X2,x2,Y2,z2,z,c,rfl,hbw,⟨h0,_,hno⟩|⟨rfl,A',C',u0,u1,u2,hV,hY⟩⟩
 ·exfalso
  rcases hno with⟨k,_⟩|⟨_,k,_⟩|⟨_,_,k,_⟩
  ·exact k d0
  ·rw[d1,d2,d3,hok] at k;cases k
  ·rw[d3] at k;omega
 ·have ha:=hY.at;have hb:=hY.base;have hl':=hY.all;have ho:=hY.own;rw[d1,d2] at hV;rw[d1] at ha ho;rw[d1,d2] at hb;rw[d3] at hl';refine⟨A',C',u0,u1,u2,?_,ha,hb,hl',ho,hbw⟩;rw[<-hV]

end

end
end Go.Proofs.YtlojfgdpmaigmagGreatDoor

/- file.Decode, of bytes that do not stand: its walk. -/
import Derived.Test.YtlojfgdpmaigmafGreatDoorP49
import Derived.Test.YtlojfgdpmaigmafGreatDoorP30
import Derived.Test.YtlojfgdpmaigmafGreatDoorP11
import Derived.Test.YtlojfgdpmaigmafGreatDoorEncPure
import Derived.Test.YtlojfgdpmaigmafGreatDoorP39
import Derived.BigQuiet
import Derived.Lib.SlBytesConst
import Derived.Test.YtlojfgdpmaigmafGreatDoorP47
import Derived.Test.YtlojfgdpmaigmafGreatDoorP12
import Derived.Deep.AppendLies
namespace Go.Proofs.YtlojfgdpmaigmafGreatDoor
section
open Go.RowKit Plain Go.Shelf

theorem qtc{A:Option Addr}{C:Nat}{bs:List Int}{w:World}(h:q0n w.heap.size w A C bs)(hu:U8 bs)(hc:q4b bs≠0):
  Calls Tryz.prog 26 #[.slice A bs.length C] w fun e w'=>e=.returned (.tuple #[.slice none 0 0,.int .i64 (q4b bs)])/\Below w.heap.size w w':=by
 refine(qfa A C bs w h hu).mono ?_
 rintro e w' ⟨hb,⟨_,he⟩|⟨h0,_⟩⟩
 ·exact⟨he,hb⟩
 ·exact absurd h0 hc

theorem qhp{A:Option Addr}{C:Nat}{bs:List Int}{w:World}(h:bs.length<6):
  Calls Tryz.prog 26 #[.slice A bs.length C] w fun e w'=>e=.returned (.tuple #[.slice none 0 0,.int .i64 (q4b bs)])/\Below w.heap.size w w':=by
 have hc:q4b bs=5:=by unfold q4b;rw[if_neg (by omega),if_pos h]
 rw[hc]
 have h1':¬(200000:Int)<(bs.length:Int):=by omega
 have h2':(bs.length:Int)<6:=by omega
 clear hc
 go_enter Tryz.func26,Tryz.ntmps26
 go_wp2
 exact bodyPost_ret (v:=.tuple #[.slice none 0 0,.int .i64 5]) (by simp[results,Tryz.results26,go_sem]) rfl ⟨rfl,Below.refl _ _⟩

set_option maxRecDepth 20000 in
set_option maxHeartbeats 4000000 in
theorem ql3(A:Option Addr)(C:Nat)(bs:List Int)(w:World)(h:bs=[]\/q0n w.heap.size w A C bs)(hu:U8 bs)(hc:q4b bs≠0):
  Calls Tryz.prog 8 #[.slice A bs.length C] w fun e w'=>e=.returned (.tuple #[.agg #[.slice none 0 0,.slice none 0 0,.int .i64 0,.slice none 0 0,.int .i64 0,.slice none 0 0,.int .i64 0,.int .i64 0],.int .i64 (q4b bs)])/\Below w.heap.size w w':=by
 have b0:∀o:Obj,Below w.heap.size w (w.alloc o):=fun o=>(Below.refl _ _).alloc (Nat.le_refl _) o
 have con:Hid (∀o:Obj,Calls Tryz.prog 26 #[.slice A bs.length C] (w.alloc o) fun e w'=>e=.returned (.tuple #[.slice none 0 0,.int .i64 (q4b bs)])/\Below (w.alloc o).heap.size (w.alloc o) w'):=fun o=>by
  rcases h with h|h
  ·exact qhp (by rw[h];decide)
  ·exact qtc (w:=w.alloc o) ((h.below (b0 o) (Nat.le_refl _)).mono (by simp)) hu hc
 obtain⟨c,hcc⟩:∃c,q4b bs=c:=⟨_,rfl⟩
 rw[hcc] at con hc ⊢
 have hne:(c != 0)=true:=by simpa using hc
 clear h hu hcc hc
 go_enter Tryz.func8,Tryz.ntmps8
 go_upto_region 2 with(first
  |(go_at_call 26;refine(con.out _).mono ?_;rintro e w1 ⟨rfl,hb1⟩;have XB:=q0a ((q0b w [.slice none 0 0,.slice none 0 0,.int .i64 0,.slice none 0 0,.int .i64 0,.slice none 0 0,.int .i64 0,.int .i64 0] 29).below hb1 (by simp));have x:=fun j=>XB.out.cell j;have lx:=XB.out.lt;have fx:=fun j=>XB.out.frozen j;have HB1:=q0a (q0e (b0 _) (Nat.le_refl _) hb1);clear hb1))
 go_wp2_with fail
 refine bodyPost_ret (v:=.tuple #[.agg #[.slice none 0 0,.slice none 0 0,.int .i64 0,.slice none 0 0,.int .i64 0,.slice none 0 0,.int .i64 0,.int .i64 0],.int .i64 c]) (by simp[results,Tryz.results8,go_sem,x]) rfl ⟨rfl,?_⟩
 exact q0t HB1.out (Nat.le_refl _) _ _ _ _ _ _ _ _

end
section
open Go.RowKit Plain

def q9x(ss:List ByteArray)(f:Int)(L:List En):Bool:=bofB ss f L&&((q1c 60 L).isSome&&(q1c 3600 L).isSome)

theorem qbx:∀(L:List En) (first:Bool) (ahead:Int),qfo first ahead L->(∀x∈L,ahead<=x.key/\0<=x.key/\x.key<1099511627776/\x.c≠0/\(first=true\/ahead<x.key))/\L.Pairwise fun a b=>a.key<b.key
 |[],_,_,_=>⟨fun _ h=>(by simp at h),.nil⟩
 |x::r,first,ahead,h=>by
  obtain⟨h1,h2,h3⟩:=h
  obtain⟨k1,k2⟩:=qbx r false x.key h3
  have g1:=h1.k0
  have g2:=h1.a0
  have g3:=h1.k1
  have g4:=h1.c0
  refine⟨fun y hy=>?_,List.pairwise_cons.2 ⟨fun y hy=>?_,k2⟩⟩
  ·rcases List.mem_cons.1 hy with rfl|hy
   ·exact⟨g1,by omega,g3,by omega,h2⟩
   ·obtain⟨j1,j2,j3,j4,j5⟩:=k1 y hy
    refine⟨by omega,j2,j3,j4,?_⟩
    rcases j5 with j5|j5
    ·cases j5
    ·right;omega
  ·rcases(k1 y hy).2.2.2.2 with j|j
   ·cases j
   ·exact j

theorem qv6{ss:List ByteArray}{f:Int}{L y1 y2:List En}{m0 m1 m2:List Nd}{q0 q1 q2:Int}(hr:L.Pairwise fun a b=>a.key<b.key)(hb:bofB ss f L=true)(r1:q1c 60 L=some y1)(r2:q1c 3600 L=some y2)
  (a0:allP m0 q0 0 1099511627776=(0,L)) (a1:allP m1 q1 0 1099511627776=(0,y1)) (a2:allP m2 q2 0 1099511627776=(0,y2)):q2o ss f m0 q0 m1 q1 m2 q2=true:=by
 unfold bofB qby at hb
 simp only[Bool.and_eq_true,decide_eq_true_eq] at hb
 obtain⟨⟨h1,h2,h3,h4⟩,h5⟩:=hb
 have hall:L.all (q2d ss.length f)=true:=by
  rw[List.all_eq_true] at h5 ⊢
  intro x hx
  have:=h5 x hx
  unfold q5t at this
  rw[Bool.and_eq_true] at this
  exact this.1
 have hbook:q7b m0 q0 ss.length f=some L:=by
  unfold q7b
  rw[a0,if_pos ⟨rfl,hall⟩]
 have s:∀(size:Int) (M:List En) (m:List Nd) (q:Int),q1c size L=some M->allP m q 0 1099511627776=(0,M)->q2z size L m q=true:=by
  intro size M m q k1 k2
  unfold q2z
  rw[k1,k2]
  simp
 have e0:=s 1 L m0 q0 (qcp hr) a0
 have e1:=s 60 y1 m1 q1 r1 a1
 have e2:=s 3600 y2 m2 q2 r2 a2
 unfold q2o
 simp only[Bool.and_eq_true,decide_eq_true_eq]
 refine⟨h1,h2,h3,h4,?_⟩
 unfold q9c
 rw[hbook]
 simp only[e0,e1,e2,Bool.and_self]

theorem qwm{ss:List ByteArray}{f:Int}{n0 n1 n2:List Nd}{r0 r1 r2:Int}{L0 L1 L2:List En}(hb:q2o ss f n0 r0 n1 r1 n2 r2=true)(hL:qch ss f n0 r0 n1 r1 n2 r2 L0 L1 L2):q9x ss f L0=true:=by
 unfold q9x
 rw[hL.p1,hL.p2]
 simp only[Option.isSome_some,Bool.and_self,Bool.and_true]
 unfold q2o at hb
 simp only[Bool.and_eq_true,decide_eq_true_eq] at hb
 obtain⟨h1,h2,h3,h4,_⟩:=hb
 unfold bofB qby
 simp only[Bool.and_eq_true,decide_eq_true_eq]
 refine⟨⟨h1,h2,h3,h4⟩,?_⟩
 obtain⟨_,_,hpt⟩:=q6t hL.book
 have hg:=(q1d (ns:=n0) (r:=r0) (low:=0) (high:=1099511627776)).2.1
 rw[hL.a0] at hg
 rw[List.all_eq_true] at hpt ⊢
 intro x hx
 unfold q5t
 rw[hpt x hx,Bool.true_and]
 exact decide_eq_true (hg x hx).1

theorem qht:∀(L:List En) (first:Bool) (ahead:Int),0<=ahead->(L.Pairwise fun a b=>a.key<b.key)->(∀x∈L,Told x/\0<x.c/\x.t=x.key%1048576/\ahead<=x.key/\(first=true\/ahead<x.key))->qfo first ahead L
 |[],_,_,_,_,_=>trivial
 |x::r,first,ahead,ha,hr,h=>by
  obtain⟨h1,h2,h3,h4,h5⟩:=h x List.mem_cons_self
  obtain⟨p1,p2⟩:=List.pairwise_cons.1 hr
  refine⟨⟨h4,ha,h1.k1,h2,h1.c1,h1.s,h1.lo,h1.hi,h1.l,h3⟩,h5,qht r false x.key (by omega) p2 fun y hy=>?_⟩
  obtain⟨g1,g2,g3,_,_⟩:=h y (List.mem_cons_of_mem _ hy)
  have:=p1 y hy
  exact⟨g1,g2,g3,by omega,.inr this⟩

theorem qte{ss:List ByteArray}{f:Int}{n0 n1 n2:List Nd}{r0 r1 r2:Int}{L0 L1 L2:List En}(hb:q2o ss f n0 r0 n1 r1 n2 r2=true)(hL:qch ss f n0 r0 n1 r1 n2 r2 L0 L1 L2)(hn:L0.length<=10000):qjt ss f L0:=by
 obtain⟨hT,-⟩:=qr0 hb
 rw[qb3,hL.a0] at hT
 obtain⟨_,_,hpt⟩:=q6t hL.book
 have hg:=(q1d (ns:=n0) (r:=r0) (low:=0) (high:=1099511627776)).2.1
 rw[hL.a0] at hg
 rw[List.all_eq_true] at hpt
 refine⟨hT.few,hT.nm,hT.f0,by have:=hT.f1;omega,hn,qht L0 true 0 (Int.le_refl 0) hT.rise fun x hx=>?_⟩
 have h1:=hT.told x hx
 have h2:=hpt x hx
 simp only[q2d,Bool.and_eq_true,decide_eq_true_eq] at h2
 have h3:=(good_iff.1 (hg x hx)).1
 exact⟨h1,by have:1<=x.c:=h3.1;omega,h2.2.2,h1.k0,.inl rfl⟩

theorem qyz{ss:List ByteArray}{f:Int}{L:List En}(hT:qnf ss f L)(hn:L.length<=1000):(encB ss f L).length<=200000:=by
 obtain⟨k1,k2,_⟩:=hT.len (by omega)
 have k3:=qdw L 0 (Int.le_refl 0) hT.told
 have k4:=q6u (n:=L.length) 9 (by omega) (by omega)
 rw[qsp]
 unfold q5r
 rw[List.length_append,List.length_append,List.length_append]
 omega

end
section
open Go.RowKit Plain Go.Shelf

def QB(ss:List ByteArray)(f:Int)(L:List En)(A:Option Addr)(C:Nat)(w w':World)(V:List Value)(c:Int):Prop:=
 (c≠0/\V=qp3/\((q9x ss f L=false/\c=7)\/(q9x ss f L=true/\2900<L.length/\c=1)))\/
 (c=0/\∃t0 t1 t2:TR,V=q0l A C ss t0 t1 t2 f/\q9x ss f L=true/\q2o ss f (t0.ps.map PN.nd) t0.r (t1.ps.map PN.nd) t1.r (t2.ps.map PN.nd) t2.r=true/\allP (t0.ps.map PN.nd) t0.r 0 1099511627776=(0,L)/\
  (∃g,t0.A=some ⟨g,0,none⟩/\NT w.heap.size w' g t0.C t0.ps)/\(∃g,t1.A=some ⟨g,0,none⟩/\NT w.heap.size w' g t1.C t1.ps)/\∃g,t2.A=some ⟨g,0,none⟩/\NT w.heap.size w' g t2.C t2.ps)

theorem qoo(A VA:Option Addr)(C VC:Nat)(ss:List ByteArray)(f:Int)(L:List En)(w:World)(hZ:SzAt w)(hC:ss.length<=C)(hS:q2v w.heap.size w A ss)(hR:q0j w.heap.size w VA (q0d L))(hz:L.length<=28000)(hk:∀x∈L,0<=x.key/\x.key<1099511627776)(hc:∀x∈L,x.c≠0)
  (hr:L.Pairwise fun a b=>a.key<b.key):
  Calls Tryz.prog 31 #[.slice A ss.length C,.int .i64 f,.slice VA L.length VC] w (BoIn (QB ss f L) A C w):=by
 have no:q9x ss f L=false->∀(e:Ending) (w':World),(e=.returned (.tuple #[.agg #[.slice none 0 0,.slice none 0 0,.int .i64 0,.slice none 0 0,.int .i64 0,.slice none 0 0,.int .i64 0,.int .i64 0],.int .i64 7])/\Below w.heap.size w w')->BoIn (QB ss f L) A C w e w':=fun hn e w' ⟨he,hb⟩=>
  ⟨_,_,_,_,_,_,_,_,_,_,_,_,_,_,_,_,7,he,hb,.inl ⟨by decide,rfl,.inl ⟨hn,rfl⟩⟩⟩
 cases hb:bofB ss f L with
 |false=>exact(qpb A VA C VC ss f L w hZ hC hS hR hz hk hc hb).mono (no (by unfold q9x;rw[hb];rfl))
 |true=>
  have hP:=qrw (n:=ss.length) (f:=f) hz hr hk hc (by
   unfold bofB at hb
   rw[Bool.and_eq_true] at hb
   exact hb.2)
  cases h1:q1c 60 L with
  |none=>exact(qee A VA C VC ss f L w hZ hC hS hR hz hk hc hr hb (.inr (.inl h1))).mono (no (by unfold q9x;rw[h1];simp))
  |some y1=>
   cases h2:q1c 3600 L with
   |none=>exact(qee A VA C VC ss f L w hZ hC hS hR hz hk hc hr hb (.inr (.inr h2))).mono (no (by unfold q9x;rw[h2];simp))
   |some y2=>
    have hok:q9x ss f L=true:=by unfold q9x;rw[hb,h1,h2];rfl
    have l1:=qau hP.good h1
    have l2:=qau hP.good h2
    refine(qrk A VA C VC ss f L w hZ hC hS hR hz hk hc hr hb L y1 y2 (qcp hr) h1 h2).mono ?_
    rintro e w' ⟨hbw,⟨hn,he⟩|⟨g0,D0,q0,p0,g1,D1,q1,p1,g2,D2,q2,p2,n0,a0,n1,a1,n2,a2,he⟩⟩
    ·exact⟨_,_,_,_,_,_,_,_,_,_,_,_,_,_,_,_,1,he,hbw,.inl ⟨by decide,rfl,.inr ⟨hok,by omega,rfl⟩⟩⟩
    ·exact⟨_,_,_,_,_,_,_,_,_,_,_,_,_,_,_,_,0,he,hbw,.inr ⟨rfl,⟨some ⟨g0,0,none⟩,D0,q0,p0⟩,⟨some ⟨g1,0,none⟩,D1,q1,p1⟩,⟨some ⟨g2,0,none⟩,D2,q2,p2⟩,rfl,hok,qv6 hr hb h1 h2 a0 a1 a2,a0,⟨g0,rfl,n0⟩,⟨g1,rfl,n1⟩,⟨g2,rfl,n2⟩⟩⟩

def z4c(bs:List Int)(c:Int):Prop:=
 (decC bs≠0/\c=decC bs)\/(decC bs=0/\q9x (q1e (q1j bs)).1 (q1l (q1j bs)).1 (q0z (q1j bs)).1=false/\c=7)\/(decC bs=0/\q9x (q1e (q1j bs)).1 (q1l (q1j bs)).1 (q0z (q1j bs)).1=true/\2900<(q0z (q1j bs)).1.length/\c=1)

structure qrg(bs:List Int)(A:Option Addr)(C:Nat)(t0 t1 t2:TR)(w w':World):Prop where
 dec:decC bs=0
 ok:q9x (q1e (q1j bs)).1 (q1l (q1j bs)).1 (q0z (q1j bs)).1=true
 own:OwnB w.heap.size w' A C (q1e (q1j bs)).1 t0 t1 t2
 base:q2o (q1e (q1j bs)).1 (q1l (q1j bs)).1 (t0.ps.map PN.nd) t0.r (t1.ps.map PN.nd) t1.r (t2.ps.map PN.nd) t2.r=true
 all:allP (t0.ps.map PN.nd) t0.r 0 1099511627776=(0,(q0z (q1j bs)).1)

def z4o(bs:List Int)(w:World)(e:Ending)(w':World):Prop:=
 ∃(M:Option Addr) (m D:Nat) (X0:Option Addr) (x0 Y0:Nat) (z0:Int) (X1:Option Addr) (x1 Y1:Nat) (z1:Int) (X2:Option Addr) (x2 Y2:Nat) (z2 z c:Int),e=.returned (.tuple #[.agg #[.slice M m D,.slice X0 x0 Y0,.int .i64 z0,.slice X1 x1 Y1,.int .i64 z1,.slice X2 x2 Y2,.int .i64 z2,.int .i64 z],.int .i64 c])/\Below w.heap.size w w'/\
  ((c≠0/\[.slice M m D,.slice X0 x0 Y0,.int .i64 z0,.slice X1 x1 Y1,.int .i64 z1,.slice X2 x2 Y2,.int .i64 z2,.int .i64 z]=qp3/\z4c bs c)\/
   (c=0/\∃(A:Option Addr) (C:Nat) (t0 t1 t2:TR),[.slice M m D,.slice X0 x0 Y0,.int .i64 z0,.slice X1 x1 Y1,.int .i64 z1,.slice X2 x2 Y2,.int .i64 z2,.int .i64 z]=q0l A C (q1e (q1j bs)).1 t0 t1 t2 (q1l (q1j bs)).1/\qrg bs A C t0 t1 t2 w w'))

theorem qrg.at{bs:List Int}{A:Option Addr}{C:Nat}{t0 t1 t2:TR}{w w':World}(h:qrg bs A C t0 t1 t2 w w'):q2s w' A C (q1e (q1j bs)).1 t0 t1 t2:=by
 obtain⟨L0,L1,L2,hL⟩:=qei h.base
 obtain⟨A',C',e,hn,hl,_,hr⟩:=q0h h.own.sr
 cases e
 obtain⟨g0,e0,n0⟩:=h.own.n0
 obtain⟨g1,e1,n1⟩:=h.own.n1
 obtain⟨g2,e2,n2⟩:=h.own.n2
 have k0:=(q3c hL.a0).1
 have k1:=(q3c hL.a1).1
 have k2:=(q3c hL.a2).1
 have hs:=h.own.sn
 exact⟨hn,hl,⟨hr,by omega,h.own.se⟩,⟨by rw[e0];exact n0.nodes,q5h k0,q7r k0⟩,⟨by rw[e1];exact n1.nodes,q5h k1,q7r k1⟩,⟨by rw[e2];exact n2.nodes,q5h k2,q7r k2⟩⟩

theorem qp5(A:Option Addr)(C:Nat)(bs:List Int)(w:World)(hZ:SzAt w)(h:bs=[]\/q0n w.heap.size w A C bs)(hu:U8 bs):
  Calls Tryz.prog 8 #[.slice A bs.length C] w (z4o bs w):=by
 by_cases hs:q4b bs=0
 ·have hb:q0n w.heap.size w A C bs:=by
   rcases h with rfl|h
   ·exact absurd hs (by decide)
   ·exact h
  by_cases hc:(qcg (q1j bs)).code=0
  ·have hd:decC bs=0:=by unfold decC;rw[if_pos hs];exact hc
   obtain⟨-,hT⟩:=qwr hu hd
   obtain⟨hk,hr⟩:=qbx _ _ _ hT.p
   have hm:=hT.m
   have hn:=hT.n
   have hse:∀s∈(q1e (q1j bs)).1,s.size<=140737488351232:=fun s hs=>by have:=hT.s s hs;omega
   refine(qkb (QB (q1e (q1j bs)).1 (q1l (q1j bs)).1 (q0z (q1j bs)).1) A C bs w hb hu hs hc fun NA VA NC VC W hW hl h1 h2=>?_).mono ?_
   ·exact qoo NA VA NC VC _ _ _ W (hZ.below hW) hl ⟨h1,by omega,hse⟩ h2 (by omega) (fun x hx=>⟨(hk x hx).2.1,(hk x hx).2.2.1⟩) (fun x hx=>(hk x hx).2.2.2.1) hr
   ·rintro e w' ⟨M,m,D,X0,x0,Y0,z0,X1,x1,Y1,z1,X2,x2,Y2,z2,z,c,NA,NC,W,w7,rfl,hbw,hbW,hlt,hown,hb7,hQ,hfar⟩
    refine⟨_,_,_,_,_,_,_,_,_,_,_,_,_,_,_,_,_,rfl,hbw,?_⟩
    rcases hQ with⟨h0,hz,h7⟩|⟨rfl,t0,t1,t2,hV,hok,hB,hall,⟨g0,e0,n0⟩,⟨g1,e1,n1⟩,⟨g2,e2,n2⟩⟩
    ·refine .inl ⟨h0,hz,?_⟩
     rcases h7 with⟨k1,k2⟩|⟨k1,k2,k3⟩
     ·exact .inr (.inl ⟨hd,k1,k2⟩)
     ·exact .inr (.inr ⟨hd,k1,k2,k3⟩)
    ·refine .inr ⟨rfl,NA,NC,t0,t1,t2,hV,hd,hok,?_,hB,hall⟩
     have ho:OwnB (w.heap.size+1) w7 NA NC (q1e (q1j bs)).1 t0 t1 t2:=
      ⟨q0c hown fun k hk=>hb7.block k (hown.lt k hk).2,hse,by omega,⟨g0,e0,n0.low hlt⟩,⟨g1,e1,n1.low hlt⟩,⟨g2,e2,n2.low hlt⟩⟩
     exact ho.keep (by omega) fun k hk _=>hfar k (by omega)
  ·refine(qkq A C bs w hb hu hs hc).mono ?_
   rintro e w' ⟨rfl,hbw⟩
   exact⟨_,_,_,_,_,_,_,_,_,_,_,_,_,_,_,_,_,rfl,hbw,.inl ⟨hc,rfl,.inl ⟨by unfold decC;rw[if_pos hs];exact hc,by unfold decC;rw[if_pos hs]⟩⟩⟩
 ·refine(ql3 A C bs w h hu hs).mono ?_
  rintro e w' ⟨rfl,hbw⟩
  exact⟨_,_,_,_,_,_,_,_,_,_,_,_,_,_,_,_,_,rfl,hbw,.inl ⟨hs,rfl,.inl ⟨by unfold decC;rw[if_neg hs];exact hs,by unfold decC;rw[if_neg hs]⟩⟩⟩

end
section
open Go.RowKit Plain

theorem qud{w:World}:q2x w.heap.size (w.alloc (.cells #[.int .u8 119,.int .u8 110] 5 (2,3))) (.slice (some ⟨w.heap.size,0,none⟩) 2 2) mark:=by
 have hn:(w.alloc (.cells #[.int .u8 119,.int .u8 110] 5 (2,3))).heap[w.heap.size]? =some (.cells #[.int .u8 119,.int .u8 110] 5 (2,3)):=heap_alloc_new w _
 have hc:∀j,(w.alloc (.cells #[.int .u8 119,.int .u8 110] 5 (2,3))).cell? ⟨w.heap.size,j,none⟩=(#[Value.int .u8 119,Value.int .u8 110]:Array Value)[j]? :=fun j=>cell_of_row _ _ _ _ _ _ hn
 refine⟨w.heap.size,2,rfl,Nat.le_refl _,by simp,Nat.le_refl _,by omega,fun j hj=>⟨?_,?_⟩,fun j u hu=>?_⟩
 ·rw[hc,Array.getElem?_eq_getElem (by simpa using hj)]
  rfl
 ·unfold World.frozen?
  rw[hn]
  simp
  omega
 ·rw[hc]
  have h2:(u8s mark)[j]? =(#[Value.int .u8 119,Value.int .u8 110]:Array Value)[j]? :=by
   show([Value.int .u8 119,Value.int .u8 110]:List Value)[j]? =_
   simp
  rw[<-h2]
  exact hu

def z1c(ss:List ByteArray)(f:Int)(L:List En)(w:World)(e:Ending)(w':World):Prop:=
 Below w.heap.size w w'/\(((10000<L.length\/200000<(encB ss f L).length)/\e=.returned (.tuple #[.slice none 0 0,.int .i64 1]))\/
  (L.length<=10000/\(encB ss f L).length<=200000/\∃v,e=.returned (.tuple #[v,.int .i64 0])/\q2x w.heap.size w' v (encB ss f L)))

set_option maxRecDepth 20000 in
set_option maxHeartbeats 8000000 in
theorem qpd(A:Option Addr)(C:Nat)(ss:List ByteArray)(t0 t1 t2:TR)(f:Int)(w:World)(hZ:SzAt w)(hC:ss.length<=C)(hS:q2v w.heap.size w A ss)(h0:t0.ok w)(h1:t1.ok w)(h2:t2.ok w)
  (hb:q2o ss f (t0.ps.map PN.nd) t0.r (t1.ps.map PN.nd) t1.r (t2.ps.map PN.nd) t2.r=true):
  Calls Tryz.prog 14 #[.agg (q0l A C ss t0 t1 t2 f).toArray] w (z1c ss f (allP (t0.ps.map PN.nd) t0.r 0 1099511627776).2 w):=by
 rw[<-qb3]
 obtain⟨hT,hz⟩:=qr0 hb
 have okup:∀(t:TR) (W:World),Below w.heap.size w W->t.ok w->t.ok W:=fun t W hW ht=>⟨ht.1.up hW,ht.2.1,ht.2.2⟩
 have con:=q0f fun W (hW:Below w.heap.size w W)=>q6l A C ss t0 t1 t2 f W (hZ.below hW) hC (hS.up hW) (okup t0 W hW h0) (okup t1 W hW h1) (okup t2 W hW h2) true hb
 have conA:=q0f fun W (hW:Below w.heap.size w W)=>qkh t0.A t0.C t0.r 0 9223372036854775807 t0.ps W (okup t0 W hW h0).1 h0.2.1
 have hlen:=q4u (t0.ps.map PN.nd) t0.r 0 9223372036854775807
 obtain⟨A0,C0,p0,r0⟩:=t0
 obtain⟨A1,C1,p1,r1⟩:=t1
 obtain⟨A2,C2,p2,r2⟩:=t2
 simp only[q0l] at *
 rw[hz] at conA
 obtain⟨L,hL⟩:∃L,(allP (p0.map PN.nd) r0 0 9223372036854775807).2=L:=⟨_,rfl⟩
 rw[hL] at conA hlen hT ⊢
 have HT:=q0f hT
 have HS:=q0f hS
 clear hb okup h0 h1 h2 hz hL hT hS hZ
 unfold z1c
 obtain⟨EB,hEB⟩:∃EB,encB ss f L=EB:=⟨_,rfl⟩
 rw[hEB]
 have HEB:=q0f hEB
 clear hEB
 have b0:∀o:Obj,Below w.heap.size w (w.alloc o):=fun o=>(Below.refl _ _).alloc (Nat.le_refl _) o
 go_enter Tryz.func14,Tryz.ntmps14
 go_upto_region 7 with(first
  |(go_at_call 15;refine(con.out _ (b0 _)).mono ?_;rintro e w1 ⟨rfl,hb1⟩;have hb1':=q0e (b0 _) (Nat.le_refl _) hb1;have XB:=q0f ((q0b w [.slice A ss.length C,.slice A0 p0.length C0,.int .i64 r0,.slice A1 p1.length C1,.int .i64 r1,.slice A2 p2.length C2,.int .i64 r2,.int .i64 f] 29).below hb1 (by simp));have b:=fun j=>XB.out.cell j;have lb:=XB.out.lt)
  |(go_at_call 52;refine(conA.out _ hb1').mono ?_;rintro e w2 ⟨hb2,v2,rfl,ho2⟩;obtain⟨LA,LC,rfl,hnL,hlL,_,hrL⟩:=q0h ho2;have hb2':=q0e hb1' (Nat.le_refl _) hb2;have XC:=q0f (XB.out.below hb2 XB.out.lt);have c:=fun j=>XC.out.cell j;have lc:=XC.out.lt;clear b lb XB con conA))
 have HB2:=q0f hb2'
 have HR:=q0f hrL
 clear hb1 hb1' hb2 hb2' ho2 hrL
 by_cases hm:10000<L.length
 ·have hm':(10000:Int)<(L.length:Int):=by omega
  go_wp2_with fail
  exact bodyPost_ret (v:=.tuple #[.slice none 0 0,.int .i64 1]) (by simp[results,Tryz.results14,go_sem]) rfl ⟨HB2.out,.inl ⟨.inl hm,rfl⟩⟩
 ·have hm':¬(10000:Int)<(L.length:Int):=by omega
  obtain⟨hl1,hl2,hl3⟩:=HT.out.len (by omega)
  have hfew:=HT.out.few
  obtain⟨bx,hbx⟩:∃bx,bx=w.heap.size:=⟨_,rfl⟩
  have hbl:bx<w2.heap.size:=by rw[hbx];exact lc
  rw[<-hbx] at XC c lc
  rw[<-hbx]
  obtain⟨e1,he1⟩:∃e1,mark++q5f ss=e1:=⟨_,rfl⟩
  obtain⟨e2,he2⟩:∃e2,e1++sev f.toNat=e2:=⟨_,rfl⟩
  obtain⟨e3,he3⟩:∃e3,e2++(sev L.length++q3t 0 L)=e3:=⟨_,rfl⟩
  have hH:encH ss f L=e3:=by
   rw[<-he3,<-he2,<-he1]
   unfold encH q5r
   simp only[List.append_assoc]
  have he4:e3++q8v e3=EB:=by
   rw[<-HEB.out,encB,hH]
  have hu:U8 e3:=fun b hb=>qk0 ss f L b (by rw[HEB.out,<-he4];exact List.mem_append_left _ hb)
  have z1:e1.length<=402:=by rw[<-he1,List.length_append];have:mark.length=2:=rfl;omega
  have z2:e2.length<=411:=by rw[<-he2,List.length_append];omega
  have z3:e3.length<=1600411:=by rw[<-he3,List.length_append];omega
  have conN:Hid (∀v W,w2.heap.size<=W.heap.size->Below w2.heap.size w2 W->q2x w2.heap.size W v mark->Calls Tryz.prog 53 #[v,.slice A ss.length C] W fun e w'=>∃v',e=.returned v'/\q2x w2.heap.size w' v' e1/\Grew W w' v v'):=fun v W hW hb hv=>by
   have k:=qdj w2.heap.size v mark A C ss W hW hv (((HS.out.row.below HB2.out (Nat.le_refl _)).mono HB2.out.size).below hb (Nat.le_refl _)) (by rw[he1];omega) (by omega)
   rw[he1] at k
   exact k
  have conF:Hid (∀v W,w2.heap.size<=W.heap.size->q2x w2.heap.size W v e1->Calls Tryz.prog 54 #[v,.int .i64 f] W fun e w'=>∃v',e=.returned v'/\q2x w2.heap.size w' v' e2/\Grew W w' v v'):=fun v W hW hv=>by
   have k:=q5y w2.heap.size v e1 f W hW hv HT.out.f0 (by have:=HT.out.f1;omega) (by omega)
   rw[he2] at k
   exact k
  have conP:Hid (∀v W,w2.heap.size<=W.heap.size->Below w2.heap.size w2 W->q2x w2.heap.size W v e2->Calls Tryz.prog 55 #[v,.slice LA L.length LC] W fun e w'=>∃v',e=.returned v'/\q2x w2.heap.size w' v' e3/\Grew W w' v v'):=fun v W hW hb hv=>by
   have k:=qce w2.heap.size v e2 LA LC L W hW hv (HR.out.below hb (Nat.le_refl _)) (by rw[he3];omega) (by omega) HT.out.rise HT.out.told
   rw[he3] at k
   exact k
  have conS:Hid (∀g cap W,q0n W.heap.size W (some ⟨g,0,none⟩) cap e3->Calls Tryz.prog 56 #[.slice (some ⟨g,0,none⟩) e3.length cap] W fun e w'=>∃g,e=.returned (.slice (some ⟨g,0,none⟩) 4 4)/\W.heap.size<=g/\RowL w' g 5 (u8s (q8v e3))/\Below W.heap.size W w'):=fun g cap W h=>qlk _ _ _ _ h hu
  have HE4:=q0f he4
  clear hbx hH hu he1 he2 he3 he4 hl1 hl2 hl3
  have kc:=fun(C':Array Value) (n c:Nat)=>Lib.run_convert_bytes_const (P:=Tryz.prog) w2 22 5 C' n c Tryz.underlying22 (by kernel_rfl)
  go_upto_region 10 with fail
  have HM:Hid (q2x w2.heap.size (w2.alloc (.cells #[.int .u8 119,.int .u8 110] 5 (2,3))) (.slice (some ⟨w2.heap.size,0,none⟩) 2 2) mark):=qud
  have HW:Hid (Below w2.heap.size w2 (w2.alloc (.cells #[.int .u8 119,.int .u8 110] 5 (2,3)))):=(Below.refl _ _).alloc (Nat.le_refl _) _
  obtain⟨wm,hwm⟩:∃wm,wm=w2.alloc (.cells #[.int .u8 119,.int .u8 110] 5 (2,3)):=⟨_,rfl⟩
  obtain⟨vm,hvm⟩:∃vm,vm=Value.slice (some ⟨w2.heap.size,0,none⟩) 2 2:=⟨_,rfl⟩
  rw[<-hwm] at HM HW ⊢
  rw[<-hvm] at HM ⊢
  have XD:=q0f (XC.out.below HW.out hbl)
  have d:=fun j=>XD.out.cell j
  have ld:=XD.out.lt
  clear hwm hvm c lc kc
  have P0:True:=trivial
  go_upto_region 14 with(first
   |(go_at_call 53;refine(conN.out vm wm HW.out.size HW.out HM.out).mono ?_;rintro e w3 ⟨v3,rfl,hbuf3,hg3⟩;have hb3:=hg3.below HM.out;have HW3:=q0f (HW.out.trans hb3);have X3:=q0f (XD.out.below hb3 hbl);have d3:=fun j=>X3.out.cell j;have ld3:=X3.out.lt;clear d ld XD conN)
   |(go_at_call 54;refine(conF.out v3 w3 HW3.out.size hbuf3).mono ?_;rintro e w4 ⟨v4,rfl,hbuf4,hg4⟩;have hb4:=hg4.below hbuf3;have HW4:=q0f (HW3.out.trans hb4);clear d3 ld3 X3 conF)
   |(go_at_call 55;refine(conP.out v4 w4 HW4.out.size HW4.out hbuf4).mono ?_;rintro e w5 ⟨v5,rfl,hbuf5,hg5⟩;have hb5:=hg5.below hbuf4;have HW5:=q0f (HW4.out.trans hb5);obtain⟨g5,cap5,hv5,hby5⟩:=hbuf5.bytes;have HF5:=q0f hbuf5;clear hbuf5;subst hv5)
   |(go_at_call 56;refine(conS.out g5 cap5 w5 hby5).mono ?_;rintro e w6 ⟨g6,rfl,hg6,hrow6,hb6⟩;have HF6:=q0f (HF5.out.below hb6);have HW6:=q0f (HW5.out.trans (hb6.mono HW5.out.size)))
   |(at_builtin;refine q3z rfl _ _ 22 rfl w2.heap.size _ _ e3 (q8v e3) rfl HF6.out rfl (qxv hrow6 rfl 4) HW6.out.size (by rw[qsc];omega) ?_;intro v7 w7 hbuf7 hg7))
  have hb7:=hg7.below HF6.out
  rw[HE4.out] at hbuf7
  have HW7:=q0f (q0e HB2.out (Nat.le_refl _) (HW6.out.trans hb7))
  obtain⟨g7,cap7,hv7,hr7⟩:=hbuf7
  have HR7:=q0f hr7
  subst hv7
  by_cases hq:200000<EB.length
  ·have hq':(200000:Int)<(EB.length:Int):=by omega
   go_wp2_with fail
   exact bodyPost_ret (v:=.tuple #[.slice none 0 0,.int .i64 1]) (by simp[results,Tryz.results14,go_sem]) rfl ⟨HW7.out,.inl ⟨.inr hq,rfl⟩⟩
  ·have hq':¬(200000:Int)<(EB.length:Int):=by omega
   go_wp2_with fail
   refine bodyPost_ret (v:=.tuple #[.slice (some ⟨g7,0,none⟩) EB.length cap7,.int .i64 0]) (by simp[results,Tryz.results14,go_sem]) rfl ⟨HW7.out,by omega,by omega,_,rfl,g7,cap7,rfl,?_⟩
   exact⟨Nat.le_trans HB2.out.size HR7.out.1,HR7.out.2⟩

end
section
open Go.RowKit Plain Go.Shelf

section
variable {A : Option Addr} {C : Nat} {ss : List ByteArray} {t0 t1 t2 : TR} {f : Int} {L : List En} {w : World}

def DkTo(ss:List ByteArray)(f:Int)(L:List En)(w:World)(e:Ending)(w':World):Prop:=
 ∃(A:Option Addr) (C:Nat) (t0 t1 t2:TR),e=.returned (.tuple #[.agg (q0l A C ss t0 t1 t2 f).toArray,.int .i64 0])/\q2s w' A C ss t0 t1 t2/\q2o ss f (t0.ps.map PN.nd) t0.r (t1.ps.map PN.nd) t1.r (t2.ps.map PN.nd) t2.r=true/\allP (t0.ps.map PN.nd) t0.r 0 1099511627776=(0,L)/\OwnB w.heap.size w' A C ss t0 t1 t2/\Below w.heap.size w w'

theorem z2a(hZ:SzAt w)(h:q0n w.heap.size w A C (encB ss f L))(hT:qjt ss f L)(hl:(encB ss f L).length<=200000)(hok:q9x ss f L=true)(hn:L.length<=2900):
  Calls Tryz.prog 8 #[.slice A (encB ss f L).length C] w (DkTo ss f L w):=by
 obtain⟨d0,d1,d2,d3⟩:=qzj hT hl
 refine(qp5 A C _ w hZ (.inr h) (qk0 ss f L)).mono ?_
 rintro e w' ⟨M,m,D,X0,x0,Y0,z0,X1,x1,Y1,z1,X2,x2,Y2,z2,z,c,rfl,hbw,⟨h0,_,hno⟩|⟨rfl,A',C',u0,u1,u2,hV,hY⟩⟩
 ·exfalso
  rcases hno with⟨k,_⟩|⟨_,k,_⟩|⟨_,_,k,_⟩
  ·exact k d0
  ·rw[d1,d2,d3,hok] at k
   cases k
  ·rw[d3] at k
   omega
 ·have ha:=hY.at
  have hb:=hY.base
  have hl':=hY.all
  have ho:=hY.own
  rw[d1,d2] at hV
  rw[d1] at ha ho
  rw[d1,d2] at hb
  rw[d3] at hl'
  refine⟨A',C',u0,u1,u2,?_,ha,hb,hl',ho,hbw⟩
  rw[<-hV]

end

end
section
open Go.RowKit Plain Go.Shelf

structure Mc where
 ss:List ByteArray
 f:Int
 pts:List Pt

def mc0:Mc:=⟨[],0,[]⟩

structure An where
 c:Int
 r:Ru
 R:List En

def putM(m:Mc)(s:ByteArray)(t v:Int):Mc × Int:=
 if ptC s t v m.f=0 then(if 16<(q2j m.ss s).length then(m,1) else(⟨q2j m.ss s,m.f,m.pts++[⟨s,t,v⟩]⟩,0)) else(m,ptC s t v m.f)

def expM(m:Mc)(t:Int):Mc × Int:=if q6m m.f t=0 then(⟨m.ss,t,qsv t m.pts⟩,0) else(m,q6m m.f t)

def sumM(m:Mc)(x:ByteArray)(a b:Int):Ru × Int:=
 if Lib.idxOfS m.ss x<0 then(zro,6) else if q5s a b=true then(sumR (qi0 x a b m.pts),0) else(zro,2)

def bkL(m:Mc)(sz:Int):List En:=(allL (m.pts.map (ptBk m.ss sz))).getD []

def askM(m:Mc)(x:ByteArray)(sz a b:Int):List En × Int:=
 if Lib.idxOfS m.ss x<0 then([],6) else if sz=1\/sz=60\/sz=3600 then(if q5s a b=true then(((bkL m sz).filter (selB (Lib.idxOfS m.ss x) a b)).map rowE,0) else([],2)) else([],3)

def actM(m s:Mc)(a:Ac):Mc × Mc × An:=
 if a.k=1 then((putM m a.s a.t a.v).1,s,⟨(putM m a.s a.t a.v).2,zro,[]⟩)
 else if a.k=2 then(m,s,⟨(askM m a.s a.n a.t a.z).2,zro,(askM m a.s a.n a.t a.z).1⟩)
 else if a.k=3 then(m,s,⟨(sumM m a.s a.t a.z).2,(sumM m a.s a.t a.z).1,[]⟩)
 else if a.k=4 then((expM m a.t).1,s,⟨(expM m a.t).2,zro,[]⟩)
 else if a.k=5 then(m,m,⟨0,zro,[]⟩)
 else if a.k=6 then(s,s,⟨0,zro,[]⟩)
 else(m,s,⟨3,zro,[]⟩)

def runM:Mc->Mc->List Ac->Mc × Mc × List An
 |m,s,[]=>(m,s,[])
 |m,s,a::r=>((runM (actM m s a).1 (actM m s a).2.1 r).1,(runM (actM m s a).1 (actM m s a).2.1 r).2.1,(actM m s a).2.2::(runM (actM m s a).1 (actM m s a).2.1 r).2.2)

theorem qgg:∀(l r:List Ac) (m s:Mc),runM m s (l++r)=((runM (runM m s l).1 (runM m s l).2.1 r).1,(runM (runM m s l).1 (runM m s l).2.1 r).2.1,(runM m s l).2.2++(runM (runM m s l).1 (runM m s l).2.1 r).2.2)
 |[],_,_,_=>rfl
 |a::l,r,m,s=>by
  simp only[List.cons_append,runM]
  rw[qgg l r]

theorem qgt:∀(l:List Ac) (m s:Mc),(runM m s l).2.2.length=l.length
 |[],_,_=>rfl
 |a::l,m,s=>by
  simp only[runM,List.length_cons,qgt l]

theorem qz0(m:Mc)(s:ByteArray)(t v:Int):(putM m s t v).1.pts.length<=m.pts.length+1:=by
 unfold putM
 split
 ·split
  ·simp
  ·simp
 ·simp

theorem qza(m:Mc)(t:Int):(expM m t).1.pts.length<=m.pts.length:=by
 unfold expM
 split
 ·exact List.length_filter_le _ _
 ·exact Nat.le_refl _

theorem qpp{m s:Mc}{n:Nat}(a:Ac)(hm:m.pts.length<=n)(hs:s.pts.length<=n):(actM m s a).1.pts.length<=n+1/\(actM m s a).2.1.pts.length<=n+1:=by
 have h1:=qz0 m a.s a.t a.v
 have h2:=qza m a.t
 unfold actM
 repeat' split
 all_goals
  constructor
  all_goals
   simp only
   omega

def RowB(B:Nat)(w:World)(A:Option Addr)(vs:List Value):Prop:=
 vs=[]\/∃b o,A=some ⟨b,o,none⟩/\B<=b/\b<w.heap.size/\∀j u,vs[j]? =some u->w.cell? ⟨b,o+j,none⟩=some u

theorem qvp{w:World}{base:Nat}{e:TypeId}{size n:Nat}{v:Value}{vs:List Value}(h:w.ownsRow base e size v n vs):
  ∃A C,v=.slice A n C/\n<=C/\C<=maxLen/\RowB base w A vs:=by
 rcases h.2 with⟨hv,hn⟩|⟨g,cap,cur,hv,hb,hg,hl,hm,hs,ht⟩
 ·subst hv hn
  refine⟨none,0,rfl,Nat.le_refl _,Nat.zero_le _,.inl ?_⟩
  have:=h.1
  simpa using this
 ·subst hv
  refine⟨some ⟨g,0,none⟩,cap,rfl,hl,hm,.inr ⟨g,0,rfl,hb,(Array.getElem?_eq_some_iff.1 hg).1,fun j u hu=>?_⟩⟩
  have hj:j<n*size:=by
   have:=(List.getElem?_eq_some_iff.1 hu).1
   rw[h.1] at this
   exact this
  rw[Nat.zero_add,h.cellAt j hj]
  exact hu

def BcTo(m:Mc)(c:Int)(w:World)(e:Ending)(w':World):Prop:=
 ∃(A:Option Addr) (C:Nat) (ss:List ByteArray) (t0 t1 t2:TR) (f:Int),e=.returned (.tuple #[.agg (q0l A C ss t0 t1 t2 f).toArray,.int .i64 c])/\Below w.heap.size w w'/\(c=0->ss=m.ss/\f=m.f/\OwnB w.heap.size w' A C ss t0 t1 t2/\KB ss f t0 t1 t2 m.pts)

theorem qxu{m:Mc}{c:Int}{w w':World}{e:Ending}(hc:c≠0)(he:e=.returned (q2a c))(hb:Below w.heap.size w w'):BcTo m c w e w':=
 ⟨none,0,[],⟨none,0,[],0⟩,⟨none,0,[],0⟩,⟨none,0,[],0⟩,0,he,hb,fun h=>absurd h hc⟩

theorem qx0{m:Mc}{w w':World}{e:Ending}(h:qxw m.ss m.f m.pts w e w'):BcTo m 0 w e w':=by
 obtain⟨A,C,t0,t1,t2,he,ho,hk,hb⟩:=h
 exact⟨A,C,m.ss,t0,t1,t2,m.f,he,hb,fun _=>⟨rfl,rfl,ho,hk⟩⟩

section
variable {A : Option Addr} {C : Nat} {t0 t1 t2 : TR} {m : Mc} {w : World}

theorem qy3(hZ:SzAt w)(hB:q2s w A C m.ss t0 t1 t2)(hK:KB m.ss m.f t0 t1 t2 m.pts){s:ByteArray}{t v:Int}(hs:s.size<=140737488351232)(hn:m.pts.length<=900):
  Calls Tryz.prog 49 #[.agg (q0l A C m.ss t0 t1 t2 m.f).toArray,.agg #[.string s,.int .i64 t,.int .i64 v]] w (BcTo (putM m s t v).1 (putM m s t v).2 w):=by
 unfold putM
 by_cases hc:ptC s t v m.f=0
 ·rw[if_pos hc]
  by_cases hl:16<(q2j m.ss s).length
  ·rw[if_pos hl]
   obtain⟨L0,L1,L2,k⟩:=hK
   refine(qgc A C m.ss t0 t1 t2 m.f s t v w hZ hB.len hB.st hs hB.o0 hB.o1 hB.o2).mono ?_
   rintro e w' ⟨hb,h⟩
   rcases h with⟨d,_,hno,rfl⟩|⟨A',C',u0,u1,u2,K0,K1,K2,M0,M1,M2,hy,_⟩
   ·rcases hno with⟨h1,_⟩|⟨_,h1,_⟩|⟨_,_,rfl,_⟩
    ·rw[k.ok] at h1;cases h1
    ·exact absurd hc h1
    ·exact qxu (c:=1) (by decide) rfl hb
   ·have:=hy.few
    omega
  ·rw[if_neg hl]
   exact(qym hZ hB hK hs hc (by omega) hn).mono fun e w' h=>qx0 (m:=⟨q2j m.ss s,m.f,m.pts++[⟨s,t,v⟩]⟩) h
 ·rw[if_neg hc]
  exact(z0b hZ hB hK hs rfl hc).mono fun e w' h=>qxu hc h.1 h.2

theorem qyp(hZ:SzAt w)(hB:q2s w A C m.ss t0 t1 t2)(hK:KB m.ss m.f t0 t1 t2 m.pts){t:Int}(hn:m.pts.length<=2900):
  Calls Tryz.prog 118 #[.agg (q0l A C m.ss t0 t1 t2 m.f).toArray,.int .i64 t] w (BcTo (expM m t).1 (expM m t).2 w):=by
 unfold expM
 by_cases hc:q6m m.f t=0
 ·rw[if_pos hc]
  exact(qyl hZ hB hK hc hn).mono fun e w' h=>qx0 (m:=⟨m.ss,t,qsv t m.pts⟩) h
 ·rw[if_neg hc]
  exact(qzq hZ hB hK rfl hc).mono fun e w' h=>qxu hc h.1 h.2

theorem qvu(hZ:SzAt w)(hB:q2s w A C m.ss t0 t1 t2)(hK:KB m.ss m.f t0 t1 t2 m.pts){x:ByteArray}{a b:Int}(hn:m.pts.length<=100000):
  Calls Tryz.prog 17 #[.agg (q0l A C m.ss t0 t1 t2 m.f).toArray,.string x,.int .i64 a,.int .i64 b] w (MaTo (sumM m x a b) w):=by
 unfold sumM
 by_cases hx:Lib.idxOfS m.ss x<0
 ·rw[if_pos hx]
  exact qv0 hZ hB hK hx
 ·rw[if_neg hx]
  by_cases hs:q5s a b=true
  ·rw[if_pos hs]
   exact qvd hZ hB hK (by omega) hs hn
  ·rw[if_neg hs]
   exact qui hZ hB hK (by omega) (by simpa using hs)

def RwTo(r:List En × Int)(w:World)(e:Ending)(w':World):Prop:=
 Below w.heap.size w w'/\∃(A:Option Addr) (C:Nat),e=.returned (.tuple #[.slice A r.1.length C,.int .i64 r.2])/\r.1.length<=C/\RowB w.heap.size w' A (q0d r.1)

theorem qqy{c:Int}{w w':World}{e:Ending}(h:e=.returned (.tuple #[.slice none 0 0,.int .i64 c])/\Below w.heap.size w w'):RwTo ([],c) w e w':=
 ⟨h.2,none,0,h.1,Nat.le_refl _,.inl rfl⟩

theorem qs9{L M R:List En}{x:ByteArray}{ss:List ByteArray}{sz a b:Int}{pts:List Pt}{w w':World}{e:Ending}(h:allL (pts.map (ptBk ss sz))=some L)(hM:L.filter (selB (Lib.idxOfS ss x) a b)=M)(hr:qmf M w e w')(hR:((allL (pts.map (ptBk ss sz))).getD [] |>.filter (selB (Lib.idxOfS ss x) a b)).map rowE=R):RwTo (R,0) w e w':=by
 obtain⟨hb,v,rfl,ho⟩:=hr
 obtain⟨A,C,rfl,hl,-,hrow⟩:=qvp ho
 rw[h] at hR
 simp only[Option.getD_some] at hR
 rw[hM] at hR
 subst hR
 exact⟨hb,A,C,by rw[List.length_map],by rw[List.length_map];exact hl,hrow⟩

theorem z0d(hZ:SzAt w)(hB:q2s w A C m.ss t0 t1 t2)(hK:KB m.ss m.f t0 t1 t2 m.pts){x:ByteArray}{sz a b:Int}(hn:m.pts.length<=500):
  Calls Tryz.prog 117 #[.agg (q0l A C m.ss t0 t1 t2 m.f).toArray,.string x,.int .i64 sz,.int .i64 a,.int .i64 b] w (RwTo (askM m x sz a b) w):=by
 unfold askM
 by_cases hx:Lib.idxOfS m.ss x<0
 ·rw[if_pos hx]
  exact(qys hZ hB hK hx).mono fun e w' h=>qqy h
 ·rw[if_neg hx]
  by_cases hs:sz=1\/sz=60\/sz=3600
  ·rw[if_pos hs]
   by_cases hsp:q5s a b=true
   ·rw[if_pos hsp]
    have hx0:0<=Lib.idxOfS m.ss x:=by omega
    obtain⟨L0,L1,L2,k⟩:=hK
    obtain⟨l0,l1,l2⟩:=k.few
    have f0:=q1d (ns:=t0.ps.map PN.nd) (r:=t0.r) (low:=0) (high:=1099511627776)
    have f1:=q1d (ns:=t1.ps.map PN.nd) (r:=t1.r) (low:=0) (high:=1099511627776)
    have f2:=q1d (ns:=t2.ps.map PN.nd) (r:=t2.r) (low:=0) (high:=1099511627776)
    rw[k.lst.a0] at f0
    rw[k.lst.a1] at f1
    rw[k.lst.a2] at f2
    have hp2:=qww (p:=Lib.idxOfS m.ss x) rfl k.lst.few
    have fl:∀L:List En,(L.filter (selB (Lib.idxOfS m.ss x) a b)).length<=L.length:=fun L=>List.length_filter_le _ _
    have q0:=fl L0
    have q1:=fl L1
    have q2:=fl L2
    have hab:0<=a/\a<=b/\b<=1048575:=by
     unfold q5s at hsp
     simpa [Bool.and_eq_true] using hsp
    rcases hs with rfl|rfl|rfl
    ·exact(qvw A C m.ss t0 t1 t2 m.f x a b _ _ w hZ hB.len hB.st hB.o0 hB.o1 hB.o2 k.ok rfl hx0 hp2 hab.1 hab.2.1 hab.2.2 L0 k.lst.a0 rfl (fun y hy=>f0.2.2 y (List.mem_filter.1 hy).1) (by omega)).mono fun e w' h=>qs9 (k.rolled k.lst.p0) rfl h rfl
    ·exact(qvf A C m.ss t0 t1 t2 m.f x a b _ _ w hZ hB.len hB.st hB.o0 hB.o1 hB.o2 k.ok rfl hx0 hp2 hab.1 hab.2.1 hab.2.2 L1 k.lst.a1 rfl (fun y hy=>f1.2.2 y (List.mem_filter.1 hy).1) (by omega)).mono fun e w' h=>qs9 (k.rolled k.lst.p1) rfl h rfl
    ·exact(qwb A C m.ss t0 t1 t2 m.f x a b _ _ w hZ hB.len hB.st hB.o0 hB.o1 hB.o2 k.ok rfl hx0 hp2 hab.1 hab.2.1 hab.2.2 L2 k.lst.a2 rfl (fun y hy=>f2.2.2 y (List.mem_filter.1 hy).1) (by omega)).mono fun e w' h=>qs9 (k.rolled k.lst.p2) rfl h rfl
   ·rw[if_neg hsp]
    have hsp':q5s a b=false:=by simpa using hsp
    have con:=qdx hZ hB hK (x:=x) rfl (by omega)
    rcases hs with rfl|rfl|rfl
    ·exact(qno A C m.ss t0 t1 t2 m.f x a b w _ hZ hsp' con).mono fun e w' h=>qqy h
    ·exact(qo2 A C m.ss t0 t1 t2 m.f x a b w _ hZ hsp' con).mono fun e w' h=>qqy h
    ·exact(qpe A C m.ss t0 t1 t2 m.f x a b w _ hZ hsp' con).mono fun e w' h=>qqy h
  ·rw[if_neg hs]
   exact(qzh hZ hB hK (by omega) hs).mono fun e w' h=>qqy h

structure KpY(m:Mc)(L:List En):Prop where
 all:allL (m.pts.map (ptIn m.ss))=some L
 tell:qjt m.ss m.f L
 len:(encB m.ss m.f L).length<=200000
 ok:q9x m.ss m.f L=true
 few:L.length<=2900
 pt:∀p∈m.pts,p.s∈m.ss/\p.ok m.f

def EnTo(m:Mc)(w:World)(e:Ending)(w':World):Prop:=
 Below w.heap.size w w'/\∃v L,e=.returned (.tuple #[v,.int .i64 0])/\q2x w.heap.size w' v (encB m.ss m.f L)/\KpY m L

theorem z4i(hK:KB m.ss m.f t0 t1 t2 m.pts)(hn:m.pts.length<=1000):∃L,KpY m L/\allP (t0.ps.map PN.nd) t0.r 0 1099511627776=(0,L):=by
 obtain⟨L0,L1,L2,k⟩:=hK
 obtain⟨l0,-,-⟩:=k.few
 obtain⟨hT,-⟩:=qr0 k.ok
 rw[qb3,k.lst.a0] at hT
 exact⟨L0,⟨k.all,qte k.ok k.lst (by omega),qyz hT (by show L0.length<=1000;omega),qwm k.ok k.lst,by omega,k.pt⟩,k.lst.a0⟩

theorem qtb(hZ:SzAt w)(hB:q2s w A C m.ss t0 t1 t2)(hK:KB m.ss m.f t0 t1 t2 m.pts)(hn:m.pts.length<=1000):
  Calls Tryz.prog 14 #[.agg (q0l A C m.ss t0 t1 t2 m.f).toArray] w (EnTo m w):=by
 obtain⟨L,hL,ha⟩:=z4i hK hn
 obtain⟨L0,L1,L2,k⟩:=hK
 refine(qpd A C m.ss t0 t1 t2 m.f w hZ hB.len hB.st hB.o0 hB.o1 hB.o2 k.ok).mono ?_
 rw[ha]
 rintro e w' ⟨hbw,⟨h1,_⟩|⟨_,_,v,rfl,hv⟩⟩
 ·exfalso
  have h2:=hL.few
  have h3:=hL.len
  simp only at h1
  omega
 ·exact⟨hbw,v,L,rfl,hv,hL⟩

theorem z0p{L:List En}(hZ:SzAt w)(h:q0n w.heap.size w A C (encB m.ss m.f L))(hL:KpY m L):
  Calls Tryz.prog 8 #[.slice A (encB m.ss m.f L).length C] w (BcTo m 0 w):=by
 refine(z2a hZ h hL.tell hL.len hL.ok hL.few).mono ?_
 rintro e w' ⟨A',C',u0,u1,u2,rfl,_,hb,ha,ho,hbw⟩
 obtain⟨J0,J1,J2,hJ⟩:=qei hb
 obtain rfl:J0=L:=(Prod.mk.inj (hJ.a0.symm.trans ha)).2
 exact⟨A',C',m.ss,u0,u1,u2,m.f,rfl,hbw,fun _=>⟨rfl,rfl,ho,_,J1,J2,hb,hJ,hL.all,hL.pt⟩⟩
end

end
section
open Go.RowKit Plain Go.Shelf

def AwX(X:Nat->Prop)(w:World)(A:Option Addr)(C:Nat)(ss:List ByteArray)(t0 t1 t2:TR):Prop:=
 ∃(B:Nat) (w0:World),OwnB B w0 A C ss t0 t1 t2/\w0.heap.size<=w.heap.size/\(∀k,B<=k->k<w0.heap.size->w.heap[k]? =w0.heap[k]?)/\∀k,B<=k->k<w0.heap.size->¬X k

def KpX(X:Nat->Prop)(w:World)(s:Mc)(K:Value):Prop:=
 (K=.slice none 0 0/\s=mc0)\/∃(L:List En) (g cap:Nat),K=.slice (some ⟨g,0,none⟩) (encB s.ss s.f L).length cap/\q2x g w K (encB s.ss s.f L)/\¬X g/\KpY s L

def RowX(X:Nat->Prop)(w:World)(A:Option Addr)(vs:List Value):Prop:=
 vs=[]\/∃b o,A=some ⟨b,o,none⟩/\b<w.heap.size/\¬X b/\∀j u,vs[j]? =some u->w.cell? ⟨b,o+j,none⟩=some u

structure q5w(X:Nat->Prop)(w w':World):Prop where
 size:w.heap.size<=w'.heap.size
 block:∀k,k<w.heap.size->¬X k->w'.heap[k]? =w.heap[k]?

section
variable {X Y : Nat -> Prop} {w w' : World} {A : Option Addr} {C : Nat} {ss : List ByteArray} {t0 t1 t2 : TR} {f : Int} {pts : List Pt} {s : Mc} {K : Value} {vs : List Value}

theorem q5w.of_below(h:Below w.heap.size w w'):q5w X w w':=⟨h.size,fun k hk _=>h.block k hk⟩
theorem q5w.of_kept{ex:List Nat}(h:Kept ex w w')(hx:∀k∈ex,X k):q5w X w w':=⟨h.size,fun k hk hn=>h.block k hk fun e=>hn (hx k e)⟩

theorem AwX.keep(h:AwX X w A C ss t0 t1 t2)(hk:q5w X w w'):AwX X w' A C ss t0 t1 t2:=by
 obtain⟨B,w0,h1,h2,h3,h4⟩:=h
 exact⟨B,w0,h1,Nat.le_trans h2 hk.size,fun k q1 q2=>(hk.block k (by omega) (h4 k q1 q2)).trans (h3 k q1 q2),h4⟩

theorem AwX.more(h:AwX X w A C ss t0 t1 t2)(hY:∀k,Y k->X k\/w.heap.size<=k):AwX Y w A C ss t0 t1 t2:=by
 obtain⟨B,w0,h1,h2,h3,h4⟩:=h
 refine⟨B,w0,h1,h2,h3,fun k q1 q2 hk=>?_⟩
 rcases hY k hk with h|h
 ·exact h4 k q1 q2 h
 ·omega

theorem AwX.new{B:Nat}(h:OwnB B w A C ss t0 t1 t2)(hX:∀k,X k->k<B):AwX X w A C ss t0 t1 t2:=
 ⟨B,w,h,Nat.le_refl _,fun _ _ _=>rfl,fun k q1 _ hk=>by have:=hX k hk;omega⟩

theorem AwX.at(h:AwX X w A C ss t0 t1 t2)(hk:KB ss f t0 t1 t2 pts):q2s w A C ss t0 t1 t2:=by
 obtain⟨B,w0,h1,h2,h3,h4⟩:=h
 exact(h1.keep (Nat.le_refl _) h3).at hk

theorem KpX.keep(h:KpX X w s K)(hk:q5w X w w'):KpX X w' s K:=by
 rcases h with h|⟨L,g,cap,h1,h2,h3,h4⟩
 ·exact .inl h
 ·subst h1
  refine .inr ⟨L,g,cap,rfl,?_,h3,h4⟩
  obtain⟨g',cap',hv,hB,hg,r1,r2,r3,r4⟩:=h2
  cases hv
  have e:=hk.block g hg h3
  refine⟨g,cap,rfl,Nat.le_refl _,Nat.lt_of_lt_of_le hg hk.size,r1,r2,fun j hj=>?_,fun j u hu=>(World.cell?_of_block (a:=⟨g,j,none⟩) e).trans (r4 j u hu)⟩
  rw[World.cell?_of_block (a:=⟨g,j,none⟩) e,World.frozen?_of_block (a:=⟨g,j,none⟩) e]
  exact r3 j hj

theorem KpX.more(h:KpX X w s K)(hY:∀k,Y k->X k\/w.heap.size<=k):KpX Y w s K:=by
 rcases h with h|⟨L,g,cap,h1,h2,h3,h4⟩
 ·exact .inl h
 ·refine .inr ⟨L,g,cap,h1,h2,fun hg=>?_,h4⟩
  rcases hY g hg with h|h
  ·exact h3 h
  ·subst h1
   obtain⟨g',cap',hv,hB,hg',_⟩:=h2
   cases hv
   omega

theorem KpX.new{B:Nat}{L:List En}(h:q2x B w K (encB s.ss s.f L))(hL:KpY s L)(hX:∀k,X k->k<B):KpX X w s K:=by
 obtain⟨g,cap,hv,hB,hg,rest⟩:=h
 subst hv
 exact .inr ⟨L,g,cap,rfl,⟨g,cap,rfl,Nat.le_refl _,hg,rest⟩,fun hk=>by have:=hX g hk;omega,hL⟩

theorem RowX.keep(h:RowX X w A vs)(hk:q5w X w w'):RowX X w' A vs:=by
 rcases h with h|⟨b,o,h1,h2,h3,h4⟩
 ·exact .inl h
 ·exact .inr ⟨b,o,h1,Nat.lt_of_lt_of_le h2 hk.size,h3,fun j u hu=>(World.cell?_of_block (a:=⟨b,o+j,none⟩) (hk.block b h2 h3)).trans (h4 j u hu)⟩

theorem RowX.more(h:RowX X w A vs)(hY:∀k,Y k->X k\/w.heap.size<=k):RowX Y w A vs:=by
 rcases h with h|⟨b,o,h1,h2,h3,h4⟩
 ·exact .inl h
 ·refine .inr ⟨b,o,h1,h2,fun hb=>?_,h4⟩
  rcases hY b hb with h|h
  ·exact h3 h
  ·omega

theorem RowX.new{B:Nat}(h:RowB B w A vs)(hX:∀k,X k->k<B):RowX X w A vs:=by
 rcases h with h|⟨b,o,h1,h2,h3,h4⟩
 ·exact .inl h
 ·exact .inr ⟨b,o,h1,h3,fun hk=>by have:=hX b hk;omega,h4⟩

theorem RowX.row(h:RowX X w A vs):q0j w.heap.size w A vs:=by
 rcases h with h|⟨b,o,h1,h2,_,h4⟩
 ·exact .inl h
 ·exact .inr ⟨b,o,h1,h2,h4⟩
end

structure StAt(X:Nat->Prop)(w:World)(sb:Nat)(m s:Mc)(A:Option Addr)(C:Nat)(t0 t1 t2:TR)(K:Value):Prop where
 box:RowL w sb 123 (q0l A C m.ss t0 t1 t2 m.f++[K])
 aw:AwX X w A C m.ss t0 t1 t2
 kb:KB m.ss m.f t0 t1 t2 m.pts
 kp:KpX X w s K

def StX(X:Nat->Prop)(w:World)(sb:Nat)(m s:Mc):Prop:=∃A C t0 t1 t2 K,StAt X w sb m s A C t0 t1 t2 K

section
variable {X Y : Nat -> Prop} {w w' : World} {sb : Nat} {m s : Mc} {A : Option Addr} {C : Nat} {t0 t1 t2 : TR} {K : Value}

theorem StAt.at(h:StAt X w sb m s A C t0 t1 t2 K):q2s w A C m.ss t0 t1 t2:=h.aw.at h.kb

theorem StAt.keep(h:StAt X w sb m s A C t0 t1 t2 K)(hk:q5w X w w')(hb:w'.heap[sb]? =w.heap[sb]?):StAt X w' sb m s A C t0 t1 t2 K:=
 ⟨h.box.of_block hb,h.aw.keep hk,h.kb,h.kp.keep hk⟩

theorem StAt.next(h:StAt X w sb m s A C t0 t1 t2 K)(hb:Below w.heap.size w w'):StAt X w' sb m s A C t0 t1 t2 K:=
 h.keep (.of_below hb) (hb.block _ h.box.lt)

theorem StAt.more(h:StAt X w sb m s A C t0 t1 t2 K)(hY:∀k,Y k->X k\/w.heap.size<=k):StAt Y w sb m s A C t0 t1 t2 K:=
 ⟨h.box,h.aw.more hY,h.kb,h.kp.more hY⟩

theorem StX.next(h:StX X w sb m s)(hb:Below w.heap.size w w'):StX X w' sb m s:=by
 obtain⟨A,C,t0,t1,t2,K,h⟩:=h
 exact⟨A,C,t0,t1,t2,K,h.next hb⟩

theorem StX.keep(h:StX X w sb m s)(hk:q5w X w w')(hb:w'.heap[sb]? =w.heap[sb]?):StX X w' sb m s:=by
 obtain⟨A,C,t0,t1,t2,K,h⟩:=h
 exact⟨A,C,t0,t1,t2,K,h.keep hk hb⟩

theorem StX.more(h:StX X w sb m s)(hY:∀k,Y k->X k\/w.heap.size<=k):StX Y w sb m s:=by
 obtain⟨A,C,t0,t1,t2,K,h⟩:=h
 exact⟨A,C,t0,t1,t2,K,h.more hY⟩

theorem qds(w:World)(b:Nat)(x0 x1 x2 x3 x4 x5 x6 x7:Value):(set8 w b x0 x1 x2 x3 x4 x5 x6 x7).heap.size=w.heap.size:=by simp[set8]

end

structure AnV where
 a:An
 A:Option Addr
 C:Nat

def AnV.vals(v:AnV):List Value:=[.int .i64 v.a.c,.int .i64 v.a.r.c,.int .i64 v.a.r.s,.int .i64 v.a.r.lo,.int .i64 v.a.r.hi,.int .i64 v.a.r.t,.int .i64 v.a.r.l,.slice v.A v.a.R.length v.C]
def q7f:List AnV->List Value
 |[]=>[]
 |x::r=>x.vals++q7f r

theorem q9g:∀xs:List AnV,(q7f xs).length=xs.length*8
 |[]=>rfl
 |x::r=>by simp[q7f,AnV.vals,q9g r];omega

theorem qca:∀xs ys:List AnV,q7f (xs++ys)=q7f xs++q7f ys
 |[],_=>rfl
 |x::r,ys=>by simp[q7f,qca r ys]

theorem qt1(xs:List AnV):∀u∈q7f xs,u.oneCell'=true:=by
 induction xs with
 |nil=>simp[q7f]
 |cons x r ih=>
  intro u hu
  simp only[q7f,AnV.vals,List.cons_append,List.nil_append,List.mem_cons] at hu
  rcases hu with h|h|h|h|h|h|h|h|h
  all_goals first|(subst h;rfl)|exact ih u h

theorem qqs(xs:List AnV)(k j:Nat)(hk:k<xs.length)(hj:j<8):(q7f xs)[k*8+j]? =(xs[k]).vals[j]? :=by
 induction xs generalizing k with
 |nil=>simp at hk
 |cons x r ih=>
  cases k with
  |zero=>simp only[q7f];rw[List.getElem?_append_left (by simp[AnV.vals];omega)];simp
  |succ k=>
   simp only[q7f]
   rw[List.getElem?_append_right (by simp[AnV.vals];omega)]
   have:=ih k (by simpa using hk)
   simp only[AnV.vals,List.length_cons,List.length_nil] at *
   rw[show(k+1)*8+j-(0+1+1+1+1+1+1+1+1)=k*8+j by omega]
   simpa using this

structure AvAt(w:World)(b o:Nat)(x:AnV):Prop where
 c0:w.cell? ⟨b,o,none⟩=some (.int .i64 x.a.c)
 c1:w.cell? ⟨b,o+1,none⟩=some (.int .i64 x.a.r.c)
 c2:w.cell? ⟨b,o+2,none⟩=some (.int .i64 x.a.r.s)
 c3:w.cell? ⟨b,o+3,none⟩=some (.int .i64 x.a.r.lo)
 c4:w.cell? ⟨b,o+4,none⟩=some (.int .i64 x.a.r.hi)
 c5:w.cell? ⟨b,o+5,none⟩=some (.int .i64 x.a.r.t)
 c6:w.cell? ⟨b,o+6,none⟩=some (.int .i64 x.a.r.l)
 c7:w.cell? ⟨b,o+7,none⟩=some (.slice x.A x.a.R.length x.C)

theorem q0j.av8{B:Nat}{w:World}{A:Option Addr}{xs:List AnV}(h:q0j B w A (q7f xs)){k:Nat}(hk:k<xs.length):
  ∃b o,A=some ⟨b,o,none⟩/\b<B/\AvAt w b (o+k*8) xs[k]:=by
 rcases h with h|⟨b,o,hA,hlt,hc⟩
 ·have:=q9g xs;rw[h] at this;simp at this;omega
 ·refine⟨b,o,hA,hlt,?_⟩
  have g:∀j,j<8->∀u,(xs[k]).vals[j]? =some u->w.cell? ⟨b,o+k*8+j,none⟩=some u:=fun j hj u hu=>by
   have:=hc (k*8+j) u (by rw[qqs xs k j hk hj];exact hu)
   rwa [<-Nat.add_assoc] at this
  exact⟨g 0 (by decide) _ rfl,g 1 (by decide) _ rfl,g 2 (by decide) _ rfl,g 3 (by decide) _ rfl,g 4 (by decide) _ rfl,g 5 (by decide) _ rfl,g 6 (by decide) _ rfl,g 7 (by decide) _ rfl⟩

def z4g(X:Nat->Prop)(w:World)(vs:List AnV):Prop:=∀v∈vs,v.a.R.length<=500/\RowX X w v.A (q0d v.a.R)

end
section
open Go.RowKit Plain Go.Shelf

section
variable {w wr w' : World} {bb : Nat} {A : Option Addr} {C : Nat} {ss : List ByteArray} {t0 t1 t2 : TR} {pts : List Pt}

end

theorem qhx(w:World)(o o':Obj):Below w.heap.size w ((w.alloc o).alloc o'):=((Below.refl _ _).alloc (Nat.le_refl _) _).alloc (by simp) _

end
section
open Go.RowKit Plain Go.Shelf

theorem qsa{m s:Mc}{a:Ac}(h:7<=a.k):actM m s a=(m,s,⟨3,zro,[]⟩):=by
 unfold actM
 rw[if_neg (by omega),if_neg (by omega),if_neg (by omega),if_neg (by omega),if_neg (by omega),if_neg (by omega)]

end
end Go.Proofs.YtlojfgdpmaigmafGreatDoor

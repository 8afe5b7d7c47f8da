/- file.Decode, of bytes that do not stand: its walk. -/
import Derived.Test.YtlojfgdpmaigmahGreatDoorP48
import Derived.Test.YtlojfgdpmaigmahGreatDoorP32
import Derived.Test.YtlojfgdpmaigmahGreatDoorP07
import Derived.Test.YtlojfgdpmaigmahGreatDoorEncPure
import Derived.Test.YtlojfgdpmaigmahGreatDoorP31
import Derived.BigQuiet
import Derived.Lib.SlBytesConst
namespace Go.Proofs.YtlojfgdpmaigmahGreatDoor
section
open Go.RowKit Plain Go.Shelf

theorem qu6{A:Option Addr}{C:Nat}{bs:List Int}{w:World}(h:q0m w.heap.size w A C bs)(hu:U8 bs)(hc:q4c bs≠0):
  Calls Tryz.prog 96 #[.slice A bs.length C] w fun e w'=>e=.returned (.tuple #[.slice none 0 0,.int .i64 (q4c bs)])/\Below w.heap.size w w':=by
 refine(qfy A C bs w h hu).mono ?_
 rintro e w' ⟨hb,⟨_,he⟩|⟨h0,_⟩⟩
 ·exact⟨he,hb⟩
 ·exact absurd h0 hc

theorem qje{A:Option Addr}{C:Nat}{bs:List Int}{w:World}(h:bs.length<6):
  Calls Tryz.prog 96 #[.slice A bs.length C] w fun e w'=>e=.returned (.tuple #[.slice none 0 0,.int .i64 (q4c bs)])/\Below w.heap.size w w':=by
 have hc:q4c bs=5:=by unfold q4c;rw[if_neg (by omega),if_pos h]
 rw[hc]
 have h1':¬(200000:Int)<(bs.length:Int):=by omega
 have h2':(bs.length:Int)<6:=by omega
 clear hc
 go_enter Tryz.func96,Tryz.ntmps96
 go_wp2
 exact bodyPost_ret (v:=.tuple #[.slice none 0 0,.int .i64 5]) (by simp[results,Tryz.results96,go_sem]) rfl ⟨rfl,Below.refl _ _⟩

set_option maxRecDepth 20000 in
set_option maxHeartbeats 4000000 in
theorem ql3(A:Option Addr)(C:Nat)(bs:List Int)(w:World)(h:bs=[]\/q0m w.heap.size w A C bs)(hu:U8 bs)(hc:q4c bs≠0):
  Calls Tryz.prog 74 #[.slice A bs.length C] w fun e w'=>e=.returned (.tuple #[.agg #[.slice none 0 0,.slice none 0 0,.int .i64 0,.slice none 0 0,.int .i64 0,.slice none 0 0,.int .i64 0,.int .i64 0],.int .i64 (q4c bs)])/\Below w.heap.size w w':=by
 have b0:∀o:Obj,Below w.heap.size w (w.alloc o):=fun o=>(Below.refl _ _).alloc (Nat.le_refl _) o
 have con:Hid (∀o:Obj,Calls Tryz.prog 96 #[.slice A bs.length C] (w.alloc o) fun e w'=>e=.returned (.tuple #[.slice none 0 0,.int .i64 (q4c bs)])/\Below (w.alloc o).heap.size (w.alloc o) w'):=fun o=>by
  rcases h with h|h
  ·exact qje (by rw[h];decide)
  ·exact qu6 (w:=w.alloc o) ((h.below (b0 o) (Nat.le_refl _)).mono (by simp)) hu hc
 obtain⟨c,hcc⟩:∃c,q4c bs=c:=⟨_,rfl⟩
 rw[hcc] at con hc ⊢
 have hne:(c != 0)=true:=by simpa using hc
 clear h hu hcc hc
 go_enter Tryz.func74,Tryz.ntmps74
 go_upto_region 2 with(first
  |(go_at_call 96;refine(con.out _).mono ?_;rintro e w1 ⟨rfl,hb1⟩;have XB:=q0a ((q0b w [.slice none 0 0,.slice none 0 0,.int .i64 0,.slice none 0 0,.int .i64 0,.slice none 0 0,.int .i64 0,.int .i64 0] 46).below hb1 (by simp));have x:=fun j=>XB.out.cell j;have lx:=XB.out.lt;have fx:=fun j=>XB.out.frozen j;have HB1:=q0a (q0e (b0 _) (Nat.le_refl _) hb1);clear hb1))
 go_wp2_with fail
 refine bodyPost_ret (v:=.tuple #[.agg #[.slice none 0 0,.slice none 0 0,.int .i64 0,.slice none 0 0,.int .i64 0,.slice none 0 0,.int .i64 0,.int .i64 0],.int .i64 c]) (by simp[results,Tryz.results74,go_sem,x]) rfl ⟨rfl,?_⟩
 exact q0t HB1.out (Nat.le_refl _) _ _ _ _ _ _ _ _

end
section
open Go.RowKit Plain

def qa6(ss:List ByteArray)(f:Int)(L:List En):Bool:=bofB ss f L&&((q1c 60 L).isSome&&(q1c 3600 L).isSome)

theorem qcm:∀(L:List En) (first:Bool) (ahead:Int),qfs first ahead L->(∀x∈L,ahead<=x.key/\0<=x.key/\x.key<1099511627776/\x.c≠0/\(first=true\/ahead<x.key))/\L.Pairwise fun a b=>a.key<b.key
 |[],_,_,_=>⟨fun _ h=>(by simp at h),.nil⟩
 |x::r,first,ahead,h=>by
  obtain⟨h1,h2,h3⟩:=h
  obtain⟨k1,k2⟩:=qcm r false x.key h3
  have g1:=h1.k0
  have g2:=h1.a0
  have g3:=h1.k1
  have g4:=h1.c0
  refine⟨fun y hy=>?_,List.pairwise_cons.2 ⟨fun y hy=>?_,k2⟩⟩
  ·rcases List.mem_cons.1 hy with rfl|hy
   ·exact⟨g1,by omega,g3,by omega,h2⟩
   ·obtain⟨j1,j2,j3,j4,j5⟩:=k1 y hy
    refine⟨by omega,j2,j3,j4,?_⟩
    rcases j5 with j5|j5
    ·cases j5
    ·right;omega
  ·rcases(k1 y hy).2.2.2.2 with j|j
   ·cases j
   ·exact j

theorem qv0{ss:List ByteArray}{f:Int}{L y1 y2:List En}{m0 m1 m2:List Nd}{q0 q1 q2:Int}(hr:L.Pairwise fun a b=>a.key<b.key)(hb:bofB ss f L=true)(r1:q1c 60 L=some y1)(r2:q1c 3600 L=some y2)
  (a0:allP m0 q0 0 1099511627776=(0,L)) (a1:allP m1 q1 0 1099511627776=(0,y1)) (a2:allP m2 q2 0 1099511627776=(0,y2)):q2o ss f m0 q0 m1 q1 m2 q2=true:=by
 unfold bofB qc8 at hb
 simp only[Bool.and_eq_true,decide_eq_true_eq] at hb
 obtain⟨⟨h1,h2,h3,h4⟩,h5⟩:=hb
 have hall:L.all (q2e ss.length f)=true:=by
  rw[List.all_eq_true] at h5 ⊢
  intro x hx
  have:=h5 x hx
  unfold q6a at this
  rw[Bool.and_eq_true] at this
  exact this.1
 have hbook:q7h m0 q0 ss.length f=some L:=by
  unfold q7h
  rw[a0,if_pos ⟨rfl,hall⟩]
 have s:∀(size:Int) (M:List En) (m:List Nd) (q:Int),q1c size L=some M->allP m q 0 1099511627776=(0,M)->q2z size L m q=true:=by
  intro size M m q k1 k2
  unfold q2z
  rw[k1,k2]
  simp
 have e0:=s 1 L m0 q0 (qcx hr) a0
 have e1:=s 60 y1 m1 q1 r1 a1
 have e2:=s 3600 y2 m2 q2 r2 a2
 unfold q2o
 simp only[Bool.and_eq_true,decide_eq_true_eq]
 refine⟨h1,h2,h3,h4,?_⟩
 unfold q9d
 rw[hbook]
 simp only[e0,e1,e2,Bool.and_self]

theorem qun{ss:List ByteArray}{f:Int}{n0 n1 n2:List Nd}{r0 r1 r2:Int}{L0 L1 L2:List En}(hb:q2o ss f n0 r0 n1 r1 n2 r2=true)(hL:qcw ss f n0 r0 n1 r1 n2 r2 L0 L1 L2):qa6 ss f L0=true:=by
 unfold qa6
 rw[hL.p1,hL.p2]
 simp only[Option.isSome_some,Bool.and_self,Bool.and_true]
 unfold q2o at hb
 simp only[Bool.and_eq_true,decide_eq_true_eq] at hb
 obtain⟨h1,h2,h3,h4,_⟩:=hb
 unfold bofB qc8
 simp only[Bool.and_eq_true,decide_eq_true_eq]
 refine⟨⟨h1,h2,h3,h4⟩,?_⟩
 obtain⟨_,_,hpt⟩:=q6t hL.book
 have hg:=(q1d (ns:=n0) (r:=r0) (low:=0) (high:=1099511627776)).2.1
 rw[hL.a0] at hg
 rw[List.all_eq_true] at hpt ⊢
 intro x hx
 unfold q6a
 rw[hpt x hx,Bool.true_and]
 exact decide_eq_true (hg x hx).1

theorem qin:∀(L:List En) (first:Bool) (ahead:Int),0<=ahead->(L.Pairwise fun a b=>a.key<b.key)->(∀x∈L,Told x/\0<x.c/\x.t=x.key%1048576/\ahead<=x.key/\(first=true\/ahead<x.key))->qfs first ahead L
 |[],_,_,_,_,_=>trivial
 |x::r,first,ahead,ha,hr,h=>by
  obtain⟨h1,h2,h3,h4,h5⟩:=h x List.mem_cons_self
  obtain⟨p1,p2⟩:=List.pairwise_cons.1 hr
  refine⟨⟨h4,ha,h1.k1,h2,h1.c1,h1.s,h1.lo,h1.hi,h1.l,h3⟩,h5,qin r false x.key (by omega) p2 fun y hy=>?_⟩
  obtain⟨g1,g2,g3,_,_⟩:=h y (List.mem_cons_of_mem _ hy)
  have:=p1 y hy
  exact⟨g1,g2,g3,by omega,.inr this⟩

theorem qsg{ss:List ByteArray}{f:Int}{n0 n1 n2:List Nd}{r0 r1 r2:Int}{L0 L1 L2:List En}(hb:q2o ss f n0 r0 n1 r1 n2 r2=true)(hL:qcw ss f n0 r0 n1 r1 n2 r2 L0 L1 L2)(hn:L0.length<=10000):qkb ss f L0:=by
 obtain⟨hT,-⟩:=qto hb
 rw[qb9,hL.a0] at hT
 obtain⟨_,_,hpt⟩:=q6t hL.book
 have hg:=(q1d (ns:=n0) (r:=r0) (low:=0) (high:=1099511627776)).2.1
 rw[hL.a0] at hg
 rw[List.all_eq_true] at hpt
 refine⟨hT.few,hT.nm,hT.f0,by have:=hT.f1;omega,hn,qin L0 true 0 (Int.le_refl 0) hT.rise fun x hx=>?_⟩
 have h1:=hT.told x hx
 have h2:=hpt x hx
 simp only[q2e,Bool.and_eq_true,decide_eq_true_eq] at h2
 have h3:=(good_iff.1 (hg x hx)).1
 exact⟨h1,by have:1<=x.c:=h3.1;omega,h2.2.2,h1.k0,.inl rfl⟩

theorem z0b{ss:List ByteArray}{f:Int}{L:List En}(hT:qnv ss f L)(hn:L.length<=1000):(encB ss f L).length<=200000:=by
 obtain⟨k1,k2,_⟩:=hT.len (by omega)
 have k3:=qec L 0 (Int.le_refl 0) hT.told
 have k4:=q6x (n:=L.length) 9 (by omega) (by omega)
 rw[qtt]
 unfold q5y
 rw[List.length_append,List.length_append,List.length_append]
 omega

end
section
open Go.RowKit Plain Go.Shelf

def QB(ss:List ByteArray)(f:Int)(L:List En)(A:Option Addr)(C:Nat)(w w':World)(V:List Value)(c:Int):Prop:=
 (c≠0/\V=qqc/\((qa6 ss f L=false/\c=7)\/(qa6 ss f L=true/\2900<L.length/\c=1)))\/
 (c=0/\∃t0 t1 t2:TR,V=q0l A C ss t0 t1 t2 f/\qa6 ss f L=true/\q2o ss f (t0.ps.map PN.nd) t0.r (t1.ps.map PN.nd) t1.r (t2.ps.map PN.nd) t2.r=true/\allP (t0.ps.map PN.nd) t0.r 0 1099511627776=(0,L)/\
  (∃g,t0.A=some ⟨g,0,none⟩/\NT w.heap.size w' g t0.C t0.ps)/\(∃g,t1.A=some ⟨g,0,none⟩/\NT w.heap.size w' g t1.C t1.ps)/\∃g,t2.A=some ⟨g,0,none⟩/\NT w.heap.size w' g t2.C t2.ps)

theorem qpx(A VA:Option Addr)(C VC:Nat)(ss:List ByteArray)(f:Int)(L:List En)(w:World)(hZ:SzAt w)(hC:ss.length<=C)(hS:q2y w.heap.size w A ss)(hR:q0i w.heap.size w VA (q0d L))(hz:L.length<=28000)(hk:∀x∈L,0<=x.key/\x.key<1099511627776)(hc:∀x∈L,x.c≠0)
  (hr:L.Pairwise fun a b=>a.key<b.key):
  Calls Tryz.prog 101 #[.slice A ss.length C,.int .i64 f,.slice VA L.length VC] w (BoIn (QB ss f L) A C w):=by
 have no:qa6 ss f L=false->∀(e:Ending) (w':World),(e=.returned (.tuple #[.agg #[.slice none 0 0,.slice none 0 0,.int .i64 0,.slice none 0 0,.int .i64 0,.slice none 0 0,.int .i64 0,.int .i64 0],.int .i64 7])/\Below w.heap.size w w')->BoIn (QB ss f L) A C w e w':=fun hn e w' ⟨he,hb⟩=>
  ⟨_,_,_,_,_,_,_,_,_,_,_,_,_,_,_,_,7,he,hb,.inl ⟨by decide,rfl,.inl ⟨hn,rfl⟩⟩⟩
 cases hb:bofB ss f L with
 |false=>exact(qpk A VA C VC ss f L w hZ hC hS hR hz hk hc hb).mono (no (by unfold qa6;rw[hb];rfl))
 |true=>
  have hP:=qt4 (n:=ss.length) (f:=f) hz hr hk hc (by
   unfold bofB at hb
   rw[Bool.and_eq_true] at hb
   exact hb.2)
  cases h1:q1c 60 L with
  |none=>exact(qeg A VA C VC ss f L w hZ hC hS hR hz hk hc hr hb (.inr (.inl h1))).mono (no (by unfold qa6;rw[h1];simp))
  |some y1=>
   cases h2:q1c 3600 L with
   |none=>exact(qeg A VA C VC ss f L w hZ hC hS hR hz hk hc hr hb (.inr (.inr h2))).mono (no (by unfold qa6;rw[h2];simp))
   |some y2=>
    have hok:qa6 ss f L=true:=by unfold qa6;rw[hb,h1,h2];rfl
    have l1:=qbe hP.good h1
    have l2:=qbe hP.good h2
    refine(qrs A VA C VC ss f L w hZ hC hS hR hz hk hc hr hb L y1 y2 (qcx hr) h1 h2).mono ?_
    rintro e w' ⟨hbw,⟨hn,he⟩|⟨g0,D0,q0,p0,g1,D1,q1,p1,g2,D2,q2,p2,n0,a0,n1,a1,n2,a2,he⟩⟩
    ·exact⟨_,_,_,_,_,_,_,_,_,_,_,_,_,_,_,_,1,he,hbw,.inl ⟨by decide,rfl,.inr ⟨hok,by omega,rfl⟩⟩⟩
    ·exact⟨_,_,_,_,_,_,_,_,_,_,_,_,_,_,_,_,0,he,hbw,.inr ⟨rfl,⟨some ⟨g0,0,none⟩,D0,q0,p0⟩,⟨some ⟨g1,0,none⟩,D1,q1,p1⟩,⟨some ⟨g2,0,none⟩,D2,q2,p2⟩,rfl,hok,qv0 hr hb h1 h2 a0 a1 a2,a0,⟨g0,rfl,n0⟩,⟨g1,rfl,n1⟩,⟨g2,rfl,n2⟩⟩⟩

def z5f(bs:List Int)(c:Int):Prop:=
 (decC bs≠0/\c=decC bs)\/(decC bs=0/\qa6 (q1e (q1j bs)).1 (q1m (q1j bs)).1 (q0z (q1j bs)).1=false/\c=7)\/(decC bs=0/\qa6 (q1e (q1j bs)).1 (q1m (q1j bs)).1 (q0z (q1j bs)).1=true/\2900<(q0z (q1j bs)).1.length/\c=1)

structure qrm(bs:List Int)(A:Option Addr)(C:Nat)(t0 t1 t2:TR)(w w':World):Prop where
 dec:decC bs=0
 ok:qa6 (q1e (q1j bs)).1 (q1m (q1j bs)).1 (q0z (q1j bs)).1=true
 own:OwnB w.heap.size w' A C (q1e (q1j bs)).1 t0 t1 t2
 base:q2o (q1e (q1j bs)).1 (q1m (q1j bs)).1 (t0.ps.map PN.nd) t0.r (t1.ps.map PN.nd) t1.r (t2.ps.map PN.nd) t2.r=true
 all:allP (t0.ps.map PN.nd) t0.r 0 1099511627776=(0,(q0z (q1j bs)).1)

def z5k(bs:List Int)(w:World)(e:Ending)(w':World):Prop:=
 ∃(M:Option Addr) (m D:Nat) (X0:Option Addr) (x0 Y0:Nat) (z0:Int) (X1:Option Addr) (x1 Y1:Nat) (z1:Int) (X2:Option Addr) (x2 Y2:Nat) (z2 z c:Int),e=.returned (.tuple #[.agg #[.slice M m D,.slice X0 x0 Y0,.int .i64 z0,.slice X1 x1 Y1,.int .i64 z1,.slice X2 x2 Y2,.int .i64 z2,.int .i64 z],.int .i64 c])/\Below w.heap.size w w'/\
  ((c≠0/\[.slice M m D,.slice X0 x0 Y0,.int .i64 z0,.slice X1 x1 Y1,.int .i64 z1,.slice X2 x2 Y2,.int .i64 z2,.int .i64 z]=qqc/\z5f bs c)\/
   (c=0/\∃(A:Option Addr) (C:Nat) (t0 t1 t2:TR),[.slice M m D,.slice X0 x0 Y0,.int .i64 z0,.slice X1 x1 Y1,.int .i64 z1,.slice X2 x2 Y2,.int .i64 z2,.int .i64 z]=q0l A C (q1e (q1j bs)).1 t0 t1 t2 (q1m (q1j bs)).1/\qrm bs A C t0 t1 t2 w w'))

theorem qrm.at{bs:List Int}{A:Option Addr}{C:Nat}{t0 t1 t2:TR}{w w':World}(h:qrm bs A C t0 t1 t2 w w'):q2r w' A C (q1e (q1j bs)).1 t0 t1 t2:=by
 obtain⟨L0,L1,L2,hL⟩:=qf0 h.base
 obtain⟨A',C',e,hn,hl,_,hr⟩:=q0g h.own.sr
 cases e
 obtain⟨g0,e0,n0⟩:=h.own.n0
 obtain⟨g1,e1,n1⟩:=h.own.n1
 obtain⟨g2,e2,n2⟩:=h.own.n2
 have k0:=(q3f hL.a0).1
 have k1:=(q3f hL.a1).1
 have k2:=(q3f hL.a2).1
 have hs:=h.own.sn
 exact⟨hn,hl,⟨hr,by omega,h.own.se⟩,⟨by rw[e0];exact n0.nodes,q5l k0,q7w k0⟩,⟨by rw[e1];exact n1.nodes,q5l k1,q7w k1⟩,⟨by rw[e2];exact n2.nodes,q5l k2,q7w k2⟩⟩

theorem qpt(A:Option Addr)(C:Nat)(bs:List Int)(w:World)(hZ:SzAt w)(h:bs=[]\/q0m w.heap.size w A C bs)(hu:U8 bs):
  Calls Tryz.prog 74 #[.slice A bs.length C] w (z5k bs w):=by
 by_cases hs:q4c bs=0
 ·have hb:q0m w.heap.size w A C bs:=by
   rcases h with rfl|h
   ·exact absurd hs (by decide)
   ·exact h
  by_cases hc:(qct (q1j bs)).code=0
  ·have hd:decC bs=0:=by unfold decC;rw[if_pos hs];exact hc
   obtain⟨-,hT⟩:=qx2 hu hd
   obtain⟨hk,hr⟩:=qcm _ _ _ hT.p
   have hm:=hT.m
   have hn:=hT.n
   have hse:∀s∈(q1e (q1j bs)).1,s.size<=140737488351232:=fun s hs=>by have:=hT.s s hs;omega
   refine(qlc (QB (q1e (q1j bs)).1 (q1m (q1j bs)).1 (q0z (q1j bs)).1) A C bs w hb hu hs hc fun NA VA NC VC W hW hl h1 h2=>?_).mono ?_
   ·exact qpx NA VA NC VC _ _ _ W (hZ.below hW) hl ⟨h1,by omega,hse⟩ h2 (by omega) (fun x hx=>⟨(hk x hx).2.1,(hk x hx).2.2.1⟩) (fun x hx=>(hk x hx).2.2.2.1) hr
   ·rintro e w' ⟨M,m,D,X0,x0,Y0,z0,X1,x1,Y1,z1,X2,x2,Y2,z2,z,c,NA,NC,W,w7,rfl,hbw,hbW,hlt,hown,hb7,hQ,hfar⟩
    refine⟨_,_,_,_,_,_,_,_,_,_,_,_,_,_,_,_,_,rfl,hbw,?_⟩
    rcases hQ with⟨h0,hz,h7⟩|⟨rfl,t0,t1,t2,hV,hok,hB,hall,⟨g0,e0,n0⟩,⟨g1,e1,n1⟩,⟨g2,e2,n2⟩⟩
    ·refine .inl ⟨h0,hz,?_⟩
     rcases h7 with⟨k1,k2⟩|⟨k1,k2,k3⟩
     ·exact .inr (.inl ⟨hd,k1,k2⟩)
     ·exact .inr (.inr ⟨hd,k1,k2,k3⟩)
    ·refine .inr ⟨rfl,NA,NC,t0,t1,t2,hV,hd,hok,?_,hB,hall⟩
     have ho:OwnB (w.heap.size+1) w7 NA NC (q1e (q1j bs)).1 t0 t1 t2:=
      ⟨q0c hown fun k hk=>hb7.block k (hown.lt k hk).2,hse,by omega,⟨g0,e0,n0.low hlt⟩,⟨g1,e1,n1.low hlt⟩,⟨g2,e2,n2.low hlt⟩⟩
     exact ho.keep (by omega) fun k hk _=>hfar k (by omega)
  ·refine(qkq A C bs w hb hu hs hc).mono ?_
   rintro e w' ⟨rfl,hbw⟩
   exact⟨_,_,_,_,_,_,_,_,_,_,_,_,_,_,_,_,_,rfl,hbw,.inl ⟨hc,rfl,.inl ⟨by unfold decC;rw[if_pos hs];exact hc,by unfold decC;rw[if_pos hs]⟩⟩⟩
 ·refine(ql3 A C bs w h hu hs).mono ?_
  rintro e w' ⟨rfl,hbw⟩
  exact⟨_,_,_,_,_,_,_,_,_,_,_,_,_,_,_,_,_,rfl,hbw,.inl ⟨hs,rfl,.inl ⟨by unfold decC;rw[if_neg hs];exact hs,by unfold decC;rw[if_neg hs]⟩⟩⟩

end
section
open Go.RowKit Plain

theorem qx9{w:World}:q3b w.heap.size (w.alloc (.cells #[.int .u8 119,.int .u8 110] 5 (2,3))) (.slice (some ⟨w.heap.size,0,none⟩) 2 2) mark:=by
 have hn:(w.alloc (.cells #[.int .u8 119,.int .u8 110] 5 (2,3))).heap[w.heap.size]? =some (.cells #[.int .u8 119,.int .u8 110] 5 (2,3)):=heap_alloc_new w _
 have hc:∀j,(w.alloc (.cells #[.int .u8 119,.int .u8 110] 5 (2,3))).cell? ⟨w.heap.size,j,none⟩=(#[Value.int .u8 119,Value.int .u8 110]:Array Value)[j]? :=fun j=>cell_of_row _ _ _ _ _ _ hn
 refine⟨w.heap.size,2,rfl,Nat.le_refl _,by simp,Nat.le_refl _,by omega,fun j hj=>⟨?_,?_⟩,fun j u hu=>?_⟩
 ·rw[hc,Array.getElem?_eq_getElem (by simpa using hj)]
  rfl
 ·unfold World.frozen?
  rw[hn]
  simp
  omega
 ·rw[hc]
  have h2:(u8s mark)[j]? =(#[Value.int .u8 119,Value.int .u8 110]:Array Value)[j]? :=by
   show([Value.int .u8 119,Value.int .u8 110]:List Value)[j]? =_
   simp
  rw[<-h2]
  exact hu

def z4n(ss:List ByteArray)(f:Int)(L:List En)(w:World)(e:Ending)(w':World):Prop:=
 Below w.heap.size w w'/\(((10000<L.length\/200000<(encB ss f L).length)/\e=.returned (.tuple #[.slice none 0 0,.int .i64 1]))\/
  (L.length<=10000/\(encB ss f L).length<=200000/\∃v,e=.returned (.tuple #[v,.int .i64 0])/\q3b w.heap.size w' v (encB ss f L)))

set_option maxRecDepth 20000 in
set_option maxHeartbeats 8000000 in
theorem qog(A:Option Addr)(C:Nat)(ss:List ByteArray)(t0 t1 t2:TR)(f:Int)(w:World)(hZ:SzAt w)(hC:ss.length<=C)(hS:q2y w.heap.size w A ss)(h0:t0.ok w)(h1:t1.ok w)(h2:t2.ok w)
  (hb:q2o ss f (t0.ps.map PN.nd) t0.r (t1.ps.map PN.nd) t1.r (t2.ps.map PN.nd) t2.r=true):
  Calls Tryz.prog 15 #[.agg (q0l A C ss t0 t1 t2 f).toArray] w (z4n ss f (allP (t0.ps.map PN.nd) t0.r 0 1099511627776).2 w):=by
 rw[<-qb9]
 obtain⟨hT,hz⟩:=qto hb
 have okup:∀(t:TR) (W:World),Below w.heap.size w W->t.ok w->t.ok W:=fun t W hW ht=>⟨ht.1.up hW,ht.2.1,ht.2.2⟩
 have con:=q0f fun W (hW:Below w.heap.size w W)=>q8e A C ss t0 t1 t2 f W (hZ.below hW) hC (hS.up hW) (okup t0 W hW h0) (okup t1 W hW h1) (okup t2 W hW h2) true hb
 have conA:=q0f fun W (hW:Below w.heap.size w W)=>qk5 t0.A t0.C t0.r 0 9223372036854775807 t0.ps W (okup t0 W hW h0).1 h0.2.1
 have hlen:=q4v (t0.ps.map PN.nd) t0.r 0 9223372036854775807
 obtain⟨A0,C0,p0,r0⟩:=t0
 obtain⟨A1,C1,p1,r1⟩:=t1
 obtain⟨A2,C2,p2,r2⟩:=t2
 simp only[q0l] at *
 rw[hz] at conA
 obtain⟨L,hL⟩:∃L,(allP (p0.map PN.nd) r0 0 9223372036854775807).2=L:=⟨_,rfl⟩
 rw[hL] at conA hlen hT ⊢
 have HT:=q0f hT
 have HS:=q0f hS
 clear hb okup h0 h1 h2 hz hL hT hS hZ
 unfold z4n
 obtain⟨EB,hEB⟩:∃EB,encB ss f L=EB:=⟨_,rfl⟩
 rw[hEB]
 have HEB:=q0f hEB
 clear hEB
 have b0:∀o:Obj,Below w.heap.size w (w.alloc o):=fun o=>(Below.refl _ _).alloc (Nat.le_refl _) o
 go_enter Tryz.func15,Tryz.ntmps15
 go_upto_region 7 with(first
  |(go_at_call 20;refine(con.out _ (b0 _)).mono ?_;rintro e w1 ⟨rfl,hb1⟩;have hb1':=q0e (b0 _) (Nat.le_refl _) hb1;have XB:=q0f ((q0b w [.slice A ss.length C,.slice A0 p0.length C0,.int .i64 r0,.slice A1 p1.length C1,.int .i64 r1,.slice A2 p2.length C2,.int .i64 r2,.int .i64 f] 46).below hb1 (by simp));have b:=fun j=>XB.out.cell j;have lb:=XB.out.lt)
  |(go_at_call 21;refine(conA.out _ hb1').mono ?_;rintro e w2 ⟨hb2,v2,rfl,ho2⟩;obtain⟨LA,LC,rfl,hnL,hlL,_,hrL⟩:=q0g ho2;have hb2':=q0e hb1' (Nat.le_refl _) hb2;have XC:=q0f (XB.out.below hb2 XB.out.lt);have c:=fun j=>XC.out.cell j;have lc:=XC.out.lt;clear b lb XB con conA))
 have HB2:=q0f hb2'
 have HR:=q0f hrL
 clear hb1 hb1' hb2 hb2' ho2 hrL
 by_cases hm:10000<L.length
 ·have hm':(10000:Int)<(L.length:Int):=by omega
  go_wp2_with fail
  exact bodyPost_ret (v:=.tuple #[.slice none 0 0,.int .i64 1]) (by simp[results,Tryz.results15,go_sem]) rfl ⟨HB2.out,.inl ⟨.inl hm,rfl⟩⟩
 ·have hm':¬(10000:Int)<(L.length:Int):=by omega
  obtain⟨hl1,hl2,hl3⟩:=HT.out.len (by omega)
  have hfew:=HT.out.few
  obtain⟨bx,hbx⟩:∃bx,bx=w.heap.size:=⟨_,rfl⟩
  have hbl:bx<w2.heap.size:=by rw[hbx];exact lc
  rw[<-hbx] at XC c lc
  rw[<-hbx]
  obtain⟨e1,he1⟩:∃e1,mark++q5j ss=e1:=⟨_,rfl⟩
  obtain⟨e2,he2⟩:∃e2,e1++sev f.toNat=e2:=⟨_,rfl⟩
  obtain⟨e3,he3⟩:∃e3,e2++(sev L.length++q3t 0 L)=e3:=⟨_,rfl⟩
  have hH:encH ss f L=e3:=by
   rw[<-he3,<-he2,<-he1]
   unfold encH q5y
   simp only[List.append_assoc]
  have he4:e3++q8z e3=EB:=by
   rw[<-HEB.out,encB,hH]
  have hu:U8 e3:=fun b hb=>qli ss f L b (by rw[HEB.out,<-he4];exact List.mem_append_left _ hb)
  have z1:e1.length<=402:=by rw[<-he1,List.length_append];have:mark.length=2:=rfl;omega
  have z2:e2.length<=411:=by rw[<-he2,List.length_append];omega
  have z3:e3.length<=1600411:=by rw[<-he3,List.length_append];omega
  have conN:Hid (∀v W,w2.heap.size<=W.heap.size->Below w2.heap.size w2 W->q3b w2.heap.size W v mark->Calls Tryz.prog 22 #[v,.slice A ss.length C] W fun e w'=>∃v',e=.returned v'/\q3b w2.heap.size w' v' e1/\Grew W w' v v'):=fun v W hW hb hv=>by
   have k:=qel w2.heap.size v mark A C ss W hW hv (((HS.out.row.below HB2.out (Nat.le_refl _)).mono HB2.out.size).below hb (Nat.le_refl _)) (by rw[he1];omega) (by omega)
   rw[he1] at k
   exact k
  have conF:Hid (∀v W,w2.heap.size<=W.heap.size->q3b w2.heap.size W v e1->Calls Tryz.prog 23 #[v,.int .i64 f] W fun e w'=>∃v',e=.returned v'/\q3b w2.heap.size w' v' e2/\Grew W w' v v'):=fun v W hW hv=>by
   have k:=q6c w2.heap.size v e1 f W hW hv HT.out.f0 (by have:=HT.out.f1;omega) (by omega)
   rw[he2] at k
   exact k
  have conP:Hid (∀v W,w2.heap.size<=W.heap.size->Below w2.heap.size w2 W->q3b w2.heap.size W v e2->Calls Tryz.prog 24 #[v,.slice LA L.length LC] W fun e w'=>∃v',e=.returned v'/\q3b w2.heap.size w' v' e3/\Grew W w' v v'):=fun v W hW hb hv=>by
   have k:=qcr w2.heap.size v e2 LA LC L W hW hv (HR.out.below hb (Nat.le_refl _)) (by rw[he3];omega) (by omega) HT.out.rise HT.out.told
   rw[he3] at k
   exact k
  have conS:Hid (∀g cap W,q0m W.heap.size W (some ⟨g,0,none⟩) cap e3->Calls Tryz.prog 25 #[.slice (some ⟨g,0,none⟩) e3.length cap] W fun e w'=>∃g,e=.returned (.slice (some ⟨g,0,none⟩) 4 4)/\W.heap.size<=g/\RowL w' g 5 (u8s (q8z e3))/\Below W.heap.size W w'):=fun g cap W h=>qm8 _ _ _ _ h hu
  have HE4:=q0f he4
  clear hbx hH hu he1 he2 he3 he4 hl1 hl2 hl3
  have kc:=fun(C':Array Value) (n c:Nat)=>Lib.run_convert_bytes_const (P:=Tryz.prog) w2 33 5 C' n c Tryz.underlying33 (by kernel_rfl)
  go_upto_region 10 with fail
  have HM:Hid (q3b w2.heap.size (w2.alloc (.cells #[.int .u8 119,.int .u8 110] 5 (2,3))) (.slice (some ⟨w2.heap.size,0,none⟩) 2 2) mark):=qx9
  have HW:Hid (Below w2.heap.size w2 (w2.alloc (.cells #[.int .u8 119,.int .u8 110] 5 (2,3)))):=(Below.refl _ _).alloc (Nat.le_refl _) _
  obtain⟨wm,hwm⟩:∃wm,wm=w2.alloc (.cells #[.int .u8 119,.int .u8 110] 5 (2,3)):=⟨_,rfl⟩
  obtain⟨vm,hvm⟩:∃vm,vm=Value.slice (some ⟨w2.heap.size,0,none⟩) 2 2:=⟨_,rfl⟩
  rw[<-hwm] at HM HW ⊢
  rw[<-hvm] at HM ⊢
  have XD:=q0f (XC.out.below HW.out hbl)
  have d:=fun j=>XD.out.cell j
  have ld:=XD.out.lt
  clear hwm hvm c lc kc
  have P0:True:=trivial
  go_upto_region 14 with(first
   |(go_at_call 22;refine(conN.out vm wm HW.out.size HW.out HM.out).mono ?_;rintro e w3 ⟨v3,rfl,hbuf3,hg3⟩;have hb3:=hg3.below HM.out;have HW3:=q0f (HW.out.trans hb3);have X3:=q0f (XD.out.below hb3 hbl);have d3:=fun j=>X3.out.cell j;have ld3:=X3.out.lt;clear d ld XD conN)
   |(go_at_call 23;refine(conF.out v3 w3 HW3.out.size hbuf3).mono ?_;rintro e w4 ⟨v4,rfl,hbuf4,hg4⟩;have hb4:=hg4.below hbuf3;have HW4:=q0f (HW3.out.trans hb4);clear d3 ld3 X3 conF)
   |(go_at_call 24;refine(conP.out v4 w4 HW4.out.size HW4.out hbuf4).mono ?_;rintro e w5 ⟨v5,rfl,hbuf5,hg5⟩;have hb5:=hg5.below hbuf4;have HW5:=q0f (HW4.out.trans hb5);obtain⟨g5,cap5,hv5,hby5⟩:=hbuf5.bytes;have HF5:=q0f hbuf5;clear hbuf5;subst hv5)
   |(go_at_call 25;refine(conS.out g5 cap5 w5 hby5).mono ?_;rintro e w6 ⟨g6,rfl,hg6,hrow6,hb6⟩;have HF6:=q0f (HF5.out.below hb6);have HW6:=q0f (HW5.out.trans (hb6.mono HW5.out.size)))
   |(at_builtin;refine q3w rfl _ _ 33 rfl w2.heap.size _ _ e3 (q8z e3) rfl HF6.out rfl (z0c hrow6 rfl 4) HW6.out.size (by rw[qsf];omega) ?_;intro v7 w7 hbuf7 hg7))
  have hb7:=hg7.below HF6.out
  rw[HE4.out] at hbuf7
  have HW7:=q0f (q0e HB2.out (Nat.le_refl _) (HW6.out.trans hb7))
  obtain⟨g7,cap7,hv7,hr7⟩:=hbuf7
  have HR7:=q0f hr7
  subst hv7
  by_cases hq:200000<EB.length
  ·have hq':(200000:Int)<(EB.length:Int):=by omega
   go_wp2_with fail
   exact bodyPost_ret (v:=.tuple #[.slice none 0 0,.int .i64 1]) (by simp[results,Tryz.results15,go_sem]) rfl ⟨HW7.out,.inl ⟨.inr hq,rfl⟩⟩
  ·have hq':¬(200000:Int)<(EB.length:Int):=by omega
   go_wp2_with fail
   refine bodyPost_ret (v:=.tuple #[.slice (some ⟨g7,0,none⟩) EB.length cap7,.int .i64 0]) (by simp[results,Tryz.results15,go_sem]) rfl ⟨HW7.out,by omega,by omega,_,rfl,g7,cap7,rfl,?_⟩
   exact⟨Nat.le_trans HB2.out.size HR7.out.1,HR7.out.2⟩

end
section
open Go.RowKit Plain Go.Shelf

section
variable {A : Option Addr} {C : Nat} {ss : List ByteArray} {t0 t1 t2 : TR} {f : Int} {L : List En} {w : World}

def DkTo(ss:List ByteArray)(f:Int)(L:List En)(w:World)(e:Ending)(w':World):Prop:=
 ∃(A:Option Addr) (C:Nat) (t0 t1 t2:TR),e=.returned (.tuple #[.agg (q0l A C ss t0 t1 t2 f).toArray,.int .i64 0])/\q2r w' A C ss t0 t1 t2/\q2o ss f (t0.ps.map PN.nd) t0.r (t1.ps.map PN.nd) t1.r (t2.ps.map PN.nd) t2.r=true/\allP (t0.ps.map PN.nd) t0.r 0 1099511627776=(0,L)/\OwnB w.heap.size w' A C ss t0 t1 t2/\Below w.heap.size w w'

theorem z2r(hZ:SzAt w)(h:q0m w.heap.size w A C (encB ss f L))(hT:qkb ss f L)(hl:(encB ss f L).length<=200000)(hok:qa6 ss f L=true)(hn:L.length<=2900):
  Calls Tryz.prog 74 #[.slice A (encB ss f L).length C] w (DkTo ss f L w):=by
 obtain⟨d0,d1,d2,d3⟩:=z0z hT hl
 refine(qpt A C _ w hZ (.inr h) (qli ss f L)).mono ?_
 rintro e w' ⟨M,m,D,X0,x0,Y0,z0,X1,x1,Y1,z1,X2,x2,Y2,z2,z,c,rfl,hbw,⟨h0,_,hno⟩|⟨rfl,A',C',u0,u1,u2,hV,hY⟩⟩
 ·exfalso
  rcases hno with⟨k,_⟩|⟨_,k,_⟩|⟨_,_,k,_⟩
  ·exact k d0
  ·rw[d1,d2,d3,hok] at k
   cases k
  ·rw[d3] at k
   omega
 ·have ha:=hY.at
  have hb:=hY.base
  have hl':=hY.all
  have ho:=hY.own
  rw[d1,d2] at hV
  rw[d1] at ha ho
  rw[d1,d2] at hb
  rw[d3] at hl'
  refine⟨A',C',u0,u1,u2,?_,ha,hb,hl',ho,hbw⟩
  rw[<-hV]

end

end
end Go.Proofs.YtlojfgdpmaigmahGreatDoor

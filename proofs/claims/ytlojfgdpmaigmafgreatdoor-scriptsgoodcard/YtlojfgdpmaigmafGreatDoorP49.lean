/- A base in memory, and the points that it knows: what the calls make of it. -/
import Derived.Test.YtlojfgdpmaigmafGreatDoorP47
import Derived.Test.YtlojfgdpmaigmafGreatDoorP35
import Derived.Test.YtlojfgdpmaigmafGreatDoorP46
import Derived.Test.YtlojfgdpmaigmafGreatDoorP40
import Derived.Test.YtlojfgdpmaigmafGreatDoorP48
import Derived.Test.YtlojfgdpmaigmafGreatDoorP39
import Derived.Test.YtlojfgdpmaigmafGreatDoorP38
namespace Go.Proofs.YtlojfgdpmaigmafGreatDoor
section
open Go.RowKit Plain Go.Shelf

structure q2s(w:World)(A:Option Addr)(C:Nat)(ss:List ByteArray)(t0 t1 t2:TR):Prop where
 nn:A=none->C=0
 len:ss.length<=C
 st:q2v w.heap.size w A ss
 o0:t0.ok w
 o1:t1.ok w
 o2:t2.ok w

def KB(ss:List ByteArray)(f:Int)(t0 t1 t2:TR)(pts:List Pt):Prop:=∃L0 L1 L2,q4a ss f (t0.ps.map PN.nd) t0.r (t1.ps.map PN.nd) t1.r (t2.ps.map PN.nd) t2.r pts L0 L1 L2

section
variable {B C : Nat} {A : Option Addr} {ss : List ByteArray} {t0 t1 t2 : TR} {f : Int} {pts : List Pt} {w w' : World}

theorem q2s.up(h:q2s w A C ss t0 t1 t2)(hb:Below w.heap.size w w'):q2s w' A C ss t0 t1 t2:=
 ⟨h.nn,h.len,h.st.up hb,⟨h.o0.1.up hb,h.o0.2⟩,⟨h.o1.1.up hb,h.o1.2⟩,⟨h.o2.1.up hb,h.o2.2⟩⟩

theorem OwnB.at(h:OwnB B w A C ss t0 t1 t2)(k:KB ss f t0 t1 t2 pts):q2s w A C ss t0 t1 t2:=by
 obtain⟨L0,L1,L2,k⟩:=k
 obtain⟨A',C',e,hn,hl,_,hr⟩:=q0h h.sr
 cases e
 obtain⟨g0,e0,n0⟩:=h.n0
 obtain⟨g1,e1,n1⟩:=h.n1
 obtain⟨g2,e2,n2⟩:=h.n2
 have k0:=(q3c k.lst.a0).1
 have k1:=(q3c k.lst.a1).1
 have k2:=(q3c k.lst.a2).1
 have hs:=h.sn
 exact⟨hn,hl,⟨hr,by omega,h.se⟩,⟨by rw[e0];exact n0.nodes,q5h k0,q7r k0⟩,⟨by rw[e1];exact n1.nodes,q5h k1,q7r k1⟩,⟨by rw[e2];exact n2.nodes,q5h k2,q7r k2⟩⟩

theorem OwnB.set8(h:OwnB B w A C ss t0 t1 t2){b:Nat}(hb:b<B)(x0 x1 x2 x3 x4 x5 x6 x7:Value):OwnB B (set8 w b x0 x1 x2 x3 x4 x5 x6 x7) A C ss t0 t1 t2:=
 h.keep (Nat.le_refl _) fun k hk _=>q1q _ _ _ _ _ _ _ _ _ _ k (by omega)

def qxw(ss:List ByteArray)(f:Int)(pts:List Pt)(w:World)(e:Ending)(w':World):Prop:=
 ∃(A:Option Addr) (C:Nat) (t0 t1 t2:TR),e=.returned (.tuple #[.agg (q0l A C ss t0 t1 t2 f).toArray,.int .i64 0])/\OwnB w.heap.size w' A C ss t0 t1 t2/\KB ss f t0 t1 t2 pts/\Below w.heap.size w w'

theorem qym(hZ:SzAt w)(hB:q2s w A C ss t0 t1 t2)(hK:KB ss f t0 t1 t2 pts){s:ByteArray}{t v:Int}(hs:s.size<=140737488351232)(hp:ptC s t v f=0)(hl:(q2j ss s).length<=16)(hn:pts.length<=900):
  Calls Tryz.prog 49 #[.agg (q0l A C ss t0 t1 t2 f).toArray,.agg #[.string s,.int .i64 t,.int .i64 v]] w (qxw (q2j ss s) f (pts++[⟨s,t,v⟩]) w):=by
 obtain⟨L0,L1,L2,k⟩:=hK
 refine(qgc A C ss t0 t1 t2 f s t v w hZ hB.len hB.st hs hB.o0 hB.o1 hB.o2).mono ?_
 rintro e w' ⟨hb,h⟩
 rcases h with⟨c,_,hno,_⟩|⟨A',C',u0,u1,u2,K0,K1,K2,M0,M1,M2,hy,rfl,_,_,_,_,_,_,ho⟩
 ·exact absurd hno (k.add_ok hp hl hn)
 ·exact⟨A',C',u0,u1,u2,rfl,ho,⟨M0,M1,M2,k.add hy⟩,hb⟩

theorem z0b(hZ:SzAt w)(hB:q2s w A C ss t0 t1 t2)(hK:KB ss f t0 t1 t2 pts){s:ByteArray}{t v c:Int}(hs:s.size<=140737488351232)(hp:ptC s t v f=c)(hc:c≠0):
  Calls Tryz.prog 49 #[.agg (q0l A C ss t0 t1 t2 f).toArray,.agg #[.string s,.int .i64 t,.int .i64 v]] w fun e w'=>e=.returned (q2a c)/\Below w.heap.size w w':=by
 obtain⟨L0,L1,L2,k⟩:=hK
 refine(qgc A C ss t0 t1 t2 f s t v w hZ hB.len hB.st hs hB.o0 hB.o1 hB.o2).mono ?_
 rintro e w' ⟨hb,h⟩
 rcases h with⟨d,_,hno,rfl⟩|⟨A',C',u0,u1,u2,K0,K1,K2,M0,M1,M2,hy,_⟩
 ·rcases hno with⟨h1,_⟩|⟨_,_,h1⟩|⟨_,h1,_⟩
  ·rw[k.ok] at h1;cases h1
  ·rw[h1,hp]
   exact⟨rfl,hb⟩
  ·omega
 ·exact absurd (hy.pt.symm.trans hp).symm hc

theorem qt4(hZ:SzAt w)(hB:q2s w A C ss t0 t1 t2)(hK:KB ss f t0 t1 t2 pts):
  Calls Tryz.prog 15 #[.agg (q0l A C ss t0 t1 t2 f).toArray] w fun e w'=>e=.returned (.int .i64 0)/\Below w.heap.size w w':=by
 obtain⟨L0,L1,L2,k⟩:=hK
 exact q6l A C ss t0 t1 t2 f w hZ hB.len hB.st hB.o0 hB.o1 hB.o2 true k.ok

theorem qwx:∀(zs:List ByteArray) (x:ByteArray) (i:Nat),Lib.idxFromS zs x i<i+zs.length\/Lib.idxFromS zs x i=-1
 |[],_,_=>.inr rfl
 |z::zs,x,i=>by
  by_cases hz:z=x
  ·left
   simp only[Lib.idxFromS,hz,if_true,List.length_cons]
   omega
  ·simp only[Lib.idxFromS,hz,if_false,List.length_cons]
   rcases qwx zs x (i+1) with h|h
   ·left;omega
   ·exact .inr h

theorem qww{x:ByteArray}{p:Int}(hx:Lib.idxOfS ss x=p)(hf:ss.length<=16):p<16:=by
 have k:=qwx ss x 0
 have e:Lib.idxFromS ss x 0=p:=hx
 rw[e] at k
 omega

theorem qdx(hZ:SzAt w)(hB:q2s w A C ss t0 t1 t2)(hK:KB ss f t0 t1 t2 pts){x:ByteArray}{p:Int}(hx:Lib.idxOfS ss x=p)(hp:0<=p):
  Hid (∀V,Below w.heap.size w V->Calls Tryz.prog 61 #[.agg (q0l A C ss t0 t1 t2 f).toArray,.string x] V fun e w'=>e=.returned (.tuple #[.int .i64 p,.int .i64 0])/\Below V.heap.size V w'):=fun V hV=>by
 obtain⟨L0,L1,L2,k⟩:=hK
 have hB':=hB.up hV
 have c:=q4y A C ss t0 t1 t2 f x V (hZ.below hV) hB'.len hB'.st hB'.o0 hB'.o1 hB'.o2 true k.ok
 rw[hx] at c
 have hn:¬p<0:=by omega
 simp only[if_true,hn,if_false] at c
 exact c

theorem qi6(hZ:SzAt w)(hB:q2s w A C ss t0 t1 t2)(hK:KB ss f t0 t1 t2 pts){x:ByteArray}(hx:Lib.idxOfS ss x<0):
  Hid (∀V,Below w.heap.size w V->Calls Tryz.prog 61 #[.agg (q0l A C ss t0 t1 t2 f).toArray,.string x] V fun e w'=>e=.returned (.tuple #[.int .i64 0,.int .i64 6])/\Below V.heap.size V w'):=fun V hV=>by
 obtain⟨L0,L1,L2,k⟩:=hK
 have hB':=hB.up hV
 have c:=q4y A C ss t0 t1 t2 f x V (hZ.below hV) hB'.len hB'.st hB'.o0 hB'.o1 hB'.o2 true k.ok
 simp only[if_true,hx] at c
 exact c

theorem qvd(hZ:SzAt w)(hB:q2s w A C ss t0 t1 t2)(hK:KB ss f t0 t1 t2 pts){x:ByteArray}{a b:Int}(hx:0<=Lib.idxOfS ss x)(hsp:q5s a b=true)(hn:pts.length<=100000):
  Calls Tryz.prog 17 #[.agg (q0l A C ss t0 t1 t2 f).toArray,.string x,.int .i64 a,.int .i64 b] w (MaTo (sumR (qi0 x a b pts),0) w):=by
 obtain⟨L0,L1,L2,k⟩:=hK
 have c:=qw4 A C ss t0 t1 t2 f x a b _ L0 L1 L2 w hZ hB.len hB.st hB.o0 hB.o1 hB.o2 k.ok k.lst rfl hx (qww rfl k.lst.few) hsp
 rw[k.total rfl hx hn] at c
 exact c

theorem qv0(hZ:SzAt w)(hB:q2s w A C ss t0 t1 t2)(hK:KB ss f t0 t1 t2 pts){x:ByteArray}{a b:Int}(hx:Lib.idxOfS ss x<0):
  Calls Tryz.prog 17 #[.agg (q0l A C ss t0 t1 t2 f).toArray,.string x,.int .i64 a,.int .i64 b] w (MaTo (zro,6) w):=
 qyf A C ss t0 t1 t2 f x a b w 6 0 rfl (qi6 hZ hB hK hx)

theorem qui(hZ:SzAt w)(hB:q2s w A C ss t0 t1 t2)(hK:KB ss f t0 t1 t2 pts){x:ByteArray}{a b:Int}(hx:0<=Lib.idxOfS ss x)(hsp:q5s a b=false):
  Calls Tryz.prog 17 #[.agg (q0l A C ss t0 t1 t2 f).toArray,.string x,.int .i64 a,.int .i64 b] w (MaTo (zro,2) w):=
 qpg A C ss t0 t1 t2 f x a b w _ hsp (qdx hZ hB hK rfl hx)
end

theorem z1k:q4a [] 0 ([q3n].map PN.nd) 0 ([q3n].map PN.nd) 0 ([q3n].map PN.nd) 0 [] [] [] []:=by
 obtain⟨L0,L1,L2,hL⟩:=qei qcy
 obtain⟨rfl,rfl,rfl⟩:=z2n hL
 exact⟨qcy,hL,rfl,fun p hp=>by simp at hp⟩

theorem qpn(w:World):Calls Tryz.prog 50 #[] w fun e w'=>∃t0 t1 t2,e=.returned (.agg (q0l none 0 [] t0 t1 t2 0).toArray)/\OwnB w.heap.size w' none 0 [] t0 t1 t2/\KB [] 0 t0 t1 t2 []/\Below w.heap.size w w':=by
 refine(ql9 w).mono ?_
 rintro e w' ⟨g0,g1,g2,rfl,n0,n1,n2,hb⟩
 exact⟨⟨some ⟨g0,0,none⟩,1,[q3n],0⟩,⟨some ⟨g1,0,none⟩,1,[q3n],0⟩,⟨some ⟨g2,0,none⟩,1,[q3n],0⟩,rfl,⟨World.ownsRow_nil _ _ _ _,by simp,by simp,⟨g0,rfl,n0⟩,⟨g1,rfl,n1⟩,⟨g2,rfl,n2⟩⟩,⟨[],[],[],z1k⟩,hb⟩

end
section
open Go.RowKit Plain Go.Shelf

def qsv(t:Int)(l:List Pt):List Pt:=l.filter fun p=>decide (t<=p.t)

theorem z1t{ss:List ByteArray}{p:Pt}{f t:Int}(hm:p.s∈ss)(hp:p.ok f):yngB t (ptIn ss p)=decide (t<=p.t):=by
 have h0:=hp.t0
 have h1:=hp.t1
 obtain⟨k,hk,ek,hd⟩:=qiy hm
 have k2:(ptIn ss p).key%1048576=p.t:=by
  show(Lib.idxOfS ss p.s*1048576+p.t)%1048576=p.t
  rw[ek];omega
 unfold yngB
 rw[k2]

theorem q4a.exp{ss:List ByteArray}{f t:Int}{n0 n1 n2 m0 m1 m2:List Nd}{r0 r1 r2 q0 q1 q2:Int}{pts:List Pt}{L0 L1 L2 K0 K1 K2:List En}(h:q4a ss f n0 r0 n1 r1 n2 r2 pts L0 L1 L2)(hy:qmg ss f t n0 r0 n1 r1 n2 r2 m0 q0 m1 q1 m2 q2 K0 K1 K2):
  q4a ss t m0 q0 m1 q1 m2 q2 (qsv t pts) (K0.filter (yngB t)) (K1.filter (yngB t)) (K2.filter (yngB t)):=by
 obtain⟨hb,-⟩:=hy.base
 obtain⟨J0,J1,J2,hJ⟩:=qei hb
 obtain rfl:J0=K0.filter (yngB t):=(Prod.mk.inj (hJ.a0.symm.trans hy.a0)).2
 obtain rfl:J1=K1.filter (yngB t):=(Prod.mk.inj (hJ.a1.symm.trans hy.a1)).2
 obtain rfl:J2=K2.filter (yngB t):=(Prod.mk.inj (hJ.a2.symm.trans hy.a2)).2
 obtain rfl:K0=L0:=(Prod.mk.inj (hy.lst.a0.symm.trans h.lst.a0)).2
 refine⟨hb,hJ,?_,fun p hp=>?_⟩
 ·have h1:=q5d (P:=fun k=>decide (t<=k%1048576)) (pts.map (ptIn ss)) [] K0 (by simp) h.all
  have e:((pts.map (ptIn ss)).filter fun z=>decide (t<=z.key%1048576))=(qsv t pts).map (ptIn ss):=by
   rw[List.filter_map]
   congr 1
   exact List.filter_congr fun p hp=>z1t (h.pt p hp).1 (h.pt p hp).2
  rw[e] at h1
  exact h1
 ·obtain⟨hp,ht⟩:=List.mem_filter.1 hp
  obtain⟨h1,h2⟩:=h.pt p hp
  exact⟨h1,h2.t0,h2.t1,h2.v0,h2.v1,of_decide_eq_true ht⟩

section
variable {A : Option Addr} {C : Nat} {ss : List ByteArray} {t0 t1 t2 : TR} {f : Int} {pts : List Pt} {w w' : World}

theorem qyl(hZ:SzAt w)(hB:q2s w A C ss t0 t1 t2)(hK:KB ss f t0 t1 t2 pts){t:Int}(hp:q6m f t=0)(hn:pts.length<=2900):
  Calls Tryz.prog 118 #[.agg (q0l A C ss t0 t1 t2 f).toArray,.int .i64 t] w (qxw ss t (qsv t pts) w):=by
 obtain⟨L0,L1,L2,k⟩:=hK
 refine(qne A C ss t0 t1 t2 f t w hZ hB.len hB.st hB.o0 hB.o1 hB.o2).mono ?_
 rintro e w' ⟨hb,h⟩
 rcases h with⟨c,_,hno,_⟩|⟨A',C',u0,u1,u2,K0,K1,K2,hy,rfl,ho⟩
 ·exfalso
  rcases hno with⟨h1,_⟩|⟨_,h1,_⟩|⟨_,_,_,h1⟩
  ·rw[k.ok] at h1;cases h1
  ·exact h1 hp
  ·have h2:=h1 L0 L1 L2 k.lst
   have h3:(L0.filter (yngB t)).length<=L0.length:=List.length_filter_le _ _
   have h4:=k.few.1
   omega
 ·exact⟨A',C',u0,u1,u2,rfl,ho,⟨_,_,_,k.exp hy⟩,hb⟩

theorem qzq(hZ:SzAt w)(hB:q2s w A C ss t0 t1 t2)(hK:KB ss f t0 t1 t2 pts){t c:Int}(hp:q6m f t=c)(hc:c≠0):
  Calls Tryz.prog 118 #[.agg (q0l A C ss t0 t1 t2 f).toArray,.int .i64 t] w fun e w'=>e=.returned (q2a c)/\Below w.heap.size w w':=by
 obtain⟨L0,L1,L2,k⟩:=hK
 refine(qne A C ss t0 t1 t2 f t w hZ hB.len hB.st hB.o0 hB.o1 hB.o2).mono ?_
 rintro e w' ⟨hb,h⟩
 rcases h with⟨d,_,hno,rfl⟩|⟨A',C',u0,u1,u2,K0,K1,K2,hy,_⟩
 ·rcases hno with⟨h1,_⟩|⟨_,_,h1⟩|⟨_,h1,_⟩
  ·rw[k.ok] at h1;cases h1
  ·rw[h1,hp]
   exact⟨rfl,hb⟩
  ·omega
 ·exact absurd (hy.fl.symm.trans hp).symm hc
end

end
section
open Go.RowKit Plain Go.Shelf

def qby(ss:List ByteArray)(f:Int):Bool:=decide (ss.length<=16)&&(inB f 0 1048575&&(decide (f%3600=0)&&q5j ss))

theorem qxc:allP ([q3n].map PN.nd) 0 0 1099511627776=(0,[]):=by
 obtain⟨L0,L1,L2,hL⟩:=qei qcy
 obtain⟨rfl,rfl,rfl⟩:=z2n hL
 exact hL.a0

theorem qof(ss:List ByteArray)(f:Int):q2o ss f ([q3n].map PN.nd) 0 ([q3n].map PN.nd) 0 ([q3n].map PN.nd) 0=qby ss f:=by
 have ht:q9c ss.length f ([q3n].map PN.nd) 0 ([q3n].map PN.nd) 0 ([q3n].map PN.nd) 0=true:=by
  have hb:q7b ([q3n].map PN.nd) 0 ss.length f=some []:=by
   unfold q7b
   rw[qxc]
   rfl
  have hs:∀size:Int,q2z size [] ([q3n].map PN.nd) 0=true:=fun size=>by
   unfold q2z
   rw[qxc]
   rfl
  unfold q9c
  rw[hb]
  simp only[hs,Bool.and_self]
 unfold q2o qby
 rw[ht,Bool.and_true]

def zTR(g:Nat):TR:=⟨some ⟨g,0,none⟩,1,[q3n],0⟩

theorem q8r{B g:Nat}{w:World}(h:NT B w g 1 [q3n]):(zTR g).ok w:=by
 obtain⟨L0,L1,L2,hL⟩:=qei qcy
 have k0:=(q3c hL.a0).1
 exact⟨h.nodes,q5h k0,q7r k0⟩

set_option maxRecDepth 20000 in
set_option maxHeartbeats 2000000 in
theorem q9j(A:Option Addr)(C:Nat)(ss:List ByteArray)(f:Int)(w:World)(hZ:SzAt w)(hC:ss.length<=C)(hS:q2v w.heap.size w A ss):
  Calls Tryz.prog 81 #[.slice A ss.length C,.int .i64 f] w fun e w'=>e=.returned (.bool (qby ss f))/\Below w.heap.size w w':=by
 obtain⟨bb,hbb⟩:∃bb,qby ss f=bb:=⟨_,rfl⟩
 rw[hbb]
 have CK:=q0a fun W (hW:Below w.heap.size w W) g0 g1 g2 (h0:(zTR g0).ok W) (h1:(zTR g1).ok W) (h2:(zTR g2).ok W)=>q6l A C ss (zTR g0) (zTR g1) (zTR g2) f W (hZ.below hW) hC (hS.up hW) h0 h1 h2 bb (by show _=_;rw[<-hbb,<-qof];rfl)
 have BN:=q0a (ql9 w)
 simp only[q0l,zTR] at CK
 clear hbb hZ hS
 cases bb with
 |true=>
  simp only[if_true] at CK
  go_enter Tryz.func81,Tryz.ntmps81
  go_upto_region 2 with(first
   |(go_at_call 50;refine BN.out.mono ?_;rintro e w2 ⟨g0,g1,g2,rfl,n0,n1,n2,hb2⟩;have H0:=q0a (fun W (hW:Below w2.heap.size w2 W)=>(⟨(q8r n0).1.up hW,(q8r n0).2⟩:(zTR g0).ok W));have H1:=q0a (fun W (hW:Below w2.heap.size w2 W)=>(⟨(q8r n1).1.up hW,(q8r n1).2⟩:(zTR g1).ok W));have H2:=q0a (fun W (hW:Below w2.heap.size w2 W)=>(⟨(q8r n2).1.up hW,(q8r n2).2⟩:(zTR g2).ok W));have HB2:=q0a hb2;clear n0 n1 n2 hb2))
  go_wp2_with (first
   |(go_at_call 15;refine(CK.out _ (q0e HB2.out (Nat.le_refl _) (by repeat (first|exact(Below.refl _ _).alloc (Nat.le_refl _) _|refine Below.setCell ?_ (Nat.le_refl _) _))) _ _ _ (H0.out _ (by repeat (first|exact(Below.refl _ _).alloc (Nat.le_refl _) _|refine Below.setCell ?_ (Nat.le_refl _) _))) (H1.out _ (by repeat (first|exact(Below.refl _ _).alloc (Nat.le_refl _) _|refine Below.setCell ?_ (Nat.le_refl _) _))) (H2.out _ (by repeat (first|exact(Below.refl _ _).alloc (Nat.le_refl _) _|refine Below.setCell ?_ (Nat.le_refl _) _)))).mono ?_;rintro e w3 ⟨rfl,hb3⟩))
  go_ret
  exact⟨rfl,q0e (q0e HB2.out (Nat.le_refl _) (by repeat (first|exact(Below.refl _ _).alloc (Nat.le_refl _) _|refine Below.setCell ?_ (Nat.le_refl _) _))) (Nat.le_refl _) hb3⟩
 |false=>
  simp only[Bool.false_eq_true,if_false] at CK
  go_enter Tryz.func81,Tryz.ntmps81
  go_upto_region 2 with(first
   |(go_at_call 50;refine BN.out.mono ?_;rintro e w2 ⟨g0,g1,g2,rfl,n0,n1,n2,hb2⟩;have H0:=q0a (fun W (hW:Below w2.heap.size w2 W)=>(⟨(q8r n0).1.up hW,(q8r n0).2⟩:(zTR g0).ok W));have H1:=q0a (fun W (hW:Below w2.heap.size w2 W)=>(⟨(q8r n1).1.up hW,(q8r n1).2⟩:(zTR g1).ok W));have H2:=q0a (fun W (hW:Below w2.heap.size w2 W)=>(⟨(q8r n2).1.up hW,(q8r n2).2⟩:(zTR g2).ok W));have HB2:=q0a hb2;clear n0 n1 n2 hb2))
  go_wp2_with (first
   |(go_at_call 15;refine(CK.out _ (q0e HB2.out (Nat.le_refl _) (by repeat (first|exact(Below.refl _ _).alloc (Nat.le_refl _) _|refine Below.setCell ?_ (Nat.le_refl _) _))) _ _ _ (H0.out _ (by repeat (first|exact(Below.refl _ _).alloc (Nat.le_refl _) _|refine Below.setCell ?_ (Nat.le_refl _) _))) (H1.out _ (by repeat (first|exact(Below.refl _ _).alloc (Nat.le_refl _) _|refine Below.setCell ?_ (Nat.le_refl _) _))) (H2.out _ (by repeat (first|exact(Below.refl _ _).alloc (Nat.le_refl _) _|refine Below.setCell ?_ (Nat.le_refl _) _)))).mono ?_;rintro e w3 ⟨rfl,hb3⟩))
  go_ret
  exact⟨rfl,q0e (q0e HB2.out (Nat.le_refl _) (by repeat (first|exact(Below.refl _ _).alloc (Nat.le_refl _) _|refine Below.setCell ?_ (Nat.le_refl _) _))) (Nat.le_refl _) hb3⟩

structure PtsL(l:List En):Prop where
 z:l.length<=28000
 rise:l.Pairwise fun a b=>a.key<b.key
 good:∀x∈l,Good x.ru
 keys:∀x∈l,0<=x.key/\x.key<1099511627776

def GaTo(l:List En)(size:Int)(w:World)(e:Ending)(w':World):Prop:=
 Below w.heap.size w w'/\((∃ys v,q1c size l=some ys/\e=.returned (.tuple #[v,.int .i64 0])/\w'.ownsRow w.heap.size 86 7 v ys.length (q0d ys))\/(q1c size l=none/\e=.returned (.tuple #[.slice none 0 0,.int .i64 1])))

theorem qel(A:Option Addr)(C:Nat)(l:List En)(size:Int)(hs:size=1\/size=60\/size=3600)(w:World)(h:q0j w.heap.size w A (q0d l))(hl:PtsL l):
  Calls Tryz.prog 110 #[.slice A l.length C,.int .i64 size] w (GaTo l size w):=
 qc0 A C l size hs w h hl.z hl.rise hl.good hl.keys _ (fun e w' hb h1 h2=>by
  cases hr:q1c size l with
  |none=>exact⟨hb,.inr ⟨hr,h2 hr⟩⟩
  |some ys=>
   obtain⟨v,he,ho⟩:=h1 ys hr
   exact⟨hb,.inl ⟨ys,v,hr,he,ho⟩⟩)

theorem qa7{A:Option Addr}{C:Nat}{l ys:List En}{size:Int}(hs:size=1\/size=60\/size=3600){w:World}(h:q0j w.heap.size w A (q0d l))(hl:PtsL l)(hr:q1c size l=some ys):
  Calls Tryz.prog 110 #[.slice A l.length C,.int .i64 size] w fun e w'=>∃g c,e=.returned (.tuple #[.slice g ys.length c,.int .i64 0])/\Below w.heap.size w w'/\w'.ownsRow w.heap.size 86 7 (.slice g ys.length c) ys.length (q0d ys):=by
 refine(qel A C l size hs w h hl).mono ?_
 rintro e w' ⟨hb,⟨zs,v,hz,rfl,ho⟩|⟨hz,_⟩⟩
 ·rw[hr] at hz
  cases hz
  obtain⟨g,c,rfl,-⟩:=q0h ho
  exact⟨g,c,rfl,hb,ho⟩
 ·rw[hr] at hz
  cases hz

theorem qaa{A:Option Addr}{C:Nat}{l:List En}{size:Int}(hs:size=1\/size=60\/size=3600){w:World}(h:q0j w.heap.size w A (q0d l))(hl:PtsL l)(hr:q1c size l=none):
  Calls Tryz.prog 110 #[.slice A l.length C,.int .i64 size] w fun e w'=>e=.returned (.tuple #[.slice none 0 0,.int .i64 1])/\Below w.heap.size w w':=by
 refine(qel A C l size hs w h hl).mono ?_
 rintro e w' ⟨hb,⟨zs,v,hz,_⟩|⟨_,he⟩⟩
 ·rw[hr] at hz
  cases hz
 ·exact⟨he,hb⟩

theorem q6d{B:Nat}{w w':World}{t:TypeId}{size n:Nat}{v:Value}{vs:List Value}(h:w.ownsRow B t size v n vs)(hk:∀j,B<=j->j<w.heap.size->w'.heap[j]? =w.heap[j]?):w'.ownsRow B t size v n vs:=
 q0c h fun k e=>hk k (h.lt k e).1 (h.lt k e).2

theorem qlb{B B':Nat}{w:World}{t:TypeId}{size n:Nat}{v:Value}{vs:List Value}(h:w.ownsRow B t size v n vs)(hB:B'<=B):w.ownsRow B' t size v n vs:=
 ⟨h.1,h.2.imp id fun⟨g,cap,cur,hv,hb,r⟩=>⟨g,cap,cur,hv,Nat.le_trans hB hb,r⟩⟩

def BkAt(B:Nat)(w:World)(xb:Nat)(l:List En):Nat->Prop
 |0=>RowL w xb 141 [.slice none 0 0,.slice none 0 0,.slice none 0 0]
 |1=>∃g0 c0 y0,q1c 1 l=some y0/\w.ownsRow B 86 7 (.slice g0 y0.length c0) y0.length (q0d y0)/\RowL w xb 141 [.slice g0 y0.length c0,.slice none 0 0,.slice none 0 0]
 |2=>∃g0 c0 y0 g1 c1 y1,q1c 1 l=some y0/\q1c 60 l=some y1/\w.ownsRow B 86 7 (.slice g0 y0.length c0) y0.length (q0d y0)/\w.ownsRow B 86 7 (.slice g1 y1.length c1) y1.length (q0d y1)/\RowL w xb 141 [.slice g0 y0.length c0,.slice g1 y1.length c1,.slice none 0 0]
 |_=>∃g0 c0 y0 g1 c1 y1 g2 c2 y2,q1c 1 l=some y0/\q1c 60 l=some y1/\q1c 3600 l=some y2/\w.ownsRow B 86 7 (.slice g0 y0.length c0) y0.length (q0d y0)/\w.ownsRow B 86 7 (.slice g1 y1.length c1) y1.length (q0d y1)/\w.ownsRow B 86 7 (.slice g2 y2.length c2) y2.length (q0d y2)/\RowL w xb 141 [.slice g0 y0.length c0,.slice g1 y1.length c1,.slice g2 y2.length c2]

def BkTo(l:List En)(w:World)(e:Ending)(w':World):Prop:=
 Below w.heap.size w w'/\(((q1c 1 l=none\/q1c 60 l=none\/q1c 3600 l=none)/\e=.returned (.tuple #[.agg #[.slice none 0 0,.slice none 0 0,.slice none 0 0],.int .i64 1]))\/
  (∃g0 c0 y0 g1 c1 y1 g2 c2 y2,q1c 1 l=some y0/\q1c 60 l=some y1/\q1c 3600 l=some y2/\w'.ownsRow w.heap.size 86 7 (.slice g0 y0.length c0) y0.length (q0d y0)/\w'.ownsRow w.heap.size 86 7 (.slice g1 y1.length c1) y1.length (q0d y1)/\w'.ownsRow w.heap.size 86 7 (.slice g2 y2.length c2) y2.length (q0d y2)/\e=.returned (.tuple #[.agg #[.slice g0 y0.length c0,.slice g1 y1.length c1,.slice g2 y2.length c2],.int .i64 0])))

theorem qk2{B xb k n:Nat}{w w3:World}{u v:Value}{vs:List Value}(h:w.ownsRow B 86 7 v n vs)(hb:Below w.heap.size w w3)(hx:xb<B):(w3.setCell ⟨xb,k,none⟩ u).ownsRow B 86 7 v n vs:=
 q6d h fun j h1 h2=>(Below.heap_setCell _ _ _ _ (show j≠xb by omega)).trans (hb.block j h2)

theorem qkm{B B' xb k n:Nat}{w3:World}{u v:Value}{vs:List Value}(h:w3.ownsRow B' 86 7 v n vs)(hB:B<=B')(hx:xb<B):(w3.setCell ⟨xb,k,none⟩ u).ownsRow B 86 7 v n vs:=
 q6d (qlb h hB) fun j h1 _=>Below.heap_setCell _ _ _ _ (show j≠xb by omega)

theorem ql0{B B' rb n:Nat}{w:World}{u0 u1 u2 v:Value}{vs:List Value}(h:w.ownsRow B 86 7 v n vs)(hB:B'<=B)(hx:rb<B):(((w.setCell ⟨rb,0,none⟩ u0).setCell ⟨rb,1,none⟩ u1).setCell ⟨rb,2,none⟩ u2).ownsRow B' 86 7 v n vs:=
 qlb (q6d h fun j h1 _=>(Below.heap_setCell _ _ _ _ (show j≠rb by omega)).trans ((Below.heap_setCell _ _ _ _ (show j≠rb by omega)).trans (Below.heap_setCell _ _ _ _ (show j≠rb by omega)))) hB

set_option maxRecDepth 20000 in
set_option maxHeartbeats 4000000 in
theorem qal(A:Option Addr)(C:Nat)(l:List En)(w:World)(hZ:SzAt w)(h:q0j w.heap.size w A (q0d l))(hl:PtsL l):
  Calls Tryz.prog 83 #[.slice A l.length C] w (BkTo l w):=by
 unfold BkTo
 have SZ:=q0a fun W (hW:Below w.heap.size w W)=>q3a W (hZ.below hW)
 have HRW:=q0a h
 have HPL:=q0a hl
 clear h hl hZ
 have i0:∀w,(Instr.index 156 (.agg #[.int .i64 1,.int .i64 60,.int .i64 3600]) (.int .i64 0)).run Tryz.prog w=.ok (.int .i64 1) w:=fun _=>by kernel_rfl
 have i1:∀w,(Instr.index 156 (.agg #[.int .i64 1,.int .i64 60,.int .i64 3600]) (.int .i64 1)).run Tryz.prog w=.ok (.int .i64 60) w:=fun _=>by kernel_rfl
 have i2:∀w,(Instr.index 156 (.agg #[.int .i64 1,.int .i64 60,.int .i64 3600]) (.int .i64 2)).run Tryz.prog w=.ok (.int .i64 3600) w:=fun _=>by kernel_rfl
 go_enter Tryz.func83,Tryz.ntmps83
 go_upto_region 2 with fail
 obtain⟨w0,hw0⟩:∃w0,w0=(w.alloc (.cells #[.slice none 0 0,.slice none 0 0,.slice none 0 0] 141)).alloc (.cells #[.slice none 0 0,.slice none 0 0,.slice none 0 0] 141):=⟨_,rfl⟩
 obtain⟨xb,hxb⟩:∃xb,xb=w.heap.size+1:=⟨_,rfl⟩
 obtain⟨rb,hrb⟩:∃rb,rb=w.heap.size:=⟨_,rfl⟩
 have HX:Hid (w.heap.size<=rb/\rb<xb):=⟨by omega,by omega⟩
 have XA:Hid (RowL w0 xb 141 [.slice none 0 0,.slice none 0 0,.slice none 0 0]):=by
  have k:=q0b (w.alloc (.cells #[.slice none 0 0,.slice none 0 0,.slice none 0 0] 141)) [.slice none 0 0,.slice none 0 0,.slice none 0 0] 141
  rw[hw0,hxb]
  show RowL _ _ _ _
  simpa using k
 have XR:Hid (RowL w0 rb 141 [.slice none 0 0,.slice none 0 0,.slice none 0 0]):=by
  rw[hw0,hrb]
  exact(q0b w [.slice none 0 0,.slice none 0 0,.slice none 0 0] 141).below ((Below.refl _ _).alloc (Nat.le_refl _) _) (by simp)
 have HB0:Hid (Below w.heap.size w w0):=by
  rw[hw0]
  exact((Below.refl _ _).alloc (Nat.le_refl _) _).alloc (by simp) _
 rw[<-hw0,<-hxb,<-hrb]
 clear hw0 hxb hrb
 go_upto_region 3 with(first
  |(go_at_call 99;refine(SZ.out _ HB0.out).mono ?_;rintro e w1 ⟨rfl,hb1⟩;have XA':=q0a (XA.out.below hb1 XA.out.lt);have XR':=q0a (XR.out.below hb1 XR.out.lt);have HB1:=q0a (q0e HB0.out (Nat.le_refl _) hb1);have hxl:=XA'.out.lt;clear hb1 XA XR))
 clear SZ
 go_loopw [10] (fun vi wr=>∃k:Nat,k<=3/\vi=.int .i64 (k:Int)/\Hid (BkAt w1.heap.size wr xb l k)/\Hid (Below w.heap.size w wr)/\Hid (w1.heap.size<=wr.heap.size)/\Hid (RowL wr rb 141 [.slice none 0 0,.slice none 0 0,.slice none 0 0])) (fun vi _=>3-(intOf vi).toNat)
 case atStart=>exact⟨0,by omega,rfl,XA'.out,HB1.out,Nat.le_refl _,XR'.out⟩
 case round=>
  obtain⟨k,hk,rfl,HK,HB,HZ,HR⟩:=hrel
  rcases(show k=0\/k=1\/k=2\/k=3 by omega) with rfl|rfl|rfl|rfl
  ·have hrow:RowL wr xb 141 [.slice none 0 0,.slice none 0 0,.slice none 0 0]:=HK.out
   have HRx:=q0a hrow
   have x:=fun j=>HRx.out.cell j
   have lx:=HRx.out.lt
   have rr:=fun j=>HR.out.cell j
   have lr:=HR.out.lt
   have fr:=fun j=>HR.out.frozen j
   clear hrow HK
   cases hr:q1c 1 l with
   |none=>
    have con:=q0a (qaa (C:=C) (.inl rfl) (HRW.out.up HB.out) HPL.out hr)
    have HN:=q0a hr
    clear hr
    go_wp2_with (first
     |(go_at_call 110;refine con.out.mono ?_;rintro e w3 ⟨rfl,hb3⟩;have R3:=q0a (HR.out.below hb3 HR.out.lt);have s:=fun j=>R3.out.cell j;have ls:=R3.out.lt;have fs:=fun j=>R3.out.frozen j))
    refine bodyPost_ret (v:=.tuple #[.agg #[.slice none 0 0,.slice none 0 0,.slice none 0 0],.int .i64 1]) (by simp[results,Tryz.results83,go_sem,s]) rfl ⟨?_,.inl ⟨.inl HN.out,rfl⟩⟩
    exact(((q0e HB.out (Nat.le_refl _) hb3).setCell HX.out.1 _).setCell HX.out.1 _).setCell HX.out.1 _
   |some y0=>
    have con:=q0a (qa7 (C:=C) (.inl rfl) (HRW.out.up HB.out) HPL.out hr)
    have HN:=q0a hr
    clear hr rr lr fr
    go_wp2_with (first
     |(go_at_call 110;refine con.out.mono ?_;rintro e w3 ⟨g0,c0,rfl,hb3,ho3⟩;have R3:=q0a (HR.out.below hb3 HR.out.lt);have X3:=q0a (HRx.out.below hb3 HRx.out.lt);have s:=fun j=>X3.out.cell j;have ls:=X3.out.lt;have fs:=fun j=>X3.out.frozen j;have HB3:=q0a hb3;have HO3:=q0a ho3;clear hb3 ho3))
    exact⟨⟨1,by omega,rfl,⟨g0,c0,y0,HN.out,qkm HO3.out HZ.out hxl,X3.out.set 0 _⟩,(q0e HB.out (Nat.le_refl _) HB3.out).setCell (by have:=HX.out;show w.heap.size<=xb;omega) _,by have:=HB3.out.size;have:=HZ.out;simp[Hid];omega,R3.out.of_block (Below.heap_setCell _ _ _ _ (show rb≠xb by have:=HX.out;omega))⟩,by simp only[intOf];omega⟩
  ·obtain⟨g0,c0,y0,r0,o0,hrow⟩:=HK.out
   have HRx:=q0a hrow
   have HO0:=q0a o0
   have HN0:=q0a r0
   have x:=fun j=>HRx.out.cell j
   have lx:=HRx.out.lt
   have rr:=fun j=>HR.out.cell j
   have lr:=HR.out.lt
   have fr:=fun j=>HR.out.frozen j
   clear hrow HK o0 r0
   cases hr:q1c 60 l with
   |none=>
    have con:=q0a (qaa (C:=C) (.inr (.inl rfl)) (HRW.out.up HB.out) HPL.out hr)
    have HN:=q0a hr
    clear hr
    go_wp2_with (first
     |(go_at_call 110;refine con.out.mono ?_;rintro e w3 ⟨rfl,hb3⟩;have R3:=q0a (HR.out.below hb3 HR.out.lt);have s:=fun j=>R3.out.cell j;have ls:=R3.out.lt;have fs:=fun j=>R3.out.frozen j))
    refine bodyPost_ret (v:=.tuple #[.agg #[.slice none 0 0,.slice none 0 0,.slice none 0 0],.int .i64 1]) (by simp[results,Tryz.results83,go_sem,s]) rfl ⟨?_,.inl ⟨.inr (.inl HN.out),rfl⟩⟩
    exact(((q0e HB.out (Nat.le_refl _) hb3).setCell HX.out.1 _).setCell HX.out.1 _).setCell HX.out.1 _
   |some y1=>
    have con:=q0a (qa7 (C:=C) (.inr (.inl rfl)) (HRW.out.up HB.out) HPL.out hr)
    have HN:=q0a hr
    clear hr rr lr fr
    go_wp2_with (first
     |(go_at_call 110;refine con.out.mono ?_;rintro e w3 ⟨g1,c1,rfl,hb3,ho3⟩;have R3:=q0a (HR.out.below hb3 HR.out.lt);have X3:=q0a (HRx.out.below hb3 HRx.out.lt);have s:=fun j=>X3.out.cell j;have ls:=X3.out.lt;have fs:=fun j=>X3.out.frozen j;have HB3:=q0a hb3;have HO3:=q0a ho3;clear hb3 ho3))
    exact⟨⟨2,by omega,rfl,⟨g0,c0,y0,g1,c1,y1,HN0.out,HN.out,qk2 HO0.out HB3.out hxl,qkm HO3.out HZ.out hxl,X3.out.set 1 _⟩,(q0e HB.out (Nat.le_refl _) HB3.out).setCell (by have:=HX.out;show w.heap.size<=xb;omega) _,by have:=HB3.out.size;have:=HZ.out;simp[Hid];omega,R3.out.of_block (Below.heap_setCell _ _ _ _ (show rb≠xb by have:=HX.out;omega))⟩,by simp only[intOf];omega⟩
  ·obtain⟨g0,c0,y0,g1,c1,y1,r0,r1,o0,o1,hrow⟩:=HK.out
   have HRx:=q0a hrow
   have HO0:=q0a o0
   have HN0:=q0a r0
   have HO1:=q0a o1
   have HN1:=q0a r1
   have x:=fun j=>HRx.out.cell j
   have lx:=HRx.out.lt
   have rr:=fun j=>HR.out.cell j
   have lr:=HR.out.lt
   have fr:=fun j=>HR.out.frozen j
   clear hrow HK o0 r0 o1 r1
   cases hr:q1c 3600 l with
   |none=>
    have con:=q0a (qaa (C:=C) (.inr (.inr rfl)) (HRW.out.up HB.out) HPL.out hr)
    have HN:=q0a hr
    clear hr
    go_wp2_with (first
     |(go_at_call 110;refine con.out.mono ?_;rintro e w3 ⟨rfl,hb3⟩;have R3:=q0a (HR.out.below hb3 HR.out.lt);have s:=fun j=>R3.out.cell j;have ls:=R3.out.lt;have fs:=fun j=>R3.out.frozen j))
    refine bodyPost_ret (v:=.tuple #[.agg #[.slice none 0 0,.slice none 0 0,.slice none 0 0],.int .i64 1]) (by simp[results,Tryz.results83,go_sem,s]) rfl ⟨?_,.inl ⟨.inr (.inr HN.out),rfl⟩⟩
    exact(((q0e HB.out (Nat.le_refl _) hb3).setCell HX.out.1 _).setCell HX.out.1 _).setCell HX.out.1 _
   |some y2=>
    have con:=q0a (qa7 (C:=C) (.inr (.inr rfl)) (HRW.out.up HB.out) HPL.out hr)
    have HN:=q0a hr
    clear hr rr lr fr
    go_wp2_with (first
     |(go_at_call 110;refine con.out.mono ?_;rintro e w3 ⟨g2,c2,rfl,hb3,ho3⟩;have R3:=q0a (HR.out.below hb3 HR.out.lt);have X3:=q0a (HRx.out.below hb3 HRx.out.lt);have s:=fun j=>X3.out.cell j;have ls:=X3.out.lt;have fs:=fun j=>X3.out.frozen j;have HB3:=q0a hb3;have HO3:=q0a ho3;clear hb3 ho3))
    exact⟨⟨3,by omega,rfl,⟨g0,c0,y0,g1,c1,y1,g2,c2,y2,HN0.out,HN1.out,HN.out,qk2 HO0.out HB3.out hxl,qk2 HO1.out HB3.out hxl,qkm HO3.out HZ.out hxl,X3.out.set 2 _⟩,(q0e HB.out (Nat.le_refl _) HB3.out).setCell (by have:=HX.out;show w.heap.size<=xb;omega) _,by have:=HB3.out.size;have:=HZ.out;simp[Hid];omega,R3.out.of_block (Below.heap_setCell _ _ _ _ (show rb≠xb by have:=HX.out;omega))⟩,by simp only[intOf];omega⟩
  ·obtain⟨g0,c0,y0,g1,c1,y1,g2,c2,y2,r0,r1,r2,o0,o1,o2,hrow⟩:=HK.out
   have HRx:=q0a hrow
   have HO0:=q0a o0
   have HN0:=q0a r0
   have HO1:=q0a o1
   have HN1:=q0a r1
   have HO2:=q0a o2
   have HN2:=q0a r2
   have x:=fun j=>HRx.out.cell j
   have lx:=HRx.out.lt
   have rr:=fun j=>HR.out.cell j
   have lr:=HR.out.lt
   have fr:=fun j=>HR.out.frozen j
   clear hrow HK o0 r0 o1 r1 o2 r2
   go_wp2_with fail
   refine bodyPost_ret (v:=.tuple #[.agg #[.slice g0 y0.length c0,.slice g1 y1.length c1,.slice g2 y2.length c2],.int .i64 0]) (by simp[results,Tryz.results83,go_sem,rr]) rfl ⟨((HB.out.setCell HX.out.1 _).setCell HX.out.1 _).setCell HX.out.1 _,.inr ⟨g0,c0,y0,g1,c1,y1,g2,c2,y2,HN0.out,HN1.out,HN2.out,?_,?_,?_,rfl⟩⟩
   ·exact ql0 HO0.out HB1.out.size (by have:=HX.out;omega)
   ·exact ql0 HO1.out HB1.out.size (by have:=HX.out;omega)
   ·exact ql0 HO2.out HB1.out.size (by have:=HX.out;omega)

def bofB(ss:List ByteArray)(f:Int)(L:List En):Bool:=qby ss f&&L.all (q5t ss.length f)

theorem qrw{n f:Int}{L:List En}(hz:L.length<=28000)(hr:L.Pairwise fun a b=>a.key<b.key)(hk:∀x∈L,0<=x.key/\x.key<1099511627776)(hc:∀x∈L,x.c≠0)(h:L.all (q5t n f)=true):PtsL L:=by
 refine⟨hz,hr,fun x hx=>⟨?_,hc x hx⟩,hk⟩
 have k:=List.all_eq_true.1 h x hx
 unfold q5t at k
 simp only[Bool.and_eq_true,decide_eq_true_eq] at k
 exact k.2

set_option maxRecDepth 20000 in
set_option maxHeartbeats 4000000 in
theorem qpb(A VA:Option Addr)(C VC:Nat)(ss:List ByteArray)(f:Int)(L:List En)(w:World)(hZ:SzAt w)(hC:ss.length<=C)(hS:q2v w.heap.size w A ss)(hR:q0j w.heap.size w VA (q0d L))(hz:L.length<=28000)(hk:∀x∈L,0<=x.key/\x.key<1099511627776)(hc:∀x∈L,x.c≠0)
  (hb:bofB ss f L=false):
  Calls Tryz.prog 31 #[.slice A ss.length C,.int .i64 f,.slice VA L.length VC] w fun e w'=>e=.returned (.tuple #[.agg #[.slice none 0 0,.slice none 0 0,.int .i64 0,.slice none 0 0,.int .i64 0,.slice none 0 0,.int .i64 0,.int .i64 0],.int .i64 7])/\Below w.heap.size w w':=by
 unfold bofB at hb
 have EM:=q0a fun W (hW:Below w.heap.size w W)=>q9j A C ss f W (hZ.below hW) hC (hS.up hW)
 have PM:=q0a fun W (hW:Below w.heap.size w W)=>qa3 ss.length f VA VC L W (hR.up hW) hz hk hc
 have b0:∀o:Obj,Below w.heap.size w (w.alloc o):=fun o=>(Below.refl _ _).alloc (Nat.le_refl _) o
 clear hZ hS hR hz hk hc
 cases he:qby ss f with
 |false=>
  rw[he] at EM
  clear hb PM he
  go_enter Tryz.func31,Tryz.ntmps31
  go_wp2_with (first
   |(go_at_call 81;refine(EM.out _ (b0 _)).mono ?_;rintro e w1 ⟨rfl,hb1⟩;have XB:=q0a ((q0b w [.slice none 0 0,.slice none 0 0,.int .i64 0,.slice none 0 0,.int .i64 0,.slice none 0 0,.int .i64 0,.int .i64 0] 29).below hb1 (by simp));have x:=fun j=>XB.out.cell j;have lx:=XB.out.lt;have fx:=fun j=>XB.out.frozen j;have HB1:=q0a (q0e (b0 _) (Nat.le_refl _) hb1);clear hb1))
  refine bodyPost_ret (v:=.tuple #[.agg #[.slice none 0 0,.slice none 0 0,.int .i64 0,.slice none 0 0,.int .i64 0,.slice none 0 0,.int .i64 0,.int .i64 0],.int .i64 7]) (by simp[results,Tryz.results31,go_sem,x]) rfl ⟨rfl,?_⟩
  exact q0t HB1.out (Nat.le_refl _) _ _ _ _ _ _ _ _
 |true=>
  rw[he] at EM
  rw[he,Bool.true_and] at hb
  rw[hb] at PM
  clear hb he
  go_enter Tryz.func31,Tryz.ntmps31
  go_wp2_with (first
   |(go_at_call 81;refine(EM.out _ (b0 _)).mono ?_;rintro e w1 ⟨rfl,hb1⟩;have XB:=q0a ((q0b w [.slice none 0 0,.slice none 0 0,.int .i64 0,.slice none 0 0,.int .i64 0,.slice none 0 0,.int .i64 0,.int .i64 0] 29).below hb1 (by simp));have x:=fun j=>XB.out.cell j;have lx:=XB.out.lt;have fx:=fun j=>XB.out.frozen j;have HB1:=q0a (q0e (b0 _) (Nat.le_refl _) hb1);clear hb1)
   |(go_at_call 82;refine(PM.out _ HB1.out).mono ?_;rintro e w2 ⟨rfl,hb2⟩;have XC:=q0a (XB.out.below hb2 XB.out.lt);have y:=fun j=>XC.out.cell j;have ly:=XC.out.lt;have fy:=fun j=>XC.out.frozen j;have HB2:=q0a (q0e HB1.out (Nat.le_refl _) hb2);clear hb2 x lx fx))
  refine bodyPost_ret (v:=.tuple #[.agg #[.slice none 0 0,.slice none 0 0,.int .i64 0,.slice none 0 0,.int .i64 0,.slice none 0 0,.int .i64 0,.int .i64 0],.int .i64 7]) (by simp[results,Tryz.results31,go_sem,y]) rfl ⟨rfl,?_⟩
  exact q0t HB2.out (Nat.le_refl _) _ _ _ _ _ _ _ _

theorem qid{A:Option Addr}{C:Nat}{l:List En}{w:World}(hZ:SzAt w)(h:q0j w.heap.size w A (q0d l))(hl:PtsL l)(hn:q1c 1 l=none\/q1c 60 l=none\/q1c 3600 l=none):
  Calls Tryz.prog 83 #[.slice A l.length C] w fun e w'=>e=.returned (.tuple #[.agg #[.slice none 0 0,.slice none 0 0,.slice none 0 0],.int .i64 1])/\Below w.heap.size w w':=by
 refine(qal A C l w hZ h hl).mono ?_
 rintro e w' ⟨hb,⟨_,he⟩|⟨_,_,y0,_,_,y1,_,_,y2,r0,r1,r2,_⟩⟩
 ·exact⟨he,hb⟩
 ·rw[r0,r1,r2] at hn
  simp at hn

set_option maxRecDepth 20000 in
set_option maxHeartbeats 4000000 in
theorem qee(A VA:Option Addr)(C VC:Nat)(ss:List ByteArray)(f:Int)(L:List En)(w:World)(hZ:SzAt w)(hC:ss.length<=C)(hS:q2v w.heap.size w A ss)(hR:q0j w.heap.size w VA (q0d L))(hz:L.length<=28000)(hk:∀x∈L,0<=x.key/\x.key<1099511627776)(hc:∀x∈L,x.c≠0)
  (hr:L.Pairwise fun a b=>a.key<b.key) (hb:bofB ss f L=true) (hn:q1c 1 L=none\/q1c 60 L=none\/q1c 3600 L=none):
  Calls Tryz.prog 31 #[.slice A ss.length C,.int .i64 f,.slice VA L.length VC] w fun e w'=>e=.returned (.tuple #[.agg #[.slice none 0 0,.slice none 0 0,.int .i64 0,.slice none 0 0,.int .i64 0,.slice none 0 0,.int .i64 0,.int .i64 0],.int .i64 7])/\Below w.heap.size w w':=by
 unfold bofB at hb
 rw[Bool.and_eq_true] at hb
 obtain⟨he,ha⟩:=hb
 have EM:=q0a fun W (hW:Below w.heap.size w W)=>q9j A C ss f W (hZ.below hW) hC (hS.up hW)
 have PM:=q0a fun W (hW:Below w.heap.size w W)=>qa3 ss.length f VA VC L W (hR.up hW) hz hk hc
 have b0:∀o:Obj,Below w.heap.size w (w.alloc o):=fun o=>(Below.refl _ _).alloc (Nat.le_refl _) o
 have BO:=q0a fun W (hW:Below w.heap.size w W)=>qid (C:=VC) (hZ.below hW) (hR.up hW) (qrw hz hr hk hc ha) hn
 rw[he] at EM
 rw[ha] at PM
 clear hZ hS hR hz hk hc he ha hr hn
 go_enter Tryz.func31,Tryz.ntmps31
 go_upto_region 3 with(first
  |(go_at_call 81;refine(EM.out _ (b0 _)).mono ?_;rintro e w1 ⟨rfl,hb1⟩;have XB:=q0a ((q0b w [.slice none 0 0,.slice none 0 0,.int .i64 0,.slice none 0 0,.int .i64 0,.slice none 0 0,.int .i64 0,.int .i64 0] 29).below hb1 (by simp));have x:=fun j=>XB.out.cell j;have lx:=XB.out.lt;have fx:=fun j=>XB.out.frozen j;have HB1:=q0a (q0e (b0 _) (Nat.le_refl _) hb1);clear hb1)
  |(go_at_call 82;refine(PM.out _ HB1.out).mono ?_;rintro e w2 ⟨rfl,hb2⟩;have XC:=q0a (XB.out.below hb2 XB.out.lt);have y:=fun j=>XC.out.cell j;have ly:=XC.out.lt;have fy:=fun j=>XC.out.frozen j;have HB2:=q0a (q0e HB1.out (Nat.le_refl _) hb2);clear hb2 x lx fx))
 go_upto_region 4 with(first
  |(go_at_call 83;refine(BO.out _ HB2.out).mono ?_;rintro e w3 ⟨rfl,hb3⟩;have XD:=q0a (XC.out.below hb3 XC.out.lt);have z:=fun j=>XD.out.cell j;have lz:=XD.out.lt;have fz:=fun j=>XD.out.frozen j;have HB3:=q0a (q0e HB2.out (Nat.le_refl _) hb3);clear hb3 y ly fy))
 obtain⟨w4,hw4⟩:∃w4,w4=w3.alloc (.cells #[.slice none 0 0,.slice none 0 0,.slice none 0 0] 141):=⟨_,rfl⟩
 have hb4:Below w3.heap.size w3 w4:=by rw[hw4];exact(Below.refl _ _).alloc (Nat.le_refl _) _
 have XE:=q0a (XD.out.below hb4 XD.out.lt)
 have u:=fun j=>XE.out.cell j
 have lu:=XE.out.lt
 have fu:=fun j=>XE.out.frozen j
 have HB4:=q0a (q0e HB3.out (Nat.le_refl _) hb4)
 rw[<-hw4]
 clear hw4 hb4 z lz fz
 go_wp2_with fail
 refine bodyPost_ret (v:=.tuple #[.agg #[.slice none 0 0,.slice none 0 0,.int .i64 0,.slice none 0 0,.int .i64 0,.slice none 0 0,.int .i64 0,.int .i64 0],.int .i64 7]) (by simp[results,Tryz.results31,go_sem,u]) rfl ⟨rfl,?_⟩
 exact q0t HB4.out (Nat.le_refl _) _ _ _ _ _ _ _ _

theorem PtsL.roll{size:Int}{l M:List En}(hs:size=1\/size=60\/size=3600)(hl:PtsL l)(h:q1c size l=some M):PtsL M:=by
 have hg:∀x∈l.map (bk size),Good x.ru:=fun x hx=>by
  obtain⟨y,hy,rfl⟩:=List.mem_map.1 hx
  exact hl.good y hy
 obtain⟨q1,q2,q3⟩:=qg2 (l.map (bk size)) [] M (by simp) (by simp) hg h
 refine⟨Nat.le_trans (qau hl.good h) hl.z,q1,q2,fun z hz=>?_⟩
 rcases q3 z hz with⟨y,hy,_⟩|⟨y,hy,e⟩
 ·simp at hy
 ·obtain⟨x,hx,rfl⟩:=List.mem_map.1 hy
  have hk:=hl.keys x hx
  have he:(bk size x).key=x.key-x.key%1048576%size:=rfl
  rw[he] at e
  rcases hs with rfl|rfl|rfl<;>omega

theorem qpr{B:Nat}{A:Option Addr}{C:Nat}{M:List En}{w:World}(hM:PtsL M)(h:w.ownsRow B 86 7 (.slice A M.length C) M.length (q0d M)):
  Calls Tryz.prog 84 #[.slice A M.length C] w (PutC (fun c=>c=1/\2900<M.length) (fun m q=>allP m q 0 1099511627776=(0,M)) w):=by
 obtain⟨A',C',e,hn,_,_,hr⟩:=q0h h
 cases e
 have hz:=hM.z
 refine(qxg A C M w hr hn (by omega)).mono fun e w' hP=>qx4 (qf5 hM.rise hM.good hM.keys) hP

theorem qiv{A:Option Addr}{C:Nat}{l y0 y1 y2:List En}{w:World}(hZ:SzAt w)(h:q0j w.heap.size w A (q0d l))(hl:PtsL l)(r0:q1c 1 l=some y0)(r1:q1c 60 l=some y1)(r2:q1c 3600 l=some y2):
  Calls Tryz.prog 83 #[.slice A l.length C] w fun e w'=>∃g0 c0 g1 c1 g2 c2,e=.returned (.tuple #[.agg #[.slice g0 y0.length c0,.slice g1 y1.length c1,.slice g2 y2.length c2],.int .i64 0])/\Below w.heap.size w w'/\w'.ownsRow w.heap.size 86 7 (.slice g0 y0.length c0) y0.length (q0d y0)/\w'.ownsRow w.heap.size 86 7 (.slice g1 y1.length c1) y1.length (q0d y1)/\w'.ownsRow w.heap.size 86 7 (.slice g2 y2.length c2) y2.length (q0d y2):=by
 refine(qal A C l w hZ h hl).mono ?_
 rintro e w' ⟨hb,⟨hn,_⟩|⟨g0,c0,z0,g1,c1,z1,g2,c2,z2,s0,s1,s2,o0,o1,o2,he⟩⟩
 ·rw[r0,r1,r2] at hn
  simp at hn
 ·rw[r0] at s0
  rw[r1] at s1
  rw[r2] at s2
  cases s0
  cases s1
  cases s2
  exact⟨g0,c0,g1,c1,g2,c2,he,hb,o0,o1,o2⟩

def BtAt(A:Option Addr)(C:Nat)(ss:List ByteArray)(f:Int)(y0 y1 y2:List En)(B:Nat)(w:World)(xb:Nat):Nat->Prop
 |0=>RowL w xb 29 [.slice A ss.length C,.slice none 0 0,.int .i64 0,.slice none 0 0,.int .i64 0,.slice none 0 0,.int .i64 0,.int .i64 f]
 |1=>∃(h0 D0:Nat) (q0:List PN) (p0:Int),NT B w h0 D0 q0/\allP (q0.map PN.nd) p0 0 1099511627776=(0,y0)/\RowL w xb 29 [.slice A ss.length C,.slice (some ⟨h0,0,none⟩) q0.length D0,.int .i64 p0,.slice none 0 0,.int .i64 0,.slice none 0 0,.int .i64 0,.int .i64 f]
 |2=>∃(h0 D0:Nat) (q0:List PN) (p0:Int) (h1 D1:Nat) (q1:List PN) (p1:Int),NT B w h0 D0 q0/\allP (q0.map PN.nd) p0 0 1099511627776=(0,y0)/\NT B w h1 D1 q1/\allP (q1.map PN.nd) p1 0 1099511627776=(0,y1)/\RowL w xb 29 [.slice A ss.length C,.slice (some ⟨h0,0,none⟩) q0.length D0,.int .i64 p0,.slice (some ⟨h1,0,none⟩) q1.length D1,.int .i64 p1,.slice none 0 0,.int .i64 0,.int .i64 f]
 |_=>∃(h0 D0:Nat) (q0:List PN) (p0:Int) (h1 D1:Nat) (q1:List PN) (p1:Int) (h2 D2:Nat) (q2:List PN) (p2:Int),NT B w h0 D0 q0/\allP (q0.map PN.nd) p0 0 1099511627776=(0,y0)/\NT B w h1 D1 q1/\allP (q1.map PN.nd) p1 0 1099511627776=(0,y1)/\NT B w h2 D2 q2/\allP (q2.map PN.nd) p2 0 1099511627776=(0,y2)/\RowL w xb 29 [.slice A ss.length C,.slice (some ⟨h0,0,none⟩) q0.length D0,.int .i64 p0,.slice (some ⟨h1,0,none⟩) q1.length D1,.int .i64 p1,.slice (some ⟨h2,0,none⟩) q2.length D2,.int .i64 p2,.int .i64 f]

def BfTo(A:Option Addr)(C:Nat)(ss:List ByteArray)(f:Int)(y0 y1 y2:List En)(w:World)(e:Ending)(w':World):Prop:=
 Below w.heap.size w w'/\(((2900<y0.length\/2900<y1.length\/2900<y2.length)/\e=.returned (.tuple #[.agg #[.slice none 0 0,.slice none 0 0,.int .i64 0,.slice none 0 0,.int .i64 0,.slice none 0 0,.int .i64 0,.int .i64 0],.int .i64 1]))\/
  ∃(h0 D0:Nat) (q0:List PN) (p0:Int) (h1 D1:Nat) (q1:List PN) (p1:Int) (h2 D2:Nat) (q2:List PN) (p2:Int),NT w.heap.size w' h0 D0 q0/\allP (q0.map PN.nd) p0 0 1099511627776=(0,y0)/\NT w.heap.size w' h1 D1 q1/\allP (q1.map PN.nd) p1 0 1099511627776=(0,y1)/\NT w.heap.size w' h2 D2 q2/\allP (q2.map PN.nd) p2 0 1099511627776=(0,y2)/\e=.returned (.tuple #[.agg #[.slice A ss.length C,.slice (some ⟨h0,0,none⟩) q0.length D0,.int .i64 p0,.slice (some ⟨h1,0,none⟩) q1.length D1,.int .i64 p1,.slice (some ⟨h2,0,none⟩) q2.length D2,.int .i64 p2,.int .i64 f],.int .i64 0]))

theorem qss{B xb a b g C:Nat}{w w7:World}{u v:Value}{q:List PN}(h:NT B w g C q)(hb:Below w.heap.size w w7)(hx:xb<B):NT B ((w7.setCell ⟨xb,a,none⟩ u).setCell ⟨xb,b,none⟩ v) g C q:=
 h.of_blocks fun k hk=>((Below.heap_setCell _ _ _ _ (show k≠xb by have:=(h.lt k hk).1;omega)).trans (Below.heap_setCell _ _ _ _ (show k≠xb by have:=(h.lt k hk).1;omega))).trans (hb.block k (h.lt k hk).2)

theorem qqb{B B' xb a b g C:Nat}{w7:World}{u v:Value}{q:List PN}(h:NT B' w7 g C q)(hB:B<=B')(hx:xb<B):NT B ((w7.setCell ⟨xb,a,none⟩ u).setCell ⟨xb,b,none⟩ v) g C q:=
 (h.low hB).of_blocks fun k hk=>(Below.heap_setCell _ _ _ _ (show k≠xb by have:=(h.lt k hk).1;omega)).trans (Below.heap_setCell _ _ _ _ (show k≠xb by have:=(h.lt k hk).1;omega))

set_option maxRecDepth 20000 in
set_option maxHeartbeats 8000000 in
theorem qrk(A VA:Option Addr)(C VC:Nat)(ss:List ByteArray)(f:Int)(L:List En)(w:World)(hZ:SzAt w)(hC:ss.length<=C)(hS:q2v w.heap.size w A ss)(hR:q0j w.heap.size w VA (q0d L))(hz:L.length<=28000)(hk:∀x∈L,0<=x.key/\x.key<1099511627776)(hc:∀x∈L,x.c≠0)
  (hr:L.Pairwise fun a b=>a.key<b.key) (hb:bofB ss f L=true) (y0 y1 y2:List En) (r0:q1c 1 L=some y0) (r1:q1c 60 L=some y1) (r2:q1c 3600 L=some y2):
  Calls Tryz.prog 31 #[.slice A ss.length C,.int .i64 f,.slice VA L.length VC] w (BfTo A C ss f y0 y1 y2 w):=by
 unfold bofB at hb
 rw[Bool.and_eq_true] at hb
 obtain⟨he,ha⟩:=hb
 unfold BfTo
 have EM:=q0a fun W (hW:Below w.heap.size w W)=>q9j A C ss f W (hZ.below hW) hC (hS.up hW)
 have PM:=q0a fun W (hW:Below w.heap.size w W)=>qa3 ss.length f VA VC L W (hR.up hW) hz hk hc
 have b0:∀o:Obj,Below w.heap.size w (w.alloc o):=fun o=>(Below.refl _ _).alloc (Nat.le_refl _) o
 have hP:=qrw hz hr hk hc ha
 have BO:=q0a fun W (hW:Below w.heap.size w W)=>qiv (C:=VC) (hZ.below hW) (hR.up hW) hP r0 r1 r2
 have M0:=q0a (hP.roll (.inl rfl) r0)
 have M1:=q0a (hP.roll (.inr (.inl rfl)) r1)
 have M2:=q0a (hP.roll (.inr (.inr rfl)) r2)
 rw[he] at EM
 rw[ha] at PM
 clear hZ hS hR hz hk hc he ha hr hP r0 r1 r2
 go_enter Tryz.func31,Tryz.ntmps31
 go_upto_region 3 with(first
  |(go_at_call 81;refine(EM.out _ (b0 _)).mono ?_;rintro e w1 ⟨rfl,hb1⟩;have XB:=q0a ((q0b w [.slice none 0 0,.slice none 0 0,.int .i64 0,.slice none 0 0,.int .i64 0,.slice none 0 0,.int .i64 0,.int .i64 0] 29).below hb1 (by simp));have x:=fun j=>XB.out.cell j;have lx:=XB.out.lt;have fx:=fun j=>XB.out.frozen j;have HB1:=q0a (q0e (b0 _) (Nat.le_refl _) hb1);clear hb1)
  |(go_at_call 82;refine(PM.out _ HB1.out).mono ?_;rintro e w2 ⟨rfl,hb2⟩;have XC:=q0a (XB.out.below hb2 XB.out.lt);have y:=fun j=>XC.out.cell j;have ly:=XC.out.lt;have fy:=fun j=>XC.out.frozen j;have HB2:=q0a (q0e HB1.out (Nat.le_refl _) hb2);clear hb2 x lx fx))
 go_upto_region 4 with(first
  |(go_at_call 83;refine(BO.out _ HB2.out).mono ?_;rintro e w3 ⟨g0,c0,g1,c1,g2,c2,rfl,hb3,o0,o1,o2⟩;have XD:=q0a (XC.out.below hb3 XC.out.lt);have HB3:=q0a (q0e HB2.out (Nat.le_refl _) hb3);have O0:=q0a o0;have O1:=q0a o1;have O2:=q0a o2;clear hb3 y ly fy o0 o1 o2))
 obtain⟨w4,hw4⟩:∃w4,w4=w3.alloc (.cells #[.slice g0 y0.length c0,.slice g1 y1.length c1,.slice g2 y2.length c2] 141):=⟨_,rfl⟩
 have hb4:Below w3.heap.size w3 w4:=by rw[hw4];exact(Below.refl _ _).alloc (Nat.le_refl _) _
 obtain⟨xa,hxa⟩:∃xa,xa=w3.heap.size:=⟨_,rfl⟩
 have XA:=q0a (show RowL w4 xa 141 [.slice g0 y0.length c0,.slice g1 y1.length c1,.slice g2 y2.length c2] by rw[hw4,hxa];exact q0b w3 _ _)
 have a:=fun j=>XA.out.cell j
 have la:=XA.out.lt
 have XE:=q0a (XD.out.below hb4 XD.out.lt)
 have HB4:=q0a (q0e HB3.out (Nat.le_refl _) hb4)
 have U0:=q0a (q6d O0.out fun j _ hj=>hb4.block j hj)
 have U1:=q0a (q6d O1.out fun j _ hj=>hb4.block j hj)
 have U2:=q0a (q6d O2.out fun j _ hj=>hb4.block j hj)
 rw[<-hw4,<-hxa]
 clear hw4 hxa hb4 XD O0 O1 O2
 go_upto_region 8 with fail
 obtain⟨w5,hw5⟩:∃w5,w5=w4.alloc (.cells #[.slice A ss.length C,.slice none 0 0,.int .i64 0,.slice none 0 0,.int .i64 0,.slice none 0 0,.int .i64 0,.int .i64 f] 29):=⟨_,rfl⟩
 obtain⟨xb,hxb⟩:∃xb,xb=w4.heap.size:=⟨_,rfl⟩
 have XB0:=q0a (show RowL w5 xb 29 [.slice A ss.length C,.slice none 0 0,.int .i64 0,.slice none 0 0,.int .i64 0,.slice none 0 0,.int .i64 0,.int .i64 f] by rw[hw5,hxb];exact q0b w4 _ _)
 have HB5:=q0a (show Below w4.heap.size w4 w5 by rw[hw5];exact(Below.refl _ _).alloc (Nat.le_refl _) _)
 have hx4:w4.heap.size<=xb:=by omega
 have hx5:xb<w5.heap.size:=XB0.out.lt
 rw[<-hw5,<-hxb]
 clear hw5 hxb a la XA XB XC EM PM BO
 have i0:∀w,(Instr.index 141 (.agg #[.slice g0 y0.length c0,.slice g1 y1.length c1,.slice g2 y2.length c2]) (.int .i64 0)).run Tryz.prog w=.ok (.slice g0 y0.length c0) w:=fun _=>by kernel_rfl
 have i1:∀w,(Instr.index 141 (.agg #[.slice g0 y0.length c0,.slice g1 y1.length c1,.slice g2 y2.length c2]) (.int .i64 1)).run Tryz.prog w=.ok (.slice g1 y1.length c1) w:=fun _=>by kernel_rfl
 have i2:∀w,(Instr.index 141 (.agg #[.slice g0 y0.length c0,.slice g1 y1.length c1,.slice g2 y2.length c2]) (.int .i64 2)).run Tryz.prog w=.ok (.slice g2 y2.length c2) w:=fun _=>by kernel_rfl
 go_loopw [40] (fun vi wr=>∃k:Nat,k<=3/\vi=.int .i64 (k:Int)/\Hid (BtAt A C ss f y0 y1 y2 w5.heap.size wr xb k)/\Hid (Below w4.heap.size w4 wr)/\Hid (w5.heap.size<=wr.heap.size)) (fun vi _=>3-(intOf vi).toNat)
 case atStart=>exact⟨0,by omega,rfl,XB0.out,HB5.out,Nat.le_refl _⟩
 case round=>
  obtain⟨k,hk,rfl,HK,HB,HZ⟩:=hrel
  rcases(show k=0\/k=1\/k=2\/k=3 by omega) with rfl|rfl|rfl|rfl
  ·have hrow:RowL wr xb 29 [.slice A ss.length C,.slice none 0 0,.int .i64 0,.slice none 0 0,.int .i64 0,.slice none 0 0,.int .i64 0,.int .i64 f]:=HK.out
   have HRx:=q0a hrow
   clear hrow HK
   have con:=q0a (qpr M0.out (q6d U0.out fun j _ hj=>HB.out.block j hj))
   go_upto_region 11 with(first
    |(go_at_call 84;refine con.out.mono ?_;rintro e w6 ⟨XA,xl,XC,sr,c,rfl,hb6,hP⟩))
   obtain⟨w7,hw7⟩:∃w7,w7=w6.alloc (.cells #[.slice XA xl XC,.int .i64 sr] 26):=⟨_,rfl⟩
   obtain⟨mb,hmb⟩:∃mb,mb=w6.heap.size:=⟨_,rfl⟩
   have hb7:Below wr.heap.size wr w7:=by rw[hw7];exact hb6.alloc hb6.size _
   have HM:=q0a (show RowL w7 mb 26 [.slice XA xl XC,.int .i64 sr] by rw[hw7,hmb];exact q0b w6 _ _)
   have hPP:=hP.keep (w':=w7) (Nat.le_refl _) (fun _ _ hk=>by rw[hw7];exact Below.heap_alloc _ _ _ hk)
   have XR7:=q0a ((XE.out.below HB.out XE.out.lt).below hb7 (Nat.lt_of_lt_of_le XE.out.lt HB.out.size))
   have X7:=q0a (HRx.out.below hb7 HRx.out.lt)
   have HB7:=q0a hb7
   rw[<-hw7,<-hmb]
   clear hw7 hmb hP hb6 hb7 con
   rcases hPP with⟨_,rfl,h29⟩|⟨rfl,g,q,rfl,rfl,hT,hF⟩
   ·have d:=fun j=>XR7.out.cell j
    have ld:=XR7.out.lt
    have fd:=fun j=>XR7.out.frozen j
    have H29:=q0a h29
    clear h29
    go_wp2_with fail
    refine bodyPost_ret (v:=.tuple #[.agg #[.slice none 0 0,.slice none 0 0,.int .i64 0,.slice none 0 0,.int .i64 0,.slice none 0 0,.int .i64 0,.int .i64 0],.int .i64 1]) (by simp[results,Tryz.results31,go_sem,d]) rfl ⟨?_,.inl ⟨.inl H29.out,rfl⟩⟩
    exact q0t (q0e HB4.out (Nat.le_refl _) (HB.out.trans (HB7.out.mono HB.out.size))) (Nat.le_refl _) _ _ _ _ _ _ _ _
   ·have d:=fun j=>X7.out.cell j
    have ld:=X7.out.lt
    have fd:=fun j=>X7.out.frozen j
    have m:=fun j=>HM.out.cell j
    have lm:=HM.out.lt
    have HT:=q0a hT
    have HF:=q0a hF
    clear hT hF
    go_wp2_with fail
    exact⟨⟨1,by omega,rfl,⟨g,XC,q,sr,qqb HT.out HZ.out hx5,HF.out,(X7.out.set 1 _).set 2 _⟩,((HB.out.trans (HB7.out.mono HB.out.size)).setCell hx4 _).setCell hx4 _,by have:=HB7.out.size;have:=HZ.out;simp[Hid];omega⟩,by simp only[intOf];omega⟩
  ·obtain⟨h0,D0,q0,p0,n0,a0,hrow⟩:=HK.out
   have HRx:=q0a hrow
   have N0:=q0a n0
   have A0:=q0a a0
   clear hrow HK n0 a0
   have con:=q0a (qpr M1.out (q6d U1.out fun j _ hj=>HB.out.block j hj))
   go_upto_region 11 with(first
    |(go_at_call 84;refine con.out.mono ?_;rintro e w6 ⟨XA,xl,XC,sr,c,rfl,hb6,hP⟩))
   obtain⟨w7,hw7⟩:∃w7,w7=w6.alloc (.cells #[.slice XA xl XC,.int .i64 sr] 26):=⟨_,rfl⟩
   obtain⟨mb,hmb⟩:∃mb,mb=w6.heap.size:=⟨_,rfl⟩
   have hb7:Below wr.heap.size wr w7:=by rw[hw7];exact hb6.alloc hb6.size _
   have HM:=q0a (show RowL w7 mb 26 [.slice XA xl XC,.int .i64 sr] by rw[hw7,hmb];exact q0b w6 _ _)
   have hPP:=hP.keep (w':=w7) (Nat.le_refl _) (fun _ _ hk=>by rw[hw7];exact Below.heap_alloc _ _ _ hk)
   have XR7:=q0a ((XE.out.below HB.out XE.out.lt).below hb7 (Nat.lt_of_lt_of_le XE.out.lt HB.out.size))
   have X7:=q0a (HRx.out.below hb7 HRx.out.lt)
   have HB7:=q0a hb7
   rw[<-hw7,<-hmb]
   clear hw7 hmb hP hb6 hb7 con
   rcases hPP with⟨_,rfl,h29⟩|⟨rfl,g,q,rfl,rfl,hT,hF⟩
   ·have d:=fun j=>XR7.out.cell j
    have ld:=XR7.out.lt
    have fd:=fun j=>XR7.out.frozen j
    have H29:=q0a h29
    clear h29
    go_wp2_with fail
    refine bodyPost_ret (v:=.tuple #[.agg #[.slice none 0 0,.slice none 0 0,.int .i64 0,.slice none 0 0,.int .i64 0,.slice none 0 0,.int .i64 0,.int .i64 0],.int .i64 1]) (by simp[results,Tryz.results31,go_sem,d]) rfl ⟨?_,.inl ⟨.inr (.inl H29.out),rfl⟩⟩
    exact q0t (q0e HB4.out (Nat.le_refl _) (HB.out.trans (HB7.out.mono HB.out.size))) (Nat.le_refl _) _ _ _ _ _ _ _ _
   ·have d:=fun j=>X7.out.cell j
    have ld:=X7.out.lt
    have fd:=fun j=>X7.out.frozen j
    have m:=fun j=>HM.out.cell j
    have lm:=HM.out.lt
    have HT:=q0a hT
    have HF:=q0a hF
    clear hT hF
    go_wp2_with fail
    exact⟨⟨2,by omega,rfl,⟨h0,D0,q0,p0,g,XC,q,sr,qss N0.out HB7.out hx5,A0.out,qqb HT.out HZ.out hx5,HF.out,(X7.out.set 3 _).set 4 _⟩,((HB.out.trans (HB7.out.mono HB.out.size)).setCell hx4 _).setCell hx4 _,by have:=HB7.out.size;have:=HZ.out;simp[Hid];omega⟩,by simp only[intOf];omega⟩
  ·obtain⟨h0,D0,q0,p0,h1,D1,q1,p1,n0,a0,n1,a1,hrow⟩:=HK.out
   have HRx:=q0a hrow
   have N0:=q0a n0
   have A0:=q0a a0
   have N1:=q0a n1
   have A1:=q0a a1
   clear hrow HK n0 a0 n1 a1
   have con:=q0a (qpr M2.out (q6d U2.out fun j _ hj=>HB.out.block j hj))
   go_upto_region 11 with(first
    |(go_at_call 84;refine con.out.mono ?_;rintro e w6 ⟨XA,xl,XC,sr,c,rfl,hb6,hP⟩))
   obtain⟨w7,hw7⟩:∃w7,w7=w6.alloc (.cells #[.slice XA xl XC,.int .i64 sr] 26):=⟨_,rfl⟩
   obtain⟨mb,hmb⟩:∃mb,mb=w6.heap.size:=⟨_,rfl⟩
   have hb7:Below wr.heap.size wr w7:=by rw[hw7];exact hb6.alloc hb6.size _
   have HM:=q0a (show RowL w7 mb 26 [.slice XA xl XC,.int .i64 sr] by rw[hw7,hmb];exact q0b w6 _ _)
   have hPP:=hP.keep (w':=w7) (Nat.le_refl _) (fun _ _ hk=>by rw[hw7];exact Below.heap_alloc _ _ _ hk)
   have XR7:=q0a ((XE.out.below HB.out XE.out.lt).below hb7 (Nat.lt_of_lt_of_le XE.out.lt HB.out.size))
   have X7:=q0a (HRx.out.below hb7 HRx.out.lt)
   have HB7:=q0a hb7
   rw[<-hw7,<-hmb]
   clear hw7 hmb hP hb6 hb7 con
   rcases hPP with⟨_,rfl,h29⟩|⟨rfl,g,q,rfl,rfl,hT,hF⟩
   ·have d:=fun j=>XR7.out.cell j
    have ld:=XR7.out.lt
    have fd:=fun j=>XR7.out.frozen j
    have H29:=q0a h29
    clear h29
    go_wp2_with fail
    refine bodyPost_ret (v:=.tuple #[.agg #[.slice none 0 0,.slice none 0 0,.int .i64 0,.slice none 0 0,.int .i64 0,.slice none 0 0,.int .i64 0,.int .i64 0],.int .i64 1]) (by simp[results,Tryz.results31,go_sem,d]) rfl ⟨?_,.inl ⟨.inr (.inr H29.out),rfl⟩⟩
    exact q0t (q0e HB4.out (Nat.le_refl _) (HB.out.trans (HB7.out.mono HB.out.size))) (Nat.le_refl _) _ _ _ _ _ _ _ _
   ·have d:=fun j=>X7.out.cell j
    have ld:=X7.out.lt
    have fd:=fun j=>X7.out.frozen j
    have m:=fun j=>HM.out.cell j
    have lm:=HM.out.lt
    have HT:=q0a hT
    have HF:=q0a hF
    clear hT hF
    go_wp2_with fail
    exact⟨⟨3,by omega,rfl,⟨h0,D0,q0,p0,h1,D1,q1,p1,g,XC,q,sr,qss N0.out HB7.out hx5,A0.out,qss N1.out HB7.out hx5,A1.out,qqb HT.out HZ.out hx5,HF.out,(X7.out.set 5 _).set 6 _⟩,((HB.out.trans (HB7.out.mono HB.out.size)).setCell hx4 _).setCell hx4 _,by have:=HB7.out.size;have:=HZ.out;simp[Hid];omega⟩,by simp only[intOf];omega⟩
  ·obtain⟨h0,D0,q0,p0,h1,D1,q1,p1,h2,D2,q2,p2,n0,a0,n1,a1,n2,a2,hrow⟩:=HK.out
   have HRx:=q0a hrow
   have N0:=q0a n0
   have A0:=q0a a0
   have N1:=q0a n1
   have A1:=q0a a1
   have N2:=q0a n2
   have A2:=q0a a2
   clear hrow HK n0 a0 n1 a1 n2 a2
   have XR:=q0a (XE.out.below HB.out XE.out.lt)
   have d:=fun j=>XR.out.cell j
   have ld:=XR.out.lt
   have fd:=fun j=>XR.out.frozen j
   have x:=fun j=>HRx.out.cell j
   have lx:=HRx.out.lt
   have hwx:w.heap.size<w5.heap.size:=Nat.lt_of_lt_of_le XE.out.lt HB5.out.size
   go_wp2_with fail
   refine bodyPost_ret (v:=.tuple #[.agg #[.slice A ss.length C,.slice (some ⟨h0,0,none⟩) q0.length D0,.int .i64 p0,.slice (some ⟨h1,0,none⟩) q1.length D1,.int .i64 p1,.slice (some ⟨h2,0,none⟩) q2.length D2,.int .i64 p2,.int .i64 f],.int .i64 0]) (by simp[results,Tryz.results31,go_sem,d]) rfl ⟨?_,.inr ⟨h0,D0,q0,p0,h1,D1,q1,p1,h2,D2,q2,p2,?_,A0.out,?_,A1.out,?_,A2.out,rfl⟩⟩
   ·exact q0t (q0e HB4.out (Nat.le_refl _) HB.out) (Nat.le_refl _) _ _ _ _ _ _ _ _
   ·exact(N0.out.low (Nat.le_of_lt hwx)).of_blocks fun k hk=>q1q _ _ _ _ _ _ _ _ _ _ k (by have:=(N0.out.lt k hk).1;omega)
   ·exact(N1.out.low (Nat.le_of_lt hwx)).of_blocks fun k hk=>q1q _ _ _ _ _ _ _ _ _ _ k (by have:=(N1.out.lt k hk).1;omega)
   ·exact(N2.out.low (Nat.le_of_lt hwx)).of_blocks fun k hk=>q1q _ _ _ _ _ _ _ _ _ _ k (by have:=(N2.out.lt k hk).1;omega)

end
section
open Go.RowKit Plain Go.Shelf

theorem qxp(q:Int->Int):∀(xs o l:List En),(∀y∈xs,Good y.ru)->(∀y∈o,Good y.ru)->xs.foldl insO (some o)=some l->Eqv ((o++xs).map (kq q)) (l.map (kq q))
 |[],o,l,_,ho,h=>by
  cases h
  rw[List.append_nil]
  exact Eqv.refl (qer ho)
 |x::xs,o,l,hx,ho,h=>by
  rw[List.foldl_cons] at h
  cases hi:insO (some o) x with
  |none=>rw[hi,q3j] at h;cases h
  |some o'=>
   rw[hi] at h
   have hi':ins o x=some o':=hi
   have hx0:=hx x List.mem_cons_self
   have hxs:∀y∈xs,Good y.ru:=fun y hy=>hx y (List.mem_cons_of_mem _ hy)
   have ih:=qxp q xs o' l hxs (q5g hx0 ho hi').1 h
   have s:=(qz4 q hx0 ho hi').app (qer (q:=q) hxs)
   rw[<-List.map_append,<-List.map_append,List.append_assoc] at s
   exact s.trans ih

theorem z4v(q:Int->Int){xs l:List En}(hx:∀y∈xs,Good y.ru)(h:allL xs=some l):allL (xs.map (kq q))=allL (l.map (kq q)):=by
 have:=qxp q xs [] l hx (by simp) h
 simpa using this.eq

def ptBk(ss:List ByteArray)(sz:Int)(p:Pt):En:=bk sz (ptIn ss p)

theorem qrp{ss:List ByteArray}{sz f:Int}{p:Pt}(hp:p.ok f):Good (ptBk ss sz p).ru:=qdi (ss:=ss) hp

section
variable {ss : List ByteArray} {f : Int} {n0 n1 n2 : List Nd} {r0 r1 r2 : Int} {pts : List Pt} {L0 L1 L2 : List En}

theorem q4a.rolled(h:q4a ss f n0 r0 n1 r1 n2 r2 pts L0 L1 L2){sz:Int}{M:List En}(hr:q1c sz L0=some M):allL (pts.map (ptBk ss sz))=some M:=by
 have e:=z4v (fun k=>k-k%1048576%sz) (xs:=pts.map (ptIn ss)) (l:=L0) (fun y hy=>by
  obtain⟨p,hp,rfl⟩:=List.mem_map.1 hy
  exact qdi (h.pt p hp).2) h.all
 rw[List.map_map] at e
 exact e.trans hr
end

end
section
open Go.RowKit Plain Go.Shelf

section
variable {C : Nat} {A : Option Addr} {ss : List ByteArray} {t0 t1 t2 : TR} {f : Int} {pts : List Pt} {w : World}

theorem qys(hZ:SzAt w)(hB:q2s w A C ss t0 t1 t2)(hK:KB ss f t0 t1 t2 pts){x:ByteArray}{sz a b:Int}(hx:Lib.idxOfS ss x<0):
  Calls Tryz.prog 117 #[.agg (q0l A C ss t0 t1 t2 f).toArray,.string x,.int .i64 sz,.int .i64 a,.int .i64 b] w fun e w'=>e=.returned (.tuple #[.slice none 0 0,.int .i64 6])/\Below w.heap.size w w':=
 z2h A C ss t0 t1 t2 f x sz a b 6 w 0 rfl (qi6 hZ hB hK hx)

theorem qzh(hZ:SzAt w)(hB:q2s w A C ss t0 t1 t2)(hK:KB ss f t0 t1 t2 pts){x:ByteArray}{sz a b:Int}(hx:0<=Lib.idxOfS ss x)(hs:¬(sz=1\/sz=60\/sz=3600)):
  Calls Tryz.prog 117 #[.agg (q0l A C ss t0 t1 t2 f).toArray,.string x,.int .i64 sz,.int .i64 a,.int .i64 b] w fun e w'=>e=.returned (.tuple #[.slice none 0 0,.int .i64 3])/\Below w.heap.size w w':=
 qq4 A C ss t0 t1 t2 f x sz a b w _ hZ hs (qdx hZ hB hK rfl hx)
end

end
end Go.Proofs.YtlojfgdpmaigmafGreatDoor

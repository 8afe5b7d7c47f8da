/- A base that knows points: what Expire makes of it. -/
import Derived.Test.YtlojfgdpmaigmagGreatDoorP47
import Derived.Test.YtlojfgdpmaigmagGreatDoorP46
namespace Go.Proofs.YtlojfgdpmaigmagGreatDoor
section
open Go.RowKit Plain Go.Shelf

def rX(t:Int)(l:List Pt):List Pt:=l.filter fun p=>decide (t<=p.t)

theorem qpx{ss:List ByteArray}{p:Pt}{f t:Int}(hm:p.s∈ss)(hp:p.ok f):yngB t (ptIn ss p)=decide (t<=p.t):=by
 have h0:=hp.t0;have h1:=hp.t1;obtain⟨k,hk,ek,hd⟩:=uV hm
 have k2:(ptIn ss p).key%1048576=p.t:=by
  show(Lib.idxOfS ss p.s*1048576+p.t)%1048576=p.t;rw[ek];omega
 unfold yngB;rw[k2]

theorem fP.exp{ss:List ByteArray}{f t:Int}{n0 n1 n2 m0 m1 m2:List Nd}{r0 r1 r2 q0 q1 q2:Int}{pts:List Pt}{L0 L1 L2 K0 K1 K2:List En}(h:fP ss f n0 r0 n1 r1 n2 r2 pts L0 L1 L2)(hy:yG ss f t n0 r0 n1 r1 n2 r2 m0 q0 m1 q1 m2 q2 K0 K1 K2):
  fP ss t m0 q0 m1 q1 m2 q2 (rX t pts) (K0.filter (yngB t)) (K1.filter (yngB t)) (K2.filter (yngB t)):=by
 obtain⟨hb,-⟩:=hy.base;obtain⟨J0,J1,J2,hJ⟩:=mY hb;obtain rfl:J0=K0.filter (yngB t):=(Prod.mk.inj (hJ.a0.symm.trans hy.a0)).2;obtain rfl:J1=K1.filter (yngB t):=(Prod.mk.inj (hJ.a1.symm.trans hy.a1)).2;obtain rfl:J2=K2.filter (yngB t):=(Prod.mk.inj (hJ.a2.symm.trans hy.a2)).2;obtain rfl:K0=L0:=(Prod.mk.inj (hy.lst.a0.symm.trans h.lst.a0)).2;refine⟨hb,hJ,?_,fun p hp=>?_⟩
 ·have h1:=qM (P:=fun k=>decide (t<=k%1048576)) (pts.map (ptIn ss)) [] K0 (by simp) h.all
  have e:((pts.map (ptIn ss)).filter fun z=>decide (t<=z.key%1048576))=(rX t pts).map (ptIn ss):=by
   rw[List.filter_map];congr 1;exact List.filter_congr fun p hp=>qpx (h.pt p hp).1 (h.pt p hp).2
  rw[e] at h1;exact h1
 ·obtain⟨hp,ht⟩:=List.mem_filter.1 hp;obtain⟨h1,h2⟩:=h.pt p hp;exact⟨h1,h2.t0,h2.t1,h2.v0,h2.v1,of_decide_eq_true ht⟩

section
variable {A : Option Addr} {C : Nat} {ss : List ByteArray} {t0 t1 t2 : TR} {f : Int} {pts : List Pt} {w w' : World}

theorem qo1(hZ:SzAt w)(hB:dU w A C ss t0 t1 t2)(hK:KB ss f t0 t1 t2 pts){t:Int}(hp:iM f t=0)(hn:pts.length<=2900):
  Calls Tryz.prog 66 #[.agg (aJ A C ss t0 t1 t2 f).toArray,.int .i64 t] w (qmp ss t (rX t pts) w):=by
 obtain⟨L0,L1,L2,k⟩:=hK;refine(qas A C ss t0 t1 t2 f t w hZ hB.len hB.st hB.o0 hB.o1 hB.o2).mono ?_;rintro e w' ⟨hb,h⟩;rcases h with⟨c,_,hno,_⟩|⟨A',C',u0,u1,u2,K0,K1,K2,hy,rfl,ho⟩
 ·exfalso
  rcases hno with⟨h1,_⟩|⟨_,h1,_⟩|⟨_,_,_,h1⟩
  ·rw[k.ok] at h1;cases h1
  ·exact h1 hp
  ·have h2:=h1 L0 L1 L2 k.lst;have h3:(L0.filter (yngB t)).length<=L0.length:=List.length_filter_le _ _;have h4:=k.few.1;omega
 ·exact⟨A',C',u0,u1,u2,rfl,ho,⟨_,_,_,k.exp hy⟩,hb⟩

theorem qok(hZ:SzAt w)(hB:dU w A C ss t0 t1 t2)(hK:KB ss f t0 t1 t2 pts){t c:Int}(hp:iM f t=c)(hc:c≠0):
  Calls Tryz.prog 66 #[.agg (aJ A C ss t0 t1 t2 f).toArray,.int .i64 t] w fun e w'=>e=.returned (dG c)/\Below w.heap.size w w':=by
 obtain⟨L0,L1,L2,k⟩:=hK;refine(qas A C ss t0 t1 t2 f t w hZ hB.len hB.st hB.o0 hB.o1 hB.o2).mono ?_;rintro e w' ⟨hb,h⟩;rcases h with⟨d,_,hno,rfl⟩|⟨A',C',u0,u1,u2,K0,K1,K2,hy,_⟩
 ·rcases hno with⟨h1,_⟩|⟨_,_,h1⟩|⟨_,h1,_⟩
  ·rw[k.ok] at h1;cases h1
  ·rw[h1,hp];exact⟨rfl,hb⟩
  ·omega
 ·exact absurd (hy.fl.symm.trans hp).symm hc
end

end
section
open Go.RowKit Plain Go.Shelf

theorem PtsL.roll{size:Int}{l M:List En}(hs:size=1\/size=60\/size=3600)(hl:PtsL l)(h:aP size l=some M):PtsL M:=by
 have hg:∀x∈l.map (bk size),Good x.ru:=fun x hx=>by
  obtain⟨y,hy,rfl⟩:=List.mem_map.1 hx;exact hl.good y hy
 obtain⟨q1,q2,q3⟩:=q4z (l.map (bk size)) [] M (by simp) (by simp) hg h
 refine⟨Nat.le_trans (uH hl.good h) hl.z,q1,q2,fun z hz=>?_⟩
 rcases q3 z hz with⟨y,hy,_⟩|⟨y,hy,e⟩
 ·simp at hy
 ·obtain⟨x,hx,rfl⟩:=List.mem_map.1 hy;have hk:=hl.keys x hx;have he:(bk size x).key=x.key-x.key%1048576%size:=rfl;rw[he] at e;rcases hs with rfl|rfl|rfl<;>omega

theorem qhj{B:Nat}{A:Option Addr}{C:Nat}{M:List En}{w:World}(hM:PtsL M)(h:w.ownsRow B 132 7 (.slice A M.length C) M.length (aB M)):
  Calls Tryz.prog 120 #[.slice A M.length C] w (PutC (fun c=>c=1/\2900<M.length) (fun m q=>allP m q 0 1099511627776=(0,M)) w):=by
 obtain⟨A',C',e,hn,_,_,hr⟩:=aN h;cases e;have hz:=hM.z;refine(qm8 A C M w hr hn (by omega)).mono fun e w' hP=>qlr (q3m hM.rise hM.good hM.keys) hP

theorem q5q{A:Option Addr}{C:Nat}{l y0 y1 y2:List En}{w:World}(hZ:SzAt w)(h:aH w.heap.size w A (aB l))(hl:PtsL l)(r0:aP 1 l=some y0)(r1:aP 60 l=some y1)(r2:aP 3600 l=some y2):
  Calls Tryz.prog 156 #[.slice A l.length C] w fun e w'=>∃g0 c0 g1 c1 g2 c2,e=.returned (.tuple #[.agg #[.slice g0 y0.length c0,.slice g1 y1.length c1,.slice g2 y2.length c2],.int .i64 0])/\Below w.heap.size w w'/\w'.ownsRow w.heap.size 132 7 (.slice g0 y0.length c0) y0.length (aB y0)/\w'.ownsRow w.heap.size 132 7 (.slice g1 y1.length c1) y1.length (aB y1)/\w'.ownsRow w.heap.size 132 7 (.slice g2 y2.length c2) y2.length (aB y2):=by
 refine(q0e A C l w hZ h hl).mono ?_;rintro e w' ⟨hb,⟨hn,_⟩|⟨g0,c0,z0,g1,c1,z1,g2,c2,z2,s0,s1,s2,o0,o1,o2,he⟩⟩
 ·rw[r0,r1,r2] at hn;simp at hn
 ·rw[r0] at s0;rw[r1] at s1;rw[r2] at s2;cases s0;cases s1;cases s2;exact⟨g0,c0,g1,c1,g2,c2,he,hb,o0,o1,o2⟩

def BtAt(A:Option Addr)(C:Nat)(ss:List ByteArray)(f:Int)(y0 y1 y2:List En)(B:Nat)(w:World)(xb:Nat):Nat->Prop
 |0=>RowL w xb 35 [.slice A ss.length C,.slice none 0 0,.int .i64 0,.slice none 0 0,.int .i64 0,.slice none 0 0,.int .i64 0,.int .i64 f]
 |1=>∃(h0 D0:Nat) (q0:List PN) (p0:Int),NT B w h0 D0 q0/\allP (q0.map PN.nd) p0 0 1099511627776=(0,y0)/\RowL w xb 35 [.slice A ss.length C,.slice (some ⟨h0,0,none⟩) q0.length D0,.int .i64 p0,.slice none 0 0,.int .i64 0,.slice none 0 0,.int .i64 0,.int .i64 f]
 |2=>∃(h0 D0:Nat) (q0:List PN) (p0:Int) (h1 D1:Nat) (q1:List PN) (p1:Int),NT B w h0 D0 q0/\allP (q0.map PN.nd) p0 0 1099511627776=(0,y0)/\NT B w h1 D1 q1/\allP (q1.map PN.nd) p1 0 1099511627776=(0,y1)/\RowL w xb 35 [.slice A ss.length C,.slice (some ⟨h0,0,none⟩) q0.length D0,.int .i64 p0,.slice (some ⟨h1,0,none⟩) q1.length D1,.int .i64 p1,.slice none 0 0,.int .i64 0,.int .i64 f]
 |_=>∃(h0 D0:Nat) (q0:List PN) (p0:Int) (h1 D1:Nat) (q1:List PN) (p1:Int) (h2 D2:Nat) (q2:List PN) (p2:Int),NT B w h0 D0 q0/\allP (q0.map PN.nd) p0 0 1099511627776=(0,y0)/\NT B w h1 D1 q1/\allP (q1.map PN.nd) p1 0 1099511627776=(0,y1)/\NT B w h2 D2 q2/\allP (q2.map PN.nd) p2 0 1099511627776=(0,y2)/\RowL w xb 35 [.slice A ss.length C,.slice (some ⟨h0,0,none⟩) q0.length D0,.int .i64 p0,.slice (some ⟨h1,0,none⟩) q1.length D1,.int .i64 p1,.slice (some ⟨h2,0,none⟩) q2.length D2,.int .i64 p2,.int .i64 f]

def BfTo(A:Option Addr)(C:Nat)(ss:List ByteArray)(f:Int)(y0 y1 y2:List En)(w:World)(e:Ending)(w':World):Prop:=
 Below w.heap.size w w'/\(((2900<y0.length\/2900<y1.length\/2900<y2.length)/\e=.returned (.tuple #[.agg #[.slice none 0 0,.slice none 0 0,.int .i64 0,.slice none 0 0,.int .i64 0,.slice none 0 0,.int .i64 0,.int .i64 0],.int .i64 1]))\/
  ∃(h0 D0:Nat) (q0:List PN) (p0:Int) (h1 D1:Nat) (q1:List PN) (p1:Int) (h2 D2:Nat) (q2:List PN) (p2:Int),NT w.heap.size w' h0 D0 q0/\allP (q0.map PN.nd) p0 0 1099511627776=(0,y0)/\NT w.heap.size w' h1 D1 q1/\allP (q1.map PN.nd) p1 0 1099511627776=(0,y1)/\NT w.heap.size w' h2 D2 q2/\allP (q2.map PN.nd) p2 0 1099511627776=(0,y2)/\e=.returned (.tuple #[.agg #[.slice A ss.length C,.slice (some ⟨h0,0,none⟩) q0.length D0,.int .i64 p0,.slice (some ⟨h1,0,none⟩) q1.length D1,.int .i64 p1,.slice (some ⟨h2,0,none⟩) q2.length D2,.int .i64 p2,.int .i64 f],.int .i64 0]))

theorem qfa{B xb a b g C:Nat}{w w7:World}{u v:Value}{q:List PN}(h:NT B w g C q)(hb:Below w.heap.size w w7)(hx:xb<B):NT B ((w7.setCell ⟨xb,a,none⟩ u).setCell ⟨xb,b,none⟩ v) g C q:=
 h.of_blocks fun k hk=>((Below.heap_setCell _ _ _ _ (show k≠xb by have:=(h.lt k hk).1;omega)).trans (Below.heap_setCell _ _ _ _ (show k≠xb by have:=(h.lt k hk).1;omega))).trans (hb.block k (h.lt k hk).2)

theorem qh5{B B' xb a b g C:Nat}{w7:World}{u v:Value}{q:List PN}(h:NT B' w7 g C q)(hB:B<=B')(hx:xb<B):NT B ((w7.setCell ⟨xb,a,none⟩ u).setCell ⟨xb,b,none⟩ v) g C q:=
 (h.low hB).of_blocks fun k hk=>(Below.heap_setCell _ _ _ _ (show k≠xb by have:=(h.lt k hk).1;omega)).trans (Below.heap_setCell _ _ _ _ (show k≠xb by have:=(h.lt k hk).1;omega))

set_option maxRecDepth 20000 in
set_option maxHeartbeats 8000000 in
theorem qf4(A VA:Option Addr)(C VC:Nat)(ss:List ByteArray)(f:Int)(L:List En)(w:World)(hZ:SzAt w)(hC:ss.length<=C)(hS:dW w.heap.size w A ss)(hR:aH w.heap.size w VA (aB L))(hz:L.length<=28000)(hk:∀x∈L,0<=x.key/\x.key<1099511627776)(hc:∀x∈L,x.c≠0)
  (hr:L.Pairwise fun a b=>a.key<b.key) (hb:bofB ss f L=true) (y0 y1 y2:List En) (r0:aP 1 L=some y0) (r1:aP 60 L=some y1) (r2:aP 3600 L=some y2):
  Calls Tryz.prog 128 #[.slice A ss.length C,.int .i64 f,.slice VA L.length VC] w (BfTo A C ss f y0 y1 y2 w):=by
 unfold bofB at hb;rw[Bool.and_eq_true] at hb;obtain⟨he,ha⟩:=hb;unfold BfTo;have EM:=aA fun W (hW:Below w.heap.size w W)=>zF A C ss f W (hZ.below hW) hC (hS.up hW)
 have PM:=aA fun W (hW:Below w.heap.size w W)=>zN ss.length f VA VC L W (hR.up hW) hz hk hc
 have b0:∀o:Obj,Below w.heap.size w (w.alloc o):=fun o=>(Below.refl _ _).alloc (Nat.le_refl _) o
 have hP:=qgv hz hr hk hc ha;have BO:=aA fun W (hW:Below w.heap.size w W)=>q5q (C:=VC) (hZ.below hW) (hR.up hW) hP r0 r1 r2
 have M0:=aA (hP.roll (.inl rfl) r0);have M1:=aA (hP.roll (.inr (.inl rfl)) r1);have M2:=aA (hP.roll (.inr (.inr rfl)) r2);rw[he] at EM;rw[ha] at PM;clear hZ hS hR hz hk hc he ha hr hP r0 r1 r2
 go_enter Tryz.func128,Tryz.ntmps128
 go_upto_region 3 with(first
  |(go_at_call 155;refine(EM.out _ (b0 _)).mono ?_;rintro e w1 ⟨rfl,hb1⟩;have XB:=aA ((aG w [.slice none 0 0,.slice none 0 0,.int .i64 0,.slice none 0 0,.int .i64 0,.slice none 0 0,.int .i64 0,.int .i64 0] 35).below hb1 (by simp));have x:=fun j=>XB.out.cell j;have lx:=XB.out.lt;have fx:=fun j=>XB.out.frozen j;have HB1:=aA (aC (b0 _) (Nat.le_refl _) hb1);clear hb1)
  |(go_at_call 107;refine(PM.out _ HB1.out).mono ?_;rintro e w2 ⟨rfl,hb2⟩;have XC:=aA (XB.out.below hb2 XB.out.lt);have y:=fun j=>XC.out.cell j;have ly:=XC.out.lt;have fy:=fun j=>XC.out.frozen j;have HB2:=aA (aC HB1.out (Nat.le_refl _) hb2);clear hb2 x lx fx))
 go_upto_region 4 with(first
  |(go_at_call 156;refine(BO.out _ HB2.out).mono ?_;rintro e w3 ⟨g0,c0,g1,c1,g2,c2,rfl,hb3,o0,o1,o2⟩;have XD:=aA (XC.out.below hb3 XC.out.lt);have HB3:=aA (aC HB2.out (Nat.le_refl _) hb3);have O0:=aA o0;have O1:=aA o1;have O2:=aA o2;clear hb3 y ly fy o0 o1 o2))
 obtain⟨w4,hw4⟩:∃w4,w4=w3.alloc (.cells #[.slice g0 y0.length c0,.slice g1 y1.length c1,.slice g2 y2.length c2] 211):=⟨_,rfl⟩;have hb4:Below w3.heap.size w3 w4:=by rw[hw4];exact(Below.refl _ _).alloc (Nat.le_refl _) _
 obtain⟨xa,hxa⟩:∃xa,xa=w3.heap.size:=⟨_,rfl⟩;have XA:=aA (show RowL w4 xa 211 [.slice g0 y0.length c0,.slice g1 y1.length c1,.slice g2 y2.length c2] by rw[hw4,hxa];exact aG w3 _ _)
 have a:=fun j=>XA.out.cell j
 have la:=XA.out.lt;have XE:=aA (XD.out.below hb4 XD.out.lt);have HB4:=aA (aC HB3.out (Nat.le_refl _) hb4);have U0:=aA (nK O0.out fun j _ hj=>hb4.block j hj)
 have U1:=aA (nK O1.out fun j _ hj=>hb4.block j hj)
 have U2:=aA (nK O2.out fun j _ hj=>hb4.block j hj)
 rw[<-hw4,<-hxa];clear hw4 hxa hb4 XD O0 O1 O2;go_upto_region 8 with fail;obtain⟨w5,hw5⟩:∃w5,w5=w4.alloc (.cells #[.slice A ss.length C,.slice none 0 0,.int .i64 0,.slice none 0 0,.int .i64 0,.slice none 0 0,.int .i64 0,.int .i64 f] 35):=⟨_,rfl⟩;obtain⟨xb,hxb⟩:∃xb,xb=w4.heap.size:=⟨_,rfl⟩;have XB0:=aA (show RowL w5 xb 35 [.slice A ss.length C,.slice none 0 0,.int .i64 0,.slice none 0 0,.int .i64 0,.slice none 0 0,.int .i64 0,.int .i64 f] by rw[hw5,hxb];exact aG w4 _ _)
 have HB5:=aA (show Below w4.heap.size w4 w5 by rw[hw5];exact(Below.refl _ _).alloc (Nat.le_refl _) _)
 have hx4:w4.heap.size<=xb:=by omega
 have hx5:xb<w5.heap.size:=XB0.out.lt;rw[<-hw5,<-hxb];clear hw5 hxb a la XA XB XC EM PM BO;have i0:∀w,(Instr.index 211 (.agg #[.slice g0 y0.length c0,.slice g1 y1.length c1,.slice g2 y2.length c2]) (.int .i64 0)).run Tryz.prog w=.ok (.slice g0 y0.length c0) w:=fun _=>by kernel_rfl
 have i1:∀w,(Instr.index 211 (.agg #[.slice g0 y0.length c0,.slice g1 y1.length c1,.slice g2 y2.length c2]) (.int .i64 1)).run Tryz.prog w=.ok (.slice g1 y1.length c1) w:=fun _=>by kernel_rfl
 have i2:∀w,(Instr.index 211 (.agg #[.slice g0 y0.length c0,.slice g1 y1.length c1,.slice g2 y2.length c2]) (.int .i64 2)).run Tryz.prog w=.ok (.slice g2 y2.length c2) w:=fun _=>by kernel_rfl
 go_loopw [40] (fun vi wr=>∃k:Nat,k<=3/\vi=.int .i64 (k:Int)/\Hid (BtAt A C ss f y0 y1 y2 w5.heap.size wr xb k)/\Hid (Below w4.heap.size w4 wr)/\Hid (w5.heap.size<=wr.heap.size)) (fun vi _=>3-(intOf vi).toNat)
 case atStart=>exact⟨0,by omega,rfl,XB0.out,HB5.out,Nat.le_refl _⟩
 case round=>
  obtain⟨k,hk,rfl,HK,HB,HZ⟩:=hrel;rcases(show k=0\/k=1\/k=2\/k=3 by omega) with rfl|rfl|rfl|rfl
  ·have hrow:RowL wr xb 35 [.slice A ss.length C,.slice none 0 0,.int .i64 0,.slice none 0 0,.int .i64 0,.slice none 0 0,.int .i64 0,.int .i64 f]:=HK.out;have HRx:=aA hrow;clear hrow HK;have con:=aA (qhj M0.out (nK U0.out fun j _ hj=>HB.out.block j hj))
   go_upto_region 11 with(first
    |(go_at_call 120;refine con.out.mono ?_;rintro e w6 ⟨XA,xl,XC,sr,c,rfl,hb6,hP⟩))
   obtain⟨w7,hw7⟩:∃w7,w7=w6.alloc (.cells #[.slice XA xl XC,.int .i64 sr] 32):=⟨_,rfl⟩;obtain⟨mb,hmb⟩:∃mb,mb=w6.heap.size:=⟨_,rfl⟩;have hb7:Below wr.heap.size wr w7:=by rw[hw7];exact hb6.alloc hb6.size _
   have HM:=aA (show RowL w7 mb 32 [.slice XA xl XC,.int .i64 sr] by rw[hw7,hmb];exact aG w6 _ _)
   have hPP:=hP.keep (w':=w7) (Nat.le_refl _) (fun _ _ hk=>by rw[hw7];exact Below.heap_alloc _ _ _ hk)
   have XR7:=aA ((XE.out.below HB.out XE.out.lt).below hb7 (Nat.lt_of_lt_of_le XE.out.lt HB.out.size));have X7:=aA (HRx.out.below hb7 HRx.out.lt);have HB7:=aA hb7;rw[<-hw7,<-hmb];clear hw7 hmb hP hb6 hb7 con;rcases hPP with⟨_,rfl,h29⟩|⟨rfl,g,q,rfl,rfl,hT,hF⟩
   ·have d:=fun j=>XR7.out.cell j
    have ld:=XR7.out.lt;have fd:=fun j=>XR7.out.frozen j
    have H29:=aA h29;clear h29;go_wp2_with fail;refine bodyPost_ret (v:=.tuple #[.agg #[.slice none 0 0,.slice none 0 0,.int .i64 0,.slice none 0 0,.int .i64 0,.slice none 0 0,.int .i64 0,.int .i64 0],.int .i64 1]) (by simp[results,Tryz.results128,go_sem,d]) rfl ⟨?_,.inl ⟨.inl H29.out,rfl⟩⟩
    exact eY (aC HB4.out (Nat.le_refl _) (HB.out.trans (HB7.out.mono HB.out.size))) (Nat.le_refl _) _ _ _ _ _ _ _ _
   ·have d:=fun j=>X7.out.cell j
    have ld:=X7.out.lt;have fd:=fun j=>X7.out.frozen j
    have m:=fun j=>HM.out.cell j
    have lm:=HM.out.lt;have HT:=aA hT;have HF:=aA hF;clear hT hF;go_wp2_with fail;exact⟨⟨1,by omega,rfl,⟨g,XC,q,sr,qh5 HT.out HZ.out hx5,HF.out,(X7.out.set 1 _).set 2 _⟩,((HB.out.trans (HB7.out.mono HB.out.size)).setCell hx4 _).setCell hx4 _,by have:=HB7.out.size;have:=HZ.out;simp[Hid];omega⟩,by simp only[intOf];omega⟩
  ·obtain⟨h0,D0,q0,p0,n0,a0,hrow⟩:=HK.out;have HRx:=aA hrow;have N0:=aA n0;have A0:=aA a0;clear hrow HK n0 a0;have con:=aA (qhj M1.out (nK U1.out fun j _ hj=>HB.out.block j hj))
   go_upto_region 11 with(first
    |(go_at_call 120;refine con.out.mono ?_;rintro e w6 ⟨XA,xl,XC,sr,c,rfl,hb6,hP⟩))
   obtain⟨w7,hw7⟩:∃w7,w7=w6.alloc (.cells #[.slice XA xl XC,.int .i64 sr] 32):=⟨_,rfl⟩;obtain⟨mb,hmb⟩:∃mb,mb=w6.heap.size:=⟨_,rfl⟩;have hb7:Below wr.heap.size wr w7:=by rw[hw7];exact hb6.alloc hb6.size _
   have HM:=aA (show RowL w7 mb 32 [.slice XA xl XC,.int .i64 sr] by rw[hw7,hmb];exact aG w6 _ _)
   have hPP:=hP.keep (w':=w7) (Nat.le_refl _) (fun _ _ hk=>by rw[hw7];exact Below.heap_alloc _ _ _ hk)
   have XR7:=aA ((XE.out.below HB.out XE.out.lt).below hb7 (Nat.lt_of_lt_of_le XE.out.lt HB.out.size));have X7:=aA (HRx.out.below hb7 HRx.out.lt);have HB7:=aA hb7;rw[<-hw7,<-hmb];clear hw7 hmb hP hb6 hb7 con;rcases hPP with⟨_,rfl,h29⟩|⟨rfl,g,q,rfl,rfl,hT,hF⟩
   ·have d:=fun j=>XR7.out.cell j
    have ld:=XR7.out.lt;have fd:=fun j=>XR7.out.frozen j
    have H29:=aA h29;clear h29;go_wp2_with fail;refine bodyPost_ret (v:=.tuple #[.agg #[.slice none 0 0,.slice none 0 0,.int .i64 0,.slice none 0 0,.int .i64 0,.slice none 0 0,.int .i64 0,.int .i64 0],.int .i64 1]) (by simp[results,Tryz.results128,go_sem,d]) rfl ⟨?_,.inl ⟨.inr (.inl H29.out),rfl⟩⟩
    exact eY (aC HB4.out (Nat.le_refl _) (HB.out.trans (HB7.out.mono HB.out.size))) (Nat.le_refl _) _ _ _ _ _ _ _ _
   ·have d:=fun j=>X7.out.cell j
    have ld:=X7.out.lt;have fd:=fun j=>X7.out.frozen j
    have m:=fun j=>HM.out.cell j
    have lm:=HM.out.lt;have HT:=aA hT;have HF:=aA hF;clear hT hF;go_wp2_with fail;exact⟨⟨2,by omega,rfl,⟨h0,D0,q0,p0,g,XC,q,sr,qfa N0.out HB7.out hx5,A0.out,qh5 HT.out HZ.out hx5,HF.out,(X7.out.set 3 _).set 4 _⟩,((HB.out.trans (HB7.out.mono HB.out.size)).setCell hx4 _).setCell hx4 _,by have:=HB7.out.size;have:=HZ.out;simp[Hid];omega⟩,by simp only[intOf];omega⟩
  ·obtain⟨h0,D0,q0,p0,h1,D1,q1,p1,n0,a0,n1,a1,hrow⟩:=HK.out;have HRx:=aA hrow;have N0:=aA n0;have A0:=aA a0;have N1:=aA n1;have A1:=aA a1;clear hrow HK n0 a0 n1 a1;have con:=aA (qhj M2.out (nK U2.out fun j _ hj=>HB.out.block j hj))
   go_upto_region 11 with(first
    |(go_at_call 120;refine con.out.mono ?_;rintro e w6 ⟨XA,xl,XC,sr,c,rfl,hb6,hP⟩))
   obtain⟨w7,hw7⟩:∃w7,w7=w6.alloc (.cells #[.slice XA xl XC,.int .i64 sr] 32):=⟨_,rfl⟩;obtain⟨mb,hmb⟩:∃mb,mb=w6.heap.size:=⟨_,rfl⟩;have hb7:Below wr.heap.size wr w7:=by rw[hw7];exact hb6.alloc hb6.size _
   have HM:=aA (show RowL w7 mb 32 [.slice XA xl XC,.int .i64 sr] by rw[hw7,hmb];exact aG w6 _ _)
   have hPP:=hP.keep (w':=w7) (Nat.le_refl _) (fun _ _ hk=>by rw[hw7];exact Below.heap_alloc _ _ _ hk)
   have XR7:=aA ((XE.out.below HB.out XE.out.lt).below hb7 (Nat.lt_of_lt_of_le XE.out.lt HB.out.size));have X7:=aA (HRx.out.below hb7 HRx.out.lt);have HB7:=aA hb7;rw[<-hw7,<-hmb];clear hw7 hmb hP hb6 hb7 con;rcases hPP with⟨_,rfl,h29⟩|⟨rfl,g,q,rfl,rfl,hT,hF⟩
   ·have d:=fun j=>XR7.out.cell j
    have ld:=XR7.out.lt;have fd:=fun j=>XR7.out.frozen j
    have H29:=aA h29;clear h29;go_wp2_with fail;refine bodyPost_ret (v:=.tuple #[.agg #[.slice none 0 0,.slice none 0 0,.int .i64 0,.slice none 0 0,.int .i64 0,.slice none 0 0,.int .i64 0,.int .i64 0],.int .i64 1]) (by simp[results,Tryz.results128,go_sem,d]) rfl ⟨?_,.inl ⟨.inr (.inr H29.out),rfl⟩⟩
    exact eY (aC HB4.out (Nat.le_refl _) (HB.out.trans (HB7.out.mono HB.out.size))) (Nat.le_refl _) _ _ _ _ _ _ _ _
   ·have d:=fun j=>X7.out.cell j
    have ld:=X7.out.lt;have fd:=fun j=>X7.out.frozen j
    have m:=fun j=>HM.out.cell j
    have lm:=HM.out.lt;have HT:=aA hT;have HF:=aA hF;clear hT hF;go_wp2_with fail;exact⟨⟨3,by omega,rfl,⟨h0,D0,q0,p0,h1,D1,q1,p1,g,XC,q,sr,qfa N0.out HB7.out hx5,A0.out,qfa N1.out HB7.out hx5,A1.out,qh5 HT.out HZ.out hx5,HF.out,(X7.out.set 5 _).set 6 _⟩,((HB.out.trans (HB7.out.mono HB.out.size)).setCell hx4 _).setCell hx4 _,by have:=HB7.out.size;have:=HZ.out;simp[Hid];omega⟩,by simp only[intOf];omega⟩
  ·obtain⟨h0,D0,q0,p0,h1,D1,q1,p1,h2,D2,q2,p2,n0,a0,n1,a1,n2,a2,hrow⟩:=HK.out;have HRx:=aA hrow;have N0:=aA n0;have A0:=aA a0;have N1:=aA n1;have A1:=aA a1;have N2:=aA n2;have A2:=aA a2;clear hrow HK n0 a0 n1 a1 n2 a2;have XR:=aA (XE.out.below HB.out XE.out.lt);have d:=fun j=>XR.out.cell j
   have ld:=XR.out.lt;have fd:=fun j=>XR.out.frozen j
   have x:=fun j=>HRx.out.cell j
   have lx:=HRx.out.lt;have hwx:w.heap.size<w5.heap.size:=Nat.lt_of_lt_of_le XE.out.lt HB5.out.size;go_wp2_with fail;refine bodyPost_ret (v:=.tuple #[.agg #[.slice A ss.length C,.slice (some ⟨h0,0,none⟩) q0.length D0,.int .i64 p0,.slice (some ⟨h1,0,none⟩) q1.length D1,.int .i64 p1,.slice (some ⟨h2,0,none⟩) q2.length D2,.int .i64 p2,.int .i64 f],.int .i64 0]) (by simp[results,Tryz.results128,go_sem,d]) rfl ⟨?_,.inr ⟨h0,D0,q0,p0,h1,D1,q1,p1,h2,D2,q2,p2,?_,A0.out,?_,A1.out,?_,A2.out,rfl⟩⟩
   ·exact eY (aC HB4.out (Nat.le_refl _) HB.out) (Nat.le_refl _) _ _ _ _ _ _ _ _
   ·exact(N0.out.low (Nat.le_of_lt hwx)).of_blocks fun k hk=>fM _ _ _ _ _ _ _ _ _ _ k (by have:=(N0.out.lt k hk).1;omega)
   ·exact(N1.out.low (Nat.le_of_lt hwx)).of_blocks fun k hk=>fM _ _ _ _ _ _ _ _ _ _ k (by have:=(N1.out.lt k hk).1;omega)
   ·exact(N2.out.low (Nat.le_of_lt hwx)).of_blocks fun k hk=>fM _ _ _ _ _ _ _ _ _ _ k (by have:=(N2.out.lt k hk).1;omega)

end
end Go.Proofs.YtlojfgdpmaigmagGreatDoor

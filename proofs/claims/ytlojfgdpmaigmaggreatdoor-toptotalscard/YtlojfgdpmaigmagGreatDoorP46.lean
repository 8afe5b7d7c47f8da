/- A base in memory, and the points that it knows: what the calls make of it. -/
import Derived.Test.YtlojfgdpmaigmagGreatDoorP44
import Derived.Test.YtlojfgdpmaigmagGreatDoorP38
import Derived.Test.YtlojfgdpmaigmagGreatDoorTells
import Derived.Test.YtlojfgdpmaigmagGreatDoorP43
import Derived.Test.YtlojfgdpmaigmagGreatDoorP27
import Derived.Test.YtlojfgdpmaigmagGreatDoorP26
namespace Go.Proofs.YtlojfgdpmaigmagGreatDoor
section
open Go.RowKit Plain Go.Shelf

structure dU(w:World)(A:Option Addr)(C:Nat)(ss:List ByteArray)(t0 t1 t2:TR):Prop where
 nn:A=none->C=0
 len:ss.length<=C
 st:dW w.heap.size w A ss
 o0:t0.ok w
 o1:t1.ok w
 o2:t2.ok w

def KB(ss:List ByteArray)(f:Int)(t0 t1 t2:TR)(pts:List Pt):Prop:=∃L0 L1 L2,fP ss f (t0.ps.map PN.nd) t0.r (t1.ps.map PN.nd) t1.r (t2.ps.map PN.nd) t2.r pts L0 L1 L2

section
variable {B C : Nat} {A : Option Addr} {ss : List ByteArray} {t0 t1 t2 : TR} {f : Int} {pts : List Pt} {w w' : World}

theorem dU.up(h:dU w A C ss t0 t1 t2)(hb:Below w.heap.size w w'):dU w' A C ss t0 t1 t2:=
 ⟨h.nn,h.len,h.st.up hb,⟨h.o0.1.up hb,h.o0.2⟩,⟨h.o1.1.up hb,h.o1.2⟩,⟨h.o2.1.up hb,h.o2.2⟩⟩

theorem OwnB.at(h:OwnB B w A C ss t0 t1 t2)(k:KB ss f t0 t1 t2 pts):dU w A C ss t0 t1 t2:=by
 obtain⟨L0,L1,L2,k⟩:=k;obtain⟨A',C',e,hn,hl,_,hr⟩:=aN h.sr;cases e;obtain⟨g0,e0,n0⟩:=h.n0;obtain⟨g1,e1,n1⟩:=h.n1;obtain⟨g2,e2,n2⟩:=h.n2;have k0:=(jL k.lst.a0).1;have k1:=(jL k.lst.a1).1;have k2:=(jL k.lst.a2).1;have hs:=h.sn;exact⟨hn,hl,⟨hr,by omega,h.se⟩,⟨by rw[e0];exact n0.nodes,lZ k0,mG k0⟩,⟨by rw[e1];exact n1.nodes,lZ k1,mG k1⟩,⟨by rw[e2];exact n2.nodes,lZ k2,mG k2⟩⟩

theorem OwnB.set8(h:OwnB B w A C ss t0 t1 t2){b:Nat}(hb:b<B)(x0 x1 x2 x3 x4 x5 x6 x7:Value):OwnB B (set8 w b x0 x1 x2 x3 x4 x5 x6 x7) A C ss t0 t1 t2:=
 h.keep (Nat.le_refl _) fun k hk _=>fM _ _ _ _ _ _ _ _ _ _ k (by omega)

def qmp(ss:List ByteArray)(f:Int)(pts:List Pt)(w:World)(e:Ending)(w':World):Prop:=
 ∃(A:Option Addr) (C:Nat) (t0 t1 t2:TR),e=.returned (.tuple #[.agg (aJ A C ss t0 t1 t2 f).toArray,.int .i64 0])/\OwnB w.heap.size w' A C ss t0 t1 t2/\KB ss f t0 t1 t2 pts/\Below w.heap.size w w'

theorem qnt(hZ:SzAt w)(hB:dU w A C ss t0 t1 t2)(hK:KB ss f t0 t1 t2 pts){s:ByteArray}{t v:Int}(hs:s.size<=140737488351232)(hp:ptC s t v f=0)(hl:(bH ss s).length<=16)(hn:pts.length<=900):
  Calls Tryz.prog 63 #[.agg (aJ A C ss t0 t1 t2 f).toArray,.agg #[.string s,.int .i64 t,.int .i64 v]] w (qmp (bH ss s) f (pts++[⟨s,t,v⟩]) w):=by
 obtain⟨L0,L1,L2,k⟩:=hK;refine(q4i A C ss t0 t1 t2 f s t v w hZ hB.len hB.st hs hB.o0 hB.o1 hB.o2).mono ?_;rintro e w' ⟨hb,h⟩;rcases h with⟨c,_,hno,_⟩|⟨A',C',u0,u1,u2,K0,K1,K2,M0,M1,M2,hy,rfl,_,_,_,_,_,_,ho⟩
 ·exact absurd hno (k.add_ok hp hl hn)
 ·exact⟨A',C',u0,u1,u2,rfl,ho,⟨M0,M1,M2,k.add hy⟩,hb⟩

theorem qow(hZ:SzAt w)(hB:dU w A C ss t0 t1 t2)(hK:KB ss f t0 t1 t2 pts){s:ByteArray}{t v c:Int}(hs:s.size<=140737488351232)(hp:ptC s t v f=c)(hc:c≠0):
  Calls Tryz.prog 63 #[.agg (aJ A C ss t0 t1 t2 f).toArray,.agg #[.string s,.int .i64 t,.int .i64 v]] w fun e w'=>e=.returned (dG c)/\Below w.heap.size w w':=by
 obtain⟨L0,L1,L2,k⟩:=hK;refine(q4i A C ss t0 t1 t2 f s t v w hZ hB.len hB.st hs hB.o0 hB.o1 hB.o2).mono ?_;rintro e w' ⟨hb,h⟩;rcases h with⟨d,_,hno,rfl⟩|⟨A',C',u0,u1,u2,K0,K1,K2,M0,M1,M2,hy,_⟩
 ·rcases hno with⟨h1,_⟩|⟨_,_,h1⟩|⟨_,h1,_⟩
  ·rw[k.ok] at h1;cases h1
  ·rw[h1,hp];exact⟨rfl,hb⟩
  ·omega
 ·exact absurd (hy.pt.symm.trans hp).symm hc

theorem qma:∀(zs:List ByteArray) (x:ByteArray) (i:Nat),Lib.idxFromS zs x i<i+zs.length\/Lib.idxFromS zs x i=-1
 |[],_,_=>.inr rfl
 |z::zs,x,i=>by
  by_cases hz:z=x
  ·left;simp only[Lib.idxFromS,hz,if_true,List.length_cons];omega
  ·simp only[Lib.idxFromS,hz,if_false,List.length_cons];rcases qma zs x (i+1) with h|h
   ·left;omega
   ·exact .inr h

theorem qli{x:ByteArray}{p:Int}(hx:Lib.idxOfS ss x=p)(hf:ss.length<=16):p<16:=by
 have k:=qma ss x 0;have e:Lib.idxFromS ss x 0=p:=hx;rw[e] at k;omega

theorem q2j(hZ:SzAt w)(hB:dU w A C ss t0 t1 t2)(hK:KB ss f t0 t1 t2 pts){x:ByteArray}{p:Int}(hx:Lib.idxOfS ss x=p)(hp:0<=p):
  Hid (∀V,Below w.heap.size w V->Calls Tryz.prog 91 #[.agg (aJ A C ss t0 t1 t2 f).toArray,.string x] V fun e w'=>e=.returned (.tuple #[.int .i64 p,.int .i64 0])/\Below V.heap.size V w'):=fun V hV=>by
 obtain⟨L0,L1,L2,k⟩:=hK;have hB':=hB.up hV;have c:=pJ A C ss t0 t1 t2 f x V (hZ.below hV) hB'.len hB'.st hB'.o0 hB'.o1 hB'.o2 true k.ok;rw[hx] at c;have hn:¬p<0:=by omega
 simp only[if_true,hn,if_false] at c;exact c

theorem q6o(hZ:SzAt w)(hB:dU w A C ss t0 t1 t2)(hK:KB ss f t0 t1 t2 pts){x:ByteArray}(hx:Lib.idxOfS ss x<0):
  Hid (∀V,Below w.heap.size w V->Calls Tryz.prog 91 #[.agg (aJ A C ss t0 t1 t2 f).toArray,.string x] V fun e w'=>e=.returned (.tuple #[.int .i64 0,.int .i64 6])/\Below V.heap.size V w'):=fun V hV=>by
 obtain⟨L0,L1,L2,k⟩:=hK;have hB':=hB.up hV;have c:=pJ A C ss t0 t1 t2 f x V (hZ.below hV) hB'.len hB'.st hB'.o0 hB'.o1 hB'.o2 true k.ok;simp only[if_true,hx] at c;exact c

theorem qk1(hZ:SzAt w)(hB:dU w A C ss t0 t1 t2)(hK:KB ss f t0 t1 t2 pts){x:ByteArray}{a b:Int}(hx:0<=Lib.idxOfS ss x)(hsp:eH a b=true)(hn:pts.length<=100000):
  Calls Tryz.prog 65 #[.agg (aJ A C ss t0 t1 t2 f).toArray,.string x,.int .i64 a,.int .i64 b] w (MaTo (sumR (mQ x a b pts),0) w):=by
 obtain⟨L0,L1,L2,k⟩:=hK;have c:=qjt A C ss t0 t1 t2 f x a b _ L0 L1 L2 w hZ hB.len hB.st hB.o0 hB.o1 hB.o2 k.ok k.lst rfl hx (qli rfl k.lst.few) hsp;rw[k.total rfl hx hn] at c;exact c

theorem qis(hZ:SzAt w)(hB:dU w A C ss t0 t1 t2)(hK:KB ss f t0 t1 t2 pts){x:ByteArray}{a b:Int}(hx:Lib.idxOfS ss x<0):
  Calls Tryz.prog 65 #[.agg (aJ A C ss t0 t1 t2 f).toArray,.string x,.int .i64 a,.int .i64 b] w (MaTo (zro,6) w):=
 qnm A C ss t0 t1 t2 f x a b w 6 0 rfl (q6o hZ hB hK hx)

theorem qkj(hZ:SzAt w)(hB:dU w A C ss t0 t1 t2)(hK:KB ss f t0 t1 t2 pts){x:ByteArray}{a b:Int}(hx:0<=Lib.idxOfS ss x)(hsp:eH a b=false):
  Calls Tryz.prog 65 #[.agg (aJ A C ss t0 t1 t2 f).toArray,.string x,.int .i64 a,.int .i64 b] w (MaTo (zro,2) w):=
 qdx A C ss t0 t1 t2 f x a b w _ hsp (q2j hZ hB hK rfl hx)
end

theorem qpz:fP [] 0 ([cO].map PN.nd) 0 ([cO].map PN.nd) 0 ([cO].map PN.nd) 0 [] [] [] []:=by
 obtain⟨L0,L1,L2,hL⟩:=mY xP;obtain⟨rfl,rfl,rfl⟩:=qqp hL;exact⟨xP,hL,rfl,fun p hp=>by simp at hp⟩

theorem qf7(w:World):Calls Tryz.prog 38 #[] w fun e w'=>∃t0 t1 t2,e=.returned (.agg (aJ none 0 [] t0 t1 t2 0).toArray)/\OwnB w.heap.size w' none 0 [] t0 t1 t2/\KB [] 0 t0 t1 t2 []/\Below w.heap.size w w':=by
 refine(qap w).mono ?_;rintro e w' ⟨g0,g1,g2,rfl,n0,n1,n2,hb⟩;exact⟨⟨some ⟨g0,0,none⟩,1,[cO],0⟩,⟨some ⟨g1,0,none⟩,1,[cO],0⟩,⟨some ⟨g2,0,none⟩,1,[cO],0⟩,rfl,⟨World.ownsRow_nil _ _ _ _,by simp,by simp,⟨g0,rfl,n0⟩,⟨g1,rfl,n1⟩,⟨g2,rfl,n2⟩⟩,⟨[],[],[],qpz⟩,hb⟩

end
section
open Go.RowKit Plain Go.Shelf

def oV(ss:List ByteArray)(f:Int):Bool:=decide (ss.length<=16)&&(inB f 0 1048575&&(decide (f%3600=0)&&gI ss))

theorem qlq:allP ([cO].map PN.nd) 0 0 1099511627776=(0,[]):=by
 obtain⟨L0,L1,L2,hL⟩:=mY xP;obtain⟨rfl,rfl,rfl⟩:=qqp hL;exact hL.a0

theorem qdm(ss:List ByteArray)(f:Int):bM ss f ([cO].map PN.nd) 0 ([cO].map PN.nd) 0 ([cO].map PN.nd) 0=oV ss f:=by
 have ht:lG ss.length f ([cO].map PN.nd) 0 ([cO].map PN.nd) 0 ([cO].map PN.nd) 0=true:=by
  have hb:fU ([cO].map PN.nd) 0 ss.length f=some []:=by
   unfold fU;rw[qlq]
   rfl
  have hs:∀size:Int,bW size [] ([cO].map PN.nd) 0=true:=fun size=>by
   unfold bW;rw[qlq]
   rfl
  unfold lG;rw[hb];simp only[hs,Bool.and_self]
 unfold bM oV;rw[ht,Bool.and_true]

def zTR(g:Nat):TR:=⟨some ⟨g,0,none⟩,1,[cO],0⟩

theorem kJ{B g:Nat}{w:World}(h:NT B w g 1 [cO]):(zTR g).ok w:=by
 obtain⟨L0,L1,L2,hL⟩:=mY xP;have k0:=(jL hL.a0).1;exact⟨h.nodes,lZ k0,mG k0⟩

set_option maxRecDepth 20000 in
set_option maxHeartbeats 2000000 in
theorem zF(A:Option Addr)(C:Nat)(ss:List ByteArray)(f:Int)(w:World)(hZ:SzAt w)(hC:ss.length<=C)(hS:dW w.heap.size w A ss):
  Calls Tryz.prog 155 #[.slice A ss.length C,.int .i64 f] w fun e w'=>e=.returned (.bool (oV ss f))/\Below w.heap.size w w':=by
 obtain⟨bb,hbb⟩:∃bb,oV ss f=bb:=⟨_,rfl⟩;rw[hbb];have CK:=aA fun W (hW:Below w.heap.size w W) g0 g1 g2 (h0:(zTR g0).ok W) (h1:(zTR g1).ok W) (h2:(zTR g2).ok W)=>sV A C ss (zTR g0) (zTR g1) (zTR g2) f W (hZ.below hW) hC (hS.up hW) h0 h1 h2 bb (by show _=_;rw[<-hbb,<-qdm];rfl)
 have BN:=aA (qap w);simp only[aJ,zTR] at CK;clear hbb hZ hS;cases bb with
 |true=>
  simp only[if_true] at CK
  go_enter Tryz.func155,Tryz.ntmps155
  go_upto_region 2 with(first
   |(go_at_call 38;refine BN.out.mono ?_;rintro e w2 ⟨g0,g1,g2,rfl,n0,n1,n2,hb2⟩;have H0:=aA (fun W (hW:Below w2.heap.size w2 W)=>(⟨(kJ n0).1.up hW,(kJ n0).2⟩:(zTR g0).ok W));have H1:=aA (fun W (hW:Below w2.heap.size w2 W)=>(⟨(kJ n1).1.up hW,(kJ n1).2⟩:(zTR g1).ok W));have H2:=aA (fun W (hW:Below w2.heap.size w2 W)=>(⟨(kJ n2).1.up hW,(kJ n2).2⟩:(zTR g2).ok W));have HB2:=aA hb2;clear n0 n1 n2 hb2))
  go_wp2_with (first
   |(go_at_call 55;refine(CK.out _ (aC HB2.out (Nat.le_refl _) (by repeat (first|exact(Below.refl _ _).alloc (Nat.le_refl _) _|refine Below.setCell ?_ (Nat.le_refl _) _))) _ _ _ (H0.out _ (by repeat (first|exact(Below.refl _ _).alloc (Nat.le_refl _) _|refine Below.setCell ?_ (Nat.le_refl _) _))) (H1.out _ (by repeat (first|exact(Below.refl _ _).alloc (Nat.le_refl _) _|refine Below.setCell ?_ (Nat.le_refl _) _))) (H2.out _ (by repeat (first|exact(Below.refl _ _).alloc (Nat.le_refl _) _|refine Below.setCell ?_ (Nat.le_refl _) _)))).mono ?_;rintro e w3 ⟨rfl,hb3⟩))
  go_ret;exact⟨rfl,aC (aC HB2.out (Nat.le_refl _) (by repeat (first|exact(Below.refl _ _).alloc (Nat.le_refl _) _|refine Below.setCell ?_ (Nat.le_refl _) _))) (Nat.le_refl _) hb3⟩
 |false=>
  simp only[Bool.false_eq_true,if_false] at CK
  go_enter Tryz.func155,Tryz.ntmps155
  go_upto_region 2 with(first
   |(go_at_call 38;refine BN.out.mono ?_;rintro e w2 ⟨g0,g1,g2,rfl,n0,n1,n2,hb2⟩;have H0:=aA (fun W (hW:Below w2.heap.size w2 W)=>(⟨(kJ n0).1.up hW,(kJ n0).2⟩:(zTR g0).ok W));have H1:=aA (fun W (hW:Below w2.heap.size w2 W)=>(⟨(kJ n1).1.up hW,(kJ n1).2⟩:(zTR g1).ok W));have H2:=aA (fun W (hW:Below w2.heap.size w2 W)=>(⟨(kJ n2).1.up hW,(kJ n2).2⟩:(zTR g2).ok W));have HB2:=aA hb2;clear n0 n1 n2 hb2))
  go_wp2_with (first
   |(go_at_call 55;refine(CK.out _ (aC HB2.out (Nat.le_refl _) (by repeat (first|exact(Below.refl _ _).alloc (Nat.le_refl _) _|refine Below.setCell ?_ (Nat.le_refl _) _))) _ _ _ (H0.out _ (by repeat (first|exact(Below.refl _ _).alloc (Nat.le_refl _) _|refine Below.setCell ?_ (Nat.le_refl _) _))) (H1.out _ (by repeat (first|exact(Below.refl _ _).alloc (Nat.le_refl _) _|refine Below.setCell ?_ (Nat.le_refl _) _))) (H2.out _ (by repeat (first|exact(Below.refl _ _).alloc (Nat.le_refl _) _|refine Below.setCell ?_ (Nat.le_refl _) _)))).mono ?_;rintro e w3 ⟨rfl,hb3⟩))
  go_ret;exact⟨rfl,aC (aC HB2.out (Nat.le_refl _) (by repeat (first|exact(Below.refl _ _).alloc (Nat.le_refl _) _|refine Below.setCell ?_ (Nat.le_refl _) _))) (Nat.le_refl _) hb3⟩

structure PtsL(l:List En):Prop where
 z:l.length<=28000
 rise:l.Pairwise fun a b=>a.key<b.key
 good:∀x∈l,Good x.ru
 keys:∀x∈l,0<=x.key/\x.key<1099511627776

def GaTo(l:List En)(size:Int)(w:World)(e:Ending)(w':World):Prop:=
 Below w.heap.size w w'/\((∃ys v,aP size l=some ys/\e=.returned (.tuple #[v,.int .i64 0])/\w'.ownsRow w.heap.size 132 7 v ys.length (aB ys))\/(aP size l=none/\e=.returned (.tuple #[.slice none 0 0,.int .i64 1])))

theorem q3l(A:Option Addr)(C:Nat)(l:List En)(size:Int)(hs:size=1\/size=60\/size=3600)(w:World)(h:aH w.heap.size w A (aB l))(hl:PtsL l):
  Calls Tryz.prog 108 #[.slice A l.length C,.int .i64 size] w (GaTo l size w):=
 q0t A C l size hs w h hl.z hl.rise hl.good hl.keys _ (fun e w' hb h1 h2=>by
  cases hr:aP size l with
  |none=>exact⟨hb,.inr ⟨hr,h2 hr⟩⟩
  |some ys=>
   obtain⟨v,he,ho⟩:=h1 ys hr;exact⟨hb,.inl ⟨ys,v,hr,he,ho⟩⟩)

theorem zL{A:Option Addr}{C:Nat}{l ys:List En}{size:Int}(hs:size=1\/size=60\/size=3600){w:World}(h:aH w.heap.size w A (aB l))(hl:PtsL l)(hr:aP size l=some ys):
  Calls Tryz.prog 108 #[.slice A l.length C,.int .i64 size] w fun e w'=>∃g c,e=.returned (.tuple #[.slice g ys.length c,.int .i64 0])/\Below w.heap.size w w'/\w'.ownsRow w.heap.size 132 7 (.slice g ys.length c) ys.length (aB ys):=by
 refine(q3l A C l size hs w h hl).mono ?_;rintro e w' ⟨hb,⟨zs,v,hz,rfl,ho⟩|⟨hz,_⟩⟩
 ·rw[hr] at hz;cases hz;obtain⟨g,c,rfl,-⟩:=aN ho;exact⟨g,c,rfl,hb,ho⟩
 ·rw[hr] at hz;cases hz

theorem zK{A:Option Addr}{C:Nat}{l:List En}{size:Int}(hs:size=1\/size=60\/size=3600){w:World}(h:aH w.heap.size w A (aB l))(hl:PtsL l)(hr:aP size l=none):
  Calls Tryz.prog 108 #[.slice A l.length C,.int .i64 size] w fun e w'=>e=.returned (.tuple #[.slice none 0 0,.int .i64 1])/\Below w.heap.size w w':=by
 refine(q3l A C l size hs w h hl).mono ?_;rintro e w' ⟨hb,⟨zs,v,hz,_⟩|⟨_,he⟩⟩
 ·rw[hr] at hz;cases hz
 ·exact⟨he,hb⟩

theorem nK{B:Nat}{w w':World}{t:TypeId}{size n:Nat}{v:Value}{vs:List Value}(h:w.ownsRow B t size v n vs)(hk:∀j,B<=j->j<w.heap.size->w'.heap[j]? =w.heap[j]?):w'.ownsRow B t size v n vs:=
 aW h fun k e=>hk k (h.lt k e).1 (h.lt k e).2

theorem qbb{B B':Nat}{w:World}{t:TypeId}{size n:Nat}{v:Value}{vs:List Value}(h:w.ownsRow B t size v n vs)(hB:B'<=B):w.ownsRow B' t size v n vs:=
 ⟨h.1,h.2.imp id fun⟨g,cap,cur,hv,hb,r⟩=>⟨g,cap,cur,hv,Nat.le_trans hB hb,r⟩⟩

def BkAt(B:Nat)(w:World)(xb:Nat)(l:List En):Nat->Prop
 |0=>RowL w xb 211 [.slice none 0 0,.slice none 0 0,.slice none 0 0]
 |1=>∃g0 c0 y0,aP 1 l=some y0/\w.ownsRow B 132 7 (.slice g0 y0.length c0) y0.length (aB y0)/\RowL w xb 211 [.slice g0 y0.length c0,.slice none 0 0,.slice none 0 0]
 |2=>∃g0 c0 y0 g1 c1 y1,aP 1 l=some y0/\aP 60 l=some y1/\w.ownsRow B 132 7 (.slice g0 y0.length c0) y0.length (aB y0)/\w.ownsRow B 132 7 (.slice g1 y1.length c1) y1.length (aB y1)/\RowL w xb 211 [.slice g0 y0.length c0,.slice g1 y1.length c1,.slice none 0 0]
 |_=>∃g0 c0 y0 g1 c1 y1 g2 c2 y2,aP 1 l=some y0/\aP 60 l=some y1/\aP 3600 l=some y2/\w.ownsRow B 132 7 (.slice g0 y0.length c0) y0.length (aB y0)/\w.ownsRow B 132 7 (.slice g1 y1.length c1) y1.length (aB y1)/\w.ownsRow B 132 7 (.slice g2 y2.length c2) y2.length (aB y2)/\RowL w xb 211 [.slice g0 y0.length c0,.slice g1 y1.length c1,.slice g2 y2.length c2]

def BkTo(l:List En)(w:World)(e:Ending)(w':World):Prop:=
 Below w.heap.size w w'/\(((aP 1 l=none\/aP 60 l=none\/aP 3600 l=none)/\e=.returned (.tuple #[.agg #[.slice none 0 0,.slice none 0 0,.slice none 0 0],.int .i64 1]))\/
  (∃g0 c0 y0 g1 c1 y1 g2 c2 y2,aP 1 l=some y0/\aP 60 l=some y1/\aP 3600 l=some y2/\w'.ownsRow w.heap.size 132 7 (.slice g0 y0.length c0) y0.length (aB y0)/\w'.ownsRow w.heap.size 132 7 (.slice g1 y1.length c1) y1.length (aB y1)/\w'.ownsRow w.heap.size 132 7 (.slice g2 y2.length c2) y2.length (aB y2)/\e=.returned (.tuple #[.agg #[.slice g0 y0.length c0,.slice g1 y1.length c1,.slice g2 y2.length c2],.int .i64 0])))

theorem q9n{B xb k n:Nat}{w w3:World}{u v:Value}{vs:List Value}(h:w.ownsRow B 132 7 v n vs)(hb:Below w.heap.size w w3)(hx:xb<B):(w3.setCell ⟨xb,k,none⟩ u).ownsRow B 132 7 v n vs:=
 nK h fun j h1 h2=>(Below.heap_setCell _ _ _ _ (show j≠xb by omega)).trans (hb.block j h2)

theorem qab{B B' xb k n:Nat}{w3:World}{u v:Value}{vs:List Value}(h:w3.ownsRow B' 132 7 v n vs)(hB:B<=B')(hx:xb<B):(w3.setCell ⟨xb,k,none⟩ u).ownsRow B 132 7 v n vs:=
 nK (qbb h hB) fun j h1 _=>Below.heap_setCell _ _ _ _ (show j≠xb by omega)

theorem q9c{B B' rb n:Nat}{w:World}{u0 u1 u2 v:Value}{vs:List Value}(h:w.ownsRow B 132 7 v n vs)(hB:B'<=B)(hx:rb<B):(((w.setCell ⟨rb,0,none⟩ u0).setCell ⟨rb,1,none⟩ u1).setCell ⟨rb,2,none⟩ u2).ownsRow B' 132 7 v n vs:=
 qbb (nK h fun j h1 _=>(Below.heap_setCell _ _ _ _ (show j≠rb by omega)).trans ((Below.heap_setCell _ _ _ _ (show j≠rb by omega)).trans (Below.heap_setCell _ _ _ _ (show j≠rb by omega)))) hB

set_option maxRecDepth 20000 in
set_option maxHeartbeats 4000000 in
theorem q0e(A:Option Addr)(C:Nat)(l:List En)(w:World)(hZ:SzAt w)(h:aH w.heap.size w A (aB l))(hl:PtsL l):
  Calls Tryz.prog 156 #[.slice A l.length C] w (BkTo l w):=by
 unfold BkTo;have SZ:=aA fun W (hW:Below w.heap.size w W)=>jJ W (hZ.below hW)
 have HRW:=aA h;have HPL:=aA hl;clear h hl hZ;have i0:∀w,(Instr.index 142 (.agg #[.int .i64 1,.int .i64 60,.int .i64 3600]) (.int .i64 0)).run Tryz.prog w=.ok (.int .i64 1) w:=fun _=>by kernel_rfl
 have i1:∀w,(Instr.index 142 (.agg #[.int .i64 1,.int .i64 60,.int .i64 3600]) (.int .i64 1)).run Tryz.prog w=.ok (.int .i64 60) w:=fun _=>by kernel_rfl
 have i2:∀w,(Instr.index 142 (.agg #[.int .i64 1,.int .i64 60,.int .i64 3600]) (.int .i64 2)).run Tryz.prog w=.ok (.int .i64 3600) w:=fun _=>by kernel_rfl
 go_enter Tryz.func156,Tryz.ntmps156
 go_upto_region 2 with fail;obtain⟨w0,hw0⟩:∃w0,w0=(w.alloc (.cells #[.slice none 0 0,.slice none 0 0,.slice none 0 0] 211)).alloc (.cells #[.slice none 0 0,.slice none 0 0,.slice none 0 0] 211):=⟨_,rfl⟩;obtain⟨xb,hxb⟩:∃xb,xb=w.heap.size+1:=⟨_,rfl⟩;obtain⟨rb,hrb⟩:∃rb,rb=w.heap.size:=⟨_,rfl⟩;have HX:Hid (w.heap.size<=rb/\rb<xb):=⟨by omega,by omega⟩
 have XA:Hid (RowL w0 xb 211 [.slice none 0 0,.slice none 0 0,.slice none 0 0]):=by
  have k:=aG (w.alloc (.cells #[.slice none 0 0,.slice none 0 0,.slice none 0 0] 211)) [.slice none 0 0,.slice none 0 0,.slice none 0 0] 211;rw[hw0,hxb];show RowL _ _ _ _
  simpa using k
 have XR:Hid (RowL w0 rb 211 [.slice none 0 0,.slice none 0 0,.slice none 0 0]):=by
  rw[hw0,hrb];exact(aG w [.slice none 0 0,.slice none 0 0,.slice none 0 0] 211).below ((Below.refl _ _).alloc (Nat.le_refl _) _) (by simp)
 have HB0:Hid (Below w.heap.size w w0):=by
  rw[hw0];exact((Below.refl _ _).alloc (Nat.le_refl _) _).alloc (by simp) _
 rw[<-hw0,<-hxb,<-hrb];clear hw0 hxb hrb
 go_upto_region 3 with(first
  |(go_at_call 87;refine(SZ.out _ HB0.out).mono ?_;rintro e w1 ⟨rfl,hb1⟩;have XA':=aA (XA.out.below hb1 XA.out.lt);have XR':=aA (XR.out.below hb1 XR.out.lt);have HB1:=aA (aC HB0.out (Nat.le_refl _) hb1);have hxl:=XA'.out.lt;clear hb1 XA XR))
 clear SZ
 go_loopw [10] (fun vi wr=>∃k:Nat,k<=3/\vi=.int .i64 (k:Int)/\Hid (BkAt w1.heap.size wr xb l k)/\Hid (Below w.heap.size w wr)/\Hid (w1.heap.size<=wr.heap.size)/\Hid (RowL wr rb 211 [.slice none 0 0,.slice none 0 0,.slice none 0 0])) (fun vi _=>3-(intOf vi).toNat)
 case atStart=>exact⟨0,by omega,rfl,XA'.out,HB1.out,Nat.le_refl _,XR'.out⟩
 case round=>
  obtain⟨k,hk,rfl,HK,HB,HZ,HR⟩:=hrel;rcases(show k=0\/k=1\/k=2\/k=3 by omega) with rfl|rfl|rfl|rfl
  ·have hrow:RowL wr xb 211 [.slice none 0 0,.slice none 0 0,.slice none 0 0]:=HK.out;have HRx:=aA hrow;have x:=fun j=>HRx.out.cell j
   have lx:=HRx.out.lt;have rr:=fun j=>HR.out.cell j
   have lr:=HR.out.lt;have fr:=fun j=>HR.out.frozen j
   clear hrow HK;cases hr:aP 1 l with
   |none=>
    have con:=aA (zK (C:=C) (.inl rfl) (HRW.out.up HB.out) HPL.out hr);have HN:=aA hr;clear hr
    go_wp2_with (first
     |(go_at_call 108;refine con.out.mono ?_;rintro e w3 ⟨rfl,hb3⟩;have R3:=aA (HR.out.below hb3 HR.out.lt);have s:=fun j=>R3.out.cell j;have ls:=R3.out.lt;have fs:=fun j=>R3.out.frozen j))
    refine bodyPost_ret (v:=.tuple #[.agg #[.slice none 0 0,.slice none 0 0,.slice none 0 0],.int .i64 1]) (by simp[results,Tryz.results156,go_sem,s]) rfl ⟨?_,.inl ⟨.inl HN.out,rfl⟩⟩
    exact(((aC HB.out (Nat.le_refl _) hb3).setCell HX.out.1 _).setCell HX.out.1 _).setCell HX.out.1 _
   |some y0=>
    have con:=aA (zL (C:=C) (.inl rfl) (HRW.out.up HB.out) HPL.out hr);have HN:=aA hr;clear hr rr lr fr
    go_wp2_with (first
     |(go_at_call 108;refine con.out.mono ?_;rintro e w3 ⟨g0,c0,rfl,hb3,ho3⟩;have R3:=aA (HR.out.below hb3 HR.out.lt);have X3:=aA (HRx.out.below hb3 HRx.out.lt);have s:=fun j=>X3.out.cell j;have ls:=X3.out.lt;have fs:=fun j=>X3.out.frozen j;have HB3:=aA hb3;have HO3:=aA ho3;clear hb3 ho3))
    exact⟨⟨1,by omega,rfl,⟨g0,c0,y0,HN.out,qab HO3.out HZ.out hxl,X3.out.set 0 _⟩,(aC HB.out (Nat.le_refl _) HB3.out).setCell (by have:=HX.out;show w.heap.size<=xb;omega) _,by have:=HB3.out.size;have:=HZ.out;simp[Hid];omega,R3.out.of_block (Below.heap_setCell _ _ _ _ (show rb≠xb by have:=HX.out;omega))⟩,by simp only[intOf];omega⟩
  ·obtain⟨g0,c0,y0,r0,o0,hrow⟩:=HK.out;have HRx:=aA hrow;have HO0:=aA o0;have HN0:=aA r0;have x:=fun j=>HRx.out.cell j
   have lx:=HRx.out.lt;have rr:=fun j=>HR.out.cell j
   have lr:=HR.out.lt;have fr:=fun j=>HR.out.frozen j
   clear hrow HK o0 r0;cases hr:aP 60 l with
   |none=>
    have con:=aA (zK (C:=C) (.inr (.inl rfl)) (HRW.out.up HB.out) HPL.out hr);have HN:=aA hr;clear hr
    go_wp2_with (first
     |(go_at_call 108;refine con.out.mono ?_;rintro e w3 ⟨rfl,hb3⟩;have R3:=aA (HR.out.below hb3 HR.out.lt);have s:=fun j=>R3.out.cell j;have ls:=R3.out.lt;have fs:=fun j=>R3.out.frozen j))
    refine bodyPost_ret (v:=.tuple #[.agg #[.slice none 0 0,.slice none 0 0,.slice none 0 0],.int .i64 1]) (by simp[results,Tryz.results156,go_sem,s]) rfl ⟨?_,.inl ⟨.inr (.inl HN.out),rfl⟩⟩
    exact(((aC HB.out (Nat.le_refl _) hb3).setCell HX.out.1 _).setCell HX.out.1 _).setCell HX.out.1 _
   |some y1=>
    have con:=aA (zL (C:=C) (.inr (.inl rfl)) (HRW.out.up HB.out) HPL.out hr);have HN:=aA hr;clear hr rr lr fr
    go_wp2_with (first
     |(go_at_call 108;refine con.out.mono ?_;rintro e w3 ⟨g1,c1,rfl,hb3,ho3⟩;have R3:=aA (HR.out.below hb3 HR.out.lt);have X3:=aA (HRx.out.below hb3 HRx.out.lt);have s:=fun j=>X3.out.cell j;have ls:=X3.out.lt;have fs:=fun j=>X3.out.frozen j;have HB3:=aA hb3;have HO3:=aA ho3;clear hb3 ho3))
    exact⟨⟨2,by omega,rfl,⟨g0,c0,y0,g1,c1,y1,HN0.out,HN.out,q9n HO0.out HB3.out hxl,qab HO3.out HZ.out hxl,X3.out.set 1 _⟩,(aC HB.out (Nat.le_refl _) HB3.out).setCell (by have:=HX.out;show w.heap.size<=xb;omega) _,by have:=HB3.out.size;have:=HZ.out;simp[Hid];omega,R3.out.of_block (Below.heap_setCell _ _ _ _ (show rb≠xb by have:=HX.out;omega))⟩,by simp only[intOf];omega⟩
  ·obtain⟨g0,c0,y0,g1,c1,y1,r0,r1,o0,o1,hrow⟩:=HK.out;have HRx:=aA hrow;have HO0:=aA o0;have HN0:=aA r0;have HO1:=aA o1;have HN1:=aA r1;have x:=fun j=>HRx.out.cell j
   have lx:=HRx.out.lt;have rr:=fun j=>HR.out.cell j
   have lr:=HR.out.lt;have fr:=fun j=>HR.out.frozen j
   clear hrow HK o0 r0 o1 r1;cases hr:aP 3600 l with
   |none=>
    have con:=aA (zK (C:=C) (.inr (.inr rfl)) (HRW.out.up HB.out) HPL.out hr);have HN:=aA hr;clear hr
    go_wp2_with (first
     |(go_at_call 108;refine con.out.mono ?_;rintro e w3 ⟨rfl,hb3⟩;have R3:=aA (HR.out.below hb3 HR.out.lt);have s:=fun j=>R3.out.cell j;have ls:=R3.out.lt;have fs:=fun j=>R3.out.frozen j))
    refine bodyPost_ret (v:=.tuple #[.agg #[.slice none 0 0,.slice none 0 0,.slice none 0 0],.int .i64 1]) (by simp[results,Tryz.results156,go_sem,s]) rfl ⟨?_,.inl ⟨.inr (.inr HN.out),rfl⟩⟩
    exact(((aC HB.out (Nat.le_refl _) hb3).setCell HX.out.1 _).setCell HX.out.1 _).setCell HX.out.1 _
   |some y2=>
    have con:=aA (zL (C:=C) (.inr (.inr rfl)) (HRW.out.up HB.out) HPL.out hr);have HN:=aA hr;clear hr rr lr fr
    go_wp2_with (first
     |(go_at_call 108;refine con.out.mono ?_;rintro e w3 ⟨g2,c2,rfl,hb3,ho3⟩;have R3:=aA (HR.out.below hb3 HR.out.lt);have X3:=aA (HRx.out.below hb3 HRx.out.lt);have s:=fun j=>X3.out.cell j;have ls:=X3.out.lt;have fs:=fun j=>X3.out.frozen j;have HB3:=aA hb3;have HO3:=aA ho3;clear hb3 ho3))
    exact⟨⟨3,by omega,rfl,⟨g0,c0,y0,g1,c1,y1,g2,c2,y2,HN0.out,HN1.out,HN.out,q9n HO0.out HB3.out hxl,q9n HO1.out HB3.out hxl,qab HO3.out HZ.out hxl,X3.out.set 2 _⟩,(aC HB.out (Nat.le_refl _) HB3.out).setCell (by have:=HX.out;show w.heap.size<=xb;omega) _,by have:=HB3.out.size;have:=HZ.out;simp[Hid];omega,R3.out.of_block (Below.heap_setCell _ _ _ _ (show rb≠xb by have:=HX.out;omega))⟩,by simp only[intOf];omega⟩
  ·obtain⟨g0,c0,y0,g1,c1,y1,g2,c2,y2,r0,r1,r2,o0,o1,o2,hrow⟩:=HK.out;have HRx:=aA hrow;have HO0:=aA o0;have HN0:=aA r0;have HO1:=aA o1;have HN1:=aA r1;have HO2:=aA o2;have HN2:=aA r2;have x:=fun j=>HRx.out.cell j
   have lx:=HRx.out.lt;have rr:=fun j=>HR.out.cell j
   have lr:=HR.out.lt;have fr:=fun j=>HR.out.frozen j
   clear hrow HK o0 r0 o1 r1 o2 r2;go_wp2_with fail;refine bodyPost_ret (v:=.tuple #[.agg #[.slice g0 y0.length c0,.slice g1 y1.length c1,.slice g2 y2.length c2],.int .i64 0]) (by simp[results,Tryz.results156,go_sem,rr]) rfl ⟨((HB.out.setCell HX.out.1 _).setCell HX.out.1 _).setCell HX.out.1 _,.inr ⟨g0,c0,y0,g1,c1,y1,g2,c2,y2,HN0.out,HN1.out,HN2.out,?_,?_,?_,rfl⟩⟩
   ·exact q9c HO0.out HB1.out.size (by have:=HX.out;omega)
   ·exact q9c HO1.out HB1.out.size (by have:=HX.out;omega)
   ·exact q9c HO2.out HB1.out.size (by have:=HX.out;omega)

def bofB(ss:List ByteArray)(f:Int)(L:List En):Bool:=oV ss f&&L.all (iT ss.length f)

theorem qgv{n f:Int}{L:List En}(hz:L.length<=28000)(hr:L.Pairwise fun a b=>a.key<b.key)(hk:∀x∈L,0<=x.key/\x.key<1099511627776)(hc:∀x∈L,x.c≠0)(h:L.all (iT n f)=true):PtsL L:=by
 refine⟨hz,hr,fun x hx=>⟨?_,hc x hx⟩,hk⟩
 have k:=List.all_eq_true.1 h x hx;unfold iT at k;simp only[Bool.and_eq_true,decide_eq_true_eq] at k;exact k.2

set_option maxRecDepth 20000 in
set_option maxHeartbeats 4000000 in
theorem qed(A VA:Option Addr)(C VC:Nat)(ss:List ByteArray)(f:Int)(L:List En)(w:World)(hZ:SzAt w)(hC:ss.length<=C)(hS:dW w.heap.size w A ss)(hR:aH w.heap.size w VA (aB L))(hz:L.length<=28000)(hk:∀x∈L,0<=x.key/\x.key<1099511627776)(hc:∀x∈L,x.c≠0)
  (hb:bofB ss f L=false):
  Calls Tryz.prog 128 #[.slice A ss.length C,.int .i64 f,.slice VA L.length VC] w fun e w'=>e=.returned (.tuple #[.agg #[.slice none 0 0,.slice none 0 0,.int .i64 0,.slice none 0 0,.int .i64 0,.slice none 0 0,.int .i64 0,.int .i64 0],.int .i64 7])/\Below w.heap.size w w':=by
 unfold bofB at hb;have EM:=aA fun W (hW:Below w.heap.size w W)=>zF A C ss f W (hZ.below hW) hC (hS.up hW)
 have PM:=aA fun W (hW:Below w.heap.size w W)=>zN ss.length f VA VC L W (hR.up hW) hz hk hc
 have b0:∀o:Obj,Below w.heap.size w (w.alloc o):=fun o=>(Below.refl _ _).alloc (Nat.le_refl _) o
 clear hZ hS hR hz hk hc;cases he:oV ss f with
 |false=>
  rw[he] at EM;clear hb PM he
  go_enter Tryz.func128,Tryz.ntmps128
  go_wp2_with (first
   |(go_at_call 155;refine(EM.out _ (b0 _)).mono ?_;rintro e w1 ⟨rfl,hb1⟩;have XB:=aA ((aG w [.slice none 0 0,.slice none 0 0,.int .i64 0,.slice none 0 0,.int .i64 0,.slice none 0 0,.int .i64 0,.int .i64 0] 35).below hb1 (by simp));have x:=fun j=>XB.out.cell j;have lx:=XB.out.lt;have fx:=fun j=>XB.out.frozen j;have HB1:=aA (aC (b0 _) (Nat.le_refl _) hb1);clear hb1))
  refine bodyPost_ret (v:=.tuple #[.agg #[.slice none 0 0,.slice none 0 0,.int .i64 0,.slice none 0 0,.int .i64 0,.slice none 0 0,.int .i64 0,.int .i64 0],.int .i64 7]) (by simp[results,Tryz.results128,go_sem,x]) rfl ⟨rfl,?_⟩
  exact eY HB1.out (Nat.le_refl _) _ _ _ _ _ _ _ _
 |true=>
  rw[he] at EM;rw[he,Bool.true_and] at hb;rw[hb] at PM;clear hb he
  go_enter Tryz.func128,Tryz.ntmps128
  go_wp2_with (first
   |(go_at_call 155;refine(EM.out _ (b0 _)).mono ?_;rintro e w1 ⟨rfl,hb1⟩;have XB:=aA ((aG w [.slice none 0 0,.slice none 0 0,.int .i64 0,.slice none 0 0,.int .i64 0,.slice none 0 0,.int .i64 0,.int .i64 0] 35).below hb1 (by simp));have x:=fun j=>XB.out.cell j;have lx:=XB.out.lt;have fx:=fun j=>XB.out.frozen j;have HB1:=aA (aC (b0 _) (Nat.le_refl _) hb1);clear hb1)
   |(go_at_call 107;refine(PM.out _ HB1.out).mono ?_;rintro e w2 ⟨rfl,hb2⟩;have XC:=aA (XB.out.below hb2 XB.out.lt);have y:=fun j=>XC.out.cell j;have ly:=XC.out.lt;have fy:=fun j=>XC.out.frozen j;have HB2:=aA (aC HB1.out (Nat.le_refl _) hb2);clear hb2 x lx fx))
  refine bodyPost_ret (v:=.tuple #[.agg #[.slice none 0 0,.slice none 0 0,.int .i64 0,.slice none 0 0,.int .i64 0,.slice none 0 0,.int .i64 0,.int .i64 0],.int .i64 7]) (by simp[results,Tryz.results128,go_sem,y]) rfl ⟨rfl,?_⟩
  exact eY HB2.out (Nat.le_refl _) _ _ _ _ _ _ _ _

theorem q7u{A:Option Addr}{C:Nat}{l:List En}{w:World}(hZ:SzAt w)(h:aH w.heap.size w A (aB l))(hl:PtsL l)(hn:aP 1 l=none\/aP 60 l=none\/aP 3600 l=none):
  Calls Tryz.prog 156 #[.slice A l.length C] w fun e w'=>e=.returned (.tuple #[.agg #[.slice none 0 0,.slice none 0 0,.slice none 0 0],.int .i64 1])/\Below w.heap.size w w':=by
 refine(q0e A C l w hZ h hl).mono ?_;rintro e w' ⟨hb,⟨_,he⟩|⟨_,_,y0,_,_,y1,_,_,y2,r0,r1,r2,_⟩⟩
 ·exact⟨he,hb⟩
 ·rw[r0,r1,r2] at hn;simp at hn

set_option maxRecDepth 20000 in
set_option maxHeartbeats 4000000 in
theorem q1i(A VA:Option Addr)(C VC:Nat)(ss:List ByteArray)(f:Int)(L:List En)(w:World)(hZ:SzAt w)(hC:ss.length<=C)(hS:dW w.heap.size w A ss)(hR:aH w.heap.size w VA (aB L))(hz:L.length<=28000)(hk:∀x∈L,0<=x.key/\x.key<1099511627776)(hc:∀x∈L,x.c≠0)
  (hr:L.Pairwise fun a b=>a.key<b.key) (hb:bofB ss f L=true) (hn:aP 1 L=none\/aP 60 L=none\/aP 3600 L=none):
  Calls Tryz.prog 128 #[.slice A ss.length C,.int .i64 f,.slice VA L.length VC] w fun e w'=>e=.returned (.tuple #[.agg #[.slice none 0 0,.slice none 0 0,.int .i64 0,.slice none 0 0,.int .i64 0,.slice none 0 0,.int .i64 0,.int .i64 0],.int .i64 7])/\Below w.heap.size w w':=by
 unfold bofB at hb;rw[Bool.and_eq_true] at hb;obtain⟨he,ha⟩:=hb;have EM:=aA fun W (hW:Below w.heap.size w W)=>zF A C ss f W (hZ.below hW) hC (hS.up hW)
 have PM:=aA fun W (hW:Below w.heap.size w W)=>zN ss.length f VA VC L W (hR.up hW) hz hk hc
 have b0:∀o:Obj,Below w.heap.size w (w.alloc o):=fun o=>(Below.refl _ _).alloc (Nat.le_refl _) o
 have BO:=aA fun W (hW:Below w.heap.size w W)=>q7u (C:=VC) (hZ.below hW) (hR.up hW) (qgv hz hr hk hc ha) hn
 rw[he] at EM;rw[ha] at PM;clear hZ hS hR hz hk hc he ha hr hn
 go_enter Tryz.func128,Tryz.ntmps128
 go_upto_region 3 with(first
  |(go_at_call 155;refine(EM.out _ (b0 _)).mono ?_;rintro e w1 ⟨rfl,hb1⟩;have XB:=aA ((aG w [.slice none 0 0,.slice none 0 0,.int .i64 0,.slice none 0 0,.int .i64 0,.slice none 0 0,.int .i64 0,.int .i64 0] 35).below hb1 (by simp));have x:=fun j=>XB.out.cell j;have lx:=XB.out.lt;have fx:=fun j=>XB.out.frozen j;have HB1:=aA (aC (b0 _) (Nat.le_refl _) hb1);clear hb1)
  |(go_at_call 107;refine(PM.out _ HB1.out).mono ?_;rintro e w2 ⟨rfl,hb2⟩;have XC:=aA (XB.out.below hb2 XB.out.lt);have y:=fun j=>XC.out.cell j;have ly:=XC.out.lt;have fy:=fun j=>XC.out.frozen j;have HB2:=aA (aC HB1.out (Nat.le_refl _) hb2);clear hb2 x lx fx))
 go_upto_region 4 with(first
  |(go_at_call 156;refine(BO.out _ HB2.out).mono ?_;rintro e w3 ⟨rfl,hb3⟩;have XD:=aA (XC.out.below hb3 XC.out.lt);have z:=fun j=>XD.out.cell j;have lz:=XD.out.lt;have fz:=fun j=>XD.out.frozen j;have HB3:=aA (aC HB2.out (Nat.le_refl _) hb3);clear hb3 y ly fy))
 obtain⟨w4,hw4⟩:∃w4,w4=w3.alloc (.cells #[.slice none 0 0,.slice none 0 0,.slice none 0 0] 211):=⟨_,rfl⟩;have hb4:Below w3.heap.size w3 w4:=by rw[hw4];exact(Below.refl _ _).alloc (Nat.le_refl _) _
 have XE:=aA (XD.out.below hb4 XD.out.lt);have u:=fun j=>XE.out.cell j
 have lu:=XE.out.lt;have fu:=fun j=>XE.out.frozen j
 have HB4:=aA (aC HB3.out (Nat.le_refl _) hb4);rw[<-hw4];clear hw4 hb4 z lz fz;go_wp2_with fail;refine bodyPost_ret (v:=.tuple #[.agg #[.slice none 0 0,.slice none 0 0,.int .i64 0,.slice none 0 0,.int .i64 0,.slice none 0 0,.int .i64 0,.int .i64 0],.int .i64 7]) (by simp[results,Tryz.results128,go_sem,u]) rfl ⟨rfl,?_⟩
 exact eY HB4.out (Nat.le_refl _) _ _ _ _ _ _ _ _

end
section
open Go.RowKit Plain Go.Shelf

theorem qlj(q:Int->Int):∀(xs o l:List En),(∀y∈xs,Good y.ru)->(∀y∈o,Good y.ru)->xs.foldl insO (some o)=some l->Eqv ((o++xs).map (kq q)) (l.map (kq q))
 |[],o,l,_,ho,h=>by
  cases h;rw[List.append_nil];exact Eqv.refl (rQ ho)
 |x::xs,o,l,hx,ho,h=>by
  rw[List.foldl_cons] at h;cases hi:insO (some o) x with
  |none=>rw[hi,jY] at h;cases h
  |some o'=>
   rw[hi] at h;have hi':ins o x=some o':=hi;have hx0:=hx x List.mem_cons_self;have hxs:∀y∈xs,Good y.ru:=fun y hy=>hx y (List.mem_cons_of_mem _ hy)
   have ih:=qlj q xs o' l hxs (mD hx0 ho hi').1 h;have s:=(qnp q hx0 ho hi').app (rQ (q:=q) hxs);rw[<-List.map_append,<-List.map_append,List.append_assoc] at s;exact s.trans ih

theorem qs8(q:Int->Int){xs l:List En}(hx:∀y∈xs,Good y.ru)(h:allL xs=some l):allL (xs.map (kq q))=allL (l.map (kq q)):=by
 have:=qlj q xs [] l hx (by simp) h
 simpa using this.eq

def ptBk(ss:List ByteArray)(sz:Int)(p:Pt):En:=bk sz (ptIn ss p)

theorem qhe{ss:List ByteArray}{sz f:Int}{p:Pt}(hp:p.ok f):Good (ptBk ss sz p).ru:=q2i (ss:=ss) hp

section
variable {ss : List ByteArray} {f : Int} {n0 n1 n2 : List Nd} {r0 r1 r2 : Int} {pts : List Pt} {L0 L1 L2 : List En}

theorem fP.rolled(h:fP ss f n0 r0 n1 r1 n2 r2 pts L0 L1 L2){sz:Int}{M:List En}(hr:aP sz L0=some M):allL (pts.map (ptBk ss sz))=some M:=by
 have e:=qs8 (fun k=>k-k%1048576%sz) (xs:=pts.map (ptIn ss)) (l:=L0) (fun y hy=>by
  obtain⟨p,hp,rfl⟩:=List.mem_map.1 hy;exact q2i (h.pt p hp).2) h.all
 rw[List.map_map] at e;exact e.trans hr
end

end
section
open Go.RowKit Plain Go.Shelf

section
variable {C : Nat} {A : Option Addr} {ss : List ByteArray} {t0 t1 t2 : TR} {f : Int} {pts : List Pt} {w : World}

theorem qnk(hZ:SzAt w)(hB:dU w A C ss t0 t1 t2)(hK:KB ss f t0 t1 t2 pts){x:ByteArray}{sz a b:Int}(hx:Lib.idxOfS ss x<0):
  Calls Tryz.prog 64 #[.agg (aJ A C ss t0 t1 t2 f).toArray,.string x,.int .i64 sz,.int .i64 a,.int .i64 b] w fun e w'=>e=.returned (.tuple #[.slice none 0 0,.int .i64 6])/\Below w.heap.size w w':=
 qph A C ss t0 t1 t2 f x sz a b 6 w 0 rfl (q6o hZ hB hK hx)

theorem qot(hZ:SzAt w)(hB:dU w A C ss t0 t1 t2)(hK:KB ss f t0 t1 t2 pts){x:ByteArray}{sz a b:Int}(hx:0<=Lib.idxOfS ss x)(hs:¬(sz=1\/sz=60\/sz=3600)):
  Calls Tryz.prog 64 #[.agg (aJ A C ss t0 t1 t2 f).toArray,.string x,.int .i64 sz,.int .i64 a,.int .i64 b] w fun e w'=>e=.returned (.tuple #[.slice none 0 0,.int .i64 3])/\Below w.heap.size w w':=
 qhr A C ss t0 t1 t2 f x sz a b w _ hZ hs (q2j hZ hB hK rfl hx)
end

end
end Go.Proofs.YtlojfgdpmaigmagGreatDoor

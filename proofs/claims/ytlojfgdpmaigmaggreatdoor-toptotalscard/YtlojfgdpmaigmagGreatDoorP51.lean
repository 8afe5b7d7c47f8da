/- The engine as a machine over names, a Floor and points: in plain terms, and what base and file answer of it. -/
import Derived.Test.YtlojfgdpmaigmagGreatDoorP48
import Derived.Test.YtlojfgdpmaigmagGreatDoorP50
import Derived.Test.YtlojfgdpmaigmagGreatDoorP46
import Derived.Test.YtlojfgdpmaigmagGreatDoorP23
import Derived.Test.YtlojfgdpmaigmagGreatDoorP44
import Derived.Test.YtlojfgdpmaigmagGreatDoorP08
import Derived.Deep.AppendLies
namespace Go.Proofs.YtlojfgdpmaigmagGreatDoor
section
open Go.RowKit Plain Go.Shelf

structure Mc where
 ss:List ByteArray
 f:Int
 pts:List Pt

def mc0:Mc:=⟨[],0,[]⟩

structure An where
 c:Int
 r:Ru
 R:List En

def putM(m:Mc)(s:ByteArray)(t v:Int):Mc × Int:=
 if ptC s t v m.f=0 then(if 16<(bH m.ss s).length then(m,1) else(⟨bH m.ss s,m.f,m.pts++[⟨s,t,v⟩]⟩,0)) else(m,ptC s t v m.f)

def expM(m:Mc)(t:Int):Mc × Int:=if iM m.f t=0 then(⟨m.ss,t,rX t m.pts⟩,0) else(m,iM m.f t)

def sumM(m:Mc)(x:ByteArray)(a b:Int):Ru × Int:=
 if Lib.idxOfS m.ss x<0 then(zro,6) else if eH a b=true then(sumR (mQ x a b m.pts),0) else(zro,2)

def bkL(m:Mc)(sz:Int):List En:=(allL (m.pts.map (ptBk m.ss sz))).getD []

def askM(m:Mc)(x:ByteArray)(sz a b:Int):List En × Int:=
 if Lib.idxOfS m.ss x<0 then([],6) else if sz=1\/sz=60\/sz=3600 then(if eH a b=true then(((bkL m sz).filter (selB (Lib.idxOfS m.ss x) a b)).map rowE,0) else([],2)) else([],3)

def actM(m s:Mc)(a:Ac):Mc × Mc × An:=
 if a.k=1 then((putM m a.s a.t a.v).1,s,⟨(putM m a.s a.t a.v).2,zro,[]⟩)
 else if a.k=2 then(m,s,⟨(askM m a.s a.n a.t a.z).2,zro,(askM m a.s a.n a.t a.z).1⟩)
 else if a.k=3 then(m,s,⟨(sumM m a.s a.t a.z).2,(sumM m a.s a.t a.z).1,[]⟩)
 else if a.k=4 then((expM m a.t).1,s,⟨(expM m a.t).2,zro,[]⟩)
 else if a.k=5 then(m,m,⟨0,zro,[]⟩)
 else if a.k=6 then(s,s,⟨0,zro,[]⟩)
 else(m,s,⟨3,zro,[]⟩)

def runM:Mc->Mc->List Ac->Mc × Mc × List An
 |m,s,[]=>(m,s,[])
 |m,s,a::r=>((runM (actM m s a).1 (actM m s a).2.1 r).1,(runM (actM m s a).1 (actM m s a).2.1 r).2.1,(actM m s a).2.2::(runM (actM m s a).1 (actM m s a).2.1 r).2.2)

theorem q4p:∀(l r:List Ac) (m s:Mc),runM m s (l++r)=((runM (runM m s l).1 (runM m s l).2.1 r).1,(runM (runM m s l).1 (runM m s l).2.1 r).2.1,(runM m s l).2.2++(runM (runM m s l).1 (runM m s l).2.1 r).2.2)
 |[],_,_,_=>rfl
 |a::l,r,m,s=>by
  simp only[List.cons_append,runM];rw[q4p l r]

theorem q4y:∀(l:List Ac) (m s:Mc),(runM m s l).2.2.length=l.length
 |[],_,_=>rfl
 |a::l,m,s=>by
  simp only[runM,List.length_cons,q4y l]

theorem qo7(m:Mc)(s:ByteArray)(t v:Int):(putM m s t v).1.pts.length<=m.pts.length+1:=by
 unfold putM
 split
 ·split
  ·simp
  ·simp
 ·simp

theorem qnq(m:Mc)(t:Int):(expM m t).1.pts.length<=m.pts.length:=by
 unfold expM
 split
 ·exact List.length_filter_le _ _
 ·exact Nat.le_refl _

theorem qms{m s:Mc}{n:Nat}(a:Ac)(hm:m.pts.length<=n)(hs:s.pts.length<=n):(actM m s a).1.pts.length<=n+1/\(actM m s a).2.1.pts.length<=n+1:=by
 have h1:=qo7 m a.s a.t a.v;have h2:=qnq m a.t;unfold actM
 repeat' split
 all_goals
  constructor
  all_goals
   simp only;omega

def RowB(B:Nat)(w:World)(A:Option Addr)(vs:List Value):Prop:=
 vs=[]\/∃b o,A=some ⟨b,o,none⟩/\B<=b/\b<w.heap.size/\∀j u,vs[j]? =some u->w.cell? ⟨b,o+j,none⟩=some u

theorem qiq{w:World}{base:Nat}{e:TypeId}{size n:Nat}{v:Value}{vs:List Value}(h:w.ownsRow base e size v n vs):
  ∃A C,v=.slice A n C/\n<=C/\C<=maxLen/\RowB base w A vs:=by
 rcases h.2 with⟨hv,hn⟩|⟨g,cap,cur,hv,hb,hg,hl,hm,hs,ht⟩
 ·subst hv hn;refine⟨none,0,rfl,Nat.le_refl _,Nat.zero_le _,.inl ?_⟩;have:=h.1
  simpa using this
 ·subst hv;refine⟨some ⟨g,0,none⟩,cap,rfl,hl,hm,.inr ⟨g,0,rfl,hb,(Array.getElem?_eq_some_iff.1 hg).1,fun j u hu=>?_⟩⟩
  have hj:j<n*size:=by
   have:=(List.getElem?_eq_some_iff.1 hu).1;rw[h.1] at this;exact this
  rw[Nat.zero_add,h.cellAt j hj];exact hu

def BcTo(m:Mc)(c:Int)(w:World)(e:Ending)(w':World):Prop:=
 ∃(A:Option Addr) (C:Nat) (ss:List ByteArray) (t0 t1 t2:TR) (f:Int),e=.returned (.tuple #[.agg (aJ A C ss t0 t1 t2 f).toArray,.int .i64 c])/\Below w.heap.size w w'/\(c=0->ss=m.ss/\f=m.f/\OwnB w.heap.size w' A C ss t0 t1 t2/\KB ss f t0 t1 t2 m.pts)

theorem qnh{m:Mc}{c:Int}{w w':World}{e:Ending}(hc:c≠0)(he:e=.returned (dG c))(hb:Below w.heap.size w w'):BcTo m c w e w':=
 ⟨none,0,[],⟨none,0,[],0⟩,⟨none,0,[],0⟩,⟨none,0,[],0⟩,0,he,hb,fun h=>absurd h hc⟩

theorem qlz{m:Mc}{w w':World}{e:Ending}(h:qmp m.ss m.f m.pts w e w'):BcTo m 0 w e w':=by
 obtain⟨A,C,t0,t1,t2,he,ho,hk,hb⟩:=h;exact⟨A,C,m.ss,t0,t1,t2,m.f,he,hb,fun _=>⟨rfl,rfl,ho,hk⟩⟩

section
variable {A : Option Addr} {C : Nat} {t0 t1 t2 : TR} {m : Mc} {w : World}

theorem qo5(hZ:SzAt w)(hB:dU w A C m.ss t0 t1 t2)(hK:KB m.ss m.f t0 t1 t2 m.pts){s:ByteArray}{t v:Int}(hs:s.size<=140737488351232)(hn:m.pts.length<=900):
  Calls Tryz.prog 63 #[.agg (aJ A C m.ss t0 t1 t2 m.f).toArray,.agg #[.string s,.int .i64 t,.int .i64 v]] w (BcTo (putM m s t v).1 (putM m s t v).2 w):=by
 unfold putM
 by_cases hc:ptC s t v m.f=0
 ·rw[if_pos hc]
  by_cases hl:16<(bH m.ss s).length
  ·rw[if_pos hl];obtain⟨L0,L1,L2,k⟩:=hK;refine(q4i A C m.ss t0 t1 t2 m.f s t v w hZ hB.len hB.st hs hB.o0 hB.o1 hB.o2).mono ?_;rintro e w' ⟨hb,h⟩;rcases h with⟨d,_,hno,rfl⟩|⟨A',C',u0,u1,u2,K0,K1,K2,M0,M1,M2,hy,_⟩
   ·rcases hno with⟨h1,_⟩|⟨_,h1,_⟩|⟨_,_,rfl,_⟩
    ·rw[k.ok] at h1;cases h1
    ·exact absurd hc h1
    ·exact qnh (c:=1) (by decide) rfl hb
   ·have:=hy.few;omega
  ·rw[if_neg hl];exact(qnt hZ hB hK hs hc (by omega) hn).mono fun e w' h=>qlz (m:=⟨bH m.ss s,m.f,m.pts++[⟨s,t,v⟩]⟩) h
 ·rw[if_neg hc];exact(qow hZ hB hK hs rfl hc).mono fun e w' h=>qnh hc h.1 h.2

theorem qml(hZ:SzAt w)(hB:dU w A C m.ss t0 t1 t2)(hK:KB m.ss m.f t0 t1 t2 m.pts){t:Int}(hn:m.pts.length<=2900):
  Calls Tryz.prog 66 #[.agg (aJ A C m.ss t0 t1 t2 m.f).toArray,.int .i64 t] w (BcTo (expM m t).1 (expM m t).2 w):=by
 unfold expM
 by_cases hc:iM m.f t=0
 ·rw[if_pos hc];exact(qo1 hZ hB hK hc hn).mono fun e w' h=>qlz (m:=⟨m.ss,t,rX t m.pts⟩) h
 ·rw[if_neg hc];exact(qok hZ hB hK rfl hc).mono fun e w' h=>qnh hc h.1 h.2

theorem qjx(hZ:SzAt w)(hB:dU w A C m.ss t0 t1 t2)(hK:KB m.ss m.f t0 t1 t2 m.pts){x:ByteArray}{a b:Int}(hn:m.pts.length<=100000):
  Calls Tryz.prog 65 #[.agg (aJ A C m.ss t0 t1 t2 m.f).toArray,.string x,.int .i64 a,.int .i64 b] w (MaTo (sumM m x a b) w):=by
 unfold sumM
 by_cases hx:Lib.idxOfS m.ss x<0
 ·rw[if_pos hx];exact qis hZ hB hK hx
 ·rw[if_neg hx]
  by_cases hs:eH a b=true
  ·rw[if_pos hs];exact qk1 hZ hB hK (by omega) hs hn
  ·rw[if_neg hs];exact qkj hZ hB hK (by omega) (by simpa using hs)

def RwTo(r:List En × Int)(w:World)(e:Ending)(w':World):Prop:=
 Below w.heap.size w w'/\∃(A:Option Addr) (C:Nat),e=.returned (.tuple #[.slice A r.1.length C,.int .i64 r.2])/\r.1.length<=C/\RowB w.heap.size w' A (aB r.1)

theorem uZ{c:Int}{w w':World}{e:Ending}(h:e=.returned (.tuple #[.slice none 0 0,.int .i64 c])/\Below w.heap.size w w'):RwTo ([],c) w e w':=
 ⟨h.2,none,0,h.1,Nat.le_refl _,.inl rfl⟩

theorem qhn{L M R:List En}{x:ByteArray}{ss:List ByteArray}{sz a b:Int}{pts:List Pt}{w w':World}{e:Ending}(h:allL (pts.map (ptBk ss sz))=some L)(hM:L.filter (selB (Lib.idxOfS ss x) a b)=M)(hr:yP M w e w')(hR:((allL (pts.map (ptBk ss sz))).getD [] |>.filter (selB (Lib.idxOfS ss x) a b)).map rowE=R):RwTo (R,0) w e w':=by
 obtain⟨hb,v,rfl,ho⟩:=hr;obtain⟨A,C,rfl,hl,-,hrow⟩:=qiq ho;rw[h] at hR;simp only[Option.getD_some] at hR;rw[hM] at hR;subst hR;exact⟨hb,A,C,by rw[List.length_map],by rw[List.length_map];exact hl,hrow⟩

theorem qna(hZ:SzAt w)(hB:dU w A C m.ss t0 t1 t2)(hK:KB m.ss m.f t0 t1 t2 m.pts){x:ByteArray}{sz a b:Int}(hn:m.pts.length<=500):
  Calls Tryz.prog 64 #[.agg (aJ A C m.ss t0 t1 t2 m.f).toArray,.string x,.int .i64 sz,.int .i64 a,.int .i64 b] w (RwTo (askM m x sz a b) w):=by
 unfold askM
 by_cases hx:Lib.idxOfS m.ss x<0
 ·rw[if_pos hx];exact(qnk hZ hB hK hx).mono fun e w' h=>uZ h
 ·rw[if_neg hx]
  by_cases hs:sz=1\/sz=60\/sz=3600
  ·rw[if_pos hs]
   by_cases hsp:eH a b=true
   ·rw[if_pos hsp];have hx0:0<=Lib.idxOfS m.ss x:=by omega
    obtain⟨L0,L1,L2,k⟩:=hK;obtain⟨l0,l1,l2⟩:=k.few;have f0:=gK (ns:=t0.ps.map PN.nd) (r:=t0.r) (low:=0) (high:=1099511627776);have f1:=gK (ns:=t1.ps.map PN.nd) (r:=t1.r) (low:=0) (high:=1099511627776);have f2:=gK (ns:=t2.ps.map PN.nd) (r:=t2.r) (low:=0) (high:=1099511627776);rw[k.lst.a0] at f0;rw[k.lst.a1] at f1;rw[k.lst.a2] at f2;have hp2:=qli (p:=Lib.idxOfS m.ss x) rfl k.lst.few;have fl:∀L:List En,(L.filter (selB (Lib.idxOfS m.ss x) a b)).length<=L.length:=fun L=>List.length_filter_le _ _
    have q0:=fl L0;have q1:=fl L1;have q2:=fl L2
    have hab:0<=a/\a<=b/\b<=1048575:=by
     unfold eH at hsp
     simpa [Bool.and_eq_true] using hsp
    rcases hs with rfl|rfl|rfl
    ·exact(qkz A C m.ss t0 t1 t2 m.f x a b _ _ w hZ hB.len hB.st hB.o0 hB.o1 hB.o2 k.ok rfl hx0 hp2 hab.1 hab.2.1 hab.2.2 L0 k.lst.a0 rfl (fun y hy=>f0.2.2 y (List.mem_filter.1 hy).1) (by omega)).mono fun e w' h=>qhn (k.rolled k.lst.p0) rfl h rfl
    ·exact(qjd A C m.ss t0 t1 t2 m.f x a b _ _ w hZ hB.len hB.st hB.o0 hB.o1 hB.o2 k.ok rfl hx0 hp2 hab.1 hab.2.1 hab.2.2 L1 k.lst.a1 rfl (fun y hy=>f1.2.2 y (List.mem_filter.1 hy).1) (by omega)).mono fun e w' h=>qhn (k.rolled k.lst.p1) rfl h rfl
    ·exact(qit A C m.ss t0 t1 t2 m.f x a b _ _ w hZ hB.len hB.st hB.o0 hB.o1 hB.o2 k.ok rfl hx0 hp2 hab.1 hab.2.1 hab.2.2 L2 k.lst.a2 rfl (fun y hy=>f2.2.2 y (List.mem_filter.1 hy).1) (by omega)).mono fun e w' h=>qhn (k.rolled k.lst.p2) rfl h rfl
   ·rw[if_neg hsp];have hsp':eH a b=false:=by simpa using hsp
    have con:=q2j hZ hB hK (x:=x) rfl (by omega)
    rcases hs with rfl|rfl|rfl
    ·exact(qd6 A C m.ss t0 t1 t2 m.f x a b w _ hZ hsp' con).mono fun e w' h=>uZ h
    ·exact(qd2 A C m.ss t0 t1 t2 m.f x a b w _ hZ hsp' con).mono fun e w' h=>uZ h
    ·exact(qdj A C m.ss t0 t1 t2 m.f x a b w _ hZ hsp' con).mono fun e w' h=>uZ h
  ·rw[if_neg hs];exact(qot hZ hB hK (by omega) hs).mono fun e w' h=>uZ h

structure KpY(m:Mc)(L:List En):Prop where
 all:allL (m.pts.map (ptIn m.ss))=some L
 tell:qJ m.ss m.f L
 len:(encB m.ss m.f L).length<=200000
 ok:iW m.ss m.f L=true
 few:L.length<=2900
 pt:∀p∈m.pts,p.s∈m.ss/\p.ok m.f

def EnTo(m:Mc)(w:World)(e:Ending)(w':World):Prop:=
 Below w.heap.size w w'/\∃v L,e=.returned (.tuple #[v,.int .i64 0])/\bY w.heap.size w' v (encB m.ss m.f L)/\KpY m L

theorem qrw(hK:KB m.ss m.f t0 t1 t2 m.pts)(hn:m.pts.length<=1000):∃L,KpY m L/\allP (t0.ps.map PN.nd) t0.r 0 1099511627776=(0,L):=by
 obtain⟨L0,L1,L2,k⟩:=hK;obtain⟨l0,-,-⟩:=k.few;obtain⟨hT,-⟩:=qhb k.ok;rw[tZ,k.lst.a0] at hT;exact⟨L0,⟨k.all,qi1 k.ok k.lst (by omega),qoj hT (by show L0.length<=1000;omega),qk8 k.ok k.lst,by omega,k.pt⟩,k.lst.a0⟩

theorem qqj(hZ:SzAt w)(hB:dU w A C m.ss t0 t1 t2)(hK:KB m.ss m.f t0 t1 t2 m.pts)(hn:m.pts.length<=1000):
  Calls Tryz.prog 36 #[.agg (aJ A C m.ss t0 t1 t2 m.f).toArray] w (EnTo m w):=by
 obtain⟨L,hL,ha⟩:=qrw hK hn;obtain⟨L0,L1,L2,k⟩:=hK;refine(qcs A C m.ss t0 t1 t2 m.f w hZ hB.len hB.st hB.o0 hB.o1 hB.o2 k.ok).mono ?_;rw[ha];rintro e w' ⟨hbw,⟨h1,_⟩|⟨_,_,v,rfl,hv⟩⟩
 ·exfalso
  have h2:=hL.few;have h3:=hL.len;simp only at h1;omega
 ·exact⟨hbw,v,L,rfl,hv,hL⟩

theorem qql{L:List En}(hZ:SzAt w)(h:aX w.heap.size w A C (encB m.ss m.f L))(hL:KpY m L):
  Calls Tryz.prog 102 #[.slice A (encB m.ss m.f L).length C] w (BcTo m 0 w):=by
 refine(qq8 hZ h hL.tell hL.len hL.ok hL.few).mono ?_;rintro e w' ⟨A',C',u0,u1,u2,rfl,_,hb,ha,ho,hbw⟩;obtain⟨J0,J1,J2,hJ⟩:=mY hb;obtain rfl:J0=L:=(Prod.mk.inj (hJ.a0.symm.trans ha)).2;exact⟨A',C',m.ss,u0,u1,u2,m.f,rfl,hbw,fun _=>⟨rfl,rfl,ho,_,J1,J2,hb,hJ,hL.all,hL.pt⟩⟩
end

end
section
open Go.RowKit Plain Go.Shelf

def AwX(X:Nat->Prop)(w:World)(A:Option Addr)(C:Nat)(ss:List ByteArray)(t0 t1 t2:TR):Prop:=
 ∃(B:Nat) (w0:World),OwnB B w0 A C ss t0 t1 t2/\w0.heap.size<=w.heap.size/\(∀k,B<=k->k<w0.heap.size->w.heap[k]? =w0.heap[k]?)/\∀k,B<=k->k<w0.heap.size->¬X k

def KpX(X:Nat->Prop)(w:World)(s:Mc)(K:Value):Prop:=
 (K=.slice none 0 0/\s=mc0)\/∃(L:List En) (g cap:Nat),K=.slice (some ⟨g,0,none⟩) (encB s.ss s.f L).length cap/\bY g w K (encB s.ss s.f L)/\¬X g/\KpY s L

def RowX(X:Nat->Prop)(w:World)(A:Option Addr)(vs:List Value):Prop:=
 vs=[]\/∃b o,A=some ⟨b,o,none⟩/\b<w.heap.size/\¬X b/\∀j u,vs[j]? =some u->w.cell? ⟨b,o+j,none⟩=some u

structure fE(X:Nat->Prop)(w w':World):Prop where
 size:w.heap.size<=w'.heap.size
 block:∀k,k<w.heap.size->¬X k->w'.heap[k]? =w.heap[k]?

section
variable {X Y : Nat -> Prop} {w w' : World} {A : Option Addr} {C : Nat} {ss : List ByteArray} {t0 t1 t2 : TR} {f : Int} {pts : List Pt} {s : Mc} {K : Value} {vs : List Value}

theorem fE.of_below(h:Below w.heap.size w w'):fE X w w':=⟨h.size,fun k hk _=>h.block k hk⟩
theorem fE.of_kept{ex:List Nat}(h:Kept ex w w')(hx:∀k∈ex,X k):fE X w w':=⟨h.size,fun k hk hn=>h.block k hk fun e=>hn (hx k e)⟩

theorem AwX.keep(h:AwX X w A C ss t0 t1 t2)(hk:fE X w w'):AwX X w' A C ss t0 t1 t2:=by
 obtain⟨B,w0,h1,h2,h3,h4⟩:=h;exact⟨B,w0,h1,Nat.le_trans h2 hk.size,fun k q1 q2=>(hk.block k (by omega) (h4 k q1 q2)).trans (h3 k q1 q2),h4⟩

theorem AwX.more(h:AwX X w A C ss t0 t1 t2)(hY:∀k,Y k->X k\/w.heap.size<=k):AwX Y w A C ss t0 t1 t2:=by
 obtain⟨B,w0,h1,h2,h3,h4⟩:=h;refine⟨B,w0,h1,h2,h3,fun k q1 q2 hk=>?_⟩
 rcases hY k hk with h|h
 ·exact h4 k q1 q2 h
 ·omega

theorem AwX.new{B:Nat}(h:OwnB B w A C ss t0 t1 t2)(hX:∀k,X k->k<B):AwX X w A C ss t0 t1 t2:=
 ⟨B,w,h,Nat.le_refl _,fun _ _ _=>rfl,fun k q1 _ hk=>by have:=hX k hk;omega⟩

theorem AwX.at(h:AwX X w A C ss t0 t1 t2)(hk:KB ss f t0 t1 t2 pts):dU w A C ss t0 t1 t2:=by
 obtain⟨B,w0,h1,h2,h3,h4⟩:=h;exact(h1.keep (Nat.le_refl _) h3).at hk

theorem KpX.keep(h:KpX X w s K)(hk:fE X w w'):KpX X w' s K:=by
 rcases h with h|⟨L,g,cap,h1,h2,h3,h4⟩
 ·exact .inl h
 ·subst h1;refine .inr ⟨L,g,cap,rfl,?_,h3,h4⟩;obtain⟨g',cap',hv,hB,hg,r1,r2,r3,r4⟩:=h2;cases hv;have e:=hk.block g hg h3;refine⟨g,cap,rfl,Nat.le_refl _,Nat.lt_of_lt_of_le hg hk.size,r1,r2,fun j hj=>?_,fun j u hu=>(World.cell?_of_block (a:=⟨g,j,none⟩) e).trans (r4 j u hu)⟩
  rw[World.cell?_of_block (a:=⟨g,j,none⟩) e,World.frozen?_of_block (a:=⟨g,j,none⟩) e];exact r3 j hj

theorem KpX.more(h:KpX X w s K)(hY:∀k,Y k->X k\/w.heap.size<=k):KpX Y w s K:=by
 rcases h with h|⟨L,g,cap,h1,h2,h3,h4⟩
 ·exact .inl h
 ·refine .inr ⟨L,g,cap,h1,h2,fun hg=>?_,h4⟩
  rcases hY g hg with h|h
  ·exact h3 h
  ·subst h1;obtain⟨g',cap',hv,hB,hg',_⟩:=h2;cases hv;omega

theorem KpX.new{B:Nat}{L:List En}(h:bY B w K (encB s.ss s.f L))(hL:KpY s L)(hX:∀k,X k->k<B):KpX X w s K:=by
 obtain⟨g,cap,hv,hB,hg,rest⟩:=h;subst hv;exact .inr ⟨L,g,cap,rfl,⟨g,cap,rfl,Nat.le_refl _,hg,rest⟩,fun hk=>by have:=hX g hk;omega,hL⟩

theorem RowX.keep(h:RowX X w A vs)(hk:fE X w w'):RowX X w' A vs:=by
 rcases h with h|⟨b,o,h1,h2,h3,h4⟩
 ·exact .inl h
 ·exact .inr ⟨b,o,h1,Nat.lt_of_lt_of_le h2 hk.size,h3,fun j u hu=>(World.cell?_of_block (a:=⟨b,o+j,none⟩) (hk.block b h2 h3)).trans (h4 j u hu)⟩

theorem RowX.more(h:RowX X w A vs)(hY:∀k,Y k->X k\/w.heap.size<=k):RowX Y w A vs:=by
 rcases h with h|⟨b,o,h1,h2,h3,h4⟩
 ·exact .inl h
 ·refine .inr ⟨b,o,h1,h2,fun hb=>?_,h4⟩
  rcases hY b hb with h|h
  ·exact h3 h
  ·omega

theorem RowX.new{B:Nat}(h:RowB B w A vs)(hX:∀k,X k->k<B):RowX X w A vs:=by
 rcases h with h|⟨b,o,h1,h2,h3,h4⟩
 ·exact .inl h
 ·exact .inr ⟨b,o,h1,h3,fun hk=>by have:=hX b hk;omega,h4⟩

theorem RowX.row(h:RowX X w A vs):aH w.heap.size w A vs:=by
 rcases h with h|⟨b,o,h1,h2,_,h4⟩
 ·exact .inl h
 ·exact .inr ⟨b,o,h1,h2,h4⟩
end

structure StAt(X:Nat->Prop)(w:World)(sb:Nat)(m s:Mc)(A:Option Addr)(C:Nat)(t0 t1 t2:TR)(K:Value):Prop where
 box:RowL w sb 85 (aJ A C m.ss t0 t1 t2 m.f++[K])
 aw:AwX X w A C m.ss t0 t1 t2
 kb:KB m.ss m.f t0 t1 t2 m.pts
 kp:KpX X w s K

def StX(X:Nat->Prop)(w:World)(sb:Nat)(m s:Mc):Prop:=∃A C t0 t1 t2 K,StAt X w sb m s A C t0 t1 t2 K

section
variable {X Y : Nat -> Prop} {w w' : World} {sb : Nat} {m s : Mc} {A : Option Addr} {C : Nat} {t0 t1 t2 : TR} {K : Value}

theorem StAt.at(h:StAt X w sb m s A C t0 t1 t2 K):dU w A C m.ss t0 t1 t2:=h.aw.at h.kb

theorem StAt.keep(h:StAt X w sb m s A C t0 t1 t2 K)(hk:fE X w w')(hb:w'.heap[sb]? =w.heap[sb]?):StAt X w' sb m s A C t0 t1 t2 K:=
 ⟨h.box.of_block hb,h.aw.keep hk,h.kb,h.kp.keep hk⟩

theorem StAt.next(h:StAt X w sb m s A C t0 t1 t2 K)(hb:Below w.heap.size w w'):StAt X w' sb m s A C t0 t1 t2 K:=
 h.keep (.of_below hb) (hb.block _ h.box.lt)

theorem StAt.more(h:StAt X w sb m s A C t0 t1 t2 K)(hY:∀k,Y k->X k\/w.heap.size<=k):StAt Y w sb m s A C t0 t1 t2 K:=
 ⟨h.box,h.aw.more hY,h.kb,h.kp.more hY⟩

theorem StX.next(h:StX X w sb m s)(hb:Below w.heap.size w w'):StX X w' sb m s:=by
 obtain⟨A,C,t0,t1,t2,K,h⟩:=h;exact⟨A,C,t0,t1,t2,K,h.next hb⟩

theorem StX.keep(h:StX X w sb m s)(hk:fE X w w')(hb:w'.heap[sb]? =w.heap[sb]?):StX X w' sb m s:=by
 obtain⟨A,C,t0,t1,t2,K,h⟩:=h;exact⟨A,C,t0,t1,t2,K,h.keep hk hb⟩

theorem StX.more(h:StX X w sb m s)(hY:∀k,Y k->X k\/w.heap.size<=k):StX Y w sb m s:=by
 obtain⟨A,C,t0,t1,t2,K,h⟩:=h;exact⟨A,C,t0,t1,t2,K,h.more hY⟩

theorem q2e(w:World)(b:Nat)(x0 x1 x2 x3 x4 x5 x6 x7:Value):(set8 w b x0 x1 x2 x3 x4 x5 x6 x7).heap.size=w.heap.size:=by simp[set8]

end

structure AnV where
 a:An
 A:Option Addr
 C:Nat

def AnV.vals(v:AnV):List Value:=[.int .i64 v.a.c,.int .i64 v.a.r.c,.int .i64 v.a.r.s,.int .i64 v.a.r.lo,.int .i64 v.a.r.hi,.int .i64 v.a.r.t,.int .i64 v.a.r.l,.slice v.A v.a.R.length v.C]
def fQ:List AnV->List Value
 |[]=>[]
 |x::r=>x.vals++fQ r

theorem zH:∀xs:List AnV,(fQ xs).length=xs.length*8
 |[]=>rfl
 |x::r=>by simp[fQ,AnV.vals,zH r];omega

theorem q0p:∀xs ys:List AnV,fQ (xs++ys)=fQ xs++fQ ys
 |[],_=>rfl
 |x::r,ys=>by simp[fQ,q0p r ys]

theorem qib(xs:List AnV):∀u∈fQ xs,u.oneCell'=true:=by
 induction xs with
 |nil=>simp[fQ]
 |cons x r ih=>
  intro u hu;simp only[fQ,AnV.vals,List.cons_append,List.nil_append,List.mem_cons] at hu;rcases hu with h|h|h|h|h|h|h|h|h
  all_goals first|(subst h;rfl)|exact ih u h

theorem qf6(xs:List AnV)(k j:Nat)(hk:k<xs.length)(hj:j<8):(fQ xs)[k*8+j]? =(xs[k]).vals[j]? :=by
 induction xs generalizing k with
 |nil=>simp at hk
 |cons x r ih=>
  cases k with
  |zero=>simp only[fQ];rw[List.getElem?_append_left (by simp[AnV.vals];omega)];simp
  |succ k=>
   simp only[fQ];rw[List.getElem?_append_right (by simp[AnV.vals];omega)]
   have:=ih k (by simpa using hk)
   simp only[AnV.vals,List.length_cons,List.length_nil] at *;rw[show(k+1)*8+j-(0+1+1+1+1+1+1+1+1)=k*8+j by omega]
   simpa using this

structure AvAt(w:World)(b o:Nat)(x:AnV):Prop where
 c0:w.cell? ⟨b,o,none⟩=some (.int .i64 x.a.c)
 c1:w.cell? ⟨b,o+1,none⟩=some (.int .i64 x.a.r.c)
 c2:w.cell? ⟨b,o+2,none⟩=some (.int .i64 x.a.r.s)
 c3:w.cell? ⟨b,o+3,none⟩=some (.int .i64 x.a.r.lo)
 c4:w.cell? ⟨b,o+4,none⟩=some (.int .i64 x.a.r.hi)
 c5:w.cell? ⟨b,o+5,none⟩=some (.int .i64 x.a.r.t)
 c6:w.cell? ⟨b,o+6,none⟩=some (.int .i64 x.a.r.l)
 c7:w.cell? ⟨b,o+7,none⟩=some (.slice x.A x.a.R.length x.C)

theorem aH.av8{B:Nat}{w:World}{A:Option Addr}{xs:List AnV}(h:aH B w A (fQ xs)){k:Nat}(hk:k<xs.length):
  ∃b o,A=some ⟨b,o,none⟩/\b<B/\AvAt w b (o+k*8) xs[k]:=by
 rcases h with h|⟨b,o,hA,hlt,hc⟩
 ·have:=zH xs;rw[h] at this;simp at this;omega
 ·refine⟨b,o,hA,hlt,?_⟩
  have g:∀j,j<8->∀u,(xs[k]).vals[j]? =some u->w.cell? ⟨b,o+k*8+j,none⟩=some u:=fun j hj u hu=>by
   have:=hc (k*8+j) u (by rw[qf6 xs k j hk hj];exact hu)
   rwa [<-Nat.add_assoc] at this
  exact⟨g 0 (by decide) _ rfl,g 1 (by decide) _ rfl,g 2 (by decide) _ rfl,g 3 (by decide) _ rfl,g 4 (by decide) _ rfl,g 5 (by decide) _ rfl,g 6 (by decide) _ rfl,g 7 (by decide) _ rfl⟩

def qrz(X:Nat->Prop)(w:World)(vs:List AnV):Prop:=∀v∈vs,v.a.R.length<=500/\RowX X w v.A (aB v.a.R)

end
section
open Go.RowKit Plain Go.Shelf

def Few4(ss:List ByteArray):Prop:=∀s∈ss,∃i,s=nmS i

theorem q8t{ss:List ByteArray}(h:gI ss=true):ss.Nodup:=by
 unfold gI at h;rw[List.all_eq_true] at h;refine List.pairwise_iff_getElem.2 fun i j hi hj hij e=>?_
 have k:=h j (by simpa using hj)
 unfold okN at k;rw[pO hj,Bool.and_eq_true] at k;have k2:=k.2;rw[Bool.not_eq_true'] at k2;have:Lib.containsS (ss.take j) ss[j]=true:=(Lib.containsS_iff _ _).2 (List.mem_take_iff_getElem.2 ⟨i,by omega,e⟩)
 rw[this] at k2;cases k2

theorem qop(i:Int):nmS i∈[nmS 0,nmS 1,nmS 2,nmS 3]:=by
 by_cases h0:i=0
 ·subst h0;simp
 ·by_cases h1:i=1
  ·subst h1;simp
  ·by_cases h2:i=2
   ·subst h2;simp
   ·have e:nmS i=nmS 3:=by
     unfold nmS;rw[if_neg h0,if_neg h1,if_neg h2]
     rfl
    rw[e];simp

theorem qkr{ss:List ByteArray}(h:gI ss=true)(hf:Few4 ss):ss.length<=4:=by
 have:=nM ss [nmS 0,nmS 1,nmS 2,nmS 3] (q8t h) (fun s hs=>by
  obtain⟨i,rfl⟩:=hf s hs;exact qop i)
 simpa using this

theorem q7h{ss:List ByteArray}(h:Few4 ss)(i:Int):Few4 (bH ss (nmS i)):=by
 unfold bH
 split
 ·intro s hs;rcases List.mem_append.1 hs with hs|hs
  ·exact h s hs
  ·exact⟨i,by simpa using hs⟩
 ·exact h

section
variable {w wr w' : World} {bb : Nat} {A : Option Addr} {C : Nat} {ss : List ByteArray} {t0 t1 t2 : TR} {pts : List Pt}

end

theorem yZ(w:World)(o o':Obj):Below w.heap.size w ((w.alloc o).alloc o'):=((Below.refl _ _).alloc (Nat.le_refl _) _).alloc (by simp) _

end
section
open Go.RowKit Plain Go.Shelf

def yV(o:Ru)(p:Pt):Ru:=(mrg o (ruP p)).1
theorem q5g(l:List Pt):sumR l=l.foldl yV zro:=rfl

def Zg(r:Ru):Prop:=r=zro\/Good r

theorem qmh{a b:Ru}(ha:Zg a)(hb:Zg b)(hc:a.c+b.c<=1073741824):(mrg a b).2=0/\(mrg a b).1.c=a.c+b.c/\Zg (mrg a b).1:=by
 rcases ha with rfl|ha
 ·rcases hb with rfl|hb
  ·rw[qn5 yA yA rfl];exact⟨rfl,rfl,.inl rfl⟩
  ·rw[uJ hb];exact⟨rfl,by show b.c=0+b.c;omega,.inr hb⟩
 ·rcases hb with rfl|hb
  ·rw[qp9 ha.1 yA ha.2 rfl];exact⟨rfl,by show a.c=a.c+0;omega,.inr ha⟩
  ·rw[oM ha hb,if_pos hc];exact⟨rfl,rfl,.inr (nR ha hb hc)⟩

theorem qlu{p:Pt}(h:∃f,Pt.ok f p):Zg (ruP p):=by
 obtain⟨f,hf⟩:=h;exact .inr (tK ⟨hf.t0,hf.t1⟩ ⟨hf.v0,hf.v1⟩)

theorem qi4:∀(l:List Pt) (o:Ru),Zg o->(∀p∈l,∃f,Pt.ok f p)->o.c+l.length<=1073741824->(l.foldl yV o).c=o.c+l.length/\Zg (l.foldl yV o)
 |[],o,ho,_,_=>⟨by simp,ho⟩
 |p::l,o,ho,hp,hc=>by
  have c1:(ruP p).c=1:=rfl;have hl:((p::l).length:Int)=l.length+1:=by simp
  rw[hl] at hc ⊢;obtain⟨_,k2,k3⟩:=qmh ho (qlu (hp p List.mem_cons_self)) (by omega)
  obtain⟨i1,i2⟩:=qi4 l (yV o p) k3 (fun q hq=>hp q (List.mem_cons_of_mem _ hq)) (by show(mrg o (ruP p)).1.c+_<=_;omega)
  refine⟨?_,i2⟩;rw[List.foldl_cons,i1];show(mrg o (ruP p)).1.c+_=_;omega

theorem qmi{l:List Pt}(hp:∀p∈l,∃f,Pt.ok f p)(hc:l.length<=1000000):(sumR l).c=l.length/\Zg (sumR l):=by
 obtain⟨s1,s2⟩:=qi4 l zro (.inl rfl) hp (by show(0:Int)+_<=_;omega)
 refine⟨?_,by rw[q5g];exact s2⟩
 rw[q5g,s1];show(0:Int)+_=_;omega

structure MOk(m:Mc):Prop where
 few:Few4 m.ss
 nms:gI m.ss=true
 f:m.f=0\/m.f=3600\/m.f=7200
 pt:∀p∈m.pts,p.s∈m.ss/\p.ok m.f

theorem mok0:MOk mc0:=⟨fun s h=>by simp[mc0] at h,rfl,.inl rfl,fun p h=>by simp[mc0] at h⟩

theorem qiv{m:Mc}(h:MOk m)(i:Int):(bH m.ss (nmS i)).length<=16:=by
 have:=qkr (zY h.nms (q5f i)) (q7h h.few i);omega

theorem qm7{m:Mc}(h:MOk m){i t v:Int}(ht:0<=t/\t<=11999)(hv: -1000000<=v/\v<=1000000):
  putM m (nmS i) t v=if t<m.f then(m,8) else(⟨bH m.ss (nmS i),m.f,m.pts++[⟨nmS i,t,v⟩]⟩,0):=by
 have hl:=qiv h i
 have ho:ofOk t v=true:=by
  unfold ofOk;simp only[Bool.and_eq_true];exact⟨(fH _ _ _).2 ⟨ht.1,by omega⟩,(fH _ _ _).2 hv⟩
 have hc:ptC (nmS i) t v m.f=if t<m.f then 8 else 0:=by
  unfold ptC;rw[if_pos (q5f i),if_pos ho]
 unfold putM;rw[hc]
 by_cases hlt:t<m.f
 ·simp only[hlt,if_true]
  rfl
 ·simp only[hlt,if_false,if_true];rw[if_neg (by omega)]

theorem qlw(m:Mc){t:Int}(ht:t=0\/t=3600\/t=7200):expM m t=if t<m.f then(m,8) else(⟨m.ss,t,rX t m.pts⟩,0):=by
 have hc:iM m.f t=if t<m.f then 8 else 0:=by
  unfold iM;rw[if_pos ((fH _ _ _).2 ⟨by omega,by omega⟩),if_pos (by omega)]
 unfold expM;rw[hc]
 by_cases hlt:t<m.f
 ·simp only[hlt,if_true]
  rfl
 ·simp only[hlt,if_false,if_true]

theorem MOk.put{m:Mc}(h:MOk m){i t v:Int}(ht:0<=t/\t<=11999)(hv: -1000000<=v/\v<=1000000):MOk (putM m (nmS i) t v).1:=by
 rw[qm7 h ht hv]
 by_cases hlt:t<m.f
 ·rw[if_pos hlt];exact h
 ·rw[if_neg hlt];refine⟨q7h h.few i,zY h.nms (q5f i),h.f,fun p hp=>?_⟩
  rcases List.mem_append.1 hp with hp|hp
  ·exact⟨q4e (h.pt p hp).1,(h.pt p hp).2⟩
  ·obtain rfl:p=⟨nmS i,t,v⟩:=by simpa using hp
   exact⟨q4u _ _,ht.1,by show t<=1048575;omega,hv.1,hv.2,by show m.f<=t;omega⟩

theorem MOk.exp{m:Mc}(h:MOk m){t:Int}(ht:t=0\/t=3600\/t=7200):MOk (expM m t).1:=by
 rw[qlw m ht]
 by_cases hlt:t<m.f
 ·rw[if_pos hlt];exact h
 ·rw[if_neg hlt];refine⟨h.few,h.nms,ht,fun p hp=>?_⟩
  obtain⟨hp,hpt⟩:=List.mem_filter.1 hp;obtain⟨h1,h2⟩:=h.pt p hp;exact⟨h1,h2.t0,h2.t1,h2.v0,h2.v1,of_decide_eq_true hpt⟩

theorem MOk.act{m s:Mc}{a:Ac}(hm:MOk m)(hs:MOk s)(ha:AcOk a):MOk (actM m s a).1/\MOk (actM m s a).2.1:=by
 unfold actM
 by_cases h1:a.k=1
 ·rw[if_pos h1];obtain⟨i,hi⟩:=ha.nm (by omega)
  obtain⟨q1,q2,q3,q4⟩:=ha.put h1;rw[hi];exact⟨hm.put ⟨q1,q2⟩ ⟨q3,q4⟩,hs⟩
 ·rw[if_neg h1]
  by_cases h2:a.k=2
  ·rw[if_pos h2];exact⟨hm,hs⟩
  ·rw[if_neg h2]
   by_cases h3:a.k=3
   ·rw[if_pos h3];exact⟨hm,hs⟩
   ·rw[if_neg h3]
    by_cases h4:a.k=4
    ·rw[if_pos h4];exact⟨hm.exp (ha.exp h4),hs⟩
    ·rw[if_neg h4]
     by_cases h5:a.k=5
     ·rw[if_pos h5];exact⟨hm,hm⟩
     ·rw[if_neg h5]
      split
      ·exact⟨hs,hs⟩
      ·exact⟨hm,hs⟩

def tkn:List Ac->List An->List Pt
 |a::l,y::r=>if a.k=1/\y.c=0 then⟨a.s,a.t,a.v⟩::tkn l r else tkn l r
 |_,_=>[]

def flr(f:Int):List Ac->List An->Int
 |a::l,y::r=>flr (if a.k=4/\y.c=0 then a.t else f) l r
 |_,_=>f

theorem qej{f g:Int}(h:f<=g)(l:List Pt):(l.filter fun p=>decide (f<=p.t)).filter (fun p=>decide (g<=p.t))=l.filter fun p=>decide (g<=p.t):=by
 rw[List.filter_filter];refine List.filter_congr fun p _=>?_
 rw[Bool.eq_iff_iff];simp only[Bool.and_eq_true,decide_eq_true_eq];omega

theorem qhi{m:Mc}(h:MOk m):(m.pts.filter fun p=>decide (m.f<=p.t))=m.pts:=
 List.filter_eq_self.2 fun p hp=>by simpa using (h.pt p hp).2.f0

theorem q6x:∀(l:List Ac) {m s:Mc},MOk m->MOk s->(∀a∈l,AcOk a)->(∀a∈l,a.k≠5/\a.k≠6)->
  (runM m s l).1.f=flr m.f l (runM m s l).2.2/\m.f<=(runM m s l).1.f/\(runM m s l).1.pts=(m.pts++tkn l (runM m s l).2.2).filter (fun p=>decide ((runM m s l).1.f<=p.t))/\
   ∀x,x∈(runM m s l).1.ss↔x∈m.ss\/∃p∈tkn l (runM m s l).2.2,p.s=x
 |[],m,s,hm,_,_,_=>⟨rfl,Int.le_refl _,by simp only[runM,tkn,List.append_nil];exact(qhi hm).symm,fun x=>by simp[runM,tkn]⟩
 |a::l,m,s,hm,hs,ha,hn=>by
  have ha0:=ha a List.mem_cons_self;obtain⟨n5,n6⟩:=hn a List.mem_cons_self;obtain⟨h1,h2⟩:=hm.act hs ha0;obtain⟨i1,i2,i3,i4⟩:=q6x l h1 h2 (fun x hx=>ha x (List.mem_cons_of_mem _ hx)) (fun x hx=>hn x (List.mem_cons_of_mem _ hx))
  obtain⟨R,hR⟩:∃R,runM (actM m s a).1 (actM m s a).2.1 l=R:=⟨_,rfl⟩;have e:runM m s (a::l)=(R.1,R.2.1,(actM m s a).2.2::R.2.2):=by simp only[runM,hR]
  rw[hR] at i1 i2 i3 i4;rw[e];simp only
  by_cases k1:a.k=1
  ·obtain⟨i,hi⟩:=ha0.nm (by omega)
   obtain⟨q1,q2,q3,q4⟩:=ha0.put k1;have ep:=qm7 hm (i:=i) ⟨q1,q2⟩ ⟨q3,q4⟩;have ea:actM m s a=((putM m a.s a.t a.v).1,s,⟨(putM m a.s a.t a.v).2,zro,[]⟩):=by simp[actM,k1]
   rw[hi] at ea;rw[ep] at ea;have k4:¬(a.k=4):=by omega
   by_cases hlt:a.t<m.f
   ·rw[if_pos hlt] at ea;rw[ea] at i1 i2 i3 i4 ⊢;simp only at i1 i2 i3 i4;have et:tkn (a::l) ((⟨8,zro,[]⟩:An)::R.2.2)=tkn l R.2.2:=by simp[tkn]
    have ef:flr m.f (a::l) ((⟨8,zro,[]⟩:An)::R.2.2)=flr m.f l R.2.2:=by simp[flr]
    simp only;rw[et,ef];exact⟨i1,i2,i3,i4⟩
   ·rw[if_neg hlt] at ea;rw[ea] at i1 i2 i3 i4 ⊢;simp only at i1 i2 i3 i4;have et:tkn (a::l) ((⟨0,zro,[]⟩:An)::R.2.2)=⟨a.s,a.t,a.v⟩::tkn l R.2.2:=by simp[tkn,k1]
    have ef:flr m.f (a::l) ((⟨0,zro,[]⟩:An)::R.2.2)=flr m.f l R.2.2:=by simp[flr,k4]
    simp only;rw[et,ef];refine⟨i1,i2,?_,fun x=>?_⟩
    ·rw[i3,hi];congr 1;simp
    ·rw[i4 x,hi];constructor
     ·rintro(h|⟨p,hp,rfl⟩)
      ·by_cases hx:x∈m.ss
       ·exact .inl hx
       ·right;refine⟨_,List.mem_cons_self,?_⟩;unfold bH at h
        split at h
        ·rcases List.mem_append.1 h with h|h
         ·exact absurd h hx
         ·exact(show x=nmS i by simpa using h).symm
        ·exact absurd h hx
      ·exact .inr ⟨p,List.mem_cons_of_mem _ hp,rfl⟩
     ·rintro(h|⟨p,hp,rfl⟩)
      ·exact .inl (q4e h)
      ·rcases List.mem_cons.1 hp with rfl|hp
       ·exact .inl (q4u _ _)
       ·exact .inr ⟨p,hp,rfl⟩
  ·have et:tkn (a::l) ((actM m s a).2.2::R.2.2)=tkn l R.2.2:=by simp[tkn,k1]
   rw[et]
   by_cases k4:a.k=4
   ·have ea:actM m s a=((expM m a.t).1,s,⟨(expM m a.t).2,zro,[]⟩):=by simp[actM,k4]
    rw[qlw m (ha0.exp k4)] at ea
    by_cases hlt:a.t<m.f
    ·rw[if_pos hlt] at ea;rw[ea] at i1 i2 i3 i4 ⊢;simp only at i1 i2 i3 i4;have ef:flr m.f (a::l) ((⟨8,zro,[]⟩:An)::R.2.2)=flr m.f l R.2.2:=by simp[flr]
     simp only;rw[ef];exact⟨i1,i2,i3,i4⟩
    ·rw[if_neg hlt] at ea;rw[ea] at i1 i2 i3 i4 ⊢;simp only at i1 i2 i3 i4;have ef:flr m.f (a::l) ((⟨0,zro,[]⟩:An)::R.2.2)=flr a.t l R.2.2:=by simp[flr,k4]
     simp only;rw[ef];refine⟨i1,by omega,?_,i4⟩
     rw[i3,List.filter_append,List.filter_append];congr 1;exact qej i2 m.pts
   ·have ea:(actM m s a).1=m:=by
     by_cases h2:a.k=2
     ·simp[actM,h2]
     ·by_cases h3:a.k=3
      ·simp[actM,h3]
      ·simp[actM,k1,h2,h3,k4,n5,n6]
    rw[ea] at i1 i2 i3 i4;have ef:flr m.f (a::l) ((actM m s a).2.2::R.2.2)=flr m.f l R.2.2:=by simp[flr,k4]
    rw[ef];exact⟨i1,i2,i3,i4⟩

def cpuS:ByteArray:=⟨#[99,112,117]⟩
def mW(a:Ac):Bool:=!(decide (a.k=5)||decide (a.k=6))
def askT(s:ByteArray)(a b:Int):Ac:=⟨3,s,a,b,0,0⟩
def tkp(a:Ac):Pt:=⟨a.s,a.t,a.v⟩

theorem qbz:∀(l:List Ac) (r:List An) (a:Ac) (y:An),l.length=r.length->tkn (l++[a]) (r++[y])=tkn l r++(if a.k=1/\y.c=0 then[tkp a] else[])
 |[],[],a,y,_=>by
  by_cases h:a.k=1/\y.c=0<;>simp[tkn,h,tkp]
 |x::l,z::r,a,y,h=>by
  have ih:=qbz l r a y (by simpa using h)
  simp only[List.cons_append,tkn,ih]
  by_cases h:x.k=1/\z.c=0
  ·rw[if_pos h,if_pos h,List.cons_append]
  ·rw[if_neg h,if_neg h]
 |[],_::_,_,_,h=>by simp at h
 |_::_,[],_,_,h=>by simp at h

theorem qao:∀(l:List Ac) (r:List An) (f:Int) (a:Ac) (y:An),l.length=r.length->flr f (l++[a]) (r++[y])=if a.k=4/\y.c=0 then a.t else flr f l r
 |[],[],f,a,y,_=>by simp[flr]
 |x::l,z::r,f,a,y,h=>by
  simp only[List.cons_append,flr];exact qao l r _ a y (by simpa using h)
 |[],_::_,_,_,_,h=>by simp at h
 |_::_,[],_,_,_,h=>by simp at h

theorem qlp:∀(l:List Ac) (r:List An),(∀a∈l,AcOk a)->∀p∈tkn l r,Pt.ok 0 p
 |[],_,_,p,hp=>by simp[tkn] at hp
 |_::_,[],_,p,hp=>by simp[tkn] at hp
 |a::l,y::r,ha,p,hp=>by
  have ih:=qlp l r (fun x hx=>ha x (List.mem_cons_of_mem _ hx)) p
  simp only[tkn] at hp
  by_cases h:a.k=1/\y.c=0
  ·rw[if_pos h] at hp;rcases List.mem_cons.1 hp with rfl|hp
   ·obtain⟨h1,h2,h3,h4⟩:=(ha a List.mem_cons_self).put h.1;exact⟨h1,by show a.t<=_;omega,h3,h4,h1⟩
   ·exact ih hp
  ·rw[if_neg h] at hp;exact ih hp

theorem qhp:∀(l:List Ac) (r:List An),(tkn l r).length<=l.length
 |[],_=>by simp[tkn]
 |_::_,[]=>by simp[tkn]
 |a::l,y::r=>by
  have ih:=qhp l r;simp only[tkn]
  by_cases h:a.k=1/\y.c=0
  ·rw[if_pos h];simp only[List.length_cons];omega
  ·rw[if_neg h];simp only[List.length_cons];omega

theorem qc2{F:List Ac}{Y:List An}{k:Nat}(h:k<F.length)(h':k<Y.length):tkn (F.take (k+1)) (Y.take (k+1))=tkn (F.take k) (Y.take k)++(if F[k].k=1/\Y[k].c=0 then[tkp F[k]] else[]):=by
 rw[List.take_succ_eq_append_getElem h,List.take_succ_eq_append_getElem h'];exact qbz _ _ _ _ (by rw[List.length_take,List.length_take];omega)

theorem qjn{F:List Ac}{Y:List An}{k:Nat}(f:Int)(h:k<F.length)(h':k<Y.length):flr f (F.take (k+1)) (Y.take (k+1))=if F[k].k=4/\Y[k].c=0 then F[k].t else flr f (F.take k) (Y.take k):=by
 rw[List.take_succ_eq_append_getElem h,List.take_succ_eq_append_getElem h'];exact qao _ _ _ _ _ (by rw[List.length_take,List.length_take];omega)

def anyC(l:List Pt):Bool:=l.any fun p=>decide (p.s=cpuS)
theorem nJ(l r:List Pt):anyC (l++r)=(anyC l||anyC r):=by simp[anyC,List.any_append]
theorem qca(l:List Pt):anyC l=true↔∃p∈l,p.s=cpuS:=by simp[anyC]

def iY(a z f:Int)(p:Pt):Bool:=inPt cpuS a z p&&decide (f<=p.t)

def ruL(r:Ru):List Value:=[.int .i64 r.c,.int .i64 r.s,.int .i64 r.lo,.int .i64 r.hi,.int .i64 r.t,.int .i64 r.l]

theorem qh1(l:List Pt)(p:Pt):sumR (l++[p])=(mrg (sumR l) (ruP p)).1:=by
 rw[q5g,List.foldl_append]
 rfl

theorem qks{l:List Pt}(hl:∀p∈l,Pt.ok 0 p)(hn:l.length<=1000){p:Pt}(hp:Pt.ok 0 p):mrg (sumR l) (ruP p)=(sumR (l++[p]),0):=by
 have h1:=qmi (l:=l) (fun p h=>⟨0,hl p h⟩) (by omega)
 have h2:=qmh h1.2 (qlu ⟨0,hp⟩) (by
  have:(ruP p).c=1:=rfl;rw[this,h1.1];omega)
 rw[qh1];exact Prod.ext rfl h2.1

theorem qfl{F:List Ac}(ha:∀a∈F,AcOk a)(hn:∀a∈F,a.k≠5/\a.k≠6){a z:Int}(h0:0<=a)(haz:a<=z)(hz:z<=1048575):
  ∃(Y0:List An) (yc:Int) (yr:Ru),(runM mc0 mc0 (F++[askT cpuS a z])).2.2=Y0++[⟨yc,yr,[]⟩]/\Y0.length=F.length/\
   ((∃p∈tkn F Y0,p.s=cpuS)->yc=0/\yr=sumR ((tkn F Y0).filter (iY a z (flr 0 F Y0))))/\((¬∃p∈tkn F Y0,p.s=cpuS)->yc=6):=by
 obtain⟨k1,k2,k3,k4⟩:=q6x F mok0 mok0 ha hn;have e0:=congrArg (fun x=>x.2.2) (q4p F [askT cpuS a z] mc0 mc0)
 have e:∀m s,(runM m s [askT cpuS a z]).2.2=[⟨(sumM m cpuS a z).2,(sumM m cpuS a z).1,[]⟩]:=fun m s=>by simp[runM,actM,askT]
 simp only[e] at e0;refine⟨(runM mc0 mc0 F).2.2,_,_,e0,q4y _ _ _,?_,?_⟩
 ·intro h;have hx:cpuS∈(runM mc0 mc0 F).1.ss:=(k4 cpuS).2 (.inr h);have hi:0<=Lib.idxOfS (runM mc0 mc0 F).1.ss cpuS:=(Lib.idxOfS_nonneg_iff _ _).2 hx;unfold sumM;rw[if_neg (by omega),if_pos (spanB_iff.2 ⟨h0,haz,hz⟩)]
  refine⟨rfl,?_⟩;show sumR (mQ cpuS a z (runM mc0 mc0 F).1.pts)=_;rw[k3,k1];unfold mQ;rw[List.filter_filter]
  rfl
 ·intro h
  have hx:¬cpuS∈(runM mc0 mc0 F).1.ss:=fun hm=>by
   rcases(k4 cpuS).1 hm with h'|h'
   ·simp[mc0] at h'
   ·exact h h'
  have hi:Lib.idxOfS (runM mc0 mc0 F).1.ss cpuS<0:=by
   have:=mt (Lib.idxOfS_nonneg_iff _ _).1 hx;omega
  unfold sumM;rw[if_pos hi]

end
end Go.Proofs.YtlojfgdpmaigmagGreatDoor

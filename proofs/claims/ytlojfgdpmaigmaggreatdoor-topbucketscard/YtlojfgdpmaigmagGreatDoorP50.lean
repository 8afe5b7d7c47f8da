/- The engine as a machine over names, a Floor and points: in plain terms, and what base and file answer of it. -/
import Derived.Test.YtlojfgdpmaigmagGreatDoorP48
import Derived.Test.YtlojfgdpmaigmagGreatDoorP49
import Derived.Test.YtlojfgdpmaigmagGreatDoorP46
import Derived.Test.YtlojfgdpmaigmagGreatDoorP23
import Derived.Test.YtlojfgdpmaigmagGreatDoorP44
import Derived.Test.YtlojfgdpmaigmagGreatDoorP08
import Derived.Deep.AppendLies
namespace Go.Proofs.YtlojfgdpmaigmagGreatDoor
section
open Go.RowKit Plain Go.Shelf

structure Mc where
 ss:List ByteArray
 f:Int
 pts:List Pt

def mc0:Mc:=⟨[],0,[]⟩

structure An where
 c:Int
 r:Ru
 R:List En

def putM(m:Mc)(s:ByteArray)(t v:Int):Mc × Int:=
 if ptC s t v m.f=0 then(if 16<(bH m.ss s).length then(m,1) else(⟨bH m.ss s,m.f,m.pts++[⟨s,t,v⟩]⟩,0)) else(m,ptC s t v m.f)

def expM(m:Mc)(t:Int):Mc × Int:=if iO m.f t=0 then(⟨m.ss,t,sF t m.pts⟩,0) else(m,iO m.f t)

def sumM(m:Mc)(x:ByteArray)(a b:Int):Ru × Int:=
 if Lib.idxOfS m.ss x<0 then(zro,6) else if eX a b=true then(sumR (iH x a b m.pts),0) else(zro,2)

def bkL(m:Mc)(sz:Int):List En:=(allL (m.pts.map (ptBk m.ss sz))).getD []

def askM(m:Mc)(x:ByteArray)(sz a b:Int):List En × Int:=
 if Lib.idxOfS m.ss x<0 then([],6) else if sz=1\/sz=60\/sz=3600 then(if eX a b=true then(((bkL m sz).filter (selB (Lib.idxOfS m.ss x) a b)).map rowE,0) else([],2)) else([],3)

def actM(m s:Mc)(a:Ac):Mc × Mc × An:=
 if a.k=1 then((putM m a.s a.t a.v).1,s,⟨(putM m a.s a.t a.v).2,zro,[]⟩)
 else if a.k=2 then(m,s,⟨(askM m a.s a.n a.t a.z).2,zro,(askM m a.s a.n a.t a.z).1⟩)
 else if a.k=3 then(m,s,⟨(sumM m a.s a.t a.z).2,(sumM m a.s a.t a.z).1,[]⟩)
 else if a.k=4 then((expM m a.t).1,s,⟨(expM m a.t).2,zro,[]⟩)
 else if a.k=5 then(m,m,⟨0,zro,[]⟩)
 else if a.k=6 then(s,s,⟨0,zro,[]⟩)
 else(m,s,⟨3,zro,[]⟩)

def runM:Mc->Mc->List Ac->Mc × Mc × List An
 |m,s,[]=>(m,s,[])
 |m,s,a::r=>((runM (actM m s a).1 (actM m s a).2.1 r).1,(runM (actM m s a).1 (actM m s a).2.1 r).2.1,(actM m s a).2.2::(runM (actM m s a).1 (actM m s a).2.1 r).2.2)

theorem q4c:∀(l r:List Ac) (m s:Mc),runM m s (l++r)=((runM (runM m s l).1 (runM m s l).2.1 r).1,(runM (runM m s l).1 (runM m s l).2.1 r).2.1,(runM m s l).2.2++(runM (runM m s l).1 (runM m s l).2.1 r).2.2)
 |[],_,_,_=>rfl
 |a::l,r,m,s=>by
  simp only[List.cons_append,runM];rw[q4c l r]

theorem q4n:∀(l:List Ac) (m s:Mc),(runM m s l).2.2.length=l.length
 |[],_,_=>rfl
 |a::l,m,s=>by
  simp only[runM,List.length_cons,q4n l]

theorem qgq(m:Mc)(s:ByteArray)(t v:Int):(putM m s t v).1.pts.length<=m.pts.length+1:=by
 unfold putM
 split
 ·split
  ·simp
  ·simp
 ·simp

theorem qoe(m:Mc)(t:Int):(expM m t).1.pts.length<=m.pts.length:=by
 unfold expM
 split
 ·exact List.length_filter_le _ _
 ·exact Nat.le_refl _

theorem qh3{m s:Mc}{n:Nat}(a:Ac)(hm:m.pts.length<=n)(hs:s.pts.length<=n):(actM m s a).1.pts.length<=n+1/\(actM m s a).2.1.pts.length<=n+1:=by
 have h1:=qgq m a.s a.t a.v;have h2:=qoe m a.t;unfold actM
 repeat' split
 all_goals
  constructor
  all_goals
   simp only;omega

def RowB(B:Nat)(w:World)(A:Option Addr)(vs:List Value):Prop:=
 vs=[]\/∃b o,A=some ⟨b,o,none⟩/\B<=b/\b<w.heap.size/\∀j u,vs[j]? =some u->w.cell? ⟨b,o+j,none⟩=some u

theorem qju{w:World}{base:Nat}{e:TypeId}{size n:Nat}{v:Value}{vs:List Value}(h:w.ownsRow base e size v n vs):
  ∃A C,v=.slice A n C/\n<=C/\C<=maxLen/\RowB base w A vs:=by
 rcases h.2 with⟨hv,hn⟩|⟨g,cap,cur,hv,hb,hg,hl,hm,hs,ht⟩
 ·subst hv hn;refine⟨none,0,rfl,Nat.le_refl _,Nat.zero_le _,.inl ?_⟩;have:=h.1
  simpa using this
 ·subst hv;refine⟨some ⟨g,0,none⟩,cap,rfl,hl,hm,.inr ⟨g,0,rfl,hb,(Array.getElem?_eq_some_iff.1 hg).1,fun j u hu=>?_⟩⟩
  have hj:j<n*size:=by
   have:=(List.getElem?_eq_some_iff.1 hu).1;rw[h.1] at this;exact this
  rw[Nat.zero_add,h.cellAt j hj];exact hu

def BcTo(m:Mc)(c:Int)(w:World)(e:Ending)(w':World):Prop:=
 ∃(A:Option Addr) (C:Nat) (ss:List ByteArray) (t0 t1 t2:TR) (f:Int),e=.returned (.tuple #[.agg (aJ A C ss t0 t1 t2 f).toArray,.int .i64 c])/\Below w.heap.size w w'/\(c=0->ss=m.ss/\f=m.f/\OwnB w.heap.size w' A C ss t0 t1 t2/\KB ss f t0 t1 t2 m.pts)

theorem qo9{m:Mc}{c:Int}{w w':World}{e:Ending}(hc:c≠0)(he:e=.returned (dF c))(hb:Below w.heap.size w w'):BcTo m c w e w':=
 ⟨none,0,[],⟨none,0,[],0⟩,⟨none,0,[],0⟩,⟨none,0,[],0⟩,0,he,hb,fun h=>absurd h hc⟩

theorem qlu{m:Mc}{w w':World}{e:Ending}(h:qmx m.ss m.f m.pts w e w'):BcTo m 0 w e w':=by
 obtain⟨A,C,t0,t1,t2,he,ho,hk,hb⟩:=h;exact⟨A,C,m.ss,t0,t1,t2,m.f,he,hb,fun _=>⟨rfl,rfl,ho,hk⟩⟩

section
variable {A : Option Addr} {C : Nat} {t0 t1 t2 : TR} {m : Mc} {w : World}

theorem qo3(hZ:SzAt w)(hB:dR w A C m.ss t0 t1 t2)(hK:KB m.ss m.f t0 t1 t2 m.pts){s:ByteArray}{t v:Int}(hs:s.size<=140737488351232)(hn:m.pts.length<=900):
  Calls Tryz.prog 63 #[.agg (aJ A C m.ss t0 t1 t2 m.f).toArray,.agg #[.string s,.int .i64 t,.int .i64 v]] w (BcTo (putM m s t v).1 (putM m s t v).2 w):=by
 unfold putM
 by_cases hc:ptC s t v m.f=0
 ·rw[if_pos hc]
  by_cases hl:16<(bH m.ss s).length
  ·rw[if_pos hl];obtain⟨L0,L1,L2,k⟩:=hK;refine(q5c A C m.ss t0 t1 t2 m.f s t v w hZ hB.len hB.st hs hB.o0 hB.o1 hB.o2).mono ?_;rintro e w' ⟨hb,h⟩;rcases h with⟨d,_,hno,rfl⟩|⟨A',C',u0,u1,u2,K0,K1,K2,M0,M1,M2,hy,_⟩
   ·rcases hno with⟨h1,_⟩|⟨_,h1,_⟩|⟨_,_,rfl,_⟩
    ·rw[k.ok] at h1;cases h1
    ·exact absurd hc h1
    ·exact qo9 (c:=1) (by decide) rfl hb
   ·have:=hy.few;omega
  ·rw[if_neg hl];exact(qoi hZ hB hK hs hc (by omega) hn).mono fun e w' h=>qlu (m:=⟨bH m.ss s,m.f,m.pts++[⟨s,t,v⟩]⟩) h
 ·rw[if_neg hc];exact(qob hZ hB hK hs rfl hc).mono fun e w' h=>qo9 hc h.1 h.2

theorem qmc(hZ:SzAt w)(hB:dR w A C m.ss t0 t1 t2)(hK:KB m.ss m.f t0 t1 t2 m.pts){t:Int}(hn:m.pts.length<=2900):
  Calls Tryz.prog 66 #[.agg (aJ A C m.ss t0 t1 t2 m.f).toArray,.int .i64 t] w (BcTo (expM m t).1 (expM m t).2 w):=by
 unfold expM
 by_cases hc:iO m.f t=0
 ·rw[if_pos hc];exact(qnp hZ hB hK hc hn).mono fun e w' h=>qlu (m:=⟨m.ss,t,sF t m.pts⟩) h
 ·rw[if_neg hc];exact(qme hZ hB hK rfl hc).mono fun e w' h=>qo9 hc h.1 h.2

theorem qik(hZ:SzAt w)(hB:dR w A C m.ss t0 t1 t2)(hK:KB m.ss m.f t0 t1 t2 m.pts){x:ByteArray}{a b:Int}(hn:m.pts.length<=100000):
  Calls Tryz.prog 65 #[.agg (aJ A C m.ss t0 t1 t2 m.f).toArray,.string x,.int .i64 a,.int .i64 b] w (MaTo (sumM m x a b) w):=by
 unfold sumM
 by_cases hx:Lib.idxOfS m.ss x<0
 ·rw[if_pos hx];exact qj5 hZ hB hK hx
 ·rw[if_neg hx]
  by_cases hs:eX a b=true
  ·rw[if_pos hs];exact qjf hZ hB hK (by omega) hs hn
  ·rw[if_neg hs];exact qiz hZ hB hK (by omega) (by simpa using hs)

def RwTo(r:List En × Int)(w:World)(e:Ending)(w':World):Prop:=
 Below w.heap.size w w'/\∃(A:Option Addr) (C:Nat),e=.returned (.tuple #[.slice A r.1.length C,.int .i64 r.2])/\r.1.length<=C/\RowB w.heap.size w' A (aB r.1)

theorem uZ{c:Int}{w w':World}{e:Ending}(h:e=.returned (.tuple #[.slice none 0 0,.int .i64 c])/\Below w.heap.size w w'):RwTo ([],c) w e w':=
 ⟨h.2,none,0,h.1,Nat.le_refl _,.inl rfl⟩

theorem qe8{L M R:List En}{x:ByteArray}{ss:List ByteArray}{sz a b:Int}{pts:List Pt}{w w':World}{e:Ending}(h:allL (pts.map (ptBk ss sz))=some L)(hM:L.filter (selB (Lib.idxOfS ss x) a b)=M)(hr:yO M w e w')(hR:((allL (pts.map (ptBk ss sz))).getD [] |>.filter (selB (Lib.idxOfS ss x) a b)).map rowE=R):RwTo (R,0) w e w':=by
 obtain⟨hb,v,rfl,ho⟩:=hr;obtain⟨A,C,rfl,hl,-,hrow⟩:=qju ho;rw[h] at hR;simp only[Option.getD_some] at hR;rw[hM] at hR;subst hR;exact⟨hb,A,C,by rw[List.length_map],by rw[List.length_map];exact hl,hrow⟩

theorem qn6(hZ:SzAt w)(hB:dR w A C m.ss t0 t1 t2)(hK:KB m.ss m.f t0 t1 t2 m.pts){x:ByteArray}{sz a b:Int}(hn:m.pts.length<=500):
  Calls Tryz.prog 64 #[.agg (aJ A C m.ss t0 t1 t2 m.f).toArray,.string x,.int .i64 sz,.int .i64 a,.int .i64 b] w (RwTo (askM m x sz a b) w):=by
 unfold askM
 by_cases hx:Lib.idxOfS m.ss x<0
 ·rw[if_pos hx];exact(qn7 hZ hB hK hx).mono fun e w' h=>uZ h
 ·rw[if_neg hx]
  by_cases hs:sz=1\/sz=60\/sz=3600
  ·rw[if_pos hs]
   by_cases hsp:eX a b=true
   ·rw[if_pos hsp];have hx0:0<=Lib.idxOfS m.ss x:=by omega
    obtain⟨L0,L1,L2,k⟩:=hK;obtain⟨l0,l1,l2⟩:=k.few;have f0:=gU (ns:=t0.ps.map PN.nd) (r:=t0.r) (low:=0) (high:=1099511627776);have f1:=gU (ns:=t1.ps.map PN.nd) (r:=t1.r) (low:=0) (high:=1099511627776);have f2:=gU (ns:=t2.ps.map PN.nd) (r:=t2.r) (low:=0) (high:=1099511627776);rw[k.lst.a0] at f0;rw[k.lst.a1] at f1;rw[k.lst.a2] at f2;have hp2:=qlf (p:=Lib.idxOfS m.ss x) rfl k.lst.few;have fl:∀L:List En,(L.filter (selB (Lib.idxOfS m.ss x) a b)).length<=L.length:=fun L=>List.length_filter_le _ _
    have q0:=fl L0;have q1:=fl L1;have q2:=fl L2
    have hab:0<=a/\a<=b/\b<=1048575:=by
     unfold eX at hsp
     simpa [Bool.and_eq_true] using hsp
    rcases hs with rfl|rfl|rfl
    ·exact(qjc A C m.ss t0 t1 t2 m.f x a b _ _ w hZ hB.len hB.st hB.o0 hB.o1 hB.o2 k.ok rfl hx0 hp2 hab.1 hab.2.1 hab.2.2 L0 k.lst.a0 rfl (fun y hy=>f0.2.2 y (List.mem_filter.1 hy).1) (by omega)).mono fun e w' h=>qe8 (k.rolled k.lst.p0) rfl h rfl
    ·exact(ql6 A C m.ss t0 t1 t2 m.f x a b _ _ w hZ hB.len hB.st hB.o0 hB.o1 hB.o2 k.ok rfl hx0 hp2 hab.1 hab.2.1 hab.2.2 L1 k.lst.a1 rfl (fun y hy=>f1.2.2 y (List.mem_filter.1 hy).1) (by omega)).mono fun e w' h=>qe8 (k.rolled k.lst.p1) rfl h rfl
    ·exact(qin A C m.ss t0 t1 t2 m.f x a b _ _ w hZ hB.len hB.st hB.o0 hB.o1 hB.o2 k.ok rfl hx0 hp2 hab.1 hab.2.1 hab.2.2 L2 k.lst.a2 rfl (fun y hy=>f2.2.2 y (List.mem_filter.1 hy).1) (by omega)).mono fun e w' h=>qe8 (k.rolled k.lst.p2) rfl h rfl
   ·rw[if_neg hsp];have hsp':eX a b=false:=by simpa using hsp
    have con:=q1q hZ hB hK (x:=x) rfl (by omega)
    rcases hs with rfl|rfl|rfl
    ·exact(qcj A C m.ss t0 t1 t2 m.f x a b w _ hZ hsp' con).mono fun e w' h=>uZ h
    ·exact(qdh A C m.ss t0 t1 t2 m.f x a b w _ hZ hsp' con).mono fun e w' h=>uZ h
    ·exact(qch A C m.ss t0 t1 t2 m.f x a b w _ hZ hsp' con).mono fun e w' h=>uZ h
  ·rw[if_neg hs];exact(qnu hZ hB hK (by omega) hs).mono fun e w' h=>uZ h

structure KpY(m:Mc)(L:List En):Prop where
 all:allL (m.pts.map (ptIn m.ss))=some L
 tell:qJ m.ss m.f L
 len:(encB m.ss m.f L).length<=200000
 ok:iZ m.ss m.f L=true
 few:L.length<=2900
 pt:∀p∈m.pts,p.s∈m.ss/\p.ok m.f

def EnTo(m:Mc)(w:World)(e:Ending)(w':World):Prop:=
 Below w.heap.size w w'/\∃v L,e=.returned (.tuple #[v,.int .i64 0])/\bY w.heap.size w' v (encB m.ss m.f L)/\KpY m L

theorem qrg(hK:KB m.ss m.f t0 t1 t2 m.pts)(hn:m.pts.length<=1000):∃L,KpY m L/\allP (t0.ps.map PN.nd) t0.r 0 1099511627776=(0,L):=by
 obtain⟨L0,L1,L2,k⟩:=hK;obtain⟨l0,-,-⟩:=k.few;obtain⟨hT,-⟩:=qha k.ok;rw[tV,k.lst.a0] at hT;exact⟨L0,⟨k.all,qhs k.ok k.lst (by omega),qmv hT (by show L0.length<=1000;omega),qj6 k.ok k.lst,by omega,k.pt⟩,k.lst.a0⟩

theorem qr6(hZ:SzAt w)(hB:dR w A C m.ss t0 t1 t2)(hK:KB m.ss m.f t0 t1 t2 m.pts)(hn:m.pts.length<=1000):
  Calls Tryz.prog 36 #[.agg (aJ A C m.ss t0 t1 t2 m.f).toArray] w (EnTo m w):=by
 obtain⟨L,hL,ha⟩:=qrg hK hn;obtain⟨L0,L1,L2,k⟩:=hK;refine(qcw A C m.ss t0 t1 t2 m.f w hZ hB.len hB.st hB.o0 hB.o1 hB.o2 k.ok).mono ?_;rw[ha];rintro e w' ⟨hbw,⟨h1,_⟩|⟨_,_,v,rfl,hv⟩⟩
 ·exfalso
  have h2:=hL.few;have h3:=hL.len;simp only at h1;omega
 ·exact⟨hbw,v,L,rfl,hv,hL⟩

theorem qqn{L:List En}(hZ:SzAt w)(h:aW w.heap.size w A C (encB m.ss m.f L))(hL:KpY m L):
  Calls Tryz.prog 102 #[.slice A (encB m.ss m.f L).length C] w (BcTo m 0 w):=by
 refine(qqf hZ h hL.tell hL.len hL.ok hL.few).mono ?_;rintro e w' ⟨A',C',u0,u1,u2,rfl,_,hb,ha,ho,hbw⟩;obtain⟨J0,J1,J2,hJ⟩:=mX hb;obtain rfl:J0=L:=(Prod.mk.inj (hJ.a0.symm.trans ha)).2;exact⟨A',C',m.ss,u0,u1,u2,m.f,rfl,hbw,fun _=>⟨rfl,rfl,ho,_,J1,J2,hb,hJ,hL.all,hL.pt⟩⟩
end

end
section
open Go.RowKit Plain Go.Shelf

def AwX(X:Nat->Prop)(w:World)(A:Option Addr)(C:Nat)(ss:List ByteArray)(t0 t1 t2:TR):Prop:=
 ∃(B:Nat) (w0:World),OwnB B w0 A C ss t0 t1 t2/\w0.heap.size<=w.heap.size/\(∀k,B<=k->k<w0.heap.size->w.heap[k]? =w0.heap[k]?)/\∀k,B<=k->k<w0.heap.size->¬X k

def KpX(X:Nat->Prop)(w:World)(s:Mc)(K:Value):Prop:=
 (K=.slice none 0 0/\s=mc0)\/∃(L:List En) (g cap:Nat),K=.slice (some ⟨g,0,none⟩) (encB s.ss s.f L).length cap/\bY g w K (encB s.ss s.f L)/\¬X g/\KpY s L

def RowX(X:Nat->Prop)(w:World)(A:Option Addr)(vs:List Value):Prop:=
 vs=[]\/∃b o,A=some ⟨b,o,none⟩/\b<w.heap.size/\¬X b/\∀j u,vs[j]? =some u->w.cell? ⟨b,o+j,none⟩=some u

structure fG(X:Nat->Prop)(w w':World):Prop where
 size:w.heap.size<=w'.heap.size
 block:∀k,k<w.heap.size->¬X k->w'.heap[k]? =w.heap[k]?

section
variable {X Y : Nat -> Prop} {w w' : World} {A : Option Addr} {C : Nat} {ss : List ByteArray} {t0 t1 t2 : TR} {f : Int} {pts : List Pt} {s : Mc} {K : Value} {vs : List Value}

theorem fG.of_below(h:Below w.heap.size w w'):fG X w w':=⟨h.size,fun k hk _=>h.block k hk⟩
theorem fG.of_kept{ex:List Nat}(h:Kept ex w w')(hx:∀k∈ex,X k):fG X w w':=⟨h.size,fun k hk hn=>h.block k hk fun e=>hn (hx k e)⟩

theorem AwX.keep(h:AwX X w A C ss t0 t1 t2)(hk:fG X w w'):AwX X w' A C ss t0 t1 t2:=by
 obtain⟨B,w0,h1,h2,h3,h4⟩:=h;exact⟨B,w0,h1,Nat.le_trans h2 hk.size,fun k q1 q2=>(hk.block k (by omega) (h4 k q1 q2)).trans (h3 k q1 q2),h4⟩

theorem AwX.more(h:AwX X w A C ss t0 t1 t2)(hY:∀k,Y k->X k\/w.heap.size<=k):AwX Y w A C ss t0 t1 t2:=by
 obtain⟨B,w0,h1,h2,h3,h4⟩:=h;refine⟨B,w0,h1,h2,h3,fun k q1 q2 hk=>?_⟩
 rcases hY k hk with h|h
 ·exact h4 k q1 q2 h
 ·omega

theorem AwX.new{B:Nat}(h:OwnB B w A C ss t0 t1 t2)(hX:∀k,X k->k<B):AwX X w A C ss t0 t1 t2:=
 ⟨B,w,h,Nat.le_refl _,fun _ _ _=>rfl,fun k q1 _ hk=>by have:=hX k hk;omega⟩

theorem AwX.at(h:AwX X w A C ss t0 t1 t2)(hk:KB ss f t0 t1 t2 pts):dR w A C ss t0 t1 t2:=by
 obtain⟨B,w0,h1,h2,h3,h4⟩:=h;exact(h1.keep (Nat.le_refl _) h3).at hk

theorem KpX.keep(h:KpX X w s K)(hk:fG X w w'):KpX X w' s K:=by
 rcases h with h|⟨L,g,cap,h1,h2,h3,h4⟩
 ·exact .inl h
 ·subst h1;refine .inr ⟨L,g,cap,rfl,?_,h3,h4⟩;obtain⟨g',cap',hv,hB,hg,r1,r2,r3,r4⟩:=h2;cases hv;have e:=hk.block g hg h3;refine⟨g,cap,rfl,Nat.le_refl _,Nat.lt_of_lt_of_le hg hk.size,r1,r2,fun j hj=>?_,fun j u hu=>(World.cell?_of_block (a:=⟨g,j,none⟩) e).trans (r4 j u hu)⟩
  rw[World.cell?_of_block (a:=⟨g,j,none⟩) e,World.frozen?_of_block (a:=⟨g,j,none⟩) e];exact r3 j hj

theorem KpX.more(h:KpX X w s K)(hY:∀k,Y k->X k\/w.heap.size<=k):KpX Y w s K:=by
 rcases h with h|⟨L,g,cap,h1,h2,h3,h4⟩
 ·exact .inl h
 ·refine .inr ⟨L,g,cap,h1,h2,fun hg=>?_,h4⟩
  rcases hY g hg with h|h
  ·exact h3 h
  ·subst h1;obtain⟨g',cap',hv,hB,hg',_⟩:=h2;cases hv;omega

theorem KpX.new{B:Nat}{L:List En}(h:bY B w K (encB s.ss s.f L))(hL:KpY s L)(hX:∀k,X k->k<B):KpX X w s K:=by
 obtain⟨g,cap,hv,hB,hg,rest⟩:=h;subst hv;exact .inr ⟨L,g,cap,rfl,⟨g,cap,rfl,Nat.le_refl _,hg,rest⟩,fun hk=>by have:=hX g hk;omega,hL⟩

theorem RowX.keep(h:RowX X w A vs)(hk:fG X w w'):RowX X w' A vs:=by
 rcases h with h|⟨b,o,h1,h2,h3,h4⟩
 ·exact .inl h
 ·exact .inr ⟨b,o,h1,Nat.lt_of_lt_of_le h2 hk.size,h3,fun j u hu=>(World.cell?_of_block (a:=⟨b,o+j,none⟩) (hk.block b h2 h3)).trans (h4 j u hu)⟩

theorem RowX.more(h:RowX X w A vs)(hY:∀k,Y k->X k\/w.heap.size<=k):RowX Y w A vs:=by
 rcases h with h|⟨b,o,h1,h2,h3,h4⟩
 ·exact .inl h
 ·refine .inr ⟨b,o,h1,h2,fun hb=>?_,h4⟩
  rcases hY b hb with h|h
  ·exact h3 h
  ·omega

theorem RowX.new{B:Nat}(h:RowB B w A vs)(hX:∀k,X k->k<B):RowX X w A vs:=by
 rcases h with h|⟨b,o,h1,h2,h3,h4⟩
 ·exact .inl h
 ·exact .inr ⟨b,o,h1,h3,fun hk=>by have:=hX b hk;omega,h4⟩

theorem RowX.row(h:RowX X w A vs):aH w.heap.size w A vs:=by
 rcases h with h|⟨b,o,h1,h2,_,h4⟩
 ·exact .inl h
 ·exact .inr ⟨b,o,h1,h2,h4⟩
end

structure StAt(X:Nat->Prop)(w:World)(sb:Nat)(m s:Mc)(A:Option Addr)(C:Nat)(t0 t1 t2:TR)(K:Value):Prop where
 box:RowL w sb 85 (aJ A C m.ss t0 t1 t2 m.f++[K])
 aw:AwX X w A C m.ss t0 t1 t2
 kb:KB m.ss m.f t0 t1 t2 m.pts
 kp:KpX X w s K

def StX(X:Nat->Prop)(w:World)(sb:Nat)(m s:Mc):Prop:=∃A C t0 t1 t2 K,StAt X w sb m s A C t0 t1 t2 K

section
variable {X Y : Nat -> Prop} {w w' : World} {sb : Nat} {m s : Mc} {A : Option Addr} {C : Nat} {t0 t1 t2 : TR} {K : Value}

theorem StAt.at(h:StAt X w sb m s A C t0 t1 t2 K):dR w A C m.ss t0 t1 t2:=h.aw.at h.kb

theorem StAt.keep(h:StAt X w sb m s A C t0 t1 t2 K)(hk:fG X w w')(hb:w'.heap[sb]? =w.heap[sb]?):StAt X w' sb m s A C t0 t1 t2 K:=
 ⟨h.box.of_block hb,h.aw.keep hk,h.kb,h.kp.keep hk⟩

theorem StAt.next(h:StAt X w sb m s A C t0 t1 t2 K)(hb:Below w.heap.size w w'):StAt X w' sb m s A C t0 t1 t2 K:=
 h.keep (.of_below hb) (hb.block _ h.box.lt)

theorem StAt.more(h:StAt X w sb m s A C t0 t1 t2 K)(hY:∀k,Y k->X k\/w.heap.size<=k):StAt Y w sb m s A C t0 t1 t2 K:=
 ⟨h.box,h.aw.more hY,h.kb,h.kp.more hY⟩

theorem StX.next(h:StX X w sb m s)(hb:Below w.heap.size w w'):StX X w' sb m s:=by
 obtain⟨A,C,t0,t1,t2,K,h⟩:=h;exact⟨A,C,t0,t1,t2,K,h.next hb⟩

theorem StX.keep(h:StX X w sb m s)(hk:fG X w w')(hb:w'.heap[sb]? =w.heap[sb]?):StX X w' sb m s:=by
 obtain⟨A,C,t0,t1,t2,K,h⟩:=h;exact⟨A,C,t0,t1,t2,K,h.keep hk hb⟩

theorem StX.more(h:StX X w sb m s)(hY:∀k,Y k->X k\/w.heap.size<=k):StX Y w sb m s:=by
 obtain⟨A,C,t0,t1,t2,K,h⟩:=h;exact⟨A,C,t0,t1,t2,K,h.more hY⟩

theorem q1w(w:World)(b:Nat)(x0 x1 x2 x3 x4 x5 x6 x7:Value):(set8 w b x0 x1 x2 x3 x4 x5 x6 x7).heap.size=w.heap.size:=by simp[set8]

end

structure AnV where
 a:An
 A:Option Addr
 C:Nat

def AnV.vals(v:AnV):List Value:=[.int .i64 v.a.c,.int .i64 v.a.r.c,.int .i64 v.a.r.s,.int .i64 v.a.r.lo,.int .i64 v.a.r.hi,.int .i64 v.a.r.t,.int .i64 v.a.r.l,.slice v.A v.a.R.length v.C]
def fV:List AnV->List Value
 |[]=>[]
 |x::r=>x.vals++fV r

theorem zD:∀xs:List AnV,(fV xs).length=xs.length*8
 |[]=>rfl
 |x::r=>by simp[fV,AnV.vals,zD r];omega

theorem q0z:∀xs ys:List AnV,fV (xs++ys)=fV xs++fV ys
 |[],_=>rfl
 |x::r,ys=>by simp[fV,q0z r ys]

theorem qe9(xs:List AnV):∀u∈fV xs,u.oneCell'=true:=by
 induction xs with
 |nil=>simp[fV]
 |cons x r ih=>
  intro u hu;simp only[fV,AnV.vals,List.cons_append,List.nil_append,List.mem_cons] at hu;rcases hu with h|h|h|h|h|h|h|h|h
  all_goals first|(subst h;rfl)|exact ih u h

theorem qfl(xs:List AnV)(k j:Nat)(hk:k<xs.length)(hj:j<8):(fV xs)[k*8+j]? =(xs[k]).vals[j]? :=by
 induction xs generalizing k with
 |nil=>simp at hk
 |cons x r ih=>
  cases k with
  |zero=>simp only[fV];rw[List.getElem?_append_left (by simp[AnV.vals];omega)];simp
  |succ k=>
   simp only[fV];rw[List.getElem?_append_right (by simp[AnV.vals];omega)]
   have:=ih k (by simpa using hk)
   simp only[AnV.vals,List.length_cons,List.length_nil] at *;rw[show(k+1)*8+j-(0+1+1+1+1+1+1+1+1)=k*8+j by omega]
   simpa using this

structure AvAt(w:World)(b o:Nat)(x:AnV):Prop where
 c0:w.cell? ⟨b,o,none⟩=some (.int .i64 x.a.c)
 c1:w.cell? ⟨b,o+1,none⟩=some (.int .i64 x.a.r.c)
 c2:w.cell? ⟨b,o+2,none⟩=some (.int .i64 x.a.r.s)
 c3:w.cell? ⟨b,o+3,none⟩=some (.int .i64 x.a.r.lo)
 c4:w.cell? ⟨b,o+4,none⟩=some (.int .i64 x.a.r.hi)
 c5:w.cell? ⟨b,o+5,none⟩=some (.int .i64 x.a.r.t)
 c6:w.cell? ⟨b,o+6,none⟩=some (.int .i64 x.a.r.l)
 c7:w.cell? ⟨b,o+7,none⟩=some (.slice x.A x.a.R.length x.C)

theorem aH.av8{B:Nat}{w:World}{A:Option Addr}{xs:List AnV}(h:aH B w A (fV xs)){k:Nat}(hk:k<xs.length):
  ∃b o,A=some ⟨b,o,none⟩/\b<B/\AvAt w b (o+k*8) xs[k]:=by
 rcases h with h|⟨b,o,hA,hlt,hc⟩
 ·have:=zD xs;rw[h] at this;simp at this;omega
 ·refine⟨b,o,hA,hlt,?_⟩
  have g:∀j,j<8->∀u,(xs[k]).vals[j]? =some u->w.cell? ⟨b,o+k*8+j,none⟩=some u:=fun j hj u hu=>by
   have:=hc (k*8+j) u (by rw[qfl xs k j hk hj];exact hu)
   rwa [<-Nat.add_assoc] at this
  exact⟨g 0 (by decide) _ rfl,g 1 (by decide) _ rfl,g 2 (by decide) _ rfl,g 3 (by decide) _ rfl,g 4 (by decide) _ rfl,g 5 (by decide) _ rfl,g 6 (by decide) _ rfl,g 7 (by decide) _ rfl⟩

def qrl(X:Nat->Prop)(w:World)(vs:List AnV):Prop:=∀v∈vs,v.a.R.length<=500/\RowX X w v.A (aB v.a.R)

end
section
open Go.RowKit Plain Go.Shelf

def Few4(ss:List ByteArray):Prop:=∀s∈ss,∃i,s=nmS i

theorem qa0{ss:List ByteArray}(h:gJ ss=true):ss.Nodup:=by
 unfold gJ at h;rw[List.all_eq_true] at h;refine List.pairwise_iff_getElem.2 fun i j hi hj hij e=>?_
 have k:=h j (by simpa using hj)
 unfold okN at k;rw[pO hj,Bool.and_eq_true] at k;have k2:=k.2;rw[Bool.not_eq_true'] at k2;have:Lib.containsS (ss.take j) ss[j]=true:=(Lib.containsS_iff _ _).2 (List.mem_take_iff_getElem.2 ⟨i,by omega,e⟩)
 rw[this] at k2;cases k2

theorem qnh(i:Int):nmS i∈[nmS 0,nmS 1,nmS 2,nmS 3]:=by
 by_cases h0:i=0
 ·subst h0;simp
 ·by_cases h1:i=1
  ·subst h1;simp
  ·by_cases h2:i=2
   ·subst h2;simp
   ·have e:nmS i=nmS 3:=by
     unfold nmS;rw[if_neg h0,if_neg h1,if_neg h2]
     rfl
    rw[e];simp

theorem qit{ss:List ByteArray}(h:gJ ss=true)(hf:Few4 ss):ss.length<=4:=by
 have:=nK ss [nmS 0,nmS 1,nmS 2,nmS 3] (qa0 h) (fun s hs=>by
  obtain⟨i,rfl⟩:=hf s hs;exact qnh i)
 simpa using this

theorem q5o{ss:List ByteArray}(h:Few4 ss)(i:Int):Few4 (bH ss (nmS i)):=by
 unfold bH
 split
 ·intro s hs;rcases List.mem_append.1 hs with hs|hs
  ·exact h s hs
  ·exact⟨i,by simpa using hs⟩
 ·exact h

section
variable {w wr w' : World} {bb : Nat} {A : Option Addr} {C : Nat} {ss : List ByteArray} {t0 t1 t2 : TR} {pts : List Pt}

end

theorem q5g(w:World)(o o':Obj):Below w.heap.size w ((w.alloc o).alloc o'):=((Below.refl _ _).alloc (Nat.le_refl _) _).alloc (by simp) _

end
section
open Go.RowKit Plain Go.Shelf

theorem qk2(l:List En):tot (l.map rowE)=tot l:=by
 unfold tot;rw[List.foldl_map]
 rfl

theorem q9k(i:Int)(y:En):selB i 0 1048575 y=decide (y.key/1048576=i):=by
 unfold selB kp kt;rw[Bool.eq_iff_iff];simp only[Bool.and_eq_true,decide_eq_true_eq];omega

theorem q4r{ss:List ByteArray}{f sz i:Int}{x:ByteArray}{pts:List Pt}{M:List En}(hs:sz=1\/sz=60\/sz=3600)(hpt:∀p∈pts,p.s∈ss/\p.ok f)(hx:Lib.idxOfS ss x=i)(hi:0<=i)(hM:allL (pts.map (ptBk ss sz))=some M)(hn:pts.length<=100000):
  tot ((M.filter (selB i 0 1048575)).map rowE)=(sumR (iH x 0 1048575 pts),0):=by
 rw[qk2]
 have hg:∀y∈pts.map (ptBk ss sz),Good y.ru:=fun y hy=>by
  obtain⟨p,hp,rfl⟩:=List.mem_map.1 hy;exact wJ (hpt p hp).2
 obtain⟨_,hgM,_⟩:=tH _ [] M (by simp) (by simp) hg hM
 have hfil:M.filter (selB i 0 1048575)=M.filter (fun y=>decide (y.key/1048576=i)):=List.filter_congr fun y _=>q9k i y
 rw[hfil];have h1:=pF (P:=fun k=>decide (k/1048576=i)) (pts.map (ptBk ss sz)) [] M (by simp) hM
 have e:((pts.map (ptBk ss sz)).filter fun z=>decide (z.key/1048576=i))=(iH x 0 1048575 pts).map (ptBk ss sz):=by
  rw[List.filter_map];congr 1;refine List.filter_congr fun p hp=>?_
  have h0:=(hpt p hp).2.t0;have h3:=(hpt p hp).2.t1;obtain⟨k,hk,ek,hd⟩:=qG (hpt p hp).1
  have e1:(ptBk ss sz p).key/1048576=k:=by
   show(Lib.idxOfS ss p.s*1048576+p.t-(Lib.idxOfS ss p.s*1048576+p.t)%1048576%sz)/1048576=k;rw[ek,show((k:Int)*1048576+p.t)%1048576=p.t by omega]
   rcases hs with rfl|rfl|rfl<;>omega
  show decide ((ptBk ss sz p).key/1048576=i)=inPt x 0 1048575 p;rw[e1];have:=qlx (a:=0) (b:=1048575) (hpt p hp).1 hx hi (hpt p hp).2;rw[<-this];unfold selK keyB
  have k1:(ptIn ss p).key/1048576=k:=by
   show(Lib.idxOfS ss p.s*1048576+p.t)/1048576=k;rw[ek];omega
  rw[k1,Bool.eq_iff_iff];simp only[Bool.and_eq_true,decide_eq_true_eq];omega
 rw[e] at h1;have hsub:∀p∈iH x 0 1048575 pts,p∈pts:=fun p hp=>(List.mem_filter.1 hp).1
 have hl:(iH x 0 1048575 pts).length<=pts.length:=List.length_filter_le _ _
 have hg1:∀y∈(iH x 0 1048575 pts).map (ptBk ss sz),Good y.ru:=fun y hy=>by
  obtain⟨p,hp,rfl⟩:=List.mem_map.1 hy;exact wJ (hpt p (hsub p hp)).2
 have h2:=qmq hg1 h1;rw[<-(qeu ss (fun p hp=>⟨f,(hpt p (hsub p hp)).2⟩) (by omega)).1,<-qp2 ss sz]
 exact(qgp hg1 (fun y hy=>hgM y (List.mem_filter.1 hy).1) h2).symm

structure MOk(m:Mc):Prop where
 few:Few4 m.ss
 nms:gJ m.ss=true
 f:m.f=0\/m.f=3600\/m.f=7200
 pt:∀p∈m.pts,p.s∈m.ss/\p.ok m.f

theorem mok0:MOk mc0:=⟨fun s h=>by simp[mc0] at h,rfl,.inl rfl,fun p h=>by simp[mc0] at h⟩

theorem qkj{m:Mc}(h:MOk m)(i:Int):(bH m.ss (nmS i)).length<=16:=by
 have:=qit (zT h.nms (q4i i)) (q5o h.few i);omega

theorem qf3{m:Mc}(h:MOk m){i t v:Int}(ht:0<=t/\t<=11999)(hv: -1000000<=v/\v<=1000000):
  putM m (nmS i) t v=if t<m.f then(m,8) else(⟨bH m.ss (nmS i),m.f,m.pts++[⟨nmS i,t,v⟩]⟩,0):=by
 have hl:=qkj h i
 have ho:ofOk t v=true:=by
  unfold ofOk;simp only[Bool.and_eq_true];exact⟨(gI _ _ _).2 ⟨ht.1,by omega⟩,(gI _ _ _).2 hv⟩
 have hc:ptC (nmS i) t v m.f=if t<m.f then 8 else 0:=by
  unfold ptC;rw[if_pos (q4i i),if_pos ho]
 unfold putM;rw[hc]
 by_cases hlt:t<m.f
 ·simp only[hlt,if_true]
  rfl
 ·simp only[hlt,if_false,if_true];rw[if_neg (by omega)]

theorem qqa(m:Mc){t:Int}(ht:t=0\/t=3600\/t=7200):expM m t=if t<m.f then(m,8) else(⟨m.ss,t,sF t m.pts⟩,0):=by
 have hc:iO m.f t=if t<m.f then 8 else 0:=by
  unfold iO;rw[if_pos ((gI _ _ _).2 ⟨by omega,by omega⟩),if_pos (by omega)]
 unfold expM;rw[hc]
 by_cases hlt:t<m.f
 ·simp only[hlt,if_true]
  rfl
 ·simp only[hlt,if_false,if_true]

theorem MOk.put{m:Mc}(h:MOk m){i t v:Int}(ht:0<=t/\t<=11999)(hv: -1000000<=v/\v<=1000000):MOk (putM m (nmS i) t v).1:=by
 rw[qf3 h ht hv]
 by_cases hlt:t<m.f
 ·rw[if_pos hlt];exact h
 ·rw[if_neg hlt];refine⟨q5o h.few i,zT h.nms (q4i i),h.f,fun p hp=>?_⟩
  rcases List.mem_append.1 hp with hp|hp
  ·exact⟨qb4 (h.pt p hp).1,(h.pt p hp).2⟩
  ·obtain rfl:p=⟨nmS i,t,v⟩:=by simpa using hp
   exact⟨q4x _ _,ht.1,by show t<=1048575;omega,hv.1,hv.2,by show m.f<=t;omega⟩

theorem MOk.exp{m:Mc}(h:MOk m){t:Int}(ht:t=0\/t=3600\/t=7200):MOk (expM m t).1:=by
 rw[qqa m ht]
 by_cases hlt:t<m.f
 ·rw[if_pos hlt];exact h
 ·rw[if_neg hlt];refine⟨h.few,h.nms,ht,fun p hp=>?_⟩
  obtain⟨hp,hpt⟩:=List.mem_filter.1 hp;obtain⟨h1,h2⟩:=h.pt p hp;exact⟨h1,h2.t0,h2.t1,h2.v0,h2.v1,of_decide_eq_true hpt⟩

theorem MOk.act{m s:Mc}{a:Ac}(hm:MOk m)(hs:MOk s)(ha:AcOk a):MOk (actM m s a).1/\MOk (actM m s a).2.1:=by
 unfold actM
 by_cases h1:a.k=1
 ·rw[if_pos h1];obtain⟨i,hi⟩:=ha.nm (by omega)
  obtain⟨q1,q2,q3,q4⟩:=ha.put h1;rw[hi];exact⟨hm.put ⟨q1,q2⟩ ⟨q3,q4⟩,hs⟩
 ·rw[if_neg h1]
  by_cases h2:a.k=2
  ·rw[if_pos h2];exact⟨hm,hs⟩
  ·rw[if_neg h2]
   by_cases h3:a.k=3
   ·rw[if_pos h3];exact⟨hm,hs⟩
   ·rw[if_neg h3]
    by_cases h4:a.k=4
    ·rw[if_pos h4];exact⟨hm.exp (ha.exp h4),hs⟩
    ·rw[if_neg h4]
     by_cases h5:a.k=5
     ·rw[if_pos h5];exact⟨hm,hm⟩
     ·rw[if_neg h5]
      split
      ·exact⟨hs,hs⟩
      ·exact⟨hm,hs⟩

theorem MOk.run:∀(l:List Ac) {m s:Mc},MOk m->MOk s->(∀a∈l,AcOk a)->MOk (runM m s l).1/\MOk (runM m s l).2.1
 |[],_,_,hm,hs,_=>⟨hm,hs⟩
 |a::l,m,s,hm,hs,ha=>by
  obtain⟨h1,h2⟩:=hm.act hs (ha a List.mem_cons_self);simp only[runM];exact MOk.run l h1 h2 fun x hx=>ha x (List.mem_cons_of_mem _ hx)

end
end Go.Proofs.YtlojfgdpmaigmagGreatDoor

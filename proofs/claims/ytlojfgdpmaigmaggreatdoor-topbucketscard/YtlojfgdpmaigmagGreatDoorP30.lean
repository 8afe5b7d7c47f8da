/- The parts of a node, one by one. -/
import Derived.Test.YtlojfgdpmaigmagGreatDoorP24
import Derived.Test.YtlojfgdpmaigmagGreatDoorP29
import Derived.Test.YtlojfgdpmaigmagGreatDoorP12
namespace Go.Proofs.YtlojfgdpmaigmagGreatDoor
section
open Go.RowKit Plain

def pc(x:Nd)(s q i:Nat):Nd:=fJ x (beg s q i) (beg s q (i+1))
def pcs(x:Nd)(s q:Nat):Nat->Nat->List Nd
 |_,0=>[]
 |i,k+1=>pc x s q i::pcs x s q (i+1) k
def sbs(x:Nd)(s q:Nat):Nat->Nat->Nat->List (Int × Int)
 |_,_,0=>[]
 |N,i,k+1=>(iP x (beg s q i),(N:Int))::sbs x s q (N+1) (i+1) k

theorem qca(x:Nd)(s q:Nat):∀(k i:Nat),pcs x s q i (k+1)=pcs x s q i k++[pc x s q (i+k)]
 |0,i=>rfl
 |k+1,i=>by
  rw[pcs,qca x s q k (i+1),pcs,show i+1+k=i+(k+1) by omega]
  rfl
theorem qaf(x:Nd)(s q:Nat):∀(k N i:Nat),sbs x s q N i (k+1)=sbs x s q N i k++[(iP x (beg s q (i+k)),((N+k:Nat):Int))]
 |0,N,i=>rfl
 |k+1,N,i=>by
  rw[sbs,qaf x s q k (N+1) (i+1),sbs,show i+1+k=i+(k+1) by omega,show N+1+k=N+(k+1) by omega]
  rfl
theorem q3z(x:Nd)(s q:Nat):∀(k i:Nat),(pcs x s q i k).length=k
 |0,_=>rfl
 |k+1,i=>by simp[pcs,q3z x s q k (i+1)]
theorem q2r(x:Nd)(s q:Nat):∀(k N i:Nat),(sbs x s q N i k).length=k
 |0,_,_=>rfl
 |k+1,N,i=>by simp[sbs,q2r x s q k (N+1) (i+1)]

theorem q3m(x:Nd)(s q:Nat):∀(k i:Nat),dV x (beg s q i) (lM s q i k)=pcs x s q i k
 |0,_=>rfl
 |k+1,i=>by rw[lM,dV,q3m x s q k (i+1)];rfl
theorem q6l(x:Nd)(s q:Nat):∀(k i N:Nat),(jE x (lM s q i (k+1))).zip (aS N k)=sbs x s q N (i+1) k
 |0,i,N=>rfl
 |k+1,i,N=>by
  rw[lM,lM,jE,aS,List.zip_cons_cons,sbs];have:=q6l x s q k (i+1) (N+1);rw[lM] at this;rw[this]

theorem qev{ns:List Nd}{p:Int}{x:Nd}(hx:nth ns p=x)(hs:¬aZ x<=bP x)(hm:1<=bP x):
  aQ ns p=(ns.set p.toNat (pc x (aZ x) (aN x) 0)++pcs x (aZ x) (aN x) 1 (aN x-1),sbs x (aZ x) (aN x) ns.length 1 (aN x-1)):=by
 have hq:1<=aN x:=by
  unfold aN;exact(Nat.le_div_iff_mul_le (by omega)).2 (by omega)
 unfold aQ;rw[hx,if_neg hs];obtain⟨k,hk⟩:∃k,aN x=k+1:=⟨aN x-1,by omega⟩
 have e1:dV x 0 (eH x)=pcs x (aZ x) (aN x) 0 (aN x):=by
  have:=q3m x (aZ x) (aN x) (aN x) 0;rw[qA _ _ hq] at this;exact this
 have e2:(jE x (eH x)).zip (aS ns.length (aN x-1))=sbs x (aZ x) (aN x) ns.length 1 (aN x-1):=by
  have:=q6l x (aZ x) (aN x) (aN x-1) 0 ns.length;rw[show aN x-1+1=aN x by omega] at this
  exact this
 rw[e1,e2];clear e1 e2 hq;generalize aN x=q at hk ⊢;subst hk
 rfl

set_option maxHeartbeats 400000 in
theorem qgy(s q i b1 b2:Nat)(w:World)(c1:w.cell? ⟨b1,0,none⟩=some (.int .i64 (s:Int)))(c2:w.cell? ⟨b2,0,none⟩=some (.int .i64 (q:Int)))(hq:1<=q)(hq':q<=1000000)(hs:s<=1000000)(hi:i<=1000000):
  Calls Tryz.prog 172 #[.int .i64 (i:Int),.pointer (some ⟨b1,0,none⟩),.pointer (some ⟨b2,0,none⟩)] w fun e w'=>e=.returned (.int .i64 (beg s q i:Int))/\w'=w:=by
 have hm:s*i<=1000000000000:=Nat.le_trans (Nat.mul_le_mul hs hi) (by decide)
 have hc:((s*i:Nat):Int)=(s:Int)*(i:Int):=Int.natCast_mul s i;have hb1:(0:Int)<=(s:Int)*(i:Int):=Int.mul_nonneg (by omega) (by omega)
 have hb2:(s:Int)*(i:Int)<=1000000000000:=by omega
 have E:Hid (((s:Int)*(i:Int)+(q:Int)-1)/(q:Int)=(beg s q i:Int)):=by
  show _=_;unfold beg;have e:(s:Int)*(i:Int)+(q:Int)-1=((s*i+q-1:Nat):Int):=by omega
  rw[e];exact(Int.natCast_ediv _ _).symm
 clear hm hc
 go_enter Tryz.func172,Tryz.ntmps172
 go_wp2;go_ret;exact⟨iM E.out,rfl⟩

def uO(x:Nd)(a b:Nat):Prop:=
 (x.leaf=true/\a<b/\b<=x.ents.length)\/(x.leaf=false/\x.keys.length+1=x.kids.length/\a+2<=b/\b<=x.kids.length/\x.buf.Pairwise (fun x y=>x.key<y.key)/\bV x a<=bV x b)

theorem q4e(x:Nd)(k:Nat):bV x k<=x.buf.length:=by
 unfold bV
 split
 ·omega
 ·split
  ·omega
  ·exact rD _ _

theorem xA{w:World}{base:Nat}{e:TypeId}{size n C:Nat}{A:Option Addr}{vs:List Value}(h:w.ownsRow base e size (.slice A n C) n vs):n<=C/\(A=none/\C=0/\n=0\/∃g,A=some ⟨g,0,none⟩):=by
 rcases h.2 with⟨hv,hn⟩|⟨g,cap,cur,hv,hb,hg,hl,_⟩
 ·cases hv;exact⟨by omega,.inl ⟨rfl,rfl,hn⟩⟩
 ·simp only[Value.slice.injEq] at hv;obtain⟨rfl,-,rfl⟩:=hv;exact⟨hl,.inr ⟨g,rfl⟩⟩

theorem qjx(base:Nat)(p:PN)(a b:Nat)(w:World)(hp:p.own base w)(h:uO p.nd a b):
  Calls Tryz.prog 173 #[.agg #[.bool p.leaf,.slice p.eA p.ents.length p.eC,.slice p.kA p.keys.length p.kC,.slice p.dA p.kids.length p.dC,.slice p.bA p.buf.length p.bC],.int .i64 (a:Int),.int .i64 (b:Int)] w
   fun e w'=>∃q:PN,e=.returned (.agg #[.bool q.leaf,.slice q.eA q.ents.length q.eC,.slice q.kA q.keys.length q.kC,.slice q.dA q.kids.length q.dC,.slice q.bA q.buf.length q.bC])/\q.nd=fJ p.nd a b/\q.own w.heap.size w'/\q.blocks.Nodup/\Below w.heap.size w w':=by
 have hok:=hp.ok;obtain⟨leaf,eA,eC,ents,kA,kC,keys,dA,dC,kids,bA,bC,buf⟩:=p;obtain⟨oe,okk,od,ob,ez,kz,dz,bz⟩:=hp;simp only[PN.nd] at *;rcases h with⟨hl,h1,h2⟩|⟨hl,h1,h2,h3,h4,h5⟩
 ·simp only at hl h2;subst hl;refine(qhc eA eC ents kA kC keys dA dC kids bA bC buf a b w hok.e (xA oe).1 ez h1 h2).mono ?_;rintro e w' ⟨A1,C1,rfl,o1,hb⟩;have hlen:((ents.drop a).take (b-a)).length=b-a:=by simp;omega
  refine⟨⟨true,A1,C1,(ents.drop a).take (b-a),none,0,[],none,0,[],none,0,[]⟩,?_,?_,⟨rH hlen o1,World.ownsRow_nil _ _ _ _,World.ownsRow_nil _ _ _ _,World.ownsRow_nil _ _ _ _,?_,by simp,by simp,by simp⟩,?_,hb⟩
  ·simp only[hlen];rfl
  ·simp[fJ]
  ·show((ents.drop a).take (b-a)).length*56<=_;omega
  ·unfold PN.blocks;cases A1<;>simp
 ·simp only at hl h1 h2 h3 h4 h5;subst hl;obtain⟨k1,k2⟩:=xA okk;obtain⟨d1,d2⟩:=xA od;obtain⟨b1,b2⟩:=xA ob;obtain⟨kg,rfl⟩:∃g,kA=some ⟨g,0,none⟩:=by rcases k2 with⟨_,_,k2⟩|k2;omega;exact k2
  obtain⟨dg,rfl⟩:∃g,dA=some ⟨g,0,none⟩:=by rcases d2 with⟨_,_,d2⟩|d2;omega;exact d2
  have w2:bV ⟨false,ents,keys,kids,buf⟩ b<=buf.length:=q4e ⟨false,ents,keys,kids,buf⟩ b
  have fin:∀(c r1 r2:Nat) (e:Ending) (w':World),b=c+1->bV ⟨false,ents,keys,kids,buf⟩ a=r1->bV ⟨false,ents,keys,kids,buf⟩ b=r2->(∃A1 C1 A2 C2 A3 C3,e=.returned (.agg #[.bool false,.slice none 0 0,.slice A1 (c-a) C1,.slice A2 (b-a) C2,.slice A3 (r2-r1) C3])/\
    PN.own w.heap.size w' ⟨false,none,0,[],A1,C1,(keys.drop a).take (c-a),A2,C2,(kids.drop a).take (b-a),A3,C3,(buf.drop r1).take (r2-r1)⟩/\(PN.mk false none 0 [] A1 C1 ((keys.drop a).take (c-a)) A2 C2 ((kids.drop a).take (b-a)) A3 C3 ((buf.drop r1).take (r2-r1))).blocks.Nodup/\Below w.heap.size w w')->
    ∃q:PN,e=.returned (.agg #[.bool q.leaf,.slice q.eA q.ents.length q.eC,.slice q.kA q.keys.length q.kC,.slice q.dA q.kids.length q.dC,.slice q.bA q.buf.length q.bC])/\q.nd=fJ ⟨false,ents,keys,kids,buf⟩ a b/\q.own w.heap.size w'/\q.blocks.Nodup/\Below w.heap.size w w':=by
   rintro c r1 r2 e w' hc hr1 hr2 ⟨A1,C1,A2,C2,A3,C3,rfl,ho,hn,hb⟩;refine⟨_,?_,?_,ho,hn,hb⟩
   ·have l1:((keys.drop a).take (c-a)).length=c-a:=by simp;omega
    have l2:((kids.drop a).take (b-a)).length=b-a:=by simp;omega
    have l3:((buf.drop r1).take (r2-r1)).length=r2-r1:=by simp;omega
    simp only[l1,l2,l3]
    rfl
   ·simp only[PN.nd,fJ,Bool.false_eq_true,if_false,hr1,hr2];rw[show b-1-a=c-a by omega]
  rcases b2 with⟨rfl,rfl,b2⟩|⟨fg,rfl⟩
  ·obtain rfl:buf=[]:=List.eq_nil_of_length_eq_zero b2;have z0:∀k,bV ⟨false,ents,keys,kids,[]⟩ k=0:=fun k=>by have:bV ⟨false,ents,keys,kids,[]⟩ k<=0:=q4e ⟨false,ents,keys,kids,[]⟩ k;omega
   refine(q1y eA eC ents kg 0 kC keys dg 0 dC kids a b (b-1) w hok.k hok.d k1 d1 kz dz h1 (show b=b-1+1 by omega) (by omega) (by omega) h3 (z0 a) (z0 b)).mono ?_
   intro e w' hq;refine fin (b-1) 0 0 e w' (by omega) (z0 a) (z0 b) ?_
   simpa using hq
  ·refine(q1u eA eC ents kg 0 kC keys dg 0 dC kids fg 0 bC buf a b (b-1) _ _ w hok.k hok.d hok.b k1 d1 b1 kz dz bz h1 (show b=b-1+1 by omega) (by omega) (by omega) h3 h4 rfl rfl h5 w2).mono ?_
   intro e w' hq;exact fin (b-1) _ _ e w' (by omega) rfl rfl hq

def oJ(x:Nd):Prop:=
 aZ x<=1000000/\(bP x<aZ x->∀i,i<aN x->uO x (beg (aZ x) (aN x) i) (beg (aZ x) (aN x) (i+1))/\(1<=i->(x.leaf=true->beg (aZ x) (aN x) i<x.ents.length)/\(x.leaf=false->0<beg (aZ x) (aN x) i/\beg (aZ x) (aN x) i<=x.keys.length)))

structure SpAt(w w0:World)(p:PN)(s q:Nat):Prop where
 bel:Below w.heap.size w w0
 whole:RowL w0 w.heap.size 138 p.vals
 size:RowL w0 (w.heap.size+1) 3 [.int .i64 (s:Int)]
 parts:RowL w0 (w.heap.size+2) 3 [.int .i64 (q:Int)]

theorem rF(s q i b1 b2:Nat)(z:Int)(w:World)(hz:Hid (z=(i:Int)))(c1:w.cell? ⟨b1,0,none⟩=some (.int .i64 (s:Int)))(c2:w.cell? ⟨b2,0,none⟩=some (.int .i64 (q:Int)))(hq:1<=q)(hq':q<=1000000)(hs:s<=1000000)(hi:i<=1000000)(r:Nat)(hr:Hid (beg s q i=r)):
  Calls Tryz.prog 172 #[.int .i64 z,.pointer (some ⟨b1,0,none⟩),.pointer (some ⟨b2,0,none⟩)] w fun e w'=>e=.returned (.int .i64 (r:Int))/\w'=w:=by
 have e:z=(i:Int):=hz.out;subst e;have e2:beg s q i=r:=hr.out;subst e2;exact qgy s q i b1 b2 w c1 c2 hq hq' hs hi

theorem yJ(base:Nat)(p:PN)(a b:Nat)(za zb:Int)(w:World)(ha:Hid (za=(a:Int)))(hb:Hid (zb=(b:Int)))(hp:p.own base w)(h:uO p.nd a b):
  Calls Tryz.prog 173 #[.agg #[.bool p.leaf,.slice p.eA p.ents.length p.eC,.slice p.kA p.keys.length p.kC,.slice p.dA p.kids.length p.dC,.slice p.bA p.buf.length p.bC],.int .i64 za,.int .i64 zb] w
   fun e w'=>∃q:PN,e=.returned (.agg #[.bool q.leaf,.slice q.eA q.ents.length q.eC,.slice q.kA q.keys.length q.kC,.slice q.dA q.kids.length q.dC,.slice q.bA q.buf.length q.bC])/\q.nd=fJ p.nd a b/\q.own w.heap.size w'/\q.blocks.Nodup/\Below w.heap.size w w':=by
 have e1:za=(a:Int):=ha.out;have e2:zb=(b:Int):=hb.out;subst e1 e2;exact qjx base p a b w hp h

theorem qma(w:World)(p:PN)(s q:Nat)(zq:Int)(hq:zq=(q:Int)):SpAt w (((w.alloc (.cells #[.bool p.leaf,.slice p.eA p.ents.length p.eC,.slice p.kA p.keys.length p.kC,.slice p.dA p.kids.length p.dC,.slice p.bA p.buf.length p.bC] 138)).alloc (.cells #[.int .i64 (s:Int)] 3)).alloc (.cells #[.int .i64 zq] 3)) p s q:=by
 subst hq;have s1:∀o1:Obj,(w.alloc o1).heap.size=w.heap.size+1:=fun o1=>by simp
 have s2:∀o1 o2:Obj,((w.alloc o1).alloc o2).heap.size=w.heap.size+2:=fun o1 o2=>by simp
 refine⟨((((Below.refl _ _).alloc (Nat.le_refl _) _).alloc (by simp) _).alloc (by simp;omega) _),?_,?_,?_⟩
 ·exact(aG w p.vals 138).of_block ((Below.heap_alloc _ _ _ (by simp;omega)).trans (Below.heap_alloc _ _ _ (by simp)))
 ·have h:=aG (w.alloc (.cells p.vals.toArray 138)) [.int .i64 (s:Int)] 3;rw[s1] at h;exact h.of_block (Below.heap_alloc _ _ _ (by simp))
 ·have h:=aG ((w.alloc (.cells p.vals.toArray 138)).alloc (.cells #[.int .i64 (s:Int)] 3)) [.int .i64 (q:Int)] 3;rw[s2] at h;exact h

theorem TB.below{base tb g C:Nat}{qs:List PN}{root:Int}{w w':World}(h:TB base w tb g C qs root)(hb:Below w.heap.size w w'):TB base w' tb g C qs root:=
 ⟨h.nt.below hb (Nat.le_refl _),h.box.below hb h.box.lt,h.ne,h.hb⟩

structure kJ(base:Nat)(w w0:World)(tb g:Nat)(qs:List PN)(root:Int)(k:Nat)(x:Nd)(s q n:Nat)(wr:World)(vm:Value)(g' C':Nat)(qs':List PN):Prop where
 kept:Kept [tb,g] w0 wr
 tree:TB base wr tb g' C' qs' root
 gl:g'=g\/w0.heap.size<=g'
 more:wr.ownsRow w0.heap.size 227 2 vm n (fZ (sbs x s q qs.length 1 n))
 apart:∀b,vm.ownBlock=some b->b∉tb::feet g' qs'
 nds:qs'.map PN.nd=(qs.map PN.nd).set k (pc x s q 0)++pcs x s q 1 n
 old:∀b∈feet g' qs',b∈feet g qs\/w0.heap.size<=b

theorem PN.own.mono{base base':Nat}{w:World}{q:PN}(h:q.own base' w)(hb:base<=base'):q.own base w:=⟨bQ h.e hb,bQ h.k hb,bQ h.d hb,bQ h.b hb,h.ez,h.kz,h.dz,h.bz⟩

theorem q2y{base tb g C k s q:Nat}{qs:List PN}{root:Int}{w wc w6:World}{q0:PN}{x:Nd}(hT:TB base wc tb g C qs root)(hB:base<=wc.heap.size)(hk:k<qs.length)(hq:1<=q)(hnd:q0.nd=fJ x 0 (beg s q 1))(ho:q0.own wc.heap.size w6)(hnod:q0.blocks.Nodup)(hb:Below wc.heap.size wc w6):
  kJ base w wc tb g qs root k x s q 0 (((((w6.setCell ⟨g,k*5,none⟩ (.bool q0.leaf)).setCell ⟨g,k*5+1,none⟩ (.slice q0.eA q0.ents.length q0.eC)).setCell ⟨g,k*5+2,none⟩ (.slice q0.kA q0.keys.length q0.kC)).setCell ⟨g,k*5+3,none⟩ (.slice q0.dA q0.kids.length q0.dC)).setCell ⟨g,k*5+4,none⟩ (.slice q0.bA q0.buf.length q0.bC)) (.slice none 0 0) g C (qs.set k q0):=by
 have hfl:=hT.nt.lt;have hd:∀b∈q0.blocks,b∉feet g qs:=fun b hb' e=>by have:=(ho.lt b hb').1;have:=(hfl b e).2;omega
 have hf:=qbq hk hT.nt.apart hnod hd;have htg:tb≠g:=fun e=>hT.ne (e▸List.mem_cons_self)
 have htl:=hT.box.lt;refine⟨?_,⟨(hT.nt.below hb (Nat.le_refl _)).setNode hk (ho.mono hB) hnod hd,?_,?_,hT.hb⟩,.inl rfl,World.ownsRow_nil _ _ _ _,(fun b hb=>by cases hb),?_,?_⟩
 ·exact(((((Kept.of_below hb).set (.inl (by simp)) _).set (.inl (by simp)) _).set (.inl (by simp)) _).set (.inl (by simp)) _).set (.inl (by simp)) _
 ·rw[List.length_set];exact(hT.box.below hb htl).of_block (mY w6 g (k*5) _ _ _ _ _ htg)
 ·intro e;rcases hf.2 tb e with e|e
  ·exact hT.ne e
  ·have:=(ho.lt tb e).1;omega
 ·rw[List.map_set,hnd];simp[pcs,pc,qA s q hq]
 ·intro b hb';rcases hf.2 b hb' with e|e
  ·exact .inl e
  ·exact .inr (ho.lt b e).1

theorem qqo:(Tryz.prog.info? 227).map (fun i=>(i.zero,i.size,i.bytes))=some (some (.agg #[.int .i64 0,.int .i64 0]),2,16):=by kernel_rfl

theorem q5m{base:Nat}{w w0:World}{tb g:Nat}{qs:List PN}{root:Int}{k:Nat}{x:Nd}{s q n:Nat}{wr w7 w8:World}{vm:Value}{g' C':Nat}{qs':List PN}(h:kJ base w w0 tb g qs root k x s q n wr vm g' C' qs')(hb:Below wr.heap.size wr w7)(hk:Kept [tb,g'] w7 w8)(o:Obj):
  (w8.alloc o).ownsRow w0.heap.size 227 2 vm n (fZ (sbs x s q qs.length 1 n)):=by
 refine aV h.more fun b hb'=>?_
 have h1:=(h.more.lt b hb').2;have h2:=h.apart b hb'
 have h3:b∉[tb,g']:=by
  intro e;simp only[List.mem_cons,List.not_mem_nil,or_false] at e;rcases e with e|e
  ·exact h2 (e▸List.mem_cons_self)
  ·exact h2 (List.mem_cons_of_mem _ (e▸List.mem_cons_self))
 have h7:=hb.size;have h8:=hk.size;rw[Below.heap_alloc _ _ _ (by omega),hk.block b (by omega) h3,hb.block b h1]

theorem qb9{base:Nat}{w w0:World}{tb g:Nat}{qs:List PN}{root:Int}{k:Nat}{x:Nd}{s q n:Nat}{wr:World}{vm:Value}{g' C':Nat}{qs':List PN}(h:kJ base w w0 tb g qs root k x s q n wr vm g' C' qs'){b:Nat}(hb:b<w0.heap.size):some b≠vm.ownBlock:=fun e=>by
 have:=(h.more.lt b e.symm).1;omega

theorem qr0(w8:World)(a b:Value)(t:TypeId):∀j u,([a,b]:List Value)[j]? =some u->(w8.alloc (.cells #[a,b] t)).cell? (Addr.add ⟨w8.heap.size,0,none⟩ j)=some u:=by
 intro j u hu;have h:=aG w8 [a,b] t;rw[WideShapes.add_plain,Nat.zero_add];exact(h.cell j).trans hu

theorem oneS(a b:Int):∀u∈([.int .i64 a,.int .i64 b]:List Value),u.oneCell'=true:=by
 intro u hu;simp only[List.mem_cons,List.not_mem_nil,or_false] at hu;rcases hu with rfl|rfl<;>rfl

theorem kJ.len{base:Nat}{w w0:World}{tb g:Nat}{qs:List PN}{root:Int}{k:Nat}{x:Nd}{s q n:Nat}{wr:World}{vm:Value}{g' C':Nat}{qs':List PN}(h:kJ base w w0 tb g qs root k x s q n wr vm g' C' qs'):qs'.length=qs.length+n:=by
 have:=congrArg List.length h.nds;simp only[List.length_map,List.length_append,List.length_set,q3z] at this;exact this

theorem q7t{base tb g C k:Nat}{qs:List PN}{root:Int}{w w0 wr:World}{p:PN}(hT:TB base w tb g C qs root)(hk:k<qs.length)(hp:qs[k]=p)(hb:Below w.heap.size w w0)(hkp:Kept [tb,g] w0 wr):p.own base wr:=by
 subst hp;have hm:=List.getElem_mem hk;have ho:=hT.nt.each _ hm;refine ho.of_blocks fun b hbl=>?_
 have h1:=ho.lt b hbl;have h2:b∈qs.flatMap PN.blocks:=List.mem_flatMap.2 ⟨_,hm,hbl⟩
 have h3:b≠g:=by
  rintro rfl;have:=hT.nt.apart;rw[feet,List.nodup_cons] at this;exact this.1 h2
 have h4:b≠tb:=by
  rintro rfl;exact hT.ne (List.mem_cons_of_mem _ h2)
 have h5:=hb.size;rw[hkp.block b (by omega) (by simp;exact⟨h4,h3⟩),hb.block b h1.2]

theorem qpy{a b q m:Nat}(h:b=a+(m-1))(hm:m<q)(hz:(a+q+1)*104<=140737488351232):(b+1)*104<=140737488351232:=Nat.le_trans (Nat.mul_le_mul_right 104 (show b+1<=a+q+1 by omega)) hz
theorem qgh{m q:Nat}(hm:m<=q)(hq:q<=1000000):m-1+1<=maxLen/\(m-1+1)*16<=140737488355328:=by
 have h:m-1+1<=1000001:=by omega
 exact⟨Nat.le_trans h (by decide),Nat.le_trans (Nat.mul_le_mul_right 16 h) (by decide)⟩
theorem qba{w0 wr w7 w8:World}{o:Obj}(h1:w0.heap.size<=wr.heap.size)(h2:wr.heap.size<=w7.heap.size)(h3:w7.heap.size<=w8.heap.size):w0.heap.size<=(w8.alloc o).heap.size:=by simp;omega
theorem qby{b:Nat}{wr w7 w8:World}{o:Obj}(h1:b<wr.heap.size)(h2:wr.heap.size<=w7.heap.size)(h3:w7.heap.size<=w8.heap.size):b<(w8.alloc o).heap.size:=by simp;omega
theorem wR{base tb g C H:Nat}{qs:List PN}{root:Int}{wr w7:World}{q:PN}(hT:TB base wr tb g C qs root)(hH:wr.heap.size<=H)(ho:q.own H w7):(∀b∈q.blocks,b∉feet g qs)/\tb∉q.blocks:=by
 refine⟨fun b hb e=>?_,fun e=>?_⟩
 ·have h1:=(ho.lt b hb).1;have h2:=(hT.nt.lt b e).2;omega
 ·have h1:=(ho.lt tb e).1;have h2:=hT.box.lt;omega

theorem qhr{b x y:Nat}(h1:b≠x)(h2:b≠y):b∉[x,y]:=by simp;exact⟨h1,h2⟩
theorem qlo{b g g' B:Nat}(h:g'=g\/B<=g')(hb:b<B)(hg:¬b=g):b≠g':=by
 rcases h with rfl|h
 ·exact hg
 ·omega

theorem TB.of_blocks{base tb g C:Nat}{qs:List PN}{root:Int}{w w':World}(h:TB base w tb g C qs root)(hk:∀b∈tb::feet g qs,w'.heap[b]? =w.heap[b]?):TB base w' tb g C qs root:=
 ⟨h.nt.of_blocks fun b hb=>hk b (List.mem_cons_of_mem _ hb),h.box.of_block (hk tb List.mem_cons_self),h.ne,h.hb⟩

theorem TB.lt{base tb g C:Nat}{qs:List PN}{root:Int}{w:World}(h:TB base w tb g C qs root):∀b∈tb::feet g qs,b<w.heap.size:=by
 intro b hb;rcases List.mem_cons.1 hb with rfl|hb
 ·exact h.box.lt
 ·exact(h.nt.lt b hb).2

theorem q1t{g g2:Nat}{qs:List PN}{q:PN}{b:Nat}(hb:b∈feet g2 (qs++[q])):b=g2\/b∈feet g qs\/b∈q.blocks:=by
 unfold feet at *;simp only[List.flatMap_append,List.flatMap_cons,List.flatMap_nil,List.append_nil,List.mem_cons,List.mem_append] at *;rcases hb with h|h|h
 ·exact .inl h
 ·exact .inr (.inl (.inr h))
 ·exact .inr (.inr h)

theorem q6e{base:Nat}{w w0:World}{tb g:Nat}{qs:List PN}{root:Int}{k:Nat}{x:Nd}{s q n m:Nat}{wr w7 w8 w9:World}{vm:Value}{g' C' g2 C2 H v cap:Nat}{qs':List PN}{q1:PN}{o:Obj}(h:kJ base w w0 tb g qs root k x s q n wr vm g' C' qs')(hm:m=n+1)(hb7:Below wr.heap.size wr w7)(hH:wr.heap.size<=H)
  (hnd:q1.nd=fJ x (beg s q m) (beg s q (m+1))) (ho:q1.own H w7) (_hnod:q1.blocks.Nodup) (hT8:TB base w8 tb g2 C2 (qs'++[q1]) root) (hk8:Kept [tb,g'] w7 w8) (hg8:g2=g'\/w7.heap.size<=g2)
  (hown:w9.ownsRow w0.heap.size 227 2 (.slice (some ⟨v,0,none⟩) (n+1) cap) (n+1) (fZ (sbs x s q qs.length 1 n)++[.int .i64 (iP x (beg s q m)),.int .i64 (qs'.length:Int)])) (hgrow:(w8.alloc o).grownBy w9 vm.ownBlock) (hat:vm.ownBlock=some v\/v=w8.heap.size+1):
  kJ base w w0 tb g qs root k x s q (m+1-1) w9 (.slice (some ⟨v,0,none⟩) (n+1) cap) g2 C2 (qs'++[q1]):=by
 subst hm;rw[Nat.add_sub_cancel];have s0:=h.kept.size;have s7:=hb7.size;have s8:=hk8.size;have hvb:∀b,vm.ownBlock=some b->w0.heap.size<=b/\b<wr.heap.size:=fun b hb=>h.more.lt b hb
 have hf8:∀b∈tb::feet g2 (qs'++[q1]),some b≠vm.ownBlock:=by
  intro b hb e;have h1:=hvb b e.symm;have h2:=h.apart b e.symm;rcases List.mem_cons.1 hb with rfl|hb
  ·exact h2 List.mem_cons_self
  ·rcases q1t (g:=g') hb with rfl|hb|hb
   ·rcases hg8 with rfl|hg8
    ·exact h2 (List.mem_cons_of_mem _ List.mem_cons_self)
    ·omega
   ·exact h2 (List.mem_cons_of_mem _ hb)
   ·have:=(ho.lt b hb).1;omega
 have hk9:∀b,b<w8.heap.size->some b≠vm.ownBlock->w9.heap[b]? =w8.heap[b]? :=fun b hb hne=>(hgrow.block b (by simp;omega) hne).trans (Below.heap_alloc _ _ _ hb)
 have hs9:=hgrow.size;simp only[World.size_alloc] at hs9;have K9:Kept vm.ownBlock.toList w8 w9:=⟨hgrow.os,hgrow.tape,hgrow.output,by omega,fun b hb hne=>hk9 b hb (fun e=>hne (by simp[<-e]))⟩
 refine⟨?_,hT8.of_blocks fun b hb=>hk9 b (hT8.lt b hb) (hf8 b hb),?_,?_,?_,?_,?_⟩
 ·refine((h.kept.step (Kept.of_below hb7 (ex:=[])) (by simp)).step hk8 ?_).step K9 ?_
  ·intro b hb;simp only[List.mem_cons,List.not_mem_nil,or_false] at hb;rcases hb with rfl|rfl
   ·exact .inl List.mem_cons_self
   ·rcases h.gl with rfl|hg
    ·exact .inl (by simp)
    ·exact .inr hg
  ·intro b hb;right;exact(hvb b (by simpa using hb)).1
 ·rcases hg8 with rfl|hg8
  ·exact h.gl
  ·exact .inr (by omega)
 ·rw[qaf,q1b,show 1+n=n+1 by omega,<-h.len]
  exact hown
 ·intro b hb;have hbv:v=b:=by simpa [Value.ownBlock] using hb
  subst hbv;rcases hat with hat|hat
  ·exact fun e=>hf8 v e hat.symm
  ·intro e;have:=hT8.lt v e;omega
 ·rw[List.map_append,h.nds,qca,List.append_assoc,show 1+n=n+1 by omega]
  simp only[List.map_cons,List.map_nil,hnd]
  rfl
 ·intro b hb;rcases q1t (g:=g') hb with rfl|hb|hb
  ·rcases hg8 with rfl|hg8
   ·exact h.old _ List.mem_cons_self
   ·exact .inr (by omega)
  ·exact h.old b hb
  ·exact .inr (by have:=(ho.lt b hb).1;omega)

set_option maxRecDepth 20000 in
set_option maxHeartbeats 8000000 in
theorem qfn(base tb g C:Nat)(qs:List PN)(root:Int)(k:Nat)(w:World)(hT:TB base w tb g C qs root)(hk:k<qs.length)(hpre:oJ (qs[k]).nd)(hB:base<=w.heap.size)(hz:(qs.length+aN (qs[k]).nd+1)*104<=140737488351232)(hgt:¬aZ (qs[k]).nd<=bP (qs[k]).nd):
  Calls Tryz.prog 146 #[.pointer (some ⟨tb,0,none⟩),.int .i64 (k:Int)] w
   fun e w'=>∃w0 vm g' C' qs',e=.returned vm/\w.heap.size<=w0.heap.size/\Below w.heap.size w w0/\kJ base w w0 tb g qs root k (qs[k]).nd (aZ (qs[k]).nd) (aN (qs[k]).nd) (aN (qs[k]).nd-1) w' vm g' C' qs':=by
 obtain⟨p,hp⟩:∃p,qs[k]=p:=⟨_,rfl⟩;rw[hp] at hpre hz hgt ⊢;have hat:=hT.nt.node hk;have hpo:=hT.nt.each _ (List.getElem_mem hk);rw[hp] at hat hpo;have c0:=hT.box.cell 0;simp only[List.getElem?_cons_zero] at c0;obtain⟨n0,n1,n2,n3,n4⟩:=hat;have i0:(0:Int)<=(k:Int):=by omega
 have i1:(k:Int)<(qs.length:Int):=by omega
 have tlt:=hT.box.lt;have glt:=hT.nt.glt.2;have hq1:=hpre.1;have HT:=aA hT;have HP:=aA hp;have HPRE:=aA hpre;have HO:=aA hpo;clear hT hp hpre hpo;obtain⟨s,hs⟩:∃s,aZ p.nd=s:=⟨_,rfl⟩;obtain⟨q,hq⟩:∃q,aN p.nd=q:=⟨_,rfl⟩;rw[hs] at hq1;have hqm:Hid (q=(s+bP p.nd-1)/bP p.nd/\bP p.nd<s):=⟨by rw[<-hq,<-hs];rfl,by omega⟩
 have HS:=aA hs;have HQ:=aA hq;rw[hs,hq];rw[hq] at hz;clear hs hq hgt;cases hl:p.leaf with
 |true=>
  have hs:Hid (p.ents.length=s):=by show _=_;rw[<-HS.out];simp[aZ,PN.nd,hl]
  have hm:Hid (bP p.nd=6):=by show _=_;simp[bP,PN.nd,hl]
  have hg':¬(p.ents.length:Int)<=6:=by have:=hs.out;have:=hm.out;have:=hqm.out.2;omega
  have hsz:p.ents.length<=1000000:=by have:=hs.out;omega
  have hn0:w.cell? ⟨g,k*5,none⟩=some (.bool true):=by rw[n0,hl]
  go_enter Tryz.func146,Tryz.ntmps146
  go_upto_region 8 with fail
  go_cut [5,6,8,9] (fun v5 v6 v8 v9 wc=>v5=.pointer (some ⟨w.heap.size,0,none⟩)/\v6=.pointer (some ⟨w.heap.size+1,0,none⟩)/\v8=.pointer (some ⟨w.heap.size+2,0,none⟩)/\v9=.func (.func 172) #[] #[.pointer (some ⟨w.heap.size+1,0,none⟩),.pointer (some ⟨w.heap.size+2,0,none⟩)]/\SpAt w wc p s q)
  case first=>
   go_wp2_with fail
   go_meet
   case rel=>
    have:=qma w p s q ((p.ents.length+6-1)/6) (by have h1:=hs.out;have h2:=hqm.out.1;rw[hm.out] at h2;omega)
    rw[hl,<-hs.out] at this;rw[<-hs.out];exact⟨rfl,rfl,rfl,rfl,this⟩
  case rest=>
   obtain⟨rfl,rfl,rfl,rfl,hsp⟩:=hcut;obtain⟨wz,rfl⟩:∃wz,wz=wc:=⟨_,rfl⟩;have w0:=hsp.whole.cell 0;have w1:=hsp.whole.cell 1;have w2:=hsp.whole.cell 2;have w3:=hsp.whole.cell 3;have w4:=hsp.whole.cell 4;have d1:=hsp.size.cell 0;have d2:=hsp.parts.cell 0;simp only[PN.vals,List.getElem?_cons_zero,List.getElem?_cons_succ] at w0 w1 w2 w3 w4 d1 d2;have hws:=hsp.parts.lt;have ct:wz.cell? ⟨tb,0,none⟩=some (.slice (some ⟨g,0,none⟩) qs.length C):=(hsp.bel.cell (p:=⟨tb,0,none⟩) tlt).trans c0;have hNTc:Hid (TB base wz tb g C qs root):=HT.out.below hsp.bel;have hq2:2<=q/\q<=1000000:=by have h1:=hqm.out.1;have h2:=hqm.out.2;rw[hm.out] at h1 h2;omega
   obtain⟨hq2,hq3⟩:=hq2
   have hpp:Hid (∀i,i<q->uO p.nd (beg s q i) (beg s q (i+1))/\(1<=i->(p.nd.leaf=true->beg s q i<p.nd.ents.length)/\(p.nd.leaf=false->0<beg s q i/\beg s q i<=p.nd.keys.length))):=by
    have h:=HPRE.out.2 (by rw[HS.out];exact hqm.out.2)
    rw[HS.out,HQ.out] at h;exact h
   have HOc:Hid (p.own base wz):=(HO.out).of_blocks fun b hb=>hsp.bel.block b (HO.out.lt b hb).2
   have ne1:¬tb=g:=fun e=>HT.out.ne (e▸List.mem_cons_self)
   have ne2:¬w.heap.size=g:=by omega
   have ne3:¬w.heap.size+1=g:=by omega
   have ne4:¬w.heap.size+2=g:=by omega
   have KS:∀(W:World) (b o j:Nat) (v:Value),¬b=g->(W.setCell ⟨g,j,none⟩ v).cell? ⟨b,o,none⟩=W.cell? ⟨b,o,none⟩:=fun W b o j v hb=>World.cell?_setCell_far _ _ _ _ (fun e=>hb e.symm)
   have gc0:wz.cell? ⟨g,k*5,none⟩=some (.bool p.leaf):=(hsp.bel.cell (p:=⟨g,k*5,none⟩) glt).trans n0;have gc1:wz.cell? ⟨g,k*5+1,none⟩=some (.slice p.eA p.ents.length p.eC):=(hsp.bel.cell (p:=⟨g,k*5+1,none⟩) glt).trans n1;have gc2:wz.cell? ⟨g,k*5+2,none⟩=some (.slice p.kA p.keys.length p.kC):=(hsp.bel.cell (p:=⟨g,k*5+2,none⟩) glt).trans n2;have gc3:wz.cell? ⟨g,k*5+3,none⟩=some (.slice p.dA p.kids.length p.dC):=(hsp.bel.cell (p:=⟨g,k*5+3,none⟩) glt).trans n3;have gc4:wz.cell? ⟨g,k*5+4,none⟩=some (.slice p.bA p.buf.length p.bC):=(hsp.bel.cell (p:=⟨g,k*5+4,none⟩) glt).trans n4;have gf:=fun j=>(hsp.bel.frozen (p:=⟨g,j,none⟩) glt).trans (HT.out.nt.free j)
   have glc:g<wz.heap.size:=Nat.lt_of_lt_of_le glt hsp.bel.size;have tlc:tb<wz.heap.size:=Nat.lt_of_lt_of_le tlt hsp.bel.size;have u0:w.heap.size<wz.heap.size:=by omega
   have u1:w.heap.size+1<wz.heap.size:=by omega
   have HSP:=aA hsp;clear hsp n0 n1 n2 n3 n4 hn0 hl hs hm hg' hsz c0;go_upto_region 9 with fail
   go_cut [] (fun wd=>∃q0:PN,kJ base w wz tb g qs root k p.nd s q 0 wd (.slice none 0 0) g C (qs.set k q0))
   case first=>
    go_region_held3 (fun w'=>w'.cell? ⟨tb,0,none⟩=some (.slice (some ⟨g,0,none⟩) qs.length C)/\w'.cell? ⟨w.heap.size,0,none⟩=some (.bool p.leaf)/\w'.cell? ⟨w.heap.size,1,none⟩=some (.slice p.eA p.ents.length p.eC)/\w'.cell? ⟨w.heap.size,2,none⟩=some (.slice p.kA p.keys.length p.kC)/\w'.cell? ⟨w.heap.size,3,none⟩=some (.slice p.dA p.kids.length p.dC)/\w'.cell? ⟨w.heap.size,4,none⟩=some (.slice p.bA p.buf.length p.bC)) (go_keep)
     (first
      |(go_at_call 172;refine(rF s q 1 _ _ 1 _ (show(1:Int)=((1:Nat):Int) from rfl) (by exact d1) (by exact d2) (by omega) hq3 hq1 (by decide) _ (show beg s q 1=beg s q 1 from rfl)).mono ?_;rintro e w5 ⟨rfl,rfl⟩)
      |(go_at_call 173;refine(yJ base p 0 (beg s q 1) 0 (beg s q 1:Int) _ (show(0:Int)=((0:Nat):Int) from rfl) (show(beg s q 1:Int)=(beg s q 1:Int) from rfl) (by exact HOc.out.of_blocks fun _ _=>rfl) ((qA s q (by omega))▸(hpp.out 0 (by omega)).1)).mono ?_;rintro e w6 ⟨q0,rfl,hnd,ho0,hnod,hb6⟩;obtain⟨T6,F6⟩:=aY (hb6.mono (show wz.heap.size<=_ by simp));have Y0:=(T6 g (k*5) glc).trans gc0;have Y1:=(T6 g (k*5+1) glc).trans gc1;have Y2:=(T6 g (k*5+2) glc).trans gc2;have Y3:=(T6 g (k*5+3) glc).trans gc3;have Y4:=(T6 g (k*5+4) glc).trans gc4;have YF:∀j,w6.frozen? ⟨g,j,none⟩=false:=fun j=>(F6 g j glc).trans (gf j);have HH:=aA (And.intro hnd (And.intro ho0 (And.intro hnod hb6)));clear hnd ho0 hnod hb6))
    go_wp2
    go_meet
    case rel=>
     obtain⟨hnd,ho0,hnod,hb6⟩:=HH.out;exact⟨q0,q2y hNTc.out (by omega) hk (by omega) hnd ho0 hnod (aC ((Below.refl _ _).drew) (Nat.le_refl _) hb6)⟩
   case rest=>
    obtain⟨q0,hstart⟩:=hcut;have HST:=aA hstart;have HPL:=aA HO.out;clear hstart gc0 gc1 gc2 gc3 gc4 gf KS w0 w1 w2 w3 w4 d1 d2 ct;go_wp2_with fail
    go_loopw [10,11] (fun vm vi wr=>∃(m g' C':Nat) (qs':List PN),1<=m/\m<=q/\vi=.int .i64 (m:Int)/\kJ base w wz tb g qs root k p.nd s q (m-1) wr vm g' C' qs') (fun _ vi _=>q-(intOf vi).toNat)
    case atStart=>exact⟨1,g,C,_,by omega,by omega,rfl,HST.out⟩
    case round=>
     obtain⟨m,g',C',qs',hm1,hmq,rfl,hla⟩:=hrel;have kb:=fun b (hb:b<wz.heap.size) (h1:b≠tb) (h2:b≠g)=>hla.kept.block b hb (by simp;exact⟨h1,h2⟩)
     have hsp:=HSP.out;have r0:RowL wr w.heap.size 138 p.vals:=hsp.whole.of_block (kb _ u0 (by omega) (by omega))
     have r1:RowL wr (w.heap.size+1) 3 [.int .i64 (s:Int)]:=hsp.size.of_block (kb _ u1 (by omega) (by omega))
     have r2:RowL wr (w.heap.size+2) 3 [.int .i64 (q:Int)]:=hsp.parts.of_block (kb _ hws (by omega) (by omega))
     have w0:=r0.cell 0;have w1:=r0.cell 1;have w2:=r0.cell 2;have w3:=r0.cell 3;have w4:=r0.cell 4;have d1:=r1.cell 0;have d2:=r2.cell 0;simp only[PN.vals,List.getElem?_cons_zero,List.getElem?_cons_succ] at w0 w1 w2 w3 w4 d1 d2
     by_cases hlt:m<q
     ·have x1:(m:Int)<(q:Int):=by omega
      obtain⟨ba,hba⟩:∃ba,beg s q m=ba:=⟨_,rfl⟩;obtain⟨bb,hbb⟩:∃bb,beg s q (m+1)=bb:=⟨_,rfl⟩;have hPP:=hpp.out m hlt;rw[hba,hbb] at hPP;have HPPm:=aA hPP;have HBa:=aA hba;have HBb:=aA hbb;clear hPP hba hbb;go_upto_region 15 with(first|(go_at_call_of 172 (Value.int IntKind.i64 (m:Int));refine(rF s q m _ _ _ _ (show(m:Int)=(m:Int) from rfl) (by exact d1) (by exact d2) (by omega) hq3 hq1 (by omega) ba HBa).mono ?_;rintro e w5 ⟨rfl,h5⟩;subst w5)|(go_at_call 172;refine(rF s q (m+1) _ _ _ _ (show(m:Int)+1=((m+1:Nat):Int) by omega) (by exact d1) (by exact d2) (by omega) hq3 hq1 (by omega) bb HBb).mono ?_;rintro e w5 ⟨rfl,h5⟩;subst w5))
      have hown0:p.own base wr:=q7t HT.out hk HP.out hsp.bel hla.kept;have HOW:=aA hown0;have HLA:=aA hla;have hqs:=hla.len;have hz':(qs'.length+1)*104<=140737488351232:=qpy hqs hlt hz;have HQS:=aA hqs;have hBr:base<=wr.heap.size:=Nat.le_trans hB (Nat.le_trans hsp.bel.size hla.kept.size);have hwr:=hla.kept.size;have tlr:=hla.tree.box.lt;clear hown0 hqs hla kb hsp r0 r1 r2 d1 d2;have u0r:w.heap.size<wr.heap.size:=Nat.lt_of_lt_of_le u0 hwr;have ne5:w.heap.size≠tb:=Nat.ne_of_gt tlt;obtain⟨ml,mz⟩:=qgh hmq hq3;obtain⟨i0,hi0,hz0,hz1,hz2⟩:=info_parts qqo
      go_region_held3 (fun w'=>w'.cell? ⟨w.heap.size,0,none⟩=some (.bool p.leaf)/\w'.cell? ⟨w.heap.size,1,none⟩=some (.slice p.eA p.ents.length p.eC)/\w'.cell? ⟨w.heap.size,2,none⟩=some (.slice p.kA p.keys.length p.kC)/\w'.cell? ⟨w.heap.size,3,none⟩=some (.slice p.dA p.kids.length p.dC)/\w'.cell? ⟨w.heap.size,4,none⟩=some (.slice p.bA p.buf.length p.bC)) (go_keep)
       (first
        |(go_at_call 174;refine(q0q p.leaf p.eA p.eC p.ents p.kA p.kC p.keys p.dA p.dC p.kids p.bA p.bC p.buf ba _ (by exact HOW.out.ok.e) (by exact HOW.out.ok.k) (HPPm.out.2 hm1).1 (HPPm.out.2 hm1).2 HOW.out.kz).mono ?_;rintro e w6 ⟨rfl,hb6⟩;have B6:Below wr.heap.size wr w6:=aC ((Below.refl _ _).drew) (Nat.le_refl _) hb6;have T6:=(aY B6).1;have Z6:=B6.size)
        |(go_at_call 173;refine(yJ base p ba bb (ba:Int) (bb:Int) _ (show(ba:Int)=(ba:Int) from rfl) (show(bb:Int)=(bb:Int) from rfl) (by exact HOW.out.of_blocks fun b hb=>B6.block b (HOW.out.lt b hb).2) HPPm.out.1).mono ?_;rintro e w7 ⟨q1,rfl,hnd,ho1,hnod,hb7⟩;have B7:Below wr.heap.size wr w7:=aC B6 (Nat.le_refl _) hb7;have T7:=(aY B7).1;have Z7:=B7.size;have HH:=aA (And.intro hnd (And.intro ho1 hnod));clear hnd ho1 hnod)
        |(go_at_call 145;refine(q9i base tb g' C' qs' root q1 _ (HLA.out.tree.below B7) (HH.out.2.1.mono (Nat.le_trans hBr Z6)) HH.out.2.2 (wR HLA.out.tree Z6 HH.out.2.1).1 (wR HLA.out.tree Z6 HH.out.2.1).2 hz' (Nat.le_trans hBr Z7)).mono ?_;rintro e w8 ⟨rfl,g2,C2,hT8,hk8,hg8⟩;have hbx:=hk8.cell (b:=w.heap.size) (hb:=Nat.lt_of_lt_of_le u0r Z7) (hx:=qhr ne5 (qlo HLA.out.gl u0 ne2));have HK:=aA (And.intro hT8 (And.intro hk8 hg8));have Z8:=hk8.size;clear hT8 hk8 hg8)
        |(refine step_append_lies _ rfl (.tmp 61) (.tmp 72) 199 rfl wz.heap.size 227 i0 _ 2 16 Tryz.underlying199 hi0 hz0 hz1 hz2 rfl (by decide) u10 (m-1) (fZ (sbs p.nd s q qs.length 1 (m-1))) (by simp[Act.eval]) (q5m HLA.out B7 HK.out.2.1 _) ⟨w8.heap.size,0,none⟩ 1 1 [.int .i64 (iP p.nd ba),.int .i64 (qs'.length:Int)] (by simp[Act.eval]) rfl (qr0 w8 _ _ _) (oneS _ _) (by decide) ml mz (qba hwr Z7 Z8) (w8.heap.size+1) (by simp) ?_;intro v9 cap w9 hown9 hgrow9 hat9 hlt9;have hb9:∀o,w9.cell? ⟨w.heap.size,o,none⟩=w8.cell? ⟨w.heap.size,o,none⟩:=fun o=>(hgrow9.cell_far ⟨w.heap.size,o,none⟩ (qby u0r Z7 Z8) (qb9 HLA.out u0)).trans (World.cell?_of_block (a:=⟨w.heap.size,o,none⟩) (Below.heap_alloc _ _ _ (Nat.lt_of_lt_of_le u0r (Nat.le_trans Z7 Z8))));have HR:=aA (And.intro hown9 (And.intro hgrow9 hat9));clear hown9 hgrow9 hat9))
      go_wp2;go_roundw
      case rel=>
       obtain⟨hnd,ho1,hnod⟩:=HH.out;obtain⟨hT8,hk8,hg8⟩:=HK.out;obtain⟨hown9,hgrow9,hat9⟩:=HR.out;rw[<-HBa.out] at hown9 hnd;rw[<-HBb.out] at hnd;have Lp:=q6e HLA.out (Nat.sub_add_cancel hm1).symm B7 Z6 hnd ho1 hnod hT8 hk8 hg8 hown9 hgrow9 hat9;rw[Nat.sub_add_cancel hm1] at Lp;exact⟨m+1,g2,C2,qs'++[q1],by omega,by omega,by go_num,Lp⟩
      case measure=>simp[intOf];omega
     ·have hmm:m=q:=Nat.le_antisymm hmq (Nat.le_of_not_lt hlt);subst hmm;have HLA:=aA hla;clear hla kb;go_wp2;go_ret;exact⟨wz,u10,g',C',qs',rfl,hsp.bel.size,hsp.bel,HLA.out⟩
 |false=>
  have hs:Hid (p.kids.length=s):=by show _=_;rw[<-HS.out];simp[aZ,PN.nd,hl]
  have hm:Hid (bP p.nd=4):=by show _=_;simp[bP,PN.nd,hl]
  have hg':¬(p.kids.length:Int)<=4:=by have:=hs.out;have:=hm.out;have:=hqm.out.2;omega
  have hsz:p.kids.length<=1000000:=by have:=hs.out;omega
  have hn0:w.cell? ⟨g,k*5,none⟩=some (.bool false):=by rw[n0,hl]
  go_enter Tryz.func146,Tryz.ntmps146
  go_upto_region 8 with fail
  go_cut [5,6,8,9] (fun v5 v6 v8 v9 wc=>v5=.pointer (some ⟨w.heap.size,0,none⟩)/\v6=.pointer (some ⟨w.heap.size+1,0,none⟩)/\v8=.pointer (some ⟨w.heap.size+2,0,none⟩)/\v9=.func (.func 172) #[] #[.pointer (some ⟨w.heap.size+1,0,none⟩),.pointer (some ⟨w.heap.size+2,0,none⟩)]/\SpAt w wc p s q)
  case first=>
   go_wp2_with fail
   go_meet
   case rel=>
    have:=qma w p s q ((p.kids.length+4-1)/4) (by have h1:=hs.out;have h2:=hqm.out.1;rw[hm.out] at h2;omega)
    rw[hl,<-hs.out] at this;rw[<-hs.out];exact⟨rfl,rfl,rfl,rfl,this⟩
  case rest=>
   obtain⟨rfl,rfl,rfl,rfl,hsp⟩:=hcut;obtain⟨wz,rfl⟩:∃wz,wz=wc:=⟨_,rfl⟩;have w0:=hsp.whole.cell 0;have w1:=hsp.whole.cell 1;have w2:=hsp.whole.cell 2;have w3:=hsp.whole.cell 3;have w4:=hsp.whole.cell 4;have d1:=hsp.size.cell 0;have d2:=hsp.parts.cell 0;simp only[PN.vals,List.getElem?_cons_zero,List.getElem?_cons_succ] at w0 w1 w2 w3 w4 d1 d2;have hws:=hsp.parts.lt;have ct:wz.cell? ⟨tb,0,none⟩=some (.slice (some ⟨g,0,none⟩) qs.length C):=(hsp.bel.cell (p:=⟨tb,0,none⟩) tlt).trans c0;have hNTc:Hid (TB base wz tb g C qs root):=HT.out.below hsp.bel;have hq2:2<=q/\q<=1000000:=by have h1:=hqm.out.1;have h2:=hqm.out.2;rw[hm.out] at h1 h2;omega
   obtain⟨hq2,hq3⟩:=hq2
   have hpp:Hid (∀i,i<q->uO p.nd (beg s q i) (beg s q (i+1))/\(1<=i->(p.nd.leaf=true->beg s q i<p.nd.ents.length)/\(p.nd.leaf=false->0<beg s q i/\beg s q i<=p.nd.keys.length))):=by
    have h:=HPRE.out.2 (by rw[HS.out];exact hqm.out.2)
    rw[HS.out,HQ.out] at h;exact h
   have HOc:Hid (p.own base wz):=(HO.out).of_blocks fun b hb=>hsp.bel.block b (HO.out.lt b hb).2
   have ne1:¬tb=g:=fun e=>HT.out.ne (e▸List.mem_cons_self)
   have ne2:¬w.heap.size=g:=by omega
   have ne3:¬w.heap.size+1=g:=by omega
   have ne4:¬w.heap.size+2=g:=by omega
   have KS:∀(W:World) (b o j:Nat) (v:Value),¬b=g->(W.setCell ⟨g,j,none⟩ v).cell? ⟨b,o,none⟩=W.cell? ⟨b,o,none⟩:=fun W b o j v hb=>World.cell?_setCell_far _ _ _ _ (fun e=>hb e.symm)
   have gc0:wz.cell? ⟨g,k*5,none⟩=some (.bool p.leaf):=(hsp.bel.cell (p:=⟨g,k*5,none⟩) glt).trans n0;have gc1:wz.cell? ⟨g,k*5+1,none⟩=some (.slice p.eA p.ents.length p.eC):=(hsp.bel.cell (p:=⟨g,k*5+1,none⟩) glt).trans n1;have gc2:wz.cell? ⟨g,k*5+2,none⟩=some (.slice p.kA p.keys.length p.kC):=(hsp.bel.cell (p:=⟨g,k*5+2,none⟩) glt).trans n2;have gc3:wz.cell? ⟨g,k*5+3,none⟩=some (.slice p.dA p.kids.length p.dC):=(hsp.bel.cell (p:=⟨g,k*5+3,none⟩) glt).trans n3;have gc4:wz.cell? ⟨g,k*5+4,none⟩=some (.slice p.bA p.buf.length p.bC):=(hsp.bel.cell (p:=⟨g,k*5+4,none⟩) glt).trans n4;have gf:=fun j=>(hsp.bel.frozen (p:=⟨g,j,none⟩) glt).trans (HT.out.nt.free j)
   have glc:g<wz.heap.size:=Nat.lt_of_lt_of_le glt hsp.bel.size;have tlc:tb<wz.heap.size:=Nat.lt_of_lt_of_le tlt hsp.bel.size;have u0:w.heap.size<wz.heap.size:=by omega
   have u1:w.heap.size+1<wz.heap.size:=by omega
   have HSP:=aA hsp;clear hsp n0 n1 n2 n3 n4 hn0 hl hs hm hg' hsz c0;go_upto_region 9 with fail
   go_cut [] (fun wd=>∃q0:PN,kJ base w wz tb g qs root k p.nd s q 0 wd (.slice none 0 0) g C (qs.set k q0))
   case first=>
    go_region_held3 (fun w'=>w'.cell? ⟨tb,0,none⟩=some (.slice (some ⟨g,0,none⟩) qs.length C)/\w'.cell? ⟨w.heap.size,0,none⟩=some (.bool p.leaf)/\w'.cell? ⟨w.heap.size,1,none⟩=some (.slice p.eA p.ents.length p.eC)/\w'.cell? ⟨w.heap.size,2,none⟩=some (.slice p.kA p.keys.length p.kC)/\w'.cell? ⟨w.heap.size,3,none⟩=some (.slice p.dA p.kids.length p.dC)/\w'.cell? ⟨w.heap.size,4,none⟩=some (.slice p.bA p.buf.length p.bC)) (go_keep)
     (first
      |(go_at_call 172;refine(rF s q 1 _ _ 1 _ (show(1:Int)=((1:Nat):Int) from rfl) (by exact d1) (by exact d2) (by omega) hq3 hq1 (by decide) _ (show beg s q 1=beg s q 1 from rfl)).mono ?_;rintro e w5 ⟨rfl,rfl⟩)
      |(go_at_call 173;refine(yJ base p 0 (beg s q 1) 0 (beg s q 1:Int) _ (show(0:Int)=((0:Nat):Int) from rfl) (show(beg s q 1:Int)=(beg s q 1:Int) from rfl) (by exact HOc.out.of_blocks fun _ _=>rfl) ((qA s q (by omega))▸(hpp.out 0 (by omega)).1)).mono ?_;rintro e w6 ⟨q0,rfl,hnd,ho0,hnod,hb6⟩;obtain⟨T6,F6⟩:=aY (hb6.mono (show wz.heap.size<=_ by simp));have Y0:=(T6 g (k*5) glc).trans gc0;have Y1:=(T6 g (k*5+1) glc).trans gc1;have Y2:=(T6 g (k*5+2) glc).trans gc2;have Y3:=(T6 g (k*5+3) glc).trans gc3;have Y4:=(T6 g (k*5+4) glc).trans gc4;have YF:∀j,w6.frozen? ⟨g,j,none⟩=false:=fun j=>(F6 g j glc).trans (gf j);have HH:=aA (And.intro hnd (And.intro ho0 (And.intro hnod hb6)));clear hnd ho0 hnod hb6))
    go_wp2
    go_meet
    case rel=>
     obtain⟨hnd,ho0,hnod,hb6⟩:=HH.out;exact⟨q0,q2y hNTc.out (by omega) hk (by omega) hnd ho0 hnod (aC ((Below.refl _ _).drew) (Nat.le_refl _) hb6)⟩
   case rest=>
    obtain⟨q0,hstart⟩:=hcut;have HST:=aA hstart;have HPL:=aA HO.out;clear hstart gc0 gc1 gc2 gc3 gc4 gf KS w0 w1 w2 w3 w4 d1 d2 ct;go_wp2_with fail
    go_loopw [10,11] (fun vm vi wr=>∃(m g' C':Nat) (qs':List PN),1<=m/\m<=q/\vi=.int .i64 (m:Int)/\kJ base w wz tb g qs root k p.nd s q (m-1) wr vm g' C' qs') (fun _ vi _=>q-(intOf vi).toNat)
    case atStart=>exact⟨1,g,C,_,by omega,by omega,rfl,HST.out⟩
    case round=>
     obtain⟨m,g',C',qs',hm1,hmq,rfl,hla⟩:=hrel;have kb:=fun b (hb:b<wz.heap.size) (h1:b≠tb) (h2:b≠g)=>hla.kept.block b hb (by simp;exact⟨h1,h2⟩)
     have hsp:=HSP.out;have r0:RowL wr w.heap.size 138 p.vals:=hsp.whole.of_block (kb _ u0 (by omega) (by omega))
     have r1:RowL wr (w.heap.size+1) 3 [.int .i64 (s:Int)]:=hsp.size.of_block (kb _ u1 (by omega) (by omega))
     have r2:RowL wr (w.heap.size+2) 3 [.int .i64 (q:Int)]:=hsp.parts.of_block (kb _ hws (by omega) (by omega))
     have w0:=r0.cell 0;have w1:=r0.cell 1;have w2:=r0.cell 2;have w3:=r0.cell 3;have w4:=r0.cell 4;have d1:=r1.cell 0;have d2:=r2.cell 0;simp only[PN.vals,List.getElem?_cons_zero,List.getElem?_cons_succ] at w0 w1 w2 w3 w4 d1 d2
     by_cases hlt:m<q
     ·have x1:(m:Int)<(q:Int):=by omega
      obtain⟨ba,hba⟩:∃ba,beg s q m=ba:=⟨_,rfl⟩;obtain⟨bb,hbb⟩:∃bb,beg s q (m+1)=bb:=⟨_,rfl⟩;have hPP:=hpp.out m hlt;rw[hba,hbb] at hPP;have HPPm:=aA hPP;have HBa:=aA hba;have HBb:=aA hbb;clear hPP hba hbb;go_upto_region 15 with(first|(go_at_call_of 172 (Value.int IntKind.i64 (m:Int));refine(rF s q m _ _ _ _ (show(m:Int)=(m:Int) from rfl) (by exact d1) (by exact d2) (by omega) hq3 hq1 (by omega) ba HBa).mono ?_;rintro e w5 ⟨rfl,h5⟩;subst w5)|(go_at_call 172;refine(rF s q (m+1) _ _ _ _ (show(m:Int)+1=((m+1:Nat):Int) by omega) (by exact d1) (by exact d2) (by omega) hq3 hq1 (by omega) bb HBb).mono ?_;rintro e w5 ⟨rfl,h5⟩;subst w5))
      have hown0:p.own base wr:=q7t HT.out hk HP.out hsp.bel hla.kept;have HOW:=aA hown0;have HLA:=aA hla;have hqs:=hla.len;have hz':(qs'.length+1)*104<=140737488351232:=qpy hqs hlt hz;have HQS:=aA hqs;have hBr:base<=wr.heap.size:=Nat.le_trans hB (Nat.le_trans hsp.bel.size hla.kept.size);have hwr:=hla.kept.size;have tlr:=hla.tree.box.lt;clear hown0 hqs hla kb hsp r0 r1 r2 d1 d2;have u0r:w.heap.size<wr.heap.size:=Nat.lt_of_lt_of_le u0 hwr;have ne5:w.heap.size≠tb:=Nat.ne_of_gt tlt;obtain⟨ml,mz⟩:=qgh hmq hq3;obtain⟨i0,hi0,hz0,hz1,hz2⟩:=info_parts qqo
      go_region_held3 (fun w'=>w'.cell? ⟨w.heap.size,0,none⟩=some (.bool p.leaf)/\w'.cell? ⟨w.heap.size,1,none⟩=some (.slice p.eA p.ents.length p.eC)/\w'.cell? ⟨w.heap.size,2,none⟩=some (.slice p.kA p.keys.length p.kC)/\w'.cell? ⟨w.heap.size,3,none⟩=some (.slice p.dA p.kids.length p.dC)/\w'.cell? ⟨w.heap.size,4,none⟩=some (.slice p.bA p.buf.length p.bC)) (go_keep)
       (first
        |(go_at_call 174;refine(q0q p.leaf p.eA p.eC p.ents p.kA p.kC p.keys p.dA p.dC p.kids p.bA p.bC p.buf ba _ (by exact HOW.out.ok.e) (by exact HOW.out.ok.k) (HPPm.out.2 hm1).1 (HPPm.out.2 hm1).2 HOW.out.kz).mono ?_;rintro e w6 ⟨rfl,hb6⟩;have B6:Below wr.heap.size wr w6:=aC ((Below.refl _ _).drew) (Nat.le_refl _) hb6;have T6:=(aY B6).1;have Z6:=B6.size)
        |(go_at_call 173;refine(yJ base p ba bb (ba:Int) (bb:Int) _ (show(ba:Int)=(ba:Int) from rfl) (show(bb:Int)=(bb:Int) from rfl) (by exact HOW.out.of_blocks fun b hb=>B6.block b (HOW.out.lt b hb).2) HPPm.out.1).mono ?_;rintro e w7 ⟨q1,rfl,hnd,ho1,hnod,hb7⟩;have B7:Below wr.heap.size wr w7:=aC B6 (Nat.le_refl _) hb7;have T7:=(aY B7).1;have Z7:=B7.size;have HH:=aA (And.intro hnd (And.intro ho1 hnod));clear hnd ho1 hnod)
        |(go_at_call 145;refine(q9i base tb g' C' qs' root q1 _ (HLA.out.tree.below B7) (HH.out.2.1.mono (Nat.le_trans hBr Z6)) HH.out.2.2 (wR HLA.out.tree Z6 HH.out.2.1).1 (wR HLA.out.tree Z6 HH.out.2.1).2 hz' (Nat.le_trans hBr Z7)).mono ?_;rintro e w8 ⟨rfl,g2,C2,hT8,hk8,hg8⟩;have hbx:=hk8.cell (b:=w.heap.size) (hb:=Nat.lt_of_lt_of_le u0r Z7) (hx:=qhr ne5 (qlo HLA.out.gl u0 ne2));have HK:=aA (And.intro hT8 (And.intro hk8 hg8));have Z8:=hk8.size;clear hT8 hk8 hg8)
        |(refine step_append_lies _ rfl (.tmp 61) (.tmp 72) 199 rfl wz.heap.size 227 i0 _ 2 16 Tryz.underlying199 hi0 hz0 hz1 hz2 rfl (by decide) u10 (m-1) (fZ (sbs p.nd s q qs.length 1 (m-1))) (by simp[Act.eval]) (q5m HLA.out B7 HK.out.2.1 _) ⟨w8.heap.size,0,none⟩ 1 1 [.int .i64 (iP p.nd ba),.int .i64 (qs'.length:Int)] (by simp[Act.eval]) rfl (qr0 w8 _ _ _) (oneS _ _) (by decide) ml mz (qba hwr Z7 Z8) (w8.heap.size+1) (by simp) ?_;intro v9 cap w9 hown9 hgrow9 hat9 hlt9;have hb9:∀o,w9.cell? ⟨w.heap.size,o,none⟩=w8.cell? ⟨w.heap.size,o,none⟩:=fun o=>(hgrow9.cell_far ⟨w.heap.size,o,none⟩ (qby u0r Z7 Z8) (qb9 HLA.out u0)).trans (World.cell?_of_block (a:=⟨w.heap.size,o,none⟩) (Below.heap_alloc _ _ _ (Nat.lt_of_lt_of_le u0r (Nat.le_trans Z7 Z8))));have HR:=aA (And.intro hown9 (And.intro hgrow9 hat9));clear hown9 hgrow9 hat9))
      go_wp2;go_roundw
      case rel=>
       obtain⟨hnd,ho1,hnod⟩:=HH.out;obtain⟨hT8,hk8,hg8⟩:=HK.out;obtain⟨hown9,hgrow9,hat9⟩:=HR.out;rw[<-HBa.out] at hown9 hnd;rw[<-HBb.out] at hnd;have Lp:=q6e HLA.out (Nat.sub_add_cancel hm1).symm B7 Z6 hnd ho1 hnod hT8 hk8 hg8 hown9 hgrow9 hat9;rw[Nat.sub_add_cancel hm1] at Lp;exact⟨m+1,g2,C2,qs'++[q1],by omega,by omega,by go_num,Lp⟩
      case measure=>simp[intOf];omega
     ·have hmm:m=q:=Nat.le_antisymm hmq (Nat.le_of_not_lt hlt);subst hmm;have HLA:=aA hla;clear hla kb;go_wp2;go_ret;exact⟨wz,u10,g',C',qs',rfl,hsp.bel.size,hsp.bel,HLA.out⟩

structure uI(base:Nat)(w:World)(tb g:Nat)(qs:List PN)(root:Int)(ns':List Nd)(more:List (Int × Int))(w':World)(vm:Value)(g' C':Nat)(qs':List PN):Prop where
 tree:TB base w' tb g' C' qs' root
 nds:qs'.map PN.nd=ns'
 more:w'.ownsRow w.heap.size 227 2 vm more.length (fZ more)
 apart:∀b,vm.ownBlock=some b->b∉tb::feet g' qs'
 kept:Kept [tb,g] w w'
 gl:g'=g\/w.heap.size<=g'
 old:∀b∈feet g' qs',b∈feet g qs\/w.heap.size<=b

theorem jM{qs:List PN}{k:Nat}(hk:k<qs.length):nth (qs.map PN.nd) (k:Int)=(qs[k]).nd:=by
 unfold nth;simp[hk]

theorem q7n(x:Nd):1<=bP x:=by unfold bP;split<;>omega

set_option maxRecDepth 20000 in
set_option maxHeartbeats 1000000 in
theorem q9y(base tb g C:Nat)(qs:List PN)(root:Int)(k:Nat)(w:World)(hT:TB base w tb g C qs root)(hk:k<qs.length)(hle:aZ (qs[k]).nd<=bP (qs[k]).nd):
  Calls Tryz.prog 146 #[.pointer (some ⟨tb,0,none⟩),.int .i64 (k:Int)] w fun e w'=>e=.returned (.slice none 0 0)/\Below w.heap.size w w':=by
 obtain⟨p,hp⟩:∃p,qs[k]=p:=⟨_,rfl⟩;rw[hp] at hle;have hat:=hT.nt.node hk;have hpo:=hT.nt.each _ (List.getElem_mem hk);rw[hp] at hat hpo;have c0:=hT.box.cell 0;simp only[List.getElem?_cons_zero] at c0;obtain⟨n0,n1,n2,n3,n4⟩:=hat;have i0:(0:Int)<=(k:Int):=by omega
 have i1:(k:Int)<(qs.length:Int):=by omega
 have tlt:=hT.box.lt;have glt:=hT.nt.glt.2;have ez:=hpo.ez;have dz:=hpo.dz;clear hT hp hpo;cases hl:p.leaf with
 |true=>
  have hg':(p.ents.length:Int)<=6:=by simp[aZ,bP,PN.nd,hl] at hle;omega
  rw[hl] at n0;clear hle hl
  go_enter Tryz.func146,Tryz.ntmps146
  go_wp2_with fail;go_ret;exact⟨rfl,((Below.refl _ _).alloc (Nat.le_refl _) _).alloc (by simp) _⟩
 |false=>
  have hg':(p.kids.length:Int)<=4:=by simp[aZ,bP,PN.nd,hl] at hle;omega
  rw[hl] at n0;clear hle hl
  go_enter Tryz.func146,Tryz.ntmps146
  go_wp2_with fail;go_ret;exact⟨rfl,((Below.refl _ _).alloc (Nat.le_refl _) _).alloc (by simp) _⟩

theorem q1s(base tb g C:Nat)(qs:List PN)(root:Int)(k:Nat)(w:World)(hT:TB base w tb g C qs root)(hk:k<qs.length)(hpre:oJ (qs[k]).nd)(hB:base<=w.heap.size)(hz:(qs.length+aN (qs[k]).nd+1)*104<=140737488351232):
  Calls Tryz.prog 146 #[.pointer (some ⟨tb,0,none⟩),.int .i64 (k:Int)] w
   fun e w'=>∃vm g' C' qs',e=.returned vm/\uI base w tb g qs root (aQ (qs.map PN.nd) k).1 (aQ (qs.map PN.nd) k).2 w' vm g' C' qs':=by
 have hx:=jM hk
 by_cases hle:aZ (qs[k]).nd<=bP (qs[k]).nd
 ·refine(q9y base tb g C qs root k w hT hk hle).mono ?_;rintro e w' ⟨rfl,hb⟩
  have e1:aQ (qs.map PN.nd) k=(qs.map PN.nd,[]):=by
   unfold aQ;rw[hx,if_pos hle]
  rw[e1];exact⟨_,g,C,qs,rfl,hT.below hb,rfl,World.ownsRow_nil _ _ _ _,(fun b hb=>by cases hb),Kept.of_below hb,.inl rfl,fun b hb=>.inl hb⟩
 ·refine(qfn base tb g C qs root k w hT hk hpre hB hz hle).mono ?_;rintro e w' ⟨w0,vm,g',C',qs',rfl,hs0,hb0,hl⟩;have e1:=qev (ns:=qs.map PN.nd) (p:=(k:Int)) hx hle (q7n _);rw[e1];refine⟨vm,g',C',qs',rfl,hl.tree,?_,?_,hl.apart,(Kept.of_below hb0).trans hl.kept,?_,fun b hb=>?_⟩
  ·rw[hl.nds,Int.toNat_natCast]
  ·rw[q2r,List.length_map];exact bQ hl.more hs0
  ·rcases hl.gl with h|h
   ·exact .inl h
   ·exact .inr (by omega)
  ·rcases hl.old b hb with h|h
   ·exact .inl h
   ·exact .inr (by omega)

theorem q7z{g:Rel}(hg:∀d lo hi Q,g d lo hi Q->lo<hi){hi:Int}:∀(kids keys:List Int) (lo:Int) (Q:List Int),keys.length+1=kids.length->SubK g lo (ups kids keys hi) Q->(∀k∈keys,lo<k)/\keys.Pairwise (fun a b=>a<b)
 |[],_,_,_,h,_=>by simp at h
 |[d],keys,lo,Q,h,_=>by
  obtain rfl:keys=[]:=List.eq_nil_of_length_eq_zero (by simpa using h)
  exact⟨by simp,List.Pairwise.nil⟩
 |d::e::ds,keys,lo,Q,h,hs=>by
  cases keys with
  |nil=>simp at h
  |cons k ks=>
   rw[xB] at hs;obtain⟨Q1,Q2,rfl,h1,h2⟩:=hs;obtain⟨a,b⟩:=q7z hg (e::ds) ks k Q2 (by simpa using h) h2
   have hlt:=hg _ _ _ _ h1;refine⟨fun z hz=>?_,List.pairwise_cons.2 ⟨a,b⟩⟩
   rcases List.mem_cons.1 hz with rfl|hz
   ·exact hlt
   ·have:=a z hz;omega

theorem qeq(l:List En){k k':Int}(h:k<=k'):lowN l k<=lowN l k':=by
 rw[q1e h l];omega

theorem qdg{x:Nd}(hk:x.keys.length+1=x.kids.length)(hs:x.keys.Pairwise (fun a b=>a<b)){a b:Nat}(hab:a<=b)(hb:b<=x.kids.length):bV x a<=bV x b:=by
 by_cases h0:a=0
 ·subst h0;simp[bV]
 ·by_cases h1:b=x.kids.length
  ·subst h1;have:bV x x.kids.length=x.buf.length:=by unfold bV;rw[if_neg (by omega),if_pos rfl]
   rw[this];exact q4e x a
  ·unfold bV;rw[if_neg h0,if_neg (by omega),if_neg (by omega),if_neg h1]
   apply qeq
   by_cases e:a=b
   ·rw[e];exact Int.le_refl _
   ·have h2:a-1<x.keys.length:=by omega
    have h3:b-1<x.keys.length:=by omega
    have:=List.pairwise_iff_getElem.1 hs (a-1) (b-1) h2 h3 (by omega)
    simp[h2,h3];omega

theorem qak{s q m mn:Nat}(hq:1<=q)(hm:s<=q*m)(hmn:q*mn<=s):∀(k i:Nat),beg s q i<=beg s q (i+k)
 |0,_=>Nat.le_refl _
 |k+1,i=>by
  have h1:=qak hq hm hmn k i;have h2:=(tK s q (i+k) m mn hq hm hmn).1;rw[<-Nat.add_assoc];omega

theorem qlj{s q m mn i:Nat}(hq:1<=q)(hm:s<=q*m)(hmn:q*mn<=s)(hi:i<=q):beg s q i<=s:=by
 have:=qak hq hm hmn (q-i) i;rw[show i+(q-i)=q by omega,qbs s q hq] at this
 exact this

theorem xU{mL mK:Nat}{ns:List Nd}{h:Nat}{p lo hi:Int}{P:List Int}(ht:Top mL mK ns h p lo hi P)(hz:aZ (nth ns p)<=1000000):oJ (nth ns p):=by
 refine⟨hz,fun hgt i hi'=>?_⟩
 cases h with
 |zero=>
  obtain⟨_,_,hl⟩:=ht;have hs:aZ (nth ns p)=(nth ns p).ents.length:=by simp[aZ,hl.leaf]
  have hm:bP (nth ns p)=6:=by simp[bP,hl.leaf]
  have hpn:aN (nth ns p)=((nth ns p).ents.length+6-1)/6:=by rw[aN,hs,hm]
  rw[hs,hm] at hgt;obtain⟨b1,b2,b3,b4⟩:=sK (s:=(nth ns p).ents.length) (.inl ⟨rfl,rfl⟩) hgt;rw[<-hpn] at b1 b2 b3 b4;rw[hs];have n1:=tK (nth ns p).ents.length (aN (nth ns p)) i 6 1 (by omega) b2 b3
  have n2:=qlj (i:=i+1) (by omega) b2 b3 hi'
  exact⟨.inl ⟨hl.leaf,by omega,n2⟩,fun _=>⟨fun _=>by omega,(fun e=>by rw[hl.leaf] at e;cases e)⟩⟩
 |succ h=>
  obtain⟨_,Q,_,hl⟩:=ht;have hs:aZ (nth ns p)=(nth ns p).kids.length:=by simp[aZ,hl.leaf]
  have hm:bP (nth ns p)=4:=by simp[bP,hl.leaf]
  have hpn:aN (nth ns p)=((nth ns p).kids.length+4-1)/4:=by rw[aN,hs,hm]
  rw[hs,hm] at hgt;obtain⟨b1,b2,b3,b4⟩:=sK (s:=(nth ns p).kids.length) (.inr ⟨rfl,rfl⟩) hgt;rw[<-hpn] at b1 b2 b3 b4;rw[hs];have n1:=tK (nth ns p).kids.length (aN (nth ns p)) i 4 2 (by omega) b2 b3
  have n2:=qlj (i:=i+1) (by omega) b2 b3 hi'
  have hks:=(q7z (kH h) _ _ _ _ hl.keys hl.kids).2;refine⟨.inr ⟨hl.leaf,hl.keys,by omega,n2,(jY hl.buf).2,qdg hl.keys hks (by omega) n2⟩,fun h1=>⟨(fun e=>by rw[hl.leaf] at e;cases e),fun _=>?_⟩⟩
  have n3:=tK (nth ns p).kids.length (aN (nth ns p)) (i-1) 4 2 (by omega) b2 b3
  rw[show i-1+1=i by omega] at n3
  have:=hl.keys;omega

set_option maxRecDepth 20000 in
set_option maxHeartbeats 1000000 in
theorem q0f(base tb g C:Nat)(qs:List PN)(root:Int)(k:Nat)(w:World)(hT:TB base w tb g C qs root)(hk:k<qs.length)(hpre:oJ (qs[k]).nd)(hB:base<=w.heap.size)(hz:(qs.length+aN (qs[k]).nd+1)*104<=140737488351232)(hkids:(qs[k]).kids=[]):
  Calls Tryz.prog 143 #[.pointer (some ⟨tb,0,none⟩),.int .i64 (k:Int)] w
   fun e w'=>∃vm g' C' qs',e=.returned vm/\uI base w tb g qs root (aQ (qs.map PN.nd) k).1 (aQ (qs.map PN.nd) k).2 w' vm g' C' qs':=by
 have hcon:=aA (q1s base tb g C qs root k w hT hk hpre hB hz);have hat:=hT.nt.node hk;have n3:=hat.c3;rw[hkids] at n3;have c0:=hT.box.cell 0;simp only[List.getElem?_cons_zero] at c0;have i0:(0:Int)<=(k:Int):=by omega
 have i1:(k:Int)<(qs.length:Int):=by omega
 clear hpre hz hkids hat
 go_enter Tryz.func143,Tryz.ntmps143
 go_wp2_with fail
 go_loopw [5] (fun vi wr=>vi=.int .i64 (-1)/\wr=w) (fun _ _=>0)
 case atStart=>exact⟨rfl,rfl⟩
 case round=>
  obtain⟨rfl,hw⟩:=hrel;subst hw;go_wp2_with (go_at_call 146;refine hcon.out.mono ?_;rintro e w' ⟨vm,g',C',qs',rfl,hs⟩);go_ret;exact⟨vm,g',C',qs',rfl,hs⟩

theorem TB.setRoot{base tb g C:Nat}{qs:List PN}{root:Int}{w:World}(h:TB base w tb g C qs root)(r:Int):TB base (w.setCell ⟨tb,1,none⟩ (.int .i64 r)) tb g C qs r:=
 ⟨h.nt.of_blocks fun b hb=>Below.heap_setCell _ _ _ _ (show b≠tb from fun e=>h.ne (e▸hb)),h.box.set 1 _,h.ne,h.hb⟩

end
section
open Go.RowKit Plain

def lenV:Value->Nat
 |.slice _ n _=>n
 |_=>0

structure nP(base:Nat)(w:World)(tb g:Nat)(qs:List PN)(root:Int)(ns':List Nd)(more:List (Int × Int))(w':World)(vm:Value)(g' C':Nat)(qs':List PN):Prop where
 tree:TB base w' tb g' C' qs' root
 nds:qs'.map PN.nd=ns'
 more:w'.ownsRow w.heap.size 227 2 vm more.length (fZ more)
 apart:∀b,vm.ownBlock=some b->b∉tb::feet g' qs'
 kept:Kept (tb::feet g qs) w w'
 old:∀b∈feet g' qs',b∈feet g qs\/w.heap.size<=b

theorem uI.grow{base:Nat}{w:World}{tb g:Nat}{qs:List PN}{root:Int}{ns':List Nd}{more:List (Int × Int)}{w':World}{vm:Value}{g' C':Nat}{qs':List PN}(h:uI base w tb g qs root ns' more w' vm g' C' qs'):nP base w tb g qs root ns' more w' vm g' C' qs':=
 ⟨h.tree,h.nds,h.more,h.apart,h.kept.mono (by intro k hk;simp only[List.mem_cons,List.not_mem_nil,or_false] at hk;rcases hk with rfl|rfl;exact List.mem_cons_self;exact List.mem_cons_of_mem _ List.mem_cons_self),h.old⟩

structure GrAt(base:Nat)(w0:World)(tb g:Nat)(qs:List PN)(R:List Nd × Int)(N:Nat)(wr:World)(vm:Value)(g' C':Nat)(qs':List PN)(root:Int)(more:List (Int × Int)):Prop where
 tree:TB base wr tb g' C' qs' root
 owns:wr.ownsRow w0.heap.size 227 2 vm more.length (fZ more)
 apart:∀b,vm.ownBlock=some b->b∉tb::feet g' qs'
 kept:Kept (tb::feet g qs) w0 wr
 old:∀b∈feet g' qs',b∈feet g qs\/w0.heap.size<=b
 row:more=[]\/∃h,lI (qs'.map PN.nd) h root more
 fin:eY more.length (qs'.map PN.nd) root more=R
 few:qs'.length+more.length<=N

theorem qd0:∀(f f':Nat) (ns:List Nd) (root:Int) (more:List (Int × Int)),more.length<=f->more.length<=f'->eY f ns root more=eY f' ns root more:=by
 intro f
 induction f with
 |zero=>
  intro f' ns root more h1 h2;obtain rfl:more=[]:=List.eq_nil_of_length_eq_zero (by omega)
  cases f'<;>simp[eY]
 |succ f ih=>
  intro f' ns root more h1 h2;cases f' with
  |zero=>
   obtain rfl:more=[]:=List.eq_nil_of_length_eq_zero (by omega)
   simp[eY]
  |succ f'=>
   unfold eY
   split
   ·rfl
   ·rename_i hm
    have hml:1<=more.length:=by cases more with|nil=>exact absurd rfl hm|cons=>simp
    have hl:=(vP ns root more).1;exact ih f' _ _ _ (by omega) (by omega)

theorem qcl(ns:List Nd)(root:Int)(more:List (Int × Int))(hm:more≠[]):eY more.length ns root more=eY (aQ (ns++[bT root more]) ns.length).2.length (aQ (ns++[bT root more]) ns.length).1 ns.length (aQ (ns++[bT root more]) ns.length).2:=by
 have hml:1<=more.length:=by cases more with|nil=>exact absurd rfl hm|cons=>simp
 obtain⟨f,hf⟩:∃f,more.length=f+1:=⟨more.length-1,by omega⟩
 rw[hf,eY,if_neg hm];have hl:=(vP ns root more).1;exact qd0 _ _ _ _ _ (by omega) (Nat.le_refl _)

theorem qhy{base:Nat}{wr:World}(root:Int)(hB:base<=wr.heap.size):
  AdAt base ((wr.alloc (.cells #[.int .i64 root] 3)).alloc (.cells #[.bool false,.slice none 0 0,.slice none 0 0,.slice (some ⟨wr.heap.size,0,none⟩) 1 1,.slice none 0 0] 138)) (wr.heap.size+1) 0 138 [.bool false,.slice none 0 0,.slice none 0 0,.slice (some ⟨wr.heap.size,0,none⟩) 1 1,.slice none 0 0] none (some ⟨wr.heap.size,0,none⟩)
   ((wr.alloc (.cells #[.int .i64 root] 3)).alloc (.cells #[.bool false,.slice none 0 0,.slice none 0 0,.slice (some ⟨wr.heap.size,0,none⟩) 1 1,.slice none 0 0] 138)) none 0 [] (some ⟨wr.heap.size,0,none⟩) 1 [root]:=by
 have s1:(wr.alloc (.cells #[.int .i64 root] 3)).heap.size=wr.heap.size+1:=by simp
 have r2:=aG (wr.alloc (.cells #[.int .i64 root] 3)) [.bool false,.slice none 0 0,.slice none 0 0,.slice (some ⟨wr.heap.size,0,none⟩) 1 1,.slice none 0 0] 138;rw[s1] at r2;have r1:RowL ((wr.alloc (.cells #[.int .i64 root] 3)).alloc (.cells #[.bool false,.slice none 0 0,.slice none 0 0,.slice (some ⟨wr.heap.size,0,none⟩) 1 1,.slice none 0 0] 138)) wr.heap.size 3 [.int .i64 root]:=(aG wr [.int .i64 root] 3).of_block (Below.heap_alloc _ _ _ (by simp))
 refine⟨r2,World.ownsRow_nil _ _ _ _,⟨rfl,.inr ⟨wr.heap.size,1,#[.int .i64 root],rfl,hB,r1,Nat.le_refl _,by decide,rfl,rfl⟩⟩,Kept.refl _ _,by simp[obk],fun k hk=>.inl hk,by simp[obk],by simp[obk],by simp[obk]⟩

theorem qn4(base nb no:Nat)(t:TypeId)(vs:List Value)(kA:Option Addr)(kC:Nat)(keys:List Int)(dA:Option Addr)(dC:Nat)(kids:List Int)(i:Nat)(z:Int)(mA:Option Addr)(mC:Nat)(more:List (Int × Int))(w:World)(hzi:Hid (z=(i:Int)))
  (hA:AdAt base w nb no t vs kA dA w kA kC keys dA dC kids) (hvl:no+3<vs.length) (hB:base<=w.heap.size) (hm:aH w.heap.size w mA (fZ more)) (hmb:∀a,mA=some a->a.block∉nb::obk kA++obk dA)
  (hi:i<=keys.length) (hi':i+1<=kids.length) (hkz:(keys.length+more.length+1)*8<=140737488351232) (hdz:(kids.length+more.length+1)*8<=140737488351232) (ks ds:List Int) (hks:iV keys i more more.length=ks) (hds:iU kids i more more.length=ds):
  Calls Tryz.prog 144 #[.pointer (some ⟨nb,no,none⟩),.int .i64 z,.slice mA more.length mC] w
   fun e w'=>e=.returned (.tuple #[])/\∃kA' kC' dA' dC',AdAt base w nb no t vs kA dA w' kA' kC' ks dA' dC' ds:=by
 have e:z=(i:Int):=hzi.out;subst e hks hds;exact q8d base nb no t vs kA kC keys dA dC kids i mA mC more w hA hvl hB hm hmb hi hi' hkz hdz

theorem qa1(more:List (Int × Int)):iV [] 0 more more.length=more.map (·.1):=by simp[iV]
theorem q8k(root:Int)(more:List (Int × Int)):iU [root] 0 more more.length=root::more.map (·.2):=by simp[iU]

theorem qni{ns:List Nd}{h:Nat}{root:Int}{more:List (Int × Int)}(hr:lI ns h root more)(hm:more≠[])(hz:more.length<=999999):oJ (bT root more):=by
 obtain⟨Q,hQ,hp⟩:=hr.sub;have hml:1<=more.length:=by cases more with|nil=>exact absurd rfl hm|cons=>simp
 have hQ':SubK (Sub 6 4 (ns++[bT root more]) h) 0 (ups (root::more.map (·.2)) (more.map (·.1)) 1099511627776) Q:=
  nJ hQ fun d lo hi Q1 a b=>nD h d lo hi Q1 a fun n hn=>by
   have hm:=placesF_mem.1 (hp.mem_iff.1 (b n hn));exact⟨vI (by omega) (by omega),by simp;omega⟩
 have htop:Top 0 (more.length+1) (ns++[bT root more]) (h+1) ns.length 0 1099511627776 ((ns.length:Int)::Q):=by
  refine⟨⟨by omega,by simp;omega,by decide⟩,Q,rfl,?_⟩
  rw[xE];exact⟨rfl,rfl,by simp[bT];omega,by simp[bT],by simp[bT],by simp[bT],rfl,hQ'⟩
 have:=xU htop;rw[xE] at this;exact this (by simp[aZ,bT];omega)

theorem q9h(root:Int)(more:List (Int × Int)):aN (bT root more)<=more.length+1:=by
 have hs:aZ (bT root more)=more.length+1:=by simp[aZ,bT]
 have hm:bP (bT root more)=4:=by simp[bP,bT]
 rw[aN,hs,hm];omega

def dS(kA:Option Addr)(kC:Nat)(ks:List Int)(dA:Option Addr)(dC:Nat)(ds:List Int):PN:=⟨false,none,0,[],kA,kC,ks,dA,dC,ds,none,0,[]⟩

theorem q3y{base:Nat}{w w':World}{nb no:Nat}{t:TypeId}{vs:List Value}{kA0 dA0 kA dA:Option Addr}{kC dC:Nat}{ks ds:List Int}(h:AdAt base w nb no t vs kA0 dA0 w' kA kC ks dA dC ds)(hk:ks.length*8<=140737488351232)(hd:ds.length*8<=140737488351232):
  (dS kA kC ks dA dC ds).own base w'/\(dS kA kC ks dA dC ds).blocks.Nodup/\∀b∈(dS kA kC ks dA dC ds).blocks,b∈obk kA\/b∈obk dA:=by
 refine⟨⟨World.ownsRow_nil _ _ _ _,h.ok,h.od,World.ownsRow_nil _ _ _ _,by simp[dS],hk,hd,by simp[dS]⟩,?_,?_⟩
 ·have hne:=h.ne;unfold PN.blocks dS;cases kA<;>cases dA<;>simp_all [obk]
 ·intro b hb;unfold PN.blocks dS at hb;cases kA<;>cases dA<;>simp_all [obk]

theorem qic{wr:World}{H n:Nat}{t:TypeId}{mA:Option Addr}{mC:Nat}{vs:List Value}(h:wr.ownsRow H t 2 (.slice mA n mC) n vs):∀a,mA=some a->a.block∉(wr.heap.size+1)::obk none++obk (some ⟨wr.heap.size,0,none⟩):=by
 rintro a rfl;have:=(gV h a.block rfl).2;simp[obk];omega

theorem qmg{ks ds:List Int}{more:List (Int × Int)}(root:Int)(hm:more.length<=999999)(hks:more.map (·.1)=ks)(hds:root::more.map (·.2)=ds):
  (([]:List Int).length+more.length+1)*8<=140737488351232/\([root].length+more.length+1)*8<=140737488351232/\ks.length*8<=140737488351232/\ds.length*8<=140737488351232:=by
 subst hks hds;simp;omega

theorem GrAt.below{base:Nat}{w0:World}{tb g:Nat}{qs:List PN}{R:List Nd × Int}{N:Nat}{wr:World}{vm:Value}{g' C':Nat}{qs':List PN}{root:Int}{more:List (Int × Int)}(h:GrAt base w0 tb g qs R N wr vm g' C' qs' root more)(b:Nat)(hb:b∈tb::feet g' qs'):b<wr.heap.size/\(b∈tb::feet g qs\/w0.heap.size<=b):=by
 refine⟨h.tree.lt b hb,?_⟩;rcases List.mem_cons.1 hb with rfl|hb
 ·exact .inl List.mem_cons_self
 ·rcases h.old b hb with h1|h1
  ·exact .inl (List.mem_cons_of_mem _ h1)
  ·exact .inr h1

section
variable {base : Nat} {w0 : World} {tb g : Nat} {qs : List PN} {R : List Nd × Int} {N : Nat} {wr : World} {vm : Value} {g' C' : Nat} {qs' : List PN} {root : Int} {more : List (Int × Int)}

theorem qsb{W w5:World}(h:GrAt base w0 tb g qs R N wr vm g' C' qs' root more)(hW:Below wr.heap.size wr W)(hk:Kept ((wr.heap.size+1)::obk none++obk (some ⟨wr.heap.size,0,none⟩)) W w5):TB base w5 tb g' C' qs' root:=by
 refine h.tree.of_blocks fun b hb=>?_
 have hl:=h.tree.lt b hb;have hs:=hW.size;rw[hk.block b (by omega) (by simp[obk];omega),hW.block b hl]

theorem zW{W w5:World}{t:TypeId}{vs:List Value}{kA dA:Option Addr}{kC dC:Nat}{ks ds:List Int}(h:GrAt base w0 tb g qs R N wr vm g' C' qs' root more)(hW:Below wr.heap.size wr W)(hA:AdAt base W (wr.heap.size+1) 0 t vs none (some ⟨wr.heap.size,0,none⟩) w5 kA kC ks dA dC ds):
  (∀b∈(dS kA kC ks dA dC ds).blocks,b∉feet g' qs')/\tb∉(dS kA kC ks dA dC ds).blocks:=by
 have hs:=hW.size
 have hge:∀b∈(dS kA kC ks dA dC ds).blocks,wr.heap.size<=b:=by
  intro b hb
  have hb':b∈obk kA\/b∈obk dA:=by
   unfold PN.blocks dS at hb;cases kA<;>cases dA<;>simp_all [obk]
  rcases hb' with e|e
  ·rcases hA.lk b e with e|e
   ·simp[obk] at e
   ·omega
  ·rcases hA.ld b e with e|e
   ·simp[obk] at e;omega
   ·omega
 refine⟨fun b hb e=>?_,fun e=>?_⟩
 ·have h1:=hge b hb;have h2:=h.tree.lt b (List.mem_cons_of_mem _ e);omega
 ·have h1:=hge tb e;have h2:=h.tree.lt tb List.mem_cons_self;omega

theorem qsd{a m:Nat}(h:a+m<=999999):(a+1)*104<=140737488351232:=Nat.le_trans (Nat.mul_le_mul_right 104 (show a+1<=1000000 by omega)) (by decide)

theorem qa9{kA dA:Option Addr}{kC dC:Nat}{ks ds:List Int}(hkd:more.map (·.1)=ks/\root::more.map (·.2)=ds):(dS kA kC ks dA dC ds).nd=bT root more:=by
 obtain⟨rfl,rfl⟩:=hkd
 rfl

theorem qf5{q:PN}(h:qs'.length<(qs'++[q]).length):(qs'++[q])[qs'.length]=q:=by simp

theorem qkb{kA dA:Option Addr}{kC dC:Nat}{ks ds:List Int}{hl:qs'.length<(qs'++[dS kA kC ks dA dC ds]).length}(h:GrAt base w0 tb g qs R N wr vm g' C' qs' root more)(hm:more≠[])(hkd:more.map (·.1)=ks/\root::more.map (·.2)=ds)(hz:more.length<=999999):oJ ((qs'++[dS kA kC ks dA dC ds])[qs'.length]).nd:=by
 rw[qf5 hl,qa9 hkd];obtain⟨h1,hr⟩:=h.row.resolve_left hm;exact qni hr hm hz

theorem qra{kA dA:Option Addr}{kC dC:Nat}{ks ds:List Int}{hl:qs'.length<(qs'++[dS kA kC ks dA dC ds]).length}(h:qs'.length+more.length<=999999)(hkd:more.map (·.1)=ks/\root::more.map (·.2)=ds):((qs'++[dS kA kC ks dA dC ds]).length+aN ((qs'++[dS kA kC ks dA dC ds])[qs'.length]).nd+1)*104<=140737488351232:=by
 rw[qf5 hl,qa9 hkd];have:=q9h root more;exact Nat.le_trans (Nat.mul_le_mul_right 104 (show _<=1000002 by simp;omega)) (by decide)

theorem qrf{W w5 w6:World}{ex ex2:List Nat}{v:Value}(h:base<=W.heap.size)(h5:Kept ex W w5)(h6:Kept ex2 w5 w6):base<=(w6.setCell ⟨tb,1,none⟩ v).heap.size:=by
 have a:=h5.size;have b:=h6.size;simp;omega

theorem qgl{W w5 w6 w7:World}{t:TypeId}{vs:List Value}{mA kA dA:Option Addr}{mC kC dC g2 C2 g7 C7:Nat}{ks ds:List Int}{vm7:Value}{qs7:List PN}(h:GrAt base w0 tb g qs R N wr (.slice mA more.length mC) g' C' qs' root more)(hm:more≠[])(hW:Below wr.heap.size wr W)
  (hA:AdAt base W (wr.heap.size+1) 0 t vs none (some ⟨wr.heap.size,0,none⟩) w5 kA kC ks dA dC ds) (hkd:more.map (·.1)=ks/\root::more.map (·.2)=ds) (_hT6:TB base w6 tb g2 C2 (qs'++[dS kA kC ks dA dC ds]) root) (hk6:Kept [tb,g'] w5 w6) (hg6:g2=g'\/w5.heap.size<=g2)
  (hs:uI base (w6.setCell ⟨tb,1,none⟩ (.int .i64 (qs'.length:Int))) tb g2 (qs'++[dS kA kC ks dA dC ds]) (qs'.length:Int) (aQ ((qs'++[dS kA kC ks dA dC ds]).map PN.nd) (qs'.length:Int)).1 (aQ ((qs'++[dS kA kC ks dA dC ds]).map PN.nd) (qs'.length:Int)).2 w7 vm7 g7 C7 qs7):
  GrAt base w0 tb g qs R N w7 vm7 g7 C7 qs7 (qs'.length:Int) (aQ ((qs'++[dS kA kC ks dA dC ds]).map PN.nd) (qs'.length:Int)).2/\lenV vm7<lenV (.slice mA more.length mC):=by
 have hml:1<=more.length:=by cases more with|nil=>exact absurd rfl hm|cons=>simp
 have hap:=zW h hW hA;have hnd:(qs'++[dS kA kC ks dA dC ds]).map PN.nd=qs'.map PN.nd++[bT root more]:=by rw[List.map_append,List.map_cons,List.map_nil,qa9 hkd]
 have hll:(qs'.length:Int)=((qs'.map PN.nd).length:Int):=by rw[List.length_map]
 have e1:aQ ((qs'++[dS kA kC ks dA dC ds]).map PN.nd) (qs'.length:Int)=aQ (qs'.map PN.nd++[bT root more]) ((qs'.map PN.nd).length:Int):=by rw[hnd,<-hll]
 rw[e1] at hs ⊢;obtain⟨l1,l2⟩:=vP (qs'.map PN.nd) root more;have s0:=h.kept.size;have sW:=hW.size;have s5:=hA.kept.size;have s6:=hk6.size;have hW6:(w6.setCell ⟨tb,1,none⟩ (.int .i64 (qs'.length:Int))).heap.size=w6.heap.size:=by simp
 have hl7:qs7.length=(aQ (qs'.map PN.nd++[bT root more]) ((qs'.map PN.nd).length:Int)).1.length:=by rw[<-hs.nds,List.length_map]
 have hg'b:=h.below g' (List.mem_cons_of_mem _ List.mem_cons_self)
 have hge:∀b∈(dS kA kC ks dA dC ds).blocks,wr.heap.size<=b:=by
  intro b hb
  have hb':b∈obk kA\/b∈obk dA:=by
   unfold PN.blocks dS at hb;cases kA<;>cases dA<;>simp_all [obk]
  rcases hb' with e|e
  ·rcases hA.lk b e with e|e
   ·simp[obk] at e
   ·omega
  ·rcases hA.ld b e with e|e
   ·simp[obk] at e;omega
   ·omega
 have hg2:g2∈feet g qs\/w0.heap.size<=g2:=by
  rcases hg6 with rfl|hg6
  ·exact h.old _ List.mem_cons_self
  ·exact .inr (by omega)
 have hold2:∀b∈feet g2 (qs'++[dS kA kC ks dA dC ds]),b∈feet g qs\/w0.heap.size<=b:=by
  intro b hb;rcases q1t (g:=g') hb with rfl|hb|hb
  ·exact hg2
  ·exact h.old b hb
  ·exact .inr (Nat.le_trans s0 (hge b hb))
 refine⟨⟨hs.tree,bQ hs.more (by rw[hW6];omega),hs.apart,?_,fun b hb=>?_,?_,?_,?_⟩,?_⟩
 ·have k1:Kept (tb::feet g qs) w0 W:=h.kept.step (Kept.of_below hW (ex:=[])) (by simp)
  have k2:Kept (tb::feet g qs) w0 w5:=k1.step hA.kept (fun b hb=>by
   right;simp[obk] at hb;omega)
  have k3:Kept (tb::feet g qs) w0 w6:=k2.step hk6 (fun b hb=>by
   simp only[List.mem_cons,List.not_mem_nil,or_false] at hb;rcases hb with rfl|rfl
   ·exact .inl List.mem_cons_self
   ·rcases h.old _ List.mem_cons_self with e|e
    ·exact .inl (List.mem_cons_of_mem _ e)
    ·exact .inr e)
  have k4:=k3.set (.inl List.mem_cons_self) (j:=1) (.int .i64 (qs'.length:Int))
  exact k4.step hs.kept (fun b hb=>by
   simp only[List.mem_cons,List.not_mem_nil,or_false] at hb;rcases hb with rfl|rfl
   ·exact .inl List.mem_cons_self
   ·rcases hg2 with e|e
    ·exact .inl (List.mem_cons_of_mem _ e)
    ·exact .inr e)
 ·rcases hs.old b hb with e|e
  ·exact hold2 b e
  ·rw[hW6] at e;exact .inr (by omega)
 ·obtain⟨h1,hr⟩:=h.row.resolve_left hm;have:=(qav hr hm).1;refine .inr ⟨h1+1,?_⟩;rw[hs.nds,hll];exact this
 ·rw[hs.nds,hll,<-qcl _ _ _ hm];exact h.fin
 ·have hf:=h.few;rw[hl7,l1,l2,List.length_map];omega
 ·obtain⟨A,Cc,hv,_⟩:=aP hs.more;rw[hv,l1];show(more.length+4)/4-1<more.length;omega
end

theorem qer{g:Nat}{qs:List PN}{w w0 wr:World}{base:Nat}(hfl:∀k∈feet g qs,base<=k/\k<w.heap.size)(hb:Below w.heap.size w w0)(hs:w0.heap.size=w.heap.size+2)(hk:Kept (w.heap.size::feet g qs) w0 wr)(v0 v1:Value):
  Kept (feet g qs) w ((wr.setCell ⟨w.heap.size+1,0,none⟩ v0).setCell ⟨w.heap.size+1,1,none⟩ v1):=by
 have k1:Kept (feet g qs) w wr:=(Kept.of_below hb).step hk (fun b h=>by
  rcases List.mem_cons.1 h with rfl|h
  ·exact .inr (Nat.le_refl _)
  ·exact .inl h)
 have _:=hfl;have _:=hs;exact(k1.set (.inr (by omega)) v0).set (.inr (by omega)) v1

set_option maxRecDepth 20000 in
set_option maxHeartbeats 4000000 in
theorem qc0(base g C:Nat)(qs:List PN)(k:Nat)(ns1:List Nd)(more1:List (Int × Int))(h1:Nat)(R:List Nd × Int)(w:World)(hN:NT base w g C qs)(hB:base<=w.heap.size)
  (hcon:Hid (∀(W:World) (tb:Nat),TB base W tb g C qs (k:Int)->base<=W.heap.size->Calls Tryz.prog 143 #[.pointer (some ⟨tb,0,none⟩),.int .i64 (k:Int)] W fun e w'=>∃vm g' C' qs',e=.returned vm/\nP base W tb g qs (k:Int) ns1 more1 w' vm g' C' qs'))
  (hrow:more1=[]\/lI ns1 h1 (k:Int) more1) (hfew:ns1.length+more1.length<=999999) (hR:eY more1.length ns1 (k:Int) more1=R):
  Calls Tryz.prog 119 #[.agg #[.slice (some ⟨g,0,none⟩) qs.length C,.int .i64 (k:Int)]] w
   fun e w'=>Kept (feet g qs) w w'/\((2000<R.1.length/\e=.returned (.tuple #[.agg #[.slice none 0 0,.int .i64 0],.int .i64 1]))\/
    (R.1.length<=2000/\∃g' C' qs',e=.returned (.tuple #[.agg #[.slice (some ⟨g',0,none⟩) qs'.length C',.int .i64 R.2],.int .i64 0])/\NT base w' g' C' qs'/\qs'.map PN.nd=R.1/\∀b∈feet g' qs',b∈feet g qs\/w.heap.size<=b)):=by
 have hfl:=hN.lt
 have hTB:∀o2:Obj,TB base ((w.alloc (.cells #[.slice (some ⟨g,0,none⟩) qs.length C,.int .i64 (k:Int)] 32)).alloc o2) w.heap.size g C qs (k:Int):=fun o2=>by
  have hb:Below w.heap.size w ((w.alloc (.cells #[.slice (some ⟨g,0,none⟩) qs.length C,.int .i64 (k:Int)] 32)).alloc o2):=lY _ _ _;exact⟨hN.below hb (Nat.le_refl _),(aG w [.slice (some ⟨g,0,none⟩) qs.length C,.int .i64 (k:Int)] 32).of_block (Below.heap_alloc _ _ _ (by simp)),fun e=>by have:=(hfl _ e).2;omega,hB⟩
 have HN:=aA hN;have HW:=aA (And.intro hrow (And.intro hfew hR));clear hN hrow hfew hR
 go_enter Tryz.func119,Tryz.ntmps119
 go_wp2_with (go_at_call 143;refine(hcon.out _ _ (hTB _) (by simp;omega)).mono ?_;rintro e w1 ⟨vm,g1,C1,qs1,rfl,hg1⟩)
 obtain⟨w0,hw0⟩:∃w0,((w.alloc (.cells #[.slice (some ⟨g,0,none⟩) qs.length C,.int .i64 (k:Int)] 32)).alloc (.cells #[.slice none 0 0,.int .i64 0] 32))=w0:=⟨_,rfl⟩;rw[hw0] at hg1;have hs0:w0.heap.size=w.heap.size+2:=by rw[<-hw0];simp
 have hb0:Below w.heap.size w w0:=by rw[<-hw0];exact lY _ _ _
 have hres:RowL w0 (w.heap.size+1) 32 [.slice none 0 0,.int .i64 0]:=by
  have h:=aG (w.alloc (.cells #[.slice (some ⟨g,0,none⟩) qs.length C,.int .i64 (k:Int)] 32)) [.slice none 0 0,.int .i64 0] 32;rw[show(w.alloc (.cells #[.slice (some ⟨g,0,none⟩) qs.length C,.int .i64 (k:Int)] 32)).heap.size=w.heap.size+1 by simp] at h
  rw[<-hw0];exact h
 have H0:=aA (And.intro hs0 (And.intro hb0 hres))
 have hst:GrAt base w0 w.heap.size g qs R 999999 w1 vm g1 C1 qs1 (k:Int) more1:=by
  obtain⟨q1,q2,q3⟩:=HW.out;have hl:qs1.length=ns1.length:=by rw[<-hg1.nds,List.length_map]
  exact⟨hg1.tree,hg1.more,hg1.apart,hg1.kept,hg1.old,q1.imp_right (fun q=>⟨h1,by rw[hg1.nds];exact q⟩),by rw[hg1.nds];exact q3,by omega⟩
 have HST:=aA hst;have hsz1:w.heap.size+2<=w0.heap.size:=by omega
 clear hw0 hs0 hb0 hres hg1 hTB hst
 go_loopw [4] (fun vm wr=>∃g' C' qs' root more,GrAt base w0 w.heap.size g qs R 999999 wr vm g' C' qs' root more) (fun vm _=>lenV vm)
 case atStart=>exact⟨g1,C1,qs1,_,more1,HST.out⟩
 case round=>
  obtain⟨g',C',qs',root,more,hga⟩:=hrel;obtain⟨mA,mC,hvm,-,-,-,-⟩:=aP hga.owns
  by_cases hm:more=[]
  ·subst hm;have hRe:(qs'.map PN.nd,root)=R:=hga.fin;have hl:R.1.length=qs'.length:=by rw[<-hRe,List.length_map]
   have hr2:R.2=root:=by rw[<-hRe]
   have hv0:u4=.slice mA 0 mC:=hvm;subst hv0;have c0:=hga.tree.box.cell 0;have c1:=hga.tree.box.cell 1;simp only[List.getElem?_cons_zero,List.getElem?_cons_succ] at c0 c1
   have hrs:RowL wr (w.heap.size+1) 32 [.slice none 0 0,.int .i64 0]:=hga.kept.row H0.out.2.2 (by
    intro e;rcases List.mem_cons.1 e with e|e
    ·omega
    ·have:=(hfl _ e).2;omega)
   have r0:=hrs.cell 0;have r1:=hrs.cell 1;have rf:=hrs.frozen;simp only[List.getElem?_cons_zero,List.getElem?_cons_succ] at r0 r1;have tlt:=hga.tree.box.lt;have rlt:=hrs.lt;have HK:=aA (fun v0 v1=>qer (hfl:=hfl) H0.out.2.1 H0.out.1 hga.kept v0 v1)
   have HE:=aA (And.intro hRe (And.intro hl hr2));have HGA:=aA hga;have nel:¬w.heap.size+1=w.heap.size:=by omega
   clear hga hRe hl hr2 hvm hrs
   by_cases hbig:2000<qs'.length
   ·have hbig':(2000:Int)<(qs'.length:Int):=by omega
    go_wp2_with fail;refine bodyPost_ret (v:=.tuple #[.agg #[.slice none 0 0,.int .i64 0],.int .i64 1]) (by simp[results,Tryz.results119,go_sem,r0,r1]) rfl ⟨HK.out _ _,.inl ⟨by rw[HE.out.2.1];exact hbig,rfl⟩⟩
   ·have hbig':¬(2000:Int)<(qs'.length:Int):=by omega
    go_wp2_with fail;refine bodyPost_ret (v:=.tuple #[.agg #[.slice (some ⟨g',0,none⟩) qs'.length C',.int .i64 root],.int .i64 0]) (by simp[results,Tryz.results119,go_sem,r0,r1]) rfl ⟨HK.out _ _,.inr ⟨by rw[HE.out.2.1];omega,g',C',qs',by rw[HE.out.2.2],?_,by rw[<-HE.out.1],?_⟩⟩
    ·refine HGA.out.tree.nt.of_blocks fun b hb=>?_
     have hne:b≠w.heap.size+1:=by
      intro e;rcases HGA.out.old b hb with h|h
      ·have:=(hfl b h).2;omega
      ·omega
     exact(Below.heap_setCell _ _ _ _ hne).trans (Below.heap_setCell _ _ _ _ hne)
    ·intro b hb;rcases HGA.out.old b hb with h|h
     ·exact .inl h
     ·exact .inr (by omega)
  ·have hml:1<=more.length:=by cases more with|nil=>exact absurd rfl hm|cons=>simp
   have hml':(0:Int)<(more.length:Int):=by omega
   have hmN:more.length<=999999:=Nat.le_trans (Nat.le_add_left _ _) hga.few;subst hvm;have c0:=hga.tree.box.cell 0;have c1:=hga.tree.box.cell 1;simp only[List.getElem?_cons_zero,List.getElem?_cons_succ] at c0 c1;have tlt:=hga.tree.box.lt;have fz:=hga.tree.box.frozen;have HGA:=aA hga;clear hga;have hBr:base<=wr.heap.size:=Nat.le_trans hB (Nat.le_trans H0.out.2.1.size HGA.out.kept.size);have hW:=lY wr (.cells #[.int .i64 root] 3) (.cells #[.bool false,.slice none 0 0,.slice none 0 0,.slice (some ⟨wr.heap.size,0,none⟩) 1 1,.slice none 0 0] 138);have hmr:=aA ((eG HGA.out.owns).1.go hW (Nat.le_refl _) (Nat.le_refl _));have hmb:=aA (qic HGA.out.owns);have HAD:=aA (qhy (wr:=wr) root hBr);obtain⟨ks,hks⟩:∃ks,more.map (·.1)=ks:=⟨_,rfl⟩;obtain⟨ds,hds⟩:∃ds,root::more.map (·.2)=ds:=⟨_,rfl⟩;have HKD:=aA (And.intro hks hds);have HZ:=aA (qmg root hmN hks hds);have hBW:base<=((wr.alloc (.cells #[.int .i64 root] 3)).alloc (.cells #[.bool false,.slice none 0 0,.slice none 0 0,.slice (some ⟨wr.heap.size,0,none⟩) 1 1,.slice none 0 0] 138)).heap.size:=Nat.le_trans hBr hW.size;have HWb:=aA hW;clear hks hds hW
   go_wp2_with (first
    |(go_at_call 144;refine(qn4 base (wr.heap.size+1) 0 138 [.bool false,.slice none 0 0,.slice none 0 0,.slice (some ⟨wr.heap.size,0,none⟩) 1 1,.slice none 0 0] none 0 [] (some ⟨wr.heap.size,0,none⟩) 1 [root] 0 0 mA mC more _ (show(0:Int)=((0:Nat):Int) from rfl) HAD.out (by simp) hBW hmr.out hmb.out (Nat.le_refl _) (Nat.le_refl _) HZ.out.1 HZ.out.2.1 ks ds (by rw[qa1];exact HKD.out.1) (by rw[q8k];exact HKD.out.2)).mono ?_;rintro e w5 ⟨rfl,kA,kC,dA,dC,hA5⟩;have r5:=hA5.row;have e0:=r5.cell 0;have e1:=r5.cell 1;have e2:=r5.cell 2;have e3:=r5.cell 3;have e4:=r5.cell 4;simp only[List.set_cons_zero,List.set_cons_succ,List.getElem?_cons_zero,List.getElem?_cons_succ,Nat.zero_add] at e0 e1 e2 e3 e4;have HA5:=aA hA5;clear hA5 r5)
    |(go_at_call 145;refine(q9i base w.heap.size g' C' qs' root (dS kA kC ks dA dC ds) _ (qsb HGA.out HWb.out HA5.out.kept) (q3y HA5.out HZ.out.2.2.1 HZ.out.2.2.2).1 (q3y HA5.out HZ.out.2.2.1 HZ.out.2.2.2).2.1 (zW HGA.out HWb.out HA5.out).1 (zW HGA.out HWb.out HA5.out).2 (qsd HGA.out.few) (Nat.le_trans hBW HA5.out.kept.size)).mono ?_;rintro e w6 ⟨rfl,g2,C2,hT6,hk6,hg6⟩;have f1:=hT6.box.cell 1;have ff:=hT6.box.frozen 1;simp only[List.getElem?_cons_zero,List.getElem?_cons_succ] at f1;have f0:=hT6.box.cell 0;simp only[List.getElem?_cons_zero] at f0;have HT6:=aA (And.intro hT6 (And.intro hk6 hg6));have tl6:=hT6.box.lt;clear hT6 hk6 hg6)
    |(go_at_call 146;refine(q1s base w.heap.size g2 C2 (qs'++[dS kA kC ks dA dC ds]) (qs'.length:Int) qs'.length _ (HT6.out.1.setRoot _) (by simp) (qkb HGA.out hm HKD.out hmN) (qrf hBW HA5.out.kept HT6.out.2.1) (qra HGA.out.few HKD.out)).mono ?_;rintro e w7 ⟨vm7,g7,C7,qs7,rfl,hs7⟩))
   go_roundw
   case rel=>exact⟨g7,C7,qs7,_,_,(qgl HGA.out hm HWb.out HA5.out HKD.out HT6.out.1 HT6.out.2.1 HT6.out.2.2 hs7).1⟩
   case measure=>
    have:=(qgl HGA.out hm HWb.out HA5.out HKD.out HT6.out.1 HT6.out.2.1 HT6.out.2.2 hs7).2;exact this

end
section
open Go.RowKit Plain

theorem q4v(key:Int)(w:World):Calls Tryz.prog 135 #[.int .i64 key] w fun e w'=>e=.returned (.bool (inB key 0 1099511627775))/\w'=w:=by
 by_cases h1:0<=key<;>by_cases h2:key<1099511627776<;>
 ·go_enter Tryz.func135,Tryz.ntmps135
  go_wp2;go_ret;refine⟨?_,rfl⟩
  have q:inB key 0 1099511627775=(decide (0<=key)&&decide (key<1099511627776)):=by
   unfold inB;congr 1;exact decide_eq_decide.2 (by omega)
  rw[q];simp[h1,h2]

def entC(x:En):Int:=if inB x.key 0 1099511627775=true/\¬x.c=0 then bU x.c x.s x.lo x.hi x.t x.l else 2
def ordB(xs:List En)(k:Nat):Bool:=decide (0<k)&&decide ((xs.getD k default).key<=(xs.getD (k-1) default).key)
def jR(xs:List En)(k:Nat):Int:=if ordB xs k=true then 8 else entC (xs.getD k default)
def fltF(xs:List En):Nat->Nat->Int
 |0,_=>0
 |f+1,k=>if jR xs k=0 then fltF xs f (k+1) else jR xs k
def eU(xs:List En):Int:=fltF xs xs.length 0

theorem qqv{xs:List En}{k:Nat}(hk:k<xs.length)(h:eU xs=fltF xs (xs.length-k) k)(h0:jR xs k=0):eU xs=fltF xs (xs.length-(k+1)) (k+1):=by
 rw[h,show xs.length-k=(xs.length-(k+1))+1 by omega,fltF,if_pos h0]
theorem qk7{xs:List En}{k:Nat}(hk:k<xs.length)(h:eU xs=fltF xs (xs.length-k) k)(h0:jR xs k≠0):eU xs=jR xs k:=by
 rw[h,show xs.length-k=(xs.length-(k+1))+1 by omega,fltF,if_neg h0]
theorem qnc{xs:List En}(h:eU xs=fltF xs (xs.length-xs.length) xs.length):eU xs=0:=by
 rw[h,Nat.sub_self];rfl

theorem qex{xs:List En}:∀(f k:Nat),k+f=xs.length->fltF xs f k=0->∀j,k<=j->j<xs.length->jR xs j=0
 |0,k,hk,_,j,h1,h2=>by omega
 |f+1,k,hk,h,j,h1,h2=>by
  rw[fltF] at h
  split at h
  ·rename_i h0
   by_cases e:j=k
   ·rw[e];exact h0
   ·exact qex f (k+1) (by omega) h j (by omega) h2
  ·rename_i h0;exact absurd h h0

theorem q1i{xs:List En}(h:eU xs=0):aK xs 0 1099511627776=true:=by
 have ha:=qex xs.length 0 (by omega) h
 have:∀(f k:Nat),k+f=xs.length->aK (xs.drop k) (fD xs 0 k) 1099511627776=true:=by
  intro f
  induction f with
  |zero=>intro k hk;rw[List.drop_eq_nil_of_le (by omega)];rfl
  |succ f ih=>
   intro k hk;have hlt:k<xs.length:=by omega
   rw[q0i hlt,ih (k+1) (by omega),Bool.and_true]
   have h0:=ha k (by omega) hlt
   unfold jR at h0
   split at h0
   ·omega
   ·rename_i ho
    have hg:xs.getD k default=xs[k]:=by simp[hlt]
    rw[hg] at h0;unfold entC at h0
    split at h0
    ·rename_i hc
     have h1:0<=xs[k].key/\xs[k].key<=1099511627775:=by simpa [inB] using hc.1
     have hl:fD xs 0 k<=xs[k].key:=by
      unfold fD
      split
      ·exact h1.1
      ·rename_i hk0
       simp only[ordB,Bool.and_eq_true,decide_eq_true_eq,not_and,hg] at ho;have:=ho (by omega)
       omega
     have hh:xs[k].key<1099511627776:=by omega
     simp[entB,hl,hh,hc.2,h0]
    ·omega
 have:=this xs.length 0 (by omega)
 simpa [fD] using this

theorem qfk(xs:List En):ordB xs 0=false:=by simp[ordB]
theorem q5s{xs:List En}{m:Nat}(h:m+1<xs.length):ordB xs (m+1)=decide (xs[m+1].key<=(xs[m]'(by omega)).key):=by
 simp[ordB,h,show m<xs.length by omega]

theorem qq5{xs:List En}{k:Nat}(hk:k<xs.length)(ho:ordB xs k=false):jR xs k=entC xs[k]:=by
 unfold jR;rw[ho];simp[hk]

end
end Go.Proofs.YtlojfgdpmaigmagGreatDoor

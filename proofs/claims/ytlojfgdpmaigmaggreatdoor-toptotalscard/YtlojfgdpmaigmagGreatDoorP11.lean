/- What comes together, in whatever order: rollups, and entries by their keys. -/
import Derived.Test.YtlojfgdpmaigmagGreatDoorP05
import Derived.Test.YtlojfgdpmaigmagGreatDoorP09
namespace Go.Proofs.YtlojfgdpmaigmagGreatDoor
section
open Go.RowKit Plain

theorem Ru.ext'{a b:Ru}(h1:a.c=b.c)(h2:a.s=b.s)(h3:a.lo=b.lo)(h4:a.hi=b.hi)(h5:a.t=b.t)(h6:a.l=b.l):a=b:=by
 cases a;cases b;simp at *;exact⟨h1,h2,h3,h4,h5,h6⟩

theorem qoh(a b:Int):mn a b=mn b a:=by unfold mn;split<;>split<;>omega
theorem qnb(a b:Int):mx a b=mx b a:=by unfold mx;split<;>split<;>omega
theorem qj8(a b c:Int):mn (mn a b) c=mn a (mn b c):=by
 unfold mn
 by_cases h1:a<=b<;>by_cases h2:b<=c<;>by_cases h3:a<=c<;>simp[h1,h2,h3]<;>omega
theorem qjl(a b c:Int):mx (mx a b) c=mx a (mx b c):=by
 unfold mx
 by_cases h1:a<=b<;>by_cases h2:b<=c<;>by_cases h3:a<=c<;>simp[h1,h2,h3]<;>omega

theorem ltr_iff{t l t' l':Int}:ltr t l t' l'=true↔t'<t\/(t=t'/\l'<l):=by simp[ltr]

theorem pI(a b:Ru):((jn a b).t=a.t/\(jn a b).l=a.l/\(b.t<a.t\/(a.t=b.t/\b.l<a.l)))\/((jn a b).t=b.t/\(jn a b).l=b.l/\¬(b.t<a.t\/(a.t=b.t/\b.l<a.l))):=by
 by_cases h:ltr a.t a.l b.t b.l=true
 ·left;refine⟨?_,?_,ltr_iff.1 h⟩<;>simp[jn,pk,h]
 ·right;refine⟨?_,?_,fun e=>h (ltr_iff.2 e)⟩<;>simp[jn,pk,h]

theorem q9m(a b:Ru):jn a b=jn b a:=by
 have h1:=pI a b;have h2:=pI b a;refine Ru.ext' (Int.add_comm _ _) (Int.add_comm _ _) (qoh _ _) (qnb _ _) ?_ ?_<;>omega

theorem qc1(a b c:Ru):jn (jn a b) c=jn a (jn b c):=by
 have h1:=pI a b;have h2:=pI (jn a b) c;have h3:=pI b c;have h4:=pI a (jn b c);refine Ru.ext' (Int.add_assoc _ _ _) (Int.add_assoc _ _ _) (qj8 _ _ _) (qjl _ _ _) ?_ ?_
 ·rcases h1 with h1|h1<;>rcases h3 with h3|h3<;>omega
 ·rcases h1 with h1|h1<;>rcases h3 with h3|h3<;>omega

def Good(a:Ru):Prop:=chk a=0/\a.c≠0

theorem good_iff{a:Ru}:Good a↔(1<=a.c/\a.c<=1073741824)/\(0<=a.t/\a.t<=1048575)/\ -1000000<=a.lo/\a.hi<=1000000/\(a.lo<=a.l/\a.l<=a.hi)/\(a.c*a.lo<=a.s/\a.s<=a.c*a.hi):=by
 constructor
 ·rintro⟨h,hc⟩;obtain⟨b1,b2,b3,b4,b5,b6⟩:=kT h;have m1:=rY (x:=a.lo) b1.1 b1.2 b4.1 b4.2;have m2:=rY (x:=a.hi) b1.1 b1.2 b5.1 b5.2
  have hf:jB a.c a.s a.lo a.hi a.t a.l=true:=by
   unfold chk bT at h
   split at h
   ·split at h
    ·assumption
    ·omega
   ·omega
  unfold jB at hf;rw[if_neg hc,w64 _ (by omega),w64 _ (by omega)] at hf
  simp only[Bool.and_eq_true,fH] at hf;exact⟨by omega,b3,b4.1,b5.2,hf.1,hf.2⟩
 ·rintro⟨h1,h2,h3,h4,h5,h6⟩;exact⟨qm6 (by omega) h1.2 h2 h3 h4 h5 h6,by omega⟩

theorem qsj(a b:Int):mn a b<=a/\mn a b<=b/\(mn a b=a\/mn a b=b):=by unfold mn;split<;>omega
theorem qs9(a b:Int):a<=mx a b/\b<=mx a b/\(mx a b=a\/mx a b=b):=by unfold mx;split<;>omega

theorem nR{a b:Ru}(ha:Good a)(hb:Good b)(h:a.c+b.c<=1073741824):Good (jn a b):=by
 rw[good_iff] at *;obtain⟨a1,a2,a3,a4,a5,a6⟩:=ha;obtain⟨b1,b2,b3,b4,b5,b6⟩:=hb;have n:=qsj a.lo b.lo;have x:=qs9 a.hi b.hi;have tl:=pI a b;have e1:(jn a b).lo=mn a.lo b.lo:=rfl;have e2:(jn a b).hi=mx a.hi b.hi:=rfl;have e3:(jn a b).c=a.c+b.c:=rfl;have e4:(jn a b).s=a.s+b.s:=rfl;have p1:=Int.mul_le_mul_of_nonneg_left n.1 (show 0<=a.c by omega)
 have p2:=Int.mul_le_mul_of_nonneg_left n.2.1 (show 0<=b.c by omega)
 have p3:=Int.mul_le_mul_of_nonneg_left x.1 (show 0<=a.c by omega)
 have p4:=Int.mul_le_mul_of_nonneg_left x.2.1 (show 0<=b.c by omega)
 rw[e1,e2,e3,e4,Int.add_mul,Int.add_mul];refine⟨by omega,by omega,by omega,by omega,by omega,by omega⟩

theorem oM{a b:Ru}(ha:Good a)(hb:Good b):mrg a b=if a.c+b.c<=1073741824 then(jn a b,0) else(zro,1):=by
 have ga:=good_iff.1 ha;have gb:=good_iff.1 hb
 split
 ·rename_i h
  refine qpf ha.1 hb.1 ha.2 hb.2 h ?_;have gj:=good_iff.1 (nR ha hb h);have hc:=kT (nR ha hb h).1;rw[fH];exact hc.2.1
 ·rename_i h
  exact qoi ha.1 hb.1 ha.2 hb.2 (fun e=>h e.1)

theorem uJ{b:Ru}(hb:Good b):mrg zro b=(b,0):=qn5 yA hb.1 rfl

def En.ru(x:En):Ru:=⟨x.c,x.s,x.lo,x.hi,x.t,x.l⟩
def mkE(k:Int)(r:Ru):En:=⟨k,r.c,r.s,r.lo,r.hi,r.t,r.l⟩
theorem qm0(k:Int)(r:Ru):(mkE k r).ru=r:=rfl
theorem qsq(x:En):mkE x.key x.ru=x:=rfl
theorem kD(k:Int)(r:Ru):(mkE k r).key=k:=rfl
theorem qsr(k:Int)(r:Ru):(mkE k r).c=r.c:=rfl

theorem q7d{x:En}{low high:Int}(h:entB x low high=true):Good x.ru:=by
 simp only[entB,Bool.and_eq_true,Bool.not_eq_true',beq_eq_false_iff_ne,beq_iff_eq] at h;exact⟨h.2,h.1.2⟩

theorem mZ{high:Int}:∀{xs:List En} {low:Int},aK xs low high=true->∀x∈xs,Good x.ru
 |[],_,_,x,hx=>by simp at hx
 |y::r,low,h,x,hx=>by
  simp only[aK,Bool.and_eq_true] at h;rcases List.mem_cons.1 hx with rfl|hx
  ·exact q7d h.1
  ·exact mZ h.2 x hx

def ins:List En->En->Option (List En)
 |[],x=>some [x]
 |y::r,x=>
  if x.key<y.key then some (x::y::r)
  else if y.key=x.key then(if y.c+x.c<=1073741824 then some (mkE x.key (jn y.ru x.ru)::r) else none)
  else(ins r x).map (y::·)
def insO(o:Option (List En))(x:En):Option (List En):=o.bind fun l=>ins l x
def allL(xs:List En):Option (List En):=xs.foldl insO (some [])

theorem gG{y x:En}{r:List En}(h:x.key<y.key):ins (y::r) x=some (x::y::r):=by simp[ins,h]
theorem dS{y x:En}{r:List En}(h:y.key=x.key):ins (y::r) x=if y.c+x.c<=1073741824 then some (mkE x.key (jn y.ru x.ru)::r) else none:=by
 simp[ins,h]
theorem eF{y x:En}{r:List En}(h:y.key<x.key):ins (y::r) x=(ins r x).map (y::·):=by
 simp only[ins];rw[if_neg (by omega),if_neg (by omega)]

theorem q0g{o:Option (List En)}{y x:En}(h:y.key<x.key):(o.map (y::·)).bind (ins · x)=(o.bind (ins · x)).map (y::·):=by
 cases o with
 |none=>rfl
 |some l=>simp[eF h]

theorem qav{x y:En}(hx:1<=x.c)(hy:1<=y.c):∀l:List En,(ins l x).bind (ins · y)=(ins l y).bind (ins · x)
 |[]=>by
  simp only[ins,Option.bind_some];rcases Int.lt_trichotomy x.key y.key with h|h|h
  ·have h1:¬y.key<x.key:=by omega
   have h2:¬x.key=y.key:=by omega
   simp[h,h1,h2]
  ·have h1:¬y.key<x.key:=by omega
   have h2:¬x.key<y.key:=by omega
   simp only[h,Int.lt_irrefl,if_false,if_true];rw[Int.add_comm y.c x.c,q9m y.ru x.ru]
  ·have h1:¬x.key<y.key:=by omega
   have h2:¬y.key=x.key:=by omega
   simp[h,h1,h2]
 |z::r=>by
  rcases Int.lt_trichotomy x.key z.key with hxz|hxz|hxz<;>rcases Int.lt_trichotomy y.key z.key with hyz|hyz|hyz
  ·rw[gG hxz,gG hyz];simp only[Option.bind_some];rcases Int.lt_trichotomy x.key y.key with h|h|h
   ·rw[eF h,gG h,gG hyz];rfl
   ·rw[dS h,dS h.symm,Int.add_comm y.c x.c,q9m y.ru x.ru,h]
   ·rw[gG h,eF h,gG hxz];rfl
  ·rw[gG hxz,dS hyz.symm];simp only[Option.bind_some];rw[eF (by omega),dS hyz.symm]
   split
   ·simp only[Option.map_some,Option.bind_some];rw[gG (by rw[kD];omega)]
   ·rfl
  ·rw[gG hxz,eF hyz];simp only[Option.bind_some];rw[eF (by omega),eF hyz]
   cases ins r y with
   |none=>rfl
   |some l=>simp[gG hxz]
  ·rw[dS hxz.symm,gG hyz];simp only[Option.bind_some];rw[eF (by omega),dS hxz.symm]
   split
   ·simp only[Option.map_some,Option.bind_some];rw[gG (by rw[kD];omega)]
   ·rfl
  ·rw[dS hxz.symm,dS hyz.symm];have hxy:x.key=y.key:=by omega
   by_cases h1:z.c+x.c<=1073741824<;>by_cases h2:z.c+y.c<=1073741824
   ·simp only[h1,h2,if_true,Option.bind_some];rw[dS (by rw[kD];exact hxy),dS (by rw[kD];exact hxy.symm)]
    show(if z.c+x.c+y.c<=1073741824 then some (mkE y.key (jn (jn z.ru x.ru) y.ru)::r) else none)=if z.c+y.c+x.c<=1073741824 then some (mkE x.key (jn (jn z.ru y.ru) x.ru)::r) else none
    rw[qc1,qc1,q9m x.ru y.ru,hxy]
    by_cases h3:z.c+x.c+y.c<=1073741824
    ·rw[if_pos h3,if_pos (by omega)]
    ·rw[if_neg h3,if_neg (by omega)]
   ·simp only[h1,h2,if_true,if_false,Option.bind_some,Option.bind_none];rw[dS (by rw[kD];exact hxy)]
    exact if_neg (show ¬z.c+x.c+y.c<=1073741824 by omega)
   ·simp only[h1,h2,if_true,if_false,Option.bind_some,Option.bind_none];rw[dS (by rw[kD];exact hxy.symm)]
    exact(if_neg (show ¬z.c+y.c+x.c<=1073741824 by omega)).symm
   ·simp[h1,h2]
  ·rw[dS hxz.symm,eF hyz]
   by_cases h1:z.c+x.c<=1073741824
   ·simp only[h1,if_true,Option.bind_some];rw[eF (by rw[kD];omega)]
    cases ins r y with
    |none=>rfl
    |some l=>simp[dS hxz.symm,h1]
   ·simp only[h1,if_false,Option.bind_none];cases ins r y with
    |none=>rfl
    |some l=>simp[dS hxz.symm,h1]
  ·rw[eF hxz,gG hyz];simp only[Option.bind_some];rw[eF (by omega),eF hxz]
   cases ins r x with
   |none=>rfl
   |some l=>simp[gG hyz]
  ·rw[eF hxz,dS hyz.symm]
   by_cases h1:z.c+y.c<=1073741824
   ·simp only[h1,if_true,Option.bind_some];rw[eF (by rw[kD];omega)]
    cases ins r x with
    |none=>rfl
    |some l=>simp[dS hyz.symm,h1]
   ·simp only[h1,if_false,Option.bind_none];cases ins r x with
    |none=>rfl
    |some l=>simp[dS hyz.symm,h1]
  ·rw[eF hxz,eF hyz,q0g hyz,q0g hxz,qav hx hy r]

theorem pY{l₁ l₂:List En}(h:l₁.Perm l₂)(hp:∀x∈l₁,1<=x.c):allL l₁=allL l₂:=by
 unfold allL;refine h.foldl_eq' (fun x hx y hy z=>?_) _
 cases z with
 |none=>rfl
 |some l=>exact qav (hp x hx) (hp y hy) l

def nT(x:Nd):Prop:=x.ents.length<=6/\x.buf.length<=8/\(∀y∈x.ents,Good y.ru)/\∀y∈x.buf,Good y.ru

theorem qmx{x:Nd}{low high:Int}{f:Nat}(h:jC x low high f=true):nT x:=by
 obtain⟨_,_,h3,h4,_,h6⟩:=leafB_iff.1 h;exact⟨h4,by rw[h3];simp,mZ h6,by rw[h3];simp⟩

theorem qke{x:Nd}{low high:Int}(h:jA x low high=true):nT x:=by
 obtain⟨h1,_,_,_,h5,h6⟩:=kV h;exact⟨by rw[h1];simp,h5,by rw[h1];simp,mZ h6⟩

theorem qfb{ns:List Nd}{g:Int->Int->Int->St->Option (St × List Int)}(hg:∀d lo hi S S' l,g d lo hi S=some (S',l)->∀p∈S',p∈S\/nT (ns.getD p.1.toNat default)):
  ∀(ds keys:List Int) (lo hi:Int) (S S':St) (l:List Int),Wk g ds keys lo hi S=some (S',l)->∀p∈S',p∈S\/nT (ns.getD p.1.toNat default)
 |[],_,_,_,_,_,_,h,p,hp=>by cases h;exact .inl hp
 |d::ds,keys,lo,hi,S,S',l,hr,p,hp=>by
  unfold Wk at hr
  split at hr
  ·cases hr
  ·rename_i S1 l1 h1
   split at hr
   ·cases hr
   ·rename_i S2 l2 h2
    cases hr;rcases qfb hg _ _ _ _ _ _ _ h2 p hp with h|h
    ·exact hg _ _ _ _ _ _ h1 p h
    ·exact .inr h

theorem qpk{ns:List Nd}:∀(f:Nat) (n lo hi:Int) (S S':St) (l:List Int),W ns f n lo hi S=some (S',l)->∀p∈S',p∈S\/nT (ns.getD p.1.toNat default):=by
 intro f
 induction f with
 |zero=>intro n lo hi S S' l h;cases h
 |succ f ih=>
  intro n lo hi S S' l h p hp;unfold W at h
  split at h
  ·cases h
  ·split at h
   ·split at h
    ·rename_i hl
     cases h;rcases List.mem_cons.1 hp with rfl|hp
     ·exact .inr (qmx hl)
     ·exact .inl hp
    ·cases h
   ·split at h
    ·rename_i hin
     rcases qfb ih _ _ _ _ _ _ _ h p hp with h|h
     ·rcases List.mem_cons.1 h with rfl|h
      ·exact .inr (qke hin)
      ·exact .inl h
     ·exact .inr h
    ·cases h

theorem tJ{ns:List Nd}{root:Int}(h:aV ns root=0):ns.length<=2000/\∀i (hi:i<ns.length),nT ns[i]:=by
 unfold aV at h
 split at h
 ·omega
 ·rename_i hn
  refine⟨by omega,fun i hi=>?_⟩
  cases hW:W ns 12 root 0 1099511627776 [] with
  |none=>rw[hW] at h;simp at h
  |some p=>
   obtain⟨S,l⟩:=p;rw[hW] at h;simp only at h
   split at h
   ·rename_i hc
    have hst:=(W_st 12 _ _ _ _ _ _ hW ⟨by simp,by simp⟩).1
    have hseen:=(qaq hst).1 hc.2 i hi;obtain⟨p,hp,hpe⟩:=List.mem_map.1 (seenB_iff.1 hseen);rcases qpk 12 _ _ _ _ _ _ hW p hp with h|h
    ·simp at h
    ·rw[hpe] at h
     simpa [hi] using h
   ·omega

def Nd.lst(x:Nd):List En:=x.ents++x.buf
def qst(ns:List Nd)(i k:Nat):List En:=(ns.take i).flatMap Nd.lst++((ns.getD i default).lst).take k

def allR(low high:Int)(xs:List En):Option (List En):=allL (xs.filter (inR low high))

theorem wP(xs:List En)(x:En):allL (xs++[x])=insO (allL xs) x:=by simp[allL]

theorem jY:∀ys:List En,ys.foldl insO none=none
 |[]=>rfl
 |_::r=>jY r
theorem qqd{low high:Int}{xs ys:List En}(h:allR low high xs=none):allR low high (xs++ys)=none:=by
 unfold allR allL at *;rw[List.filter_append,List.foldl_append,h,jY]

theorem mD{x:En}(hx:Good x.ru):∀{l r:List En},(∀y∈l,Good y.ru)->ins l x=some r->(∀y∈r,Good y.ru)/\r.length<=l.length+1
 |[],r,_,h=>by simp[ins] at h;subst h;simpa using hx
 |y::l,r,hl,h=>by
  have hy:=hl y List.mem_cons_self;have hl':∀z∈l,Good z.ru:=fun z hz=>hl z (List.mem_cons_of_mem _ hz)
  simp only[ins] at h
  split at h
  ·cases h;refine⟨fun z hz=>?_,by simp⟩
   rcases List.mem_cons.1 hz with rfl|hz
   ·exact hx
   ·exact hl z hz
  ·split at h
   ·split at h
    ·rename_i hc
     cases h;refine⟨fun z hz=>?_,by simp⟩
     rcases List.mem_cons.1 hz with rfl|hz
     ·exact nR hy hx hc
     ·exact hl' z hz
    ·cases h
   ·cases hr:ins l x with
    |none=>rw[hr] at h;cases h
    |some q=>
     rw[hr] at h;cases h;have ih:=mD hx hl' hr;refine⟨fun z hz=>?_,by simp;omega⟩
     rcases List.mem_cons.1 hz with rfl|hz
     ·exact hy
     ·exact ih.1 z hz

def cntK(k:Int):List En->Int
 |[]=>0
 |y::r=>(if y.key=k then y.c else 0)+cntK k r

theorem oG(k:Int):∀l m:List En,cntK k (l++m)=cntK k l+cntK k m
 |[],m=>by simp[cntK]
 |y::r,m=>by simp only[List.cons_append,cntK,oG k r m];omega

theorem q1r{k:Int}{l m:List En}(h:l.Perm m):cntK k l=cntK k m:=by
 induction h with
 |nil=>rfl
 |cons x _ ih=>simp only[cntK,ih]
 |swap x y l=>simp only[cntK];omega
 |trans _ _ h1 h2=>rw[h1,h2]

def Pos(l:List En):Prop:=∀y∈l,1<=y.c

theorem nP{k:Int}:∀{l:List En},Pos l->0<=cntK k l
 |[],_=>Int.le_refl _
 |y::r,h=>by
  have h1:=h y List.mem_cons_self;have h2:=nP (k:=k) (l:=r) fun z hz=>h z (List.mem_cons_of_mem _ hz)
  simp only[cntK]
  split<;>omega

theorem Pos.app{l m:List En}(h:Pos l)(k:Pos m):Pos (l++m):=fun y hy=>(List.mem_append.1 hy).elim (h y) (k y)
theorem Pos.left{l m:List En}(h:Pos (l++m)):Pos l:=fun y hy=>h y (List.mem_append_left _ hy)
theorem Pos.right{l m:List En}(h:Pos (l++m)):Pos m:=fun y hy=>h y (List.mem_append_right _ hy)
theorem Pos.perm{l m:List En}(h:Pos l)(p:l.Perm m):Pos m:=fun y hy=>h y (p.mem_iff.2 hy)

structure Eqv(l m:List En):Prop where
 all:∀r,Pos r->allL (l++r)=allL (m++r)
 cnt:∀k,cntK k l=cntK k m
 posl:Pos l
 posm:Pos m

theorem Eqv.refl{l:List En}(h:Pos l):Eqv l l:=⟨fun _ _=>rfl,fun _=>rfl,h,h⟩
theorem Eqv.symm{l m:List En}(h:Eqv l m):Eqv m l:=⟨fun r hr=>(h.all r hr).symm,fun k=>(h.cnt k).symm,h.posm,h.posl⟩
theorem Eqv.trans{l m n:List En}(h:Eqv l m)(k:Eqv m n):Eqv l n:=⟨fun r hr=>(h.all r hr).trans (k.all r hr),fun q=>(h.cnt q).trans (k.cnt q),h.posl,k.posm⟩
theorem Eqv.of_perm{l m:List En}(h:l.Perm m)(hp:Pos l):Eqv l m:=⟨fun r hr=>pY (h.append_right r) (hp.app hr),fun _=>q1r h,hp,hp.perm h⟩
theorem Eqv.app{l m:List En}(h:Eqv l m){r:List En}(hr:Pos r):Eqv (l++r) (m++r):=
 ⟨fun s hs=>by rw[List.append_assoc,List.append_assoc];exact h.all _ (hr.app hs),fun k=>by rw[oG,oG,h.cnt],h.posl.app hr,h.posm.app hr⟩
theorem Eqv.app_left{l m:List En}(h:Eqv l m){r:List En}(hr:Pos r):Eqv (r++l) (r++m):=
 (Eqv.of_perm List.perm_append_comm (hr.app h.posl)).trans ((h.app hr).trans (Eqv.of_perm List.perm_append_comm (h.posm.app hr)))
theorem Eqv.eq{l m:List En}(h:Eqv l m):allL l=allL m:=by simpa using h.all [] (by intro y hy;simp at hy)

theorem Eqv.join{x y:En}(hk:y.key=x.key)(hx:Good x.ru)(hy:Good y.ru)(hc:y.c+x.c<=1073741824):Eqv [y,x] [mkE x.key (jn y.ru x.ru)]:=by
 have gx:=(good_iff.1 hx).1;have gy:=(good_iff.1 hy).1;have cx:x.ru.c=x.c:=rfl;have cy:y.ru.c=y.c:=rfl;have cj:(mkE x.key (jn y.ru x.ru)).c=y.c+x.c:=rfl;refine⟨fun r _=>?_,fun k=>?_,fun z hz=>?_,fun z hz=>?_⟩
 ·have e:insO (insO (some []) y) x=insO (some []) (mkE x.key (jn y.ru x.ru)):=by
   show ins [y] x=some [mkE x.key (jn y.ru x.ru)];rw[dS hk,if_pos hc]
  show r.foldl insO (insO (insO (some []) y) x)=r.foldl insO (insO (some []) (mkE x.key (jn y.ru x.ru)));rw[e]
 ·simp only[cntK,kD,cj,hk]
  split<;>omega
 ·rcases List.mem_cons.1 hz with rfl|hz
  ·omega
  ·obtain rfl:z=x:=by simpa using hz
   omega
 ·obtain rfl:z=mkE x.key (jn y.ru x.ru):=by simpa using hz
  omega

end
end Go.Proofs.YtlojfgdpmaigmagGreatDoor

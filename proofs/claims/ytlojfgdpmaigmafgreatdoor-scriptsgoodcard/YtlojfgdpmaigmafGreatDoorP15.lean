/- What comes together, in whatever order: rollups, and entries by their keys. -/
import Derived.Test.YtlojfgdpmaigmafGreatDoorP09
import Derived.Test.YtlojfgdpmaigmafGreatDoorP14
import Derived.Test.YtlojfgdpmaigmafGreatDoorP12
import Derived.Deep.DeepCutAuto
namespace Go.Proofs.YtlojfgdpmaigmafGreatDoor
section
open Go.RowKit Plain

theorem Ru.ext'{a b:Ru}(h1:a.c=b.c)(h2:a.s=b.s)(h3:a.lo=b.lo)(h4:a.hi=b.hi)(h5:a.t=b.t)(h6:a.l=b.l):a=b:=by
 cases a;cases b;simp at *;exact⟨h1,h2,h3,h4,h5,h6⟩

theorem qzd(a b:Int):mn a b=mn b a:=by unfold mn;split<;>split<;>omega
theorem qzb(a b:Int):mx a b=mx b a:=by unfold mx;split<;>split<;>omega
theorem qw3(a b c:Int):mn (mn a b) c=mn a (mn b c):=by
 unfold mn
 by_cases h1:a<=b<;>by_cases h2:b<=c<;>by_cases h3:a<=c<;>simp[h1,h2,h3]<;>omega
theorem qvx(a b c:Int):mx (mx a b) c=mx a (mx b c):=by
 unfold mx
 by_cases h1:a<=b<;>by_cases h2:b<=c<;>by_cases h3:a<=c<;>simp[h1,h2,h3]<;>omega

theorem ltr_iff{t l t' l':Int}:ltr t l t' l'=true↔t'<t\/(t=t'/\l'<l):=by simp[ltr]

theorem qha(a b:Ru):((jn a b).t=a.t/\(jn a b).l=a.l/\(b.t<a.t\/(a.t=b.t/\b.l<a.l)))\/((jn a b).t=b.t/\(jn a b).l=b.l/\¬(b.t<a.t\/(a.t=b.t/\b.l<a.l))):=by
 by_cases h:ltr a.t a.l b.t b.l=true
 ·left
  refine⟨?_,?_,ltr_iff.1 h⟩<;>simp[jn,pk,h]
 ·right
  refine⟨?_,?_,fun e=>h (ltr_iff.2 e)⟩<;>simp[jn,pk,h]

theorem qk5(a b:Ru):jn a b=jn b a:=by
 have h1:=qha a b
 have h2:=qha b a
 refine Ru.ext' (Int.add_comm _ _) (Int.add_comm _ _) (qzd _ _) (qzb _ _) ?_ ?_<;>omega

theorem qlf(a b c:Ru):jn (jn a b) c=jn a (jn b c):=by
 have h1:=qha a b
 have h2:=qha (jn a b) c
 have h3:=qha b c
 have h4:=qha a (jn b c)
 refine Ru.ext' (Int.add_assoc _ _ _) (Int.add_assoc _ _ _) (qw3 _ _ _) (qvx _ _ _) ?_ ?_
 ·rcases h1 with h1|h1<;>rcases h3 with h3|h3<;>omega
 ·rcases h1 with h1|h1<;>rcases h3 with h3|h3<;>omega

def Good(a:Ru):Prop:=chk a=0/\a.c≠0

theorem good_iff{a:Ru}:Good a↔(1<=a.c/\a.c<=1073741824)/\(0<=a.t/\a.t<=1048575)/\ -1000000<=a.lo/\a.hi<=1000000/\(a.lo<=a.l/\a.l<=a.hi)/\(a.c*a.lo<=a.s/\a.s<=a.c*a.hi):=by
 constructor
 ·rintro⟨h,hc⟩
  obtain⟨b1,b2,b3,b4,b5,b6⟩:=q1x h
  have m1:=qp1 (x:=a.lo) b1.1 b1.2 b4.1 b4.2
  have m2:=qp1 (x:=a.hi) b1.1 b1.2 b5.1 b5.2
  have hf:qa8 a.c a.s a.lo a.hi a.t a.l=true:=by
   unfold chk q1i at h
   split at h
   ·split at h
    ·assumption
    ·omega
   ·omega
  unfold qa8 at hf
  rw[if_neg hc,w64 _ (by omega),w64 _ (by omega)] at hf
  simp only[Bool.and_eq_true,q3o] at hf
  exact⟨by omega,b3,b4.1,b5.2,hf.1,hf.2⟩
 ·rintro⟨h1,h2,h3,h4,h5,h6⟩
  exact⟨qxf (by omega) h1.2 h2 h3 h4 h5 h6,by omega⟩

theorem z3t(a b:Int):mn a b<=a/\mn a b<=b/\(mn a b=a\/mn a b=b):=by unfold mn;split<;>omega
theorem z4j(a b:Int):a<=mx a b/\b<=mx a b/\(mx a b=a\/mx a b=b):=by unfold mx;split<;>omega

theorem q9d{a b:Ru}(ha:Good a)(hb:Good b)(h:a.c+b.c<=1073741824):Good (jn a b):=by
 rw[good_iff] at *
 obtain⟨a1,a2,a3,a4,a5,a6⟩:=ha
 obtain⟨b1,b2,b3,b4,b5,b6⟩:=hb
 have n:=z3t a.lo b.lo
 have x:=z4j a.hi b.hi
 have tl:=qha a b
 have e1:(jn a b).lo=mn a.lo b.lo:=rfl
 have e2:(jn a b).hi=mx a.hi b.hi:=rfl
 have e3:(jn a b).c=a.c+b.c:=rfl
 have e4:(jn a b).s=a.s+b.s:=rfl
 have p1:=Int.mul_le_mul_of_nonneg_left n.1 (show 0<=a.c by omega)
 have p2:=Int.mul_le_mul_of_nonneg_left n.2.1 (show 0<=b.c by omega)
 have p3:=Int.mul_le_mul_of_nonneg_left x.1 (show 0<=a.c by omega)
 have p4:=Int.mul_le_mul_of_nonneg_left x.2.1 (show 0<=b.c by omega)
 rw[e1,e2,e3,e4,Int.add_mul,Int.add_mul]
 refine⟨by omega,by omega,by omega,by omega,by omega,by omega⟩

theorem q8e{a b:Ru}(ha:Good a)(hb:Good b):mrg a b=if a.c+b.c<=1073741824 then(jn a b,0) else(zro,1):=by
 have ga:=good_iff.1 ha
 have gb:=good_iff.1 hb
 split
 ·rename_i h
  refine z1j ha.1 hb.1 ha.2 hb.2 h ?_
  have gj:=good_iff.1 (q9d ha hb h)
  have hc:=q1x (q9d ha hb h).1
  rw[q3o]
  exact hc.2.1
 ·rename_i h
  exact qxy ha.1 hb.1 ha.2 hb.2 (fun e=>h e.1)

theorem qg9{b:Ru}(hb:Good b):mrg zro b=(b,0):=z2c qxr hb.1 rfl

def En.ru(x:En):Ru:=⟨x.c,x.s,x.lo,x.hi,x.t,x.l⟩
def mkE(k:Int)(r:Ru):En:=⟨k,r.c,r.s,r.lo,r.hi,r.t,r.l⟩
theorem qwy(k:Int)(r:Ru):(mkE k r).ru=r:=rfl
theorem z4y(x:En):mkE x.key x.ru=x:=rfl
theorem q5q(k:Int)(r:Ru):(mkE k r).key=k:=rfl
theorem z4z(k:Int)(r:Ru):(mkE k r).c=r.c:=rfl

theorem qiz{x:En}{low high:Int}(h:entB x low high=true):Good x.ru:=by
 simp only[entB,Bool.and_eq_true,Bool.not_eq_true',beq_eq_false_iff_ne,beq_iff_eq] at h
 exact⟨h.2,h.1.2⟩

theorem q3w{high:Int}:∀{xs:List En} {low:Int},q0r xs low high=true->∀x∈xs,Good x.ru
 |[],_,_,x,hx=>by simp at hx
 |y::r,low,h,x,hx=>by
  simp only[q0r,Bool.and_eq_true] at h
  rcases List.mem_cons.1 hx with rfl|hx
  ·exact qiz h.1
  ·exact q3w h.2 x hx

def ins:List En->En->Option (List En)
 |[],x=>some [x]
 |y::r,x=>
  if x.key<y.key then some (x::y::r)
  else if y.key=x.key then(if y.c+x.c<=1073741824 then some (mkE x.key (jn y.ru x.ru)::r) else none)
  else(ins r x).map (y::·)
def insO(o:Option (List En))(x:En):Option (List En):=o.bind fun l=>ins l x
def allL(xs:List En):Option (List En):=xs.foldl insO (some [])

theorem q4h{y x:En}{r:List En}(h:x.key<y.key):ins (y::r) x=some (x::y::r):=by simp[ins,h]
theorem q2q{y x:En}{r:List En}(h:y.key=x.key):ins (y::r) x=if y.c+x.c<=1073741824 then some (mkE x.key (jn y.ru x.ru)::r) else none:=by
 simp[ins,h]
theorem q3d{y x:En}{r:List En}(h:y.key<x.key):ins (y::r) x=(ins r x).map (y::·):=by
 simp only[ins]
 rw[if_neg (by omega),if_neg (by omega)]

theorem qab{o:Option (List En)}{y x:En}(h:y.key<x.key):(o.map (y::·)).bind (ins · x)=(o.bind (ins · x)).map (y::·):=by
 cases o with
 |none=>rfl
 |some l=>simp[q3d h]

theorem qlr{x y:En}(hx:1<=x.c)(hy:1<=y.c):∀l:List En,(ins l x).bind (ins · y)=(ins l y).bind (ins · x)
 |[]=>by
  simp only[ins,Option.bind_some]
  rcases Int.lt_trichotomy x.key y.key with h|h|h
  ·have h1:¬y.key<x.key:=by omega
   have h2:¬x.key=y.key:=by omega
   simp[h,h1,h2]
  ·have h1:¬y.key<x.key:=by omega
   have h2:¬x.key<y.key:=by omega
   simp only[h,Int.lt_irrefl,if_false,if_true]
   rw[Int.add_comm y.c x.c,qk5 y.ru x.ru]
  ·have h1:¬x.key<y.key:=by omega
   have h2:¬y.key=x.key:=by omega
   simp[h,h1,h2]
 |z::r=>by
  rcases Int.lt_trichotomy x.key z.key with hxz|hxz|hxz<;>rcases Int.lt_trichotomy y.key z.key with hyz|hyz|hyz
  ·rw[q4h hxz,q4h hyz]
   simp only[Option.bind_some]
   rcases Int.lt_trichotomy x.key y.key with h|h|h
   ·rw[q3d h,q4h h,q4h hyz];rfl
   ·rw[q2q h,q2q h.symm,Int.add_comm y.c x.c,qk5 y.ru x.ru,h]
   ·rw[q4h h,q3d h,q4h hxz];rfl
  ·rw[q4h hxz,q2q hyz.symm]
   simp only[Option.bind_some]
   rw[q3d (by omega),q2q hyz.symm]
   split
   ·simp only[Option.map_some,Option.bind_some]
    rw[q4h (by rw[q5q];omega)]
   ·rfl
  ·rw[q4h hxz,q3d hyz]
   simp only[Option.bind_some]
   rw[q3d (by omega),q3d hyz]
   cases ins r y with
   |none=>rfl
   |some l=>simp[q4h hxz]
  ·rw[q2q hxz.symm,q4h hyz]
   simp only[Option.bind_some]
   rw[q3d (by omega),q2q hxz.symm]
   split
   ·simp only[Option.map_some,Option.bind_some]
    rw[q4h (by rw[q5q];omega)]
   ·rfl
  ·rw[q2q hxz.symm,q2q hyz.symm]
   have hxy:x.key=y.key:=by omega
   by_cases h1:z.c+x.c<=1073741824<;>by_cases h2:z.c+y.c<=1073741824
   ·simp only[h1,h2,if_true,Option.bind_some]
    rw[q2q (by rw[q5q];exact hxy),q2q (by rw[q5q];exact hxy.symm)]
    show(if z.c+x.c+y.c<=1073741824 then some (mkE y.key (jn (jn z.ru x.ru) y.ru)::r) else none)=if z.c+y.c+x.c<=1073741824 then some (mkE x.key (jn (jn z.ru y.ru) x.ru)::r) else none
    rw[qlf,qlf,qk5 x.ru y.ru,hxy]
    by_cases h3:z.c+x.c+y.c<=1073741824
    ·rw[if_pos h3,if_pos (by omega)]
    ·rw[if_neg h3,if_neg (by omega)]
   ·simp only[h1,h2,if_true,if_false,Option.bind_some,Option.bind_none]
    rw[q2q (by rw[q5q];exact hxy)]
    exact if_neg (show ¬z.c+x.c+y.c<=1073741824 by omega)
   ·simp only[h1,h2,if_true,if_false,Option.bind_some,Option.bind_none]
    rw[q2q (by rw[q5q];exact hxy.symm)]
    exact(if_neg (show ¬z.c+y.c+x.c<=1073741824 by omega)).symm
   ·simp[h1,h2]
  ·rw[q2q hxz.symm,q3d hyz]
   by_cases h1:z.c+x.c<=1073741824
   ·simp only[h1,if_true,Option.bind_some]
    rw[q3d (by rw[q5q];omega)]
    cases ins r y with
    |none=>rfl
    |some l=>simp[q2q hxz.symm,h1]
   ·simp only[h1,if_false,Option.bind_none]
    cases ins r y with
    |none=>rfl
    |some l=>simp[q2q hxz.symm,h1]
  ·rw[q3d hxz,q4h hyz]
   simp only[Option.bind_some]
   rw[q3d (by omega),q3d hxz]
   cases ins r x with
   |none=>rfl
   |some l=>simp[q4h hyz]
  ·rw[q3d hxz,q2q hyz.symm]
   by_cases h1:z.c+y.c<=1073741824
   ·simp only[h1,if_true,Option.bind_some]
    rw[q3d (by rw[q5q];omega)]
    cases ins r x with
    |none=>rfl
    |some l=>simp[q2q hyz.symm,h1]
   ·simp only[h1,if_false,Option.bind_none]
    cases ins r x with
    |none=>rfl
    |some l=>simp[q2q hyz.symm,h1]
  ·rw[q3d hxz,q3d hyz,qab hyz,qab hxz,qlr hx hy r]

theorem q6r{l₁ l₂:List En}(h:l₁.Perm l₂)(hp:∀x∈l₁,1<=x.c):allL l₁=allL l₂:=by
 unfold allL
 refine h.foldl_eq' (fun x hx y hy z=>?_) _
 cases z with
 |none=>rfl
 |some l=>exact qlr (hp x hx) (hp y hy) l

def qac(x:Nd):Prop:=x.ents.length<=6/\x.buf.length<=8/\(∀y∈x.ents,Good y.ru)/\∀y∈x.buf,Good y.ru

theorem z0g{x:Nd}{low high:Int}{f:Nat}(h:qa5 x low high f=true):qac x:=by
 obtain⟨_,_,h3,h4,_,h6⟩:=leafB_iff.1 h
 exact⟨h4,by rw[h3];simp,q3w h6,by rw[h3];simp⟩

theorem qwu{x:Nd}{low high:Int}(h:q6x x low high=true):qac x:=by
 obtain⟨h1,_,_,_,h5,h6⟩:=q2l h
 exact⟨by rw[h1];simp,h5,by rw[h1];simp,q3w h6⟩

theorem qsr{ns:List Nd}{g:Int->Int->Int->St->Option (St × List Int)}(hg:∀d lo hi S S' l,g d lo hi S=some (S',l)->∀p∈S',p∈S\/qac (ns.getD p.1.toNat default)):
  ∀(ds keys:List Int) (lo hi:Int) (S S':St) (l:List Int),Wk g ds keys lo hi S=some (S',l)->∀p∈S',p∈S\/qac (ns.getD p.1.toNat default)
 |[],_,_,_,_,_,_,h,p,hp=>by cases h;exact .inl hp
 |d::ds,keys,lo,hi,S,S',l,hr,p,hp=>by
  unfold Wk at hr
  split at hr
  ·cases hr
  ·rename_i S1 l1 h1
   split at hr
   ·cases hr
   ·rename_i S2 l2 h2
    cases hr
    rcases qsr hg _ _ _ _ _ _ _ h2 p hp with h|h
    ·exact hg _ _ _ _ _ _ h1 p h
    ·exact .inr h

theorem z3k{ns:List Nd}:∀(f:Nat) (n lo hi:Int) (S S':St) (l:List Int),W ns f n lo hi S=some (S',l)->∀p∈S',p∈S\/qac (ns.getD p.1.toNat default):=by
 intro f
 induction f with
 |zero=>intro n lo hi S S' l h;cases h
 |succ f ih=>
  intro n lo hi S S' l h p hp
  unfold W at h
  split at h
  ·cases h
  ·split at h
   ·split at h
    ·rename_i hl
     cases h
     rcases List.mem_cons.1 hp with rfl|hp
     ·exact .inr (z0g hl)
     ·exact .inl hp
    ·cases h
   ·split at h
    ·rename_i hin
     rcases qsr ih _ _ _ _ _ _ _ h p hp with h|h
     ·rcases List.mem_cons.1 h with rfl|h
      ·exact .inr (qwu hin)
      ·exact .inl h
     ·exact .inr h
    ·cases h

theorem q9b{ns:List Nd}{root:Int}(h:q1k ns root=0):ns.length<=2000/\∀i (hi:i<ns.length),qac ns[i]:=by
 unfold q1k at h
 split at h
 ·omega
 ·rename_i hn
  refine⟨by omega,fun i hi=>?_⟩
  cases hW:W ns 12 root 0 1099511627776 [] with
  |none=>rw[hW] at h;simp at h
  |some p=>
   obtain⟨S,l⟩:=p
   rw[hW] at h
   simp only at h
   split at h
   ·rename_i hc
    have hst:=(W_st 12 _ _ _ _ _ _ hW ⟨by simp,by simp⟩).1
    have hseen:=(qlo hst).1 hc.2 i hi
    obtain⟨p,hp,hpe⟩:=List.mem_map.1 (seenB_iff.1 hseen)
    rcases z3k 12 _ _ _ _ _ _ hW p hp with h|h
    ·simp at h
    ·rw[hpe] at h
     simpa [hi] using h
   ·omega

def Nd.lst(x:Nd):List En:=x.ents++x.buf
def z5a(ns:List Nd)(i k:Nat):List En:=(ns.take i).flatMap Nd.lst++((ns.getD i default).lst).take k

def allR(low high:Int)(xs:List En):Option (List En):=allL (xs.filter (inR low high))

theorem qb6(xs:List En)(x:En):allL (xs++[x])=insO (allL xs) x:=by simp[allL]

theorem q3j:∀ys:List En,ys.foldl insO none=none
 |[]=>rfl
 |_::r=>q3j r
theorem z0v{low high:Int}{xs ys:List En}(h:allR low high xs=none):allR low high (xs++ys)=none:=by
 unfold allR allL at *
 rw[List.filter_append,List.foldl_append,h,q3j]

theorem q5g{x:En}(hx:Good x.ru):∀{l r:List En},(∀y∈l,Good y.ru)->ins l x=some r->(∀y∈r,Good y.ru)/\r.length<=l.length+1
 |[],r,_,h=>by simp[ins] at h;subst h;simpa using hx
 |y::l,r,hl,h=>by
  have hy:=hl y List.mem_cons_self
  have hl':∀z∈l,Good z.ru:=fun z hz=>hl z (List.mem_cons_of_mem _ hz)
  simp only[ins] at h
  split at h
  ·cases h
   refine⟨fun z hz=>?_,by simp⟩
   rcases List.mem_cons.1 hz with rfl|hz
   ·exact hx
   ·exact hl z hz
  ·split at h
   ·split at h
    ·rename_i hc
     cases h
     refine⟨fun z hz=>?_,by simp⟩
     rcases List.mem_cons.1 hz with rfl|hz
     ·exact q9d hy hx hc
     ·exact hl' z hz
    ·cases h
   ·cases hr:ins l x with
    |none=>rw[hr] at h;cases h
    |some q=>
     rw[hr] at h
     cases h
     have ih:=q5g hx hl' hr
     refine⟨fun z hz=>?_,by simp;omega⟩
     rcases List.mem_cons.1 hz with rfl|hz
     ·exact hy
     ·exact ih.1 z hz

theorem qku{x:En}:∀{l:List En} (r:List En),(∀y∈l,y.key<x.key)->ins (l++r) x=(ins r x).map (l++·)
 |[],r,_=>by rw[List.nil_append];cases ins r x<;>rfl
 |y::l,r,h=>by
  rw[List.cons_append,q3d (h y List.mem_cons_self),qku r (fun z hz=>h z (List.mem_cons_of_mem _ hz))]
  cases ins r x<;>rfl

theorem z3z(w:World)(x:En):∀j u,x.vals[j]? =some u->(w.alloc (.cells x.vals.toArray 86)).cell? ((⟨w.heap.size,0,none⟩:Addr).add j)=some u:=by
 intro j u hu
 rw[WideShapes.add_plain,Nat.zero_add,(q0b w x.vals 86).cell]
 exact hu

theorem q9t(x:En):∀u∈x.vals,u.oneCell'=true:=by
 have:=q1w [x]
 simpa [q0d] using this

theorem qbe(l:List En)(x:En):q0d l++x.vals=q0d (l++[x]):=by rw[q1o];simp[q0d]

theorem qaw{B:Nat}{W wd w1:World}{v:Value}{out:List En}{o:Obj}(hown:wd.ownsRow B 86 7 v out.length (q0d out))(hb:Below B W wd)(hB:B<=wd.heap.size)(hg:(wd.alloc o).grownBy w1 v.ownBlock):Below B W w1/\B<=w1.heap.size:=by
 have hs:=hg.size
 simp at hs
 exact⟨(hb.alloc hB o).grown hg (by simp;omega) (fun k hk=>(hown.lt k hk).1),by omega⟩

theorem qef{B:Nat}{w1:World}{v:Value}{out:List En}{y:En}(h:w1.ownsRow B 86 7 v (out.length+1) (q0d out++y.vals)):w1.ownsRow B 86 7 v (out++[y]).length (q0d (out++[y])):=by
 rw[qbe] at h
 simpa using h

theorem qex{W w3:World}{c:Array Value}{t:TypeId}{n:Nat}(hb:Below (W.alloc (.cells c t)).heap.size (W.alloc (.cells c t)) w3)(hn:W.heap.size=n):
  w3.cell? ⟨n,0,none⟩=c[0]?/\w3.cell? ⟨n,1,none⟩=c[1]?/\w3.cell? ⟨n,2,none⟩=c[2]?/\w3.cell? ⟨n,3,none⟩=c[3]?/\w3.cell? ⟨n,4,none⟩=c[4]?/\w3.cell? ⟨n,5,none⟩=c[5]?/\∀j,w3.frozen? ⟨n,j,none⟩=false:=by
 subst hn
 have g:∀j,w3.cell? ⟨W.heap.size,j,none⟩=c[j]? :=fun j=>(hb.cell (p:=⟨W.heap.size,j,none⟩) (by simp)).trans (by simp)
 exact⟨g 0,g 1,g 2,g 3,g 4,g 5,fun j=>(hb.frozen (p:=⟨W.heap.size,j,none⟩) (by simp)).trans (by simp)⟩

theorem qs8{x:En}{l:List En}(h:∀z∈l,z.key<x.key):ins l x=some (l++[x]):=by
 have:=qku (x:=x) [] h
 simpa [ins] using this

theorem que{x y:En}{l:List En}(h:∀z∈l,z.key<x.key)(hy:y.key=x.key):ins (l++[y]) x=if y.c+x.c<=1073741824 then some (l++[mkE x.key (jn y.ru x.ru)]) else none:=by
 rw[qku _ h,q2q hy]
 split<;>simp

structure Brg(xs:List En)(i:Nat)(out:List En):Prop where
 is:allL (xs.take i)=some out
 inc:out.Pairwise fun a b=>a.key<b.key
 up:∀z∈out,∀x∈xs.drop i,z.key<=x.key
 good:∀z∈out,Good z.ru
 len:out.length<=i

theorem qiq(xs:List En):Brg xs 0 []:=⟨by simp[allL],by simp,by simp,by simp,by simp⟩

theorem qlz{xs:List En}{i:Nat}{x:En}(h:x∈xs.drop (i+1)):x∈xs.drop i:=by
 have:xs.drop (i+1)=(xs.drop i).drop 1:=by rw[List.drop_drop]
 rw[this] at h
 exact List.mem_of_mem_drop h

theorem qig{xs:List En}{i:Nat}(hi:i<xs.length):allL (xs.take (i+1))=insO (allL (xs.take i)) xs[i]:=by
 rw[List.take_succ_eq_append_getElem hi,qb6]

theorem qdr{xs:List En}(hs:xs.Pairwise fun a b=>a.key<=b.key){i:Nat}(hi:i<xs.length):∀x∈xs.drop (i+1),xs[i].key<=x.key:=by
 intro x hx
 obtain⟨j,hj,rfl⟩:=List.getElem_of_mem hx
 rw[List.getElem_drop]
 exact List.pairwise_iff_getElem.1 hs i (i+1+j) hi _ (by omega)

theorem qfx{xs:List En}{i:Nat}{out:List En}(hs:xs.Pairwise fun a b=>a.key<=b.key)(h:Brg xs i out)(hi:i<xs.length)(hg:Good xs[i].ru)(hn:∀l y,out=l++[y]->y.key≠xs[i].key):Brg xs (i+1) (out++[xs[i]]):=by
 have mem:xs[i]∈xs.drop i:=by rw[List.drop_eq_getElem_cons hi];exact List.mem_cons_self
 have low:∀z∈out,z.key<xs[i].key:=by
  intro z hz
  rcases List.eq_nil_or_concat out with rfl|⟨l,y,rfl⟩
  ·simp at hz
  ·have hy:=h.up y (by simp) _ mem
   have hne:=hn l y (by simp)
   rcases List.mem_append.1 (by simpa using hz:z∈l++[y]) with hz|hz
   ·have:=(List.pairwise_append.1 (by simpa using h.inc:(l++[y]).Pairwise _)).2.2 z hz y (by simp)
    omega
   ·have:z=y:=by simpa using hz
    subst this
    omega
 refine⟨?_,?_,?_,?_,?_⟩
 ·rw[qig hi,h.is]
  exact qs8 low
 ·rw[List.pairwise_append]
  exact⟨h.inc,by simp,fun a ha b hb=>by have:b=xs[i]:=by simpa using hb
                                        subst this;exact low a ha⟩
 ·intro z hz x hx
  rcases List.mem_append.1 hz with hz|hz
  ·exact h.up z hz x (qlz hx)
  ·have:z=xs[i]:=by simpa using hz
   subst this
   exact qdr hs hi x hx
 ·intro z hz
  rcases List.mem_append.1 hz with hz|hz
  ·exact h.good z hz
  ·have:z=xs[i]:=by simpa using hz
   subst this
   exact hg
 ·have:=h.len
  simp
  omega

theorem qm5{xs:List En}{i:Nat}{l:List En}{y:En}(hs:xs.Pairwise fun a b=>a.key<=b.key)(h:Brg xs i (l++[y]))(hi:i<xs.length)(hg:Good xs[i].ru)(hy:y.key=xs[i].key):
  mrg y.ru xs[i].ru=(if y.c+xs[i].c<=1073741824 then(jn y.ru xs[i].ru,0) else(zro,1))/\
  (y.c+xs[i].c<=1073741824->Brg xs (i+1) (l++[mkE xs[i].key (jn y.ru xs[i].ru)]))/\(¬y.c+xs[i].c<=1073741824->allL xs=none):=by
 have low:∀z∈l,z.key<xs[i].key:=fun z hz=>by
  have:=(List.pairwise_append.1 h.inc).2.2 z hz y (by simp)
  omega
 have st:allL (xs.take (i+1))=if y.c+xs[i].c<=1073741824 then some (l++[mkE xs[i].key (jn y.ru xs[i].ru)]) else none:=by
  rw[qig hi,h.is]
  exact que low hy
 have gy:=h.good y (by simp)
 refine⟨q8e gy hg,fun hc=>?_,fun hc=>?_⟩
 ·rw[if_pos hc] at st
  refine⟨st,?_,?_,?_,?_⟩
  ·rw[List.pairwise_append]
   exact⟨(List.pairwise_append.1 h.inc).1,by simp,fun a ha b hb=>by have:b=mkE xs[i].key (jn y.ru xs[i].ru):=by simpa using hb
                                                                    subst this;exact low a ha⟩
  ·intro z hz x hx
   rcases List.mem_append.1 hz with hz|hz
   ·exact h.up z (by simp[hz]) x (qlz hx)
   ·have:z=mkE xs[i].key (jn y.ru xs[i].ru):=by simpa using hz
    subst this
    exact qdr hs hi x hx
  ·intro z hz
   rcases List.mem_append.1 hz with hz|hz
   ·exact h.good z (by simp[hz])
   ·have:z=mkE xs[i].key (jn y.ru xs[i].ru):=by simpa using hz
    subst this
    exact q9d gy hg hc
  ·have:=h.len
   simp only[List.length_append,List.length_cons,List.length_nil] at this ⊢
   omega
 ·rw[if_neg hc] at st
  have e:xs=xs.take (i+1)++xs.drop (i+1):=(List.take_append_drop _ _).symm
  rw[e]
  unfold allL at st ⊢
  rw[List.foldl_append,st]
  exact q3j _

theorem qsh{xs out:List En}(h:Brg xs xs.length out):allL xs=some out:=by
 have:=h.is
 rwa [List.take_length] at this

theorem q6a{w:World}{base:Nat}{e:TypeId}{size n k:Nat}{v:Value}{vs:List Value}(h:w.ownsRow base e size v n vs)(hk:v.ownBlock=some k):base<=k/\k<w.heap.size:=by
 rcases h.2 with⟨rfl,_⟩|⟨g,cap,cur,rfl,hb,hg,_⟩
 ·cases hk
 ·have:g=k:=by simpa [Value.ownBlock] using hk
  subst this
  exact⟨hb,(Array.getElem?_eq_some_iff.1 hg).1⟩

theorem qqr(w:World)(o:Obj)(x:En):∀j u,x.vals[j]? =some u->((w.alloc o).alloc (.cells x.vals.toArray 86)).cell? ((⟨w.heap.size+1,0,none⟩:Addr).add j)=some u:=by
 have:=z3z (w.alloc o) x
 simpa using this

theorem qgw{x:En}:∀{l r:List En},(l.Pairwise fun a b=>a.key<b.key)->ins l x=some r->(r.Pairwise fun a b=>a.key<b.key)/\∀z∈r,z.key=x.key\/∃y∈l,y.key=z.key
 |[],r,_,h=>by
  cases h
  exact⟨by simp,by simp⟩
 |y::l,r,hp,h=>by
  obtain⟨h1,h2⟩:=List.pairwise_cons.1 hp
  rcases Int.lt_trichotomy x.key y.key with hk|hk|hk
  ·rw[q4h hk] at h
   cases h
   refine⟨List.pairwise_cons.2 ⟨fun z hz=>?_,hp⟩,fun z hz=>?_⟩
   ·rcases List.mem_cons.1 hz with rfl|hz
    ·exact hk
    ·have:=h1 z hz
     omega
   ·rcases List.mem_cons.1 hz with rfl|hz
    ·exact .inl rfl
    ·exact .inr ⟨z,hz,rfl⟩
  ·rw[q2q hk.symm] at h
   split at h
   ·cases h
    refine⟨List.pairwise_cons.2 ⟨fun z hz=>?_,h2⟩,fun z hz=>?_⟩
    ·rw[q5q,hk]
     exact h1 z hz
    ·rcases List.mem_cons.1 hz with rfl|hz
     ·exact .inl rfl
     ·exact .inr ⟨z,List.mem_cons_of_mem _ hz,rfl⟩
   ·cases h
  ·rw[q3d hk] at h
   cases hi:ins l x with
   |none=>rw[hi] at h;cases h
   |some r'=>
    rw[hi] at h
    cases h
    obtain⟨q1,q2⟩:=qgw h2 hi
    refine⟨List.pairwise_cons.2 ⟨fun z hz=>?_,q1⟩,fun z hz=>?_⟩
    ·rcases q2 z hz with e|⟨u,hu,e⟩
     ·omega
     ·have:=h1 u hu
      omega
    ·rcases List.mem_cons.1 hz with rfl|hz
     ·exact .inr ⟨z,List.mem_cons_self,rfl⟩
     ·rcases q2 z hz with e|⟨u,hu,e⟩
      ·exact .inl e
      ·exact .inr ⟨u,List.mem_cons_of_mem _ hu,e⟩

theorem qq9{x:En}:∀{l:List En},(∀z∈l,x.key<z.key)->ins l x=some (x::l)
 |[],_=>rfl
 |y::_,h=>q4h (h y List.mem_cons_self)

theorem qfg{P:Int->Bool}{x:En}:∀{o o':List En},(o.Pairwise fun a b=>a.key<b.key)->ins o x=some o'->
  (P x.key=true->ins (o.filter fun z=>P z.key) x=some (o'.filter fun z=>P z.key))/\(P x.key=false->(o'.filter fun z=>P z.key)=o.filter fun z=>P z.key)
 |[],o',_,h=>by
  cases h
  exact⟨fun hp=>by simp[ins,hp],fun hp=>by simp[hp]⟩
 |y::r,o',hs,h=>by
  obtain⟨h1,h2⟩:=List.pairwise_cons.1 hs
  rcases Int.lt_trichotomy x.key y.key with hk|hk|hk
  ·rw[q4h hk] at h
   cases h
   refine⟨fun hp=>?_,fun hp=>by rw[List.filter_cons_of_neg (by simp[hp])]⟩
   rw[List.filter_cons_of_pos (a:=x) (by simpa using hp)]
   refine qq9 fun z hz=>?_
   rcases List.mem_cons.1 (List.mem_filter.1 hz).1 with rfl|hz
   ·exact hk
   ·have:=h1 z hz
    omega
  ·rw[q2q hk.symm] at h
   split at h
   ·rename_i hc
    cases h
    refine⟨fun hp=>?_,fun hp=>?_⟩
    ·rw[List.filter_cons_of_pos (by rw[<-hk];exact hp),List.filter_cons_of_pos (by exact hp),q2q hk.symm,if_pos hc]
    ·rw[List.filter_cons_of_neg (by rw[q5q,hp];simp),List.filter_cons_of_neg (by rw[<-hk,hp];simp)]
   ·cases h
  ·rw[q3d hk] at h
   cases hi:ins r x with
   |none=>rw[hi] at h;cases h
   |some r'=>
    rw[hi] at h
    cases h
    obtain⟨q1,q2⟩:=qfg (P:=P) h2 hi
    refine⟨fun hp=>?_,fun hp=>?_⟩
    ·by_cases hy:P y.key=true
     ·rw[List.filter_cons_of_pos (by exact hy),List.filter_cons_of_pos (by exact hy),q3d hk,q1 hp]
      rfl
     ·rw[List.filter_cons_of_neg (by exact hy),List.filter_cons_of_neg (by exact hy),q1 hp]
    ·by_cases hy:P y.key=true
     ·rw[List.filter_cons_of_pos (by exact hy),List.filter_cons_of_pos (by exact hy),q2 hp]
     ·rw[List.filter_cons_of_neg (by exact hy),List.filter_cons_of_neg (by exact hy),q2 hp]

theorem q5d{P:Int->Bool}:∀(xs o r:List En),(o.Pairwise fun a b=>a.key<b.key)->xs.foldl insO (some o)=some r->(xs.filter fun z=>P z.key).foldl insO (some (o.filter fun z=>P z.key))=some (r.filter fun z=>P z.key)
 |[],o,r,_,h=>by
  cases h
  simp
 |x::xs,o,r,hs,h=>by
  rw[List.foldl_cons] at h
  cases hi:insO (some o) x with
  |none=>rw[hi,q3j] at h;cases h
  |some o'=>
   rw[hi] at h
   have hi':ins o x=some o':=hi
   have ih:=q5d (P:=P) xs o' r (qgw hs hi').1 h
   obtain⟨q1,q2⟩:=qfg (P:=P) hs hi'
   by_cases hp:P x.key=true
   ·rw[List.filter_cons_of_pos (by exact hp),List.foldl_cons,show insO (some (o.filter fun z=>P z.key)) x=ins (o.filter fun z=>P z.key) x from rfl,q1 hp]
    exact ih
   ·rw[List.filter_cons_of_neg (by exact hp),<-q2 (by simpa using hp)]
    exact ih

end
section
open Go.RowKit Plain

structure Kept(ex:List Nat)(w w':World):Prop where
 os:w'.os=w.os
 tape:w'.tape=w.tape
 output:w'.output=w.output
 size:w.heap.size<=w'.heap.size
 block:∀k,k<w.heap.size->k∉ex->w'.heap[k]? =w.heap[k]?

section
variable {ex : List Nat} {w w' w'' : World}

theorem Kept.refl(ex:List Nat)(w:World):Kept ex w w:=⟨rfl,rfl,rfl,Nat.le_refl _,fun _ _ _=>rfl⟩
theorem Kept.trans(h:Kept ex w w')(k:Kept ex w' w''):Kept ex w w'':=
 ⟨k.os.trans h.os,k.tape.trans h.tape,k.output.trans h.output,Nat.le_trans h.size k.size,fun i hi hx=>(k.block i (Nat.lt_of_lt_of_le hi h.size) hx).trans (h.block i hi hx)⟩
theorem Kept.alloc(h:Kept ex w w')(o:Obj):Kept ex w (w'.alloc o):=
 h.trans ⟨rfl,rfl,rfl,by simp,fun k hk _=>Below.heap_alloc _ _ _ hk⟩
theorem Kept.set(h:Kept ex w w'){b j:Nat}(hb:b∈ex\/w.heap.size<=b)(v:Value):Kept ex w (w'.setCell ⟨b,j,none⟩ v):=
 ⟨h.os,h.tape,h.output,by simpa using h.size,fun k hk hx=>(Below.heap_setCell _ _ _ _ (by rintro rfl;rcases hb with hb|hb;exact hx hb;omega)).trans (h.block k hk hx)⟩
theorem Kept.drew(h:Kept ex w w'):Kept ex w w'.drew:=⟨h.os,h.tape,h.output,h.size,h.block⟩
theorem Kept.drewN(h:Kept ex w w')(n:Nat):Kept ex w (w'.drewN n):=⟨h.os,h.tape,h.output,h.size,h.block⟩
theorem Kept.of_below(h:Below w.heap.size w w'):Kept ex w w':=⟨h.os,h.tape,h.output,h.size,fun k hk _=>h.block k hk⟩
theorem Kept.below(h:Kept ex w w'){B:Nat}(hB:B<=w.heap.size)(hx:∀x∈ex,B<=x):Below B w w':=
 ⟨h.os,h.tape,h.output,h.size,fun k hk=>h.block k (by omega) (fun hm=>by have:=hx k hm;omega)⟩
theorem Kept.cell(h:Kept ex w w'){b:Nat}(o:Nat)(hb:b<w.heap.size)(hx:b∉ex):w'.cell? ⟨b,o,none⟩=w.cell? ⟨b,o,none⟩:=
 World.cell?_of_block (w:=w) (a:=⟨b,o,none⟩) (h.block b hb hx)
theorem Kept.row(h:Kept ex w w'){b:Nat}{t:TypeId}{vs:List Value}(hr:RowL w b t vs)(hx:b∉ex):RowL w' b t vs:=hr.of_block (h.block b hr.lt hx)
end

theorem qmd{v w2:World}{l1 l2:List Value}{t1 t2:TypeId}(hb:Below ((v.alloc (.cells l1.toArray t1)).alloc (.cells l2.toArray t2)).heap.size ((v.alloc (.cells l1.toArray t1)).alloc (.cells l2.toArray t2)) w2){n:Nat}(hn:n=v.heap.size):
  RowL w2 n t1 l1/\RowL w2 (n+1) t2 l2/\n+1<w2.heap.size:=by
 subst hn
 have s1:(v.alloc (.cells l1.toArray t1)).heap.size=v.heap.size+1:=by simp
 have s2:((v.alloc (.cells l1.toArray t1)).alloc (.cells l2.toArray t2)).heap.size=v.heap.size+2:=by simp
 have r1:RowL ((v.alloc (.cells l1.toArray t1)).alloc (.cells l2.toArray t2)) v.heap.size t1 l1:=(q0b v l1 t1).of_block (Below.heap_alloc _ _ _ (by omega))
 have r2:RowL ((v.alloc (.cells l1.toArray t1)).alloc (.cells l2.toArray t2)) (v.heap.size+1) t2 l2:=by
  have:=q0b (v.alloc (.cells l1.toArray t1)) l2 t2
  rwa [s1] at this
 have hs:=hb.size
 exact⟨r1.below hb (by omega),r2.below hb (by omega),by omega⟩

theorem qic(ns:List Nd)(f:Nat)(n low high:Int)(S:St):W ns (f+1) n low high S=
  if n<0\/(ns.length:Int)<=n\/high<=low\/q7c S n=true then none
  else if (ns.getD n.toNat default).leaf=true then
   (if qa5 (ns.getD n.toNat default) low high f=true then some ((n,12-(f:Int))::S,[12-(f:Int)]) else none)
  else if q6x (ns.getD n.toNat default) low high=true then Wk (W ns f) (ns.getD n.toNat default).kids (ns.getD n.toNat default).keys low high ((n,12-(f:Int))::S)
  else none:=rfl

theorem z2r{ns:List Nd}{f:Nat}{n low high:Int}{S:St}(h:n<0\/(ns.length:Int)<=n\/high<=low\/q7c S n=true):W ns f n low high S=none:=by
 cases f with
 |zero=>rfl
 |succ f=>rw[qic,if_pos h]

theorem z2q{ns:List Nd}{f m:Nat}{low high:Int}{S:St}{x:Nd}(hm:m<ns.length)(hx:ns[m]=x)(hlh:low<high)(hs:q7c S m=false)(hl:x.leaf=true):
  W ns (f+1) m low high S=if qa5 x low high f=true then some (((m:Int),12-(f:Int))::S,[12-(f:Int)]) else none:=by
 have hg:ns.getD m default=x:=by simp[hm,hx]
 rw[qic,if_neg (by simp[hs];omega)]
 simp only[Int.toNat_natCast,hg,hl,if_true]

theorem qzk{ns:List Nd}{f m:Nat}{low high:Int}{S:St}{x:Nd}(hm:m<ns.length)(hx:ns[m]=x)(hlh:low<high)(hs:q7c S m=false)(hl:x.leaf=false):
  W ns (f+1) m low high S=if q6x x low high=true then Wk (W ns f) x.kids x.keys low high (((m:Int),12-(f:Int))::S) else none:=by
 have hg:ns.getD m default=x:=by simp[hm,hx]
 rw[qic,if_neg (by simp[hs];omega)]
 simp only[Int.toNat_natCast,hg,hl,Bool.false_eq_true,if_false]

end
section
open Go.RowKit Plain

def cntK(k:Int):List En->Int
 |[]=>0
 |y::r=>(if y.key=k then y.c else 0)+cntK k r

theorem q3q(k:Int):∀l m:List En,cntK k (l++m)=cntK k l+cntK k m
 |[],m=>by simp[cntK]
 |y::r,m=>by simp only[List.cons_append,cntK,q3q k r m];omega

theorem qdt{k:Int}{l m:List En}(h:l.Perm m):cntK k l=cntK k m:=by
 induction h with
 |nil=>rfl
 |cons x _ ih=>simp only[cntK,ih]
 |swap x y l=>simp only[cntK];omega
 |trans _ _ h1 h2=>rw[h1,h2]

def Pos(l:List En):Prop:=∀y∈l,1<=y.c

theorem q8o{k:Int}:∀{l:List En},Pos l->0<=cntK k l
 |[],_=>Int.le_refl _
 |y::r,h=>by
  have h1:=h y List.mem_cons_self
  have h2:=q8o (k:=k) (l:=r) fun z hz=>h z (List.mem_cons_of_mem _ hz)
  simp only[cntK]
  split<;>omega

theorem Pos.app{l m:List En}(h:Pos l)(k:Pos m):Pos (l++m):=fun y hy=>(List.mem_append.1 hy).elim (h y) (k y)
theorem Pos.left{l m:List En}(h:Pos (l++m)):Pos l:=fun y hy=>h y (List.mem_append_left _ hy)
theorem Pos.right{l m:List En}(h:Pos (l++m)):Pos m:=fun y hy=>h y (List.mem_append_right _ hy)
theorem Pos.perm{l m:List En}(h:Pos l)(p:l.Perm m):Pos m:=fun y hy=>h y (p.mem_iff.2 hy)

structure Eqv(l m:List En):Prop where
 all:∀r,Pos r->allL (l++r)=allL (m++r)
 cnt:∀k,cntK k l=cntK k m
 posl:Pos l
 posm:Pos m

theorem Eqv.refl{l:List En}(h:Pos l):Eqv l l:=⟨fun _ _=>rfl,fun _=>rfl,h,h⟩
theorem Eqv.symm{l m:List En}(h:Eqv l m):Eqv m l:=⟨fun r hr=>(h.all r hr).symm,fun k=>(h.cnt k).symm,h.posm,h.posl⟩
theorem Eqv.trans{l m n:List En}(h:Eqv l m)(k:Eqv m n):Eqv l n:=⟨fun r hr=>(h.all r hr).trans (k.all r hr),fun q=>(h.cnt q).trans (k.cnt q),h.posl,k.posm⟩
theorem Eqv.of_perm{l m:List En}(h:l.Perm m)(hp:Pos l):Eqv l m:=⟨fun r hr=>q6r (h.append_right r) (hp.app hr),fun _=>qdt h,hp,hp.perm h⟩
theorem Eqv.app{l m:List En}(h:Eqv l m){r:List En}(hr:Pos r):Eqv (l++r) (m++r):=
 ⟨fun s hs=>by rw[List.append_assoc,List.append_assoc];exact h.all _ (hr.app hs),fun k=>by rw[q3q,q3q,h.cnt],h.posl.app hr,h.posm.app hr⟩
theorem Eqv.app_left{l m:List En}(h:Eqv l m){r:List En}(hr:Pos r):Eqv (r++l) (r++m):=
 (Eqv.of_perm List.perm_append_comm (hr.app h.posl)).trans ((h.app hr).trans (Eqv.of_perm List.perm_append_comm (h.posm.app hr)))
theorem Eqv.eq{l m:List En}(h:Eqv l m):allL l=allL m:=by simpa using h.all [] (by intro y hy;simp at hy)

theorem Eqv.join{x y:En}(hk:y.key=x.key)(hx:Good x.ru)(hy:Good y.ru)(hc:y.c+x.c<=1073741824):Eqv [y,x] [mkE x.key (jn y.ru x.ru)]:=by
 have gx:=(good_iff.1 hx).1
 have gy:=(good_iff.1 hy).1
 have cx:x.ru.c=x.c:=rfl
 have cy:y.ru.c=y.c:=rfl
 have cj:(mkE x.key (jn y.ru x.ru)).c=y.c+x.c:=rfl
 refine⟨fun r _=>?_,fun k=>?_,fun z hz=>?_,fun z hz=>?_⟩
 ·have e:insO (insO (some []) y) x=insO (some []) (mkE x.key (jn y.ru x.ru)):=by
   show ins [y] x=some [mkE x.key (jn y.ru x.ru)]
   rw[q2q hk,if_pos hc]
  show r.foldl insO (insO (insO (some []) y) x)=r.foldl insO (insO (some []) (mkE x.key (jn y.ru x.ru)))
  rw[e]
 ·simp only[cntK,q5q,cj,hk]
  split<;>omega
 ·rcases List.mem_cons.1 hz with rfl|hz
  ·omega
  ·obtain rfl:z=x:=by simpa using hz
   omega
 ·obtain rfl:z=mkE x.key (jn y.ru x.ru):=by simpa using hz
  omega

end
end Go.Proofs.YtlojfgdpmaigmafGreatDoor

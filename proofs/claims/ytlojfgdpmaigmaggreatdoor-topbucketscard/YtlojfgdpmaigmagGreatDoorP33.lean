/- What goes down a tree: lists of entries that tell the same; a list with an entry more. In plain terms. -/
import Derived.Test.YtlojfgdpmaigmagGreatDoorP32
import Derived.Test.YtlojfgdpmaigmagGreatDoorP24
import Derived.Test.YtlojfgdpmaigmagGreatDoorP14
import Derived.Test.YtlojfgdpmaigmagGreatDoorP11
import Derived.Test.YtlojfgdpmaigmagGreatDoorP29
namespace Go.Proofs.YtlojfgdpmaigmagGreatDoor
section
open Go.RowKit Plain

theorem entB_iff{x:En}{lo hi:Int}:entB x lo hi=true↔(lo<=x.key/\x.key<hi)/\Good x.ru:=by
 constructor
 ·intro h;refine⟨?_,q6z h⟩;simp only[entB,Bool.and_eq_true,decide_eq_true_eq] at h;exact h.1.1
 ·rintro⟨⟨h1,h2⟩,h3,h4⟩;simp only[entB,Bool.and_eq_true,decide_eq_true_eq,Bool.not_eq_true',beq_eq_false_iff_ne,beq_iff_eq];exact⟨⟨⟨h1,h2⟩,h4⟩,h3⟩

theorem q3e{k hi:Int}:∀{A B:List En} {lo:Int},aK A lo k=true->aK B k hi=true->lo<=k->k<=hi->aK (A++B) lo hi=true
 |[],B,lo,_,hB,hl,_=>q2q hB hl
 |x::A,B,lo,hA,hB,_,hh=>by
  simp only[aK,Bool.and_eq_true,List.cons_append] at hA ⊢;have h1:=entB_iff.1 hA.1;exact⟨entB_iff.2 ⟨⟨h1.1.1,by omega⟩,h1.2⟩,q3e hA.2 hB (by omega) hh⟩

theorem q3h{x z:En}{hi:Int}(hz:z.key=x.key)(hg:Good z.ru):∀{A B:List En} {lo:Int},aK (A++x::B) lo hi=true->aK (A++z::B) lo hi=true
 |[],B,lo,h=>by
  simp only[List.nil_append,aK,Bool.and_eq_true] at h ⊢;have h1:=entB_iff.1 h.1;exact⟨entB_iff.2 ⟨⟨by omega,by omega⟩,hg⟩,by rw[hz];exact h.2⟩
 |y::A,B,lo,h=>by
  simp only[List.cons_append,aK,Bool.and_eq_true] at h ⊢;exact⟨h.1,q3h hz hg h.2⟩

theorem qa4{hi k:Int}:∀{l:List En},aK l k hi=true->(∀y∈l,y.key≠k)->aK l (k+1) hi=true
 |[],_,_=>rfl
 |x::r,h,hn=>by
  simp only[aK,Bool.and_eq_true] at h ⊢;have h1:=entB_iff.1 h.1;have h2:=hn x List.mem_cons_self;exact⟨entB_iff.2 ⟨⟨by omega,h1.1.2⟩,h1.2⟩,h.2⟩

theorem qet{lo hi:Int}{l:List En}(h:aK l lo hi=true):Pos l:=fun y hy=>(good_iff.1 (mZ h y hy)).1.1

structure qp8(l:List En)(x:En)(lo hi:Int)(m:List En):Prop where
 ents:aK m lo hi=true
 eqv:Eqv (x::l) m
 ne:m≠[]
 len:m.length=if hasK l x.key=true then l.length else l.length+1

theorem qcg{l:List En}{x:En}{lo hi:Int}(hl:aK l lo hi=true)(hx:entB x lo hi=true)(hc:cntK x.key l+x.c<=1073741824):qp8 l x lo hi (dM l x):=by
 have hp:=(jY hl).2;obtain⟨⟨hx1,hx2⟩,hxg⟩:=entB_iff.1 hx;have hpx:(1:Int)<=x.c:=(good_iff.1 hxg).1.1;have hpl:=qet hl;cases hk:hasK l x.key with
 |true=>
  obtain⟨hi',hkey⟩:=qbp hp hk;obtain⟨e1,e2⟩:=jV l (lowN l x.key) (mkE (l[lowN l x.key]).key (mrg (l[lowN l x.key]).ru x.ru).1) hi'
  have e:dM l x=l.set (lowN l x.key) (mkE (l[lowN l x.key]).key (mrg (l[lowN l x.key]).ru x.ru).1):=by
   unfold dM;rw[if_pos hk,List.getD_eq_getElem?_getD,List.getElem?_eq_getElem hi']
   rfl
  have hyg:Good (l[lowN l x.key]).ru:=mZ hl _ (List.getElem_mem hi');rw[e,e2];generalize l[lowN l x.key]=y at *;generalize l.take (lowN l x.key)=A at *;generalize l.drop (lowN l x.key+1)=B at *;subst e1;have hpA:=hpl.left;have hpB:Pos B:=fun z hz=>hpl.right z (List.mem_cons_of_mem _ hz)
  have hyc:y.c+x.c<=1073741824:=by
   rw[nZ,cntK,if_pos hkey] at hc;have a:=nM (k:=x.key) hpA;have b:=nM (k:=x.key) hpB;omega
  have em:mrg y.ru x.ru=(jn y.ru x.ru,0):=by rw[qB hyg hxg,if_pos (show y.ru.c+x.ru.c<=1073741824 from hyc)]
  rw[em,hkey];have hg:=oO hyg hxg (show y.ru.c+x.ru.c<=1073741824 from hyc);have hg2:Good (mkE x.key (jn y.ru x.ru)).ru:=by rw[qli];exact hg
  have hk2:(mkE x.key (jn y.ru x.ru)).key=y.key:=by rw[kE,hkey]
  refine⟨q3h hk2 hg2 hl,?_,by simp,by rw[if_pos hk];simp⟩
  have j:=(Eqv.join hkey hxg hyg hyc).app hpB;have j2:=j.app_left hpA;refine Eqv.trans (Eqv.of_perm ?_ ?_) j2
  ·show(x::(A++y::B)).Perm (A++([y,x]++B));refine List.Perm.trans ?_ (List.perm_append_comm (l₁:=[y,x]++B) (l₂:=A));refine List.Perm.trans ?_ (List.Perm.swap y x (B++A));exact List.Perm.cons x (List.perm_append_comm (l₁:=A) (l₂:=y::B))
  ·intro z hz;rcases List.mem_cons.1 hz with rfl|hz
   ·exact hpx
   ·exact hpl z hz
 |false=>
  have e:dM l x=l.take (lowN l x.key)++x::l.drop (lowN l x.key):=by
   unfold dM;rw[if_neg (by rw[hk];decide)]
  obtain⟨h1,h2⟩:=q0j (k:=x.key) hl hx1
  have hne:∀y∈l,y.key≠x.key:=fun y hy q=>by
   have:hasK l x.key=true:=List.any_eq_true.2 ⟨y,hy,by simpa using q⟩
   rw[hk] at this;cases this
  have h3:=qa4 h2 (fun y hy=>hne y (List.mem_of_mem_drop hy))
  have hln:=rD l x.key;rw[e];refine⟨q3e h1 ?_ hx1 (by omega),Eqv.of_perm ?_ ?_,by simp,by rw[if_neg (by rw[hk];decide)];simp;omega⟩
  ·simp only[aK,Bool.and_eq_true];exact⟨entB_iff.2 ⟨⟨Int.le_refl _,hx2⟩,hxg⟩,h3⟩
  ·have:(x::l).Perm (x::(l.drop (lowN l x.key)++l.take (lowN l x.key))):=by
    refine List.Perm.cons x ?_
    conv=>lhs;rw[<-List.take_append_drop (lowN l x.key) l]
    exact List.perm_append_comm
   exact this.trans (List.perm_append_comm (l₁:=x::l.drop (lowN l x.key)) (l₂:=l.take (lowN l x.key)))
  ·intro z hz;rcases List.mem_cons.1 hz with rfl|hz
   ·exact hpx
   ·exact hpl z hz

def cP(ns:List Nd)(P:List Int):List En:=P.flatMap fun n=>cont (nth ns n)

theorem qR(ns:List Nd)(P Q:List Int):cP ns (P++Q)=cP ns P++cP ns Q:=by simp[cP]
theorem kZ(ns:List Nd)(n:Int)(Q:List Int):cP ns (n::Q)=cont (nth ns n)++cP ns Q:=by simp[cP]
theorem xO{ns ns':List Nd}:∀{P:List Int},(∀n∈P,nth ns' n=nth ns n)->cP ns' P=cP ns P
 |[],_=>rfl
 |n::Q,h=>by rw[kZ,kZ,h n List.mem_cons_self,xO fun m hm=>h m (List.mem_cons_of_mem _ hm)]

def kidJ:List Int->Int->Nat
 |[],_=>0
 |k0::ks,k=>if k0<=k then kidJ ks k+1 else 0

theorem xW{k:Int}:∀{keys:List Int},keys.Pairwise (·<·)->kidI keys k=kidJ keys k
 |[],_=>rfl
 |k0::ks,h=>by
  obtain⟨h1,h2⟩:=List.pairwise_cons.1 h;have ih:=xW (k:=k) h2;show kidI (k0::ks) k=if k0<=k then kidJ ks k+1 else 0
  unfold kidI at *;rw[List.countP_cons,List.contains_cons]
  by_cases a:k0<k
  ·have e:(k==k0)=false:=by simp;omega
   rw[if_pos (show k0<=k by omega),<-ih,e,if_pos (show decide (k0<k)=true by simpa using a),Bool.false_or]
   omega
  ·have c1:ks.countP (fun z=>decide (z<k))=0:=by
    rw[List.countP_eq_zero];intro z hz;have:=h1 z hz;simp;omega
   have c2:ks.contains k=false:=by
    rw[<-Bool.not_eq_true,List.contains_iff_mem];intro hz;have:=h1 k hz;omega
   rw[c1,c2] at ih;have ih':kidJ ks k=0:=by simpa using ih.symm
   rw[c1,c2,if_neg (show ¬decide (k0<k)=true by simpa using a),Bool.or_false]
   by_cases b:k0=k
   ·rw[if_pos (show k0<=k by omega),ih',if_pos (by simp[b])]
   ·rw[if_neg (show ¬k0<=k by omega),if_neg (by simp;omega)]

theorem oH{g:Rel}(hg:∀d lo hi Q,g d lo hi Q->lo<hi){hi:Int}:∀{kids keys:List Int} {lo:Int} {Q:List Int},keys.length+1=kids.length->SubK g lo (ups kids keys hi) Q->keys.Pairwise (·<·)/\(∀k∈keys,lo<k/\k<hi)/\lo<hi
 |[],_,_,_,h,_=>by simp at h
 |[d],keys,lo,Q,h,hs=>by
  obtain rfl:keys=[]:=List.eq_nil_of_length_eq_zero (by simpa using h)
  obtain⟨Q1,Q2,rfl,h1,h2⟩:=hs;exact⟨List.Pairwise.nil,by simp,hg _ _ _ _ h1⟩
 |d::e::ds,[],lo,Q,h,_=>by simp at h
 |d::e::ds,k::ks,lo,Q,h,hs=>by
  obtain⟨Q1,Q2,rfl,h1,h2⟩:=hs;obtain⟨a,b,c⟩:=oH hg (kids:=e::ds) (keys:=ks) (by simpa using h) h2
  have hlt:=hg _ _ _ _ h1;refine⟨List.pairwise_cons.2 ⟨fun z hz=>(b z hz).1,a⟩,fun z hz=>?_,by omega⟩
  rcases List.mem_cons.1 hz with rfl|hz
  ·omega
  ·have:=b z hz;omega

theorem wP{g:Rel}(hg:∀d lo hi Q,g d lo hi Q->lo<hi){hi k:Int}:∀{kids keys:List Int} {lo:Int} {Q:List Int},keys.length+1=kids.length->SubK g lo (ups kids keys hi) Q->lo<=k->k<hi->
  ∃l u Qa Qd Qb,kidJ keys k<kids.length/\Q=Qa++Qd++Qb/\g (kids.getD (kidJ keys k) 0) l u Qd/\l<=k/\k<u/\lo<=l/\u<=hi/\
   ∀g':Rel,(∀d l u Q',g d l u Q'->(∀n∈Q',n∈Qa++Qb)->g' d l u Q')->g' (kids.getD (kidJ keys k) 0) l u Qd->SubK g' lo (ups kids keys hi) Q
 |[],_,_,_,h,_,_,_=>by simp at h
 |[d],keys,lo,Q,h,hs,h1,h2=>by
  obtain rfl:keys=[]:=List.eq_nil_of_length_eq_zero (by simpa using h)
  obtain⟨Q1,Q2,rfl,a,b⟩:=hs;cases b;exact⟨lo,hi,[],Q1,[],by simp[kidJ],by simp,a,h1,h2,Int.le_refl _,Int.le_refl _,fun g' _ hd=>⟨Q1,[],rfl,hd,rfl⟩⟩
 |d::e::ds,[],lo,Q,h,_,_,_=>by simp at h
 |d::e::ds,k0::ks,lo,Q,h,hs,h1,h2=>by
  obtain⟨Q1,Q2,rfl,a,b⟩:=hs;have hlt:=hg _ _ _ _ a;have hrs:=(oH hg (kids:=e::ds) (keys:=ks) (by simpa using h) b).2.2
  by_cases hk:k0<=k
  ·obtain⟨l,u,Qa,Qd,Qb,c1,rfl,c3,c4,c5,c7,c8,c6⟩:=wP hg (kids:=e::ds) (keys:=ks) (by simpa using h) b hk h2
   have ej:kidJ (k0::ks) k=kidJ ks k+1:=by simp[kidJ,hk]
   have ed:(d::e::ds).getD (kidJ (k0::ks) k) 0=(e::ds).getD (kidJ ks k) 0:=by rw[ej,List.getD_cons_succ]
   refine⟨l,u,Q1++Qa,Qd,Qb,by rw[ej];simpa using c1,by simp,by rw[ed];exact c3,c4,c5,by omega,c8,fun g' hg' hd=>?_⟩
   rw[ed] at hd;refine⟨Q1,Qa++Qd++Qb,by simp,hg' _ _ _ _ a (fun n hn=>by simp[hn]),c6 g' (fun d l u Q' q1 q2=>hg' d l u Q' q1 fun n hn=>?_) hd⟩
   have:=q2 n hn;simp only[List.mem_append] at this ⊢;rcases this with t|t
   ·exact .inl (.inr t)
   ·exact .inr t
  ·have ej:kidJ (k0::ks) k=0:=by simp[kidJ,hk]
   rw[ej];refine⟨lo,k0,[],Q1,Q2,by simp,by simp,by simpa using a,h1,by omega,Int.le_refl _,by omega,fun g' hg' hd=>⟨Q1,Q2,rfl,by simpa using hd,nJ b fun d l u Q' q1 q2=>hg' d l u Q' q1 fun n hn=>by simp[q2 n hn]⟩⟩

theorem qif{T:Nat}{ns:List Nd}{h:Nat}{p lo hi k:Int}{P:List Int}(hs:Sub T 4 ns (h+1) p lo hi P)(hP:P.Nodup)(h1:lo<=k)(h2:k<hi):
  ∃l u Qa Qd Qb,kidI (nth ns p).keys k<(nth ns p).kids.length/\P=p::(Qa++Qd++Qb)/\Sub T 4 ns h ((nth ns p).kids.getD (kidI (nth ns p).keys k) 0) l u Qd/\l<=k/\k<u/\Qd.Nodup/\p∉Qd/\lo<=l/\u<=hi/\
   ∀ns',ns'.length=ns.length->(∀n,n∉Qd->0<=n->nth ns' n=nth ns n)->Sub T 4 ns' h ((nth ns p).kids.getD (kidI (nth ns p).keys k) 0) l u Qd->Sub T 4 ns' (h+1) p lo hi P:=by
 obtain⟨hr,Q,rfl,hin⟩:=hs;have hrise:=oH (kH h) hin.keys hin.kids;rw[xW hrise.1];obtain⟨l,u,Qa,Qd,Qb,c1,rfl,c3,c4,c5,c7,c8,c6⟩:=wP (kH h) hin.keys hin.kids h1 h2;have hnd:=hP;rw[List.nodup_cons,List.nodup_append,List.nodup_append] at hnd;obtain⟨hpn,⟨na,nd,nad⟩,nb,nab⟩:=hnd;have hpd:p∉Qd:=fun e=>hpn (by simp[e])
 refine⟨l,u,Qa,Qd,Qb,c1,rfl,c3,c4,c5,nd,hpd,c7,c8,fun ns' hl hsame hd=>?_⟩
 ·refine⟨⟨hr.1,by omega,hr.2.2⟩,Qa++Qd++Qb,rfl,?_⟩
  rw[hsame p hpd hr.1];refine⟨hin.leaf,hin.ents,hin.two,hin.most,hin.keys,hin.few,hin.buf,c6 _ (fun d l u Q' q1 q2=>nD h d l u Q' q1 fun n hn=>?_) hd⟩
  have hm:=q2 n hn
  have hnd:n∉Qd:=by
   intro e;rcases List.mem_append.1 hm with t|t
   ·exact nad n t n e rfl
   ·exact nab n (List.mem_append_right _ e) n t rfl
  exact⟨hsame n hnd (nC h _ _ _ _ q1 n hn).1,by rw[hl];exact(nC h _ _ _ _ q1 n hn).2⟩

theorem tY{T m:Nat}{ns:List Nd}:∀(h:Nat) (p lo hi:Int) (P:List Int),Sub T m ns h p lo hi P->∀y∈cP ns P,(lo<=y.key/\y.key<hi)/\Good y.ru
 |0,p,lo,hi,P,hs,y,hy=>by
  obtain⟨_,rfl,hl⟩:=hs;have hy':y∈(nth ns p).ents:=by simpa [cP,cont,hl.buf] using hy
  exact⟨(jY hl.ents).1 y hy',mZ hl.ents y hy'⟩
 |h+1,p,lo,hi,P,hs,y,hy=>by
  obtain⟨_,Q,rfl,hin⟩:=hs;rw[kZ] at hy;rcases List.mem_append.1 hy with hy|hy
  ·have hy':y∈(nth ns p).buf:=by simpa [cont,hin.ents] using hy
   exact⟨(jY hin.buf).1 y hy',mZ hin.buf y hy'⟩
  ·have ih:=tY (T:=T) (m:=m) (ns:=ns) h
   have:∀(kids keys:List Int) (lo':Int) (Q:List Int),keys.length+1=kids.length->SubK (Sub T m ns h) lo' (ups kids keys hi) Q->∀y∈cP ns Q,(lo'<=y.key/\y.key<hi)/\Good y.ru:=by
    intro kids
    induction kids with
    |nil=>intro keys lo' Q hk;simp at hk
    |cons d ds ihd=>
     intro keys lo' Q hk hQ y hy;have hr:=oH (kH h) hk hQ;cases ds with
     |nil=>
      obtain rfl:keys=[]:=List.eq_nil_of_length_eq_zero (by simpa using hk)
      obtain⟨Q1,Q2,rfl,h1,h2⟩:=hQ;cases h2;rw[List.append_nil] at hy;exact ih _ _ _ _ h1 y hy
     |cons e ds=>
      cases keys with
      |nil=>simp at hk
      |cons k ks=>
       obtain⟨Q1,Q2,rfl,h1,h2⟩:=hQ;have hk1:=hr.2.1 k List.mem_cons_self;rw[qR] at hy;rcases List.mem_append.1 hy with hy|hy
       ·obtain⟨a,b⟩:=ih _ _ _ _ h1 y hy;exact⟨⟨a.1,by omega⟩,b⟩
       ·obtain⟨a,b⟩:=ihd ks k Q2 (by simpa using hk) h2 y hy
        exact⟨⟨by omega,a.2⟩,b⟩
   exact this _ _ _ _ hin.keys hin.kids y hy

theorem uP{T m:Nat}{ns:List Nd}{h:Nat}{p lo hi:Int}{P:List Int}(hs:Sub T m ns h p lo hi P):Pos (cP ns P):=fun y hy=>(good_iff.1 (tY h p lo hi P hs y hy).2).1.1

theorem q7m{T m:Nat}{ns:List Nd}:∀(h f:Nat) (p lo hi:Int) (P:List Int),Sub T m ns h p lo hi P->h<f->Reach ns f p
 |0,f+1,p,lo,hi,P,hs,_=>by
  obtain⟨hr,rfl,hl⟩:=hs;refine⟨hr.1,hr.2.1,?_⟩;rw[show ns.getD p.toNat default=nth ns p from rfl,hl.kids];simp
 |h+1,f+1,p,lo,hi,P,hs,hf=>by
  obtain⟨hr,Q,rfl,hin⟩:=hs;refine⟨hr.1,hr.2.1,?_⟩;rw[show ns.getD p.toNat default=nth ns p from rfl];refine⟨by have:=hin.keys;omega,fun d hd=>?_⟩
  have:∀(kids keys:List Int) (lo':Int) (Q:List Int),keys.length+1=kids.length->SubK (Sub T m ns h) lo' (ups kids keys hi) Q->∀d∈kids,∃l u Q',Sub T m ns h d l u Q':=by
   intro kids
   induction kids with
   |nil=>intro keys lo' Q hk;simp at hk
   |cons e ds ihd=>
    intro keys lo' Q hk hQ d hd;cases ds with
    |nil=>
     obtain rfl:keys=[]:=List.eq_nil_of_length_eq_zero (by simpa using hk)
     obtain⟨Q1,Q2,rfl,h1,h2⟩:=hQ;obtain rfl:d=e:=by simpa using hd
     exact⟨_,_,_,h1⟩
    |cons e' ds=>
     cases keys with
     |nil=>simp at hk
     |cons k ks=>
      obtain⟨Q1,Q2,rfl,h1,h2⟩:=hQ;rcases List.mem_cons.1 hd with rfl|hd
      ·exact⟨_,_,_,h1⟩
      ·exact ihd ks k Q2 (by simpa using hk) h2 d hd
  obtain⟨l,u,Q',hd'⟩:=this _ _ _ _ hin.keys hin.kids d hd;exact q7m h f d l u Q' hd' (by omega)

theorem qix{low high:Int}{l:List En}(h:∀y∈l,¬(low<=y.key/\y.key<high)):l.filter (inR low high)=[]:=by
 rw[List.filter_eq_nil_iff];intro y hy e;exact h y hy (by simpa [inR] using e)

theorem qlp{T m:Nat}{ns:List Nd}{low high:Int}:∀(h f:Nat) (p lo hi:Int) (P:List Int),Sub T m ns h p lo hi P->h<f->Wl ns low high f p=(cP ns P).filter (inR low high)
 |0,f+1,p,lo,hi,P,hs,_=>by
  obtain⟨hr,rfl,hl⟩:=hs;rw[Wl,show ns.getD p.toNat default=nth ns p from rfl,hl.kids,hl.buf];simp[WlK,cP,cont,hl.buf]
 |h+1,f+1,p,lo,hi,P,hs,hf=>by
  obtain⟨hr,Q,rfl,hin⟩:=hs;rw[Wl,show ns.getD p.toNat default=nth ns p from rfl,kZ,List.filter_append,hin.ents]
  have:∀(kids keys:List Int) (lo':Int) (Q:List Int) (pr:Option Int),keys.length+1=kids.length->SubK (Sub T m ns h) lo' (ups kids keys hi) Q->(∀k,pr=some k->k=lo')->WlK (Wl ns low high f) low high kids keys pr=(cP ns Q).filter (inR low high):=by
   intro kids
   induction kids with
   |nil=>intro keys lo' Q pr hk;simp at hk
   |cons d ds ihd=>
    intro keys lo' Q pr hk hQ hpr
    have one:∀(u:Int) (Q1:List Int) (nx:Option Int),Sub T m ns h d lo' u Q1->(∀k,nx=some k->k=u)->(if iD low high pr nx=true then[] else Wl ns low high f d)=(cP ns Q1).filter (inR low high):=by
     intro u Q1 nx h1 hnx
     by_cases hsk:iD low high pr nx=true
     ·rw[if_pos hsk,qix];intro y hy;have hc:=(tY h _ _ _ _ h1 y hy).1;unfold iD at hsk;rw[Bool.or_eq_true] at hsk;rcases hsk with e|e
      ·cases pr with
       |none=>simp at e
       |some k=>
        have:=hpr k rfl;simp at e;omega
      ·cases nx with
       |none=>simp at e
       |some k=>
        have:=hnx k rfl;simp at e;omega
     ·rw[if_neg hsk];exact qlp h f d lo' u Q1 h1 (by omega)
    cases ds with
    |nil=>
     obtain rfl:keys=[]:=List.eq_nil_of_length_eq_zero (by simpa using hk)
     obtain⟨Q1,Q2,rfl,h1,h2⟩:=hQ;cases h2;rw[WlK,one _ _ _ h1 (by simp),List.append_nil]
     simp[WlK]
    |cons e ds=>
     cases keys with
     |nil=>simp at hk
     |cons k ks=>
      obtain⟨Q1,Q2,rfl,h1,h2⟩:=hQ;rw[WlK,one _ _ _ h1 (by simp),qR,List.filter_append]
      congr 1;exact ihd ks k Q2 _ (by simpa using hk) h2 (by simp)
  rw[this _ _ _ _ _ hin.keys hin.kids (by simp)]
  simp[cont,hin.ents]

def InvK(s:Ru × Int):Prop:=s=(zro,0)\/(Good s.1/\s.2=0)\/s.2≠0

theorem qge{s:Ru × Int}{x:En}(h:InvK s)(hx:Good x.ru):InvK (bJ s x)/\((bJ s x).2=0->s.2=0/\(bJ s x).1.c=s.1.c+x.c):=by
 unfold bJ;rcases h with rfl|⟨hg,h0⟩|h0
 ·rw[if_pos rfl,xR hx];exact⟨.inr (.inl ⟨hx,rfl⟩),fun _=>⟨rfl,by show x.c=0+x.c;omega⟩⟩
 ·rw[if_pos h0,qB hg hx]
  by_cases hc:s.1.c+x.ru.c<=1073741824
  ·rw[if_pos hc];exact⟨.inr (.inl ⟨oO hg hx hc,rfl⟩),fun _=>⟨h0,rfl⟩⟩
  ·rw[if_neg hc];exact⟨.inr (.inr (by decide)),fun h=>absurd h (by decide)⟩
 ·rw[if_neg h0];exact⟨.inr (.inr h0),fun h=>absurd h h0⟩

theorem q7f{k:Int}:∀(xs:List En) (s:Ru × Int),(∀x∈xs,x.key=k/\Good x.ru)->InvK s->InvK (xs.foldl bJ s)/\((xs.foldl bJ s).2=0->s.2=0/\(xs.foldl bJ s).1.c=s.1.c+cntK k xs)
 |[],s,_,h=>⟨h,fun h0=>⟨h0,by simp[cntK]⟩⟩
 |x::xs,s,hx,h=>by
  obtain⟨a,b⟩:=qge h (hx x List.mem_cons_self).2;obtain⟨c,d⟩:=q7f xs (bJ s x) (fun y hy=>hx y (List.mem_cons_of_mem _ hy)) a
  refine⟨c,fun h0=>?_⟩
  obtain⟨d1,d2⟩:=d h0;obtain⟨b1,b2⟩:=b d1;refine⟨b1,?_⟩;rw[List.foldl_cons,d2,b2,cntK,if_pos (hx x List.mem_cons_self).1];omega

theorem zQ(k:Int):∀l:List En,cntK k (l.filter (inR k (k+1)))=cntK k l
 |[]=>rfl
 |y::r=>by
  rw[List.filter_cons]
  by_cases h:y.key=k
  ·rw[if_pos (by simp[inR,h];omega),cntK,cntK,zQ k r]
  ·rw[if_neg (by simp[inR];omega),cntK,if_neg h,zQ k r]
   omega

theorem q6m{T m h:Nat}{ns:List Nd}{p lo hi:Int}{P:List Int}{k:Int}(hs:Sub T m ns h p lo hi P)(hh:h<12){s:Ru × Int}(e:(Wl ns k (k+1) 12 p).foldl bJ (zro,0)=s):InvK s/\(s.2=0->s.1.c=cntK k (cP ns P)):=by
 have hw:Wl ns k (k+1) 12 p=(cP ns P).filter (inR k (k+1)):=qlp h 12 p lo hi P hs hh
 obtain⟨a,b⟩:=q7f (k:=k) (Wl ns k (k+1) 12 p) (zro,0) (fun x hx=>by
  rw[hw] at hx;obtain⟨h1,h2⟩:=List.mem_filter.1 hx;have h3:k<=x.key/\x.key<k+1:=by simpa [inR] using h2
  exact⟨by omega,(tY h p lo hi P hs x h1).2⟩) (.inl rfl)
 rw[e] at a b;refine⟨a,fun h0=>?_⟩
 obtain⟨_,b2⟩:=b h0;rw[b2,hw,zQ];show 0+_=_;omega

theorem qk0{s:Ru × Int}(h:InvK s)(h0:s.2=0):s.1.c<=1073741824:=by
 rcases h with rfl|⟨hg,_⟩|h
 ·decide
 ·exact(good_iff.1 hg).1.2
 ·exact absurd h0 h

structure mO(T:Nat)(ns ns':List Nd)(h:Nat)(p lo hi:Int)(P:List Int)(x:En):Prop where
 sub:Sub T 4 ns' h p lo hi P
 len:ns'.length=ns.length
 same:∀n,n∉P->0<=n->nth ns' n=nth ns n
 eqv:Eqv (x::cP ns P) (cP ns' P)
 few:(cP ns' P).length<=(cP ns P).length+1

theorem qgr{T:Nat}{ns:List Nd}{p lo hi:Int}{P:List Int}{x:En}(hs:Sub T 4 ns 0 p lo hi P)(hx:entB x lo hi=true)(hc:cntK x.key (cP ns P)+x.c<=1073741824)(hT:(cP ns P).length+1<=T):
  mO T ns (ns.set p.toNat { nth ns p with ents:=dM (nth ns p).ents x }) 0 p lo hi P x:=by
 obtain⟨hr,rfl,hl⟩:=hs;have ec:cP ns [p]=(nth ns p).ents:=by simp[cP,cont,hl.buf]
 rw[ec] at hc hT;have hw:=qcg hl.ents hx hc;have hn:=vO (y:={ nth ns p with ents:=dM (nth ns p).ents x }) hr.1 hr.2.1;have hlen:(dM (nth ns p).ents x).length<=(nth ns p).ents.length+1:=by rw[hw.len];split<;>omega
 have ec':cP (ns.set p.toNat { nth ns p with ents:=dM (nth ns p).ents x }) [p]=dM (nth ns p).ents x:=by
  rw[kZ,hn];simp[cP,cont,hl.buf]
 refine⟨⟨⟨hr.1,by simpa using hr.2.1,hr.2.2⟩,rfl,?_⟩,by simp,fun n hn0 h0=>sO hr.1 h0 (by simpa using hn0),?_,?_⟩
 ·rw[hn];exact⟨hl.leaf,hl.keys,hl.kids,hl.buf,hw.ne,by show(dM _ _).length<=T;omega,hw.ents⟩
 ·rw[ec,ec'];exact hw.eqv
 ·rw[ec,ec'];exact hlen

theorem q3g{T h:Nat}{ns:List Nd}{p lo hi:Int}{P:List Int}{b:List En}(hs:Sub T 4 ns (h+1) p lo hi P)(hP:P.Nodup)(hb:aK b lo hi=true)(hf:b.length<=8):
  Sub T 4 (ns.set p.toNat { nth ns p with buf:=b }) (h+1) p lo hi P/\∃Q,P=p::Q/\cP ns P=(nth ns p).buf++cP ns Q/\cP (ns.set p.toNat { nth ns p with buf:=b }) P=b++cP ns Q:=by
 obtain⟨hr,Q,rfl,hin⟩:=hs;have hn:=vO (y:={ nth ns p with buf:=b }) hr.1 hr.2.1;rw[List.nodup_cons] at hP;have hQr:=qO hin.kids;have hfar:∀n∈Q,nth (ns.set p.toNat { nth ns p with buf:=b }) n=nth ns n:=fun n hnQ=>sO hr.1 (hQr n hnQ).1 (fun e=>hP.1 (e▸hnQ))
 refine⟨⟨⟨hr.1,by simpa using hr.2.1,hr.2.2⟩,Q,rfl,?_⟩,Q,rfl,?_,?_⟩
 ·rw[hn];exact⟨hin.leaf,hin.ents,hin.two,hin.most,hin.keys,hf,hb,nJ hin.kids fun d l u Q' q1 q2=>nD h d l u Q' q1 fun n hnQ=>⟨hfar n (q2 n hnQ),by simpa using (hQr n (q2 n hnQ)).2⟩⟩
 ·rw[kZ];simp[cont,hin.ents]
 ·rw[kZ,hn,xO hfar];simp[cont,hin.ents]

theorem qkw{T h:Nat}{ns:List Nd}{p lo hi:Int}{P:List Int}{x:En}(hs:Sub T 4 ns (h+1) p lo hi P)(hP:P.Nodup)(hx:entB x lo hi=true)(hc:cntK x.key (cP ns P)+x.c<=1073741824)(hw:hasK (nth ns p).buf x.key=true\/(nth ns p).buf.length<8):
  mO T ns (ns.set p.toNat { nth ns p with buf:=dM (nth ns p).buf x }) (h+1) p lo hi P x:=by
 have hpos:=uP hs;obtain⟨hr,Q,rfl,hin⟩:=hs;have hQpos:Pos (cP ns Q):=by rw[kZ] at hpos;exact hpos.right
 have hcb:cntK x.key (nth ns p).buf+x.c<=1073741824:=by
  have e:cP ns (p::Q)=(nth ns p).buf++cP ns Q:=by rw[kZ];simp[cont,hin.ents]
  rw[e,nZ] at hc;have:=nM (k:=x.key) hQpos;omega
 have hwe:=qcg hin.buf hx hcb
 have hlen:(dM (nth ns p).buf x).length<=8:=by
  rw[hwe.len];have:=hin.few;rcases hw with e|e
  ·rw[if_pos e];exact this
  ·split<;>omega
 have hlen2:(dM (nth ns p).buf x).length<=(nth ns p).buf.length+1:=by rw[hwe.len];split<;>omega
 obtain⟨s1,Q',hQ,e1,e2⟩:=q3g (b:=dM (nth ns p).buf x) ⟨hr,Q,rfl,hin⟩ hP hwe.ents hlen;obtain rfl:Q=Q':=by simpa using hQ
 refine⟨s1,by simp,fun n hn0 h0=>sO hr.1 h0 (fun e=>hn0 (by simp[e])),?_,?_⟩
 ·rw[e1,e2];exact hwe.eqv.app hQpos
 ·rw[e1,e2];simp;omega

theorem qjh{T h:Nat}{ns ns':List Nd}{p lo hi l u d:Int}{P Qa Qd Qb:List Int}{x:En}(hs:Sub T 4 ns (h+1) p lo hi P)(hP:P=p::(Qa++Qd++Qb))(hnd:P.Nodup)
  (hre:∀ns',ns'.length=ns.length->(∀n,n∉Qd->0<=n->nth ns' n=nth ns n)->Sub T 4 ns' h d l u Qd->Sub T 4 ns' (h+1) p lo hi P) (hk:mO T ns ns' h d l u Qd x):mO T ns ns' (h+1) p lo hi P x:=by
 have hpos:=uP hs;have hrg:=nC _ _ _ _ _ hs;subst hP;have hnd2:=hnd;rw[List.nodup_cons,List.nodup_append,List.nodup_append] at hnd;obtain⟨hpn,⟨na,nd,nad⟩,nb,nab⟩:=hnd;have e:∀ns:List Nd,cP ns (p::(Qa++Qd++Qb))=cont (nth ns p)++cP ns Qa++cP ns Qd++cP ns Qb:=fun ns=>by rw[kZ,qR,qR];simp
 have c1:nth ns' p=nth ns p:=hk.same p (fun e=>hpn (by simp[e])) (hrg p (by simp)).1
 have c2:cP ns' Qa=cP ns Qa:=xO fun n hn=>hk.same n (fun e=>nad n hn n e rfl) (hrg n (by simp[hn])).1
 have c3:cP ns' Qb=cP ns Qb:=xO fun n hn=>hk.same n (fun e=>nab n (List.mem_append_right _ e) n hn rfl) (hrg n (by simp[hn])).1
 refine⟨hre ns' hk.len (fun n h1 h2=>hk.same n h1 h2) hk.sub,hk.len,fun n hn h0=>hk.same n (fun e=>hn (by simp[e])) h0,?_,?_⟩
 ·rw[e] at hpos;rw[e,e,c1,c2,c3];have h1:=(hk.eqv.app hpos.right).app_left hpos.left.left;refine Eqv.trans (Eqv.of_perm ?_ ?_) (h1.trans (Eqv.of_perm ?_ h1.posm))
  ·generalize cont (nth ns p)++cP ns Qa=A;show(x::(A++cP ns Qd++cP ns Qb)).Perm (A++((x::cP ns Qd)++cP ns Qb));rw[List.append_assoc];exact(List.perm_middle (a:=x) (l₁:=A) (l₂:=cP ns Qd++cP ns Qb)).symm
  ·intro z hz;rcases List.mem_cons.1 hz with rfl|hz
   ·exact hk.eqv.posl _ List.mem_cons_self
   ·exact hpos z hz
  ·rw[List.append_assoc,List.append_assoc,List.append_assoc]
 ·have:=hk.few;rw[e,e,c1,c2,c3];simp only[List.length_append];omega

theorem q0x{hi:Int}(f:En->Bool):∀{l:List En} {lo:Int},aK l lo hi=true->aK (l.filter f) lo hi=true
 |[],_,_=>rfl
 |x::r,lo,h=>by
  simp only[aK,Bool.and_eq_true] at h;have h1:=entB_iff.1 h.1;have ih:=q0x f h.2;rw[List.filter_cons]
  split
  ·simp only[aK,Bool.and_eq_true];exact⟨h.1,ih⟩
  ·exact q2q ih (by omega)

structure iG(T:Nat)(ns ns':List Nd)(h:Nat)(p lo hi:Int)(P:List Int)(rest:List En):Prop where
 sub:Sub T 4 ns' (h+1) p lo hi P
 len:ns'.length=ns.length
 same:∀n,n∉P->0<=n->nth ns' n=nth ns n
 eqv:Eqv (cP ns P) (rest++cP ns' P)
 few:(cP ns' P).length+rest.length<=(cP ns P).length
 keys:(nth ns' p).keys=(nth ns p).keys
 kids:(nth ns' p).kids=(nth ns p).kids

theorem qcz{T h:Nat}{ns:List Nd}{p lo hi:Int}{P:List Int}(hs:Sub T 4 ns (h+1) p lo hi P)(hP:P.Nodup)(f:En->Bool):
  iG T ns (ns.set p.toNat { nth ns p with buf:=(nth ns p).buf.filter fun x=>!f x }) h p lo hi P ((nth ns p).buf.filter f):=by
 have hpos:=uP hs;have hr:=hs.1;have hin:=hs.2;obtain⟨Q0,hQ0,hin⟩:=hin;have hfl:((nth ns p).buf.filter fun x=>!f x).length<=8:=Nat.le_trans (List.length_filter_le _ _) hin.few
 obtain⟨s1,Q,rfl,e1,e2⟩:=q3g (b:=(nth ns p).buf.filter fun x=>!f x) hs hP (q0x _ hin.buf) hfl
 have hperm:((nth ns p).buf.filter f++(nth ns p).buf.filter fun x=>!f x).Perm (nth ns p).buf:=List.filter_append_perm f _
 have hn:=vO (y:={ nth ns p with buf:=(nth ns p).buf.filter fun x=>!f x }) hr.1 hr.2.1
 refine⟨s1,by simp,fun n hn0 h0=>sO hr.1 h0 (fun e=>hn0 (by simp[e])),?_,?_,by rw[hn],by rw[hn]⟩
 ·rw[e1] at hpos;rw[e1,e2,<-List.append_assoc];exact Eqv.of_perm (hperm.symm.append_right _) hpos
 ·rw[e1,e2];have:=hperm.length_eq;simp only[List.length_append] at this ⊢;omega

theorem qfx{T h:Nat}{ns ns1 ns2:List Nd}{p lo hi:Int}{P:List Int}{x:En}{rest:List En}(hd:iG T ns ns1 h p lo hi P (x::rest))(hk:mO T ns1 ns2 (h+1) p lo hi P x)(hkeys:(nth ns2 p).keys=(nth ns1 p).keys)(hkids:(nth ns2 p).kids=(nth ns1 p).kids):iG T ns ns2 h p lo hi P rest:=by
 have hp:=hd.eqv.posm;have hpr:Pos rest:=fun y hy=>hp y (by simp[hy])
 refine⟨hk.sub,hk.len.trans hd.len,fun n h1 h2=>(hk.same n h1 h2).trans (hd.same n h1 h2),?_,?_,hkeys.trans hd.keys,hkids.trans hd.kids⟩
 ·refine hd.eqv.trans (Eqv.trans (Eqv.of_perm ?_ hp) (hk.eqv.app_left hpr));exact(List.perm_middle (a:=x) (l₁:=rest) (l₂:=cP ns1 P)).symm
 ·have h1:=hd.few;have h2:=hk.few;simp only[List.length_cons] at h1;omega

end
end Go.Proofs.YtlojfgdpmaigmagGreatDoor

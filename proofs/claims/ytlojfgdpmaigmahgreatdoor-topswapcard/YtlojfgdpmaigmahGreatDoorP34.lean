/- What goes down a tree: lists of entries that tell the same; a list with an entry more. In plain terms. -/
import Derived.Test.YtlojfgdpmaigmahGreatDoorP24
import Derived.Test.YtlojfgdpmaigmahGreatDoorP22
import Derived.Test.YtlojfgdpmaigmahGreatDoorP14
import Derived.Test.YtlojfgdpmaigmahGreatDoorP11
import Derived.Test.YtlojfgdpmaigmahGreatDoorP23
import Derived.Test.YtlojfgdpmaigmahGreatDoorP28
namespace Go.Proofs.YtlojfgdpmaigmahGreatDoor
section
open Go.RowKit Plain

theorem entB_iff{x:En}{lo hi:Int}:entB x lo hi=true↔(lo<=x.key/\x.key<hi)/\Good x.ru:=by
 constructor
 ·intro h
  refine⟨?_,qj2 h⟩
  simp only[entB,Bool.and_eq_true,decide_eq_true_eq] at h
  exact h.1.1
 ·rintro⟨⟨h1,h2⟩,h3,h4⟩
  simp only[entB,Bool.and_eq_true,decide_eq_true_eq,Bool.not_eq_true',beq_eq_false_iff_ne,beq_iff_eq]
  exact⟨⟨⟨h1,h2⟩,h4⟩,h3⟩

theorem qfl{k hi:Int}:∀{A B:List En} {lo:Int},q0r A lo k=true->q0r B k hi=true->lo<=k->k<=hi->q0r (A++B) lo hi=true
 |[],B,lo,_,hB,hl,_=>qgd hB hl
 |x::A,B,lo,hA,hB,_,hh=>by
  simp only[q0r,Bool.and_eq_true,List.cons_append] at hA ⊢
  have h1:=entB_iff.1 hA.1
  exact⟨entB_iff.2 ⟨⟨h1.1.1,by omega⟩,h1.2⟩,qfl hA.2 hB (by omega) hh⟩

theorem qfi{x z:En}{hi:Int}(hz:z.key=x.key)(hg:Good z.ru):∀{A B:List En} {lo:Int},q0r (A++x::B) lo hi=true->q0r (A++z::B) lo hi=true
 |[],B,lo,h=>by
  simp only[List.nil_append,q0r,Bool.and_eq_true] at h ⊢
  have h1:=entB_iff.1 h.1
  exact⟨entB_iff.2 ⟨⟨by omega,by omega⟩,hg⟩,by rw[hz];exact h.2⟩
 |y::A,B,lo,h=>by
  simp only[List.cons_append,q0r,Bool.and_eq_true] at h ⊢
  exact⟨h.1,qfi hz hg h.2⟩

theorem qkt{hi k:Int}:∀{l:List En},q0r l k hi=true->(∀y∈l,y.key≠k)->q0r l (k+1) hi=true
 |[],_,_=>rfl
 |x::r,h,hn=>by
  simp only[q0r,Bool.and_eq_true] at h ⊢
  have h1:=entB_iff.1 h.1
  have h2:=hn x List.mem_cons_self
  exact⟨entB_iff.2 ⟨⟨by omega,h1.1.2⟩,h1.2⟩,h.2⟩

theorem qr1{lo hi:Int}{l:List En}(h:q0r l lo hi=true):Pos l:=fun y hy=>(good_iff.1 (q4a h y hy)).1.1

structure z4f(l:List En)(x:En)(lo hi:Int)(m:List En):Prop where
 ents:q0r m lo hi=true
 eqv:Eqv (x::l) m
 ne:m≠[]
 len:m.length=if hasK l x.key=true then l.length else l.length+1

theorem qng{l:List En}{x:En}{lo hi:Int}(hl:q0r l lo hi=true)(hx:entB x lo hi=true)(hc:cntK x.key l+x.c<=1073741824):z4f l x lo hi (q4m l x):=by
 have hp:=(q4k hl).2
 obtain⟨⟨hx1,hx2⟩,hxg⟩:=entB_iff.1 hx
 have hpx:(1:Int)<=x.c:=(good_iff.1 hxg).1.1
 have hpl:=qr1 hl
 cases hk:hasK l x.key with
 |true=>
  obtain⟨hi',hkey⟩:=qms hp hk
  obtain⟨e1,e2⟩:=q3l l (lowN l x.key) (mkE (l[lowN l x.key]).key (mrg (l[lowN l x.key]).ru x.ru).1) hi'
  have e:q4m l x=l.set (lowN l x.key) (mkE (l[lowN l x.key]).key (mrg (l[lowN l x.key]).ru x.ru).1):=by
   unfold q4m
   rw[if_pos hk,List.getD_eq_getElem?_getD,List.getElem?_eq_getElem hi']
   rfl
  have hyg:Good (l[lowN l x.key]).ru:=q4a hl _ (List.getElem_mem hi')
  rw[e,e2]
  generalize l[lowN l x.key]=y at *
  generalize l.take (lowN l x.key)=A at *
  generalize l.drop (lowN l x.key+1)=B at *
  subst e1
  have hpA:=hpl.left
  have hpB:Pos B:=fun z hz=>hpl.right z (List.mem_cons_of_mem _ hz)
  have hyc:y.c+x.c<=1073741824:=by
   rw[q3s,cntK,if_pos hkey] at hc
   have a:=q8k (k:=x.key) hpA
   have b:=q8k (k:=x.key) hpB
   omega
  have em:mrg y.ru x.ru=(jn y.ru x.ru,0):=by rw[q8m hyg hxg,if_pos (show y.ru.c+x.ru.c<=1073741824 from hyc)]
  rw[em,hkey]
  have hg:=q9m hyg hxg (show y.ru.c+x.ru.c<=1073741824 from hyc)
  have hg2:Good (mkE x.key (jn y.ru x.ru)).ru:=by rw[qxt];exact hg
  have hk2:(mkE x.key (jn y.ru x.ru)).key=y.key:=by rw[q5w,hkey]
  refine⟨qfi hk2 hg2 hl,?_,by simp,by rw[if_pos hk];simp⟩
  have j:=(Eqv.join hkey hxg hyg hyc).app hpB
  have j2:=j.app_left hpA
  refine Eqv.trans (Eqv.of_perm ?_ ?_) j2
  ·show(x::(A++y::B)).Perm (A++([y,x]++B))
   refine List.Perm.trans ?_ (List.perm_append_comm (l₁:=[y,x]++B) (l₂:=A))
   refine List.Perm.trans ?_ (List.Perm.swap y x (B++A))
   exact List.Perm.cons x (List.perm_append_comm (l₁:=A) (l₂:=y::B))
  ·intro z hz
   rcases List.mem_cons.1 hz with rfl|hz
   ·exact hpx
   ·exact hpl z hz
 |false=>
  have e:q4m l x=l.take (lowN l x.key)++x::l.drop (lowN l x.key):=by
   unfold q4m
   rw[if_neg (by rw[hk];decide)]
  obtain⟨h1,h2⟩:=qbt (k:=x.key) hl hx1
  have hne:∀y∈l,y.key≠x.key:=fun y hy q=>by
   have:hasK l x.key=true:=List.any_eq_true.2 ⟨y,hy,by simpa using q⟩
   rw[hk] at this
   cases this
  have h3:=qkt h2 (fun y hy=>hne y (List.mem_of_mem_drop hy))
  have hln:=qbo l x.key
  rw[e]
  refine⟨qfl h1 ?_ hx1 (by omega),Eqv.of_perm ?_ ?_,by simp,by rw[if_neg (by rw[hk];decide)];simp;omega⟩
  ·simp only[q0r,Bool.and_eq_true]
   exact⟨entB_iff.2 ⟨⟨Int.le_refl _,hx2⟩,hxg⟩,h3⟩
  ·have:(x::l).Perm (x::(l.drop (lowN l x.key)++l.take (lowN l x.key))):=by
    refine List.Perm.cons x ?_
    conv=>lhs;rw[<-List.take_append_drop (lowN l x.key) l]
    exact List.perm_append_comm
   exact this.trans (List.perm_append_comm (l₁:=x::l.drop (lowN l x.key)) (l₂:=l.take (lowN l x.key)))
  ·intro z hz
   rcases List.mem_cons.1 hz with rfl|hz
   ·exact hpx
   ·exact hpl z hz

def cP(ns:List Nd)(P:List Int):List En:=P.flatMap fun n=>cont (nth ns n)

theorem q7y(ns:List Nd)(P Q:List Int):cP ns (P++Q)=cP ns P++cP ns Q:=by simp[cP]
theorem q7d(ns:List Nd)(n:Int)(Q:List Int):cP ns (n::Q)=cont (nth ns n)++cP ns Q:=by simp[cP]
theorem qd4{ns ns':List Nd}:∀{P:List Int},(∀n∈P,nth ns' n=nth ns n)->cP ns' P=cP ns P
 |[],_=>rfl
 |n::Q,h=>by rw[q7d,q7d,h n List.mem_cons_self,qd4 fun m hm=>h m (List.mem_cons_of_mem _ hm)]

def kidJ:List Int->Int->Nat
 |[],_=>0
 |k0::ks,k=>if k0<=k then kidJ ks k+1 else 0

theorem qh1{k:Int}:∀{keys:List Int},keys.Pairwise (·<·)->kidI keys k=kidJ keys k
 |[],_=>rfl
 |k0::ks,h=>by
  obtain⟨h1,h2⟩:=List.pairwise_cons.1 h
  have ih:=qh1 (k:=k) h2
  show kidI (k0::ks) k=if k0<=k then kidJ ks k+1 else 0
  unfold kidI at *
  rw[List.countP_cons,List.contains_cons]
  by_cases a:k0<k
  ·have e:(k==k0)=false:=by simp;omega
   rw[if_pos (show k0<=k by omega),<-ih,e,if_pos (show decide (k0<k)=true by simpa using a),Bool.false_or]
   omega
  ·have c1:ks.countP (fun z=>decide (z<k))=0:=by
    rw[List.countP_eq_zero]
    intro z hz
    have:=h1 z hz
    simp
    omega
   have c2:ks.contains k=false:=by
    rw[<-Bool.not_eq_true,List.contains_iff_mem]
    intro hz
    have:=h1 k hz
    omega
   rw[c1,c2] at ih
   have ih':kidJ ks k=0:=by simpa using ih.symm
   rw[c1,c2,if_neg (show ¬decide (k0<k)=true by simpa using a),Bool.or_false]
   by_cases b:k0=k
   ·rw[if_pos (show k0<=k by omega),ih',if_pos (by simp[b])]
   ·rw[if_neg (show ¬k0<=k by omega),if_neg (by simp;omega)]

theorem q5p{g:Rel}(hg:∀d lo hi Q,g d lo hi Q->lo<hi){hi:Int}:∀{kids keys:List Int} {lo:Int} {Q:List Int},keys.length+1=kids.length->SubK g lo (ups kids keys hi) Q->keys.Pairwise (·<·)/\(∀k∈keys,lo<k/\k<hi)/\lo<hi
 |[],_,_,_,h,_=>by simp at h
 |[d],keys,lo,Q,h,hs=>by
  obtain rfl:keys=[]:=List.eq_nil_of_length_eq_zero (by simpa using h)
  obtain⟨Q1,Q2,rfl,h1,h2⟩:=hs
  exact⟨List.Pairwise.nil,by simp,hg _ _ _ _ h1⟩
 |d::e::ds,[],lo,Q,h,_=>by simp at h
 |d::e::ds,k::ks,lo,Q,h,hs=>by
  obtain⟨Q1,Q2,rfl,h1,h2⟩:=hs
  obtain⟨a,b,c⟩:=q5p hg (kids:=e::ds) (keys:=ks) (by simpa using h) h2
  have hlt:=hg _ _ _ _ h1
  refine⟨List.pairwise_cons.2 ⟨fun z hz=>(b z hz).1,a⟩,fun z hz=>?_,by omega⟩
  rcases List.mem_cons.1 hz with rfl|hz
  ·omega
  ·have:=b z hz;omega

theorem qap{g:Rel}(hg:∀d lo hi Q,g d lo hi Q->lo<hi){hi k:Int}:∀{kids keys:List Int} {lo:Int} {Q:List Int},keys.length+1=kids.length->SubK g lo (ups kids keys hi) Q->lo<=k->k<hi->
  ∃l u Qa Qd Qb,kidJ keys k<kids.length/\Q=Qa++Qd++Qb/\g (kids.getD (kidJ keys k) 0) l u Qd/\l<=k/\k<u/\lo<=l/\u<=hi/\
   ∀g':Rel,(∀d l u Q',g d l u Q'->(∀n∈Q',n∈Qa++Qb)->g' d l u Q')->g' (kids.getD (kidJ keys k) 0) l u Qd->SubK g' lo (ups kids keys hi) Q
 |[],_,_,_,h,_,_,_=>by simp at h
 |[d],keys,lo,Q,h,hs,h1,h2=>by
  obtain rfl:keys=[]:=List.eq_nil_of_length_eq_zero (by simpa using h)
  obtain⟨Q1,Q2,rfl,a,b⟩:=hs
  cases b
  exact⟨lo,hi,[],Q1,[],by simp[kidJ],by simp,a,h1,h2,Int.le_refl _,Int.le_refl _,fun g' _ hd=>⟨Q1,[],rfl,hd,rfl⟩⟩
 |d::e::ds,[],lo,Q,h,_,_,_=>by simp at h
 |d::e::ds,k0::ks,lo,Q,h,hs,h1,h2=>by
  obtain⟨Q1,Q2,rfl,a,b⟩:=hs
  have hlt:=hg _ _ _ _ a
  have hrs:=(q5p hg (kids:=e::ds) (keys:=ks) (by simpa using h) b).2.2
  by_cases hk:k0<=k
  ·obtain⟨l,u,Qa,Qd,Qb,c1,rfl,c3,c4,c5,c7,c8,c6⟩:=qap hg (kids:=e::ds) (keys:=ks) (by simpa using h) b hk h2
   have ej:kidJ (k0::ks) k=kidJ ks k+1:=by simp[kidJ,hk]
   have ed:(d::e::ds).getD (kidJ (k0::ks) k) 0=(e::ds).getD (kidJ ks k) 0:=by rw[ej,List.getD_cons_succ]
   refine⟨l,u,Q1++Qa,Qd,Qb,by rw[ej];simpa using c1,by simp,by rw[ed];exact c3,c4,c5,by omega,c8,fun g' hg' hd=>?_⟩
   rw[ed] at hd
   refine⟨Q1,Qa++Qd++Qb,by simp,hg' _ _ _ _ a (fun n hn=>by simp[hn]),c6 g' (fun d l u Q' q1 q2=>hg' d l u Q' q1 fun n hn=>?_) hd⟩
   have:=q2 n hn
   simp only[List.mem_append] at this ⊢
   rcases this with t|t
   ·exact .inl (.inr t)
   ·exact .inr t
  ·have ej:kidJ (k0::ks) k=0:=by simp[kidJ,hk]
   rw[ej]
   refine⟨lo,k0,[],Q1,Q2,by simp,by simp,by simpa using a,h1,by omega,Int.le_refl _,by omega,fun g' hg' hd=>⟨Q1,Q2,rfl,by simpa using hd,q6l b fun d l u Q' q1 q2=>hg' d l u Q' q1 fun n hn=>by simp[q2 n hn]⟩⟩

theorem qvw{T:Nat}{ns:List Nd}{h:Nat}{p lo hi k:Int}{P:List Int}(hs:Sub T 4 ns (h+1) p lo hi P)(hP:P.Nodup)(h1:lo<=k)(h2:k<hi):
  ∃l u Qa Qd Qb,kidI (nth ns p).keys k<(nth ns p).kids.length/\P=p::(Qa++Qd++Qb)/\Sub T 4 ns h ((nth ns p).kids.getD (kidI (nth ns p).keys k) 0) l u Qd/\l<=k/\k<u/\Qd.Nodup/\p∉Qd/\lo<=l/\u<=hi/\
   ∀ns',ns'.length=ns.length->(∀n,n∉Qd->0<=n->nth ns' n=nth ns n)->Sub T 4 ns' h ((nth ns p).kids.getD (kidI (nth ns p).keys k) 0) l u Qd->Sub T 4 ns' (h+1) p lo hi P:=by
 obtain⟨hr,Q,rfl,hin⟩:=hs
 have hrise:=q5p (q8v h) hin.keys hin.kids
 rw[qh1 hrise.1]
 obtain⟨l,u,Qa,Qd,Qb,c1,rfl,c3,c4,c5,c7,c8,c6⟩:=qap (q8v h) hin.keys hin.kids h1 h2
 have hnd:=hP
 rw[List.nodup_cons,List.nodup_append,List.nodup_append] at hnd
 obtain⟨hpn,⟨na,nd,nad⟩,nb,nab⟩:=hnd
 have hpd:p∉Qd:=fun e=>hpn (by simp[e])
 refine⟨l,u,Qa,Qd,Qb,c1,rfl,c3,c4,c5,nd,hpd,c7,c8,fun ns' hl hsame hd=>?_⟩
 ·refine⟨⟨hr.1,by omega,hr.2.2⟩,Qa++Qd++Qb,rfl,?_⟩
  rw[hsame p hpd hr.1]
  refine⟨hin.leaf,hin.ents,hin.two,hin.most,hin.keys,hin.few,hin.buf,c6 _ (fun d l u Q' q1 q2=>q4r h d l u Q' q1 fun n hn=>?_) hd⟩
  have hm:=q2 n hn
  have hnd:n∉Qd:=by
   intro e
   rcases List.mem_append.1 hm with t|t
   ·exact nad n t n e rfl
   ·exact nab n (List.mem_append_right _ e) n t rfl
  exact⟨hsame n hnd (q4u h _ _ _ _ q1 n hn).1,by rw[hl];exact(q4u h _ _ _ _ q1 n hn).2⟩

theorem qan{T m:Nat}{ns:List Nd}:∀(h:Nat) (p lo hi:Int) (P:List Int),Sub T m ns h p lo hi P->∀y∈cP ns P,(lo<=y.key/\y.key<hi)/\Good y.ru
 |0,p,lo,hi,P,hs,y,hy=>by
  obtain⟨_,rfl,hl⟩:=hs
  have hy':y∈(nth ns p).ents:=by simpa [cP,cont,hl.buf] using hy
  exact⟨(q4k hl.ents).1 y hy',q4a hl.ents y hy'⟩
 |h+1,p,lo,hi,P,hs,y,hy=>by
  obtain⟨_,Q,rfl,hin⟩:=hs
  rw[q7d] at hy
  rcases List.mem_append.1 hy with hy|hy
  ·have hy':y∈(nth ns p).buf:=by simpa [cont,hin.ents] using hy
   exact⟨(q4k hin.buf).1 y hy',q4a hin.buf y hy'⟩
  ·have ih:=qan (T:=T) (m:=m) (ns:=ns) h
   have:∀(kids keys:List Int) (lo':Int) (Q:List Int),keys.length+1=kids.length->SubK (Sub T m ns h) lo' (ups kids keys hi) Q->∀y∈cP ns Q,(lo'<=y.key/\y.key<hi)/\Good y.ru:=by
    intro kids
    induction kids with
    |nil=>intro keys lo' Q hk;simp at hk
    |cons d ds ihd=>
     intro keys lo' Q hk hQ y hy
     have hr:=q5p (q8v h) hk hQ
     cases ds with
     |nil=>
      obtain rfl:keys=[]:=List.eq_nil_of_length_eq_zero (by simpa using hk)
      obtain⟨Q1,Q2,rfl,h1,h2⟩:=hQ
      cases h2
      rw[List.append_nil] at hy
      exact ih _ _ _ _ h1 y hy
     |cons e ds=>
      cases keys with
      |nil=>simp at hk
      |cons k ks=>
       obtain⟨Q1,Q2,rfl,h1,h2⟩:=hQ
       have hk1:=hr.2.1 k List.mem_cons_self
       rw[q7y] at hy
       rcases List.mem_append.1 hy with hy|hy
       ·obtain⟨a,b⟩:=ih _ _ _ _ h1 y hy
        exact⟨⟨a.1,by omega⟩,b⟩
       ·obtain⟨a,b⟩:=ihd ks k Q2 (by simpa using hk) h2 y hy
        exact⟨⟨by omega,a.2⟩,b⟩
   exact this _ _ _ _ hin.keys hin.kids y hy

theorem qdp{T m:Nat}{ns:List Nd}{h:Nat}{p lo hi:Int}{P:List Int}(hs:Sub T m ns h p lo hi P):Pos (cP ns P):=fun y hy=>(good_iff.1 (qan h p lo hi P hs y hy).2).1.1

theorem qjc{T m:Nat}{ns:List Nd}:∀(h f:Nat) (p lo hi:Int) (P:List Int),Sub T m ns h p lo hi P->h<f->Reach ns f p
 |0,f+1,p,lo,hi,P,hs,_=>by
  obtain⟨hr,rfl,hl⟩:=hs
  refine⟨hr.1,hr.2.1,?_⟩
  rw[show ns.getD p.toNat default=nth ns p from rfl,hl.kids]
  simp
 |h+1,f+1,p,lo,hi,P,hs,hf=>by
  obtain⟨hr,Q,rfl,hin⟩:=hs
  refine⟨hr.1,hr.2.1,?_⟩
  rw[show ns.getD p.toNat default=nth ns p from rfl]
  refine⟨by have:=hin.keys;omega,fun d hd=>?_⟩
  have:∀(kids keys:List Int) (lo':Int) (Q:List Int),keys.length+1=kids.length->SubK (Sub T m ns h) lo' (ups kids keys hi) Q->∀d∈kids,∃l u Q',Sub T m ns h d l u Q':=by
   intro kids
   induction kids with
   |nil=>intro keys lo' Q hk;simp at hk
   |cons e ds ihd=>
    intro keys lo' Q hk hQ d hd
    cases ds with
    |nil=>
     obtain rfl:keys=[]:=List.eq_nil_of_length_eq_zero (by simpa using hk)
     obtain⟨Q1,Q2,rfl,h1,h2⟩:=hQ
     obtain rfl:d=e:=by simpa using hd
     exact⟨_,_,_,h1⟩
    |cons e' ds=>
     cases keys with
     |nil=>simp at hk
     |cons k ks=>
      obtain⟨Q1,Q2,rfl,h1,h2⟩:=hQ
      rcases List.mem_cons.1 hd with rfl|hd
      ·exact⟨_,_,_,h1⟩
      ·exact ihd ks k Q2 (by simpa using hk) h2 d hd
  obtain⟨l,u,Q',hd'⟩:=this _ _ _ _ hin.keys hin.kids d hd
  exact qjc h f d l u Q' hd' (by omega)

theorem qwo{low high:Int}{l:List En}(h:∀y∈l,¬(low<=y.key/\y.key<high)):l.filter (inR low high)=[]:=by
 rw[List.filter_eq_nil_iff]
 intro y hy e
 exact h y hy (by simpa [inR] using e)

theorem qy1{T m:Nat}{ns:List Nd}{low high:Int}:∀(h f:Nat) (p lo hi:Int) (P:List Int),Sub T m ns h p lo hi P->h<f->Wl ns low high f p=(cP ns P).filter (inR low high)
 |0,f+1,p,lo,hi,P,hs,_=>by
  obtain⟨hr,rfl,hl⟩:=hs
  rw[Wl,show ns.getD p.toNat default=nth ns p from rfl,hl.kids,hl.buf]
  simp[WlK,cP,cont,hl.buf]
 |h+1,f+1,p,lo,hi,P,hs,hf=>by
  obtain⟨hr,Q,rfl,hin⟩:=hs
  rw[Wl,show ns.getD p.toNat default=nth ns p from rfl,q7d,List.filter_append,hin.ents]
  have:∀(kids keys:List Int) (lo':Int) (Q:List Int) (pr:Option Int),keys.length+1=kids.length->SubK (Sub T m ns h) lo' (ups kids keys hi) Q->(∀k,pr=some k->k=lo')->WlK (Wl ns low high f) low high kids keys pr=(cP ns Q).filter (inR low high):=by
   intro kids
   induction kids with
   |nil=>intro keys lo' Q pr hk;simp at hk
   |cons d ds ihd=>
    intro keys lo' Q pr hk hQ hpr
    have one:∀(u:Int) (Q1:List Int) (nx:Option Int),Sub T m ns h d lo' u Q1->(∀k,nx=some k->k=u)->(if q8l low high pr nx=true then[] else Wl ns low high f d)=(cP ns Q1).filter (inR low high):=by
     intro u Q1 nx h1 hnx
     by_cases hsk:q8l low high pr nx=true
     ·rw[if_pos hsk,qwo]
      intro y hy
      have hc:=(qan h _ _ _ _ h1 y hy).1
      unfold q8l at hsk
      rw[Bool.or_eq_true] at hsk
      rcases hsk with e|e
      ·cases pr with
       |none=>simp at e
       |some k=>
        have:=hpr k rfl
        simp at e
        omega
      ·cases nx with
       |none=>simp at e
       |some k=>
        have:=hnx k rfl
        simp at e
        omega
     ·rw[if_neg hsk]
      exact qy1 h f d lo' u Q1 h1 (by omega)
    cases ds with
    |nil=>
     obtain rfl:keys=[]:=List.eq_nil_of_length_eq_zero (by simpa using hk)
     obtain⟨Q1,Q2,rfl,h1,h2⟩:=hQ
     cases h2
     rw[WlK,one _ _ _ h1 (by simp),List.append_nil]
     simp[WlK]
    |cons e ds=>
     cases keys with
     |nil=>simp at hk
     |cons k ks=>
      obtain⟨Q1,Q2,rfl,h1,h2⟩:=hQ
      rw[WlK,one _ _ _ h1 (by simp),q7y,List.filter_append]
      congr 1
      exact ihd ks k Q2 _ (by simpa using hk) h2 (by simp)
  rw[this _ _ _ _ _ hin.keys hin.kids (by simp)]
  simp[cont,hin.ents]

def InvK(s:Ru × Int):Prop:=s=(zro,0)\/(Good s.1/\s.2=0)\/s.2≠0

theorem quh{s:Ru × Int}{x:En}(h:InvK s)(hx:Good x.ru):InvK (q3a s x)/\((q3a s x).2=0->s.2=0/\(q3a s x).1.c=s.1.c+x.c):=by
 unfold q3a
 rcases h with rfl|⟨hg,h0⟩|h0
 ·rw[if_pos rfl,qh2 hx]
  exact⟨.inr (.inl ⟨hx,rfl⟩),fun _=>⟨rfl,by show x.c=0+x.c;omega⟩⟩
 ·rw[if_pos h0,q8m hg hx]
  by_cases hc:s.1.c+x.ru.c<=1073741824
  ·rw[if_pos hc]
   exact⟨.inr (.inl ⟨q9m hg hx hc,rfl⟩),fun _=>⟨h0,rfl⟩⟩
  ·rw[if_neg hc]
   exact⟨.inr (.inr (by decide)),fun h=>absurd h (by decide)⟩
 ·rw[if_neg h0]
  exact⟨.inr (.inr h0),fun h=>absurd h h0⟩

theorem qjj{k:Int}:∀(xs:List En) (s:Ru × Int),(∀x∈xs,x.key=k/\Good x.ru)->InvK s->InvK (xs.foldl q3a s)/\((xs.foldl q3a s).2=0->s.2=0/\(xs.foldl q3a s).1.c=s.1.c+cntK k xs)
 |[],s,_,h=>⟨h,fun h0=>⟨h0,by simp[cntK]⟩⟩
 |x::xs,s,hx,h=>by
  obtain⟨a,b⟩:=quh h (hx x List.mem_cons_self).2
  obtain⟨c,d⟩:=qjj xs (q3a s x) (fun y hy=>hx y (List.mem_cons_of_mem _ hy)) a
  refine⟨c,fun h0=>?_⟩
  obtain⟨d1,d2⟩:=d h0
  obtain⟨b1,b2⟩:=b d1
  refine⟨b1,?_⟩
  rw[List.foldl_cons,d2,b2,cntK,if_pos (hx x List.mem_cons_self).1]
  omega

theorem qag(k:Int):∀l:List En,cntK k (l.filter (inR k (k+1)))=cntK k l
 |[]=>rfl
 |y::r=>by
  rw[List.filter_cons]
  by_cases h:y.key=k
  ·rw[if_pos (by simp[inR,h];omega),cntK,cntK,qag k r]
  ·rw[if_neg (by simp[inR];omega),cntK,if_neg h,qag k r]
   omega

theorem qjn{T m h:Nat}{ns:List Nd}{p lo hi:Int}{P:List Int}{k:Int}(hs:Sub T m ns h p lo hi P)(hh:h<12){s:Ru × Int}(e:(Wl ns k (k+1) 12 p).foldl q3a (zro,0)=s):InvK s/\(s.2=0->s.1.c=cntK k (cP ns P)):=by
 have hw:Wl ns k (k+1) 12 p=(cP ns P).filter (inR k (k+1)):=qy1 h 12 p lo hi P hs hh
 obtain⟨a,b⟩:=qjj (k:=k) (Wl ns k (k+1) 12 p) (zro,0) (fun x hx=>by
  rw[hw] at hx
  obtain⟨h1,h2⟩:=List.mem_filter.1 hx
  have h3:k<=x.key/\x.key<k+1:=by simpa [inR] using h2
  exact⟨by omega,(qan h p lo hi P hs x h1).2⟩) (.inl rfl)
 rw[e] at a b
 refine⟨a,fun h0=>?_⟩
 obtain⟨_,b2⟩:=b h0
 rw[b2,hw,qag]
 show 0+_=_
 omega

theorem qwr{s:Ru × Int}(h:InvK s)(h0:s.2=0):s.1.c<=1073741824:=by
 rcases h with rfl|⟨hg,_⟩|h
 ·decide
 ·exact(good_iff.1 hg).1.2
 ·exact absurd h0 h

structure qa9(T:Nat)(ns ns':List Nd)(h:Nat)(p lo hi:Int)(P:List Int)(x:En):Prop where
 sub:Sub T 4 ns' h p lo hi P
 len:ns'.length=ns.length
 same:∀n,n∉P->0<=n->nth ns' n=nth ns n
 eqv:Eqv (x::cP ns P) (cP ns' P)
 few:(cP ns' P).length<=(cP ns P).length+1

theorem qr2{T:Nat}{ns:List Nd}{p lo hi:Int}{P:List Int}{x:En}(hs:Sub T 4 ns 0 p lo hi P)(hx:entB x lo hi=true)(hc:cntK x.key (cP ns P)+x.c<=1073741824)(hT:(cP ns P).length+1<=T):
  qa9 T ns (ns.set p.toNat { nth ns p with ents:=q4m (nth ns p).ents x }) 0 p lo hi P x:=by
 obtain⟨hr,rfl,hl⟩:=hs
 have ec:cP ns [p]=(nth ns p).ents:=by simp[cP,cont,hl.buf]
 rw[ec] at hc hT
 have hw:=qng hl.ents hx hc
 have hn:=q7l (y:={ nth ns p with ents:=q4m (nth ns p).ents x }) hr.1 hr.2.1
 have hlen:(q4m (nth ns p).ents x).length<=(nth ns p).ents.length+1:=by rw[hw.len];split<;>omega
 have ec':cP (ns.set p.toNat { nth ns p with ents:=q4m (nth ns p).ents x }) [p]=q4m (nth ns p).ents x:=by
  rw[q7d,hn]
  simp[cP,cont,hl.buf]
 refine⟨⟨⟨hr.1,by simpa using hr.2.1,hr.2.2⟩,rfl,?_⟩,by simp,fun n hn0 h0=>q7c hr.1 h0 (by simpa using hn0),?_,?_⟩
 ·rw[hn]
  exact⟨hl.leaf,hl.keys,hl.kids,hl.buf,hw.ne,by show(q4m _ _).length<=T;omega,hw.ents⟩
 ·rw[ec,ec']
  exact hw.eqv
 ·rw[ec,ec']
  exact hlen

theorem qfn{T h:Nat}{ns:List Nd}{p lo hi:Int}{P:List Int}{b:List En}(hs:Sub T 4 ns (h+1) p lo hi P)(hP:P.Nodup)(hb:q0r b lo hi=true)(hf:b.length<=8):
  Sub T 4 (ns.set p.toNat { nth ns p with buf:=b }) (h+1) p lo hi P/\∃Q,P=p::Q/\cP ns P=(nth ns p).buf++cP ns Q/\cP (ns.set p.toNat { nth ns p with buf:=b }) P=b++cP ns Q:=by
 obtain⟨hr,Q,rfl,hin⟩:=hs
 have hn:=q7l (y:={ nth ns p with buf:=b }) hr.1 hr.2.1
 rw[List.nodup_cons] at hP
 have hQr:=q6r hin.kids
 have hfar:∀n∈Q,nth (ns.set p.toNat { nth ns p with buf:=b }) n=nth ns n:=fun n hnQ=>q7c hr.1 (hQr n hnQ).1 (fun e=>hP.1 (e▸hnQ))
 refine⟨⟨⟨hr.1,by simpa using hr.2.1,hr.2.2⟩,Q,rfl,?_⟩,Q,rfl,?_,?_⟩
 ·rw[hn]
  exact⟨hin.leaf,hin.ents,hin.two,hin.most,hin.keys,hf,hb,q6l hin.kids fun d l u Q' q1 q2=>q4r h d l u Q' q1 fun n hnQ=>⟨hfar n (q2 n hnQ),by simpa using (hQr n (q2 n hnQ)).2⟩⟩
 ·rw[q7d]
  simp[cont,hin.ents]
 ·rw[q7d,hn,qd4 hfar]
  simp[cont,hin.ents]

theorem qvl{T h:Nat}{ns:List Nd}{p lo hi:Int}{P:List Int}{x:En}(hs:Sub T 4 ns (h+1) p lo hi P)(hP:P.Nodup)(hx:entB x lo hi=true)(hc:cntK x.key (cP ns P)+x.c<=1073741824)(hw:hasK (nth ns p).buf x.key=true\/(nth ns p).buf.length<8):
  qa9 T ns (ns.set p.toNat { nth ns p with buf:=q4m (nth ns p).buf x }) (h+1) p lo hi P x:=by
 have hpos:=qdp hs
 obtain⟨hr,Q,rfl,hin⟩:=hs
 have hQpos:Pos (cP ns Q):=by rw[q7d] at hpos;exact hpos.right
 have hcb:cntK x.key (nth ns p).buf+x.c<=1073741824:=by
  have e:cP ns (p::Q)=(nth ns p).buf++cP ns Q:=by rw[q7d];simp[cont,hin.ents]
  rw[e,q3s] at hc
  have:=q8k (k:=x.key) hQpos
  omega
 have hwe:=qng hin.buf hx hcb
 have hlen:(q4m (nth ns p).buf x).length<=8:=by
  rw[hwe.len]
  have:=hin.few
  rcases hw with e|e
  ·rw[if_pos e];exact this
  ·split<;>omega
 have hlen2:(q4m (nth ns p).buf x).length<=(nth ns p).buf.length+1:=by rw[hwe.len];split<;>omega
 obtain⟨s1,Q',hQ,e1,e2⟩:=qfn (b:=q4m (nth ns p).buf x) ⟨hr,Q,rfl,hin⟩ hP hwe.ents hlen
 obtain rfl:Q=Q':=by simpa using hQ
 refine⟨s1,by simp,fun n hn0 h0=>q7c hr.1 h0 (fun e=>hn0 (by simp[e])),?_,?_⟩
 ·rw[e1,e2]
  exact hwe.eqv.app hQpos
 ·rw[e1,e2]
  simp
  omega

theorem quw{T h:Nat}{ns ns':List Nd}{p lo hi l u d:Int}{P Qa Qd Qb:List Int}{x:En}(hs:Sub T 4 ns (h+1) p lo hi P)(hP:P=p::(Qa++Qd++Qb))(hnd:P.Nodup)
  (hre:∀ns',ns'.length=ns.length->(∀n,n∉Qd->0<=n->nth ns' n=nth ns n)->Sub T 4 ns' h d l u Qd->Sub T 4 ns' (h+1) p lo hi P) (hk:qa9 T ns ns' h d l u Qd x):qa9 T ns ns' (h+1) p lo hi P x:=by
 have hpos:=qdp hs
 have hrg:=q4u _ _ _ _ _ hs
 subst hP
 have hnd2:=hnd
 rw[List.nodup_cons,List.nodup_append,List.nodup_append] at hnd
 obtain⟨hpn,⟨na,nd,nad⟩,nb,nab⟩:=hnd
 have e:∀ns:List Nd,cP ns (p::(Qa++Qd++Qb))=cont (nth ns p)++cP ns Qa++cP ns Qd++cP ns Qb:=fun ns=>by rw[q7d,q7y,q7y];simp
 have c1:nth ns' p=nth ns p:=hk.same p (fun e=>hpn (by simp[e])) (hrg p (by simp)).1
 have c2:cP ns' Qa=cP ns Qa:=qd4 fun n hn=>hk.same n (fun e=>nad n hn n e rfl) (hrg n (by simp[hn])).1
 have c3:cP ns' Qb=cP ns Qb:=qd4 fun n hn=>hk.same n (fun e=>nab n (List.mem_append_right _ e) n hn rfl) (hrg n (by simp[hn])).1
 refine⟨hre ns' hk.len (fun n h1 h2=>hk.same n h1 h2) hk.sub,hk.len,fun n hn h0=>hk.same n (fun e=>hn (by simp[e])) h0,?_,?_⟩
 ·rw[e] at hpos
  rw[e,e,c1,c2,c3]
  have h1:=(hk.eqv.app hpos.right).app_left hpos.left.left
  refine Eqv.trans (Eqv.of_perm ?_ ?_) (h1.trans (Eqv.of_perm ?_ h1.posm))
  ·generalize cont (nth ns p)++cP ns Qa=A
   show(x::(A++cP ns Qd++cP ns Qb)).Perm (A++((x::cP ns Qd)++cP ns Qb))
   rw[List.append_assoc]
   exact(List.perm_middle (a:=x) (l₁:=A) (l₂:=cP ns Qd++cP ns Qb)).symm
  ·intro z hz
   rcases List.mem_cons.1 hz with rfl|hz
   ·exact hk.eqv.posl _ List.mem_cons_self
   ·exact hpos z hz
  ·rw[List.append_assoc,List.append_assoc,List.append_assoc]
 ·have:=hk.few
  rw[e,e,c1,c2,c3]
  simp only[List.length_append]
  omega

theorem qce{hi:Int}(f:En->Bool):∀{l:List En} {lo:Int},q0r l lo hi=true->q0r (l.filter f) lo hi=true
 |[],_,_=>rfl
 |x::r,lo,h=>by
  simp only[q0r,Bool.and_eq_true] at h
  have h1:=entB_iff.1 h.1
  have ih:=qce f h.2
  rw[List.filter_cons]
  split
  ·simp only[q0r,Bool.and_eq_true]
   exact⟨h.1,ih⟩
  ·exact qgd ih (by omega)

structure q4z(T:Nat)(ns ns':List Nd)(h:Nat)(p lo hi:Int)(P:List Int)(rest:List En):Prop where
 sub:Sub T 4 ns' (h+1) p lo hi P
 len:ns'.length=ns.length
 same:∀n,n∉P->0<=n->nth ns' n=nth ns n
 eqv:Eqv (cP ns P) (rest++cP ns' P)
 few:(cP ns' P).length+rest.length<=(cP ns P).length
 keys:(nth ns' p).keys=(nth ns p).keys
 kids:(nth ns' p).kids=(nth ns p).kids

theorem qq7{T h:Nat}{ns:List Nd}{p lo hi:Int}{P:List Int}(hs:Sub T 4 ns (h+1) p lo hi P)(hP:P.Nodup)(f:En->Bool):
  q4z T ns (ns.set p.toNat { nth ns p with buf:=(nth ns p).buf.filter fun x=>!f x }) h p lo hi P ((nth ns p).buf.filter f):=by
 have hpos:=qdp hs
 have hr:=hs.1
 have hin:=hs.2
 obtain⟨Q0,hQ0,hin⟩:=hin
 have hfl:((nth ns p).buf.filter fun x=>!f x).length<=8:=Nat.le_trans (List.length_filter_le _ _) hin.few
 obtain⟨s1,Q,rfl,e1,e2⟩:=qfn (b:=(nth ns p).buf.filter fun x=>!f x) hs hP (qce _ hin.buf) hfl
 have hperm:((nth ns p).buf.filter f++(nth ns p).buf.filter fun x=>!f x).Perm (nth ns p).buf:=List.filter_append_perm f _
 have hn:=q7l (y:={ nth ns p with buf:=(nth ns p).buf.filter fun x=>!f x }) hr.1 hr.2.1
 refine⟨s1,by simp,fun n hn0 h0=>q7c hr.1 h0 (fun e=>hn0 (by simp[e])),?_,?_,by rw[hn],by rw[hn]⟩
 ·rw[e1] at hpos
  rw[e1,e2,<-List.append_assoc]
  exact Eqv.of_perm (hperm.symm.append_right _) hpos
 ·rw[e1,e2]
  have:=hperm.length_eq
  simp only[List.length_append] at this ⊢
  omega

theorem qsc{T h:Nat}{ns ns1 ns2:List Nd}{p lo hi:Int}{P:List Int}{x:En}{rest:List En}(hd:q4z T ns ns1 h p lo hi P (x::rest))(hk:qa9 T ns1 ns2 (h+1) p lo hi P x)(hkeys:(nth ns2 p).keys=(nth ns1 p).keys)(hkids:(nth ns2 p).kids=(nth ns1 p).kids):q4z T ns ns2 h p lo hi P rest:=by
 have hp:=hd.eqv.posm
 have hpr:Pos rest:=fun y hy=>hp y (by simp[hy])
 refine⟨hk.sub,hk.len.trans hd.len,fun n h1 h2=>(hk.same n h1 h2).trans (hd.same n h1 h2),?_,?_,hkeys.trans hd.keys,hkids.trans hd.kids⟩
 ·refine hd.eqv.trans (Eqv.trans (Eqv.of_perm ?_ hp) (hk.eqv.app_left hpr))
  exact(List.perm_middle (a:=x) (l₁:=rest) (l₂:=cP ns1 P)).symm
 ·have h1:=hd.few
  have h2:=hk.few
  simp only[List.length_cons] at h1
  omega

def wt(x:Nd):Nat:=if x.leaf=true then(if x.ents.length<=6 then 6 else x.ents.length+5) else 0
def wts:List Nd->Nat
 |[]=>0
 |x::r=>wt x+wts r

theorem q8a:∀a b:List Nd,wts (a++b)=wts a+wts b
 |[],b=>by simp[wts]
 |x::r,b=>by simp only[List.cons_append,wts,q8a r b];omega

theorem qry{ns:List Nd}{i:Nat}(hi:i<ns.length)(y:Nd):wts (ns.set i y)+wt ns[i]=wts ns+wt y:=by
 obtain⟨e1,e2⟩:=q3l ns i y hi
 rw[e2]
 have:wts ns=wts (ns.take i++ns[i]::ns.drop (i+1)):=by rw[<-e1]
 rw[this,q8a,q8a,wts,wts]
 omega

theorem qio{x:Nd}(hl:x.leaf=true){mn s:Nat}:∀(bs:List Nat) (a:Nat),q9o mn 6 s a bs->wts (q2x x a bs)=6*bs.length
 |[],_,_=>rfl
 |b::bs,a,h=>by
  obtain⟨_,h2,h3⟩:=h
  have e:wt (q7b x a b)=6:=by
   have hle:((x.ents.drop a).take (b-a)).length<=6:=by rw[List.length_take];omega
   simp only[q7b,hl,if_true,wt]
   rw[if_pos hle]
  rw[q2x,wts,e,qio hl bs b h3,List.length_cons]
  omega

theorem qfz{x:Nd}(hl:x.leaf=false):∀(bs:List Nat) (a:Nat),wts (q2x x a bs)=0
 |[],_=>rfl
 |b::bs,a=>by
  have e:wt (q7b x a b)=0:=by simp[q7b,hl,wt]
  rw[q2x,wts,e,qfz hl bs b]

theorem qdk(ns:List Nd)(p:Int):wts (q0p ns p).1<=wts ns:=by
 unfold q0p
 split
 ·exact Nat.le_refl _
 ·rename_i hgt
  have hpn:p.toNat<ns.length:=by
   apply Classical.byContradiction
   intro hn
   have e:nth ns p=default:=by
    unfold nth
    rw[List.getD_eq_getElem?_getD,List.getElem?_eq_none (by omega)]
    rfl
   rw[e] at hgt
   exact hgt (by decide)
  have hx:ns[p.toNat]=nth ns p:=by
   unfold nth
   rw[List.getD_eq_getElem?_getD,List.getElem?_eq_getElem hpn]
   rfl
  generalize hX:nth ns p=x at *
  have hlen:(q2x x 0 (q5i x)).length=q0o x:=by rw[q3y];exact q3i _ _ _ _
  have hsum:wts (q2x x 0 (q5i x))<=wt x:=by
   cases hl:x.leaf with
   |false=>rw[qfz hl];omega
   |true=>
    have hs:q1v x=x.ents.length:=by simp[q1v,hl]
    have hm:q2n x=6:=by simp[q2n,hl]
    rw[hs,hm] at hgt
    have hq:q0o x=(x.ents.length+6-1)/6:=by unfold q0o;rw[hs,hm]
    obtain⟨q1,q2,q3,q4⟩:=q5n (s:=x.ents.length) (m:=6) (mn:=1) (.inl ⟨rfl,rfl⟩) (by omega)
    have hc:q9o 1 6 x.ents.length 0 (q5i x):=by
     unfold q5i
     rw[hs,hq]
     have:=qd3 (s:=x.ents.length) (q:=(x.ents.length+6-1)/6) (m:=6) (mn:=1) (by omega) q2 q3 ((x.ents.length+6-1)/6) 0 (by omega)
     rwa [q8j _ _ (by omega)] at this
    rw[qio hl _ _ hc,show(q5i x).length=q0o x from q3i _ _ _ _,hq]
    unfold wt
    rw[if_pos hl,if_neg (by omega)]
    omega
  simp only
  rw[q8a]
  cases hp:q2x x 0 (q5i x) with
  |nil=>
   have hq1:q0o x=0:=by rw[<-hlen,hp];rfl
   exfalso
   have:1<=q2n x:=by unfold q2n;split<;>omega
   unfold q0o at hq1
   rcases Nat.div_eq_zero_iff.1 hq1 with e|e<;>omega
  |cons y ys=>
   rw[hp] at hsum
   have:=qry hpn y
   rw[hx] at this
   simp only[List.headD_cons,List.tail_cons,wts] at hsum ⊢
   omega

theorem qw6(ns:List Nd)(p:Int)(i:Nat)(more:List (Int × Int)):wts (q4d ns p i more)=wts ns:=by
 unfold q4d
 by_cases hpn:p.toNat<ns.length
 ·have hx:ns[p.toNat]=nth ns p:=by
   unfold nth
   rw[List.getD_eq_getElem?_getD,List.getElem?_eq_getElem hpn]
   rfl
  have:=qry hpn (qcg (nth ns p) i more)
  rw[hx] at this
  have e:wt (qcg (nth ns p) i more)=wt (nth ns p):=rfl
  omega
 ·rw[List.set_eq_of_length_le (by omega)]

theorem qm5{rec:List Nd->Int->List Nd × List (Int × Int)}(hr:∀ns p,wts (rec ns p).1<=wts ns)(p:Int):∀(i:Nat) (ns:List Nd),wts (qa7 rec p i ns)<=wts ns
 |0,_=>Nat.le_refl _
 |i+1,ns=>by
  rw[qa7]
  refine Nat.le_trans (qm5 hr p i _) ?_
  rw[qw6]
  exact hr ns _

theorem qca:∀(h:Nat) (ns:List Nd) (p:Int),wts (q0h h ns p).1<=wts ns
 |0,ns,p=>qdk ns p
 |h+1,ns,p=>Nat.le_trans (qdk _ p) (qm5 (qca h) p _ ns)

theorem qo0:∀(f:Nat) (ns:List Nd) (root:Int) (more:List (Int × Int)),wts (q5u f ns root more).1<=wts ns
 |0,_,_,_=>Nat.le_refl _
 |f+1,ns,root,more=>by
  unfold q5u
  split
  ·exact Nat.le_refl _
  ·refine Nat.le_trans (qo0 f _ _ _) (Nat.le_trans (qdk _ _) ?_)
   rw[q8a]
   simp[wts,wt,q0s]

def wtP(ns:List Nd):List Int->Nat
 |[]=>0
 |n::P=>wt (nth ns n)+wtP ns P

theorem qgb(ns:List Nd):∀a b:List Int,wtP ns (a++b)=wtP ns a+wtP ns b
 |[],b=>by simp[wtP]
 |x::r,b=>by simp only[List.cons_append,wtP,qgb ns r b];omega

theorem qvy{ns:List Nd}{a b:List Int}(h:a.Perm b):wtP ns a=wtP ns b:=by
 induction h with
 |nil=>rfl
 |cons x _ ih=>simp only[wtP,ih]
 |swap x y l=>simp only[wtP];omega
 |trans _ _ h1 h2=>rw[h1,h2]

theorem qf8:∀(r pre:List Nd),wtP (pre++r) (q0j pre.length r.length)=wts r
 |[],_=>rfl
 |x::r,pre=>by
  have e:nth (pre++x::r) (pre.length:Int)=x:=by
   unfold nth
   simp
  have ih:=qf8 r (pre++[x])
  rw[List.append_assoc,List.length_append] at ih
  simp only[List.length_cons,q0j,wtP,wts]
  rw[e]
  simp only[List.length_singleton,List.singleton_append] at ih
  rw[ih]

theorem qsk{ns:List Nd}:∀(h:Nat) (d lo hi:Int) (P:List Int),Sub 6 4 ns h d lo hi P->3*(P.length+1)<=wtP ns P
 |0,d,lo,hi,P,hs=>by
  obtain⟨_,rfl,hl⟩:=hs
  have:wt (nth ns d)=6:=by
   unfold wt
   rw[if_pos hl.leaf,if_pos hl.most]
  simp[wtP,this]
 |h+1,d,lo,hi,P,hs=>by
  obtain⟨_,Q,rfl,hin⟩:=hs
  have ih:=qsk (ns:=ns) h
  have:∀(L:List (Int × Int)) (lo:Int) (Q:List Int),SubK (Sub 6 4 ns h) lo L Q->3*(Q.length+L.length)<=wtP ns Q:=by
   intro L
   induction L with
   |nil=>intro lo Q hQ;cases hQ;simp[wtP]
   |cons p r ihr=>
    obtain⟨d,u⟩:=p
    rintro lo Q ⟨Q1,Q2,rfl,h1,h2⟩
    have a:=ih _ _ _ _ h1
    have b:=ihr _ _ h2
    rw[qgb]
    simp only[List.length_append,List.length_cons]
    omega
  have a:=this _ _ _ hin.kids
  have b:(ups (nth ns d).kids (nth ns d).keys hi).length=(nth ns d).kids.length:=by
   have:=hin.keys
   simp[ups]
   omega
  have c:=hin.two
  simp only[wtP,List.length_cons]
  omega

theorem qv7{ns:List Nd}{h:Nat}{root:Int}{Q:List Int}(hs:Sub 6 4 ns h root 0 1099511627776 Q)(hp:Q.Perm (q0j 0 ns.length)):3*(ns.length+1)<=wts ns:=by
 have a:=qsk _ _ _ _ _ hs
 have b:=qf8 ns []
 rw[List.nil_append,List.length_nil] at b
 rw[qvy hp,b,qai hp] at a
 exact a

theorem qmv:∀ns:List Nd,wts ns<=(ns.flatMap cont).length+6*ns.length
 |[]=>by simp[wts]
 |x::r=>by
  have ih:=qmv r
  have:wt x<=x.ents.length+6:=by
   unfold wt
   split
   ·split<;>omega
   ·omega
  rw[List.flatMap_cons,wts]
  simp only[List.length_append,List.length_cons,cont]
  omega

theorem qqf(ns:List Nd)(p:Int):ns.length<=(q0p ns p).1.length:=by
 unfold q0p
 split
 ·exact Nat.le_refl _
 ·simp

theorem qmk:∀(f:Nat) (ns:List Nd) (root:Int) (more:List (Int × Int)),ns.length<=(q5u f ns root more).1.length
 |0,_,_,_=>Nat.le_refl _
 |f+1,ns,root,more=>by
  unfold q5u
  split
  ·exact Nat.le_refl _
  ·refine Nat.le_trans ?_ (qmk f _ _ _)
   refine Nat.le_trans ?_ (qqf _ _)
   simp

def q4w(h:Nat)(ns:List Nd)(root:Int):List Nd × Int:=q5u (q0h h ns root).2.length (q0h h ns root).1 root (q0h h ns root).2

structure qyn(ns:List Nd)(h:Nat)(root:Int):Prop where
 row:qef (q0h h ns root).1 h root (q0h h ns root).2
 fine:(q4w h ns root).1.length<=2000->q1k (q4w h ns root).1 (q4w h ns root).2=0
 cont:((q4w h ns root).1.flatMap cont).Perm (ns.flatMap cont)
 few:3*((q4w h ns root).1.length+1)<=wts ns
 part:(q0h h ns root).1.length+(q0h h ns root).2.length<=2*(q4w h ns root).1.length
 sub:∃h' Q,Sub 6 4 (q4w h ns root).1 h' (q4w h ns root).2 0 1099511627776 Q/\Q.Perm (q0j 0 (q4w h ns root).1.length)

theorem qxi{T h:Nat}{ns:List Nd}{root:Int}{P:List Int}(hs:Sub T 4 ns h root 0 1099511627776 P)(hp:P.Perm (q0j 0 ns.length)):qyn ns h root:=by
 have hnd:P.Nodup:=hp.nodup_iff.2 (q1y _ _)
 have hok:=q8o h ns root _ _ P hs hnd
 have hle:=hok.le
 have hfew:=hok.few
 have hrow:qef (q0h h ns root).1 h root (q0h h ns root).2:=by
  obtain⟨Q',a,b⟩:=hok.sub
  refine⟨Q',a,b.trans ((hp.append_right _).trans ?_)⟩
  have e:=q2g 0 ns.length ((q0h h ns root).1.length-ns.length)
  rw[show ns.length+((q0h h ns root).1.length-ns.length)=(q0h h ns root).1.length by omega,Nat.zero_add] at e
  rw[e]
 obtain⟨⟨h',Q,c1,c2⟩,c3,c4⟩:=qkp (q0h h ns root).2.length (Nat.le_refl _) hrow
 have hw:wts (q4w h ns root).1<=wts ns:=Nat.le_trans (qo0 _ _ _ _) (qca h ns root)
 have hl:=qmk (q0h h ns root).2.length (q0h h ns root).1 root (q0h h ns root).2
 refine⟨hrow,fun hz=>qic c1 c2 hz,c3.trans hok.cont,Nat.le_trans (qv7 c1 c2) hw,?_,h',Q,c1,c2⟩
 unfold q4w
 omega

theorem qi1{T h:Nat}{ns:List Nd}{root lo hi:Int}{P:List Int}(hs:Sub T 4 ns h root lo hi P):0<=root/\root<ns.length:=by
 cases h with
 |zero=>exact⟨hs.1.1,hs.1.2.1⟩
 |succ h=>exact⟨hs.1.1,hs.1.2.1⟩

theorem qy3{m m' mK:Nat}{ns:List Nd}(hm:m<=m'):∀(h:Nat) (d lo hi:Int) (P:List Int),Sub m mK ns h d lo hi P->Sub m' mK ns h d lo hi P
 |0,_,_,_,_,hs=>⟨hs.1,hs.2.1,hs.2.2.mono hm⟩
 |h+1,_,_,_,_,hs=>by
  obtain⟨hr,Q,rfl,hin⟩:=hs
  exact⟨hr,Q,rfl,hin.imp fun d lo hi Q1 a _=>qy3 hm h d lo hi Q1 a⟩

theorem qm3{ns:List Nd}{P:List Int}(hp:P.Perm (q0j 0 ns.length)):(cP ns P).Perm (ns.flatMap cont):=by
 have h1:(cP ns P).Perm (cP ns (q0j 0 ns.length)):=hp.flatMap_right _
 have h2:∀(r pre:List Nd),cP (pre++r) (q0j pre.length r.length)=r.flatMap cont:=by
  intro r
  induction r with
  |nil=>intro pre;rfl
  |cons x r ih=>
   intro pre
   have e:nth (pre++x::r) (pre.length:Int)=x:=by
    unfold nth
    simp
   have h:=ih (pre++[x])
   rw[List.append_assoc,List.length_append] at h
   simp only[List.length_singleton,List.singleton_append] at h
   rw[List.length_cons,q0j,q7d,e,h,List.flatMap_cons]
 have h3:=h2 ns []
 rw[List.nil_append,List.length_nil] at h3
 rw[h3] at h1
 exact h1

end
end Go.Proofs.YtlojfgdpmaigmahGreatDoor

/- Which trees may be, as plain functions: what the code's survey and the document's 'height' both come to. -/
import Derived.Test.YtlojfgdpmaigmagGreatDoorP03
import Derived.Test.YtlojfgdpmaigmagGreatDoorP08
namespace Go.Proofs.YtlojfgdpmaigmagGreatDoor
section
open Go.RowKit Plain

def entB(x:En)(low high:Int):Bool:=decide (low<=x.key)&&decide (x.key<high)&& !(x.c==0)&&(bU x.c x.s x.lo x.hi x.t x.l==0)
def aK:List En->Int->Int->Bool
 |[],_,_=>true
 |x::r,low,high=>entB x low high&&aK r (x.key+1) high

abbrev St:=List (Int × Int)
def gG(S:St)(n:Int):Bool:=S.any fun p=>p.1==n

def jD(x:Nd)(low high:Int)(f:Nat):Bool:=
 x.keys.isEmpty&&x.kids.isEmpty&&x.buf.isEmpty&&decide (x.ents.length<=6)&&(f==11|| !x.ents.isEmpty)&&aK x.ents low high
def jB(x:Nd)(low high:Int):Bool:=
 x.ents.isEmpty&&decide (2<=x.kids.length)&&decide (x.kids.length<=4)&&(x.keys.length+1==x.kids.length)&&decide (x.buf.length<=8)&&aK x.buf low high

def Wk(g:Int->Int->Int->St->Option (St × List Int)):List Int->List Int->Int->Int->St->Option (St × List Int)
 |[],_,_,_,S=>some (S,[])
 |d::ds,keys,low,high,S=>
  match g d low (keys.headD high) S with
  |none=>none
  |some (S1,l1)=>
   match Wk g ds keys.tail (keys.headD high) high S1 with
   |none=>none
   |some (S2,l2)=>some (S2,l1++l2)

def W(ns:List Nd):Nat->Int->Int->Int->St->Option (St × List Int)
 |0,_,_,_,_=>none
 |f+1,n,low,high,S=>
  if n<0\/(ns.length:Int)<=n\/high<=low\/gG S n=true then none
  else if (ns.getD n.toNat default).leaf=true then
   (if jD (ns.getD n.toNat default) low high f=true then some ((n,12-(f:Int))::S,[12-(f:Int)]) else none)
  else if jB (ns.getD n.toNat default) low high=true then Wk (W ns f) (ns.getD n.toNat default).kids (ns.getD n.toNat default).keys low high ((n,12-(f:Int))::S)
  else none

def okL(L:Int)(l:List Int):Bool:=l.all (·==(if L=0 then l.headD 0 else L))
def resN(L:Int):Option (St × List Int)->Bool
 |some (_,l)=>okL L l
 |none=>false

def aT(ns:List Nd)(root:Int):Int:=
 if 2000<ns.length then 1 else
 match W ns 12 root 0 1099511627776 [] with
 |some (S,l)=>if okL 0 l=true/\S.length=ns.length then 0 else 7
 |none=>7

def fD(xs:List En)(low:Int)(k:Nat):Int:=if k=0 then low else(xs.getD (k-1) default).key+1

theorem q0i{xs:List En}{low high:Int}{k:Nat}(hk:k<xs.length):
  aK (xs.drop k) (fD xs low k) high=(entB xs[k] (fD xs low k) high&&aK (xs.drop (k+1)) (fD xs low (k+1)) high):=by
 rw[List.drop_eq_getElem_cons hk];simp[aK,fD,hk]

theorem qm3{g:Int->Int->Int->St->Option (St × List Int)}(hg:∀d low high S r,g d low high S=some r->low<high):
  ∀(ds keys:List Int) (low high:Int) (S:St) (r:St × List Int),Wk g ds keys low high S=some r->ds≠[]->keys.length+1=ds.length->low<high/\∀k∈keys,low<k/\k<high
 |[],_,_,_,_,_,_,h,_=>absurd rfl h
 |d::ds,keys,low,high,S,r,hr,_,hl=>by
  unfold Wk at hr
  split at hr
  ·cases hr
  ·rename_i S1 l1 h1
   have hlt:=hg _ _ _ _ _ h1;cases keys with
   |nil=>exact⟨by simpa using hlt,by simp⟩
   |cons k ks=>
    simp only[List.headD_cons,List.tail_cons] at hlt hr
    split at hr
    ·cases hr
    ·rename_i S2 l2 h2
     have hds:ds≠[]:=by intro e;subst e;simp at hl
     have ih:=qm3 hg ds ks k high S1 _ h2 hds (by simpa using hl)
     refine⟨by omega,fun x hx=>?_⟩
     rcases List.mem_cons.1 hx with rfl|hx
     ·exact⟨hlt,ih.1⟩
     ·have:=ih.2 x hx;omega

theorem qmz{ns:List Nd}:∀(f:Nat) (n low high:Int) (S:St) (r:St × List Int),W ns f n low high S=some r->low<high:=by
 intro f n low high S r h;cases f with
 |zero=>cases h
 |succ f=>
  unfold W at h
  split at h
  ·cases h
  ·omega

theorem kV{x:Nd}{low high:Int}(h:jB x low high=true):x.ents=[]/\2<=x.kids.length/\x.kids.length<=4/\x.keys.length+1=x.kids.length/\x.buf.length<=8/\aK x.buf low high=true:=by
 simp only[jB,Bool.and_eq_true,decide_eq_true_eq,beq_iff_eq,List.isEmpty_iff] at h;obtain⟨⟨⟨⟨⟨a,b⟩,c⟩,d⟩,e⟩,g⟩:=h;exact⟨a,b,c,d,e,g⟩

theorem leafB_iff{x:Nd}{low high:Int}{f:Nat}:jD x low high f=true↔x.keys=[]/\x.kids=[]/\x.buf=[]/\x.ents.length<=6/\(f=11\/x.ents≠[])/\aK x.ents low high=true:=by
 simp only[jD,Bool.and_eq_true,decide_eq_true_eq,beq_iff_eq,List.isEmpty_iff,Bool.or_eq_true,Bool.not_eq_true',List.isEmpty_eq_false_iff];constructor<;>intro h<;>simp_all

theorem qnq{g:Int->Int->Int->St->Option (St × List Int)}(hg:∀d low high S S' l,g d low high S=some (S',l)->l≠[]/\∀x∈l,1<=x):
  ∀(ds keys:List Int) (low high:Int) (S S':St) (l:List Int),Wk g ds keys low high S=some (S',l)->(ds≠[]->l≠[])/\∀x∈l,1<=x
 |[],_,_,_,_,_,_,h=>by cases h;simp
 |d::ds,keys,low,high,S,S',l,hr=>by
  unfold Wk at hr
  split at hr
  ·cases hr
  ·rename_i S1 l1 h1
   split at hr
   ·cases hr
   ·rename_i S2 l2 h2
    cases hr;have a:=hg _ _ _ _ _ _ h1;have b:=qnq hg _ _ _ _ _ _ _ h2;refine⟨fun _ e=>a.1 (List.append_eq_nil_iff.1 e).1,fun x hx=>?_⟩
    rcases List.mem_append.1 hx with hx|hx
    ·exact a.2 x hx
    ·exact b.2 x hx

theorem W_ds{ns:List Nd}:∀(f:Nat),f<=12->∀(n low high:Int) (S S':St) (l:List Int),W ns f n low high S=some (S',l)->l≠[]/\∀x∈l,1<=x:=by
 intro f
 induction f with
 |zero=>intro _ n low high S S' l h;cases h
 |succ f ih=>
  intro hf n low high S S' l h;unfold W at h
  split at h
  ·cases h
  ·split at h
   ·split at h
    ·cases h;exact⟨by simp,by simp;omega⟩
    ·cases h
   ·split at h
    ·rename_i hin
     have:=qnq (ih (by omega)) _ _ _ _ _ _ _ h
     have hk:=(kV hin).2.1;exact⟨this.1 (by intro e;rw[e] at hk;simp at hk),this.2⟩
    ·cases h

def StOk(N:Nat)(S:St):Prop:=(S.map (·.1)).Nodup/\∀p∈S,0<=p.1/\p.1<(N:Int)

theorem seenB_iff{S:St}{n:Int}:gG S n=true↔n∈S.map (·.1):=by
 simp[gG]

theorem qp9{N:Nat}{g:Int->Int->Int->St->Option (St × List Int)}(hg:∀d low high S S' l,g d low high S=some (S',l)->StOk N S->StOk N S'/\∀p∈S,p∈S'):
  ∀(ds keys:List Int) (low high:Int) (S S':St) (l:List Int),Wk g ds keys low high S=some (S',l)->StOk N S->StOk N S'/\∀p∈S,p∈S'
 |[],_,_,_,_,_,_,h=>by cases h;exact fun h=>⟨h,fun _ h=>h⟩
 |d::ds,keys,low,high,S,S',l,hr=>by
  unfold Wk at hr
  split at hr
  ·cases hr
  ·rename_i S1 l1 h1
   split at hr
   ·cases hr
   ·rename_i S2 l2 h2
    cases hr;intro hS;have a:=hg _ _ _ _ _ _ h1 hS;have b:=qp9 hg _ _ _ _ _ _ _ h2 a.1;exact⟨b.1,fun p hp=>b.2 p (a.2 p hp)⟩

theorem W_st{ns:List Nd}:∀(f:Nat) (n low high:Int) (S S':St) (l:List Int),W ns f n low high S=some (S',l)->StOk ns.length S->StOk ns.length S'/\∀p∈S,p∈S':=by
 intro f
 induction f with
 |zero=>intro n low high S S' l h;cases h
 |succ f ih=>
  intro n low high S S' l h hS;unfold W at h
  split at h
  ·cases h
  ·rename_i hc
   have h1:StOk ns.length ((n,12-(f:Int))::S):=by
    refine⟨?_,fun p hp=>?_⟩
    ·rw[List.map_cons,List.nodup_cons];refine⟨fun e=>hc (.inr (.inr (.inr (seenB_iff.2 e)))),hS.1⟩
    ·rcases List.mem_cons.1 hp with rfl|hp
     ·constructor<;>simp<;>omega
     ·exact hS.2 p hp
   split at h
   ·split at h
    ·cases h;exact⟨h1,fun p hp=>List.mem_cons_of_mem _ hp⟩
    ·cases h
   ·split at h
    ·have:=qp9 ih _ _ _ _ _ _ _ h h1;exact⟨this.1,fun p hp=>this.2 p (List.mem_cons_of_mem _ hp)⟩
    ·cases h

theorem nK{α:Type}[DecidableEq α]:∀(l m:List α),l.Nodup->(∀x∈l,x∈m)->l.length<=m.length
 |[],_,_,_=>Nat.zero_le _
 |x::l,m,hn,hs=>by
  rw[List.nodup_cons] at hn;have hx:x∈m:=hs x List.mem_cons_self;have:=nK l (m.erase x) hn.2 (fun y hy=>(List.mem_erase_of_ne (by intro e;subst e;exact hn.1 hy)).2 (hs y (List.mem_cons_of_mem _ hy)))
  rw[List.length_erase_of_mem hx] at this;have hpos:0<m.length:=List.length_pos_of_mem hx;simp only[List.length_cons];omega

theorem qbt{N:Nat}{S:St}(h:StOk N S):S.length=N↔∀i:Nat,i<N->gG S i=true:=by
 have hsub:∀x∈S.map (·.1),x∈(List.range N).map (fun i:Nat=>(i:Int)):=by
  intro x hx;obtain⟨p,hp,rfl⟩:=List.mem_map.1 hx;have:=h.2 p hp;exact List.mem_map.2 ⟨p.1.toNat,by simp;omega,by omega⟩
 have hrn:((List.range N).map (fun i:Nat=>(i:Int))).Nodup:=by
  rw[List.Nodup,List.pairwise_map];exact List.nodup_range.imp (fun h e=>h (by omega))
 constructor
 ·intro hl i hi;rw[seenB_iff];apply Classical.byContradiction;intro hni
  have:=nK ((i:Int)::S.map (·.1)) ((List.range N).map (fun i:Nat=>(i:Int))) (List.nodup_cons.2 ⟨hni,h.1⟩) (fun x hx=>by
   rcases List.mem_cons.1 hx with rfl|hx
   ·exact List.mem_map.2 ⟨i,by simpa using hi,rfl⟩
   ·exact hsub x hx)
  simp at this;omega
 ·intro hall;have h1:=nK _ _ h.1 hsub
  have h2:=nK _ (S.map (·.1)) hrn (fun x hx=>by
   obtain⟨i,hi,rfl⟩:=List.mem_map.1 hx;exact seenB_iff.1 (hall i (by simpa using hi)))
  simp at h1 h2;omega

end
section
open Go.RowKit Plain

def join(acc:List Int):Option (St × List Int)->Option (St × List Int)
 |none=>none
 |some (S,l)=>some (S,acc++l)

theorem qj3(r:Option (St × List Int)):join [] r=r:=by cases r<;>simp[join]
theorem q5k(a b:List Int)(r:Option (St × List Int)):join a (join b r)=join (a++b) r:=by cases r<;>simp[join]

def toAt(keys:List Int)(high:Int)(i:Nat):Int:=if i<keys.length then keys.getD i 0 else high

theorem qdo(keys:List Int)(high:Int)(i:Nat):(keys.drop i).headD high=toAt keys high i:=by
 unfold toAt
 split
 ·rename_i h
  rw[List.drop_eq_getElem_cons h];simp[h]
 ·rename_i h
  rw[List.drop_eq_nil_of_le (by omega)]
  rfl

theorem qfm{g:Int->Int->Int->St->Option (St × List Int)}{kids keys:List Int}{lo high:Int}{S:St}{i:Nat}(hi:i<kids.length):
  Wk g (kids.drop i) (keys.drop i) lo high S=
   match g kids[i] lo (toAt keys high i) S with
   |none=>none
   |some (S1,l1)=>join l1 (Wk g (kids.drop (i+1)) (keys.drop (i+1)) (toAt keys high i) high S1):=by
 rw[List.drop_eq_getElem_cons hi];simp only[Wk,qdo,List.tail_drop];cases g kids[i] lo (toAt keys high i) S with
 |none=>rfl
 |some p=>
  obtain⟨S1,l1⟩:=p;simp only;cases Wk g (kids.drop (i+1)) (keys.drop (i+1)) (toAt keys high i) high S1 with
  |none=>rfl
  |some q=>rfl

section
variable {g : Int -> Int -> Int -> St -> Option (St × List Int)} {kids keys : List Int} {low high lo a : Int} {S0 S : St} {i : Nat} {acc : List Int}

end
end
section
open Go.RowKit Plain

def inR(low high:Int)(x:En):Bool:=decide (low<=x.key)&&decide (x.key<high)

def Fl(ns:List Nd):Nat->Int->List En
 |0,_=>[]
 |f+1,n=>(ns.getD n.toNat default).buf++(ns.getD n.toNat default).ents++(ns.getD n.toNat default).kids.flatMap (Fl ns f)

def iD(low high:Int)(pr nx:Option Int):Bool:=(pr.any fun k=>decide (high<=k))||(nx.any fun k=>decide (k<=low))

def WlK(g:Int->List En)(low high:Int):List Int->List Int->Option Int->List En
 |[],_,_=>[]
 |d::ds,keys,pr=>(if iD low high pr keys.head? =true then[] else g d)++WlK g low high ds keys.tail keys.head?

def Wl(ns:List Nd)(low high:Int):Nat->Int->List En
 |0,_=>[]
 |f+1,n=>(ns.getD n.toNat default).buf.filter (inR low high)++(ns.getD n.toNat default).ents.filter (inR low high)++
   WlK (Wl ns low high f) low high (ns.getD n.toNat default).kids (ns.getD n.toNat default).keys none

theorem q4q{lo hi:Int}:∀{xs:List En} {low:Int},aK xs low hi=true->lo<=low->∀x∈xs,lo<=x.key/\x.key<hi
 |[],_,_,_,x,hx=>by simp at hx
 |y::r,low,h,hl,x,hx=>by
  simp only[aK,entB,Bool.and_eq_true,decide_eq_true_eq] at h;rcases List.mem_cons.1 hx with rfl|hx
  ·omega
  ·exact q4q h.2 (by omega) x hx

theorem qr8{g:Int->Int->Int->St->Option (St × List Int)}{F:Int->List En}(hg:∀d lo hi S r,g d lo hi S=some r->(∀x∈F d,lo<=x.key/\x.key<hi)/\lo<hi):
  ∀(ds keys:List Int) (lo hi:Int) (S:St) (r:St × List Int),Wk g ds keys lo hi S=some r->keys.length+1=ds.length->∀x∈ds.flatMap F,lo<=x.key/\x.key<hi
 |[],_,_,_,_,_,_,_,x,hx=>by simp at hx
 |d::ds,keys,lo,hi,S,r,hr,hl,x,hx=>by
  have hlow:=qm3 (fun d lo hi S r h=>(hg d lo hi S r h).2) _ _ _ _ _ _ hr (by simp) hl
  unfold Wk at hr
  split at hr
  ·cases hr
  ·rename_i S1 l1 h1
   have a:=hg _ _ _ _ _ h1;simp only[List.flatMap_cons,List.mem_append] at hx;cases keys with
   |nil=>
    have hds:ds=[]:=by cases ds with|nil=>rfl|cons _ _=>simp at hl
    subst hds;simp at hx
    simpa using a.1 x hx
   |cons k ks=>
    simp only[List.headD_cons,List.tail_cons] at a hr;have hk:=hlow.2 k List.mem_cons_self
    split at hr
    ·cases hr
    ·rename_i S2 l2 h2
     rcases hx with hx|hx
     ·have:=a.1 x hx;omega
     ·have:=qr8 hg ds ks k hi S1 _ h2 (by simpa using hl) x hx
      omega

theorem W_in{ns:List Nd}:∀(f:Nat) (n lo hi:Int) (S:St) (r:St × List Int),W ns f n lo hi S=some r->∀x∈Fl ns f n,lo<=x.key/\x.key<hi:=by
 intro f
 induction f with
 |zero=>intro n lo hi S r h;cases h
 |succ f ih=>
  intro n lo hi S r h x hx;unfold W at h
  split at h
  ·cases h
  ·unfold Fl at hx
   split at h
   ·split at h
    ·rename_i hl
     obtain⟨h1,h2,h3,_,_,h6⟩:=leafB_iff.1 hl;simp only[h2,h3,List.nil_append,List.flatMap_nil,List.append_nil] at hx;exact q4q h6 (Int.le_refl _) x hx
    ·cases h
   ·split at h
    ·rename_i hin
     obtain⟨h1,h2,h3,h4,h5,h6⟩:=kV hin;simp only[h1,List.append_nil,List.mem_append] at hx;rcases hx with hx|hx
     ·exact q4q h6 (Int.le_refl _) x hx
     ·exact qr8 (fun d lo hi S r h=>⟨ih d lo hi S r h,qmz f d lo hi S r h⟩) _ _ _ _ _ _ h h4 x hx
    ·cases h

theorem q9w{low high lo hi:Int}{l:List En}(h:∀x∈l,lo<=x.key/\x.key<hi)(hs:high<=lo\/hi<=low):l.filter (inR low high)=[]:=by
 rw[List.filter_eq_nil_iff];intro x hx;have:=h x hx;simp only[inR,Bool.and_eq_true,decide_eq_true_eq];omega

theorem q6k{g:Int->Int->Int->St->Option (St × List Int)}{F G:Int->List En}{low high:Int}(hg:∀d lo hi S r,g d lo hi S=some r->(∀x∈F d,lo<=x.key/\x.key<hi)/\G d=(F d).filter (inR low high)):
  ∀(ds keys:List Int) (lo hi:Int) (S:St) (r:St × List Int) (pr:Option Int),Wk g ds keys lo hi S=some r->keys.length+1=ds.length->(∀k,pr=some k->k=lo)->WlK G low high ds keys pr=(ds.flatMap F).filter (inR low high)
 |[],_,_,_,_,_,_,_,h,_=>by simp at h
 |d::ds,keys,lo,hi,S,r,pr,hr,hl,hp=>by
  unfold Wk at hr
  split at hr
  ·cases hr
  ·rename_i S1 l1 h1
   have a:=hg _ _ _ _ _ h1;simp only[WlK,List.flatMap_cons,List.filter_append]
   have hd:(if iD low high pr keys.head? =true then[] else G d)=(F d).filter (inR low high):=by
    split
    ·rename_i hs
     symm
     refine q9w a.1 ?_;simp only[iD,Bool.or_eq_true,Option.any_eq_true,decide_eq_true_eq] at hs;rcases hs with⟨k,hk,hh⟩|⟨k,hk,hh⟩
     ·have:=hp k hk;omega
     ·right;cases keys with
      |nil=>simp at hk
      |cons k' ks=>simp at hk;subst hk;simpa using hh
    ·exact a.2
   rw[hd];cases keys with
   |nil=>
    have hds:ds=[]:=by cases ds with|nil=>rfl|cons _ _=>simp at hl
    subst hds;simp[WlK]
   |cons k ks=>
    simp only[List.headD_cons,List.tail_cons,List.head?_cons] at hr ⊢
    split at hr
    ·cases hr
    ·rename_i S2 l2 h2
     rw[q6k hg ds ks k hi S1 _ (some k) h2 (by simpa using hl) (fun _ h=>by cases h;rfl)]

theorem qI{ns:List Nd}{low high:Int}:∀(f:Nat) (n lo hi:Int) (S:St) (r:St × List Int),W ns f n lo hi S=some r->Wl ns low high f n=(Fl ns f n).filter (inR low high):=by
 intro f
 induction f with
 |zero=>intro n lo hi S r h;cases h
 |succ f ih=>
  intro n lo hi S r h;have h0:=h;unfold W at h
  split at h
  ·cases h
  ·unfold Wl Fl;simp only[List.filter_append];congr 1
   split at h
   ·split at h
    ·rename_i hl
     obtain⟨h1,h2,_⟩:=leafB_iff.1 hl;rw[h2]
     rfl
    ·cases h
   ·split at h
    ·rename_i hin
     obtain⟨h1,h2,h3,h4,_⟩:=kV hin;exact q6k (fun d lo hi S r h=>⟨W_in f d lo hi S r h,ih d lo hi S r h⟩) _ _ _ _ _ _ _ h h4 (fun _ h=>by cases h)
    ·cases h

def oW(ns:List Nd)(n:Int):List En:=(ns.getD n.toNat default).buf++(ns.getD n.toNat default).ents

theorem qhh{ns:List Nd}{g:Int->Int->Int->St->Option (St × List Int)}{F:Int->List En}(hg:∀d lo hi S S' l,g d lo hi S=some (S',l)->∃T:St,S'=T++S/\(F d).Perm (T.flatMap fun p=>oW ns p.1)):
  ∀(ds keys:List Int) (lo hi:Int) (S S':St) (l:List Int),Wk g ds keys lo hi S=some (S',l)->∃T:St,S'=T++S/\(ds.flatMap F).Perm (T.flatMap fun p=>oW ns p.1)
 |[],_,_,_,_,_,_,h=>by cases h;exact⟨[],rfl,by simp⟩
 |d::ds,keys,lo,hi,S,S',l,hr=>by
  unfold Wk at hr
  split at hr
  ·cases hr
  ·rename_i S1 l1 h1
   split at hr
   ·cases hr
   ·rename_i S2 l2 h2
    cases hr;obtain⟨T1,e1,p1⟩:=hg _ _ _ _ _ _ h1;obtain⟨T2,e2,p2⟩:=qhh hg _ _ _ _ _ _ _ h2;refine⟨T2++T1,by rw[e2,e1,List.append_assoc],?_⟩
    simp only[List.flatMap_cons,List.flatMap_append];exact(p1.append p2).trans List.perm_append_comm

theorem qpq{ns:List Nd}:∀(f:Nat) (n lo hi:Int) (S S':St) (l:List Int),W ns f n lo hi S=some (S',l)->∃T:St,S'=T++S/\(Fl ns f n).Perm (T.flatMap fun p=>oW ns p.1):=by
 intro f
 induction f with
 |zero=>intro n lo hi S S' l h;cases h
 |succ f ih=>
  intro n lo hi S S' l h;unfold W at h
  split at h
  ·cases h
  ·unfold Fl
   split at h
   ·split at h
    ·rename_i hl
     obtain⟨_,h2,_⟩:=leafB_iff.1 hl;cases h;refine⟨[(n,12-(f:Int))],rfl,?_⟩;rw[h2];simp only[List.flatMap_nil,List.append_nil,List.flatMap_cons,oW];exact List.Perm.refl _
    ·cases h
   ·split at h
    ·obtain⟨T,e,p⟩:=qhh ih _ _ _ _ _ _ _ h;refine⟨T++[(n,12-(f:Int))],by rw[e];simp,?_⟩
     simp only[List.flatMap_append,List.flatMap_cons,List.flatMap_nil,List.append_nil];exact(List.Perm.append_left _ p).trans List.perm_append_comm
    ·cases h

theorem q8b{ns:List Nd}{root:Int}(h:aT ns root=0):(Fl ns 12 root).Perm (ns.flatMap fun x=>x.buf++x.ents):=by
 unfold aT at h
 split at h
 ·omega
 ·cases hW:W ns 12 root 0 1099511627776 [] with
  |none=>rw[hW] at h;simp at h
  |some p=>
   obtain⟨S,l⟩:=p;rw[hW] at h;simp only at h
   split at h
   ·rename_i hc
    obtain⟨T,e,pm⟩:=qpq 12 _ _ _ _ _ _ hW;simp at e;subst e;have hst:=(W_st 12 _ _ _ _ _ _ hW ⟨by simp,by simp⟩).1
    have hseen:=(qbt hst).1 hc.2
    have hpm:(S.map (·.1)).Perm ((List.range ns.length).map fun i:Nat=>(i:Int)):=by
     rw[List.perm_ext_iff_of_nodup hst.1 (by
      rw[List.Nodup,List.pairwise_map];exact List.nodup_range.imp (fun h e=>h (by omega)))]
     intro a;constructor
     ·intro ha;obtain⟨p,hp,rfl⟩:=List.mem_map.1 ha;have:=hst.2 p hp;exact List.mem_map.2 ⟨p.1.toNat,by simp;omega,by omega⟩
     ·intro ha;obtain⟨i,hi,rfl⟩:=List.mem_map.1 ha;exact seenB_iff.1 (hseen i (by simpa using hi))
    refine pm.trans ?_;have e1:(S.flatMap fun p=>oW ns p.1)=(S.map (·.1)).flatMap (oW ns):=by rw[List.flatMap_map]
    rw[e1];refine(hpm.flatMap_right _).trans ?_;rw[List.flatMap_map]
    have e2:(List.range ns.length).flatMap (fun i=>oW ns ((i:Nat):Int))=ns.flatMap fun x=>x.buf++x.ents:=by
     rw[List.flatMap_def,List.flatMap_def];congr 1;apply List.ext_getElem?;intro i
     by_cases hi:i<ns.length
     ·simp[hi,oW]
     ·simp[hi]
    rw[e2]
   ·omega

abbrev Rel:=Int->Int->Int->List Int->Prop

def ups(kids keys:List Int)(hi:Int):List (Int × Int):=kids.zip (keys++[hi])

def SubK(g:Rel):Int->List (Int × Int)->List Int->Prop
 |_,[],Q=>Q=[]
 |lo,(d,u)::r,Q=>∃Q1 Q2,Q=Q1++Q2/\g d lo u Q1/\SubK g u r Q2

def endU:Int->List (Int × Int)->Int
 |lo,[]=>lo
 |_,(_,u)::r=>endU u r

theorem SubK_append{g:Rel}:∀{A B:List (Int × Int)} {lo:Int} {Q:List Int},SubK g lo (A++B) Q↔∃QA QB,Q=QA++QB/\SubK g lo A QA/\SubK g (endU lo A) B QB
 |[],B,lo,Q=>by
  constructor
  ·intro h;exact⟨[],Q,rfl,rfl,h⟩
  ·rintro⟨QA,QB,rfl,h1,h2⟩;cases h1;exact h2
 |(d,u)::A,B,lo,Q=>by
  constructor
  ·rintro⟨Q1,Q2,rfl,h1,h2⟩;obtain⟨QA,QB,rfl,h3,h4⟩:=SubK_append.1 h2;exact⟨Q1++QA,QB,by rw[List.append_assoc],⟨Q1,QA,rfl,h1,h3⟩,h4⟩
  ·rintro⟨QA,QB,rfl,⟨Q1,Q2,rfl,h1,h2⟩,h3⟩;exact⟨Q1,Q2++QB,by rw[List.append_assoc],h1,SubK_append.2 ⟨Q2,QB,rfl,h2,h3⟩⟩

theorem q2b:∀(A B:List (Int × Int)) (lo:Int),endU lo (A++B)=endU (endU lo A) B
 |[],_,_=>rfl
 |(_,u)::A,B,_=>q2b A B u

theorem q5i(A:List (Int × Int))(d u lo:Int):endU lo (A++[(d,u)])=u:=by rw[q2b];rfl

theorem nJ{g g':Rel}:∀{L:List (Int × Int)} {lo:Int} {Q:List Int},SubK g lo L Q->(∀d lo hi Q1,g d lo hi Q1->(∀n∈Q1,n∈Q)->g' d lo hi Q1)->SubK g' lo L Q
 |[],_,_,h,_=>h
 |(d,u)::r,lo,Q,h,hg=>by
  obtain⟨Q1,Q2,rfl,h1,h2⟩:=h;exact⟨Q1,Q2,rfl,hg _ _ _ _ h1 (fun n hn=>List.mem_append_left _ hn),nJ h2 (fun d lo hi Q1 a b=>hg d lo hi Q1 a (fun n hn=>List.mem_append_right _ (b n hn)))⟩

theorem yD{g:Rel}(hg:∀d lo hi Q,g d lo hi Q->lo<hi):∀{L:List (Int × Int)} {lo:Int} {Q:List Int},SubK g lo L Q->lo<=endU lo L/\(L≠[]->lo<endU lo L)
 |[],_,_,_=>⟨Int.le_refl _,fun h=>absurd rfl h⟩
 |(d,u)::r,lo,Q,h=>by
  obtain⟨Q1,Q2,rfl,h1,h2⟩:=h;have a:=hg _ _ _ _ h1;have b:=(yD hg h2).1;exact⟨by show lo<=endU u r;omega,fun _=>by show lo<endU u r;omega⟩

structure rQ(m:Nat)(x:Nd)(lo hi:Int):Prop where
 leaf:x.leaf=true
 keys:x.keys=[]
 kids:x.kids=[]
 buf:x.buf=[]
 ne:x.ents≠[]
 most:x.ents.length<=m
 ents:aK x.ents lo hi=true

structure kQ(m:Nat)(g:Rel)(x:Nd)(lo hi:Int)(Q:List Int):Prop where
 leaf:x.leaf=false
 ents:x.ents=[]
 two:2<=x.kids.length
 most:x.kids.length<=m
 keys:x.keys.length+1=x.kids.length
 few:x.buf.length<=8
 buf:aK x.buf lo hi=true
 kids:SubK g lo (ups x.kids x.keys hi) Q

def nth(ns:List Nd)(n:Int):Nd:=ns.getD n.toNat default

def Sub(mL mK:Nat)(ns:List Nd):Nat->Rel
 |0,n,lo,hi,P=>(0<=n/\n<ns.length/\lo<hi)/\P=[n]/\rQ mL (nth ns n) lo hi
 |h+1,n,lo,hi,P=>(0<=n/\n<ns.length/\lo<hi)/\∃Q,P=n::Q/\kQ mK (Sub mL mK ns h) (nth ns n) lo hi Q

def Top(mL mK:Nat)(ns:List Nd):Nat->Rel
 |0,n,lo,hi,P=>(0<=n/\n<ns.length/\lo<hi)/\P=[n]/\rQ mL (nth ns n) lo hi
 |h+1,n,lo,hi,P=>(0<=n/\n<ns.length/\lo<hi)/\∃Q,P=n::Q/\kQ mK (Sub 6 4 ns h) (nth ns n) lo hi Q

theorem kH{mL mK:Nat}{ns:List Nd}:∀(h:Nat) (d lo hi:Int) (Q:List Int),Sub mL mK ns h d lo hi Q->lo<hi
 |0,_,_,_,_,h=>h.1.2.2
 |_+1,_,_,_,_,h=>h.1.2.2

theorem nC{mL mK:Nat}{ns:List Nd}:∀(h:Nat) (d lo hi:Int) (P:List Int),Sub mL mK ns h d lo hi P->∀n∈P,0<=n/\n<ns.length
 |0,d,lo,hi,P,h=>by
  obtain⟨hr,rfl,_⟩:=h;intro n hn;obtain rfl:n=d:=by simpa using hn
  exact⟨hr.1,hr.2.1⟩
 |h+1,d,lo,hi,P,hs=>by
  obtain⟨hr,Q,rfl,hi⟩:=hs;intro n hn;rcases List.mem_cons.1 hn with rfl|hn
  ·exact⟨hr.1,hr.2.1⟩
  ·have ih:=nC (mL:=mL) (mK:=mK) (ns:=ns) h
   have:∀(L:List (Int × Int)) (lo:Int) (Q:List Int),SubK (Sub mL mK ns h) lo L Q->∀n∈Q,0<=n/\n<ns.length:=by
    intro L
    induction L with
    |nil=>intro lo Q hQ n hn;cases hQ;simp at hn
    |cons p r ihr=>
     obtain⟨d,u⟩:=p;rintro lo Q ⟨Q1,Q2,rfl,h1,h2⟩ n hn;rcases List.mem_append.1 hn with hn|hn
     ·exact ih _ _ _ _ h1 n hn
     ·exact ihr _ _ h2 n hn
   exact this _ _ _ hi.kids n hn

theorem qO{mL mK:Nat}{ns:List Nd}{h:Nat}:∀{L:List (Int × Int)} {lo:Int} {Q:List Int},SubK (Sub mL mK ns h) lo L Q->∀n∈Q,0<=n/\n<ns.length
 |[],_,_,hQ=>by cases hQ;simp
 |(d,u)::r,lo,Q,hQ=>by
  obtain⟨Q1,Q2,rfl,h1,h2⟩:=hQ;intro n hn;rcases List.mem_append.1 hn with hn|hn
  ·exact nC h _ _ _ _ h1 n hn
  ·exact qO h2 n hn

theorem kQ.imp{m:Nat}{g g':Rel}{x:Nd}{lo hi:Int}{Q:List Int}(h:kQ m g x lo hi Q)(hg:∀d lo hi Q1,g d lo hi Q1->(∀n∈Q1,n∈Q)->g' d lo hi Q1):kQ m g' x lo hi Q:=
 ⟨h.leaf,h.ents,h.two,h.most,h.keys,h.few,h.buf,nJ h.kids hg⟩

theorem nD{mL mK:Nat}{ns ns':List Nd}:∀(h:Nat) (d lo hi:Int) (P:List Int),Sub mL mK ns h d lo hi P->(∀n∈P,nth ns' n=nth ns n/\n<ns'.length)->Sub mL mK ns' h d lo hi P
 |0,d,lo,hi,P,h,hc=>by
  obtain⟨hr,rfl,hl⟩:=h;obtain⟨e,hlt⟩:=hc d (by simp)
  exact⟨⟨hr.1,hlt,hr.2.2⟩,rfl,by rw[e];exact hl⟩
 |h+1,d,lo,hi,P,hs,hc=>by
  obtain⟨hr,Q,rfl,hin⟩:=hs;obtain⟨e,hlt⟩:=hc d (by simp)
  refine⟨⟨hr.1,hlt,hr.2.2⟩,Q,rfl,?_⟩;rw[e];exact hin.imp fun d lo hi Q1 a b=>nD h d lo hi Q1 a fun n hn=>hc n (List.mem_cons_of_mem _ (b n hn))

theorem rQ.mono{m m':Nat}{x:Nd}{lo hi:Int}(h:rQ m x lo hi)(hm:m<=m'):rQ m' x lo hi:=
 ⟨h.leaf,h.keys,h.kids,h.buf,h.ne,Nat.le_trans h.most hm,h.ents⟩
theorem kQ.mono{m m':Nat}{g:Rel}{x:Nd}{lo hi:Int}{Q:List Int}(h:kQ m g x lo hi Q)(hm:m<=m'):kQ m' g x lo hi Q:=
 ⟨h.leaf,h.ents,h.two,Nat.le_trans h.most hm,h.keys,h.few,h.buf,h.kids⟩

theorem q0o{hi:Int}:∀{A B:List En} {lo:Int},aK (A++B) lo hi=true->∀y∈B.head?,aK A lo y.key=true/\aK B y.key hi=true/\(A≠[]->lo<y.key)/\lo<=y.key
 |[],B,lo,h,y,hy=>by
  cases B with
  |nil=>simp at hy
  |cons z r=>
   simp at hy;subst hy;simp only[List.nil_append,aK,Bool.and_eq_true] at h;have hl:lo<=z.key:=by have:=h.1;simp only[entB,Bool.and_eq_true,decide_eq_true_eq] at this;exact this.1.1.1
   refine⟨rfl,?_,fun e=>absurd rfl e,hl⟩
   simp only[aK,Bool.and_eq_true];refine⟨?_,h.2⟩;have:=h.1;simp only[entB,Bool.and_eq_true,decide_eq_true_eq] at this ⊢;exact⟨⟨⟨Int.le_refl _,this.1.1.2⟩,this.1.2⟩,this.2⟩
 |x::A,B,lo,h,y,hy=>by
  simp only[List.cons_append,aK,Bool.and_eq_true] at h;obtain⟨a,b,c,d⟩:=q0o h.2 y hy;have h1:=h.1;simp only[entB,Bool.and_eq_true,decide_eq_true_eq] at h1;refine⟨?_,b,fun _=>by omega,by omega⟩
  simp only[aK,Bool.and_eq_true];refine⟨?_,a⟩;simp only[entB,Bool.and_eq_true,decide_eq_true_eq];exact⟨⟨⟨h1.1.1.1,by omega⟩,h1.1.2⟩,h1.2⟩

def lowN(l:List En)(k:Int):Nat:=(l.takeWhile fun x=>decide (x.key<k)).length

theorem rD(l:List En)(k:Int):lowN l k<=l.length:=by
 unfold lowN;exact(List.takeWhile_sublist _).length_le

theorem q0j{hi k:Int}:∀{l:List En} {lo:Int},aK l lo hi=true->lo<=k->aK (l.take (lowN l k)) lo k=true/\aK (l.drop (lowN l k)) k hi=true
 |[],lo,h,_=>by simp[lowN,aK]
 |x::r,lo,h,hk=>by
  have h':=h;simp only[aK,Bool.and_eq_true] at h';have h1:=h'.1;simp only[entB,Bool.and_eq_true,decide_eq_true_eq] at h1
  by_cases hx:x.key<k
  ·have e:lowN (x::r) k=lowN r k+1:=by simp[lowN,hx]
   obtain⟨a,b⟩:=q0j (k:=k) h'.2 (by omega)
   rw[e,List.take_succ_cons,List.drop_succ_cons];refine⟨?_,b⟩;simp only[aK,Bool.and_eq_true];refine⟨?_,a⟩;simp only[entB,Bool.and_eq_true,decide_eq_true_eq];exact⟨⟨⟨h1.1.1.1,hx⟩,h1.1.2⟩,h1.2⟩
  ·have e:lowN (x::r) k=0:=by simp[lowN,hx]
   rw[e];refine⟨rfl,?_⟩;simp only[List.drop_zero,aK,Bool.and_eq_true];refine⟨?_,h'.2⟩;simp only[entB,Bool.and_eq_true,decide_eq_true_eq];exact⟨⟨⟨by omega,h1.1.1.2⟩,h1.1.2⟩,h1.2⟩

theorem q1e{k k':Int}(hk:k<=k'):∀(l:List En),lowN l k'=lowN l k+lowN (l.drop (lowN l k)) k'
 |[]=>rfl
 |x::r=>by
  by_cases hx:x.key<k
  ·have e:lowN (x::r) k=lowN r k+1:=by simp[lowN,hx]
   have e':lowN (x::r) k'=lowN r k'+1:=by simp[lowN,show x.key<k' by omega]
   rw[e,e',List.drop_succ_cons,q1e hk r];omega
  ·have e:lowN (x::r) k=0:=by simp[lowN,hx]
   rw[e];simp

theorem q2q{hi:Int}:∀{l:List En} {lo lo':Int},aK l lo hi=true->lo'<=lo->aK l lo' hi=true
 |[],_,_,_,_=>rfl
 |x::r,lo,lo',h,hl=>by
  simp only[aK,Bool.and_eq_true] at h ⊢;refine⟨?_,h.2⟩;have h1:=h.1;simp only[entB,Bool.and_eq_true,decide_eq_true_eq] at h1 ⊢;exact⟨⟨⟨by omega,h1.1.1.2⟩,h1.1.2⟩,h1.2⟩

def bV(x:Nd)(kid:Nat):Nat:=if kid=0 then 0 else if kid=x.kids.length then x.buf.length else lowN x.buf (x.keys.getD (kid-1) 0)
def fJ(x:Nd)(a b:Nat):Nd:=
 if x.leaf=true then⟨true,(x.ents.drop a).take (b-a),[],[],[]⟩
 else⟨false,[],(x.keys.drop a).take (b-1-a),(x.kids.drop a).take (b-a),(x.buf.drop (bV x a)).take (bV x b-bV x a)⟩
def iP(x:Nd)(a:Nat):Int:=if x.leaf=true then(x.ents.getD a default).key else x.keys.getD (a-1) 0

def dV(x:Nd):Nat->List Nat->List Nd
 |_,[]=>[]
 |a,b::bs=>fJ x a b::dV x b bs
def jE(x:Nd):List Nat->List Int
 |[]=>[]
 |[_]=>[]
 |b::c::bs=>iP x b::jE x (c::bs)

def lF(mn mx size:Nat):Nat->List Nat->Prop
 |a,[]=>a=size
 |a,b::bs=>a+mn<=b/\b<=a+mx/\lF mn mx size b bs

theorem lF.le{mn mx size:Nat}:∀{bs:List Nat} {a:Nat},lF mn mx size a bs->a<=size
 |[],a,h=>by rw[show a=size from h];exact Nat.le_refl _
 |b::bs,a,h=>by have:=lF.le h.2.2;have:=h.1;omega

def cont(x:Nd):List En:=x.buf++x.ents

def uV(g:Nd->Int->Int->List Int->Prop)(hi:Int):Int->List Nd->List Int->List (List Int)->Prop
 |_,[],_,_=>False
 |lo,[x],ks,Qs=>ks=[]/\∃Q,Qs=[Q]/\lo<hi/\g x lo hi Q
 |lo,x::y::xs,ks,Qs=>∃k ks' Q Qs',ks=k::ks'/\Qs=Q::Qs'/\lo<k/\g x lo k Q/\uV g hi k (y::xs) ks' Qs'

theorem qbm{x:Nd}{hi:Int}(hl:x.leaf=true):∀(bs:List Nat) (a:Nat) (lo:Int),a<x.ents.length->lF 1 6 x.ents.length a bs->aK (x.ents.drop a) lo hi=true->lo<hi->
  uV (fun x lo hi Q=>rQ 6 x lo hi/\Q=[]) hi lo (dV x a bs) (jE x bs) (bs.map fun _=>[])/\(dV x a bs).flatMap cont=x.ents.drop a
 |[],a,lo,ha,hc,_,_=>by exact absurd hc (by show ¬a=x.ents.length;omega)
 |[b],a,lo,ha,hc,he,hlh=>by
  obtain⟨h1,h2,h3⟩:=hc;have hb:b=x.ents.length:=h3;subst hb;refine⟨⟨rfl,[],rfl,hlh,?_,rfl⟩,?_⟩
  all_goals have e:(x.ents.drop a).take (x.ents.length-a)=x.ents.drop a:=List.take_of_length_le (by simp)
  ·simp only[fJ,hl,if_true,e];exact⟨rfl,rfl,rfl,rfl,by simp;omega,by simp;omega,he⟩
  ·simp[dV,fJ,hl,e,cont]
 |b::c::bs,a,lo,ha,hc,he,hlh=>by
  obtain⟨h1,h2,h3⟩:=hc;have hbl:b<x.ents.length:=by have:=h3.1;have:=h3.2.2.le;omega
  have e:x.ents.drop a=(x.ents.drop a).take (b-a)++x.ents.drop b:=by
   have:=List.take_append_drop (b-a) (x.ents.drop a);rw[List.drop_drop,show a+(b-a)=b by omega] at this
   exact this.symm
  have hd:(x.ents.drop b).head? =some x.ents[b]:=by rw[List.drop_eq_getElem_cons hbl];rfl
  rw[e] at he;obtain⟨p1,p2,p3,p4⟩:=q0o he x.ents[b] (by rw[hd];rfl)
  have hfk:iP x b=x.ents[b].key:=by simp[iP,hl,hbl]
  have hne:(x.ents.drop a).take (b-a)≠[]:=by
   intro e';have:=congrArg List.length e';simp at this;omega
  have hlast:x.ents[b].key<hi:=by
   rw[List.drop_eq_getElem_cons hbl] at p2;simp only[aK,entB,Bool.and_eq_true,decide_eq_true_eq] at p2;exact p2.1.1.1.2
  have ih:=qbm hl (c::bs) b _ hbl h3 p2 hlast;refine⟨⟨iP x b,jE x (c::bs),[],(c::bs).map fun _=>[],rfl,rfl,by rw[hfk];exact p3 hne,⟨?_,rfl⟩,?_⟩,?_⟩
  ·rw[hfk];simp only[fJ,hl,if_true];exact⟨rfl,rfl,rfl,rfl,hne,by simp;omega,p1⟩
  ·rw[hfk];exact ih.1
  ·show(fJ x a b::dV x b (c::bs)).flatMap cont=_;rw[List.flatMap_cons,ih.2,e];simp[fJ,hl,cont]

theorem q1z{α β:Type}:∀(n:Nat) (l:List α) (m:List β),(l.zip m).drop n=(l.drop n).zip (m.drop n)
 |0,_,_=>rfl
 |_+1,[],_=>by simp
 |_+1,_::_,[]=>by simp
 |n+1,_::l,_::m=>by simpa using q1z n l m
theorem q1x{α β:Type}:∀(n:Nat) (l:List α) (m:List β),(l.zip m).take n=(l.take n).zip (m.take n)
 |0,_,_=>rfl
 |_+1,[],_=>by simp
 |_+1,_::_,[]=>by simp
 |n+1,_::l,_::m=>by simpa using q1x n l m

theorem qbg(kids keys:List Int)(hi:Int)(a:Nat):(ups kids keys hi).drop a=(kids.drop a).zip ((keys++[hi]).drop a):=by
 unfold ups;exact q1z _ _ _

theorem qgs{kids keys:List Int}{hi:Int}(hk:keys.length+1=kids.length){i:Nat}(h:i<kids.length):(ups kids keys hi)[i]? =some (kids[i],(keys++[hi])[i]'(by simp;omega)):=by
 unfold ups;rw[List.getElem?_zip_eq_some];exact⟨by simp[h],by simp⟩

theorem qjg{kids keys:List Int}{hi:Int}(hk:keys.length+1=kids.length){a b:Nat}(hab:a<b)(hb:b<=keys.length):
  ups ((kids.drop a).take (b-a)) ((keys.drop a).take (b-1-a)) (keys.getD (b-1) 0)=((ups kids keys hi).drop a).take (b-a):=by
 rw[qbg,q1x];unfold ups;congr 1;have hlt:b-1<keys.length:=by omega
 have hg:keys.getD (b-1) 0=keys[b-1]:=by simp[hlt]
 rw[hg,List.drop_append_of_le_length (by omega),List.take_append_of_le_length (by simp;omega)]
 have e:b-a=(b-1-a)+1:=by omega
 rw[e,List.take_succ_eq_append_getElem (by simp;omega),List.getElem_drop]
 congr 3;omega

theorem qef{kids keys:List Int}{hi lo:Int}(hk:keys.length+1=kids.length){a b:Nat}(hab:a<b)(hb:b<=keys.length):endU lo (((ups kids keys hi).drop a).take (b-a))=keys.getD (b-1) 0:=by
 have hl:(ups kids keys hi).length=kids.length:=by simp[ups];omega
 have e:b-a=(b-1-a)+1:=by omega
 have hlt:b-1-a<((ups kids keys hi).drop a).length:=by simp[hl];omega
 rw[e,List.take_succ_eq_append_getElem hlt];have hg:=qgs (hi:=hi) hk (show b-1<kids.length by omega)
 have h2:((ups kids keys hi).drop a)[b-1-a]'hlt=(kids[b-1]'(by omega),keys[b-1]'(by omega)):=by
  have h3:((ups kids keys hi).drop a)[b-1-a]? =some (kids[b-1]'(by omega),keys[b-1]'(by omega)):=by
   rw[List.getElem?_drop,show a+(b-1-a)=b-1 by omega,hg,List.getElem_append_left (show b-1<keys.length by omega)]
  exact(List.getElem?_eq_some_iff.1 h3).2
 rw[h2,q5i];simp[show b-1<keys.length by omega]

theorem qsc(d hi:Int):ups [d] [] hi=[(d,hi)]:=rfl
theorem xB(d k:Int)(ds ks:List Int)(hi:Int):ups (d::ds) (k::ks) hi=(d,k)::ups ds ks hi:=rfl

theorem q5a{hi:Int}:∀{kids keys:List Int} {lo:Int},keys.length+1=kids.length->endU lo (ups kids keys hi)=hi
 |[],_,_,h=>by simp at h
 |[d],keys,lo,h=>by
  obtain rfl:keys=[]:=List.eq_nil_of_length_eq_zero (by simpa using h)
  rfl
 |d::e::ds,keys,lo,h=>by
  cases keys with
  |nil=>simp at h
  |cons k ks=>
   rw[xB];exact q5a (kids:=e::ds) (by simpa using h)

theorem qky{kids keys:List Int}{hi:Int}{a:Nat}(ha:a<=keys.length):(ups kids keys hi).drop a=ups (kids.drop a) (keys.drop a) hi:=by
 rw[qbg,List.drop_append_of_le_length ha]
 rfl

theorem q7q{x:Nd}{hi:Int}{g:Rel}(hg:∀d lo hi Q,g d lo hi Q->lo<hi)(hl:x.leaf=false)(hk:x.keys.length+1=x.kids.length)(hf:x.buf.length<=8):
  ∀(bs:List Nat) (a:Nat) (lo:Int) (Q:List Int),a<x.kids.length->lF 2 4 x.kids.length a bs->SubK g lo ((ups x.kids x.keys hi).drop a) Q->aK (x.buf.drop (bV x a)) lo hi=true->(a=0\/bV x a=lowN x.buf lo)->
  (∃Qs:List (List Int),Q=Qs.flatten/\uV (kQ 4 g) hi lo (dV x a bs) (jE x bs) Qs)/\(dV x a bs).flatMap cont=x.buf.drop (bV x a)
 |[],a,lo,Q,ha,hc,_,_,_=>by exact absurd hc (by show ¬a=x.kids.length;omega)
 |[b],a,lo,Q,ha,hc,hs,he,_=>by
  obtain⟨h1,h2,h3⟩:=hc;have hb:b=x.kids.length:=h3;subst hb;rw[qky (by omega)] at hs
  have hlh:lo<hi:=by
   have:=(yD hg hs).2 (by
    intro e;have:=congrArg List.length e;simp[ups] at this;omega)
   rwa [q5a (by simp;omega)] at this
  have hw:bV x x.kids.length=x.buf.length:=by unfold bV;rw[if_neg (by omega),if_pos rfl]
  have e1:(x.keys.drop a).take (x.kids.length-1-a)=x.keys.drop a:=List.take_of_length_le (by simp;omega)
  have e2:(x.kids.drop a).take (x.kids.length-a)=x.kids.drop a:=List.take_of_length_le (by simp)
  have e3:(x.buf.drop (bV x a)).take (x.buf.length-bV x a)=x.buf.drop (bV x a):=List.take_of_length_le (by simp)
  have ep:fJ x a x.kids.length=⟨false,[],x.keys.drop a,x.kids.drop a,x.buf.drop (bV x a)⟩:=by simp only[fJ,hl,Bool.false_eq_true,if_false,hw,e1,e2,e3]
  refine⟨⟨[Q],by simp,rfl,Q,rfl,hlh,?_⟩,?_⟩
  ·rw[ep];exact⟨rfl,rfl,by simp;omega,by simp;omega,by simp;omega,by simp;omega,he,hs⟩
  ·simp[dV,ep,cont]
 |b::c::bs,a,lo,Q,ha,hc,hs,he,hw=>by
  obtain⟨h1,h2,h3⟩:=hc;have hbl:b<x.kids.length:=by have:=h3.1;have:=h3.2.2.le;omega
  have e:(ups x.kids x.keys hi).drop a=((ups x.kids x.keys hi).drop a).take (b-a)++(ups x.kids x.keys hi).drop b:=by
   have:=List.take_append_drop (b-a) ((ups x.kids x.keys hi).drop a);rw[List.drop_drop,show a+(b-a)=b by omega] at this
   exact this.symm
  rw[e] at hs;obtain⟨QA,QB,rfl,hA,hB⟩:=SubK_append.1 hs
  have hne:((ups x.kids x.keys hi).drop a).take (b-a)≠[]:=by
   intro e';have:=congrArg List.length e';simp[ups] at this;omega
  have hlt:=(yD hg hA).2 hne;rw[qef hk (by omega) (by omega)] at hB hlt
  have hfk:iP x b=x.keys.getD (b-1) 0:=by simp[iP,hl]
  have hwb:bV x b=lowN x.buf (x.keys.getD (b-1) 0):=by
   unfold bV;rw[if_neg (by omega),if_neg (by omega)]
  have hsum:bV x b=bV x a+lowN (x.buf.drop (bV x a)) (x.keys.getD (b-1) 0):=by
   rw[hwb];rcases hw with rfl|hw
   ·simp[bV]
   ·rw[hw];exact q1e (by omega) _
  obtain⟨p1,p2⟩:=q0j (k:=x.keys.getD (b-1) 0) he (by omega)
  rw[List.drop_drop,<-hsum] at p2;obtain⟨⟨Qs,hQs,hP⟩,hC⟩:=q7q hg hl hk hf (c::bs) b (x.keys.getD (b-1) 0) QB hbl h3 hB p2 (.inr hwb);refine⟨⟨QA::Qs,by rw[hQs];rfl,iP x b,jE x (c::bs),QA,Qs,rfl,rfl,by rw[hfk];exact hlt,?_,by rw[hfk];exact hP⟩,?_⟩
  ·rw[hfk];simp only[fJ,hl,Bool.false_eq_true,if_false];rw[<-qjg hk (by omega) (by omega)] at hA
   exact⟨rfl,rfl,by simp;omega,by simp;omega,by simp;omega,by simp;omega,by rw[hsum,Nat.add_sub_cancel_left];exact p1,hA⟩
  ·show(fJ x a b::dV x b (c::bs)).flatMap cont=_;rw[List.flatMap_cons,hC];simp only[fJ,hl,Bool.false_eq_true,if_false,cont,List.append_nil];rw[hsum,Nat.add_sub_cancel_left,<-List.drop_drop,List.take_append_drop]

def beg(size parts i:Nat):Nat:=(size*i+parts-1)/parts

theorem q0n(s q i:Nat)(hq:1<=q):q*beg s q i<=s*i+q-1/\s*i+q-1<q*beg s q i+q:=by
 unfold beg;have h1:=Nat.div_add_mod (s*i+q-1) q;have h2:=Nat.mod_lt (s*i+q-1) (show 0<q by omega)
 omega

theorem qA(s q:Nat)(hq:1<=q):beg s q 0=0:=by
 unfold beg;rw[Nat.mul_zero,Nat.zero_add];exact Nat.div_eq_of_lt (by omega)

theorem qbs(s q:Nat)(hq:1<=q):beg s q q=s:=by
 have h:=q0n s q q hq;rw[Nat.mul_comm s q] at h
 have h1:¬beg s q q<s:=fun e=>by
  have:=Nat.mul_le_mul_left q (show beg s q q+1<=s by omega)
  rw[Nat.mul_add] at this;omega
 have h2:¬s<beg s q q:=fun e=>by
  have:=Nat.mul_le_mul_left q (show s+1<=beg s q q by omega)
  rw[Nat.mul_add] at this;omega
 omega

theorem tK(s q i m mn:Nat)(hq:1<=q)(hm:s<=q*m)(hmn:q*mn<=s):beg s q i+mn<=beg s q (i+1)/\beg s q (i+1)<=beg s q i+m:=by
 have h1:=q0n s q i hq;have h2:=q0n s q (i+1) hq;rw[Nat.mul_add s i 1,Nat.mul_one] at h2;constructor
 ·apply Nat.le_of_not_lt;intro e;have:=Nat.mul_le_mul_left q (show beg s q (i+1)+1<=beg s q i+mn by omega)
  rw[Nat.mul_add,Nat.mul_add] at this;omega
 ·apply Nat.le_of_not_lt;intro e;have:=Nat.mul_le_mul_left q (show beg s q i+m+1<=beg s q (i+1) by omega)
  rw[Nat.mul_add,Nat.mul_add] at this;omega

def aZ(x:Nd):Nat:=if x.leaf=true then x.ents.length else x.kids.length
def bP(x:Nd):Nat:=if x.leaf=true then 6 else 4
def aN(x:Nd):Nat:=(aZ x+bP x-1)/bP x

def lM(s q:Nat):Nat->Nat->List Nat
 |_,0=>[]
 |i,k+1=>beg s q (i+1)::lM s q (i+1) k

def aS(N:Nat):Nat->List Int
 |0=>[]
 |k+1=>(N:Int)::aS (N+1) k

theorem lQ:∀(N k:Nat),(aS N k).length=k
 |_,0=>rfl
 |N,k+1=>by simp[aS,lQ (N+1) k]

theorem placesF_mem:∀{N k:Nat} {n:Int},n∈aS N k↔(N:Int)<=n/\n<N+k
 |N,0,n=>by simp[aS]
 |N,k+1,n=>by
  simp only[aS,List.mem_cons];rw[placesF_mem];omega

theorem lS:∀(N k:Nat),(aS N k).Nodup
 |_,0=>List.nodup_nil
 |N,k+1=>by
  rw[aS,List.nodup_cons];refine⟨fun h=>?_,lS (N+1) k⟩
  have:=placesF_mem.1 h;omega

theorem nV:∀(N a b:Nat),aS N (a+b)=aS N a++aS (N+a) b
 |N,0,b=>by simp[aS]
 |N,a+1,b=>by
  rw[show a+1+b=(a+b)+1 by omega,aS,aS,nV (N+1) a b,show N+1+a=N+(a+1) by omega]
  rfl

def eH(x:Nd):List Nat:=lM (aZ x) (aN x) 0 (aN x)

def aQ(ns:List Nd)(p:Int):List Nd × List (Int × Int):=
 if aZ (nth ns p)<=bP (nth ns p) then(ns,[])
 else(ns.set p.toNat ((dV (nth ns p) 0 (eH (nth ns p))).headD default)++(dV (nth ns p) 0 (eH (nth ns p))).tail,(jE (nth ns p) (eH (nth ns p))).zip (aS ns.length (aN (nth ns p)-1)))

theorem xH{s q m mn:Nat}(hq:1<=q)(hm:s<=q*m)(hmn:q*mn<=s):∀(k i:Nat),i+k=q->lF mn m s (beg s q i) (lM s q i k)
 |0,i,h=>by
  obtain rfl:i=q:=by omega
  exact qbs s i hq
 |k+1,i,h=>by
  obtain⟨h1,h2⟩:=tK s q i m mn hq hm hmn;exact⟨h1,h2,xH hq hm hmn k (i+1) (by omega)⟩

theorem nX(s q:Nat):∀(k i:Nat),(lM s q i k).length=k
 |0,_=>rfl
 |k+1,i=>by simp[lM,nX s q k (i+1)]

theorem sK{s m mn:Nat}(hm:mn=1/\m=6\/mn=2/\m=4)(hs:m<s):2<=(s+m-1)/m/\s<=((s+m-1)/m)*m/\((s+m-1)/m)*mn<=s/\(s+m-1)/m<=s:=by
 rcases hm with⟨rfl,rfl⟩|⟨rfl,rfl⟩<;>omega

theorem qL(x:Nd):∀(bs:List Nat) (a:Nat),(dV x a bs).length=bs.length
 |[],_=>rfl
 |b::bs,_=>by simp[dV,qL x bs b]

theorem vK(x:Nd):∀(bs:List Nat),(jE x bs).length=bs.length-1
 |[]=>rfl
 |[_]=>rfl
 |b::c::bs=>by
  have:=vK x (c::bs);simp[jE,this]

def At(ns:List Nd):List Int->List Nd->Prop
 |[],[]=>True
 |d::ds,x::xs=>(nth ns d=x/\0<=d/\d<ns.length)/\At ns ds xs
 |_,_=>False

theorem vI{A B:List Nd}{n:Int}(h0:0<=n)(h:n<A.length):nth (A++B) n=nth A n:=by
 unfold nth;rw[List.getD_eq_getElem?_getD,List.getD_eq_getElem?_getD,List.getElem?_append_left (by omega)]

theorem qeg:∀(xs A:List Nd),At (A++xs) (aS A.length xs.length) xs
 |[],_=>trivial
 |x::xs,A=>by
  refine⟨⟨?_,by omega,by simp;omega⟩,?_⟩
  ·unfold nth;simp
  ·have:=qeg xs (A++[x]);rw[List.append_assoc,List.length_append] at this;exact this

theorem qhj{ns':List Nd}{h:Nat}{hi:Int}{G:Nd->Int->Int->List Int->Prop}{Z:List Int}(hG:∀d x lo hi Q,(∀n∈Q,n∈Z)->lo<hi->G x lo hi Q->nth ns' d=x->0<=d->d<ns'.length->Sub 6 4 ns' h d lo hi (d::Q)):
  ∀(xs:List Nd) (ds:List Int) (lo:Int) (ks:List Int) (Qs:List (List Int)),uV G hi lo xs ks Qs->At ns' ds xs->(∀Q∈Qs,∀n∈Q,n∈Z)->∃Q',SubK (Sub 6 4 ns' h) lo (ups ds ks hi) Q'/\Q'.Perm (ds++Qs.flatten)
 |[],_,_,_,_,hp,_,_=>hp.elim
 |[x],ds,lo,ks,Qs,hp,ha,hz=>by
  obtain⟨rfl,Q,rfl,hlt,hg⟩:=hp
  match ds,ha with
  |[d],ha=>
   refine⟨d::Q,⟨d::Q,[],by simp,hG d x lo hi Q (hz Q (by simp)) hlt hg ha.1.1 ha.1.2.1 ha.1.2.2,rfl⟩,by simp⟩
 |x::y::xs,ds,lo,ks,Qs,hp,ha,hz=>by
  obtain⟨k,ks',Q,Qs',rfl,rfl,hlt,hg,hp'⟩:=hp
  match ds,ha with
  |d::ds,ha=>
   obtain⟨Q',h1,h2⟩:=qhj hG (y::xs) ds k ks' Qs' hp' ha.2 (fun Q hQ=>hz Q (List.mem_cons_of_mem _ hQ))
   refine⟨d::Q++Q',⟨d::Q,Q',rfl,hG d x lo k Q (hz Q (by simp)) hlt hg ha.1.1 ha.1.2.1 ha.1.2.2,h1⟩,?_⟩
   show(d::(Q++Q')).Perm (d::(ds++(Q++Qs'.flatten)));exact((h2.append_left Q).trans (List.perm_append_comm_assoc _ _ _)).cons d

theorem jV{α:Type}(l:List α)(i:Nat)(y:α)(hi:i<l.length):l=l.take i++l[i]::l.drop (i+1)/\l.set i y=l.take i++y::l.drop (i+1):=by
 constructor
 ·rw[<-List.drop_eq_getElem_cons hi,List.take_append_drop]
 ·exact List.set_eq_take_append_cons_drop▸by simp[hi]

structure rE(ns ns':List Nd)(h:Nat)(p lo hi:Int)(P:List Int)(more:List (Int × Int)):Prop where
 sub:∃Q',SubK (Sub 6 4 ns' h) lo (ups (p::more.map (·.2)) (more.map (·.1)) hi) Q'/\Q'.Perm (P++aS ns.length (ns'.length-ns.length))
 le:ns.length<=ns'.length
 same:∀n,n∉P->0<=n->n<ns.length->nth ns' n=nth ns n
 cont:(ns'.flatMap cont).Perm (ns.flatMap cont)
 few:more.length<=ns'.length-ns.length

theorem qbh{ns xs:List Nd}{i:Nat}{y:Nd}(hi:i<ns.length)(h:(cont y++xs.flatMap cont).Perm (cont ns[i])):((ns.set i y++xs).flatMap cont).Perm (ns.flatMap cont):=by
 obtain⟨e1,e2⟩:=jV ns i y hi;rw[e2]
 conv=>rhs;rw[e1]
 simp only[List.flatMap_append,List.flatMap_cons,List.append_assoc];refine List.Perm.append_left _ ?_;refine List.Perm.trans ?_ (h.append_right _);rw[List.append_assoc];exact List.Perm.append_left _ List.perm_append_comm

theorem qe5{ns xs:List Nd}{p n:Int}{y:Nd}(hp:0<=p)(h0:0<=n)(hn:n<ns.length)(hne:n≠p):nth (ns.set p.toNat y++xs) n=nth ns n:=by
 rw[vI h0 (by simpa using hn)]
 unfold nth;rw[List.getD_eq_getElem?_getD,List.getD_eq_getElem?_getD,List.getElem?_set_ne (by omega)]

theorem qfi{ks ps:List Int}(h:ks.length=ps.length):(ks.zip ps).map (·.1)=ks/\(ks.zip ps).map (·.2)=ps:=by
 constructor
 ·exact List.map_fst_zip (by omega)
 ·exact List.map_snd_zip (by omega)

theorem q5h{ns:List Nd}{p:Int}{h:Nat}{lo hi:Int}{Q:List Int}{x:Nd}{G:Nd->Int->Int->List Int->Prop}{bs:List Nat}{Qs:List (List Int)}{q:Nat}(hx:nth ns p=x)(hp0:0<=p)(hp1:p<ns.length)
  (hbs:bs.length=q) (hq:2<=q) (hQ:Q=Qs.flatten) (hP:uV G hi lo (dV x 0 bs) (jE x bs) Qs) (hC:((dV x 0 bs).flatMap cont).Perm (cont x))
  (hG:∀ns':List Nd,(∀n,n≠p->0<=n->n<ns.length->nth ns' n=nth ns n)->ns.length<=ns'.length->∀d x lo hi Q1,(∀n∈Q1,n∈Q)->lo<hi->G x lo hi Q1->nth ns' d=x->0<=d->d<ns'.length->Sub 6 4 ns' h d lo hi (d::Q1)):
  rE ns (ns.set p.toNat ((dV x 0 bs).headD default)++(dV x 0 bs).tail) h p lo hi (p::Q) ((jE x bs).zip (aS ns.length (q-1))):=by
 have hlen:=qL x bs 0;have hkl:=vK x bs;obtain⟨e1,e2⟩:=qfi (ks:=jE x bs) (ps:=aS ns.length (q-1)) (by rw[hkl,lQ,hbs])
 cases hps:dV x 0 bs with
 |nil=>rw[hps] at hlen;simp at hlen;omega
 |cons y xs=>
  rw[hps] at hlen hP hC;have hxl:xs.length=q-1:=by simp at hlen;omega
  simp only[List.headD_cons,List.tail_cons];have hsl:(ns.set p.toNat y).length=ns.length:=by simp
  have hsame:∀n,n≠p->0<=n->n<ns.length->nth (ns.set p.toNat y++xs) n=nth ns n:=fun n a b c=>qe5 hp0 b c a
  have hle:ns.length<=(ns.set p.toNat y++xs).length:=by simp
  have hat:At (ns.set p.toNat y++xs) (p::aS ns.length (q-1)) (y::xs):=by
   refine⟨⟨?_,hp0,by simp;omega⟩,?_⟩
   ·rw[vI hp0 (by simpa using hp1)]
    unfold nth;rw[List.getD_eq_getElem?_getD,List.getElem?_set_self (by omega)]
    rfl
   ·have:=qeg xs (ns.set p.toNat y);rw[hsl,hxl] at this;exact this
  obtain⟨Q',h1,h2⟩:=qhj (Z:=Q) (hG _ hsame hle) (y::xs) (p::aS ns.length (q-1)) lo (jE x bs) Qs hP hat (fun Q1 hQ1 n hn=>by rw[hQ];exact List.mem_flatten.2 ⟨Q1,hQ1,hn⟩)
  have hdl:(ns.set p.toNat y++xs).length-ns.length=q-1:=by simp;omega
  refine⟨⟨Q',?_,?_⟩,hle,fun n hn=>hsame n (fun e=>hn (by simp[e])),?_,?_⟩
  ·rw[e1,e2];exact h1
  ·rw[hdl,hQ];refine h2.trans ?_;show(p::(aS ns.length (q-1)++Qs.flatten)).Perm (p::(Qs.flatten++aS ns.length (q-1)));exact List.perm_append_comm.cons p
  ·refine qbh (by omega) ?_
   have:ns[p.toNat]'(by omega)=x:=by
    rw[<-hx];unfold nth;rw[List.getD_eq_getElem?_getD,List.getElem?_eq_getElem (by omega)]
    rfl
   rw[this];exact hC
  ·rw[hdl,List.length_zip,hkl,lQ];omega

theorem uG{mL mK:Nat}{ns:List Nd}{h:Nat}{p lo hi:Int}{P:List Int}(ht:Top mL mK ns h p lo hi P)(hn:P.Nodup):rE ns (aQ ns p).1 h p lo hi P (aQ ns p).2:=by
 cases h with
 |zero=>
  obtain⟨⟨hp0,hp1,hlh⟩,rfl,hl⟩:=ht;unfold aQ;have hs:aZ (nth ns p)=(nth ns p).ents.length:=by simp[aZ,hl.leaf]
  have hm:bP (nth ns p)=6:=by simp[bP,hl.leaf]
  split
  ·rename_i hle
   rw[hs,hm] at hle;exact⟨⟨[p],⟨[p],[],by simp,⟨⟨hp0,hp1,hlh⟩,rfl,hl.leaf,hl.keys,hl.kids,hl.buf,hl.ne,hle,hl.ents⟩,rfl⟩,by simp[aS]⟩,Nat.le_refl _,fun _ _ _ _=>rfl,List.Perm.refl _,by simp⟩
  ·rename_i hgt
   rw[hs,hm] at hgt;obtain⟨b1,b2,b3,b4⟩:=sK (s:=(nth ns p).ents.length) (.inl ⟨rfl,rfl⟩) (by omega)
   have hpn:aN (nth ns p)=((nth ns p).ents.length+6-1)/6:=by rw[aN,hs,hm]
   rw[<-hpn] at b1 b2 b3 b4
   have hcut:lF 1 6 (nth ns p).ents.length 0 (eH (nth ns p)):=by
    have:=xH (s:=(nth ns p).ents.length) (q:=aN (nth ns p)) (m:=6) (mn:=1) (by omega) b2 b3 (aN (nth ns p)) 0 (by omega)
    rw[qA _ _ (by omega)] at this
    unfold eH;rw[hs];exact this
   have hbl:(eH (nth ns p)).length=aN (nth ns p):=by unfold eH;exact nX _ _ _ _
   obtain⟨hP,hC⟩:=qbm (hi:=hi) hl.leaf (eH (nth ns p)) 0 lo (by omega) hcut (by simpa using hl.ents) hlh
   refine q5h rfl hp0 hp1 hbl b1 (Qs:=(eH (nth ns p)).map fun _=>[]) (by simp) hP ?_ ?_
   ·rw[hC];simp[cont,hl.buf]
   ·rintro ns' _ _ d x lo hi Q1 _ hlt ⟨g1,rfl⟩ rfl h0 h1;exact⟨⟨h0,h1,hlt⟩,rfl,g1⟩
 |succ h=>
  obtain⟨⟨hp0,hp1,hlh⟩,Q,rfl,hl⟩:=ht;unfold aQ;have hs:aZ (nth ns p)=(nth ns p).kids.length:=by simp[aZ,hl.leaf]
  have hm:bP (nth ns p)=4:=by simp[bP,hl.leaf]
  split
  ·rename_i hle
   rw[hs,hm] at hle;exact⟨⟨p::Q,⟨p::Q,[],by simp,⟨⟨hp0,hp1,hlh⟩,Q,rfl,hl.leaf,hl.ents,hl.two,hle,hl.keys,hl.few,hl.buf,hl.kids⟩,rfl⟩,by simp[aS]⟩,Nat.le_refl _,fun _ _ _ _=>rfl,List.Perm.refl _,by simp⟩
  ·rename_i hgt
   rw[hs,hm] at hgt;obtain⟨b1,b2,b3,b4⟩:=sK (s:=(nth ns p).kids.length) (.inr ⟨rfl,rfl⟩) (by omega)
   have hpn:aN (nth ns p)=((nth ns p).kids.length+4-1)/4:=by rw[aN,hs,hm]
   rw[<-hpn] at b1 b2 b3 b4
   have hcut:lF 2 4 (nth ns p).kids.length 0 (eH (nth ns p)):=by
    have:=xH (s:=(nth ns p).kids.length) (q:=aN (nth ns p)) (m:=4) (mn:=2) (by omega) b2 b3 (aN (nth ns p)) 0 (by omega)
    rw[qA _ _ (by omega)] at this
    unfold eH;rw[hs];exact this
   have hbl:(eH (nth ns p)).length=aN (nth ns p):=by unfold eH;exact nX _ _ _ _
   have hw0:bV (nth ns p) 0=0:=by simp[bV]
   obtain⟨⟨Qs,hQs,hP⟩,hC⟩:=q7q (hi:=hi) (kH h) hl.leaf hl.keys hl.few (eH (nth ns p)) 0 lo Q (by omega) hcut (by simpa using hl.kids) (by rw[hw0];simpa using hl.buf) (.inl rfl)
   refine q5h rfl hp0 hp1 hbl b1 hQs hP ?_ ?_
   ·rw[hC,hw0];simp[cont,hl.ents]
   ·intro ns' hsame hle d x lo hi Q1 hsub hlt g1 hd h0 h1;refine⟨⟨h0,h1,hlt⟩,Q1,rfl,?_⟩;rw[hd];refine g1.imp fun d lo hi Q2 a b=>nD h d lo hi Q2 a fun n hn'=>?_
    have hr:=qO hl.kids n (hsub n (b n hn'));refine⟨hsame n (fun e=>(List.nodup_cons.1 hn).1 (e▸hsub n (b n hn'))) hr.1 hr.2,by omega⟩

end
end Go.Proofs.YtlojfgdpmaigmagGreatDoor

/- Roots above roots, till one is enough; and what Check tells of the tree then. -/
import Derived.Test.YtlojfgdpmaigmagGreatDoorP09
import Derived.Test.YtlojfgdpmaigmagGreatDoorP14
import Derived.Test.YtlojfgdpmaigmagGreatDoorP08
import Derived.Test.YtlojfgdpmaigmagGreatDoorP12
import Derived.Test.YtlojfgdpmaigmagGreatDoorP16
import Derived.Deep.AppendLies
namespace Go.Proofs.YtlojfgdpmaigmagGreatDoor
section
open Go.RowKit Plain

def bQ(root:Int)(more:List (Int × Int)):Nd:=⟨false,[],more.map (·.1),root::more.map (·.2),[]⟩

def eX:Nat->List Nd->Int->List (Int × Int)->List Nd × Int
 |0,ns,root,_=>(ns,root)
 |f+1,ns,root,more=>
  if more=[] then(ns,root)
  else eX f (aQ (ns++[bQ root more]) ns.length).1 ns.length (aQ (ns++[bQ root more]) ns.length).2

structure lJ(ns:List Nd)(h:Nat)(root:Int)(more:List (Int × Int)):Prop where
 sub:∃Q,SubK (Sub 6 4 ns h) 0 (ups (root::more.map (·.2)) (more.map (·.1)) 1099511627776) Q/\Q.Perm (aT 0 ns.length)

theorem xB(ns:List Nd)(x:Nd):nth (ns++[x]) (ns.length:Int)=x:=by
 unfold nth;simp

theorem vX(ns:List Nd)(root:Int)(more:List (Int × Int)):(aQ (ns++[bQ root more]) ns.length).2.length=(more.length+4)/4-1/\(aQ (ns++[bQ root more]) ns.length).1.length=ns.length+(more.length+4)/4:=by
 unfold aQ;rw[xB];have hs:bD (bQ root more)=more.length+1:=by simp[bD,bQ]
 have hm:bK (bQ root more)=4:=by simp[bK,bQ]
 have hp:aO (bQ root more)=(more.length+4)/4:=by
  rw[aO,hs,hm];congr 1
 split
 ·rename_i h
  rw[hs,hm] at h;simp;omega
 ·rename_i h
  rw[hs,hm] at h;have hc:(eP (bQ root more)).length=(more.length+4)/4:=by unfold eP;rw[oC,hp]
  constructor
  ·simp only[List.length_zip,vT,hc,lQ,hp];omega
  ·simp only[List.length_append,List.length_set,List.length_tail,qK,hc,List.length_cons,List.length_nil];omega

theorem qaj{ns:List Nd}{h:Nat}{root:Int}{more:List (Int × Int)}(hr:lJ ns h root more)(hm:more≠[]):
  lJ (aQ (ns++[bQ root more]) ns.length).1 (h+1) ns.length (aQ (ns++[bQ root more]) ns.length).2/\((aQ (ns++[bQ root more]) ns.length).1.flatMap cont).Perm (ns.flatMap cont):=by
 obtain⟨Q,hQ,hp⟩:=hr.sub;have hml:1<=more.length:=by cases more with|nil=>exact absurd rfl hm|cons=>simp
 have hkl:(more.map (·.1)).length+1=(root::more.map (·.2)).length:=by simp
 have hlt:(0:Int)<1099511627776:=by decide
 have hQ':SubK (Sub 6 4 (ns++[bQ root more]) h) 0 (ups (root::more.map (·.2)) (more.map (·.1)) 1099511627776) Q:=
  nI hQ fun d lo hi Q1 a b=>nG h d lo hi Q1 a fun n hn=>by
   have hm:=placesF_mem.1 (hp.mem_iff.1 (b n hn));exact⟨vK (by omega) (by omega),by simp;omega⟩
 have htop:Top 0 (more.length+1) (ns++[bQ root more]) (h+1) ns.length 0 1099511627776 ((ns.length:Int)::Q):=by
  refine⟨⟨by omega,by simp;omega,hlt⟩,Q,rfl,?_⟩
  rw[xB];exact⟨rfl,rfl,by simp[bQ];omega,by simp[bQ],by simp[bQ],by simp[bQ],rfl,hQ'⟩
 have hpl:((ns.length:Int)::Q).Perm (aT 0 (ns.length+1)):=by
  rw[nY];refine(hp.cons _).trans ?_;show((ns.length:Int)::aT 0 ns.length).Perm (aT 0 ns.length++aT (0+ns.length) 1);rw[Nat.zero_add];exact(List.perm_append_comm (l₁:=[(ns.length:Int)]) (l₂:=aT 0 ns.length))
 have hnd:((ns.length:Int)::Q).Nodup:=hpl.nodup_iff.2 (lS _ _);have hs:=tV htop hnd;obtain⟨Q',h1,h2⟩:=hs.sub;refine⟨⟨Q',h1,h2.trans ?_⟩,hs.cont.trans ?_⟩
 ·have hle:=hs.le;rw[show(aQ (ns++[bQ root more]) ns.length).1.length=(ns.length+1)+((aQ (ns++[bQ root more]) ns.length).1.length-(ns++[bQ root more]).length) by simp at hle ⊢;omega,nY]
  have e:(ns++[bQ root more]).length=0+(ns.length+1):=by simp
  rw[e];refine(hpl.append_right _).trans ?_;exact List.Perm.of_eq (by congr 2;simp at hle;omega)
 ·simp[cont,bQ]

theorem q9j:∀(f:Nat) {ns:List Nd} {h:Nat} {root:Int} {more:List (Int × Int)},more.length<=f->lJ ns h root more->
  (∃h' Q,Sub 6 4 (eX f ns root more).1 h' (eX f ns root more).2 0 1099511627776 Q/\Q.Perm (aT 0 (eX f ns root more).1.length))/\((eX f ns root more).1.flatMap cont).Perm (ns.flatMap cont)/\(eX f ns root more).1.length<=ns.length+more.length:=by
 intro f
 induction f with
 |zero=>
  intro ns h root more hf hr;obtain rfl:more=[]:=List.eq_nil_of_length_eq_zero (by omega)
  obtain⟨Q,⟨Q1,Q2,rfl,h1,h2⟩,hp⟩:=hr.sub;cases h2;rw[List.append_nil] at hp;exact⟨⟨h,Q1,h1,hp⟩,List.Perm.refl _,by simp[eX]⟩
 |succ f ih=>
  intro ns h root more hf hr;unfold eX
  split
  ·rename_i hm
   subst hm;obtain⟨Q,⟨Q1,Q2,rfl,h1,h2⟩,hp⟩:=hr.sub;cases h2;rw[List.append_nil] at hp;exact⟨⟨h,Q1,h1,hp⟩,List.Perm.refl _,by simp⟩
  ·rename_i hm
   have hml:1<=more.length:=by cases more with|nil=>exact absurd rfl hm|cons=>simp
   obtain⟨hr',hc⟩:=qaj hr hm;obtain⟨l1,l2⟩:=vX ns root more;obtain⟨a,b,c⟩:=ih (by rw[l1];omega) hr'
   exact⟨a,b.trans hc,by rw[l1,l2] at c;omega⟩

theorem q5n(h:Nat):2 ^ (h+1)=2 ^ h+2 ^ h:=by rw[Nat.pow_succ];omega

theorem q4q{mL mK:Nat}{ns:List Nd}:∀(h:Nat) (d lo hi:Int) (P:List Int),Sub mL mK ns h d lo hi P->2 ^ (h+1)<=P.length+1
 |0,_,_,_,_,h=>by rw[h.2.1];simp
 |h+1,d,lo,hi,P,hs=>by
  obtain⟨_,Q,rfl,hin⟩:=hs;have ih:=q4q (mL:=mL) (mK:=mK) (ns:=ns) h;obtain⟨kids,keys,hk1,hk2⟩:∃kids keys,kids=(nth ns d).kids/\keys=(nth ns d).keys:=⟨_,_,rfl,rfl⟩;have h2:=hin.two;have h3:=hin.keys;have h4:=hin.kids;rw[<-hk1] at h2 h3 h4;rw[<-hk2] at h3 h4
  match kids,keys,h2,h3,h4 with
  |a::b::r,k::ks,_,_,h4=>
   rw[xC] at h4;obtain⟨Q1,Q2,rfl,g1,g2⟩:=h4;have i1:=ih _ _ _ _ g1;have:∃u r',ups (b::r) ks hi=(b,u)::r':=by cases ks<;>exact⟨_,_,rfl⟩
   obtain⟨u,r',e⟩:=this;rw[e] at g2;obtain⟨Q3,Q4,rfl,g3,_⟩:=g2;have i2:=ih _ _ _ _ g3;rw[q5n (h+1)];simp only[List.length_cons,List.length_append];omega

def qer(S:St)(dp:Int)(P:List Int)(r:Option (St × List Int)):Prop:=∃S' l,r=some (S',l)/\(S'.map (·.1)).Perm (P++S.map (·.1))/\l≠[]/\∀x∈l,x=dp

theorem q5j{g:Int->Int->Int->St->Option (St × List Int)}{G:Rel}{dp:Int}(hg:∀d lo hi P S,G d lo hi P->P.Nodup->(∀n∈P,n∉S.map (·.1))->qer S dp P (g d lo hi S)):
  ∀(kids keys:List Int) (lo hi:Int) (Q:List Int) (S:St),keys.length+1=kids.length->SubK G lo (ups kids keys hi) Q->Q.Nodup->(∀n∈Q,n∉S.map (·.1))->qer S dp Q (Wk g kids keys lo hi S)
 |[],_,_,_,_,_,h,_,_,_=>by simp at h
 |[d],keys,lo,hi,Q,S,hl,hs,hn,hd=>by
  obtain rfl:keys=[]:=List.eq_nil_of_length_eq_zero (by simpa using hl)
  obtain⟨Q1,Q2,rfl,h1,h2⟩:=hs;cases h2;rw[List.append_nil] at hn hd ⊢;obtain⟨S',l,e,hp,hne,ha⟩:=hg d lo hi Q1 S h1 hn hd;refine⟨S',l,?_,hp,hne,ha⟩;simp[Wk,e]
 |d::d'::ds,keys,lo,hi,Q,S,hl,hs,hn,hd=>by
  cases keys with
  |nil=>simp at hl
  |cons k ks=>
   rw[xC] at hs;obtain⟨Q1,Q2,rfl,h1,h2⟩:=hs;rw[List.nodup_append] at hn;obtain⟨S1,l1,e1,hp1,hne1,ha1⟩:=hg d lo k Q1 S h1 hn.1 (fun n hn'=>hd n (List.mem_append_left _ hn'))
   obtain⟨S2,l2,e2,hp2,hne2,ha2⟩:=q5j hg (d'::ds) ks k hi Q2 S1 (by simpa using hl) h2 hn.2.1 (fun n hn' hm=>by
    rcases List.mem_append.1 (hp1.mem_iff.1 hm) with hm|hm
    ·exact hn.2.2 n hm n hn' rfl
    ·exact hd n (List.mem_append_right _ hn') hm)
   refine⟨S2,l1++l2,?_,?_,by simp[hne1],fun x hx=>?_⟩
   ·show(match g d lo k S with|none=>none|some (S1,l1)=>match Wk g (d'::ds) ks k hi S1 with|none=>none|some (S2,l2)=>some (S2,l1++l2))=_
    rw[e1];simp only;rw[e2]
   ·refine hp2.trans ((hp1.append_left Q2).trans ?_);rw[List.append_assoc];exact List.perm_append_comm_assoc _ _ _
   ·rcases List.mem_append.1 hx with hx|hx
    ·exact ha1 x hx
    ·exact ha2 x hx

theorem qsi{ns:List Nd}:∀(h f:Nat) (n lo hi:Int) (P:List Int) (S:St),Sub 6 4 ns h n lo hi P->h<f->P.Nodup->(∀m∈P,m∉S.map (·.1))->qer S (13-(f:Int)+h) P (W ns f n lo hi S):=by
 intro h
 induction h with
 |zero=>
  intro f n lo hi P S hs hf hn hd;obtain⟨⟨h0,h1,hlt⟩,rfl,hl⟩:=hs;obtain⟨f,rfl⟩:∃g,f=g+1:=⟨f-1,by omega⟩
  have hseen:fV S n=false:=by
   have:=hd n (by simp)
   cases hb:fV S n with
   |false=>rfl
   |true=>exact absurd (seenB_iff.1 hb) this
  have hlB:jC (nth ns n) lo hi f=true:=leafB_iff.2 ⟨hl.keys,hl.kids,hl.buf,hl.most,.inr hl.ne,hl.ents⟩;refine⟨(n,12-(f:Int))::S,[12-(f:Int)],?_,by simp,by simp,by simp;omega⟩
  rw[uU,if_neg (by simp[hseen];omega)]
  show(if (nth ns n).leaf=true then _ else _)=_
  rw[if_pos hl.leaf];show(if jC (nth ns n) lo hi f=true then _ else _)=_
  rw[if_pos hlB]
 |succ h ih=>
  intro f n lo hi P S hs hf hn hd;obtain⟨⟨h0,h1,hlt⟩,Q,rfl,hl⟩:=hs;obtain⟨f,rfl⟩:∃g,f=g+1:=⟨f-1,by omega⟩
  have hseen:fV S n=false:=by
   have:=hd n (by simp)
   cases hb:fV S n with
   |false=>rfl
   |true=>exact absurd (seenB_iff.1 hb) this
  have hiB:jA (nth ns n) lo hi=true:=by
   simp only[jA,Bool.and_eq_true,decide_eq_true_eq,beq_iff_eq,List.isEmpty_iff];exact⟨⟨⟨⟨⟨hl.ents,hl.two⟩,hl.most⟩,hl.keys⟩,hl.few⟩,hl.buf⟩
  rw[List.nodup_cons] at hn
  obtain⟨S',l,e,hp,hne,ha⟩:=q5j (dp:=13-(f:Int)+h) (fun d lo hi P S a b c=>ih f d lo hi P S a (by omega) b c) (nth ns n).kids (nth ns n).keys lo hi Q ((n,12-(f:Int))::S) hl.keys hl.kids hn.2 (fun m hm hm'=>by
   rw[List.map_cons,List.mem_cons] at hm';rcases hm' with rfl|hm'
   ·exact hn.1 hm
   ·exact hd m (List.mem_cons_of_mem _ hm) hm')
  refine⟨S',l,?_,hp.trans ?_,hne,fun x hx=>by rw[ha x hx];push_cast;omega⟩
  ·rw[uU,if_neg (by simp[hseen];omega)]
   show(if (nth ns n).leaf=true then _ else if jA (nth ns n) lo hi=true then _ else _)=_
   rw[if_neg (by simp[hl.leaf]),if_pos hiB]
   exact e
  ·rw[List.map_cons];exact List.perm_middle

theorem zM{Q:List Int}{N:Nat}(h:Q.Perm (aT 0 N)):Q.length=N:=by rw[h.length_eq,lQ]

theorem q7n{ns:List Nd}{h:Nat}{root:Int}{Q:List Int}(hs:Sub 6 4 ns h root 0 1099511627776 Q)(hp:Q.Perm (aT 0 ns.length))(hz:ns.length<=2000):aV ns root=0:=by
 have hl:=zM hp;have h1:=q4q h _ _ _ _ hs
 have hh:h<12:=by
  apply Classical.byContradiction;intro e;have:2 ^ 13<=2 ^ (h+1):=Nat.pow_le_pow_right (by decide) (by omega)
  omega
 obtain⟨S',l,e,hpm,hne,ha⟩:=qsi h 12 root 0 1099511627776 Q [] hs hh (hp.nodup_iff.2 (lS _ _)) (by simp)
 unfold aV;rw[if_neg (by omega),e]
 simp only;rw[if_pos];refine⟨?_,?_⟩
 ·unfold okL;rw[if_pos rfl,List.all_eq_true];intro x hx;rw[beq_iff_eq,ha x hx];cases l with
  |nil=>exact absurd rfl hne
  |cons y r=>exact(ha y (by simp)).symm
 ·have:=hpm.length_eq;simp at this;omega

theorem aA{p:Prop}(h:p):Hid p:=h
theorem qln{a b:Int}{c d:Bool}(h:a=b)(h':c=d):Ending.returned (.tuple #[.int .i64 a,.bool c])=.returned (.tuple #[.int .i64 b,.bool d]):=by rw[h,h']

def cmpI(x y:Int):Int:=if x<y then -1 else if y<x then 1 else 0

theorem q1f(x:Int)(w:World):Calls Tryz.prog 74 #[.int .i64 x] w fun e w'=>e=.returned (.bool false)/\w'=w:=by
 go_enter Tryz.func74,Tryz.ntmps74
 go_wp2;go_ret;exact⟨rfl,rfl⟩

set_option maxHeartbeats 400000 in
theorem qad(x y:Int)(w:World):Calls Tryz.prog 113 #[.int .i64 x,.int .i64 y] w fun e w'=>e=.returned (.int .i64 (cmpI x y))/\w'=w:=by
 rcases Int.lt_trichotomy x y with h|h|h
 ·have e:cmpI x y=-1:=by simp[cmpI,h]
  have E:Hid (cmpI x y=-1):=e;clear e
  go_enter Tryz.func113,Tryz.ntmps113
  go_wp2_with (go_at_call 74;refine(q1f _ _).mono ?_;rintro e w' ⟨rfl,rfl⟩);go_ret;exact⟨iL E.out.symm,rfl⟩
 ·subst h;have E:Hid (cmpI x x=0):=by show _=_;simp[cmpI]
  have h1:¬x<x:=by omega
  go_enter Tryz.func113,Tryz.ntmps113
  go_wp2_with (go_at_call 74;refine(q1f _ _).mono ?_;rintro e w' ⟨rfl,rfl⟩);go_ret;exact⟨iL E.out.symm,rfl⟩
 ·have h1:¬x<y:=by omega
  have E:Hid (cmpI x y=1):=by show _=_;simp[cmpI,h,h1]
  go_enter Tryz.func113,Tryz.ntmps113
  go_wp2_with (go_at_call 74;refine(q1f _ _).mono ?_;rintro e w' ⟨rfl,rfl⟩);go_ret;exact⟨iL E.out.symm,rfl⟩

set_option maxHeartbeats 400000 in
theorem q7y(x:En)(k:Int)(w:World):Calls Tryz.prog 180 #[.agg #[.int .i64 x.key,.int .i64 x.c,.int .i64 x.s,.int .i64 x.lo,.int .i64 x.hi,.int .i64 x.t,.int .i64 x.l],.int .i64 k] w
  fun e w'=>e=.returned (.int .i64 (cmpI x.key k))/\Below w.heap.size w w':=by
 have hcon:=fun W'=>qad x.key k W'
 generalize cmpI x.key k=r at hcon ⊢
 go_enter Tryz.func180,Tryz.ntmps180
 go_wp2_with (go_at_call 113;refine(hcon _).mono ?_;rintro e w' ⟨rfl,rfl⟩);go_ret;exact⟨rfl,(Below.refl _ _).alloc (Nat.le_refl _) _⟩

def hasK(l:List En)(k:Int):Bool:=l.any fun x=>x.key==k

theorem jZ{hi:Int}:∀{l:List En} {lo:Int},aK l lo hi=true->(∀x∈l,lo<=x.key/\x.key<hi)/\l.Pairwise (fun x y=>x.key<y.key)
 |[],_,_=>⟨by simp,List.Pairwise.nil⟩
 |x::r,lo,h=>by
  simp only[aK,Bool.and_eq_true] at h;have h1:=h.1;simp only[entB,Bool.and_eq_true,decide_eq_true_eq] at h1;obtain⟨a,b⟩:=jZ h.2;refine⟨fun y hy=>?_,List.pairwise_cons.2 ⟨fun y hy=>?_,b⟩⟩
  ·rcases List.mem_cons.1 hy with rfl|hy
   ·exact⟨h1.1.1.1,h1.1.1.2⟩
   ·have:=a y hy;omega
  ·have:=a y hy;omega

theorem qgi{l:List En}{k:Int}{i:Nat}(hi:i<=l.length)(h1:∀j (h:j<l.length),j<i->l[j].key<k)(h2:∀j (h:j<l.length),i<=j->k<=l[j].key):lowN l k=i:=by
 induction l generalizing i with
 |nil=>simp at hi;subst hi;rfl
 |cons x r ih=>
  cases i with
  |zero=>
   have:=h2 0 (by simp) (Nat.le_refl _)
   simp at this;simp[lowN,show ¬x.key<k by omega]
  |succ i=>
   have hx:=h1 0 (by simp) (by omega)
   simp at hx;have e:lowN (x::r) k=lowN r k+1:=by simp[lowN,hx]
   rw[e,ih (i:=i) (by simpa using hi) (fun j hj hji=>by
    have:=h1 (j+1) (by simpa using hj) (by omega)
    simpa using this) (fun j hj hij=>by
    have:=h2 (j+1) (by simpa using hj) (by omega)
    simpa using this)]

theorem qp4{l:List En}{k:Int}(hp:l.Pairwise (fun x y=>x.key<y.key)){i:Nat}(h1:∀j (h:j<l.length),j<i->l[j].key<k):hasK l k=(if h:i<l.length then decide (l[i].key=k) else false)\/¬(∀j (h:j<l.length),i<=j->k<=l[j].key):=by
 by_cases h2:∀j (h:j<l.length),i<=j->k<=l[j].key
 ·left;rw[Bool.eq_iff_iff];unfold hasK;rw[List.any_eq_true];constructor
  ·rintro⟨x,hx,hk⟩;obtain⟨j,hj,rfl⟩:=List.getElem_of_mem hx;have hk':l[j].key=k:=by simpa using hk
   by_cases hji:j<i
   ·have:=h1 j hj hji;omega
   ·by_cases hij:i=j
    ·subst hij;simp[hj,hk']
    ·have hi:i<l.length:=by omega
     have a:=h2 i hi (Nat.le_refl _);have b:=List.pairwise_iff_getElem.1 hp i j hi hj (by omega)
     omega
  ·intro h
   split at h
   ·rename_i hi
    exact⟨l[i],List.getElem_mem hi,by simpa using h⟩
   ·cases h
 ·right;exact h2

set_option maxRecDepth 20000 in
set_option maxHeartbeats 1000000 in
theorem qdp(A:Option Addr)(C:Nat)(xs:List En)(k:Int)(w:World)(h:aH w.heap.size w A (aB xs))(hz:xs.length*56<=140737488351232)(hp:xs.Pairwise (fun x y=>x.key<y.key)):
  Calls Tryz.prog 179 #[.slice A xs.length C,.int .i64 k,.func (.func 180) #[] #[]] w
   fun e w'=>e=.returned (.tuple #[.int .i64 (lowN xs k:Int),.bool (hasK xs k)])/\Below w.heap.size w w':=by
 go_enter Tryz.func179,Tryz.ntmps179
 go_wp2_with fail
 go_loopw [9,10] (fun vi vj wr=>∃i j:Nat,i<=j/\j<=xs.length/\vi=.int .i64 i/\vj=.int .i64 j/\Hid ((∀a (h:a<xs.length),a<i->xs[a].key<k)/\(∀a (h:a<xs.length),j<=a->k<=xs[a].key))/\Below w.heap.size w wr) (fun vi vj _=>(intOf vj).toNat-(intOf vi).toNat)
 case atStart=>exact⟨0,xs.length,Nat.zero_le _,Nat.le_refl _,rfl,rfl,⟨fun a _ h=>by omega,fun a h1 h2=>by omega⟩,Below.refl _ _⟩
 case round=>
  obtain⟨i,j,hij,hjn,rfl,rfl,hI,hb⟩:=hrel
  by_cases hlt:i<j
  ·obtain⟨m,hm⟩:∃m:Nat,m=(i+j)/2:=⟨_,rfl⟩;have hmj:m<j:=by omega
   have hmi:i<=m:=by omega
   have hm2:((i:Int)+(j:Int))/2=(m:Int):=by omega
   have HM:Hid (m=(i+j)/2):=hm;clear hm;obtain⟨b,o,rfl,hbl,hat⟩:=(h.below hb (Nat.le_refl _)).en (show m<xs.length by omega)
   have hbw:b<wr.heap.size:=Nat.lt_of_lt_of_le hbl hb.size;obtain⟨x,hx⟩:∃x,xs[m]'(by omega)=x:=⟨_,rfl⟩
   rw[hx] at hat;obtain⟨c0,c1,c2,c3,c4,c5,c6⟩:=hat;have hcon:=fun W=>q7y x k W
   have HX:Hid (xs[m]'(by omega)=x):=hx
   clear hx
   by_cases hk:x.key<k
   ·have hr:cmpI x.key k<0:=by unfold cmpI;rw[if_pos hk];decide
    generalize cmpI x.key k=r at hcon hr;have HC:Hid _:=hcon;clear hcon;go_wp2_with (go_at_call 180;refine(HC.out _).mono ?_;rintro e w1 ⟨rfl,hb1⟩);go_roundw
    case rel=>
     refine⟨m+1,j,by omega,hjn,by go_num,rfl,⟨fun a ha hai=>?_,hI.out.2⟩,up hb hb1⟩
     have hxm:=HX.out
     by_cases e:a=m
     ·subst e;rw[hxm];exact hk
     ·have:=List.pairwise_iff_getElem.1 hp a m ha (by omega) (by omega)
      rw[hxm] at this;omega
    case measure=>simp[intOf];omega
   ·have hr:¬cmpI x.key k<0:=by unfold cmpI;rw[if_neg hk];split<;>decide
    generalize cmpI x.key k=r at hcon hr;have HC:Hid _:=hcon;clear hcon;go_wp2_with (go_at_call 180;refine(HC.out _).mono ?_;rintro e w1 ⟨rfl,hb1⟩);go_roundw
    case rel=>
     refine⟨i,m,by omega,by omega,rfl,by go_num,⟨hI.out.1,fun a ha hai=>?_⟩,up hb hb1⟩
     have hxm:=HX.out
     by_cases e:a=m
     ·subst e;rw[hxm];omega
     ·have:=List.pairwise_iff_getElem.1 hp m a (by omega) ha (by omega)
      rw[hxm] at this;omega
    case measure=>simp[intOf];omega
  ·obtain rfl:i=j:=by omega
   have E1:Hid (lowN xs k=i):=qgi hjn hI.out.1 hI.out.2
   have E2:Hid (hasK xs k=(if h:i<xs.length then decide (xs[i].key=k) else false)):=by
    rcases qp4 hp hI.out.1 with e|e
    ·exact e
    ·exact absurd hI.out.2 e
   by_cases hin:i<xs.length
   ·obtain⟨b,o,rfl,hbl,hat⟩:=(h.below hb (Nat.le_refl _)).en hin;have hbw:b<wr.heap.size:=Nat.lt_of_lt_of_le hbl hb.size;obtain⟨x,hx⟩:∃x,xs[i]=x:=⟨_,rfl⟩;rw[hx] at hat;obtain⟨c0,c1,c2,c3,c4,c5,c6⟩:=hat;have hcon:=fun W=>q7y x k W
    have E3:Hid (hasK xs k=decide (x.key=k)):=by
     show _=_;rw[E2.out,dif_pos hin,hx]
    clear hx E2
    have hr:(cmpI x.key k==0)=decide (x.key=k):=by
     rw[Bool.eq_iff_iff,decide_eq_true_eq,beq_iff_eq];unfold cmpI
     split
     ·omega
     ·split<;>omega
    generalize cmpI x.key k=r at hcon hr;generalize decide (x.key=k)=q at hr E3;have HC:Hid _:=hcon;clear hcon;go_wp2_with (go_at_call 180;refine(HC.out _).mono ?_;rintro e w1 ⟨rfl,hb1⟩)
    go_ret2
    exact⟨qln (by rw[E1.out]) E3.out.symm,up hb hb1⟩
   ·have hin':¬((i:Int)<(xs.length:Int)):=by omega
    go_wp2_with fail
    go_ret2
    exact⟨qln (by rw[E1.out]) (by rw[E2.out,dif_neg hin]),hb⟩

set_option maxHeartbeats 400000 in
theorem xI(A:Option Addr)(C:Nat)(xs:List En)(k:Int)(w:World)(h:aH w.heap.size w A (aB xs))(hz:xs.length*56<=140737488351232)(hp:xs.Pairwise (fun x y=>x.key<y.key)):
  Calls Tryz.prog 166 #[.slice A xs.length C,.int .i64 k] w fun e w'=>e=.returned (.tuple #[.int .i64 (lowN xs k:Int),.bool (hasK xs k)])/\Below w.heap.size w w':=by
 have hcon:=qdp A C xs k w h hz hp;generalize lowN xs k=r at hcon ⊢;generalize hasK xs k=q at hcon ⊢;have HC:=aA hcon;clear hcon
 go_enter Tryz.func166,Tryz.ntmps166
 go_wp2_with (go_at_call 179;refine HC.out.mono ?_;rintro e w1 ⟨rfl,hb1⟩)
 go_ret2
 exact⟨rfl,hb1⟩

theorem aH.cutI{B:Nat}{w:World}{b o a n:Nat}{zs:List Int}(h:aH B w (some ⟨b,o,none⟩) (ints zs)):aH B w (some ⟨b,o+a,none⟩) (ints ((zs.drop a).take n)):=by
 rcases h with h|⟨b',o',hA,hlt,hc⟩
 ·left;simp[ints] at h ⊢;subst h;simp
 ·cases hA;refine .inr ⟨b,o+a,rfl,hlt,fun j u hu=>?_⟩
  have hj:(ints zs)[a+j]? =some u:=by
   have h1:((ints zs).drop a)[j]? =some u:=by
    have e:ints ((zs.drop a).take n)=((ints zs).drop a).take n:=by simp[ints]
    rw[e,List.getElem?_take] at hu
    split at hu
    ·exact hu
    ·cases hu
   rwa [List.getElem?_drop] at h1
  have:=hc (a+j) u hj
  rwa [<-Nat.add_assoc] at this

theorem zV:∀(xs:List En) (a:Nat),aB (xs.drop a)=(aB xs).drop (a*7)
 |[],a=>by simp[aB]
 |x::r,0=>by simp
 |x::r,a+1=>by
  rw[List.drop_succ_cons,zV r a,aB,show(a+1)*7=7+a*7 by omega,<-List.drop_drop]
  rfl
theorem wF:∀(xs:List En) (a:Nat),aB (xs.take a)=(aB xs).take (a*7)
 |[],a=>by simp[aB]
 |x::r,0=>by simp[aB]
 |x::r,a+1=>by
  rw[List.take_succ_cons,aB,wF r a,aB,show(a+1)*7=x.vals.length+a*7 by simp[En.vals];omega,List.take_length_add_append]

theorem aH.cutE{B:Nat}{w:World}{b o a n:Nat}{xs:List En}(h:aH B w (some ⟨b,o,none⟩) (aB xs)):aH B w (some ⟨b,o+a*7,none⟩) (aB ((xs.drop a).take n)):=by
 rcases h with h|⟨b',o',hA,hlt,hc⟩
 ·left
  have:xs=[]:=by
   have hl:=gY xs;rw[h] at hl;exact List.eq_nil_of_length_eq_zero (by simp at hl;omega)
  subst this;simp[aB]
 ·cases hA;refine .inr ⟨b,o+a*7,rfl,hlt,fun j u hu=>?_⟩
  have hj:(aB xs)[a*7+j]? =some u:=by
   rw[wF,List.getElem?_take,zV] at hu
   split at hu
   ·rwa [List.getElem?_drop] at hu
   ·cases hu
  have:=hc (a*7+j) u hj
  rwa [<-Nat.add_assoc] at this

theorem aH.cutIf{B:Nat}{w:World}{b o a n C:Nat}{xs:List En}(h:aH B w (some ⟨b,o,none⟩) (aB xs))(hC:xs.length<=C):aH B w (if C=a then some ⟨b,o,none⟩ else some ⟨b,o+a*7,none⟩) (aB ((xs.drop a).take n)):=by
 split
 ·left;rw[List.drop_eq_nil_of_le (by omega)]
  simp[aB]
 ·exact h.cutE

theorem aH.some_of{B:Nat}{w:World}{A:Option Addr}{vs:List Value}(h:aH B w A vs)(hne:vs≠[]):∃b o,A=some ⟨b,o,none⟩/\b<B:=by
 rcases h with h|⟨b,o,hA,hlt,_⟩
 ·exact absurd h hne
 ·exact⟨b,o,hA,hlt⟩

theorem q4r(A:Option Addr)(C n:Nat)(xs:List En)(hn:xs.length=n)(w:World)(h:aH w.heap.size w A (aB xs))(hA:A=none->C=0)(hz:n*56<=140737488351232):
  Calls Tryz.prog 137 #[.slice A n C] w fun e w'=>∃v,e=.returned v/\w'.ownsRow w.heap.size 132 7 v n (aB xs)/\Below w.heap.size w w':=by
 subst hn;exact wG A C xs w h hA hz

theorem xE(A:Option Addr)(C n:Nat)(zs:List Int)(hn:zs.length=n)(w:World)(h:aH w.heap.size w A (ints zs))(hA:A=none->C=0)(hz:n*8<=140737488351232):
  Calls Tryz.prog 138 #[.slice A n C] w fun e w'=>∃v,e=.returned v/\w'.ownsRow w.heap.size 3 1 v n (ints zs)/\Below w.heap.size w w':=by
 subst hn;exact zU A C zs w h hA hz

theorem rJ{α:Type}{w:World}{base n size C:Nat}{e:TypeId}{A:Option Addr}{xs:List α}{vs:List Value}(h:xs.length=n)(ho:w.ownsRow base e size (.slice A n C) n vs):w.ownsRow base e size (.slice A xs.length C) xs.length vs:=by rw[h];exact ho

theorem lX(w:World)(o1 o2:Obj):Below w.heap.size w ((w.alloc o1).alloc o2):=((Below.refl _ _).alloc (Nat.le_refl _) _).alloc (by simp) _

theorem nC(w:World)(r o:Nat)(v0 v1 v2 v3 v4:Value){k:Nat}(hk:k≠r):
  (((((w.setCell ⟨r,o,none⟩ v0).setCell ⟨r,o+1,none⟩ v1).setCell ⟨r,o+2,none⟩ v2).setCell ⟨r,o+3,none⟩ v3).setCell ⟨r,o+4,none⟩ v4).heap[k]? =w.heap[k]? :=by
 simp only[Below.heap_setCell _ _ _ _ (show k≠(⟨r,_,none⟩:Addr).block from hk)]

theorem zX{B:Nat}{a w:World}(h:Below B a w){r:Nat}(hr:B<=r)(o:Nat)(v0 v1 v2 v3 v4:Value):
  Below B a (((((w.setCell ⟨r,o,none⟩ v0).setCell ⟨r,o+1,none⟩ v1).setCell ⟨r,o+2,none⟩ v2).setCell ⟨r,o+3,none⟩ v3).setCell ⟨r,o+4,none⟩ v4):=
 ((((h.setCell hr _).setCell hr _).setCell hr _).setCell hr _).setCell hr _

set_option maxHeartbeats 1000000 in
theorem qen(eA:Option Addr)(eC:Nat)(ents:List En)(kA:Option Addr)(kC:Nat)(keys:List Int)(dA:Option Addr)(dC:Nat)(kids:List Int)(bA:Option Addr)(bC:Nat)(buf:List En)(a b:Nat)(w:World)
  (he:aH w.heap.size w eA (aB ents)) (hec:ents.length<=eC) (ez:ents.length*56<=140737488351232) (hab:a<b) (hbl:b<=ents.length):
  Calls Tryz.prog 173 #[.agg #[.bool true,.slice eA ents.length eC,.slice kA keys.length kC,.slice dA kids.length dC,.slice bA buf.length bC],.int .i64 (a:Int),.int .i64 (b:Int)] w
   fun e w'=>∃A1 C1,e=.returned (.agg #[.bool true,.slice A1 (b-a) C1,.slice none 0 0,.slice none 0 0,.slice none 0 0])/\w'.ownsRow w.heap.size 132 7 (.slice A1 (b-a) C1) (b-a) (aB ((ents.drop a).take (b-a)))/\Below w.heap.size w w':=by
 obtain⟨eb,eo,rfl,hlt⟩:=he.some_of (by
  intro e;have:=gY ents;rw[e] at this;simp at this;omega)
 have HL:Hid (((ents.drop a).take (b-a)).length=b-a):=by show _=_;simp;omega
 go_enter Tryz.func173,Tryz.ntmps173
 go_wp2_with (go_at_call 137;refine(q4r _ _ _ ((ents.drop a).take (b-a)) HL.out _ ((he.cutE.below (lX _ _ _) (Nat.le_refl _)).mono (by simp;omega)) (fun h=>by cases h) (by omega)).mono ?_;rintro e w1 ⟨v1,rfl,o1,hb1⟩;obtain⟨A1,C1,rfl,-⟩:=aN o1;obtain⟨hc1,hf1⟩:=aZ hb1;have hz1:w.heap.size+1<w1.heap.size:=by have:=hb1.size;simp at this;omega)
 refine bodyPost_ret (v:=.agg #[.bool true,.slice A1 (b-a) C1,.slice none 0 0,.slice none 0 0,.slice none 0 0]) (by simp[results,Tryz.results173,go_sem,hc1]) rfl ⟨A1,C1,rfl,?_,?_⟩
 ·refine aW (bP o1 (by simp;omega)) fun k hk=>?_
  have:=(o1.lt k hk).1;simp only[World.size_alloc] at this;exact nC w1 (w.heap.size+1) 0 _ _ _ _ _ (by omega)
 ·exact zX ((lX w _ _).trans (hb1.mono (by simp;omega))) (by omega) 0 _ _ _ _ _

set_option maxRecDepth 20000 in
set_option maxHeartbeats 1000000 in
theorem xO(leaf:Bool)(eA:Option Addr)(eC:Nat)(ents:List En)(kA:Option Addr)(kC:Nat)(keys:List Int)(dA:Option Addr)(dC:Nat)(kids:List Int)(bA:Option Addr)(bC:Nat)(buf:List En)(kid:Nat)(w:World)
  (hk:aH w.heap.size w kA (ints keys)) (hb:aH w.heap.size w bA (aB buf)) (kz:keys.length*8<=140737488351232) (bz:buf.length*56<=140737488351232) (hkl:keys.length+1=kids.length) (hkid:kid<=kids.length) (hp:buf.Pairwise (fun x y=>x.key<y.key)) (r:Nat) (hr:Hid (bU ⟨leaf,ents,keys,kids,buf⟩ kid=r)):
  Calls Tryz.prog 186 #[.agg #[.bool leaf,.slice eA ents.length eC,.slice kA keys.length kC,.slice dA kids.length dC,.slice bA buf.length bC],.int .i64 (kid:Int)] w
   fun e w'=>e=.returned (.int .i64 (r:Int))/\Below w.heap.size w w':=by
 by_cases h0:kid=0
 ·subst h0;have E:Hid (r=0):=by show _=_;rw[<-hr.out];simp[bU]
  clear hr
  go_enter Tryz.func186,Tryz.ntmps186
  go_wp2_with fail;go_ret;exact⟨iL (by rw[E.out];rfl),(Below.refl _ _).alloc (Nat.le_refl _) _⟩
 ·have h0':((kid:Int)==0)=false:=by simp;omega
  by_cases h1:kid=kids.length
  ·have E:Hid (r=buf.length):=by
    show _=_;rw[<-hr.out];unfold bU;rw[if_neg h0,if_pos h1]
   subst h1;clear hr
   go_enter Tryz.func186,Tryz.ntmps186
   go_wp2_with fail;go_ret;exact⟨iL (by rw[E.out]),(Below.refl _ _).alloc (Nat.le_refl _) _⟩
  ·have h1':((kid:Int)==(kids.length:Int))=false:=by simp;omega
   obtain⟨j,rfl⟩:∃j,kid=j+1:=⟨kid-1,by omega⟩
   have hj:j<keys.length:=by omega
   obtain⟨kb,ko,rfl,hkb,hkc⟩:=hk.int hj
   have E:Hid (lowN buf keys[j]=r):=by
    show _=_;rw[<-hr.out];unfold bU;rw[if_neg h0,if_neg h1];simp[hj]
   have HK:Hid (keys.length+1=kids.length):=hkl;clear hr h0 h1 hkl;generalize keys[j]=kk at *;have i0:(0:Int)<=(j:Int):=by omega
   have i1:(j:Int)<(keys.length:Int):=by omega
   obtain⟨kd,hkd⟩:∃kd:Int,((j+1:Nat):Int)=kd:=⟨_,rfl⟩;have wj:IntKind.i64.wrap (kd-1)=(j:Int):=by rw[IntKind.wrap_i64];omega
   rw[hkd] at h0' h1' ⊢;clear hkd;have hkb1:kb<w.heap.size+1:=by omega
   go_enter Tryz.func186,Tryz.ntmps186
   go_wp2_with fail
   go_region_held3 (fun w'=>w'.cell? ⟨w.heap.size,2,none⟩=some (.slice (some ⟨kb,ko,none⟩) keys.length kC)/\w'.cell? ⟨w.heap.size,4,none⟩=some (.slice bA buf.length bC)/\w'.cell? ⟨kb,ko+j,none⟩=some (.int .i64 kk)) (go_keep)
    (first|(go_at_call 166;refine(xI _ _ _ _ _ (hb.go (((Below.refl _ _).alloc (Nat.le_refl _) _).drew) (Nat.le_refl _) (Nat.le_refl _)) bz hp).mono ?_;rintro e w1 ⟨rfl,hb1⟩;have T1:=(aZ (hb1.mono (show w.heap.size+1<=_ by simp))).1))
   go_wp2;go_ret;exact⟨iL (by rw[E.out]),((Below.refl _ _).alloc (Nat.le_refl _) _).drew.trans (hb1.mono (by simp))⟩

set_option maxHeartbeats 1000000 in
theorem q0z(leaf:Bool)(eA:Option Addr)(eC:Nat)(ents:List En)(kA:Option Addr)(kC:Nat)(keys:List Int)(dA:Option Addr)(dC:Nat)(kids:List Int)(bA:Option Addr)(bC:Nat)(buf:List En)(a:Nat)(w:World)
  (he:aH w.heap.size w eA (aB ents)) (hk:aH w.heap.size w kA (ints keys)) (h1:leaf=true->a<ents.length) (h2:leaf=false->0<a/\a<=keys.length) (kz:keys.length*8<=140737488351232):
  Calls Tryz.prog 174 #[.agg #[.bool leaf,.slice eA ents.length eC,.slice kA keys.length kC,.slice dA kids.length dC,.slice bA buf.length bC],.int .i64 (a:Int)] w
   fun e w'=>e=.returned (.int .i64 (iO ⟨leaf,ents,keys,kids,buf⟩ a))/\Below w.heap.size w w':=by
 cases leaf with
 |true=>
  have hl:=h1 rfl;obtain⟨b,o,rfl,hbl,hat⟩:=he.en hl;have E:Hid (iO ⟨true,ents,keys,kids,buf⟩ a=ents[a].key):=by show _=_;simp[iO,hl]
  have c0:=hat.c0;clear hat h2;generalize ents[a]=x at *
  go_enter Tryz.func174,Tryz.ntmps174
  go_wp2;go_ret;exact⟨iL E.out.symm,(Below.refl _ _).alloc (Nat.le_refl _) _⟩
 |false=>
  obtain⟨ha,hl⟩:=h2 rfl;obtain⟨j,rfl⟩:∃j,a=j+1:=⟨a-1,by omega⟩
  have hj:j<keys.length:=by omega
  obtain⟨b,o,rfl,hbl,hc⟩:=hk.int hj;have E:Hid (iO ⟨false,ents,keys,kids,buf⟩ (j+1)=keys[j]):=by show _=_;simp[iO,hj]
  have i1:(j:Int)<(keys.length:Int):=by omega
  obtain⟨kd,hkd⟩:∃kd:Int,((j+1:Nat):Int)=kd:=⟨_,rfl⟩;have wj:kd-1=(j:Int):=by omega
  rw[hkd];have hk1:1<=kd:=by omega
  have hk2:kd<=1099511627776000:=by omega
  clear hkd h1 h2 ha hl;generalize keys[j]=x at *
  go_enter Tryz.func174,Tryz.ntmps174
  go_wp2;go_ret;exact⟨iL E.out.symm,(Below.refl _ _).alloc (Nat.le_refl _) _⟩

set_option maxRecDepth 20000 in
set_option maxHeartbeats 4000000 in
theorem q2g(eA:Option Addr)(eC:Nat)(ents:List En)(kb ko:Nat)(kC:Nat)(keys:List Int)(db dO:Nat)(dC:Nat)(kids:List Int)(fb fo:Nat)(bC:Nat)(buf:List En)(a b c r1 r2:Nat)(w:World)
  (hk:aH w.heap.size w (some ⟨kb,ko,none⟩) (ints keys)) (hd:aH w.heap.size w (some ⟨db,dO,none⟩) (ints kids)) (hf:aH w.heap.size w (some ⟨fb,fo,none⟩) (aB buf))
  (hkc:keys.length<=kC) (hdc:kids.length<=dC) (hfc:buf.length<=bC) (kz:keys.length*8<=140737488351232) (dz:kids.length*8<=140737488351232) (bz:buf.length*56<=140737488351232)
  (hkl:Hid (keys.length+1=kids.length)) (hbc:Hid (b=c+1)) (hac:a<c) (hck:c<=keys.length) (hbk:b<=kids.length) (hp:List.Pairwise (fun x y:En=>x.key<y.key) buf)
  (hr1:Hid (bU ⟨false,ents,keys,kids,buf⟩ a=r1)) (hr2:Hid (bU ⟨false,ents,keys,kids,buf⟩ b=r2)) (h12:r1<=r2) (h2f:r2<=buf.length):
  Calls Tryz.prog 173 #[.agg #[.bool false,.slice eA ents.length eC,.slice (some ⟨kb,ko,none⟩) keys.length kC,.slice (some ⟨db,dO,none⟩) kids.length dC,.slice (some ⟨fb,fo,none⟩) buf.length bC],.int .i64 (a:Int),.int .i64 (b:Int)] w
   fun e w'=>∃A1 C1 A2 C2 A3 C3,e=.returned (.agg #[.bool false,.slice none 0 0,.slice A1 (c-a) C1,.slice A2 (b-a) C2,.slice A3 (r2-r1) C3])/\
    PN.own w.heap.size w' ⟨false,none,0,[],A1,C1,(keys.drop a).take (c-a),A2,C2,(kids.drop a).take (b-a),A3,C3,(buf.drop r1).take (r2-r1)⟩/\(PN.mk false none 0 [] A1 C1 ((keys.drop a).take (c-a)) A2 C2 ((kids.drop a).take (b-a)) A3 C3 ((buf.drop r1).take (r2-r1))).blocks.Nodup/\Below w.heap.size w w':=by
 have hab:a<=b:=by have:=hbc.out;omega
 have wb:IntKind.i64.wrap ((b:Int)-1)=(c:Int):=by have:=hbc.out;rw[IntKind.wrap_i64];omega
 have i1:(a:Int)<=(c:Int):=by omega
 have i2:(c:Int)<=(kC:Int):=by omega
 have i3:(a:Int)<=(b:Int):=by omega
 have i4:(b:Int)<=(dC:Int):=by omega
 have i5:(r1:Int)<=(r2:Int):=by omega
 have i6:(r2:Int)<=(bC:Int):=by omega
 have i7:(0:Int)<=(a:Int):=by omega
 have i8:(0:Int)<=(r1:Int):=by omega
 have n1:¬kC=a:=by omega
 have n2:¬dC=a:=by have:=hbc.out;omega
 obtain⟨A',hA'⟩:∃A',(if bC=r1 then some (⟨fb,fo,none⟩:Addr) else some ⟨fb,fo+r1*7,none⟩)=A':=⟨_,rfl⟩
 have HA:Hid (∀n,aH w.heap.size w A' (aB ((buf.drop r1).take n))):=fun n=>hA'▸hf.cutIf hfc
 have HN:Hid (A'≠none):=by rw[<-hA'];intro h;split at h<;>cases h
 have l1:Hid (((keys.drop a).take (c-a)).length=c-a):=by show _=_;simp;omega
 have l2:Hid (((kids.drop a).take (b-a)).length=b-a):=by show _=_;simp;omega
 have l3:Hid (((buf.drop r1).take (r2-r1)).length=r2-r1):=by show _=_;simp;omega
 have hda:b-a<=kids.length:=by omega
 have hca:c-a<=keys.length:=by omega
 have hba:r2-r1<=buf.length:=by omega
 go_enter Tryz.func173,Tryz.ntmps173
 go_wp2_with fail
 go_region_held3 (fun w'=>w'.cell? ⟨w.heap.size,0,none⟩=some (.bool false)/\w'.cell? ⟨w.heap.size,1,none⟩=some (.slice eA ents.length eC)/\w'.cell? ⟨w.heap.size,2,none⟩=some (.slice (some ⟨kb,ko,none⟩) keys.length kC)/\w'.cell? ⟨w.heap.size,3,none⟩=some (.slice (some ⟨db,dO,none⟩) kids.length dC)/\w'.cell? ⟨w.heap.size,4,none⟩=some (.slice (some ⟨fb,fo,none⟩) buf.length bC)) (go_keep)
  (first
   |(go_at_call_of 138 (kC-a);refine(xE _ _ _ ((keys.drop a).take (c-a)) l1.out _ (hk.cutI.go ((lX _ _ _).drew) (Nat.le_refl _) (Nat.le_refl _)) (fun h=>by cases h) (by omega)).mono ?_;rintro e w1 ⟨v1,rfl,o1,hb1⟩;obtain⟨A1,C1,rfl,-⟩:=aN o1;have G1:Below w.heap.size w w1:=aC ((lX _ _ _).drew) (Nat.le_refl _) hb1;have T1:=(aZ (hb1.mono (show w.heap.size+2<=_ by simp))).1;have F1:=(aZ (hb1.mono (show w.heap.size+2<=_ by simp))).2;have Z1:w.heap.size+2<=w1.heap.size:=Nat.le_trans (by simp) hb1.size)
   |(go_at_call_of 138 (dC-a);refine(xE _ _ _ ((kids.drop a).take (b-a)) l2.out _ (hd.cutI.go G1 (Nat.le_refl _) (Nat.le_refl _)) (fun h=>by cases h) (by omega)).mono ?_;rintro e w2 ⟨v2,rfl,o2,hb2⟩;obtain⟨A2,C2,rfl,-⟩:=aN o2;have G2:Below w.heap.size w w2:=aC G1 (Nat.le_refl _) hb2;have T2:=(aZ (hb2.mono (show w.heap.size+2<=_ by exact Z1))).1;have F2:=(aZ (hb2.mono (show w.heap.size+2<=_ by exact Z1))).2;have Z2:w.heap.size+2<=w2.heap.size:=Nat.le_trans Z1 hb2.size)
   |(have k0:w2.heap.size<=w2.heap.size:=Nat.le_refl _;go_at_call_of 186 (Value.int IntKind.i64 (a:Int));refine(xO false eA eC ents _ kC keys _ dC kids _ bC buf a _ (hk.go G2 (Nat.le_refl _) (Nat.le_refl _)) (hf.go G2 (Nat.le_refl _) (Nat.le_refl _)) kz bz hkl.out (by omega) hp r1 hr1).mono ?_;rintro e w3 ⟨rfl,hb3⟩;have G3:Below w.heap.size w w3:=aC G2 (Nat.le_refl _) hb3;have T3:=(aZ (hb3.mono (show w.heap.size+2<=_ by exact Z2))).1;have F3:=(aZ (hb3.mono (show w.heap.size+2<=_ by exact Z2))).2;have Z3:w.heap.size+2<=w3.heap.size:=Nat.le_trans Z2 hb3.size)
   |(have k0:w3.heap.size<=w3.heap.size:=Nat.le_refl _;go_at_call_of 186 (Value.int IntKind.i64 (b:Int));refine(xO false eA eC ents _ kC keys _ dC kids _ bC buf b _ (hk.go G3 (Nat.le_refl _) (Nat.le_refl _)) (hf.go G3 (Nat.le_refl _) (Nat.le_refl _)) kz bz hkl.out hbk hp r2 hr2).mono ?_;rintro e w4 ⟨rfl,hb4⟩;have G4:Below w.heap.size w w4:=aC G3 (Nat.le_refl _) hb4;have T4:=(aZ (hb4.mono (show w.heap.size+2<=_ by exact Z3))).1;have F4:=(aZ (hb4.mono (show w.heap.size+2<=_ by exact Z3))).2;have Z4:w.heap.size+2<=w4.heap.size:=Nat.le_trans Z3 hb4.size)
   |(go_at_call 137;refine(q4r _ _ _ ((buf.drop r1).take (r2-r1)) l3.out _ ((HA.out _).go G4 (Nat.le_refl _) (Nat.le_refl _)) (fun h=>absurd h HN.out) (by omega)).mono ?_;rintro e w5 ⟨v5,rfl,o5,hb5⟩;obtain⟨A5,C5,rfl,-⟩:=aN o5;have G5:Below w.heap.size w w5:=aC G4 (Nat.le_refl _) hb5;have T5:=(aZ (hb5.mono (show w.heap.size+2<=_ by exact Z4))).1;have F5:=(aZ (hb5.mono (show w.heap.size+2<=_ by exact Z4))).2;have Z5:w.heap.size+2<=w5.heap.size:=Nat.le_trans Z4 hb5.size))
 go_wp2;have hb45:Below w3.heap.size w3 w5:=aC hb4 (Nat.le_refl _) hb5;have hb35:Below w2.heap.size w2 w5:=aC hb3 (Nat.le_refl _) hb45;have hb25:Below w1.heap.size w1 w5:=aC hb2 (Nat.le_refl _) hb35;have p1:=dI o1 hb25;have p2:=dI o2 hb35;have s12:=hb2.size;have s23:=hb3.size;have s34:=hb4.size;simp only[World.size_drew,World.size_alloc] at p1;refine bodyPost_ret (v:=.agg #[.bool false,.slice none 0 0,.slice A1 (c-a) C1,.slice A2 (b-a) C2,.slice A5 (r2-r1) C5]) (by simp[results,Tryz.results173,go_sem,T1,T2,T3,T4,T5]) rfl ⟨A1,C1,A2,C2,A5,C5,rfl,⟨World.ownsRow_nil _ _ _ _,rJ l1.out ?_,rJ l2.out ?_,rJ l3.out ?_,by simp,by show((keys.drop a).take (c-a)).length*8<=_;rw[l1.out];omega,by show((kids.drop a).take (b-a)).length*8<=_;rw[l2.out];omega,by show((buf.drop r1).take (r2-r1)).length*56<=_;rw[l3.out];omega⟩,?_,?_⟩
 ·exact aW (bP p1 (by omega)) fun k hk=>nC w5 (w.heap.size+1) 0 _ _ _ _ _ (by have:=(p1.lt k hk).1;omega)
 ·exact aW (bP p2 (by omega)) fun k hk=>nC w5 (w.heap.size+1) 0 _ _ _ _ _ (by have:=(p2.lt k hk).1;omega)
 ·exact aW (bP o5 (by omega)) fun k hk=>nC w5 (w.heap.size+1) 0 _ _ _ _ _ (by have:=(o5.lt k hk).1;omega)
 ·refine blocks_nodup (s1:=w.heap.size+2) (s2:=w1.heap.size) (s3:=w2.heap.size) (fun x hx=>by cases hx) (fun x hx=>?_) (fun x hx=>gU o2 x hx) (fun x hx=>?_) Z1 s12
  ·have:=gU o1 x hx;simp only[World.size_drew,World.size_alloc] at this;exact this
  ·have:=gU o5 x hx;omega
 ·exact zX G5 (by omega) 0 _ _ _ _ _

set_option maxRecDepth 20000 in
set_option maxHeartbeats 4000000 in
theorem q1h(eA:Option Addr)(eC:Nat)(ents:List En)(kb ko:Nat)(kC:Nat)(keys:List Int)(db dO:Nat)(dC:Nat)(kids:List Int)(a b c:Nat)(w:World)
  (hk:aH w.heap.size w (some ⟨kb,ko,none⟩) (ints keys)) (hd:aH w.heap.size w (some ⟨db,dO,none⟩) (ints kids))
  (hkc:keys.length<=kC) (hdc:kids.length<=dC) (kz:keys.length*8<=140737488351232) (dz:kids.length*8<=140737488351232)
  (hkl:Hid (keys.length+1=kids.length)) (hbc:Hid (b=c+1)) (hac:a<c) (hck:c<=keys.length) (hbk:b<=kids.length)
  (hr1:Hid (bU ⟨false,ents,keys,kids,[]⟩ a=0)) (hr2:Hid (bU ⟨false,ents,keys,kids,[]⟩ b=0)):
  Calls Tryz.prog 173 #[.agg #[.bool false,.slice eA ents.length eC,.slice (some ⟨kb,ko,none⟩) keys.length kC,.slice (some ⟨db,dO,none⟩) kids.length dC,.slice none 0 0],.int .i64 (a:Int),.int .i64 (b:Int)] w
   fun e w'=>∃A1 C1 A2 C2 A3 C3,e=.returned (.agg #[.bool false,.slice none 0 0,.slice A1 (c-a) C1,.slice A2 (b-a) C2,.slice A3 0 C3])/\
    PN.own w.heap.size w' ⟨false,none,0,[],A1,C1,(keys.drop a).take (c-a),A2,C2,(kids.drop a).take (b-a),A3,C3,[]⟩/\(PN.mk false none 0 [] A1 C1 ((keys.drop a).take (c-a)) A2 C2 ((kids.drop a).take (b-a)) A3 C3 []).blocks.Nodup/\Below w.heap.size w w':=by
 have hab:a<=b:=by have:=hbc.out;omega
 have wb:IntKind.i64.wrap ((b:Int)-1)=(c:Int):=by have:=hbc.out;rw[IntKind.wrap_i64];omega
 have i1:(a:Int)<=(c:Int):=by omega
 have i2:(c:Int)<=(kC:Int):=by omega
 have i3:(a:Int)<=(b:Int):=by omega
 have i4:(b:Int)<=(dC:Int):=by omega
 have i7:(0:Int)<=(a:Int):=by omega
 have n1:¬kC=a:=by omega
 have n2:¬dC=a:=by have:=hbc.out;omega
 have l1:Hid (((keys.drop a).take (c-a)).length=c-a):=by show _=_;simp;omega
 have l2:Hid (((kids.drop a).take (b-a)).length=b-a):=by show _=_;simp;omega
 have hda:b-a<=kids.length:=by omega
 have hca:c-a<=keys.length:=by omega
 go_enter Tryz.func173,Tryz.ntmps173
 go_wp2_with fail
 go_region_held3 (fun w'=>w'.cell? ⟨w.heap.size,0,none⟩=some (.bool false)/\w'.cell? ⟨w.heap.size,1,none⟩=some (.slice eA ents.length eC)/\w'.cell? ⟨w.heap.size,2,none⟩=some (.slice (some ⟨kb,ko,none⟩) keys.length kC)/\w'.cell? ⟨w.heap.size,3,none⟩=some (.slice (some ⟨db,dO,none⟩) kids.length dC)/\w'.cell? ⟨w.heap.size,4,none⟩=some (.slice none 0 0)) (go_keep)
  (first
   |(go_at_call_of 138 (kC-a);refine(xE _ _ _ ((keys.drop a).take (c-a)) l1.out _ (hk.cutI.go ((lX _ _ _).drew) (Nat.le_refl _) (Nat.le_refl _)) (fun h=>by cases h) (by omega)).mono ?_;rintro e w1 ⟨v1,rfl,o1,hb1⟩;obtain⟨A1,C1,rfl,-⟩:=aN o1;have G1:Below w.heap.size w w1:=aC ((lX _ _ _).drew) (Nat.le_refl _) hb1;have T1:=(aZ (hb1.mono (show w.heap.size+2<=_ by simp))).1;have F1:=(aZ (hb1.mono (show w.heap.size+2<=_ by simp))).2;have Z1:w.heap.size+2<=w1.heap.size:=Nat.le_trans (by simp) hb1.size)
   |(go_at_call_of 138 (dC-a);refine(xE _ _ _ ((kids.drop a).take (b-a)) l2.out _ (hd.cutI.go G1 (Nat.le_refl _) (Nat.le_refl _)) (fun h=>by cases h) (by omega)).mono ?_;rintro e w2 ⟨v2,rfl,o2,hb2⟩;obtain⟨A2,C2,rfl,-⟩:=aN o2;have G2:Below w.heap.size w w2:=aC G1 (Nat.le_refl _) hb2;have T2:=(aZ (hb2.mono (show w.heap.size+2<=_ by exact Z1))).1;have F2:=(aZ (hb2.mono (show w.heap.size+2<=_ by exact Z1))).2;have Z2:w.heap.size+2<=w2.heap.size:=Nat.le_trans Z1 hb2.size)
   |(have k0:w2.heap.size<=w2.heap.size:=Nat.le_refl _;go_at_call_of 186 (Value.int IntKind.i64 (a:Int));refine(xO false eA eC ents _ kC keys _ dC kids none 0 [] a _ (hk.go G2 (Nat.le_refl _) (Nat.le_refl _)) (.inl rfl) kz (by simp) hkl.out (by omega) List.Pairwise.nil 0 hr1).mono ?_;rintro e w3 ⟨rfl,hb3⟩;have G3:Below w.heap.size w w3:=aC G2 (Nat.le_refl _) hb3;have T3:=(aZ (hb3.mono (show w.heap.size+2<=_ by exact Z2))).1;have F3:=(aZ (hb3.mono (show w.heap.size+2<=_ by exact Z2))).2;have Z3:w.heap.size+2<=w3.heap.size:=Nat.le_trans Z2 hb3.size)
   |(have k0:w3.heap.size<=w3.heap.size:=Nat.le_refl _;go_at_call_of 186 (Value.int IntKind.i64 (b:Int));refine(xO false eA eC ents _ kC keys _ dC kids none 0 [] b _ (hk.go G3 (Nat.le_refl _) (Nat.le_refl _)) (.inl rfl) kz (by simp) hkl.out hbk List.Pairwise.nil 0 hr2).mono ?_;rintro e w4 ⟨rfl,hb4⟩;have G4:Below w.heap.size w w4:=aC G3 (Nat.le_refl _) hb4;have T4:=(aZ (hb4.mono (show w.heap.size+2<=_ by exact Z3))).1;have F4:=(aZ (hb4.mono (show w.heap.size+2<=_ by exact Z3))).2;have Z4:w.heap.size+2<=w4.heap.size:=Nat.le_trans Z3 hb4.size)
   |(go_at_call 137;refine(q4r none 0 0 [] rfl _ (.inl rfl) (fun _=>rfl) (by omega)).mono ?_;rintro e w5 ⟨v5,rfl,o5,hb5⟩;obtain⟨A5,C5,rfl,-⟩:=aN o5;have G5:Below w.heap.size w w5:=aC G4 (Nat.le_refl _) hb5;have T5:=(aZ (hb5.mono (show w.heap.size+2<=_ by exact Z4))).1;have F5:=(aZ (hb5.mono (show w.heap.size+2<=_ by exact Z4))).2;have Z5:w.heap.size+2<=w5.heap.size:=Nat.le_trans Z4 hb5.size))
 go_wp2;have hb45:Below w3.heap.size w3 w5:=aC hb4 (Nat.le_refl _) hb5;have hb35:Below w2.heap.size w2 w5:=aC hb3 (Nat.le_refl _) hb45;have hb25:Below w1.heap.size w1 w5:=aC hb2 (Nat.le_refl _) hb35;have p1:=dI o1 hb25;have p2:=dI o2 hb35;have s12:=hb2.size;have s23:=hb3.size;have s34:=hb4.size;simp only[World.size_drew,World.size_alloc] at p1;refine bodyPost_ret (v:=.agg #[.bool false,.slice none 0 0,.slice A1 (c-a) C1,.slice A2 (b-a) C2,.slice A5 0 C5]) (by simp[results,Tryz.results173,go_sem,T1,T2,T3,T4,T5]) rfl ⟨A1,C1,A2,C2,A5,C5,rfl,⟨World.ownsRow_nil _ _ _ _,rJ l1.out ?_,rJ l2.out ?_,?_,by simp,by show((keys.drop a).take (c-a)).length*8<=_;rw[l1.out];omega,by show((kids.drop a).take (b-a)).length*8<=_;rw[l2.out];omega,by simp⟩,?_,?_⟩
 ·exact aW (bP p1 (by omega)) fun k hk=>nC w5 (w.heap.size+1) 0 _ _ _ _ _ (by have:=(p1.lt k hk).1;omega)
 ·exact aW (bP p2 (by omega)) fun k hk=>nC w5 (w.heap.size+1) 0 _ _ _ _ _ (by have:=(p2.lt k hk).1;omega)
 ·exact aW (bP o5 (by omega)) fun k hk=>nC w5 (w.heap.size+1) 0 _ _ _ _ _ (by have:=(o5.lt k hk).1;omega)
 ·refine blocks_nodup (s1:=w.heap.size+2) (s2:=w1.heap.size) (s3:=w2.heap.size) (fun x hx=>by cases hx) (fun x hx=>?_) (fun x hx=>gU o2 x hx) (fun x hx=>?_) Z1 s12
  ·have:=gU o1 x hx;simp only[World.size_drew,World.size_alloc] at this;exact this
  ·have:=gU o5 x hx;omega
 ·exact zX G5 (by omega) 0 _ _ _ _ _

end
section
open Go.RowKit Plain

def feet(g:Nat)(qs:List PN):List Nat:=g::qs.flatMap PN.blocks

structure NT(base:Nat)(w:World)(g C:Nat)(qs:List PN):Prop where
 own:w.ownsRow base 138 5 (.slice (some ⟨g,0,none⟩) qs.length C) qs.length (bJ qs)
 each:∀q∈qs,q.own base w
 apart:(feet g qs).Nodup
 z:qs.length*104<=140737488351232

structure TB(base:Nat)(w:World)(tb g C:Nat)(qs:List PN)(root:Int):Prop where
 nt:NT base w g C qs
 box:RowL w tb 32 [.slice (some ⟨g,0,none⟩) qs.length C,.int .i64 root]
 ne:tb∉feet g qs
 hb:base<=tb

section
variable {base g C : Nat} {w w' : World} {qs : List PN}

theorem NT.glt(h:NT base w g C qs):base<=g/\g<w.heap.size:=h.own.lt g rfl

theorem NT.lt(h:NT base w g C qs):∀k∈feet g qs,base<=k/\k<w.heap.size:=by
 intro k hk;rcases List.mem_cons.1 hk with rfl|hk
 ·exact h.glt
 ·obtain⟨q,hq,hk⟩:=List.mem_flatMap.1 hk;exact(h.each q hq).lt k hk

theorem NT.of_blocks(h:NT base w g C qs)(hk:∀k∈feet g qs,w'.heap[k]? =w.heap[k]?):NT base w' g C qs:=
 ⟨aW h.own fun k hb=>hk k (by simp[Value.ownBlock] at hb;subst hb;exact List.mem_cons_self),fun q hq=>(h.each q hq).of_blocks fun k hb=>hk k (List.mem_cons_of_mem _ (List.mem_flatMap.2 ⟨q,hq,hb⟩)),h.apart,h.z⟩

theorem NT.below{B:Nat}(h:NT base w g C qs)(hb:Below B w w')(hB:w.heap.size<=B):NT base w' g C qs:=
 h.of_blocks fun k hk=>hb.block k (Nat.lt_of_lt_of_le (h.lt k hk).2 hB)

theorem NT.cell(h:NT base w g C qs){j:Nat}(hj:j<qs.length*5):w.cell? ⟨g,j,none⟩=(bJ qs)[j]? :=h.own.cellAt j hj

theorem NT.node(h:NT base w g C qs){k:Nat}(hk:k<qs.length):PnAt w g (k*5) qs[k]:=by
 have c:∀j,j<5->∀u,(qs[k]).vals[j]? =some u->w.cell? ⟨g,k*5+j,none⟩=some u:=fun j hj u hu=>by
  rw[h.cell (by omega),wO qs k j hk hj];exact hu
 exact⟨c 0 (by decide) _ rfl,c 1 (by decide) _ rfl,c 2 (by decide) _ rfl,c 3 (by decide) _ rfl,c 4 (by decide) _ rfl⟩

theorem NT.free(h:NT base w g C qs)(j:Nat):w.frozen? ⟨g,j,none⟩=false:=h.own.frozenAt j

theorem NT.nodes(h:NT base w g C qs):bF w.heap.size w (some ⟨g,0,none⟩) qs:=
 ⟨(eG h.own).1,fun _ hk=>(h.each _ (List.getElem_mem hk)).ok,h.z⟩
end

theorem qd4(qs:List PN)(k:Nat)(hk:k<qs.length)(p:PN):
  (((((bJ qs).set (k*5) (.bool p.leaf)).set (k*5+1) (.slice p.eA p.ents.length p.eC)).set (k*5+2) (.slice p.kA p.keys.length p.kC)).set (k*5+3) (.slice p.dA p.kids.length p.dC)).set (k*5+4) (.slice p.bA p.buf.length p.bC)=bJ (qs.set k p):=by
 obtain⟨e1,e2⟩:=jW qs k p hk;rw[e2]
 conv=>lhs;rw[e1]
 have h:=qcc (qs.take k) (qs.drop (k+1)) qs[k] p;rw[List.length_take,Nat.min_eq_left (Nat.le_of_lt hk)] at h;exact h

theorem gZ{w:World}{base:Nat}{e:TypeId}{size n g C:Nat}{vs:List Value}(h:w.ownsRow base e size (.slice (some ⟨g,0,none⟩) n C) n vs)(j:Nat)(v:Value):
  (w.setCell ⟨g,j,none⟩ v).ownsRow base e size (.slice (some ⟨g,0,none⟩) n C) n (vs.set j v):=by
 refine⟨by simp[h.1],.inr ?_⟩
 rcases h.2 with⟨hv,_⟩|⟨g',cap,cur,hv,hb,hg,hl,hm,hs,ht⟩
 ·cases hv
 ·cases hv;refine⟨g,C,cur.setIfInBounds j v,rfl,hb,?_,hl,hm,by simp[hs],?_⟩
  ·simp[World.setCell,Array.getElem?_modify,hg]
  ·rw[Array.toList_setIfInBounds,List.take_set,ht]

theorem qbt{g k:Nat}{qs:List PN}{p:PN}(hk:k<qs.length)(ha:(feet g qs).Nodup)(hn:p.blocks.Nodup)(hd:∀b∈p.blocks,b∉feet g qs):(feet g (qs.set k p)).Nodup/\∀b∈feet g (qs.set k p),b∈feet g qs\/b∈p.blocks:=by
 obtain⟨A,x,B,hq,hset⟩:∃A x B,qs=A++x::B/\qs.set k p=A++p::B:=⟨_,_,_,jW qs k p hk⟩;rw[hset];clear hset hk;subst hq;unfold feet at *;simp only[List.flatMap_append,List.flatMap_cons,List.nodup_cons,List.nodup_append,List.mem_append,List.mem_cons,not_or] at *;obtain⟨⟨a1,a2,a3⟩,a4,⟨a5,a6,a7⟩,a8⟩:=ha;refine⟨⟨⟨a1,fun h=>(hd g h).1 rfl,a3⟩,a4,⟨hn,a6,fun b hb c hc e=>(hd b hb).2.2.2 (e▸hc)⟩,fun b hb c hc e=>?_⟩,fun b hb=>?_⟩
 ·rcases hc with hc|hc
  ·exact(hd c hc).2.1 (e▸hb)
  ·exact a8 b hb c (.inr hc) e
 ·rcases hb with hb|hb|hb|hb
  ·exact .inl (.inl hb)
  ·exact .inl (.inr (.inl hb))
  ·exact .inr hb
  ·exact .inl (.inr (.inr (.inr hb)))

theorem NT.setNode{base g C k:Nat}{w:World}{qs:List PN}{p:PN}(h:NT base w g C qs)(hk:k<qs.length)(hp:p.own base w)(hn:p.blocks.Nodup)(hd:∀b∈p.blocks,b∉feet g qs):
  NT base (((((w.setCell ⟨g,k*5,none⟩ (.bool p.leaf)).setCell ⟨g,k*5+1,none⟩ (.slice p.eA p.ents.length p.eC)).setCell ⟨g,k*5+2,none⟩ (.slice p.kA p.keys.length p.kC)).setCell ⟨g,k*5+3,none⟩ (.slice p.dA p.kids.length p.dC)).setCell ⟨g,k*5+4,none⟩ (.slice p.bA p.buf.length p.bC)) g C (qs.set k p):=by
 have hg:g∉p.blocks:=fun e=>hd g e List.mem_cons_self
 have hs:∀b,b≠g->(((((w.setCell ⟨g,k*5,none⟩ (.bool p.leaf)).setCell ⟨g,k*5+1,none⟩ (.slice p.eA p.ents.length p.eC)).setCell ⟨g,k*5+2,none⟩ (.slice p.kA p.keys.length p.kC)).setCell ⟨g,k*5+3,none⟩ (.slice p.dA p.kids.length p.dC)).setCell ⟨g,k*5+4,none⟩ (.slice p.bA p.buf.length p.bC)).heap[b]? =w.heap[b]? :=fun b hb=>nC w g (k*5) _ _ _ _ _ hb
 refine⟨?_,fun q hq=>?_,(qbt hk h.apart hn hd).1,by simpa using h.z⟩
 ·rw[<-qd4 qs k hk p,List.length_set];exact gZ (gZ (gZ (gZ (gZ h.own _ _) _ _) _ _) _ _) _ _
 ·rcases List.mem_or_eq_of_mem_set hq with hq|rfl
  ·refine(h.each q hq).of_blocks fun b hb=>hs b ?_
   rintro rfl;have:=h.apart;rw[feet,List.nodup_cons] at this;exact this.1 (List.mem_flatMap.2 ⟨q,hq,hb⟩)
  ·exact hp.of_blocks fun b hb=>hs b (fun e=>hg (e▸hb))

theorem qfw(ps:List PN):∀u∈bJ ps,u.oneCell'=true:=by
 induction ps with
 |nil=>simp[bJ]
 |cons x r ih=>
  intro u hu;simp only[bJ,PN.vals,List.cons_append,List.nil_append,List.mem_cons] at hu;rcases hu with h|h|h|h|h|h
  all_goals first|(subst h;rfl)|exact ih u h

theorem qsh(W:World)(b:Nat)(t:TypeId)(p:PN)(h:RowL W b t p.vals):∀j u,(bJ [p])[j]? =some u->W.cell? (Addr.add ⟨b,0,none⟩ j)=some u:=by
 intro j u hu;rw[WideShapes.add_plain,Nat.zero_add,h.cell]
 simpa [bJ] using hu

theorem q9p{g':Nat}{g:Nat}{qs:List PN}{q:PN}(ha:(feet g qs).Nodup)(hn:q.blocks.Nodup)(hd:∀b∈q.blocks,b∉feet g qs)(hg:g'=g\/(g'∉feet g qs/\g'∉q.blocks)):(feet g' (qs++[q])).Nodup:=by
 unfold feet at *;simp only[List.flatMap_append,List.flatMap_cons,List.flatMap_nil,List.append_nil,List.nodup_cons,List.nodup_append,List.mem_append,List.mem_cons,not_or] at *;refine⟨⟨?_,?_⟩,ha.2,hn,fun b hb c hc e=>(hd c hc).2 (e▸hb)⟩
 ·rcases hg with rfl|hg
  ·exact ha.1
  ·exact hg.1.2
 ·rcases hg with rfl|hg
  ·intro h;exact(hd g' h).1 rfl
  ·exact hg.2

end
end Go.Proofs.YtlojfgdpmaigmagGreatDoor

/- tree.flush and tree.sink, at whatever node. -/
import Derived.Test.YtlojfgdpmaigmahGreatDoorFlushWalk
import Derived.Test.YtlojfgdpmaigmahGreatDoorP35
namespace Go.Proofs.YtlojfgdpmaigmahGreatDoor
open Go.RowKit Plain Go.Shelf

def qzr(T base g C n h:Nat)(r:Int):Prop:=
 ∀(qs:List PN) (w:World) (p lo hi:Int) (P:List Int) (x:En),NT base w g C qs->qs.length=n->base<=w.heap.size->Sub T 4 (qs.map PN.nd) h p lo hi P->P.Nodup->0<=lo->hi<=1099511627776->entB x lo hi=true->cntK x.key (cP (qs.map PN.nd) P)+x.c<=1073741824->(cP (qs.map PN.nd) P).length+1<=T->
  Calls Tryz.prog 91 #[.agg #[.slice (some ⟨g,0,none⟩) n C,.int .i64 r],.int .i64 p,.agg #[.int .i64 x.key,.int .i64 x.c,.int .i64 x.s,.int .i64 x.lo,.int .i64 x.hi,.int .i64 x.t,.int .i64 x.l]] w
   fun e w'=>e=.returned (.tuple #[])/\∃qs',q1w base w g C qs w' qs'/\qa9 T (qs.map PN.nd) (qs'.map PN.nd) h p lo hi P x/\∀n:Nat,(n:Int)∉P->qs'[n]? =qs[n]?

theorem nthQ{qs:List PN}{k:Nat}(hk:k<qs.length):nth (qs.map PN.nd) (k:Int)=(qs[k]).nd:=by simp[nth,hk]

theorem z6e{ns:List Nd}{P Q:List Int}(h:∃A B,P=A++Q++B)(k:Int)(hp:Pos (cP ns P)):cntK k (cP ns Q)<=cntK k (cP ns P)/\(cP ns Q).length<=(cP ns P).length:=by
 obtain⟨A,B,rfl⟩:=h
 rw[q7y,q7y] at hp ⊢
 have h1:=q8k (k:=k) hp.left.left
 have h2:=q8k (k:=k) hp.right
 rw[q3s,q3s]
 exact⟨by omega,by simp;omega⟩

theorem z3f{qs:List PN}{k:Nat}(hk:k<qs.length)(l:List En)(A':Option Addr)(C':Nat):(qs.set k { qs[k] with buf:=l,bA:=A',bC:=C' }).map PN.nd=(qs.map PN.nd).set (k:Int).toNat { nth (qs.map PN.nd) (k:Int) with buf:=l }:=by
 rw[List.map_set,nthQ hk]
 rfl

theorem qlx{T base g C n h:Nat}{r:Int}(hS:qzr T base g C n h r){qs:List PN}{w:World}{k:Nat}{lo hi:Int}{P:List Int}{x:En}(hT:NT base w g C qs)(hn:qs.length=n)(hB:base<=w.heap.size)(hs:Sub T 4 (qs.map PN.nd) (h+1) (k:Int) lo hi P)(hP:P.Nodup)(hlo:0<=lo)(hhi:hi<=1099511627776)(hx:entB x lo hi=true)(hc:cntK x.key (cP (qs.map PN.nd) P)+x.c<=1073741824)(hl:(cP (qs.map PN.nd) P).length+1<=T):
  Calls Tryz.prog 91 #[.agg #[.slice (some ⟨g,0,none⟩) n C,.int .i64 r],.int .i64 ((nth (qs.map PN.nd) (k:Int)).kids.getD (kidI (nth (qs.map PN.nd) (k:Int)).keys x.key) 0),.agg #[.int .i64 x.key,.int .i64 x.c,.int .i64 x.s,.int .i64 x.lo,.int .i64 x.hi,.int .i64 x.t,.int .i64 x.l]] w
   fun e w'=>e=.returned (.tuple #[])/\∃qs',q1w base w g C qs w' qs'/\qa9 T (qs.map PN.nd) (qs'.map PN.nd) (h+1) (k:Int) lo hi P x/\nth (qs'.map PN.nd) (k:Int)=nth (qs.map PN.nd) (k:Int)/\(∀n:Nat,(n:Int)∉P->qs'[n]? =qs[n]?)/\qs'[k]? =qs[k]? :=by
 obtain⟨⟨hx1,hx2⟩,hxg⟩:=entB_iff.1 hx
 obtain⟨l,u,Qa,Qd,Qb,c1,hPe,c3,c4,c5,c6,c7,c8,c9,c10⟩:=qvw hs hP hx1 hx2
 have hsub:∃A B,P=A++Qd++B:=⟨(k:Int)::Qa,Qb,by rw[hPe];simp⟩
 obtain⟨q1,q2⟩:=z6e hsub x.key (qdp hs)
 refine(hS qs w _ l u Qd x hT hn hB c3 c6 (by omega) (by omega) (entB_iff.2 ⟨⟨c4,c5⟩,hxg⟩) (by omega) (by omega)).mono ?_
 rintro e w' ⟨rfl,qs',hm,hok,hpn⟩
 exact⟨rfl,qs',hm,quw hs hPe hP c10 hok,hok.same _ c7 (by omega),fun n hn=>hpn n (fun e=>hn (by rw[hPe];simp[e])),hpn k c7⟩

theorem qs4{T h:Nat}{ns:List Nd}{p lo hi:Int}{P:List Int}(hs:Sub T 4 ns (h+1) p lo hi P):q4z T ns ns h p lo hi P []:=
 ⟨hs,rfl,fun _ _ _=>rfl,by rw[List.nil_append];exact Eqv.refl (qdp hs),by simp,rfl,rfl⟩

theorem qim{T h:Nat}{ns ns1 ns2:List Nd}{p lo hi:Int}{P:List Int}{x:En}(hd:q4z T ns ns1 h p lo hi P [])(hk:qa9 T ns1 ns2 (h+1) p lo hi P x):qa9 T ns ns2 (h+1) p lo hi P x:=by
 have he:=hd.eqv
 have hf:=hd.few
 have hx:Pos [x]:=fun y hy=>hk.eqv.posl y (by simp at hy;simp[hy])
 rw[List.nil_append] at he
 refine⟨hk.sub,hk.len.trans hd.len,fun n h1 h2=>(hk.same n h1 h2).trans (hd.same n h1 h2),(he.app_left hx).trans hk.eqv,?_⟩
 have:=hk.few
 simp at hf
 omega

theorem qn5{T h:Nat}{ns ns1:List Nd}{p lo hi:Int}{P:List Int}{rest:List En}{x:En}(hd:q4z T ns ns1 h p lo hi P rest):cntK x.key (cP ns P)=cntK x.key rest+cntK x.key (cP ns1 P):=by
 rw[hd.eqv.cnt,q3s]

theorem qtx{T base g C n h:Nat}{r:Int}(hS:qzr T base g C n h r){qs:List PN}{w:World}{k:Nat}{lo hi:Int}{P:List Int}(hT:NT base w g C qs)(hn:qs.length=n)(hB:base<=w.heap.size)(hk:k<n)(hs:Sub T 4 (qs.map PN.nd) (h+1) (k:Int) lo hi P)(hP:P.Nodup)(hh:h+1<12)(hlo:0<=lo)(hhi:hi<=1099511627776)(hl:(cP (qs.map PN.nd) P).length<=T):
  Calls Tryz.prog 126 #[.agg #[.slice (some ⟨g,0,none⟩) n C,.int .i64 r],.int .i64 (k:Int)] w
   fun e w'=>e=.returned (.tuple #[])/\∃qs',q1w base w g C qs w' qs'/\q4z T (qs.map PN.nd) (qs'.map PN.nd) h (k:Int) lo hi P []/\∀n:Nat,(n:Int)∉P->qs'[n]? =qs[n]? :=by
 subst hn
 have hnth:=nthQ hk
 have hs0:=hs
 obtain⟨hr,Q,hPQ,hin⟩:=hs
 rw[hnth] at hin
 have hreach:=qjc (h+1) 12 _ _ _ _ hs0 hh
 have ho:=hT.each _ (List.getElem_mem hk)
 have hat:=hT.node hk
 have hents:q0r (qs[k]).buf lo hi=true:=hin.buf
 have hkl:(qs[k]).keys.length+1=(qs[k]).kids.length:=hin.keys
 have hk4:(qs[k]).kids.length<=4:=hin.most
 have hk2:2<=(qs[k]).kids.length:=hin.two
 have hrise:(qs[k]).keys.Pairwise (·<·):=(q5p (q8v h) hin.keys hin.kids).1
 have hkne:(qs[k]).keys≠[]:=fun e=>by rw[e] at hkl;simp at hkl;omega
 have hks:(qs[k]).keys.Pairwise (·<=·):=hrise.imp fun{a b} h=>by omega
 have hkidlt:∀x∈(qs[k]).buf,kidI (qs[k]).keys x.key<(qs[k]).kids.length:=by
  intro x hx
  rw[qh1 hrise]
  have hb:=(q4k hents).1 x hx
  obtain⟨_,_,_,_,_,c1,_⟩:=qap (q8v h) hin.keys hin.kids hb.1 hb.2
  exact c1
 refine qpd (T:=T) (h:=h) base g C qs.length qs (qs[k]).kids lo hi P r k (qs[k]).leaf (qs[k]).eA (qs[k]).ents.length (qs[k]).eC (qs[k]).kA (qs[k]).keys.length (qs[k]).kC (qs[k]).dA (qs[k]).kids.length (qs[k]).dC (qs[k]).bA (qs[k]).bC (qs[k]).buf (fun key=>kidI (qs[k]).keys key) (fun key=>stB (qs.map PN.nd) (k:Int) key) w hT.glt.2 hk hat.c0 hat.c1 hat.c2 hat.c3 hat.c4 (q3d ho.b).1 hin.few ?_ ?_ ?_ rfl (by rw[hPQ];simp) hB hT ?_ ?_ ?_ hkidlt ?_
 ·exact fun W hW x hx=>qr4 (some ⟨g,0,none⟩) C r (k:Int) x.key qs W ((hT.below hW (Nat.le_refl _)).nodes) hreach (by have:=(q4k hents).1 x hx;omega) _ rfl
 ·exact fun W hW x=>qhu (qs[k]) x.key W ((q3d ho.k).1.up hW) hkne ho.kz hks
 ·exact fun x hx=>Nat.lt_of_lt_of_le (hkidlt x hx) hk4
 ·exact⟨qs[k],List.getElem?_eq_getElem hk,rfl,rfl⟩
 ·intro f
  have:=qq7 hs0 hP f
  rw[hnth] at this ⊢
  exact this
 ·intro ns' rest hd
  rw[hd.kids,hnth]
  rfl
 ·intro qs' wr x rest hT' hn' hB' hd hxb hst
  have hx:entB x lo hi=true:=entB_iff.2 ⟨(q4k hents).1 x hxb,q4a hents x hxb⟩
  have hmost:cntK x.key (cP (qs.map PN.nd) P)<=1073741824:=by
   obtain⟨a,b⟩:=qjn (k:=x.key) hs0 hh rfl
   have h0:((Wl (qs.map PN.nd) x.key (x.key+1) 12 (k:Int)).foldl q3a (zro,0)).2=0:=by simpa [stB] using hst
   rw[<-b h0]
   exact qwr a h0
  have hc:=qn5 (x:=x) hd
  have hposr:Pos rest:=fun y hy=>hd.eqv.posm y (by simp[hy])
  have hc2:=q8k (k:=x.key) hposr
  rw[cntK,if_pos rfl] at hc
  have hf:=hd.few
  simp only[List.length_cons] at hf
  have hcall:=qlx hS hT' hn' hB' hd.sub hP hlo hhi hx (by omega) (by omega)
  rw[hd.keys,hd.kids,hnth] at hcall
  refine hcall.mono ?_
  rintro e w' ⟨rfl,qs'',hm,hok,hsame,hpn,_⟩
  exact⟨rfl,qs'',hm,qsc hd hok (by rw[hsame]) (by rw[hsame]),hpn⟩

theorem qoa{T base g C n:Nat}{r:Int}(hz:T*56<=140737488351232):∀h,h<12->qzr T base g C n h r
 |0,_=>by
  intro qs w p lo hi P x hT hn hB hs hP hlo hhi hx hc hl
  subst hn
  have hr:=hs.1
  obtain⟨k,rfl⟩:∃k:Nat,p=k:=⟨p.toNat,by omega⟩
  have hk:k<qs.length:=by have:=hr.2.1;simp at this;omega
  have hnth:=nthQ hk
  have hlf:=hs.2.2
  rw[hnth] at hlf
  have hle:(qs[k]).ents.length+1<=T:=by
   obtain⟨_,rfl,_⟩:=hs
   have e:cP (qs.map PN.nd) [(k:Int)]=(qs[k]).buf++(qs[k]).ents:=by simp[cP,cont,hnth,PN.nd]
   rw[e] at hl
   simp at hl
   omega
  refine(qhr base g C qs r k (qs[k]) x w hT hk rfl hlf.leaf (q4k hlf.ents).2 (by omega) hB).mono ?_
  rintro e w' ⟨A',C',rfl,hm⟩
  refine⟨rfl,_,hm,?_,fun n hn=>List.getElem?_set_ne (fun e=>hn ?_)⟩
  ·have:=qr2 hs hx hc hl
   rw[hnth] at this
   rw[List.map_set]
   exact this
  ·rw[hs.2.1,e]
   simp
 |h+1,hh=>by
  intro qs w p lo hi P x hT hn hB hs hP hlo hhi hx hc hl
  have ih:=qoa (base:=base) (g:=g) (C:=C) (n:=n) (r:=r) hz h (by omega)
  subst hn
  have hr:=hs.1
  obtain⟨k,rfl⟩:∃k:Nat,p=k:=⟨p.toNat,by omega⟩
  have hk:k<qs.length:=by have:=hr.2.1;simp at this;omega
  have hnth:=nthQ hk
  have hin:qcs 4 (Sub T 4 (qs.map PN.nd) h) (qs[k]).nd lo hi P.tail:=by
   obtain⟨_,Q,rfl,hin⟩:=hs
   rw[hnth] at hin
   exact hin
  have hrise:(qs[k]).keys.Pairwise (·<·):=(q5p (q8v h) hin.keys hin.kids).1
  obtain⟨⟨hx1,hx2⟩,hxg⟩:=entB_iff.1 hx
  have hkd:kidI (qs[k]).keys x.key<(qs[k]).kids.length:=by
   rw[qh1 hrise]
   obtain⟨_,_,_,_,_,c1,_⟩:=qap (q8v h) hin.keys hin.kids hx1 hx2
   exact c1
  have hcnt:∀{ns1:List Nd},q4z T (qs.map PN.nd) ns1 h (k:Int) lo hi P []->cntK x.key (cP ns1 P)+x.c<=1073741824/\(cP ns1 P).length+1<=T:=fun{ns1} hd=>by
   have h1:=qn5 (x:=x) hd
   have h2:=hd.few
   simp only[cntK,List.length_nil] at h1 h2
   exact⟨by omega,by omega⟩
  have hnode:∀{qs1:List PN} (_:q4z T (qs.map PN.nd) (qs1.map PN.nd) h (k:Int) lo hi P []) (h1:k<qs1.length),qcs 4 (Sub T 4 (qs1.map PN.nd) h) (qs1[k]).nd lo hi P.tail/\(qs1[k]).keys=(qs[k]).keys/\(qs1[k]).kids=(qs[k]).kids:=fun{qs1} hd h1=>by
   have e:=nthQ h1
   refine⟨?_,?_,?_⟩
   ·obtain⟨_,Q,rfl,hin2⟩:=hd.sub
    rw[e] at hin2
    exact hin2
   ·have:=hd.keys;rw[e,hnth] at this;exact this
   ·have:=hd.kids;rw[e,hnth] at this;exact this
  refine qpg base g C qs r k x w (fun qs1=>q4z T (qs.map PN.nd) (qs1.map PN.nd) h (k:Int) lo hi P []/\∀n:Nat,(n:Int)∉P->qs1[n]? =qs[n]?) (fun qs'=>qa9 T (qs.map PN.nd) (qs'.map PN.nd) (h+1) (k:Int) lo hi P x/\∀n:Nat,(n:Int)∉P->qs'[n]? =qs[n]?) (qs[k]).kids (kidI (qs[k]).keys x.key) hT hk hin.leaf hB hkd ⟨qs4 hs,fun _ _=>rfl⟩ ?_ ?_ ?_ ?_ ?_
  ·intro qs1 _ ⟨hd,_⟩ h1
   obtain⟨a,b,c⟩:=hnode hd h1
   exact⟨(q4k a.buf).2,a.few,c⟩
  ·intro W hW hBW
   exact qtx ih hW rfl hBW hk hs hP hh hlo hhi (by omega)
  ·intro qs1 hl1 ⟨hd,hpn⟩ h1 A' C' hw
   obtain⟨a,b⟩:=hcnt hd
   have hw':hasK (nth (qs1.map PN.nd) (k:Int)).buf x.key=true\/(nth (qs1.map PN.nd) (k:Int)).buf.length<8:=by
    rw[nthQ h1]
    have:hasK (qs1[k]).buf x.key=true\/(qs1[k]).buf.length<8:=by simpa using hw
    exact this
   have:=qim hd (qvl hd.sub hP hx a hw')
   refine⟨?_,fun n hn=>(List.getElem?_set_ne (fun e=>hn ?_)).trans (hpn n hn)⟩
   ·rw[z3f h1]
    rw[nthQ h1] at this ⊢
    exact this
   ·obtain⟨_,Q,hPQ,_⟩:=hs
    rw[hPQ,e]
    simp
  ·intro qs1 W hl1 ⟨hd,_⟩ h1 hW
   obtain⟨a,b,c⟩:=hnode hd h1
   have hr1:(qs1[k]).keys.Pairwise (·<·):=by rw[b];exact hrise
   have hkl:(qs1[k]).keys.length+1=(qs1[k]).kids.length:=a.keys
   have hk2:2<=(qs1[k]).kids.length:=a.two
   have ho:=hW.each _ (List.getElem_mem h1)
   have:=qhu (qs1[k]) x.key W (q3d ho.k).1 (fun e=>by rw[e] at hkl;simp at hkl;omega) ho.kz (hr1.imp fun{a b} h=>by omega)
   rw[b] at this
   rw[b]
   exact this
  ·intro qs1 W hl1 ⟨hd,hpn⟩ hW hBW
   have h1:k<qs1.length:=by omega
   obtain⟨a,b⟩:=hcnt hd
   have hcall:=qlx ih hW hl1 hBW hd.sub hP hlo hhi hx a b
   rw[hd.keys,hd.kids,hnth] at hcall
   refine hcall.mono ?_
   rintro e w' ⟨rfl,qs2,hm,hok,_,hpn2,hkk⟩
   exact⟨rfl,qs2,hm,⟨qim hd hok,fun n hn=>(hpn2 n hn).trans (hpn n hn)⟩,hkk⟩

end Go.Proofs.YtlojfgdpmaigmahGreatDoor

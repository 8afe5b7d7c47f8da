/- A tree of entries, in plain terms. -/
import Derived.Test.YtlojfgdpmaigmagGreatDoorP30
import Derived.Test.YtlojfgdpmaigmagGreatDoorP11
import Derived.Test.YtlojfgdpmaigmagGreatDoorP24
import Derived.Test.YtlojfgdpmaigmagGreatDoorP09
namespace Go.Proofs.YtlojfgdpmaigmagGreatDoor
section
open Go.RowKit Plain

def aY(xs:List En):Nd:=⟨true,xs,[],[],[]⟩
def ofN(xs:List En):List Nd × Int:=eX (aQ [aY xs] 0).2.length (aQ [aY xs] 0).1 0 (aQ [aY xs] 0).2

theorem wW(xs:List En):nth [aY xs] 0=aY xs:=rfl

theorem q4l{xs:List En}(h:eU xs=0)(hne:xs≠[]):Top xs.length 4 [aY xs] 0 0 0 1099511627776 [0]:=
 ⟨⟨by decide,by simp,by decide⟩,rfl,rfl,rfl,rfl,rfl,hne,Nat.le_refl _,q1e h⟩

theorem q1y(xs:List En):bD (aY xs)=xs.length/\bK (aY xs)=6/\aO (aY xs)=(xs.length+6-1)/6:=by
 have a:bD (aY xs)=xs.length:=by simp[bD,aY]
 have b:bK (aY xs)=6:=by simp[bK,aY]
 exact⟨a,b,by rw[aO,a,b]⟩

theorem q3f(xs:List En):(aQ [aY xs] 0).1.length<=(xs.length+6)/6+1/\(aQ [aY xs] 0).2.length<=(xs.length+6)/6:=by
 obtain⟨a,b,c⟩:=q1y xs;unfold aQ;rw[wW]
 split
 ·simp
 ·have hc:(eP (aY xs)).length=aO (aY xs):=by unfold eP;exact oC _ _ _ _
  constructor
  ·simp only[List.length_append,List.length_set,List.length_tail,qK,hc,List.length_cons,List.length_nil,c];omega
  ·simp only[List.length_zip,vT,hc,lQ,c];omega

theorem qbj{xs:List En}(h:eU xs=0):(aQ [aY xs] 0).2=[]\/lJ (aQ [aY xs] 0).1 0 0 (aQ [aY xs] 0).2:=by
 by_cases hne:xs=[]
 ·left;subst hne;unfold aQ;rw[wW,if_pos (by decide)]
 ·right;have hs:=tV (q4l h hne) (by simp)
  obtain⟨Q,h1,h2⟩:=hs.sub;have hle:=hs.le;refine⟨Q,h1,h2.trans ?_⟩;rw[show(aQ [aY xs] 0).1.length=1+((aQ [aY xs] 0).1.length-[aY xs].length) by simp at hle ⊢;omega,nY]
  exact List.Perm.of_eq (by simp[aT])

theorem qne(xs:List En)(h:eU xs=0):(ofN xs).1.length<=2*((xs.length+6)/6)+1:=by
 obtain⟨a,b⟩:=q3f xs;rcases qbj h with e|hr
 ·unfold ofN;rw[e];simp[eX];omega
 ·have:=(q9j _ (Nat.le_refl _) hr).2.2;unfold ofN;omega

theorem qls{xs:List En}(h:eU xs=0)(hz:(ofN xs).1.length<=2000):aV (ofN xs).1 (ofN xs).2=0/\((ofN xs).1.flatMap cont).Perm xs:=by
 by_cases hne:xs=[]
 ·subst hne
  have e:ofN []=([aY []],0):=by
   unfold ofN aQ;rw[wW,if_pos (by decide)]
   rfl
  rw[e];exact⟨by decide,List.Perm.refl _⟩
 ·have hs:=tV (q4l h hne) (by simp)
  obtain⟨Q,h1,h2⟩:=hs.sub;have hle:=hs.le
  have hr:lJ (aQ [aY xs] 0).1 0 0 (aQ [aY xs] 0).2:=by
   refine⟨Q,h1,h2.trans ?_⟩;rw[show(aQ [aY xs] 0).1.length=1+((aQ [aY xs] 0).1.length-[aY xs].length) by simp at hle ⊢;omega,nY]
   exact List.Perm.of_eq (by simp[aT])
  obtain⟨⟨h',Q',a,b⟩,c,_⟩:=q9j _ (Nat.le_refl _) hr;exact⟨q7n a b hz,c.trans (hs.cont.trans (by simp[cont,aY]))⟩

theorem q8i:∀{l:List En} {x:En},(∀y∈l,y.key<x.key)->ins l x=some (l++[x])
 |[],x,_=>rfl
 |y::r,x,h=>by
  rw[eF (h y (by simp)),q8i (fun z hz=>h z (List.mem_cons_of_mem _ hz))]
  rfl

theorem q0w:∀(xs l:List En),(l++xs).Pairwise (fun x y=>x.key<y.key)->xs.foldl insO (some l)=some (l++xs)
 |[],l,_=>by simp
 |x::xs,l,h=>by
  rw[List.foldl_cons]
  have e:insO (some l) x=some (l++[x]):=by
   show ins l x=_;refine q8i fun y hy=>?_
   rw[List.pairwise_append] at h;exact h.2.2 y hy x (by simp)
  rw[e,q0w xs (l++[x]) (by simpa using h)]
  simp

theorem q9u{xs:List En}(h:xs.Pairwise (fun x y=>x.key<y.key)):allL xs=some xs:=by
 unfold allL;have:=q0w xs [] (by simpa using h)
 simpa using this

theorem lst_cont{ns:List Nd}:(ns.flatMap Nd.lst).Perm (ns.flatMap cont):=by
 induction ns with
 |nil=>exact List.Perm.refl _
 |cons x r ih=>
  rw[List.flatMap_cons,List.flatMap_cons];refine List.Perm.append ?_ ih;exact List.perm_append_comm

theorem qnf{ns:List Nd}{xs:List En}(h:eU xs=0)(hp:(ns.flatMap cont).Perm xs):allR 0 1099511627776 (ns.flatMap Nd.lst)=some xs:=by
 have hB:=q1e h;obtain⟨hr,hs⟩:=jZ hB;have hgood:=mZ hB;have hpm:(ns.flatMap Nd.lst).Perm xs:=lst_cont.trans hp
 have hin:∀x∈ns.flatMap Nd.lst,inR 0 1099511627776 x=true:=by
  intro x hx;have:=hr x (hpm.mem_iff.1 hx);simp[inR];omega
 unfold allR
 rw[List.filter_eq_self.2 hin,pY hpm (fun x hx=>by
  have:=(good_iff.1 (hgood x (hpm.mem_iff.1 hx))).1;exact this.1)]
 exact q9u hs

theorem qf3{ns:List Nd}{f h:Nat}{dp:Int}(hg:∀d lo hi S S' l,W ns f d lo hi S=some (S',l)->(∀x∈l,x=dp)->∃P T,Sub 6 4 ns h d lo hi P/\S'=T++S/\(T.map (·.1)).Perm P):
  ∀(ds keys:List Int) (lo hi:Int) (S S':St) (l:List Int),keys.length+1=ds.length->Wk (W ns f) ds keys lo hi S=some (S',l)->(∀x∈l,x=dp)->∃Q T,SubK (Sub 6 4 ns h) lo (ups ds keys hi) Q/\S'=T++S/\(T.map (·.1)).Perm Q
 |[],_,_,_,_,_,_,hl,_,_=>by simp at hl
 |d::ds,keys,lo,hi,S,S',l,hl,hr,ha=>by
  unfold Wk at hr
  split at hr
  ·cases hr
  ·rename_i S1 l1 h1
   split at hr
   ·cases hr
   ·rename_i S2 l2 h2
    cases hr;obtain⟨P,T1,a1,rfl,a3⟩:=hg _ _ _ _ _ _ h1 (fun x hx=>ha x (List.mem_append_left _ hx))
    cases keys with
    |nil=>
     obtain rfl:ds=[]:=List.eq_nil_of_length_eq_zero (by simpa using hl.symm)
     simp only[Wk] at h2;cases h2;exact⟨P,T1,⟨P,[],by simp,a1,rfl⟩,rfl,a3⟩
    |cons k ks=>
     obtain⟨Q2,T2,b1,b2,b3⟩:=qf3 hg ds ks k hi (T1++S) _ l2 (by simpa using hl) h2 (fun x hx=>ha x (List.mem_append_right _ hx))
     subst b2;have hne:ds≠[]:=fun e=>by subst e;simp at hl
     obtain⟨e,ds',rfl⟩:=List.exists_cons_of_ne_nil hne;refine⟨P++Q2,T2++T1,⟨P,Q2,rfl,a1,b1⟩,by simp,?_⟩
     rw[List.map_append];exact(b3.append a3).trans List.perm_append_comm

theorem qq9{ns:List Nd}:∀(f:Nat),f<=11->∀(n lo hi:Int) (S S':St) (l:List Int) (dp:Int),W ns f n lo hi S=some (S',l)->(∀x∈l,x=dp)->∃h P T,dp=13-(f:Int)+(h:Nat)/\Sub 6 4 ns h n lo hi P/\S'=T++S/\(T.map (·.1)).Perm P:=by
 intro f
 induction f with
 |zero=>intro _ n lo hi S S' l dp h;cases h
 |succ f ih=>
  intro hf n lo hi S S' l dp hW ha;unfold W at hW
  split at hW
  ·cases hW
  ·rename_i hc
   have hr:0<=n/\n<ns.length/\lo<hi:=⟨by omega,by omega,by omega⟩
   split at hW
   ·rename_i hlf
    split at hW
    ·rename_i hl
     cases hW;obtain⟨h1,h2,h3,h4,h5,h6⟩:=leafB_iff.1 hl;have hd:=ha (12-(f:Int)) (by simp)
     refine⟨0,[n],[(n,12-(f:Int))],by omega,⟨hr,rfl,hlf,h1,h2,h3,?_,h4,h6⟩,rfl,by simp⟩
     rcases h5 with e|e
     ·omega
     ·exact e
    ·cases hW
   ·rename_i hlf
    split at hW
    ·rename_i hi'
     obtain⟨e1,e2,e3,e4,e5,e6⟩:=kV hi';have hne:=(qmr (fun d lo hi S S' l h=>W_ds f (by omega) d lo hi S S' l h) _ _ _ _ _ _ _ hW).1 (fun e=>by rw[e] at e2;simp at e2)
     -- the first kid tells how high it is
     have hcase:∃h:Nat,dp=13-(f:Int)+h:=by
      cases hk:(ns.getD n.toNat default).kids with
      |nil=>rw[hk] at e2;simp at e2
      |cons d ds=>
       rw[hk] at hW;unfold Wk at hW
       split at hW
       ·cases hW
       ·rename_i S1 l1 h1
        split at hW
        ·cases hW
        ·cases hW;obtain⟨h,_,_,e,_⟩:=ih (by omega) _ _ _ _ _ _ dp h1 (fun x hx=>ha x (List.mem_append_left _ hx))
         exact⟨h,e⟩
     obtain⟨h,hh⟩:=hcase
     obtain⟨Q,T,b1,b2,b3⟩:=qf3 (h:=h) (dp:=dp) (fun d lo hi S S' l a b=>by
      obtain⟨h',P,T,e,c1,c2,c3⟩:=ih (by omega) d lo hi S S' l dp a b
      obtain rfl:h'=h:=by omega
      exact⟨P,T,c1,c2,c3⟩) _ _ _ _ _ _ _ e4 hW ha
     refine⟨h+1,n::Q,T++[(n,12-(f:Int))],by omega,⟨hr,Q,rfl,?_⟩,by rw[b2];simp,?_⟩
     ·exact⟨Bool.eq_false_iff.2 hlf,e1,e2,e3,e4,e5,e6,b1⟩
     ·rw[List.map_append];exact(b3.append_right _).trans List.perm_append_comm
    ·cases hW

theorem qa8{N:Nat}{L:List Int}(hn:L.Nodup)(hr:∀n∈L,0<=n/\n<(N:Int))(hl:L.length=N):L.Perm (aT 0 N):=by
 rw[List.perm_ext_iff_of_nodup hn (lS _ _)];intro a;constructor
 ·intro ha;have:=hr a ha;exact placesF_mem.2 ⟨by omega,by omega⟩
 ·intro ha;apply Classical.byContradiction;intro hna
  have h1:=nM (a::L) (aT 0 N) (List.nodup_cons.2 ⟨hna,hn⟩) (fun x hx=>by
   rcases List.mem_cons.1 hx with rfl|hx
   ·exact ha
   ·have:=hr x hx;exact placesF_mem.2 ⟨by omega,by omega⟩)
  rw[lQ] at h1;simp at h1;omega

theorem tH{ns:List Nd}{root:Int}(h:aV ns root=0):(∃h P,Sub 6 4 ns h root 0 1099511627776 P/\P.Perm (aT 0 ns.length))\/(ns=[aY []]/\root=0):=by
 unfold aV at h
 split at h
 ·omega
 ·cases hW:W ns 12 root 0 1099511627776 [] with
  |none=>rw[hW] at h;simp at h
  |some p=>
   obtain⟨S,l⟩:=p;rw[hW] at h;simp only at h
   split at h
   ·rename_i hc
    obtain⟨hok,hlen⟩:=hc;have hst:=(W_st 12 _ _ _ _ _ _ hW ⟨by simp,by simp⟩).1
    have hperm:∀{P:List Int},(S.map (·.1)).Perm P->P.Perm (aT 0 ns.length):=fun{P} hp=>by
     refine hp.symm.trans (qa8 hst.1 (fun n hn=>?_) (by simpa using hlen))
     obtain⟨p,hp,rfl⟩:=List.mem_map.1 hn;exact hst.2 p hp
    have hall:∀x∈l,x=l.headD 0:=fun x hx=>by
     unfold okL at hok;rw[if_pos rfl,List.all_eq_true] at hok
     simpa using hok x hx
    unfold W at hW
    split at hW
    ·cases hW
    ·rename_i hcc
     have hr:0<=root/\root<ns.length/\(0:Int)<1099511627776:=⟨by omega,by omega,by decide⟩
     split at hW
     ·rename_i hlf
      split at hW
      ·rename_i hl
       cases hW;obtain⟨h1,h2,h3,h4,h5,h6⟩:=leafB_iff.1 hl
       by_cases hne:(ns.getD root.toNat default).ents=[]
       ·right;simp at hlen;obtain⟨x,rfl⟩:∃x,ns=[x]:=List.length_eq_one_iff.1 hlen.symm;have hr0:root=0:=by simp at hr;omega
        subst hr0;refine⟨?_,rfl⟩;simp at h1 h2 h3 hne hlf;cases x;simp at h1 h2 h3 hne hlf;subst h1 h2 h3 hne hlf
        rfl
       ·left;exact⟨0,[root],⟨hr,rfl,hlf,h1,h2,h3,hne,h4,h6⟩,hperm (by simp)⟩
      ·cases hW
     ·rename_i hlf
      split at hW
      ·rename_i hi'
       obtain⟨e1,e2,e3,e4,e5,e6⟩:=kV hi';left
       have hcase:∃h:Nat,l.headD 0=13-(11:Int)+h:=by
        cases hk:(ns.getD root.toNat default).kids with
        |nil=>rw[hk] at e2;simp at e2
        |cons d ds=>
         have hW2:=hW;rw[hk] at hW2;unfold Wk at hW2
         split at hW2
         ·cases hW2
         ·rename_i S1 l1 h1
          split at hW2
          ·cases hW2
          ·cases hW2;obtain⟨h,_,_,e,_⟩:=qq9 11 (by omega) _ _ _ _ _ _ ((l1++_).headD 0) h1 (fun x hx=>hall x (List.mem_append_left _ hx))
           exact⟨h,e⟩
       obtain⟨h,hh⟩:=hcase
       obtain⟨Q,T,b1,b2,b3⟩:=qf3 (h:=h) (dp:=l.headD 0) (fun d lo hi S S' l' a b=>by
        obtain⟨h',P,T,e,c1,c2,c3⟩:=qq9 11 (by omega) d lo hi S S' l' (l.headD 0) a b
        obtain rfl:h'=h:=by omega
        exact⟨P,T,c1,c2,c3⟩) _ _ _ _ _ _ _ e4 hW hall
       refine⟨h+1,root::Q,⟨hr,Q,rfl,⟨Bool.eq_false_iff.2 hlf,e1,e2,e3,e4,e5,e6,b1⟩⟩,hperm ?_⟩;rw[b2,List.map_append];exact(b3.append_right _).trans List.perm_append_comm
      ·cases hW
   ·omega

set_option maxHeartbeats 1000000 in
theorem nZ(key c s lo hi t l:Int)(w:World):
  Calls Tryz.prog 115 #[.int .i64 key,.agg #[.int .i64 c,.int .i64 s,.int .i64 lo,.int .i64 hi,.int .i64 t,.int .i64 l]] w fun e w'=>e=.returned (.int .i64 (entC ⟨key,c,s,lo,hi,t,l⟩))/\Below w.heap.size w w':=by
 by_cases h1:inB key 0 1099511627775=true
 ·by_cases h3:c=0
  ·have E:Hid (entC ⟨key,c,s,lo,hi,t,l⟩=2):=by show _=_;simp[entC,h3]
   subst h3
   go_enter Tryz.func115,Tryz.ntmps115
   go_wp2_with (first|(go_at_call 135;refine(q4h _ _).mono ?_;rintro e w1 ⟨rfl,h5⟩;subst w1))
   go_ret;exact⟨iL E.out.symm,(Below.refl _ _).alloc (Nat.le_refl _) _⟩
  ·have h3':(c==0)=false:=by simpa using h3
   have E:Hid (entC ⟨key,c,s,lo,hi,t,l⟩=bT c s lo hi t l):=by show _=_;simp[entC,h1,h3]
   clear h3
   go_enter Tryz.func115,Tryz.ntmps115
   go_wp2_with (first|(go_at_call 135;refine(q4h _ _).mono ?_;rintro e w1 ⟨rfl,h5⟩;subst w1)|(go_at_call 26;refine(iF _ _ _ _ _ _ _).mono ?_;rintro e w1 ⟨rfl,hb1⟩))
   go_ret;exact⟨iL E.out.symm,aC ((Below.refl _ _).alloc (Nat.le_refl _) _) (Nat.le_refl _) hb1⟩
 ·have h1':inB key 0 1099511627775=false:=by simpa using h1
  have E:Hid (entC ⟨key,c,s,lo,hi,t,l⟩=2):=by show _=_;simp[entC,h1]
  clear h1
  go_enter Tryz.func115,Tryz.ntmps115
  go_wp2_with (first|(go_at_call 135;refine(q4h _ _).mono ?_;rintro e w1 ⟨rfl,h5⟩;subst w1))
  go_ret;exact⟨iL E.out.symm,(Below.refl _ _).alloc (Nat.le_refl _) _⟩

set_option maxHeartbeats 400000 in
theorem xG(w:World):Calls Tryz.prog 61 #[] w fun e w'=>∃g,e=.returned (.agg #[.slice (some ⟨g,0,none⟩) 1 1,.int .i64 0])/\w.heap.size<=g/\RowL w' g 138 [.bool true,.slice none 0 0,.slice none 0 0,.slice none 0 0,.slice none 0 0]/\Below w.heap.size w w':=by
 go_enter Tryz.func61,Tryz.ntmps61
 go_wp2;refine bodyPost_ret (v:=.agg #[.slice (some ⟨w.heap.size+1,0,none⟩) 1 1,.int .i64 0]) (by simp[results,Tryz.results61,go_sem]) rfl ⟨w.heap.size+1,rfl,by omega,?_,lX _ _ _⟩
 have h:=aG (w.alloc (.cells #[.slice (some ⟨w.heap.size+1,0,none⟩) 1 1,.int .i64 0] 32)) [.bool true,.slice none 0 0,.slice none 0 0,.slice none 0 0,.slice none 0 0] 138
 rwa [show(w.alloc (.cells #[.slice (some ⟨w.heap.size+1,0,none⟩) 1 1,.int .i64 0] 32)).heap.size=w.heap.size+1 by simp] at h

theorem qq4(base g C:Nat)(qs:List PN)(k:Nat)(z:Int)(n:Nat)(hz:Hid (z=(k:Int)))(hn:Hid (qs.length=n))(ns1:List Nd)(more1:List (Int × Int))(h1:Nat)(R:List Nd × Int)(w:World)(hN:NT base w g C qs)(hB:base<=w.heap.size)
  (hcon:Hid (∀(W:World) (tb:Nat),TB base W tb g C qs (k:Int)->base<=W.heap.size->Calls Tryz.prog 143 #[.pointer (some ⟨tb,0,none⟩),.int .i64 (k:Int)] W fun e w'=>∃vm g' C' qs',e=.returned vm/\nU base W tb g qs (k:Int) ns1 more1 w' vm g' C' qs'))
  (hrow:more1=[]\/lJ ns1 h1 (k:Int) more1) (hfew:ns1.length+more1.length<=999999) (hR:eX more1.length ns1 (k:Int) more1=R):
  Calls Tryz.prog 119 #[.agg #[.slice (some ⟨g,0,none⟩) n C,.int .i64 z]] w
   fun e w'=>Kept (feet g qs) w w'/\((2000<R.1.length/\e=.returned (.tuple #[.agg #[.slice none 0 0,.int .i64 0],.int .i64 1]))\/
    (R.1.length<=2000/\∃g' C' qs',e=.returned (.tuple #[.agg #[.slice (some ⟨g',0,none⟩) qs'.length C',.int .i64 R.2],.int .i64 0])/\NT base w' g' C' qs'/\qs'.map PN.nd=R.1/\∀b∈feet g' qs',b∈feet g qs\/w.heap.size<=b)):=by
 have e1:z=(k:Int):=hz.out;have e2:qs.length=n:=hn.out;subst e1 e2;exact qbi base g C qs k ns1 more1 h1 R w hN hB hcon hrow hfew hR

structure lM(w wr:World):Prop where
 row:RowL wr w.heap.size 32 [.slice none 0 0,.int .i64 0]

theorem lM.cells{w wr:World}(h:lM w wr):wr.cell? ⟨w.heap.size,0,none⟩=some (.slice none 0 0)/\wr.cell? ⟨w.heap.size,1,none⟩=some (.int .i64 0)/\(∀j,wr.frozen? ⟨w.heap.size,j,none⟩=false)/\w.heap.size<wr.heap.size:=
 ⟨h.row.cell 0,h.row.cell 1,h.row.frozen,h.row.lt⟩

theorem rE{w wr w1:World}{o:Obj}{n:Nat}(hb:Below w.heap.size w wr)(hr:lM w wr)(hb1:Below ((wr.alloc o).drewN n).heap.size ((wr.alloc o).drewN n) w1):Below w.heap.size w w1/\lM w w1:=by
 have h1:Below wr.heap.size wr w1:=aC (jV ((Below.refl _ _).alloc (Nat.le_refl _) _) _) (Nat.le_refl _) hb1;exact⟨aC hb (Nat.le_refl _) h1,⟨hr.row.below h1 hr.row.lt⟩⟩

theorem qly{w wr:World}(hr:lM w wr):(∀(o:Obj) (n:Nat),((wr.alloc o).drewN n).cell? ⟨w.heap.size,0,none⟩=some (.slice none 0 0))/\∀(o:Obj) (n:Nat),((wr.alloc o).drewN n).cell? ⟨w.heap.size,1,none⟩=some (.int .i64 0):=by
 have hb:∀(o:Obj) (n:Nat),Below wr.heap.size wr ((wr.alloc o).drewN n):=fun o n=>jV ((Below.refl _ _).alloc (Nat.le_refl _) _) _
 exact⟨fun o n=>((hb o n).cell (p:=⟨w.heap.size,0,none⟩) hr.row.lt).trans (hr.row.cell 0),fun o n=>((hb o n).cell (p:=⟨w.heap.size,1,none⟩) hr.row.lt).trans (hr.row.cell 1)⟩

def OfP(xs:List En)(w:World)(e:Ending)(w':World):Prop:=
 Below w.heap.size w w'/\
 ((∃c:Int,c≠0/\e=.returned (.tuple #[.agg #[.slice none 0 0,.int .i64 0],.int .i64 c])/\(c=eU xs\/(eU xs=0/\c=1/\2900<xs.length)))\/
 (eU xs=0/\∃g C' qs root,e=.returned (.tuple #[.agg #[.slice (some ⟨g,0,none⟩) qs.length C',.int .i64 root],.int .i64 0])/\NT w.heap.size w' g C' qs/\aV (qs.map PN.nd) root=0/\((qs.map PN.nd).flatMap cont).Perm xs))

def kG(A:Option Addr)(C:Nat)(xs:List En):PN:=⟨true,A,C,xs,none,0,[],none,0,[],none,0,[]⟩

theorem qq7{w wr w1 w2:World}{g C2:Nat}{A2:Option Addr}{xs:List En}{o:Obj}(hb:Below w.heap.size w wr)(hr:lM w wr)(hg:wr.heap.size<=g)(hrow:RowL w1 g 138 [.bool true,.slice none 0 0,.slice none 0 0,.slice none 0 0,.slice none 0 0])(hb1:Below wr.heap.size wr w1)
  (hb2:Below ((w1.alloc o).drew).heap.size ((w1.alloc o).drew) w2) (o2:w2.ownsRow ((w1.alloc o).drew).heap.size 132 7 (.slice A2 xs.length C2) xs.length (aB xs)) (hz:xs.length*56<=140737488351232):
  NT (w.heap.size+1) (w2.setCell ⟨g,1,none⟩ (.slice A2 xs.length C2)) g 1 [kG A2 C2 xs]/\Below w.heap.size w (w2.setCell ⟨g,1,none⟩ (.slice A2 xs.length C2))/\lM w (w2.setCell ⟨g,1,none⟩ (.slice A2 xs.length C2))/\w.heap.size<g:=by
 have hgl:=hrow.lt;have hwg:w.heap.size<g:=Nat.lt_of_lt_of_le hr.row.lt hg;have h12:Below w1.heap.size w1 w2:=aC ((Below.refl _ _).alloc (Nat.le_refl _) _).drew (Nat.le_refl _) hb2;have hw2:Below w.heap.size w w2:=aC (aC hb (Nat.le_refl _) hb1) (Nat.le_refl _) h12;have hrow2:=hrow.below h12 hgl;have hrow3:RowL (w2.setCell ⟨g,1,none⟩ (.slice A2 xs.length C2)) g 138 (bJ [kG A2 C2 xs]):=hrow2.set 1 (.slice A2 xs.length C2)
 have hge:∀b,(Value.slice A2 xs.length C2).ownBlock=some b->w1.heap.size<b:=fun b hb=>by
  have:=(o2.lt b hb).1;simp only[World.size_drew,World.size_alloc] at this;omega
 have hob:∀b,b≠g->(w2.setCell ⟨g,1,none⟩ (.slice A2 xs.length C2)).heap[b]? =w2.heap[b]? :=fun b hb=>Below.heap_setCell _ _ _ _ hb
 refine⟨⟨⟨rfl,.inr ⟨g,1,(bJ [kG A2 C2 xs]).toArray,rfl,hwg,hrow3,Nat.le_refl _,by decide,rfl,rfl⟩⟩,?_,?_,by show 1*104<=_;decide⟩,hw2.setCell (p:=⟨g,1,none⟩) (Nat.le_of_lt hwg) _,⟨?_⟩,hwg⟩
 ·intro q hq;obtain rfl:q=kG A2 C2 xs:=by simpa using hq
  refine⟨?_,World.ownsRow_nil _ _ _ _,World.ownsRow_nil _ _ _ _,World.ownsRow_nil _ _ _ _,hz,by show 0*8<=_;decide,by show 0*8<=_;decide,by show 0*56<=_;decide⟩
  have hs:=hw2.size;refine aW (bP o2 ?_) fun b hb=>hob b (by have:=hge b hb;omega)
  simp only[World.size_drew,World.size_alloc];have:=hb1.size;have:=hb.size;omega
 ·unfold feet PN.blocks kG;cases A2 with
  |none=>simp
  |some a=>
   have:=hge a.block rfl;simp;omega
 ·have hrl:=hr.row.lt;have h1:=hb1.size;have r1:=hr.row.below hb1 hrl;exact(r1.below h12 (by omega)).of_block (hob _ (by omega))

theorem qje{xs:List En}(h:eU xs=0)(hz:xs.length<=12000):oN (aY xs):=by
 by_cases hne:xs=[]
 ·subst hne;exact⟨by decide,fun h=>absurd h (by decide)⟩
 ·have:=xR (q4l h hne);rw[wW] at this;exact this (by rw[(q1y xs).1];omega)

theorem qqn{base g C2:Nat}{A2:Option Addr}{xs:List En}(h:eU xs=0)(hz:xs.length<=12000):∀(W:World) (tb:Nat),TB base W tb g 1 [kG A2 C2 xs] ((0:Nat):Int)->base<=W.heap.size->Calls Tryz.prog 143 #[.pointer (some ⟨tb,0,none⟩),.int .i64 ((0:Nat):Int)] W
  fun e w'=>∃vm g' C' qs',e=.returned vm/\nU base W tb g [kG A2 C2 xs] ((0:Nat):Int) (aQ [aY xs] 0).1 (aQ [aY xs] 0).2 w' vm g' C' qs':=by
 intro W tb hT hB;have hp:=(q1y xs).2.2;refine(q0c base tb g 1 [kG A2 C2 xs] ((0:Nat):Int) 0 W hT (by simp) (qje h hz) hB ?_ rfl).mono ?_
 ·show(1+aO (aY xs)+1)*104<=140737488351232;rw[hp];exact Nat.le_trans (Nat.mul_le_mul_right 104 (show _<=10000 by omega)) (by decide)
 ·rintro e w' ⟨vm,g',C',qs',rfl,hs⟩;exact⟨vm,g',C',qs',rfl,hs.grow⟩

theorem qqa{xs:List En}(hz:xs.length<=12000):(aQ [aY xs] 0).1.length+(aQ [aY xs] 0).2.length<=999999:=by
 have:=q3f xs;omega

theorem q9i{w W3 w4:World}{g C2:Nat}{A2:Option Addr}{xs:List En}(h:NT (w.heap.size+1) W3 g 1 [kG A2 C2 xs]/\Below w.heap.size w W3/\lM w W3/\w.heap.size<g)(hk:Kept (feet g [kG A2 C2 xs]) W3 w4):Below w.heap.size w w4/\lM w w4:=by
 obtain⟨hN,hb,hr,_⟩:=h;have hb4:Below w.heap.size W3 w4:=hk.below hb.size (fun x hx=>by have:=(hN.lt x hx).1;omega)
 refine⟨hb.trans hb4,⟨hk.row hr.row ?_⟩⟩;intro e;have:=(hN.lt _ e).1;omega

theorem qor{xs:List En}(h:eU xs=0)(hb:2000<(ofN xs).1.length):2900<xs.length:=by
 have:=qne xs h;omega

theorem qqs{base base' g C:Nat}{w:World}{qs:List PN}(h:NT base w g C qs)(hb:base'<=base):NT base' w g C qs:=
 ⟨bP h.own hb,fun q hq=>⟨bP (h.each q hq).e hb,bP (h.each q hq).k hb,bP (h.each q hq).d hb,bP (h.each q hq).b hb,(h.each q hq).ez,(h.each q hq).kz,(h.each q hq).dz,(h.each q hq).bz⟩,h.apart,h.z⟩

theorem qld{w w4:World}{g C:Nat}{qs:List PN}(hN:NT (w.heap.size+1) w4 g C qs)(v0 v1:Value):NT w.heap.size ((w4.setCell ⟨w.heap.size,0,none⟩ v0).setCell ⟨w.heap.size,1,none⟩ v1) g C qs:=by
 have h:NT (w.heap.size+1) ((w4.setCell ⟨w.heap.size,0,none⟩ v0).setCell ⟨w.heap.size,1,none⟩ v1) g C qs:=hN.of_blocks fun b hb=>by
  have hne:b≠w.heap.size:=by have:=(hN.lt b hb).1;omega
  exact(Below.heap_setCell _ _ _ _ hne).trans (Below.heap_setCell _ _ _ _ hne)
 exact qqs h (by omega)

set_option maxRecDepth 20000 in
set_option maxHeartbeats 4000000 in
theorem qm8(A:Option Addr)(C:Nat)(xs:List En)(w:World)(h:aH w.heap.size w A (aB xs))(hA:A=none->C=0)(hz:xs.length*56<=140737488351232):
  Calls Tryz.prog 120 #[.slice A xs.length C] w (OfP xs w):=by
 have hr0:lM w (w.alloc (.cells #[.slice none 0 0,.int .i64 0] 32)):=⟨aG w [.slice none 0 0,.int .i64 0] 32⟩
 go_enter Tryz.func120,Tryz.ntmps120
 go_wp2_with fail
 go_loopw [10] (fun i wr=>∃k:Nat,k<=xs.length/\i=.int .i64 k/\Hid (eU xs=fltF xs (xs.length-k) k)/\Below w.heap.size w wr/\lM w wr) (fun i _=>xs.length-(intOf i).toNat)
 case atStart=>exact⟨0,Nat.zero_le _,rfl,rfl,(Below.refl _ _).alloc (Nat.le_refl _) _,hr0⟩
 case round=>
  obtain⟨k,hk,rfl,HR,hb,hr⟩:=hrel;obtain⟨r0,r1,rf,rl⟩:=hr.cells
  by_cases hlt:k<xs.length
  ·obtain⟨b,o,rfl,hbl,c0,c1,c2,c3,c4,c5,c6⟩:=(h.below hb (Nat.le_refl _)).en hlt;have hbw:b<wr.heap.size:=Nat.lt_of_lt_of_le hbl hb.size
   have HP:Hid ((k=0)\/∃m,k=m+1/\∃hm:m<xs.length,wr.cell? ⟨b,o+m*7,none⟩=some (.int .i64 xs[m].key)):=by
    cases k with
    |zero=>exact .inl rfl
    |succ m=>
     have hm:m<xs.length:=by omega
     obtain⟨b',o',hA,_,d0,_⟩:=(h.below hb (Nat.le_refl _)).en hm;cases hA;exact .inr ⟨m,rfl,hm,d0⟩
   have HGO:=aA (qqu hlt HR.out);have HSTOP:=aA (qko hlt HR.out)
   by_cases ho:ordB xs k=true
   ·rcases HP.out with hk0|⟨m,hkm,hm,cm⟩
    ·rw[hk0,qh9] at ho;cases ho
    ·subst hkm;have hle:xs[m+1].key<=xs[m].key:=by rw[q6m hlt] at ho;simpa using ho
     have HE:Hid (eU xs=8):=by
      have e8:jS xs (m+1)=8:=by unfold jS;rw[if_pos ho]
      have:=HSTOP.out (by rw[e8];decide)
      rw[e8] at this;exact this
     have hk0':decide (0<m+1)=true:=by simp
     clear HGO HSTOP HP ho;generalize xs[m+1]=x at *;generalize xs[m].key=pk at *;go_wp2_with fail
     go_quiet (fail)
     go_wp2;refine bodyPost_ret (v:=.tuple #[.agg #[.slice none 0 0,.int .i64 0],.int .i64 8]) (by simp[results,Tryz.results120,go_sem,(qly hr).1,(qly hr).2]) rfl ⟨?_,.inl ⟨8,by decide,rfl,.inl HE.out.symm⟩⟩
     exact((jV (hb.alloc hb.size _) _).setCell (p:=⟨w.heap.size,0,none⟩) (Nat.le_refl _) _).setCell (p:=⟨w.heap.size,1,none⟩) (Nat.le_refl _) _
   ·have ho':ordB xs k=false:=by simpa using ho
    have hf:=qq2 hlt ho'
    have HO:Hid (∀m (hm:m<xs.length),k=m+1->¬xs[k].key<=xs[m].key):=by
     rintro m hm rfl;rw[q6m hlt] at ho'
     simpa using ho'
    rw[hf] at HGO HSTOP;clear hf;rcases HP.out with hk0|⟨m,hkm,hm,cm⟩
    ·have hk0':decide (0<k)=false:=by simp;omega
     have HK0:Hid (k=0):=hk0;clear hk0 HP ho ho' HO;generalize xs[k]=x at *;obtain⟨key,c,s,xlo,xhi,t,l⟩:=x;simp only at c0 c1 c2 c3 c4 c5 c6
     by_cases h1:entC ⟨key,c,s,xlo,xhi,t,l⟩=0
     ·have HY:=aA (HGO.out h1);have hcon:=aA (fun W=>nZ key c s xlo xhi t l W)
      rw[h1] at hcon;clear HGO HSTOP h1;go_wp2_with fail
      go_quiet (fail)
      go_wp2_with (first|(go_at_call 115;refine(hcon.out _).mono ?_;rintro e w1 ⟨rfl,hb1⟩))
      go_roundw
      case rel=>exact⟨k+1,by omega,by go_num,HY.out,rE hb hr hb1⟩
      case measure=>simp[intOf];omega
     ·have HE:Hid (eU xs=entC ⟨key,c,s,xlo,xhi,t,l⟩):=HSTOP.out h1;have hcon:=aA (fun W=>nZ key c s xlo xhi t l W)
      generalize entC ⟨key,c,s,xlo,xhi,t,l⟩=cc at *;have h1':(cc != 0)=true:=by simpa using h1
      have HC:Hid (cc≠0):=h1;clear HGO HSTOP h1;go_wp2_with fail
      go_quiet (fail)
      go_wp2_with (first|(go_at_call 115;refine(hcon.out _).mono ?_;rintro e w1 ⟨rfl,hb1⟩;obtain⟨q0,q1,qf,ql⟩:=(rE hb hr hb1).2.cells))
      refine bodyPost_ret (v:=.tuple #[.agg #[.slice none 0 0,.int .i64 0],.int .i64 cc]) (by simp[results,Tryz.results120,go_sem,q0,q1]) rfl ⟨?_,.inl ⟨cc,HC.out,rfl,.inl HE.out.symm⟩⟩
      exact((rE hb hr hb1).1.setCell (p:=⟨w.heap.size,0,none⟩) (Nat.le_refl _) _).setCell (p:=⟨w.heap.size,1,none⟩) (Nat.le_refl _) _
    ·have hn:=HO.out m hm hkm;subst hkm;have hk0':decide (0<m+1)=true:=by simp
     clear HP ho ho' HO;generalize xs[m+1]=x at *;generalize xs[m].key=pk at *;obtain⟨key,c,s,xlo,xhi,t,l⟩:=x;simp only at c0 c1 c2 c3 c4 c5 c6 hn
     by_cases h1:entC ⟨key,c,s,xlo,xhi,t,l⟩=0
     ·have HY:=aA (HGO.out h1);have hcon:=aA (fun W=>nZ key c s xlo xhi t l W)
      rw[h1] at hcon;clear HGO HSTOP h1;go_wp2_with fail
      go_quiet (fail)
      go_wp2_with (first|(go_at_call 115;refine(hcon.out _).mono ?_;rintro e w1 ⟨rfl,hb1⟩))
      go_roundw
      case rel=>exact⟨m+1+1,by omega,by go_num,HY.out,rE hb hr hb1⟩
      case measure=>simp[intOf];omega
     ·have HE:Hid (eU xs=entC ⟨key,c,s,xlo,xhi,t,l⟩):=HSTOP.out h1;have hcon:=aA (fun W=>nZ key c s xlo xhi t l W)
      generalize entC ⟨key,c,s,xlo,xhi,t,l⟩=cc at *;have h1':(cc != 0)=true:=by simpa using h1
      have HC:Hid (cc≠0):=h1;clear HGO HSTOP h1;go_wp2_with fail
      go_quiet (fail)
      go_wp2_with (first|(go_at_call 115;refine(hcon.out _).mono ?_;rintro e w1 ⟨rfl,hb1⟩;obtain⟨q0,q1,qf,ql⟩:=(rE hb hr hb1).2.cells))
      refine bodyPost_ret (v:=.tuple #[.agg #[.slice none 0 0,.int .i64 0],.int .i64 cc]) (by simp[results,Tryz.results120,go_sem,q0,q1]) rfl ⟨?_,.inl ⟨cc,HC.out,rfl,.inl HE.out.symm⟩⟩
      exact((rE hb hr hb1).1.setCell (p:=⟨w.heap.size,0,none⟩) (Nat.le_refl _) _).setCell (p:=⟨w.heap.size,1,none⟩) (Nat.le_refl _) _
  ·obtain rfl:k=xs.length:=by omega
   have HE:Hid (eU xs=0):=qng HR.out
   by_cases hbig:12000<xs.length
   ·have hbig':(12000:Int)<(xs.length:Int):=by omega
    go_wp2_with fail;refine bodyPost_ret (v:=.tuple #[.agg #[.slice none 0 0,.int .i64 0],.int .i64 1]) (by simp[results,Tryz.results120,go_sem,r0,r1]) rfl ⟨?_,.inl ⟨1,by decide,rfl,.inr ⟨HE.out,rfl,by omega⟩⟩⟩
    exact(hb.setCell (p:=⟨w.heap.size,0,none⟩) (Nat.le_refl _) _).setCell (p:=⟨w.heap.size,1,none⟩) (Nat.le_refl _) _
   ·have hbig':¬(12000:Int)<(xs.length:Int):=by omega
    have hx:=aA ((h.below hb (Nat.le_refl _)).mono hb.size);have HRS:=aA hr;go_upto_region 13 with(go_at_call 61;refine(xG _).mono ?_;rintro e w1 ⟨g,rfl,hg,hrow,hb1⟩);have gl:=hrow.lt;have bx0:(w1.alloc (.cells #[.slice (some ⟨g,0,none⟩) 1 1,.int .i64 0] 32)).cell? ⟨w1.heap.size,0,none⟩=some (.slice (some ⟨g,0,none⟩) 1 1):=(aG w1 [.slice (some ⟨g,0,none⟩) 1 1,.int .i64 0] 32).cell 0;have bx1:(w1.alloc (.cells #[.slice (some ⟨g,0,none⟩) 1 1,.int .i64 0] 32)).cell? ⟨w1.heap.size,1,none⟩=some (.int .i64 0):=(aG w1 [.slice (some ⟨g,0,none⟩) 1 1,.int .i64 0] 32).cell 1;have g1:=hrow.cell 1;simp only[List.getElem?_cons_zero,List.getElem?_cons_succ] at g1;have gf:=hrow.frozen;have ne1:¬w1.heap.size=g:=by omega
    have KS:∀(W:World) (b o j:Nat) (v:Value),¬b=g->(W.setCell ⟨g,j,none⟩ v).cell? ⟨b,o,none⟩=W.cell? ⟨b,o,none⟩:=fun W b o j v hb=>World.cell?_setCell_far _ _ _ _ (fun e=>hb e.symm)
    have HB1:=aA hb1;have HRW:=aA hrow;clear hrow;have G1:Below wr.heap.size wr ((w1.alloc (.cells #[.slice (some ⟨g,0,none⟩) 1 1,.int .i64 0] 32)).drew):=(aC hb1 (Nat.le_refl _) ((Below.refl _ _).alloc (Nat.le_refl _) _)).drew
    go_region_held3 (fun w'=>w'.cell? ⟨w1.heap.size,0,none⟩=some (.slice (some ⟨g,0,none⟩) 1 1)/\w'.cell? ⟨w1.heap.size,1,none⟩=some (.int .i64 0)) (go_keep)
     (first
      |(go_at_call 137;refine(wG _ _ xs _ (hx.out.go G1 (Nat.le_refl _) (Nat.le_refl _)) hA hz).mono ?_;rintro e w2 ⟨v2,rfl,o2,hb2⟩;obtain⟨A2,C2,rfl,-⟩:=aN o2;obtain⟨T2,F2⟩:=aZ (hb2.mono (show w1.heap.size+1<=_ by simp));have x1:w2.cell? ⟨g,1,none⟩=some (.slice none 0 0):=(T2 g 1 (by omega)).trans ((World.cell?_of_block (a:=⟨g,1,none⟩) (Below.heap_alloc _ _ _ gl)).trans g1);have xf:w2.frozen? ⟨g,1,none⟩=false:=(F2 g 1 (by omega)).trans ((World.frozen?_of_block (a:=⟨g,1,none⟩) (Below.heap_alloc _ _ _ gl)).trans (gf 1));have z2:w1.heap.size<w2.heap.size:=Nat.lt_of_lt_of_le (by simp) hb2.size))
    have HM:=aA (qq7 hb HRS.out hg HRW.out hb1 hb2 o2 hz);have HCON:=aA (qqn (A2:=A2) (C2:=C2) (g:=g) (base:=w.heap.size+1) HE.out (Nat.le_of_not_lt hbig));have HFEW:=aA (qqa (xs:=xs) (Nat.le_of_not_lt hbig));have hcell:=‹(w2.setCell ⟨g,1,none⟩ (.slice A2 xs.length C2)).cell? ⟨w1.heap.size,0,none⟩=some (.slice (some ⟨g,0,none⟩) 1 1)/\(w2.setCell ⟨g,1,none⟩ (.slice A2 xs.length C2)).cell? ⟨w1.heap.size,1,none⟩=some (.int .i64 0)›;obtain⟨W3,hW3⟩:∃W3,w2.setCell ⟨g,1,none⟩ (.slice A2 xs.length C2)=W3:=⟨_,rfl⟩;rw[hW3] at HM hcell ⊢;obtain⟨y0,y1⟩:=hcell;have z3:w1.heap.size<W3.heap.size:=by rw[<-hW3];simpa using z2
    clear hW3 T2 F2 x1 xf o2 hb2 KS bx0 bx1 g1 gf G1 z2
    go_wp2_with (first
     |(go_at_call 119;refine(qq4 (w.heap.size+1) g 1 [kG A2 C2 xs] 0 0 1 (show(0:Int)=((0:Nat):Int) from rfl) (show[kG A2 C2 xs].length=1 from rfl) (aQ [aY xs] 0).1 (aQ [aY xs] 0).2 0 (ofN xs) _ HM.out.1 HM.out.2.2.1.row.lt HCON.out (qbj HE.out) HFEW.out rfl).mono ?_;rintro e w4 ⟨hk4,hE4⟩;obtain⟨s0,s1,sf,sl⟩:=(q9i HM.out hk4).2.cells;rcases hE4 with⟨hbigR,rfl⟩|⟨hsm,g5,C5,qs5,rfl,hN5,hnd5,hold5⟩))
    ·have hb4:=(q9i HM.out hk4).1;refine bodyPost_ret (v:=.tuple #[.agg #[.slice none 0 0,.int .i64 0],.int .i64 1]) (by simp[results,Tryz.results120,go_sem,s0,s1]) rfl ⟨?_,.inl ⟨1,by decide,rfl,.inr ⟨HE.out,rfl,qor HE.out hbigR⟩⟩⟩
     exact(hb4.setCell (p:=⟨w.heap.size,0,none⟩) (Nat.le_refl _) _).setCell (p:=⟨w.heap.size,1,none⟩) (Nat.le_refl _) _
    ·have hb4:=(q9i HM.out hk4).1;refine bodyPost_ret (v:=.tuple #[.agg #[.slice (some ⟨g5,0,none⟩) qs5.length C5,.int .i64 (ofN xs).2],.int .i64 0]) (by simp[results,Tryz.results120,go_sem,s0,s1]) rfl ⟨?_,.inr ⟨HE.out,g5,C5,qs5,(ofN xs).2,rfl,qld hN5 _ _,?_,?_⟩⟩
     ·exact(hb4.setCell (p:=⟨w.heap.size,0,none⟩) (Nat.le_refl _) _).setCell (p:=⟨w.heap.size,1,none⟩) (Nat.le_refl _) _
     ·rw[hnd5];exact(qls HE.out hsm).1
     ·rw[hnd5];exact(qls HE.out hsm).2

end
end Go.Proofs.YtlojfgdpmaigmagGreatDoor

/- A node of a tree in memory of one's own adopts the siblings of a kid. -/
import Derived.Test.YtlojfgdpmaigmagGreatDoorP35
import Derived.Test.YtlojfgdpmaigmagGreatDoorP29
import Derived.Test.YtlojfgdpmaigmagGreatDoorP30
namespace Go.Proofs.YtlojfgdpmaigmagGreatDoor
section
open Go.RowKit Plain

theorem qhv{w:World}{base g C n:Nat}{e:TypeId}{size:Nat}{vs:List Value}(h:w.ownsRow base e size (.slice (some ⟨g,0,none⟩) n C) n vs):∃cur:List Value,RowL w g e cur/\cur.length=C*size/\cur.take (n*size)=vs/\n<=C/\C<=maxLen/\base<=g:=by
 rcases h.2 with⟨hv,_⟩|⟨g',cap,cur,hv,hb,hg,hl,hm,hs,ht⟩
 ·cases hv
 ·cases hv;exact⟨cur.toList,by unfold RowL;rw[hg],by simpa using hs,ht,hl,hm,hb⟩

theorem qch{w:World}{base g C n:Nat}{e:TypeId}{size:Nat}{vs cur:List Value}(hr:RowL w g e cur)(hl:cur.length=C*size)(ht:cur.take (n*size)=vs)(hn:n<=C)(hm:C<=maxLen)(hb:base<=g)(hv:vs.length=n*size):w.ownsRow base e size (.slice (some ⟨g,0,none⟩) n C) n vs:=
 ⟨hv,.inr ⟨g,C,cur.toArray,rfl,hb,hr,hn,hm,by simpa using hl,by simpa using ht⟩⟩

theorem qde(keys:List Int)(i:Nat)(more:List (Int × Int)):iR keys i more more.length=keys.take i++more.map (·.1)++keys.drop i:=by unfold iR;rw[List.take_length]
theorem qd8(kids:List Int)(i:Nat)(more:List (Int × Int)):iU kids i more more.length=kids.take (i+1)++more.map (·.2)++kids.drop (i+1):=by unfold iU;rw[List.take_length]

theorem q9w{B:Nat}{E K D K' D' X:List Nat}(h:(E++(K++(D++X))).Nodup)(hK:K'.Nodup)(hD:D'.Nodup)(hKD:∀b∈K',b∉D')(hk:∀b∈K',b∈K\/B<=b)(hd:∀b∈D',b∈D\/B<=b)(hlt:∀b∈E++(K++(D++X)),b<B):(E++(K'++(D'++X))).Nodup:=by
 simp only[List.nodup_append,List.mem_append] at h hlt ⊢;obtain⟨hE,⟨_,⟨_,hX,hDX⟩,hKDX⟩,hEK⟩:=h;refine⟨hE,⟨hK,⟨hD,hX,fun a ha b hb e=>?_⟩,fun a ha b hb e=>?_⟩,fun a ha b hb e=>?_⟩
 ·rcases hd a ha with q|q
  ·exact hDX a q b hb e
  ·have:=hlt b (.inr (.inr (.inr hb)));omega
 ·rcases hb with hb|hb
  ·exact hKD a ha (e▸hb)
  ·rcases hk a ha with q|q
   ·exact hKDX a q b (.inr hb) e
   ·have:=hlt b (.inr (.inr (.inr hb)));omega
 ·rcases hb with hb|hb|hb
  ·rcases hk b hb with q|q
   ·exact hEK a ha b (.inl q) e
   ·have:=hlt a (.inl ha);omega
  ·rcases hd b hb with q|q
   ·exact hEK a ha b (.inr (.inl q)) e
   ·have:=hlt a (.inl ha);omega
  ·exact hEK a ha b (.inr (.inr hb)) e

theorem qpi(base tb g C:Nat)(qs:List PN)(root:Int)(k i:Nat)(mA:Option Addr)(mC:Nat)(more:List (Int × Int))(w:World)(hT:TB base w tb g C qs root)(hk:k<qs.length)(hi:i<(qs[k]).kids.length)(hkl:(qs[k]).keys.length+1=(qs[k]).kids.length)(hB:base<=w.heap.size)(hm:aH w.heap.size w mA (fZ more))(hmb:∀a,mA=some a->a.block∉feet g qs)(hz:((qs[k]).kids.length+more.length+1)*8<=140737488351232):
  Calls Tryz.prog 144 #[.pointer (some ⟨g,k*5,none⟩),.int .i64 (i:Int),.slice mA more.length mC] w
   fun e w'=>e=.returned (.tuple #[])/\∃qs',TB base w' tb g C qs' root/\qs'.map PN.nd=iQ (qs.map PN.nd) (k:Int) i more/\qs'.length=qs.length/\Kept (feet g qs) w w'/\∀b∈feet g qs',b∈feet g qs\/w.heap.size<=b:=by
 obtain⟨b1,b2,b3,b4⟩:=hT.nt.blocks_nodup hk;have ho:=hT.nt.each _ (List.getElem_mem hk);have hlt:=ho.lt;have hfl:=hT.nt.lt;have hx:=jO hk;obtain⟨cur,hrow,hcl,hct,hnC,hCm,hbg⟩:=qhv hT.nt.own;obtain⟨q,hq⟩:∃q,qs[k]=q:=⟨_,rfl⟩
 have hcell:∀j,j<5->∀u,q.vals[j]? =some u->cur[k*5+j]? =some u:=fun j hj u hu=>by
  have:=wO qs k j hk hj;rw[<-hct,List.getElem?_take,if_pos (by omega),hq] at this
  rw[this];exact hu
 rw[hq] at b1 b2 b3 b4 ho hlt hi hkl hz hx;have hbe:=iZ q
 have hset2:cur.set (k*5+2) (.slice q.kA q.keys.length q.kC)=cur:=by
  have h:=hcell 2 (by decide) _ rfl
  obtain⟨h1,h2⟩:=List.getElem?_eq_some_iff.1 h;rw[<-h2,List.set_getElem_self]
 have hset3:cur.set (k*5+3) (.slice q.dA q.kids.length q.dC)=cur:=by
  have h:=hcell 3 (by decide) _ rfl
  obtain⟨h1,h2⟩:=List.getElem?_eq_some_iff.1 h;rw[<-h2,List.set_getElem_self]
 have hgk:g∉obk q.kA:=fun e=>b3 (by rw[hbe];simp[e])
 have hgd:g∉obk q.dA:=fun e=>b3 (by rw[hbe];simp[e])
 have hkd:∀b∈obk q.kA,b∉obk q.dA:=fun b h1 h2=>by
  rw[hbe] at b1;simp only[List.nodup_append,List.mem_append] at b1;exact b1.2.1.2.2 b h1 b (.inl h2) rfl
 have hA:AdAt base w g (k*5) 138 cur q.kA q.dA w q.kA q.kC q.keys q.dA q.dC q.kids:=
  ⟨by rw[hset2,hset3];exact hrow,ho.k,ho.d,Kept.refl _ _,fun _ h=>.inl h,fun _ h=>.inl h,hkd,hgk,hgd⟩
 refine(q5m base g (k*5) 138 cur q.kA q.kC q.keys q.dA q.dC q.kids i mA mC more w hA (by rw[hcl];omega) hB hm (fun a ha=>?_) (by omega) (by omega) (by omega) hz).mono ?_
 ·have:=hmb a ha;intro e;simp only[List.cons_append,List.mem_cons,List.mem_append] at e;rcases e with e|e|e
  ·exact this (e▸List.mem_cons_self)
  ·exact this (b2 _ (by rw[hbe];simp[e]))
  ·exact this (b2 _ (by rw[hbe];simp[e]))
 ·rintro e w' ⟨rfl,kA',kC',dA',dC',hA'⟩;rw[qde,qd8] at hA';have hkl':(q.keys.take i++more.map (·.1)++q.keys.drop i).length=q.keys.length+more.length:=by simp;omega
  have hdl':(q.kids.take (i+1)++more.map (·.2)++q.kids.drop (i+1)).length=q.kids.length+more.length:=by simp;omega
  generalize hK:q.keys.take i++more.map (·.1)++q.keys.drop i=keys' at hA' hkl';generalize hD:q.kids.take (i+1)++more.map (·.2)++q.kids.drop (i+1)=kids' at hA' hdl';obtain⟨p,hp⟩:∃p:PN,p={ q with keys:=keys',kA:=kA',kC:=kC',kids:=kids',dA:=dA',dC:=dC' }:=⟨_,rfl⟩;have hpb:p.blocks=obk q.eA++(obk kA'++(obk dA'++obk q.bA)):=by rw[iZ,hp]
  have hblk:∀b∈p.blocks,b∈q.blocks\/w.heap.size<=b:=by
   intro b hb;rw[hpb] at hb;rw[hbe];simp only[List.mem_append] at hb ⊢;rcases hb with e|e|e|e
   ·exact .inl (.inl e)
   ·rcases hA'.lk b e with e|e
    ·exact .inl (.inr (.inl e))
    ·exact .inr e
   ·rcases hA'.ld b e with e|e
    ·exact .inl (.inr (.inr (.inl e)))
    ·exact .inr e
   ·exact .inl (.inr (.inr (.inr e)))
  have hnd:p.blocks.Nodup:=by
   rw[hpb];rw[hbe] at b1 hlt;exact q9w b1 (wR _) (wR _) hA'.ne hA'.lk hA'.ld (fun b hb=>(hlt b hb).2)
  obtain⟨f1,f2⟩:=q6b (p:=p) (B:=w.heap.size) hk hT.nt.apart hnd (fun b hb=>(hfl b hb).2) (by rw[hq];exact hblk)
  have hfar:∀b,b∈feet g qs->b≠g->b∉obk q.kA->b∉obk q.dA->w'.heap[b]? =w.heap[b]? :=fun b h1 h2 h3 h4=>hA'.kept.block b (hfl b h1).2 (by simp[h2,h3,h4])
  have hkept:Kept (feet g qs) w w':=hA'.kept.mono fun b hb=>by
   simp only[List.cons_append,List.mem_cons,List.mem_append] at hb;rcases hb with rfl|e|e
   ·exact List.mem_cons_self
   ·exact b2 _ (by rw[hbe];simp[e])
   ·exact b2 _ (by rw[hbe];simp[e])
  have hgn:∀b∈q.blocks,b≠g:=fun b hb e=>b3 (e▸hb)
  refine⟨rfl,qs.set k p,⟨⟨?_,fun s hs=>?_,f1,by simpa using hT.nt.z⟩,?_,?_,hT.hb⟩,?_,by simp,hkept,f2⟩
  ·have e1:p.vals=(q.vals.set 2 (.slice kA' keys'.length kC')).set 3 (.slice dA' kids'.length dC'):=by rw[hp];rfl
   have e2:bJ (qs.set k p)=((bJ qs).set (k*5+2) (.slice kA' keys'.length kC')).set (k*5+3) (.slice dA' kids'.length dC'):=by
    obtain⟨p1,hp1⟩:∃p1:PN,p1={ q with keys:=keys',kA:=kA',kC:=kC' }:=⟨_,rfl⟩;have s1:=q0l qs k 2 (.slice kA' keys'.length kC') p1 hk (by decide) (by rw[hq,hp1];rfl)
    have s2:=q0l (qs.set k p1) k 3 (.slice dA' kids'.length dC') p (by simpa using hk) (by decide) (by rw[List.getElem_set_self,hp,hp1];rfl)
    rw[s1,s2,List.set_set]
   rw[e2,List.length_set];refine qch hA'.row (by simp[hcl]) ?_ hnC hCm hbg (by simp[lT])
   rw[List.take_set,List.take_set,hct]
  ·rw[(jW qs k p hk).2] at hs
   have hs':s∈qs.take k++qs.drop (k+1)\/s=p:=by
    simp only[List.mem_append,List.mem_cons] at hs ⊢;rcases hs with e|e|e
    ·exact .inl (.inl e)
    ·exact .inr e
    ·exact .inl (.inr e)
   rcases hs' with hs'|rfl
   ·have hsm:s∈qs:=by
     rcases List.mem_append.1 hs' with e|e
     ·exact List.mem_of_mem_take e
     ·exact List.mem_of_mem_drop e
    refine(hT.nt.each s hsm).of_blocks fun b hbs=>?_
    have hbf:b∈feet g qs:=List.mem_cons_of_mem _ (List.mem_flatMap.2 ⟨s,hsm,hbs⟩)
    have hbg':b≠g:=fun e=>by
     have ha:=hT.nt.apart;rw[feet,List.nodup_cons] at ha;exact ha.1 (List.mem_flatMap.2 ⟨s,hsm,e▸hbs⟩)
    have hbq:=b4 s hs' b hbs;rw[hbe] at hbq;simp only[List.mem_append,not_or] at hbq;exact hfar b hbf hbg' hbq.2.1 hbq.2.2.1
   ·have hrest:∀b,b∈obk q.eA\/b∈obk q.bA->w'.heap[b]? =w.heap[b]? :=fun b hb=>by
     have hbq:b∈q.blocks:=by rw[hbe];rcases hb with e|e<;>simp[e]
     rw[hbe] at b1;simp only[List.nodup_append,List.mem_append] at b1;refine hfar b (b2 b hbq) (hgn b hbq) (fun e=>?_) (fun e=>?_)
     ·rcases hb with q1|q1
      ·exact b1.2.2 b q1 b (.inl e) rfl
      ·exact b1.2.1.2.2 b e b (.inr q1) rfl
     ·rcases hb with q1|q1
      ·exact b1.2.2 b q1 b (.inr (.inl e)) rfl
      ·exact b1.2.1.2.1.2.2 b e b q1 rfl
    rw[hp];exact⟨aW ho.e fun b hb=>hrest b (.inl (jQ hb)),hA'.ok,hA'.od,aW ho.b fun b hb=>hrest b (.inr (jQ hb)),ho.ez,by show keys'.length*8<=_;omega,by show kids'.length*8<=_;omega,ho.bz⟩
  ·rw[List.length_set];exact hkept.row hT.box (fun e=>hT.ne e)
  ·intro e;rcases f2 _ e with e|e
   ·exact hT.ne e
   ·have:=hT.box.lt;omega
  ·rw[List.map_set];unfold iQ;rw[hx];show(qs.map PN.nd).set k p.nd=(qs.map PN.nd).set ((k:Int).toNat) (oW q.nd i more);congr 1;rw[hp];unfold oW PN.nd;simp only;rw[hK,hD]

theorem q6a{w:World}{base base':Nat}{e:TypeId}{size n:Nat}{v:Value}{vs:List Value}(h:w.ownsRow base e size v n vs)(hb:base'<=base):w.ownsRow base' e size v n vs:=by
 refine⟨h.1,?_⟩;rcases h.2 with q|⟨g,cap,cur,h1,h2,rest⟩
 ·exact .inl q
 ·exact .inr ⟨g,cap,cur,h1,Nat.le_trans hb h2,rest⟩

theorem wC(ns:List Nd)(p:Int):ns.length<=(aQ ns p).1.length:=by
 unfold aQ
 split
 ·exact Nat.le_refl _
 ·simp

theorem wS{rec:List Nd->Int->List Nd × List (Int × Int)}(hr:∀ns p,ns.length<=(rec ns p).1.length)(p:Int):∀(i:Nat) (ns:List Nd),ns.length<=(iV rec p i ns).length
 |0,_=>Nat.le_refl _
 |i+1,ns=>by
  rw[iV];refine Nat.le_trans ?_ (wS hr p i _)
  simpa [iQ] using hr ns _

theorem yY:∀(h:Nat) (ns:List Nd) (p:Int),ns.length<=(bI h ns p).1.length
 |0,ns,p=>wC ns p
 |h+1,ns,p=>Nat.le_trans (wS (yY h) p _ ns) (wC _ p)

structure SaAt(mL:Nat)(base:Nat)(w wr:World)(tb g:Nat)(qs:List PN)(root:Int)(h k:Nat)(lo hi:Int)(P:List Int)(i:Nat)(g' C':Nat)(qs':List PN):Prop where
 tree:TB base wr tb g' C' qs' root
 kept:Kept (tb::feet g qs) w wr
 old:∀b∈feet g' qs',b∈feet g qs\/w.heap.size<=b
 ok:lF mL (qs.map PN.nd) (qs'.map PN.nd) h (k:Int) lo hi P (nth (qs.map PN.nd) (k:Int)) i
 fin:iV (bI h) (k:Int) i (qs'.map PN.nd)=iV (bI h) (k:Int) (nth (qs.map PN.nd) (k:Int)).kids.length (qs.map PN.nd)

theorem q5d{g:Rel}(hg:∀d lo hi Q,g d lo hi Q->Q≠[]):∀{L:List (Int × Int)} {lo:Int} {Q:List Int},SubK g lo L Q->L.length<=Q.length
 |[],_,_,_=>Nat.zero_le _
 |(d,u)::r,lo,Q,h=>by
  obtain⟨Q1,Q2,rfl,h1,h2⟩:=h;have a:=hg _ _ _ _ h1;have b:=q5d hg h2;have c:1<=Q1.length:=by cases Q1 with|nil=>exact absurd rfl a|cons=>simp
  simp;omega

theorem qm4{mL mK:Nat}{ns:List Nd}:∀(h:Nat) (d lo hi:Int) (Q:List Int),Sub mL mK ns h d lo hi Q->Q≠[]
 |0,_,_,_,_,h=>by rw[h.2.1];simp
 |_+1,_,_,_,_,h=>by obtain⟨_,Q,rfl,_⟩:=h;simp

theorem SaAt.node{mL base:Nat}{w wr:World}{tb g:Nat}{qs:List PN}{root:Int}{h k:Nat}{lo hi:Int}{P:List Int}{i g' C':Nat}{qs':List PN}(H:SaAt mL base w wr tb g qs root h k lo hi P i g' C' qs')(hk:k<qs.length)(hP:P.Nodup)(hPr:∀n∈P,0<=n/\n<((qs.map PN.nd).length:Int)):
  ∃h':k<qs'.length,(qs'[k]).keys.length+1=(qs'[k]).kids.length/\(nth (qs.map PN.nd) (k:Int)).kids.length<=(qs'[k]).kids.length/\(qs'[k]).kids.length<=qs'.length:=by
 have hle:=H.ok.le;simp only[List.length_map] at hle;have hk':k<qs'.length:=by omega
 obtain⟨kids,keys,T,Q1,Q2,hn,hkl,hle2,htk,hU,s1,s2,hpm⟩:=H.ok.at';rw[jO hk'] at hn;have e1:(qs'[k]).kids=kids:=congrArg Nd.kids hn;have e2:(qs'[k]).keys=keys:=congrArg Nd.keys hn;refine⟨hk',by rw[e1,e2];exact hkl,by rw[e1];exact hle2,?_⟩
 rw[e1];have l1:=q5d (qm4 h) s1;have l2:=q5d (qm4 h) s2;have l3:(ups kids keys hi).length=kids.length:=by simp[ups];omega
 rw[hU] at l3;have l4:=hpm.length_eq
 have l5:P.length<=qs.length:=by
  have:=nM P (aT 0 qs.length) hP fun n hn=>by
   have:=hPr n hn;simp at this;exact placesF_mem.2 ⟨by omega,by omega⟩
  rwa [lQ] at this
 simp only[List.length_append,List.length_cons,lQ,List.length_map] at l3 l4;omega

set_option maxRecDepth 20000 in
set_option maxHeartbeats 4000000 in
theorem q4t{mL h:Nat}(base tb g C:Nat)(qs:List PN)(root:Int)(k:Nat)(lo hi:Int)(P:List Int)(N:Nat)(w:World)(hT:TB base w tb g C qs root)(hk:k<qs.length)(hB:base<=w.heap.size)(hN:N<=999999)(hkn:(nth (qs.map PN.nd) (k:Int)).kids.length<=N)(HS0:Hid (SaAt mL base w w tb g qs root h k lo hi P (nth (qs.map PN.nd) (k:Int)).kids.length g C qs))
  (HNO:Hid (∀wr i g' C' qs',SaAt mL base w wr tb g qs root h k lo hi P i g' C' qs'->i<=(nth (qs.map PN.nd) (k:Int)).kids.length/\∃h':k<qs'.length,(qs'[k]).keys.length+1=(qs'[k]).kids.length/\(nth (qs.map PN.nd) (k:Int)).kids.length<=(qs'[k]).kids.length/\(qs'[k]).kids.length<=N))
  (HRC:Hid (∀wr i g' C' qs' (_:SaAt mL base w wr tb g qs root h k lo hi P (i+1) g' C' qs') (h':k<qs'.length),Calls Tryz.prog 143 #[.pointer (some ⟨tb,0,none⟩),.int .i64 ((qs'[k]).kids.getD i 0)] wr fun e w'=>∃vm g2 C2 qs2,e=.returned vm/\nU base wr tb g' qs' root (bI h (qs'.map PN.nd) ((qs'[k]).kids.getD i 0)).1 (bI h (qs'.map PN.nd) ((qs'[k]).kids.getD i 0)).2 w' vm g2 C2 qs2/\(bI h (qs'.map PN.nd) ((qs'[k]).kids.getD i 0)).2.length<=N/\∃h2:k<qs2.length,(qs2[k]).nd=(qs'[k]).nd))
  (HNX:Hid (∀(wr w3:World) (i g' C':Nat) (qs':List PN) (g2 C2:Nat) (qs2 qs3:List PN) (h':k<qs'.length),SaAt mL base w wr tb g qs root h k lo hi P (i+1) g' C' qs'->qs2.map PN.nd=(bI h (qs'.map PN.nd) ((qs'[k]).kids.getD i 0)).1->qs3.map PN.nd=iQ (qs2.map PN.nd) (k:Int) i (bI h (qs'.map PN.nd) ((qs'[k]).kids.getD i 0)).2->TB base w3 tb g2 C2 qs3 root->Kept (tb::feet g qs) w w3->(∀b∈feet g2 qs3,b∈feet g qs\/w.heap.size<=b)->SaAt mL base w w3 tb g qs root h k lo hi P i g2 C2 qs3))
  (HSP:Hid (∀wr g' C' qs',SaAt mL base w wr tb g qs root h k lo hi P 0 g' C' qs'->Calls Tryz.prog 146 #[.pointer (some ⟨tb,0,none⟩),.int .i64 (k:Int)] wr fun e w'=>∃vm g2 C2 qs2,e=.returned vm/\nU base w tb g qs root (bI (h+1) (qs.map PN.nd) k).1 (bI (h+1) (qs.map PN.nd) k).2 w' vm g2 C2 qs2)):
  Calls Tryz.prog 143 #[.pointer (some ⟨tb,0,none⟩),.int .i64 (k:Int)] w
   fun e w'=>∃vm g' C' qs',e=.returned vm/\nU base w tb g qs root (bI (h+1) (qs.map PN.nd) k).1 (bI (h+1) (qs.map PN.nd) k).2 w' vm g' C' qs':=by
 have hat:=hT.nt.node hk;have n3:=hat.c3;have c0:=hT.box.cell 0;simp only[List.getElem?_cons_zero] at c0;have i0:(0:Int)<=(k:Int):=by omega
 have i1:(k:Int)<(qs.length:Int):=by omega
 have hkk:(qs[k]).kids.length=(nth (qs.map PN.nd) (k:Int)).kids.length:=by rw[jO hk];rfl
 rw[hkk] at n3;generalize (nth (qs.map PN.nd) (k:Int)).kids.length=m at HS0 HNO n3 hkn;have hw:IntKind.i64.wrap ((m:Int)-1)=(m:Int)-1:=by rw[IntKind.wrap_i64];omega
 clear hat hkk
 go_enter Tryz.func143,Tryz.ntmps143
 go_wp2_with fail
 go_loopw [5] (fun vi wr=>∃(i g' C':Nat) (qs':List PN),vi=.int .i64 ((i:Int)-1)/\Hid (SaAt mL base w wr tb g qs root h k lo hi P i g' C' qs')) (fun vi _=>(intOf vi+1).toNat)
 case atStart=>exact⟨m,g,C,qs,rfl,HS0⟩
 case round=>
  obtain⟨i,g',C',qs',rfl,HS⟩:=hrel;obtain⟨him,hk',hkl,hkm,hkN⟩:=HNO.out _ _ _ _ _ HS.out;cases i with
  |zero=>
   have hneg:((0:Nat):Int)-1=-1:=by omega
   rw[hneg];have hsp:=aA (HSP.out _ _ _ _ HS.out);go_wp2_with (go_at_call 146;refine hsp.out.mono ?_;rintro e w' ⟨vm,g2,C2,qs2,rfl,hs⟩);go_ret;exact⟨vm,g2,C2,qs2,rfl,hs⟩
  |succ i=>
   have hcast:((i+1:Nat):Int)-1=(i:Int):=by omega
   rw[hcast];have hil:i<(qs'[k]).kids.length:=by omega
   have a0:=HS.out.tree.box.cell 0;simp only[List.getElem?_cons_zero] at a0;have hat:=HS.out.tree.nt.node hk';have a3:=hat.c3;obtain⟨db,doff,hA,hdl,hdc⟩:=(eG (HS.out.tree.nt.each _ (List.getElem_mem hk')).d).1.int hil;rw[hA] at a3
   have ak:wr.cell? ⟨db,doff+i,none⟩=some (.int .i64 ((qs'[k]).kids.getD i 0)):=by
    rw[hdc,List.getD_eq_getElem?_getD,List.getElem?_eq_getElem hil]
    rfl
   have j0:(0:Int)<=(i:Int):=by omega
   have j1:(i:Int)<((qs'[k]).kids.length:Int):=by omega
   have j2:(k:Int)<(qs'.length:Int):=by omega
   have hrc:=aA (HRC.out wr i g' C' qs' HS.out hk');have hnx:=aA fun w3 g2 C2 qs2 qs3=>HNX.out wr w3 i g' C' qs' g2 C2 qs2 qs3 hk' HS.out
   have hwi:IntKind.i64.wrap ((i:Int)-1)=(i:Int)-1:=by rw[IntKind.wrap_i64];omega
   generalize (bI h (qs'.map PN.nd) ((qs'[k]).kids.getD i 0)).1=R1 at hrc hnx;generalize (bI h (qs'.map PN.nd) ((qs'[k]).kids.getD i 0)).2=R2 at hrc hnx;generalize (qs'[k]).kids.getD i 0=kp at ak hrc;have HND:=aA (show(qs'[k]).nd.kids.length<=N/\(qs'[k]).nd.keys.length+1=(qs'[k]).nd.kids.length/\i<(qs'[k]).nd.kids.length from⟨hkN,hkl,hil⟩);generalize (qs'[k]).nd=nd at HND hrc;generalize (qs'[k]).kids.length=kn at a3 j1;generalize (qs'[k]).dC=dC at a3;clear hat hA hdc hkl hkm hkN hil HRC HNX HSP HNO HS0 n3 c0 hw him
   go_wp2_with (first
    |(go_at_call 143;refine hrc.out.mono ?_;rintro e w2 ⟨vm,g2,C2,qs2,rfl,hg2,hmN,hk2,hnd2⟩;obtain⟨mA,mC,hvm,-,-,-,hmr⟩:=aN hg2.more;subst hvm;have d0:=hg2.tree.box.cell 0;simp only[List.getElem?_cons_zero] at d0;have HG2:=aA hg2;have e2:(k:Int)<(qs2.length:Int):=(by omega);have HND2:=aA hnd2;have HMR:=aA hmr;clear hg2 hnd2 hmr)
    |(go_at_call 144;refine(qpi base tb g2 C2 qs2 root k i mA mC R2 w2 HG2.out.tree hk2 ?_ ?_ ?_ HMR.out ?_ ?_).mono ?_;(have:=HND.out.2.2;rw[<-HND2.out] at this;exact this);(have:=HND.out.2.1;rw[<-HND2.out] at this;exact this);(exact Nat.le_trans hB (Nat.le_trans HS.out.kept.size HG2.out.kept.size));(exact fun a ha e=>HG2.out.apart a.block (by rw[ha];rfl) (List.mem_cons_of_mem _ e));(have:=HND.out.1;rw[<-HND2.out] at this;have:(qs2[k]).kids.length<=N:=this;omega);rintro e w3 ⟨rfl,qs3,hT3,hn3,hl3,hkp3,hf3⟩;have HR:=aA (And.intro hT3 (And.intro hn3 (And.intro hkp3 hf3)));clear hT3 hn3 hl3 hkp3 hf3))
   obtain⟨hT3,hn3,hkp3,hf3⟩:=HR.out
   have o2:∀b∈feet g2 qs2,b∈feet g qs\/w.heap.size<=b:=fun b hb=>by
    rcases HG2.out.old b hb with e|e
    ·exact HS.out.old b e
    ·exact .inr (Nat.le_trans HS.out.kept.size e)
   have k2:Kept (tb::feet g qs) w w2:=HS.out.kept.step HG2.out.kept fun b hb=>by
    rcases List.mem_cons.1 hb with rfl|hb
    ·exact .inl List.mem_cons_self
    ·rcases HS.out.old b hb with e|e
     ·exact .inl (List.mem_cons_of_mem _ e)
     ·exact .inr e
   have k3:Kept (tb::feet g qs) w w3:=k2.step hkp3 fun b hb=>by
    rcases o2 b hb with e|e
    ·exact .inl (List.mem_cons_of_mem _ e)
    ·exact .inr e
   have o3:∀b∈feet g2 qs3,b∈feet g qs\/w.heap.size<=b:=fun b hb=>by
    rcases hf3 b hb with e|e
    ·exact o2 b e
    ·exact .inr (Nat.le_trans k2.size e)
   exact⟨⟨i,g2,C2,qs3,rfl,hnx.out w3 g2 C2 qs2 qs3 HG2.out.nds hn3 hT3 k3 o3⟩,by simp[intOf]⟩

theorem q6y(ns:List Nd)(p:Int)(hm:aO (nth ns p)<=1\/bK (nth ns p)<bD (nth ns p)):ns.length+aO (nth ns p)<=(aQ ns p).1.length+1:=by
 have hl:=wC ns p;rcases hm with h|h
 ·omega
 ·unfold aQ;rw[if_neg (by omega)]
  simp only[List.length_append,List.length_set,List.length_tail,qK];have:(eP (nth ns p)).length=aO (nth ns p):=oC _ _ _ _;omega

theorem q7z(x:Nd):aO x<=1\/bK x<bD x:=by
 by_cases h:bK x<bD x
 ·exact .inr h
 ·left;unfold aO;have:=q7f x;have h2:bD x+bK x-1<2*bK x:=by omega
  have:=Nat.div_lt_of_lt_mul (by rw[Nat.mul_comm];exact h2:bD x+bK x-1<bK x*2)
  omega

theorem lF.kid{mL:Nat}{ns0 ns:List Nd}{h:Nat}{p lo hi:Int}{P:List Int}{x:Nd}{i:Nat}(hx:x.keys.length+1=x.kids.length)(hP:P.Nodup)(hPr:∀n∈P,0<=n/\n<ns0.length)(hK:lF mL ns0 ns h p lo hi P x (i+1)):
  ∃lo' u Qd,Sub mL 4 ns h ((nth ns p).kids.getD i 0) lo' u Qd/\Qd.Nodup/\p∉Qd:=by
 obtain⟨kids,keys,T,Q1,Q2,hn,hkl,hle,htk,hU,s1,s2,hpm⟩:=hK.at';have hix:i<x.kids.length:=hK.len;have hik:i<kids.length:=by omega
 have hd:(nth ns p).kids.getD i 0=x.kids[i]:=by
  have e:kids[i]=x.kids[i]:=by
   have h1:(kids.take (i+1))[i]? =(x.kids.take (i+1))[i]? :=by rw[htk]
   rw[List.getElem?_take,List.getElem?_take,if_pos (by omega),if_pos (by omega),List.getElem?_eq_getElem hik,List.getElem?_eq_getElem hix] at h1
   simpa using h1
  rw[hn];simp[hik,e]
 rw[sN hx hix,SubK_append] at s1;obtain⟨Qa,Qd,rfl,s1a,Qd',Qe,rfl,s1d,hQe⟩:=s1;cases hQe;rw[List.append_nil] at hpm
 have hnd:(p::(Qa++Qd'++Q2)).Nodup:=hpm.nodup_iff.2 (List.nodup_append.2 ⟨hP,lS _ _,fun a ha b hb e=>by
  have h1:=(hPr a ha).2;have h2:=(placesF_mem.1 hb).1;omega⟩)
 rw[List.nodup_cons,List.nodup_append,List.nodup_append] at hnd;obtain⟨hpn,⟨na,nd',nad⟩,n2,nad2⟩:=hnd;rw[hd];exact⟨_,_,Qd',s1d,nd',fun e=>hpn (by simp[e])⟩

theorem lF.top{mL:Nat}{ns0 ns:List Nd}{h:Nat}{p lo hi:Int}{P Q:List Int}{x:Nd}(hin:kP 4 (Sub mL 4 ns0 h) x lo hi Q)(hp:0<=p)(hp1:p<ns0.length)(hl:lo<hi)(hK:lF mL ns0 ns h p lo hi P x 0):∃m Q2,Top 6 m ns (h+1) p lo hi (p::Q2):=by
 obtain⟨kids,keys,T,Q1,Q2,hn,hkl,hle,-,hU,s1,s2,hpm⟩:=hK.at';have hle1:=hK.le;have htwo:=hin.two;cases s1;rw[List.take_zero] at hU s2;rw[List.nil_append] at hU;refine⟨kids.length,Q2,⟨hp,by omega,hl⟩,Q2,rfl,?_⟩
 rw[hn];exact⟨hin.leaf,hin.ents,by show 2<=kids.length;omega,Nat.le_refl _,hkl,hin.few,hin.buf,by show SubK _ lo (ups kids keys hi) Q2;rw[hU];exact s2⟩

theorem q0m{mL:Nat}(hmL:mL<=999999)(base tb:Nat)(root:Int):∀(h g C:Nat) (qs:List PN) (k:Nat) (lo hi:Int) (P:List Int) (w:World),TB base w tb g C qs root->k<qs.length->Sub mL 4 (qs.map PN.nd) h (k:Int) lo hi P->P.Nodup->base<=w.heap.size->(bI h (qs.map PN.nd) (k:Int)).1.length<=900000->
  Calls Tryz.prog 143 #[.pointer (some ⟨tb,0,none⟩),.int .i64 (k:Int)] w
   fun e w'=>∃vm g' C' qs',e=.returned vm/\nU base w tb g qs root (bI h (qs.map PN.nd) (k:Int)).1 (bI h (qs.map PN.nd) (k:Int)).2 w' vm g' C' qs'
 |0,g,C,qs,k,lo,hi,P,w,hT,hk,hs,hP,hB,hN=>by
  have hx:=jO hk
  have hkids:(qs[k]).kids=[]:=by
   have:=hs.2.2.kids;rw[hx] at this;exact this
  have hsz:bD (nth (qs.map PN.nd) (k:Int))<=1000000:=by
   have h1:=hs.2.2;unfold bD;rw[if_pos h1.leaf];have:=h1.most;omega
  have hpre:=xR (mL:=mL) (mK:=4) (h:=0) (show Top mL 4 (qs.map PN.nd) 0 (k:Int) lo hi P from hs) hsz;have hf:=q6y (qs.map PN.nd) (k:Int) (q7z _)
  change (aQ (qs.map PN.nd) (k:Int)).1.length<=900000 at hN
  rw[hx] at hpre hf;simp only[List.length_map] at hf;refine(q0c base tb g C qs root k w hT hk hpre hB (by omega) hkids).mono ?_
  rintro e w' ⟨vm,g',C',qs',rfl,hs'⟩;exact⟨vm,g',C',qs',rfl,hs'.grow⟩
 |h+1,g,C,qs,k,lo,hi,P,w,hT,hk,hs,hP,hB,hN=>by
  have hx:=jO hk;have hPr:=nD _ _ _ _ _ hs;have hs0:=hs;obtain⟨hr,Q,hPQ,hin⟩:=hs;have hul:(ups (nth (qs.map PN.nd) (k:Int)).kids (nth (qs.map PN.nd) (k:Int)).keys hi).take (nth (qs.map PN.nd) (k:Int)).kids.length=ups (nth (qs.map PN.nd) (k:Int)).kids (nth (qs.map PN.nd) (k:Int)).keys hi:=List.take_of_length_le (by simp[ups];omega)
  have hK:lF mL (qs.map PN.nd) (qs.map PN.nd) h (k:Int) lo hi P (nth (qs.map PN.nd) (k:Int)) (nth (qs.map PN.nd) (k:Int)).kids.length:=by
   refine⟨Nat.le_refl _,⟨(nth (qs.map PN.nd) (k:Int)).kids,(nth (qs.map PN.nd) (k:Int)).keys,[],Q,[],rfl,hin.keys,Nat.le_refl _,rfl,?_,?_,rfl,?_⟩,Nat.le_refl _,fun _ _ _ _=>rfl,List.Perm.refl _⟩
   ·rw[hul,List.append_nil]
   ·rw[hul];exact hin.kids
   ·rw[hPQ];simp[aT]
  have hkP:(k:Int)∈P:=by rw[hPQ];simp
  have hfin:∀{wr:World} {i g' C':Nat} {qs':List PN},SaAt mL base w wr tb g qs root h k lo hi P i g' C' qs'->(iV (bI h) (k:Int) i (qs'.map PN.nd)).length<=900000:=fun{wr i g' C' qs'} H=>by
   rw[H.fin];exact Nat.le_trans (wC _ (k:Int)) hN
  have hqs:∀{wr:World} {i g' C':Nat} {qs':List PN},SaAt mL base w wr tb g qs root h k lo hi P i g' C' qs'->qs'.length<=900000:=fun{wr i g' C' qs'} H=>by
   have:=wS (yY h) (k:Int) i (qs'.map PN.nd);have:=hfin H;simp only[List.length_map] at *;omega
  have hSN:SaAt mL base w w tb g qs root h k lo hi P (nth (qs.map PN.nd) (k:Int)).kids.length g C qs:=⟨hT,Kept.refl _ _,fun b hb=>.inl hb,hK,rfl⟩
  have hk4:(nth (qs.map PN.nd) (k:Int)).kids.length<=4:=hin.most
  -- a kid, and its siblings
  have hkidok:∀{wr:World} {i g' C':Nat} {qs':List PN} (H:SaAt mL base w wr tb g qs root h k lo hi P (i+1) g' C' qs') (h':k<qs'.length),∃lo' u Qd,Sub mL 4 (qs'.map PN.nd) h ((qs'[k]).kids.getD i 0) lo' u Qd/\Qd.Nodup/\(k:Int)∉Qd:=fun{wr i g' C' qs'} H h'=>by
   have:=H.ok.kid hin.keys hP hPr;rw[jO h'] at this;exact this
  refine q4t (mL:=mL) (h:=h) base tb g C qs root k lo hi P 999999 w hT hk hB (by omega) (by omega) hSN ?_ ?_ ?_ ?_
  ·intro wr i g' C' qs' H;obtain⟨h',a,b,c⟩:=H.node hk hP hPr;exact⟨H.ok.len,h',a,b,by have:=hqs H;omega⟩
  ·intro wr i g' C' qs' H h';obtain⟨lo',u,Qd,hsd,hnd,hkd⟩:=hkidok H h';have hrd:=nD _ _ _ _ _ hsd;have hok:=vV h _ _ _ _ _ hsd hnd
   have hd:0<=(qs'[k]).kids.getD i 0/\(qs'[k]).kids.getD i 0<((qs'.map PN.nd).length:Int):=by
    cases h with
    |zero=>exact⟨hsd.1.1,hsd.1.2.1⟩
    |succ h=>exact⟨hsd.1.1,hsd.1.2.1⟩
   obtain⟨d,hdd⟩:∃d:Nat,(qs'[k]).kids.getD i 0=d:=⟨((qs'[k]).kids.getD i 0).toNat,by omega⟩
   rw[hdd] at hsd hok hd ⊢
   have hlen:(bI h (qs'.map PN.nd) (d:Int)).1.length<=900000:=by
    have h1:=hfin H;rw[iV,jO h'] at h1;have h2:=wS (yY h) (k:Int) i (iQ (bI h (qs'.map PN.nd) ((qs'[k]).nd.kids.getD i 0)).1 (k:Int) i (bI h (qs'.map PN.nd) ((qs'[k]).nd.kids.getD i 0)).2);have e:(qs'[k]).nd.kids.getD i 0=d:=hdd;rw[e] at h1 h2;simp only[iQ,List.length_set] at h1 h2;omega
   refine(q0m hmL base tb root h g' C' qs' d lo' u Qd wr H.tree (by simp at hd;omega) hsd hnd (Nat.le_trans hB H.kept.size) hlen).mono ?_
   rintro e w' ⟨vm,g2,C2,qs2,rfl,hG⟩;have hle:=hok.le;have hfew:=hok.few;have hq2:qs2.length=(bI h (qs'.map PN.nd) (d:Int)).1.length:=by rw[<-hG.nds];simp
   simp only[List.length_map] at hle hfew;have hk2:k<qs2.length:=by omega
   refine⟨vm,g2,C2,qs2,rfl,hG,by omega,hk2,?_⟩
   have hsame:=hok.same (k:Int) hkd (by omega) (by simp;omega)
   rw[<-hG.nds,jO hk2,jO h'] at hsame;exact hsame
  ·intro wr w3 i g' C' qs' g2 C2 qs2 qs3 h' H hn2 hn3 hT3 hkp3 ho3;refine⟨hT3,hkp3,ho3,?_,?_⟩
   ·rw[hn3,hn2];have e:=jO h'
    have:=q5z (R:=bI h (qs'.map PN.nd) ((qs'[k]).kids.getD i 0)) hin.keys hr.1 hr.2.1 hkP hP hPr H.ok (fun l u Qd a b=>by
     rw[e] at a ⊢;exact vV h _ _ _ _ _ a b)
    exact this
   ·rw[hn3,hn2,<-H.fin,iV,jO h']
    rfl
  ·intro wr g' C' qs' H;obtain⟨h',a,b,c⟩:=H.node hk hP hPr;have hx':=jO h';have hke:qs'.map PN.nd=iV (bI h) (k:Int) (nth (qs.map PN.nd) (k:Int)).kids.length (qs.map PN.nd):=H.fin;have hlen:=hfin H
   have hsz:bD (nth (qs'.map PN.nd) (k:Int))<=1000000:=by
    obtain⟨kids,keys,T,Q1,Q2,hn,_⟩:=H.ok.at';unfold bD;rw[hn,if_neg (by show ¬(nth (qs.map PN.nd) (k:Int)).leaf=true;rw[hin.leaf];decide)]
    rw[hx'] at hn;have:(qs'[k]).kids=kids:=congrArg Nd.kids hn;show kids.length<=_;rw[<-this];have:=hqs H;omega
   have hpre:oN (nth (qs'.map PN.nd) (k:Int)):=by
    obtain⟨m,Q2,ht⟩:=H.ok.top hin hr.1 hr.2.1 hr.2.2;exact xR ht hsz
   have hf:=q6y (qs'.map PN.nd) (k:Int) (q7z _);have hN':(aQ (qs'.map PN.nd) (k:Int)).1.length<=900000:=by rw[hke];exact hN
   rw[hx'] at hpre hf;simp only[List.length_map] at hf;refine(q2f base tb g' C' qs' root k wr H.tree h' hpre (Nat.le_trans hB H.kept.size) (by omega)).mono ?_
   rintro e w' ⟨vm,g2,C2,qs2,rfl,hS⟩;have hG:=hS.grow;rw[hke] at hG;refine⟨vm,g2,C2,qs2,rfl,⟨hG.tree,hG.nds,q6a hG.more H.kept.size,hG.apart,H.kept.step hG.kept fun b hb=>?_,fun b hb=>?_⟩⟩
   ·rcases List.mem_cons.1 hb with rfl|hb
    ·exact .inl List.mem_cons_self
    ·rcases H.old b hb with e|e
     ·exact .inl (List.mem_cons_of_mem _ e)
     ·exact .inr e
   ·rcases hG.old b hb with e|e
    ·exact H.old b e
    ·exact .inr (Nat.le_trans H.kept.size e)

end
end Go.Proofs.YtlojfgdpmaigmagGreatDoor

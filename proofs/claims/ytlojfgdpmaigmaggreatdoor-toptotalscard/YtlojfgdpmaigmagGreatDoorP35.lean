/- A tree in memory of one's own: one list of a node is turned. -/
import Derived.Test.YtlojfgdpmaigmagGreatDoorP33
import Derived.Test.YtlojfgdpmaigmagGreatDoorP29
import Derived.Test.YtlojfgdpmaigmagGreatDoorGetWalk
namespace Go.Proofs.YtlojfgdpmaigmagGreatDoor
section
open Go.RowKit Plain

theorem iZ(p:PN):p.blocks=obk p.eA++(obk p.kA++(obk p.dA++obk p.bA)):=by
 unfold PN.blocks obk;cases p.eA<;>cases p.kA<;>cases p.dA<;>cases p.bA<;>rfl

theorem q0l(qs:List PN)(k j:Nat)(u:Value)(p:PN)(hk:k<qs.length)(hj:j<5)(hp:p.vals=(qs[k]).vals.set j u):(bJ qs).set (k*5+j) u=bJ (qs.set k p):=by
 obtain⟨e1,e2⟩:=jW qs k p hk;have hl:(bJ (qs.take k)).length=k*5:=by rw[lT,List.length_take];omega
 have hv:(qs[k]).vals.length=5:=rfl;rw[e2]
 conv=>lhs;rw[e1]
 rw[sQ,sQ,bJ,bJ,List.set_append_right _ _ (by omega),hl,Nat.add_sub_cancel_left,List.set_append_left _ _ (by omega),hp]

theorem q6b{g k B:Nat}{qs:List PN}{p:PN}(hk:k<qs.length)(ha:(feet g qs).Nodup)(hn:p.blocks.Nodup)(hlt:∀b∈feet g qs,b<B)(hb:∀b∈p.blocks,b∈(qs[k]).blocks\/B<=b):
  (feet g (qs.set k p)).Nodup/\∀b∈feet g (qs.set k p),b∈feet g qs\/B<=b:=by
 obtain⟨A,x,D,hq,hset,hx⟩:∃A x D,qs=A++x::D/\qs.set k p=A++p::D/\qs[k]=x:=⟨_,_,_,(jW qs k p hk).1,(jW qs k p hk).2,rfl⟩;rw[hx] at hb;rw[hset];clear hset hx hk;subst hq;unfold feet at *;simp only[List.flatMap_append,List.flatMap_cons,List.nodup_cons,List.nodup_append,List.mem_append,List.mem_cons,not_or] at *;obtain⟨⟨a1,a2,a3⟩,a4,⟨a5,a6,a7⟩,a8⟩:=ha;refine⟨⟨⟨a1,fun h=>?_,a3⟩,a4,⟨hn,a6,fun b h1 c h2 e=>?_⟩,fun b h1 c h2 e=>?_⟩,fun b h1=>?_⟩
 ·rcases hb g h with h|h
  ·exact a2 h
  ·have:=hlt g (.inl rfl);omega
 ·rcases hb b h1 with h|h
  ·exact a7 b h c h2 e
  ·have:=hlt c (.inr (.inr (.inr h2)));omega
 ·rcases h2 with h2|h2
  ·rcases hb c h2 with h|h
   ·exact a8 b h1 c (.inl h) e
   ·have:=hlt b (.inr (.inl h1));omega
  ·exact a8 b h1 c (.inr h2) e
 ·rcases h1 with h1|h1|h1|h1
  ·exact .inl (.inl h1)
  ·exact .inl (.inr (.inl h1))
  ·rcases hb b h1 with h|h
   ·exact .inl (.inr (.inr (.inl h)))
   ·exact .inr h
  ·exact .inl (.inr (.inr (.inr h1)))

structure dZ(base:Nat)(w:World)(g C:Nat)(qs:List PN)(w':World)(qs':List PN):Prop where
 nt:NT base w' g C qs'
 len:qs'.length=qs.length
 kept:Kept (feet g qs) w w'
 fresh:∀b∈feet g qs',b∈feet g qs\/w.heap.size<=b

theorem dZ.trans{base g C:Nat}{w w1 w2:World}{qs qs1 qs2:List PN}(h:dZ base w g C qs w1 qs1)(k:dZ base w1 g C qs1 w2 qs2):dZ base w g C qs w2 qs2:=
 ⟨k.nt,k.len.trans h.len,h.kept.step k.kept h.fresh,fun b hb=>by
  rcases k.fresh b hb with e|e
  ·exact h.fresh b e
  ·exact .inr (Nat.le_trans h.kept.size e)⟩

theorem dZ.of_below{base g C:Nat}{w w1:World}{qs:List PN}(h:NT base w g C qs)(hb:Below w.heap.size w w1):dZ base w g C qs w1 qs:=
 ⟨h.below hb (Nat.le_refl _),rfl,Kept.of_below hb,fun _ e=>.inl e⟩

theorem NT.blocks_nodup{base g C k:Nat}{w:World}{qs:List PN}(h:NT base w g C qs)(hk:k<qs.length):(qs[k]).blocks.Nodup/\(∀b∈(qs[k]).blocks,b∈feet g qs)/\g∉(qs[k]).blocks/\∀q∈qs.take k++qs.drop (k+1),∀b∈q.blocks,b∉(qs[k]).blocks:=by
 have ha:=h.apart;obtain⟨e1,-⟩:=jW qs k qs[k] hk;have hm:∀b∈(qs[k]).blocks,b∈feet g qs:=fun b hb=>List.mem_cons_of_mem _ (List.mem_flatMap.2 ⟨_,List.getElem_mem hk,hb⟩)
 refine⟨?_,hm,?_,?_⟩
 ·rw[e1] at ha;unfold feet at ha;simp only[List.flatMap_append,List.flatMap_cons,List.nodup_cons,List.nodup_append] at ha;exact ha.2.2.1.1
 ·intro hb;rw[feet,List.nodup_cons] at ha;exact ha.1 (List.mem_flatMap.2 ⟨_,List.getElem_mem hk,hb⟩)
 ·intro q hq b hb hb2;rw[e1] at ha;unfold feet at ha;simp only[List.flatMap_append,List.flatMap_cons,List.nodup_cons,List.nodup_append] at ha;obtain⟨_,_,⟨_,_,a7⟩,a8⟩:=ha;rcases List.mem_append.1 hq with hq|hq
  ·exact a8 b (List.mem_flatMap.2 ⟨q,hq,hb⟩) b (List.mem_append_left _ hb2) rfl
  ·exact a7 b hb2 b (List.mem_flatMap.2 ⟨q,hq,hb⟩) rfl

theorem NT.turn{base g C k j:Nat}{w w1:World}{qs:List PN}{p:PN}{u:Value}{A:Option Addr}(h:NT base w g C qs)(hk:k<qs.length)(hj:j<5)(hp:p.vals=(qs[k]).vals.set j u)(hA:∀b∈obk A,b∈(qs[k]).blocks)(hkept:Kept (obk A) w w1)
  (hnd:p.blocks.Nodup) (hb:∀b∈p.blocks,b∈(qs[k]).blocks\/w.heap.size<=b) (hown:p.own base w1):dZ base w g C qs (w1.setCell ⟨g,k*5+j,none⟩ u) (qs.set k p):=by
 obtain⟨b1,b2,b3,b4⟩:=h.blocks_nodup hk;have hfl:=h.lt;have hgA:g∉obk A:=fun e=>b3 (hA g e)
 have hgp:g∉p.blocks:=fun e=>by
  rcases hb g e with e|e
  ·exact b3 e
  ·have:=(hfl g List.mem_cons_self).2;omega
 obtain⟨f1,f2⟩:=q6b hk h.apart hnd (fun b hb=>(hfl b hb).2) hb
 have hset:∀b,b≠g->(w1.setCell ⟨g,k*5+j,none⟩ u).heap[b]? =w1.heap[b]? :=fun b hb=>Below.heap_setCell _ _ _ _ hb
 have hg1:w1.ownsRow base 138 5 (.slice (some ⟨g,0,none⟩) qs.length C) qs.length (bJ qs):=aW h.own fun b hb=>by
  have e:b=g:=by have:g=b:=(by simpa [Value.ownBlock] using hb);omega
  subst e;exact hkept.block _ (hfl _ List.mem_cons_self).2 hgA
 refine⟨⟨?_,fun q hq=>?_,f1,by simpa using h.z⟩,by simp,?_,f2⟩
 ·rw[<-q0l qs k j u p hk hj hp,List.length_set];exact gZ hg1 _ _
 ·rw[(jW qs k p hk).2] at hq
  have hq':q∈qs.take k++qs.drop (k+1)\/q=p:=by
   simp only[List.mem_append,List.mem_cons] at hq ⊢;rcases hq with e|e|e
   ·exact .inl (.inl e)
   ·exact .inr e
   ·exact .inl (.inr e)
  rcases hq' with hq'|rfl
  ·have hqm:q∈qs:=by
    rcases List.mem_append.1 hq' with e|e
    ·exact List.mem_of_mem_take e
    ·exact List.mem_of_mem_drop e
   refine(h.each q hqm).of_blocks fun b hbq=>?_
   have hbf:b∈feet g qs:=List.mem_cons_of_mem _ (List.mem_flatMap.2 ⟨q,hqm,hbq⟩)
   have hbg:b≠g:=fun e=>by
    have ha:=h.apart;rw[feet,List.nodup_cons] at ha;exact ha.1 (List.mem_flatMap.2 ⟨q,hqm,e▸hbq⟩)
   rw[hset b hbg];exact hkept.block b (hfl b hbf).2 (fun e=>b4 q hq' b hbq (hA b e))
  ·exact hown.of_blocks fun b hb=>hset b (fun e=>hgp (e▸hb))
 ·exact(hkept.mono fun b hb=>b2 b (hA b hb)).set (.inl List.mem_cons_self) _

theorem gJ.lies'{base n size C':Nat}{t:TypeId}{A A':Option Addr}{vs:List Value}{w w':World}(h:gJ base t size n A A' C' vs w w'):∀b∈obk A',b∈obk A\/w.heap.size<=b:=by
 intro k hk;rw[mem_obk] at hk;rcases h.lies with e|⟨k',e,hk'⟩
 ·left;rw[mem_obk,<-e];exact hk
 ·rw[e] at hk;cases hk;exact .inr hk'

theorem wR(A:Option Addr):(obk A).Nodup:=by cases A<;>simp[obk]

theorem q2w{B:Nat}{X X' Y:List Nat}(h:(X++Y).Nodup)(hX:X'.Nodup)(hb:∀b∈X',b∈X\/B<=b)(hlt:∀b∈Y,b<B):(X'++Y).Nodup:=by
 rw[List.nodup_append] at *;refine⟨hX,h.2.1,fun a ha b hb2 e=>?_⟩
 rcases hb a ha with q|q
 ·exact h.2.2 a q b hb2 e
 ·have:=hlt b hb2;omega

theorem NT.setEnts{base g C k C':Nat}{w w1:World}{qs:List PN}{A':Option Addr}{l:List En}{q:PN}(h:NT base w g C qs)(hk:k<qs.length)(hqk:qs[k]=q)(hm:gJ base 132 7 l.length q.eA A' C' (aB l) w w1)(hz:l.length*56<=140737488351232):
  dZ base w g C qs (w1.setCell ⟨g,k*5+1,none⟩ (.slice A' l.length C')) (qs.set k { q with ents:=l,eA:=A',eC:=C' }):=by
 obtain⟨b1,b2,b3,b4⟩:=h.blocks_nodup hk;have ho:=h.each _ (List.getElem_mem hk);have hlt:=ho.lt;rw[hqk] at b1 ho hlt;have hq:=iZ q;rw[hq] at b1
 have hfar:∀b,b∈obk q.kA\/b∈obk q.dA\/b∈obk q.bA->w1.heap[b]? =w.heap[b]? :=fun b hb=>by
  have hbm:b∈obk q.kA++(obk q.dA++obk q.bA):=by simpa using hb
  refine hm.kept.block b (hlt b (by rw[hq];exact List.mem_append_right _ hbm)).2 fun e=>?_
  exact(List.nodup_append.1 b1).2.2 b e b hbm rfl
 refine h.turn (A:=q.eA) hk (by decide) (by rw[hqk];rfl) (fun b hb=>by rw[hqk,hq];simp[hb]) hm.kept ?_ ?_ ?_
 ·rw[iZ];exact q2w b1 (wR _) hm.lies' (fun b hb=>(hlt b (by rw[hq];exact List.mem_append_right _ hb)).2)
 ·intro b hb;rw[hqk,hq];rw[iZ] at hb;rcases List.mem_append.1 hb with hb|hb
  ·rcases hm.lies' b hb with e|e
   ·exact .inl (List.mem_append_left _ e)
   ·exact .inr e
  ·exact .inl (List.mem_append_right _ hb)
 ·exact⟨hm.own,aW ho.k fun b hb=>hfar b (.inl (jQ hb)),aW ho.d fun b hb=>hfar b (.inr (.inl (jQ hb))),aW ho.b fun b hb=>hfar b (.inr (.inr (jQ hb))),hz,ho.kz,ho.dz,ho.bz⟩

theorem NT.setBuf{base g C k C':Nat}{w w1:World}{qs:List PN}{A':Option Addr}{l:List En}{q:PN}(h:NT base w g C qs)(hk:k<qs.length)(hqk:qs[k]=q)(hmo:w1.ownsRow base 132 7 (.slice A' l.length C') l.length (aB l))(hmk:Kept (obk q.bA) w w1)(hml:∀b∈obk A',b∈obk q.bA\/w.heap.size<=b)(hz:l.length*56<=140737488351232):
  dZ base w g C qs (w1.setCell ⟨g,k*5+4,none⟩ (.slice A' l.length C')) (qs.set k { q with buf:=l,bA:=A',bC:=C' }):=by
 obtain⟨b1,b2,b3,b4⟩:=h.blocks_nodup hk;have ho:=h.each _ (List.getElem_mem hk);have hlt:=ho.lt;rw[hqk] at b1 ho hlt
 have hq:∀b,b∈q.blocks↔b∈obk q.bA++(obk q.eA++(obk q.kA++obk q.dA)):=fun b=>by
  rw[iZ];simp only[List.mem_append];constructor
  ·rintro(h|h|h|h)
   ·exact .inr (.inl h)
   ·exact .inr (.inr (.inl h))
   ·exact .inr (.inr (.inr h))
   ·exact .inl h
  ·rintro(h|h|h|h)
   ·exact .inr (.inr (.inr h))
   ·exact .inl h
   ·exact .inr (.inl h)
   ·exact .inr (.inr (.inl h))
 have hperm:∀X:List Nat,(obk q.eA++(obk q.kA++(obk q.dA++X))).Perm (X++(obk q.eA++(obk q.kA++obk q.dA))):=fun X=>by
  have e:obk q.eA++(obk q.kA++(obk q.dA++X))=(obk q.eA++(obk q.kA++obk q.dA))++X:=by simp
  rw[e];exact List.perm_append_comm
 have b1':(obk q.bA++(obk q.eA++(obk q.kA++obk q.dA))).Nodup:=by
  rw[iZ] at b1;exact(hperm _).nodup_iff.1 b1
 have hfar:∀b,b∈obk q.eA\/b∈obk q.kA\/b∈obk q.dA->w1.heap[b]? =w.heap[b]? :=fun b hb=>by
  have hbm:b∈obk q.eA++(obk q.kA++obk q.dA):=by simpa using hb
  refine hmk.block b (hlt b ((hq b).2 (List.mem_append_right _ hbm))).2 fun e=>?_
  exact(List.nodup_append.1 b1').2.2 b e b hbm rfl
 refine h.turn (A:=q.bA) hk (by decide) (by rw[hqk];rfl) (fun b hb=>by rw[hqk,hq];simp[hb]) hmk ?_ ?_ ?_
 ·rw[iZ];refine(hperm _).nodup_iff.2 ?_;exact q2w b1' (wR _) hml (fun b hb=>(hlt b ((hq b).2 (List.mem_append_right _ hb))).2)
 ·intro b hb;rw[hqk,hq];rw[iZ] at hb;have hb:=(hperm _).mem_iff.1 hb;rcases List.mem_append.1 hb with hb|hb
  ·rcases hml b hb with e|e
   ·exact .inl (List.mem_append_left _ e)
   ·exact .inr e
  ·exact .inl (List.mem_append_right _ hb)
 ·exact⟨aW ho.e fun b hb=>hfar b (.inl (jQ hb)),aW ho.k fun b hb=>hfar b (.inr (.inl (jQ hb))),aW ho.d fun b hb=>hfar b (.inr (.inr (jQ hb))),hmo,ho.ez,ho.kz,ho.dz,hz⟩

end
section
open Go.RowKit Plain Go.Shelf

set_option maxRecDepth 20000 in
set_option maxHeartbeats 1000000 in
theorem qi3(A:Option Addr)(C:Nat)(r place key:Int)(ps:List PN)(w:World)(hN:bF w.heap.size w A ps)(hr:Reach (ps.map PN.nd) 12 place)(hk:0<=key/\key<=1099511627775)(s:Ru × Int)(hs:Hid ((Wl (ps.map PN.nd) key (key+1) 12 place).foldl bV (zro,0)=s)):
  Calls Tryz.prog 168 #[.agg #[.slice A ps.length C,.int .i64 r],.int .i64 place,.int .i64 key] w
   fun e w'=>e=.returned (.bool (s.2 != 0))/\Below w.heap.size w w':=by
 have hb0:∀o:Obj,Below w.heap.size w (w.alloc o):=fun o=>(Below.refl _ _).alloc (Nat.le_refl _) o
 have con:=fun o:Obj=>vZ A C r place key ps (w.alloc o) (hN.up (hb0 o)) hr hk s hs
 have HC:=aA con;clear con hr hs;generalize s.1=q at HC;generalize s.2=z at HC ⊢
 go_enter Tryz.func168,Tryz.ntmps168
 go_wp2_with (go_at_call 116;refine(HC.out _).mono ?_;rintro e w1 ⟨rfl,hb1⟩;have hbw:Below w.heap.size w w1:=aC (hb0 _) (Nat.le_refl _) hb1;have hs1:w.heap.size<=w1.heap.size:=hbw.size);go_ret;exact⟨rfl,hbw.alloc (by omega) _⟩

set_option maxRecDepth 20000 in
set_option maxHeartbeats 4000000 in
theorem q7p(base g C:Nat)(qs:List PN)(r:Int)(k:Nat)(q:PN)(x:En)(w:World)(hT:NT base w g C qs)(hk:k<qs.length)(hqk:qs[k]=q)(hl:q.leaf=true)(hp:q.ents.Pairwise (fun x y=>x.key<y.key))(hz:(q.ents.length+1)*56<=140737488351232)(hB:base<=w.heap.size):
  Calls Tryz.prog 118 #[.agg #[.slice (some ⟨g,0,none⟩) qs.length C,.int .i64 r],.int .i64 (k:Int),.agg #[.int .i64 x.key,.int .i64 x.c,.int .i64 x.s,.int .i64 x.lo,.int .i64 x.hi,.int .i64 x.t,.int .i64 x.l]] w
   fun e w'=>∃A' C',e=.returned (.tuple #[])/\dZ base w g C qs w' (qs.set k { q with ents:=dM q.ents x,eA:=A',eC:=C' }):=by
 have hb2:∀o1 o2:Obj,Below w.heap.size w ((w.alloc o1).alloc o2):=fun o1 o2=>((Below.refl _ _).alloc (Nat.le_refl _) o1).alloc (by simp) o2
 have hat:=hT.node hk;rw[hqk] at hat;obtain⟨n0,n1,n2,n3,n4⟩:=hat;rw[hl] at n0;have hgl:=hT.glt.2;have i1:(k:Int)<(qs.length:Int):=by omega
 have i0:(0:Int)<=(k:Int):=by omega
 have ho:=(hT.each _ (List.getElem_mem hk)).e;have hge:g∉obk q.eA:=fun e=>(hT.blocks_nodup hk).2.2.1 (by rw[hqk,iZ];simp[e])
 rw[hqk] at ho;have hcon:=fun W (hW:Below w.heap.size w W)=>qb1 base q.eA q.eC q.ents x W (dI ho hW) hp (Nat.le_trans hB hW.size) hz
 have fz:=hT.free (k*5+1)
 have hwl:(dM q.ents x).length<=q.ents.length+1:=by
  unfold dM;have:=rF q.ents x.key
  split
  ·simp
  ·simp;omega
 have HC:=aA hcon;have HT:=aA hT;have HG:=aA hge;have HQ:=aA hqk;have HZ:=aA hz;have HWL:=aA hwl;clear hcon hT hge ho hqk hp hl hwl hz n2 n3 n4
 go_enter Tryz.func118,Tryz.ntmps118
 go_wp2_with fail
 go_region_with (go_at_call 139;refine(HC.out _ ((hb2 _ _).drew)).mono ?_;rintro e w2 ⟨A2,C2,rfl,hm2⟩;have HM:=aA (hm2.from ((hb2 _ _).drew));have c2:w2.cell? ⟨g,k*5+1,none⟩=some (.slice q.eA q.ents.length q.eC):=(HM.out.kept.cell _ hgl HG.out).trans n1;have f2:w2.frozen? ⟨g,k*5+1,none⟩=false:=(World.frozen?_of_block (a:=⟨g,k*5+1,none⟩) (HM.out.kept.block g hgl HG.out)).trans fz;clear hm2)
 all_goals
  go_wp2
  (try simp only[Exit.inBlock,Exit.then]);refine bodyPost_ret (results_none rfl _ _ _) rfl ?_
  exact⟨A2,C2,rfl,HT.out.setEnts hk HQ.out HM.out (by have:=HZ.out;have:=HWL.out;omega)⟩

def stB(ns:List Nd)(p key:Int):Bool:=((Wl ns key (key+1) 12 p).foldl bV (zro,0)).2 != 0

structure FlA(w wr:World)(g C n:Nat)(r:Int):Prop where
 below:Below w.heap.size w wr
 box:RowL wr w.heap.size 32 [.slice (some ⟨g,0,none⟩) n C,.int .i64 r]
 waits:∃a0 a1 a2 a3:Int,RowL wr (w.heap.size+1) 135 [.int .i64 a0,.int .i64 a1,.int .i64 a2,.int .i64 a3]

theorem FlA.next{w wr w':World}{g C n:Nat}{r:Int}(h:FlA w wr g C n r)(hb:Below wr.heap.size wr w'):FlA w w' g C n r:=by
 obtain⟨a0,a1,a2,a3,hw⟩:=h.waits;exact⟨aC h.below (Nat.le_refl _) hb,h.box.below hb h.box.lt,a0,a1,a2,a3,hw.below hb hw.lt⟩

theorem FlA.size{w wr:World}{g C n:Nat}{r:Int}(h:FlA w wr g C n r):w.heap.size+1<wr.heap.size:=by
 obtain⟨_,_,_,_,hw⟩:=h.waits;exact hw.lt

theorem FlA.at{w wr:World}{g C n:Nat}{r:Int}(h:FlA w wr g C n r){m:Nat}(hm:m<4):∃v:Int,wr.cell? ⟨w.heap.size+1,m,none⟩=some (.int .i64 v):=by
 obtain⟨a0,a1,a2,a3,hw⟩:=h.waits;rw[hw.cell];rcases(show m=0\/m=1\/m=2\/m=3 by omega) with rfl|rfl|rfl|rfl
 ·exact⟨a0,rfl⟩
 ·exact⟨a1,rfl⟩
 ·exact⟨a2,rfl⟩
 ·exact⟨a3,rfl⟩

theorem FlA.frozen{w wr:World}{g C n:Nat}{r:Int}(h:FlA w wr g C n r)(m:Nat):wr.frozen? ⟨w.heap.size+1,m,none⟩=false:=by
 obtain⟨_,_,_,_,hw⟩:=h.waits;exact hw.frozen m

theorem FlA.set{w wr:World}{g C n:Nat}{r:Int}(h:FlA w wr g C n r){m:Nat}(hm:m<4)(v:Int):FlA w (wr.setCell ⟨w.heap.size+1,m,none⟩ (.int .i64 v)) g C n r:=by
 obtain⟨a0,a1,a2,a3,hw⟩:=h.waits;refine⟨h.below.setCell (by show w.heap.size<=w.heap.size+1;omega) _,h.box.of_block (Below.heap_setCell _ _ _ _ (by show w.heap.size≠w.heap.size+1;omega)),?_⟩
 have:=hw.set m (.int .i64 v);rcases(show m=0\/m=1\/m=2\/m=3 by omega) with rfl|rfl|rfl|rfl
 ·exact⟨v,a1,a2,a3,this⟩
 ·exact⟨a0,v,a2,a3,this⟩
 ·exact⟨a0,a1,v,a3,this⟩
 ·exact⟨a0,a1,a2,v,this⟩

structure FlB(w wr:World)(g C n:Nat)(r:Int)(sl dn:List En)(vs vd:Value):Prop where
 below:Below w.heap.size w wr
 box:RowL wr w.heap.size 32 [.slice (some ⟨g,0,none⟩) n C,.int .i64 r]
 hz:w.heap.size+2<=wr.heap.size
 os:wr.ownsRow (w.heap.size+2) 132 7 vs sl.length (aB sl)
 od:wr.ownsRow (w.heap.size+2) 132 7 vd dn.length (aB dn)
 ne:∀b,vs.ownBlock=some b->vd.ownBlock≠some b

theorem FlB.next{w wr w':World}{g C n:Nat}{r:Int}{sl dn:List En}{vs vd:Value}(h:FlB w wr g C n r sl dn vs vd)(hb:Below wr.heap.size wr w'):FlB w w' g C n r sl dn vs vd:=
 ⟨aC h.below (Nat.le_refl _) hb,h.box.below hb h.box.lt,Nat.le_trans h.hz hb.size,dI h.os hb,dI h.od hb,h.ne⟩

theorem FlB.addS{w wr w1:World}{g C n g' cap:Nat}{r:Int}{sl dn:List En}{vs vd:Value}{x:En}(h:FlB w wr g C n r sl dn vs vd)(hown:w1.ownsRow (w.heap.size+2) 132 7 (.slice (some ⟨g',0,none⟩) (sl.length+1) cap) (sl.length+1) (aB sl++aB [x]))(hgrow:wr.grownBy w1 vs.ownBlock)(hat:vs.ownBlock=some g'\/g'=wr.heap.size):
  FlB w w1 g C n r (sl++[x]) dn (.slice (some ⟨g',0,none⟩) (sl.length+1) cap) vd:=by
 have hlt:∀b,vs.ownBlock=some b->w.heap.size+2<=b:=fun b hb=>(h.os.lt b hb).1
 have hbl:∀b,b<wr.heap.size->vs.ownBlock≠some b->w1.heap[b]? =wr.heap[b]? :=fun b hb hne=>hgrow.block b hb (fun e=>hne e.symm)
 have hlow:∀b,b<w.heap.size+2->w1.heap[b]? =wr.heap[b]? :=fun b hb=>hbl b (by have:=h.hz;omega) (fun e=>by have:=hlt b e;omega)
 refine⟨⟨hgrow.os.trans h.below.os,hgrow.tape.trans h.below.tape,hgrow.output.trans h.below.output,Nat.le_trans h.below.size hgrow.size,fun b hb=>(hlow b (by omega)).trans (h.below.block b hb)⟩,h.box.of_block (hlow _ (by omega)),Nat.le_trans h.hz hgrow.size,?_,?_,?_⟩
 ·rw[jU,List.length_append];exact hown
 ·exact aW h.od fun b hb=>hbl b (h.od.lt b hb).2 (fun e=>h.ne b e hb)
 ·intro b hb hd;have e:g'=b:=by simpa [Value.ownBlock] using hb
  subst e;rcases hat with q|q
  ·exact h.ne _ q hd
  ·have:=(h.od.lt _ hd).2;omega

theorem FlB.addD{w wr w1:World}{g C n g' cap:Nat}{r:Int}{sl dn:List En}{vs vd:Value}{x:En}(h:FlB w wr g C n r sl dn vs vd)(hown:w1.ownsRow (w.heap.size+2) 132 7 (.slice (some ⟨g',0,none⟩) (dn.length+1) cap) (dn.length+1) (aB dn++aB [x]))(hgrow:wr.grownBy w1 vd.ownBlock)(hat:vd.ownBlock=some g'\/g'=wr.heap.size):
  FlB w w1 g C n r sl (dn++[x]) vs (.slice (some ⟨g',0,none⟩) (dn.length+1) cap):=by
 have hsw:FlB w wr g C n r dn sl vd vs:=⟨h.below,h.box,h.hz,h.od,h.os,fun b hb hs=>h.ne b hs hb⟩
 have q:=hsw.addS hown hgrow hat;exact⟨q.below,q.box,q.hz,q.od,q.os,fun b hb hs=>q.ne b hs hb⟩

structure FlC(T h:Nat)(base:Nat)(w w1 wr:World)(g C:Nat)(qs:List PN)(k:Nat)(lo hi:Int)(P:List Int)(r:Int)(dn rest:List En)(As Ad:Option Addr)(Cd:Nat)(qs':List PN):Prop where
 mem:dZ base w g C qs wr qs'
 ok:iG T (qs.map PN.nd) (qs'.map PN.nd) h (k:Int) lo hi P rest
 le:w1.heap.size<=wr.heap.size
 far:∀b∈feet g qs',b∈feet g qs\/b∈obk As\/w1.heap.size<=b
 box:RowL wr w.heap.size 32 [.slice (some ⟨g,0,none⟩) qs.length C,.int .i64 r]
 hz:w.heap.size+2<=w1.heap.size
 od:wr.ownsRow (w.heap.size+2) 132 7 (.slice Ad dn.length Cd) dn.length (aB dn)
 hd:∀b∈obk Ad,b<w1.heap.size/\b∉obk As
 hs:∀b∈obk As,w.heap.size+2<=b
 pn:∀n:Nat,(n:Int)∉P->qs'[n]? =qs[n]?

theorem qjz{g k:Nat}{qs:List PN}{p:PN}(hk:k<qs.length):∀b∈feet g (qs.set k p),b∈feet g qs\/b∈p.blocks:=by
 obtain⟨A,x,D,hq,hset⟩:∃A x D,qs=A++x::D/\qs.set k p=A++p::D:=⟨_,_,_,jW qs k p hk⟩;rw[hset];clear hset hk;subst hq;unfold feet;simp only[List.flatMap_append,List.flatMap_cons,List.mem_append,List.mem_cons];rintro b (h|h|h|h)
 ·exact .inl (.inl h)
 ·exact .inl (.inr (.inl h))
 ·exact .inr h
 ·exact .inl (.inr (.inr (.inr h)))

theorem qj0{w:World}{base base':Nat}{e:TypeId}{size n:Nat}{v:Value}{vs:List Value}(h:w.ownsRow base e size v n vs)(hb:base'<=base):w.ownsRow base' e size v n vs:=by
 refine⟨h.1,?_⟩;rcases h.2 with q|⟨g,cap,cur,h1,h2,rest⟩
 ·exact .inl q
 ·exact .inr ⟨g,cap,cur,h1,Nat.le_trans hb h2,rest⟩

theorem qfs{T h base g C n k Cs Cd:Nat}{w wr:World}{qs:List PN}{lo hi:Int}{P:List Int}{r:Int}{sl dn:List En}{As Ad:Option Addr}{q:PN}(hnt:NT base w g C qs)(hk:k<qs.length)(hqk:qs[k]=q)(hB:base<=w.heap.size)(hn:qs.length=n)(hkP:(k:Int)∈P)
  (hd0:iG T (qs.map PN.nd) ((qs.map PN.nd).set k { nth (qs.map PN.nd) (k:Int) with buf:=sl }) h (k:Int) lo hi P dn) (hl:sl.length<=8) (hb:FlB w wr g C n r sl dn (.slice As sl.length Cs) (.slice Ad dn.length Cd)):
  FlC T h base w (wr.setCell ⟨g,k*5+4,none⟩ (.slice As sl.length Cs)) (wr.setCell ⟨g,k*5+4,none⟩ (.slice As sl.length Cs)) g C qs k lo hi P r dn dn As Ad Cd (qs.set k { q with buf:=sl,bA:=As,bC:=Cs }):=by
 have hss:∀b∈obk As,w.heap.size+2<=b:=fun b hbb=>(gU hb.os b (mem_obk.1 hbb)).1
 have hgl:=hnt.glt.2;have hset:∀b,b≠g->(wr.setCell ⟨g,k*5+4,none⟩ (.slice As sl.length Cs)).heap[b]? =wr.heap[b]? :=fun b hb=>Below.heap_setCell _ _ _ _ hb
 have hm:=hnt.setBuf hk hqk (qj0 hb.os (by omega)) (Kept.of_below hb.below) (fun b hbb=>.inr (by have:=hss b hbb;omega)) (by omega)
 subst hn;refine⟨hm,?_,Nat.le_refl _,?_,hb.box.of_block (hset _ (by omega)),by simpa using hb.hz,?_,?_,hss,fun n hn=>List.getElem?_set_ne (fun e=>hn (by rw[<-e];exact hkP))⟩
 ·have e:(qs.set k { q with buf:=sl,bA:=As,bC:=Cs }).map PN.nd=(qs.map PN.nd).set k { nth (qs.map PN.nd) (k:Int) with buf:=sl }:=by
   rw[List.map_set];congr 1;have:nth (qs.map PN.nd) (k:Int)=q.nd:=by simp[nth,hk,hqk]
   rw[this]
   rfl
  rw[e];exact hd0
 ·intro b hbb;rcases qjz hk b hbb with e|e
  ·exact .inl e
  ·rw[iZ] at e;simp only[List.mem_append] at e;have hin:∀X:List Nat,b∈X->(∀c∈X,c∈q.blocks)->b∈feet g qs:=fun X h1 h2=>List.mem_cons_of_mem _ (List.mem_flatMap.2 ⟨q,hqk▸List.getElem_mem hk,h2 b h1⟩)
   rcases e with e|e|e|e
   ·exact .inl (hin _ e fun c hc=>by rw[iZ];simp[hc])
   ·exact .inl (hin _ e fun c hc=>by rw[iZ];simp[hc])
   ·exact .inl (hin _ e fun c hc=>by rw[iZ];simp[hc])
   ·exact .inr (.inl e)
 ·exact aW hb.od fun b hbb=>hset b (by have:=(hb.od.lt b hbb).1;omega)
 ·intro b hbb;have h1:=gU hb.od b (mem_obk.1 hbb);refine⟨by simpa using h1.2,fun e=>?_⟩
  refine hb.ne b ?_ ?_
  ·have:=mem_obk.1 e;cases As with
   |none=>cases this
   |some a=>simpa [Value.ownBlock] using this
  ·have:=mem_obk.1 hbb;cases Ad with
   |none=>cases this
   |some a=>simpa [Value.ownBlock] using this

theorem FlC.apart{T h base:Nat}{w w1 wr:World}{g C:Nat}{qs:List PN}{k:Nat}{lo hi:Int}{P:List Int}{r:Int}{dn rest:List En}{As Ad:Option Addr}{Cd:Nat}{qs':List PN}(H:FlC T h base w w1 wr g C qs k lo hi P r dn rest As Ad Cd qs')(hnt:NT base w g C qs):w.heap.size∉feet g qs'/\∀b∈obk Ad,b∉feet g qs':=by
 have hz:=H.hz;constructor
 ·intro e;rcases H.far _ e with e|e|e
  ·have:=(hnt.lt _ e).2;omega
  ·have:=H.hs _ e;omega
  ·omega
 ·intro b hb e;have h1:=H.hd b hb;have h2:=(gU H.od b (mem_obk.1 hb)).1;rcases H.far _ e with e|e|e
  ·have:=(hnt.lt _ e).2;omega
  ·exact h1.2 e
  ·omega

theorem FlC.step{T h base:Nat}{w w1 wr W w3:World}{g C:Nat}{qs:List PN}{k:Nat}{lo hi:Int}{P:List Int}{r:Int}{dn rest rest':List En}{As Ad:Option Addr}{Cd:Nat}{qs' qs'':List PN}(H:FlC T h base w w1 wr g C qs k lo hi P r dn rest As Ad Cd qs')(hnt:NT base w g C qs)(hW:Below wr.heap.size wr W)(hm:dZ base W g C qs' w3 qs'')(hok:iG T (qs.map PN.nd) (qs''.map PN.nd) h (k:Int) lo hi P rest')(hpn:∀n:Nat,(n:Int)∉P->qs''[n]? =qs'[n]?):
  FlC T h base w w1 w3 g C qs k lo hi P r dn rest' As Ad Cd qs'':=by
 obtain⟨a1,a2⟩:=H.apart hnt;have hz:=H.hz;have hle:=H.le;have hblk:∀b,b<wr.heap.size->b∉feet g qs'->w3.heap[b]? =wr.heap[b]? :=fun b h1 h2=>(hm.kept.block b (Nat.lt_of_lt_of_le h1 hW.size) h2).trans (hW.block b h1)
 refine⟨H.mem.trans ((dZ.of_below H.mem.nt hW).trans hm),hok,Nat.le_trans hle (Nat.le_trans hW.size hm.kept.size),fun b hb=>?_,H.box.of_block (hblk _ H.box.lt a1),hz,?_,H.hd,H.hs,fun n hn=>(hpn n hn).trans (H.pn n hn)⟩
 ·rcases hm.fresh b hb with e|e
  ·exact H.far b e
  ·exact .inr (.inr (Nat.le_trans hle (Nat.le_trans hW.size e)))
 ·refine aW H.od fun b hb=>hblk b (H.od.lt b hb).2 (a2 b (jQ hb))

theorem FlC.kid{T h base:Nat}{w w1 wr:World}{g C:Nat}{qs:List PN}{k:Nat}{lo hi:Int}{P:List Int}{r:Int}{dn rest:List En}{As Ad:Option Addr}{Cd m:Nat}{qs':List PN}{kids:List Int}(H:FlC T h base w w1 wr g C qs k lo hi P r dn rest As Ad Cd qs')(hk:k<qs.length)(hkids:(nth (qs'.map PN.nd) (k:Int)).kids=kids)(hm:m<kids.length):
  ∃db doff dC':Nat,wr.cell? ⟨g,k*5+3,none⟩=some (.slice (some ⟨db,doff,none⟩) kids.length dC')/\db<wr.heap.size/\wr.cell? ⟨db,doff+m,none⟩=some (.int .i64 (kids.getD m 0)):=by
 have hk':k<qs'.length:=by rw[H.mem.len];exact hk
 have hnk:nth (qs'.map PN.nd) (k:Int)=(qs'[k]).nd:=by simp[nth,hk']
 rw[hnk] at hkids;have hkids':(qs'[k]).kids=kids:=hkids;have hat:=(H.mem.nt.node hk').c3;have ho:=(eG (H.mem.nt.each _ (List.getElem_mem hk')).d).1;rw[hkids'] at hat ho;obtain⟨db,doff,hA,hl,hc⟩:=ho.int hm;rw[hA] at hat;refine⟨db,doff,_,hat,hl,?_⟩;rw[hc,List.getD_eq_getElem?_getD,List.getElem?_eq_getElem hm]
 rfl

theorem q1w{buf:List En}{i:Nat}{x:En}(hi:i<buf.length)(hx:buf[i]=x)(f:En->Bool):(buf.take (i+1)).filter f=(buf.take i).filter f++if f x=true then[x] else[]:=by
 rw[List.take_succ_eq_append_getElem hi,hx,List.filter_append,List.filter_cons]
 rfl

set_option maxRecDepth 20000 in
set_option maxHeartbeats 4000000 in
theorem qcr{T h:Nat}(base g C n:Nat)(qs:List PN)(kids:List Int)(lo hi:Int)(P:List Int)(r:Int)(k:Nat)(lf:Bool)(eA:Option Addr)(eN eC:Nat)(kA:Option Addr)(kN kC:Nat)(dA:Option Addr)(dN dC:Nat)(bA:Option Addr)(bC:Nat)(buf:List En)(kd:Int->Nat)(st:Int->Bool)(w:World)(hgl:g<w.heap.size)(hk:k<n)
  (n0:w.cell? ⟨g,k*5,none⟩=some (.bool lf)) (n1:w.cell? ⟨g,k*5+1,none⟩=some (.slice eA eN eC)) (n2:w.cell? ⟨g,k*5+2,none⟩=some (.slice kA kN kC)) (n3:w.cell? ⟨g,k*5+3,none⟩=some (.slice dA dN dC)) (n4:w.cell? ⟨g,k*5+4,none⟩=some (.slice bA buf.length bC)) (hbuf:aH w.heap.size w bA (aB buf)) (hfew:buf.length<=8)
  (HST:Hid (∀W,Below w.heap.size w W->∀x∈buf,Calls Tryz.prog 168 #[.agg #[.slice (some ⟨g,0,none⟩) n C,.int .i64 r],.int .i64 (k:Int),.int .i64 x.key] W fun e w'=>e=.returned (.bool (st x.key))/\Below W.heap.size W w'))
  (HKI:Hid (∀W,Below w.heap.size w W->∀x:En,Calls Tryz.prog 142 #[.agg #[.bool lf,.slice eA eN eC,.slice kA kN kC,.slice dA dN dC,.slice bA buf.length bC],.int .i64 x.key] W fun e w'=>e=.returned (.int .i64 (kd x.key:Int))/\Below W.heap.size W w'))
  (HKD:Hid (∀x∈buf,kd x.key<4)) (hn:qs.length=n) (hkP:(k:Int)∈P) (hB:base<=w.heap.size) (HNT:Hid (NT base w g C qs)) (HQB:Hid (∃q,qs[k]? =some q/\q.bA=bA/\q.buf=buf))
  (HD0:Hid (∀f:En->Bool,iG T (qs.map PN.nd) ((qs.map PN.nd).set k { nth (qs.map PN.nd) (k:Int) with buf:=buf.filter fun x=>!f x }) h (k:Int) lo hi P (buf.filter f)))
  (HDK:Hid (∀ns' rest,iG T (qs.map PN.nd) ns' h (k:Int) lo hi P rest->(nth ns' (k:Int)).kids=kids)) (HKK:Hid (∀x∈buf,kd x.key<kids.length))
  (HSK:Hid (∀(qs':List PN) (wr:World) (x:En) (rest:List En),NT base wr g C qs'->qs'.length=n->base<=wr.heap.size->iG T (qs.map PN.nd) (qs'.map PN.nd) h (k:Int) lo hi P (x::rest)->x∈buf->st x.key=false->
   Calls Tryz.prog 118 #[.agg #[.slice (some ⟨g,0,none⟩) n C,.int .i64 r],.int .i64 (kids.getD (kd x.key) 0),.agg #[.int .i64 x.key,.int .i64 x.c,.int .i64 x.s,.int .i64 x.lo,.int .i64 x.hi,.int .i64 x.t,.int .i64 x.l]] wr
    fun e w'=>e=.returned (.tuple #[])/\∃qs'',dZ base wr g C qs' w' qs''/\iG T (qs.map PN.nd) (qs''.map PN.nd) h (k:Int) lo hi P rest/\∀n:Nat,(n:Int)∉P->qs''[n]? =qs'[n]?)):
  Calls Tryz.prog 141 #[.agg #[.slice (some ⟨g,0,none⟩) n C,.int .i64 r],.int .i64 (k:Int)] w
   fun e w'=>e=.returned (.tuple #[])/\∃qs',dZ base w g C qs w' qs'/\iG T (qs.map PN.nd) (qs'.map PN.nd) h (k:Int) lo hi P []/\∀n:Nat,(n:Int)∉P->qs'[n]? =qs[n]? :=by
 have i1:(k:Int)<(n:Int):=by omega
 have i0:(0:Int)<=(k:Int):=by omega
 have hb2:∀o1 o2:Obj,Below w.heap.size w ((w.alloc o1).alloc o2):=fun o1 o2=>((Below.refl _ _).alloc (Nat.le_refl _) o1).alloc (by simp) o2
 go_enter Tryz.func141,Tryz.ntmps141
 go_wp2_with fail
 go_loopw [24] (fun vi wr=>∃i:Nat,i<=buf.length/\vi=.int .i64 i/\Hid (FlA w wr g C n r)) (fun vi _=>buf.length-(intOf vi).toNat)
 case atStart=>
  refine⟨0,Nat.zero_le _,rfl,⟨hb2 _ _,?_,0,0,0,0,?_⟩⟩
  ·exact(aG w [.slice (some ⟨g,0,none⟩) n C,.int .i64 r] _).of_block (Below.heap_alloc _ _ _ (by simp))
  ·have:=aG (w.alloc (.cells #[.slice (some ⟨g,0,none⟩) n C,.int .i64 r] 32)) [.int .i64 0,.int .i64 0,.int .i64 0,.int .i64 0] 135
   simpa using this
 case round=>
  obtain⟨i,hil,rfl,HA⟩:=hrel;have hbw:=HA.out.below;have hsz:=HA.out.size;have m0:=(hbw.cell (p:=⟨g,k*5,none⟩) hgl).trans n0;have m1:=(hbw.cell (p:=⟨g,k*5+1,none⟩) hgl).trans n1;have m2:=(hbw.cell (p:=⟨g,k*5+2,none⟩) hgl).trans n2;have m3:=(hbw.cell (p:=⟨g,k*5+3,none⟩) hgl).trans n3;have m4:=(hbw.cell (p:=⟨g,k*5+4,none⟩) hgl).trans n4;have hgw:g<wr.heap.size:=by omega
  have bx0:wr.cell? ⟨w.heap.size,0,none⟩=some (.slice (some ⟨g,0,none⟩) n C):=HA.out.box.cell 0;have bx1:wr.cell? ⟨w.heap.size,1,none⟩=some (.int .i64 r):=HA.out.box.cell 1;have hs0:w.heap.size<wr.heap.size:=by omega
  by_cases hlt:i<buf.length
  ·obtain⟨b,o,rfl,hbl,hen⟩:=(hbuf.below hbw (Nat.le_refl _)).en hlt;obtain⟨x,hx⟩:∃x,buf[i]=x:=⟨_,rfl⟩;have hmem:x∈buf:=hx▸List.getElem_mem hlt;rw[hx] at hen;obtain⟨c0,c1,c2,c3,c4,c5,c6⟩:=hen;have hbr:b<wr.heap.size:=by omega
   have hst:=aA fun W hW=>HST.out W hW x hmem
   have hkd:=aA fun W hW=>HKI.out W hW x
   have hkl:=HKD.out x hmem;generalize st x.key=sx at hst;generalize kd x.key=kx at hkd hkl;have i3:(0:Int)<=(kx:Int):=by omega
   have i4:(kx:Int)<4:=by omega
   have hlti:(i:Int)<(buf.length:Int):=by omega
   have hii:(0:Int)<=(i:Int):=by omega
   have HX:=aA hx;clear hx HST HKI HKD n0 n1 n2 n3 n4 hbuf;cases sx with
   |true=>
    go_wp2_with (go_at_call 168;refine(hst.out _ (hbw.alloc (by omega) _)).mono ?_;rintro e w1 ⟨rfl,hb1⟩;have HA1:=aA (HA.out.next (aC ((Below.refl _ _).alloc (Nat.le_refl _) _) (Nat.le_refl _) hb1));clear hb1)
    refine⟨⟨i+1,by omega,by go_num,HA1⟩,by simp[intOf];omega⟩
   |false=>
    go_wp2_with (go_at_call 168;refine(hst.out _ (hbw.alloc (by omega) _)).mono ?_;rintro e w1 ⟨rfl,hb1⟩;have hba:Below wr.heap.size wr w1:=aC ((Below.refl _ _).alloc (Nat.le_refl _) _) (Nat.le_refl _) hb1;have HA1:=aA (HA.out.next hba);have xk:w1.cell? ⟨wr.heap.size,0,none⟩=some (.int .i64 x.key):=(hb1.cell (p:=⟨wr.heap.size,0,none⟩) (by simp)).trans (by simp);have l0:=(hba.cell (p:=⟨g,k*5,none⟩) hgw).trans m0;have l1:=(hba.cell (p:=⟨g,k*5+1,none⟩) hgw).trans m1;have l2:=(hba.cell (p:=⟨g,k*5+2,none⟩) hgw).trans m2;have l3:=(hba.cell (p:=⟨g,k*5+3,none⟩) hgw).trans m3;have l4:=(hba.cell (p:=⟨g,k*5+4,none⟩) hgw).trans m4;have hb1w:=HA1.out.below;clear hb1 m0 m1 m2 m3 m4 c0 c1 c2 c3 c4 c5 c6 bx0 bx1)
    go_region_with (go_at_call 142;refine(hkd.out _ hb1w.drew).mono ?_;rintro e w2 ⟨rfl,hb2'⟩;have HA2:=aA (HA1.out.next ((Below.refl _ _).drew.trans hb2'));obtain⟨v2,cv2⟩:=HA2.out.at hkl;have fv2:=HA2.out.frozen kx;clear hb2')
    all_goals
     go_wp2;refine⟨⟨i+1,by omega,by go_num,HA2.out.set hkl _⟩,by simp[intOf];omega⟩
  ·obtain rfl:i=buf.length:=by omega
   have hlti:¬((buf.length:Int)<(buf.length:Int)):=by omega
   obtain⟨a0,a1,a2,a3,hwa⟩:=HA.out.waits;have q0:wr.cell? ⟨w.heap.size+1,0,none⟩=some (.int .i64 a0):=hwa.cell 0;have q1:wr.cell? ⟨w.heap.size+1,1,none⟩=some (.int .i64 a1):=hwa.cell 1;have q2:wr.cell? ⟨w.heap.size+1,2,none⟩=some (.int .i64 a2):=hwa.cell 2;have q3:wr.cell? ⟨w.heap.size+1,3,none⟩=some (.int .i64 a3):=hwa.cell 3;have hgr:=aA fun W=>q7t a0 a1 a2 a3 W
   clear hwa;go_wp2_with (go_at_call 169;refine(hgr.out _).mono ?_;rintro e w1 ⟨m,hm4,rfl,hb1⟩;have HA1:=aA (HA.out.next hb1);have l4:=(hb1.cell (p:=⟨g,k*5+4,none⟩) hgw).trans m4;clear q0 q1 q2 q3 bx0 bx1 hgr);obtain⟨f,hf⟩:∃f:En->Bool,f=fun x=>(kd x.key==m)&& !(st x.key):=⟨_,rfl⟩
   have HF:=aA hf;clear hf
   go_loopw [9,10,52] (fun vs vd vi wr=>∃i:Nat,i<=buf.length/\vi=.int .i64 i/\Hid (FlB w wr g C n r ((buf.take i).filter fun x=>!f x) ((buf.take i).filter f) vs vd)) (fun _ _ vi _=>buf.length-(intOf vi).toNat)
   case atStart=>
    refine⟨0,Nat.zero_le _,rfl,⟨HA1.out.below,HA1.out.box,HA1.out.size,?_,?_,fun b hb=>by cases hb⟩⟩
    ·exact World.ownsRow_nil _ _ _ _
    ·exact World.ownsRow_nil _ _ _ _
   case round=>
    obtain⟨i,hil,rfl,HB⟩:=hrel;have hbw:=HB.out.below;have hsz:=HB.out.hz;have hs0:w.heap.size<wr.heap.size:=by omega
    have hgw:g<wr.heap.size:=by omega
    by_cases hlt:i<buf.length
    ·obtain⟨b,o,rfl,hbl,hen⟩:=(hbuf.below hbw (Nat.le_refl _)).en hlt;obtain⟨x,hx⟩:∃x,buf[i]=x:=⟨_,rfl⟩;have hmem:x∈buf:=hx▸List.getElem_mem hlt;rw[hx] at hen;obtain⟨c0,c1,c2,c3,c4,c5,c6⟩:=hen;have hbr:b<wr.heap.size:=by omega
     have hst:=aA fun W hW=>HST.out W hW x hmem
     have hkd:=aA fun W hW=>HKI.out W hW x
     have hfx:f x=((kd x.key==m)&& !(st x.key)):=by rw[HF.out]
     have m0:=(hbw.cell (p:=⟨g,k*5,none⟩) hgl).trans n0;have m1:=(hbw.cell (p:=⟨g,k*5+1,none⟩) hgl).trans n1;have m2:=(hbw.cell (p:=⟨g,k*5+2,none⟩) hgl).trans n2;have m3:=(hbw.cell (p:=⟨g,k*5+3,none⟩) hgl).trans n3;have m4:=(hbw.cell (p:=⟨g,k*5+4,none⟩) hgl).trans n4;have bx0:wr.cell? ⟨w.heap.size,0,none⟩=some (.slice (some ⟨g,0,none⟩) n C):=HB.out.box.cell 0;have bx1:wr.cell? ⟨w.heap.size,1,none⟩=some (.int .i64 r):=HB.out.box.cell 1;have e1:=q1w hlt hx f;have e2:=q1w hlt hx fun x=>!f x
     rw[hfx] at e1;simp only[hfx] at e2;have hle1:((buf.take i).filter f).length<=8:=Nat.le_trans (List.length_filter_le _ _) (by rw[List.length_take];omega)
     have hle2:((buf.take i).filter fun x=>!f x).length<=8:=Nat.le_trans (List.length_filter_le _ _) (by rw[List.length_take];omega)
     have HE1:=aA e1;have HE2:=aA e2;clear e1 e2 hfx HF;generalize (buf.take i).filter f=dn at HB HE1 hle1;generalize ((buf.take i).filter fun x=>!f x)=sl at HB HE2 hle2
     generalize st x.key=sx at hst HE1 HE2;generalize kd x.key=kx at hkd HE1 HE2;have hlti:(i:Int)<(buf.length:Int):=by omega
     have hii:(0:Int)<=(i:Int):=by omega
     have HX:=aA hx;obtain⟨i0',hi0,hz0,hz1,hz2⟩:=info_parts kK;clear hx HST HKI HKD n0 n1 n2 n3 n4 hbuf l4 HA HA1;go_upto_region 14 with fail
     go_cut [71] from 56 to 71 (fun v wc=>v=.bool ((kx==m)&& !sx)/\Hid (FlB w wc g C n r sl dn u9 u10)/\Hid (RowL wc wr.heap.size 132 x.vals))
     case first=>
      by_cases hkm:kx=m
      ·subst hkm;have hkk:((kx:Int)==(kx:Int))=true:=by simp
       have hkq:(kx==kx&& !sx)=!sx:=by simp
       have hgx:¬g=wr.heap.size:=by omega
       have hwx:¬w.heap.size=wr.heap.size:=by omega
       go_region_held3 (fun w'=>w'.cell? ⟨g,k*5,none⟩=some (.bool lf)/\w'.cell? ⟨g,k*5+1,none⟩=some (.slice eA eN eC)/\w'.cell? ⟨g,k*5+2,none⟩=some (.slice kA kN kC)/\w'.cell? ⟨g,k*5+3,none⟩=some (.slice dA dN dC)/\w'.cell? ⟨g,k*5+4,none⟩=some (.slice (some ⟨b,o,none⟩) buf.length bC)/\w'.cell? ⟨wr.heap.size,0,none⟩=some (.int .i64 x.key)/\w'.cell? ⟨w.heap.size,0,none⟩=some (.slice (some ⟨g,0,none⟩) n C)/\w'.cell? ⟨w.heap.size,1,none⟩=some (.int .i64 r)) (go_keep) (first
        |(go_at_call 142;refine(hkd.out _ ((hbw.alloc (by omega) _).drew)).mono ?_;rintro e w2 ⟨rfl,hb2'⟩;have hba:Below wr.heap.size wr w2:=aC (((Below.refl _ _).alloc (Nat.le_refl _) _).drew) (Nat.le_refl _) hb2';have HB2:=aA (HB.out.next hba);have hb2w:=HB2.out.below;have y0:w2.cell? ⟨w.heap.size,0,none⟩=some (.slice (some ⟨g,0,none⟩) n C):=HB2.out.box.cell 0;have y1:w2.cell? ⟨w.heap.size,1,none⟩=some (.int .i64 r):=HB2.out.box.cell 1;have X2:=aA ((aG wr x.vals 132).of_block (hb2'.block wr.heap.size (by simp)));have t0:=(hba.cell (p:=⟨g,k*5,none⟩) hgw).trans m0;have t1:=(hba.cell (p:=⟨g,k*5+1,none⟩) hgw).trans m1;have t2:=(hba.cell (p:=⟨g,k*5+2,none⟩) hgw).trans m2;have t3:=(hba.cell (p:=⟨g,k*5+3,none⟩) hgw).trans m3;have t4:=(hba.cell (p:=⟨g,k*5+4,none⟩) hgw).trans m4;have xk:w2.cell? ⟨wr.heap.size,0,none⟩=some (.int .i64 x.key):=X2.out.cell 0;clear hb2')
        |(go_at_call 168;refine(hst.out _ hb2w).mono ?_;rintro e w3 ⟨rfl,hb3⟩;have HB3:=aA (HB2.out.next hb3);have X3:=aA (X2.out.below hb3 X2.out.lt);have hba3:Below wr.heap.size wr w3:=aC hba (Nat.le_refl _) hb3;have p0:=(hba3.cell (p:=⟨g,k*5,none⟩) hgw).trans m0;have p1:=(hba3.cell (p:=⟨g,k*5+1,none⟩) hgw).trans m1;have p2:=(hba3.cell (p:=⟨g,k*5+2,none⟩) hgw).trans m2;have p3:=(hba3.cell (p:=⟨g,k*5+3,none⟩) hgw).trans m3;have p4:=(hba3.cell (p:=⟨g,k*5+4,none⟩) hgw).trans m4;have xk3:w3.cell? ⟨wr.heap.size,0,none⟩=some (.int .i64 x.key):=X3.out.cell 0;have z0:w3.cell? ⟨w.heap.size,0,none⟩=some (.slice (some ⟨g,0,none⟩) n C):=HB3.out.box.cell 0;have z1:w3.cell? ⟨w.heap.size,1,none⟩=some (.int .i64 r):=HB3.out.box.cell 1))
       all_goals
        go_wp2
        go_meet
        case rel=>exact⟨by rw[hkq],HB3,X3⟩
      ·have hkk:((kx:Int)==(m:Int))=false:=by simp;omega
       have hkk2:decide ((kx:Int)=(m:Int))=false:=by simp;omega
       have hkk3:decide (kx=m)=false:=by simp[hkm]
       have hkk4:(kx==m)=false:=by simp[hkm]
       have hkk5:¬((kx:Int)=(m:Int)):=by omega
       have hkq:(kx==m&& !sx)=false:=by simp[hkm]
       first
        |(go_region_with (go_at_call 142;refine(hkd.out _ ((hbw.alloc (by omega) _).drew)).mono ?_;rintro e w2 ⟨rfl,hb2'⟩;have hba:Below wr.heap.size wr w2:=aC (((Below.refl _ _).alloc (Nat.le_refl _) _).drew) (Nat.le_refl _) hb2';have HB2:=aA (HB.out.next hba);have X2:=aA ((aG wr x.vals 132).of_block (hb2'.block wr.heap.size (by simp)));clear hb2'))
        |fail
       all_goals
        go_wp2
        go_meet
        case rel=>exact⟨by rw[hkq],HB2,X2⟩
     case rest=>
      obtain⟨rfl,HB3,X3⟩:=hcut;have xc:=fun j=>X3.out.cell j
      simp only[En.vals] at xc;have hs3:wr.heap.size<wc.heap.size:=X3.out.lt;have hsz3:=HB3.out.hz
      by_cases hfx:((kx==m)&& !sx)=true
      ·rw[hfx];have E1:Hid ((buf.take (i+1)).filter f=dn++[x]):=by show _=_;rw[HE1.out,if_pos hfx]
       have E2:Hid (((buf.take (i+1)).filter fun x=>!f x)=sl):=by show _=_;rw[HE2.out,hfx];simp
       go_wp2_with (at_builtin;refine wpList_append_lies _ rfl _ _ 103 rfl (w.heap.size+2) 132 i0' _ 7 56 Tryz.underlying103 hi0 hz0 hz1 hz2 rfl (by decide) u10 dn.length (aB dn) rfl (dI HB3.out.od ((Below.refl _ _).alloc (Nat.le_refl _) _)) ⟨wc.heap.size,0,none⟩ 1 1 (aB [x]) rfl rfl (qmv (aG wc x.vals _)) (iK _) (by decide) (by unfold maxLen;omega) (by omega) (by simp;omega) (wc.heap.size+1) (by simp) ?_;intro g' cap w4 hown hgrow hat hlt')
       refine⟨⟨i+1,by omega,by go_num,?_⟩,by simp[intOf];omega⟩
       show FlB _ _ _ _ _ _ _ _ _ _;rw[E1.out,E2.out];exact(HB3.out.next ((Below.refl _ _).alloc (Nat.le_refl _) _)).addD hown hgrow (by simpa using hat)
      ·have hfx':((kx==m)&& !sx)=false:=by simpa using hfx
       rw[hfx'];have E1:Hid ((buf.take (i+1)).filter f=dn):=by show _=_;rw[HE1.out,hfx'];simp
       have E2:Hid (((buf.take (i+1)).filter fun x=>!f x)=sl++[x]):=by show _=_;rw[HE2.out,hfx'];simp
       go_wp2_with (at_builtin;refine wpList_append_lies _ rfl _ _ 103 rfl (w.heap.size+2) 132 i0' _ 7 56 Tryz.underlying103 hi0 hz0 hz1 hz2 rfl (by decide) u9 sl.length (aB sl) rfl (dI HB3.out.os ((Below.refl _ _).alloc (Nat.le_refl _) _)) ⟨wc.heap.size,0,none⟩ 1 1 (aB [x]) rfl rfl (qmv (aG wc x.vals _)) (iK _) (by decide) (by unfold maxLen;omega) (by omega) (by simp;omega) (wc.heap.size+1) (by simp) ?_;intro g' cap w4 hown hgrow hat hlt')
       refine⟨⟨i+1,by omega,by go_num,?_⟩,by simp[intOf];omega⟩
       show FlB _ _ _ _ _ _ _ _ _ _;rw[E1.out,E2.out];exact(HB3.out.next ((Below.refl _ _).alloc (Nat.le_refl _) _)).addS hown hgrow (by simpa using hat)
    ·obtain rfl:i=buf.length:=by omega
     have hlti:¬((buf.length:Int)<(buf.length:Int)):=by omega
     rw[List.take_length] at HB;have HF2:=aA (HD0.out f);have hle2:(buf.filter fun x=>!f x).length<=8:=Nat.le_trans (List.length_filter_le _ _) hfew
     have hle1:(buf.filter f).length<=8:=Nat.le_trans (List.length_filter_le _ _) hfew
     have hdn:Hid (∀x∈buf.filter f,x∈buf/\kd x.key=m/\st x.key=false):=fun x hx=>by
      obtain⟨h1,h2⟩:=List.mem_filter.1 hx;rw[HF.out] at h2;simp at h2;exact⟨h1,h2.1,h2.2⟩
     generalize buf.filter f=dn at HB HF2 hdn hle1;generalize (buf.filter fun x=>!f x)=sl at HB HF2 hle2
     obtain⟨As,Cs,hu9,-⟩:=aN HB.out.os;obtain⟨Ad,Cd,hu10,-⟩:=aN HB.out.od;subst hu9 hu10;have fz4:wr.frozen? ⟨g,k*5+4,none⟩=false:=(hbw.frozen (p:=⟨g,k*5+4,none⟩) hgl).trans (HNT.out.free _);have m4:=(hbw.cell (p:=⟨g,k*5+4,none⟩) hgl).trans n4;obtain⟨q,hq1,hq2,hq3⟩:=HQB.out;obtain⟨hk',hqk⟩:=List.getElem?_eq_some_iff.1 hq1;have HC0:=aA (qfs HNT.out hk' hqk hB hn hkP HF2.out hle2 HB.out);clear HA HA1 l4 HB hq1 hq2 hq3 HQB HST HKI n0 n1 n2 n3 n4 HD0 HF2 hbuf HF;go_wp2_with fail;generalize wr.setCell ⟨g,k*5+4,none⟩ (.slice As sl.length Cs)=w1 at HC0 ⊢;generalize qs.set k { q with buf:=sl,bA:=As,bC:=Cs }=qs0 at HC0;clear hqk m4 fz4
     go_loopw [87] (fun vj wr=>∃(j:Nat) (qs':List PN),j<=dn.length/\vj=.int .i64 j/\Hid (FlC T h base w w1 wr g C qs k lo hi P r dn (dn.drop j) As Ad Cd qs')) (fun vj _=>dn.length-(intOf vj).toNat)
     case atStart=>exact⟨0,qs0,Nat.zero_le _,rfl,HC0⟩
     case round=>
      obtain⟨j,qs',hjl,rfl,HC⟩:=hrel
      by_cases hjlt:j<dn.length
      ·have ok:=HC.out.ok;obtain⟨x,hx⟩:∃x,dn[j]=x:=⟨_,rfl⟩;rw[List.drop_eq_getElem_cons hjlt,hx] at ok;obtain⟨hxb,hxk,hxs⟩:=hdn.out x (hx▸List.getElem_mem hjlt);have hmk:m<kids.length:=by rw[<-hxk];exact HKK.out x hxb
       obtain⟨db,doff,dC',n3,hdl,nk⟩:=HC.out.kid (by omega) (HDK.out _ _ ok) hmk
       obtain⟨b,o,hAd,hbl,hen⟩:=(eG HC.out.od).1.en hjlt;rw[hx] at hen;obtain⟨c0,c1,c2,c3,c4,c5,c6⟩:=hen;have hsk:=aA fun W (hW:Below wr.heap.size wr W)=>HSK.out qs' W x _ (HC.out.mem.nt.below hW (Nat.le_refl _)) (HC.out.mem.len.trans hn) (Nat.le_trans (Nat.le_trans hB HC.out.mem.kept.size) hW.size) ok hxb hxs
       rw[hxk] at hsk;generalize kids.getD m 0=kp at nk hsk;have bx0:wr.cell? ⟨w.heap.size,0,none⟩=some (.slice (some ⟨g,0,none⟩) n C):=by rw[<-hn];exact HC.out.box.cell 0
       have bx1:wr.cell? ⟨w.heap.size,1,none⟩=some (.int .i64 r):=HC.out.box.cell 1;have hs0:w.heap.size<wr.heap.size:=HC.out.box.lt;have hgw:g<wr.heap.size:=by omega
       have hltj:(j:Int)<(dn.length:Int):=by omega
       have hj0:(0:Int)<=(j:Int):=by omega
       have hm0:(0:Int)<=(m:Int):=by omega
       have hm1:(m:Int)<(kids.length:Int):=by omega
       have hb0:∀ob:Obj,Below wr.heap.size wr (wr.alloc ob):=fun ob=>(Below.refl _ _).alloc (Nat.le_refl _) ob
       subst hAd;clear hxk hxs hxb hx ok HSK HDK HKK HC0 hdn;go_upto_region 22 with fail
       go_region_with (go_at_call 118;refine(hsk.out _ ((hb0 _).drew)).mono ?_;rintro e w3 ⟨rfl,qs'',hm3,hok3,hpn3⟩;have HC3:=aA (HC.out.step HNT.out ((hb0 _).drew) hm3 hok3 hpn3);clear hm3 hok3 hpn3)
       all_goals
        go_wp2;exact⟨⟨j+1,qs'',by omega,by go_num,HC3⟩,by simp[intOf];omega⟩
      ·obtain rfl:j=dn.length:=by omega
       have hltj:¬((dn.length:Int)<(dn.length:Int)):=by omega
       go_wp2_with fail
       go_end0
       have e:=HC.out.ok;rw[List.drop_length] at e;exact⟨rfl,qs',HC.out.mem,e,HC.out.pn⟩

end
end Go.Proofs.YtlojfgdpmaigmagGreatDoor

/- A tree in memory of one's own: one list of a node is turned. -/
import Derived.Test.YtlojfgdpmaigmahGreatDoorP34
import Derived.Test.YtlojfgdpmaigmahGreatDoorP23
import Derived.Test.YtlojfgdpmaigmahGreatDoorGetWalk
namespace Go.Proofs.YtlojfgdpmaigmahGreatDoor
section
open Go.RowKit Plain

theorem q2k(p:PN):p.blocks=obk p.eA++(obk p.kA++(obk p.dA++obk p.bA)):=by
 unfold PN.blocks obk
 cases p.eA<;>cases p.kA<;>cases p.dA<;>cases p.bA<;>rfl

theorem qbw(qs:List PN)(k j:Nat)(u:Value)(p:PN)(hk:k<qs.length)(hj:j<5)(hp:p.vals=(qs[k]).vals.set j u):(q2l qs).set (k*5+j) u=q2l (qs.set k p):=by
 obtain⟨e1,e2⟩:=q3l qs k p hk
 have hl:(q2l (qs.take k)).length=k*5:=by rw[q2h,List.length_take];omega
 have hv:(qs[k]).vals.length=5:=rfl
 rw[e2]
 conv=>lhs;rw[e1]
 rw[q5t,q5t,q2l,q2l,List.set_append_right _ _ (by omega),hl,Nat.add_sub_cancel_left,List.set_append_left _ _ (by omega),hp]

theorem qjy{g k B:Nat}{qs:List PN}{p:PN}(hk:k<qs.length)(ha:(feet g qs).Nodup)(hn:p.blocks.Nodup)(hlt:∀b∈feet g qs,b<B)(hb:∀b∈p.blocks,b∈(qs[k]).blocks\/B<=b):
  (feet g (qs.set k p)).Nodup/\∀b∈feet g (qs.set k p),b∈feet g qs\/B<=b:=by
 obtain⟨A,x,D,hq,hset,hx⟩:∃A x D,qs=A++x::D/\qs.set k p=A++p::D/\qs[k]=x:=⟨_,_,_,(q3l qs k p hk).1,(q3l qs k p hk).2,rfl⟩
 rw[hx] at hb
 rw[hset]
 clear hset hx hk
 subst hq
 unfold feet at *
 simp only[List.flatMap_append,List.flatMap_cons,List.nodup_cons,List.nodup_append,List.mem_append,List.mem_cons,not_or] at *
 obtain⟨⟨a1,a2,a3⟩,a4,⟨a5,a6,a7⟩,a8⟩:=ha
 refine⟨⟨⟨a1,fun h=>?_,a3⟩,a4,⟨hn,a6,fun b h1 c h2 e=>?_⟩,fun b h1 c h2 e=>?_⟩,fun b h1=>?_⟩
 ·rcases hb g h with h|h
  ·exact a2 h
  ·have:=hlt g (.inl rfl);omega
 ·rcases hb b h1 with h|h
  ·exact a7 b h c h2 e
  ·have:=hlt c (.inr (.inr (.inr h2)));omega
 ·rcases h2 with h2|h2
  ·rcases hb c h2 with h|h
   ·exact a8 b h1 c (.inl h) e
   ·have:=hlt b (.inr (.inl h1));omega
  ·exact a8 b h1 c (.inr h2) e
 ·rcases h1 with h1|h1|h1|h1
  ·exact .inl (.inl h1)
  ·exact .inl (.inr (.inl h1))
  ·rcases hb b h1 with h|h
   ·exact .inl (.inr (.inr (.inl h)))
   ·exact .inr h
  ·exact .inl (.inr (.inr (.inr h1)))

structure q1w(base:Nat)(w:World)(g C:Nat)(qs:List PN)(w':World)(qs':List PN):Prop where
 nt:NT base w' g C qs'
 len:qs'.length=qs.length
 kept:Kept (feet g qs) w w'
 fresh:∀b∈feet g qs',b∈feet g qs\/w.heap.size<=b

theorem q1w.trans{base g C:Nat}{w w1 w2:World}{qs qs1 qs2:List PN}(h:q1w base w g C qs w1 qs1)(k:q1w base w1 g C qs1 w2 qs2):q1w base w g C qs w2 qs2:=
 ⟨k.nt,k.len.trans h.len,h.kept.step k.kept h.fresh,fun b hb=>by
  rcases k.fresh b hb with e|e
  ·exact h.fresh b e
  ·exact .inr (Nat.le_trans h.kept.size e)⟩

theorem q1w.of_below{base g C:Nat}{w w1:World}{qs:List PN}(h:NT base w g C qs)(hb:Below w.heap.size w w1):q1w base w g C qs w1 qs:=
 ⟨h.below hb (Nat.le_refl _),rfl,Kept.of_below hb,fun _ e=>.inl e⟩

theorem NT.blocks_nodup{base g C k:Nat}{w:World}{qs:List PN}(h:NT base w g C qs)(hk:k<qs.length):(qs[k]).blocks.Nodup/\(∀b∈(qs[k]).blocks,b∈feet g qs)/\g∉(qs[k]).blocks/\∀q∈qs.take k++qs.drop (k+1),∀b∈q.blocks,b∉(qs[k]).blocks:=by
 have ha:=h.apart
 obtain⟨e1,-⟩:=q3l qs k qs[k] hk
 have hm:∀b∈(qs[k]).blocks,b∈feet g qs:=fun b hb=>List.mem_cons_of_mem _ (List.mem_flatMap.2 ⟨_,List.getElem_mem hk,hb⟩)
 refine⟨?_,hm,?_,?_⟩
 ·rw[e1] at ha
  unfold feet at ha
  simp only[List.flatMap_append,List.flatMap_cons,List.nodup_cons,List.nodup_append] at ha
  exact ha.2.2.1.1
 ·intro hb
  rw[feet,List.nodup_cons] at ha
  exact ha.1 (List.mem_flatMap.2 ⟨_,List.getElem_mem hk,hb⟩)
 ·intro q hq b hb hb2
  rw[e1] at ha
  unfold feet at ha
  simp only[List.flatMap_append,List.flatMap_cons,List.nodup_cons,List.nodup_append] at ha
  obtain⟨_,_,⟨_,_,a7⟩,a8⟩:=ha
  rcases List.mem_append.1 hq with hq|hq
  ·exact a8 b (List.mem_flatMap.2 ⟨q,hq,hb⟩) b (List.mem_append_left _ hb2) rfl
  ·exact a7 b hb2 b (List.mem_flatMap.2 ⟨q,hq,hb⟩) rfl

theorem NT.turn{base g C k j:Nat}{w w1:World}{qs:List PN}{p:PN}{u:Value}{A:Option Addr}(h:NT base w g C qs)(hk:k<qs.length)(hj:j<5)(hp:p.vals=(qs[k]).vals.set j u)(hA:∀b∈obk A,b∈(qs[k]).blocks)(hkept:Kept (obk A) w w1)
  (hnd:p.blocks.Nodup) (hb:∀b∈p.blocks,b∈(qs[k]).blocks\/w.heap.size<=b) (hown:p.own base w1):q1w base w g C qs (w1.setCell ⟨g,k*5+j,none⟩ u) (qs.set k p):=by
 obtain⟨b1,b2,b3,b4⟩:=h.blocks_nodup hk
 have hfl:=h.lt
 have hgA:g∉obk A:=fun e=>b3 (hA g e)
 have hgp:g∉p.blocks:=fun e=>by
  rcases hb g e with e|e
  ·exact b3 e
  ·have:=(hfl g List.mem_cons_self).2;omega
 obtain⟨f1,f2⟩:=qjy hk h.apart hnd (fun b hb=>(hfl b hb).2) hb
 have hset:∀b,b≠g->(w1.setCell ⟨g,k*5+j,none⟩ u).heap[b]? =w1.heap[b]? :=fun b hb=>Below.heap_setCell _ _ _ _ hb
 have hg1:w1.ownsRow base 115 5 (.slice (some ⟨g,0,none⟩) qs.length C) qs.length (q2l qs):=q0c h.own fun b hb=>by
  have e:b=g:=by have:g=b:=(by simpa [Value.ownBlock] using hb);omega
  subst e
  exact hkept.block _ (hfl _ List.mem_cons_self).2 hgA
 refine⟨⟨?_,fun q hq=>?_,f1,by simpa using h.z⟩,by simp,?_,f2⟩
 ·rw[<-qbw qs k j u p hk hj hp,List.length_set]
  exact q3j hg1 _ _
 ·rw[(q3l qs k p hk).2] at hq
  have hq':q∈qs.take k++qs.drop (k+1)\/q=p:=by
   simp only[List.mem_append,List.mem_cons] at hq ⊢
   rcases hq with e|e|e
   ·exact .inl (.inl e)
   ·exact .inr e
   ·exact .inl (.inr e)
  rcases hq' with hq'|rfl
  ·have hqm:q∈qs:=by
    rcases List.mem_append.1 hq' with e|e
    ·exact List.mem_of_mem_take e
    ·exact List.mem_of_mem_drop e
   refine(h.each q hqm).of_blocks fun b hbq=>?_
   have hbf:b∈feet g qs:=List.mem_cons_of_mem _ (List.mem_flatMap.2 ⟨q,hqm,hbq⟩)
   have hbg:b≠g:=fun e=>by
    have ha:=h.apart
    rw[feet,List.nodup_cons] at ha
    exact ha.1 (List.mem_flatMap.2 ⟨q,hqm,e▸hbq⟩)
   rw[hset b hbg]
   exact hkept.block b (hfl b hbf).2 (fun e=>b4 q hq' b hbq (hA b e))
  ·exact hown.of_blocks fun b hb=>hset b (fun e=>hgp (e▸hb))
 ·exact(hkept.mono fun b hb=>b2 b (hA b hb)).set (.inl List.mem_cons_self) _

theorem q7u.lies'{base n size C':Nat}{t:TypeId}{A A':Option Addr}{vs:List Value}{w w':World}(h:q7u base t size n A A' C' vs w w'):∀b∈obk A',b∈obk A\/w.heap.size<=b:=by
 intro k hk
 rw[mem_obk] at hk
 rcases h.lies with e|⟨k',e,hk'⟩
 ·left;rw[mem_obk,<-e];exact hk
 ·rw[e] at hk;cases hk;exact .inr hk'

theorem qau(A:Option Addr):(obk A).Nodup:=by cases A<;>simp[obk]

theorem qga{B:Nat}{X X' Y:List Nat}(h:(X++Y).Nodup)(hX:X'.Nodup)(hb:∀b∈X',b∈X\/B<=b)(hlt:∀b∈Y,b<B):(X'++Y).Nodup:=by
 rw[List.nodup_append] at *
 refine⟨hX,h.2.1,fun a ha b hb2 e=>?_⟩
 rcases hb a ha with q|q
 ·exact h.2.2 a q b hb2 e
 ·have:=hlt b hb2;omega

theorem NT.setEnts{base g C k C':Nat}{w w1:World}{qs:List PN}{A':Option Addr}{l:List En}{q:PN}(h:NT base w g C qs)(hk:k<qs.length)(hqk:qs[k]=q)(hm:q7u base 84 7 l.length q.eA A' C' (q0d l) w w1)(hz:l.length*56<=140737488351232):
  q1w base w g C qs (w1.setCell ⟨g,k*5+1,none⟩ (.slice A' l.length C')) (qs.set k { q with ents:=l,eA:=A',eC:=C' }):=by
 obtain⟨b1,b2,b3,b4⟩:=h.blocks_nodup hk
 have ho:=h.each _ (List.getElem_mem hk)
 have hlt:=ho.lt
 rw[hqk] at b1 ho hlt
 have hq:=q2k q
 rw[hq] at b1
 have hfar:∀b,b∈obk q.kA\/b∈obk q.dA\/b∈obk q.bA->w1.heap[b]? =w.heap[b]? :=fun b hb=>by
  have hbm:b∈obk q.kA++(obk q.dA++obk q.bA):=by simpa using hb
  refine hm.kept.block b (hlt b (by rw[hq];exact List.mem_append_right _ hbm)).2 fun e=>?_
  exact(List.nodup_append.1 b1).2.2 b e b hbm rfl
 refine h.turn (A:=q.eA) hk (by decide) (by rw[hqk];rfl) (fun b hb=>by rw[hqk,hq];simp[hb]) hm.kept ?_ ?_ ?_
 ·rw[q2k]
  exact qga b1 (qau _) hm.lies' (fun b hb=>(hlt b (by rw[hq];exact List.mem_append_right _ hb)).2)
 ·intro b hb
  rw[hqk,hq]
  rw[q2k] at hb
  rcases List.mem_append.1 hb with hb|hb
  ·rcases hm.lies' b hb with e|e
   ·exact .inl (List.mem_append_left _ e)
   ·exact .inr e
  ·exact .inl (List.mem_append_right _ hb)
 ·exact⟨hm.own,q0c ho.k fun b hb=>hfar b (.inl (q8f hb)),q0c ho.d fun b hb=>hfar b (.inr (.inl (q8f hb))),q0c ho.b fun b hb=>hfar b (.inr (.inr (q8f hb))),hz,ho.kz,ho.dz,ho.bz⟩

theorem NT.setBuf{base g C k C':Nat}{w w1:World}{qs:List PN}{A':Option Addr}{l:List En}{q:PN}(h:NT base w g C qs)(hk:k<qs.length)(hqk:qs[k]=q)(hmo:w1.ownsRow base 84 7 (.slice A' l.length C') l.length (q0d l))(hmk:Kept (obk q.bA) w w1)(hml:∀b∈obk A',b∈obk q.bA\/w.heap.size<=b)(hz:l.length*56<=140737488351232):
  q1w base w g C qs (w1.setCell ⟨g,k*5+4,none⟩ (.slice A' l.length C')) (qs.set k { q with buf:=l,bA:=A',bC:=C' }):=by
 obtain⟨b1,b2,b3,b4⟩:=h.blocks_nodup hk
 have ho:=h.each _ (List.getElem_mem hk)
 have hlt:=ho.lt
 rw[hqk] at b1 ho hlt
 have hq:∀b,b∈q.blocks↔b∈obk q.bA++(obk q.eA++(obk q.kA++obk q.dA)):=fun b=>by
  rw[q2k]
  simp only[List.mem_append]
  constructor
  ·rintro(h|h|h|h)
   ·exact .inr (.inl h)
   ·exact .inr (.inr (.inl h))
   ·exact .inr (.inr (.inr h))
   ·exact .inl h
  ·rintro(h|h|h|h)
   ·exact .inr (.inr (.inr h))
   ·exact .inl h
   ·exact .inr (.inl h)
   ·exact .inr (.inr (.inl h))
 have hperm:∀X:List Nat,(obk q.eA++(obk q.kA++(obk q.dA++X))).Perm (X++(obk q.eA++(obk q.kA++obk q.dA))):=fun X=>by
  have e:obk q.eA++(obk q.kA++(obk q.dA++X))=(obk q.eA++(obk q.kA++obk q.dA))++X:=by simp
  rw[e]
  exact List.perm_append_comm
 have b1':(obk q.bA++(obk q.eA++(obk q.kA++obk q.dA))).Nodup:=by
  rw[q2k] at b1
  exact(hperm _).nodup_iff.1 b1
 have hfar:∀b,b∈obk q.eA\/b∈obk q.kA\/b∈obk q.dA->w1.heap[b]? =w.heap[b]? :=fun b hb=>by
  have hbm:b∈obk q.eA++(obk q.kA++obk q.dA):=by simpa using hb
  refine hmk.block b (hlt b ((hq b).2 (List.mem_append_right _ hbm))).2 fun e=>?_
  exact(List.nodup_append.1 b1').2.2 b e b hbm rfl
 refine h.turn (A:=q.bA) hk (by decide) (by rw[hqk];rfl) (fun b hb=>by rw[hqk,hq];simp[hb]) hmk ?_ ?_ ?_
 ·rw[q2k]
  refine(hperm _).nodup_iff.2 ?_
  exact qga b1' (qau _) hml (fun b hb=>(hlt b ((hq b).2 (List.mem_append_right _ hb))).2)
 ·intro b hb
  rw[hqk,hq]
  rw[q2k] at hb
  have hb:=(hperm _).mem_iff.1 hb
  rcases List.mem_append.1 hb with hb|hb
  ·rcases hml b hb with e|e
   ·exact .inl (List.mem_append_left _ e)
   ·exact .inr e
  ·exact .inl (List.mem_append_right _ hb)
 ·exact⟨q0c ho.e fun b hb=>hfar b (.inl (q8f hb)),q0c ho.k fun b hb=>hfar b (.inr (.inl (q8f hb))),q0c ho.d fun b hb=>hfar b (.inr (.inr (q8f hb))),hmo,ho.ez,ho.kz,ho.dz,hz⟩

end
section
open Go.RowKit Plain Go.Shelf

set_option maxRecDepth 20000 in
set_option maxHeartbeats 1000000 in
theorem qr4(A:Option Addr)(C:Nat)(r place key:Int)(ps:List PN)(w:World)(hN:q0q w.heap.size w A ps)(hr:Reach (ps.map PN.nd) 12 place)(hk:0<=key/\key<=1099511627775)(s:Ru × Int)(hs:Hid ((Wl (ps.map PN.nd) key (key+1) 12 place).foldl q3a (zro,0)=s)):
  Calls Tryz.prog 149 #[.agg #[.slice A ps.length C,.int .i64 r],.int .i64 place,.int .i64 key] w
   fun e w'=>e=.returned (.bool (s.2 != 0))/\Below w.heap.size w w':=by
 have hb0:∀o:Obj,Below w.heap.size w (w.alloc o):=fun o=>(Below.refl _ _).alloc (Nat.le_refl _) o
 have con:=fun o:Obj=>q8u A C r place key ps (w.alloc o) (hN.up (hb0 o)) hr hk s hs
 have HC:=q0a con
 clear con hr hs
 generalize s.1=q at HC
 generalize s.2=z at HC ⊢
 go_enter Tryz.func149,Tryz.ntmps149
 go_wp2_with (go_at_call 89;refine(HC.out _).mono ?_;rintro e w1 ⟨rfl,hb1⟩;have hbw:Below w.heap.size w w1:=q0e (hb0 _) (Nat.le_refl _) hb1;have hs1:w.heap.size<=w1.heap.size:=hbw.size)
 go_ret
 exact⟨rfl,hbw.alloc (by omega) _⟩

set_option maxRecDepth 20000 in
set_option maxHeartbeats 4000000 in
theorem qhr(base g C:Nat)(qs:List PN)(r:Int)(k:Nat)(q:PN)(x:En)(w:World)(hT:NT base w g C qs)(hk:k<qs.length)(hqk:qs[k]=q)(hl:q.leaf=true)(hp:q.ents.Pairwise (fun x y=>x.key<y.key))(hz:(q.ents.length+1)*56<=140737488351232)(hB:base<=w.heap.size):
  Calls Tryz.prog 91 #[.agg #[.slice (some ⟨g,0,none⟩) qs.length C,.int .i64 r],.int .i64 (k:Int),.agg #[.int .i64 x.key,.int .i64 x.c,.int .i64 x.s,.int .i64 x.lo,.int .i64 x.hi,.int .i64 x.t,.int .i64 x.l]] w
   fun e w'=>∃A' C',e=.returned (.tuple #[])/\q1w base w g C qs w' (qs.set k { q with ents:=q4m q.ents x,eA:=A',eC:=C' }):=by
 have hb2:∀o1 o2:Obj,Below w.heap.size w ((w.alloc o1).alloc o2):=fun o1 o2=>((Below.refl _ _).alloc (Nat.le_refl _) o1).alloc (by simp) o2
 have hat:=hT.node hk
 rw[hqk] at hat
 obtain⟨n0,n1,n2,n3,n4⟩:=hat
 rw[hl] at n0
 have hgl:=hT.glt.2
 have i1:(k:Int)<(qs.length:Int):=by omega
 have i0:(0:Int)<=(k:Int):=by omega
 have ho:=(hT.each _ (List.getElem_mem hk)).e
 have hge:g∉obk q.eA:=fun e=>(hT.blocks_nodup hk).2.2.1 (by rw[hqk,q2k];simp[e])
 rw[hqk] at ho
 have hcon:=fun W (hW:Below w.heap.size w W)=>qo4 base q.eA q.eC q.ents x W (q0v ho hW) hp (Nat.le_trans hB hW.size) hz
 have fz:=hT.free (k*5+1)
 have hwl:(q4m q.ents x).length<=q.ents.length+1:=by
  unfold q4m
  have:=qbo q.ents x.key
  split
  ·simp
  ·simp;omega
 have HC:=q0a hcon
 have HT:=q0a hT
 have HG:=q0a hge
 have HQ:=q0a hqk
 have HZ:=q0a hz
 have HWL:=q0a hwl
 clear hcon hT hge ho hqk hp hl hwl hz n2 n3 n4
 go_enter Tryz.func91,Tryz.ntmps91
 go_wp2_with fail
 go_region_with (go_at_call 124;refine(HC.out _ ((hb2 _ _).drew)).mono ?_;rintro e w2 ⟨A2,C2,rfl,hm2⟩;have HM:=q0a (hm2.from ((hb2 _ _).drew));have c2:w2.cell? ⟨g,k*5+1,none⟩=some (.slice q.eA q.ents.length q.eC):=(HM.out.kept.cell _ hgl HG.out).trans n1;have f2:w2.frozen? ⟨g,k*5+1,none⟩=false:=(World.frozen?_of_block (a:=⟨g,k*5+1,none⟩) (HM.out.kept.block g hgl HG.out)).trans fz;clear hm2)
 all_goals
  go_wp2
  (try simp only[Exit.inBlock,Exit.then]);refine bodyPost_ret (results_none rfl _ _ _) rfl ?_
  exact⟨A2,C2,rfl,HT.out.setEnts hk HQ.out HM.out (by have:=HZ.out;have:=HWL.out;omega)⟩

def stB(ns:List Nd)(p key:Int):Bool:=((Wl ns key (key+1) 12 p).foldl q3a (zro,0)).2 != 0

structure FlA(w wr:World)(g C n:Nat)(r:Int):Prop where
 below:Below w.heap.size w wr
 box:RowL wr w.heap.size 43 [.slice (some ⟨g,0,none⟩) n C,.int .i64 r]
 waits:∃a0 a1 a2 a3:Int,RowL wr (w.heap.size+1) 87 [.int .i64 a0,.int .i64 a1,.int .i64 a2,.int .i64 a3]

theorem FlA.next{w wr w':World}{g C n:Nat}{r:Int}(h:FlA w wr g C n r)(hb:Below wr.heap.size wr w'):FlA w w' g C n r:=by
 obtain⟨a0,a1,a2,a3,hw⟩:=h.waits
 exact⟨q0e h.below (Nat.le_refl _) hb,h.box.below hb h.box.lt,a0,a1,a2,a3,hw.below hb hw.lt⟩

theorem FlA.size{w wr:World}{g C n:Nat}{r:Int}(h:FlA w wr g C n r):w.heap.size+1<wr.heap.size:=by
 obtain⟨_,_,_,_,hw⟩:=h.waits
 exact hw.lt

theorem FlA.at{w wr:World}{g C n:Nat}{r:Int}(h:FlA w wr g C n r){m:Nat}(hm:m<4):∃v:Int,wr.cell? ⟨w.heap.size+1,m,none⟩=some (.int .i64 v):=by
 obtain⟨a0,a1,a2,a3,hw⟩:=h.waits
 rw[hw.cell]
 rcases(show m=0\/m=1\/m=2\/m=3 by omega) with rfl|rfl|rfl|rfl
 ·exact⟨a0,rfl⟩
 ·exact⟨a1,rfl⟩
 ·exact⟨a2,rfl⟩
 ·exact⟨a3,rfl⟩

theorem FlA.frozen{w wr:World}{g C n:Nat}{r:Int}(h:FlA w wr g C n r)(m:Nat):wr.frozen? ⟨w.heap.size+1,m,none⟩=false:=by
 obtain⟨_,_,_,_,hw⟩:=h.waits
 exact hw.frozen m

theorem FlA.set{w wr:World}{g C n:Nat}{r:Int}(h:FlA w wr g C n r){m:Nat}(hm:m<4)(v:Int):FlA w (wr.setCell ⟨w.heap.size+1,m,none⟩ (.int .i64 v)) g C n r:=by
 obtain⟨a0,a1,a2,a3,hw⟩:=h.waits
 refine⟨h.below.setCell (by show w.heap.size<=w.heap.size+1;omega) _,h.box.of_block (Below.heap_setCell _ _ _ _ (by show w.heap.size≠w.heap.size+1;omega)),?_⟩
 have:=hw.set m (.int .i64 v)
 rcases(show m=0\/m=1\/m=2\/m=3 by omega) with rfl|rfl|rfl|rfl
 ·exact⟨v,a1,a2,a3,this⟩
 ·exact⟨a0,v,a2,a3,this⟩
 ·exact⟨a0,a1,v,a3,this⟩
 ·exact⟨a0,a1,a2,v,this⟩

structure FlB(w wr:World)(g C n:Nat)(r:Int)(sl dn:List En)(vs vd:Value):Prop where
 below:Below w.heap.size w wr
 box:RowL wr w.heap.size 43 [.slice (some ⟨g,0,none⟩) n C,.int .i64 r]
 hz:w.heap.size+2<=wr.heap.size
 os:wr.ownsRow (w.heap.size+2) 84 7 vs sl.length (q0d sl)
 od:wr.ownsRow (w.heap.size+2) 84 7 vd dn.length (q0d dn)
 ne:∀b,vs.ownBlock=some b->vd.ownBlock≠some b

theorem FlB.next{w wr w':World}{g C n:Nat}{r:Int}{sl dn:List En}{vs vd:Value}(h:FlB w wr g C n r sl dn vs vd)(hb:Below wr.heap.size wr w'):FlB w w' g C n r sl dn vs vd:=
 ⟨q0e h.below (Nat.le_refl _) hb,h.box.below hb h.box.lt,Nat.le_trans h.hz hb.size,q0v h.os hb,q0v h.od hb,h.ne⟩

theorem FlB.addS{w wr w1:World}{g C n g' cap:Nat}{r:Int}{sl dn:List En}{vs vd:Value}{x:En}(h:FlB w wr g C n r sl dn vs vd)(hown:w1.ownsRow (w.heap.size+2) 84 7 (.slice (some ⟨g',0,none⟩) (sl.length+1) cap) (sl.length+1) (q0d sl++q0d [x]))(hgrow:wr.grownBy w1 vs.ownBlock)(hat:vs.ownBlock=some g'\/g'=wr.heap.size):
  FlB w w1 g C n r (sl++[x]) dn (.slice (some ⟨g',0,none⟩) (sl.length+1) cap) vd:=by
 have hlt:∀b,vs.ownBlock=some b->w.heap.size+2<=b:=fun b hb=>(h.os.lt b hb).1
 have hbl:∀b,b<wr.heap.size->vs.ownBlock≠some b->w1.heap[b]? =wr.heap[b]? :=fun b hb hne=>hgrow.block b hb (fun e=>hne e.symm)
 have hlow:∀b,b<w.heap.size+2->w1.heap[b]? =wr.heap[b]? :=fun b hb=>hbl b (by have:=h.hz;omega) (fun e=>by have:=hlt b e;omega)
 refine⟨⟨hgrow.os.trans h.below.os,hgrow.tape.trans h.below.tape,hgrow.output.trans h.below.output,Nat.le_trans h.below.size hgrow.size,fun b hb=>(hlow b (by omega)).trans (h.below.block b hb)⟩,h.box.of_block (hlow _ (by omega)),Nat.le_trans h.hz hgrow.size,?_,?_,?_⟩
 ·rw[q1r,List.length_append]
  exact hown
 ·exact q0c h.od fun b hb=>hbl b (h.od.lt b hb).2 (fun e=>h.ne b e hb)
 ·intro b hb hd
  have e:g'=b:=by simpa [Value.ownBlock] using hb
  subst e
  rcases hat with q|q
  ·exact h.ne _ q hd
  ·have:=(h.od.lt _ hd).2;omega

theorem FlB.addD{w wr w1:World}{g C n g' cap:Nat}{r:Int}{sl dn:List En}{vs vd:Value}{x:En}(h:FlB w wr g C n r sl dn vs vd)(hown:w1.ownsRow (w.heap.size+2) 84 7 (.slice (some ⟨g',0,none⟩) (dn.length+1) cap) (dn.length+1) (q0d dn++q0d [x]))(hgrow:wr.grownBy w1 vd.ownBlock)(hat:vd.ownBlock=some g'\/g'=wr.heap.size):
  FlB w w1 g C n r sl (dn++[x]) vs (.slice (some ⟨g',0,none⟩) (dn.length+1) cap):=by
 have hsw:FlB w wr g C n r dn sl vd vs:=⟨h.below,h.box,h.hz,h.od,h.os,fun b hb hs=>h.ne b hs hb⟩
 have q:=hsw.addS hown hgrow hat
 exact⟨q.below,q.box,q.hz,q.od,q.os,fun b hb hs=>q.ne b hs hb⟩

structure FlC(T h:Nat)(base:Nat)(w w1 wr:World)(g C:Nat)(qs:List PN)(k:Nat)(lo hi:Int)(P:List Int)(r:Int)(dn rest:List En)(As Ad:Option Addr)(Cd:Nat)(qs':List PN):Prop where
 mem:q1w base w g C qs wr qs'
 ok:q4z T (qs.map PN.nd) (qs'.map PN.nd) h (k:Int) lo hi P rest
 le:w1.heap.size<=wr.heap.size
 far:∀b∈feet g qs',b∈feet g qs\/b∈obk As\/w1.heap.size<=b
 box:RowL wr w.heap.size 43 [.slice (some ⟨g,0,none⟩) qs.length C,.int .i64 r]
 hz:w.heap.size+2<=w1.heap.size
 od:wr.ownsRow (w.heap.size+2) 84 7 (.slice Ad dn.length Cd) dn.length (q0d dn)
 hd:∀b∈obk Ad,b<w1.heap.size/\b∉obk As
 hs:∀b∈obk As,w.heap.size+2<=b
 pn:∀n:Nat,(n:Int)∉P->qs'[n]? =qs[n]?

theorem qwk{g k:Nat}{qs:List PN}{p:PN}(hk:k<qs.length):∀b∈feet g (qs.set k p),b∈feet g qs\/b∈p.blocks:=by
 obtain⟨A,x,D,hq,hset⟩:∃A x D,qs=A++x::D/\qs.set k p=A++p::D:=⟨_,_,_,q3l qs k p hk⟩
 rw[hset]
 clear hset hk
 subst hq
 unfold feet
 simp only[List.flatMap_append,List.flatMap_cons,List.mem_append,List.mem_cons]
 rintro b (h|h|h|h)
 ·exact .inl (.inl h)
 ·exact .inl (.inr (.inl h))
 ·exact .inr h
 ·exact .inl (.inr (.inr (.inr h)))

theorem qus{w:World}{base base':Nat}{e:TypeId}{size n:Nat}{v:Value}{vs:List Value}(h:w.ownsRow base e size v n vs)(hb:base'<=base):w.ownsRow base' e size v n vs:=by
 refine⟨h.1,?_⟩
 rcases h.2 with q|⟨g,cap,cur,h1,h2,rest⟩
 ·exact .inl q
 ·exact .inr ⟨g,cap,cur,h1,Nat.le_trans hb h2,rest⟩

theorem qsu{T h base g C n k Cs Cd:Nat}{w wr:World}{qs:List PN}{lo hi:Int}{P:List Int}{r:Int}{sl dn:List En}{As Ad:Option Addr}{q:PN}(hnt:NT base w g C qs)(hk:k<qs.length)(hqk:qs[k]=q)(hB:base<=w.heap.size)(hn:qs.length=n)(hkP:(k:Int)∈P)
  (hd0:q4z T (qs.map PN.nd) ((qs.map PN.nd).set k { nth (qs.map PN.nd) (k:Int) with buf:=sl }) h (k:Int) lo hi P dn) (hl:sl.length<=8) (hb:FlB w wr g C n r sl dn (.slice As sl.length Cs) (.slice Ad dn.length Cd)):
  FlC T h base w (wr.setCell ⟨g,k*5+4,none⟩ (.slice As sl.length Cs)) (wr.setCell ⟨g,k*5+4,none⟩ (.slice As sl.length Cs)) g C qs k lo hi P r dn dn As Ad Cd (qs.set k { q with buf:=sl,bA:=As,bC:=Cs }):=by
 have hss:∀b∈obk As,w.heap.size+2<=b:=fun b hbb=>(q4p hb.os b (mem_obk.1 hbb)).1
 have hgl:=hnt.glt.2
 have hset:∀b,b≠g->(wr.setCell ⟨g,k*5+4,none⟩ (.slice As sl.length Cs)).heap[b]? =wr.heap[b]? :=fun b hb=>Below.heap_setCell _ _ _ _ hb
 have hm:=hnt.setBuf hk hqk (qus hb.os (by omega)) (Kept.of_below hb.below) (fun b hbb=>.inr (by have:=hss b hbb;omega)) (by omega)
 subst hn
 refine⟨hm,?_,Nat.le_refl _,?_,hb.box.of_block (hset _ (by omega)),by simpa using hb.hz,?_,?_,hss,fun n hn=>List.getElem?_set_ne (fun e=>hn (by rw[<-e];exact hkP))⟩
 ·have e:(qs.set k { q with buf:=sl,bA:=As,bC:=Cs }).map PN.nd=(qs.map PN.nd).set k { nth (qs.map PN.nd) (k:Int) with buf:=sl }:=by
   rw[List.map_set]
   congr 1
   have:nth (qs.map PN.nd) (k:Int)=q.nd:=by simp[nth,hk,hqk]
   rw[this]
   rfl
  rw[e]
  exact hd0
 ·intro b hbb
  rcases qwk hk b hbb with e|e
  ·exact .inl e
  ·rw[q2k] at e
   simp only[List.mem_append] at e
   have hin:∀X:List Nat,b∈X->(∀c∈X,c∈q.blocks)->b∈feet g qs:=fun X h1 h2=>List.mem_cons_of_mem _ (List.mem_flatMap.2 ⟨q,hqk▸List.getElem_mem hk,h2 b h1⟩)
   rcases e with e|e|e|e
   ·exact .inl (hin _ e fun c hc=>by rw[q2k];simp[hc])
   ·exact .inl (hin _ e fun c hc=>by rw[q2k];simp[hc])
   ·exact .inl (hin _ e fun c hc=>by rw[q2k];simp[hc])
   ·exact .inr (.inl e)
 ·exact q0c hb.od fun b hbb=>hset b (by have:=(hb.od.lt b hbb).1;omega)
 ·intro b hbb
  have h1:=q4p hb.od b (mem_obk.1 hbb)
  refine⟨by simpa using h1.2,fun e=>?_⟩
  refine hb.ne b ?_ ?_
  ·have:=mem_obk.1 e
   cases As with
   |none=>cases this
   |some a=>simpa [Value.ownBlock] using this
  ·have:=mem_obk.1 hbb
   cases Ad with
   |none=>cases this
   |some a=>simpa [Value.ownBlock] using this

theorem FlC.apart{T h base:Nat}{w w1 wr:World}{g C:Nat}{qs:List PN}{k:Nat}{lo hi:Int}{P:List Int}{r:Int}{dn rest:List En}{As Ad:Option Addr}{Cd:Nat}{qs':List PN}(H:FlC T h base w w1 wr g C qs k lo hi P r dn rest As Ad Cd qs')(hnt:NT base w g C qs):w.heap.size∉feet g qs'/\∀b∈obk Ad,b∉feet g qs':=by
 have hz:=H.hz
 constructor
 ·intro e
  rcases H.far _ e with e|e|e
  ·have:=(hnt.lt _ e).2;omega
  ·have:=H.hs _ e;omega
  ·omega
 ·intro b hb e
  have h1:=H.hd b hb
  have h2:=(q4p H.od b (mem_obk.1 hb)).1
  rcases H.far _ e with e|e|e
  ·have:=(hnt.lt _ e).2;omega
  ·exact h1.2 e
  ·omega

theorem FlC.step{T h base:Nat}{w w1 wr W w3:World}{g C:Nat}{qs:List PN}{k:Nat}{lo hi:Int}{P:List Int}{r:Int}{dn rest rest':List En}{As Ad:Option Addr}{Cd:Nat}{qs' qs'':List PN}(H:FlC T h base w w1 wr g C qs k lo hi P r dn rest As Ad Cd qs')(hnt:NT base w g C qs)(hW:Below wr.heap.size wr W)(hm:q1w base W g C qs' w3 qs'')(hok:q4z T (qs.map PN.nd) (qs''.map PN.nd) h (k:Int) lo hi P rest')(hpn:∀n:Nat,(n:Int)∉P->qs''[n]? =qs'[n]?):
  FlC T h base w w1 w3 g C qs k lo hi P r dn rest' As Ad Cd qs'':=by
 obtain⟨a1,a2⟩:=H.apart hnt
 have hz:=H.hz
 have hle:=H.le
 have hblk:∀b,b<wr.heap.size->b∉feet g qs'->w3.heap[b]? =wr.heap[b]? :=fun b h1 h2=>(hm.kept.block b (Nat.lt_of_lt_of_le h1 hW.size) h2).trans (hW.block b h1)
 refine⟨H.mem.trans ((q1w.of_below H.mem.nt hW).trans hm),hok,Nat.le_trans hle (Nat.le_trans hW.size hm.kept.size),fun b hb=>?_,H.box.of_block (hblk _ H.box.lt a1),hz,?_,H.hd,H.hs,fun n hn=>(hpn n hn).trans (H.pn n hn)⟩
 ·rcases hm.fresh b hb with e|e
  ·exact H.far b e
  ·exact .inr (.inr (Nat.le_trans hle (Nat.le_trans hW.size e)))
 ·refine q0c H.od fun b hb=>hblk b (H.od.lt b hb).2 (a2 b (q8f hb))

theorem FlC.kid{T h base:Nat}{w w1 wr:World}{g C:Nat}{qs:List PN}{k:Nat}{lo hi:Int}{P:List Int}{r:Int}{dn rest:List En}{As Ad:Option Addr}{Cd m:Nat}{qs':List PN}{kids:List Int}(H:FlC T h base w w1 wr g C qs k lo hi P r dn rest As Ad Cd qs')(hk:k<qs.length)(hkids:(nth (qs'.map PN.nd) (k:Int)).kids=kids)(hm:m<kids.length):
  ∃db doff dC':Nat,wr.cell? ⟨g,k*5+3,none⟩=some (.slice (some ⟨db,doff,none⟩) kids.length dC')/\db<wr.heap.size/\wr.cell? ⟨db,doff+m,none⟩=some (.int .i64 (kids.getD m 0)):=by
 have hk':k<qs'.length:=by rw[H.mem.len];exact hk
 have hnk:nth (qs'.map PN.nd) (k:Int)=(qs'[k]).nd:=by simp[nth,hk']
 rw[hnk] at hkids
 have hkids':(qs'[k]).kids=kids:=hkids
 have hat:=(H.mem.nt.node hk').c3
 have ho:=(q3d (H.mem.nt.each _ (List.getElem_mem hk')).d).1
 rw[hkids'] at hat ho
 obtain⟨db,doff,hA,hl,hc⟩:=ho.int hm
 rw[hA] at hat
 refine⟨db,doff,_,hat,hl,?_⟩
 rw[hc,List.getD_eq_getElem?_getD,List.getElem?_eq_getElem hm]
 rfl

theorem qdy{buf:List En}{i:Nat}{x:En}(hi:i<buf.length)(hx:buf[i]=x)(f:En->Bool):(buf.take (i+1)).filter f=(buf.take i).filter f++if f x=true then[x] else[]:=by
 rw[List.take_succ_eq_append_getElem hi,hx,List.filter_append,List.filter_cons]
 rfl

structure SiA(base:Nat)(w wr:World)(g C:Nat)(qs:List PN)(r:Int)(x:En)(qs1:List PN):Prop where
 mem:q1w base w g C qs wr qs1
 bt:RowL wr w.heap.size 43 [.slice (some ⟨g,0,none⟩) qs.length C,.int .i64 r]
 bx:RowL wr (w.heap.size+1) 84 x.vals
 ft:w.heap.size∉feet g qs1
 fx:w.heap.size+1∉feet g qs1

theorem SiA.start{base g C:Nat}{w:World}{qs:List PN}{r:Int}{x:En}(h:NT base w g C qs):SiA base w ((w.alloc (.cells #[.slice (some ⟨g,0,none⟩) qs.length C,.int .i64 r] 43)).alloc (.cells x.vals.toArray 84)) g C qs r x qs:=by
 have hb2:Below w.heap.size w ((w.alloc (.cells #[.slice (some ⟨g,0,none⟩) qs.length C,.int .i64 r] 43)).alloc (.cells x.vals.toArray 84)):=((Below.refl _ _).alloc (Nat.le_refl _) _).alloc (by simp) _
 have hlt:=h.lt
 refine⟨q1w.of_below h hb2,?_,?_,fun e=>by have:=(hlt _ e).2;omega,fun e=>by have:=(hlt _ e).2;omega⟩
 ·exact(q0b w [.slice (some ⟨g,0,none⟩) qs.length C,.int .i64 r] _).of_block (Below.heap_alloc _ _ _ (by simp))
 ·have:=q0b (w.alloc (.cells #[.slice (some ⟨g,0,none⟩) qs.length C,.int .i64 r] 43)) x.vals 84
  simpa using this

theorem SiA.step{base g C:Nat}{w wr w':World}{qs qs1 qs2:List PN}{r:Int}{x:En}(h:SiA base w wr g C qs r x qs1)(hm:q1w base wr g C qs1 w' qs2):SiA base w w' g C qs r x qs2:=by
 have l1:=h.bt.lt
 have l2:=h.bx.lt
 refine⟨h.mem.trans hm,hm.kept.row h.bt h.ft,hm.kept.row h.bx h.fx,fun e=>?_,fun e=>?_⟩
 ·rcases hm.fresh _ e with e|e
  ·exact h.ft e
  ·omega
 ·rcases hm.fresh _ e with e|e
  ·exact h.fx e
  ·omega

theorem SiA.next{base g C:Nat}{w wr w':World}{qs qs1:List PN}{r:Int}{x:En}(h:SiA base w wr g C qs r x qs1)(hb:Below wr.heap.size wr w'):SiA base w w' g C qs r x qs1:=
 h.step (q1w.of_below h.mem.nt hb)

theorem qrc(l:List En)(x:En):(q4m l x).length<=l.length+1:=by
 unfold q4m
 have:=qbo l x.key
 split
 ·simp
 ·simp;omega

set_option maxRecDepth 20000 in
set_option maxHeartbeats 4000000 in
theorem qpg(base g C:Nat)(qs:List PN)(r:Int)(k:Nat)(x:En)(w:World)(D F:List PN->Prop)(kids:List Int)(kd:Nat)(hT:NT base w g C qs)(hk:k<qs.length)(hl:(qs[k]).leaf=false)(hB:base<=w.heap.size)(hkd:kd<kids.length)(HD0:Hid (D qs))
  (HDB:Hid (∀(qs1:List PN) (_:qs1.length=qs.length) (_:D qs1) (h:k<qs1.length),(qs1[k]).buf.Pairwise (fun x y=>x.key<y.key)/\(qs1[k]).buf.length<=8/\(qs1[k]).kids=kids))
  (HFL:Hid (∀W,NT base W g C qs->base<=W.heap.size->Calls Tryz.prog 126 #[.agg #[.slice (some ⟨g,0,none⟩) qs.length C,.int .i64 r],.int .i64 (k:Int)] W fun e w'=>e=.returned (.tuple #[])/\∃qs1,q1w base W g C qs w' qs1/\D qs1))
  (HF1:Hid (∀(qs1:List PN) (_:qs1.length=qs.length) (_:D qs1) (h:k<qs1.length) (A':Option Addr) (C':Nat),(hasK (qs1[k]).buf x.key||decide ((qs1[k]).buf.length<8))=true->F (qs1.set k { qs1[k] with buf:=q4m (qs1[k]).buf x,bA:=A',bC:=C' })))
  (HKI:Hid (∀(qs1:List PN) (W:World) (_:qs1.length=qs.length) (_:D qs1) (h:k<qs1.length),NT base W g C qs1->Calls Tryz.prog 127 #[.agg #[.bool (qs1[k]).leaf,.slice (qs1[k]).eA (qs1[k]).ents.length (qs1[k]).eC,.slice (qs1[k]).kA (qs1[k]).keys.length (qs1[k]).kC,.slice (qs1[k]).dA (qs1[k]).kids.length (qs1[k]).dC,.slice (qs1[k]).bA (qs1[k]).buf.length (qs1[k]).bC],.int .i64 x.key] W fun e w'=>e=.returned (.int .i64 (kd:Int))/\Below W.heap.size W w'))
  (HSK:Hid (∀(qs1:List PN) (W:World),qs1.length=qs.length->D qs1->NT base W g C qs1->base<=W.heap.size->Calls Tryz.prog 91 #[.agg #[.slice (some ⟨g,0,none⟩) qs.length C,.int .i64 r],.int .i64 (kids.getD kd 0),.agg #[.int .i64 x.key,.int .i64 x.c,.int .i64 x.s,.int .i64 x.lo,.int .i64 x.hi,.int .i64 x.t,.int .i64 x.l]] W fun e w'=>e=.returned (.tuple #[])/\∃qs2,q1w base W g C qs1 w' qs2/\F qs2/\qs2[k]? =qs1[k]?)):
  Calls Tryz.prog 91 #[.agg #[.slice (some ⟨g,0,none⟩) qs.length C,.int .i64 r],.int .i64 (k:Int),.agg #[.int .i64 x.key,.int .i64 x.c,.int .i64 x.s,.int .i64 x.lo,.int .i64 x.hi,.int .i64 x.t,.int .i64 x.l]] w
   fun e w'=>e=.returned (.tuple #[])/\∃qs',q1w base w g C qs w' qs'/\F qs':=by
 have hat:=hT.node hk
 have ho:=(hT.each _ (List.getElem_mem hk)).b
 obtain⟨hp0,hle0,-⟩:=HDB.out qs rfl HD0.out hk
 have hgl:=hT.glt.2
 have i1:(k:Int)<(qs.length:Int):=by omega
 have i0:(0:Int)<=(k:Int):=by omega
 have hb2:∀o1 o2:Obj,Below w.heap.size w ((w.alloc o1).alloc o2):=fun o1 o2=>((Below.refl _ _).alloc (Nat.le_refl _) o1).alloc (by simp) o2
 have HS0:=q0a (SiA.start (r:=r) (x:=x) hT)
 obtain⟨n0,n1,n2,n3,n4⟩:=hat
 rw[hl] at n0
 have hcw:=fun W (hW:Below w.heap.size w W)=>qdh (qs[k]).bA (qs[k]).bC (qs[k]).buf x.key W ((q3d (q0v ho hW)).1) (by omega) hp0
 have HW:=q0a hcw
 have HT:=q0a hT
 generalize (hasK (qs[k]).buf x.key||decide ((qs[k]).buf.length<8))=c0 at HW
 generalize (qs[k]).bA=bA0 at HW n4
 generalize (qs[k]).bC=bC0 at HW n4
 generalize (qs[k]).buf.length=bN0 at HW n4
 clear hcw hT ho hl n1 n2 n3 hp0 hle0
 go_enter Tryz.func91,Tryz.ntmps91
 go_upto_region 4 with fail
 go_cut [31] from 24 to 31 (fun v wc=>v=.bool (!c0)/\Hid (SiA base w wc g C qs r x qs))
 case first=>
  go_region_with (go_at_call 125;refine(HW.out _ ((hb2 _ _).drew)).mono ?_;rintro e w2 ⟨rfl,hb2'⟩;have HS1:=q0a (HS0.out.next ((Below.refl _ _).drew.trans hb2'));clear hb2')
  all_goals
   go_wp2
   go_meet
   case rel=>exact⟨rfl,HS1⟩
 case rest=>
  obtain⟨rfl,HS1⟩:=hcut
  have t0:wc.cell? ⟨w.heap.size,0,none⟩=some (.slice (some ⟨g,0,none⟩) qs.length C):=HS1.out.bt.cell 0
  have t1:wc.cell? ⟨w.heap.size,1,none⟩=some (.int .i64 r):=HS1.out.bt.cell 1
  clear HS0 n0 n4 HW
  go_upto_if 31 with fail
  go_cut [] from 32 to 34 (fun wd=>∃qs1:List PN,qs1.length=qs.length/\Hid (D qs1)/\Hid (SiA base w wd g C qs r x qs1))
  case first=>
   cases c0 with
   |true=>
    simp only[Bool.not_true]
    go_wp2_with fail
    go_meet
    case rel=>exact⟨qs,rfl,HD0,HS1⟩
   |false=>
    simp only[Bool.not_false]
    go_wp2_with (go_at_call 126;refine(HFL.out _ HS1.out.mem.nt (Nat.le_trans hB HS1.out.mem.kept.size)).mono ?_;rintro e w2 ⟨rfl,qs1,hm1,hd1⟩)
    go_meet
    case rel=>exact⟨qs1,hm1.len,hd1,HS1.out.step hm1⟩
  case rest=>
   obtain⟨qs1,hl1,HD1,HS2⟩:=hcut
   clear HS1 t0 t1 HFL HD0
   obtain⟨wd,hwd⟩:∃wd,wd=wc:=⟨_,rfl⟩
   subst hwd
   have hk1:k<qs1.length:=by omega
   obtain⟨hp1,hle1,hkids⟩:=HDB.out qs1 hl1 HD1.out hk1
   have hnt:=HS2.out.mem.nt
   have hat:=hnt.node hk1
   have ho:=(hnt.each _ (List.getElem_mem hk1))
   have hgl1:=hnt.glt.2
   have hgb:g∉obk (qs1[k]).bA:=fun e=>(hnt.blocks_nodup hk1).2.2.1 (by rw[q2k];simp[e])
   have hf1:=q0a fun A' C'=>HF1.out qs1 hl1 HD1.out hk1 A' C'
   have hki:=q0a fun W hW=>HKI.out qs1 W hl1 HD1.out hk1 hW
   have hsk:=q0a fun W hW hb=>HSK.out qs1 W hl1 HD1.out hW hb
   obtain⟨n0,n1,n2,n3,n4⟩:=hat
   have hcw:=fun W (hW:Below wd.heap.size wd W)=>qdh (qs1[k]).bA (qs1[k]).bC (qs1[k]).buf x.key W ((q3d (q0v ho.b hW)).1) (by omega) hp1
   have hcon:=fun W (hW:Below wd.heap.size wd W)=>qo4 base (qs1[k]).bA (qs1[k]).bC (qs1[k]).buf x W (q0v ho.b hW) hp1 (Nat.le_trans (Nat.le_trans hB HS2.out.mem.kept.size) hW.size) (by omega)
   have fz:=hnt.free (k*5+4)
   have HW:=q0a hcw
   have HC:=q0a hcon
   have HNT:=q0a hnt
   have HO:=q0a ho
   have HGB:=q0a hgb
   clear hcw hcon hnt ho HF1 HKI HSK HDB hp1 hgb
   obtain⟨q,hq⟩:∃q,qs1[k]=q:=⟨_,rfl⟩
   rw[hq] at HW HC HO HGB hf1 hki n0 n1 n2 n3 n4 hkids hle1
   obtain⟨c1,hc1⟩:∃c,c=(hasK q.buf x.key||decide (q.buf.length<8)):=⟨_,rfl⟩
   rw[<-hc1] at HW hf1
   clear hc1
   have x0:wd.cell? ⟨w.heap.size+1,0,none⟩=some (.int .i64 x.key):=HS2.out.bx.cell 0
   have hxl:=HS2.out.bx.lt
   go_upto_region 6 with fail
   go_cut [41] from 35 to 41 (fun v we=>v=.bool c1/\Hid (Below wd.heap.size wd we))
   case first=>
    go_region_with (go_at_call 125;refine(HW.out _ ((Below.refl _ _).drew)).mono ?_;rintro e w2 ⟨rfl,hb2'⟩)
    all_goals
     go_wp2
     go_meet
     case rel=>exact⟨rfl,(Below.refl _ _).drew.trans hb2'⟩
   case rest=>
    obtain⟨rfl,HBE⟩:=hcut
    have hbe:=HBE.out
    have HS3:=q0a (HS2.out.next hbe)
    have hsze:=hbe.size
    have m0:=(hbe.cell (p:=⟨g,k*5,none⟩) hgl1).trans n0
    have m1:=(hbe.cell (p:=⟨g,k*5+1,none⟩) hgl1).trans n1
    have m2:=(hbe.cell (p:=⟨g,k*5+2,none⟩) hgl1).trans n2
    have m3:=(hbe.cell (p:=⟨g,k*5+3,none⟩) hgl1).trans n3
    have m4:=(hbe.cell (p:=⟨g,k*5+4,none⟩) hgl1).trans n4
    have hge:g<wc.heap.size:=by omega
    have y0:wc.cell? ⟨w.heap.size+1,0,none⟩=some (.int .i64 x.key):=HS3.out.bx.cell 0
    have y1:wc.cell? ⟨w.heap.size+1,1,none⟩=some (.int .i64 x.c):=HS3.out.bx.cell 1
    have y2:wc.cell? ⟨w.heap.size+1,2,none⟩=some (.int .i64 x.s):=HS3.out.bx.cell 2
    have y3:wc.cell? ⟨w.heap.size+1,3,none⟩=some (.int .i64 x.lo):=HS3.out.bx.cell 3
    have y4:wc.cell? ⟨w.heap.size+1,4,none⟩=some (.int .i64 x.hi):=HS3.out.bx.cell 4
    have y5:wc.cell? ⟨w.heap.size+1,5,none⟩=some (.int .i64 x.t):=HS3.out.bx.cell 5
    have y6:wc.cell? ⟨w.heap.size+1,6,none⟩=some (.int .i64 x.l):=HS3.out.bx.cell 6
    have b0:wc.cell? ⟨w.heap.size,0,none⟩=some (.slice (some ⟨g,0,none⟩) qs.length C):=HS3.out.bt.cell 0
    have b1:wc.cell? ⟨w.heap.size,1,none⟩=some (.int .i64 r):=HS3.out.bt.cell 1
    have hxl3:=HS3.out.bx.lt
    have hbl3:=HS3.out.bt.lt
    clear n0 n1 n2 n3 n4 x0 hbe
    cases c1 with
    |true=>
     have fz3:wc.frozen? ⟨g,k*5+4,none⟩=false:=(HBE.out.frozen (p:=⟨g,k*5+4,none⟩) hgl1).trans fz
     go_upto_region 7 with fail
     go_region_with (go_at_call 124;refine(HC.out _ (HBE.out.drew)).mono ?_;rintro e w2 ⟨A2,C2,rfl,hm2⟩;have HM:=q0a (hm2.from ((Below.refl _ _).drew));have c2:w2.cell? ⟨g,k*5+4,none⟩=some (.slice q.bA q.buf.length q.bC):=(HM.out.kept.cell _ hge HGB.out).trans m4;have f2:w2.frozen? ⟨g,k*5+4,none⟩=false:=(World.frozen?_of_block (a:=⟨g,k*5+4,none⟩) (HM.out.kept.block g hge HGB.out)).trans fz3;clear hm2)
     all_goals
      go_wp2
      (try simp only[Exit.inBlock,Exit.then]);refine bodyPost_ret (results_none rfl _ _ _) rfl ?_
      have hst:=HS3.out.mem.nt.setBuf hk1 hq HM.out.own HM.out.kept HM.out.lies' (by have:=qrc q.buf x;omega)
      refine⟨rfl,_,HS3.out.mem.trans hst,?_⟩
      exact hf1.out A2 C2 trivial
    |false=>
     have hod:=(q3d HO.out.d).1
     rw[hkids] at hod m3 hki
     obtain⟨db,doff,hA,hdl,hdc⟩:=hod.int hkd
     rw[hA] at m3 hki
     have nk:wc.cell? ⟨db,doff+kd,none⟩=some (.int .i64 (kids.getD kd 0)):=by
      rw[HBE.out.cell (p:=⟨db,doff+kd,none⟩) hdl,hdc,List.getD_eq_getElem?_getD,List.getElem?_eq_getElem hkd]
      rfl
     have hnodes:Hid (∀(w3:World) (qs2:List PN),NT base w3 g C qs2->qs2[k]? =qs1[k]?->w3.cell? ⟨g,k*5,none⟩=some (.bool q.leaf)/\w3.cell? ⟨g,k*5+1,none⟩=some (.slice q.eA q.ents.length q.eC)/\w3.cell? ⟨g,k*5+2,none⟩=some (.slice q.kA q.keys.length q.kC)/\w3.cell? ⟨g,k*5+3,none⟩=some (.slice (some ⟨db,doff,none⟩) kids.length q.dC)/\w3.cell? ⟨g,k*5+4,none⟩=some (.slice q.bA q.buf.length q.bC)/\w3.cell? ⟨db,doff+kd,none⟩=some (.int .i64 (kids.getD kd 0))):=fun w3 qs2 hn2 hq2=>by
      rw[List.getElem?_eq_getElem hk1,hq] at hq2
      obtain⟨hk2,hq2'⟩:=List.getElem?_eq_some_iff.1 hq2
      obtain⟨d0,d1,d2,d3,d4⟩:=hn2.node hk2
      have hod2:=(q3d (hn2.each _ (List.getElem_mem hk2)).d).1
      rw[hq2'] at d0 d1 d2 d3 d4 hod2
      rw[hkids] at hod2 d3
      rw[hA] at hod2 d3
      obtain⟨db',doff',hA',_,hdc'⟩:=hod2.int hkd
      cases hA'
      refine⟨d0,d1,d2,d3,d4,?_⟩
      rw[hdc',List.getD_eq_getElem?_getD,List.getElem?_eq_getElem hkd]
      rfl
     generalize kids.getD kd 0=kp at nk hsk hnodes
     have hdl3:db<wc.heap.size:=by omega
     have k0:(0:Int)<=(kd:Int):=by omega
     have k1:(kd:Int)<(kids.length:Int):=by omega
     have hnt3:=q0a HS3.out.mem.nt
     have hbs:base<=wc.heap.size:=Nat.le_trans hB HS3.out.mem.kept.size
     clear HW HC HO HGB hod hdc hA hf1 HS2 HNT hkids
     go_upto_region 8 with fail
     go_region_held3 (fun w'=>w'.cell? ⟨w.heap.size,0,none⟩=some (.slice (some ⟨g,0,none⟩) qs.length C)/\w'.cell? ⟨w.heap.size,1,none⟩=some (.int .i64 r)/\w'.cell? ⟨g,k*5,none⟩=some (.bool q.leaf)/\w'.cell? ⟨g,k*5+1,none⟩=some (.slice q.eA q.ents.length q.eC)/\w'.cell? ⟨g,k*5+2,none⟩=some (.slice q.kA q.keys.length q.kC)/\w'.cell? ⟨g,k*5+3,none⟩=some (.slice (some ⟨db,doff,none⟩) kids.length q.dC)/\w'.cell? ⟨g,k*5+4,none⟩=some (.slice q.bA q.buf.length q.bC)/\w'.cell? ⟨w.heap.size+1,0,none⟩=some (.int .i64 x.key)/\w'.cell? ⟨w.heap.size+1,1,none⟩=some (.int .i64 x.c)/\w'.cell? ⟨w.heap.size+1,2,none⟩=some (.int .i64 x.s)/\w'.cell? ⟨w.heap.size+1,3,none⟩=some (.int .i64 x.lo)/\w'.cell? ⟨w.heap.size+1,4,none⟩=some (.int .i64 x.hi)/\w'.cell? ⟨w.heap.size+1,5,none⟩=some (.int .i64 x.t)/\w'.cell? ⟨w.heap.size+1,6,none⟩=some (.int .i64 x.l)/\w'.cell? ⟨db,doff+kd,none⟩=some (.int .i64 kp)) (go_keep) (first
      |(go_at_call 127;refine(hki.out _ (hnt3.out.below ((Below.refl _ _).drew) (Nat.le_refl _))).mono ?_;rintro e w2 ⟨rfl,hb2'⟩;have hbw2:Below wc.heap.size wc w2:=(Below.refl _ _).drew.trans hb2';have HS4:=q0a (HS3.out.next hbw2);have z:=fun b o (hb:b<wc.heap.size)=>hbw2.cell (p:=⟨b,o,none⟩) hb;have z0:=(z _ 0 hbl3).trans b0;have z1:=(z _ 1 hbl3).trans b1;have z2:=(z g (k*5) hge).trans m0;have z3:=(z g (k*5+1) hge).trans m1;have z4:=(z g (k*5+2) hge).trans m2;have z5:=(z g (k*5+3) hge).trans m3;have z6:=(z g (k*5+4) hge).trans m4;have z7:=(z _ 0 hxl3).trans y0;have z8:=(z _ 1 hxl3).trans y1;have z9:=(z _ 2 hxl3).trans y2;have za:=(z _ 3 hxl3).trans y3;have zb:=(z _ 4 hxl3).trans y4;have zc:=(z _ 5 hxl3).trans y5;have zd:=(z _ 6 hxl3).trans y6;have ze:=(z db (doff+kd) hdl3).trans nk;clear z)
      |(go_at_call 91;refine(hsk.out _ HS4.out.mem.nt (Nat.le_trans hB HS4.out.mem.kept.size)).mono ?_;rintro e w3 ⟨rfl,qs2,hm2,hf2,hq2⟩;have HS5:=q0a (HS4.out.step hm2);have HR:=q0a (And.intro (HS4.out.mem.trans hm2) hf2);have v:=hnodes.out w3 qs2 hm2.nt hq2;obtain⟨v0,v1,v2,v3,v4,v5⟩:=v;have u0:w3.cell? ⟨w.heap.size,0,none⟩=some (.slice (some ⟨g,0,none⟩) qs.length C):=HS5.out.bt.cell 0;have u1:w3.cell? ⟨w.heap.size,1,none⟩=some (.int .i64 r):=HS5.out.bt.cell 1;have u2:=fun j=>HS5.out.bx.cell j;simp only[En.vals] at u2;clear hm2 hf2 hq2))
     all_goals
      go_wp2
      go_end0
      exact⟨rfl,_,HR.out⟩

end
end Go.Proofs.YtlojfgdpmaigmahGreatDoor

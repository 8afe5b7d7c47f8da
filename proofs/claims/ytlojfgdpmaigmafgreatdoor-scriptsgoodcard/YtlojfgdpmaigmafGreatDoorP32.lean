/- A tree in memory of one's own: one list of a node is turned. -/
import Derived.Test.YtlojfgdpmaigmafGreatDoorP31
import Derived.Test.YtlojfgdpmaigmafGreatDoorP24
import Derived.Test.YtlojfgdpmaigmafGreatDoorP29
import Derived.Test.YtlojfgdpmaigmafGreatDoorP25
namespace Go.Proofs.YtlojfgdpmaigmafGreatDoor
section
open Go.RowKit Plain

theorem q2i(p:PN):p.blocks=obk p.eA++(obk p.kA++(obk p.dA++obk p.bA)):=by
 unfold PN.blocks obk
 cases p.eA<;>cases p.kA<;>cases p.dA<;>cases p.bA<;>rfl

theorem qbm(qs:List PN)(k j:Nat)(u:Value)(p:PN)(hk:k<qs.length)(hj:j<5)(hp:p.vals=(qs[k]).vals.set j u):(q2m qs).set (k*5+j) u=q2m (qs.set k p):=by
 obtain⟨e1,e2⟩:=q3l qs k p hk
 have hl:(q2m (qs.take k)).length=k*5:=by rw[q2g,List.length_take];omega
 have hv:(qs[k]).vals.length=5:=rfl
 rw[e2]
 conv=>lhs;rw[e1]
 rw[q5m,q5m,q2m,q2m,List.set_append_right _ _ (by omega),hl,Nat.add_sub_cancel_left,List.set_append_left _ _ (by omega),hp]

theorem qia{g k B:Nat}{qs:List PN}{p:PN}(hk:k<qs.length)(ha:(feet g qs).Nodup)(hn:p.blocks.Nodup)(hlt:∀b∈feet g qs,b<B)(hb:∀b∈p.blocks,b∈(qs[k]).blocks\/B<=b):
  (feet g (qs.set k p)).Nodup/\∀b∈feet g (qs.set k p),b∈feet g qs\/B<=b:=by
 obtain⟨A,x,D,hq,hset,hx⟩:∃A x D,qs=A++x::D/\qs.set k p=A++p::D/\qs[k]=x:=⟨_,_,_,(q3l qs k p hk).1,(q3l qs k p hk).2,rfl⟩
 rw[hx] at hb
 rw[hset]
 clear hset hx hk
 subst hq
 unfold feet at *
 simp only[List.flatMap_append,List.flatMap_cons,List.nodup_cons,List.nodup_append,List.mem_append,List.mem_cons,not_or] at *
 obtain⟨⟨a1,a2,a3⟩,a4,⟨a5,a6,a7⟩,a8⟩:=ha
 refine⟨⟨⟨a1,fun h=>?_,a3⟩,a4,⟨hn,a6,fun b h1 c h2 e=>?_⟩,fun b h1 c h2 e=>?_⟩,fun b h1=>?_⟩
 ·rcases hb g h with h|h
  ·exact a2 h
  ·have:=hlt g (.inl rfl);omega
 ·rcases hb b h1 with h|h
  ·exact a7 b h c h2 e
  ·have:=hlt c (.inr (.inr (.inr h2)));omega
 ·rcases h2 with h2|h2
  ·rcases hb c h2 with h|h
   ·exact a8 b h1 c (.inl h) e
   ·have:=hlt b (.inr (.inl h1));omega
  ·exact a8 b h1 c (.inr h2) e
 ·rcases h1 with h1|h1|h1|h1
  ·exact .inl (.inl h1)
  ·exact .inl (.inr (.inl h1))
  ·rcases hb b h1 with h|h
   ·exact .inl (.inr (.inr (.inl h)))
   ·exact .inr h
  ·exact .inl (.inr (.inr (.inr h1)))

structure q1t(base:Nat)(w:World)(g C:Nat)(qs:List PN)(w':World)(qs':List PN):Prop where
 nt:NT base w' g C qs'
 len:qs'.length=qs.length
 kept:Kept (feet g qs) w w'
 fresh:∀b∈feet g qs',b∈feet g qs\/w.heap.size<=b

theorem q1t.trans{base g C:Nat}{w w1 w2:World}{qs qs1 qs2:List PN}(h:q1t base w g C qs w1 qs1)(k:q1t base w1 g C qs1 w2 qs2):q1t base w g C qs w2 qs2:=
 ⟨k.nt,k.len.trans h.len,h.kept.step k.kept h.fresh,fun b hb=>by
  rcases k.fresh b hb with e|e
  ·exact h.fresh b e
  ·exact .inr (Nat.le_trans h.kept.size e)⟩

theorem q1t.of_below{base g C:Nat}{w w1:World}{qs:List PN}(h:NT base w g C qs)(hb:Below w.heap.size w w1):q1t base w g C qs w1 qs:=
 ⟨h.below hb (Nat.le_refl _),rfl,Kept.of_below hb,fun _ e=>.inl e⟩

theorem NT.blocks_nodup{base g C k:Nat}{w:World}{qs:List PN}(h:NT base w g C qs)(hk:k<qs.length):(qs[k]).blocks.Nodup/\(∀b∈(qs[k]).blocks,b∈feet g qs)/\g∉(qs[k]).blocks/\∀q∈qs.take k++qs.drop (k+1),∀b∈q.blocks,b∉(qs[k]).blocks:=by
 have ha:=h.apart
 obtain⟨e1,-⟩:=q3l qs k qs[k] hk
 have hm:∀b∈(qs[k]).blocks,b∈feet g qs:=fun b hb=>List.mem_cons_of_mem _ (List.mem_flatMap.2 ⟨_,List.getElem_mem hk,hb⟩)
 refine⟨?_,hm,?_,?_⟩
 ·rw[e1] at ha
  unfold feet at ha
  simp only[List.flatMap_append,List.flatMap_cons,List.nodup_cons,List.nodup_append] at ha
  exact ha.2.2.1.1
 ·intro hb
  rw[feet,List.nodup_cons] at ha
  exact ha.1 (List.mem_flatMap.2 ⟨_,List.getElem_mem hk,hb⟩)
 ·intro q hq b hb hb2
  rw[e1] at ha
  unfold feet at ha
  simp only[List.flatMap_append,List.flatMap_cons,List.nodup_cons,List.nodup_append] at ha
  obtain⟨_,_,⟨_,_,a7⟩,a8⟩:=ha
  rcases List.mem_append.1 hq with hq|hq
  ·exact a8 b (List.mem_flatMap.2 ⟨q,hq,hb⟩) b (List.mem_append_left _ hb2) rfl
  ·exact a7 b hb2 b (List.mem_flatMap.2 ⟨q,hq,hb⟩) rfl

theorem NT.turn{base g C k j:Nat}{w w1:World}{qs:List PN}{p:PN}{u:Value}{A:Option Addr}(h:NT base w g C qs)(hk:k<qs.length)(hj:j<5)(hp:p.vals=(qs[k]).vals.set j u)(hA:∀b∈obk A,b∈(qs[k]).blocks)(hkept:Kept (obk A) w w1)
  (hnd:p.blocks.Nodup) (hb:∀b∈p.blocks,b∈(qs[k]).blocks\/w.heap.size<=b) (hown:p.own base w1):q1t base w g C qs (w1.setCell ⟨g,k*5+j,none⟩ u) (qs.set k p):=by
 obtain⟨b1,b2,b3,b4⟩:=h.blocks_nodup hk
 have hfl:=h.lt
 have hgA:g∉obk A:=fun e=>b3 (hA g e)
 have hgp:g∉p.blocks:=fun e=>by
  rcases hb g e with e|e
  ·exact b3 e
  ·have:=(hfl g List.mem_cons_self).2;omega
 obtain⟨f1,f2⟩:=qia hk h.apart hnd (fun b hb=>(hfl b hb).2) hb
 have hset:∀b,b≠g->(w1.setCell ⟨g,k*5+j,none⟩ u).heap[b]? =w1.heap[b]? :=fun b hb=>Below.heap_setCell _ _ _ _ hb
 have hg1:w1.ownsRow base 153 5 (.slice (some ⟨g,0,none⟩) qs.length C) qs.length (q2m qs):=q0c h.own fun b hb=>by
  have e:b=g:=by have:g=b:=(by simpa [Value.ownBlock] using hb);omega
  subst e
  exact hkept.block _ (hfl _ List.mem_cons_self).2 hgA
 refine⟨⟨?_,fun q hq=>?_,f1,by simpa using h.z⟩,by simp,?_,f2⟩
 ·rw[<-qbm qs k j u p hk hj hp,List.length_set]
  exact q3h hg1 _ _
 ·rw[(q3l qs k p hk).2] at hq
  have hq':q∈qs.take k++qs.drop (k+1)\/q=p:=by
   simp only[List.mem_append,List.mem_cons] at hq ⊢
   rcases hq with e|e|e
   ·exact .inl (.inl e)
   ·exact .inr e
   ·exact .inl (.inr e)
  rcases hq' with hq'|rfl
  ·have hqm:q∈qs:=by
    rcases List.mem_append.1 hq' with e|e
    ·exact List.mem_of_mem_take e
    ·exact List.mem_of_mem_drop e
   refine(h.each q hqm).of_blocks fun b hbq=>?_
   have hbf:b∈feet g qs:=List.mem_cons_of_mem _ (List.mem_flatMap.2 ⟨q,hqm,hbq⟩)
   have hbg:b≠g:=fun e=>by
    have ha:=h.apart
    rw[feet,List.nodup_cons] at ha
    exact ha.1 (List.mem_flatMap.2 ⟨q,hqm,e▸hbq⟩)
   rw[hset b hbg]
   exact hkept.block b (hfl b hbf).2 (fun e=>b4 q hq' b hbq (hA b e))
  ·exact hown.of_blocks fun b hb=>hset b (fun e=>hgp (e▸hb))
 ·exact(hkept.mono fun b hb=>b2 b (hA b hb)).set (.inl List.mem_cons_self) _

theorem q7t.lies'{base n size C':Nat}{t:TypeId}{A A':Option Addr}{vs:List Value}{w w':World}(h:q7t base t size n A A' C' vs w w'):∀b∈obk A',b∈obk A\/w.heap.size<=b:=by
 intro k hk
 rw[mem_obk] at hk
 rcases h.lies with e|⟨k',e,hk'⟩
 ·left;rw[mem_obk,<-e];exact hk
 ·rw[e] at hk;cases hk;exact .inr hk'

theorem qat(A:Option Addr):(obk A).Nodup:=by cases A<;>simp[obk]

theorem qf6{B:Nat}{X X' Y:List Nat}(h:(X++Y).Nodup)(hX:X'.Nodup)(hb:∀b∈X',b∈X\/B<=b)(hlt:∀b∈Y,b<B):(X'++Y).Nodup:=by
 rw[List.nodup_append] at *
 refine⟨hX,h.2.1,fun a ha b hb2 e=>?_⟩
 rcases hb a ha with q|q
 ·exact h.2.2 a q b hb2 e
 ·have:=hlt b hb2;omega

theorem NT.setEnts{base g C k C':Nat}{w w1:World}{qs:List PN}{A':Option Addr}{l:List En}{q:PN}(h:NT base w g C qs)(hk:k<qs.length)(hqk:qs[k]=q)(hm:q7t base 86 7 l.length q.eA A' C' (q0d l) w w1)(hz:l.length*56<=140737488351232):
  q1t base w g C qs (w1.setCell ⟨g,k*5+1,none⟩ (.slice A' l.length C')) (qs.set k { q with ents:=l,eA:=A',eC:=C' }):=by
 obtain⟨b1,b2,b3,b4⟩:=h.blocks_nodup hk
 have ho:=h.each _ (List.getElem_mem hk)
 have hlt:=ho.lt
 rw[hqk] at b1 ho hlt
 have hq:=q2i q
 rw[hq] at b1
 have hfar:∀b,b∈obk q.kA\/b∈obk q.dA\/b∈obk q.bA->w1.heap[b]? =w.heap[b]? :=fun b hb=>by
  have hbm:b∈obk q.kA++(obk q.dA++obk q.bA):=by simpa using hb
  refine hm.kept.block b (hlt b (by rw[hq];exact List.mem_append_right _ hbm)).2 fun e=>?_
  exact(List.nodup_append.1 b1).2.2 b e b hbm rfl
 refine h.turn (A:=q.eA) hk (by decide) (by rw[hqk];rfl) (fun b hb=>by rw[hqk,hq];simp[hb]) hm.kept ?_ ?_ ?_
 ·rw[q2i]
  exact qf6 b1 (qat _) hm.lies' (fun b hb=>(hlt b (by rw[hq];exact List.mem_append_right _ hb)).2)
 ·intro b hb
  rw[hqk,hq]
  rw[q2i] at hb
  rcases List.mem_append.1 hb with hb|hb
  ·rcases hm.lies' b hb with e|e
   ·exact .inl (List.mem_append_left _ e)
   ·exact .inr e
  ·exact .inl (List.mem_append_right _ hb)
 ·exact⟨hm.own,q0c ho.k fun b hb=>hfar b (.inl (q7x hb)),q0c ho.d fun b hb=>hfar b (.inr (.inl (q7x hb))),q0c ho.b fun b hb=>hfar b (.inr (.inr (q7x hb))),hz,ho.kz,ho.dz,ho.bz⟩

theorem NT.setBuf{base g C k C':Nat}{w w1:World}{qs:List PN}{A':Option Addr}{l:List En}{q:PN}(h:NT base w g C qs)(hk:k<qs.length)(hqk:qs[k]=q)(hmo:w1.ownsRow base 86 7 (.slice A' l.length C') l.length (q0d l))(hmk:Kept (obk q.bA) w w1)(hml:∀b∈obk A',b∈obk q.bA\/w.heap.size<=b)(hz:l.length*56<=140737488351232):
  q1t base w g C qs (w1.setCell ⟨g,k*5+4,none⟩ (.slice A' l.length C')) (qs.set k { q with buf:=l,bA:=A',bC:=C' }):=by
 obtain⟨b1,b2,b3,b4⟩:=h.blocks_nodup hk
 have ho:=h.each _ (List.getElem_mem hk)
 have hlt:=ho.lt
 rw[hqk] at b1 ho hlt
 have hq:∀b,b∈q.blocks↔b∈obk q.bA++(obk q.eA++(obk q.kA++obk q.dA)):=fun b=>by
  rw[q2i]
  simp only[List.mem_append]
  constructor
  ·rintro(h|h|h|h)
   ·exact .inr (.inl h)
   ·exact .inr (.inr (.inl h))
   ·exact .inr (.inr (.inr h))
   ·exact .inl h
  ·rintro(h|h|h|h)
   ·exact .inr (.inr (.inr h))
   ·exact .inl h
   ·exact .inr (.inl h)
   ·exact .inr (.inr (.inl h))
 have hperm:∀X:List Nat,(obk q.eA++(obk q.kA++(obk q.dA++X))).Perm (X++(obk q.eA++(obk q.kA++obk q.dA))):=fun X=>by
  have e:obk q.eA++(obk q.kA++(obk q.dA++X))=(obk q.eA++(obk q.kA++obk q.dA))++X:=by simp
  rw[e]
  exact List.perm_append_comm
 have b1':(obk q.bA++(obk q.eA++(obk q.kA++obk q.dA))).Nodup:=by
  rw[q2i] at b1
  exact(hperm _).nodup_iff.1 b1
 have hfar:∀b,b∈obk q.eA\/b∈obk q.kA\/b∈obk q.dA->w1.heap[b]? =w.heap[b]? :=fun b hb=>by
  have hbm:b∈obk q.eA++(obk q.kA++obk q.dA):=by simpa using hb
  refine hmk.block b (hlt b ((hq b).2 (List.mem_append_right _ hbm))).2 fun e=>?_
  exact(List.nodup_append.1 b1').2.2 b e b hbm rfl
 refine h.turn (A:=q.bA) hk (by decide) (by rw[hqk];rfl) (fun b hb=>by rw[hqk,hq];simp[hb]) hmk ?_ ?_ ?_
 ·rw[q2i]
  refine(hperm _).nodup_iff.2 ?_
  exact qf6 b1' (qat _) hml (fun b hb=>(hlt b ((hq b).2 (List.mem_append_right _ hb))).2)
 ·intro b hb
  rw[hqk,hq]
  rw[q2i] at hb
  have hb:=(hperm _).mem_iff.1 hb
  rcases List.mem_append.1 hb with hb|hb
  ·rcases hml b hb with e|e
   ·exact .inl (List.mem_append_left _ e)
   ·exact .inr e
  ·exact .inl (List.mem_append_right _ hb)
 ·exact⟨q0c ho.e fun b hb=>hfar b (.inl (q7x hb)),q0c ho.k fun b hb=>hfar b (.inr (.inl (q7x hb))),q0c ho.d fun b hb=>hfar b (.inr (.inr (q7x hb))),hmo,ho.ez,ho.kz,ho.dz,hz⟩

end
section
open Go.RowKit Plain Go.Shelf

set_option maxRecDepth 20000 in
set_option maxHeartbeats 1000000 in
theorem qt8(A:Option Addr)(C:Nat)(r place key:Int)(ps:List PN)(w:World)(hN:q0q w.heap.size w A ps)(hr:Reach (ps.map PN.nd) 12 place)(hk:0<=key/\key<=1099511627775)(s:Ru × Int)(hs:Hid ((Wl (ps.map PN.nd) key (key+1) 12 place).foldl q2y (zro,0)=s)):
  Calls Tryz.prog 162 #[.agg #[.slice A ps.length C,.int .i64 r],.int .i64 place,.int .i64 key] w
   fun e w'=>e=.returned (.bool (s.2 != 0))/\Below w.heap.size w w':=by
 have hb0:∀o:Obj,Below w.heap.size w (w.alloc o):=fun o=>(Below.refl _ _).alloc (Nat.le_refl _) o
 have con:=fun o:Obj=>q8m A C r place key ps (w.alloc o) (hN.up (hb0 o)) hr hk s hs
 have HC:=q0a con
 clear con hr hs
 generalize s.1=q at HC
 generalize s.2=z at HC ⊢
 go_enter Tryz.func162,Tryz.ntmps162
 go_wp2_with (go_at_call 91;refine(HC.out _).mono ?_;rintro e w1 ⟨rfl,hb1⟩;have hbw:Below w.heap.size w w1:=q0e (hb0 _) (Nat.le_refl _) hb1;have hs1:w.heap.size<=w1.heap.size:=hbw.size)
 go_ret
 exact⟨rfl,hbw.alloc (by omega) _⟩

set_option maxRecDepth 20000 in
set_option maxHeartbeats 4000000 in
theorem qjb(base g C:Nat)(qs:List PN)(r:Int)(k:Nat)(q:PN)(x:En)(w:World)(hT:NT base w g C qs)(hk:k<qs.length)(hqk:qs[k]=q)(hl:q.leaf=true)(hp:q.ents.Pairwise (fun x y=>x.key<y.key))(hz:(q.ents.length+1)*56<=140737488351232)(hB:base<=w.heap.size):
  Calls Tryz.prog 93 #[.agg #[.slice (some ⟨g,0,none⟩) qs.length C,.int .i64 r],.int .i64 (k:Int),.agg #[.int .i64 x.key,.int .i64 x.c,.int .i64 x.s,.int .i64 x.lo,.int .i64 x.hi,.int .i64 x.t,.int .i64 x.l]] w
   fun e w'=>∃A' C',e=.returned (.tuple #[])/\q1t base w g C qs w' (qs.set k { q with ents:=q4k q.ents x,eA:=A',eC:=C' }):=by
 have hb2:∀o1 o2:Obj,Below w.heap.size w ((w.alloc o1).alloc o2):=fun o1 o2=>((Below.refl _ _).alloc (Nat.le_refl _) o1).alloc (by simp) o2
 have hat:=hT.node hk
 rw[hqk] at hat
 obtain⟨n0,n1,n2,n3,n4⟩:=hat
 rw[hl] at n0
 have hgl:=hT.glt.2
 have i1:(k:Int)<(qs.length:Int):=by omega
 have i0:(0:Int)<=(k:Int):=by omega
 have ho:=(hT.each _ (List.getElem_mem hk)).e
 have hge:g∉obk q.eA:=fun e=>(hT.blocks_nodup hk).2.2.1 (by rw[hqk,q2i];simp[e])
 rw[hqk] at ho
 have hcon:=fun W (hW:Below w.heap.size w W)=>qn2 base q.eA q.eC q.ents x W (q0v ho hW) hp (Nat.le_trans hB hW.size) hz
 have fz:=hT.free (k*5+1)
 have hwl:(q4k q.ents x).length<=q.ents.length+1:=by
  unfold q4k
  have:=qbp q.ents x.key
  split
  ·simp
  ·simp;omega
 have HC:=q0a hcon
 have HT:=q0a hT
 have HG:=q0a hge
 have HQ:=q0a hqk
 have HZ:=q0a hz
 have HWL:=q0a hwl
 clear hcon hT hge ho hqk hp hl hwl hz n2 n3 n4
 go_enter Tryz.func93,Tryz.ntmps93
 go_wp2_with fail
 go_region_with (go_at_call 134;refine(HC.out _ ((hb2 _ _).drew)).mono ?_;rintro e w2 ⟨A2,C2,rfl,hm2⟩;have HM:=q0a (hm2.from ((hb2 _ _).drew));have c2:w2.cell? ⟨g,k*5+1,none⟩=some (.slice q.eA q.ents.length q.eC):=(HM.out.kept.cell _ hgl HG.out).trans n1;have f2:w2.frozen? ⟨g,k*5+1,none⟩=false:=(World.frozen?_of_block (a:=⟨g,k*5+1,none⟩) (HM.out.kept.block g hgl HG.out)).trans fz;clear hm2)
 all_goals
  go_wp2
  (try simp only[Exit.inBlock,Exit.then]);refine bodyPost_ret (results_none rfl _ _ _) rfl ?_
  exact⟨A2,C2,rfl,HT.out.setEnts hk HQ.out HM.out (by have:=HZ.out;have:=HWL.out;omega)⟩

def stB(ns:List Nd)(p key:Int):Bool:=((Wl ns key (key+1) 12 p).foldl q2y (zro,0)).2 != 0

structure FlA(w wr:World)(g C n:Nat)(r:Int):Prop where
 below:Below w.heap.size w wr
 box:RowL wr w.heap.size 26 [.slice (some ⟨g,0,none⟩) n C,.int .i64 r]
 waits:∃a0 a1 a2 a3:Int,RowL wr (w.heap.size+1) 162 [.int .i64 a0,.int .i64 a1,.int .i64 a2,.int .i64 a3]

theorem FlA.next{w wr w':World}{g C n:Nat}{r:Int}(h:FlA w wr g C n r)(hb:Below wr.heap.size wr w'):FlA w w' g C n r:=by
 obtain⟨a0,a1,a2,a3,hw⟩:=h.waits
 exact⟨q0e h.below (Nat.le_refl _) hb,h.box.below hb h.box.lt,a0,a1,a2,a3,hw.below hb hw.lt⟩

theorem FlA.size{w wr:World}{g C n:Nat}{r:Int}(h:FlA w wr g C n r):w.heap.size+1<wr.heap.size:=by
 obtain⟨_,_,_,_,hw⟩:=h.waits
 exact hw.lt

theorem FlA.at{w wr:World}{g C n:Nat}{r:Int}(h:FlA w wr g C n r){m:Nat}(hm:m<4):∃v:Int,wr.cell? ⟨w.heap.size+1,m,none⟩=some (.int .i64 v):=by
 obtain⟨a0,a1,a2,a3,hw⟩:=h.waits
 rw[hw.cell]
 rcases(show m=0\/m=1\/m=2\/m=3 by omega) with rfl|rfl|rfl|rfl
 ·exact⟨a0,rfl⟩
 ·exact⟨a1,rfl⟩
 ·exact⟨a2,rfl⟩
 ·exact⟨a3,rfl⟩

theorem FlA.frozen{w wr:World}{g C n:Nat}{r:Int}(h:FlA w wr g C n r)(m:Nat):wr.frozen? ⟨w.heap.size+1,m,none⟩=false:=by
 obtain⟨_,_,_,_,hw⟩:=h.waits
 exact hw.frozen m

theorem FlA.set{w wr:World}{g C n:Nat}{r:Int}(h:FlA w wr g C n r){m:Nat}(hm:m<4)(v:Int):FlA w (wr.setCell ⟨w.heap.size+1,m,none⟩ (.int .i64 v)) g C n r:=by
 obtain⟨a0,a1,a2,a3,hw⟩:=h.waits
 refine⟨h.below.setCell (by show w.heap.size<=w.heap.size+1;omega) _,h.box.of_block (Below.heap_setCell _ _ _ _ (by show w.heap.size≠w.heap.size+1;omega)),?_⟩
 have:=hw.set m (.int .i64 v)
 rcases(show m=0\/m=1\/m=2\/m=3 by omega) with rfl|rfl|rfl|rfl
 ·exact⟨v,a1,a2,a3,this⟩
 ·exact⟨a0,v,a2,a3,this⟩
 ·exact⟨a0,a1,v,a3,this⟩
 ·exact⟨a0,a1,a2,v,this⟩

structure FlB(w wr:World)(g C n:Nat)(r:Int)(sl dn:List En)(vs vd:Value):Prop where
 below:Below w.heap.size w wr
 box:RowL wr w.heap.size 26 [.slice (some ⟨g,0,none⟩) n C,.int .i64 r]
 hz:w.heap.size+2<=wr.heap.size
 os:wr.ownsRow (w.heap.size+2) 86 7 vs sl.length (q0d sl)
 od:wr.ownsRow (w.heap.size+2) 86 7 vd dn.length (q0d dn)
 ne:∀b,vs.ownBlock=some b->vd.ownBlock≠some b

theorem FlB.next{w wr w':World}{g C n:Nat}{r:Int}{sl dn:List En}{vs vd:Value}(h:FlB w wr g C n r sl dn vs vd)(hb:Below wr.heap.size wr w'):FlB w w' g C n r sl dn vs vd:=
 ⟨q0e h.below (Nat.le_refl _) hb,h.box.below hb h.box.lt,Nat.le_trans h.hz hb.size,q0v h.os hb,q0v h.od hb,h.ne⟩

theorem FlB.addS{w wr w1:World}{g C n g' cap:Nat}{r:Int}{sl dn:List En}{vs vd:Value}{x:En}(h:FlB w wr g C n r sl dn vs vd)(hown:w1.ownsRow (w.heap.size+2) 86 7 (.slice (some ⟨g',0,none⟩) (sl.length+1) cap) (sl.length+1) (q0d sl++q0d [x]))(hgrow:wr.grownBy w1 vs.ownBlock)(hat:vs.ownBlock=some g'\/g'=wr.heap.size):
  FlB w w1 g C n r (sl++[x]) dn (.slice (some ⟨g',0,none⟩) (sl.length+1) cap) vd:=by
 have hlt:∀b,vs.ownBlock=some b->w.heap.size+2<=b:=fun b hb=>(h.os.lt b hb).1
 have hbl:∀b,b<wr.heap.size->vs.ownBlock≠some b->w1.heap[b]? =wr.heap[b]? :=fun b hb hne=>hgrow.block b hb (fun e=>hne e.symm)
 have hlow:∀b,b<w.heap.size+2->w1.heap[b]? =wr.heap[b]? :=fun b hb=>hbl b (by have:=h.hz;omega) (fun e=>by have:=hlt b e;omega)
 refine⟨⟨hgrow.os.trans h.below.os,hgrow.tape.trans h.below.tape,hgrow.output.trans h.below.output,Nat.le_trans h.below.size hgrow.size,fun b hb=>(hlow b (by omega)).trans (h.below.block b hb)⟩,h.box.of_block (hlow _ (by omega)),Nat.le_trans h.hz hgrow.size,?_,?_,?_⟩
 ·rw[q1o,List.length_append]
  exact hown
 ·exact q0c h.od fun b hb=>hbl b (h.od.lt b hb).2 (fun e=>h.ne b e hb)
 ·intro b hb hd
  have e:g'=b:=by simpa [Value.ownBlock] using hb
  subst e
  rcases hat with q|q
  ·exact h.ne _ q hd
  ·have:=(h.od.lt _ hd).2;omega

theorem FlB.addD{w wr w1:World}{g C n g' cap:Nat}{r:Int}{sl dn:List En}{vs vd:Value}{x:En}(h:FlB w wr g C n r sl dn vs vd)(hown:w1.ownsRow (w.heap.size+2) 86 7 (.slice (some ⟨g',0,none⟩) (dn.length+1) cap) (dn.length+1) (q0d dn++q0d [x]))(hgrow:wr.grownBy w1 vd.ownBlock)(hat:vd.ownBlock=some g'\/g'=wr.heap.size):
  FlB w w1 g C n r sl (dn++[x]) vs (.slice (some ⟨g',0,none⟩) (dn.length+1) cap):=by
 have hsw:FlB w wr g C n r dn sl vd vs:=⟨h.below,h.box,h.hz,h.od,h.os,fun b hb hs=>h.ne b hs hb⟩
 have q:=hsw.addS hown hgrow hat
 exact⟨q.below,q.box,q.hz,q.od,q.os,fun b hb hs=>q.ne b hs hb⟩

structure FlC(T h:Nat)(base:Nat)(w w1 wr:World)(g C:Nat)(qs:List PN)(k:Nat)(lo hi:Int)(P:List Int)(r:Int)(dn rest:List En)(As Ad:Option Addr)(Cd:Nat)(qs':List PN):Prop where
 mem:q1t base w g C qs wr qs'
 ok:q4x T (qs.map PN.nd) (qs'.map PN.nd) h (k:Int) lo hi P rest
 le:w1.heap.size<=wr.heap.size
 far:∀b∈feet g qs',b∈feet g qs\/b∈obk As\/w1.heap.size<=b
 box:RowL wr w.heap.size 26 [.slice (some ⟨g,0,none⟩) qs.length C,.int .i64 r]
 hz:w.heap.size+2<=w1.heap.size
 od:wr.ownsRow (w.heap.size+2) 86 7 (.slice Ad dn.length Cd) dn.length (q0d dn)
 hd:∀b∈obk Ad,b<w1.heap.size/\b∉obk As
 hs:∀b∈obk As,w.heap.size+2<=b
 pn:∀n:Nat,(n:Int)∉P->qs'[n]? =qs[n]?

theorem qun{g k:Nat}{qs:List PN}{p:PN}(hk:k<qs.length):∀b∈feet g (qs.set k p),b∈feet g qs\/b∈p.blocks:=by
 obtain⟨A,x,D,hq,hset⟩:∃A x D,qs=A++x::D/\qs.set k p=A++p::D:=⟨_,_,_,q3l qs k p hk⟩
 rw[hset]
 clear hset hk
 subst hq
 unfold feet
 simp only[List.flatMap_append,List.flatMap_cons,List.mem_append,List.mem_cons]
 rintro b (h|h|h|h)
 ·exact .inl (.inl h)
 ·exact .inl (.inr (.inl h))
 ·exact .inr h
 ·exact .inl (.inr (.inr (.inr h)))

theorem qux{w:World}{base base':Nat}{e:TypeId}{size n:Nat}{v:Value}{vs:List Value}(h:w.ownsRow base e size v n vs)(hb:base'<=base):w.ownsRow base' e size v n vs:=by
 refine⟨h.1,?_⟩
 rcases h.2 with q|⟨g,cap,cur,h1,h2,rest⟩
 ·exact .inl q
 ·exact .inr ⟨g,cap,cur,h1,Nat.le_trans hb h2,rest⟩

theorem qqq{T h base g C n k Cs Cd:Nat}{w wr:World}{qs:List PN}{lo hi:Int}{P:List Int}{r:Int}{sl dn:List En}{As Ad:Option Addr}{q:PN}(hnt:NT base w g C qs)(hk:k<qs.length)(hqk:qs[k]=q)(hB:base<=w.heap.size)(hn:qs.length=n)(hkP:(k:Int)∈P)
  (hd0:q4x T (qs.map PN.nd) ((qs.map PN.nd).set k { nth (qs.map PN.nd) (k:Int) with buf:=sl }) h (k:Int) lo hi P dn) (hl:sl.length<=8) (hb:FlB w wr g C n r sl dn (.slice As sl.length Cs) (.slice Ad dn.length Cd)):
  FlC T h base w (wr.setCell ⟨g,k*5+4,none⟩ (.slice As sl.length Cs)) (wr.setCell ⟨g,k*5+4,none⟩ (.slice As sl.length Cs)) g C qs k lo hi P r dn dn As Ad Cd (qs.set k { q with buf:=sl,bA:=As,bC:=Cs }):=by
 have hss:∀b∈obk As,w.heap.size+2<=b:=fun b hbb=>(q4l hb.os b (mem_obk.1 hbb)).1
 have hgl:=hnt.glt.2
 have hset:∀b,b≠g->(wr.setCell ⟨g,k*5+4,none⟩ (.slice As sl.length Cs)).heap[b]? =wr.heap[b]? :=fun b hb=>Below.heap_setCell _ _ _ _ hb
 have hm:=hnt.setBuf hk hqk (qux hb.os (by omega)) (Kept.of_below hb.below) (fun b hbb=>.inr (by have:=hss b hbb;omega)) (by omega)
 subst hn
 refine⟨hm,?_,Nat.le_refl _,?_,hb.box.of_block (hset _ (by omega)),by simpa using hb.hz,?_,?_,hss,fun n hn=>List.getElem?_set_ne (fun e=>hn (by rw[<-e];exact hkP))⟩
 ·have e:(qs.set k { q with buf:=sl,bA:=As,bC:=Cs }).map PN.nd=(qs.map PN.nd).set k { nth (qs.map PN.nd) (k:Int) with buf:=sl }:=by
   rw[List.map_set]
   congr 1
   have:nth (qs.map PN.nd) (k:Int)=q.nd:=by simp[nth,hk,hqk]
   rw[this]
   rfl
  rw[e]
  exact hd0
 ·intro b hbb
  rcases qun hk b hbb with e|e
  ·exact .inl e
  ·rw[q2i] at e
   simp only[List.mem_append] at e
   have hin:∀X:List Nat,b∈X->(∀c∈X,c∈q.blocks)->b∈feet g qs:=fun X h1 h2=>List.mem_cons_of_mem _ (List.mem_flatMap.2 ⟨q,hqk▸List.getElem_mem hk,h2 b h1⟩)
   rcases e with e|e|e|e
   ·exact .inl (hin _ e fun c hc=>by rw[q2i];simp[hc])
   ·exact .inl (hin _ e fun c hc=>by rw[q2i];simp[hc])
   ·exact .inl (hin _ e fun c hc=>by rw[q2i];simp[hc])
   ·exact .inr (.inl e)
 ·exact q0c hb.od fun b hbb=>hset b (by have:=(hb.od.lt b hbb).1;omega)
 ·intro b hbb
  have h1:=q4l hb.od b (mem_obk.1 hbb)
  refine⟨by simpa using h1.2,fun e=>?_⟩
  refine hb.ne b ?_ ?_
  ·have:=mem_obk.1 e
   cases As with
   |none=>cases this
   |some a=>simpa [Value.ownBlock] using this
  ·have:=mem_obk.1 hbb
   cases Ad with
   |none=>cases this
   |some a=>simpa [Value.ownBlock] using this

theorem FlC.apart{T h base:Nat}{w w1 wr:World}{g C:Nat}{qs:List PN}{k:Nat}{lo hi:Int}{P:List Int}{r:Int}{dn rest:List En}{As Ad:Option Addr}{Cd:Nat}{qs':List PN}(H:FlC T h base w w1 wr g C qs k lo hi P r dn rest As Ad Cd qs')(hnt:NT base w g C qs):w.heap.size∉feet g qs'/\∀b∈obk Ad,b∉feet g qs':=by
 have hz:=H.hz
 constructor
 ·intro e
  rcases H.far _ e with e|e|e
  ·have:=(hnt.lt _ e).2;omega
  ·have:=H.hs _ e;omega
  ·omega
 ·intro b hb e
  have h1:=H.hd b hb
  have h2:=(q4l H.od b (mem_obk.1 hb)).1
  rcases H.far _ e with e|e|e
  ·have:=(hnt.lt _ e).2;omega
  ·exact h1.2 e
  ·omega

theorem FlC.step{T h base:Nat}{w w1 wr W w3:World}{g C:Nat}{qs:List PN}{k:Nat}{lo hi:Int}{P:List Int}{r:Int}{dn rest rest':List En}{As Ad:Option Addr}{Cd:Nat}{qs' qs'':List PN}(H:FlC T h base w w1 wr g C qs k lo hi P r dn rest As Ad Cd qs')(hnt:NT base w g C qs)(hW:Below wr.heap.size wr W)(hm:q1t base W g C qs' w3 qs'')(hok:q4x T (qs.map PN.nd) (qs''.map PN.nd) h (k:Int) lo hi P rest')(hpn:∀n:Nat,(n:Int)∉P->qs''[n]? =qs'[n]?):
  FlC T h base w w1 w3 g C qs k lo hi P r dn rest' As Ad Cd qs'':=by
 obtain⟨a1,a2⟩:=H.apart hnt
 have hz:=H.hz
 have hle:=H.le
 have hblk:∀b,b<wr.heap.size->b∉feet g qs'->w3.heap[b]? =wr.heap[b]? :=fun b h1 h2=>(hm.kept.block b (Nat.lt_of_lt_of_le h1 hW.size) h2).trans (hW.block b h1)
 refine⟨H.mem.trans ((q1t.of_below H.mem.nt hW).trans hm),hok,Nat.le_trans hle (Nat.le_trans hW.size hm.kept.size),fun b hb=>?_,H.box.of_block (hblk _ H.box.lt a1),hz,?_,H.hd,H.hs,fun n hn=>(hpn n hn).trans (H.pn n hn)⟩
 ·rcases hm.fresh b hb with e|e
  ·exact H.far b e
  ·exact .inr (.inr (Nat.le_trans hle (Nat.le_trans hW.size e)))
 ·refine q0c H.od fun b hb=>hblk b (H.od.lt b hb).2 (a2 b (q7x hb))

theorem FlC.kid{T h base:Nat}{w w1 wr:World}{g C:Nat}{qs:List PN}{k:Nat}{lo hi:Int}{P:List Int}{r:Int}{dn rest:List En}{As Ad:Option Addr}{Cd m:Nat}{qs':List PN}{kids:List Int}(H:FlC T h base w w1 wr g C qs k lo hi P r dn rest As Ad Cd qs')(hk:k<qs.length)(hkids:(nth (qs'.map PN.nd) (k:Int)).kids=kids)(hm:m<kids.length):
  ∃db doff dC':Nat,wr.cell? ⟨g,k*5+3,none⟩=some (.slice (some ⟨db,doff,none⟩) kids.length dC')/\db<wr.heap.size/\wr.cell? ⟨db,doff+m,none⟩=some (.int .i64 (kids.getD m 0)):=by
 have hk':k<qs'.length:=by rw[H.mem.len];exact hk
 have hnk:nth (qs'.map PN.nd) (k:Int)=(qs'[k]).nd:=by simp[nth,hk']
 rw[hnk] at hkids
 have hkids':(qs'[k]).kids=kids:=hkids
 have hat:=(H.mem.nt.node hk').c3
 have ho:=(q3e (H.mem.nt.each _ (List.getElem_mem hk')).d).1
 rw[hkids'] at hat ho
 obtain⟨db,doff,hA,hl,hc⟩:=ho.int hm
 rw[hA] at hat
 refine⟨db,doff,_,hat,hl,?_⟩
 rw[hc,List.getD_eq_getElem?_getD,List.getElem?_eq_getElem hm]
 rfl

theorem qe8{buf:List En}{i:Nat}{x:En}(hi:i<buf.length)(hx:buf[i]=x)(f:En->Bool):(buf.take (i+1)).filter f=(buf.take i).filter f++if f x=true then[x] else[]:=by
 rw[List.take_succ_eq_append_getElem hi,hx,List.filter_append,List.filter_cons]
 rfl

structure SiA(base:Nat)(w wr:World)(g C:Nat)(qs:List PN)(r:Int)(x:En)(qs1:List PN):Prop where
 mem:q1t base w g C qs wr qs1
 bt:RowL wr w.heap.size 26 [.slice (some ⟨g,0,none⟩) qs.length C,.int .i64 r]
 bx:RowL wr (w.heap.size+1) 86 x.vals
 ft:w.heap.size∉feet g qs1
 fx:w.heap.size+1∉feet g qs1

theorem SiA.start{base g C:Nat}{w:World}{qs:List PN}{r:Int}{x:En}(h:NT base w g C qs):SiA base w ((w.alloc (.cells #[.slice (some ⟨g,0,none⟩) qs.length C,.int .i64 r] 26)).alloc (.cells x.vals.toArray 86)) g C qs r x qs:=by
 have hb2:Below w.heap.size w ((w.alloc (.cells #[.slice (some ⟨g,0,none⟩) qs.length C,.int .i64 r] 26)).alloc (.cells x.vals.toArray 86)):=((Below.refl _ _).alloc (Nat.le_refl _) _).alloc (by simp) _
 have hlt:=h.lt
 refine⟨q1t.of_below h hb2,?_,?_,fun e=>by have:=(hlt _ e).2;omega,fun e=>by have:=(hlt _ e).2;omega⟩
 ·exact(q0b w [.slice (some ⟨g,0,none⟩) qs.length C,.int .i64 r] _).of_block (Below.heap_alloc _ _ _ (by simp))
 ·have:=q0b (w.alloc (.cells #[.slice (some ⟨g,0,none⟩) qs.length C,.int .i64 r] 26)) x.vals 86
  simpa using this

theorem SiA.step{base g C:Nat}{w wr w':World}{qs qs1 qs2:List PN}{r:Int}{x:En}(h:SiA base w wr g C qs r x qs1)(hm:q1t base wr g C qs1 w' qs2):SiA base w w' g C qs r x qs2:=by
 have l1:=h.bt.lt
 have l2:=h.bx.lt
 refine⟨h.mem.trans hm,hm.kept.row h.bt h.ft,hm.kept.row h.bx h.fx,fun e=>?_,fun e=>?_⟩
 ·rcases hm.fresh _ e with e|e
  ·exact h.ft e
  ·omega
 ·rcases hm.fresh _ e with e|e
  ·exact h.fx e
  ·omega

theorem SiA.next{base g C:Nat}{w wr w':World}{qs qs1:List PN}{r:Int}{x:En}(h:SiA base w wr g C qs r x qs1)(hb:Below wr.heap.size wr w'):SiA base w w' g C qs r x qs1:=
 h.step (q1t.of_below h.mem.nt hb)

theorem qry(l:List En)(x:En):(q4k l x).length<=l.length+1:=by
 unfold q4k
 have:=qbp l x.key
 split
 ·simp
 ·simp;omega

set_option maxRecDepth 20000 in
set_option maxHeartbeats 4000000 in
theorem qol(base g C:Nat)(qs:List PN)(r:Int)(k:Nat)(x:En)(w:World)(D F:List PN->Prop)(kids:List Int)(kd:Nat)(hT:NT base w g C qs)(hk:k<qs.length)(hl:(qs[k]).leaf=false)(hB:base<=w.heap.size)(hkd:kd<kids.length)(HD0:Hid (D qs))
  (HDB:Hid (∀(qs1:List PN) (_:qs1.length=qs.length) (_:D qs1) (h:k<qs1.length),(qs1[k]).buf.Pairwise (fun x y=>x.key<y.key)/\(qs1[k]).buf.length<=8/\(qs1[k]).kids=kids))
  (HFL:Hid (∀W,NT base W g C qs->base<=W.heap.size->Calls Tryz.prog 136 #[.agg #[.slice (some ⟨g,0,none⟩) qs.length C,.int .i64 r],.int .i64 (k:Int)] W fun e w'=>e=.returned (.tuple #[])/\∃qs1,q1t base W g C qs w' qs1/\D qs1))
  (HF1:Hid (∀(qs1:List PN) (_:qs1.length=qs.length) (_:D qs1) (h:k<qs1.length) (A':Option Addr) (C':Nat),(hasK (qs1[k]).buf x.key||decide ((qs1[k]).buf.length<8))=true->F (qs1.set k { qs1[k] with buf:=q4k (qs1[k]).buf x,bA:=A',bC:=C' })))
  (HKI:Hid (∀(qs1:List PN) (W:World) (_:qs1.length=qs.length) (_:D qs1) (h:k<qs1.length),NT base W g C qs1->Calls Tryz.prog 137 #[.agg #[.bool (qs1[k]).leaf,.slice (qs1[k]).eA (qs1[k]).ents.length (qs1[k]).eC,.slice (qs1[k]).kA (qs1[k]).keys.length (qs1[k]).kC,.slice (qs1[k]).dA (qs1[k]).kids.length (qs1[k]).dC,.slice (qs1[k]).bA (qs1[k]).buf.length (qs1[k]).bC],.int .i64 x.key] W fun e w'=>e=.returned (.int .i64 (kd:Int))/\Below W.heap.size W w'))
  (HSK:Hid (∀(qs1:List PN) (W:World),qs1.length=qs.length->D qs1->NT base W g C qs1->base<=W.heap.size->Calls Tryz.prog 93 #[.agg #[.slice (some ⟨g,0,none⟩) qs.length C,.int .i64 r],.int .i64 (kids.getD kd 0),.agg #[.int .i64 x.key,.int .i64 x.c,.int .i64 x.s,.int .i64 x.lo,.int .i64 x.hi,.int .i64 x.t,.int .i64 x.l]] W fun e w'=>e=.returned (.tuple #[])/\∃qs2,q1t base W g C qs1 w' qs2/\F qs2/\qs2[k]? =qs1[k]?)):
  Calls Tryz.prog 93 #[.agg #[.slice (some ⟨g,0,none⟩) qs.length C,.int .i64 r],.int .i64 (k:Int),.agg #[.int .i64 x.key,.int .i64 x.c,.int .i64 x.s,.int .i64 x.lo,.int .i64 x.hi,.int .i64 x.t,.int .i64 x.l]] w
   fun e w'=>e=.returned (.tuple #[])/\∃qs',q1t base w g C qs w' qs'/\F qs':=by
 have hat:=hT.node hk
 have ho:=(hT.each _ (List.getElem_mem hk)).b
 obtain⟨hp0,hle0,-⟩:=HDB.out qs rfl HD0.out hk
 have hgl:=hT.glt.2
 have i1:(k:Int)<(qs.length:Int):=by omega
 have i0:(0:Int)<=(k:Int):=by omega
 have hb2:∀o1 o2:Obj,Below w.heap.size w ((w.alloc o1).alloc o2):=fun o1 o2=>((Below.refl _ _).alloc (Nat.le_refl _) o1).alloc (by simp) o2
 have HS0:=q0a (SiA.start (r:=r) (x:=x) hT)
 obtain⟨n0,n1,n2,n3,n4⟩:=hat
 rw[hl] at n0
 have hcw:=fun W (hW:Below w.heap.size w W)=>qd4 (qs[k]).bA (qs[k]).bC (qs[k]).buf x.key W ((q3e (q0v ho hW)).1) (by omega) hp0
 have HW:=q0a hcw
 have HT:=q0a hT
 generalize (hasK (qs[k]).buf x.key||decide ((qs[k]).buf.length<8))=c0 at HW
 generalize (qs[k]).bA=bA0 at HW n4
 generalize (qs[k]).bC=bC0 at HW n4
 generalize (qs[k]).buf.length=bN0 at HW n4
 clear hcw hT ho hl n1 n2 n3 hp0 hle0
 go_enter Tryz.func93,Tryz.ntmps93
 go_upto_region 4 with fail
 go_cut [31] from 24 to 31 (fun v wc=>v=.bool (!c0)/\Hid (SiA base w wc g C qs r x qs))
 case first=>
  go_region_with (go_at_call 135;refine(HW.out _ ((hb2 _ _).drew)).mono ?_;rintro e w2 ⟨rfl,hb2'⟩;have HS1:=q0a (HS0.out.next ((Below.refl _ _).drew.trans hb2'));clear hb2')
  all_goals
   go_wp2
   go_meet
   case rel=>exact⟨rfl,HS1⟩
 case rest=>
  obtain⟨rfl,HS1⟩:=hcut
  have t0:wc.cell? ⟨w.heap.size,0,none⟩=some (.slice (some ⟨g,0,none⟩) qs.length C):=HS1.out.bt.cell 0
  have t1:wc.cell? ⟨w.heap.size,1,none⟩=some (.int .i64 r):=HS1.out.bt.cell 1
  clear HS0 n0 n4 HW
  go_upto_if 31 with fail
  go_cut [] from 32 to 34 (fun wd=>∃qs1:List PN,qs1.length=qs.length/\Hid (D qs1)/\Hid (SiA base w wd g C qs r x qs1))
  case first=>
   cases c0 with
   |true=>
    simp only[Bool.not_true]
    go_wp2_with fail
    go_meet
    case rel=>exact⟨qs,rfl,HD0,HS1⟩
   |false=>
    simp only[Bool.not_false]
    go_wp2_with (go_at_call 136;refine(HFL.out _ HS1.out.mem.nt (Nat.le_trans hB HS1.out.mem.kept.size)).mono ?_;rintro e w2 ⟨rfl,qs1,hm1,hd1⟩)
    go_meet
    case rel=>exact⟨qs1,hm1.len,hd1,HS1.out.step hm1⟩
  case rest=>
   obtain⟨qs1,hl1,HD1,HS2⟩:=hcut
   clear HS1 t0 t1 HFL HD0
   obtain⟨wd,hwd⟩:∃wd,wd=wc:=⟨_,rfl⟩
   subst hwd
   have hk1:k<qs1.length:=by omega
   obtain⟨hp1,hle1,hkids⟩:=HDB.out qs1 hl1 HD1.out hk1
   have hnt:=HS2.out.mem.nt
   have hat:=hnt.node hk1
   have ho:=(hnt.each _ (List.getElem_mem hk1))
   have hgl1:=hnt.glt.2
   have hgb:g∉obk (qs1[k]).bA:=fun e=>(hnt.blocks_nodup hk1).2.2.1 (by rw[q2i];simp[e])
   have hf1:=q0a fun A' C'=>HF1.out qs1 hl1 HD1.out hk1 A' C'
   have hki:=q0a fun W hW=>HKI.out qs1 W hl1 HD1.out hk1 hW
   have hsk:=q0a fun W hW hb=>HSK.out qs1 W hl1 HD1.out hW hb
   obtain⟨n0,n1,n2,n3,n4⟩:=hat
   have hcw:=fun W (hW:Below wd.heap.size wd W)=>qd4 (qs1[k]).bA (qs1[k]).bC (qs1[k]).buf x.key W ((q3e (q0v ho.b hW)).1) (by omega) hp1
   have hcon:=fun W (hW:Below wd.heap.size wd W)=>qn2 base (qs1[k]).bA (qs1[k]).bC (qs1[k]).buf x W (q0v ho.b hW) hp1 (Nat.le_trans (Nat.le_trans hB HS2.out.mem.kept.size) hW.size) (by omega)
   have fz:=hnt.free (k*5+4)
   have HW:=q0a hcw
   have HC:=q0a hcon
   have HNT:=q0a hnt
   have HO:=q0a ho
   have HGB:=q0a hgb
   clear hcw hcon hnt ho HF1 HKI HSK HDB hp1 hgb
   obtain⟨q,hq⟩:∃q,qs1[k]=q:=⟨_,rfl⟩
   rw[hq] at HW HC HO HGB hf1 hki n0 n1 n2 n3 n4 hkids hle1
   obtain⟨c1,hc1⟩:∃c,c=(hasK q.buf x.key||decide (q.buf.length<8)):=⟨_,rfl⟩
   rw[<-hc1] at HW hf1
   clear hc1
   have x0:wd.cell? ⟨w.heap.size+1,0,none⟩=some (.int .i64 x.key):=HS2.out.bx.cell 0
   have hxl:=HS2.out.bx.lt
   go_upto_region 6 with fail
   go_cut [41] from 35 to 41 (fun v we=>v=.bool c1/\Hid (Below wd.heap.size wd we))
   case first=>
    go_region_with (go_at_call 135;refine(HW.out _ ((Below.refl _ _).drew)).mono ?_;rintro e w2 ⟨rfl,hb2'⟩)
    all_goals
     go_wp2
     go_meet
     case rel=>exact⟨rfl,(Below.refl _ _).drew.trans hb2'⟩
   case rest=>
    obtain⟨rfl,HBE⟩:=hcut
    have hbe:=HBE.out
    have HS3:=q0a (HS2.out.next hbe)
    have hsze:=hbe.size
    have m0:=(hbe.cell (p:=⟨g,k*5,none⟩) hgl1).trans n0
    have m1:=(hbe.cell (p:=⟨g,k*5+1,none⟩) hgl1).trans n1
    have m2:=(hbe.cell (p:=⟨g,k*5+2,none⟩) hgl1).trans n2
    have m3:=(hbe.cell (p:=⟨g,k*5+3,none⟩) hgl1).trans n3
    have m4:=(hbe.cell (p:=⟨g,k*5+4,none⟩) hgl1).trans n4
    have hge:g<wc.heap.size:=by omega
    have y0:wc.cell? ⟨w.heap.size+1,0,none⟩=some (.int .i64 x.key):=HS3.out.bx.cell 0
    have y1:wc.cell? ⟨w.heap.size+1,1,none⟩=some (.int .i64 x.c):=HS3.out.bx.cell 1
    have y2:wc.cell? ⟨w.heap.size+1,2,none⟩=some (.int .i64 x.s):=HS3.out.bx.cell 2
    have y3:wc.cell? ⟨w.heap.size+1,3,none⟩=some (.int .i64 x.lo):=HS3.out.bx.cell 3
    have y4:wc.cell? ⟨w.heap.size+1,4,none⟩=some (.int .i64 x.hi):=HS3.out.bx.cell 4
    have y5:wc.cell? ⟨w.heap.size+1,5,none⟩=some (.int .i64 x.t):=HS3.out.bx.cell 5
    have y6:wc.cell? ⟨w.heap.size+1,6,none⟩=some (.int .i64 x.l):=HS3.out.bx.cell 6
    have b0:wc.cell? ⟨w.heap.size,0,none⟩=some (.slice (some ⟨g,0,none⟩) qs.length C):=HS3.out.bt.cell 0
    have b1:wc.cell? ⟨w.heap.size,1,none⟩=some (.int .i64 r):=HS3.out.bt.cell 1
    have hxl3:=HS3.out.bx.lt
    have hbl3:=HS3.out.bt.lt
    clear n0 n1 n2 n3 n4 x0 hbe
    cases c1 with
    |true=>
     have fz3:wc.frozen? ⟨g,k*5+4,none⟩=false:=(HBE.out.frozen (p:=⟨g,k*5+4,none⟩) hgl1).trans fz
     go_upto_region 7 with fail
     go_region_with (go_at_call 134;refine(HC.out _ (HBE.out.drew)).mono ?_;rintro e w2 ⟨A2,C2,rfl,hm2⟩;have HM:=q0a (hm2.from ((Below.refl _ _).drew));have c2:w2.cell? ⟨g,k*5+4,none⟩=some (.slice q.bA q.buf.length q.bC):=(HM.out.kept.cell _ hge HGB.out).trans m4;have f2:w2.frozen? ⟨g,k*5+4,none⟩=false:=(World.frozen?_of_block (a:=⟨g,k*5+4,none⟩) (HM.out.kept.block g hge HGB.out)).trans fz3;clear hm2)
     all_goals
      go_wp2
      (try simp only[Exit.inBlock,Exit.then]);refine bodyPost_ret (results_none rfl _ _ _) rfl ?_
      have hst:=HS3.out.mem.nt.setBuf hk1 hq HM.out.own HM.out.kept HM.out.lies' (by have:=qry q.buf x;omega)
      refine⟨rfl,_,HS3.out.mem.trans hst,?_⟩
      exact hf1.out A2 C2 trivial
    |false=>
     have hod:=(q3e HO.out.d).1
     rw[hkids] at hod m3 hki
     obtain⟨db,doff,hA,hdl,hdc⟩:=hod.int hkd
     rw[hA] at m3 hki
     have nk:wc.cell? ⟨db,doff+kd,none⟩=some (.int .i64 (kids.getD kd 0)):=by
      rw[HBE.out.cell (p:=⟨db,doff+kd,none⟩) hdl,hdc,List.getD_eq_getElem?_getD,List.getElem?_eq_getElem hkd]
      rfl
     have hnodes:Hid (∀(w3:World) (qs2:List PN),NT base w3 g C qs2->qs2[k]? =qs1[k]?->w3.cell? ⟨g,k*5,none⟩=some (.bool q.leaf)/\w3.cell? ⟨g,k*5+1,none⟩=some (.slice q.eA q.ents.length q.eC)/\w3.cell? ⟨g,k*5+2,none⟩=some (.slice q.kA q.keys.length q.kC)/\w3.cell? ⟨g,k*5+3,none⟩=some (.slice (some ⟨db,doff,none⟩) kids.length q.dC)/\w3.cell? ⟨g,k*5+4,none⟩=some (.slice q.bA q.buf.length q.bC)/\w3.cell? ⟨db,doff+kd,none⟩=some (.int .i64 (kids.getD kd 0))):=fun w3 qs2 hn2 hq2=>by
      rw[List.getElem?_eq_getElem hk1,hq] at hq2
      obtain⟨hk2,hq2'⟩:=List.getElem?_eq_some_iff.1 hq2
      obtain⟨d0,d1,d2,d3,d4⟩:=hn2.node hk2
      have hod2:=(q3e (hn2.each _ (List.getElem_mem hk2)).d).1
      rw[hq2'] at d0 d1 d2 d3 d4 hod2
      rw[hkids] at hod2 d3
      rw[hA] at hod2 d3
      obtain⟨db',doff',hA',_,hdc'⟩:=hod2.int hkd
      cases hA'
      refine⟨d0,d1,d2,d3,d4,?_⟩
      rw[hdc',List.getD_eq_getElem?_getD,List.getElem?_eq_getElem hkd]
      rfl
     generalize kids.getD kd 0=kp at nk hsk hnodes
     have hdl3:db<wc.heap.size:=by omega
     have k0:(0:Int)<=(kd:Int):=by omega
     have k1:(kd:Int)<(kids.length:Int):=by omega
     have hnt3:=q0a HS3.out.mem.nt
     have hbs:base<=wc.heap.size:=Nat.le_trans hB HS3.out.mem.kept.size
     clear HW HC HO HGB hod hdc hA hf1 HS2 HNT hkids
     go_upto_region 8 with fail
     go_region_held3 (fun w'=>w'.cell? ⟨w.heap.size,0,none⟩=some (.slice (some ⟨g,0,none⟩) qs.length C)/\w'.cell? ⟨w.heap.size,1,none⟩=some (.int .i64 r)/\w'.cell? ⟨g,k*5,none⟩=some (.bool q.leaf)/\w'.cell? ⟨g,k*5+1,none⟩=some (.slice q.eA q.ents.length q.eC)/\w'.cell? ⟨g,k*5+2,none⟩=some (.slice q.kA q.keys.length q.kC)/\w'.cell? ⟨g,k*5+3,none⟩=some (.slice (some ⟨db,doff,none⟩) kids.length q.dC)/\w'.cell? ⟨g,k*5+4,none⟩=some (.slice q.bA q.buf.length q.bC)/\w'.cell? ⟨w.heap.size+1,0,none⟩=some (.int .i64 x.key)/\w'.cell? ⟨w.heap.size+1,1,none⟩=some (.int .i64 x.c)/\w'.cell? ⟨w.heap.size+1,2,none⟩=some (.int .i64 x.s)/\w'.cell? ⟨w.heap.size+1,3,none⟩=some (.int .i64 x.lo)/\w'.cell? ⟨w.heap.size+1,4,none⟩=some (.int .i64 x.hi)/\w'.cell? ⟨w.heap.size+1,5,none⟩=some (.int .i64 x.t)/\w'.cell? ⟨w.heap.size+1,6,none⟩=some (.int .i64 x.l)/\w'.cell? ⟨db,doff+kd,none⟩=some (.int .i64 kp)) (go_keep) (first
      |(go_at_call 137;refine(hki.out _ (hnt3.out.below ((Below.refl _ _).drew) (Nat.le_refl _))).mono ?_;rintro e w2 ⟨rfl,hb2'⟩;have hbw2:Below wc.heap.size wc w2:=(Below.refl _ _).drew.trans hb2';have HS4:=q0a (HS3.out.next hbw2);have z:=fun b o (hb:b<wc.heap.size)=>hbw2.cell (p:=⟨b,o,none⟩) hb;have z0:=(z _ 0 hbl3).trans b0;have z1:=(z _ 1 hbl3).trans b1;have z2:=(z g (k*5) hge).trans m0;have z3:=(z g (k*5+1) hge).trans m1;have z4:=(z g (k*5+2) hge).trans m2;have z5:=(z g (k*5+3) hge).trans m3;have z6:=(z g (k*5+4) hge).trans m4;have z7:=(z _ 0 hxl3).trans y0;have z8:=(z _ 1 hxl3).trans y1;have z9:=(z _ 2 hxl3).trans y2;have za:=(z _ 3 hxl3).trans y3;have zb:=(z _ 4 hxl3).trans y4;have zc:=(z _ 5 hxl3).trans y5;have zd:=(z _ 6 hxl3).trans y6;have ze:=(z db (doff+kd) hdl3).trans nk;clear z)
      |(go_at_call 93;refine(hsk.out _ HS4.out.mem.nt (Nat.le_trans hB HS4.out.mem.kept.size)).mono ?_;rintro e w3 ⟨rfl,qs2,hm2,hf2,hq2⟩;have HS5:=q0a (HS4.out.step hm2);have HR:=q0a (And.intro (HS4.out.mem.trans hm2) hf2);have v:=hnodes.out w3 qs2 hm2.nt hq2;obtain⟨v0,v1,v2,v3,v4,v5⟩:=v;have u0:w3.cell? ⟨w.heap.size,0,none⟩=some (.slice (some ⟨g,0,none⟩) qs.length C):=HS5.out.bt.cell 0;have u1:w3.cell? ⟨w.heap.size,1,none⟩=some (.int .i64 r):=HS5.out.bt.cell 1;have u2:=fun j=>HS5.out.bx.cell j;simp only[En.vals] at u2;clear hm2 hf2 hq2))
     all_goals
      go_wp2
      go_end0
      exact⟨rfl,_,HR.out⟩

end
section
open Go.RowKit Plain

theorem qq1{w:World}{base g C n:Nat}{e:TypeId}{size:Nat}{vs:List Value}(h:w.ownsRow base e size (.slice (some ⟨g,0,none⟩) n C) n vs):∃cur:List Value,RowL w g e cur/\cur.length=C*size/\cur.take (n*size)=vs/\n<=C/\C<=maxLen/\base<=g:=by
 rcases h.2 with⟨hv,_⟩|⟨g',cap,cur,hv,hb,hg,hl,hm,hs,ht⟩
 ·cases hv
 ·cases hv
  exact⟨cur.toList,by unfold RowL;rw[hg],by simpa using hs,ht,hl,hm,hb⟩

theorem qlg{w:World}{base g C n:Nat}{e:TypeId}{size:Nat}{vs cur:List Value}(hr:RowL w g e cur)(hl:cur.length=C*size)(ht:cur.take (n*size)=vs)(hn:n<=C)(hm:C<=maxLen)(hb:base<=g)(hv:vs.length=n*size):w.ownsRow base e size (.slice (some ⟨g,0,none⟩) n C) n vs:=
 ⟨hv,.inr ⟨g,C,cur.toArray,rfl,hb,hr,hn,hm,by simpa using hl,by simpa using ht⟩⟩

theorem qom(keys:List Int)(i:Nat)(more:List (Int × Int)):q5v keys i more more.length=keys.take i++more.map (·.1)++keys.drop i:=by unfold q5v;rw[List.take_length]
theorem qok(kids:List Int)(i:Nat)(more:List (Int × Int)):q5u kids i more more.length=kids.take (i+1)++more.map (·.2)++kids.drop (i+1):=by unfold q5u;rw[List.take_length]

theorem qkx{B:Nat}{E K D K' D' X:List Nat}(h:(E++(K++(D++X))).Nodup)(hK:K'.Nodup)(hD:D'.Nodup)(hKD:∀b∈K',b∉D')(hk:∀b∈K',b∈K\/B<=b)(hd:∀b∈D',b∈D\/B<=b)(hlt:∀b∈E++(K++(D++X)),b<B):(E++(K'++(D'++X))).Nodup:=by
 simp only[List.nodup_append,List.mem_append] at h hlt ⊢
 obtain⟨hE,⟨_,⟨_,hX,hDX⟩,hKDX⟩,hEK⟩:=h
 refine⟨hE,⟨hK,⟨hD,hX,fun a ha b hb e=>?_⟩,fun a ha b hb e=>?_⟩,fun a ha b hb e=>?_⟩
 ·rcases hd a ha with q|q
  ·exact hDX a q b hb e
  ·have:=hlt b (.inr (.inr (.inr hb)));omega
 ·rcases hb with hb|hb
  ·exact hKD a ha (e▸hb)
  ·rcases hk a ha with q|q
   ·exact hKDX a q b (.inr hb) e
   ·have:=hlt b (.inr (.inr (.inr hb)));omega
 ·rcases hb with hb|hb|hb
  ·rcases hk b hb with q|q
   ·exact hEK a ha b (.inl q) e
   ·have:=hlt a (.inl ha);omega
  ·rcases hd b hb with q|q
   ·exact hEK a ha b (.inr (.inl q)) e
   ·have:=hlt a (.inl ha);omega
  ·exact hEK a ha b (.inr (.inr hb)) e

theorem z2t(base tb g C:Nat)(qs:List PN)(root:Int)(k i:Nat)(mA:Option Addr)(mC:Nat)(more:List (Int × Int))(w:World)(hT:TB base w tb g C qs root)(hk:k<qs.length)(hi:i<(qs[k]).kids.length)(hkl:(qs[k]).keys.length+1=(qs[k]).kids.length)(hB:base<=w.heap.size)(hm:q0j w.heap.size w mA (q7e more))(hmb:∀a,mA=some a->a.block∉feet g qs)(hz:((qs[k]).kids.length+more.length+1)*8<=140737488351232):
  Calls Tryz.prog 139 #[.pointer (some ⟨g,k*5,none⟩),.int .i64 (i:Int),.slice mA more.length mC] w
   fun e w'=>e=.returned (.tuple #[])/\∃qs',TB base w' tb g C qs' root/\qs'.map PN.nd=q4c (qs.map PN.nd) (k:Int) i more/\qs'.length=qs.length/\Kept (feet g qs) w w'/\∀b∈feet g qs',b∈feet g qs\/w.heap.size<=b:=by
 obtain⟨b1,b2,b3,b4⟩:=hT.nt.blocks_nodup hk
 have ho:=hT.nt.each _ (List.getElem_mem hk)
 have hlt:=ho.lt
 have hfl:=hT.nt.lt
 have hx:=q5a hk
 obtain⟨cur,hrow,hcl,hct,hnC,hCm,hbg⟩:=qq1 hT.nt.own
 obtain⟨q,hq⟩:∃q,qs[k]=q:=⟨_,rfl⟩
 have hcell:∀j,j<5->∀u,q.vals[j]? =some u->cur[k*5+j]? =some u:=fun j hj u hu=>by
  have:=qai qs k j hk hj
  rw[<-hct,List.getElem?_take,if_pos (by omega),hq] at this
  rw[this];exact hu
 rw[hq] at b1 b2 b3 b4 ho hlt hi hkl hz hx
 have hbe:=q2i q
 have hset2:cur.set (k*5+2) (.slice q.kA q.keys.length q.kC)=cur:=by
  have h:=hcell 2 (by decide) _ rfl
  obtain⟨h1,h2⟩:=List.getElem?_eq_some_iff.1 h
  rw[<-h2,List.set_getElem_self]
 have hset3:cur.set (k*5+3) (.slice q.dA q.kids.length q.dC)=cur:=by
  have h:=hcell 3 (by decide) _ rfl
  obtain⟨h1,h2⟩:=List.getElem?_eq_some_iff.1 h
  rw[<-h2,List.set_getElem_self]
 have hgk:g∉obk q.kA:=fun e=>b3 (by rw[hbe];simp[e])
 have hgd:g∉obk q.dA:=fun e=>b3 (by rw[hbe];simp[e])
 have hkd:∀b∈obk q.kA,b∉obk q.dA:=fun b h1 h2=>by
  rw[hbe] at b1
  simp only[List.nodup_append,List.mem_append] at b1
  exact b1.2.1.2.2 b h1 b (.inl h2) rfl
 have hA:AdAt base w g (k*5) 153 cur q.kA q.dA w q.kA q.kC q.keys q.dA q.dC q.kids:=
  ⟨by rw[hset2,hset3];exact hrow,ho.k,ho.d,Kept.refl _ _,fun _ h=>.inl h,fun _ h=>.inl h,hkd,hgk,hgd⟩
 refine(qie base g (k*5) 153 cur q.kA q.kC q.keys q.dA q.dC q.kids i mA mC more w hA (by rw[hcl];omega) hB hm (fun a ha=>?_) (by omega) (by omega) (by omega) hz).mono ?_
 ·have:=hmb a ha
  intro e
  simp only[List.cons_append,List.mem_cons,List.mem_append] at e
  rcases e with e|e|e
  ·exact this (e▸List.mem_cons_self)
  ·exact this (b2 _ (by rw[hbe];simp[e]))
  ·exact this (b2 _ (by rw[hbe];simp[e]))
 ·rintro e w' ⟨rfl,kA',kC',dA',dC',hA'⟩
  rw[qom,qok] at hA'
  have hkl':(q.keys.take i++more.map (·.1)++q.keys.drop i).length=q.keys.length+more.length:=by simp;omega
  have hdl':(q.kids.take (i+1)++more.map (·.2)++q.kids.drop (i+1)).length=q.kids.length+more.length:=by simp;omega
  generalize hK:q.keys.take i++more.map (·.1)++q.keys.drop i=keys' at hA' hkl'
  generalize hD:q.kids.take (i+1)++more.map (·.2)++q.kids.drop (i+1)=kids' at hA' hdl'
  obtain⟨p,hp⟩:∃p:PN,p={ q with keys:=keys',kA:=kA',kC:=kC',kids:=kids',dA:=dA',dC:=dC' }:=⟨_,rfl⟩
  have hpb:p.blocks=obk q.eA++(obk kA'++(obk dA'++obk q.bA)):=by rw[q2i,hp]
  have hblk:∀b∈p.blocks,b∈q.blocks\/w.heap.size<=b:=by
   intro b hb
   rw[hpb] at hb
   rw[hbe]
   simp only[List.mem_append] at hb ⊢
   rcases hb with e|e|e|e
   ·exact .inl (.inl e)
   ·rcases hA'.lk b e with e|e
    ·exact .inl (.inr (.inl e))
    ·exact .inr e
   ·rcases hA'.ld b e with e|e
    ·exact .inl (.inr (.inr (.inl e)))
    ·exact .inr e
   ·exact .inl (.inr (.inr (.inr e)))
  have hnd:p.blocks.Nodup:=by
   rw[hpb]
   rw[hbe] at b1 hlt
   exact qkx b1 (qat _) (qat _) hA'.ne hA'.lk hA'.ld (fun b hb=>(hlt b hb).2)
  obtain⟨f1,f2⟩:=qia (p:=p) (B:=w.heap.size) hk hT.nt.apart hnd (fun b hb=>(hfl b hb).2) (by rw[hq];exact hblk)
  have hfar:∀b,b∈feet g qs->b≠g->b∉obk q.kA->b∉obk q.dA->w'.heap[b]? =w.heap[b]? :=fun b h1 h2 h3 h4=>hA'.kept.block b (hfl b h1).2 (by simp[h2,h3,h4])
  have hkept:Kept (feet g qs) w w':=hA'.kept.mono fun b hb=>by
   simp only[List.cons_append,List.mem_cons,List.mem_append] at hb
   rcases hb with rfl|e|e
   ·exact List.mem_cons_self
   ·exact b2 _ (by rw[hbe];simp[e])
   ·exact b2 _ (by rw[hbe];simp[e])
  have hgn:∀b∈q.blocks,b≠g:=fun b hb e=>b3 (e▸hb)
  refine⟨rfl,qs.set k p,⟨⟨?_,fun s hs=>?_,f1,by simpa using hT.nt.z⟩,?_,?_,hT.hb⟩,?_,by simp,hkept,f2⟩
  ·have e1:p.vals=(q.vals.set 2 (.slice kA' keys'.length kC')).set 3 (.slice dA' kids'.length dC'):=by rw[hp];rfl
   have e2:q2m (qs.set k p)=((q2m qs).set (k*5+2) (.slice kA' keys'.length kC')).set (k*5+3) (.slice dA' kids'.length dC'):=by
    obtain⟨p1,hp1⟩:∃p1:PN,p1={ q with keys:=keys',kA:=kA',kC:=kC' }:=⟨_,rfl⟩
    have s1:=qbm qs k 2 (.slice kA' keys'.length kC') p1 hk (by decide) (by rw[hq,hp1];rfl)
    have s2:=qbm (qs.set k p1) k 3 (.slice dA' kids'.length dC') p (by simpa using hk) (by decide) (by rw[List.getElem_set_self,hp,hp1];rfl)
    rw[s1,s2,List.set_set]
   rw[e2,List.length_set]
   refine qlg hA'.row (by simp[hcl]) ?_ hnC hCm hbg (by simp[q2g])
   rw[List.take_set,List.take_set,hct]
  ·rw[(q3l qs k p hk).2] at hs
   have hs':s∈qs.take k++qs.drop (k+1)\/s=p:=by
    simp only[List.mem_append,List.mem_cons] at hs ⊢
    rcases hs with e|e|e
    ·exact .inl (.inl e)
    ·exact .inr e
    ·exact .inl (.inr e)
   rcases hs' with hs'|rfl
   ·have hsm:s∈qs:=by
     rcases List.mem_append.1 hs' with e|e
     ·exact List.mem_of_mem_take e
     ·exact List.mem_of_mem_drop e
    refine(hT.nt.each s hsm).of_blocks fun b hbs=>?_
    have hbf:b∈feet g qs:=List.mem_cons_of_mem _ (List.mem_flatMap.2 ⟨s,hsm,hbs⟩)
    have hbg':b≠g:=fun e=>by
     have ha:=hT.nt.apart
     rw[feet,List.nodup_cons] at ha
     exact ha.1 (List.mem_flatMap.2 ⟨s,hsm,e▸hbs⟩)
    have hbq:=b4 s hs' b hbs
    rw[hbe] at hbq
    simp only[List.mem_append,not_or] at hbq
    exact hfar b hbf hbg' hbq.2.1 hbq.2.2.1
   ·have hrest:∀b,b∈obk q.eA\/b∈obk q.bA->w'.heap[b]? =w.heap[b]? :=fun b hb=>by
     have hbq:b∈q.blocks:=by rw[hbe];rcases hb with e|e<;>simp[e]
     rw[hbe] at b1
     simp only[List.nodup_append,List.mem_append] at b1
     refine hfar b (b2 b hbq) (hgn b hbq) (fun e=>?_) (fun e=>?_)
     ·rcases hb with q1|q1
      ·exact b1.2.2 b q1 b (.inl e) rfl
      ·exact b1.2.1.2.2 b e b (.inr q1) rfl
     ·rcases hb with q1|q1
      ·exact b1.2.2 b q1 b (.inr (.inl e)) rfl
      ·exact b1.2.1.2.1.2.2 b e b q1 rfl
    rw[hp]
    exact⟨q0c ho.e fun b hb=>hrest b (.inl (q7x hb)),hA'.ok,hA'.od,q0c ho.b fun b hb=>hrest b (.inr (q7x hb)),ho.ez,by show keys'.length*8<=_;omega,by show kids'.length*8<=_;omega,ho.bz⟩
  ·rw[List.length_set]
   exact hkept.row hT.box (fun e=>hT.ne e)
  ·intro e
   rcases f2 _ e with e|e
   ·exact hT.ne e
   ·have:=hT.box.lt;omega
  ·rw[List.map_set]
   unfold q4c
   rw[hx]
   show(qs.map PN.nd).set k p.nd=(qs.map PN.nd).set ((k:Int).toNat) (qbz q.nd i more)
   congr 1
   rw[hp]
   unfold qbz PN.nd
   simp only
   rw[hK,hD]

theorem qir{w:World}{base base':Nat}{e:TypeId}{size n:Nat}{v:Value}{vs:List Value}(h:w.ownsRow base e size v n vs)(hb:base'<=base):w.ownsRow base' e size v n vs:=by
 refine⟨h.1,?_⟩
 rcases h.2 with q|⟨g,cap,cur,h1,h2,rest⟩
 ·exact .inl q
 ·exact .inr ⟨g,cap,cur,h1,Nat.le_trans hb h2,rest⟩

theorem q9u(ns:List Nd)(p:Int):ns.length<=(q0p ns p).1.length:=by
 unfold q0p
 split
 ·exact Nat.le_refl _
 ·simp

theorem qb4{rec:List Nd->Int->List Nd × List (Int × Int)}(hr:∀ns p,ns.length<=(rec ns p).1.length)(p:Int):∀(i:Nat) (ns:List Nd),ns.length<=(q9w rec p i ns).length
 |0,_=>Nat.le_refl _
 |i+1,ns=>by
  rw[q9w]
  refine Nat.le_trans ?_ (qb4 hr p i _)
  simpa [q4c] using hr ns _

theorem q8p:∀(h:Nat) (ns:List Nd) (p:Int),ns.length<=(q0g h ns p).1.length
 |0,ns,p=>q9u ns p
 |h+1,ns,p=>Nat.le_trans (qb4 (q8p h) p _ ns) (q9u _ p)

structure SaAt(mL:Nat)(base:Nat)(w wr:World)(tb g:Nat)(qs:List PN)(root:Int)(h k:Nat)(lo hi:Int)(P:List Int)(i:Nat)(g' C':Nat)(qs':List PN):Prop where
 tree:TB base wr tb g' C' qs' root
 kept:Kept (tb::feet g qs) w wr
 old:∀b∈feet g' qs',b∈feet g qs\/w.heap.size<=b
 ok:q9e mL (qs.map PN.nd) (qs'.map PN.nd) h (k:Int) lo hi P (nth (qs.map PN.nd) (k:Int)) i
 fin:q9w (q0g h) (k:Int) i (qs'.map PN.nd)=q9w (q0g h) (k:Int) (nth (qs.map PN.nd) (k:Int)).kids.length (qs.map PN.nd)

theorem qgr{g:Rel}(hg:∀d lo hi Q,g d lo hi Q->Q≠[]):∀{L:List (Int × Int)} {lo:Int} {Q:List Int},SubK g lo L Q->L.length<=Q.length
 |[],_,_,_=>Nat.zero_le _
 |(d,u)::r,lo,Q,h=>by
  obtain⟨Q1,Q2,rfl,h1,h2⟩:=h
  have a:=hg _ _ _ _ h1
  have b:=qgr hg h2
  have c:1<=Q1.length:=by cases Q1 with|nil=>exact absurd rfl a|cons=>simp
  simp
  omega

theorem qxq{mL mK:Nat}{ns:List Nd}:∀(h:Nat) (d lo hi:Int) (Q:List Int),Sub mL mK ns h d lo hi Q->Q≠[]
 |0,_,_,_,_,h=>by rw[h.2.1];simp
 |_+1,_,_,_,_,h=>by obtain⟨_,Q,rfl,_⟩:=h;simp

theorem SaAt.node{mL base:Nat}{w wr:World}{tb g:Nat}{qs:List PN}{root:Int}{h k:Nat}{lo hi:Int}{P:List Int}{i g' C':Nat}{qs':List PN}(H:SaAt mL base w wr tb g qs root h k lo hi P i g' C' qs')(hk:k<qs.length)(hP:P.Nodup)(hPr:∀n∈P,0<=n/\n<((qs.map PN.nd).length:Int)):
  ∃h':k<qs'.length,(qs'[k]).keys.length+1=(qs'[k]).kids.length/\(nth (qs.map PN.nd) (k:Int)).kids.length<=(qs'[k]).kids.length/\(qs'[k]).kids.length<=qs'.length:=by
 have hle:=H.ok.le
 simp only[List.length_map] at hle
 have hk':k<qs'.length:=by omega
 obtain⟨kids,keys,T,Q1,Q2,hn,hkl,hle2,htk,hU,s1,s2,hpm⟩:=H.ok.at'
 rw[q5a hk'] at hn
 have e1:(qs'[k]).kids=kids:=congrArg Nd.kids hn
 have e2:(qs'[k]).keys=keys:=congrArg Nd.keys hn
 refine⟨hk',by rw[e1,e2];exact hkl,by rw[e1];exact hle2,?_⟩
 rw[e1]
 have l1:=qgr (qxq h) s1
 have l2:=qgr (qxq h) s2
 have l3:(ups kids keys hi).length=kids.length:=by simp[ups];omega
 rw[hU] at l3
 have l4:=hpm.length_eq
 have l5:P.length<=qs.length:=by
  have:=q7o P (q0i 0 qs.length) hP fun n hn=>by
   have:=hPr n hn
   simp at this
   exact placesF_mem.2 ⟨by omega,by omega⟩
  rwa [q1m] at this
 simp only[List.length_append,List.length_cons,q1m,List.length_map] at l3 l4
 omega

set_option maxRecDepth 20000 in
set_option maxHeartbeats 4000000 in
theorem qgj{mL h:Nat}(base tb g C:Nat)(qs:List PN)(root:Int)(k:Nat)(lo hi:Int)(P:List Int)(N:Nat)(w:World)(hT:TB base w tb g C qs root)(hk:k<qs.length)(hB:base<=w.heap.size)(hN:N<=999999)(hkn:(nth (qs.map PN.nd) (k:Int)).kids.length<=N)(HS0:Hid (SaAt mL base w w tb g qs root h k lo hi P (nth (qs.map PN.nd) (k:Int)).kids.length g C qs))
  (HNO:Hid (∀wr i g' C' qs',SaAt mL base w wr tb g qs root h k lo hi P i g' C' qs'->i<=(nth (qs.map PN.nd) (k:Int)).kids.length/\∃h':k<qs'.length,(qs'[k]).keys.length+1=(qs'[k]).kids.length/\(nth (qs.map PN.nd) (k:Int)).kids.length<=(qs'[k]).kids.length/\(qs'[k]).kids.length<=N))
  (HRC:Hid (∀wr i g' C' qs' (_:SaAt mL base w wr tb g qs root h k lo hi P (i+1) g' C' qs') (h':k<qs'.length),Calls Tryz.prog 138 #[.pointer (some ⟨tb,0,none⟩),.int .i64 ((qs'[k]).kids.getD i 0)] wr fun e w'=>∃vm g2 C2 qs2,e=.returned vm/\qam base wr tb g' qs' root (q0g h (qs'.map PN.nd) ((qs'[k]).kids.getD i 0)).1 (q0g h (qs'.map PN.nd) ((qs'[k]).kids.getD i 0)).2 w' vm g2 C2 qs2/\(q0g h (qs'.map PN.nd) ((qs'[k]).kids.getD i 0)).2.length<=N/\∃h2:k<qs2.length,(qs2[k]).nd=(qs'[k]).nd))
  (HNX:Hid (∀(wr w3:World) (i g' C':Nat) (qs':List PN) (g2 C2:Nat) (qs2 qs3:List PN) (h':k<qs'.length),SaAt mL base w wr tb g qs root h k lo hi P (i+1) g' C' qs'->qs2.map PN.nd=(q0g h (qs'.map PN.nd) ((qs'[k]).kids.getD i 0)).1->qs3.map PN.nd=q4c (qs2.map PN.nd) (k:Int) i (q0g h (qs'.map PN.nd) ((qs'[k]).kids.getD i 0)).2->TB base w3 tb g2 C2 qs3 root->Kept (tb::feet g qs) w w3->(∀b∈feet g2 qs3,b∈feet g qs\/w.heap.size<=b)->SaAt mL base w w3 tb g qs root h k lo hi P i g2 C2 qs3))
  (HSP:Hid (∀wr g' C' qs',SaAt mL base w wr tb g qs root h k lo hi P 0 g' C' qs'->Calls Tryz.prog 141 #[.pointer (some ⟨tb,0,none⟩),.int .i64 (k:Int)] wr fun e w'=>∃vm g2 C2 qs2,e=.returned vm/\qam base w tb g qs root (q0g (h+1) (qs.map PN.nd) k).1 (q0g (h+1) (qs.map PN.nd) k).2 w' vm g2 C2 qs2)):
  Calls Tryz.prog 138 #[.pointer (some ⟨tb,0,none⟩),.int .i64 (k:Int)] w
   fun e w'=>∃vm g' C' qs',e=.returned vm/\qam base w tb g qs root (q0g (h+1) (qs.map PN.nd) k).1 (q0g (h+1) (qs.map PN.nd) k).2 w' vm g' C' qs':=by
 have hat:=hT.nt.node hk
 have n3:=hat.c3
 have c0:=hT.box.cell 0
 simp only[List.getElem?_cons_zero] at c0
 have i0:(0:Int)<=(k:Int):=by omega
 have i1:(k:Int)<(qs.length:Int):=by omega
 have hkk:(qs[k]).kids.length=(nth (qs.map PN.nd) (k:Int)).kids.length:=by rw[q5a hk];rfl
 rw[hkk] at n3
 generalize (nth (qs.map PN.nd) (k:Int)).kids.length=m at HS0 HNO n3 hkn
 have hw:IntKind.i64.wrap ((m:Int)-1)=(m:Int)-1:=by rw[IntKind.wrap_i64];omega
 clear hat hkk
 go_enter Tryz.func138,Tryz.ntmps138
 go_wp2_with fail
 go_loopw [5] (fun vi wr=>∃(i g' C':Nat) (qs':List PN),vi=.int .i64 ((i:Int)-1)/\Hid (SaAt mL base w wr tb g qs root h k lo hi P i g' C' qs')) (fun vi _=>(intOf vi+1).toNat)
 case atStart=>exact⟨m,g,C,qs,rfl,HS0⟩
 case round=>
  obtain⟨i,g',C',qs',rfl,HS⟩:=hrel
  obtain⟨him,hk',hkl,hkm,hkN⟩:=HNO.out _ _ _ _ _ HS.out
  cases i with
  |zero=>
   have hneg:((0:Nat):Int)-1=-1:=by omega
   rw[hneg]
   have hsp:=q0a (HSP.out _ _ _ _ HS.out)
   go_wp2_with (go_at_call 141;refine hsp.out.mono ?_;rintro e w' ⟨vm,g2,C2,qs2,rfl,hs⟩)
   go_ret
   exact⟨vm,g2,C2,qs2,rfl,hs⟩
  |succ i=>
   have hcast:((i+1:Nat):Int)-1=(i:Int):=by omega
   rw[hcast]
   have hil:i<(qs'[k]).kids.length:=by omega
   have a0:=HS.out.tree.box.cell 0
   simp only[List.getElem?_cons_zero] at a0
   have hat:=HS.out.tree.nt.node hk'
   have a3:=hat.c3
   obtain⟨db,doff,hA,hdl,hdc⟩:=(q3e (HS.out.tree.nt.each _ (List.getElem_mem hk')).d).1.int hil
   rw[hA] at a3
   have ak:wr.cell? ⟨db,doff+i,none⟩=some (.int .i64 ((qs'[k]).kids.getD i 0)):=by
    rw[hdc,List.getD_eq_getElem?_getD,List.getElem?_eq_getElem hil]
    rfl
   have j0:(0:Int)<=(i:Int):=by omega
   have j1:(i:Int)<((qs'[k]).kids.length:Int):=by omega
   have j2:(k:Int)<(qs'.length:Int):=by omega
   have hrc:=q0a (HRC.out wr i g' C' qs' HS.out hk')
   have hnx:=q0a fun w3 g2 C2 qs2 qs3=>HNX.out wr w3 i g' C' qs' g2 C2 qs2 qs3 hk' HS.out
   have hwi:IntKind.i64.wrap ((i:Int)-1)=(i:Int)-1:=by rw[IntKind.wrap_i64];omega
   generalize (q0g h (qs'.map PN.nd) ((qs'[k]).kids.getD i 0)).1=R1 at hrc hnx
   generalize (q0g h (qs'.map PN.nd) ((qs'[k]).kids.getD i 0)).2=R2 at hrc hnx
   generalize (qs'[k]).kids.getD i 0=kp at ak hrc
   have HND:=q0a (show(qs'[k]).nd.kids.length<=N/\(qs'[k]).nd.keys.length+1=(qs'[k]).nd.kids.length/\i<(qs'[k]).nd.kids.length from⟨hkN,hkl,hil⟩)
   generalize (qs'[k]).nd=nd at HND hrc
   generalize (qs'[k]).kids.length=kn at a3 j1
   generalize (qs'[k]).dC=dC at a3
   clear hat hA hdc hkl hkm hkN hil HRC HNX HSP HNO HS0 n3 c0 hw him
   go_wp2_with (first
    |(go_at_call 138;refine hrc.out.mono ?_;rintro e w2 ⟨vm,g2,C2,qs2,rfl,hg2,hmN,hk2,hnd2⟩;obtain⟨mA,mC,hvm,-,-,-,hmr⟩:=q0h hg2.more;subst hvm;have d0:=hg2.tree.box.cell 0;simp only[List.getElem?_cons_zero] at d0;have HG2:=q0a hg2;have e2:(k:Int)<(qs2.length:Int):=(by omega);have HND2:=q0a hnd2;have HMR:=q0a hmr;clear hg2 hnd2 hmr)
    |(go_at_call 139;refine(z2t base tb g2 C2 qs2 root k i mA mC R2 w2 HG2.out.tree hk2 ?_ ?_ ?_ HMR.out ?_ ?_).mono ?_;(have:=HND.out.2.2;rw[<-HND2.out] at this;exact this);(have:=HND.out.2.1;rw[<-HND2.out] at this;exact this);(exact Nat.le_trans hB (Nat.le_trans HS.out.kept.size HG2.out.kept.size));(exact fun a ha e=>HG2.out.apart a.block (by rw[ha];rfl) (List.mem_cons_of_mem _ e));(have:=HND.out.1;rw[<-HND2.out] at this;have:(qs2[k]).kids.length<=N:=this;omega);rintro e w3 ⟨rfl,qs3,hT3,hn3,hl3,hkp3,hf3⟩;have HR:=q0a (And.intro hT3 (And.intro hn3 (And.intro hkp3 hf3)));clear hT3 hn3 hl3 hkp3 hf3))
   obtain⟨hT3,hn3,hkp3,hf3⟩:=HR.out
   have o2:∀b∈feet g2 qs2,b∈feet g qs\/w.heap.size<=b:=fun b hb=>by
    rcases HG2.out.old b hb with e|e
    ·exact HS.out.old b e
    ·exact .inr (Nat.le_trans HS.out.kept.size e)
   have k2:Kept (tb::feet g qs) w w2:=HS.out.kept.step HG2.out.kept fun b hb=>by
    rcases List.mem_cons.1 hb with rfl|hb
    ·exact .inl List.mem_cons_self
    ·rcases HS.out.old b hb with e|e
     ·exact .inl (List.mem_cons_of_mem _ e)
     ·exact .inr e
   have k3:Kept (tb::feet g qs) w w3:=k2.step hkp3 fun b hb=>by
    rcases o2 b hb with e|e
    ·exact .inl (List.mem_cons_of_mem _ e)
    ·exact .inr e
   have o3:∀b∈feet g2 qs3,b∈feet g qs\/w.heap.size<=b:=fun b hb=>by
    rcases hf3 b hb with e|e
    ·exact o2 b e
    ·exact .inr (Nat.le_trans k2.size e)
   exact⟨⟨i,g2,C2,qs3,rfl,hnx.out w3 g2 C2 qs2 qs3 HG2.out.nds hn3 hT3 k3 o3⟩,by simp[intOf]⟩

theorem qhf(ns:List Nd)(p:Int)(hm:q0o (nth ns p)<=1\/q2n (nth ns p)<q1s (nth ns p)):ns.length+q0o (nth ns p)<=(q0p ns p).1.length+1:=by
 have hl:=q9u ns p
 rcases hm with h|h
 ·omega
 ·unfold q0p
  rw[if_neg (by omega)]
  simp only[List.length_append,List.length_set,List.length_tail,q3y]
  have:(q5c (nth ns p)).length=q0o (nth ns p):=q3g _ _ _ _
  omega

theorem qj3(x:Nd):q0o x<=1\/q2n x<q1s x:=by
 by_cases h:q2n x<q1s x
 ·exact .inr h
 ·left
  unfold q0o
  have:=qhh x
  have h2:q1s x+q2n x-1<2*q2n x:=by omega
  have:=Nat.div_lt_of_lt_mul (by rw[Nat.mul_comm];exact h2:q1s x+q2n x-1<q2n x*2)
  omega

theorem q9e.kid{mL:Nat}{ns0 ns:List Nd}{h:Nat}{p lo hi:Int}{P:List Int}{x:Nd}{i:Nat}(hx:x.keys.length+1=x.kids.length)(hP:P.Nodup)(hPr:∀n∈P,0<=n/\n<ns0.length)(hK:q9e mL ns0 ns h p lo hi P x (i+1)):
  ∃lo' u Qd,Sub mL 4 ns h ((nth ns p).kids.getD i 0) lo' u Qd/\Qd.Nodup/\p∉Qd:=by
 obtain⟨kids,keys,T,Q1,Q2,hn,hkl,hle,htk,hU,s1,s2,hpm⟩:=hK.at'
 have hix:i<x.kids.length:=hK.len
 have hik:i<kids.length:=by omega
 have hd:(nth ns p).kids.getD i 0=x.kids[i]:=by
  have e:kids[i]=x.kids[i]:=by
   have h1:(kids.take (i+1))[i]? =(x.kids.take (i+1))[i]? :=by rw[htk]
   rw[List.getElem?_take,List.getElem?_take,if_pos (by omega),if_pos (by omega),List.getElem?_eq_getElem hik,List.getElem?_eq_getElem hix] at h1
   simpa using h1
  rw[hn]
  simp[hik,e]
 rw[q4v hx hix,SubK_append] at s1
 obtain⟨Qa,Qd,rfl,s1a,Qd',Qe,rfl,s1d,hQe⟩:=s1
 cases hQe
 rw[List.append_nil] at hpm
 have hnd:(p::(Qa++Qd'++Q2)).Nodup:=hpm.nodup_iff.2 (List.nodup_append.2 ⟨hP,q1u _ _,fun a ha b hb e=>by
  have h1:=(hPr a ha).2
  have h2:=(placesF_mem.1 hb).1
  omega⟩)
 rw[List.nodup_cons,List.nodup_append,List.nodup_append] at hnd
 obtain⟨hpn,⟨na,nd',nad⟩,n2,nad2⟩:=hnd
 rw[hd]
 exact⟨_,_,Qd',s1d,nd',fun e=>hpn (by simp[e])⟩

theorem q9e.top{mL:Nat}{ns0 ns:List Nd}{h:Nat}{p lo hi:Int}{P Q:List Int}{x:Nd}(hin:qcf 4 (Sub mL 4 ns0 h) x lo hi Q)(hp:0<=p)(hp1:p<ns0.length)(hl:lo<hi)(hK:q9e mL ns0 ns h p lo hi P x 0):∃m Q2,Top 6 m ns (h+1) p lo hi (p::Q2):=by
 obtain⟨kids,keys,T,Q1,Q2,hn,hkl,hle,-,hU,s1,s2,hpm⟩:=hK.at'
 have hle1:=hK.le
 have htwo:=hin.two
 cases s1
 rw[List.take_zero] at hU s2
 rw[List.nil_append] at hU
 refine⟨kids.length,Q2,⟨hp,by omega,hl⟩,Q2,rfl,?_⟩
 rw[hn]
 exact⟨hin.leaf,hin.ents,by show 2<=kids.length;omega,Nat.le_refl _,hkl,hin.few,hin.buf,by show SubK _ lo (ups kids keys hi) Q2;rw[hU];exact s2⟩

theorem qc6{mL:Nat}(hmL:mL<=999999)(base tb:Nat)(root:Int):∀(h g C:Nat) (qs:List PN) (k:Nat) (lo hi:Int) (P:List Int) (w:World),TB base w tb g C qs root->k<qs.length->Sub mL 4 (qs.map PN.nd) h (k:Int) lo hi P->P.Nodup->base<=w.heap.size->(q0g h (qs.map PN.nd) (k:Int)).1.length<=900000->
  Calls Tryz.prog 138 #[.pointer (some ⟨tb,0,none⟩),.int .i64 (k:Int)] w
   fun e w'=>∃vm g' C' qs',e=.returned vm/\qam base w tb g qs root (q0g h (qs.map PN.nd) (k:Int)).1 (q0g h (qs.map PN.nd) (k:Int)).2 w' vm g' C' qs'
 |0,g,C,qs,k,lo,hi,P,w,hT,hk,hs,hP,hB,hN=>by
  have hx:=q5a hk
  have hkids:(qs[k]).kids=[]:=by
   have:=hs.2.2.kids
   rw[hx] at this
   exact this
  have hsz:q1s (nth (qs.map PN.nd) (k:Int))<=1000000:=by
   have h1:=hs.2.2
   unfold q1s
   rw[if_pos h1.leaf]
   have:=h1.most
   omega
  have hpre:=qh0 (mL:=mL) (mK:=4) (h:=0) (show Top mL 4 (qs.map PN.nd) 0 (k:Int) lo hi P from hs) hsz
  have hf:=qhf (qs.map PN.nd) (k:Int) (qj3 _)
  change (q0p (qs.map PN.nd) (k:Int)).1.length<=900000 at hN
  rw[hx] at hpre hf
  simp only[List.length_map] at hf
  refine(qaz base tb g C qs root k w hT hk hpre hB (by omega) hkids).mono ?_
  rintro e w' ⟨vm,g',C',qs',rfl,hs'⟩
  exact⟨vm,g',C',qs',rfl,hs'.grow⟩
 |h+1,g,C,qs,k,lo,hi,P,w,hT,hk,hs,hP,hB,hN=>by
  have hx:=q5a hk
  have hPr:=q4t _ _ _ _ _ hs
  have hs0:=hs
  obtain⟨hr,Q,hPQ,hin⟩:=hs
  have hul:(ups (nth (qs.map PN.nd) (k:Int)).kids (nth (qs.map PN.nd) (k:Int)).keys hi).take (nth (qs.map PN.nd) (k:Int)).kids.length=ups (nth (qs.map PN.nd) (k:Int)).kids (nth (qs.map PN.nd) (k:Int)).keys hi:=List.take_of_length_le (by simp[ups];omega)
  have hK:q9e mL (qs.map PN.nd) (qs.map PN.nd) h (k:Int) lo hi P (nth (qs.map PN.nd) (k:Int)) (nth (qs.map PN.nd) (k:Int)).kids.length:=by
   refine⟨Nat.le_refl _,⟨(nth (qs.map PN.nd) (k:Int)).kids,(nth (qs.map PN.nd) (k:Int)).keys,[],Q,[],rfl,hin.keys,Nat.le_refl _,rfl,?_,?_,rfl,?_⟩,Nat.le_refl _,fun _ _ _ _=>rfl,List.Perm.refl _⟩
   ·rw[hul,List.append_nil]
   ·rw[hul];exact hin.kids
   ·rw[hPQ];simp[q0i]
  have hkP:(k:Int)∈P:=by rw[hPQ];simp
  have hfin:∀{wr:World} {i g' C':Nat} {qs':List PN},SaAt mL base w wr tb g qs root h k lo hi P i g' C' qs'->(q9w (q0g h) (k:Int) i (qs'.map PN.nd)).length<=900000:=fun{wr i g' C' qs'} H=>by
   rw[H.fin]
   exact Nat.le_trans (q9u _ (k:Int)) hN
  have hqs:∀{wr:World} {i g' C':Nat} {qs':List PN},SaAt mL base w wr tb g qs root h k lo hi P i g' C' qs'->qs'.length<=900000:=fun{wr i g' C' qs'} H=>by
   have:=qb4 (q8p h) (k:Int) i (qs'.map PN.nd)
   have:=hfin H
   simp only[List.length_map] at *
   omega
  have hSN:SaAt mL base w w tb g qs root h k lo hi P (nth (qs.map PN.nd) (k:Int)).kids.length g C qs:=⟨hT,Kept.refl _ _,fun b hb=>.inl hb,hK,rfl⟩
  have hk4:(nth (qs.map PN.nd) (k:Int)).kids.length<=4:=hin.most
  -- a kid, and its siblings
  have hkidok:∀{wr:World} {i g' C':Nat} {qs':List PN} (H:SaAt mL base w wr tb g qs root h k lo hi P (i+1) g' C' qs') (h':k<qs'.length),∃lo' u Qd,Sub mL 4 (qs'.map PN.nd) h ((qs'[k]).kids.getD i 0) lo' u Qd/\Qd.Nodup/\(k:Int)∉Qd:=fun{wr i g' C' qs'} H h'=>by
   have:=H.ok.kid hin.keys hP hPr
   rw[q5a h'] at this
   exact this
  refine qgj (mL:=mL) (h:=h) base tb g C qs root k lo hi P 999999 w hT hk hB (by omega) (by omega) hSN ?_ ?_ ?_ ?_
  ·intro wr i g' C' qs' H
   obtain⟨h',a,b,c⟩:=H.node hk hP hPr
   exact⟨H.ok.len,h',a,b,by have:=hqs H;omega⟩
  ·intro wr i g' C' qs' H h'
   obtain⟨lo',u,Qd,hsd,hnd,hkd⟩:=hkidok H h'
   have hrd:=q4t _ _ _ _ _ hsd
   have hok:=q8g h _ _ _ _ _ hsd hnd
   have hd:0<=(qs'[k]).kids.getD i 0/\(qs'[k]).kids.getD i 0<((qs'.map PN.nd).length:Int):=by
    cases h with
    |zero=>exact⟨hsd.1.1,hsd.1.2.1⟩
    |succ h=>exact⟨hsd.1.1,hsd.1.2.1⟩
   obtain⟨d,hdd⟩:∃d:Nat,(qs'[k]).kids.getD i 0=d:=⟨((qs'[k]).kids.getD i 0).toNat,by omega⟩
   rw[hdd] at hsd hok hd ⊢
   have hlen:(q0g h (qs'.map PN.nd) (d:Int)).1.length<=900000:=by
    have h1:=hfin H
    rw[q9w,q5a h'] at h1
    have h2:=qb4 (q8p h) (k:Int) i (q4c (q0g h (qs'.map PN.nd) ((qs'[k]).nd.kids.getD i 0)).1 (k:Int) i (q0g h (qs'.map PN.nd) ((qs'[k]).nd.kids.getD i 0)).2)
    have e:(qs'[k]).nd.kids.getD i 0=d:=hdd
    rw[e] at h1 h2
    simp only[q4c,List.length_set] at h1 h2
    omega
   refine(qc6 hmL base tb root h g' C' qs' d lo' u Qd wr H.tree (by simp at hd;omega) hsd hnd (Nat.le_trans hB H.kept.size) hlen).mono ?_
   rintro e w' ⟨vm,g2,C2,qs2,rfl,hG⟩
   have hle:=hok.le
   have hfew:=hok.few
   have hq2:qs2.length=(q0g h (qs'.map PN.nd) (d:Int)).1.length:=by rw[<-hG.nds];simp
   simp only[List.length_map] at hle hfew
   have hk2:k<qs2.length:=by omega
   refine⟨vm,g2,C2,qs2,rfl,hG,by omega,hk2,?_⟩
   have hsame:=hok.same (k:Int) hkd (by omega) (by simp;omega)
   rw[<-hG.nds,q5a hk2,q5a h'] at hsame
   exact hsame
  ·intro wr w3 i g' C' qs' g2 C2 qs2 qs3 h' H hn2 hn3 hT3 hkp3 ho3
   refine⟨hT3,hkp3,ho3,?_,?_⟩
   ·rw[hn3,hn2]
    have e:=q5a h'
    have:=qj6 (R:=q0g h (qs'.map PN.nd) ((qs'[k]).kids.getD i 0)) hin.keys hr.1 hr.2.1 hkP hP hPr H.ok (fun l u Qd a b=>by
     rw[e] at a ⊢
     exact q8g h _ _ _ _ _ a b)
    exact this
   ·rw[hn3,hn2,<-H.fin,q9w,q5a h']
    rfl
  ·intro wr g' C' qs' H
   obtain⟨h',a,b,c⟩:=H.node hk hP hPr
   have hx':=q5a h'
   have hke:qs'.map PN.nd=q9w (q0g h) (k:Int) (nth (qs.map PN.nd) (k:Int)).kids.length (qs.map PN.nd):=H.fin
   have hlen:=hfin H
   have hsz:q1s (nth (qs'.map PN.nd) (k:Int))<=1000000:=by
    obtain⟨kids,keys,T,Q1,Q2,hn,_⟩:=H.ok.at'
    unfold q1s
    rw[hn,if_neg (by show ¬(nth (qs.map PN.nd) (k:Int)).leaf=true;rw[hin.leaf];decide)]
    rw[hx'] at hn
    have:(qs'[k]).kids=kids:=congrArg Nd.kids hn
    show kids.length<=_
    rw[<-this]
    have:=hqs H
    omega
   have hpre:q7m (nth (qs'.map PN.nd) (k:Int)):=by
    obtain⟨m,Q2,ht⟩:=H.ok.top hin hr.1 hr.2.1 hr.2.2
    exact qh0 ht hsz
   have hf:=qhf (qs'.map PN.nd) (k:Int) (qj3 _)
   have hN':(q0p (qs'.map PN.nd) (k:Int)).1.length<=900000:=by rw[hke];exact hN
   rw[hx'] at hpre hf
   simp only[List.length_map] at hf
   refine(qd9 base tb g' C' qs' root k wr H.tree h' hpre (Nat.le_trans hB H.kept.size) (by omega)).mono ?_
   rintro e w' ⟨vm,g2,C2,qs2,rfl,hS⟩
   have hG:=hS.grow
   rw[hke] at hG
   refine⟨vm,g2,C2,qs2,rfl,⟨hG.tree,hG.nds,qir hG.more H.kept.size,hG.apart,H.kept.step hG.kept fun b hb=>?_,fun b hb=>?_⟩⟩
   ·rcases List.mem_cons.1 hb with rfl|hb
    ·exact .inl List.mem_cons_self
    ·rcases H.old b hb with e|e
     ·exact .inl (List.mem_cons_of_mem _ e)
     ·exact .inr e
   ·rcases hG.old b hb with e|e
    ·exact H.old b e
    ·exact .inr (Nat.le_trans H.kept.size e)

end
end Go.Proofs.YtlojfgdpmaigmafGreatDoor

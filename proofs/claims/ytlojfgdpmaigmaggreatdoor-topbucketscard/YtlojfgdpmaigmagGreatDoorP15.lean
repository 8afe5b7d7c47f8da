/- The visitor of tree.All: it appends each entry to a list of its caller's. -/
import Derived.Test.YtlojfgdpmaigmagGreatDoorP14
import Derived.Deep.AppendLies
namespace Go.Proofs.YtlojfgdpmaigmagGreatDoor
section
open Go.RowKit Plain

structure VisN{σ:Type}(F:FuncId)(cap:Array Value)(I:World->σ->Prop)(X:World->Nat->Prop)(step:σ->En->σ)(N:σ->Nat)(M:Nat):Prop where
 call:∀(x:En) (s:σ) (w:World),I w s->N s<M->Calls Tryz.prog F (#[.agg #[.int .i64 x.key,.int .i64 x.c,.int .i64 x.s,.int .i64 x.lo,.int .i64 x.hi,.int .i64 x.t,.int .i64 x.l]]++cap) w
  fun e w'=>e=.returned (.tuple #[])/\I w' (step s x)/\Turned X w w'
 cnt:∀(s:σ) (x:En),N (step s x)=N s+1
 stay:∀(s:σ) (w w':World),I w s->Below w.heap.size w w'->I w' s
 same:∀(s:σ) (w w':World),I w s->Below w.heap.size w w'->∀k,X w' k->X w k
 lt:∀(s:σ) (w:World),I w s->∀k,X w k->k<w.heap.size

theorem VisN.fold{σ:Type}{F:FuncId}{cap:Array Value}{I:World->σ->Prop}{X:World->Nat->Prop}{step:σ->En->σ}{N:σ->Nat}{M:Nat}(V:VisN F cap I X step N M):∀(l:List En) (s:σ),N (l.foldl step s)=N s+l.length
 |[],s=>rfl
 |x::l,s=>by
  rw[List.foldl_cons,V.fold l,V.cnt,List.length_cons];omega

structure LAt(bl H:Nat)(w:World)(s:List En):Prop where
 blt:bl<H
 hz:H<=w.heap.size
 row:∃v,RowL w bl 103 [v]/\w.ownsRow H 132 7 v s.length (aB s)

def XL(bl:Nat):World->Nat->Prop:=fun w k=>k=bl\/∃v,RowL w bl 103 [v]/\v.ownBlock=some k

theorem RowL.one{w:World}{b:Nat}{t:TypeId}{v v':Value}(h:RowL w b t [v])(h':RowL w b t [v']):v=v':=by
 have:=h.symm.trans h'
 simpa using this

theorem LAt.below{bl H:Nat}{w w':World}{s:List En}(h:LAt bl H w s)(hb:Below w.heap.size w w'):LAt bl H w' s:=by
 obtain⟨v,hr,ho⟩:=h.row;exact⟨h.blt,Nat.le_trans h.hz hb.size,v,hr.below hb hr.lt,aV ho fun k hk=>hb.block k (nH ho hk).2⟩

theorem LAt.same{bl H:Nat}{w w':World}{s:List En}(h:LAt bl H w s)(hb:Below w.heap.size w w')(k:Nat)(hk:XL bl w' k):XL bl w k:=by
 obtain⟨v,hr,ho⟩:=h.row;rcases hk with hk|⟨v',hr',hv⟩
 ·exact .inl hk
 ·obtain rfl:=(hr.below hb hr.lt).one hr';exact .inr ⟨v,hr,hv⟩

theorem LAt.lt{bl H:Nat}{w:World}{s:List En}(h:LAt bl H w s)(k:Nat)(hk:XL bl w k):k<w.heap.size:=by
 obtain⟨v,hr,ho⟩:=h.row;rcases hk with rfl|⟨v',hr',hv⟩
 ·exact hr.lt
 ·obtain rfl:=hr.one hr';exact(nH ho hv).2

theorem LAt.put{bl H g cap:Nat}{w w1:World}{v:Value}{s:List En}{x:En}{o1 o2:Obj}(h:LAt bl H w s)(hr:RowL w bl 103 [v])
  (hown:w1.ownsRow H 132 7 (.slice (some ⟨g,0,none⟩) (s.length+1) cap) (s.length+1) (aB s++x.vals)) (hgrow:((w.alloc o1).alloc o2).grownBy w1 v.ownBlock) (hat:v.ownBlock=some g\/g=w.heap.size+2):
  LAt bl H (w1.setCell ⟨bl,0,none⟩ (.slice (some ⟨g,0,none⟩) (s.length+1) cap)) (s++[x])/\Turned (XL bl) w (w1.setCell ⟨bl,0,none⟩ (.slice (some ⟨g,0,none⟩) (s.length+1) cap)):=by
 obtain⟨v',hr',ho⟩:=h.row;obtain rfl:=hr.one hr';have hlt:=hr.lt;have hs:=hgrow.size;simp only[World.size_alloc] at hs;have hbl:=h.blt;have hz:=h.hz;have hnb:some bl≠v.ownBlock:=fun e=>by have:=(nH ho e.symm).1;omega
 have two':∀k,k<w.heap.size->((w.alloc o1).alloc o2).heap[k]? =w.heap[k]? :=fun k hk=>(two o1 o2).block k hk
 have hb1:w1.heap[bl]? =w.heap[bl]? :=(hgrow.block bl (by simp;omega) hnb).trans (two' bl hlt)
 have hr1:RowL w1 bl 103 [v]:=hr.of_block hb1;have hg:H<=g:=(nH hown rfl).1;have hr2:RowL (w1.setCell ⟨bl,0,none⟩ (.slice (some ⟨g,0,none⟩) (s.length+1) cap)) bl 103 [.slice (some ⟨g,0,none⟩) (s.length+1) cap]:=hr1.set 0 _;refine⟨⟨hbl,by simp;omega,_,hr2,?_⟩,⟨hgrow.os,hgrow.tape,hgrow.output,by simp;omega,fun k hk hx=>?_,fun k hk hx=>?_⟩⟩
 ·have:=uJ hown;refine aV (by simpa using this) fun k hk=>?_
  have:g=k:=by simpa [Value.ownBlock] using hk
  exact Below.heap_setCell _ _ _ _ (show k≠bl by omega)
 ·have h1:k≠bl:=fun e=>hx (.inl e)
  have h2:some k≠v.ownBlock:=fun e=>hx (.inr ⟨v,hr,e.symm⟩)
  exact(Below.heap_setCell _ _ _ _ h1).trans ((hgrow.block k (by simp;omega) h2).trans (two' k hk))
 ·rcases hx with hx|⟨v2,hv2,hx⟩
  ·exact .inl hx
  ·obtain rfl:=hr2.one hv2;have:g=k:=by simpa [Value.ownBlock] using hx
   subst this;rcases hat with hat|hat
   ·exact .inr ⟨v,hr,hat⟩
   ·omega

set_option maxRecDepth 20000 in
set_option maxHeartbeats 4000000 in
theorem qdi(x:En)(bl H:Nat)(s:List En)(w:World)(h:LAt bl H w s)(hs:s.length<30000):
  Calls Tryz.prog 81 #[.agg #[.int .i64 x.key,.int .i64 x.c,.int .i64 x.s,.int .i64 x.lo,.int .i64 x.hi,.int .i64 x.t,.int .i64 x.l],.pointer (some ⟨bl,0,none⟩)] w
   fun e w'=>e=.returned (.tuple #[])/\LAt bl H w' (s++[x])/\Turned (XL bl) w w':=by
 obtain⟨i0,hi0,hz0,hz1,hz2⟩:=info_parts kK;have HL:Hid (LAt bl H w s):=h;obtain⟨v,hr,ho⟩:=h.row;have HR:Hid (RowL w bl 103 [v]):=hr;have cv:w.cell? ⟨bl,0,none⟩=some v:=hr.cell 0;have fv:w.frozen? ⟨bl,0,none⟩=false:=hr.frozen 0;have lb:=hr.lt;have hH:=h.hz;have HN:Hid (some bl≠v.ownBlock):=fun e=>by have:=(nH ho e.symm).1;have:=h.blt;omega
 clear h hr
 go_enter Tryz.func81,Tryz.ntmps81
 go_wp2_with (at_builtin;refine wpList_append_lies _ rfl _ _ 103 rfl H 132 i0 _ 7 56 Tryz.underlying103 hi0 hz0 hz1 hz2 rfl (by decide) v s.length (aB s) rfl ((ho.alloc _).alloc _) ⟨w.heap.size+1,0,none⟩ 1 1 x.vals rfl rfl (uU _ _ x) (qX x) (by decide) (by unfold maxLen;omega) (by omega) (by simp;omega) (w.heap.size+2) (by simp) ?_;intro g cap w1 hown1 hgrow1 hat1 hlt1;have cv1:w1.cell? ⟨bl,0,none⟩=some v:=(hgrow1.cell_far ⟨bl,0,none⟩ (by simp;omega) HN.out).trans ((two _ _).cell (p:=⟨bl,0,none⟩) lb |>.trans cv);have fv1:w1.frozen? ⟨bl,0,none⟩=false:=(hgrow1.frozen_far ⟨bl,0,none⟩ (by simp;omega) HN.out).trans ((two _ _).frozen (p:=⟨bl,0,none⟩) lb |>.trans fv))
 go_end0
 have P:=HL.out.put HR.out hown1 hgrow1 hat1;exact⟨rfl,P.1,P.2⟩

theorem visL(bl H:Nat):VisN 81 #[.pointer (some ⟨bl,0,none⟩)] (LAt bl H) (XL bl) (fun s x=>s++[x]) List.length 30000 where
 call x s w h hs:=qdi x bl H s w h hs
 cnt s x:=by simp
 stay _ _ _ h hb:=h.below hb
 same _ _ _ h hb:=h.same hb
 lt _ _ h:=h.lt

set_option maxRecDepth 20000 in
set_option maxHeartbeats 4000000 in
theorem qe0{σ:Type}{I:World->σ->Prop}{X:World->Nat->Prop}{step:σ->En->σ}{N:σ->Nat}{M:Nat}(bl:Nat)(V:Hid (VisN 81 #[.pointer (some ⟨bl,0,none⟩)] I X step N M))
  (b o C:Nat) (r:Int) (ps:List PN) (m B:Nat) (low high:Int) (s:σ) (w:World) (leaf:Bool) (eA:Option Addr) (eC:Nat) (ents:List En) (kA:Option Addr) (kC:Nat) (keys:List Int) (dA:Option Addr) (dC:Nat) (kids:List Int) (bA:Option Addr) (bC:Nat) (buf:List En) (g:Int->List En)
  (hm:m<ps.length) (hN:bF B w (some ⟨b,o,none⟩) ps) (hat:PnAt w b (o+m*5) ⟨leaf,eA,eC,ents,kA,kC,keys,dA,dC,kids,bA,bC,buf⟩) (ok:PN.ok B w ⟨leaf,eA,eC,ents,kA,kC,keys,dA,dC,kids,bA,bC,buf⟩)
  (hB:B<=w.heap.size) (hbl:b<B) (hX:∀k,X w k->B<=k) (hI:I w s) (hk:kids.length<=keys.length+1) (hM:Hid (N s+(buf.filter (inR low high)++ents.filter (inR low high)++WlK g low high kids keys none).length<=M))
  (ih:Hid (∀d∈kids,∀(s':σ) (w':World),bF B w' (some ⟨b,o,none⟩) ps->I w' s'->B<=w'.heap.size->(∀k,X w' k->B<=k)->N s'+(g d).length<=M->
   Calls Tryz.prog 80 #[.agg #[.slice (some ⟨b,o,none⟩) ps.length C,.int .i64 r],.int .i64 d,.int .i64 low,.int .i64 high,.func (Fn.func 81) #[] #[.pointer (some ⟨bl,0,none⟩)]] w'
    fun e w''=>e=.returned (.tuple #[])/\I w'' ((g d).foldl step s')/\Turned X w' w'')):
  Calls Tryz.prog 80 #[.agg #[.slice (some ⟨b,o,none⟩) ps.length C,.int .i64 r],.int .i64 (m:Int),.int .i64 low,.int .i64 high,.func (Fn.func 81) #[] #[.pointer (some ⟨bl,0,none⟩)]] w
   fun e w'=>e=.returned (.tuple #[])/\I w' ((buf.filter (inR low high)++ents.filter (inR low high)++WlK g low high kids keys none).foldl step s)/\Turned X w w':=by
 have hz:=hN.z;obtain⟨c0,c1,c2,c3,c4⟩:=hat;simp only at c0 c1 c2 c3 c4;obtain⟨e1,k1,t1,f1,-,-,-,-,ez,kz,dz,fz⟩:=ok;simp only at e1 k1 t1 f1 ez kz dz fz;have hbw:b<w.heap.size:=by omega
 have HI:Hid (I w s):=hI;have HX:Hid (∀k,X w k->B<=k):=hX;clear hI hX
 go_enter Tryz.func80,Tryz.ntmps80
 go_wp2_with fail;obtain⟨rb,rx,zz⟩:=qax (v:=w) (l1:=[.slice (some ⟨b,o,none⟩) ps.length C,.int .i64 r]) (l2:=[.bool leaf,.slice eA ents.length eC,.slice kA keys.length kC,.slice dA kids.length dC,.slice bA buf.length bC]) (t1:=32) (t2:=138) (Below.refl _ _) rfl;have hb01:Below w.heap.size w ((w.alloc (.cells #[.slice (some ⟨b,o,none⟩) ps.length C,.int .i64 r] 32)).alloc (.cells #[.bool leaf,.slice eA ents.length eC,.slice kA keys.length kC,.slice dA kids.length dC,.slice bA buf.length bC] 138)):=two _ _;simp only[List.toArray] at rb rx zz;generalize ((w.alloc (.cells #[.slice (some ⟨b,o,none⟩) ps.length C,.int .i64 r] 32)).alloc (.cells #[.bool leaf,.slice eA ents.length eC,.slice kA keys.length kC,.slice dA kids.length dC,.slice bA buf.length bC] 138))=w1 at *;have I1:Hid (I w1 s):=V.out.stay _ _ _ HI.out hb01;have X1:Hid (∀k,X w1 k->X w k):=V.out.same _ _ _ HI.out hb01;have T01:Turned X w w1:=Turned.of_below hb01 X1.out;have nb:Hid (¬X w1 w.heap.size):=fun h=>by have:=V.out.lt _ _ HI.out _ (X1.out _ h);omega
 have nx:Hid (¬X w1 (w.heap.size+1)):=fun h=>by have:=V.out.lt _ _ HI.out _ (X1.out _ h);omega
 clear hb01 c0 c1 c2 c3 c4;have i0:∀(x y:Value) (w:World),(Instr.index 170 (.agg #[x,y]) (.int .i64 0)).run Tryz.prog w=.ok x w:=fun _ _ _=>by kernel_rfl
 have i1:∀(x y:Value) (w:World),(Instr.index 170 (.agg #[x,y]) (.int .i64 1)).run Tryz.prog w=.ok y w:=fun _ _ _=>by kernel_rfl
 go_loopw [29] (fun vi wr=>∃i:Nat,i<=2/\vi=.int .i64 i/\Hid (I wr ((if i=0 then[] else if i=1 then buf.filter (inR low high) else buf.filter (inR low high)++ents.filter (inR low high)).foldl step s))/\Turned X w1 wr) (fun vi _=>2-(intOf vi).toNat)
 case atStart=>exact⟨0,by omega,rfl,I1,Turned.refl _ _⟩
 case round=>
  obtain⟨i,hi,hv,HIr,htr⟩:=hrel;rcases(show i=0\/i=1\/i=2 by omega) with rfl|rfl|rfl
  ·obtain rfl:_=Value.int .i64 0:=hv;simp only[if_true] at HIr;go_wp2_with fail
   go_loopw [34] (fun vk wi=>∃k:Nat,k<=buf.length/\vk=.int .i64 k/\Hid (I wi (([]++(buf.take k).filter (inR low high)).foldl step s))/\Turned X w1 wi) (fun vk _=>buf.length-(intOf vk).toNat)
   case atStart=>exact⟨0,Nat.zero_le _,rfl,(by show I _ _;simpa using HIr.out),htr⟩
   case round=>
    clear HIr htr;obtain⟨k,hkl,rfl,HIr,htr⟩:=hrel;have hTw:Turned X w wr:=T01.trans htr;have hBb:Below B w wr:=hTw.below hB HX.out;have hsz:=hTw.size
    by_cases hlt:k<buf.length
    ·obtain⟨qb,qo,rfl,hqb,hqe⟩:=(f1.below hBb (Nat.le_refl _)).en hlt;obtain⟨y,hy⟩:∃y,buf[k]=y:=⟨_,rfl⟩;rw[hy] at hqe;obtain⟨q0,q1,q2,q3,q4,q5,q6⟩:=hqe;have hqr:qb<wr.heap.size:=by omega
     have HT:Hid ((buf.take (k+1)).filter (inR low high)=(buf.take k).filter (inR low high)++if inR low high y=true then[y] else[]):=by
      show _=_;rw[List.take_succ_eq_append_getElem hlt,List.filter_append,hy]
      by_cases h:inR low high y=true<;>simp[h]
     clear hy;have hbA:∀o:Obj,Below wr.heap.size wr (wr.alloc o):=fun o=>(Below.refl _ _).alloc (Nat.le_refl _) o
     by_cases hq:inR low high y=true
     ·have hq':low<=y.key/\y.key<high:=by simpa [inR] using hq
      have HNk:Hid (N (([]++(buf.take k).filter (inR low high)).foldl step s)<M):=by
       show _<_;rw[V.out.fold];have h1:=HT.out;rw[if_pos hq] at h1;have h2:((buf.take (k+1)).filter (inR low high)).length<=(buf.filter (inR low high)).length:=((List.take_sublist _ _).filter _).length_le;rw[h1] at h2;have h3:=hM.out;simp only[List.length_append,List.length_cons,List.length_nil] at h2 h3 ⊢;omega
      go_wp2_with (go_at_call 81;refine(V.out.call y _ _ (V.out.stay _ _ _ HIr.out (hbA _)) HNk.out).mono ?_;rintro e w2 ⟨rfl,hI2,ht2⟩);refine⟨⟨k+1,hlt,by go_num,?_,htr.trans ((Turned.of_below (hbA _) (V.out.same _ _ _ HIr.out (hbA _))).trans ht2)⟩,by simp only[intOf];omega⟩
      show I _ _;rw[HT.out,if_pos hq,<-List.append_assoc,List.foldl_append];exact hI2
     ·have hq':¬(low<=y.key/\y.key<high):=by simpa [inR] using hq
      go_wp2_with fail
      all_goals (refine⟨⟨k+1,hlt,by go_num,?_,htr.trans (Turned.of_below (hbA _) (V.out.same _ _ _ HIr.out (hbA _)))⟩,by simp only[intOf];omega⟩;show I _ _;rw[HT.out,if_neg hq,List.append_nil];exact V.out.stay _ _ _ HIr.out (hbA _))
    ·go_wp2_with fail;have hke:k=buf.length:=by omega
     refine⟨⟨0+1,by omega,rfl,?_,htr⟩,by decide⟩
     show I _ _;have q:=HIr.out;rw[hke,List.take_length] at q
     simpa using q
  ·obtain rfl:_=Value.int .i64 1:=hv;simp only[if_true,Nat.one_ne_zero,if_false] at HIr;go_wp2_with fail
   go_loopw [34] (fun vk wi=>∃k:Nat,k<=ents.length/\vk=.int .i64 k/\Hid (I wi ((buf.filter (inR low high)++(ents.take k).filter (inR low high)).foldl step s))/\Turned X w1 wi) (fun vk _=>ents.length-(intOf vk).toNat)
   case atStart=>exact⟨0,Nat.zero_le _,rfl,(by show I _ _;simpa using HIr.out),htr⟩
   case round=>
    clear HIr htr;obtain⟨k,hkl,rfl,HIr,htr⟩:=hrel;have hTw:Turned X w wr:=T01.trans htr;have hBb:Below B w wr:=hTw.below hB HX.out;have hsz:=hTw.size
    by_cases hlt:k<ents.length
    ·obtain⟨qb,qo,rfl,hqb,hqe⟩:=(e1.below hBb (Nat.le_refl _)).en hlt;obtain⟨y,hy⟩:∃y,ents[k]=y:=⟨_,rfl⟩;rw[hy] at hqe;obtain⟨q0,q1,q2,q3,q4,q5,q6⟩:=hqe;have hqr:qb<wr.heap.size:=by omega
     have HT:Hid ((ents.take (k+1)).filter (inR low high)=(ents.take k).filter (inR low high)++if inR low high y=true then[y] else[]):=by
      show _=_;rw[List.take_succ_eq_append_getElem hlt,List.filter_append,hy]
      by_cases h:inR low high y=true<;>simp[h]
     clear hy;have hbA:∀o:Obj,Below wr.heap.size wr (wr.alloc o):=fun o=>(Below.refl _ _).alloc (Nat.le_refl _) o
     by_cases hq:inR low high y=true
     ·have hq':low<=y.key/\y.key<high:=by simpa [inR] using hq
      have HNk:Hid (N ((buf.filter (inR low high)++(ents.take k).filter (inR low high)).foldl step s)<M):=by
       show _<_;rw[V.out.fold];have h1:=HT.out;rw[if_pos hq] at h1;have h2:((ents.take (k+1)).filter (inR low high)).length<=(ents.filter (inR low high)).length:=((List.take_sublist _ _).filter _).length_le;rw[h1] at h2;have h3:=hM.out;simp only[List.length_append,List.length_cons,List.length_nil] at h2 h3 ⊢;omega
      go_wp2_with (go_at_call 81;refine(V.out.call y _ _ (V.out.stay _ _ _ HIr.out (hbA _)) HNk.out).mono ?_;rintro e w2 ⟨rfl,hI2,ht2⟩);refine⟨⟨k+1,hlt,by go_num,?_,htr.trans ((Turned.of_below (hbA _) (V.out.same _ _ _ HIr.out (hbA _))).trans ht2)⟩,by simp only[intOf];omega⟩
      show I _ _;rw[HT.out,if_pos hq,<-List.append_assoc,List.foldl_append];exact hI2
     ·have hq':¬(low<=y.key/\y.key<high):=by simpa [inR] using hq
      go_wp2_with fail
      all_goals (refine⟨⟨k+1,hlt,by go_num,?_,htr.trans (Turned.of_below (hbA _) (V.out.same _ _ _ HIr.out (hbA _)))⟩,by simp only[intOf];omega⟩;show I _ _;rw[HT.out,if_neg hq,List.append_nil];exact V.out.stay _ _ _ HIr.out (hbA _))
    ·go_wp2_with fail;have hke:k=ents.length:=by omega
     refine⟨⟨1+1,by omega,rfl,?_,htr⟩,by decide⟩
     show I _ _;have q:=HIr.out;rw[hke,List.take_length] at q
     simpa using q
  ·obtain rfl:_=Value.int .i64 2:=hv;simp only[show ¬(2=0) by decide,show ¬(2=1) by decide,if_false] at HIr
   have rx':=htr.row rx nx.out;have y3:=rx'.cell 3;simp only[List.getElem?_cons_zero,List.getElem?_cons_succ] at y3;have hxl:=rx'.lt;have w2e:∃w2,w2=wr:=⟨_,rfl⟩;obtain⟨w2,hw2⟩:=w2e;have H2:Hid (I w2 ((buf.filter (inR low high)++ents.filter (inR low high)).foldl step s)):=by rw[hw2];exact HIr
   have T2:Turned X w1 w2:=by rw[hw2];exact htr
   go_wp2_with fail;clear y3 hxl rx';rw[<-hw2]
   go_loopw [56] (fun vi wk=>∃i:Nat,i<=kids.length/\vi=.int .i64 i/\Hid (I wk ((buf.filter (inR low high)++ents.filter (inR low high)++(List.range i).flatMap (itK g low high kids keys none)).foldl step s))/\Turned X w1 wk) (fun vi _=>kids.length-(intOf vi).toNat)
   case atStart=>exact⟨0,Nat.zero_le _,rfl,(by show I _ _;simpa using H2.out),T2⟩
   case round=>
    clear HIr htr H2 T2 hw2 w2;obtain⟨i,hi,rfl,HIr,htr⟩:=hrel;have hTw:Turned X w wr:=T01.trans htr;have hBb:Below B w wr:=hTw.below hB HX.out;have hsz:=hTw.size;have hsz1:=htr.size;have rb':=htr.row rb nb.out;have rx':=htr.row rx nx.out;have y0:=rb'.cell 0;have y1:=rb'.cell 1;have y2:=rx'.cell 2;have y3:=rx'.cell 3;simp only[List.getElem?_cons_zero,List.getElem?_cons_succ] at y0 y1 y2 y3;have hxl:=rx'.lt;have hBr:B<=wr.heap.size:=by omega
    have hwl:w.heap.size<wr.heap.size:=by omega
    have HNr:Hid (bF B wr (some ⟨b,o,none⟩) ps):=hN.below hBb (Nat.le_refl _);have HXr:Hid (∀k,X wr k->B<=k):=hTw.far hB HX.out
    by_cases hlt:i<kids.length
    ·obtain⟨qb,qo,rfl,hqb,hqc⟩:=(t1.below hBb (Nat.le_refl _)).int hlt;obtain⟨kd,hkd⟩:∃kd,kids[i]=kd:=⟨_,rfl⟩;have con:=fun w' (h1:bF B w' (some ⟨b,o,none⟩) ps) h2 h3 h4 h5=>ih.out kd (by rw[<-hkd];exact List.getElem_mem hlt) ((buf.filter (inR low high)++ents.filter (inR low high)++(List.range i).flatMap (itK g low high kids keys none)).foldl step s) w' h1 h2 h3 h4 h5
     rw[hkd] at hqc;have hqr:qb<wr.heap.size:=by omega
     have HT:Hid ((List.range (i+1)).flatMap (itK g low high kids keys none)=(List.range i).flatMap (itK g low high kids keys none)++itK g low high kids keys none i):=by
      show _=_;rw[List.range_succ,List.flatMap_append];simp
     have HE:Hid (itK g low high kids keys none i=if iD low high (if i=0 then none else keys[i-1]?) keys[i]? =true then[] else g kd):=by
      show _=_;unfold itK;rw[<-hkd,List.getD_eq_getElem?_getD,List.getElem?_eq_getElem hlt]
      rfl
     have HNi:Hid (itK g low high kids keys none i=g kd->N ((buf.filter (inR low high)++ents.filter (inR low high)++(List.range i).flatMap (itK g low high kids keys none)).foldl step s)+(g kd).length<=M):=by
      intro he;rw[V.out.fold];have h1:=qoq (itK g low high kids keys none) hlt;have h3:=hM.out;rw[wO] at h3;rw[HT.out,he] at h1;simp only[List.length_append] at h1 h3 ⊢;omega
     clear hkd ih;cases i with
     |zero=>
      by_cases hkk:0<keys.length
      ·obtain⟨zb,zo,rfl,hzb,hzc⟩:=(k1.below hBb (Nat.le_refl _)).int hkk;obtain⟨nk,hnk⟩:∃nk,keys[0]=nk:=⟨_,rfl⟩;rw[hnk] at hzc;have hzr:zb<wr.heap.size:=by omega
       have hn:keys[0]? =some nk:=by rw[List.getElem?_eq_getElem hkk,hnk]
       simp only[Nat.add_zero] at hzc hqc
       have HE':Hid (itK g low high kids keys none 0=if nk<=low then[] else g kd):=by
        show _=_;rw[HE.out];simp[iD,hn]
       clear HE
       by_cases hc:nk<=low
       ·go_wp2_with fail
        all_goals (refine⟨⟨0+1,hlt,by go_num,?_,htr⟩,by simp only[intOf];omega⟩;show I _ _;rw[HT.out,HE'.out,if_pos hc,List.append_nil];exact HIr.out)
       ·go_wp2_with (go_at_call 80;refine(con _ ?_ ?_ ?_ ?_ ?_).mono ?_;exact HNr.out;exact HIr.out;exact hBr;exact HXr.out;exact HNi.out (by rw[HE'.out,if_neg (show ¬nk<=low by omega)]);rintro e w2 ⟨rfl,hI2,ht2⟩)
        refine⟨⟨0+1,hlt,by go_num,?_,htr.trans ht2⟩,by simp only[intOf];omega⟩
        show I _ _;rw[HT.out,HE'.out,if_neg (by omega),<-List.append_assoc,List.foldl_append]
        exact hI2
      ·have hn:keys[0]? =none:=List.getElem?_eq_none (by omega)
       have hk1:(keys.length:Int)<1:=by omega
       clear hkk;simp only[Nat.add_zero] at hqc
       have HE':Hid (itK g low high kids keys none 0=g kd):=by
        show _=_;rw[HE.out];simp[iD,hn]
       clear HE;go_wp2_with (go_at_call 80;refine(con _ ?_ ?_ ?_ ?_ ?_).mono ?_;exact HNr.out;exact HIr.out;exact hBr;exact HXr.out;exact HNi.out (HE'.out);rintro e w2 ⟨rfl,hI2,ht2⟩);refine⟨⟨0+1,hlt,by go_num,?_,htr.trans ht2⟩,by simp only[intOf];omega⟩
       show I _ _;rw[HT.out,HE'.out,<-List.append_assoc,List.foldl_append];exact hI2
     |succ j=>
      have hjk:j<keys.length:=by omega
      obtain⟨zb,zo,rfl,hzb,hzp⟩:=(k1.below hBb (Nat.le_refl _)).int hjk;obtain⟨pv,hpv⟩:∃pv,keys[j]=pv:=⟨_,rfl⟩;rw[hpv] at hzp;have hzr:zb<wr.heap.size:=by omega
      have hp:keys[j]? =some pv:=by rw[List.getElem?_eq_getElem hjk,hpv]
      by_cases hkk:j+1<keys.length
      ·obtain⟨zb',zo',hzz,_,hzc⟩:=(k1.below hBb (Nat.le_refl _)).int hkk;obtain⟨rfl,rfl⟩:zb=zb'/\zo=zo':=by simpa using hzz
       obtain⟨nk,hnk⟩:∃nk,keys[j+1]=nk:=⟨_,rfl⟩;rw[hnk] at hzc;have hn:keys[j+1]? =some nk:=by rw[List.getElem?_eq_getElem hkk,hnk]
       have HE':Hid (itK g low high kids keys none (j+1)=if high<=pv\/nk<=low then[] else g kd):=by
        show _=_;rw[HE.out];simp[iD,hn,hp]
       clear HE
       by_cases hc:high<=pv\/nk<=low
       ·have HC:Hid (high<=pv\/nk<=low):=hc
        by_cases hc1:high<=pv<;>by_cases hc2:nk<=low<;>(try (exfalso;omega))<;>clear hc
        all_goals go_wp2_with fail
        all_goals (refine⟨⟨j+1+1,hlt,by go_num,?_,htr⟩,by simp only[intOf];omega⟩;show I _ _;rw[HT.out,HE'.out,if_pos HC.out,List.append_nil];exact HIr.out)
       ·have hc1:¬high<=pv:=by omega
        have hc2:¬nk<=low:=by omega
        have HC:Hid (¬(high<=pv\/nk<=low)):=hc;clear hc;go_wp2_with (go_at_call 80;refine(con _ ?_ ?_ ?_ ?_ ?_).mono ?_;exact HNr.out;exact HIr.out;exact hBr;exact HXr.out;exact HNi.out (by rw[HE'.out,if_neg HC.out]);rintro e w2 ⟨rfl,hI2,ht2⟩)
        refine⟨⟨j+1+1,hlt,by go_num,?_,htr.trans ht2⟩,by simp only[intOf];omega⟩
        show I _ _;rw[HT.out,HE'.out,if_neg HC.out,<-List.append_assoc,List.foldl_append];exact hI2
      ·have hn:keys[j+1]? =none:=List.getElem?_eq_none (by omega)
       have HE':Hid (itK g low high kids keys none (j+1)=if high<=pv then[] else g kd):=by
        show _=_;rw[HE.out];simp[iD,hn,hp]
       clear HE
       by_cases hc:high<=pv
       ·go_wp2_with fail
        all_goals (refine⟨⟨j+1+1,hlt,by go_num,?_,htr⟩,by simp only[intOf];omega⟩;show I _ _;rw[HT.out,HE'.out,if_pos hc,List.append_nil];exact HIr.out)
       ·go_wp2_with (go_at_call 80;refine(con _ ?_ ?_ ?_ ?_ ?_).mono ?_;exact HNr.out;exact HIr.out;exact hBr;exact HXr.out;exact HNi.out (by rw[HE'.out,if_neg (show ¬high<=pv by omega)]);rintro e w2 ⟨rfl,hI2,ht2⟩)
        refine⟨⟨j+1+1,hlt,by go_num,?_,htr.trans ht2⟩,by simp only[intOf];omega⟩
        show I _ _;rw[HT.out,HE'.out,if_neg (by omega),<-List.append_assoc,List.foldl_append]
        exact hI2
    ·have hie:i=kids.length:=by omega
     go_wp2_with fail
     go_end0
     refine⟨rfl,?_,hTw⟩;rw[wO,<-hie];exact HIr.out
theorem qgi{σ:Type}{I:World->σ->Prop}{X:World->Nat->Prop}{step:σ->En->σ}{N:σ->Nat}{M:Nat}(bl:Nat)(V:VisN 81 #[.pointer (some ⟨bl,0,none⟩)] I X step N M)
  (A:Option Addr) (C:Nat) (r:Int) (ps:List PN) (B:Nat) (low high:Int):∀(f:Nat) (n:Int) (s:σ) (w:World),Reach (ps.map PN.nd) f n->bF B w A ps->I w s->B<=w.heap.size->(∀k,X w k->B<=k)->N s+(Wl (ps.map PN.nd) low high f n).length<=M->
  Calls Tryz.prog 80 #[.agg #[.slice A ps.length C,.int .i64 r],.int .i64 n,.int .i64 low,.int .i64 high,.func (Fn.func 81) #[] #[.pointer (some ⟨bl,0,none⟩)]] w
   fun e w'=>e=.returned (.tuple #[])/\I w' ((Wl (ps.map PN.nd) low high f n).foldl step s)/\Turned X w w':=by
 intro f
 induction f with
 |zero=>intro n s w h;exact h.elim
 |succ f ih=>
  intro n s w hr hN hI hB hX hM;obtain⟨h0,h1,h2,h3⟩:=hr;simp only[List.length_map] at h1;obtain⟨m,rfl⟩:∃m:Nat,n=m:=⟨n.toNat,by omega⟩
  have hm:m<ps.length:=by omega
  obtain⟨b,o,rfl,hbl,hat⟩:=hN.row.pn hm;have ok:=hN.each m hm;have hg:(ps.map PN.nd).getD m default=(ps[m]).nd:=by simp[hm]
  simp only[Int.toNat_natCast,hg] at h2 h3
  have e:Wl (ps.map PN.nd) low high (f+1) (m:Int)=(ps[m]).buf.filter (inR low high)++(ps[m]).ents.filter (inR low high)++WlK (Wl (ps.map PN.nd) low high f) low high (ps[m]).kids (ps[m]).keys none:=by
   rw[Wl];simp only[Int.toNat_natCast,hg]
   rfl
  rw[e] at hM ⊢;exact qe0 bl V b o C r ps m B low high s w _ _ _ _ _ _ _ _ _ _ _ _ _ (Wl (ps.map PN.nd) low high f) hm hN hat ok hB hbl hX hI h2 hM (fun d hd s' w' a1 a2 a3 a4 a5=>ih d s' w' (h3 d hd) a1 a2 a3 a4 a5)

end
end Go.Proofs.YtlojfgdpmaigmagGreatDoor

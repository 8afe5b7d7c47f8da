/- engine.Run: its answers and its base in the end, by the machine. -/
import Derived.Test.YtlojfgdpmaigmahGreatDoorP51
import Derived.Deep.AppendLies
import Derived.Test.YtlojfgdpmaigmahGreatDoorP30
import Derived.Test.YtlojfgdpmaigmahGreatDoorP32
import Derived.Test.YtlojfgdpmaigmahGreatDoorActsWalk
import Derived.Test.YtlojfgdpmaigmahGreatDoorP50
namespace Go.Proofs.YtlojfgdpmaigmahGreatDoor
section
open Go.RowKit Plain Go.Shelf

structure qad(w:World)(A:Option Addr)(vs:List AnV)(ys:List An):Prop where
 row:q0i w.heap.size w A (q7f vs)
 each:∀v∈vs,v.a.R.length<=500/\q0i w.heap.size w v.A (q0d v.a.R)
 eq:vs.map AnV.a=ys

theorem qad.up{w w':World}{A:Option Addr}{vs:List AnV}{ys:List An}(h:qad w A vs ys)(hb:Below w.heap.size w w'):qad w' A vs ys:=
 ⟨h.row.up hb,fun v hv=>⟨(h.each v hv).1,(h.each v hv).2.up hb⟩,h.eq⟩

def AnB(B:Nat)(w':World)(AA:Option Addr)(vs:List AnV)(Y:List An)(A:Option Addr)(C:Nat)(ss:List ByteArray)(t0 t1 t2:TR):Prop:=
 ∀w'':World,w'.heap.size<=w''.heap.size->(∀k,B<=k->k<w'.heap.size->w''.heap[k]? =w'.heap[k]?)->qad w'' AA vs Y/\q2r w'' A C ss t0 t1 t2

def z0a(acs:List Ac)(w:World)(e:Ending)(w':World):Prop:=
 ∃(vs:List AnV) (AA:Option Addr) (CC:Nat) (A:Option Addr) (C:Nat) (t0 t1 t2:TR),e=.returned (.tuple #[.slice AA acs.length CC,.agg (q0l A C (runM mc0 mc0 acs).1.ss t0 t1 t2 (runM mc0 mc0 acs).1.f).toArray,.int .i64 0])/\
  vs.length=acs.length/\acs.length<=CC/\qad w' AA vs (runM mc0 mc0 acs).2.2/\q2r w' A C (runM mc0 mc0 acs).1.ss t0 t1 t2/\KB (runM mc0 mc0 acs).1.ss (runM mc0 mc0 acs).1.f t0 t1 t2 (runM mc0 mc0 acs).1.pts/\Below w.heap.size w w'/\AnB w.heap.size w' AA vs (runM mc0 mc0 acs).2.2 A C (runM mc0 mc0 acs).1.ss t0 t1 t2

def Xo(rb sb:Nat)(vo:Value)(k:Nat):Prop:=k=sb\/vo.ownBlock=some k\/k<=rb

structure RnA(w wr:World)(sb:Nat)(vo:Value)(acs:List Ac)(vs:List AnV)(m s:Mc):Prop where
 below:Below w.heap.size w wr
 lo:w.heap.size<sb
 res:RowL wr w.heap.size 46 zb8
 st:StX (Xo w.heap.size sb vo) wr sb m s
 own:wr.ownsRow (sb+1) 61 8 vo vs.length (q7f vs)
 each:z4y (Xo w.heap.size sb vo) wr vs
 run:runM mc0 mc0 acs=(m,s,vs.map AnV.a)
 mp:m.pts.length<=acs.length
 sp:s.pts.length<=acs.length

theorem RnA.xlt{w wr:World}{sb:Nat}{vo:Value}{acs:List Ac}{vs:List AnV}{m s:Mc}(h:RnA w wr sb vo acs vs m s):∀k,Xo w.heap.size sb vo k->k<wr.heap.size:=by
 rintro k (rfl|hk|hk)
 ·exact h.st.lt
 ·exact(h.own.lt k hk).2
 ·exact Nat.lt_of_le_of_lt hk h.res.lt

theorem qua(acs:List Ac)(a:Ac){m s:Mc}{ys:List An}(h:runM mc0 mc0 acs=(m,s,ys)):runM mc0 mc0 (acs++[a])=((actM m s a).1,(actM m s a).2.1,ys++[(actM m s a).2.2]):=by
 rw[q9w,h]
 rfl

theorem qt5{w w1:World}{t0 t1 t2:TR}(hb:Below (w.alloc (.cells zb8.toArray 46)).heap.size (w.alloc (.cells zb8.toArray 46)) w1)(ho:OwnB (w.heap.size+1) w1 none 0 [] t0 t1 t2)(hk:KB [] 0 t0 t1 t2 []):
  RnA w (w1.alloc (.cells (q0l none 0 [] t0 t1 t2 0++[Value.slice none 0 0]).toArray 76)) w1.heap.size (Value.slice none 0 0) [] [] mc0 mc0:=by
 have b1:Below w1.heap.size w1 (w1.alloc (.cells (q0l none 0 [] t0 t1 t2 0++[Value.slice none 0 0]).toArray 76)):=(Below.refl _ _).alloc (Nat.le_refl _) _
 have hs:w.heap.size+1<=w1.heap.size:=by simpa using hb.size
 refine⟨q0e (q0e ((Below.refl _ _).alloc (Nat.le_refl _) _) (Nat.le_refl _) hb) (Nat.le_refl _) b1,by omega,((q0b w zb8 _).below hb (by simp)).below b1 (by omega),⟨none,0,t0,t1,t2,Value.slice none 0 0,q0b w1 _ _,⟨w.heap.size+1,w1,ho,b1.size,fun k _ q=>b1.block k q,fun k q0 q hk=>?_⟩,hk,.inl ⟨rfl,rfl⟩⟩,World.ownsRow_nil _ _ _ _,fun v hv=>by simp at hv,rfl,Nat.le_refl _,Nat.le_refl _⟩
 rcases hk with rfl|hk|hk
 ·omega
 ·simp[Value.ownBlock] at hk
 ·omega

theorem q6i.or{X:Nat->Prop}{w w':World}(h:q6i X w w'):q6i (fun k=>X k\/w.heap.size<=k) w w':=⟨h.size,fun k hk hn=>h.block k hk fun e=>hn (.inl e)⟩

theorem qsa:∀(l:List Ac) {m s:Mc} {n:Nat},m.pts.length<=n->s.pts.length<=n->(runM m s l).1.pts.length<=n+l.length
 |[],_,_,_,h,_=>h
 |a::l,m,s,n,h,h'=>by
  obtain⟨h1,h2⟩:=qtd a h h'
  have:=qsa l h1 h2
  simp only[runM,List.length_cons]
  omega

theorem StX.grow{X Y:Nat->Prop}{w w':World}{sb:Nat}{m s:Mc}(h:StX X w sb m s)(hk:q6i X w w')(hb:w'.heap[sb]? =w.heap[sb]?)(hY:∀k,Y k->X k\/w.heap.size<=k):StX Y w' sb m s:=
 ((h.more (Y:=fun k=>X k\/w.heap.size<=k) fun _ hk=>hk).keep hk.or hb).more fun k hk=>.inl (hY k hk)

theorem RowX.grow{X Y:Nat->Prop}{w w':World}{A:Option Addr}{vs:List Value}(h:RowX X w A vs)(hk:q6i X w w')(hY:∀k,Y k->X k\/w.heap.size<=k):RowX Y w' A vs:=
 ((h.more (Y:=fun k=>X k\/w.heap.size<=k) fun _ hk=>hk).keep hk.or).more fun k hk=>.inl (hY k hk)

theorem RnA.step{w wr w2 w6 w7:World}{sb g cap:Nat}{vo:Value}{acs:List Ac}{vs:List AnV}{m s:Mc}{a:Ac}{r:Mc × Mc × An}{A:Option Addr}{C:Nat}(hr:actM m s a=r)(h:RnA w wr sb vo acs vs m s)
  (hK:Kept [sb] wr w2) (hS:StX (Xo w.heap.size sb vo) w2 sb r.1 r.2.1) (hR:RowX (Xo w.heap.size sb vo) w2 A (q0d r.2.2.R)) (hl:r.2.2.R.length<=500) (h26:Below w2.heap.size w2 w6)
  (hown:w7.ownsRow (sb+1) 61 8 (.slice (some ⟨g,0,none⟩) (vs.length+1) cap) (vs.length+1) (q7f vs++q7f [⟨r.2.2,A,C⟩])) (hg:w6.grownBy w7 vo.ownBlock) (hat:vo.ownBlock=some g\/w6.heap.size<=g):
  RnA w w7 sb (.slice (some ⟨g,0,none⟩) (vs.length+1) cap) (acs++[a]) (vs++[⟨r.2.2,A,C⟩]) r.1 r.2.1:=by
 have hlo:=h.lo
 have hsz:=hK.size
 have hs6:=h26.size
 have hslt:=h.st.lt
 have k2:q6i (Xo w.heap.size sb vo) wr w2:=q6i.of_kept hK fun k hk=>by
  simp only[List.mem_singleton] at hk
  exact .inl hk
 have k6:q6i (Xo w.heap.size sb vo) w2 w6:=q6i.of_below h26
 have k7:q6i (Xo w.heap.size sb vo) w6 w7:=⟨hg.size,fun k hk hn=>hg.block k hk fun e=>hn (.inr (.inl e.symm))⟩
 have hsb7:w7.heap[sb]? =w6.heap[sb]? :=hg.block sb (by omega) fun e=>by
  have:=(h.own.lt sb e.symm).1
  omega
 have hY:∀k,Xo w.heap.size sb (Value.slice (some ⟨g,0,none⟩) (vs.length+1) cap) k->Xo w.heap.size sb vo k\/w6.heap.size<=k:=by
  rintro k (rfl|hk|hk)
  ·exact .inl (.inl rfl)
  ·have:g=k:=by simpa [Value.ownBlock] using hk
   subst this
   rcases hat with e|e
   ·exact .inl (.inr (.inl e))
   ·exact .inr e
  ·exact .inl (.inr (.inr hk))
 have b2:Below w.heap.size w w2:=h.below.trans (hK.below h.below.size (by simpa using Nat.le_of_lt hlo))
 have b6:Below w.heap.size w w6:=q0e b2 (Nat.le_refl _) h26
 have b7:Below w.heap.size w w7:=⟨hg.os.trans b6.os,hg.tape.trans b6.tape,hg.output.trans b6.output,Nat.le_trans b6.size hg.size,fun k hk=>(hg.block k (Nat.lt_of_lt_of_le hk b6.size) fun e=>by
  have:=(h.own.lt k e.symm).1
  omega).trans (b6.block k hk)⟩
 obtain⟨l1,l2⟩:=qtd a h.mp h.sp
 rw[hr] at l1 l2
 have e:vs.length+1=(vs++[(⟨r.2.2,A,C⟩:AnV)]).length:=by simp
 have hr2:RowL w2 w.heap.size 46 zb8:=h.res.of_block (hK.block _ h.res.lt (by simp;omega))
 have hr7:RowL w7 w.heap.size 46 zb8:=(hr2.below h26 hr2.lt).of_block (hg.block _ (hr2.below h26 hr2.lt).lt (fun e=>by have:=(h.own.lt _ e.symm).1;omega))
 refine⟨b7,hlo,hr7,(hS.next h26).grow k7 hsb7 hY,?_,fun v hv=>?_,?_,?_,?_⟩
 ·rw[q9r,<-e]
  exact hown
 ·rcases List.mem_append.1 hv with hv|hv
  ·exact⟨(h.each v hv).1,(((h.each v hv).2.keep k2).keep k6).grow k7 hY⟩
  ·obtain rfl:v=⟨r.2.2,A,C⟩:=by simpa using hv
   exact⟨hl,(hR.keep k6).grow k7 hY⟩
 ·rw[qua acs a h.run,hr]
  simp
 ·rw[List.length_append];exact l1
 ·rw[List.length_append];exact l2

theorem RnA.fin{w wr:World}{sb:Nat}{vo:Value}{acs:List Ac}{vs:List AnV}{m s:Mc}(h:RnA w wr sb vo acs vs m s):∃AA CC,vo=.slice AA vs.length CC/\vs.length<=CC:=by
 obtain⟨AA,CC,rfl,_,hc,_,hr⟩:=q0g h.own
 exact⟨AA,CC,rfl,hc⟩

theorem RnA.fin2{w wr w':World}{sb CC:Nat}{AA A:Option Addr}{C:Nat}{t0 t1 t2:TR}{K:Value}{acs:List Ac}{vs:List AnV}{m s:Mc}(h:RnA w wr sb (.slice AA vs.length CC) acs vs m s)(st:StAt (Xo w.heap.size sb (.slice AA vs.length CC)) wr sb m s A C t0 t1 t2 K)(hs:wr.heap.size<=w'.heap.size)(hk:∀k,k<wr.heap.size->w.heap.size<k->w'.heap[k]? =wr.heap[k]?):
  qad w' AA vs (runM mc0 mc0 acs).2.2/\q2r w' A C m.ss t0 t1 t2:=by
 have hlo:=h.lo
 have kx:q6i (Xo w.heap.size sb (.slice AA vs.length CC)) wr w':=⟨hs,fun k q hn=>hk k q (Nat.lt_of_not_le fun e=>hn (.inr (.inr e)))⟩
 have ho:=q0c (w':=w') h.own fun k q=>hk k (h.own.lt k q).2 (by have:=(h.own.lt k q).1;omega)
 obtain⟨A',C',e,_,_,_,hr⟩:=q0g ho
 cases e
 exact⟨⟨hr,fun v hv=>⟨(h.each v hv).1,((h.each v hv).2.keep kx).row⟩,by rw[h.run]⟩,(st.aw.keep kx).at st.kb⟩

theorem RnA.next{w wr w':World}{sb:Nat}{vo:Value}{acs:List Ac}{vs:List AnV}{m s:Mc}(h:RnA w wr sb vo acs vs m s)(hb:Below wr.heap.size wr w'):RnA w w' sb vo acs vs m s:=
 ⟨q0e h.below (Nat.le_refl _) hb,h.lo,h.res.below hb h.res.lt,h.st.next hb,q0c h.own fun k hk=>hb.block k (h.own.lt k hk).2,fun v hv=>⟨(h.each v hv).1,(h.each v hv).2.keep (.of_below hb)⟩,h.run,h.mp,h.sp⟩

theorem RnA.len{w wr:World}{sb:Nat}{vo:Value}{acs:List Ac}{vs:List AnV}{m s:Mc}(h:RnA w wr sb vo acs vs m s):vs.length=acs.length:=by
 have:=qhd acs mc0 mc0
 rw[h.run] at this
 simpa using this

theorem qiz(w:World)(b:Nat)(x0 x1 x2 x3 x4 x5 x6 x7:Value):w.heap.size<=(set8 w b x0 x1 x2 x3 x4 x5 x6 x7).drew.heap.size/\∀k,k<w.heap.size->k≠b->(set8 w b x0 x1 x2 x3 x4 x5 x6 x7).drew.heap[k]? =w.heap[k]? :=by
 have h:∀W:World,W.drew.heap=W.heap:=fun _=>rfl
 obtain⟨W,hW⟩:∃W,set8 w b x0 x1 x2 x3 x4 x5 x6 x7=W:=⟨_,rfl⟩
 have h1:=qe2 w b x0 x1 x2 x3 x4 x5 x6 x7
 have h2:=q1s w b x0 x1 x2 x3 x4 x5 x6 x7
 rw[hW] at h1 h2 ⊢
 exact⟨by rw[h,h1];exact Nat.le_refl _,fun k _ hk=>by rw[h];exact h2 k hk⟩

theorem z1y:(Tryz.prog.info? 61).map (fun i=>(i.zero,i.size,i.bytes))=some (some (.agg #[.int .i64 0,.int .i64 0,.int .i64 0,.int .i64 0,.int .i64 0,.int .i64 0,.int .i64 0,.slice none 0 0]),8,80):=by kernel_rfl

theorem z6b{w:World}{vb:Nat}{t:TypeId}{x:AnV}(hv:RowL w vb t x.vals):∀j u,(q7f [x])[j]? =some u->w.cell? (Addr.add ⟨vb,0,none⟩ j)=some u:=by
 intro j u hu
 rw[WideShapes.add_plain,Nat.zero_add,hv.cell]
 simpa [q7f] using hu

theorem z0w(A:Option Addr)(C n:Nat)(w:World)(hn:500<n)(hz:n<=9223372036854775807):
  Calls Tryz.prog 16 #[.slice A n C] w fun e w'=>e=.returned (.tuple #[.slice none 0 0,.agg #[.slice none 0 0,.slice none 0 0,.int .i64 0,.slice none 0 0,.int .i64 0,.slice none 0 0,.int .i64 0,.int .i64 0],.int .i64 1])/\Below w.heap.size w w':=by
 have hn':(500:Int)<(n:Int):=by omega
 go_enter Tryz.func16,Tryz.ntmps16
 go_wp2_with fail
 refine bodyPost_ret (v:=.tuple #[.slice none 0 0,.agg #[.slice none 0 0,.slice none 0 0,.int .i64 0,.slice none 0 0,.int .i64 0,.slice none 0 0,.int .i64 0,.int .i64 0],.int .i64 1]) (by simp[results,Tryz.results16,go_sem]) rfl ⟨rfl,?_⟩
 exact(Below.refl _ _).alloc (Nat.le_refl _) _

set_option maxRecDepth 20000 in
set_option maxHeartbeats 2000000 in
theorem z0h(LA:Option Addr)(LC:Nat)(acs:List Ac)(w:World)(hZ:SzAt w)(hA:q0i w.heap.size w LA (q1f acs))(hs:∀a∈acs,a.s.size<=140737488351232)(hn:acs.length<=500):
  Calls Tryz.prog 16 #[.slice LA acs.length LC] w (z0a acs w):=by
 obtain⟨i0,hi0,hz0,hz1,hz2⟩:=info_parts z1y
 have HZ:=q0a hZ
 have HA:=q0a hA
 have HS:=q0a hs
 have hn':¬(500:Int)<(acs.length:Int):=by omega
 clear hZ hA hs
 go_enter Tryz.func16,Tryz.ntmps16
 go_wp2_with (first|(go_at_call 26;refine(qse _).mono ?_;rintro e w1 ⟨u0,u1,u2,he,ho,hk,hb⟩;have HR:=q0a (qt5 hb (by simpa using ho) hk);clear ho hk hb;obtain⟨A0,C0,p0,r0⟩:=u0;obtain⟨A1,C1,p1,r1⟩:=u1;obtain⟨A2,C2,p2,r2⟩:=u2;simp only[q0l] at he;subst he))
 obtain⟨sb,hsb⟩:∃sb,sb=w1.heap.size:=⟨_,rfl⟩
 simp only[q0l,List.cons_append,List.nil_append] at HR
 rw[<-hsb] at HR ⊢
 clear hsb
 go_loopw [6,17] (fun vo vi wr=>∃(k:Nat) (vs:List AnV) (m s:Mc),k<=acs.length/\vi=.int .i64 (k:Int)/\RnA w wr sb vo (acs.take k) vs m s) (fun _ vi _=>acs.length-(intOf vi).toNat)
 case atStart=>exact⟨0,[],mc0,mc0,Nat.zero_le _,rfl,HR.out⟩
 case round=>
  obtain⟨k,vs,m,s,hk,rfl,hat⟩:=hrel
  clear HR
  have hge:=hat.below.size
  have hlo:=hat.lo
  have hvl:vs.length=k:=by rw[hat.len,List.length_take];omega
  by_cases hlt:k<acs.length
  ·obtain⟨b,o,rfl,hbb,hcc⟩:=(HA.out.below hat.below (Nat.le_refl _)).ac6 hlt
   have htk:Hid (acs.take (k+1)=acs.take k++[acs[k]]):=List.take_succ_eq_append_getElem hlt
   have hsz:=HS.out _ (List.getElem_mem hlt)
   have hlk:(acs.take k).length=k:=by rw[List.length_take];omega
   obtain⟨at1,hat1⟩:∃at1,acs.take k=at1:=⟨_,rfl⟩
   rw[hat1] at htk hat hlk
   clear hat1
   generalize acs[k]=a at *
   have hmp:=hat.mp
   have con:=q0a fun W (hW:Below wr.heap.size wr W)=>z3d (HZ.out.below (q0e hat.below (Nat.le_refl _) hW)) (.inl rfl) (fun q hq=>(hat.next hW).xlt q hq) ((hat.next hW).st) a hsz (by omega)
   have hvl':vs.length=k:=by rw[hat.len];exact hlk
   obtain⟨am,ham⟩:∃am,actM m s a=am:=⟨_,rfl⟩
   have HAM:=q0a ham
   rw[ham] at con
   clear ham
   obtain⟨m',s',⟨yc,⟨y0,y1,y2,y3,y4,y5⟩,R⟩⟩:=am
   obtain⟨ak,as',at',az,an,av⟩:=a
   obtain⟨c0,c1,c2,c3,c4,c5⟩:=hcc
   simp only at c0 c1 c2 c3 c4 c5 con hsz
   have HT:=q0a hat
   clear hat hmp hvl
   have lbr:b<wr.heap.size:=by omega
   have q0:(0:Int)<=(k:Int):=by omega
   have q1:(k:Int)<(acs.length:Int):=by omega
   have hb1:∀o:Obj,Below wr.heap.size wr (wr.alloc o):=fun o=>(Below.refl _ _).alloc (Nat.le_refl _) o
   have hszr:=HT.out.below.size
   have hsbl:=HT.out.st.lt
   go_upto_region 9 with(first
    |(go_at_call 27;refine(con.out _ (by with_reducible exact hb1 _)).mono ?_;rintro e w2 ⟨A2,C2,he,hK,hS,hR,hl⟩;simp only[ansV] at he;subst he;have HK:=q0a hK;have HS2:=q0a hS;have HR2:=q0a hR;have HL2:=q0a hl;have HO2:=q0a (qbb (HT.out.next (hb1 _)).own hK (Nat.lt_succ_self _));have hs2:=hK.size;clear hK hS hR hl con)
    |(at_builtin;refine wpList_append_lies _ rfl _ _ 39 rfl (sb+1) 61 i0 _ 8 80 Tryz.underlying39 hi0 hz0 hz1 hz2 rfl (by decide) u6 vs.length (q7f vs) rfl (q1u HO2.out ((Below.refl _ _).alloc (Nat.le_refl _) _)) ⟨w2.heap.size,0,none⟩ 1 1 (q7f [⟨⟨yc,⟨y0,y1,y2,y3,y4,y5⟩,R⟩,A2,C2⟩]) rfl (q9u _) (z6b (x:=⟨⟨yc,⟨y0,y1,y2,y3,y4,y5⟩,R⟩,A2,C2⟩) (q0b w2 _ _)) (qtu _) (by decide) (by unfold maxLen;omega) (by omega) (by simp at hs2 ⊢;omega) (w2.heap.size+1) (by simp) ?_;intro g cap w7 hown7 hgrow7 hat7 hlt7;have HG:=q0a (And.intro hown7 (And.intro hgrow7 hat7));clear hown7 hgrow7 hat7))
   go_wp2_with fail
   go_roundw
   case rel=>
    go_light
    have hG:=HG.out
    have h7:=RnA.step (A:=A2) (C:=C2) HAM.out (HT.out.next (hb1 (.cells #[.int .i64 ak,.string as',.int .i64 at',.int .i64 az,.int .i64 an,.int .i64 av] 26))) HK.out HS2.out HR2.out HL2.out ((Below.refl _ _).alloc (Nat.le_refl _) _) hG.1 hG.2.1 (by
     rcases hG.2.2 with e|e
     ·exact .inl e
     ·right
      rw[e]
      simp)
    refine⟨k+1,vs++[⟨⟨yc,⟨y0,y1,y2,y3,y4,y5⟩,R⟩,A2,C2⟩],m',s',by omega,by go_num,?_⟩
    rw[htk.out]
    rw[hvl'] at h7
    exact h7
   case measure=>simp[intOf];omega
  ·have hkk:k=acs.length:=by omega
   obtain⟨AA,CC,rfl,hcc⟩:=hat.fin
   have hx:=hat.st
   obtain⟨A,C,t0,t1,t2,K,hst⟩:=hx
   have b0:=fun j=>hst.box.cell j
   have r0':=fun j=>hat.res.cell j
   have rf:=fun j=>hat.res.frozen j
   have rl:=hat.res.lt
   have sl:=hst.box.lt
   have HST:=q0a hst
   have HT:=q0a hat
   have HCC:=q0a hcc
   have htk:acs.take k=acs:=by rw[hkk];exact List.take_length
   have HTK:=q0a htk
   have HVL:=q0a hvl
   have hne:¬w.heap.size=sb:=by omega
   clear hst hat hcc htk hvl
   obtain⟨A3,C3,q0,z0⟩:=t0
   obtain⟨A4,C4,q1,z1⟩:=t1
   obtain⟨A5,C5,q2,z2⟩:=t2
   simp only[q0l,zb8,List.cons_append,List.nil_append] at b0 r0'
   go_wp2_with fail
   go_region
   all_goals go_wp2_with fail
   have hv2:vs.length=acs.length:=by rw[HVL.out,hkk]
   refine bodyPost_ret (v:=.tuple #[.slice AA vs.length CC,.agg #[.slice A m.ss.length C,.slice A3 q0.length C3,.int .i64 z0,.slice A4 q1.length C4,.int .i64 z1,.slice A5 q2.length C5,.int .i64 z2,.int .i64 m.f],.int .i64 0]) (by simp[results,Tryz.results16,go_sem,r0']) rfl ?_
   have hrun:=HT.out.run
   rw[HTK.out] at hrun
   have hew:=qiz wr w.heap.size (.slice A m.ss.length C) (.slice A3 q0.length C3) (.int .i64 z0) (.slice A4 q1.length C4) (.int .i64 z1) (.slice A5 q2.length C5) (.int .i64 z2) (.int .i64 m.f)
   have hfull:=fun(w'':World) h1 h2=>HT.out.fin2 (w':=w'') HST.out h1 h2
   have hend:=hfull _ hew.1 (fun k q1 q2=>hew.2 k q1 (by omega))
   have hanb:AnB w.heap.size (set8 wr w.heap.size (.slice A m.ss.length C) (.slice A3 q0.length C3) (.int .i64 z0) (.slice A4 q1.length C4) (.int .i64 z1) (.slice A5 q2.length C5) (.int .i64 z2) (.int .i64 m.f)).drew AA vs (runM mc0 mc0 acs).2.2 A C m.ss ⟨A3,C3,q0,z0⟩ ⟨A4,C4,q1,z1⟩ ⟨A5,C5,q2,z2⟩:=fun w'' k1 k2=>by
    have:=hfull w'' (Nat.le_trans hew.1 k1) (fun k q1 q2=>(k2 k (by omega) (Nat.lt_of_lt_of_le q1 hew.1)).trans (hew.2 k q1 (by omega)))
    rw[HTK.out] at this
    exact this
   simp only[set8] at hend hanb
   rw[HTK.out] at hend
   have e1:(runM mc0 mc0 acs).1=m:=by rw[hrun]
   unfold z0a
   rw[e1]
   refine⟨vs,AA,CC,A,C,⟨A3,C3,q0,z0⟩,⟨A4,C4,q1,z1⟩,⟨A5,C5,q2,z2⟩,by rw[hv2];rfl,hv2,by have:=HCC.out;omega,hend.1,hend.2,HST.out.kb,?_,hanb⟩
   exact(q9h HT.out.below (Nat.le_refl _) _ _ _ _ _ _ _ _).drew

def RunM(M:Mc)(Y:List An)(n:Nat)(w:World)(e:Ending)(w':World):Prop:=
 ∃(vs:List AnV) (AA:Option Addr) (CC:Nat) (A:Option Addr) (C:Nat) (t0 t1 t2:TR),e=.returned (.tuple #[.slice AA n CC,.agg (q0l A C M.ss t0 t1 t2 M.f).toArray,.int .i64 0])/\
  vs.length=n/\n<=CC/\qad w' AA vs Y/\q2r w' A C M.ss t0 t1 t2/\KB M.ss M.f t0 t1 t2 M.pts/\Below w.heap.size w w'/\AnB w.heap.size w' AA vs Y A C M.ss t0 t1 t2

theorem z5q{LA:Option Addr}{LC:Nat}{acs:List Ac}{w:World}{M S:Mc}{Y:List An}(h:runM mc0 mc0 acs=(M,S,Y))(hZ:SzAt w)(hA:q0i w.heap.size w LA (q1f acs))(hs:∀a∈acs,a.s.size<=140737488351232)(hn:acs.length<=500):
  Calls Tryz.prog 16 #[.slice LA acs.length LC] w (RunM M Y acs.length w):=
 (z0h LA LC acs w hZ hA hs hn).mono fun e w' hr=>by
  unfold z0a at hr
  rw[h] at hr
  exact hr

theorem z1o{B B1:Nat}{w1 w':World}{AA A:Option Addr}{vs:List AnV}{Y:List An}{C:Nat}{ss:List ByteArray}{t0 t1 t2:TR}(h:AnB B1 w1 AA vs Y A C ss t0 t1 t2)(hs:w1.heap.size<=w'.heap.size)(hk:∀k,B1<=k->k<w1.heap.size->w'.heap[k]? =w1.heap[k]?)(hB:B<=B1):
  qad w' AA vs Y/\q2r w' A C ss t0 t1 t2/\AnB B w' AA vs Y A C ss t0 t1 t2:=by
 obtain⟨h1,h2⟩:=h w' hs hk
 refine⟨h1,h2,fun w'' k1 k2=>h w'' (Nat.le_trans hs k1) fun k q1 q2=>(k2 k (Nat.le_trans hB q1) (Nat.lt_of_lt_of_le q2 hs)).trans (hk k q1 q2)⟩

set_option maxRecDepth 20000 in
set_option maxHeartbeats 1000000 in
theorem qn8{LA:Option Addr}{LC:Nat}{acs:List Ac}{w:World}{M S:Mc}{Y:List An}{n:Nat}(h:runM mc0 mc0 acs=(M,S,Y))(hl:acs.length=n)(hZ:SzAt w)(hA:q0i w.heap.size w LA (q1f acs))(hs:∀a∈acs,a.s.size<=140737488351232)(hn:n<=500):
  Calls Tryz.prog 11 #[.slice LA n LC] w (RunM M Y n w):=by
 subst hl
 have con:=q0a fun W (hW:Below w.heap.size w W)=>z5q (LA:=LA) (LC:=LC) h (hZ.below hW) (hA.up hW) hs hn
 have RZ:=q0b w zb8 46
 simp only[zb8] at RZ
 have BZ:Hid (∀o:Obj,Below w.heap.size w (w.alloc o)):=fun o=>(Below.refl _ _).alloc (Nat.le_refl _) o
 obtain⟨n,hn'⟩:∃n,acs.length=n:=⟨_,rfl⟩
 rw[hn'] at con ⊢
 clear hZ hA hs h hn hn'
 go_enter Tryz.func11,Tryz.ntmps11
 go_upto_region 2 with(go_at_call 16;refine(con.out _ (by with_reducible exact BZ.out _)).mono ?_;rintro e w1 ⟨vs,AA,CC,A,C,t0,t1,t2,he,hvl,hcc,han,hB,hK,hb,hanb⟩;have R1:=RZ.below hb (by simp);have r1:=fun j=>R1.cell j;have e1:=fun j=>R1.frozen j;have g1:=R1.lt;obtain⟨A0,C0,p0,r0⟩:=t0;obtain⟨A1,C1,p1,r1'⟩:=t1;obtain⟨A2,C2,p2,r2⟩:=t2;have HL:=q0a hvl;have HC:=q0a hcc;have HN:=q0a hanb;have HK:=q0a hK;have HW:=q0a hb;clear hvl hcc han hB hK hb hanb con;simp only[q0l] at he;subst he)
 go_upto_region 4 with fail
 obtain⟨wA,hwA⟩:∃wA,wA=w1.alloc (.cells #[.slice A M.ss.length C,.slice A0 p0.length C0,.int .i64 r0,.slice A1 p1.length C1,.int .i64 r1',.slice A2 p2.length C2,.int .i64 r2,.int .i64 M.f] 46):=⟨_,rfl⟩
 have XA:RowL wA w1.heap.size 46 [.slice A M.ss.length C,.slice A0 p0.length C0,.int .i64 r0,.slice A1 p1.length C1,.int .i64 r1',.slice A2 p2.length C2,.int .i64 r2,.int .i64 M.f]:=by rw[hwA];exact q0b w1 _ _
 have RA:RowL wA w.heap.size 46 [.slice none 0 0,.slice none 0 0,.int .i64 0,.slice none 0 0,.int .i64 0,.slice none 0 0,.int .i64 0,.int .i64 0]:=by rw[hwA];exact R1.of_block (Below.heap_alloc _ _ _ g1)
 have H1A:Below w1.heap.size w1 wA:=by rw[hwA];exact(Below.refl _ _).alloc (Nat.le_refl _) _
 rw[<-hwA]
 have HA:=q0a H1A
 have HWA:=q0a (q0e (q0e (BZ.out _) (Nat.le_refl _) HW.out) (Nat.le_refl _) H1A)
 have hB1:(w.alloc (.cells #[.slice none 0 0,.slice none 0 0,.int .i64 0,.slice none 0 0,.int .i64 0,.slice none 0 0,.int .i64 0,.int .i64 0] 46)).heap.size=w.heap.size+1:=by simp
 have hN:=HN.out
 rw[hB1] at hN
 have HN2:=q0a hN
 have hrb:Hid (w.heap.size<=w.heap.size):=Nat.le_refl _
 clear HN hN hB1 HW R1 RZ r1 e1 hwA H1A BZ
 obtain⟨bb,hbb⟩:∃bb,bb=w1.heap.size:=⟨_,rfl⟩
 obtain⟨rb,hrb'⟩:∃rb,rb=w.heap.size:=⟨_,rfl⟩
 have hne1:¬rb=bb:=by omega
 have hne2:¬bb=rb:=by omega
 have HRB:=q0a hrb'
 rw[<-hbb] at XA ⊢
 rw[<-hrb'] at RA ⊢
 clear hbb hrb' g1
 have xa:=fun j=>XA.cell j
 have xl:=XA.lt
 have ra:=fun j=>RA.cell j
 have rf:=fun j=>RA.frozen j
 have rl:=RA.lt
 go_region
 all_goals go_wp2_with fail
 refine bodyPost_ret (v:=.tuple #[.slice AA n CC,.agg #[.slice A M.ss.length C,.slice A0 p0.length C0,.int .i64 r0,.slice A1 p1.length C1,.int .i64 r1',.slice A2 p2.length C2,.int .i64 r2,.int .i64 M.f],.int .i64 0]) (by simp[results,Tryz.results11,go_sem,ra]) rfl ?_
 have hRB:=HRB.out
 subst hRB
 have hew:=qiz wA w.heap.size (.slice A M.ss.length C) (.slice A0 p0.length C0) (.int .i64 r0) (.slice A1 p1.length C1) (.int .i64 r1') (.slice A2 p2.length C2) (.int .i64 r2) (.int .i64 M.f)
 have hae:=z1o (B:=w.heap.size) HN2.out (Nat.le_trans HA.out.size hew.1) (fun k q1 q2=>(hew.2 k (Nat.lt_of_lt_of_le q2 HA.out.size) (by omega)).trans (HA.out.block k q2)) (Nat.le_succ _)
 simp only[set8] at hae
 refine⟨vs,AA,CC,A,C,⟨A0,C0,p0,r0⟩,⟨A1,C1,p1,r1'⟩,⟨A2,C2,p2,r2⟩,rfl,HL.out,HC.out,hae.1,hae.2.1,HK.out,?_,hae.2.2⟩
 exact(q9h HWA.out (Nat.le_refl w.heap.size) _ _ _ _ _ _ _ _).drew

def z2n(M:Mc)(w:World)(e:Ending)(w':World):Prop:=
 ∃(g cap:Nat) (L:List En),e=.returned (.tuple #[.slice (some ⟨g,0,none⟩) (encB M.ss M.f L).length cap,.bool true])/\q0m w'.heap.size w' (some ⟨g,0,none⟩) cap (encB M.ss M.f L)/\KpY M L/\Below w.heap.size w w'

set_option maxRecDepth 20000 in
theorem qxk{LA:Option Addr}{LC:Nat}{acs:List Ac}{w:World}{M S:Mc}{Y:List An}{n:Nat}(h:runM mc0 mc0 acs=(M,S,Y))(hl:acs.length=n)(hZ:SzAt w)(hA:q0i w.heap.size w LA (q1f acs))(hs:∀a∈acs,a.s.size<=140737488351232)(hn:n<=500):
  Calls Tryz.prog 8 #[.slice LA n LC] w (z2n M w):=by
 have con:=q0a (qn8 (LA:=LA) (LC:=LC) h hl hZ hA hs hn)
 have HZ:=q0a hZ
 have hp:=qsa acs (m:=mc0) (s:=mc0) (n:=0) (Nat.le_refl _) (Nat.le_refl _)
 rw[h] at hp
 simp only at hp
 clear hZ hA hs h
 go_enter Tryz.func8,Tryz.ntmps8
 go_upto_region 2 with(go_at_call 11;refine con.out.mono ?_;rintro e w1 ⟨vs,AA,CC,A,C,t0,t1,t2,he,hvl,hcc,han,hB,hK,hb,hanb⟩;have EN:=q0a fun W (hW:Below w1.heap.size w1 W)=>qxq (m:=M) (HZ.out.below (q0e hb (Nat.le_refl _) hW)) (hB.up hW) hK (by omega);obtain⟨A0,C0,p0,r0⟩:=t0;obtain⟨A1,C1,p1,r1'⟩:=t1;obtain⟨A2,C2,p2,r2⟩:=t2;have HW:=q0a hb;clear hvl hcc han hB hK hb hanb con;simp only[q0l] at he EN;subst he)
 have BZ:Hid (∀o:Obj,Below w1.heap.size w1 (w1.alloc o)):=fun o=>(Below.refl _ _).alloc (Nat.le_refl _) o
 go_wp2_with (go_at_call 15;refine(EN.out _ (by with_reducible exact BZ.out _)).mono ?_;rintro e w2 ⟨hb2,v2,L2,he2,hbf2,hL2⟩;obtain⟨g2,c2,ev2,hy2⟩:=hbf2.bytes;subst ev2;have HB2:=q0a hb2;have HY2:=q0a hy2;have HL2:=q0a hL2;clear hbf2 hy2 hL2 hb2 EN;subst he2;obtain⟨kn,hkn⟩:∃kn,(encB M.ss M.f L2).length=kn:=⟨_,rfl⟩;have HKN:=q0a hkn;rw[hkn];clear hkn)
 refine bodyPost_ret (v:=.tuple #[.slice (some ⟨g2,0,none⟩) kn c2,.bool true]) (by simp[results,Tryz.results8,go_sem]) rfl ?_
 exact⟨g2,c2,L2,by rw[HKN.out],HY2.out,HL2.out,q0e HW.out (Nat.le_refl _) (q0e (BZ.out _) (Nat.le_refl _) HB2.out)⟩

set_option maxRecDepth 20000 in
theorem qsr(v v':AnV)(w:World)(e:v.a=v'.a)(hl:v.a.R.length<=500)(h:q0i w.heap.size w v.A (q0d v.a.R))(h':q0i w.heap.size w v'.A (q0d v'.a.R)):
  Calls Tryz.prog 18 #[.agg v.vals.toArray,.agg v'.vals.toArray] w fun e w'=>e=.returned (.bool true)/\Below w.heap.size w w':=by
 obtain⟨⟨c,⟨g0,g1,g2,g3,g4,g5⟩,R⟩,A,C⟩:=v
 obtain⟨a',A',C'⟩:=v'
 simp only at e hl h h'
 subst e
 simp only at h'
 have EQ:=q0a fun W (hW:Below w.heap.size w W)=>qk0 A A' C C' R R W (h.up hW) (h'.up hW) (by omega) (by omega)
 have BZ:Hid (∀o o':Obj,Below w.heap.size w ((w.alloc o).alloc o')):=fun o o'=>((Below.refl _ _).alloc (Nat.le_refl _) _).alloc (by simp) _
 simp only[AnV.vals]
 clear h h' hl
 obtain⟨n,hn⟩:∃n,R.length=n:=⟨_,rfl⟩
 rw[hn] at EQ ⊢
 clear hn
 simp only[decide_true] at EQ
 go_enter Tryz.func18,Tryz.ntmps18
 go_wp2_with (go_at_call 19;refine(EQ.out _ (by exact BZ.out _ _)).mono ?_;rintro e w1 ⟨rfl,hb⟩;have HB:=q0a hb;clear hb)
 go_ret
 exact⟨rfl,q0e (BZ.out _ _) (Nat.le_refl _) HB.out⟩

set_option maxRecDepth 20000 in
set_option maxHeartbeats 1000000 in
theorem qov{A A':Option Addr}{C C' n:Nat}{vs vs':List AnV}{ys:List An}{w:World}(h:qad w A vs ys)(h':qad w A' vs' ys)(hl:vs.length=n)(hl':vs'.length=n)(hn:n<=1000):
  Calls Tryz.prog 17 #[.slice A n C,.slice A' n C',.func (Fn.func 18) #[] #[]] w fun e w'=>e=.returned (.bool true)/\Below w.heap.size w w':=by
 have H:=q0a h
 have H':=q0a h'
 have HL:=q0a hl
 have HL':=q0a hl'
 clear h h' hl hl'
 go_enter Tryz.func17,Tryz.ntmps17
 go_wp2_with fail
 go_loopw [17] (fun vi wr=>∃k:Nat,k<=n/\vi=.int .i64 (k:Int)/\Below w.heap.size w wr) (fun vi _=>n-(intOf vi).toNat)
 case atStart=>exact⟨0,Nat.zero_le _,rfl,Below.refl _ _⟩
 case round=>
  obtain⟨k,hk,rfl,hbl⟩:=hrel
  by_cases hlt:k<n
  ·have hk1:k<vs.length:=by rw[HL.out];exact hlt
   have hk2:k<vs'.length:=by rw[HL'.out];exact hlt
   have hge:=hbl.size
   have hu:=H.out.up hbl
   have hu':=H'.out.up hbl
   obtain⟨b,o,hA,hbb,hav⟩:=hu.row.av8 hk1
   obtain⟨b',o',hA',hbb',hav'⟩:=hu'.row.av8 hk2
   have e1:vs[k].a=vs'[k].a:=by
    have q:=(hu.eq.trans hu'.eq.symm)
    have q2:(vs.map AnV.a)[k]? =(vs'.map AnV.a)[k]? :=by rw[q]
    rw[List.getElem?_map,List.getElem?_map,List.getElem?_eq_getElem hk1,List.getElem?_eq_getElem hk2] at q2
    simpa using q2
   have m1:=hu.each _ (List.getElem_mem hk1)
   have m2:=hu'.each _ (List.getElem_mem hk2)
   have CON:=q0a fun W (hW:Below wr.heap.size wr W)=>qsr vs[k] vs'[k] W e1 m1.1 (m1.2.up hW) (m2.2.up hW)
   subst hA hA'
   clear hu hu' e1 m1 m2
   generalize vs[k]=v at *
   generalize vs'[k]=v' at *
   obtain⟨⟨c,⟨g0,g1,g2,g3,g4,g5⟩,R⟩,AA,CC⟩:=v
   obtain⟨⟨c',⟨g0',g1',g2',g3',g4',g5'⟩,R'⟩,AA',CC'⟩:=v'
   obtain⟨c0,c1,c2,c3,c4,c5,c6,c7⟩:=hav
   obtain⟨d0,d1,d2,d3,d4,d5,d6,d7⟩:=hav'
   simp only at c0 c1 c2 c3 c4 c5 c6 c7 d0 d1 d2 d3 d4 d5 d6 d7
   simp only[AnV.vals] at CON
   have HBL:=q0a hbl
   have BZ:Hid (∀o o':Obj,Below wr.heap.size wr ((wr.alloc o).alloc o')):=fun o o'=>((Below.refl _ _).alloc (Nat.le_refl _) _).alloc (by simp) _
   have q0:(0:Int)<=(k:Int):=by omega
   have q1:(k:Int)<(n:Int):=by omega
   clear hbl
   go_wp2_with (go_at_call 18;refine(CON.out _ (by exact BZ.out _ _)).mono ?_;rintro e w2 ⟨rfl,hb2⟩;have HB2:=q0a (q0e (BZ.out _ _) (Nat.le_refl _) hb2);clear hb2 CON)
   go_roundw
   case rel=>
    go_light
    exact⟨k+1,hlt,by go_num,q0e HBL.out (Nat.le_refl _) HB2.out⟩
   case measure=>simp[intOf];omega
  ·go_wp2_with fail
   go_ret
   exact⟨rfl,hbl⟩

set_option maxRecDepth 20000 in
theorem qn1{A A':Option Addr}{C C' n:Nat}{vs vs':List AnV}{ys:List An}{w:World}(h:qad w A vs ys)(h':qad w A' vs' ys)(hl:vs.length=n)(hl':vs'.length=n)(hn:n<=1000):
  Calls Tryz.prog 12 #[.slice A n C,.slice A' n C'] w fun e w'=>e=.returned (.bool true)/\Below w.heap.size w w':=by
 have CON:=q0a (qov (C:=C) (C':=C') h h' hl hl' hn)
 clear h h' hl hl'
 go_enter Tryz.func12,Tryz.ntmps12
 go_wp2_with (go_at_call 17;refine CON.out.mono ?_;rintro e w2 ⟨rfl,hb2⟩;have HB2:=q0a hb2;clear hb2 CON)
 go_ret
 exact⟨rfl,HB2.out⟩

theorem qbk{B:Nat}{w0 wr w7:World}{row:Option Nat}(h:Below B w0 wr)(hB:B<=wr.heap.size)(g:wr.grownBy w7 row)(hr:∀q,row=some q->B<=q):Below B w0 w7:=
 ⟨g.os.trans h.os,g.tape.trans h.tape,g.output.trans h.output,Nat.le_trans h.size g.size,fun k hk=>(g.block k (Nat.lt_of_lt_of_le hk hB) fun e=>by have:=hr k e.symm;omega).trans (h.block k hk)⟩

end
end Go.Proofs.YtlojfgdpmaigmahGreatDoor

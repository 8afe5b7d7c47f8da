/- engine.Run: its answers and its base in the end, by the machine. -/
import Derived.Test.YtlojfgdpmaigmafGreatDoorP51
import Derived.Deep.AppendLies
namespace Go.Proofs.YtlojfgdpmaigmafGreatDoor
open Go.RowKit Plain Go.Shelf

structure qjs(w:World)(A:Option Addr)(vs:List AnV)(ys:List An):Prop where
 row:q0j w.heap.size w A (q7f vs)
 each:∀v∈vs,v.a.R.length<=500/\q0j w.heap.size w v.A (q0d v.a.R)
 eq:vs.map AnV.a=ys

theorem qjs.up{w w':World}{A:Option Addr}{vs:List AnV}{ys:List An}(h:qjs w A vs ys)(hb:Below w.heap.size w w'):qjs w' A vs ys:=
 ⟨h.row.up hb,fun v hv=>⟨(h.each v hv).1,(h.each v hv).2.up hb⟩,h.eq⟩

def AnB(B:Nat)(w':World)(AA:Option Addr)(vs:List AnV)(Y:List An)(A:Option Addr)(C:Nat)(ss:List ByteArray)(t0 t1 t2:TR):Prop:=
 ∀w'':World,w'.heap.size<=w''.heap.size->(∀k,B<=k->k<w'.heap.size->w''.heap[k]? =w'.heap[k]?)->qjs w'' AA vs Y/\q2s w'' A C ss t0 t1 t2

def z0f(acs:List Ac)(w:World)(e:Ending)(w':World):Prop:=
 ∃(vs:List AnV) (AA:Option Addr) (CC:Nat) (A:Option Addr) (C:Nat) (t0 t1 t2:TR),e=.returned (.tuple #[.slice AA acs.length CC,.agg (q0l A C (runM mc0 mc0 acs).1.ss t0 t1 t2 (runM mc0 mc0 acs).1.f).toArray,.int .i64 0])/\
  vs.length=acs.length/\acs.length<=CC/\qjs w' AA vs (runM mc0 mc0 acs).2.2/\q2s w' A C (runM mc0 mc0 acs).1.ss t0 t1 t2/\KB (runM mc0 mc0 acs).1.ss (runM mc0 mc0 acs).1.f t0 t1 t2 (runM mc0 mc0 acs).1.pts/\Below w.heap.size w w'/\AnB w.heap.size w' AA vs (runM mc0 mc0 acs).2.2 A C (runM mc0 mc0 acs).1.ss t0 t1 t2

def Xo(rb sb:Nat)(vo:Value)(k:Nat):Prop:=k=sb\/vo.ownBlock=some k\/k<=rb

structure RnA(w wr:World)(sb:Nat)(vo:Value)(acs:List Ac)(vs:List AnV)(m s:Mc):Prop where
 below:Below w.heap.size w wr
 lo:w.heap.size<sb
 res:RowL wr w.heap.size 29 zb8
 st:StX (Xo w.heap.size sb vo) wr sb m s
 own:wr.ownsRow (sb+1) 64 8 vo vs.length (q7f vs)
 each:z4g (Xo w.heap.size sb vo) wr vs
 run:runM mc0 mc0 acs=(m,s,vs.map AnV.a)
 mp:m.pts.length<=acs.length
 sp:s.pts.length<=acs.length

theorem RnA.xlt{w wr:World}{sb:Nat}{vo:Value}{acs:List Ac}{vs:List AnV}{m s:Mc}(h:RnA w wr sb vo acs vs m s):∀k,Xo w.heap.size sb vo k->k<wr.heap.size:=by
 rintro k (rfl|hk|hk)
 ·exact h.st.lt
 ·exact(h.own.lt k hk).2
 ·exact Nat.lt_of_le_of_lt hk h.res.lt

theorem qsf(acs:List Ac)(a:Ac){m s:Mc}{ys:List An}(h:runM mc0 mc0 acs=(m,s,ys)):runM mc0 mc0 (acs++[a])=((actM m s a).1,(actM m s a).2.1,ys++[(actM m s a).2.2]):=by
 rw[qgg,h]
 rfl

theorem qpz{w w1:World}{t0 t1 t2:TR}(hb:Below (w.alloc (.cells zb8.toArray 29)).heap.size (w.alloc (.cells zb8.toArray 29)) w1)(ho:OwnB (w.heap.size+1) w1 none 0 [] t0 t1 t2)(hk:KB [] 0 t0 t1 t2 []):
  RnA w (w1.alloc (.cells (q0l none 0 [] t0 t1 t2 0++[Value.slice none 0 0]).toArray 123)) w1.heap.size (Value.slice none 0 0) [] [] mc0 mc0:=by
 have b1:Below w1.heap.size w1 (w1.alloc (.cells (q0l none 0 [] t0 t1 t2 0++[Value.slice none 0 0]).toArray 123)):=(Below.refl _ _).alloc (Nat.le_refl _) _
 have hs:w.heap.size+1<=w1.heap.size:=by simpa using hb.size
 refine⟨q0e (q0e ((Below.refl _ _).alloc (Nat.le_refl _) _) (Nat.le_refl _) hb) (Nat.le_refl _) b1,by omega,((q0b w zb8 _).below hb (by simp)).below b1 (by omega),⟨none,0,t0,t1,t2,Value.slice none 0 0,q0b w1 _ _,⟨w.heap.size+1,w1,ho,b1.size,fun k _ q=>b1.block k q,fun k q0 q hk=>?_⟩,hk,.inl ⟨rfl,rfl⟩⟩,World.ownsRow_nil _ _ _ _,fun v hv=>by simp at hv,rfl,Nat.le_refl _,Nat.le_refl _⟩
 rcases hk with rfl|hk|hk
 ·omega
 ·simp[Value.ownBlock] at hk
 ·omega

theorem q5w.or{X:Nat->Prop}{w w':World}(h:q5w X w w'):q5w (fun k=>X k\/w.heap.size<=k) w w':=⟨h.size,fun k hk hn=>h.block k hk fun e=>hn (.inl e)⟩

theorem qt9:∀(l:List Ac) {m s:Mc} {n:Nat},m.pts.length<=n->s.pts.length<=n->(runM m s l).1.pts.length<=n+l.length
 |[],_,_,_,h,_=>h
 |a::l,m,s,n,h,h'=>by
  obtain⟨h1,h2⟩:=qpp a h h'
  have:=qt9 l h1 h2
  simp only[runM,List.length_cons]
  omega

theorem StX.grow{X Y:Nat->Prop}{w w':World}{sb:Nat}{m s:Mc}(h:StX X w sb m s)(hk:q5w X w w')(hb:w'.heap[sb]? =w.heap[sb]?)(hY:∀k,Y k->X k\/w.heap.size<=k):StX Y w' sb m s:=
 ((h.more (Y:=fun k=>X k\/w.heap.size<=k) fun _ hk=>hk).keep hk.or hb).more fun k hk=>.inl (hY k hk)

theorem RowX.grow{X Y:Nat->Prop}{w w':World}{A:Option Addr}{vs:List Value}(h:RowX X w A vs)(hk:q5w X w w')(hY:∀k,Y k->X k\/w.heap.size<=k):RowX Y w' A vs:=
 ((h.more (Y:=fun k=>X k\/w.heap.size<=k) fun _ hk=>hk).keep hk.or).more fun k hk=>.inl (hY k hk)

theorem RnA.step{w wr w2 w6 w7:World}{sb g cap:Nat}{vo:Value}{acs:List Ac}{vs:List AnV}{m s:Mc}{a:Ac}{r:Mc × Mc × An}{A:Option Addr}{C:Nat}(hr:actM m s a=r)(h:RnA w wr sb vo acs vs m s)
  (hK:Kept [sb] wr w2) (hS:StX (Xo w.heap.size sb vo) w2 sb r.1 r.2.1) (hR:RowX (Xo w.heap.size sb vo) w2 A (q0d r.2.2.R)) (hl:r.2.2.R.length<=500) (h26:Below w2.heap.size w2 w6)
  (hown:w7.ownsRow (sb+1) 64 8 (.slice (some ⟨g,0,none⟩) (vs.length+1) cap) (vs.length+1) (q7f vs++q7f [⟨r.2.2,A,C⟩])) (hg:w6.grownBy w7 vo.ownBlock) (hat:vo.ownBlock=some g\/w6.heap.size<=g):
  RnA w w7 sb (.slice (some ⟨g,0,none⟩) (vs.length+1) cap) (acs++[a]) (vs++[⟨r.2.2,A,C⟩]) r.1 r.2.1:=by
 have hlo:=h.lo
 have hsz:=hK.size
 have hs6:=h26.size
 have hslt:=h.st.lt
 have k2:q5w (Xo w.heap.size sb vo) wr w2:=q5w.of_kept hK fun k hk=>by
  simp only[List.mem_singleton] at hk
  exact .inl hk
 have k6:q5w (Xo w.heap.size sb vo) w2 w6:=q5w.of_below h26
 have k7:q5w (Xo w.heap.size sb vo) w6 w7:=⟨hg.size,fun k hk hn=>hg.block k hk fun e=>hn (.inr (.inl e.symm))⟩
 have hsb7:w7.heap[sb]? =w6.heap[sb]? :=hg.block sb (by omega) fun e=>by
  have:=(h.own.lt sb e.symm).1
  omega
 have hY:∀k,Xo w.heap.size sb (Value.slice (some ⟨g,0,none⟩) (vs.length+1) cap) k->Xo w.heap.size sb vo k\/w6.heap.size<=k:=by
  rintro k (rfl|hk|hk)
  ·exact .inl (.inl rfl)
  ·have:g=k:=by simpa [Value.ownBlock] using hk
   subst this
   rcases hat with e|e
   ·exact .inl (.inr (.inl e))
   ·exact .inr e
  ·exact .inl (.inr (.inr hk))
 have b2:Below w.heap.size w w2:=h.below.trans (hK.below h.below.size (by simpa using Nat.le_of_lt hlo))
 have b6:Below w.heap.size w w6:=q0e b2 (Nat.le_refl _) h26
 have b7:Below w.heap.size w w7:=⟨hg.os.trans b6.os,hg.tape.trans b6.tape,hg.output.trans b6.output,Nat.le_trans b6.size hg.size,fun k hk=>(hg.block k (Nat.lt_of_lt_of_le hk b6.size) fun e=>by
  have:=(h.own.lt k e.symm).1
  omega).trans (b6.block k hk)⟩
 obtain⟨l1,l2⟩:=qpp a h.mp h.sp
 rw[hr] at l1 l2
 have e:vs.length+1=(vs++[(⟨r.2.2,A,C⟩:AnV)]).length:=by simp
 have hr2:RowL w2 w.heap.size 29 zb8:=h.res.of_block (hK.block _ h.res.lt (by simp;omega))
 have hr7:RowL w7 w.heap.size 29 zb8:=(hr2.below h26 hr2.lt).of_block (hg.block _ (hr2.below h26 hr2.lt).lt (fun e=>by have:=(h.own.lt _ e.symm).1;omega))
 refine⟨b7,hlo,hr7,(hS.next h26).grow k7 hsb7 hY,?_,fun v hv=>?_,?_,?_,?_⟩
 ·rw[qca,<-e]
  exact hown
 ·rcases List.mem_append.1 hv with hv|hv
  ·exact⟨(h.each v hv).1,(((h.each v hv).2.keep k2).keep k6).grow k7 hY⟩
  ·obtain rfl:v=⟨r.2.2,A,C⟩:=by simpa using hv
   exact⟨hl,(hR.keep k6).grow k7 hY⟩
 ·rw[qsf acs a h.run,hr]
  simp
 ·rw[List.length_append];exact l1
 ·rw[List.length_append];exact l2

theorem RnA.fin{w wr:World}{sb:Nat}{vo:Value}{acs:List Ac}{vs:List AnV}{m s:Mc}(h:RnA w wr sb vo acs vs m s):∃AA CC,vo=.slice AA vs.length CC/\vs.length<=CC:=by
 obtain⟨AA,CC,rfl,_,hc,_,hr⟩:=q0h h.own
 exact⟨AA,CC,rfl,hc⟩

theorem RnA.fin2{w wr w':World}{sb CC:Nat}{AA A:Option Addr}{C:Nat}{t0 t1 t2:TR}{K:Value}{acs:List Ac}{vs:List AnV}{m s:Mc}(h:RnA w wr sb (.slice AA vs.length CC) acs vs m s)(st:StAt (Xo w.heap.size sb (.slice AA vs.length CC)) wr sb m s A C t0 t1 t2 K)(hs:wr.heap.size<=w'.heap.size)(hk:∀k,k<wr.heap.size->w.heap.size<k->w'.heap[k]? =wr.heap[k]?):
  qjs w' AA vs (runM mc0 mc0 acs).2.2/\q2s w' A C m.ss t0 t1 t2:=by
 have hlo:=h.lo
 have kx:q5w (Xo w.heap.size sb (.slice AA vs.length CC)) wr w':=⟨hs,fun k q hn=>hk k q (Nat.lt_of_not_le fun e=>hn (.inr (.inr e)))⟩
 have ho:=q0c (w':=w') h.own fun k q=>hk k (h.own.lt k q).2 (by have:=(h.own.lt k q).1;omega)
 obtain⟨A',C',e,_,_,_,hr⟩:=q0h ho
 cases e
 exact⟨⟨hr,fun v hv=>⟨(h.each v hv).1,((h.each v hv).2.keep kx).row⟩,by rw[h.run]⟩,(st.aw.keep kx).at st.kb⟩

theorem RnA.next{w wr w':World}{sb:Nat}{vo:Value}{acs:List Ac}{vs:List AnV}{m s:Mc}(h:RnA w wr sb vo acs vs m s)(hb:Below wr.heap.size wr w'):RnA w w' sb vo acs vs m s:=
 ⟨q0e h.below (Nat.le_refl _) hb,h.lo,h.res.below hb h.res.lt,h.st.next hb,q0c h.own fun k hk=>hb.block k (h.own.lt k hk).2,fun v hv=>⟨(h.each v hv).1,(h.each v hv).2.keep (.of_below hb)⟩,h.run,h.mp,h.sp⟩

theorem RnA.len{w wr:World}{sb:Nat}{vo:Value}{acs:List Ac}{vs:List AnV}{m s:Mc}(h:RnA w wr sb vo acs vs m s):vs.length=acs.length:=by
 have:=qgt acs mc0 mc0
 rw[h.run] at this
 simpa using this

theorem qpv(w:World)(b:Nat)(x0 x1 x2 x3 x4 x5 x6 x7:Value):w.heap.size<=(set8 w b x0 x1 x2 x3 x4 x5 x6 x7).drew.heap.size/\∀k,k<w.heap.size->k≠b->(set8 w b x0 x1 x2 x3 x4 x5 x6 x7).drew.heap[k]? =w.heap[k]? :=by
 have h:∀W:World,W.drew.heap=W.heap:=fun _=>rfl
 obtain⟨W,hW⟩:∃W,set8 w b x0 x1 x2 x3 x4 x5 x6 x7=W:=⟨_,rfl⟩
 have h1:=qds w b x0 x1 x2 x3 x4 x5 x6 x7
 have h2:=q1q w b x0 x1 x2 x3 x4 x5 x6 x7
 rw[hW] at h1 h2 ⊢
 exact⟨by rw[h,h1];exact Nat.le_refl _,fun k _ hk=>by rw[h];exact h2 k hk⟩

theorem z0o:(Tryz.prog.info? 64).map (fun i=>(i.zero,i.size,i.bytes))=some (some (.agg #[.int .i64 0,.int .i64 0,.int .i64 0,.int .i64 0,.int .i64 0,.int .i64 0,.int .i64 0,.slice none 0 0]),8,80):=by kernel_rfl

theorem z3q{w:World}{vb:Nat}{t:TypeId}{x:AnV}(hv:RowL w vb t x.vals):∀j u,(q7f [x])[j]? =some u->w.cell? (Addr.add ⟨vb,0,none⟩ j)=some u:=by
 intro j u hu
 rw[WideShapes.add_plain,Nat.zero_add,hv.cell]
 simpa [q7f] using hu

set_option maxRecDepth 20000 in
set_option maxHeartbeats 2000000 in
theorem qy5(LA:Option Addr)(LC:Nat)(acs:List Ac)(w:World)(hZ:SzAt w)(hA:q0j w.heap.size w LA (q1v acs))(hs:∀a∈acs,a.s.size<=140737488351232)(hn:acs.length<=500):
  Calls Tryz.prog 21 #[.slice LA acs.length LC] w (z0f acs w):=by
 obtain⟨i0,hi0,hz0,hz1,hz2⟩:=info_parts z0o
 have HZ:=q0a hZ
 have HA:=q0a hA
 have HS:=q0a hs
 have hn':¬(500:Int)<(acs.length:Int):=by omega
 clear hZ hA hs
 go_enter Tryz.func21,Tryz.ntmps21
 go_wp2_with (first|(go_at_call 50;refine(qpn _).mono ?_;rintro e w1 ⟨u0,u1,u2,he,ho,hk,hb⟩;have HR:=q0a (qpz hb (by simpa using ho) hk);clear ho hk hb;obtain⟨A0,C0,p0,r0⟩:=u0;obtain⟨A1,C1,p1,r1⟩:=u1;obtain⟨A2,C2,p2,r2⟩:=u2;simp only[q0l] at he;subst he))
 obtain⟨sb,hsb⟩:∃sb,sb=w1.heap.size:=⟨_,rfl⟩
 simp only[q0l,List.cons_append,List.nil_append] at HR
 rw[<-hsb] at HR ⊢
 clear hsb
 go_loopw [6,17] (fun vo vi wr=>∃(k:Nat) (vs:List AnV) (m s:Mc),k<=acs.length/\vi=.int .i64 (k:Int)/\RnA w wr sb vo (acs.take k) vs m s) (fun _ vi _=>acs.length-(intOf vi).toNat)
 case atStart=>exact⟨0,[],mc0,mc0,Nat.zero_le _,rfl,HR.out⟩
 case round=>
  obtain⟨k,vs,m,s,hk,rfl,hat⟩:=hrel
  clear HR
  have hge:=hat.below.size
  have hlo:=hat.lo
  have hvl:vs.length=k:=by rw[hat.len,List.length_take];omega
  by_cases hlt:k<acs.length
  ·obtain⟨b,o,rfl,hbb,hcc⟩:=(HA.out.below hat.below (Nat.le_refl _)).ac6 hlt
   have htk:Hid (acs.take (k+1)=acs.take k++[acs[k]]):=List.take_succ_eq_append_getElem hlt
   have hsz:=HS.out _ (List.getElem_mem hlt)
   have hlk:(acs.take k).length=k:=by rw[List.length_take];omega
   obtain⟨at1,hat1⟩:∃at1,acs.take k=at1:=⟨_,rfl⟩
   rw[hat1] at htk hat hlk
   clear hat1
   generalize acs[k]=a at *
   have hmp:=hat.mp
   have con:=q0a fun W (hW:Below wr.heap.size wr W)=>z0k (HZ.out.below (q0e hat.below (Nat.le_refl _) hW)) (.inl rfl) (fun q hq=>(hat.next hW).xlt q hq) ((hat.next hW).st) a hsz (by omega)
   have hvl':vs.length=k:=by rw[hat.len];exact hlk
   obtain⟨am,ham⟩:∃am,actM m s a=am:=⟨_,rfl⟩
   have HAM:=q0a ham
   rw[ham] at con
   clear ham
   obtain⟨m',s',⟨yc,⟨y0,y1,y2,y3,y4,y5⟩,R⟩⟩:=am
   obtain⟨ak,as',at',az,an,av⟩:=a
   obtain⟨c0,c1,c2,c3,c4,c5⟩:=hcc
   simp only at c0 c1 c2 c3 c4 c5 con hsz
   have HT:=q0a hat
   clear hat hmp hvl
   have lbr:b<wr.heap.size:=by omega
   have q0:(0:Int)<=(k:Int):=by omega
   have q1:(k:Int)<(acs.length:Int):=by omega
   have hb1:∀o:Obj,Below wr.heap.size wr (wr.alloc o):=fun o=>(Below.refl _ _).alloc (Nat.le_refl _) o
   have hszr:=HT.out.below.size
   have hsbl:=HT.out.st.lt
   go_upto_region 9 with(first
    |(go_at_call 68;refine(con.out _ (by with_reducible exact hb1 _)).mono ?_;rintro e w2 ⟨A2,C2,he,hK,hS,hR,hl⟩;simp only[ansV] at he;subst he;have HK:=q0a hK;have HS2:=q0a hS;have HR2:=q0a hR;have HL2:=q0a hl;have HO2:=q0a (qar (HT.out.next (hb1 _)).own hK (Nat.lt_succ_self _));have hs2:=hK.size;clear hK hS hR hl con)
    |(at_builtin;refine wpList_append_lies _ rfl _ _ 57 rfl (sb+1) 64 i0 _ 8 80 Tryz.underlying57 hi0 hz0 hz1 hz2 rfl (by decide) u6 vs.length (q7f vs) rfl (q2c HO2.out ((Below.refl _ _).alloc (Nat.le_refl _) _)) ⟨w2.heap.size,0,none⟩ 1 1 (q7f [⟨⟨yc,⟨y0,y1,y2,y3,y4,y5⟩,R⟩,A2,C2⟩]) rfl (q9g _) (z3q (x:=⟨⟨yc,⟨y0,y1,y2,y3,y4,y5⟩,R⟩,A2,C2⟩) (q0b w2 _ _)) (qt1 _) (by decide) (by unfold maxLen;omega) (by omega) (by simp at hs2 ⊢;omega) (w2.heap.size+1) (by simp) ?_;intro g cap w7 hown7 hgrow7 hat7 hlt7;have HG:=q0a (And.intro hown7 (And.intro hgrow7 hat7));clear hown7 hgrow7 hat7))
   go_wp2_with fail
   go_roundw
   case rel=>
    go_light
    have hG:=HG.out
    have h7:=RnA.step (A:=A2) (C:=C2) HAM.out (HT.out.next (hb1 (.cells #[.int .i64 ak,.string as',.int .i64 at',.int .i64 az,.int .i64 an,.int .i64 av] 68))) HK.out HS2.out HR2.out HL2.out ((Below.refl _ _).alloc (Nat.le_refl _) _) hG.1 hG.2.1 (by
     rcases hG.2.2 with e|e
     ·exact .inl e
     ·right
      rw[e]
      simp)
    refine⟨k+1,vs++[⟨⟨yc,⟨y0,y1,y2,y3,y4,y5⟩,R⟩,A2,C2⟩],m',s',by omega,by go_num,?_⟩
    rw[htk.out]
    rw[hvl'] at h7
    exact h7
   case measure=>simp[intOf];omega
  ·have hkk:k=acs.length:=by omega
   obtain⟨AA,CC,rfl,hcc⟩:=hat.fin
   have hx:=hat.st
   obtain⟨A,C,t0,t1,t2,K,hst⟩:=hx
   have b0:=fun j=>hst.box.cell j
   have r0':=fun j=>hat.res.cell j
   have rf:=fun j=>hat.res.frozen j
   have rl:=hat.res.lt
   have sl:=hst.box.lt
   have HST:=q0a hst
   have HT:=q0a hat
   have HCC:=q0a hcc
   have htk:acs.take k=acs:=by rw[hkk];exact List.take_length
   have HTK:=q0a htk
   have HVL:=q0a hvl
   have hne:¬w.heap.size=sb:=by omega
   clear hst hat hcc htk hvl
   obtain⟨A3,C3,q0,z0⟩:=t0
   obtain⟨A4,C4,q1,z1⟩:=t1
   obtain⟨A5,C5,q2,z2⟩:=t2
   simp only[q0l,zb8,List.cons_append,List.nil_append] at b0 r0'
   go_wp2_with fail
   go_region
   all_goals go_wp2_with fail
   have hv2:vs.length=acs.length:=by rw[HVL.out,hkk]
   refine bodyPost_ret (v:=.tuple #[.slice AA vs.length CC,.agg #[.slice A m.ss.length C,.slice A3 q0.length C3,.int .i64 z0,.slice A4 q1.length C4,.int .i64 z1,.slice A5 q2.length C5,.int .i64 z2,.int .i64 m.f],.int .i64 0]) (by simp[results,Tryz.results21,go_sem,r0']) rfl ?_
   have hrun:=HT.out.run
   rw[HTK.out] at hrun
   have hew:=qpv wr w.heap.size (.slice A m.ss.length C) (.slice A3 q0.length C3) (.int .i64 z0) (.slice A4 q1.length C4) (.int .i64 z1) (.slice A5 q2.length C5) (.int .i64 z2) (.int .i64 m.f)
   have hfull:=fun(w'':World) h1 h2=>HT.out.fin2 (w':=w'') HST.out h1 h2
   have hend:=hfull _ hew.1 (fun k q1 q2=>hew.2 k q1 (by omega))
   have hanb:AnB w.heap.size (set8 wr w.heap.size (.slice A m.ss.length C) (.slice A3 q0.length C3) (.int .i64 z0) (.slice A4 q1.length C4) (.int .i64 z1) (.slice A5 q2.length C5) (.int .i64 z2) (.int .i64 m.f)).drew AA vs (runM mc0 mc0 acs).2.2 A C m.ss ⟨A3,C3,q0,z0⟩ ⟨A4,C4,q1,z1⟩ ⟨A5,C5,q2,z2⟩:=fun w'' k1 k2=>by
    have:=hfull w'' (Nat.le_trans hew.1 k1) (fun k q1 q2=>(k2 k (by omega) (Nat.lt_of_lt_of_le q1 hew.1)).trans (hew.2 k q1 (by omega)))
    rw[HTK.out] at this
    exact this
   simp only[set8] at hend hanb
   rw[HTK.out] at hend
   have e1:(runM mc0 mc0 acs).1=m:=by rw[hrun]
   unfold z0f
   rw[e1]
   refine⟨vs,AA,CC,A,C,⟨A3,C3,q0,z0⟩,⟨A4,C4,q1,z1⟩,⟨A5,C5,q2,z2⟩,by rw[hv2];rfl,hv2,by have:=HCC.out;omega,hend.1,hend.2,HST.out.kb,?_,hanb⟩
   exact(qad HT.out.below (Nat.le_refl _) _ _ _ _ _ _ _ _).drew

def RunM(M:Mc)(Y:List An)(n:Nat)(w:World)(e:Ending)(w':World):Prop:=
 ∃(vs:List AnV) (AA:Option Addr) (CC:Nat) (A:Option Addr) (C:Nat) (t0 t1 t2:TR),e=.returned (.tuple #[.slice AA n CC,.agg (q0l A C M.ss t0 t1 t2 M.f).toArray,.int .i64 0])/\
  vs.length=n/\n<=CC/\qjs w' AA vs Y/\q2s w' A C M.ss t0 t1 t2/\KB M.ss M.f t0 t1 t2 M.pts/\Below w.heap.size w w'/\AnB w.heap.size w' AA vs Y A C M.ss t0 t1 t2

theorem z1r{LA:Option Addr}{LC:Nat}{acs:List Ac}{w:World}{M S:Mc}{Y:List An}(h:runM mc0 mc0 acs=(M,S,Y))(hZ:SzAt w)(hA:q0j w.heap.size w LA (q1v acs))(hs:∀a∈acs,a.s.size<=140737488351232)(hn:acs.length<=500):
  Calls Tryz.prog 21 #[.slice LA acs.length LC] w (RunM M Y acs.length w):=
 (qy5 LA LC acs w hZ hA hs hn).mono fun e w' hr=>by
  unfold z0f at hr
  rw[h] at hr
  exact hr

end Go.Proofs.YtlojfgdpmaigmafGreatDoor

/- engine.Run: its answers and its base in the end, by the machine. -/
import Derived.Test.YtlojfgdpmaigmagGreatDoorP52
import Derived.Deep.AppendLies
import Derived.Test.YtlojfgdpmaigmagGreatDoorP26
import Derived.Test.YtlojfgdpmaigmagGreatDoorP22
import Derived.Test.YtlojfgdpmaigmagGreatDoorActsWalk
import Derived.Test.YtlojfgdpmaigmagGreatDoorP51
namespace Go.Proofs.YtlojfgdpmaigmagGreatDoor
section
open Go.RowKit Plain Go.Shelf

structure mX(w:World)(A:Option Addr)(vs:List AnV)(ys:List An):Prop where
 row:aH w.heap.size w A (fQ vs)
 each:∀v∈vs,v.a.R.length<=500/\aH w.heap.size w v.A (aB v.a.R)
 eq:vs.map AnV.a=ys

theorem mX.up{w w':World}{A:Option Addr}{vs:List AnV}{ys:List An}(h:mX w A vs ys)(hb:Below w.heap.size w w'):mX w' A vs ys:=
 ⟨h.row.up hb,fun v hv=>⟨(h.each v hv).1,(h.each v hv).2.up hb⟩,h.eq⟩

def AnB(B:Nat)(w':World)(AA:Option Addr)(vs:List AnV)(Y:List An)(A:Option Addr)(C:Nat)(ss:List ByteArray)(t0 t1 t2:TR):Prop:=
 ∀w'':World,w'.heap.size<=w''.heap.size->(∀k,B<=k->k<w'.heap.size->w''.heap[k]? =w'.heap[k]?)->mX w'' AA vs Y/\dU w'' A C ss t0 t1 t2

def qon(acs:List Ac)(w:World)(e:Ending)(w':World):Prop:=
 ∃(vs:List AnV) (AA:Option Addr) (CC:Nat) (A:Option Addr) (C:Nat) (t0 t1 t2:TR),e=.returned (.tuple #[.slice AA acs.length CC,.agg (aJ A C (runM mc0 mc0 acs).1.ss t0 t1 t2 (runM mc0 mc0 acs).1.f).toArray,.int .i64 0])/\
  vs.length=acs.length/\acs.length<=CC/\mX w' AA vs (runM mc0 mc0 acs).2.2/\dU w' A C (runM mc0 mc0 acs).1.ss t0 t1 t2/\KB (runM mc0 mc0 acs).1.ss (runM mc0 mc0 acs).1.f t0 t1 t2 (runM mc0 mc0 acs).1.pts/\Below w.heap.size w w'/\AnB w.heap.size w' AA vs (runM mc0 mc0 acs).2.2 A C (runM mc0 mc0 acs).1.ss t0 t1 t2

def Xo(rb sb:Nat)(vo:Value)(k:Nat):Prop:=k=sb\/vo.ownBlock=some k\/k<=rb

structure RnA(w wr:World)(sb:Nat)(vo:Value)(acs:List Ac)(vs:List AnV)(m s:Mc):Prop where
 below:Below w.heap.size w wr
 lo:w.heap.size<sb
 res:RowL wr w.heap.size 35 zb8
 st:StX (Xo w.heap.size sb vo) wr sb m s
 own:wr.ownsRow (sb+1) 45 8 vo vs.length (fQ vs)
 each:qrz (Xo w.heap.size sb vo) wr vs
 run:runM mc0 mc0 acs=(m,s,vs.map AnV.a)
 mp:m.pts.length<=acs.length
 sp:s.pts.length<=acs.length

theorem RnA.xlt{w wr:World}{sb:Nat}{vo:Value}{acs:List Ac}{vs:List AnV}{m s:Mc}(h:RnA w wr sb vo acs vs m s):∀k,Xo w.heap.size sb vo k->k<wr.heap.size:=by
 rintro k (rfl|hk|hk)
 ·exact h.st.lt
 ·exact(h.own.lt k hk).2
 ·exact Nat.lt_of_le_of_lt hk h.res.lt

theorem qfe(acs:List Ac)(a:Ac){m s:Mc}{ys:List An}(h:runM mc0 mc0 acs=(m,s,ys)):runM mc0 mc0 (acs++[a])=((actM m s a).1,(actM m s a).2.1,ys++[(actM m s a).2.2]):=by
 rw[q4p,h]
 rfl

theorem qi0{w w1:World}{t0 t1 t2:TR}(hb:Below (w.alloc (.cells zb8.toArray 35)).heap.size (w.alloc (.cells zb8.toArray 35)) w1)(ho:OwnB (w.heap.size+1) w1 none 0 [] t0 t1 t2)(hk:KB [] 0 t0 t1 t2 []):
  RnA w (w1.alloc (.cells (aJ none 0 [] t0 t1 t2 0++[Value.slice none 0 0]).toArray 85)) w1.heap.size (Value.slice none 0 0) [] [] mc0 mc0:=by
 have b1:Below w1.heap.size w1 (w1.alloc (.cells (aJ none 0 [] t0 t1 t2 0++[Value.slice none 0 0]).toArray 85)):=(Below.refl _ _).alloc (Nat.le_refl _) _;have hs:w.heap.size+1<=w1.heap.size:=by simpa using hb.size
 refine⟨aC (aC ((Below.refl _ _).alloc (Nat.le_refl _) _) (Nat.le_refl _) hb) (Nat.le_refl _) b1,by omega,((aG w zb8 _).below hb (by simp)).below b1 (by omega),⟨none,0,t0,t1,t2,Value.slice none 0 0,aG w1 _ _,⟨w.heap.size+1,w1,ho,b1.size,fun k _ q=>b1.block k q,fun k q0 q hk=>?_⟩,hk,.inl ⟨rfl,rfl⟩⟩,World.ownsRow_nil _ _ _ _,fun v hv=>by simp at hv,rfl,Nat.le_refl _,Nat.le_refl _⟩
 rcases hk with rfl|hk|hk
 ·omega
 ·simp[Value.ownBlock] at hk
 ·omega

theorem fE.or{X:Nat->Prop}{w w':World}(h:fE X w w'):fE (fun k=>X k\/w.heap.size<=k) w w':=⟨h.size,fun k hk hn=>h.block k hk fun e=>hn (.inl e)⟩

theorem StX.grow{X Y:Nat->Prop}{w w':World}{sb:Nat}{m s:Mc}(h:StX X w sb m s)(hk:fE X w w')(hb:w'.heap[sb]? =w.heap[sb]?)(hY:∀k,Y k->X k\/w.heap.size<=k):StX Y w' sb m s:=
 ((h.more (Y:=fun k=>X k\/w.heap.size<=k) fun _ hk=>hk).keep hk.or hb).more fun k hk=>.inl (hY k hk)

theorem RowX.grow{X Y:Nat->Prop}{w w':World}{A:Option Addr}{vs:List Value}(h:RowX X w A vs)(hk:fE X w w')(hY:∀k,Y k->X k\/w.heap.size<=k):RowX Y w' A vs:=
 ((h.more (Y:=fun k=>X k\/w.heap.size<=k) fun _ hk=>hk).keep hk.or).more fun k hk=>.inl (hY k hk)

theorem RnA.step{w wr w2 w6 w7:World}{sb g cap:Nat}{vo:Value}{acs:List Ac}{vs:List AnV}{m s:Mc}{a:Ac}{r:Mc × Mc × An}{A:Option Addr}{C:Nat}(hr:actM m s a=r)(h:RnA w wr sb vo acs vs m s)
  (hK:Kept [sb] wr w2) (hS:StX (Xo w.heap.size sb vo) w2 sb r.1 r.2.1) (hR:RowX (Xo w.heap.size sb vo) w2 A (aB r.2.2.R)) (hl:r.2.2.R.length<=500) (h26:Below w2.heap.size w2 w6)
  (hown:w7.ownsRow (sb+1) 45 8 (.slice (some ⟨g,0,none⟩) (vs.length+1) cap) (vs.length+1) (fQ vs++fQ [⟨r.2.2,A,C⟩])) (hg:w6.grownBy w7 vo.ownBlock) (hat:vo.ownBlock=some g\/w6.heap.size<=g):
  RnA w w7 sb (.slice (some ⟨g,0,none⟩) (vs.length+1) cap) (acs++[a]) (vs++[⟨r.2.2,A,C⟩]) r.1 r.2.1:=by
 have hlo:=h.lo;have hsz:=hK.size;have hs6:=h26.size;have hslt:=h.st.lt
 have k2:fE (Xo w.heap.size sb vo) wr w2:=fE.of_kept hK fun k hk=>by
  simp only[List.mem_singleton] at hk;exact .inl hk
 have k6:fE (Xo w.heap.size sb vo) w2 w6:=fE.of_below h26;have k7:fE (Xo w.heap.size sb vo) w6 w7:=⟨hg.size,fun k hk hn=>hg.block k hk fun e=>hn (.inr (.inl e.symm))⟩
 have hsb7:w7.heap[sb]? =w6.heap[sb]? :=hg.block sb (by omega) fun e=>by
  have:=(h.own.lt sb e.symm).1;omega
 have hY:∀k,Xo w.heap.size sb (Value.slice (some ⟨g,0,none⟩) (vs.length+1) cap) k->Xo w.heap.size sb vo k\/w6.heap.size<=k:=by
  rintro k (rfl|hk|hk)
  ·exact .inl (.inl rfl)
  ·have:g=k:=by simpa [Value.ownBlock] using hk
   subst this;rcases hat with e|e
   ·exact .inl (.inr (.inl e))
   ·exact .inr e
  ·exact .inl (.inr (.inr hk))
 have b2:Below w.heap.size w w2:=h.below.trans (hK.below h.below.size (by simpa using Nat.le_of_lt hlo))
 have b6:Below w.heap.size w w6:=aC b2 (Nat.le_refl _) h26
 have b7:Below w.heap.size w w7:=⟨hg.os.trans b6.os,hg.tape.trans b6.tape,hg.output.trans b6.output,Nat.le_trans b6.size hg.size,fun k hk=>(hg.block k (Nat.lt_of_lt_of_le hk b6.size) fun e=>by
  have:=(h.own.lt k e.symm).1;omega).trans (b6.block k hk)⟩
 obtain⟨l1,l2⟩:=qms a h.mp h.sp;rw[hr] at l1 l2;have e:vs.length+1=(vs++[(⟨r.2.2,A,C⟩:AnV)]).length:=by simp
 have hr2:RowL w2 w.heap.size 35 zb8:=h.res.of_block (hK.block _ h.res.lt (by simp;omega))
 have hr7:RowL w7 w.heap.size 35 zb8:=(hr2.below h26 hr2.lt).of_block (hg.block _ (hr2.below h26 hr2.lt).lt (fun e=>by have:=(h.own.lt _ e.symm).1;omega))
 refine⟨b7,hlo,hr7,(hS.next h26).grow k7 hsb7 hY,?_,fun v hv=>?_,?_,?_,?_⟩
 ·rw[q0p,<-e];exact hown
 ·rcases List.mem_append.1 hv with hv|hv
  ·exact⟨(h.each v hv).1,(((h.each v hv).2.keep k2).keep k6).grow k7 hY⟩
  ·obtain rfl:v=⟨r.2.2,A,C⟩:=by simpa using hv
   exact⟨hl,(hR.keep k6).grow k7 hY⟩
 ·rw[qfe acs a h.run,hr];simp
 ·rw[List.length_append];exact l1
 ·rw[List.length_append];exact l2

theorem RnA.fin{w wr:World}{sb:Nat}{vo:Value}{acs:List Ac}{vs:List AnV}{m s:Mc}(h:RnA w wr sb vo acs vs m s):∃AA CC,vo=.slice AA vs.length CC/\vs.length<=CC:=by
 obtain⟨AA,CC,rfl,_,hc,_,hr⟩:=aN h.own;exact⟨AA,CC,rfl,hc⟩

theorem RnA.fin2{w wr w':World}{sb CC:Nat}{AA A:Option Addr}{C:Nat}{t0 t1 t2:TR}{K:Value}{acs:List Ac}{vs:List AnV}{m s:Mc}(h:RnA w wr sb (.slice AA vs.length CC) acs vs m s)(st:StAt (Xo w.heap.size sb (.slice AA vs.length CC)) wr sb m s A C t0 t1 t2 K)(hs:wr.heap.size<=w'.heap.size)(hk:∀k,k<wr.heap.size->w.heap.size<k->w'.heap[k]? =wr.heap[k]?):
  mX w' AA vs (runM mc0 mc0 acs).2.2/\dU w' A C m.ss t0 t1 t2:=by
 have hlo:=h.lo;have kx:fE (Xo w.heap.size sb (.slice AA vs.length CC)) wr w':=⟨hs,fun k q hn=>hk k q (Nat.lt_of_not_le fun e=>hn (.inr (.inr e)))⟩
 have ho:=aW (w':=w') h.own fun k q=>hk k (h.own.lt k q).2 (by have:=(h.own.lt k q).1;omega)
 obtain⟨A',C',e,_,_,_,hr⟩:=aN ho;cases e;exact⟨⟨hr,fun v hv=>⟨(h.each v hv).1,((h.each v hv).2.keep kx).row⟩,by rw[h.run]⟩,(st.aw.keep kx).at st.kb⟩

theorem RnA.next{w wr w':World}{sb:Nat}{vo:Value}{acs:List Ac}{vs:List AnV}{m s:Mc}(h:RnA w wr sb vo acs vs m s)(hb:Below wr.heap.size wr w'):RnA w w' sb vo acs vs m s:=
 ⟨aC h.below (Nat.le_refl _) hb,h.lo,h.res.below hb h.res.lt,h.st.next hb,aW h.own fun k hk=>hb.block k (h.own.lt k hk).2,fun v hv=>⟨(h.each v hv).1,(h.each v hv).2.keep (.of_below hb)⟩,h.run,h.mp,h.sp⟩

theorem RnA.len{w wr:World}{sb:Nat}{vo:Value}{acs:List Ac}{vs:List AnV}{m s:Mc}(h:RnA w wr sb vo acs vs m s):vs.length=acs.length:=by
 have:=q4y acs mc0 mc0;rw[h.run] at this
 simpa using this

theorem q7g(w:World)(b:Nat)(x0 x1 x2 x3 x4 x5 x6 x7:Value):w.heap.size<=(set8 w b x0 x1 x2 x3 x4 x5 x6 x7).drew.heap.size/\∀k,k<w.heap.size->k≠b->(set8 w b x0 x1 x2 x3 x4 x5 x6 x7).drew.heap[k]? =w.heap[k]? :=by
 have h:∀W:World,W.drew.heap=W.heap:=fun _=>rfl
 obtain⟨W,hW⟩:∃W,set8 w b x0 x1 x2 x3 x4 x5 x6 x7=W:=⟨_,rfl⟩;have h1:=q2e w b x0 x1 x2 x3 x4 x5 x6 x7;have h2:=fM w b x0 x1 x2 x3 x4 x5 x6 x7;rw[hW] at h1 h2 ⊢;exact⟨by rw[h,h1];exact Nat.le_refl _,fun k _ hk=>by rw[h];exact h2 k hk⟩

theorem qq3:(Tryz.prog.info? 45).map (fun i=>(i.zero,i.size,i.bytes))=some (some (.agg #[.int .i64 0,.int .i64 0,.int .i64 0,.int .i64 0,.int .i64 0,.int .i64 0,.int .i64 0,.slice none 0 0]),8,80):=by kernel_rfl

theorem qry{w:World}{vb:Nat}{t:TypeId}{x:AnV}(hv:RowL w vb t x.vals):∀j u,(fQ [x])[j]? =some u->w.cell? (Addr.add ⟨vb,0,none⟩ j)=some u:=by
 intro j u hu;rw[WideShapes.add_plain,Nat.zero_add,hv.cell]
 simpa [fQ] using hu

set_option maxRecDepth 20000 in
set_option maxHeartbeats 2000000 in
theorem qoq(LA:Option Addr)(LC:Nat)(acs:List Ac)(w:World)(hZ:SzAt w)(hA:aH w.heap.size w LA (aS acs))(hs:∀a∈acs,a.s.size<=140737488351232)(hn:acs.length<=500):
  Calls Tryz.prog 23 #[.slice LA acs.length LC] w (qon acs w):=by
 obtain⟨i0,hi0,hz0,hz1,hz2⟩:=info_parts qq3;have HZ:=aA hZ;have HA:=aA hA;have HS:=aA hs;have hn':¬(500:Int)<(acs.length:Int):=by omega
 clear hZ hA hs
 go_enter Tryz.func23,Tryz.ntmps23
 go_wp2_with (first|(go_at_call 38;refine(qf7 _).mono ?_;rintro e w1 ⟨u0,u1,u2,he,ho,hk,hb⟩;have HR:=aA (qi0 hb (by simpa using ho) hk);clear ho hk hb;obtain⟨A0,C0,p0,r0⟩:=u0;obtain⟨A1,C1,p1,r1⟩:=u1;obtain⟨A2,C2,p2,r2⟩:=u2;simp only[aJ] at he;subst he))
 obtain⟨sb,hsb⟩:∃sb,sb=w1.heap.size:=⟨_,rfl⟩;simp only[aJ,List.cons_append,List.nil_append] at HR;rw[<-hsb] at HR ⊢;clear hsb
 go_loopw [6,17] (fun vo vi wr=>∃(k:Nat) (vs:List AnV) (m s:Mc),k<=acs.length/\vi=.int .i64 (k:Int)/\RnA w wr sb vo (acs.take k) vs m s) (fun _ vi _=>acs.length-(intOf vi).toNat)
 case atStart=>exact⟨0,[],mc0,mc0,Nat.zero_le _,rfl,HR.out⟩
 case round=>
  obtain⟨k,vs,m,s,hk,rfl,hat⟩:=hrel;clear HR;have hge:=hat.below.size;have hlo:=hat.lo;have hvl:vs.length=k:=by rw[hat.len,List.length_take];omega
  by_cases hlt:k<acs.length
  ·obtain⟨b,o,rfl,hbb,hcc⟩:=(HA.out.below hat.below (Nat.le_refl _)).ac6 hlt;have htk:Hid (acs.take (k+1)=acs.take k++[acs[k]]):=List.take_succ_eq_append_getElem hlt;have hsz:=HS.out _ (List.getElem_mem hlt);have hlk:(acs.take k).length=k:=by rw[List.length_take];omega
   obtain⟨at1,hat1⟩:∃at1,acs.take k=at1:=⟨_,rfl⟩;rw[hat1] at htk hat hlk;clear hat1;generalize acs[k]=a at *;have hmp:=hat.mp;have con:=aA fun W (hW:Below wr.heap.size wr W)=>qqc (HZ.out.below (aC hat.below (Nat.le_refl _) hW)) (.inl rfl) (fun q hq=>(hat.next hW).xlt q hq) ((hat.next hW).st) a hsz (by omega)
   have hvl':vs.length=k:=by rw[hat.len];exact hlk
   obtain⟨am,ham⟩:∃am,actM m s a=am:=⟨_,rfl⟩;have HAM:=aA ham;rw[ham] at con;clear ham;obtain⟨m',s',⟨yc,⟨y0,y1,y2,y3,y4,y5⟩,R⟩⟩:=am;obtain⟨ak,as',at',az,an,av⟩:=a;obtain⟨c0,c1,c2,c3,c4,c5⟩:=hcc;simp only at c0 c1 c2 c3 c4 c5 con hsz;have HT:=aA hat;clear hat hmp hvl;have lbr:b<wr.heap.size:=by omega
   have q0:(0:Int)<=(k:Int):=by omega
   have q1:(k:Int)<(acs.length:Int):=by omega
   have hb1:∀o:Obj,Below wr.heap.size wr (wr.alloc o):=fun o=>(Below.refl _ _).alloc (Nat.le_refl _) o
   have hszr:=HT.out.below.size;have hsbl:=HT.out.st.lt
   go_upto_region 9 with(first
    |(go_at_call 39;refine(con.out _ (by with_reducible exact hb1 _)).mono ?_;rintro e w2 ⟨A2,C2,he,hK,hS,hR,hl⟩;simp only[ansV] at he;subst he;have HK:=aA hK;have HS2:=aA hS;have HR2:=aA hR;have HL2:=aA hl;have HO2:=aA (tY (HT.out.next (hb1 _)).own hK (Nat.lt_succ_self _));have hs2:=hK.size;clear hK hS hR hl con)
    |(at_builtin;refine wpList_append_lies _ rfl _ _ 28 rfl (sb+1) 45 i0 _ 8 80 Tryz.underlying28 hi0 hz0 hz1 hz2 rfl (by decide) u6 vs.length (fQ vs) rfl (iE HO2.out ((Below.refl _ _).alloc (Nat.le_refl _) _)) ⟨w2.heap.size,0,none⟩ 1 1 (fQ [⟨⟨yc,⟨y0,y1,y2,y3,y4,y5⟩,R⟩,A2,C2⟩]) rfl (zH _) (qry (x:=⟨⟨yc,⟨y0,y1,y2,y3,y4,y5⟩,R⟩,A2,C2⟩) (aG w2 _ _)) (qib _) (by decide) (by unfold maxLen;omega) (by omega) (by simp at hs2 ⊢;omega) (w2.heap.size+1) (by simp) ?_;intro g cap w7 hown7 hgrow7 hat7 hlt7;have HG:=aA (And.intro hown7 (And.intro hgrow7 hat7));clear hown7 hgrow7 hat7))
   go_wp2_with fail;go_roundw
   case rel=>
    go_light;have hG:=HG.out
    have h7:=RnA.step (A:=A2) (C:=C2) HAM.out (HT.out.next (hb1 (.cells #[.int .i64 ak,.string as',.int .i64 at',.int .i64 az,.int .i64 an,.int .i64 av] 26))) HK.out HS2.out HR2.out HL2.out ((Below.refl _ _).alloc (Nat.le_refl _) _) hG.1 hG.2.1 (by
     rcases hG.2.2 with e|e
     ·exact .inl e
     ·right;rw[e];simp)
    refine⟨k+1,vs++[⟨⟨yc,⟨y0,y1,y2,y3,y4,y5⟩,R⟩,A2,C2⟩],m',s',by omega,by go_num,?_⟩
    rw[htk.out];rw[hvl'] at h7;exact h7
   case measure=>simp[intOf];omega
  ·have hkk:k=acs.length:=by omega
   obtain⟨AA,CC,rfl,hcc⟩:=hat.fin;have hx:=hat.st;obtain⟨A,C,t0,t1,t2,K,hst⟩:=hx;have b0:=fun j=>hst.box.cell j
   have r0':=fun j=>hat.res.cell j
   have rf:=fun j=>hat.res.frozen j
   have rl:=hat.res.lt;have sl:=hst.box.lt;have HST:=aA hst;have HT:=aA hat;have HCC:=aA hcc;have htk:acs.take k=acs:=by rw[hkk];exact List.take_length
   have HTK:=aA htk;have HVL:=aA hvl;have hne:¬w.heap.size=sb:=by omega
   clear hst hat hcc htk hvl;obtain⟨A3,C3,q0,z0⟩:=t0;obtain⟨A4,C4,q1,z1⟩:=t1;obtain⟨A5,C5,q2,z2⟩:=t2;simp only[aJ,zb8,List.cons_append,List.nil_append] at b0 r0';go_wp2_with fail
   go_region
   all_goals go_wp2_with fail
   have hv2:vs.length=acs.length:=by rw[HVL.out,hkk]
   refine bodyPost_ret (v:=.tuple #[.slice AA vs.length CC,.agg #[.slice A m.ss.length C,.slice A3 q0.length C3,.int .i64 z0,.slice A4 q1.length C4,.int .i64 z1,.slice A5 q2.length C5,.int .i64 z2,.int .i64 m.f],.int .i64 0]) (by simp[results,Tryz.results23,go_sem,r0']) rfl ?_
   have hrun:=HT.out.run;rw[HTK.out] at hrun;have hew:=q7g wr w.heap.size (.slice A m.ss.length C) (.slice A3 q0.length C3) (.int .i64 z0) (.slice A4 q1.length C4) (.int .i64 z1) (.slice A5 q2.length C5) (.int .i64 z2) (.int .i64 m.f);have hfull:=fun(w'':World) h1 h2=>HT.out.fin2 (w':=w'') HST.out h1 h2
   have hend:=hfull _ hew.1 (fun k q1 q2=>hew.2 k q1 (by omega))
   have hanb:AnB w.heap.size (set8 wr w.heap.size (.slice A m.ss.length C) (.slice A3 q0.length C3) (.int .i64 z0) (.slice A4 q1.length C4) (.int .i64 z1) (.slice A5 q2.length C5) (.int .i64 z2) (.int .i64 m.f)).drew AA vs (runM mc0 mc0 acs).2.2 A C m.ss ⟨A3,C3,q0,z0⟩ ⟨A4,C4,q1,z1⟩ ⟨A5,C5,q2,z2⟩:=fun w'' k1 k2=>by
    have:=hfull w'' (Nat.le_trans hew.1 k1) (fun k q1 q2=>(k2 k (by omega) (Nat.lt_of_lt_of_le q1 hew.1)).trans (hew.2 k q1 (by omega)))
    rw[HTK.out] at this;exact this
   simp only[set8] at hend hanb;rw[HTK.out] at hend;have e1:(runM mc0 mc0 acs).1=m:=by rw[hrun]
   unfold qon;rw[e1];refine⟨vs,AA,CC,A,C,⟨A3,C3,q0,z0⟩,⟨A4,C4,q1,z1⟩,⟨A5,C5,q2,z2⟩,by rw[hv2];rfl,hv2,by have:=HCC.out;omega,hend.1,hend.2,HST.out.kb,?_,hanb⟩
   exact(mO HT.out.below (Nat.le_refl _) _ _ _ _ _ _ _ _).drew

def RunM(M:Mc)(Y:List An)(n:Nat)(w:World)(e:Ending)(w':World):Prop:=
 ∃(vs:List AnV) (AA:Option Addr) (CC:Nat) (A:Option Addr) (C:Nat) (t0 t1 t2:TR),e=.returned (.tuple #[.slice AA n CC,.agg (aJ A C M.ss t0 t1 t2 M.f).toArray,.int .i64 0])/\
  vs.length=n/\n<=CC/\mX w' AA vs Y/\dU w' A C M.ss t0 t1 t2/\KB M.ss M.f t0 t1 t2 M.pts/\Below w.heap.size w w'/\AnB w.heap.size w' AA vs Y A C M.ss t0 t1 t2

theorem qsm{LA:Option Addr}{LC:Nat}{acs:List Ac}{w:World}{M S:Mc}{Y:List An}(h:runM mc0 mc0 acs=(M,S,Y))(hZ:SzAt w)(hA:aH w.heap.size w LA (aS acs))(hs:∀a∈acs,a.s.size<=140737488351232)(hn:acs.length<=500):
  Calls Tryz.prog 23 #[.slice LA acs.length LC] w (RunM M Y acs.length w):=
 (qoq LA LC acs w hZ hA hs hn).mono fun e w' hr=>by
  unfold qon at hr;rw[h] at hr;exact hr

theorem qn7{B B1:Nat}{w1 w':World}{AA A:Option Addr}{vs:List AnV}{Y:List An}{C:Nat}{ss:List ByteArray}{t0 t1 t2:TR}(h:AnB B1 w1 AA vs Y A C ss t0 t1 t2)(hs:w1.heap.size<=w'.heap.size)(hk:∀k,B1<=k->k<w1.heap.size->w'.heap[k]? =w1.heap[k]?)(hB:B<=B1):
  mX w' AA vs Y/\dU w' A C ss t0 t1 t2/\AnB B w' AA vs Y A C ss t0 t1 t2:=by
 obtain⟨h1,h2⟩:=h w' hs hk;refine⟨h1,h2,fun w'' k1 k2=>h w'' (Nat.le_trans hs k1) fun k q1 q2=>(k2 k (Nat.le_trans hB q1) (Nat.lt_of_lt_of_le q2 hs)).trans (hk k q1 q2)⟩

set_option maxRecDepth 20000 in
set_option maxHeartbeats 1000000 in
theorem qpt{LA:Option Addr}{LC:Nat}{acs:List Ac}{w:World}{M S:Mc}{Y:List An}{n:Nat}(h:runM mc0 mc0 acs=(M,S,Y))(hl:acs.length=n)(hZ:SzAt w)(hA:aH w.heap.size w LA (aS acs))(hs:∀a∈acs,a.s.size<=140737488351232)(hn:n<=500):
  Calls Tryz.prog 11 #[.slice LA n LC] w (RunM M Y n w):=by
 subst hl;have con:=aA fun W (hW:Below w.heap.size w W)=>qsm (LA:=LA) (LC:=LC) h (hZ.below hW) (hA.up hW) hs hn
 have RZ:=aG w zb8 35;simp only[zb8] at RZ;have BZ:Hid (∀o:Obj,Below w.heap.size w (w.alloc o)):=fun o=>(Below.refl _ _).alloc (Nat.le_refl _) o
 obtain⟨n,hn'⟩:∃n,acs.length=n:=⟨_,rfl⟩;rw[hn'] at con ⊢;clear hZ hA hs h hn hn'
 go_enter Tryz.func11,Tryz.ntmps11
 go_upto_region 2 with(go_at_call 23;refine(con.out _ (by with_reducible exact BZ.out _)).mono ?_;rintro e w1 ⟨vs,AA,CC,A,C,t0,t1,t2,he,hvl,hcc,han,hB,hK,hb,hanb⟩;have R1:=RZ.below hb (by simp);have r1:=fun j=>R1.cell j;have e1:=fun j=>R1.frozen j;have g1:=R1.lt;obtain⟨A0,C0,p0,r0⟩:=t0;obtain⟨A1,C1,p1,r1'⟩:=t1;obtain⟨A2,C2,p2,r2⟩:=t2;have HL:=aA hvl;have HC:=aA hcc;have HN:=aA hanb;have HK:=aA hK;have HW:=aA hb;clear hvl hcc han hB hK hb hanb con;simp only[aJ] at he;subst he)
 go_upto_region 4 with fail;obtain⟨wA,hwA⟩:∃wA,wA=w1.alloc (.cells #[.slice A M.ss.length C,.slice A0 p0.length C0,.int .i64 r0,.slice A1 p1.length C1,.int .i64 r1',.slice A2 p2.length C2,.int .i64 r2,.int .i64 M.f] 35):=⟨_,rfl⟩;have XA:RowL wA w1.heap.size 35 [.slice A M.ss.length C,.slice A0 p0.length C0,.int .i64 r0,.slice A1 p1.length C1,.int .i64 r1',.slice A2 p2.length C2,.int .i64 r2,.int .i64 M.f]:=by rw[hwA];exact aG w1 _ _
 have RA:RowL wA w.heap.size 35 [.slice none 0 0,.slice none 0 0,.int .i64 0,.slice none 0 0,.int .i64 0,.slice none 0 0,.int .i64 0,.int .i64 0]:=by rw[hwA];exact R1.of_block (Below.heap_alloc _ _ _ g1)
 have H1A:Below w1.heap.size w1 wA:=by rw[hwA];exact(Below.refl _ _).alloc (Nat.le_refl _) _
 rw[<-hwA];have HA:=aA H1A;have HWA:=aA (aC (aC (BZ.out _) (Nat.le_refl _) HW.out) (Nat.le_refl _) H1A);have hB1:(w.alloc (.cells #[.slice none 0 0,.slice none 0 0,.int .i64 0,.slice none 0 0,.int .i64 0,.slice none 0 0,.int .i64 0,.int .i64 0] 35)).heap.size=w.heap.size+1:=by simp
 have hN:=HN.out;rw[hB1] at hN;have HN2:=aA hN;have hrb:Hid (w.heap.size<=w.heap.size):=Nat.le_refl _;clear HN hN hB1 HW R1 RZ r1 e1 hwA H1A BZ;obtain⟨bb,hbb⟩:∃bb,bb=w1.heap.size:=⟨_,rfl⟩;obtain⟨rb,hrb'⟩:∃rb,rb=w.heap.size:=⟨_,rfl⟩;have hne1:¬rb=bb:=by omega
 have hne2:¬bb=rb:=by omega
 have HRB:=aA hrb';rw[<-hbb] at XA ⊢;rw[<-hrb'] at RA ⊢;clear hbb hrb' g1;have xa:=fun j=>XA.cell j
 have xl:=XA.lt;have ra:=fun j=>RA.cell j
 have rf:=fun j=>RA.frozen j
 have rl:=RA.lt
 go_region
 all_goals go_wp2_with fail
 refine bodyPost_ret (v:=.tuple #[.slice AA n CC,.agg #[.slice A M.ss.length C,.slice A0 p0.length C0,.int .i64 r0,.slice A1 p1.length C1,.int .i64 r1',.slice A2 p2.length C2,.int .i64 r2,.int .i64 M.f],.int .i64 0]) (by simp[results,Tryz.results11,go_sem,ra]) rfl ?_
 have hRB:=HRB.out;subst hRB;have hew:=q7g wA w.heap.size (.slice A M.ss.length C) (.slice A0 p0.length C0) (.int .i64 r0) (.slice A1 p1.length C1) (.int .i64 r1') (.slice A2 p2.length C2) (.int .i64 r2) (.int .i64 M.f);have hae:=qn7 (B:=w.heap.size) HN2.out (Nat.le_trans HA.out.size hew.1) (fun k q1 q2=>(hew.2 k (Nat.lt_of_lt_of_le q2 HA.out.size) (by omega)).trans (HA.out.block k q2)) (Nat.le_succ _)
 simp only[set8] at hae;refine⟨vs,AA,CC,A,C,⟨A0,C0,p0,r0⟩,⟨A1,C1,p1,r1'⟩,⟨A2,C2,p2,r2⟩,rfl,HL.out,HC.out,hae.1,hae.2.1,HK.out,?_,hae.2.2⟩;exact(mO HWA.out (Nat.le_refl w.heap.size) _ _ _ _ _ _ _ _).drew

theorem qag{P:Ac->Bool}{acs:List Ac}{k:Nat}(h:k<acs.length):(acs.take (k+1)).filter P=(acs.take k).filter P++(if P acs[k]=true then[acs[k]] else[]):=by
 rw[List.take_succ_eq_append_getElem h,List.filter_append];congr 1
 by_cases hp:P acs[k]=true
 ·rw[if_pos hp,List.filter_cons_of_pos hp];rfl
 ·rw[if_neg hp,List.filter_cons_of_neg hp];rfl

theorem qrh(w:World)(o:Obj)(x:Ac):∀j u,(aS [x])[j]? =some u->((w.alloc o).alloc (.cells x.vals.toArray 26)).cell? (Addr.add ⟨w.heap.size+1,0,none⟩ j)=some u:=by
 have h:=aG (w.alloc o) x.vals 26;have e:(w.alloc o).heap.size=w.heap.size+1:=by simp
 rw[e] at h;exact lK h

theorem qjb{w wr w7:World}{v7 u4:Value}{n k:Nat}{F:List Ac}{fs:List Ac}{a:Ac}{o o':Obj}(hF:F=fs++[a])(h1:Below w.heap.size w wr)(h3:wr.ownsRow w.heap.size 26 6 u4 fs.length (aS fs))(h4:w7.ownsRow w.heap.size 26 6 v7 (fs.length+1) (aS fs++aS [a]))(h5:((wr.alloc o).alloc o').grownBy w7 u4.ownBlock)(_:k<n):
  Below w.heap.size w w7/\w7.ownsRow w.heap.size 26 6 v7 F.length (aS F):=by
 have b2:=aC h1 (Nat.le_refl _) (yZ wr o o');refine⟨⟨h5.os.trans b2.os,h5.tape.trans b2.tape,h5.output.trans b2.output,Nat.le_trans b2.size h5.size,fun q hq=>(h5.block q (Nat.lt_of_lt_of_le hq b2.size) fun e=>by have:=(h3.lt q e.symm).1;omega).trans (b2.block q hq)⟩,?_⟩
 subst hF;rw[List.length_append,vP];exact h4

theorem qb3{w wr:World}{u4:Value}{F fs:List Ac}(hF:F=fs)(h1:Below w.heap.size w wr)(h3:wr.ownsRow w.heap.size 26 6 u4 fs.length (aS fs))(o:Obj):Below w.heap.size w (wr.alloc o)/\(wr.alloc o).ownsRow w.heap.size 26 6 u4 F.length (aS F):=by
 subst hF;exact⟨h1.alloc h1.size o,iE h3 ((Below.refl _ _).alloc (Nat.le_refl _) o)⟩

theorem qd9{B:Nat}{w0 wr w7:World}{row:Option Nat}(h:Below B w0 wr)(hB:B<=wr.heap.size)(g:wr.grownBy w7 row)(hr:∀q,row=some q->B<=q):Below B w0 w7:=
 ⟨g.os.trans h.os,g.tape.trans h.tape,g.output.trans h.output,Nat.le_trans h.size g.size,fun k hk=>(g.block k (Nat.lt_of_lt_of_le hk hB) fun e=>by have:=hr k e.symm;omega).trans (h.block k hk)⟩

theorem qdy{P:Ac->Bool}{acs fs:List Ac}{k:Nat}{a:Ac}(h:(acs.take (k+1)).filter P=fs++(if P a=true then[a] else[]))(hp:P a=true):Hid ((acs.take (k+1)).filter P=fs++[a]):=by
 rw[if_pos hp] at h;exact h

theorem q6h{P:Ac->Bool}{acs fs:List Ac}{k:Nat}{a:Ac}(h:(acs.take (k+1)).filter P=fs++(if P a=true then[a] else[]))(hp:P a=false):Hid ((acs.take (k+1)).filter P=fs):=by
 rw[if_neg (by simp[hp]),List.append_nil] at h
 exact h

set_option maxRecDepth 20000 in
theorem q9r(A:Option Addr)(C:Nat)(acs:List Ac)(w:World)(hA:aH w.heap.size w A (aS acs))(hA':A=none->C=0/\acs=[])(hz:acs.length<=1000):
  Calls Tryz.prog 12 #[.slice A acs.length C] w fun e w'=>∃v,e=.returned v/\w'.ownsRow w.heap.size 26 6 v acs.length (aS acs)/\Below w.heap.size w w':=by
 obtain⟨i0,hi0,hz0,hz1,hz2⟩:=info_parts qfg;cases A with
 |none=>
  obtain⟨rfl,rfl⟩:=hA' rfl;simp only[List.length_nil];have hnil:∀W,(binOp BinOp.eql 23 (Value.slice none 0 0) (Value.slice none 0 0)).run Tryz.prog W=.ok (.bool true) W:=fun _=>by kernel_rfl
  go_enter Tryz.func12,Tryz.ntmps12
  go_wp2_with fail;go_ret;exact⟨_,rfl,World.ownsRow_nil _ _ _ _,Below.refl _ _⟩
 |some ad=>
  have hcmp:∀n:Nat,∀W,(binOp BinOp.eql 23 (Value.slice (some ad) n C) (Value.slice none 0 0)).run Tryz.prog W=.ok (.bool false) W:=fun _ _=>by kernel_rfl
  have hc:=hcmp acs.length;have HN:=aA (World.ownsRow_made (e:=26) (size:=6) (base:=w.heap.size) w #[] 0 (Nat.le_refl _) (by decide) rfl)
  have hw:∀o:Obj,∀j u,(aS acs)[j]? =some u->(w.alloc o).cell? (ad.add j)=some u:=fun o=>qa6 (hA.up ((Below.refl _ _).alloc (Nat.le_refl _) o))
  have HL:=jE acs;have HO:=jK acs;obtain⟨fl,hfl⟩:∃fl,aS acs=fl:=⟨_,rfl⟩;rw[hfl] at hw HL HO ⊢;clear hA hA' hcmp hfl;obtain⟨n,hn⟩:∃n,acs.length=n:=⟨_,rfl⟩;rw[hn] at hz hc HL ⊢;clear hn;have hw':=aA hw;have HL':=aA HL;have HO':=aA HO;clear hw HL HO
  go_enter Tryz.func12,Tryz.ntmps12
  go_wp2_with (at_builtin;refine wpList_append_own _ rfl _ _ 23 rfl w.heap.size 26 i0 _ 6 56 Tryz.underlying23 hi0 hz0 hz1 hz2 rfl (by decide) (.slice (some ⟨w.heap.size,0,none⟩) 0 0) 0 [] rfl HN.out ad n C fl rfl HL'.out (hw'.out _) HO'.out (by unfold maxLen;omega) (by omega) (by simp) ?_;intro v1 w1 hown1 hgrow1 _;have HO1:=aA hown1;have HG1:=aA hgrow1;clear hown1 hgrow1)
  go_ret;have h1:=HO1.out;rw[Nat.zero_add,List.nil_append] at h1;exact⟨_,rfl,h1,⟨HG1.out.os,HG1.out.tape,HG1.out.output,Nat.le_trans (by simp) HG1.out.size,fun k hk=>(HG1.out.block k (by simp;omega) (by simp[Value.ownBlock];omega)).trans (Below.heap_alloc _ _ _ hk)⟩⟩

end
end Go.Proofs.YtlojfgdpmaigmagGreatDoor

/- Put: an entry goes down from the root, then the tree grows. -/
import Derived.Test.YtlojfgdpmaigmagGreatDoorP34
import Derived.Test.YtlojfgdpmaigmagGreatDoorP36
import Derived.Test.YtlojfgdpmaigmagGreatDoorP37
import Derived.Test.YtlojfgdpmaigmagGreatDoorP31
import Derived.Test.YtlojfgdpmaigmagGreatDoorP12
import Derived.Test.YtlojfgdpmaigmagGreatDoorP08
namespace Go.Proofs.YtlojfgdpmaigmagGreatDoor
section
open Go.RowKit Plain Go.Shelf

structure yH(ns ns1:List Nd)(root:Int)(x:En):Prop where
 sub:∃T h P,T<=99999/\h<12/\Sub T 4 ns1 h root 0 1099511627776 P/\P.Perm (aS 0 ns1.length)
 eqv:Eqv (x::ns.flatMap cont) (ns1.flatMap cont)
 few:(ns1.flatMap cont).length<=(ns.flatMap cont).length+1
 len:ns1.length=ns.length

theorem tX{ns:List Nd}{root:Int}(h:aT ns root=0):(ns.flatMap cont).length<=14*ns.length/\ns.length<=2000/\Pos (ns.flatMap cont):=by
 obtain⟨h1,h2⟩:=sZ h;refine⟨?_,h1,fun y hy=>?_⟩
 ·have:∀l:List Nd,(∀x∈l,nO x)->(l.flatMap cont).length<=14*l.length:=by
   intro l
   induction l with
   |nil=>simp
   |cons x r ih=>
    intro hl;have a:=ih fun y hy=>hl y (List.mem_cons_of_mem _ hy)
    obtain⟨b1,b2,_⟩:=hl x List.mem_cons_self;rw[List.flatMap_cons];simp only[List.length_append,List.length_cons,cont];omega
  refine this ns fun x hx=>?_
  obtain⟨i,hi,rfl⟩:=List.getElem_of_mem hx;exact h2 i hi
 ·obtain⟨x,hx,hy⟩:=List.mem_flatMap.1 hy;obtain⟨i,hi,rfl⟩:=List.getElem_of_mem hx;obtain⟨_,_,g1,g2⟩:=h2 i hi;rcases List.mem_append.1 hy with hy|hy
  ·exact(good_iff.1 (g2 y hy)).1.1
  ·exact(good_iff.1 (g1 y hy)).1.1

theorem q7b{T h:Nat}{ns:List Nd}{root lo hi:Int}{P:List Int}(hs:Sub T 4 ns h root lo hi P)(hp:P.Perm (aS 0 ns.length))(hz:ns.length<=2000):h<12:=by
 have h1:=q4z h _ _ _ _ hs;rw[zK hp] at h1;apply Classical.byContradiction;intro e;have:2 ^ 13<=2 ^ (h+1):=Nat.pow_le_pow_right (by decide) (by omega)
 omega

theorem q6a(base g C:Nat)(qs:List PN)(r root:Int)(x:En)(w:World)(hT:NT base w g C qs)(hB:base<=w.heap.size)(hc:aT (qs.map PN.nd) root=0)(hx:entB x 0 1099511627776=true)(hcnt:cntK x.key ((qs.map PN.nd).flatMap cont)+x.c<=1073741824):
  Calls Tryz.prog 118 #[.agg #[.slice (some ⟨g,0,none⟩) qs.length C,.int .i64 r],.int .i64 root,.agg #[.int .i64 x.key,.int .i64 x.c,.int .i64 x.s,.int .i64 x.lo,.int .i64 x.hi,.int .i64 x.t,.int .i64 x.l]] w
   fun e w'=>e=.returned (.tuple #[])/\∃qs',dZ base w g C qs w' qs'/\yH (qs.map PN.nd) (qs'.map PN.nd) root x:=by
 obtain⟨f1,f2,f3⟩:=tX hc;rcases tC hc with⟨h,P,hs,hp⟩|⟨he,rfl⟩
 ·have hh:=q7b hs hp f2;have hall:=yN hp;have hs':=qlm (show 6<=99999 by omega) h _ _ _ _ hs
  have hnd:P.Nodup:=hp.nodup_iff.2 (lS _ _);have hlen:=hall.length_eq;refine(qbf (T:=99999) (base:=base) (g:=g) (C:=C) (n:=qs.length) (r:=r) (by omega) h hh qs w root 0 1099511627776 P x hT rfl hB hs' hnd (by decide) (by decide) hx (by rw[q1m hall];exact hcnt) (by omega)).mono ?_
  rintro e w' ⟨rfl,qs',hm,hok,_⟩;have hl':=hok.len;have hp':P.Perm (aS 0 (qs'.map PN.nd).length):=by rw[hl'];exact hp
  have hall':=yN hp';refine⟨rfl,qs',hm,⟨99999,h,P,Nat.le_refl _,hh,hok.sub,hp'⟩,?_,?_,hl'⟩
  ·refine(Eqv.of_perm (hall.symm.cons x) ?_).trans (hok.eqv.trans (Eqv.of_perm hall' hok.eqv.posm));intro y hy;rcases List.mem_cons.1 hy with rfl|hy
   ·exact hok.eqv.posl _ List.mem_cons_self
   ·exact f3 y hy
  ·have:=hok.few;have:=hall'.length_eq;omega
 ·obtain⟨q,rfl⟩:∃q,qs=[q]:=List.length_eq_one_iff.1 (by have:=congrArg List.length he;simpa using this)
  have hq:q.nd=aX []:=by simpa using he
  have hq1:q.leaf=true:=congrArg Nd.leaf hq;have hq2:q.ents=[]:=congrArg Nd.ents hq;obtain⟨⟨hx1,hx2⟩,hxg⟩:=entB_iff.1 hx;have hwe:dM q.ents x=[x]:=by rw[hq2];simp[dM,hasK,lowN]
  refine(q6i base g C [q] r 0 q x w hT (by simp) rfl hq1 (by rw[hq2];exact List.Pairwise.nil) (by rw[hq2];decide) hB).mono ?_
  rintro e w' ⟨A',C',rfl,hm⟩;rw[hwe] at hm
  have hnd:[{ q with ents:=[x],eA:=A',eC:=C' }].map PN.nd=[aX [x]]:=by
   have:({ q with ents:=[x],eA:=A',eC:=C' }:PN).nd={ q.nd with ents:=[x] }:=rfl;simp[this,hq,aX]
  refine⟨rfl,[{ q with ents:=[x],eA:=A',eC:=C' }],hm,?_⟩;rw[hnd,he];refine⟨⟨1,0,[0],by decide,by decide,⟨⟨by decide,by simp,by decide⟩,rfl,⟨rfl,rfl,rfl,rfl,by simp[nth,aX],by simp[nth,aX],?_⟩⟩,List.Perm.refl _⟩,?_,by simp[cont,aX],rfl⟩
  ·show aK [x] 0 1099511627776=true;simp only[aK,Bool.and_true];exact hx
  ·have hpx:Pos [x]:=fun y hy=>by
    obtain rfl:y=x:=by simpa using hy
    exact(good_iff.1 hxg).1.1
   have:(x::([aX []]:List Nd).flatMap cont)=[x]:=by simp[cont,aX]
   rw[this];have:(([aX [x]]:List Nd).flatMap cont)=[x]:=by simp[cont,aX]
   rw[this];exact Eqv.refl hpx

structure sD(ns ns2:List Nd)(root2:Int)(x:En):Prop where
 fine:ns2.length<=2000->aT ns2 root2=0
 eqv:Eqv (x::ns.flatMap cont) (ns2.flatMap cont)
 few:3*(ns2.length+1)<=20*ns.length+1
 sub:∃h Q,Sub 6 4 ns2 h root2 0 1099511627776 Q/\Q.Perm (aS 0 ns2.length)

theorem q7w(base g C:Nat)(qs:List PN)(ns:List Nd)(root:Int)(x:En)(w:World)(hT:NT base w g C qs)(hB:base<=w.heap.size)(hf:(ns.flatMap cont).length<=14*ns.length)(hz:ns.length<=2000)(hs:yH ns (qs.map PN.nd) root x):
  Calls Tryz.prog 119 #[.agg #[.slice (some ⟨g,0,none⟩) qs.length C,.int .i64 root]] w
   fun e w'=>∃ns2 root2,sD ns ns2 root2 x/\Kept (feet g qs) w w'/\((2000<ns2.length/\e=.returned (.tuple #[.agg #[.slice none 0 0,.int .i64 0],.int .i64 1]))\/
    (ns2.length<=2000/\∃g' C' qs',e=.returned (.tuple #[.agg #[.slice (some ⟨g',0,none⟩) qs'.length C',.int .i64 root2],.int .i64 0])/\NT base w' g' C' qs'/\qs'.map PN.nd=ns2/\∀b∈feet g' qs',b∈feet g qs\/w.heap.size<=b)):=by
 obtain⟨T,h,P,hT9,hh,hsub,hp⟩:=hs.sub;have hr:=q7y hsub;obtain⟨k,rfl⟩:∃k:Nat,root=k:=⟨root.toNat,by omega⟩
 have hk:k<qs.length:=by have:=hr.2;simp at this;omega
 have hnd:P.Nodup:=hp.nodup_iff.2 (lS _ _);have hg:=qkz hsub hp;have hwc:=qaq (qs.map PN.nd);have h1:=hg.few;have h2:=hg.part;have h3:=hs.few;have h4:=hs.len
 have hcon:Hid (∀(W:World) (tb:Nat),TB base W tb g C qs (k:Int)->base<=W.heap.size->Calls Tryz.prog 143 #[.pointer (some ⟨tb,0,none⟩),.int .i64 (k:Int)] W fun e w'=>∃vm g' C' qs',e=.returned vm/\nP base W tb g qs (k:Int) (bI h (qs.map PN.nd) (k:Int)).1 (bI h (qs.map PN.nd) (k:Int)).2 w' vm g' C' qs'):=
  fun W tb hTB hBW=>q1a (mL:=T) (by omega) base tb (k:Int) h g C qs k 0 1099511627776 P W hTB hk hsub hnd hBW (by omega)
 refine(qc0 base g C qs k _ _ h (jG h (qs.map PN.nd) (k:Int)) w hT hB hcon (.inr hg.row) (by omega) rfl).mono ?_
 rintro e w' ⟨hk',hres⟩;refine⟨(jG h (qs.map PN.nd) (k:Int)).1,(jG h (qs.map PN.nd) (k:Int)).2,⟨hg.fine,hs.eqv.trans (Eqv.of_perm hg.cont.symm hs.eqv.posm),by omega,hg.sub⟩,hk',hres⟩

structure PuA(w wr:World)(A:Option Addr)(n C:Nat)(root:Int)(r:Ru):Prop where
 below:Below w.heap.size w wr
 bt:RowL wr w.heap.size 32 [.slice A n C,.int .i64 root]
 br:RowL wr (w.heap.size+1) 42 (ruV r)
 bo:RowL wr (w.heap.size+2) 32 [.slice none 0 0,.int .i64 0]

theorem PuA.next{w wr w':World}{A:Option Addr}{n C:Nat}{root:Int}{r:Ru}(h:PuA w wr A n C root r)(hb:Below wr.heap.size wr w'):PuA w w' A n C root r:=
 ⟨aC h.below (Nat.le_refl _) hb,h.bt.below hb h.bt.lt,h.br.below hb h.br.lt,h.bo.below hb h.bo.lt⟩

theorem PuA.start(w:World)(A:Option Addr)(n C:Nat)(root:Int)(r:Ru):PuA w (((w.alloc (.cells #[.slice A n C,.int .i64 root] 32)).alloc (.cells (ruV r).toArray 42)).alloc (.cells #[.slice none 0 0,.int .i64 0] 32)) A n C root r:=by
 have s1:(w.alloc (.cells #[.slice A n C,.int .i64 root] 32)).heap.size=w.heap.size+1:=by simp
 have s2:((w.alloc (.cells #[.slice A n C,.int .i64 root] 32)).alloc (.cells (ruV r).toArray 42)).heap.size=w.heap.size+2:=by simp
 have r0:RowL (w.alloc (.cells #[.slice A n C,.int .i64 root] 32)) w.heap.size 32 [.slice A n C,.int .i64 root]:=aG w _ _;have r1:=aG (w.alloc (.cells #[.slice A n C,.int .i64 root] 32)) (ruV r) 42;rw[s1] at r1;have r2:=aG ((w.alloc (.cells #[.slice A n C,.int .i64 root] 32)).alloc (.cells (ruV r).toArray 42)) [.slice none 0 0,.int .i64 0] 32;rw[s2] at r2;refine⟨(((Below.refl _ _).alloc (Nat.le_refl _) _).alloc (by omega) _).alloc (by omega) _,?_,?_,r2⟩
 ·exact(r0.of_block (Below.heap_alloc _ _ _ (by omega))).of_block (Below.heap_alloc _ _ _ (by omega))
 ·exact r1.of_block (Below.heap_alloc _ _ _ (by omega))

theorem rG.nt{base:Nat}{w:World}{g:Nat}{qs:List PN}(h:rG base w g qs)(hn:qs.length<=maxLen):NT base w g qs.length qs:=
 ⟨qao h.row (by rw[lT]) (by rw[List.take_of_length_le (by rw[lT];omega)]) (Nat.le_refl _) hn h.hbase (lT qs),h.each,h.apart,h.z⟩

theorem PuA.kept{w wr w':World}{A:Option Addr}{n C:Nat}{root:Int}{r:Ru}{ex:List Nat}(h:PuA w wr A n C root r)(hk:Kept ex wr w')(hx:∀b∈ex,w.heap.size+3<=b):PuA w w' A n C root r:=by
 have hl:=h.bo.lt;have hb:∀i,i<w.heap.size+3->w'.heap[i]? =wr.heap[i]? :=fun i hi=>hk.block i (by omega) (fun e=>by have:=hx i e;omega)
 exact⟨⟨hk.os.trans h.below.os,hk.tape.trans h.below.tape,hk.output.trans h.below.output,Nat.le_trans h.below.size hk.size,fun i hi=>(hb i (by omega)).trans (h.below.block i hi)⟩,h.bt.of_block (hb _ (by omega)),h.br.of_block (hb _ (by omega)),h.bo.of_block (hb _ (by omega))⟩

theorem uN{w:World}{base base':Nat}{e:TypeId}{size n:Nat}{v:Value}{vs:List Value}(h:w.ownsRow base e size v n vs)(hb:base'<=base):w.ownsRow base' e size v n vs:=q7a h hb

theorem NT.low{base base' g C:Nat}{w:World}{qs:List PN}(h:NT base w g C qs)(hb:base'<=base):NT base' w g C qs:=
 ⟨uN h.own hb,fun q hq=>⟨uN (h.each q hq).e hb,uN (h.each q hq).k hb,uN (h.each q hq).d hb,uN (h.each q hq).b hb,(h.each q hq).ez,(h.each q hq).kz,(h.each q hq).dz,(h.each q hq).bz⟩,h.apart,h.z⟩

structure qql(ns:List Nd)(x:En)(w:World)(e:Ending)(w':World):Prop where
 res:∃ns2 root2,sD ns ns2 root2 x/\Below w.heap.size w w'/\((2000<ns2.length/\e=.returned (.tuple #[.agg #[.slice none 0 0,.int .i64 0],.int .i64 1]))\/
    (ns2.length<=2000/\∃g' C' qs',e=.returned (.tuple #[.agg #[.slice (some ⟨g',0,none⟩) qs'.length C',.int .i64 root2],.int .i64 0])/\NT w.heap.size w' g' C' qs'/\qs'.map PN.nd=ns2))

theorem qlz{base base':Nat}{w:World}{g n:Nat}{qs:List PN}(h:rG base w g qs)(hn:qs.length=n)(hz:n*104<=140737488351232)(hb:base'<=base):NT base' w g n qs:=by
 subst hn;exact(h.nt (by unfold maxLen;omega)).low hb

set_option maxRecDepth 20000 in
set_option maxHeartbeats 4000000 in
theorem qq3(A:Option Addr)(C:Nat)(root key:Int)(r:Ru)(ps:List PN)(s:Ru × Int)(w:World)(hN:bF w.heap.size w A ps)(hwf:∀p∈ps,p.wf)(hc:aT (ps.map PN.nd) root=0)(he:entC (mkE key r)=0)(hk:0<=key/\key<=1099511627775)(hs:(Wl (ps.map PN.nd) key (key+1) 12 root).foldl bJ (zro,0)=s)(hs2:s.2=0)(hm:(mrg s.1 r).2=0)(hx:entB (mkE key r) 0 1099511627776=true)(hcnt:cntK key ((ps.map PN.nd).flatMap cont)+r.c<=1073741824):
  Calls Tryz.prog 88 #[.agg #[.slice A ps.length C,.int .i64 root],.int .i64 key,.agg #[.int .i64 r.c,.int .i64 r.s,.int .i64 r.lo,.int .i64 r.hi,.int .i64 r.t,.int .i64 r.l]] w (qql (ps.map PN.nd) (mkE key r) w):=by
 have hreach:Reach (ps.map PN.nd) 12 root:=by
  obtain⟨q,hW⟩:=nN hc;exact yE _ _ _ _ _ _ hW
 have con1:=aA fun W (hW:Below w.heap.size w W)=>pJ A C root ps W (hN.up hW) hwf
 have con2:=aA fun W=>nU key r.c r.s r.lo r.hi r.t r.l W
 have con3:=aA fun W (hW:Below w.heap.size w W)=>vU A C root root key ps W (hN.up hW) hreach hk s hs
 have con4:=aA fun W=>oG s.1 r W
 have con5:=aA fun W (hW:Below w.heap.size w W)=>qjq A C root ps W (hN.up hW)
 rw[hc] at con1;rw[show entC ⟨key,r.c,r.s,r.lo,r.hi,r.t,r.l⟩=0 from he] at con2;rw[hs2] at con3;rw[hm] at con4;generalize (mrg s.1 r).1=m1 at con4;generalize s.1=s1 at con3 con4;obtain⟨f1,f2,-⟩:=tX hc;simp only[List.length_map] at f1 f2
 have con6:Hid (∀(W:World) (g:Nat) (qs:List PN),NT (w.heap.size+3) W g ps.length qs->qs.map PN.nd=ps.map PN.nd->qs.length=ps.length->w.heap.size+3<=W.heap.size->Calls Tryz.prog 118 #[.agg #[.slice (some ⟨g,0,none⟩) ps.length ps.length,.int .i64 root],.int .i64 root,.agg #[.int .i64 key,.int .i64 r.c,.int .i64 r.s,.int .i64 r.lo,.int .i64 r.hi,.int .i64 r.t,.int .i64 r.l]] W
   fun e w'=>e=.returned (.tuple #[])/\∃qs1,dZ (w.heap.size+3) W g ps.length qs w' qs1/\yH (ps.map PN.nd) (qs1.map PN.nd) root (mkE key r)):=fun W g qs h1 h2 h3 h4=>by
  have:=q6a (w.heap.size+3) g ps.length qs root root (mkE key r) W h1 h4 (by rw[h2];exact hc) hx (by rw[h2];exact hcnt)
  rw[h2,h3] at this;exact this
 have con7:Hid (∀(W:World) (g:Nat) (qs1:List PN),NT (w.heap.size+3) W g ps.length qs1->qs1.length=ps.length->w.heap.size+3<=W.heap.size->yH (ps.map PN.nd) (qs1.map PN.nd) root (mkE key r)->Calls Tryz.prog 119 #[.agg #[.slice (some ⟨g,0,none⟩) ps.length ps.length,.int .i64 root]] W
   fun e w'=>∃ns2 root2,sD (ps.map PN.nd) ns2 root2 (mkE key r)/\Kept (feet g qs1) W w'/\((2000<ns2.length/\e=.returned (.tuple #[.agg #[.slice none 0 0,.int .i64 0],.int .i64 1]))\/(ns2.length<=2000/\∃g' C' qs',e=.returned (.tuple #[.agg #[.slice (some ⟨g',0,none⟩) qs'.length C',.int .i64 root2],.int .i64 0])/\NT (w.heap.size+3) w' g' C' qs'/\qs'.map PN.nd=ns2/\∀b∈feet g' qs',b∈feet g qs1\/W.heap.size<=b))):=fun W g qs1 h1 h2 h3 h4=>by
  have:=q7w (w.heap.size+3) g ps.length qs1 (ps.map PN.nd) root (mkE key r) W h1 h3 (by simpa using f1) (by simpa using f2) h4
  rw[h2] at this;exact this
 have HS:=aA (PuA.start w A ps.length C root r);clear hs hs2 hm he hreach hc hcnt hx hwf f1 f2
 go_enter Tryz.func88,Tryz.ntmps88
 go_wp2_with (first
  |(go_at_call 79;refine(con1.out _ HS.out.below).mono ?_;rintro e w1 ⟨rfl,hb1⟩;have H1:=aA (HS.out.next hb1);have r1:=fun j=>H1.out.br.cell j;simp only[ruV] at r1;clear hb1)
  |(go_at_call 115;refine(con2.out _).mono ?_;rintro e w2 ⟨rfl,hb2⟩;have H2:=aA (H1.out.next hb2);have t0:w2.cell? ⟨w.heap.size,0,none⟩=some (.slice A ps.length C):=H2.out.bt.cell 0;have t1:w2.cell? ⟨w.heap.size,1,none⟩=some (.int .i64 root):=H2.out.bt.cell 1;clear hb2 r1)
  |(go_at_call 116;refine(con3.out _ H2.out.below).mono ?_;rintro e w3 ⟨rfl,hb3⟩;have H3:=aA (H2.out.next hb3);have r3:=fun j=>H3.out.br.cell j;simp only[ruV] at r3;have l3:=H3.out.br.lt;clear hb3 t0 t1)
  |(go_at_call 15;refine(con4.out _).mono ?_;rintro e w4 ⟨rfl,hb4⟩;have H4:=aA ((H3.out.next ((Below.refl _ _).alloc (Nat.le_refl _) _)).next hb4);have t4:w4.cell? ⟨w.heap.size,0,none⟩=some (.slice A ps.length C):=H4.out.bt.cell 0;have t5:w4.cell? ⟨w.heap.size,1,none⟩=some (.int .i64 root):=H4.out.bt.cell 1;have l4:=H4.out.bt.lt;clear hb4 r3)
  |(go_at_call 117;refine(con5.out _ (H4.out.next ((Below.refl _ _).alloc (Nat.le_refl _) _)).below).mono ?_;rintro e w5 ⟨g,qs,rfl,hot,hqs,hb5⟩;have H5:=aA ((H4.out.next ((Below.refl _ _).alloc (Nat.le_refl _) _)).next hb5);have hlq:qs.length=ps.length:=(by have:=congrArg List.length hqs;simpa using this);have HNT5:=aA (qlz hot hlq hN.z (Nat.le_trans H4.out.bo.lt (by simp)));have HQS:=aA hqs;have r5:=fun j=>H5.out.br.cell j;simp only[ruV] at r5;have l5:=H5.out.br.lt;have l6:=H5.out.bo.lt;clear hb5 hot hqs t4 t5)
  |(go_at_call 118;refine(con6.out _ g qs (HNT5.out.below ((Below.refl _ _).alloc (Nat.le_refl _) _) (Nat.le_refl _)) HQS.out hlq (by simp;omega)).mono ?_;rintro e w6 ⟨rfl,qs1,hm6,hok6⟩;have H6:=aA ((H5.out.next ((Below.refl _ _).alloc (Nat.le_refl _) _)).kept hm6.kept (fun b hb=>(HNT5.out.lt b hb).1));have hcb:=hm6.kept.row (aG w5 [.slice (some ⟨g,0,none⟩) ps.length ps.length,.int .i64 root] 32) (fun e=>by have:=(HNT5.out.lt _ e).2;omega);have c0:w6.cell? ⟨w5.heap.size,0,none⟩=some (.slice (some ⟨g,0,none⟩) ps.length ps.length):=hcb.cell 0;have c1:w6.cell? ⟨w5.heap.size,1,none⟩=some (.int .i64 root):=hcb.cell 1;have HM6:=aA (And.intro hm6 hok6);have l7:=H6.out.bo.lt;clear hcb hm6 hok6 r5)
  |(go_at_call 119;refine(con7.out _ g qs1 HM6.out.1.nt (HM6.out.1.len.trans hlq) (by omega) HM6.out.2).mono ?_;rintro e w7 ⟨ns2,root2,hpo,hkp,hres⟩;have H7:=aA (H6.out.kept hkp (fun b hb=>(HM6.out.1.nt.lt b hb).1));have HPO:=aA hpo;have o0:w7.cell? ⟨w.heap.size+1+1,0,none⟩=some (.slice none 0 0):=H7.out.bo.cell 0;have o1:w7.cell? ⟨w.heap.size+1+1,1,none⟩=some (.int .i64 0):=H7.out.bo.cell 1;have of:∀j,w7.frozen? ⟨w.heap.size+1+1,j,none⟩=false:=fun j=>H7.out.bo.frozen j;clear hpo hkp;rcases hres with⟨hgt,rfl⟩|⟨hle,g2,C2,qs2,rfl,hn2,hq2,hf2⟩))
 ·refine bodyPost_ret (v:=.tuple #[.agg #[.slice none 0 0,.int .i64 0],.int .i64 1]) (by simp[results,Tryz.results88,go_sem,o0,o1]) rfl ⟨ns2,root2,HPO.out,?_,.inl ⟨hgt,rfl⟩⟩
  exact(H7.out.below.setCell (by show w.heap.size<=w.heap.size+1+1;omega) _).setCell (by show w.heap.size<=w.heap.size+1+1;omega) _
 ·refine bodyPost_ret (v:=.tuple #[.agg #[.slice (some ⟨g2,0,none⟩) qs2.length C2,.int .i64 root2],.int .i64 0]) (by simp[results,Tryz.results88,go_sem,o0,o1]) rfl ⟨ns2,root2,HPO.out,?_,.inr ⟨hle,g2,C2,qs2,rfl,?_,hq2⟩⟩
  ·exact(H7.out.below.setCell (by show w.heap.size<=w.heap.size+1+1;omega) _).setCell (by show w.heap.size<=w.heap.size+1+1;omega) _
  ·refine(hn2.low (by omega)).of_blocks fun b hb=>?_
   have hb1:=(hn2.lt b hb).1;have hne:b≠w.heap.size+1+1:=by omega
   rw[Below.heap_setCell _ _ _ _ (show b≠_ from hne),Below.heap_setCell _ _ _ _ (show b≠_ from hne)]

def jP(c:Int):Value:=.tuple #[.agg #[.slice none 0 0,.int .i64 0],.int .i64 c]

def putF(ns:List Nd)(root key:Int)(r:Ru):Int:=
 if aT ns root≠0 then aT ns root else if entC (mkE key r)≠0 then entC (mkE key r)
 else if ((Wl ns key (key+1) 12 root).foldl bJ (zro,0)).2≠0 then((Wl ns key (key+1) 12 root).foldl bJ (zro,0)).2
 else(mrg ((Wl ns key (key+1) 12 root).foldl bJ (zro,0)).1 r).2

set_option maxRecDepth 20000 in
set_option maxHeartbeats 4000000 in
theorem ql9(A:Option Addr)(C:Nat)(root key c:Int)(r:Ru)(ps:List PN)(w:World)(hN:bF w.heap.size w A ps)(hwf:∀p∈ps,p.wf)(hc:aT (ps.map PN.nd) root=c)(h0:c≠0):
  Calls Tryz.prog 88 #[.agg #[.slice A ps.length C,.int .i64 root],.int .i64 key,.agg #[.int .i64 r.c,.int .i64 r.s,.int .i64 r.lo,.int .i64 r.hi,.int .i64 r.t,.int .i64 r.l]] w fun e w'=>e=.returned (jP c)/\Below w.heap.size w w':=by
 have con1:=aA fun W (hW:Below w.heap.size w W)=>pJ A C root ps W (hN.up hW) hwf
 rw[hc] at con1;have hc':(c != 0)=true:=by simpa using h0
 have hc'':(c==0)=false:=by simpa using h0
 have HS:=aA (PuA.start w A ps.length C root r);clear hc hwf
 go_enter Tryz.func88,Tryz.ntmps88
 go_wp2_with (first
  |(go_at_call 79;refine(con1.out _ HS.out.below).mono ?_;rintro e w1 ⟨rfl,hb1⟩;have H1:=aA (HS.out.next hb1);have o0:w1.cell? ⟨w.heap.size+1+1,0,none⟩=some (.slice none 0 0):=H1.out.bo.cell 0;have o1:w1.cell? ⟨w.heap.size+1+1,1,none⟩=some (.int .i64 0):=H1.out.bo.cell 1;have of:∀j,w1.frozen? ⟨w.heap.size+1+1,j,none⟩=false:=fun j=>H1.out.bo.frozen j;clear hb1))
 exact bodyPost_ret (v:=jP c) (by simp[jP,results,Tryz.results88,go_sem,o0,o1]) rfl ⟨rfl,(H1.out.below.setCell (by show w.heap.size<=w.heap.size+1+1;omega) _).setCell (by show w.heap.size<=w.heap.size+1+1;omega) _⟩

set_option maxRecDepth 20000 in
set_option maxHeartbeats 4000000 in
theorem qiv(A:Option Addr)(C:Nat)(root key c:Int)(r:Ru)(ps:List PN)(w:World)(hN:bF w.heap.size w A ps)(hwf:∀p∈ps,p.wf)(hc:aT (ps.map PN.nd) root=0)(he:entC (mkE key r)=c)(h0:c≠0):
  Calls Tryz.prog 88 #[.agg #[.slice A ps.length C,.int .i64 root],.int .i64 key,.agg #[.int .i64 r.c,.int .i64 r.s,.int .i64 r.lo,.int .i64 r.hi,.int .i64 r.t,.int .i64 r.l]] w fun e w'=>e=.returned (jP c)/\Below w.heap.size w w':=by
 have con1:=aA fun W (hW:Below w.heap.size w W)=>pJ A C root ps W (hN.up hW) hwf
 have con2:=aA fun W=>nU key r.c r.s r.lo r.hi r.t r.l W
 rw[hc] at con1;rw[show entC ⟨key,r.c,r.s,r.lo,r.hi,r.t,r.l⟩=c from he] at con2;have hc':(c != 0)=true:=by simpa using h0
 have hc'':(c==0)=false:=by simpa using h0
 have HS:=aA (PuA.start w A ps.length C root r);clear hc hwf he
 go_enter Tryz.func88,Tryz.ntmps88
 go_wp2_with (first
  |(go_at_call 79;refine(con1.out _ HS.out.below).mono ?_;rintro e w1 ⟨rfl,hb1⟩;have H1:=aA (HS.out.next hb1);have r1:=fun j=>H1.out.br.cell j;simp only[ruV] at r1;clear hb1)
  |(go_at_call 115;refine(con2.out _).mono ?_;rintro e w2 ⟨rfl,hb2⟩;have H2:=aA (H1.out.next hb2);have o0:w2.cell? ⟨w.heap.size+1+1,0,none⟩=some (.slice none 0 0):=H2.out.bo.cell 0;have o1:w2.cell? ⟨w.heap.size+1+1,1,none⟩=some (.int .i64 0):=H2.out.bo.cell 1;have of:∀j,w2.frozen? ⟨w.heap.size+1+1,j,none⟩=false:=fun j=>H2.out.bo.frozen j;clear hb2 r1))
 exact bodyPost_ret (v:=jP c) (by simp[jP,results,Tryz.results88,go_sem,o0,o1]) rfl ⟨rfl,(H2.out.below.setCell (by show w.heap.size<=w.heap.size+1+1;omega) _).setCell (by show w.heap.size<=w.heap.size+1+1;omega) _⟩

set_option maxRecDepth 20000 in
set_option maxHeartbeats 4000000 in
theorem ql4(A:Option Addr)(C:Nat)(root key:Int)(r:Ru)(ps:List PN)(s:Ru × Int)(w:World)(hN:bF w.heap.size w A ps)(hwf:∀p∈ps,p.wf)(hc:aT (ps.map PN.nd) root=0)(he:entC (mkE key r)=0)(hk:0<=key/\key<=1099511627775)(hs:(Wl (ps.map PN.nd) key (key+1) 12 root).foldl bJ (zro,0)=s)(h0:s.2≠0):
  Calls Tryz.prog 88 #[.agg #[.slice A ps.length C,.int .i64 root],.int .i64 key,.agg #[.int .i64 r.c,.int .i64 r.s,.int .i64 r.lo,.int .i64 r.hi,.int .i64 r.t,.int .i64 r.l]] w fun e w'=>e=.returned (jP s.2)/\Below w.heap.size w w':=by
 have hreach:Reach (ps.map PN.nd) 12 root:=by
  obtain⟨q,hW⟩:=nN hc;exact yE _ _ _ _ _ _ hW
 have con1:=aA fun W (hW:Below w.heap.size w W)=>pJ A C root ps W (hN.up hW) hwf
 have con2:=aA fun W=>nU key r.c r.s r.lo r.hi r.t r.l W
 have con3:=aA fun W (hW:Below w.heap.size w W)=>vU A C root root key ps W (hN.up hW) hreach hk s hs
 rw[hc] at con1;rw[show entC ⟨key,r.c,r.s,r.lo,r.hi,r.t,r.l⟩=0 from he] at con2;generalize s.1=s1 at con3;generalize s.2=c at con3 h0 ⊢;have hc':(c != 0)=true:=by simpa using h0
 have hc'':(c==0)=false:=by simpa using h0
 have HS:=aA (PuA.start w A ps.length C root r);clear hc hwf he hs hreach
 go_enter Tryz.func88,Tryz.ntmps88
 go_wp2_with (first
  |(go_at_call 79;refine(con1.out _ HS.out.below).mono ?_;rintro e w1 ⟨rfl,hb1⟩;have H1:=aA (HS.out.next hb1);have r1:=fun j=>H1.out.br.cell j;simp only[ruV] at r1;clear hb1)
  |(go_at_call 115;refine(con2.out _).mono ?_;rintro e w2 ⟨rfl,hb2⟩;have H2:=aA (H1.out.next hb2);have t0:w2.cell? ⟨w.heap.size,0,none⟩=some (.slice A ps.length C):=H2.out.bt.cell 0;have t1:w2.cell? ⟨w.heap.size,1,none⟩=some (.int .i64 root):=H2.out.bt.cell 1;clear hb2 r1)
  |(go_at_call 116;refine(con3.out _ H2.out.below).mono ?_;rintro e w3 ⟨rfl,hb3⟩;have H3:=aA (H2.out.next hb3);have o0:w3.cell? ⟨w.heap.size+1+1,0,none⟩=some (.slice none 0 0):=H3.out.bo.cell 0;have o1:w3.cell? ⟨w.heap.size+1+1,1,none⟩=some (.int .i64 0):=H3.out.bo.cell 1;have of:∀j,w3.frozen? ⟨w.heap.size+1+1,j,none⟩=false:=fun j=>H3.out.bo.frozen j;have l3:w.heap.size+1+1<w3.heap.size:=H3.out.bo.lt;have hs3:=H3.out.below.size;clear hb3 t0 t1))
 exact bodyPost_ret (v:=jP c) (by simp[jP,results,Tryz.results88,go_sem,o0,o1,l3]) rfl ⟨rfl,((H3.out.below.setCell (by show w.heap.size<=w.heap.size+1+1;omega) _).setCell (by show w.heap.size<=w.heap.size+1+1;omega) _).alloc (by simp;omega) _⟩

set_option maxRecDepth 20000 in
set_option maxHeartbeats 4000000 in
theorem qkf(A:Option Addr)(C:Nat)(root key:Int)(r:Ru)(ps:List PN)(s:Ru × Int)(w:World)(hN:bF w.heap.size w A ps)(hwf:∀p∈ps,p.wf)(hc:aT (ps.map PN.nd) root=0)(he:entC (mkE key r)=0)(hk:0<=key/\key<=1099511627775)(hs:(Wl (ps.map PN.nd) key (key+1) 12 root).foldl bJ (zro,0)=s)(hs2:s.2=0)(c:Int)(hm:(mrg s.1 r).2=c)(h0:c≠0):
  Calls Tryz.prog 88 #[.agg #[.slice A ps.length C,.int .i64 root],.int .i64 key,.agg #[.int .i64 r.c,.int .i64 r.s,.int .i64 r.lo,.int .i64 r.hi,.int .i64 r.t,.int .i64 r.l]] w fun e w'=>e=.returned (jP c)/\Below w.heap.size w w':=by
 have hreach:Reach (ps.map PN.nd) 12 root:=by
  obtain⟨q,hW⟩:=nN hc;exact yE _ _ _ _ _ _ hW
 have con1:=aA fun W (hW:Below w.heap.size w W)=>pJ A C root ps W (hN.up hW) hwf
 have con2:=aA fun W=>nU key r.c r.s r.lo r.hi r.t r.l W
 have con3:=aA fun W (hW:Below w.heap.size w W)=>vU A C root root key ps W (hN.up hW) hreach hk s hs
 have con4:=aA fun W=>oG s.1 r W
 rw[hc] at con1;rw[show entC ⟨key,r.c,r.s,r.lo,r.hi,r.t,r.l⟩=0 from he] at con2;rw[hs2] at con3;rw[hm] at con4;generalize (mrg s.1 r).1=m1 at con4;generalize s.1=s1 at con3 con4;have hc':(c != 0)=true:=by simpa using h0
 have hc'':(c==0)=false:=by simpa using h0
 have HS:=aA (PuA.start w A ps.length C root r);clear hs hs2 hm he hreach hc hwf
 go_enter Tryz.func88,Tryz.ntmps88
 go_wp2_with (first
  |(go_at_call 79;refine(con1.out _ HS.out.below).mono ?_;rintro e w1 ⟨rfl,hb1⟩;have H1:=aA (HS.out.next hb1);have r1:=fun j=>H1.out.br.cell j;simp only[ruV] at r1;clear hb1)
  |(go_at_call 115;refine(con2.out _).mono ?_;rintro e w2 ⟨rfl,hb2⟩;have H2:=aA (H1.out.next hb2);have t0:w2.cell? ⟨w.heap.size,0,none⟩=some (.slice A ps.length C):=H2.out.bt.cell 0;have t1:w2.cell? ⟨w.heap.size,1,none⟩=some (.int .i64 root):=H2.out.bt.cell 1;clear hb2 r1)
  |(go_at_call 116;refine(con3.out _ H2.out.below).mono ?_;rintro e w3 ⟨rfl,hb3⟩;have H3:=aA (H2.out.next hb3);have r3:=fun j=>H3.out.br.cell j;simp only[ruV] at r3;have l3:=H3.out.br.lt;clear hb3 t0 t1)
  |(go_at_call 15;refine(con4.out _).mono ?_;rintro e w4 ⟨rfl,hb4⟩;have H4:=aA ((H3.out.next ((Below.refl _ _).alloc (Nat.le_refl _) _)).next hb4);have o0:w4.cell? ⟨w.heap.size+1+1,0,none⟩=some (.slice none 0 0):=H4.out.bo.cell 0;have o1:w4.cell? ⟨w.heap.size+1+1,1,none⟩=some (.int .i64 0):=H4.out.bo.cell 1;have of:∀j,w4.frozen? ⟨w.heap.size+1+1,j,none⟩=false:=fun j=>H4.out.bo.frozen j;have l4:w.heap.size+1+1<w4.heap.size:=H4.out.bo.lt;have hs4:=H4.out.below.size;clear hb4 r3))
 exact bodyPost_ret (v:=jP c) (by simp[jP,results,Tryz.results88,go_sem,o0,o1,l4]) rfl ⟨rfl,((H4.out.below.setCell (by show w.heap.size<=w.heap.size+1+1;omega) _).setCell (by show w.heap.size<=w.heap.size+1+1;omega) _).alloc (by simp;omega) _⟩

theorem q5w{key:Int}{r:Ru}(h:entC (mkE key r)=0):(0<=key/\key<=1099511627775)/\Good r/\entB (mkE key r) 0 1099511627776=true:=by
 unfold entC at h
 split at h
 ·rename_i hc
  obtain⟨h1,h2⟩:=hc;have hk:=(gI _ _ _).1 h1;have hk':0<=key/\key<=1099511627775:=hk;have hg:Good r:=⟨h,h2⟩;exact⟨hk',hg,entB_iff.2 ⟨⟨hk'.1,by show key<1099511627776;omega⟩,by rw[qli];exact hg⟩⟩
 ·omega

theorem qhi{ns:List Nd}{root key:Int}{r:Ru}{s:Ru × Int}(hc:aT ns root=0)(hg:Good r)(hs:(Wl ns key (key+1) 12 root).foldl bJ (zro,0)=s)(hs2:s.2=0)(hm:(mrg s.1 r).2=0):cntK key (ns.flatMap cont)+r.c<=1073741824:=by
 obtain⟨_,f2,_⟩:=tX hc;have gr:=(good_iff.1 hg).1;rcases tC hc with⟨h,P,hsub,hp⟩|⟨he,rfl⟩
 ·obtain⟨a,b⟩:=q6m hsub (q7b hsub hp f2) hs;rw[<-q1m (yN hp),<-b hs2];rcases a with rfl|⟨h1,_⟩|h1
  ·show(0:Int)+r.c<=_;omega
  ·rw[qB h1 hg] at hm
   split at hm
   ·assumption
   ·cases hm
  ·exact absurd hs2 h1
 ·rw[he];have:cntK key (([aX []]:List Nd).flatMap cont)=0:=by simp[cont,aX,cntK]
  rw[this];omega

theorem qnb(A:Option Addr)(C:Nat)(root key:Int)(r:Ru)(ps:List PN)(w:World)(hN:bF w.heap.size w A ps)(hwf:∀p∈ps,p.wf):
  Calls Tryz.prog 88 #[.agg #[.slice A ps.length C,.int .i64 root],.int .i64 key,.agg #[.int .i64 r.c,.int .i64 r.s,.int .i64 r.lo,.int .i64 r.hi,.int .i64 r.t,.int .i64 r.l]] w
   fun e w'=>(putF (ps.map PN.nd) root key r≠0/\e=.returned (jP (putF (ps.map PN.nd) root key r))/\Below w.heap.size w w')\/(putF (ps.map PN.nd) root key r=0/\aT (ps.map PN.nd) root=0/\qql (ps.map PN.nd) (mkE key r) w e w'):=by
 unfold putF
 by_cases hc:aT (ps.map PN.nd) root=0
 ·rw[if_neg (by simpa using hc)]
  by_cases he:entC (mkE key r)=0
  ·rw[if_neg (by simpa using he)]
   obtain⟨hk,hg,hx⟩:=q5w he;obtain⟨s,hs⟩:∃s,(Wl (ps.map PN.nd) key (key+1) 12 root).foldl bJ (zro,0)=s:=⟨_,rfl⟩;rw[hs]
   by_cases h2:s.2=0
   ·rw[if_neg (by simpa using h2)]
    by_cases hm:(mrg s.1 r).2=0
    ·refine(qq3 A C root key r ps s w hN hwf hc he hk hs h2 hm hx (qhi hc hg hs h2 hm)).mono ?_;intro e w' h;exact .inr ⟨hm,hc,h⟩
    ·refine(qkf A C root key r ps s w hN hwf hc he hk hs h2 _ rfl hm).mono ?_;intro e w' h;exact .inl ⟨hm,h⟩
   ·rw[if_pos h2];refine(ql4 A C root key r ps s w hN hwf hc he hk hs h2).mono ?_;intro e w' h;exact .inl ⟨h2,h⟩
  ·rw[if_pos he];refine(qiv A C root key _ r ps w hN hwf hc rfl he).mono ?_;intro e w' h;exact .inl ⟨he,h⟩
 ·rw[if_pos hc];refine(ql9 A C root key _ r ps w hN hwf rfl hc).mono ?_;intro e w' h;exact .inl ⟨hc,h⟩

end
section
open Go.RowKit Plain

theorem q8v{x:En}{k:Int}:∀{l r:List En},ins l x=some r->cntK k r=cntK k l+(if x.key=k then x.c else 0)
 |[],r,h=>by
  simp[ins] at h;subst h;simp[cntK]
 |y::l,r,h=>by
  simp only[ins] at h
  split at h
  ·cases h;simp only[cntK];omega
  ·split at h
   ·rename_i hk
    split at h
    ·cases h;have e1:(mkE x.key (jn y.ru x.ru)).key=x.key:=rfl;have e2:(mkE x.key (jn y.ru x.ru)).c=y.c+x.c:=rfl;simp only[cntK,e1,e2,hk]
     split<;>omega
    ·cases h
   ·cases hr:ins l x with
    |none=>rw[hr] at h;cases h
    |some q=>
     rw[hr] at h;cases h;have ih:=q8v (k:=k) hr;simp only[cntK];omega

theorem xP{x:En}:∀{l:List En},Pos l->ins l x=none->1073741824<cntK x.key l+x.c
 |[],_,h=>by simp[ins] at h
 |y::l,hp,h=>by
  have hl:Pos l:=fun z hz=>hp z (List.mem_cons_of_mem _ hz)
  have hn:=nM (k:=x.key) hl;simp only[ins] at h
  split at h
  ·cases h
  ·split at h
   ·rename_i hk
    split at h
    ·cases h
    ·simp only[cntK,hk,if_true];omega
   ·rename_i hk
    cases hr:ins l x with
    |none=>
     have ih:=xP hl hr;simp only[cntK,hk,if_false];omega
    |some q=>rw[hr] at h;cases h

theorem q3v:∀(xs l l':List En),(∀y∈l,Good y.ru)->(∀y∈xs,Good y.ru)->xs.foldl insO (some l)=some l'->(∀y∈l',Good y.ru)/\l'.length<=l.length+xs.length/\∀k,cntK k l'=cntK k l+cntK k xs
 |[],l,l',hl,_,h=>by
  simp only[List.foldl_nil,Option.some.injEq] at h;subst h;exact⟨hl,by simp,fun k=>by simp[cntK]⟩
 |x::xs,l,l',hl,hx,h=>by
  simp only[List.foldl_cons,insO,Option.bind_some] at h;cases hi:ins l x with
  |none=>rw[hi] at h;exact absurd h (by rw[jW];simp)
  |some q=>
   rw[hi] at h;obtain⟨g1,g2⟩:=mD (hx x List.mem_cons_self) hl hi;obtain⟨a,b,c⟩:=q3v xs q l' g1 (fun y hy=>hx y (List.mem_cons_of_mem _ hy)) h
   refine⟨a,by simp only[List.length_cons];omega,fun k=>?_⟩
   have:=q8v (k:=k) hi;rw[c k,this];simp only[cntK];omega

theorem pG{xs l:List En}(hx:∀y∈xs,Good y.ru)(h:allL xs=some l):(∀y∈l,Good y.ru)/\l.length<=xs.length/\∀k,cntK k l=cntK k xs:=by
 obtain⟨a,b,c⟩:=q3v xs [] l (by simp) hx h
 exact⟨a,by simpa using b,fun k=>by simpa [cntK] using c k⟩

theorem qam{l:List En}(h:∀y∈l,Good y.ru):Pos l:=fun y hy=>(good_iff.1 (h y hy)).1.1

theorem rC{ns:List Nd}{root:Int}(h:aT ns root=0):∀y∈ns.flatMap cont,(0<=y.key/\y.key<1099511627776)/\Good y.ru:=by
 rcases tC h with⟨ht,P,hs,hp⟩|⟨he,rfl⟩
 ·intro y hy;exact tY ht _ _ _ _ hs y ((yN hp).mem_iff.2 hy)
 ·rw[he];simp[cont,aX]

theorem uF{ns:List Nd}{root:Int}(h:aT ns root=0):allR 0 1099511627776 (ns.flatMap Nd.lst)=allL (ns.flatMap cont):=by
 have hin:=rC h
 have hf:∀x∈ns.flatMap Nd.lst,inR 0 1099511627776 x=true:=by
  intro x hx;have:=(hin x (lst_cont.mem_iff.1 hx)).1;simp[inR];omega
 unfold allR;rw[List.filter_eq_self.2 hf];exact pU lst_cont fun x hx=>(good_iff.1 (hin x (lst_cont.mem_iff.1 hx)).2).1.1

theorem q5x{ns:List Nd}{root key:Int}{r:Ru}(h:putF ns root key r=0):aT ns root=0/\Good r/\(0<=key/\key<=1099511627775)/\cntK key (ns.flatMap cont)+r.c<=1073741824:=by
 unfold putF at h
 by_cases hc:aT ns root=0
 ·rw[if_neg (by simpa using hc)] at h
  by_cases he:entC (mkE key r)=0
  ·rw[if_neg (by simpa using he)] at h
   obtain⟨hk,hg,_⟩:=q5w he
   by_cases h2:((Wl ns key (key+1) 12 root).foldl bJ (zro,0)).2=0
   ·rw[if_neg (by simpa using h2)] at h
    exact⟨hc,hg,hk,qhi hc hg rfl h2 h⟩
   ·rw[if_pos h2] at h;exact absurd h h2
  ·rw[if_pos he] at h;exact absurd h he
 ·rw[if_pos hc] at h;exact absurd h hc

theorem qgw{ns ns2:List Nd}{root root2 key:Int}{r:Ru}{l:List En}(hF:putF ns root key r=0)(hok:sD ns ns2 root2 (mkE key r))(hz:ns2.length<=2000)(hl:allR 0 1099511627776 (ns.flatMap Nd.lst)=some l):
  ∃ys,ins l (mkE key r)=some ys/\allR 0 1099511627776 (ns2.flatMap Nd.lst)=some ys/\(∀y∈l,Good y.ru)/\l.length<=28000/\ys.length<=28001:=by
 obtain⟨hc,hg,hk,hcnt⟩:=q5x hF;have hin:=rC hc;have hgs:∀y∈ns.flatMap cont,Good y.ru:=fun y hy=>(hin y hy).2
 obtain⟨f1,f2,_⟩:=tX hc;rw[uF hc] at hl;obtain⟨a,b,c⟩:=pG hgs hl;have hx:Good (mkE key r).ru:=hg
 have e:allR 0 1099511627776 (ns2.flatMap Nd.lst)=ins l (mkE key r):=by
  rw[uF (hok.fine hz),<-hok.eqv.eq,pU (l₁:=mkE key r::ns.flatMap cont) (l₂:=ns.flatMap cont++[mkE key r]) (List.perm_append_comm (l₁:=[mkE key r])) hok.eqv.posl,wL,hl]
  rfl
 cases hi:ins l (mkE key r) with
 |none=>
  have:=xP (qam a) hi;rw[c] at this;have e1:(mkE key r).key=key:=rfl;have e2:(mkE key r).c=r.c:=rfl;rw[e1,e2] at this;omega
 |some ys=>
  obtain⟨_,g2⟩:=mD hx a hi;exact⟨ys,rfl,by rw[e,hi],a,by omega,by omega⟩

theorem qg1{ns:List Nd}{root key:Int}{r:Ru}{l:List En}(hF:putF ns root key r=0)(hl:allR 0 1099511627776 (ns.flatMap Nd.lst)=some l):
  ∃ys,ins l (mkE key r)=some ys/\(∀y∈l,Good y.ru)/\l.length<=28000/\ys.length<=28001:=by
 obtain⟨hc,hg,hk,hcnt⟩:=q5x hF;have hgs:∀y∈ns.flatMap cont,Good y.ru:=fun y hy=>(rC hc y hy).2
 obtain⟨f1,f2,_⟩:=tX hc;rw[uF hc] at hl;obtain⟨a,b,c⟩:=pG hgs hl;cases hi:ins l (mkE key r) with
 |none=>
  have:=xP (qam a) hi;rw[c] at this;have e1:(mkE key r).key=key:=rfl;have e2:(mkE key r).c=r.c:=rfl;rw[e1,e2] at this;omega
 |some ys=>
  obtain⟨_,g2⟩:=mD (x:=mkE key r) hg a hi;exact⟨ys,rfl,a,by omega,by omega⟩

def iE(w:World)(g:Nat):Prop:=RowL w g 138 [.bool true,.slice none 0 0,.slice none 0 0,.slice none 0 0,.slice none 0 0]

theorem iE.lt{w:World}{g:Nat}(h:iE w g):g<w.heap.size:=RowL.lt h
theorem iE.below{w w':World}{g B:Nat}(h:iE w g)(hb:Below B w w')(hB:g<B):iE w' g:=RowL.below h hb hB
theorem iE.of_block{w w':World}{g:Nat}(h:iE w g)(e:w'.heap[g]? =w.heap[g]?):iE w' g:=RowL.of_block h e

theorem qhp{B:Nat}{w':World}{g:Nat}(hg:B<=g)(hr:iE w' g):NT B w' g 1 [cO]:=by
 have hot:rG B w' g [cO]:=⟨hr,hg,fun q hq=>by
   obtain rfl:q=cO:=by simpa using hq
   exact⟨World.ownsRow_nil _ _ _ _,World.ownsRow_nil _ _ _ _,World.ownsRow_nil _ _ _ _,World.ownsRow_nil _ _ _ _,by decide,by decide,by decide,by decide⟩,by simp[cO,PN.blocks],by decide⟩
 exact qlz hot rfl (by decide) (Nat.le_refl _)

theorem q4h{w w1:World}{n:Nat}{t:TypeId}{l A:List Value}(ra:RowL w1 n t A)(rb:RowL w1 (n+1) t l)(hb:Below n w w1)(i:Nat)(v1 v2:Value):
  RowL ((w1.setCell ⟨n+1,i,none⟩ v1).setCell ⟨n+1,i+1,none⟩ v2) n t A/\RowL ((w1.setCell ⟨n+1,i,none⟩ v1).setCell ⟨n+1,i+1,none⟩ v2) (n+1) t ((l.set i v1).set (i+1) v2)/\Below n w ((w1.setCell ⟨n+1,i,none⟩ v1).setCell ⟨n+1,i+1,none⟩ v2)/\
  ∀g,iE w1 g->n+1<g->iE ((w1.setCell ⟨n+1,i,none⟩ v1).setCell ⟨n+1,i+1,none⟩ v2) g:=by
 have far:∀(W:World) (j:Nat) (v:Value),(W.setCell ⟨n+1,j,none⟩ v).heap[n]? =W.heap[n]? :=fun W j v=>Below.heap_setCell _ _ _ _ (show n≠n+1 by omega)
 refine⟨(ra.of_block (far _ _ _)).of_block (far _ _ _),(rb.set i v1).set (i+1) v2,⟨hb.os,hb.tape,hb.output,by simpa using hb.size,fun k hk=>?_⟩,fun g hg hl=>hg.of_block ((Below.heap_setCell _ _ _ _ (show g≠n+1 by omega)).trans (Below.heap_setCell _ _ _ _ (show g≠n+1 by omega)))⟩
 exact(Below.heap_setCell _ _ _ _ (show k≠n+1 by omega)).trans ((Below.heap_setCell _ _ _ _ (show k≠n+1 by omega)).trans (hb.block k hk))

set_option maxRecDepth 20000 in
set_option maxHeartbeats 800000 in
theorem qbz(w:World):
  Calls Tryz.prog 38 #[] w
   fun e w'=>∃g0 g1 g2,e=.returned (.agg #[.slice none 0 0,.slice (some ⟨g0,0,none⟩) 1 1,.int .i64 0,.slice (some ⟨g1,0,none⟩) 1 1,.int .i64 0,.slice (some ⟨g2,0,none⟩) 1 1,.int .i64 0,.int .i64 0])/\NT w.heap.size w' g0 1 [cO]/\NT w.heap.size w' g1 1 [cO]/\NT w.heap.size w' g2 1 [cO]/\Below w.heap.size w w':=by
 go_enter Tryz.func38,Tryz.ntmps38
 go_wp2_with fail;obtain⟨W0,hW0⟩:∃W0,W0=(w.alloc (.cells #[.slice none 0 0,.slice none 0 0,.int .i64 0,.slice none 0 0,.int .i64 0,.slice none 0 0,.int .i64 0,.int .i64 0] 35)).alloc (.cells #[.slice none 0 0,.slice none 0 0,.int .i64 0,.slice none 0 0,.int .i64 0,.slice none 0 0,.int .i64 0,.int .i64 0] 35):=⟨_,rfl⟩
 have ra:RowL W0 w.heap.size 35 [.slice none 0 0,.slice none 0 0,.int .i64 0,.slice none 0 0,.int .i64 0,.slice none 0 0,.int .i64 0,.int .i64 0]:=by
  rw[hW0];exact(aG w _ _).of_block (Below.heap_alloc _ _ _ (by simp))
 have rb:RowL W0 (w.heap.size+1) 35 [.slice none 0 0,.slice none 0 0,.int .i64 0,.slice none 0 0,.int .i64 0,.slice none 0 0,.int .i64 0,.int .i64 0]:=by
  rw[hW0];have:=aG (w.alloc (.cells #[.slice none 0 0,.slice none 0 0,.int .i64 0,.slice none 0 0,.int .i64 0,.slice none 0 0,.int .i64 0,.int .i64 0] 35)) [.slice none 0 0,.slice none 0 0,.int .i64 0,.slice none 0 0,.int .i64 0,.slice none 0 0,.int .i64 0,.int .i64 0] 35
  simpa using this
 have hb0:Below w.heap.size w W0:=by
  rw[hW0];exact((Below.refl _ _).alloc (Nat.le_refl _) _).alloc (by simp) _
 rw[<-hW0];clear hW0;obtain⟨n,hn⟩:∃n,n=w.heap.size:=⟨_,rfl⟩;rw[<-hn] at ra rb hb0 ⊢;have HN:Hid (n=w.heap.size):=hn;clear hn
 go_loopw [3] (fun vi wr=>∃(k g0 g1 g2:Nat),k<=3/\vi=.int .i64 k/\RowL wr n 35 [.slice none 0 0,.slice none 0 0,.int .i64 0,.slice none 0 0,.int .i64 0,.slice none 0 0,.int .i64 0,.int .i64 0]/\RowL wr (n+1) 35 [.slice none 0 0,tv (decide (0<k)) g0,.int .i64 0,tv (decide (1<k)) g1,.int .i64 0,tv (decide (2<k)) g2,.int .i64 0,.int .i64 0]/\(0<k->iE wr g0/\n+1<g0)/\(1<k->iE wr g1/\n+1<g1)/\(2<k->iE wr g2/\n+1<g2)/\Below n w wr) (fun vi _=>3-(intOf vi).toNat)
 case atStart=>exact⟨0,0,0,0,by omega,rfl,ra,rb,fun h=>by omega,fun h=>by omega,fun h=>by omega,hb0⟩
 case round=>
  clear ra rb hb0;obtain⟨k,g0,g1,g2,hk,rfl,ra,rb,p0,p1,p2,hb⟩:=hrel;have hla:=ra.lt;have hlb:=rb.lt;rcases(show k=0\/k=1\/k=2\/k=3 by omega) with rfl|rfl|rfl|rfl
  ·have rb':=rb;simp only[tv] at rb;simp at rb;go_wp2_with (go_at_call 61;refine(xC _).mono ?_;rintro e w1 ⟨g,rfl,hg,hn,hb1⟩;have hgl:=hn.lt;have rb1:=rb.below hb1 hlb;have ra1:=ra.below hb1 hla;have d:=fun j=>rb1.cell j;have f:=fun j=>rb1.frozen j;have l1:=rb1.lt)
   obtain⟨q1,q2,q3,q4⟩:=q4h ra1 rb1 (hb.trans (hb1.mono (show n<=wr.heap.size by omega))) 1 (.slice (some ⟨g,0,none⟩) 1 1) (.int .i64 0)
   exact⟨⟨1,g,0,0,by omega,by go_num,q1,by simpa [tv] using q2,fun _=>⟨q4 _ hn (by omega),by omega⟩,fun h=>by omega,fun h=>by omega,q3⟩,by simp only[intOf];omega⟩
  ·have rb':=rb;simp only[tv] at rb;simp at rb;go_wp2_with (go_at_call 61;refine(xC _).mono ?_;rintro e w1 ⟨g,rfl,hg,hn,hb1⟩;have hgl:=hn.lt;have rb1:=rb.below hb1 hlb;have ra1:=ra.below hb1 hla;have d:=fun j=>rb1.cell j;have f:=fun j=>rb1.frozen j;have l1:=rb1.lt)
   obtain⟨q1,q2,q3,q4⟩:=q4h ra1 rb1 (hb.trans (hb1.mono (show n<=wr.heap.size by omega))) 3 (.slice (some ⟨g,0,none⟩) 1 1) (.int .i64 0)
   exact⟨⟨2,g0,g,0,by omega,by go_num,q1,by simpa [tv] using q2,fun _=>⟨q4 _ ((p0 (by omega)).1.below hb1 (p0 (by omega)).1.lt) (p0 (by omega)).2,(p0 (by omega)).2⟩,fun _=>⟨q4 _ hn (by omega),by omega⟩,fun h=>by omega,q3⟩,by simp only[intOf];omega⟩
  ·have rb':=rb;simp only[tv] at rb;simp at rb;go_wp2_with (go_at_call 61;refine(xC _).mono ?_;rintro e w1 ⟨g,rfl,hg,hn,hb1⟩;have hgl:=hn.lt;have rb1:=rb.below hb1 hlb;have ra1:=ra.below hb1 hla;have d:=fun j=>rb1.cell j;have f:=fun j=>rb1.frozen j;have l1:=rb1.lt)
   obtain⟨q1,q2,q3,q4⟩:=q4h ra1 rb1 (hb.trans (hb1.mono (show n<=wr.heap.size by omega))) 5 (.slice (some ⟨g,0,none⟩) 1 1) (.int .i64 0)
   exact⟨⟨3,g0,g1,g,by omega,by go_num,q1,by simpa [tv] using q2,fun _=>⟨q4 _ ((p0 (by omega)).1.below hb1 (p0 (by omega)).1.lt) (p0 (by omega)).2,(p0 (by omega)).2⟩,fun _=>⟨q4 _ ((p1 (by omega)).1.below hb1 (p1 (by omega)).1.lt) (p1 (by omega)).2,(p1 (by omega)).2⟩,fun _=>⟨q4 _ hn (by omega),by omega⟩,q3⟩,by simp only[intOf];omega⟩
  ·simp only[tv] at rb;simp at rb;have d:=fun j=>rb.cell j
   have da:=fun j=>ra.cell j
   have fa:=fun j=>ra.frozen j
   have N:∀g,iE wr g->n+1<g->iE ((((((((wr.setCell ⟨n,0,none⟩ (.slice none 0 0)).setCell ⟨n,1,none⟩ (.slice (some ⟨g0,0,none⟩) 1 1)).setCell ⟨n,2,none⟩ (.int .i64 0)).setCell ⟨n,3,none⟩ (.slice (some ⟨g1,0,none⟩) 1 1)).setCell ⟨n,4,none⟩ (.int .i64 0)).setCell ⟨n,5,none⟩ (.slice (some ⟨g2,0,none⟩) 1 1)).setCell ⟨n,6,none⟩ (.int .i64 0)).setCell ⟨n,7,none⟩ (.int .i64 0)) g:=fun g h hl=>
    h.of_block ((Below.heap_setCell _ _ _ _ (show g≠n by omega)).trans <| (Below.heap_setCell _ _ _ _ (show g≠n by omega)).trans <| (Below.heap_setCell _ _ _ _ (show g≠n by omega)).trans <| (Below.heap_setCell _ _ _ _ (show g≠n by omega)).trans <| (Below.heap_setCell _ _ _ _ (show g≠n by omega)).trans <| (Below.heap_setCell _ _ _ _ (show g≠n by omega)).trans <| (Below.heap_setCell _ _ _ _ (show g≠n by omega)).trans <| Below.heap_setCell _ _ _ _ (show g≠n by omega))
   have S:∀{W:World} (j:Nat) (v:Value),Below n w W->Below n w (W.setCell ⟨n,j,none⟩ v):=fun j v h=>⟨h.os,h.tape,h.output,by simpa using h.size,fun k hk=>(Below.heap_setCell _ _ _ _ (show k≠n by omega)).trans (h.block k hk)⟩
   have B8:=S 7 (.int .i64 0) (S 6 (.int .i64 0) (S 5 (.slice (some ⟨g2,0,none⟩) 1 1) (S 4 (.int .i64 0) (S 3 (.slice (some ⟨g1,0,none⟩) 1 1) (S 2 (.int .i64 0) (S 1 (.slice (some ⟨g0,0,none⟩) 1 1) (S 0 (.slice none 0 0) hb)))))));have E0:Hid (iE _ g0):=N g0 (p0 (by omega)).1 (p0 (by omega)).2
   have E1:Hid (iE _ g1):=N g1 (p1 (by omega)).1 (p1 (by omega)).2
   have E2:Hid (iE _ g2):=N g2 (p2 (by omega)).1 (p2 (by omega)).2
   have B:Hid (Below w.heap.size w _):=B8.mono (by have:=HN.out;omega)
   have G:Hid (n+1<g0/\n+1<g1/\n+1<g2):=⟨(p0 (by omega)).2,(p1 (by omega)).2,(p2 (by omega)).2⟩
   clear N S B8 p0 p1 p2;go_wp2_with fail;refine bodyPost_ret (v:=.agg #[.slice none 0 0,.slice (some ⟨g0,0,none⟩) 1 1,.int .i64 0,.slice (some ⟨g1,0,none⟩) 1 1,.int .i64 0,.slice (some ⟨g2,0,none⟩) 1 1,.int .i64 0,.int .i64 0]) ?_ rfl ?_
   ·simp[results,Tryz.results38,go_sem,da]
   ·exact⟨g0,g1,g2,rfl,qhp (by have:=HN.out;have:=G.out;omega) E0.out,qhp (by have:=HN.out;have:=G.out;omega) E1.out,qhp (by have:=HN.out;have:=G.out;omega) E2.out,B.out⟩

end
end Go.Proofs.YtlojfgdpmaigmagGreatDoor

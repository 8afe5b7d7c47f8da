/- Total's visitor: what a tree knows of some times comes behind what was gathered. -/
import Derived.Test.YtlojfgdpmaigmagGreatDoorP39
import Derived.Test.YtlojfgdpmaigmagGreatDoorP27
import Derived.Deep.RegionHeld3
import Derived.Test.YtlojfgdpmaigmagGreatDoorTotalRef
namespace Go.Proofs.YtlojfgdpmaigmagGreatDoor
section
open Go.RowKit Plain

structure TtA(w wr:World)(A:Option Addr)(C:Nat)(ss:List ByteArray)(t0 t1 t2:TR)(f p:Int)(bb pb lb cb B:Nat)(GA:Option Addr)(GC:Nat)(G:List En):Prop where
 below:Below w.heap.size w wr
 bx:RowL wr bb 35 (aJ A C ss t0 t1 t2 f)
 pl:RowL wr pb 3 [.int .i64 p]
 ls:RowL wr lb 103 [.slice GA G.length GC]
 cd:RowL wr cb 36 [.int .i64 0]
 own:wr.ownsRow B 132 7 (.slice GA G.length GC) G.length (aB G)
 res:RowL wr (w.heap.size+1) 42 (ruV zro)
 hB:bb<B/\pb<B/\lb<B/\cb<B/\B<=wr.heap.size/\w.heap.size+1<lb/\w.heap.size+1<cb
 ne:lb≠bb/\lb≠pb/\lb≠cb/\cb≠bb/\cb≠pb

section
variable {w wr w' : World} {A : Option Addr} {C : Nat} {ss : List ByteArray} {t0 t1 t2 : TR} {f p : Int} {bb pb lb cb B : Nat} {GA : Option Addr} {GC : Nat} {G : List En}

theorem TtA.next(h:TtA w wr A C ss t0 t1 t2 f p bb pb lb cb B GA GC G)(hb:Below wr.heap.size wr w'):TtA w w' A C ss t0 t1 t2 f p bb pb lb cb B GA GC G:=
 ⟨aC h.below (Nat.le_refl _) hb,h.bx.below hb h.bx.lt,h.pl.below hb h.pl.lt,h.ls.below hb h.ls.lt,h.cd.below hb h.cd.lt,iR h.own hb,h.res.below hb h.res.lt,⟨h.hB.1,h.hB.2.1,h.hB.2.2.1,h.hB.2.2.2.1,Nat.le_trans h.hB.2.2.2.2.1 hb.size,h.hB.2.2.2.2.2⟩,h.ne⟩

theorem TtA.code(h:TtA w wr A C ss t0 t1 t2 f p bb pb lb cb B GA GC G):TtA w (wr.setCell ⟨cb,0,none⟩ (.int .i64 0)) A C ss t0 t1 t2 f p bb pb lb cb B GA GC G:=by
 obtain⟨e1,e2,e3,e4,e5⟩:=h.ne;obtain⟨b1,b2,b3,b4,b5,b6,b7⟩:=h.hB;have k:∀i,i≠cb->(wr.setCell ⟨cb,0,none⟩ (.int .i64 0)).heap[i]? =wr.heap[i]? :=fun i hi=>Below.heap_setCell _ _ _ _ hi
 refine⟨h.below.setCell (p:=⟨cb,0,none⟩) (by show w.heap.size<=cb;omega) _,h.bx.of_block (k _ (fun e=>e4 e.symm)),h.pl.of_block (k _ (fun e=>e5 e.symm)),h.ls.of_block (k _ e3),h.cd.set 0 _,aV h.own fun i hi=>k i (by have:=(h.own.lt i hi).1;omega),h.res.of_block (k _ (by omega)),⟨b1,b2,b3,b4,by simpa using b5,b6,b7⟩,h.ne⟩

theorem TtA.more{w5:World}{GA':Option Addr}{GC':Nat}{M:List En}(h:TtA w wr A C ss t0 t1 t2 f p bb pb lb cb B GA GC G)(hown:w5.ownsRow B 132 7 (.slice GA' (G.length+M.length) GC') (G.length+M.length) (aB G++aB M))(hgrow:wr.grownBy w5 (Value.slice GA G.length GC).ownBlock):
  TtA w (w5.setCell ⟨lb,0,none⟩ (.slice GA' (G.length+M.length) GC')) A C ss t0 t1 t2 f p bb pb lb cb B GA' GC' (G++M):=by
 obtain⟨e1,e2,e3,e4,e5⟩:=h.ne;obtain⟨b1,b2,b3,b4,b5,b6,b7⟩:=h.hB;have hov:=uM h.own;have k1:∀i,i<B->w5.heap[i]? =wr.heap[i]? :=fun i hi=>hgrow.block i (by omega) (fun e=>by have:=(hov i e.symm).1;omega)
 have k2:∀i,i≠lb->(w5.setCell ⟨lb,0,none⟩ (.slice GA' (G.length+M.length) GC')).heap[i]? =w5.heap[i]? :=fun i hi=>Below.heap_setCell _ _ _ _ hi
 have hl:(G++M).length=G.length+M.length:=List.length_append;have hs:=hgrow.size;have hws:=h.below.size;refine⟨⟨hgrow.os.trans h.below.os,hgrow.tape.trans h.below.tape,hgrow.output.trans h.below.output,by simp;omega,fun i hi=>(k2 i (by omega)).trans ((k1 i (by omega)).trans (h.below.block i hi))⟩,h.bx.of_block ((k2 _ (fun e=>e1 e.symm)).trans (k1 _ b1)),h.pl.of_block ((k2 _ (fun e=>e2 e.symm)).trans (k1 _ b2)),?_,h.cd.of_block ((k2 _ (fun e=>e3 e.symm)).trans (k1 _ b4)),?_,h.res.of_block ((k2 _ (by omega)).trans (k1 _ (by omega))),⟨b1,b2,b3,b4,by simp;omega,b6,b7⟩,h.ne⟩
 ·rw[hl];exact(h.ls.of_block (k1 _ b3)).set 0 _
 ·rw[hl,jS];exact aV hown fun i hi=>k2 i (by have:=(hown.lt i hi).1;omega)
end

theorem TtA.lrow{w wr w5:World}{A:Option Addr}{C:Nat}{ss:List ByteArray}{t0 t1 t2:TR}{f p:Int}{bb pb lb cb B:Nat}{GA:Option Addr}{GC:Nat}{G:List En}(h:TtA w wr A C ss t0 t1 t2 f p bb pb lb cb B GA GC G)(hgrow:wr.grownBy w5 (Value.slice GA G.length GC).ownBlock):RowL w5 lb 103 [.slice GA G.length GC]:=by
 obtain⟨b1,b2,b3,b4,b5,b6,b7⟩:=h.hB;have hov:=uM h.own;exact h.ls.of_block (hgrow.block lb (by omega) (fun e=>by have:=(hov lb e.symm).1;omega))

theorem q9j{w2:World}{N cb n C:Nat}{A:Option Addr}{t:TypeId}{x:Value}{vs:List Value}(h:w2.ownsRow N t 7 (.slice A n C) n vs)(hc:cb<N):aH (w2.setCell ⟨cb,0,none⟩ x).heap.size (w2.setCell ⟨cb,0,none⟩ x) A vs:=by
 have h3:(w2.setCell ⟨cb,0,none⟩ x).ownsRow N t 7 (.slice A n C) n vs:=aV h fun i hi=>Below.heap_setCell _ _ _ _ (by have:=(h.lt i hi).1;show i≠cb;omega)
 obtain⟨A',C',e,-,-,-,hr⟩:=aP h3;cases e;exact hr

theorem zX(w:World)(r:Option Nat):w.grownBy w r:=⟨rfl,rfl,rfl,Nat.le_refl _,fun _ _ _=>rfl⟩

theorem q2l{w:World}{N:Nat}(A:Option Addr)(C:Nat)(xs:List En)(h:aH N w A (aB xs))(hA:A=none->C=0):(A=none/\xs=[]/\C=0)\/∃ad,A=some ad:=by
 cases A with
 |none=>
  left;refine⟨rfl,?_,hA rfl⟩;rcases h with h|⟨b,o,hA',_⟩
  ·have:=gZ xs;rw[h] at this;simp at this;exact List.eq_nil_of_length_eq_zero (by omega)
  ·cases hA'
 |some ad=>exact .inr ⟨ad,rfl⟩

theorem qo2{w:World}{N:Nat}{ad:Addr}{M:List En}(h:aH N w (some ad) (aB M)):∀j u,(aB M)[j]? =some u->w.cell? (ad.add j)=some u:=by
 rcases h with h|⟨b,o,hA,_,hc⟩
 ·intro j u hu;rw[h] at hu;simp at hu
 ·intro j u hu;cases hA;rw[WideShapes.add_plain];exact hc j u hu

set_option maxRecDepth 20000 in
set_option maxHeartbeats 2000000 in
theorem qkh(w W:World)(A:Option Addr)(C:Nat)(ss:List ByteArray)(t0 t1 t2:TR)(f p:Int)(bb pb lb cb B:Nat)(GA:Option Addr)(GC:Nat)(G:List En)(a b:Int)(L:List En)(h:TtA w W A C ss t0 t1 t2 f p bb pb lb cb B GA GC G)(h0:t0.ok w)(hp:0<=p/\p<16)(ha:0<=a)(hab:a<=b)(hb:b<=1048575)(hL:allP (t0.ps.map PN.nd) t0.r 0 1099511627776=(0,L))(hn:G.length<=900000):
  Calls Tryz.prog 97 #[.int .i64 0,.int .i64 a,.int .i64 b,.pointer (some ⟨cb,0,none⟩),.pointer (some ⟨bb,0,none⟩),.pointer (some ⟨pb,0,none⟩),.pointer (some ⟨lb,0,none⟩)] W
   fun e w'=>e=.returned (.tuple #[])/\∃GA' GC',TtA w w' A C ss t0 t1 t2 f p bb pb lb cb B GA' GC' (G++L.filter (selB p a b)):=by
 obtain⟨i0,hi0,hz0,hz1,hz2⟩:=info_parts kK;have con:=aI fun V (hV:Below w.heap.size w V)=>pY t0.A t0.C t0.r p a b t0.ps L V (h0.1.up hV) h0.2.1 hp ha hab hb hL
 have hML:(L.filter (selB p a b)).length<=28000:=by
  have:=kY (t0.ps.map PN.nd) t0.r 0 1099511627776;rw[hL] at this;exact Nat.le_trans (List.length_filter_le _ _) this
 generalize L.filter (selB p a b)=M at con hML ⊢;have HA:=aI h;have x0:=fun j=>h.bx.cell j
 have x1:W.cell? ⟨pb,0,none⟩=some (.int .i64 p):=h.pl.cell 0;have x2:W.cell? ⟨cb,0,none⟩=some (.int .i64 0):=h.cd.cell 0;have hbe:=h.below;clear h h0 hL;obtain⟨A0,C0,p0,r0⟩:=t0;obtain⟨A1,C1,p1,r1⟩:=t1;obtain⟨A2,C2,p2,r2⟩:=t2;simp only[aJ] at *;have y1:=x0 1;have y2:=x0 2;simp only[List.getElem?_cons_zero,List.getElem?_cons_succ] at y1 y2;clear x0
 go_enter Tryz.func97,Tryz.ntmps97
 go_wp2_with fail
 go_region_held3 (fun w'=>w'.cell? ⟨bb,1,none⟩=some (.slice A0 p0.length C0)/\w'.cell? ⟨bb,2,none⟩=some (.int .i64 r0)/\w'.cell? ⟨pb,0,none⟩=some (.int .i64 p)) (go_keep)
  (first
   |(go_at_call 94;refine(con.out _ hbe.drew).mono ?_;rintro e w2 ⟨hb2,v2,rfl,ho2⟩;obtain⟨VA,VC,rfl,hvn,-,-,hr2⟩:=aP ho2;have HVN:=aI hvn;clear hvn;have H2:=aI ((HA.out.next ((Below.refl _ _).drew)).next hb2);have d1:w2.cell? ⟨bb,1,none⟩=some (.slice A0 p0.length C0):=H2.out.bx.cell 1;have d2:w2.cell? ⟨bb,2,none⟩=some (.int .i64 r0):=H2.out.bx.cell 2;have d3:w2.cell? ⟨pb,0,none⟩=some (.int .i64 p):=H2.out.pl.cell 0;have c2:w2.cell? ⟨cb,0,none⟩=some (.int .i64 0):=H2.out.cd.cell 0;have f2:=fun j=>H2.out.cd.frozen j;have HR2:=aI hr2;have HR3:=aI (q9j (x:=.int .i64 0) ho2 (show cb<_ from HA.out.cd.lt));have K2:=aI H2.out.code;have k1:(w2.setCell ⟨cb,0,none⟩ (.int .i64 0)).cell? ⟨bb,1,none⟩=some (.slice A0 p0.length C0):=K2.out.bx.cell 1;have k2:(w2.setCell ⟨cb,0,none⟩ (.int .i64 0)).cell? ⟨bb,2,none⟩=some (.int .i64 r0):=K2.out.bx.cell 2;have k3:(w2.setCell ⟨cb,0,none⟩ (.int .i64 0)).cell? ⟨pb,0,none⟩=some (.int .i64 p):=K2.out.pl.cell 0;clear hb2 ho2 hr2))
 have L2:(w2.setCell ⟨cb,0,none⟩ (.int .i64 0)).cell? ⟨lb,0,none⟩=some (.slice GA G.length GC):=K2.out.ls.cell 0;have F2:=fun j=>K2.out.ls.frozen j
 have R2:=HR3;clear HA H2 HR2 HR3 d1 d2 d3 c2 f2 k1 k2 k3 y1 y2 x1 x2 con;generalize w2.setCell ⟨cb,0,none⟩ (.int .i64 0)=wd at *;rcases q2l VA VC M R2.out HVN.out with⟨rfl,rfl,rfl⟩|⟨ad,rfl⟩
 ·go_wp2_with (at_builtin;refine wpList_append_own_none rfl _ _ 103 rfl B 132 i0 7 Tryz.underlying103 hi0 (.slice GA G.length GC) G.length (aB G) rfl K2.out.own rfl ?_)
  go_end0
  have Z:=K2.out.more (M:=[]) (GA':=GA) (GC':=GC) (by simpa [aB] using K2.out.own) (zX _ _)
  rw[List.append_nil] at Z;exact⟨rfl,GA,GC,Z⟩
 ·go_wp2_with (at_builtin;refine wpList_append_own _ rfl _ _ 103 rfl B 132 i0 _ 7 56 Tryz.underlying103 hi0 hz0 hz1 hz2 rfl (by decide) (.slice GA G.length GC) G.length (aB G) rfl K2.out.own ad M.length VC (aB M) rfl (gZ M) (qo2 R2.out) (iL M) (by unfold maxLen;omega) (by omega) K2.out.hB.2.2.2.2.1 ?_;intro v5 w5 hown5 hgrow5 _;obtain⟨GA5,GC5,rfl,-⟩:=aP hown5;have X5:=aI (K2.out.more (M:=M) hown5 hgrow5);have LR:=K2.out.lrow hgrow5;have c5:=LR.cell 0;have f5:=LR.frozen 0;clear LR)
  go_end0
  exact⟨rfl,GA5,GC5,X5.out⟩

set_option maxRecDepth 20000 in
set_option maxHeartbeats 2000000 in
theorem qiu(w W:World)(A:Option Addr)(C:Nat)(ss:List ByteArray)(t0 t1 t2:TR)(f p:Int)(bb pb lb cb B:Nat)(GA:Option Addr)(GC:Nat)(G:List En)(a b:Int)(L:List En)(h:TtA w W A C ss t0 t1 t2 f p bb pb lb cb B GA GC G)(h0:t1.ok w)(hp:0<=p/\p<16)(ha:0<=a)(hab:a<=b)(hb:b<=1048575)(hL:allP (t1.ps.map PN.nd) t1.r 0 1099511627776=(0,L))(hn:G.length<=900000):
  Calls Tryz.prog 97 #[.int .i64 1,.int .i64 a,.int .i64 b,.pointer (some ⟨cb,0,none⟩),.pointer (some ⟨bb,0,none⟩),.pointer (some ⟨pb,0,none⟩),.pointer (some ⟨lb,0,none⟩)] W
   fun e w'=>e=.returned (.tuple #[])/\∃GA' GC',TtA w w' A C ss t0 t1 t2 f p bb pb lb cb B GA' GC' (G++L.filter (selB p a b)):=by
 obtain⟨i0,hi0,hz0,hz1,hz2⟩:=info_parts kK;have con:=aI fun V (hV:Below w.heap.size w V)=>pY t1.A t1.C t1.r p a b t1.ps L V (h0.1.up hV) h0.2.1 hp ha hab hb hL
 have hML:(L.filter (selB p a b)).length<=28000:=by
  have:=kY (t1.ps.map PN.nd) t1.r 0 1099511627776;rw[hL] at this;exact Nat.le_trans (List.length_filter_le _ _) this
 generalize L.filter (selB p a b)=M at con hML ⊢;have HA:=aI h;have x0:=fun j=>h.bx.cell j
 have x1:W.cell? ⟨pb,0,none⟩=some (.int .i64 p):=h.pl.cell 0;have x2:W.cell? ⟨cb,0,none⟩=some (.int .i64 0):=h.cd.cell 0;have hbe:=h.below;clear h h0 hL;obtain⟨A0,C0,p0,r0⟩:=t0;obtain⟨A1,C1,p1,r1⟩:=t1;obtain⟨A2,C2,p2,r2⟩:=t2;simp only[aJ] at *;have y1:=x0 3;have y2:=x0 4;simp only[List.getElem?_cons_zero,List.getElem?_cons_succ] at y1 y2;clear x0
 go_enter Tryz.func97,Tryz.ntmps97
 go_wp2_with fail
 go_region_held3 (fun w'=>w'.cell? ⟨bb,3,none⟩=some (.slice A1 p1.length C1)/\w'.cell? ⟨bb,4,none⟩=some (.int .i64 r1)/\w'.cell? ⟨pb,0,none⟩=some (.int .i64 p)) (go_keep)
  (first
   |(go_at_call 94;refine(con.out _ hbe.drew).mono ?_;rintro e w2 ⟨hb2,v2,rfl,ho2⟩;obtain⟨VA,VC,rfl,hvn,-,-,hr2⟩:=aP ho2;have HVN:=aI hvn;clear hvn;have H2:=aI ((HA.out.next ((Below.refl _ _).drew)).next hb2);have d1:w2.cell? ⟨bb,3,none⟩=some (.slice A1 p1.length C1):=H2.out.bx.cell 3;have d2:w2.cell? ⟨bb,4,none⟩=some (.int .i64 r1):=H2.out.bx.cell 4;have d3:w2.cell? ⟨pb,0,none⟩=some (.int .i64 p):=H2.out.pl.cell 0;have c2:w2.cell? ⟨cb,0,none⟩=some (.int .i64 0):=H2.out.cd.cell 0;have f2:=fun j=>H2.out.cd.frozen j;have HR2:=aI hr2;have HR3:=aI (q9j (x:=.int .i64 0) ho2 (show cb<_ from HA.out.cd.lt));have K2:=aI H2.out.code;have k1:(w2.setCell ⟨cb,0,none⟩ (.int .i64 0)).cell? ⟨bb,3,none⟩=some (.slice A1 p1.length C1):=K2.out.bx.cell 3;have k2:(w2.setCell ⟨cb,0,none⟩ (.int .i64 0)).cell? ⟨bb,4,none⟩=some (.int .i64 r1):=K2.out.bx.cell 4;have k3:(w2.setCell ⟨cb,0,none⟩ (.int .i64 0)).cell? ⟨pb,0,none⟩=some (.int .i64 p):=K2.out.pl.cell 0;clear hb2 ho2 hr2))
 have L2:(w2.setCell ⟨cb,0,none⟩ (.int .i64 0)).cell? ⟨lb,0,none⟩=some (.slice GA G.length GC):=K2.out.ls.cell 0;have F2:=fun j=>K2.out.ls.frozen j
 have R2:=HR3;clear HA H2 HR2 HR3 d1 d2 d3 c2 f2 k1 k2 k3 y1 y2 x1 x2 con;generalize w2.setCell ⟨cb,0,none⟩ (.int .i64 0)=wd at *;rcases q2l VA VC M R2.out HVN.out with⟨rfl,rfl,rfl⟩|⟨ad,rfl⟩
 ·go_wp2_with (at_builtin;refine wpList_append_own_none rfl _ _ 103 rfl B 132 i0 7 Tryz.underlying103 hi0 (.slice GA G.length GC) G.length (aB G) rfl K2.out.own rfl ?_)
  go_end0
  have Z:=K2.out.more (M:=[]) (GA':=GA) (GC':=GC) (by simpa [aB] using K2.out.own) (zX _ _)
  rw[List.append_nil] at Z;exact⟨rfl,GA,GC,Z⟩
 ·go_wp2_with (at_builtin;refine wpList_append_own _ rfl _ _ 103 rfl B 132 i0 _ 7 56 Tryz.underlying103 hi0 hz0 hz1 hz2 rfl (by decide) (.slice GA G.length GC) G.length (aB G) rfl K2.out.own ad M.length VC (aB M) rfl (gZ M) (qo2 R2.out) (iL M) (by unfold maxLen;omega) (by omega) K2.out.hB.2.2.2.2.1 ?_;intro v5 w5 hown5 hgrow5 _;obtain⟨GA5,GC5,rfl,-⟩:=aP hown5;have X5:=aI (K2.out.more (M:=M) hown5 hgrow5);have LR:=K2.out.lrow hgrow5;have c5:=LR.cell 0;have f5:=LR.frozen 0;clear LR)
  go_end0
  exact⟨rfl,GA5,GC5,X5.out⟩

set_option maxRecDepth 20000 in
set_option maxHeartbeats 2000000 in
theorem qle(w W:World)(A:Option Addr)(C:Nat)(ss:List ByteArray)(t0 t1 t2:TR)(f p:Int)(bb pb lb cb B:Nat)(GA:Option Addr)(GC:Nat)(G:List En)(a b:Int)(L:List En)(h:TtA w W A C ss t0 t1 t2 f p bb pb lb cb B GA GC G)(h0:t2.ok w)(hp:0<=p/\p<16)(ha:0<=a)(hab:a<=b)(hb:b<=1048575)(hL:allP (t2.ps.map PN.nd) t2.r 0 1099511627776=(0,L))(hn:G.length<=900000):
  Calls Tryz.prog 97 #[.int .i64 2,.int .i64 a,.int .i64 b,.pointer (some ⟨cb,0,none⟩),.pointer (some ⟨bb,0,none⟩),.pointer (some ⟨pb,0,none⟩),.pointer (some ⟨lb,0,none⟩)] W
   fun e w'=>e=.returned (.tuple #[])/\∃GA' GC',TtA w w' A C ss t0 t1 t2 f p bb pb lb cb B GA' GC' (G++L.filter (selB p a b)):=by
 obtain⟨i0,hi0,hz0,hz1,hz2⟩:=info_parts kK;have con:=aI fun V (hV:Below w.heap.size w V)=>pY t2.A t2.C t2.r p a b t2.ps L V (h0.1.up hV) h0.2.1 hp ha hab hb hL
 have hML:(L.filter (selB p a b)).length<=28000:=by
  have:=kY (t2.ps.map PN.nd) t2.r 0 1099511627776;rw[hL] at this;exact Nat.le_trans (List.length_filter_le _ _) this
 generalize L.filter (selB p a b)=M at con hML ⊢;have HA:=aI h;have x0:=fun j=>h.bx.cell j
 have x1:W.cell? ⟨pb,0,none⟩=some (.int .i64 p):=h.pl.cell 0;have x2:W.cell? ⟨cb,0,none⟩=some (.int .i64 0):=h.cd.cell 0;have hbe:=h.below;clear h h0 hL;obtain⟨A0,C0,p0,r0⟩:=t0;obtain⟨A1,C1,p1,r1⟩:=t1;obtain⟨A2,C2,p2,r2⟩:=t2;simp only[aJ] at *;have y1:=x0 5;have y2:=x0 6;simp only[List.getElem?_cons_zero,List.getElem?_cons_succ] at y1 y2;clear x0
 go_enter Tryz.func97,Tryz.ntmps97
 go_wp2_with fail
 go_region_held3 (fun w'=>w'.cell? ⟨bb,5,none⟩=some (.slice A2 p2.length C2)/\w'.cell? ⟨bb,6,none⟩=some (.int .i64 r2)/\w'.cell? ⟨pb,0,none⟩=some (.int .i64 p)) (go_keep)
  (first
   |(go_at_call 94;refine(con.out _ hbe.drew).mono ?_;rintro e w2 ⟨hb2,v2,rfl,ho2⟩;obtain⟨VA,VC,rfl,hvn,-,-,hr2⟩:=aP ho2;have HVN:=aI hvn;clear hvn;have H2:=aI ((HA.out.next ((Below.refl _ _).drew)).next hb2);have d1:w2.cell? ⟨bb,5,none⟩=some (.slice A2 p2.length C2):=H2.out.bx.cell 5;have d2:w2.cell? ⟨bb,6,none⟩=some (.int .i64 r2):=H2.out.bx.cell 6;have d3:w2.cell? ⟨pb,0,none⟩=some (.int .i64 p):=H2.out.pl.cell 0;have c2:w2.cell? ⟨cb,0,none⟩=some (.int .i64 0):=H2.out.cd.cell 0;have f2:=fun j=>H2.out.cd.frozen j;have HR2:=aI hr2;have HR3:=aI (q9j (x:=.int .i64 0) ho2 (show cb<_ from HA.out.cd.lt));have K2:=aI H2.out.code;have k1:(w2.setCell ⟨cb,0,none⟩ (.int .i64 0)).cell? ⟨bb,5,none⟩=some (.slice A2 p2.length C2):=K2.out.bx.cell 5;have k2:(w2.setCell ⟨cb,0,none⟩ (.int .i64 0)).cell? ⟨bb,6,none⟩=some (.int .i64 r2):=K2.out.bx.cell 6;have k3:(w2.setCell ⟨cb,0,none⟩ (.int .i64 0)).cell? ⟨pb,0,none⟩=some (.int .i64 p):=K2.out.pl.cell 0;clear hb2 ho2 hr2))
 have L2:(w2.setCell ⟨cb,0,none⟩ (.int .i64 0)).cell? ⟨lb,0,none⟩=some (.slice GA G.length GC):=K2.out.ls.cell 0;have F2:=fun j=>K2.out.ls.frozen j
 have R2:=HR3;clear HA H2 HR2 HR3 d1 d2 d3 c2 f2 k1 k2 k3 y1 y2 x1 x2 con;generalize w2.setCell ⟨cb,0,none⟩ (.int .i64 0)=wd at *;rcases q2l VA VC M R2.out HVN.out with⟨rfl,rfl,rfl⟩|⟨ad,rfl⟩
 ·go_wp2_with (at_builtin;refine wpList_append_own_none rfl _ _ 103 rfl B 132 i0 7 Tryz.underlying103 hi0 (.slice GA G.length GC) G.length (aB G) rfl K2.out.own rfl ?_)
  go_end0
  have Z:=K2.out.more (M:=[]) (GA':=GA) (GC':=GC) (by simpa [aB] using K2.out.own) (zX _ _)
  rw[List.append_nil] at Z;exact⟨rfl,GA,GC,Z⟩
 ·go_wp2_with (at_builtin;refine wpList_append_own _ rfl _ _ 103 rfl B 132 i0 _ 7 56 Tryz.underlying103 hi0 hz0 hz1 hz2 rfl (by decide) (.slice GA G.length GC) G.length (aB G) rfl K2.out.own ad M.length VC (aB M) rfl (gZ M) (qo2 R2.out) (iL M) (by unfold maxLen;omega) (by omega) K2.out.hB.2.2.2.2.1 ?_;intro v5 w5 hown5 hgrow5 _;obtain⟨GA5,GC5,rfl,-⟩:=aP hown5;have X5:=aI (K2.out.more (M:=M) hown5 hgrow5);have LR:=K2.out.lrow hgrow5;have c5:=LR.cell 0;have f5:=LR.frozen 0;clear LR)
  go_end0
  exact⟨rfl,GA5,GC5,X5.out⟩

end
section
open Go.RowKit Plain

def TtTo(w:World)(A:Option Addr)(C:Nat)(ss:List ByteArray)(t0 t1 t2:TR)(f p:Int)(bb pb lb cb B:Nat)(G:List En)(e:Ending)(w':World):Prop:=
 e=.returned (.tuple #[])/\∃GA GC,TtA w w' A C ss t0 t1 t2 f p bb pb lb cb B GA GC G

def VisT(w:World)(A:Option Addr)(C:Nat)(ss:List ByteArray)(t0 t1 t2:TR)(f p:Int)(bb pb lb cb B:Nat)(j:Int)(L:List En):Prop:=
 ∀(W:World) (GA:Option Addr) (GC:Nat) (G:List En) (a b:Int),TtA w W A C ss t0 t1 t2 f p bb pb lb cb B GA GC G->0<=a->a<=b->b<=1048575->G.length<=850000->
  Calls Tryz.prog 97 #[.int .i64 j,.int .i64 a,.int .i64 b,.pointer (some ⟨cb,0,none⟩),.pointer (some ⟨bb,0,none⟩),.pointer (some ⟨pb,0,none⟩),.pointer (some ⟨lb,0,none⟩)] W (TtTo w A C ss t0 t1 t2 f p bb pb lb cb B (G++L.filter (selB p a b)))

def CovT(w:World)(A:Option Addr)(C:Nat)(ss:List ByteArray)(t0 t1 t2:TR)(f p:Int)(bb pb lb cb B:Nat)(L:Nat->List En)(k q:Nat):Prop:=
 ∀(W:World) (GA:Option Addr) (GC:Nat) (G:List En) (a b:Int),TtA w W A C ss t0 t1 t2 f p bb pb lb cb B GA GC G->0<=a->a<=1048576->b<=1048575->G.length+28000*q<=850000->
  Calls Tryz.prog 96 #[.int .i64 (k:Int),.int .i64 a,.int .i64 b,.func (.func 97) #[] #[.pointer (some ⟨cb,0,none⟩),.pointer (some ⟨bb,0,none⟩),.pointer (some ⟨pb,0,none⟩),.pointer (some ⟨lb,0,none⟩)]] W (TtTo w A C ss t0 t1 t2 f p bb pb lb cb B (G++dH L p (bG k a b)))

theorem tN(L:Nat->List En)(p:Int)(k:Nat)(a b:Int):dH L p [(k,a,b)]=(L k).filter (selB p a b):=by
 have:(L k).filter (selB p a b)=(L k).filter (selK p a b):=rfl;rw[this];simp[dH]

theorem oK{L:Nat->List En}{p:Int}(hl:∀k,(L k).length<=28000):∀(k:Nat) (a b:Int),(dH L p (bG k a b)).length+28000<=28000*2 ^ (k+1)
 |0,a,b=>by
  unfold bG
  split
  ·simp[dH]
  ·rw[tN];have:=List.length_filter_le (selB p a b) (L 0);have:=hl 0;simp;omega
 |k+1,a,b=>by
  have hp:28000*2 ^ (k+1+1)=28000*2 ^ (k+1)+28000*2 ^ (k+1):=by rw[Nat.pow_succ 2 (k+1)];omega
  have h1:28000<=28000*2 ^ (k+1):=Nat.le_mul_of_pos_right _ (Nat.pow_pos (by decide))
  unfold bG
  split
  ·simp[dH];omega
  ·split
   ·have:=oK (p:=p) hl k a b;omega
   ·rw[nY,nY,tN,List.length_append,List.length_append];have i1:=oK (p:=p) hl k a (begN (a+szN (k+1)-1) (szN (k+1))-1);have i2:=oK (p:=p) hl k (begN (b+1) (szN (k+1))) b;have:=List.length_filter_le (selB p (begN (a+szN (k+1)-1) (szN (k+1))) (begN (b+1) (szN (k+1))-1)) (L (k+1));have:=hl (k+1);omega

theorem q7i{k:Nat}{a b:Int}(hab:¬b<a)(h:begN (b+1) (szN (k+1))<=begN (a+szN (k+1)-1) (szN (k+1))):bG (k+1) a b=bG k a b:=by
 conv=>lhs;unfold bG
 rw[if_neg hab,if_pos h]

theorem q7v{k:Nat}{a b m n:Int}(hab:¬b<a)(hm:begN (a+szN (k+1)-1) (szN (k+1))=m)(hn:begN (b+1) (szN (k+1))=n)(h:¬n<=m):bG (k+1) a b=bG k a (m-1)++(bG k n b++[(k+1,m,n-1)]):=by
 conv=>lhs;unfold bG
 rw[hm,hn,if_neg hab,if_neg h]

set_option maxRecDepth 20000 in
set_option maxHeartbeats 2000000 in
theorem qos(w:World)(A:Option Addr)(C:Nat)(ss:List ByteArray)(t0 t1 t2:TR)(f p:Int)(bb pb lb cb B:Nat)(L:Nat->List En)(hZ:SzAt w)(hv:VisT w A C ss t0 t1 t2 f p bb pb lb cb B 0 (L 0)):CovT w A C ss t0 t1 t2 f p bb pb lb cb B L 0 1:=by
 intro W GA GC G a b h ha ha2 hb hn;have HA:=aI h;have zi:=qr1;have con1:=aI fun V (hV:SzAt V)=>jJ V hV
 have HZ:=aI (hZ.below h.below);clear h
 by_cases hab:b<a
 ·have e0:bG 0 a b=[]:=by unfold bG;rw[if_pos hab]
  have HG:Hid (G++dH L p (bG 0 a b)=G):=by show _=_;rw[e0];simp[dH]
  go_enter Tryz.func96,Tryz.ntmps96
  go_wp2_with fail;refine bodyPost_ret (results_none rfl _ _ _) rfl ?_;rw[HG.out];exact⟨rfl,GA,GC,HA.out⟩
 ·have hab':¬b<a:=hab;have e0:bG 0 a b=[(0,a,b)]:=by unfold bG;rw[if_neg hab]
  have HG:Hid (G++dH L p (bG 0 a b)=G++(L 0).filter (selB p a b)):=by show _=_;rw[e0,tN]
  have con2:Hid (∀V:World,Calls Tryz.prog 90 #[.int .i64 a,.int .i64 1] V fun e w'=>e=.returned (.int .i64 a)/\w'=V):=fun V=>by
   have c:=lU a 1 V (by omega) (.inl rfl)
   rwa [show a-a%1=a by omega] at c
  have con3:Hid (∀V:World,Calls Tryz.prog 90 #[.int .i64 (b+1),.int .i64 1] V fun e w'=>e=.returned (.int .i64 (b+1))/\w'=V):=fun V=>by
   have c:=lU (b+1) 1 V (by omega) (.inl rfl)
   rwa [show b+1-(b+1)%1=b+1 by omega] at c
  have u1:IntKind.i64.wrap (a+1)=a+1:=by rw[IntKind.wrap_i64];omega
  have u2:IntKind.i64.wrap (b+1)=b+1:=by rw[IntKind.wrap_i64];omega
  have u3:¬b+1<=a:=by omega
  rw[HG.out];clear e0
  go_enter Tryz.func96,Tryz.ntmps96
  go_wp2_with (first
   |(go_at_call 87;refine(con1.out _ HZ.out).mono ?_;rintro e w1 ⟨rfl,hb1⟩;have H1:=aI (HA.out.next hb1);clear hb1)
   |(go_at_call 90;have kk:=B1;clear kk;refine(con3.out _).mono ?_;rintro e wx ⟨rfl,hwx⟩;subst wx)
   |(go_at_call 90;refine(con2.out _).mono ?_;rintro e wx ⟨rfl,hwx⟩;subst wx;have B1:True:=trivial)
   |(go_at_call 97;refine(hv _ GA GC G a b H1.out ha (by omega) hb (by omega)).mono ?_;rintro e w2 ⟨rfl,hT⟩))
  go_end0
  exact⟨rfl,hT⟩

set_option maxRecDepth 20000 in
set_option maxHeartbeats 2000000 in
theorem qok(w:World)(A:Option Addr)(C:Nat)(ss:List ByteArray)(t0 t1 t2:TR)(f p:Int)(bb pb lb cb B:Nat)(L:Nat->List En)(hZ:SzAt w)(hl:∀k,(L k).length<=28000)(hv:VisT w A C ss t0 t1 t2 f p bb pb lb cb B 1 (L 1))(hc:CovT w A C ss t0 t1 t2 f p bb pb lb cb B L 0 1):CovT w A C ss t0 t1 t2 f p bb pb lb cb B L 1 3:=by
 intro W GA GC G a b h ha ha2 hb hn;have HA:=aI h;have zi:=vC;have con1:=aI fun V (hV:SzAt V)=>jJ V hV
 have HZ:=aI (hZ.below h.below);clear h
 by_cases hab:b<a
 ·have e0:bG 1 a b=[]:=by unfold bG;rw[if_pos hab]
  have HG:Hid (G++dH L p (bG 1 a b)=G):=by show _=_;rw[e0];simp[dH]
  go_enter Tryz.func96,Tryz.ntmps96
  go_wp2_with fail;refine bodyPost_ret (results_none rfl _ _ _) rfl ?_;rw[HG.out];exact⟨rfl,GA,GC,HA.out⟩
 ·have hab':¬b<a:=hab;obtain⟨m,hm⟩:∃m,begN (a+60-1) 60=m:=⟨_,rfl⟩;obtain⟨n,hnn⟩:∃n,begN (b+1) 60=n:=⟨_,rfl⟩;have hmb:a<=m/\m<=1052176:=by rw[<-hm];unfold begN;omega
  have hnb:0<=n/\n<=b+1:=by rw[<-hnn];unfold begN;omega
  have con2:Hid (∀V:World,Calls Tryz.prog 90 #[.int .i64 (a+60-1),.int .i64 60] V fun e w'=>e=.returned (.int .i64 m)/\w'=V):=fun V=>by
   have c:=lU (a+60-1) 60 V (by omega) (by decide)
   rwa [show a+60-1-(a+60-1)%60=m from hm] at c
  have con3:Hid (∀V:World,Calls Tryz.prog 90 #[.int .i64 (b+1),.int .i64 60] V fun e w'=>e=.returned (.int .i64 n)/\w'=V):=fun V=>by
   have c:=lU (b+1) 60 V (by omega) (by decide)
   rwa [show b+1-(b+1)%60=n from hnn] at c
  have u1:IntKind.i64.wrap (a+60)=a+60:=by rw[IntKind.wrap_i64];omega
  have u1':IntKind.i64.wrap (a+60-1)=a+60-1:=by rw[IntKind.wrap_i64];omega
  have u2:IntKind.i64.wrap (b+1)=b+1:=by rw[IntKind.wrap_i64];omega
  have u4:IntKind.i64.wrap (m-1)=m-1:=by rw[IntKind.wrap_i64];omega
  have u5:IntKind.i64.wrap (n-1)=n-1:=by rw[IntKind.wrap_i64];omega
  by_cases hle:n<=m
  ·have e0:bG 1 a b=bG 0 a b:=q7i hab (show begN (b+1) 60<=begN (a+60-1) 60 by rw[hm,hnn];exact hle)
   have HG:=aI e0;clear e0 hm hnn;rw[HG.out]
   go_enter Tryz.func96,Tryz.ntmps96
   go_wp2_with (first
    |(go_at_call 87;refine(con1.out _ HZ.out).mono ?_;rintro e w1 ⟨rfl,hb1⟩;have H1:=aI (HA.out.next hb1);clear hb1)
    |(go_at_call 90;have kk:=B1;clear kk;refine(con3.out _).mono ?_;rintro e wx ⟨rfl,hwx⟩;subst wx)
    |(go_at_call 90;refine(con2.out _).mono ?_;rintro e wx ⟨rfl,hwx⟩;subst wx;have B1:True:=trivial)
    |(go_at_call 96;refine(hc _ GA GC G a b H1.out ha ha2 hb (by omega)).mono ?_;rintro e w2 ⟨rfl,hT⟩))
   refine bodyPost_ret (results_none rfl _ _ _) rfl ?_;exact⟨rfl,hT⟩
  ·have e0:bG 1 a b=bG 0 a (m-1)++(bG 0 n b++[(1,m,n-1)]):=q7v hab hm hnn hle
   have HG:Hid (G++dH L p (bG 1 a b)=((G++dH L p (bG 0 a (m-1)))++dH L p (bG 0 n b))++(L 1).filter (selB p m (n-1))):=by
    show _=_;rw[e0,nY,nY,tN];simp
   have l1:=oK (p:=p) hl 0 a (m-1);have l2:=oK (p:=p) hl 0 n b;have g1:(G++dH L p (bG 0 a (m-1))).length+28000*1<=850000:=by rw[List.length_append];simp at l1;omega
   have g2:((G++dH L p (bG 0 a (m-1)))++dH L p (bG 0 n b)).length<=850000:=by rw[List.length_append,List.length_append];simp at l1 l2;omega
   clear e0 hm hnn l1 l2;rw[HG.out]
   go_enter Tryz.func96,Tryz.ntmps96
   go_wp2_with (first
    |(go_at_call 87;refine(con1.out _ HZ.out).mono ?_;rintro e w1 ⟨rfl,hb1⟩;have H1:=aI (HA.out.next hb1);clear hb1)
    |(go_at_call 90;have kk:=B1;clear kk;refine(con3.out _).mono ?_;rintro e wx ⟨rfl,hwx⟩;subst wx)
    |(go_at_call 90;refine(con2.out _).mono ?_;rintro e wx ⟨rfl,hwx⟩;subst wx;have B1:True:=trivial)
    |(go_at_call 96;have kk:=H2;clear kk;refine(hc _ GA2 GC2 _ n b H2.out (by omega) (by omega) hb g1).mono ?_;rintro e w3 ⟨rfl,GA3,GC3,hT3⟩;have H3:=aI hT3;clear hT3)
    |(go_at_call 96;refine(hc _ GA GC G a (m-1) H1.out ha ha2 (by omega) (by omega)).mono ?_;rintro e w2 ⟨rfl,GA2,GC2,hT2⟩;have H2:=aI hT2;clear hT2)
    |(go_at_call 97;refine(hv _ GA3 GC3 _ m (n-1) H3.out (by omega) (by omega) (by omega) g2).mono ?_;rintro e w4 ⟨rfl,hT⟩))
   go_end0
   exact⟨rfl,hT⟩

set_option maxRecDepth 20000 in
set_option maxHeartbeats 2000000 in
theorem qn3(w:World)(A:Option Addr)(C:Nat)(ss:List ByteArray)(t0 t1 t2:TR)(f p:Int)(bb pb lb cb B:Nat)(L:Nat->List En)(hZ:SzAt w)(hl:∀k,(L k).length<=28000)(hv:VisT w A C ss t0 t1 t2 f p bb pb lb cb B 2 (L 2))(hc:CovT w A C ss t0 t1 t2 f p bb pb lb cb B L 1 3):CovT w A C ss t0 t1 t2 f p bb pb lb cb B L 2 7:=by
 intro W GA GC G a b h ha ha2 hb hn;have HA:=aI h;have zi:=rY;have con1:=aI fun V (hV:SzAt V)=>jJ V hV
 have HZ:=aI (hZ.below h.below);clear h
 by_cases hab:b<a
 ·have e0:bG 2 a b=[]:=by unfold bG;rw[if_pos hab]
  have HG:Hid (G++dH L p (bG 2 a b)=G):=by show _=_;rw[e0];simp[dH]
  go_enter Tryz.func96,Tryz.ntmps96
  go_wp2_with fail;refine bodyPost_ret (results_none rfl _ _ _) rfl ?_;rw[HG.out];exact⟨rfl,GA,GC,HA.out⟩
 ·have hab':¬b<a:=hab;obtain⟨m,hm⟩:∃m,begN (a+3600-1) 3600=m:=⟨_,rfl⟩;obtain⟨n,hnn⟩:∃n,begN (b+1) 3600=n:=⟨_,rfl⟩;have hmb:a<=m/\m<=1052176:=by rw[<-hm];unfold begN;omega
  have hnb:0<=n/\n<=b+1:=by rw[<-hnn];unfold begN;omega
  have con2:Hid (∀V:World,Calls Tryz.prog 90 #[.int .i64 (a+3600-1),.int .i64 3600] V fun e w'=>e=.returned (.int .i64 m)/\w'=V):=fun V=>by
   have c:=lU (a+3600-1) 3600 V (by omega) (by decide)
   rwa [show a+3600-1-(a+3600-1)%3600=m from hm] at c
  have con3:Hid (∀V:World,Calls Tryz.prog 90 #[.int .i64 (b+1),.int .i64 3600] V fun e w'=>e=.returned (.int .i64 n)/\w'=V):=fun V=>by
   have c:=lU (b+1) 3600 V (by omega) (by decide)
   rwa [show b+1-(b+1)%3600=n from hnn] at c
  have u1:IntKind.i64.wrap (a+3600)=a+3600:=by rw[IntKind.wrap_i64];omega
  have u1':IntKind.i64.wrap (a+3600-1)=a+3600-1:=by rw[IntKind.wrap_i64];omega
  have u2:IntKind.i64.wrap (b+1)=b+1:=by rw[IntKind.wrap_i64];omega
  have u4:IntKind.i64.wrap (m-1)=m-1:=by rw[IntKind.wrap_i64];omega
  have u5:IntKind.i64.wrap (n-1)=n-1:=by rw[IntKind.wrap_i64];omega
  by_cases hle:n<=m
  ·have e0:bG 2 a b=bG 1 a b:=q7i hab (show begN (b+1) 3600<=begN (a+3600-1) 3600 by rw[hm,hnn];exact hle)
   have HG:=aI e0;clear e0 hm hnn;rw[HG.out]
   go_enter Tryz.func96,Tryz.ntmps96
   go_wp2_with (first
    |(go_at_call 87;refine(con1.out _ HZ.out).mono ?_;rintro e w1 ⟨rfl,hb1⟩;have H1:=aI (HA.out.next hb1);clear hb1)
    |(go_at_call 90;have kk:=B1;clear kk;refine(con3.out _).mono ?_;rintro e wx ⟨rfl,hwx⟩;subst wx)
    |(go_at_call 90;refine(con2.out _).mono ?_;rintro e wx ⟨rfl,hwx⟩;subst wx;have B1:True:=trivial)
    |(go_at_call 96;refine(hc _ GA GC G a b H1.out ha ha2 hb (by omega)).mono ?_;rintro e w2 ⟨rfl,hT⟩))
   refine bodyPost_ret (results_none rfl _ _ _) rfl ?_;exact⟨rfl,hT⟩
  ·have e0:bG 2 a b=bG 1 a (m-1)++(bG 1 n b++[(2,m,n-1)]):=q7v hab hm hnn hle
   have HG:Hid (G++dH L p (bG 2 a b)=((G++dH L p (bG 1 a (m-1)))++dH L p (bG 1 n b))++(L 2).filter (selB p m (n-1))):=by
    show _=_;rw[e0,nY,nY,tN];simp
   have l1:=oK (p:=p) hl 1 a (m-1);have l2:=oK (p:=p) hl 1 n b;have g1:(G++dH L p (bG 1 a (m-1))).length+28000*3<=850000:=by rw[List.length_append];simp at l1;omega
   have g2:((G++dH L p (bG 1 a (m-1)))++dH L p (bG 1 n b)).length<=850000:=by rw[List.length_append,List.length_append];simp at l1 l2;omega
   clear e0 hm hnn l1 l2;rw[HG.out]
   go_enter Tryz.func96,Tryz.ntmps96
   go_wp2_with (first
    |(go_at_call 87;refine(con1.out _ HZ.out).mono ?_;rintro e w1 ⟨rfl,hb1⟩;have H1:=aI (HA.out.next hb1);clear hb1)
    |(go_at_call 90;have kk:=B1;clear kk;refine(con3.out _).mono ?_;rintro e wx ⟨rfl,hwx⟩;subst wx)
    |(go_at_call 90;refine(con2.out _).mono ?_;rintro e wx ⟨rfl,hwx⟩;subst wx;have B1:True:=trivial)
    |(go_at_call 96;have kk:=H2;clear kk;refine(hc _ GA2 GC2 _ n b H2.out (by omega) (by omega) hb g1).mono ?_;rintro e w3 ⟨rfl,GA3,GC3,hT3⟩;have H3:=aI hT3;clear hT3)
    |(go_at_call 96;refine(hc _ GA GC G a (m-1) H1.out ha ha2 (by omega) (by omega)).mono ?_;rintro e w2 ⟨rfl,GA2,GC2,hT2⟩;have H2:=aI hT2;clear hT2)
    |(go_at_call 97;refine(hv _ GA3 GC3 _ m (n-1) H3.out (by omega) (by omega) (by omega) g2).mono ?_;rintro e w4 ⟨rfl,hT⟩))
   go_end0
   exact⟨rfl,hT⟩

theorem TtA.start{w w1:World}{A:Option Addr}{C:Nat}{ss:List ByteArray}{t0 t1 t2:TR}{f p:Int}(hb:Below w.heap.size w w1)(hx:RowL w1 w.heap.size 35 (aJ A C ss t0 t1 t2 f))(hr:RowL w1 (w.heap.size+1) 42 (ruV zro)):
  TtA w (((w1.alloc (.cells #[.int .i64 p] 3)).alloc (.cells #[.slice none 0 0] 103)).alloc (.cells #[.int .i64 0] 36)) A C ss t0 t1 t2 f p w.heap.size w1.heap.size (w1.heap.size+1) (w1.heap.size+1+1) (w1.heap.size+3) none 0 []:=by
 have s1:(w1.alloc (.cells #[.int .i64 p] 3)).heap.size=w1.heap.size+1:=by simp
 have s2:((w1.alloc (.cells #[.int .i64 p] 3)).alloc (.cells #[.slice none 0 0] 103)).heap.size=w1.heap.size+1+1:=by simp
 have hl:=hr.lt;have b1:Below w1.heap.size w1 (((w1.alloc (.cells #[.int .i64 p] 3)).alloc (.cells #[.slice none 0 0] 103)).alloc (.cells #[.int .i64 0] 36)):=(((Below.refl _ _).alloc (Nat.le_refl _) _).alloc (by simp) _).alloc (by simp;omega) _
 have r0:RowL (w1.alloc (.cells #[.int .i64 p] 3)) w1.heap.size 3 [.int .i64 p]:=aG w1 _ _;have r1:=aG (w1.alloc (.cells #[.int .i64 p] 3)) [.slice none 0 0] 103;rw[s1] at r1;have r2:=aG ((w1.alloc (.cells #[.int .i64 p] 3)).alloc (.cells #[.slice none 0 0] 103)) [.int .i64 0] 36;rw[s2] at r2;refine⟨aC hb (Nat.le_refl _) b1,hx.below b1 hx.lt,(r0.of_block (Below.heap_alloc _ _ _ (by omega))).of_block (Below.heap_alloc _ _ _ (by omega)),r1.of_block (Below.heap_alloc _ _ _ (by omega)),r2,World.ownsRow_nil _ _ _ _,hr.below b1 hl,⟨by omega,by omega,by omega,by omega,by simp,by omega,by omega⟩,⟨by omega,by omega,by omega,by omega,by omega⟩⟩

theorem qje{w:World}{base:Nat}{e:TypeId}{size n m C:Nat}{A:Option Addr}{vs:List Value}(h:w.ownsRow base e size (.slice A m C) n vs):aH w.heap.size w A vs:=by
 obtain⟨A',C',e',-,-,-,hr⟩:=aP h;cases e';exact hr

theorem qfs{a b:Int}(h:eX a b=true):0<=a/\a<=b/\b<=1048575:=by
 simp[eX] at h;omega

def nR(L0 L1 L2:List En):Nat->List En
 |0=>L0
 |1=>L1
 |_=>L2

set_option maxRecDepth 20000 in
set_option maxHeartbeats 2000000 in
theorem ql5(A:Option Addr)(C:Nat)(ss:List ByteArray)(t0 t1 t2:TR)(f:Int)(x:ByteArray)(a b p:Int)(L0 L1 L2:List En)(w:World)(hZ:SzAt w)(hC:ss.length<=C)(hS:dX w.heap.size w A ss)(h0:t0.ok w)(h1:t1.ok w)(h2:t2.ok w)
  (hB:bM ss f (t0.ps.map PN.nd) t0.r (t1.ps.map PN.nd) t1.r (t2.ps.map PN.nd) t2.r=true) (hL:kL ss f (t0.ps.map PN.nd) t0.r (t1.ps.map PN.nd) t1.r (t2.ps.map PN.nd) t2.r L0 L1 L2) (hx:Lib.idxOfS ss x=p) (hp:0<=p) (hp2:p<16) (hsp:eX a b=true):
  Calls Tryz.prog 65 #[.agg (aJ A C ss t0 t1 t2 f).toArray,.string x,.int .i64 a,.int .i64 b] w (MaTo (tot (L0.filter (selB p a b))) w):=by
 obtain⟨ha,hab,hb⟩:=qfs hsp;have b2:∀o1 o2:Obj,Below w.heap.size w ((w.alloc o1).alloc o2):=fun o1 o2=>((Below.refl _ _).alloc (Nat.le_refl _) _).alloc (by simp) _
 have okup:∀(t:TR) (w':World),Below w.heap.size w w'->t.ok w->t.ok w':=fun t w' hb ht=>⟨ht.1.up hb,ht.2.1,ht.2.2⟩
 have f0:=gU (ns:=t0.ps.map PN.nd) (r:=t0.r) (low:=0) (high:=1099511627776);have f1:=gU (ns:=t1.ps.map PN.nd) (r:=t1.r) (low:=0) (high:=1099511627776);have f2:=gU (ns:=t2.ps.map PN.nd) (r:=t2.r) (low:=0) (high:=1099511627776);have n0:=kY (t0.ps.map PN.nd) t0.r 0 1099511627776;have n1:=kY (t1.ps.map PN.nd) t1.r 0 1099511627776;have n2:=kY (t2.ps.map PN.nd) t2.r 0 1099511627776;rw[hL.a0] at f0 n0;rw[hL.a1] at f1 n1;rw[hL.a2] at f2 n2
 have hgL:∀k,∀y∈nR L0 L1 L2 k,Good y.ru
  |0=>f0.2.1
  |1=>f1.2.1
  |_+2=>f2.2.1
 have hlL:∀k,(nR L0 L1 L2 k).length<=28000
  |0=>n0
  |1=>n1
  |_+2=>n2
 have hrL:∀k,k<=2->aO (szN k) (nR L0 L1 L2 0)=some (nR L0 L1 L2 k)
  |0,_=>hL.p0
  |1,_=>hL.p1
  |2,_=>hL.p2
  |_+3,h=>by omega
 obtain⟨G,hG⟩:∃G,dH (nR L0 L1 L2) p (bG 2 a b)=G:=⟨_,rfl⟩
 have hgG:∀y∈G,Good y.ru:=fun y hy=>by
  rw[<-hG] at hy;obtain⟨q,_,hq⟩:=List.mem_flatMap.1 hy;exact hgL q.1 y (List.mem_filter.1 hq).1
 have hlG:G.length<=100000*2:=by
  have:=oK (p:=p) hlL 2 a b;rw[hG] at this;simp at this;omega
 have hE:Hid (tot (L0.filter (selB p a b))=tot G):=by
  have k:=xX hgL hrL p 2 a b (Nat.le_refl _) ha;rw[hG] at k;exact qgp (fun y hy=>f0.2.1 y (List.mem_filter.1 hy).1) hgG k
 have con1:Hid (∀W,Below w.heap.size w W->Calls Tryz.prog 91 #[.agg (aJ A C ss t0 t1 t2 f).toArray,.string x] W fun e w'=>e=.returned (.tuple #[.int .i64 p,.int .i64 0])/\Below W.heap.size W w'):=fun W hW=>by
  have c:=pI A C ss t0 t1 t2 f x W (hZ.below hW) hC (hS.up hW) (okup t0 W hW h0) (okup t1 W hW h1) (okup t2 W hW h2) true hB;rw[hx] at c;have hn:¬p<0:=by omega
  simp only[if_true,hn,if_false] at c;exact c
 have con3:=aI fun W=>nG a b W
 rw[hsp] at con3
 have con4:Hid (∀(bb pb lb cb B:Nat),CovT w A C ss t0 t1 t2 f p bb pb lb cb B (nR L0 L1 L2) 2 7):=fun bb pb lb cb B=>
  qn3 w A C ss t0 t1 t2 f p bb pb lb cb B (nR L0 L1 L2) hZ hlL (fun W GA GC G' u v hT hu huv hv hn=>qle w W A C ss t0 t1 t2 f p bb pb lb cb B GA GC G' u v L2 hT h2 ⟨hp,hp2⟩ hu huv hv hL.a2 (by omega))
   (qok w A C ss t0 t1 t2 f p bb pb lb cb B (nR L0 L1 L2) hZ hlL (fun W GA GC G' u v hT hu huv hv hn=>qiu w W A C ss t0 t1 t2 f p bb pb lb cb B GA GC G' u v L1 hT h1 ⟨hp,hp2⟩ hu huv hv hL.a1 (by omega))
    (qos w A C ss t0 t1 t2 f p bb pb lb cb B (nR L0 L1 L2) hZ (fun W GA GC G' u v hT hu huv hv hn=>qkh w W A C ss t0 t1 t2 f p bb pb lb cb B GA GC G' u v L0 hT h0 ⟨hp,hp2⟩ hu huv hv hL.a0 (by omega))))
 have con5:=aI fun GA GC W (h:aH W.heap.size W GA (aB G))=>q8e GA GC G W h (by omega) hgG
 have HG:=aI hG;obtain⟨s,hs⟩:∃s,tot G=s:=⟨_,rfl⟩;rw[hs] at con5;have HS:=aI hs;have HV:=aI (show aJ A C ss t0 t1 t2 f=aJ A C ss t0 t1 t2 f from rfl);have HE:=hE;clear hG hs hE;have S2:∀o1 o2:Obj,((w.alloc o1).alloc o2).heap.size=w.heap.size+2:=fun o1 o2=>by simp
 have RX:∀o2:Obj,RowL ((w.alloc (.cells (aJ A C ss t0 t1 t2 f).toArray 35)).alloc o2) w.heap.size 35 (aJ A C ss t0 t1 t2 f):=fun o2=>(aG w (aJ A C ss t0 t1 t2 f) 35).of_block (Below.heap_alloc _ _ _ (by simp))
 have RZ:∀o1:Obj,RowL ((w.alloc o1).alloc (.cells (ruV zro).toArray 42)) (w.heap.size+1) 42 (ruV zro):=fun o1=>by
  have k:=aG (w.alloc o1) (ruV zro) 42
  simpa using k
 clear f0 f1 f2 n0 n1 n2 hgL hlL hrL hgG hB hL hx hZ hC hS h0 h1 h2 okup;obtain⟨A0,C0,p0,r0⟩:=t0;obtain⟨A1,C1,p1,r1⟩:=t1;obtain⟨A2,C2,p2,r2⟩:=t2;have RX':=aI RX;have RZ':=aI RZ;have B2':=aI b2;clear RX RZ b2;simp only[aJ] at con1 ⊢
 go_enter Tryz.func65,Tryz.ntmps65
 go_upto_region 8 with(first
  |(go_at_call 91;refine(con1.out _ (B2'.out _ _)).mono ?_;rintro e w1 ⟨rfl,hb1⟩;have X1:=aI ((RX'.out _).below hb1 (RX'.out _).lt);have Z1:=aI ((RZ'.out _).below hb1 (RZ'.out _).lt);have BB1:=aI (aC (B2'.out _ _) (Nat.le_refl _) hb1);clear hb1)
  |(go_at_call 93;refine(con3.out _).mono ?_;rintro e wx ⟨rfl,hwx⟩;subst wx))
 have T0:=aI (TtA.start (p:=p) BB1.out X1.out Z1.out);have HES:Hid (tot (L0.filter (selB p a b))=s):=HE.out.trans HS.out;clear X1 Z1 BB1 con1 con3 RX' RZ' B2' HE HS
 go_wp2_with (first
  |(go_at_call 96;refine(con4.out _ _ _ _ _ _ none 0 [] a b T0.out ha (by omega) hb (by decide)).mono ?_;rintro e w3 ⟨rfl,GA,GC,hT⟩;rw[List.nil_append,HG.out] at hT;have T3:=aI hT;have c3:w3.cell? ⟨w1.heap.size+1,0,none⟩=some (.slice GA G.length GC):=hT.ls.cell 0;have d3:w3.cell? ⟨w1.heap.size+1+1,0,none⟩=some (.int .i64 0):=hT.cd.cell 0;have RW:=aI (qje hT.own);clear hT T0)
  |(go_at_call 98;refine(con5.out _ _ _ RW.out).mono ?_;rintro e w4 ⟨rfl,hb4⟩;have T4:=aI (T3.out.next hb4);have s4:=fun j=>T4.out.res.cell j;have f4:=fun j=>T4.out.res.frozen j;simp only[ruV,zro] at s4))
 exact bodyPost_ret (v:=.tuple #[.agg #[.int .i64 s.1.c,.int .i64 s.1.s,.int .i64 s.1.lo,.int .i64 s.1.hi,.int .i64 s.1.t,.int .i64 s.1.l],.int .i64 s.2]) (by simp[results,Tryz.results65,go_sem,s4]) rfl (maTo (r:=s.1) (c:=s.2) HES.out (qM T4.out.below (Nat.le_succ _) s.1))

set_option maxRecDepth 20000 in
set_option maxHeartbeats 2000000 in
theorem qn5(A:Option Addr)(C:Nat)(ss:List ByteArray)(t0 t1 t2:TR)(f:Int)(x:ByteArray)(a b:Int)(w:World)(c q:Int)(hc:(c != 0)=true)(con1:Hid (∀W,Below w.heap.size w W->Calls Tryz.prog 91 #[.agg (aJ A C ss t0 t1 t2 f).toArray,.string x] W fun e w'=>e=.returned (.tuple #[.int .i64 q,.int .i64 c])/\Below W.heap.size W w')):
  Calls Tryz.prog 65 #[.agg (aJ A C ss t0 t1 t2 f).toArray,.string x,.int .i64 a,.int .i64 b] w (MaTo (zro,c) w):=by
 have B2':Hid (∀o1 o2:Obj,Below w.heap.size w ((w.alloc o1).alloc o2)):=fun o1 o2=>((Below.refl _ _).alloc (Nat.le_refl _) _).alloc (by simp) _
 have RZ':Hid (∀o1:Obj,RowL ((w.alloc o1).alloc (.cells (ruV zro).toArray 42)) (w.heap.size+1) 42 (ruV zro)):=fun o1=>by
  have k:=aG (w.alloc o1) (ruV zro) 42
  simpa using k
 obtain⟨A0,C0,p0,r0⟩:=t0;obtain⟨A1,C1,p1,r1⟩:=t1;obtain⟨A2,C2,p2,r2⟩:=t2;simp only[aJ] at con1 ⊢
 go_enter Tryz.func65,Tryz.ntmps65
 go_upto_region 3 with(first|(go_at_call 91;refine(con1.out _ (B2'.out _ _)).mono ?_;rintro e w1 ⟨rfl,hb1⟩;have Z1:=aI ((RZ'.out _).below hb1 (RZ'.out _).lt);have BB1:=aI (aC (B2'.out _ _) (Nat.le_refl _) hb1);have s1:=fun j=>Z1.out.cell j;have f1:=fun j=>Z1.out.frozen j;have l1:=Z1.out.lt;simp only[ruV,zro] at s1;clear hb1))
 repeat go_step
 refine bodyPost_ret (v:=.tuple #[.agg #[.int .i64 0,.int .i64 0,.int .i64 0,.int .i64 0,.int .i64 0,.int .i64 0],.int .i64 c]) (by simp[results,Tryz.results65,go_sem,s1,l1]) rfl (maZ rfl ?_)
 exact(qM BB1.out (Nat.le_succ _) zro).alloc (by have:=BB1.out.size;simp[uT];omega) _

set_option maxRecDepth 20000 in
set_option maxHeartbeats 2000000 in
theorem qck(A:Option Addr)(C:Nat)(ss:List ByteArray)(t0 t1 t2:TR)(f:Int)(x:ByteArray)(a b:Int)(w:World)(q:Int)(hsp:eX a b=false)(con1:Hid (∀W,Below w.heap.size w W->Calls Tryz.prog 91 #[.agg (aJ A C ss t0 t1 t2 f).toArray,.string x] W fun e w'=>e=.returned (.tuple #[.int .i64 q,.int .i64 0])/\Below W.heap.size W w')):
  Calls Tryz.prog 65 #[.agg (aJ A C ss t0 t1 t2 f).toArray,.string x,.int .i64 a,.int .i64 b] w (MaTo (zro,2) w):=by
 have B2':Hid (∀o1 o2:Obj,Below w.heap.size w ((w.alloc o1).alloc o2)):=fun o1 o2=>((Below.refl _ _).alloc (Nat.le_refl _) _).alloc (by simp) _
 have RZ':Hid (∀o1:Obj,RowL ((w.alloc o1).alloc (.cells (ruV zro).toArray 42)) (w.heap.size+1) 42 (ruV zro)):=fun o1=>by
  have k:=aG (w.alloc o1) (ruV zro) 42
  simpa using k
 have con3:=aI fun W=>nG a b W
 rw[hsp] at con3;obtain⟨A0,C0,p0,r0⟩:=t0;obtain⟨A1,C1,p1,r1⟩:=t1;obtain⟨A2,C2,p2,r2⟩:=t2;simp only[aJ] at con1 ⊢
 go_enter Tryz.func65,Tryz.ntmps65
 go_upto_region 5 with(first|(go_at_call 91;refine(con1.out _ (B2'.out _ _)).mono ?_;rintro e w1 ⟨rfl,hb1⟩;have Z1:=aI ((RZ'.out _).below hb1 (RZ'.out _).lt);have BB1:=aI (aC (B2'.out _ _) (Nat.le_refl _) hb1);have s1:=fun j=>Z1.out.cell j;have f1:=fun j=>Z1.out.frozen j;have l1:=Z1.out.lt;simp only[ruV,zro] at s1;clear hb1)|(go_at_call 93;refine(con3.out _).mono ?_;rintro e wx ⟨rfl,hwx⟩;subst wx))
 repeat go_step
 refine bodyPost_ret (v:=.tuple #[.agg #[.int .i64 0,.int .i64 0,.int .i64 0,.int .i64 0,.int .i64 0,.int .i64 0],.int .i64 2]) (by simp[results,Tryz.results65,go_sem,s1,l1]) rfl (maZ rfl ?_)
 exact(qM BB1.out (Nat.le_succ _) zro).alloc (by have:=BB1.out.size;simp[uT];omega) _

end
end Go.Proofs.YtlojfgdpmaigmagGreatDoor

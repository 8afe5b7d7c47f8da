/- base.nextFloor, base.younger: their walks. -/
import Derived.Test.YtlojfgdpmaigmagGreatDoorP29
import Derived.Test.YtlojfgdpmaigmagGreatDoorP39
import Derived.Test.YtlojfgdpmaigmagGreatDoorP40
import Derived.Test.YtlojfgdpmaigmagGreatDoorP31
import Derived.Test.YtlojfgdpmaigmagGreatDoorP26
import Derived.Test.YtlojfgdpmaigmagGreatDoorP44
import Derived.Test.YtlojfgdpmaigmagGreatDoorP38
namespace Go.Proofs.YtlojfgdpmaigmagGreatDoor
section
open Go.RowKit Plain Go.Shelf

theorem q4w(f t:Int)(w:World)(hs:SzAt w):Calls Tryz.prog 99 #[.int .i64 f,.int .i64 t] w fun e w'=>e=.returned (.int .i64 (iO f t))/\Below w.heap.size w w':=by
 unfold iO
 by_cases h1:inB t 0 1048575=true
 ·have h1':=(gI _ _ _).1 h1;have c1:=aA fun W=>qV t W
  have c2:=aA (q1j t w hs (by omega))
  rw[h1] at c1
  by_cases h2:t%3600=0
  ·rw[decide_eq_true h2] at c2
   by_cases h3:t<f
   ·simp only[h1,h2,h3,if_true];clear h1 h2
    go_enter Tryz.func99,Tryz.ntmps99
    go_wp2_with (first
     |(go_at_call 76;refine(c1.out _).mono ?_;rintro e w1 ⟨rfl,hw1⟩;subst w1)
     |(go_at_call 77;refine c2.out.mono ?_;rintro e w2 ⟨rfl,hb2⟩))
    go_ret;exact⟨rfl,hb2⟩
   ·simp only[h1,h2,h3,if_true,if_false];clear h1 h2
    go_enter Tryz.func99,Tryz.ntmps99
    go_wp2_with (first
     |(go_at_call 76;refine(c1.out _).mono ?_;rintro e w1 ⟨rfl,hw1⟩;subst w1)
     |(go_at_call 77;refine c2.out.mono ?_;rintro e w2 ⟨rfl,hb2⟩))
    go_ret;exact⟨rfl,hb2⟩
  ·rw[decide_eq_false h2] at c2;simp only[h1,h2,if_true,if_false];clear h1 h2
   go_enter Tryz.func99,Tryz.ntmps99
   go_wp2_with (first
    |(go_at_call 76;refine(c1.out _).mono ?_;rintro e w1 ⟨rfl,hw1⟩;subst w1)
    |(go_at_call 77;refine c2.out.mono ?_;rintro e w2 ⟨rfl,hb2⟩))
   go_ret;exact⟨rfl,hb2⟩
 ·have h1':inB t 0 1048575=false:=by simpa using h1
  have c1:=aA fun W=>qV t W
  rw[h1'] at c1 ⊢;clear h1 h1'
  go_enter Tryz.func99,Tryz.ntmps99
  go_wp2_with (first
   |(go_at_call 76;refine(c1.out _).mono ?_;rintro e w1 ⟨rfl,hw1⟩;subst w1))
  go_ret;exact⟨rfl,Below.refl _ _⟩

theorem qmy(t:Int)(L:List En):(L.filter fun x=>!oldB t x)=L.filter (yngB t):=
 List.filter_congr fun x _=>by
  unfold oldB yngB
  by_cases h:x.key%1048576<t
  ·rw[decide_eq_true h,decide_eq_false (by omega)];rfl
  ·rw[decide_eq_false h,decide_eq_true (by omega)];rfl

theorem qlt{M:List En}{w w':World}{e:Ending}(hf:eU M=0)(h:OfP M w e w'):PutC (fun c=>c=1/\2900<M.length) (fun m q=>allP m q 0 1099511627776=(0,M)) w e w':=by
 obtain⟨hb,h⟩:=h;rcases h with⟨c,h0,rfl,h|⟨_,h1,h2⟩⟩|⟨_,g,C',qs,root,rfl,hN,hc,hp⟩
 ·rw[hf] at h;exact absurd h h0
 ·exact⟨none,0,0,0,c,rfl,hb,.inl ⟨h0,h1,h2⟩⟩
 ·have h1:=qnl hf hp;refine⟨_,_,_,_,0,rfl,hb,.inr ⟨rfl,g,qs,rfl,rfl,hN,?_⟩⟩;show allP _ _ 0 1099511627776=(0,M);unfold allP;rw[if_neg (by simpa using hc),h1]

theorem qbu{A:Option Addr}{n C k:Nat}(h:k∈obk A):(Value.slice A n C).ownBlock=some k:=by
 cases A with
 |none=>simp[obk] at h
 |some a=>simpa [obk,Value.ownBlock,eq_comm] using h

set_option maxRecDepth 20000 in
set_option maxHeartbeats 2000000 in
theorem zL(A:Option Addr)(C:Nat)(r t:Int)(ps:List PN)(L:List En)(w:World)(hN:bF w.heap.size w A ps)(hwf:∀p∈ps,p.wf)(hL:allP (ps.map PN.nd) r 0 1099511627776=(0,L)):
  Calls Tryz.prog 101 #[.agg #[.slice A ps.length C,.int .i64 r],.int .i64 t] w (PutC (fun c=>c=1/\2900<(L.filter (yngB t)).length) (fun m q=>allP m q 0 1099511627776=(0,L.filter (yngB t))) w):=by
 have f0:=gU (ns:=ps.map PN.nd) (r:=r) (low:=0) (high:=1099511627776);have fl:=kY (ps.map PN.nd) r 0 1099511627776;rw[hL] at f0 fl;simp only at fl;have con1:=aA fun W hN=>wY A C r ps W hN hwf
 rw[hL] at con1;simp only at con1;have hf:=aA (qep (t:=t) hL);have hk:=aA f0.2.2;obtain⟨M,hM⟩:∃M,L.filter (yngB t)=M:=⟨_,rfl⟩;have hm:M.length<=L.length:=by rw[<-hM];exact List.length_filter_le _ _
 have HM:=aA ((qmy t L).trans hM);rw[hM] at hf ⊢;have HN:=aA hN;clear f0 hL hM hN hwf;have b3:Below w.heap.size w (((w.alloc (.cells #[.slice A ps.length C,.int .i64 r] 32)).alloc (.cells #[.int .i64 t] 3)).alloc (.cells #[.slice none 0 0,.int .i64 0] 32)):=(((Below.refl _ _).alloc (Nat.le_refl _) _).alloc (by simp) _).alloc (by simp;omega) _
 have R:=qnx w [.slice A ps.length C,.int .i64 r] [.int .i64 t] [.slice none 0 0,.int .i64 0] 32 3 32;have HR:=aA R;clear R
 go_enter Tryz.func101,Tryz.ntmps101
 go_upto_region 4 with(first
  |(go_at_call 106;refine(con1.out _ (HN.out.up b3)).mono ?_;rintro e w1 ⟨hb1,v1,rfl,ho1⟩;obtain⟨VA,VC,hvv,-⟩:=aP ho1;subst hvv))
 have HB1:=aA hb1;have rt:RowL w1 (w.heap.size+1) 3 [.int .i64 t]:=HR.out.2.1.below hb1 (by simp)
 have ro:RowL w1 (w.heap.size+1+1) 32 [.slice none 0 0,.int .i64 0]:=HR.out.2.2.1.below hb1 (by simp)
 have ht:w1.cell? ⟨w.heap.size+1,0,none⟩=some (.int .i64 t):=rt.cell 0;have hlt:∀k,(Value.slice VA L.length VC).ownBlock=some k->w.heap.size+3<=k:=fun k hk=>by have:=(ho1.lt k hk).1;simpa using this
 have con2:=aA (qj4 _ VA VC L (w.heap.size+1) t w1 ho1 (by omega) hk.out ht (fun g e=>by subst e;have:=hlt g rfl;omega))
 rw[HM.out] at con2;have ro0:=ro.lt;have HRO:=aA ro
 have hVC:VA=none->VC=0:=by
  obtain⟨A',C',e',hA',-⟩:=aP ho1;cases e';exact hA'
 have HLT:=aA hlt;clear hk HR ro rt ho1 hb1 con1 hlt
 go_wp2_with (first
  |(go_at_call 121;refine con2.out.mono ?_;rintro e w2 ⟨rfl,ho2,hk2⟩)
  |(go_at_call 120;refine(qlv VA VC M w2 (eG ho2).1 hVC (by omega)).mono ?_;rintro e w3 hP;obtain⟨XA,xl,XC,sr,c,rfl,hb3,hP3⟩:=qlt hf.out hP;have R3:=aA ((HRO.out.of_block (hk2.block _ ro0 (fun hm=>by have:=HLT.out _ (qbu hm);omega))).below hb3 (Nat.lt_of_lt_of_le ro0 hk2.size));have d3:=fun j=>R3.out.cell j;have f3:=fun j=>R3.out.frozen j;have l3:=R3.out.lt))
 refine bodyPost_ret (v:=.tuple #[.agg #[.slice XA xl XC,.int .i64 sr],.int .i64 c]) (by simp[results,Tryz.results101,go_sem,d3]) rfl ⟨XA,xl,XC,sr,c,rfl,?_,?_⟩
 ·have h2:Below w.heap.size w w2:=⟨hk2.os.trans (HB1.out.os.trans b3.os),hk2.tape.trans (HB1.out.tape.trans b3.tape),hk2.output.trans (HB1.out.output.trans b3.output),Nat.le_trans (Nat.le_trans b3.size HB1.out.size) hk2.size,fun j hj=>(hk2.block j (Nat.lt_of_lt_of_le hj (Nat.le_trans b3.size HB1.out.size)) (fun hm=>by have:=HLT.out _ (qbu hm);omega)).trans ((HB1.out.block j (Nat.lt_of_lt_of_le hj b3.size)).trans (b3.block j hj))⟩
  exact fH (fH (aC h2 (Nat.le_refl _) hb3) (by omega) _ _) (by omega) _ _
 ·have hs:w.heap.size+2<w2.heap.size:=Nat.lt_of_lt_of_le ro0 hk2.size;exact hP3.keep (by omega) fun k hk _=>(Below.heap_setCell _ _ _ _ (show k≠w.heap.size+1+1 by omega)).trans (Below.heap_setCell _ _ _ _ (show k≠w.heap.size+1+1 by omega))

set_option maxRecDepth 20000 in
set_option maxHeartbeats 1000000 in
theorem qpw(a0 a1 a2 a3 a4 a5 a6 a7:Value)(t c:Int)(h0:c≠0)(w:World)
  (CK:Hid (∀W,Below w.heap.size w W->Calls Tryz.prog 55 #[.agg #[a0,a1,a2,a3,a4,a5,a6,a7]] W fun e w'=>e=.returned (.int .i64 c)/\Below W.heap.size W w')):
  Calls Tryz.prog 66 #[.agg #[a0,a1,a2,a3,a4,a5,a6,a7],.int .i64 t] w fun e w'=>e=.returned (dF c)/\Below w.heap.size w w':=by
 have HS:=aA (ExS.start w [a0,a1,a2,a3,a4,a5,a6,a7]);have hc':(c != 0)=true:=by simpa using h0
 go_enter Tryz.func66,Tryz.ntmps66
 go_upto_region 3 with(first
  |(go_at_call 55;refine(CK.out _ HS.out.below).mono ?_;rintro e w1 ⟨rfl,hb1⟩;have H1:=aA (HS.out.next hb1);have d:=fun j=>H1.out.bo.cell j;have fz:=fun j=>H1.out.bo.frozen j;have l1:=H1.out.bo.lt;simp only[zb8] at d))
 repeat go_step
 exact bodyPost_ret (v:=dF c) (by simp[dF,results,Tryz.results66,go_sem,d]) rfl ⟨rfl,fA H1.out.below (by omega) _ _ _ _ _ _ _ _⟩

set_option maxRecDepth 20000 in
set_option maxHeartbeats 1000000 in
theorem qqy(a0 a1 a2 a3 a4 a5 a6:Value)(f t c:Int)(h0:c≠0)(w:World)
  (CK:Hid (∀W,Below w.heap.size w W->Calls Tryz.prog 55 #[.agg #[a0,a1,a2,a3,a4,a5,a6,.int .i64 f]] W fun e w'=>e=.returned (.int .i64 0)/\Below W.heap.size W w'))
  (NF:Hid (∀W,Below w.heap.size w W->Calls Tryz.prog 99 #[.int .i64 f,.int .i64 t] W fun e w'=>e=.returned (.int .i64 c)/\Below W.heap.size W w')):
  Calls Tryz.prog 66 #[.agg #[a0,a1,a2,a3,a4,a5,a6,.int .i64 f],.int .i64 t] w fun e w'=>e=.returned (dF c)/\Below w.heap.size w w':=by
 have HS:=aA (ExS.start w [a0,a1,a2,a3,a4,a5,a6,.int .i64 f]);have hc':(c != 0)=true:=by simpa using h0
 go_enter Tryz.func66,Tryz.ntmps66
 go_upto_region 6 with(first
  |(go_at_call 55;refine(CK.out _ HS.out.below).mono ?_;rintro e w1 ⟨rfl,hb1⟩;have H1:=aA (HS.out.next hb1);have d1:=fun j=>H1.out.bb.cell j;have l1:=H1.out.bb.lt)
  |(go_at_call 99;refine(NF.out _ H1.out.below).mono ?_;rintro e w2 ⟨rfl,hb2⟩;clear d1 l1;have H2:=aA (H1.out.next hb2);have d:=fun j=>H2.out.bo.cell j;have fz:=fun j=>H2.out.bo.frozen j;have l2:=H2.out.bo.lt;simp only[zb8] at d))
 repeat go_step
 exact bodyPost_ret (v:=dF c) (by simp[dF,results,Tryz.results66,go_sem,d]) rfl ⟨rfl,fA H2.out.below (by omega) _ _ _ _ _ _ _ _⟩

def qri(ss:List ByteArray)(f t:Int)(n0:List Nd)(r0:Int)(n1:List Nd)(r1:Int)(n2:List Nd)(r2 c:Int):Prop:=
 (bM ss f n0 r0 n1 r1 n2 r2=false/\c=7)\/(bM ss f n0 r0 n1 r1 n2 r2=true/\iO f t≠0/\c=iO f t)\/
 (bM ss f n0 r0 n1 r1 n2 r2=true/\iO f t=0/\c=1/\∀L0 L1 L2,kL ss f n0 r0 n1 r1 n2 r2 L0 L1 L2->2900<(L0.filter (yngB t)).length)

structure yP(ss:List ByteArray)(f t:Int)(n0:List Nd)(r0:Int)(n1:List Nd)(r1:Int)(n2:List Nd)(r2:Int)(m0:List Nd)(q0:Int)(m1:List Nd)(q1:Int)(m2:List Nd)(q2:Int)(L0 L1 L2:List En):Prop where
 was:bM ss f n0 r0 n1 r1 n2 r2=true
 fl:iO f t=0
 lst:kL ss f n0 r0 n1 r1 n2 r2 L0 L1 L2
 a0:allP m0 q0 0 1099511627776=(0,L0.filter (yngB t))
 a1:allP m1 q1 0 1099511627776=(0,L1.filter (yngB t))
 a2:allP m2 q2 0 1099511627776=(0,L2.filter (yngB t))

theorem yP.base{ss:List ByteArray}{f t:Int}{n0 n1 n2 m0 m1 m2:List Nd}{r0 r1 r2 q0 q1 q2:Int}{L0 L1 L2:List En}(h:yP ss f t n0 r0 n1 r1 n2 r2 m0 q0 m1 q1 m2 q2 L0 L1 L2):
  bM ss t m0 q0 m1 q1 m2 q2=true/\fU m0 q0 ss.length t=some (L0.filter (yngB t)):=
 qii h.was h.lst h.fl h.a0 h.a1 h.a2

def qrq(ss:List ByteArray)(f t:Int)(n0:List Nd)(r0:Int)(n1:List Nd)(r1:Int)(n2:List Nd)(r2:Int)(w:World)(e:Ending)(w':World):Prop:=
 Below w.heap.size w w'/\((∃c,c≠0/\qri ss f t n0 r0 n1 r1 n2 r2 c/\e=.returned (dF c))\/
  ∃(A':Option Addr) (C':Nat) (u0 u1 u2:TR) (L0 L1 L2:List En),yP ss f t n0 r0 n1 r1 n2 r2 (u0.ps.map PN.nd) u0.r (u1.ps.map PN.nd) u1.r (u2.ps.map PN.nd) u2.r L0 L1 L2/\e=.returned (.tuple #[.agg (aJ A' C' ss u0 u1 u2 t).toArray,.int .i64 0])/\OwnB w.heap.size w' A' C' ss u0 u1 u2)

theorem qc6{size:Int}{L M:List En}(hg:∀y∈L,Good y.ru)(h:aO size L=some M):M.length<=L.length:=by
 have k:=(pG (xs:=L.map (bk size)) (fun y hy=>by
  obtain⟨x,hx,rfl⟩:=List.mem_map.1 hy;exact hg x hx) h).2.1
 simpa using k

theorem qc4(A:Option Addr)(C:Nat)(ss:List ByteArray)(t0 t1 t2:TR)(f t:Int)(w:World)(hZ:SzAt w)(hC:ss.length<=C)(hS:dX w.heap.size w A ss)(h0:t0.ok w)(h1:t1.ok w)(h2:t2.ok w):
  Calls Tryz.prog 66 #[.agg (aJ A C ss t0 t1 t2 f).toArray,.int .i64 t] w (qrq ss f t (t0.ps.map PN.nd) t0.r (t1.ps.map PN.nd) t1.r (t2.ps.map PN.nd) t2.r w):=by
 have okup:∀(t:TR) (w':World),Below w.heap.size w w'->t.ok w->t.ok w':=fun t w' hb ht=>⟨ht.1.up hb,ht.2.1,ht.2.2⟩
 have ck:=fun(bb:Bool) (hbb:Hid (bM ss f (t0.ps.map PN.nd) t0.r (t1.ps.map PN.nd) t1.r (t2.ps.map PN.nd) t2.r=bb)) W (hW:Below w.heap.size w W)=>sQ A C ss t0 t1 t2 f W (hZ.below hW) hC (hS.up hW) (okup t0 W hW h0) (okup t1 W hW h1) (okup t2 W hW h2) bb hbb
 have nf:=fun W (hW:Below w.heap.size w W)=>q4w f t W (hZ.below hW)
 cases hB:bM ss f (t0.ps.map PN.nd) t0.r (t1.ps.map PN.nd) t1.r (t2.ps.map PN.nd) t2.r with
 |false=>
  refine(qpw _ _ _ _ _ _ _ _ t 7 (by decide) w (fun W hW=>?_)).mono ?_
  ·have k:=ck false hB W hW;simp only[Bool.false_eq_true,if_false] at k;exact k
  ·rintro e w' ⟨rfl,hb⟩;exact⟨hb,.inl ⟨7,by decide,.inl ⟨hB,rfl⟩,rfl⟩⟩
 |true=>
  have ck0:∀W,Below w.heap.size w W->Calls Tryz.prog 55 #[.agg (aJ A C ss t0 t1 t2 f).toArray] W fun e w'=>e=.returned (.int .i64 0)/\Below W.heap.size W w':=fun W hW=>by
   have k:=ck true hB W hW;simp only[if_true] at k;exact k
  by_cases hp:iO f t=0
  ·obtain⟨L0,L1,L2,hL⟩:=mX hB;have hlen:=hL.few;rw[hp] at nf;refine(qiy A t0.A t1.A t2.A C t0.C t1.C t2.C ss t0.ps t1.ps t2.ps t0.r t1.r t2.r f t w _ _ _ _ _ _ ck0 nf (fun W hW=>q0a A C ss W (hS.up hW)) (fun W hW=>zL t0.A t0.C t0.r t t0.ps L0 W (h0.1.up hW) h0.2.1 hL.a0) (fun W hW=>zL t1.A t1.C t1.r t t1.ps L1 W (h1.1.up hW) h1.2.1 hL.a1) (fun W hW=>zL t2.A t2.C t2.r t t2.ps L2 W (h2.1.up hW) h2.2.1 hL.a2)).mono ?_
   intro e w' h;obtain⟨hb,h⟩:=h;refine⟨hb,?_⟩;rcases h with⟨c,hc0,hbad,rfl⟩|⟨VA,VC,g0,D0,g1,D1,g2,D2,q0,q1,q2,s0,s1,s2,rfl,hown,N0,N1,N2,a0,a1,a2⟩
   ·have hc1:c=1:=by
     rcases hbad with h|h|h<;>exact h.1
    refine .inl ⟨c,hc0,.inr (.inr ⟨hB,hp,hc1,fun K0 K1 K2 hK=>?_⟩),rfl⟩
    obtain rfl:K0=L0:=by have:=hK.a0.symm.trans hL.a0;exact(Prod.mk.inj this).2
    have ht:=(q3d hp).2.2.1;have hg:=(gU (ns:=t0.ps.map PN.nd) (r:=t0.r) (low:=0) (high:=1099511627776)).2.1;rw[hL.a0] at hg;have hg':∀y∈K0.filter (yngB t),Good y.ru:=fun y hy=>hg y (List.mem_filter.1 hy).1
    have l1:=qc6 hg' (q4t (t:=t) ht (.inr (.inl rfl)) hL.p1);have l2:=qc6 hg' (q4t (t:=t) ht (.inr (.inr rfl)) hL.p2);rcases hbad with h|h|h
    ·exact h.2
    ·have:=h.2;omega
    ·have:=h.2;omega
   ·exact .inr ⟨VA,VC,⟨some ⟨g0,0,none⟩,D0,q0,s0⟩,⟨some ⟨g1,0,none⟩,D1,q1,s1⟩,⟨some ⟨g2,0,none⟩,D2,q2,s2⟩,L0,L1,L2,⟨hB,hp,hL,a0,a1,a2⟩,rfl,⟨hown,hS.each,by omega,⟨g0,rfl,N0⟩,⟨g1,rfl,N1⟩,⟨g2,rfl,N2⟩⟩⟩
  ·refine(qqy _ _ _ _ _ _ _ f t _ hp w ck0 nf).mono ?_;rintro e w' ⟨rfl,hb⟩;exact⟨hb,.inl ⟨_,hp,.inr (.inl ⟨hB,hp,rfl⟩),rfl⟩⟩

end
end Go.Proofs.YtlojfgdpmaigmagGreatDoor

/- base.Add: its walk. -/
import Derived.Test.YtlojfgdpmaigmagGreatDoorP40
import Derived.Deep.DeepCutAuto
namespace Go.Proofs.YtlojfgdpmaigmagGreatDoor
open Go.RowKit Plain Go.Shelf

set_option maxRecDepth 20000 in
set_option maxHeartbeats 4000000 in
theorem qk3(A A0 A1 A2:Option Addr)(C C0 C1 C2:Nat)(ss ns:List ByteArray)(p0 p1 p2:List PN)(r0 r1 r2 f:Int)(s:ByteArray)(t v:Int)(r:Ru)(w:World)(B0 B1 B2:Int->Prop)(F0 F1 F2:List Nd->Int->Prop)(p b0 b1 b2 k0 k1 k2:Int)(hz:ns.length*16<=140737488351232)(hes:∀x∈ns,x.size<=140737488351232)
  (CK:Hid (∀W,Below w.heap.size w W->Calls Tryz.prog 55 #[.agg #[.slice A ss.length C,.slice A0 p0.length C0,.int .i64 r0,.slice A1 p1.length C1,.int .i64 r1,.slice A2 p2.length C2,.int .i64 r2,.int .i64 f]] W fun e w'=>e=.returned (.int .i64 0)/\Below W.heap.size W w'))
  (PF:Hid (∀W,Calls Tryz.prog 84 #[.agg #[.slice A ss.length C,.slice A0 p0.length C0,.int .i64 r0,.slice A1 p1.length C1,.int .i64 r1,.slice A2 p2.length C2,.int .i64 r2,.int .i64 f],.agg #[.string s,.int .i64 t,.int .i64 v]] W fun e w'=>e=.returned (ruT r 0)/\Below W.heap.size W w'))
  (NW:Hid (∀W,Below w.heap.size w W->Calls Tryz.prog 85 #[.slice A ss.length C,.string s] W fun e w'=>∃x,e=.returned x/\w'.ownsRow W.heap.size 9 1 x ns.length (strs ns)/\Below W.heap.size W w'))
  (IX:Hid (∀VA VC W,dX W.heap.size W VA ns->Calls Tryz.prog 86 #[.slice VA ns.length VC,.string s] W fun e w'=>e=.returned (.int .i64 p)/\w'=W))
  (SZ:Hid (∀W,Below w.heap.size w W->Calls Tryz.prog 87 #[] W fun e w'=>e=.returned (.agg #[.int .i64 1,.int .i64 60,.int .i64 3600])/\Below W.heap.size W w'))
  (BG0:Hid (∀W,Calls Tryz.prog 90 #[.int .i64 t,.int .i64 1] W fun e w'=>e=.returned (.int .i64 b0)/\w'=W)) (BG1:Hid (∀W,Calls Tryz.prog 90 #[.int .i64 t,.int .i64 60] W fun e w'=>e=.returned (.int .i64 b1)/\w'=W)) (BG2:Hid (∀W,Calls Tryz.prog 90 #[.int .i64 t,.int .i64 3600] W fun e w'=>e=.returned (.int .i64 b2)/\w'=W))
  (KY0:Hid (∀W,Calls Tryz.prog 89 #[.int .i64 p,.int .i64 b0] W fun e w'=>e=.returned (.int .i64 k0)/\w'=W)) (KY1:Hid (∀W,Calls Tryz.prog 89 #[.int .i64 p,.int .i64 b1] W fun e w'=>e=.returned (.int .i64 k1)/\w'=W)) (KY2:Hid (∀W,Calls Tryz.prog 89 #[.int .i64 p,.int .i64 b2] W fun e w'=>e=.returned (.int .i64 k2)/\w'=W))
  (PT0:Hid (∀W,Below w.heap.size w W->Calls Tryz.prog 88 #[.agg #[.slice A0 p0.length C0,.int .i64 r0],.int .i64 k0,.agg #[.int .i64 r.c,.int .i64 r.s,.int .i64 r.lo,.int .i64 r.hi,.int .i64 r.t,.int .i64 r.l]] W (PutC B0 F0 W)))
  (PT1:Hid (∀W,Below w.heap.size w W->Calls Tryz.prog 88 #[.agg #[.slice A1 p1.length C1,.int .i64 r1],.int .i64 k1,.agg #[.int .i64 r.c,.int .i64 r.s,.int .i64 r.lo,.int .i64 r.hi,.int .i64 r.t,.int .i64 r.l]] W (PutC B1 F1 W)))
  (PT2:Hid (∀W,Below w.heap.size w W->Calls Tryz.prog 88 #[.agg #[.slice A2 p2.length C2,.int .i64 r2],.int .i64 k2,.agg #[.int .i64 r.c,.int .i64 r.s,.int .i64 r.lo,.int .i64 r.hi,.int .i64 r.t,.int .i64 r.l]] W (PutC B2 F2 W))):
  Calls Tryz.prog 63 #[.agg #[.slice A ss.length C,.slice A0 p0.length C0,.int .i64 r0,.slice A1 p1.length C1,.int .i64 r1,.slice A2 p2.length C2,.int .i64 r2,.int .i64 f],.agg #[.string s,.int .i64 t,.int .i64 v]] w (AddC B0 B1 B2 F0 F1 F2 ns f w):=by
 have HS:=aA (AdS.start w [.slice A ss.length C,.slice A0 p0.length C0,.int .i64 r0,.slice A1 p1.length C1,.int .i64 r1,.slice A2 p2.length C2,.int .i64 r2,.int .i64 f] s t v);simp only[ruT] at PF
 go_enter Tryz.func63,Tryz.ntmps63
 go_wp2_with (first
  |(go_at_call 55;refine(CK.out _ HS.out.below).mono ?_;rintro e w1 ⟨rfl,hb1⟩;have H1:=aA (HS.out.next hb1);have d1:=fun j=>H1.out.bb.cell j;have d2:=fun j=>H1.out.bp.cell j;simp only[ptV] at d2;clear hb1)
  |(go_at_call 84;refine(PF.out _).mono ?_;rintro e w2 ⟨rfl,hb2⟩;clear d1 d2;have H2:=aA (H1.out.next hb2);clear hb2))
 obtain⟨wd,hwd⟩:∃wd,wd=w2.alloc (.cells (ruV r).toArray 42):=⟨_,rfl⟩;have HD:Hid (AdS w wd [.slice A ss.length C,.slice A0 p0.length C0,.int .i64 r0,.slice A1 p1.length C1,.int .i64 r1,.slice A2 p2.length C2,.int .i64 r2,.int .i64 f] s t v):=by rw[hwd];exact H2.out.next ((Below.refl _ _).alloc (Nat.le_refl _) _)
 obtain⟨rb,hrb⟩:∃rb,rb=w2.heap.size:=⟨_,rfl⟩;have HR:Hid (RowL wd rb 42 (ruV r)):=by rw[hwd,hrb];exact aG w2 _ _
 have HL:Hid (w.heap.size+3<=rb):=by rw[hrb];have:=H2.out.bo.lt;show _<=_;omega
 simp only[ruV] at hwd;rw[<-hwd,<-hrb];clear hwd hrb H2 H1 HS CK PF;obtain⟨n,hn⟩:∃n,n=w.heap.size:=⟨_,rfl⟩;have x0:wd.cell? ⟨n,0,none⟩=some (.slice A ss.length C):=by rw[hn];exact HD.out.bb.cell 0
 have x7:wd.cell? ⟨n,7,none⟩=some (.int .i64 f):=by rw[hn];exact HD.out.bb.cell 7
 have y0:wd.cell? ⟨n+1,0,none⟩=some (.string s):=by rw[hn];exact HD.out.bp.cell 0
 have ln:n<wd.heap.size:=by rw[hn];exact HD.out.bb.lt
 have ln1:n+1<wd.heap.size:=by rw[hn];exact HD.out.bp.lt
 have HN:=aA hn;rw[<-hn];clear hn
 go_cut [9] (fun v9 wc=>∃cb VA VC,v9=.pointer (some ⟨cb,0,none⟩)/\AdL w wc [.slice A ss.length C,.slice A0 p0.length C0,.int .i64 r0,.slice A1 p1.length C1,.int .i64 r1,.slice A2 p2.length C2,.int .i64 r2,.int .i64 f] s t v r rb cb VA VC ns [.slice VA ns.length VC,.slice none 0 0,.int .i64 0,.slice none 0 0,.int .i64 0,.slice none 0 0,.int .i64 0,.int .i64 f])
 case first=>
  have NWd:∀W,Below wd.heap.size wd W->Calls Tryz.prog 85 #[.slice A ss.length C,.string s] W fun e w'=>∃x,e=.returned x/\w'.ownsRow W.heap.size 9 1 x ns.length (strs ns)/\Below W.heap.size W w':=fun W hb=>NW.out W (aC HD.out.below (Nat.le_refl _) hb)
  have n1:¬n=wd.heap.size:=by omega
  have n2:¬n+1=wd.heap.size:=by omega
  have KS:∀(W:World) (b' o' j:Nat) (u:Value),¬b'=wd.heap.size->(W.setCell ⟨wd.heap.size,j,none⟩ u).cell? ⟨b',o',none⟩=W.cell? ⟨b',o',none⟩:=fun W b' o' j u hb=>World.cell?_setCell_far _ _ _ _ (fun e=>hb e.symm)
  have NWh:=aA NWd;clear NWd NW
  go_region_held3 (fun w'=>w'.cell? ⟨n,0,none⟩=some (.slice A ss.length C)/\w'.cell? ⟨n,7,none⟩=some (.int .i64 f)/\w'.cell? ⟨n+1,0,none⟩=some (.string s)) (go_keep) (first|(go_at_call 85;refine(NWh.out _ ?_).mono ?_;(first|exact(Below.refl _ _).drew|exact((Below.refl _ _).alloc (Nat.le_refl _) _).drew);rintro e w3 ⟨x,rfl,hov,hb3⟩;obtain⟨VA,VC,hvv,-⟩:=aP hov;subst hvv;have T3:=(aY (hb3.mono (show wd.heap.size<=_ by simp))).1;first|(have T4:=vS (W:=wd.drew) (n:=wd.heap.size) hb3 rfl;obtain⟨T40,U4⟩:=T4)|skip))
  ·go_wp2
   go_meet
   case rel=>
    have bw:Below wd.heap.size wd w3:=((Below.refl wd.heap.size wd).drew).trans (hb3.mono (by simp))
    exact qnj HD.out HR.out HL.out bw hov
  ·go_wp2
   go_meet
   case rel=>
    exact qir HD.out HR.out HL.out hb3 hov
 case rest=>
  obtain⟨cb,VA,VC,rfl,hcut⟩:=hcut;obtain⟨wq,hwq⟩:∃wq,wq=wc:=⟨_,rfl⟩;subst hwq;have c0:wq.cell? ⟨cb,0,none⟩=some (.slice VA ns.length VC):=hcut.bc.cell 0;have yq:wq.cell? ⟨n+1,0,none⟩=some (.string s):=by rw[HN.out];exact hcut.st.bp.cell 0
  have lc:=hcut.bc.lt;have l1q:n+1<wq.heap.size:=by rw[HN.out];exact hcut.st.bp.lt
  have S4:Hid (dX wq.heap.size wq VA ns):=⟨(eG hcut.own).1,hz,hes⟩;have HC:=aA hcut;clear hcut NW x0 x7 y0 ln ln1 HD HR
  by_cases h16:ns.length<=16
  ·have h16':¬(16<(ns.length:Int)):=by omega
   go_wp2_with (first
    |(go_at_call 86;refine(IX.out VA VC _ S4.out).mono ?_;rintro e wx ⟨rfl,hwx⟩;subst wx)
    |(go_at_call 87;refine(SZ.out _ HC.out.st.below).mono ?_;rintro e w5 ⟨rfl,hb5⟩;have H5:=aA (HC.out.next hb5)))
   clear c0 yq lc l1q S4 HC hb5 IX SZ
   go_loopw [50] (fun vi wr=>∃k:Nat,k<=3/\vi=.int .i64 k/\AdK F0 F1 F2 w [.slice A ss.length C,.slice A0 p0.length C0,.int .i64 r0,.slice A1 p1.length C1,.int .i64 r1,.slice A2 p2.length C2,.int .i64 r2,.int .i64 f] s t v r rb cb VC VA ns f k wr) (fun vi _=>3-(intOf vi).toNat)
   case atStart=>exact⟨0,by omega,rfl,0,0,0,0,0,0,[],[],[],0,0,0,H5.out,fun h=>by omega,fun h=>by omega,fun h=>by omega⟩
   case round=>
    obtain⟨k,hk,rfl,hK⟩:=hrel;have HK:=aA hK;obtain⟨cs,hL⟩:=hK.ldl;have y1:wr.cell? ⟨n+1,1,none⟩=some (.int .i64 t):=by rw[HN.out];exact hL.st.bp.cell 1
    have rc0:wr.cell? ⟨rb,0,none⟩=some (.int .i64 r.c):=hL.br.cell 0;have rc1:wr.cell? ⟨rb,1,none⟩=some (.int .i64 r.s):=hL.br.cell 1;have rc2:wr.cell? ⟨rb,2,none⟩=some (.int .i64 r.lo):=hL.br.cell 2;have rc3:wr.cell? ⟨rb,3,none⟩=some (.int .i64 r.hi):=hL.br.cell 3;have rc4:wr.cell? ⟨rb,4,none⟩=some (.int .i64 r.t):=hL.br.cell 4;have rc5:wr.cell? ⟨rb,5,none⟩=some (.int .i64 r.l):=hL.br.cell 5;have lrb:=hL.br.lt;have lcb:cb<wr.heap.size:=hL.bc.lt;have ln:n<wr.heap.size:=by rw[HN.out];exact hL.st.bb.lt
    have ln1:n+1<wr.heap.size:=by rw[HN.out];exact hL.st.bp.lt
    have n1:¬n=wr.heap.size:=by omega
    have n2:¬n+1=wr.heap.size:=by omega
    have n3:¬rb=wr.heap.size:=by omega
    have lm1:n<wr.heap.size+1:=by omega
    have lm2:n+1<wr.heap.size+1:=by omega
    have lm3:rb<wr.heap.size+1:=by omega
    have KS:∀(W:World) (b' o' j:Nat) (u:Value),¬b'=wr.heap.size->(W.setCell ⟨wr.heap.size,j,none⟩ u).cell? ⟨b',o',none⟩=W.cell? ⟨b',o',none⟩:=fun W b' o' j u hb=>World.cell?_setCell_far _ _ _ _ (fun e=>hb e.symm)
    clear H5;rcases(show k=0\/k=1\/k=2\/k=3 by omega) with rfl|rfl|rfl|rfl
    ·have iz:=qr1;have a1:wr.cell? ⟨n,1,none⟩=some (.slice A0 p0.length C0):=by rw[HN.out];exact hL.st.bb.cell 1
     have a2:wr.cell? ⟨n,2,none⟩=some (.int .i64 r0):=by rw[HN.out];exact hL.st.bb.cell 2
     have PTd:Hid (∀W,Below wr.heap.size wr W->Calls Tryz.prog 88 #[.agg #[.slice A0 p0.length C0,.int .i64 r0],.int .i64 k0,.agg #[.int .i64 r.c,.int .i64 r.s,.int .i64 r.lo,.int .i64 r.hi,.int .i64 r.t,.int .i64 r.l]] W (PutC B0 F0 W)):=fun W hb=>PT0.out W (aC hL.st.below (Nat.le_refl _) hb)
     clear hL hK PT0 PT1 PT2;go_upto_region 14 with fail
     go_cut [13,14,50] from 50 to 77 (fun v13 v14 v50 wc=>PutM B0 F0 0 wr v13 v14 v50 wc)
     case first=>
      go_region_held3 (fun w'=>w'.cell? ⟨n,1,none⟩=some (.slice A0 p0.length C0)/\w'.cell? ⟨n,2,none⟩=some (.int .i64 r0)/\w'.cell? ⟨n+1,1,none⟩=some (.int .i64 t)/\w'.cell? ⟨rb,0,none⟩=some (.int .i64 r.c)/\w'.cell? ⟨rb,1,none⟩=some (.int .i64 r.s)/\w'.cell? ⟨rb,2,none⟩=some (.int .i64 r.lo)/\w'.cell? ⟨rb,3,none⟩=some (.int .i64 r.hi)/\w'.cell? ⟨rb,4,none⟩=some (.int .i64 r.t)/\w'.cell? ⟨rb,5,none⟩=some (.int .i64 r.l)) (go_keep) (first
       |(go_at_call 90;refine(BG0.out _).mono ?_;rintro e wx ⟨rfl,hwx⟩;subst wx)
       |(go_at_call 89;refine(KY0.out _).mono ?_;rintro e wy ⟨rfl,hwy⟩;subst wy)
       |(go_at_call 88;refine(PTd.out _ ?_).mono ?_;(first|exact(Below.refl _ _).drew|exact((Below.refl _ _).alloc (Nat.le_refl _) _).drew);rintro e w3 ⟨XA,xl,XC,sr,c,rfl,hb3,hP⟩;have T3:=(aY (hb3.mono (show wr.heap.size<=_ by simp))).1;first|(have T4:=vS (W:=wr.drew) (n:=wr.heap.size) hb3 rfl;obtain⟨T40,U4⟩:=T4)|skip))
      all_goals
       go_wp2
       go_meet
       case rel=>
        first
         |exact q4l (((Below.refl wr.heap.size wr).drew).trans (hb3.mono (by simp))) hP
         |exact q2m (by simpa using hb3) (by simpa using hP)
     case rest=>
      obtain⟨mb,XA,xl,XC,sr,c,rfl,rfl,rfl,hmb,hbc,hrm,hP⟩:=hcut;have HK1:=aA (HK.out.next hbc);obtain⟨cs1,hL1⟩:=HK1.out.ldl;rcases hP with⟨hc0,hB⟩|⟨rfl,g,q,rfl,rfl,hT,hF⟩
      ·have hne:(c != 0)=true:=by simpa using hc0
       have d:∀j,wc.cell? ⟨n+1+1,j,none⟩=zb8[j]? :=fun j=>by rw[HN.out];exact hL1.st.bo.cell j
       have fz:∀j,wc.frozen? ⟨n+1+1,j,none⟩=false:=fun j=>by rw[HN.out];exact hL1.st.bo.frozen j
       simp only[zb8] at d;have HB9:=aA hL1.st.below;have HX:=aA (And.intro hc0 hB);clear hL1 hB hc0 HK HK1 hrm hbc;go_upto_region 16 with fail
       repeat go_step
       refine bodyPost_ret (v:=dF c) (by simp[dF,results,Tryz.results63,go_sem,d]) rfl ?_
       refine⟨?_,.inr (.inl ⟨h16,c,HX.out.1,.inl HX.out.2,rfl⟩)⟩;exact fA HB9.out (by have:=HN.out;omega) _ _ _ _ _ _ _ _
      ·have m0:=hrm.cell 0;have m1:=hrm.cell 1;simp only[List.getElem?_cons_zero,List.getElem?_cons_succ] at m0 m1;have lm:=hrm.lt;have fc:=fun j=>hL1.bc.frozen j
       have lc1:=hL1.bc.lt;obtain⟨z1,dc1⟩:=HK1.out.cell (j:=1) (by decide)
       obtain⟨z2,dc2⟩:=HK1.out.cell (j:=2) (by decide)
       have HX:=aA (And.intro hT (And.intro hF (And.intro lcb hbc)));clear hL1 hT hF HK hrm hbc;go_wp2_with fail;go_roundw
       case rel=>
        go_light;exact⟨1,by omega,by go_num,HK1.out.step0 HX.out.2.2.1 HX.out.1 HX.out.2.1⟩
       case measure=>simp[intOf]
    ·have iz:=vC;have a1:wr.cell? ⟨n,3,none⟩=some (.slice A1 p1.length C1):=by rw[HN.out];exact hL.st.bb.cell 3
     have a2:wr.cell? ⟨n,4,none⟩=some (.int .i64 r1):=by rw[HN.out];exact hL.st.bb.cell 4
     have PTd:Hid (∀W,Below wr.heap.size wr W->Calls Tryz.prog 88 #[.agg #[.slice A1 p1.length C1,.int .i64 r1],.int .i64 k1,.agg #[.int .i64 r.c,.int .i64 r.s,.int .i64 r.lo,.int .i64 r.hi,.int .i64 r.t,.int .i64 r.l]] W (PutC B1 F1 W)):=fun W hb=>PT1.out W (aC hL.st.below (Nat.le_refl _) hb)
     clear hL hK PT0 PT1 PT2;go_upto_region 14 with fail
     go_cut [13,14,50] from 50 to 77 (fun v13 v14 v50 wc=>PutM B1 F1 1 wr v13 v14 v50 wc)
     case first=>
      go_region_held3 (fun w'=>w'.cell? ⟨n,3,none⟩=some (.slice A1 p1.length C1)/\w'.cell? ⟨n,4,none⟩=some (.int .i64 r1)/\w'.cell? ⟨n+1,1,none⟩=some (.int .i64 t)/\w'.cell? ⟨rb,0,none⟩=some (.int .i64 r.c)/\w'.cell? ⟨rb,1,none⟩=some (.int .i64 r.s)/\w'.cell? ⟨rb,2,none⟩=some (.int .i64 r.lo)/\w'.cell? ⟨rb,3,none⟩=some (.int .i64 r.hi)/\w'.cell? ⟨rb,4,none⟩=some (.int .i64 r.t)/\w'.cell? ⟨rb,5,none⟩=some (.int .i64 r.l)) (go_keep) (first
       |(go_at_call 90;refine(BG1.out _).mono ?_;rintro e wx ⟨rfl,hwx⟩;subst wx)
       |(go_at_call 89;refine(KY1.out _).mono ?_;rintro e wy ⟨rfl,hwy⟩;subst wy)
       |(go_at_call 88;refine(PTd.out _ ?_).mono ?_;(first|exact(Below.refl _ _).drew|exact((Below.refl _ _).alloc (Nat.le_refl _) _).drew);rintro e w3 ⟨XA,xl,XC,sr,c,rfl,hb3,hP⟩;have T3:=(aY (hb3.mono (show wr.heap.size<=_ by simp))).1;first|(have T4:=vS (W:=wr.drew) (n:=wr.heap.size) hb3 rfl;obtain⟨T40,U4⟩:=T4)|skip))
      all_goals
       go_wp2
       go_meet
       case rel=>
        first
         |exact q4l (((Below.refl wr.heap.size wr).drew).trans (hb3.mono (by simp))) hP
         |exact q2m (by simpa using hb3) (by simpa using hP)
     case rest=>
      obtain⟨mb,XA,xl,XC,sr,c,rfl,rfl,rfl,hmb,hbc,hrm,hP⟩:=hcut;have HK1:=aA (HK.out.next hbc);obtain⟨cs1,hL1⟩:=HK1.out.ldl;rcases hP with⟨hc0,hB⟩|⟨rfl,g,q,rfl,rfl,hT,hF⟩
      ·have hne:(c != 0)=true:=by simpa using hc0
       have d:∀j,wc.cell? ⟨n+1+1,j,none⟩=zb8[j]? :=fun j=>by rw[HN.out];exact hL1.st.bo.cell j
       have fz:∀j,wc.frozen? ⟨n+1+1,j,none⟩=false:=fun j=>by rw[HN.out];exact hL1.st.bo.frozen j
       simp only[zb8] at d;have HB9:=aA hL1.st.below;have HX:=aA (And.intro hc0 hB);clear hL1 hB hc0 HK HK1 hrm hbc;go_upto_region 16 with fail
       repeat go_step
       refine bodyPost_ret (v:=dF c) (by simp[dF,results,Tryz.results63,go_sem,d]) rfl ?_
       refine⟨?_,.inr (.inl ⟨h16,c,HX.out.1,.inr (.inl HX.out.2),rfl⟩)⟩;exact fA HB9.out (by have:=HN.out;omega) _ _ _ _ _ _ _ _
      ·have m0:=hrm.cell 0;have m1:=hrm.cell 1;simp only[List.getElem?_cons_zero,List.getElem?_cons_succ] at m0 m1;have lm:=hrm.lt;have fc:=fun j=>hL1.bc.frozen j
       have lc1:=hL1.bc.lt;obtain⟨z1,dc1⟩:=HK1.out.cell (j:=3) (by decide)
       obtain⟨z2,dc2⟩:=HK1.out.cell (j:=4) (by decide)
       have HX:=aA (And.intro hT (And.intro hF (And.intro lcb hbc)));clear hL1 hT hF HK hrm hbc;go_wp2_with fail;go_roundw
       case rel=>
        go_light;exact⟨2,by omega,by go_num,HK1.out.step1 HX.out.2.2.1 HX.out.1 HX.out.2.1⟩
       case measure=>simp[intOf]
    ·have iz:=rY;have a1:wr.cell? ⟨n,5,none⟩=some (.slice A2 p2.length C2):=by rw[HN.out];exact hL.st.bb.cell 5
     have a2:wr.cell? ⟨n,6,none⟩=some (.int .i64 r2):=by rw[HN.out];exact hL.st.bb.cell 6
     have PTd:Hid (∀W,Below wr.heap.size wr W->Calls Tryz.prog 88 #[.agg #[.slice A2 p2.length C2,.int .i64 r2],.int .i64 k2,.agg #[.int .i64 r.c,.int .i64 r.s,.int .i64 r.lo,.int .i64 r.hi,.int .i64 r.t,.int .i64 r.l]] W (PutC B2 F2 W)):=fun W hb=>PT2.out W (aC hL.st.below (Nat.le_refl _) hb)
     clear hL hK PT0 PT1 PT2;go_upto_region 14 with fail
     go_cut [13,14,50] from 50 to 77 (fun v13 v14 v50 wc=>PutM B2 F2 2 wr v13 v14 v50 wc)
     case first=>
      go_region_held3 (fun w'=>w'.cell? ⟨n,5,none⟩=some (.slice A2 p2.length C2)/\w'.cell? ⟨n,6,none⟩=some (.int .i64 r2)/\w'.cell? ⟨n+1,1,none⟩=some (.int .i64 t)/\w'.cell? ⟨rb,0,none⟩=some (.int .i64 r.c)/\w'.cell? ⟨rb,1,none⟩=some (.int .i64 r.s)/\w'.cell? ⟨rb,2,none⟩=some (.int .i64 r.lo)/\w'.cell? ⟨rb,3,none⟩=some (.int .i64 r.hi)/\w'.cell? ⟨rb,4,none⟩=some (.int .i64 r.t)/\w'.cell? ⟨rb,5,none⟩=some (.int .i64 r.l)) (go_keep) (first
       |(go_at_call 90;refine(BG2.out _).mono ?_;rintro e wx ⟨rfl,hwx⟩;subst wx)
       |(go_at_call 89;refine(KY2.out _).mono ?_;rintro e wy ⟨rfl,hwy⟩;subst wy)
       |(go_at_call 88;refine(PTd.out _ ?_).mono ?_;(first|exact(Below.refl _ _).drew|exact((Below.refl _ _).alloc (Nat.le_refl _) _).drew);rintro e w3 ⟨XA,xl,XC,sr,c,rfl,hb3,hP⟩;have T3:=(aY (hb3.mono (show wr.heap.size<=_ by simp))).1;first|(have T4:=vS (W:=wr.drew) (n:=wr.heap.size) hb3 rfl;obtain⟨T40,U4⟩:=T4)|skip))
      all_goals
       go_wp2
       go_meet
       case rel=>
        first
         |exact q4l (((Below.refl wr.heap.size wr).drew).trans (hb3.mono (by simp))) hP
         |exact q2m (by simpa using hb3) (by simpa using hP)
     case rest=>
      obtain⟨mb,XA,xl,XC,sr,c,rfl,rfl,rfl,hmb,hbc,hrm,hP⟩:=hcut;have HK1:=aA (HK.out.next hbc);obtain⟨cs1,hL1⟩:=HK1.out.ldl;rcases hP with⟨hc0,hB⟩|⟨rfl,g,q,rfl,rfl,hT,hF⟩
      ·have hne:(c != 0)=true:=by simpa using hc0
       have d:∀j,wc.cell? ⟨n+1+1,j,none⟩=zb8[j]? :=fun j=>by rw[HN.out];exact hL1.st.bo.cell j
       have fz:∀j,wc.frozen? ⟨n+1+1,j,none⟩=false:=fun j=>by rw[HN.out];exact hL1.st.bo.frozen j
       simp only[zb8] at d;have HB9:=aA hL1.st.below;have HX:=aA (And.intro hc0 hB);clear hL1 hB hc0 HK HK1 hrm hbc;go_upto_region 16 with fail
       repeat go_step
       refine bodyPost_ret (v:=dF c) (by simp[dF,results,Tryz.results63,go_sem,d]) rfl ?_
       refine⟨?_,.inr (.inl ⟨h16,c,HX.out.1,.inr (.inr HX.out.2),rfl⟩)⟩;exact fA HB9.out (by have:=HN.out;omega) _ _ _ _ _ _ _ _
      ·have m0:=hrm.cell 0;have m1:=hrm.cell 1;simp only[List.getElem?_cons_zero,List.getElem?_cons_succ] at m0 m1;have lm:=hrm.lt;have fc:=fun j=>hL1.bc.frozen j
       have lc1:=hL1.bc.lt;obtain⟨z1,dc1⟩:=HK1.out.cell (j:=5) (by decide)
       obtain⟨z2,dc2⟩:=HK1.out.cell (j:=6) (by decide)
       have HX:=aA (And.intro hT (And.intro hF (And.intro lcb hbc)));clear hL1 hT hF HK hrm hbc;go_wp2_with fail;go_roundw
       case rel=>
        go_light;exact⟨3,by omega,by go_num,HK1.out.step2 HX.out.2.2.1 HX.out.1 HX.out.2.1⟩
       case measure=>simp[intOf]
    ·clear PT0 PT1 PT2;obtain⟨g0,D0,g1,D1,g2,D2,q0,q1,q2,s0,s1,s2,hrow,hfin⟩:=hK.done;have d:=fun j=>hrow.cell j
     have lo:=hrow.lt;have da:∀j,wr.cell? ⟨n+1+1,j,none⟩=zb8[j]? :=fun j=>by rw[HN.out];exact hL.st.bo.cell j
     have fa:∀j,wr.frozen? ⟨n+1+1,j,none⟩=false:=fun j=>by rw[HN.out];exact hL.st.bo.frozen j
     have la:n+1+1<wr.heap.size:=by rw[HN.out];exact hL.st.bo.lt
     simp only[zb8] at da;have HF:=aA hfin;clear hfin hK hL hrow HK;go_wp2_with fail;refine bodyPost_ret (v:=.tuple #[.agg #[.slice VA ns.length VC,.slice (some ⟨g0,0,none⟩) q0.length D0,.int .i64 s0,.slice (some ⟨g1,0,none⟩) q1.length D1,.int .i64 s1,.slice (some ⟨g2,0,none⟩) q2.length D2,.int .i64 s2,.int .i64 f],.int .i64 0]) (by simp[results,Tryz.results63,go_sem,da]) rfl ?_
     have:=HF.out (.slice VA ns.length VC) (.slice (some ⟨g0,0,none⟩) q0.length D0) (.int .i64 s0) (.slice (some ⟨g1,0,none⟩) q1.length D1) (.int .i64 s1) (.slice (some ⟨g2,0,none⟩) q2.length D2) (.int .i64 s2) (.int .i64 f);rw[<-HN.out] at this;exact⟨HN.out▸this.1,.inr (.inr ⟨h16,VA,VC,g0,D0,g1,D1,g2,D2,q0,q1,q2,s0,s1,s2,rfl,HN.out▸this.2.1,HN.out▸this.2.2.1,HN.out▸this.2.2.2.1,HN.out▸this.2.2.2.2.1,this.2.2.2.2.2⟩)⟩
  ·have h16':(16<(ns.length:Int)):=by omega
   have d:∀j,wq.cell? ⟨n+1+1,j,none⟩=zb8[j]? :=fun j=>by rw[HN.out];exact HC.out.st.bo.cell j
   have fz:∀j,wq.frozen? ⟨n+1+1,j,none⟩=false:=fun j=>by rw[HN.out];exact HC.out.st.bo.frozen j
   have l9:n+1+1<wq.heap.size:=by rw[HN.out];exact HC.out.st.bo.lt
   simp only[zb8] at d;clear PT0 PT1 PT2 IX SZ S4;go_wp2_with fail;refine bodyPost_ret (v:=dF 1) (by simp[dF,results,Tryz.results63,go_sem,d]) rfl ?_
   refine⟨?_,.inl ⟨by omega,rfl⟩⟩
   exact fA HC.out.st.below (by have:=HN.out;omega) _ _ _ _ _ _ _ _

end Go.Proofs.YtlojfgdpmaigmagGreatDoor

/- base.Check: what package base says of a base. -/
import Derived.Test.YtlojfgdpmaigmagGreatDoorP26
import Derived.Deep.RegionHeld3
import Derived.Deep.AppendLies
import Derived.BigQuiet
namespace Go.Proofs.YtlojfgdpmaigmagGreatDoor
section
open Go.RowKit Plain

def qH(n f:Int)(n0:List Nd)(r0:Int)(n1:List Nd)(r1:Int)(n2:List Nd)(r2:Int):Bool:=
 decide ((allP n0 r0 0 1099511627776).1=0)&&((allP n0 r0 0 1099511627776).2.all (dJ n f)&&(bW 60 (allP n0 r0 0 1099511627776).2 n1 r1&&bW 3600 (allP n0 r0 0 1099511627776).2 n2 r2))

theorem qk6(n f:Int)(n0:List Nd)(r0:Int)(n1:List Nd)(r1:Int)(n2:List Nd)(r2:Int):qH n f n0 r0 n1 r1 n2 r2=lG n f n0 r0 n1 r1 n2 r2:=by
 unfold qH lG;cases hb:fU n0 r0 n f with
 |some l=>
  obtain⟨h1,h2,h3⟩:=pR hb;show _=(bW 1 l n0 r0&&(bW 60 l n1 r1&&bW 3600 l n2 r2));rw[qb7 hb,h1,h2,h3];simp
 |none=>
  unfold fU at hb
  split at hb
  ·cases hb
  ·rename_i hc
   by_cases h1:(allP n0 r0 0 1099511627776).1=0
   ·have h2:(allP n0 r0 0 1099511627776).2.all (dJ n f)=false:=by
     cases h:(allP n0 r0 0 1099511627776).2.all (dJ n f) with
     |false=>rfl
     |true=>exact absurd ⟨h1,h⟩ hc
    rw[h2];simp
   ·simp[h1]

set_option maxRecDepth 20000 in
set_option maxHeartbeats 1000000 in
theorem q2o(A:Option Addr)(C:Nat)(ss:List ByteArray)(t0 t1 t2:TR)(f:Int)(w:World)(hZ:SzAt w)(h0:t0.ok w)(h1:t1.ok w)(h2:t2.ok w):
  Calls Tryz.prog 78 #[.agg (aJ A C ss t0 t1 t2 f).toArray] w fun e w'=>e=.returned (.bool (qH ss.length f (t0.ps.map PN.nd) t0.r (t1.ps.map PN.nd) t1.r (t2.ps.map PN.nd) t2.r))/\Below w.heap.size w w':=by
 have b0:∀o:Obj,Below w.heap.size w (w.alloc o):=fun o=>(Below.refl _ _).alloc (Nat.le_refl _) o
 obtain⟨nb,hnb⟩:∃nb,nb=qH ss.length f (t0.ps.map PN.nd) t0.r (t1.ps.map PN.nd) t1.r (t2.ps.map PN.nd) t2.r:=⟨_,rfl⟩;have HN:Hid (nb=qH ss.length f (t0.ps.map PN.nd) t0.r (t1.ps.map PN.nd) t1.r (t2.ps.map PN.nd) t2.r):=hnb;rw[<-hnb];clear hnb;have ptc:=fun(VA:Option Addr) (VC:Nat) (L:List En) w' h' hz hk hg=>qdu (ss.length:Int) f VA VC L w' h' hz hk hg
 obtain⟨A0,C0,p0,r0⟩:=t0;obtain⟨A1,C1,p1,r1⟩:=t1;obtain⟨A2,C2,p2,r2⟩:=t2;obtain⟨n0,f0,-⟩:=h0;obtain⟨n1,f1,-⟩:=h1;obtain⟨n2,f2,-⟩:=h2;simp only[aJ] at *;have g0:=fun w' hN=>wY A0 C0 r0 p0 w' hN f0
 have hfc:=gU (ns:=p0.map PN.nd) (r:=r0) (low:=0) (high:=1099511627776);have hlen:=kY (p0.map PN.nd) r0 0 1099511627776;have HT:Hid (nb=(decide ((allP (p0.map PN.nd) r0 0 1099511627776).1=0)&&((allP (p0.map PN.nd) r0 0 1099511627776).2.all (dJ ss.length f)&&(bW 60 (allP (p0.map PN.nd) r0 0 1099511627776).2 (p1.map PN.nd) r1&&bW 3600 (allP (p0.map PN.nd) r0 0 1099511627776).2 (p2.map PN.nd) r2)))):=HN.out;generalize allP (p0.map PN.nd) r0 0 1099511627776=P at g0 hfc hlen HT;obtain⟨c,L⟩:=P;simp only at g0 hfc hlen HT;clear HN;have bx:∀w',Below (w.alloc (.cells #[.slice A ss.length C,.slice A0 p0.length C0,.int .i64 r0,.slice A1 p1.length C1,.int .i64 r1,.slice A2 p2.length C2,.int .i64 r2,.int .i64 f] 35)).heap.size (w.alloc (.cells #[.slice A ss.length C,.slice A0 p0.length C0,.int .i64 r0,.slice A1 p1.length C1,.int .i64 r1,.slice A2 p2.length C2,.int .i64 r2,.int .i64 f] 35)) w'->RowL w' w.heap.size 35 [.slice A ss.length C,.slice A0 p0.length C0,.int .i64 r0,.slice A1 p1.length C1,.int .i64 r1,.slice A2 p2.length C2,.int .i64 r2,.int .i64 f]:=fun w' hb=>(aG w _ _).below hb (by simp)
 have BX:=sG bx;clear bx
 by_cases hc:c=0
 ·subst hc;have pt:=fun VA VC w' h'=>ptc VA VC L w' h' hlen hfc.2.2 hfc.2.1
  cases hpb:L.all (dJ ss.length f) with
  |false=>
   have H1:Hid (nb=false):=by
    show _=_;rw[HT.out,hpb];simp
   simp only[hpb] at pt;clear HT ptc
   go_enter Tryz.func78,Tryz.ntmps78
   go_wp2_with (first
    |(go_at_call 106;refine(g0 _ (n0.up (b0 _))).mono ?_;rintro e w1 ⟨hb1,v,rfl,ho⟩;obtain⟨VA,VC,hvv,-,-,-,hrow⟩:=aP ho;subst hvv;have hw1:Below w.heap.size w w1:=aC (b0 _) (Nat.le_refl _) hb1;have rb:=BX.out _ hb1;have yy:=(fun j=>rb.cell j);have lb:=rb.lt)
    |(go_at_call 107;refine(pt VA VC _ hrow).mono ?_;rintro e w2 ⟨rfl,hb2⟩))
   go_ret;exact⟨by rw[H1.out];rfl,aC hw1 (Nat.le_refl _) hb2⟩
  |true=>
   have HT2:Hid (nb=(bW 60 L (p1.map PN.nd) r1&&bW 3600 L (p2.map PN.nd) r2)):=by
    show _=_;rw[HT.out,hpb];simp
   simp only[hpb] at pt;clear HT ptc
   go_enter Tryz.func78,Tryz.ntmps78
   go_wp2_with (first
    |(go_at_call 106;refine(g0 _ (n0.up (b0 _))).mono ?_;rintro e w1 ⟨hb1,v,rfl,ho⟩;obtain⟨VA,VC,hvv,-,-,-,hrow⟩:=aP ho;subst hvv;have hw1:Below w.heap.size w w1:=aC (b0 _) (Nat.le_refl _) hb1;have rb:=BX.out _ hb1;have yy:=(fun j=>rb.cell j);have lb:=rb.lt)
    |(go_at_call 107;refine(pt VA VC _ hrow).mono ?_;rintro e w2 ⟨rfl,hb2⟩))
   have rb2:=rb.below hb2 lb;have lb2:=rb2.lt;have hw2:Below w.heap.size w w2:=aC hw1 (Nat.le_refl _) hb2;have hrow2:=hrow.up hb2;clear yy rb lb hb2 hb1 hw1 hrow pt g0 hpb
   go_loopw [5] (fun v5 wr=>∃k:Nat,1<=k/\k<=3/\v5=.int .i64 k/\Hid ((1<k->bW 60 L (p1.map PN.nd) r1=true)/\(2<k->bW 3600 L (p2.map PN.nd) r2=true))/\Below w2.heap.size w2 wr) (fun v5 _=>3-(intOf v5).toNat)
   case atStart=>exact⟨1,by omega,by omega,rfl,⟨fun h=>by omega,fun h=>by omega⟩,Below.refl _ _⟩
   case round=>
    obtain⟨k,hk1,hk3,rfl,HP,hb⟩:=hrel;have hwr:Below w.heap.size w wr:=aC hw2 (Nat.le_refl _) hb;have rb1:=rb2.below hb lb2;have lb1:=rb1.lt;have yy:=fun j=>rb1.cell j
    have hrw:=hrow2.up hb;rcases(show k=1\/k=2\/k=3 by omega) with rfl|rfl|rfl
    ·have gk:=fun w' hN=>wY A1 C1 r1 p1 w' hN f1
     have hll:=kY (p1.map PN.nd) r1 0 1099511627776;have HS:Hid (bW 60 L (p1.map PN.nd) r1=match aO 60 L with|none=>false|some W=>decide ((allP (p1.map PN.nd) r1 0 1099511627776).1=0)&&decide (W=(allP (p1.map PN.nd) r1 0 1099511627776).2)):=rfl
     have HFk:Hid (bW 60 L (p1.map PN.nd) r1=false->nb=false):=fun q=>by
      rw[HT2.out,q];simp
     generalize allP (p1.map PN.nd) r1 0 1099511627776=P at gk hll HS;obtain⟨c,M⟩:=P;simp only at gk hll HS
     by_cases hc:c=0
     ·subst hc;cases hroll:aO 60 L with
      |none=>
       have HF:Hid (nb=false):=HFk.out (by rw[HS.out,hroll])
       have conB:∀w',aH w'.heap.size w' VA (aB L)->Calls Tryz.prog 108 #[.slice VA L.length VC,.int .i64 60] w' fun e w''=>e=.returned (.tuple #[.slice none 0 0,.int .i64 1])/\Below w'.heap.size w' w'':=fun w' hr=>vT VA VC L 60 (Or.inl rfl) w' hr hlen hfc.1 hfc.2.1 hfc.2.2 _ (fun e w'' q1 _ q3=>⟨q3 hroll,q1⟩)
       clear HS HFk hroll HT2 HP;go_wp2_with (first|(go_at_call 106;refine(gk _ (n1.up hwr)).mono ?_;rintro e w3 ⟨hb3,v3,rfl,ho3⟩;obtain⟨LA,LC,hv3,-,-,-,hr3⟩:=aP ho3;subst hv3;have hw3:Below w.heap.size w w3:=aC hwr (Nat.le_refl _) hb3;have zs:=hZ.below hw3;have zi:=vC;have hrw3:=hrw.up hb3)|(go_at_call 87;refine(jJ _ zs).mono ?_;rintro e ws ⟨rfl,hbs⟩;have hws:Below w.heap.size w ws:=aC hw3 (Nat.le_refl _) hbs;have hrws:=hrw3.up hbs)|(go_at_call 108;refine(conB _ hrws).mono ?_;rintro e w4 ⟨rfl,hb4⟩))
       go_ret;exact⟨by rw[HF.out];rfl,aC hws (Nat.le_refl _) hb4⟩
      |some W=>
       have hWl:=tJ hfc.2.1 hroll;have conB:∀w',aH w'.heap.size w' VA (aB L)->Calls Tryz.prog 108 #[.slice VA L.length VC,.int .i64 60] w' fun e w''=>(∃v,e=.returned (.tuple #[v,.int .i64 0])/\w''.ownsRow w'.heap.size 132 7 v W.length (aB W))/\Below w'.heap.size w' w'':=fun w' hr=>vT VA VC L 60 (Or.inl rfl) w' hr hlen hfc.1 hfc.2.1 hfc.2.2 _ (fun e w'' q1 q2 _=>⟨q2 W hroll,q1⟩)
       have HSW:Hid (bW 60 L (p1.map PN.nd) r1=decide (W=M)):=by
        show _=_;rw[HS.out,hroll];simp
       clear HS hroll;have sm:=fun A' B' C' D' w' h1 h2=>q3f A' B' C' D' M W w' h1 h2 (by omega) (by omega)
       by_cases hWL:W=M
       ·have HS1:bW 60 L (p1.map PN.nd) r1=true:=by
         rw[HSW.out]
         simpa using hWL
        have HP':Hid ((1<2->bW 60 L (p1.map PN.nd) r1=true)/\(2<2->bW 3600 L (p2.map PN.nd) r2=true)):=⟨fun _=>HS1,fun h=>by omega⟩
        have hd:decide (M=W)=true:=by simpa using hWL.symm
        simp only[hd] at sm;have SM:=sG sm;clear HSW HFk HT2 HP hd hWL HS1 sm;go_wp2_with (first|(go_at_call 106;refine(gk _ (n1.up hwr)).mono ?_;rintro e w3 ⟨hb3,v3,rfl,ho3⟩;obtain⟨LA,LC,hv3,-,-,-,hr3⟩:=aP ho3;subst hv3;have hw3:Below w.heap.size w w3:=aC hwr (Nat.le_refl _) hb3;have zs:=hZ.below hw3;have zi:=vC;have hrw3:=hrw.up hb3)|(go_at_call 87;refine(jJ _ zs).mono ?_;rintro e ws ⟨rfl,hbs⟩;have hws:Below w.heap.size w ws:=aC hw3 (Nat.le_refl _) hbs;have hrws:=hrw3.up hbs)|(go_at_call 108;refine(conB _ hrws).mono ?_;rintro e w4 ⟨⟨v4,rfl,ho4⟩,hb4⟩;obtain⟨WA,WC,hv4,-,-,-,hr4⟩:=aP ho4;subst hv4)|(go_at_call 109;refine(SM.out _ _ _ _ _ ((hr3.up hbs).up hb4) hr4).mono ?_;rintro e w6 ⟨rfl,hb6⟩))
        exact⟨⟨2,by omega,by omega,by go_num,HP',aC (aC (aC (aC hb (Nat.le_refl _) hb3) (Nat.le_refl _) hbs) (Nat.le_refl _) hb4) (Nat.le_refl _) hb6⟩,by simp only[intOf];omega⟩
       ·have HF:Hid (nb=false):=HFk.out (by rw[HSW.out];simpa using hWL)
        have hd:decide (M=W)=false:=by simpa using fun e=>hWL e.symm
        simp only[hd] at sm;have SM:=sG sm;clear HSW HFk HT2 HP hd hWL sm;go_wp2_with (first|(go_at_call 106;refine(gk _ (n1.up hwr)).mono ?_;rintro e w3 ⟨hb3,v3,rfl,ho3⟩;obtain⟨LA,LC,hv3,-,-,-,hr3⟩:=aP ho3;subst hv3;have hw3:Below w.heap.size w w3:=aC hwr (Nat.le_refl _) hb3;have zs:=hZ.below hw3;have zi:=vC;have hrw3:=hrw.up hb3)|(go_at_call 87;refine(jJ _ zs).mono ?_;rintro e ws ⟨rfl,hbs⟩;have hws:Below w.heap.size w ws:=aC hw3 (Nat.le_refl _) hbs;have hrws:=hrw3.up hbs)|(go_at_call 108;refine(conB _ hrws).mono ?_;rintro e w4 ⟨⟨v4,rfl,ho4⟩,hb4⟩;obtain⟨WA,WC,hv4,-,-,-,hr4⟩:=aP ho4;subst hv4)|(go_at_call 109;refine(SM.out _ _ _ _ _ ((hr3.up hbs).up hb4) hr4).mono ?_;rintro e w6 ⟨rfl,hb6⟩))
        go_ret;exact⟨by rw[HF.out];rfl,aC (aC hws (Nat.le_refl _) hb4) (Nat.le_refl _) hb6⟩
     ·have HF:Hid (nb=false):=HFk.out (by
       rw[HS.out];cases aO 60 L with
       |none=>rfl
       |some W=>simp[hc])
      have hc':(c != 0)=true:=by simpa using hc
      clear HS HFk HT2 HP;go_wp2_with (first|(go_at_call 106;refine(gk _ (n1.up hwr)).mono ?_;rintro e w3 ⟨hb3,v3,rfl,ho3⟩;obtain⟨LA,LC,hv3,-,-,-,hr3⟩:=aP ho3;subst hv3;have hw3:Below w.heap.size w w3:=aC hwr (Nat.le_refl _) hb3;have hrw3:=hrw.up hb3))
      go_ret;exact⟨by rw[HF.out];rfl,hw3⟩
    ·have gk:=fun w' hN=>wY A2 C2 r2 p2 w' hN f2
     have hll:=kY (p2.map PN.nd) r2 0 1099511627776;have HS:Hid (bW 3600 L (p2.map PN.nd) r2=match aO 3600 L with|none=>false|some W=>decide ((allP (p2.map PN.nd) r2 0 1099511627776).1=0)&&decide (W=(allP (p2.map PN.nd) r2 0 1099511627776).2)):=rfl
     have HFk:Hid (bW 3600 L (p2.map PN.nd) r2=false->nb=false):=fun q=>by
      rw[HT2.out,q];simp
     generalize allP (p2.map PN.nd) r2 0 1099511627776=P at gk hll HS;obtain⟨c,M⟩:=P;simp only at gk hll HS
     by_cases hc:c=0
     ·subst hc;cases hroll:aO 3600 L with
      |none=>
       have HF:Hid (nb=false):=HFk.out (by rw[HS.out,hroll])
       have conB:∀w',aH w'.heap.size w' VA (aB L)->Calls Tryz.prog 108 #[.slice VA L.length VC,.int .i64 3600] w' fun e w''=>e=.returned (.tuple #[.slice none 0 0,.int .i64 1])/\Below w'.heap.size w' w'':=fun w' hr=>vT VA VC L 3600 (Or.inr rfl) w' hr hlen hfc.1 hfc.2.1 hfc.2.2 _ (fun e w'' q1 _ q3=>⟨q3 hroll,q1⟩)
       clear HS HFk hroll HT2 HP;go_wp2_with (first|(go_at_call 106;refine(gk _ (n2.up hwr)).mono ?_;rintro e w3 ⟨hb3,v3,rfl,ho3⟩;obtain⟨LA,LC,hv3,-,-,-,hr3⟩:=aP ho3;subst hv3;have hw3:Below w.heap.size w w3:=aC hwr (Nat.le_refl _) hb3;have zs:=hZ.below hw3;have zi:=rY;have hrw3:=hrw.up hb3)|(go_at_call 87;refine(jJ _ zs).mono ?_;rintro e ws ⟨rfl,hbs⟩;have hws:Below w.heap.size w ws:=aC hw3 (Nat.le_refl _) hbs;have hrws:=hrw3.up hbs)|(go_at_call 108;refine(conB _ hrws).mono ?_;rintro e w4 ⟨rfl,hb4⟩))
       go_ret;exact⟨by rw[HF.out];rfl,aC hws (Nat.le_refl _) hb4⟩
      |some W=>
       have hWl:=tJ hfc.2.1 hroll;have conB:∀w',aH w'.heap.size w' VA (aB L)->Calls Tryz.prog 108 #[.slice VA L.length VC,.int .i64 3600] w' fun e w''=>(∃v,e=.returned (.tuple #[v,.int .i64 0])/\w''.ownsRow w'.heap.size 132 7 v W.length (aB W))/\Below w'.heap.size w' w'':=fun w' hr=>vT VA VC L 3600 (Or.inr rfl) w' hr hlen hfc.1 hfc.2.1 hfc.2.2 _ (fun e w'' q1 q2 _=>⟨q2 W hroll,q1⟩)
       have HSW:Hid (bW 3600 L (p2.map PN.nd) r2=decide (W=M)):=by
        show _=_;rw[HS.out,hroll];simp
       clear HS hroll;have sm:=fun A' B' C' D' w' h1 h2=>q3f A' B' C' D' M W w' h1 h2 (by omega) (by omega)
       by_cases hWL:W=M
       ·have HS1:bW 3600 L (p2.map PN.nd) r2=true:=by
         rw[HSW.out]
         simpa using hWL
        have HP':Hid ((1<3->bW 60 L (p1.map PN.nd) r1=true)/\(2<3->bW 3600 L (p2.map PN.nd) r2=true)):=⟨fun _=>HP.out.1 (by omega),fun _=>HS1⟩
        have hd:decide (M=W)=true:=by simpa using hWL.symm
        simp only[hd] at sm;have SM:=sG sm;clear HSW HFk HT2 HP hd hWL HS1 sm;go_wp2_with (first|(go_at_call 106;refine(gk _ (n2.up hwr)).mono ?_;rintro e w3 ⟨hb3,v3,rfl,ho3⟩;obtain⟨LA,LC,hv3,-,-,-,hr3⟩:=aP ho3;subst hv3;have hw3:Below w.heap.size w w3:=aC hwr (Nat.le_refl _) hb3;have zs:=hZ.below hw3;have zi:=rY;have hrw3:=hrw.up hb3)|(go_at_call 87;refine(jJ _ zs).mono ?_;rintro e ws ⟨rfl,hbs⟩;have hws:Below w.heap.size w ws:=aC hw3 (Nat.le_refl _) hbs;have hrws:=hrw3.up hbs)|(go_at_call 108;refine(conB _ hrws).mono ?_;rintro e w4 ⟨⟨v4,rfl,ho4⟩,hb4⟩;obtain⟨WA,WC,hv4,-,-,-,hr4⟩:=aP ho4;subst hv4)|(go_at_call 109;refine(SM.out _ _ _ _ _ ((hr3.up hbs).up hb4) hr4).mono ?_;rintro e w6 ⟨rfl,hb6⟩))
        exact⟨⟨3,by omega,by omega,by go_num,HP',aC (aC (aC (aC hb (Nat.le_refl _) hb3) (Nat.le_refl _) hbs) (Nat.le_refl _) hb4) (Nat.le_refl _) hb6⟩,by simp only[intOf];omega⟩
       ·have HF:Hid (nb=false):=HFk.out (by rw[HSW.out];simpa using hWL)
        have hd:decide (M=W)=false:=by simpa using fun e=>hWL e.symm
        simp only[hd] at sm;have SM:=sG sm;clear HSW HFk HT2 HP hd hWL sm;go_wp2_with (first|(go_at_call 106;refine(gk _ (n2.up hwr)).mono ?_;rintro e w3 ⟨hb3,v3,rfl,ho3⟩;obtain⟨LA,LC,hv3,-,-,-,hr3⟩:=aP ho3;subst hv3;have hw3:Below w.heap.size w w3:=aC hwr (Nat.le_refl _) hb3;have zs:=hZ.below hw3;have zi:=rY;have hrw3:=hrw.up hb3)|(go_at_call 87;refine(jJ _ zs).mono ?_;rintro e ws ⟨rfl,hbs⟩;have hws:Below w.heap.size w ws:=aC hw3 (Nat.le_refl _) hbs;have hrws:=hrw3.up hbs)|(go_at_call 108;refine(conB _ hrws).mono ?_;rintro e w4 ⟨⟨v4,rfl,ho4⟩,hb4⟩;obtain⟨WA,WC,hv4,-,-,-,hr4⟩:=aP ho4;subst hv4)|(go_at_call 109;refine(SM.out _ _ _ _ _ ((hr3.up hbs).up hb4) hr4).mono ?_;rintro e w6 ⟨rfl,hb6⟩))
        go_ret;exact⟨by rw[HF.out];rfl,aC (aC hws (Nat.le_refl _) hb4) (Nat.le_refl _) hb6⟩
     ·have HF:Hid (nb=false):=HFk.out (by
       rw[HS.out];cases aO 3600 L with
       |none=>rfl
       |some W=>simp[hc])
      have hc':(c != 0)=true:=by simpa using hc
      clear HS HFk HT2 HP;go_wp2_with (first|(go_at_call 106;refine(gk _ (n2.up hwr)).mono ?_;rintro e w3 ⟨hb3,v3,rfl,ho3⟩;obtain⟨LA,LC,hv3,-,-,-,hr3⟩:=aP ho3;subst hv3;have hw3:Below w.heap.size w w3:=aC hwr (Nat.le_refl _) hb3;have hrw3:=hrw.up hb3))
      go_ret;exact⟨by rw[HF.out];rfl,hw3⟩
    ·have H1:Hid (nb=true):=by
      show _=_;rw[HT2.out,HP.out.1 (by omega),HP.out.2 (by omega)]
      rfl
     clear HP HT2;go_wp2_with fail;go_ret;exact⟨by rw[H1.out];rfl,hwr⟩
 ·have H1:Hid (nb=false):=by
   show _=_;rw[HT.out];simp[hc]
  have hc':(c != 0)=true:=by simpa using hc
  clear HT ptc
  go_enter Tryz.func78,Tryz.ntmps78
  go_wp2_with (first
   |(go_at_call 106;refine(g0 _ (n0.up (b0 _))).mono ?_;rintro e w1 ⟨hb1,v,rfl,ho⟩;obtain⟨VA,VC,hvv,-,-,-,hrow⟩:=aP ho;subst hvv))
  go_ret;exact⟨by rw[H1.out];rfl,aC (b0 _) (Nat.le_refl _) hb1⟩

theorem SzAt.alloc{w:World}(h:SzAt w)(o:Obj):SzAt (w.alloc o):=h.below ((Below.refl _ _).alloc (Nat.le_refl _) o)

set_option maxRecDepth 20000 in
set_option maxHeartbeats 1000000 in
theorem sQ(A:Option Addr)(C:Nat)(ss:List ByteArray)(t0 t1 t2:TR)(f:Int)(w:World)(hZ:SzAt w)(hC:ss.length<=C)(hS:dX w.heap.size w A ss)(h0:t0.ok w)(h1:t1.ok w)(h2:t2.ok w)(bb:Bool)(hbb:Hid (bM ss f (t0.ps.map PN.nd) t0.r (t1.ps.map PN.nd) t1.r (t2.ps.map PN.nd) t2.r=bb)):
  Calls Tryz.prog 55 #[.agg (aJ A C ss t0 t1 t2 f).toArray] w fun e w'=>e=.returned (.int .i64 (if bb=true then 0 else 7))/\Below w.heap.size w w':=by
 have b0:∀o:Obj,Below w.heap.size w (w.alloc o):=fun o=>(Below.refl _ _).alloc (Nat.le_refl _) o
 obtain⟨res,hres⟩:∃res:Int,res=if bb=true then 0 else 7:=⟨_,rfl⟩
 have HR:Hid (res=if bb=true then 0 else 7):=hres
 rw[<-hres];clear hres
 have HB:Hid (bb=((decide (ss.length<=16)&&gJ ss)&&(inB f 0 1048575&&(decide (f%3600=0)&&qH ss.length f (t0.ps.map PN.nd) t0.r (t1.ps.map PN.nd) t1.r (t2.ps.map PN.nd) t2.r)))):=by
  show _=_;rw[<-hbb.out,qk6];unfold bM;cases decide (ss.length<=16)<;>cases inB f 0 1048575<;>cases decide (f%3600=0)<;>cases gJ ss<;>rfl
 have okup:∀(t:TR) (W:World),Below w.heap.size w W->t.ok w->t.ok W:=fun t W hW ht=>⟨ht.1.up hW,ht.2.1,ht.2.2⟩
 have nmc:=fun o=>q2n A C ss (w.alloc o) (hS.up (b0 o)) hC
 have trc:=fun W (hW:Below w.heap.size w W)=>q2o A C ss t0 t1 t2 f W (hZ.below hW) (okup t0 W hW h0) (okup t1 W hW h1) (okup t2 W hW h2)
 generalize qH ss.length f (t0.ps.map PN.nd) t0.r (t1.ps.map PN.nd) t1.r (t2.ps.map PN.nd) t2.r=tb at trc HB;generalize (decide (ss.length<=16)&&gJ ss)=nb at nmc HB;obtain⟨A0,C0,p0,r0⟩:=t0;obtain⟨A1,C1,p1,r1⟩:=t1;obtain⟨A2,C2,p2,r2⟩:=t2;simp only[aJ] at *;clear hbb okup h0 h1 h2;cases nb with
 |false=>
  have H1:Hid (res=7):=by
   show _=_;rw[HR.out,HB.out]
   rfl
  clear HR HB trc
  go_enter Tryz.func55,Tryz.ntmps55
  go_wp2_with (first|(go_at_call 75;refine(nmc _).mono ?_;rintro e w1 ⟨rfl,hw1⟩;subst w1))
  go_ret;exact⟨by rw[H1.out];rfl,b0 _⟩
 |true=>
  cases hf:inB f 0 1048575 with
  |false=>
   have H1:Hid (res=7):=by
    show _=_;rw[HR.out,HB.out,hf]
    rfl
   clear HR HB trc
   go_enter Tryz.func55,Tryz.ntmps55
   go_wp2_with (first|(go_at_call 75;refine(nmc _).mono ?_;rintro e w1 ⟨rfl,hw1⟩;subst w1)|(go_at_call 76;refine(qV _ _).mono ?_;rintro e w1 ⟨rfl,hw1⟩;subst w1))
   go_ret;exact⟨by rw[H1.out];rfl,b0 _⟩
  |true=>
   have hff:=(gI _ _ _).1 hf;have hff':0<=f/\f<1099511627776:=by omega
   have flc:=fun o=>q1j f (w.alloc o) (hZ.alloc o) hff'
   cases hm:decide (f%3600=0) with
   |false=>
    have H1:Hid (res=7):=by
     show _=_;rw[HR.out,HB.out,hf,hm]
     rfl
    simp only[hm] at flc;clear HR HB trc hm
    go_enter Tryz.func55,Tryz.ntmps55
    go_wp2_with (first|(go_at_call 75;refine(nmc _).mono ?_;rintro e w1 ⟨rfl,hw1⟩;subst w1)|(go_at_call 76;refine(qV _ _).mono ?_;rintro e w1 ⟨rfl,hw1⟩;subst w1)|(go_at_call 77;refine(flc _).mono ?_;rintro e wf ⟨rfl,hbf⟩;have hwf:Below w.heap.size w wf:=aC (b0 _) (Nat.le_refl _) hbf;have fb:=fun j=>((aY hbf).1 w.heap.size j (by simp));have lf:w.heap.size<wf.heap.size:=Nat.lt_of_lt_of_le (by simp) hbf.size))
    go_ret;exact⟨by rw[H1.out];rfl,hwf⟩
   |true=>
    have H1:Hid (res=if tb=true then 0 else 7):=by
     show _=_;rw[HR.out,HB.out,hf,hm]
     rfl
    simp only[hm] at flc;clear HR HB hm;cases tb with
    |false=>
     have H2:Hid (res=7):=H1.out;clear H1
     go_enter Tryz.func55,Tryz.ntmps55
     go_wp2_with (first|(go_at_call 75;refine(nmc _).mono ?_;rintro e w1 ⟨rfl,hw1⟩;subst w1)|(go_at_call 76;refine(qV _ _).mono ?_;rintro e w1 ⟨rfl,hw1⟩;subst w1)|(go_at_call 77;refine(flc _).mono ?_;rintro e wf ⟨rfl,hbf⟩;have hwf:Below w.heap.size w wf:=aC (b0 _) (Nat.le_refl _) hbf;have fb:=fun j=>((aY hbf).1 w.heap.size j (by simp));have lf:w.heap.size<wf.heap.size:=Nat.lt_of_lt_of_le (by simp) hbf.size)|(go_at_call 78;refine(trc _ hwf).mono ?_;rintro e w2 ⟨rfl,hb2⟩))
     go_ret;exact⟨by rw[H2.out];rfl,aC hwf (Nat.le_refl _) hb2⟩
    |true=>
     have H2:Hid (res=0):=H1.out;clear H1
     go_enter Tryz.func55,Tryz.ntmps55
     go_wp2_with (first|(go_at_call 75;refine(nmc _).mono ?_;rintro e w1 ⟨rfl,hw1⟩;subst w1)|(go_at_call 76;refine(qV _ _).mono ?_;rintro e w1 ⟨rfl,hw1⟩;subst w1)|(go_at_call 77;refine(flc _).mono ?_;rintro e wf ⟨rfl,hbf⟩;have hwf:Below w.heap.size w wf:=aC (b0 _) (Nat.le_refl _) hbf;have fb:=fun j=>((aY hbf).1 w.heap.size j (by simp));have lf:w.heap.size<wf.heap.size:=Nat.lt_of_lt_of_le (by simp) hbf.size)|(go_at_call 78;refine(trc _ hwf).mono ?_;rintro e w2 ⟨rfl,hb2⟩))
     go_ret;exact⟨by rw[H2.out];rfl,aC hwf (Nat.le_refl _) hb2⟩

theorem q7g(A:Option Addr)(C:Nat)(ss:List ByteArray)(x:ByteArray)(w:World)(h:dX w.heap.size w A ss):
  Calls Tryz.prog 86 #[.slice A ss.length C,.string x] w fun e w'=>e=.returned (.int .i64 (Lib.idxOfS ss x))/\w'=w:=by
 have hz:=h.z;cases ss with
 |nil=>exact Any.slices_Index_string_empty Tryz.indexS A C x w
 |cons s r=>
  obtain⟨b,o,rfl,_,_,hc⟩:=h.row.str (k:=0) (by simp)
  have q:=Any.slices_Index_string Tryz.indexS b o (s::r).length C (s::r) x w (Nat.le_refl _) (by omega) hc
  rw[List.take_length] at q;exact q

set_option maxRecDepth 20000 in
set_option maxHeartbeats 1000000 in
theorem pI(A:Option Addr)(C:Nat)(ss:List ByteArray)(t0 t1 t2:TR)(f:Int)(x:ByteArray)(w:World)(hZ:SzAt w)(hC:ss.length<=C)(hS:dX w.heap.size w A ss)(h0:t0.ok w)(h1:t1.ok w)(h2:t2.ok w)(bb:Bool)(hbb:Hid (bM ss f (t0.ps.map PN.nd) t0.r (t1.ps.map PN.nd) t1.r (t2.ps.map PN.nd) t2.r=bb)):
  Calls Tryz.prog 91 #[.agg (aJ A C ss t0 t1 t2 f).toArray,.string x] w fun e w'=>e=.returned (.tuple #[.int .i64 (if bb=true then(if Lib.idxOfS ss x<0 then 0 else Lib.idxOfS ss x) else 0),.int .i64 (if bb=true then(if Lib.idxOfS ss x<0 then 6 else 0) else 7)])/\Below w.heap.size w w':=by
 have b0:∀o:Obj,Below w.heap.size w (w.alloc o):=fun o=>(Below.refl _ _).alloc (Nat.le_refl _) o
 have okup:∀(t:TR) (w':World),Below w.heap.size w w'->t.ok w->t.ok w':=fun t w' hb ht=>⟨ht.1.up hb,ht.2.1,ht.2.2⟩
 have cc:=fun w' (hb:Below w.heap.size w w')=>sQ A C ss t0 t1 t2 f w' (hZ.below hb) hC (hS.up hb) (okup t0 w' hb h0) (okup t1 w' hb h1) (okup t2 w' hb h2) bb hbb
 have ix:=fun w' (hb:Below w.heap.size w w')=>q7g A C ss x w' (hS.up hb)
 generalize Lib.idxOfS ss x=p at ix ⊢;clear hbb okup h0 h1 h2 hS hC hZ;obtain⟨A0,C0,p0,r0⟩:=t0;obtain⟨A1,C1,p1,r1⟩:=t1;obtain⟨A2,C2,p2,r2⟩:=t2;simp only[aJ] at *;have IX:=sG ix;clear ix;cases bb with
 |false=>
  simp only[Bool.false_eq_true,if_false] at cc ⊢
  go_enter Tryz.func91,Tryz.ntmps91
  go_wp2_with (first
   |(go_at_call 55;refine(cc _ (b0 _)).mono ?_;rintro e w1 ⟨rfl,hb1⟩))
  exact bodyPost_ret (v:=.tuple #[.int .i64 0,.int .i64 7]) (by simp[results,Tryz.results91,go_sem]) rfl ⟨rfl,aC (b0 _) (Nat.le_refl _) hb1⟩
 |true=>
  simp only[if_true] at cc ⊢
  by_cases hp:p<0
  ·simp only[hp,if_true]
   go_enter Tryz.func91,Tryz.ntmps91
   go_wp2_with (first
    |(go_at_call 55;refine(cc _ (b0 _)).mono ?_;rintro e w1 ⟨rfl,hb1⟩;have hw1:Below w.heap.size w w1:=aC (b0 _) (Nat.le_refl _) hb1;have yy:=(aY hb1).1;have z1:=sz1 hb1)
    |(go_at_call 86;refine(IX.out _ hw1).mono ?_;rintro e w2 ⟨rfl,hw2⟩;subst w2))
   exact bodyPost_ret (v:=.tuple #[.int .i64 0,.int .i64 6]) (by simp[results,Tryz.results91,go_sem]) rfl ⟨rfl,hw1⟩
  ·simp only[hp,if_false]
   go_enter Tryz.func91,Tryz.ntmps91
   go_wp2_with (first
    |(go_at_call 55;refine(cc _ (b0 _)).mono ?_;rintro e w1 ⟨rfl,hb1⟩;have hw1:Below w.heap.size w w1:=aC (b0 _) (Nat.le_refl _) hb1;have yy:=(aY hb1).1;have z1:=sz1 hb1)
    |(go_at_call 86;refine(IX.out _ hw1).mono ?_;rintro e w2 ⟨rfl,hw2⟩;subst w2))
   exact bodyPost_ret (v:=.tuple #[.int .i64 p,.int .i64 0]) (by simp[results,Tryz.results91,go_sem]) rfl ⟨rfl,hw1⟩

def eX(a b:Int):Bool:=decide (0<=a)&&(decide (a<=b)&&decide (b<=1048575))

theorem nG(a b:Int)(w:World):Calls Tryz.prog 93 #[.int .i64 a,.int .i64 b] w fun e w'=>e=.returned (.bool (eX a b))/\w'=w:=by
 unfold eX
 by_cases h1:0<=a<;>by_cases h2:a<=b<;>by_cases h3:b<=1048575<;>
 ·go_enter Tryz.func93,Tryz.ntmps93
  go_wp2;go_ret;exact⟨by simp[h1,h2,h3],rfl⟩

set_option maxHeartbeats 1000000 in
theorem oD(s:Int)(w:World)(hZ:SzAt w):Calls Tryz.prog 92 #[.int .i64 s] w fun e w'=>e=.returned (.tuple #[.int .i64 (if s=1 then 0 else if s=60 then 1 else if s=3600 then 2 else 0),.bool (decide (s=1\/s=60\/s=3600))])/\w'=w:=by
 obtain⟨c0,c1,c2,hl⟩:=hZ;have i0:∀(a b c:Value) (w:World),(Instr.index 142 (.agg #[a,b,c]) (.int .i64 0)).run Tryz.prog w=.ok a w:=fun _ _ _ _=>by kernel_rfl
 have i1:∀(a b c:Value) (w:World),(Instr.index 142 (.agg #[a,b,c]) (.int .i64 1)).run Tryz.prog w=.ok b w:=fun _ _ _ _=>by kernel_rfl
 have i2:∀(a b c:Value) (w:World),(Instr.index 142 (.agg #[a,b,c]) (.int .i64 2)).run Tryz.prog w=.ok c w:=fun _ _ _ _=>by kernel_rfl
 by_cases h1:s=1
 ·subst h1
  go_enter Tryz.func92,Tryz.ntmps92
  go_wp2_with fail
  go_rounds 1
  go_ret2
  exact⟨rfl,rfl⟩
 ·by_cases h2:s=60
  ·subst h2
   go_enter Tryz.func92,Tryz.ntmps92
   go_wp2_with fail
   go_rounds 2
   go_ret2
   exact⟨rfl,rfl⟩
  ·by_cases h3:s=3600
   ·subst h3
    go_enter Tryz.func92,Tryz.ntmps92
    go_wp2_with fail
    go_rounds 3
    go_ret2
    exact⟨rfl,rfl⟩
   ·have k1:(1==s)=false:=by simpa using fun e=>h1 e.symm
    have k2:(60==s)=false:=by simpa using fun e=>h2 e.symm
    have k3:(3600==s)=false:=by simpa using fun e=>h3 e.symm
    go_enter Tryz.func92,Tryz.ntmps92
    go_wp2_with fail
    go_rounds 4
    go_ret2
    exact⟨by simp,rfl⟩

def selB(p a b:Int)(x:En):Bool:=decide (kp x=p)&&(decide (a<=kt x)&&decide (kt x<=b))
def rowE(x:En):En:={ x with key:=kt x }
def qsk(p a b:Int)(l:List En):List En:=(l.filter (selB p a b)).map rowE

structure kL(ss:List ByteArray)(f:Int)(n0:List Nd)(r0:Int)(n1:List Nd)(r1:Int)(n2:List Nd)(r2:Int)(L0 L1 L2:List En):Prop where
 few:ss.length<=16
 book:fU n0 r0 ss.length f=some L0
 a0:allP n0 r0 0 1099511627776=(0,L0)
 a1:allP n1 r1 0 1099511627776=(0,L1)
 a2:allP n2 r2 0 1099511627776=(0,L2)
 p0:aO 1 L0=some L0
 p1:aO 60 L0=some L1
 p2:aO 3600 L0=some L2

theorem q6v{size:Int}{l:List En}{ns:List Nd}{r:Int}(h:bW size l ns r=true):∃M,aO size l=some M/\allP ns r 0 1099511627776=(0,M):=by
 unfold bW at h;cases hr:aO size l with
 |none=>rw[hr] at h;cases h
 |some W=>
  rw[hr] at h;simp only[Bool.and_eq_true,decide_eq_true_eq] at h;exact⟨W,rfl,Prod.ext h.1 h.2.symm⟩

theorem mX{ss:List ByteArray}{f:Int}{n0:List Nd}{r0:Int}{n1:List Nd}{r1:Int}{n2:List Nd}{r2:Int}(h:bM ss f n0 r0 n1 r1 n2 r2=true):∃L0 L1 L2,kL ss f n0 r0 n1 r1 n2 r2 L0 L1 L2:=by
 unfold bM at h;simp only[Bool.and_eq_true,decide_eq_true_eq] at h;obtain⟨h1,_,_,_,h2⟩:=h;unfold lG at h2;cases hb:fU n0 r0 ss.length f with
 |none=>rw[hb] at h2;cases h2
 |some l=>
  rw[hb] at h2;simp only[Bool.and_eq_true] at h2;obtain⟨s0,s1,s2⟩:=h2;obtain⟨b1,b2,_⟩:=pR hb;obtain⟨M1,q1,q2⟩:=q6v s1;obtain⟨M2,q3,q4⟩:=q6v s2;have hp:=(gU (ns:=n0) (r:=r0) (low:=0) (high:=1099511627776)).1;rw[b2] at hp;exact⟨l,M1,M2,h1,hb,Prod.ext b1 b2,q2,q4,wX hp,q1,q3⟩

theorem qhg{p a b:Int}(ha:0<=a)(hb:b<=1048575){x:En}:inR (p*1048576+a) (p*1048576+b+1) x=selB p a b x:=by
 rw[Bool.eq_iff_iff];simp only[inR,selB,Bool.and_eq_true,decide_eq_true_eq];simp only[kp,kt];constructor
 ·rintro⟨h1,h2⟩;have h3:x.key/1048576=p:=by omega
  exact⟨h3,by omega,by omega⟩
 ·rintro⟨h1,h2,h3⟩;exact⟨by omega,by omega⟩

theorem qkn{ns:List Nd}{r p a b:Int}{L:List En}(h:allP ns r 0 1099511627776=(0,L))(ha:0<=a)(hb:b<=1048575):allP ns r (p*1048576+a) (p*1048576+b+1)=(0,L.filter (selB p a b)):=by
 rw[q3n (by rw[h]),h]
 exact Prod.ext rfl (List.filter_congr fun x _=>qhg ha hb)

set_option maxRecDepth 20000 in
set_option maxHeartbeats 1000000 in
theorem pY(A:Option Addr)(C:Nat)(r p a b:Int)(ps:List PN)(L:List En)(w:World)(hN:bF w.heap.size w A ps)(hwf:∀q∈ps,q.wf)(hp:0<=p/\p<16)(ha:0<=a)(hab:a<=b)(hb:b<=1048575)(hL:allP (ps.map PN.nd) r 0 1099511627776=(0,L)):
  Calls Tryz.prog 94 #[.agg #[.slice A ps.length C,.int .i64 r],.int .i64 p,.int .i64 a,.int .i64 b] w
   fun e w'=>Below w.heap.size w w'/\∃v,e=.returned (.tuple #[v,.int .i64 0])/\w'.ownsRow w.heap.size 132 7 v (L.filter (selB p a b)).length (aB (L.filter (selB p a b))):=by
 have b0:∀o:Obj,Below w.heap.size w (w.alloc o):=fun o=>(Below.refl _ _).alloc (Nat.le_refl _) o
 have con:=aI fun W hN=>qa3 A C r (p*1048576+a) (p*1048576+b+1) ps W hN hwf
 rw[qkn hL ha hb] at con;simp only at con;generalize L.filter (selB p a b)=M at con ⊢;obtain⟨k1,hk1⟩:∃k1,p*1048576+a=k1:=⟨_,rfl⟩;obtain⟨k2,hk2⟩:∃k2,p*1048576+b=k2:=⟨_,rfl⟩;have c1:=aI fun W=>qU p a W (by omega) (by omega)
 have c2:=aI fun W=>qU p b W (by omega) (by omega)
 rw[hk1] at c1;rw[hk2] at c2;rw[hk1,hk2] at con;have hw:IntKind.i64.wrap (k2+1)=k2+1:=by rw[IntKind.wrap_i64];omega
 clear hL hwf
 go_enter Tryz.func94,Tryz.ntmps94
 go_wp2_with fail
 go_region_held3 (fun w'=>w'.cell? ⟨w.heap.size,0,none⟩=some (.slice A ps.length C)/\w'.cell? ⟨w.heap.size,1,none⟩=some (.int .i64 r)) (go_keep)
  (first
   |(go_at_call 56;refine(con.out _ (hN.up ((b0 _).drew))).mono ?_;rintro e w1 ⟨hb1,v1,rfl,ho1⟩;have T1:=(aY (hb1.mono (show w.heap.size+1<=_ by simp))).1;have HB:=aI hb1;have HO:=aI ho1)
   |(go_at_call 89;have kk:=K1;clear kk;refine(c2.out _).mono ?_;rintro e wx ⟨rfl,hwx⟩;subst wx)
   |(go_at_call 89;refine(c1.out _).mono ?_;rintro e wx ⟨rfl,hwx⟩;subst wx;have K1:True:=trivial))
 go_wp2
 go_ret2
 exact⟨aC ((b0 _).drew) (Nat.le_refl _) HB.out,v1,rfl,bQ HO.out (by simp)⟩

theorem q9g:(Tryz.prog.info? 55).map (fun i=>(i.zero,i.size,i.bytes))=some (some (.agg #[.int .i64 0,.int .i64 0,.int .i64 0,.int .i64 0,.int .i64 0,.int .i64 0,.int .i64 0]),7,56):=by kernel_rfl

theorem qs6{w:World}{vb:Nat}{t:TypeId}{x:En}(hv:RowL w vb t x.vals):∀j u,(aB [x])[j]? =some u->w.cell? (Addr.add ⟨vb,0,none⟩ j)=some u:=by
 intro j u hu;rw[WideShapes.add_plain,Nat.zero_add,hv.cell]
 simpa [aB] using hu

def yO(M:List En)(w:World)(e:Ending)(w':World):Prop:=
 Below w.heap.size w w'/\∃v,e=.returned (.tuple #[v,.int .i64 0])/\w'.ownsRow w.heap.size 55 7 v M.length (aB (M.map rowE))

theorem iR{w1 w4:World}{base:Nat}{e:TypeId}{size n:Nat}{v:Value}{vs:List Value}(o:w1.ownsRow base e size v n vs)(hb:Below w1.heap.size w1 w4):w4.ownsRow base e size v n vs:=
 aV o fun k hk=>hb.block k (o.lt k hk).2

theorem uM{w:World}{base:Nat}{e:TypeId}{size n C:Nat}{A:Option Addr}{vs:List Value}(h:w.ownsRow base e size (.slice A n C) n vs):∀k,(Value.slice A n C).ownBlock=some k->base<=k/\k<w.heap.size:=fun k hk=>h.lt k hk

theorem qgk(w:World)(x:En)(o1:Obj)(t:TypeId):∀j u,(aB [x])[j]? =some u->((w.alloc o1).drew.alloc (.cells #[.int .i64 x.key,.int .i64 x.c,.int .i64 x.s,.int .i64 x.lo,.int .i64 x.hi,.int .i64 x.t,.int .i64 x.l] t)).cell? (Addr.add ⟨w.heap.size+1,0,none⟩ j)=some u:=by
 have h:=aG (w.alloc o1).drew x.vals t;have e:(w.alloc o1).drew.heap.size=w.heap.size+1:=by simp
 rw[e] at h;exact qs6 h

theorem q4j{M:List En}{i:Nat}(h:i<M.length):aB ((M.take (i+1)).map rowE)=aB ((M.take i).map rowE)++aB [rowE M[i]]:=by
 rw[List.take_succ_eq_append_getElem h,List.map_append,jS]
 rfl

set_option maxRecDepth 20000 in
set_option maxHeartbeats 2000000 in
theorem qqw(A:Option Addr)(C:Nat)(ss:List ByteArray)(t0 t1 t2:TR)(f:Int)(x:ByteArray)(a b p:Int)(M:List En)(w:World)(hZ:SzAt w)(hC:ss.length<=C)(hS:dX w.heap.size w A ss)(h0:t0.ok w)(h1:t1.ok w)(h2:t2.ok w)
  (hB:bM ss f (t0.ps.map PN.nd) t0.r (t1.ps.map PN.nd) t1.r (t2.ps.map PN.nd) t2.r=true) (hx:Lib.idxOfS ss x=p) (hp:0<=p) (hp2:p<16) (ha:0<=a) (hab:a<=b) (hb:b<=1048575) (L:List En) (hL:allP (t0.ps.map PN.nd) t0.r 0 1099511627776=(0,L)) (hM:L.filter (selB p a b)=M) (hl:500<M.length):
  Calls Tryz.prog 64 #[.agg (aJ A C ss t0 t1 t2 f).toArray,.string x,.int .i64 1,.int .i64 a,.int .i64 b] w fun e w'=>e=.returned (.tuple #[.slice none 0 0,.int .i64 1])/\Below w.heap.size w w':=by
 have b0:∀o:Obj,Below w.heap.size w (w.alloc o):=fun o=>(Below.refl _ _).alloc (Nat.le_refl _) o
 have okup:∀(t:TR) (w':World),Below w.heap.size w w'->t.ok w->t.ok w':=fun t w' hb ht=>⟨ht.1.up hb,ht.2.1,ht.2.2⟩
 have con1:Hid (∀W,Below w.heap.size w W->Calls Tryz.prog 91 #[.agg (aJ A C ss t0 t1 t2 f).toArray,.string x] W fun e w'=>e=.returned (.tuple #[.int .i64 p,.int .i64 0])/\Below W.heap.size W w'):=fun W hW=>by
  have c:=pI A C ss t0 t1 t2 f x W (hZ.below hW) hC (hS.up hW) (okup t0 W hW h0) (okup t1 W hW h1) (okup t2 W hW h2) true hB;rw[hx] at c;have hn:¬p<0:=by omega
  simp only[if_true,hn,if_false] at c;exact c
 have con2:Hid (∀W,Below w.heap.size w W->Calls Tryz.prog 92 #[.int .i64 1] W fun e w'=>e=.returned (.tuple #[.int .i64 0,.bool true])/\w'=W):=fun W hW=>oD 1 W (hZ.below hW)
 have con3:=aI fun W=>nG a b W
 rw[show eX a b=true by simp[eX,ha,hab,hb]] at con3
 have con4:=aI fun W (hW:Below w.heap.size w W)=>pY t0.A t0.C t0.r p a b t0.ps L W (h0.1.up hW) h0.2.1 ⟨hp,hp2⟩ ha hab hb hL
 rw[hM] at con4;clear okup hB hx hZ hC hS h0 h1 h2 hL hM;obtain⟨A0,C0,p0,r0⟩:=t0;obtain⟨A1,C1,p1,r1⟩:=t1;obtain⟨A2,C2,p2,r2⟩:=t2;simp only[aJ] at *;have hl':(500:Int)<(M.length:Int):=by omega
 go_enter Tryz.func64,Tryz.ntmps64
 go_wp2_with (first
  |(go_at_call 91;refine(con1.out _ (b0 _)).mono ?_;rintro e w1 ⟨rfl,hb1⟩;have hw1:Below w.heap.size w w1:=aC (b0 _) (Nat.le_refl _) hb1;have yy:=(aY hb1).1;have z1:=sz1 hb1)
  |(go_at_call 92;refine(con2.out _ hw1).mono ?_;rintro e wx ⟨rfl,hwx⟩;subst wx)
  |(go_at_call 93;refine(con3.out _).mono ?_;rintro e wx ⟨rfl,hwx⟩;subst wx)
  |(go_at_call 94;refine(con4.out _ hw1).mono ?_;rintro e w2 ⟨hb2,v2,rfl,ho2⟩;obtain⟨VA,VC,rfl,-,-,-,hr2⟩:=aP ho2;have hw2:Below w.heap.size w w2:=aC hw1 (Nat.le_refl _) hb2;clear hb2 ho2))
 go_ret2
 exact⟨rfl,hw2⟩

set_option maxRecDepth 20000 in
set_option maxHeartbeats 2000000 in
theorem qjc(A:Option Addr)(C:Nat)(ss:List ByteArray)(t0 t1 t2:TR)(f:Int)(x:ByteArray)(a b p:Int)(M:List En)(w:World)(hZ:SzAt w)(hC:ss.length<=C)(hS:dX w.heap.size w A ss)(h0:t0.ok w)(h1:t1.ok w)(h2:t2.ok w)
  (hB:bM ss f (t0.ps.map PN.nd) t0.r (t1.ps.map PN.nd) t1.r (t2.ps.map PN.nd) t2.r=true) (hx:Lib.idxOfS ss x=p) (hp:0<=p) (hp2:p<16) (ha:0<=a) (hab:a<=b) (hb:b<=1048575) (L:List En) (hL:allP (t0.ps.map PN.nd) t0.r 0 1099511627776=(0,L)) (hM:L.filter (selB p a b)=M) (hk:∀y∈M,0<=y.key/\y.key<1099511627776) (hl:M.length<=500):
  Calls Tryz.prog 64 #[.agg (aJ A C ss t0 t1 t2 f).toArray,.string x,.int .i64 1,.int .i64 a,.int .i64 b] w (yO M w):=by
 have b0:∀o:Obj,Below w.heap.size w (w.alloc o):=fun o=>(Below.refl _ _).alloc (Nat.le_refl _) o
 have okup:∀(t:TR) (w':World),Below w.heap.size w w'->t.ok w->t.ok w':=fun t w' hb ht=>⟨ht.1.up hb,ht.2.1,ht.2.2⟩
 have con1:Hid (∀W,Below w.heap.size w W->Calls Tryz.prog 91 #[.agg (aJ A C ss t0 t1 t2 f).toArray,.string x] W fun e w'=>e=.returned (.tuple #[.int .i64 p,.int .i64 0])/\Below W.heap.size W w'):=fun W hW=>by
  have c:=pI A C ss t0 t1 t2 f x W (hZ.below hW) hC (hS.up hW) (okup t0 W hW h0) (okup t1 W hW h1) (okup t2 W hW h2) true hB;rw[hx] at c;have hn:¬p<0:=by omega
  simp only[if_true,hn,if_false] at c;exact c
 have con2:Hid (∀W,Below w.heap.size w W->Calls Tryz.prog 92 #[.int .i64 1] W fun e w'=>e=.returned (.tuple #[.int .i64 0,.bool true])/\w'=W):=fun W hW=>oD 1 W (hZ.below hW)
 have con3:=aI fun W=>nG a b W
 rw[show eX a b=true by simp[eX,ha,hab,hb]] at con3
 have con4:=aI fun W (hW:Below w.heap.size w W)=>pY t0.A t0.C t0.r p a b t0.ps L W (h0.1.up hW) h0.2.1 ⟨hp,hp2⟩ ha hab hb hL
 rw[hM] at con4;clear okup hB hx hZ hC hS h0 h1 h2 hL hM;obtain⟨A0,C0,p0,r0⟩:=t0;obtain⟨A1,C1,p1,r1⟩:=t1;obtain⟨A2,C2,p2,r2⟩:=t2;simp only[aJ] at *;obtain⟨j0,hi0,hz0,hz1,hz2⟩:=info_parts q9g;have hl':¬((500:Int)<(M.length:Int)):=by omega
 go_enter Tryz.func64,Tryz.ntmps64
 go_wp2_with (first
  |(go_at_call 91;refine(con1.out _ (b0 _)).mono ?_;rintro e w1 ⟨rfl,hb1⟩;have hw1:Below w.heap.size w w1:=aC (b0 _) (Nat.le_refl _) hb1;have yy:=(aY hb1).1;have z1:=sz1 hb1)
  |(go_at_call 92;refine(con2.out _ hw1).mono ?_;rintro e wx ⟨rfl,hwx⟩;subst wx)
  |(go_at_call 93;refine(con3.out _).mono ?_;rintro e wx ⟨rfl,hwx⟩;subst wx)
  |(go_at_call 94;refine(con4.out _ hw1).mono ?_;rintro e w2 ⟨hb2,v2,rfl,ho2⟩;obtain⟨VA,VC,rfl,-,-,-,hr2⟩:=aP ho2;have hw2:Below w.heap.size w w2:=aC hw1 (Nat.le_refl _) hb2;clear hb2 ho2))
 clear con1 con2 con3 con4 hw1 yy z1
 go_loopw [17,59] (fun vo vi wr=>∃i:Nat,i<=M.length/\vi=.int .i64 i/\wr.ownsRow w2.heap.size 55 7 vo i (aB ((M.take i).map rowE))/\Below w2.heap.size w2 wr) (fun _ vi _=>M.length-(intOf vi).toNat)
 case atStart=>exact⟨0,Nat.zero_le _,rfl,World.ownsRow_nil _ _ _ _,Below.refl _ _⟩
 case round=>
  obtain⟨i,hi,rfl,hown,hbr⟩:=hrel;have hszr:=hbr.size;obtain⟨A3,C3,rfl,-⟩:=aP hown;have HO:=aI hown;have hov:Hid (∀q,(Value.slice A3 i C3).ownBlock=some q->w2.heap.size<=q/\q<wr.heap.size):=uM hown;clear hown
  by_cases hlt:i<M.length
  ·obtain⟨bb,oo,rfl,hbl,c0,c1,c2,c3,c4,c5,c6⟩:=(hr2.below hbr (Nat.le_refl _)).en hlt;have hky:=hk _ (List.getElem_mem hlt);have HT:=aI (q4j hlt);obtain⟨y,hy⟩:∃y,M[i]=y:=⟨_,rfl⟩;rw[hy] at c0 c1 c2 c3 c4 c5 c6 hky HT;clear hy;have lbx:bb<wr.heap.size:=by omega
   have q0:(0:Int)<=(i:Int):=by omega
   have q1:(i:Int)<(M.length:Int):=by omega
   go_wp2_with fail
   go_region_held3 (fun w'=>w'.cell? ⟨wr.heap.size,0,none⟩=some (.int .i64 y.key)/\w'.cell? ⟨wr.heap.size,1,none⟩=some (.int .i64 y.c)/\w'.cell? ⟨wr.heap.size,2,none⟩=some (.int .i64 y.s)/\w'.cell? ⟨wr.heap.size,3,none⟩=some (.int .i64 y.lo)/\w'.cell? ⟨wr.heap.size,4,none⟩=some (.int .i64 y.hi)/\w'.cell? ⟨wr.heap.size,5,none⟩=some (.int .i64 y.t)/\w'.cell? ⟨wr.heap.size,6,none⟩=some (.int .i64 y.l)) (go_keep)
    (first
     |(go_at_call 95;refine(jF y.key _ hky).mono ?_;rintro e wx ⟨rfl,hwx⟩;subst wx)
     |(refine step_append_lies _ rfl (.tmp 63) (.tmp 70) 43 rfl w2.heap.size 55 j0 _ 7 56 Tryz.underlying43 hi0 hz0 hz1 hz2 rfl (by decide) (.slice A3 i C3) i (aB ((M.take i).map rowE)) (by simp[Act.eval]) (iR HO.out ((((Below.refl _ _).alloc (Nat.le_refl _) _).drew).alloc (by simp) _)) ⟨wr.heap.size+1,0,none⟩ 1 1 (aB [rowE y]) (by simp[Act.eval]) rfl (qgk wr (rowE y) _ _) (iL _) (by decide) (by unfold maxLen;omega) (by omega) (by simp;omega) (wr.heap.size+2) (by simp) ?_;intro g' C' w5 hown5 hgrow5 hat5 hlt5;have CF:∀j,w5.cell? ⟨wr.heap.size,j,none⟩=(wr.alloc (.cells #[.int .i64 y.key,.int .i64 y.c,.int .i64 y.s,.int .i64 y.lo,.int .i64 y.hi,.int .i64 y.t,.int .i64 y.l] 132)).cell? ⟨wr.heap.size,j,none⟩:=(fun j=>(hgrow5.cell_far ⟨wr.heap.size,j,none⟩ (by show wr.heap.size<_;simp;omega) (fun e=>by have:=(hov.out wr.heap.size e.symm).2;omega)).trans (((Below.refl (wr.heap.size+1) (wr.alloc (.cells #[.int .i64 y.key,.int .i64 y.c,.int .i64 y.s,.int .i64 y.lo,.int .i64 y.hi,.int .i64 y.t,.int .i64 y.l] 132))).drew.alloc (by simp) _).cell (p:=⟨wr.heap.size,j,none⟩) (by show wr.heap.size<wr.heap.size+1;omega)));have HR:=aI (And.intro hown5 (((hbr.alloc hszr _).drew.alloc (by simp;omega) _).grown hgrow5 (by simp;omega) (fun q hq=>(hov.out q hq).1)));clear hown5 hgrow5 hat5))
   all_goals
    obtain⟨R1,R2⟩:=HR.out;rw[<-HT.out] at R1;have RR:=aI (And.intro R1 R2);clear R1 R2 HR CF HT HO hov;go_wp2;go_roundw
    case rel=>
     go_light;exact⟨i+1,by omega,by go_num,RR.out.1,RR.out.2⟩
    case measure=>simp[intOf];omega
  ·obtain rfl:i=M.length:=by omega
   have hni:¬((M.length:Int)<(M.length:Int)):=by omega
   have R1:=HO.out;rw[List.take_length] at R1;go_wp2_with fail
   go_ret2
   exact⟨aC hw2 (Nat.le_refl _) hbr,_,rfl,bQ R1 hw2.size⟩

set_option maxRecDepth 20000 in
set_option maxHeartbeats 2000000 in
theorem ql6(A:Option Addr)(C:Nat)(ss:List ByteArray)(t0 t1 t2:TR)(f:Int)(x:ByteArray)(a b p:Int)(M:List En)(w:World)(hZ:SzAt w)(hC:ss.length<=C)(hS:dX w.heap.size w A ss)(h0:t0.ok w)(h1:t1.ok w)(h2:t2.ok w)
  (hB:bM ss f (t0.ps.map PN.nd) t0.r (t1.ps.map PN.nd) t1.r (t2.ps.map PN.nd) t2.r=true) (hx:Lib.idxOfS ss x=p) (hp:0<=p) (hp2:p<16) (ha:0<=a) (hab:a<=b) (hb:b<=1048575) (L:List En) (hL:allP (t1.ps.map PN.nd) t1.r 0 1099511627776=(0,L)) (hM:L.filter (selB p a b)=M) (hk:∀y∈M,0<=y.key/\y.key<1099511627776) (hl:M.length<=500):
  Calls Tryz.prog 64 #[.agg (aJ A C ss t0 t1 t2 f).toArray,.string x,.int .i64 60,.int .i64 a,.int .i64 b] w (yO M w):=by
 have b0:∀o:Obj,Below w.heap.size w (w.alloc o):=fun o=>(Below.refl _ _).alloc (Nat.le_refl _) o
 have okup:∀(t:TR) (w':World),Below w.heap.size w w'->t.ok w->t.ok w':=fun t w' hb ht=>⟨ht.1.up hb,ht.2.1,ht.2.2⟩
 have con1:Hid (∀W,Below w.heap.size w W->Calls Tryz.prog 91 #[.agg (aJ A C ss t0 t1 t2 f).toArray,.string x] W fun e w'=>e=.returned (.tuple #[.int .i64 p,.int .i64 0])/\Below W.heap.size W w'):=fun W hW=>by
  have c:=pI A C ss t0 t1 t2 f x W (hZ.below hW) hC (hS.up hW) (okup t0 W hW h0) (okup t1 W hW h1) (okup t2 W hW h2) true hB;rw[hx] at c;have hn:¬p<0:=by omega
  simp only[if_true,hn,if_false] at c;exact c
 have con2:Hid (∀W,Below w.heap.size w W->Calls Tryz.prog 92 #[.int .i64 60] W fun e w'=>e=.returned (.tuple #[.int .i64 1,.bool true])/\w'=W):=fun W hW=>oD 60 W (hZ.below hW)
 have con3:=aI fun W=>nG a b W
 rw[show eX a b=true by simp[eX,ha,hab,hb]] at con3
 have con4:=aI fun W (hW:Below w.heap.size w W)=>pY t1.A t1.C t1.r p a b t1.ps L W (h1.1.up hW) h1.2.1 ⟨hp,hp2⟩ ha hab hb hL
 rw[hM] at con4;clear okup hB hx hZ hC hS h0 h1 h2 hL hM;obtain⟨A0,C0,p0,r0⟩:=t0;obtain⟨A1,C1,p1,r1⟩:=t1;obtain⟨A2,C2,p2,r2⟩:=t2;simp only[aJ] at *;obtain⟨j0,hi0,hz0,hz1,hz2⟩:=info_parts q9g;have hl':¬((500:Int)<(M.length:Int)):=by omega
 go_enter Tryz.func64,Tryz.ntmps64
 go_wp2_with (first
  |(go_at_call 91;refine(con1.out _ (b0 _)).mono ?_;rintro e w1 ⟨rfl,hb1⟩;have hw1:Below w.heap.size w w1:=aC (b0 _) (Nat.le_refl _) hb1;have yy:=(aY hb1).1;have z1:=sz1 hb1)
  |(go_at_call 92;refine(con2.out _ hw1).mono ?_;rintro e wx ⟨rfl,hwx⟩;subst wx)
  |(go_at_call 93;refine(con3.out _).mono ?_;rintro e wx ⟨rfl,hwx⟩;subst wx)
  |(go_at_call 94;refine(con4.out _ hw1).mono ?_;rintro e w2 ⟨hb2,v2,rfl,ho2⟩;obtain⟨VA,VC,rfl,-,-,-,hr2⟩:=aP ho2;have hw2:Below w.heap.size w w2:=aC hw1 (Nat.le_refl _) hb2;clear hb2 ho2))
 clear con1 con2 con3 con4 hw1 yy z1
 go_loopw [17,59] (fun vo vi wr=>∃i:Nat,i<=M.length/\vi=.int .i64 i/\wr.ownsRow w2.heap.size 55 7 vo i (aB ((M.take i).map rowE))/\Below w2.heap.size w2 wr) (fun _ vi _=>M.length-(intOf vi).toNat)
 case atStart=>exact⟨0,Nat.zero_le _,rfl,World.ownsRow_nil _ _ _ _,Below.refl _ _⟩
 case round=>
  obtain⟨i,hi,rfl,hown,hbr⟩:=hrel;have hszr:=hbr.size;obtain⟨A3,C3,rfl,-⟩:=aP hown;have HO:=aI hown;have hov:Hid (∀q,(Value.slice A3 i C3).ownBlock=some q->w2.heap.size<=q/\q<wr.heap.size):=uM hown;clear hown
  by_cases hlt:i<M.length
  ·obtain⟨bb,oo,rfl,hbl,c0,c1,c2,c3,c4,c5,c6⟩:=(hr2.below hbr (Nat.le_refl _)).en hlt;have hky:=hk _ (List.getElem_mem hlt);have HT:=aI (q4j hlt);obtain⟨y,hy⟩:∃y,M[i]=y:=⟨_,rfl⟩;rw[hy] at c0 c1 c2 c3 c4 c5 c6 hky HT;clear hy;have lbx:bb<wr.heap.size:=by omega
   have q0:(0:Int)<=(i:Int):=by omega
   have q1:(i:Int)<(M.length:Int):=by omega
   go_wp2_with fail
   go_region_held3 (fun w'=>w'.cell? ⟨wr.heap.size,0,none⟩=some (.int .i64 y.key)/\w'.cell? ⟨wr.heap.size,1,none⟩=some (.int .i64 y.c)/\w'.cell? ⟨wr.heap.size,2,none⟩=some (.int .i64 y.s)/\w'.cell? ⟨wr.heap.size,3,none⟩=some (.int .i64 y.lo)/\w'.cell? ⟨wr.heap.size,4,none⟩=some (.int .i64 y.hi)/\w'.cell? ⟨wr.heap.size,5,none⟩=some (.int .i64 y.t)/\w'.cell? ⟨wr.heap.size,6,none⟩=some (.int .i64 y.l)) (go_keep)
    (first
     |(go_at_call 95;refine(jF y.key _ hky).mono ?_;rintro e wx ⟨rfl,hwx⟩;subst wx)
     |(refine step_append_lies _ rfl (.tmp 63) (.tmp 70) 43 rfl w2.heap.size 55 j0 _ 7 56 Tryz.underlying43 hi0 hz0 hz1 hz2 rfl (by decide) (.slice A3 i C3) i (aB ((M.take i).map rowE)) (by simp[Act.eval]) (iR HO.out ((((Below.refl _ _).alloc (Nat.le_refl _) _).drew).alloc (by simp) _)) ⟨wr.heap.size+1,0,none⟩ 1 1 (aB [rowE y]) (by simp[Act.eval]) rfl (qgk wr (rowE y) _ _) (iL _) (by decide) (by unfold maxLen;omega) (by omega) (by simp;omega) (wr.heap.size+2) (by simp) ?_;intro g' C' w5 hown5 hgrow5 hat5 hlt5;have CF:∀j,w5.cell? ⟨wr.heap.size,j,none⟩=(wr.alloc (.cells #[.int .i64 y.key,.int .i64 y.c,.int .i64 y.s,.int .i64 y.lo,.int .i64 y.hi,.int .i64 y.t,.int .i64 y.l] 132)).cell? ⟨wr.heap.size,j,none⟩:=(fun j=>(hgrow5.cell_far ⟨wr.heap.size,j,none⟩ (by show wr.heap.size<_;simp;omega) (fun e=>by have:=(hov.out wr.heap.size e.symm).2;omega)).trans (((Below.refl (wr.heap.size+1) (wr.alloc (.cells #[.int .i64 y.key,.int .i64 y.c,.int .i64 y.s,.int .i64 y.lo,.int .i64 y.hi,.int .i64 y.t,.int .i64 y.l] 132))).drew.alloc (by simp) _).cell (p:=⟨wr.heap.size,j,none⟩) (by show wr.heap.size<wr.heap.size+1;omega)));have HR:=aI (And.intro hown5 (((hbr.alloc hszr _).drew.alloc (by simp;omega) _).grown hgrow5 (by simp;omega) (fun q hq=>(hov.out q hq).1)));clear hown5 hgrow5 hat5))
   all_goals
    obtain⟨R1,R2⟩:=HR.out;rw[<-HT.out] at R1;have RR:=aI (And.intro R1 R2);clear R1 R2 HR CF HT HO hov;go_wp2;go_roundw
    case rel=>
     go_light;exact⟨i+1,by omega,by go_num,RR.out.1,RR.out.2⟩
    case measure=>simp[intOf];omega
  ·obtain rfl:i=M.length:=by omega
   have hni:¬((M.length:Int)<(M.length:Int)):=by omega
   have R1:=HO.out;rw[List.take_length] at R1;go_wp2_with fail
   go_ret2
   exact⟨aC hw2 (Nat.le_refl _) hbr,_,rfl,bQ R1 hw2.size⟩

set_option maxRecDepth 20000 in
set_option maxHeartbeats 2000000 in
theorem qin(A:Option Addr)(C:Nat)(ss:List ByteArray)(t0 t1 t2:TR)(f:Int)(x:ByteArray)(a b p:Int)(M:List En)(w:World)(hZ:SzAt w)(hC:ss.length<=C)(hS:dX w.heap.size w A ss)(h0:t0.ok w)(h1:t1.ok w)(h2:t2.ok w)
  (hB:bM ss f (t0.ps.map PN.nd) t0.r (t1.ps.map PN.nd) t1.r (t2.ps.map PN.nd) t2.r=true) (hx:Lib.idxOfS ss x=p) (hp:0<=p) (hp2:p<16) (ha:0<=a) (hab:a<=b) (hb:b<=1048575) (L:List En) (hL:allP (t2.ps.map PN.nd) t2.r 0 1099511627776=(0,L)) (hM:L.filter (selB p a b)=M) (hk:∀y∈M,0<=y.key/\y.key<1099511627776) (hl:M.length<=500):
  Calls Tryz.prog 64 #[.agg (aJ A C ss t0 t1 t2 f).toArray,.string x,.int .i64 3600,.int .i64 a,.int .i64 b] w (yO M w):=by
 have b0:∀o:Obj,Below w.heap.size w (w.alloc o):=fun o=>(Below.refl _ _).alloc (Nat.le_refl _) o
 have okup:∀(t:TR) (w':World),Below w.heap.size w w'->t.ok w->t.ok w':=fun t w' hb ht=>⟨ht.1.up hb,ht.2.1,ht.2.2⟩
 have con1:Hid (∀W,Below w.heap.size w W->Calls Tryz.prog 91 #[.agg (aJ A C ss t0 t1 t2 f).toArray,.string x] W fun e w'=>e=.returned (.tuple #[.int .i64 p,.int .i64 0])/\Below W.heap.size W w'):=fun W hW=>by
  have c:=pI A C ss t0 t1 t2 f x W (hZ.below hW) hC (hS.up hW) (okup t0 W hW h0) (okup t1 W hW h1) (okup t2 W hW h2) true hB;rw[hx] at c;have hn:¬p<0:=by omega
  simp only[if_true,hn,if_false] at c;exact c
 have con2:Hid (∀W,Below w.heap.size w W->Calls Tryz.prog 92 #[.int .i64 3600] W fun e w'=>e=.returned (.tuple #[.int .i64 2,.bool true])/\w'=W):=fun W hW=>oD 3600 W (hZ.below hW)
 have con3:=aI fun W=>nG a b W
 rw[show eX a b=true by simp[eX,ha,hab,hb]] at con3
 have con4:=aI fun W (hW:Below w.heap.size w W)=>pY t2.A t2.C t2.r p a b t2.ps L W (h2.1.up hW) h2.2.1 ⟨hp,hp2⟩ ha hab hb hL
 rw[hM] at con4;clear okup hB hx hZ hC hS h0 h1 h2 hL hM;obtain⟨A0,C0,p0,r0⟩:=t0;obtain⟨A1,C1,p1,r1⟩:=t1;obtain⟨A2,C2,p2,r2⟩:=t2;simp only[aJ] at *;obtain⟨j0,hi0,hz0,hz1,hz2⟩:=info_parts q9g;have hl':¬((500:Int)<(M.length:Int)):=by omega
 go_enter Tryz.func64,Tryz.ntmps64
 go_wp2_with (first
  |(go_at_call 91;refine(con1.out _ (b0 _)).mono ?_;rintro e w1 ⟨rfl,hb1⟩;have hw1:Below w.heap.size w w1:=aC (b0 _) (Nat.le_refl _) hb1;have yy:=(aY hb1).1;have z1:=sz1 hb1)
  |(go_at_call 92;refine(con2.out _ hw1).mono ?_;rintro e wx ⟨rfl,hwx⟩;subst wx)
  |(go_at_call 93;refine(con3.out _).mono ?_;rintro e wx ⟨rfl,hwx⟩;subst wx)
  |(go_at_call 94;refine(con4.out _ hw1).mono ?_;rintro e w2 ⟨hb2,v2,rfl,ho2⟩;obtain⟨VA,VC,rfl,-,-,-,hr2⟩:=aP ho2;have hw2:Below w.heap.size w w2:=aC hw1 (Nat.le_refl _) hb2;clear hb2 ho2))
 clear con1 con2 con3 con4 hw1 yy z1
 go_loopw [17,59] (fun vo vi wr=>∃i:Nat,i<=M.length/\vi=.int .i64 i/\wr.ownsRow w2.heap.size 55 7 vo i (aB ((M.take i).map rowE))/\Below w2.heap.size w2 wr) (fun _ vi _=>M.length-(intOf vi).toNat)
 case atStart=>exact⟨0,Nat.zero_le _,rfl,World.ownsRow_nil _ _ _ _,Below.refl _ _⟩
 case round=>
  obtain⟨i,hi,rfl,hown,hbr⟩:=hrel;have hszr:=hbr.size;obtain⟨A3,C3,rfl,-⟩:=aP hown;have HO:=aI hown;have hov:Hid (∀q,(Value.slice A3 i C3).ownBlock=some q->w2.heap.size<=q/\q<wr.heap.size):=uM hown;clear hown
  by_cases hlt:i<M.length
  ·obtain⟨bb,oo,rfl,hbl,c0,c1,c2,c3,c4,c5,c6⟩:=(hr2.below hbr (Nat.le_refl _)).en hlt;have hky:=hk _ (List.getElem_mem hlt);have HT:=aI (q4j hlt);obtain⟨y,hy⟩:∃y,M[i]=y:=⟨_,rfl⟩;rw[hy] at c0 c1 c2 c3 c4 c5 c6 hky HT;clear hy;have lbx:bb<wr.heap.size:=by omega
   have q0:(0:Int)<=(i:Int):=by omega
   have q1:(i:Int)<(M.length:Int):=by omega
   go_wp2_with fail
   go_region_held3 (fun w'=>w'.cell? ⟨wr.heap.size,0,none⟩=some (.int .i64 y.key)/\w'.cell? ⟨wr.heap.size,1,none⟩=some (.int .i64 y.c)/\w'.cell? ⟨wr.heap.size,2,none⟩=some (.int .i64 y.s)/\w'.cell? ⟨wr.heap.size,3,none⟩=some (.int .i64 y.lo)/\w'.cell? ⟨wr.heap.size,4,none⟩=some (.int .i64 y.hi)/\w'.cell? ⟨wr.heap.size,5,none⟩=some (.int .i64 y.t)/\w'.cell? ⟨wr.heap.size,6,none⟩=some (.int .i64 y.l)) (go_keep)
    (first
     |(go_at_call 95;refine(jF y.key _ hky).mono ?_;rintro e wx ⟨rfl,hwx⟩;subst wx)
     |(refine step_append_lies _ rfl (.tmp 63) (.tmp 70) 43 rfl w2.heap.size 55 j0 _ 7 56 Tryz.underlying43 hi0 hz0 hz1 hz2 rfl (by decide) (.slice A3 i C3) i (aB ((M.take i).map rowE)) (by simp[Act.eval]) (iR HO.out ((((Below.refl _ _).alloc (Nat.le_refl _) _).drew).alloc (by simp) _)) ⟨wr.heap.size+1,0,none⟩ 1 1 (aB [rowE y]) (by simp[Act.eval]) rfl (qgk wr (rowE y) _ _) (iL _) (by decide) (by unfold maxLen;omega) (by omega) (by simp;omega) (wr.heap.size+2) (by simp) ?_;intro g' C' w5 hown5 hgrow5 hat5 hlt5;have CF:∀j,w5.cell? ⟨wr.heap.size,j,none⟩=(wr.alloc (.cells #[.int .i64 y.key,.int .i64 y.c,.int .i64 y.s,.int .i64 y.lo,.int .i64 y.hi,.int .i64 y.t,.int .i64 y.l] 132)).cell? ⟨wr.heap.size,j,none⟩:=(fun j=>(hgrow5.cell_far ⟨wr.heap.size,j,none⟩ (by show wr.heap.size<_;simp;omega) (fun e=>by have:=(hov.out wr.heap.size e.symm).2;omega)).trans (((Below.refl (wr.heap.size+1) (wr.alloc (.cells #[.int .i64 y.key,.int .i64 y.c,.int .i64 y.s,.int .i64 y.lo,.int .i64 y.hi,.int .i64 y.t,.int .i64 y.l] 132))).drew.alloc (by simp) _).cell (p:=⟨wr.heap.size,j,none⟩) (by show wr.heap.size<wr.heap.size+1;omega)));have HR:=aI (And.intro hown5 (((hbr.alloc hszr _).drew.alloc (by simp;omega) _).grown hgrow5 (by simp;omega) (fun q hq=>(hov.out q hq).1)));clear hown5 hgrow5 hat5))
   all_goals
    obtain⟨R1,R2⟩:=HR.out;rw[<-HT.out] at R1;have RR:=aI (And.intro R1 R2);clear R1 R2 HR CF HT HO hov;go_wp2;go_roundw
    case rel=>
     go_light;exact⟨i+1,by omega,by go_num,RR.out.1,RR.out.2⟩
    case measure=>simp[intOf];omega
  ·obtain rfl:i=M.length:=by omega
   have hni:¬((M.length:Int)<(M.length:Int)):=by omega
   have R1:=HO.out;rw[List.take_length] at R1;go_wp2_with fail
   go_ret2
   exact⟨aC hw2 (Nat.le_refl _) hbr,_,rfl,bQ R1 hw2.size⟩

set_option maxRecDepth 20000 in
set_option maxHeartbeats 2000000 in
theorem qpx(A:Option Addr)(C:Nat)(ss:List ByteArray)(t0 t1 t2:TR)(f:Int)(x:ByteArray)(size a b c:Int)(w:World)(q:Int)(hc:(c != 0)=true)(con1:Hid (∀W,Below w.heap.size w W->Calls Tryz.prog 91 #[.agg (aJ A C ss t0 t1 t2 f).toArray,.string x] W fun e w'=>e=.returned (.tuple #[.int .i64 q,.int .i64 c])/\Below W.heap.size W w')):
  Calls Tryz.prog 64 #[.agg (aJ A C ss t0 t1 t2 f).toArray,.string x,.int .i64 size,.int .i64 a,.int .i64 b] w fun e w'=>e=.returned (.tuple #[.slice none 0 0,.int .i64 c])/\Below w.heap.size w w':=by
 have b0:∀o:Obj,Below w.heap.size w (w.alloc o):=fun o=>(Below.refl _ _).alloc (Nat.le_refl _) o
 obtain⟨A0,C0,p0,r0⟩:=t0;obtain⟨A1,C1,p1,r1⟩:=t1;obtain⟨A2,C2,p2,r2⟩:=t2;simp only[aJ] at *
 go_enter Tryz.func64,Tryz.ntmps64
 go_wp2_with (first
  |(go_at_call 91;refine(con1.out _ (b0 _)).mono ?_;rintro e w1 ⟨rfl,hb1⟩;have hw1:Below w.heap.size w w1:=aC (b0 _) (Nat.le_refl _) hb1))
 go_ret2
 exact⟨rfl,hw1⟩

set_option maxRecDepth 20000 in
set_option maxHeartbeats 2000000 in
theorem qgj(A:Option Addr)(C:Nat)(ss:List ByteArray)(t0 t1 t2:TR)(f:Int)(x:ByteArray)(size a b:Int)(w:World)(q:Int)(hZ:SzAt w)(hs:¬(size=1\/size=60\/size=3600))(con1:Hid (∀W,Below w.heap.size w W->Calls Tryz.prog 91 #[.agg (aJ A C ss t0 t1 t2 f).toArray,.string x] W fun e w'=>e=.returned (.tuple #[.int .i64 q,.int .i64 0])/\Below W.heap.size W w')):
  Calls Tryz.prog 64 #[.agg (aJ A C ss t0 t1 t2 f).toArray,.string x,.int .i64 size,.int .i64 a,.int .i64 b] w fun e w'=>e=.returned (.tuple #[.slice none 0 0,.int .i64 3])/\Below w.heap.size w w':=by
 have b0:∀o:Obj,Below w.heap.size w (w.alloc o):=fun o=>(Below.refl _ _).alloc (Nat.le_refl _) o
 have con2:Hid (∀W,Below w.heap.size w W->Calls Tryz.prog 92 #[.int .i64 size] W fun e w'=>e=.returned (.tuple #[.int .i64 0,.bool false])/\w'=W):=fun W hW=>by
  have k:=oD size W (hZ.below hW);have h1:¬size=1:=fun e=>hs (.inl e)
  have h2:¬size=60:=fun e=>hs (.inr (.inl e))
  have h3:¬size=3600:=fun e=>hs (.inr (.inr e))
  simp only[h1,h2,h3,if_false,or_self,decide_false] at k;exact k
 obtain⟨A0,C0,p0,r0⟩:=t0;obtain⟨A1,C1,p1,r1⟩:=t1;obtain⟨A2,C2,p2,r2⟩:=t2;simp only[aJ] at *
 go_enter Tryz.func64,Tryz.ntmps64
 go_wp2_with (first
  |(go_at_call 91;refine(con1.out _ (b0 _)).mono ?_;rintro e w1 ⟨rfl,hb1⟩;have hw1:Below w.heap.size w w1:=aC (b0 _) (Nat.le_refl _) hb1)
  |(go_at_call 92;refine(con2.out _ hw1).mono ?_;rintro e wx ⟨rfl,hwx⟩;subst wx))
 go_ret2
 exact⟨rfl,hw1⟩

set_option maxRecDepth 20000 in
set_option maxHeartbeats 2000000 in
theorem qcj(A:Option Addr)(C:Nat)(ss:List ByteArray)(t0 t1 t2:TR)(f:Int)(x:ByteArray)(a b:Int)(w:World)(q:Int)(hZ:SzAt w)(hsp:eX a b=false)(con1:Hid (∀W,Below w.heap.size w W->Calls Tryz.prog 91 #[.agg (aJ A C ss t0 t1 t2 f).toArray,.string x] W fun e w'=>e=.returned (.tuple #[.int .i64 q,.int .i64 0])/\Below W.heap.size W w')):
  Calls Tryz.prog 64 #[.agg (aJ A C ss t0 t1 t2 f).toArray,.string x,.int .i64 1,.int .i64 a,.int .i64 b] w fun e w'=>e=.returned (.tuple #[.slice none 0 0,.int .i64 2])/\Below w.heap.size w w':=by
 have b0:∀o:Obj,Below w.heap.size w (w.alloc o):=fun o=>(Below.refl _ _).alloc (Nat.le_refl _) o
 have con2:Hid (∀W,Below w.heap.size w W->Calls Tryz.prog 92 #[.int .i64 1] W fun e w'=>e=.returned (.tuple #[.int .i64 0,.bool true])/\w'=W):=fun W hW=>oD 1 W (hZ.below hW)
 have con3:=aI fun W=>nG a b W
 rw[hsp] at con3;obtain⟨A0,C0,p0,r0⟩:=t0;obtain⟨A1,C1,p1,r1⟩:=t1;obtain⟨A2,C2,p2,r2⟩:=t2;simp only[aJ] at *
 go_enter Tryz.func64,Tryz.ntmps64
 go_wp2_with (first
  |(go_at_call 91;refine(con1.out _ (b0 _)).mono ?_;rintro e w1 ⟨rfl,hb1⟩;have hw1:Below w.heap.size w w1:=aC (b0 _) (Nat.le_refl _) hb1)
  |(go_at_call 92;refine(con2.out _ hw1).mono ?_;rintro e wx ⟨rfl,hwx⟩;subst wx)
  |(go_at_call 93;refine(con3.out _).mono ?_;rintro e wx ⟨rfl,hwx⟩;subst wx))
 go_ret2
 exact⟨rfl,hw1⟩

set_option maxRecDepth 20000 in
set_option maxHeartbeats 2000000 in
theorem qdh(A:Option Addr)(C:Nat)(ss:List ByteArray)(t0 t1 t2:TR)(f:Int)(x:ByteArray)(a b:Int)(w:World)(q:Int)(hZ:SzAt w)(hsp:eX a b=false)(con1:Hid (∀W,Below w.heap.size w W->Calls Tryz.prog 91 #[.agg (aJ A C ss t0 t1 t2 f).toArray,.string x] W fun e w'=>e=.returned (.tuple #[.int .i64 q,.int .i64 0])/\Below W.heap.size W w')):
  Calls Tryz.prog 64 #[.agg (aJ A C ss t0 t1 t2 f).toArray,.string x,.int .i64 60,.int .i64 a,.int .i64 b] w fun e w'=>e=.returned (.tuple #[.slice none 0 0,.int .i64 2])/\Below w.heap.size w w':=by
 have b0:∀o:Obj,Below w.heap.size w (w.alloc o):=fun o=>(Below.refl _ _).alloc (Nat.le_refl _) o
 have con2:Hid (∀W,Below w.heap.size w W->Calls Tryz.prog 92 #[.int .i64 60] W fun e w'=>e=.returned (.tuple #[.int .i64 1,.bool true])/\w'=W):=fun W hW=>oD 60 W (hZ.below hW)
 have con3:=aI fun W=>nG a b W
 rw[hsp] at con3;obtain⟨A0,C0,p0,r0⟩:=t0;obtain⟨A1,C1,p1,r1⟩:=t1;obtain⟨A2,C2,p2,r2⟩:=t2;simp only[aJ] at *
 go_enter Tryz.func64,Tryz.ntmps64
 go_wp2_with (first
  |(go_at_call 91;refine(con1.out _ (b0 _)).mono ?_;rintro e w1 ⟨rfl,hb1⟩;have hw1:Below w.heap.size w w1:=aC (b0 _) (Nat.le_refl _) hb1)
  |(go_at_call 92;refine(con2.out _ hw1).mono ?_;rintro e wx ⟨rfl,hwx⟩;subst wx)
  |(go_at_call 93;refine(con3.out _).mono ?_;rintro e wx ⟨rfl,hwx⟩;subst wx))
 go_ret2
 exact⟨rfl,hw1⟩

set_option maxRecDepth 20000 in
set_option maxHeartbeats 2000000 in
theorem qch(A:Option Addr)(C:Nat)(ss:List ByteArray)(t0 t1 t2:TR)(f:Int)(x:ByteArray)(a b:Int)(w:World)(q:Int)(hZ:SzAt w)(hsp:eX a b=false)(con1:Hid (∀W,Below w.heap.size w W->Calls Tryz.prog 91 #[.agg (aJ A C ss t0 t1 t2 f).toArray,.string x] W fun e w'=>e=.returned (.tuple #[.int .i64 q,.int .i64 0])/\Below W.heap.size W w')):
  Calls Tryz.prog 64 #[.agg (aJ A C ss t0 t1 t2 f).toArray,.string x,.int .i64 3600,.int .i64 a,.int .i64 b] w fun e w'=>e=.returned (.tuple #[.slice none 0 0,.int .i64 2])/\Below w.heap.size w w':=by
 have b0:∀o:Obj,Below w.heap.size w (w.alloc o):=fun o=>(Below.refl _ _).alloc (Nat.le_refl _) o
 have con2:Hid (∀W,Below w.heap.size w W->Calls Tryz.prog 92 #[.int .i64 3600] W fun e w'=>e=.returned (.tuple #[.int .i64 2,.bool true])/\w'=W):=fun W hW=>oD 3600 W (hZ.below hW)
 have con3:=aI fun W=>nG a b W
 rw[hsp] at con3;obtain⟨A0,C0,p0,r0⟩:=t0;obtain⟨A1,C1,p1,r1⟩:=t1;obtain⟨A2,C2,p2,r2⟩:=t2;simp only[aJ] at *
 go_enter Tryz.func64,Tryz.ntmps64
 go_wp2_with (first
  |(go_at_call 91;refine(con1.out _ (b0 _)).mono ?_;rintro e w1 ⟨rfl,hb1⟩;have hw1:Below w.heap.size w w1:=aC (b0 _) (Nat.le_refl _) hb1)
  |(go_at_call 92;refine(con2.out _ hw1).mono ?_;rintro e wx ⟨rfl,hwx⟩;subst wx)
  |(go_at_call 93;refine(con3.out _).mono ?_;rintro e wx ⟨rfl,hwx⟩;subst wx))
 go_ret2
 exact⟨rfl,hw1⟩

end
end Go.Proofs.YtlojfgdpmaigmagGreatDoor

/- Acts of package winnowerkeep: what it makes of raw things. -/
import Derived.Test.YtlojfgdpmaigmagGreatDoorP44
import Derived.Test.YtlojfgdpmaigmagGreatDoorP50
import Derived.Test.YtlojfgdpmaigmagGreatDoorP08
import Derived.Deep.AppendLies
import Derived.Deep.RegionHeld3
namespace Go.Proofs.YtlojfgdpmaigmagGreatDoor
open Go.RowKit Plain Go.Shelf

theorem qm5:(Tryz.prog.info? 26).map (fun i=>(i.zero,i.size,i.bytes))=some (some (.agg #[.int .i64 0,.string ByteArray.empty,.int .i64 0,.int .i64 0,.int .i64 0,.int .i64 0]),6,56):=by kernel_rfl

theorem mV{w:World}{vb:Nat}{t:TypeId}{x:Ac}(hv:RowL w vb t x.vals):∀j u,(bD [x])[j]? =some u->w.cell? (Addr.add ⟨vb,0,none⟩ j)=some u:=by
 intro j u hu;rw[WideShapes.add_plain,Nat.zero_add,hv.cell]
 simpa [bD] using hu

def st6(w:World)(m:Nat)(a b c d e f:Value):World:=(((((w.setCell ⟨m,0,none⟩ a).setCell ⟨m,1,none⟩ b).setCell ⟨m,2,none⟩ c).setCell ⟨m,3,none⟩ d).setCell ⟨m,4,none⟩ e).setCell ⟨m,5,none⟩ f

theorem oN{w:World}{m:Nat}{t:TypeId}{x0 x1 x2 x3 x4 x5:Value}(h:RowL w m t [x0,x1,x2,x3,x4,x5])(a b c d e f:Value):RowL (st6 w m a b c d e f) m t [a,b,c,d,e,f]:=by
 have:=(((((h.set 0 a).set 1 b).set 2 c).set 3 d).set 4 e).set 5 f;exact this

theorem wM{w:World}{m:Nat}{t:TypeId}{vs:List Value}(h:RowL w m t vs)(o:Obj):RowL (w.alloc o) m t vs:=h.of_block (Below.heap_alloc _ _ _ h.lt)
theorem q4y{w:World}{m:Nat}{t:TypeId}{vs:List Value}(h:RowL w m t vs):RowL w.drew m t vs:=h

theorem oI{B:Nat}{w0 w:World}(hb:Below B w0 w){m:Nat}(hm:B<=m)(a b c d e f:Value):Below B w0 (st6 w m a b c d e f):=sV hb hm a b c d e f

theorem lW{n many:Int}{W:World}(h:i64B n)(h3:0<many)(h4:many<=1000000):Calls Tryz.prog 22 #[.int .i64 n,.int .i64 many] W fun e w'=>e=.returned (.int .i64 (pick n many))/\w'=W:=qQ n many W h.1 h.2 h3 h4

def ldZ:Op:=.load 3 (.tmp 57)
theorem q4m:Op.load 3 (.tmp 57)=ldZ:=rfl
theorem qid:ldZ=Op.load 3 (.tmp 57):=rfl
attribute [local go_sem] qid

theorem zA{P:Program}{id:Nat}{ops ops':Array Oper}{Q:Exit->Act->World->Prop}{a:Act}{w:World}(h:ops=ops')(k:(Code.region id ops' true).wp P Q a w):(Code.region id ops true).wp P Q a w:=by
 subst h;exact k

theorem q9a{P G:Prop}(h:P->G)(k:P):G:=h k

theorem q1o:ByteArray.empty=⟨#[]⟩:=rfl

theorem qbe{w wr:World}{v:Value}{k:Nat}{xs:List Rw}{AS:List Ac}{n:Nat}(h:(xs.take n).map gY=AS)(ht:xs.take n=xs.take k)(hk:k<=xs.length)(ho:wr.ownsRow w.heap.size 26 6 v k (bD ((xs.take k).map gY)))(hb:Below w.heap.size w wr):
  ∃v',Ending.returned v=.returned v'/\wr.ownsRow w.heap.size 26 6 v' AS.length (bD AS)/\Below w.heap.size w wr:=by
 subst h;rw[ht];refine⟨v,rfl,?_,hb⟩;have e:((xs.take k).map gY).length=k:=by rw[List.length_map,List.length_take];omega
 rw[e];exact ho

theorem lV{w wr wz w7:World}{v7 u5:Value}{k:Nat}{xs:List Rw}{acs:List Ac}{ac:Ac}{most:Int}{o:Obj}(htk:(xs.take (k+1)).map gY=acs++[ac])(h1:Below w.heap.size w wr)(h2:Below wr.heap.size wr wz)(h3:wr.ownsRow w.heap.size 26 6 u5 k (bD acs))(h4:w7.ownsRow w.heap.size 26 6 v7 (k+1) (bD acs++bD [ac]))(h5:(wz.alloc o).grownBy w7 u5.ownBlock)(hk:k<xs.length)(hm:(k:Int)<most):
  ∃k',k'<=xs.length/\(k':Int)<=most/\Value.int .i64 ((k:Int)+1)=.int .i64 (k':Int)/\Below w.heap.size w w7/\w7.ownsRow w.heap.size 26 6 v7 k' (bD ((xs.take k').map gY)):=by
 have b2:=aC (aC h1 (Nat.le_refl _) h2) (Nat.le_refl _) ((Below.refl wz.heap.size wz).alloc (Nat.le_refl _) o);refine⟨k+1,hk,by omega,by go_num,⟨h5.os.trans b2.os,h5.tape.trans b2.tape,h5.output.trans b2.output,Nat.le_trans b2.size h5.size,fun q hq=>(h5.block q (Nat.lt_of_lt_of_le hq b2.size) fun e=>by have:=(h3.lt q e.symm).1;omega).trans (b2.block q hq)⟩,?_⟩
 rw[htk,zH];exact h4

set_option maxRecDepth 20000 in
set_option maxHeartbeats 40000000 in
theorem qjz(PA:Option Addr)(PC:Nat)(xs:List Rw)(most:Int)(w:World)(hA:aH w.heap.size w PA (lK xs))(hwf:∀x∈xs,x.wf)(hm1:0<=most)(hm2:most<=200):
  Calls Tryz.prog 9 #[.slice PA xs.length PC,.int .i64 most] w fun e w'=>∃v,e=.returned v/\w'.ownsRow w.heap.size 26 6 v ((xs.take most.toNat).map gY).length (bD ((xs.take most.toNat).map gY))/\Below w.heap.size w w':=by
 obtain⟨i0,hi0,hz0,hz1,hz2⟩:=info_parts qm5;have HA:=aA hA;obtain⟨AS,hAS⟩:∃AS,(xs.take most.toNat).map gY=AS:=⟨_,rfl⟩;rw[hAS];have HAS:=aA hAS;clear hA hAS
 go_enter Tryz.func9,Tryz.ntmps9
 go_wp2_with fail
 go_loopw [5,6] (fun vo vi wr=>∃(k:Nat),k<=xs.length/\(k:Int)<=most/\vi=.int .i64 (k:Int)/\Below w.heap.size w wr/\wr.ownsRow w.heap.size 26 6 vo k (bD ((xs.take k).map gY))) (fun _ vi _=>xs.length-(intOf vi).toNat)
 case atStart=>exact⟨0,Nat.zero_le _,hm1,rfl,Below.refl _ _,World.ownsRow_nil _ _ _ _⟩
 case round=>
  obtain⟨k,hk,hkm,rfl,hbl,hown⟩:=hrel
  by_cases hlt:k<xs.length/\(k:Int)<most
  ·obtain⟨hlt,hl5⟩:=hlt;have hge:=hbl.size;obtain⟨b,o,rfl,hbb,hrw⟩:=(HA.out.below hbl (Nat.le_refl _)).rw4 hlt;have hx:=hwf _ (List.getElem_mem hlt)
   have htk:Hid ((xs.take (k+1)).map gY=(xs.take k).map gY++[gY xs[k]]):=by
    show _=_;rw[List.take_succ_eq_append_getElem hlt,List.map_append]
    rfl
   obtain⟨acs,has⟩:∃acs,(xs.take k).map gY=acs:=⟨_,rfl⟩;rw[has] at htk hown;clear has;generalize xs[k]=x at *;obtain⟨xk,xa,xb,xc⟩:=x;obtain⟨c0,c1,c2,c3⟩:=hrw;simp only at c0 c1 c2 c3;obtain⟨wk,wa,wb,wc⟩:=hx;simp only at wk wa wb wc;have con1:=aA fun W=>qd4 xk xa xb xc W wk wa wb
   have PC16:=aA fun W=>qQ xc 16 W wc.1 wc.2 (by decide) (by decide)
   have bk:=jZ xc (show(0:Int)<16 by decide)
   have b6:=jZ xa (show(0:Int)<6000 by decide)
   have b9:=jZ xb (show(0:Int)<9000 by decide)
   have b3:=jZ xb (show(0:Int)<3 by decide)
   have hra:Hid (gY ⟨xk,xa,xb,xc⟩=if pick xc 16=0 then⟨2,nmS (pick xk 4),pick xa 6000,pick xa 6000+pick xb 9000,szI (pick xb 3),0⟩ else if pick xc 16<3 then⟨3,nmS (pick xk 4),pick xa 6000,pick xa 6000+pick xb 9000,0,0⟩ else if pick xc 16=3/\pick xa 4=0 then⟨4,ByteArray.empty,3600*pick xb 3,0,0,0⟩ else if pick xc 16=4 then⟨5,ByteArray.empty,0,0,0,0⟩ else if pick xc 16=5/\pick xa 3=0 then⟨6,ByteArray.empty,0,0,0,0⟩ else⟨1,nmS (pick xk 4),pick xa 12000,0,0,pick xb 2000-1000⟩):=rfl
   obtain⟨ac,hac⟩:∃ac,gY ⟨xk,xa,xb,xc⟩=ac:=⟨_,rfl⟩;rw[hac] at htk hra;obtain⟨kc,hkc⟩:∃kc,pick xc 16=kc:=⟨_,rfl⟩;obtain⟨a6,ha6⟩:∃a6,pick xa 6000=a6:=⟨_,rfl⟩;obtain⟨b90,hb9⟩:∃b90,pick xb 9000=b90:=⟨_,rfl⟩;obtain⟨b30,hb3⟩:∃b30,pick xb 3=b30:=⟨_,rfl⟩;obtain⟨a40,ha4⟩:∃a40,pick xa 4=a40:=⟨_,rfl⟩;obtain⟨a30,ha3⟩:∃a30,pick xa 3=a30:=⟨_,rfl⟩;obtain⟨s,hs⟩:∃s,nmS (pick xk 4)=s:=⟨_,rfl⟩;obtain⟨t,ht⟩:∃t,pick xa 12000=t:=⟨_,rfl⟩;obtain⟨v,hv⟩:∃v,pick xb 2000-1000=v:=⟨_,rfl⟩;rw[hkc] at PC16 bk hra;rw[ha6] at b6 hra;rw[hb9] at b9 hra;rw[hb3] at b3 hra;rw[ha4] at hra;rw[ha3] at hra;rw[hs,ht,hv] at con1 hra;have HA6:=aA ha6;have HB9:=aA hb9;have HB3:=aA hb3;have HA4:=aA ha4;have HA3:=aA ha3;have WA:=aA wa;have WB:=aA wb;have WC:=aA wc;clear hac hkc ha6 hb9 hb3 ha4 ha3 hs ht hv wk wa wb wc;have HO:=aA hown;have HBL:=aA hbl;clear hown hbl;have hbr:b<wr.heap.size:=by omega
   have q0:(0:Int)<=(k:Int):=by omega
   have q1:(k:Int)<(xs.length:Int):=by omega
   go_upto_region 9 with(first
    |(go_at_call 21;refine(con1.out _).mono ?_;rintro e w3 ⟨rfl,hb3'⟩;have R3:=aA ((aG wr [.int .i64 xk,.int .i64 xa,.int .i64 xb,.int .i64 xc] 65).below hb3' (by simp));have r3:=fun j=>R3.out.cell j;have rl:=R3.out.lt;have HB3:=aA hb3';clear hb3')
    |(go_at_call 22;refine(PC16.out _).mono ?_;rintro e wp ⟨rfl,hwp⟩;subst wp))
   have AB:=q5g w3 (.cells #[.string s,.int .i64 t,.int .i64 v] 67) (.cells #[.int .i64 1,.string s,.int .i64 t,.int .i64 0,.int .i64 0,.int .i64 v] 26);have PD0:=(aG w3 [.string s,.int .i64 t,.int .i64 v] 67).of_block (Below.heap_alloc (w3.alloc (.cells #[.string s,.int .i64 t,.int .i64 v] 67)) (.cells #[.int .i64 1,.string s,.int .i64 t,.int .i64 0,.int .i64 0,.int .i64 v] 26) _ (by simp))
   have AD0:=aG (w3.alloc (.cells #[.string s,.int .i64 t,.int .i64 v] 67)) [.int .i64 1,.string s,.int .i64 t,.int .i64 0,.int .i64 0,.int .i64 v] 26;rw[show(w3.alloc (.cells #[.string s,.int .i64 t,.int .i64 v] 67)).heap.size=w3.heap.size+1 by simp] at AD0
   obtain⟨wd,hwd⟩:∃wd,wd=(w3.alloc (.cells #[.string s,.int .i64 t,.int .i64 v] 67)).alloc (.cells #[.int .i64 1,.string s,.int .i64 t,.int .i64 0,.int .i64 0,.int .i64 v] 26):=⟨_,rfl⟩;have PD:Hid (RowL wd w3.heap.size 67 [.string s,.int .i64 t,.int .i64 v]):=by rw[hwd];exact PD0
   have AD:Hid (RowL wd (w3.heap.size+1) 26 [.int .i64 1,.string s,.int .i64 t,.int .i64 0,.int .i64 0,.int .i64 v]):=by rw[hwd];exact AD0
   have RD:Hid (RowL wd wr.heap.size 65 [.int .i64 xk,.int .i64 xa,.int .i64 xb,.int .i64 xc]):=by rw[hwd];exact R3.out.below AB R3.out.lt
   have hs3:wr.heap.size+1<=w3.heap.size:=by simpa using HB3.out.size
   have BD:Hid (Below wr.heap.size wr wd):=by
    rw[hwd];exact aC (aC ((Below.refl _ _).alloc (Nat.le_refl _) _) (Nat.le_refl _) HB3.out) (Nat.le_refl _) AB
   rw[<-hwd];have hne1:wr.heap.size<w3.heap.size:=by omega
   clear AB PD0 AD0 hwd R3 r3 rl HB3 c0 c1 c2 c3 con1 hs3;obtain⟨rb,hrb⟩:∃rb,rb=wr.heap.size:=⟨_,rfl⟩;have HRB:=aA hrb;rw[<-hrb] at RD hne1 ⊢;clear hrb;generalize w3.heap.size=pb at *;have pl:=PD.out.lt;have al:=AD.out.lt;have rl:=RD.out.lt;have p0:=fun j=>PD.out.cell j
   have r0:=fun j=>RD.out.cell j
   have a0:=fun j=>AD.out.cell j
   have af:=fun j=>AD.out.frozen j
   have w0:IntKind.i64.wrap (a6+b90)=a6+b90:=by rw[IntKind.wrap_i64];omega
   have w1:IntKind.i64.wrap (3600*b30)=3600*b30:=by rw[IntKind.wrap_i64];omega
   by_cases g0:kc=0
   ·have e:ac=⟨2,s,a6,a6+b90,szI b30,0⟩:=by rw[hra.out,if_pos g0]
    subst g0;have p00:wd.cell? ⟨pb,0,none⟩=some (.string s):=p0 0;have r01:wd.cell? ⟨rb,1,none⟩=some (.int .i64 xa):=r0 1;have r02:wd.cell? ⟨rb,2,none⟩=some (.int .i64 xb):=r0 2;have hn2:¬rb=pb+1:=by omega
    have hn3:¬pb+1=rb:=by omega
    have hn4:¬rb=pb:=by omega
    have n1:=World.new_ne wd ⟨pb,0,none⟩ p00;have n2:=World.new_ne wd ⟨rb,1,none⟩ r01;have n3:=World.new_ne wd ⟨rb,2,none⟩ r02;rcases(show b30=0\/b30=1\/b30=2 by omega) with h|h|h
    ·subst h;have e2:ac=⟨2,s,a6,a6+b90,1,0⟩:=e;subst e2;clear hra e
     focus
      go_upto_region 10 with fail;refine zA (by simp only[q4m];rfl) ?_
      apply q9a
      case h=>
       intro H
       go_region_held3 (fun w'=>w'.cell? ⟨pb,0,none⟩=some (.string s)/\w'.cell? ⟨rb,1,none⟩=some (.int .i64 xa)/\w'.cell? ⟨rb,2,none⟩=some (.int .i64 xb)) (go_keep) ((go_at_call 22;refine(lW (by with_reducible first|exact WA.out|exact WB.out|exact WC.out) (by decide) (by decide)).mono ?_;rintro e wp ⟨he,hwp⟩;subst wp;(first|rw[HA6.out] at he|rw[HB9.out] at he|rw[HB3.out] at he|rw[HA4.out] at he|rw[HA3.out] at he);subst he))
       all_goals exact H
      case k=>
       obtain⟨wz,hwz⟩:∃wz,wz=((st6 wd (pb+1) (.int .i64 2) (.string s) (.int .i64 a6) (.int .i64 (a6+b90)) (.int .i64 1) (.int .i64 0)).alloc (.cells #[.int .i64 1,.int .i64 60,.int .i64 3600] 3)).drew:=⟨_,rfl⟩
       have ZR:Hid (RowL wz (pb+1) 26 [.int .i64 2,.string s,.int .i64 a6,.int .i64 (a6+b90),.int .i64 1,.int .i64 0]):=by
        rw[hwz];exact q4y (wM (oN AD.out _ _ _ _ _ _) _)
       have ZB:Hid (Below wr.heap.size wr wz):=by
        rw[hwz];have h1:=oI BD.out (by have:=HRB.out;omega) (m:=pb+1) (.int .i64 2) (.string s) (.int .i64 a6) (.int .i64 (a6+b90)) (.int .i64 1) (.int .i64 0)
        exact(h1.alloc h1.size _).drew
       simp only[st6] at hwz;rw[<-hwz];clear hwz AD BD PD RD p0 r0 a0 af pl al rl;have z0:=fun j=>ZR.out.cell j
       have zl:=ZR.out.lt;go_wp2_with (at_builtin;refine wpList_append_own _ rfl _ _ 23 rfl w.heap.size 26 i0 _ 6 56 Tryz.underlying23 hi0 hz0 hz1 hz2 rfl (by decide) u5 k (bD acs) rfl (iR HO.out (aC ZB.out (Nat.le_refl _) ((Below.refl _ _).alloc (Nat.le_refl _) _))) ⟨wz.heap.size,0,none⟩ 1 1 (bD [⟨2,s,a6,(a6+b90),1,0⟩]) rfl (jT _) (mV (x:=⟨2,s,a6,(a6+b90),1,0⟩) (aG wz _ _)) (kX _) (by unfold maxLen;omega) (by omega) (by have:=ZB.out.size;simp;omega) ?_;intro v7 w7 hown7 hgrow7 _)
       go_roundw
       case rel=>
        go_light;have hst:=lV htk.out HBL.out ZB.out HO.out hown7 hgrow7 hlt hl5;exact hst
       case measure=>simp[intOf];omega
    ·subst h;have e2:ac=⟨2,s,a6,a6+b90,60,0⟩:=e;subst e2;clear hra e
     focus
      go_upto_region 10 with fail;refine zA (by simp only[q4m];rfl) ?_
      apply q9a
      case h=>
       intro H
       go_region_held3 (fun w'=>w'.cell? ⟨pb,0,none⟩=some (.string s)/\w'.cell? ⟨rb,1,none⟩=some (.int .i64 xa)/\w'.cell? ⟨rb,2,none⟩=some (.int .i64 xb)) (go_keep) ((go_at_call 22;refine(lW (by with_reducible first|exact WA.out|exact WB.out|exact WC.out) (by decide) (by decide)).mono ?_;rintro e wp ⟨he,hwp⟩;subst wp;(first|rw[HA6.out] at he|rw[HB9.out] at he|rw[HB3.out] at he|rw[HA4.out] at he|rw[HA3.out] at he);subst he))
       all_goals exact H
      case k=>
       obtain⟨wz,hwz⟩:∃wz,wz=((st6 wd (pb+1) (.int .i64 2) (.string s) (.int .i64 a6) (.int .i64 (a6+b90)) (.int .i64 60) (.int .i64 0)).alloc (.cells #[.int .i64 1,.int .i64 60,.int .i64 3600] 3)).drew:=⟨_,rfl⟩
       have ZR:Hid (RowL wz (pb+1) 26 [.int .i64 2,.string s,.int .i64 a6,.int .i64 (a6+b90),.int .i64 60,.int .i64 0]):=by
        rw[hwz];exact q4y (wM (oN AD.out _ _ _ _ _ _) _)
       have ZB:Hid (Below wr.heap.size wr wz):=by
        rw[hwz];have h1:=oI BD.out (by have:=HRB.out;omega) (m:=pb+1) (.int .i64 2) (.string s) (.int .i64 a6) (.int .i64 (a6+b90)) (.int .i64 60) (.int .i64 0)
        exact(h1.alloc h1.size _).drew
       simp only[st6] at hwz;rw[<-hwz];clear hwz AD BD PD RD p0 r0 a0 af pl al rl;have z0:=fun j=>ZR.out.cell j
       have zl:=ZR.out.lt;go_wp2_with (at_builtin;refine wpList_append_own _ rfl _ _ 23 rfl w.heap.size 26 i0 _ 6 56 Tryz.underlying23 hi0 hz0 hz1 hz2 rfl (by decide) u5 k (bD acs) rfl (iR HO.out (aC ZB.out (Nat.le_refl _) ((Below.refl _ _).alloc (Nat.le_refl _) _))) ⟨wz.heap.size,0,none⟩ 1 1 (bD [⟨2,s,a6,(a6+b90),60,0⟩]) rfl (jT _) (mV (x:=⟨2,s,a6,(a6+b90),60,0⟩) (aG wz _ _)) (kX _) (by unfold maxLen;omega) (by omega) (by have:=ZB.out.size;simp;omega) ?_;intro v7 w7 hown7 hgrow7 _)
       go_roundw
       case rel=>
        go_light;have hst:=lV htk.out HBL.out ZB.out HO.out hown7 hgrow7 hlt hl5;exact hst
       case measure=>simp[intOf];omega
    ·subst h;have e2:ac=⟨2,s,a6,a6+b90,3600,0⟩:=e;subst e2;clear hra e
     focus
      go_upto_region 10 with fail;refine zA (by simp only[q4m];rfl) ?_
      apply q9a
      case h=>
       intro H
       go_region_held3 (fun w'=>w'.cell? ⟨pb,0,none⟩=some (.string s)/\w'.cell? ⟨rb,1,none⟩=some (.int .i64 xa)/\w'.cell? ⟨rb,2,none⟩=some (.int .i64 xb)) (go_keep) ((go_at_call 22;refine(lW (by with_reducible first|exact WA.out|exact WB.out|exact WC.out) (by decide) (by decide)).mono ?_;rintro e wp ⟨he,hwp⟩;subst wp;(first|rw[HA6.out] at he|rw[HB9.out] at he|rw[HB3.out] at he|rw[HA4.out] at he|rw[HA3.out] at he);subst he))
       all_goals exact H
      case k=>
       obtain⟨wz,hwz⟩:∃wz,wz=((st6 wd (pb+1) (.int .i64 2) (.string s) (.int .i64 a6) (.int .i64 (a6+b90)) (.int .i64 3600) (.int .i64 0)).alloc (.cells #[.int .i64 1,.int .i64 60,.int .i64 3600] 3)).drew:=⟨_,rfl⟩
       have ZR:Hid (RowL wz (pb+1) 26 [.int .i64 2,.string s,.int .i64 a6,.int .i64 (a6+b90),.int .i64 3600,.int .i64 0]):=by
        rw[hwz];exact q4y (wM (oN AD.out _ _ _ _ _ _) _)
       have ZB:Hid (Below wr.heap.size wr wz):=by
        rw[hwz];have h1:=oI BD.out (by have:=HRB.out;omega) (m:=pb+1) (.int .i64 2) (.string s) (.int .i64 a6) (.int .i64 (a6+b90)) (.int .i64 3600) (.int .i64 0)
        exact(h1.alloc h1.size _).drew
       simp only[st6] at hwz;rw[<-hwz];clear hwz AD BD PD RD p0 r0 a0 af pl al rl;have z0:=fun j=>ZR.out.cell j
       have zl:=ZR.out.lt;go_wp2_with (at_builtin;refine wpList_append_own _ rfl _ _ 23 rfl w.heap.size 26 i0 _ 6 56 Tryz.underlying23 hi0 hz0 hz1 hz2 rfl (by decide) u5 k (bD acs) rfl (iR HO.out (aC ZB.out (Nat.le_refl _) ((Below.refl _ _).alloc (Nat.le_refl _) _))) ⟨wz.heap.size,0,none⟩ 1 1 (bD [⟨2,s,a6,(a6+b90),3600,0⟩]) rfl (jT _) (mV (x:=⟨2,s,a6,(a6+b90),3600,0⟩) (aG wz _ _)) (kX _) (by unfold maxLen;omega) (by omega) (by have:=ZB.out.size;simp;omega) ?_;intro v7 w7 hown7 hgrow7 _)
       go_roundw
       case rel=>
        go_light;have hst:=lV htk.out HBL.out ZB.out HO.out hown7 hgrow7 hlt hl5;exact hst
       case measure=>simp[intOf];omega
   ·have qg0:(kc==0)=false:=by simpa using g0
    by_cases g1:kc<3
    ·have e:ac=⟨3,s,a6,a6+b90,0,0⟩:=by rw[hra.out,if_neg g0,if_pos g1]
     subst e;clear hra
     focus
      have p00:wd.cell? ⟨pb,0,none⟩=some (.string s):=p0 0;have r01:wd.cell? ⟨rb,1,none⟩=some (.int .i64 xa):=r0 1;have r02:wd.cell? ⟨rb,2,none⟩=some (.int .i64 xb):=r0 2;have hn2:¬rb=pb+1:=by omega
      have hn3:¬pb+1=rb:=by omega
      have hn4:¬rb=pb:=by omega
      go_upto_region 12 with fail
      go_region_held3 (fun w'=>w'.cell? ⟨pb,0,none⟩=some (.string s)/\w'.cell? ⟨rb,1,none⟩=some (.int .i64 xa)/\w'.cell? ⟨rb,2,none⟩=some (.int .i64 xb)) (go_keep) ((go_at_call 22;refine(lW (by with_reducible first|exact WA.out|exact WB.out|exact WC.out) (by decide) (by decide)).mono ?_;rintro e wp ⟨he,hwp⟩;subst wp;(first|rw[HA6.out] at he|rw[HB9.out] at he|rw[HB3.out] at he|rw[HA4.out] at he|rw[HA3.out] at he);subst he))
      go_upto_region 19 with fail;obtain⟨wz,hwz⟩:∃wz,wz=(st6 wd (pb+1) (.int .i64 3) (.string s) (.int .i64 a6) (.int .i64 (a6+b90)) (.int .i64 0) (.int .i64 0)).drew:=⟨_,rfl⟩
      have ZR:Hid (RowL wz (pb+1) 26 [.int .i64 3,.string s,.int .i64 a6,.int .i64 (a6+b90),.int .i64 0,.int .i64 0]):=by
       rw[hwz];exact RowL.of_block (w:=st6 wd (pb+1) (.int .i64 3) (.string s) (.int .i64 a6) (.int .i64 (a6+b90)) (.int .i64 0) (.int .i64 0)) (oN AD.out _ _ _ _ _ _) rfl
      have ZB:Hid (Below wr.heap.size wr wz):=by
       rw[hwz];exact(oI BD.out (by have:=HRB.out;omega) _ _ _ _ _ _).drew
      simp only[st6] at hwz;rw[<-hwz];clear hwz AD BD PD RD p0 r0 a0 af pl al rl;have z0:=fun j=>ZR.out.cell j
      have zl:=ZR.out.lt;go_wp2_with (at_builtin;refine wpList_append_own _ rfl _ _ 23 rfl w.heap.size 26 i0 _ 6 56 Tryz.underlying23 hi0 hz0 hz1 hz2 rfl (by decide) u5 k (bD acs) rfl (iR HO.out (aC ZB.out (Nat.le_refl _) ((Below.refl _ _).alloc (Nat.le_refl _) _))) ⟨wz.heap.size,0,none⟩ 1 1 (bD [⟨3,s,a6,(a6+b90),0,0⟩]) rfl (jT _) (mV (x:=⟨3,s,a6,(a6+b90),0,0⟩) (aG wz _ _)) (kX _) (by unfold maxLen;omega) (by omega) (by have:=ZB.out.size;simp;omega) ?_;intro v7 w7 hown7 hgrow7 _)
      go_roundw
      case rel=>
       go_light;have hst:=lV htk.out HBL.out ZB.out HO.out hown7 hgrow7 hlt hl5;exact hst
      case measure=>simp[intOf];omega
    ·by_cases g2:kc=3/\a40=0
     ·have e:ac=⟨4,ByteArray.empty,3600*b30,0,0,0⟩:=by rw[hra.out,if_neg g0,if_neg g1,if_pos g2]
      obtain⟨g3,g4⟩:=g2;subst e;clear hra
      focus
       go_upto_region 19 with(go_at_call 22;refine(lW (by with_reducible first|exact WA.out|exact WB.out|exact WC.out) (by decide) (by decide)).mono ?_;rintro e wp ⟨he,hwp⟩;subst wp;(first|rw[HA6.out] at he|rw[HB9.out] at he|rw[HB3.out] at he|rw[HA4.out] at he|rw[HA3.out] at he);subst he)
       obtain⟨wz,hwz⟩:∃wz,wz=st6 (wd) (pb+1) (.int .i64 4) (.string ByteArray.empty) (.int .i64 (3600*b30)) (.int .i64 0) (.int .i64 0) (.int .i64 0):=⟨_,rfl⟩
       have ZR:Hid (RowL wz (pb+1) 26 [.int .i64 4,.string ByteArray.empty,.int .i64 (3600*b30),.int .i64 0,.int .i64 0,.int .i64 0]):=by
        rw[hwz];exact oN (AD.out) _ _ _ _ _ _
       have ZB:Hid (Below wr.heap.size wr wz):=by
        rw[hwz];exact oI BD.out (by have:=HRB.out;omega) _ _ _ _ _ _
       simp only[st6,q1o] at hwz;rw[<-hwz];clear hwz AD BD PD RD p0 r0 a0 af pl al rl;have z0:=fun j=>ZR.out.cell j
       have zl:=ZR.out.lt;go_wp2_with (at_builtin;refine wpList_append_own _ rfl _ _ 23 rfl w.heap.size 26 i0 _ 6 56 Tryz.underlying23 hi0 hz0 hz1 hz2 rfl (by decide) u5 k (bD acs) rfl (iR HO.out (aC ZB.out (Nat.le_refl _) ((Below.refl _ _).alloc (Nat.le_refl _) _))) ⟨wz.heap.size,0,none⟩ 1 1 (bD [⟨4,ByteArray.empty,(3600*b30),0,0,0⟩]) rfl (jT _) (mV (x:=⟨4,ByteArray.empty,(3600*b30),0,0,0⟩) (aG wz _ _)) (kX _) (by unfold maxLen;omega) (by omega) (by have:=ZB.out.size;simp;omega) ?_;intro v7 w7 hown7 hgrow7 _)
       go_roundw
       case rel=>
        go_light;have hst:=lV htk.out HBL.out ZB.out HO.out hown7 hgrow7 hlt hl5;exact hst
       case measure=>simp[intOf];omega
     ·by_cases g3:kc=4
      ·have e:ac=⟨5,ByteArray.empty,0,0,0,0⟩:=by rw[hra.out,if_neg g0,if_neg g1,if_neg g2,if_pos g3]
       have g4:¬kc=3:=by omega
       have qg4:(kc==3)=false:=by simpa using g4
       subst e;clear hra g2
       focus
        go_upto_region 19 with(go_at_call 22;refine(lW (by with_reducible first|exact WA.out|exact WB.out|exact WC.out) (by decide) (by decide)).mono ?_;rintro e wp ⟨he,hwp⟩;subst wp;(first|rw[HA6.out] at he|rw[HB9.out] at he|rw[HB3.out] at he|rw[HA4.out] at he|rw[HA3.out] at he);subst he)
        obtain⟨wz,hwz⟩:∃wz,wz=st6 (wd) (pb+1) (.int .i64 5) (.string ByteArray.empty) (.int .i64 0) (.int .i64 0) (.int .i64 0) (.int .i64 0):=⟨_,rfl⟩
        have ZR:Hid (RowL wz (pb+1) 26 [.int .i64 5,.string ByteArray.empty,.int .i64 0,.int .i64 0,.int .i64 0,.int .i64 0]):=by
         rw[hwz];exact oN (AD.out) _ _ _ _ _ _
        have ZB:Hid (Below wr.heap.size wr wz):=by
         rw[hwz];exact oI BD.out (by have:=HRB.out;omega) _ _ _ _ _ _
        simp only[st6,q1o] at hwz;rw[<-hwz];clear hwz AD BD PD RD p0 r0 a0 af pl al rl;have z0:=fun j=>ZR.out.cell j
        have zl:=ZR.out.lt;go_wp2_with (at_builtin;refine wpList_append_own _ rfl _ _ 23 rfl w.heap.size 26 i0 _ 6 56 Tryz.underlying23 hi0 hz0 hz1 hz2 rfl (by decide) u5 k (bD acs) rfl (iR HO.out (aC ZB.out (Nat.le_refl _) ((Below.refl _ _).alloc (Nat.le_refl _) _))) ⟨wz.heap.size,0,none⟩ 1 1 (bD [⟨5,ByteArray.empty,0,0,0,0⟩]) rfl (jT _) (mV (x:=⟨5,ByteArray.empty,0,0,0,0⟩) (aG wz _ _)) (kX _) (by unfold maxLen;omega) (by omega) (by have:=ZB.out.size;simp;omega) ?_;intro v7 w7 hown7 hgrow7 _)
        go_roundw
        case rel=>
         go_light;have hst:=lV htk.out HBL.out ZB.out HO.out hown7 hgrow7 hlt hl5;exact hst
        case measure=>simp[intOf];omega
      ·have qg3:(kc==4)=false:=by simpa using g3
       by_cases g4:kc=5/\a30=0
       ·have e:ac=⟨6,ByteArray.empty,0,0,0,0⟩:=by rw[hra.out,if_neg g0,if_neg g1,if_neg g2,if_neg g3,if_pos g4]
        obtain⟨g5,g6⟩:=g4;have g7:¬kc=3:=by omega
        have qg7:(kc==3)=false:=by simpa using g7
        subst e;clear hra g2
        focus
         go_upto_region 19 with(go_at_call 22;refine(lW (by with_reducible first|exact WA.out|exact WB.out|exact WC.out) (by decide) (by decide)).mono ?_;rintro e wp ⟨he,hwp⟩;subst wp;(first|rw[HA6.out] at he|rw[HB9.out] at he|rw[HB3.out] at he|rw[HA4.out] at he|rw[HA3.out] at he);subst he)
         obtain⟨wz,hwz⟩:∃wz,wz=st6 (wd) (pb+1) (.int .i64 6) (.string ByteArray.empty) (.int .i64 0) (.int .i64 0) (.int .i64 0) (.int .i64 0):=⟨_,rfl⟩
         have ZR:Hid (RowL wz (pb+1) 26 [.int .i64 6,.string ByteArray.empty,.int .i64 0,.int .i64 0,.int .i64 0,.int .i64 0]):=by
          rw[hwz];exact oN (AD.out) _ _ _ _ _ _
         have ZB:Hid (Below wr.heap.size wr wz):=by
          rw[hwz];exact oI BD.out (by have:=HRB.out;omega) _ _ _ _ _ _
         simp only[st6,q1o] at hwz;rw[<-hwz];clear hwz AD BD PD RD p0 r0 a0 af pl al rl;have z0:=fun j=>ZR.out.cell j
         have zl:=ZR.out.lt;go_wp2_with (at_builtin;refine wpList_append_own _ rfl _ _ 23 rfl w.heap.size 26 i0 _ 6 56 Tryz.underlying23 hi0 hz0 hz1 hz2 rfl (by decide) u5 k (bD acs) rfl (iR HO.out (aC ZB.out (Nat.le_refl _) ((Below.refl _ _).alloc (Nat.le_refl _) _))) ⟨wz.heap.size,0,none⟩ 1 1 (bD [⟨6,ByteArray.empty,0,0,0,0⟩]) rfl (jT _) (mV (x:=⟨6,ByteArray.empty,0,0,0,0⟩) (aG wz _ _)) (kX _) (by unfold maxLen;omega) (by omega) (by have:=ZB.out.size;simp;omega) ?_;intro v7 w7 hown7 hgrow7 _)
         go_roundw
         case rel=>
          go_light;have hst:=lV htk.out HBL.out ZB.out HO.out hown7 hgrow7 hlt hl5;exact hst
         case measure=>simp[intOf];omega
       ·have e:ac=⟨1,s,t,0,0,v⟩:=by rw[hra.out,if_neg g0,if_neg g1,if_neg g2,if_neg g3,if_neg g4]
        subst e;clear hra
        by_cases g5:kc=3
        ·have g6:¬a40=0:=fun h=>g2 ⟨g5,h⟩
         have qg6:(a40==0)=false:=by simpa using g6
         have qg8:(kc==5)=false:=by simpa using (show ¬kc=5 by omega)
         clear g2 g4
         focus
          go_upto_region 19 with(go_at_call 22;refine(lW (by with_reducible first|exact WA.out|exact WB.out|exact WC.out) (by decide) (by decide)).mono ?_;rintro e wp ⟨he,hwp⟩;subst wp;(first|rw[HA6.out] at he|rw[HB9.out] at he|rw[HB3.out] at he|rw[HA4.out] at he|rw[HA3.out] at he);subst he)
          obtain⟨wz,hwz⟩:∃wz,wz=wd:=⟨_,rfl⟩
          have ZR:Hid (RowL wz (pb+1) 26 [.int .i64 1,.string s,.int .i64 t,.int .i64 0,.int .i64 0,.int .i64 v]):=by
           rw[hwz];exact AD.out
          have ZB:Hid (Below wr.heap.size wr wz):=by
           rw[hwz];exact BD.out
          rw[<-hwz];clear hwz AD BD PD RD p0 r0 a0 af pl al rl;have z0:=fun j=>ZR.out.cell j
          have zl:=ZR.out.lt;go_wp2_with (at_builtin;refine wpList_append_own _ rfl _ _ 23 rfl w.heap.size 26 i0 _ 6 56 Tryz.underlying23 hi0 hz0 hz1 hz2 rfl (by decide) u5 k (bD acs) rfl (iR HO.out (aC ZB.out (Nat.le_refl _) ((Below.refl _ _).alloc (Nat.le_refl _) _))) ⟨wz.heap.size,0,none⟩ 1 1 (bD [⟨1,s,t,0,0,v⟩]) rfl (jT _) (mV (x:=⟨1,s,t,0,0,v⟩) (aG wz _ _)) (kX _) (by unfold maxLen;omega) (by omega) (by have:=ZB.out.size;simp;omega) ?_;intro v7 w7 hown7 hgrow7 _)
          go_roundw
          case rel=>
           go_light;have hst:=lV htk.out HBL.out ZB.out HO.out hown7 hgrow7 hlt hl5;exact hst
          case measure=>simp[intOf];omega
        ·have qg5:(kc==3)=false:=by simpa using g5
         by_cases g7:kc=5
         ·have g6:¬a30=0:=fun h=>g4 ⟨g7,h⟩
          have qg6:(a30==0)=false:=by simpa using g6
          clear g2 g4
          focus
           go_upto_region 19 with(go_at_call 22;refine(lW (by with_reducible first|exact WA.out|exact WB.out|exact WC.out) (by decide) (by decide)).mono ?_;rintro e wp ⟨he,hwp⟩;subst wp;(first|rw[HA6.out] at he|rw[HB9.out] at he|rw[HB3.out] at he|rw[HA4.out] at he|rw[HA3.out] at he);subst he)
           obtain⟨wz,hwz⟩:∃wz,wz=wd:=⟨_,rfl⟩
           have ZR:Hid (RowL wz (pb+1) 26 [.int .i64 1,.string s,.int .i64 t,.int .i64 0,.int .i64 0,.int .i64 v]):=by
            rw[hwz];exact AD.out
           have ZB:Hid (Below wr.heap.size wr wz):=by
            rw[hwz];exact BD.out
           rw[<-hwz];clear hwz AD BD PD RD p0 r0 a0 af pl al rl;have z0:=fun j=>ZR.out.cell j
           have zl:=ZR.out.lt;go_wp2_with (at_builtin;refine wpList_append_own _ rfl _ _ 23 rfl w.heap.size 26 i0 _ 6 56 Tryz.underlying23 hi0 hz0 hz1 hz2 rfl (by decide) u5 k (bD acs) rfl (iR HO.out (aC ZB.out (Nat.le_refl _) ((Below.refl _ _).alloc (Nat.le_refl _) _))) ⟨wz.heap.size,0,none⟩ 1 1 (bD [⟨1,s,t,0,0,v⟩]) rfl (jT _) (mV (x:=⟨1,s,t,0,0,v⟩) (aG wz _ _)) (kX _) (by unfold maxLen;omega) (by omega) (by have:=ZB.out.size;simp;omega) ?_;intro v7 w7 hown7 hgrow7 _)
           go_roundw
           case rel=>
            go_light;have hst:=lV htk.out HBL.out ZB.out HO.out hown7 hgrow7 hlt hl5;exact hst
           case measure=>simp[intOf];omega
         ·have qg7:(kc==5)=false:=by simpa using g7
          clear g2 g4
          focus
           go_upto_region 19 with(go_at_call 22;refine(lW (by with_reducible first|exact WA.out|exact WB.out|exact WC.out) (by decide) (by decide)).mono ?_;rintro e wp ⟨he,hwp⟩;subst wp;(first|rw[HA6.out] at he|rw[HB9.out] at he|rw[HB3.out] at he|rw[HA4.out] at he|rw[HA3.out] at he);subst he)
           obtain⟨wz,hwz⟩:∃wz,wz=wd:=⟨_,rfl⟩
           have ZR:Hid (RowL wz (pb+1) 26 [.int .i64 1,.string s,.int .i64 t,.int .i64 0,.int .i64 0,.int .i64 v]):=by
            rw[hwz];exact AD.out
           have ZB:Hid (Below wr.heap.size wr wz):=by
            rw[hwz];exact BD.out
           rw[<-hwz];clear hwz AD BD PD RD p0 r0 a0 af pl al rl;have z0:=fun j=>ZR.out.cell j
           have zl:=ZR.out.lt;go_wp2_with (at_builtin;refine wpList_append_own _ rfl _ _ 23 rfl w.heap.size 26 i0 _ 6 56 Tryz.underlying23 hi0 hz0 hz1 hz2 rfl (by decide) u5 k (bD acs) rfl (iR HO.out (aC ZB.out (Nat.le_refl _) ((Below.refl _ _).alloc (Nat.le_refl _) _))) ⟨wz.heap.size,0,none⟩ 1 1 (bD [⟨1,s,t,0,0,v⟩]) rfl (jT _) (mV (x:=⟨1,s,t,0,0,v⟩) (aG wz _ _)) (kX _) (by unfold maxLen;omega) (by omega) (by have:=ZB.out.size;simp;omega) ?_;intro v7 w7 hown7 hgrow7 _)
           go_roundw
           case rel=>
            go_light;have hst:=lV htk.out HBL.out ZB.out HO.out hown7 hgrow7 hlt hl5;exact hst
           case measure=>simp[intOf];omega
  ·have hx:k=xs.length\/(k:Int)=most:=by omega
   have htk:Hid (xs.take most.toNat=xs.take k):=by
    show _=_;rcases hx with h|h
    ·rw[h,List.take_length,List.take_of_length_le (by omega)]
    ·rw[<-h,Int.toNat_natCast]
   have HO:=aA hown;have HBL:=aA hbl;have hkl:k<=xs.length:=hk;clear hown hbl
   by_cases hx:k<xs.length
   ·have hm:¬(k:Int)<most:=fun h=>hlt ⟨hx,h⟩
    go_wp2_with fail;go_ret;exact qbe HAS.out htk.out hkl HO.out HBL.out
   ·go_wp2_with fail;go_ret;exact qbe HAS.out htk.out hkl HO.out HBL.out

end Go.Proofs.YtlojfgdpmaigmagGreatDoor

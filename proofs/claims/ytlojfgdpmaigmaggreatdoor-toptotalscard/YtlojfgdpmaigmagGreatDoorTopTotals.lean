/- For every list of raw things and every two numbers: a total is that of all points that were taken, and have not expired since. No condition beside the table of sizes, which is tied to the program's text. -/
import Derived.Test.YtlojfgdpmaigmagGreatDoorP54
import Derived.Test.YtlojfgdpmaigmagGreatDoorActsWalk
import Derived.Test.YtlojfgdpmaigmagGreatDoorP51
import Derived.Test.YtlojfgdpmaigmagGreatDoorLaidSz
import Derived.ChangeMaps5
namespace Go.Proofs.YtlojfgdpmaigmagGreatDoor
open Go.ChangeShapes Go.WideShapes Go.ChangeAt Go.RowKit Plain Go.Shelf

theorem qn3(xs:List Rw)(n:Nat):∀a∈(xs.take n).map gX,AcOk a:=fun a ha=>by
 obtain⟨x,_,rfl⟩:=List.mem_map.1 ha;exact qjp x

theorem ql0(xs:List Rw)(n:Nat):((xs.take n).map gX).length<=n:=by
 rw[List.length_map,List.length_take];omega

theorem q1z(n many:Int)(w:World)(h:i64B n)(h3:0<many)(h4:many<=1000000):
  Calls Tryz.prog 10 #[.int .i64 n,.int .i64 many] w fun e w'=>e=.returned (.int .i64 (pick n many))/\w'=w:=by
 have con:=aA (qN n many w h.1 h.2 h3 h4);clear h h3 h4
 go_enter Tryz.func10,Tryz.ntmps10
 go_wp2_with (go_at_call 22;refine con.out.mono ?_;rintro e w2 ⟨rfl,hw2⟩;subst hw2);go_ret;exact⟨rfl,rfl⟩

theorem qpe{w:World}{vb:Nat}{t:TypeId}{l:List Ac}(hv:RowL w vb t (aS l)):∀j u,(aS l)[j]? =some u->w.cell? (Addr.add ⟨vb,0,none⟩ j)=some u:=by
 intro j u hu;rw[WideShapes.add_plain,Nat.zero_add,hv.cell];exact hu

theorem q5e{w:World}{b o:Nat}{vs:List AnV}{ys:List An}(h:mX w (some ⟨b,o,none⟩) vs ys){k:Nat}{y:An}(hy:ys[k]? =some y):
  w.cell? ⟨b,o+k*8,none⟩=some (.int .i64 y.c)/\w.cell? ⟨b,o+k*8+1,none⟩=some (.int .i64 y.r.c)/\w.cell? ⟨b,o+k*8+2,none⟩=some (.int .i64 y.r.s)/\w.cell? ⟨b,o+k*8+3,none⟩=some (.int .i64 y.r.lo)/\w.cell? ⟨b,o+k*8+4,none⟩=some (.int .i64 y.r.hi)/\w.cell? ⟨b,o+k*8+5,none⟩=some (.int .i64 y.r.t)/\w.cell? ⟨b,o+k*8+6,none⟩=some (.int .i64 y.r.l):=by
 have h2:(vs.map AnV.a)[k]? =some y:=by rw[h.eq];exact hy
 have hk:k<vs.length:=by
  have:=(List.getElem?_eq_some_iff.1 h2).1
  simpa using this
 have e:vs[k].a=y:=by simpa [List.getElem?_eq_getElem hk] using h2
 obtain⟨b',o',hA,-,hc⟩:=h.row.av8 hk;cases hA;obtain⟨c0,c1,c2,c3,c4,c5,c6,-⟩:=hc;rw[e] at c0 c1 c2 c3 c4 c5 c6;exact⟨c0,c1,c2,c3,c4,c5,c6⟩

theorem qmo(s:ByteArray)(a b:Int)(w:World):
  Calls Tryz.prog 13 #[.string s,.int .i64 a,.int .i64 b] w fun e w'=>e=.returned (.agg #[.int .i64 3,.string s,.int .i64 a,.int .i64 b,.int .i64 0,.int .i64 0])/\Below w.heap.size w w':=by
 have R:=aG w [.int .i64 3,.string s,.int .i64 a,.int .i64 b,.int .i64 0,.int .i64 0] 26;have r:=fun j=>R.cell j
 go_enter Tryz.func13,Tryz.ntmps13
 go_wp2_with fail;refine bodyPost_ret (v:=.agg #[.int .i64 3,.string s,.int .i64 a,.int .i64 b,.int .i64 0,.int .i64 0]) (by simp[results,Tryz.results13,go_sem,r]) rfl ⟨rfl,?_⟩
 exact(Below.refl _ _).alloc (Nat.le_refl _) _

theorem qrm{w:World}{b o:Nat}{vs:List AnV}{ys:List An}(h:mX w (some ⟨b,o,none⟩) vs ys){k:Nat}{y:An}(hy:ys[k]? =some y):∃A n C,w.cell? ⟨b,o+k*8+7,none⟩=some (.slice A n C):=by
 have h2:(vs.map AnV.a)[k]? =some y:=by rw[h.eq];exact hy
 have hk:k<vs.length:=by
  have:=(List.getElem?_eq_some_iff.1 h2).1
  simpa using this
 obtain⟨b',o',hA,-,hc⟩:=h.row.av8 hk;cases hA;exact⟨_,_,_,hc.c7⟩

set_option maxRecDepth 20000 in
set_option maxHeartbeats 8000000 in
theorem q2o(A:Option Addr)(C:Nat)(xs:List Rw)(from_ more:Int)(w:World)(hZ:SzAt w)(hA:aH w.heap.size w A (lI xs))(_:xs.length*32<=140737488351232)(hwf:∀x∈xs,x.wf)(hf:(Lit.int .i64 from_).wf=true)(hm:(Lit.int .i64 more).wf=true):
  Calls Tryz.prog 3 #[.slice A xs.length C,.int .i64 from_,.int .i64 more] w fun e w'=>e=.returned (.bool true)/\Below w.heap.size w w':=by
 have p1:=jP from_ (show(0:Int)<9000 by decide)
 have p2:=jP more (show(0:Int)<9000 by decide)
 have PA:=aA fun W=>q1z from_ 9000 W (rV hf) (by decide) (by decide)
 have PB:=aA fun W=>q1z more 9000 W (rV hm) (by decide) (by decide)
 obtain⟨fa,hfa⟩:∃n,pick from_ 9000=n:=⟨_,rfl⟩;obtain⟨fb,hfb⟩:∃n,pick more 9000=n:=⟨_,rfl⟩;rw[hfa] at PA p1;rw[hfb] at PB p2;have AC:=aA (qk7 A C xs 40 w hA hwf (by decide) (by decide))
 have hok:=qn3 xs (40:Int).toNat;have hlen:=ql0 xs (40:Int).toNat;obtain⟨acs,has⟩:∃acs,(xs.take (40:Int).toNat).map gX=acs:=⟨_,rfl⟩;rw[has] at AC hok hlen;have hlen:acs.length<=40:=hlen;have HZ:=aA hZ;obtain⟨F,hF⟩:∃F,acs.filter mW=F:=⟨_,rfl⟩;have HFE:=aA hF;have hFok:∀a∈F,AcOk a:=fun a ha=>by rw[<-hF] at ha;exact hok a (List.mem_filter.1 ha).1
 have hF56:∀a∈F,a.k≠5/\a.k≠6:=fun a ha=>by
  rw[<-hF] at ha;have:=(List.mem_filter.1 ha).2
  simpa [mW] using this
 have hFl:F.length<=40:=by rw[<-hF];exact Nat.le_trans (List.length_filter_le _ _) hlen
 obtain⟨M,S,Y,hM⟩:∃M S Y,runM mc0 mc0 (F++[askT cpuS fa (fa+fb)])=(M,S,Y):=⟨_,_,_,rfl⟩;obtain⟨Y0,yc,yr,hY,hY0,hyes,hno⟩:=qfl hFok hF56 p1.1 (show fa<=fa+fb by omega) (by omega)
 rw[hM] at hY;simp only at hY;subst hY;have HM:=aA hM;have HFK:=aA hFok;have HYES:=aA hyes;have HNO:=aA hno;obtain⟨fn,hfn⟩:∃fn,F.length=fn:=⟨_,rfl⟩;have HFN:=aA hfn;rw[hfn] at hFl hY0;have HY0:=aA hY0;clear hZ hok has hA hwf hf hm hM hF hFok hF56 hyes hno hfa hfb hfn hY0;obtain⟨i0,hi0,hz0,hz1,hz2⟩:=info_parts qfg
 go_enter Tryz.func3,Tryz.ntmps3
 go_wp2_with (go_at_call 9;refine AC.out.mono ?_;rintro e w1 ⟨v,rfl,hown,hb1⟩;obtain⟨VA,VC,hv,hnn,hlc,-,hrow⟩:=aN hown;subst hv;have HR1:=aA hrow;have HB1:=aA hb1;clear hrow hb1 hnn hown AC)
 go_loopw [7,30] (fun vo vi wr=>∃(k:Nat),k<=acs.length/\vi=.int .i64 (k:Int)/\Below w1.heap.size w1 wr/\wr.ownsRow w1.heap.size 26 6 vo ((acs.take k).filter mW).length (aS ((acs.take k).filter mW))) (fun _ vi _=>acs.length-(intOf vi).toNat)
 case atStart=>exact⟨0,Nat.zero_le _,rfl,Below.refl _ _,World.ownsRow_nil _ _ _ _⟩
 case round=>
  obtain⟨k,hk,rfl,hbl,hown⟩:=hrel;have hge:=hbl.size
  by_cases hlt:k<acs.length
  ·obtain⟨b,o,rfl,hbb,hcc⟩:=(HR1.out.below hbl (Nat.le_refl _)).ac6 hlt;have hft:=aA (qag (P:=mW) hlt);have hfl:((acs.take k).filter mW).length<=40:=Nat.le_trans (List.length_filter_le _ _) (by rw[List.length_take];omega)
   obtain⟨fs,hfs⟩:∃fs,(acs.take k).filter mW=fs:=⟨_,rfl⟩;rw[hfs] at hft hfl hown;clear hfs;generalize acs[k]=a at *;obtain⟨ak,as',at',az,an,av⟩:=a;obtain⟨c0,c1,c2,c3,c4,c5⟩:=hcc;simp only at c0 c1 c2 c3 c4 c5;have HO:=aA hown;have HBL:=aA hbl;clear hown hbl;have lbr:b<wr.heap.size:=by omega
   have q0:(0:Int)<=(k:Int):=by omega
   have q1:(k:Int)<(acs.length:Int):=by omega
   by_cases h2:ak=5
   ·have HF:=q6h hft.out (by simp[mW,h2])
    clear hft;subst h2;go_wp2_with fail;go_roundw
    case rel=>
     go_light;obtain⟨r1,r2⟩:=qb3 HF.out HBL.out HO.out (.cells #[.int .i64 5,.string as',.int .i64 at',.int .i64 az,.int .i64 an,.int .i64 av] 26);exact⟨k+1,hlt,by go_num,r1,r2⟩
    case measure=>simp[intOf];omega
   ·by_cases h3:ak=6
    ·have HF:=q6h hft.out (by simp[mW,h3])
     clear hft h2;subst h3;go_wp2_with fail;go_roundw
     case rel=>
      go_light;obtain⟨r1,r2⟩:=qb3 HF.out HBL.out HO.out (.cells #[.int .i64 6,.string as',.int .i64 at',.int .i64 az,.int .i64 an,.int .i64 av] 26);exact⟨k+1,hlt,by go_num,r1,r2⟩
     case measure=>simp[intOf];omega
    ·have hn2:(ak != 5)=true:=by simpa using h2
     have hn3:(ak != 6)=true:=by simpa using h3
     have hn4:(!(ak==5))=true:=by simpa using h2
     have hn5:(!(ak==6))=true:=by simpa using h3
     have hn6:(ak==5)=false:=by simpa using h2
     have hn7:(ak==6)=false:=by simpa using h3
     have HF:=qdy hft.out (by simp[mW,h2,h3])
     clear hft;go_wp2_with (at_builtin;refine wpList_append_own _ rfl _ _ 23 rfl w1.heap.size 26 i0 _ 6 56 Tryz.underlying23 hi0 hz0 hz1 hz2 rfl (by decide) u7 fs.length (aS fs) rfl (iE HO.out (yZ _ _ _)) ⟨wr.heap.size+1,0,none⟩ 1 1 (aS [⟨ak,as',at',az,an,av⟩]) rfl (jE _) (qrh wr _ ⟨ak,as',at',az,an,av⟩) (jK _) (by unfold maxLen;omega) (by omega) (by simp;omega) ?_;intro v7 w7 hown7 hgrow7 _)
     go_roundw
     case rel=>
      go_light;obtain⟨r1,r2⟩:=qjb HF.out HBL.out HO.out hown7 hgrow7 hlt;exact⟨k+1,hlt,by go_num,r1,r2⟩
     case measure=>simp[intOf];omega
  ·have hkk:k=acs.length:=by omega
   have htk:acs.take k=acs:=by rw[hkk];exact List.take_length
   rw[htk,HFE.out,HFN.out] at hown;obtain⟨UA,UC,hu7,hua,huc,-,hrow⟩:=aN hown;subst hu7;have HRF:=aA hrow;have HBL:=aA (aC HB1.out (Nat.le_refl _) hbl);have kz:IntKind.i64.wrap (fa+fb)=fa+fb:=by rw[IntKind.wrap_i64];omega
   clear hrow hown hbl htk HR1 HFE;go_upto_region 9 with(go_at_call 10;refine(PA.out _).mono ?_;rintro e wp ⟨rfl,hwp⟩;have hwp:=hwp.symm;subst hwp;clear PA);go_upto_region 10 with(go_at_call 10;refine(PB.out _).mono ?_;rintro e wp ⟨rfl,hwp⟩;have hwp:=hwp.symm;subst hwp;clear PB)
   have CL:=aA (by
    have h:=q9r UA UC F wr HRF.out (fun e=>⟨hua e,List.length_eq_zero_iff.1 (by have:=hua e;have:=HFN.out;omega)⟩) (by have:=HFN.out;omega)
    rw[HFN.out] at h;exact h)
   have RN:=aA fun(LA:Option Addr) (LC:Nat) (W:World) (hW:Below w.heap.size w W) (hr:aH W.heap.size W LA (aS (F++[askT cpuS fa (fa+fb)])))=>qpt (LA:=LA) (LC:=LC) (n:=fn+1) HM.out (by simp[HFN.out]) (HZ.out.below hW) hr (fun a ha=>by
    rcases List.mem_append.1 ha with h|h
    ·have:=(HFK.out a h).sz;omega
    ·obtain rfl:a=askT cpuS fa (fa+fb):=by simpa using h
     show cpuS.size<=_
     decide) (by omega)
   clear hua huc HM
   go_upto_region 11 with(first
    |(go_at_call 12;refine CL.out.mono ?_;rintro e w2 ⟨v2,rfl,hown2,hb2⟩;obtain⟨LA,LC,hv2,-,-,-,-⟩:=aN hown2;subst hv2;have HO2:=aA hown2;have HB2:=aA hb2;clear hown2 hb2 CL)
    |(go_at_call 13;refine(qmo _ _ _ _).mono ?_;rintro e w3 ⟨rfl,hb3⟩;have HB3:=aA hb3;have hs3:=hb3.size;have hs2:=HB2.out.size;clear hb3)
    |(at_builtin;refine wpList_append_own _ rfl _ _ 23 rfl wr.heap.size 26 i0 _ 6 56 Tryz.underlying23 hi0 hz0 hz1 hz2 rfl (by decide) (.slice LA fn LC) fn (aS F) rfl (iE HO2.out (aC HB3.out (Nat.le_refl _) ((Below.refl _ _).alloc (Nat.le_refl _) _))) ⟨w3.heap.size,0,none⟩ 1 1 (aS [askT cpuS fa (fa+fb)]) rfl rfl (qpe (aG w3 (aS [askT cpuS fa (fa+fb)]) 26)) (jK _) (by unfold maxLen;omega) (by omega) (by simp;omega) ?_;intro v4 w4 hown4 hgrow4 _;obtain⟨LA4,LC4,hv4,-,-,-,hrow4⟩:=aN hown4;subst hv4;rw[<-vP] at hrow4;have HR4:=aA hrow4;have HB4:=aA (qd9 (aC HB2.out (Nat.le_refl _) (aC HB3.out (Nat.le_refl _) ((Below.refl _ _).alloc (Nat.le_refl _) (.cells (aS [askT cpuS fa (fa+fb)]).toArray 26)))) (by simp;omega) hgrow4 (fun q hq=>(HO2.out.lt q hq).1));clear hown4 hgrow4 hrow4 HO2 HB3 hs3 hs2)
    |(go_at_call 11;refine(RN.out LA4 LC4 _ (aC HBL.out (Nat.le_refl _) HB4.out) HR4.out).mono ?_;rintro e w5 ⟨vs,AA,CC,A1,C1,t0,t1,t2,he,hvl,hcc,han,hB,hK,hb5,-⟩;have HV1:=aA hvl;have HA1:=aA han;have HCC1:=aA hcc;have HB5:=aA (aC HB4.out (Nat.le_refl _) hb5);obtain⟨A10,C10,q0,z0⟩:=t0;obtain⟨A11,C11,q1,z1⟩:=t1;obtain⟨A12,C12,q2,z2⟩:=t2;simp only[aJ] at he;subst he;clear hvl hcc han hB hK hb5 RN))
   obtain⟨wT,hwT⟩:∃wT,wT=w5.alloc (.cells #[.slice A1 M.ss.length C1,.slice A10 q0.length C10,.int .i64 z0,.slice A11 q1.length C11,.int .i64 z1,.slice A12 q2.length C12,.int .i64 z2,.int .i64 M.f] 35):=⟨_,rfl⟩;have h5T:Below w5.heap.size w5 wT:=by rw[hwT];exact(Below.refl _ _).alloc (Nat.le_refl _) _
   rw[<-hwT];have HAT:=HA1.out.up h5T;have HBW:=aA (aC HB5.out (Nat.le_refl _) h5T);have HBT:=aA (aC HBL.out (Nat.le_refl _) HBW.out);have HRT:=aA (HRF.out.up HBW.out);have hcc:=HCC1.out;obtain⟨ab,ao,hAA,hbl,-⟩:=HAT.row.av8 (k:=0) (by have:=HV1.out;omega)
   subst hAA;have HAN:=aA HAT;clear hwT h5T HAT HA1 HB5 HB4 HB2 HBW HBL HR4 HRF HV1 HCC1 HB1;go_upto_region 16 with fail;obtain⟨wb,hwb⟩:∃wb,wb=wT.alloc (.cells #[.int .i64 0,.int .i64 0,.int .i64 0,.int .i64 0,.int .i64 0,.int .i64 0] 42):=⟨_,rfl⟩;have HBB:Hid (Below wT.heap.size wT wb):=by show Below _ _ _;rw[hwb];exact(Below.refl _ _).alloc (Nat.le_refl _) _
   have RB:Hid (RowL wb wT.heap.size 42 [.int .i64 0,.int .i64 0,.int .i64 0,.int .i64 0,.int .i64 0,.int .i64 0]):=by show RowL _ _ _ _;rw[hwb];exact aG wT _ _
   rw[<-hwb];obtain⟨bx,hbx⟩:∃bx,bx=wT.heap.size:=⟨_,rfl⟩;have HBX:=aA hbx;rw[<-hbx] at RB ⊢;clear hwb hbx;obtain⟨k1,hk1⟩:∃k1,k1=k:=⟨_,rfl⟩;go_wp2_with fail
   go_loopw [16,17,70] (fun vf vg vi wr=>∃(k:Nat),k<=fn/\vi=.int .i64 (k:Int)/\vf=.int .i64 (flr 0 (F.take k) (Y0.take k))/\vg=.bool (anyC (tkn (F.take k) (Y0.take k)))/\Below wT.heap.size wT wr/\RowL wr bx 42 [.int .i64 0,.int .i64 0,.int .i64 0,.int .i64 0,.int .i64 0,.int .i64 0]) (fun _ _ vi _=>fn-(intOf vi).toNat)
   case atStart=>exact⟨0,Nat.zero_le _,rfl,rfl,rfl,HBB.out,RB.out⟩
   case round=>
    obtain⟨k2,hk2,rfl,rfl,rfl,hbl2,hrb2⟩:=hrel;have hge2:=hbl2.size
    by_cases hlt2:k2<fn
    ·have hkF:k2<F.length:=by rw[HFN.out];exact hlt2
     have hkY:k2<Y0.length:=by rw[HY0.out];exact hlt2
     obtain⟨b,o,rfl,hbb,hcc⟩:=(HRT.out.below hbl2 (Nat.le_refl _)).ac6 hkF;have hyc:=q5e (HAN.out.up hbl2) (k:=k2) (y:=Y0[k2]) (by rw[List.getElem?_append_left hkY];exact List.getElem?_eq_getElem hkY)
     have htk2:=aA (qc2 hkF hkY);have hfl2:=aA (qjn 0 hkF hkY);obtain⟨T,hT⟩:∃T,tkn (F.take k2) (Y0.take k2)=T:=⟨_,rfl⟩;obtain⟨fl,hfl⟩:∃fl,flr 0 (F.take k2) (Y0.take k2)=fl:=⟨_,rfl⟩;rw[hT] at htk2 ⊢;rw[hfl] at hfl2 ⊢;clear hT hfl;generalize F[k2]=a at *;generalize Y0[k2]=y at *;obtain⟨ak,as',at',az,an,av⟩:=a;obtain⟨yk,yr',yz⟩:=y;obtain⟨c0,c1,c2,c3,c4,c5⟩:=hcc;obtain⟨y0,-⟩:=hyc;simp only at c0 c1 c2 c3 c4 c5 y0 htk2 hfl2;have HBL2:=aA hbl2;have HRB2:=aA hrb2;clear hbl2 hrb2 hkF hkY;have lbr2:b<wr.heap.size:=by omega
     have lab2:ab<wr.heap.size:=by omega
     have q0:(0:Int)<=(k2:Int):=by omega
     have q1:(k2:Int)<(fn:Int):=by omega
     have q2:(k2:Int)<(fn:Int)+1:=by omega
     obtain⟨g,hg⟩:∃g,anyC T=g:=⟨_,rfl⟩;have HG:=aA hg;rw[hg];clear hg
     by_cases h4:ak=4
     ·subst h4
      by_cases hc:yk=0
      ·subst hc;cases g
       ·have E1:Hid (flr 0 (F.take (k2+1)) (Y0.take (k2+1))=at'):=by show _=_;rw[hfl2.out];rw[if_pos ⟨rfl,rfl⟩]
        have E2:Hid (anyC (tkn (F.take (k2+1)) (Y0.take (k2+1)))=false):=by show _=_;rw[htk2.out,nJ,HG.out,if_neg (by simp)];rfl
        clear htk2 hfl2;go_wp2_with fail;go_roundw
        case rel=>
         go_light;exact⟨k2+1,hlt2,by go_num,by rw[E1.out],by rw[E2.out],HBL2.out.alloc HBL2.out.size _,gQ HRB2.out _⟩
        case measure=>simp[intOf];omega
       ·have E1:Hid (flr 0 (F.take (k2+1)) (Y0.take (k2+1))=at'):=by show _=_;rw[hfl2.out];rw[if_pos ⟨rfl,rfl⟩]
        have E2:Hid (anyC (tkn (F.take (k2+1)) (Y0.take (k2+1)))=true):=by show _=_;rw[htk2.out,nJ,HG.out];rfl
        clear htk2 hfl2;go_wp2_with fail;go_roundw
        case rel=>
         go_light;exact⟨k2+1,hlt2,by go_num,by rw[E1.out],by rw[E2.out],HBL2.out.alloc HBL2.out.size _,gQ HRB2.out _⟩
        case measure=>simp[intOf];omega
      ·have hc2:(yk==0)=false:=by simpa using hc
       cases g
       ·have E1:Hid (flr 0 (F.take (k2+1)) (Y0.take (k2+1))=fl):=by show _=_;rw[hfl2.out];rw[if_neg (fun h=>hc h.2)]
        have E2:Hid (anyC (tkn (F.take (k2+1)) (Y0.take (k2+1)))=false):=by show _=_;rw[htk2.out,nJ,HG.out,if_neg (by simp)];rfl
        clear htk2 hfl2;go_wp2_with fail;go_roundw
        case rel=>
         go_light;exact⟨k2+1,hlt2,by go_num,by rw[E1.out],by rw[E2.out],HBL2.out.alloc HBL2.out.size _,gQ HRB2.out _⟩
        case measure=>simp[intOf];omega
       ·have E1:Hid (flr 0 (F.take (k2+1)) (Y0.take (k2+1))=fl):=by show _=_;rw[hfl2.out];rw[if_neg (fun h=>hc h.2)]
        have E2:Hid (anyC (tkn (F.take (k2+1)) (Y0.take (k2+1)))=true):=by show _=_;rw[htk2.out,nJ,HG.out];rfl
        clear htk2 hfl2;go_wp2_with fail;go_roundw
        case rel=>
         go_light;exact⟨k2+1,hlt2,by go_num,by rw[E1.out],by rw[E2.out],HBL2.out.alloc HBL2.out.size _,gQ HRB2.out _⟩
        case measure=>simp[intOf];omega
     ·have hn4:(ak==4)=false:=by simpa using h4
      cases g
      ·by_cases h1:ak=1
       ·subst h1
        by_cases hc:yk=0
        ·subst hc
         by_cases hs:as'=cpuS
         ·subst hs;have E1:Hid (flr 0 (F.take (k2+1)) (Y0.take (k2+1))=fl):=by show _=_;rw[hfl2.out];rw[if_neg (by simp)]
          have E2:Hid (anyC (tkn (F.take (k2+1)) (Y0.take (k2+1)))=true):=by show _=_;rw[htk2.out,nJ,HG.out,if_pos ⟨rfl,rfl⟩];simp[anyC,tkp]
          clear htk2 hfl2;go_wp2_with fail;go_roundw
          case rel=>
           go_light;exact⟨k2+1,hlt2,by go_num,by rw[E1.out],by first|(rw[E2.out];done)|(rw[E2.out];simp[ByteArray.toList_eq,cpuS]),HBL2.out.alloc HBL2.out.size _,gQ HRB2.out _⟩
          case measure=>simp[intOf];omega
         ·have hs2:¬as'.toList=[99,112,117]:=fun e=>hs (ByteArray.ext (Array.toList_inj.1 ((show as'.data.toList=[99,112,117] by simpa [ByteArray.toList_eq] using e).trans rfl)))
          have hs5:(as'.toList==[99,112,117])=false:=by simpa using hs2
          have E1:Hid (flr 0 (F.take (k2+1)) (Y0.take (k2+1))=fl):=by show _=_;rw[hfl2.out];rw[if_neg (by simp)]
          have E2:Hid (anyC (tkn (F.take (k2+1)) (Y0.take (k2+1)))=false):=by show _=_;rw[htk2.out,nJ,HG.out,if_pos ⟨rfl,rfl⟩];simp[anyC,tkp,hs]
          clear htk2 hfl2;go_wp2_with fail;go_roundw
          case rel=>
           go_light;exact⟨k2+1,hlt2,by go_num,by rw[E1.out],by first|(rw[E2.out];done)|rw[E2.out,hs5],HBL2.out.alloc HBL2.out.size _,gQ HRB2.out _⟩
          case measure=>simp[intOf];omega
        ·have hc2:(yk==0)=false:=by simpa using hc
         have E1:Hid (flr 0 (F.take (k2+1)) (Y0.take (k2+1))=fl):=by show _=_;rw[hfl2.out];rw[if_neg (fun h=>hc h.2)]
         have E2:Hid (anyC (tkn (F.take (k2+1)) (Y0.take (k2+1)))=false):=by show _=_;rw[htk2.out,nJ,HG.out,if_neg (fun h=>hc h.2)];rfl
         clear htk2 hfl2;go_wp2_with fail;go_roundw
         case rel=>
          go_light;exact⟨k2+1,hlt2,by go_num,by rw[E1.out],by rw[E2.out],HBL2.out.alloc HBL2.out.size _,gQ HRB2.out _⟩
         case measure=>simp[intOf];omega
       ·have hn1:(ak==1)=false:=by simpa using h1
        have E1:Hid (flr 0 (F.take (k2+1)) (Y0.take (k2+1))=fl):=by show _=_;rw[hfl2.out];rw[if_neg (fun h=>h4 h.1)]
        have E2:Hid (anyC (tkn (F.take (k2+1)) (Y0.take (k2+1)))=false):=by show _=_;rw[htk2.out,nJ,HG.out,if_neg (fun h=>h1 h.1)];rfl
        clear htk2 hfl2;go_wp2_with fail;go_roundw
        case rel=>
         go_light;exact⟨k2+1,hlt2,by go_num,by rw[E1.out],by rw[E2.out],HBL2.out.alloc HBL2.out.size _,gQ HRB2.out _⟩
        case measure=>simp[intOf];omega
      ·skip
       have E1:Hid (flr 0 (F.take (k2+1)) (Y0.take (k2+1))=fl):=by show _=_;rw[hfl2.out];rw[if_neg (fun h=>h4 h.1)]
       have E2:Hid (anyC (tkn (F.take (k2+1)) (Y0.take (k2+1)))=true):=by show _=_;rw[htk2.out,nJ,HG.out];rfl
       clear htk2 hfl2;go_wp2_with fail;go_roundw
       case rel=>
        go_light;exact⟨k2+1,hlt2,by go_num,by rw[E1.out],by rw[E2.out],HBL2.out.alloc HBL2.out.size _,gQ HRB2.out _⟩
       case measure=>simp[intOf];omega
    ·have hkk2:k2=fn:=by omega
     subst hkk2;have htF:F.take k2=F:=by rw[<-HFN.out];exact List.take_length
     have htY:Y0.take k2=Y0:=by rw[<-HY0.out];exact List.take_length
     rw[htF,htY];obtain⟨FL,hFL⟩:∃FL,flr 0 F Y0=FL:=⟨_,rfl⟩;obtain⟨G,hG⟩:∃G,anyC (tkn F Y0)=G:=⟨_,rfl⟩;have HYES2:=aA HYES.out;rw[hFL] at HYES2 ⊢;have HGG:=aA hG;rw[hG];clear hFL hG htF htY HBB RB hge2 hlt2 hk2;go_wp2_with fail
     go_loopw [110] (fun vi wr=>∃(k:Nat),k<=k2/\vi=.int .i64 (k:Int)/\Below wT.heap.size wT wr/\RowL wr bx 42 (ruL (sumR ((tkn (F.take k) (Y0.take k)).filter (iY fa (fa+fb) FL))))) (fun vi _=>k2-(intOf vi).toNat)
     case atStart=>exact⟨0,Nat.zero_le _,rfl,hbl2,hrb2⟩
     case round=>
      obtain⟨k3,hk3,rfl,hbl3,hrb3⟩:=hrel;have hge3:=hbl3.size
      by_cases hlt3:k3<k2
      ·have hkF:k3<F.length:=by rw[HFN.out];exact hlt3
       have hkY:k3<Y0.length:=by rw[HY0.out];exact hlt3
       obtain⟨b,o,rfl,hbb,hcc⟩:=(HRT.out.below hbl3 (Nat.le_refl _)).ac6 hkF;have hyc:=q5e (HAN.out.up hbl3) (k:=k3) (y:=Y0[k3]) (by rw[List.getElem?_append_left hkY];exact List.getElem?_eq_getElem hkY)
       have htk3:=aA (qc2 hkF hkY);have hTok:=aA (qlp (F.take k3) (Y0.take k3) (fun a ha=>HFK.out a (List.mem_of_mem_take ha)))
       have hTl:=qhp (F.take k3) (Y0.take k3);rw[List.length_take] at hTl;have hak:=aA (HFK.out F[k3] (List.getElem_mem hkF));obtain⟨T,hT⟩:∃T,tkn (F.take k3) (Y0.take k3)=T:=⟨_,rfl⟩;rw[hT] at htk3 hTok hTl hrb3;obtain⟨LT,hLT⟩:∃LT,T.filter (iY fa (fa+fb) FL)=LT:=⟨_,rfl⟩;have hLok:Hid (∀p∈LT,Pt.ok 0 p):=fun p hp=>by rw[<-hLT] at hp;exact hTok.out p (List.mem_filter.1 hp).1
       have hLl:LT.length<=40:=by
        have:=List.length_filter_le (iY fa (fa+fb) FL) T;rw[hLT] at this;omega
       rw[hLT] at hrb3;obtain⟨S3,hS3⟩:∃S3,sumR LT=S3:=⟨_,rfl⟩;rw[hS3] at hrb3;have HS:=aA hS3;clear hT hTok hTl hS3;generalize F[k3]=a at *;generalize Y0[k3]=y at *;obtain⟨ak,as',at',az,an,av⟩:=a;obtain⟨yk,yr',yz⟩:=y;obtain⟨c0,c1,c2,c3,c4,c5⟩:=hcc;obtain⟨y0,-⟩:=hyc;simp only at c0 c1 c2 c3 c4 c5 y0 htk3;have HBL3:=aA hbl3;have HRB3:=aA hrb3;clear hbl3 hrb3 hkF hkY;have lbr2:b<wr.heap.size:=by omega
       have lab2:ab<wr.heap.size:=by omega
       have q0:(0:Int)<=(k3:Int):=by omega
       have q1:(k3:Int)<(k2:Int):=by omega
       have q2:(k3:Int)<(k2:Int)+1:=by omega
       by_cases h1:ak=1
       ·subst h1
        by_cases hc:yk=0
        ·subst hc
         by_cases hs:as'=cpuS
         ·subst hs;have hs5:(cpuS.toList==[99,112,117])=true:=by simp[ByteArray.toList_eq,cpuS]
          have hs6:(!(cpuS.toList==[99,112,117]))=false:=by rw[hs5];rfl
          by_cases g1:at'<fa
          ·have E:Hid ((tkn (F.take (k3+1)) (Y0.take (k3+1))).filter (iY fa (fa+fb) FL)=LT):=by show _=_;rw[htk3.out,if_pos ⟨rfl,rfl⟩,List.filter_append,hLT];simp[iY,inPt,tkp,show ¬fa<=at' by omega]
           clear htk3 hLT;go_wp2_with fail;go_roundw
           case rel=>
            go_light;exact⟨k3+1,hlt3,by go_num,HBL3.out.alloc HBL3.out.size _,by rw[E.out,HS.out];exact gQ HRB3.out _⟩
           case measure=>simp[intOf];omega
          ·by_cases g2:at'>fa+fb
           ·have E:Hid ((tkn (F.take (k3+1)) (Y0.take (k3+1))).filter (iY fa (fa+fb) FL)=LT):=by show _=_;rw[htk3.out,if_pos ⟨rfl,rfl⟩,List.filter_append,hLT];simp[iY,inPt,tkp,show ¬at'<=fa+fb by omega]
            clear htk3 hLT;go_wp2_with fail;go_roundw
            case rel=>
             go_light;exact⟨k3+1,hlt3,by go_num,HBL3.out.alloc HBL3.out.size _,by rw[E.out,HS.out];exact gQ HRB3.out _⟩
            case measure=>simp[intOf];omega
           ·by_cases g3:at'<FL
            ·have E:Hid ((tkn (F.take (k3+1)) (Y0.take (k3+1))).filter (iY fa (fa+fb) FL)=LT):=by show _=_;rw[htk3.out,if_pos ⟨rfl,rfl⟩,List.filter_append,hLT];simp[iY,inPt,tkp,show ¬FL<=at' by omega]
             clear htk3 hLT;go_wp2_with fail;go_roundw
             case rel=>
              go_light;exact⟨k3+1,hlt3,by go_num,HBL3.out.alloc HBL3.out.size _,by rw[E.out,HS.out];exact gQ HRB3.out _⟩
             case measure=>simp[intOf];omega
            ·have hput:=hak.out.put rfl;simp only at hput;have hp:Pt.ok 0 (tkp ⟨1,cpuS,at',az,an,av⟩):=⟨hput.1,by show at'<=_;omega,hput.2.2.1,hput.2.2.2,hput.1⟩
             have hofk:ofOk at' av=true:=by
              unfold ofOk;simp only[Bool.and_eq_true];exact⟨(fH _ _ _).2 ⟨hput.1,by omega⟩,(fH _ _ _).2 ⟨hput.2.2.1,hput.2.2.2⟩⟩
             have hst:=qks hLok.out (by omega) hp
             have E:Hid ((tkn (F.take (k3+1)) (Y0.take (k3+1))).filter (iY fa (fa+fb) FL)=LT++[(tkp ⟨1,cpuS,at',az,an,av⟩)]):=by
              show _=_;rw[htk3.out,if_pos ⟨rfl,rfl⟩,List.filter_append,hLT];congr 1;rw[List.filter_cons_of_pos (by show((decide (cpuS=cpuS)&&(decide (fa<=at')&&decide (at'<=fa+fb)))&&decide (FL<=at'))=true;rw[decide_eq_true (rfl:cpuS=cpuS),decide_eq_true (show fa<=at' by omega),decide_eq_true (show at'<=fa+fb by omega),decide_eq_true (show FL<=at' by omega)];rfl)]
              rfl
             rw[HS.out] at hst;obtain⟨R1,hR1⟩:∃R1,ruP (tkp ⟨1,cpuS,at',az,an,av⟩)=R1:=⟨_,rfl⟩;obtain⟨S4,hS4⟩:∃S4,sumR (LT++[(tkp ⟨1,cpuS,at',az,an,av⟩)])=S4:=⟨_,rfl⟩;rw[hR1,hS4] at hst;have e1:ofR at' av=R1:=by rw[<-hR1];unfold ofR;rw[if_pos hofk];rfl
             have e2:ofC at' av=0:=by unfold ofC;rw[if_pos hofk]
             have OFC:=aA fun W=>q2r at' av W
             simp only[e1,e2] at OFC;have MG:=aA fun W=>oJ S3 R1 W
             simp only[hst] at MG;have HS4:=aA hS4;clear htk3 hLT hput hp hofk hst hR1 hS4 e1 e2 hLok;go_upto_region 28 with(go_at_call 14;refine(OFC.out _).mono ?_;rintro e w6 ⟨rfl,hb6⟩;have HB6:Hid (Below wr.heap.size wr w6):=aC ((Below.refl wr.heap.size wr).alloc (Nat.le_refl _) _) (Nat.le_refl _) hb6;clear hb6 OFC);obtain⟨wA,hwA⟩:∃wA,wA=w6.alloc (.cells #[.int .i64 R1.c,.int .i64 R1.s,.int .i64 R1.lo,.int .i64 R1.hi,.int .i64 R1.t,.int .i64 R1.l] 42):=⟨_,rfl⟩;have HA6:Below wr.heap.size wr wA:=by rw[hwA];exact aC HB6.out (Nat.le_refl _) ((Below.refl _ _).alloc (Nat.le_refl _) _)
             have RX:RowL wA bx 42 [.int .i64 S3.c,.int .i64 S3.s,.int .i64 S3.lo,.int .i64 S3.hi,.int .i64 S3.t,.int .i64 S3.l]:=RowL.below HRB3.out HA6 HRB3.out.lt;have RY:RowL wA w6.heap.size 42 [.int .i64 R1.c,.int .i64 R1.s,.int .i64 R1.lo,.int .i64 R1.hi,.int .i64 R1.t,.int .i64 R1.l]:=by rw[hwA];exact aG w6 _ _
             rw[<-hwA];have x0:=fun j=>RX.cell j
             have z0':=fun j=>RY.cell j
             clear hwA HB6;go_upto_region 29 with(go_at_call 15;refine(MG.out _).mono ?_;rintro e w8 ⟨rfl,hb8⟩;have HB8:=aA (aC HA6 (Nat.le_refl _) hb8);have RX8:=RX.below hb8 RX.lt;clear hb8 MG);obtain⟨wc,hwC⟩:∃wc,wc=w8.alloc (.cells #[.int .i64 S4.c,.int .i64 S4.s,.int .i64 S4.lo,.int .i64 S4.hi,.int .i64 S4.t,.int .i64 S4.l] 42):=⟨_,rfl⟩;have HC8:Below wr.heap.size wr wc:=by rw[hwC];exact aC HB8.out (Nat.le_refl _) ((Below.refl _ _).alloc (Nat.le_refl _) _)
             have RXC:RowL wc bx 42 [.int .i64 S3.c,.int .i64 S3.s,.int .i64 S3.lo,.int .i64 S3.hi,.int .i64 S3.t,.int .i64 S3.l]:=by rw[hwC];exact gQ RX8 _
             have RZ:RowL wc w8.heap.size 42 [.int .i64 S4.c,.int .i64 S4.s,.int .i64 S4.lo,.int .i64 S4.hi,.int .i64 S4.t,.int .i64 S4.l]:=by rw[hwC];exact aG w8 _ _
             rw[<-hwC];have nbx:bx≠w8.heap.size:=Nat.ne_of_lt RX8.lt;have nby:w8.heap.size≠bx:=Nat.ne_of_gt RX8.lt;have hbxx:wT.heap.size<=bx:=Nat.le_of_eq HBX.out.symm;obtain⟨zb,hzb⟩:∃zb,zb=w8.heap.size:=⟨_,rfl⟩;rw[<-hzb] at RZ nbx nby ⊢;clear hwC hzb x0 z0' RX RY RX8 HA6 HB8;have x1:=fun j=>RXC.cell j
             have xf:=fun j=>RXC.frozen j
             have xl:=RXC.lt;have z1:=fun j=>RZ.cell j
             have zl:=RZ.lt;go_wp2_with fail;go_roundw
             case rel=>
              go_light;exact⟨k3+1,hlt3,by go_num,oL (aC HBL3.out (Nat.le_refl _) HC8) hbxx _ _ _ _ _ _,by rw[E.out,HS4.out];exact oU RXC _ _ _ _ _ _⟩
             case measure=>simp[intOf];omega
         ·have hs2:¬as'.toList=[99,112,117]:=fun e=>hs (ByteArray.ext (Array.toList_inj.1 ((show as'.data.toList=[99,112,117] by simpa [ByteArray.toList_eq] using e).trans rfl)))
          have hs5:(as'.toList==[99,112,117])=false:=by simpa using hs2
          have hs6:(!(as'.toList==[99,112,117]))=true:=by rw[hs5];rfl
          have E:Hid ((tkn (F.take (k3+1)) (Y0.take (k3+1))).filter (iY fa (fa+fb) FL)=LT):=by show _=_;rw[htk3.out,if_pos ⟨rfl,rfl⟩,List.filter_append,hLT];simp[iY,inPt,tkp,hs]
          clear htk3 hLT;go_wp2_with fail;go_roundw
          case rel=>
           go_light;exact⟨k3+1,hlt3,by go_num,HBL3.out.alloc HBL3.out.size _,by rw[E.out,HS.out];exact gQ HRB3.out _⟩
          case measure=>simp[intOf];omega
        ·have hc2:(yk != 0)=true:=by simpa using hc
         have hc3:(yk==0)=false:=by simpa using hc
         have hc4:(!(yk==0))=true:=by simpa using hc
         have E:Hid ((tkn (F.take (k3+1)) (Y0.take (k3+1))).filter (iY fa (fa+fb) FL)=LT):=by show _=_;rw[htk3.out,if_neg (fun h=>hc h.2),List.append_nil,hLT]
         clear htk3 hLT;go_wp2_with fail;go_roundw
         case rel=>
          go_light;exact⟨k3+1,hlt3,by go_num,HBL3.out.alloc HBL3.out.size _,by rw[E.out,HS.out];exact gQ HRB3.out _⟩
         case measure=>simp[intOf];omega
       ·have hc2:(ak != 1)=true:=by simpa using h1
        have hc3:(ak==1)=false:=by simpa using h1
        have hc4:(!(ak==1))=true:=by simpa using h1
        have E:Hid ((tkn (F.take (k3+1)) (Y0.take (k3+1))).filter (iY fa (fa+fb) FL)=LT):=by show _=_;rw[htk3.out,if_neg (fun h=>h1 h.1),List.append_nil,hLT]
        clear htk3 hLT;go_wp2_with fail;go_roundw
        case rel=>
         go_light;exact⟨k3+1,hlt3,by go_num,HBL3.out.alloc HBL3.out.size _,by rw[E.out,HS.out];exact gQ HRB3.out _⟩
        case measure=>simp[intOf];omega
      ·have hkk3:k2=k3:=by omega
       subst hkk3;have htF:F.take k2=F:=by rw[<-HFN.out];exact List.take_length
       have htY:Y0.take k2=Y0:=by rw[<-HY0.out];exact List.take_length
       rw[htF,htY] at hrb3;have HL:=q5e (HAN.out.up hbl3) (k:=k2) (y:=⟨yc,yr,[]⟩) (by rw[List.getElem?_append_right (by have:=HY0.out;omega),HY0.out];simp)
       obtain⟨A7,n7,C7,l7⟩:=qrm (HAN.out.up hbl3) (k:=k2) (y:=⟨yc,yr,[]⟩) (by rw[List.getElem?_append_right (by have:=HY0.out;omega),HY0.out];simp)
       obtain⟨l0,l1,l2,l3,l4,l5,l6⟩:=HL;simp only at l0 l1 l2 l3 l4 l5 l6;obtain⟨S9,hS9⟩:∃S9,sumR ((tkn F Y0).filter (iY fa (fa+fb) FL))=S9:=⟨_,rfl⟩;rw[hS9] at hrb3;have HRB3:Hid (RowL wr bx 42 [.int .i64 S9.c,.int .i64 S9.s,.int .i64 S9.lo,.int .i64 S9.hi,.int .i64 S9.t,.int .i64 S9.l]):=hrb3;have HBL3:=aA (aC HBT.out (Nat.le_refl _) hbl3);have lab3:ab<wr.heap.size:=by omega
       have q0:(0:Int)<=(k2:Int):=by omega
       have q2:(k2:Int)<(k2:Int)+1:=by omega
       clear hrb3 hbl3 hlt3 hk3 htF htY;cases G
       ·obtain rfl:=HNO.out (by rw[<-qca,HGG.out];decide)
        go_wp2_with fail;go_ret;exact⟨rfl,HBL3.out.alloc (by have:=HBT.out.size;omega) _⟩
       ·obtain⟨rfl,hyr⟩:=HYES2.out ((qca _).1 HGG.out);rw[hS9] at hyr;subst hyr;have RX:=gQ HRB3.out (.cells #[.int .i64 0,.int .i64 yr.c,.int .i64 yr.s,.int .i64 yr.lo,.int .i64 yr.hi,.int .i64 yr.t,.int .i64 yr.l,.slice A7 n7 C7] 45);have x1:=fun j=>RX.cell j
        have xl:=HRB3.out.lt;clear hS9;go_wp2_with fail;go_ret;exact⟨rfl,HBL3.out.alloc (by have:=HBT.out.size;omega) _⟩
set_option maxRecDepth 100000 in
theorem q1b(os:Os)(started:os.Started)(H:Type)(enc:TypeId × Value->H):
  ReturnsInHanded {} Tryz.checked os 3 .any (fun w args=>(Rows.topTotalsSpec.pre enc Tryz.prog Tryz.f3 [] false w args/\laidMetH Tryz.prog rP w)/\sizedMet enc Tryz.prog Tryz.f3 (OpenSpec.ofChange Rows.topTotalsSpec) false w args)
   (Rows.topTotalsSpec.post enc Tryz.prog Tryz.f3 false true false false):=by
 refine returnsInHanded_of_change_and (C:=Tryz.checked) (X:=fun w _=>laidMetH Tryz.prog rP w) (fun _ _ _ hh h=>h.of_heap hh) own started (by kernel_rfl) Tryz.func3
  (ChangeSpec.witness_at (enc:=enc) (C:=Tryz.checked) (os:=os) (X:=fun w _=>laidMetH Tryz.prog rP w) false (World.laidAll Tryz.prog os rP) #[.slice none 0 0,.int .i64 0,.int .i64 0] 8 (World.laidAll_os _ _ _) (by kernel_rfl) (by kernel_rfl) (by kernel_rfl) (by kernel_rfl) (by kernel_rfl)
   (by rw[MakeChecks.laidMetH_plain _ _ _ (by kernel_rfl)];exact laidMet_laidAll _ (by kernel_rfl) (by kernel_rfl))) ?_
 intro W base args ds gs before hval0 hW _ hsz0 hL _;have hval:∀(j:Nat) t v,Tryz.f3.params[j]? =some t->args[j]? =some v->Value.okWide Tryz.prog W .any base t v:=hval0;have hW':=hW;obtain⟨p,q,hA0,hV,rfl,hfz,hnd⟩:=hW;have hA:DataW.TrodAll enc Tryz.prog W 0 (fun _=>true) true Tryz.f3.params.toList args.toList ds p:=hA0
 have hsz:(DataW.weightsEach Tryz.prog (Tryz.f3.params.toList++Rows.topTotalsSpec.plain.varTypes Tryz.prog) (ds++gs)).all (·<=reachBytes)=true:=hsz0;rw[Tryz.params3] at hA hval hsz;obtain⟨v0,vs0,d0,ds0,p0,q0,hargs,rfl,rfl,h0,r0⟩:=trodAll_cons hA;obtain⟨v1,vs1,d1,ds1,p1,q1,rfl,rfl,rfl,h1,r1⟩:=trodAll_cons r0;obtain⟨v2,vs2,d2,ds2,p2,q2,rfl,rfl,rfl,h2,r2⟩:=trodAll_cons r1;obtain⟨rfl,rfl,rfl⟩:=trodAll_nil r2;obtain rfl:args=#[v0,v1,v2]:=by cases args;simp_all
 obtain⟨rfl,rfl⟩:=trodVars_none hV;have k0:=h0;have lt0:∀x∈p0,x.block<W.heap.size:=by obtain⟨m,hm⟩:=k0;exact DataW.trod_lt m _ _ _ hm
 obtain⟨A0,C0,xs0,rfl,hR0,hz0,hw0⟩:=q5u (hval 0 22 v0 rfl rfl) h0 (fun n hn=>by
  have:=List.all_eq_true.1 hsz n (DataW.weights_mem_each (j:=0) (t:=22) rfl rfl n hn);exact of_decide_eq_true this)
 have k1:=h1;have lt1:∀x∈p1,x.block<W.heap.size:=by obtain⟨m,hm⟩:=k1;exact DataW.trod_lt m _ _ _ hm
 obtain⟨a1,rfl,w1⟩:∃n:Int,v1=.int .i64 n/\(Lit.int .i64 n).wf=true:=by
  obtain⟨n,h,_,_,w⟩:=open_int Tryz.underlying3 (hval 1 3 v1 rfl rfl) h1;exact⟨n,h,w⟩
 have k2:=h2;have lt2:∀x∈p2,x.block<W.heap.size:=by obtain⟨m,hm⟩:=k2;exact DataW.trod_lt m _ _ _ hm
 obtain⟨a2,rfl,w2⟩:∃n:Int,v2=.int .i64 n/\(Lit.int .i64 n).wf=true:=by
  obtain⟨n,h,_,_,w⟩:=open_int Tryz.underlying3 (hval 2 3 v2 rfl rfl) h2;exact⟨n,h,w⟩
 clear hA0 hval0 hsz0;refine(q2o A0 C0 xs0 a1 a2 W (qod hL) hR0 hz0 hw0 w1 w2).mono fun e W' ⟨he,bel⟩=>?_
 subst he;exact⟨_,rfl,_,_,_,[],_,[],hW',trodAll_mk1 (shut_bool Tryz.underlying4 _),(trodAll_cons_mk (Below.trod q8n (by kernel_rfl) (of_decide_eq_true (by kernel_rfl)) k0 bel lt0) (trodAll_cons_mk (Below.trod q8n (by kernel_rfl) (of_decide_eq_true (by kernel_rfl)) k1 bel lt1) (trodAll_cons_mk (Below.trod q8n (by kernel_rfl) (of_decide_eq_true (by kernel_rfl)) k2 bel lt2) trodAll_mk0))),rfl,bel.frame _,fun h=>by cases h⟩

theorem q1g:Rows.TopTotalsSaid:=
 OpenClaim.holds_of_wide 3 Tryz.f3 rfl rfl rfl rfl rfl rfl rfl ⟨rfl,rfl,rfl,rfl,rfl⟩ rfl rfl rfl rfl rfl (by kernel_rfl) Tryz.func3 (by kernel_rfl)
  (of_decide_eq_true (by kernel_rfl)) (by unfold Func.isWrapper;first|(rw[if_pos (by decide+kernel)];kernel_rfl)|(rw[if_neg (by decide+kernel)];exact⟨rfl,rfl⟩))
  (fun os started H enc _=>q1b os started H enc)

theorem topTotalsCard_holds:Rows.TopTotalsCardSaid:=
 Claim7.holds_tied_plain_at .later [] [.data] true (true, "0657e646ef2f390bec603b8aca188c56945d5f7249e5dbb24548ab29f89e546d") false q1g (fun _ h => by cases h) (by kernel_rfl) (fun _ h => by cases h) topTotals_row_tie rfl ⟨rfl, rfl⟩ (by kernel_rfl) rfl
  (fun f fn hf hfn=>by
   obtain rfl : f = 3 := Option.some.inj ((show Tryz.prog.funcNamed "winnower/winnowertop.TopTotals" = some 3 by kernel_rfl).symm.trans hf) |>.symm
   obtain rfl:fn=Tryz.f3:=(Option.some.inj (Tryz.func3.symm.trans hfn)).symm
   exact⟨by kernel_rfl,fun j t ht=>by
    rw[Tryz.params3] at ht;have hm:t∈[22,3,3]:=by simpa using Array.mem_of_getElem? ht
    have hall:([22,3,3].all fun u=>!Tryz.prog.wantsStandIn u)=true:=by kernel_rfl
    exact(show Tryz.prog.wantsStandIn t=false by simpa using List.all_eq_true.1 hall t hm)⟩)
  (by kernel_rfl)
#print axioms topTotalsCard_holds
end Go.Proofs.YtlojfgdpmaigmagGreatDoor

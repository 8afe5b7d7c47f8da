/- For every list of raw things and every number: great buckets tell what small ones tell together, and are not more. No condition beside the table of sizes, which is tied to the program's text. -/
import Derived.Test.YtlojfgdpmaigmagGreatDoorP54
import Derived.Test.YtlojfgdpmaigmagGreatDoorActsWalk
import Derived.Test.YtlojfgdpmaigmagGreatDoorTopFil
import Derived.Test.YtlojfgdpmaigmagGreatDoorLaidSz
import Derived.ChangeMaps5
namespace Go.Proofs.YtlojfgdpmaigmagGreatDoor
open Go.ChangeShapes Go.WideShapes Go.ChangeAt Go.RowKit Plain Go.Shelf

theorem qmi(xs:List Rw)(n:Nat):∀a∈(xs.take n).map gY,AcOk a:=fun a ha=>by
 obtain⟨x,_,rfl⟩:=List.mem_map.1 ha;exact qjn x

theorem qk4(xs:List Rw)(n:Nat):((xs.take n).map gY).length<=n:=by
 rw[List.length_map,List.length_take];omega

theorem q9m(n many:Int)(w:World)(h:i64B n)(h3:0<many)(h4:many<=1000000):
  Calls Tryz.prog 10 #[.int .i64 n,.int .i64 many] w fun e w'=>e=.returned (.int .i64 (pick n many))/\w'=w:=by
 have con:=aA (qQ n many w h.1 h.2 h3 h4);clear h h3 h4
 go_enter Tryz.func10,Tryz.ntmps10
 go_wp2_with (go_at_call 22;refine con.out.mono ?_;rintro e w2 ⟨rfl,hw2⟩;subst hw2);go_ret;exact⟨rfl,rfl⟩

theorem qpr{w:World}{vb:Nat}{t:TypeId}{l:List Ac}(hv:RowL w vb t (bD l)):∀j u,(bD l)[j]? =some u->w.cell? (Addr.add ⟨vb,0,none⟩ j)=some u:=by
 intro j u hu;rw[WideShapes.add_plain,Nat.zero_add,hv.cell];exact hu

theorem q5e{w:World}{b o:Nat}{vs:List AnV}{ys:List An}(h:mW w (some ⟨b,o,none⟩) vs ys){k:Nat}{y:An}(hy:ys[k]? =some y):
  w.cell? ⟨b,o+k*8,none⟩=some (.int .i64 y.c)/\w.cell? ⟨b,o+k*8+1,none⟩=some (.int .i64 y.r.c)/\w.cell? ⟨b,o+k*8+2,none⟩=some (.int .i64 y.r.s)/\w.cell? ⟨b,o+k*8+3,none⟩=some (.int .i64 y.r.lo)/\w.cell? ⟨b,o+k*8+4,none⟩=some (.int .i64 y.r.hi)/\w.cell? ⟨b,o+k*8+5,none⟩=some (.int .i64 y.r.t)/\w.cell? ⟨b,o+k*8+6,none⟩=some (.int .i64 y.r.l):=by
 have h2:(vs.map AnV.a)[k]? =some y:=by rw[h.eq];exact hy
 have hk:k<vs.length:=by
  have:=(List.getElem?_eq_some_iff.1 h2).1
  simpa using this
 have e:vs[k].a=y:=by simpa [List.getElem?_eq_getElem hk] using h2
 obtain⟨b',o',hA,-,hc⟩:=h.row.av8 hk;cases hA;obtain⟨c0,c1,c2,c3,c4,c5,c6,-⟩:=hc;rw[e] at c0 c1 c2 c3 c4 c5 c6;exact⟨c0,c1,c2,c3,c4,c5,c6⟩

theorem qon(s:ByteArray)(a b:Int)(w:World):
  Calls Tryz.prog 13 #[.string s,.int .i64 a,.int .i64 b] w fun e w'=>e=.returned (.agg #[.int .i64 3,.string s,.int .i64 a,.int .i64 b,.int .i64 0,.int .i64 0])/\Below w.heap.size w w':=by
 have R:=aG w [.int .i64 3,.string s,.int .i64 a,.int .i64 b,.int .i64 0,.int .i64 0] 26;have r:=fun j=>R.cell j
 go_enter Tryz.func13,Tryz.ntmps13
 go_wp2_with fail;refine bodyPost_ret (v:=.agg #[.int .i64 3,.string s,.int .i64 a,.int .i64 b,.int .i64 0,.int .i64 0]) (by simp[results,Tryz.results13,go_sem,r]) rfl ⟨rfl,?_⟩
 exact(Below.refl _ _).alloc (Nat.le_refl _) _

theorem xZ{w:World}{b o:Nat}{vs:List AnV}{ys:List An}(h:mW w (some ⟨b,o,none⟩) vs ys){k:Nat}{y:An}(hy:ys[k]? =some y):∃A C,w.cell? ⟨b,o+k*8+7,none⟩=some (.slice A y.R.length C)/\y.R.length<=500/\aH w.heap.size w A (aB y.R):=by
 have h2:(vs.map AnV.a)[k]? =some y:=by rw[h.eq];exact hy
 have hk:k<vs.length:=by
  have:=(List.getElem?_eq_some_iff.1 h2).1
  simpa using this
 have e:vs[k].a=y:=by simpa [List.getElem?_eq_getElem hk] using h2
 have he:=h.each vs[k] (List.getElem_mem hk);obtain⟨b',o',hA,-,hc⟩:=h.row.av8 hk;cases hA;have c7:=hc.c7;rw[e] at c7 he;exact⟨_,_,c7,he.1,he.2⟩

theorem qse(n:Int)(w:World):
  Calls Tryz.prog 17 #[.int .i64 n] w fun e w'=>e=.returned (.agg #[.int .i64 2,.string ⟨#[109,101,109]⟩,.int .i64 0,.int .i64 1048575,.int .i64 n,.int .i64 0])/\Below w.heap.size w w':=by
 have R:=aG w [.int .i64 2,.string ⟨#[109,101,109]⟩,.int .i64 0,.int .i64 1048575,.int .i64 n,.int .i64 0] 26;have r:=fun j=>R.cell j
 go_enter Tryz.func17,Tryz.ntmps17
 go_wp2_with fail;refine bodyPost_ret (v:=.agg #[.int .i64 2,.string ⟨#[109,101,109]⟩,.int .i64 0,.int .i64 1048575,.int .i64 n,.int .i64 0]) (by simp[results,Tryz.results17,go_sem,r]) rfl ⟨rfl,?_⟩
 exact(Below.refl _ _).alloc (Nat.le_refl _) _

set_option maxRecDepth 20000 in
set_option maxHeartbeats 8000000 in
theorem q2h(A:Option Addr)(C:Nat)(xs:List Rw)(n:Int)(w:World)(hZ:SzAt w)(hA:aH w.heap.size w A (lK xs))(_:xs.length*32<=140737488351232)(hwf:∀x∈xs,x.wf)(hn:(Lit.int .i64 n).wf=true):
  Calls Tryz.prog 5 #[.slice A xs.length C,.int .i64 n] w fun e w'=>e=.returned (.bool true)/\Below w.heap.size w w':=by
 have p1:=jZ n (show(0:Int)<900 by decide)
 have PA:=aA fun W=>q9m n 900 W (uS hn) (by decide) (by decide)
 obtain⟨pk,hpk⟩:∃q,pick n 900=q:=⟨_,rfl⟩;rw[hpk] at PA p1;have AC:=aA (qjz A C xs 40 w hA hwf (by decide) (by decide))
 have hok:=qmi xs (40:Int).toNat;have hlen:=qk4 xs (40:Int).toNat;obtain⟨acs,has⟩:∃acs,(xs.take (40:Int).toNat).map gY=acs:=⟨_,rfl⟩;rw[has] at AC hok hlen;have hlen:acs.length<=40:=hlen;have HZ:=aA hZ;have HOK:=aA hok;obtain⟨m,s',Y0,hM,hY0,hmok,hmem,hpts⟩:=qiw hok (t:=11000+pk) ⟨by omega,by omega⟩
 obtain⟨S,hS⟩:∃S,sumR (iH memS 0 1048575 m.pts)=S:=⟨_,rfl⟩;rw[hS] at hM;have HS:=aA hS;have HM:=aA hM;have HMO:=aA (And.intro hmok hmem);obtain⟨na,hna⟩:∃na,acs.length=na:=⟨_,rfl⟩;have HNA:=aA hna;rw[hna] at AC hlen hY0 hpts;have HY0:=aA hY0;have kt:IntKind.i64.wrap (11000+pk)=11000+pk:=by rw[IntKind.wrap_i64];omega
 clear hZ hok has hA hwf hn hM hmok hmem hS hpk hna hY0;obtain⟨i0,hi0,hz0,hz1,hz2⟩:=info_parts qm5
 go_enter Tryz.func5,Tryz.ntmps5
 go_upto_region 3 with(first
  |(go_at_call 9;refine AC.out.mono ?_;rintro e w1 ⟨v,rfl,hown,hb1⟩;obtain⟨VA,VC,hv,-,-,-,-⟩:=aP hown;subst hv;have HO1:=aA hown;have HB1:=aA hb1;have HY:=Below.refl w1.heap.size w1;clear hb1 hown AC)
  |(go_at_call 10;refine(PA.out _).mono ?_;rintro e wp ⟨rfl,hwp⟩;have hwp:=hwp.symm;subst hwp;clear PA)
  |(go_at_call 17;refine(qse _ _).mono ?_;rintro e wq ⟨rfl,hbq⟩;have HY:=aC HY (Nat.le_refl _) hbq;clear hbq)
  |(go_at_call 13;refine(qon _ _ _ _).mono ?_;rintro e w3 ⟨rfl,hb3⟩;have HB3:=aA (aC HY (Nat.le_refl _) hb3);have hs3:=HB3.out.size;have hs1:=HB1.out.size;clear hb3)
  |(at_builtin;refine wpList_append_own _ rfl _ _ 23 rfl w.heap.size 26 i0 _ 6 56 Tryz.underlying23 hi0 hz0 hz1 hz2 rfl (by decide) (.slice VA na VC) na (bD acs) rfl (iR HO1.out (aC HB3.out (Nat.le_refl _) ((Below.refl _ _).alloc (Nat.le_refl _) _))) ⟨w3.heap.size,0,none⟩ 5 5 (bD [putB (11000+pk),askB 1,askB 60,askB 3600,sumB]) rfl rfl (qpr (aG w3 (bD [putB (11000+pk),askB 1,askB 60,askB 3600,sumB]) 26)) (kX _) (by unfold maxLen;omega) (by omega) (by simp;omega) ?_;intro v4 w4 hown4 hgrow4 _;obtain⟨LA4,LC4,hv4,-,-,-,hrow4⟩:=aP hown4;subst hv4;rw[<-zH] at hrow4;have HR4:=aA hrow4;have HB4:=aA (qd5 (aC HB1.out (Nat.le_refl _) (aC HB3.out (Nat.le_refl _) ((Below.refl _ _).alloc (Nat.le_refl _) (.cells (bD [putB (11000+pk),askB 1,askB 60,askB 3600,sumB]).toArray 26)))) (by simp;omega) hgrow4 (fun q hq=>(HO1.out.lt q hq).1));clear hown4 hgrow4 hrow4))
 have RN:=aA (qr2 (LA:=LA4) (LC:=LC4) (n:=na+5) HM.out (by simp[HNA.out]) (HZ.out.below HB4.out) HR4.out (fun a ha=>by
  rcases List.mem_append.1 ha with h|h
  ·have:=(HOK.out a h).sz;omega
  ·have:a.s=memS:=by
    simp only[List.mem_cons,List.not_mem_nil,or_false] at h;rcases h with rfl|rfl|rfl|rfl|rfl<;>rfl
   rw[this]
   decide) (by omega))
 clear HO1 HB1 HB3 hs3 hs1 HY;go_upto_region 4 with(go_at_call 11;refine RN.out.mono ?_;rintro e w5 ⟨vs,AA,CC,A1,C1,t0,t1,t2,he,hvl,hcc,han,hB,hK,hb5,-⟩;have HTO:=aA (qj7 HMO.out.1 HMO.out.2 hK (by omega));have HV1:=aA hvl;have HA1:=aA han;have HCC1:=aA hcc;have HB5:=aA (aC HB4.out (Nat.le_refl _) hb5);obtain⟨A10,C10,q0,z0⟩:=t0;obtain⟨A11,C11,q1,z1⟩:=t1;obtain⟨A12,C12,q2,z2⟩:=t2;simp only[aJ] at he;subst he;clear hvl hcc han hB hK hb5 RN)
 obtain⟨wT,hwT⟩:∃wT,wT=w5.alloc (.cells #[.slice A1 m.ss.length C1,.slice A10 q0.length C10,.int .i64 z0,.slice A11 q1.length C11,.int .i64 z1,.slice A12 q2.length C12,.int .i64 z2,.int .i64 m.f] 35):=⟨_,rfl⟩;have h5T:Below w5.heap.size w5 wT:=by rw[hwT];exact(Below.refl _ _).alloc (Nat.le_refl _) _
 rw[<-hwT];have HAT:=HA1.out.up h5T;have HBT:=aA (aC HB5.out (Nat.le_refl _) h5T);have hcc:=HCC1.out;obtain⟨ab,ao,hAA,hbl,-⟩:=HAT.row.av8 (k:=0) (by have:=HV1.out;omega)
 subst hAA;have HAN:=aA HAT;have hto:=HTO.out;rw[HS.out] at hto;obtain⟨hT,hl1,hl2⟩:=hto
 have HQ:Hid (∀q,na+1<=q->q<na+4->∃R,(Y0++[⟨0,zro,[]⟩,⟨0,zro,eP m 1⟩,⟨0,zro,eP m 60⟩,⟨0,zro,eP m 3600⟩,⟨0,S,[]⟩])[q]? =some ⟨0,zro,R⟩/\tot R=(S,0)):=fun q g1 g2=>by
  rcases(show q=na+1\/q=na+2\/q=na+3 by omega) with rfl|rfl|rfl
  ·exact⟨eP m 1,by rw[List.getElem?_append_right (by have:=HY0.out;omega),HY0.out];simp,hT 1 (.inl rfl)⟩
  ·exact⟨eP m 60,by rw[List.getElem?_append_right (by have:=HY0.out;omega),HY0.out];simp,hT 60 (.inr (.inl rfl))⟩
  ·exact⟨eP m 3600,by rw[List.getElem?_append_right (by have:=HY0.out;omega),HY0.out];simp,hT 3600 (.inr (.inr rfl))⟩
 have e4:((na:Int)+4).toNat=na+4:=by omega
 have KL:Hid (∀W,Below wT.heap.size wT W->W.cell? ⟨ab,ao+((na:Int)+4).toNat*8+1,none⟩=some (.int .i64 S.c)/\W.cell? ⟨ab,ao+((na:Int)+4).toNat*8+2,none⟩=some (.int .i64 S.s)/\W.cell? ⟨ab,ao+((na:Int)+4).toNat*8+3,none⟩=some (.int .i64 S.lo)/\W.cell? ⟨ab,ao+((na:Int)+4).toNat*8+4,none⟩=some (.int .i64 S.hi)/\W.cell? ⟨ab,ao+((na:Int)+4).toNat*8+5,none⟩=some (.int .i64 S.t)/\W.cell? ⟨ab,ao+((na:Int)+4).toNat*8+6,none⟩=some (.int .i64 S.l)):=fun W hW=>by
  have h:=q5e (HAN.out.up hW) (k:=na+4) (y:=⟨0,S,[]⟩) (by rw[List.getElem?_append_right (by have:=HY0.out;omega),HY0.out];simp)
  rw[e4];exact h.2
 have kx:IntKind.i64.wrap ((na:Int)+5-4)=(na:Int)+1:=by rw[IntKind.wrap_i64];omega
 have ky:IntKind.i64.wrap ((na:Int)+1+3)=(na:Int)+4:=by rw[IntKind.wrap_i64];omega
 have k1':IntKind.i64.wrap ((na:Int)+1+1)=(na:Int)+2:=by rw[IntKind.wrap_i64];omega
 have k2':IntKind.i64.wrap ((na:Int)+1+2)=(na:Int)+3:=by rw[IntKind.wrap_i64];omega
 have HLE:=aA (And.intro hl1 hl2);clear hwT h5T HAT HA1 HB5 HB4 HR4 HTO hT hl1 hl2 e4 HOK HM HMO;go_wp2_with fail
 go_loopw [11] (fun vi wr=>∃(q:Nat),na+1<=q/\q<=na+4/\vi=.int .i64 (q:Int)/\Below wT.heap.size wT wr) (fun vi _=>na+4-(intOf vi).toNat)
 case atStart=>exact⟨na+1,Nat.le_refl _,by omega,by go_num,Below.refl _ _⟩
 case round=>
  obtain⟨q,hq1,hq2,rfl,hbl1⟩:=hrel;have hge1:=hbl1.size
  by_cases hlt:q<na+4
  ·obtain⟨R,hR,hTR⟩:=HQ.out q hq1 hlt;have HTR:=aA hTR;obtain⟨RA,RC,r7,hRl,hRow⟩:=xZ (HAN.out.up hbl1) hR;obtain⟨r0,-⟩:=q5e (HAN.out.up hbl1) hR;simp only at r7 r0 hRl hRow;have HRow:=aA hRow;have HR:=aA hR;have HBL1:=aA hbl1;obtain⟨wI,hwI⟩:∃wI,wI=wr:=⟨_,rfl⟩;subst hwI;have lab:ab<wI.heap.size:=by omega
   have g0:(0:Int)<=(q:Int):=by omega
   have g1:(q:Int)<(na:Int)+5:=by omega
   have g2:(q:Int)<(na:Int)+4:=by omega
   clear hTR hRow hR hbl1;go_upto_region 11 with fail;obtain⟨wb,hwb⟩:∃wb,wb=wI.alloc (.cells #[.int .i64 0,.int .i64 0,.int .i64 0,.int .i64 0,.int .i64 0,.int .i64 0] 42):=⟨_,rfl⟩;have HBB:Hid (Below wI.heap.size wI wb):=by show Below _ _ _;rw[hwb];exact(Below.refl _ _).alloc (Nat.le_refl _) _
   have RB:Hid (RowL wb wI.heap.size 42 [.int .i64 0,.int .i64 0,.int .i64 0,.int .i64 0,.int .i64 0,.int .i64 0]):=by show RowL _ _ _ _;rw[hwb];exact aG wI _ _
   rw[<-hwb];have b7:wb.cell? ⟨ab,ao+q*8+7,none⟩=some (.slice RA R.length RC):=(HBB.out.cell (p:=⟨ab,ao+q*8+7,none⟩) lab).trans r7;have lab':ab<wb.heap.size:=Nat.lt_of_lt_of_le lab HBB.out.size;obtain⟨bx,hbx⟩:∃bx,bx=wI.heap.size:=⟨_,rfl⟩;have HBX:=aA hbx;rw[<-hbx] at RB ⊢;clear hwb hbx;go_wp2_with fail
   go_loopw [57] (fun vi wr=>∃(j:Nat),j<=R.length/\vi=.int .i64 (j:Int)/\Below wI.heap.size wI wr/\RowL wr bx 42 (ruB (tot (R.take j)).1)) (fun vi _=>R.length-(intOf vi).toNat)
   case atStart=>exact⟨0,Nat.zero_le _,rfl,HBB.out,RB.out⟩
   case round=>
    obtain⟨j,hj,rfl,hbl2,hrb2⟩:=hrel;have hge2:=hbl2.size
    by_cases hlt2:j<R.length
    ·obtain⟨b,o,rfl,hbb,hcc2⟩:=(HRow.out.below hbl2 (Nat.le_refl _)).en hlt2;have hst:=qkg HTR.out hlt2;obtain⟨S3,hS3⟩:∃S3,(tot (R.take j)).1=S3:=⟨_,rfl⟩;obtain⟨S4,hS4⟩:∃S4,(tot (R.take (j+1))).1=S4:=⟨_,rfl⟩;rw[hS3] at hst hrb2;rw[hS4] at hst;have HS4:=aA hS4;clear hS3 hS4;generalize R[j]=x at *;obtain⟨xk,xc,xs',xlo,xhi,xt,xl'⟩:=x;obtain⟨c0,c1,c2,c3,c4,c5,c6⟩:=hcc2;simp only at c0 c1 c2 c3 c4 c5 c6;have MG:=aA fun W=>oG S3 (En.ru ⟨xk,xc,xs',xlo,xhi,xt,xl'⟩) W
     simp only[hst] at MG;simp only[En.ru] at MG;have HBL2:=aA hbl2;have HRB2:Hid (RowL wr bx 42 [.int .i64 S3.c,.int .i64 S3.s,.int .i64 S3.lo,.int .i64 S3.hi,.int .i64 S3.t,.int .i64 S3.l]):=hrb2;have lbr2:b<wr.heap.size:=by omega
     have lab2:ab<wr.heap.size:=by omega
     have j0:(0:Int)<=(j:Int):=by omega
     have j1:(j:Int)<(R.length:Int):=by omega
     clear hbl2 hrb2 hst;go_upto_region 14 with fail;obtain⟨wA,hwA⟩:∃wA,wA=wr.alloc (.cells #[.int .i64 xk,.int .i64 xc,.int .i64 xs',.int .i64 xlo,.int .i64 xhi,.int .i64 xt,.int .i64 xl'] 55):=⟨_,rfl⟩;have HA6:Below wr.heap.size wr wA:=by rw[hwA];exact(Below.refl _ _).alloc (Nat.le_refl _) _
     have RX:RowL wA bx 42 [.int .i64 S3.c,.int .i64 S3.s,.int .i64 S3.lo,.int .i64 S3.hi,.int .i64 S3.t,.int .i64 S3.l]:=RowL.below HRB2.out HA6 HRB2.out.lt;have RY:RowL wA wr.heap.size 55 [.int .i64 xk,.int .i64 xc,.int .i64 xs',.int .i64 xlo,.int .i64 xhi,.int .i64 xt,.int .i64 xl']:=by rw[hwA];exact aG wr _ _
     rw[<-hwA];have x0:=fun j=>RX.cell j
     have y0:=fun j=>RY.cell j
     clear hwA;go_upto_region 15 with(go_at_call 15;refine(MG.out _).mono ?_;rintro e w8 ⟨rfl,hb8⟩;have HB8:=aA (aC HA6 (Nat.le_refl _) hb8);have RX8:=RX.below hb8 RX.lt;clear hb8 MG);obtain⟨wc,hwc⟩:∃wc,wc=w8.alloc (.cells #[.int .i64 S4.c,.int .i64 S4.s,.int .i64 S4.lo,.int .i64 S4.hi,.int .i64 S4.t,.int .i64 S4.l] 42):=⟨_,rfl⟩;have HC8:Below wr.heap.size wr wc:=by rw[hwc];exact aC HB8.out (Nat.le_refl _) ((Below.refl _ _).alloc (Nat.le_refl _) _)
     have RXC:RowL wc bx 42 [.int .i64 S3.c,.int .i64 S3.s,.int .i64 S3.lo,.int .i64 S3.hi,.int .i64 S3.t,.int .i64 S3.l]:=by rw[hwc];exact wM RX8 _
     have RZ:RowL wc w8.heap.size 42 [.int .i64 S4.c,.int .i64 S4.s,.int .i64 S4.lo,.int .i64 S4.hi,.int .i64 S4.t,.int .i64 S4.l]:=by rw[hwc];exact aG w8 _ _
     rw[<-hwc];have nbx:bx≠w8.heap.size:=Nat.ne_of_lt RX8.lt;have nby:w8.heap.size≠bx:=Nat.ne_of_gt RX8.lt;have hbxx:wI.heap.size<=bx:=Nat.le_of_eq HBX.out.symm;obtain⟨zb,hzb⟩:∃zb,zb=w8.heap.size:=⟨_,rfl⟩;rw[<-hzb] at RZ nbx nby ⊢;clear hwc hzb x0 y0 RX RY RX8 HA6 HB8;have x1:=fun j=>RXC.cell j
     have xf:=fun j=>RXC.frozen j
     have xl:=RXC.lt;have z1:=fun j=>RZ.cell j
     have zl:=RZ.lt;go_wp2_with fail;go_roundw
     case rel=>
      go_light;exact⟨j+1,hlt2,by go_num,oI (aC HBL2.out (Nat.le_refl _) HC8) hbxx _ _ _ _ _ _,by rw[HS4.out];exact oN RXC _ _ _ _ _ _⟩
     case measure=>simp[intOf];omega
    ·have hjj:j=R.length:=by omega
     have htj:R.take j=R:=by rw[hjj];exact List.take_length
     rw[htj,HTR.out] at hrb2;have RX:RowL wr bx 42 [.int .i64 S.c,.int .i64 S.s,.int .i64 S.lo,.int .i64 S.hi,.int .i64 S.t,.int .i64 S.l]:=hrb2;have HW2:=aC HBL1.out (Nat.le_refl _) hbl2;obtain⟨l1,l2,l3,l4,l5,l6⟩:=KL.out wr HW2;obtain⟨c0,-⟩:=q5e (HAN.out.up HW2) HR.out;simp only at c0;have x0:wr.cell? ⟨bx,0,none⟩=some (.int .i64 S.c):=RX.cell 0;have x1:wr.cell? ⟨bx,1,none⟩=some (.int .i64 S.s):=RX.cell 1;have x2:wr.cell? ⟨bx,2,none⟩=some (.int .i64 S.lo):=RX.cell 2;have x3:wr.cell? ⟨bx,3,none⟩=some (.int .i64 S.hi):=RX.cell 3;have x4:wr.cell? ⟨bx,4,none⟩=some (.int .i64 S.t):=RX.cell 4;have x5:wr.cell? ⟨bx,5,none⟩=some (.int .i64 S.l):=RX.cell 5;have o1:(0:Int)<=(na:Int)+4:=by omega
     have o2:(na:Int)+4<(na:Int)+5:=by omega
     have HW2:=aA HW2;have j1:¬((j:Int)<(R.length:Int)):=by omega
     clear hrb2 RX hbl2 htj hjj hlt2 hj;go_wp2_with fail
     go_region_held3 (fun w'=>w'.cell? ⟨ab,ao+q*8,none⟩=some (.int .i64 0)/\w'.cell? ⟨ab,ao+((na:Int)+4).toNat*8+1,none⟩=some (.int .i64 S.c)/\w'.cell? ⟨ab,ao+((na:Int)+4).toNat*8+2,none⟩=some (.int .i64 S.s)/\w'.cell? ⟨ab,ao+((na:Int)+4).toNat*8+3,none⟩=some (.int .i64 S.lo)/\w'.cell? ⟨ab,ao+((na:Int)+4).toNat*8+4,none⟩=some (.int .i64 S.hi)/\w'.cell? ⟨ab,ao+((na:Int)+4).toNat*8+5,none⟩=some (.int .i64 S.t)/\w'.cell? ⟨ab,ao+((na:Int)+4).toNat*8+6,none⟩=some (.int .i64 S.l)/\w'.cell? ⟨bx,0,none⟩=some (.int .i64 S.c)/\w'.cell? ⟨bx,1,none⟩=some (.int .i64 S.s)/\w'.cell? ⟨bx,2,none⟩=some (.int .i64 S.lo)/\w'.cell? ⟨bx,3,none⟩=some (.int .i64 S.hi)/\w'.cell? ⟨bx,4,none⟩=some (.int .i64 S.t)/\w'.cell? ⟨bx,5,none⟩=some (.int .i64 S.l)) (go_keep) (fail)
     go_wp2_with fail;go_roundw
     case rel=>
      go_light;exact⟨q+1,by omega,by omega,by go_num,HW2.out.drew⟩
     case measure=>simp[intOf];omega
  ·have hqq:q=na+4:=by omega
   obtain⟨G1,D1,r1,-,-⟩:=xZ (HAN.out.up hbl1) (k:=na+1) (y:=⟨0,zro,eP m 1⟩) (by rw[List.getElem?_append_right (by have:=HY0.out;omega),HY0.out];simp)
   obtain⟨G2,D2,r2,-,-⟩:=xZ (HAN.out.up hbl1) (k:=na+2) (y:=⟨0,zro,eP m 60⟩) (by rw[List.getElem?_append_right (by have:=HY0.out;omega),HY0.out];simp)
   obtain⟨G3,D3,r3,-,-⟩:=xZ (HAN.out.up hbl1) (k:=na+3) (y:=⟨0,zro,eP m 3600⟩) (by rw[List.getElem?_append_right (by have:=HY0.out;omega),HY0.out];simp)
   rw[show na+2=((na:Int)+2).toNat by omega] at r2
   rw[show na+3=((na:Int)+3).toNat by omega] at r3
   simp only at r1 r2 r3;obtain⟨h1,h2⟩:=HLE.out;obtain⟨n1,hn1⟩:∃n1,(eP m 1).length=n1:=⟨_,rfl⟩;obtain⟨n2,hn2⟩:∃n2,(eP m 60).length=n2:=⟨_,rfl⟩;obtain⟨n3,hn3⟩:∃n3,(eP m 3600).length=n3:=⟨_,rfl⟩;rw[hn1] at r1 h1;rw[hn2] at r2 h1 h2;rw[hn3] at r3 h2;have i1:(n2:Int)<=(n1:Int):=by omega
   have i2:(n3:Int)<=(n2:Int):=by omega
   have o1:(0:Int)<=(na:Int)+1:=by omega
   have o2:(na:Int)+1<(na:Int)+5:=by omega
   have o3:(0:Int)<=(na:Int)+2:=by omega
   have o4:(na:Int)+2<(na:Int)+5:=by omega
   have o5:(0:Int)<=(na:Int)+3:=by omega
   have o6:(na:Int)+3<(na:Int)+5:=by omega
   have HW2:=aA (aC HBT.out (Nat.le_refl _) hbl1);subst hqq;clear hn1 hn2 hn3 h1 h2 hbl1 KL HQ HAN;go_upto_region 21 with fail
   go_region_held3 (fun w'=>w'.cell? ⟨ab,ao+(na+1)*8+7,none⟩=some (.slice G1 n1 D1)/\w'.cell? ⟨ab,ao+((na:Int)+2).toNat*8+7,none⟩=some (.slice G2 n2 D2)/\w'.cell? ⟨ab,ao+((na:Int)+3).toNat*8+7,none⟩=some (.slice G3 n3 D3)) (go_keep) (fail)
   go_wp2_with fail;go_ret;exact⟨rfl,HW2.out.drew⟩

set_option maxRecDepth 100000 in
theorem q0h(os:Os)(started:os.Started)(H:Type)(enc:TypeId × Value->H):
  ReturnsInHanded {} Tryz.checked os 5 .any (fun w args=>(Rows.topBucketsSpec.pre enc Tryz.prog Tryz.f5 [] false w args/\laidMetH Tryz.prog rO w)/\sizedMet enc Tryz.prog Tryz.f5 (OpenSpec.ofChange Rows.topBucketsSpec) false w args)
   (Rows.topBucketsSpec.post enc Tryz.prog Tryz.f5 false true false false):=by
 refine returnsInHanded_of_change_and (C:=Tryz.checked) (X:=fun w _=>laidMetH Tryz.prog rO w) (fun _ _ _ hh h=>h.of_heap hh) own started (by kernel_rfl) Tryz.func5
  (ChangeSpec.witness_at (enc:=enc) (C:=Tryz.checked) (os:=os) (X:=fun w _=>laidMetH Tryz.prog rO w) false (World.laidAll Tryz.prog os rO) #[.slice none 0 0,.int .i64 0] 8 (World.laidAll_os _ _ _) (by kernel_rfl) (by kernel_rfl) (by kernel_rfl) (by kernel_rfl) (by kernel_rfl)
   (by rw[MakeChecks.laidMetH_plain _ _ _ (by kernel_rfl)];exact laidMet_laidAll _ (by kernel_rfl) (by kernel_rfl))) ?_
 intro W base args ds gs before hval0 hW _ hsz0 hL _;have hval:∀(j:Nat) t v,Tryz.f5.params[j]? =some t->args[j]? =some v->Value.okWide Tryz.prog W .any base t v:=hval0;have hW':=hW;obtain⟨p,q,hA0,hV,rfl,hfz,hnd⟩:=hW;have hA:DataW.TrodAll enc Tryz.prog W 0 (fun _=>true) true Tryz.f5.params.toList args.toList ds p:=hA0
 have hsz:(DataW.weightsEach Tryz.prog (Tryz.f5.params.toList++Rows.topBucketsSpec.plain.varTypes Tryz.prog) (ds++gs)).all (·<=reachBytes)=true:=hsz0;rw[Tryz.params5] at hA hval hsz;obtain⟨v0,vs0,d0,ds0,p0,q0,hargs,rfl,rfl,h0,r0⟩:=trodAll_cons hA;obtain⟨v1,vs1,d1,ds1,p1,q1,rfl,rfl,rfl,h1,r1⟩:=trodAll_cons r0;obtain⟨rfl,rfl,rfl⟩:=trodAll_nil r1;obtain rfl:args=#[v0,v1]:=by cases args;simp_all
 obtain⟨rfl,rfl⟩:=trodVars_none hV;have k0:=h0;have lt0:∀x∈p0,x.block<W.heap.size:=by obtain⟨m,hm⟩:=k0;exact DataW.trod_lt m _ _ _ hm
 obtain⟨A0,C0,xs0,rfl,hR0,hz0,hw0⟩:=q7l (hval 0 22 v0 rfl rfl) h0 (fun n hn=>by
  have:=List.all_eq_true.1 hsz n (DataW.weights_mem_each (j:=0) (t:=22) rfl rfl n hn);exact of_decide_eq_true this)
 have k1:=h1;have lt1:∀x∈p1,x.block<W.heap.size:=by obtain⟨m,hm⟩:=k1;exact DataW.trod_lt m _ _ _ hm
 obtain⟨a1,rfl,w1⟩:∃n:Int,v1=.int .i64 n/\(Lit.int .i64 n).wf=true:=by
  obtain⟨n,h,_,_,w⟩:=open_int Tryz.underlying3 (hval 1 3 v1 rfl rfl) h1;exact⟨n,h,w⟩
 clear hA0 hval0 hsz0;refine(q2h A0 C0 xs0 a1 W (qml hL) hR0 hz0 hw0 w1).mono fun e W' ⟨he,bel⟩=>?_
 subst he;exact⟨_,rfl,_,_,_,[],_,[],hW',trodAll_mk1 (shut_bool Tryz.underlying4 _),(trodAll_cons_mk (Below.trod qhz (by kernel_rfl) (of_decide_eq_true (by kernel_rfl)) k0 bel lt0) (trodAll_cons_mk (Below.trod qhz (by kernel_rfl) (of_decide_eq_true (by kernel_rfl)) k1 bel lt1) trodAll_mk0)),rfl,bel.frame _,fun h=>by cases h⟩

theorem q1c:Rows.TopBucketsSaid:=
 OpenClaim.holds_of_wide 5 Tryz.f5 rfl rfl rfl rfl rfl rfl rfl ⟨rfl,rfl,rfl,rfl,rfl⟩ rfl rfl rfl rfl rfl (by kernel_rfl) Tryz.func5 (by kernel_rfl)
  (of_decide_eq_true (by kernel_rfl)) (by unfold Func.isWrapper;first|(rw[if_pos (by decide+kernel)];kernel_rfl)|(rw[if_neg (by decide+kernel)];exact⟨rfl,rfl⟩))
  (fun os started H enc _=>q0h os started H enc)

theorem topBucketsCard_holds:Rows.TopBucketsCardSaid:=
 Claim7.holds_tied_plain_at .later [] [.data] true (true, "0657e646ef2f390bec603b8aca188c56945d5f7249e5dbb24548ab29f89e546d") false q1c (fun _ h => by cases h) (by kernel_rfl) (fun _ h => by cases h) topBuckets_row_tie rfl ⟨rfl, rfl⟩ (by kernel_rfl) rfl
  (fun f fn hf hfn=>by
   obtain rfl : f = 5 := Option.some.inj ((show Tryz.prog.funcNamed "winnower/winnowertop.TopBuckets" = some 5 by kernel_rfl).symm.trans hf) |>.symm
   obtain rfl:fn=Tryz.f5:=(Option.some.inj (Tryz.func5.symm.trans hfn)).symm
   exact⟨by kernel_rfl,fun j t ht=>by
    rw[Tryz.params5] at ht;have hm:t∈[22,3]:=by simpa using Array.mem_of_getElem? ht
    have hall:([22,3].all fun u=>!Tryz.prog.wantsStandIn u)=true:=by kernel_rfl
    exact(show Tryz.prog.wantsStandIn t=false by simpa using List.all_eq_true.1 hall t hm)⟩)
  (by kernel_rfl)
#print axioms topBucketsCard_holds
end Go.Proofs.YtlojfgdpmaigmagGreatDoor

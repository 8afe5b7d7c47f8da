/- For every list of raw things and every number: a script that is longer begins as a shorter one does, twice the same script answers the same, and one that is too long is refused. No condition beside the table of sizes, which is tied to the program's text. -/
import Derived.Test.YtlojfgdpmaigmahGreatDoorP54
import Derived.Test.YtlojfgdpmaigmahGreatDoorActsWalk
import Derived.Test.YtlojfgdpmaigmahGreatDoorP50
import Derived.Test.YtlojfgdpmaigmahGreatDoorLaidSz
import Derived.ChangeMaps5
namespace Go.Proofs.YtlojfgdpmaigmahGreatDoor
open Go.ChangeShapes Go.WideShapes Go.ChangeAt Go.RowKit Plain Go.Shelf

theorem qrh(l:List Ac)(m s:Mc)(k:Nat)(hk:k<=l.length):(runM m s (l.take k)).2.2=(runM m s l).2.2.take k:=by
 have h:=q9w (l.take k) (l.drop k) m s
 rw[List.take_append_drop] at h
 rw[h]
 exact(List.take_left' (by rw[qhd,List.length_take];omega)).symm

theorem q0i.pre{B:Nat}{w:World}{A:Option Addr}{vs us:List Value}(h:q0i B w A (vs++us)):q0i B w A vs:=by
 rcases h with e|⟨b,o,hA,hlt,hc⟩
 ·exact .inl (List.append_eq_nil_iff.1 e).1
 ·exact .inr ⟨b,o,hA,hlt,fun j u hu=>hc j u (by rw[List.getElem?_append_left (List.getElem?_eq_some_iff.1 hu).1];exact hu)⟩

theorem q0i.takeC{B:Nat}{w:World}{A:Option Addr}{l:List Ac}(h:q0i B w A (q1f l))(k:Nat):q0i B w A (q1f (l.take k)):=by
 rw[<-List.take_append_drop k l,q5v] at h
 exact h.pre

theorem qad.take{w:World}{A:Option Addr}{vs:List AnV}{ys:List An}(h:qad w A vs ys)(k:Nat):qad w A (vs.take k) (ys.take k):=by
 refine⟨?_,fun v hv=>h.each v (List.mem_of_mem_take hv),by rw[List.map_take,h.eq]⟩
 have hr:=h.row
 rw[<-List.take_append_drop k vs,q9r] at hr
 exact hr.pre

theorem qie(xs:List Rw)(n:Nat):∀a∈(xs.take n).map q6m,a.s.size<=140737488351232:=fun a ha=>by
 obtain⟨x,_,rfl⟩:=List.mem_map.1 ha
 have:=(qgl x).sz
 omega

theorem qgu(xs:List Rw)(n:Nat):((xs.take n).map q6m).length<=n:=by
 rw[List.length_map,List.length_take]
 omega

theorem qe1(n many:Int)(w:World)(h1: -9223372036854775808<=n)(h2:n<=9223372036854775807)(h3:0<many)(h4:many<=1000000):
  Calls Tryz.prog 10 #[.int .i64 n,.int .i64 many] w fun e w'=>e=.returned (.int .i64 (pick n many))/\w'=w:=by
 have con:=q0a (q6o n many w h1 h2 h3 h4)
 clear h1 h2 h3 h4
 go_enter Tryz.func10,Tryz.ntmps10
 go_wp2_with (go_at_call 14;refine con.out.mono ?_;rintro e w2 ⟨rfl,hw2⟩;subst hw2)
 go_ret
 exact⟨rfl,rfl⟩

def z1x(n:Nat):Array Value:=madeCells #[.int .i64 0,.string ByteArray.empty,.int .i64 0,.int .i64 0,.int .i64 0,.int .i64 0] (n*6)

theorem qro(n:Nat)(hn:n<=1000)(w:World):
  (Instr.makeSlice 31 (.int .i64 (n:Int)) (.int .i64 (n:Int))).run Tryz.prog w=.ok (.slice (some ⟨w.heap.size,0,none⟩) n n) (w.alloc (.cells (z1x n) 26)):=by
 obtain⟨i0,hi,hz0,hz1,hz2⟩:=info_parts qnh
 have hr:=run_make (P:=Tryz.prog) w 31 26 i0 _ Tryz.underlying31 hi hz0 .i64 .i64 n n (by omega) (Int.le_refl _) (by rw[hz2];omega) (by omega)
 simp only[Int.toNat_natCast,hz1] at hr
 exact hr

set_option maxRecDepth 20000 in
set_option maxHeartbeats 1000000 in
theorem qvu(A:Option Addr)(C n:Nat)(w:World)(hn:500<n)(hz:n<=1000):
  Calls Tryz.prog 11 #[.slice A n C] w fun e w'=>e=.returned (.tuple #[.slice none 0 0,.agg #[.slice none 0 0,.slice none 0 0,.int .i64 0,.slice none 0 0,.int .i64 0,.slice none 0 0,.int .i64 0,.int .i64 0],.int .i64 1])/\Below w.heap.size w w':=by
 have con:=q0a fun W=>z0w A C n W hn (by omega)
 have RZ:=q0b w zb8 46
 simp only[zb8] at RZ
 have BZ:Hid (∀o:Obj,Below w.heap.size w (w.alloc o)):=fun o=>(Below.refl _ _).alloc (Nat.le_refl _) o
 clear hn hz
 go_enter Tryz.func11,Tryz.ntmps11
 go_upto_region 2 with(go_at_call 16;refine(con.out _).mono ?_;rintro e w1 ⟨he,hb⟩;have R1:=RZ.below hb (by simp);have r1:=fun j=>R1.cell j;have e1:=fun j=>R1.frozen j;have g1:=R1.lt;have HW:=q0a hb;clear hb con;subst he)
 go_upto_region 4 with fail
 obtain⟨wA,hwA⟩:∃wA,wA=w1.alloc (.cells #[.slice none 0 0,.slice none 0 0,.int .i64 0,.slice none 0 0,.int .i64 0,.slice none 0 0,.int .i64 0,.int .i64 0] 46):=⟨_,rfl⟩
 have XA:RowL wA w1.heap.size 46 [.slice none 0 0,.slice none 0 0,.int .i64 0,.slice none 0 0,.int .i64 0,.slice none 0 0,.int .i64 0,.int .i64 0]:=by rw[hwA];exact q0b w1 _ _
 have RA:RowL wA w.heap.size 46 [.slice none 0 0,.slice none 0 0,.int .i64 0,.slice none 0 0,.int .i64 0,.slice none 0 0,.int .i64 0,.int .i64 0]:=by rw[hwA];exact R1.of_block (Below.heap_alloc _ _ _ g1)
 have H1A:Below w1.heap.size w1 wA:=by rw[hwA];exact(Below.refl _ _).alloc (Nat.le_refl _) _
 rw[<-hwA]
 have HWA:=q0a (q0e (q0e (BZ.out _) (Nat.le_refl _) HW.out) (Nat.le_refl _) H1A)
 clear HW R1 RZ r1 e1 hwA H1A BZ
 obtain⟨bb,hbb⟩:∃bb,bb=w1.heap.size:=⟨_,rfl⟩
 obtain⟨rb,hrb'⟩:∃rb,rb=w.heap.size:=⟨_,rfl⟩
 have hne1:¬rb=bb:=by omega
 have hne2:¬bb=rb:=by omega
 have HRB:=q0a hrb'
 rw[<-hbb] at XA ⊢
 rw[<-hrb'] at RA ⊢
 clear hbb hrb' g1
 have xa:=fun j=>XA.cell j
 have xl:=XA.lt
 have ra:=fun j=>RA.cell j
 have rf:=fun j=>RA.frozen j
 have rl:=RA.lt
 go_region
 all_goals go_wp2_with fail
 refine bodyPost_ret (v:=.tuple #[.slice none 0 0,.agg #[.slice none 0 0,.slice none 0 0,.int .i64 0,.slice none 0 0,.int .i64 0,.slice none 0 0,.int .i64 0,.int .i64 0],.int .i64 1]) (by simp[results,Tryz.results11,go_sem,ra]) rfl ?_
 have hRB:=HRB.out
 subst hRB
 refine⟨rfl,?_⟩
 exact(q9h HWA.out (Nat.le_refl w.heap.size) _ _ _ _ _ _ _ _).drew

set_option maxRecDepth 20000 in
set_option maxHeartbeats 4000000 in
theorem qh4(A:Option Addr)(C:Nat)(xs:List Rw)(n:Int)(w:World)(hZ:SzAt w)(hA:q0i w.heap.size w A (qcu xs))(_:xs.length*32<=140737488351232)(hwf:∀x∈xs,x.wf)(hn:(Lit.int .i64 n).wf=true):
  Calls Tryz.prog 4 #[.slice A xs.length C,.int .i64 n] w fun e w'=>e=.returned (.bool true)/\Below w.heap.size w w':=by
 obtain⟨hn1,hn2⟩: -9223372036854775808<=n/\n<=9223372036854775807:=qaq hn
 have AC:=q0a (qmx A C xs 50 w hA hwf (by decide) (by decide))
 have hok:=qie xs (50:Int).toNat
 have hlen:=qgu xs (50:Int).toNat
 obtain⟨acs,has⟩:∃acs,(xs.take (50:Int).toNat).map q6m=acs:=⟨_,rfl⟩
 rw[has] at AC hok hlen
 have hlen:acs.length<=50:=hlen
 have HZ:=q0a hZ
 have HOK:=q0a hok
 obtain⟨hp1,hp2⟩:=q3u n (many:=(acs.length:Int)+1) (by omega)
 obtain⟨hq1,hq2⟩:=q3u n (many:=9) (by omega)
 have PK:=q0a fun W=>qe1 n ((acs.length:Int)+1) W hn1 hn2 (by omega) (by omega)
 have PK9:=q0a fun W=>qe1 n 9 W hn1 hn2 (by omega) (by omega)
 obtain⟨k,hk⟩:∃k:Nat,pick n ((acs.length:Int)+1)=(k:Int):=⟨(pick n ((acs.length:Int)+1)).toNat,by omega⟩
 obtain⟨q,hq⟩:∃q:Nat,pick n 9=(q:Int):=⟨(pick n 9).toNat,by omega⟩
 rw[hk] at PK hp1 hp2
 rw[hq] at PK9 hq1 hq2
 have hkl:k<=acs.length:=by omega
 have hq9:q<9:=by omega
 obtain⟨M,S,Y,hM⟩:∃M S Y,runM mc0 mc0 acs=(M,S,Y):=⟨_,_,_,rfl⟩
 obtain⟨M2,S2,Y2,hM2⟩:∃M S Y,runM mc0 mc0 (acs.take k)=(M,S,Y):=⟨_,_,_,rfl⟩
 have hY:Y2=Y.take k:=by
  have h:=qrh acs mc0 mc0 k hkl
  rw[hM,hM2] at h
  exact h
 subst hY
 have hlk:(acs.take k).length=k:=by rw[List.length_take];omega
 have HM:=q0a hM
 have HM2:=q0a hM2
 have HLK:=q0a hlk
 have HOK2:=q0a (show ∀a∈acs.take k,a.s.size<=140737488351232 from fun a ha=>hok a (List.mem_of_mem_take ha))
 obtain⟨l,hl⟩:∃l,acs.length=l:=⟨_,rfl⟩
 have HL:=q0a hl
 rw[hl] at AC PK hlen hkl
 clear hZ hok has hA hwf hM hM2 hlk hn hn1 hn2 hk hq hp1 hp2 hq1 hq2 hl
 go_enter Tryz.func4,Tryz.ntmps4
 go_upto_region 2 with(go_at_call 7;refine AC.out.mono ?_;rintro e w1 ⟨v,rfl,hown,hb1⟩;obtain⟨VA,VC,hv,hnn,hlc,-,hrow⟩:=q0g hown;subst hv;have HR1:=q0a hrow;have HB1:=q0a hb1;clear hrow hb1 hnn hown AC)
 go_upto_region 3 with(go_at_call 10;refine(PK.out _).mono ?_;rintro e w2 ⟨rfl,hw2⟩;have hw2:=hw2.symm;subst hw2;clear PK)
 have RN1:=q0a (qn8 (LA:=VA) (LC:=VC) HM.out HL.out (HZ.out.below HB1.out) HR1.out HOK.out (by omega))
 go_upto_region 4 with(go_at_call 11;refine RN1.out.mono ?_;rintro e w3 ⟨vs1,AA1,CC1,A1,C1,t0,t1,t2,he,hvl,hcc,han,hB,hK,hb,-⟩;have HV1:=q0a hvl;have HA1:=q0a han;have HCC1:=q0a hcc;have HS1:=q0a hb;obtain⟨P1,D1,q1,z1⟩:=t0;obtain⟨R1,E1,x1,y1⟩:=t1;obtain⟨S1',F1,u1,v1⟩:=t2;simp only[q0l] at he;subst he;clear hvl hcc han hB hK hb RN1)
 obtain⟨wa,hwa⟩:∃wa,wa=w3.alloc (.cells #[.slice A1 M.ss.length C1,.slice P1 q1.length D1,.int .i64 z1,.slice R1 x1.length E1,.int .i64 y1,.slice S1' u1.length F1,.int .i64 v1,.int .i64 M.f] 46):=⟨_,rfl⟩
 have hT1:Below w3.heap.size w3 wa:=by rw[hwa];exact(Below.refl _ _).alloc (Nat.le_refl _) _
 rw[<-hwa]
 have HT1:=q0a (q0e HS1.out (Nat.le_refl _) hT1)
 have HU1:=q0a (HA1.out.up hT1)
 clear hwa hT1 HA1 HS1
 have RN2:=q0a (qn8 (LA:=VA) (LC:=VC) HM2.out HLK.out (HZ.out.below (q0e HB1.out (Nat.le_refl _) HT1.out)) ((HR1.out.up HT1.out).takeC k) HOK2.out (by omega))
 have p0:(0:Int)<=(k:Int):=by omega
 have p1:(k:Int)<=(VC:Int):=by omega
 go_upto_region 5 with(go_at_call 11;refine RN2.out.mono ?_;rintro e w4 ⟨vs2,AA2,CC2,A2,C2,t0,t1,t2,he,hvl,hcc,han,hB,hK,hb,-⟩;have HV2:=q0a hvl;have HA2:=q0a han;have HCC2:=q0a hcc;have HS2:=q0a hb;obtain⟨P2,D2,q2,z2⟩:=t0;obtain⟨R2,E2,x2,y2⟩:=t1;obtain⟨S2',F2,u2,v2⟩:=t2;simp only[q0l] at he;subst he;clear hvl hcc han hB hK hb RN2)
 obtain⟨wb,hwb⟩:∃wb,wb=w4.alloc (.cells #[.slice A2 M2.ss.length C2,.slice P2 q2.length D2,.int .i64 z2,.slice R2 x2.length E2,.int .i64 y2,.slice S2' u2.length F2,.int .i64 v2,.int .i64 M2.f] 46):=⟨_,rfl⟩
 have hT2:Below w4.heap.size w4 wb:=by rw[hwb];exact(Below.refl _ _).alloc (Nat.le_refl _) _
 rw[<-hwb]
 have HT2:=q0a (q0e HS2.out (Nat.le_refl _) hT2)
 have HU2:=q0a (HA2.out.up hT2)
 clear hwb hT2 HA2 HS2
 have HX2:=q0a (q0e HT1.out (Nat.le_refl _) HT2.out)
 have RN3:=q0a (qn8 (LA:=VA) (LC:=VC) HM.out HL.out (HZ.out.below (q0e HB1.out (Nat.le_refl _) HX2.out)) (HR1.out.up HX2.out) HOK.out (by omega))
 go_upto_region 6 with(go_at_call 11;refine RN3.out.mono ?_;rintro e w5 ⟨vs3,AA3,CC3,A3,C3,t0,t1,t2,he,hvl,hcc,han,hB,hK,hb,-⟩;have HV3:=q0a hvl;have HA3:=q0a han;have HCC3:=q0a hcc;have HS3:=q0a hb;obtain⟨P3,D3,q3,z3⟩:=t0;obtain⟨R3,E3,x3,y3⟩:=t1;obtain⟨S3',F3,u3,v3⟩:=t2;simp only[q0l] at he;subst he;clear hvl hcc han hB hK hb RN3)
 obtain⟨wc,hwc⟩:∃wc,wc=w5.alloc (.cells #[.slice A3 M.ss.length C3,.slice P3 q3.length D3,.int .i64 z3,.slice R3 x3.length E3,.int .i64 y3,.slice S3' u3.length F3,.int .i64 v3,.int .i64 M.f] 46):=⟨_,rfl⟩
 have hT3:Below w5.heap.size w5 wc:=by rw[hwc];exact(Below.refl _ _).alloc (Nat.le_refl _) _
 rw[<-hwc]
 have HT3:=q0a (q0e HS3.out (Nat.le_refl _) hT3)
 have HU3:=q0a (HA3.out.up hT3)
 clear hwc hT3 HA3 HS3
 have HX3:=q0a (q0e HB1.out (Nat.le_refl _) (q0e HX2.out (Nat.le_refl _) HT3.out))
 have hmk:=fun W=>qro (501+q) (by omega) W
 have hnew:=fun W:World=>(Below.refl W.heap.size W).alloc (Nat.le_refl _) (.cells (z1x (501+q)) 26)
 have BIG:=q0a fun A W=>qvu A (501+q) (501+q) W (by omega) (by omega)
 have e501:((501+q:Nat):Int)=501+(q:Int):=by omega
 have k501:IntKind.i64.wrap (501+(q:Int))=501+(q:Int):=by rw[IntKind.wrap_i64];omega
 simp only[e501] at hmk
 obtain⟨nz,hnz⟩:∃nz,nz=501+q:=⟨_,rfl⟩
 rw[<-hnz] at hmk hnew BIG
 clear e501 hnz HM HM2 HOK HOK2 HLK HL HR1 HZ
 go_upto_region 7 with(first
  |(go_at_call 10;refine(PK9.out _).mono ?_;rintro e w6 ⟨rfl,hw6⟩;have hw6:=hw6.symm;subst hw6;clear PK9)
  |(go_at_call 11;refine(BIG.out _ _).mono ?_;rintro e w7 ⟨rfl,hb7⟩;have HB7:=q0a (q0e (hnew wc) (Nat.le_refl _) hb7);clear hb7 BIG))
 obtain⟨wd,hwd⟩:∃wd,wd=w7.alloc (.cells #[.slice none 0 0,.slice none 0 0,.int .i64 0,.slice none 0 0,.int .i64 0,.slice none 0 0,.int .i64 0,.int .i64 0] 46):=⟨_,rfl⟩
 have h7d:Below w7.heap.size w7 wd:=by rw[hwd];exact(Below.refl _ _).alloc (Nat.le_refl _) _
 rw[<-hwd]
 have HD:=q0a (q0e HB7.out (Nat.le_refl _) h7d)
 have G1:=HU1.out.up (q0e HT2.out (Nat.le_refl _) (q0e HT3.out (Nat.le_refl _) HD.out))
 have G2:=HU2.out.up (q0e HT3.out (Nat.le_refl _) HD.out)
 have G3:=HU3.out.up HD.out
 have hv1:=HV1.out
 have hv2:=HV2.out
 have hv3:=HV3.out
 have hc1:=HCC1.out
 have SA1:=q0a (qn1 (C:=CC1) (C':=CC2) (n:=k) (G1.take k) G2 (by rw[List.length_take];omega) hv2 (by omega))
 have SA2:=q0a fun W (hW:Below wd.heap.size wd W)=>qn1 (C:=CC1) (C':=CC3) (n:=l) (G1.up hW) (G3.up hW) hv1 hv3 (by omega)
 have p2:(k:Int)<=(CC1:Int):=by omega
 clear hwd h7d G1 G2 G3 hv1 hv2 hv3 hc1 HU1 HU2 HU3 HV1 HV2 HV3 HCC1 HCC2 HCC3 HB7 HT1 HT2 HT3 hmk hnew
 go_wp2_with (first
  |(go_at_call 12;refine SA1.out.mono ?_;rintro e w8 ⟨rfl,hb8⟩;have HB8:=q0a hb8;clear hb8 SA1)
  |(go_at_call 12;refine(SA2.out _ (by exact HB8.out)).mono ?_;rintro e w9 ⟨rfl,hb9⟩;have HB9:=q0a (q0e HB8.out (Nat.le_refl _) hb9);clear hb9 SA2))
 go_ret
 exact⟨rfl,q0e HX3.out (Nat.le_refl _) (q0e HD.out (Nat.le_refl _) HB9.out)⟩

set_option maxRecDepth 100000 in
theorem qdj(os:Os)(started:os.Started)(H:Type)(enc:TypeId × Value->H):
  ReturnsInHanded {} Tryz.checked os 4 .any (fun w args=>(Rows.topStepsSpec.pre enc Tryz.prog Tryz.f4 [] false w args/\laidMetH Tryz.prog qaa w)/\sizedMet enc Tryz.prog Tryz.f4 (OpenSpec.ofChange Rows.topStepsSpec) false w args)
   (Rows.topStepsSpec.post enc Tryz.prog Tryz.f4 false true false false):=by
 refine returnsInHanded_of_change_and (C:=Tryz.checked) (X:=fun w _=>laidMetH Tryz.prog qaa w) (fun _ _ _ hh h=>h.of_heap hh) own started (by kernel_rfl) Tryz.func4
  (ChangeSpec.witness_at (enc:=enc) (C:=Tryz.checked) (os:=os) (X:=fun w _=>laidMetH Tryz.prog qaa w) false (World.laidAll Tryz.prog os qaa) #[.slice none 0 0,.int .i64 0] 8 (World.laidAll_os _ _ _) (by kernel_rfl) (by kernel_rfl) (by kernel_rfl) (by kernel_rfl) (by kernel_rfl)
   (by rw[MakeChecks.laidMetH_plain _ _ _ (by kernel_rfl)];exact laidMet_laidAll _ (by kernel_rfl) (by kernel_rfl))) ?_
 intro W base args ds gs before hval0 hW _ hsz0 hL _
 have hval:∀(j:Nat) t v,Tryz.f4.params[j]? =some t->args[j]? =some v->Value.okWide Tryz.prog W .any base t v:=hval0
 have hW':=hW
 obtain⟨p,q,hA0,hV,rfl,hfz,hnd⟩:=hW
 have hA:DataW.TrodAll enc Tryz.prog W 0 (fun _=>true) true Tryz.f4.params.toList args.toList ds p:=hA0
 have hsz:(DataW.weightsEach Tryz.prog (Tryz.f4.params.toList++Rows.topStepsSpec.plain.varTypes Tryz.prog) (ds++gs)).all (·<=reachBytes)=true:=hsz0
 rw[Tryz.params4] at hA hval hsz
 obtain⟨v0,vs0,d0,ds0,p0,q0,hargs,rfl,rfl,h0,r0⟩:=trodAll_cons hA
 obtain⟨v1,vs1,d1,ds1,p1,q1,rfl,rfl,rfl,h1,r1⟩:=trodAll_cons r0
 obtain⟨rfl,rfl,rfl⟩:=trodAll_nil r1
 obtain rfl:args=#[v0,v1]:=by cases args;simp_all
 obtain⟨rfl,rfl⟩:=trodVars_none hV
 have k0:=h0
 have lt0:∀x∈p0,x.block<W.heap.size:=by obtain⟨m,hm⟩:=k0;exact DataW.trod_lt m _ _ _ hm
 obtain⟨A0,C0,xs0,rfl,hR0,hz0,hw0⟩:=qcd (hval 0 22 v0 rfl rfl) h0 (fun n hn=>by
  have:=List.all_eq_true.1 hsz n (DataW.weights_mem_each (j:=0) (t:=22) rfl rfl n hn)
  exact of_decide_eq_true this)
 have k1:=h1
 have lt1:∀x∈p1,x.block<W.heap.size:=by obtain⟨m,hm⟩:=k1;exact DataW.trod_lt m _ _ _ hm
 obtain⟨a1,rfl,w1⟩:∃n:Int,v1=.int .i64 n/\(Lit.int .i64 n).wf=true:=by
  obtain⟨n,h,_,_,w⟩:=open_int Tryz.underlying3 (hval 1 3 v1 rfl rfl) h1;exact⟨n,h,w⟩
 clear hA0 hval0 hsz0
 refine(qh4 A0 C0 xs0 a1 W (qsw hL) hR0 hz0 hw0 w1).mono fun e W' ⟨he,bel⟩=>?_
 subst he
 exact⟨_,rfl,_,_,_,[],_,[],hW',trodAll_mk1 (shut_bool Tryz.underlying4 _),(trodAll_cons_mk (Below.trod qek (by kernel_rfl) (of_decide_eq_true (by kernel_rfl)) k0 bel lt0) (trodAll_cons_mk (Below.trod qek (by kernel_rfl) (of_decide_eq_true (by kernel_rfl)) k1 bel lt1) trodAll_mk0)),rfl,bel.frame _,fun h=>by cases h⟩

theorem qez:Rows.TopStepsSaid:=
 OpenClaim.holds_of_wide 4 Tryz.f4 rfl rfl rfl rfl rfl rfl rfl ⟨rfl,rfl,rfl,rfl,rfl⟩ rfl rfl rfl rfl rfl (by kernel_rfl) Tryz.func4 (by kernel_rfl)
  (of_decide_eq_true (by kernel_rfl)) (by unfold Func.isWrapper;first|(rw[if_pos (by decide+kernel)];kernel_rfl)|(rw[if_neg (by decide+kernel)];exact⟨rfl,rfl⟩))
  (fun os started H enc _=>qdj os started H enc)

theorem topStepsCard_holds:Rows.TopStepsCardSaid:=
 Claim7.holds_tied_plain_at .later [] [.data] true (true, "f89f3244ba71e73d68727402376487bd54bd4ab62c1a8cd1efe6194e4f806b64") false qez (fun _ h => by cases h) (by kernel_rfl) (fun _ h => by cases h) topSteps_row_tie rfl ⟨rfl, rfl⟩ (by kernel_rfl) rfl
  (fun f fn hf hfn=>by
   obtain rfl : f = 4 := Option.some.inj ((show Tryz.prog.funcNamed "winnower/winnowertop.TopSteps" = some 4 by kernel_rfl).symm.trans hf) |>.symm
   obtain rfl:fn=Tryz.f4:=(Option.some.inj (Tryz.func4.symm.trans hfn)).symm
   exact⟨by kernel_rfl,fun j t ht=>by
    rw[Tryz.params4] at ht
    have hm:t∈[22,3]:=by simpa using Array.mem_of_getElem? ht
    have hall:([22,3].all fun u=>!Tryz.prog.wantsStandIn u)=true:=by kernel_rfl
    exact(show Tryz.prog.wantsStandIn t=false by simpa using List.all_eq_true.1 hall t hm)⟩)
  (by kernel_rfl)
#print axioms topStepsCard_holds
end Go.Proofs.YtlojfgdpmaigmahGreatDoor

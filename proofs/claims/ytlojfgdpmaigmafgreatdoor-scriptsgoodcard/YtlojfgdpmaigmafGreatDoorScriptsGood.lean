/- For every list of raw things and every number: whatever acts come, a base stays one that may be, and what is refused does nothing. No condition beside the table of sizes, which is tied to the program's text. -/
import Derived.Test.YtlojfgdpmaigmafGreatDoorEngRun
import Derived.Test.YtlojfgdpmaigmafGreatDoorP50
import Derived.Test.YtlojfgdpmaigmafGreatDoorClAct
import Derived.Test.YtlojfgdpmaigmafGreatDoorP30
import Derived.Test.YtlojfgdpmaigmafGreatDoorLaidSz
import Derived.ChangeMaps5
namespace Go.Proofs.YtlojfgdpmaigmafGreatDoor
open Go.ChangeShapes Go.WideShapes Go.ChangeAt Go.RowKit Plain Go.Shelf

theorem qu1(acs:List Ac){a:Ac}(h:7<=a.k):runM mc0 mc0 (acs++[a])=((runM mc0 mc0 acs).1,(runM mc0 mc0 acs).2.1,(runM mc0 mc0 acs).2.2++[⟨3,zro,[]⟩]):=by
 rw[qgg]
 simp only[runM,qsa h]

theorem qpi{vs:List AnV}{ys:List An}{y:An}(h:vs.map AnV.a=ys++[y]){n:Nat}(hn:ys.length=n):∃hl:n<vs.length,vs[n].a=y:=by
 have h1:=congrArg List.length h
 simp at h1
 refine⟨by omega,?_⟩
 have h2:(vs.map AnV.a)[n]? =some y:=by
  rw[h,List.getElem?_append_right (by omega),hn]
  simp
 rw[List.getElem?_map,List.getElem?_eq_getElem (by omega)] at h2
 simpa using h2

theorem z2p{m:Mc}{L L':List En}(h:KpY m L)(h':KpY m L'):L=L':=Option.some.inj (h.all.symm.trans h'.all)

theorem qoy{B:Nat}{w0 wr w7:World}{row:Option Nat}(h:Below B w0 wr)(hB:B<=wr.heap.size)(g:wr.grownBy w7 row)(hr:∀q,row=some q->B<=q):Below B w0 w7:=
 ⟨g.os.trans h.os,g.tape.trans h.tape,g.output.trans h.output,Nat.le_trans h.size g.size,fun k hk=>(g.block k (Nat.lt_of_lt_of_le hk hB) fun e=>by have:=hr k e.symm;omega).trans (h.block k hk)⟩

theorem quv{LA:Option Addr}{LC:Nat}{acs:List Ac}{a:Ac}{w:World}{M S:Mc}{Y:List An}(h:runM mc0 mc0 (acs++[a])=(M,S,Y))(hZ:SzAt w)(hA:q0j w.heap.size w LA (q1v acs++q1v [a]))(hs:∀a∈acs,a.s.size<=140737488351232)(hs':a.s.size<=140737488351232)(hn:acs.length+1<=500):
  Calls Tryz.prog 21 #[.slice LA ((acs.length+1:Nat)) LC] w (RunM M Y (acs.length+1) w):=by
 rw[<-q9a] at hA
 have k:=z1r (LA:=LA) (LC:=LC) h hZ hA (fun b hb=>by
  rcases List.mem_append.1 hb with hb|hb
  ·exact hs b hb
  ·obtain rfl:b=a:=by simpa using hb
   exact hs') (by simpa using hn)
 rw[List.length_append,List.length_singleton] at k
 exact k

set_option maxRecDepth 20000 in
set_option maxHeartbeats 4000000 in
theorem qcj(A:Option Addr)(C:Nat)(xs:List Rw)(kn:Int)(w:World)(hZ:SzAt w)(hA:q0j w.heap.size w A (qdg xs))(_:xs.length*32<=140737488351232)(hwf:∀x∈xs,x.wf)(hn:(Lit.int .i64 kn).wf=true):
  Calls Tryz.prog 7 #[.slice A xs.length C,.int .i64 kn] w fun e w'=>e=.returned (.bool true)/\Below w.heap.size w w':=by
 have bn:=qii hn
 have qp:=q5p kn (show(0:Int)<9 by decide)
 have PK:=q0a fun W=>q6g kn 9 W bn.1 bn.2 (by decide) (by decide)
 obtain⟨p,hp⟩:∃p,pick kn 9=p:=⟨_,rfl⟩
 rw[hp] at PK qp
 have AC:=q0a (qwe A C xs 50 w hA hwf (by decide) (by decide))
 have hok:∀a∈(xs.take (50:Int).toNat).map q7v,a.s.size<=140737488351232:=fun a ha=>by
  obtain⟨x,_,rfl⟩:=List.mem_map.1 ha
  have:=(qur x).sz
  omega
 have hlen:((xs.take (50:Int).toNat).map q7v).length<=50:=by simp;omega
 obtain⟨acs,has⟩:∃acs,(xs.take (50:Int).toNat).map q7v=acs:=⟨_,rfl⟩
 rw[has] at AC hok hlen
 have HZ:=q0a hZ
 have HOK:=q0a hok
 have hpp:=qt9 acs (m:=mc0) (s:=mc0) (n:=0) (Nat.le_refl _) (Nat.le_refl _)
 have h7:Hid (∀a:Ac,7<=a.k->runM mc0 mc0 (acs++[a])=((runM mc0 mc0 acs).1,(runM mc0 mc0 acs).2.1,(runM mc0 mc0 acs).2.2++[⟨3,zro,[]⟩])):=fun a h=>qu1 acs h
 have hyl:=qgt acs mc0 mc0
 clear hZ hok has hp hA hwf hn bn
 obtain⟨i0,hi0,hz0,hz1,hz2⟩:=info_parts qrn
 go_enter Tryz.func7,Tryz.ntmps7
 go_upto_region 2 with(go_at_call 24;refine AC.out.mono ?_;rintro e w1 ⟨v,rfl,hown,hb1⟩;obtain⟨VA,VC,hv,hnn,hlc,-,hrow⟩:=q0h hown;subst hv;have HR1:=q0a hrow;have HB1:=q0a hb1;have HNN:=q0a hnn;clear hrow hb1 hnn hown AC)
 obtain⟨M,S,Y,hM⟩:∃M S Y,runM mc0 mc0 acs=(M,S,Y):=⟨_,_,_,rfl⟩
 have RUN1:=q0a (z1r (LA:=VA) (LC:=VC) hM (HZ.out.below HB1.out) HR1.out HOK.out (by omega))
 have h7':Hid (∀a:Ac,7<=a.k->runM mc0 mc0 (acs++[a])=(M,S,Y++[⟨3,zro,[]⟩])):=fun a ha=>by rw[h7.out a ha,hM]
 rw[hM] at hpp hyl
 simp only at hpp hyl
 have HY:=q0a hyl
 clear hyl hM h7
 go_upto_region 3 with(go_at_call 21;refine RUN1.out.mono ?_;rintro e w2 ⟨vs,AA,CC,A1,C1,t0,t1,t2,he,hvl,hcc,han,hB,hK,hb2,-⟩;obtain⟨A10,C10,q0,s0⟩:=t0;obtain⟨A11,C11,q1,s1⟩:=t1;obtain⟨A12,C12,q2,s2⟩:=t2;have HB:=q0a hB;have HK:=q0a hK;have HB2:=q0a hb2;simp only[q0l] at he;subst he;clear hvl hcc han hB hK hb2 RUN1)
 obtain⟨wA,hwA⟩:∃wA,wA=w2.alloc (.cells #[.slice A1 M.ss.length C1,.slice A10 q0.length C10,.int .i64 s0,.slice A11 q1.length C11,.int .i64 s1,.slice A12 q2.length C12,.int .i64 s2,.int .i64 M.f] 29):=⟨_,rfl⟩
 have X1:RowL wA w2.heap.size 29 [.slice A1 M.ss.length C1,.slice A10 q0.length C10,.int .i64 s0,.slice A11 q1.length C11,.int .i64 s1,.slice A12 q2.length C12,.int .i64 s2,.int .i64 M.f]:=by rw[hwA];exact q0b w2 _ _
 have h2A:Below w2.heap.size w2 wA:=by rw[hwA];exact(Below.refl _ _).alloc (Nat.le_refl _) _
 rw[<-hwA]
 have H1A:=q0a (q0e HB2.out (Nat.le_refl _) h2A)
 have HBA:=q0a (q0e HB1.out (Nat.le_refl _) H1A.out)
 have HB':=q0a (HB.out.up h2A)
 have X1':=q0a X1
 have x1l:=X1.lt
 obtain⟨b1,hb1⟩:∃b1,b1=w2.heap.size:=⟨_,rfl⟩
 rw[<-hb1] at X1' x1l ⊢
 clear hwA hb1 h2A X1 HB HB2
 have CL:=q0a (qjy VA VC acs wA (HR1.out.up H1A.out) (fun e=>⟨HNN.out e,by
  have:=HNN.out e
  exact List.length_eq_zero_iff.1 (by omega)⟩) (by omega))
 have hlb:acs.length+1<=maxLen:=by unfold maxLen;omega
 go_upto_region 4 with(first
  |(go_at_call 25;refine CL.out.mono ?_;rintro e w3 ⟨v3,rfl,hown,hb3⟩;obtain⟨VA3,VC3,hv,-,-,-,-⟩:=q0h hown;subst hv;have HO3:=q0a hown;have HB3:=q0a hb3;have hs3:=hb3.size;clear hown hb3 CL)
  |(go_at_call 20;refine(PK.out _).mono ?_;rintro e wp ⟨rfl,hwp⟩;subst wp)
  |(at_builtin;refine wpList_append_own _ rfl _ _ 56 rfl wA.heap.size 68 i0 _ 6 56 Tryz.underlying56 hi0 hz0 hz1 hz2 rfl (by decide) (.slice VA3 acs.length VC3) acs.length (q1v acs) rfl (q2c HO3.out ((Below.refl _ _).alloc (Nat.le_refl _) _)) ⟨w3.heap.size,0,none⟩ 1 1 (q1v [⟨7+p,ByteArray.empty,0,0,0,0⟩]) rfl (q1h _) (qeb (x:=⟨7+p,ByteArray.empty,0,0,0,0⟩) (q0b w3 _ _)) (q3k _) hlb (by omega) (by simp;omega) ?_;intro v5 w5 hown5 hgrow5 _;obtain⟨VA5,VC5,hv5,-,-,-,hrow5⟩:=q0h hown5;subst hv5;have HB5:=q0a (qoy (q0e HB3.out (Nat.le_refl _) ((Below.refl w3.heap.size w3).alloc (Nat.le_refl _) _)) (by simp;omega) hgrow5 (fun q hq=>(HO3.out.lt q hq).1));have RUN2:=q0a (quv (LA:=VA5) (LC:=VC5) (h7'.out ⟨7+p,ByteArray.empty,0,0,0,0⟩ (by show 7<=7+p;omega)) (HZ.out.below (q0e HBA.out (Nat.le_refl _) HB5.out)) hrow5 HOK.out (show ByteArray.empty.size<=140737488351232 by decide) (by omega));clear hrow5 hown5 hgrow5 HO3 HB3)
  |(go_at_call 21;refine RUN2.out.mono ?_;rintro e w6 ⟨vs6,AA6,CC6,A6,C6,t0,t1,t2,he,hvl6,hcc6,han6,hB6,hK6,hb6,-⟩;obtain⟨A60,C60,q60,s60⟩:=t0;obtain⟨A61,C61,q61,s61⟩:=t1;obtain⟨A62,C62,q62,s62⟩:=t2;have HV6:=q0a hvl6;have HN6:=q0a han6;have HB6:=q0a hB6;have HK6:=q0a hK6;have HW6:=q0a hb6;simp only[q0l] at he;subst he;clear hvl6 hcc6 han6 hB6 hK6 hb6 RUN2))
 obtain⟨wC,hwC⟩:∃wC,wC=w6.alloc (.cells #[.slice A6 M.ss.length C6,.slice A60 q60.length C60,.int .i64 s60,.slice A61 q61.length C61,.int .i64 s61,.slice A62 q62.length C62,.int .i64 s62,.int .i64 M.f] 29):=⟨_,rfl⟩
 have X2:RowL wC w6.heap.size 29 [.slice A6 M.ss.length C6,.slice A60 q60.length C60,.int .i64 s60,.slice A61 q61.length C61,.int .i64 s61,.slice A62 q62.length C62,.int .i64 s62,.int .i64 M.f]:=by rw[hwC];exact q0b w6 _ _
 have h6C:Below w6.heap.size w6 wC:=by rw[hwC];exact(Below.refl _ _).alloc (Nat.le_refl _) _
 rw[<-hwC]
 have hAC:=q0e (q0e HB5.out (Nat.le_refl _) HW6.out) (Nat.le_refl _) h6C
 have HBC:=q0a (q0e HBA.out (Nat.le_refl _) hAC)
 have B1C:=q0a (HB'.out.up hAC)
 have B2C:=q0a (HB6.out.up h6C)
 have N2C:=q0a (HN6.out.up h6C)
 have X1C:=q0a (X1'.out.below hAC x1l)
 have X2C:=q0a X2
 obtain⟨b2,hb2⟩:∃b2,b2=w6.heap.size:=⟨_,rfl⟩
 rw[<-hb2] at X2C ⊢
 clear hwC hb2 h6C X2 HB6 HN6 HW6 hAC HB5 X1' HB' HBA H1A HR1 HB1 x1l
 have EN1:=q0a fun W (hW:Below wC.heap.size wC W)=>qtb (m:=M) (HZ.out.below (q0e HBC.out (Nat.le_refl _) hW)) (B1C.out.up hW) HK.out (by omega)
 have EN2:=q0a fun W (hW:Below wC.heap.size wC W)=>qtb (m:=M) (HZ.out.below (q0e HBC.out (Nat.le_refl _) hW)) (B2C.out.up hW) HK6.out (by omega)
 have CK:=q0a fun W (hW:Below wC.heap.size wC W)=>qt4 (HZ.out.below (q0e HBC.out (Nat.le_refl _) hW)) (B1C.out.up hW) HK.out
 simp only[q0l] at EN1 EN2 CK
 have x1:=fun j=>X1C.out.cell j
 have xl1:=X1C.out.lt
 go_upto_region 5 with(go_at_call 14;refine(EN1.out _ (by with_reducible exact Below.refl _ _)).mono ?_;rintro e w7 ⟨hb7,v7,L7,he7,hbf7,hL7⟩;obtain⟨g7,c7,ev7,hy7⟩:=hbf7.bytes;subst ev7;have HB7:=q0a hb7;have HY7:=q0a hy7;have HL7:=q0a hL7;have x2:=fun j=>(X2C.out.below hb7 X2C.out.lt).cell j;have xl2:=(X2C.out.below hb7 X2C.out.lt).lt;clear hbf7 hy7 hL7 hb7 EN1;subst he7)
 go_upto_region 6 with(go_at_call 14;refine(EN2.out _ (by with_reducible exact HB7.out)).mono ?_;rintro e w8 ⟨hb8,v8,L8,he8,hbf8,hL8⟩;obtain⟨g8,c8,ev8,hy8⟩:=hbf8.bytes;subst ev8;have HB8:=q0a hb8;have HY8:=q0a hy8;have e78:=z2p HL7.out hL8;clear hbf8 hL8 hb8 EN2 hy8;subst he8;subst e78)
 obtain⟨hl,hcode⟩:=qpi N2C.out.eq HY.out
 obtain⟨ab,ao,hAA,hab,hav⟩:=N2C.out.row.av8 hl
 have hc0:=hav.c0
 rw[hcode] at hc0
 simp only at hc0
 subst hAA
 have H78:=q0e HB7.out (Nat.le_refl _) HB8.out
 have X18:=X1C.out.below H78 X1C.out.lt
 have x18:=fun j=>X18.cell j
 have xl18:=X18.lt
 have hc8:=(World.cell?_of_block (a:=⟨ab,ao+acs.length*8,none⟩) (H78.block ab hab)).trans hc0
 have hab8:ab<w8.heap.size:=Nat.lt_of_lt_of_le hab H78.size
 have HH8:=q0a H78
 have q0:(0:Int)<=(acs.length:Int):=by omega
 have q1:(acs.length:Int)<(acs.length:Int)+1:=by omega
 have hu:=q0a (qk0 M.ss M.f L7)
 obtain⟨EB,hEB⟩:∃EB,encB M.ss M.f L7=EB:=⟨_,rfl⟩
 rw[hEB] at HY7 HY8 hu ⊢
 obtain⟨ST,hST⟩:∃ST,q8x EB=ST:=⟨_,rfl⟩
 have T7:Hid (∀W,Below w8.heap.size w8 W->(convert 22 9 (.slice (some ⟨g7,0,none⟩) EB.length c7)).run Tryz.prog W=.ok (.string ST) W):=fun W hW=>by
  rw[<-hST]
  exact q5k (HY7.out.below (q0e HB8.out (Nat.le_refl _) hW) (Nat.le_refl _)) hu.out
 have T8:Hid (∀W,Below w8.heap.size w8 W->(convert 22 9 (.slice (some ⟨g8,0,none⟩) EB.length c8)).run Tryz.prog W=.ok (.string ST) W):=fun W hW=>by
  rw[<-hST]
  exact q5k (HY8.out.below hW (Nat.le_refl _)) hu.out
 clear hEB hST hav hc0 hcode x1 x2 xl1 xl2 H78 X18 hl
 go_wp2_with (go_at_call 15;refine(CK.out _ (by exact HH8.out)).mono ?_;rintro e w9 ⟨rfl,hb9⟩;have t7:=T7.out w9 hb9;have t8:=T8.out w9 hb9;have hc9:=(World.cell?_of_block (a:=⟨ab,ao+acs.length*8,none⟩) (hb9.block ab hab8)).trans hc8;have hl9:ab<w9.heap.size:=Nat.lt_of_lt_of_le hab8 hb9.size;have HW9:=q0a (q0e HH8.out (Nat.le_refl _) hb9);clear hb9 CK)
 go_ret
 exact⟨rfl,q0e HBC.out (Nat.le_refl _) HW9.out⟩

set_option maxRecDepth 100000 in
theorem qan(os:Os)(started:os.Started)(H:Type)(enc:TypeId × Value->H):
  ReturnsInHanded {} Tryz.checked os 7 .any (fun w args=>(Rows.scriptsGoodSpec.pre enc Tryz.prog Tryz.f7 [] false w args/\laidMetH Tryz.prog qff w)/\sizedMet enc Tryz.prog Tryz.f7 (OpenSpec.ofChange Rows.scriptsGoodSpec) false w args)
   (Rows.scriptsGoodSpec.post enc Tryz.prog Tryz.f7 false true false false):=by
 refine returnsInHanded_of_change_and (C:=Tryz.checked) (X:=fun w _=>laidMetH Tryz.prog qff w) (fun _ _ _ hh h=>h.of_heap hh) own started (by kernel_rfl) Tryz.func7
  (ChangeSpec.witness_at (enc:=enc) (C:=Tryz.checked) (os:=os) (X:=fun w _=>laidMetH Tryz.prog qff w) false (World.laidAll Tryz.prog os qff) #[.slice none 0 0,.int .i64 0] 8 (World.laidAll_os _ _ _) (by kernel_rfl) (by kernel_rfl) (by kernel_rfl) (by kernel_rfl) (by kernel_rfl)
   (by rw[MakeChecks.laidMetH_plain _ _ _ (by kernel_rfl)];exact laidMet_laidAll _ (by kernel_rfl) (by kernel_rfl))) ?_
 intro W base args ds gs before hval0 hW _ hsz0 hL _
 have hval:∀(j:Nat) t v,Tryz.f7.params[j]? =some t->args[j]? =some v->Value.okWide Tryz.prog W .any base t v:=hval0
 have hW':=hW
 obtain⟨p,q,hA0,hV,rfl,hfz,hnd⟩:=hW
 have hA:DataW.TrodAll enc Tryz.prog W 0 (fun _=>true) true Tryz.f7.params.toList args.toList ds p:=hA0
 have hsz:(DataW.weightsEach Tryz.prog (Tryz.f7.params.toList++Rows.scriptsGoodSpec.plain.varTypes Tryz.prog) (ds++gs)).all (·<=reachBytes)=true:=hsz0
 rw[Tryz.params7] at hA hval hsz
 obtain⟨v0,vs0,d0,ds0,p0,q0,hargs,rfl,rfl,h0,r0⟩:=trodAll_cons hA
 obtain⟨v1,vs1,d1,ds1,p1,q1,rfl,rfl,rfl,h1,r1⟩:=trodAll_cons r0
 obtain⟨rfl,rfl,rfl⟩:=trodAll_nil r1
 obtain rfl:args=#[v0,v1]:=by cases args;simp_all
 obtain⟨rfl,rfl⟩:=trodVars_none hV
 have k0:=h0
 have lt0:∀x∈p0,x.block<W.heap.size:=by obtain⟨m,hm⟩:=k0;exact DataW.trod_lt m _ _ _ hm
 obtain⟨A0,C0,xs0,rfl,hR0,hz0,hw0⟩:=qh5 (hval 0 39 v0 rfl rfl) h0 (fun n hn=>by
  have:=List.all_eq_true.1 hsz n (DataW.weights_mem_each (j:=0) (t:=39) rfl rfl n hn)
  exact of_decide_eq_true this)
 have k1:=h1
 have lt1:∀x∈p1,x.block<W.heap.size:=by obtain⟨m,hm⟩:=k1;exact DataW.trod_lt m _ _ _ hm
 obtain⟨a1,rfl,w1⟩:∃n:Int,v1=.int .i64 n/\(Lit.int .i64 n).wf=true:=by
  obtain⟨n,h,_,_,w⟩:=open_int Tryz.underlying3 (hval 1 3 v1 rfl rfl) h1;exact⟨n,h,w⟩
 clear hA0 hval0 hsz0
 refine(qcj A0 C0 xs0 a1 W (qyw hL) hR0 hz0 hw0 w1).mono fun e W' ⟨he,bel⟩=>?_
 subst he
 exact⟨_,rfl,_,_,_,[],_,[],hW',trodAll_mk1 (shut_bool Tryz.underlying4 _),(trodAll_cons_mk (Below.trod qr6 (by kernel_rfl) (of_decide_eq_true (by kernel_rfl)) k0 bel lt0) (trodAll_cons_mk (Below.trod qr6 (by kernel_rfl) (of_decide_eq_true (by kernel_rfl)) k1 bel lt1) trodAll_mk0)),rfl,bel.frame _,fun h=>by cases h⟩

theorem qb7:Rows.ScriptsGoodSaid:=
 OpenClaim.holds_of_wide 7 Tryz.f7 rfl rfl rfl rfl rfl rfl rfl ⟨rfl,rfl,rfl,rfl,rfl⟩ rfl rfl rfl rfl rfl (by kernel_rfl) Tryz.func7 (by kernel_rfl)
  (of_decide_eq_true (by kernel_rfl)) (by unfold Func.isWrapper;first|(rw[if_pos (by decide+kernel)];kernel_rfl)|(rw[if_neg (by decide+kernel)];exact⟨rfl,rfl⟩))
  (fun os started H enc _=>qan os started H enc)

theorem scriptsGoodCard_holds:Rows.ScriptsGoodCardSaid:=
 Claim7.holds_tied_plain_at .later [] [.data] true (true, "a102583fe28ffa609899a275fe48454efada5daf74d5e6fcddfa7c764d9a7f81") false qb7 (fun _ h => by cases h) (by kernel_rfl) (fun _ h => by cases h) scriptsGood_row_tie rfl ⟨rfl, rfl⟩ (by kernel_rfl) rfl
  (fun f fn hf hfn=>by
   obtain rfl : f = 7 := Option.some.inj ((show Tryz.prog.funcNamed "winnower/winnowerkeep.ScriptsGood" = some 7 by kernel_rfl).symm.trans hf) |>.symm
   obtain rfl:fn=Tryz.f7:=(Option.some.inj (Tryz.func7.symm.trans hfn)).symm
   exact⟨by kernel_rfl,fun j t ht=>by
    rw[Tryz.params7] at ht
    have hm:t∈[39,3]:=by simpa using Array.mem_of_getElem? ht
    have hall:([39,3].all fun u=>!Tryz.prog.wantsStandIn u)=true:=by kernel_rfl
    exact(show Tryz.prog.wantsStandIn t=false by simpa using List.all_eq_true.1 hall t hm)⟩)
  (by kernel_rfl)
#print axioms scriptsGoodCard_holds
end Go.Proofs.YtlojfgdpmaigmafGreatDoor

/- For every two lists of raw things: who comes back from what was saved answers as who never went. No condition beside the table of sizes, which is tied to the program's text. -/
import Derived.Test.YtlojfgdpmaigmagGreatDoorP53
import Derived.Test.YtlojfgdpmaigmagGreatDoorP49
import Derived.Test.YtlojfgdpmaigmagGreatDoorCatAct
import Derived.Test.YtlojfgdpmaigmagGreatDoorLaidSz
import Derived.ChangeMaps5
namespace Go.Proofs.YtlojfgdpmaigmagGreatDoor
open Go.ChangeShapes Go.WideShapes Go.ChangeAt Go.RowKit Plain Go.Shelf

def svA:Ac:=⟨5,ByteArray.empty,0,0,0,0⟩
def ldA:Ac:=⟨6,ByteArray.empty,0,0,0,0⟩

theorem qav(xs:List Rw)(n:Nat):∀a∈(xs.take n).map q5a,a.s.size<=140737488351232:=fun a ha=>by
 obtain⟨x,_,rfl⟩:=List.mem_map.1 ha
 have:=(qh9 x).sz
 omega

theorem qdg(xs:List Rw)(n:Nat):((xs.take n).map q5a).length<=n:=by
 rw[List.length_map,List.length_take]
 omega

theorem qnu{w4:World}{VA UA:Option Addr}{VC UC:Nat}{la lb mid:List Ac}(hA:q0i w4.heap.size w4 VA (q0z la))(hna:VA=none->VC=0)(hca:la.length<=VC)(hB:q0i w4.heap.size w4 UA (q0z lb))(hnb:UA=none->UC=0)(hcb:lb.length<=UC)(hl:la.length+mid.length+lb.length<=500):
  Calls Tryz.prog 18 #[.slice (some ⟨w4.heap.size+1,0,none⟩) 3 3] ((w4.alloc (.cells (q0z mid).toArray 26)).alloc (.cells #[.slice VA la.length VC,.slice (some ⟨w4.heap.size,0,none⟩) mid.length mid.length,.slice UA lb.length UC] 23)) fun e w'=>∃v,e=.returned v/\w'.ownsRow (w4.heap.size+2) 26 6 v (la++mid++lb).length (q0z (la++mid++lb))/\Below w4.heap.size w4 w':=by
 have hb6:=q3i w4 (.cells (q0z mid).toArray 26) (.cells #[.slice VA la.length VC,.slice (some ⟨w4.heap.size,0,none⟩) mid.length mid.length,.slice UA lb.length UC] 23)
 have hg6:=(q0b (w4.alloc (.cells (q0z mid).toArray 26)) [.slice VA la.length VC,.slice (some ⟨w4.heap.size,0,none⟩) mid.length mid.length,.slice UA lb.length UC] 23).row
 have hl6:=((q0b w4 (q0z mid) 26).of_block (Below.heap_alloc (w4.alloc (.cells (q0z mid).toArray 26)) (.cells #[.slice VA la.length VC,.slice (some ⟨w4.heap.size,0,none⟩) mid.length mid.length,.slice UA lb.length UC] 23) _ (by simp))).row
 rw[show(w4.alloc (.cells (q0z mid).toArray 26)).heap.size=w4.heap.size+1 by simp] at hg6
 have hcat:cat [⟨VA,VC,la⟩,⟨some ⟨w4.heap.size,0,none⟩,mid.length,mid⟩,⟨UA,UC,lb⟩]=la++mid++lb:=by simp[cat]
 have k:=qfv (some ⟨w4.heap.size+1,0,none⟩) 3 [⟨VA,VC,la⟩,⟨some ⟨w4.heap.size,0,none⟩,mid.length,mid⟩,⟨UA,UC,lb⟩] _ (by
  simp only[List.map_cons,List.map_nil,Sl.v]
  exact hg6) (by
  intro x hx
  simp only[List.mem_cons,List.not_mem_nil,or_false] at hx
  rcases hx with rfl|rfl|rfl
  ·refine⟨hA.up hb6,fun e=>?_⟩
   have h1:=hna e
   exact⟨h1,show la=[] from List.length_eq_zero_iff.1 (by omega)⟩
  ·exact⟨hl6,fun e=>by cases e⟩
  ·refine⟨hB.up hb6,fun e=>?_⟩
   have h1:=hnb e
   exact⟨h1,show lb=[] from List.length_eq_zero_iff.1 (by omega)⟩) (by rw[hcat];simp;omega) (show(3:Nat)<=10 by decide)
 refine Calls.mono k ?_
 rintro e w' ⟨v,rfl,ho,hb⟩
 rw[hcat] at ho
 refine⟨v,rfl,?_,q0e hb6 (Nat.le_refl _) hb⟩
 have e2:((w4.alloc (.cells (q0z mid).toArray 26)).alloc (.cells #[.slice VA la.length VC,.slice (some ⟨w4.heap.size,0,none⟩) mid.length mid.length,.slice UA lb.length UC] 23)).heap.size=w4.heap.size+2:=by simp
 rw[e2] at ho
 exact ho

theorem q8f.wher{w:World}{A A':Option Addr}{vs:List AnV}{ys:List An}(h:q8f w A vs ys)(h0:vs.length=0):q8f w A' vs ys:=by
 have e:vs=[]:=List.eq_nil_of_length_eq_zero h0
 subst e
 exact⟨.inl rfl,h.each,h.eq⟩

theorem q8f.drop{w:World}{b o k:Nat}{vs:List AnV}{ys:List An}(h:q8f w (some ⟨b,o,none⟩) vs ys)(hk:k<=vs.length):q8f w (some ⟨b,o+k*8,none⟩) (vs.drop k) (ys.drop k):=by
 have hfl:∀(l:List AnV) (k:Nat),k<=l.length->q5o (l.drop k)=(q5o l).drop (k*8):=fun l=>by
  induction l with
  |nil=>intro k hk;simp at hk;subst hk;simp[q5o]
  |cons x r ih=>
   intro k hk
   cases k with
   |zero=>simp
   |succ k=>
    rw[List.drop_succ_cons,ih k (by simpa using hk)]
    simp only[q5o]
    have e8:x.vals.length=8:=rfl
    have e9:x.vals.drop ((k+1)*8)=[]:=List.drop_eq_nil_of_le (by rw[e8];omega)
    rw[List.drop_append,e9,List.nil_append,e8]
    congr 1
    omega
 refine⟨?_,fun v hv=>h.each v (List.mem_of_mem_drop hv),by rw[List.map_drop,h.eq]⟩
 rw[hfl vs k hk]
 rcases h.row with e|⟨b',o',hA,hlt,hc⟩
 ·left
  rw[e]
  simp
 ·cases hA
  refine .inr ⟨b,o+k*8,rfl,hlt,fun j u hu=>?_⟩
  rw[List.getElem?_drop] at hu
  have:=hc (k*8+j) u hu
  rwa [<-Nat.add_assoc] at this

theorem qwf:q0z [svA]=[.int .i64 5,.string ⟨#[]⟩,.int .i64 0,.int .i64 0,.int .i64 0,.int .i64 0]:=rfl
theorem qpe:q0z [svA,ldA]=[.int .i64 5,.string ⟨#[]⟩,.int .i64 0,.int .i64 0,.int .i64 0,.int .i64 0,.int .i64 6,.string ⟨#[]⟩,.int .i64 0,.int .i64 0,.int .i64 0,.int .i64 0]:=rfl
theorem z0x(a b:Ac):[a,b].length=2:=rfl

set_option maxRecDepth 20000 in
set_option maxHeartbeats 4000000 in
theorem qhm(A:Option Addr)(C:Nat)(xs:List Rw)(A':Option Addr)(C':Nat)(ys:List Rw)(w:World)(hZ:SzAt w)(hA:q0i w.heap.size w A (qa9 xs))(_:xs.length*32<=140737488351232)(hwf:∀x∈xs,x.wf)(hA':q0i w.heap.size w A' (qa9 ys))(_:ys.length*32<=140737488351232)(hwf':∀x∈ys,x.wf):
  Calls Tryz.prog 6 #[.slice A xs.length C,.slice A' ys.length C'] w fun e w'=>e=.returned (.bool true)/\Below w.heap.size w w':=by
 have AC1:=q0a (qau A C xs 30 w hA hwf (by decide) (by decide))
 have AC2:=q0a fun W (hW:Below w.heap.size w W)=>qau A' C' ys 30 W (hA'.up hW) hwf' (by decide) (by decide)
 have hok:=qav xs (30:Int).toNat
 have hlen:=qdg xs (30:Int).toNat
 have hok':=qav ys (30:Int).toNat
 have hlen':=qdg ys (30:Int).toNat
 obtain⟨acs,has⟩:∃acs,(xs.take (30:Int).toNat).map q5a=acs:=⟨_,rfl⟩
 obtain⟨bcs,hbs⟩:∃bcs,(ys.take (30:Int).toNat).map q5a=bcs:=⟨_,rfl⟩
 rw[has] at AC1 hok hlen
 rw[hbs] at AC2 hok' hlen'
 have hlen:acs.length<=30:=hlen
 have hlen':bcs.length<=30:=hlen'
 have HZ:=q0a hZ
 obtain⟨M1,S1,Y1,hM1⟩:∃M S Y,runM mc0 mc0 (acs++[svA]++bcs)=(M,S,Y):=⟨_,_,_,rfl⟩
 obtain⟨M2,S2,Y2,hM2⟩:∃M S Y,runM mc0 mc0 (acs++[svA,ldA]++bcs)=(M,S,Y):=⟨_,_,_,rfl⟩
 have hd:Y1.drop (acs.length+1)=Y2.drop (acs.length+2):=by
  have h:=qtg acs bcs mc0 mc0 (sv:=svA) (ld:=ldA) rfl rfl
  rw[show acs++svA::bcs=acs++[svA]++bcs by simp,show acs++svA::ldA::bcs=acs++[svA,ldA]++bcs by simp,hM1,hM2] at h
  exact h
 have hk1:∀a∈acs++[svA]++bcs,a.s.size<=140737488351232:=fun a ha=>by
  simp only[List.mem_append,List.mem_cons,List.not_mem_nil,or_false] at ha
  rcases ha with(h|rfl)|h
  ·exact hok a h
  ·exact(show ByteArray.empty.size<=140737488351232 by decide)
  ·exact hok' a h
 have hk2:∀a∈acs++[svA,ldA]++bcs,a.s.size<=140737488351232:=fun a ha=>by
  simp only[List.mem_append,List.mem_cons,List.not_mem_nil,or_false] at ha
  rcases ha with(h|rfl|rfl)|h
  ·exact hok a h
  ·exact(show ByteArray.empty.size<=140737488351232 by decide)
  ·exact(show ByteArray.empty.size<=140737488351232 by decide)
  ·exact hok' a h
 have hl1:(acs++[svA]++bcs).length=acs.length+bcs.length+1:=by simp;omega
 have hl2:(acs++[svA,ldA]++bcs).length=acs.length+bcs.length+2:=by simp;omega
 have HM1:=q0a hM1
 have HM2:=q0a hM2
 have HD:=q0a hd
 have HK1:=q0a hk1
 have HK2:=q0a hk2
 have HL1:=q0a hl1
 have HL2:=q0a hl2
 clear hZ hok hok' has hbs hA hwf hA' hwf' hM1 hM2 hd hk1 hk2 hl1 hl2
 go_enter Tryz.func6,Tryz.ntmps6
 go_upto_region 2 with(go_at_call 9;refine AC1.out.mono ?_;rintro e w1 ⟨v,rfl,hown,hb1⟩;obtain⟨VA,VC,hv,hna,hca,-,hrow⟩:=q0g hown;subst hv;have HR1:=q0a hrow;have HN1:=q0a hna;have HC1:=q0a hca;have HB1:=q0a hb1;clear hb1 hown hrow hna hca AC1)
 go_upto_region 3 with(go_at_call 9;refine(AC2.out _ (by exact HB1.out)).mono ?_;rintro e w2 ⟨v2,rfl,hown,hb2⟩;obtain⟨UA,UC,hv2,hna,hca,-,hrow⟩:=q0g hown;subst hv2;have HR2:=q0a hrow;have HN2:=q0a hna;have HC2:=q0a hca;have HB2:=q0a hb2;clear hb2 hown hrow hna hca AC2)
 go_upto_region 4 with fail
 obtain⟨wS,hwS⟩:∃wS,wS=w2.alloc (.cells #[.int .i64 5,.string ⟨#[]⟩,.int .i64 0,.int .i64 0,.int .i64 0,.int .i64 0] 26):=⟨_,rfl⟩
 have SV:=q0b w2 [.int .i64 5,.string ⟨#[]⟩,.int .i64 0,.int .i64 0,.int .i64 0,.int .i64 0] 26
 have h2S:Below w2.heap.size w2 wS:=by rw[hwS];exact(Below.refl _ _).alloc (Nat.le_refl _) _
 rw[<-hwS] at SV ⊢
 have HS:=q0a SV
 have R1S:=q0a (HR1.out.up (q0e HB2.out (Nat.le_refl _) h2S))
 have R2S:=q0a (HR2.out.up h2S)
 have HBS:=q0a (q0e HB1.out (Nat.le_refl _) (q0e HB2.out (Nat.le_refl _) h2S))
 have sl:=SV.lt
 obtain⟨sx,hsx⟩:∃sx,sx=w2.heap.size:=⟨_,rfl⟩
 rw[<-hsx] at HS sl ⊢
 have s0:=fun j=>HS.out.cell j
 clear hwS SV h2S hsx HR1 HR2 HB1 HB2
 have CAT1:=q0a (qnu (mid:=[svA]) R1S.out HN1.out HC1.out R2S.out HN2.out HC2.out (by simp;omega))
 rw[qwf] at CAT1
 simp only[List.length_singleton] at CAT1
 rw[HL1.out] at CAT1
 go_upto_region 5 with(first
  |(go_at_call 18;refine CAT1.out.mono ?_;rintro e w4 ⟨v4,rfl,hown,hb4⟩;obtain⟨WA,WC,hv4,-,-,-,hrow⟩:=q0g hown;subst hv4;have HB4:=q0a hb4;have RN1:=q0a (qqw (LA:=WA) (LC:=WC) HM1.out HL1.out (HZ.out.below (q0e HBS.out (Nat.le_refl _) hb4)) hrow HK1.out (by omega));clear hb4 hown hrow CAT1)
  |(go_at_call 11;refine RN1.out.mono ?_;rintro e w5 ⟨vs,AA,CC,A1,C1,t0,t1,t2,he,hvl,hcc,han,hB,hK,hb5,-⟩;have HV1:=q0a hvl;have HA1:=q0a han;have HCC1:=q0a hcc;have HB5:=q0a (q0e HB4.out (Nat.le_refl _) hb5);obtain⟨A10,C10,q0,z0⟩:=t0;obtain⟨A11,C11,q1,z1⟩:=t1;obtain⟨A12,C12,q2,z2⟩:=t2;simp only[q0m] at he;subst he;clear hvl hcc han hB hK hb5 RN1))
 obtain⟨wT,hwT⟩:∃wT,wT=w5.alloc (.cells #[.slice A1 M1.ss.length C1,.slice A10 q0.length C10,.int .i64 z0,.slice A11 q1.length C11,.int .i64 z1,.slice A12 q2.length C12,.int .i64 z2,.int .i64 M1.f] 35):=⟨_,rfl⟩
 have h5T:Below w5.heap.size w5 wT:=by rw[hwT];exact(Below.refl _ _).alloc (Nat.le_refl _) _
 rw[<-hwT]
 have HST:=q0a (q0e HB5.out (Nat.le_refl _) h5T)
 have HA1T:=q0a (HA1.out.up h5T)
 have sT:=HS.out.below HST.out sl
 have s1:=fun j=>sT.cell j
 have sl1:=sT.lt
 clear hwT h5T HA1 HB5 HB4 s0 sl
 have CAT2:=q0a (qnu (mid:=[svA,ldA]) (R1S.out.up HST.out) HN1.out HC1.out (R2S.out.up HST.out) HN2.out HC2.out (by simp;omega))
 rw[qpe] at CAT2
 simp only[z0x] at CAT2
 rw[HL2.out] at CAT2
 go_upto_region 6 with(first
  |(go_at_call 18;refine CAT2.out.mono ?_;rintro e w6 ⟨v6,rfl,hown,hb6⟩;obtain⟨WA2,WC2,hv6,-,-,-,hrow⟩:=q0g hown;subst hv6;have HB6:=q0a hb6;have RN2:=q0a (qqw (LA:=WA2) (LC:=WC2) HM2.out HL2.out (HZ.out.below (q0e HBS.out (Nat.le_refl _) (q0e HST.out (Nat.le_refl _) hb6))) hrow HK2.out (by omega));clear hb6 hown hrow CAT2)
  |(go_at_call 11;refine RN2.out.mono ?_;rintro e w7 ⟨vs2,AA2,CC2,A2,C2,t0,t1,t2,he,hvl,hcc,han,hB,hK,hb7,-⟩;have HV2:=q0a hvl;have HA2:=q0a han;have HCC2:=q0a hcc;have HB7:=q0a (q0e HB6.out (Nat.le_refl _) hb7);obtain⟨A20,C20,q0',z0'⟩:=t0;obtain⟨A21,C21,q1',z1'⟩:=t1;obtain⟨A22,C22,q2',z2'⟩:=t2;simp only[q0m] at he;subst he;clear hvl hcc han hB hK hb7 RN2))
 obtain⟨wU,hwU⟩:∃wU,wU=w7.alloc (.cells #[.slice A2 M2.ss.length C2,.slice A20 q0'.length C20,.int .i64 z0',.slice A21 q1'.length C21,.int .i64 z1',.slice A22 q2'.length C22,.int .i64 z2',.int .i64 M2.f] 35):=⟨_,rfl⟩
 have h7U:Below w7.heap.size w7 wU:=by rw[hwU];exact(Below.refl _ _).alloc (Nat.le_refl _) _
 rw[<-hwU]
 have HA2U:=HA2.out.up h7U
 have HA1U:=HA1T.out.up (q0e HB7.out (Nat.le_refl _) h7U)
 have HBU:=q0a (q0e HBS.out (Nat.le_refl _) (q0e HST.out (Nat.le_refl _) (q0e HB7.out (Nat.le_refl _) h7U)))
 clear hwU h7U HA1T HA2 HB7 HB6 s1 sl1 sT
 have hv1:=HV1.out
 have hv2:=HV2.out
 obtain⟨b1,o1,hA1,hbl1,-⟩:=HA1U.row.av8 (k:=0) (by omega)
 obtain⟨b2,o2,hA2,hbl2,-⟩:=HA2U.row.av8 (k:=0) (by omega)
 subst hA1 hA2
 have hc1:=HCC1.out
 have hc2:=HCC2.out
 obtain⟨na,hna⟩:∃na,acs.length=na:=⟨_,rfl⟩
 obtain⟨nb,hnb⟩:∃nb,bcs.length=nb:=⟨_,rfl⟩
 have HDD:=HD.out
 rw[hna,hnb] at hc1 hc2 hv1 hv2 ⊢
 rw[hna] at HDD
 have D1:=HA1U.drop (k:=na+1) (by omega)
 have D2:=HA2U.drop (k:=na+2) (by omega)
 rw[HDD] at D1
 have HD1:=q0a D1
 have HD2:=q0a D2
 have L1:Hid ((vs.drop (na+1)).length=nb):=by show _=_;rw[List.length_drop];omega
 have L2:Hid ((vs2.drop (na+2)).length=nb):=by show _=_;rw[List.length_drop];omega
 have p0:(0:Int)<=(na:Int)+1:=by omega
 have p1:(na:Int)+1<=(na:Int)+(nb:Int)+1:=by omega
 have p2:(na:Int)+1<=(CC:Int):=by omega
 have p3:(0:Int)<=(na:Int)+2:=by omega
 have p4:(na:Int)+2<=(na:Int)+(nb:Int)+2:=by omega
 have p5:(na:Int)+2<=(CC2:Int):=by omega
 have w0:IntKind.i64.wrap ((na:Int)+1)=(na:Int)+1:=by rw[IntKind.wrap_i64];omega
 have w1':IntKind.i64.wrap ((na:Int)+2)=(na:Int)+2:=by rw[IntKind.wrap_i64];omega
 have p6:nb<=30:=by omega
 clear HA1U HA2U D1 D2 HDD hna hnb
 have d1:na+nb+1-(na+1)=nb:=by omega
 have d2:na+nb+2-(na+2)=nb:=by omega
 have eT:((na:Int)+2).toNat=na+2:=by omega
 have SAME:Hid (Calls Tryz.prog 19 #[.slice (if CC=na+1 then some ⟨b1,o1,none⟩ else some ⟨b1,o1+(na+1)*8,none⟩) nb (CC-(na+1)),.slice (if CC2=((na:Int)+2).toNat then some ⟨b2,o2,none⟩ else some ⟨b2,o2+((na:Int)+2).toNat*8,none⟩) (na+nb+2-((na:Int)+2).toNat) (CC2-((na:Int)+2).toNat)] wU.drew (fun e w'=>e=.returned (.bool true)/\Below wU.heap.size wU w')):=by
  show Calls _ _ _ _ _
  rw[eT,d2]
  have K1:q8f wU (if CC=na+1 then some ⟨b1,o1,none⟩ else some ⟨b1,o1+(na+1)*8,none⟩) (vs.drop (na+1)) (List.drop (na+2) Y2):=by
   split
   case isTrue h=>exact HD1.out.wher (by rw[L1.out];omega)
   case isFalse h=>exact HD1.out
  have K2:q8f wU (if CC2=na+2 then some ⟨b2,o2,none⟩ else some ⟨b2,o2+(na+2)*8,none⟩) (vs2.drop (na+2)) (List.drop (na+2) Y2):=by
   split
   case isTrue h=>exact HD2.out.wher (by rw[L2.out];omega)
   case isFalse h=>exact HD2.out
  refine(qwu (w:=wU.drew) (C:=CC-(na+1)) (C':=CC2-(na+2)) (n:=nb) (K1.up (Below.refl wU.heap.size wU).drew) (K2.up (Below.refl wU.heap.size wU).drew) L1.out L2.out (by omega)).mono ?_
  rintro e w' ⟨h1,h2⟩
  exact⟨h1,q0e (Below.refl wU.heap.size wU).drew (Nat.le_refl _) h2⟩
 clear eT HD1 HD2 L1 L2 HV1 HV2
 by_cases g1:CC=na+1
 ·by_cases g2:CC2=((na:Int)+2).toNat
  ·have z0:nb=0:=by omega
   subst g1 z0 g2
   simp only[if_pos,Nat.sub_self] at SAME
   have d3:na+0+2-((na:Int)+2).toNat=0:=by omega
   rw[d3] at SAME
   go_region_held3 (fun _=>True) (exact trivial) ((go_at_call 19;refine SAME.out.mono ?_;rintro e w8 ⟨rfl,hb8⟩;have HB8:=q0a hb8;clear hb8 SAME))
   go_wp2_with fail
   go_ret
   exact⟨rfl,q0e HBU.out (Nat.le_refl _) HB8.out⟩
  ·have z0:nb=0:=by omega
   subst g1 z0
   simp only[if_pos,if_neg g2,Nat.sub_self] at SAME
   have d3:na+0+2-((na:Int)+2).toNat=0:=by omega
   rw[d3] at SAME
   go_region_held3 (fun _=>True) (exact trivial) ((go_at_call 19;refine SAME.out.mono ?_;rintro e w8 ⟨rfl,hb8⟩;have HB8:=q0a hb8;clear hb8 SAME))
   go_wp2_with fail
   go_ret
   exact⟨rfl,q0e HBU.out (Nat.le_refl _) HB8.out⟩
 ·by_cases g2:CC2=((na:Int)+2).toNat
  ·have z0:nb=0:=by omega
   subst z0 g2
   simp only[if_pos,if_neg g1,Nat.sub_self] at SAME
   have d3:na+0+2-((na:Int)+2).toNat=0:=by omega
   rw[d3] at SAME
   go_region_held3 (fun _=>True) (exact trivial) ((go_at_call 19;refine SAME.out.mono ?_;rintro e w8 ⟨rfl,hb8⟩;have HB8:=q0a hb8;clear hb8 SAME))
   go_wp2_with fail
   go_ret
   exact⟨rfl,q0e HBU.out (Nat.le_refl _) HB8.out⟩
  ·rw[if_neg g1,if_neg g2] at SAME
   go_region_held3 (fun _=>True) (exact trivial) ((go_at_call 19;refine SAME.out.mono ?_;rintro e w8 ⟨rfl,hb8⟩;have HB8:=q0a hb8;clear hb8 SAME))
   go_wp2_with fail
   go_ret
   exact⟨rfl,q0e HBU.out (Nat.le_refl _) HB8.out⟩

set_option maxRecDepth 100000 in
theorem qed(os:Os)(started:os.Started)(H:Type)(enc:TypeId × Value->H):
  ReturnsInHanded {} Tryz.checked os 6 .any (fun w args=>(Rows.topSavedSpec.pre enc Tryz.prog Tryz.f6 [] false w args/\laidMetH Tryz.prog q7k w)/\sizedMet enc Tryz.prog Tryz.f6 (OpenSpec.ofChange Rows.topSavedSpec) false w args)
   (Rows.topSavedSpec.post enc Tryz.prog Tryz.f6 false true false false):=by
 refine returnsInHanded_of_change_and (C:=Tryz.checked) (X:=fun w _=>laidMetH Tryz.prog q7k w) (fun _ _ _ hh h=>h.of_heap hh) own started (by kernel_rfl) Tryz.func6
  (ChangeSpec.witness_at (enc:=enc) (C:=Tryz.checked) (os:=os) (X:=fun w _=>laidMetH Tryz.prog q7k w) false (World.laidAll Tryz.prog os q7k) #[.slice none 0 0,.slice none 0 0] 8 (World.laidAll_os _ _ _) (by kernel_rfl) (by kernel_rfl) (by kernel_rfl) (by kernel_rfl) (by kernel_rfl)
   (by rw[MakeChecks.laidMetH_plain _ _ _ (by kernel_rfl)];exact laidMet_laidAll _ (by kernel_rfl) (by kernel_rfl))) ?_
 intro W base args ds gs before hval0 hW _ hsz0 hL _
 have hval:∀(j:Nat) t v,Tryz.f6.params[j]? =some t->args[j]? =some v->Value.okWide Tryz.prog W .any base t v:=hval0
 have hW':=hW
 obtain⟨p,q,hA0,hV,rfl,hfz,hnd⟩:=hW
 have hA:DataW.TrodAll enc Tryz.prog W 0 (fun _=>true) true Tryz.f6.params.toList args.toList ds p:=hA0
 have hsz:(DataW.weightsEach Tryz.prog (Tryz.f6.params.toList++Rows.topSavedSpec.plain.varTypes Tryz.prog) (ds++gs)).all (·<=reachBytes)=true:=hsz0
 rw[Tryz.params6] at hA hval hsz
 obtain⟨v0,vs0,d0,ds0,p0,q0,hargs,rfl,rfl,h0,r0⟩:=trodAll_cons hA
 obtain⟨v1,vs1,d1,ds1,p1,q1,rfl,rfl,rfl,h1,r1⟩:=trodAll_cons r0
 obtain⟨rfl,rfl,rfl⟩:=trodAll_nil r1
 obtain rfl:args=#[v0,v1]:=by cases args;simp_all
 obtain⟨rfl,rfl⟩:=trodVars_none hV
 have k0:=h0
 have lt0:∀x∈p0,x.block<W.heap.size:=by obtain⟨m,hm⟩:=k0;exact DataW.trod_lt m _ _ _ hm
 obtain⟨A0,C0,xs0,rfl,hR0,hz0,hw0⟩:=q5n (hval 0 22 v0 rfl rfl) h0 (fun n hn=>by
  have:=List.all_eq_true.1 hsz n (DataW.weights_mem_each (j:=0) (t:=22) rfl rfl n hn)
  exact of_decide_eq_true this)
 have k1:=h1
 have lt1:∀x∈p1,x.block<W.heap.size:=by obtain⟨m,hm⟩:=k1;exact DataW.trod_lt m _ _ _ hm
 obtain⟨A1,C1,xs1,rfl,hR1,hz1,hw1⟩:=q5n (hval 1 22 v1 rfl rfl) h1 (fun n hn=>by
  have:=List.all_eq_true.1 hsz n (DataW.weights_mem_each (j:=1) (t:=22) rfl rfl n hn)
  exact of_decide_eq_true this)
 clear hA0 hval0 hsz0
 refine(qhm A0 C0 xs0 A1 C1 xs1 W (qkt hL) hR0 hz0 hw0 hR1 hz1 hw1).mono fun e W' ⟨he,bel⟩=>?_
 subst he
 exact⟨_,rfl,_,_,_,[],_,[],hW',trodAll_mk1 (shut_bool Tryz.underlying4 _),(trodAll_cons_mk (Below.trod qdn (by kernel_rfl) (of_decide_eq_true (by kernel_rfl)) k0 bel lt0) (trodAll_cons_mk (Below.trod qdn (by kernel_rfl) (of_decide_eq_true (by kernel_rfl)) k1 bel lt1) trodAll_mk0)),rfl,bel.frame _,fun h=>by cases h⟩

theorem qey:Rows.TopSavedSaid:=
 OpenClaim.holds_of_wide 6 Tryz.f6 rfl rfl rfl rfl rfl rfl rfl ⟨rfl,rfl,rfl,rfl,rfl⟩ rfl rfl rfl rfl rfl (by kernel_rfl) Tryz.func6 (by kernel_rfl)
  (of_decide_eq_true (by kernel_rfl)) (by unfold Func.isWrapper;first|(rw[if_pos (by decide+kernel)];kernel_rfl)|(rw[if_neg (by decide+kernel)];exact⟨rfl,rfl⟩))
  (fun os started H enc _=>qed os started H enc)

theorem topSavedCard_holds:Rows.TopSavedCardSaid:=
 Claim7.holds_tied_plain_at .later [] [.data] true (true, "0657e646ef2f390bec603b8aca188c56945d5f7249e5dbb24548ab29f89e546d") false qey (fun _ h => by cases h) (by kernel_rfl) (fun _ h => by cases h) topSaved_row_tie rfl ⟨rfl, rfl⟩ (by kernel_rfl) rfl
  (fun f fn hf hfn=>by
   obtain rfl : f = 6 := Option.some.inj ((show Tryz.prog.funcNamed "winnower/winnowertop.TopSaved" = some 6 by kernel_rfl).symm.trans hf) |>.symm
   obtain rfl:fn=Tryz.f6:=(Option.some.inj (Tryz.func6.symm.trans hfn)).symm
   exact⟨by kernel_rfl,fun j t ht=>by
    rw[Tryz.params6] at ht
    have hm:t∈[22,22]:=by simpa using Array.mem_of_getElem? ht
    have hall:([22,22].all fun u=>!Tryz.prog.wantsStandIn u)=true:=by kernel_rfl
    exact(show Tryz.prog.wantsStandIn t=false by simpa using List.all_eq_true.1 hall t hm)⟩)
  (by kernel_rfl)
#print axioms topSavedCard_holds
end Go.Proofs.YtlojfgdpmaigmagGreatDoor

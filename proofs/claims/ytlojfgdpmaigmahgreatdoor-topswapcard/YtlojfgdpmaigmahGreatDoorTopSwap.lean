/- For every list of raw things and every two raw things: two points that are taken side by side may be taken in either order: the bytes of the base are the same. No condition beside the table of sizes, which is tied to the program's text. -/
import Derived.Test.YtlojfgdpmaigmahGreatDoorP54
import Derived.Test.YtlojfgdpmaigmahGreatDoorP50
import Derived.Test.YtlojfgdpmaigmahGreatDoorClAct
import Derived.Test.YtlojfgdpmaigmahGreatDoorP25
import Derived.Test.YtlojfgdpmaigmahGreatDoorLaidSz
import Derived.ChangeMaps5
namespace Go.Proofs.YtlojfgdpmaigmahGreatDoor
open Go.ChangeShapes Go.WideShapes Go.ChangeAt Go.RowKit Plain Go.Shelf

def putA(s:ByteArray)(t v:Int):Ac:=⟨1,s,t,0,0,v⟩
def q5d:List Ac:=[putA (nmS 0) 11999 0,putA (nmS 1) 11999 0,putA (nmS 2) 11999 0,putA (nmS 3) 11999 0]

theorem quj(m s:Mc)(x:ByteArray)(t v:Int):actM m s (putA x t v)=((putM m x t v).1,s,⟨(putM m x t v).2,zro,[]⟩):=by simp[actM,putA]

theorem qav{m:Mc}(h:MOk m)(i:Int):(putM m (nmS i) 11999 0).1.ss=q1x m.ss (nmS i):=by
 have hf:=h.f
 rw[qg9 h ⟨by omega,by omega⟩ ⟨by omega,by omega⟩,if_neg (by omega)]

theorem qr6{m s:Mc}(h:MOk m):MOk (runM m s q5d).1/\allN (runM m s q5d).1:=by
 have h0:=h.put (i:=0) (t:=11999) (v:=0) ⟨by omega,by omega⟩ ⟨by omega,by omega⟩
 have h1:=h0.put (i:=1) (t:=11999) (v:=0) ⟨by omega,by omega⟩ ⟨by omega,by omega⟩
 have h2:=h1.put (i:=2) (t:=11999) (v:=0) ⟨by omega,by omega⟩ ⟨by omega,by omega⟩
 have h3:=h2.put (i:=3) (t:=11999) (v:=0) ⟨by omega,by omega⟩ ⟨by omega,by omega⟩
 have e:(runM m s q5d).1=(putM (putM (putM (putM m (nmS 0) 11999 0).1 (nmS 1) 11999 0).1 (nmS 2) 11999 0).1 (nmS 3) 11999 0).1:=by
  simp only[q5d,runM,quj]
 rw[e]
 refine⟨h3,fun i=>?_⟩
 rw[qav h2,qav h1,qav h0,qav h]
 have:=qug i
 simp only[List.mem_cons,List.not_mem_nil,or_false] at this
 rcases this with h|h|h|h
 ·rw[h];exact q7r (q7r (q7r (qa4 _ _)))
 ·rw[h];exact q7r (q7r (qa4 _ _))
 ·rw[h];exact q7r (qa4 _ _)
 ·rw[h];exact qa4 _ _

theorem qxa{acs:List Ac}(ha:∀a∈acs,AcOk a){i j t u v z:Int}(ht:0<=t/\t<=11999)(hv: -1000000<=v/\v<=1000000)(hu:0<=u/\u<=11999)(hz: -1000000<=z/\z<=1000000):
  (runM mc0 mc0 (acs++q5d++[putA (nmS i) t v,putA (nmS j) u z])).1.ss=(runM mc0 mc0 (acs++q5d++[putA (nmS j) u z,putA (nmS i) t v])).1.ss/\(runM mc0 mc0 (acs++q5d++[putA (nmS i) t v,putA (nmS j) u z])).1.f=(runM mc0 mc0 (acs++q5d++[putA (nmS j) u z,putA (nmS i) t v])).1.f/\
   (runM mc0 mc0 (acs++q5d++[putA (nmS i) t v,putA (nmS j) u z])).1.pts.Perm (runM mc0 mc0 (acs++q5d++[putA (nmS j) u z,putA (nmS i) t v])).1.pts:=by
 have h0:=(MOk.run acs mok0 mok0 ha).1
 rw[q9w (acs++q5d),q9w (acs++q5d),q9w acs]
 simp only[runM,quj]
 obtain⟨h1,h2⟩:=qr6 (s:=(runM mc0 mc0 acs).2.1) h0
 exact qwx h1 h2 ht hv hu hz

theorem qxn{M M':Mc}{L L':List En}(hs:M.ss=M'.ss)(hf:M.f=M'.f)(hp:M.pts.Perm M'.pts)(h:KpY M L)(h':KpY M' L'):encB M.ss M.f L=encB M'.ss M'.f L':=by
 have e:=q5s (hp.map (ptIn M.ss)) (fun x hx=>by
  obtain⟨p,_,rfl⟩:=List.mem_map.1 hx
  exact Int.le_refl 1)
 have h1:=h.all
 have h2:=h'.all
 rw[<-hs,<-e] at h2
 have e2:L=L':=Option.some.inj (h1.symm.trans h2)
 rw[hs,hf,e2]

theorem qie(xs:List Rw)(n:Nat):∀a∈(xs.take n).map q6m,a.s.size<=140737488351232:=fun a ha=>by
 obtain⟨x,_,rfl⟩:=List.mem_map.1 ha
 have:=(qgl x).sz
 omega

theorem qgu(xs:List Rw)(n:Nat):((xs.take n).map q6m).length<=n:=by
 rw[List.length_map,List.length_take]
 omega

set_option maxRecDepth 20000 in
set_option maxHeartbeats 1000000 in
theorem qi3(k a b c:Int)(w:World)(hk:i64B k)(ha:i64B a)(hb:i64B b):
  Calls Tryz.prog 5 #[.agg #[.int .i64 k,.int .i64 a,.int .i64 b,.int .i64 c]] w fun e w'=>e=.returned (.agg #[.int .i64 1,.string (nmS (pick k 4)),.int .i64 (pick a 12000),.int .i64 0,.int .i64 0,.int .i64 (pick b 2000-1000)])/\Below w.heap.size w w':=by
 have con:=q0a fun W=>qf7 k a b c W hk ha hb
 obtain⟨s,hs⟩:∃s,nmS (pick k 4)=s:=⟨_,rfl⟩
 obtain⟨t,ht⟩:∃t,pick a 12000=t:=⟨_,rfl⟩
 obtain⟨v,hv⟩:∃v,pick b 2000-1000=v:=⟨_,rfl⟩
 rw[hs,ht,hv] at con ⊢
 clear hs ht hv hk ha hb
 go_enter Tryz.func5,Tryz.ntmps5
 have RZ:=(q0b (w.alloc (.cells #[.int .i64 k,.int .i64 a,.int .i64 b,.int .i64 c] 24)) [.int .i64 0,.string ByteArray.empty,.int .i64 0,.int .i64 0,.int .i64 0,.int .i64 0] 26)
 have HZ:=q0a (q9k w (.cells #[.int .i64 k,.int .i64 a,.int .i64 b,.int .i64 c] 24) (.cells #[.int .i64 0,.string ByteArray.empty,.int .i64 0,.int .i64 0,.int .i64 0,.int .i64 0] 26))
 rw[show(w.alloc (.cells #[.int .i64 k,.int .i64 a,.int .i64 b,.int .i64 c] 24)).heap.size=w.heap.size+1 by simp] at RZ
 go_upto_region 2 with(go_at_call 6;refine(con.out _).mono ?_;rintro e w3 ⟨rfl,hb3⟩;have HB3:=q0a (q0e HZ.out (Nat.le_refl _) hb3);have R3:=RZ.below hb3 RZ.lt;clear hb3)
 obtain⟨wp,hwp⟩:∃wp,wp=w3.alloc (.cells #[.string s,.int .i64 t,.int .i64 v] 28):=⟨_,rfl⟩
 have PD:RowL wp w3.heap.size 28 [.string s,.int .i64 t,.int .i64 v]:=by rw[hwp];exact q0b w3 _ _
 have RP:RowL wp (w.heap.size+1) 26 [.int .i64 0,.string ByteArray.empty,.int .i64 0,.int .i64 0,.int .i64 0,.int .i64 0]:=by rw[hwp];exact q9s R3 _
 have HP:Below w.heap.size w wp:=by rw[hwp];exact HB3.out.alloc HB3.out.size _
 rw[<-hwp]
 have hne:w3.heap.size≠w.heap.size+1:=Nat.ne_of_gt R3.lt
 obtain⟨pb,hpb⟩:∃pb,pb=w3.heap.size:=⟨_,rfl⟩
 obtain⟨rb,hrb⟩:∃rb,rb=w.heap.size+1:=⟨_,rfl⟩
 have hlb:w.heap.size<=rb:=by omega
 rw[<-hpb] at PD hne ⊢
 rw[<-hrb] at RP hne ⊢
 clear hwp hpb hrb R3 RZ HZ HB3
 have p0:=fun j=>PD.cell j
 have r0:=fun j=>RP.cell j
 have rf:=fun j=>RP.frozen j
 have rl:=RP.lt
 have pl:=PD.lt
 have R6:=q9g RP (.int .i64 1) (.string s) (.int .i64 t) (.int .i64 0) (.int .i64 0) (.int .i64 v)
 have r6:=fun j=>R6.cell j
 simp only[st6] at r6
 go_wp2_with fail
 refine bodyPost_ret (v:=.agg #[.int .i64 1,.string s,.int .i64 t,.int .i64 0,.int .i64 0,.int .i64 v]) (by simp[results,Tryz.results5,go_sem,r6]) rfl ⟨rfl,?_⟩
 exact q5m HP hlb _ _ _ _ _ _

theorem qqg{w:World}{vb:Nat}{t:TypeId}{l:List Ac}(hv:RowL w vb t (q1f l)):∀j u,(q1f l)[j]? =some u->w.cell? (Addr.add ⟨vb,0,none⟩ j)=some u:=by
 intro j u hu
 rw[WideShapes.add_plain,Nat.zero_add,hv.cell]
 exact hu

theorem qg1{acs:List Ac}{na g C base:Nat}{s1 s2:ByteArray}{t1 t2 v1 v2:Int}{M S:Mc}{Y:List An}{w:World}(hM:runM mc0 mc0 (acs++q5d++[putA s1 t1 v1,putA s2 t2 v2])=(M,S,Y))(hna:acs.length=na)(hlen:na<=30)(hok:∀a∈acs,AcOk a)(hZ:SzAt w)(ho:w.ownsRow base 26 6 (.slice (some ⟨g,0,none⟩) (na+4+2) C) (na+4+2) (q1f (acs++q5d)++q1f [putA s1 t1 v1,putA s2 t2 v2]))(_:true=true)(h1:s1.size<=6)(h2:s2.size<=6):
  Calls Tryz.prog 8 #[.slice (some ⟨g,0,none⟩) (na+4+2) C] w (z2n M w):=by
 obtain⟨VA2,VC2,hv2,-,-,-,hrow⟩:=q0g ho
 cases hv2
 rw[<-q5v] at hrow
 refine qxk hM (by simp[q5d,hna]) hZ hrow (fun a ha=>?_) (by omega)
 rcases List.mem_append.1 ha with h|h
 ·rcases List.mem_append.1 h with h|h
  ·have:=(hok a h).sz
   omega
  ·simp only[q5d,List.mem_cons,List.not_mem_nil,or_false] at h
   have:a.s.size<=6:=by
    rcases h with rfl|rfl|rfl|rfl
    ·exact q8r 0
    ·exact q8r 1
    ·exact q8r 2
    ·exact q8r 3
   omega
 ·simp only[List.mem_cons,List.not_mem_nil,or_false] at h
  have:a.s.size<=6:=by
   rcases h with rfl|rfl
   ·exact h1
   ·exact h2
  omega

set_option maxRecDepth 20000 in
set_option maxHeartbeats 4000000 in
theorem qhy(A:Option Addr)(C:Nat)(xs:List Rw)(k1 a1 b1 c1 k2 a2 b2 c2:Int)(w:World)(hZ:SzAt w)(hA:q0i w.heap.size w A (qcu xs))(_:xs.length*32<=140737488351232)(hwf:∀x∈xs,x.wf)(hx:i64B k1/\i64B a1/\i64B b1/\i64B c1)(hy:i64B k2/\i64B a2/\i64B b2/\i64B c2):
  Calls Tryz.prog 3 #[.slice A xs.length C,.agg #[.int .i64 k1,.int .i64 a1,.int .i64 b1,.int .i64 c1],.agg #[.int .i64 k2,.int .i64 a2,.int .i64 b2,.int .i64 c2]] w fun e w'=>e=.returned (.bool true)/\Below w.heap.size w w':=by
 have SW:Hid (∀(k a b c:Int) W,(k=k1/\a=a1/\b=b1\/k=k2/\a=a2/\b=b2)->Calls Tryz.prog 5 #[.agg #[.int .i64 k,.int .i64 a,.int .i64 b,.int .i64 c]] W fun e w'=>e=.returned (.agg #[.int .i64 1,.string (nmS (pick k 4)),.int .i64 (pick a 12000),.int .i64 0,.int .i64 0,.int .i64 (pick b 2000-1000)])/\Below W.heap.size W w'):=fun k a b c W h=>by
  rcases h with⟨rfl,rfl,rfl⟩|⟨rfl,rfl,rfl⟩
  ·exact qi3 _ _ _ c W hx.1 hx.2.1 hx.2.2.1
  ·exact qi3 _ _ _ c W hy.1 hy.2.1 hy.2.2.1
 have p1:=q3u a1 (show(0:Int)<12000 by decide)
 have p2:=q3u b1 (show(0:Int)<2000 by decide)
 have p3:=q3u a2 (show(0:Int)<12000 by decide)
 have p4:=q3u b2 (show(0:Int)<2000 by decide)
 have AC:=q0a fun W (hW:Below w.heap.size w W)=>qmx A C xs 30 W (hA.up hW) hwf (by decide) (by decide)
 have hok:∀a∈(xs.take (30:Int).toNat).map q6m,AcOk a:=fun a ha=>by
  obtain⟨x,_,rfl⟩:=List.mem_map.1 ha
  exact qgl x
 have hlen:=qgu xs (30:Int).toNat
 obtain⟨acs,has⟩:∃acs,(xs.take (30:Int).toNat).map q6m=acs:=⟨_,rfl⟩
 rw[has] at AC hok hlen
 have hlen:acs.length<=30:=hlen
 obtain⟨M1,Z1,Y1,hM1⟩:∃M S Y,runM mc0 mc0 (acs++q5d++[putA (nmS (pick k1 4)) (pick a1 12000) (pick b1 2000-1000),putA (nmS (pick k2 4)) (pick a2 12000) (pick b2 2000-1000)])=(M,S,Y):=⟨_,_,_,rfl⟩
 obtain⟨M2,Z2,Y2,hM2⟩:∃M S Y,runM mc0 mc0 (acs++q5d++[putA (nmS (pick k2 4)) (pick a2 12000) (pick b2 2000-1000),putA (nmS (pick k1 4)) (pick a1 12000) (pick b1 2000-1000)])=(M,S,Y):=⟨_,_,_,rfl⟩
 have hsw:=qxa hok (i:=pick k1 4) (j:=pick k2 4) (t:=pick a1 12000) (u:=pick a2 12000) (v:=pick b1 2000-1000) (z:=pick b2 2000-1000) ⟨by omega,by omega⟩ ⟨by omega,by omega⟩ ⟨by omega,by omega⟩ ⟨by omega,by omega⟩
 rw[hM1,hM2] at hsw
 have HSW:=q0a hsw
 have q1:(nmS (pick k1 4)).size<=6:=q8r _
 have q2:(nmS (pick k2 4)).size<=6:=q8r _
 obtain⟨s1,hs1⟩:∃s,nmS (pick k1 4)=s:=⟨_,rfl⟩
 obtain⟨s2,hs2⟩:∃s,nmS (pick k2 4)=s:=⟨_,rfl⟩
 obtain⟨t1,ht1⟩:∃s,pick a1 12000=s:=⟨_,rfl⟩
 obtain⟨t2,ht2⟩:∃s,pick a2 12000=s:=⟨_,rfl⟩
 obtain⟨v1,hv1⟩:∃s,pick b1 2000-1000=s:=⟨_,rfl⟩
 obtain⟨v2,hv2⟩:∃s,pick b2 2000-1000=s:=⟨_,rfl⟩
 rw[hs1] at q1
 rw[hs2] at q2
 have HS1:=q0a hs1
 have HS2:=q0a hs2
 have HT1:=q0a ht1
 have HT2:=q0a ht2
 have HV1:=q0a hv1
 have HV2:=q0a hv2
 rw[hs1,ht1,hv1,hs2,ht2,hv2] at hM1 hM2
 have HM1:=q0a hM1
 have HM2:=q0a hM2
 have HZ:=q0a hZ
 have HOK:=q0a hok
 obtain⟨na,hna⟩:∃na,acs.length=na:=⟨_,rfl⟩
 have HNA:=q0a hna
 rw[hna] at AC hlen
 have hl4:(acs++q5d).length=na+4:=by simp[q5d,hna]
 have HL4:=q0a hl4
 clear hZ hok has hA hwf hx hy hs1 hs2 ht1 ht2 hv1 hv2 hM1 hM2 hsw hna hl4 p1 p2 p3 p4
 obtain⟨i0,hi0,hz0,hz1,hz2⟩:=info_parts qnh
 have XB0:=(q0b w [.int .i64 k1,.int .i64 a1,.int .i64 b1,.int .i64 c1] 24)
 have XB:=q9s XB0 (.cells #[.int .i64 k2,.int .i64 a2,.int .i64 b2,.int .i64 c2] 24)
 have YB:=q0b (w.alloc (.cells #[.int .i64 k1,.int .i64 a1,.int .i64 b1,.int .i64 c1] 24)) [.int .i64 k2,.int .i64 a2,.int .i64 b2,.int .i64 c2] 24
 rw[show(w.alloc (.cells #[.int .i64 k1,.int .i64 a1,.int .i64 b1,.int .i64 c1] 24)).heap.size=w.heap.size+1 by simp] at YB
 have HB0:=q0a (q9k w (.cells #[.int .i64 k1,.int .i64 a1,.int .i64 b1,.int .i64 c1] 24) (.cells #[.int .i64 k2,.int .i64 a2,.int .i64 b2,.int .i64 c2] 24))
 clear XB0
 go_enter Tryz.func3,Tryz.ntmps3
 go_upto_region 2 with fail
 obtain⟨w0,hw0⟩:∃w0,w0=(w.alloc (.cells #[.int .i64 k1,.int .i64 a1,.int .i64 b1,.int .i64 c1] 24)).alloc (.cells #[.int .i64 k2,.int .i64 a2,.int .i64 b2,.int .i64 c2] 24):=⟨_,rfl⟩
 rw[<-hw0] at XB YB HB0 ⊢
 clear hw0
 obtain⟨xb,hxb⟩:∃xb,xb=w.heap.size:=⟨_,rfl⟩
 obtain⟨yb,hyb⟩:∃yb,yb=w.heap.size+1:=⟨_,rfl⟩
 have hxy:xb≠yb:=by omega
 have HXB:=q0a hxb
 rw[<-hyb] at YB ⊢
 rw[<-hxb] at XB ⊢
 clear hxb hyb
 go_upto_region 3 with(first
  |(go_at_call 7;refine(AC.out _ (by exact HB0.out)).mono ?_;rintro e w1 ⟨v,rfl,hown,hb1⟩;obtain⟨VA,VC,hv,-,-,-,-⟩:=q0g hown;subst hv;have HO1:=q0a hown;have HB1:=q0a hb1;have hs1:=hb1.size;clear hb1 hown AC)
  |(at_builtin;refine wpList_append_own _ rfl _ _ 31 rfl w0.heap.size 26 i0 _ 6 56 Tryz.underlying31 hi0 hz0 hz1 hz2 rfl (by decide) (.slice VA na VC) na (q1f acs) rfl (q1u HO1.out ((Below.refl _ _).alloc (Nat.le_refl _) _)) ⟨w1.heap.size,0,none⟩ 4 4 (q1f q5d) rfl rfl (qqg (q0b w1 (q1f q5d) 26)) (q2q _) (by unfold maxLen;omega) (by omega) (by simp;omega) ?_;intro v2 ws hown2 hgrow2 _;obtain⟨VA2,VC2,hv2,hna2,hnc2,-,hrow2⟩:=q0g hown2;subst hv2;have HB2:=q0a (qbk (HB1.out.alloc hs1 (.cells (q1f q5d).toArray 26)) (by simp;omega) hgrow2 (fun q hq=>(HO1.out.lt q hq).1))))
 rw[<-q5v] at hrow2
 have HRW:=q0a hrow2
 have CL:Hid (∀W,Below ws.heap.size ws W->Calls Tryz.prog 9 #[.slice VA2 (na+4) VC2] W fun e w'=>∃v,e=.returned v/\w'.ownsRow W.heap.size 26 6 v (na+4) (q1f (acs++q5d))/\Below W.heap.size W w'):=fun W hW=>by
  have h:=qkn VA2 VC2 (acs++q5d) W (HRW.out.up hW) (fun e=>by have:=hna2 e;omega) (by rw[HL4.out];omega)
  rw[HL4.out] at h
  exact h
 have HWS:=q0a (q0e HB0.out (Nat.le_refl _) HB2.out)
 have KB:Hid (∀W,Below ws.heap.size ws W->W.cell? ⟨xb,0,none⟩=some (.int .i64 k1)/\W.cell? ⟨xb,1,none⟩=some (.int .i64 a1)/\W.cell? ⟨xb,2,none⟩=some (.int .i64 b1)/\W.cell? ⟨xb,3,none⟩=some (.int .i64 c1)/\W.cell? ⟨yb,0,none⟩=some (.int .i64 k2)/\W.cell? ⟨yb,1,none⟩=some (.int .i64 a2)/\W.cell? ⟨yb,2,none⟩=some (.int .i64 b2)/\W.cell? ⟨yb,3,none⟩=some (.int .i64 c2)):=fun W hW=>by
  have X:=(XB.below HB2.out XB.lt).below hW (Nat.lt_of_lt_of_le XB.lt HB2.out.size)
  have Y:=(YB.below HB2.out YB.lt).below hW (Nat.lt_of_lt_of_le YB.lt HB2.out.size)
  exact⟨X.cell 0,X.cell 1,X.cell 2,X.cell 3,Y.cell 0,Y.cell 1,Y.cell 2,Y.cell 3⟩
 have hxs:xb<ws.heap.size:=Nat.lt_of_lt_of_le XB.lt HB2.out.size
 have HX0:=q0a (Below.refl ws.heap.size ws)
 have hX0:=KB.out ws HX0.out
 obtain⟨m0,m1,m2,m3,n0,n1,n2,n3⟩:=hX0
 have ne1:=World.new_ne ws ⟨xb,0,none⟩ m0
 have ne2:=World.new_ne ws ⟨yb,0,none⟩ n0
 clear hgrow2 hown2 hrow2 HO1 HB1 hs1 XB YB
 go_region_held3 (fun w'=>w'.cell? ⟨xb,0,none⟩=some (.int .i64 k1)/\w'.cell? ⟨xb,1,none⟩=some (.int .i64 a1)/\w'.cell? ⟨xb,2,none⟩=some (.int .i64 b1)/\w'.cell? ⟨xb,3,none⟩=some (.int .i64 c1)/\w'.cell? ⟨yb,0,none⟩=some (.int .i64 k2)/\w'.cell? ⟨yb,1,none⟩=some (.int .i64 a2)/\w'.cell? ⟨yb,2,none⟩=some (.int .i64 b2)/\w'.cell? ⟨yb,3,none⟩=some (.int .i64 c2)) (go_keep)
  (first
   |(go_at_call 9;refine(CL.out _ (by exact HX0.out.drew)).mono ?_;rintro e u3a ⟨v,rfl,hown,hb3⟩;obtain⟨LA3,LC3,hv,-,-,-,-⟩:=q0g hown;subst hv;have HO:=q0a hown;have HX:Below ws.heap.size ws u3a:=q0e (Below.refl ws.heap.size ws).drew (Nat.le_refl _) hb3;obtain⟨d0,d1,d2,d3,f0,f1,f2,f3⟩:=KB.out _ (q0e HX0.out (Nat.le_refl _) HX);have HY:=Below.refl u3a.heap.size u3a;clear hown hb3)
   |(go_at_call 5;refine(SW.out _ _ _ _ _ (by first|exact Or.inl ⟨rfl,rfl,rfl⟩|exact Or.inr ⟨rfl,rfl,rfl⟩)).mono ?_;rintro e u3b ⟨he,hb4⟩;simp only[HS1.out,HS2.out,HT1.out,HT2.out,HV1.out,HV2.out] at he;subst he;have HX:=q0e HX (Nat.le_refl _) hb4;have hs4:=HX.size;have HY:=q0e HY (Nat.le_refl _) hb4;obtain⟨d0,d1,d2,d3,f0,f1,f2,f3⟩:=KB.out _ (q0e HX0.out (Nat.le_refl _) HX);clear hb4)
   |(refine step_append_lies _ rfl (.tmp 23) (.tmp 30) 31 rfl ws.heap.size 26 i0 _ 6 56 Tryz.underlying31 hi0 hz0 hz1 hz2 rfl (by decide) (.slice LA3 (na+4) LC3) (na+4) (q1f (acs++q5d)) (by simp[Act.eval]) (q1u HO.out (q0e HY (Nat.le_refl _) ((Below.refl _ _).alloc (Nat.le_refl _) _))) ⟨u3b.heap.size,0,none⟩ 2 2 (q1f [putA s1 t1 v1,putA s2 t2 v2]) (by simp[Act.eval]) rfl (qqg (q0b u3b (q1f [putA s1 t1 v1,putA s2 t2 v2]) 26)) (q2q _) (by decide) (by unfold maxLen;omega) (by omega) (by simp;omega) (u3b.heap.size+1) (by simp) ?_;intro g3 C3 u3c hown5 hgrow5 hat5 hlt5;have HXa:=q0e HX (Nat.le_refl _) ((Below.refl _ _).alloc (Nat.le_refl _) (.cells (q1f [putA s1 t1 v1,putA s2 t2 v2]).toArray 26));have HG:Below ws.heap.size ws u3c:=qbk HXa HXa.size hgrow5 (fun q hq=>(HO.out.lt q hq).1);obtain⟨d0,d1,d2,d3,f0,f1,f2,f3⟩:=KB.out _ (q0e HX0.out (Nat.le_refl _) HG);have HO5:=q0a hown5;have HG:=q0a HG)
   |(go_at_call 8;refine(qg1 HM1.out HNA.out hlen HOK.out (HZ.out.below (q0e HWS.out (Nat.le_refl _) (q0e HX0.out (Nat.le_refl _) HG.out))) HO5.out rfl q1 q2).mono ?_;rintro e u3d ⟨y3,p3,L3,he,hy,hL,hb⟩;have HL3:=q0a hL;obtain⟨kn,hkn⟩:∃kn,(encB M1.ss M1.f L3).length=kn:=⟨_,rfl⟩;have HKN:=q0a hkn;rw[hkn] at he;have HY1:=q0a hy;have HX6:Below ws.heap.size ws u3d:=q0e HX0.out (Nat.le_refl _) (q0e HG.out (Nat.le_refl _) hb);obtain⟨d0,d1,d2,d3,f0,f1,f2,f3⟩:=KB.out _ HX6;have HX6:=q0a HX6;clear hy hL hb hkn;subst he))
 clear HO HO5 HG hown5 hgrow5 hat5 hlt5 HXa d0 d1 d2 d3 f0 f1 f2 f3 HX HY hs4
 obtain⟨o0,o1,o2,o3,r0,r1,r2,r3⟩:=KB.out _ HX6.out
 have nf1:=World.new_ne u3d ⟨xb,0,none⟩ o0
 have nf2:=World.new_ne u3d ⟨yb,0,none⟩ r0
 go_upto_region 4 with fail
 go_region_held3 (fun w'=>w'.cell? ⟨xb,0,none⟩=some (.int .i64 k1)/\w'.cell? ⟨xb,1,none⟩=some (.int .i64 a1)/\w'.cell? ⟨xb,2,none⟩=some (.int .i64 b1)/\w'.cell? ⟨xb,3,none⟩=some (.int .i64 c1)/\w'.cell? ⟨yb,0,none⟩=some (.int .i64 k2)/\w'.cell? ⟨yb,1,none⟩=some (.int .i64 a2)/\w'.cell? ⟨yb,2,none⟩=some (.int .i64 b2)/\w'.cell? ⟨yb,3,none⟩=some (.int .i64 c2)) (go_keep)
  (first
   |(go_at_call 9;refine(CL.out _ (by exact HX6.out.drew)).mono ?_;rintro e u4a ⟨v,rfl,hown,hb3⟩;obtain⟨LA4,LC4,hv,-,-,-,-⟩:=q0g hown;subst hv;have HO:=q0a hown;have HX:Below u3d.heap.size u3d u4a:=q0e (Below.refl u3d.heap.size u3d).drew (Nat.le_refl _) hb3;obtain⟨d0,d1,d2,d3,f0,f1,f2,f3⟩:=KB.out _ (q0e HX6.out (Nat.le_refl _) HX);have HY:=Below.refl u4a.heap.size u4a;clear hown hb3)
   |(go_at_call 5;refine(SW.out _ _ _ _ _ (by first|exact Or.inl ⟨rfl,rfl,rfl⟩|exact Or.inr ⟨rfl,rfl,rfl⟩)).mono ?_;rintro e u4b ⟨he,hb4⟩;simp only[HS1.out,HS2.out,HT1.out,HT2.out,HV1.out,HV2.out] at he;subst he;have HX:=q0e HX (Nat.le_refl _) hb4;have hs4:=HX.size;have HY:=q0e HY (Nat.le_refl _) hb4;obtain⟨d0,d1,d2,d3,f0,f1,f2,f3⟩:=KB.out _ (q0e HX6.out (Nat.le_refl _) HX);clear hb4)
   |(refine step_append_lies _ rfl (.tmp 37) (.tmp 44) 31 rfl u3d.heap.size 26 i0 _ 6 56 Tryz.underlying31 hi0 hz0 hz1 hz2 rfl (by decide) (.slice LA4 (na+4) LC4) (na+4) (q1f (acs++q5d)) (by simp[Act.eval]) (q1u HO.out (q0e HY (Nat.le_refl _) ((Below.refl _ _).alloc (Nat.le_refl _) _))) ⟨u4b.heap.size,0,none⟩ 2 2 (q1f [putA s2 t2 v2,putA s1 t1 v1]) (by simp[Act.eval]) rfl (qqg (q0b u4b (q1f [putA s2 t2 v2,putA s1 t1 v1]) 26)) (q2q _) (by decide) (by unfold maxLen;omega) (by omega) (by simp;omega) (u4b.heap.size+1) (by simp) ?_;intro g4 C4 u4c hown5 hgrow5 hat5 hlt5;have HXa:=q0e HX (Nat.le_refl _) ((Below.refl _ _).alloc (Nat.le_refl _) (.cells (q1f [putA s2 t2 v2,putA s1 t1 v1]).toArray 26));have HG:Below u3d.heap.size u3d u4c:=qbk HXa HXa.size hgrow5 (fun q hq=>(HO.out.lt q hq).1);obtain⟨d0,d1,d2,d3,f0,f1,f2,f3⟩:=KB.out _ (q0e HX6.out (Nat.le_refl _) HG);have HO5:=q0a hown5;have HG:=q0a HG)
   |(go_at_call 8;refine(qg1 HM2.out HNA.out hlen HOK.out (HZ.out.below (q0e HWS.out (Nat.le_refl _) (q0e HX6.out (Nat.le_refl _) HG.out))) HO5.out rfl q2 q1).mono ?_;rintro e u4d ⟨y4,p4,L4,he,hy,hL,hb⟩;have HL4:=q0a hL;have e34:=qxn HSW.out.1 HSW.out.2.1 HSW.out.2.2 HL3.out hL;rw[<-e34] at he hy;rw[HKN.out] at he;have HY2:=q0a hy;have HX7:Below ws.heap.size ws u4d:=q0e HX6.out (Nat.le_refl _) (q0e HG.out (Nat.le_refl _) hb);obtain⟨d0,d1,d2,d3,f0,f1,f2,f3⟩:=KB.out _ HX7;have HX7:=q0a HX7;have HW:=q0a (q0e HG.out (Nat.le_refl _) hb);clear hy hL hb;subst he))
 clear HO HO5 HG hown5 hgrow5 hat5 hlt5 HXa d0 d1 d2 d3 f0 f1 f2 f3 HX HY hs4
 have hu:=q0a (qli M1.ss M1.f L3)
 have hy1:=HY1.out.below HW.out (Nat.le_refl _)
 have st1:=q5q hy1 hu.out
 have st2:=q5q HY2.out hu.out
 rw[HKN.out] at st1 st2
 obtain⟨ST,hST⟩:∃ST,q9b (encB M1.ss M1.f L3)=ST:=⟨_,rfl⟩
 rw[hST] at st1 st2
 clear hy1 hST
 go_wp2_with fail
 go_ret
 exact⟨rfl,q0e HWS.out (Nat.le_refl _) HX7.out⟩

set_option maxRecDepth 100000 in
theorem qev(os:Os)(started:os.Started)(H:Type)(enc:TypeId × Value->H):
  ReturnsInHanded {} Tryz.checked os 3 .any (fun w args=>(Rows.topSwapSpec.pre enc Tryz.prog Tryz.f3 [] false w args/\laidMetH Tryz.prog qaa w)/\sizedMet enc Tryz.prog Tryz.f3 (OpenSpec.ofChange Rows.topSwapSpec) false w args)
   (Rows.topSwapSpec.post enc Tryz.prog Tryz.f3 false true false false):=by
 refine returnsInHanded_of_change_and (C:=Tryz.checked) (X:=fun w _=>laidMetH Tryz.prog qaa w) (fun _ _ _ hh h=>h.of_heap hh) own started (by kernel_rfl) Tryz.func3
  (ChangeSpec.witness_at (enc:=enc) (C:=Tryz.checked) (os:=os) (X:=fun w _=>laidMetH Tryz.prog qaa w) false (World.laidAll Tryz.prog os qaa) #[.slice none 0 0,.agg #[.int .i64 0,.int .i64 0,.int .i64 0,.int .i64 0],.agg #[.int .i64 0,.int .i64 0,.int .i64 0,.int .i64 0]] 8 (World.laidAll_os _ _ _) (by kernel_rfl) (by kernel_rfl) (by kernel_rfl) (by kernel_rfl) (by kernel_rfl)
   (by rw[MakeChecks.laidMetH_plain _ _ _ (by kernel_rfl)];exact laidMet_laidAll _ (by kernel_rfl) (by kernel_rfl))) ?_
 intro W base args ds gs before hval0 hW _ hsz0 hL _
 have hval:∀(j:Nat) t v,Tryz.f3.params[j]? =some t->args[j]? =some v->Value.okWide Tryz.prog W .any base t v:=hval0
 have hW':=hW
 obtain⟨p,q,hA0,hV,rfl,hfz,hnd⟩:=hW
 have hA:DataW.TrodAll enc Tryz.prog W 0 (fun _=>true) true Tryz.f3.params.toList args.toList ds p:=hA0
 have hsz:(DataW.weightsEach Tryz.prog (Tryz.f3.params.toList++Rows.topSwapSpec.plain.varTypes Tryz.prog) (ds++gs)).all (·<=reachBytes)=true:=hsz0
 rw[Tryz.params3] at hA hval hsz
 obtain⟨v0,vs0,d0,ds0,p0,q0,hargs,rfl,rfl,h0,r0⟩:=trodAll_cons hA
 obtain⟨v1,vs1,d1,ds1,p1,q1,rfl,rfl,rfl,h1,r1⟩:=trodAll_cons r0
 obtain⟨v2,vs2,d2,ds2,p2,q2,rfl,rfl,rfl,h2,r2⟩:=trodAll_cons r1
 obtain⟨rfl,rfl,rfl⟩:=trodAll_nil r2
 obtain rfl:args=#[v0,v1,v2]:=by cases args;simp_all
 obtain⟨rfl,rfl⟩:=trodVars_none hV
 have k0:=h0
 have lt0:∀x∈p0,x.block<W.heap.size:=by obtain⟨m,hm⟩:=k0;exact DataW.trod_lt m _ _ _ hm
 obtain⟨A0,C0,xs0,rfl,hR0,hz0,hw0⟩:=qcd (hval 0 22 v0 rfl rfl) h0 (fun n hn=>by
  have:=List.all_eq_true.1 hsz n (DataW.weights_mem_each (j:=0) (t:=22) rfl rfl n hn)
  exact of_decide_eq_true this)
 have k1:=h1
 have lt1:∀x∈p1,x.block<W.heap.size:=by obtain⟨m,hm⟩:=k1;exact DataW.trod_lt m _ _ _ hm
 obtain⟨kk1,aa1,bb1,cc1,rfl,w1⟩:=qm9 rfl (hval 1 24 v1 rfl rfl) h1
 have k2:=h2
 have lt2:∀x∈p2,x.block<W.heap.size:=by obtain⟨m,hm⟩:=k2;exact DataW.trod_lt m _ _ _ hm
 obtain⟨kk2,aa2,bb2,cc2,rfl,w2⟩:=qm9 rfl (hval 2 24 v2 rfl rfl) h2
 clear hA0 hval0 hsz0
 refine(qhy A0 C0 xs0 kk1 aa1 bb1 cc1 kk2 aa2 bb2 cc2 W (qsw hL) hR0 hz0 hw0 w1 w2).mono fun e W' ⟨he,bel⟩=>?_
 subst he
 exact⟨_,rfl,_,_,_,[],_,[],hW',trodAll_mk1 (shut_bool Tryz.underlying4 _),(trodAll_cons_mk (Below.trod qek (by kernel_rfl) (of_decide_eq_true (by kernel_rfl)) k0 bel lt0) (trodAll_cons_mk (Below.trod qek (by kernel_rfl) (of_decide_eq_true (by kernel_rfl)) k1 bel lt1) (trodAll_cons_mk (Below.trod qek (by kernel_rfl) (of_decide_eq_true (by kernel_rfl)) k2 bel lt2) trodAll_mk0))),rfl,bel.frame _,fun h=>by cases h⟩

theorem qha:Rows.TopSwapSaid:=
 OpenClaim.holds_of_wide 3 Tryz.f3 rfl rfl rfl rfl rfl rfl rfl ⟨rfl,rfl,rfl,rfl,rfl⟩ rfl rfl rfl rfl rfl (by kernel_rfl) Tryz.func3 (by kernel_rfl)
  (of_decide_eq_true (by kernel_rfl)) (by unfold Func.isWrapper;first|(rw[if_pos (by decide+kernel)];kernel_rfl)|(rw[if_neg (by decide+kernel)];exact⟨rfl,rfl⟩))
  (fun os started H enc _=>qev os started H enc)

theorem topSwapCard_holds:Rows.TopSwapCardSaid:=
 Claim7.holds_tied_plain_at .later [] [.data] true (true, "f89f3244ba71e73d68727402376487bd54bd4ab62c1a8cd1efe6194e4f806b64") false qha (fun _ h => by cases h) (by kernel_rfl) (fun _ h => by cases h) topSwap_row_tie rfl ⟨rfl, rfl⟩ (by kernel_rfl) rfl
  (fun f fn hf hfn=>by
   obtain rfl : f = 3 := Option.some.inj ((show Tryz.prog.funcNamed "winnower/winnowertop.TopSwap" = some 3 by kernel_rfl).symm.trans hf) |>.symm
   obtain rfl:fn=Tryz.f3:=(Option.some.inj (Tryz.func3.symm.trans hfn)).symm
   exact⟨by kernel_rfl,fun j t ht=>by
    rw[Tryz.params3] at ht
    have hm:t∈[22,24,24]:=by simpa using Array.mem_of_getElem? ht
    have hall:([22,24,24].all fun u=>!Tryz.prog.wantsStandIn u)=true:=by kernel_rfl
    exact(show Tryz.prog.wantsStandIn t=false by simpa using List.all_eq_true.1 hall t hm)⟩)
  (by kernel_rfl)
#print axioms topSwapCard_holds
end Go.Proofs.YtlojfgdpmaigmahGreatDoor

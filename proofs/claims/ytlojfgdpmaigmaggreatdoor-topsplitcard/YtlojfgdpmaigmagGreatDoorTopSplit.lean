/- For every list of raw things and every three numbers: two times side by side together tell what both tell at once. No condition beside the table of sizes, which is tied to the program's text. -/
import Derived.Test.YtlojfgdpmaigmagGreatDoorP55
import Derived.Test.YtlojfgdpmaigmagGreatDoorActsWalk
import Derived.Test.YtlojfgdpmaigmagGreatDoorP52
import Derived.Test.YtlojfgdpmaigmagGreatDoorSort3
import Derived.Test.YtlojfgdpmaigmagGreatDoorLaidSz
import Derived.ChangeMaps5
namespace Go.Proofs.YtlojfgdpmaigmagGreatDoor
open Go.ChangeShapes Go.WideShapes Go.ChangeAt Go.RowKit Plain Go.Shelf

def putA(s:ByteArray)(t v:Int):Ac:=⟨1,s,t,0,0,v⟩
def sumA(s:ByteArray)(a b:Int):Ac:=⟨3,s,a,b,0,0⟩
def cpu:ByteArray:=⟨#[99,112,117]⟩
theorem qpn:nmS 0=cpu:=rfl

theorem qp4(m s:Mc)(x:ByteArray)(t v:Int):actM m s (putA x t v)=((putM m x t v).1,s,⟨(putM m x t v).2,zro,[]⟩):=by simp[actM,putA]
theorem qn6(m s:Mc)(x:ByteArray)(a b:Int):actM m s (sumA x a b)=(m,s,⟨(sumM m x a b).2,(sumM m x a b).1,[]⟩):=by simp[actM,sumA]

theorem q2p{m:Mc}{x:ByteArray}{a b:Int}(h:x∈m.ss)(ha:0<=a)(hab:a<=b)(hb:b<=1048575):sumM m x a b=(sumR (eY x a b m.pts),0):=by
 have hx:0<=Lib.idxOfS m.ss x:=(Lib.idxOfS_nonneg_iff _ _).2 h;unfold sumM;rw[if_neg (by omega),if_pos (spanB_iff.2 ⟨ha,hab,hb⟩)]

theorem qjt{acs:List Ac}(ha:∀a∈acs,AcOk a)(i t:Int)(ht:7200<=t/\t<=11999):
  let m:=(putM (runM mc0 mc0 acs).1 (nmS i) t 0).1
  MOk m/\nmS i∈m.ss/\(putM (runM mc0 mc0 acs).1 (nmS i) t 0).2=0/\m.pts.length<=acs.length+1:=by
 have h0:=(MOk.run acs mok0 mok0 ha).1;have h1:=h0.put (i:=i) (t:=t) (v:=0) ⟨by omega,by omega⟩ ⟨by omega,by omega⟩
 have hf:=h0.f;have hp:=qgn acs (m:=mc0) (s:=mc0) (n:=0) (Nat.le_refl _) (Nat.le_refl _);refine⟨h1,?_,?_,?_⟩
 ·rw[zB h0 ⟨by omega,by omega⟩ ⟨by omega,by omega⟩,if_neg (by omega)]
  exact xR _ _
 ·rw[zB h0 ⟨by omega,by omega⟩ ⟨by omega,by omega⟩,if_neg (by omega)]
 ·have:=qfg (runM mc0 mc0 acs).1 (nmS i) t 0;omega

theorem qgs{acs:List Ac}(ha:∀a∈acs,AcOk a)(hn:acs.length<=40){a b c:Int}(h0:0<=a)(hab:a<=b)(hbc:b<=c)(hc:c<=11999):
  ∃(Y0:List An) (r1 r2 r3:Ru),(runM mc0 mc0 (acs++[putA cpu 11999 0,sumA cpu a b,sumA cpu (b+1) (c+1),sumA cpu a (c+1)])).2.2=Y0++[⟨0,zro,[]⟩,⟨0,r1,[]⟩,⟨0,r2,[]⟩,⟨0,r3,[]⟩]/\Y0.length=acs.length/\mrg r1 r2=(r3,0):=by
 obtain⟨k1,k2,k3,k4⟩:=qjt ha 0 11999 ⟨by omega,by omega⟩
 rw[q4x acs];simp only[runM,qp4,qn6];rw[qpn] at k1 k2 k3 k4;rw[q2p k2 h0 hab (by omega),q2p k2 (by omega) (show b+1<=c+1 by omega) (by omega),q2p k2 h0 (show a<=c+1 by omega) (by omega),k3]
 exact⟨_,_,_,_,rfl,q4q _ _ _,q9u (by omega) (by omega) (fun p hp=>⟨_,(k1.pt p hp).2⟩) (by omega)⟩

theorem qnn(xs:List Rw)(n:Nat):∀a∈(xs.take n).map gX,AcOk a:=fun a ha=>by
 obtain⟨x,_,rfl⟩:=List.mem_map.1 ha;exact qk7 x

theorem qjc(xs:List Rw)(n:Nat):((xs.take n).map gX).length<=n:=by
 rw[List.length_map,List.length_take];omega

theorem q0c(n many:Int)(w:World)(h:i64B n)(h3:0<many)(h4:many<=1000000):
  Calls Tryz.prog 10 #[.int .i64 n,.int .i64 many] w fun e w'=>e=.returned (.int .i64 (pick n many))/\w'=w:=by
 have con:=aA (qR n many w h.1 h.2 h3 h4);clear h h3 h4
 go_enter Tryz.func10,Tryz.ntmps10
 go_wp2_with (go_at_call 22;refine con.out.mono ?_;rintro e w2 ⟨rfl,hw2⟩;subst hw2);go_ret;exact⟨rfl,rfl⟩

theorem qq8{w:World}{vb:Nat}{t:TypeId}{l:List Ac}(hv:RowL w vb t (aV l)):∀j u,(aV l)[j]? =some u->w.cell? (Addr.add ⟨vb,0,none⟩ j)=some u:=by
 intro j u hu;rw[WideShapes.add_plain,Nat.zero_add,hv.cell];exact hu

theorem q5h{w:World}{b o:Nat}{vs:List AnV}{ys:List An}(h:nU w (some ⟨b,o,none⟩) vs ys){k:Nat}{y:An}(hy:ys[k]? =some y):
  w.cell? ⟨b,o+k*8,none⟩=some (.int .i64 y.c)/\w.cell? ⟨b,o+k*8+1,none⟩=some (.int .i64 y.r.c)/\w.cell? ⟨b,o+k*8+2,none⟩=some (.int .i64 y.r.s)/\w.cell? ⟨b,o+k*8+3,none⟩=some (.int .i64 y.r.lo)/\w.cell? ⟨b,o+k*8+4,none⟩=some (.int .i64 y.r.hi)/\w.cell? ⟨b,o+k*8+5,none⟩=some (.int .i64 y.r.t)/\w.cell? ⟨b,o+k*8+6,none⟩=some (.int .i64 y.r.l):=by
 have h2:(vs.map AnV.a)[k]? =some y:=by rw[h.eq];exact hy
 have hk:k<vs.length:=by
  have:=(List.getElem?_eq_some_iff.1 h2).1
  simpa using this
 have e:vs[k].a=y:=by simpa [List.getElem?_eq_getElem hk] using h2
 obtain⟨b',o',hA,-,hc⟩:=h.row.av8 hk;cases hA;obtain⟨c0,c1,c2,c3,c4,c5,c6,-⟩:=hc;rw[e] at c0 c1 c2 c3 c4 c5 c6;exact⟨c0,c1,c2,c3,c4,c5,c6⟩

theorem qn9(s:ByteArray)(a b:Int)(w:World):
  Calls Tryz.prog 13 #[.string s,.int .i64 a,.int .i64 b] w fun e w'=>e=.returned (.agg #[.int .i64 3,.string s,.int .i64 a,.int .i64 b,.int .i64 0,.int .i64 0])/\Below w.heap.size w w':=by
 have R:=aG w [.int .i64 3,.string s,.int .i64 a,.int .i64 b,.int .i64 0,.int .i64 0] 26;have r:=fun j=>R.cell j
 go_enter Tryz.func13,Tryz.ntmps13
 go_wp2_with fail;refine bodyPost_ret (v:=.agg #[.int .i64 3,.string s,.int .i64 a,.int .i64 b,.int .i64 0,.int .i64 0]) (by simp[results,Tryz.results13,go_sem,r]) rfl ⟨rfl,?_⟩
 exact(Below.refl _ _).alloc (Nat.le_refl _) _

set_option maxRecDepth 20000 in
set_option maxHeartbeats 4000000 in
theorem q5g(A:Option Addr)(C:Nat)(xs:List Rw)(a b c:Int)(w:World)(hZ:SzAt w)(hA:aH w.heap.size w A (lN xs))(_:xs.length*32<=140737488351232)(hwf:∀x∈xs,x.wf)(ha:(Lit.int .i64 a).wf=true)(hb:(Lit.int .i64 b).wf=true)(hc:(Lit.int .i64 c).wf=true):
  Calls Tryz.prog 4 #[.slice A xs.length C,.int .i64 a,.int .i64 b,.int .i64 c] w fun e w'=>e=.returned (.bool true)/\Below w.heap.size w w':=by
 have p1:=jE a (show(0:Int)<12000 by decide)
 have p2:=jE b (show(0:Int)<12000 by decide)
 have p3:=jE c (show(0:Int)<12000 by decide)
 have PA:=aA fun W=>q0c a 12000 W (qG ha) (by decide) (by decide)
 have PB:=aA fun W=>q0c b 12000 W (qG hb) (by decide) (by decide)
 have PC:=aA fun W=>q0c c 12000 W (qG hc) (by decide) (by decide)
 obtain⟨n0,hn0⟩:∃n,pick a 12000=n:=⟨_,rfl⟩;obtain⟨n1,hn1⟩:∃n,pick b 12000=n:=⟨_,rfl⟩;obtain⟨n2,hn2⟩:∃n,pick c 12000=n:=⟨_,rfl⟩;rw[hn0] at PA p1;rw[hn1] at PB p2;rw[hn2] at PC p3;have AC:=aA fun W (hW:Below w.heap.size w W)=>qjd A C xs 40 W (hA.up hW) hwf (by decide) (by decide)
 have hok:=qnn xs (40:Int).toNat;have hlen:=qjc xs (40:Int).toNat;obtain⟨acs,has⟩:∃acs,(xs.take (40:Int).toNat).map gX=acs:=⟨_,rfl⟩;rw[has] at AC hok hlen;have hlen:acs.length<=40:=hlen;have HZ:=aA hZ;have HOK:=aA hok;obtain⟨na,hna⟩:∃na,acs.length=na:=⟨_,rfl⟩;have HNA:=aA hna;rw[hna] at AC hlen;clear hZ hok has hA hwf ha hb hc hn0 hn1 hn2 hna;obtain⟨i0,hi0,hz0,hz1,hz2⟩:=info_parts qhs
 go_enter Tryz.func4,Tryz.ntmps4
 go_upto_region 2 with(first
  |(go_at_call_of 10 a;refine(PA.out _).mono ?_;rintro e w1 ⟨rfl,hw1⟩;have hw1:=hw1.symm;subst hw1;clear PA)
  |(go_at_call_of 10 b;refine(PB.out _).mono ?_;rintro e w1 ⟨rfl,hw1⟩;have hw1:=hw1.symm;subst hw1;clear PB)
  |(go_at_call_of 10 c;refine(PC.out _).mono ?_;rintro e w1 ⟨rfl,hw1⟩;have hw1:=hw1.symm;subst hw1;clear PC))
 have RN:=aG w [.int .i64 n0,.int .i64 n1,.int .i64 n2] 3;have SO:=aA (qsk w.heap.size n0 n1 n2 _ _ RN);have HN:=aA ((Below.refl w.heap.size w).alloc (Nat.le_refl _) (.cells #[.int .i64 n0,.int .i64 n1,.int .i64 n2] 3));clear RN;go_upto_region 3 with(go_at_call 16;refine SO.out.mono ?_;rintro e w2 ⟨rfl,⟨m0,m1,m2,h01,h12,hP,c0,c1,c2⟩,hlt,hb2⟩;clear SO);obtain⟨u0,u1,u2⟩:=hP (fun x=>0<=x/\x<12000) p1 p2 p3
 have HB2:=aA (HN.out.trans hb2);obtain⟨nb,hnb⟩:∃nb,nb=w.heap.size:=⟨_,rfl⟩;rw[<-hnb] at c0 c1 c2 hlt ⊢;clear hP p1 p2 p3 hb2 HN hnb;have KN:Hid (∀W,Below w2.heap.size w2 W->W.cell? ⟨nb,0,none⟩=some (.int .i64 m0)/\W.cell? ⟨nb,1,none⟩=some (.int .i64 m1)/\W.cell? ⟨nb,2,none⟩=some (.int .i64 m2)):=fun W hW=>⟨(hW.cell (p:=⟨nb,0,none⟩) hlt).trans c0,(hW.cell (p:=⟨nb,1,none⟩) hlt).trans c1,(hW.cell (p:=⟨nb,2,none⟩) hlt).trans c2⟩
 have kw1:IntKind.i64.wrap (m1+1)=m1+1:=by rw[IntKind.wrap_i64];omega
 have kw2:IntKind.i64.wrap (m2+1)=m2+1:=by rw[IntKind.wrap_i64];omega
 have x1:=World.new_ne w2 ⟨nb,0,none⟩ c0;obtain⟨M,S,Y,hM⟩:∃M S Y,runM mc0 mc0 (acs++[putA cpu 11999 0,sumA cpu m0 m1,sumA cpu (m1+1) (m2+1),sumA cpu m0 (m2+1)])=(M,S,Y):=⟨_,_,_,rfl⟩;obtain⟨Y0,r1,r2,r3,hY,hY0,hmg⟩:=qgs HOK.out (by rw[HNA.out];omega) u0.1 h01 h12 (by omega)
 rw[hM] at hY;simp only at hY;subst hY;rw[HNA.out] at hY0;have HM:=aA hM;clear hM;have HX:Below w2.heap.size w2 w2.drew:=(Below.refl _ _).drew
 go_region_held3 (fun w'=>w'.cell? ⟨nb,0,none⟩=some (.int .i64 m0)/\w'.cell? ⟨nb,1,none⟩=some (.int .i64 m1)/\w'.cell? ⟨nb,2,none⟩=some (.int .i64 m2)) (go_keep)
  (first
   |(go_at_call 9;refine(AC.out _ (by exact HB2.out.drew)).mono ?_;rintro e w3 ⟨v,rfl,hown,hb3⟩;obtain⟨VA,VC,hv,-,-,-,-⟩:=aP hown;subst hv;have HO:=aA hown;have HX:=aC HX (Nat.le_refl _) hb3;obtain⟨d0,d1,d2⟩:=KN.out _ HX;have HY:=Below.refl w3.heap.size w3;clear hown hb3 AC)
   |(go_at_call 13;refine(qn9 _ _ _ _).mono ?_;rintro e w4 ⟨rfl,hb4⟩;have HX:=aC HX (Nat.le_refl _) hb4;have hs4:=HX.size;have HY:=aC HY (Nat.le_refl _) hb4;obtain⟨d0,d1,d2⟩:=KN.out _ HX;clear hb4)
   |(refine step_append_lies _ rfl (.tmp 27) (.tmp 53) 23 rfl w2.heap.size 26 i0 _ 6 56 Tryz.underlying23 hi0 hz0 hz1 hz2 rfl (by decide) (.slice VA na VC) na (aV acs) (by simp[Act.eval]) (iP HO.out (aC HY (Nat.le_refl _) ((Below.refl _ _).alloc (Nat.le_refl _) _))) ⟨w4.heap.size,0,none⟩ 4 4 (aV [putA cpu 11999 0,sumA cpu m0 m1,sumA cpu (m1+1) (m2+1),sumA cpu m0 (m2+1)]) (by simp[Act.eval]) rfl (qq8 (aG w4 (aV [putA cpu 11999 0,sumA cpu m0 m1,sumA cpu (m1+1) (m2+1),sumA cpu m0 (m2+1)]) 26)) (jV _) (by decide) (by unfold maxLen;omega) (by omega) (by simp;omega) (w4.heap.size+1) (by simp) ?_;intro g' C' w5 hown5 hgrow5 hat5 hlt5;have HXa:=aC HX (Nat.le_refl _) ((Below.refl _ _).alloc (Nat.le_refl _) (.cells (aV [putA cpu 11999 0,sumA cpu m0 m1,sumA cpu (m1+1) (m2+1),sumA cpu m0 (m2+1)]).toArray 26));obtain⟨k0,k1,k2⟩:=KN.out _ HXa;have nv:some nb≠(Value.slice VA na VC).ownBlock:=(fun e=>Nat.not_le_of_lt hlt (HO.out.lt nb e.symm).1);have nl:nb<(w4.alloc (.cells (aV [putA cpu 11999 0,sumA cpu m0 m1,sumA cpu (m1+1) (m2+1),sumA cpu m0 (m2+1)]).toArray 26)).heap.size:=Nat.lt_of_lt_of_le hlt HXa.size;have d0:=(hgrow5.cell_far ⟨nb,0,none⟩ nl nv).trans k0;have d1:=(hgrow5.cell_far ⟨nb,1,none⟩ nl nv).trans k1;have d2:=(hgrow5.cell_far ⟨nb,2,none⟩ nl nv).trans k2;have HG:=aA (qdp HXa HXa.size hgrow5 (fun q hq=>(HO.out.lt q hq).1));have HO5:=aA hown5))
 have HBR:=aA (aC HB2.out (Nat.le_refl _) HG.out);have RN:Hid (Calls Tryz.prog 11 #[.slice (some ⟨g',0,none⟩) (na+4) C'] w5 (RunM M (Y0++[⟨0,zro,[]⟩,⟨0,r1,[]⟩,⟨0,r2,[]⟩,⟨0,r3,[]⟩]) (na+4) w5)):=by
  obtain⟨VA2,VC2,hv2,-,-,-,hrow⟩:=aP HO5.out;cases hv2;rw[<-vS] at hrow;refine qph HM.out (by simp[HNA.out]) (HZ.out.below HBR.out) hrow (fun a ha=>?_) (by omega)
  rcases List.mem_append.1 ha with h|h
  ·have:=(HOK.out a h).sz;omega
  ·have:a.s=cpu:=by
    simp only[List.mem_cons,List.not_mem_nil,or_false] at h;rcases h with rfl|rfl|rfl|rfl<;>rfl
   rw[this]
   decide
 clear HO5 HG hown5 hgrow5 hat5 hlt5 HXa k0 k1 k2 nv nl d0 d1 d2 HX HY hs4 HO c0 c1 c2 KN hlt;go_upto_region 5 with(go_at_call 11;refine RN.out.mono ?_;rintro e w6 ⟨vs,AA,CC,A1,C1,t0,t1,t2,he,hvl,hcc,han,hB,hK,hb6,-⟩;have HV1:=aA hvl;have HA1:=aA han;have HCC1:=aA hcc;have HB6:=aA (aC HBR.out (Nat.le_refl _) hb6);obtain⟨A10,C10,q0,z0⟩:=t0;obtain⟨A11,C11,q1,z1⟩:=t1;obtain⟨A12,C12,q2,z2⟩:=t2;simp only[aJ] at he;subst he;clear hvl hcc han hB hK hb6 RN);obtain⟨wT,hwT⟩:∃wT,wT=w6.alloc (.cells #[.slice A1 M.ss.length C1,.slice A10 q0.length C10,.int .i64 z0,.slice A11 q1.length C11,.int .i64 z1,.slice A12 q2.length C12,.int .i64 z2,.int .i64 M.f] 35):=⟨_,rfl⟩;have h6T:Below w6.heap.size w6 wT:=by rw[hwT];exact(Below.refl _ _).alloc (Nat.le_refl _) _
 rw[<-hwT];have HAT:=HA1.out.up h6T;have HBT:=aA (aC HB6.out (Nat.le_refl _) h6T);have hcc:=HCC1.out;obtain⟨ab,ao,hAA,hbl,-⟩:=HAT.row.av8 (k:=0) (by have:=HV1.out;omega)
 subst hAA;have e2:((na:Int)+2).toNat=na+2:=by omega
 have e3:((na:Int)+3).toNat=na+3:=by omega
 have K1:Hid (∀W,Below wT.heap.size wT W->W.cell? ⟨ab,ao+(na+1)*8,none⟩=some (.int .i64 0)/\W.cell? ⟨ab,ao+(na+1)*8+1,none⟩=some (.int .i64 r1.c)/\W.cell? ⟨ab,ao+(na+1)*8+2,none⟩=some (.int .i64 r1.s)/\W.cell? ⟨ab,ao+(na+1)*8+3,none⟩=some (.int .i64 r1.lo)/\W.cell? ⟨ab,ao+(na+1)*8+4,none⟩=some (.int .i64 r1.hi)/\W.cell? ⟨ab,ao+(na+1)*8+5,none⟩=some (.int .i64 r1.t)/\W.cell? ⟨ab,ao+(na+1)*8+6,none⟩=some (.int .i64 r1.l)):=fun W hW=>q5h (HAT.up hW) (k:=na+1) (y:=⟨0,r1,[]⟩) (by rw[List.getElem?_append_right (by omega),hY0];simp)
 have K2:Hid (∀W,Below wT.heap.size wT W->W.cell? ⟨ab,ao+((na:Int)+2).toNat*8,none⟩=some (.int .i64 0)/\W.cell? ⟨ab,ao+((na:Int)+2).toNat*8+1,none⟩=some (.int .i64 r2.c)/\W.cell? ⟨ab,ao+((na:Int)+2).toNat*8+2,none⟩=some (.int .i64 r2.s)/\W.cell? ⟨ab,ao+((na:Int)+2).toNat*8+3,none⟩=some (.int .i64 r2.lo)/\W.cell? ⟨ab,ao+((na:Int)+2).toNat*8+4,none⟩=some (.int .i64 r2.hi)/\W.cell? ⟨ab,ao+((na:Int)+2).toNat*8+5,none⟩=some (.int .i64 r2.t)/\W.cell? ⟨ab,ao+((na:Int)+2).toNat*8+6,none⟩=some (.int .i64 r2.l)):=fun W hW=>by
  rw[e2];exact q5h (HAT.up hW) (k:=na+2) (y:=⟨0,r2,[]⟩) (by rw[List.getElem?_append_right (by omega),hY0];simp)
 have K3:Hid (∀W,Below wT.heap.size wT W->W.cell? ⟨ab,ao+((na:Int)+3).toNat*8,none⟩=some (.int .i64 0)/\W.cell? ⟨ab,ao+((na:Int)+3).toNat*8+1,none⟩=some (.int .i64 r3.c)/\W.cell? ⟨ab,ao+((na:Int)+3).toNat*8+2,none⟩=some (.int .i64 r3.s)/\W.cell? ⟨ab,ao+((na:Int)+3).toNat*8+3,none⟩=some (.int .i64 r3.lo)/\W.cell? ⟨ab,ao+((na:Int)+3).toNat*8+4,none⟩=some (.int .i64 r3.hi)/\W.cell? ⟨ab,ao+((na:Int)+3).toNat*8+5,none⟩=some (.int .i64 r3.t)/\W.cell? ⟨ab,ao+((na:Int)+3).toNat*8+6,none⟩=some (.int .i64 r3.l)):=fun W hW=>by
  rw[e3];exact q5h (HAT.up hW) (k:=na+3) (y:=⟨0,r3,[]⟩) (by rw[List.getElem?_append_right (by omega),hY0];simp)
 have kx:IntKind.i64.wrap ((na:Int)+4-3)=(na:Int)+1:=by rw[IntKind.wrap_i64];omega
 have ky:IntKind.i64.wrap ((na:Int)+1+1)=(na:Int)+2:=by rw[IntKind.wrap_i64];omega
 have kz:IntKind.i64.wrap ((na:Int)+1+2)=(na:Int)+3:=by rw[IntKind.wrap_i64];omega
 have MG:=aA fun W=>oJ r1 r2 W
 simp only[hmg] at MG;have lim:na<=40:=hlen;clear hwT h6T HA1 HB6 HAT HM HOK hcc e2 e3 hmg;go_upto_region 8 with fail;obtain⟨a10,a11,a12,a13,a14,a15,a16⟩:=K1.out wT (Below.refl _ _);obtain⟨a20,a21,a22,a23,a24,a25,a26⟩:=K2.out wT (Below.refl _ _);have o1:(0:Int)<=(na:Int)+1:=by omega
 have o2:(na:Int)+1<(na:Int)+4:=by omega
 have o3:(0:Int)<=(na:Int)+2:=by omega
 have o4:(na:Int)+2<(na:Int)+4:=by omega
 have o5:(0:Int)<=(na:Int)+3:=by omega
 have o6:(na:Int)+3<(na:Int)+4:=by omega
 have RB0:=xX (aG wT [.int .i64 0,.int .i64 0,.int .i64 0,.int .i64 0,.int .i64 0,.int .i64 0] 42);have HD0:=aA (Below.refl wT.heap.size wT).drew;have HB0:=aA (((Below.refl wT.heap.size wT).alloc (Nat.le_refl _) (.cells #[.int .i64 0,.int .i64 0,.int .i64 0,.int .i64 0,.int .i64 0,.int .i64 0] 42)).drew);have nx:ab≠wT.heap.size:=Nat.ne_of_lt hbl;have nw:=World.new_ne wT ⟨ab,ao+(na+1)*8,none⟩ a10
 go_region_held3 (fun w'=>w'.cell? ⟨ab,ao+(na+1)*8+1,none⟩=some (.int .i64 r1.c)/\w'.cell? ⟨ab,ao+(na+1)*8+2,none⟩=some (.int .i64 r1.s)/\w'.cell? ⟨ab,ao+(na+1)*8+3,none⟩=some (.int .i64 r1.lo)/\w'.cell? ⟨ab,ao+(na+1)*8+4,none⟩=some (.int .i64 r1.hi)/\w'.cell? ⟨ab,ao+(na+1)*8+5,none⟩=some (.int .i64 r1.t)/\w'.cell? ⟨ab,ao+(na+1)*8+6,none⟩=some (.int .i64 r1.l)/\w'.cell? ⟨ab,ao+((na:Int)+2).toNat*8+1,none⟩=some (.int .i64 r2.c)/\w'.cell? ⟨ab,ao+((na:Int)+2).toNat*8+2,none⟩=some (.int .i64 r2.s)/\w'.cell? ⟨ab,ao+((na:Int)+2).toNat*8+3,none⟩=some (.int .i64 r2.lo)/\w'.cell? ⟨ab,ao+((na:Int)+2).toNat*8+4,none⟩=some (.int .i64 r2.hi)/\w'.cell? ⟨ab,ao+((na:Int)+2).toNat*8+5,none⟩=some (.int .i64 r2.t)/\w'.cell? ⟨ab,ao+((na:Int)+2).toNat*8+6,none⟩=some (.int .i64 r2.l)) (go_keep)
  (first
   |(go_at_call 15;refine(MG.out _).mono ?_;rintro e w7 ⟨rfl,hb7⟩;have HT7:Below wT.heap.size wT w7:=aC HD0.out (Nat.le_refl _) hb7;obtain⟨-,b11,b12,b13,b14,b15,b16⟩:=K1.out w7 HT7;obtain⟨-,b21,b22,b23,b24,b25,b26⟩:=K2.out w7 HT7;have nw7:ab<w7.heap.size:=Nat.lt_of_lt_of_le hbl HT7.size;have nw8:w7.heap.size≠ab:=Nat.ne_of_gt nw7;have HT7:=aA HT7;clear hb7)
   |(go_at_call 15;refine(MG.out _).mono ?_;rintro e w7 ⟨rfl,hb7⟩;have HT7:Below wT.heap.size wT w7:=aC HB0.out (Nat.le_refl _) hb7;have RB7:=RB0.below hb7 RB0.lt;have rb:=fun j=>RB7.cell j;have rf:=fun j=>RB7.frozen j;have rl:=RB7.lt;obtain⟨-,b11,b12,b13,b14,b15,b16⟩:=K1.out w7 HT7;obtain⟨-,b21,b22,b23,b24,b25,b26⟩:=K2.out w7 HT7;have nw7:ab<w7.heap.size:=Nat.lt_of_lt_of_le hbl HT7.size;have HT7:=aA HT7;clear hb7))
 ·go_upto_region 9 with fail;obtain⟨wZ,hwZ⟩:∃wZ,wZ=w7.alloc (.cells #[.int .i64 r3.c,.int .i64 r3.s,.int .i64 r3.lo,.int .i64 r3.hi,.int .i64 r3.t,.int .i64 r3.l] 42):=⟨_,rfl⟩;have HZ7:Below wT.heap.size wT wZ:=by rw[hwZ];exact aC HT7.out (Nat.le_refl _) ((Below.refl _ _).alloc (Nat.le_refl _) _)
  have RZ:RowL wZ w7.heap.size 42 [.int .i64 r3.c,.int .i64 r3.s,.int .i64 r3.lo,.int .i64 r3.hi,.int .i64 r3.t,.int .i64 r3.l]:=by rw[hwZ];exact aG w7 _ _
  rw[<-hwZ];obtain⟨bx,hbx⟩:∃bx,bx=w7.heap.size:=⟨_,rfl⟩;rw[<-hbx] at RZ ⊢;clear hwZ hbx HT7 b11 b12 b13 b14 b15 b16 b21 b22 b23 b24 b25 b26;obtain⟨g10,-⟩:=K1.out wZ HZ7;obtain⟨g20,-⟩:=K2.out wZ HZ7;obtain⟨g30,g31,g32,g33,g34,g35,g36⟩:=K3.out wZ HZ7;have y0:wZ.cell? ⟨bx,0,none⟩=some (.int .i64 r3.c):=RZ.cell 0;have y1:wZ.cell? ⟨bx,1,none⟩=some (.int .i64 r3.s):=RZ.cell 1;have y2:wZ.cell? ⟨bx,2,none⟩=some (.int .i64 r3.lo):=RZ.cell 2;have y3:wZ.cell? ⟨bx,3,none⟩=some (.int .i64 r3.hi):=RZ.cell 3;have y4:wZ.cell? ⟨bx,4,none⟩=some (.int .i64 r3.t):=RZ.cell 4;have y5:wZ.cell? ⟨bx,5,none⟩=some (.int .i64 r3.l):=RZ.cell 5;have HE:=aA (aC HBT.out (Nat.le_refl _) HZ7);clear RZ HZ7 K1 K2 K3
  go_region_held3 (fun w'=>w'.cell? ⟨ab,ao+(na+1)*8,none⟩=some (.int .i64 0)/\w'.cell? ⟨ab,ao+((na:Int)+2).toNat*8,none⟩=some (.int .i64 0)/\w'.cell? ⟨ab,ao+((na:Int)+3).toNat*8,none⟩=some (.int .i64 0)/\w'.cell? ⟨ab,ao+((na:Int)+3).toNat*8+1,none⟩=some (.int .i64 r3.c)/\w'.cell? ⟨ab,ao+((na:Int)+3).toNat*8+2,none⟩=some (.int .i64 r3.s)/\w'.cell? ⟨ab,ao+((na:Int)+3).toNat*8+3,none⟩=some (.int .i64 r3.lo)/\w'.cell? ⟨ab,ao+((na:Int)+3).toNat*8+4,none⟩=some (.int .i64 r3.hi)/\w'.cell? ⟨ab,ao+((na:Int)+3).toNat*8+5,none⟩=some (.int .i64 r3.t)/\w'.cell? ⟨ab,ao+((na:Int)+3).toNat*8+6,none⟩=some (.int .i64 r3.l)/\w'.cell? ⟨bx,0,none⟩=some (.int .i64 r3.c)/\w'.cell? ⟨bx,1,none⟩=some (.int .i64 r3.s)/\w'.cell? ⟨bx,2,none⟩=some (.int .i64 r3.lo)/\w'.cell? ⟨bx,3,none⟩=some (.int .i64 r3.hi)/\w'.cell? ⟨bx,4,none⟩=some (.int .i64 r3.t)/\w'.cell? ⟨bx,5,none⟩=some (.int .i64 r3.l)) (go_keep) (fail)
  go_wp2_with fail;go_ret;exact⟨rfl,HE.out.drew⟩
 ·go_upto_region 9 with fail;obtain⟨wZ,hwZ⟩:∃wZ,wZ=st6 w7 wT.heap.size (.int .i64 r3.c) (.int .i64 r3.s) (.int .i64 r3.lo) (.int .i64 r3.hi) (.int .i64 r3.t) (.int .i64 r3.l):=⟨_,rfl⟩;have HZ7:Below wT.heap.size wT wZ:=by rw[hwZ];exact oK HT7.out (Nat.le_refl _) _ _ _ _ _ _
  have RZ:RowL wZ wT.heap.size 42 [.int .i64 r3.c,.int .i64 r3.s,.int .i64 r3.lo,.int .i64 r3.hi,.int .i64 r3.t,.int .i64 r3.l]:=by rw[hwZ];exact oP RB7 _ _ _ _ _ _
  simp only[st6] at hwZ;rw[<-hwZ];obtain⟨bx,hbx⟩:∃bx,bx=wT.heap.size:=⟨_,rfl⟩;rw[<-hbx] at RZ ⊢;clear hwZ hbx RB7 rb rf rl HT7 b11 b12 b13 b14 b15 b16 b21 b22 b23 b24 b25 b26;obtain⟨g10,-⟩:=K1.out wZ HZ7;obtain⟨g20,-⟩:=K2.out wZ HZ7;obtain⟨g30,g31,g32,g33,g34,g35,g36⟩:=K3.out wZ HZ7;have y0:wZ.cell? ⟨bx,0,none⟩=some (.int .i64 r3.c):=RZ.cell 0;have y1:wZ.cell? ⟨bx,1,none⟩=some (.int .i64 r3.s):=RZ.cell 1;have y2:wZ.cell? ⟨bx,2,none⟩=some (.int .i64 r3.lo):=RZ.cell 2;have y3:wZ.cell? ⟨bx,3,none⟩=some (.int .i64 r3.hi):=RZ.cell 3;have y4:wZ.cell? ⟨bx,4,none⟩=some (.int .i64 r3.t):=RZ.cell 4;have y5:wZ.cell? ⟨bx,5,none⟩=some (.int .i64 r3.l):=RZ.cell 5;have HE:=aA (aC HBT.out (Nat.le_refl _) HZ7);clear RZ HZ7 K1 K2 K3
  go_region_held3 (fun w'=>w'.cell? ⟨ab,ao+(na+1)*8,none⟩=some (.int .i64 0)/\w'.cell? ⟨ab,ao+((na:Int)+2).toNat*8,none⟩=some (.int .i64 0)/\w'.cell? ⟨ab,ao+((na:Int)+3).toNat*8,none⟩=some (.int .i64 0)/\w'.cell? ⟨ab,ao+((na:Int)+3).toNat*8+1,none⟩=some (.int .i64 r3.c)/\w'.cell? ⟨ab,ao+((na:Int)+3).toNat*8+2,none⟩=some (.int .i64 r3.s)/\w'.cell? ⟨ab,ao+((na:Int)+3).toNat*8+3,none⟩=some (.int .i64 r3.lo)/\w'.cell? ⟨ab,ao+((na:Int)+3).toNat*8+4,none⟩=some (.int .i64 r3.hi)/\w'.cell? ⟨ab,ao+((na:Int)+3).toNat*8+5,none⟩=some (.int .i64 r3.t)/\w'.cell? ⟨ab,ao+((na:Int)+3).toNat*8+6,none⟩=some (.int .i64 r3.l)/\w'.cell? ⟨bx,0,none⟩=some (.int .i64 r3.c)/\w'.cell? ⟨bx,1,none⟩=some (.int .i64 r3.s)/\w'.cell? ⟨bx,2,none⟩=some (.int .i64 r3.lo)/\w'.cell? ⟨bx,3,none⟩=some (.int .i64 r3.hi)/\w'.cell? ⟨bx,4,none⟩=some (.int .i64 r3.t)/\w'.cell? ⟨bx,5,none⟩=some (.int .i64 r3.l)) (go_keep) (fail)
  go_wp2_with fail;go_ret;exact⟨rfl,HE.out.drew⟩

set_option maxRecDepth 100000 in
theorem q2v(os:Os)(started:os.Started)(H:Type)(enc:TypeId × Value->H):
  ReturnsInHanded {} Tryz.checked os 4 .any (fun w args=>(Rows.topSplitSpec.pre enc Tryz.prog Tryz.f4 [] false w args/\laidMetH Tryz.prog rX w)/\sizedMet enc Tryz.prog Tryz.f4 (OpenSpec.ofChange Rows.topSplitSpec) false w args)
   (Rows.topSplitSpec.post enc Tryz.prog Tryz.f4 false true false false):=by
 refine returnsInHanded_of_change_and (C:=Tryz.checked) (X:=fun w _=>laidMetH Tryz.prog rX w) (fun _ _ _ hh h=>h.of_heap hh) own started (by kernel_rfl) Tryz.func4
  (ChangeSpec.witness_at (enc:=enc) (C:=Tryz.checked) (os:=os) (X:=fun w _=>laidMetH Tryz.prog rX w) false (World.laidAll Tryz.prog os rX) #[.slice none 0 0,.int .i64 0,.int .i64 0,.int .i64 0] 8 (World.laidAll_os _ _ _) (by kernel_rfl) (by kernel_rfl) (by kernel_rfl) (by kernel_rfl) (by kernel_rfl)
   (by rw[MakeChecks.laidMetH_plain _ _ _ (by kernel_rfl)];exact laidMet_laidAll _ (by kernel_rfl) (by kernel_rfl))) ?_
 intro W base args ds gs before hval0 hW _ hsz0 hL _;have hval:∀(j:Nat) t v,Tryz.f4.params[j]? =some t->args[j]? =some v->Value.okWide Tryz.prog W .any base t v:=hval0;have hW':=hW;obtain⟨p,q,hA0,hV,rfl,hfz,hnd⟩:=hW;have hA:DataW.TrodAll enc Tryz.prog W 0 (fun _=>true) true Tryz.f4.params.toList args.toList ds p:=hA0
 have hsz:(DataW.weightsEach Tryz.prog (Tryz.f4.params.toList++Rows.topSplitSpec.plain.varTypes Tryz.prog) (ds++gs)).all (·<=reachBytes)=true:=hsz0;rw[Tryz.params4] at hA hval hsz;obtain⟨v0,vs0,d0,ds0,p0,q0,hargs,rfl,rfl,h0,r0⟩:=trodAll_cons hA;obtain⟨v1,vs1,d1,ds1,p1,q1,rfl,rfl,rfl,h1,r1⟩:=trodAll_cons r0;obtain⟨v2,vs2,d2,ds2,p2,q2,rfl,rfl,rfl,h2,r2⟩:=trodAll_cons r1;obtain⟨v3,vs3,d3,ds3,p3,q3,rfl,rfl,rfl,h3,r3⟩:=trodAll_cons r2;obtain⟨rfl,rfl,rfl⟩:=trodAll_nil r3;obtain rfl:args=#[v0,v1,v2,v3]:=by cases args;simp_all
 obtain⟨rfl,rfl⟩:=trodVars_none hV;have k0:=h0;have lt0:∀x∈p0,x.block<W.heap.size:=by obtain⟨m,hm⟩:=k0;exact DataW.trod_lt m _ _ _ hm
 obtain⟨A0,C0,xs0,rfl,hR0,hz0,hw0⟩:=q5y (hval 0 22 v0 rfl rfl) h0 (fun n hn=>by
  have:=List.all_eq_true.1 hsz n (DataW.weights_mem_each (j:=0) (t:=22) rfl rfl n hn);exact of_decide_eq_true this)
 have k1:=h1;have lt1:∀x∈p1,x.block<W.heap.size:=by obtain⟨m,hm⟩:=k1;exact DataW.trod_lt m _ _ _ hm
 obtain⟨a1,rfl,w1⟩:∃n:Int,v1=.int .i64 n/\(Lit.int .i64 n).wf=true:=by
  obtain⟨n,h,_,_,w⟩:=open_int Tryz.underlying3 (hval 1 3 v1 rfl rfl) h1;exact⟨n,h,w⟩
 have k2:=h2;have lt2:∀x∈p2,x.block<W.heap.size:=by obtain⟨m,hm⟩:=k2;exact DataW.trod_lt m _ _ _ hm
 obtain⟨a2,rfl,w2⟩:∃n:Int,v2=.int .i64 n/\(Lit.int .i64 n).wf=true:=by
  obtain⟨n,h,_,_,w⟩:=open_int Tryz.underlying3 (hval 2 3 v2 rfl rfl) h2;exact⟨n,h,w⟩
 have k3:=h3;have lt3:∀x∈p3,x.block<W.heap.size:=by obtain⟨m,hm⟩:=k3;exact DataW.trod_lt m _ _ _ hm
 obtain⟨a3,rfl,w3⟩:∃n:Int,v3=.int .i64 n/\(Lit.int .i64 n).wf=true:=by
  obtain⟨n,h,_,_,w⟩:=open_int Tryz.underlying3 (hval 3 3 v3 rfl rfl) h3;exact⟨n,h,w⟩
 clear hA0 hval0 hsz0;refine(q5g A0 C0 xs0 a1 a2 a3 W (qmt hL) hR0 hz0 hw0 w1 w2 w3).mono fun e W' ⟨he,bel⟩=>?_
 subst he;exact⟨_,rfl,_,_,_,[],_,[],hW',trodAll_mk1 (shut_bool Tryz.underlying4 _),(trodAll_cons_mk (Below.trod yB (by kernel_rfl) (of_decide_eq_true (by kernel_rfl)) k0 bel lt0) (trodAll_cons_mk (Below.trod yB (by kernel_rfl) (of_decide_eq_true (by kernel_rfl)) k1 bel lt1) (trodAll_cons_mk (Below.trod yB (by kernel_rfl) (of_decide_eq_true (by kernel_rfl)) k2 bel lt2) (trodAll_cons_mk (Below.trod yB (by kernel_rfl) (of_decide_eq_true (by kernel_rfl)) k3 bel lt3) trodAll_mk0)))),rfl,bel.frame _,fun h=>by cases h⟩

theorem q2z:Rows.TopSplitSaid:=
 OpenClaim.holds_of_wide 4 Tryz.f4 rfl rfl rfl rfl rfl rfl rfl ⟨rfl,rfl,rfl,rfl,rfl⟩ rfl rfl rfl rfl rfl (by kernel_rfl) Tryz.func4 (by kernel_rfl)
  (of_decide_eq_true (by kernel_rfl)) (by unfold Func.isWrapper;first|(rw[if_pos (by decide+kernel)];kernel_rfl)|(rw[if_neg (by decide+kernel)];exact⟨rfl,rfl⟩))
  (fun os started H enc _=>q2v os started H enc)

theorem topSplitCard_holds:Rows.TopSplitCardSaid:=
 Claim7.holds_tied_plain_at .later [] [.data] true (true, "0657e646ef2f390bec603b8aca188c56945d5f7249e5dbb24548ab29f89e546d") false q2z (fun _ h => by cases h) (by kernel_rfl) (fun _ h => by cases h) topSplit_row_tie rfl ⟨rfl, rfl⟩ (by kernel_rfl) rfl
  (fun f fn hf hfn=>by
   obtain rfl : f = 4 := Option.some.inj ((show Tryz.prog.funcNamed "winnower/winnowertop.TopSplit" = some 4 by kernel_rfl).symm.trans hf) |>.symm
   obtain rfl:fn=Tryz.f4:=(Option.some.inj (Tryz.func4.symm.trans hfn)).symm;exact⟨by kernel_rfl,fun j t ht=>by
    rw[Tryz.params4] at ht;have hm:t∈[22,3,3,3]:=by simpa using Array.mem_of_getElem? ht
    have hall:([22,3,3,3].all fun u=>!Tryz.prog.wantsStandIn u)=true:=by kernel_rfl
    exact(show Tryz.prog.wantsStandIn t=false by simpa using List.all_eq_true.1 hall t hm)⟩)
  (by kernel_rfl)
#print axioms topSplitCard_holds
end Go.Proofs.YtlojfgdpmaigmagGreatDoor

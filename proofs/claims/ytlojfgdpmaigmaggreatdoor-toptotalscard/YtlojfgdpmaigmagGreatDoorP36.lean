/- tree.sink at a node with kids. -/
import Derived.Test.YtlojfgdpmaigmagGreatDoorP35
namespace Go.Proofs.YtlojfgdpmaigmagGreatDoor
section
open Go.RowKit Plain Go.Shelf

structure SiA(base:Nat)(w wr:World)(g C:Nat)(qs:List PN)(r:Int)(x:En)(qs1:List PN):Prop where
 mem:dZ base w g C qs wr qs1
 bt:RowL wr w.heap.size 32 [.slice (some ⟨g,0,none⟩) qs.length C,.int .i64 r]
 bx:RowL wr (w.heap.size+1) 132 x.vals
 ft:w.heap.size∉feet g qs1
 fx:w.heap.size+1∉feet g qs1

theorem SiA.start{base g C:Nat}{w:World}{qs:List PN}{r:Int}{x:En}(h:NT base w g C qs):SiA base w ((w.alloc (.cells #[.slice (some ⟨g,0,none⟩) qs.length C,.int .i64 r] 32)).alloc (.cells x.vals.toArray 132)) g C qs r x qs:=by
 have hb2:Below w.heap.size w ((w.alloc (.cells #[.slice (some ⟨g,0,none⟩) qs.length C,.int .i64 r] 32)).alloc (.cells x.vals.toArray 132)):=((Below.refl _ _).alloc (Nat.le_refl _) _).alloc (by simp) _
 have hlt:=h.lt;refine⟨dZ.of_below h hb2,?_,?_,fun e=>by have:=(hlt _ e).2;omega,fun e=>by have:=(hlt _ e).2;omega⟩
 ·exact(aG w [.slice (some ⟨g,0,none⟩) qs.length C,.int .i64 r] _).of_block (Below.heap_alloc _ _ _ (by simp))
 ·have:=aG (w.alloc (.cells #[.slice (some ⟨g,0,none⟩) qs.length C,.int .i64 r] 32)) x.vals 132
  simpa using this

theorem SiA.step{base g C:Nat}{w wr w':World}{qs qs1 qs2:List PN}{r:Int}{x:En}(h:SiA base w wr g C qs r x qs1)(hm:dZ base wr g C qs1 w' qs2):SiA base w w' g C qs r x qs2:=by
 have l1:=h.bt.lt;have l2:=h.bx.lt;refine⟨h.mem.trans hm,hm.kept.row h.bt h.ft,hm.kept.row h.bx h.fx,fun e=>?_,fun e=>?_⟩
 ·rcases hm.fresh _ e with e|e
  ·exact h.ft e
  ·omega
 ·rcases hm.fresh _ e with e|e
  ·exact h.fx e
  ·omega

theorem SiA.next{base g C:Nat}{w wr w':World}{qs qs1:List PN}{r:Int}{x:En}(h:SiA base w wr g C qs r x qs1)(hb:Below wr.heap.size wr w'):SiA base w w' g C qs r x qs1:=
 h.step (dZ.of_below h.mem.nt hb)

theorem qey(l:List En)(x:En):(dM l x).length<=l.length+1:=by
 unfold dM;have:=rF l x.key
 split
 ·simp
 ·simp;omega

set_option maxRecDepth 20000 in
set_option maxHeartbeats 4000000 in
theorem qdr(base g C:Nat)(qs:List PN)(r:Int)(k:Nat)(x:En)(w:World)(D F:List PN->Prop)(kids:List Int)(kd:Nat)(hT:NT base w g C qs)(hk:k<qs.length)(hl:(qs[k]).leaf=false)(hB:base<=w.heap.size)(hkd:kd<kids.length)(HD0:Hid (D qs))
  (HDB:Hid (∀(qs1:List PN) (_:qs1.length=qs.length) (_:D qs1) (h:k<qs1.length),(qs1[k]).buf.Pairwise (fun x y=>x.key<y.key)/\(qs1[k]).buf.length<=8/\(qs1[k]).kids=kids))
  (HFL:Hid (∀W,NT base W g C qs->base<=W.heap.size->Calls Tryz.prog 141 #[.agg #[.slice (some ⟨g,0,none⟩) qs.length C,.int .i64 r],.int .i64 (k:Int)] W fun e w'=>e=.returned (.tuple #[])/\∃qs1,dZ base W g C qs w' qs1/\D qs1))
  (HF1:Hid (∀(qs1:List PN) (_:qs1.length=qs.length) (_:D qs1) (h:k<qs1.length) (A':Option Addr) (C':Nat),(hasK (qs1[k]).buf x.key||decide ((qs1[k]).buf.length<8))=true->F (qs1.set k { qs1[k] with buf:=dM (qs1[k]).buf x,bA:=A',bC:=C' })))
  (HKI:Hid (∀(qs1:List PN) (W:World) (_:qs1.length=qs.length) (_:D qs1) (h:k<qs1.length),NT base W g C qs1->Calls Tryz.prog 142 #[.agg #[.bool (qs1[k]).leaf,.slice (qs1[k]).eA (qs1[k]).ents.length (qs1[k]).eC,.slice (qs1[k]).kA (qs1[k]).keys.length (qs1[k]).kC,.slice (qs1[k]).dA (qs1[k]).kids.length (qs1[k]).dC,.slice (qs1[k]).bA (qs1[k]).buf.length (qs1[k]).bC],.int .i64 x.key] W fun e w'=>e=.returned (.int .i64 (kd:Int))/\Below W.heap.size W w'))
  (HSK:Hid (∀(qs1:List PN) (W:World),qs1.length=qs.length->D qs1->NT base W g C qs1->base<=W.heap.size->Calls Tryz.prog 118 #[.agg #[.slice (some ⟨g,0,none⟩) qs.length C,.int .i64 r],.int .i64 (kids.getD kd 0),.agg #[.int .i64 x.key,.int .i64 x.c,.int .i64 x.s,.int .i64 x.lo,.int .i64 x.hi,.int .i64 x.t,.int .i64 x.l]] W fun e w'=>e=.returned (.tuple #[])/\∃qs2,dZ base W g C qs1 w' qs2/\F qs2/\qs2[k]? =qs1[k]?)):
  Calls Tryz.prog 118 #[.agg #[.slice (some ⟨g,0,none⟩) qs.length C,.int .i64 r],.int .i64 (k:Int),.agg #[.int .i64 x.key,.int .i64 x.c,.int .i64 x.s,.int .i64 x.lo,.int .i64 x.hi,.int .i64 x.t,.int .i64 x.l]] w
   fun e w'=>e=.returned (.tuple #[])/\∃qs',dZ base w g C qs w' qs'/\F qs':=by
 have hat:=hT.node hk;have ho:=(hT.each _ (List.getElem_mem hk)).b;obtain⟨hp0,hle0,-⟩:=HDB.out qs rfl HD0.out hk;have hgl:=hT.glt.2;have i1:(k:Int)<(qs.length:Int):=by omega
 have i0:(0:Int)<=(k:Int):=by omega
 have hb2:∀o1 o2:Obj,Below w.heap.size w ((w.alloc o1).alloc o2):=fun o1 o2=>((Below.refl _ _).alloc (Nat.le_refl _) o1).alloc (by simp) o2
 have HS0:=aA (SiA.start (r:=r) (x:=x) hT);obtain⟨n0,n1,n2,n3,n4⟩:=hat;rw[hl] at n0;have hcw:=fun W (hW:Below w.heap.size w W)=>q1n (qs[k]).bA (qs[k]).bC (qs[k]).buf x.key W ((eG (dI ho hW)).1) (by omega) hp0
 have HW:=aA hcw;have HT:=aA hT;generalize (hasK (qs[k]).buf x.key||decide ((qs[k]).buf.length<8))=c0 at HW
 generalize (qs[k]).bA=bA0 at HW n4;generalize (qs[k]).bC=bC0 at HW n4;generalize (qs[k]).buf.length=bN0 at HW n4;clear hcw hT ho hl n1 n2 n3 hp0 hle0
 go_enter Tryz.func118,Tryz.ntmps118
 go_upto_region 4 with fail
 go_cut [31] from 24 to 31 (fun v wc=>v=.bool (!c0)/\Hid (SiA base w wc g C qs r x qs))
 case first=>
  go_region_with (go_at_call 140;refine(HW.out _ ((hb2 _ _).drew)).mono ?_;rintro e w2 ⟨rfl,hb2'⟩;have HS1:=aA (HS0.out.next ((Below.refl _ _).drew.trans hb2'));clear hb2')
  all_goals
   go_wp2
   go_meet
   case rel=>exact⟨rfl,HS1⟩
 case rest=>
  obtain⟨rfl,HS1⟩:=hcut;have t0:wc.cell? ⟨w.heap.size,0,none⟩=some (.slice (some ⟨g,0,none⟩) qs.length C):=HS1.out.bt.cell 0;have t1:wc.cell? ⟨w.heap.size,1,none⟩=some (.int .i64 r):=HS1.out.bt.cell 1;clear HS0 n0 n4 HW
  go_upto_if 31 with fail
  go_cut [] from 32 to 34 (fun wd=>∃qs1:List PN,qs1.length=qs.length/\Hid (D qs1)/\Hid (SiA base w wd g C qs r x qs1))
  case first=>
   cases c0 with
   |true=>
    simp only[Bool.not_true];go_wp2_with fail
    go_meet
    case rel=>exact⟨qs,rfl,HD0,HS1⟩
   |false=>
    simp only[Bool.not_false];go_wp2_with (go_at_call 141;refine(HFL.out _ HS1.out.mem.nt (Nat.le_trans hB HS1.out.mem.kept.size)).mono ?_;rintro e w2 ⟨rfl,qs1,hm1,hd1⟩)
    go_meet
    case rel=>exact⟨qs1,hm1.len,hd1,HS1.out.step hm1⟩
  case rest=>
   obtain⟨qs1,hl1,HD1,HS2⟩:=hcut;clear HS1 t0 t1 HFL HD0;obtain⟨wd,hwd⟩:∃wd,wd=wc:=⟨_,rfl⟩;subst hwd;have hk1:k<qs1.length:=by omega
   obtain⟨hp1,hle1,hkids⟩:=HDB.out qs1 hl1 HD1.out hk1;have hnt:=HS2.out.mem.nt;have hat:=hnt.node hk1;have ho:=(hnt.each _ (List.getElem_mem hk1));have hgl1:=hnt.glt.2;have hgb:g∉obk (qs1[k]).bA:=fun e=>(hnt.blocks_nodup hk1).2.2.1 (by rw[iZ];simp[e])
   have hf1:=aA fun A' C'=>HF1.out qs1 hl1 HD1.out hk1 A' C'
   have hki:=aA fun W hW=>HKI.out qs1 W hl1 HD1.out hk1 hW
   have hsk:=aA fun W hW hb=>HSK.out qs1 W hl1 HD1.out hW hb
   obtain⟨n0,n1,n2,n3,n4⟩:=hat;have hcw:=fun W (hW:Below wd.heap.size wd W)=>q1n (qs1[k]).bA (qs1[k]).bC (qs1[k]).buf x.key W ((eG (dI ho.b hW)).1) (by omega) hp1
   have hcon:=fun W (hW:Below wd.heap.size wd W)=>qb1 base (qs1[k]).bA (qs1[k]).bC (qs1[k]).buf x W (dI ho.b hW) hp1 (Nat.le_trans (Nat.le_trans hB HS2.out.mem.kept.size) hW.size) (by omega)
   have fz:=hnt.free (k*5+4);have HW:=aA hcw;have HC:=aA hcon;have HNT:=aA hnt;have HO:=aA ho;have HGB:=aA hgb;clear hcw hcon hnt ho HF1 HKI HSK HDB hp1 hgb;obtain⟨q,hq⟩:∃q,qs1[k]=q:=⟨_,rfl⟩;rw[hq] at HW HC HO HGB hf1 hki n0 n1 n2 n3 n4 hkids hle1;obtain⟨c1,hc1⟩:∃c,c=(hasK q.buf x.key||decide (q.buf.length<8)):=⟨_,rfl⟩
   rw[<-hc1] at HW hf1;clear hc1;have x0:wd.cell? ⟨w.heap.size+1,0,none⟩=some (.int .i64 x.key):=HS2.out.bx.cell 0;have hxl:=HS2.out.bx.lt;go_upto_region 6 with fail
   go_cut [41] from 35 to 41 (fun v we=>v=.bool c1/\Hid (Below wd.heap.size wd we))
   case first=>
    go_region_with (go_at_call 140;refine(HW.out _ ((Below.refl _ _).drew)).mono ?_;rintro e w2 ⟨rfl,hb2'⟩)
    all_goals
     go_wp2
     go_meet
     case rel=>exact⟨rfl,(Below.refl _ _).drew.trans hb2'⟩
   case rest=>
    obtain⟨rfl,HBE⟩:=hcut;have hbe:=HBE.out;have HS3:=aA (HS2.out.next hbe);have hsze:=hbe.size;have m0:=(hbe.cell (p:=⟨g,k*5,none⟩) hgl1).trans n0;have m1:=(hbe.cell (p:=⟨g,k*5+1,none⟩) hgl1).trans n1;have m2:=(hbe.cell (p:=⟨g,k*5+2,none⟩) hgl1).trans n2;have m3:=(hbe.cell (p:=⟨g,k*5+3,none⟩) hgl1).trans n3;have m4:=(hbe.cell (p:=⟨g,k*5+4,none⟩) hgl1).trans n4;have hge:g<wc.heap.size:=by omega
    have y0:wc.cell? ⟨w.heap.size+1,0,none⟩=some (.int .i64 x.key):=HS3.out.bx.cell 0;have y1:wc.cell? ⟨w.heap.size+1,1,none⟩=some (.int .i64 x.c):=HS3.out.bx.cell 1;have y2:wc.cell? ⟨w.heap.size+1,2,none⟩=some (.int .i64 x.s):=HS3.out.bx.cell 2;have y3:wc.cell? ⟨w.heap.size+1,3,none⟩=some (.int .i64 x.lo):=HS3.out.bx.cell 3;have y4:wc.cell? ⟨w.heap.size+1,4,none⟩=some (.int .i64 x.hi):=HS3.out.bx.cell 4;have y5:wc.cell? ⟨w.heap.size+1,5,none⟩=some (.int .i64 x.t):=HS3.out.bx.cell 5;have y6:wc.cell? ⟨w.heap.size+1,6,none⟩=some (.int .i64 x.l):=HS3.out.bx.cell 6;have b0:wc.cell? ⟨w.heap.size,0,none⟩=some (.slice (some ⟨g,0,none⟩) qs.length C):=HS3.out.bt.cell 0;have b1:wc.cell? ⟨w.heap.size,1,none⟩=some (.int .i64 r):=HS3.out.bt.cell 1;have hxl3:=HS3.out.bx.lt;have hbl3:=HS3.out.bt.lt;clear n0 n1 n2 n3 n4 x0 hbe;cases c1 with
    |true=>
     have fz3:wc.frozen? ⟨g,k*5+4,none⟩=false:=(HBE.out.frozen (p:=⟨g,k*5+4,none⟩) hgl1).trans fz;go_upto_region 7 with fail
     go_region_with (go_at_call 139;refine(HC.out _ (HBE.out.drew)).mono ?_;rintro e w2 ⟨A2,C2,rfl,hm2⟩;have HM:=aA (hm2.from ((Below.refl _ _).drew));have c2:w2.cell? ⟨g,k*5+4,none⟩=some (.slice q.bA q.buf.length q.bC):=(HM.out.kept.cell _ hge HGB.out).trans m4;have f2:w2.frozen? ⟨g,k*5+4,none⟩=false:=(World.frozen?_of_block (a:=⟨g,k*5+4,none⟩) (HM.out.kept.block g hge HGB.out)).trans fz3;clear hm2)
     all_goals
      go_wp2
      (try simp only[Exit.inBlock,Exit.then]);refine bodyPost_ret (results_none rfl _ _ _) rfl ?_
      have hst:=HS3.out.mem.nt.setBuf hk1 hq HM.out.own HM.out.kept HM.out.lies' (by have:=qey q.buf x;omega)
      refine⟨rfl,_,HS3.out.mem.trans hst,?_⟩;exact hf1.out A2 C2 trivial
    |false=>
     have hod:=(eG HO.out.d).1;rw[hkids] at hod m3 hki;obtain⟨db,doff,hA,hdl,hdc⟩:=hod.int hkd;rw[hA] at m3 hki
     have nk:wc.cell? ⟨db,doff+kd,none⟩=some (.int .i64 (kids.getD kd 0)):=by
      rw[HBE.out.cell (p:=⟨db,doff+kd,none⟩) hdl,hdc,List.getD_eq_getElem?_getD,List.getElem?_eq_getElem hkd]
      rfl
     have hnodes:Hid (∀(w3:World) (qs2:List PN),NT base w3 g C qs2->qs2[k]? =qs1[k]?->w3.cell? ⟨g,k*5,none⟩=some (.bool q.leaf)/\w3.cell? ⟨g,k*5+1,none⟩=some (.slice q.eA q.ents.length q.eC)/\w3.cell? ⟨g,k*5+2,none⟩=some (.slice q.kA q.keys.length q.kC)/\w3.cell? ⟨g,k*5+3,none⟩=some (.slice (some ⟨db,doff,none⟩) kids.length q.dC)/\w3.cell? ⟨g,k*5+4,none⟩=some (.slice q.bA q.buf.length q.bC)/\w3.cell? ⟨db,doff+kd,none⟩=some (.int .i64 (kids.getD kd 0))):=fun w3 qs2 hn2 hq2=>by
      rw[List.getElem?_eq_getElem hk1,hq] at hq2;obtain⟨hk2,hq2'⟩:=List.getElem?_eq_some_iff.1 hq2;obtain⟨d0,d1,d2,d3,d4⟩:=hn2.node hk2;have hod2:=(eG (hn2.each _ (List.getElem_mem hk2)).d).1;rw[hq2'] at d0 d1 d2 d3 d4 hod2;rw[hkids] at hod2 d3;rw[hA] at hod2 d3;obtain⟨db',doff',hA',_,hdc'⟩:=hod2.int hkd;cases hA';refine⟨d0,d1,d2,d3,d4,?_⟩;rw[hdc',List.getD_eq_getElem?_getD,List.getElem?_eq_getElem hkd]
      rfl
     generalize kids.getD kd 0=kp at nk hsk hnodes;have hdl3:db<wc.heap.size:=by omega
     have k0:(0:Int)<=(kd:Int):=by omega
     have k1:(kd:Int)<(kids.length:Int):=by omega
     have hnt3:=aA HS3.out.mem.nt;have hbs:base<=wc.heap.size:=Nat.le_trans hB HS3.out.mem.kept.size;clear HW HC HO HGB hod hdc hA hf1 HS2 HNT hkids;go_upto_region 8 with fail
     go_region_held3 (fun w'=>w'.cell? ⟨w.heap.size,0,none⟩=some (.slice (some ⟨g,0,none⟩) qs.length C)/\w'.cell? ⟨w.heap.size,1,none⟩=some (.int .i64 r)/\w'.cell? ⟨g,k*5,none⟩=some (.bool q.leaf)/\w'.cell? ⟨g,k*5+1,none⟩=some (.slice q.eA q.ents.length q.eC)/\w'.cell? ⟨g,k*5+2,none⟩=some (.slice q.kA q.keys.length q.kC)/\w'.cell? ⟨g,k*5+3,none⟩=some (.slice (some ⟨db,doff,none⟩) kids.length q.dC)/\w'.cell? ⟨g,k*5+4,none⟩=some (.slice q.bA q.buf.length q.bC)/\w'.cell? ⟨w.heap.size+1,0,none⟩=some (.int .i64 x.key)/\w'.cell? ⟨w.heap.size+1,1,none⟩=some (.int .i64 x.c)/\w'.cell? ⟨w.heap.size+1,2,none⟩=some (.int .i64 x.s)/\w'.cell? ⟨w.heap.size+1,3,none⟩=some (.int .i64 x.lo)/\w'.cell? ⟨w.heap.size+1,4,none⟩=some (.int .i64 x.hi)/\w'.cell? ⟨w.heap.size+1,5,none⟩=some (.int .i64 x.t)/\w'.cell? ⟨w.heap.size+1,6,none⟩=some (.int .i64 x.l)/\w'.cell? ⟨db,doff+kd,none⟩=some (.int .i64 kp)) (go_keep) (first
      |(go_at_call 142;refine(hki.out _ (hnt3.out.below ((Below.refl _ _).drew) (Nat.le_refl _))).mono ?_;rintro e w2 ⟨rfl,hb2'⟩;have hbw2:Below wc.heap.size wc w2:=(Below.refl _ _).drew.trans hb2';have HS4:=aA (HS3.out.next hbw2);have z:=fun b o (hb:b<wc.heap.size)=>hbw2.cell (p:=⟨b,o,none⟩) hb;have z0:=(z _ 0 hbl3).trans b0;have z1:=(z _ 1 hbl3).trans b1;have z2:=(z g (k*5) hge).trans m0;have z3:=(z g (k*5+1) hge).trans m1;have z4:=(z g (k*5+2) hge).trans m2;have z5:=(z g (k*5+3) hge).trans m3;have z6:=(z g (k*5+4) hge).trans m4;have z7:=(z _ 0 hxl3).trans y0;have z8:=(z _ 1 hxl3).trans y1;have z9:=(z _ 2 hxl3).trans y2;have za:=(z _ 3 hxl3).trans y3;have zb:=(z _ 4 hxl3).trans y4;have zc:=(z _ 5 hxl3).trans y5;have zd:=(z _ 6 hxl3).trans y6;have ze:=(z db (doff+kd) hdl3).trans nk;clear z)
      |(go_at_call 118;refine(hsk.out _ HS4.out.mem.nt (Nat.le_trans hB HS4.out.mem.kept.size)).mono ?_;rintro e w3 ⟨rfl,qs2,hm2,hf2,hq2⟩;have HS5:=aA (HS4.out.step hm2);have HR:=aA (And.intro (HS4.out.mem.trans hm2) hf2);have v:=hnodes.out w3 qs2 hm2.nt hq2;obtain⟨v0,v1,v2,v3,v4,v5⟩:=v;have u0:w3.cell? ⟨w.heap.size,0,none⟩=some (.slice (some ⟨g,0,none⟩) qs.length C):=HS5.out.bt.cell 0;have u1:w3.cell? ⟨w.heap.size,1,none⟩=some (.int .i64 r):=HS5.out.bt.cell 1;have u2:=fun j=>HS5.out.bx.cell j;simp only[En.vals] at u2;clear hm2 hf2 hq2))
     all_goals
      go_wp2
      go_end0
      exact⟨rfl,_,HR.out⟩

def qnl(T base g C n h:Nat)(r:Int):Prop:=
 ∀(qs:List PN) (w:World) (p lo hi:Int) (P:List Int) (x:En),NT base w g C qs->qs.length=n->base<=w.heap.size->Sub T 4 (qs.map PN.nd) h p lo hi P->P.Nodup->0<=lo->hi<=1099511627776->entB x lo hi=true->cntK x.key (cP (qs.map PN.nd) P)+x.c<=1073741824->(cP (qs.map PN.nd) P).length+1<=T->
  Calls Tryz.prog 118 #[.agg #[.slice (some ⟨g,0,none⟩) n C,.int .i64 r],.int .i64 p,.agg #[.int .i64 x.key,.int .i64 x.c,.int .i64 x.s,.int .i64 x.lo,.int .i64 x.hi,.int .i64 x.t,.int .i64 x.l]] w
   fun e w'=>e=.returned (.tuple #[])/\∃qs',dZ base w g C qs w' qs'/\mP T (qs.map PN.nd) (qs'.map PN.nd) h p lo hi P x/\∀n:Nat,(n:Int)∉P->qs'[n]? =qs[n]?

theorem nthQ{qs:List PN}{k:Nat}(hk:k<qs.length):nth (qs.map PN.nd) (k:Int)=(qs[k]).nd:=by simp[nth,hk]

theorem qso{ns:List Nd}{P Q:List Int}(h:∃A B,P=A++Q++B)(k:Int)(hp:Pos (cP ns P)):cntK k (cP ns Q)<=cntK k (cP ns P)/\(cP ns Q).length<=(cP ns P).length:=by
 obtain⟨A,B,rfl⟩:=h;rw[qU,qU] at hp ⊢;have h1:=nP (k:=k) hp.left.left;have h2:=nP (k:=k) hp.right;rw[oG,oG];exact⟨by omega,by simp;omega⟩

theorem qr6{qs:List PN}{k:Nat}(hk:k<qs.length)(l:List En)(A':Option Addr)(C':Nat):(qs.set k { qs[k] with buf:=l,bA:=A',bC:=C' }).map PN.nd=(qs.map PN.nd).set (k:Int).toNat { nth (qs.map PN.nd) (k:Int) with buf:=l }:=by
 rw[List.map_set,nthQ hk]
 rfl

theorem qby{T base g C n h:Nat}{r:Int}(hS:qnl T base g C n h r){qs:List PN}{w:World}{k:Nat}{lo hi:Int}{P:List Int}{x:En}(hT:NT base w g C qs)(hn:qs.length=n)(hB:base<=w.heap.size)(hs:Sub T 4 (qs.map PN.nd) (h+1) (k:Int) lo hi P)(hP:P.Nodup)(hlo:0<=lo)(hhi:hi<=1099511627776)(hx:entB x lo hi=true)(hc:cntK x.key (cP (qs.map PN.nd) P)+x.c<=1073741824)(hl:(cP (qs.map PN.nd) P).length+1<=T):
  Calls Tryz.prog 118 #[.agg #[.slice (some ⟨g,0,none⟩) n C,.int .i64 r],.int .i64 ((nth (qs.map PN.nd) (k:Int)).kids.getD (kidI (nth (qs.map PN.nd) (k:Int)).keys x.key) 0),.agg #[.int .i64 x.key,.int .i64 x.c,.int .i64 x.s,.int .i64 x.lo,.int .i64 x.hi,.int .i64 x.t,.int .i64 x.l]] w
   fun e w'=>e=.returned (.tuple #[])/\∃qs',dZ base w g C qs w' qs'/\mP T (qs.map PN.nd) (qs'.map PN.nd) (h+1) (k:Int) lo hi P x/\nth (qs'.map PN.nd) (k:Int)=nth (qs.map PN.nd) (k:Int)/\(∀n:Nat,(n:Int)∉P->qs'[n]? =qs[n]?)/\qs'[k]? =qs[k]? :=by
 obtain⟨⟨hx1,hx2⟩,hxg⟩:=entB_iff.1 hx;obtain⟨l,u,Qa,Qd,Qb,c1,hPe,c3,c4,c5,c6,c7,c8,c9,c10⟩:=qle hs hP hx1 hx2;have hsub:∃A B,P=A++Qd++B:=⟨(k:Int)::Qa,Qb,by rw[hPe];simp⟩
 obtain⟨q1,q2⟩:=qso hsub x.key (uM hs);refine(hS qs w _ l u Qd x hT hn hB c3 c6 (by omega) (by omega) (entB_iff.2 ⟨⟨c4,c5⟩,hxg⟩) (by omega) (by omega)).mono ?_
 rintro e w' ⟨rfl,qs',hm,hok,hpn⟩;exact⟨rfl,qs',hm,qju hs hPe hP c10 hok,hok.same _ c7 (by omega),fun n hn=>hpn n (fun e=>hn (by rw[hPe];simp[e])),hpn k c7⟩

theorem qi6{T h:Nat}{ns:List Nd}{p lo hi:Int}{P:List Int}(hs:Sub T 4 ns (h+1) p lo hi P):iG T ns ns h p lo hi P []:=
 ⟨hs,rfl,fun _ _ _=>rfl,by rw[List.nil_append];exact Eqv.refl (uM hs),by simp,rfl,rfl⟩

theorem q6n{T h:Nat}{ns ns1 ns2:List Nd}{p lo hi:Int}{P:List Int}{x:En}(hd:iG T ns ns1 h p lo hi P [])(hk:mP T ns1 ns2 (h+1) p lo hi P x):mP T ns ns2 (h+1) p lo hi P x:=by
 have he:=hd.eqv;have hf:=hd.few;have hx:Pos [x]:=fun y hy=>hk.eqv.posl y (by simp at hy;simp[hy])
 rw[List.nil_append] at he;refine⟨hk.sub,hk.len.trans hd.len,fun n h1 h2=>(hk.same n h1 h2).trans (hd.same n h1 h2),(he.app_left hx).trans hk.eqv,?_⟩
 have:=hk.few;simp at hf;omega

theorem qc7{T h:Nat}{ns ns1:List Nd}{p lo hi:Int}{P:List Int}{rest:List En}{x:En}(hd:iG T ns ns1 h p lo hi P rest):cntK x.key (cP ns P)=cntK x.key rest+cntK x.key (cP ns1 P):=by
 rw[hd.eqv.cnt,oG]

theorem qi9{T base g C n h:Nat}{r:Int}(hS:qnl T base g C n h r){qs:List PN}{w:World}{k:Nat}{lo hi:Int}{P:List Int}(hT:NT base w g C qs)(hn:qs.length=n)(hB:base<=w.heap.size)(hk:k<n)(hs:Sub T 4 (qs.map PN.nd) (h+1) (k:Int) lo hi P)(hP:P.Nodup)(hh:h+1<12)(hlo:0<=lo)(hhi:hi<=1099511627776)(hl:(cP (qs.map PN.nd) P).length<=T):
  Calls Tryz.prog 141 #[.agg #[.slice (some ⟨g,0,none⟩) n C,.int .i64 r],.int .i64 (k:Int)] w
   fun e w'=>e=.returned (.tuple #[])/\∃qs',dZ base w g C qs w' qs'/\iG T (qs.map PN.nd) (qs'.map PN.nd) h (k:Int) lo hi P []/\∀n:Nat,(n:Int)∉P->qs'[n]? =qs[n]? :=by
 subst hn;have hnth:=nthQ hk;have hs0:=hs;obtain⟨hr,Q,hPQ,hin⟩:=hs;rw[hnth] at hin;have hreach:=q5x (h+1) 12 _ _ _ _ hs0 hh;have ho:=hT.each _ (List.getElem_mem hk);have hat:=hT.node hk;have hents:aK (qs[k]).buf lo hi=true:=hin.buf;have hkl:(qs[k]).keys.length+1=(qs[k]).kids.length:=hin.keys;have hk4:(qs[k]).kids.length<=4:=hin.most;have hk2:2<=(qs[k]).kids.length:=hin.two;have hrise:(qs[k]).keys.Pairwise (·<·):=(oK (kF h) hin.keys hin.kids).1;have hkne:(qs[k]).keys≠[]:=fun e=>by rw[e] at hkl;simp at hkl;omega
 have hks:(qs[k]).keys.Pairwise (·<=·):=hrise.imp fun{a b} h=>by omega
 have hkidlt:∀x∈(qs[k]).buf,kidI (qs[k]).keys x.key<(qs[k]).kids.length:=by
  intro x hx;rw[xY hrise];have hb:=(jZ hents).1 x hx;obtain⟨_,_,_,_,_,c1,_⟩:=wL (kF h) hin.keys hin.kids hb.1 hb.2;exact c1
 refine qcr (T:=T) (h:=h) base g C qs.length qs (qs[k]).kids lo hi P r k (qs[k]).leaf (qs[k]).eA (qs[k]).ents.length (qs[k]).eC (qs[k]).kA (qs[k]).keys.length (qs[k]).kC (qs[k]).dA (qs[k]).kids.length (qs[k]).dC (qs[k]).bA (qs[k]).bC (qs[k]).buf (fun key=>kidI (qs[k]).keys key) (fun key=>stB (qs.map PN.nd) (k:Int) key) w hT.glt.2 hk hat.c0 hat.c1 hat.c2 hat.c3 hat.c4 (eG ho.b).1 hin.few ?_ ?_ ?_ rfl (by rw[hPQ];simp) hB hT ?_ ?_ ?_ hkidlt ?_
 ·exact fun W hW x hx=>qi3 (some ⟨g,0,none⟩) C r (k:Int) x.key qs W ((hT.below hW (Nat.le_refl _)).nodes) hreach (by have:=(jZ hents).1 x hx;omega) _ rfl
 ·exact fun W hW x=>q7w (qs[k]) x.key W ((eG ho.k).1.up hW) hkne ho.kz hks
 ·exact fun x hx=>Nat.lt_of_lt_of_le (hkidlt x hx) hk4
 ·exact⟨qs[k],List.getElem?_eq_getElem hk,rfl,rfl⟩
 ·intro f;have:=qe0 hs0 hP f;rw[hnth] at this ⊢;exact this
 ·intro ns' rest hd;rw[hd.kids,hnth]
  rfl
 ·intro qs' wr x rest hT' hn' hB' hd hxb hst;have hx:entB x lo hi=true:=entB_iff.2 ⟨(jZ hents).1 x hxb,mZ hents x hxb⟩
  have hmost:cntK x.key (cP (qs.map PN.nd) P)<=1073741824:=by
   obtain⟨a,b⟩:=q7e (k:=x.key) hs0 hh rfl;have h0:((Wl (qs.map PN.nd) x.key (x.key+1) 12 (k:Int)).foldl bV (zro,0)).2=0:=by simpa [stB] using hst
   rw[<-b h0];exact qik a h0
  have hc:=qc7 (x:=x) hd;have hposr:Pos rest:=fun y hy=>hd.eqv.posm y (by simp[hy])
  have hc2:=nP (k:=x.key) hposr;rw[cntK,if_pos rfl] at hc;have hf:=hd.few;simp only[List.length_cons] at hf;have hcall:=qby hS hT' hn' hB' hd.sub hP hlo hhi hx (by omega) (by omega)
  rw[hd.keys,hd.kids,hnth] at hcall;refine hcall.mono ?_;rintro e w' ⟨rfl,qs'',hm,hok,hsame,hpn,_⟩;exact⟨rfl,qs'',hm,qel hd hok (by rw[hsame]) (by rw[hsame]),hpn⟩

theorem qce{T base g C n:Nat}{r:Int}(hz:T*56<=140737488351232):∀h,h<12->qnl T base g C n h r
 |0,_=>by
  intro qs w p lo hi P x hT hn hB hs hP hlo hhi hx hc hl;subst hn;have hr:=hs.1;obtain⟨k,rfl⟩:∃k:Nat,p=k:=⟨p.toNat,by omega⟩
  have hk:k<qs.length:=by have:=hr.2.1;simp at this;omega
  have hnth:=nthQ hk;have hlf:=hs.2.2;rw[hnth] at hlf
  have hle:(qs[k]).ents.length+1<=T:=by
   obtain⟨_,rfl,_⟩:=hs;have e:cP (qs.map PN.nd) [(k:Int)]=(qs[k]).buf++(qs[k]).ents:=by simp[cP,cont,hnth,PN.nd]
   rw[e] at hl;simp at hl;omega
  refine(q7p base g C qs r k (qs[k]) x w hT hk rfl hlf.leaf (jZ hlf.ents).2 (by omega) hB).mono ?_
  rintro e w' ⟨A',C',rfl,hm⟩;refine⟨rfl,_,hm,?_,fun n hn=>List.getElem?_set_ne (fun e=>hn ?_)⟩
  ·have:=qi5 hs hx hc hl;rw[hnth] at this;rw[List.map_set];exact this
  ·rw[hs.2.1,e];simp
 |h+1,hh=>by
  intro qs w p lo hi P x hT hn hB hs hP hlo hhi hx hc hl;have ih:=qce (base:=base) (g:=g) (C:=C) (n:=n) (r:=r) hz h (by omega)
  subst hn;have hr:=hs.1;obtain⟨k,rfl⟩:∃k:Nat,p=k:=⟨p.toNat,by omega⟩
  have hk:k<qs.length:=by have:=hr.2.1;simp at this;omega
  have hnth:=nthQ hk
  have hin:kP 4 (Sub T 4 (qs.map PN.nd) h) (qs[k]).nd lo hi P.tail:=by
   obtain⟨_,Q,rfl,hin⟩:=hs;rw[hnth] at hin;exact hin
  have hrise:(qs[k]).keys.Pairwise (·<·):=(oK (kF h) hin.keys hin.kids).1;obtain⟨⟨hx1,hx2⟩,hxg⟩:=entB_iff.1 hx
  have hkd:kidI (qs[k]).keys x.key<(qs[k]).kids.length:=by
   rw[xY hrise];obtain⟨_,_,_,_,_,c1,_⟩:=wL (kF h) hin.keys hin.kids hx1 hx2;exact c1
  have hcnt:∀{ns1:List Nd},iG T (qs.map PN.nd) ns1 h (k:Int) lo hi P []->cntK x.key (cP ns1 P)+x.c<=1073741824/\(cP ns1 P).length+1<=T:=fun{ns1} hd=>by
   have h1:=qc7 (x:=x) hd;have h2:=hd.few;simp only[cntK,List.length_nil] at h1 h2;exact⟨by omega,by omega⟩
  have hnode:∀{qs1:List PN} (_:iG T (qs.map PN.nd) (qs1.map PN.nd) h (k:Int) lo hi P []) (h1:k<qs1.length),kP 4 (Sub T 4 (qs1.map PN.nd) h) (qs1[k]).nd lo hi P.tail/\(qs1[k]).keys=(qs[k]).keys/\(qs1[k]).kids=(qs[k]).kids:=fun{qs1} hd h1=>by
   have e:=nthQ h1;refine⟨?_,?_,?_⟩
   ·obtain⟨_,Q,rfl,hin2⟩:=hd.sub;rw[e] at hin2;exact hin2
   ·have:=hd.keys;rw[e,hnth] at this;exact this
   ·have:=hd.kids;rw[e,hnth] at this;exact this
  refine qdr base g C qs r k x w (fun qs1=>iG T (qs.map PN.nd) (qs1.map PN.nd) h (k:Int) lo hi P []/\∀n:Nat,(n:Int)∉P->qs1[n]? =qs[n]?) (fun qs'=>mP T (qs.map PN.nd) (qs'.map PN.nd) (h+1) (k:Int) lo hi P x/\∀n:Nat,(n:Int)∉P->qs'[n]? =qs[n]?) (qs[k]).kids (kidI (qs[k]).keys x.key) hT hk hin.leaf hB hkd ⟨qi6 hs,fun _ _=>rfl⟩ ?_ ?_ ?_ ?_ ?_
  ·intro qs1 _ ⟨hd,_⟩ h1;obtain⟨a,b,c⟩:=hnode hd h1;exact⟨(jZ a.buf).2,a.few,c⟩
  ·intro W hW hBW;exact qi9 ih hW rfl hBW hk hs hP hh hlo hhi (by omega)
  ·intro qs1 hl1 ⟨hd,hpn⟩ h1 A' C' hw;obtain⟨a,b⟩:=hcnt hd
   have hw':hasK (nth (qs1.map PN.nd) (k:Int)).buf x.key=true\/(nth (qs1.map PN.nd) (k:Int)).buf.length<8:=by
    rw[nthQ h1];have:hasK (qs1[k]).buf x.key=true\/(qs1[k]).buf.length<8:=by simpa using hw
    exact this
   have:=q6n hd (qk0 hd.sub hP hx a hw');refine⟨?_,fun n hn=>(List.getElem?_set_ne (fun e=>hn ?_)).trans (hpn n hn)⟩
   ·rw[qr6 h1];rw[nthQ h1] at this ⊢;exact this
   ·obtain⟨_,Q,hPQ,_⟩:=hs;rw[hPQ,e];simp
  ·intro qs1 W hl1 ⟨hd,_⟩ h1 hW;obtain⟨a,b,c⟩:=hnode hd h1;have hr1:(qs1[k]).keys.Pairwise (·<·):=by rw[b];exact hrise
   have hkl:(qs1[k]).keys.length+1=(qs1[k]).kids.length:=a.keys;have hk2:2<=(qs1[k]).kids.length:=a.two;have ho:=hW.each _ (List.getElem_mem h1);have:=q7w (qs1[k]) x.key W (eG ho.k).1 (fun e=>by rw[e] at hkl;simp at hkl;omega) ho.kz (hr1.imp fun{a b} h=>by omega)
   rw[b] at this;rw[b];exact this
  ·intro qs1 W hl1 ⟨hd,hpn⟩ hW hBW;have h1:k<qs1.length:=by omega
   obtain⟨a,b⟩:=hcnt hd;have hcall:=qby ih hW hl1 hBW hd.sub hP hlo hhi hx a b;rw[hd.keys,hd.kids,hnth] at hcall;refine hcall.mono ?_;rintro e w' ⟨rfl,qs2,hm,hok,_,hpn2,hkk⟩;exact⟨rfl,qs2,hm,⟨q6n hd hok,fun n hn=>(hpn2 n hn).trans (hpn n hn)⟩,hkk⟩

end
end Go.Proofs.YtlojfgdpmaigmagGreatDoor

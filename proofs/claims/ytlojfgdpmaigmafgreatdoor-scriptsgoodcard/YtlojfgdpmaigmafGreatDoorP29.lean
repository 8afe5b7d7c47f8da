/- The program's walk over a tree. -/
import Derived.Test.YtlojfgdpmaigmafGreatDoorP17
import Derived.Test.YtlojfgdpmaigmafGreatDoorP19
namespace Go.Proofs.YtlojfgdpmaigmafGreatDoor
section
open Go.RowKit Plain

set_option maxRecDepth 20000 in
set_option maxHeartbeats 4000000 in
theorem qqm{σ:Type}{I:World->σ->Prop}{X:World->Nat->Prop}{step:σ->En->σ}(bk bc:Nat)(V:Hid (Vis 132 #[.pointer (some ⟨bc,0,none⟩),.pointer (some ⟨bk,0,none⟩)] I X step))
  (b o C:Nat) (r:Int) (ps:List PN) (m B:Nat) (low high:Int) (s:σ) (w:World) (leaf:Bool) (eA:Option Addr) (eC:Nat) (ents:List En) (kA:Option Addr) (kC:Nat) (keys:List Int) (dA:Option Addr) (dC:Nat) (kids:List Int) (bA:Option Addr) (bC:Nat) (buf:List En) (g:Int->List En)
  (hm:m<ps.length) (hN:q0q B w (some ⟨b,o,none⟩) ps) (hat:PnAt w b (o+m*5) ⟨leaf,eA,eC,ents,kA,kC,keys,dA,dC,kids,bA,bC,buf⟩) (ok:PN.ok B w ⟨leaf,eA,eC,ents,kA,kC,keys,dA,dC,kids,bA,bC,buf⟩)
  (hB:B<=w.heap.size) (hbl:b<B) (hX:∀k,X w k->B<=k) (hI:I w s) (hk:kids.length<=keys.length+1)
  (ih:Hid (∀d∈kids,∀(s':σ) (w':World),q0q B w' (some ⟨b,o,none⟩) ps->I w' s'->B<=w'.heap.size->(∀k,X w' k->B<=k)->
   Calls Tryz.prog 103 #[.agg #[.slice (some ⟨b,o,none⟩) ps.length C,.int .i64 r],.int .i64 d,.int .i64 low,.int .i64 high,.func (Fn.func 132) #[] #[.pointer (some ⟨bc,0,none⟩),.pointer (some ⟨bk,0,none⟩)]] w'
    fun e w''=>e=.returned (.tuple #[])/\I w'' ((g d).foldl step s')/\Turned X w' w'')):
  Calls Tryz.prog 103 #[.agg #[.slice (some ⟨b,o,none⟩) ps.length C,.int .i64 r],.int .i64 (m:Int),.int .i64 low,.int .i64 high,.func (Fn.func 132) #[] #[.pointer (some ⟨bc,0,none⟩),.pointer (some ⟨bk,0,none⟩)]] w
   fun e w'=>e=.returned (.tuple #[])/\I w' ((buf.filter (inR low high)++ents.filter (inR low high)++WlK g low high kids keys none).foldl step s)/\Turned X w w':=by
 have hz:=hN.z
 obtain⟨c0,c1,c2,c3,c4⟩:=hat
 simp only at c0 c1 c2 c3 c4
 obtain⟨e1,k1,t1,f1,-,-,-,-,ez,kz,dz,fz⟩:=ok
 simp only at e1 k1 t1 f1 ez kz dz fz
 have hbw:b<w.heap.size:=by omega
 have HI:Hid (I w s):=hI
 have HX:Hid (∀k,X w k->B<=k):=hX
 clear hI hX
 go_enter Tryz.func103,Tryz.ntmps103
 go_wp2_with fail
 obtain⟨rb,rx,zz⟩:=qmd (v:=w) (l1:=[.slice (some ⟨b,o,none⟩) ps.length C,.int .i64 r]) (l2:=[.bool leaf,.slice eA ents.length eC,.slice kA keys.length kC,.slice dA kids.length dC,.slice bA buf.length bC]) (t1:=26) (t2:=153) (Below.refl _ _) rfl
 have hb01:Below w.heap.size w ((w.alloc (.cells #[.slice (some ⟨b,o,none⟩) ps.length C,.int .i64 r] 26)).alloc (.cells #[.bool leaf,.slice eA ents.length eC,.slice kA keys.length kC,.slice dA kids.length dC,.slice bA buf.length bC] 153)):=two _ _
 simp only[List.toArray] at rb rx zz
 generalize ((w.alloc (.cells #[.slice (some ⟨b,o,none⟩) ps.length C,.int .i64 r] 26)).alloc (.cells #[.bool leaf,.slice eA ents.length eC,.slice kA keys.length kC,.slice dA kids.length dC,.slice bA buf.length bC] 153))=w1 at *
 have I1:Hid (I w1 s):=V.out.stay _ _ _ HI.out hb01
 have X1:Hid (∀k,X w1 k->X w k):=V.out.same _ _ _ HI.out hb01
 have T01:Turned X w w1:=Turned.of_below hb01 X1.out
 have nb:Hid (¬X w1 w.heap.size):=fun h=>by have:=V.out.lt _ _ HI.out _ (X1.out _ h);omega
 have nx:Hid (¬X w1 (w.heap.size+1)):=fun h=>by have:=V.out.lt _ _ HI.out _ (X1.out _ h);omega
 clear hb01 c0 c1 c2 c3 c4
 have i0:∀(x y:Value) (w:World),(Instr.index 193 (.agg #[x,y]) (.int .i64 0)).run Tryz.prog w=.ok x w:=fun _ _ _=>by kernel_rfl
 have i1:∀(x y:Value) (w:World),(Instr.index 193 (.agg #[x,y]) (.int .i64 1)).run Tryz.prog w=.ok y w:=fun _ _ _=>by kernel_rfl
 go_loopw [29] (fun vi wr=>∃i:Nat,i<=2/\vi=.int .i64 i/\Hid (I wr ((if i=0 then[] else if i=1 then buf.filter (inR low high) else buf.filter (inR low high)++ents.filter (inR low high)).foldl step s))/\Turned X w1 wr) (fun vi _=>2-(intOf vi).toNat)
 case atStart=>exact⟨0,by omega,rfl,I1,Turned.refl _ _⟩
 case round=>
  obtain⟨i,hi,hv,HIr,htr⟩:=hrel
  rcases(show i=0\/i=1\/i=2 by omega) with rfl|rfl|rfl
  ·obtain rfl:_=Value.int .i64 0:=hv
   simp only[if_true] at HIr
   go_wp2_with fail
   go_loopw [34] (fun vk wi=>∃k:Nat,k<=buf.length/\vk=.int .i64 k/\Hid (I wi (([]++(buf.take k).filter (inR low high)).foldl step s))/\Turned X w1 wi) (fun vk _=>buf.length-(intOf vk).toNat)
   case atStart=>exact⟨0,Nat.zero_le _,rfl,(by show I _ _;simpa using HIr.out),htr⟩
   case round=>
    clear HIr htr
    obtain⟨k,hkl,rfl,HIr,htr⟩:=hrel
    have hTw:Turned X w wr:=T01.trans htr
    have hBb:Below B w wr:=hTw.below hB HX.out
    have hsz:=hTw.size
    by_cases hlt:k<buf.length
    ·obtain⟨qb,qo,rfl,hqb,hqe⟩:=(f1.below hBb (Nat.le_refl _)).en hlt
     obtain⟨y,hy⟩:∃y,buf[k]=y:=⟨_,rfl⟩
     rw[hy] at hqe
     obtain⟨q0,q1,q2,q3,q4,q5,q6⟩:=hqe
     have hqr:qb<wr.heap.size:=by omega
     have HT:Hid ((buf.take (k+1)).filter (inR low high)=(buf.take k).filter (inR low high)++if inR low high y=true then[y] else[]):=by
      show _=_
      rw[List.take_succ_eq_append_getElem hlt,List.filter_append,hy]
      by_cases h:inR low high y=true<;>simp[h]
     clear hy
     have hbA:∀o:Obj,Below wr.heap.size wr (wr.alloc o):=fun o=>(Below.refl _ _).alloc (Nat.le_refl _) o
     by_cases hq:inR low high y=true
     ·have hq':low<=y.key/\y.key<high:=by simpa [inR] using hq
      go_wp2_with (go_at_call 132;refine(V.out.call y _ _ (V.out.stay _ _ _ HIr.out (hbA _))).mono ?_;rintro e w2 ⟨rfl,hI2,ht2⟩)
      refine⟨⟨k+1,hlt,by go_num,?_,htr.trans ((Turned.of_below (hbA _) (V.out.same _ _ _ HIr.out (hbA _))).trans ht2)⟩,by simp only[intOf];omega⟩
      show I _ _
      rw[HT.out,if_pos hq,<-List.append_assoc,List.foldl_append]
      exact hI2
     ·have hq':¬(low<=y.key/\y.key<high):=by simpa [inR] using hq
      go_wp2_with fail
      all_goals (refine⟨⟨k+1,hlt,by go_num,?_,htr.trans (Turned.of_below (hbA _) (V.out.same _ _ _ HIr.out (hbA _)))⟩,by simp only[intOf];omega⟩;show I _ _;rw[HT.out,if_neg hq,List.append_nil];exact V.out.stay _ _ _ HIr.out (hbA _))
    ·go_wp2_with fail
     have hke:k=buf.length:=by omega
     refine⟨⟨0+1,by omega,rfl,?_,htr⟩,by decide⟩
     show I _ _
     have q:=HIr.out
     rw[hke,List.take_length] at q
     simpa using q
  ·obtain rfl:_=Value.int .i64 1:=hv
   simp only[if_true,Nat.one_ne_zero,if_false] at HIr
   go_wp2_with fail
   go_loopw [34] (fun vk wi=>∃k:Nat,k<=ents.length/\vk=.int .i64 k/\Hid (I wi ((buf.filter (inR low high)++(ents.take k).filter (inR low high)).foldl step s))/\Turned X w1 wi) (fun vk _=>ents.length-(intOf vk).toNat)
   case atStart=>exact⟨0,Nat.zero_le _,rfl,(by show I _ _;simpa using HIr.out),htr⟩
   case round=>
    clear HIr htr
    obtain⟨k,hkl,rfl,HIr,htr⟩:=hrel
    have hTw:Turned X w wr:=T01.trans htr
    have hBb:Below B w wr:=hTw.below hB HX.out
    have hsz:=hTw.size
    by_cases hlt:k<ents.length
    ·obtain⟨qb,qo,rfl,hqb,hqe⟩:=(e1.below hBb (Nat.le_refl _)).en hlt
     obtain⟨y,hy⟩:∃y,ents[k]=y:=⟨_,rfl⟩
     rw[hy] at hqe
     obtain⟨q0,q1,q2,q3,q4,q5,q6⟩:=hqe
     have hqr:qb<wr.heap.size:=by omega
     have HT:Hid ((ents.take (k+1)).filter (inR low high)=(ents.take k).filter (inR low high)++if inR low high y=true then[y] else[]):=by
      show _=_
      rw[List.take_succ_eq_append_getElem hlt,List.filter_append,hy]
      by_cases h:inR low high y=true<;>simp[h]
     clear hy
     have hbA:∀o:Obj,Below wr.heap.size wr (wr.alloc o):=fun o=>(Below.refl _ _).alloc (Nat.le_refl _) o
     by_cases hq:inR low high y=true
     ·have hq':low<=y.key/\y.key<high:=by simpa [inR] using hq
      go_wp2_with (go_at_call 132;refine(V.out.call y _ _ (V.out.stay _ _ _ HIr.out (hbA _))).mono ?_;rintro e w2 ⟨rfl,hI2,ht2⟩)
      refine⟨⟨k+1,hlt,by go_num,?_,htr.trans ((Turned.of_below (hbA _) (V.out.same _ _ _ HIr.out (hbA _))).trans ht2)⟩,by simp only[intOf];omega⟩
      show I _ _
      rw[HT.out,if_pos hq,<-List.append_assoc,List.foldl_append]
      exact hI2
     ·have hq':¬(low<=y.key/\y.key<high):=by simpa [inR] using hq
      go_wp2_with fail
      all_goals (refine⟨⟨k+1,hlt,by go_num,?_,htr.trans (Turned.of_below (hbA _) (V.out.same _ _ _ HIr.out (hbA _)))⟩,by simp only[intOf];omega⟩;show I _ _;rw[HT.out,if_neg hq,List.append_nil];exact V.out.stay _ _ _ HIr.out (hbA _))
    ·go_wp2_with fail
     have hke:k=ents.length:=by omega
     refine⟨⟨1+1,by omega,rfl,?_,htr⟩,by decide⟩
     show I _ _
     have q:=HIr.out
     rw[hke,List.take_length] at q
     simpa using q
  ·obtain rfl:_=Value.int .i64 2:=hv
   simp only[show ¬(2=0) by decide,show ¬(2=1) by decide,if_false] at HIr
   have rx':=htr.row rx nx.out
   have y3:=rx'.cell 3
   simp only[List.getElem?_cons_zero,List.getElem?_cons_succ] at y3
   have hxl:=rx'.lt
   have w2e:∃w2,w2=wr:=⟨_,rfl⟩
   obtain⟨w2,hw2⟩:=w2e
   have H2:Hid (I w2 ((buf.filter (inR low high)++ents.filter (inR low high)).foldl step s)):=by rw[hw2];exact HIr
   have T2:Turned X w1 w2:=by rw[hw2];exact htr
   go_wp2_with fail
   clear y3 hxl rx'
   rw[<-hw2]
   go_loopw [56] (fun vi wk=>∃i:Nat,i<=kids.length/\vi=.int .i64 i/\Hid (I wk ((buf.filter (inR low high)++ents.filter (inR low high)++(List.range i).flatMap (itK g low high kids keys none)).foldl step s))/\Turned X w1 wk) (fun vi _=>kids.length-(intOf vi).toNat)
   case atStart=>exact⟨0,Nat.zero_le _,rfl,(by show I _ _;simpa using H2.out),T2⟩
   case round=>
    clear HIr htr H2 T2 hw2 w2
    obtain⟨i,hi,rfl,HIr,htr⟩:=hrel
    have hTw:Turned X w wr:=T01.trans htr
    have hBb:Below B w wr:=hTw.below hB HX.out
    have hsz:=hTw.size
    have hsz1:=htr.size
    have rb':=htr.row rb nb.out
    have rx':=htr.row rx nx.out
    have y0:=rb'.cell 0
    have y1:=rb'.cell 1
    have y2:=rx'.cell 2
    have y3:=rx'.cell 3
    simp only[List.getElem?_cons_zero,List.getElem?_cons_succ] at y0 y1 y2 y3
    have hxl:=rx'.lt
    have hBr:B<=wr.heap.size:=by omega
    have hwl:w.heap.size<wr.heap.size:=by omega
    have HNr:Hid (q0q B wr (some ⟨b,o,none⟩) ps):=hN.below hBb (Nat.le_refl _)
    have HXr:Hid (∀k,X wr k->B<=k):=hTw.far hB HX.out
    by_cases hlt:i<kids.length
    ·obtain⟨qb,qo,rfl,hqb,hqc⟩:=(t1.below hBb (Nat.le_refl _)).int hlt
     obtain⟨kd,hkd⟩:∃kd,kids[i]=kd:=⟨_,rfl⟩
     have con:=fun w' (h1:q0q B w' (some ⟨b,o,none⟩) ps) h2 h3 h4=>ih.out kd (by rw[<-hkd];exact List.getElem_mem hlt) ((buf.filter (inR low high)++ents.filter (inR low high)++(List.range i).flatMap (itK g low high kids keys none)).foldl step s) w' h1 h2 h3 h4
     rw[hkd] at hqc
     have hqr:qb<wr.heap.size:=by omega
     have HT:Hid ((List.range (i+1)).flatMap (itK g low high kids keys none)=(List.range i).flatMap (itK g low high kids keys none)++itK g low high kids keys none i):=by
      show _=_
      rw[List.range_succ,List.flatMap_append]
      simp
     have HE:Hid (itK g low high kids keys none i=if q8f low high (if i=0 then none else keys[i-1]?) keys[i]? =true then[] else g kd):=by
      show _=_
      unfold itK
      rw[<-hkd,List.getD_eq_getElem?_getD,List.getElem?_eq_getElem hlt]
      rfl
     clear hkd ih
     cases i with
     |zero=>
      by_cases hkk:0<keys.length
      ·obtain⟨zb,zo,rfl,hzb,hzc⟩:=(k1.below hBb (Nat.le_refl _)).int hkk
       obtain⟨nk,hnk⟩:∃nk,keys[0]=nk:=⟨_,rfl⟩
       rw[hnk] at hzc
       have hzr:zb<wr.heap.size:=by omega
       have hn:keys[0]? =some nk:=by rw[List.getElem?_eq_getElem hkk,hnk]
       simp only[Nat.add_zero] at hzc hqc
       have HE':Hid (itK g low high kids keys none 0=if nk<=low then[] else g kd):=by
        show _=_
        rw[HE.out]
        simp[q8f,hn]
       clear HE
       by_cases hc:nk<=low
       ·go_wp2_with fail
        all_goals (refine⟨⟨0+1,hlt,by go_num,?_,htr⟩,by simp only[intOf];omega⟩;show I _ _;rw[HT.out,HE'.out,if_pos hc,List.append_nil];exact HIr.out)
       ·go_wp2_with (go_at_call 103;refine(con _ ?_ ?_ ?_ ?_).mono ?_;exact HNr.out;exact HIr.out;exact hBr;exact HXr.out;rintro e w2 ⟨rfl,hI2,ht2⟩)
        refine⟨⟨0+1,hlt,by go_num,?_,htr.trans ht2⟩,by simp only[intOf];omega⟩
        show I _ _
        rw[HT.out,HE'.out,if_neg (by omega),<-List.append_assoc,List.foldl_append]
        exact hI2
      ·have hn:keys[0]? =none:=List.getElem?_eq_none (by omega)
       have hk1:(keys.length:Int)<1:=by omega
       clear hkk
       simp only[Nat.add_zero] at hqc
       have HE':Hid (itK g low high kids keys none 0=g kd):=by
        show _=_
        rw[HE.out]
        simp[q8f,hn]
       clear HE
       go_wp2_with (go_at_call 103;refine(con _ ?_ ?_ ?_ ?_).mono ?_;exact HNr.out;exact HIr.out;exact hBr;exact HXr.out;rintro e w2 ⟨rfl,hI2,ht2⟩)
       refine⟨⟨0+1,hlt,by go_num,?_,htr.trans ht2⟩,by simp only[intOf];omega⟩
       show I _ _
       rw[HT.out,HE'.out,<-List.append_assoc,List.foldl_append]
       exact hI2
     |succ j=>
      have hjk:j<keys.length:=by omega
      obtain⟨zb,zo,rfl,hzb,hzp⟩:=(k1.below hBb (Nat.le_refl _)).int hjk
      obtain⟨pv,hpv⟩:∃pv,keys[j]=pv:=⟨_,rfl⟩
      rw[hpv] at hzp
      have hzr:zb<wr.heap.size:=by omega
      have hp:keys[j]? =some pv:=by rw[List.getElem?_eq_getElem hjk,hpv]
      by_cases hkk:j+1<keys.length
      ·obtain⟨zb',zo',hzz,_,hzc⟩:=(k1.below hBb (Nat.le_refl _)).int hkk
       obtain⟨rfl,rfl⟩:zb=zb'/\zo=zo':=by simpa using hzz
       obtain⟨nk,hnk⟩:∃nk,keys[j+1]=nk:=⟨_,rfl⟩
       rw[hnk] at hzc
       have hn:keys[j+1]? =some nk:=by rw[List.getElem?_eq_getElem hkk,hnk]
       have HE':Hid (itK g low high kids keys none (j+1)=if high<=pv\/nk<=low then[] else g kd):=by
        show _=_
        rw[HE.out]
        simp[q8f,hn,hp]
       clear HE
       by_cases hc:high<=pv\/nk<=low
       ·have HC:Hid (high<=pv\/nk<=low):=hc
        by_cases hc1:high<=pv<;>by_cases hc2:nk<=low<;>(try (exfalso;omega))<;>clear hc
        all_goals go_wp2_with fail
        all_goals (refine⟨⟨j+1+1,hlt,by go_num,?_,htr⟩,by simp only[intOf];omega⟩;show I _ _;rw[HT.out,HE'.out,if_pos HC.out,List.append_nil];exact HIr.out)
       ·have hc1:¬high<=pv:=by omega
        have hc2:¬nk<=low:=by omega
        have HC:Hid (¬(high<=pv\/nk<=low)):=hc
        clear hc
        go_wp2_with (go_at_call 103;refine(con _ ?_ ?_ ?_ ?_).mono ?_;exact HNr.out;exact HIr.out;exact hBr;exact HXr.out;rintro e w2 ⟨rfl,hI2,ht2⟩)
        refine⟨⟨j+1+1,hlt,by go_num,?_,htr.trans ht2⟩,by simp only[intOf];omega⟩
        show I _ _
        rw[HT.out,HE'.out,if_neg HC.out,<-List.append_assoc,List.foldl_append]
        exact hI2
      ·have hn:keys[j+1]? =none:=List.getElem?_eq_none (by omega)
       have HE':Hid (itK g low high kids keys none (j+1)=if high<=pv then[] else g kd):=by
        show _=_
        rw[HE.out]
        simp[q8f,hn,hp]
       clear HE
       by_cases hc:high<=pv
       ·go_wp2_with fail
        all_goals (refine⟨⟨j+1+1,hlt,by go_num,?_,htr⟩,by simp only[intOf];omega⟩;show I _ _;rw[HT.out,HE'.out,if_pos hc,List.append_nil];exact HIr.out)
       ·go_wp2_with (go_at_call 103;refine(con _ ?_ ?_ ?_ ?_).mono ?_;exact HNr.out;exact HIr.out;exact hBr;exact HXr.out;rintro e w2 ⟨rfl,hI2,ht2⟩)
        refine⟨⟨j+1+1,hlt,by go_num,?_,htr.trans ht2⟩,by simp only[intOf];omega⟩
        show I _ _
        rw[HT.out,HE'.out,if_neg (by omega),<-List.append_assoc,List.foldl_append]
        exact hI2
    ·have hie:i=kids.length:=by omega
     go_wp2_with fail
     go_end0
     refine⟨rfl,?_,hTw⟩
     rw[qao,<-hie]
     exact HIr.out
theorem quk{σ:Type}{I:World->σ->Prop}{X:World->Nat->Prop}{step:σ->En->σ}(bk bc:Nat)(V:Vis 132 #[.pointer (some ⟨bc,0,none⟩),.pointer (some ⟨bk,0,none⟩)] I X step)
  (A:Option Addr) (C:Nat) (r:Int) (ps:List PN) (B:Nat) (low high:Int):∀(f:Nat) (n:Int) (s:σ) (w:World),Reach (ps.map PN.nd) f n->q0q B w A ps->I w s->B<=w.heap.size->(∀k,X w k->B<=k)->
  Calls Tryz.prog 103 #[.agg #[.slice A ps.length C,.int .i64 r],.int .i64 n,.int .i64 low,.int .i64 high,.func (Fn.func 132) #[] #[.pointer (some ⟨bc,0,none⟩),.pointer (some ⟨bk,0,none⟩)]] w
   fun e w'=>e=.returned (.tuple #[])/\I w' ((Wl (ps.map PN.nd) low high f n).foldl step s)/\Turned X w w':=by
 intro f
 induction f with
 |zero=>intro n s w h;exact h.elim
 |succ f ih=>
  intro n s w hr hN hI hB hX
  obtain⟨h0,h1,h2,h3⟩:=hr
  simp only[List.length_map] at h1
  obtain⟨m,rfl⟩:∃m:Nat,n=m:=⟨n.toNat,by omega⟩
  have hm:m<ps.length:=by omega
  obtain⟨b,o,rfl,hbl,hat⟩:=hN.row.pn hm
  have ok:=hN.each m hm
  have hg:(ps.map PN.nd).getD m default=(ps[m]).nd:=by simp[hm]
  simp only[Int.toNat_natCast,hg] at h2 h3
  have e:Wl (ps.map PN.nd) low high (f+1) (m:Int)=(ps[m]).buf.filter (inR low high)++(ps[m]).ents.filter (inR low high)++WlK (Wl (ps.map PN.nd) low high f) low high (ps[m]).kids (ps[m]).keys none:=by
   rw[Wl]
   simp only[Int.toNat_natCast,hg]
   rfl
  rw[e]
  exact qqm bk bc V b o C r ps m B low high s w _ _ _ _ _ _ _ _ _ _ _ _ _ (Wl (ps.map PN.nd) low high f) hm hN hat ok hB hbl hX hI h2 (fun d hd s' w' a1 a2 a3 a4=>ih d s' w' (h3 d hd) a1 a2 a3 a4)

theorem qvl{ns:List Nd}{root key:Int}(h:q1k ns root=0):(Wl ns key (key+1) 12 root).foldl q2y (zro,0)=gotA ns key:=by
 obtain⟨r,hW⟩:=q8j h
 have hp:=qhj h
 obtain⟨_,hok⟩:=q9b h
 have good:∀x∈ns.flatMap (fun x=>x.buf++x.ents),Good x.ru:=fun x hx=>by
  obtain⟨n,hn,hx⟩:=List.mem_flatMap.1 hx
  obtain⟨i,hi,rfl⟩:=List.getElem_of_mem hn
  obtain⟨_,_,g1,g2⟩:=hok i hi
  rcases List.mem_append.1 hx with hx|hx
  ·exact g2 x hx
  ·exact g1 x hx
 have pl:∀l:List Nd,(l.flatMap (fun x=>x.buf++x.ents)).Perm (l.flatMap Nd.lst):=fun l=>by
  induction l with
  |nil=>simp
  |cons a l ih=>simpa [Nd.lst] using List.Perm.append (List.perm_append_comm (l₁:=a.buf) (l₂:=a.ents)) ih
 have e1:Wl ns key (key+1) 12 root=(Fl ns 12 root).filter (inR key (key+1)):=ql1 12 _ _ _ _ _ hW
 have p1:(Wl ns key (key+1) 12 root).Perm ((ns.flatMap Nd.lst).filter (inR key (key+1))):=by
  rw[e1]
  exact(hp.trans (pl ns)).filter _
 have each:∀x∈Wl ns key (key+1) 12 root,x.key=key/\Good x.ru:=fun x hx=>by
  rw[e1] at hx
  obtain⟨m,q⟩:=List.mem_filter.1 hx
  have q':key<=x.key/\x.key<key+1:=by simpa [inR] using q
  exact⟨by omega,good x (hp.subset m)⟩
 have:=qn8 (qah (key:=key) (Wl ns key (key+1) 12 root) (some []) (zro,0) (.inl ⟨rfl,rfl⟩) each)
 rw[<-this]
 have e2:(Wl ns key (key+1) 12 root).foldl insO (some [])=allR key (key+1) (ns.flatMap Nd.lst):=q6r p1 (fun x hx=>(good_iff.1 (each x hx).2).1.1)
 rw[e2]
 unfold gotA
 cases allR key (key+1) (ns.flatMap Nd.lst) with
 |none=>rfl
 |some ys=>cases ys<;>rfl

theorem qpm(w:World)(o:Obj)(l1 l2 l3:List Value)(t1 t2 t3:TypeId){W:World}(hW:W=(((w.alloc o).alloc (.cells l1.toArray t1)).alloc (.cells l2.toArray t2)).alloc (.cells l3.toArray t3)):
  RowL W (w.heap.size+1) t1 l1/\RowL W (w.heap.size+1+1) t2 l2/\RowL W (w.heap.size+1+1+1) t3 l3/\Below w.heap.size w W/\W.heap.size=w.heap.size+4:=by
 subst hW
 have s0:(w.alloc o).heap.size=w.heap.size+1:=by simp
 have s1:((w.alloc o).alloc (.cells l1.toArray t1)).heap.size=w.heap.size+1+1:=by simp
 have s2:(((w.alloc o).alloc (.cells l1.toArray t1)).alloc (.cells l2.toArray t2)).heap.size=w.heap.size+1+1+1:=by simp
 have s3:((((w.alloc o).alloc (.cells l1.toArray t1)).alloc (.cells l2.toArray t2)).alloc (.cells l3.toArray t3)).heap.size=w.heap.size+4:=by simp
 have r1:RowL ((w.alloc o).alloc (.cells l1.toArray t1)) (w.heap.size+1) t1 l1:=by have:=q0b (w.alloc o) l1 t1;rwa [s0] at this
 have r2:RowL (((w.alloc o).alloc (.cells l1.toArray t1)).alloc (.cells l2.toArray t2)) (w.heap.size+1+1) t2 l2:=by have:=q0b ((w.alloc o).alloc (.cells l1.toArray t1)) l2 t2;rwa [s1] at this
 have r3:RowL ((((w.alloc o).alloc (.cells l1.toArray t1)).alloc (.cells l2.toArray t2)).alloc (.cells l3.toArray t3)) (w.heap.size+1+1+1) t3 l3:=by have:=q0b (((w.alloc o).alloc (.cells l1.toArray t1)).alloc (.cells l2.toArray t2)) l3 t3;rwa [s2] at this
 refine⟨(r1.of_block (Below.heap_alloc _ _ _ (by omega))).of_block (Below.heap_alloc _ _ _ (by omega)),r2.of_block (Below.heap_alloc _ _ _ (by omega)),r3,?_,s3⟩
 exact((((Below.refl _ _).alloc (Nat.le_refl _) _).alloc (by omega) _).alloc (by omega) _).alloc (by omega) _

set_option maxRecDepth 20000 in
set_option maxHeartbeats 4000000 in
theorem q8m(A:Option Addr)(C:Nat)(r place key:Int)(ps:List PN)(w:World)(hN:q0q w.heap.size w A ps)(hr:Reach (ps.map PN.nd) 12 place)(hk:0<=key/\key<=1099511627775)(s:Ru × Int)(hs:Hid ((Wl (ps.map PN.nd) key (key+1) 12 place).foldl q2y (zro,0)=s)):
  Calls Tryz.prog 91 #[.agg #[.slice A ps.length C,.int .i64 r],.int .i64 place,.int .i64 key] w
   fun e w'=>e=.returned (.tuple #[.agg #[.int .i64 s.1.c,.int .i64 s.1.s,.int .i64 s.1.lo,.int .i64 s.1.hi,.int .i64 s.1.t,.int .i64 s.1.l],.int .i64 s.2])/\Below w.heap.size w w':=by
 obtain⟨W4,hW4⟩:∃W4,W4=(((w.alloc (.cells #[.slice A ps.length C,.int .i64 r] 26)).alloc (.cells #[.int .i64 0,.int .i64 0,.int .i64 0,.int .i64 0,.int .i64 0,.int .i64 0] 49)).alloc (.cells #[.int .i64 0,.int .i64 0,.int .i64 0,.int .i64 0,.int .i64 0,.int .i64 0] 49)).alloc (.cells #[.int .i64 0] 30):=⟨_,rfl⟩
 obtain⟨r1,r2,r3,hb4,hz4⟩:=qpm w _ (ruV zro) (ruV zro) [.int .i64 0] _ _ _ hW4
 have con:Calls Tryz.prog 103 #[.agg #[.slice A ps.length C,.int .i64 r],.int .i64 place,.int .i64 key,.int .i64 (key+1),.func (Fn.func 132) #[] #[.pointer (some ⟨w.heap.size+1+1+1,0,none⟩),.pointer (some ⟨w.heap.size+1+1,0,none⟩)]] W4
   fun e w'=>e=.returned (.tuple #[])/\RowL w' (w.heap.size+1) 49 (ruV zro)/\RowL w' (w.heap.size+1+1) 49 (ruV s.1)/\RowL w' (w.heap.size+1+1+1) 30 [.int .i64 s.2]/\Below w.heap.size w w':=by
  have V:=visK (w.heap.size+1+1) (w.heap.size+1+1+1)
  have far:∀k,XK (w.heap.size+1+1) (w.heap.size+1+1+1) W4 k->w.heap.size<=k:=fun k hk=>by rcases hk with rfl|rfl<;>omega
  refine(quk (w.heap.size+1+1) (w.heap.size+1+1+1) V A C r ps w.heap.size key (key+1) 12 place (zro,0) W4 hr (hN.below hb4 (Nat.le_refl _)) ⟨by omega,r2,r3⟩ (by omega) far).mono ?_
  rintro e w' ⟨rfl,hK,hT⟩
  rw[hs.out] at hK
  exact⟨rfl,hT.row r1 (by rintro(h|h)<;>omega),hK.rk,hK.rc,hb4.trans (hT.below (by omega) far)⟩
 subst hW4
 clear r1 r2 r3 hb4 hz4 hs hr
 go_enter Tryz.func91,Tryz.ntmps91
 go_wp2_with (go_at_call 103;refine con.mono ?_;rintro e w1 ⟨rfl,q1,q2,q3,hb1⟩;have d1:=fun j=>q1.cell j;have f1:=fun j=>q1.frozen j;have d2:=fun j=>q2.cell j;have d3:=fun j=>q3.cell j;simp only[ruV] at d1 d2;have l1:=q1.lt;have l2:=q2.lt;have l3:=q3.lt)
 clear con
 obtain⟨n1,hn1⟩:∃n,n=w.heap.size+1:=⟨_,rfl⟩
 obtain⟨n2,hn2⟩:∃n,n=w.heap.size+1+1:=⟨_,rfl⟩
 obtain⟨n3,hn3⟩:∃n,n=w.heap.size+1+1+1:=⟨_,rfl⟩
 have x12:¬n1=n2:=by omega
 have x21:¬n2=n1:=by omega
 have x13:¬n1=n3:=by omega
 have x31:¬n3=n1:=by omega
 have HN1:Hid (w.heap.size<=n1):=by show _<=_;omega
 rw[<-hn3,<-hn2,<-hn1]
 rw[<-hn1] at d1 f1 l1
 rw[<-hn2] at d2 l2
 rw[<-hn3] at d3 l3
 clear hn1 hn2 hn3 q1 q2 q3
 go_region
 all_goals (try go_wp2)
 exact bodyPost_ret (v:=.tuple #[.agg #[.int .i64 s.1.c,.int .i64 s.1.s,.int .i64 s.1.lo,.int .i64 s.1.hi,.int .i64 s.1.t,.int .i64 s.1.l],.int .i64 s.2]) (by simp[results,Tryz.results91,go_sem,d1]) rfl ⟨rfl,(set6 hb1 HN1.out _ _ _ _ _ _).drew⟩

end
end Go.Proofs.YtlojfgdpmaigmafGreatDoor

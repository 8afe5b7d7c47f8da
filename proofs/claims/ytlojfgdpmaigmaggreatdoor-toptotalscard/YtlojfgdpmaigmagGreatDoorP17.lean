/- The survey of a tree, and Check. -/
import Derived.Test.YtlojfgdpmaigmagGreatDoorP16
import Derived.Test.YtlojfgdpmaigmagGreatDoorP14
import Derived.Test.YtlojfgdpmaigmagGreatDoorP08
namespace Go.Proofs.YtlojfgdpmaigmagGreatDoor
section
open Go.RowKit Plain Go.Maps

theorem qfm{w w1:World}{mb:Nat}{S:St}{D:DataW Unit}{m d:Int}(hown:w.ownsMap Tryz.prog 3 (plainElem Tryz.prog 3) mb S.length D)(hhas:∀n:Int,Maps.has D (.int .i64 n)=fV S n)(hat:∀p∈S,D.atKey (.int .i64 p.1) (.lit (.int .i64 0))=.lit (.int .i64 p.2))(hsize:Maps.size D=S.length)
  (hw:(Lit.int .i64 m).wf=true) (hs:fV S m=false) (hown1:w1.ownsMap Tryz.prog 3 (plainElem Tryz.prog 3) mb (S.length+1) (D.put (.int .i64 m) (.lit (.int .i64 d)))):nV w1 mb ((m,d)::S):=by
 have hk:=law.key (keyOf_int_mk Tryz.underlying3 hw);refine⟨_,hown1,fun n=>?_,fun p hp=>?_,?_⟩
 ·by_cases e:n=m
  ·subst e;rw[has_put_same hown.isMap hk];simp[fV]
  ·rw[has_put_other (by intro h;exact e (by simpa using h)),hhas n]
   unfold fV;rw[List.any_cons,show(((m,d):Int × Int).1==n)=false by simp;exact fun h=>e h.symm,Bool.false_or]
 ·rcases List.mem_cons.1 hp with rfl|hp
  ·exact atKey_put_same hown.isMap hk _ _
  ·have hne:p.1≠m:=by
    intro e;have:fV S m=true:=seenB_iff.2 (e▸List.mem_map.2 ⟨p,hp,rfl⟩);rw[hs] at this;cases this
   rw[atKey_put_other (by intro h;exact hne (by simpa using h))]
   exact hat p hp
 ·rw[size_put (hown.tidy law),hhas m,hs];simp[hsize]

theorem zZ{w w1:World}{q mb:Nat}(h:w.grownBy w1 (some mb)):Kept [q,mb] w w1:=
 ⟨h.os,h.tape,h.output,h.size,fun k hk hx=>h.block k hk (by intro e;cases e;simp at hx)⟩

theorem StOk.len{N:Nat}{S:St}(h:StOk N S):S.length<=N:=by
 have h1:=nM (S.map (·.1)) ((List.range N).map (fun i:Nat=>(i:Int))) h.1 (fun x hx=>by
  obtain⟨p,hp,rfl⟩:=List.mem_map.1 hx;have:=h.2 p hp;exact List.mem_map.2 ⟨p.1.toNat,by simp;omega,by omega⟩)
 simpa using h1

theorem StOk.cons{N:Nat}{S:St}(h:StOk N S){m d:Int}(h0:0<=m)(h1:m<(N:Int))(hs:fV S m=false):StOk N ((m,d)::S):=by
 refine⟨?_,fun p hp=>?_⟩
 ·rw[List.map_cons,List.nodup_cons];exact⟨fun e=>(by rw[seenB_iff.2 e] at hs;cases hs),h.1⟩
 ·rcases List.mem_cons.1 hp with rfl|hp
  ·exact⟨h0,h1⟩
  ·exact h.2 p hp

theorem qjk(x:Nd)(low high:Int)(f:Nat)(L d:Int)(S1:St):
  resN L (if jC x low high f=true then some (S1,[d]) else none)=fF x low high f L d/\∀S' l,(if jC x low high f=true then some (S1,[d]) else none)=some (S',l)->okL L l=true->S'=S1/\dY L l=(if L=0 then d else L)/\fF x low high f L d=true:=by
 by_cases h:jC x low high f=true
 ·have e:okL L [d]=decide (L=0\/L=d):=by
   by_cases h0:L=0
   ·simp[okL,h0]
   ·rw[Bool.eq_iff_iff];simp[okL,h0];exact eq_comm
  simp only[h,if_true,resN,fF,Bool.and_true];refine⟨e,fun S' l hs hk=>?_⟩
  cases hs;exact⟨rfl,by simp[dY],by rw[<-e];exact hk⟩
 ·have h':jC x low high f=false:=by simpa using h
  simp[h',resN,fF]

set_option maxRecDepth 20000 in
set_option maxHeartbeats 4000000 in
theorem qj7(A:Option Addr)(C:Nat)(ps:List PN)(q mb B:Nat)(hwf:∀p∈ps,p.wf)(hps:ps.length<=2000)(hBq:B<=q)(hBm:B<=mb):∀(f:Nat),f<=12->∀(n low high d L:Int) (S:St) (w:World),d+(f:Int)=13->bF B w A ps->Sur w q mb A ps.length C S L->StOk ps.length S->0<=low->high<=9223372036854775807->
  Calls Tryz.prog 110 #[.pointer (some ⟨q,0,none⟩),.int .i64 n,.int .i64 d,.int .i64 low,.int .i64 high] w
   fun e w'=>e=.returned (.bool (resN L (W (ps.map PN.nd) f n low high S)))/\Kept [q,mb] w w'/\∀S' l,W (ps.map PN.nd) f n low high S=some (S',l)->okL L l=true->Sur w' q mb A ps.length C S' (dY L l):=by
 intro f
 induction f with
 |zero=>
  intro _ n low high d L S w hd0 hN hS _ hlow hhigh;obtain rfl:d=13:=by omega
  clear hd0;have hz:=hN.z;have q0:=hS.row.cell 0;simp only[List.getElem?_cons_zero] at q0;have E0:Hid (resN L (W (ps.map PN.nd) 0 n low high S)=false):=rfl
  go_enter Tryz.func110,Tryz.ntmps110
  go_wp2_with fail
  all_goals go_ret
  all_goals exact⟨dQ E0.out.symm,Kept.refl _ _,fun _ _ h=>by cases h⟩
 |succ f ih=>
  intro hf n low high d L S w hd0 hN hS hst hlow hhigh;have hd1:1<=d:=by omega
  have hd2:d<=12:=by omega
  have HD:Hid (d=12-(f:Int)):=by show _=_;omega
  clear hd0;have hz:=hN.z;have hqs:=hS.row.lt;have hms:=hS.map.lt;have q0:=hS.row.cell 0;have q1:=hS.row.cell 1;simp only[List.getElem?_cons_zero,List.getElem?_cons_succ] at q0 q1
  by_cases hout:n<0\/(ps.length:Int)<=n\/high<=low
  ·have E0:Hid (W (ps.map PN.nd) (f+1) n low high S=none):=qr8 (by simp only[List.length_map];omega)
   rw[E0.out];clear ih;rcases hout with h|h|h
   all_goals
    go_enter Tryz.func110,Tryz.ntmps110
    go_wp2_with fail
    all_goals go_ret
    all_goals first|exact⟨rfl,Kept.refl _ _,fun _ _ h=>by cases h⟩|exact⟨rfl,Kept.refl _ _⟩
  ·obtain⟨m,rfl⟩:∃m:Nat,n=m:=⟨n.toNat,by omega⟩
   have hm:m<ps.length:=by omega
   have hlh:low<high:=by omega
   have hwm:(Lit.int .i64 (m:Int)).wf=true:=WalkArith.wf_i64 (by omega)
   have hwd:(Lit.int .i64 d).wf=true:=WalkArith.wf_i64 (by omega)
   have j1:¬(ps.length:Int)<=(m:Int):=by omega
   have j2:¬high<=low:=by omega
   clear hout;obtain⟨D,hown,hhas,hatk,hsize⟩:=hS.map;have hkey:=keyOf_int_mk Tryz.underlying3 hwm
   by_cases hseen:fV S (m:Int)=true
   ·have E0:Hid (W (ps.map PN.nd) (f+1) m low high S=none):=qr8 (.inr (.inr (.inr hseen)));rw[E0.out];have hh:=(hhas m).trans hseen;clear ih hhas hatk hsize
    go_enter Tryz.func110,Tryz.ntmps110
    go_wp2_with (first|(at_lookup;refine wpList_lookup_own_ok_int _ rfl _ _ 166 rfl 3 3 .i64 law Tryz.underlying166 Tryz.underlying3 (yT _) mb _ D rfl hown _ _ rfl hkey ?_;intro c hat hwc))
    go_ret
    first|exact⟨rfl,Kept.refl _ _,fun _ _ h=>by cases h⟩|exact⟨rfl,Kept.refl _ _⟩
   ·have hseen':fV S (m:Int)=false:=by simpa using hseen
    obtain⟨b,o,rfl,hbl,c0,c1,c2,c3,c4⟩:=hN.row.pn hm;have ok:=hN.each m hm;have hwp:=hwf _ (List.getElem_mem hm);have hx:(ps.map PN.nd)[m]'(by simpa using hm)=(ps[m]).nd:=by simp
    have hml:m<(ps.map PN.nd).length:=by simpa using hm
    have hat:PnAt w b (o+m*5) ps[m]:=⟨c0,c1,c2,c3,c4⟩;have hWl:=qq1 (f:=f) (low:=low) (high:=high) (S:=S) hml hx hlh hseen';have hWi:=qom (f:=f) (low:=low) (high:=high) (S:=S) hml hx hlh hseen';clear c1 c2 c3 c4 hx;generalize ps[m]=p at *;obtain⟨leaf,eA,eC,ents,kA,kC,keys,dA,dC,kids,bA,bC,buf⟩:=p;have hh:=(hhas m).trans hseen';have hsl:S.length<=ps.length:=hst.len;have hst1:StOk ps.length (((m:Int),d)::S):=hst.cons (by omega) (by omega) hseen'
    have hne:q≠mb:=hS.ne;have dd:=HD.out
    have HA:Hid (∀w1:World,w1.ownsMap Tryz.prog 3 (plainElem Tryz.prog 3) mb (S.length+1) (D.put (.int .i64 (m:Int)) (.lit (.int .i64 d)))->w.grownBy w1 (some mb)->Sur w1 q mb (some ⟨b,o,none⟩) ps.length C (((m:Int),d)::S) L/\PnAt w1 b (o+m*5) ⟨leaf,eA,eC,ents,kA,kC,keys,dA,dC,kids,bA,bC,buf⟩/\PN.ok B w1 ⟨leaf,eA,eC,ents,kA,kC,keys,dA,dC,kids,bA,bC,buf⟩/\bF B w1 (some ⟨b,o,none⟩) ps):=by
     intro w1 hown1 hgrow1;have hb1:Below B w w1:=(zZ (q:=q) hgrow1).below (by omega) (by simp;omega)
     refine⟨⟨hS.row.of_block (hgrow1.block q hqs (by simpa using hne)),qfm hown hhas hatk hsize hwm hseen' hown1,hne⟩,?_,ok.below hb1 (Nat.le_refl _),hN.below hb1 (Nat.le_refl _)⟩
     obtain⟨x0,x1,x2,x3,x4⟩:=hat;exact⟨(hb1.cell (p:=⟨b,_,none⟩) hbl).trans x0,(hb1.cell (p:=⟨b,_,none⟩) hbl).trans x1,(hb1.cell (p:=⟨b,_,none⟩) hbl).trans x2,(hb1.cell (p:=⟨b,_,none⟩) hbl).trans x3,(hb1.cell (p:=⟨b,_,none⟩) hbl).trans x4⟩
    clear hhas hatk hsize hat ok hseen;have hbm:¬b=mb:=by omega
    have hqm:¬q=mb:=hne;simp only at c0;cases hleaf:leaf with
    |true=>
     subst hleaf;obtain⟨rs,hrs⟩:∃rs,rs=fF ⟨true,ents,keys,kids,buf⟩ low high f L d:=⟨_,rfl⟩;have hW1:W (ps.map PN.nd) (f+1) m low high S=if jC ⟨true,ents,keys,kids,buf⟩ low high f=true then some (((m:Int),d)::S,[d]) else none:=by rw[dd];exact hWl rfl
     have E1:Hid (resN L (W (ps.map PN.nd) (f+1) m low high S)=rs/\∀S' l,W (ps.map PN.nd) (f+1) m low high S=some (S',l)->okL L l=true->S'=((m:Int),d)::S/\dY L l=(if L=0 then d else L)/\rs=true):=by
      rw[hW1,hrs];exact qjk _ _ _ _ _ _ _
     obtain⟨L',hL'⟩:∃L',L'=if L=0 then d else L:=⟨_,rfl⟩
     have HL':Hid (L'=if L=0 then d else L):=hL'
     clear hL' hWl hWi ih hW1;have HRS:Hid (rs=fF ⟨true,ents,keys,kids,buf⟩ low high f L d):=hrs;clear hrs dd
     go_enter Tryz.func110,Tryz.ntmps110
     go_wp2_with (first
      |(at_lookup;refine wpList_lookup_own_ok_int _ rfl _ _ 166 rfl 3 3 .i64 law Tryz.underlying166 Tryz.underlying3 (yT _) mb _ D rfl hown _ _ rfl hkey ?_;intro c hat hwc)
      |(at_mapUpdate;refine wpList_mapUpdate_own _ rfl _ _ _ 166 rfl 3 3 law Tryz.underlying166 _ mb _ D rfl hown (by unfold maxLen;omega) _ _ _ rfl rfl hkey _ [] (plainElem_int Tryz.underlying3 hwd) ?_;intro w1 hown1 hgrow1;have q0':=hgrow1.cell q0 (by simpa using hqm);have c0':=hgrow1.cell c0 (by simpa using hbm))
      |(go_at_call 131;obtain⟨g1,g2,g3,g4⟩:=HA.out w1 hown1 hgrow1;refine(q9g b o C ps.length q mb B f m low high d L (((m:Int),d)::S) w1 true eA eC ents kA kC keys dA dC kids bA bC buf hm hz g2 g3 hbl hBq g1 List.mem_cons_self hlow hhigh hd1 hd2 (by have:=HD.out;omega) rs HRS L' HL').mono ?_;rintro e w2 ⟨rfl,hk2,hs2⟩))
     go_ret;refine⟨dQ E1.out.1.symm,(zZ hgrow1).trans hk2,fun S' l h hk=>?_⟩
     obtain⟨e1,e2,e3⟩:=E1.out.2 S' l h hk;rw[e1,e2,<-HL'.out];exact hs2 e3
    |false=>
     subst hleaf;have hW1:W (ps.map PN.nd) (f+1) m low high S=if jA ⟨false,ents,keys,kids,buf⟩ low high=true then Wk (W (ps.map PN.nd) f) kids keys low high (((m:Int),d)::S) else none:=by rw[dd];exact hWi rfl
     obtain⟨R,hR⟩:∃R,R=W (ps.map PN.nd) (f+1) m low high S:=⟨_,rfl⟩;have HR:Hid (R=if jA ⟨false,ents,keys,kids,buf⟩ low high=true then Wk (W (ps.map PN.nd) f) kids keys low high (((m:Int),d)::S) else none):=hR.trans hW1
     rw[<-hR]
     have HIH:Hid (∀(n lo hi L':Int) (S':St) (w':World),bF B w' (some ⟨b,o,none⟩) ps->Sur w' q mb (some ⟨b,o,none⟩) ps.length C S' L'->StOk ps.length S'->0<=lo->hi<=9223372036854775807->
       Calls Tryz.prog 110 #[.pointer (some ⟨q,0,none⟩),.int .i64 n,.int .i64 (d+1),.int .i64 lo,.int .i64 hi] w'
        fun e w''=>e=.returned (.bool (resN L' (W (ps.map PN.nd) f n lo hi S')))/\Kept [q,mb] w' w''/\∀S'' l,W (ps.map PN.nd) f n lo hi S'=some (S'',l)->okL L' l=true->Sur w'' q mb (some ⟨b,o,none⟩) ps.length C S'' (dY L' l)):=
      fun n lo hi L' S' w' a1 a2 a3 a4 a5=>ih (by omega) n lo hi (d+1) L' S' w' (by omega) a1 a2 a3 a4 a5
     have hkk:∀z∈keys,z<=9223372036854775807:=fun z hz=>(bd (hwp.2.1 z hz)).2
     clear hWl hWi ih hW1 hR dd hwp
     go_enter Tryz.func110,Tryz.ntmps110
     go_wp2_with (first
      |(at_lookup;refine wpList_lookup_own_ok_int _ rfl _ _ 166 rfl 3 3 .i64 law Tryz.underlying166 Tryz.underlying3 (yT _) mb _ D rfl hown _ _ rfl hkey ?_;intro c hat hwc)
      |(at_mapUpdate;refine wpList_mapUpdate_own _ rfl _ _ _ 166 rfl 3 3 law Tryz.underlying166 _ mb _ D rfl hown (by unfold maxLen;omega) _ _ _ rfl rfl hkey _ [] (plainElem_int Tryz.underlying3 hwd) ?_;intro w1 hown1 hgrow1;have q0':=hgrow1.cell q0 (by simpa using hqm);have c0':=hgrow1.cell c0 (by simpa using hbm))
      |(go_at_call 132;obtain⟨g1,g2,g3,g4⟩:=HA.out w1 hown1 hgrow1;refine(q6j b o C ps q mb B f m low high d L (((m:Int),d)::S) w1 false eA eC ents kA kC keys dA dC kids bA bC buf hm g4 g2 g3 hkk hbl hBq hBm g1 List.mem_cons_self hst1 hlow hhigh hd1 hd2 hf HIH R HR).mono ?_;rintro e w2 ⟨rfl,hk2,hs2⟩))
     go_ret;exact⟨rfl,(zZ hgrow1).trans hk2,hs2⟩

theorem qdu(w:World)(l1 l3:List Value)(t1 t3:TypeId):
  (((w.alloc (.cells l1.toArray t1)).alloc (.map #[] 0)).alloc (.cells l3.toArray t3)).heap[w.heap.size+1]? =some (.map #[] 0)/\RowL (((w.alloc (.cells l1.toArray t1)).alloc (.map #[] 0)).alloc (.cells l3.toArray t3)) (w.heap.size+2) t3 l3:=by
 have s1:(w.alloc (.cells l1.toArray t1)).heap.size=w.heap.size+1:=by simp
 have s2:((w.alloc (.cells l1.toArray t1)).alloc (.map #[] 0)).heap.size=w.heap.size+2:=by simp
 refine⟨?_,?_⟩
 ·rw[Below.heap_alloc _ _ _ (by omega),<-s1];exact heap_alloc_new _ _
 ·have:=aG ((w.alloc (.cells l1.toArray t1)).alloc (.map #[] 0)) l3 t3
  rwa [s2] at this

theorem q5t(w:World)(A:Option Addr)(N C:Nat)(r:Int):
  Sur (((w.alloc (.cells #[.slice A N C,.int .i64 r] 32)).alloc (.map #[] 0)).alloc (.cells #[.slice A N C,.map (some (w.heap.size+1)),.int .i64 0] 168)) (w.heap.size+2) (w.heap.size+1) A N C [] 0:=by
 obtain⟨h1,h2⟩:=qdu w [.slice A N C,.int .i64 r] [.slice A N C,.map (some (w.heap.size+1)),.int .i64 0] 32 168;refine⟨h2,?_,by omega⟩
 have hm:(w.alloc (.map #[] 0)).ownsMap Tryz.prog 3 (plainElem (H:=Unit) Tryz.prog 3) w.heap.size 0 (.map []):=World.ownsMap_made _ _ _ _;refine⟨.map [],?_,fun n=>by simp[Maps.has,fV],by simp,rfl⟩
 unfold World.ownsMap at hm ⊢;rw[h1];have e:(w.alloc (.map #[] 0)).heap[w.heap.size]? =some (.map #[] 0):=heap_alloc_new _ _;rw[e] at hm;exact hm

set_option maxRecDepth 20000 in
set_option maxHeartbeats 4000000 in
theorem pK(A:Option Addr)(C:Nat)(r:Int)(ps:List PN)(w:World)(hN:bF w.heap.size w A ps)(hwf:∀p∈ps,p.wf):
  Calls Tryz.prog 79 #[.agg #[.slice A ps.length C,.int .i64 r]] w fun e w'=>e=.returned (.int .i64 (aV (ps.map PN.nd) r))/\Below w.heap.size w w':=by
 have hz:=hN.z
 by_cases hbig:2000<ps.length
 ·have E0:Hid (aV (ps.map PN.nd) r=1):=by show _=_;simp[aV,hbig]
  have hbig':(2000:Int)<(ps.length:Int):=by omega
  go_enter Tryz.func79,Tryz.ntmps79
  go_wp2_with fail;go_ret;exact⟨iL E0.out.symm,(Below.refl _ _).alloc (Nat.le_refl _) _⟩
 ·have hn:¬2000<(ps.map PN.nd).length:=by simpa using hbig
  have hmm:=@run_makeMap Tryz.prog;obtain⟨bb,hbb⟩:∃bb,bb=resN 0 (W (ps.map PN.nd) 12 r 0 1099511627776 []):=⟨_,rfl⟩
  have con:∀w',bF w.heap.size w' A ps->Sur w' (w.heap.size+2) (w.heap.size+1) A ps.length C [] 0->Calls Tryz.prog 110 #[.pointer (some ⟨w.heap.size+2,0,none⟩),.int .i64 r,.int .i64 1,.int .i64 0,.int .i64 1099511627776] w'
    fun e w''=>e=.returned (.bool bb)/\Kept [w.heap.size+2,w.heap.size+1] w' w''/\∀S' l,W (ps.map PN.nd) 12 r 0 1099511627776 []=some (S',l)->okL 0 l=true->Sur w'' (w.heap.size+2) (w.heap.size+1) A ps.length C S' (dY 0 l):=by
   intro w' a1 a2;rw[hbb];exact qj7 A C ps (w.heap.size+2) (w.heap.size+1) w.heap.size hwf (by omega) (by omega) (by omega) 12 (Nat.le_refl _) r 0 1099511627776 1 0 [] w' (by decide) a1 a2 ⟨by simp,by simp⟩ (by decide) (by decide)
  have hb3:∀o1 o2 o3:Obj,Below w.heap.size w (((w.alloc o1).alloc o2).alloc o3):=fun o1 o2 o3=>(((Below.refl _ _).alloc (Nat.le_refl _) _).alloc (by simp) _).alloc (by simp;omega) _
  cases hb:bb with
  |false=>
   subst hb
   have E0:Hid (aV (ps.map PN.nd) r=7):=by
    show _=_;unfold aV;rw[if_neg hn];cases hW:W (ps.map PN.nd) 12 r 0 1099511627776 [] with
    |none=>rfl
    |some p=>
     obtain⟨S,l⟩:=p;rw[hW] at hbb;simp only[resN] at hbb;simp[<-hbb]
   clear hbb
   go_enter Tryz.func79,Tryz.ntmps79
   go_wp2_with (first|(go_at_call 110;refine(con _ ?_ ?_).mono ?_;exact hN.below (hb3 _ _ _) (Nat.le_refl _);exact q5t _ _ _ _ _;rintro e w1 ⟨rfl,hk1,hs1⟩))
   go_ret;exact⟨iL E0.out.symm,(hb3 _ _ _).trans (hk1.below (by simp;omega) (by simp))⟩
  |true=>
   subst hb
   obtain⟨S,l,hW,hok⟩:∃S l,W (ps.map PN.nd) 12 r 0 1099511627776 []=some (S,l)/\okL 0 l=true:=by
    cases hW:W (ps.map PN.nd) 12 r 0 1099511627776 [] with
    |none=>rw[hW] at hbb;simp[resN] at hbb
    |some p=>
     obtain⟨S,l⟩:=p;rw[hW] at hbb;exact⟨S,l,rfl,hbb.symm⟩
   have E0:Hid (aV (ps.map PN.nd) r=if S.length=ps.length then 0 else 7):=by
    show _=_;unfold aV;rw[if_neg hn,hW];simp[hok]
   have HW:Hid (W (ps.map PN.nd) 12 r 0 1099511627776 []=some (S,l)):=hW;clear hbb hW
   go_enter Tryz.func79,Tryz.ntmps79
   go_wp2_with (first|(go_at_call 110;refine(con _ ?_ ?_).mono ?_;exact hN.below (hb3 _ _ _) (Nat.le_refl _);exact q5t _ _ _ _ _;rintro e w1 ⟨rfl,hk1,hs1⟩;have hsu:=hs1 S l HW.out hok;obtain⟨D,hown,_,_,hsize⟩:=hsu.map;have hln:=fun ty=>hown.len Tryz.underlying166 ty;have u1:=hsu.row.cell 1;simp only[List.getElem?_cons_zero,List.getElem?_cons_succ] at u1;have bx:=hk1.cell 0 (b:=w.heap.size) (by simp;omega) (by simp)))
   ·have hq:((S.length:Int) != (ps.length:Int))=true:=by assumption
    go_ret;refine⟨iL ?_,(hb3 _ _ _).trans (hk1.below (by simp;omega) (by simp))⟩
    rw[E0.out,if_neg];simp at hq;omega
   ·have hq:((S.length:Int) != (ps.length:Int))=false:=by assumption
    go_ret;refine⟨iL ?_,(hb3 _ _ _).trans (hk1.below (by simp;omega) (by simp))⟩
    rw[E0.out,if_pos];simp at hq;omega

end
end Go.Proofs.YtlojfgdpmaigmagGreatDoor

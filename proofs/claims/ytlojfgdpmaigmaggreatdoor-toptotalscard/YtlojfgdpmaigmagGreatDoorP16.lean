/- The survey's leaf. -/
import Derived.Test.YtlojfgdpmaigmagGreatDoorP14
import Derived.Deep.DeepCutAuto
import Derived.Test.YtlojfgdpmaigmagGreatDoorP08
namespace Go.Proofs.YtlojfgdpmaigmagGreatDoor
section
open Go.RowKit Plain Go.Maps

structure Sur(w:World)(q mb:Nat)(A:Option Addr)(N C:Nat)(S:St)(L:Int):Prop where
 row:RowL w q 168 [.slice A N C,.map (some mb),.int .i64 L]
 map:nV w mb S
 ne:q≠mb

theorem Sur.kept{w w':World}{q mb:Nat}{A:Option Addr}{N C:Nat}{S:St}{L:Int}(h:Sur w q mb A N C S L)(e1:w'.heap[q]? =w.heap[q]?)(e2:w'.heap[mb]? =w.heap[mb]?):Sur w' q mb A N C S L:=
 ⟨h.row.of_block e1,h.map.of_block e2,h.ne⟩

def fF(x:Nd)(low high:Int)(f:Nat)(L d:Int):Bool:=decide (L=0\/L=d)&&jC x low high f

theorem wH{leaf:Bool}{ents:List En}{low high L d:Int}{f:Nat}(hL:L=0\/L=d)(hc:f=11\/ents≠[]):fF ⟨leaf,ents,[],[],[]⟩ low high f L d=(decide ((ents.length:Int)<=6)&&aK ents low high):=by
 rw[Bool.eq_iff_iff];unfold fF;rw[Bool.and_eq_true,leafB_iff,Bool.and_eq_true,decide_eq_true_eq,decide_eq_true_eq];constructor
 ·rintro⟨_,_,_,_,h,_,h'⟩;simp only at h;exact⟨by omega,h'⟩
 ·rintro⟨h,h'⟩;exact⟨hL,rfl,rfl,rfl,by show ents.length<=6;omega,hc,h'⟩

set_option maxRecDepth 20000 in
set_option maxHeartbeats 4000000 in
theorem q9g(b o C N q mb B f m:Nat)(low high d L:Int)(S:St)(w:World)(leaf:Bool)(eA:Option Addr)(eC:Nat)(ents:List En)(kA:Option Addr)(kC:Nat)(keys:List Int)(dA:Option Addr)(dC:Nat)(kids:List Int)(bA:Option Addr)(bC:Nat)(buf:List En)
  (hm:m<N) (hz:N*104<=140737488351232) (hat:PnAt w b (o+m*5) ⟨leaf,eA,eC,ents,kA,kC,keys,dA,dC,kids,bA,bC,buf⟩) (ok:PN.ok B w ⟨leaf,eA,eC,ents,kA,kC,keys,dA,dC,kids,bA,bC,buf⟩)
  (hbl:b<B) (hBq:B<=q) (hS:Sur w q mb (some ⟨b,o,none⟩) N C S L) (hp:((m:Int),d)∈S) (hlow:0<=low) (hhigh:high<=9223372036854775807) (hd1:1<=d) (hd2:d<=12) (hfd:f=11↔d=1) (res:Bool) (hres:Hid (res=fF ⟨leaf,ents,keys,kids,buf⟩ low high f L d)) (L':Int) (hL':Hid (L'=if L=0 then d else L)):
  Calls Tryz.prog 131 #[.pointer (some ⟨q,0,none⟩),.int .i64 (m:Int),.int .i64 low,.int .i64 high] w
   fun e w'=>e=.returned (.bool res)/\Kept [q,mb] w w'/\(res=true->Sur w' q mb (some ⟨b,o,none⟩) N C S L'):=by
 have hqs:=hS.row.lt;have hms:=hS.map.lt;obtain⟨c0,c1,c2,c3,c4⟩:=hat;simp only at c0 c1 c2 c3 c4;obtain⟨e1,-,-,-,-,-,-,-,ez,kz,dz,fz⟩:=ok;simp only at e1 ez kz dz fz;have q0:=hS.row.cell 0;have q1:=hS.row.cell 1;have q2:=hS.row.cell 2;have qf:=hS.row.frozen 2;simp only[List.getElem?_cons_zero,List.getElem?_cons_succ] at q0 q1 q2;have hbw:b<w.heap.size:=by omega
 have hL:=hS.map.look hp (WalkArith.wf_i64 (by omega))
 have i0:(0:Int)<=(m:Int):=by omega
 have i1:(m:Int)<(N:Int):=by omega
 go_enter Tryz.func131,Tryz.ntmps131
 go_upto_region 1 with fail
 go_cut [9,10] (fun v9 v10 wc=>v9=.pointer (some ⟨w.heap.size,0,none⟩)/\v10=.int .i64 d/\wc=(w.alloc (.cells #[.bool leaf,.slice eA ents.length eC,.slice kA keys.length kC,.slice dA kids.length dC,.slice bA buf.length bC] 138)).drew)
 case first=>
  go_region_held3 (fun w'=>w'.cell? ⟨q,0,none⟩=some (.slice (some ⟨b,o,none⟩) N C)/\w'.cell? ⟨q,1,none⟩=some (.map (some mb))/\w'.cell? ⟨b,o+m*5,none⟩=some (.bool leaf)/\w'.cell? ⟨b,o+m*5+1,none⟩=some (.slice eA ents.length eC)/\w'.cell? ⟨b,o+m*5+2,none⟩=some (.slice kA keys.length kC)/\w'.cell? ⟨b,o+m*5+3,none⟩=some (.slice dA kids.length dC)/\w'.cell? ⟨b,o+m*5+4,none⟩=some (.slice bA buf.length bC)/\w'.heap[mb]? =w.heap[mb]?) (((try go_split_ands);refine⟨by go_keep,by go_keep,by go_keep,by go_keep,by go_keep,by go_keep,by go_keep,?_⟩;first|rfl|assumption|exact Below.heap_alloc w _ mb hms)) (fail)
  all_goals go_wp2
  all_goals go_meet
  all_goals exact⟨rfl,rfl,rfl⟩
 case rest=>
  obtain⟨rfl,rfl,rfl⟩:=hcut
  by_cases hL0:L=0
  ·subst hL0;have EL:Hid (L'=d):=by show _=_;rw[hL'.out,if_pos rfl]
   have hbel:∀o1:Obj,Below B w (((w.setCell ⟨q,2,none⟩ (.int .i64 d)).alloc o1).drew):=fun o1=>(((Below.refl _ _).setCell (p:=⟨q,2,none⟩) hBq _).alloc (by simp;omega) _).drew
   have hk0:∀o1:Obj,Kept [q,mb] w (((w.setCell ⟨q,2,none⟩ (.int .i64 d)).alloc o1).drew):=fun o1=>(((Kept.refl _ _).set (.inl (by simp)) _).alloc _).drew
   have hs0:∀o1:Obj,Sur (((w.setCell ⟨q,2,none⟩ (.int .i64 d)).alloc o1).drew) q mb (some ⟨b,o,none⟩) N C S d:=fun o1=>by
    have r1:=hS.row.set 2 (.int .i64 d);refine⟨r1.of_block (Below.heap_alloc _ _ _ (by simpa using hqs)),hS.map.of_block ?_,hS.ne⟩
    exact(Below.heap_alloc _ _ _ (by simpa using hms)).trans (Below.heap_setCell _ _ _ _ (fun e=>hS.ne e.symm))
   by_cases h1:1<d
   ·by_cases he:ents=[]
    ·subst he
     have E0:Hid (false=res):=by
      show _=_;rw[hres.out,eq_comm,Bool.eq_false_iff];intro h;simp only[fF,Bool.and_eq_true,leafB_iff] at h;rcases h.2.2.2.2.2.1 with h|h;have:=hfd.1 h;omega;exact h rfl
     clear hres hfd;go_wp2_with fail;go_ret;exact⟨dQ E0.out,hk0 _,fun h=>absurd (E0.out.trans h) (by simp)⟩
    ·have he1:((ents.length:Int)==0)=false:=by have:=List.length_pos_iff.2 he;rw[beq_eq_false_iff_ne];omega
     by_cases hk:keys=[]
     ·subst hk
      by_cases hd:kids=[]
      ·subst hd
       by_cases hf:buf=[]
       ·subst hf
        have E0:Hid ((decide ((ents.length:Int)<=6)&&aK ents low high)=res):=by
         show _=_;rw[hres.out];exact(wH (Or.inl rfl) (Or.inr he)).symm
        clear hres hfd;go_wp2_with (first|(go_at_call 157;refine(lN _ _ _ _ _ _ _ (e1.go (hbel _) (Nat.le_refl _) (by omega)) ez (by omega) hhigh).mono ?_;rintro e w2 ⟨rfl,hb2⟩))
        go_ret;exact⟨dQ E0.out,(hk0 _).trans (Kept.of_below hb2),fun _=>by rw[EL.out];exact(hs0 _).kept (hb2.block q (by simp;omega)) (hb2.block mb (by simp;omega))⟩
       ·have hf1:(0:Int)<(buf.length:Int):=by have:=List.length_pos_iff.2 hf;omega
        have E0:Hid (false=res):=by
         show _=_;rw[hres.out,eq_comm,Bool.eq_false_iff];intro h;simp only[fF,Bool.and_eq_true,leafB_iff] at h;exact hf h.2.2.2.1
        clear hres hfd;go_wp2_with fail;go_ret;exact⟨dQ E0.out,hk0 _,fun h=>absurd (E0.out.trans h) (by simp)⟩
      ·have hd1':(0:Int)<(kids.length:Int):=by have:=List.length_pos_iff.2 hd;omega
       have E0:Hid (false=res):=by
        show _=_;rw[hres.out,eq_comm,Bool.eq_false_iff];intro h;simp only[fF,Bool.and_eq_true,leafB_iff] at h;exact hd h.2.2.1
       clear hres hfd;go_wp2_with fail;go_ret;exact⟨dQ E0.out,hk0 _,fun h=>absurd (E0.out.trans h) (by simp)⟩
     ·have hk1:(0:Int)<(keys.length:Int):=by have:=List.length_pos_iff.2 hk;omega
      have E0:Hid (false=res):=by
       show _=_;rw[hres.out,eq_comm,Bool.eq_false_iff];intro h;simp only[fF,Bool.and_eq_true,leafB_iff] at h;exact hk h.2.1
      clear hres hfd;go_wp2_with fail;go_ret;exact⟨dQ E0.out,hk0 _,fun h=>absurd (E0.out.trans h) (by simp)⟩
   ·have hd11:d=1:=by omega
    have hf11:=hfd.2 hd11;have Hf:Hid (f=11):=hf11;clear hf11;have Hd:Hid (d=1):=hd11;clear hd11
    by_cases hk:keys=[]
    ·subst hk
     by_cases hd:kids=[]
     ·subst hd
      by_cases hf:buf=[]
      ·subst hf
       have E0:Hid ((decide ((ents.length:Int)<=6)&&aK ents low high)=res):=by
        show _=_;rw[hres.out];exact(wH (Or.inl rfl) (Or.inl Hf.out)).symm
       clear hres hfd;go_wp2_with (first|(go_at_call 157;refine(lN _ _ _ _ _ _ _ (e1.go (hbel _) (Nat.le_refl _) (by omega)) ez (by omega) hhigh).mono ?_;rintro e w2 ⟨rfl,hb2⟩))
       go_ret;exact⟨dQ E0.out,(hk0 _).trans (Kept.of_below hb2),fun _=>by rw[EL.out];exact(hs0 _).kept (hb2.block q (by simp;omega)) (hb2.block mb (by simp;omega))⟩
      ·have hf1:(0:Int)<(buf.length:Int):=by have:=List.length_pos_iff.2 hf;omega
       have E0:Hid (false=res):=by
        show _=_;rw[hres.out,eq_comm,Bool.eq_false_iff];intro h;simp only[fF,Bool.and_eq_true,leafB_iff] at h;exact hf h.2.2.2.1
       clear hres hfd;go_wp2_with fail;go_ret;exact⟨dQ E0.out,hk0 _,fun h=>absurd (E0.out.trans h) (by simp)⟩
     ·have hd1':(0:Int)<(kids.length:Int):=by have:=List.length_pos_iff.2 hd;omega
      have E0:Hid (false=res):=by
       show _=_;rw[hres.out,eq_comm,Bool.eq_false_iff];intro h;simp only[fF,Bool.and_eq_true,leafB_iff] at h;exact hd h.2.2.1
      clear hres hfd;go_wp2_with fail;go_ret;exact⟨dQ E0.out,hk0 _,fun h=>absurd (E0.out.trans h) (by simp)⟩
    ·have hk1:(0:Int)<(keys.length:Int):=by have:=List.length_pos_iff.2 hk;omega
     have E0:Hid (false=res):=by
      show _=_;rw[hres.out,eq_comm,Bool.eq_false_iff];intro h;simp only[fF,Bool.and_eq_true,leafB_iff] at h;exact hk h.2.1
     clear hres hfd;go_wp2_with fail;go_ret;exact⟨dQ E0.out,hk0 _,fun h=>absurd (E0.out.trans h) (by simp)⟩
  ·have hbel:∀o1:Obj,Below B w ((w.alloc o1).drew):=fun o1=>((Below.refl _ _).alloc (by omega) _).drew
   have hk0:∀o1:Obj,Kept [q,mb] w ((w.alloc o1).drew):=fun o1=>((Kept.refl _ _).alloc _).drew
   have hs0:∀o1:Obj,Sur ((w.alloc o1).drew) q mb (some ⟨b,o,none⟩) N C S L:=fun o1=>hS.kept (Below.heap_alloc _ _ _ hqs) (Below.heap_alloc _ _ _ hms)
   have hL0':(L==0)=false:=by simpa using hL0
   by_cases hLd:L=d
   ·have hLd2:d=L:=hLd.symm;subst hLd2;clear hLd;have EL:Hid (L'=d):=by show _=_;rw[hL'.out,if_neg hL0]
    have HL0:Hid (¬d=0):=hL0;clear hL0
    by_cases h1:1<d
    ·by_cases he:ents=[]
     ·subst he
      have E0:Hid (false=res):=by
       show _=_;rw[hres.out,eq_comm,Bool.eq_false_iff];intro h;simp only[fF,Bool.and_eq_true,leafB_iff] at h;rcases h.2.2.2.2.2.1 with h|h;have:=hfd.1 h;omega;exact h rfl
      clear hres hfd;go_wp2_with fail;go_ret;exact⟨dQ E0.out,hk0 _,fun h=>absurd (E0.out.trans h) (by simp)⟩
     ·have he1:((ents.length:Int)==0)=false:=by have:=List.length_pos_iff.2 he;rw[beq_eq_false_iff_ne];omega
      by_cases hk:keys=[]
      ·subst hk
       by_cases hd:kids=[]
       ·subst hd
        by_cases hf:buf=[]
        ·subst hf
         have E0:Hid ((decide ((ents.length:Int)<=6)&&aK ents low high)=res):=by
          show _=_;rw[hres.out];exact(wH (Or.inr rfl) (Or.inr he)).symm
         clear hres hfd;go_wp2_with (first|(go_at_call 157;refine(lN _ _ _ _ _ _ _ (e1.go (hbel _) (Nat.le_refl _) (by omega)) ez (by omega) hhigh).mono ?_;rintro e w2 ⟨rfl,hb2⟩))
         go_ret;exact⟨dQ E0.out,(hk0 _).trans (Kept.of_below hb2),fun _=>by rw[EL.out];exact(hs0 _).kept (hb2.block q (by simp;omega)) (hb2.block mb (by simp;omega))⟩
        ·have hf1:(0:Int)<(buf.length:Int):=by have:=List.length_pos_iff.2 hf;omega
         have E0:Hid (false=res):=by
          show _=_;rw[hres.out,eq_comm,Bool.eq_false_iff];intro h;simp only[fF,Bool.and_eq_true,leafB_iff] at h;exact hf h.2.2.2.1
         clear hres hfd;go_wp2_with fail;go_ret;exact⟨dQ E0.out,hk0 _,fun h=>absurd (E0.out.trans h) (by simp)⟩
       ·have hd1':(0:Int)<(kids.length:Int):=by have:=List.length_pos_iff.2 hd;omega
        have E0:Hid (false=res):=by
         show _=_;rw[hres.out,eq_comm,Bool.eq_false_iff];intro h;simp only[fF,Bool.and_eq_true,leafB_iff] at h;exact hd h.2.2.1
        clear hres hfd;go_wp2_with fail;go_ret;exact⟨dQ E0.out,hk0 _,fun h=>absurd (E0.out.trans h) (by simp)⟩
      ·have hk1:(0:Int)<(keys.length:Int):=by have:=List.length_pos_iff.2 hk;omega
       have E0:Hid (false=res):=by
        show _=_;rw[hres.out,eq_comm,Bool.eq_false_iff];intro h;simp only[fF,Bool.and_eq_true,leafB_iff] at h;exact hk h.2.1
       clear hres hfd;go_wp2_with fail;go_ret;exact⟨dQ E0.out,hk0 _,fun h=>absurd (E0.out.trans h) (by simp)⟩
    ·have hd11:d=1:=by omega
     have hf11:=hfd.2 hd11;have Hf:Hid (f=11):=hf11;clear hf11;have Hd:Hid (d=1):=hd11;clear hd11
     by_cases hk:keys=[]
     ·subst hk
      by_cases hd:kids=[]
      ·subst hd
       by_cases hf:buf=[]
       ·subst hf
        have E0:Hid ((decide ((ents.length:Int)<=6)&&aK ents low high)=res):=by
         show _=_;rw[hres.out];exact(wH (Or.inr rfl) (Or.inl Hf.out)).symm
        clear hres hfd;go_wp2_with (first|(go_at_call 157;refine(lN _ _ _ _ _ _ _ (e1.go (hbel _) (Nat.le_refl _) (by omega)) ez (by omega) hhigh).mono ?_;rintro e w2 ⟨rfl,hb2⟩))
        go_ret;exact⟨dQ E0.out,(hk0 _).trans (Kept.of_below hb2),fun _=>by rw[EL.out];exact(hs0 _).kept (hb2.block q (by simp;omega)) (hb2.block mb (by simp;omega))⟩
       ·have hf1:(0:Int)<(buf.length:Int):=by have:=List.length_pos_iff.2 hf;omega
        have E0:Hid (false=res):=by
         show _=_;rw[hres.out,eq_comm,Bool.eq_false_iff];intro h;simp only[fF,Bool.and_eq_true,leafB_iff] at h;exact hf h.2.2.2.1
        clear hres hfd;go_wp2_with fail;go_ret;exact⟨dQ E0.out,hk0 _,fun h=>absurd (E0.out.trans h) (by simp)⟩
      ·have hd1':(0:Int)<(kids.length:Int):=by have:=List.length_pos_iff.2 hd;omega
       have E0:Hid (false=res):=by
        show _=_;rw[hres.out,eq_comm,Bool.eq_false_iff];intro h;simp only[fF,Bool.and_eq_true,leafB_iff] at h;exact hd h.2.2.1
       clear hres hfd;go_wp2_with fail;go_ret;exact⟨dQ E0.out,hk0 _,fun h=>absurd (E0.out.trans h) (by simp)⟩
     ·have hk1:(0:Int)<(keys.length:Int):=by have:=List.length_pos_iff.2 hk;omega
      have E0:Hid (false=res):=by
       show _=_;rw[hres.out,eq_comm,Bool.eq_false_iff];intro h;simp only[fF,Bool.and_eq_true,leafB_iff] at h;exact hk h.2.1
      clear hres hfd;go_wp2_with fail;go_ret;exact⟨dQ E0.out,hk0 _,fun h=>absurd (E0.out.trans h) (by simp)⟩
   ·have hLd':(d != L)=true:=by simp;exact fun e=>hLd e.symm
    have E0:Hid (false=res):=by
     show _=_;rw[hres.out,eq_comm,Bool.eq_false_iff];intro h;simp only[fF,Bool.and_eq_true,leafB_iff] at h;have:=h.1;simp at this;rcases this with h|h;exact hL0 h;exact hLd h
    clear hres hfd;go_wp2_with fail;go_ret;exact⟨dQ E0.out,hk0 _,fun h=>absurd (E0.out.trans h) (by simp)⟩

set_option maxRecDepth 20000 in
set_option maxHeartbeats 4000000 in
theorem q8j(b o C:Nat)(ps:List PN)(q mb B f m:Nat)(low high d L:Int)(S:St)(w:World)(leaf:Bool)(eA:Option Addr)(eC:Nat)(ents:List En)(kA:Option Addr)(kC:Nat)(keys:List Int)(dA:Option Addr)(dC:Nat)(kids:List Int)(bA:Option Addr)(bC:Nat)(buf:List En)
  (hm:m<ps.length) (hN:bF B w (some ⟨b,o,none⟩) ps) (hat:PnAt w b (o+m*5) ⟨leaf,eA,eC,ents,kA,kC,keys,dA,dC,kids,bA,bC,buf⟩) (ok:PN.ok B w ⟨leaf,eA,eC,ents,kA,kC,keys,dA,dC,kids,bA,bC,buf⟩) (hkw:∀z∈keys,z<=9223372036854775807)
  (hbl:b<B) (hBq:B<=q) (hBm:B<=mb) (hS:Sur w q mb (some ⟨b,o,none⟩) ps.length C S L) (hp:((m:Int),d)∈S) (hst:StOk ps.length S) (hlow:0<=low) (hhigh:high<=9223372036854775807) (hd1:1<=d) (hd2:d<=12) (hf:f+1<=12)
  (ih:Hid (∀(n lo hi L':Int) (S':St) (w':World),bF B w' (some ⟨b,o,none⟩) ps->Sur w' q mb (some ⟨b,o,none⟩) ps.length C S' L'->StOk ps.length S'->0<=lo->hi<=9223372036854775807->
   Calls Tryz.prog 110 #[.pointer (some ⟨q,0,none⟩),.int .i64 n,.int .i64 (d+1),.int .i64 lo,.int .i64 hi] w'
    fun e w''=>e=.returned (.bool (resN L' (W (ps.map PN.nd) f n lo hi S')))/\Kept [q,mb] w' w''/\∀S'' l,W (ps.map PN.nd) f n lo hi S'=some (S'',l)->okL L' l=true->Sur w'' q mb (some ⟨b,o,none⟩) ps.length C S'' (dY L' l)))
  (h1:ents.length=0) (h2:2<=kids.length) (h3:kids.length<=4) (h4:keys.length+1=kids.length) (h5:(decide ((buf.length:Int)<=8)&&aK buf low high)=true) (R:Option (St × List Int)) (hR:Hid (R=Wk (W (ps.map PN.nd) f) kids keys low high S)):
  Calls Tryz.prog 132 #[.pointer (some ⟨q,0,none⟩),.int .i64 (m:Int),.int .i64 low,.int .i64 high] w
   fun e w'=>e=.returned (.bool (resN L R))/\Kept [q,mb] w w'/\∀S' l,R=some (S',l)->okL L l=true->Sur w' q mb (some ⟨b,o,none⟩) ps.length C S' (dY L l):=by
 have hqs:=hS.row.lt;have hms:=hS.map.lt;have hz:=hN.z;obtain⟨c0,c1,c2,c3,c4⟩:=hat;simp only at c0 c1 c2 c3 c4;obtain⟨-,k1,t1,f1,-,-,-,-,ez,kz,dz,fz⟩:=ok;simp only at k1 t1 f1 ez kz dz fz;have q0:=hS.row.cell 0;have q1:=hS.row.cell 1;simp only[List.getElem?_cons_zero,List.getElem?_cons_succ] at q0 q1;have hbw:b<w.heap.size:=by omega
 have hbel:∀o1:Obj,Below B w (w.alloc o1):=fun o1=>(Below.refl _ _).alloc (by omega) _
 have hk0:∀o1:Obj,Kept [q,mb] w (w.alloc o1):=fun o1=>(Kept.refl _ _).alloc _
 obtain rfl:ents=[]:=List.eq_nil_of_length_eq_zero h1;have h2':¬(kids.length:Int)<2:=by omega
 have h3':¬(4:Int)<(kids.length:Int):=by omega
 have h4b:((keys.length:Int) != (kids.length:Int)-1)=false:=by simp;omega
 have HH:Hid (f+1<=12/\keys.length+1=kids.length/\StOk ps.length S):=⟨hf,h4,hst⟩;clear h1 h4 hst hf
 go_enter Tryz.func132,Tryz.ntmps132
 go_wp2_with (first|(go_at_call 157;refine(lN _ _ _ _ _ _ _ (f1.go (hbel _) (Nat.le_refl _) (by omega)) fz (by omega) hhigh).mono ?_;rintro e w2 ⟨rfl,hb2⟩;have hc2:=(aZ hb2).1))
 have hK2:Kept [q,mb] w w2:=(hk0 _).trans (Kept.of_below hb2);have hS2:Sur w2 q mb (some ⟨b,o,none⟩) ps.length C S L:=(hS.kept (Below.heap_alloc _ _ _ hqs) (Below.heap_alloc _ _ _ hms)).kept (hb2.block q (by simp;omega)) (hb2.block mb (by simp;omega))
 have rn:RowL w2 w.heap.size 138 [.bool leaf,.slice eA 0 eC,.slice kA keys.length kC,.slice dA kids.length dC,.slice bA buf.length bC]:=(aG w _ _).below hb2 (by simp)
 clear hbel hk0 hc2
 go_loopw [2,55] (fun vl vi wr=>∃(i:Nat) (S':St) (acc:List Int) (lo L':Int),i<=kids.length/\vl=.int .i64 lo/\vi=.int .i64 i/\pG (W (ps.map PN.nd) f) kids keys low high S L i lo S' acc L'/\Kept [q,mb] w2 wr/\Sur wr q mb (some ⟨b,o,none⟩) ps.length C S' L'/\StOk ps.length S'/\((m:Int),d)∈S') (fun _ vi _=>kids.length-(intOf vi).toNat)
 case atStart=>exact⟨0,S,[],low,L,Nat.zero_le _,rfl,rfl,qa0 _ _ _ _ _ _ _,Kept.refl _ _,hS2,HH.out.2.2,hp⟩
 case round=>
  obtain⟨i,S',acc,lo,L',hi,rfl,rfl,hka,hkw2,hsur,hok,hpm⟩:=hrel;have hKw:Kept [q,mb] w wr:=hK2.trans hkw2
  by_cases hlt:i<kids.length
  ·have hBb:Below B w wr:=hKw.below (by omega) (by simp;omega)
   have hNr:=hN.below hBb (Nat.le_refl _);have rn':=hkw2.row rn (by simp;omega)
   have y2:=rn'.cell 2;have y3:=rn'.cell 3;simp only[List.getElem?_cons_zero,List.getElem?_cons_succ] at y2 y3;have q0':=hsur.row.cell 0;have q1':=hsur.row.cell 1;simp only[List.getElem?_cons_zero,List.getElem?_cons_succ] at q0' q1';have hlk:=hsur.map.look hpm (WalkArith.wf_i64 (by omega)) wr rfl
   obtain⟨kb,ko,rfl,hkb,hkc⟩:=(t1.below hBb (Nat.le_refl _)).int hlt;obtain⟨kd,hkd⟩:∃kd,kids[i]=kd:=⟨_,rfl⟩;rw[hkd] at hkc;have HKD:Hid (kids[i]=kd):=hkd;clear hkd;have hf12:f+1<=12:=HH.out.1
   by_cases hik:i<keys.length
   ·obtain⟨qb,qo,rfl,hqb,hqc⟩:=(k1.below hBb (Nat.le_refl _)).int hik;have HT:Hid (toAt keys high i=keys[i]):=by show _=_;simp[toAt,hik]
    have hTle:=hkw _ (List.getElem_mem hik);generalize keys[i]=tk at *;obtain⟨bb,Hb'⟩:∃bb,bb=resN L' (W (ps.map PN.nd) f kd lo tk S'):=⟨_,rfl⟩
    have con:∀w',bF B w' (some ⟨b,o,none⟩) ps->Sur w' q mb (some ⟨b,o,none⟩) ps.length C S' L'->Calls Tryz.prog 110 #[.pointer (some ⟨q,0,none⟩),.int .i64 kd,.int .i64 (d+1),.int .i64 lo,.int .i64 tk] w'
      fun e w''=>e=.returned (.bool bb)/\Kept [q,mb] w' w''/\∀S'' l,W (ps.map PN.nd) f kd lo tk S'=some (S'',l)->okL L' l=true->Sur w'' q mb (some ⟨b,o,none⟩) ps.length C S'' (dY L' l):=by
     intro w' a1 a2;rw[Hb'];exact ih.out kd lo tk L' S' w' a1 a2 hok (by have:=hka.low;omega) hTle
    have e1:resN L' (W (ps.map PN.nd) f kids[i] lo (toAt keys high i) S')=bb:=by rw[HT.out,HKD.out];exact Hb'.symm
    cases hbb:bb with
    |false=>
     subst hbb;have E0:Hid (resN L R=false):=by show _=_;rw[hR.out];exact qcd hka hlt e1
     clear hka HT ih e1 Hb';go_wp2_with (first|(go_at_call 110;refine(con _ hNr hsur).mono ?_;rintro e w3 ⟨rfl,hk3,hs3⟩))
     go_ret;exact⟨dQ E0.out.symm,hKw.trans hk3,fun S'' l h hk=>by rw[h] at E0;exact absurd (hk.symm.trans E0.out) (by simp)⟩
    |true=>
     subst hbb
     have HX:Hid (∃S1 l1,W (ps.map PN.nd) f kd lo tk S'=some (S1,l1)/\okL L' l1=true/\pG (W (ps.map PN.nd) f) kids keys low high S L (i+1) tk S1 (acc++l1) (dY L' l1)/\StOk ps.length S1/\∀p∈S',p∈S1):=by
      obtain⟨S1,l1,g1,g2,g3⟩:=q3o (W_ds f (by omega)) (qnu f) hka hlt e1
      rw[HT.out,HKD.out] at g1;rw[HT.out] at g3;have g4:=W_st f _ _ _ _ _ _ g1 (by simpa using hok)
      simp only[List.length_map] at g4;exact⟨S1,l1,g1,g2,g3,g4⟩
     clear hka HT ih e1 Hb';go_wp2_with (first|(go_at_call 110;refine(con _ hNr hsur).mono ?_;rintro e w3 ⟨rfl,hk3,hs3⟩))
     go_roundw
     case rel=>
      go_light;obtain⟨S1,l1,g1,g2,g3,g4,g5⟩:=HX.out;exact⟨i+1,S1,acc++l1,tk,dY L' l1,by omega,rfl,by go_num,g3,hkw2.trans hk3,hs3 S1 l1 g1 g2,g4,g5 _ hpm⟩
     case measure=>simp[intOf];omega
   ·have HT:Hid (toAt keys high i=high):=by show _=_;simp[toAt,hik]
    have hTle:=hhigh;obtain⟨bb,Hb'⟩:∃bb,bb=resN L' (W (ps.map PN.nd) f kd lo high S'):=⟨_,rfl⟩
    have con:∀w',bF B w' (some ⟨b,o,none⟩) ps->Sur w' q mb (some ⟨b,o,none⟩) ps.length C S' L'->Calls Tryz.prog 110 #[.pointer (some ⟨q,0,none⟩),.int .i64 kd,.int .i64 (d+1),.int .i64 lo,.int .i64 high] w'
      fun e w''=>e=.returned (.bool bb)/\Kept [q,mb] w' w''/\∀S'' l,W (ps.map PN.nd) f kd lo high S'=some (S'',l)->okL L' l=true->Sur w'' q mb (some ⟨b,o,none⟩) ps.length C S'' (dY L' l):=by
     intro w' a1 a2;rw[Hb'];exact ih.out kd lo high L' S' w' a1 a2 hok (by have:=hka.low;omega) hTle
    have e1:resN L' (W (ps.map PN.nd) f kids[i] lo (toAt keys high i) S')=bb:=by rw[HT.out,HKD.out];exact Hb'.symm
    cases hbb:bb with
    |false=>
     subst hbb;have E0:Hid (resN L R=false):=by show _=_;rw[hR.out];exact qcd hka hlt e1
     clear hka HT ih e1 Hb';go_wp2_with (first|(go_at_call 110;refine(con _ hNr hsur).mono ?_;rintro e w3 ⟨rfl,hk3,hs3⟩))
     go_ret;exact⟨dQ E0.out.symm,hKw.trans hk3,fun S'' l h hk=>by rw[h] at E0;exact absurd (hk.symm.trans E0.out) (by simp)⟩
    |true=>
     subst hbb
     have HX:Hid (∃S1 l1,W (ps.map PN.nd) f kd lo high S'=some (S1,l1)/\okL L' l1=true/\pG (W (ps.map PN.nd) f) kids keys low high S L (i+1) high S1 (acc++l1) (dY L' l1)/\StOk ps.length S1/\∀p∈S',p∈S1):=by
      obtain⟨S1,l1,g1,g2,g3⟩:=q3o (W_ds f (by omega)) (qnu f) hka hlt e1
      rw[HT.out,HKD.out] at g1;rw[HT.out] at g3;have g4:=W_st f _ _ _ _ _ _ g1 (by simpa using hok)
      simp only[List.length_map] at g4;exact⟨S1,l1,g1,g2,g3,g4⟩
     clear hka HT ih e1 Hb';go_wp2_with (first|(go_at_call 110;refine(con _ hNr hsur).mono ?_;rintro e w3 ⟨rfl,hk3,hs3⟩))
     go_roundw
     case rel=>
      go_light;obtain⟨S1,l1,g1,g2,g3,g4,g5⟩:=HX.out;exact⟨i+1,S1,acc++l1,high,dY L' l1,by omega,rfl,by go_num,g3,hkw2.trans hk3,hs3 S1 l1 g1 g2,g4,g5 _ hpm⟩
     case measure=>simp[intOf];omega
  ·obtain rfl:i=kids.length:=by omega
   have HE:Hid (Wk (W (ps.map PN.nd) f) kids keys low high S=some (S',acc)/\resN L (Wk (W (ps.map PN.nd) f) kids keys low high S)=true/\dY L acc=L'):=qgs hka rfl;clear hka ih;go_wp2;go_ret;obtain⟨a1,a2,a3⟩:=HE.out;rw[hR.out,a2,a1];exact⟨rfl,hKw,fun S'' l h _=>by cases h;rw[a3];exact hsur⟩

set_option maxRecDepth 20000 in
set_option maxHeartbeats 4000000 in
theorem q6j(b o C:Nat)(ps:List PN)(q mb B f m:Nat)(low high d L:Int)(S:St)(w:World)(leaf:Bool)(eA:Option Addr)(eC:Nat)(ents:List En)(kA:Option Addr)(kC:Nat)(keys:List Int)(dA:Option Addr)(dC:Nat)(kids:List Int)(bA:Option Addr)(bC:Nat)(buf:List En)
  (hm:m<ps.length) (hN:bF B w (some ⟨b,o,none⟩) ps) (hat:PnAt w b (o+m*5) ⟨leaf,eA,eC,ents,kA,kC,keys,dA,dC,kids,bA,bC,buf⟩) (ok:PN.ok B w ⟨leaf,eA,eC,ents,kA,kC,keys,dA,dC,kids,bA,bC,buf⟩) (hkw:∀z∈keys,z<=9223372036854775807)
  (hbl:b<B) (hBq:B<=q) (hBm:B<=mb) (hS:Sur w q mb (some ⟨b,o,none⟩) ps.length C S L) (hp:((m:Int),d)∈S) (hst:StOk ps.length S) (hlow:0<=low) (hhigh:high<=9223372036854775807) (hd1:1<=d) (hd2:d<=12) (hf:f+1<=12)
  (ih:Hid (∀(n lo hi L':Int) (S':St) (w':World),bF B w' (some ⟨b,o,none⟩) ps->Sur w' q mb (some ⟨b,o,none⟩) ps.length C S' L'->StOk ps.length S'->0<=lo->hi<=9223372036854775807->
   Calls Tryz.prog 110 #[.pointer (some ⟨q,0,none⟩),.int .i64 n,.int .i64 (d+1),.int .i64 lo,.int .i64 hi] w'
    fun e w''=>e=.returned (.bool (resN L' (W (ps.map PN.nd) f n lo hi S')))/\Kept [q,mb] w' w''/\∀S'' l,W (ps.map PN.nd) f n lo hi S'=some (S'',l)->okL L' l=true->Sur w'' q mb (some ⟨b,o,none⟩) ps.length C S'' (dY L' l)))
  (R:Option (St × List Int)) (hR:Hid (R=if jA ⟨leaf,ents,keys,kids,buf⟩ low high=true then Wk (W (ps.map PN.nd) f) kids keys low high S else none)):
  Calls Tryz.prog 132 #[.pointer (some ⟨q,0,none⟩),.int .i64 (m:Int),.int .i64 low,.int .i64 high] w
   fun e w'=>e=.returned (.bool (resN L R))/\Kept [q,mb] w w'/\∀S' l,R=some (S',l)->okL L l=true->Sur w' q mb (some ⟨b,o,none⟩) ps.length C S' (dY L l):=by
 have hat0:=hat;have ok0:=ok;have hqs:=hS.row.lt;have hms:=hS.map.lt;have hz:=hN.z;obtain⟨c0,c1,c2,c3,c4⟩:=hat;simp only at c0 c1 c2 c3 c4;obtain⟨-,k1,t1,f1,-,-,-,-,ez,kz,dz,fz⟩:=ok;simp only at k1 t1 f1 ez kz dz fz;have q0:=hS.row.cell 0;have q1:=hS.row.cell 1;simp only[List.getElem?_cons_zero,List.getElem?_cons_succ] at q0 q1;have hbw:b<w.heap.size:=by omega
 have hbel:∀o1:Obj,Below B w (w.alloc o1):=fun o1=>(Below.refl _ _).alloc (by omega) _
 have hk0:∀o1:Obj,Kept [q,mb] w (w.alloc o1):=fun o1=>(Kept.refl _ _).alloc _
 by_cases h1:ents=[]
 ·subst h1
  by_cases h2:kids.length<2
  ·have h2':(kids.length:Int)<2:=by omega
   have E0:Hid (R=none):=by
    show _=_;rw[hR.out,if_neg];intro hi;have hi':=kV hi;simp only at hi';omega
   rw[E0.out];clear hR ih hst
   go_enter Tryz.func132,Tryz.ntmps132
   go_wp2_with (first|(go_at_call 157;refine(lN _ _ _ _ _ _ _ (f1.go (hbel _) (Nat.le_refl _) (by omega)) fz (by omega) hhigh).mono ?_;rintro e w2 ⟨rfl,hb2⟩))
   go_ret
   first|exact⟨rfl,hk0 _,fun _ _ h=>by cases h⟩|exact⟨rfl,hk0 _⟩
  ·have h2':¬(kids.length:Int)<2:=by omega
   by_cases h3:4<kids.length
   ·have h3':(4:Int)<(kids.length:Int):=by omega
    have E0:Hid (R=none):=by
     show _=_;rw[hR.out,if_neg];intro hi;have hi':=kV hi;simp only at hi';omega
    rw[E0.out];clear hR ih hst
    go_enter Tryz.func132,Tryz.ntmps132
    go_wp2_with (first|(go_at_call 157;refine(lN _ _ _ _ _ _ _ (f1.go (hbel _) (Nat.le_refl _) (by omega)) fz (by omega) hhigh).mono ?_;rintro e w2 ⟨rfl,hb2⟩))
    go_ret
    first|exact⟨rfl,hk0 _,fun _ _ h=>by cases h⟩|exact⟨rfl,hk0 _⟩
   ·have h3':¬(4:Int)<(kids.length:Int):=by omega
    by_cases h4:keys.length+1=kids.length
    ·have h4':(keys.length:Int)=(kids.length:Int)-1:=by omega
     have h4b:((keys.length:Int) != (kids.length:Int)-1)=false:=by simp;omega
     have H4:Hid (keys.length+1=kids.length):=h4;clear h4
     by_cases h5:(decide ((buf.length:Int)<=8)&&aK buf low high)=true
     ·have h5x:buf.length<=8/\aK buf low high=true:=by simp at h5;exact⟨by omega,h5.2⟩
      have hI:jA ⟨leaf,[],keys,kids,buf⟩ low high=true:=by
       simp only[jA,Bool.and_eq_true,decide_eq_true_eq,beq_iff_eq,List.isEmpty_iff];exact⟨⟨⟨⟨⟨trivial,by omega⟩,by omega⟩,H4.out⟩,h5x.1⟩,h5x.2⟩
      refine q8j b o C ps q mb B f m low high d L S w leaf eA eC [] kA kC keys dA dC kids bA bC buf hm hN hat0 ok0 hkw hbl hBq hBm hS hp hst hlow hhigh hd1 hd2 hf ih rfl (by omega) (by omega) H4.out h5 R ?_
      show _=_;rw[hR.out,if_pos hI]
     ·have h5':(decide ((buf.length:Int)<=8)&&aK buf low high)=false:=by simpa using h5
      have E0:Hid (R=none):=by
       show _=_;rw[hR.out,if_neg];intro hi;have hi':=kV hi;simp only at hi';apply h5;simp;exact⟨by omega,hi'.2.2.2.2.2⟩
      clear h5;rw[E0.out];clear hR ih hst
      go_enter Tryz.func132,Tryz.ntmps132
      go_wp2_with (first|(go_at_call 157;refine(lN _ _ _ _ _ _ _ (f1.go (hbel _) (Nat.le_refl _) (by omega)) fz (by omega) hhigh).mono ?_;rintro e w2 ⟨rfl,hb2⟩))
      go_ret
      first|exact⟨rfl,(hk0 _).trans (Kept.of_below hb2),fun _ _ h=>by cases h⟩|exact⟨rfl,(hk0 _).trans (Kept.of_below hb2)⟩
    ·have h4':¬(keys.length:Int)=(kids.length:Int)-1:=by omega
     have E0:Hid (R=none):=by
      show _=_;rw[hR.out,if_neg];intro hi;have hi':=kV hi;simp only at hi';omega
     rw[E0.out];clear hR ih hst
     go_enter Tryz.func132,Tryz.ntmps132
     go_wp2_with (first|(go_at_call 157;refine(lN _ _ _ _ _ _ _ (f1.go (hbel _) (Nat.le_refl _) (by omega)) fz (by omega) hhigh).mono ?_;rintro e w2 ⟨rfl,hb2⟩))
     go_ret
     first|exact⟨rfl,hk0 _,fun _ _ h=>by cases h⟩|exact⟨rfl,hk0 _⟩
 ·have h1':(0:Int)<(ents.length:Int):=by have:=List.length_pos_iff.2 h1;omega
  have E0:Hid (R=none):=by
   show _=_;rw[hR.out,if_neg];intro hi;have hi':=kV hi;simp only at hi';exact h1 hi'.1
  rw[E0.out];clear hR ih hst
  go_enter Tryz.func132,Tryz.ntmps132
  go_wp2_with (first|(go_at_call 157;refine(lN _ _ _ _ _ _ _ (f1.go (hbel _) (Nat.le_refl _) (by omega)) fz (by omega) hhigh).mono ?_;rintro e w2 ⟨rfl,hb2⟩))
  go_ret
  first|exact⟨rfl,hk0 _,fun _ _ h=>by cases h⟩|exact⟨rfl,hk0 _⟩

end
section
open Go.RowKit

structure qE(w wc:World)(A:Option Addr)(C:Nat)(r:Int)(n c g:Nat)(ls:List PN):Prop where
 bel:Below w.heap.size w wc
 src:RowL wc w.heap.size 32 [.slice A n C,.int .i64 r]
 res:RowL wc (w.heap.size+1) 32 [.slice none 0 0,.int .i64 0]
 cur:RowL wc c 32 [.slice (some ⟨g,0,none⟩) n n,.int .i64 r]
 row:RowL wc g 138 (bJ ls)
 hc:w.heap.size+1<c
 hg:w.heap.size+1<g
 ne:c≠g

theorem four(w:World)(o1 o2 o3 o4:Obj):((((w.alloc o1).alloc o2).alloc o3).alloc o4).heap[w.heap.size]? =some o1/\((((w.alloc o1).alloc o2).alloc o3).alloc o4).heap[w.heap.size+1]? =some o2/\
  ((((w.alloc o1).alloc o2).alloc o3).alloc o4).heap[w.heap.size+1+1]? =some o3/\((((w.alloc o1).alloc o2).alloc o3).alloc o4).heap[w.heap.size+1+1+1]? =some o4:=by
 have s1:(w.alloc o1).heap.size=w.heap.size+1:=by simp
 have s2:((w.alloc o1).alloc o2).heap.size=w.heap.size+1+1:=by simp
 have s3:(((w.alloc o1).alloc o2).alloc o3).heap.size=w.heap.size+1+1+1:=by simp
 refine⟨?_,?_,?_,?_⟩
 ·rw[Below.heap_alloc _ _ _ (by omega),Below.heap_alloc _ _ _ (by omega),Below.heap_alloc _ _ _ (by omega)];exact heap_alloc_new w _
 ·rw[Below.heap_alloc _ _ _ (by omega),Below.heap_alloc _ _ _ (by omega),<-s1];exact heap_alloc_new _ _
 ·rw[Below.heap_alloc _ _ _ (by omega),<-s2];exact heap_alloc_new _ _
 ·rw[<-s3];exact heap_alloc_new _ _

theorem q3q(w:World)(o1 o2 o3 o4:Obj):Below w.heap.size w (((((w.alloc o1).alloc o2).alloc o3).alloc o4).drew):=
 (((((Below.refl _ _).alloc (Nat.le_refl _) _).alloc (by simp) _).alloc (by simp;omega) _).alloc (by simp;omega) _).drew

theorem ql1(w:World)(A:Option Addr)(C:Nat)(r:Int)(n:Nat):
  qE w (((((w.alloc (.cells #[.slice A n C,.int .i64 r] 32)).alloc (.cells #[.slice none 0 0,.int .i64 0] 32)).alloc (.cells (nX n) 138)).alloc (.cells #[.slice (some ⟨w.heap.size+1+1,0,none⟩) n n,.int .i64 r] 32)).drew) A C r n (w.heap.size+1+1+1) (w.heap.size+1+1) (List.replicate n PN.zero):=by
 obtain⟨h1,h2,h3,h4⟩:=four w (.cells #[.slice A n C,.int .i64 r] 32) (.cells #[.slice none 0 0,.int .i64 0] 32) (.cells (nX n) 138) (.cells #[.slice (some ⟨w.heap.size+1+1,0,none⟩) n n,.int .i64 r] 32);rw[qb7] at *;exact⟨q3q _ _ _ _ _,h1,h2,h4,h3,by omega,by omega,by omega⟩

theorem qkm(w:World)(A:Option Addr)(C:Nat)(r:Int)(n:Nat):
  qE w (((((w.alloc (.cells #[.slice A n C,.int .i64 r] 32)).alloc (.cells #[.slice none 0 0,.int .i64 0] 32)).alloc (.cells #[.slice (some ⟨w.heap.size+1+1+1,0,none⟩) n n,.int .i64 r] 32)).alloc (.cells (nX n) 138)).drew) A C r n (w.heap.size+1+1) (w.heap.size+1+1+1) (List.replicate n PN.zero):=by
 obtain⟨h1,h2,h3,h4⟩:=four w (.cells #[.slice A n C,.int .i64 r] 32) (.cells #[.slice none 0 0,.int .i64 0] 32) (.cells #[.slice (some ⟨w.heap.size+1+1+1,0,none⟩) n n,.int .i64 r] 32) (.cells (nX n) 138);rw[qb7] at *;exact⟨q3q _ _ _ _ _,h1,h2,h3,h4,by omega,by omega,by omega⟩

theorem dI{w1 w4:World}{base:Nat}{e:TypeId}{size n:Nat}{v:Value}{vs:List Value}(o:w1.ownsRow base e size v n vs)(hb:Below w1.heap.size w1 w4):w4.ownsRow base e size v n vs:=
 aW o fun k hk=>hb.block k (o.lt k hk).2

theorem qa1{w wr w4 W:World}{A:Option Addr}{C:Nat}{r:Int}{n c g:Nat}{ls ls':List PN}(h:qE w wr A C r n c g ls)(hb:Below wr.heap.size wr w4){j0 j1 j2 j3 j4:Nat}{v0 v1 v2 v3 v4:Value}
  (hW:W=((((w4.setCell ⟨g,j0,none⟩ v0).setCell ⟨g,j1,none⟩ v1).setCell ⟨g,j2,none⟩ v2).setCell ⟨g,j3,none⟩ v3).setCell ⟨g,j4,none⟩ v4) (hrow:RowL W g 138 (bJ ls')):qE w W A C r n c g ls':=by
 have hother:∀b,b≠g->W.heap[b]? =w4.heap[b]? :=by
  intro b hbg;subst hW;simp only[Below.heap_setCell _ _ _ _ (show b≠(⟨g,_,none⟩:Addr).block from hbg)]
 have keep:∀{b:Nat} {t:TypeId} {vs:List Value},RowL wr b t vs->b≠g->RowL W b t vs:=fun hr hbg=>(hr.below hb hr.lt).of_block (hother _ hbg)
 have hg:=h.hg;refine⟨?_,keep h.src (by omega),keep h.res (by omega),keep h.cur h.ne,hrow,h.hc,h.hg,h.ne⟩
 have b4:Below w.heap.size w w4:=aC h.bel (Nat.le_refl _) hb;subst hW;exact((((b4.setCell (p:=⟨g,j0,none⟩) (by show _<=g;omega) _).setCell (p:=⟨g,j1,none⟩) (by show _<=g;omega) _).setCell (p:=⟨g,j2,none⟩) (by show _<=g;omega) _).setCell (p:=⟨g,j3,none⟩) (by show _<=g;omega) _).setCell (p:=⟨g,j4,none⟩) (by show _<=g;omega) _

theorem qjv{w wr:World}{A:Option Addr}{C:Nat}{r:Int}{n c g:Nat}{qs:List PN}(h:qE w wr A C r n c g qs)(hown:∀x∈qs,x.own (w.heap.size+2) wr)(hnd:(g::qs.flatMap PN.blocks).Nodup)(hz:qs.length*104<=140737488351232)(v0 v1:Value):
  rC w.heap.size ((wr.setCell ⟨w.heap.size+1,0,none⟩ v0).setCell ⟨w.heap.size+1,1,none⟩ v1) g qs/\Below w.heap.size w ((wr.setCell ⟨w.heap.size+1,0,none⟩ v0).setCell ⟨w.heap.size+1,1,none⟩ v1):=by
 have hother:∀b,b≠w.heap.size+1->((wr.setCell ⟨w.heap.size+1,0,none⟩ v0).setCell ⟨w.heap.size+1,1,none⟩ v1).heap[b]? =wr.heap[b]? :=by
  intro b hbg;simp only[Below.heap_setCell _ _ _ _ (show b≠(⟨w.heap.size+1,_,none⟩:Addr).block from hbg)]
 have hg:=h.hg;refine⟨⟨h.row.of_block (hother _ (by omega)),by omega,fun q hq=>?_,hnd,hz⟩,?_⟩
 ·have h1:=(hown q hq).of_blocks (w':=(wr.setCell ⟨w.heap.size+1,0,none⟩ v0).setCell ⟨w.heap.size+1,1,none⟩ v1) fun b hb=>hother b (by have:=(hown q hq).lt b hb;omega)
  exact⟨bP h1.e (by omega),bP h1.k (by omega),bP h1.d (by omega),bP h1.b (by omega),h1.ez,h1.kz,h1.dz,h1.bz⟩
 ·exact(h.bel.setCell (p:=⟨w.heap.size+1,0,none⟩) (by show _<=w.heap.size+1;omega) _).setCell (p:=⟨w.heap.size+1,1,none⟩) (by show _<=w.heap.size+1;omega) _

set_option maxHeartbeats 4000000 in
theorem qiz(A:Option Addr)(C:Nat)(r:Int)(ps:List PN)(w:World)(h:bF w.heap.size w A ps):
  Calls Tryz.prog 117 #[.agg #[.slice A ps.length C,.int .i64 r]] w
   fun e w'=>∃g qs,e=.returned (.agg #[.slice (some ⟨g,0,none⟩) ps.length ps.length,.int .i64 r])/\rC w.heap.size w' g qs/\qs.map PN.nd=ps.map PN.nd/\Below w.heap.size w w':=by
 have hz:=h.z;have hmk:=qhz ps.length hz
 go_enter Tryz.func117,Tryz.ntmps117
 go_upto_region 1 with fail
 go_cut [3] (fun v wc=>∃c g,v=.pointer (some ⟨c,0,none⟩)/\qE w wc A C r ps.length c g (List.replicate ps.length PN.zero))
 case first=>
  go_region
  all_goals go_wp2
  ·go_meet
   case rel=>exact⟨_,_,rfl,ql1 w A C r ps.length⟩
  ·go_meet
   case rel=>exact⟨_,_,rfl,qkm w A C r ps.length⟩
 case rest=>
  obtain⟨c,g,rfl,hcut⟩:=hcut;have s0:=hcut.src.cell 0;have s1:=hcut.src.cell 1;simp only[List.getElem?_cons_zero,List.getElem?_cons_succ] at s0 s1;go_wp2_with fail
  go_loopw [16] (fun i wr=>∃k qs,k<=ps.length/\i=.int .i64 (k:Nat)/\qs.length=k/\qE w wr A C r ps.length c g (qs++List.replicate (ps.length-k) PN.zero)/\(∀x∈qs,x.own (w.heap.size+2) wr)/\(g::qs.flatMap PN.blocks).Nodup/\qs.map PN.nd=(ps.take k).map PN.nd) (fun i _=>ps.length-(intOf i).toNat)
  case atStart=>exact⟨0,[],Nat.zero_le _,rfl,rfl,by simpa using hcut,by simp,by simp,by simp⟩
  case round=>
   obtain⟨k,qs,hk,rfl,hql,hat,hown,hnd,hmap⟩:=hrel
   by_cases hlt:k<ps.length
   ·have hN:=h.below hat.bel (Nat.le_refl _);obtain⟨b,o,rfl,hbl,c0,c1,c2,c3,c4⟩:=hN.row.pn hlt;have ok:=hN.each k hlt;have hnk:(ps.take (k+1)).map PN.nd=(ps.take k).map PN.nd++[(ps[k]).nd]:=by rw[List.take_succ_eq_append_getElem hlt,List.map_append];rfl
    have HM:Hid (qs.map PN.nd=(ps.take k).map PN.nd/\(ps.take (k+1)).map PN.nd=(ps.take k).map PN.nd++[(ps[k]).nd]):=⟨hmap,hnk⟩;clear hN hmap hnk hcut s0 s1;generalize ps[k]=p at *;obtain⟨leaf,eA,eC,ents,kA,kC,keys,dA,dC,kids,bA,bC,buf⟩:=p;simp only at c0 c1 c2 c3 c4;obtain⟨e1,k1,t1,f1,en,kn,dn,fn,ez,kz,dz,fz⟩:=ok;simp only at e1 k1 t1 f1 en kn dn fn ez kz dz fz;have cc:=hat.cur.cell 0;simp only[List.getElem?_cons_zero] at cc;have hcl:=hat.cur.lt;have hgl:=hat.row.lt;have hle:w.heap.size<=wr.heap.size:=hat.bel.size;have hbr:b<wr.heap.size:=by omega
    have HQ:Hid (qs.length=k):=hql;clear hql;have gf:=hat.row.frozen
    have gcl:∀j,j<5->∃v,wr.cell? ⟨g,k*5+j,none⟩=some v:=by
     intro j hj;have hl:=lT (qs++List.replicate (ps.length-k) PN.zero);rw[hat.row.cell];simp only[List.length_append,List.length_replicate] at hl;have:=HQ.out;exact⟨_,List.getElem?_eq_getElem (by omega)⟩
    obtain⟨x0,g0⟩:=gcl 0 (by decide)
    obtain⟨x1,g1⟩:=gcl 1 (by decide)
    obtain⟨x2,g2⟩:=gcl 2 (by decide)
    obtain⟨x3,g3⟩:=gcl 3 (by decide)
    obtain⟨x4,g4⟩:=gcl 4 (by decide)
    rw[Nat.add_zero] at g0;have i0:(0:Int)<=(k:Int):=by omega
    have i1:(k:Int)<(ps.length:Int):=by omega
    clear gcl;have hcl1:c<wr.heap.size+1:=by omega
    have n1:¬c=g:=hat.ne;have n2:¬wr.heap.size=g:=by omega
    have KS:∀(W:World) (b o j:Nat) (v:Value),¬b=g->(W.setCell ⟨g,j,none⟩ v).cell? ⟨b,o,none⟩=W.cell? ⟨b,o,none⟩:=fun W b o j v hb=>World.cell?_setCell_far _ _ _ _ (fun e=>hb e.symm)
    go_wp2_with fail
    go_region_held3 (fun w'=>w'.cell? ⟨c,0,none⟩=some (.slice (some ⟨g,0,none⟩) ps.length ps.length)/\w'.cell? ⟨wr.heap.size,0,none⟩=some (.bool leaf)/\w'.cell? ⟨wr.heap.size,1,none⟩=some (.slice eA ents.length eC)/\w'.cell? ⟨wr.heap.size,2,none⟩=some (.slice kA keys.length kC)/\w'.cell? ⟨wr.heap.size,3,none⟩=some (.slice dA kids.length dC)/\w'.cell? ⟨wr.heap.size,4,none⟩=some (.slice bA buf.length bC)) (go_keep)
     (first
      |(go_at_call_of 137 eA;refine(wG _ _ _ _ (e1.go (((Below.refl _ _).alloc (Nat.le_refl _) _).drew) hle (Nat.le_refl _)) en ez).mono ?_;rintro e w1 ⟨v1,rfl,o1,hb1⟩;obtain⟨A1,C1,rfl,-⟩:=aN o1;have G1:Below wr.heap.size wr w1:=aC (((Below.refl _ _).alloc (Nat.le_refl _) _).drew) (Nat.le_refl _) hb1;have T1:=(aZ (hb1.mono (show wr.heap.size+1<=_ by simp))).1;have Z1:wr.heap.size+1<=w1.heap.size:=Nat.le_trans (by simp) hb1.size)
      |(go_at_call_of 138 kA;refine(zU _ _ _ _ (k1.go G1 hle (Nat.le_refl _)) kn kz).mono ?_;rintro e w2 ⟨v2,rfl,o2,hb2⟩;obtain⟨A2,C2,rfl,-⟩:=aN o2;have G2:Below wr.heap.size wr w2:=aC G1 (Nat.le_refl _) hb2;have T2:=(aZ (hb2.mono (show wr.heap.size+1<=_ by exact Z1))).1;have Z2:wr.heap.size+1<=w2.heap.size:=Nat.le_trans (Z1) hb2.size)
      |(go_at_call_of 138 dA;refine(zU _ _ _ _ (t1.go G2 hle (Nat.le_refl _)) dn dz).mono ?_;rintro e w3 ⟨v3,rfl,o3,hb3⟩;obtain⟨A3,C3,rfl,-⟩:=aN o3;have G3:Below wr.heap.size wr w3:=aC G2 (Nat.le_refl _) hb3;have T3:=(aZ (hb3.mono (show wr.heap.size+1<=_ by exact Z2))).1;have Z3:wr.heap.size+1<=w3.heap.size:=Nat.le_trans (Z2) hb3.size)
      |(go_at_call_of 137 bA;refine(wG _ _ _ _ (f1.go G3 hle (Nat.le_refl _)) fn fz).mono ?_;rintro e w4 ⟨v4,rfl,o4,hb4⟩;obtain⟨A4,C4,rfl,-⟩:=aN o4;have G4:Below wr.heap.size wr w4:=aC G3 (Nat.le_refl _) hb4;have T4:=(aZ (hb4.mono (show wr.heap.size+1<=_ by exact Z3))).1;have Z4:wr.heap.size+1<=w4.heap.size:=Nat.le_trans (Z3) hb4.size;have Y0:w4.cell? ⟨g,k*5,none⟩=some x0:=(G4.cell (p:=⟨g,k*5,none⟩) hgl).trans g0;have Y1:w4.cell? ⟨g,k*5+1,none⟩=some x1:=(G4.cell (p:=⟨g,k*5+1,none⟩) hgl).trans g1;have Y2:w4.cell? ⟨g,k*5+2,none⟩=some x2:=(G4.cell (p:=⟨g,k*5+2,none⟩) hgl).trans g2;have Y3:w4.cell? ⟨g,k*5+3,none⟩=some x3:=(G4.cell (p:=⟨g,k*5+3,none⟩) hgl).trans g3;have Y4:w4.cell? ⟨g,k*5+4,none⟩=some x4:=(G4.cell (p:=⟨g,k*5+4,none⟩) hgl).trans g4;have YF:∀j,w4.frozen? ⟨g,j,none⟩=false:=fun j=>(G4.frozen (p:=⟨g,j,none⟩) hgl).trans (gf j)))
    have hql:=HQ.out;obtain⟨hm1,hm2⟩:=HM.out;clear HM HQ;subst hql
    have hrow':RowL wr g 138 (bJ (qs++PN.zero::List.replicate (ps.length-(qs.length+1)) PN.zero)):=by
     have:=hat.row
     rwa [show ps.length-qs.length=(ps.length-(qs.length+1))+1 by omega,List.replicate_succ] at this
    have hb34:Below w2.heap.size w2 w4:=aC hb3 (Nat.le_refl _) hb4;have hb234:Below w1.heap.size w1 w4:=aC hb2 (Nat.le_refl _) hb34;have sz0:wr.heap.size<=w1.heap.size:=by omega
    have q1:w4.ownsRow wr.heap.size _ _ _ _ _:=bP (dI o1 hb234) (by simp)
    have q2:w4.ownsRow wr.heap.size _ _ _ _ _:=bP (dI o2 hb34) (by omega)
    have q3:w4.ownsRow wr.heap.size _ _ _ _ _:=bP (dI o3 hb4) (by omega)
    have q4:w4.ownsRow wr.heap.size _ _ _ _ _:=bP o4 (by omega)
    have hq:PN.own wr.heap.size w4 ⟨leaf,A1,C1,ents,A2,C2,keys,A3,C3,kids,A4,C4,buf⟩:=⟨q1,q2,q3,q4,ez,kz,dz,fz⟩
    have hqn:(PN.mk leaf A1 C1 ents A2 C2 keys A3 C3 kids A4 C4 buf).blocks.Nodup:=
     blocks_nodup (s1:=w1.heap.size) (s2:=w2.heap.size) (s3:=w3.heap.size) (fun x hx=>(gU o1 x hx).2) (fun x hx=>gU o2 x hx) (fun x hx=>gU o3 x hx) (fun x hx=>(gU o4 x hx).1) hb2.size hb3.size
    have hgb:w.heap.size+2<=g:=by have:=hat.hg;omega
    have R:=qg2 hrow' hgb hown hnd G4 hq hqn _ rfl;have R':=qa1 hat G4 rfl R.1
    have Rm:(qs++[PN.mk leaf A1 C1 ents A2 C2 keys A3 C3 kids A4 C4 buf]).map PN.nd=(ps.take (qs.length+1)).map PN.nd:=by
     rw[hm2,List.map_append,hm1];rfl
    have RR:Hid _:=And.intro R (And.intro R' Rm);clear R R' Rm hrow' hq hqn q1 q2 q3 q4 o1 o2 o3 o4 hown hnd hat hm1 hm2 T1 T2 T3 T4 KS;go_wp2;go_roundw
    case rel=>
     go_light;obtain⟨⟨_,R2,R3⟩,R',Rm⟩:=RR.out;exact⟨qs.length+1,qs++[PN.mk leaf A1 C1 ents A2 C2 keys A3 C3 kids A4 C4 buf],by omega,by go_num,by simp,by simpa using R',R2,R3,Rm⟩
    case measure=>simp[intOf];omega
   ·obtain rfl:k=ps.length:=by omega
    have hcur0:=hat.cur.cell 0;have hcur1:=hat.cur.cell 1;have hres0:=hat.res.cell 0;have hres1:=hat.res.cell 1;have hresf:=hat.res.frozen;simp only[List.getElem?_cons_zero,List.getElem?_cons_succ] at hcur0 hcur1 hres0 hres1;have HQ:Hid (qs.length=ps.length/\qs.map PN.nd=(ps.take ps.length).map PN.nd):=⟨hql,hmap⟩;clear hql hmap;have hcl:=hat.cur.lt;have hgl:=hat.row.lt;go_wp2;obtain⟨hq1,hq2⟩:=HQ.out;rw[List.take_length] at hq2;rw[Nat.sub_self,List.replicate_zero,List.append_nil] at hat;have hE:=qjv hat hown hnd (by rw[hq1];exact hz) (.slice (some ⟨g,0,none⟩) ps.length ps.length) (.int .i64 r)
    exact bodyPost_ret (v:=.agg #[.slice (some ⟨g,0,none⟩) ps.length ps.length,.int .i64 r]) (by simp[results,Tryz.results117,go_sem,hres0,hres1]) rfl ⟨g,qs,rfl,hE.1,hq2,hE.2⟩

end
end Go.Proofs.YtlojfgdpmaigmagGreatDoor

/- tree.with: a list with an entry more; tree.canWait, tree.kidOf. -/
import Derived.Test.YtlojfgdpmaigmagGreatDoorP29
import Derived.Test.YtlojfgdpmaigmagGreatDoorP14
import Derived.Shelf.Slices.SearchI
namespace Go.Proofs.YtlojfgdpmaigmagGreatDoor
section
open Go.RowKit Plain Go.Shelf

def dM(l:List En)(x:En):List En:=
 if hasK l x.key=true then l.set (lowN l x.key) (mkE ((l.getD (lowN l x.key) default).key) (mrg (l.getD (lowN l x.key) default).ru x.ru).1)
 else l.take (lowN l x.key)++x::l.drop (lowN l x.key)

theorem gQ.from{base n size:Nat}{t:TypeId}{A A':Option Addr}{C':Nat}{vs:List Value}{w w1 w':World}(hb:Below w.heap.size w w1)(h:gQ base t size n A A' C' vs w1 w'):gQ base t size n A A' C' vs w w':=by
 refine⟨h.own,⟨h.kept.os.trans hb.os,h.kept.tape.trans hb.tape,h.kept.output.trans hb.output,Nat.le_trans hb.size h.kept.size,fun k hk hx=>(h.kept.block k (Nat.lt_of_lt_of_le hk hb.size) hx).trans (hb.block k hk)⟩,?_⟩
 rcases h.lies with e|⟨k,e,hk⟩
 ·exact .inl e
 ·exact .inr ⟨k,e,Nat.le_trans hb.size hk⟩

set_option maxRecDepth 20000 in
set_option maxHeartbeats 4000000 in
theorem qke(base:Nat)(A:Option Addr)(C:Nat)(xs:List En)(x:En)(w:World)(ho:w.ownsRow base 132 7 (.slice A xs.length C) xs.length (aB xs))(hp:xs.Pairwise (fun x y=>x.key<y.key))(hB:base<=w.heap.size)(hz:(xs.length+1)*56<=140737488351232)(hk:hasK xs x.key=false):
  Calls Tryz.prog 139 #[.slice A xs.length C,.agg #[.int .i64 x.key,.int .i64 x.c,.int .i64 x.s,.int .i64 x.lo,.int .i64 x.hi,.int .i64 x.t,.int .i64 x.l]] w
   fun e w'=>∃A' C',e=.returned (.slice A' (xs.length+1) C')/\gQ base 132 7 (xs.length+1) A A' C' (aB (xs.take (lowN xs x.key)++x::xs.drop (lowN xs x.key))) w w':=by
 obtain⟨_,_,hA,hAC,hlC,_,hrow⟩:=aP ho;cases hA;have hb0:∀o:Obj,Below w.heap.size w (w.alloc o):=fun o=>(Below.refl _ _).alloc (Nat.le_refl _) o
 have hfind:=fun W (h:aH W.heap.size W A (aB xs))=>xK A C xs x.key W h (by omega) hp
 rw[hk] at hfind;have hle:=rD xs x.key;have hins:=fun W vb (h1:W.ownsRow base 132 7 (.slice A xs.length C) xs.length (aB xs)) (h2:RowL W vb 132 x.vals) (h3:vb∉obk A) (h4:base<=W.heap.size)=>q9q base A C vb 1 xs (lowN xs x.key) x W h1 hle h2 h3 h4 hz
 have hob:∀k∈obk A,k<w.heap.size:=by
  intro k hk;rcases ho.2 with⟨hn,_⟩|⟨g,cap,cur,hn,_,hg,_⟩
  ·simp only[Value.slice.injEq] at hn;obtain⟨rfl,-,-⟩:=hn;simp[obk] at hk
  ·simp only[Value.slice.injEq] at hn;obtain⟨rfl,-,-⟩:=hn;obtain rfl:k=g:=by simpa [obk] using hk
   exact(Array.getElem?_eq_some_iff.1 hg).1
 generalize lowN xs x.key=i at hfind hins hle ⊢;have HI:=aA hins;have HF:=aA hfind;have HO:=aA ho;have HOB:=aA hob;clear hins hfind ho hob hp
 go_enter Tryz.func139,Tryz.ntmps139
 go_wp2_with (first
  |(go_at_call 166;refine(HF.out _ (hrow.up (hb0 _))).mono ?_;rintro e w1 ⟨rfl,hb1⟩;have hbw:Below w.heap.size w w1:=aC (hb0 _) (Nat.le_refl _) hb1;have bx:=fun j=>(hb1.cell (p:=⟨w.heap.size,j,none⟩) (by simp));simp at bx;have hs1:w.heap.size<w1.heap.size:=by have:=hb1.size;simp at this;omega)
  |(go_at_call 167;refine(HI.out _ w1.heap.size (dI HO.out (hbw.alloc (by omega) _)) (aG w1 x.vals _) (fun e=>by have:=HOB.out _ e;omega) (by simp;omega)).mono ?_;rintro e w2 ⟨A2,C2,rfl,hm2⟩))
 go_ret;exact⟨_,_,rfl,hm2.from (hbw.alloc (by omega) _)⟩

theorem qqm(A B:List En)(y:En)(r:Ru)(a:Nat)(ha:A.length*7=a):
  ((((((aB (A++y::B)).set (a+1) (.int .i64 r.c)).set (a+2) (.int .i64 r.s)).set (a+3) (.int .i64 r.lo)).set (a+4) (.int .i64 r.hi)).set (a+5) (.int .i64 r.t)).set (a+6) (.int .i64 r.l)=aB (A++mkE y.key r::B):=by
 have h:(aB A).length=a:=by rw[gZ];exact ha
 rw[jS,jS,aB,aB];rw[List.set_append_right _ _ (by omega),List.set_append_right _ _ (by omega),List.set_append_right _ _ (by omega),List.set_append_right _ _ (by omega),List.set_append_right _ _ (by omega),List.set_append_right _ _ (by omega),h]
 simp only[Nat.add_sub_cancel_left]
 rfl

theorem qjy(xs:List En)(i:Nat)(y:En)(r:Ru)(hi:i<xs.length)(hy:xs[i]=y):
  ((((((aB xs).set (i*7+1) (.int .i64 r.c)).set (i*7+2) (.int .i64 r.s)).set (i*7+3) (.int .i64 r.lo)).set (i*7+4) (.int .i64 r.hi)).set (i*7+5) (.int .i64 r.t)).set (i*7+6) (.int .i64 r.l)=aB (xs.set i (mkE y.key r)):=by
 have e1:xs=xs.take i++y::xs.drop (i+1):=by rw[<-hy,List.getElem_cons_drop,List.take_append_drop]
 have e2:xs.set i (mkE y.key r)=xs.take i++mkE y.key r::xs.drop (i+1):=by rw[List.set_eq_take_append_cons_drop,if_pos hi]
 rw[e2]
 conv=>lhs;rw[e1]
 exact qqm _ _ y r _ (by rw[List.length_take];omega)

theorem qee{base g C i:Nat}{xs:List En}{y:En}{r:Ru}{w w2:World}(ho:w.ownsRow base 132 7 (.slice (some ⟨g,0,none⟩) xs.length C) xs.length (aB xs))(hb:Below w.heap.size w w2)(hi:i<xs.length)(hy:xs[i]=y):
  gQ base 132 7 xs.length (some ⟨g,0,none⟩) (some ⟨g,0,none⟩) C (aB (xs.set i (mkE y.key r))) w ((((((w2.setCell ⟨g,i*7+1,none⟩ (.int .i64 r.c)).setCell ⟨g,i*7+2,none⟩ (.int .i64 r.s)).setCell ⟨g,i*7+3,none⟩ (.int .i64 r.lo)).setCell ⟨g,i*7+4,none⟩ (.int .i64 r.hi)).setCell ⟨g,i*7+5,none⟩ (.int .i64 r.t)).setCell ⟨g,i*7+6,none⟩ (.int .i64 r.l)):=by
 have hg:g∈obk (some ⟨g,0,none⟩):=by simp[obk]
 refine⟨?_,((((((Kept.of_below hb).set (.inl hg) _).set (.inl hg) _).set (.inl hg) _).set (.inl hg) _).set (.inl hg) _).set (.inl hg) _,.inl rfl⟩;rw[<-qjy xs i y r hi hy];exact iC (iC (iC (iC (iC (iC (dI ho hb) _ _) _ _) _ _) _ _) _ _) _ _

set_option maxRecDepth 20000 in
set_option maxHeartbeats 4000000 in
theorem qig(base g C:Nat)(xs:List En)(x y:En)(i:Nat)(r:Ru)(w:World)(ho:w.ownsRow base 132 7 (.slice (some ⟨g,0,none⟩) xs.length C) xs.length (aB xs))(hp:xs.Pairwise (fun x y=>x.key<y.key))(hz:(xs.length+1)*56<=140737488351232)(hk:hasK xs x.key=true)(hi:lowN xs x.key=i)(hil:i<xs.length)(hy:xs[i]=y)(hr:(mrg y.ru x.ru).1=r):
  Calls Tryz.prog 139 #[.slice (some ⟨g,0,none⟩) xs.length C,.agg #[.int .i64 x.key,.int .i64 x.c,.int .i64 x.s,.int .i64 x.lo,.int .i64 x.hi,.int .i64 x.t,.int .i64 x.l]] w
   fun e w'=>e=.returned (.slice (some ⟨g,0,none⟩) xs.length C)/\gQ base 132 7 xs.length (some ⟨g,0,none⟩) (some ⟨g,0,none⟩) C (aB (xs.set i (mkE y.key r))) w w':=by
 obtain⟨_,_,hA,hAC,hlC,_,hrow⟩:=aP ho;cases hA;have hb0:∀o:Obj,Below w.heap.size w (w.alloc o):=fun o=>(Below.refl _ _).alloc (Nat.le_refl _) o
 have hfind:=fun W (h:aH W.heap.size W (some ⟨g,0,none⟩) (aB xs))=>xK (some ⟨g,0,none⟩) C xs x.key W h (by omega) hp
 rw[hk,hi] at hfind;have hmrg:=fun W=>oG y.ru x.ru W
 rw[hr] at hmrg;generalize (mrg y.ru x.ru).2=e2 at hmrg;have hglt:g<w.heap.size:=(ho.lt g rfl).2;have HF:=aA hfind;have HO:=aA ho;have HMG:=aA hmrg;have i1:(i:Int)<(xs.length:Int):=by omega
 have i0:(0:Int)<=(i:Int):=by omega
 have hcell:∀(j:Nat) (u:Value),j<7->y.vals[j]? =some u->w.cell? ⟨g,i*7+j,none⟩=some u:=fun j u hj hu=>by
  rw[ho.cellAt _ (by omega),q1g xs i j hil hj,hy];exact hu
 have c1:=hcell 1 _ (by decide) rfl
 have c2:=hcell 2 _ (by decide) rfl
 have c3:=hcell 3 _ (by decide) rfl
 have c4:=hcell 4 _ (by decide) rfl
 have c5:=hcell 5 _ (by decide) rfl
 have c6:=hcell 6 _ (by decide) rfl
 have HY:Hid (xs[i]=y):=hy;clear hfind ho hmrg hp hk hi hy hr hcell
 go_enter Tryz.func139,Tryz.ntmps139
 go_wp2_with (first
  |(go_at_call 166;refine(HF.out _ (hrow.up (hb0 _))).mono ?_;rintro e w1 ⟨rfl,hb1⟩;have hbw:Below w.heap.size w w1:=aC (hb0 _) (Nat.le_refl _) hb1;have bx:=fun j=>(hb1.cell (p:=⟨w.heap.size,j,none⟩) (by simp));simp at bx;have hs1:w.heap.size<w1.heap.size:=by have:=hb1.size;simp at this;omega))
 have k1:=(hbw.cell (p:=⟨g,i*7+1,none⟩) hglt).trans c1;have k2:=(hbw.cell (p:=⟨g,i*7+2,none⟩) hglt).trans c2;have k3:=(hbw.cell (p:=⟨g,i*7+3,none⟩) hglt).trans c3;have k4:=(hbw.cell (p:=⟨g,i*7+4,none⟩) hglt).trans c4;have k5:=(hbw.cell (p:=⟨g,i*7+5,none⟩) hglt).trans c5;have k6:=(hbw.cell (p:=⟨g,i*7+6,none⟩) hglt).trans c6;have hg1:g<w1.heap.size:=by omega
 clear c1 c2 c3 c4 c5 c6
 go_region_with (go_at_call 15;refine(HMG.out _).mono ?_;rintro e w2 ⟨rfl,hb2⟩;have HW2:Hid (Below w.heap.size w w2):=aA (hbw.drew.trans (hb2.mono (by simp;omega)));have g1:=(hb2.cell (p:=⟨g,i*7+1,none⟩) (by simpa using hg1)).trans k1;have g2:=(hb2.cell (p:=⟨g,i*7+2,none⟩) (by simpa using hg1)).trans k2;have g3:=(hb2.cell (p:=⟨g,i*7+3,none⟩) (by simpa using hg1)).trans k3;have g4:=(hb2.cell (p:=⟨g,i*7+4,none⟩) (by simpa using hg1)).trans k4;have g5:=(hb2.cell (p:=⟨g,i*7+5,none⟩) (by simpa using hg1)).trans k5;have g6:=(hb2.cell (p:=⟨g,i*7+6,none⟩) (by simpa using hg1)).trans k6;have gf:=(dI HO.out HW2.out).frozenAt;clear hb2)
 all_goals
  go_wp2;go_ret;exact⟨rfl,qee HO.out HW2.out hil HY.out⟩

theorem qbp{xs:List En}{k:Int}(hp:xs.Pairwise (fun x y=>x.key<y.key))(h:hasK xs k=true):∃h:lowN xs k<xs.length,xs[lowN xs k].key=k:=by
 unfold hasK at h;rw[List.any_eq_true] at h;obtain⟨x,hx,hk⟩:=h;obtain⟨j,hj,rfl⟩:=List.getElem_of_mem hx;have hk':xs[j].key=k:=by simpa using hk
 have e:lowN xs k=j:=qeh (Nat.le_of_lt hj) (fun a ha haj=>by
  have:=List.pairwise_iff_getElem.1 hp a j ha hj haj;omega) (fun a ha haj=>by
  by_cases q:a=j
  ·subst q;omega
  ·have:=List.pairwise_iff_getElem.1 hp j a hj ha (by omega);omega)
 exact⟨by omega,by simp only[e];exact hk'⟩

theorem qaz(base:Nat)(A:Option Addr)(C:Nat)(xs:List En)(x:En)(w:World)(ho:w.ownsRow base 132 7 (.slice A xs.length C) xs.length (aB xs))(hp:xs.Pairwise (fun x y=>x.key<y.key))(hB:base<=w.heap.size)(hz:(xs.length+1)*56<=140737488351232):
  Calls Tryz.prog 139 #[.slice A xs.length C,.agg #[.int .i64 x.key,.int .i64 x.c,.int .i64 x.s,.int .i64 x.lo,.int .i64 x.hi,.int .i64 x.t,.int .i64 x.l]] w
   fun e w'=>∃A' C',e=.returned (.slice A' (dM xs x).length C')/\gQ base 132 7 (dM xs x).length A A' C' (aB (dM xs x)) w w':=by
 cases hk:hasK xs x.key with
 |true=>
  obtain⟨hl,hkey⟩:=qbp hp hk
  have e:dM xs x=xs.set (lowN xs x.key) (mkE (xs[lowN xs x.key]).key (mrg (xs[lowN xs x.key]).ru x.ru).1):=by
   unfold dM;rw[if_pos hk,List.getD_eq_getElem?_getD,List.getElem?_eq_getElem hl]
   rfl
  rw[e,List.length_set];rcases ho.2 with⟨hn,h0⟩|⟨g,cap,cur,hn,_⟩
  ·omega
  ·simp only[Value.slice.injEq] at hn;obtain⟨rfl,-,rfl⟩:=hn;refine(qig base g C xs x _ _ _ w ho hp hz hk rfl hl rfl rfl).mono ?_;rintro e w' ⟨rfl,hm⟩;exact⟨_,_,rfl,hm⟩
 |false=>
  have e:dM xs x=xs.take (lowN xs x.key)++x::xs.drop (lowN xs x.key):=by
   unfold dM;rw[if_neg (by rw[hk];decide)]
  have hl:=rD xs x.key;have el:(dM xs x).length=xs.length+1:=by rw[e];simp;omega
  rw[el,e];exact qke base A C xs x w ho hp hB hz hk

set_option maxRecDepth 20000 in
theorem q1p(A:Option Addr)(C:Nat)(xs:List En)(k:Int)(w:World)(h:aH w.heap.size w A (aB xs))(hz:xs.length*56<=140737488351232)(hp:xs.Pairwise (fun x y=>x.key<y.key)):
  Calls Tryz.prog 140 #[.slice A xs.length C,.int .i64 k] w fun e w'=>e=.returned (.bool (hasK xs k||decide (xs.length<8)))/\Below w.heap.size w w':=by
 have hcon:=xK A C xs k w h hz hp;generalize lowN xs k=r at hcon;cases hk:hasK xs k with
 |true=>
  rw[hk] at hcon
  go_enter Tryz.func140,Tryz.ntmps140
  go_wp2_with (go_at_call 166;refine hcon.mono ?_;rintro e w1 ⟨rfl,hb1⟩);go_ret;exact⟨rfl,hb1⟩
 |false=>
  rw[hk] at hcon
  by_cases hl:xs.length<8
  ·have hl':(xs.length:Int)<8:=by omega
   go_enter Tryz.func140,Tryz.ntmps140
   go_wp2_with (go_at_call 166;refine hcon.mono ?_;rintro e w1 ⟨rfl,hb1⟩);go_ret;exact⟨by simp[hl],hb1⟩
  ·have hl':¬(xs.length:Int)<8:=by omega
   go_enter Tryz.func140,Tryz.ntmps140
   go_wp2_with (go_at_call 166;refine hcon.mono ?_;rintro e w1 ⟨rfl,hb1⟩);go_ret;exact⟨by simp[hl];omega,hb1⟩

theorem qly{B:Nat}{w w':World}(h:Below B w w')(n:Nat):Below B w (w'.drewN n):=⟨h.os,h.tape,h.output,h.size,h.block⟩

def kidI(keys:List Int)(k:Int):Nat:=keys.countP (·<k)+if keys.contains k=true then 1 else 0

set_option maxRecDepth 20000 in
set_option maxHeartbeats 1000000 in
theorem q5v(p:PN)(k:Int)(w:World)(hk:aH w.heap.size w p.kA (ints p.keys))(hne:p.keys≠[])(hz:p.keys.length*8<=140737488351232)(hs:p.keys.Pairwise (·<=·)):
  Calls Tryz.prog 142 #[.agg #[.bool p.leaf,.slice p.eA p.ents.length p.eC,.slice p.kA p.keys.length p.kC,.slice p.dA p.kids.length p.dC,.slice p.bA p.buf.length p.bC],.int .i64 k] w
   fun e w'=>e=.returned (.int .i64 (kidI p.keys k:Int))/\Below w.heap.size w w':=by
 obtain⟨b,o,hA,hlt,hc⟩:∃b o,p.kA=some ⟨b,o,none⟩/\b<w.heap.size/\∀j u,(ints p.keys)[j]? =some u->w.cell? ⟨b,o+j,none⟩=some u:=by
  rcases hk with h|h
  ·exact absurd (by simpa [ints] using h) hne
  ·exact h
 have hb0:∀ob:Obj,Below w.heap.size w (w.alloc ob):=fun ob=>(Below.refl _ _).alloc (Nat.le_refl _) ob
 have hcon:=fun W (hW:Below w.heap.size w W)=>Any.slices_BinarySearch_int Tryz.searchI b o p.keys.length p.kC p.keys k W (Nat.le_refl _) (by omega) (fun j hj=>by
  rw[hW.cell (p:=⟨b,o+j,none⟩) hlt];exact hc j _ (by rw[ints,List.getElem?_map,List.getElem?_eq_getElem hj,List.getD_eq_getElem?_getD,List.getElem?_eq_getElem hj];rfl)) (by rw[List.take_length];exact hs)
 rw[List.take_length] at hcon;have hle:p.keys.countP (·<k)<=p.keys.length:=List.countP_le_length;rw[hA];unfold kidI;generalize p.keys.countP (·<k)=r at hcon hle ⊢;cases hq:p.keys.contains k with
 |true=>
  rw[hq] at hcon;have HC:=aA hcon;clear hcon hq;have e1:((r+if true=true then 1 else 0:Nat):Int)=(r:Int)+1:=by simp
  rw[e1]
  go_enter Tryz.func142,Tryz.ntmps142
  go_wp2_with (go_at_call 170;refine(HC.out _ (hb0 _)).mono ?_;rintro e w1 ⟨rfl,q,rfl⟩);go_ret;exact⟨rfl,qly (hb0 _) _⟩
 |false=>
  rw[hq] at hcon;have HC:=aA hcon;clear hcon hq;have e1:((r+if false=true then 1 else 0:Nat):Int)=(r:Int):=by simp
  rw[e1]
  go_enter Tryz.func142,Tryz.ntmps142
  go_wp2_with (go_at_call 170;refine(HC.out _ (hb0 _)).mono ?_;rintro e w1 ⟨rfl,q,rfl⟩);go_ret;exact⟨rfl,qly (hb0 _) _⟩

set_option maxRecDepth 20000 in
set_option maxHeartbeats 4000000 in
theorem q7k(a0 a1 a2 a3:Int)(w:World):
  Calls Tryz.prog 169 #[.agg #[.int .i64 a0,.int .i64 a1,.int .i64 a2,.int .i64 a3]] w
   fun e w'=>∃m:Nat,m<4/\e=.returned (.int .i64 (m:Int))/\Below w.heap.size w w':=by
 have i0:∀(x y z u:Value) (w:World),(Instr.index 135 (.agg #[x,y,z,u]) (.int .i64 0)).run Tryz.prog w=.ok x w:=fun _ _ _ _ _=>by kernel_rfl
 have i1:∀(x y z u:Value) (w:World),(Instr.index 135 (.agg #[x,y,z,u]) (.int .i64 1)).run Tryz.prog w=.ok y w:=fun _ _ _ _ _=>by kernel_rfl
 have i2:∀(x y z u:Value) (w:World),(Instr.index 135 (.agg #[x,y,z,u]) (.int .i64 2)).run Tryz.prog w=.ok z w:=fun _ _ _ _ _=>by kernel_rfl
 have i3:∀(x y z u:Value) (w:World),(Instr.index 135 (.agg #[x,y,z,u]) (.int .i64 3)).run Tryz.prog w=.ok u w:=fun _ _ _ _ _=>by kernel_rfl
 go_enter Tryz.func169,Tryz.ntmps169
 go_wp2_with fail;generalize hW:w.alloc (.cells #[.int .i64 a0,.int .i64 a1,.int .i64 a2,.int .i64 a3] 135)=W;have hbW:Below w.heap.size w W:=by rw[<-hW];exact(Below.refl _ _).alloc (Nat.le_refl _) _
 have hlW:w.heap.size<W.heap.size:=by rw[<-hW];simp
 have hat:∀a:Nat,a<4->∃v:Int,W.cell? ⟨w.heap.size,a,none⟩=some (.int .i64 v):=by
  intro a ha;rw[<-hW];rcases(show a=0\/a=1\/a=2\/a=3 by omega) with rfl|rfl|rfl|rfl
  ·exact⟨a0,by simp⟩
  ·exact⟨a1,by simp⟩
  ·exact⟨a2,by simp⟩
  ·exact⟨a3,by simp⟩
 have hix:∀i:Nat,i<4->∃v:Int,(Instr.index 135 (.agg #[.int .i64 a0,.int .i64 a1,.int .i64 a2,.int .i64 a3]) (.int .i64 (i:Int))).run Tryz.prog W=.ok (.int .i64 v) W:=by
  intro i hi;rcases(show i=0\/i=1\/i=2\/i=3 by omega) with rfl|rfl|rfl|rfl
  ·exact⟨a0,i0 _ _ _ _ _⟩
  ·exact⟨a1,i1 _ _ _ _ _⟩
  ·exact⟨a2,i2 _ _ _ _ _⟩
  ·exact⟨a3,i3 _ _ _ _ _⟩
 clear i0 i1 i2 i3 hW;have HAT:=aA hat;have HIX:=aA hix;clear hat hix
 go_loopw [3,7] (fun va vi wr=>∃a i:Nat,a<4/\i<=4/\va=.int .i64 a/\vi=.int .i64 i/\wr=W) (fun _ vi _=>4-(intOf vi).toNat)
 case atStart=>exact⟨0,0,by decide,by decide,rfl,rfl,rfl⟩
 case round=>
  obtain⟨a,i,ha,hi,rfl,rfl,hw⟩:=hrel;subst hw
  by_cases hi4:i<4
  ·obtain⟨va,ca⟩:=HAT.out a ha;obtain⟨vi,ci⟩:=HIX.out i hi4;have hia:(a:Int)<4:=by omega
   have hia0:(0:Int)<=(a:Int):=by omega
   have hii:(i:Int)<4:=by omega
   by_cases hv:va<vi
   ·go_wp2_with fail;go_roundw
    case rel=>exact⟨i,i+1,hi4,by omega,rfl,by go_num,trivial⟩
    case measure=>simp[intOf];omega
   ·go_wp2_with fail;go_roundw
    case rel=>exact⟨a,i+1,ha,by omega,rfl,by go_num,trivial⟩
    case measure=>simp[intOf];omega
  ·have hii:¬(i:Int)<4:=by omega
   go_wp2_with fail;go_ret;exact⟨a,ha,rfl,hbW⟩

end
end Go.Proofs.YtlojfgdpmaigmagGreatDoor

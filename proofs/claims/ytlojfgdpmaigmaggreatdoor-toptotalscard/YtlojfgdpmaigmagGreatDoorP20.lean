/- Bytes in memory, and a reader of them in its box. -/
import Derived.Test.YtlojfgdpmaigmagGreatDoorP07
import Derived.Test.YtlojfgdpmaigmagGreatDoorP08
import Derived.Test.YtlojfgdpmaigmagGreatDoorP14
namespace Go.Proofs.YtlojfgdpmaigmagGreatDoor
section
open Go.RowKit Plain

def u8s(l:List Int):List Value:=l.map fun b=>.int .u8 b

theorem qO(l:List Int):(u8s l).length=l.length:=by simp[u8s]
theorem qj6(l:List Int)(n:Nat):u8s (l.take n)=(u8s l).take n:=by simp[u8s,List.map_take]
theorem qjr(l:List Int)(n:Nat):u8s (l.drop n)=(u8s l).drop n:=by simp[u8s,List.map_drop]
theorem q0k(a b:List Int):u8s (a++b)=u8s a++u8s b:=by simp[u8s]
theorem qhh(l:List Int):∀u∈u8s l,u.oneCell'=true:=fun u hu=>by
 obtain⟨x,_,rfl⟩:=List.mem_map.1 hu
 rfl

theorem aH.byte{B:Nat}{w:World}{A:Option Addr}{l:List Int}(h:aH B w A (u8s l)){k:Nat}(hk:k<l.length):∃b o,A=some ⟨b,o,none⟩/\b<B/\w.cell? ⟨b,o+k,none⟩=some (.int .u8 l[k]):=by
 rcases h with h|⟨b,o,hA,hb,hc⟩
 ·have hl:=qO l;rw[h] at hl;have h0:(0:Nat)=l.length:=hl;omega
 ·exact⟨b,o,hA,hb,hc k _ (by simp[u8s,List.getElem?_eq_getElem hk])⟩

def aX(B:Nat)(w:World)(A:Option Addr)(C:Nat)(l:List Int):Prop:=
 l.length<=C/\C<=9223372036854775807/\((A=none/\C=0)\/∃b o,A=some ⟨b,o,none⟩/\b<B/\∀j u,(u8s l)[j]? =some u->w.cell? ⟨b,o+j,none⟩=some u)

theorem aX.nil(B:Nat)(w:World):aX B w none 0 []:=⟨Nat.le_refl _,by decide,.inl ⟨rfl,rfl⟩⟩

theorem aX.blocks{B:Nat}{w w':World}{A:Option Addr}{C:Nat}{l:List Int}(h:aX B w A C l)(hk:∀k,k<B->w'.heap[k]? =w.heap[k]?):aX B w' A C l:=by
 obtain⟨h1,h2,h3⟩:=h;refine⟨h1,h2,?_⟩;rcases h3 with h3|⟨b,o,hA,hb,hc⟩
 ·exact .inl h3
 ·exact .inr ⟨b,o,hA,hb,fun j u hu=>(World.cell?_of_block (a:=⟨b,o+j,none⟩) (hk b hb)).trans (hc j u hu)⟩

theorem aX.below{B:Nat}{w w':World}{A:Option Addr}{C:Nat}{l:List Int}(h:aX B w A C l)(hb:Below w.heap.size w w')(hB:B<=w.heap.size):aX B w' A C l:=
 h.blocks fun k hk=>hb.block k (by omega)

theorem aX.mono{B B':Nat}{w:World}{A:Option Addr}{C:Nat}{l:List Int}(h:aX B w A C l)(hB:B<=B'):aX B' w A C l:=by
 obtain⟨h1,h2,h3⟩:=h;refine⟨h1,h2,?_⟩;rcases h3 with h3|⟨b,o,hA,hb,hc⟩
 ·exact .inl h3
 ·exact .inr ⟨b,o,hA,by omega,hc⟩

theorem aX.row{B:Nat}{w:World}{A:Option Addr}{C:Nat}{l:List Int}(h:aX B w A C l):aH B w A (u8s l):=by
 obtain⟨h1,h2,h3⟩:=h;rcases h3 with⟨rfl,rfl⟩|⟨b,o,hA,hb,hc⟩
 ·obtain rfl:l=[]:=List.eq_nil_of_length_eq_zero (by omega)
  exact .inl rfl
 ·exact .inr ⟨b,o,hA,hb,hc⟩

theorem aX.take{B b o C:Nat}{w:World}{l:List Int}(h:aX B w (some ⟨b,o,none⟩) C l)(n:Nat):aX B w (some ⟨b,o,none⟩) C (l.take n):=by
 obtain⟨h1,h2,h3⟩:=h;refine⟨by rw[List.length_take];omega,h2,?_⟩
 rcases h3 with⟨h3,_⟩|⟨b',o',hA,hb,hc⟩
 ·cases h3
 ·refine .inr ⟨b',o',hA,hb,fun j u hu=>hc j u ?_⟩
  rw[qj6,List.getElem?_take] at hu
  split at hu
  ·exact hu
  ·cases hu

theorem aX.drop{B b o C:Nat}{w:World}{l:List Int}(h:aX B w (some ⟨b,o,none⟩) C l){n:Nat}(hn:n<=l.length):aX B w (some ⟨b,o+n,none⟩) (C-n) (l.drop n):=by
 obtain⟨h1,h2,h3⟩:=h;refine⟨by rw[List.length_drop];omega,by omega,?_⟩
 rcases h3 with⟨h3,_⟩|⟨b',o',hA,hb,hc⟩
 ·cases h3
 ·cases hA;refine .inr ⟨b,o+n,rfl,hb,fun j u hu=>?_⟩
  rw[qjr,List.getElem?_drop] at hu;have:=hc (n+j) u hu
  rwa [<-Nat.add_assoc] at this

theorem aX.none'{B b o C:Nat}{w:World}{l:List Int}(h:aX B w (some ⟨b,o,none⟩) C l):aX B w (some ⟨b,o,none⟩) 0 []:=by
 obtain⟨h1,h2,h3⟩:=h;rcases h3 with⟨h3,_⟩|⟨b',o',hA,hb,_⟩
 ·cases h3
 ·exact⟨Nat.le_refl _,by omega,.inr ⟨b',o',hA,hb,fun j u hu=>by simp[u8s] at hu⟩⟩

structure RdAt(w:World)(rb:Nat)(s:Rs):Prop where
 at':∃A C,RowL w rb 184 [.slice A s.rest.length C,.int .i64 s.code]/\aX rb w A C s.rest
 still:iJ s
 u8:U8 s.rest

theorem RdAt.lt{w:World}{rb:Nat}{s:Rs}(h:RdAt w rb s):rb<w.heap.size:=by
 obtain⟨A,C,h1,_⟩:=h.at';exact h1.lt

theorem RdAt.blocks{w w':World}{rb:Nat}{s:Rs}(h:RdAt w rb s)(hk:∀k,k<=rb->w'.heap[k]? =w.heap[k]?):RdAt w' rb s:=by
 obtain⟨⟨A,C,h1,h2⟩,h6,h7⟩:=h;exact⟨⟨A,C,h1.of_block (hk rb (Nat.le_refl _)),h2.blocks fun k hk'=>hk k (by omega)⟩,h6,h7⟩

theorem RdAt.below{w w':World}{rb:Nat}{s:Rs}(h:RdAt w rb s)(hb:Below w.heap.size w w'):RdAt w' rb s:=
 h.blocks fun k hk=>hb.block k (by have:=h.lt;omega)

theorem RdAt.set0{w:World}{rb:Nat}{s s':Rs}(h:RdAt w rb s){A:Option Addr}{C:Nat}(hr:aX rb w A C s'.rest)(hc:s'.code=s.code)(hs:iJ s')(hu:U8 s'.rest):
  RdAt (w.setCell ⟨rb,0,none⟩ (.slice A s'.rest.length C)) rb s':=by
 obtain⟨⟨A0,C0,h1,-⟩,-,-⟩:=h;refine⟨⟨A,C,?_,hr.blocks fun k hk=>Below.heap_setCell _ _ _ _ (show k≠rb by omega)⟩,hs,hu⟩
 rw[hc];exact h1.set 0 _

structure RdTo(rb:Nat)(s:Rs)(w w':World):Prop where
 rd:RdAt w' rb s
 kp:Kept [rb] w w'

theorem RdTo.step{rb:Nat}{s1 s2:Rs}{w w1 w2:World}(h1:RdTo rb s1 w w1)(h2:RdTo rb s2 w1 w2):RdTo rb s2 w w2:=⟨h2.rd,h1.kp.trans h2.kp⟩

theorem RdTo.below{rb:Nat}{s:Rs}{w w1 w2:World}(h:RdTo rb s w w1)(hb:Below w1.heap.size w1 w2):RdTo rb s w w2:=
 ⟨h.rd.below hb,⟨hb.os.trans h.kp.os,hb.tape.trans h.kp.tape,hb.output.trans h.kp.output,Nat.le_trans h.kp.size hb.size,fun k hk hn=>(hb.block k (Nat.lt_of_lt_of_le hk h.kp.size)).trans (h.kp.block k hk hn)⟩⟩

theorem oQ{rb:Nat}{w wr:World}(h:Kept [rb] w wr)(a:Nat)(v:Value):Kept [rb] w (wr.setCell ⟨rb,a,none⟩ v):=
 ⟨h.os,h.tape,h.output,by simpa using h.size,fun k hk hne=>(Below.heap_setCell _ _ _ _ (show k≠rb from fun e=>hne (by simp[e]))).trans (h.block k hk hne)⟩

theorem aF{p:Prop}(h:p):Hid p:=h

set_option maxRecDepth 20000 in
set_option maxHeartbeats 1000000 in
theorem oI(rb:Nat)(c:Int)(s:Rs)(w:World)(h:RdAt w rb s):
  Calls Tryz.prog 153 #[.pointer (some ⟨rb,0,none⟩),.int .i64 c] w fun e w'=>e=.returned (.tuple #[])/\RdTo rb (bZ c s) w w':=by
 have hS:RdAt (((w.setCell ⟨rb,1,none⟩ (.int .i64 c)).setCell ⟨rb,0,none⟩ (.slice none 0 0))) rb ⟨[],c⟩:=by
  have hx:RdAt (w.setCell ⟨rb,1,none⟩ (.int .i64 c)) rb ⟨[],c⟩->RdAt (((w.setCell ⟨rb,1,none⟩ (.int .i64 c)).setCell ⟨rb,0,none⟩ (.slice none 0 0))) rb ⟨[],c⟩:=fun h'=>h'.set0 (s':=⟨[],c⟩) (aX.nil _ _) rfl (fun _=>rfl) (fun b hb=>by simp at hb)
  obtain⟨⟨A,C,h1,-⟩,-,-⟩:=h;exact⟨⟨none,0,(h1.set 1 _).set 0 _,aX.nil _ _⟩,fun _=>rfl,fun b hb=>by simp at hb⟩
 have hS2:RdAt (w.setCell ⟨rb,0,none⟩ (.slice none 0 0)) rb ⟨[],s.code⟩:=h.set0 (s':=⟨[],s.code⟩) (aX.nil _ _) rfl (fun _=>rfl) (fun b hb=>by simp at hb)
 have HS:=aF hS;have HS2:=aF hS2;have HK1:=aF (oQ (oQ (Kept.refl [rb] w) 1 (.int .i64 c)) 0 (.slice none 0 0));have HK2:=aF (oQ (Kept.refl [rb] w) 0 (.slice none 0 0));obtain⟨A,C,hrow,_⟩:=h.at';have c0:=hrow.cell 0;have c1:=hrow.cell 1;have fz:=fun j=>hrow.frozen j
 have hl:=hrow.lt;simp only[List.getElem?_cons_zero,List.getElem?_cons_succ] at c0 c1;clear h hrow hS hS2
 by_cases hc:s.code=0
 ·have e:bZ c s=⟨[],c⟩:=by unfold bZ;rw[if_pos hc]
  have hc':(s.code==0)=true:=by simpa using hc
  rw[e];clear e hc HS2 HK2
  go_enter Tryz.func153,Tryz.ntmps153
  go_wp2
  go_end0
  exact⟨rfl,HS.out,HK1.out⟩
 ·have e:bZ c s=⟨[],s.code⟩:=by unfold bZ;rw[if_neg hc]
  have hc':(s.code==0)=false:=by simpa using hc
  rw[e];clear e hc HS HK1
  go_enter Tryz.func153,Tryz.ntmps153
  go_wp2
  go_end0
  exact⟨rfl,HS2.out,HK2.out⟩

def TkTo(rb n:Nat)(s:Rs)(w:World)(e:Ending)(w':World):Prop:=
 ∃A C,e=.returned (.slice A (tk n s).1.length C)/\aX rb w' A C (tk n s).1/\RdTo rb (tk n s).2 w w'

set_option maxRecDepth 20000 in
set_option maxHeartbeats 1000000 in
theorem qck(rb n:Nat)(s:Rs)(w:World)(hn:n<=1000000)(h:RdAt w rb s):
  Calls Tryz.prog 151 #[.pointer (some ⟨rb,0,none⟩),.int .i64 (n:Int)] w (TkTo rb n s w):=by
 have HR:=aF h;obtain⟨A,C,hrow,hby⟩:=h.at';have c0:=hrow.cell 0;have c1:=hrow.cell 1;have fz:=fun j=>hrow.frozen j
 have hl:=hrow.lt;simp only[List.getElem?_cons_zero,List.getElem?_cons_succ] at c0 c1;clear hrow;unfold TkTo
 by_cases hlt:s.rest.length<n
 ·have e:tk n s=([],bZ 5 s):=by unfold tk;rw[if_pos hlt]
  have hlt':(s.rest.length:Int)<(n:Int):=by omega
  have con:=aF (oI rb 5 s w h);rw[e];clear e hlt h
  go_enter Tryz.func151,Tryz.ntmps151
  go_wp2_with (first|(go_at_call 153;refine con.out.mono ?_;rintro e w1 ⟨rfl,hr⟩))
  go_ret;exact⟨none,0,rfl,aX.nil _ _,hr⟩
 ·have e:tk n s=(s.rest.take n,⟨s.rest.drop n,s.code⟩):=by unfold tk;rw[if_neg hlt]
  have hlt':¬((s.rest.length:Int)<(n:Int)):=by omega
  have hs2:iJ ⟨s.rest.drop n,s.code⟩:=by
   have:=qcb (n:=n) h.still
   rwa [e] at this
  have hu2:U8 (s.rest.drop n):=(by
   have:=(yQ (n:=n) h.u8).1
   rwa [e] at this)
  have hle:=hby.1;have hC:=hby.2.1;have q1:(n:Int)<=(C:Int):=by omega
  have q2:(0:Int)<=(n:Int):=by omega
  have q3:(n:Int)<=(s.rest.length:Int):=by omega
  rw[e];have tl:(s.rest.take n).length=n:=by rw[List.length_take];omega
  have dl:(s.rest.drop n).length=s.rest.length-n:=List.length_drop;rcases hby.2.2 with⟨rfl,rfl⟩|⟨b,o,rfl,hb,_⟩
  ·obtain rfl:n=0:=by omega
   have h0:s.rest=[]:=List.eq_nil_of_length_eq_zero (by omega)
   have HS:=aF (h.set0 (s':=⟨s.rest.drop 0,s.code⟩) (A:=none) (C:=0) (by rw[h0];exact aX.nil _ _) rfl hs2 hu2)
   have HK:=aF (oQ (Kept.refl [rb] w) 0 (.slice none 0 0));have HE:Hid (s.rest.take 0=[]/\(s.rest.drop 0).length=0):=⟨by simp,by simp[h0]⟩
   have h0':s.rest.length=0:=by rw[h0];rfl
   rw[h0'] at c0 hlt' q3;have HS':=HS.out;simp only[HE.out.2] at HS';have HS2:=aF HS';clear h hs2 hu2 hby e hlt HS HS' h0 tl dl hle h0'
   go_enter Tryz.func151,Tryz.ntmps151
   go_wp2;go_ret;clear HE;exact⟨none,0,rfl,aX.nil _ _,HS2.out,HK.out⟩
  ·by_cases hCn:C=n
   ·subst hCn;have hl':s.rest.length=C:=by omega
    have HS:=aF (h.set0 (s':=⟨s.rest.drop C,s.code⟩) (A:=some ⟨b,o,none⟩) (C:=0) (by rw[show s.rest.drop C=[] from List.drop_eq_nil_of_le (by omega)];exact hby.none') rfl hs2 hu2)
    have HK:=aF (oQ (Kept.refl [rb] w) 0 (.slice (some ⟨b,o,none⟩) 0 0));have HB:=aF (aX.blocks (hby.take C) (w':=w.setCell ⟨rb,0,none⟩ (.slice (some ⟨b,o,none⟩) 0 0)) (fun k hk=>Below.heap_setCell _ _ _ _ (show k≠rb by omega)))
    have HS':=HS.out;simp only[dl,hl',Nat.sub_self] at HS';have HS2:=aF HS';rw[tl];rw[hl'] at c0 hlt' q3;clear h hs2 hu2 hby e hlt HS HS' tl dl hle hl'
    go_enter Tryz.func151,Tryz.ntmps151
    go_wp2;go_ret;exact⟨some ⟨b,o,none⟩,C,by simp,HB.out,HS2.out,HK.out⟩
   ·have HS:=aF (h.set0 (s':=⟨s.rest.drop n,s.code⟩) (A:=some ⟨b,o+n,none⟩) (C:=C-n) (hby.drop (by omega)) rfl hs2 hu2)
    have HK:=aF (oQ (Kept.refl [rb] w) 0 (.slice (some ⟨b,o+n,none⟩) (s.rest.length-n) (C-n)));have HB:=aF (aX.blocks (hby.take n) (w':=w.setCell ⟨rb,0,none⟩ (.slice (some ⟨b,o+n,none⟩) (s.rest.length-n) (C-n))) (fun k hk=>Below.heap_setCell _ _ _ _ (show k≠rb by omega)))
    have HS':=HS.out;simp only[dl] at HS';have HS2:=aF HS';rw[tl];clear h hs2 hu2 hby e hlt HS HS' tl dl hle
    go_enter Tryz.func151,Tryz.ntmps151
    go_wp2;go_ret;exact⟨some ⟨b,o,none⟩,C,by simp,HB.out,HS2.out,HK.out⟩

def nxB(s:Rs):Int:=s.rest.headD 0

theorem qae{c:Int}{r:List Int}{k:Int}:tk 1 ⟨c::r,k⟩=([c],⟨r,k⟩):=by
 unfold tk;rw[if_neg (by simp)]
 rfl

theorem qgc{k:Int}:tk 1 ⟨[],k⟩=([],bZ 5 ⟨[],k⟩):=by
 unfold tk;rw[if_pos (by simp)]

set_option maxRecDepth 20000 in
set_option maxHeartbeats 1000000 in
theorem qii(rb:Nat)(s:Rs)(w:World)(h:RdAt w rb s):
  Calls Tryz.prog 152 #[.pointer (some ⟨rb,0,none⟩)] w fun e w'=>e=.returned (.int .i64 (nxB s))/\RdTo rb (tk 1 s).2 w w':=by
 have con:Hid (Calls Tryz.prog 151 #[.pointer (some ⟨rb,0,none⟩),.int .i64 1] w fun e w'=>∃A C,e=.returned (.slice A (tk 1 s).1.length C)/\aX rb w' A C (tk 1 s).1/\RdTo rb (tk 1 s).2 w w'):=aF (qck rb 1 s w (by decide) h)
 have hu:=h.u8;obtain⟨rest,code⟩:=s;cases rest with
 |nil=>
  rw[qgc] at con ⊢;show Calls _ _ _ _ fun e w'=>e=.returned (.int .i64 0)/\_
  clear h hu
  go_enter Tryz.func152,Tryz.ntmps152
  go_wp2_with (first|(go_at_call 151;refine con.out.mono ?_;rintro e w1 ⟨A,C,rfl,hby,hr⟩))
  go_ret;exact⟨rfl,hr⟩
 |cons c r=>
  rw[qae] at con ⊢;obtain⟨c0,c1⟩:=hu c List.mem_cons_self;show Calls _ _ _ _ fun e w'=>e=.returned (.int .i64 c)/\_
  clear h hu;have kc:IntKind.i64.wrap c=c:=by rw[IntKind.wrap_i64];omega
  go_enter Tryz.func152,Tryz.ntmps152
  go_wp2_with (first|(go_at_call 151;refine con.out.mono ?_;rintro e w1 ⟨A,C,rfl,hby,hr⟩;obtain⟨b,o,rfl,hb,hc⟩:=hby.row.byte (k:=0) (by simp);have hl1:b<w1.heap.size:=Nat.lt_trans hb hr.rd.lt;simp only[List.getElem_cons_zero,Nat.add_zero] at hc))
  go_ret;exact⟨rfl,hr⟩

theorem qsc:∀i:Nat,i<=7->(1:Int)<=128 ^ i/\(128:Int) ^ i<=562949953421312
 |0,_=>by decide
 |1,_=>by decide
 |2,_=>by decide
 |3,_=>by decide
 |4,_=>by decide
 |5,_=>by decide
 |6,_=>by decide
 |7,_=>by decide

theorem qlt{c u:Int}(c0:0<=c)(c1:c<=255)(u0:1<=u)(u1:u<=562949953421312):0<=c*u/\c*u<=143552238122434560:=by
 have h1:=Int.mul_nonneg c0 (show 0<=u by omega)
 have h2:=Int.mul_le_mul_of_nonneg_right c1 (show 0<=u by omega)
 omega

structure NumI(s:Rs)(i:Nat)(a u:Int)(s':Rs):Prop where
 ue:u=128 ^ i
 a0:0<=a
 a1:a<128 ^ i
 now:(i=0/\s'=s/\a=0)\/(0<i/\s'.code=0/\num s=numF (8-i) false a u s'.rest)

theorem qeh(f:Nat)(first:Bool)(a u c:Int)(r:List Int):numF (f+1) first a u (c::r)=if c=0/\first=false then(0,⟨[],4⟩) else if c<128 then(a+c*u,⟨r,0⟩) else numF f false (a+(c-128)*u) (u*128) r:=rfl

theorem NumI.start(s:Rs):NumI s 0 0 1 s:=⟨rfl,Int.le_refl _,by decide,.inl ⟨rfl,rfl,rfl⟩⟩

theorem NumI.short{s s':Rs}{i:Nat}{a u:Int}(h:NumI s i a u s')(hi:i<=8)(hr:s'.rest=[])(hs:iJ s):num s=(0,bZ 5 s')/\(0<i\/nxB s'=0)/\(a=0\/0<i):=by
 obtain⟨r,k⟩:=s';simp only at hr;subst hr;rcases h.now with⟨rfl,rfl,ha⟩|⟨hi0,hk,hn⟩
 ·refine⟨?_,.inr rfl,.inl ha⟩
  by_cases hk:k=0
  ·subst hk
   rfl
  ·rw[qol (show(Rs.mk [] k).code≠0 from hk),zC (show(Rs.mk [] k).code≠0 from hk) (fun _=>rfl)]
 ·simp only at hk;subst hk;refine⟨?_,.inl hi0,.inr hi0⟩;rw[hn];cases h8:8-i with
  |zero=>rfl
  |succ f=>rfl

theorem NumI.code{s s':Rs}{i:Nat}{a u:Int}(h:NumI s i a u s'){c:Int}{r:List Int}{k:Int}(hr:s'=⟨c::r,k⟩)(hs:iJ s):k=0:=by
 subst hr;rcases h.now with⟨rfl,rfl,ha⟩|⟨_,hk,_⟩
 ·exact Classical.byContradiction fun hk=>by
   have:=hs hk;cases this
 ·exact hk

theorem NumI.one{s:Rs}{i:Nat}{a u c:Int}{r:List Int}(h:NumI s i a u ⟨c::r,0⟩):num s=numF (8-i) (decide (i=0)) a u (c::r):=by
 rcases h.now with⟨rfl,rfl,rfl⟩|⟨hi,_,hn⟩
 ·rw[h.ue]
  rfl
 ·rw[decide_eq_false (by omega)]
  exact hn

theorem NumI.long{s:Rs}{a u c:Int}{r:List Int}(h:NumI s 8 a u ⟨c::r,0⟩):num s=(0,⟨[],4⟩):=by
 rw[h.one]
 rfl

theorem NumI.zero{s:Rs}{i:Nat}{a u:Int}{r:List Int}(h:NumI s i a u ⟨0::r,0⟩)(hi:i<8)(h0:0<i):num s=(0,⟨[],4⟩):=by
 rw[h.one];obtain⟨f,hf⟩:∃f,8-i=f+1:=⟨7-i,by omega⟩
 rw[hf];unfold numF;rw[if_pos ⟨rfl,by simp;omega⟩]

theorem NumI.last{s:Rs}{i:Nat}{a u c:Int}{r:List Int}(h:NumI s i a u ⟨c::r,0⟩)(hi:i<8)(hc:c<128)(h0:¬(c=0/\0<i)):num s=(a+c*u,⟨r,0⟩):=by
 rw[h.one];obtain⟨f,hf⟩:∃f,8-i=f+1:=⟨7-i,by omega⟩
 rw[hf];unfold numF;rw[if_neg,if_pos hc];rintro⟨h1,h2⟩;exact h0 ⟨h1,by simpa [Nat.pos_iff_ne_zero] using h2⟩

theorem NumI.more{s:Rs}{i:Nat}{a u c:Int}{r:List Int}(h:NumI s i a u ⟨c::r,0⟩)(hi:i<8)(hc:128<=c)(hc1:c<=255):NumI s (i+1) (a+(c-128)*u) (u*128) ⟨r,0⟩:=by
 have hu:=h.ue;have hp:=Int.pow_succ 128 i;have h1:=Int.mul_nonneg (show 0<=c-128 by omega) (show 0<=u by rw[hu];exact Int.le_of_lt (Int.pow_pos (by decide)))
 have h2:=Int.mul_le_mul_of_nonneg_right (show c-128<=127 by omega) (show 0<=u by rw[hu];exact Int.le_of_lt (Int.pow_pos (by decide)))
 have a0:=h.a0;have a1:=h.a1;refine⟨by rw[hu,hp],by omega,by rw[hp];rw[hu] at h2 ⊢;omega,.inr ⟨by omega,rfl,?_⟩⟩
 rw[h.one];obtain⟨f,hf⟩:∃f,8-i=f+1:=⟨7-i,by omega⟩
 rw[hf,show 8-(i+1)=f by omega]
 rw[qeh,if_neg (by omega),if_neg (by omega)]

set_option maxRecDepth 20000 in
set_option maxHeartbeats 2000000 in
theorem sU(rb:Nat)(s:Rs)(w:World)(h:RdAt w rb s):
  Calls Tryz.prog 125 #[.pointer (some ⟨rb,0,none⟩)] w fun e w'=>e=.returned (.int .i64 (num s).1)/\RdTo rb (num s).2 w w':=by
 have hs:=h.still;obtain⟨nv,ns,hN⟩:∃nv ns,num s=(nv,ns):=⟨_,_,rfl⟩;rw[hN];show Calls _ _ _ _ fun e w'=>e=.returned (.int .i64 nv)/\RdTo rb ns w w'
 have HN:=aF hN;clear hN
 go_enter Tryz.func125,Tryz.ntmps125
 go_wp2_with fail
 go_loopw [3,4,5,6,7] (fun vn vu _ _ vi wr=>∃(i:Nat) (a u:Int) (s':Rs),i<=8/\vi=.int .i64 (i:Int)/\vn=.int .i64 a/\vu=.int .i64 u/\NumI s i a u s'/\RdTo rb s' w wr) (fun _ _ _ _ vi _=>8-(intOf vi).toNat)
 case atStart=>exact⟨0,0,1,s,by omega,rfl,rfl,rfl,NumI.start s,h,Kept.refl _ _⟩
 case round=>
  obtain⟨i,a,u,s',hi,rfl,rfl,rfl,hI,hT⟩:=hrel;have con1:=aF (qii rb s' wr hT.rd);have hu8:=hT.rd.u8;have HT:=aF hT;clear hT h
  by_cases hlt:i<8
  ·have hlt':(i:Int)<8:=by omega
   have q0:(0:Int)<=(i:Int):=by omega
   obtain⟨p1,p2⟩:=qsc i (by omega)
   have u1:1<=u/\u<=562949953421312:=by rw[hI.ue];exact⟨p1,p2⟩
   have a0:=hI.a0;have a1:a<562949953421312:=by have:=hI.a1;omega
   obtain⟨rest,k⟩:=s';cases rest with
   |nil=>
    obtain⟨e1,e2,e3⟩:=hI.short hi rfl hs;have HE:=aF (HN.out.symm.trans e1);rw[qgc] at con1;have con2:=aF fun W (hW:RdAt W rb (bZ 5 ⟨[],k⟩))=>oI rb 4 (bZ 5 ⟨[],k⟩) W hW
    rw[show bZ 4 (bZ 5 ⟨[],k⟩)=bZ 5 ⟨[],k⟩ from zC (pR (by decide) _) (vU _ _)] at con2
    have hnx:nxB ⟨[],k⟩=0:=rfl;rw[hnx] at con1;clear hI e1 e2 hu8
    by_cases h0:0<i
    ·have h0':(0:Int)<(i:Int):=by omega
     go_wp2_with (first
      |(go_at_call 152;refine con1.out.mono ?_;rintro e w1 ⟨rfl,hr⟩)
      |(go_at_call 153;refine(con2.out _ hr.rd).mono ?_;rintro e w2 ⟨rfl,hr2⟩))
     go_ret;obtain⟨rfl,rfl⟩:=Prod.mk.inj HE.out;exact⟨rfl,(HT.out.step hr).step hr2⟩
    ·obtain rfl:i=0:=by omega
     obtain rfl:a=0:=by omega
     have kz:IntKind.i64.wrap (0+0*u)=0:=by rw[IntKind.wrap_i64];omega
     go_wp2_with (first
      |(go_at_call 152;refine con1.out.mono ?_;rintro e w1 ⟨rfl,hr⟩))
     go_ret;obtain⟨rfl,rfl⟩:=Prod.mk.inj HE.out;exact⟨rfl,HT.out.step hr⟩
   |cons c r=>
    obtain rfl:=hI.code rfl hs;obtain⟨c0,c1⟩:=hu8 c List.mem_cons_self;rw[qae] at con1;rw[show nxB ⟨c::r,0⟩=c from rfl] at con1;obtain⟨m0,m1⟩:=qlt c0 c1 u1.1 u1.2
    by_cases hz:c=0/\0<i
    ·obtain⟨rfl,h0⟩:=hz;have h0':(0:Int)<(i:Int):=by omega
     have HE:=aF (HN.out.symm.trans (hI.zero hlt h0));have con2:=aF fun W (hW:RdAt W rb ⟨r,0⟩)=>oI rb 4 ⟨r,0⟩ W hW
     rw[show bZ 4 ⟨r,0⟩=⟨[],4⟩ from rfl] at con2;clear hI hu8
     go_wp2_with (first
      |(go_at_call 152;refine con1.out.mono ?_;rintro e w1 ⟨rfl,hr⟩)
      |(go_at_call 153;refine(con2.out _ hr.rd).mono ?_;rintro e w2 ⟨rfl,hr2⟩))
     go_ret;obtain⟨rfl,rfl⟩:=Prod.mk.inj HE.out;exact⟨rfl,(HT.out.step hr).step hr2⟩
    ·have hz':(c==0&&decide ((0:Int)<(i:Int)))=false:=by
      rw[Bool.and_eq_false_iff]
      by_cases hc0:c=0
      ·right;rw[decide_eq_false_iff_not];intro h';exact hz ⟨hc0,by omega⟩
      ·left
       simpa using hc0
     by_cases hc:c<128
     ·have HE:=aF (HN.out.symm.trans (hI.last hlt hc hz));have kz:IntKind.i64.wrap (c*u)=c*u:=by rw[IntKind.wrap_i64];omega
      have kz2:IntKind.i64.wrap (a+c*u)=a+c*u:=by rw[IntKind.wrap_i64];omega
      clear hI hu8
      by_cases hc0:c=0
      ·have hc0':(c==0)=true:=by simpa using hc0
       have hi0:¬((0:Int)<(i:Int)):=fun h'=>hz ⟨hc0,by omega⟩
       have HC:=aF hc0;clear hc0
       go_wp2_with (first
        |(go_at_call 152;refine con1.out.mono ?_;rintro e w1 ⟨rfl,hr⟩))
       go_ret;obtain⟨rfl,rfl⟩:=Prod.mk.inj HE.out;exact⟨rfl,HT.out.step hr⟩
      ·have hc0':(c==0)=false:=by simpa using hc0
       go_wp2_with (first
        |(go_at_call 152;refine con1.out.mono ?_;rintro e w1 ⟨rfl,hr⟩))
       go_ret;obtain⟨rfl,rfl⟩:=Prod.mk.inj HE.out;exact⟨rfl,HT.out.step hr⟩
     ·have hc0':(c==0)=false:=beq_eq_false_iff_ne.2 (by omega)
      have HM:=aF (hI.more hlt (by omega) c1)
      obtain⟨n0,n1⟩:=qlt (show 0<=c-128 by omega) (show c-128<=255 by omega) u1.1 u1.2
      have k1:IntKind.i64.wrap (c-128)=c-128:=by rw[IntKind.wrap_i64];omega
      have k2:IntKind.i64.wrap ((c-128)*u)=(c-128)*u:=by rw[IntKind.wrap_i64];omega
      have k3:IntKind.i64.wrap (a+(c-128)*u)=a+(c-128)*u:=by rw[IntKind.wrap_i64];omega
      have k4:IntKind.i64.wrap (u*128)=u*128:=by rw[IntKind.wrap_i64];omega
      clear hI hu8
      go_wp2_with (first
       |(go_at_call 152;refine con1.out.mono ?_;rintro e w1 ⟨rfl,hr⟩))
      go_roundw
      case rel=>exact⟨i+1,_,_,⟨r,0⟩,by omega,by go_num,rfl,rfl,HM.out,HT.out.step hr⟩
      case measure=>simp[intOf];omega
  ·obtain rfl:i=8:=by omega
   obtain⟨rest,k⟩:=s';cases rest with
   |nil=>
    obtain⟨e1,e2,e3⟩:=hI.short hi rfl hs;have HE:=aF (HN.out.symm.trans e1);rw[qgc] at con1;have con2:=aF fun W (hW:RdAt W rb (bZ 5 ⟨[],k⟩))=>oI rb 4 (bZ 5 ⟨[],k⟩) W hW
    rw[show bZ 4 (bZ 5 ⟨[],k⟩)=bZ 5 ⟨[],k⟩ from zC (pR (by decide) _) (vU _ _)] at con2
    clear hI e1 e2 e3 hu8
    go_wp2_with (first
     |(go_at_call 152;refine con1.out.mono ?_;rintro e w1 ⟨rfl,hr⟩)
     |(go_at_call 153;refine(con2.out _ hr.rd).mono ?_;rintro e w2 ⟨rfl,hr2⟩))
    go_ret;obtain⟨rfl,rfl⟩:=Prod.mk.inj HE.out;exact⟨rfl,(HT.out.step hr).step hr2⟩
   |cons c r=>
    obtain rfl:=hI.code rfl hs;have HE:=aF (HN.out.symm.trans (hI.long));rw[qae] at con1;have con2:=aF fun W (hW:RdAt W rb ⟨r,0⟩)=>oI rb 4 ⟨r,0⟩ W hW
    rw[show bZ 4 ⟨r,0⟩=⟨[],4⟩ from rfl] at con2;clear hI hu8
    go_wp2_with (first
     |(go_at_call 152;refine con1.out.mono ?_;rintro e w1 ⟨rfl,hr⟩)
     |(go_at_call 153;refine(con2.out _ hr.rd).mono ?_;rintro e w2 ⟨rfl,hr2⟩))
    go_ret;obtain⟨rfl,rfl⟩:=Prod.mk.inj HE.out;exact⟨rfl,(HT.out.step hr).step hr2⟩

theorem qec(n:Int)(w:World)(h0:0<=n)(h1:n<72057594037927936):Calls Tryz.prog 187 #[.int .i64 n] w fun e w'=>e=.returned (.int .i64 (fO n))/\w'=w:=by
 have hm:n.tmod 2=n%2:=Int.tmod_eq_emod_of_nonneg h0;unfold fO
 by_cases h:n%2=0
 ·have hb:(n%2 != 0)=false:=by simpa using h
  rw[if_neg (by simpa using h)]
  have hd:n.tdiv 2=n/2:=Int.tdiv_eq_ediv_of_nonneg h0;have kd:IntKind.i64.wrap (n/2)=n/2:=by rw[IntKind.wrap_i64];omega
  go_enter Tryz.func187,Tryz.ntmps187
  go_wp2;go_ret;exact⟨rfl,rfl⟩
 ·have hb:(n%2 != 0)=true:=by simpa using h
  rw[if_pos (by simpa using h)]
  have hd:(-(n+1)).tdiv 2=-((n+1)/2):=by rw[Int.neg_tdiv,Int.tdiv_eq_ediv_of_nonneg (by omega)]
  have k1:IntKind.i64.wrap (n+1)=n+1:=by rw[IntKind.wrap_i64];omega
  have k2:IntKind.i64.wrap (-(n+1))=-(n+1):=by rw[IntKind.wrap_i64];omega
  have k3:IntKind.i64.wrap (-((n+1)/2))=-((n+1)/2):=by rw[IntKind.wrap_i64];omega
  go_enter Tryz.func187,Tryz.ntmps187
  go_wp2;go_ret;exact⟨rfl,rfl⟩

set_option maxRecDepth 20000 in
theorem wE(rb:Nat)(s:Rs)(w:World)(h:RdAt w rb s):
  Calls Tryz.prog 175 #[.pointer (some ⟨rb,0,none⟩)] w fun e w'=>e=.returned (.int .i64 (fO (num s).1))/\RdTo rb (num s).2 w w':=by
 have con1:=aF (sU rb s w h);have con2:=aF fun W=>qec (num s).1 W (yJ h.u8) (qlv h.u8)
 clear h
 go_enter Tryz.func175,Tryz.ntmps175
 go_wp2_with (first
  |(go_at_call 125;refine con1.out.mono ?_;rintro e w1 ⟨rfl,hr⟩)
  |(go_at_call 187;refine(con2.out _).mono ?_;rintro e wx ⟨rfl,hwx⟩;subst wx))
 go_ret;exact⟨rfl,hr⟩

set_option maxRecDepth 20000 in
theorem q0j(rb:Nat)(m:Int)(s:Rs)(w:World)(h:RdAt w rb s):
  Calls Tryz.prog 150 #[.pointer (some ⟨rb,0,none⟩),.int .i64 m] w fun e w'=>e=.returned (.int .i64 (cnt m s).1)/\RdTo rb (cnt m s).2 w w':=by
 have con1:=aF (sU rb s w h);have con2:=aF fun W (hW:RdAt W rb (num s).2)=>oI rb 1 (num s).2 W hW
 clear h;unfold cnt
 by_cases hm:(num s).1>m
 ·simp only[hm,if_true];have hm':m<(num s).1:=hm
  go_enter Tryz.func150,Tryz.ntmps150
  go_wp2_with (first
   |(go_at_call 125;refine con1.out.mono ?_;rintro e w1 ⟨rfl,hr⟩)
   |(go_at_call 153;refine(con2.out _ hr.rd).mono ?_;rintro e w2 ⟨rfl,hr2⟩))
  go_ret;exact⟨rfl,hr.step hr2⟩
 ·simp only[hm,if_false];have hm':¬m<(num s).1:=hm
  go_enter Tryz.func150,Tryz.ntmps150
  go_wp2_with (first
   |(go_at_call 125;refine con1.out.mono ?_;rintro e w1 ⟨rfl,hr⟩))
  go_ret;exact⟨rfl,hr⟩

set_option maxRecDepth 20000 in
theorem qo4(rb:Nat)(s:Rs)(w:World)(h:RdAt w rb s):
  Calls Tryz.prog 127 #[.pointer (some ⟨rb,0,none⟩)] w fun e w'=>e=.returned (.tuple #[])/\RdTo rb (if 0<s.rest.length then bZ 4 s else s) w w':=by
 have con2:=aF (oI rb 4 s w h);have HT:=aF (RdTo.mk h (Kept.refl [rb] w));obtain⟨A,C,hrow,-⟩:=h.at';have c0:=hrow.cell 0;have hl:=hrow.lt;simp only[List.getElem?_cons_zero] at c0;clear h hrow
 by_cases hm:0<s.rest.length
 ·rw[if_pos hm];have hm':(0:Int)<(s.rest.length:Int):=by omega
  go_enter Tryz.func127,Tryz.ntmps127
  go_wp2_with (first
   |(go_at_call 153;refine con2.out.mono ?_;rintro e w2 ⟨rfl,hr2⟩))
  go_end0
  exact⟨rfl,hr2⟩
 ·rw[if_neg hm];have hm':¬(0:Int)<(s.rest.length:Int):=by omega
  go_enter Tryz.func127,Tryz.ntmps127
  go_wp2
  go_end0
  exact⟨rfl,HT.out⟩

theorem qdz(k:Int)(w:World)(h:0<=k/\k<4611686018427387904):Calls Tryz.prog 95 #[.int .i64 k] w fun e w'=>e=.returned (.int .i64 (k%1048576))/\w'=w:=by
 have hm:k.tmod 1048576=k%1048576:=Int.tmod_eq_emod_of_nonneg h.1
 go_enter Tryz.func95,Tryz.ntmps95
 go_wp2;go_ret;exact⟨rfl,rfl⟩

structure PtB(w wr:World)(rb xb:Nat)(s:Rs)(xs:List Value):Prop where
 rd:RdTo rb s w wr
 bo:RowL wr w.heap.size 132 [.int .i64 0,.int .i64 0,.int .i64 0,.int .i64 0,.int .i64 0,.int .i64 0,.int .i64 0]
 bx:RowL wr xb 132 xs
 lt:rb<w.heap.size
 lo:w.heap.size<xb

theorem PtB.next{w wr w':World}{rb xb:Nat}{s s':Rs}{xs:List Value}(h:PtB w wr rb xb s xs)(hr:RdTo rb s' wr w'):PtB w w' rb xb s' xs:=by
 have hl:=h.lt;have hx:=h.lo;exact⟨h.rd.step hr,h.bo.of_block (hr.kp.block _ h.bo.lt (by simp;omega)),h.bx.of_block (hr.kp.block _ h.bx.lt (by simp;omega)),hl,hx⟩

theorem PtB.set{w wr:World}{rb xb:Nat}{s:Rs}{xs:List Value}(h:PtB w wr rb xb s xs)(j:Nat)(v:Value):PtB w (wr.setCell ⟨xb,j,none⟩ v) rb xb s (xs.set j v):=by
 have hl:=h.lt;have hx:=h.lo;have hk:=h.rd.kp;refine⟨⟨h.rd.rd.blocks fun k hk'=>Below.heap_setCell _ _ _ _ (show k≠xb by omega),⟨hk.os,hk.tape,hk.output,by simpa using hk.size,fun k h1 h2=>(Below.heap_setCell _ _ _ _ (show k≠xb by omega)).trans (hk.block k h1 h2)⟩⟩,h.bo.of_block (Below.heap_setCell _ _ _ _ (show w.heap.size≠xb by omega)),h.bx.set j v,hl,hx⟩

theorem PtB.start{w w1:World}{rb:Nat}{s:Rs}{xs:List Value}(h:RdTo rb s (w.alloc (.cells #[.int .i64 0,.int .i64 0,.int .i64 0,.int .i64 0,.int .i64 0,.int .i64 0,.int .i64 0] 132)) w1)(hl:rb<w.heap.size):PtB w (w1.alloc (.cells xs.toArray 132)) rb w1.heap.size s xs:=by
 have ha:Below w.heap.size w (w.alloc (.cells #[.int .i64 0,.int .i64 0,.int .i64 0,.int .i64 0,.int .i64 0,.int .i64 0,.int .i64 0] 132)):=(Below.refl _ _).alloc (Nat.le_refl _) _;have hb:Below w1.heap.size w1 (w1.alloc (.cells xs.toArray 132)):=(Below.refl _ _).alloc (Nat.le_refl _) _;have hz:w.heap.size+1<=w1.heap.size:=Nat.le_trans (by simp) h.kp.size
 have r0:=aG w [.int .i64 0,.int .i64 0,.int .i64 0,.int .i64 0,.int .i64 0,.int .i64 0,.int .i64 0] 132;refine⟨⟨h.rd.below hb,?_⟩,?_,aG w1 xs _,hl,by omega⟩
 ·have k:=(h.below hb).kp;exact⟨k.os.trans ha.os,k.tape.trans ha.tape,k.output.trans ha.output,Nat.le_trans ha.size k.size,fun j h1 h2=>(k.block j (Nat.lt_of_lt_of_le h1 ha.size) h2).trans (ha.block j h1)⟩
 ·exact(r0.of_block (h.kp.block _ (by simp) (by simp;omega))).below hb (by omega)

def qqx(w:World)(g:Nat)(x:En):World:=((((((w.setCell ⟨g,0,none⟩ (.int .i64 x.key)).setCell ⟨g,1,none⟩ (.int .i64 x.c)).setCell ⟨g,2,none⟩ (.int .i64 x.s)).setCell ⟨g,3,none⟩ (.int .i64 x.lo)).setCell ⟨g,4,none⟩ (.int .i64 x.hi)).setCell ⟨g,5,none⟩ (.int .i64 x.t)).setCell ⟨g,6,none⟩ (.int .i64 x.l)

theorem RdTo.set7{w wr:World}{rb:Nat}{s:Rs}(h:RdTo rb s w wr)(hl:rb<w.heap.size)(x:En):RdTo rb s w (qqx wr w.heap.size x):=by
 unfold qqx
 have far:∀(W:World) (j:Nat) (v:Value),RdTo rb s w W->RdTo rb s w (W.setCell ⟨w.heap.size,j,none⟩ v):=fun W j v h'=>
  ⟨h'.rd.blocks fun k hk'=>Below.heap_setCell _ _ _ _ (show k≠w.heap.size by omega),⟨h'.kp.os,h'.kp.tape,h'.kp.output,by simpa using h'.kp.size,fun k h1 h2=>(Below.heap_setCell _ _ _ _ (show k≠w.heap.size by omega)).trans (h'.kp.block k h1 h2)⟩⟩
 exact far _ _ _ (far _ _ _ (far _ _ _ (far _ _ _ (far _ _ _ (far _ _ _ (far _ _ _ h))))))

set_option maxRecDepth 20000 in
set_option maxHeartbeats 4000000 in
theorem qfk(rb:Nat)(ahead:Int)(s:Rs)(w:World)(ha:0<=ahead/\ahead<1099511627776)(h:RdAt w rb s):
  Calls Tryz.prog 154 #[.pointer (some ⟨rb,0,none⟩),.int .i64 ahead] w fun e w'=>e=.returned (.agg (dF ahead s).vals.toArray)/\RdTo rb (six s) w w':=by
 have hl:=h.lt;have u0:=h.u8;have u1:=jI u0;have hd:=yJ u0;have hd2:=qlv u0;unfold dF six;obtain⟨d,hd'⟩:∃d,(num s).1=d:=⟨_,rfl⟩;obtain⟨s1,h1⟩:∃s1,(num s).2=s1:=⟨_,rfl⟩;have c1:=aF fun W (hW:RdAt W rb s)=>sU rb s W hW
 have c2:=aF fun W (hW:RdAt W rb s1)=>sU rb s1 W hW
 rw[hd',h1] at c1 ⊢;rw[hd'] at hd hd2;obtain⟨c,hc⟩:∃c,(num s1).1=c:=⟨_,rfl⟩;obtain⟨s2,h2⟩:∃s2,(num s1).2=s2:=⟨_,rfl⟩;have c3:=aF fun W (hW:RdAt W rb s2)=>wE rb s2 W hW
 rw[hc,h2] at c2 ⊢;obtain⟨v3,hv3⟩:∃v,fO (num s2).1=v:=⟨_,rfl⟩;obtain⟨s3,h3⟩:∃s3,(num s2).2=s3:=⟨_,rfl⟩;have c4:=aF fun W (hW:RdAt W rb s3)=>wE rb s3 W hW
 rw[hv3,h3] at c3 ⊢;obtain⟨v4,hv4⟩:∃v,fO (num s3).1=v:=⟨_,rfl⟩;obtain⟨s4,h4⟩:∃s4,(num s3).2=s4:=⟨_,rfl⟩;have c5:=aF fun W (hW:RdAt W rb s4)=>wE rb s4 W hW
 rw[hv4,h4] at c4 ⊢;obtain⟨v5,hv5⟩:∃v,fO (num s4).1=v:=⟨_,rfl⟩;obtain⟨s5,h5⟩:∃s5,(num s4).2=s5:=⟨_,rfl⟩;have c6:=aF fun W (hW:RdAt W rb s5)=>wE rb s5 W hW
 rw[hv5,h5] at c5 ⊢;obtain⟨v6,hv6⟩:∃v,fO (num s5).1=v:=⟨_,rfl⟩;obtain⟨s6,h6⟩:∃s6,(num s5).2=s6:=⟨_,rfl⟩;rw[hv6,h6] at c6 ⊢;have ct:=aF fun W=>qdz (ahead+d) W (by omega)
 obtain⟨key,hkey⟩:∃key,ahead+d=key:=⟨_,rfl⟩;rw[hkey] at ct ⊢;have k1:IntKind.i64.wrap (ahead+d)=key:=by rw[IntKind.wrap_i64];omega
 obtain⟨tt,htt⟩:∃tt,key%1048576=tt:=⟨_,rfl⟩;rw[htt] at ct ⊢;show Calls _ _ _ _ fun e w'=>e=.returned (.agg #[.int .i64 key,.int .i64 c,.int .i64 v3,.int .i64 v4,.int .i64 v5,.int .i64 tt,.int .i64 v6])/\RdTo rb s6 w w'
 clear hd' h1 hc h2 hv3 h3 hv4 h4 hv5 h5 hv6 h6 u0 u1 hd hd2 htt hkey;have HS:=aF h;clear h;have P0:True:=trivial
 go_enter Tryz.func154,Tryz.ntmps154
 go_upto_region 2 with(first
  |(go_at_call 125;refine(c1.out _ (HS.out.below ((Below.refl _ _).alloc (Nat.le_refl _) _))).mono ?_;rintro e w1 ⟨rfl,hT1⟩))
 have H1:=aF (PtB.start (xs:=[.int .i64 key,.int .i64 0,.int .i64 0,.int .i64 0,.int .i64 0,.int .i64 0,.int .i64 0]) hT1 hl);obtain⟨wd,hwd⟩:∃wd,wd=w1.alloc (.cells #[.int .i64 key,.int .i64 0,.int .i64 0,.int .i64 0,.int .i64 0,.int .i64 0,.int .i64 0] 132):=⟨_,rfl⟩;obtain⟨xb,hxb⟩:∃xb,xb=w1.heap.size:=⟨_,rfl⟩;have H1':Hid (PtB w wd rb xb s1 [.int .i64 key,.int .i64 0,.int .i64 0,.int .i64 0,.int .i64 0,.int .i64 0,.int .i64 0]):=by rw[hwd,hxb];exact H1.out
 rw[<-hwd,<-hxb];clear H1 hwd hxb hT1 HS c1
 go_wp2_with (first
  |(go_at_call 125;have kk:=P0;clear kk;refine(c2.out _ H1'.out.rd.rd).mono ?_;rintro e w2 ⟨rfl,hT2⟩;have H2:=aF (H1'.out.next hT2);have d2:=fun j=>H2.out.bx.cell j;have f2:=fun j=>H2.out.bx.frozen j;have l2:=H2.out.bx.lt;have P1:True:=trivial;clear hT2 P0)
  |(go_at_call 175;have kk:=P5;clear kk;refine(c6.out _ (H6.out.set 5 (.int .i64 tt)).rd.rd).mono ?_;rintro e w7 ⟨rfl,hT7⟩;have H7:=aF ((H6.out.set 5 (.int .i64 tt)).next hT7);have d7:=fun j=>H7.out.bx.cell j;have f7:=fun j=>H7.out.bx.frozen j;have l7:=H7.out.bx.lt;have d8:=fun j=>H7.out.bo.cell j;have f8:=fun j=>H7.out.bo.frozen j;have l8:=H7.out.bo.lt;have l9:=H7.out.lo;clear hT7 P5 d6 f6 l6)
  |(go_at_call 95;refine(ct.out _).mono ?_;rintro e wx ⟨rfl,hwx⟩;subst wx;have P5:True:=trivial)
  |(go_at_call 175;have kk:=P4;clear kk;refine(c5.out _ (H4.out.set 3 (.int .i64 v4)).rd.rd).mono ?_;rintro e w6 ⟨rfl,hT6⟩;have H6:=aF (((H4.out.set 3 (.int .i64 v4)).next hT6).set 4 (.int .i64 v5));have H5:=aF ((H4.out.set 3 (.int .i64 v4)).next hT6);have d6:=fun j=>H5.out.bx.cell j;have f6:=fun j=>H5.out.bx.frozen j;have l6:=H5.out.bx.lt;clear hT6 P4 d4 f4 l4)
  |(go_at_call 175;have kk:=P3;clear kk;refine(c4.out _ (H3.out.set 2 (.int .i64 v3)).rd.rd).mono ?_;rintro e w4 ⟨rfl,hT4⟩;have H4:=aF ((H3.out.set 2 (.int .i64 v3)).next hT4);have d4:=fun j=>H4.out.bx.cell j;have f4:=fun j=>H4.out.bx.frozen j;have l4:=H4.out.bx.lt;have P4:True:=trivial;clear hT4 P3 d3 f3 l3)
  |(go_at_call 175;have kk:=P1;clear kk;refine(c3.out _ (H2.out.set 1 (.int .i64 c)).rd.rd).mono ?_;rintro e w3 ⟨rfl,hT3⟩;have H3:=aF ((H2.out.set 1 (.int .i64 c)).next hT3);have d3:=fun j=>H3.out.bx.cell j;have f3:=fun j=>H3.out.bx.frozen j;have l3:=H3.out.bx.lt;have P3:True:=trivial;clear hT3 P1 d2 f2 l2))
 refine bodyPost_ret (v:=.agg #[.int .i64 key,.int .i64 c,.int .i64 v3,.int .i64 v4,.int .i64 v5,.int .i64 tt,.int .i64 v6]) (by simp[results,Tryz.results154,go_sem,d8]) rfl ⟨rfl,?_⟩
 exact RdTo.set7 (H7.out.set 6 (.int .i64 v6)).rd hl ⟨key,c,v3,v4,v5,tt,v6⟩

end
end Go.Proofs.YtlojfgdpmaigmagGreatDoor

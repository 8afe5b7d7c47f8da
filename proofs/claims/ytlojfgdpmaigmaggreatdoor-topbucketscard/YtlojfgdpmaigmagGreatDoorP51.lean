/- The small functions of package engine: become, keep, last. -/
import Derived.Test.YtlojfgdpmaigmagGreatDoorP50
import Derived.Test.YtlojfgdpmaigmagGreatDoorP23
import Derived.Deep.RegionHeld3
namespace Go.Proofs.YtlojfgdpmaigmagGreatDoor
section
open Go.RowKit Plain Go.Shelf

def ansV(c:Int)(r:Ru)(A:Option Addr)(n C:Nat):Value:=.agg #[.int .i64 c,.int .i64 r.c,.int .i64 r.s,.int .i64 r.lo,.int .i64 r.hi,.int .i64 r.t,.int .i64 r.l,.slice A n C]

theorem rV{ex:List Nat}{w wr:World}{b:Nat}(h:Kept ex w wr)(hb:b∈ex\/w.heap.size<=b)(x0 x1 x2 x3 x4 x5 x6 x7:Value):Kept ex w ((((((((wr.setCell ⟨b,0,none⟩ x0).setCell ⟨b,1,none⟩ x1).setCell ⟨b,2,none⟩ x2).setCell ⟨b,3,none⟩ x3).setCell ⟨b,4,none⟩ x4).setCell ⟨b,5,none⟩ x5).setCell ⟨b,6,none⟩ x6).setCell ⟨b,7,none⟩ x7):=
 (((((((h.set hb _).set hb _).set hb _).set hb _).set hb _).set hb _).set hb _).set hb _

theorem qkk{w:World}{sb:Nat}{t:TypeId}{y0 y1 y2 y3 y4 y5 y6 y7 K:Value}(h:RowL w sb t [y0,y1,y2,y3,y4,y5,y6,y7,K])(x0 x1 x2 x3 x4 x5 x6 x7:Value):RowL ((((((((w.setCell ⟨sb,0,none⟩ x0).setCell ⟨sb,1,none⟩ x1).setCell ⟨sb,2,none⟩ x2).setCell ⟨sb,3,none⟩ x3).setCell ⟨sb,4,none⟩ x4).setCell ⟨sb,5,none⟩ x5).setCell ⟨sb,6,none⟩ x6).setCell ⟨sb,7,none⟩ x7) sb t [x0,x1,x2,x3,x4,x5,x6,x7,K]:=by
 have:=(((((((h.set 0 x0).set 1 x1).set 2 x2).set 3 x3).set 4 x4).set 5 x5).set 6 x6).set 7 x7;exact this

theorem mM{B:Nat}{w0 w:World}{b:Nat}(h:Below B w0 w)(hb:B<=b)(x0 x1 x2 x3 x4 x5 x6 x7:Value):Below B w0 ((((((((w.setCell ⟨b,0,none⟩ x0).setCell ⟨b,1,none⟩ x1).setCell ⟨b,2,none⟩ x2).setCell ⟨b,3,none⟩ x3).setCell ⟨b,4,none⟩ x4).setCell ⟨b,5,none⟩ x5).setCell ⟨b,6,none⟩ x6).setCell ⟨b,7,none⟩ x7):=
 fA h hb x0 x1 x2 x3 x4 x5 x6 x7

theorem qmp{w:World}{sb:Nat}{t:TypeId}{vs:List Value}(h:RowL w sb t vs)(o o':Obj):RowL ((w.alloc o).alloc o') sb t vs:=
 h.of_block ((Below.heap_alloc _ _ _ (by have:=h.lt;simp;omega)).trans (Below.heap_alloc _ _ _ h.lt))

theorem qmt(W:World):(binOp BinOp.eql 60 (Value.slice none 0 0) (Value.slice none 0 0)).run Tryz.prog W=.ok (.bool true) W:=by kernel_rfl

section
variable {X : Nat -> Prop} {sb : Nat} {m m' s s' : Mc} {w : World}

theorem StAt.turn2{A A':Option Addr}{C C':Nat}{t0 t1 t2 u0 u1 u2:TR}{K:Value}{w':World}(h:StAt X w sb m s A C t0 t1 t2 K)(hsb:X sb)(hK:Kept [sb] w w')(ha:AwX X w A' C' m'.ss u0 u1 u2)(hk:KB m'.ss m'.f u0 u1 u2 m'.pts)(hb:RowL w' sb 85 (aJ A' C' m'.ss u0 u1 u2 m'.f++[K])):StAt X w' sb m' s A' C' u0 u1 u2 K:=by
 have hX:fG X w w':=fG.of_kept hK fun k hk=>by
  simp only[List.mem_singleton] at hk;exact hk▸hsb
 exact⟨hb,ha.keep hX,hk,h.kp.keep hX⟩

theorem StAt.hold2{A:Option Addr}{C:Nat}{t0 t1 t2:TR}{K K':Value}{w':World}(h:StAt X w sb m s A C t0 t1 t2 K)(hsb:X sb)(hK:Kept [sb] w w')(hk:KpX X w s' K')(hb:RowL w' sb 85 (aJ A C m.ss t0 t1 t2 m.f++[K'])):StAt X w' sb m s' A C t0 t1 t2 K':=by
 have hX:fG X w w':=fG.of_kept hK fun k hk=>by
  simp only[List.mem_singleton] at hk;exact hk▸hsb
 exact⟨hb,h.aw.keep hX,h.kb,hk.keep hX⟩

set_option maxRecDepth 20000 in
theorem qd9(hsb:X sb)(hS:StX X w sb m s){c:Int}{A:Option Addr}{C:Nat}{ss:List ByteArray}{t0 t1 t2:TR}{f:Int}(hn:c=0->ss=m'.ss/\f=m'.f/\AwX X w A C ss t0 t1 t2/\KB ss f t0 t1 t2 m'.pts):
  Calls Tryz.prog 62 #[.pointer (some ⟨sb,0,none⟩),.agg (aJ A C ss t0 t1 t2 f).toArray,.int .i64 c] w fun e w'=>e=.returned (ansV c zro none 0 0)/\Kept [sb] w w'/\StX X w' sb (if c=0 then m' else m) s:=by
 obtain⟨A0,C0,v0,v1,v2,K,h⟩:=hS;have b0:=fun j=>h.box.cell j
 have f0:=fun j=>h.box.frozen j
 have l0:=h.box.lt;obtain⟨mm,hmm⟩:∃mm,(if c=0 then m' else m)=mm:=⟨_,rfl⟩
 rw[hmm]
 by_cases hc:c=0
 ·rw[if_pos hc] at hmm;obtain⟨e1,e2,ha,hk⟩:=hn hc;subst e1 e2 hc hmm;have HT:=aA h;have HA:=aA ha;have HK:=aA hk;clear ha hk h hn;obtain⟨A1,C1,p0,r0⟩:=t0;obtain⟨A2,C2,p1,r1⟩:=t1;obtain⟨A3,C3,p2,r2⟩:=t2;simp only[aJ] at b0 ⊢
  go_enter Tryz.func62,Tryz.ntmps62
  go_wp2_with fail;refine bodyPost_ret (v:=ansV 0 zro none 0 0) (by simp[ansV,zro,results,Tryz.results62,go_sem]) rfl ⟨rfl,?_,?_⟩
  ·exact((rV (Kept.refl [sb] w) (.inl (by simp)) _ _ _ _ _ _ _ _).alloc _).alloc _
  ·refine⟨A,C,⟨A1,C1,p0,r0⟩,⟨A2,C2,p1,r1⟩,⟨A3,C3,p2,r2⟩,K,HT.out.turn2 hsb (((rV (Kept.refl [sb] w) (.inl (by simp)) _ _ _ _ _ _ _ _).alloc _).alloc _) HA.out HK.out ?_⟩
   exact qmp (qkk HT.out.box _ _ _ _ _ _ _ _) _ _
 ·rw[if_neg hc] at hmm;have hcb:(c==0)=false:=by simpa using hc
  subst hmm;have HT:=aA h;clear h hn;obtain⟨A1,C1,p0,r0⟩:=t0;obtain⟨A2,C2,p1,r1⟩:=t1;obtain⟨A3,C3,p2,r2⟩:=t2;simp only[aJ] at b0 ⊢
  go_enter Tryz.func62,Tryz.ntmps62
  go_wp2_with fail;refine bodyPost_ret (v:=ansV c zro none 0 0) (by simp[ansV,zro,results,Tryz.results62,go_sem]) rfl ⟨rfl,?_,?_⟩
  ·exact((Kept.refl [sb] w).alloc _).alloc _
  ·exact⟨_,_,_,_,_,_,HT.out.next (((Below.refl _ _).alloc (Nat.le_refl _) _).alloc (by simp) _)⟩

set_option maxRecDepth 20000 in
theorem ql0(hsb:X sb)(hS:StX X w sb m s){g n cap:Nat}(hk:KpX X w s' (.slice (some ⟨g,0,none⟩) n cap)):
  Calls Tryz.prog 67 #[.pointer (some ⟨sb,0,none⟩),.slice (some ⟨g,0,none⟩) n cap,.int .i64 0] w fun e w'=>e=.returned (ansV 0 zro none 0 0)/\Kept [sb] w w'/\StX X w' sb m s':=by
 obtain⟨A0,C0,v0,v1,v2,K,h⟩:=hS;have b0:=fun j=>h.box.cell j
 have f0:=fun j=>h.box.frozen j
 have l0:=h.box.lt;have HT:=aA (And.intro h hk);clear h hk;simp only[aJ] at b0
 go_enter Tryz.func67,Tryz.ntmps67
 go_wp2_with fail;refine bodyPost_ret (v:=ansV 0 zro none 0 0) (by simp[ansV,zro,results,Tryz.results67,go_sem]) rfl ⟨rfl,?_,?_⟩
 ·exact(oM (Kept.refl [sb] w) _ _).alloc _
 ·refine⟨A0,C0,v0,v1,v2,.slice (some ⟨g,0,none⟩) n cap,HT.out.1.hold2 hsb ((oM (Kept.refl [sb] w) _ _).alloc _) HT.out.2 ?_⟩;have h1:=HT.out.1.box.set 8 (.slice (some ⟨g,0,none⟩) n cap);exact RowL.of_block h1 (Below.heap_alloc _ _ _ h1.lt)

set_option maxRecDepth 20000 in
theorem qip(hZ:SzAt w)(hS:StX X w sb m s):
  Calls Tryz.prog 68 #[.pointer (some ⟨sb,0,none⟩)] w (BcTo s 0 w):=by
 obtain⟨A0,C0,v0,v1,v2,K,h⟩:=hS;have b0:=fun j=>h.box.cell j
 have l0:=h.box.lt;have hnil:=qmt;have RZ:=aG w zb8 35;simp only[zb8] at RZ;have BZ:Hid (∀o:Obj,Below w.heap.size w (w.alloc o)):=fun o=>(Below.refl _ _).alloc (Nat.le_refl _) o
 rcases h.kp with⟨rfl,rfl⟩|⟨L,g,cap,rfl,hb,_,hL⟩
 ·clear h;simp only[aJ] at b0
  go_enter Tryz.func68,Tryz.ntmps68
  go_wp2_with (go_at_call 38;refine(qhx _).mono ?_;rintro e w1 ⟨u0,u1,u2,he,ho,hk,hb1⟩;have R1:=RZ.below hb1 (by simp);have d1:=fun j=>R1.cell j;have e1:=fun j=>R1.frozen j;have g1:=R1.lt;obtain⟨A1,C1,p0,r0⟩:=u0;obtain⟨A2,C2,p1,r1⟩:=u1;obtain⟨A3,C3,p2,r2⟩:=u2;have HO:=aA ho;have HK:=aA hk;have HB:=aA hb1;clear ho hk hb1;simp only[aJ] at he;subst he)
  refine bodyPost_ret (v:=.tuple #[.agg #[.slice none 0 0,.slice A1 p0.length C1,.int .i64 r0,.slice A2 p1.length C2,.int .i64 r1,.slice A3 p2.length C3,.int .i64 r2,.int .i64 0],.int .i64 0]) (by simp[results,Tryz.results68,go_sem,d1]) rfl ?_
  refine⟨none,0,[],⟨A1,C1,p0,r0⟩,⟨A2,C2,p1,r1⟩,⟨A3,C3,p2,r2⟩,0,rfl,mM (aC (BZ.out _) (Nat.le_refl _) HB.out) (Nat.le_refl _) _ _ _ _ _ _ _ _,fun _=>⟨rfl,rfl,?_,HK.out⟩⟩
  have ho:=HO.out.set8 (b:=w.heap.size) (by simp) (.slice none 0 0) (.slice A1 p0.length C1) (.int .i64 r0) (.slice A2 p1.length C2) (.int .i64 r1) (.slice A3 p2.length C3) (.int .i64 r2) (.int .i64 0)
  simp only[set8] at ho;exact ho.keep (by simp) fun _ _ _=>rfl
 ·obtain⟨g',cap',hv,hy⟩:=hb.bytes;cases hv;have con:=aA fun W (hW:Below w.heap.size w W)=>qqn (m:=s) (hZ.below hW) ((hy.below hW (Nat.le_refl _)).mono hW.size) hL
  have hnn:∀n:Nat,∀W,(binOp BinOp.eql 60 (Value.slice (some ⟨g,0,none⟩) n cap) (Value.slice none 0 0)).run Tryz.prog W=.ok (.bool false) W:=fun _ _=>by kernel_rfl
  clear h hb hL hy;obtain⟨n,hn⟩:∃n,(encB s.ss s.f L).length=n:=⟨_,rfl⟩;rw[hn] at con b0;have hnn':=hnn n;clear hnn;simp only[aJ] at b0
  go_enter Tryz.func68,Tryz.ntmps68
  go_wp2_with (go_at_call 102;refine(con.out _ (BZ.out _)).mono ?_;rintro e w1 ⟨A4,C4,s4,u0,u1,u2,f4,he,hb1,hn4⟩;have R1:=RZ.below hb1 (by simp);have d1:=fun j=>R1.cell j;have e1:=fun j=>R1.frozen j;have g1:=R1.lt;obtain⟨A1,C1,p0,r0⟩:=u0;obtain⟨A2,C2,p1,r1⟩:=u1;obtain⟨A3,C3,p2,r2⟩:=u2;have HN:=aA hn4;have HB:=aA hb1;clear hn4 hb1;simp only[aJ] at he;subst he)
  refine bodyPost_ret (v:=.tuple #[.agg #[.slice A4 s4.length C4,.slice A1 p0.length C1,.int .i64 r0,.slice A2 p1.length C2,.int .i64 r1,.slice A3 p2.length C3,.int .i64 r2,.int .i64 f4],.int .i64 0]) (by simp[results,Tryz.results68,go_sem,d1]) rfl ?_
  refine⟨A4,C4,s4,⟨A1,C1,p0,r0⟩,⟨A2,C2,p1,r1⟩,⟨A3,C3,p2,r2⟩,f4,rfl,mM (aC (BZ.out _) (Nat.le_refl _) HB.out) (Nat.le_refl _) _ _ _ _ _ _ _ _,fun _=>?_⟩
  obtain⟨q1,q2,q3,q4⟩:=HN.out trivial;have ho:=q3.set8 (b:=w.heap.size) (by simp) (.slice A4 s4.length C4) (.slice A1 p0.length C1) (.int .i64 r0) (.slice A2 p1.length C2) (.int .i64 r1) (.slice A3 p2.length C3) (.int .i64 r2) (.int .i64 f4)
  simp only[set8] at ho;exact⟨q1,q2,ho.keep (by simp) fun _ _ _=>rfl,q4⟩
end

end
section
open Go.RowKit Plain Go.Shelf

def qp5:Op:=.load 35 (.tmp 16)
theorem qcq:Op.load 35 (.tmp 16)=qp5:=rfl
theorem qds:qp5=Op.load 35 (.tmp 16):=rfl
attribute [local go_sem] qds

def qq7:Op:=.load 35 (.tmp 34)
theorem qcr:Op.load 35 (.tmp 34)=qq7:=rfl
theorem qdn:qq7=Op.load 35 (.tmp 34):=rfl
attribute [local go_sem] qdn

def qqc:Op:=.load 35 (.tmp 55)
theorem qcy:Op.load 35 (.tmp 55)=qqc:=rfl
theorem qd1:qqc=Op.load 35 (.tmp 55):=rfl
attribute [local go_sem] qd1

def qpt:Op:=.load 35 (.tmp 74)
theorem qcp:Op.load 35 (.tmp 74)=qpt:=rfl
theorem qe4:qpt=Op.load 35 (.tmp 74):=rfl
attribute [local go_sem] qe4

theorem vM{P:Program}{id:Nat}{ops ops':Array Oper}{Q:Exit->Act->World->Prop}{a:Act}{w:World}(h:ops=ops')(k:(Code.region id ops' true).wp P Q a w):(Code.region id ops true).wp P Q a w:=by
 subst h;exact k

def DoTo(X:Nat->Prop)(sb:Nat)(r:Mc × Mc × An)(w:World)(e:Ending)(w':World):Prop:=
 ∃(A:Option Addr) (C:Nat),e=.returned (ansV r.2.2.c r.2.2.r A r.2.2.R.length C)/\Kept [sb] w w'/\StX X w' sb r.1 r.2.1/\RowX X w' A (aB r.2.2.R)/\r.2.2.R.length<=500

theorem qsa{X:Nat->Prop}{m:Mc}{c:Int}{w1:World}{A:Option Addr}{C:Nat}{ss:List ByteArray}{t0 t1 t2:TR}{f:Int}{B:Nat}(hX:∀k,X k->k<B)(h:c=0->ss=m.ss/\f=m.f/\OwnB B w1 A C ss t0 t1 t2/\KB ss f t0 t1 t2 m.pts):
  c=0->ss=m.ss/\f=m.f/\AwX X w1 A C ss t0 t1 t2/\KB ss f t0 t1 t2 m.pts:=fun hc=>by
 obtain⟨h1,h2,h3,h4⟩:=h hc;exact⟨h1,h2,AwX.new h3 hX,h4⟩

theorem StX.lt{X:Nat->Prop}{w:World}{sb:Nat}{m s:Mc}(h:StX X w sb m s):sb<w.heap.size:=by
 obtain⟨_,_,_,_,_,_,h⟩:=h;exact h.box.lt

def Xn(X:Nat->Prop)(nb:Nat)(k:Nat):Prop:=X k\/k=nb

section
variable {X : Nat -> Prop} {sb : Nat} {m s : Mc} {w : World}

theorem q1r{m':Mc}{c:Int}{A:Option Addr}{C:Nat}{ss:List ByteArray}{t0 t1 t2:TR}{f:Int}{wa w1:World}(hsb:X sb)(hX:∀k,X k->k<wa.heap.size)(hS:StX X wa sb m s)(hb:Below wa.heap.size wa w1)(h:c=0->ss=m'.ss/\f=m'.f/\OwnB wa.heap.size w1 A C ss t0 t1 t2/\KB ss f t0 t1 t2 m'.pts){r:Mc}(hr:(if c=0 then m' else m)=r):
  Hid (Calls Tryz.prog 62 #[.pointer (some ⟨sb,0,none⟩),.agg (aJ A C ss t0 t1 t2 f).toArray,.int .i64 c] w1 fun e w'=>e=.returned (ansV c zro none 0 0)/\Kept [sb] w1 w'/\StX X w' sb r s):=by
 refine Calls.mono (qd9 hsb (hS.next hb) (qsa (B:=wa.heap.size) hX h)) ?_;rintro e w' ⟨h1,h2,h3⟩;rw[hr] at h3;exact⟨h1,h2,h3⟩

theorem qpj(m:Mc)(s:ByteArray)(t v:Int):(if (putM m s t v).2=0 then(putM m s t v).1 else m)=(putM m s t v).1:=by
 unfold putM
 split
 ·split
  ·rfl
  ·rfl
 ·simp

theorem qr5(m:Mc)(t:Int):(if (expM m t).2=0 then(expM m t).1 else m)=(expM m t).1:=by
 unfold expM
 split
 ·rfl
 ·simp

theorem qY(w:World)(vs:List Value):Below w.heap.size w ((w.alloc (.cells vs.toArray 26)).alloc (.cells #[.int .i64 0,.int .i64 0,.int .i64 0,.int .i64 0,.int .i64 0,.int .i64 0,.int .i64 0,.slice none 0 0] 45))/\RowL ((w.alloc (.cells vs.toArray 26)).alloc (.cells #[.int .i64 0,.int .i64 0,.int .i64 0,.int .i64 0,.int .i64 0,.int .i64 0,.int .i64 0,.slice none 0 0] 45)) w.heap.size 26 vs/\RowL ((w.alloc (.cells vs.toArray 26)).alloc (.cells #[.int .i64 0,.int .i64 0,.int .i64 0,.int .i64 0,.int .i64 0,.int .i64 0,.int .i64 0,.slice none 0 0] 45)) (w.heap.size+1) 45 [.int .i64 0,.int .i64 0,.int .i64 0,.int .i64 0,.int .i64 0,.int .i64 0,.int .i64 0,.slice none 0 0]:=by
 refine⟨((Below.refl _ _).alloc (Nat.le_refl _) _).alloc (by simp) _,(aG w vs _).of_block (Below.heap_alloc _ _ _ (by simp)),?_⟩
 have:=aG (w.alloc (.cells vs.toArray 26)) [.int .i64 0,.int .i64 0,.int .i64 0,.int .i64 0,.int .i64 0,.int .i64 0,.int .i64 0,.slice none 0 0] 45;rw[show(w.alloc (.cells vs.toArray 26)).heap.size=w.heap.size+1 by simp] at this
 exact this

theorem qC{wa w1 w2:World}{nb:Nat}{t:TypeId}{vs:List Value}(h:RowL wa nb t vs)(hb:Below wa.heap.size wa w1)(hk:Kept [sb] w1 w2)(hn:nb≠sb):RowL w2 nb t vs:=
 (h.below hb h.lt).of_block (hk.block nb (h.below hb h.lt).lt (by simpa using hn))

def st6'(w:World)(m:Nat)(a b c d e f:Value):World:=(((((w.setCell ⟨m,0,none⟩ a).setCell ⟨m,1,none⟩ b).setCell ⟨m,2,none⟩ c).setCell ⟨m,3,none⟩ d).setCell ⟨m,4,none⟩ e).setCell ⟨m,5,none⟩ f

theorem qj1{w:World}{m:Nat}{t:TypeId}{x0 x1 x2 x3 x4 x5:Value}(h:RowL w m t [x0,x1,x2,x3,x4,x5])(a b c d e f:Value):RowL (st6' w m a b c d e f) m t [a,b,c,d,e,f]:=by
 have:=(((((h.set 0 a).set 1 b).set 2 c).set 3 d).set 4 e).set 5 f;exact this

theorem qjw{w:World}{m k:Nat}{t:TypeId}{vs:List Value}(h:RowL w k t vs)(hk:¬k=m)(a b c d e f:Value):RowL (st6' w m a b c d e f) k t vs:=by
 have far:∀(W:World) (j:Nat) (v:Value),(W.setCell ⟨m,j,none⟩ v).heap[k]? =W.heap[k]? :=fun W j v=>Below.heap_setCell _ _ _ _ hk
 refine h.of_block ?_;unfold st6';rw[far,far,far,far,far,far]

theorem qqk{wa w1:World}(hb:Below (wa.alloc (.cells #[.int .i64 0,.int .i64 0,.int .i64 0,.int .i64 0,.int .i64 0,.int .i64 0] 42)).drew.heap.size (wa.alloc (.cells #[.int .i64 0,.int .i64 0,.int .i64 0,.int .i64 0,.int .i64 0,.int .i64 0] 42)).drew w1):RowL w1 wa.heap.size 42 [.int .i64 0,.int .i64 0,.int .i64 0,.int .i64 0,.int .i64 0,.int .i64 0]:=
 (RowL.of_block (w':=(wa.alloc (.cells #[.int .i64 0,.int .i64 0,.int .i64 0,.int .i64 0,.int .i64 0,.int .i64 0] 42)).drew) (aG wa [.int .i64 0,.int .i64 0,.int .i64 0,.int .i64 0,.int .i64 0,.int .i64 0] 42) rfl).below hb (by simp)

theorem yR{w2:World}{nb:Nat}(h:StX (Xn X nb) w2 sb m s)(hn:nb≠sb)(x0 x1 x2 x3 x4 x5 x6 x7:Value):StX X ((((((((w2.setCell ⟨nb,0,none⟩ x0).setCell ⟨nb,1,none⟩ x1).setCell ⟨nb,2,none⟩ x2).setCell ⟨nb,3,none⟩ x3).setCell ⟨nb,4,none⟩ x4).setCell ⟨nb,5,none⟩ x5).setCell ⟨nb,6,none⟩ x6).setCell ⟨nb,7,none⟩ x7) sb m s:=
 (h.keep (w':=((((((((w2.setCell ⟨nb,0,none⟩ x0).setCell ⟨nb,1,none⟩ x1).setCell ⟨nb,2,none⟩ x2).setCell ⟨nb,3,none⟩ x3).setCell ⟨nb,4,none⟩ x4).setCell ⟨nb,5,none⟩ x5).setCell ⟨nb,6,none⟩ x6).setCell ⟨nb,7,none⟩ x7)) ⟨Nat.le_of_eq (q1w w2 nb x0 x1 x2 x3 x4 x5 x6 x7).symm,fun k _ hk=>fO w2 nb x0 x1 x2 x3 x4 x5 x6 x7 k fun e=>hk (.inr e)⟩ (fO w2 nb x0 x1 x2 x3 x4 x5 x6 x7 sb (Ne.symm hn))).more fun _ hk=>.inl (.inl hk)

theorem qny{w2:World}{nb:Nat}{A:Option Addr}{vs:List Value}(h:RowX (Xn X nb) w2 A vs)(x0 x1 x2 x3 x4 x5 x6 x7:Value):RowX X ((((((((w2.setCell ⟨nb,0,none⟩ x0).setCell ⟨nb,1,none⟩ x1).setCell ⟨nb,2,none⟩ x2).setCell ⟨nb,3,none⟩ x3).setCell ⟨nb,4,none⟩ x4).setCell ⟨nb,5,none⟩ x5).setCell ⟨nb,6,none⟩ x6).setCell ⟨nb,7,none⟩ x7) A vs:=
 (h.keep (w':=((((((((w2.setCell ⟨nb,0,none⟩ x0).setCell ⟨nb,1,none⟩ x1).setCell ⟨nb,2,none⟩ x2).setCell ⟨nb,3,none⟩ x3).setCell ⟨nb,4,none⟩ x4).setCell ⟨nb,5,none⟩ x5).setCell ⟨nb,6,none⟩ x6).setCell ⟨nb,7,none⟩ x7)) ⟨Nat.le_of_eq (q1w w2 nb x0 x1 x2 x3 x4 x5 x6 x7).symm,fun k _ hk=>fO w2 nb x0 x1 x2 x3 x4 x5 x6 x7 k fun e=>hk (.inr e)⟩).more fun _ hk=>.inl (.inl hk)

theorem qZ{wa:World}(hS:StX X w sb m s)(hb:Below w.heap.size w wa):StX (Xn X (w.heap.size+1)) wa sb m s:=
 (hS.more fun k hk=>by
  rcases hk with h|h
  ·exact .inl h
  ·exact .inr (by omega)).next hb

set_option maxRecDepth 20000 in
set_option maxHeartbeats 1000000 in
theorem qp4(hZ:SzAt w)(hsb:X sb)(hX:∀k,X k->k<w.heap.size)(hS:StX X w sb m s){x:ByteArray}{t z n v:Int}(hx:x.size<=140737488351232)(hm:m.pts.length<=500):
  Calls Tryz.prog 39 #[.pointer (some ⟨sb,0,none⟩),.agg #[.int .i64 1,.string x,.int .i64 t,.int .i64 z,.int .i64 n,.int .i64 v]] w (DoTo X sb ((putM m x t v).1,s,⟨(putM m x t v).2,zro,[]⟩) w):=by
 have HS:=aA hS;have l0:=hS.lt;have HX:=aA hX;have HB:=aA hsb;have hi:=qpj m x t v;obtain⟨A0,C0,v0,v1,v2,K,h⟩:=hS;have b0:=fun j=>h.box.cell j
 have con:=aA fun W (hW:Below w.heap.size w W)=>qo3 (m:=m) (s:=x) (t:=t) (v:=v) (hZ.below hW) (h.at.up hW) h.kb hx (by omega)
 obtain⟨m',hm'⟩:∃m',(putM m x t v).1=m':=⟨_,rfl⟩;obtain⟨c,hc⟩:∃c,(putM m x t v).2=c:=⟨_,rfl⟩;rw[hm',hc] at con hi ⊢;have HI:=aA hi;clear h hX hsb hm' hc hi hZ;obtain⟨A1,C1,p0,r0⟩:=v0;obtain⟨A2,C2,p1,r1⟩:=v1;obtain⟨A3,C3,p2,r2⟩:=v2;simp only[aJ] at b0 con
 go_enter Tryz.func39,Tryz.ntmps39
 go_upto_region 3 with fail;obtain⟨wa,hwa⟩:∃wa,wa=(w.alloc (.cells #[.int .i64 1,.string x,.int .i64 t,.int .i64 z,.int .i64 n,.int .i64 v] 26)).alloc (.cells #[.int .i64 0,.int .i64 0,.int .i64 0,.int .i64 0,.int .i64 0,.int .i64 0,.int .i64 0,.slice none 0 0] 45):=⟨_,rfl⟩;have D0:=qY w [.int .i64 1,.string x,.int .i64 t,.int .i64 z,.int .i64 n,.int .i64 v];simp only[List.toArray] at D0;rw[<-hwa] at D0 ⊢;obtain⟨hBA,hACT,hANS⟩:=D0;have HBA:=aA hBA;have ANS:=aA hANS;have ACT:=aA hACT;have SA:=aA (qZ HS.out hBA);have la:sb<wa.heap.size:=Nat.lt_of_lt_of_le l0 hBA.size;have a1:=fun j=>hACT.cell j
 have lb:=hACT.lt
 have XA:Hid (∀k,Xn X (w.heap.size+1) k->k<wa.heap.size):=fun k hk=>by
  rcases hk with h|h
  ·exact Nat.lt_of_lt_of_le (HX.out k h) HBA.out.size
  ·rw[h];exact hANS.lt
 have b1:=fun j=>(World.cell?_of_block (a:=⟨sb,j,none⟩) (hBA.block sb l0)).trans (b0 j)
 clear hwa hBA hANS hACT b0;have nb0:=aA (show w.heap.size<=w.heap.size+1 by omega)
 obtain⟨nb,hnb⟩:∃nb,nb=w.heap.size+1:=⟨_,rfl⟩;obtain⟨ab,hab⟩:∃ab,ab=w.heap.size:=⟨_,rfl⟩;have hns:nb≠sb:=by omega
 have hna:¬ab=nb:=by omega
 have hnc:¬nb=ab:=by omega
 have hbs:ab≠sb:=by omega
 rw[<-hnb] at ANS SA XA nb0 ⊢;rw[<-hab] at a1 lb ACT ⊢;clear hnb hab;refine vM (by simp only[qcq];rfl) ?_
 go_region_held3 (fun w'=>w'.cell? ⟨ab,1,none⟩=some (.string x)/\w'.cell? ⟨ab,2,none⟩=some (.int .i64 t)/\w'.cell? ⟨ab,5,none⟩=some (.int .i64 v)) (go_keep) (first
  |(go_at_call 63;refine(con.out _ (by exact HBA.out.drew)).mono ?_;rintro e w1 ⟨A4,C4,s4,u0,u1,u2,f4,he,hb,hn⟩;have CB:=q1r (X:=Xn X nb) (wa:=wa.drew) (.inl HB.out) (by exact XA.out) (SA.out.next (Below.refl _ _).drew) (by exact hb) (by exact hn) HI.out;have HB1:Hid (Below wa.heap.size wa w1):=aC (Below.refl _ _).drew (Nat.le_refl _) hb;have A1r:=(RowL.of_block (w':=wa.drew) ACT.out rfl).below hb lb;have a11:=A1r.cell 1;have a12:=A1r.cell 2;have a15:=A1r.cell 5;clear hn hb con;obtain⟨A5,C5,q0,z0⟩:=u0;obtain⟨A6,C6,q1,z1⟩:=u1;obtain⟨A7,C7,q2,z2⟩:=u2;simp only[aJ] at he CB;subst he)
  |(go_at_call 62;refine CB.out.mono ?_;rintro e w2 ⟨he,hk,hs⟩;simp only[ansV,zro] at he;subst he;have R2:=aA (qC ANS.out HB1.out hk hns);have r2:=fun j=>R2.out.cell j;have e2:=fun j=>R2.out.frozen j;have l2:=R2.out.lt;have A2r:=qC ACT.out HB1.out hk hbs;have a21:=A2r.cell 1;have a22:=A2r.cell 2;have a25:=A2r.cell 5;have HK:=aA hk;have HS2:=aA hs;clear hk hs CB))
 go_wp2_with fail;refine bodyPost_ret (v:=ansV c zro none 0 0) (by simp[ansV,zro,results,Tryz.results39,go_sem,r2]) rfl ⟨none,0,rfl,?_,?_,.inl rfl,by simp⟩
 ·exact rV (((Kept.of_below HBA.out).trans (Kept.of_below HB1.out)).trans HK.out) (.inr nb0.out) _ _ _ _ _ _ _ _
 ·exact yR HS2.out hns _ _ _ _ _ _ _ _

set_option maxRecDepth 20000 in
set_option maxHeartbeats 1000000 in
theorem qq6(hZ:SzAt w)(hsb:X sb)(hX:∀k,X k->k<w.heap.size)(hS:StX X w sb m s){x:ByteArray}{t z n v:Int}(hm:m.pts.length<=500):
  Calls Tryz.prog 39 #[.pointer (some ⟨sb,0,none⟩),.agg #[.int .i64 4,.string x,.int .i64 t,.int .i64 z,.int .i64 n,.int .i64 v]] w (DoTo X sb ((expM m t).1,s,⟨(expM m t).2,zro,[]⟩) w):=by
 have HS:=aA hS;have l0:=hS.lt;have HX:=aA hX;have HB:=aA hsb;have hi:=qr5 m t;obtain⟨A0,C0,v0,v1,v2,K,h⟩:=hS;have b0:=fun j=>h.box.cell j
 have con:=aA fun W (hW:Below w.heap.size w W)=>qmc (m:=m) (t:=t) (hZ.below hW) (h.at.up hW) h.kb (by omega)
 obtain⟨m',hm'⟩:∃m',(expM m t).1=m':=⟨_,rfl⟩;obtain⟨c,hc⟩:∃c,(expM m t).2=c:=⟨_,rfl⟩;rw[hm',hc] at con hi ⊢;have HI:=aA hi;clear h hX hsb hm' hc hi hZ;obtain⟨A1,C1,p0,r0⟩:=v0;obtain⟨A2,C2,p1,r1⟩:=v1;obtain⟨A3,C3,p2,r2⟩:=v2;simp only[aJ] at b0 con
 go_enter Tryz.func39,Tryz.ntmps39
 go_upto_region 11 with fail;obtain⟨wa,hwa⟩:∃wa,wa=(w.alloc (.cells #[.int .i64 4,.string x,.int .i64 t,.int .i64 z,.int .i64 n,.int .i64 v] 26)).alloc (.cells #[.int .i64 0,.int .i64 0,.int .i64 0,.int .i64 0,.int .i64 0,.int .i64 0,.int .i64 0,.slice none 0 0] 45):=⟨_,rfl⟩;have D0:=qY w [.int .i64 4,.string x,.int .i64 t,.int .i64 z,.int .i64 n,.int .i64 v];simp only[List.toArray] at D0;rw[<-hwa] at D0 ⊢;obtain⟨hBA,hACT,hANS⟩:=D0;have HBA:=aA hBA;have ANS:=aA hANS;have ACT:=aA hACT;have SA:=aA (qZ HS.out hBA);have la:sb<wa.heap.size:=Nat.lt_of_lt_of_le l0 hBA.size;have a1:=fun j=>hACT.cell j
 have lb:=hACT.lt
 have XA:Hid (∀k,Xn X (w.heap.size+1) k->k<wa.heap.size):=fun k hk=>by
  rcases hk with h|h
  ·exact Nat.lt_of_lt_of_le (HX.out k h) HBA.out.size
  ·rw[h];exact hANS.lt
 have b1:=fun j=>(World.cell?_of_block (a:=⟨sb,j,none⟩) (hBA.block sb l0)).trans (b0 j)
 clear hwa hBA hANS hACT b0;have nb0:=aA (show w.heap.size<=w.heap.size+1 by omega)
 obtain⟨nb,hnb⟩:∃nb,nb=w.heap.size+1:=⟨_,rfl⟩;obtain⟨ab,hab⟩:∃ab,ab=w.heap.size:=⟨_,rfl⟩;have hns:nb≠sb:=by omega
 have hna:¬ab=nb:=by omega
 have hnc:¬nb=ab:=by omega
 have hbs:ab≠sb:=by omega
 rw[<-hnb] at ANS SA XA nb0 ⊢;rw[<-hab] at a1 lb ACT ⊢;clear hnb hab;refine vM (by simp only[qcp];rfl) ?_
 go_region_held3 (fun w'=>w'.cell? ⟨ab,2,none⟩=some (.int .i64 t)) (go_keep) (first
  |(go_at_call 66;refine(con.out _ (by exact HBA.out.drew)).mono ?_;rintro e w1 ⟨A4,C4,s4,u0,u1,u2,f4,he,hb,hn⟩;have CB:=q1r (X:=Xn X nb) (wa:=wa.drew) (.inl HB.out) (by exact XA.out) (SA.out.next (Below.refl _ _).drew) (by exact hb) (by exact hn) HI.out;have HB1:Hid (Below wa.heap.size wa w1):=aC (Below.refl _ _).drew (Nat.le_refl _) hb;have A1r:=(RowL.of_block (w':=wa.drew) ACT.out rfl).below hb lb;have a12:=A1r.cell 2;clear hn hb con;obtain⟨A5,C5,q0,z0⟩:=u0;obtain⟨A6,C6,q1,z1⟩:=u1;obtain⟨A7,C7,q2,z2⟩:=u2;simp only[aJ] at he CB;subst he)
  |(go_at_call 62;refine CB.out.mono ?_;rintro e w2 ⟨he,hk,hs⟩;simp only[ansV,zro] at he;subst he;have R2:=aA (qC ANS.out HB1.out hk hns);have r2:=fun j=>R2.out.cell j;have e2:=fun j=>R2.out.frozen j;have l2:=R2.out.lt;have A2r:=qC ACT.out HB1.out hk hbs;have a22:=A2r.cell 2;have HK:=aA hk;have HS2:=aA hs;clear hk hs CB))
 go_wp2_with fail;refine bodyPost_ret (v:=ansV c zro none 0 0) (by simp[ansV,zro,results,Tryz.results39,go_sem,r2]) rfl ⟨none,0,rfl,?_,?_,.inl rfl,by simp⟩
 ·exact rV (((Kept.of_below HBA.out).trans (Kept.of_below HB1.out)).trans HK.out) (.inr nb0.out) _ _ _ _ _ _ _ _
 ·exact yR HS2.out hns _ _ _ _ _ _ _ _

set_option maxRecDepth 20000 in
set_option maxHeartbeats 1000000 in
theorem qmr(hZ:SzAt w)(hsb:X sb)(hX:∀k,X k->k<w.heap.size)(hS:StX X w sb m s){x:ByteArray}{t z n v:Int}:
  Calls Tryz.prog 39 #[.pointer (some ⟨sb,0,none⟩),.agg #[.int .i64 6,.string x,.int .i64 t,.int .i64 z,.int .i64 n,.int .i64 v]] w (DoTo X sb (s,s,⟨0,zro,[]⟩) w):=by
 have HS:=aA hS;have l0:=hS.lt;have HX:=aA hX;have HB:=aA hsb;have con:=aA fun W (hW:Below w.heap.size w W)=>qip (hZ.below hW) (hS.next hW)
 clear hX hsb hZ hS
 go_enter Tryz.func39,Tryz.ntmps39
 go_upto_region 15 with fail;obtain⟨wa,hwa⟩:∃wa,wa=(w.alloc (.cells #[.int .i64 6,.string x,.int .i64 t,.int .i64 z,.int .i64 n,.int .i64 v] 26)).alloc (.cells #[.int .i64 0,.int .i64 0,.int .i64 0,.int .i64 0,.int .i64 0,.int .i64 0,.int .i64 0,.slice none 0 0] 45):=⟨_,rfl⟩;have D0:=qY w [.int .i64 6,.string x,.int .i64 t,.int .i64 z,.int .i64 n,.int .i64 v];simp only[List.toArray] at D0;rw[<-hwa] at D0 ⊢;obtain⟨hBA,hACT,hANS⟩:=D0;have HBA:=aA hBA;have ANS:=aA hANS;have ACT:=aA hACT;have SA:=aA (qZ HS.out hBA);have la:sb<wa.heap.size:=Nat.lt_of_lt_of_le l0 hBA.size;have a1:=fun j=>hACT.cell j
 have lb:=hACT.lt
 have XA:Hid (∀k,Xn X (w.heap.size+1) k->k<wa.heap.size):=fun k hk=>by
  rcases hk with h|h
  ·exact Nat.lt_of_lt_of_le (HX.out k h) HBA.out.size
  ·rw[h];exact hANS.lt
 clear hwa hBA hANS hACT;have nb0:=aA (show w.heap.size<=w.heap.size+1 by omega)
 obtain⟨nb,hnb⟩:∃nb,nb=w.heap.size+1:=⟨_,rfl⟩;obtain⟨ab,hab⟩:∃ab,ab=w.heap.size:=⟨_,rfl⟩;have hns:nb≠sb:=by omega
 have hna:¬ab=nb:=by omega
 have hnc:¬nb=ab:=by omega
 have hbs:ab≠sb:=by omega
 rw[<-hnb] at ANS SA XA nb0 ⊢;rw[<-hab] at a1 lb ACT ⊢;clear hnb hab;clear a1 lb
 go_wp2_with (first
  |(go_at_call 68;refine(con.out _ (by exact HBA.out)).mono ?_;rintro e w1 ⟨A4,C4,s4,u0,u1,u2,f4,he,hb,hn⟩;have CB:=q1r (X:=Xn X nb) (wa:=wa) (.inl HB.out) (by exact XA.out) SA.out (by exact hb) (by exact hn) (if_pos rfl);have HB1:Hid (Below wa.heap.size wa w1):=hb;clear hn hb con;obtain⟨A5,C5,q0,z0⟩:=u0;obtain⟨A6,C6,q1,z1⟩:=u1;obtain⟨A7,C7,q2,z2⟩:=u2;simp only[aJ] at he CB;subst he)
  |(go_at_call 62;refine CB.out.mono ?_;rintro e w2 ⟨he,hk,hs⟩;simp only[ansV,zro] at he;subst he;have R2:=aA (qC ANS.out HB1.out hk hns);have r2:=fun j=>R2.out.cell j;have e2:=fun j=>R2.out.frozen j;have l2:=R2.out.lt;have A2r:=qC ACT.out HB1.out hk hbs;have HK:=aA hk;have HS2:=aA hs;clear hk hs CB))
 refine bodyPost_ret (v:=ansV 0 zro none 0 0) (by simp[ansV,zro,results,Tryz.results39,go_sem,r2]) rfl ⟨none,0,rfl,?_,?_,.inl rfl,by simp⟩
 ·exact rV (((Kept.of_below HBA.out).trans (Kept.of_below HB1.out)).trans HK.out) (.inr nb0.out) _ _ _ _ _ _ _ _
 ·exact yR HS2.out hns _ _ _ _ _ _ _ _

set_option maxRecDepth 20000 in
set_option maxHeartbeats 1000000 in
theorem qmk(hZ:SzAt w)(hsb:X sb)(hX:∀k,X k->k<w.heap.size)(hS:StX X w sb m s){x:ByteArray}{t z n v:Int}(hm:m.pts.length<=500):
  Calls Tryz.prog 39 #[.pointer (some ⟨sb,0,none⟩),.agg #[.int .i64 5,.string x,.int .i64 t,.int .i64 z,.int .i64 n,.int .i64 v]] w (DoTo X sb (m,m,⟨0,zro,[]⟩) w):=by
 have HS:=aA hS;have l0:=hS.lt;have HX:=aA hX;have HB:=aA hsb;obtain⟨A0,C0,v0,v1,v2,K,h⟩:=hS;have b0:=fun j=>h.box.cell j
 have con:=aA fun W (hW:Below w.heap.size w W)=>qr6 (m:=m) (hZ.below hW) (h.at.up hW) h.kb (by omega)
 clear h hX hsb hZ;obtain⟨A1,C1,p0,r0⟩:=v0;obtain⟨A2,C2,p1,r1⟩:=v1;obtain⟨A3,C3,p2,r2⟩:=v2;simp only[aJ] at b0 con
 go_enter Tryz.func39,Tryz.ntmps39
 go_upto_region 13 with fail;obtain⟨wa,hwa⟩:∃wa,wa=(w.alloc (.cells #[.int .i64 5,.string x,.int .i64 t,.int .i64 z,.int .i64 n,.int .i64 v] 26)).alloc (.cells #[.int .i64 0,.int .i64 0,.int .i64 0,.int .i64 0,.int .i64 0,.int .i64 0,.int .i64 0,.slice none 0 0] 45):=⟨_,rfl⟩;have D0:=qY w [.int .i64 5,.string x,.int .i64 t,.int .i64 z,.int .i64 n,.int .i64 v];simp only[List.toArray] at D0;rw[<-hwa] at D0 ⊢;obtain⟨hBA,hACT,hANS⟩:=D0;have HBA:=aA hBA;have ANS:=aA hANS;have ACT:=aA hACT;have SA:=aA (qZ HS.out hBA);have la:sb<wa.heap.size:=Nat.lt_of_lt_of_le l0 hBA.size;have a1:=fun j=>hACT.cell j
 have lb:=hACT.lt
 have XA:Hid (∀k,Xn X (w.heap.size+1) k->k<wa.heap.size):=fun k hk=>by
  rcases hk with h|h
  ·exact Nat.lt_of_lt_of_le (HX.out k h) HBA.out.size
  ·rw[h];exact hANS.lt
 have b1:=fun j=>(World.cell?_of_block (a:=⟨sb,j,none⟩) (hBA.block sb l0)).trans (b0 j)
 clear hwa hBA hANS hACT b0;have nb0:=aA (show w.heap.size<=w.heap.size+1 by omega)
 obtain⟨nb,hnb⟩:∃nb,nb=w.heap.size+1:=⟨_,rfl⟩;obtain⟨ab,hab⟩:∃ab,ab=w.heap.size:=⟨_,rfl⟩;have hns:nb≠sb:=by omega
 have hna:¬ab=nb:=by omega
 have hnc:¬nb=ab:=by omega
 have hbs:ab≠sb:=by omega
 rw[<-hnb] at ANS SA XA nb0 ⊢;rw[<-hab] at a1 lb ACT ⊢;clear hnb hab;clear a1 lb
 go_wp2_with (first
  |(go_at_call 36;refine(con.out _ (by exact HBA.out)).mono ?_;rintro e w1 ⟨hb,kv,L,he,hbf,hL⟩;obtain⟨kg,kc,ekv,-⟩:=hbf.bytes;subst ekv;have HB1:Hid (Below wa.heap.size wa w1):=hb;have CB:=aA (ql0 (.inl HB.out) (SA.out.next hb) (KpX.new hbf hL XA.out));clear hbf hL hb con;subst he;obtain⟨kn,hkn⟩:∃kn,(encB m.ss m.f L).length=kn:=⟨_,rfl⟩;rw[hkn] at CB ⊢;clear hkn)
  |(go_at_call 67;refine CB.out.mono ?_;rintro e w2 ⟨he,hk,hs⟩;simp only[ansV,zro] at he;subst he;have R2:=aA (qC ANS.out HB1.out hk hns);have r2:=fun j=>R2.out.cell j;have e2:=fun j=>R2.out.frozen j;have l2:=R2.out.lt;have HK:=aA hk;have HS2:=aA hs;clear hk hs CB))
 refine bodyPost_ret (v:=ansV 0 zro none 0 0) (by simp[ansV,zro,results,Tryz.results39,go_sem,r2]) rfl ⟨none,0,rfl,?_,?_,.inl rfl,by simp⟩
 ·exact rV (((Kept.of_below HBA.out).trans (Kept.of_below HB1.out)).trans HK.out) (.inr nb0.out) _ _ _ _ _ _ _ _
 ·exact yR HS2.out hns _ _ _ _ _ _ _ _

set_option maxRecDepth 20000 in
set_option maxHeartbeats 1000000 in
theorem qpa(hZ:SzAt w)(hsb:X sb)(hX:∀k,X k->k<w.heap.size)(hS:StX X w sb m s){x:ByteArray}{t z n v:Int}(hm:m.pts.length<=500):
  Calls Tryz.prog 39 #[.pointer (some ⟨sb,0,none⟩),.agg #[.int .i64 3,.string x,.int .i64 t,.int .i64 z,.int .i64 n,.int .i64 v]] w (DoTo X sb (m,s,⟨(sumM m x t z).2,(sumM m x t z).1,[]⟩) w):=by
 have HS:=aA hS;have l0:=hS.lt;have HX:=aA hX;have HB:=aA hsb;obtain⟨A0,C0,v0,v1,v2,K,h⟩:=hS;have b0:=fun j=>h.box.cell j
 have con:=aA fun W (hW:Below w.heap.size w W)=>qik (m:=m) (x:=x) (a:=t) (b:=z) (hZ.below hW) (h.at.up hW) h.kb (by omega)
 obtain⟨r,hr⟩:∃r,sumM m x t z=r:=⟨_,rfl⟩;rw[hr] at con ⊢;clear h hr hX hsb hZ;obtain⟨⟨g0,g1,g2,g3,g4,g5⟩,g6⟩:=r

 obtain⟨A1,C1,p0,r0⟩:=v0;obtain⟨A2,C2,p1,r1⟩:=v1;obtain⟨A3,C3,p2,r2⟩:=v2;simp only[aJ] at b0 con
 go_enter Tryz.func39,Tryz.ntmps39
 go_upto_region 8 with fail;obtain⟨wa,hwa⟩:∃wa,wa=(w.alloc (.cells #[.int .i64 3,.string x,.int .i64 t,.int .i64 z,.int .i64 n,.int .i64 v] 26)).alloc (.cells #[.int .i64 0,.int .i64 0,.int .i64 0,.int .i64 0,.int .i64 0,.int .i64 0,.int .i64 0,.slice none 0 0] 45):=⟨_,rfl⟩;have D0:=qY w [.int .i64 3,.string x,.int .i64 t,.int .i64 z,.int .i64 n,.int .i64 v];simp only[List.toArray] at D0;rw[<-hwa] at D0 ⊢;obtain⟨hBA,hACT,hANS⟩:=D0;have HBA:=aA hBA;have ANS:=aA hANS;have ACT:=aA hACT;have SA:=aA (qZ HS.out hBA);have la:sb<wa.heap.size:=Nat.lt_of_lt_of_le l0 hBA.size;have a1:=fun j=>hACT.cell j
 have lb:=hACT.lt
 have XA:Hid (∀k,Xn X (w.heap.size+1) k->k<wa.heap.size):=fun k hk=>by
  rcases hk with h|h
  ·exact Nat.lt_of_lt_of_le (HX.out k h) HBA.out.size
  ·rw[h];exact hANS.lt
 have b1:=fun j=>(World.cell?_of_block (a:=⟨sb,j,none⟩) (hBA.block sb l0)).trans (b0 j)
 clear hwa hBA hANS hACT b0;have nb0:=aA (show w.heap.size<=w.heap.size+1 by omega)
 obtain⟨nb,hnb⟩:∃nb,nb=w.heap.size+1:=⟨_,rfl⟩;obtain⟨ab,hab⟩:∃ab,ab=w.heap.size:=⟨_,rfl⟩;have hns:nb≠sb:=by omega
 have hna:¬ab=nb:=by omega
 have hnc:¬nb=ab:=by omega
 have hbs:ab≠sb:=by omega
 rw[<-hnb] at ANS SA XA nb0 ⊢;rw[<-hab] at a1 lb ACT ⊢;clear hnb hab;have DB:Hid (∀o:Obj,Below wa.heap.size wa (wa.alloc o).drew):=fun o=>((Below.refl _ _).alloc (Nat.le_refl _) o).drew
 have nbl:nb<wa.heap.size:=ANS.out.lt;have nb2:¬nb=wa.heap.size:=by omega
 have nb3:¬wa.heap.size=nb:=by omega
 have ab2:¬ab=wa.heap.size:=by omega
 have ab3:¬wa.heap.size=ab:=by omega
 refine vM (by simp only[qcy];rfl) ?_
 go_region_held3 (fun w'=>w'.cell? ⟨ab,1,none⟩=some (.string x)/\w'.cell? ⟨ab,2,none⟩=some (.int .i64 t)/\w'.cell? ⟨ab,3,none⟩=some (.int .i64 z)) (go_keep) (first
  |(go_at_call 65;refine(con.out _ (by with_reducible exact HBA.out.drew)).mono ?_;rintro e w1 ⟨he,hb⟩;have HB1:Hid (Below wa.heap.size wa w1):=aC (Below.refl _ _).drew (Nat.le_refl _) hb;have A1r:=ACT.out.below HB1.out lb;have a11:=A1r.cell 1;have a12:=A1r.cell 2;have a13:=A1r.cell 3;have R2:=aA (ANS.out.below HB1.out ANS.out.lt);have r2:=fun j=>R2.out.cell j;have e2:=fun j=>R2.out.frozen j;have l2:=R2.out.lt;have m3:=hb.size;clear hb con;subst he)
  |(go_at_call 65;refine(con.out _ (by with_reducible exact aC HBA.out (Nat.le_refl _) (DB.out _))).mono ?_;rintro e w1 ⟨he,hb⟩;have HB1:Hid (Below wa.heap.size wa w1):=aC (DB.out _) (Nat.le_refl _) hb;have A1r:=ACT.out.below HB1.out lb;have a11:=A1r.cell 1;have a12:=A1r.cell 2;have a13:=A1r.cell 3;have R2:=aA (ANS.out.below HB1.out ANS.out.lt);have r2:=fun j=>R2.out.cell j;have e2:=fun j=>R2.out.frozen j;have l2:=R2.out.lt;have T2:=aA (qqk hb);have t2:=fun j=>T2.out.cell j;have u2:=fun j=>T2.out.frozen j;have m2:=T2.out.lt;clear hb con;subst he))
 all_goals
  have hbe:=aC HBA.out (Nat.le_refl _) HB1.out;have hnw:=nb0.out;clear A1r a1 b1 a11 a12 a13 r2 e2 l2
  first
   |(obtain⟨wz,hwz⟩:∃wz,wz=w1.alloc (.cells #[.int .i64 g0,.int .i64 g1,.int .i64 g2,.int .i64 g3,.int .i64 g4,.int .i64 g5] 42):=⟨_,rfl⟩
     rw[<-hwz];have TZ:RowL wz w1.heap.size 42 [.int .i64 g0,.int .i64 g1,.int .i64 g2,.int .i64 g3,.int .i64 g4,.int .i64 g5]:=by rw[hwz];exact aG w1 [.int .i64 g0,.int .i64 g1,.int .i64 g2,.int .i64 g3,.int .i64 g4,.int .i64 g5] _
     have AZ:RowL wz nb 45 [.int .i64 0,.int .i64 0,.int .i64 0,.int .i64 0,.int .i64 0,.int .i64 0,.int .i64 0,.slice none 0 0]:=by rw[hwz];exact R2.out.of_block (Below.heap_alloc _ _ _ R2.out.lt)
     have BZ:=aA (show Below w.heap.size w wz by rw[hwz];exact hbe.alloc hbe.size _)
     have hne:¬nb=w1.heap.size:=by have:=R2.out.lt;omega
     generalize w1.heap.size=tb at *;clear hwz nb2 nb3 ab2 ab3 nbl hbe DB m3;have tz:=fun j=>TZ.cell j
     have az:=fun j=>AZ.cell j
     have ay:=fun j=>AZ.frozen j
     have al:=AZ.lt;have tl:=TZ.lt;go_wp2_with fail;refine bodyPost_ret (v:=ansV g6 ⟨g0,g1,g2,g3,g4,g5⟩ none 0 0) (by simp[ansV,results,Tryz.results39,go_sem,az]) rfl ⟨none,0,rfl,?_,?_,.inl rfl,by simp⟩
     ·exact Kept.of_below (mM BZ.out hnw _ _ _ _ _ _ _ _)
     ·exact HS.out.next (mM BZ.out hnw _ _ _ _ _ _ _ _))
   |(obtain⟨wz,hwz⟩:∃wz,wz=st6' w1 wa.heap.size (.int .i64 g0) (.int .i64 g1) (.int .i64 g2) (.int .i64 g3) (.int .i64 g4) (.int .i64 g5):=⟨_,rfl⟩
     have TZ:RowL wz wa.heap.size 42 [.int .i64 g0,.int .i64 g1,.int .i64 g2,.int .i64 g3,.int .i64 g4,.int .i64 g5]:=by rw[hwz];exact qj1 T2.out _ _ _ _ _ _
     have AZ:RowL wz nb 45 [.int .i64 0,.int .i64 0,.int .i64 0,.int .i64 0,.int .i64 0,.int .i64 0,.int .i64 0,.slice none 0 0]:=by rw[hwz];exact qjw R2.out nb2 _ _ _ _ _ _
     have BZ:=aA (show Below w.heap.size w wz by rw[hwz];exact sV hbe HBA.out.size _ _ _ _ _ _)
     have hne:¬nb=wa.heap.size:=nb2;simp only[st6'] at hwz;rw[<-hwz];clear hwz nb2 nb3 ab2 ab3 nbl hbe DB t2 u2 m2 T2;have tz:=fun j=>TZ.cell j
     have az:=fun j=>AZ.cell j
     have ay:=fun j=>AZ.frozen j
     have al:=AZ.lt;have tl:=TZ.lt;generalize wa.heap.size=tb at *;go_wp2_with fail;refine bodyPost_ret (v:=ansV g6 ⟨g0,g1,g2,g3,g4,g5⟩ none 0 0) (by simp[ansV,results,Tryz.results39,go_sem,az]) rfl ⟨none,0,rfl,?_,?_,.inl rfl,by simp⟩
     ·exact Kept.of_below (mM BZ.out hnw _ _ _ _ _ _ _ _)
     ·exact HS.out.next (mM BZ.out hnw _ _ _ _ _ _ _ _))

set_option maxRecDepth 20000 in
set_option maxHeartbeats 1000000 in
theorem qpe(hZ:SzAt w)(hsb:X sb)(hX:∀k,X k->k<w.heap.size)(hS:StX X w sb m s){x:ByteArray}{t z n v:Int}(hm:m.pts.length<=500)(hl:(askM m x n t z).1.length<=500):
  Calls Tryz.prog 39 #[.pointer (some ⟨sb,0,none⟩),.agg #[.int .i64 2,.string x,.int .i64 t,.int .i64 z,.int .i64 n,.int .i64 v]] w (DoTo X sb (m,s,⟨(askM m x n t z).2,zro,(askM m x n t z).1⟩) w):=by
 have HS:=aA hS;have l0:=hS.lt;have HX:=aA hX;have HB:=aA hsb;obtain⟨A0,C0,v0,v1,v2,K,h⟩:=hS;have b0:=fun j=>h.box.cell j
 have con:=aA fun W (hW:Below w.heap.size w W)=>qn6 (m:=m) (x:=x) (sz:=n) (a:=t) (b:=z) (hZ.below hW) (h.at.up hW) h.kb hm
 obtain⟨r,hr⟩:∃r,askM m x n t z=r:=⟨_,rfl⟩;rw[hr] at con hl ⊢;obtain⟨R,g6⟩:=r;have HL:=aA hl;clear h hr hX hsb hZ hl

 obtain⟨A1,C1,p0,r0⟩:=v0;obtain⟨A2,C2,p1,r1⟩:=v1;obtain⟨A3,C3,p2,r2⟩:=v2;simp only[aJ] at b0 con
 go_enter Tryz.func39,Tryz.ntmps39
 go_upto_region 5 with fail;obtain⟨wa,hwa⟩:∃wa,wa=(w.alloc (.cells #[.int .i64 2,.string x,.int .i64 t,.int .i64 z,.int .i64 n,.int .i64 v] 26)).alloc (.cells #[.int .i64 0,.int .i64 0,.int .i64 0,.int .i64 0,.int .i64 0,.int .i64 0,.int .i64 0,.slice none 0 0] 45):=⟨_,rfl⟩;have D0:=qY w [.int .i64 2,.string x,.int .i64 t,.int .i64 z,.int .i64 n,.int .i64 v];simp only[List.toArray] at D0;rw[<-hwa] at D0 ⊢;obtain⟨hBA,hACT,hANS⟩:=D0;have HBA:=aA hBA;have ANS:=aA hANS;have ACT:=aA hACT;have SA:=aA (qZ HS.out hBA);have la:sb<wa.heap.size:=Nat.lt_of_lt_of_le l0 hBA.size;have a1:=fun j=>hACT.cell j
 have lb:=hACT.lt
 have XA:Hid (∀k,Xn X (w.heap.size+1) k->k<wa.heap.size):=fun k hk=>by
  rcases hk with h|h
  ·exact Nat.lt_of_lt_of_le (HX.out k h) HBA.out.size
  ·rw[h];exact hANS.lt
 have b1:=fun j=>(World.cell?_of_block (a:=⟨sb,j,none⟩) (hBA.block sb l0)).trans (b0 j)
 clear hwa hBA hANS hACT b0;have nb0:=aA (show w.heap.size<=w.heap.size+1 by omega)
 obtain⟨nb,hnb⟩:∃nb,nb=w.heap.size+1:=⟨_,rfl⟩;obtain⟨ab,hab⟩:∃ab,ab=w.heap.size:=⟨_,rfl⟩;have hns:nb≠sb:=by omega
 have hna:¬ab=nb:=by omega
 have hnc:¬nb=ab:=by omega
 have hbs:ab≠sb:=by omega
 rw[<-hnb] at ANS SA XA nb0 ⊢;rw[<-hab] at a1 lb ACT ⊢;clear hnb hab;refine vM (by simp only[qcr];rfl) ?_
 go_region_held3 (fun w'=>w'.cell? ⟨ab,1,none⟩=some (.string x)/\w'.cell? ⟨ab,2,none⟩=some (.int .i64 t)/\w'.cell? ⟨ab,3,none⟩=some (.int .i64 z)/\w'.cell? ⟨ab,4,none⟩=some (.int .i64 n)) (go_keep) (first
  |(go_at_call 64;refine(con.out _ (by exact HBA.out.drew)).mono ?_;rintro e w1 ⟨hb,A4,C4,he,-,hrow⟩;have HB1:Hid (Below wa.heap.size wa w1):=aC (Below.refl _ _).drew (Nat.le_refl _) hb;have HR:=aA hrow;have A1r:=(RowL.of_block (w':=wa.drew) ACT.out rfl).below hb lb;have a11:=A1r.cell 1;have a12:=A1r.cell 2;have a13:=A1r.cell 3;have a14:=A1r.cell 4;have R2:=aA ((RowL.of_block (w':=wa.drew) ANS.out rfl).below hb ANS.out.lt);have r2:=fun j=>R2.out.cell j;have e2:=fun j=>R2.out.frozen j;have l2:=R2.out.lt;clear hb con hrow;subst he;obtain⟨rn,hrn⟩:∃rn,R.length=rn:=⟨_,rfl⟩;have HN:=aA hrn;rw[hrn];clear hrn))
 go_wp2_with fail;have hbe:=aC HBA.out (Nat.le_refl _) HB1.out;refine bodyPost_ret (v:=ansV g6 zro A4 rn C4) (by simp[ansV,zro,results,Tryz.results39,go_sem,r2]) rfl ⟨A4,C4,by rw[<-HN.out],?_,?_,?_,HL.out⟩
 ·exact Kept.of_below (mM hbe nb0.out _ _ _ _ _ _ _ _)
 ·exact HS.out.next (mM hbe nb0.out _ _ _ _ _ _ _ _)
 ·exact qny (RowX.new HR.out XA.out) _ _ _ _ _ _ _ _

set_option maxRecDepth 20000 in
set_option maxHeartbeats 1000000 in
theorem qnm(hS:StX X w sb m s){x:ByteArray}{k t z n v:Int}(h1:k≠1)(h2:k≠2)(h3:k≠3)(h4:k≠4)(h5:k≠5)(h6:k≠6):
  Calls Tryz.prog 39 #[.pointer (some ⟨sb,0,none⟩),.agg #[.int .i64 k,.string x,.int .i64 t,.int .i64 z,.int .i64 n,.int .i64 v]] w (DoTo X sb (m,s,⟨3,zro,[]⟩) w):=by
 have HS:=aA hS;clear hS;have k1:(k==1)=false:=by simpa using h1
 have k2:(k==2)=false:=by simpa using h2
 have k3:(k==3)=false:=by simpa using h3
 have k4:(k==4)=false:=by simpa using h4
 have k5:(k==5)=false:=by simpa using h5
 have k6:(k==6)=false:=by simpa using h6
 go_enter Tryz.func39,Tryz.ntmps39
 go_wp2_with fail;refine bodyPost_ret (v:=ansV 3 zro none 0 0) (by simp[ansV,zro,results,Tryz.results39,go_sem]) rfl ⟨none,0,rfl,?_,?_,.inl rfl,by simp⟩
 ·exact((Kept.refl [sb] w).alloc _).alloc _
 ·exact HS.out.next (((Below.refl _ _).alloc (Nat.le_refl _) _).alloc (by simp) _)

theorem qo8(m:Mc)(x:ByteArray)(sz a b:Int)(hp:∀p∈m.pts,∃f,Pt.ok f p):(askM m x sz a b).1.length<=m.pts.length:=by
 unfold askM
 split
 ·simp
 ·split
  ·split
   ·simp only[List.length_map];refine Nat.le_trans (List.length_filter_le _ _) ?_;unfold bkL;cases hL:allL (m.pts.map (ptBk m.ss sz)) with
    |none=>simp
    |some L=>
     have:=(pG (fun y hy=>by
      obtain⟨p,hp',rfl⟩:=List.mem_map.1 hy;obtain⟨f,hf⟩:=hp p hp';exact wJ hf) hL).2.1
     simpa using this
   ·simp
  ·simp

theorem qqs(hZ:SzAt w)(hsb:X sb)(hX:∀k,X k->k<w.heap.size)(hS:StX X w sb m s)(a:Ac)(hx:a.s.size<=140737488351232)(hm:m.pts.length<=500):
  Calls Tryz.prog 39 #[.pointer (some ⟨sb,0,none⟩),.agg #[.int .i64 a.k,.string a.s,.int .i64 a.t,.int .i64 a.z,.int .i64 a.n,.int .i64 a.v]] w (DoTo X sb (actM m s a) w):=by
 obtain⟨k,x,t,z,n,v⟩:=a
 have hp:∀p∈m.pts,∃f,Pt.ok f p:=by
  obtain⟨_,_,_,_,_,_,h⟩:=hS;obtain⟨_,_,_,q⟩:=h.kb;exact fun p hp=>⟨_,(q.pt p hp).2⟩
 unfold actM
 by_cases h1:k=1
 ·subst h1;exact qp4 hZ hsb hX hS hx hm
 ·by_cases h2:k=2
  ·subst h2;exact qpe hZ hsb hX hS hm (Nat.le_trans (qo8 _ _ _ _ _ hp) hm)
  ·by_cases h3:k=3
   ·subst h3;exact qpa hZ hsb hX hS hm
   ·by_cases h4:k=4
    ·subst h4;exact qq6 hZ hsb hX hS hm
    ·by_cases h5:k=5
     ·subst h5;exact qmk hZ hsb hX hS hm
     ·by_cases h6:k=6
      ·subst h6;exact qmr hZ hsb hX hS
      ·simp only[h1,h2,h3,h4,h5,h6,if_false];exact qnm hS h1 h2 h3 h4 h5 h6
end

end
end Go.Proofs.YtlojfgdpmaigmagGreatDoor

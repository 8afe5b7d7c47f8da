/- Names with one more, and what is known of a point: base.namesWith, base.pointFor. -/
import Derived.Test.YtlojfgdpmaigmagGreatDoorP27
import Derived.Test.YtlojfgdpmaigmagGreatDoorBaseCopyWalk
import Derived.Test.YtlojfgdpmaigmagGreatDoorP03
import Derived.Test.YtlojfgdpmaigmagGreatDoorP39
import Derived.Test.YtlojfgdpmaigmagGreatDoorP26
import Derived.Deep.RegionHeld3
import Derived.Test.YtlojfgdpmaigmagGreatDoorP38
import Derived.Deep.DeepCutAuto
namespace Go.Proofs.YtlojfgdpmaigmagGreatDoor
section
open Go.RowKit Plain Go.Shelf

theorem q6c(A:Option Addr)(C:Nat)(ss:List ByteArray)(x:ByteArray)(w:World)(h:dW w.heap.size w A ss):
  Calls Tryz.prog 105 #[.slice A ss.length C,.string x] w fun e w'=>e=.returned (.bool (Lib.containsS ss x))/\w'=w:=by
 have hz:=h.z;cases ss with
 |nil=>exact Any.slices_Contains_string_empty Tryz.containsS A C x w
 |cons s r=>
  obtain⟨b,o,rfl,_,_,hc⟩:=h.row.str (k:=0) (by simp)
  have q:=Any.slices_Contains_string Tryz.containsS b o (s::r).length C (s::r) x w (Nat.le_refl _) (by omega) hc
  rw[List.take_length] at q;exact q

theorem qh4(ss:List ByteArray)(s:ByteArray):strs (ss++[s])=strs ss++[.string s]:=by
 unfold strs;rw[List.map_append]
 rfl

set_option maxRecDepth 20000 in
set_option maxHeartbeats 1000000 in
theorem q4v(A:Option Addr)(C:Nat)(ss:List ByteArray)(s:ByteArray)(w:World)(h:dW w.heap.size w A ss)(hs:s.size<=140737488351232)(hl:ss.length<=16):
  Calls Tryz.prog 85 #[.slice A ss.length C,.string s] w fun e w'=>∃v,e=.returned v/\w'.ownsRow w.heap.size 9 1 v (bH ss s).length (strs (bH ss s))/\Below w.heap.size w w':=by
 obtain⟨i0,hi0,hz0,hz1,hz2⟩:=info_parts q8p;have fn:=aA (q0a A C ss w h);have cs:=aA fun(VA:Option Addr) (VC:Nat) (W:World) (hS:dW W.heap.size W VA ss)=>q6c VA VC ss s W hS
 by_cases hi:Lib.idxOfS ss s<0
 ·have hcn:Lib.containsS ss s=false:=by
   unfold Lib.containsS
   simpa using hi
  have HW:Hid (bH ss s=ss++[s]):=if_pos hi;rw[HW.out];rw[hcn] at cs;clear hi hcn HW
  go_enter Tryz.func85,Tryz.ntmps85
  go_wp2_with (first
   |(go_at_call 100;refine fn.out.mono ?_;rintro e w1 ⟨v,rfl,hov,hb1⟩;obtain⟨VA,VC,hvv,-,-,-,hrow⟩:=aN hov;subst hvv)
   |(go_at_call 105;refine(cs.out VA VC _ ⟨hrow,h.z,h.each⟩).mono ?_;rintro e w2 ⟨rfl,hw2⟩;subst w2)
   |(go_at_call 114;refine(q5k s _ hs).mono ?_;rintro e w3 ⟨rfl,hb3⟩;have hov3:w3.ownsRow w.heap.size 9 1 (.slice VA ss.length VC) ss.length (strs ss):=aW hov (fun k hk=>hb3.block k (hov.lt k hk).2);have hw3:Below w.heap.size w w3:=hb1.trans (hb3.mono hb1.size);have z3:=hw3.size)
   |(at_builtin;refine wpList_append_own _ rfl _ _ 29 rfl w.heap.size 9 i0 _ 1 16 Tryz.underlying29 hi0 hz0 hz1 hz2 rfl (by decide) (.slice VA ss.length VC) ss.length (strs ss) rfl (hov3.alloc _) ⟨w3.heap.size,0,none⟩ 1 1 [.string s] rfl rfl (q8w w3 s) (by intro u hu;simp at hu;subst hu;rfl) (by unfold maxLen;omega) (by omega) (by simp;omega) ?_;intro v4 w4 hown4 hgrow4 _))
  go_ret;exact⟨_,rfl,by rw[qh4];simpa using hown4,(hw3.alloc (by omega) _).grown hgrow4 (by simp;omega) (fun k hk=>(hov3.lt k hk).1)⟩
 ·have hcn:Lib.containsS ss s=true:=by
   unfold Lib.containsS;simp;omega
  have HW:Hid (bH ss s=ss):=if_neg hi;rw[HW.out];rw[hcn] at cs;clear hi hcn HW
  go_enter Tryz.func85,Tryz.ntmps85
  go_wp2_with (first
   |(go_at_call 100;refine fn.out.mono ?_;rintro e w1 ⟨v,rfl,hov,hb1⟩;obtain⟨VA,VC,hvv,-,-,-,hrow⟩:=aN hov;subst hvv)
   |(go_at_call 105;refine(cs.out VA VC _ ⟨hrow,h.z,h.each⟩).mono ?_;rintro e w2 ⟨rfl,hw2⟩;subst w2))
  go_ret;exact⟨_,rfl,hov,hb1⟩

def ofOk(t v:Int):Bool:=inB t 0 1048575&&inB v (-1000000) 1000000
def ofR(t v:Int):Ru:=if ofOk t v=true then one t v else zro
def ofC(t v:Int):Int:=if ofOk t v=true then 0 else 2

theorem q2r(t v:Int)(w:World):
  Calls Tryz.prog 14 #[.int .i64 t,.int .i64 v] w fun e w'=>e=.returned (.tuple #[.agg #[.int .i64 (ofR t v).c,.int .i64 (ofR t v).s,.int .i64 (ofR t v).lo,.int .i64 (ofR t v).hi,.int .i64 (ofR t v).t,.int .i64 (ofR t v).l],.int .i64 (ofC t v)])/\Below w.heap.size w w':=by
 cases h1:inB t 0 1048575 with
 |false=>
  have e:ofOk t v=false:=by unfold ofOk;rw[h1];rfl
  simp only[ofR,ofC,e];exact qqt t v w h1
 |true=>
  cases h2:inB v (-1000000) 1000000 with
  |false=>
   have e:ofOk t v=false:=by unfold ofOk;rw[h1,h2];rfl
   simp only[ofR,ofC,e];exact qpb t v w h1 h2
  |true=>
   have e:ofOk t v=true:=by unfold ofOk;rw[h1,h2];rfl
   simp only[ofR,ofC,e];exact qpl t v w h1 h2

def ptC(s:ByteArray)(t v f:Int):Int:=if gW s=true then(if ofOk t v=true then(if t<f then 8 else 0) else 2) else 4
def ptR(s:ByteArray)(t v f:Int):Ru:=if ptC s t v f=0 then one t v else zro

theorem q4s{s:ByteArray}{t v f:Int}(h:ptC s t v f=0):gW s=true/\(0<=t/\t<=1048575)/\(-1000000<=v/\v<=1000000)/\f<=t:=by
 unfold ptC at h
 split at h
 ·rename_i h1
  split at h
  ·rename_i h2
   unfold ofOk at h2;rw[Bool.and_eq_true] at h2
   split at h
   ·cases h
   ·exact⟨h1,(fH _ _ _).1 h2.1,(fH _ _ _).1 h2.2,by omega⟩
  ·cases h
 ·cases h

def zb8:List Value:=[.slice none 0 0,.slice none 0 0,.int .i64 0,.slice none 0 0,.int .i64 0,.slice none 0 0,.int .i64 0,.int .i64 0]
def ptV(s:ByteArray)(t v:Int):List Value:=[.string s,.int .i64 t,.int .i64 v]

theorem qns(v:World)(l1 l2 l3:List Value)(t1 t2 t3:TypeId):
  RowL (((v.alloc (.cells l1.toArray t1)).alloc (.cells l2.toArray t2)).alloc (.cells l3.toArray t3)) v.heap.size t1 l1/\RowL (((v.alloc (.cells l1.toArray t1)).alloc (.cells l2.toArray t2)).alloc (.cells l3.toArray t3)) (v.heap.size+1) t2 l2/\
  RowL (((v.alloc (.cells l1.toArray t1)).alloc (.cells l2.toArray t2)).alloc (.cells l3.toArray t3)) (v.heap.size+1+1) t3 l3/\Below v.heap.size v (((v.alloc (.cells l1.toArray t1)).alloc (.cells l2.toArray t2)).alloc (.cells l3.toArray t3)):=by
 have s1:(v.alloc (.cells l1.toArray t1)).heap.size=v.heap.size+1:=by simp
 have s2:((v.alloc (.cells l1.toArray t1)).alloc (.cells l2.toArray t2)).heap.size=v.heap.size+1+1:=by simp
 have r1:=aG v l1 t1;have r2:=aG (v.alloc (.cells l1.toArray t1)) l2 t2;rw[s1] at r2;have r3:=aG ((v.alloc (.cells l1.toArray t1)).alloc (.cells l2.toArray t2)) l3 t3;rw[s2] at r3;refine⟨?_,?_,r3,(((Below.refl _ _).alloc (Nat.le_refl _) _).alloc (by omega) _).alloc (by omega) _⟩
 ·exact(r1.of_block (Below.heap_alloc _ _ _ (by omega))).of_block (Below.heap_alloc _ _ _ (by omega))
 ·exact r2.of_block (Below.heap_alloc _ _ _ (by omega))

theorem sZ{B:Nat}{w0 w:World}(hb:Below B w0 w){m:Nat}(hm:B<=m)(a b c d e f:Value):Below B w0 ((((((w.setCell ⟨m,0,none⟩ a).setCell ⟨m,1,none⟩ b).setCell ⟨m,2,none⟩ c).setCell ⟨m,3,none⟩ d).setCell ⟨m,4,none⟩ e).setCell ⟨m,5,none⟩ f):=
 fG (fG (fG (fG (fG (fG hb hm _ _) hm _ _) hm _ _) hm _ _) hm _ _) hm _ _

def ruT(r:Ru)(c:Int):Value:=.tuple #[.agg #[.int .i64 r.c,.int .i64 r.s,.int .i64 r.lo,.int .i64 r.hi,.int .i64 r.t,.int .i64 r.l],.int .i64 c]

set_option maxRecDepth 20000 in
set_option maxHeartbeats 1000000 in
theorem q7i(A:Option Addr)(C:Nat)(ss:List ByteArray)(t0 t1 t2:TR)(f:Int)(s:ByteArray)(t v:Int)(w:World):
  Calls Tryz.prog 84 #[.agg (aJ A C ss t0 t1 t2 f).toArray,.agg #[.string s,.int .i64 t,.int .i64 v]] w fun e w'=>e=.returned (ruT (ptR s t v f) (ptC s t v f))/\Below w.heap.size w w':=by
 have nm:=fun W=>qcl s W
 have oo:=fun W=>q2r t v W
 obtain⟨A0,C0,p0,r0⟩:=t0;obtain⟨A1,C1,p1,r1⟩:=t1;obtain⟨A2,C2,p2,r2⟩:=t2;simp only[aJ];have HW:=aA (qns w [.slice A ss.length C,.slice A0 p0.length C0,.int .i64 r0,.slice A1 p1.length C1,.int .i64 r1,.slice A2 p2.length C2,.int .i64 r2,.int .i64 f] (ptV s t v) (ruV zro) 35 67 42);cases hn:gW s with
 |false=>
  have e1:ptC s t v f=4:=by simp[ptC,hn]
  have e2:ptR s t v f=zro:=by simp[ptR,e1]
  rw[e1,e2];rw[hn] at nm
  go_enter Tryz.func84,Tryz.ntmps84
  go_wp2_with (first|(go_at_call 104;refine(nm _).mono ?_;rintro e w1 ⟨rfl,hw1⟩;subst w1))
  exact bodyPost_ret (v:=ruT zro 4) (by simp[ruT,zro,results,Tryz.results84,go_sem]) rfl ⟨rfl,HW.out.2.2.2⟩
 |true=>
  rw[hn] at nm;cases ho:ofOk t v with
  |false=>
   have e1:ptC s t v f=2:=by simp[ptC,hn,ho]
   have e2:ptR s t v f=zro:=by simp[ptR,e1]
   rw[e1,e2];simp only[ofR,ofC,ho,Bool.false_eq_true,if_false] at oo
   go_enter Tryz.func84,Tryz.ntmps84
   go_upto_region 5 with(first
    |(go_at_call 104;refine(nm _).mono ?_;rintro e w1 ⟨rfl,hw1⟩;subst w1)
    |(go_at_call 14;refine(oo _).mono ?_;rintro e w2 ⟨rfl,hb2⟩;have ro:=aA (HW.out.2.2.1.below hb2 HW.out.2.2.1.lt);have hw2:=aA (aC HW.out.2.2.2 (Nat.le_refl _) hb2);have d:=fun j=>ro.out.cell j;simp only[ruV,zro] at d;have fz:=fun j=>ro.out.frozen j;have l2:=ro.out.lt))
   repeat go_step
   exact bodyPost_ret (v:=ruT zro 2) (by simp[ruT,zro,results,Tryz.results84,go_sem,d,l2]) rfl ⟨rfl,(sZ hw2.out (by omega) _ _ _ _ _ _).alloc (by have:=hw2.out.size;simp;omega) _⟩
  |true=>
   simp only[ofR,ofC,ho,if_true] at oo
   by_cases hf:t<f
   ·have e1:ptC s t v f=8:=by simp[ptC,hn,ho,hf]
    have e2:ptR s t v f=zro:=by simp[ptR,e1]
    rw[e1,e2]
    go_enter Tryz.func84,Tryz.ntmps84
    go_upto_region 7 with(first
     |(go_at_call 104;refine(nm _).mono ?_;rintro e w1 ⟨rfl,hw1⟩;subst w1)
     |(go_at_call 14;refine(oo _).mono ?_;rintro e w2 ⟨rfl,hb2⟩;have rb:=aA (HW.out.1.below hb2 HW.out.1.lt);have rp:=aA (HW.out.2.1.below hb2 HW.out.2.1.lt);have ro:=aA (HW.out.2.2.1.below hb2 HW.out.2.2.1.lt);have hw2:=aA (aC HW.out.2.2.2 (Nat.le_refl _) hb2);have d:=fun j=>ro.out.cell j;simp only[ruV,zro] at d;have fz:=fun j=>ro.out.frozen j;have l2:=ro.out.lt;have l3:=rb.out.lt;have l4:=rp.out.lt;have db:=fun j=>rb.out.cell j;have dp:=fun j=>rp.out.cell j;simp only[ptV] at dp))
    repeat go_step
    exact bodyPost_ret (v:=ruT zro 8) (by simp[ruT,zro,results,Tryz.results84,go_sem,d,l2]) rfl ⟨rfl,(sZ hw2.out (by omega) _ _ _ _ _ _).alloc (by have:=hw2.out.size;simp;omega) _⟩
   ·have e1:ptC s t v f=0:=by simp[ptC,hn,ho,hf]
    have e2:ptR s t v f=one t v:=by simp[ptR,e1]
    rw[e1,e2]
    go_enter Tryz.func84,Tryz.ntmps84
    go_upto_region 8 with(first
     |(go_at_call 104;refine(nm _).mono ?_;rintro e w1 ⟨rfl,hw1⟩;subst w1)
     |(go_at_call 14;refine(oo _).mono ?_;rintro e w2 ⟨rfl,hb2⟩;have rb:=aA (HW.out.1.below hb2 HW.out.1.lt);have rp:=aA (HW.out.2.1.below hb2 HW.out.2.1.lt);have ro:=aA (HW.out.2.2.1.below hb2 HW.out.2.2.1.lt);have hw2:=aA (aC HW.out.2.2.2 (Nat.le_refl _) hb2);have d:=fun j=>ro.out.cell j;simp only[ruV,zro] at d;have fz:=fun j=>ro.out.frozen j;have l2:=ro.out.lt;have l3:=rb.out.lt;have l4:=rp.out.lt;have db:=fun j=>rb.out.cell j;have dp:=fun j=>rp.out.cell j;simp only[ptV] at dp))
    repeat go_step
    exact bodyPost_ret (v:=ruT (one t v) 0) (by simp[ruT,one,results,Tryz.results84,go_sem,d,l2]) rfl ⟨rfl,(sZ hw2.out (by omega) _ _ _ _ _ _).alloc (by have:=hw2.out.size;simp;omega) _⟩

def dG(c:Int):Value:=.tuple #[.agg #[.slice none 0 0,.slice none 0 0,.int .i64 0,.slice none 0 0,.int .i64 0,.slice none 0 0,.int .i64 0,.int .i64 0],.int .i64 c]

structure AdS(w wr:World)(L:List Value)(s:ByteArray)(t v:Int):Prop where
 below:Below w.heap.size w wr
 bb:RowL wr w.heap.size 35 L
 bp:RowL wr (w.heap.size+1) 67 (ptV s t v)
 bo:RowL wr (w.heap.size+1+1) 35 zb8

theorem AdS.next{w wr w':World}{L:List Value}{s:ByteArray}{t v:Int}(h:AdS w wr L s t v)(hb:Below wr.heap.size wr w'):AdS w w' L s t v:=
 ⟨aC h.below (Nat.le_refl _) hb,h.bb.below hb h.bb.lt,h.bp.below hb h.bp.lt,h.bo.below hb h.bo.lt⟩

theorem AdS.start(w:World)(L:List Value)(s:ByteArray)(t v:Int):AdS w (((w.alloc (.cells L.toArray 35)).alloc (.cells (ptV s t v).toArray 67)).alloc (.cells zb8.toArray 35)) L s t v:=by
 obtain⟨h1,h2,h3,h4⟩:=qns w L (ptV s t v) zb8 35 67 35;exact⟨h4,h1,h2,h3⟩

theorem AdS.set{w wr:World}{L:List Value}{s:ByteArray}{t v:Int}(h:AdS w wr L s t v){b:Nat}(hb:w.heap.size+3<=b)(i:Nat)(u:Value):AdS w (wr.setCell ⟨b,i,none⟩ u) L s t v:=by
 have far:∀k,k≠b->(wr.setCell ⟨b,i,none⟩ u).heap[k]? =wr.heap[k]? :=fun k hk=>Below.heap_setCell _ _ _ _ hk
 exact⟨fG h.below (by omega) _ _,h.bb.of_block (far _ (by omega)),h.bp.of_block (far _ (by omega)),h.bo.of_block (far _ (by omega))⟩

set_option maxRecDepth 20000 in
set_option maxHeartbeats 1000000 in
theorem qpp(L:List Value)(a0 a1 a2 a3 a4 a5 a6 a7:Value)(hL:L=[a0,a1,a2,a3,a4,a5,a6,a7])(s:ByteArray)(t v c:Int)(h0:c≠0)(w:World)
  (CK:Hid (∀W,Below w.heap.size w W->Calls Tryz.prog 55 #[.agg #[a0,a1,a2,a3,a4,a5,a6,a7]] W fun e w'=>e=.returned (.int .i64 c)/\Below W.heap.size W w')):
  Calls Tryz.prog 63 #[.agg #[a0,a1,a2,a3,a4,a5,a6,a7],.agg #[.string s,.int .i64 t,.int .i64 v]] w fun e w'=>e=.returned (dG c)/\Below w.heap.size w w':=by
 have HS:=aA (AdS.start w L s t v);subst hL;have hc':(c != 0)=true:=by simpa using h0
 have hc'':(c==0)=false:=by simpa using h0
 go_enter Tryz.func63,Tryz.ntmps63
 go_upto_region 3 with(first
  |(go_at_call 55;refine(CK.out _ HS.out.below).mono ?_;rintro e w1 ⟨rfl,hb1⟩;have H1:=aA (HS.out.next hb1);have d:=fun j=>H1.out.bo.cell j;have fz:=fun j=>H1.out.bo.frozen j;simp only[zb8] at d))
 repeat go_step
 exact bodyPost_ret (v:=dG c) (by simp[dG,results,Tryz.results63,go_sem,d]) rfl ⟨rfl,eY H1.out.below (by omega) _ _ _ _ _ _ _ _⟩

set_option maxRecDepth 20000 in
set_option maxHeartbeats 1000000 in
theorem qr1(L:List Value)(a0 a1 a2 a3 a4 a5 a6 a7:Value)(hL:L=[a0,a1,a2,a3,a4,a5,a6,a7])(s:ByteArray)(t v c:Int)(r:Ru)(h0:c≠0)(w:World)
  (CK:Hid (∀W,Below w.heap.size w W->Calls Tryz.prog 55 #[.agg #[a0,a1,a2,a3,a4,a5,a6,a7]] W fun e w'=>e=.returned (.int .i64 0)/\Below W.heap.size W w'))
  (PF:Hid (∀W,Calls Tryz.prog 84 #[.agg #[a0,a1,a2,a3,a4,a5,a6,a7],.agg #[.string s,.int .i64 t,.int .i64 v]] W fun e w'=>e=.returned (ruT r c)/\Below W.heap.size W w')):
  Calls Tryz.prog 63 #[.agg #[a0,a1,a2,a3,a4,a5,a6,a7],.agg #[.string s,.int .i64 t,.int .i64 v]] w fun e w'=>e=.returned (dG c)/\Below w.heap.size w w':=by
 have HS:=aA (AdS.start w L s t v);subst hL;have hc':(c != 0)=true:=by simpa using h0
 have hc'':(c==0)=false:=by simpa using h0
 simp only[ruT] at PF
 go_enter Tryz.func63,Tryz.ntmps63
 go_upto_region 6 with(first
  |(go_at_call 55;refine(CK.out _ HS.out.below).mono ?_;rintro e w1 ⟨rfl,hb1⟩;have H1:=aA (HS.out.next hb1);have d1:=fun j=>H1.out.bb.cell j;have d2:=fun j=>H1.out.bp.cell j;simp only[ptV] at d2)
  |(go_at_call 84;refine(PF.out _).mono ?_;rintro e w2 ⟨rfl,hb2⟩;clear d1 d2;have H2:=aA (H1.out.next hb2);have d:=fun j=>H2.out.bo.cell j;have fz:=fun j=>H2.out.bo.frozen j;have l2:=H2.out.bo.lt;simp only[zb8] at d))
 repeat go_step
 exact bodyPost_ret (v:=dG c) (by simp[dG,results,Tryz.results63,go_sem,d,l2]) rfl ⟨rfl,(eY H2.out.below (by omega) _ _ _ _ _ _ _ _).alloc (by have:=H2.out.below.size;simp[set8];omega) _⟩

def PutP(Bad:Int->Prop)(Fine:List Nd->Int->Prop)(base:Nat)(w:World)(XA:Option Addr)(xl XC:Nat)(sr c:Int):Prop:=
 (c≠0/\Bad c)\/(c=0/\∃(g:Nat) (qs:List PN),XA=some ⟨g,0,none⟩/\xl=qs.length/\NT base w g XC qs/\Fine (qs.map PN.nd) sr)

def PutC(Bad:Int->Prop)(Fine:List Nd->Int->Prop)(w:World)(e:Ending)(w':World):Prop:=
 ∃(XA:Option Addr) (xl XC:Nat) (sr c:Int),e=.returned (.tuple #[.agg #[.slice XA xl XC,.int .i64 sr],.int .i64 c])/\Below w.heap.size w w'/\PutP Bad Fine w.heap.size w' XA xl XC sr c

def PutM(Bad:Int->Prop)(Fine:List Nd->Int->Prop)(k:Int)(wr:World)(v13 v14 v50:Value)(wc:World):Prop:=
 ∃(mb:Nat) (XA:Option Addr) (xl XC:Nat) (sr c:Int),v13=.pointer (some ⟨mb,0,none⟩)/\v14=.int .i64 c/\v50=.int .i64 k/\wr.heap.size<=mb/\Below wr.heap.size wr wc/\RowL wc mb 32 [.slice XA xl XC,.int .i64 sr]/\PutP Bad Fine wr.heap.size wc XA xl XC sr c

theorem PutP.keep{Bad:Int->Prop}{Fine:List Nd->Int->Prop}{base base':Nat}{w w':World}{XA:Option Addr}{xl XC:Nat}{sr c:Int}(h:PutP Bad Fine base w XA xl XC sr c)(hb:base'<=base)(hk:∀k,base<=k->k<w.heap.size->w'.heap[k]? =w.heap[k]?):PutP Bad Fine base' w' XA xl XC sr c:=by
 rcases h with h|⟨h0,g,qs,h1,h2,h3,h4⟩
 ·exact .inl h
 ·exact .inr ⟨h0,g,qs,h1,h2,(h3.of_blocks fun k hk'=>hk k (h3.lt k hk').1 (h3.lt k hk').2).low hb,h4⟩

theorem q5b{Bad:Int->Prop}{Fine:List Nd->Int->Prop}{wr w3:World}{XA:Option Addr}{xl XC:Nat}{sr c k:Int}(hb:Below wr.heap.size wr w3)(h:PutP Bad Fine wr.heap.size w3 XA xl XC sr c):
  PutM Bad Fine k wr (.pointer (some ⟨w3.heap.size,0,none⟩)) (.int .i64 c) (.int .i64 k) (w3.alloc (.cells #[.slice XA xl XC,.int .i64 sr] 32)):=
 ⟨w3.heap.size,XA,xl,XC,sr,c,rfl,rfl,rfl,hb.size,hb.alloc hb.size _,aG w3 [.slice XA xl XC,.int .i64 sr] _,h.keep (Nat.le_refl _) fun _ _ hk=>Below.heap_alloc _ _ _ hk⟩

theorem q1k{Bad:Int->Prop}{Fine:List Nd->Int->Prop}{wr w3:World}{XA:Option Addr}{xl XC:Nat}{sr c k:Int}(hb:Below (wr.heap.size+1) (wr.alloc (.cells #[.slice none 0 0,.int .i64 0] 32)).drew w3)(h:PutP Bad Fine (wr.heap.size+1) w3 XA xl XC sr c):
  PutM Bad Fine k wr (.pointer (some ⟨wr.heap.size,0,none⟩)) (.int .i64 c) (.int .i64 k) ((w3.setCell ⟨wr.heap.size,0,none⟩ (.slice XA xl XC)).setCell ⟨wr.heap.size,1,none⟩ (.int .i64 sr)):=by
 have hbw:Below wr.heap.size wr w3:=(((Below.refl wr.heap.size wr).alloc (Nat.le_refl _) _).drew).trans (hb.mono (by omega))
 have r0:RowL w3 wr.heap.size 32 [.slice none 0 0,.int .i64 0]:=((aG wr [.slice none 0 0,.int .i64 0] 32).of_block (w':=(wr.alloc (.cells #[.slice none 0 0,.int .i64 0] 32)).drew) rfl).below hb (by omega)
 exact⟨wr.heap.size,XA,xl,XC,sr,c,rfl,rfl,rfl,Nat.le_refl _,fG (fG hbw (Nat.le_refl _) _ _) (Nat.le_refl _) _ _,(r0.set 0 _).set 1 _,h.keep (by omega) fun k hk _=>(Below.heap_setCell _ _ _ _ (show k≠wr.heap.size by omega)).trans (Below.heap_setCell _ _ _ _ (show k≠wr.heap.size by omega))⟩

def fC(cb:Nat)(Fine:List Nd->Int->Prop)(w:World)(g D:Nat)(q:List PN)(s:Int):Prop:=(∃base,cb<base/\NT base w g D q)/\Fine (q.map PN.nd) s

theorem fC.below{cb g D:Nat}{Fine:List Nd->Int->Prop}{w w':World}{q:List PN}{s:Int}(h:fC cb Fine w g D q s)(hb:Below w.heap.size w w'):fC cb Fine w' g D q s:=by
 obtain⟨⟨base,h1,h2⟩,h3⟩:=h;exact⟨⟨base,h1,h2.below hb (Nat.le_refl _)⟩,h3⟩

theorem fC.set{cb g D:Nat}{Fine:List Nd->Int->Prop}{w:World}{q:List PN}{s:Int}(h:fC cb Fine w g D q s){b:Nat}(hb:b<=cb)(j:Nat)(u:Value):fC cb Fine (w.setCell ⟨b,j,none⟩ u) g D q s:=by
 obtain⟨⟨base,h1,h2⟩,h3⟩:=h;exact⟨⟨base,h1,h2.of_blocks fun k hk=>Below.heap_setCell _ _ _ _ (show k≠b by have:=(h2.lt k hk).1;omega)⟩,h3⟩

def tw3(b:Bool)(g l C:Nat):Value:=if b=true then .slice (some ⟨g,0,none⟩) l C else .slice none 0 0

structure AdL(w wr:World)(L:List Value)(s:ByteArray)(t v:Int)(r:Ru)(rb cb:Nat)(VA:Option Addr)(VC:Nat)(ns:List ByteArray)(cs:List Value):Prop where
 st:AdS w wr L s t v
 br:RowL wr rb 42 (ruV r)
 bc:RowL wr cb 35 cs
 own:wr.ownsRow (w.heap.size+3) 9 1 (.slice VA ns.length VC) ns.length (strs ns)
 ne:(Value.slice VA ns.length VC).ownBlock≠some cb
 lo:w.heap.size+3<=rb/\rb<cb

theorem AdL.next{w wr w':World}{L:List Value}{s:ByteArray}{t v:Int}{r:Ru}{rb cb VC:Nat}{VA:Option Addr}{ns:List ByteArray}{cs:List Value}(h:AdL w wr L s t v r rb cb VA VC ns cs)(hb:Below wr.heap.size wr w'):AdL w w' L s t v r rb cb VA VC ns cs:=
 ⟨h.st.next hb,h.br.below hb h.br.lt,h.bc.below hb h.bc.lt,dI h.own hb,h.ne,h.lo⟩

theorem AdL.set{w wr:World}{L:List Value}{s:ByteArray}{t v:Int}{r:Ru}{rb cb VC:Nat}{VA:Option Addr}{ns:List ByteArray}{cs:List Value}(h:AdL w wr L s t v r rb cb VA VC ns cs)(i:Nat)(u:Value):AdL w (wr.setCell ⟨cb,i,none⟩ u) L s t v r rb cb VA VC ns (cs.set i u):=by
 have hl:=h.lo;exact⟨h.st.set (by omega) i u,h.br.of_block (Below.heap_setCell _ _ _ _ (show rb≠cb by omega)),h.bc.set i u,aW h.own (fun k hk=>Below.heap_setCell _ _ _ _ (show k≠cb from fun e=>h.ne (e▸hk))),h.ne,h.lo⟩

def AddC(B0 B1 B2:Int->Prop)(F0 F1 F2:List Nd->Int->Prop)(ns:List ByteArray)(f:Int)(w:World)(e:Ending)(w':World):Prop:=
 Below w.heap.size w w'/\((16<ns.length/\e=.returned (dG 1))\/(ns.length<=16/\∃c,c≠0/\(B0 c\/B1 c\/B2 c)/\e=.returned (dG c))\/
  (ns.length<=16/\∃(VA:Option Addr) (VC g0 D0 g1 D1 g2 D2:Nat) (q0 q1 q2:List PN) (s0 s1 s2:Int),e=.returned (.tuple #[.agg #[.slice VA ns.length VC,.slice (some ⟨g0,0,none⟩) q0.length D0,.int .i64 s0,.slice (some ⟨g1,0,none⟩) q1.length D1,.int .i64 s1,.slice (some ⟨g2,0,none⟩) q2.length D2,.int .i64 s2,.int .i64 f],.int .i64 0])/\
   w'.ownsRow w.heap.size 9 1 (.slice VA ns.length VC) ns.length (strs ns)/\NT w.heap.size w' g0 D0 q0/\NT w.heap.size w' g1 D1 q1/\NT w.heap.size w' g2 D2 q2/\F0 (q0.map PN.nd) s0/\F1 (q1.map PN.nd) s1/\F2 (q2.map PN.nd) s2))

def csK(k:Nat)(VA:Option Addr)(n VC g0 l0 D0:Nat)(s0:Int)(g1 l1 D1:Nat)(s1:Int)(g2 l2 D2:Nat)(s2 f:Int):List Value:=
 [.slice VA n VC,tw3 (decide (0<k)) g0 l0 D0,rw' (decide (0<k)) s0,tw3 (decide (1<k)) g1 l1 D1,rw' (decide (1<k)) s1,tw3 (decide (2<k)) g2 l2 D2,rw' (decide (2<k)) s2,.int .i64 f]

def AdK(F0 F1 F2:List Nd->Int->Prop)(w:World)(L:List Value)(s:ByteArray)(t v:Int)(r:Ru)(rb cb VC:Nat)(VA:Option Addr)(ns:List ByteArray)(f:Int)(k:Nat)(wr:World):Prop:=
 ∃(g0 D0 g1 D1 g2 D2:Nat) (q0 q1 q2:List PN) (s0 s1 s2:Int),AdL w wr L s t v r rb cb VA VC ns (csK k VA ns.length VC g0 q0.length D0 s0 g1 q1.length D1 s1 g2 q2.length D2 s2 f)/\(0<k->fC cb F0 wr g0 D0 q0 s0)/\(1<k->fC cb F1 wr g1 D1 q1 s1)/\(2<k->fC cb F2 wr g2 D2 q2 s2)

theorem AdK.step0{F0 F1 F2:List Nd->Int->Prop}{w wr:World}{L:List Value}{s:ByteArray}{t v:Int}{r:Ru}{rb cb VC:Nat}{VA:Option Addr}{ns:List ByteArray}{f:Int}(h:AdK F0 F1 F2 w L s t v r rb cb VC VA ns f 0 wr){base g D:Nat}{q:List PN}{sr:Int}(hbase:cb<base)(hT:NT base wr g D q)(hF:F0 (q.map PN.nd) sr):
  AdK F0 F1 F2 w L s t v r rb cb VC VA ns f 1 ((wr.setCell ⟨cb,1,none⟩ (.slice (some ⟨g,0,none⟩) q.length D)).setCell ⟨cb,2,none⟩ (.int .i64 sr)):=by
 obtain⟨g0,D0,g1,D1,g2,D2,q0,q1,q2,s0,s1,s2,hL,h0,h1,h2⟩:=h;refine⟨g,D,g1,D1,g2,D2,q,q1,q2,sr,s1,s2,?_,fun _=>(fC.set (⟨⟨base,hbase,hT⟩,hF⟩:fC cb F0 wr g D q sr) (Nat.le_refl _) _ _).set (Nat.le_refl _) _ _,fun h=>by omega,fun h=>by omega⟩
 have:=(hL.set 1 (.slice (some ⟨g,0,none⟩) q.length D)).set 2 (.int .i64 sr)
 simpa [csK,tw3,rw'] using this

theorem AdK.step1{F0 F1 F2:List Nd->Int->Prop}{w wr:World}{L:List Value}{s:ByteArray}{t v:Int}{r:Ru}{rb cb VC:Nat}{VA:Option Addr}{ns:List ByteArray}{f:Int}(h:AdK F0 F1 F2 w L s t v r rb cb VC VA ns f 1 wr){base g D:Nat}{q:List PN}{sr:Int}(hbase:cb<base)(hT:NT base wr g D q)(hF:F1 (q.map PN.nd) sr):
  AdK F0 F1 F2 w L s t v r rb cb VC VA ns f 2 ((wr.setCell ⟨cb,3,none⟩ (.slice (some ⟨g,0,none⟩) q.length D)).setCell ⟨cb,4,none⟩ (.int .i64 sr)):=by
 obtain⟨g0,D0,g1,D1,g2,D2,q0,q1,q2,s0,s1,s2,hL,h0,h1,h2⟩:=h;refine⟨g0,D0,g,D,g2,D2,q0,q,q2,s0,sr,s2,?_,fun _=>((h0 (by omega)).set (Nat.le_refl _) _ _).set (Nat.le_refl _) _ _,fun _=>(fC.set (⟨⟨base,hbase,hT⟩,hF⟩:fC cb F1 wr g D q sr) (Nat.le_refl _) _ _).set (Nat.le_refl _) _ _,fun h=>by omega⟩
 have:=(hL.set 3 (.slice (some ⟨g,0,none⟩) q.length D)).set 4 (.int .i64 sr)
 simpa [csK,tw3,rw'] using this

theorem AdK.step2{F0 F1 F2:List Nd->Int->Prop}{w wr:World}{L:List Value}{s:ByteArray}{t v:Int}{r:Ru}{rb cb VC:Nat}{VA:Option Addr}{ns:List ByteArray}{f:Int}(h:AdK F0 F1 F2 w L s t v r rb cb VC VA ns f 2 wr){base g D:Nat}{q:List PN}{sr:Int}(hbase:cb<base)(hT:NT base wr g D q)(hF:F2 (q.map PN.nd) sr):
  AdK F0 F1 F2 w L s t v r rb cb VC VA ns f 3 ((wr.setCell ⟨cb,5,none⟩ (.slice (some ⟨g,0,none⟩) q.length D)).setCell ⟨cb,6,none⟩ (.int .i64 sr)):=by
 obtain⟨g0,D0,g1,D1,g2,D2,q0,q1,q2,s0,s1,s2,hL,h0,h1,h2⟩:=h;refine⟨g0,D0,g1,D1,g,D,q0,q1,q,s0,s1,sr,?_,fun _=>((h0 (by omega)).set (Nat.le_refl _) _ _).set (Nat.le_refl _) _ _,fun _=>((h1 (by omega)).set (Nat.le_refl _) _ _).set (Nat.le_refl _) _ _,fun _=>(fC.set (⟨⟨base,hbase,hT⟩,hF⟩:fC cb F2 wr g D q sr) (Nat.le_refl _) _ _).set (Nat.le_refl _) _ _⟩
 have:=(hL.set 5 (.slice (some ⟨g,0,none⟩) q.length D)).set 6 (.int .i64 sr)
 simpa [csK,tw3,rw'] using this

theorem AdK.next{F0 F1 F2:List Nd->Int->Prop}{w wr w':World}{L:List Value}{s:ByteArray}{t v:Int}{r:Ru}{rb cb VC k:Nat}{VA:Option Addr}{ns:List ByteArray}{f:Int}(h:AdK F0 F1 F2 w L s t v r rb cb VC VA ns f k wr)(hb:Below wr.heap.size wr w'):AdK F0 F1 F2 w L s t v r rb cb VC VA ns f k w':=by
 obtain⟨g0,D0,g1,D1,g2,D2,q0,q1,q2,s0,s1,s2,hL,h0,h1,h2⟩:=h;exact⟨g0,D0,g1,D1,g2,D2,q0,q1,q2,s0,s1,s2,hL.next hb,fun h=>(h0 h).below hb,fun h=>(h1 h).below hb,fun h=>(h2 h).below hb⟩

theorem AdK.ldl{F0 F1 F2:List Nd->Int->Prop}{w wr:World}{L:List Value}{s:ByteArray}{t v:Int}{r:Ru}{rb cb VC k:Nat}{VA:Option Addr}{ns:List ByteArray}{f:Int}(h:AdK F0 F1 F2 w L s t v r rb cb VC VA ns f k wr):∃cs,AdL w wr L s t v r rb cb VA VC ns cs:=by
 obtain⟨g0,D0,g1,D1,g2,D2,q0,q1,q2,s0,s1,s2,hL,_⟩:=h;exact⟨_,hL⟩

theorem AdK.cell{F0 F1 F2:List Nd->Int->Prop}{w wr:World}{L:List Value}{s:ByteArray}{t v:Int}{r:Ru}{rb cb VC k:Nat}{VA:Option Addr}{ns:List ByteArray}{f:Int}(h:AdK F0 F1 F2 w L s t v r rb cb VC VA ns f k wr){j:Nat}(hj:j<8):∃x,wr.cell? ⟨cb,j,none⟩=some x:=by
 obtain⟨g0,D0,g1,D1,g2,D2,q0,q1,q2,s0,s1,s2,hL,_⟩:=h;exact⟨_,(hL.bc.cell j).trans (List.getElem?_eq_getElem (show j<(csK k VA ns.length VC g0 q0.length D0 s0 g1 q1.length D1 s1 g2 q2.length D2 s2 f).length from hj))⟩

theorem AdK.done{F0 F1 F2:List Nd->Int->Prop}{w wr:World}{L:List Value}{s:ByteArray}{t v:Int}{r:Ru}{rb cb VC:Nat}{VA:Option Addr}{ns:List ByteArray}{f:Int}(h:AdK F0 F1 F2 w L s t v r rb cb VC VA ns f 3 wr):
  ∃(g0 D0 g1 D1 g2 D2:Nat) (q0 q1 q2:List PN) (s0 s1 s2:Int),RowL wr cb 35 [.slice VA ns.length VC,.slice (some ⟨g0,0,none⟩) q0.length D0,.int .i64 s0,.slice (some ⟨g1,0,none⟩) q1.length D1,.int .i64 s1,.slice (some ⟨g2,0,none⟩) q2.length D2,.int .i64 s2,.int .i64 f]/\
   ∀a0 a1 a2 a3 a4 a5 a6 a7,Below w.heap.size w (set8 wr (w.heap.size+1+1) a0 a1 a2 a3 a4 a5 a6 a7)/\(set8 wr (w.heap.size+1+1) a0 a1 a2 a3 a4 a5 a6 a7).ownsRow w.heap.size 9 1 (.slice VA ns.length VC) ns.length (strs ns)/\NT w.heap.size (set8 wr (w.heap.size+1+1) a0 a1 a2 a3 a4 a5 a6 a7) g0 D0 q0/\NT w.heap.size (set8 wr (w.heap.size+1+1) a0 a1 a2 a3 a4 a5 a6 a7) g1 D1 q1/\NT w.heap.size (set8 wr (w.heap.size+1+1) a0 a1 a2 a3 a4 a5 a6 a7) g2 D2 q2/\F0 (q0.map PN.nd) s0/\F1 (q1.map PN.nd) s1/\F2 (q2.map PN.nd) s2:=by
 obtain⟨g0,D0,g1,D1,g2,D2,q0,q1,q2,s0,s1,s2,hL,h0,h1,h2⟩:=h;obtain⟨⟨b0,hb0,n0⟩,f0⟩:=h0 (by omega)
 obtain⟨⟨b1,hb1,n1⟩,f1⟩:=h1 (by omega)
 obtain⟨⟨b2,hb2,n2⟩,f2⟩:=h2 (by omega)
 have hl:=hL.lo;refine⟨g0,D0,g1,D1,g2,D2,q0,q1,q2,s0,s1,s2,by simpa [csK,tw3,rw'] using hL.bc,fun a0 a1 a2 a3 a4 a5 a6 a7=>⟨eY hL.st.below (by omega) _ _ _ _ _ _ _ _,?_,?_,?_,?_,f0,f1,f2⟩⟩
 ·exact bP (aW hL.own (fun k hk=>fM _ _ _ _ _ _ _ _ _ _ k (by have:=(hL.own.lt k hk).1;omega))) (by omega)
 ·exact(n0.of_blocks fun k hk=>fM _ _ _ _ _ _ _ _ _ _ k (by have:=(n0.lt k hk).1;omega)).low (by omega)
 ·exact(n1.of_blocks fun k hk=>fM _ _ _ _ _ _ _ _ _ _ k (by have:=(n1.lt k hk).1;omega)).low (by omega)
 ·exact(n2.of_blocks fun k hk=>fM _ _ _ _ _ _ _ _ _ _ k (by have:=(n2.lt k hk).1;omega)).low (by omega)

theorem qoo{w wd w3:World}{L:List Value}{s:ByteArray}{t v:Int}{r:Ru}{rb VC:Nat}{VA:Option Addr}{ns:List ByteArray}{f:Value}(hD:AdS w wd L s t v)(hR:RowL wd rb 42 (ruV r))(hl:w.heap.size+3<=rb)(hb:Below wd.heap.size wd w3)(hov:w3.ownsRow wd.heap.size 9 1 (.slice VA ns.length VC) ns.length (strs ns)):
  ∃cb VA' VC',(Value.pointer (some ⟨w3.heap.size,0,none⟩))=.pointer (some ⟨cb,0,none⟩)/\AdL w (w3.alloc (.cells #[.slice VA ns.length VC,.slice none 0 0,.int .i64 0,.slice none 0 0,.int .i64 0,.slice none 0 0,.int .i64 0,f] 35)) L s t v r rb cb VA' VC' ns [.slice VA' ns.length VC',.slice none 0 0,.int .i64 0,.slice none 0 0,.int .i64 0,.slice none 0 0,.int .i64 0,f]:=by
 have hlt:=hR.lt;have hz:=hb.size;have ha:∀o:Obj,Below w3.heap.size w3 (w3.alloc o):=fun o=>(Below.refl _ _).alloc (Nat.le_refl _) o
 refine⟨w3.heap.size,VA,VC,rfl,(hD.next hb).next (ha _),(hR.below hb hlt).below (ha _) (by omega),aG w3 [.slice VA ns.length VC,.slice none 0 0,.int .i64 0,.slice none 0 0,.int .i64 0,.slice none 0 0,.int .i64 0,f] _,bP (dI hov (ha _)) (by omega),fun hk=>by have:=(hov.lt _ hk).2;omega,by omega⟩

theorem ql4{w wd w3:World}{L:List Value}{s:ByteArray}{t v:Int}{r:Ru}{rb VC:Nat}{VA:Option Addr}{ns:List ByteArray}{f:Value}(hD:AdS w wd L s t v)(hR:RowL wd rb 42 (ruV r))(hl:w.heap.size+3<=rb)(hb:Below (wd.drew.alloc (.cells zb8.toArray 35)).heap.size (wd.drew.alloc (.cells zb8.toArray 35)) w3)(hov:w3.ownsRow (wd.drew.alloc (.cells zb8.toArray 35)).heap.size 9 1 (.slice VA ns.length VC) ns.length (strs ns)):
  ∃cb VA' VC',(Value.pointer (some ⟨wd.heap.size,0,none⟩))=.pointer (some ⟨cb,0,none⟩)/\AdL w (set8 w3 wd.heap.size (.slice VA ns.length VC) (.slice none 0 0) (.int .i64 0) (.slice none 0 0) (.int .i64 0) (.slice none 0 0) (.int .i64 0) f) L s t v r rb cb VA' VC' ns [.slice VA' ns.length VC',.slice none 0 0,.int .i64 0,.slice none 0 0,.int .i64 0,.slice none 0 0,.int .i64 0,f]:=by
 have hlt:=hR.lt;have hbw:Below wd.heap.size wd w3:=(((Below.refl wd.heap.size wd).drew).alloc (Nat.le_refl _) _).trans (hb.mono (by simp))
 have r0:RowL w3 wd.heap.size 35 zb8:=RowL.below (aG wd.drew zb8 _) hb (by simp)
 have ho:w3.ownsRow (wd.heap.size+1) 9 1 (.slice VA ns.length VC) ns.length (strs ns):=by simpa using hov
 have hne:∀k,(Value.slice VA ns.length VC).ownBlock=some k->k≠wd.heap.size:=fun k hk=>by have:=(ho.lt k hk).1;omega
 have hD3:=hD.next hbw;have h1:=hD.bb.lt;have h2:=hD.bp.lt;have h3:=hD.bo.lt;refine⟨wd.heap.size,VA,VC,rfl,⟨eY hD3.below (by omega) _ _ _ _ _ _ _ _,hD3.bb.of_block (fM _ _ _ _ _ _ _ _ _ _ _ (by omega)),hD3.bp.of_block (fM _ _ _ _ _ _ _ _ _ _ _ (by omega)),hD3.bo.of_block (fM _ _ _ _ _ _ _ _ _ _ _ (by omega))⟩,(hR.below hbw hlt).of_block (fM _ _ _ _ _ _ _ _ _ _ _ (by omega)),((((((((r0.set 0 _).set 1 _).set 2 _).set 3 _).set 4 _).set 5 _).set 6 _).set 7 _),bP (aW ho fun k hk=>fM _ _ _ _ _ _ _ _ _ _ k (hne k hk)) (by omega),fun hk=>hne _ hk rfl,by omega⟩

structure ExS(w wr:World)(L:List Value):Prop where
 below:Below w.heap.size w wr
 bb:RowL wr w.heap.size 35 L
 bo:RowL wr (w.heap.size+1) 35 zb8

theorem ExS.next{w wr w':World}{L:List Value}(h:ExS w wr L)(hb:Below wr.heap.size wr w'):ExS w w' L:=
 ⟨aC h.below (Nat.le_refl _) hb,h.bb.below hb h.bb.lt,h.bo.below hb h.bo.lt⟩

theorem ExS.start(w:World)(L:List Value):ExS w ((w.alloc (.cells L.toArray 35)).alloc (.cells zb8.toArray 35)) L:=by
 obtain⟨h1,h2,h3⟩:=qhq (v:=w) (w2:=(w.alloc (.cells L.toArray 35)).alloc (.cells zb8.toArray 35)) (l1:=L) (l2:=zb8) (t1:=35) (t2:=35) (Below.refl _ _) rfl;exact⟨((Below.refl _ _).alloc (Nat.le_refl _) _).alloc (by simp) _,h1,h2⟩

theorem ExS.set{w wr:World}{L:List Value}(h:ExS w wr L){b:Nat}(hb:w.heap.size+2<=b)(i:Nat)(u:Value):ExS w (wr.setCell ⟨b,i,none⟩ u) L:=by
 have far:∀k,k≠b->(wr.setCell ⟨b,i,none⟩ u).heap[k]? =wr.heap[k]? :=fun k hk=>Below.heap_setCell _ _ _ _ hk
 exact⟨fG h.below (by omega) _ _,h.bb.of_block (far _ (by omega)),h.bo.of_block (far _ (by omega))⟩

structure ExL(w wr:World)(L:List Value)(cb:Nat)(VA:Option Addr)(VC:Nat)(ns:List ByteArray)(cs:List Value):Prop where
 st:ExS w wr L
 bc:RowL wr cb 35 cs
 own:wr.ownsRow (w.heap.size+2) 9 1 (.slice VA ns.length VC) ns.length (strs ns)
 ne:(Value.slice VA ns.length VC).ownBlock≠some cb
 lo:w.heap.size+2<=cb

theorem ExL.next{w wr w':World}{L:List Value}{cb VC:Nat}{VA:Option Addr}{ns:List ByteArray}{cs:List Value}(h:ExL w wr L cb VA VC ns cs)(hb:Below wr.heap.size wr w'):ExL w w' L cb VA VC ns cs:=
 ⟨h.st.next hb,h.bc.below hb h.bc.lt,dI h.own hb,h.ne,h.lo⟩

theorem ExL.set{w wr:World}{L:List Value}{cb VC:Nat}{VA:Option Addr}{ns:List ByteArray}{cs:List Value}(h:ExL w wr L cb VA VC ns cs)(i:Nat)(u:Value):ExL w (wr.setCell ⟨cb,i,none⟩ u) L cb VA VC ns (cs.set i u):=by
 have hl:=h.lo;exact⟨h.st.set (by omega) i u,h.bc.set i u,aW h.own (fun k hk=>Below.heap_setCell _ _ _ _ (show k≠cb from fun e=>h.ne (e▸hk))),h.ne,h.lo⟩

def ExC(B0 B1 B2:Int->Prop)(F0 F1 F2:List Nd->Int->Prop)(ns:List ByteArray)(f:Int)(w:World)(e:Ending)(w':World):Prop:=
 Below w.heap.size w w'/\((∃c,c≠0/\(B0 c\/B1 c\/B2 c)/\e=.returned (dG c))\/
  (∃(VA:Option Addr) (VC g0 D0 g1 D1 g2 D2:Nat) (q0 q1 q2:List PN) (s0 s1 s2:Int),e=.returned (.tuple #[.agg #[.slice VA ns.length VC,.slice (some ⟨g0,0,none⟩) q0.length D0,.int .i64 s0,.slice (some ⟨g1,0,none⟩) q1.length D1,.int .i64 s1,.slice (some ⟨g2,0,none⟩) q2.length D2,.int .i64 s2,.int .i64 f],.int .i64 0])/\
   w'.ownsRow w.heap.size 9 1 (.slice VA ns.length VC) ns.length (strs ns)/\NT w.heap.size w' g0 D0 q0/\NT w.heap.size w' g1 D1 q1/\NT w.heap.size w' g2 D2 q2/\F0 (q0.map PN.nd) s0/\F1 (q1.map PN.nd) s1/\F2 (q2.map PN.nd) s2))

def ExK(F0 F1 F2:List Nd->Int->Prop)(w:World)(L:List Value)(cb VC:Nat)(VA:Option Addr)(ns:List ByteArray)(f:Int)(k:Nat)(wr:World):Prop:=
 ∃(g0 D0 g1 D1 g2 D2:Nat) (q0 q1 q2:List PN) (s0 s1 s2:Int),ExL w wr L cb VA VC ns (csK k VA ns.length VC g0 q0.length D0 s0 g1 q1.length D1 s1 g2 q2.length D2 s2 f)/\(0<k->fC cb F0 wr g0 D0 q0 s0)/\(1<k->fC cb F1 wr g1 D1 q1 s1)/\(2<k->fC cb F2 wr g2 D2 q2 s2)

theorem ExK.step0{F0 F1 F2:List Nd->Int->Prop}{w wr:World}{L:List Value}{cb VC:Nat}{VA:Option Addr}{ns:List ByteArray}{f:Int}(h:ExK F0 F1 F2 w L cb VC VA ns f 0 wr){base g D:Nat}{q:List PN}{sr:Int}(hbase:cb<base)(hT:NT base wr g D q)(hF:F0 (q.map PN.nd) sr):
  ExK F0 F1 F2 w L cb VC VA ns f 1 ((wr.setCell ⟨cb,1,none⟩ (.slice (some ⟨g,0,none⟩) q.length D)).setCell ⟨cb,2,none⟩ (.int .i64 sr)):=by
 obtain⟨g0,D0,g1,D1,g2,D2,q0,q1,q2,s0,s1,s2,hL,h0,h1,h2⟩:=h;refine⟨g,D,g1,D1,g2,D2,q,q1,q2,sr,s1,s2,?_,fun _=>(fC.set (⟨⟨base,hbase,hT⟩,hF⟩:fC cb F0 wr g D q sr) (Nat.le_refl _) _ _).set (Nat.le_refl _) _ _,fun h=>by omega,fun h=>by omega⟩
 have:=(hL.set 1 (.slice (some ⟨g,0,none⟩) q.length D)).set 2 (.int .i64 sr)
 simpa [csK,tw3,rw'] using this

theorem ExK.step1{F0 F1 F2:List Nd->Int->Prop}{w wr:World}{L:List Value}{cb VC:Nat}{VA:Option Addr}{ns:List ByteArray}{f:Int}(h:ExK F0 F1 F2 w L cb VC VA ns f 1 wr){base g D:Nat}{q:List PN}{sr:Int}(hbase:cb<base)(hT:NT base wr g D q)(hF:F1 (q.map PN.nd) sr):
  ExK F0 F1 F2 w L cb VC VA ns f 2 ((wr.setCell ⟨cb,3,none⟩ (.slice (some ⟨g,0,none⟩) q.length D)).setCell ⟨cb,4,none⟩ (.int .i64 sr)):=by
 obtain⟨g0,D0,g1,D1,g2,D2,q0,q1,q2,s0,s1,s2,hL,h0,h1,h2⟩:=h;refine⟨g0,D0,g,D,g2,D2,q0,q,q2,s0,sr,s2,?_,fun _=>((h0 (by omega)).set (Nat.le_refl _) _ _).set (Nat.le_refl _) _ _,fun _=>(fC.set (⟨⟨base,hbase,hT⟩,hF⟩:fC cb F1 wr g D q sr) (Nat.le_refl _) _ _).set (Nat.le_refl _) _ _,fun h=>by omega⟩
 have:=(hL.set 3 (.slice (some ⟨g,0,none⟩) q.length D)).set 4 (.int .i64 sr)
 simpa [csK,tw3,rw'] using this

theorem ExK.step2{F0 F1 F2:List Nd->Int->Prop}{w wr:World}{L:List Value}{cb VC:Nat}{VA:Option Addr}{ns:List ByteArray}{f:Int}(h:ExK F0 F1 F2 w L cb VC VA ns f 2 wr){base g D:Nat}{q:List PN}{sr:Int}(hbase:cb<base)(hT:NT base wr g D q)(hF:F2 (q.map PN.nd) sr):
  ExK F0 F1 F2 w L cb VC VA ns f 3 ((wr.setCell ⟨cb,5,none⟩ (.slice (some ⟨g,0,none⟩) q.length D)).setCell ⟨cb,6,none⟩ (.int .i64 sr)):=by
 obtain⟨g0,D0,g1,D1,g2,D2,q0,q1,q2,s0,s1,s2,hL,h0,h1,h2⟩:=h;refine⟨g0,D0,g1,D1,g,D,q0,q1,q,s0,s1,sr,?_,fun _=>((h0 (by omega)).set (Nat.le_refl _) _ _).set (Nat.le_refl _) _ _,fun _=>((h1 (by omega)).set (Nat.le_refl _) _ _).set (Nat.le_refl _) _ _,fun _=>(fC.set (⟨⟨base,hbase,hT⟩,hF⟩:fC cb F2 wr g D q sr) (Nat.le_refl _) _ _).set (Nat.le_refl _) _ _⟩
 have:=(hL.set 5 (.slice (some ⟨g,0,none⟩) q.length D)).set 6 (.int .i64 sr)
 simpa [csK,tw3,rw'] using this

theorem ExK.next{F0 F1 F2:List Nd->Int->Prop}{w wr w':World}{L:List Value}{cb VC k:Nat}{VA:Option Addr}{ns:List ByteArray}{f:Int}(h:ExK F0 F1 F2 w L cb VC VA ns f k wr)(hb:Below wr.heap.size wr w'):ExK F0 F1 F2 w L cb VC VA ns f k w':=by
 obtain⟨g0,D0,g1,D1,g2,D2,q0,q1,q2,s0,s1,s2,hL,h0,h1,h2⟩:=h;exact⟨g0,D0,g1,D1,g2,D2,q0,q1,q2,s0,s1,s2,hL.next hb,fun h=>(h0 h).below hb,fun h=>(h1 h).below hb,fun h=>(h2 h).below hb⟩

theorem ExK.ldl{F0 F1 F2:List Nd->Int->Prop}{w wr:World}{L:List Value}{cb VC k:Nat}{VA:Option Addr}{ns:List ByteArray}{f:Int}(h:ExK F0 F1 F2 w L cb VC VA ns f k wr):∃cs,ExL w wr L cb VA VC ns cs:=by
 obtain⟨g0,D0,g1,D1,g2,D2,q0,q1,q2,s0,s1,s2,hL,_⟩:=h;exact⟨_,hL⟩

theorem ExK.cell{F0 F1 F2:List Nd->Int->Prop}{w wr:World}{L:List Value}{cb VC k:Nat}{VA:Option Addr}{ns:List ByteArray}{f:Int}(h:ExK F0 F1 F2 w L cb VC VA ns f k wr){j:Nat}(hj:j<8):∃x,wr.cell? ⟨cb,j,none⟩=some x:=by
 obtain⟨g0,D0,g1,D1,g2,D2,q0,q1,q2,s0,s1,s2,hL,_⟩:=h;exact⟨_,(hL.bc.cell j).trans (List.getElem?_eq_getElem (show j<(csK k VA ns.length VC g0 q0.length D0 s0 g1 q1.length D1 s1 g2 q2.length D2 s2 f).length from hj))⟩

theorem ExK.done{F0 F1 F2:List Nd->Int->Prop}{w wr:World}{L:List Value}{cb VC:Nat}{VA:Option Addr}{ns:List ByteArray}{f:Int}(h:ExK F0 F1 F2 w L cb VC VA ns f 3 wr):
  ∃(g0 D0 g1 D1 g2 D2:Nat) (q0 q1 q2:List PN) (s0 s1 s2:Int),RowL wr cb 35 [.slice VA ns.length VC,.slice (some ⟨g0,0,none⟩) q0.length D0,.int .i64 s0,.slice (some ⟨g1,0,none⟩) q1.length D1,.int .i64 s1,.slice (some ⟨g2,0,none⟩) q2.length D2,.int .i64 s2,.int .i64 f]/\
   ∀a0 a1 a2 a3 a4 a5 a6 a7,Below w.heap.size w (set8 wr (w.heap.size+1) a0 a1 a2 a3 a4 a5 a6 a7)/\(set8 wr (w.heap.size+1) a0 a1 a2 a3 a4 a5 a6 a7).ownsRow w.heap.size 9 1 (.slice VA ns.length VC) ns.length (strs ns)/\NT w.heap.size (set8 wr (w.heap.size+1) a0 a1 a2 a3 a4 a5 a6 a7) g0 D0 q0/\NT w.heap.size (set8 wr (w.heap.size+1) a0 a1 a2 a3 a4 a5 a6 a7) g1 D1 q1/\NT w.heap.size (set8 wr (w.heap.size+1) a0 a1 a2 a3 a4 a5 a6 a7) g2 D2 q2/\F0 (q0.map PN.nd) s0/\F1 (q1.map PN.nd) s1/\F2 (q2.map PN.nd) s2:=by
 obtain⟨g0,D0,g1,D1,g2,D2,q0,q1,q2,s0,s1,s2,hL,h0,h1,h2⟩:=h;obtain⟨⟨b0,hb0,n0⟩,f0⟩:=h0 (by omega)
 obtain⟨⟨b1,hb1,n1⟩,f1⟩:=h1 (by omega)
 obtain⟨⟨b2,hb2,n2⟩,f2⟩:=h2 (by omega)
 have hl:=hL.lo;refine⟨g0,D0,g1,D1,g2,D2,q0,q1,q2,s0,s1,s2,by simpa [csK,tw3,rw'] using hL.bc,fun a0 a1 a2 a3 a4 a5 a6 a7=>⟨eY hL.st.below (by omega) _ _ _ _ _ _ _ _,?_,?_,?_,?_,f0,f1,f2⟩⟩
 ·exact bP (aW hL.own (fun k hk=>fM _ _ _ _ _ _ _ _ _ _ k (by have:=(hL.own.lt k hk).1;omega))) (by omega)
 ·exact(n0.of_blocks fun k hk=>fM _ _ _ _ _ _ _ _ _ _ k (by have:=(n0.lt k hk).1;omega)).low (by omega)
 ·exact(n1.of_blocks fun k hk=>fM _ _ _ _ _ _ _ _ _ _ k (by have:=(n1.lt k hk).1;omega)).low (by omega)
 ·exact(n2.of_blocks fun k hk=>fM _ _ _ _ _ _ _ _ _ _ k (by have:=(n2.lt k hk).1;omega)).low (by omega)

theorem qmj{w wd w3:World}{L:List Value}{VC:Nat}{VA:Option Addr}{ns:List ByteArray}{f:Value}(hD:ExS w wd L)(hb:Below wd.heap.size wd w3)(hov:w3.ownsRow wd.heap.size 9 1 (.slice VA ns.length VC) ns.length (strs ns)):
  ∃cb VA' VC',(Value.pointer (some ⟨w3.heap.size,0,none⟩))=.pointer (some ⟨cb,0,none⟩)/\ExL w (w3.alloc (.cells #[.slice VA ns.length VC,.slice none 0 0,.int .i64 0,.slice none 0 0,.int .i64 0,.slice none 0 0,.int .i64 0,f] 35)) L cb VA' VC' ns [.slice VA' ns.length VC',.slice none 0 0,.int .i64 0,.slice none 0 0,.int .i64 0,.slice none 0 0,.int .i64 0,f]:=by
 have h3:=hD.bo.lt;have hz:=hb.size;have ha:∀o:Obj,Below w3.heap.size w3 (w3.alloc o):=fun o=>(Below.refl _ _).alloc (Nat.le_refl _) o
 refine⟨w3.heap.size,VA,VC,rfl,(hD.next hb).next (ha _),aG w3 [.slice VA ns.length VC,.slice none 0 0,.int .i64 0,.slice none 0 0,.int .i64 0,.slice none 0 0,.int .i64 0,f] _,bP (dI hov (ha _)) (by omega),fun hk=>by have:=(hov.lt _ hk).2;omega,by omega⟩

set_option maxRecDepth 20000 in
set_option maxHeartbeats 4000000 in
theorem ql2(A A0 A1 A2:Option Addr)(C C0 C1 C2:Nat)(ss:List ByteArray)(p0 p1 p2:List PN)(r0 r1 r2 f t:Int)(w:World)(B0 B1 B2:Int->Prop)(F0 F1 F2:List Nd->Int->Prop)
  (CK:Hid (∀W,Below w.heap.size w W->Calls Tryz.prog 55 #[.agg #[.slice A ss.length C,.slice A0 p0.length C0,.int .i64 r0,.slice A1 p1.length C1,.int .i64 r1,.slice A2 p2.length C2,.int .i64 r2,.int .i64 f]] W fun e w'=>e=.returned (.int .i64 0)/\Below W.heap.size W w'))
  (NF:Hid (∀W,Below w.heap.size w W->Calls Tryz.prog 99 #[.int .i64 f,.int .i64 t] W fun e w'=>e=.returned (.int .i64 0)/\Below W.heap.size W w'))
  (NW:Hid (∀W,Below w.heap.size w W->Calls Tryz.prog 100 #[.slice A ss.length C] W fun e w'=>∃x,e=.returned x/\w'.ownsRow W.heap.size 9 1 x ss.length (strs ss)/\Below W.heap.size W w'))
  (PT0:Hid (∀W,Below w.heap.size w W->Calls Tryz.prog 101 #[.agg #[.slice A0 p0.length C0,.int .i64 r0],.int .i64 t] W (PutC B0 F0 W)))
  (PT1:Hid (∀W,Below w.heap.size w W->Calls Tryz.prog 101 #[.agg #[.slice A1 p1.length C1,.int .i64 r1],.int .i64 t] W (PutC B1 F1 W)))
  (PT2:Hid (∀W,Below w.heap.size w W->Calls Tryz.prog 101 #[.agg #[.slice A2 p2.length C2,.int .i64 r2],.int .i64 t] W (PutC B2 F2 W))):
  Calls Tryz.prog 66 #[.agg #[.slice A ss.length C,.slice A0 p0.length C0,.int .i64 r0,.slice A1 p1.length C1,.int .i64 r1,.slice A2 p2.length C2,.int .i64 r2,.int .i64 f],.int .i64 t] w (ExC B0 B1 B2 F0 F1 F2 ss t w):=by
 have HS:=aA (ExS.start w [.slice A ss.length C,.slice A0 p0.length C0,.int .i64 r0,.slice A1 p1.length C1,.int .i64 r1,.slice A2 p2.length C2,.int .i64 r2,.int .i64 f])
 go_enter Tryz.func66,Tryz.ntmps66
 go_upto_region 7 with(first
  |(go_at_call 55;refine(CK.out _ HS.out.below).mono ?_;rintro e w1 ⟨rfl,hb1⟩;have H1:=aA (HS.out.next hb1);have d1:=fun j=>H1.out.bb.cell j;have l1:=H1.out.bb.lt;clear hb1)
  |(go_at_call 99;refine(NF.out _ H1.out.below).mono ?_;rintro e wd ⟨rfl,hb2⟩;have HD:=aA (H1.out.next hb2);clear d1 l1 hb2))
 clear HS H1 CK NF;obtain⟨n,hn⟩:∃n,n=w.heap.size:=⟨_,rfl⟩;have x0:wd.cell? ⟨n,0,none⟩=some (.slice A ss.length C):=by rw[hn];exact HD.out.bb.cell 0
 have ln:n<wd.heap.size:=by rw[hn];exact HD.out.bb.lt
 have HN:=aA hn;rw[<-hn];clear hn
 go_cut [8] (fun v9 wc=>∃cb VA VC,v9=.pointer (some ⟨cb,0,none⟩)/\ExL w wc [.slice A ss.length C,.slice A0 p0.length C0,.int .i64 r0,.slice A1 p1.length C1,.int .i64 r1,.slice A2 p2.length C2,.int .i64 r2,.int .i64 f] cb VA VC ss [.slice VA ss.length VC,.slice none 0 0,.int .i64 0,.slice none 0 0,.int .i64 0,.slice none 0 0,.int .i64 0,.int .i64 t])
 case first=>
  have NWd:∀W,Below wd.heap.size wd W->Calls Tryz.prog 100 #[.slice A ss.length C] W fun e w'=>∃x,e=.returned x/\w'.ownsRow W.heap.size 9 1 x ss.length (strs ss)/\Below W.heap.size W w':=fun W hb=>NW.out W (aC HD.out.below (Nat.le_refl _) hb)
  have NWh:=aA NWd;clear NWd NW;go_wp2_with (first|(go_at_call 100;refine(NWh.out _ (Below.refl _ _)).mono ?_;rintro e w3 ⟨x,rfl,hov,hb3⟩;obtain⟨VA,VC,hvv,-⟩:=aN hov;subst hvv))
  go_meet
  case rel=>exact qmj HD.out hb3 hov
 case rest=>
  obtain⟨cb,VA,VC,rfl,hcut⟩:=hcut;obtain⟨wq,hwq⟩:∃wq,wq=wc:=⟨_,rfl⟩;subst hwq;have bx:∀j,wq.cell? ⟨n,j,none⟩=[.slice A ss.length C,.slice A0 p0.length C0,.int .i64 r0,.slice A1 p1.length C1,.int .i64 r1,.slice A2 p2.length C2,.int .i64 r2,.int .i64 f][j]? :=fun j=>by rw[HN.out];exact hcut.st.bb.cell j
  have lq:n<wq.heap.size:=by rw[HN.out];exact hcut.st.bb.lt
  have HC:=aA hcut;clear hcut NW x0 ln HD;have i0:∀(a b c d e f:Value) (w:World),(Instr.index 33 (.agg #[a,b,c,d,e,f]) (.int .i64 0)).run Tryz.prog w=.ok (.agg #[a,b]) w:=fun _ _ _ _ _ _ _=>by kernel_rfl
  have i1:∀(a b c d e f:Value) (w:World),(Instr.index 33 (.agg #[a,b,c,d,e,f]) (.int .i64 1)).run Tryz.prog w=.ok (.agg #[c,d]) w:=fun _ _ _ _ _ _ _=>by kernel_rfl
  have i2:∀(a b c d e f:Value) (w:World),(Instr.index 33 (.agg #[a,b,c,d,e,f]) (.int .i64 2)).run Tryz.prog w=.ok (.agg #[e,f]) w:=fun _ _ _ _ _ _ _=>by kernel_rfl
  go_wp2_with fail;clear bx lq
  go_loopw [34] (fun vi wr=>∃k:Nat,k<=3/\vi=.int .i64 k/\ExK F0 F1 F2 w [.slice A ss.length C,.slice A0 p0.length C0,.int .i64 r0,.slice A1 p1.length C1,.int .i64 r1,.slice A2 p2.length C2,.int .i64 r2,.int .i64 f] cb VC VA ss t k wr) (fun vi _=>3-(intOf vi).toNat)
  case atStart=>exact⟨0,by omega,rfl,0,0,0,0,0,0,[],[],[],0,0,0,HC.out,fun h=>by omega,fun h=>by omega,fun h=>by omega⟩
  case round=>
   obtain⟨k,hk,rfl,hK⟩:=hrel;have HK:=aA hK;obtain⟨cs,hL⟩:=hK.ldl;have lcb:cb<wr.heap.size:=hL.bc.lt;have hlo:=hL.lo;clear HC;rcases(show k=0\/k=1\/k=2\/k=3 by omega) with rfl|rfl|rfl|rfl
   ·have PTd:Hid (∀W,Below wr.heap.size wr W->Calls Tryz.prog 101 #[.agg #[.slice A0 p0.length C0,.int .i64 r0],.int .i64 t] W (PutC B0 F0 W)):=fun W hb=>PT0.out W (aC hL.st.below (Nat.le_refl _) hb)
    clear hL hK PT0 PT1 PT2
    go_upto_region 12 with(first
     |(go_at_call 101;refine(PTd.out _ ((Below.refl _ _).alloc (Nat.le_refl _) _)).mono ?_;rintro e w3 ⟨XA,xl,XC,sr,c,rfl,hb3,hP⟩))
    have hbw:Below wr.heap.size wr w3:=aC ((Below.refl _ _).alloc (Nat.le_refl _) _) (Nat.le_refl _) hb3;obtain⟨wc,hwc⟩:∃wc,wc=w3.alloc (.cells #[.slice XA xl XC,.int .i64 sr] 32):=⟨_,rfl⟩;obtain⟨mb,hmb⟩:∃mb,mb=w3.heap.size:=⟨_,rfl⟩;have hbc:Below wr.heap.size wr wc:=by rw[hwc];exact hbw.alloc hbw.size _
    have hrm:RowL wc mb 32 [.slice XA xl XC,.int .i64 sr]:=by rw[hwc,hmb];exact aG w3 [.slice XA xl XC,.int .i64 sr] _
    have hPP:PutP B0 F0 (wr.heap.size+1) wc XA xl XC sr c:=by rw[hwc];exact hP.keep (by simp) fun _ _ hk=>Below.heap_alloc _ _ _ hk
    rw[<-hwc,<-hmb];clear hwc hmb hP hb3 hbw PTd;have HK1:=aA (HK.out.next hbc);obtain⟨cs1,hL1⟩:=HK1.out.ldl;rcases hPP with⟨hc0,hB⟩|⟨rfl,g,q,rfl,rfl,hT,hF⟩
    ·have hne:(c != 0)=true:=by simpa using hc0
     have d:∀j,wc.cell? ⟨n+1,j,none⟩=zb8[j]? :=fun j=>by rw[HN.out];exact hL1.st.bo.cell j
     have fz:∀j,wc.frozen? ⟨n+1,j,none⟩=false:=fun j=>by rw[HN.out];exact hL1.st.bo.frozen j
     have lo:n+1<wc.heap.size:=by rw[HN.out];exact hL1.st.bo.lt
     simp only[zb8] at d;have HB9:=aA hL1.st.below;have HX:=aA (And.intro hc0 hB);clear hL1 hB hc0 HK HK1 hrm hbc;go_upto_region 14 with fail
     repeat go_step
     refine bodyPost_ret (v:=dG c) (by simp[dG,results,Tryz.results66,go_sem,d]) rfl ?_
     refine⟨?_,.inl ⟨c,HX.out.1,.inl HX.out.2,rfl⟩⟩;exact eY HB9.out (by have:=HN.out;omega) _ _ _ _ _ _ _ _
    ·have m0:=hrm.cell 0;have m1:=hrm.cell 1;simp only[List.getElem?_cons_zero,List.getElem?_cons_succ] at m0 m1;have lm:=hrm.lt;have fc:=fun j=>hL1.bc.frozen j
     have lc1:=hL1.bc.lt;obtain⟨z1,dc1⟩:=HK1.out.cell (j:=1) (by decide)
     obtain⟨z2,dc2⟩:=HK1.out.cell (j:=2) (by decide)
     have HX:=aA (And.intro hT (And.intro hF (And.intro lcb hbc)));clear hL1 hT hF HK hrm hbc;go_wp2_with fail;go_roundw
     case rel=>
      go_light;exact⟨1,by omega,by go_num,HK1.out.step0 (show cb<wr.heap.size+1 by have:=HX.out.2.2.1;omega) HX.out.1 HX.out.2.1⟩
     case measure=>simp[intOf]
   ·have PTd:Hid (∀W,Below wr.heap.size wr W->Calls Tryz.prog 101 #[.agg #[.slice A1 p1.length C1,.int .i64 r1],.int .i64 t] W (PutC B1 F1 W)):=fun W hb=>PT1.out W (aC hL.st.below (Nat.le_refl _) hb)
    clear hL hK PT0 PT1 PT2
    go_upto_region 12 with(first
     |(go_at_call 101;refine(PTd.out _ ((Below.refl _ _).alloc (Nat.le_refl _) _)).mono ?_;rintro e w3 ⟨XA,xl,XC,sr,c,rfl,hb3,hP⟩))
    have hbw:Below wr.heap.size wr w3:=aC ((Below.refl _ _).alloc (Nat.le_refl _) _) (Nat.le_refl _) hb3;obtain⟨wc,hwc⟩:∃wc,wc=w3.alloc (.cells #[.slice XA xl XC,.int .i64 sr] 32):=⟨_,rfl⟩;obtain⟨mb,hmb⟩:∃mb,mb=w3.heap.size:=⟨_,rfl⟩;have hbc:Below wr.heap.size wr wc:=by rw[hwc];exact hbw.alloc hbw.size _
    have hrm:RowL wc mb 32 [.slice XA xl XC,.int .i64 sr]:=by rw[hwc,hmb];exact aG w3 [.slice XA xl XC,.int .i64 sr] _
    have hPP:PutP B1 F1 (wr.heap.size+1) wc XA xl XC sr c:=by rw[hwc];exact hP.keep (by simp) fun _ _ hk=>Below.heap_alloc _ _ _ hk
    rw[<-hwc,<-hmb];clear hwc hmb hP hb3 hbw PTd;have HK1:=aA (HK.out.next hbc);obtain⟨cs1,hL1⟩:=HK1.out.ldl;rcases hPP with⟨hc0,hB⟩|⟨rfl,g,q,rfl,rfl,hT,hF⟩
    ·have hne:(c != 0)=true:=by simpa using hc0
     have d:∀j,wc.cell? ⟨n+1,j,none⟩=zb8[j]? :=fun j=>by rw[HN.out];exact hL1.st.bo.cell j
     have fz:∀j,wc.frozen? ⟨n+1,j,none⟩=false:=fun j=>by rw[HN.out];exact hL1.st.bo.frozen j
     have lo:n+1<wc.heap.size:=by rw[HN.out];exact hL1.st.bo.lt
     simp only[zb8] at d;have HB9:=aA hL1.st.below;have HX:=aA (And.intro hc0 hB);clear hL1 hB hc0 HK HK1 hrm hbc;go_upto_region 14 with fail
     repeat go_step
     refine bodyPost_ret (v:=dG c) (by simp[dG,results,Tryz.results66,go_sem,d]) rfl ?_
     refine⟨?_,.inl ⟨c,HX.out.1,.inr (.inl HX.out.2),rfl⟩⟩;exact eY HB9.out (by have:=HN.out;omega) _ _ _ _ _ _ _ _
    ·have m0:=hrm.cell 0;have m1:=hrm.cell 1;simp only[List.getElem?_cons_zero,List.getElem?_cons_succ] at m0 m1;have lm:=hrm.lt;have fc:=fun j=>hL1.bc.frozen j
     have lc1:=hL1.bc.lt;obtain⟨z1,dc1⟩:=HK1.out.cell (j:=3) (by decide)
     obtain⟨z2,dc2⟩:=HK1.out.cell (j:=4) (by decide)
     have HX:=aA (And.intro hT (And.intro hF (And.intro lcb hbc)));clear hL1 hT hF HK hrm hbc;go_wp2_with fail;go_roundw
     case rel=>
      go_light;exact⟨2,by omega,by go_num,HK1.out.step1 (show cb<wr.heap.size+1 by have:=HX.out.2.2.1;omega) HX.out.1 HX.out.2.1⟩
     case measure=>simp[intOf]
   ·have PTd:Hid (∀W,Below wr.heap.size wr W->Calls Tryz.prog 101 #[.agg #[.slice A2 p2.length C2,.int .i64 r2],.int .i64 t] W (PutC B2 F2 W)):=fun W hb=>PT2.out W (aC hL.st.below (Nat.le_refl _) hb)
    clear hL hK PT0 PT1 PT2
    go_upto_region 12 with(first
     |(go_at_call 101;refine(PTd.out _ ((Below.refl _ _).alloc (Nat.le_refl _) _)).mono ?_;rintro e w3 ⟨XA,xl,XC,sr,c,rfl,hb3,hP⟩))
    have hbw:Below wr.heap.size wr w3:=aC ((Below.refl _ _).alloc (Nat.le_refl _) _) (Nat.le_refl _) hb3;obtain⟨wc,hwc⟩:∃wc,wc=w3.alloc (.cells #[.slice XA xl XC,.int .i64 sr] 32):=⟨_,rfl⟩;obtain⟨mb,hmb⟩:∃mb,mb=w3.heap.size:=⟨_,rfl⟩;have hbc:Below wr.heap.size wr wc:=by rw[hwc];exact hbw.alloc hbw.size _
    have hrm:RowL wc mb 32 [.slice XA xl XC,.int .i64 sr]:=by rw[hwc,hmb];exact aG w3 [.slice XA xl XC,.int .i64 sr] _
    have hPP:PutP B2 F2 (wr.heap.size+1) wc XA xl XC sr c:=by rw[hwc];exact hP.keep (by simp) fun _ _ hk=>Below.heap_alloc _ _ _ hk
    rw[<-hwc,<-hmb];clear hwc hmb hP hb3 hbw PTd;have HK1:=aA (HK.out.next hbc);obtain⟨cs1,hL1⟩:=HK1.out.ldl;rcases hPP with⟨hc0,hB⟩|⟨rfl,g,q,rfl,rfl,hT,hF⟩
    ·have hne:(c != 0)=true:=by simpa using hc0
     have d:∀j,wc.cell? ⟨n+1,j,none⟩=zb8[j]? :=fun j=>by rw[HN.out];exact hL1.st.bo.cell j
     have fz:∀j,wc.frozen? ⟨n+1,j,none⟩=false:=fun j=>by rw[HN.out];exact hL1.st.bo.frozen j
     have lo:n+1<wc.heap.size:=by rw[HN.out];exact hL1.st.bo.lt
     simp only[zb8] at d;have HB9:=aA hL1.st.below;have HX:=aA (And.intro hc0 hB);clear hL1 hB hc0 HK HK1 hrm hbc;go_upto_region 14 with fail
     repeat go_step
     refine bodyPost_ret (v:=dG c) (by simp[dG,results,Tryz.results66,go_sem,d]) rfl ?_
     refine⟨?_,.inl ⟨c,HX.out.1,.inr (.inr HX.out.2),rfl⟩⟩;exact eY HB9.out (by have:=HN.out;omega) _ _ _ _ _ _ _ _
    ·have m0:=hrm.cell 0;have m1:=hrm.cell 1;simp only[List.getElem?_cons_zero,List.getElem?_cons_succ] at m0 m1;have lm:=hrm.lt;have fc:=fun j=>hL1.bc.frozen j
     have lc1:=hL1.bc.lt;obtain⟨z1,dc1⟩:=HK1.out.cell (j:=5) (by decide)
     obtain⟨z2,dc2⟩:=HK1.out.cell (j:=6) (by decide)
     have HX:=aA (And.intro hT (And.intro hF (And.intro lcb hbc)));clear hL1 hT hF HK hrm hbc;go_wp2_with fail;go_roundw
     case rel=>
      go_light;exact⟨3,by omega,by go_num,HK1.out.step2 (show cb<wr.heap.size+1 by have:=HX.out.2.2.1;omega) HX.out.1 HX.out.2.1⟩
     case measure=>simp[intOf]
   ·clear PT0 PT1 PT2;obtain⟨g0,D0,g1,D1,g2,D2,q0,q1,q2,s0,s1,s2,hrow,hfin⟩:=hK.done;have d:=fun j=>hrow.cell j
    have lo:=hrow.lt;have da:∀j,wr.cell? ⟨n+1,j,none⟩=zb8[j]? :=fun j=>by rw[HN.out];exact hL.st.bo.cell j
    have fa:∀j,wr.frozen? ⟨n+1,j,none⟩=false:=fun j=>by rw[HN.out];exact hL.st.bo.frozen j
    have la:n+1<wr.heap.size:=by rw[HN.out];exact hL.st.bo.lt
    simp only[zb8] at da;have HF:=aA hfin;clear hfin hK hL hrow HK;go_wp2_with fail;refine bodyPost_ret (v:=.tuple #[.agg #[.slice VA ss.length VC,.slice (some ⟨g0,0,none⟩) q0.length D0,.int .i64 s0,.slice (some ⟨g1,0,none⟩) q1.length D1,.int .i64 s1,.slice (some ⟨g2,0,none⟩) q2.length D2,.int .i64 s2,.int .i64 t],.int .i64 0]) (by simp[results,Tryz.results66,go_sem,da]) rfl ?_
    have:=HF.out (.slice VA ss.length VC) (.slice (some ⟨g0,0,none⟩) q0.length D0) (.int .i64 s0) (.slice (some ⟨g1,0,none⟩) q1.length D1) (.int .i64 s1) (.slice (some ⟨g2,0,none⟩) q2.length D2) (.int .i64 s2) (.int .i64 t);rw[<-HN.out] at this;exact⟨HN.out▸this.1,.inr ⟨VA,VC,g0,D0,g1,D1,g2,D2,q0,q1,q2,s0,s1,s2,rfl,HN.out▸this.2.1,HN.out▸this.2.2.1,HN.out▸this.2.2.2.1,HN.out▸this.2.2.2.2.1,this.2.2.2.2.2⟩⟩

end
end Go.Proofs.YtlojfgdpmaigmagGreatDoor

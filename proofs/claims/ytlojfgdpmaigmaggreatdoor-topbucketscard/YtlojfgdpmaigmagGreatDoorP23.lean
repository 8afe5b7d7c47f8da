/- Bytes that a call goes on appending to: where they lie, and what an append makes of them. -/
import Derived.Test.YtlojfgdpmaigmagGreatDoorP22
import Derived.Deep.Upon
import Derived.Test.YtlojfgdpmaigmagGreatDoorP08
namespace Go.Proofs.YtlojfgdpmaigmagGreatDoor
section
open Go.RowKit Plain

theorem qrr:(Tryz.prog.info? 5).map (fun i=>(i.zero,i.size,i.bytes))=some (some (.int .u8 0),1,1):=by kernel_rfl

def bY(B:Nat)(w:World)(v:Value)(bs:List Int):Prop:=
 ∃g cap,v=.slice (some ⟨g,0,none⟩) bs.length cap/\B<=g/\g<w.heap.size/\bs.length<=cap/\cap<=9223372036854775807/\(∀j,j<cap->(w.cell? ⟨g,j,none⟩).isSome=true/\w.frozen? ⟨g,j,none⟩=false)/\∀j u,(u8s bs)[j]? =some u->w.cell? ⟨g,j,none⟩=some u

structure Grew(w w':World)(v v':Value):Prop where
 os:w'.os=w.os
 tape:w'.tape=w.tape
 output:w'.output=w.output
 size:w.heap.size<=w'.heap.size
 block:∀k,k<w.heap.size->some k≠v.ownBlock->w'.heap[k]? =w.heap[k]?
 own:v'.ownBlock=v.ownBlock\/∀k,v'.ownBlock=some k->w.heap.size<=k

section
variable {B : Nat} {w w' w1 w2 : World} {v v' v1 v2 : Value} {bs : List Int}

theorem Grew.refl(w:World)(v:Value):Grew w w v v:=⟨rfl,rfl,rfl,Nat.le_refl _,fun _ _ _=>rfl,.inl rfl⟩

theorem Grew.trans(h1:Grew w w1 v v1)(h2:Grew w1 w2 v1 v2):Grew w w2 v v2:=by
 have hs:=h1.size;refine⟨h2.os.trans h1.os,h2.tape.trans h1.tape,h2.output.trans h1.output,Nat.le_trans hs h2.size,fun k hk hn=>(h2.block k (by omega) fun e=>?_).trans (h1.block k hk hn),?_⟩
 ·rcases h1.own with h|h
  ·exact hn (e.trans h)
  ·have:=h k e.symm;omega
 ·rcases h2.own with h|h
  ·rcases h1.own with h'|h'
   ·exact .inl (h.trans h')
   ·exact .inr fun k hk=>h' k (h.symm.trans hk)
  ·exact .inr fun k hk=>Nat.le_trans hs (h k hk)

theorem Grew.ahead(hb:Below w.heap.size w w1)(h:Grew w1 w2 v v2):Grew w w2 v v2:=
 Grew.trans ⟨hb.os,hb.tape,hb.output,hb.size,fun k hk _=>hb.block k hk,.inl rfl⟩ h

theorem Grew.behind(h:Grew w w1 v v1)(hb:Below w1.heap.size w1 w2):Grew w w2 v v1:=
 Grew.trans h ⟨hb.os,hb.tape,hb.output,hb.size,fun k hk _=>hb.block k hk,.inl rfl⟩

theorem bY.own(h:bY B w v bs):∃g,v.ownBlock=some g/\B<=g/\g<w.heap.size:=by
 obtain⟨g,cap,rfl,hg,hl,_⟩:=h;exact⟨g,rfl,hg,hl⟩

theorem Grew.below(h:Grew w w' v v')(hv:bY B w v bs):Below B w w':=by
 obtain⟨g,e,hg,_⟩:=hv.own;refine⟨h.os,h.tape,h.output,h.size,fun k hk=>h.block k (by omega) ?_⟩
 rw[e];intro q;cases q;omega

theorem Grew.kept(h:Grew w w' v v')(hv:bY B w1 v bs){k:Nat}(hk:w1.heap.size<=k)(hl:k<w.heap.size):w'.heap[k]? =w.heap[k]? :=by
 obtain⟨g,e,_,hg⟩:=hv.own;refine h.block k hl ?_;rw[e];intro q;cases q;omega

theorem bY.blocks(h:bY B w v bs)(hk:∀k,B<=k->k<w.heap.size->w'.heap[k]? =w.heap[k]?)(hs:w.heap.size<=w'.heap.size):bY B w' v bs:=by
 obtain⟨g,cap,hv,hB,hg,h1,h2,h3,h4⟩:=h;have e:=hk g hB hg;refine⟨g,cap,hv,hB,Nat.lt_of_lt_of_le hg hs,h1,h2,fun j hj=>?_,fun j u hu=>(World.cell?_of_block (a:=⟨g,j,none⟩) e).trans (h4 j u hu)⟩
 rw[World.cell?_of_block (a:=⟨g,j,none⟩) e,World.frozen?_of_block (a:=⟨g,j,none⟩) e];exact h3 j hj

theorem bY.below(h:bY B w v bs)(hb:Below w.heap.size w w'):bY B w' v bs:=h.blocks (fun k _ hk=>hb.block k hk) hb.size

theorem bY.alloc(h:bY B w v bs)(o:Obj):bY B (w.alloc o) v bs:=h.below ((Below.refl _ _).alloc (Nat.le_refl _) o)

theorem bY.bytes(h:bY B w v bs):∃g cap,v=.slice (some ⟨g,0,none⟩) bs.length cap/\aW w.heap.size w (some ⟨g,0,none⟩) cap bs:=by
 obtain⟨g,cap,hv,hB,hg,h1,h2,h3,h4⟩:=h;exact⟨g,cap,hv,h1,h2,.inr ⟨g,0,rfl,hg,fun j u hu=>by rw[Nat.zero_add];exact h4 j u hu⟩⟩

theorem q0g(g:Nat):∀(vs:List Value) (o:Nat) (w:World),(w.setCells g o vs).tape=w.tape
 |[],_,_=>rfl
 |v::r,o,w=>q0g g r (o+1) (w.setCell ⟨g,o,none⟩ v)

theorem yY(g:Nat):∀(vs:List Value) (o:Nat) (w:World),(w.setCells g o vs).heap.size=w.heap.size
 |[],_,_=>rfl
 |v::r,o,w=>(yY g r (o+1) (w.setCell ⟨g,o,none⟩ v)).trans (by simp)

theorem isSome_setCells(g:Nat):∀(vs:List Value) (o:Nat) (w:World) (x:Addr),(w.cell? x).isSome=true->((w.setCells g o vs).cell? x).isSome=true
 |[],_,_,_,h=>h
 |v::r,o,w,x,h=>isSome_setCells g r (o+1) _ x (by
   by_cases e:x=⟨g,o,none⟩
   ·obtain⟨u,hu⟩:=Option.isSome_iff_exists.1 h;rw[e] at hu ⊢;rw[World.cell?_setCell_same _ _ _ hu]
    rfl
   ·rw[World.cell?_setCell_other _ _ _ _ (fun h=>e (by simpa using h.symm))]
    exact h)

theorem qmf(h:bY B w v bs)(hB:B<=w.heap.size){tx ty:TypeId}{x:Value}{xs:List Int}(hs:Src Tryz.prog 1 tx x xs.length (u8s xs) w)(hz:bs.length+xs.length<=1000000000):
  ∃v' w',(Builtin.append_ #[60,tx] ty #[v,x]).run Tryz.prog w=.ok v' w'/\bY B w' v' (bs++xs)/\Grew w w' v v':=by
 obtain⟨i,hi,hz0,hz1,hz2⟩:=info_parts qrr;obtain⟨g,cap,rfl,hg,hgl,h1,h2,h3,h4⟩:=h;have hl1:=qP bs;have hl2:=qP xs
 by_cases hr:bs.length+xs.length<=cap
 ·have hrun:=run_append_room_src (P:=Tryz.prog) w 60 tx ty 5 i Tryz.underlying60 hi g 0 bs.length cap x xs.length (u8s xs) (by rw[hz1];exact hs) hr
   (fun j hj=>by rw[hz1,Nat.zero_add,Nat.mul_one];exact(h3 _ (by omega)).1) (fun j hj=>by rw[hz1,Nat.zero_add,Nat.mul_one];exact(h3 _ (by omega)).2)
  rw[hz1,Nat.zero_add,Nat.mul_one] at hrun;refine⟨_,_,hrun,⟨g,cap,by rw[List.length_append],hg,by rw[yY];exact hgl,by rw[List.length_append];exact hr,h2,fun j hj=>⟨isSome_setCells g _ _ _ _ (h3 j hj).1,by rw[World.frozen?_setCells];exact(h3 j hj).2⟩,fun j u hu=>?_⟩,?_⟩
  ·rw[zV] at hu
   by_cases hj:j<bs.length
   ·rw[World.cell?_setCells_out g _ _ _ _ (fun _ _=>.inl hj)]
    rw[List.getElem?_append_left (by omega)] at hu
    exact h4 j u hu
   ·rw[List.getElem?_append_right (by omega),hl1] at hu
    obtain⟨hjl,hju⟩:=List.getElem?_eq_some_iff.1 hu;have k:=World.cell?_setCells_in g (u8s xs) bs.length w (fun j' hj'=>(h3 _ (by omega)).1) (j-bs.length) hjl
    rw[show bs.length+(j-bs.length)=j by omega] at k
    rw[k,hju]
  ·exact⟨World.os_setCells _ _ _ _,q0g _ _ _ _,World.output_setCells _ _ _ _,by rw[yY];exact Nat.le_refl _,fun k hk hn=>World.heap_setCells_other _ _ _ _ hk (fun e=>hn (by rw[e];rfl)),.inl rfl⟩
 ·have hrun:=run_append_grow_src (P:=Tryz.prog) w 60 tx ty 5 i (.int .u8 0) Tryz.underlying60 hi hz0 (some ⟨g,0,none⟩) bs.length cap (u8s bs)
   (by rw[hz1];exact run_firstCells_some (P:=Tryz.prog) w.drew 1 bs.length ⟨g,0,none⟩ bs.length cap (u8s bs) (by omega) (fun j u hu=>by rw[Addr.add_lit,Nat.zero_add];exact h4 j u hu)) x xs.length (u8s xs) (by rw[hz1];exact hs) (by omega) (by omega) (by rw[hz2];exact growslice_fits (by omega) (by omega))
  have hge:=grownCap_ge w (bs.length+xs.length) cap 5;have hcm:grownCap w (bs.length+xs.length) cap 5<=maxLen:=grownCap_le_maxLen w (bs.length+xs.length) cap 5 (by unfold maxLen;omega)
  obtain⟨D,hD⟩:∃D,grownCap w (bs.length+xs.length) cap 5=D:=⟨_,rfl⟩;rw[hD] at hrun hge hcm;obtain⟨ar,har⟩:∃ar,(u8s bs++u8s xs).toArray++Builtin.zeroCells (Value.int .u8 0).cells (D-(bs.length+xs.length))=ar:=⟨_,rfl⟩;have hn:(w.drew.alloc (.cells ar 5)).heap[w.heap.size]? =some (.cells ar 5 (0,0)):=heap_alloc_new w.drew _
  have hsz:ar.size=D:=by
   rw[<-har,Array.size_append,size_zeroCells,List.size_toArray,List.length_append,hl1,hl2,show(Value.int IntKind.u8 0).cells.size=1 from rfl];omega
  rw[har] at hrun;have hc:∀j,(w.drew.alloc (.cells ar 5)).cell? ⟨w.heap.size,j,none⟩=ar[j]? :=fun j=>cell_of_row _ _ _ _ _ _ hn
  refine⟨_,_,hrun,⟨w.heap.size,D,by rw[List.length_append],hB,by simp,by rw[List.length_append];exact hge,by unfold maxLen at hcm;omega,fun j hj=>⟨by rw[hc,Array.getElem?_eq_getElem (by omega)];rfl,?_⟩,fun j u hu=>?_⟩,?_⟩
  ·unfold World.frozen?;rw[hn];simp
  ·rw[hc,<-har,Array.getElem?_append_left (by rw[List.size_toArray,List.length_append];rw[zV] at hu;have:=(List.getElem?_eq_some_iff.1 hu).1;rw[List.length_append] at this;omega),List.getElem?_toArray,<-zV]
   exact hu
  ·exact⟨rfl,rfl,rfl,by simp,fun k hk _=>heap_alloc_old w.drew _ (show k<w.heap.size by omega),.inr fun k hk=>by cases hk;exact Nat.le_refl _⟩
end

theorem qc8(w:World)(x:Int):Src Tryz.prog 1 60 (.slice (some ⟨w.heap.size,0,none⟩) 1 1) [x].length (u8s [x]) (w.alloc (.cells #[.int .u8 x] 5)):=
 Src.ofSlice _ Tryz.underlying60 _ _ _ _ rfl (fun j u hu=>by
  cases j with
  |zero=>
   cases hu;simp[Addr.add]
  |succ j=>simp[u8s] at hu) (qhl [x])

theorem qnz(w:World)(s:ByteArray):Src Tryz.prog 1 9 (.string s) (fK s).length (u8s (fK s)) w:=by
 have h:=Src.ofString (P:=Tryz.prog) w (tx:=9) (by kernel_rfl) s
 have e:byteCells s=u8s (fK s):=by
  unfold byteCells u8s fK;rw[List.map_map]
  rfl
 have l:(fK s).length=s.size:=by
  have:=byteCells_length s;rw[e,qP] at this;exact this
 rw[l,<-e];exact h

theorem qnk{w:World}{g n:Nat}{xs:List Int}(h:RowL w g 5 (u8s xs))(hn:n=xs.length)(C:Nat):Src Tryz.prog 1 60 (.slice (some ⟨g,0,none⟩) n C) xs.length (u8s xs) w:=by
 subst hn;refine Src.ofSlice _ Tryz.underlying60 _ _ _ _ (by rw[qP,Nat.mul_one]) (fun j u hu=>?_) (qhl xs)
 rw[Addr.add_lit,Nat.zero_add,h.cell j];exact hu

theorem vF{w:World}{ops:Array Oper}{rest:List Oper}{o:Oper}{a:Act}{Q:Exit->Act->World->Prop}(hgd:o.guard=none)(sl x:Operand)(tx:TypeId)
  (ho:o.op=.call { callee:=.builtin .append,args:=#[sl,x],argTypes:=#[60,tx] })
  (B:Nat) (v vx:Value) (bs xs:List Int) (hs:a.eval sl=v) (hbuf:bY B w v bs) (hx:a.eval x=vx) (hsrc:Src Tryz.prog 1 tx vx xs.length (u8s xs) w) (hB:B<=w.heap.size) (hz:bs.length+xs.length<=1000000000)
  (h:∀v' w',bY B w' v' (bs++xs)->Grew w w' v v'->wpList Tryz.prog ops Q rest (a.put o.dst v') w'):wpList Tryz.prog ops Q (o::rest) a w:=by
 refine wpList_plain hgd fun K hK=>?_
 obtain⟨v',w',hr,h2,h3⟩:=qmf hbuf hB (ty:=o.type) hsrc hz;unfold Oper.wp execOp;simp only[ho,resolve,invoke,builtin,Sem.run_bind,Sem.run_pure,Result.andThen_ok,List.map_toArray,List.map_cons,List.map_nil,hs,hx,hr];exact hK _ _ (h v' w' h2 h3)

end
section
open Go.RowKit Plain

def kP(B:Nat)(v:Value)(bs:List Int)(w:World)(e:Ending)(w':World):Prop:=∃v',e=.returned v'/\bY B w' v' bs/\Grew w w' v v'

theorem pX{n:Nat}(k:Nat)(h:n<128 ^ k)(hk:0<k):(sev n).length<=k:=by
 induction k generalizing n with
 |zero=>omega
 |succ k ih=>
  rw[sev]
  split
  ·simp
  ·rw[List.length_cons]
   by_cases h0:k=0
   ·subst h0;simp at h;omega
   ·have:=ih (n:=n/128) (by rw[Nat.div_lt_iff_lt_mul (by omega),<-Nat.pow_succ];exact h) (by omega)
    omega

set_option maxRecDepth 20000 in
set_option maxHeartbeats 2000000 in
theorem vG(B:Nat)(v:Value)(bs:List Int)(n:Nat)(w:World)(hB:B<=w.heap.size)(h:bY B w v bs)(hn:n<9223372036854775808)(hz:bs.length<=900000000):
  Calls Tryz.prog 58 #[v,.int .i64 (n:Int)] w (kP B v (bs++sev n) w):=by
 have hlen:(sev n).length<=9:=pX 9 (by omega) (by omega)
 obtain⟨all,hall⟩:∃all,bs++sev n=all:=⟨_,rfl⟩;rw[hall];have hallL:all.length<=900000009:=by rw[<-hall,List.length_append];omega
 unfold kP;have HA:=aF hall;have HBf:=aF h;clear hall h hlen
 go_enter Tryz.func58,Tryz.ntmps58
 go_wp2_with fail
 go_loopw [0,1] (fun vl vn wr=>∃(m:Nat) (xs:List Int),m<9223372036854775808/\vn=.int .i64 (m:Int)/\Hid (xs++sev m=all)/\Hid (bY B wr vl xs)/\Hid (Grew w wr v vl)) (fun _ vn _=>(intOf vn).toNat)
 case atStart=>exact⟨n,bs,hn,rfl,HA.out,HBf.out,Grew.refl _ _⟩
 case round=>
  obtain⟨m,xs,hm,rfl,HE,HX,HW⟩:=hrel
  have hxl:xs.length<=900000009:=by
   have:=congrArg List.length HE.out;rw[List.length_append] at this;omega
  have hBr:B<=wr.heap.size:=Nat.le_trans hB HW.out.size
  by_cases hlt:128<=m
  ·have q:(128:Int)<=(m:Int):=by omega
   have HE2:Hid ((xs++[(m:Int)%128+128])++sev (m/128)=all):=by
    have h1:=HE.out;rw[sev,dif_neg (by omega)] at h1
    rw[List.append_assoc];rw[show((128+m%128:Nat):Int)=(m:Int)%128+128 by omega] at h1
    exact h1
   have k1:(m:Int).tmod 128=(m:Int)%128:=Int.tmod_eq_emod_of_nonneg (by omega)
   have k2:IntKind.i64.wrap ((m:Int)%128+128)=(m:Int)%128+128:=by rw[IntKind.wrap_i64];omega
   have k3:IntKind.u8.wrap ((m:Int)%128+128)=(m:Int)%128+128:=by simp[IntKind.wrap,IntKind.bits,IntKind.signed];omega
   have k4:(m:Int).tdiv 128=(m:Int)/128:=Int.tdiv_eq_ediv_of_nonneg (by omega)
   clear HE
   go_wp2_with (first
    |(at_builtin;refine vF rfl _ _ 60 rfl B _ _ xs [(m:Int)%128+128] rfl (HX.out.alloc _) rfl (qc8 wr _) (by simp;omega) (by simp;omega) ?_;intro v4 w4 hbuf4 hb4))
   exact⟨⟨m/128,xs++[(m:Int)%128+128],by omega,by go_num,HE2,hbuf4,HW.out.trans (Grew.ahead ((Below.refl _ _).alloc (Nat.le_refl _) _) hb4)⟩,by simp only[intOf];omega⟩
  ·have q:¬(128:Int)<=(m:Int):=by omega
   have HE2:Hid (xs++[(m:Int)]=all):=by
    have h1:=HE.out;rw[yQ (by omega)] at h1
    exact h1
   have k3:IntKind.u8.wrap (m:Int)=(m:Int):=by simp[IntKind.wrap,IntKind.bits,IntKind.signed];omega
   clear HE
   go_wp2_with (first
    |(at_builtin;refine vF rfl _ _ 60 rfl B _ _ xs [(m:Int)] rfl (HX.out.alloc _) rfl (qc8 wr (m:Int)) (by simp;omega) (by simp;omega) ?_;intro v4 w4 hbuf4 hb4))
   go_ret;rw[HE2.out] at hbuf4;exact⟨_,rfl,hbuf4,HW.out.trans (Grew.ahead ((Below.refl _ _).alloc (Nat.le_refl _) _) hb4)⟩

theorem qjj(n:Int)(w:World)(h:big n):Calls Tryz.prog 83 #[.int .i64 n] w fun e w'=>e=.returned (.int .i64 (((gB n).toNat:Nat):Int))/\w'=w:=by
 have hf:=uK n;rw[show(((gB n).toNat:Nat):Int)=gB n by omega]
 clear hf;obtain⟨h0,h1⟩:=h;unfold gB
 by_cases hn:n<0
 ·rw[if_pos hn];have k1:IntKind.i64.wrap (-2*n)=-2*n:=by rw[IntKind.wrap_i64];omega
  have k2:IntKind.i64.wrap (-2*n-1)=-2*n-1:=by rw[IntKind.wrap_i64];omega
  go_enter Tryz.func83,Tryz.ntmps83
  go_wp2;go_ret;exact⟨rfl,rfl⟩
 ·rw[if_neg hn];have k1:IntKind.i64.wrap (2*n)=2*n:=by rw[IntKind.wrap_i64];omega
  go_enter Tryz.func83,Tryz.ntmps83
  go_wp2;go_ret;exact⟨rfl,rfl⟩

set_option maxRecDepth 20000 in
set_option maxHeartbeats 2000000 in
theorem q1f(B:Nat)(v:Value)(bs:List Int)(A:Option Addr)(C:Nat)(ss:List ByteArray)(w:World)(hB:B<=w.heap.size)(h:bY B w v bs)(hS:aH B w A (strs ss))(hz:(bs++lZ ss).length<=900000000)(hn:ss.length<9223372036854775808):
  Calls Tryz.prog 57 #[v,.slice A ss.length C] w (kP B v (bs++lZ ss) w):=by
 have hbl:bs.length<=900000000:=by rw[List.length_append] at hz;omega
 have hE:(bs++sev ss.length)++(ss.drop 0).flatMap fB=bs++lZ ss:=by rw[List.append_assoc,List.drop_zero];rfl
 obtain⟨all,hall⟩:∃all,bs++lZ ss=all:=⟨_,rfl⟩;rw[hall] at hE hz ⊢;unfold kP;have HE0:=aF hE;have con:=aF (vG B v bs ss.length w hB h hn hbl);have HSR:=aF hS;have HBf:=aF h;unfold kP at con;clear hall hE h hS
 go_enter Tryz.func57,Tryz.ntmps57
 go_wp2_with (first
  |(go_at_call 58;refine con.out.mono ?_;rintro e w1 ⟨v1,rfl,hbuf1,hg1⟩))
 go_loopw [0,6,13] (fun vl _ vi wr=>∃(i:Nat) (xs:List Int),i<=ss.length/\vi=.int .i64 (i:Int)/\Hid (xs++(ss.drop i).flatMap fB=all)/\Hid (bY B wr vl xs)/\Hid (Grew w wr v vl)) (fun _ _ vi _=>ss.length-(intOf vi).toNat)
 case atStart=>exact⟨0,_,Nat.zero_le _,rfl,HE0.out,hbuf1,hg1⟩
 case round=>
  obtain⟨i,xs,hi,rfl,HE,HX,HW⟩:=hrel;have HL:Hid (Below B w wr):=HW.out.below HBf.out;have hBr:B<=wr.heap.size:=Nat.le_trans hB HW.out.size
  by_cases hlt:i<ss.length
  ·obtain⟨sb,so,rfl,hsb,hc,-⟩:=(HSR.out.below HL.out (Nat.le_refl _)).str hlt;have h1:=HE.out;rw[List.drop_eq_getElem_cons hlt,List.flatMap_cons] at h1;obtain⟨s,hs⟩:∃s,ss[i]=s:=⟨_,rfl⟩;rw[hs] at h1 hc
   have HE2:Hid (((xs++sev s.size)++fK s)++(ss.drop (i+1)).flatMap fB=all):=by
    show _=_;rw[<-h1];simp only[fB,List.append_assoc]
   have hlen:xs.length+(sev s.size).length+(fK s).length<=900000000:=by
    have:=congrArg List.length HE2.out;simp only[List.length_append] at this;omega
   have hss:(fK s).length=s.size:=by
    have:=byteCells_length s
    have e:byteCells s=u8s (fK s):=by
     unfold byteCells u8s fK;rw[List.map_map]
     rfl
    rw[e,qP] at this;exact this
   have con2:=aF (vG B u0 xs s.size wr hBr HX.out (by omega) (by omega))
   unfold kP at con2;have hBr':sb<wr.heap.size:=by omega
   have hll:(xs++sev s.size).length+(fK s).length<=1000000000:=by rw[List.length_append];omega
   clear h1 hs HE HX hlen hss
   go_wp2_with (first
    |(go_at_call 58;refine con2.out.mono ?_;rintro e w2 ⟨v2,rfl,hbuf2,hg2⟩;have hB2:B<=w2.heap.size:=Nat.le_trans hBr hg2.size)
    |(at_builtin;refine vF rfl _ _ 9 rfl B _ _ (xs++sev s.size) (fK s) rfl hbuf2 rfl (qnz w2 s) hB2 hll ?_;intro v4 w4 hbuf4 hb4))
   exact⟨⟨i+1,_,hlt,by go_num,HE2,hbuf4,HW.out.trans (hg2.trans hb4)⟩,by simp only[intOf];omega⟩
  ·have hni:¬((i:Int)<(ss.length:Int)):=by omega
   have h1:=HE.out;rw[List.drop_of_length_le (by omega),List.flatMap_nil,List.append_nil] at h1
   clear HE;go_wp2_with fail;go_ret;rw[h1] at HX;exact⟨_,rfl,HX.out,HW.out⟩

theorem vJ(B:Nat)(v:Value)(bs:List Int)(n:Int)(w:World)(hB:B<=w.heap.size)(h:bY B w v bs)(h0:0<=n)(hn:n<9223372036854775808)(hz:bs.length<=900000000):
  Calls Tryz.prog 58 #[v,.int .i64 n] w (kP B v (bs++sev n.toNat) w):=by
 have k:=vG B v bs n.toNat w hB h (by omega) hz
 rw[show((n.toNat:Nat):Int)=n by omega] at k
 exact k

theorem qf7(n:Int)(w:World)(h:big n):Calls Tryz.prog 83 #[.int .i64 n] w fun e w'=>e=.returned (.int .i64 (gB n))/\w'=w:=by
 have k:=qjj n w h;rw[show(((gB n).toNat:Nat):Int)=gB n by have:=uK n;omega] at k
 exact k

theorem qcc{n:Int}(h:big n):0<=gB n/\gB n<9223372036854775808:=by
 have:=q8z h;have:=uK n;omega

def jQ(x:En):List Int:=[x.s,x.lo,x.hi,x.l]

theorem qgo(a:Int)(x:En)(xs:List Int):((xs++sev (x.key-a).toNat)++sev x.c.toNat)++((jQ x).drop 0).flatMap zig=xs++encP a x:=by
 simp[jQ,encP,List.append_assoc]

structure Told(x:En):Prop where
 k0:0<=x.key
 k1:x.key<1099511627776
 c0:0<=x.c
 c1:x.c<72057594037927936
 s:big x.s
 lo:big x.lo
 hi:big x.hi
 l:big x.l

set_option maxRecDepth 20000 in
set_option maxHeartbeats 4000000 in
theorem q1d(B:Nat)(v:Value)(bs:List Int)(A:Option Addr)(C:Nat)(L:List En)(w:World)(hB:B<=w.heap.size)(h:bY B w v bs)(hS:aH B w A (aB L))(hz:(bs++(sev L.length++dB 0 L)).length<=900000000)(hn:L.length<9223372036854775808)
  (hp:L.Pairwise fun a b=>a.key<b.key) (ht:∀x∈L,Told x):
  Calls Tryz.prog 59 #[v,.slice A L.length C] w (kP B v (bs++(sev L.length++dB 0 L)) w):=by
 have hbl:bs.length<=900000000:=by rw[List.length_append] at hz;omega
 have hE:(bs++sev L.length)++dB 0 (L.drop 0)=bs++(sev L.length++dB 0 L):=by rw[List.append_assoc,List.drop_zero]
 obtain⟨all,hall⟩:∃all,bs++(sev L.length++dB 0 L)=all:=⟨_,rfl⟩;rw[hall] at hE hz ⊢;unfold kP;have HE0:=aF hE;have con:=aF (vG B v bs L.length w hB h hn hbl);have HSR:=aF hS;have HBf:=aF h;have HP:=aF hp;have HT:=aF ht;have HK0:Hid ((0:Int)<=0/\∀x∈L.drop 0,(0:Int)<=x.key):=⟨Int.le_refl 0,fun x hx=>(ht x (by simpa using hx)).k0⟩
 unfold kP at con;clear hall hE h hS hp ht
 go_enter Tryz.func59,Tryz.ntmps59
 go_wp2_with (first
  |(go_at_call 58;refine con.out.mono ?_;rintro e w1 ⟨v1,rfl,hbuf1,hg1⟩))
 go_loopw [0,5,16] (fun vl va vi wr=>∃(i:Nat) (a:Int) (xs:List Int),i<=L.length/\vi=.int .i64 (i:Int)/\va=.int .i64 a/\Hid (0<=a/\∀x∈L.drop i,a<=x.key)/\Hid (xs++dB a (L.drop i)=all)/\Hid (bY B wr vl xs)/\Hid (Grew w wr v vl)) (fun _ _ vi _=>L.length-(intOf vi).toNat)
 case atStart=>exact⟨0,0,_,Nat.zero_le _,rfl,rfl,HK0.out,HE0.out,hbuf1,hg1⟩
 case round=>
  obtain⟨i,a,xs,hi,rfl,rfl,HK,HE,HX,HW⟩:=hrel;obtain⟨vo,hvo⟩:∃vo,vo=u0:=⟨_,rfl⟩;subst hvo;have HL:Hid (Below B w wr):=HW.out.below HBf.out;have hBr:B<=wr.heap.size:=Nat.le_trans hB HW.out.size
  by_cases hlt:i<L.length
  ·obtain⟨sb,so,rfl,hsb,d0,d1,d2,d3,d4,d5,d6⟩:=(HSR.out.below HL.out (Nat.le_refl _)).en hlt;have h1:=HE.out;have h2:=HK.out.2;have h3:(L.drop i).Pairwise fun a b=>a.key<b.key:=HP.out.sublist (List.drop_sublist i L)
   have ht:=HT.out _ (List.getElem_mem hlt);rw[List.drop_eq_getElem_cons hlt] at h1 h2 h3;obtain⟨x,hx⟩:∃x,L[i]=x:=⟨_,rfl⟩;rw[hx] at h1 h2 h3 ht d0 d1 d2 d3 d4 d5 d6
   have HE2:Hid ((xs++encP a x)++dB x.key (L.drop (i+1))=all):=by
    show _=_;rw[<-h1,List.append_assoc]
    rfl
   have HK2:Hid (0<=x.key/\∀y∈L.drop (i+1),x.key<=y.key):=⟨ht.k0,fun y hy=>Int.le_of_lt ((List.pairwise_cons.1 h3).1 y hy)⟩
   have hax:a<=x.key:=h2 x (by simp)
   have ha0:=HK.out.1;have hk1:=ht.k1;obtain⟨mid,hmid⟩:∃mid,xs++encP a x=mid:=⟨_,rfl⟩
   have HM:Hid (((xs++sev (x.key-a).toNat)++sev x.c.toNat)++((jQ x).drop 0).flatMap zig=mid):=by
    show _=_;rw[qgo,hmid]
   rw[hmid] at HE2;have HE3:=HE2
   have hml:mid.length<=900000000:=by
    have:=congrArg List.length HE2.out;rw[List.length_append] at this;omega
   have hl1:=congrArg List.length HM.out;simp only[List.length_append] at hl1;have HTx:=aF ht;have k1:IntKind.i64.wrap (x.key-a)=x.key-a:=by rw[IntKind.wrap_i64];omega
   have hsr:sb<wr.heap.size:=by omega
   clear h1 h2 h3 ht hx HE HK hmid;have q0:(0:Int)<=(i:Int):=by omega
   have q1:(i:Int)<(L.length:Int):=by omega
   go_upto_region 6 with fail;obtain⟨wb,hwb⟩:∃wb,wb=wr.alloc (.cells #[.int .i64 x.key,.int .i64 x.c,.int .i64 x.s,.int .i64 x.lo,.int .i64 x.hi,.int .i64 x.t,.int .i64 x.l] 132):=⟨_,rfl⟩;obtain⟨xb,hxb⟩:∃xb,xb=wr.heap.size:=⟨_,rfl⟩;have HBw:Hid (Below wr.heap.size wr wb):=by rw[hwb];exact(Below.refl _ _).alloc (Nat.le_refl _) _
   have XB:Hid (RowL wb xb 132 [.int .i64 x.key,.int .i64 x.c,.int .i64 x.s,.int .i64 x.lo,.int .i64 x.hi,.int .i64 x.t,.int .i64 x.l]):=by rw[hwb,hxb];exact aG wr _ _
   have HBb:Hid (bY B wb vo xs):=HX.out.below HBw.out;have HG:Hid (Grew w wb v vo):=HW.out.behind HBw.out;have HXk:Hid (∀W v',Grew wb W vo v'->RowL W xb 132 [.int .i64 x.key,.int .i64 x.c,.int .i64 x.s,.int .i64 x.lo,.int .i64 x.hi,.int .i64 x.t,.int .i64 x.l]):=fun W v' hW=>XB.out.of_block (hW.kept HX.out (by omega) XB.out.lt)
   have hBb:B<=wb.heap.size:=Nat.le_trans hBr HBw.out.size;have conA:=aF (vJ B vo xs (x.key-a) wb hBb HBb.out (by omega) (by omega) (by omega))
   unfold kP at conA;rw[<-hwb,<-hxb];clear hwb hxb HBw d0 d1 d2 d3 d4 d5 d6;have b:=fun j=>XB.out.cell j
   have lb:=XB.out.lt;have P0:True:=trivial
   go_upto_region 8 with(first
    |(go_at_call 58;have kk:=P0;clear kk;refine conA.out.mono ?_;rintro e w1 ⟨v1,rfl,hbuf1,hg1⟩;have X1:=aF (HXk.out _ _ hg1);have b1:=fun j=>X1.out.cell j;have lb1:=X1.out.lt;have conB:=aF (vJ B v1 _ x.c w1 (Nat.le_trans hBb hg1.size) hbuf1 HTx.out.c0 (by have:=HTx.out.c1;omega) (by rw[List.length_append];omega));unfold kP at conB;have P1:True:=trivial;clear P0 b lb)
    |(go_at_call 58;have kk:=P1;clear kk;refine conB.out.mono ?_;rintro e w2 ⟨v2,rfl,hbuf2,hg2⟩;have HG2:=aF (hg1.trans hg2);have X2:=aF (HXk.out _ _ HG2.out);have b2:=fun j=>X2.out.cell j;have lb2:=X2.out.lt;clear P1 b1 lb1))
   have i0:∀w,(Instr.index 135 (.agg #[.int .i64 x.s,.int .i64 x.lo,.int .i64 x.hi,.int .i64 x.l]) (.int .i64 0)).run Tryz.prog w=.ok (.int .i64 x.s) w:=fun _=>by kernel_rfl
   have i1:∀w,(Instr.index 135 (.agg #[.int .i64 x.s,.int .i64 x.lo,.int .i64 x.hi,.int .i64 x.l]) (.int .i64 1)).run Tryz.prog w=.ok (.int .i64 x.lo) w:=fun _=>by kernel_rfl
   have i2:∀w,(Instr.index 135 (.agg #[.int .i64 x.s,.int .i64 x.lo,.int .i64 x.hi,.int .i64 x.l]) (.int .i64 2)).run Tryz.prog w=.ok (.int .i64 x.hi) w:=fun _=>by kernel_rfl
   have i3:∀w,(Instr.index 135 (.agg #[.int .i64 x.s,.int .i64 x.lo,.int .i64 x.hi,.int .i64 x.l]) (.int .i64 3)).run Tryz.prog w=.ok (.int .i64 x.l) w:=fun _=>by kernel_rfl
   go_wp2_with fail
   go_loopw [0,44] (fun vl vj ws=>∃(j:Nat) (ys:List Int),j<=4/\vj=.int .i64 (j:Int)/\Hid (ys++((jQ x).drop j).flatMap zig=mid)/\Hid (bY B ws vl ys)/\Hid (Grew wb ws vo vl)) (fun _ vj _=>4-(intOf vj).toNat)
   case atStart=>exact⟨0,_,Nat.zero_le _,rfl,HM.out,hbuf2,HG2.out⟩
   case round=>
    obtain⟨j,ys,hj,rfl,HEj,HXj,HWj⟩:=hrel
    have hyl:ys.length<=900000000:=by
     have:=congrArg List.length HEj.out;rw[List.length_append] at this;omega
    have hBs:B<=wr.heap.size:=Nat.le_trans hBb HWj.out.size
    have step:∀(n:Int),big n->Hid (∀W,W=wr->Calls Tryz.prog 83 #[.int .i64 n] W fun e w'=>e=.returned (.int .i64 (gB n))/\w'=W)/\Hid (Calls Tryz.prog 58 #[u0,.int .i64 (gB n)] wr fun e w'=>∃v',e=.returned v'/\bY B w' v' (ys++zig n)/\Grew wr w' u0 v'):=fun n hn=>by
     have k:=vJ B u0 ys (gB n) wr hBs HXj.out (qcc hn).1 (qcc hn).2 hyl;exact⟨fun W _=>qf7 n W hn,k⟩
    rcases(show j=0\/j=1\/j=2\/j=3\/j=4 by omega) with rfl|rfl|rfl|rfl|rfl
    ·have HE2:Hid ((ys++zig x.s)++((jQ x).drop 1).flatMap zig=mid):=by
      show _=_;rw[<-HEj.out];simp[jQ,List.append_assoc]
     obtain⟨con1,con2⟩:=step _ HTx.out.s;clear HEj step
     go_wp2_with (first
      |(go_at_call 83;refine(con1.out _ rfl).mono ?_;rintro e wx ⟨rfl,hwx⟩;subst wx)
      |(go_at_call 58;refine con2.out.mono ?_;rintro e w3 ⟨v3,rfl,hbuf3,hg3⟩))
     exact⟨⟨1,_,by omega,by go_num,HE2,hbuf3,HWj.out.trans hg3⟩,by simp only[intOf];omega⟩
    ·have HE2:Hid ((ys++zig x.lo)++((jQ x).drop 2).flatMap zig=mid):=by
      show _=_;rw[<-HEj.out];simp[jQ,List.append_assoc]
     obtain⟨con1,con2⟩:=step _ HTx.out.lo;clear HEj step
     go_wp2_with (first
      |(go_at_call 83;refine(con1.out _ rfl).mono ?_;rintro e wx ⟨rfl,hwx⟩;subst wx)
      |(go_at_call 58;refine con2.out.mono ?_;rintro e w3 ⟨v3,rfl,hbuf3,hg3⟩))
     exact⟨⟨2,_,by omega,by go_num,HE2,hbuf3,HWj.out.trans hg3⟩,by simp only[intOf];omega⟩
    ·have HE2:Hid ((ys++zig x.hi)++((jQ x).drop 3).flatMap zig=mid):=by
      show _=_;rw[<-HEj.out];simp[jQ,List.append_assoc]
     obtain⟨con1,con2⟩:=step _ HTx.out.hi;clear HEj step
     go_wp2_with (first
      |(go_at_call 83;refine(con1.out _ rfl).mono ?_;rintro e wx ⟨rfl,hwx⟩;subst wx)
      |(go_at_call 58;refine con2.out.mono ?_;rintro e w3 ⟨v3,rfl,hbuf3,hg3⟩))
     exact⟨⟨3,_,by omega,by go_num,HE2,hbuf3,HWj.out.trans hg3⟩,by simp only[intOf];omega⟩
    ·have HE2:Hid ((ys++zig x.l)++((jQ x).drop 4).flatMap zig=mid):=by
      show _=_;rw[<-HEj.out];simp[jQ]
     obtain⟨con1,con2⟩:=step _ HTx.out.l;clear HEj step
     go_wp2_with (first
      |(go_at_call 83;refine(con1.out _ rfl).mono ?_;rintro e wx ⟨rfl,hwx⟩;subst wx)
      |(go_at_call 58;refine con2.out.mono ?_;rintro e w3 ⟨v3,rfl,hbuf3,hg3⟩))
     exact⟨⟨4,_,by omega,by go_num,HE2,hbuf3,HWj.out.trans hg3⟩,by simp only[intOf];omega⟩
    ·have HE2:Hid (ys=mid):=by
      show _=_;rw[<-HEj.out];simp[jQ]
     have X3:=aF (HXk.out _ _ HWj.out);have b3:=fun j=>X3.out.cell j
     have lb3:=X3.out.lt;clear HEj step;go_wp2_with fail;rw[HE2.out] at HXj;exact⟨⟨i+1,x.key,mid,hlt,by go_num,rfl,HK2,HE3,HXj,HG.out.trans HWj.out⟩,by simp only[intOf];omega⟩
  ·have hni:¬((i:Int)<(L.length:Int)):=by omega
   have h1:=HE.out;rw[List.drop_of_length_le (by omega)] at h1
   unfold dB at h1;rw[List.append_nil] at h1;clear HE;go_wp2_with fail;go_ret;rw[h1] at HX;exact⟨_,rfl,HX.out,HW.out⟩

end
end Go.Proofs.YtlojfgdpmaigmagGreatDoor

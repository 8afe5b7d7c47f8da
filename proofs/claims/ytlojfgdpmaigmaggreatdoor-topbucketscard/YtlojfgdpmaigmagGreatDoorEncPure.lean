/- How many bytes tell a base; which times can be told. -/
import Derived.Test.YtlojfgdpmaigmagGreatDoorP23
import Derived.Test.YtlojfgdpmaigmagGreatDoorP27
namespace Go.Proofs.YtlojfgdpmaigmagGreatDoor
open Go.RowKit Plain

theorem qnd{x:En}(hg:Good x.ru)(h0:0<=x.key)(h1:x.key<1099511627776):Told x:=by
 obtain⟨⟨c0,c1⟩,⟨t0,t1⟩,l0,h2,⟨q0,q1⟩,s0,s1⟩:=good_iff.1 hg;obtain⟨key,c,s,lo,hi,t,l⟩:=x;simp only[En.ru] at *;have m1:=rX (c:=c) (x:=lo) (by omega) c1 (by omega) (by omega)
 have m2:=rX (c:=c) (x:=hi) (by omega) c1 (by omega) (by omega)
 refine⟨h0,h1,by show 0<=c;omega,by show c<_;omega,?_,?_,?_,?_⟩<;>(unfold big;simp only;omega)

theorem sev9{n:Int}(h:n<9223372036854775808):(sev n.toNat).length<=9:=pX 9 (by omega) (by omega)

theorem zig9{n:Int}(h:big n):(zig n).length<=9:=by
 unfold zig;have:=q8z h;exact pX 9 (by omega) (by omega)

theorem qja{a:Int}{x:En}(ha:0<=a)(h:Told x):(encP a x).length<=54:=by
 have k1:=sev9 (n:=x.key-a) (by have:=h.k1;omega)
 have k2:=sev9 (n:=x.c) (by have:=h.c1;omega)
 have k3:=zig9 h.s;have k4:=zig9 h.lo;have k5:=zig9 h.hi;have k6:=zig9 h.l;unfold encP;simp only[List.length_append];omega

theorem q1h:∀(L:List En) (a:Int),0<=a->(∀x∈L,Told x)->(dB a L).length<=54*L.length
 |[],_,_,_=>Nat.le_refl _
 |x::r,a,ha,h=>by
  have k1:=qja ha (h x (by simp))
  have k2:=q1h r x.key (h x (by simp)).k0 fun y hy=>h y (by simp[hy])
  show(encP a x++dB x.key r).length<=54*(r.length+1);rw[List.length_append];omega

theorem qad{s:ByteArray}(h:s.size<=10):(fB s).length<=19:=by
 have:=pX (n:=s.size) 9 (by omega) (by omega)
 unfold fB;rw[List.length_append,q6s];omega

theorem q0y:∀(ss:List ByteArray),(∀s∈ss,s.size<=10)->(ss.flatMap fB).length<=19*ss.length
 |[],_=>Nat.le_refl _
 |s::r,h=>by
  have k1:=qad (h s (by simp))
  have k2:=q0y r fun y hy=>h y (by simp[hy])
  rw[List.flatMap_cons,List.length_append,List.length_cons];omega

theorem q8j{ss:List ByteArray}(h:gJ ss=true):∀s∈ss,s.size<=10:=by
 intro s hs;obtain⟨i,hi,rfl⟩:=List.getElem_of_mem hs;have k:=List.all_eq_true.1 h i (by simpa using hi)
 unfold okN at k;rw[List.getD_eq_getElem?_getD,List.getElem?_eq_getElem hi,Option.getD_some] at k;simp only[Bool.and_eq_true] at k;have k2:=k.1;unfold gX at k2;simp only[Bool.and_eq_true] at k2;have:=(gI _ _ _).1 k2.1;omega

structure yG(ss:List ByteArray)(f:Int)(L:List En):Prop where
 few:ss.length<=16
 nm:∀s∈ss,s.size<=10
 f0:0<=f
 f1:f<=1048575
 rise:L.Pairwise fun a b=>a.key<b.key
 told:∀x∈L,Told x

theorem yG.len{ss:List ByteArray}{f:Int}{L:List En}(h:yG ss f L)(hn:L.length<=28000):
  (lZ ss).length<=400/\(sev f.toNat).length<=9/\(sev L.length++dB 0 L).length<=1600000:=by
 have k1:=q0y ss h.nm;have k2:=pX (n:=ss.length) 9 (by have:=h.few;omega) (by omega)
 have k3:=q1h L 0 (Int.le_refl 0) h.told;have k4:=pX (n:=L.length) 9 (by omega) (by omega)
 have:=h.few;refine⟨?_,sev9 (by have:=h.f1;omega),?_⟩
 ·unfold lZ;rw[List.length_append];omega
 ·rw[List.length_append];omega

theorem qha{ss:List ByteArray}{f:Int}{n0 n1 n2:List Nd}{r0 r1 r2:Int}(h:bM ss f n0 r0 n1 r1 n2 r2=true):yG ss f (allP n0 r0 0 9223372036854775807).2/\(allP n0 r0 0 9223372036854775807).1=0:=by
 obtain⟨L0,L1,L2,hL⟩:=mX h;unfold bM at h;simp only[Bool.and_eq_true,decide_eq_true_eq] at h;obtain⟨h1,h2,_,h3,_⟩:=h;have hf:=(gI _ _ _).1 h2;obtain⟨k1,k2,k3⟩:=gU (ns:=n0) (r:=r0) (low:=0) (high:=9223372036854775807);exact⟨⟨h1,q8j h3,hf.1,hf.2,k1,fun x hx=>qnd (k2 x hx) (k3 x hx).1 (k3 x hx).2⟩,by rw[tV,hL.a0]⟩

end Go.Proofs.YtlojfgdpmaigmagGreatDoor

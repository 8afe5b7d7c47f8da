/- Rows of cells, and what lies in them: numbers, entries. -/
import Derived.Test.YtlojfgdpmaigmagGreatDoorRows
import Derived.Test.YtlojfgdpmaigmagGreatDoorP02
import Derived.WalkKit
import Derived.WalkSpells
import Derived.WalkLawsBesides
import Derived.Handy
import Derived.Deep.Light
import Derived.Deep.OwnRows
import Derived.ProofKit
import Derived.OpenShut
import Derived.Below
import Derived.ChangeOld
import Derived.Test.YtlojfgdpmaigmagGreatDoorP01
namespace Go.Proofs.YtlojfgdpmaigmagGreatDoor
section
open Go.RowKit

def aH(B:Nat)(w:World)(A:Option Addr)(vs:List Value):Prop:=
 vs=[]\/∃b o,A=some ⟨b,o,none⟩/\b<B/\∀j u,vs[j]? =some u->w.cell? ⟨b,o+j,none⟩=some u

theorem aH.below{B B':Nat}{w w':World}{A:Option Addr}{vs:List Value}(h:aH B w A vs)(hb:Below B' w w')(hB:B<=B'):aH B w' A vs:=by
 rcases h with h|⟨b,o,hA,hlt,hc⟩
 ·exact .inl h
 ·exact .inr ⟨b,o,hA,hlt,fun j u hu=>(hb.cell (p:=⟨b,o+j,none⟩) (Nat.lt_of_lt_of_le hlt hB)).trans (hc j u hu)⟩

theorem aH.mono{B B':Nat}{w:World}{A:Option Addr}{vs:List Value}(h:aH B w A vs)(hB:B<=B'):aH B' w A vs:=by
 rcases h with h|⟨b,o,hA,hlt,hc⟩
 ·exact .inl h
 ·exact .inr ⟨b,o,hA,by omega,hc⟩

structure En where
 key:Int
 c:Int
 s:Int
 lo:Int
 hi:Int
 t:Int
 l:Int
deriving DecidableEq,Inhabited

def En.vals(x:En):List Value:=[.int .i64 x.key,.int .i64 x.c,.int .i64 x.s,.int .i64 x.lo,.int .i64 x.hi,.int .i64 x.t,.int .i64 x.l]
def aB:List En->List Value
 |[]=>[]
 |x::r=>x.vals++aB r

theorem gZ:∀xs:List En,(aB xs).length=xs.length*7
 |[]=>rfl
 |x::r=>by simp[aB,En.vals,gZ r];omega

theorem jS:∀xs ys:List En,aB (xs++ys)=aB xs++aB ys
 |[],_=>rfl
 |x::r,ys=>by simp[aB,jS r ys]

theorem q1g(xs:List En)(k j:Nat)(hk:k<xs.length)(hj:j<7):(aB xs)[k*7+j]? =(xs[k]).vals[j]? :=by
 induction xs generalizing k with
 |nil=>simp at hk
 |cons x r ih=>
  cases k with
  |zero=>simp only[aB];rw[List.getElem?_append_left (by simp[En.vals];omega)];simp
  |succ k=>
   simp only[aB];rw[List.getElem?_append_right (by simp[En.vals];omega)]
   have:=ih k (by simpa using hk)
   simp only[En.vals,List.length_cons,List.length_nil] at *;rw[show(k+1)*7+j-(0+1+1+1+1+1+1+1)=k*7+j by omega]
   simpa using this

def ints(zs:List Int):List Value:=zs.map (.int .i64)

theorem aH.int{B:Nat}{w:World}{A:Option Addr}{zs:List Int}(h:aH B w A (ints zs)){k:Nat}(hk:k<zs.length):
  ∃b o,A=some ⟨b,o,none⟩/\b<B/\w.cell? ⟨b,o+k,none⟩=some (.int .i64 zs[k]):=by
 rcases h with h|⟨b,o,hA,hlt,hc⟩
 ·simp[ints] at h;subst h;simp at hk
 ·exact⟨b,o,hA,hlt,hc k _ (by simp[ints,hk])⟩

structure EnAt(w:World)(b o:Nat)(x:En):Prop where
 c0:w.cell? ⟨b,o,none⟩=some (.int .i64 x.key)
 c1:w.cell? ⟨b,o+1,none⟩=some (.int .i64 x.c)
 c2:w.cell? ⟨b,o+2,none⟩=some (.int .i64 x.s)
 c3:w.cell? ⟨b,o+3,none⟩=some (.int .i64 x.lo)
 c4:w.cell? ⟨b,o+4,none⟩=some (.int .i64 x.hi)
 c5:w.cell? ⟨b,o+5,none⟩=some (.int .i64 x.t)
 c6:w.cell? ⟨b,o+6,none⟩=some (.int .i64 x.l)

theorem aH.en{B:Nat}{w:World}{A:Option Addr}{xs:List En}(h:aH B w A (aB xs)){k:Nat}(hk:k<xs.length):
  ∃b o,A=some ⟨b,o,none⟩/\b<B/\EnAt w b (o+k*7) xs[k]:=by
 rcases h with h|⟨b,o,hA,hlt,hc⟩
 ·have:=gZ xs;rw[h] at this;simp at this;omega
 ·refine⟨b,o,hA,hlt,?_⟩
  have g:∀j,j<7->∀u,(xs[k]).vals[j]? =some u->w.cell? ⟨b,o+k*7+j,none⟩=some u:=fun j hj u hu=>by
   have:=hc (k*7+j) u (by rw[q1g xs k j hk hj];exact hu)
   rwa [<-Nat.add_assoc] at this
  exact⟨g 0 (by decide) _ rfl,g 1 (by decide) _ rfl,g 2 (by decide) _ rfl,g 3 (by decide) _ rfl,g 4 (by decide) _ rfl,g 5 (by decide) _ rfl,g 6 (by decide) _ rfl⟩

end
section
open Go.ChangeShapes Go.WideShapes Go.ChangeAt Go.RowKit

theorem own:ownKnob Tryz.prog.godebug=none:=by kernel_rfl
theorem qhz:laidOutB Tryz.prog=true:=by kernel_rfl
theorem qsh:Tryz.prog.cellsOf 42=6:=by kernel_rfl
theorem qiq:Tryz.prog.cellsOf 3=1:=by kernel_rfl

theorem bd{n:Int}(h:(Lit.int .i64 n).wf=true): -9223372036854775808<=n/\n<=9223372036854775807:=by
 have:=bounds_i64 h;omega

end
section
open Plain

def bZ(c:Int)(s:Rs):Rs:=⟨[],if s.code=0 then c else s.code⟩
def tk(n:Nat)(s:Rs):List Int × Rs:=if s.rest.length<n then([],bZ 5 s) else(s.rest.take n,⟨s.rest.drop n,s.code⟩)
def cnt(most:Int)(s:Rs):Int × Rs:=if (num s).1>most then(0,bZ 1 (num s).2) else num s

def fK(s:ByteArray):List Int:=s.data.toList.map fun b=>(b.toNat:Int)
def iQ(l:List Int):ByteArray:=⟨(l.map fun b=>UInt8.ofNat b.toNat).toArray⟩

theorem qjp(s:ByteArray):iQ (fK s)=s:=by
 unfold iQ fK;apply ByteArray.ext;apply Array.toList_inj.1;rw[List.map_map]
 have:((fun b:Int=>UInt8.ofNat b.toNat) ∘ fun b:UInt8=>(b.toNat:Int))=id:=by
  funext b
  simp
 rw[this];simp

theorem q5f{l:List Int}(h:U8 l):fK (iQ l)=l:=by
 unfold iQ fK;simp only[List.map_map]
 conv=>rhs;rw[<-List.map_id l]
 refine List.map_congr_left fun b hb=>?_
 obtain⟨h0,h1⟩:=h b hb;have:b.toNat%256=b.toNat:=Nat.mod_eq_of_lt (by omega)
 simp[this];omega

theorem q6s(s:ByteArray):(fK s).length=s.size:=by
 unfold fK;rw[List.length_map,Array.length_toList]
 rfl
theorem qd2(l:List Int):(iQ l).size=l.length:=by
 unfold iQ;show Array.size _=_;rw[List.size_toArray,List.length_map]
theorem qki(s:ByteArray):U8 (fK s):=fun b hb=>by
 obtain⟨x,_,rfl⟩:=List.mem_map.1 hb;have:=x.toNat_lt;omega

def fC:Nat->Rs->List ByteArray × Rs
 |0,s=>([],s)
 |k+1,s=>(iQ (tk (cnt 10 s).1.toNat (cnt 10 s).2).1::(fC k (tk (cnt 10 s).1.toNat (cnt 10 s).2).2).1,(fC k (tk (cnt 10 s).1.toNat (cnt 10 s).2).2).2)

def six(s:Rs):Rs:=(num (num (num (num (num (num s).2).2).2).2).2).2
def dG(ahead:Int)(s:Rs):En:=
 ⟨ahead+(num s).1,(num (num s).2).1,fP (num (num (num s).2).2).1,fP (num (num (num (num s).2).2).2).1,fP (num (num (num (num (num s).2).2).2).2).1,(ahead+(num s).1)%1048576,fP (num (num (num (num (num (num s).2).2).2).2).2).1⟩

def badP(first:Bool)(ahead:Int)(x:En):Bool:=decide (1099511627776<=x.key)||((!first&&decide (x.key=ahead))||decide (x.c=0))
def dW(first:Bool)(ahead:Int)(s:Rs):Rs:=if badP first ahead (dG ahead s)=true then bZ 7 (six s) else six s

def dD:Nat->Bool->Int->Rs->List En × Rs
 |0,_,_,s=>([],s)
 |k+1,first,ahead,s=>
  if (dW first ahead s).code=0 then
   (if (dD k false (dG ahead s).key (dW first ahead s)).2.code=0 then dG ahead s::(dD k false (dG ahead s).key (dW first ahead s)).1 else[],(dD k false (dG ahead s).key (dW first ahead s)).2)
  else([],dW first ahead s)

def cZ(bs:List Int):List ByteArray × Rs:=fC (cnt 16 ⟨bs,0⟩).1.toNat (cnt 16 ⟨bs,0⟩).2
def dP(bs:List Int):Int × Rs:=num (cZ bs).2
def dL(bs:List Int):List En × Rs:=dD (cnt 10000 (dP bs).2).1.toNat true 0 (cnt 10000 (dP bs).2).2
def kM(bs:List Int):Rs:=if 0<(dL bs).2.rest.length then bZ 4 (dL bs).2 else(dL bs).2

def iI(s:Rs):Prop:=s.code≠0->s.rest=[]

theorem vN(c:Int)(s:Rs):iI (bZ c s):=fun _=>rfl
theorem pK{c:Int}(hc:c≠0)(s:Rs):(bZ c s).code≠0:=by
 unfold bZ;show(if s.code=0 then c else s.code)≠0
 split
 ·exact hc
 ·assumption

theorem q3r:∀(f:Nat) (first:Bool) (a u:Int) (bs:List Int),iI (numF f first a u bs).2
 |0,_,_,_,[]=>fun _=>rfl
 |_+1,_,_,_,[]=>fun _=>rfl
 |0,_,_,_,_::_=>fun _=>rfl
 |f+1,first,a,u,c::r=>by
  unfold numF
  split
  ·exact fun _=>rfl
  ·split
   ·exact fun h=>absurd rfl h
   ·exact q3r f false _ _ r

theorem pV{s:Rs}(h:iI s):iI (num s).2:=by
 unfold num
 split
 ·exact q3r _ _ _ _ _
 ·exact h

theorem qnt{s:Rs}(h:s.code≠0):num s=(0,s):=if_neg h

theorem qkv{s:Rs}(h:(num s).2.code=0):s.code=0:=by
 unfold num at h
 split at h
 ·assumption
 ·exact h

theorem qea:∀(f:Nat) (first:Bool) (a u:Int) (bs:List Int),U8 bs->0<=a->0<=u->0<=(numF f first a u bs).1
 |0,_,_,_,[],_,_,_=>Int.le_refl _
 |_+1,_,_,_,[],_,_,_=>Int.le_refl _
 |0,_,_,_,_::_,_,_,_=>Int.le_refl _
 |f+1,first,a,u,c::r,h,ha,hu=>by
  have hc:=h c List.mem_cons_self;unfold numF
  split
  ·exact Int.le_refl _
  ·split
   ·have:=Int.mul_nonneg hc.1 hu;show 0<=a+c*u;omega
   ·have:=Int.mul_nonneg (show 0<=c-128 by omega) hu
    exact qea f false _ _ r (fun b hb=>h b (List.mem_cons_of_mem _ hb)) (by omega) (by omega)

theorem qi4:∀(f:Nat) (first:Bool) (a u:Int) (bs:List Int),U8 bs->U8 (numF f first a u bs).2.rest
 |0,_,_,_,[],h=>h
 |_+1,_,_,_,[],h=>h
 |0,_,_,_,_::_,_=>fun b hb=>by simp[numF] at hb
 |f+1,first,a,u,c::r,h=>by
  have h':U8 r:=fun b hb=>h b (List.mem_cons_of_mem _ hb)
  unfold numF
  split
  ·exact fun b hb=>by simp at hb
  ·split
   ·exact h'
   ·exact qi4 f false _ _ r h'

theorem yL{s:Rs}(h:U8 s.rest):0<=(num s).1:=by
 unfold num
 split
 ·exact qea _ _ _ _ _ h (by decide) (by decide)
 ·exact Int.le_refl _

theorem jI{s:Rs}(h:U8 s.rest):U8 (num s).2.rest:=by
 unfold num
 split
 ·exact qi4 _ _ _ _ _ h
 ·exact h

theorem qgx:∀(f:Nat) (first:Bool) (a u:Int) (bs:List Int),U8 bs->0<=a->0<=u->(numF f first a u bs).1<=a+(128 ^ f-1)*u
 |0,_,a,u,[],_,ha,_=>by simpa [numF] using ha
 |f+1,_,a,u,[],_,ha,hu=>by
  show(0:Int)<=_;have:=Int.mul_nonneg (show(0:Int)<=128 ^ (f+1)-1 by have h1:(0:Int)<128 ^ (f+1):=Int.pow_pos (by decide);omega) hu
  omega
 |0,_,a,u,_::_,_,ha,_=>by simpa [numF] using ha
 |f+1,first,a,u,c::r,h,ha,hu=>by
  have hc:=h c List.mem_cons_self;have hp:(0:Int)<128 ^ f:=Int.pow_pos (by decide)
  have hpp:(128:Int) ^ (f+1)=128 ^ f*128:=Int.pow_succ ..;have hnn:=Int.mul_nonneg (show(0:Int)<=128 ^ (f+1)-1 by omega) hu
  unfold numF
  split
  ·show(0:Int)<=_;omega
  ·split
   ·rename_i h1 h2
    show a+c*u<=_;have:=Int.mul_le_mul_of_nonneg_right (show c<=128 ^ (f+1)-1 by omega) hu
    omega
   ·rename_i h1 h2
    have k:=qgx f false (a+(c-128)*u) (u*128) r (fun b hb=>h b (List.mem_cons_of_mem _ hb)) (by have:=Int.mul_nonneg (show 0<=c-128 by omega) hu;omega) (by omega)
    refine Int.le_trans k ?_
    have e:(128 ^ f-1)*(u*128)=(128 ^ f*128-128)*u:=by
     rw[Int.mul_comm u 128,<-Int.mul_assoc];congr 1;omega
    rw[e,hpp,Int.add_assoc,<-Int.add_mul];have:=Int.mul_le_mul_of_nonneg_right (show(c-128)+(128 ^ f*128-128)<=128 ^ f*128-1 by omega) hu
    omega

theorem qm8{s:Rs}(h:U8 s.rest):(num s).1<72057594037927936:=by
 unfold num
 split
 ·have:=qgx 8 true 0 1 s.rest h (by decide) (by decide)
  have e:(0:Int)+(128 ^ 8-1)*1=72057594037927935:=by decide
  omega
 ·show(0:Int)<_
  decide

theorem zC{c:Int}{s:Rs}(h:s.code≠0)(hs:iI s):bZ c s=s:=by
 obtain⟨r,k⟩:=s;unfold bZ;rw[if_neg h];have:=hs h;simp only at this;rw[this]

theorem yT{n:Nat}{s:Rs}(h:U8 s.rest):U8 (tk n s).2.rest/\U8 (tk n s).1:=by
 unfold tk
 split
 ·exact⟨fun b hb=>by simp[bZ] at hb,fun b hb=>by simp at hb⟩
 ·exact⟨fun b hb=>h b (List.mem_of_mem_drop hb),fun b hb=>h b (List.mem_of_mem_take hb)⟩

theorem qc1{n:Nat}{s:Rs}(h:iI s):iI (tk n s).2:=by
 unfold tk
 split
 ·exact vN _ _
 ·intro hc;have:=h hc;show s.rest.drop n=[];rw[this];simp

theorem qmj{n:Nat}{s:Rs}(h:(tk n s).2.code=0):s.code=0/\n<=s.rest.length/\tk n s=(s.rest.take n,⟨s.rest.drop n,0⟩):=by
 unfold tk at h ⊢
 split at h
 ·exact absurd h (pK (by decide) _)
 ·rename_i hn
  have h':s.code=0:=h;rw[if_neg hn,h'];exact⟨rfl,by omega,rfl⟩

theorem rU{m:Int}{s:Rs}(h:U8 s.rest):U8 (cnt m s).2.rest:=by
 unfold cnt
 split
 ·exact fun b hb=>by simp[bZ] at hb
 ·exact jI h

theorem q2k{m:Int}{s:Rs}(h:iI s):iI (cnt m s).2:=by
 unfold cnt
 split
 ·exact vN _ _
 ·exact pV h

theorem q8n{m:Int}{s:Rs}(hm:0<=m)(h:U8 s.rest):0<=(cnt m s).1/\(cnt m s).1<=m:=by
 unfold cnt
 split
 ·exact⟨Int.le_refl _,hm⟩
 ·rename_i h1
  exact⟨yL h,by omega⟩

theorem q4g{m:Int}{s:Rs}(h:(cnt m s).2.code=0):s.code=0/\cnt m s=num s/\(num s).1<=m:=by
 unfold cnt at h ⊢
 split at h
 ·exact absurd h (pK (by decide) _)
 ·rename_i h1
  rw[if_neg h1];exact⟨qkv h,rfl,by omega⟩

theorem q7r:∀(k:Nat) (s:Rs),U8 s.rest->U8 (fC k s).2.rest
 |0,_,h=>h
 |k+1,_,h=>q7r k _ (yT (rU h)).1

theorem qqu{s:Rs}(h:U8 s.rest):U8 (six s).rest:=jI (jI (jI (jI (jI (jI h)))))
theorem qq2{s:Rs}(h:iI s):iI (six s):=pV (pV (pV (pV (pV (pV h)))))

theorem qg2{first:Bool}{ahead:Int}{s:Rs}(h:U8 s.rest):U8 (dW first ahead s).rest:=by
 unfold dW
 split
 ·exact fun b hb=>by simp[bZ] at hb
 ·exact qqu h

theorem q9o{first:Bool}{ahead:Int}{s:Rs}(h:(dW first ahead s).code=0):badP first ahead (dG ahead s)=false/\(six s).code=0/\dW first ahead s=six s:=by
 unfold dW at h ⊢
 split at h
 ·exact absurd h (pK (by decide) _)
 ·rename_i h1
  rw[if_neg h1];exact⟨by simpa using h1,h,rfl⟩

theorem q8i:∀(k:Nat) (first:Bool) (ahead:Int) (s:Rs),(dD k first ahead s).2.code≠0->(dD k first ahead s).1=[]
 |0,_,_,_,_=>rfl
 |k+1,first,ahead,s,h=>by
  unfold dD at h ⊢
  split at h
  ·rename_i h1
   rw[if_pos h1,if_neg h]
  ·rename_i h1
   rw[if_neg h1]

def fB(s:ByteArray):List Int:=sev s.size++fK s
def lZ(ss:List ByteArray):List Int:=sev ss.length++ss.flatMap fB
def zig(n:Int):List Int:=sev (gB n).toNat
def encP(ahead:Int)(x:En):List Int:=sev (x.key-ahead).toNat++(sev x.c.toNat++(zig x.s++(zig x.lo++(zig x.hi++zig x.l))))
def dB:Int->List En->List Int
 |_,[]=>[]
 |ahead,x::r=>encP ahead x++dB x.key r
def kD(ss:List ByteArray)(f:Int)(l:List En):List Int:=lZ ss++(sev f.toNat++(sev l.length++dB 0 l))

def big(n:Int):Prop:=-36028797018963968<=n/\n<36028797018963968

theorem q8z{n:Int}(h:big n):(gB n).toNat<72057594037927936:=by
 unfold big at h;have:=uK n;unfold gB at *
 split<;>omega

theorem yM{n:Int}(h0:0<=n)(h1:n<72057594037927936)(r:List Int):num ⟨sev n.toNat++r,0⟩=(n,⟨r,0⟩):=by
 rw[qfg (by omega)]
 have:((n.toNat:Nat):Int)=n:=by omega
 rw[this]

theorem xY{n:Int}(h:big n)(r:List Int):num ⟨zig n++r,0⟩=(gB n,⟨r,0⟩):=by
 unfold zig;have:=uK n;have:=q8z h;exact yM (by omega) (by omega) r

structure qog(ahead:Int)(x:En):Prop where
 k0:ahead<=x.key
 a0:0<=ahead
 k1:x.key<1099511627776
 c0:0<x.c
 c1:x.c<72057594037927936
 s:big x.s
 lo:big x.lo
 hi:big x.hi
 l:big x.l
 t:x.t=x.key%1048576

theorem qfp{ahead:Int}{x:En}(h:qog ahead x)(r:List Int):dG ahead ⟨encP ahead x++r,0⟩=x/\six ⟨encP ahead x++r,0⟩=⟨r,0⟩:=by
 obtain⟨h1,h2,h3,h4,h5,h6,h7,h8,h9,h10⟩:=h;have n1:=yM (n:=x.key-ahead) (by omega) (by omega) (sev x.c.toNat++(zig x.s++(zig x.lo++(zig x.hi++(zig x.l++r)))))
 have n2:=yM (n:=x.c) (by omega) h5 (zig x.s++(zig x.lo++(zig x.hi++(zig x.l++r))))
 have n3:=xY h6 (zig x.lo++(zig x.hi++(zig x.l++r)));have n4:=xY h7 (zig x.hi++(zig x.l++r));have n5:=xY h8 (zig x.l++r);have n6:=xY h9 r
 have e:encP ahead x++r=sev (x.key-ahead).toNat++(sev x.c.toNat++(zig x.s++(zig x.lo++(zig x.hi++(zig x.l++r))))):=by
  unfold encP;simp only[List.append_assoc]
 rw[e];unfold dG six;simp only[n1,n2,n3,n4,n5,n6,q9e];refine⟨?_,trivial⟩;obtain⟨key,c,s,lo,hi,t,l⟩:=x;simp only at h10 ⊢;have:ahead+(key-ahead)=key:=by omega
 rw[this,h10]

def rP:Bool->Int->List En->Prop
 |_,_,[]=>True
 |first,ahead,x::r=>qog ahead x/\(first=true\/ahead<x.key)/\rP false x.key r

theorem q3t:∀(l:List En) (first:Bool) (ahead:Int) (r:List Int),rP first ahead l->dD l.length first ahead ⟨dB ahead l++r,0⟩=(l,⟨r,0⟩)
 |[],_,_,_,_=>rfl
 |x::l,first,ahead,r,h=>by
  obtain⟨h1,h2,h3⟩:=h
  have e:dB ahead (x::l)++r=encP ahead x++(dB x.key l++r):=by
   show(encP ahead x++dB x.key l)++r=_;rw[List.append_assoc]
  obtain⟨p1,p2⟩:=qfp h1 (dB x.key l++r)
  have hb:badP first ahead x=false:=by
   unfold badP;have:=h1.k1;have:=h1.c0;simp only[Bool.or_eq_false_iff,Bool.and_eq_false_iff,decide_eq_false_iff_not,Bool.not_eq_false'];refine⟨by omega,?_,by omega⟩
   rcases h2 with h2|h2
   ·exact .inl h2
   ·right;omega
  have ha:dW first ahead ⟨encP ahead x++(dB x.key l++r),0⟩=⟨dB x.key l++r,0⟩:=by
   unfold dW;rw[p1,hb,p2]
   rfl
  have ih:=q3t l false x.key r h3;rw[e,List.length_cons];unfold dD;rw[ha,p1,ih];simp

theorem qfo{m:Int}{n:Nat}(h:(n:Int)<=m)(h1:n<72057594037927936)(r:List Int):cnt m ⟨sev n++r,0⟩=((n:Int),⟨r,0⟩):=by
 unfold cnt;rw[qfg h1,if_neg (by show ¬(n:Int)>m;omega)]

theorem qru(a r:List Int):tk a.length ⟨a++r,0⟩=(a,⟨r,0⟩):=by
 unfold tk;rw[if_neg (by simp)]
 simp

theorem q3o:∀(ss:List ByteArray) (r:List Int),(∀s∈ss,s.size<=10)->fC ss.length ⟨ss.flatMap fB++r,0⟩=(ss,⟨r,0⟩)
 |[],_,_=>rfl
 |s::ss,r,h=>by
  have hs:=h s List.mem_cons_self
  have e:(s::ss).flatMap fB++r=sev s.size++(fK s++(ss.flatMap fB++r)):=by
   rw[List.flatMap_cons];unfold fB;simp only[List.append_assoc]
  have n1:=qfo (m:=10) (n:=s.size) (by omega) (by omega) (fK s++(ss.flatMap fB++r))
  have n2:=qru (fK s) (ss.flatMap fB++r);rw[q6s] at n2;have ih:=q3o ss r (fun x hx=>h x (List.mem_cons_of_mem _ hx))
  rw[e,List.length_cons];unfold fC;simp only[n1,Int.toNat_natCast,n2,qjp,ih]

structure qJ(ss:List ByteArray)(f:Int)(l:List En):Prop where
 n:ss.length<=16
 s:∀s∈ss,s.size<=10
 f0:0<=f
 f1:f<72057594037927936
 m:l.length<=10000
 p:rP true 0 l

theorem qh2{ss:List ByteArray}{f:Int}{l:List En}(h:qJ ss f l)(r:List Int):(cZ (kD ss f l++r)).1=ss/\(dP (kD ss f l++r)).1=f/\dL (kD ss f l++r)=(l,⟨r,0⟩):=by
 have hn:=h.n;have hm:=h.m
 have e:kD ss f l++r=sev ss.length++(ss.flatMap fB++(sev f.toNat++(sev l.length++(dB 0 l++r)))):=by
  unfold kD lZ;simp only[List.append_assoc]
 have n1:=qfo (m:=16) (n:=ss.length) (by omega) (by omega) (ss.flatMap fB++(sev f.toNat++(sev l.length++(dB 0 l++r))))
 have n2:=q3o ss (sev f.toNat++(sev l.length++(dB 0 l++r))) h.s;have n3:=yM h.f0 h.f1 (sev l.length++(dB 0 l++r));have n4:=qfo (m:=10000) (n:=l.length) (by omega) (by omega) (dB 0 l++r)
 have n5:=q3t l true 0 r h.p;rw[e]
 have a1:cZ (sev ss.length++(ss.flatMap fB++(sev f.toNat++(sev l.length++(dB 0 l++r)))))=(ss,⟨sev f.toNat++(sev l.length++(dB 0 l++r)),0⟩):=by
  unfold cZ;simp only[n1,Int.toNat_natCast,n2]
 have a2:dP (sev ss.length++(ss.flatMap fB++(sev f.toNat++(sev l.length++(dB 0 l++r)))))=(f,⟨sev l.length++(dB 0 l++r),0⟩):=by
  unfold dP;rw[a1];exact n3
 refine⟨by rw[a1],by rw[a2],?_⟩
 unfold dL;simp only[a2,n4,Int.toNat_natCast,n5]

theorem qK{s:Rs}(hu:U8 s.rest)(h:(num s).2.code=0):s.code=0/\s.rest=sev (num s).1.toNat++(num s).2.rest/\0<=(num s).1/\(num s).1<72057594037927936:=by
 have hp:num s=((num s).1,⟨(num s).2.rest,0⟩):=by
  rw[<-h]
 obtain⟨h0,n,h1,h2,h3⟩:=ql1 hu hp;refine⟨h0,?_,by omega,by omega⟩
 have:(num s).1.toNat=n:=by omega
 rw[this];exact h3

theorem yK{s:Rs}(hu:U8 s.rest)(h:(num s).2.code=0):s.code=0/\s.rest=zig (fP (num s).1)++(num s).2.rest/\big (fP (num s).1):=by
 obtain⟨h0,h1,h2,h3⟩:=qK hu h;refine⟨h0,?_,?_⟩
 ·unfold zig;rw[q8q h2];exact h1
 ·unfold big fP
  split<;>omega

theorem qn2{first:Bool}{ahead:Int}{s:Rs}(hu:U8 s.rest)(ha:0<=ahead)(h:(dW first ahead s).code=0):
  s.code=0/\s.rest=encP ahead (dG ahead s)++(dW first ahead s).rest/\qog ahead (dG ahead s)/\(first=true\/ahead<(dG ahead s).key):=by
 obtain⟨hb,h6,he⟩:=q9o h;rw[he];have u1:=jI hu;have u2:=jI u1;have u3:=jI u2;have u4:=jI u3;have u5:=jI u4;obtain⟨z6,e6,b6⟩:=yK u5 h6;obtain⟨z5,e5,b5⟩:=yK u4 z6;obtain⟨z4,e4,b4⟩:=yK u3 z5;obtain⟨z3,e3,b3⟩:=yK u2 z4;obtain⟨z2,e2,c2,d2⟩:=qK u1 z3;obtain⟨z1,e1,c1,d1⟩:=qK hu z2;unfold badP at hb;simp only[Bool.or_eq_false_iff,Bool.and_eq_false_iff,decide_eq_false_iff_not,Bool.not_eq_false'] at hb;obtain⟨hb1,hb2,hb3⟩:=hb;have hk:(dG ahead s).key=ahead+(num s).1:=rfl;have hc:(dG ahead s).c=(num (num s).2).1:=rfl;refine⟨z1,?_,⟨by omega,ha,by omega,by omega,by omega,b3,b4,b5,b6,rfl⟩,?_⟩
 ·unfold encP six;have ek:(dG ahead s).key-ahead=(num s).1:=by omega
  rw[ek,hc];show _=(sev (num s).1.toNat++(sev (num (num s).2).1.toNat++(zig (fP (num (num (num s).2).2).1)++(zig (fP (num (num (num (num s).2).2).2).1)++(zig (fP (num (num (num (num (num s).2).2).2).2).1)++zig (fP (num (num (num (num (num (num s).2).2).2).2).2).1))))))++_;simp only[List.append_assoc];rw[<-e6,<-e5,<-e4,<-e3,<-e2,<-e1]
 ·rcases hb2 with hb2|hb2
  ·exact .inl hb2
  ·right;omega

theorem qcd:∀(k:Nat) (first:Bool) (ahead:Int) (s:Rs),U8 s.rest->0<=ahead->(dD k first ahead s).2.code=0->s.code=0/\s.rest=dB ahead (dD k first ahead s).1++(dD k first ahead s).2.rest/\rP first ahead (dD k first ahead s).1/\(dD k first ahead s).1.length=k
 |0,_,_,_,_,_,h=>⟨h,rfl,trivial,rfl⟩
 |k+1,first,ahead,s,hu,ha,h=>by
  unfold dD at h ⊢
  by_cases h0:(dW first ahead s).code=0
  ·rw[if_pos h0] at h ⊢;have h':(dD k false (dG ahead s).key (dW first ahead s)).2.code=0:=h
   rw[if_pos h'];obtain⟨a1,a2,a3,a4⟩:=qn2 (first:=first) hu ha h0
   obtain⟨b1,b2,b3,b4⟩:=qcd k false (dG ahead s).key (dW first ahead s) (qg2 hu) (by have:=a3.k0;omega) h'
   refine⟨a1,?_,⟨a3,a4,b3⟩,by simpa using b4⟩
   show s.rest=(encP ahead (dG ahead s)++dB (dG ahead s).key _)++_;rw[List.append_assoc,<-b2];exact a2
  ·rw[if_neg h0] at h;exact absurd h h0

theorem qfe:∀(k:Nat) (s:Rs),U8 s.rest->iI s->(fC k s).2.code=0->s.code=0/\s.rest=(fC k s).1.flatMap fB++(fC k s).2.rest/\(fC k s).1.length=k/\∀x∈(fC k s).1,x.size<=10
 |0,_,_,_,h=>⟨h,rfl,rfl,fun x hx=>by simp[fC] at hx⟩
 |k+1,s,hu,hs,h=>by
  have u1:=rU (m:=10) hu;have u2:=yT (n:=(cnt 10 s).1.toNat) u1;have s2:=qc1 (n:=(cnt 10 s).1.toNat) (q2k (m:=10) hs);obtain⟨a1,a2,a3,a4⟩:=qfe k _ u2.1 s2 h;obtain⟨b1,b2,b3⟩:=qmj a1;obtain⟨c1,c2,c3⟩:=q4g b1;have z:(num s).2.code=0:=by rw[<-c2];exact b1
  obtain⟨d1,d2,d3,d4⟩:=qK hu z
  have hl:(iQ (tk (cnt 10 s).1.toNat (cnt 10 s).2).1).size=(num s).1.toNat:=by
   rw[qd2,b3,List.length_take,c2];rw[c2] at b2;omega
  refine⟨c1,?_,?_,?_⟩
  ·show s.rest=(iQ (tk (cnt 10 s).1.toNat (cnt 10 s).2).1::_).flatMap fB++_;rw[List.flatMap_cons,List.append_assoc,fB,hl,q5f u2.2];show s.rest=_++((fC k (tk (cnt 10 s).1.toNat (cnt 10 s).2).2).1.flatMap fB++(fC k (tk (cnt 10 s).1.toNat (cnt 10 s).2).2).2.rest);rw[<-a2,List.append_assoc,b3,c2];show s.rest=sev (num s).1.toNat++(((num s).2.rest.take _)++((num s).2.rest.drop _));rw[List.take_append_drop];exact d2
  ·show(_::_).length=_;rw[List.length_cons,a3]
  ·intro x hx;rcases List.mem_cons.1 hx with rfl|hx
   ·rw[hl];omega
   ·exact a4 x hx

theorem qpm{bs:List Int}(hu:U8 bs)(h:(kM bs).code=0):bs=kD (cZ bs).1 (dP bs).1 (dL bs).1/\qJ (cZ bs).1 (dP bs).1 (dL bs).1/\(dL bs).2=⟨[],0⟩:=by
 have hz:(dL bs).2.code=0/\(dL bs).2.rest=[]:=by
  unfold kM at h
  split at h
  ·exact absurd h (pK (by decide) _)
  ·rename_i h1
   exact⟨h,List.eq_nil_of_length_eq_zero (by omega)⟩
 have u0:U8 (Rs.mk bs 0).rest:=hu;have s0:iI (Rs.mk bs 0):=fun h=>absurd rfl h
 have u1:=rU (m:=16) u0;have s1:=q2k (m:=16) s0;have u2:U8 (cZ bs).2.rest:=q7r _ _ u1;have u3:U8 (dP bs).2.rest:=jI u2;have u4:=rU (m:=10000) u3;obtain⟨a1,a2,a3,a4⟩:=qcd _ true 0 _ u4 (Int.le_refl _) hz.1;obtain⟨b1,b2,b3⟩:=q4g a1;have z3:(num (dP bs).2).2.code=0:=by rw[<-b2];exact a1
 obtain⟨c1,c2,c3,c4⟩:=qK u3 z3;obtain⟨d1,d2,d3,d4⟩:=qK u2 b1;obtain⟨e1,e2,e3,e4⟩:=qfe _ _ u1 s1 d1;obtain⟨f1,f2,f3⟩:=q4g e1;have z1:(num (Rs.mk bs 0)).2.code=0:=by rw[<-f2];exact e1
 obtain⟨g1,g2,g3,g4⟩:=qK u0 z1;have l1:(cZ bs).1.length=(num (Rs.mk bs 0)).1.toNat:=by rw[<-f2];exact e3
 have l2:(dL bs).1.length=(num (dP bs).2).1.toNat:=by rw[<-b2];exact a4
 refine⟨?_,⟨by omega,e4,d3,d4,by omega,a3⟩,?_⟩
 ·unfold kD lZ;rw[l1,l2,List.append_assoc];have a2':(num (dP bs).2).2.rest=dB 0 (dL bs).1++(dL bs).2.rest:=(congrArg (fun x=>x.2.rest) b2).symm.trans a2
  rw[hz.2,List.append_nil] at a2';rw[<-a2',<-c2];have d2':(cZ bs).2.rest=sev (dP bs).1.toNat++(dP bs).2.rest:=d2;rw[<-d2'];have e2':(num (Rs.mk bs 0)).2.rest=(cZ bs).1.flatMap fB++(cZ bs).2.rest:=(congrArg (fun x=>x.2.rest) f2).symm.trans e2
  rw[<-e2'];exact g2
 ·rw[<-hz.1,<-hz.2]

def iJ(p:Int × Int)(b:Int):Int × Int:=((p.1+b)%65521,(p.2+(p.1+b)%65521)%65521)
def uX(bs:List Int):Int × Int:=bs.foldl iJ (1,0)
def yX(p:Int × Int):List Int:=[p.2/256,p.2%256,p.1/256,p.1%256]
def iK(bs:List Int):List Int:=yX (uX bs)

theorem qbj:∀(bs:List Int) (p:Int × Int),0<=p.1->p.1<65521->0<=p.2->p.2<65521->0<=(bs.foldl iJ p).1/\(bs.foldl iJ p).1<65521/\0<=(bs.foldl iJ p).2/\(bs.foldl iJ p).2<65521
 |[],_,h1,h2,h3,h4=>⟨h1,h2,h3,h4⟩
 |b::r,p,_,_,_,_=>by
  rw[List.foldl_cons];exact qbj r (iJ p b) (show 0<=(p.1+b)%65521 by omega) (show(p.1+b)%65521<65521 by omega) (show 0<=(p.2+(p.1+b)%65521)%65521 by omega) (show(p.2+(p.1+b)%65521)%65521<65521 by omega)

theorem q7p(bs:List Int):0<=(uX bs).1/\(uX bs).1<65521/\0<=(uX bs).2/\(uX bs).2<65521:=qbj bs (1,0) (by decide) (by decide) (by decide) (by decide)

theorem qap(bs:List Int):U8 (iK bs):=by
 obtain⟨h1,h2,h3,h4⟩:=q7p bs;intro b hb;simp only[iK,yX,List.mem_cons,List.not_mem_nil,or_false] at hb;rcases hb with rfl|rfl|rfl|rfl<;>omega

theorem qf4(bs:List Int):(iK bs).length=4:=rfl

def mark:List Int:=[119,110]
def encH(ss:List ByteArray)(f:Int)(l:List En):List Int:=mark++kD ss f l
def encB(ss:List ByteArray)(f:Int)(l:List En):List Int:=encH ss f l++iK (encH ss f l)

def mQ(b:List Int):List Int:=b.take (b.length-4)
def aU(b:List Int):List Int:=(mQ b).drop 2
def dK(b:List Int):Int:=if 200000<b.length then 1 else if b.length<6 then 5 else if b.take 2=mark then(if iK (mQ b)=b.drop (b.length-4) then 0 else 9) else 4
def decC(b:List Int):Int:=if dK b=0 then(kM (aU b)).code else dK b

theorem qdt{b:List Int}(h:dK b=0):b.length<=200000/\6<=b.length/\b.take 2=mark/\iK (mQ b)=b.drop (b.length-4):=by
 unfold dK at h
 split at h
 ·cases h
 ·split at h
  ·cases h
  ·split at h
   ·split at h
    ·rename_i h1 h2 h3 h4
     exact⟨by omega,by omega,h3,h4⟩
    ·cases h
   ·cases h

theorem qka(a b:List Int)(hb:b.length=4):mQ (a++b)=a/\(a++b).drop ((a++b).length-4)=b:=by
 have e:(a++b).length-4=a.length:=by rw[List.length_append];omega
 constructor
 ·unfold mQ;rw[e,List.take_left]
 ·rw[e,List.drop_left]

theorem qft(ss:List ByteArray)(f:Int)(l:List En):(encB ss f l).length=(kD ss f l).length+6:=by
 unfold encB encH;simp[mark,iK,yX]

theorem qlc{ss:List ByteArray}{f:Int}{l:List En}(h:(encB ss f l).length<=200000):dK (encB ss f l)=0/\aU (encB ss f l)=kD ss f l:=by
 obtain⟨h1,h2⟩:=qka (encH ss f l) (iK (encH ss f l)) rfl;have hl:=qft ss f l;constructor
 ·unfold dK;rw[if_neg (by omega),if_neg (by omega),if_pos (by unfold encB encH;rfl),if_pos]
  unfold encB;rw[h1,h2]
 ·unfold aU encB;rw[h1]
  rfl

theorem qns{ss:List ByteArray}{f:Int}{l:List En}(h:qJ ss f l)(hl:(encB ss f l).length<=200000):decC (encB ss f l)=0/\(cZ (aU (encB ss f l))).1=ss/\(dP (aU (encB ss f l))).1=f/\(dL (aU (encB ss f l))).1=l:=by
 obtain⟨h1,h2⟩:=qlc hl;obtain⟨a1,a2,a3⟩:=qh2 h [];rw[List.append_nil] at a1 a2 a3;unfold decC;rw[if_pos h1,h2];refine⟨?_,a1,a2,by rw[a3]⟩
 unfold kM;rw[a3]
 rfl

theorem uH{l:List Int}(h:U8 l)(n:Nat):U8 (l.take n):=fun b hb=>h b (List.mem_of_mem_take hb)
theorem yC{l:List Int}(h:U8 l)(n:Nat):U8 (l.drop n):=fun b hb=>h b (List.mem_of_mem_drop hb)

theorem qk5{b:List Int}(hu:U8 b)(h:decC b=0):b=encB (cZ (aU b)).1 (dP (aU b)).1 (dL (aU b)).1/\qJ (cZ (aU b)).1 (dP (aU b)).1 (dL (aU b)).1:=by
 have hs:dK b=0:=by
  unfold decC at h
  split at h
  ·assumption
  ·exact h
 have hr:(kM (aU b)).code=0:=by
  unfold decC at h
  rwa [if_pos hs] at h
 obtain⟨h1,h2,h3,h4⟩:=qdt hs;have hub:U8 (aU b):=yC (uH hu _) 2;obtain⟨k1,k2,_⟩:=qpm hub hr;refine⟨?_,k2⟩
 have e1:mQ b=mark++aU b:=by
  unfold aU mQ
  conv=>lhs;rw[<-List.take_append_drop 2 (b.take (b.length-4))]
  congr 1;rw[List.take_take,Nat.min_eq_left (by omega),h3]
 have e2:encH (cZ (aU b)).1 (dP (aU b)).1 (dL (aU b)).1=mQ b:=by
  unfold encH;rw[<-k1,e1]
 unfold encB;rw[e2,h4];exact(List.take_append_drop _ _).symm

theorem jH{a b:List Int}(ha:U8 a)(hb:U8 b):U8 (a++b):=fun x hx=>by
 rcases List.mem_append.1 hx with h|h
 ·exact ha x h
 ·exact hb x h

theorem qb2:∀(ahead:Int) (l:List En),U8 (dB ahead l)
 |_,[]=>fun x hx=>by simp[dB] at hx
 |ahead,x::r=>jH (jH (mP _) (jH (mP _) (jH (mP _) (jH (mP _) (jH (mP _) (mP _)))))) (qb2 x.key r)

theorem qat:∀(ss:List ByteArray),U8 (ss.flatMap fB)
 |[]=>fun x hx=>by simp at hx
 |s::r=>by
  rw[List.flatMap_cons];exact jH (jH (mP _) (qki s)) (qat r)

theorem qot(ss:List ByteArray)(f:Int)(l:List En):U8 (encH ss f l):=
 jH (fun x hx=>by simp only[mark,List.mem_cons,List.not_mem_nil,or_false] at hx;omega) (jH (jH (mP _) (qat ss)) (jH (mP _) (jH (mP _) (qb2 0 l))))

theorem qhw(ss:List ByteArray)(f:Int)(l:List En):U8 (encB ss f l):=jH (qot ss f l) (qap _)

end
end Go.Proofs.YtlojfgdpmaigmagGreatDoor

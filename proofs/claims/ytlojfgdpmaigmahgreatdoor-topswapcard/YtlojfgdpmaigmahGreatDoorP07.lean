/- Rows of cells, and what lies in them: numbers, entries. -/
import Derived.Test.YtlojfgdpmaigmahGreatDoorRows
import Derived.Test.YtlojfgdpmaigmahGreatDoorP02
import Derived.WalkKit
import Derived.WalkSpells
import Derived.WalkLawsBesides
import Derived.Handy
import Derived.Deep.Light
import Derived.Deep.OwnRows
import Derived.ProofKit
import Derived.OpenShut
import Derived.Below
import Derived.ChangeOld
import Derived.Test.YtlojfgdpmaigmahGreatDoorP01
namespace Go.Proofs.YtlojfgdpmaigmahGreatDoor
section
open Go.RowKit

def q0i(B:Nat)(w:World)(A:Option Addr)(vs:List Value):Prop:=
 vs=[]\/∃b o,A=some ⟨b,o,none⟩/\b<B/\∀j u,vs[j]? =some u->w.cell? ⟨b,o+j,none⟩=some u

theorem q0i.below{B B':Nat}{w w':World}{A:Option Addr}{vs:List Value}(h:q0i B w A vs)(hb:Below B' w w')(hB:B<=B'):q0i B w' A vs:=by
 rcases h with h|⟨b,o,hA,hlt,hc⟩
 ·exact .inl h
 ·exact .inr ⟨b,o,hA,hlt,fun j u hu=>(hb.cell (p:=⟨b,o+j,none⟩) (Nat.lt_of_lt_of_le hlt hB)).trans (hc j u hu)⟩

theorem q0i.mono{B B':Nat}{w:World}{A:Option Addr}{vs:List Value}(h:q0i B w A vs)(hB:B<=B'):q0i B' w A vs:=by
 rcases h with h|⟨b,o,hA,hlt,hc⟩
 ·exact .inl h
 ·exact .inr ⟨b,o,hA,by omega,hc⟩

structure En where
 key:Int
 c:Int
 s:Int
 lo:Int
 hi:Int
 t:Int
 l:Int
deriving DecidableEq,Inhabited

def En.vals(x:En):List Value:=[.int .i64 x.key,.int .i64 x.c,.int .i64 x.s,.int .i64 x.lo,.int .i64 x.hi,.int .i64 x.t,.int .i64 x.l]
def q0d:List En->List Value
 |[]=>[]
 |x::r=>x.vals++q0d r

theorem q0u:∀xs:List En,(q0d xs).length=xs.length*7
 |[]=>rfl
 |x::r=>by simp[q0d,En.vals,q0u r];omega

theorem q1r:∀xs ys:List En,q0d (xs++ys)=q0d xs++q0d ys
 |[],_=>rfl
 |x::r,ys=>by simp[q0d,q1r r ys]

theorem qdn(xs:List En)(k j:Nat)(hk:k<xs.length)(hj:j<7):(q0d xs)[k*7+j]? =(xs[k]).vals[j]? :=by
 induction xs generalizing k with
 |nil=>simp at hk
 |cons x r ih=>
  cases k with
  |zero=>simp only[q0d];rw[List.getElem?_append_left (by simp[En.vals];omega)];simp
  |succ k=>
   simp only[q0d]
   rw[List.getElem?_append_right (by simp[En.vals];omega)]
   have:=ih k (by simpa using hk)
   simp only[En.vals,List.length_cons,List.length_nil] at *
   rw[show(k+1)*7+j-(0+1+1+1+1+1+1+1)=k*7+j by omega]
   simpa using this

def ints(zs:List Int):List Value:=zs.map (.int .i64)

theorem q0i.int{B:Nat}{w:World}{A:Option Addr}{zs:List Int}(h:q0i B w A (ints zs)){k:Nat}(hk:k<zs.length):
  ∃b o,A=some ⟨b,o,none⟩/\b<B/\w.cell? ⟨b,o+k,none⟩=some (.int .i64 zs[k]):=by
 rcases h with h|⟨b,o,hA,hlt,hc⟩
 ·simp[ints] at h;subst h;simp at hk
 ·exact⟨b,o,hA,hlt,hc k _ (by simp[ints,hk])⟩

structure EnAt(w:World)(b o:Nat)(x:En):Prop where
 c0:w.cell? ⟨b,o,none⟩=some (.int .i64 x.key)
 c1:w.cell? ⟨b,o+1,none⟩=some (.int .i64 x.c)
 c2:w.cell? ⟨b,o+2,none⟩=some (.int .i64 x.s)
 c3:w.cell? ⟨b,o+3,none⟩=some (.int .i64 x.lo)
 c4:w.cell? ⟨b,o+4,none⟩=some (.int .i64 x.hi)
 c5:w.cell? ⟨b,o+5,none⟩=some (.int .i64 x.t)
 c6:w.cell? ⟨b,o+6,none⟩=some (.int .i64 x.l)

theorem q0i.en{B:Nat}{w:World}{A:Option Addr}{xs:List En}(h:q0i B w A (q0d xs)){k:Nat}(hk:k<xs.length):
  ∃b o,A=some ⟨b,o,none⟩/\b<B/\EnAt w b (o+k*7) xs[k]:=by
 rcases h with h|⟨b,o,hA,hlt,hc⟩
 ·have:=q0u xs;rw[h] at this;simp at this;omega
 ·refine⟨b,o,hA,hlt,?_⟩
  have g:∀j,j<7->∀u,(xs[k]).vals[j]? =some u->w.cell? ⟨b,o+k*7+j,none⟩=some u:=fun j hj u hu=>by
   have:=hc (k*7+j) u (by rw[qdn xs k j hk hj];exact hu)
   rwa [<-Nat.add_assoc] at this
  exact⟨g 0 (by decide) _ rfl,g 1 (by decide) _ rfl,g 2 (by decide) _ rfl,g 3 (by decide) _ rfl,g 4 (by decide) _ rfl,g 5 (by decide) _ rfl,g 6 (by decide) _ rfl⟩

end
section
open Go.ChangeShapes Go.WideShapes Go.ChangeAt Go.RowKit

theorem own:ownKnob Tryz.prog.godebug=none:=by kernel_rfl
theorem qek:laidOutB Tryz.prog=true:=by kernel_rfl
theorem z6a:Tryz.prog.cellsOf 58=6:=by kernel_rfl
theorem qo7:Tryz.prog.cellsOf 3=1:=by kernel_rfl

theorem bd{n:Int}(h:(Lit.int .i64 n).wf=true): -9223372036854775808<=n/\n<=9223372036854775807:=by
 have:=bounds_i64 h
 omega

end
section
open Plain

def q1q(c:Int)(s:Rs):Rs:=⟨[],if s.code=0 then c else s.code⟩
def tk(n:Nat)(s:Rs):List Int × Rs:=if s.rest.length<n then([],q1q 5 s) else(s.rest.take n,⟨s.rest.drop n,s.code⟩)
def cnt(most:Int)(s:Rs):Int × Rs:=if (num s).1>most then(0,q1q 1 (num s).2) else num s

def q6u(s:ByteArray):List Int:=s.data.toList.map fun b=>(b.toNat:Int)
def q9b(l:List Int):ByteArray:=⟨(l.map fun b=>UInt8.ofNat b.toNat).toArray⟩

theorem qx6(s:ByteArray):q9b (q6u s)=s:=by
 unfold q9b q6u
 apply ByteArray.ext
 apply Array.toList_inj.1
 rw[List.map_map]
 have:((fun b:Int=>UInt8.ofNat b.toNat) ∘ fun b:UInt8=>(b.toNat:Int))=id:=by
  funext b
  simp
 rw[this]
 simp

theorem qhq{l:List Int}(h:U8 l):q6u (q9b l)=l:=by
 unfold q9b q6u
 simp only[List.map_map]
 conv=>rhs;rw[<-List.map_id l]
 refine List.map_congr_left fun b hb=>?_
 obtain⟨h0,h1⟩:=h b hb
 have:b.toNat%256=b.toNat:=Nat.mod_eq_of_lt (by omega)
 simp[this]
 omega

theorem qj9(s:ByteArray):(q6u s).length=s.size:=by
 unfold q6u
 rw[List.length_map,Array.length_toList]
 rfl
theorem qq1(l:List Int):(q9b l).size=l.length:=by
 unfold q9b
 show Array.size _=_
 rw[List.size_toArray,List.length_map]
theorem qw7(s:ByteArray):U8 (q6u s):=fun b hb=>by
 obtain⟨x,_,rfl⟩:=List.mem_map.1 hb
 have:=x.toNat_lt
 omega

def q3p:Nat->Rs->List ByteArray × Rs
 |0,s=>([],s)
 |k+1,s=>(q9b (tk (cnt 10 s).1.toNat (cnt 10 s).2).1::(q3p k (tk (cnt 10 s).1.toNat (cnt 10 s).2).2).1,(q3p k (tk (cnt 10 s).1.toNat (cnt 10 s).2).2).2)

def six(s:Rs):Rs:=(num (num (num (num (num (num s).2).2).2).2).2).2
def q2d(ahead:Int)(s:Rs):En:=
 ⟨ahead+(num s).1,(num (num s).2).1,q2p (num (num (num s).2).2).1,q2p (num (num (num (num s).2).2).2).1,q2p (num (num (num (num (num s).2).2).2).2).1,(ahead+(num s).1)%1048576,q2p (num (num (num (num (num (num s).2).2).2).2).2).1⟩

def badP(first:Bool)(ahead:Int)(x:En):Bool:=decide (1099511627776<=x.key)||((!first&&decide (x.key=ahead))||decide (x.c=0))
def q2w(first:Bool)(ahead:Int)(s:Rs):Rs:=if badP first ahead (q2d ahead s)=true then q1q 7 (six s) else six s

def q1h:Nat->Bool->Int->Rs->List En × Rs
 |0,_,_,s=>([],s)
 |k+1,first,ahead,s=>
  if (q2w first ahead s).code=0 then
   (if (q1h k false (q2d ahead s).key (q2w first ahead s)).2.code=0 then q2d ahead s::(q1h k false (q2d ahead s).key (q2w first ahead s)).1 else[],(q1h k false (q2d ahead s).key (q2w first ahead s)).2)
  else([],q2w first ahead s)

def q1e(bs:List Int):List ByteArray × Rs:=q3p (cnt 16 ⟨bs,0⟩).1.toNat (cnt 16 ⟨bs,0⟩).2
def q1m(bs:List Int):Int × Rs:=num (q1e bs).2
def q0z(bs:List Int):List En × Rs:=q1h (cnt 10000 (q1m bs).2).1.toNat true 0 (cnt 10000 (q1m bs).2).2
def qct(bs:List Int):Rs:=if 0<(q0z bs).2.rest.length then q1q 4 (q0z bs).2 else(q0z bs).2

def q9a(s:Rs):Prop:=s.code≠0->s.rest=[]

theorem q7t(c:Int)(s:Rs):q9a (q1q c s):=fun _=>rfl
theorem q5h{c:Int}(hc:c≠0)(s:Rs):(q1q c s).code≠0:=by
 unfold q1q
 show(if s.code=0 then c else s.code)≠0
 split
 ·exact hc
 ·assumption

theorem qf3:∀(f:Nat) (first:Bool) (a u:Int) (bs:List Int),q9a (numF f first a u bs).2
 |0,_,_,_,[]=>fun _=>rfl
 |_+1,_,_,_,[]=>fun _=>rfl
 |0,_,_,_,_::_=>fun _=>rfl
 |f+1,first,a,u,c::r=>by
  unfold numF
  split
  ·exact fun _=>rfl
  ·split
   ·exact fun h=>absurd rfl h
   ·exact qf3 f false _ _ r

theorem q6z{s:Rs}(h:q9a s):q9a (num s).2:=by
 unfold num
 split
 ·exact qf3 _ _ _ _ _
 ·exact h

theorem z1i{s:Rs}(h:s.code≠0):num s=(0,s):=if_neg h

theorem qx7{s:Rs}(h:(num s).2.code=0):s.code=0:=by
 unfold num at h
 split at h
 ·assumption
 ·exact h

theorem qqk:∀(f:Nat) (first:Bool) (a u:Int) (bs:List Int),U8 bs->0<=a->0<=u->0<=(numF f first a u bs).1
 |0,_,_,_,[],_,_,_=>Int.le_refl _
 |_+1,_,_,_,[],_,_,_=>Int.le_refl _
 |0,_,_,_,_::_,_,_,_=>Int.le_refl _
 |f+1,first,a,u,c::r,h,ha,hu=>by
  have hc:=h c List.mem_cons_self
  unfold numF
  split
  ·exact Int.le_refl _
  ·split
   ·have:=Int.mul_nonneg hc.1 hu
    show 0<=a+c*u
    omega
   ·have:=Int.mul_nonneg (show 0<=c-128 by omega) hu
    exact qqk f false _ _ r (fun b hb=>h b (List.mem_cons_of_mem _ hb)) (by omega) (by omega)

theorem qrp:∀(f:Nat) (first:Bool) (a u:Int) (bs:List Int),U8 bs->U8 (numF f first a u bs).2.rest
 |0,_,_,_,[],h=>h
 |_+1,_,_,_,[],h=>h
 |0,_,_,_,_::_,_=>fun b hb=>by simp[numF] at hb
 |f+1,first,a,u,c::r,h=>by
  have h':U8 r:=fun b hb=>h b (List.mem_cons_of_mem _ hb)
  unfold numF
  split
  ·exact fun b hb=>by simp at hb
  ·split
   ·exact h'
   ·exact qrp f false _ _ r h'

theorem qny{s:Rs}(h:U8 s.rest):0<=(num s).1:=by
 unfold num
 split
 ·exact qqk _ _ _ _ _ h (by decide) (by decide)
 ·exact Int.le_refl _

theorem q7j{s:Rs}(h:U8 s.rest):U8 (num s).2.rest:=by
 unfold num
 split
 ·exact qrp _ _ _ _ _ h
 ·exact h

theorem qti:∀(f:Nat) (first:Bool) (a u:Int) (bs:List Int),U8 bs->0<=a->0<=u->(numF f first a u bs).1<=a+(128 ^ f-1)*u
 |0,_,a,u,[],_,ha,_=>by simpa [numF] using ha
 |f+1,_,a,u,[],_,ha,hu=>by
  show(0:Int)<=_
  have:=Int.mul_nonneg (show(0:Int)<=128 ^ (f+1)-1 by have h1:(0:Int)<128 ^ (f+1):=Int.pow_pos (by decide);omega) hu
  omega
 |0,_,a,u,_::_,_,ha,_=>by simpa [numF] using ha
 |f+1,first,a,u,c::r,h,ha,hu=>by
  have hc:=h c List.mem_cons_self
  have hp:(0:Int)<128 ^ f:=Int.pow_pos (by decide)
  have hpp:(128:Int) ^ (f+1)=128 ^ f*128:=Int.pow_succ ..
  have hnn:=Int.mul_nonneg (show(0:Int)<=128 ^ (f+1)-1 by omega) hu
  unfold numF
  split
  ·show(0:Int)<=_
   omega
  ·split
   ·rename_i h1 h2
    show a+c*u<=_
    have:=Int.mul_le_mul_of_nonneg_right (show c<=128 ^ (f+1)-1 by omega) hu
    omega
   ·rename_i h1 h2
    have k:=qti f false (a+(c-128)*u) (u*128) r (fun b hb=>h b (List.mem_cons_of_mem _ hb)) (by have:=Int.mul_nonneg (show 0<=c-128 by omega) hu;omega) (by omega)
    refine Int.le_trans k ?_
    have e:(128 ^ f-1)*(u*128)=(128 ^ f*128-128)*u:=by
     rw[Int.mul_comm u 128,<-Int.mul_assoc]
     congr 1
     omega
    rw[e,hpp,Int.add_assoc,<-Int.add_mul]
    have:=Int.mul_le_mul_of_nonneg_right (show(c-128)+(128 ^ f*128-128)<=128 ^ f*128-1 by omega) hu
    omega

theorem qxr{s:Rs}(h:U8 s.rest):(num s).1<72057594037927936:=by
 unfold num
 split
 ·have:=qti 8 true 0 1 s.rest h (by decide) (by decide)
  have e:(0:Int)+(128 ^ 8-1)*1=72057594037927935:=by decide
  omega
 ·show(0:Int)<_
  decide

theorem q9e{c:Int}{s:Rs}(h:s.code≠0)(hs:q9a s):q1q c s=s:=by
 obtain⟨r,k⟩:=s
 unfold q1q
 rw[if_neg h]
 have:=hs h
 simp only at this
 rw[this]

theorem qvx{n:Nat}{s:Rs}(h:U8 s.rest):U8 (tk n s).2.rest/\U8 (tk n s).1:=by
 unfold tk
 split
 ·exact⟨fun b hb=>by simp[q1q] at hb,fun b hb=>by simp at hb⟩
 ·exact⟨fun b hb=>h b (List.mem_of_mem_drop hb),fun b hb=>h b (List.mem_of_mem_take hb)⟩

theorem qlw{n:Nat}{s:Rs}(h:q9a s):q9a (tk n s).2:=by
 unfold tk
 split
 ·exact q7t _ _
 ·intro hc
  have:=h hc
  show s.rest.drop n=[]
  rw[this];simp

theorem qzd{n:Nat}{s:Rs}(h:(tk n s).2.code=0):s.code=0/\n<=s.rest.length/\tk n s=(s.rest.take n,⟨s.rest.drop n,0⟩):=by
 unfold tk at h ⊢
 split at h
 ·exact absurd h (q5h (by decide) _)
 ·rename_i hn
  have h':s.code=0:=h
  rw[if_neg hn,h']
  exact⟨rfl,by omega,rfl⟩

theorem qgf{m:Int}{s:Rs}(h:U8 s.rest):U8 (cnt m s).2.rest:=by
 unfold cnt
 split
 ·exact fun b hb=>by simp[q1q] at hb
 ·exact q7j h

theorem qdi{m:Int}{s:Rs}(h:q9a s):q9a (cnt m s).2:=by
 unfold cnt
 split
 ·exact q7t _ _
 ·exact q6z h

theorem qkv{m:Int}{s:Rs}(hm:0<=m)(h:U8 s.rest):0<=(cnt m s).1/\(cnt m s).1<=m:=by
 unfold cnt
 split
 ·exact⟨Int.le_refl _,hm⟩
 ·rename_i h1
  exact⟨qny h,by omega⟩

theorem qhc{m:Int}{s:Rs}(h:(cnt m s).2.code=0):s.code=0/\cnt m s=num s/\(num s).1<=m:=by
 unfold cnt at h ⊢
 split at h
 ·exact absurd h (q5h (by decide) _)
 ·rename_i h1
  rw[if_neg h1]
  exact⟨qx7 h,rfl,by omega⟩

theorem qhs:∀(k:Nat) (s:Rs),U8 s.rest->U8 (q3p k s).2.rest
 |0,_,h=>h
 |k+1,_,h=>qhs k _ (qvx (qgf h)).1

theorem z4k{s:Rs}(h:U8 s.rest):U8 (six s).rest:=q7j (q7j (q7j (q7j (q7j (q7j h)))))
theorem z4d{s:Rs}(h:q9a s):q9a (six s):=q6z (q6z (q6z (q6z (q6z (q6z h)))))

theorem qrq{first:Bool}{ahead:Int}{s:Rs}(h:U8 s.rest):U8 (q2w first ahead s).rest:=by
 unfold q2w
 split
 ·exact fun b hb=>by simp[q1q] at hb
 ·exact z4k h

theorem qlg{first:Bool}{ahead:Int}{s:Rs}(h:(q2w first ahead s).code=0):badP first ahead (q2d ahead s)=false/\(six s).code=0/\q2w first ahead s=six s:=by
 unfold q2w at h ⊢
 split at h
 ·exact absurd h (q5h (by decide) _)
 ·rename_i h1
  rw[if_neg h1]
  exact⟨by simpa using h1,h,rfl⟩

theorem qku:∀(k:Nat) (first:Bool) (ahead:Int) (s:Rs),(q1h k first ahead s).2.code≠0->(q1h k first ahead s).1=[]
 |0,_,_,_,_=>rfl
 |k+1,first,ahead,s,h=>by
  unfold q1h at h ⊢
  split at h
  ·rename_i h1
   rw[if_pos h1,if_neg h]
  ·rename_i h1
   rw[if_neg h1]

def q2f(s:ByteArray):List Int:=sev s.size++q6u s
def q5j(ss:List ByteArray):List Int:=sev ss.length++ss.flatMap q2f
def zig(n:Int):List Int:=sev (q7g n).toNat
def encP(ahead:Int)(x:En):List Int:=sev (x.key-ahead).toNat++(sev x.c.toNat++(zig x.s++(zig x.lo++(zig x.hi++zig x.l))))
def q3t:Int->List En->List Int
 |_,[]=>[]
 |ahead,x::r=>encP ahead x++q3t x.key r
def q5y(ss:List ByteArray)(f:Int)(l:List En):List Int:=q5j ss++(sev f.toNat++(sev l.length++q3t 0 l))

def big(n:Int):Prop:=-36028797018963968<=n/\n<36028797018963968

theorem qkh{n:Int}(h:big n):(q7g n).toNat<72057594037927936:=by
 unfold big at h
 have:=qdm n
 unfold q7g at *
 split<;>omega

theorem qme{n:Int}(h0:0<=n)(h1:n<72057594037927936)(r:List Int):num ⟨sev n.toNat++r,0⟩=(n,⟨r,0⟩):=by
 rw[qts (by omega)]
 have:((n.toNat:Nat):Int)=n:=by omega
 rw[this]

theorem qh5{n:Int}(h:big n)(r:List Int):num ⟨zig n++r,0⟩=(q7g n,⟨r,0⟩):=by
 unfold zig
 have:=qdm n
 have:=qkh h
 exact qme (by omega) (by omega) r

structure z1n(ahead:Int)(x:En):Prop where
 k0:ahead<=x.key
 a0:0<=ahead
 k1:x.key<1099511627776
 c0:0<x.c
 c1:x.c<72057594037927936
 s:big x.s
 lo:big x.lo
 hi:big x.hi
 l:big x.l
 t:x.t=x.key%1048576

theorem qsp{ahead:Int}{x:En}(h:z1n ahead x)(r:List Int):q2d ahead ⟨encP ahead x++r,0⟩=x/\six ⟨encP ahead x++r,0⟩=⟨r,0⟩:=by
 obtain⟨h1,h2,h3,h4,h5,h6,h7,h8,h9,h10⟩:=h
 have n1:=qme (n:=x.key-ahead) (by omega) (by omega) (sev x.c.toNat++(zig x.s++(zig x.lo++(zig x.hi++(zig x.l++r)))))
 have n2:=qme (n:=x.c) (by omega) h5 (zig x.s++(zig x.lo++(zig x.hi++(zig x.l++r))))
 have n3:=qh5 h6 (zig x.lo++(zig x.hi++(zig x.l++r)))
 have n4:=qh5 h7 (zig x.hi++(zig x.l++r))
 have n5:=qh5 h8 (zig x.l++r)
 have n6:=qh5 h9 r
 have e:encP ahead x++r=sev (x.key-ahead).toNat++(sev x.c.toNat++(zig x.s++(zig x.lo++(zig x.hi++(zig x.l++r))))):=by
  unfold encP
  simp only[List.append_assoc]
 rw[e]
 unfold q2d six
 simp only[n1,n2,n3,n4,n5,n6,qld]
 refine⟨?_,trivial⟩
 obtain⟨key,c,s,lo,hi,t,l⟩:=x
 simp only at h10 ⊢
 have:ahead+(key-ahead)=key:=by omega
 rw[this,h10]

def qfs:Bool->Int->List En->Prop
 |_,_,[]=>True
 |first,ahead,x::r=>z1n ahead x/\(first=true\/ahead<x.key)/\qfs false x.key r

theorem qfr:∀(l:List En) (first:Bool) (ahead:Int) (r:List Int),qfs first ahead l->q1h l.length first ahead ⟨q3t ahead l++r,0⟩=(l,⟨r,0⟩)
 |[],_,_,_,_=>rfl
 |x::l,first,ahead,r,h=>by
  obtain⟨h1,h2,h3⟩:=h
  have e:q3t ahead (x::l)++r=encP ahead x++(q3t x.key l++r):=by
   show(encP ahead x++q3t x.key l)++r=_
   rw[List.append_assoc]
  obtain⟨p1,p2⟩:=qsp h1 (q3t x.key l++r)
  have hb:badP first ahead x=false:=by
   unfold badP
   have:=h1.k1
   have:=h1.c0
   simp only[Bool.or_eq_false_iff,Bool.and_eq_false_iff,decide_eq_false_iff_not,Bool.not_eq_false']
   refine⟨by omega,?_,by omega⟩
   rcases h2 with h2|h2
   ·exact .inl h2
   ·right;omega
  have ha:q2w first ahead ⟨encP ahead x++(q3t x.key l++r),0⟩=⟨q3t x.key l++r,0⟩:=by
   unfold q2w
   rw[p1,hb,p2]
   rfl
  have ih:=qfr l false x.key r h3
  rw[e,List.length_cons]
  unfold q1h
  rw[ha,p1,ih]
  simp

theorem quc{m:Int}{n:Nat}(h:(n:Int)<=m)(h1:n<72057594037927936)(r:List Int):cnt m ⟨sev n++r,0⟩=((n:Int),⟨r,0⟩):=by
 unfold cnt
 rw[qts h1,if_neg (by show ¬(n:Int)>m;omega)]

theorem z5c(a r:List Int):tk a.length ⟨a++r,0⟩=(a,⟨r,0⟩):=by
 unfold tk
 rw[if_neg (by simp)]
 simp

theorem qfm:∀(ss:List ByteArray) (r:List Int),(∀s∈ss,s.size<=10)->q3p ss.length ⟨ss.flatMap q2f++r,0⟩=(ss,⟨r,0⟩)
 |[],_,_=>rfl
 |s::ss,r,h=>by
  have hs:=h s List.mem_cons_self
  have e:(s::ss).flatMap q2f++r=sev s.size++(q6u s++(ss.flatMap q2f++r)):=by
   rw[List.flatMap_cons]
   unfold q2f
   simp only[List.append_assoc]
  have n1:=quc (m:=10) (n:=s.size) (by omega) (by omega) (q6u s++(ss.flatMap q2f++r))
  have n2:=z5c (q6u s) (ss.flatMap q2f++r)
  rw[qj9] at n2
  have ih:=qfm ss r (fun x hx=>h x (List.mem_cons_of_mem _ hx))
  rw[e,List.length_cons]
  unfold q3p
  simp only[n1,Int.toNat_natCast,n2,qx6,ih]

structure qkb(ss:List ByteArray)(f:Int)(l:List En):Prop where
 n:ss.length<=16
 s:∀s∈ss,s.size<=10
 f0:0<=f
 f1:f<72057594037927936
 m:l.length<=10000
 p:qfs true 0 l

theorem qqj{ss:List ByteArray}{f:Int}{l:List En}(h:qkb ss f l)(r:List Int):(q1e (q5y ss f l++r)).1=ss/\(q1m (q5y ss f l++r)).1=f/\q0z (q5y ss f l++r)=(l,⟨r,0⟩):=by
 have hn:=h.n
 have hm:=h.m
 have e:q5y ss f l++r=sev ss.length++(ss.flatMap q2f++(sev f.toNat++(sev l.length++(q3t 0 l++r)))):=by
  unfold q5y q5j
  simp only[List.append_assoc]
 have n1:=quc (m:=16) (n:=ss.length) (by omega) (by omega) (ss.flatMap q2f++(sev f.toNat++(sev l.length++(q3t 0 l++r))))
 have n2:=qfm ss (sev f.toNat++(sev l.length++(q3t 0 l++r))) h.s
 have n3:=qme h.f0 h.f1 (sev l.length++(q3t 0 l++r))
 have n4:=quc (m:=10000) (n:=l.length) (by omega) (by omega) (q3t 0 l++r)
 have n5:=qfr l true 0 r h.p
 rw[e]
 have a1:q1e (sev ss.length++(ss.flatMap q2f++(sev f.toNat++(sev l.length++(q3t 0 l++r)))))=(ss,⟨sev f.toNat++(sev l.length++(q3t 0 l++r)),0⟩):=by
  unfold q1e
  simp only[n1,Int.toNat_natCast,n2]
 have a2:q1m (sev ss.length++(ss.flatMap q2f++(sev f.toNat++(sev l.length++(q3t 0 l++r)))))=(f,⟨sev l.length++(q3t 0 l++r),0⟩):=by
  unfold q1m
  rw[a1]
  exact n3
 refine⟨by rw[a1],by rw[a2],?_⟩
 unfold q0z
 simp only[a2,n4,Int.toNat_natCast,n5]

theorem qk6{s:Rs}(hu:U8 s.rest)(h:(num s).2.code=0):s.code=0/\s.rest=sev (num s).1.toNat++(num s).2.rest/\0<=(num s).1/\(num s).1<72057594037927936:=by
 have hp:num s=((num s).1,⟨(num s).2.rest,0⟩):=by
  rw[<-h]
 obtain⟨h0,n,h1,h2,h3⟩:=qve hu hp
 refine⟨h0,?_,by omega,by omega⟩
 have:(num s).1.toNat=n:=by omega
 rw[this]
 exact h3

theorem qmb{s:Rs}(hu:U8 s.rest)(h:(num s).2.code=0):s.code=0/\s.rest=zig (q2p (num s).1)++(num s).2.rest/\big (q2p (num s).1):=by
 obtain⟨h0,h1,h2,h3⟩:=qk6 hu h
 refine⟨h0,?_,?_⟩
 ·unfold zig
  rw[qle h2]
  exact h1
 ·unfold big q2p
  split<;>omega

theorem z1k{first:Bool}{ahead:Int}{s:Rs}(hu:U8 s.rest)(ha:0<=ahead)(h:(q2w first ahead s).code=0):
  s.code=0/\s.rest=encP ahead (q2d ahead s)++(q2w first ahead s).rest/\z1n ahead (q2d ahead s)/\(first=true\/ahead<(q2d ahead s).key):=by
 obtain⟨hb,h6,he⟩:=qlg h
 rw[he]
 have u1:=q7j hu
 have u2:=q7j u1
 have u3:=q7j u2
 have u4:=q7j u3
 have u5:=q7j u4
 obtain⟨z6,e6,b6⟩:=qmb u5 h6
 obtain⟨z5,e5,b5⟩:=qmb u4 z6
 obtain⟨z4,e4,b4⟩:=qmb u3 z5
 obtain⟨z3,e3,b3⟩:=qmb u2 z4
 obtain⟨z2,e2,c2,d2⟩:=qk6 u1 z3
 obtain⟨z1,e1,c1,d1⟩:=qk6 hu z2
 unfold badP at hb
 simp only[Bool.or_eq_false_iff,Bool.and_eq_false_iff,decide_eq_false_iff_not,Bool.not_eq_false'] at hb
 obtain⟨hb1,hb2,hb3⟩:=hb
 have hk:(q2d ahead s).key=ahead+(num s).1:=rfl
 have hc:(q2d ahead s).c=(num (num s).2).1:=rfl
 refine⟨z1,?_,⟨by omega,ha,by omega,by omega,by omega,b3,b4,b5,b6,rfl⟩,?_⟩
 ·unfold encP six
  have ek:(q2d ahead s).key-ahead=(num s).1:=by omega
  rw[ek,hc]
  show _=(sev (num s).1.toNat++(sev (num (num s).2).1.toNat++(zig (q2p (num (num (num s).2).2).1)++(zig (q2p (num (num (num (num s).2).2).2).1)++(zig (q2p (num (num (num (num (num s).2).2).2).2).1)++zig (q2p (num (num (num (num (num (num s).2).2).2).2).2).1))))))++_
  simp only[List.append_assoc]
  rw[<-e6,<-e5,<-e4,<-e3,<-e2,<-e1]
 ·rcases hb2 with hb2|hb2
  ·exact .inl hb2
  ·right;omega

theorem qm0:∀(k:Nat) (first:Bool) (ahead:Int) (s:Rs),U8 s.rest->0<=ahead->(q1h k first ahead s).2.code=0->s.code=0/\s.rest=q3t ahead (q1h k first ahead s).1++(q1h k first ahead s).2.rest/\qfs first ahead (q1h k first ahead s).1/\(q1h k first ahead s).1.length=k
 |0,_,_,_,_,_,h=>⟨h,rfl,trivial,rfl⟩
 |k+1,first,ahead,s,hu,ha,h=>by
  unfold q1h at h ⊢
  by_cases h0:(q2w first ahead s).code=0
  ·rw[if_pos h0] at h ⊢
   have h':(q1h k false (q2d ahead s).key (q2w first ahead s)).2.code=0:=h
   rw[if_pos h']
   obtain⟨a1,a2,a3,a4⟩:=z1k (first:=first) hu ha h0
   obtain⟨b1,b2,b3,b4⟩:=qm0 k false (q2d ahead s).key (q2w first ahead s) (qrq hu) (by have:=a3.k0;omega) h'
   refine⟨a1,?_,⟨a3,a4,b3⟩,by simpa using b4⟩
   show s.rest=(encP ahead (q2d ahead s)++q3t (q2d ahead s).key _)++_
   rw[List.append_assoc,<-b2]
   exact a2
  ·rw[if_neg h0] at h
   exact absurd h h0

theorem qs9:∀(k:Nat) (s:Rs),U8 s.rest->q9a s->(q3p k s).2.code=0->s.code=0/\s.rest=(q3p k s).1.flatMap q2f++(q3p k s).2.rest/\(q3p k s).1.length=k/\∀x∈(q3p k s).1,x.size<=10
 |0,_,_,_,h=>⟨h,rfl,rfl,fun x hx=>by simp[q3p] at hx⟩
 |k+1,s,hu,hs,h=>by
  have u1:=qgf (m:=10) hu
  have u2:=qvx (n:=(cnt 10 s).1.toNat) u1
  have s2:=qlw (n:=(cnt 10 s).1.toNat) (qdi (m:=10) hs)
  obtain⟨a1,a2,a3,a4⟩:=qs9 k _ u2.1 s2 h
  obtain⟨b1,b2,b3⟩:=qzd a1
  obtain⟨c1,c2,c3⟩:=qhc b1
  have z:(num s).2.code=0:=by rw[<-c2];exact b1
  obtain⟨d1,d2,d3,d4⟩:=qk6 hu z
  have hl:(q9b (tk (cnt 10 s).1.toNat (cnt 10 s).2).1).size=(num s).1.toNat:=by
   rw[qq1,b3,List.length_take,c2]
   rw[c2] at b2
   omega
  refine⟨c1,?_,?_,?_⟩
  ·show s.rest=(q9b (tk (cnt 10 s).1.toNat (cnt 10 s).2).1::_).flatMap q2f++_
   rw[List.flatMap_cons,List.append_assoc,q2f,hl,qhq u2.2]
   show s.rest=_++((q3p k (tk (cnt 10 s).1.toNat (cnt 10 s).2).2).1.flatMap q2f++(q3p k (tk (cnt 10 s).1.toNat (cnt 10 s).2).2).2.rest)
   rw[<-a2,List.append_assoc,b3,c2]
   show s.rest=sev (num s).1.toNat++(((num s).2.rest.take _)++((num s).2.rest.drop _))
   rw[List.take_append_drop]
   exact d2
  ·show(_::_).length=_
   rw[List.length_cons,a3]
  ·intro x hx
   rcases List.mem_cons.1 hx with rfl|hx
   ·rw[hl];omega
   ·exact a4 x hx

theorem z3h{bs:List Int}(hu:U8 bs)(h:(qct bs).code=0):bs=q5y (q1e bs).1 (q1m bs).1 (q0z bs).1/\qkb (q1e bs).1 (q1m bs).1 (q0z bs).1/\(q0z bs).2=⟨[],0⟩:=by
 have hz:(q0z bs).2.code=0/\(q0z bs).2.rest=[]:=by
  unfold qct at h
  split at h
  ·exact absurd h (q5h (by decide) _)
  ·rename_i h1
   exact⟨h,List.eq_nil_of_length_eq_zero (by omega)⟩
 have u0:U8 (Rs.mk bs 0).rest:=hu
 have s0:q9a (Rs.mk bs 0):=fun h=>absurd rfl h
 have u1:=qgf (m:=16) u0
 have s1:=qdi (m:=16) s0
 have u2:U8 (q1e bs).2.rest:=qhs _ _ u1
 have u3:U8 (q1m bs).2.rest:=q7j u2
 have u4:=qgf (m:=10000) u3
 obtain⟨a1,a2,a3,a4⟩:=qm0 _ true 0 _ u4 (Int.le_refl _) hz.1
 obtain⟨b1,b2,b3⟩:=qhc a1
 have z3:(num (q1m bs).2).2.code=0:=by rw[<-b2];exact a1
 obtain⟨c1,c2,c3,c4⟩:=qk6 u3 z3
 obtain⟨d1,d2,d3,d4⟩:=qk6 u2 b1
 obtain⟨e1,e2,e3,e4⟩:=qs9 _ _ u1 s1 d1
 obtain⟨f1,f2,f3⟩:=qhc e1
 have z1:(num (Rs.mk bs 0)).2.code=0:=by rw[<-f2];exact e1
 obtain⟨g1,g2,g3,g4⟩:=qk6 u0 z1
 have l1:(q1e bs).1.length=(num (Rs.mk bs 0)).1.toNat:=by rw[<-f2];exact e3
 have l2:(q0z bs).1.length=(num (q1m bs).2).1.toNat:=by rw[<-b2];exact a4
 refine⟨?_,⟨by omega,e4,d3,d4,by omega,a3⟩,?_⟩
 ·unfold q5y q5j
  rw[l1,l2,List.append_assoc]
  have a2':(num (q1m bs).2).2.rest=q3t 0 (q0z bs).1++(q0z bs).2.rest:=(congrArg (fun x=>x.2.rest) b2).symm.trans a2
  rw[hz.2,List.append_nil] at a2'
  rw[<-a2',<-c2]
  have d2':(q1e bs).2.rest=sev (q1m bs).1.toNat++(q1m bs).2.rest:=d2
  rw[<-d2']
  have e2':(num (Rs.mk bs 0)).2.rest=(q1e bs).1.flatMap q2f++(q1e bs).2.rest:=(congrArg (fun x=>x.2.rest) f2).symm.trans e2
  rw[<-e2']
  exact g2
 ·rw[<-hz.1,<-hz.2]

def q9c(p:Int × Int)(b:Int):Int × Int:=((p.1+b)%65521,(p.2+(p.1+b)%65521)%65521)
def qqu(bs:List Int):Int × Int:=bs.foldl q9c (1,0)
def qux(p:Int × Int):List Int:=[p.2/256,p.2%256,p.1/256,p.1%256]
def q8z(bs:List Int):List Int:=qux (qqu bs)

theorem qod:∀(bs:List Int) (p:Int × Int),0<=p.1->p.1<65521->0<=p.2->p.2<65521->0<=(bs.foldl q9c p).1/\(bs.foldl q9c p).1<65521/\0<=(bs.foldl q9c p).2/\(bs.foldl q9c p).2<65521
 |[],_,h1,h2,h3,h4=>⟨h1,h2,h3,h4⟩
 |b::r,p,_,_,_,_=>by
  rw[List.foldl_cons]
  exact qod r (q9c p b) (show 0<=(p.1+b)%65521 by omega) (show(p.1+b)%65521<65521 by omega) (show 0<=(p.2+(p.1+b)%65521)%65521 by omega) (show(p.2+(p.1+b)%65521)%65521<65521 by omega)

theorem qit(bs:List Int):0<=(qqu bs).1/\(qqu bs).1<65521/\0<=(qqu bs).2/\(qqu bs).2<65521:=qod bs (1,0) (by decide) (by decide) (by decide) (by decide)

theorem qnt(bs:List Int):U8 (q8z bs):=by
 obtain⟨h1,h2,h3,h4⟩:=qit bs
 intro b hb
 simp only[q8z,qux,List.mem_cons,List.not_mem_nil,or_false] at hb
 rcases hb with rfl|rfl|rfl|rfl<;>omega

theorem qsf(bs:List Int):(q8z bs).length=4:=rfl

def mark:List Int:=[119,110]
def encH(ss:List ByteArray)(f:Int)(l:List En):List Int:=mark++q5y ss f l
def encB(ss:List ByteArray)(f:Int)(l:List En):List Int:=encH ss f l++q8z (encH ss f l)

def qex(b:List Int):List Int:=b.take (b.length-4)
def q1j(b:List Int):List Int:=(qex b).drop 2
def q4c(b:List Int):Int:=if 200000<b.length then 1 else if b.length<6 then 5 else if b.take 2=mark then(if q8z (qex b)=b.drop (b.length-4) then 0 else 9) else 4
def decC(b:List Int):Int:=if q4c b=0 then(qct (q1j b)).code else q4c b

theorem qqa{b:List Int}(h:q4c b=0):b.length<=200000/\6<=b.length/\b.take 2=mark/\q8z (qex b)=b.drop (b.length-4):=by
 unfold q4c at h
 split at h
 ·cases h
 ·split at h
  ·cases h
  ·split at h
   ·split at h
    ·rename_i h1 h2 h3 h4
     exact⟨by omega,by omega,h3,h4⟩
    ·cases h
   ·cases h

theorem qxc(a b:List Int)(hb:b.length=4):qex (a++b)=a/\(a++b).drop ((a++b).length-4)=b:=by
 have e:(a++b).length-4=a.length:=by rw[List.length_append];omega
 constructor
 ·unfold qex
  rw[e,List.take_left]
 ·rw[e,List.drop_left]

theorem qtt(ss:List ByteArray)(f:Int)(l:List En):(encB ss f l).length=(q5y ss f l).length+6:=by
 unfold encB encH
 simp[mark,q8z,qux]

theorem qwp{ss:List ByteArray}{f:Int}{l:List En}(h:(encB ss f l).length<=200000):q4c (encB ss f l)=0/\q1j (encB ss f l)=q5y ss f l:=by
 obtain⟨h1,h2⟩:=qxc (encH ss f l) (q8z (encH ss f l)) rfl
 have hl:=qtt ss f l
 constructor
 ·unfold q4c
  rw[if_neg (by omega),if_neg (by omega),if_pos (by unfold encB encH;rfl),if_pos]
  unfold encB
  rw[h1,h2]
 ·unfold q1j encB
  rw[h1]
  rfl

theorem z0z{ss:List ByteArray}{f:Int}{l:List En}(h:qkb ss f l)(hl:(encB ss f l).length<=200000):decC (encB ss f l)=0/\(q1e (q1j (encB ss f l))).1=ss/\(q1m (q1j (encB ss f l))).1=f/\(q0z (q1j (encB ss f l))).1=l:=by
 obtain⟨h1,h2⟩:=qwp hl
 obtain⟨a1,a2,a3⟩:=qqj h []
 rw[List.append_nil] at a1 a2 a3
 unfold decC
 rw[if_pos h1,h2]
 refine⟨?_,a1,a2,by rw[a3]⟩
 unfold qct
 rw[a3]
 rfl

theorem qe8{l:List Int}(h:U8 l)(n:Nat):U8 (l.take n):=fun b hb=>h b (List.mem_of_mem_take hb)
theorem qgp{l:List Int}(h:U8 l)(n:Nat):U8 (l.drop n):=fun b hb=>h b (List.mem_of_mem_drop hb)

theorem qx2{b:List Int}(hu:U8 b)(h:decC b=0):b=encB (q1e (q1j b)).1 (q1m (q1j b)).1 (q0z (q1j b)).1/\qkb (q1e (q1j b)).1 (q1m (q1j b)).1 (q0z (q1j b)).1:=by
 have hs:q4c b=0:=by
  unfold decC at h
  split at h
  ·assumption
  ·exact h
 have hr:(qct (q1j b)).code=0:=by
  unfold decC at h
  rwa [if_pos hs] at h
 obtain⟨h1,h2,h3,h4⟩:=qqa hs
 have hub:U8 (q1j b):=qgp (qe8 hu _) 2
 obtain⟨k1,k2,_⟩:=z3h hub hr
 refine⟨?_,k2⟩
 have e1:qex b=mark++q1j b:=by
  unfold q1j qex
  conv=>lhs;rw[<-List.take_append_drop 2 (b.take (b.length-4))]
  congr 1
  rw[List.take_take,Nat.min_eq_left (by omega),h3]
 have e2:encH (q1e (q1j b)).1 (q1m (q1j b)).1 (q0z (q1j b)).1=qex b:=by
  unfold encH
  rw[<-k1,e1]
 unfold encB
 rw[e2,h4]
 exact(List.take_append_drop _ _).symm

theorem q7k{a b:List Int}(ha:U8 a)(hb:U8 b):U8 (a++b):=fun x hx=>by
 rcases List.mem_append.1 hx with h|h
 ·exact ha x h
 ·exact hb x h

theorem qm2:∀(ahead:Int) (l:List En),U8 (q3t ahead l)
 |_,[]=>fun x hx=>by simp[q3t] at hx
 |ahead,x::r=>q7k (q7k (qa8 _) (q7k (qa8 _) (q7k (qa8 _) (q7k (qa8 _) (q7k (qa8 _) (qa8 _)))))) (qm2 x.key r)

theorem qnc:∀(ss:List ByteArray),U8 (ss.flatMap q2f)
 |[]=>fun x hx=>by simp at hx
 |s::r=>by
  rw[List.flatMap_cons]
  exact q7k (q7k (qa8 _) (qw7 s)) (qnc r)

theorem z0m(ss:List ByteArray)(f:Int)(l:List En):U8 (encH ss f l):=
 q7k (fun x hx=>by simp only[mark,List.mem_cons,List.not_mem_nil,or_false] at hx;omega) (q7k (q7k (qa8 _) (qnc ss)) (q7k (qa8 _) (q7k (qa8 _) (qm2 0 l))))

theorem qli(ss:List ByteArray)(f:Int)(l:List En):U8 (encB ss f l):=q7k (z0m ss f l) (qnt _)

end
end Go.Proofs.YtlojfgdpmaigmahGreatDoor

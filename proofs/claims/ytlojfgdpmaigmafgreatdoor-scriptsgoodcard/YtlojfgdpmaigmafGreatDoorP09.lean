/- What Merge of package roll, and the document's answer to it, do with any two rollups. -/
import Derived.Test.YtlojfgdpmaigmafGreatDoorP05
import Derived.Test.YtlojfgdpmaigmafGreatDoorWalks11
import Derived.Test.YtlojfgdpmaigmafGreatDoorWalks12
import Derived.Test.YtlojfgdpmaigmafGreatDoorWalks13
namespace Go.Proofs.YtlojfgdpmaigmafGreatDoor
section
open Go.RowKit Plain

structure Ru where
 c:Int
 s:Int
 lo:Int
 hi:Int
 t:Int
 l:Int

def chk(r:Ru):Int:=q1i r.c r.s r.lo r.hi r.t r.l
def zro:Ru:=⟨0,0,0,0,0,0⟩
def jn(a b:Ru):Ru:=⟨a.c+b.c,a.s+b.s,mn a.lo b.lo,mx a.hi b.hi,pk (ltr a.t a.l b.t b.l) a.t b.t,pk (ltr a.t a.l b.t b.l) a.l b.l⟩
def mrg(a b:Ru):Ru × Int:=
 if chk a≠0 then(zro,chk a) else if chk b≠0 then(zro,chk b) else if a.c=0 then(b,0) else if b.c=0 then(a,0)
 else if a.c+b.c<=1073741824/\inB (a.s+b.s) (-1125899906842624) 1125899906842624=true then(jn a b,0) else(zro,1)

theorem z4t{a b:Ru}(h:chk a≠0):mrg a b=(zro,chk a):=by unfold mrg;rw[if_pos h]
theorem z4e{a b:Ru}(h:chk a=0)(h':chk b≠0):mrg a b=(zro,chk b):=by unfold mrg;rw[if_neg (by simpa using h),if_pos h']
theorem z2c{a b:Ru}(h:chk a=0)(h':chk b=0)(e:a.c=0):mrg a b=(b,0):=by unfold mrg;rw[if_neg (by simpa using h),if_neg (by simpa using h'),if_pos e]
theorem z4d{a b:Ru}(h:chk a=0)(h':chk b=0)(e:¬a.c=0)(e':b.c=0):mrg a b=(a,0):=by unfold mrg;rw[if_neg (by simpa using h),if_neg (by simpa using h'),if_neg e,if_pos e']
theorem z1j{a b:Ru}(h:chk a=0)(h':chk b=0)(e:¬a.c=0)(e':¬b.c=0)(k:a.c+b.c<=1073741824)(k':inB (a.s+b.s) (-1125899906842624) 1125899906842624=true):mrg a b=(jn a b,0):=by
 unfold mrg;rw[if_neg (by simpa using h),if_neg (by simpa using h'),if_neg e,if_neg e',if_pos ⟨k,k'⟩]
theorem qxy{a b:Ru}(h:chk a=0)(h':chk b=0)(e:¬a.c=0)(e':¬b.c=0)(k:¬(a.c+b.c<=1073741824/\inB (a.s+b.s) (-1125899906842624) 1125899906842624=true)):mrg a b=(zro,1):=by
 unfold mrg;rw[if_neg (by simpa using h),if_neg (by simpa using h'),if_neg e,if_neg e',if_neg k]
theorem z4x{a b:Ru}(h:chk a=0)(h':chk b=0)(e:a.c=0)(e':b.c=0):a=b:=by
 have key:∀r:Ru,chk r=0->r.c=0->r=zro:=by
  intro r hr hc
  obtain⟨c,s,lo,hi,t,l⟩:=r
  simp only at hc
  subst hc
  simp only[chk,q1i] at hr
  by_cases hb:q6q 0 s lo hi t l=true
  ·rw[if_pos hb] at hr
   by_cases hf:qa8 0 s lo hi t l=true
   ·simp[qa8,eqR] at hf
    obtain⟨⟨⟨⟨rfl,rfl⟩,rfl⟩,rfl⟩,rfl⟩:=hf
    rfl
   ·rw[if_neg hf] at hr;omega
  ·rw[if_neg hb] at hr;omega
 rw[key a h e,key b h' e']

theorem qx9{x:Int}(h:x≠0):(x != 0)=true:=by simpa using h
theorem qeg{x:Int}(h:x≠0):(x==0)=false:=by simpa using h

theorem q6z(a b:Ru)(w:World):
  Calls Tryz.prog 67 #[.agg #[.int .i64 a.c,.int .i64 a.s,.int .i64 a.lo,.int .i64 a.hi,.int .i64 a.t,.int .i64 a.l],.agg #[.int .i64 b.c,.int .i64 b.s,.int .i64 b.lo,.int .i64 b.hi,.int .i64 b.t,.int .i64 b.l]] w fun e w'=>e=.returned (.tuple #[.agg #[.int .i64 (mrg a b).1.c,.int .i64 (mrg a b).1.s,.int .i64 (mrg a b).1.lo,.int .i64 (mrg a b).1.hi,.int .i64 (mrg a b).1.t,.int .i64 (mrg a b).1.l],.int .i64 (mrg a b).2])/\Below w.heap.size w w':=by
 by_cases h1:chk a=0
 ·by_cases h2:chk b=0
  ·by_cases e1:a.c=0
   ·rw[z2c h1 h2 e1]
    obtain⟨c,s,lo,hi,t,l⟩:=a
    simp only at e1
    subst e1
    exact qjf _ _ _ _ _ _ _ _ _ _ _ _ h1 h2
   ·by_cases e2:b.c=0
    ·rw[z4d h1 h2 e1 e2]
     obtain⟨c,s,lo,hi,t,l⟩:=b
     simp only at e2
     subst e2
     exact qjh _ _ _ _ _ _ _ _ _ _ _ _ h1 h2 (qeg e1)
    ·obtain⟨⟨a1,_⟩,_⟩:=q1x h1
     obtain⟨⟨b1,_⟩,_⟩:=q1x h2
     by_cases k1:a.c+b.c<=1073741824
     ·have k1':inB (a.c+b.c) 0 1073741824=true:=(q3o _ _ _).2 ⟨by omega,k1⟩
      by_cases k2:inB (a.s+b.s) (-1125899906842624) 1125899906842624=true
      ·rw[z1j h1 h2 e1 e2 k1 k2]
       exact qv1 _ _ _ _ _ _ _ _ _ _ _ _ _ h1 h2 (qeg e1) (qeg e2) k1' k2
      ·rw[qxy h1 h2 e1 e2 (fun h=>k2 h.2)]
       exact qo1 _ _ _ _ _ _ _ _ _ _ _ _ _ h1 h2 (qeg e1) (qeg e2) k1' (by simpa using k2)
     ·rw[qxy h1 h2 e1 e2 (fun h=>k1 h.1)]
      exact qnn _ _ _ _ _ _ _ _ _ _ _ _ _ h1 h2 (qeg e1) (qeg e2) ((qqw _ _ _).2 (Or.inr (by omega)))
  ·rw[z4e h1 h2]
   exact qnk _ _ _ _ _ _ _ _ _ _ _ _ _ h1 (qx9 h2)
 ·rw[z4t h1]
  exact qnj _ _ _ _ _ _ _ _ _ _ _ _ _ (qx9 h1)

theorem w64(n:Int)(h: -9223372036854775808<=n/\n<=9223372036854775807):wrap64 n=n:=by unfold wrap64;omega

theorem qp1{c x:Int}(h1:0<=c)(h2:c<=1073741824)(h3: -1000000<=x)(h4:x<=1000000): -1073741824000000<=c*x/\c*x<=1073741824000000:=by
 have a:=Int.mul_le_mul_of_nonneg_left h3 h1
 have b:=Int.mul_le_mul_of_nonneg_left h4 h1
 omega

theorem qxf{r:Ru}(h1:0<r.c)(h2:r.c<=1073741824)(ht:0<=r.t/\r.t<=1048575)(hlo: -1000000<=r.lo)(hhi:r.hi<=1000000)(hl:r.lo<=r.l/\r.l<=r.hi)(hs:r.c*r.lo<=r.s/\r.s<=r.c*r.hi):chk r=0:=by
 have m1:=qp1 (x:=r.lo) (by omega) h2 hlo (by omega)
 have m2:=qp1 (x:=r.hi) (by omega) h2 (by omega) hhi
 have hb:q6q r.c r.s r.lo r.hi r.t r.l=true:=by
  simp only[q6q,Bool.and_eq_true,q3o]
  omega
 have hf:qa8 r.c r.s r.lo r.hi r.t r.l=true:=by
  unfold qa8
  rw[if_neg (by omega),w64 _ (by omega),w64 _ (by omega)]
  simp only[Bool.and_eq_true,q3o]
  omega
 simp[chk,q1i,hb,hf]

theorem qxr:chk zro=0:=by simp[chk,q1i,zro,q6q,qa8,eqR,inB]

def one(t v:Int):Ru:=⟨1,v,v,v,t,v⟩
theorem qy9{t v:Int}(ht:0<=t/\t<=1048575)(hv: -1000000<=v/\v<=1000000):chk (one t v)=0:=
 qxf (by simp[one]) (by simp[one]) ht hv.1 hv.2 (by simp[one]) (by simp[one])

end
end Go.Proofs.YtlojfgdpmaigmafGreatDoor

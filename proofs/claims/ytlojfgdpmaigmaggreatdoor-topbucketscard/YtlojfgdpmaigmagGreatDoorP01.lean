/- Plain mathematics of rollups: what a check, a point and a merge come to, in integers; no Go in sight. -/
import Derived.RowKit
namespace Go.Proofs.YtlojfgdpmaigmagGreatDoor.Plain

def inB(n lo hi:Int):Bool:=decide (lo<=n)&&decide (n<=hi)

theorem gI(n lo hi:Int):inB n lo hi=true↔lo<=n/\n<=hi:=by simp[inB]
theorem qhm(n lo hi:Int):inB n lo hi=false↔n<lo\/hi<n:=by
 simp only[inB,Bool.and_eq_false_iff,decide_eq_false_iff_not];omega

def mn(a b:Int):Int:=if a<=b then a else b
def mx(a b:Int):Int:=if a<=b then b else a
theorem mn_l{a b:Int}(h:a<=b):mn a b=a:=by simp[mn,h]
theorem mn_r{a b:Int}(h:b<=a):mn a b=b:=by unfold mn;split<;>omega
theorem mx_r{a b:Int}(h:a<=b):mx a b=b:=by simp[mx,h]
theorem mx_l{a b:Int}(h:b<=a):mx a b=a:=by unfold mx;split<;>omega

def ltr(t l t' l':Int):Bool:=decide (t'<t)||(decide (t=t')&&decide (l'<l))

end Go.Proofs.YtlojfgdpmaigmagGreatDoor.Plain

/- Plain mathematics of a merge of two rollups, in integers; no Go in sight. -/
namespace Go.Proofs.YtlojfgdpmaigmagGreatDoor.Plain

def pk(b:Bool)(x y:Int):Int:=if b=true then x else y
theorem pk_t{b:Bool}(x y:Int)(h:b=true):pk b x y=x:=by simp[pk,h]
theorem pk_f{b:Bool}(x y:Int)(h:b=false):pk b x y=y:=by simp[pk,h]

end Go.Proofs.YtlojfgdpmaigmagGreatDoor.Plain

/- Numbers as bytes, in plain terms: how they are told, and read. -/
namespace Go.Proofs.YtlojfgdpmaigmagGreatDoor
open Plain

def sev(n:Nat):List Int:=if h:n<128 then[(n:Int)] else((128+n%128:Nat):Int)::sev (n/128)
termination_by n
decreasing_by omega

theorem yQ{n:Nat}(h:n<128):sev n=[(n:Int)]:=by
 rw[sev,dif_pos h]

theorem qel{n:Nat}(h:¬n<128):sev n=((128+n%128:Nat):Int)::sev (n/128):=by
 rw[sev,dif_neg h]

def gB(n:Int):Int:=if n<0 then -2*n-1 else 2*n
def fP(n:Int):Int:=if n%2≠0 then -((n+1)/2) else n/2

theorem q9e(n:Int):fP (gB n)=n:=by
 unfold gB fP
 split
 ·rw[if_pos (by omega)]
  omega
 ·rw[if_neg (by omega)]
  omega

theorem q8q{n:Int}(h:0<=n):gB (fP n)=n:=by
 unfold gB fP
 split
 ·rw[if_pos (by omega)]
  omega
 ·rw[if_neg (by omega)]
  omega

theorem uK(n:Int):0<=gB n:=by
 unfold gB
 split<;>omega

structure Rs where
 rest:List Int
 code:Int

def numF:Nat->Bool->Int->Int->List Int->Int × Rs
 |_,_,_,_,[]=>(0,⟨[],5⟩)
 |0,_,_,_,_::_=>(0,⟨[],4⟩)
 |f+1,first,n,unit,c::r=>if c=0/\first=false then(0,⟨[],4⟩) else if c<128 then(n+c*unit,⟨r,0⟩) else numF f false (n+(c-128)*unit) (unit*128) r

def num(s:Rs):Int × Rs:=if s.code=0 then numF 8 true 0 1 s.rest else(0,s)

def U8(l:List Int):Prop:=∀b∈l,0<=b/\b<=255

theorem mP:∀(n:Nat),U8 (sev n):=by
 intro n
 induction n using Nat.strongRecOn with
 |_ n ih=>
  by_cases h:n<128
  ·rw[yQ h];intro b hb;obtain rfl:b=n:=by simpa using hb
   omega
  ·rw[qel h];intro b hb;rcases List.mem_cons.1 hb with rfl|hb
   ·omega
   ·exact ih (n/128) (by omega) b hb

theorem qc2(r:List Int):∀(f n:Nat) (first:Bool) (a u:Int),n<128 ^ (f+1)->(first=true\/0<n)->numF (f+1) first a u (sev n++r)=(a+n*u,⟨r,0⟩)
 |f,n,first,a,u,h,hf=>by
  by_cases hn:n<128
  ·rw[yQ hn];show numF (f+1) first a u ((n:Int)::r)=_
   unfold numF;rw[if_neg,if_pos (by omega)]
   rintro⟨h1,h2⟩;rcases hf with hf|hf
   ·rw[hf] at h2;cases h2
   ·omega
  ·rw[qel hn];show numF (f+1) first a u (((128+n%128:Nat):Int)::(sev (n/128)++r))=_
   unfold numF;rw[if_neg (by omega),if_neg (by omega)]
   match f with
   |0=>simp at h;omega
   |f+1=>
    rw[qc2 r f (n/128) false _ _ (by
     rw[Nat.div_lt_iff_lt_mul (by decide)]
     rw[Nat.pow_succ] at h;exact h) (.inr (by omega))]
    have e:(n:Int)=(n%128:Nat)+128*(n/128:Nat):=by omega
    have e2:(((128+n%128:Nat):Int)-128)=((n%128:Nat):Int):=by omega
    rw[e2];congr 1
    conv=>rhs;rw[e]
    rw[Int.add_mul,Int.add_assoc];congr 2;rw[Int.mul_comm u 128,<-Int.mul_assoc,Int.mul_comm ((n/128:Nat):Int) 128]

theorem qfg{n:Nat}(h:n<72057594037927936)(r:List Int):num ⟨sev n++r,0⟩=((n:Int),⟨r,0⟩):=by
 unfold num;rw[if_pos rfl,qc2 r 7 n true 0 1 (by simpa using h) (.inl rfl)]
 simp

theorem q6w:∀(f:Nat) (first:Bool) (a u:Int) (bs:List Int) (m:Int) (r:List Int),U8 bs->numF f first a u bs=(m,⟨r,0⟩)->∃n:Nat,n<128 ^ f/\(first=true\/0<n)/\m=a+n*u/\bs=sev n++r
 |0,first,a,u,[],m,r,_,h=>by
  simp[numF] at h
 |f+1,first,a,u,[],m,r,_,h=>by
  simp[numF] at h
 |0,first,a,u,c::t,m,r,_,h=>by
  simp[numF] at h
 |f+1,first,a,u,c::t,m,r,hu,h=>by
  obtain⟨c0,c1⟩:=hu c List.mem_cons_self;unfold numF at h
  split at h
  ·simp at h
  ·rename_i h0
   split at h
   ·rename_i h1
    have h':=Prod.mk.inj h;have h'':t=r:=congrArg Rs.rest h'.2;have e:(c.toNat:Int)=c:=by omega
    have hf:c.toNat<128:=by omega
    refine⟨c.toNat,Nat.lt_of_lt_of_le hf ?_,?_,?_,?_⟩
    ·rw[Nat.pow_succ];exact Nat.le_mul_of_pos_left _ (Nat.pow_pos (by decide))
    ·by_cases hc:c=0
     ·left;cases first with
      |true=>rfl
      |false=>exact absurd ⟨hc,rfl⟩ h0
     ·right;omega
    ·rw[e];exact h'.1.symm
    ·rw[yQ hf,e,h'']
     rfl
   ·rename_i h1
    obtain⟨n,n1,n2,n3,n4⟩:=q6w f false _ _ t m r (fun b hb=>hu b (List.mem_cons_of_mem _ hb)) h
    have hn0:0<n:=by
     rcases n2 with n2|n2
     ·cases n2
     ·exact n2
    have e:(c.toNat:Int)=c:=by omega
    have hd:((c.toNat-128)+128*n)/128=n:=by omega
    have hm:((c.toNat-128)+128*n)%128=c.toNat-128:=by omega
    refine⟨(c.toNat-128)+128*n,?_,.inr (by omega),?_,?_⟩
    ·rw[Nat.pow_succ];omega
    ·rw[n3];have e3:(((c.toNat-128)+128*n:Nat):Int)=(c-128)+128*n:=by omega
     rw[e3,Int.add_mul,Int.add_assoc];congr 2;rw[Int.mul_comm u 128,<-Int.mul_assoc,Int.mul_comm (n:Int) 128]
    ·rw[qel (by omega),hd,hm,n4]
     have:((128+(c.toNat-128):Nat):Int)=c:=by omega
     rw[this]
     rfl

theorem ql1{s:Rs}{m:Int}{r:List Int}(hu:U8 s.rest)(h:num s=(m,⟨r,0⟩)):s.code=0/\∃n:Nat,n<72057594037927936/\m=n/\s.rest=sev n++r:=by
 unfold num at h
 split at h
 ·rename_i h0
  obtain⟨n,n1,_,n3,n4⟩:=q6w 8 true 0 1 s.rest m r hu h;exact⟨h0,n,by simpa using n1,by rw[n3];omega,n4⟩
 ·rename_i h0
  have:=congrArg Rs.code (Prod.mk.inj h).2;exact absurd this h0

end Go.Proofs.YtlojfgdpmaigmagGreatDoor

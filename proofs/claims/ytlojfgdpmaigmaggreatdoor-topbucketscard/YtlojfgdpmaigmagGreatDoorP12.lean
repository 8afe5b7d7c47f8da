/- Entries that may be (P2.1): the code's test and the document's. -/
import Derived.Test.YtlojfgdpmaigmagGreatDoorP09
import Derived.Test.YtlojfgdpmaigmagGreatDoorP08
import Derived.BigQuiet
import Derived.Test.YtlojfgdpmaigmagGreatDoorP02
import Derived.Handy
import Derived.Deep.OwnRows
import Derived.Deep.Light
namespace Go.Proofs.YtlojfgdpmaigmagGreatDoor
section
open Go.RowKit Plain

theorem qnr{xs:List En}{low high:Int}{k:Nat}(hk:k<xs.length)(h:aK xs low high=aK (xs.drop k) (fD xs low k) high)(he:entB xs[k] (fD xs low k) high=false):aK xs low high=false:=by
 rw[h,q0i hk,he,Bool.false_and]

theorem qkm{xs:List En}{low high:Int}{k:Nat}(hk:k<xs.length)(h:aK xs low high=aK (xs.drop k) (fD xs low k) high)(he:entB xs[k] (fD xs low k) high=true):
  aK xs low high=aK (xs.drop (k+1)) (fD xs low (k+1)) high:=by
 rw[h,q0i hk,he,Bool.true_and]

theorem qko{xs:List En}{low high:Int}{k:Nat}(hk:k=xs.length)(h:aK xs low high=aK (xs.drop k) (fD xs low k) high):aK xs low high=true:=by
 rw[h,hk,List.drop_length];rfl

theorem dQ{a b:Bool}(h:a=b):Ending.returned (.bool a)=.returned (.bool b):=by rw[h]

set_option maxRecDepth 20000 in
set_option maxHeartbeats 4000000 in
theorem lN(A:Option Addr)(C:Nat)(xs:List En)(most low high:Int)(w:World)(h:aH w.heap.size w A (aB xs))(hz:xs.length*56<=140737488351232)(hl: -9223372036854775808<=low)(hh:high<=9223372036854775807):
  Calls Tryz.prog 157 #[.slice A xs.length C,.int .i64 most,.int .i64 low,.int .i64 high] w fun e w'=>e=.returned (.bool (decide ((xs.length:Int)<=most)&&aK xs low high))/\Below w.heap.size w w':=by
 by_cases hm:most<xs.length
 ·have HE:Hid ((decide ((xs.length:Int)<=most)&&aK xs low high)=false):=by
   show _=false;rw[decide_eq_false (by omega),Bool.false_and]
  go_enter Tryz.func157,Tryz.ntmps157
  go_wp2_with fail;go_ret;exact⟨dQ HE.out.symm,Below.refl _ _⟩
 ·have HE:Hid ((decide ((xs.length:Int)<=most)&&aK xs low high)=aK xs low high):=by
   show _=_;rw[decide_eq_true (by omega),Bool.true_and]
  rw[HE.out]
  go_enter Tryz.func157,Tryz.ntmps157
  go_wp2_with fail
  go_loopw [2,17] (fun lo i wr=>∃k:Nat,k<=xs.length/\i=.int .i64 k/\lo=.int .i64 (fD xs low k)/\low<=fD xs low k/\Hid (aK xs low high=aK (xs.drop k) (fD xs low k) high)/\Below w.heap.size w wr) (fun _ i _=>xs.length-(intOf i).toNat)
  case atStart=>exact⟨0,Nat.zero_le _,rfl,rfl,Int.le_refl _,(show _=_ from rfl),Below.refl _ _⟩
  case round=>
   obtain⟨k,hk,rfl,rfl,hlo,HR,hb⟩:=hrel
   by_cases hlt:k<xs.length
   ·obtain⟨b,o,rfl,hbl,c0,c1,c2,c3,c4,c5,c6⟩:=(h.below hb (Nat.le_refl _)).en hlt;have hle:w.heap.size<=wr.heap.size:=hb.size;have hbr:b<wr.heap.size:=by omega
    have HY:Hid (entB xs[k] (fD xs low k) high=true->aK xs low high=aK (xs.drop (k+1)) (fD xs low (k+1)) high):=fun he=>qkm hlt HR.out he
    have HN:Hid (entB xs[k] (fD xs low k) high=false->aK xs low high=false):=fun he=>qnr hlt HR.out he
    have HS:Hid (fD xs low (k+1)=xs[k].key+1):=by show _=_;simp[fD,hlt]
    clear HR;generalize xs[k]=x at *;generalize fD xs low k=lo at *;obtain⟨key,c,s,xlo,xhi,t,l⟩:=x;simp only at c0 c1 c2 c3 c4 c5 c6
    by_cases h1:lo<=key
    ·by_cases h2:key<high
     ·by_cases h3:c=0
      ·have HN':=HN.out (by simp[entB,h3])
       clear HN HY;have HN'':Hid (aK xs low high=false):=HN';clear HN';subst h3;go_wp2_with fail;go_ret;exact⟨dQ HN''.out.symm,hb.alloc hle _⟩
      ·by_cases h4:bU c s xlo xhi t l=0
       ·have h4':(bU c s xlo xhi t l==0)=true:=by simpa using h4
        have h3':(c==0)=false:=by simpa using h3
        have HY':Hid (aK xs low high=aK (xs.drop (k+1)) (fD xs low (k+1)) high):=HY.out (by simp[entB,h1,h2,h3,h4])
        clear h3 HY HN;go_wp2_with (first|(go_at_call 26;refine(iF _ _ _ _ _ _ _).mono ?_;rintro e w1 ⟨rfl,hb1⟩;have hc1:=(aY hb1).1))
        go_roundw
        case rel=>
         go_light;have hs:=HS.out;exact⟨k+1,by omega,by go_num,by rw[hs],by omega,HY',aC (hb.alloc hle _) (Nat.le_refl _) hb1⟩
        case measure=>simp[intOf];omega
       ·have h4':(bU c s xlo xhi t l==0)=false:=by simpa using h4
        have h3':(c==0)=false:=by simpa using h3
        have HN':Hid (aK xs low high=false):=HN.out (by simp[entB,h4])
        clear h3 HY HN;have h4n:(bU c s xlo xhi t l != 0)=true:=by simpa using h4
        go_wp2_with (first|(go_at_call 26;refine(iF _ _ _ _ _ _ _).mono ?_;rintro e w1 ⟨rfl,hb1⟩;have hc1:=(aY hb1).1))
        go_ret;exact⟨dQ HN'.out.symm,aC (hb.alloc hle _) (Nat.le_refl _) hb1⟩
     ·have HN':Hid (aK xs low high=false):=HN.out (by simp[entB,h2])
      clear HN HY;go_wp2_with fail;go_ret;exact⟨dQ HN'.out.symm,hb.alloc hle _⟩
    ·have HN':Hid (aK xs low high=false):=HN.out (by simp[entB,h1])
     clear HN HY;go_wp2_with fail;go_ret;exact⟨dQ HN'.out.symm,hb.alloc hle _⟩
   ·obtain rfl:k=xs.length:=by omega
    go_wp2;go_ret;exact⟨dQ (qko rfl HR.out).symm,hb⟩

theorem jU{B:Nat}{w w':World}(h:Below B w w')(n:Nat):Below B w (w'.drewN n):=⟨h.os,h.tape,h.output,h.size,h.block⟩

def tv(b:Bool)(g:Nat):Value:=if b=true then .slice (some ⟨g,0,none⟩) 1 1 else .slice none 0 0

end
end Go.Proofs.YtlojfgdpmaigmagGreatDoor

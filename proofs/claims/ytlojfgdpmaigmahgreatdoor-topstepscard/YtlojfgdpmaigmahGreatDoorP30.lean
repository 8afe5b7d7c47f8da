/- Package base's looks at a base's trees. -/
import Derived.Test.YtlojfgdpmaigmahGreatDoorP29
import Derived.Test.YtlojfgdpmaigmahGreatDoorP02
namespace Go.Proofs.YtlojfgdpmaigmahGreatDoor
section
open Go.RowKit Plain

set_option maxHeartbeats 1000000 in
theorem qcz(A:Option Addr)(C:Nat)(r:Int)(ps:List PN)(w:World)(hN:q0q w.heap.size w A ps)(hwf:∀p∈ps,p.wf):
  Calls Tryz.prog 48 #[.agg #[.slice A ps.length C,.int .i64 r]] w
   fun e w'=>Below w.heap.size w w'/\∃v,e=.returned (.tuple #[v,.int .i64 (allP (ps.map PN.nd) r 0 1099511627776).1])/\w'.ownsRow w.heap.size 84 7 v (allP (ps.map PN.nd) r 0 1099511627776).2.length (q0d (allP (ps.map PN.nd) r 0 1099511627776).2):=by
 have g:=fun w' hN=>qk5 A C r 0 9223372036854775807 ps w' hN hwf
 simp only[qb9] at g
 generalize allP (ps.map PN.nd) r 0 1099511627776=P at g
 obtain⟨c,L⟩:=P
 simp only at g
 have b0:∀o:Obj,Below w.heap.size w (w.alloc o):=fun o=>(Below.refl _ _).alloc (Nat.le_refl _) o
 go_enter Tryz.func48,Tryz.ntmps48
 go_wp2_with (go_at_call 21;refine(g _ (hN.up (b0 _))).mono ?_;rintro e w1 ⟨hb1,v,rfl,ho⟩)
 exact bodyPost_ret (v:=.tuple #[v,.int .i64 c]) (by simp[results,Tryz.results48,go_sem]) rfl ⟨q0e (b0 _) (Nat.le_refl _) hb1,v,rfl,q0n ho (by simp)⟩

set_option maxRecDepth 20000 in
set_option maxHeartbeats 1000000 in
theorem qfc(A A':Option Addr)(C C':Nat)(xs ys:List En)(w:World)(h:q0i w.heap.size w A (q0d xs))(h':q0i w.heap.size w A' (q0d ys))(hz:xs.length*56<=140737488351232)(hz':ys.length*56<=140737488351232):
  Calls Tryz.prog 51 #[.slice A xs.length C,.slice A' ys.length C'] w fun e w'=>e=.returned (.bool (decide (xs=ys)))/\Below w.heap.size w w':=by
 obtain⟨nb,hnb⟩:∃nb,nb=decide (xs=ys):=⟨_,rfl⟩
 rw[<-hnb]
 by_cases hl:xs.length=ys.length
 ·have HN:Hid (nb=decide (xs=ys)):=hnb
  clear hnb
  go_enter Tryz.func51,Tryz.ntmps51
  go_wp2_with fail
  have hl':(xs.length:Int)=(ys.length:Int):=by omega
  go_loopw [13] (fun vi wr=>∃i:Nat,i<=xs.length/\vi=.int .i64 i/\Hid (xs.take i=ys.take i)/\Below w.heap.size w wr) (fun vi _=>xs.length-(intOf vi).toNat)
  case atStart=>exact⟨0,Nat.zero_le _,rfl,(by show _=_;simp),Below.refl _ _⟩
  case round=>
   obtain⟨i,hi,rfl,HT,hb⟩:=hrel
   by_cases hlt:i<xs.length
   ·have hlt':i<ys.length:=by omega
    obtain⟨b,o,rfl,hbl,c0,c1,c2,c3,c4,c5,c6⟩:=(h.below hb (Nat.le_refl _)).en hlt
    obtain⟨b',o',rfl,hbl',d0,d1,d2,d3,d4,d5,d6⟩:=(h'.below hb (Nat.le_refl _)).en hlt'
    have hsz:=hb.size
    have l1:b<wr.heap.size:=by omega
    have l2:b'<wr.heap.size:=by omega
    by_cases hxy:xs[i]=ys[i]
    ·have HT':Hid (xs.take (i+1)=ys.take (i+1)):=by
      show _=_
      rw[List.take_succ_eq_append_getElem hlt,List.take_succ_eq_append_getElem hlt',HT.out,hxy]
     rw[hxy] at c0 c1 c2 c3 c4 c5 c6
     clear hxy HT
     generalize ys[i]=y at *
     go_wp2_with fail
     go_quiet (fail)
     go_wp2_with fail
     go_roundw
     case rel=>
      go_light
      exact⟨i+1,hlt,by go_num,HT',q1o hb _⟩
     case measure=>simp[intOf];omega
    ·have HF:Hid (nb=false):=by
      show nb=false
      rw[HN.out,decide_eq_false_iff_not]
      intro e
      subst e
      exact hxy rfl
     have hne:=z1u hxy
     clear HT HN hxy
     generalize xs[i]=x at *
     generalize ys[i]=y at *
     rcases hne with k0|⟨k0,k1⟩|⟨k0,k1,k2⟩|⟨k0,k1,k2,k3⟩|⟨k0,k1,k2,k3,k4⟩|⟨k0,k1,k2,k3,k4,k5⟩|⟨k0,k1,k2,k3,k4,k5,k6⟩
     all_goals
      go_wp2_with fail
      go_quiet (fail)
      go_wp2_with fail
      go_ret
      exact⟨by rw[HF.out];rfl,q1o hb _⟩
   ·have HE:Hid (nb=true):=by
     show nb=true
     have q:=HT.out
     rw[List.take_of_length_le (by omega),List.take_of_length_le (by omega)] at q
     rw[HN.out,q]
     simp
    go_wp2_with fail
    go_ret
    exact⟨by rw[HE.out];rfl,hb⟩
 ·have HF:Hid (nb=false):=by
   show nb=false
   rw[hnb]
   simp only[decide_eq_false_iff_not]
   intro e
   exact hl (by rw[e])
  clear hnb
  go_enter Tryz.func51,Tryz.ntmps51
  go_wp2_with fail
  go_ret
  exact⟨by rw[HF.out];rfl,Below.refl _ _⟩

set_option maxRecDepth 20000 in
set_option maxHeartbeats 1000000 in
theorem qoq(n f:Int)(VA:Option Addr)(VC:Nat)(L:List En)(w:World)(h:q0i w.heap.size w VA (q0d L))(hz:L.length<=28000)(hk:∀x∈L,0<=x.key/\x.key<1099511627776)(hg:∀x∈L,Good x.ru):
  Calls Tryz.prog 49 #[.slice VA L.length VC,.int .i64 n,.int .i64 f] w fun e w'=>e=.returned (.bool (L.all (q2e n f)))/\Below w.heap.size w w':=by
 obtain⟨nb,hnb⟩:∃nb,nb=L.all (q2e n f):=⟨_,rfl⟩
 have HN:Hid (nb=L.all (q2e n f)):=hnb
 rw[<-hnb]
 clear hnb
 go_enter Tryz.func49,Tryz.ntmps49
 go_wp2_with fail
 go_loopw [12] (fun vi wr=>∃i:Nat,i<=L.length/\vi=.int .i64 i/\Hid ((L.take i).all (q2e n f)=true)/\Below w.heap.size w wr) (fun vi _=>L.length-(intOf vi).toNat)
 case atStart=>exact⟨0,Nat.zero_le _,rfl,(by show _=_;simp),Below.refl _ _⟩
 case round=>
  obtain⟨i,hi,rfl,HA,hb⟩:=hrel
  have hsz:=hb.size
  by_cases hlt:i<L.length
  ·obtain⟨b,o,rfl,hbl,c0,c1,c2,c3,c4,c5,c6⟩:=(h.below hb (Nat.le_refl _)).en hlt
   have hbr:b<wr.heap.size:=by omega
   have hki:=hk _ (List.getElem_mem hlt)
   have hgi:=hg _ (List.getElem_mem hlt)
   have HT:Hid ((L.take (i+1)).all (q2e n f)=((L.take i).all (q2e n f)&&q2e n f L[i])):=by
    show _=_
    rw[List.take_succ_eq_append_getElem hlt,List.all_append]
    simp
   have HF:Hid (q2e n f L[i]=false->nb=false):=fun q=>by
    rw[HN.out]
    cases ha:L.all (q2e n f) with
    |false=>rfl
    |true=>
     rw[List.all_eq_true] at ha
     rw[ha _ (List.getElem_mem hlt)] at q
     cases q
   obtain⟨x,hx⟩:∃x,L[i]=x:=⟨_,rfl⟩
   rw[hx] at c0 c1 c2 c3 c4 c5 c6 hki hgi HT HF
   have hc0:(x.c==0)=false:=by have:x.c≠0:=hgi.2;simpa using this
   have con:=q0k fun W=>q1t x.c x.s x.lo x.hi x.t x.l W
   rw[show q1i x.c x.s x.lo x.hi x.t x.l=0 from hgi.1] at con
   have HP:Hid (q2e n f x=(decide (x.key/1048576<n)&&(decide (f<=x.key%1048576)&&decide (x.t=x.key%1048576)))):=rfl
   have b1:∀ob:Obj,Below w.heap.size w (wr.alloc ob):=fun ob=>hb.alloc hsz ob
   by_cases k1:x.key/1048576<n
   ·have k1':decide (n<=x.key/1048576)=false:=by simpa using k1
    by_cases k2:f<=x.key%1048576
    ·have k2':decide (x.key%1048576<f)=false:=by simpa using k2
     by_cases k3:x.key%1048576=x.t
     ·have k3':(x.key%1048576 != x.t)=false:=by simpa using k3
      have H1:Hid ((L.take (i+1)).all (q2e n f)=true):=by
       show _=_
       rw[HT.out,HA.out,HP.out,decide_eq_true k1,decide_eq_true k2,decide_eq_true k3.symm]
       rfl
      clear HF HT HP HA k3 hgi
      go_wp2_with (first|(go_at_call 67;refine(q2c x.key _ hki).mono ?_;rintro e w2 ⟨rfl,hw2⟩;subst w2)|(go_at_call 76;refine(q4i x.key _ hki).mono ?_;rintro e w2 ⟨rfl,hw2⟩;subst w2)|(go_at_call 77;refine(con.out _).mono ?_;rintro e w3 ⟨rfl,hb3⟩;have hb3':Below w.heap.size w w3:=q0e (b1 _) (Nat.le_refl _) hb3))
      go_roundw
      case rel=>
       go_light
       exact⟨i+1,hlt,by go_num,H1,hb3'⟩
      case measure=>simp[intOf];omega
     ·have k3':(x.key%1048576 != x.t)=true:=by simpa using k3
      have H1:Hid (nb=false):=HF.out (by rw[HP.out];simp[Ne.symm k3])
      clear HF HT HP HA HN hgi
      go_wp2_with (first|(go_at_call 67;refine(q2c x.key _ hki).mono ?_;rintro e w2 ⟨rfl,hw2⟩;subst w2)|(go_at_call 76;refine(q4i x.key _ hki).mono ?_;rintro e w2 ⟨rfl,hw2⟩;subst w2))
      go_ret
      exact⟨by rw[H1.out];rfl,b1 _⟩
    ·have k2':decide (x.key%1048576<f)=true:=by simpa using k2
     have H1:Hid (nb=false):=HF.out (by rw[HP.out];simp[k2])
     clear HF HT HP HA HN hgi
     go_wp2_with (first|(go_at_call 67;refine(q2c x.key _ hki).mono ?_;rintro e w2 ⟨rfl,hw2⟩;subst w2)|(go_at_call 76;refine(q4i x.key _ hki).mono ?_;rintro e w2 ⟨rfl,hw2⟩;subst w2))
     go_ret
     exact⟨by rw[H1.out];rfl,b1 _⟩
   ·have k1':decide (n<=x.key/1048576)=true:=by simpa using k1
    have H1:Hid (nb=false):=HF.out (by rw[HP.out];simp[k1])
    clear HF HT HP HA HN hgi
    go_wp2_with (first|(go_at_call 67;refine(q2c x.key _ hki).mono ?_;rintro e w2 ⟨rfl,hw2⟩;subst w2)|(go_at_call 76;refine(q4i x.key _ hki).mono ?_;rintro e w2 ⟨rfl,hw2⟩;subst w2))
    go_ret
    exact⟨by rw[H1.out];rfl,b1 _⟩
  ·have H1:Hid (nb=true):=by
    show _=_
    have q:=HA.out
    rw[List.take_of_length_le (by omega)] at q
    rw[HN.out,q]
   go_wp2_with fail
   go_ret
   exact⟨by rw[H1.out];rfl,hb⟩

theorem qoh{p:Prop}(h:p):Hid p:=h

theorem qmj:∀(xs:List En) (o r:List En),(∀x∈xs,Good x.ru)->(∀y∈o,Good y.ru)->xs.foldl insO (some o)=some r->r.length<=o.length+xs.length
 |[],o,r,_,_,h=>by cases h;simp
 |x::xs,o,r,hx,ho,h=>by
  rw[List.foldl_cons] at h
  cases hi:insO (some o) x with
  |none=>rw[hi,q3k] at h;cases h
  |some o'=>
   rw[hi] at h
   obtain⟨q1,q2⟩:=q5k (hx x List.mem_cons_self) ho hi
   have:=qmj xs o' r (fun y hy=>hx y (List.mem_cons_of_mem _ hy)) q1 h
   simp only[List.length_cons]
   omega

theorem qbe{size:Int}{l W:List En}(hg:∀x∈l,Good x.ru)(h:q1c size l=some W):W.length<=l.length:=by
 have:=qmj (l.map (bk size)) [] W (fun x hx=>by
  obtain⟨y,hy,rfl⟩:=List.mem_map.1 hx
  exact hg y hy) (by simp) h
 simpa using this

def q6a(n f:Int)(x:En):Bool:=q2e n f x&&decide (q1i x.c x.s x.lo x.hi x.t x.l=0)

set_option maxRecDepth 20000 in
set_option maxHeartbeats 1000000 in
theorem qal(n f:Int)(VA:Option Addr)(VC:Nat)(L:List En)(w:World)(h:q0i w.heap.size w VA (q0d L))(hz:L.length<=28000)(hk:∀x∈L,0<=x.key/\x.key<1099511627776)(hc:∀x∈L,x.c≠0):
  Calls Tryz.prog 49 #[.slice VA L.length VC,.int .i64 n,.int .i64 f] w fun e w'=>e=.returned (.bool (L.all (q6a n f)))/\Below w.heap.size w w':=by
 obtain⟨nb,hnb⟩:∃nb,nb=L.all (q6a n f):=⟨_,rfl⟩
 have HN:Hid (nb=L.all (q6a n f)):=hnb
 rw[<-hnb]
 clear hnb
 go_enter Tryz.func49,Tryz.ntmps49
 go_wp2_with fail
 go_loopw [12] (fun vi wr=>∃i:Nat,i<=L.length/\vi=.int .i64 i/\Hid ((L.take i).all (q6a n f)=true)/\Below w.heap.size w wr) (fun vi _=>L.length-(intOf vi).toNat)
 case atStart=>exact⟨0,Nat.zero_le _,rfl,(by show _=_;simp),Below.refl _ _⟩
 case round=>
  obtain⟨i,hi,rfl,HA,hb⟩:=hrel
  have hsz:=hb.size
  by_cases hlt:i<L.length
  ·obtain⟨b,o,rfl,hbl,c0,c1,c2,c3,c4,c5,c6⟩:=(h.below hb (Nat.le_refl _)).en hlt
   have hbr:b<wr.heap.size:=by omega
   have hki:=hk _ (List.getElem_mem hlt)
   have hgi:=hc _ (List.getElem_mem hlt)
   have HT:Hid ((L.take (i+1)).all (q6a n f)=((L.take i).all (q6a n f)&&q6a n f L[i])):=by
    show _=_
    rw[List.take_succ_eq_append_getElem hlt,List.all_append]
    simp
   have HF:Hid (q6a n f L[i]=false->nb=false):=fun q=>by
    rw[HN.out]
    cases ha:L.all (q6a n f) with
    |false=>rfl
    |true=>
     rw[List.all_eq_true] at ha
     rw[ha _ (List.getElem_mem hlt)] at q
     cases q
   obtain⟨x,hx⟩:∃x,L[i]=x:=⟨_,rfl⟩
   rw[hx] at c0 c1 c2 c3 c4 c5 c6 hki hgi HT HF
   have hc0:(x.c==0)=false:=by simpa using hgi
   have con:=q0k fun W=>q1t x.c x.s x.lo x.hi x.t x.l W
   have HP:Hid (q6a n f x=((decide (x.key/1048576<n)&&(decide (f<=x.key%1048576)&&decide (x.t=x.key%1048576)))&&decide (q1i x.c x.s x.lo x.hi x.t x.l=0))):=rfl
   have b1:∀ob:Obj,Below w.heap.size w (wr.alloc ob):=fun ob=>hb.alloc hsz ob
   by_cases k1:x.key/1048576<n
   ·have k1':decide (n<=x.key/1048576)=false:=by simpa using k1
    by_cases k2:f<=x.key%1048576
    ·have k2':decide (x.key%1048576<f)=false:=by simpa using k2
     by_cases k3:x.key%1048576=x.t
     ·have k3':(x.key%1048576 != x.t)=false:=by simpa using k3
      by_cases k5:q1i x.c x.s x.lo x.hi x.t x.l=0
      ·have H1:Hid ((L.take (i+1)).all (q6a n f)=true):=by
        show _=_
        rw[HT.out,HA.out,HP.out,decide_eq_true k1,decide_eq_true k2,decide_eq_true k3.symm,decide_eq_true k5]
        rfl
       rw[k5] at con
       clear HF HT HP HA k3 hgi k5
       go_wp2_with (first|(go_at_call 67;refine(q2c x.key _ hki).mono ?_;rintro e w2 ⟨rfl,hw2⟩;subst w2)|(go_at_call 76;refine(q4i x.key _ hki).mono ?_;rintro e w2 ⟨rfl,hw2⟩;subst w2)|(go_at_call 77;refine(con.out _).mono ?_;rintro e w3 ⟨rfl,hb3⟩;have hb3':Below w.heap.size w w3:=q0e (b1 _) (Nat.le_refl _) hb3))
       go_roundw
       case rel=>
        go_light
        exact⟨i+1,hlt,by go_num,H1,hb3'⟩
       case measure=>simp[intOf];omega
      ·have H1:Hid (nb=false):=HF.out (by rw[HP.out];simp[k5])
       obtain⟨cc,hcc⟩:∃cc,q1i x.c x.s x.lo x.hi x.t x.l=cc:=⟨_,rfl⟩
       rw[hcc] at con k5
       have k5':(cc != 0)=true:=by simpa using k5
       clear HF HT HP HA HN hgi hcc k3 k5
       go_wp2_with (first|(go_at_call 67;refine(q2c x.key _ hki).mono ?_;rintro e w2 ⟨rfl,hw2⟩;subst w2)|(go_at_call 76;refine(q4i x.key _ hki).mono ?_;rintro e w2 ⟨rfl,hw2⟩;subst w2)|(go_at_call 77;refine(con.out _).mono ?_;rintro e w3 ⟨rfl,hb3⟩;have hb3':Below w.heap.size w w3:=q0e (b1 _) (Nat.le_refl _) hb3))
       go_ret
       exact⟨by rw[H1.out];rfl,hb3'⟩
     ·have k3':(x.key%1048576 != x.t)=true:=by simpa using k3
      have H1:Hid (nb=false):=HF.out (by rw[HP.out];simp[Ne.symm k3])
      clear HF HT HP HA HN hgi
      go_wp2_with (first|(go_at_call 67;refine(q2c x.key _ hki).mono ?_;rintro e w2 ⟨rfl,hw2⟩;subst w2)|(go_at_call 76;refine(q4i x.key _ hki).mono ?_;rintro e w2 ⟨rfl,hw2⟩;subst w2))
      go_ret
      exact⟨by rw[H1.out];rfl,b1 _⟩
    ·have k2':decide (x.key%1048576<f)=true:=by simpa using k2
     have H1:Hid (nb=false):=HF.out (by rw[HP.out];simp[k2])
     clear HF HT HP HA HN hgi
     go_wp2_with (first|(go_at_call 67;refine(q2c x.key _ hki).mono ?_;rintro e w2 ⟨rfl,hw2⟩;subst w2)|(go_at_call 76;refine(q4i x.key _ hki).mono ?_;rintro e w2 ⟨rfl,hw2⟩;subst w2))
     go_ret
     exact⟨by rw[H1.out];rfl,b1 _⟩
   ·have k1':decide (n<=x.key/1048576)=true:=by simpa using k1
    have H1:Hid (nb=false):=HF.out (by rw[HP.out];simp[k1])
    clear HF HT HP HA HN hgi
    go_wp2_with (first|(go_at_call 67;refine(q2c x.key _ hki).mono ?_;rintro e w2 ⟨rfl,hw2⟩;subst w2)|(go_at_call 76;refine(q4i x.key _ hki).mono ?_;rintro e w2 ⟨rfl,hw2⟩;subst w2))
    go_ret
    exact⟨by rw[H1.out];rfl,b1 _⟩
  ·have H1:Hid (nb=true):=by
    show _=_
    have q:=HA.out
    rw[List.take_of_length_le (by omega)] at q
    rw[HN.out,q]
   go_wp2_with fail
   go_ret
   exact⟨by rw[H1.out];rfl,hb⟩

set_option maxRecDepth 20000 in
set_option maxHeartbeats 1000000 in
theorem qk0(A A':Option Addr)(C C':Nat)(xs ys:List En)(w:World)(h:q0i w.heap.size w A (q0d xs))(h':q0i w.heap.size w A' (q0d ys))(hz:xs.length*56<=140737488351232)(hz':ys.length*56<=140737488351232):
  Calls Tryz.prog 19 #[.slice A xs.length C,.slice A' ys.length C'] w fun e w'=>e=.returned (.bool (decide (xs=ys)))/\Below w.heap.size w w':=by
 obtain⟨nb,hnb⟩:∃nb,nb=decide (xs=ys):=⟨_,rfl⟩
 rw[<-hnb]
 by_cases hl:xs.length=ys.length
 ·have HN:Hid (nb=decide (xs=ys)):=hnb
  clear hnb
  go_enter Tryz.func19,Tryz.ntmps19
  go_wp2_with fail
  have hl':(xs.length:Int)=(ys.length:Int):=by omega
  go_loopw [13] (fun vi wr=>∃i:Nat,i<=xs.length/\vi=.int .i64 i/\Hid (xs.take i=ys.take i)/\Below w.heap.size w wr) (fun vi _=>xs.length-(intOf vi).toNat)
  case atStart=>exact⟨0,Nat.zero_le _,rfl,(by show _=_;simp),Below.refl _ _⟩
  case round=>
   obtain⟨i,hi,rfl,HT,hb⟩:=hrel
   by_cases hlt:i<xs.length
   ·have hlt':i<ys.length:=by omega
    obtain⟨b,o,rfl,hbl,c0,c1,c2,c3,c4,c5,c6⟩:=(h.below hb (Nat.le_refl _)).en hlt
    obtain⟨b',o',rfl,hbl',d0,d1,d2,d3,d4,d5,d6⟩:=(h'.below hb (Nat.le_refl _)).en hlt'
    have hsz:=hb.size
    have l1:b<wr.heap.size:=by omega
    have l2:b'<wr.heap.size:=by omega
    by_cases hxy:xs[i]=ys[i]
    ·have HT':Hid (xs.take (i+1)=ys.take (i+1)):=by
      show _=_
      rw[List.take_succ_eq_append_getElem hlt,List.take_succ_eq_append_getElem hlt',HT.out,hxy]
     rw[hxy] at c0 c1 c2 c3 c4 c5 c6
     clear hxy HT
     generalize ys[i]=y at *
     go_wp2_with fail
     go_quiet (fail)
     go_wp2_with fail
     go_roundw
     case rel=>
      go_light
      exact⟨i+1,hlt,by go_num,HT',q1o hb _⟩
     case measure=>simp[intOf];omega
    ·have HF:Hid (nb=false):=by
      show nb=false
      rw[HN.out,decide_eq_false_iff_not]
      intro e
      subst e
      exact hxy rfl
     have hne:=z1u hxy
     clear HT HN hxy
     generalize xs[i]=x at *
     generalize ys[i]=y at *
     rcases hne with k0|⟨k0,k1⟩|⟨k0,k1,k2⟩|⟨k0,k1,k2,k3⟩|⟨k0,k1,k2,k3,k4⟩|⟨k0,k1,k2,k3,k4,k5⟩|⟨k0,k1,k2,k3,k4,k5,k6⟩
     all_goals
      go_wp2_with fail
      go_quiet (fail)
      go_wp2_with fail
      go_ret
      exact⟨by rw[HF.out];rfl,q1o hb _⟩
   ·have HE:Hid (nb=true):=by
     show nb=true
     have q:=HT.out
     rw[List.take_of_length_le (by omega),List.take_of_length_le (by omega)] at q
     rw[HN.out,q]
     simp
    go_wp2_with fail
    go_ret
    exact⟨by rw[HE.out];rfl,hb⟩
 ·have HF:Hid (nb=false):=by
   show nb=false
   rw[hnb]
   simp only[decide_eq_false_iff_not]
   intro e
   exact hl (by rw[e])
  clear hnb
  go_enter Tryz.func19,Tryz.ntmps19
  go_wp2_with fail
  go_ret
  exact⟨by rw[HF.out];rfl,Below.refl _ _⟩

end
end Go.Proofs.YtlojfgdpmaigmahGreatDoor

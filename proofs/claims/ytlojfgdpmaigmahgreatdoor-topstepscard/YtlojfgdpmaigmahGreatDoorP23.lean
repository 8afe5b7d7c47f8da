/- slices.Insert of one number, in a list of one's own. -/
import Derived.Shelf.Spec.SlicesInsertGrow
import Derived.Test.YtlojfgdpmaigmahGreatDoorLays
import Derived.Test.YtlojfgdpmaigmahGreatDoorP22
import Derived.Deep.RegionLaw
namespace Go.Proofs.YtlojfgdpmaigmahGreatDoor
section
open Go.RowKit Plain Go.Shelf

def ovr:List Value->Nat->List Value->List Value
 |l,_,[]=>l
 |l,o,v::r=>ovr (l.set o v) (o+1) r

theorem q3g:∀(vs:List Value) (l:List Value) (o:Nat),(ovr l o vs).length=l.length
 |[],_,_=>rfl
 |v::r,l,o=>by rw[ovr,q3g r];simp

theorem q7v:∀(vs:List Value) (l:List Value) (o j:Nat),o+vs.length<=l.length->(ovr l o vs)[j]? =if o<=j/\j<o+vs.length then vs[j-o]? else l[j]?
 |[],l,o,j,_=>by simp[ovr];omega
 |v::r,l,o,j,h=>by
  simp only[List.length_cons] at h ⊢
  rw[ovr,q7v r _ _ _ (by simp;omega)]
  by_cases h1:j=o
  ·subst h1
   rw[if_neg (by omega),if_pos (by omega),List.getElem?_set_self (by omega),Nat.sub_self]
   rfl
  ·by_cases h2:o+1<=j/\j<o+1+r.length
   ·rw[if_pos h2,if_pos (by omega),show j-o=(j-(o+1))+1 by omega,List.getElem?_cons_succ]
   ·rw[if_neg h2,if_neg (by omega),List.getElem?_set_ne (by omega)]

theorem qn7{cur cs:List Value}(ht:cur.take cs.length=cs){j:Nat}(hj:j<cs.length):cur[j]? =cs[j]? :=by
 have h:(cur.take cs.length)[j]? =cs[j]? :=by rw[ht]
 rwa [List.getElem?_take,if_pos hj] at h

theorem qsm(cs:List Value)(v:Value)(i j:Nat)(hi:i<=cs.length):(cs.take i++v::cs.drop i)[j]? =if j<i then cs[j]? else if j=i then some v else cs[j-1]? :=by
 have hl:(cs.take i).length=i:=by rw[List.length_take];omega
 by_cases h1:j<i
 ·rw[List.getElem?_append_left (by omega),List.getElem?_take,if_pos h1,if_pos h1]
 ·rw[List.getElem?_append_right (by omega),hl,if_neg h1]
  by_cases h2:j=i
  ·rw[if_pos h2,h2,Nat.sub_self];rfl
  ·rw[if_neg h2,show j-i=(j-1-i)+1 by omega,List.getElem?_cons_succ,List.getElem?_drop,show i+(j-1-i)=j-1 by omega]

theorem qk2{cur cs:List Value}{i:Nat}(v:Value)(ht:cur.take cs.length=cs)(hi:i<=cs.length)(hr:cs.length+1<=cur.length):(ovr (ovr cur (i+1) (cs.drop i)) i [v]).take (cs.length+1)=cs.take i++v::cs.drop i:=by
 apply List.ext_getElem?
 intro j
 rw[qsm cs v i j hi,List.getElem?_take]
 by_cases hj:j<cs.length+1
 ·rw[if_pos hj,q7v _ _ _ _ (by rw[q3g];simp;omega)]
  by_cases h1:j=i
  ·subst h1
   rw[if_pos (by simp),if_neg (by omega),if_pos rfl]
   simp
  ·rw[if_neg (by simp;omega),q7v _ _ _ _ (by simp;omega)]
   by_cases h2:j<i
   ·rw[if_neg (by omega),if_pos h2,qn7 ht (by omega)]
   ·rw[if_pos (by simp;omega),if_neg h2,if_neg h1,List.getElem?_drop,show i+(j-(i+1))=j-1 by omega]
 ·rw[if_neg hj,if_neg (by omega),if_neg (by omega),List.getElem?_eq_none (by omega)]

theorem qxf{cur cs:List Value}{i:Nat}(v:Value)(ht:cur.take i=cs.take i)(hi:i<=cs.length)(hr:cs.length+1<=cur.length):(ovr (ovr cur i [v]) (i+1) (cs.drop i)).take (cs.length+1)=cs.take i++v::cs.drop i:=by
 apply List.ext_getElem?
 intro j
 rw[qsm cs v i j hi,List.getElem?_take]
 by_cases hj:j<cs.length+1
 ·rw[if_pos hj,q7v _ _ _ _ (by rw[q3g];simp;omega)]
  by_cases h1:i+1<=j
  ·rw[if_pos (by simp;omega),if_neg (by omega),if_neg (by omega),List.getElem?_drop,show i+(j-(i+1))=j-1 by omega]
  ·rw[if_neg (by omega),q7v _ _ _ _ (by simp;omega)]
   by_cases h2:j<i
   ·rw[if_neg (by omega),if_pos h2]
    have h:(cur.take i)[j]? =(cs.take i)[j]? :=by rw[ht]
    rwa [List.getElem?_take,List.getElem?_take,if_pos h2,if_pos h2] at h
   ·obtain rfl:j=i:=by omega
    rw[if_pos (by simp),if_neg (by omega),if_pos rfl]
    simp
 ·rw[if_neg hj,if_neg (by omega),if_neg (by omega),List.getElem?_eq_none (by omega)]

theorem q2j(g:Nat)(e:TypeId):∀(vs:List Value) (o:Nat) (cur:Array Value) (w:World),w.heap[g]? =some (.cells cur e (0,0))->(w.setCells g o vs).heap[g]? =some (.cells (ovr cur.toList o vs).toArray e (0,0))
 |[],o,cur,w,h=>by simpa [World.setCells,ovr] using h
 |v::r,o,cur,w,h=>by
  rw[World.setCells]
  have h1:(w.setCell ⟨g,o,none⟩ v).heap[g]? =some (.cells (cur.setIfInBounds o v) e (0,0)):=by simp[World.setCell,Array.getElem?_modify,h]
  have:=q2j g e r (o+1) _ _ h1
  rw[Array.toList_setIfInBounds] at this
  exact this

theorem q1p(g:Nat):∀(vs:List Value) (o:Nat) (w:World),Kept [g] w (w.setCells g o vs)
 |[],_,w=>Kept.refl _ _
 |v::r,o,w=>by
  rw[World.setCells]
  exact((Kept.refl [g] w).set (.inl (by simp)) v).trans (q1p g r (o+1) _)

def obk(A:Option Addr):List Nat:=(A.map Addr.block).toList

structure q7u(base:Nat)(t:TypeId)(size n:Nat)(A A':Option Addr)(C':Nat)(vs:List Value)(w w':World):Prop where
 own:w'.ownsRow base t size (.slice A' n C') n vs
 kept:Kept (obk A) w w'
 lies:A'.map Addr.block=A.map Addr.block\/∃k,A'.map Addr.block=some k/\w.heap.size<=k

theorem Kept.mono{ex ex':List Nat}{w w':World}(h:Kept ex w w')(hs:∀k∈ex,k∈ex'):Kept ex' w w':=⟨h.os,h.tape,h.output,h.size,fun k hk hx=>h.block k hk (fun e=>hx (hs k e))⟩

theorem z2k(zs:List Int)(i:Nat):(ints zs).take i=ints (zs.take i):=by simp[ints]
theorem z3b(zs:List Int)(i:Nat):(ints zs).drop i=ints (zs.drop i):=by simp[ints]
theorem qdb(zs:List Int)(i:Nat)(z:Int):ints (zs.take i++z::zs.drop i)=(ints zs).take i++ .int .i64 z::(ints zs).drop i:=by simp[ints]
theorem qvj(zs:List Int):(ints zs).length=zs.length:=by simp[ints]

theorem qdg{base n C:Nat}{t:TypeId}{A:Option Addr}{vs:List Value}{w w':World}{cur:Array Value}(hb:base<=w.heap.size)(hg:w'.heap[w.heap.size]? =some (.cells cur t (0,0)))(hn:n<=C)(hm:C<=maxLen)(hs:cur.size=C)(hl:vs.length=n)(ht:cur.toList.take n=vs)
  (hk:Kept (obk A) w w'):q7u base t 1 n A (some ⟨w.heap.size,0,none⟩) C vs w w':=
 ⟨⟨by omega,.inr ⟨w.heap.size,C,cur,rfl,hb,hg,hn,hm,by omega,by rw[Nat.mul_one];exact ht⟩⟩,hk,.inr ⟨w.heap.size,rfl,Nat.le_refl _⟩⟩

theorem qi2{base n C g:Nat}{t:TypeId}{vs:List Value}{w w':World}{cur:Array Value}(hb:base<=g)(hg:w'.heap[g]? =some (.cells cur t (0,0)))(hn:n<=C)(hm:C<=maxLen)(hs:cur.size=C)(hl:vs.length=n)(ht:cur.toList.take n=vs)
  (hk:Kept [g] w w'):q7u base t 1 n (some ⟨g,0,none⟩) (some ⟨g,0,none⟩) C vs w w':=
 ⟨⟨by omega,.inr ⟨g,C,cur,rfl,hb,hg,hn,hm,by omega,by rw[Nat.mul_one];exact ht⟩⟩,hk,.inl rfl⟩

theorem oneI(z:Int):∀v∈([.int .i64 z]:List Value),v.oneCell'=true:=by
 intro v hv
 obtain rfl:v=.int .i64 z:=by simpa using hv
 rfl

theorem qei(base:Nat)(A:Option Addr)(C vb vc:Nat)(zs:List Int)(i:Nat)(z:Int)(w:World)(ho:w.ownsRow base 3 1 (.slice A zs.length C) zs.length (ints zs))(hi:i<=zs.length)(hv:RowL w vb 3 [.int .i64 z])(hvb:vb∉obk A)(hB:base<=w.heap.size)(hz:(zs.length+1)*8<=140737488351232):
  Calls Tryz.prog 152 #[.slice A zs.length C,.int .i64 (i:Int),.slice (some ⟨vb,0,none⟩) 1 vc] w
   fun e w'=>∃A' C',e=.returned (.slice A' (zs.length+1) C')/\q7u base 3 1 (zs.length+1) A A' C' (ints (zs.take i++z::zs.drop i)) w w':=by
 have hvs:∀j v,([.int .i64 z]:List Value)[j]? =some v->w.cell? ⟨vb,0+j,none⟩=some v:=fun j v hj=>by rw[Nat.zero_add,hv.cell];exact hj
 have hml:zs.length+1<=maxLen:=by unfold maxLen;omega
 rcases ho.2 with⟨hn,hn0⟩|⟨g,cap,cur,hn,hb,hg,hl,hm,hs,ht⟩
 ·obtain rfl:zs=[]:=List.eq_nil_of_length_eq_zero hn0
  cases hn
  obtain rfl:i=0:=by simpa using hi
  have hcon:=Any2.slices_Insert_int_end_grow Tryz.insertI none 0 0 vb 0 1 vc [] [.int .i64 z] w (by decide) (by decide) (by decide) (by decide) rfl rfl (fun _=>rfl) (fun a h=>by cases h) hvs (oneI z)
  change Calls Tryz.prog 152 _ _ _ at hcon
  refine hcon.mono ?_
  rintro e w' ⟨rfl,rfl⟩
  refine⟨_,_,rfl,qdg (cur:=_) hB (heap_alloc_new w.drew _) (grownCap_ge _ _ _ _) (grownCap_le_maxLen _ _ _ _ (by decide)) ?_ (by simp[ints]) ?_ ?_⟩
  ·have h:=grownCap_ge w (0+1) 0 3
   show(([]++[Value.int .i64 z]:List Value).toArray++Builtin.zeroCells (Value.int .i64 0).cells (grownCap w (0+1) 0 3-(0+1))).size=grownCap w (0+1) 0 3
   generalize grownCap w (0+1) 0 3=G at h ⊢
   rw[Array.size_append,size_zeroCells]
   simp[Value.cells]
   omega
  ·simp[ints]
  ·exact((Kept.refl _ w).drew).alloc _
 ·simp only[Value.slice.injEq] at hn
  obtain⟨rfl,-,rfl⟩:=hn
  have hvg:vb≠g:=fun e=>hvb (by simp[obk,e])
  rw[Nat.mul_one] at hs ht
  have hil:=qvj zs
  have hcl:cur.toList.length=C:=by simpa using hs
  have hcell:∀j,w.cell? ⟨g,j,none⟩=cur.toList[j]? :=fun j=>by simp[World.cell?,hg]
  have hcs:∀j v,(ints zs)[j]? =some v->w.cell? ⟨g,0+j,none⟩=some v:=fun j v hj=>by
   rw[Nat.zero_add,hcell,<-hj,<-ht,List.getElem?_take,if_pos]
   have:=(List.getElem?_eq_some_iff.1 hj).1
   omega
  have hfz:∀j,w.frozen? ⟨g,j,none⟩=false:=fun j=>by simp[World.frozen?,hg]
  by_cases hin:i<zs.length
  ·by_cases hroom:zs.length+1<=C
   ·have hcon:=Any2.slices_Insert_int_shift Tryz.insertI g 0 zs.length C i vb 0 1 vc (ints zs) [.int .i64 z] w hin (by decide) hroom (by unfold maxLen at hm;omega) hvg hil rfl hcs (fun j hj=>by rw[Nat.zero_add,hcell,List.getElem?_eq_getElem (by omega)];rfl) (fun j _=>hfz _) hvs (qh6 zs) (oneI z) 3 3 1 C
     (by unfold World.shape?;rw[show w.heap[vb]? =_ from hv];rfl) (by unfold World.shape?;rw[hg];simp[hs]) (by omega) (hv.frozen _) (hv.frozen _)
    change Calls Tryz.prog 152 _ _ _ at hcon
    refine hcon.mono ?_
    rintro e w' ⟨rfl,rfl⟩
    have h1:=q2j g 3 ((ints zs).drop i) (0+(i+1)) cur w.drew hg
    have h2:=q2j g 3 [.int .i64 z] (0+i) _ _ h1
    refine⟨_,_,rfl,qi2 hb h2 hroom hm (by simp[q3g,hs]) (by simp[ints];omega) ?_ ?_⟩
    ·rw[qdb,Nat.zero_add,Nat.zero_add]
     have:=qk2 (cur:=cur.toList) (cs:=ints zs) (i:=i) (.int .i64 z) (by rw[hil];exact ht) (by omega) (by omega)
     rw[hil] at this
     exact this
    ·exact(((Kept.refl _ w).drew).trans (q1p g _ _ _)).trans (q1p g _ _ _)
   ·have hcon:=Any2.slices_Insert_int_grow Tryz.insertI g 0 zs.length C i vb 0 1 vc (ints zs) [.int .i64 z] w hin (by decide) hl (by omega) (by omega) hil rfl hcs hvs (qh6 zs) (oneI z)
    change Calls Tryz.prog 152 _ _ _ at hcon
    refine hcon.mono ?_
    rintro e w' ⟨rfl,rfl⟩
    have hG:=grownCap_ge w (zs.length+1) C 3
    have hGm:=grownCap_le_maxLen w (zs.length+1) C 3 hml
    obtain⟨G,hGe⟩:∃G,G=grownCap w (zs.length+1) C 3:=⟨_,rfl⟩
    rw[<-hGe] at hG hGm
    show ∃A' C',Ending.returned (.slice (some ⟨w.heap.size,0,none⟩) (zs.length+1) (grownCap w (zs.length+1) C 3))=_/\q7u base 3 1 (zs.length+1) _ A' C' _ w ((((w.alloc (.cells (((ints zs).take i).toArray++Builtin.zeroCells (Value.int .i64 0).cells (zs.length+1-i)++Builtin.zeroCells (Value.int .i64 0).cells (grownCap w (zs.length+1) C 3-(zs.length+1))) 3)).drew.setCells w.heap.size i [.int .i64 z]).drew).setCells w.heap.size (i+1) ((ints zs).drop i))
    rw[<-hGe]
    obtain⟨ROW,hROW⟩:∃ROW:Array Value,ROW=((ints zs).take i).toArray++Builtin.zeroCells (Value.int .i64 0).cells (zs.length+1-i)++Builtin.zeroCells (Value.int .i64 0).cells (G-(zs.length+1)):=⟨_,rfl⟩
    have hRs:ROW.size=G:=by
     rw[hROW,Array.size_append,Array.size_append,size_zeroCells,size_zeroCells]
     simp[Value.cells,hil]
     omega
    have hRt:ROW.toList.take i=(ints zs).take i:=by
     rw[hROW,Array.toList_append,Array.toList_append,List.append_assoc]
     exact List.take_left' (by rw[List.length_take];omega)
    rw[<-hROW]
    have h0:(w.alloc (.cells ROW 3)).drew.heap[w.heap.size]? =some (.cells ROW 3 (0,0)):=heap_alloc_new w _
    have h1:=q2j w.heap.size 3 [.int .i64 z] i ROW _ h0
    have h2:=q2j w.heap.size 3 ((ints zs).drop i) (i+1) _ ((w.alloc (.cells ROW 3)).drew.setCells w.heap.size i [.int .i64 z]).drew h1
    refine⟨_,_,rfl,qdg hB h2 hG hGm (by simp[q3g,hRs]) (by simp[ints];omega) ?_ ?_⟩
    ·rw[qdb]
     have:=qxf (cur:=ROW.toList) (cs:=ints zs) (i:=i) (.int .i64 z) hRt (by omega) (by simp[hRs,hil];omega)
     rw[hil] at this
     exact this
    ·have hk:Kept (obk (some ⟨g,0,none⟩)) w ((((w.alloc (.cells ROW 3)).drew.setCells w.heap.size i [.int .i64 z]).drew).setCells w.heap.size (i+1) ((ints zs).drop i)):=by
      have k1:=(((Kept.refl [w.heap.size] w).alloc (.cells ROW 3)).drew.trans (q1p w.heap.size [.int .i64 z] i _)).drew.trans (q1p w.heap.size ((ints zs).drop i) (i+1) _)
      exact⟨k1.os,k1.tape,k1.output,k1.size,fun k hk _=>k1.block k hk (by simp;omega)⟩
     exact hk
  ·obtain rfl:i=zs.length:=by omega
   by_cases hroom:zs.length+1<=C
   ·have hcon:=Any2.slices_Insert_int_end_room Tryz.insertI g 0 zs.length C vb 0 1 vc [.int .i64 z] w (by decide) hroom (by unfold maxLen at hm;omega) rfl (fun j hj=>by rw[Nat.zero_add,hcell,List.getElem?_eq_getElem (by omega)];rfl) (fun j _=>hfz _) hvs (oneI z)
    change Calls Tryz.prog 152 _ _ _ at hcon
    refine hcon.mono ?_
    rintro e w' ⟨rfl,rfl⟩
    have h2:=q2j g 3 [.int .i64 z] (0+zs.length) cur w hg
    refine⟨_,_,rfl,qi2 hb h2 hroom hm (by simp[q3g,hs]) (by simp[ints]) ?_ (q1p g _ _ _)⟩
    rw[qdb,Nat.zero_add]
    have:=qk2 (cur:=cur.toList) (cs:=ints zs) (i:=zs.length) (.int .i64 z) (by rw[hil];exact ht) (by omega) (by omega)
    rw[hil,List.drop_of_length_le (by omega)] at this
    rw[List.drop_of_length_le (by omega)]
    exact this
   ·have hcon:=Any2.slices_Insert_int_end_grow Tryz.insertI (some ⟨g,0,none⟩) zs.length C vb 0 1 vc (ints zs) [.int .i64 z] w (by decide) hl (by omega) (by omega) hil rfl (fun h=>by cases h) (fun a ha j v hj=>by cases ha;rw[Addr.add_lit];exact hcs j v hj) hvs (oneI z)
    change Calls Tryz.prog 152 _ _ _ at hcon
    refine hcon.mono ?_
    rintro e w' ⟨rfl,rfl⟩
    have hG:=grownCap_ge w (zs.length+1) C 3
    have hGm:=grownCap_le_maxLen w (zs.length+1) C 3 hml
    refine⟨_,_,rfl,qdg (cur:=_) hB (heap_alloc_new w.drew _) hG hGm ?_ (by simp[ints]) ?_ (((Kept.refl _ w).drew).alloc _)⟩
    ·show((ints zs++[Value.int .i64 z]).toArray++Builtin.zeroCells (Value.int .i64 0).cells (grownCap w (zs.length+1) C 3-(zs.length+1))).size=grownCap w (zs.length+1) C 3
     rw[Array.size_append,size_zeroCells]
     simp[Value.cells,hil]
     omega
    ·have e1:(ints zs).take zs.length=ints zs:=List.take_of_length_le (by omega)
     have e2:(ints zs).drop zs.length=[]:=List.drop_of_length_le (by omega)
     rw[qdb,e1,e2,Array.toList_append]
     exact List.take_left' (by simp[hil])

end
section
open Go.RowKit Plain

theorem z5v(w:World)(q:PN)(o1:Obj)(t:TypeId):∀j u,(q2l [q])[j]? =some u->((w.alloc o1).drew.alloc (.cells #[.bool q.leaf,.slice q.eA q.ents.length q.eC,.slice q.kA q.keys.length q.kC,.slice q.dA q.kids.length q.dC,.slice q.bA q.buf.length q.bC] t)).cell? (Addr.add ⟨w.heap.size+1,0,none⟩ j)=some u:=by
 have h:=q0b (w.alloc o1).drew q.vals t
 have e:(w.alloc o1).drew.heap.size=w.heap.size+1:=by simp
 rw[e] at h
 exact z5u _ _ _ q h

theorem z0g{base tb g C g' C':Nat}{qs:List PN}{root:Int}{q:PN}{w W w1:World}(hT:TB base w tb g C qs root)(hq:q.own base w)(hqn:q.blocks.Nodup)(hqd:∀b∈q.blocks,b∉feet g qs)(hqt:tb∉q.blocks)(hz:(qs.length+1)*104<=140737488351232)
  (hW:Below w.heap.size w W) (hown:w1.ownsRow base 115 5 (.slice (some ⟨g',0,none⟩) (qs.length+1) C') (qs.length+1) (q2l qs++q2l [q])) (hgrow:W.grownBy w1 (Value.slice (some ⟨g,0,none⟩) qs.length C).ownBlock) (hat:(Value.slice (some ⟨g,0,none⟩) qs.length C).ownBlock=some g'\/g'=w.heap.size+2):
  TB base (w1.setCell ⟨tb,0,none⟩ (.slice (some ⟨g',0,none⟩) (qs.length+1) C')) tb g' C' (qs++[q]) root/\Kept [tb,g] w (w1.setCell ⟨tb,0,none⟩ (.slice (some ⟨g',0,none⟩) (qs.length+1) C'))/\(g'=g\/w.heap.size<=g'):=by
 have hat':g'=g\/g'=w.heap.size+2:=by
  rcases hat with h|h
  ·left;simpa [Value.ownBlock] using h.symm
  ·exact .inr h
 have htg:tb≠g:=fun e=>hT.ne (e▸List.mem_cons_self)
 have htl:=hT.box.lt
 have hk1:∀k,k<w.heap.size->k≠g->w1.heap[k]? =w.heap[k]? :=fun k hk hne=>(hgrow.block k (Nat.lt_of_lt_of_le hk hW.size) (by simpa [Value.ownBlock] using hne)).trans (hW.block k hk)
 have hk2:∀k,k≠tb->(w1.setCell ⟨tb,0,none⟩ (.slice (some ⟨g',0,none⟩) (qs.length+1) C')).heap[k]? =w1.heap[k]? :=fun k hne=>Below.heap_setCell _ _ _ _ hne
 have hg't:g'≠tb:=by rcases hat' with rfl|rfl<;>omega
 have hfl:=hT.nt.lt
 have hap:=hT.nt.apart
 have hgn:g∉qs.flatMap PN.blocks:=by rw[feet,List.nodup_cons] at hap;exact hap.1
 refine⟨⟨⟨?_,fun x hx=>?_,?_,by simpa using hz⟩,?_,?_,hT.hb⟩,⟨hgrow.os.trans hW.os,hgrow.tape.trans hW.tape,hgrow.output.trans hW.output,?_,fun k hk hx=>?_⟩,by omega⟩
 ·rw[q5t,List.length_append]
  exact q0c hown fun k hk=>hk2 k (by have:g'=k:=(by simpa [Value.ownBlock] using hk);omega)
 ·rcases List.mem_append.1 hx with hx|hx
  ·refine(hT.nt.each x hx).of_blocks fun k hk=>?_
   have hm:k∈feet g qs:=List.mem_cons_of_mem _ (List.mem_flatMap.2 ⟨x,hx,hk⟩)
   rw[hk2 k (fun e=>hT.ne (e▸hm)),hk1 k (hfl k hm).2 (fun e=>hgn (e▸List.mem_flatMap.2 ⟨x,hx,hk⟩))]
  ·obtain rfl:x=q:=by simpa using hx
   refine hq.of_blocks fun k hk=>?_
   rw[hk2 k (fun e=>hqt (e▸hk)),hk1 k (hq.lt k hk).2 (fun e=>hqd k hk (e▸List.mem_cons_self))]
 ·refine qkg hap hqn hqd ?_
  rcases hat' with h|h
  ·exact .inl h
  ·refine .inr ⟨fun e=>?_,fun e=>?_⟩
   ·have:=(hfl _ e).2;omega
   ·have:=(hq.lt _ e).2;omega
 ·have hr:RowL w1 tb 43 [.slice (some ⟨g,0,none⟩) qs.length C,.int .i64 root]:=hT.box.of_block (hk1 tb htl htg)
  rw[List.length_append]
  exact hr.set 0 _
 ·unfold feet
  simp only[List.flatMap_append,List.flatMap_cons,List.flatMap_nil,List.append_nil,List.mem_cons,List.mem_append,not_or]
  refine⟨fun e=>hg't e.symm,fun e=>hT.ne (List.mem_cons_of_mem _ e),hqt⟩
 ·have h1:=hgrow.size
  have h2:=hW.size
  simp
  omega
 ·simp only[List.mem_cons,List.not_mem_nil,or_false,not_or] at hx
  rw[hk2 k hx.1,hk1 k hk hx.2]

set_option maxRecDepth 20000 in
set_option maxHeartbeats 4000000 in
theorem qkd(base tb g C:Nat)(qs:List PN)(root:Int)(q:PN)(w:World)(hT:TB base w tb g C qs root)(hq:q.own base w)(hqn:q.blocks.Nodup)(hqd:∀b∈q.blocks,b∉feet g qs)(hqt:tb∉q.blocks)(hz:(qs.length+1)*104<=140737488351232)(hB:base<=w.heap.size):
  Calls Tryz.prog 130 #[.pointer (some ⟨tb,0,none⟩),.agg #[.bool q.leaf,.slice q.eA q.ents.length q.eC,.slice q.kA q.keys.length q.kC,.slice q.dA q.kids.length q.dC,.slice q.bA q.buf.length q.bC]] w
   fun e w'=>e=.returned (.int .i64 (qs.length:Int))/\∃g' C',TB base w' tb g' C' (qs++[q]) root/\Kept [tb,g] w w'/\(g'=g\/w.heap.size<=g'):=by
 obtain⟨i0,hi0,hz0,hz1,hz2⟩:=info_parts z3u
 have own:=hT.nt.own
 have HT:Hid (TB base w tb g C qs root):=hT
 have c0:=hT.box.cell 0
 have c1:=hT.box.cell 1
 have fz:=hT.box.frozen
 have tlt:=hT.box.lt
 have glt:=hT.nt.glt.2
 simp only[List.getElem?_cons_zero,List.getElem?_cons_succ] at c0 c1
 have HN:Hid (tb≠g):=fun e=>hT.ne (e▸List.mem_cons_self)
 have HM:Hid (some tb≠(Value.slice (some ⟨g,0,none⟩) qs.length C).ownBlock):=fun e=>HN.out (by simpa [Value.ownBlock] using e)
 have hb2:∀o1 o2:Obj,Below w.heap.size w ((w.alloc o1).drew.alloc o2):=fun o1 o2=>(((Below.refl _ _).alloc (Nat.le_refl _) _).drew).alloc (by simp) _
 clear hT
 go_enter Tryz.func130,Tryz.ntmps130
 go_wp2_with fail
 go_region_law (refine step_append_lies _ rfl (.tmp 9) (.tmp 11) 41 rfl base 115 i0 _ 5 104 Tryz.underlying41 hi0 hz0 hz1 hz2 rfl (by decide) (.slice (some ⟨g,0,none⟩) qs.length C) qs.length (q2l qs) (by simp[Act.eval]) (q0v own ((((Below.refl _ _).alloc (Nat.le_refl _) _).drew).alloc (by simp) _)) ⟨w.heap.size+1,0,none⟩ 1 1 (q2l [q]) (by simp[Act.eval]) rfl (z5v w q _ _) (qu2 _) (by decide) (by unfold maxLen;omega) (by omega) (by simp;omega) (w.heap.size+2) (by simp) ?_;intro g' C' w1 hown1 hgrow1 hat1 hlt1;have cv1:w1.cell? ⟨tb,0,none⟩=some (.slice (some ⟨g,0,none⟩) qs.length C):=(hgrow1.cell_far ⟨tb,0,none⟩ (by simp;omega) HM.out).trans ((hb2 _ _).cell (p:=⟨tb,0,none⟩) tlt |>.trans c0);have fv1:w1.frozen? ⟨tb,0,none⟩=false:=(hgrow1.frozen_far ⟨tb,0,none⟩ (by simp;omega) HM.out).trans ((hb2 _ _).frozen (p:=⟨tb,0,none⟩) tlt |>.trans (fz 0));have HR:=q0a (And.intro hown1 (And.intro hgrow1 hat1));clear hown1 hgrow1 hat1)
 all_goals
  go_wp2
  go_ret
  obtain⟨hown1,hgrow1,hat1⟩:=HR.out
  have R:=z0g HT.out hq hqn hqd hqt hz (hb2 _ _) hown1 hgrow1 hat1
  exact⟨q3r (by omega),_,_,R⟩

end
section
open Go.RowKit Plain

def q7e:List (Int × Int)->List Value
 |[]=>[]
 |(k,p)::r=>.int .i64 k:: .int .i64 p::q7e r

theorem qck:∀l:List (Int × Int),(q7e l).length=l.length*2
 |[]=>rfl
 |(k,p)::r=>by simp[q7e,qck r];omega

theorem qdr:∀(l:List (Int × Int)) (k:Nat) (hk:k<l.length),(q7e l)[k*2]? =some (.int .i64 l[k].1)/\(q7e l)[k*2+1]? =some (.int .i64 l[k].2)
 |(a,b)::r,0,_=>⟨rfl,rfl⟩
 |(a,b)::r,k+1,hk=>by
  have:=qdr r k (by simpa using hk)
  simp only[q7e,List.getElem_cons_succ]
  rw[show(k+1)*2=k*2+1+1 by omega,show k*2+1+1+1=(k*2+1)+1+1 by omega]
  simpa using this

theorem qc9:∀a b:List (Int × Int),q7e (a++b)=q7e a++q7e b
 |[],_=>rfl
 |(_,_)::r,b=>by simp[q7e,qc9 r b]

def qcg(x:Nd)(i:Nat)(more:List (Int × Int)):Nd:={ x with keys:=x.keys.take i++more.map (·.1)++x.keys.drop i,kids:=x.kids.take (i+1)++more.map (·.2)++x.kids.drop (i+1) }

def q6b(keys:List Int)(i:Nat)(more:List (Int × Int))(k:Nat):List Int:=keys.take i++(more.take k).map (·.1)++keys.drop i
def q5z(kids:List Int)(i:Nat)(more:List (Int × Int))(k:Nat):List Int:=kids.take (i+1)++(more.take k).map (·.2)++kids.drop (i+1)

theorem qy4(l a:List Int)(z:Int)(i:Nat)(hi:i<=l.length):(l.take i++a++l.drop i).take (i+a.length)++z::(l.take i++a++l.drop i).drop (i+a.length)=l.take i++(a++[z])++l.drop i:=by
 have hl:(l.take i++a).length=i+a.length:=by simp;omega
 rw[<-hl,List.take_left,List.drop_left]
 simp

theorem ql7{keys:List Int}{i k:Nat}{more:List (Int × Int)}(hi:i<=keys.length)(hk:k<more.length):(q6b keys i more k).take (i+k)++more[k].1::(q6b keys i more k).drop (i+k)=q6b keys i more (k+1):=by
 have h:=qy4 keys ((more.take k).map (·.1)) more[k].1 i hi
 rw[show((more.take k).map (·.1)).length=k by simp;omega] at h
 unfold q6b
 rw[h,List.take_succ_eq_append_getElem hk,List.map_append]
 rfl

theorem qkl{kids:List Int}{i k:Nat}{more:List (Int × Int)}(hi:i+1<=kids.length)(hk:k<more.length):(q5z kids i more k).take (i+k+1)++more[k].2::(q5z kids i more k).drop (i+k+1)=q5z kids i more (k+1):=by
 have h:=qy4 kids ((more.take k).map (·.2)) more[k].2 (i+1) hi
 rw[show((more.take k).map (·.2)).length=k by simp;omega] at h
 unfold q5z
 rw[show i+k+1=i+1+k by omega,h,List.take_succ_eq_append_getElem hk,List.map_append]
 rfl

theorem qar{keys:List Int}{i k:Nat}{more:List (Int × Int)}(hk:k<=more.length):(q6b keys i more k).length=keys.length+k:=by
 simp[q6b];omega
theorem qbc{kids:List Int}{i k:Nat}{more:List (Int × Int)}(hk:k<=more.length):(q5z kids i more k).length=kids.length+k:=by
 simp[q5z];omega

structure AdAt(base:Nat)(w:World)(nb no:Nat)(t:TypeId)(vs:List Value)(kA0 dA0:Option Addr)(wr:World)(kA:Option Addr)(kC:Nat)(keys:List Int)(dA:Option Addr)(dC:Nat)(kids:List Int):Prop where
 row:RowL wr nb t ((vs.set (no+2) (.slice kA keys.length kC)).set (no+3) (.slice dA kids.length dC))
 ok:wr.ownsRow base 3 1 (.slice kA keys.length kC) keys.length (ints keys)
 od:wr.ownsRow base 3 1 (.slice dA kids.length dC) kids.length (ints kids)
 kept:Kept (nb::obk kA0++obk dA0) w wr
 lk:∀k∈obk kA,k∈obk kA0\/w.heap.size<=k
 ld:∀k∈obk dA,k∈obk dA0\/w.heap.size<=k
 ne:∀k∈obk kA,k∉obk dA
 nk:nb∉obk kA
 nd:nb∉obk dA

theorem q8f{A:Option Addr}{n C k:Nat}(h:(Value.slice A n C).ownBlock=some k):k∈obk A:=by
 cases A with
 |none=>cases h
 |some a=>simpa [obk,Value.ownBlock,eq_comm] using h

theorem AdAt.lt{base:Nat}{w:World}{nb no:Nat}{t:TypeId}{vs:List Value}{kA0 dA0:Option Addr}{wr:World}{kA:Option Addr}{kC:Nat}{keys:List Int}{dA:Option Addr}{dC:Nat}{kids:List Int}(h:AdAt base w nb no t vs kA0 dA0 wr kA kC keys dA dC kids):
  (∀k∈obk kA,k<wr.heap.size)/\∀k∈obk dA,k<wr.heap.size:=by
 constructor
 ·intro k hk
  refine(q4p h.ok k ?_).2
  simpa [obk] using hk
 ·intro k hk
  refine(q4p h.od k ?_).2
  simpa [obk] using hk

theorem AdAt.below{base:Nat}{w:World}{nb no:Nat}{t:TypeId}{vs:List Value}{kA0 dA0:Option Addr}{wr w':World}{kA:Option Addr}{kC:Nat}{keys:List Int}{dA:Option Addr}{dC:Nat}{kids:List Int}(h:AdAt base w nb no t vs kA0 dA0 wr kA kC keys dA dC kids)(hb:Below wr.heap.size wr w'):
  AdAt base w nb no t vs kA0 dA0 w' kA kC keys dA dC kids:=
 ⟨h.row.below hb h.row.lt,q0v h.ok hb,q0v h.od hb,h.kept.trans (Kept.of_below hb),h.lk,h.ld,h.ne,h.nk,h.nd⟩

theorem Kept.step{ex ex2:List Nat}{w wr w':World}(h:Kept ex w wr)(k:Kept ex2 wr w')(hs:∀b∈ex2,b∈ex\/w.heap.size<=b):Kept ex w w':=
 ⟨k.os.trans h.os,k.tape.trans h.tape,k.output.trans h.output,Nat.le_trans h.size k.size,fun i hi hx=>(k.block i (Nat.lt_of_lt_of_le hi h.size) (fun e=>by rcases hs i e with e|e;exact hx e;omega)).trans (h.block i hi hx)⟩

theorem mem_obk{A:Option Addr}{k:Nat}:k∈obk A↔A.map Addr.block=some k:=by simp[obk]

section
variable {base : Nat} {w : World} {nb no : Nat} {t : TypeId} {vs : List Value} {kA0 dA0 : Option Addr} {wr W w1 : World} {kA : Option Addr} {kC : Nat} {keys : List Int} {dA : Option Addr} {dC : Nat} {kids : List Int}

theorem AdAt.putK(h:AdAt base w nb no t vs kA0 dA0 wr kA kC keys dA dC kids)(hW:Below wr.heap.size wr W){n kC':Nat}{kA':Option Addr}{keys':List Int}(hm:q7u base 3 1 n kA kA' kC' (ints keys') W w1)(hn:keys'.length=n):
  AdAt base w nb no t vs kA0 dA0 (w1.setCell ⟨nb,no+2,none⟩ (.slice kA' n kC')) kA' kC' keys' dA dC kids:=by
 subst hn
 have H:=h.below hW
 have hnl:=H.row.lt
 have hws:=H.kept.size
 have hlies:∀k∈obk kA',k∈obk kA\/W.heap.size<=k:=by
  intro k hk
  rw[mem_obk] at hk
  rcases hm.lies with e|⟨k',e,hk'⟩
  ·left;rw[mem_obk,<-e];exact hk
  ·rw[e] at hk;cases hk;exact .inr hk'
 have hnk':nb∉obk kA':=fun e=>by
  rcases hlies nb e with e|e
  ·exact H.nk e
  ·omega
 have hrow:RowL w1 nb t ((vs.set (no+2) (.slice kA keys.length kC)).set (no+3) (.slice dA kids.length dC)):=H.row.of_block (hm.kept.block nb hnl H.nk)
 have hset:∀k,k≠nb->(w1.setCell ⟨nb,no+2,none⟩ (.slice kA' keys'.length kC')).heap[k]? =w1.heap[k]? :=fun k hk=>Below.heap_setCell _ _ _ _ hk
 refine⟨?_,?_,?_,?_,?_,h.ld,?_,hnk',h.nd⟩
 ·have:=hrow.set (no+2) (.slice kA' keys'.length kC')
  rwa [List.set_comm _ _ (by omega),List.set_set] at this
 ·exact q0c hm.own fun k hk=>hset k (fun e=>hnk' (e▸q8f hk))
 ·refine q0c H.od fun k hk=>?_
  have hk':=q8f hk
  rw[hset k (fun e=>H.nd (e▸hk'))]
  exact hm.kept.block k (H.lt.2 k hk') (fun e=>H.ne k e hk')
 ·refine(H.kept.step hm.kept fun k hk=>?_).set (.inl (by simp)) _
  rcases h.lk k hk with e|e
  ·exact .inl (by simp[e])
  ·exact .inr e
 ·intro k hk
  rcases hlies k hk with e|e
  ·exact h.lk k e
  ·exact .inr (by omega)
 ·intro k hk hd
  rcases hlies k hk with e|e
  ·exact h.ne k e hd
  ·have:=H.lt.2 k hd;omega

theorem AdAt.putD(h:AdAt base w nb no t vs kA0 dA0 wr kA kC keys dA dC kids)(hW:Below wr.heap.size wr W){n dC':Nat}{dA':Option Addr}{kids':List Int}(hm:q7u base 3 1 n dA dA' dC' (ints kids') W w1)(hn:kids'.length=n):
  AdAt base w nb no t vs kA0 dA0 (w1.setCell ⟨nb,no+3,none⟩ (.slice dA' n dC')) kA kC keys dA' dC' kids':=by
 subst hn
 have H:=h.below hW
 have hnl:=H.row.lt
 have hws:=H.kept.size
 have hlies:∀k∈obk dA',k∈obk dA\/W.heap.size<=k:=by
  intro k hk
  rw[mem_obk] at hk
  rcases hm.lies with e|⟨k',e,hk'⟩
  ·left;rw[mem_obk,<-e];exact hk
  ·rw[e] at hk;cases hk;exact .inr hk'
 have hnd':nb∉obk dA':=fun e=>by
  rcases hlies nb e with e|e
  ·exact H.nd e
  ·omega
 have hrow:RowL w1 nb t ((vs.set (no+2) (.slice kA keys.length kC)).set (no+3) (.slice dA kids.length dC)):=H.row.of_block (hm.kept.block nb hnl H.nd)
 have hset:∀k,k≠nb->(w1.setCell ⟨nb,no+3,none⟩ (.slice dA' kids'.length dC')).heap[k]? =w1.heap[k]? :=fun k hk=>Below.heap_setCell _ _ _ _ hk
 refine⟨?_,?_,?_,?_,h.lk,?_,?_,h.nk,hnd'⟩
 ·have:=hrow.set (no+3) (.slice dA' kids'.length dC')
  rwa [List.set_set] at this
 ·refine q0c H.ok fun k hk=>?_
  have hk':=q8f hk
  rw[hset k (fun e=>H.nk (e▸hk'))]
  exact hm.kept.block k (H.lt.1 k hk') (H.ne k hk')
 ·exact q0c hm.own fun k hk=>hset k (fun e=>hnd' (e▸q8f hk))
 ·refine(H.kept.step hm.kept fun k hk=>?_).set (.inl (by simp)) _
  rcases h.ld k hk with e|e
  ·exact .inl (by simp[e])
  ·exact .inr e
 ·intro k hk
  rcases hlies k hk with e|e
  ·exact h.ld k e
  ·exact .inr (by omega)
 ·intro k hk hd
  rcases hlies k hd with e|e
  ·exact h.ne k hk e
  ·have:=H.lt.1 k hk;omega
end

end
section
open Go.RowKit Plain

def q4d(ns:List Nd)(p:Int)(i:Nat)(more:List (Int × Int)):List Nd:=ns.set p.toNat (qcg (nth ns p) i more)

def qa7(rec:List Nd->Int->List Nd × List (Int × Int))(p:Int):Nat->List Nd->List Nd
 |0,ns=>ns
 |i+1,ns=>qa7 rec p i (q4d (rec ns ((nth ns p).kids.getD i 0)).1 p i (rec ns ((nth ns p).kids.getD i 0)).2)

def q0h:Nat->List Nd->Int->List Nd × List (Int × Int)
 |0,ns,p=>q0p ns p
 |h+1,ns,p=>q0p (qa7 (q0h h) p (nth ns p).kids.length ns) p

theorem qu1{α β:Type}{a a':List α}{b b':List β}(h:a.length=b.length):(a++a').zip (b++b')=a.zip b++a'.zip b':=List.zip_append h

theorem qrv{kids keys places mkeys:List Int}{hi:Int}{i:Nat}(hk:keys.length+1=kids.length)(hi':i<kids.length)(hl:places.length=mkeys.length):
  ups (kids.take (i+1)++places++kids.drop (i+1)) (keys.take i++mkeys++keys.drop i) hi=(ups kids keys hi).take i++ups (kids[i]::places) mkeys ((keys++[hi])[i]'(by simp;omega))++(ups kids keys hi).drop (i+1):=by
 unfold ups
 have hlk:i<(keys++[hi]).length:=by simp;omega
 have e1:kids.take (i+1)=kids.take i++[kids[i]]:=List.take_succ_eq_append_getElem hi'
 have e2:keys.drop i++[hi]=(keys++[hi])[i]::(keys++[hi]).drop (i+1):=by
  rw[<-List.drop_eq_getElem_cons hlk,List.drop_append_of_le_length (by omega)]
 have e3:(keys++[hi]).take i=keys.take i:=List.take_append_of_le_length (by omega)
 have l1:(kids.take i).length=(keys.take i).length:=by simp;omega
 have a1:kids.take (i+1)++places++kids.drop (i+1)=kids.take i++((kids[i]::places)++kids.drop (i+1)):=by rw[e1,List.append_assoc,List.append_assoc];rfl
 have a2:keys.take i++mkeys++keys.drop i++[hi]=keys.take i++((mkeys++[(keys++[hi])[i]])++(keys++[hi]).drop (i+1)):=by
  rw[List.append_assoc,List.append_assoc,e2]
  simp
 rw[a1,a2,qu1 l1,qu1 (by simp[hl]),qed,qer,e3,List.append_assoc]

theorem q7l{ns:List Nd}{p:Int}{y:Nd}(h0:0<=p)(h1:p<ns.length):nth (ns.set p.toNat y) p=y:=by
 unfold nth
 rw[List.getD_eq_getElem?_getD,List.getElem?_set_self (by omega)]
 rfl
theorem q7c{ns:List Nd}{p n:Int}{y:Nd}(h0:0<=p)(hn:0<=n)(hne:n≠p):nth (ns.set p.toNat y) n=nth ns n:=by
 unfold nth
 rw[List.getD_eq_getElem?_getD,List.getD_eq_getElem?_getD,List.getElem?_set_ne (by omega)]

theorem qp0{ns:List Nd}{p:Int}{i:Nat}{more:List (Int × Int)}(h0:0<=p)(h1:p<ns.length):((q4d ns p i more).flatMap cont).Perm (ns.flatMap cont):=by
 have hx:ns[p.toNat]'(by omega)=nth ns p:=by
  unfold nth
  rw[List.getD_eq_getElem?_getD,List.getElem?_eq_getElem (by omega)]
  rfl
 have:=qn0 (ns:=ns) (xs:=[]) (i:=p.toNat) (y:=qcg (nth ns p) i more) (by omega) (by rw[hx];simp[cont,qcg])
 simpa [q4d] using this

structure q9f(mL:Nat)(ns0 ns:List Nd)(h:Nat)(p lo hi:Int)(P:List Int)(x:Nd)(i:Nat):Prop where
 len:i<=x.kids.length
 at':∃kids keys:List Int,∃T:List (Int × Int),∃Q1 Q2:List Int,nth ns p={ x with kids:=kids,keys:=keys }/\keys.length+1=kids.length/\x.kids.length<=kids.length/\kids.take i=x.kids.take i/\ups kids keys hi=(ups x.kids x.keys hi).take i++T/\
  SubK (Sub mL 4 ns h) lo ((ups x.kids x.keys hi).take i) Q1/\SubK (Sub 6 4 ns h) (endU lo ((ups x.kids x.keys hi).take i)) T Q2/\(p::(Q1++Q2)).Perm (P++q0j ns0.length (ns.length-ns0.length))
 le:ns0.length<=ns.length
 same:∀n,n∉P->0<=n->n<ns0.length->nth ns n=nth ns0 n
 cont:(ns.flatMap cont).Perm (ns0.flatMap cont)

theorem q4x{kids keys:List Int}{hi:Int}{i:Nat}(hk:keys.length+1=kids.length)(hi':i<kids.length):(ups kids keys hi).take (i+1)=(ups kids keys hi).take i++[(kids[i],(keys++[hi])[i]'(by simp;omega))]:=by
 have hl:i<(ups kids keys hi).length:=by simp[ups];omega
 rw[List.take_succ_eq_append_getElem hl]
 congr 2
 exact(List.getElem?_eq_some_iff.1 (qt8 hk hi')).2

theorem qi8{mL:Nat}{ns0 ns:List Nd}{h:Nat}{p lo hi:Int}{P:List Int}{x:Nd}{i:Nat}{R:List Nd × List (Int × Int)}(hx:x.keys.length+1=x.kids.length)(hp0:0<=p)(hp1:p<ns0.length)(hpP:p∈P)(hP:P.Nodup)(hPr:∀n∈P,0<=n/\n<ns0.length)
  (hK:q9f mL ns0 ns h p lo hi P x (i+1)) (hR:∀lo u Qd,Sub mL 4 ns h ((nth ns p).kids.getD i 0) lo u Qd->Qd.Nodup->qc6 ns R.1 h ((nth ns p).kids.getD i 0) lo u Qd R.2):
  q9f mL ns0 (q4d R.1 p i R.2) h p lo hi P x i:=by
 obtain⟨kids,keys,T,Q1,Q2,hn,hkl,hle,htk,hU,s1,s2,hpm⟩:=hK.at'
 have hix:i<x.kids.length:=hK.len
 have hik:i<kids.length:=by omega
 have hd:(nth ns p).kids.getD i 0=x.kids[i]:=by
  have e:kids[i]=x.kids[i]:=by
   have h1:(kids.take (i+1))[i]? =(x.kids.take (i+1))[i]? :=by rw[htk]
   rw[List.getElem?_take,List.getElem?_take,if_pos (by omega),if_pos (by omega),List.getElem?_eq_getElem hik,List.getElem?_eq_getElem hix] at h1
   simpa using h1
  rw[hn]
  simp[hik,e]
 rw[hd] at hR
 rw[q4x hx hix,SubK_append] at s1
 obtain⟨Qa,Qd,rfl,s1a,Qd',Qe,rfl,s1d,hQe⟩:=s1
 cases hQe
 rw[List.append_nil] at hpm
 rw[q4x hx hix,qjm] at s2
 have hnd:(p::(Qa++Qd'++Q2)).Nodup:=hpm.nodup_iff.2 (List.nodup_append.2 ⟨hP,q1y _ _,fun a ha b hb e=>by
  have h1:=(hPr a ha).2
  have h2:=(placesF_mem.1 hb).1
  omega⟩)
 have hnd2:=hnd
 rw[List.nodup_cons,List.nodup_append,List.nodup_append] at hnd
 obtain⟨hpn,⟨na,nd',nad⟩,n2,nad2⟩:=hnd
 have hs:=hR _ _ _ s1d nd'
 obtain⟨Q',t1,t2⟩:=hs.sub
 have hsle:=hs.le
 have hle0:=hK.le
 have hpn':p∉Qd':=fun e=>hpn (by simp[e])
 have hpl:p<ns.length:=by omega
 have hpR:nth R.1 p=nth ns p:=hs.same p hpn' hp0 hpl
 have hpRl:p<R.1.length:=by omega
 have hnR:nth (q4d R.1 p i R.2) p=qcg (nth R.1 p) i R.2:=q7l hp0 hpRl
 have hfar:∀n,0<=n->n≠p->nth (q4d R.1 p i R.2) n=nth R.1 n:=fun n h0 hne=>q7c hp0 h0 hne
 have hlen:(q4d R.1 p i R.2).length=R.1.length:=by simp[q4d]
 have hr1:=q6r s1a
 have hr2:=q6r s2
 have hml:(R.2.map (·.2)).length=(R.2.map (·.1)).length:=by simp
 refine⟨by omega,⟨kids.take (i+1)++R.2.map (·.2)++kids.drop (i+1),keys.take i++R.2.map (·.1)++keys.drop i,ups (x.kids[i]::R.2.map (·.2)) (R.2.map (·.1)) ((x.keys++[hi])[i]'(by simp;omega))++T,Qa,Q'++Q2,?_,?_,?_,?_,?_,?_,?_,?_⟩,by omega,?_,?_⟩
 ·rw[hnR,hpR,hn]
  rfl
 ·simp;omega
 ·simp;omega
 ·rw[List.append_assoc,List.take_append_of_le_length (by simp;omega),List.take_take,Nat.min_eq_left (by omega)]
  have:=congrArg (List.take i) htk
  rwa [List.take_take,List.take_take,Nat.min_eq_left (by omega)] at this
 ·have hkd:kids[i]=x.kids[i]:=by
   have h1:(kids.take (i+1))[i]? =(x.kids.take (i+1))[i]? :=by rw[htk]
   rw[List.getElem?_take,List.getElem?_take,if_pos (by omega),if_pos (by omega),List.getElem?_eq_getElem hik,List.getElem?_eq_getElem hix] at h1
   simpa using h1
  have hUi:(ups kids keys hi).take (i+1)=(ups x.kids x.keys hi).take (i+1):=by
   rw[hU]
   have hl:((ups x.kids x.keys hi).take (i+1)).length=i+1:=by simp[ups];omega
   exact List.take_left' hl
  have hTd:(ups kids keys hi).drop (i+1)=T:=by
   rw[hU]
   have hl:((ups x.kids x.keys hi).take (i+1)).length=i+1:=by simp[ups];omega
   exact List.drop_left' hl
  have hTi:(ups kids keys hi).take i=(ups x.kids x.keys hi).take i:=by
   have:=congrArg (List.take i) hUi
   rwa [List.take_take,List.take_take,Nat.min_eq_left (by omega)] at this
  have hup:(keys++[hi])[i]'(by simp;omega)=(x.keys++[hi])[i]'(by simp;omega):=by
   have a:=q4x (hi:=hi) hkl hik
   have b:=q4x (hi:=hi) hx hix
   rw[hUi,b,hTi] at a
   have:=List.append_cancel_left a
   simp at this
   exact this.2.symm
  rw[qrv hkl hik hml,hTd,hTi,hkd,List.append_assoc]
  simp only[hup]
 ·refine q6l s1a fun d l u Qq a b=>q4r h d l u Qq a fun n hn'=>?_
  have hr:=hr1 n (b n hn')
  have hne:n≠p:=fun e=>hpn (by rw[<-e];simp[b n hn'])
  have hnot:n∉Qd':=fun e=>nad n (b n hn') n e rfl
  exact⟨(hfar n hr.1 hne).trans (hs.same n hnot hr.1 hr.2),by rw[hlen];omega⟩
 ·rw[SubK_append]
  refine⟨Q',Q2,rfl,?_,?_⟩
  ·refine q6l t1 fun d l u Qq a b=>q4r h d l u Qq a fun n hn'=>?_
   have hm:=t2.mem_iff.1 (b n hn')
   have hr:0<=n/\n<R.1.length:=q6r t1 n (b n hn')
   have hne:n≠p:=by
    rintro rfl
    rcases List.mem_append.1 hm with e|e
    ·exact hpn' e
    ·have:=(placesF_mem.1 e).1;omega
   exact⟨hfar n hr.1 hne,by rw[hlen];exact hr.2⟩
  ·rw[qgs (by simp)]
   refine q6l s2 fun d l u Qq a b=>q4r h d l u Qq a fun n hn'=>?_
   have hr:=hr2 n (b n hn')
   have hne:n≠p:=fun e=>hpn (by rw[<-e];simp[b n hn'])
   have hnot:n∉Qd':=fun e=>nad2 n (List.mem_append_right _ e) n (b n hn') rfl
   exact⟨(hfar n hr.1 hne).trans (hs.same n hnot hr.1 hr.2),by rw[hlen];omega⟩
 ·rw[hlen,show R.1.length-ns0.length=(ns.length-ns0.length)+(R.1.length-ns.length) by omega,q2g,show ns0.length+(ns.length-ns0.length)=ns.length by omega]
  rw[<-List.append_assoc P]
  refine List.Perm.trans ?_ (hpm.append_right _)
  show(p::(Qa++(Q'++Q2))).Perm (p::(Qa++Qd'++Q2++q0j ns.length (R.1.length-ns.length)))
  refine List.Perm.cons p ?_
  simp only[List.append_assoc]
  refine List.Perm.append_left Qa ?_
  refine(t2.append_right Q2).trans ?_
  simp only[List.append_assoc]
  exact List.Perm.append_left Qd' List.perm_append_comm
 ·intro n hnP h0 h1
  have hne:n≠p:=fun e=>hnP (e▸hpP)
  have hnot:n∉Qd':=by
   intro e
   have:n∈P++q0j ns0.length (ns.length-ns0.length):=hpm.mem_iff.1 (by simp[e])
   rcases List.mem_append.1 this with e'|e'
   ·exact hnP e'
   ·have:=(placesF_mem.1 e').1;omega
  exact(hfar n h0 hne).trans ((hs.same n hnot h0 (by omega)).trans (hK.same n hnP h0 h1))
 ·exact(qp0 hp0 hpRl).trans (hs.cont.trans hK.cont)

theorem qmg{mL:Nat}{ns0:List Nd}{h:Nat}{p lo hi:Int}{P:List Int}{x:Nd}{rec:List Nd->Int->List Nd × List (Int × Int)}(hx:x.keys.length+1=x.kids.length)(hp0:0<=p)(hp1:p<ns0.length)(hpP:p∈P)(hP:P.Nodup)(hPr:∀n∈P,0<=n/\n<ns0.length)
  (hrec:∀ns d lo u Qd,Sub mL 4 ns h d lo u Qd->Qd.Nodup->qc6 ns (rec ns d).1 h d lo u Qd (rec ns d).2):
  ∀(i:Nat) (ns:List Nd),q9f mL ns0 ns h p lo hi P x i->q9f mL ns0 (qa7 rec p i ns) h p lo hi P x 0
 |0,_,hK=>hK
 |i+1,ns,hK=>qmg hx hp0 hp1 hpP hP hPr hrec i _ (qi8 hx hp0 hp1 hpP hP hPr hK fun lo u Qd a b=>hrec ns _ lo u Qd a b)

theorem q8o{mL:Nat}:∀(h:Nat) (ns:List Nd) (p lo hi:Int) (P:List Int),Sub mL 4 ns h p lo hi P->P.Nodup->qc6 ns (q0h h ns p).1 h p lo hi P (q0h h ns p).2
 |0,ns,p,lo,hi,P,hs,hP=>qbd (mK:=4) (mL:=mL) (show Top mL 4 ns 0 p lo hi P from hs) hP
 |h+1,ns,p,lo,hi,P,hs,hP=>by
  have hPr:=q4u _ _ _ _ _ hs
  obtain⟨hr,Q,rfl,hin⟩:=hs
  have hul:(ups (nth ns p).kids (nth ns p).keys hi).take (nth ns p).kids.length=ups (nth ns p).kids (nth ns p).keys hi:=List.take_of_length_le (by simp[ups];omega)
  have hK:q9f mL ns ns h p lo hi (p::Q) (nth ns p) (nth ns p).kids.length:=by
   refine⟨Nat.le_refl _,⟨(nth ns p).kids,(nth ns p).keys,[],Q,[],rfl,hin.keys,Nat.le_refl _,rfl,?_,?_,rfl,?_⟩,Nat.le_refl _,fun _ _ _ _=>rfl,List.Perm.refl _⟩
   ·rw[hul,List.append_nil]
   ·rw[hul];exact hin.kids
   ·simp[q0j]
  have hK0:=qmg (rec:=q0h h) hin.keys hr.1 hr.2.1 (by simp) hP hPr (fun ns d lo u Qd a b=>q8o h ns d lo u Qd a b) _ _ hK
  show qc6 ns (q0p (qa7 (q0h h) p (nth ns p).kids.length ns) p).1 (h+1) p lo hi (p::Q) (q0p (qa7 (q0h h) p (nth ns p).kids.length ns) p).2
  generalize qa7 (q0h h) p (nth ns p).kids.length ns=ns1 at hK0 ⊢
  obtain⟨kids,keys,T,Q1,Q2,hn,hkl,hle,-,hU,s1,s2,hpm⟩:=hK0.at'
  have hle1:=hK0.le
  cases s1
  rw[List.take_zero] at hU s2
  rw[List.nil_append] at hU hpm
  have htwo:=hin.two
  have hp1:=hr.2.1
  have hnd:(p::Q2).Nodup:=hpm.nodup_iff.2 (List.nodup_append.2 ⟨hP,q1y _ _,fun a ha b hb e=>by
   have h1:=(hPr a ha).2
   have h2:=(placesF_mem.1 hb).1
   omega⟩)
  have htop:Top 6 kids.length ns1 (h+1) p lo hi (p::Q2):=by
   refine⟨⟨hr.1,by omega,hr.2.2⟩,Q2,rfl,?_⟩
   rw[hn]
   exact⟨hin.leaf,hin.ents,by show 2<=kids.length;omega,Nat.le_refl _,hkl,hin.few,hin.buf,by show SubK _ lo (ups kids keys hi) Q2;rw[hU];exact s2⟩
  have hs:=qbd htop hnd
  have hle2:=hs.le
  have hfew:=hs.few
  obtain⟨Q',t1,t2⟩:=hs.sub
  refine⟨⟨Q',t1,t2.trans ?_⟩,by omega,?_,hs.cont.trans hK0.cont,by omega⟩
  ·rw[show(q0p ns1 p).1.length-ns.length=(ns1.length-ns.length)+((q0p ns1 p).1.length-ns1.length) by omega,q2g,show ns.length+(ns1.length-ns.length)=ns1.length by omega,<-List.append_assoc (p::Q)]
   exact hpm.append_right _
  ·intro n hnP h0 h1
   refine(hs.same n ?_ h0 (by omega)).trans (hK0.same n hnP h0 h1)
   intro e
   rcases List.mem_append.1 (hpm.mem_iff.1 e) with e'|e'
   ·exact hnP e'
   ·have:=(placesF_mem.1 e').1;omega

end
section
open Go.RowKit Plain Go.Shelf

theorem qnp(cs vs:List Value)(i j:Nat)(hi:i<=cs.length):(cs.take i++(vs++cs.drop i))[j]? =if j<i then cs[j]? else if j<i+vs.length then vs[j-i]? else cs[j-vs.length]? :=by
 have hl:(cs.take i).length=i:=by rw[List.length_take];omega
 by_cases h1:j<i
 ·rw[List.getElem?_append_left (by omega),List.getElem?_take,if_pos h1,if_pos h1]
 ·rw[List.getElem?_append_right (by omega),hl,if_neg h1]
  by_cases h2:j<i+vs.length
  ·rw[if_pos h2,List.getElem?_append_left (by omega)]
  ·rw[if_neg h2,List.getElem?_append_right (by omega),List.getElem?_drop,show i+(j-i-vs.length)=j-vs.length by omega]

theorem qp3{cur cs vs:List Value}{i:Nat}(ht:cur.take cs.length=cs)(hi:i<=cs.length)(hr:cs.length+vs.length<=cur.length):(ovr (ovr cur (i+vs.length) (cs.drop i)) i vs).take (cs.length+vs.length)=cs.take i++(vs++cs.drop i):=by
 apply List.ext_getElem?
 intro j
 rw[qnp cs vs i j hi,List.getElem?_take]
 by_cases hj:j<cs.length+vs.length
 ·rw[if_pos hj,q7v _ _ _ _ (by rw[q3g];omega)]
  by_cases h2:j<i
  ·rw[if_neg (by omega),if_pos h2,q7v _ _ _ _ (by simp;omega),if_neg (by omega),qn7 ht (by omega)]
  ·by_cases h1:j<i+vs.length
   ·rw[if_pos (by omega),if_neg h2,if_pos h1]
   ·rw[if_neg (by omega),if_neg h2,if_neg h1,q7v _ _ _ _ (by simp;omega),if_pos (by simp;omega),List.getElem?_drop,show i+(j-(i+vs.length))=j-vs.length by omega]
 ·rw[if_neg hj,if_neg (by omega),if_neg (by omega),List.getElem?_eq_none (by omega)]

theorem qrf{cur cs vs:List Value}{i:Nat}(ht:cur.take i=cs.take i)(hi:i<=cs.length)(hr:cs.length+vs.length<=cur.length):(ovr (ovr cur i vs) (i+vs.length) (cs.drop i)).take (cs.length+vs.length)=cs.take i++(vs++cs.drop i):=by
 apply List.ext_getElem?
 intro j
 rw[qnp cs vs i j hi,List.getElem?_take]
 by_cases hj:j<cs.length+vs.length
 ·rw[if_pos hj,q7v _ _ _ _ (by rw[q3g];simp;omega)]
  by_cases h1:i+vs.length<=j
  ·rw[if_pos (by simp;omega),if_neg (by omega),if_neg (by omega),List.getElem?_drop,show i+(j-(i+vs.length))=j-vs.length by omega]
  ·rw[if_neg (by omega),q7v _ _ _ _ (by omega)]
   by_cases h2:j<i
   ·rw[if_neg (by omega),if_pos h2]
    have h:(cur.take i)[j]? =(cs.take i)[j]? :=by rw[ht]
    rwa [List.getElem?_take,List.getElem?_take,if_pos h2,if_pos h2] at h
   ·rw[if_pos (by omega),if_neg h2,if_pos (by omega)]
 ·rw[if_neg hj,if_neg (by omega),if_neg (by omega),List.getElem?_eq_none (by omega)]

theorem q4t{P:Program}(w:World)(dT sT ty elem:TypeId)(k b o dLen dCap:Nat)(a:Addr)(sLen sCap:Nat)(cs:List Value)
  (hu:P.underlying dT=some (.slice elem)) (hs:(P.info? elem).map (·.size)=some k) (hn:cs.length=Nat.min sLen dLen*k)
  (hsrc:∀j v,cs[j]? =some v->w.cell? (a.add j)=some v) (hc:∀j,j<cs.length->(w.cell? ⟨b,o+j,none⟩).isSome=true) (hf:∀j,j<cs.length->w.frozen? ⟨b,o+j,none⟩=false) (h1:∀v∈cs,v.oneCell'=true):
  (Builtin.copy_ #[dT,sT] ty #[.slice (some ⟨b,o,none⟩) dLen dCap,.slice (some a) sLen sCap]).run P w=.ok (goInt (Nat.min sLen dLen)) (w.setCells b o cs):=by
 have hl:=run_loadCells_list (P:=P) w a cs hsrc
 have hst:=run_storeCells_cells (P:=P) b o cs 0 w (by simpa using hc) (by simpa using hf) h1
 rw[hn] at hl
 cases hq:P.info? elem with
 |none=>simp[hq] at hs
 |some i=>
  have hi:i.size=k:=by simpa [hq] using hs
  simp only[Nat.min_def] at hl ⊢
  simp[Builtin.copy_,run_underlying hu,Builtin.lenOf,Builtin.firstCells,sizeOf,typeInfo,hq,hi,hl,hst,Nat.min_def]

theorem qcl(x:En):q0d [x]=x.vals:=by simp[q0d]

theorem qzc{w:World}{vb:Nat}{x:En}(hv:RowL w vb 84 x.vals):∀j u,(q0d [x])[j]? =some u->w.cell? (Addr.add ⟨vb,0,none⟩ j)=some u:=by
 intro j u hu
 rw[WideShapes.add_plain,Nat.zero_add,hv.cell]
 rwa [qcl] at hu

theorem qfe{base n g cap:Nat}{t:TypeId}{size:Nat}{A:Option Addr}{n0 C0:Nat}{vs:List Value}{w w1:World}(hown:w1.ownsRow base t size (.slice (some ⟨g,0,none⟩) n cap) n vs)(hgrow:w.grownBy w1 (Value.slice A n0 C0).ownBlock)(hat:(Value.slice A n0 C0).ownBlock=some g\/g=w.heap.size):
  q7u base t size n A (some ⟨g,0,none⟩) cap vs w w1:=by
 have e:∀k,(Value.slice A n0 C0).ownBlock=some k->A.map Addr.block=some k:=by
  intro k hk
  cases A<;>simp_all [Value.ownBlock]
 refine⟨hown,⟨hgrow.os,hgrow.tape,hgrow.output,hgrow.size,fun k hk hx=>hgrow.block k hk (fun h=>hx ?_)⟩,?_⟩
 ·simp[obk,e k h.symm]
 ·rcases hat with h|h
  ·left;rw[e g h];rfl
  ·right;exact⟨g,rfl,by omega⟩

set_option maxRecDepth 20000 in
set_option maxHeartbeats 4000000 in
theorem qll(base:Nat)(A:Option Addr)(C vb vc:Nat)(xs:List En)(x:En)(w:World)(ho:w.ownsRow base 84 7 (.slice A xs.length C) xs.length (q0d xs))(hv:RowL w vb 84 x.vals)(hB:base<=w.heap.size)(hz:(xs.length+1)*56<=140737488351232):
  Calls Tryz.prog 148 #[.slice A xs.length C,.int .i64 (xs.length:Int),.slice (some ⟨vb,0,none⟩) 1 vc] w
   fun e w'=>∃A' C',e=.returned (.slice A' (xs.length+1) C')/\q7u base 84 7 (xs.length+1) A A' C' (q0d (xs++[x])) w w':=by
 obtain⟨i0,hi0,hz0,hz1,hz2⟩:=info_parts qcv
 have hnews:=qzc hv
 have hcap:xs.length<=C/\C<=maxLen:=by
  obtain⟨A',C',h1,_,h2,h3,_⟩:=q0g ho
  cases h1
  exact⟨h2,h3⟩
 have hc63:C<=9223372036854775807:=by have:=hcap.2;unfold maxLen at this;omega
 have hc0:(xs.length:Int)<=(C:Int):=by have:=hcap.1;omega
 have hml:xs.length+1<=maxLen:=by unfold maxLen;omega
 have HE:Hid (q0d (xs++[x])=q0d xs++q0d [x]):=q1r _ _
 clear hv hcap
 cases A with
 |none=>
  go_enter Tryz.func148,Tryz.ntmps148
  go_wp2_with (at_builtin;refine wpList_append_lies _ rfl _ _ 67 rfl base 84 i0 _ 7 56 Tryz.underlying67 hi0 hz0 hz1 hz2 rfl (by decide) (.slice none xs.length C) xs.length (q0d xs) rfl ho ⟨vb,0,none⟩ 1 vc (q0d [x]) rfl rfl hnews (q2a _) (by decide) hml (by omega) hB w.heap.size rfl ?_;intro g cap w1 hown hgrow hat hlt)
  go_ret
  exact⟨_,_,rfl,by rw[HE.out];exact qfe hown hgrow hat⟩
 |some ad=>
  go_enter Tryz.func148,Tryz.ntmps148
  go_wp2_with (at_builtin;refine wpList_append_lies _ rfl _ _ 67 rfl base 84 i0 _ 7 56 Tryz.underlying67 hi0 hz0 hz1 hz2 rfl (by decide) (.slice (some ad) xs.length C) xs.length (q0d xs) rfl ho ⟨vb,0,none⟩ 1 vc (q0d [x]) rfl rfl hnews (q2a _) (by decide) hml (by omega) hB w.heap.size rfl ?_;intro g cap w1 hown hgrow hat hlt)
  all_goals
   go_ret
   exact⟨_,_,rfl,by rw[HE.out];exact qfe hown hgrow hat⟩

theorem quv:(Tryz.prog.info? 84).map (·.size)=some 7:=by
 obtain⟨i0,hi0,_,h1,_⟩:=info_parts qcv
 rw[hi0]
 simp[h1]

set_option maxRecDepth 100000 in
set_option maxHeartbeats 4000000 in
theorem qgy(g n c i vb vc:Nat)(cs vs:List Value)(w:World)(hi:i<n)(hroom:n+1<=c)(hc63:c<=9223372036854775807)(hvb:vb≠g)(hcl:cs.length=n*7)(hvl:vs.length=7)
  (hcs:∀j v,cs[j]? =some v->w.cell? ⟨g,j,none⟩=some v) (hsp:∀j,j<(n+1)*7->(w.cell? ⟨g,j,none⟩).isSome=true) (hfz:∀j,w.frozen? ⟨g,j,none⟩=false)
  (hvs:∀j v,vs[j]? =some v->w.cell? ⟨vb,j,none⟩=some v) (h1c:∀v∈cs,v.oneCell'=true) (h1v:∀v∈vs,v.oneCell'=true)
  (tA tB:TypeId) (kA kB:Nat) (hsa:w.shape? vb=some (tA,kA)) (hsb:w.shape? g=some (tB,kB)) (hkB:kB≠0) (hfa:∀j,w.frozen? ⟨vb,j,none⟩=false):
  Calls Tryz.prog 148 #[.slice (some ⟨g,0,none⟩) n c,.int .i64 (i:Int),.slice (some ⟨vb,0,none⟩) 1 vc] w fun e w'=>
   e=.returned (.slice (some ⟨g,0,none⟩) (n+1) c)/\w'=(w.drew.setCells g ((i+1)*7) (cs.drop (i*7))).setCells g (i*7) vs:=by
 have hz2:¬((i:Int)=(n:Int)):=by omega
 have hov:∀lb cb,(callFunc 160 #[.slice (some ⟨vb,0,none⟩) 1 vc,.slice (some ⟨g,(i+1)*7,none⟩) lb cb]).run Tryz.prog w=.ok (.value (.bool false)) w:=fun lb cb=>by
  rw[run_callFunc_extern Tryz.func160 (by kernel_rfl) (by kernel_rfl) (by kernel_rfl) (e:=Extern.SlicesOverlaps.overlaps #[67,67] #[4]) (by kernel_rfl),
   Lib.run_overlaps_apart w 67 4 84 Tryz.underlying67 7 Tryz.sizeOf84 ⟨vb,0,none⟩ ⟨g,(i+1)*7,none⟩ 1 vc lb cb hvb tA tB kA kB hsa hsb hkB (hfa _) (hfa _)]
  rfl
 have hdl:(cs.drop (i*7)).length=(n-i)*7:=by rw[List.length_drop,hcl];omega
 have hcp1:∀ty dc sc,(Builtin.copy_ #[67,67] ty #[.slice (some ⟨g,(i+1)*7,none⟩) (n-i) dc,.slice (some ⟨g,i*7,none⟩) (n+1-i) sc]).run Tryz.prog w.drew=.ok (goInt (Nat.min (n+1-i) (n-i))) (w.drew.setCells g ((i+1)*7) (cs.drop (i*7))):=fun ty dc sc=>
  q4t w.drew _ _ ty 84 7 g ((i+1)*7) (n-i) dc ⟨g,i*7,none⟩ (n+1-i) sc (cs.drop (i*7)) Tryz.underlying67 quv (by rw[hdl];simp only[Nat.min_def];split<;>omega)
   (fun j v hj=>by rw[Addr.add_lit];exact hcs (i*7+j) v (by rwa [List.getElem?_drop] at hj))
   (fun j hj=>hsp _ (by omega)) (fun j hj=>hfz _) (fun v hv=>h1c v (List.mem_of_mem_drop hv))
 obtain⟨W1,hW1⟩:∃W1,W1=w.drew.setCells g ((i+1)*7) (cs.drop (i*7)):=⟨_,rfl⟩
 have hsp1:∀k,k<(n+1)*7->(W1.cell? ⟨g,k,none⟩).isSome=true:=fun k hk=>by
  rw[hW1]
  exact isSome_setCells g (cs.drop (i*7)) ((i+1)*7) w.drew (fun j hj=>hsp _ (by omega)) _ (hsp k hk)
 have hcp2:∀(W:World),(∀x,W.cell? x=W1.cell? x)->(∀x,W.frozen? x=W1.frozen? x)->∀ty dc,(Builtin.copy_ #[67,67] ty #[.slice (some ⟨g,i*7,none⟩) (n+1-i) dc,.slice (some ⟨vb,0,none⟩) 1 vc]).run Tryz.prog W=.ok (goInt (Nat.min 1 (n+1-i))) (W.setCells g (i*7) vs):=fun W hWc hWf ty dc=>
  q4t W _ _ ty 84 7 g (i*7) (n+1-i) dc ⟨vb,0,none⟩ 1 vc vs Tryz.underlying67 quv (by rw[hvl];simp only[Nat.min_def];split<;>omega)
   (fun j v hj=>by
    rw[Addr.add_lit,hWc,hW1,World.cell?_setCells_out g _ _ _ _ (fun h _=>absurd h hvb),Nat.zero_add]
    exact hvs j v hj)
   (fun j hj=>by rw[hWc];exact hsp1 _ (by omega)) (fun j hj=>by rw[hWf,hW1,World.frozen?_setCells];exact hfz _) h1v
 rw[<-hW1] at hcp1
 have hin:i<=n:=by omega
 have hb2:¬(c=i+1):=by omega
 have hb4:¬(c=i):=by omega
 have hw1:IntKind.i64.wrap ((i:Int)+1)=(i:Int)+1:=by rw[IntKind.wrap_i64];omega
 have hb1:(0:Int)<=(i:Int)+1:=by omega
 have htn:((i:Int)+1).toNat=i+1:=by omega
 have hb3:(i:Int)+1<=(n:Int)+1:=by omega
 have hb5:(i:Int)<=(n:Int)+1:=by omega
 go_enter Tryz.func148,Tryz.ntmps148
 go_wp2_with (simp only[hov])
 go_region_law (refine step_copy_runI rfl _ _ 67 67 rfl _ _ (by simp[Act.eval,Act.put]) (by simp[Act.eval,Act.put]) (hcp1 _ _ _) ?_)
 go_wp2_with (at_builtin;refine wpList_copy_runI _ rfl _ _ 67 67 rfl _ _ rfl rfl (hcp2 _ (fun _=>rfl) (fun _=>rfl) _ _) ?_)
 go_ret
 first|exact⟨rfl,rfl⟩|exact⟨rfl,by rw[hW1]⟩

def zroE:Value:=.agg #[.int .i64 0,.int .i64 0,.int .i64 0,.int .i64 0,.int .i64 0,.int .i64 0,.int .i64 0]
def rowG(cs:List Value)(i n G:Nat):Array Value:=(cs.take (i*7)).toArray++Builtin.zeroCells zroE.cells (n+1-i)++Builtin.zeroCells zroE.cells (G-(n+1))

theorem qjh{cs:List Value}{i n G:Nat}(hi:i<=n)(hcl:cs.length=n*7)(hG:n+1<=G):(rowG cs i n G).size=G*7:=by
 unfold rowG
 rw[Array.size_append,Array.size_append,size_zeroCells,size_zeroCells]
 simp[zroE,Value.cells,hcl]
 omega

theorem qsb{cs:List Value}{i n G:Nat}(hi:i<=n)(hcl:cs.length=n*7):(rowG cs i n G).toList.take (i*7)=cs.take (i*7):=by
 unfold rowG
 rw[Array.toList_append,Array.toList_append,List.append_assoc]
 exact List.take_left' (by rw[List.length_take];omega)

set_option maxRecDepth 100000 in
set_option maxHeartbeats 4000000 in
theorem qi6(g n c i vb vc:Nat)(cs vs:List Value)(w:World)(hi:i<n)(hnc:n<=c)(hroom:c<n+1)(hbig:(n+1)*56<=140737488355328)(hcl:cs.length=n*7)(hvl:vs.length=7)
  (hcs:∀j v,cs[j]? =some v->w.cell? ⟨g,j,none⟩=some v) (hvs:∀j v,vs[j]? =some v->w.cell? ⟨vb,j,none⟩=some v) (h1c:∀v∈cs,v.oneCell'=true) (h1v:∀v∈vs,v.oneCell'=true):
  Calls Tryz.prog 148 #[.slice (some ⟨g,0,none⟩) n c,.int .i64 (i:Int),.slice (some ⟨vb,0,none⟩) 1 vc] w fun e w'=>
   ∃G,n+1<=G/\G<=maxLen/\e=.returned (.slice (some ⟨w.heap.size,0,none⟩) (n+1) G)/\
   w'=(((w.alloc (.cells (rowG cs i n G) 84)).drew.setCells w.heap.size (i*7) vs).drew).setCells w.heap.size ((i+1)*7) (cs.drop (i*7)):=by
 obtain⟨i0,hi0,hz0,hzs,hzb⟩:=info_parts qcv
 have hz2:¬((i:Int)=(n:Int)):=by omega
 have hz3:(c:Int)<(n:Int)+1:=by omega
 have hbw:g<w.heap.size:=block_lt_of_cell (hcs 0 _ (List.getElem?_eq_getElem (by omega)))
 have hvw:vb<w.heap.size:=block_lt_of_cell (hvs 0 _ (List.getElem?_eq_getElem (by omega)))
 have hkk:(n:Int)+1-(i:Int)=((n+1-i:Nat):Int):=by omega
 have hik:i+(n+1-i)=n+1:=by omega
 have hold:(Builtin.firstCells i0.size i (.slice (some ⟨g,0,none⟩) i c)).run Tryz.prog w.drew=.ok (cs.take (i*7)).toArray w.drew:=by
  rw[hzs]
  exact run_firstCells_some w.drew 7 i ⟨g,0,none⟩ i c (cs.take (i*7)) (by rw[List.length_take];omega) (fun j v hj=>by
   rw[Addr.add_lit,Nat.zero_add]
   rw[List.getElem?_take] at hj
   split at hj
   ·exact hcs j v hj
   ·cases hj)
 have hrz:∀ty,(Builtin.append_ #[67,3] ty #[.slice (some ⟨g,0,none⟩) i c,.int .i64 ((n:Int)+1-(i:Int))]).run Tryz.prog w=
   .ok (.slice (some ⟨w.heap.size,0,none⟩) (n+1) (grownCap w (n+1) c 84)) (w.drew.alloc (.cells (rowG cs i n (grownCap w (n+1) c 84)) 84)):=fun ty=>by
  have h:=Lib.run_append_grow_zeros w 67 3 ty 84 i0 _ .i64 .i64 Tryz.underlying67 Tryz.underlying3 hi0 hz0 (some ⟨g,0,none⟩) i c (cs.take (i*7)) hold (n+1-i) (by omega) (by omega) (by omega) (by omega) (by rw[hzb];omega) (by rw[hzb,hik];exact growslice_fits hroom hbig)
  rw[hik] at h
  rw[hkk]
  exact h
 obtain⟨G,hG⟩:∃G,G=grownCap w (n+1) c 84:=⟨_,rfl⟩
 have hGn:n+1<=G:=by rw[hG];exact grownCap_ge w _ _ _
 have hGm:G<=maxLen:=by rw[hG];exact grownCap_le_maxLen w (n+1) c _ (by unfold maxLen;omega)
 rw[<-hG] at hrz
 suffices hS:Calls Tryz.prog 148 #[.slice (some ⟨g,0,none⟩) n c,.int .i64 (i:Int),.slice (some ⟨vb,0,none⟩) 1 vc] w (fun e w'=>e=.returned (.slice (some ⟨w.heap.size,0,none⟩) (n+1) G)/\w'=(((w.alloc (.cells (rowG cs i n G) 84)).drew.setCells w.heap.size (i*7) vs).drew).setCells w.heap.size ((i+1)*7) (cs.drop (i*7))) from hS.mono fun e w' h=>⟨G,hGn,hGm,h.1,h.2⟩
 have hRl:=qjh (i:=i) (G:=G) (Nat.le_of_lt hi) hcl hGn
 obtain⟨ROW,hROW⟩:∃ROW:Array Value,ROW=rowG cs i n G:=⟨_,rfl⟩
 rw[<-hROW] at hrz hRl ⊢
 obtain⟨W1,hW1⟩:∃W1,W1=w.drew.alloc (.cells ROW 84):=⟨_,rfl⟩
 rw[<-hW1] at hrz
 have hN:∀j,j<(n+1)*7->(W1.cell? ⟨w.heap.size,j,none⟩).isSome=true:=fun j hj=>by
  rw[hW1,World.cell?_alloc_at (w:=w.drew) ROW _ w.heap.size j rfl,Array.getElem?_eq_getElem (by omega)];rfl
 have hNf:∀j,W1.frozen? ⟨w.heap.size,j,none⟩=false:=fun j=>by rw[hW1];exact World.frozen?_alloc_at (w:=w.drew) ROW _ w.heap.size j rfl
 have hOb:∀j v,w.cell? ⟨g,j,none⟩=some v->W1.cell? ⟨g,j,none⟩=some v:=fun j v h=>by rw[hW1,World.cell?_alloc_past (w:=w.drew) _ g j hbw];exact h
 have hOv:∀j v,w.cell? ⟨vb,j,none⟩=some v->W1.cell? ⟨vb,j,none⟩=some v:=fun j v h=>by rw[hW1,World.cell?_alloc_past (w:=w.drew) _ vb j hvw];exact h
 have hcpA:∀(W:World),(∀x,W.cell? x=W1.cell? x)->(∀x,W.frozen? x=W1.frozen? x)->∀ty dc,(Builtin.copy_ #[67,67] ty #[.slice (some ⟨w.heap.size,i*7,none⟩) (n+1-i) dc,.slice (some ⟨vb,0,none⟩) 1 vc]).run Tryz.prog W=.ok (goInt (Nat.min 1 (n+1-i))) (W.setCells w.heap.size (i*7) vs):=fun W hWc hWf ty dc=>
  q4t W _ _ ty 84 7 w.heap.size (i*7) (n+1-i) dc ⟨vb,0,none⟩ 1 vc vs Tryz.underlying67 quv (by rw[hvl];simp only[Nat.min_def];split<;>omega)
   (fun j v hj=>by rw[Addr.add_lit,Nat.zero_add,hWc];exact hOv _ v (hvs j v hj))
   (fun j hj=>by rw[hWc];exact hN _ (by omega)) (fun j hj=>by rw[hWf];exact hNf _) h1v
 have hG63:G<=9223372036854775807:=by unfold maxLen at hGm;omega
 have hGi:¬(G=i):=by omega
 have hGim:¬(G=i+1):=by omega
 have hci:¬(c=i):=by omega
 have hbN:g≠w.heap.size:=by omega
 have hdl:(cs.drop (i*7)).length=(n-i)*7:=by rw[List.length_drop,hcl];omega
 have hcpB:∀(W:World),(∀x,W.cell? x=(W1.setCells w.heap.size (i*7) vs).cell? x)->(∀x,W.frozen? x=(W1.setCells w.heap.size (i*7) vs).frozen? x)->∀ty dc sc,(Builtin.copy_ #[67,67] ty #[.slice (some ⟨w.heap.size,(i+1)*7,none⟩) (n-i) dc,.slice (some ⟨g,i*7,none⟩) (n-i) sc]).run Tryz.prog W=.ok (goInt (Nat.min (n-i) (n-i))) (W.setCells w.heap.size ((i+1)*7) (cs.drop (i*7))):=fun W hWc hWf ty dc sc=>
  q4t W _ _ ty 84 7 w.heap.size ((i+1)*7) (n-i) dc ⟨g,i*7,none⟩ (n-i) sc (cs.drop (i*7)) Tryz.underlying67 quv (by rw[hdl];simp only[Nat.min_def];split<;>omega)
   (fun j v hj=>by
    rw[Addr.add_lit,hWc,World.cell?_setCells_out _ _ _ _ _ (fun h _=>absurd h hbN)]
    exact hOb _ v (hcs (i*7+j) v (by rwa [List.getElem?_drop] at hj)))
   (fun j hj=>by rw[hWc];exact isSome_setCells _ _ _ _ (fun t ht=>hN _ (by omega)) _ (hN _ (by omega)))
   (fun j hj=>by rw[hWf,World.frozen?_setCells];exact hNf _) (fun v hv=>h1c v (List.mem_of_mem_drop hv))
 subst hW1
 have hE1:∀x,((w.alloc (.cells ROW 84)).drew).cell? x=(w.drew.alloc (.cells ROW 84)).cell? x:=fun x=>rfl
 have hE2:∀x,((w.alloc (.cells ROW 84)).drew).frozen? x=(w.drew.alloc (.cells ROW 84)).frozen? x:=fun x=>rfl
 have hF1:∀x,(((w.alloc (.cells ROW 84)).drew.setCells w.heap.size (i*7) vs).drew).cell? x=((w.drew.alloc (.cells ROW 84)).setCells w.heap.size (i*7) vs).cell? x:=fun x=>rfl
 have hF2:∀x,(((w.alloc (.cells ROW 84)).drew.setCells w.heap.size (i*7) vs).drew).frozen? x=((w.drew.alloc (.cells ROW 84)).setCells w.heap.size (i*7) vs).frozen? x:=fun x=>rfl
 have hw1:IntKind.i64.wrap ((i:Int)+1)=(i:Int)+1:=by rw[IntKind.wrap_i64];omega
 have hb1:(0:Int)<=(i:Int)+1:=by omega
 have hin:i<=n:=by omega
 have htn:((i:Int)+1).toNat=i+1:=by omega
 have hb3:(i:Int)<=(n:Int):=by omega
 have hb4:(i:Int)+1<=(n:Int)+1:=by omega
 clear hkk hik hold hROW hG hRl
 go_enter Tryz.func148,Tryz.ntmps148
 go_wp2_with (first
  |(at_builtin;refine Lib.wpList_append_run _ rfl _ _ _ _ rfl _ _ rfl rfl _ _ (hrz _) ?_)
  |(at_builtin;refine wpList_copy_runI _ rfl _ _ 67 67 rfl _ _ rfl rfl (hcpA _ hE1 hE2 _ _) ?_)
  |(at_builtin;refine wpList_copy_runI _ rfl _ _ 67 67 rfl _ _ rfl rfl (hcpB _ (fun _=>rfl) (fun _=>rfl) _ _ _) ?_))
 go_region_law (refine step_copy_runI rfl _ _ 67 67 rfl (.slice (some ⟨w.heap.size,(i+1)*7,none⟩) (n-i) (G-(i+1))) (.slice (some ⟨g,i*7,none⟩) (n-i) (c-i)) (by simp[Act.eval,Act.put]) (by simp[Act.eval,Act.put]) (hcpB _ hF1 hF2 3 (G-(i+1)) (c-i)) ?_)
 go_wp2
 go_ret
 exact⟨rfl,rfl⟩

theorem qqy(xs:List En)(i:Nat)(x:En):q0d (xs.take i++x::xs.drop i)=(q0d xs).take (i*7)++(x.vals++(q0d xs).drop (i*7)):=by
 rw[q1r,<-qa1,<-qc2]
 rfl

theorem qpy{base n C size:Nat}{t:TypeId}{A:Option Addr}{vs:List Value}{w w':World}{cur:Array Value}(hb:base<=w.heap.size)(hg:w'.heap[w.heap.size]? =some (.cells cur t (0,0)))(hn:n<=C)(hm:C<=maxLen)(hs:cur.size=C*size)(hl:vs.length=n*size)(ht:cur.toList.take (n*size)=vs)
  (hk:Kept (obk A) w w'):q7u base t size n A (some ⟨w.heap.size,0,none⟩) C vs w w':=
 ⟨⟨hl,.inr ⟨w.heap.size,C,cur,rfl,hb,hg,hn,hm,hs,ht⟩⟩,hk,.inr ⟨w.heap.size,rfl,Nat.le_refl _⟩⟩

theorem qp2{base n C g size:Nat}{t:TypeId}{vs:List Value}{w w':World}{cur:Array Value}(hb:base<=g)(hg:w'.heap[g]? =some (.cells cur t (0,0)))(hn:n<=C)(hm:C<=maxLen)(hs:cur.size=C*size)(hl:vs.length=n*size)(ht:cur.toList.take (n*size)=vs)
  (hk:Kept [g] w w'):q7u base t size n (some ⟨g,0,none⟩) (some ⟨g,0,none⟩) C vs w w':=
 ⟨⟨hl,.inr ⟨g,C,cur,rfl,hb,hg,hn,hm,hs,ht⟩⟩,hk,.inl rfl⟩

theorem qlh(base:Nat)(A:Option Addr)(C vb vc:Nat)(xs:List En)(i:Nat)(x:En)(w:World)(ho:w.ownsRow base 84 7 (.slice A xs.length C) xs.length (q0d xs))(hi:i<=xs.length)(hv:RowL w vb 84 x.vals)(hvb:vb∉obk A)(hB:base<=w.heap.size)(hz:(xs.length+1)*56<=140737488351232):
  Calls Tryz.prog 148 #[.slice A xs.length C,.int .i64 (i:Int),.slice (some ⟨vb,0,none⟩) 1 vc] w
   fun e w'=>∃A' C',e=.returned (.slice A' (xs.length+1) C')/\q7u base 84 7 (xs.length+1) A A' C' (q0d (xs.take i++x::xs.drop i)) w w':=by
 by_cases hin:i<xs.length
 ·rcases ho.2 with⟨hn,hn0⟩|⟨g,cap,cur,hn,hb,hg,hl,hm,hs,ht⟩
  ·omega
  ·simp only[Value.slice.injEq] at hn
   obtain⟨rfl,-,rfl⟩:=hn
   have hvg:vb≠g:=fun e=>hvb (by simp[obk,e])
   have hil:=q0u xs
   have hcl:cur.toList.length=C*7:=by simpa using hs
   have hcell:∀j,w.cell? ⟨g,j,none⟩=cur.toList[j]? :=fun j=>by simp[World.cell?,hg]
   have hcs:∀j v,(q0d xs)[j]? =some v->w.cell? ⟨g,j,none⟩=some v:=fun j v hj=>by
    rw[hcell,<-hj,<-ht,List.getElem?_take,if_pos]
    have:=(List.getElem?_eq_some_iff.1 hj).1
    omega
   have hvs:∀j v,(x.vals)[j]? =some v->w.cell? ⟨vb,j,none⟩=some v:=fun j v hj=>by rw[hv.cell];exact hj
   have hfz:∀j,w.frozen? ⟨g,j,none⟩=false:=fun j=>by simp[World.frozen?,hg]
   have h1v:∀v∈x.vals,v.oneCell'=true:=by
    have:=q2a [x]
    rwa [qcl] at this
   have hvl:x.vals.length=7:=rfl
   have e7:(i+1)*7=i*7+x.vals.length:=by rw[hvl];omega
   have e8:(xs.length+1)*7=(q0d xs).length+x.vals.length:=by rw[hvl,hil];omega
   have hlen:(q0d (xs.take i++x::xs.drop i)).length=(xs.length+1)*7:=by rw[q0u];simp;omega
   rw[qqy] at hlen ⊢
   generalize x.vals=vv at *
   by_cases hroom:xs.length+1<=C
   ·refine(qgy g xs.length C i vb vc (q0d xs) vv w hin hroom (by unfold maxLen at hm;omega) hvg hil hvl hcs (fun j hj=>by rw[hcell,List.getElem?_eq_getElem (by omega)];rfl) hfz hvs (q2a xs) h1v 84 84 7 (C*7)
     (by unfold World.shape?;rw[show w.heap[vb]? =_ from hv];simp[hvl]) (by unfold World.shape?;rw[hg];simp[hs]) (by omega) hv.frozen).mono ?_
    rintro e w' ⟨rfl,rfl⟩
    have h1:=q2j g 84 ((q0d xs).drop (i*7)) ((i+1)*7) cur w.drew hg
    have h2:=q2j g 84 vv (i*7) _ _ h1
    refine⟨_,_,rfl,qp2 hb h2 hroom hm (by simp[q3g,hs]) hlen ?_ ?_⟩
    ·rw[e7,e8]
     exact qp3 (by rw[hil];exact ht) (by omega) (by rw[hcl,hil,hvl];omega)
    ·exact(((Kept.refl _ w).drew).trans (q1p g _ _ _)).trans (q1p g _ _ _)
   ·refine(qi6 g xs.length C i vb vc (q0d xs) vv w hin hl (by omega) (by omega) hil hvl hcs hvs (q2a xs) h1v).mono ?_
    rintro e w' ⟨G,hG,hGm,rfl,rfl⟩
    have hRs:=qjh (i:=i) (Nat.le_of_lt hin) hil hG
    have hRt:=qsb (G:=G) (Nat.le_of_lt hin) hil
    generalize rowG (q0d xs) i xs.length G=ROW at hRs hRt ⊢
    have h0:(w.alloc (.cells ROW 84)).drew.heap[w.heap.size]? =some (.cells ROW 84 (0,0)):=heap_alloc_new w _
    have h1:=q2j w.heap.size 84 vv (i*7) ROW _ h0
    have h2:=q2j w.heap.size 84 ((q0d xs).drop (i*7)) ((i+1)*7) _ ((w.alloc (.cells ROW 84)).drew.setCells w.heap.size (i*7) vv).drew h1
    refine⟨_,_,rfl,qpy (by omega) h2 hG hGm (by simp[q3g,hRs]) hlen ?_ ?_⟩
    ·rw[e7,e8]
     exact qrf (cur:=ROW.toList) hRt (by omega) (by rw[hil,hvl];simp[hRs];omega)
    ·have k1:=(((Kept.refl [w.heap.size] w).alloc (.cells ROW 84)).drew.trans (q1p w.heap.size vv (i*7) _)).drew.trans (q1p w.heap.size ((q0d xs).drop (i*7)) ((i+1)*7) _)
     exact⟨k1.os,k1.tape,k1.output,k1.size,fun k hk _=>k1.block k hk (by simp;omega)⟩
 ·obtain rfl:i=xs.length:=by omega
  rw[List.take_length,List.drop_length]
  exact qll base A C vb vc xs x w ho hv hB hz

end
end Go.Proofs.YtlojfgdpmaigmahGreatDoor

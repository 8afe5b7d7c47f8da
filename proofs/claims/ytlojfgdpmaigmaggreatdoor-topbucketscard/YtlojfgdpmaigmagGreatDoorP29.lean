/- slices.Insert of one number, in a list of one's own. -/
import Derived.Shelf.Spec.SlicesInsertGrow
import Derived.Test.YtlojfgdpmaigmagGreatDoorLays
import Derived.Test.YtlojfgdpmaigmagGreatDoorP24
import Derived.Deep.RegionLaw
import Derived.Deep.DeepCutAuto
import Derived.Test.YtlojfgdpmaigmagGreatDoorP14
import Derived.Test.YtlojfgdpmaigmagGreatDoorP02
import Derived.BigQuiet
namespace Go.Proofs.YtlojfgdpmaigmagGreatDoor
section
open Go.RowKit Plain Go.Shelf

def ovr:List Value->Nat->List Value->List Value
 |l,_,[]=>l
 |l,o,v::r=>ovr (l.set o v) (o+1) r

theorem kW:∀(vs:List Value) (l:List Value) (o:Nat),(ovr l o vs).length=l.length
 |[],_,_=>rfl
 |v::r,l,o=>by rw[ovr,kW r];simp

theorem mJ:∀(vs:List Value) (l:List Value) (o j:Nat),o+vs.length<=l.length->(ovr l o vs)[j]? =if o<=j/\j<o+vs.length then vs[j-o]? else l[j]?
 |[],l,o,j,_=>by simp[ovr];omega
 |v::r,l,o,j,h=>by
  simp only[List.length_cons] at h ⊢;rw[ovr,mJ r _ _ _ (by simp;omega)]
  by_cases h1:j=o
  ·subst h1;rw[if_neg (by omega),if_pos (by omega),List.getElem?_set_self (by omega),Nat.sub_self]
   rfl
  ·by_cases h2:o+1<=j/\j<o+1+r.length
   ·rw[if_pos h2,if_pos (by omega),show j-o=(j-(o+1))+1 by omega,List.getElem?_cons_succ]
   ·rw[if_neg h2,if_neg (by omega),List.getElem?_set_ne (by omega)]

theorem qcb{cur cs:List Value}(ht:cur.take cs.length=cs){j:Nat}(hj:j<cs.length):cur[j]? =cs[j]? :=by
 have h:(cur.take cs.length)[j]? =cs[j]? :=by rw[ht]
 rwa [List.getElem?_take,if_pos hj] at h

theorem qi1(cs:List Value)(v:Value)(i j:Nat)(hi:i<=cs.length):(cs.take i++v::cs.drop i)[j]? =if j<i then cs[j]? else if j=i then some v else cs[j-1]? :=by
 have hl:(cs.take i).length=i:=by rw[List.length_take];omega
 by_cases h1:j<i
 ·rw[List.getElem?_append_left (by omega),List.getElem?_take,if_pos h1,if_pos h1]
 ·rw[List.getElem?_append_right (by omega),hl,if_neg h1]
  by_cases h2:j=i
  ·rw[if_pos h2,h2,Nat.sub_self];rfl
  ·rw[if_neg h2,show j-i=(j-1-i)+1 by omega,List.getElem?_cons_succ,List.getElem?_drop,show i+(j-1-i)=j-1 by omega]

theorem q6c{cur cs:List Value}{i:Nat}(v:Value)(ht:cur.take cs.length=cs)(hi:i<=cs.length)(hr:cs.length+1<=cur.length):(ovr (ovr cur (i+1) (cs.drop i)) i [v]).take (cs.length+1)=cs.take i++v::cs.drop i:=by
 apply List.ext_getElem?;intro j;rw[qi1 cs v i j hi,List.getElem?_take]
 by_cases hj:j<cs.length+1
 ·rw[if_pos hj,mJ _ _ _ _ (by rw[kW];simp;omega)]
  by_cases h1:j=i
  ·subst h1;rw[if_pos (by simp),if_neg (by omega),if_pos rfl]
   simp
  ·rw[if_neg (by simp;omega),mJ _ _ _ _ (by simp;omega)]
   by_cases h2:j<i
   ·rw[if_neg (by omega),if_pos h2,qcb ht (by omega)]
   ·rw[if_pos (by simp;omega),if_neg h2,if_neg h1,List.getElem?_drop,show i+(j-(i+1))=j-1 by omega]
 ·rw[if_neg hj,if_neg (by omega),if_neg (by omega),List.getElem?_eq_none (by omega)]

theorem qk8{cur cs:List Value}{i:Nat}(v:Value)(ht:cur.take i=cs.take i)(hi:i<=cs.length)(hr:cs.length+1<=cur.length):(ovr (ovr cur i [v]) (i+1) (cs.drop i)).take (cs.length+1)=cs.take i++v::cs.drop i:=by
 apply List.ext_getElem?;intro j;rw[qi1 cs v i j hi,List.getElem?_take]
 by_cases hj:j<cs.length+1
 ·rw[if_pos hj,mJ _ _ _ _ (by rw[kW];simp;omega)]
  by_cases h1:i+1<=j
  ·rw[if_pos (by simp;omega),if_neg (by omega),if_neg (by omega),List.getElem?_drop,show i+(j-(i+1))=j-1 by omega]
  ·rw[if_neg (by omega),mJ _ _ _ _ (by simp;omega)]
   by_cases h2:j<i
   ·rw[if_neg (by omega),if_pos h2]
    have h:(cur.take i)[j]? =(cs.take i)[j]? :=by rw[ht]
    rwa [List.getElem?_take,List.getElem?_take,if_pos h2,if_pos h2] at h
   ·obtain rfl:j=i:=by omega
    rw[if_pos (by simp),if_neg (by omega),if_pos rfl]
    simp
 ·rw[if_neg hj,if_neg (by omega),if_neg (by omega),List.getElem?_eq_none (by omega)]

theorem kU(g:Nat)(e:TypeId):∀(vs:List Value) (o:Nat) (cur:Array Value) (w:World),w.heap[g]? =some (.cells cur e (0,0))->(w.setCells g o vs).heap[g]? =some (.cells (ovr cur.toList o vs).toArray e (0,0))
 |[],o,cur,w,h=>by simpa [World.setCells,ovr] using h
 |v::r,o,cur,w,h=>by
  rw[World.setCells];have h1:(w.setCell ⟨g,o,none⟩ v).heap[g]? =some (.cells (cur.setIfInBounds o v) e (0,0)):=by simp[World.setCell,Array.getElem?_modify,h]
  have:=kU g e r (o+1) _ _ h1;rw[Array.toList_setIfInBounds] at this;exact this

theorem kS(g:Nat):∀(vs:List Value) (o:Nat) (w:World),Kept [g] w (w.setCells g o vs)
 |[],_,w=>Kept.refl _ _
 |v::r,o,w=>by
  rw[World.setCells];exact((Kept.refl [g] w).set (.inl (by simp)) v).trans (kS g r (o+1) _)

def obk(A:Option Addr):List Nat:=(A.map Addr.block).toList

structure gQ(base:Nat)(t:TypeId)(size n:Nat)(A A':Option Addr)(C':Nat)(vs:List Value)(w w':World):Prop where
 own:w'.ownsRow base t size (.slice A' n C') n vs
 kept:Kept (obk A) w w'
 lies:A'.map Addr.block=A.map Addr.block\/∃k,A'.map Addr.block=some k/\w.heap.size<=k

theorem Kept.mono{ex ex':List Nat}{w w':World}(h:Kept ex w w')(hs:∀k∈ex,k∈ex'):Kept ex' w w':=⟨h.os,h.tape,h.output,h.size,fun k hk hx=>h.block k hk (fun e=>hx (hs k e))⟩

theorem qqq(zs:List Int)(i:Nat):(ints zs).take i=ints (zs.take i):=by simp[ints]
theorem qr4(zs:List Int)(i:Nat):(ints zs).drop i=ints (zs.drop i):=by simp[ints]
theorem xJ(zs:List Int)(i:Nat)(z:Int):ints (zs.take i++z::zs.drop i)=(ints zs).take i++ .int .i64 z::(ints zs).drop i:=by simp[ints]
theorem qkp(zs:List Int):(ints zs).length=zs.length:=by simp[ints]

theorem q1l{base n C:Nat}{t:TypeId}{A:Option Addr}{vs:List Value}{w w':World}{cur:Array Value}(hb:base<=w.heap.size)(hg:w'.heap[w.heap.size]? =some (.cells cur t (0,0)))(hn:n<=C)(hm:C<=maxLen)(hs:cur.size=C)(hl:vs.length=n)(ht:cur.toList.take n=vs)
  (hk:Kept (obk A) w w'):gQ base t 1 n A (some ⟨w.heap.size,0,none⟩) C vs w w':=
 ⟨⟨by omega,.inr ⟨w.heap.size,C,cur,rfl,hb,hg,hn,hm,by omega,by rw[Nat.mul_one];exact ht⟩⟩,hk,.inr ⟨w.heap.size,rfl,Nat.le_refl _⟩⟩

theorem q6j{base n C g:Nat}{t:TypeId}{vs:List Value}{w w':World}{cur:Array Value}(hb:base<=g)(hg:w'.heap[g]? =some (.cells cur t (0,0)))(hn:n<=C)(hm:C<=maxLen)(hs:cur.size=C)(hl:vs.length=n)(ht:cur.toList.take n=vs)
  (hk:Kept [g] w w'):gQ base t 1 n (some ⟨g,0,none⟩) (some ⟨g,0,none⟩) C vs w w':=
 ⟨⟨by omega,.inr ⟨g,C,cur,rfl,hb,hg,hn,hm,by omega,by rw[Nat.mul_one];exact ht⟩⟩,hk,.inl rfl⟩

theorem oneI(z:Int):∀v∈([.int .i64 z]:List Value),v.oneCell'=true:=by
 intro v hv;obtain rfl:v=.int .i64 z:=by simpa using hv
 rfl

theorem q2g(base:Nat)(A:Option Addr)(C vb vc:Nat)(zs:List Int)(i:Nat)(z:Int)(w:World)(ho:w.ownsRow base 3 1 (.slice A zs.length C) zs.length (ints zs))(hi:i<=zs.length)(hv:RowL w vb 3 [.int .i64 z])(hvb:vb∉obk A)(hB:base<=w.heap.size)(hz:(zs.length+1)*8<=140737488351232):
  Calls Tryz.prog 171 #[.slice A zs.length C,.int .i64 (i:Int),.slice (some ⟨vb,0,none⟩) 1 vc] w
   fun e w'=>∃A' C',e=.returned (.slice A' (zs.length+1) C')/\gQ base 3 1 (zs.length+1) A A' C' (ints (zs.take i++z::zs.drop i)) w w':=by
 have hvs:∀j v,([.int .i64 z]:List Value)[j]? =some v->w.cell? ⟨vb,0+j,none⟩=some v:=fun j v hj=>by rw[Nat.zero_add,hv.cell];exact hj
 have hml:zs.length+1<=maxLen:=by unfold maxLen;omega
 rcases ho.2 with⟨hn,hn0⟩|⟨g,cap,cur,hn,hb,hg,hl,hm,hs,ht⟩
 ·obtain rfl:zs=[]:=List.eq_nil_of_length_eq_zero hn0;cases hn;obtain rfl:i=0:=by simpa using hi
  have hcon:=Any2.slices_Insert_int_end_grow Tryz.insertI none 0 0 vb 0 1 vc [] [.int .i64 z] w (by decide) (by decide) (by decide) (by decide) rfl rfl (fun _=>rfl) (fun a h=>by cases h) hvs (oneI z)
  change Calls Tryz.prog 171 _ _ _ at hcon
  refine hcon.mono ?_;rintro e w' ⟨rfl,rfl⟩;refine⟨_,_,rfl,q1l (cur:=_) hB (heap_alloc_new w.drew _) (grownCap_ge _ _ _ _) (grownCap_le_maxLen _ _ _ _ (by decide)) ?_ (by simp[ints]) ?_ ?_⟩
  ·have h:=grownCap_ge w (0+1) 0 3;show(([]++[Value.int .i64 z]:List Value).toArray++Builtin.zeroCells (Value.int .i64 0).cells (grownCap w (0+1) 0 3-(0+1))).size=grownCap w (0+1) 0 3;generalize grownCap w (0+1) 0 3=G at h ⊢;rw[Array.size_append,size_zeroCells];simp[Value.cells];omega
  ·simp[ints]
  ·exact((Kept.refl _ w).drew).alloc _
 ·simp only[Value.slice.injEq] at hn;obtain⟨rfl,-,rfl⟩:=hn;have hvg:vb≠g:=fun e=>hvb (by simp[obk,e])
  rw[Nat.mul_one] at hs ht;have hil:=qkp zs;have hcl:cur.toList.length=C:=by simpa using hs
  have hcell:∀j,w.cell? ⟨g,j,none⟩=cur.toList[j]? :=fun j=>by simp[World.cell?,hg]
  have hcs:∀j v,(ints zs)[j]? =some v->w.cell? ⟨g,0+j,none⟩=some v:=fun j v hj=>by
   rw[Nat.zero_add,hcell,<-hj,<-ht,List.getElem?_take,if_pos];have:=(List.getElem?_eq_some_iff.1 hj).1;omega
  have hfz:∀j,w.frozen? ⟨g,j,none⟩=false:=fun j=>by simp[World.frozen?,hg]
  by_cases hin:i<zs.length
  ·by_cases hroom:zs.length+1<=C
   ·have hcon:=Any2.slices_Insert_int_shift Tryz.insertI g 0 zs.length C i vb 0 1 vc (ints zs) [.int .i64 z] w hin (by decide) hroom (by unfold maxLen at hm;omega) hvg hil rfl hcs (fun j hj=>by rw[Nat.zero_add,hcell,List.getElem?_eq_getElem (by omega)];rfl) (fun j _=>hfz _) hvs (q5b zs) (oneI z) 3 3 1 C
     (by unfold World.shape?;rw[show w.heap[vb]? =_ from hv];rfl) (by unfold World.shape?;rw[hg];simp[hs]) (by omega) (hv.frozen _) (hv.frozen _)
    change Calls Tryz.prog 171 _ _ _ at hcon
    refine hcon.mono ?_;rintro e w' ⟨rfl,rfl⟩;have h1:=kU g 3 ((ints zs).drop i) (0+(i+1)) cur w.drew hg;have h2:=kU g 3 [.int .i64 z] (0+i) _ _ h1;refine⟨_,_,rfl,q6j hb h2 hroom hm (by simp[kW,hs]) (by simp[ints];omega) ?_ ?_⟩
    ·rw[xJ,Nat.zero_add,Nat.zero_add];have:=q6c (cur:=cur.toList) (cs:=ints zs) (i:=i) (.int .i64 z) (by rw[hil];exact ht) (by omega) (by omega)
     rw[hil] at this;exact this
    ·exact(((Kept.refl _ w).drew).trans (kS g _ _ _)).trans (kS g _ _ _)
   ·have hcon:=Any2.slices_Insert_int_grow Tryz.insertI g 0 zs.length C i vb 0 1 vc (ints zs) [.int .i64 z] w hin (by decide) hl (by omega) (by omega) hil rfl hcs hvs (q5b zs) (oneI z)
    change Calls Tryz.prog 171 _ _ _ at hcon
    refine hcon.mono ?_;rintro e w' ⟨rfl,rfl⟩;have hG:=grownCap_ge w (zs.length+1) C 3;have hGm:=grownCap_le_maxLen w (zs.length+1) C 3 hml;obtain⟨G,hGe⟩:∃G,G=grownCap w (zs.length+1) C 3:=⟨_,rfl⟩;rw[<-hGe] at hG hGm;show ∃A' C',Ending.returned (.slice (some ⟨w.heap.size,0,none⟩) (zs.length+1) (grownCap w (zs.length+1) C 3))=_/\gQ base 3 1 (zs.length+1) _ A' C' _ w ((((w.alloc (.cells (((ints zs).take i).toArray++Builtin.zeroCells (Value.int .i64 0).cells (zs.length+1-i)++Builtin.zeroCells (Value.int .i64 0).cells (grownCap w (zs.length+1) C 3-(zs.length+1))) 3)).drew.setCells w.heap.size i [.int .i64 z]).drew).setCells w.heap.size (i+1) ((ints zs).drop i));rw[<-hGe];obtain⟨ROW,hROW⟩:∃ROW:Array Value,ROW=((ints zs).take i).toArray++Builtin.zeroCells (Value.int .i64 0).cells (zs.length+1-i)++Builtin.zeroCells (Value.int .i64 0).cells (G-(zs.length+1)):=⟨_,rfl⟩
    have hRs:ROW.size=G:=by
     rw[hROW,Array.size_append,Array.size_append,size_zeroCells,size_zeroCells];simp[Value.cells,hil];omega
    have hRt:ROW.toList.take i=(ints zs).take i:=by
     rw[hROW,Array.toList_append,Array.toList_append,List.append_assoc];exact List.take_left' (by rw[List.length_take];omega)
    rw[<-hROW];have h0:(w.alloc (.cells ROW 3)).drew.heap[w.heap.size]? =some (.cells ROW 3 (0,0)):=heap_alloc_new w _;have h1:=kU w.heap.size 3 [.int .i64 z] i ROW _ h0;have h2:=kU w.heap.size 3 ((ints zs).drop i) (i+1) _ ((w.alloc (.cells ROW 3)).drew.setCells w.heap.size i [.int .i64 z]).drew h1;refine⟨_,_,rfl,q1l hB h2 hG hGm (by simp[kW,hRs]) (by simp[ints];omega) ?_ ?_⟩
    ·rw[xJ];have:=qk8 (cur:=ROW.toList) (cs:=ints zs) (i:=i) (.int .i64 z) hRt (by omega) (by simp[hRs,hil];omega)
     rw[hil] at this;exact this
    ·have hk:Kept (obk (some ⟨g,0,none⟩)) w ((((w.alloc (.cells ROW 3)).drew.setCells w.heap.size i [.int .i64 z]).drew).setCells w.heap.size (i+1) ((ints zs).drop i)):=by
      have k1:=(((Kept.refl [w.heap.size] w).alloc (.cells ROW 3)).drew.trans (kS w.heap.size [.int .i64 z] i _)).drew.trans (kS w.heap.size ((ints zs).drop i) (i+1) _);exact⟨k1.os,k1.tape,k1.output,k1.size,fun k hk _=>k1.block k hk (by simp;omega)⟩
     exact hk
  ·obtain rfl:i=zs.length:=by omega
   by_cases hroom:zs.length+1<=C
   ·have hcon:=Any2.slices_Insert_int_end_room Tryz.insertI g 0 zs.length C vb 0 1 vc [.int .i64 z] w (by decide) hroom (by unfold maxLen at hm;omega) rfl (fun j hj=>by rw[Nat.zero_add,hcell,List.getElem?_eq_getElem (by omega)];rfl) (fun j _=>hfz _) hvs (oneI z)
    change Calls Tryz.prog 171 _ _ _ at hcon
    refine hcon.mono ?_;rintro e w' ⟨rfl,rfl⟩;have h2:=kU g 3 [.int .i64 z] (0+zs.length) cur w hg;refine⟨_,_,rfl,q6j hb h2 hroom hm (by simp[kW,hs]) (by simp[ints]) ?_ (kS g _ _ _)⟩
    rw[xJ,Nat.zero_add];have:=q6c (cur:=cur.toList) (cs:=ints zs) (i:=zs.length) (.int .i64 z) (by rw[hil];exact ht) (by omega) (by omega)
    rw[hil,List.drop_of_length_le (by omega)] at this
    rw[List.drop_of_length_le (by omega)]
    exact this
   ·have hcon:=Any2.slices_Insert_int_end_grow Tryz.insertI (some ⟨g,0,none⟩) zs.length C vb 0 1 vc (ints zs) [.int .i64 z] w (by decide) hl (by omega) (by omega) hil rfl (fun h=>by cases h) (fun a ha j v hj=>by cases ha;rw[Addr.add_lit];exact hcs j v hj) hvs (oneI z)
    change Calls Tryz.prog 171 _ _ _ at hcon
    refine hcon.mono ?_;rintro e w' ⟨rfl,rfl⟩;have hG:=grownCap_ge w (zs.length+1) C 3;have hGm:=grownCap_le_maxLen w (zs.length+1) C 3 hml;refine⟨_,_,rfl,q1l (cur:=_) hB (heap_alloc_new w.drew _) hG hGm ?_ (by simp[ints]) ?_ (((Kept.refl _ w).drew).alloc _)⟩
    ·show((ints zs++[Value.int .i64 z]).toArray++Builtin.zeroCells (Value.int .i64 0).cells (grownCap w (zs.length+1) C 3-(zs.length+1))).size=grownCap w (zs.length+1) C 3;rw[Array.size_append,size_zeroCells];simp[Value.cells,hil];omega
    ·have e1:(ints zs).take zs.length=ints zs:=List.take_of_length_le (by omega)
     have e2:(ints zs).drop zs.length=[]:=List.drop_of_length_le (by omega)
     rw[xJ,e1,e2,Array.toList_append];exact List.take_left' (by simp[hil])

end
section
open Go.RowKit Plain

theorem qrw(w:World)(q:PN)(o1:Obj)(t:TypeId):∀j u,(bK [q])[j]? =some u->((w.alloc o1).drew.alloc (.cells #[.bool q.leaf,.slice q.eA q.ents.length q.eC,.slice q.kA q.keys.length q.kC,.slice q.dA q.kids.length q.dC,.slice q.bA q.buf.length q.bC] t)).cell? (Addr.add ⟨w.heap.size+1,0,none⟩ j)=some u:=by
 have h:=aG (w.alloc o1).drew q.vals t;have e:(w.alloc o1).drew.heap.size=w.heap.size+1:=by simp
 rw[e] at h;exact qsg _ _ _ q h

theorem qo1{base tb g C g' C':Nat}{qs:List PN}{root:Int}{q:PN}{w W w1:World}(hT:TB base w tb g C qs root)(hq:q.own base w)(hqn:q.blocks.Nodup)(hqd:∀b∈q.blocks,b∉feet g qs)(hqt:tb∉q.blocks)(hz:(qs.length+1)*104<=140737488351232)
  (hW:Below w.heap.size w W) (hown:w1.ownsRow base 138 5 (.slice (some ⟨g',0,none⟩) (qs.length+1) C') (qs.length+1) (bK qs++bK [q])) (hgrow:W.grownBy w1 (Value.slice (some ⟨g,0,none⟩) qs.length C).ownBlock) (hat:(Value.slice (some ⟨g,0,none⟩) qs.length C).ownBlock=some g'\/g'=w.heap.size+2):
  TB base (w1.setCell ⟨tb,0,none⟩ (.slice (some ⟨g',0,none⟩) (qs.length+1) C')) tb g' C' (qs++[q]) root/\Kept [tb,g] w (w1.setCell ⟨tb,0,none⟩ (.slice (some ⟨g',0,none⟩) (qs.length+1) C'))/\(g'=g\/w.heap.size<=g'):=by
 have hat':g'=g\/g'=w.heap.size+2:=by
  rcases hat with h|h
  ·left;simpa [Value.ownBlock] using h.symm
  ·exact .inr h
 have htg:tb≠g:=fun e=>hT.ne (e▸List.mem_cons_self)
 have htl:=hT.box.lt;have hk1:∀k,k<w.heap.size->k≠g->w1.heap[k]? =w.heap[k]? :=fun k hk hne=>(hgrow.block k (Nat.lt_of_lt_of_le hk hW.size) (by simpa [Value.ownBlock] using hne)).trans (hW.block k hk)
 have hk2:∀k,k≠tb->(w1.setCell ⟨tb,0,none⟩ (.slice (some ⟨g',0,none⟩) (qs.length+1) C')).heap[k]? =w1.heap[k]? :=fun k hne=>Below.heap_setCell _ _ _ _ hne
 have hg't:g'≠tb:=by rcases hat' with rfl|rfl<;>omega
 have hfl:=hT.nt.lt;have hap:=hT.nt.apart;have hgn:g∉qs.flatMap PN.blocks:=by rw[feet,List.nodup_cons] at hap;exact hap.1
 refine⟨⟨⟨?_,fun x hx=>?_,?_,by simpa using hz⟩,?_,?_,hT.hb⟩,⟨hgrow.os.trans hW.os,hgrow.tape.trans hW.tape,hgrow.output.trans hW.output,?_,fun k hk hx=>?_⟩,by omega⟩
 ·rw[sN,List.length_append];exact aV hown fun k hk=>hk2 k (by have:g'=k:=(by simpa [Value.ownBlock] using hk);omega)
 ·rcases List.mem_append.1 hx with hx|hx
  ·refine(hT.nt.each x hx).of_blocks fun k hk=>?_
   have hm:k∈feet g qs:=List.mem_cons_of_mem _ (List.mem_flatMap.2 ⟨x,hx,hk⟩);rw[hk2 k (fun e=>hT.ne (e▸hm)),hk1 k (hfl k hm).2 (fun e=>hgn (e▸List.mem_flatMap.2 ⟨x,hx,hk⟩))]
  ·obtain rfl:x=q:=by simpa using hx
   refine hq.of_blocks fun k hk=>?_
   rw[hk2 k (fun e=>hqt (e▸hk)),hk1 k (hq.lt k hk).2 (fun e=>hqd k hk (e▸List.mem_cons_self))]
 ·refine q9s hap hqn hqd ?_;rcases hat' with h|h
  ·exact .inl h
  ·refine .inr ⟨fun e=>?_,fun e=>?_⟩
   ·have:=(hfl _ e).2;omega
   ·have:=(hq.lt _ e).2;omega
 ·have hr:RowL w1 tb 32 [.slice (some ⟨g,0,none⟩) qs.length C,.int .i64 root]:=hT.box.of_block (hk1 tb htl htg);rw[List.length_append];exact hr.set 0 _
 ·unfold feet;simp only[List.flatMap_append,List.flatMap_cons,List.flatMap_nil,List.append_nil,List.mem_cons,List.mem_append,not_or];refine⟨fun e=>hg't e.symm,fun e=>hT.ne (List.mem_cons_of_mem _ e),hqt⟩
 ·have h1:=hgrow.size;have h2:=hW.size;simp;omega
 ·simp only[List.mem_cons,List.not_mem_nil,or_false,not_or] at hx;rw[hk2 k hx.1,hk1 k hk hx.2]

set_option maxRecDepth 20000 in
set_option maxHeartbeats 4000000 in
theorem q9i(base tb g C:Nat)(qs:List PN)(root:Int)(q:PN)(w:World)(hT:TB base w tb g C qs root)(hq:q.own base w)(hqn:q.blocks.Nodup)(hqd:∀b∈q.blocks,b∉feet g qs)(hqt:tb∉q.blocks)(hz:(qs.length+1)*104<=140737488351232)(hB:base<=w.heap.size):
  Calls Tryz.prog 145 #[.pointer (some ⟨tb,0,none⟩),.agg #[.bool q.leaf,.slice q.eA q.ents.length q.eC,.slice q.kA q.keys.length q.kC,.slice q.dA q.kids.length q.dC,.slice q.bA q.buf.length q.bC]] w
   fun e w'=>e=.returned (.int .i64 (qs.length:Int))/\∃g' C',TB base w' tb g' C' (qs++[q]) root/\Kept [tb,g] w w'/\(g'=g\/w.heap.size<=g'):=by
 obtain⟨i0,hi0,hz0,hz1,hz2⟩:=info_parts qpv;have own:=hT.nt.own;have HT:Hid (TB base w tb g C qs root):=hT;have c0:=hT.box.cell 0;have c1:=hT.box.cell 1;have fz:=hT.box.frozen;have tlt:=hT.box.lt;have glt:=hT.nt.glt.2;simp only[List.getElem?_cons_zero,List.getElem?_cons_succ] at c0 c1;have HN:Hid (tb≠g):=fun e=>hT.ne (e▸List.mem_cons_self)
 have HM:Hid (some tb≠(Value.slice (some ⟨g,0,none⟩) qs.length C).ownBlock):=fun e=>HN.out (by simpa [Value.ownBlock] using e)
 have hb2:∀o1 o2:Obj,Below w.heap.size w ((w.alloc o1).drew.alloc o2):=fun o1 o2=>(((Below.refl _ _).alloc (Nat.le_refl _) _).drew).alloc (by simp) _
 clear hT
 go_enter Tryz.func145,Tryz.ntmps145
 go_wp2_with fail
 go_region_law (refine step_append_lies _ rfl (.tmp 9) (.tmp 11) 30 rfl base 138 i0 _ 5 104 Tryz.underlying30 hi0 hz0 hz1 hz2 rfl (by decide) (.slice (some ⟨g,0,none⟩) qs.length C) qs.length (bK qs) (by simp[Act.eval]) (dI own ((((Below.refl _ _).alloc (Nat.le_refl _) _).drew).alloc (by simp) _)) ⟨w.heap.size+1,0,none⟩ 1 1 (bK [q]) (by simp[Act.eval]) rfl (qrw w q _ _) (qey _) (by decide) (by unfold maxLen;omega) (by omega) (by simp;omega) (w.heap.size+2) (by simp) ?_;intro g' C' w1 hown1 hgrow1 hat1 hlt1;have cv1:w1.cell? ⟨tb,0,none⟩=some (.slice (some ⟨g,0,none⟩) qs.length C):=(hgrow1.cell_far ⟨tb,0,none⟩ (by simp;omega) HM.out).trans ((hb2 _ _).cell (p:=⟨tb,0,none⟩) tlt |>.trans c0);have fv1:w1.frozen? ⟨tb,0,none⟩=false:=(hgrow1.frozen_far ⟨tb,0,none⟩ (by simp;omega) HM.out).trans ((hb2 _ _).frozen (p:=⟨tb,0,none⟩) tlt |>.trans (fz 0));have HR:=aA (And.intro hown1 (And.intro hgrow1 hat1));clear hown1 hgrow1 hat1)
 all_goals
  go_wp2;go_ret;obtain⟨hown1,hgrow1,hat1⟩:=HR.out;have R:=qo1 HT.out hq hqn hqd hqt hz (hb2 _ _) hown1 hgrow1 hat1;exact⟨iM (by omega),_,_,R⟩

end
section
open Go.RowKit Plain

def fZ:List (Int × Int)->List Value
 |[]=>[]
 |(k,p)::r=>.int .i64 k:: .int .i64 p::fZ r

theorem q0s:∀l:List (Int × Int),(fZ l).length=l.length*2
 |[]=>rfl
 |(k,p)::r=>by simp[fZ,q0s r];omega

theorem q2c:∀(l:List (Int × Int)) (k:Nat) (hk:k<l.length),(fZ l)[k*2]? =some (.int .i64 l[k].1)/\(fZ l)[k*2+1]? =some (.int .i64 l[k].2)
 |(a,b)::r,0,_=>⟨rfl,rfl⟩
 |(a,b)::r,k+1,hk=>by
  have:=q2c r k (by simpa using hk)
  simp only[fZ,List.getElem_cons_succ];rw[show(k+1)*2=k*2+1+1 by omega,show k*2+1+1+1=(k*2+1)+1+1 by omega]
  simpa using this

theorem q1b:∀a b:List (Int × Int),fZ (a++b)=fZ a++fZ b
 |[],_=>rfl
 |(_,_)::r,b=>by simp[fZ,q1b r b]

def oP(x:Nd)(i:Nat)(more:List (Int × Int)):Nd:={ x with keys:=x.keys.take i++more.map (·.1)++x.keys.drop i,kids:=x.kids.take (i+1)++more.map (·.2)++x.kids.drop (i+1) }

def iV(keys:List Int)(i:Nat)(more:List (Int × Int))(k:Nat):List Int:=keys.take i++(more.take k).map (·.1)++keys.drop i
def iU(kids:List Int)(i:Nat)(more:List (Int × Int))(k:Nat):List Int:=kids.take (i+1)++(more.take k).map (·.2)++kids.drop (i+1)

theorem qln(l a:List Int)(z:Int)(i:Nat)(hi:i<=l.length):(l.take i++a++l.drop i).take (i+a.length)++z::(l.take i++a++l.drop i).drop (i+a.length)=l.take i++(a++[z])++l.drop i:=by
 have hl:(l.take i++a).length=i+a.length:=by simp;omega
 rw[<-hl,List.take_left,List.drop_left];simp

theorem q8s{keys:List Int}{i k:Nat}{more:List (Int × Int)}(hi:i<=keys.length)(hk:k<more.length):(iV keys i more k).take (i+k)++more[k].1::(iV keys i more k).drop (i+k)=iV keys i more (k+1):=by
 have h:=qln keys ((more.take k).map (·.1)) more[k].1 i hi;rw[show((more.take k).map (·.1)).length=k by simp;omega] at h
 unfold iV;rw[h,List.take_succ_eq_append_getElem hk,List.map_append]
 rfl

theorem q9p{kids:List Int}{i k:Nat}{more:List (Int × Int)}(hi:i+1<=kids.length)(hk:k<more.length):(iU kids i more k).take (i+k+1)++more[k].2::(iU kids i more k).drop (i+k+1)=iU kids i more (k+1):=by
 have h:=qln kids ((more.take k).map (·.2)) more[k].2 (i+1) hi;rw[show((more.take k).map (·.2)).length=k by simp;omega] at h
 unfold iU;rw[show i+k+1=i+1+k by omega,h,List.take_succ_eq_append_getElem hk,List.map_append]
 rfl

theorem q0b{keys:List Int}{i k:Nat}{more:List (Int × Int)}(hk:k<=more.length):(iV keys i more k).length=keys.length+k:=by
 simp[iV];omega
theorem q0e{kids:List Int}{i k:Nat}{more:List (Int × Int)}(hk:k<=more.length):(iU kids i more k).length=kids.length+k:=by
 simp[iU];omega

structure AdAt(base:Nat)(w:World)(nb no:Nat)(t:TypeId)(vs:List Value)(kA0 dA0:Option Addr)(wr:World)(kA:Option Addr)(kC:Nat)(keys:List Int)(dA:Option Addr)(dC:Nat)(kids:List Int):Prop where
 row:RowL wr nb t ((vs.set (no+2) (.slice kA keys.length kC)).set (no+3) (.slice dA kids.length dC))
 ok:wr.ownsRow base 3 1 (.slice kA keys.length kC) keys.length (ints keys)
 od:wr.ownsRow base 3 1 (.slice dA kids.length dC) kids.length (ints kids)
 kept:Kept (nb::obk kA0++obk dA0) w wr
 lk:∀k∈obk kA,k∈obk kA0\/w.heap.size<=k
 ld:∀k∈obk dA,k∈obk dA0\/w.heap.size<=k
 ne:∀k∈obk kA,k∉obk dA
 nk:nb∉obk kA
 nd:nb∉obk dA

theorem jO{A:Option Addr}{n C k:Nat}(h:(Value.slice A n C).ownBlock=some k):k∈obk A:=by
 cases A with
 |none=>cases h
 |some a=>simpa [obk,Value.ownBlock,eq_comm] using h

theorem AdAt.lt{base:Nat}{w:World}{nb no:Nat}{t:TypeId}{vs:List Value}{kA0 dA0:Option Addr}{wr:World}{kA:Option Addr}{kC:Nat}{keys:List Int}{dA:Option Addr}{dC:Nat}{kids:List Int}(h:AdAt base w nb no t vs kA0 dA0 wr kA kC keys dA dC kids):
  (∀k∈obk kA,k<wr.heap.size)/\∀k∈obk dA,k<wr.heap.size:=by
 constructor
 ·intro k hk;refine(gV h.ok k ?_).2
  simpa [obk] using hk
 ·intro k hk;refine(gV h.od k ?_).2
  simpa [obk] using hk

theorem AdAt.below{base:Nat}{w:World}{nb no:Nat}{t:TypeId}{vs:List Value}{kA0 dA0:Option Addr}{wr w':World}{kA:Option Addr}{kC:Nat}{keys:List Int}{dA:Option Addr}{dC:Nat}{kids:List Int}(h:AdAt base w nb no t vs kA0 dA0 wr kA kC keys dA dC kids)(hb:Below wr.heap.size wr w'):
  AdAt base w nb no t vs kA0 dA0 w' kA kC keys dA dC kids:=
 ⟨h.row.below hb h.row.lt,dI h.ok hb,dI h.od hb,h.kept.trans (Kept.of_below hb),h.lk,h.ld,h.ne,h.nk,h.nd⟩

theorem Kept.step{ex ex2:List Nat}{w wr w':World}(h:Kept ex w wr)(k:Kept ex2 wr w')(hs:∀b∈ex2,b∈ex\/w.heap.size<=b):Kept ex w w':=
 ⟨k.os.trans h.os,k.tape.trans h.tape,k.output.trans h.output,Nat.le_trans h.size k.size,fun i hi hx=>(k.block i (Nat.lt_of_lt_of_le hi h.size) (fun e=>by rcases hs i e with e|e;exact hx e;omega)).trans (h.block i hi hx)⟩

theorem mem_obk{A:Option Addr}{k:Nat}:k∈obk A↔A.map Addr.block=some k:=by simp[obk]

section
variable {base : Nat} {w : World} {nb no : Nat} {t : TypeId} {vs : List Value} {kA0 dA0 : Option Addr} {wr W w1 : World} {kA : Option Addr} {kC : Nat} {keys : List Int} {dA : Option Addr} {dC : Nat} {kids : List Int}

theorem AdAt.putK(h:AdAt base w nb no t vs kA0 dA0 wr kA kC keys dA dC kids)(hW:Below wr.heap.size wr W){n kC':Nat}{kA':Option Addr}{keys':List Int}(hm:gQ base 3 1 n kA kA' kC' (ints keys') W w1)(hn:keys'.length=n):
  AdAt base w nb no t vs kA0 dA0 (w1.setCell ⟨nb,no+2,none⟩ (.slice kA' n kC')) kA' kC' keys' dA dC kids:=by
 subst hn;have H:=h.below hW;have hnl:=H.row.lt;have hws:=H.kept.size
 have hlies:∀k∈obk kA',k∈obk kA\/W.heap.size<=k:=by
  intro k hk;rw[mem_obk] at hk;rcases hm.lies with e|⟨k',e,hk'⟩
  ·left;rw[mem_obk,<-e];exact hk
  ·rw[e] at hk;cases hk;exact .inr hk'
 have hnk':nb∉obk kA':=fun e=>by
  rcases hlies nb e with e|e
  ·exact H.nk e
  ·omega
 have hrow:RowL w1 nb t ((vs.set (no+2) (.slice kA keys.length kC)).set (no+3) (.slice dA kids.length dC)):=H.row.of_block (hm.kept.block nb hnl H.nk);have hset:∀k,k≠nb->(w1.setCell ⟨nb,no+2,none⟩ (.slice kA' keys'.length kC')).heap[k]? =w1.heap[k]? :=fun k hk=>Below.heap_setCell _ _ _ _ hk
 refine⟨?_,?_,?_,?_,?_,h.ld,?_,hnk',h.nd⟩
 ·have:=hrow.set (no+2) (.slice kA' keys'.length kC')
  rwa [List.set_comm _ _ (by omega),List.set_set] at this
 ·exact aV hm.own fun k hk=>hset k (fun e=>hnk' (e▸jO hk))
 ·refine aV H.od fun k hk=>?_
  have hk':=jO hk;rw[hset k (fun e=>H.nd (e▸hk'))]
  exact hm.kept.block k (H.lt.2 k hk') (fun e=>H.ne k e hk')
 ·refine(H.kept.step hm.kept fun k hk=>?_).set (.inl (by simp)) _
  rcases h.lk k hk with e|e
  ·exact .inl (by simp[e])
  ·exact .inr e
 ·intro k hk;rcases hlies k hk with e|e
  ·exact h.lk k e
  ·exact .inr (by omega)
 ·intro k hk hd;rcases hlies k hk with e|e
  ·exact h.ne k e hd
  ·have:=H.lt.2 k hd;omega

theorem AdAt.putD(h:AdAt base w nb no t vs kA0 dA0 wr kA kC keys dA dC kids)(hW:Below wr.heap.size wr W){n dC':Nat}{dA':Option Addr}{kids':List Int}(hm:gQ base 3 1 n dA dA' dC' (ints kids') W w1)(hn:kids'.length=n):
  AdAt base w nb no t vs kA0 dA0 (w1.setCell ⟨nb,no+3,none⟩ (.slice dA' n dC')) kA kC keys dA' dC' kids':=by
 subst hn;have H:=h.below hW;have hnl:=H.row.lt;have hws:=H.kept.size
 have hlies:∀k∈obk dA',k∈obk dA\/W.heap.size<=k:=by
  intro k hk;rw[mem_obk] at hk;rcases hm.lies with e|⟨k',e,hk'⟩
  ·left;rw[mem_obk,<-e];exact hk
  ·rw[e] at hk;cases hk;exact .inr hk'
 have hnd':nb∉obk dA':=fun e=>by
  rcases hlies nb e with e|e
  ·exact H.nd e
  ·omega
 have hrow:RowL w1 nb t ((vs.set (no+2) (.slice kA keys.length kC)).set (no+3) (.slice dA kids.length dC)):=H.row.of_block (hm.kept.block nb hnl H.nd);have hset:∀k,k≠nb->(w1.setCell ⟨nb,no+3,none⟩ (.slice dA' kids'.length dC')).heap[k]? =w1.heap[k]? :=fun k hk=>Below.heap_setCell _ _ _ _ hk
 refine⟨?_,?_,?_,?_,h.lk,?_,?_,h.nk,hnd'⟩
 ·have:=hrow.set (no+3) (.slice dA' kids'.length dC')
  rwa [List.set_set] at this
 ·refine aV H.ok fun k hk=>?_
  have hk':=jO hk;rw[hset k (fun e=>H.nk (e▸hk'))]
  exact hm.kept.block k (H.lt.1 k hk') (H.ne k hk')
 ·exact aV hm.own fun k hk=>hset k (fun e=>hnd' (e▸jO hk))
 ·refine(H.kept.step hm.kept fun k hk=>?_).set (.inl (by simp)) _
  rcases h.ld k hk with e|e
  ·exact .inl (by simp[e])
  ·exact .inr e
 ·intro k hk;rcases hlies k hk with e|e
  ·exact h.ld k e
  ·exact .inr (by omega)
 ·intro k hk hd;rcases hlies k hd with e|e
  ·exact h.ne k hk e
  ·have:=H.lt.1 k hk;omega
end

end
section
open Go.RowKit Plain

def iT(ns:List Nd)(p:Int)(i:Nat)(more:List (Int × Int)):List Nd:=ns.set p.toNat (oP (nth ns p) i more)

def iY(rec:List Nd->Int->List Nd × List (Int × Int))(p:Int):Nat->List Nd->List Nd
 |0,ns=>ns
 |i+1,ns=>iY rec p i (iT (rec ns ((nth ns p).kids.getD i 0)).1 p i (rec ns ((nth ns p).kids.getD i 0)).2)

def bI:Nat->List Nd->Int->List Nd × List (Int × Int)
 |0,ns,p=>aQ ns p
 |h+1,ns,p=>aQ (iY (bI h) p (nth ns p).kids.length ns) p

theorem qew{α β:Type}{a a':List α}{b b':List β}(h:a.length=b.length):(a++a').zip (b++b')=a.zip b++a'.zip b':=List.zip_append h

theorem qem{kids keys places mkeys:List Int}{hi:Int}{i:Nat}(hk:keys.length+1=kids.length)(hi':i<kids.length)(hl:places.length=mkeys.length):
  ups (kids.take (i+1)++places++kids.drop (i+1)) (keys.take i++mkeys++keys.drop i) hi=(ups kids keys hi).take i++ups (kids[i]::places) mkeys ((keys++[hi])[i]'(by simp;omega))++(ups kids keys hi).drop (i+1):=by
 unfold ups;have hlk:i<(keys++[hi]).length:=by simp;omega
 have e1:kids.take (i+1)=kids.take i++[kids[i]]:=List.take_succ_eq_append_getElem hi'
 have e2:keys.drop i++[hi]=(keys++[hi])[i]::(keys++[hi]).drop (i+1):=by
  rw[<-List.drop_eq_getElem_cons hlk,List.drop_append_of_le_length (by omega)]
 have e3:(keys++[hi]).take i=keys.take i:=List.take_append_of_le_length (by omega)
 have l1:(kids.take i).length=(keys.take i).length:=by simp;omega
 have a1:kids.take (i+1)++places++kids.drop (i+1)=kids.take i++((kids[i]::places)++kids.drop (i+1)):=by rw[e1,List.append_assoc,List.append_assoc];rfl
 have a2:keys.take i++mkeys++keys.drop i++[hi]=keys.take i++((mkeys++[(keys++[hi])[i]])++(keys++[hi]).drop (i+1)):=by
  rw[List.append_assoc,List.append_assoc,e2];simp
 rw[a1,a2,qew l1,qew (by simp[hl]),q1x,q1z,e3,List.append_assoc]

theorem vO{ns:List Nd}{p:Int}{y:Nd}(h0:0<=p)(h1:p<ns.length):nth (ns.set p.toNat y) p=y:=by
 unfold nth;rw[List.getD_eq_getElem?_getD,List.getElem?_set_self (by omega)]
 rfl
theorem sO{ns:List Nd}{p n:Int}{y:Nd}(h0:0<=p)(hn:0<=n)(hne:n≠p):nth (ns.set p.toNat y) n=nth ns n:=by
 unfold nth;rw[List.getD_eq_getElem?_getD,List.getD_eq_getElem?_getD,List.getElem?_set_ne (by omega)]

theorem qct{ns:List Nd}{p:Int}{i:Nat}{more:List (Int × Int)}(h0:0<=p)(h1:p<ns.length):((iT ns p i more).flatMap cont).Perm (ns.flatMap cont):=by
 have hx:ns[p.toNat]'(by omega)=nth ns p:=by
  unfold nth;rw[List.getD_eq_getElem?_getD,List.getElem?_eq_getElem (by omega)]
  rfl
 have:=qbh (ns:=ns) (xs:=[]) (i:=p.toNat) (y:=oP (nth ns p) i more) (by omega) (by rw[hx];simp[cont,oP])
 simpa [iT] using this

structure lH(mL:Nat)(ns0 ns:List Nd)(h:Nat)(p lo hi:Int)(P:List Int)(x:Nd)(i:Nat):Prop where
 len:i<=x.kids.length
 at':∃kids keys:List Int,∃T:List (Int × Int),∃Q1 Q2:List Int,nth ns p={ x with kids:=kids,keys:=keys }/\keys.length+1=kids.length/\x.kids.length<=kids.length/\kids.take i=x.kids.take i/\ups kids keys hi=(ups x.kids x.keys hi).take i++T/\
  SubK (Sub mL 4 ns h) lo ((ups x.kids x.keys hi).take i) Q1/\SubK (Sub 6 4 ns h) (endU lo ((ups x.kids x.keys hi).take i)) T Q2/\(p::(Q1++Q2)).Perm (P++aS ns0.length (ns.length-ns0.length))
 le:ns0.length<=ns.length
 same:∀n,n∉P->0<=n->n<ns0.length->nth ns n=nth ns0 n
 cont:(ns.flatMap cont).Perm (ns0.flatMap cont)

theorem sJ{kids keys:List Int}{hi:Int}{i:Nat}(hk:keys.length+1=kids.length)(hi':i<kids.length):(ups kids keys hi).take (i+1)=(ups kids keys hi).take i++[(kids[i],(keys++[hi])[i]'(by simp;omega))]:=by
 have hl:i<(ups kids keys hi).length:=by simp[ups];omega
 rw[List.take_succ_eq_append_getElem hl];congr 2;exact(List.getElem?_eq_some_iff.1 (qgs hk hi')).2

theorem q5y{mL:Nat}{ns0 ns:List Nd}{h:Nat}{p lo hi:Int}{P:List Int}{x:Nd}{i:Nat}{R:List Nd × List (Int × Int)}(hx:x.keys.length+1=x.kids.length)(hp0:0<=p)(hp1:p<ns0.length)(hpP:p∈P)(hP:P.Nodup)(hPr:∀n∈P,0<=n/\n<ns0.length)
  (hK:lH mL ns0 ns h p lo hi P x (i+1)) (hR:∀lo u Qd,Sub mL 4 ns h ((nth ns p).kids.getD i 0) lo u Qd->Qd.Nodup->rE ns R.1 h ((nth ns p).kids.getD i 0) lo u Qd R.2):
  lH mL ns0 (iT R.1 p i R.2) h p lo hi P x i:=by
 obtain⟨kids,keys,T,Q1,Q2,hn,hkl,hle,htk,hU,s1,s2,hpm⟩:=hK.at';have hix:i<x.kids.length:=hK.len;have hik:i<kids.length:=by omega
 have hd:(nth ns p).kids.getD i 0=x.kids[i]:=by
  have e:kids[i]=x.kids[i]:=by
   have h1:(kids.take (i+1))[i]? =(x.kids.take (i+1))[i]? :=by rw[htk]
   rw[List.getElem?_take,List.getElem?_take,if_pos (by omega),if_pos (by omega),List.getElem?_eq_getElem hik,List.getElem?_eq_getElem hix] at h1
   simpa using h1
  rw[hn];simp[hik,e]
 rw[hd] at hR;rw[sJ hx hix,SubK_append] at s1;obtain⟨Qa,Qd,rfl,s1a,Qd',Qe,rfl,s1d,hQe⟩:=s1;cases hQe;rw[List.append_nil] at hpm;rw[sJ hx hix,q5i] at s2
 have hnd:(p::(Qa++Qd'++Q2)).Nodup:=hpm.nodup_iff.2 (List.nodup_append.2 ⟨hP,lS _ _,fun a ha b hb e=>by
  have h1:=(hPr a ha).2;have h2:=(placesF_mem.1 hb).1;omega⟩)
 have hnd2:=hnd;rw[List.nodup_cons,List.nodup_append,List.nodup_append] at hnd;obtain⟨hpn,⟨na,nd',nad⟩,n2,nad2⟩:=hnd;have hs:=hR _ _ _ s1d nd';obtain⟨Q',t1,t2⟩:=hs.sub;have hsle:=hs.le;have hle0:=hK.le;have hpn':p∉Qd':=fun e=>hpn (by simp[e])
 have hpl:p<ns.length:=by omega
 have hpR:nth R.1 p=nth ns p:=hs.same p hpn' hp0 hpl;have hpRl:p<R.1.length:=by omega
 have hnR:nth (iT R.1 p i R.2) p=oP (nth R.1 p) i R.2:=vO hp0 hpRl;have hfar:∀n,0<=n->n≠p->nth (iT R.1 p i R.2) n=nth R.1 n:=fun n h0 hne=>sO hp0 h0 hne
 have hlen:(iT R.1 p i R.2).length=R.1.length:=by simp[iT]
 have hr1:=qO s1a;have hr2:=qO s2;have hml:(R.2.map (·.2)).length=(R.2.map (·.1)).length:=by simp
 refine⟨by omega,⟨kids.take (i+1)++R.2.map (·.2)++kids.drop (i+1),keys.take i++R.2.map (·.1)++keys.drop i,ups (x.kids[i]::R.2.map (·.2)) (R.2.map (·.1)) ((x.keys++[hi])[i]'(by simp;omega))++T,Qa,Q'++Q2,?_,?_,?_,?_,?_,?_,?_,?_⟩,by omega,?_,?_⟩
 ·rw[hnR,hpR,hn]
  rfl
 ·simp;omega
 ·simp;omega
 ·rw[List.append_assoc,List.take_append_of_le_length (by simp;omega),List.take_take,Nat.min_eq_left (by omega)]
  have:=congrArg (List.take i) htk
  rwa [List.take_take,List.take_take,Nat.min_eq_left (by omega)] at this
 ·have hkd:kids[i]=x.kids[i]:=by
   have h1:(kids.take (i+1))[i]? =(x.kids.take (i+1))[i]? :=by rw[htk]
   rw[List.getElem?_take,List.getElem?_take,if_pos (by omega),if_pos (by omega),List.getElem?_eq_getElem hik,List.getElem?_eq_getElem hix] at h1
   simpa using h1
  have hUi:(ups kids keys hi).take (i+1)=(ups x.kids x.keys hi).take (i+1):=by
   rw[hU];have hl:((ups x.kids x.keys hi).take (i+1)).length=i+1:=by simp[ups];omega
   exact List.take_left' hl
  have hTd:(ups kids keys hi).drop (i+1)=T:=by
   rw[hU];have hl:((ups x.kids x.keys hi).take (i+1)).length=i+1:=by simp[ups];omega
   exact List.drop_left' hl
  have hTi:(ups kids keys hi).take i=(ups x.kids x.keys hi).take i:=by
   have:=congrArg (List.take i) hUi
   rwa [List.take_take,List.take_take,Nat.min_eq_left (by omega)] at this
  have hup:(keys++[hi])[i]'(by simp;omega)=(x.keys++[hi])[i]'(by simp;omega):=by
   have a:=sJ (hi:=hi) hkl hik;have b:=sJ (hi:=hi) hx hix;rw[hUi,b,hTi] at a;have:=List.append_cancel_left a;simp at this;exact this.2.symm
  rw[qem hkl hik hml,hTd,hTi,hkd,List.append_assoc];simp only[hup]
 ·refine nJ s1a fun d l u Qq a b=>nD h d l u Qq a fun n hn'=>?_
  have hr:=hr1 n (b n hn');have hne:n≠p:=fun e=>hpn (by rw[<-e];simp[b n hn'])
  have hnot:n∉Qd':=fun e=>nad n (b n hn') n e rfl
  exact⟨(hfar n hr.1 hne).trans (hs.same n hnot hr.1 hr.2),by rw[hlen];omega⟩
 ·rw[SubK_append];refine⟨Q',Q2,rfl,?_,?_⟩
  ·refine nJ t1 fun d l u Qq a b=>nD h d l u Qq a fun n hn'=>?_
   have hm:=t2.mem_iff.1 (b n hn');have hr:0<=n/\n<R.1.length:=qO t1 n (b n hn')
   have hne:n≠p:=by
    rintro rfl;rcases List.mem_append.1 hm with e|e
    ·exact hpn' e
    ·have:=(placesF_mem.1 e).1;omega
   exact⟨hfar n hr.1 hne,by rw[hlen];exact hr.2⟩
  ·rw[q5a (by simp)]
   refine nJ s2 fun d l u Qq a b=>nD h d l u Qq a fun n hn'=>?_
   have hr:=hr2 n (b n hn');have hne:n≠p:=fun e=>hpn (by rw[<-e];simp[b n hn'])
   have hnot:n∉Qd':=fun e=>nad2 n (List.mem_append_right _ e) n (b n hn') rfl
   exact⟨(hfar n hr.1 hne).trans (hs.same n hnot hr.1 hr.2),by rw[hlen];omega⟩
 ·rw[hlen,show R.1.length-ns0.length=(ns.length-ns0.length)+(R.1.length-ns.length) by omega,nV,show ns0.length+(ns.length-ns0.length)=ns.length by omega]
  rw[<-List.append_assoc P];refine List.Perm.trans ?_ (hpm.append_right _);show(p::(Qa++(Q'++Q2))).Perm (p::(Qa++Qd'++Q2++aS ns.length (R.1.length-ns.length)));refine List.Perm.cons p ?_;simp only[List.append_assoc];refine List.Perm.append_left Qa ?_;refine(t2.append_right Q2).trans ?_;simp only[List.append_assoc];exact List.Perm.append_left Qd' List.perm_append_comm
 ·intro n hnP h0 h1;have hne:n≠p:=fun e=>hnP (e▸hpP)
  have hnot:n∉Qd':=by
   intro e;have:n∈P++aS ns0.length (ns.length-ns0.length):=hpm.mem_iff.1 (by simp[e])
   rcases List.mem_append.1 this with e'|e'
   ·exact hnP e'
   ·have:=(placesF_mem.1 e').1;omega
  exact(hfar n h0 hne).trans ((hs.same n hnot h0 (by omega)).trans (hK.same n hnP h0 h1))
 ·exact(qct hp0 hpRl).trans (hs.cont.trans hK.cont)

theorem qbi{mL:Nat}{ns0:List Nd}{h:Nat}{p lo hi:Int}{P:List Int}{x:Nd}{rec:List Nd->Int->List Nd × List (Int × Int)}(hx:x.keys.length+1=x.kids.length)(hp0:0<=p)(hp1:p<ns0.length)(hpP:p∈P)(hP:P.Nodup)(hPr:∀n∈P,0<=n/\n<ns0.length)
  (hrec:∀ns d lo u Qd,Sub mL 4 ns h d lo u Qd->Qd.Nodup->rE ns (rec ns d).1 h d lo u Qd (rec ns d).2):
  ∀(i:Nat) (ns:List Nd),lH mL ns0 ns h p lo hi P x i->lH mL ns0 (iY rec p i ns) h p lo hi P x 0
 |0,_,hK=>hK
 |i+1,ns,hK=>qbi hx hp0 hp1 hpP hP hPr hrec i _ (q5y hx hp0 hp1 hpP hP hPr hK fun lo u Qd a b=>hrec ns _ lo u Qd a b)

theorem vV{mL:Nat}:∀(h:Nat) (ns:List Nd) (p lo hi:Int) (P:List Int),Sub mL 4 ns h p lo hi P->P.Nodup->rE ns (bI h ns p).1 h p lo hi P (bI h ns p).2
 |0,ns,p,lo,hi,P,hs,hP=>uG (mK:=4) (mL:=mL) (show Top mL 4 ns 0 p lo hi P from hs) hP
 |h+1,ns,p,lo,hi,P,hs,hP=>by
  have hPr:=nC _ _ _ _ _ hs;obtain⟨hr,Q,rfl,hin⟩:=hs;have hul:(ups (nth ns p).kids (nth ns p).keys hi).take (nth ns p).kids.length=ups (nth ns p).kids (nth ns p).keys hi:=List.take_of_length_le (by simp[ups];omega)
  have hK:lH mL ns ns h p lo hi (p::Q) (nth ns p) (nth ns p).kids.length:=by
   refine⟨Nat.le_refl _,⟨(nth ns p).kids,(nth ns p).keys,[],Q,[],rfl,hin.keys,Nat.le_refl _,rfl,?_,?_,rfl,?_⟩,Nat.le_refl _,fun _ _ _ _=>rfl,List.Perm.refl _⟩
   ·rw[hul,List.append_nil]
   ·rw[hul];exact hin.kids
   ·simp[aS]
  have hK0:=qbi (rec:=bI h) hin.keys hr.1 hr.2.1 (by simp) hP hPr (fun ns d lo u Qd a b=>vV h ns d lo u Qd a b) _ _ hK
  show rE ns (aQ (iY (bI h) p (nth ns p).kids.length ns) p).1 (h+1) p lo hi (p::Q) (aQ (iY (bI h) p (nth ns p).kids.length ns) p).2;generalize iY (bI h) p (nth ns p).kids.length ns=ns1 at hK0 ⊢;obtain⟨kids,keys,T,Q1,Q2,hn,hkl,hle,-,hU,s1,s2,hpm⟩:=hK0.at';have hle1:=hK0.le;cases s1;rw[List.take_zero] at hU s2;rw[List.nil_append] at hU hpm;have htwo:=hin.two;have hp1:=hr.2.1
  have hnd:(p::Q2).Nodup:=hpm.nodup_iff.2 (List.nodup_append.2 ⟨hP,lS _ _,fun a ha b hb e=>by
   have h1:=(hPr a ha).2;have h2:=(placesF_mem.1 hb).1;omega⟩)
  have htop:Top 6 kids.length ns1 (h+1) p lo hi (p::Q2):=by
   refine⟨⟨hr.1,by omega,hr.2.2⟩,Q2,rfl,?_⟩
   rw[hn];exact⟨hin.leaf,hin.ents,by show 2<=kids.length;omega,Nat.le_refl _,hkl,hin.few,hin.buf,by show SubK _ lo (ups kids keys hi) Q2;rw[hU];exact s2⟩
  have hs:=uG htop hnd;have hle2:=hs.le;have hfew:=hs.few;obtain⟨Q',t1,t2⟩:=hs.sub;refine⟨⟨Q',t1,t2.trans ?_⟩,by omega,?_,hs.cont.trans hK0.cont,by omega⟩
  ·rw[show(aQ ns1 p).1.length-ns.length=(ns1.length-ns.length)+((aQ ns1 p).1.length-ns1.length) by omega,nV,show ns.length+(ns1.length-ns.length)=ns1.length by omega,<-List.append_assoc (p::Q)]
   exact hpm.append_right _
  ·intro n hnP h0 h1;refine(hs.same n ?_ h0 (by omega)).trans (hK0.same n hnP h0 h1)
   intro e;rcases List.mem_append.1 (hpm.mem_iff.1 e) with e'|e'
   ·exact hnP e'
   ·have:=(placesF_mem.1 e').1;omega

end
section
open Go.RowKit Plain Go.Shelf

theorem qbx(cs vs:List Value)(i j:Nat)(hi:i<=cs.length):(cs.take i++(vs++cs.drop i))[j]? =if j<i then cs[j]? else if j<i+vs.length then vs[j-i]? else cs[j-vs.length]? :=by
 have hl:(cs.take i).length=i:=by rw[List.length_take];omega
 by_cases h1:j<i
 ·rw[List.getElem?_append_left (by omega),List.getElem?_take,if_pos h1,if_pos h1]
 ·rw[List.getElem?_append_right (by omega),hl,if_neg h1]
  by_cases h2:j<i+vs.length
  ·rw[if_pos h2,List.getElem?_append_left (by omega)]
  ·rw[if_neg h2,List.getElem?_append_right (by omega),List.getElem?_drop,show i+(j-i-vs.length)=j-vs.length by omega]

theorem qcs{cur cs vs:List Value}{i:Nat}(ht:cur.take cs.length=cs)(hi:i<=cs.length)(hr:cs.length+vs.length<=cur.length):(ovr (ovr cur (i+vs.length) (cs.drop i)) i vs).take (cs.length+vs.length)=cs.take i++(vs++cs.drop i):=by
 apply List.ext_getElem?;intro j;rw[qbx cs vs i j hi,List.getElem?_take]
 by_cases hj:j<cs.length+vs.length
 ·rw[if_pos hj,mJ _ _ _ _ (by rw[kW];omega)]
  by_cases h2:j<i
  ·rw[if_neg (by omega),if_pos h2,mJ _ _ _ _ (by simp;omega),if_neg (by omega),qcb ht (by omega)]
  ·by_cases h1:j<i+vs.length
   ·rw[if_pos (by omega),if_neg h2,if_pos h1]
   ·rw[if_neg (by omega),if_neg h2,if_neg h1,mJ _ _ _ _ (by simp;omega),if_pos (by simp;omega),List.getElem?_drop,show i+(j-(i+vs.length))=j-vs.length by omega]
 ·rw[if_neg hj,if_neg (by omega),if_neg (by omega),List.getElem?_eq_none (by omega)]

theorem qfz{cur cs vs:List Value}{i:Nat}(ht:cur.take i=cs.take i)(hi:i<=cs.length)(hr:cs.length+vs.length<=cur.length):(ovr (ovr cur i vs) (i+vs.length) (cs.drop i)).take (cs.length+vs.length)=cs.take i++(vs++cs.drop i):=by
 apply List.ext_getElem?;intro j;rw[qbx cs vs i j hi,List.getElem?_take]
 by_cases hj:j<cs.length+vs.length
 ·rw[if_pos hj,mJ _ _ _ _ (by rw[kW];simp;omega)]
  by_cases h1:i+vs.length<=j
  ·rw[if_pos (by simp;omega),if_neg (by omega),if_neg (by omega),List.getElem?_drop,show i+(j-(i+vs.length))=j-vs.length by omega]
  ·rw[if_neg (by omega),mJ _ _ _ _ (by omega)]
   by_cases h2:j<i
   ·rw[if_neg (by omega),if_pos h2]
    have h:(cur.take i)[j]? =(cs.take i)[j]? :=by rw[ht]
    rwa [List.getElem?_take,List.getElem?_take,if_pos h2,if_pos h2] at h
   ·rw[if_pos (by omega),if_neg h2,if_pos (by omega)]
 ·rw[if_neg hj,if_neg (by omega),if_neg (by omega),List.getElem?_eq_none (by omega)]

theorem vH{P:Program}(w:World)(dT sT ty elem:TypeId)(k b o dLen dCap:Nat)(a:Addr)(sLen sCap:Nat)(cs:List Value)
  (hu:P.underlying dT=some (.slice elem)) (hs:(P.info? elem).map (·.size)=some k) (hn:cs.length=Nat.min sLen dLen*k)
  (hsrc:∀j v,cs[j]? =some v->w.cell? (a.add j)=some v) (hc:∀j,j<cs.length->(w.cell? ⟨b,o+j,none⟩).isSome=true) (hf:∀j,j<cs.length->w.frozen? ⟨b,o+j,none⟩=false) (h1:∀v∈cs,v.oneCell'=true):
  (Builtin.copy_ #[dT,sT] ty #[.slice (some ⟨b,o,none⟩) dLen dCap,.slice (some a) sLen sCap]).run P w=.ok (goInt (Nat.min sLen dLen)) (w.setCells b o cs):=by
 have hl:=run_loadCells_list (P:=P) w a cs hsrc;have hst:=run_storeCells_cells (P:=P) b o cs 0 w (by simpa using hc) (by simpa using hf) h1
 rw[hn] at hl;cases hq:P.info? elem with
 |none=>simp[hq] at hs
 |some i=>
  have hi:i.size=k:=by simpa [hq] using hs
  simp only[Nat.min_def] at hl ⊢;simp[Builtin.copy_,run_underlying hu,Builtin.lenOf,Builtin.firstCells,sizeOf,typeInfo,hq,hi,hl,hst,Nat.min_def]

theorem q0u(x:En):aB [x]=x.vals:=by simp[aB]

theorem qop{w:World}{vb:Nat}{x:En}(hv:RowL w vb 132 x.vals):∀j u,(aB [x])[j]? =some u->w.cell? (Addr.add ⟨vb,0,none⟩ j)=some u:=by
 intro j u hu;rw[WideShapes.add_plain,Nat.zero_add,hv.cell]
 rwa [q0u] at hu

theorem q3i{base n g cap:Nat}{t:TypeId}{size:Nat}{A:Option Addr}{n0 C0:Nat}{vs:List Value}{w w1:World}(hown:w1.ownsRow base t size (.slice (some ⟨g,0,none⟩) n cap) n vs)(hgrow:w.grownBy w1 (Value.slice A n0 C0).ownBlock)(hat:(Value.slice A n0 C0).ownBlock=some g\/g=w.heap.size):
  gQ base t size n A (some ⟨g,0,none⟩) cap vs w w1:=by
 have e:∀k,(Value.slice A n0 C0).ownBlock=some k->A.map Addr.block=some k:=by
  intro k hk;cases A<;>simp_all [Value.ownBlock]
 refine⟨hown,⟨hgrow.os,hgrow.tape,hgrow.output,hgrow.size,fun k hk hx=>hgrow.block k hk (fun h=>hx ?_)⟩,?_⟩
 ·simp[obk,e k h.symm]
 ·rcases hat with h|h
  ·left;rw[e g h];rfl
  ·right;exact⟨g,rfl,by omega⟩

set_option maxRecDepth 20000 in
set_option maxHeartbeats 4000000 in
theorem qa2(base:Nat)(A:Option Addr)(C vb vc:Nat)(xs:List En)(x:En)(w:World)(ho:w.ownsRow base 132 7 (.slice A xs.length C) xs.length (aB xs))(hv:RowL w vb 132 x.vals)(hB:base<=w.heap.size)(hz:(xs.length+1)*56<=140737488351232):
  Calls Tryz.prog 167 #[.slice A xs.length C,.int .i64 (xs.length:Int),.slice (some ⟨vb,0,none⟩) 1 vc] w
   fun e w'=>∃A' C',e=.returned (.slice A' (xs.length+1) C')/\gQ base 132 7 (xs.length+1) A A' C' (aB (xs++[x])) w w':=by
 obtain⟨i0,hi0,hz0,hz1,hz2⟩:=info_parts kK;have hnews:=qop hv
 have hcap:xs.length<=C/\C<=maxLen:=by
  obtain⟨A',C',h1,_,h2,h3,_⟩:=aP ho;cases h1;exact⟨h2,h3⟩
 have hc63:C<=9223372036854775807:=by have:=hcap.2;unfold maxLen at this;omega
 have hc0:(xs.length:Int)<=(C:Int):=by have:=hcap.1;omega
 have hml:xs.length+1<=maxLen:=by unfold maxLen;omega
 have HE:Hid (aB (xs++[x])=aB xs++aB [x]):=jS _ _;clear hv hcap;cases A with
 |none=>
  go_enter Tryz.func167,Tryz.ntmps167
  go_wp2_with (at_builtin;refine wpList_append_lies _ rfl _ _ 103 rfl base 132 i0 _ 7 56 Tryz.underlying103 hi0 hz0 hz1 hz2 rfl (by decide) (.slice none xs.length C) xs.length (aB xs) rfl ho ⟨vb,0,none⟩ 1 vc (aB [x]) rfl rfl hnews (iL _) (by decide) hml (by omega) hB w.heap.size rfl ?_;intro g cap w1 hown hgrow hat hlt)
  go_ret;exact⟨_,_,rfl,by rw[HE.out];exact q3i hown hgrow hat⟩
 |some ad=>
  go_enter Tryz.func167,Tryz.ntmps167
  go_wp2_with (at_builtin;refine wpList_append_lies _ rfl _ _ 103 rfl base 132 i0 _ 7 56 Tryz.underlying103 hi0 hz0 hz1 hz2 rfl (by decide) (.slice (some ad) xs.length C) xs.length (aB xs) rfl ho ⟨vb,0,none⟩ 1 vc (aB [x]) rfl rfl hnews (iL _) (by decide) hml (by omega) hB w.heap.size rfl ?_;intro g cap w1 hown hgrow hat hlt)
  all_goals
   go_ret;exact⟨_,_,rfl,by rw[HE.out];exact q3i hown hgrow hat⟩

theorem yS:(Tryz.prog.info? 132).map (·.size)=some 7:=by
 obtain⟨i0,hi0,_,h1,_⟩:=info_parts kK;rw[hi0];simp[h1]

set_option maxRecDepth 100000 in
set_option maxHeartbeats 4000000 in
theorem q4f(g n c i vb vc:Nat)(cs vs:List Value)(w:World)(hi:i<n)(hroom:n+1<=c)(hc63:c<=9223372036854775807)(hvb:vb≠g)(hcl:cs.length=n*7)(hvl:vs.length=7)
  (hcs:∀j v,cs[j]? =some v->w.cell? ⟨g,j,none⟩=some v) (hsp:∀j,j<(n+1)*7->(w.cell? ⟨g,j,none⟩).isSome=true) (hfz:∀j,w.frozen? ⟨g,j,none⟩=false)
  (hvs:∀j v,vs[j]? =some v->w.cell? ⟨vb,j,none⟩=some v) (h1c:∀v∈cs,v.oneCell'=true) (h1v:∀v∈vs,v.oneCell'=true)
  (tA tB:TypeId) (kA kB:Nat) (hsa:w.shape? vb=some (tA,kA)) (hsb:w.shape? g=some (tB,kB)) (hkB:kB≠0) (hfa:∀j,w.frozen? ⟨vb,j,none⟩=false):
  Calls Tryz.prog 167 #[.slice (some ⟨g,0,none⟩) n c,.int .i64 (i:Int),.slice (some ⟨vb,0,none⟩) 1 vc] w fun e w'=>
   e=.returned (.slice (some ⟨g,0,none⟩) (n+1) c)/\w'=(w.drew.setCells g ((i+1)*7) (cs.drop (i*7))).setCells g (i*7) vs:=by
 have hz2:¬((i:Int)=(n:Int)):=by omega
 have hov:∀lb cb,(callFunc 181 #[.slice (some ⟨vb,0,none⟩) 1 vc,.slice (some ⟨g,(i+1)*7,none⟩) lb cb]).run Tryz.prog w=.ok (.value (.bool false)) w:=fun lb cb=>by
  rw[run_callFunc_extern Tryz.func181 (by kernel_rfl) (by kernel_rfl) (by kernel_rfl) (e:=Extern.SlicesOverlaps.overlaps #[103,103] #[4]) (by kernel_rfl),
   Lib.run_overlaps_apart w 103 4 132 Tryz.underlying103 7 Tryz.sizeOf132 ⟨vb,0,none⟩ ⟨g,(i+1)*7,none⟩ 1 vc lb cb hvb tA tB kA kB hsa hsb hkB (hfa _) (hfa _)]
  rfl
 have hdl:(cs.drop (i*7)).length=(n-i)*7:=by rw[List.length_drop,hcl];omega
 have hcp1:∀ty dc sc,(Builtin.copy_ #[103,103] ty #[.slice (some ⟨g,(i+1)*7,none⟩) (n-i) dc,.slice (some ⟨g,i*7,none⟩) (n+1-i) sc]).run Tryz.prog w.drew=.ok (goInt (Nat.min (n+1-i) (n-i))) (w.drew.setCells g ((i+1)*7) (cs.drop (i*7))):=fun ty dc sc=>
  vH w.drew _ _ ty 132 7 g ((i+1)*7) (n-i) dc ⟨g,i*7,none⟩ (n+1-i) sc (cs.drop (i*7)) Tryz.underlying103 yS (by rw[hdl];simp only[Nat.min_def];split<;>omega)
   (fun j v hj=>by rw[Addr.add_lit];exact hcs (i*7+j) v (by rwa [List.getElem?_drop] at hj))
   (fun j hj=>hsp _ (by omega)) (fun j hj=>hfz _) (fun v hv=>h1c v (List.mem_of_mem_drop hv))
 obtain⟨W1,hW1⟩:∃W1,W1=w.drew.setCells g ((i+1)*7) (cs.drop (i*7)):=⟨_,rfl⟩
 have hsp1:∀k,k<(n+1)*7->(W1.cell? ⟨g,k,none⟩).isSome=true:=fun k hk=>by
  rw[hW1];exact isSome_setCells g (cs.drop (i*7)) ((i+1)*7) w.drew (fun j hj=>hsp _ (by omega)) _ (hsp k hk)
 have hcp2:∀(W:World),(∀x,W.cell? x=W1.cell? x)->(∀x,W.frozen? x=W1.frozen? x)->∀ty dc,(Builtin.copy_ #[103,103] ty #[.slice (some ⟨g,i*7,none⟩) (n+1-i) dc,.slice (some ⟨vb,0,none⟩) 1 vc]).run Tryz.prog W=.ok (goInt (Nat.min 1 (n+1-i))) (W.setCells g (i*7) vs):=fun W hWc hWf ty dc=>
  vH W _ _ ty 132 7 g (i*7) (n+1-i) dc ⟨vb,0,none⟩ 1 vc vs Tryz.underlying103 yS (by rw[hvl];simp only[Nat.min_def];split<;>omega)
   (fun j v hj=>by
    rw[Addr.add_lit,hWc,hW1,World.cell?_setCells_out g _ _ _ _ (fun h _=>absurd h hvb),Nat.zero_add]
    exact hvs j v hj)
   (fun j hj=>by rw[hWc];exact hsp1 _ (by omega)) (fun j hj=>by rw[hWf,hW1,World.frozen?_setCells];exact hfz _) h1v
 rw[<-hW1] at hcp1;have hin:i<=n:=by omega
 have hb2:¬(c=i+1):=by omega
 have hb4:¬(c=i):=by omega
 have hw1:IntKind.i64.wrap ((i:Int)+1)=(i:Int)+1:=by rw[IntKind.wrap_i64];omega
 have hb1:(0:Int)<=(i:Int)+1:=by omega
 have htn:((i:Int)+1).toNat=i+1:=by omega
 have hb3:(i:Int)+1<=(n:Int)+1:=by omega
 have hb5:(i:Int)<=(n:Int)+1:=by omega
 go_enter Tryz.func167,Tryz.ntmps167
 go_wp2_with (simp only[hov])
 go_region_law (refine step_copy_runI rfl _ _ 103 103 rfl _ _ (by simp[Act.eval,Act.put]) (by simp[Act.eval,Act.put]) (hcp1 _ _ _) ?_)
 go_wp2_with (at_builtin;refine wpList_copy_runI _ rfl _ _ 103 103 rfl _ _ rfl rfl (hcp2 _ (fun _=>rfl) (fun _=>rfl) _ _) ?_)
 go_ret
 first|exact⟨rfl,rfl⟩|exact⟨rfl,by rw[hW1]⟩

def zroE:Value:=.agg #[.int .i64 0,.int .i64 0,.int .i64 0,.int .i64 0,.int .i64 0,.int .i64 0,.int .i64 0]
def rowG(cs:List Value)(i n G:Nat):Array Value:=(cs.take (i*7)).toArray++Builtin.zeroCells zroE.cells (n+1-i)++Builtin.zeroCells zroE.cells (G-(n+1))

theorem q7u{cs:List Value}{i n G:Nat}(hi:i<=n)(hcl:cs.length=n*7)(hG:n+1<=G):(rowG cs i n G).size=G*7:=by
 unfold rowG;rw[Array.size_append,Array.size_append,size_zeroCells,size_zeroCells];simp[zroE,Value.cells,hcl];omega

theorem qgn{cs:List Value}{i n G:Nat}(hi:i<=n)(hcl:cs.length=n*7):(rowG cs i n G).toList.take (i*7)=cs.take (i*7):=by
 unfold rowG;rw[Array.toList_append,Array.toList_append,List.append_assoc];exact List.take_left' (by rw[List.length_take];omega)

set_option maxRecDepth 100000 in
set_option maxHeartbeats 4000000 in
theorem q7x(g n c i vb vc:Nat)(cs vs:List Value)(w:World)(hi:i<n)(hnc:n<=c)(hroom:c<n+1)(hbig:(n+1)*56<=140737488355328)(hcl:cs.length=n*7)(hvl:vs.length=7)
  (hcs:∀j v,cs[j]? =some v->w.cell? ⟨g,j,none⟩=some v) (hvs:∀j v,vs[j]? =some v->w.cell? ⟨vb,j,none⟩=some v) (h1c:∀v∈cs,v.oneCell'=true) (h1v:∀v∈vs,v.oneCell'=true):
  Calls Tryz.prog 167 #[.slice (some ⟨g,0,none⟩) n c,.int .i64 (i:Int),.slice (some ⟨vb,0,none⟩) 1 vc] w fun e w'=>
   ∃G,n+1<=G/\G<=maxLen/\e=.returned (.slice (some ⟨w.heap.size,0,none⟩) (n+1) G)/\
   w'=(((w.alloc (.cells (rowG cs i n G) 132)).drew.setCells w.heap.size (i*7) vs).drew).setCells w.heap.size ((i+1)*7) (cs.drop (i*7)):=by
 obtain⟨i0,hi0,hz0,hzs,hzb⟩:=info_parts kK;have hz2:¬((i:Int)=(n:Int)):=by omega
 have hz3:(c:Int)<(n:Int)+1:=by omega
 have hbw:g<w.heap.size:=block_lt_of_cell (hcs 0 _ (List.getElem?_eq_getElem (by omega)))
 have hvw:vb<w.heap.size:=block_lt_of_cell (hvs 0 _ (List.getElem?_eq_getElem (by omega)))
 have hkk:(n:Int)+1-(i:Int)=((n+1-i:Nat):Int):=by omega
 have hik:i+(n+1-i)=n+1:=by omega
 have hold:(Builtin.firstCells i0.size i (.slice (some ⟨g,0,none⟩) i c)).run Tryz.prog w.drew=.ok (cs.take (i*7)).toArray w.drew:=by
  rw[hzs]
  exact run_firstCells_some w.drew 7 i ⟨g,0,none⟩ i c (cs.take (i*7)) (by rw[List.length_take];omega) (fun j v hj=>by
   rw[Addr.add_lit,Nat.zero_add];rw[List.getElem?_take] at hj
   split at hj
   ·exact hcs j v hj
   ·cases hj)
 have hrz:∀ty,(Builtin.append_ #[103,3] ty #[.slice (some ⟨g,0,none⟩) i c,.int .i64 ((n:Int)+1-(i:Int))]).run Tryz.prog w=
   .ok (.slice (some ⟨w.heap.size,0,none⟩) (n+1) (grownCap w (n+1) c 132)) (w.drew.alloc (.cells (rowG cs i n (grownCap w (n+1) c 132)) 132)):=fun ty=>by
  have h:=Lib.run_append_grow_zeros w 103 3 ty 132 i0 _ .i64 .i64 Tryz.underlying103 Tryz.underlying3 hi0 hz0 (some ⟨g,0,none⟩) i c (cs.take (i*7)) hold (n+1-i) (by omega) (by omega) (by omega) (by omega) (by rw[hzb];omega) (by rw[hzb,hik];exact growslice_fits hroom hbig)
  rw[hik] at h;rw[hkk];exact h
 obtain⟨G,hG⟩:∃G,G=grownCap w (n+1) c 132:=⟨_,rfl⟩;have hGn:n+1<=G:=by rw[hG];exact grownCap_ge w _ _ _
 have hGm:G<=maxLen:=by rw[hG];exact grownCap_le_maxLen w (n+1) c _ (by unfold maxLen;omega)
 rw[<-hG] at hrz
 suffices hS:Calls Tryz.prog 167 #[.slice (some ⟨g,0,none⟩) n c,.int .i64 (i:Int),.slice (some ⟨vb,0,none⟩) 1 vc] w (fun e w'=>e=.returned (.slice (some ⟨w.heap.size,0,none⟩) (n+1) G)/\w'=(((w.alloc (.cells (rowG cs i n G) 132)).drew.setCells w.heap.size (i*7) vs).drew).setCells w.heap.size ((i+1)*7) (cs.drop (i*7))) from hS.mono fun e w' h=>⟨G,hGn,hGm,h.1,h.2⟩
 have hRl:=q7u (i:=i) (G:=G) (Nat.le_of_lt hi) hcl hGn;obtain⟨ROW,hROW⟩:∃ROW:Array Value,ROW=rowG cs i n G:=⟨_,rfl⟩;rw[<-hROW] at hrz hRl ⊢;obtain⟨W1,hW1⟩:∃W1,W1=w.drew.alloc (.cells ROW 132):=⟨_,rfl⟩;rw[<-hW1] at hrz
 have hN:∀j,j<(n+1)*7->(W1.cell? ⟨w.heap.size,j,none⟩).isSome=true:=fun j hj=>by
  rw[hW1,World.cell?_alloc_at (w:=w.drew) ROW _ w.heap.size j rfl,Array.getElem?_eq_getElem (by omega)];rfl
 have hNf:∀j,W1.frozen? ⟨w.heap.size,j,none⟩=false:=fun j=>by rw[hW1];exact World.frozen?_alloc_at (w:=w.drew) ROW _ w.heap.size j rfl
 have hOb:∀j v,w.cell? ⟨g,j,none⟩=some v->W1.cell? ⟨g,j,none⟩=some v:=fun j v h=>by rw[hW1,World.cell?_alloc_past (w:=w.drew) _ g j hbw];exact h
 have hOv:∀j v,w.cell? ⟨vb,j,none⟩=some v->W1.cell? ⟨vb,j,none⟩=some v:=fun j v h=>by rw[hW1,World.cell?_alloc_past (w:=w.drew) _ vb j hvw];exact h
 have hcpA:∀(W:World),(∀x,W.cell? x=W1.cell? x)->(∀x,W.frozen? x=W1.frozen? x)->∀ty dc,(Builtin.copy_ #[103,103] ty #[.slice (some ⟨w.heap.size,i*7,none⟩) (n+1-i) dc,.slice (some ⟨vb,0,none⟩) 1 vc]).run Tryz.prog W=.ok (goInt (Nat.min 1 (n+1-i))) (W.setCells w.heap.size (i*7) vs):=fun W hWc hWf ty dc=>
  vH W _ _ ty 132 7 w.heap.size (i*7) (n+1-i) dc ⟨vb,0,none⟩ 1 vc vs Tryz.underlying103 yS (by rw[hvl];simp only[Nat.min_def];split<;>omega)
   (fun j v hj=>by rw[Addr.add_lit,Nat.zero_add,hWc];exact hOv _ v (hvs j v hj))
   (fun j hj=>by rw[hWc];exact hN _ (by omega)) (fun j hj=>by rw[hWf];exact hNf _) h1v
 have hG63:G<=9223372036854775807:=by unfold maxLen at hGm;omega
 have hGi:¬(G=i):=by omega
 have hGim:¬(G=i+1):=by omega
 have hci:¬(c=i):=by omega
 have hbN:g≠w.heap.size:=by omega
 have hdl:(cs.drop (i*7)).length=(n-i)*7:=by rw[List.length_drop,hcl];omega
 have hcpB:∀(W:World),(∀x,W.cell? x=(W1.setCells w.heap.size (i*7) vs).cell? x)->(∀x,W.frozen? x=(W1.setCells w.heap.size (i*7) vs).frozen? x)->∀ty dc sc,(Builtin.copy_ #[103,103] ty #[.slice (some ⟨w.heap.size,(i+1)*7,none⟩) (n-i) dc,.slice (some ⟨g,i*7,none⟩) (n-i) sc]).run Tryz.prog W=.ok (goInt (Nat.min (n-i) (n-i))) (W.setCells w.heap.size ((i+1)*7) (cs.drop (i*7))):=fun W hWc hWf ty dc sc=>
  vH W _ _ ty 132 7 w.heap.size ((i+1)*7) (n-i) dc ⟨g,i*7,none⟩ (n-i) sc (cs.drop (i*7)) Tryz.underlying103 yS (by rw[hdl];simp only[Nat.min_def];split<;>omega)
   (fun j v hj=>by
    rw[Addr.add_lit,hWc,World.cell?_setCells_out _ _ _ _ _ (fun h _=>absurd h hbN)]
    exact hOb _ v (hcs (i*7+j) v (by rwa [List.getElem?_drop] at hj)))
   (fun j hj=>by rw[hWc];exact isSome_setCells _ _ _ _ (fun t ht=>hN _ (by omega)) _ (hN _ (by omega)))
   (fun j hj=>by rw[hWf,World.frozen?_setCells];exact hNf _) (fun v hv=>h1c v (List.mem_of_mem_drop hv))
 subst hW1;have hE1:∀x,((w.alloc (.cells ROW 132)).drew).cell? x=(w.drew.alloc (.cells ROW 132)).cell? x:=fun x=>rfl
 have hE2:∀x,((w.alloc (.cells ROW 132)).drew).frozen? x=(w.drew.alloc (.cells ROW 132)).frozen? x:=fun x=>rfl
 have hF1:∀x,(((w.alloc (.cells ROW 132)).drew.setCells w.heap.size (i*7) vs).drew).cell? x=((w.drew.alloc (.cells ROW 132)).setCells w.heap.size (i*7) vs).cell? x:=fun x=>rfl
 have hF2:∀x,(((w.alloc (.cells ROW 132)).drew.setCells w.heap.size (i*7) vs).drew).frozen? x=((w.drew.alloc (.cells ROW 132)).setCells w.heap.size (i*7) vs).frozen? x:=fun x=>rfl
 have hw1:IntKind.i64.wrap ((i:Int)+1)=(i:Int)+1:=by rw[IntKind.wrap_i64];omega
 have hb1:(0:Int)<=(i:Int)+1:=by omega
 have hin:i<=n:=by omega
 have htn:((i:Int)+1).toNat=i+1:=by omega
 have hb3:(i:Int)<=(n:Int):=by omega
 have hb4:(i:Int)+1<=(n:Int)+1:=by omega
 clear hkk hik hold hROW hG hRl
 go_enter Tryz.func167,Tryz.ntmps167
 go_wp2_with (first
  |(at_builtin;refine Lib.wpList_append_run _ rfl _ _ _ _ rfl _ _ rfl rfl _ _ (hrz _) ?_)
  |(at_builtin;refine wpList_copy_runI _ rfl _ _ 103 103 rfl _ _ rfl rfl (hcpA _ hE1 hE2 _ _) ?_)
  |(at_builtin;refine wpList_copy_runI _ rfl _ _ 103 103 rfl _ _ rfl rfl (hcpB _ (fun _=>rfl) (fun _=>rfl) _ _ _) ?_))
 go_region_law (refine step_copy_runI rfl _ _ 103 103 rfl (.slice (some ⟨w.heap.size,(i+1)*7,none⟩) (n-i) (G-(i+1))) (.slice (some ⟨g,i*7,none⟩) (n-i) (c-i)) (by simp[Act.eval,Act.put]) (by simp[Act.eval,Act.put]) (hcpB _ hF1 hF2 3 (G-(i+1)) (c-i)) ?_)
 go_wp2;go_ret;exact⟨rfl,rfl⟩

theorem qh7(xs:List En)(i:Nat)(x:En):aB (xs.take i++x::xs.drop i)=(aB xs).take (i*7)++(x.vals++(aB xs).drop (i*7)):=by
 rw[jS,<-vZ,<-zZ]
 rfl

theorem qcn{base n C size:Nat}{t:TypeId}{A:Option Addr}{vs:List Value}{w w':World}{cur:Array Value}(hb:base<=w.heap.size)(hg:w'.heap[w.heap.size]? =some (.cells cur t (0,0)))(hn:n<=C)(hm:C<=maxLen)(hs:cur.size=C*size)(hl:vs.length=n*size)(ht:cur.toList.take (n*size)=vs)
  (hk:Kept (obk A) w w'):gQ base t size n A (some ⟨w.heap.size,0,none⟩) C vs w w':=
 ⟨⟨hl,.inr ⟨w.heap.size,C,cur,rfl,hb,hg,hn,hm,hs,ht⟩⟩,hk,.inr ⟨w.heap.size,rfl,Nat.le_refl _⟩⟩

theorem qe3{base n C g size:Nat}{t:TypeId}{vs:List Value}{w w':World}{cur:Array Value}(hb:base<=g)(hg:w'.heap[g]? =some (.cells cur t (0,0)))(hn:n<=C)(hm:C<=maxLen)(hs:cur.size=C*size)(hl:vs.length=n*size)(ht:cur.toList.take (n*size)=vs)
  (hk:Kept [g] w w'):gQ base t size n (some ⟨g,0,none⟩) (some ⟨g,0,none⟩) C vs w w':=
 ⟨⟨hl,.inr ⟨g,C,cur,rfl,hb,hg,hn,hm,hs,ht⟩⟩,hk,.inl rfl⟩

theorem q9q(base:Nat)(A:Option Addr)(C vb vc:Nat)(xs:List En)(i:Nat)(x:En)(w:World)(ho:w.ownsRow base 132 7 (.slice A xs.length C) xs.length (aB xs))(hi:i<=xs.length)(hv:RowL w vb 132 x.vals)(hvb:vb∉obk A)(hB:base<=w.heap.size)(hz:(xs.length+1)*56<=140737488351232):
  Calls Tryz.prog 167 #[.slice A xs.length C,.int .i64 (i:Int),.slice (some ⟨vb,0,none⟩) 1 vc] w
   fun e w'=>∃A' C',e=.returned (.slice A' (xs.length+1) C')/\gQ base 132 7 (xs.length+1) A A' C' (aB (xs.take i++x::xs.drop i)) w w':=by
 by_cases hin:i<xs.length
 ·rcases ho.2 with⟨hn,hn0⟩|⟨g,cap,cur,hn,hb,hg,hl,hm,hs,ht⟩
  ·omega
  ·simp only[Value.slice.injEq] at hn;obtain⟨rfl,-,rfl⟩:=hn;have hvg:vb≠g:=fun e=>hvb (by simp[obk,e])
   have hil:=gZ xs;have hcl:cur.toList.length=C*7:=by simpa using hs
   have hcell:∀j,w.cell? ⟨g,j,none⟩=cur.toList[j]? :=fun j=>by simp[World.cell?,hg]
   have hcs:∀j v,(aB xs)[j]? =some v->w.cell? ⟨g,j,none⟩=some v:=fun j v hj=>by
    rw[hcell,<-hj,<-ht,List.getElem?_take,if_pos];have:=(List.getElem?_eq_some_iff.1 hj).1;omega
   have hvs:∀j v,(x.vals)[j]? =some v->w.cell? ⟨vb,j,none⟩=some v:=fun j v hj=>by rw[hv.cell];exact hj
   have hfz:∀j,w.frozen? ⟨g,j,none⟩=false:=fun j=>by simp[World.frozen?,hg]
   have h1v:∀v∈x.vals,v.oneCell'=true:=by
    have:=iL [x]
    rwa [q0u] at this
   have hvl:x.vals.length=7:=rfl;have e7:(i+1)*7=i*7+x.vals.length:=by rw[hvl];omega
   have e8:(xs.length+1)*7=(aB xs).length+x.vals.length:=by rw[hvl,hil];omega
   have hlen:(aB (xs.take i++x::xs.drop i)).length=(xs.length+1)*7:=by rw[gZ];simp;omega
   rw[qh7] at hlen ⊢;generalize x.vals=vv at *
   by_cases hroom:xs.length+1<=C
   ·refine(q4f g xs.length C i vb vc (aB xs) vv w hin hroom (by unfold maxLen at hm;omega) hvg hil hvl hcs (fun j hj=>by rw[hcell,List.getElem?_eq_getElem (by omega)];rfl) hfz hvs (iL xs) h1v 132 132 7 (C*7)
     (by unfold World.shape?;rw[show w.heap[vb]? =_ from hv];simp[hvl]) (by unfold World.shape?;rw[hg];simp[hs]) (by omega) hv.frozen).mono ?_
    rintro e w' ⟨rfl,rfl⟩;have h1:=kU g 132 ((aB xs).drop (i*7)) ((i+1)*7) cur w.drew hg;have h2:=kU g 132 vv (i*7) _ _ h1;refine⟨_,_,rfl,qe3 hb h2 hroom hm (by simp[kW,hs]) hlen ?_ ?_⟩
    ·rw[e7,e8];exact qcs (by rw[hil];exact ht) (by omega) (by rw[hcl,hil,hvl];omega)
    ·exact(((Kept.refl _ w).drew).trans (kS g _ _ _)).trans (kS g _ _ _)
   ·refine(q7x g xs.length C i vb vc (aB xs) vv w hin hl (by omega) (by omega) hil hvl hcs hvs (iL xs) h1v).mono ?_
    rintro e w' ⟨G,hG,hGm,rfl,rfl⟩;have hRs:=q7u (i:=i) (Nat.le_of_lt hin) hil hG;have hRt:=qgn (G:=G) (Nat.le_of_lt hin) hil;generalize rowG (aB xs) i xs.length G=ROW at hRs hRt ⊢;have h0:(w.alloc (.cells ROW 132)).drew.heap[w.heap.size]? =some (.cells ROW 132 (0,0)):=heap_alloc_new w _;have h1:=kU w.heap.size 132 vv (i*7) ROW _ h0;have h2:=kU w.heap.size 132 ((aB xs).drop (i*7)) ((i+1)*7) _ ((w.alloc (.cells ROW 132)).drew.setCells w.heap.size (i*7) vv).drew h1;refine⟨_,_,rfl,qcn (by omega) h2 hG hGm (by simp[kW,hRs]) hlen ?_ ?_⟩
    ·rw[e7,e8];exact qfz (cur:=ROW.toList) hRt (by omega) (by rw[hil,hvl];simp[hRs];omega)
    ·have k1:=(((Kept.refl [w.heap.size] w).alloc (.cells ROW 132)).drew.trans (kS w.heap.size vv (i*7) _)).drew.trans (kS w.heap.size ((aB xs).drop (i*7)) ((i+1)*7) _);exact⟨k1.os,k1.tape,k1.output,k1.size,fun k hk _=>k1.block k hk (by simp;omega)⟩
 ·obtain rfl:i=xs.length:=by omega
  rw[List.take_length,List.drop_length];exact qa2 base A C vb vc xs x w ho hv hB hz

end
section
open Go.RowKit Plain

theorem AdAt.cells{base:Nat}{w:World}{nb no:Nat}{t:TypeId}{vs:List Value}{kA0 dA0:Option Addr}{wr:World}{kA:Option Addr}{kC:Nat}{keys:List Int}{dA:Option Addr}{dC:Nat}{kids:List Int}(h:AdAt base w nb no t vs kA0 dA0 wr kA kC keys dA dC kids)(hl:no+3<vs.length):
  wr.cell? ⟨nb,no+2,none⟩=some (.slice kA keys.length kC)/\wr.cell? ⟨nb,no+3,none⟩=some (.slice dA kids.length dC):=by
 constructor
 ·rw[h.row.cell,List.getElem?_set_ne (by omega),List.getElem?_set_self (by omega)]
 ·rw[h.row.cell,List.getElem?_set_self (by simp;omega)]

theorem qod{base:Nat}{w:World}{nb no:Nat}{t t1 t2:TypeId}{vs l1:List Value}{kA0 dA0:Option Addr}{wr w2:World}{kA:Option Addr}{kC:Nat}{keys:List Int}{dA:Option Addr}{dC:Nat}{kids:List Int}{o2 v:Value}(h:AdAt base w nb no t vs kA0 dA0 wr kA kC keys dA dC kids)
  (hk:Kept (obk kA) ((wr.alloc (.cells l1.toArray t1)).drew.alloc (.cells #[o2] t2)) w2):RowL (w2.setCell ⟨nb,no+2,none⟩ v) wr.heap.size t1 l1:=by
 have r1:RowL ((wr.alloc (.cells l1.toArray t1)).drew.alloc (.cells #[o2] t2)) wr.heap.size t1 l1:=(aG wr l1 t1).of_block (Below.heap_alloc _ _ _ (by simp))
 have r2:=hk.row r1 (fun e=>by have:=h.lt.1 _ e;omega)
 exact r2.of_block (Below.heap_setCell _ _ _ _ (by have:=h.row.lt;show wr.heap.size≠nb;omega))

set_option maxRecDepth 20000 in
set_option maxHeartbeats 4000000 in
theorem q8d(base nb no:Nat)(t:TypeId)(vs:List Value)(kA:Option Addr)(kC:Nat)(keys:List Int)(dA:Option Addr)(dC:Nat)(kids:List Int)(i:Nat)(mA:Option Addr)(mC:Nat)(more:List (Int × Int))(w:World)
  (hA:AdAt base w nb no t vs kA dA w kA kC keys dA dC kids) (hvl:no+3<vs.length) (hB:base<=w.heap.size) (hm:aH w.heap.size w mA (fZ more)) (hmb:∀a,mA=some a->a.block∉nb::obk kA++obk dA)
  (hi:i<=keys.length) (hi':i+1<=kids.length) (hkz:(keys.length+more.length+1)*8<=140737488351232) (hdz:(kids.length+more.length+1)*8<=140737488351232):
  Calls Tryz.prog 144 #[.pointer (some ⟨nb,no,none⟩),.int .i64 (i:Int),.slice mA more.length mC] w
   fun e w'=>e=.returned (.tuple #[])/\∃kA' kC' dA' dC',AdAt base w nb no t vs kA dA w' kA' kC' (iV keys i more more.length) dA' dC' (iU kids i more more.length):=by
 go_enter Tryz.func144,Tryz.ntmps144
 go_wp2_with fail
 go_loopw [10] (fun vi wr=>∃(k:Nat) (kA':Option Addr) (kC':Nat) (dA':Option Addr) (dC':Nat),k<=more.length/\vi=.int .i64 (k:Nat)/\AdAt base w nb no t vs kA dA wr kA' kC' (iV keys i more k) dA' dC' (iU kids i more k)) (fun vi _=>more.length-(intOf vi).toNat)
 case atStart=>exact⟨0,kA,kC,dA,dC,Nat.zero_le _,rfl,by simpa [iV,iU] using hA⟩
 case round=>
  obtain⟨k,kA',kC',dA',dC',hk,rfl,hat⟩:=hrel
  by_cases hlt:k<more.length
  ·obtain⟨b,o,rfl,hbl,hc⟩:∃b o,mA=some ⟨b,o,none⟩/\b<w.heap.size/\∀j u,(fZ more)[j]? =some u->w.cell? ⟨b,o+j,none⟩=some u:=by
    rcases hm with h|h
    ·have:=q0s more;rw[h] at this;simp at this;omega
    ·exact h
   have hkp:=hat.kept.cell (b:=b) (hb:=hbl) (hx:=hmb _ rfl);have c0:wr.cell? ⟨b,o+k*2,none⟩=some (.int .i64 more[k].1):=(hkp _).trans (hc _ _ (q2c more k hlt).1)
   have c1:wr.cell? ⟨b,o+k*2+1,none⟩=some (.int .i64 more[k].2):=by
    have:=(hkp _).trans (hc _ _ (q2c more k hlt).2)
    rwa [<-Nat.add_assoc] at this
   obtain⟨n0,n1⟩:=hat.cells hvl;have L1:Hid _:=q0b (keys:=keys) (i:=i) (Nat.le_of_lt hlt);have L2:Hid _:=q0e (kids:=kids) (i:=i) (Nat.le_of_lt hlt);have fz:=hat.row.frozen;have hnl:=hat.row.lt;have hbw:b<wr.heap.size:=Nat.lt_of_lt_of_le hbl hat.kept.size;have HA:Hid _:=hat;have HK1:Hid _:=q8s (keys:=keys) hi hlt;have HK2:Hid _:=q9p (kids:=kids) hi' hlt;have L1s:Hid _:=q0b (keys:=keys) (i:=i) (more:=more) (k:=k+1) hlt;have L2s:Hid _:=q0e (kids:=kids) (i:=i) (more:=more) (k:=k+1) hlt;have hBr:base<=wr.heap.size:=Nat.le_trans hB hat.kept.size;clear hat hkp;generalize more[k].1=sk at *;generalize more[k].2=sp at *;generalize iV keys i more k=ks at *;generalize iU kids i more k=ds at *;obtain⟨ks',hks⟩:∃ks',iV keys i more (k+1)=ks':=⟨_,rfl⟩;obtain⟨ds',hds⟩:∃ds',iU kids i more (k+1)=ds':=⟨_,rfl⟩;rw[hks] at HK1 L1s;rw[hds] at HK2 L2s;have HE:=aA (And.intro hks hds);clear hks hds;obtain⟨p,hp⟩:∃p,p=i+k:=⟨_,rfl⟩;obtain⟨p1,hp1⟩:∃p1,p1=i+k+1:=⟨_,rfl⟩;rw[<-hp1] at HK2;rw[<-hp] at HK1;have x1:IntKind.i64.wrap ((i:Int)+(k:Int))=(p:Int):=by rw[IntKind.wrap_i64];omega
   have x2:IntKind.i64.wrap ((p:Int)+1)=(p1:Int):=by rw[IntKind.wrap_i64];omega
   have hpl:p<=ks.length:=by have:=L1.out;omega
   have hpl1:p1<=ds.length:=by have:=L2.out;omega
   have z1:(ks.length+1)*8<=140737488351232:=by have:=L1.out;omega
   have z2:(ds.length+1)*8<=140737488351232:=by have:=L2.out;omega
   have z3:Hid (ks'.length=ks.length+1):=by show _=_;rw[L1.out,L1s.out];omega
   have z4:Hid (ds'.length=ds.length+1):=by show _=_;rw[L2.out,L2s.out];omega
   have HP:Hid (p=i+k/\p1=i+k+1):=⟨hp,hp1⟩;clear hp hp1 L1 L2 L1s L2s;have hb1:∀o1 o2:Obj,Below wr.heap.size wr ((wr.alloc o1).drew.alloc o2):=fun o1 o2=>(((Below.refl _ _).alloc (Nat.le_refl _) _).drew).alloc (by simp) _
   have hv1:∀o1:Obj,RowL ((wr.alloc o1).drew.alloc (.cells #[.int .i64 sk] 3)) (wr.heap.size+1) 3 [.int .i64 sk]:=fun o1=>by
    have h:=aG (wr.alloc o1).drew [.int .i64 sk] 3
    rwa [show(wr.alloc o1).drew.heap.size=wr.heap.size+1 by simp] at h
   have hnk1:wr.heap.size+1∉obk kA':=fun e=>by have:=HA.out.lt.1 _ e;omega
   go_upto_region 3 with fail
   go_cut [10] from 10 to 44 (fun v wc=>v=.int .i64 (k:Int)/\RowL wc wr.heap.size 227 [.int .i64 sk,.int .i64 sp]/\∃kA2 kC2,AdAt base w nb no t vs kA dA wc kA2 kC2 ks' dA' dC' ds)
   case first=>
    go_region_with (go_at_call 171;refine(q2g base kA' kC' (wr.heap.size+1) 1 ks p sk _ (dI HA.out.ok (hb1 _ _)) hpl (hv1 _) hnk1 (by simp;omega) z1).mono ?_;rintro e w2 ⟨A2,C2,rfl,hm2⟩;have q2:=hm2.kept.block nb (by simp;omega) HA.out.nk;have c2:w2.cell? ⟨nb,no+2,none⟩=some (.slice kA' ks.length kC'):=(World.cell?_of_block (a:=⟨nb,no+2,none⟩) q2).trans ((hb1 _ _).cell (p:=⟨nb,no+2,none⟩) hnl |>.trans n0);have f2:w2.frozen? ⟨nb,no+2,none⟩=false:=(World.frozen?_of_block (a:=⟨nb,no+2,none⟩) q2).trans ((hb1 _ _).frozen (p:=⟨nb,no+2,none⟩) hnl |>.trans (fz _));have HM:=aA hm2;clear hm2 q2)
    all_goals
     go_wp2
     go_meet
     case rel=>
      have hm2:=HM.out;rw[HK1.out] at hm2;exact⟨rfl,qod HA.out hm2.kept,A2,C2,HA.out.putK (hb1 _ _) hm2 z3.out⟩
   case rest=>
    obtain⟨rfl,hsr,kA2,kC2,hat2⟩:=hcut;have s0:=hsr.cell 0;have s1:=hsr.cell 1;simp only[List.getElem?_cons_zero,List.getElem?_cons_succ] at s0 s1;obtain⟨-,m1⟩:=hat2.cells hvl;have fz2:=hat2.row.frozen;have hnl2:=hat2.row.lt;have hsl:=hsr.lt;have hwc:=hat2.kept.size;have HA2:=aA hat2;clear hat2 hsr fz hb1 hv1;have hb1:∀o2:Obj,Below wc.heap.size wc (wc.drew.alloc o2):=fun o2=>((Below.refl _ _).drew).alloc (Nat.le_refl _) _
    have hv1:RowL (wc.drew.alloc (.cells #[.int .i64 sp] 3)) wc.heap.size 3 [.int .i64 sp]:=aG wc.drew [.int .i64 sp] 3;have hnk2:wc.heap.size∉obk dA':=fun e=>by have:=HA2.out.lt.2 _ e;omega
    go_upto_region 4 with fail
    go_region_with (go_at_call 171;refine(q2g base dA' dC' wc.heap.size 1 ds p1 sp _ (dI HA2.out.od (hb1 _)) hpl1 hv1 hnk2 (by simp;omega) z2).mono ?_;rintro e w3 ⟨A3,C3,rfl,hm3⟩;have q2:=hm3.kept.block nb (by simp;omega) HA2.out.nd;have c2:w3.cell? ⟨nb,no+3,none⟩=some (.slice dA' ds.length dC'):=(World.cell?_of_block (a:=⟨nb,no+3,none⟩) q2).trans ((hb1 _).cell (p:=⟨nb,no+3,none⟩) hnl2 |>.trans m1);have f2:w3.frozen? ⟨nb,no+3,none⟩=false:=(World.frozen?_of_block (a:=⟨nb,no+3,none⟩) q2).trans ((hb1 _).frozen (p:=⟨nb,no+3,none⟩) hnl2 |>.trans (fz2 _));have HM:=aA hm3;clear hm3 q2)
    all_goals
     go_wp2;go_roundw
     case rel=>
      have hm3:=HM.out;rw[HK2.out] at hm3;exact⟨k+1,kA2,kC2,A3,C3,by omega,by go_num,by rw[HE.out.1,HE.out.2];exact HA2.out.putD (hb1 _) hm3 z4.out⟩
     case measure=>simp[intOf];omega
  ·obtain rfl:k=more.length:=by omega
   go_wp2
   go_end0
   exact⟨rfl,kA',kC',dA',dC',hat⟩

end
section
open Go.RowKit Plain Go.Shelf

theorem qnw(A B:List En)(y x:En)(a:Nat)(ha:A.length*7=a):
  (((((((aB (A++y::B)).set a (.int .i64 x.key)).set (a+1) (.int .i64 x.c)).set (a+2) (.int .i64 x.s)).set (a+3) (.int .i64 x.lo)).set (a+4) (.int .i64 x.hi)).set (a+5) (.int .i64 x.t)).set (a+6) (.int .i64 x.l)=aB (A++x::B):=by
 have h:(aB A).length=a:=by rw[gZ];exact ha
 rw[jS,jS,aB,aB];rw[List.set_append_right _ _ (by omega),List.set_append_right _ _ (by omega),List.set_append_right _ _ (by omega),List.set_append_right _ _ (by omega),List.set_append_right _ _ (by omega),List.set_append_right _ _ (by omega),List.set_append_right _ _ (by omega),h]
 simp only[Nat.add_sub_cancel_left,Nat.sub_self]
 rfl

theorem qo5(xs:List En)(i:Nat)(x:En)(hi:i<xs.length):
  (((((((aB xs).set (i*7) (.int .i64 x.key)).set (i*7+1) (.int .i64 x.c)).set (i*7+2) (.int .i64 x.s)).set (i*7+3) (.int .i64 x.lo)).set (i*7+4) (.int .i64 x.hi)).set (i*7+5) (.int .i64 x.t)).set (i*7+6) (.int .i64 x.l)=aB (xs.set i x):=by
 have e1:xs=xs.take i++xs[i]::xs.drop (i+1):=by rw[List.getElem_cons_drop,List.take_append_drop]
 have e2:xs.set i x=xs.take i++x::xs.drop (i+1):=by rw[List.set_eq_take_append_cons_drop,if_pos hi]
 rw[e2]
 conv=>lhs;rw[e1]
 exact qnw _ _ xs[i] x _ (by rw[List.length_take];omega)

def qn8(w:World)(g a:Nat)(x:En):World:=((((((w.setCell ⟨g,a,none⟩ (.int .i64 x.key)).setCell ⟨g,a+1,none⟩ (.int .i64 x.c)).setCell ⟨g,a+2,none⟩ (.int .i64 x.s)).setCell ⟨g,a+3,none⟩ (.int .i64 x.lo)).setCell ⟨g,a+4,none⟩ (.int .i64 x.hi)).setCell ⟨g,a+5,none⟩ (.int .i64 x.t)).setCell ⟨g,a+6,none⟩ (.int .i64 x.l)

theorem qkl{w:World}{base g C i:Nat}{xs:List En}{x:En}(h:w.ownsRow base 132 7 (.slice (some ⟨g,0,none⟩) xs.length C) xs.length (aB xs))(hi:i<xs.length):
  (qn8 w g (i*7) x).ownsRow base 132 7 (.slice (some ⟨g,0,none⟩) (xs.set i x).length C) (xs.set i x).length (aB (xs.set i x)):=by
 rw[<-qo5 xs i x hi,List.length_set];exact iC (iC (iC (iC (iC (iC (iC h _ _) _ _) _ _) _ _) _ _) _ _) _ _

theorem pW{g:Nat}{w wr:World}(h:Kept [g] w wr)(a:Nat)(v:Value):Kept [g] w (wr.setCell ⟨g,a,none⟩ v):=
 ⟨h.os,h.tape,h.output,by simpa using h.size,fun k hk hne=>(Below.heap_setCell _ _ _ _ (show k≠g from fun e=>hne (by simp[e]))).trans (h.block k hk hne)⟩

theorem qi0{g:Nat}{w wr:World}(h:Kept [g] w wr)(a:Nat)(x:En):Kept [g] w (qn8 wr g a x):=by
 unfold qn8;exact pW (pW (pW (pW (pW (pW (pW h _ _) _ _) _ _) _ _) _ _) _ _) _ _

structure Dl(del:En->Bool)(xs:List En)(i j:Nat)(R:List En):Prop where
 len:R.length=xs.length
 lt:i<j
 le:j<=xs.length
 tk:R.take i=(xs.take j).filter fun x=>!del x
 dr:R.drop j=xs.drop j

theorem Dl.get{del:En->Bool}{xs R:List En}{i j:Nat}(h:Dl del xs i j R)(hj:j<xs.length):R[j]'(by rw[h.len];exact hj)=xs[j]:=by
 have h1:R[j]? =xs[j]? :=by
  have e:(R.drop j)[0]? =(xs.drop j)[0]? :=by rw[h.dr]
  simpa using e
 rw[List.getElem?_eq_getElem (by rw[h.len];exact hj),List.getElem?_eq_getElem hj] at h1
 exact Option.some.inj h1

theorem Dl.start{del:En->Bool}{xs:List En}{k:Nat}(hk:k<xs.length)(hd:del xs[k]=true)(hn:∀x∈xs.take k,del x=false):Dl del xs k (k+1) xs:=by
 refine⟨rfl,by omega,hk,?_,rfl⟩
 rw[List.take_succ_eq_append_getElem hk,List.filter_append,List.filter_eq_self.2 (fun x hx=>by rw[hn x hx];rfl)]
 simp[hd]

theorem Dl.skip{del:En->Bool}{xs R:List En}{i j:Nat}(h:Dl del xs i j R)(hj:j<xs.length)(hd:del xs[j]=true):Dl del xs i (j+1) R:=by
 refine⟨h.len,by have:=h.lt;omega,hj,?_,?_⟩
 ·rw[List.take_succ_eq_append_getElem hj,List.filter_append,<-h.tk];simp[hd]
 ·have:=h.dr;rw[<-List.drop_drop,<-List.drop_drop,this]

theorem Dl.keep{del:En->Bool}{xs R:List En}{i j:Nat}(h:Dl del xs i j R)(hj:j<xs.length)(hd:del xs[j]=false):Dl del xs (i+1) (j+1) (R.set i xs[j]):=by
 have hl:=h.lt;have hn:=h.len;refine⟨by rw[List.length_set,hn],by omega,hj,?_,?_⟩
 ·rw[List.take_succ_eq_append_getElem hj,List.filter_append,<-h.tk,List.take_succ_eq_append_getElem (show i<(R.set i xs[j]).length by rw[List.length_set];omega),List.take_set_of_le (Nat.le_refl _)]
  simp[hd]
 ·rw[List.drop_set_of_lt (by omega),<-List.drop_drop,<-List.drop_drop,h.dr]

theorem Dl.done{del:En->Bool}{xs R:List En}{i:Nat}(h:Dl del xs i xs.length R):R.take i=xs.filter fun x=>!del x:=by
 have:=h.tk
 rwa [List.take_length] at this

theorem Dl.count{del:En->Bool}{xs R:List En}{i:Nat}(h:Dl del xs i xs.length R):(xs.filter fun x=>!del x).length=i:=by
 rw[<-h.done,List.length_take];have:=h.lt;have:=h.len;omega

theorem qqb(n:Nat):(Builtin.zeroCells (Value.agg #[.int .i64 0,.int .i64 0,.int .i64 0,.int .i64 0,.int .i64 0,.int .i64 0,.int .i64 0]).cells n).toList=List.replicate (n*7) (.int .i64 0):=by
 have hz:(Value.agg #[.int .i64 0,.int .i64 0,.int .i64 0,.int .i64 0,.int .i64 0,.int .i64 0,.int .i64 0]).cells=#[.int .i64 0,.int .i64 0,.int .i64 0,.int .i64 0,.int .i64 0,.int .i64 0,.int .i64 0]:=by simp[Value.cells]
 rw[hz];apply List.ext_getElem
 ·simp[Builtin.zeroCells]
 ·intro i h1 h2;have h3:i%7=0\/i%7=1\/i%7=2\/i%7=3\/i%7=4\/i%7=5\/i%7=6:=by omega
  rcases h3 with h3|h3|h3|h3|h3|h3|h3<;>simp[Builtin.zeroCells,h3]

theorem qdx(w:World)(ty:TypeId)(b o n c:Nat)(hn:0<n)
  (hc:∀j,j<n*7->(w.cell? ⟨b,o+j,none⟩).isSome=true) (hf:∀j,j<n*7->w.frozen? ⟨b,o+j,none⟩=false):
  (Builtin.clear_ #[103] ty #[.slice (some ⟨b,o,none⟩) n c]).run Tryz.prog w=.ok (.tuple #[]) (w.setCells b o (List.replicate (n*7) (.int .i64 0))):=by
 have hst:=run_storeCells_cells (P:=Tryz.prog) b o (List.replicate (n*7) (.int .i64 0)) 0 w (by simpa using hc) (by simpa using hf) (by intro v hv';rw[List.eq_of_mem_replicate hv'];rfl)
 simp only[Nat.add_zero] at hst;obtain⟨m,rfl⟩:∃m,n=m+1:=⟨n-1,by omega⟩
 simp[Builtin.clear_,run_underlying Tryz.underlying103,qqb,hst]

theorem qaj:∀(vs l:List Value) (o k:Nat),k<=o->(ovr l o vs).take k=l.take k
 |[],_,_,_,_=>rfl
 |v::r,l,o,k,h=>by
  rw[ovr,qaj r _ _ _ (by omega),List.take_set_of_le h]

theorem qfa{w:World}{base g C n i m:Nat}{xs:List En}{zs:List Value}(h:w.ownsRow base 132 7 (.slice (some ⟨g,0,none⟩) n C) n (aB xs))(hn:xs.length=n)(hi:i<=n)(hm:m=i):
  (w.setCells g (i*7) zs).ownsRow base 132 7 (.slice (some ⟨g,0,none⟩) m C) m (aB (xs.take i)):=by
 subst hm;refine⟨by rw[gZ,List.length_take];omega,.inr ?_⟩
 rcases h.2 with⟨hv,_⟩|⟨g',cap,cur,hv,hb,hg,hl,hmm,hs,ht⟩
 ·cases hv
 ·cases hv;have h1:=kU g 132 zs (m*7) cur w hg;refine⟨g,C,_,rfl,hb,h1,by omega,hmm,by simp[kW,hs],?_⟩
  rw[vZ,<-ht,List.take_take,Nat.min_eq_left (by omega)]
  show(ovr cur.toList (m*7) zs).take (m*7)=_;exact qaj _ _ _ _ (Nat.le_refl _)

def oldB(t:Int)(x:En):Bool:=decide (x.key%1048576<t)

set_option maxRecDepth 20000 in
set_option maxHeartbeats 1000000 in
theorem q7j(key c s lo hi tt l:Int)(tb:Nat)(t:Int)(w:World)(hx:0<=key/\key<1099511627776)(ht:w.cell? ⟨tb,0,none⟩=some (.int .i64 t)):
  Calls Tryz.prog 122 #[.agg #[.int .i64 key,.int .i64 c,.int .i64 s,.int .i64 lo,.int .i64 hi,.int .i64 tt,.int .i64 l],.pointer (some ⟨tb,0,none⟩)] w fun e w'=>e=.returned (.bool (oldB t ⟨key,c,s,lo,hi,tt,l⟩))/\Below w.heap.size w w':=by
 have b0:∀o:Obj,Below w.heap.size w (w.alloc o):=fun o=>(Below.refl _ _).alloc (Nat.le_refl _) o
 have hl:tb<w.heap.size:=World.block_lt_of_cell? _ _ ht;have con:=aI fun W=>jF key W hx
 show Calls _ _ _ _ fun e w'=>e=.returned (.bool (decide (key%1048576<t)))/\_
 clear hx
 go_enter Tryz.func122,Tryz.ntmps122
 go_wp2_with fail
 go_quiet (refine Calls.quiet_of ((con.out _).mono (fun _ _ h=>⟨h.1,0,h.2⟩)))
 go_wp2;go_ret;exact⟨rfl,jU (b0 _) _⟩

def qqz(del:En->Bool)(xs:List En)(z:Int):Prop:=(z=-1/\∀x∈xs,del x=false)\/∃k:Nat,z=k/\∃h:k<xs.length,del xs[k]=true/\∀x∈xs.take k,del x=false

set_option maxRecDepth 20000 in
set_option maxHeartbeats 2000000 in
theorem qb1(A:Option Addr)(C:Nat)(xs:List En)(tb:Nat)(t:Int)(w:World)(h:aH w.heap.size w A (aB xs))(hz:xs.length*56<=140737488351232)(hk:∀x∈xs,0<=x.key/\x.key<1099511627776)(ht:w.cell? ⟨tb,0,none⟩=some (.int .i64 t)):
  Calls Tryz.prog 147 #[.slice A xs.length C,.func (.func 122) #[] #[.pointer (some ⟨tb,0,none⟩)]] w
   fun e w'=>∃z,e=.returned (.int .i64 z)/\qqz (oldB t) xs z/\Below w.heap.size w w':=by
 have htl:tb<w.heap.size:=World.block_lt_of_cell? _ _ ht
 go_enter Tryz.func147,Tryz.ntmps147
 go_wp2_with fail
 go_loopw [5,8] (fun _ vi wr=>∃k:Nat,k<=xs.length/\vi=.int .i64 (k:Int)/\Hid (∀x∈xs.take k,oldB t x=false)/\Below w.heap.size w wr) (fun _ vi _=>xs.length-(intOf vi).toNat)
 case atStart=>exact⟨0,Nat.zero_le _,rfl,fun x hx=>by simp at hx,Below.refl _ _⟩
 case round=>
  obtain⟨k,hkn,rfl,HI,hb⟩:=hrel
  by_cases hlt:k<xs.length
  ·obtain⟨b,o,rfl,hbl,hat⟩:=(h.below hb (Nat.le_refl _)).en hlt;have hbw:b<wr.heap.size:=Nat.lt_of_lt_of_le hbl hb.size;have hkx:=hk _ (List.getElem_mem hlt)
   have HX:Hid (∀v,oldB t xs[k]=v->v=false->∀x∈xs.take (k+1),oldB t x=false):=fun v e1 e2 x hx=>by
    rw[List.take_succ_eq_append_getElem hlt] at hx;rcases List.mem_append.1 hx with hx|hx
    ·exact HI.out x hx
    ·obtain rfl:x=xs[k]:=by simpa using hx
     rw[e1,e2]
   have HY:Hid (oldB t xs[k]=true->qqz (oldB t) xs (k:Int)):=fun e=>.inr ⟨k,rfl,hlt,e,HI.out⟩
   obtain⟨x,hx⟩:∃x,xs[k]=x:=⟨_,rfl⟩;rw[hx] at hat hkx HX HY;clear hx;obtain⟨key,c,s,lo,hi,tt,l⟩:=x;obtain⟨c0,c1,c2,c3,c4,c5,c6⟩:=hat;simp only at c0 c1 c2 c3 c4 c5 c6 hkx;have q0:(0:Int)<=(k:Int):=by omega
   have q1:(k:Int)<(xs.length:Int):=by omega
   have hcon:=q7j key c s lo hi tt l tb t wr hkx ((hb.cell (p:=⟨tb,0,none⟩) htl).trans ht);generalize oldB t ⟨key,c,s,lo,hi,tt,l⟩=v at hcon HX HY;have HC:=aI hcon;clear hcon hkx h hk ht;cases v with
   |true=>
    go_wp2_with (go_at_call 122;refine HC.out.mono ?_;rintro e w1 ⟨rfl,hb1⟩);go_ret;exact⟨_,rfl,HY.out (by simp),aC hb (Nat.le_refl _) hb1⟩
   |false=>
    go_wp2_with (go_at_call 122;refine HC.out.mono ?_;rintro e w1 ⟨rfl,hb1⟩);go_roundw
    case rel=>exact⟨k+1,hlt,by go_num,HX.out false (by simp) (by simp),aC hb (Nat.le_refl _) hb1⟩
    case measure=>simp[intOf];omega
  ·have hlt':¬((k:Int)<(xs.length:Int)):=by omega
   go_wp2_with fail;go_ret;refine⟨_,rfl,.inl ⟨rfl,fun x hx=>HI.out x ?_⟩,hb⟩
   rw[List.take_of_length_le (by omega)]
   exact hx

theorem qci{g:Nat}{w wr:World}(h:Kept [g] w wr)(a:Nat)(vs:List Value):Kept [g] w (wr.setCells g a vs):=h.trans (kS g vs a wr)

theorem q2s{ex:List Nat}{w wr w':World}(h:Kept ex w wr)(hb:Below wr.heap.size wr w'):Kept ex w w':=
 ⟨hb.os.trans h.os,hb.tape.trans h.tape,hb.output.trans h.output,Nat.le_trans h.size hb.size,fun k hk hne=>(hb.block k (Nat.lt_of_lt_of_le hk h.size)).trans (h.block k hk hne)⟩

set_option maxRecDepth 20000 in
set_option maxHeartbeats 4000000 in
theorem qjl(base g C:Nat)(xs:List En)(tb:Nat)(t:Int)(w:World)(h:w.ownsRow base 132 7 (.slice (some ⟨g,0,none⟩) xs.length C) xs.length (aB xs))(hz:xs.length*56<=140737488351232)(hk:∀x∈xs,0<=x.key/\x.key<1099511627776)(ht:w.cell? ⟨tb,0,none⟩=some (.int .i64 t))(htg:tb≠g):
  Calls Tryz.prog 121 #[.slice (some ⟨g,0,none⟩) xs.length C,.func (.func 122) #[] #[.pointer (some ⟨tb,0,none⟩)]] w
   fun e w'=>e=.returned (.slice (some ⟨g,0,none⟩) (xs.filter fun x=>!oldB t x).length C)/\w'.ownsRow base 132 7 (.slice (some ⟨g,0,none⟩) (xs.filter fun x=>!oldB t x).length C) (xs.filter fun x=>!oldB t x).length (aB (xs.filter fun x=>!oldB t x))/\Kept [g] w w':=by
 obtain⟨M,hM⟩:∃M,(xs.filter fun x=>!oldB t x)=M:=⟨_,rfl⟩
 rw[hM];have HM:=aI hM;clear hM;have htl:tb<w.heap.size:=World.block_lt_of_cell? _ _ ht;have gl:g<w.heap.size:=(h.lt g rfl).2
 have lC:xs.length<=C:=by
  obtain⟨A',C',e,_,hl,_⟩:=aP h;cases e;exact hl
 have HI:=aI (qb1 _ C xs tb t w (eG h).1 hz hk ht)
 go_enter Tryz.func121,Tryz.ntmps121
 have HW:=aI h;clear h;go_upto_region 2 with(first|(go_at_call 147;refine HI.out.mono ?_;rintro e w1 ⟨z,rfl,hI,hb1⟩))
 rcases hI with⟨rfl,hall⟩|⟨k,rfl,hkl,hd,hn⟩
 ·go_wp2_with fail;go_ret
  have e:M=xs:=by
   rw[<-HM.out];exact List.filter_eq_self.2 fun x hx=>by rw[hall x hx];rfl
  subst e;exact⟨rfl,dI HW.out hb1,Kept.of_below hb1⟩
 ·have hk1:((k:Int)== -1)=false:=beq_eq_false_iff_ne.2 (by omega)
  have HS:=aI (Dl.start (del:=oldB t) hkl hd hn);have HB1:=aI hb1;clear hd hn hb1 HI;go_wp2_with fail
  go_loopw [5,6,7] (fun vi vj _ wr=>∃(i j:Nat) (R:List En),vi=.int .i64 (i:Int)/\vj=.int .i64 (j:Int)/\Dl (oldB t) xs i j R/\wr.ownsRow base 132 7 (.slice (some ⟨g,0,none⟩) R.length C) R.length (aB R)/\Kept [g] w wr) (fun _ vj _ _=>xs.length-(intOf vj).toNat)
  case atStart=>exact⟨k,k+1,xs,rfl,by go_num,HS.out,dI HW.out HB1.out,Kept.of_below HB1.out⟩
  case round=>
   obtain⟨i,j,R,rfl,rfl,hD,hown,hkp⟩:=hrel;have hij:=hD.lt;have hjn:=hD.le;have hRl:=hD.len;have gw:g<wr.heap.size:=Nat.lt_of_lt_of_le gl hkp.size;have tw:wr.cell? ⟨tb,0,none⟩=some (.int .i64 t):=(World.cell?_of_block (a:=⟨tb,0,none⟩) (hkp.block tb htl (by simp[htg]))).trans ht
   by_cases hlt:j<xs.length
   ·obtain⟨b,o,hA,hbl,hat⟩:=(eG hown).1.en (k:=j) (by omega)
    cases hA;rw[hD.get hlt] at hat;have hkx:=hk _ (List.getElem_mem hlt);have HK:=aI (fun e=>hD.keep hlt e)
    have HN:=aI (fun e=>hD.skip hlt e)
    obtain⟨x,hx⟩:∃x,xs[j]=x:=⟨_,rfl⟩;rw[hx] at hat hkx HK HN;clear hx;rw[Nat.zero_add] at hat;have q0:(0:Int)<=(j:Int):=by omega
    have q1:(j:Int)<(xs.length:Int):=by omega
    have q2:(0:Int)<=(i:Int):=by omega
    have q3:(i:Int)<(xs.length:Int):=by omega
    have k1:IntKind.i64.wrap ((i:Int)+1)=(i:Int)+1:=by rw[IntKind.wrap_i64];omega
    have k2:IntKind.i64.wrap ((j:Int)+1)=(j:Int)+1:=by rw[IntKind.wrap_i64];omega
    obtain⟨key,c,s,lo,hi,tt,l⟩:=x;obtain⟨c0,c1,c2,c3,c4,c5,c6⟩:=hat;simp only at c0 c1 c2 c3 c4 c5 c6 hkx;have hcon:=aI fun W (hW:Below wr.heap.size wr W)=>q7j key c s lo hi tt l tb t W hkx ((hW.cell (p:=⟨tb,0,none⟩) (Nat.lt_of_lt_of_le htl hkp.size)).trans tw)
    have HO:=aI hown;have HP:=aI hkp;obtain⟨v,hv⟩:∃v,oldB t ⟨key,c,s,lo,hi,tt,l⟩=v:=⟨_,rfl⟩;rw[hv] at hcon HK HN;have hiR:i<R.length:=by omega
    clear hkx hown hkp tw hk ht hv hD HW HS;cases v with
    |true=>
     clear HK;go_wp2_with (first|(go_at_call 122;refine(hcon.out _ ((Below.refl _ _).alloc (Nat.le_refl _) _)).mono ?_;rintro e w2 ⟨rfl,hb2⟩))
     go_roundw
     case rel=>
      have hb3:Below wr.heap.size wr w2:=aC ((Below.refl _ _).alloc (Nat.le_refl _) _) (Nat.le_refl _) hb2;exact⟨i,j+1,R,rfl,by go_num,HN.out (by simp),dI HO.out hb3,q2s HP.out hb3⟩
     case measure=>simp[intOf];omega
    |false=>
     clear HN;go_upto_region 9 with(first|(go_at_call 122;refine(hcon.out _ ((Below.refl _ _).alloc (Nat.le_refl _) _)).mono ?_;rintro e w2 ⟨rfl,hb2⟩))
     have hb3:Below wr.heap.size wr w2:=aC ((Below.refl _ _).alloc (Nat.le_refl _) _) (Nat.le_refl _) hb2;have O2:=aI (dI HO.out hb3);have P2:=aI (q2s HP.out hb3);have V2:RowL w2 wr.heap.size 132 [.int .i64 key,.int .i64 c,.int .i64 s,.int .i64 lo,.int .i64 hi,.int .i64 tt,.int .i64 l]:=(aG wr [.int .i64 key,.int .i64 c,.int .i64 s,.int .i64 lo,.int .i64 hi,.int .i64 tt,.int .i64 l] 132).below hb2 (by simp)
     have d0:=fun o=>V2.cell o
     have s2:wr.heap.size<w2.heap.size:=V2.lt;have g2:g<w2.heap.size:=by omega
     have f2:∀o,w2.frozen? ⟨g,o,none⟩=false:=fun o=>O2.out.frozenAt o
     have gn:¬wr.heap.size=g:=by omega
     have gn':¬g=wr.heap.size:=by omega
     have hz7:EnAt w2 g (i*7) (R[i]'hiR):=by
      obtain⟨b',o',hA',-,hat'⟩:=(eG O2.out).1.en hiR;cases hA';rw[Nat.zero_add] at hat';exact hat'
     obtain⟨z0,z1,z2,z3,z4,z5,z6⟩:=hz7;clear hb2 hb3 c0 c1 c2 c3 c4 c5 c6 V2;go_wp2_with fail;go_roundw
     case rel=>
      go_light;exact⟨i+1,j+1,R.set i ⟨key,c,s,lo,hi,tt,l⟩,by go_num,by go_num,HK.out (by simp),qkl (x:=⟨key,c,s,lo,hi,tt,l⟩) O2.out hiR,qi0 P2.out (i*7) ⟨key,c,s,lo,hi,tt,l⟩⟩
     case measure=>simp[intOf];omega
   ·obtain rfl:j=xs.length:=by omega
    have hlt':¬((xs.length:Int)<(xs.length:Int)):=by omega
    have hcnt:M.length=i:=by rw[<-HM.out];exact hD.count
    have hdone:R.take i=M:=hD.done.trans HM.out;have hCi:¬C=i:=by omega
    have hC0:¬C=0:=by omega
    have q2:(0:Int)<=(i:Int):=by omega
    have q3:(i:Int)<=(xs.length:Int):=by omega
    have q4:(i:Int)<=(C:Int):=by omega
    have hcell:∀m,m<(xs.length-i)*7->(wr.cell? ⟨g,i*7+m,none⟩).isSome=true:=fun m hm=>by
     have hfl:=gZ R;rcases(eG hown).1 with h0|⟨b',o',hA,_,hc⟩
     ·have:(aB R).length=0:=by rw[h0];rfl
      omega
     ·cases hA;have hlt2:i*7+m<(aB R).length:=by rw[hfl,hRl,Nat.sub_mul] at *;omega
      have:=hc (i*7+m) _ (List.getElem?_eq_getElem hlt2);rw[Nat.zero_add] at this;rw[this];rfl
    have hcl:=fun ty=>qdx wr ty g (i*7) (xs.length-i) (C-i) (by omega) hcell (fun m _=>hown.frozenAt _)
    have HO:=aI (qfa (zs:=List.replicate ((xs.length-i)*7) (.int .i64 0)) hown rfl (show i<=R.length by omega) rfl)
    have HP:=aI (qci hkp (i*7) (List.replicate ((xs.length-i)*7) (.int .i64 0)));have HD:=aI hdone;clear hcell hown hkp hdone hD hk ht HW HS tw HB1;go_wp2_with fail;go_ret;obtain rfl:=hcnt;refine⟨rfl,?_,HP.out⟩;have h9:=HO.out;rw[HD.out] at h9;exact h9

set_option maxRecDepth 20000 in
set_option maxHeartbeats 1000000 in
theorem qj4(base:Nat)(A:Option Addr)(C:Nat)(xs:List En)(tb:Nat)(t:Int)(w:World)(h:w.ownsRow base 132 7 (.slice A xs.length C) xs.length (aB xs))(hz:xs.length*56<=140737488351232)(hk:∀x∈xs,0<=x.key/\x.key<1099511627776)(ht:w.cell? ⟨tb,0,none⟩=some (.int .i64 t))(htg:∀g,A=some ⟨g,0,none⟩->tb≠g):
  Calls Tryz.prog 121 #[.slice A xs.length C,.func (.func 122) #[] #[.pointer (some ⟨tb,0,none⟩)]] w
   fun e w'=>e=.returned (.slice A (xs.filter fun x=>!oldB t x).length C)/\w'.ownsRow base 132 7 (.slice A (xs.filter fun x=>!oldB t x).length C) (xs.filter fun x=>!oldB t x).length (aB (xs.filter fun x=>!oldB t x))/\Kept (obk A) w w':=by
 rcases h.2 with⟨hv,hn⟩|⟨g,cap,cur,hv,hb,hg,hl,hm,hs,htk⟩
 ·have e0:xs=[]:=List.eq_nil_of_length_eq_zero hn;subst e0;obtain⟨rfl,rfl⟩:A=none/\C=0:=by simpa using hv
  have HI:=aI (qb1 none 0 [] tb t w (.inl rfl) (by simp) hk ht)
  go_enter Tryz.func121,Tryz.ntmps121
  go_upto_region 2 with(first|(go_at_call 147;refine HI.out.mono ?_;rintro e w1 ⟨z,rfl,hI,hb1⟩))
  rcases hI with⟨rfl,hall⟩|⟨k,rfl,hkl,hd,hn⟩
  ·go_wp2_with fail;go_ret;exact⟨rfl,World.ownsRow_nil _ _ _ _,Kept.of_below hb1⟩
  ·simp at hkl
 ·obtain⟨rfl,rfl⟩:A=some ⟨g,0,none⟩/\C=cap:=by simpa using hv
  exact qjl base g C xs tb t w h hz hk ht (htg g rfl)

end
end Go.Proofs.YtlojfgdpmaigmagGreatDoor

/- The document's AllOf. -/
import Derived.Test.YtlojfgdpmaigmafGreatDoorP15
import Derived.Test.YtlojfgdpmaigmafGreatDoorP16
namespace Go.Proofs.YtlojfgdpmaigmafGreatDoor
section
open Go.RowKit Plain

def gotA(ns:List Nd)(key:Int):Ru × Int:=
 match allR key (key+1) (ns.flatMap Nd.lst) with
 |none=>(zro,1)
 |some []=>(zro,0)
 |some (y::_)=>(y.ru,0)
def gotP(ns:List Nd)(root key:Int):Ru × Int:=
 if q1k ns root≠0 then(zro,q1k ns root) else if inB key 0 1099511627775=true then gotA ns key else(zro,2)

def ruV(r:Ru):List Value:=[.int .i64 r.c,.int .i64 r.s,.int .i64 r.lo,.int .i64 r.hi,.int .i64 r.t,.int .i64 r.l]

structure KAt(bk bc:Nat)(w:World)(s:Ru × Int):Prop where
 ne:bk≠bc
 rk:RowL w bk 49 (ruV s.1)
 rc:RowL w bc 30 [.int .i64 s.2]

def q2y(s:Ru × Int)(x:En):Ru × Int:=if s.2=0 then mrg s.1 x.ru else s

theorem KAt.below{bk bc:Nat}{w w':World}{s:Ru × Int}(h:KAt bk bc w s)(hb:Below w.heap.size w w'):KAt bk bc w' s:=
 ⟨h.ne,h.rk.below hb h.rk.lt,h.rc.below hb h.rc.lt⟩

theorem KAt.set{bk bc:Nat}{w:World}{s:Ru × Int}(h:KAt bk bc w s)(r:Ru)(e:Int):
  KAt bk bc (((((((w.setCell ⟨bk,0,none⟩ (.int .i64 r.c)).setCell ⟨bk,1,none⟩ (.int .i64 r.s)).setCell ⟨bk,2,none⟩ (.int .i64 r.lo)).setCell ⟨bk,3,none⟩ (.int .i64 r.hi)).setCell ⟨bk,4,none⟩ (.int .i64 r.t)).setCell ⟨bk,5,none⟩ (.int .i64 r.l)).setCell ⟨bc,0,none⟩ (.int .i64 e)) (r,e):=by
 have far:∀(W:World) (j:Nat) (v:Value),(W.setCell ⟨bk,j,none⟩ v).heap[bc]? =W.heap[bc]? :=fun W j v=>Below.heap_setCell _ _ _ _ (fun q=>h.ne q.symm)
 refine⟨h.ne,?_,?_⟩
 ·exact((((((h.rk.set 0 _).set 1 _).set 2 _).set 3 _).set 4 _).set 5 _).of_block (Below.heap_setCell _ _ _ _ h.ne)
 ·exact((((((h.rc.of_block (far _ _ _)).of_block (far _ _ _)).of_block (far _ _ _)).of_block (far _ _ _)).of_block (far _ _ _)).of_block (far _ _ _)).set 0 (.int .i64 e)

set_option maxRecDepth 20000 in
set_option maxHeartbeats 4000000 in
theorem qtr(x:En)(bk bc:Nat)(s:Ru × Int)(w:World)(h:KAt bk bc w s)(he:s.2≠0):
  Calls Tryz.prog 132 #[.agg #[.int .i64 x.key,.int .i64 x.c,.int .i64 x.s,.int .i64 x.lo,.int .i64 x.hi,.int .i64 x.t,.int .i64 x.l],.pointer (some ⟨bc,0,none⟩),.pointer (some ⟨bk,0,none⟩)] w
   fun e w'=>e=.returned (.tuple #[])/\KAt bk bc w' s/\Kept [bk,bc] w w':=by
 have ce:w.cell? ⟨bc,0,none⟩=some (.int .i64 s.2):=h.rc.cell 0
 have lc:=h.rc.lt
 have b0:∀o:Obj,Below w.heap.size w (w.alloc o):=fun o=>(Below.refl _ _).alloc (Nat.le_refl _) o
 have he':(s.2==0)=false:=by simpa using he
 go_enter Tryz.func132,Tryz.ntmps132
 go_wp2_with fail
 go_end0
 exact⟨rfl,h.below (b0 _),Kept.of_below (b0 _)⟩

set_option maxRecDepth 20000 in
set_option maxHeartbeats 4000000 in
theorem qta(x:En)(bk bc:Nat)(ru:Ru)(w:World)(h:KAt bk bc w (ru,0)):
  Calls Tryz.prog 132 #[.agg #[.int .i64 x.key,.int .i64 x.c,.int .i64 x.s,.int .i64 x.lo,.int .i64 x.hi,.int .i64 x.t,.int .i64 x.l],.pointer (some ⟨bc,0,none⟩),.pointer (some ⟨bk,0,none⟩)] w
   fun e w'=>e=.returned (.tuple #[])/\KAt bk bc w' (mrg ru x.ru)/\Kept [bk,bc] w w':=by
 have ce:w.cell? ⟨bc,0,none⟩=some (.int .i64 0):=h.rc.cell 0
 have c0:w.cell? ⟨bk,0,none⟩=some (.int .i64 ru.c):=h.rk.cell 0
 have c1:w.cell? ⟨bk,1,none⟩=some (.int .i64 ru.s):=h.rk.cell 1
 have c2:w.cell? ⟨bk,2,none⟩=some (.int .i64 ru.lo):=h.rk.cell 2
 have c3:w.cell? ⟨bk,3,none⟩=some (.int .i64 ru.hi):=h.rk.cell 3
 have c4:w.cell? ⟨bk,4,none⟩=some (.int .i64 ru.t):=h.rk.cell 4
 have c5:w.cell? ⟨bk,5,none⟩=some (.int .i64 ru.l):=h.rk.cell 5
 have lc:=h.rc.lt
 have lk:=h.rk.lt
 have ne:=h.ne
 have ne':¬bc=bk:=fun q=>ne q.symm
 have HK:Hid (KAt bk bc w (ru,0)):=h
 clear h
 have b0:∀o:Obj,Below w.heap.size w (w.alloc o):=fun o=>(Below.refl _ _).alloc (Nat.le_refl _) o
 go_enter Tryz.func132,Tryz.ntmps132
 go_wp2_with (first|(go_at_call 67;refine(q6z ru x.ru _).mono ?_;rintro e w1 ⟨rfl,hb1⟩;have hbw:Below w.heap.size w w1:=q0e (b0 _) (Nat.le_refl _) hb1;have K1:Hid (KAt bk bc w1 (ru,0)):=HK.out.below hbw;have d0:=fun j=>K1.out.rk.cell j;have df:=fun j=>K1.out.rk.frozen j;have e0:=fun j=>K1.out.rc.cell j;have ef:=fun j=>K1.out.rc.frozen j;simp only[ruV] at d0;clear ce c0 c1 c2 c3 c4 c5 hb1))
 go_end0
 have m1:bk∈[bk,bc]:=by simp
 have m2:bc∈[bk,bc]:=by simp
 exact⟨rfl,K1.out.set (mrg ru x.ru).1 (mrg ru x.ru).2,(((((((Kept.of_below hbw).set (.inl m1) _).set (.inl m1) _).set (.inl m1) _).set (.inl m1) _).set (.inl m1) _).set (.inl m1) _).set (.inl m2) _⟩

theorem qsq(x:En)(bk bc:Nat)(s:Ru × Int)(w:World)(h:KAt bk bc w s):
  Calls Tryz.prog 132 #[.agg #[.int .i64 x.key,.int .i64 x.c,.int .i64 x.s,.int .i64 x.lo,.int .i64 x.hi,.int .i64 x.t,.int .i64 x.l],.pointer (some ⟨bc,0,none⟩),.pointer (some ⟨bk,0,none⟩)] w
   fun e w'=>e=.returned (.tuple #[])/\KAt bk bc w' (q2y s x)/\Kept [bk,bc] w w':=by
 unfold q2y
 by_cases he:s.2=0
 ·rw[if_pos he]
  obtain⟨ru,e⟩:=s
  simp only at he
  subst he
  exact qta x bk bc ru w h
 ·rw[if_neg he]
  exact qtr x bk bc s w h he

end
section
open Go.RowKit Plain

structure Turned(X:World->Nat->Prop)(w w':World):Prop where
 os:w'.os=w.os
 tape:w'.tape=w.tape
 output:w'.output=w.output
 size:w.heap.size<=w'.heap.size
 block:∀k,k<w.heap.size->¬X w k->w'.heap[k]? =w.heap[k]?
 back:∀k,k<w.heap.size->X w' k->X w k

section
variable {X : World -> Nat -> Prop} {w w' w'' : World}
theorem Turned.refl(X:World->Nat->Prop)(w:World):Turned X w w:=⟨rfl,rfl,rfl,Nat.le_refl _,fun _ _ _=>rfl,fun _ _ h=>h⟩
theorem Turned.trans(h:Turned X w w')(k:Turned X w' w''):Turned X w w'':=
 ⟨k.os.trans h.os,k.tape.trans h.tape,k.output.trans h.output,Nat.le_trans h.size k.size,
 fun i hi hx=>(k.block i (Nat.lt_of_lt_of_le hi h.size) (fun hx'=>hx (h.back i hi hx'))).trans (h.block i hi hx),
 fun i hi hx=>h.back i hi (k.back i (Nat.lt_of_lt_of_le hi h.size) hx)⟩
theorem Turned.of_below(h:Below w.heap.size w w')(hX:∀k,X w' k->X w k):Turned X w w':=
 ⟨h.os,h.tape,h.output,h.size,fun k hk _=>h.block k hk,fun k _ hx=>hX k hx⟩
theorem Turned.below(h:Turned X w w'){B:Nat}(hB:B<=w.heap.size)(hx:∀k,X w k->B<=k):Below B w w':=
 ⟨h.os,h.tape,h.output,h.size,fun k hk=>h.block k (by omega) (fun hm=>by have:=hx k hm;omega)⟩
theorem Turned.far(h:Turned X w w'){B:Nat}(hB:B<=w.heap.size)(hx:∀k,X w k->B<=k):∀k,X w' k->B<=k:=fun k hk=>by
 by_cases hl:k<w.heap.size
 ·exact hx k (h.back k hl hk)
 ·omega
theorem Turned.row(h:Turned X w w'){b:Nat}{t:TypeId}{vs:List Value}(hr:RowL w b t vs)(hx:¬X w b):RowL w' b t vs:=hr.of_block (h.block b hr.lt hx)
end

structure Vis{σ:Type}(F:FuncId)(cap:Array Value)(I:World->σ->Prop)(X:World->Nat->Prop)(step:σ->En->σ):Prop where
 call:∀(x:En) (s:σ) (w:World),I w s->Calls Tryz.prog F (#[.agg #[.int .i64 x.key,.int .i64 x.c,.int .i64 x.s,.int .i64 x.lo,.int .i64 x.hi,.int .i64 x.t,.int .i64 x.l]]++cap) w
  fun e w'=>e=.returned (.tuple #[])/\I w' (step s x)/\Turned X w w'
 stay:∀(s:σ) (w w':World),I w s->Below w.heap.size w w'->I w' s
 same:∀(s:σ) (w w':World),I w s->Below w.heap.size w w'->∀k,X w' k->X w k
 lt:∀(s:σ) (w:World),I w s->∀k,X w k->k<w.heap.size

def XK(bk bc:Nat):World->Nat->Prop:=fun _ k=>k=bk\/k=bc

theorem visK(bk bc:Nat):Vis 132 #[.pointer (some ⟨bc,0,none⟩),.pointer (some ⟨bk,0,none⟩)] (KAt bk bc) (XK bk bc) q2y where
 call x s w h:=(qsq x bk bc s w h).mono fun e w' ⟨h1,h2,h3⟩=>⟨h1,h2,h3.os,h3.tape,h3.output,h3.size,fun k hk hx=>h3.block k hk (fun hm=>hx (by simpa [XK] using hm)),fun _ _ hx=>hx⟩
 stay _ _ _ h hb:=h.below hb
 same _ _ _ _ _ _ hx:=hx
 lt _ w h k hx:=by
  rcases hx with rfl|rfl
  ·exact h.rk.lt
  ·exact h.rc.lt

def Reach(ns:List Nd):Nat->Int->Prop
 |0,_=>False
 |f+1,n=>0<=n/\n<ns.length/\(ns.getD n.toNat default).kids.length<=(ns.getD n.toNat default).keys.length+1/\∀d∈(ns.getD n.toNat default).kids,Reach ns f d

def itK(g:Int->List En)(low high:Int)(kids keys:List Int)(pr:Option Int)(i:Nat):List En:=
 if q8f low high (if i=0 then pr else keys[i-1]?) keys[i]? =true then[] else g (kids.getD i 0)

theorem qao(g:Int->List En)(low high:Int):∀(kids keys:List Int) (pr:Option Int),WlK g low high kids keys pr=(List.range kids.length).flatMap (itK g low high kids keys pr)
 |[],_,_=>by simp[WlK]
 |d::ds,keys,pr=>by
  have ih:=qao g low high ds keys.tail keys.head?
  have e:∀i,itK g low high (d::ds) keys pr (i+1)=itK g low high ds keys.tail keys.head? i:=fun i=>by
   unfold itK
   cases i with
   |zero=>cases keys<;>simp
   |succ j=>cases keys<;>simp
  have e0:itK g low high (d::ds) keys pr 0=if q8f low high pr keys.head? =true then[] else g d:=by
   show(if q8f low high pr keys[0]? =true then[] else g d)=_
   rw[show keys[0]? =keys.head? by cases keys<;>rfl]
  rw[WlK,ih,List.length_cons,List.range_succ_eq_map,List.flatMap_cons,List.flatMap_map,e0]
  simp only[Nat.succ_eq_add_one,e]

theorem qxz(f:Nat->List En){i n:Nat}(h:i<=n):((List.range i).flatMap f).length<=((List.range n).flatMap f).length:=by
 obtain⟨d,rfl⟩:=Nat.le.dest h
 rw[List.range_add,List.flatMap_append,List.length_append]
 omega

theorem qwz{g:Int->Int->Int->St->Option (St × List Int)}:∀(ds keys:List Int) (lo hi:Int) (S:St) (r:St × List Int),Wk g ds keys lo hi S=some r->∀d∈ds,∃lo' hi' S' r',g d lo' hi' S'=some r'
 |[],_,_,_,_,_,_,d,hd=>by simp at hd
 |x::ds,keys,lo,hi,S,r,hr,d,hd=>by
  unfold Wk at hr
  split at hr
  ·cases hr
  ·rename_i S1 l1 h1
   rcases List.mem_cons.1 hd with rfl|hd
   ·exact⟨_,_,_,_,h1⟩
   ·split at hr
    ·cases hr
    ·rename_i S2 l2 h2
     exact qwz ds _ _ _ _ _ h2 d hd

theorem qgl{ns:List Nd}:∀(f:Nat) (n lo hi:Int) (S:St) (r:St × List Int),W ns f n lo hi S=some r->Reach ns f n:=by
 intro f
 induction f with
 |zero=>intro n lo hi S r h;cases h
 |succ f ih=>
  intro n lo hi S r h
  unfold W at h
  split at h
  ·cases h
  ·rename_i hc
   refine⟨by omega,by omega,?_⟩
   split at h
   ·split at h
    ·rename_i hl
     simp only[qa5,Bool.and_eq_true,List.isEmpty_iff] at hl
     obtain⟨⟨⟨⟨⟨h1,h2⟩,h3⟩,_⟩,_⟩,_⟩:=hl
     rw[h1,h2]
     simp
    ·cases h
   ·split at h
    ·rename_i hl
     simp only[q6x,Bool.and_eq_true,List.isEmpty_iff,beq_iff_eq] at hl
     obtain⟨⟨⟨⟨⟨h1,h2⟩,h3⟩,h4⟩,_⟩,_⟩:=hl
     refine⟨by omega,fun d hd=>?_⟩
     obtain⟨_,_,_,_,q⟩:=qwz _ _ _ _ _ _ h d hd
     exact ih _ _ _ _ _ q
    ·cases h

theorem q8j{ns:List Nd}{root:Int}(h:q1k ns root=0):∃r,W ns 12 root 0 1099511627776 []=some r:=by
 unfold q1k at h
 split at h
 ·omega
 ·cases hW:W ns 12 root 0 1099511627776 [] with
  |none=>rw[hW] at h;simp at h
  |some p=>exact⟨p,rfl⟩

end
section
open Go.RowKit Plain

def ansO:Option (List En)->Ru × Int
 |none=>(zro,1)
 |some []=>(zro,0)
 |some (y::_)=>(y.ru,0)

def RelO(key:Int)(o:Option (List En))(s:Ru × Int):Prop:=
 (o=some []/\s=(zro,0))\/(∃y,o=some [y]/\y.key=key/\Good y.ru/\s=(y.ru,0))\/(o=none/\s=(zro,1))

theorem qn8{key:Int}{o:Option (List En)}{s:Ru × Int}(h:RelO key o s):ansO o=s:=by
 rcases h with⟨rfl,rfl⟩|⟨y,rfl,_,_,rfl⟩|⟨rfl,rfl⟩<;>rfl

theorem qra{key:Int}{o:Option (List En)}{s:Ru × Int}(h:RelO key o s){x:En}(hk:x.key=key)(hg:Good x.ru):RelO key (insO o x) (q2y s x):=by
 rcases h with⟨rfl,rfl⟩|⟨y,rfl,hy,gy,rfl⟩|⟨rfl,rfl⟩
 ·refine .inr (.inl ⟨x,rfl,hk,hg,?_⟩)
  unfold q2y
  rw[if_pos rfl]
  exact qg9 hg
 ·have e:insO (some [y]) x=ins [y] x:=rfl
  rw[e,q2q (hy.trans hk.symm)]
  unfold q2y
  rw[if_pos rfl]
  show RelO key _ (mrg y.ru x.ru)
  rw[q8e gy hg]
  by_cases hc:y.c+x.c<=1073741824
  ·rw[if_pos hc,if_pos (show y.ru.c+x.ru.c<=1073741824 from hc)]
   exact .inr (.inl ⟨_,rfl,hk,q9d gy hg hc,rfl⟩)
  ·rw[if_neg hc,if_neg (show ¬y.ru.c+x.ru.c<=1073741824 from hc)]
   exact .inr (.inr ⟨rfl,rfl⟩)
 ·exact .inr (.inr ⟨rfl,rfl⟩)

theorem qah{key:Int}:∀(xs:List En) (o:Option (List En)) (s:Ru × Int),RelO key o s->(∀x∈xs,x.key=key/\Good x.ru)->RelO key (xs.foldl insO o) (xs.foldl q2y s)
 |[],_,_,h,_=>h
 |x::xs,o,s,h,hx=>qah xs _ _ (qra h (hx x (by simp)).1 (hx x (by simp)).2) (fun y hy=>hx y (by simp[hy]))

end
end Go.Proofs.YtlojfgdpmaigmafGreatDoor

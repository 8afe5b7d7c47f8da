/- Copies of rows, and rows of nodes. -/
import Derived.Test.YtlojfgdpmaigmagGreatDoorP07
import Derived.Laws.AppendOwnNone
import Derived.Deep.RegionHeld3
import Derived.Deep.Slices
import Derived.SizedLaws
import Derived.ChangeMaps5
namespace Go.Proofs.YtlojfgdpmaigmagGreatDoor
section
open Go.RowKit

theorem aC{B:Nat}{w cur w1:World}(h:Below B w cur)(hB:B<=w.heap.size)(hb:Below cur.heap.size cur w1):Below B w w1:=
 h.trans (hb.mono (Nat.le_trans hB h.size))

theorem aH.up{w cur:World}{A:Option Addr}{vs:List Value}(h:aH w.heap.size w A vs)(hb:Below w.heap.size w cur):aH cur.heap.size cur A vs:=
 (h.below hb (Nat.le_refl _)).mono hb.size

theorem iL(xs:List En):∀u∈aB xs,u.oneCell'=true:=by
 induction xs with
 |nil=>simp[aB]
 |cons x r ih=>
  intro u hu;simp only[aB,En.vals,List.cons_append,List.nil_append,List.mem_cons] at hu;rcases hu with h|h|h|h|h|h|h|h
  all_goals first|(subst h;rfl)|exact ih u h

theorem q5b(zs:List Int):∀u∈ints zs,u.oneCell'=true:=ints_oneCell _ _

theorem aP{w:World}{base:Nat}{e:TypeId}{size n:Nat}{v:Value}{vs:List Value}(h:w.ownsRow base e size v n vs):
  ∃A C,v=.slice A n C/\(A=none->C=0)/\n<=C/\C<=maxLen/\aH w.heap.size w A vs:=by
 rcases h.2 with⟨hv,hn⟩|⟨g,cap,cur,hv,hb,hg,hl,hm,hs,ht⟩
 ·subst hv hn;refine⟨none,0,rfl,fun _=>rfl,Nat.le_refl _,Nat.zero_le _,.inl ?_⟩
  have:=h.1
  simpa using this
 ·subst hv;refine⟨some ⟨g,0,none⟩,cap,rfl,(fun h=>by cases h),hl,hm,.inr ⟨g,0,rfl,(Array.getElem?_eq_some_iff.1 hg).1,fun j u hu=>?_⟩⟩
  have hj:j<n*size:=by
   have:=(List.getElem?_eq_some_iff.1 hu).1;rw[h.1] at this;exact this
  rw[Nat.zero_add,h.cellAt j hj];exact hu

theorem kK:(Tryz.prog.info? 132).map (fun i=>(i.zero,i.size,i.bytes))=some (some (.agg #[.int .i64 0,.int .i64 0,.int .i64 0,.int .i64 0,.int .i64 0,.int .i64 0,.int .i64 0]),7,56):=by kernel_rfl
theorem qnf:(Tryz.prog.info? 3).map (fun i=>(i.zero,i.size,i.bytes))=some (some (.int .i64 0),1,8):=by kernel_rfl

theorem qfq{w:World}{B:Nat}{ad:Addr}{vs:List Value}(h:aH B w (some ad) vs):∀j u,vs[j]? =some u->w.cell? (ad.add j)=some u:=by
 rcases h with h|⟨b,o,hA,_,hc⟩
 ·subst h;intro j u hu;simp at hu
 ·cases hA;intro j u hu;rw[WideShapes.add_plain];exact hc j u hu

set_option maxHeartbeats 400000 in
theorem vW(A:Option Addr)(C:Nat)(xs:List En)(w:World)(h:aH w.heap.size w A (aB xs))(hA:A=none->C=0)(hz:xs.length*56<=140737488351232):
  Calls Tryz.prog 137 #[.slice A xs.length C] w fun e w'=>∃v,e=.returned v/\w'.ownsRow w.heap.size 132 7 v xs.length (aB xs)/\Below w.heap.size w w':=by
 obtain⟨i0,hi,hz0,hz1,hz2⟩:=info_parts kK;cases A with
 |none=>
  have hx:xs=[]:=by
   rcases h with h|⟨b,o,hA,_⟩
   ·have:=gZ xs;rw[h] at this;simp at this;exact List.eq_nil_of_length_eq_zero (by omega)
   ·cases hA
  subst hx;obtain rfl:=hA rfl
  go_enter Tryz.func137,Tryz.ntmps137
  go_wp2_with (at_builtin;refine wpList_append_own_none rfl _ _ 103 rfl w.heap.size 132 i0 7 Tryz.underlying103 hi _ 0 [] rfl (World.ownsRow_nil _ _ _ _) rfl ?_);go_ret;exact⟨_,rfl,World.ownsRow_nil _ _ _ _,Below.refl _ _⟩
 |some ad=>
  go_enter Tryz.func137,Tryz.ntmps137
  go_wp2_with (at_builtin;refine wpList_append_own _ rfl _ _ 103 rfl w.heap.size 132 i0 _ 7 56 Tryz.underlying103 hi hz0 hz1 hz2 rfl (by decide) _ 0 [] rfl (World.ownsRow_nil _ _ _ _) ad xs.length C (aB xs) rfl (gZ xs) (qfq h) (iL xs) (by unfold maxLen;omega) (by omega) (Nat.le_refl _) ?_)
  intro v' w' hown hg _;go_wp2;go_ret;exact⟨_,rfl,hown,(Below.refl _ _).grown hg (Nat.le_refl _) (by simp[Value.ownBlock])⟩

set_option maxHeartbeats 400000 in
theorem q0k(A:Option Addr)(C:Nat)(zs:List Int)(w:World)(h:aH w.heap.size w A (ints zs))(hA:A=none->C=0)(hz:zs.length*8<=140737488351232):
  Calls Tryz.prog 138 #[.slice A zs.length C] w fun e w'=>∃v,e=.returned v/\w'.ownsRow w.heap.size 3 1 v zs.length (ints zs)/\Below w.heap.size w w':=by
 obtain⟨i0,hi,hz0,hz1,hz2⟩:=info_parts qnf;cases A with
 |none=>
  have hx:zs=[]:=by
   rcases h with h|⟨b,o,hA,_⟩
   ·simpa [ints] using h
   ·cases hA
  subst hx;obtain rfl:=hA rfl
  go_enter Tryz.func138,Tryz.ntmps138
  go_wp2_with (at_builtin;refine wpList_append_own_none rfl _ _ 50 rfl w.heap.size 3 i0 1 Tryz.underlying50 hi _ 0 [] rfl (World.ownsRow_nil _ _ _ _) rfl ?_);go_ret;exact⟨_,rfl,World.ownsRow_nil _ _ _ _,Below.refl _ _⟩
 |some ad=>
  go_enter Tryz.func138,Tryz.ntmps138
  go_wp2_with (at_builtin;refine wpList_append_own _ rfl _ _ 50 rfl w.heap.size 3 i0 _ 1 8 Tryz.underlying50 hi hz0 hz1 hz2 rfl (by decide) _ 0 [] rfl (World.ownsRow_nil _ _ _ _) ad zs.length C (ints zs) rfl (by simp[ints]) (qfq h) (q5b zs) (by unfold maxLen;omega) (by omega) (Nat.le_refl _) ?_)
  intro v' w' hown hg _;go_wp2;go_ret;exact⟨_,rfl,hown,(Below.refl _ _).grown hg (Nat.le_refl _) (by simp[Value.ownBlock])⟩

structure Nd where
 leaf:Bool
 ents:List En
 keys:List Int
 kids:List Int
 buf:List En
deriving DecidableEq,Inhabited

structure PN where
 leaf:Bool
 eA:Option Addr
 eC:Nat
 ents:List En
 kA:Option Addr
 kC:Nat
 keys:List Int
 dA:Option Addr
 dC:Nat
 kids:List Int
 bA:Option Addr
 bC:Nat
 buf:List En
deriving Inhabited

def PN.nd(p:PN):Nd:=⟨p.leaf,p.ents,p.keys,p.kids,p.buf⟩
def PN.vals(p:PN):List Value:=[.bool p.leaf,.slice p.eA p.ents.length p.eC,.slice p.kA p.keys.length p.kC,.slice p.dA p.kids.length p.dC,.slice p.bA p.buf.length p.bC]

structure PN.ok(B:Nat)(w:World)(p:PN):Prop where
 e:aH B w p.eA (aB p.ents)
 k:aH B w p.kA (ints p.keys)
 d:aH B w p.dA (ints p.kids)
 b:aH B w p.bA (aB p.buf)
 en:p.eA=none->p.eC=0
 kn:p.kA=none->p.kC=0
 dn:p.dA=none->p.dC=0
 bn:p.bA=none->p.bC=0
 ez:p.ents.length*56<=140737488351232
 kz:p.keys.length*8<=140737488351232
 dz:p.kids.length*8<=140737488351232
 bz:p.buf.length*56<=140737488351232

theorem PN.ok.below{B B':Nat}{w w':World}{p:PN}(h:p.ok B w)(hb:Below B' w w')(hB:B<=B'):p.ok B w':=
 ⟨h.e.below hb hB,h.k.below hb hB,h.d.below hb hB,h.b.below hb hB,h.en,h.kn,h.dn,h.bn,h.ez,h.kz,h.dz,h.bz⟩
theorem PN.ok.mono{B B':Nat}{w:World}{p:PN}(h:p.ok B w)(hB:B<=B'):p.ok B' w:=
 ⟨h.e.mono hB,h.k.mono hB,h.d.mono hB,h.b.mono hB,h.en,h.kn,h.dn,h.bn,h.ez,h.kz,h.dz,h.bz⟩

def bK:List PN->List Value
 |[]=>[]
 |x::r=>x.vals++bK r

theorem lT:∀ps:List PN,(bK ps).length=ps.length*5
 |[]=>rfl
 |x::r=>by simp[bK,PN.vals,lT r];omega

theorem sN:∀xs ys:List PN,bK (xs++ys)=bK xs++bK ys
 |[],_=>rfl
 |x::r,ys=>by simp[bK,sN r ys]

theorem wG(ps:List PN)(k j:Nat)(hk:k<ps.length)(hj:j<5):(bK ps)[k*5+j]? =(ps[k]).vals[j]? :=by
 induction ps generalizing k with
 |nil=>simp at hk
 |cons x r ih=>
  cases k with
  |zero=>simp only[bK];rw[List.getElem?_append_left (by simp[PN.vals];omega)];simp
  |succ k=>
   simp only[bK];rw[List.getElem?_append_right (by simp[PN.vals];omega)]
   have:=ih k (by simpa using hk)
   simp only[PN.vals,List.length_cons,List.length_nil] at *;rw[show(k+1)*5+j-(0+1+1+1+1+1)=k*5+j by omega]
   simpa using this

structure PnAt(w:World)(b o:Nat)(p:PN):Prop where
 c0:w.cell? ⟨b,o,none⟩=some (.bool p.leaf)
 c1:w.cell? ⟨b,o+1,none⟩=some (.slice p.eA p.ents.length p.eC)
 c2:w.cell? ⟨b,o+2,none⟩=some (.slice p.kA p.keys.length p.kC)
 c3:w.cell? ⟨b,o+3,none⟩=some (.slice p.dA p.kids.length p.dC)
 c4:w.cell? ⟨b,o+4,none⟩=some (.slice p.bA p.buf.length p.bC)

theorem aH.pn{B:Nat}{w:World}{A:Option Addr}{ps:List PN}(h:aH B w A (bK ps)){k:Nat}(hk:k<ps.length):
  ∃b o,A=some ⟨b,o,none⟩/\b<B/\PnAt w b (o+k*5) ps[k]:=by
 rcases h with h|⟨b,o,hA,hlt,hc⟩
 ·have:=lT ps;rw[h] at this;simp at this;omega
 ·refine⟨b,o,hA,hlt,?_⟩
  have g:∀j,j<5->∀u,(ps[k]).vals[j]? =some u->w.cell? ⟨b,o+k*5+j,none⟩=some u:=fun j hj u hu=>by
   have:=hc (k*5+j) u (by rw[wG ps k j hk hj];exact hu)
   rwa [<-Nat.add_assoc] at this
  exact⟨g 0 (by decide) _ rfl,g 1 (by decide) _ rfl,g 2 (by decide) _ rfl,g 3 (by decide) _ rfl,g 4 (by decide) _ rfl⟩

structure bF(B:Nat)(w:World)(A:Option Addr)(ps:List PN):Prop where
 row:aH B w A (bK ps)
 each:∀k (h:k<ps.length),(ps[k]).ok B w
 z:ps.length*104<=140737488351232

theorem bF.below{B B':Nat}{w w':World}{A:Option Addr}{ps:List PN}(h:bF B w A ps)(hb:Below B' w w')(hB:B<=B'):bF B w' A ps:=
 ⟨h.row.below hb hB,fun k hk=>(h.each k hk).below hb hB,h.z⟩
theorem bF.mono{B B':Nat}{w:World}{A:Option Addr}{ps:List PN}(h:bF B w A ps)(hB:B<=B'):bF B' w A ps:=
 ⟨h.row.mono hB,fun k hk=>(h.each k hk).mono hB,h.z⟩
theorem bF.up{w cur:World}{A:Option Addr}{ps:List PN}(h:bF w.heap.size w A ps)(hb:Below w.heap.size w cur):bF cur.heap.size cur A ps:=
 (h.below hb (Nat.le_refl _)).mono hb.size

theorem aY{W w1:World}{B:Nat}(hb:Below B W w1):(∀b o,b<B->w1.cell? ⟨b,o,none⟩=W.cell? ⟨b,o,none⟩)/\(∀b o,b<B->w1.frozen? ⟨b,o,none⟩=W.frozen? ⟨b,o,none⟩):=
 ⟨fun b o h=>hb.cell (p:=⟨b,o,none⟩) h,fun b o h=>hb.frozen (p:=⟨b,o,none⟩) h⟩

theorem aH.go{B B':Nat}{w w':World}{A:Option Addr}{vs:List Value}(h:aH B w A vs)(hb:Below B' w w')(hB:B<=B')(hw:B'<=w.heap.size):aH w'.heap.size w' A vs:=
 (h.below hb hB).mono (Nat.le_trans hB (Nat.le_trans hw hb.size))

theorem two{w:World}(a b:Obj):Below w.heap.size w ((w.alloc a).alloc b):=((Below.refl _ _).alloc (Nat.le_refl _) _).alloc (by simp) _

def RowL(w:World)(b:Nat)(t:TypeId)(vs:List Value):Prop:=w.heap[b]? =some (.cells vs.toArray t (0,0))

theorem RowL.lt{w:World}{b:Nat}{t:TypeId}{vs:List Value}(h:RowL w b t vs):b<w.heap.size:=(Array.getElem?_eq_some_iff.1 h).1

theorem RowL.of_block{w w':World}{b:Nat}{t:TypeId}{vs:List Value}(h:RowL w b t vs)(e:w'.heap[b]? =w.heap[b]?):RowL w' b t vs:=e.trans h

theorem RowL.below{w w':World}{b B:Nat}{t:TypeId}{vs:List Value}(h:RowL w b t vs)(hb:Below B w w')(hB:b<B):RowL w' b t vs:=h.of_block (hb.block b hB)

theorem RowL.cell{w:World}{b:Nat}{t:TypeId}{vs:List Value}(h:RowL w b t vs)(j:Nat):w.cell? ⟨b,j,none⟩=vs[j]? :=by
 unfold RowL at h;simp[World.cell?,h]

theorem RowL.frozen{w:World}{b:Nat}{t:TypeId}{vs:List Value}(h:RowL w b t vs)(j:Nat):w.frozen? ⟨b,j,none⟩=false:=by
 unfold RowL at h;simp[World.frozen?,h]

theorem RowL.set{w:World}{b:Nat}{t:TypeId}{vs:List Value}(h:RowL w b t vs)(i:Nat)(v:Value):RowL (w.setCell ⟨b,i,none⟩ v) b t (vs.set i v):=by
 unfold RowL at *;simp[World.setCell,Array.getElem?_modify,h]

theorem aG(w:World)(vs:List Value)(t:TypeId):RowL (w.alloc (.cells vs.toArray t)) w.heap.size t vs:=by
 unfold RowL;exact heap_alloc_new w _

def PN.zero:PN:=⟨false,none,0,[],none,0,[],none,0,[],none,0,[]⟩

theorem qbr(qs zs:List PN)(z p:PN):
  (((((bK (qs++z::zs)).set (qs.length*5) (.bool p.leaf)).set (qs.length*5+1) (.slice p.eA p.ents.length p.eC)).set (qs.length*5+2) (.slice p.kA p.keys.length p.kC)).set (qs.length*5+3) (.slice p.dA p.kids.length p.dC)).set (qs.length*5+4) (.slice p.bA p.buf.length p.bC)=bK (qs++p::zs):=by
 have hl:=lT qs;simp only[sN,bK,<-hl];simp[List.set_append_right,PN.vals]

def uY:Array Value:=#[.bool false,.slice none 0 0,.slice none 0 0,.slice none 0 0,.slice none 0 0]
def nT(n:Nat):Array Value:=madeCells uY (n*5)

theorem qai(n:Nat):nT n=(bK (List.replicate n PN.zero)).toArray:=by
 have hl:=lT (List.replicate n PN.zero);simp only[List.length_replicate] at hl;apply Array.ext
 ·simp[nT,size_madeCells,hl]
 ·intro i h1 h2;have hi:i<n*5:=by simpa [nT,size_madeCells] using h1
  have hk:i/5<n:=by omega
  have g:=wG (List.replicate n PN.zero) (i/5) (i%5) (by simpa using hk) (Nat.mod_lt _ (by decide))
  rw[show i/5*5+i%5=i by omega] at g
  have e1:(bK (List.replicate n PN.zero)).toArray[i]=uY[i%5]! :=by
   have h5:i%5=0\/i%5=1\/i%5=2\/i%5=3\/i%5=4:=by omega
   simp only[List.getElem_replicate] at g;rw[List.getElem?_eq_getElem (by rw[hl];exact hi)] at g
   simp only[List.getElem_toArray];rcases h5 with h|h|h|h|h<;>rw[h] at g ⊢<;>simpa [PN.zero,PN.vals,uY] using g
  rw[e1];simp[nT,madeCells,uY]

theorem qpv:(Tryz.prog.info? 138).map (fun i=>(i.zero,i.size,i.bytes))=some (some (.agg uY),5,104):=by kernel_rfl

theorem qhd(n:Nat)(hn:n*104<=140737488351232)(w:World):
  (Instr.makeSlice 30 (.int .i64 (n:Int)) (.int .i64 (n:Int))).run Tryz.prog w=.ok (.slice (some ⟨w.heap.size,0,none⟩) n n) (w.alloc (.cells (nT n) 138)):=by
 obtain⟨i0,hi,hz0,hz1,hz2⟩:=info_parts qpv;have hr:=run_make (P:=Tryz.prog) w 30 138 i0 _ Tryz.underlying30 hi hz0 .i64 .i64 n n (by omega) (Int.le_refl _) (by rw[hz2];omega) (by omega)
 simp only[Int.toNat_natCast,hz1] at hr;exact hr

theorem aV{w w':World}{base:Nat}{e:TypeId}{size n:Nat}{v:Value}{vs:List Value}(h:w.ownsRow base e size v n vs)(hk:∀k,v.ownBlock=some k->w'.heap[k]? =w.heap[k]?):w'.ownsRow base e size v n vs:=by
 refine⟨h.1,?_⟩;rcases h.2 with hn|⟨g,cap,cur,rfl,hb,hg,rest⟩
 ·exact .inl hn
 ·exact .inr ⟨g,cap,cur,rfl,hb,(hk g rfl).trans hg,rest⟩

theorem bQ{w:World}{base base':Nat}{e:TypeId}{size n:Nat}{v:Value}{vs:List Value}(h:w.ownsRow base' e size v n vs)(hb:base<=base'):w.ownsRow base e size v n vs:=by
 refine⟨h.1,?_⟩;rcases h.2 with hn|⟨g,cap,cur,rfl,hb',rest⟩
 ·exact .inl hn
 ·exact .inr ⟨g,cap,cur,rfl,by omega,rest⟩

def PN.blocks(p:PN):List Nat:=[p.eA,p.kA,p.dA,p.bA].filterMap (·.map Addr.block)

structure PN.own(base:Nat)(w:World)(p:PN):Prop where
 e:w.ownsRow base 132 7 (.slice p.eA p.ents.length p.eC) p.ents.length (aB p.ents)
 k:w.ownsRow base 3 1 (.slice p.kA p.keys.length p.kC) p.keys.length (ints p.keys)
 d:w.ownsRow base 3 1 (.slice p.dA p.kids.length p.dC) p.kids.length (ints p.kids)
 b:w.ownsRow base 132 7 (.slice p.bA p.buf.length p.bC) p.buf.length (aB p.buf)
 ez:p.ents.length*56<=140737488351232
 kz:p.keys.length*8<=140737488351232
 dz:p.kids.length*8<=140737488351232
 bz:p.buf.length*56<=140737488351232

theorem vY{p:PN}{k:Nat}(h:(Value.slice p.eA p.ents.length p.eC).ownBlock=some k\/(Value.slice p.kA p.keys.length p.kC).ownBlock=some k\/(Value.slice p.dA p.kids.length p.dC).ownBlock=some k\/(Value.slice p.bA p.buf.length p.bC).ownBlock=some k):k∈p.blocks:=by
 have g:∀(A:Option Addr) (n c:Nat),(Value.slice A n c).ownBlock=some k->A.map Addr.block=some k:=by
  intro A n c h;cases A with
  |none=>simp[Value.ownBlock] at h
  |some a=>simpa [Value.ownBlock] using h
 simp only[PN.blocks,List.mem_filterMap,List.mem_cons,List.not_mem_nil,or_false];rcases h with h|h|h|h
 ·exact⟨_,.inl rfl,g _ _ _ h⟩
 ·exact⟨_,.inr (.inl rfl),g _ _ _ h⟩
 ·exact⟨_,.inr (.inr (.inl rfl)),g _ _ _ h⟩
 ·exact⟨_,.inr (.inr (.inr rfl)),g _ _ _ h⟩

theorem PN.own.of_blocks{base:Nat}{w w':World}{p:PN}(h:p.own base w)(hk:∀k∈p.blocks,w'.heap[k]? =w.heap[k]?):p.own base w':=
 ⟨aV h.e fun _ hb=>hk _ (vY (.inl hb)),aV h.k fun _ hb=>hk _ (vY (.inr (.inl hb))),aV h.d fun _ hb=>hk _ (vY (.inr (.inr (.inl hb)))),aV h.b fun _ hb=>hk _ (vY (.inr (.inr (.inr hb)))),h.ez,h.kz,h.dz,h.bz⟩

theorem eG{w:World}{base:Nat}{e:TypeId}{size n C:Nat}{A:Option Addr}{vs:List Value}(h:w.ownsRow base e size (.slice A n C) n vs):aH w.heap.size w A vs/\(A=none->C=0):=by
 obtain⟨A',C',hv,hn,_,_,hr⟩:=aP h;cases hv;exact⟨hr,hn⟩

theorem PN.own.ok{base:Nat}{w:World}{p:PN}(h:p.own base w):p.ok w.heap.size w:=
 ⟨(eG h.e).1,(eG h.k).1,(eG h.d).1,(eG h.b).1,(eG h.e).2,(eG h.k).2,(eG h.d).2,(eG h.b).2,h.ez,h.kz,h.dz,h.bz⟩

theorem gV{w:World}{base:Nat}{e:TypeId}{size n C:Nat}{A:Option Addr}{vs:List Value}(h:w.ownsRow base e size (.slice A n C) n vs)(k:Nat)(hk:A.map Addr.block=some k):base<=k/\k<w.heap.size:=by
 cases A with
 |none=>cases hk
 |some a=>exact h.lt k (by simpa [Value.ownBlock] using hk)

theorem PN.own.lt{base:Nat}{w:World}{p:PN}(h:p.own base w):∀k∈p.blocks,base<=k/\k<w.heap.size:=by
 intro k hk;simp only[PN.blocks,List.mem_filterMap,List.mem_cons,List.not_mem_nil,or_false] at hk;obtain⟨A,hA,hb⟩:=hk;rcases hA with rfl|rfl|rfl|rfl
 ·exact gV h.e k hb
 ·exact gV h.k k hb
 ·exact gV h.d k hb
 ·exact gV h.b k hb

structure rG(base:Nat)(w:World)(g:Nat)(qs:List PN):Prop where
 row:RowL w g 138 (bK qs)
 hbase:base<=g
 each:∀q∈qs,q.own base w
 apart:(g::qs.flatMap PN.blocks).Nodup
 z:qs.length*104<=140737488351232

theorem blocks_nodup{q:PN}{s1 s2 s3:Nat}(he:∀x,q.eA.map Addr.block=some x->x<s1)(hk:∀x,q.kA.map Addr.block=some x->s1<=x/\x<s2)(hd:∀x,q.dA.map Addr.block=some x->s2<=x/\x<s3)
  (hb:∀x,q.bA.map Addr.block=some x->s3<=x) (h12:s1<=s2) (h23:s2<=s3):q.blocks.Nodup:=by
 obtain⟨leaf,eA,eC,ents,kA,kC,keys,dA,dC,kids,bA,bC,buf⟩:=q;simp only at he hk hd hb;unfold PN.blocks;cases eA<;>cases kA<;>cases dA<;>cases bA<;>simp_all<;>omega

set_option maxHeartbeats 400000 in
theorem qff{base g:Nat}{wr w4:World}{qs zs:List PN}{z q:PN}(hrow:RowL wr g 138 (bK (qs++z::zs)))(hbase:base<=g)(each:∀x∈qs,x.own base wr)(apart:(g::qs.flatMap PN.blocks).Nodup)
  (hb:Below wr.heap.size wr w4) (hq:q.own wr.heap.size w4) (hqn:q.blocks.Nodup):
  ∀W,W=((((w4.setCell ⟨g,qs.length*5,none⟩ (.bool q.leaf)).setCell ⟨g,qs.length*5+1,none⟩ (.slice q.eA q.ents.length q.eC)).setCell ⟨g,qs.length*5+2,none⟩ (.slice q.kA q.keys.length q.kC)).setCell ⟨g,qs.length*5+3,none⟩ (.slice q.dA q.kids.length q.dC)).setCell ⟨g,qs.length*5+4,none⟩ (.slice q.bA q.buf.length q.bC)->
  RowL W g 138 (bK (qs++q::zs))/\(∀x∈qs++[q],x.own base W)/\(g::(qs++[q]).flatMap PN.blocks).Nodup:=by
 intro W hW;have hg:g<wr.heap.size:=hrow.lt
 have hother:∀b,b≠g->W.heap[b]? =w4.heap[b]? :=by
  intro b hbg;subst hW;simp only[Below.heap_setCell _ _ _ _ (show b≠(⟨g,_,none⟩:Addr).block from hbg)]
 have hold:∀x∈qs,∀b∈x.blocks,base<=b/\b<wr.heap.size:=fun x hx=>(each x hx).lt
 have hnew:=hq.lt;rw[List.nodup_cons] at apart;have hgn:g∉qs.flatMap PN.blocks:=apart.1;refine⟨?_,?_,?_⟩
 ·rw[<-qbr qs zs z q];subst hW;exact(((((hrow.below hb hg).set _ _).set _ _).set _ _).set _ _).set _ _
 ·intro x hx;rcases List.mem_append.1 hx with hx|hx
  ·refine(each x hx).of_blocks fun b hbx=>?_
   have hbg:b≠g:=fun e=>hgn (List.mem_flatMap.2 ⟨x,hx,e▸hbx⟩)
   rw[hother b hbg];exact hb.block b (hold x hx b hbx).2
  ·obtain rfl:x=q:=by simpa using hx
   have h1:x.own wr.heap.size W:=hq.of_blocks fun b hbx=>hother b (by have:=hnew b hbx;omega)
   exact⟨bQ h1.e (by omega),bQ h1.k (by omega),bQ h1.d (by omega),bQ h1.b (by omega),h1.ez,h1.kz,h1.dz,h1.bz⟩
 ·rw[List.nodup_cons,List.flatMap_append,List.mem_append,List.nodup_append];simp only[List.flatMap_cons,List.flatMap_nil,List.append_nil];refine⟨fun h=>?_,apart.2,hqn,fun a ha b hb' e=>?_⟩
  ·rcases h with h|h
   ·exact hgn h
   ·have:=hnew g h;omega
  ·obtain⟨x,hx,hax⟩:=List.mem_flatMap.1 ha;have h1:=hold x hx a hax;have h2:=hnew b hb';omega

end
section
open Go.ChangeShapes Go.WideShapes Go.ChangeAt Go.RowKit Go.Deep

theorem qgf{w:World}{a:Addr}{v:Value}(h:w.cell? a=some v):a.spot=none:=by
 unfold World.cell? at h
 split at h
 ·cases hs:a.spot with
  |none=>rfl
  |some x=>simp[hs] at h
 ·simp at h

theorem qpf{w:World}{a:Addr}{size len:Nat}(hs:0<size)(F:Nat->List Value)(all:List Value)(hlen:all.length=len*size)(hget:∀k j,k<len->j<size->all[k*size+j]? =(F k)[j]?)
  (hc:∀i,i<len->w.cells? 0 (a.add (i*size)) size=some (F i)):aH w.heap.size w (some a) all:=by
 by_cases h0:len=0
 ·left;exact List.eq_nil_of_length_eq_zero (by rw[hlen,h0,Nat.zero_mul])
 ·right
  have hcell:∀q u,all[q]? =some u->w.cell? (a.add q)=some u:=by
   intro q u hu;have hq:q<len*size:=by rw[<-hlen];exact(List.getElem?_eq_some_iff.1 hu).1
   have hk:q/size<len:=Nat.div_lt_of_lt_mul (by rw[Nat.mul_comm];exact hq)
   have hj:q%size<size:=Nat.mod_lt _ hs;have hqe:q/size*size+q%size=q:=Nat.div_add_mod' q size;have h1:=(World.cells?_some (hc _ hk)).2.2 _ hj;rw[add_add,hqe,<-hget _ _ hk hj,hqe,hu] at h1;exact h1
  have hpos:0<all.length:=by rw[hlen];exact Nat.mul_pos (by omega) hs
  have ha:=hcell 0 _ (List.getElem?_eq_getElem hpos);have hsp:=qgf ha;have ha0:a.add 0=a:=by simp[Addr.add]
  rw[ha0] at hsp ha;obtain⟨b,o,s⟩:=a;simp only at hsp;subst hsp;refine⟨b,o,rfl,World.block_lt_of_cell? _ _ ha,fun j u hu=>?_⟩
  have:=hcell j u hu
  rwa [add_plain] at this

section
variable {H : Type} {enc : TypeId × Value -> H} {W : World} {held : Bool} {spare : Nat -> Bool} {fuel : Nat}

def En.wf(x:En):Prop:=(Lit.int .i64 x.key).wf=true/\(Lit.int .i64 x.c).wf=true/\(Lit.int .i64 x.s).wf=true/\(Lit.int .i64 x.lo).wf=true/\(Lit.int .i64 x.hi).wf=true/\(Lit.int .i64 x.t).wf=true/\(Lit.int .i64 x.l).wf=true

def qqt(t:TypeId)(d:DataW H):Prop:=∀n∈d.weights Tryz.prog t,n<=140737488351232

def PN.wf(p:PN):Prop:=(∀y∈p.ents,y.wf)/\(∀z∈p.keys,(Lit.int .i64 z).wf=true)/\(∀z∈p.kids,(Lit.int .i64 z).wf=true)/\∀y∈p.buf,y.wf

end
end
section
open Go.ChangeShapes Go.WideShapes Go.ChangeAt Go.RowKit Go.Deep

def strs(ss:List ByteArray):List Value:=ss.map .string

section
variable {H : Type} {enc : TypeId × Value -> H} {W : World} {held : Bool} {fuel : Nat}

structure dX(B:Nat)(w:World)(A:Option Addr)(ss:List ByteArray):Prop where
 row:aH B w A (strs ss)
 z:ss.length*16<=140737488351232
 each:∀s∈ss,s.size<=140737488351232

structure TR where
 A:Option Addr
 C:Nat
 ps:List PN
 r:Int

def TR.ok(w:World)(t:TR):Prop:=bF w.heap.size w t.A t.ps/\(∀p∈t.ps,p.wf)/\(Lit.int .i64 t.r).wf=true

end

theorem qbn(ss:List ByteArray)(k:Nat)(hk:k<ss.length):(strs ss)[k]? =some (.string ss[k]):=by simp[strs,hk]

theorem aH.str{B:Nat}{w:World}{A:Option Addr}{ss:List ByteArray}(h:aH B w A (strs ss)){k:Nat}(hk:k<ss.length):
  ∃b o,A=some ⟨b,o,none⟩/\b<B/\w.cell? ⟨b,o+k,none⟩=some (.string ss[k])/\∀j,j<ss.length->w.cell? ⟨b,o+j,none⟩=some (.string (ss.getD j ByteArray.empty)):=by
 rcases h with h|⟨b,o,hA,hlt,hc⟩
 ·rw[strs,List.map_eq_nil_iff] at h;subst h;simp at hk
 ·refine⟨b,o,hA,hlt,hc k _ (qbn ss k hk),fun j hj=>?_⟩
  have:=hc j _ (qbn ss j hj);rw[this,List.getD_eq_getElem?_getD,List.getElem?_eq_getElem hj]
  rfl

theorem dX.up{w cur:World}{A:Option Addr}{ss:List ByteArray}(h:dX w.heap.size w A ss)(hb:Below w.heap.size w cur):dX cur.heap.size cur A ss:=⟨h.row.up hb,h.z,h.each⟩

end
section
open Go.RowKit

def cO:PN:=⟨true,none,0,[],none,0,[],none,0,[],none,0,[]⟩

end
end Go.Proofs.YtlojfgdpmaigmagGreatDoor

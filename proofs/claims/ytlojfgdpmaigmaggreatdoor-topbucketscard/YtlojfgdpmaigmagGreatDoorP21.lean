/- slices.SortFunc over entries, by their keys. -/
import Derived.Shelf.SlSortCmp.NoneTotal
import Derived.Shelf.SlicesG.Cmp
import Derived.Test.YtlojfgdpmaigmagGreatDoorLays
import Derived.Test.YtlojfgdpmaigmagGreatDoorP14
import Derived.Deep.AppendLies
namespace Go.Proofs.YtlojfgdpmaigmagGreatDoor
section
open Go.RowKit Plain Go.Shelf

set_option maxHeartbeats 1000000 in
theorem qrc(x y:En)(W:World):Calls Tryz.prog 112 #[.agg #[.int .i64 x.key,.int .i64 x.c,.int .i64 x.s,.int .i64 x.lo,.int .i64 x.hi,.int .i64 x.t,.int .i64 x.l],.agg #[.int .i64 y.key,.int .i64 y.c,.int .i64 y.s,.int .i64 y.lo,.int .i64 y.hi,.int .i64 y.t,.int .i64 y.l]] W
  fun e w'=>e=.returned (.int .i64 (Lib.compareInt x.key y.key))/\∃q os',w'=Sort.grow (W.drewN q) os':=by
 have hcon:=fun W'=>AnyG.cmp_Compare_int Tryz.cmpInt x.key y.key W'
 change ∀W',Calls Tryz.prog 113 _ _ _ at hcon
 generalize Lib.compareInt x.key y.key=r at hcon ⊢
 go_enter Tryz.func112,Tryz.ntmps112
 go_wp2_with (go_at_call 113;refine(hcon _).mono ?_;rintro e w' ⟨rfl,rfl⟩);go_ret;exact⟨rfl,0,_,by rw[Sort.alloc_eq_grow,Sort.alloc_eq_grow,Sort.grow_grow];rfl⟩

theorem yV(x y:En):ltOf (fun x y:En=>Lib.compareInt x.key y.key) x y=decide (x.key<y.key):=by
 unfold ltOf Lib.compareInt
 by_cases h1:x.key<y.key
 ·simp[h1]
 ·by_cases h2:y.key<x.key<;>simp[h1,h2]

theorem qqj:Sort.SWO (ltOf fun x y:En=>Lib.compareInt x.key y.key) where
 irrefl x:=by rw[yV];simp
 trans x y z h1 h2:=by rw[yV] at *;simp at *;omega
 ntrans x y z h1 h2:=by rw[yV] at *;simp at *;omega

theorem q3p(xs:List En)(t:Nat)(h:t<xs.length*7):(aB xs)[t]? =some ((xs.toArray[t/7]!).vals)[t%7]! :=by
 have h1:t/7<xs.length:=by omega
 have e:t=t/7*7+t%7:=by omega
 have g:=q1g xs (t/7) (t%7) h1 (Nat.mod_lt _ (by decide))
 rw[<-e] at g;rw[g];have e2:xs.toArray[t/7]! =xs[t/7]:=by simp[h1]
 rw[e2];have l:t%7<(xs[t/7]).vals.length:=by simp only[En.vals,List.length_cons,List.length_nil];omega
 rw[List.getElem?_eq_getElem l,getElem!_pos (xs[t/7]).vals (t%7) l]

theorem qgz{w:World}{H g n cap:Nat}{xs:List En}{t:TypeId}(h:w.ownsRow H t 7 (.slice (some ⟨g,0,none⟩) n cap) n (aB xs))(hn:n=xs.length):Sort.HoldsK En.vals 7 w g 0 xs.toArray:=by
 subst hn;intro j hj;have hj':j<xs.length*7:=by simpa using hj
 rw[Nat.zero_add,Sort.get_flatK _ _ _ _ (by simpa using hj')]
 exact⟨(h.cellAt j hj').trans (q3p xs j hj'),h.frozenAt j⟩

theorem q6b{B:Nat}{w:World}{g n:Nat}(hg:B<=g)(hB:B<=w.heap.size)(d:Array En)(os:Array Obj):Below B w (sortWorldK En.vals 7 w g 0 n d os):=by
 unfold sortWorldK Sort.putRowK;refine⟨rfl,rfl,rfl,?_,fun k hk=>?_⟩
 ·rw[Sort.size_grow];simp[Sort.putRow,Sort.mapBlock,Sort.ahead]
 ·rw[Sort.heap_grow_old _ _ (by simp[Sort.putRow,Sort.mapBlock,Sort.ahead];omega)]
  have:g≠k:=by omega
  simp[Sort.putRow,Sort.mapBlock,Sort.ahead,Array.getElem?_modify,this]

set_option maxHeartbeats 1000000 in
theorem qde(xs:List En)(g cap H:Nat)(w:World)(t:TypeId)(h:w.ownsRow H t 7 (.slice (some ⟨g,0,none⟩) xs.length cap) xs.length (aB xs))(hH:H<=w.heap.size)(hg:H<=g)(hgl:g<w.heap.size)(hz:xs.length<4611686018427387904):
  Calls Tryz.prog 111 #[.slice (some ⟨g,0,none⟩) xs.length cap,.func (.func 112) #[] #[]] w
   fun e w'=>e=.returned (.tuple #[])/\Below H w w'/\∃ys:List En,ys.Perm xs/\(ys.Pairwise fun a b=>a.key<=b.key)/\aH w'.heap.size w' (some ⟨g,0,none⟩) (aB ys):=by
 have eg:∀args w,(callFunc 112 args).run Tryz.prog w=.ok (.enter 112 args) w:=enters_of Tryz.func112 (by kernel_rfl) rfl
 have hh:=qgz h rfl;have hcon:=AnyQ.slices_SortFunc Tryz.sortEn 7 Tryz.isAgg132 Tryz.sizeOf132 En.vals (fun _=>rfl) (fun x v hv=>qX x v hv) (fun x y=>Lib.compareInt x.key y.key) qqj 112 #[] g 0 cap xs.toArray w eg (fun _ _ _ _ x y=>qrc x y _) hh hgl (by simpa using hz)
 change Calls Tryz.prog 111 _ _ _ at hcon
 simp only[List.size_toArray] at hcon;refine hcon.mono ?_;rintro e w' ⟨rfl,d',n,os,hp,hs,rfl⟩;have hsz:d'.size=xs.length:=by simpa using hp.1
 have hd:=holdsK_sortWorldK En.vals 7 w g 0 n xs.toArray d' os hgl hh (by simpa using hsz)
 have hlt:=lt_sortWorldK En.vals 7 w g 0 n d' os hgl;refine⟨rfl,q6b hg hH d' os,d'.toList,?_,?_,.inr ⟨g,0,rfl,hlt,fun j u hu=>?_⟩⟩
 ·have:=hp.2.2;simp only[<-hsz,Array.extract_size,List.extract_toArray,List.extract_eq_take_drop,List.drop_zero,Nat.sub_zero] at this;rw[hsz,List.take_length] at this;exact this
 ·rw[List.pairwise_iff_getElem];intro i j hi hj hij;simp only[Array.length_toList] at hi hj;have:=hs i j (Nat.zero_le _) hij (by omega)
  rw[yV,getElem!_pos d' i hi,getElem!_pos d' j hj] at this;simp only[decide_eq_false_iff_not,Array.getElem_toList] at this ⊢;omega
 ·have hj:j<d'.size*7:=by
   have:=(List.getElem?_eq_some_iff.1 hu).1;rw[gZ] at this
   simpa using this
  have c:=(hd j (by simpa using hj)).1
  rw[Sort.get_flatK _ _ _ _ hj] at c;have f:=q3p d'.toList j (by simpa using hj)
  rw[f] at hu;cases hu
  simpa using c

theorem qco(p:Option Addr)(cap:Nat)(w:World):
  Calls Tryz.prog 111 #[.slice p 0 cap,.func (.func 112) #[] #[]] w fun e w'=>e=.returned (.tuple #[])/\w'=w:=
 AnyF.slices_SortFunc_none Tryz.sortEn p cap _ w

theorem qfw(xs:List En)(v:Value)(H:Nat)(w:World)(h:w.ownsRow H 132 7 v xs.length (aB xs))(hH:H<=w.heap.size)(hz:xs.length<4611686018427387904):
  ∃A C,v=.slice A xs.length C/\Calls Tryz.prog 111 #[.slice A xs.length C,.func (.func 112) #[] #[]] w
   fun e w'=>e=.returned (.tuple #[])/\Below H w w'/\∃ys:List En,ys.Perm xs/\(ys.Pairwise fun a b=>a.key<=b.key)/\aH w'.heap.size w' A (aB ys):=by
 rcases h.2 with⟨rfl,h0⟩|⟨g,cap,cur,rfl,hb,hg,_⟩
 ·have e:xs=[]:=List.length_eq_zero_iff.1 h0;subst e;refine⟨none,0,rfl,(qco none 0 w).mono ?_⟩;rintro e w' ⟨rfl,rfl⟩;exact⟨rfl,Below.refl _ _,[],List.Perm.refl _,by simp,.inl rfl⟩
 ·have hgl:g<w.heap.size:=(Array.getElem?_eq_some_iff.1 hg).1;exact⟨_,cap,rfl,qde xs g cap H w _ h hH hb hgl hz⟩

end
section
open Go.RowKit Plain

theorem qW{w:World}{base g cap:Nat}{l:List En}{y:En}{t:TypeId}(h:w.ownsRow base t 7 (.slice (some ⟨g,0,none⟩) (l.length+1) cap) (l.length+1) (aB (l++[y]))):EnAt w g (l.length*7) y:=by
 obtain⟨b,o,e,_,q⟩:=(eG h).1.en (k:=l.length) (by simp)
 cases e;rw[Nat.zero_add] at q
 simpa using q

theorem qej{w:World}{base g cap:Nat}{l:List En}{y:En}{t:TypeId}(h:w.ownsRow base t 7 (.slice (some ⟨g,0,none⟩) (l.length+1) cap) (l.length+1) (aB (l++[y])))(r:Ru):
  ((((((w.setCell ⟨g,l.length*7+1,none⟩ (.int .i64 r.c)).setCell ⟨g,l.length*7+2,none⟩ (.int .i64 r.s)).setCell ⟨g,l.length*7+3,none⟩ (.int .i64 r.lo)).setCell ⟨g,l.length*7+4,none⟩ (.int .i64 r.hi)).setCell ⟨g,l.length*7+5,none⟩ (.int .i64 r.t)).setCell ⟨g,l.length*7+6,none⟩ (.int .i64 r.l)).ownsRow base t 7 (.slice (some ⟨g,0,none⟩) (l.length+1) cap) (l.length+1) (aB (l++[mkE y.key r])):=by
 have q:=((((((h.stored (l.length*7+1) (.int .i64 r.c)).1.stored (l.length*7+2) (.int .i64 r.s)).1.stored (l.length*7+3) (.int .i64 r.lo)).1.stored (l.length*7+4) (.int .i64 r.hi)).1.stored (l.length*7+5) (.int .i64 r.t)).1.stored (l.length*7+6) (.int .i64 r.l)).1
 have e:∀(j:Nat) (v:Value) (vs:List Value),(aB l++vs).set (l.length*7+j) v=aB l++vs.set j v:=fun j v vs=>by
  rw[List.set_append_right _ _ (by rw[gZ];omega),gZ]
  congr 2;omega
 have e0:aB (l++[y])=aB l++y.vals:=(zU l y).symm;rw[e0,e,e,e,e,e,e] at q;rw[<-zU];exact q

theorem jX{B:Nat}{w w':World}(h:Below B w w'){g:Nat}(hg:B<=g)(j:Nat)(v:Value):Below B w (w'.setCell ⟨g,j,none⟩ v):=
 ⟨h.os,h.tape,h.output,by simpa using h.size,fun k hk=>(Below.heap_setCell _ _ _ _ (show k≠g by omega)).trans (h.block k hk)⟩

set_option maxRecDepth 20000 in
set_option maxHeartbeats 4000000 in
theorem qen(xs:List En)(v:Value)(H:Nat)(w:World)(h:w.ownsRow H 132 7 v xs.length (aB xs))(hH:H<=w.heap.size)(hz:xs.length<=28000)(hg:∀x∈xs,Good x.ru)(Q:Ending->World->Prop)
  (HQ:Hid (∀e w',Below H w w'->(∀ys,allL xs=some ys->∃v,e=.returned (.tuple #[v,.int .i64 0])/\w'.ownsRow H 132 7 v ys.length (aB ys))->(allL xs=none->e=.returned (.tuple #[.slice none 0 0,.int .i64 1]))->Q e w')):
  Calls Tryz.prog 82 #[v] w Q:=by
 obtain⟨i0,hi0,hz0,hz1,hz2⟩:=info_parts kK;obtain⟨A,C,rfl,con⟩:=qfw xs v H w h hH (by omega)
 go_enter Tryz.func82,Tryz.ntmps82
 go_wp2_with (go_at_call 111;refine con.mono ?_;rintro e w1 ⟨rfl,hb1,ys,hp,hs,hrow⟩);clear con h;have hlen:ys.length=xs.length:=hp.length_eq;have HG:Hid (∀x∈ys,Good x.ru):=fun x hx=>hg x (hp.subset hx)
 have HA:Hid (allL xs=allL ys):=(pU hp fun x hx=>(good_iff.1 (HG.out x hx)).1.1).symm
 have HS:Hid (ys.Pairwise fun a b=>a.key<=b.key):=hs
 clear hs hp hg
 go_loopw [4,14] (fun vo vi wr=>∃(i:Nat) (out:List En),i<=xs.length/\vi=.int .i64 i/\Hid (Brg ys i out)/\out.length<=i/\wr.ownsRow w1.heap.size 132 7 vo out.length (aB out)/\Below w1.heap.size w1 wr) (fun _ vi _=>xs.length-(intOf vi).toNat)
 case atStart=>exact⟨0,[],Nat.zero_le _,rfl,q5r _,by simp,World.ownsRow_nil _ _ _ _,Below.refl _ _⟩
 case round=>
  obtain⟨i,out,hi,rfl,HB,hol,hown,hb⟩:=hrel;have hsz:=hb.size
  by_cases hlt:i<xs.length
  ·have hly:i<ys.length:=by omega
   obtain⟨b,o,rfl,hbl,c0,c1,c2,c3,c4,c5,c6⟩:=(hrow.below hb (Nat.le_refl _)).en hly;have hbr:b<wr.heap.size:=by omega
   have hgi:Hid (Good (ys[i]).ru):=HG.out _ (List.getElem_mem hly);rcases List.eq_nil_or_concat out with rfl|⟨l,y,rfl⟩
   ·have HB':Hid (Brg ys (i+1) ([]++[ys[i]])):=yB HS.out HB.out hly hgi.out (fun l y e=>by simp at e)
    clear HB;obtain⟨A0,C0,hv,hr0,hA0⟩:=aP hown;simp only[List.length_nil] at hv;obtain⟨y,hy⟩:∃y,ys[i]=y:=⟨_,rfl⟩;rw[hy] at c0 c1 c2 c3 c4 c5 c6 HB';rw[hv];go_wp2_with fail
    go_quiet (fail)
    have hownd:(wr.drewN nq).ownsRow w1.heap.size 132 7 (.slice A0 0 C0) 0 (aB []):=by
     rw[<-hv];exact aV hown (fun _ _=>rfl)
    have hbd:=jU hb nq;go_wp2_with (at_builtin;refine wpList_append_own _ rfl _ _ 103 rfl w1.heap.size 132 i0 _ 7 56 Tryz.underlying103 hi0 hz0 hz1 hz2 rfl (by decide) (.slice A0 0 C0) 0 (aB []) rfl ((hownd.alloc _).alloc _) ⟨wr.heap.size+1,0,none⟩ 1 1 y.vals rfl rfl (uU (wr.drewN nq) _ y) (qX y) (by unfold maxLen;omega) (by omega) (by simp;omega) ?_;intro v2 w2 hown2 hgrow2 _)
    have R1:=wE (out:=[]) (hownd.alloc _) (hbd.alloc (by simpa using hsz) _) (by simp;omega) hgrow2
    go_wp2;go_roundw
    case rel=>
     go_light;exact⟨i+1,[]++[y],by omega,by go_num,HB',by simp,uJ (out:=[]) hown2,R1.1⟩
    case measure=>simp[intOf];omega
   ·rw[List.concat_eq_append] at HB hol hown;obtain⟨g,cap,hv,hgb,hgl⟩:=hown.form (by simp)
    have hl1:(l++[y]).length=l.length+1:=by simp
    rw[hl1] at hv hown hol;subst hv;have hE:=qW hown;obtain⟨d0,d1,d2,d3,d4,d5,d6⟩:=hE;have hd0:decide ((l.length:Int)<0)=false:=by simp
    have hngw:¬g=wr.heap.size:=by omega
    by_cases hk:y.key=ys[i].key
    ·obtain⟨hm,hB1,hN1⟩:=qan HS.out HB.out hly hgi.out hk;clear HB;obtain⟨x,hx⟩:∃x,ys[i]=x:=⟨_,rfl⟩;rw[hx] at c0 c1 c2 c3 c4 c5 c6 hm hB1 hN1 hk;obtain⟨J,hJ⟩:∃J:Ru,J=(mrg y.ru x.ru).1:=⟨_,rfl⟩;obtain⟨ec,hec⟩:∃ec:Int,ec=(mrg y.ru x.ru).2:=⟨_,rfl⟩
     have HJ:Hid ((ec=0/\Brg ys (i+1) (l++[mkE y.key J]))\/(ec=1/\allL ys=none)):=by
      by_cases hc:y.c+x.c<=1073741824
      ·left;rw[hec,hJ,hm,if_pos hc,hk];exact⟨rfl,hB1 hc⟩
      ·right;rw[hec,hm,if_neg hc];exact⟨rfl,hN1 hc⟩
     have con:∀w',Calls Tryz.prog 15 #[.agg #[.int .i64 y.c,.int .i64 y.s,.int .i64 y.lo,.int .i64 y.hi,.int .i64 y.t,.int .i64 y.l],.agg #[.int .i64 x.c,.int .i64 x.s,.int .i64 x.lo,.int .i64 x.hi,.int .i64 x.t,.int .i64 x.l]] w' fun e w''=>e=.returned (.tuple #[.agg #[.int .i64 J.c,.int .i64 J.s,.int .i64 J.lo,.int .i64 J.hi,.int .i64 J.t,.int .i64 J.l],.int .i64 ec])/\Below w'.heap.size w' w'':=by
      intro w';have:=oG y.ru x.ru w';rw[<-hJ,<-hec] at this;exact this
     clear hm hJ hec hB1 hN1;obtain⟨jc,js,jlo,jhi,jt,jl⟩:=J;simp only at con;have hkb:(y.key==x.key)=true:=by simpa using hk
     have hkn:(y.key != x.key)=false:=by simpa using hk
     go_wp2_with fail
     go_quiet (fail)
     go_wp2_with fail;obtain⟨wd,hwd⟩:∃wd,wd=(wr.alloc (.cells #[.int .i64 x.key,.int .i64 x.c,.int .i64 x.s,.int .i64 x.lo,.int .i64 x.hi,.int .i64 x.t,.int .i64 x.l] 132)).drewN nq:=⟨_,rfl⟩
     have rx:RowL wd wr.heap.size 132 x.vals:=by
      rw[hwd];exact aG wr x.vals _
     have hbd0:Below wr.heap.size wr wd:=by
      rw[hwd];exact jU ((Below.refl _ _).alloc (Nat.le_refl _) _) nq
     have hbd:Below w1.heap.size w1 wd:=hb.trans (hbd0.mono hsz);have hownd:wd.ownsRow w1.heap.size 132 7 (.slice (some ⟨g,0,none⟩) (l.length+1) cap) (l.length+1) (aB (l++[y])):=aV hown (fun k hk=>hbd0.block k (nH hown hk).2)
     have hzd:wd.heap.size=wr.heap.size+1:=by rw[hwd];simp
     rw[<-hwd];clear hown hb hbd0 c0 c1 c2 c3 c4 c5 c6 d0 d1 d2 d3 d4 d5 d6 hwd;obtain⟨-,d1,d2,d3,d4,d5,d6⟩:=qW hownd;have rxx:=fun j=>rx.cell j
     simp only[En.vals] at rxx;have x1:=rxx 1;have x2:=rxx 2;have x3:=rxx 3;have x4:=rxx 4;have x5:=rxx 5;have x6:=rxx 6;simp only[List.getElem?_cons_zero,List.getElem?_cons_succ] at x1 x2 x3 x4 x5 x6;obtain⟨n,hn⟩:∃n,n=wr.heap.size:=⟨_,rfl⟩;rw[<-hn] at hsz hzd hgl hngw x1 x2 x3 x4 x5 x6 ⊢;have hgd:g<wd.heap.size:=by omega
     have hnd:n<wd.heap.size:=by omega
     clear rx rxx hbr hn hzd;have q0:(0:Int)<=(l.length:Int):=by omega
     obtain⟨m,hm⟩:∃m,m=l.length+1:=⟨_,rfl⟩;rw[<-hm];have q1:(l.length:Int)<(m:Int):=by omega
     have HM:Hid (m=l.length+1):=hm;clear hm;have n1:¬g=wd.heap.size:=by omega
     have n2:¬n=wd.heap.size:=by omega
     have hgd1:g<wd.heap.size+1:=by omega
     have hnd1:n<wd.heap.size+1:=by omega
     have KS:∀(W:World) (b' o' j:Nat) (v:Value),¬b'=wd.heap.size->(W.setCell ⟨wd.heap.size,j,none⟩ v).cell? ⟨b',o',none⟩=W.cell? ⟨b',o',none⟩:=fun W b' o' j v hb=>World.cell?_setCell_far _ _ _ _ (fun e=>hb e.symm)
     go_cut [8,9] (fun v8 v9 wc=>∃rb,v8=.pointer (some ⟨rb,0,none⟩)/\v9=.int .i64 ec/\wd.heap.size<=rb/\RowL wc rb 42 [.int .i64 jc,.int .i64 js,.int .i64 jlo,.int .i64 jhi,.int .i64 jt,.int .i64 jl]/\Below wd.heap.size wd wc)
     case first=>
      go_region_held3 (fun w'=>w'.cell? ⟨g,l.length*7+1,none⟩=some (.int .i64 y.c)/\w'.cell? ⟨g,l.length*7+2,none⟩=some (.int .i64 y.s)/\w'.cell? ⟨g,l.length*7+3,none⟩=some (.int .i64 y.lo)/\w'.cell? ⟨g,l.length*7+4,none⟩=some (.int .i64 y.hi)/\w'.cell? ⟨g,l.length*7+5,none⟩=some (.int .i64 y.t)/\w'.cell? ⟨g,l.length*7+6,none⟩=some (.int .i64 y.l)/\w'.cell? ⟨n,1,none⟩=some (.int .i64 x.c)/\w'.cell? ⟨n,2,none⟩=some (.int .i64 x.s)/\w'.cell? ⟨n,3,none⟩=some (.int .i64 x.lo)/\w'.cell? ⟨n,4,none⟩=some (.int .i64 x.hi)/\w'.cell? ⟨n,5,none⟩=some (.int .i64 x.t)/\w'.cell? ⟨n,6,none⟩=some (.int .i64 x.l)) (go_keep) (first|(go_at_call 15;refine(con _).mono ?_;rintro e w3 ⟨rfl,hb3⟩;have T3:=(aY (hb3.mono (show wd.heap.size<=_ by simp))).1;first|(have T4:=q3k (W:=wd.drew) (n:=wd.heap.size) hb3 rfl;obtain⟨T40,T41,T42,T43,T44,T45,U4⟩:=T4)|skip))
      ·go_wp2
       go_meet
       case rel=>
        refine⟨w3.heap.size,rfl,rfl,?_,aG w3 _ _,?_⟩
        ·have:=hb3.size;simpa using this
        ·have bw:Below wd.heap.size wd w3:=((Below.refl wd.heap.size wd).drew).trans (hb3.mono (by simp))
         exact bw.alloc bw.size _
      ·go_wp2
       go_meet
       case rel=>
        have r0:RowL w3 wd.heap.size 42 [.int .i64 0,.int .i64 0,.int .i64 0,.int .i64 0,.int .i64 0,.int .i64 0]:=RowL.below (aG wd.drew _ _) hb3 (by simp)
        have bw:Below wd.heap.size wd w3:=(((Below.refl wd.heap.size wd).alloc (Nat.le_refl _) _).drew).trans (hb3.mono (by simp))
        refine⟨wd.heap.size,rfl,rfl,Nat.le_refl _,(((((r0.set 0 _).set 1 _).set 2 _).set 3 _).set 4 _).set 5 _,?_⟩;exact set6 bw (Nat.le_refl _) _ _ _ _ _ _
     case rest=>
      obtain⟨rb,rfl,rfl,hrb,hrw,hbc⟩:=hcut;have r0:=hrw.cell 0;have r1:=hrw.cell 1;have r2:=hrw.cell 2;have r3:=hrw.cell 3;have r4:=hrw.cell 4;have r5:=hrw.cell 5;simp only[List.getElem?_cons_zero,List.getElem?_cons_succ] at r0 r1 r2 r3 r4 r5;have hrl:=hrw.lt;have hcs:wd.heap.size<=wc.heap.size:=hbc.size;have hdz:=hbd.size;have hownc:wc.ownsRow w1.heap.size 132 7 (.slice (some ⟨g,0,none⟩) (l.length+1) cap) (l.length+1) (aB (l++[y])):=aV hownd (fun k hk=>hbc.block k (nH hownd hk).2)
      have hbcc:Below w1.heap.size w1 wc:=hbd.trans (hbc.mono hdz);obtain⟨-,e1,e2,e3,e4,e5,e6⟩:=qW hownc;have ef:=fun j=>hownc.frozenAt j
      have hgc:g<wc.heap.size:=by omega
      have n3:¬rb=g:=by omega
      have n4:¬g=rb:=by omega
      have HO:Hid (wc.ownsRow w1.heap.size 132 7 (.slice (some ⟨g,0,none⟩) (l.length+1) cap) (l.length+1) (aB (l++[y]))):=hownc;clear hownd hownc d1 d2 d3 d4 d5 d6 x1 x2 x3 x4 x5 x6 con KS;rcases HJ.out with⟨he,hWA⟩|⟨he,hIN⟩
      ·subst he;have HW':Hid (Brg ys (i+1) (l++[mkE y.key (Ru.mk jc js jlo jhi jt jl)])):=hWA;clear HJ hWA;go_wp2_with fail;go_roundw
       case rel=>
        go_light;have hm:=HM.out;subst hm
        exact⟨i+1,l++[mkE y.key (Ru.mk jc js jlo jhi jt jl)],by omega,by go_num,HW',by simp;omega,(by
         have q:=qej HO.out (Ru.mk jc js jlo jhi jt jl);rw[<-show(l++[mkE y.key (Ru.mk jc js jlo jhi jt jl)]).length=l.length+1 by simp] at q
         simpa using q),jX (jX (jX (jX (jX (jX hbcc hgb _ _) hgb _ _) hgb _ _) hgb _ _) hgb _ _) hgb _ _⟩
       case measure=>simp[intOf];omega
      ·subst he;have HN:Hid (allL ys=none):=hIN;clear HJ hIN;go_wp2_with fail;refine HQ.out _ _ (hb1.trans (hbcc.mono (Nat.le_trans hH hb1.size))) (fun ys hys=>by rw[HA.out,HN.out] at hys;cases hys) (fun _=>rfl)
    ·have HB':Hid (Brg ys (i+1) (l++[y]++[ys[i]])):=yB HS.out HB.out hly hgi.out (fun l' y' e=>by
      obtain⟨_,e2⟩:=List.append_inj' e rfl;cases e2;exact hk)
     clear HB;obtain⟨x,hx⟩:∃x,ys[i]=x:=⟨_,rfl⟩;rw[hx] at c0 c1 c2 c3 c4 c5 c6 HB' hk;go_wp2_with fail
     go_quiet (fail)
     have hownd:(wr.drewN nq).ownsRow w1.heap.size 132 7 (.slice (some ⟨g,0,none⟩) (l.length+1) cap) (l.length+1) (aB (l++[y])):=aV hown (fun _ _=>rfl)
     have hbd:=jU hb nq;go_wp2_with (at_builtin;refine wpList_append_own _ rfl _ _ 103 rfl w1.heap.size 132 i0 _ 7 56 Tryz.underlying103 hi0 hz0 hz1 hz2 rfl (by decide) (.slice (some ⟨g,0,none⟩) (l.length+1) cap) (l.length+1) (aB (l++[y])) rfl ((hownd.alloc _).alloc _) ⟨wr.heap.size+1,0,none⟩ 1 1 x.vals rfl rfl (uU (wr.drewN nq) _ x) (qX x) (by unfold maxLen;omega) (by omega) (by simp;omega) ?_;intro v2 w2 hown2 hgrow2 _)
     have R1:=wE (out:=l++[y]) (by rw[hl1];exact hownd.alloc _) (hbd.alloc (by simpa using hsz) _) (by simp;omega) hgrow2
     go_wp2;go_roundw
     case rel=>
      go_light;exact⟨i+1,l++[y]++[x],by omega,by go_num,HB',by simp;omega,uJ (out:=l++[y]) (by rw[hl1];exact hown2),R1.1⟩
     case measure=>simp[intOf];omega
  ·have hie:i=xs.length:=by omega
   have HE:Hid (allL ys=some out):=by
    have q:=HB.out;rw[show i=ys.length by omega] at q
    exact qfc q
   clear HB;go_wp2_with fail;refine HQ.out _ _ (hb1.trans (hb.mono ?_)) ?_ ?_
   ·exact Nat.le_trans hH hb1.size
   ·intro zs hzs;rw[HA.out,HE.out] at hzs;cases hzs;exact⟨_,rfl,bQ hown (Nat.le_trans hH hb1.size)⟩
   ·intro hn;rw[HA.out,HE.out] at hn;cases hn

end
end Go.Proofs.YtlojfgdpmaigmagGreatDoor

/- The document's 'height' of a tree: leaves. -/
import Derived.Test.YtlojfgdpmaigmafGreatDoorP15
import Derived.Maps.OwnSet
import Derived.Maps.Views
import Derived.Maps.OwnOps
namespace Go.Proofs.YtlojfgdpmaigmafGreatDoor
section
open Go.RowKit Plain

end
section
open Go.RowKit Plain Go.Maps

def q4w(L:Int)(l:List Int):Int:=if L=0 then l.headD 0 else L

structure qil(g:Int->Int->Int->St->Option (St × List Int))(kids keys:List Int)(low high:Int)(S0:St)(L0:Int)(i:Nat)(lo:Int)(S:St)(acc:List Int)(L:Int):Prop where
 eq:Wk g kids keys low high S0=join acc (Wk g (kids.drop i) (keys.drop i) lo high S)
 same:∀x∈acc,x=L
 none:acc=[]->L=L0
 pos:acc≠[]->L≠0
 first:L0≠0->L=L0
 low:low<=lo

section
variable {g : Int -> Int -> Int -> St -> Option (St × List Int)} {kids keys : List Int} {low high lo L0 L : Int} {S0 S : St} {i : Nat} {acc : List Int}

theorem qje(g:Int->Int->Int->St->Option (St × List Int))(kids keys:List Int)(low high:Int)(S0:St)(L0:Int):qil g kids keys low high S0 L0 0 low S0 [] L0:=
 ⟨by rw[qvk];rfl,by simp,fun _=>rfl,by simp,fun _=>rfl,Int.le_refl _⟩

theorem okL_iff{L:Int}{l:List Int}:okL L l=true↔∀x∈l,x=q4w L l:=by
 simp[okL,q4w]

theorem qlj(h:qil g kids keys low high S0 L0 i lo S acc L)(hi:i<kids.length)(hr:resN L (g kids[i] lo (toAt keys high i) S)=false):resN L0 (Wk g kids keys low high S0)=false:=by
 rw[h.eq,qpq hi]
 cases hg:g kids[i] lo (toAt keys high i) S with
 |none=>rfl
 |some p=>
  obtain⟨S1,l1⟩:=p
  rw[hg] at hr
  simp only[qh8]
  cases Wk g (kids.drop (i+1)) (keys.drop (i+1)) (toAt keys high i) high S1 with
  |none=>rfl
  |some q=>
   obtain⟨S2,l2⟩:=q
   simp only[join,resN] at hr ⊢
   rw[Bool.eq_false_iff] at hr ⊢
   intro hok
   apply hr
   rw[okL_iff] at hok ⊢
   intro x hx
   have hx':=hok x (List.mem_append_left _ (List.mem_append_right _ hx))
   rw[hx']
   by_cases hacc:acc=[]
   ·have hL:=h.none hacc
    subst hacc hL
    cases l1 with
    |nil=>simp at hx
    |cons d r=>simp[q4w]
   ·have hL:=h.pos hacc
    obtain⟨y,hy⟩:=List.exists_mem_of_ne_nil _ hacc
    have hy':=hok y (List.mem_append_left _ (List.mem_append_left _ hy))
    rw[<-hy',h.same y hy]
    simp[q4w,hL]

theorem qfk(hd:∀d low high S S' l,g d low high S=some (S',l)->l≠[]/\∀x∈l,1<=x)(hw:∀d low high S r,g d low high S=some r->low<high)(h:qil g kids keys low high S0 L0 i lo S acc L)(hi:i<kids.length)(hr:resN L (g kids[i] lo (toAt keys high i) S)=true):
  ∃S1 l1,g kids[i] lo (toAt keys high i) S=some (S1,l1)/\okL L l1=true/\qil g kids keys low high S0 L0 (i+1) (toAt keys high i) S1 (acc++l1) (q4w L l1):=by
 cases hg:g kids[i] lo (toAt keys high i) S with
 |none=>rw[hg] at hr;simp[resN] at hr
 |some p=>
  obtain⟨S1,l1⟩:=p
  rw[hg] at hr
  simp only[resN] at hr
  have hall:=okL_iff.1 hr
  obtain⟨hl,hpos⟩:=hd _ _ _ _ _ _ hg
  have hlt:=hw _ _ _ _ _ hg
  have hlow:=h.low
  obtain⟨x,hx⟩:=List.exists_mem_of_ne_nil _ hl
  have hn0:q4w L l1≠0:=by
   have:=hpos x hx
   rw[hall x hx] at this
   omega
  refine⟨S1,l1,rfl,hr,⟨?_,?_,fun e=>absurd (List.append_eq_nil_iff.1 e).2 hl,fun _=>hn0,fun h0=>?_,by omega⟩⟩
  ·rw[h.eq,qpq hi,hg]
   simp only[qh8]
  ·intro z hz
   rcases List.mem_append.1 hz with hz|hz
   ·have hacc:acc≠[]:=List.ne_nil_of_mem hz
    have hL:=h.pos hacc
    rw[h.same z hz]
    simp[q4w,hL]
   ·exact hall z hz
  ·have:=h.first h0
   subst this
   simp[q4w,h0]

theorem qqo(h:qil g kids keys low high S0 L0 i lo S acc L)(hi:i=kids.length):Wk g kids keys low high S0=some (S,acc)/\resN L0 (Wk g kids keys low high S0)=true/\q4w L0 acc=L:=by
 have e:Wk g kids keys low high S0=some (S,acc):=by
  rw[h.eq,hi,List.drop_length]
  simp[Wk,join]
 have hn:q4w L0 acc=L:=by
  unfold q4w
  split
  ·rename_i h0
   cases acc with
   |nil=>simp;rw[h.none rfl];exact h0.symm
   |cons d r=>simpa using h.same d List.mem_cons_self
  ·rename_i h0
   exact(h.first h0).symm
 refine⟨e,?_,hn⟩
 rw[e]
 simp only[resN]
 rw[okL_iff,hn]
 exact h.same

end

theorem law:Keyed Tryz.prog 3:=int_keyed Tryz.underlying3
theorem qw1(w:World):(zeroValue 3).run Tryz.prog w=.ok (.int .i64 0) w:=by kernel_rfl

def qgn(w:World)(mb:Nat)(S:St):Prop:=
 ∃D:DataW Unit,w.ownsMap Tryz.prog 3 (plainElem Tryz.prog 3) mb S.length D/\(∀n:Int,Maps.has D (.int .i64 n)=q7c S n)/\(∀p∈S,D.atKey (.int .i64 p.1) (.lit (.int .i64 0))=.lit (.int .i64 p.2))/\Maps.size D=S.length

theorem qc1{w w':World}{mb n:Nat}{D:DataW Unit}(h:w.ownsMap Tryz.prog 3 (plainElem Tryz.prog 3) mb n D)(e:w'.heap[mb]? =w.heap[mb]?):w'.ownsMap Tryz.prog 3 (plainElem Tryz.prog 3) mb n D:=by
 unfold World.ownsMap at *
 rw[e]
 exact h

theorem qgn.of_block{w w':World}{mb:Nat}{S:St}(h:qgn w mb S)(e:w'.heap[mb]? =w.heap[mb]?):qgn w' mb S:=by
 obtain⟨D,a,b⟩:=h
 exact⟨D,qc1 a e,b⟩

theorem qgn.lt{w:World}{mb:Nat}{S:St}(h:qgn w mb S):mb<w.heap.size:=by
 obtain⟨D,a,_⟩:=h
 exact a.lt

theorem qgn.look{w:World}{mb:Nat}{S:St}(h:qgn w mb S){n d:Int}(hp:(n,d)∈S)(hw:(Lit.int .i64 n).wf=true):
  ∀w':World,w'.heap[mb]? =w.heap[mb]?->(Instr.lookup 176 (.map (some mb)) (.int .i64 n) false).run Tryz.prog w'=.ok (.int .i64 d) w':=by
 intro w' e
 obtain⟨D,a,_,b,_⟩:=h
 obtain⟨c,hrun,hat,_⟩:=(qc1 a e).lookup_int law Tryz.underlying176 Tryz.underlying3 (qw1 _) (keyOf_int_mk Tryz.underlying3 hw)
 have:=(b _ hp).symm.trans hat
 simp at this
 subst this
 exact hrun

end
end Go.Proofs.YtlojfgdpmaigmafGreatDoor

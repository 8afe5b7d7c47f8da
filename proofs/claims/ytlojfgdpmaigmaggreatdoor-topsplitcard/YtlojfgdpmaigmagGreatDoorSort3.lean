/- slices.Sort of three numbers. -/
import Derived.Shelf.Sort.Plain
import Derived.Test.YtlojfgdpmaigmagGreatDoorP06
import Derived.Test.YtlojfgdpmaigmagGreatDoorP14
namespace Go.Proofs.YtlojfgdpmaigmagGreatDoor
open Go.RowKit Plain Go.Shelf

theorem qsk(b:Nat)(n0 n1 n2:Int)(W:World)(t:TypeId)(h:RowL W b t [.int .i64 n0,.int .i64 n1,.int .i64 n2]):
  Calls Tryz.prog 16 #[.slice (some ⟨b,0,none⟩) 3 3] W fun e w'=>e=.returned (.tuple #[])/\(∃m0 m1 m2:Int,m0<=m1/\m1<=m2/\(∀P:Int->Prop,P n0->P n1->P n2->P m0/\P m1/\P m2)/\w'.cell? ⟨b,0,none⟩=some (.int .i64 m0)/\w'.cell? ⟨b,1,none⟩=some (.int .i64 m1)/\w'.cell? ⟨b,2,none⟩=some (.int .i64 m2))/\b<w'.heap.size/\Below b W w':=by
 have hlt:=h.lt
 have hH:Sort.Holds (Value.int .i64) W b 0 [n0,n1,n2].toArray:=by
  intro j hj
  rw[Nat.zero_add]
  refine⟨?_,h.frozen j⟩
  have hj':j<3:=by simpa using hj
  rw[h.cell]
  rcases(show j=0\/j=1\/j=2 by omega) with rfl|rfl|rfl<;>rfl
 have c:=Any.slices_Sort_int Tryz.sortInts b 0 3 [n0,n1,n2] W hH hlt (by simp only[List.length_cons,List.length_nil];omega)
 change Calls Tryz.prog 16 _ _ _ at c
 refine c.mono ?_
 rintro e w' ⟨rfl,n,os,rfl⟩
 have hp:=List.mergeSort_perm [n0,n1,n2] fun x y=>decide (x<=y)
 have hs:=List.pairwise_mergeSort (le:=fun x y:Int=>decide (x<=y)) (fun a b c h1 h2=>by simp at *;omega) (fun a b=>by simp;omega) [n0,n1,n2]
 generalize ([n0,n1,n2].mergeSort fun x y=>decide (x<=y))=s at hp hs
 have hl:=hp.length_eq
 match s,hl with
 |[m0,m1,m2],_=>
  have hh:=Sort.holds_putRow (Value.int .i64) (Sort.ahead W n) b 0 [n0,n1,n2].toArray [m0,m1,m2].toArray (Sort.holds_ahead _ W n b 0 _ hH) rfl
  have hsz:(Sort.putRow (Value.int .i64) (Sort.ahead W n) b 0 [m0,m1,m2].toArray).heap.size=W.heap.size:=by rw[Sort.size_putRow];rfl
  have cg:∀j,(Sort.grow (Sort.putRow (Value.int .i64) (Sort.ahead W n) b 0 [m0,m1,m2].toArray) os).cell? ⟨b,j,none⟩=(Sort.putRow (Value.int .i64) (Sort.ahead W n) b 0 [m0,m1,m2].toArray).cell? ⟨b,j,none⟩:=fun j=>by
   simp only[World.cell?]
   rw[Sort.heap_grow_old _ _ (by rw[hsz];exact hlt)]
  refine⟨rfl,⟨m0,m1,m2,?_,?_,fun P p0 p1 p2=>?_,?_,?_,?_⟩,?_,?_⟩
  ·simp at hs;omega
  ·simp at hs;omega
  ·have ha:∀x∈[n0,n1,n2],P x:=by
    intro x hx
    simp at hx
    rcases hx with rfl|rfl|rfl
    ·exact p0
    ·exact p1
    ·exact p2
   exact⟨ha _ (hp.subset (by simp)),ha _ (hp.subset (by simp)),ha _ (hp.subset (by simp))⟩
  ·rw[cg];simpa using (hh 0 (by simp)).1
  ·rw[cg];simpa using (hh 1 (by simp)).1
  ·rw[cg];simpa using (hh 2 (by simp)).1
  ·rw[Sort.size_grow,hsz];omega
  ·refine⟨rfl,rfl,rfl,by rw[Sort.size_grow,hsz];omega,fun k hk=>?_⟩
   rw[Sort.heap_grow_old _ _ (by rw[hsz];omega)]
   have:b≠k:=by omega
   simp[Sort.putRow,Sort.mapBlock,Sort.ahead,Array.getElem?_modify,this]

end Go.Proofs.YtlojfgdpmaigmagGreatDoor

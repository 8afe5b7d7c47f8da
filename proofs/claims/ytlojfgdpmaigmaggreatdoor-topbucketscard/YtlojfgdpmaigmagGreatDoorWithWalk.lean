/- The document's WithEntry: entries with one more. -/
import Derived.Test.YtlojfgdpmaigmagGreatDoorP11
import Derived.Test.YtlojfgdpmaigmagGreatDoorP08
import Derived.Test.YtlojfgdpmaigmagGreatDoorP12
import Derived.Deep.DeepCutAuto
namespace Go.Proofs.YtlojfgdpmaigmagGreatDoor
open Go.RowKit Plain

theorem q8t{x:En}:∀{l:List En} (r:List En),(∀y∈l,y.key<x.key)->ins (l++r) x=(ins r x).map (l++·)
 |[],r,_=>by rw[List.nil_append];cases ins r x<;>rfl
 |y::l,r,h=>by
  rw[List.cons_append,eF (h y List.mem_cons_self),q8t r (fun z hz=>h z (List.mem_cons_of_mem _ hz))]
  cases ins r x<;>rfl

theorem qrh(w:World)(x:En):∀j u,x.vals[j]? =some u->(w.alloc (.cells x.vals.toArray 132)).cell? ((⟨w.heap.size,0,none⟩:Addr).add j)=some u:=by
 intro j u hu;rw[WideShapes.add_plain,Nat.zero_add,(aG w x.vals 132).cell];exact hu

theorem qX(x:En):∀u∈x.vals,u.oneCell'=true:=by
 have:=iL [x]
 simpa [aB] using this

theorem zU(l:List En)(x:En):aB l++x.vals=aB (l++[x]):=by rw[jS];simp[aB]

theorem wE{B:Nat}{W wd w1:World}{v:Value}{out:List En}{o:Obj}(hown:wd.ownsRow B 132 7 v out.length (aB out))(hb:Below B W wd)(hB:B<=wd.heap.size)(hg:(wd.alloc o).grownBy w1 v.ownBlock):Below B W w1/\B<=w1.heap.size:=by
 have hs:=hg.size;simp at hs;exact⟨(hb.alloc hB o).grown hg (by simp;omega) (fun k hk=>(hown.lt k hk).1),by omega⟩

theorem uJ{B:Nat}{w1:World}{v:Value}{out:List En}{y:En}(h:w1.ownsRow B 132 7 v (out.length+1) (aB out++y.vals)):w1.ownsRow B 132 7 v (out++[y]).length (aB (out++[y])):=by
 rw[zU] at h
 simpa using h

theorem q3k{W w3:World}{c:Array Value}{t:TypeId}{n:Nat}(hb:Below (W.alloc (.cells c t)).heap.size (W.alloc (.cells c t)) w3)(hn:W.heap.size=n):
  w3.cell? ⟨n,0,none⟩=c[0]?/\w3.cell? ⟨n,1,none⟩=c[1]?/\w3.cell? ⟨n,2,none⟩=c[2]?/\w3.cell? ⟨n,3,none⟩=c[3]?/\w3.cell? ⟨n,4,none⟩=c[4]?/\w3.cell? ⟨n,5,none⟩=c[5]?/\∀j,w3.frozen? ⟨n,j,none⟩=false:=by
 subst hn;have g:∀j,w3.cell? ⟨W.heap.size,j,none⟩=c[j]? :=fun j=>(hb.cell (p:=⟨W.heap.size,j,none⟩) (by simp)).trans (by simp)
 exact⟨g 0,g 1,g 2,g 3,g 4,g 5,fun j=>(hb.frozen (p:=⟨W.heap.size,j,none⟩) (by simp)).trans (by simp)⟩

end Go.Proofs.YtlojfgdpmaigmagGreatDoor

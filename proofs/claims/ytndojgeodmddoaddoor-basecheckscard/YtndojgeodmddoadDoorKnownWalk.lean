/- What is known of a key: the visitor of tree.knownAt. -/
import Derived.Test.YtndojgeodmddoadDoorGotWalk
namespace Go.Proofs.YtndojgeodmddoadDoor
open Go.RowKit Plain

def ruV (r : Ru) : List Value := [.int .i64 r.c, .int .i64 r.s, .int .i64 r.lo, .int .i64 r.hi, .int .i64 r.t, .int .i64 r.l]

/-- What is known so far, and the code so far, in their two blocks. -/
structure KAt (bk bc : Nat) (w : World) (s : Ru × Int) : Prop where
  ne : bk ≠ bc
  rk : RowL w bk 38 (ruV s.1)
  rc : RowL w bc 29 [.int .i64 s.2]

def stepK (s : Ru × Int) (x : En) : Ru × Int := if s.2 = 0 then mrg s.1 x.ru else s

theorem KAt.below {bk bc : Nat} {w w' : World} {s : Ru × Int} (h : KAt bk bc w s) (hb : Below w.heap.size w w') : KAt bk bc w' s :=
  ⟨h.ne, h.rk.below hb h.rk.lt, h.rc.below hb h.rc.lt⟩

theorem KAt.set {bk bc : Nat} {w : World} {s : Ru × Int} (h : KAt bk bc w s) (r : Ru) (e : Int) :
    KAt bk bc (((((((w.setCell ⟨bk, 0, none⟩ (.int .i64 r.c)).setCell ⟨bk, 1, none⟩ (.int .i64 r.s)).setCell ⟨bk, 2, none⟩ (.int .i64 r.lo)).setCell ⟨bk, 3, none⟩ (.int .i64 r.hi)).setCell ⟨bk, 4, none⟩ (.int .i64 r.t)).setCell ⟨bk, 5, none⟩ (.int .i64 r.l)).setCell ⟨bc, 0, none⟩ (.int .i64 e)) (r, e) := by
  have far : ∀ (W : World) (j : Nat) (v : Value), (W.setCell ⟨bk, j, none⟩ v).heap[bc]? = W.heap[bc]? := fun W j v => Below.heap_setCell _ _ _ _ (fun q => h.ne q.symm)
  refine ⟨h.ne, ?_, ?_⟩
  · exact ((((((h.rk.set 0 _).set 1 _).set 2 _).set 3 _).set 4 _).set 5 _).of_block (Below.heap_setCell _ _ _ _ h.ne)
  · exact ((((((h.rc.of_block (far _ _ _)).of_block (far _ _ _)).of_block (far _ _ _)).of_block (far _ _ _)).of_block (far _ _ _)).of_block (far _ _ _)).set 0 (.int .i64 e)

end Go.Proofs.YtndojgeodmddoadDoor

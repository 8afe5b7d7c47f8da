/- The document's GotOf: what a tree knows of a key. -/
import Derived.Test.YtndojgeodmddoadDoorAllWalk
namespace Go.Proofs.YtndojgeodmddoadDoor
open Go.RowKit Plain

/-- What is known of a key, out of all that the nodes hold. -/
def gotA (ns : List Nd) (key : Int) : Ru × Int :=
  match allR key (key + 1) (ns.flatMap Nd.lst) with
  | none => (zro, 1)
  | some [] => (zro, 0)
  | some (y :: _) => (y.ru, 0)
def gotP (ns : List Nd) (root key : Int) : Ru × Int :=
  if treeC ns root ≠ 0 then (zro, treeC ns root) else if inB key 0 1099511627775 = true then gotA ns key else (zro, 2)

theorem two_cells {w w1 : World} {a : Obj} {c : Array Value} {t : TypeId} (hb : Below ((w.alloc a).alloc (.cells c t)).heap.size ((w.alloc a).alloc (.cells c t)) w1) :
    (∀ j, w1.cell? ⟨w.heap.size + 1, j, none⟩ = c[j]?) ∧ (∀ j, w1.frozen? ⟨w.heap.size + 1, j, none⟩ = false) ∧ w.heap.size + 1 < w1.heap.size :=
  ⟨fun j => (hb.cell (p := ⟨w.heap.size + 1, j, none⟩) (by simp)).trans (by simp), fun j => (hb.frozen (p := ⟨w.heap.size + 1, j, none⟩) (by simp)).trans (by simp), (sz2 hb).2⟩

theorem allOf_any (A : Option Addr) (C : Nat) (r low high : Int) (ps : List PN) (w : World) (hN : NodesAt w.heap.size w A ps) (hc : treeC (ps.map PN.nd) r = 0) :
    Calls Tryd.prog 22 #[.agg #[.slice A ps.length C, .int .i64 r], .int .i64 low, .int .i64 high] w
      fun e w' => Below w.heap.size w w' ∧ match allR low high ((ps.map PN.nd).flatMap Nd.lst) with
        | some ys => ∃ v, e = .returned (.tuple #[v, .int .i64 0]) ∧ w'.ownsRow w.heap.size 61 7 v ys.length (flatE ys)
        | none => e = .returned (.tuple #[.slice none 0 0, .int .i64 1]) :=
  allOf_ok A C r low high ps w hN hc _ (fun e w' h1 h2 h3 => by
    refine ⟨h1, ?_⟩
    cases hi : allR low high ((ps.map PN.nd).flatMap Nd.lst) with
    | none => exact h3 hi
    | some ys => exact h2 ys hi)

theorem rest_below {w w1 w2 : World} {a b : Obj} (hb1 : Below ((w.alloc a).alloc b).heap.size ((w.alloc a).alloc b) w1) (hb2 : Below w1.heap.size w1 w2) : Below w.heap.size w w2 := nextB (nextB (two a b) (Nat.le_refl _) hb1) (Nat.le_refl _) hb2

end Go.Proofs.YtndojgeodmddoadDoor

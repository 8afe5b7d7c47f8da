/- Total's visitor: what a tree knows of some times comes behind what was gathered. -/
import Derived.Test.YtlojfgdpmaigmaeGreatDoorMergeAll
import Derived.Test.YtlojfgdpmaigmaeGreatDoorP32
import Derived.Deep.RegionHeld3
import Derived.Test.YtlojfgdpmaigmaeGreatDoorTotalRef
namespace Go.Proofs.YtlojfgdpmaigmaeGreatDoor
open Go.RowKit Plain

section
variable {w wr w' : World} {A : Option Addr} {C : Nat} {ss : List ByteArray} {t0 t1 t2 : TR} {f p : Int} {bb pb lb cb B : Nat} {GA : Option Addr} {GC : Nat} {G : List En}

end

end Go.Proofs.YtlojfgdpmaigmaeGreatDoor

/- base.cover: all buckets of a span are visited, great ones where they are within. -/
namespace Go.Proofs.YtlojfgdpmaigmaeGreatDoor
open Go.RowKit Plain

end Go.Proofs.YtlojfgdpmaigmaeGreatDoor

/- base.Total. -/
namespace Go.Proofs.YtlojfgdpmaigmaeGreatDoor
open Go.RowKit Plain

end Go.Proofs.YtlojfgdpmaigmaeGreatDoor

/- Total: what is refused, by the program and by the document. -/
namespace Go.Proofs.YtlojfgdpmaigmaeGreatDoor
open Go.RowKit Plain

set_option maxRecDepth 20000 in
set_option maxHeartbeats 2000000 in
theorem total_c (A : Option Addr) (C : Nat) (ss : List ByteArray) (t0 t1 t2 : TR) (f : Int) (x : ByteArray) (a b : Int) (w : World) (c q : Int) (hc : (c != 0) = true) (con1 : Hid (∀ W, Below w.heap.size w W → Calls Tryz.prog 32 #[.agg (baseV A C ss t0 t1 t2 f).toArray, .string x] W fun e w' => e = .returned (.tuple #[.int .i64 q, .int .i64 c]) ∧ Below W.heap.size W w')) :
    Calls Tryz.prog 16 #[.agg (baseV A C ss t0 t1 t2 f).toArray, .string x, .int .i64 a, .int .i64 b] w (MaTo (zro, c) w) := by
  have B2' : Hid (∀ o1 o2 : Obj, Below w.heap.size w ((w.alloc o1).alloc o2)) := fun o1 o2 => ((Below.refl _ _).alloc (Nat.le_refl _) _).alloc (by simp) _
  have RZ' : Hid (∀ o1 : Obj, RowL ((w.alloc o1).alloc (.cells (ruV zro).toArray 45)) (w.heap.size + 1) 45 (ruV zro)) := fun o1 => by
    have k := rowL_alloc (w.alloc o1) (ruV zro) 45
    simpa using k
  obtain ⟨A0, C0, p0, r0⟩ := t0
  obtain ⟨A1, C1, p1, r1⟩ := t1
  obtain ⟨A2, C2, p2, r2⟩ := t2
  simp only [baseV] at con1 ⊢
  go_enter Tryz.func16, Tryz.ntmps16
  go_upto_region 3 with (first | (go_at_call 32; refine (con1.out _ (B2'.out _ _)).mono ?_; rintro e w1 ⟨rfl, hb1⟩; have Z1 := hideB ((RZ'.out _).below hb1 (RZ'.out _).lt); have BB1 := hideB (nextB (B2'.out _ _) (Nat.le_refl _) hb1); have s1 := fun j => Z1.out.cell j; have f1 := fun j => Z1.out.frozen j; have l1 := Z1.out.lt; simp only [ruV, zro] at s1; clear hb1))
  repeat go_step
  refine bodyPost_ret (v := .tuple #[.agg #[.int .i64 0, .int .i64 0, .int .i64 0, .int .i64 0, .int .i64 0, .int .i64 0], .int .i64 c]) (by simp [results, Tryz.results16, go_sem, s1, l1]) rfl (maZ rfl ?_)
  exact (setB6_below BB1.out (Nat.le_succ _) zro).alloc (by have := BB1.out.size; simp [setB6]; omega) _

set_option maxRecDepth 20000 in
set_option maxHeartbeats 2000000 in
theorem total_span (A : Option Addr) (C : Nat) (ss : List ByteArray) (t0 t1 t2 : TR) (f : Int) (x : ByteArray) (a b : Int) (w : World) (q : Int) (hsp : spanB a b = false) (con1 : Hid (∀ W, Below w.heap.size w W → Calls Tryz.prog 32 #[.agg (baseV A C ss t0 t1 t2 f).toArray, .string x] W fun e w' => e = .returned (.tuple #[.int .i64 q, .int .i64 0]) ∧ Below W.heap.size W w')) :
    Calls Tryz.prog 16 #[.agg (baseV A C ss t0 t1 t2 f).toArray, .string x, .int .i64 a, .int .i64 b] w (MaTo (zro, 2) w) := by
  have B2' : Hid (∀ o1 o2 : Obj, Below w.heap.size w ((w.alloc o1).alloc o2)) := fun o1 o2 => ((Below.refl _ _).alloc (Nat.le_refl _) _).alloc (by simp) _
  have RZ' : Hid (∀ o1 : Obj, RowL ((w.alloc o1).alloc (.cells (ruV zro).toArray 45)) (w.heap.size + 1) 45 (ruV zro)) := fun o1 => by
    have k := rowL_alloc (w.alloc o1) (ruV zro) 45
    simpa using k
  have con3 := hideB fun W => span_any a b W
  rw [hsp] at con3
  obtain ⟨A0, C0, p0, r0⟩ := t0
  obtain ⟨A1, C1, p1, r1⟩ := t1
  obtain ⟨A2, C2, p2, r2⟩ := t2
  simp only [baseV] at con1 ⊢
  go_enter Tryz.func16, Tryz.ntmps16
  go_upto_region 5 with (first | (go_at_call 32; refine (con1.out _ (B2'.out _ _)).mono ?_; rintro e w1 ⟨rfl, hb1⟩; have Z1 := hideB ((RZ'.out _).below hb1 (RZ'.out _).lt); have BB1 := hideB (nextB (B2'.out _ _) (Nat.le_refl _) hb1); have s1 := fun j => Z1.out.cell j; have f1 := fun j => Z1.out.frozen j; have l1 := Z1.out.lt; simp only [ruV, zro] at s1; clear hb1) | (go_at_call 33; refine (con3.out _).mono ?_; rintro e wx ⟨rfl, hwx⟩; subst wx))
  repeat go_step
  refine bodyPost_ret (v := .tuple #[.agg #[.int .i64 0, .int .i64 0, .int .i64 0, .int .i64 0, .int .i64 0, .int .i64 0], .int .i64 2]) (by simp [results, Tryz.results16, go_sem, s1, l1]) rfl (maZ rfl ?_)
  exact (setB6_below BB1.out (Nat.le_succ _) zro).alloc (by have := BB1.out.size; simp [setB6]; omega) _

end Go.Proofs.YtlojfgdpmaigmaeGreatDoor

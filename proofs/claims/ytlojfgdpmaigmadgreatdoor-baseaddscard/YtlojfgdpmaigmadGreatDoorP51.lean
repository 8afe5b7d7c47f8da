/- The document's AddedOf: its walk, over what its callees do. -/
import Derived.Test.YtlojfgdpmaigmadGreatDoorP50
import Derived.Test.YtlojfgdpmaigmadGreatDoorP41
import Derived.Test.YtlojfgdpmaigmadGreatDoorP34
import Derived.Deep.DeepCutAuto
namespace Go.Proofs.YtlojfgdpmaigmadGreatDoor
open Go.RowKit Plain Go.Shelf

/-- On the way: the boxes of the base and of the point. -/
structure ArS (w wr : World) (L : List Value) (s : ByteArray) (t v : Int) : Prop where
  below : Below w.heap.size w wr
  bb : RowL wr w.heap.size 28 L
  bp : RowL wr (w.heap.size + 1) 30 (ptV s t v)

theorem ArS.next {w wr w' : World} {L : List Value} {s : ByteArray} {t v : Int} (h : ArS w wr L s t v) (hb : Below wr.heap.size wr w') : ArS w w' L s t v :=
  ⟨nextB h.below (Nat.le_refl _) hb, h.bb.below hb h.bb.lt, h.bp.below hb h.bp.lt⟩

theorem ArS.start (w : World) (L : List Value) (s : ByteArray) (t v : Int) : ArS w ((w.alloc (.cells L.toArray 28)).alloc (.cells (ptV s t v).toArray 30)) L s t v := by
  have s1 : (w.alloc (.cells L.toArray 28)).heap.size = w.heap.size + 1 := by simp
  have r1 := rowL_alloc w L 28
  have r2 := rowL_alloc (w.alloc (.cells L.toArray 28)) (ptV s t v) 30
  rw [s1] at r2
  exact ⟨((Below.refl _ _).alloc (Nat.le_refl _) _).alloc (by omega) _, r1.of_block (Below.heap_alloc _ _ _ (by omega)), r2⟩

/-- Refused. -/
def noAdd (c : Int) : Value := .tuple #[.slice none 0 0, .slice none 0 0, .int .i64 c]

set_option maxRecDepth 20000 in
set_option maxHeartbeats 2000000 in
theorem ar_b1 (A A0 A1 A2 : Option Addr) (C C0 C1 C2 : Nat) (ss : List ByteArray) (p0 p1 p2 : List PN) (r0 r1 r2 f : Int) (s : ByteArray) (t v : Int) (w : World)
    (MM : Hid (∀ W, Below w.heap.size w W → Calls Tryz.prog 20 #[.agg #[.slice A ss.length C, .slice A0 p0.length C0, .int .i64 r0, .slice A1 p1.length C1, .int .i64 r1, .slice A2 p2.length C2, .int .i64 r2, .int .i64 f]] W fun e w' => e = .returned (.bool false) ∧ Below W.heap.size W w')) :
    Calls Tryz.prog 6 #[.agg #[.slice A ss.length C, .slice A0 p0.length C0, .int .i64 r0, .slice A1 p1.length C1, .int .i64 r1, .slice A2 p2.length C2, .int .i64 r2, .int .i64 f], .agg #[.string s, .int .i64 t, .int .i64 v]] w fun e w' => e = .returned (noAdd 7) ∧ Below w.heap.size w w' := by
  have HS := hideC (ArS.start w [.slice A ss.length C, .slice A0 p0.length C0, .int .i64 r0, .slice A1 p1.length C1, .int .i64 r1, .slice A2 p2.length C2, .int .i64 r2, .int .i64 f] s t v)
  go_enter Tryz.func6, Tryz.ntmps6
  go_wp2_with (first
    | (go_at_call 20; refine (MM.out _ HS.out.below).mono ?_; rintro e w1 ⟨rfl, hb1⟩; have H1 := hideC (HS.out.next hb1); have d1 := fun j => H1.out.bp.cell j; have e1 := fun j => H1.out.bb.cell j; have l1 := H1.out.bp.lt; simp only [ptV] at d1; clear hb1))
  exact bodyPost_ret (v := noAdd 7) (by simp [noAdd, results, Tryz.results6, go_sem]) rfl ⟨rfl, H1.out.below⟩

set_option maxRecDepth 20000 in
set_option maxHeartbeats 2000000 in
theorem ar_b2 (A A0 A1 A2 : Option Addr) (C C0 C1 C2 : Nat) (ss : List ByteArray) (p0 p1 p2 : List PN) (r0 r1 r2 f : Int) (s : ByteArray) (t v : Int) (w : World)
    (MM : Hid (∀ W, Below w.heap.size w W → Calls Tryz.prog 20 #[.agg #[.slice A ss.length C, .slice A0 p0.length C0, .int .i64 r0, .slice A1 p1.length C1, .int .i64 r1, .slice A2 p2.length C2, .int .i64 r2, .int .i64 f]] W fun e w' => e = .returned (.bool true) ∧ Below W.heap.size W w'))
    (NM : Hid (∀ W, Calls Tryz.prog 21 #[.string s] W fun e w' => e = .returned (.bool false) ∧ w' = W)) :
    Calls Tryz.prog 6 #[.agg #[.slice A ss.length C, .slice A0 p0.length C0, .int .i64 r0, .slice A1 p1.length C1, .int .i64 r1, .slice A2 p2.length C2, .int .i64 r2, .int .i64 f], .agg #[.string s, .int .i64 t, .int .i64 v]] w fun e w' => e = .returned (noAdd 4) ∧ Below w.heap.size w w' := by
  have HS := hideC (ArS.start w [.slice A ss.length C, .slice A0 p0.length C0, .int .i64 r0, .slice A1 p1.length C1, .int .i64 r1, .slice A2 p2.length C2, .int .i64 r2, .int .i64 f] s t v)
  go_enter Tryz.func6, Tryz.ntmps6
  go_wp2_with (first
    | (go_at_call 20; refine (MM.out _ HS.out.below).mono ?_; rintro e w1 ⟨rfl, hb1⟩; have H1 := hideC (HS.out.next hb1); have d1 := fun j => H1.out.bp.cell j; have e1 := fun j => H1.out.bb.cell j; have l1 := H1.out.bp.lt; simp only [ptV] at d1; clear hb1)
    | (go_at_call 21; refine (NM.out _).mono ?_; rintro e wx ⟨rfl, hwx⟩; subst wx))
  exact bodyPost_ret (v := noAdd 4) (by simp [noAdd, results, Tryz.results6, go_sem]) rfl ⟨rfl, H1.out.below⟩

set_option maxRecDepth 20000 in
set_option maxHeartbeats 2000000 in
theorem ar_b3 (A A0 A1 A2 : Option Addr) (C C0 C1 C2 : Nat) (ss : List ByteArray) (p0 p1 p2 : List PN) (r0 r1 r2 f : Int) (s : ByteArray) (t v : Int) (w : World) (r : Ru) (c p : Int) (h0 : c ≠ 0) (hS : StrsAt w.heap.size w A ss) (hA : A = none → C = 0)
    (MM : Hid (∀ W, Below w.heap.size w W → Calls Tryz.prog 20 #[.agg #[.slice A ss.length C, .slice A0 p0.length C0, .int .i64 r0, .slice A1 p1.length C1, .int .i64 r1, .slice A2 p2.length C2, .int .i64 r2, .int .i64 f]] W fun e w' => e = .returned (.bool true) ∧ Below W.heap.size W w'))
    (NM : Hid (∀ W, Calls Tryz.prog 21 #[.string s] W fun e w' => e = .returned (.bool true) ∧ w' = W))
    (RO : Hid (∀ W, Calls Tryz.prog 22 #[.int .i64 t, .int .i64 v] W fun e w' => e = .returned (ruT r c) ∧ Below W.heap.size W w'))
    (PL : Hid (∀ VA VC W, StrsAt W.heap.size W VA ss → Calls Tryz.prog 23 #[.slice VA ss.length VC, .string s] W fun e w' => e = .returned (.int .i64 p) ∧ w' = W)) :
    Calls Tryz.prog 6 #[.agg #[.slice A ss.length C, .slice A0 p0.length C0, .int .i64 r0, .slice A1 p1.length C1, .int .i64 r1, .slice A2 p2.length C2, .int .i64 r2, .int .i64 f], .agg #[.string s, .int .i64 t, .int .i64 v]] w fun e w' => e = .returned (noAdd c) ∧ Below w.heap.size w w' := by
  have HS := hideC (ArS.start w [.slice A ss.length C, .slice A0 p0.length C0, .int .i64 r0, .slice A1 p1.length C1, .int .i64 r1, .slice A2 p2.length C2, .int .i64 r2, .int .i64 f] s t v)
  have hc' : (c != 0) = true := by simpa using h0
  have hc'' : (c == 0) = false := by simpa using h0
  simp only [ruT] at RO
  go_enter Tryz.func6, Tryz.ntmps6
  go_wp2_with (first
    | (go_at_call 20; refine (MM.out _ HS.out.below).mono ?_; rintro e w1 ⟨rfl, hb1⟩; have H1 := hideC (HS.out.next hb1); have d1 := fun j => H1.out.bp.cell j; have e1 := fun j => H1.out.bb.cell j; have l1 := H1.out.bp.lt; simp only [ptV] at d1; clear hb1)
    | (go_at_call 21; refine (NM.out _).mono ?_; rintro e wx ⟨rfl, hwx⟩; subst wx)
    | (go_at_call 22; refine (RO.out _).mono ?_; rintro e w2 ⟨rfl, hb2⟩; clear d1 e1; have H2 := hideC (H1.out.next hb2); have H3 := hideC (H2.out.next ((Below.refl _ _).alloc (Nat.le_refl _) (.cells (ruV r).toArray 46))); have d2 := fun j => H2.out.bp.cell j; have e2 := fun j => H2.out.bb.cell j; have l2 := H2.out.bp.lt; have l3 := H2.out.bb.lt; simp only [ptV] at d2; clear hb2)
    | (at_builtin; refine wpList_app_nilS rfl _ _ rfl A C ss rfl rfl (hS.up H3.out.below) hA ?_; intro VA VC w4 ho4 hb4; have H4 := hideC (H3.out.next hb4); have S4 : Hid (StrsAt w4.heap.size w4 VA ss) := ⟨(own_ok ho4).1, hS.z, hS.each⟩; have d4 := fun j => H4.out.bp.cell j; have e4 := fun j => H4.out.bb.cell j; simp only [ptV] at d4; clear d2 e2)
    | (go_at_call 23; refine (PL.out _ _ _ S4.out).mono ?_; rintro e wy ⟨rfl, hwy⟩; subst wy))
  exact bodyPost_ret (v := noAdd c) (by simp [noAdd, results, Tryz.results6, go_sem]) rfl ⟨rfl, H4.out.below⟩

set_option maxRecDepth 20000 in
set_option maxHeartbeats 2000000 in
theorem ar_b4 (A A0 A1 A2 : Option Addr) (C C0 C1 C2 : Nat) (ss : List ByteArray) (p0 p1 p2 : List PN) (r0 r1 r2 f : Int) (s : ByteArray) (t v : Int) (w : World) (r : Ru) (p : Int) (hf : t < f) (hS : StrsAt w.heap.size w A ss) (hA : A = none → C = 0)
    (MM : Hid (∀ W, Below w.heap.size w W → Calls Tryz.prog 20 #[.agg #[.slice A ss.length C, .slice A0 p0.length C0, .int .i64 r0, .slice A1 p1.length C1, .int .i64 r1, .slice A2 p2.length C2, .int .i64 r2, .int .i64 f]] W fun e w' => e = .returned (.bool true) ∧ Below W.heap.size W w'))
    (NM : Hid (∀ W, Calls Tryz.prog 21 #[.string s] W fun e w' => e = .returned (.bool true) ∧ w' = W))
    (RO : Hid (∀ W, Calls Tryz.prog 22 #[.int .i64 t, .int .i64 v] W fun e w' => e = .returned (ruT r 0) ∧ Below W.heap.size W w'))
    (PL : Hid (∀ VA VC W, StrsAt W.heap.size W VA ss → Calls Tryz.prog 23 #[.slice VA ss.length VC, .string s] W fun e w' => e = .returned (.int .i64 p) ∧ w' = W)) :
    Calls Tryz.prog 6 #[.agg #[.slice A ss.length C, .slice A0 p0.length C0, .int .i64 r0, .slice A1 p1.length C1, .int .i64 r1, .slice A2 p2.length C2, .int .i64 r2, .int .i64 f], .agg #[.string s, .int .i64 t, .int .i64 v]] w fun e w' => e = .returned (noAdd 8) ∧ Below w.heap.size w w' := by
  have HS := hideC (ArS.start w [.slice A ss.length C, .slice A0 p0.length C0, .int .i64 r0, .slice A1 p1.length C1, .int .i64 r1, .slice A2 p2.length C2, .int .i64 r2, .int .i64 f] s t v)
  simp only [ruT] at RO
  go_enter Tryz.func6, Tryz.ntmps6
  go_wp2_with (first
    | (go_at_call 20; refine (MM.out _ HS.out.below).mono ?_; rintro e w1 ⟨rfl, hb1⟩; have H1 := hideC (HS.out.next hb1); have d1 := fun j => H1.out.bp.cell j; have e1 := fun j => H1.out.bb.cell j; have l1 := H1.out.bp.lt; simp only [ptV] at d1; clear hb1)
    | (go_at_call 21; refine (NM.out _).mono ?_; rintro e wx ⟨rfl, hwx⟩; subst wx)
    | (go_at_call 22; refine (RO.out _).mono ?_; rintro e w2 ⟨rfl, hb2⟩; clear d1 e1; have H2 := hideC (H1.out.next hb2); have H3 := hideC (H2.out.next ((Below.refl _ _).alloc (Nat.le_refl _) (.cells (ruV r).toArray 46))); have d2 := fun j => H2.out.bp.cell j; have e2 := fun j => H2.out.bb.cell j; have l2 := H2.out.bp.lt; have l3 := H2.out.bb.lt; simp only [ptV] at d2; clear hb2)
    | (at_builtin; refine wpList_app_nilS rfl _ _ rfl A C ss rfl rfl (hS.up H3.out.below) hA ?_; intro VA VC w4 ho4 hb4; have H4 := hideC (H3.out.next hb4); have S4 : Hid (StrsAt w4.heap.size w4 VA ss) := ⟨(own_ok ho4).1, hS.z, hS.each⟩; have d4 := fun j => H4.out.bp.cell j; have e4 := fun j => H4.out.bb.cell j; simp only [ptV] at d4; clear d2 e2)
    | (go_at_call 23; refine (PL.out _ _ _ S4.out).mono ?_; rintro e wy ⟨rfl, hwy⟩; subst wy))
  exact bodyPost_ret (v := noAdd 8) (by simp [noAdd, results, Tryz.results6, go_sem]) rfl ⟨rfl, H4.out.below⟩

end Go.Proofs.YtlojfgdpmaigmadGreatDoor

/- The document's AddedOf: where the point may be. -/
namespace Go.Proofs.YtlojfgdpmaigmadGreatDoor
open Go.RowKit Plain Go.Shelf

/-- What AddedOf comes to, then. -/
def ArOut (ns : List ByteArray) (wo : Option (List En)) (o1 o2 : Bool) (w : World) (e : Ending) (w' : World) : Prop :=
  Below w.heap.size w w' ∧ ((∃ M, ns.length ≤ 16 ∧ wo = some M ∧ o1 = true ∧ o2 = true ∧ ∃ VA VC MA MC, e = .returned (.tuple #[.slice VA ns.length VC, .slice MA M.length MC, .int .i64 0]) ∧ StrsAt w'.heap.size w' VA ns ∧ RowAt w'.heap.size w' MA (flatE M)) ∨
    ((16 < ns.length ∨ wo = none ∨ o1 = false ∨ o2 = false) ∧ e = .returned (noAdd 1)))

theorem arOut_no {ns : List ByteArray} {wo : Option (List En)} {o1 o2 : Bool} {w w' : World} (hb : Below w.heap.size w w') (h : 16 < ns.length ∨ wo = none ∨ o1 = false ∨ o2 = false) : ArOut ns wo o1 o2 w (.returned (noAdd 1)) w' := ⟨hb, .inr ⟨h, rfl⟩⟩

theorem arOut_yes {ns : List ByteArray} {M : List En} {w w' : World} {VA MA : Option Addr} {VC MC : Nat} (hb : Below w.heap.size w w') (hl : ns.length ≤ 16) (hs : StrsAt w'.heap.size w' VA ns) (hm : RowAt w'.heap.size w' MA (flatE M)) : ArOut ns (some M) true true w (.returned (.tuple #[.slice VA ns.length VC, .slice MA M.length MC, .int .i64 0])) w' :=
  ⟨hb, .inl ⟨M, hl, rfl, rfl, rfl, VA, VC, MA, MC, rfl, hs, hm⟩⟩

theorem own_low4 {w W w4 : World} {e : TypeId} {n : Nat} {v : Value} {vs : List Value} (h : w4.ownsRow W.heap.size e 1 v n vs) (hb : Below w.heap.size w W) : w4.ownsRow w.heap.size e 1 v n vs := own_mono h hb.size

/-- The names with one more: what stands then. -/
theorem ar_names {w W w4 w5 : World} {o : Obj} {L : List Value} {s : ByteArray} {t v : Int} {r : Ru} {rb : Nat} {ss : List ByteArray} {A VA VB : Option Addr} {VC VD : Nat} (H : ArS w w4 L s t v) (K : RowL w4 rb 46 (ruV r)) (ho : w4.ownsRow W.heap.size 9 1 (.slice VA ss.length VC) ss.length (strs ss)) (hW : Below w.heap.size w W) (hS : StrsAt w.heap.size w A ss) (hs : s.size ≤ 140737488351232) (hl : ss.length ≤ 16) (hrW : rb < W.heap.size) (hlo : w.heap.size + 1 < W.heap.size)
    (hown : w5.ownsRow w.heap.size 9 1 (.slice VB (ss.length + 1) VD) (ss.length + 1) (strs ss ++ [.string s])) (hg : (w4.alloc o).grownBy w5 (Value.slice VA ss.length VC).ownBlock) :
    StrsAt w5.heap.size w5 VB (ss ++ [s]) ∧ ArS w w5 L s t v ∧ RowL w5 rb 46 (ruV r) := by
  have far : ∀ k, k < w4.heap.size → k < W.heap.size → w5.heap[k]? = w4.heap[k]? := fun k hk hkW => (hg.block k (by simp; omega) (fun e => by have := (ho.lt k e.symm).1; omega)).trans (Below.heap_alloc _ _ _ hk)
  have hz := hS.z
  refine ⟨⟨?_, by simp; omega, ?_⟩, ⟨?_, H.bb.of_block (far _ H.bb.lt (by omega)), H.bp.of_block (far _ H.bp.lt hlo)⟩, K.of_block (far _ K.lt hrW)⟩
  · rw [strs_snoc]
    exact (own_ok hown).1
  · intro x hx
    rcases List.mem_append.1 hx with hx | hx
    · exact hS.each x hx
    · obtain rfl : x = s := by simpa using hx
      exact hs
  · have h1 := hW.size
    exact (H.below.alloc H.below.size _).grown hg (by simp; have := H.below.size; omega) (fun k hk => by have := (ho.lt k hk).1; omega)

set_option maxRecDepth 20000 in
set_option maxHeartbeats 2000000 in
theorem ar_go (A A0 A1 A2 : Option Addr) (C C0 C1 C2 : Nat) (ss : List ByteArray) (p0 p1 p2 : List PN) (r0 r1 r2 f : Int) (s : ByteArray) (t v : Int) (w : World) (ns : List ByteArray) (r : Ru) (p q : Int) (L0 : List En) (wo : Option (List En)) (o1 o2 : Bool) (hf : ¬ t < f) (hns : ns = if p < 0 then ss ++ [s] else ss) (hq : q = if p < 0 then (ss.length : Int) else p) (hq0 : 0 ≤ q ∧ q ≤ 16) (ht : 0 ≤ t ∧ t ≤ 1048575) (hl : ss.length ≤ 16) (hS : StrsAt w.heap.size w A ss) (hA : A = none → C = 0) (hs : s.size ≤ 140737488351232)
    (MM : Hid (∀ W, Below w.heap.size w W → Calls Tryz.prog 20 #[.agg #[.slice A ss.length C, .slice A0 p0.length C0, .int .i64 r0, .slice A1 p1.length C1, .int .i64 r1, .slice A2 p2.length C2, .int .i64 r2, .int .i64 f]] W fun e w' => e = .returned (.bool true) ∧ Below W.heap.size W w'))
    (NM : Hid (∀ W, Calls Tryz.prog 21 #[.string s] W fun e w' => e = .returned (.bool true) ∧ w' = W))
    (RO : Hid (∀ W, Calls Tryz.prog 22 #[.int .i64 t, .int .i64 v] W fun e w' => e = .returned (ruT r 0) ∧ Below W.heap.size W w'))
    (PL : Hid (∀ VA VC W, StrsAt W.heap.size W VA ss → Calls Tryz.prog 23 #[.slice VA ss.length VC, .string s] W fun e w' => e = .returned (.int .i64 p) ∧ w' = W))
    (BK : Hid (∀ W, Below w.heap.size w W → Calls Tryz.prog 24 #[.agg #[.slice A ss.length C, .slice A0 p0.length C0, .int .i64 r0, .slice A1 p1.length C1, .int .i64 r1, .slice A2 p2.length C2, .int .i64 r2, .int .i64 f]] W fun e w' => (∃ LA LC, e = .returned (.tuple #[.slice LA L0.length LC, .bool true]) ∧ RowAt w'.heap.size w' LA (flatE L0)) ∧ Below W.heap.size W w'))
    (WE : Hid (∀ LA LC W, RowAt W.heap.size W LA (flatE L0) → Calls Tryz.prog 25 #[.slice LA L0.length LC, .agg #[.int .i64 (1048576 * q + t), .int .i64 r.c, .int .i64 r.s, .int .i64 r.lo, .int .i64 r.hi, .int .i64 r.t, .int .i64 r.l]] W fun e w' => Below W.heap.size W w' ∧ ((∃ M, wo = some M ∧ ∃ MA MC, e = .returned (.tuple #[.slice MA M.length MC, .int .i64 0]) ∧ RowAt w'.heap.size w' MA (flatE M)) ∨ (wo = none ∧ e = .returned (.tuple #[.slice none 0 0, .int .i64 1])))))
    (R1 : Hid (∀ M, wo = some M → ∀ MA MC W, RowAt W.heap.size W MA (flatE M) → Calls Tryz.prog 26 #[.slice MA M.length MC, .int .i64 60] W fun e w' => (∃ x, e = .returned (.tuple #[x, .bool o1])) ∧ Below W.heap.size W w'))
    (R2 : Hid (∀ M, wo = some M → ∀ MA MC W, RowAt W.heap.size W MA (flatE M) → Calls Tryz.prog 26 #[.slice MA M.length MC, .int .i64 3600] W fun e w' => (∃ x, e = .returned (.tuple #[x, .bool o2])) ∧ Below W.heap.size W w')) :
    Calls Tryz.prog 6 #[.agg #[.slice A ss.length C, .slice A0 p0.length C0, .int .i64 r0, .slice A1 p1.length C1, .int .i64 r1, .slice A2 p2.length C2, .int .i64 r2, .int .i64 f], .agg #[.string s, .int .i64 t, .int .i64 v]] w (ArOut ns wo o1 o2 w) := by
  have HS := hideC (ArS.start w [.slice A ss.length C, .slice A0 p0.length C0, .int .i64 r0, .slice A1 p1.length C1, .int .i64 r1, .slice A2 p2.length C2, .int .i64 r2, .int .i64 f] s t v)
  simp only [ruT] at RO
  obtain ⟨i0, hi0, hz0, hz1, hz2⟩ := info_parts infoStr
  go_enter Tryz.func6, Tryz.ntmps6
  have K4F : Hid (∀ w2 w4 : World, Below (w2.alloc (.cells (ruV r).toArray 46)).heap.size (w2.alloc (.cells (ruV r).toArray 46)) w4 → RowL w4 w2.heap.size 46 (ruV r)) := fun w2 _ hb => (rowL_alloc w2 (ruV r) _).below hb (by simp)
  have m1 : IntKind.i64.wrap (1048576 * q) = 1048576 * q := by rw [IntKind.wrap_i64]; omega
  have m2 : IntKind.i64.wrap (1048576 * q + t) = 1048576 * q + t := by rw [IntKind.wrap_i64]; omega
  by_cases hp : p < 0
  · simp only [hp, if_true] at hns hq
    subst hns hq
    have hl4 : (ss ++ [s]).length = ss.length + 1 := by simp
    by_cases h16 : 16 ≤ ss.length
    · have hg : (16 : Int) ≤ (ss.length : Int) := by omega
      go_wp2_with (first
        | (go_at_call 20; refine (MM.out _ HS.out.below).mono ?_; rintro e w1 ⟨rfl, hb1⟩; have H1 := hideC (HS.out.next hb1); have d1 := fun j => H1.out.bp.cell j; have e1 := fun j => H1.out.bb.cell j; have l1 := H1.out.bp.lt; simp only [ptV] at d1; clear hb1)
        | (go_at_call 21; refine (NM.out _).mono ?_; rintro e wx ⟨rfl, hwx⟩; subst wx)
        | (go_at_call 22; refine (RO.out _).mono ?_; rintro e w2 ⟨rfl, hb2⟩; clear d1 e1; have H2 := hideC (H1.out.next hb2); have H3 := hideC (H2.out.next ((Below.refl _ _).alloc (Nat.le_refl _) (.cells (ruV r).toArray 46))); have d2 := fun j => H2.out.bp.cell j; have e2 := fun j => H2.out.bb.cell j; have l2 := H2.out.bp.lt; have l3 := H2.out.bb.lt; simp only [ptV] at d2; clear hb2)
        | (at_builtin; refine wpList_app_nilS rfl _ _ rfl A C ss rfl rfl (hS.up H3.out.below) hA ?_; intro VA VC w4 ho4 hb4; have H4 := hideC (H3.out.next hb4); have S4 : Hid (StrsAt w4.heap.size w4 VA ss) := ⟨(own_ok ho4).1, hS.z, hS.each⟩; have d4 := fun j => H4.out.bp.cell j; have e4 := fun j => H4.out.bb.cell j; simp only [ptV] at d4; clear d2 e2)
        | (go_at_call 23; refine (PL.out _ _ _ S4.out).mono ?_; rintro e wy ⟨rfl, hwy⟩; subst wy)
        | (at_builtin; refine wpList_append_own _ rfl _ _ 22 rfl w.heap.size 9 i0 _ 1 16 Tryz.underlying22 hi0 hz0 hz1 hz2 rfl (by decide) (.slice VA ss.length VC) ss.length (strs ss) rfl ((own_low4 ho4 H3.out.below).alloc _) ⟨w4.heap.size, 0, none⟩ 1 1 [.string s] rfl rfl (newsStr w4 s) (by intro u hu; simp at hu; subst hu; rfl) (by unfold maxLen; omega) (by omega) (by have := H4.out.below.size; simp; omega) ?_; intro v5 w5 hown5 hgrow5 _; obtain ⟨VB, VD, hvv, -⟩ := own_row hown5; subst hvv; obtain ⟨hSB, hAr, hRb⟩ := ar_names H4.out (K4F.out _ _ hb4) ho4 H3.out.below hS hs hl (by simp) H3.out.bp.lt hown5 hgrow5; have HSB := hideC hSB; have HA := hideC hAr; have HRB := hideC hRb; have db := fun j => HA.out.bb.cell j; clear hSB hAr hRb; clear d4 e4))
      exact bodyPost_ret (v := noAdd 1) (by simp [noAdd, results, Tryz.results6, go_sem]) rfl (arOut_no HA.out.below (.inl (by omega)))
    · have hg : ¬ (16 : Int) ≤ (ss.length : Int) := by omega
      have h17 : ((ss.length + 1 : Nat) : Int) ≤ 16 := by omega
      cases wo with
      | none =>
        simp only [reduceCtorEq, false_and, exists_false, false_or, true_and] at WE
        go_wp2_with (first
          | (go_at_call 20; refine (MM.out _ HS.out.below).mono ?_; rintro e w1 ⟨rfl, hb1⟩; have H1 := hideC (HS.out.next hb1); have d1 := fun j => H1.out.bp.cell j; have e1 := fun j => H1.out.bb.cell j; have l1 := H1.out.bp.lt; simp only [ptV] at d1; clear hb1)
          | (go_at_call 21; refine (NM.out _).mono ?_; rintro e wx ⟨rfl, hwx⟩; subst wx)
          | (go_at_call 22; refine (RO.out _).mono ?_; rintro e w2 ⟨rfl, hb2⟩; clear d1 e1; have H2 := hideC (H1.out.next hb2); have H3 := hideC (H2.out.next ((Below.refl _ _).alloc (Nat.le_refl _) (.cells (ruV r).toArray 46))); have d2 := fun j => H2.out.bp.cell j; have e2 := fun j => H2.out.bb.cell j; have l2 := H2.out.bp.lt; have l3 := H2.out.bb.lt; simp only [ptV] at d2; clear hb2)
          | (at_builtin; refine wpList_app_nilS rfl _ _ rfl A C ss rfl rfl (hS.up H3.out.below) hA ?_; intro VA VC w4 ho4 hb4; have H4 := hideC (H3.out.next hb4); have S4 : Hid (StrsAt w4.heap.size w4 VA ss) := ⟨(own_ok ho4).1, hS.z, hS.each⟩; have d4 := fun j => H4.out.bp.cell j; have e4 := fun j => H4.out.bb.cell j; simp only [ptV] at d4; clear d2 e2)
          | (go_at_call 23; refine (PL.out _ _ _ S4.out).mono ?_; rintro e wy ⟨rfl, hwy⟩; subst wy)
          | (at_builtin; refine wpList_append_own _ rfl _ _ 22 rfl w.heap.size 9 i0 _ 1 16 Tryz.underlying22 hi0 hz0 hz1 hz2 rfl (by decide) (.slice VA ss.length VC) ss.length (strs ss) rfl ((own_low4 ho4 H3.out.below).alloc _) ⟨w4.heap.size, 0, none⟩ 1 1 [.string s] rfl rfl (newsStr w4 s) (by intro u hu; simp at hu; subst hu; rfl) (by unfold maxLen; omega) (by omega) (by have := H4.out.below.size; simp; omega) ?_; intro v5 w5 hown5 hgrow5 _; obtain ⟨VB, VD, hvv, -⟩ := own_row hown5; subst hvv; obtain ⟨hSB, hAr, hRb⟩ := ar_names H4.out (K4F.out _ _ hb4) ho4 H3.out.below hS hs hl (by simp) H3.out.bp.lt hown5 hgrow5; have HSB := hideC hSB; have HA := hideC hAr; have HRB := hideC hRb; have db := fun j => HA.out.bb.cell j; clear hSB hAr hRb; clear d4 e4)
          | (go_at_call 24; refine (BK.out _ HA.out.below).mono ?_; rintro e w6 ⟨⟨LA, LC, rfl, hLr⟩, hb6⟩; have H6 := hideC (HA.out.next hb6); have K6 := hideC (HRB.out.below hb6 HRB.out.lt); have S6 := hideC (HSB.out.up hb6); have HL6 := hideC hLr; have d6 := fun j => H6.out.bp.cell j; have k6 := fun j => K6.out.cell j; simp only [ptV] at d6; simp only [ruV] at k6; clear hb6 hLr db)
          | (go_at_call 25; refine (WE.out LA LC _ HL6.out).mono ?_; rintro e w7 ⟨hb7, rfl⟩))
        exact bodyPost_ret (v := noAdd 1) (by simp [noAdd, results, Tryz.results6, go_sem]) rfl (arOut_no (H6.out.next hb7).below (.inr (.inl rfl)))
      | some M =>
        simp only [Option.some.injEq, reduceCtorEq, false_and, or_false, exists_eq_left'] at WE
        have R1 := hideC (R1.out M rfl)
        have R2 := hideC (R2.out M rfl)
        replace h16 : (ss ++ [s]).length ≤ 16 := by omega
        go_wp2_with (first
          | (go_at_call 20; refine (MM.out _ HS.out.below).mono ?_; rintro e w1 ⟨rfl, hb1⟩; have H1 := hideC (HS.out.next hb1); have d1 := fun j => H1.out.bp.cell j; have e1 := fun j => H1.out.bb.cell j; have l1 := H1.out.bp.lt; simp only [ptV] at d1; clear hb1)
          | (go_at_call 21; refine (NM.out _).mono ?_; rintro e wx ⟨rfl, hwx⟩; subst wx)
          | (go_at_call 22; refine (RO.out _).mono ?_; rintro e w2 ⟨rfl, hb2⟩; clear d1 e1; have H2 := hideC (H1.out.next hb2); have H3 := hideC (H2.out.next ((Below.refl _ _).alloc (Nat.le_refl _) (.cells (ruV r).toArray 46))); have d2 := fun j => H2.out.bp.cell j; have e2 := fun j => H2.out.bb.cell j; have l2 := H2.out.bp.lt; have l3 := H2.out.bb.lt; simp only [ptV] at d2; clear hb2)
          | (at_builtin; refine wpList_app_nilS rfl _ _ rfl A C ss rfl rfl (hS.up H3.out.below) hA ?_; intro VA VC w4 ho4 hb4; have H4 := hideC (H3.out.next hb4); have S4 : Hid (StrsAt w4.heap.size w4 VA ss) := ⟨(own_ok ho4).1, hS.z, hS.each⟩; have d4 := fun j => H4.out.bp.cell j; have e4 := fun j => H4.out.bb.cell j; simp only [ptV] at d4; clear d2 e2)
          | (go_at_call 23; refine (PL.out _ _ _ S4.out).mono ?_; rintro e wy ⟨rfl, hwy⟩; subst wy)
          | (at_builtin; refine wpList_append_own _ rfl _ _ 22 rfl w.heap.size 9 i0 _ 1 16 Tryz.underlying22 hi0 hz0 hz1 hz2 rfl (by decide) (.slice VA ss.length VC) ss.length (strs ss) rfl ((own_low4 ho4 H3.out.below).alloc _) ⟨w4.heap.size, 0, none⟩ 1 1 [.string s] rfl rfl (newsStr w4 s) (by intro u hu; simp at hu; subst hu; rfl) (by unfold maxLen; omega) (by omega) (by have := H4.out.below.size; simp; omega) ?_; intro v5 w5 hown5 hgrow5 _; obtain ⟨VB, VD, hvv, -⟩ := own_row hown5; subst hvv; obtain ⟨hSB, hAr, hRb⟩ := ar_names H4.out (K4F.out _ _ hb4) ho4 H3.out.below hS hs hl (by simp) H3.out.bp.lt hown5 hgrow5; have HSB := hideC hSB; have HA := hideC hAr; have HRB := hideC hRb; have db := fun j => HA.out.bb.cell j; clear hSB hAr hRb; clear d4 e4)
          | (go_at_call 24; refine (BK.out _ HA.out.below).mono ?_; rintro e w6 ⟨⟨LA, LC, rfl, hLr⟩, hb6⟩; have H6 := hideC (HA.out.next hb6); have K6 := hideC (HRB.out.below hb6 HRB.out.lt); have S6 := hideC (HSB.out.up hb6); have HL6 := hideC hLr; have d6 := fun j => H6.out.bp.cell j; have k6 := fun j => K6.out.cell j; simp only [ptV] at d6; simp only [ruV] at k6; clear hb6 hLr db)
          | (go_at_call 25; refine (WE.out LA LC _ HL6.out).mono ?_; rintro e w7 ⟨hb7, MA, MC, rfl, hMr⟩))
        have HB7 := hideC (H6.out.next hb7).below
        have S7 := hideC (S6.out.up hb7)
        have HM7 := hideC hMr
        clear hMr hb7 HL6 d6 k6 H6 K6 S6 HA HSB HRB BK WE
        go_loopw [13] (fun vi wr => ∃ k : Nat, vi = .int .i64 k ∧ (k = 1 ∨ (k = 2 ∧ o1 = true) ∨ (k = 3 ∧ o1 = true ∧ o2 = true)) ∧ Below w7.heap.size w7 wr) (fun vi _ => 3 - (intOf vi).toNat)
        case atStart => exact ⟨1, rfl, .inl rfl, Below.refl _ _⟩
        case round =>
          obtain ⟨k, rfl, hkk, hbr⟩ := hrel
          have HMr := hideC (HM7.out.up hbr)
          have hwr := hideC (nextB HB7.out (Nat.le_refl _) hbr)
          rcases hkk with rfl | ⟨rfl, ho1⟩ | ⟨rfl, ho1, ho2⟩
          · have SO : ∀ W, Calls Tryz.prog 27 #[.int .i64 1] W fun e w' => e = .returned (.int .i64 60) ∧ Below W.heap.size W w' := fun W => by simpa using sizeR_any 1 (by decide) W
            have SOh := hideC SO
            clear SO
            cases o1 with
            | true =>
              go_wp2_with (first
                | (go_at_call 27; refine (SOh.out _).mono ?_; rintro e w8 ⟨rfl, hb8⟩; have HM8 := hideC (HMr.out.up hb8))
                | (go_at_call 26; refine (R1.out MA MC _ HM8.out).mono ?_; rintro e w9 ⟨⟨x, rfl⟩, hb9⟩))
              go_roundw
              case rel =>
                go_light
                exact ⟨2, by go_num, .inr (.inl ⟨rfl, by trivial⟩), nextB hbr (Nat.le_refl _) (nextB hb8 (Nat.le_refl _) hb9)⟩
              case measure => simp [intOf]
            | false =>
              go_wp2_with (first
                | (go_at_call 27; refine (SOh.out _).mono ?_; rintro e w8 ⟨rfl, hb8⟩; have HM8 := hideC (HMr.out.up hb8))
                | (go_at_call 26; refine (R1.out MA MC _ HM8.out).mono ?_; rintro e w9 ⟨⟨x, rfl⟩, hb9⟩))
              exact bodyPost_ret (v := noAdd 1) (by simp [noAdd, results, Tryz.results6, go_sem]) rfl (arOut_no (nextB hwr.out (Nat.le_refl _) (nextB hb8 (Nat.le_refl _) hb9)) (.inr (.inr (.inl rfl))))
          · have SO : ∀ W, Calls Tryz.prog 27 #[.int .i64 2] W fun e w' => e = .returned (.int .i64 3600) ∧ Below W.heap.size W w' := fun W => by simpa using sizeR_any 2 (by decide) W
            have SOh := hideC SO
            clear SO
            cases o2 with
            | true =>
              go_wp2_with (first
                | (go_at_call 27; refine (SOh.out _).mono ?_; rintro e w8 ⟨rfl, hb8⟩; have HM8 := hideC (HMr.out.up hb8))
                | (go_at_call 26; refine (R2.out MA MC _ HM8.out).mono ?_; rintro e w9 ⟨⟨x, rfl⟩, hb9⟩))
              go_roundw
              case rel =>
                go_light
                exact ⟨3, by go_num, .inr (.inr ⟨rfl, by first | exact ho1 | trivial, by trivial⟩), nextB hbr (Nat.le_refl _) (nextB hb8 (Nat.le_refl _) hb9)⟩
              case measure => simp [intOf]
            | false =>
              go_wp2_with (first
                | (go_at_call 27; refine (SOh.out _).mono ?_; rintro e w8 ⟨rfl, hb8⟩; have HM8 := hideC (HMr.out.up hb8))
                | (go_at_call 26; refine (R2.out MA MC _ HM8.out).mono ?_; rintro e w9 ⟨⟨x, rfl⟩, hb9⟩))
              exact bodyPost_ret (v := noAdd 1) (by simp [noAdd, results, Tryz.results6, go_sem]) rfl (arOut_no (nextB hwr.out (Nat.le_refl _) (nextB hb8 (Nat.le_refl _) hb9)) (.inr (.inr (.inr rfl))))
          · subst ho1 ho2
            go_wp2_with fail
            exact bodyPost_ret (v := .tuple #[.slice VB (ss ++ [s]).length VD, .slice MA M.length MC, .int .i64 0]) (by simp [results, Tryz.results6, go_sem]) rfl (arOut_yes hwr.out h16 (S7.out.up hbr) HMr.out)
  · simp only [hp, if_false] at hns hq
    subst ns
    subst q
    cases wo with
    | none =>
      simp only [reduceCtorEq, false_and, exists_false, false_or, true_and] at WE
      go_wp2_with (first
        | (go_at_call 20; refine (MM.out _ HS.out.below).mono ?_; rintro e w1 ⟨rfl, hb1⟩; have H1 := hideC (HS.out.next hb1); have d1 := fun j => H1.out.bp.cell j; have e1 := fun j => H1.out.bb.cell j; have l1 := H1.out.bp.lt; simp only [ptV] at d1; clear hb1)
        | (go_at_call 21; refine (NM.out _).mono ?_; rintro e wx ⟨rfl, hwx⟩; subst wx)
        | (go_at_call 22; refine (RO.out _).mono ?_; rintro e w2 ⟨rfl, hb2⟩; clear d1 e1; have H2 := hideC (H1.out.next hb2); have H3 := hideC (H2.out.next ((Below.refl _ _).alloc (Nat.le_refl _) (.cells (ruV r).toArray 46))); have d2 := fun j => H2.out.bp.cell j; have e2 := fun j => H2.out.bb.cell j; have l2 := H2.out.bp.lt; have l3 := H2.out.bb.lt; simp only [ptV] at d2; clear hb2)
        | (at_builtin; refine wpList_app_nilS rfl _ _ rfl A C ss rfl rfl (hS.up H3.out.below) hA ?_; intro VA VC w4 ho4 hb4; have H4 := hideC (H3.out.next hb4); have S4 : Hid (StrsAt w4.heap.size w4 VA ss) := ⟨(own_ok ho4).1, hS.z, hS.each⟩; have d4 := fun j => H4.out.bp.cell j; have e4 := fun j => H4.out.bb.cell j; simp only [ptV] at d4; clear d2 e2)
        | (go_at_call 23; refine (PL.out _ _ _ S4.out).mono ?_; rintro e wy ⟨rfl, hwy⟩; subst wy; have hSB := S4.out; have hAr := H4.out; have hRb := K4F.out _ _ hb4; have HSB := hideC hSB; have HA := hideC hAr; have HRB := hideC hRb; have db := fun j => HA.out.bb.cell j; clear hSB hAr hRb; clear d4 e4)
        | (go_at_call 24; refine (BK.out _ HA.out.below).mono ?_; rintro e w6 ⟨⟨LA, LC, rfl, hLr⟩, hb6⟩; have H6 := hideC (HA.out.next hb6); have K6 := hideC (HRB.out.below hb6 HRB.out.lt); have S6 := hideC (HSB.out.up hb6); have HL6 := hideC hLr; have d6 := fun j => H6.out.bp.cell j; have k6 := fun j => K6.out.cell j; simp only [ptV] at d6; simp only [ruV] at k6; clear hb6 hLr db)
        | (go_at_call 25; refine (WE.out LA LC _ HL6.out).mono ?_; rintro e w7 ⟨hb7, rfl⟩))
      exact bodyPost_ret (v := noAdd 1) (by simp [noAdd, results, Tryz.results6, go_sem]) rfl (arOut_no (H6.out.next hb7).below (.inr (.inl rfl)))
    | some M =>
      simp only [Option.some.injEq, reduceCtorEq, false_and, or_false, exists_eq_left'] at WE
      have R1 := hideC (R1.out M rfl)
      have R2 := hideC (R2.out M rfl)
      have h16 := hl
      go_wp2_with (first
        | (go_at_call 20; refine (MM.out _ HS.out.below).mono ?_; rintro e w1 ⟨rfl, hb1⟩; have H1 := hideC (HS.out.next hb1); have d1 := fun j => H1.out.bp.cell j; have e1 := fun j => H1.out.bb.cell j; have l1 := H1.out.bp.lt; simp only [ptV] at d1; clear hb1)
        | (go_at_call 21; refine (NM.out _).mono ?_; rintro e wx ⟨rfl, hwx⟩; subst wx)
        | (go_at_call 22; refine (RO.out _).mono ?_; rintro e w2 ⟨rfl, hb2⟩; clear d1 e1; have H2 := hideC (H1.out.next hb2); have H3 := hideC (H2.out.next ((Below.refl _ _).alloc (Nat.le_refl _) (.cells (ruV r).toArray 46))); have d2 := fun j => H2.out.bp.cell j; have e2 := fun j => H2.out.bb.cell j; have l2 := H2.out.bp.lt; have l3 := H2.out.bb.lt; simp only [ptV] at d2; clear hb2)
        | (at_builtin; refine wpList_app_nilS rfl _ _ rfl A C ss rfl rfl (hS.up H3.out.below) hA ?_; intro VA VC w4 ho4 hb4; have H4 := hideC (H3.out.next hb4); have S4 : Hid (StrsAt w4.heap.size w4 VA ss) := ⟨(own_ok ho4).1, hS.z, hS.each⟩; have d4 := fun j => H4.out.bp.cell j; have e4 := fun j => H4.out.bb.cell j; simp only [ptV] at d4; clear d2 e2)
        | (go_at_call 23; refine (PL.out _ _ _ S4.out).mono ?_; rintro e wy ⟨rfl, hwy⟩; subst wy; have hSB := S4.out; have hAr := H4.out; have hRb := K4F.out _ _ hb4; have HSB := hideC hSB; have HA := hideC hAr; have HRB := hideC hRb; have db := fun j => HA.out.bb.cell j; clear hSB hAr hRb; clear d4 e4)
        | (go_at_call 24; refine (BK.out _ HA.out.below).mono ?_; rintro e w6 ⟨⟨LA, LC, rfl, hLr⟩, hb6⟩; have H6 := hideC (HA.out.next hb6); have K6 := hideC (HRB.out.below hb6 HRB.out.lt); have S6 := hideC (HSB.out.up hb6); have HL6 := hideC hLr; have d6 := fun j => H6.out.bp.cell j; have k6 := fun j => K6.out.cell j; simp only [ptV] at d6; simp only [ruV] at k6; clear hb6 hLr db)
        | (go_at_call 25; refine (WE.out LA LC _ HL6.out).mono ?_; rintro e w7 ⟨hb7, MA, MC, rfl, hMr⟩))
      have HB7 := hideC (H6.out.next hb7).below
      have S7 := hideC (S6.out.up hb7)
      have HM7 := hideC hMr
      clear hMr hb7 HL6 d6 k6 H6 K6 S6 HA HSB HRB BK WE
      go_loopw [13] (fun vi wr => ∃ k : Nat, vi = .int .i64 k ∧ (k = 1 ∨ (k = 2 ∧ o1 = true) ∨ (k = 3 ∧ o1 = true ∧ o2 = true)) ∧ Below w7.heap.size w7 wr) (fun vi _ => 3 - (intOf vi).toNat)
      case atStart => exact ⟨1, rfl, .inl rfl, Below.refl _ _⟩
      case round =>
        obtain ⟨k, rfl, hkk, hbr⟩ := hrel
        have HMr := hideC (HM7.out.up hbr)
        have hwr := hideC (nextB HB7.out (Nat.le_refl _) hbr)
        rcases hkk with rfl | ⟨rfl, ho1⟩ | ⟨rfl, ho1, ho2⟩
        · have SO : ∀ W, Calls Tryz.prog 27 #[.int .i64 1] W fun e w' => e = .returned (.int .i64 60) ∧ Below W.heap.size W w' := fun W => by simpa using sizeR_any 1 (by decide) W
          have SOh := hideC SO
          clear SO
          cases o1 with
          | true =>
            go_wp2_with (first
              | (go_at_call 27; refine (SOh.out _).mono ?_; rintro e w8 ⟨rfl, hb8⟩; have HM8 := hideC (HMr.out.up hb8))
              | (go_at_call 26; refine (R1.out MA MC _ HM8.out).mono ?_; rintro e w9 ⟨⟨x, rfl⟩, hb9⟩))
            go_roundw
            case rel =>
              go_light
              exact ⟨2, by go_num, .inr (.inl ⟨rfl, by trivial⟩), nextB hbr (Nat.le_refl _) (nextB hb8 (Nat.le_refl _) hb9)⟩
            case measure => simp [intOf]
          | false =>
            go_wp2_with (first
              | (go_at_call 27; refine (SOh.out _).mono ?_; rintro e w8 ⟨rfl, hb8⟩; have HM8 := hideC (HMr.out.up hb8))
              | (go_at_call 26; refine (R1.out MA MC _ HM8.out).mono ?_; rintro e w9 ⟨⟨x, rfl⟩, hb9⟩))
            exact bodyPost_ret (v := noAdd 1) (by simp [noAdd, results, Tryz.results6, go_sem]) rfl (arOut_no (nextB hwr.out (Nat.le_refl _) (nextB hb8 (Nat.le_refl _) hb9)) (.inr (.inr (.inl rfl))))
        · have SO : ∀ W, Calls Tryz.prog 27 #[.int .i64 2] W fun e w' => e = .returned (.int .i64 3600) ∧ Below W.heap.size W w' := fun W => by simpa using sizeR_any 2 (by decide) W
          have SOh := hideC SO
          clear SO
          cases o2 with
          | true =>
            go_wp2_with (first
              | (go_at_call 27; refine (SOh.out _).mono ?_; rintro e w8 ⟨rfl, hb8⟩; have HM8 := hideC (HMr.out.up hb8))
              | (go_at_call 26; refine (R2.out MA MC _ HM8.out).mono ?_; rintro e w9 ⟨⟨x, rfl⟩, hb9⟩))
            go_roundw
            case rel =>
              go_light
              exact ⟨3, by go_num, .inr (.inr ⟨rfl, by first | exact ho1 | trivial, by trivial⟩), nextB hbr (Nat.le_refl _) (nextB hb8 (Nat.le_refl _) hb9)⟩
            case measure => simp [intOf]
          | false =>
            go_wp2_with (first
              | (go_at_call 27; refine (SOh.out _).mono ?_; rintro e w8 ⟨rfl, hb8⟩; have HM8 := hideC (HMr.out.up hb8))
              | (go_at_call 26; refine (R2.out MA MC _ HM8.out).mono ?_; rintro e w9 ⟨⟨x, rfl⟩, hb9⟩))
            exact bodyPost_ret (v := noAdd 1) (by simp [noAdd, results, Tryz.results6, go_sem]) rfl (arOut_no (nextB hwr.out (Nat.le_refl _) (nextB hb8 (Nat.le_refl _) hb9)) (.inr (.inr (.inr rfl))))
        · subst ho1 ho2
          go_wp2_with fail
          exact bodyPost_ret (v := .tuple #[.slice VA ss.length VC, .slice MA M.length MC, .int .i64 0]) (by simp [results, Tryz.results6, go_sem]) rfl (arOut_yes hwr.out h16 (S7.out.up hbr) HMr.out)

end Go.Proofs.YtlojfgdpmaigmadGreatDoor

/- The document's GotOf: what a tree knows of a key. -/
import Derived.Test.YtndojgeodmddoabAllWalk
namespace Go.Proofs.Ytndojgeodmddoab
open Go.RowKit Plain

/-- What is known of a key, out of all that the nodes hold. -/
def gotA (ns : List Nd) (key : Int) : Ru × Int :=
  match allR key (key + 1) (ns.flatMap Nd.lst) with
  | none => (zro, 1)
  | some [] => (zro, 0)
  | some (y :: _) => (y.ru, 0)
def gotP (ns : List Nd) (root key : Int) : Ru × Int :=
  if treeC ns root ≠ 0 then (zro, treeC ns root) else if inB key 0 1099511627775 = true then gotA ns key else (zro, 2)

theorem two_cells {w w1 : World} {a : Obj} {c : Array Value} {t : TypeId} (hb : Below ((w.alloc a).alloc (.cells c t)).heap.size ((w.alloc a).alloc (.cells c t)) w1) :
    (∀ j, w1.cell? ⟨w.heap.size + 1, j, none⟩ = c[j]?) ∧ (∀ j, w1.frozen? ⟨w.heap.size + 1, j, none⟩ = false) ∧ w.heap.size + 1 < w1.heap.size :=
  ⟨fun j => (hb.cell (p := ⟨w.heap.size + 1, j, none⟩) (by simp)).trans (by simp), fun j => (hb.frozen (p := ⟨w.heap.size + 1, j, none⟩) (by simp)).trans (by simp), (sz2 hb).2⟩

set_option maxRecDepth 20000 in
set_option maxHeartbeats 4000000 in
theorem gotOf_bad (A : Option Addr) (C : Nat) (r key : Int) (ps : List PN) (w : World) (hN : NodesAt w.heap.size w A ps) (hc : treeC (ps.map PN.nd) r ≠ 0) :
    Calls Try.prog 17 #[.agg #[.slice A ps.length C, .int .i64 r], .int .i64 key] w
      fun e w' => e = .returned (.tuple #[.agg #[.int .i64 0, .int .i64 0, .int .i64 0, .int .i64 0, .int .i64 0, .int .i64 0], .int .i64 (treeC (ps.map PN.nd) r)]) ∧ Below w.heap.size w w' := by
  have b2 : ∀ o1 o2 : Obj, Below w.heap.size w ((w.alloc o1).alloc o2) := fun o1 o2 => two o1 o2
  obtain ⟨c, hcc⟩ : ∃ c, c = treeC (ps.map PN.nd) r := ⟨_, rfl⟩
  have con : ∀ w', NodesAt w'.heap.size w' A ps → Calls Try.prog 10 #[.agg #[.slice A ps.length C, .int .i64 r]] w' fun e w'' => e = .returned (.int .i64 c) ∧ Below w'.heap.size w' w'' := by
    intro w' h
    rw [hcc]
    exact treeFault_any A C r ps w' h
  rw [← hcc] at hc ⊢
  clear hcc
  have hc' : (c != 0) = true := by simpa using hc
  have hc'' : (c == 0) = false := by simpa using hc
  go_enter Try.func17, Try.ntmps17
  go_wp2_with (first | (go_at_call 10; refine (con _ ?_).mono ?_; exact hN.up (b2 _ _); rintro e w1 ⟨rfl, hb1⟩; obtain ⟨t1, f1, z1⟩ := two_cells hb1))
  exact bodyPost_ret (v := .tuple #[.agg #[.int .i64 0, .int .i64 0, .int .i64 0, .int .i64 0, .int .i64 0, .int .i64 0], .int .i64 c]) (by simp [results, Try.results17, go_sem, t1]) rfl ⟨rfl, set6 (nextB (b2 _ _) (Nat.le_refl _) hb1) (by omega) _ _ _ _ _ _⟩

theorem allOf_any (A : Option Addr) (C : Nat) (r low high : Int) (ps : List PN) (w : World) (hN : NodesAt w.heap.size w A ps) (hc : treeC (ps.map PN.nd) r = 0) :
    Calls Try.prog 14 #[.agg #[.slice A ps.length C, .int .i64 r], .int .i64 low, .int .i64 high] w
      fun e w' => Below w.heap.size w w' ∧ match allR low high ((ps.map PN.nd).flatMap Nd.lst) with
        | some ys => ∃ v, e = .returned (.tuple #[v, .int .i64 0]) ∧ w'.ownsRow w.heap.size 45 7 v ys.length (flatE ys)
        | none => e = .returned (.tuple #[.slice none 0 0, .int .i64 1]) :=
  allOf_ok A C r low high ps w hN hc _ (fun e w' h1 h2 h3 => by
    refine ⟨h1, ?_⟩
    cases hi : allR low high ((ps.map PN.nd).flatMap Nd.lst) with
    | none => exact h3 hi
    | some ys => exact h2 ys hi)

set_option maxRecDepth 20000 in
set_option maxHeartbeats 4000000 in
theorem gotOf_range (A : Option Addr) (C : Nat) (r key : Int) (ps : List PN) (w : World) (hN : NodesAt w.heap.size w A ps) (hc : treeC (ps.map PN.nd) r = 0) (hk : inB key 0 1099511627775 = false) :
    Calls Try.prog 17 #[.agg #[.slice A ps.length C, .int .i64 r], .int .i64 key] w
      fun e w' => e = .returned (.tuple #[.agg #[.int .i64 0, .int .i64 0, .int .i64 0, .int .i64 0, .int .i64 0, .int .i64 0], .int .i64 2]) ∧ Below w.heap.size w w' := by
  have b2 : ∀ o1 o2 : Obj, Below w.heap.size w ((w.alloc o1).alloc o2) := fun o1 o2 => two o1 o2
  have con : ∀ w', NodesAt w'.heap.size w' A ps → Calls Try.prog 10 #[.agg #[.slice A ps.length C, .int .i64 r]] w' fun e w'' => e = .returned (.int .i64 0) ∧ Below w'.heap.size w' w'' := by
    intro w' h
    rw [← hc]
    exact treeFault_any A C r ps w' h
  clear hc
  go_enter Try.func17, Try.ntmps17
  go_wp2_with (first | (go_at_call 10; refine (con _ ?_).mono ?_; exact hN.up (b2 _ _); rintro e w1 ⟨rfl, hb1⟩; obtain ⟨t1, f1, z1⟩ := two_cells hb1) | (go_at_call 36; refine (in_any _ _ _ _).mono ?_; rintro e w2 ⟨rfl, hw2⟩; subst w2))
  exact bodyPost_ret (v := .tuple #[.agg #[.int .i64 0, .int .i64 0, .int .i64 0, .int .i64 0, .int .i64 0, .int .i64 0], .int .i64 2]) (by simp [results, Try.results17, go_sem, t1]) rfl ⟨rfl, set6 (nextB (b2 _ _) (Nat.le_refl _) hb1) (by omega) _ _ _ _ _ _⟩

theorem rest_below {w w1 w2 : World} {a b : Obj} (hb1 : Below ((w.alloc a).alloc b).heap.size ((w.alloc a).alloc b) w1) (hb2 : Below w1.heap.size w1 w2) : Below w.heap.size w w2 := nextB (nextB (two a b) (Nat.le_refl _) hb1) (Nat.le_refl _) hb2

set_option maxRecDepth 20000 in
set_option maxHeartbeats 4000000 in
theorem gotOf_ok (A : Option Addr) (C : Nat) (r key : Int) (ps : List PN) (w : World) (hN : NodesAt w.heap.size w A ps) (hc : treeC (ps.map PN.nd) r = 0) (hk : inB key 0 1099511627775 = true) :
    Calls Try.prog 17 #[.agg #[.slice A ps.length C, .int .i64 r], .int .i64 key] w
      fun e w' => e = .returned (.tuple #[.agg #[.int .i64 (gotA (ps.map PN.nd) key).1.c, .int .i64 (gotA (ps.map PN.nd) key).1.s, .int .i64 (gotA (ps.map PN.nd) key).1.lo, .int .i64 (gotA (ps.map PN.nd) key).1.hi, .int .i64 (gotA (ps.map PN.nd) key).1.t, .int .i64 (gotA (ps.map PN.nd) key).1.l], .int .i64 (gotA (ps.map PN.nd) key).2]) ∧ Below w.heap.size w w' := by
  have b2 : ∀ o1 o2 : Obj, Below w.heap.size w ((w.alloc o1).alloc o2) := fun o1 o2 => two o1 o2
  have con : ∀ w', NodesAt w'.heap.size w' A ps → Calls Try.prog 10 #[.agg #[.slice A ps.length C, .int .i64 r]] w' fun e w'' => e = .returned (.int .i64 0) ∧ Below w'.heap.size w' w'' := by
    intro w' h
    rw [← hc]
    exact treeFault_any A C r ps w' h
  have hkk : 0 ≤ key ∧ key ≤ 1099511627775 := (inB_iff _ _ _).1 hk
  have all := fun w' (h : NodesAt w'.heap.size w' A ps) => allOf_any A C r key (key + 1) ps w' h hc
  clear hc
  have bxx : ∀ {w1 : World} {b : Obj} (_ : Below ((w.alloc (.cells #[.slice A ps.length C, .int .i64 r] 24)).alloc b).heap.size ((w.alloc (.cells #[.slice A ps.length C, .int .i64 r] 24)).alloc b) w1), w1.cell? ⟨w.heap.size, 0, none⟩ = some (.slice A ps.length C) ∧ w1.cell? ⟨w.heap.size, 1, none⟩ = some (.int .i64 r) := fun hb => ⟨(hb.cell (p := ⟨w.heap.size, 0, none⟩) (by simp; omega)).trans (by simp), (hb.cell (p := ⟨w.heap.size, 1, none⟩) (by simp; omega)).trans (by simp)⟩
  cases hA : allR key (key + 1) ((ps.map PN.nd).flatMap Nd.lst) with
  | none =>
    have E0 : gotA (ps.map PN.nd) key = (zro, 1) := by unfold gotA; rw [hA]
    rw [E0]
    simp only [hA] at all
    clear hA E0
    go_enter Try.func17, Try.ntmps17
    go_wp2_with (first | (go_at_call 10; refine (con _ ?_).mono ?_; exact hN.up (b2 _ _); rintro e w1 ⟨rfl, hb1⟩; obtain ⟨t1, f1, z1⟩ := two_cells hb1; obtain ⟨x0, x1⟩ := bxx hb1) | (go_at_call 36; refine (in_any _ _ _ _).mono ?_; rintro e w2 ⟨rfl, hw2⟩; subst w2) | (go_at_call 14; refine (all _ ?_).mono ?_; exact hN.up (nextB (b2 _ _) (Nat.le_refl _) hb1); rintro e w3 ⟨hb3, rfl⟩; obtain ⟨t3, f3⟩ := bcells hb3; have u3 := fun j => (t3 _ j z1).trans (t1 j)))
    exact bodyPost_ret (v := .tuple #[.agg #[.int .i64 0, .int .i64 0, .int .i64 0, .int .i64 0, .int .i64 0, .int .i64 0], .int .i64 1]) (by simp [results, Try.results17, go_sem, u3]) rfl ⟨rfl, set6 (rest_below hb1 hb3) (by omega) _ _ _ _ _ _⟩
  | some ys =>
    simp only [hA] at all
    cases ys with
    | nil =>
      have E0 : gotA (ps.map PN.nd) key = (zro, 0) := by unfold gotA; rw [hA]
      rw [E0]
      clear hA E0
      go_enter Try.func17, Try.ntmps17
      go_wp2_with (first | (go_at_call 10; refine (con _ ?_).mono ?_; exact hN.up (b2 _ _); rintro e w1 ⟨rfl, hb1⟩; obtain ⟨t1, f1, z1⟩ := two_cells hb1; obtain ⟨x0, x1⟩ := bxx hb1) | (go_at_call 36; refine (in_any _ _ _ _).mono ?_; rintro e w2 ⟨rfl, hw2⟩; subst w2) | (go_at_call 14; refine (all _ ?_).mono ?_; exact hN.up (nextB (b2 _ _) (Nat.le_refl _) hb1); rintro e w3 ⟨hb3, v3, rfl, o3⟩; obtain ⟨t3, f3⟩ := bcells hb3; have u3 := fun j => (t3 _ j z1).trans (t1 j); obtain ⟨A3, C3, rfl, -, -, -, R3⟩ := own_row o3))
      exact bodyPost_ret (v := .tuple #[.agg #[.int .i64 0, .int .i64 0, .int .i64 0, .int .i64 0, .int .i64 0, .int .i64 0], .int .i64 0]) (by simp [results, Try.results17, go_sem, u3]) rfl ⟨rfl, set6 (rest_below hb1 hb3) (by omega) _ _ _ _ _ _⟩
    | cons y l =>
      have E0 : gotA (ps.map PN.nd) key = (y.ru, 0) := by unfold gotA; rw [hA]
      rw [E0]
      clear hA E0
      go_enter Try.func17, Try.ntmps17
      go_wp2_with (first | (go_at_call 10; refine (con _ ?_).mono ?_; exact hN.up (b2 _ _); rintro e w1 ⟨rfl, hb1⟩; obtain ⟨t1, f1, z1⟩ := two_cells hb1; obtain ⟨x0, x1⟩ := bxx hb1) | (go_at_call 36; refine (in_any _ _ _ _).mono ?_; rintro e w2 ⟨rfl, hw2⟩; subst w2) | (go_at_call 14; refine (all _ ?_).mono ?_; exact hN.up (nextB (b2 _ _) (Nat.le_refl _) hb1); rintro e w3 ⟨hb3, v3, rfl, o3⟩; obtain ⟨t3, f3⟩ := bcells hb3; have u3 := fun j => (t3 _ j z1).trans (t1 j); obtain ⟨A3, C3, rfl, -, -, -, R3⟩ := own_row o3; obtain ⟨bb, oo, rfl, lt3, e3⟩ := R3.en (k := 0) (by simp); obtain ⟨k0, k1, k2, k3, k4, k5, k6⟩ := e3; simp only [Nat.zero_mul, Nat.add_zero, List.getElem_cons_zero] at k0 k1 k2 k3 k4 k5 k6))
      exact bodyPost_ret (v := .tuple #[.agg #[.int .i64 y.c, .int .i64 y.s, .int .i64 y.lo, .int .i64 y.hi, .int .i64 y.t, .int .i64 y.l], .int .i64 0]) (by simp [results, Try.results17, go_sem, u3]) rfl ⟨rfl, set6 (rest_below hb1 hb3) (by omega) _ _ _ _ _ _⟩

end Go.Proofs.Ytndojgeodmddoab

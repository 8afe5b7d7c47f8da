/- tree.knownAt and tree.Get. -/
import Derived.Test.YtlojfgdpmaigmacGreatDoorP21
import Derived.Test.YtlojfgdpmaigmacGreatDoorP17
namespace Go.Proofs.YtlojfgdpmaigmacGreatDoor
open Go.RowKit Plain

theorem four_rows (w : World) (o : Obj) (l1 l2 l3 : List Value) (t1 t2 t3 : TypeId) {W : World} (hW : W = (((w.alloc o).alloc (.cells l1.toArray t1)).alloc (.cells l2.toArray t2)).alloc (.cells l3.toArray t3)) :
    RowL W (w.heap.size + 1) t1 l1 ∧ RowL W (w.heap.size + 1 + 1) t2 l2 ∧ RowL W (w.heap.size + 1 + 1 + 1) t3 l3 ∧ Below w.heap.size w W ∧ W.heap.size = w.heap.size + 4 := by
  subst hW
  have s0 : (w.alloc o).heap.size = w.heap.size + 1 := by simp
  have s1 : ((w.alloc o).alloc (.cells l1.toArray t1)).heap.size = w.heap.size + 1 + 1 := by simp
  have s2 : (((w.alloc o).alloc (.cells l1.toArray t1)).alloc (.cells l2.toArray t2)).heap.size = w.heap.size + 1 + 1 + 1 := by simp
  have s3 : ((((w.alloc o).alloc (.cells l1.toArray t1)).alloc (.cells l2.toArray t2)).alloc (.cells l3.toArray t3)).heap.size = w.heap.size + 4 := by simp
  have r1 : RowL ((w.alloc o).alloc (.cells l1.toArray t1)) (w.heap.size + 1) t1 l1 := by have := rowL_alloc (w.alloc o) l1 t1; rwa [s0] at this
  have r2 : RowL (((w.alloc o).alloc (.cells l1.toArray t1)).alloc (.cells l2.toArray t2)) (w.heap.size + 1 + 1) t2 l2 := by have := rowL_alloc ((w.alloc o).alloc (.cells l1.toArray t1)) l2 t2; rwa [s1] at this
  have r3 : RowL ((((w.alloc o).alloc (.cells l1.toArray t1)).alloc (.cells l2.toArray t2)).alloc (.cells l3.toArray t3)) (w.heap.size + 1 + 1 + 1) t3 l3 := by have := rowL_alloc (((w.alloc o).alloc (.cells l1.toArray t1)).alloc (.cells l2.toArray t2)) l3 t3; rwa [s2] at this
  refine ⟨(r1.of_block (Below.heap_alloc _ _ _ (by omega))).of_block (Below.heap_alloc _ _ _ (by omega)), r2.of_block (Below.heap_alloc _ _ _ (by omega)), r3, ?_, s3⟩
  exact ((((Below.refl _ _).alloc (Nat.le_refl _) _).alloc (by omega) _).alloc (by omega) _).alloc (by omega) _

set_option maxRecDepth 20000 in
set_option maxHeartbeats 4000000 in
theorem knownAt_any (A : Option Addr) (C : Nat) (r place key : Int) (ps : List PN) (w : World) (hN : NodesAt w.heap.size w A ps) (hr : Reach (ps.map PN.nd) 12 place) (hk : 0 ≤ key ∧ key ≤ 1099511627775) (s : Ru × Int) (hs : Hid ((Wl (ps.map PN.nd) key (key + 1) 12 place).foldl stepK (zro, 0) = s)) :
    Calls Tryz.prog 30 #[.agg #[.slice A ps.length C, .int .i64 r], .int .i64 place, .int .i64 key] w
      fun e w' => e = .returned (.tuple #[.agg #[.int .i64 s.1.c, .int .i64 s.1.s, .int .i64 s.1.lo, .int .i64 s.1.hi, .int .i64 s.1.t, .int .i64 s.1.l], .int .i64 s.2]) ∧ Below w.heap.size w w' := by
  obtain ⟨W4, hW4⟩ : ∃ W4, W4 = (((w.alloc (.cells #[.slice A ps.length C, .int .i64 r] 26)).alloc (.cells #[.int .i64 0, .int .i64 0, .int .i64 0, .int .i64 0, .int .i64 0, .int .i64 0] 38)).alloc (.cells #[.int .i64 0, .int .i64 0, .int .i64 0, .int .i64 0, .int .i64 0, .int .i64 0] 38)).alloc (.cells #[.int .i64 0] 34) := ⟨_, rfl⟩
  obtain ⟨r1, r2, r3, hb4, hz4⟩ := four_rows w _ (ruV zro) (ruV zro) [.int .i64 0] _ _ _ hW4
  have con : Calls Tryz.prog 26 #[.agg #[.slice A ps.length C, .int .i64 r], .int .i64 place, .int .i64 key, .int .i64 (key + 1), .func (Fn.func 64) #[] #[.pointer (some ⟨w.heap.size + 1 + 1 + 1, 0, none⟩), .pointer (some ⟨w.heap.size + 1 + 1, 0, none⟩)]] W4
      fun e w' => e = .returned (.tuple #[]) ∧ RowL w' (w.heap.size + 1) 38 (ruV zro) ∧ RowL w' (w.heap.size + 1 + 1) 38 (ruV s.1) ∧ RowL w' (w.heap.size + 1 + 1 + 1) 34 [.int .i64 s.2] ∧ Below w.heap.size w w' := by
    have V := visK (w.heap.size + 1 + 1) (w.heap.size + 1 + 1 + 1)
    have far : ∀ k, XK (w.heap.size + 1 + 1) (w.heap.size + 1 + 1 + 1) W4 k → w.heap.size ≤ k := fun k hk => by rcases hk with rfl | rfl <;> omega
    refine (walk_any (w.heap.size + 1 + 1) (w.heap.size + 1 + 1 + 1) V A C r ps w.heap.size key (key + 1) 12 place (zro, 0) W4 hr (hN.below hb4 (Nat.le_refl _)) ⟨by omega, r2, r3⟩ (by omega) far).mono ?_
    rintro e w' ⟨rfl, hK, hT⟩
    rw [hs.out] at hK
    exact ⟨rfl, hT.row r1 (by rintro (h | h) <;> omega), hK.rk, hK.rc, hb4.trans (hT.below (by omega) far)⟩
  subst hW4
  clear r1 r2 r3 hb4 hz4 hs hr
  go_enter Tryz.func30, Tryz.ntmps30
  go_wp2_with (go_at_call 26; refine con.mono ?_; rintro e w1 ⟨rfl, q1, q2, q3, hb1⟩; have d1 := fun j => q1.cell j; have f1 := fun j => q1.frozen j; have d2 := fun j => q2.cell j; have d3 := fun j => q3.cell j; simp only [ruV] at d1 d2; have l1 := q1.lt; have l2 := q2.lt; have l3 := q3.lt)
  clear con
  obtain ⟨n1, hn1⟩ : ∃ n, n = w.heap.size + 1 := ⟨_, rfl⟩
  obtain ⟨n2, hn2⟩ : ∃ n, n = w.heap.size + 1 + 1 := ⟨_, rfl⟩
  obtain ⟨n3, hn3⟩ : ∃ n, n = w.heap.size + 1 + 1 + 1 := ⟨_, rfl⟩
  have x12 : ¬ n1 = n2 := by omega
  have x21 : ¬ n2 = n1 := by omega
  have x13 : ¬ n1 = n3 := by omega
  have x31 : ¬ n3 = n1 := by omega
  have HN1 : Hid (w.heap.size ≤ n1) := by show _ ≤ _; omega
  rw [← hn3, ← hn2, ← hn1]
  rw [← hn1] at d1 f1 l1
  rw [← hn2] at d2 l2
  rw [← hn3] at d3 l3
  clear hn1 hn2 hn3 q1 q2 q3
  go_region
  all_goals (try go_wp2)
  exact bodyPost_ret (v := .tuple #[.agg #[.int .i64 s.1.c, .int .i64 s.1.s, .int .i64 s.1.lo, .int .i64 s.1.hi, .int .i64 s.1.t, .int .i64 s.1.l], .int .i64 s.2]) (by simp [results, Tryz.results30, go_sem, d1]) rfl ⟨rfl, (set6 hb1 HN1.out _ _ _ _ _ _).drew⟩

theorem kib_any (key : Int) (w : World) : Calls Tryz.prog 34 #[.int .i64 key] w fun e w' => e = .returned (.bool (inB key 0 1099511627775)) ∧ w' = w := by
  by_cases h1 : 0 ≤ key <;> by_cases h2 : key < 1099511627776 <;>
  · go_enter Tryz.func34, Tryz.ntmps34
    go_wp2
    go_ret
    refine ⟨?_, rfl⟩
    have q : inB key 0 1099511627775 = (decide (0 ≤ key) && decide (key < 1099511627776)) := by
      unfold inB
      congr 1
      exact decide_eq_decide.2 (by omega)
    rw [q]
    simp [h1, h2]

set_option maxRecDepth 20000 in
set_option maxHeartbeats 4000000 in
theorem get_bad (A : Option Addr) (C : Nat) (r key : Int) (ps : List PN) (w : World) (hN : NodesAt w.heap.size w A ps) (hwf : ∀ p ∈ ps, p.wf) (hc : treeC (ps.map PN.nd) r ≠ 0) :
    Calls Tryz.prog 15 #[.agg #[.slice A ps.length C, .int .i64 r], .int .i64 key] w
      fun e w' => e = .returned (.tuple #[.agg #[.int .i64 0, .int .i64 0, .int .i64 0, .int .i64 0, .int .i64 0, .int .i64 0], .int .i64 (treeC (ps.map PN.nd) r)]) ∧ Below w.heap.size w w' := by
  have b2 : ∀ o1 o2 : Obj, Below w.heap.size w ((w.alloc o1).alloc o2) := fun o1 o2 => two o1 o2
  obtain ⟨c, hcc⟩ : ∃ c, c = treeC (ps.map PN.nd) r := ⟨_, rfl⟩
  have con : ∀ w', NodesAt w'.heap.size w' A ps → Calls Tryz.prog 19 #[.agg #[.slice A ps.length C, .int .i64 r]] w' fun e w'' => e = .returned (.int .i64 c) ∧ Below w'.heap.size w' w'' := by
    intro w' h
    rw [hcc]
    exact checkT_any A C r ps w' h hwf
  rw [← hcc] at hc ⊢
  clear hcc
  have hc' : (c != 0) = true := by simpa using hc
  have hc'' : (c == 0) = false := by simpa using hc
  go_enter Tryz.func15, Tryz.ntmps15
  go_wp2_with (first | (go_at_call 19; refine (con _ ?_).mono ?_; exact hN.up (b2 _ _); rintro e w1 ⟨rfl, hb1⟩; obtain ⟨t1, f1, z1⟩ := two_cells hb1))
  exact bodyPost_ret (v := .tuple #[.agg #[.int .i64 0, .int .i64 0, .int .i64 0, .int .i64 0, .int .i64 0, .int .i64 0], .int .i64 c]) (by simp [results, Tryz.results15, go_sem, t1]) rfl ⟨rfl, set6 (nextB (b2 _ _) (Nat.le_refl _) hb1) (by omega) _ _ _ _ _ _⟩

set_option maxRecDepth 20000 in
set_option maxHeartbeats 4000000 in
theorem get_range (A : Option Addr) (C : Nat) (r key : Int) (ps : List PN) (w : World) (hN : NodesAt w.heap.size w A ps) (hwf : ∀ p ∈ ps, p.wf) (hc : treeC (ps.map PN.nd) r = 0) (hk : inB key 0 1099511627775 = false) :
    Calls Tryz.prog 15 #[.agg #[.slice A ps.length C, .int .i64 r], .int .i64 key] w
      fun e w' => e = .returned (.tuple #[.agg #[.int .i64 0, .int .i64 0, .int .i64 0, .int .i64 0, .int .i64 0, .int .i64 0], .int .i64 2]) ∧ Below w.heap.size w w' := by
  have b2 : ∀ o1 o2 : Obj, Below w.heap.size w ((w.alloc o1).alloc o2) := fun o1 o2 => two o1 o2
  have con : ∀ w', NodesAt w'.heap.size w' A ps → Calls Tryz.prog 19 #[.agg #[.slice A ps.length C, .int .i64 r]] w' fun e w'' => e = .returned (.int .i64 0) ∧ Below w'.heap.size w' w'' := by
    intro w' h
    rw [← hc]
    exact checkT_any A C r ps w' h hwf
  clear hc
  go_enter Tryz.func15, Tryz.ntmps15
  go_wp2_with (first | (go_at_call 19; refine (con _ ?_).mono ?_; exact hN.up (b2 _ _); rintro e w1 ⟨rfl, hb1⟩; obtain ⟨t1, f1, z1⟩ := two_cells hb1) | (go_at_call 34; refine (kib_any _ _).mono ?_; rintro e w2 ⟨rfl, hw2⟩; subst w2))
  exact bodyPost_ret (v := .tuple #[.agg #[.int .i64 0, .int .i64 0, .int .i64 0, .int .i64 0, .int .i64 0, .int .i64 0], .int .i64 2]) (by simp [results, Tryz.results15, go_sem, t1]) rfl ⟨rfl, set6 (nextB (b2 _ _) (Nat.le_refl _) hb1) (by omega) _ _ _ _ _ _⟩

set_option maxRecDepth 20000 in
set_option maxHeartbeats 4000000 in
theorem get_ok (A : Option Addr) (C : Nat) (r key : Int) (ps : List PN) (w : World) (hN : NodesAt w.heap.size w A ps) (hwf : ∀ p ∈ ps, p.wf) (hc : treeC (ps.map PN.nd) r = 0) (hk : inB key 0 1099511627775 = true) (s : Ru × Int) (hs : gotA (ps.map PN.nd) key = s) :
    Calls Tryz.prog 15 #[.agg #[.slice A ps.length C, .int .i64 r], .int .i64 key] w
      fun e w' => e = .returned (.tuple #[.agg #[.int .i64 s.1.c, .int .i64 s.1.s, .int .i64 s.1.lo, .int .i64 s.1.hi, .int .i64 s.1.t, .int .i64 s.1.l], .int .i64 s.2]) ∧ Below w.heap.size w w' := by
  have b2 : ∀ o1 o2 : Obj, Below w.heap.size w ((w.alloc o1).alloc o2) := fun o1 o2 => two o1 o2
  have con : ∀ w', NodesAt w'.heap.size w' A ps → Calls Tryz.prog 19 #[.agg #[.slice A ps.length C, .int .i64 r]] w' fun e w'' => e = .returned (.int .i64 0) ∧ Below w'.heap.size w' w'' := by
    intro w' h
    rw [← hc]
    exact checkT_any A C r ps w' h hwf
  have hkk : 0 ≤ key ∧ key ≤ 1099511627775 := (inB_iff _ _ _).1 hk
  obtain ⟨q, hW⟩ := treeC_W hc
  have kn := fun w' (h : NodesAt w'.heap.size w' A ps) => knownAt_any A C r r key ps w' h (W_reach _ _ _ _ _ _ hW) hkk s ((known_eq hc).trans hs)
  clear hc hW hs
  have bxx : ∀ {w1 : World} {b : Obj} (_ : Below ((w.alloc (.cells #[.slice A ps.length C, .int .i64 r] 26)).alloc b).heap.size ((w.alloc (.cells #[.slice A ps.length C, .int .i64 r] 26)).alloc b) w1), w1.cell? ⟨w.heap.size, 0, none⟩ = some (.slice A ps.length C) ∧ w1.cell? ⟨w.heap.size, 1, none⟩ = some (.int .i64 r) := fun hb => ⟨(hb.cell (p := ⟨w.heap.size, 0, none⟩) (by simp; omega)).trans (by simp), (hb.cell (p := ⟨w.heap.size, 1, none⟩) (by simp; omega)).trans (by simp)⟩
  go_enter Tryz.func15, Tryz.ntmps15
  go_wp2_with (first | (go_at_call 19; refine (con _ ?_).mono ?_; exact hN.up (b2 _ _); rintro e w1 ⟨rfl, hb1⟩; obtain ⟨t1, f1, z1⟩ := two_cells hb1; obtain ⟨x0, x1⟩ := bxx hb1) | (go_at_call 34; refine (kib_any _ _).mono ?_; rintro e w2 ⟨rfl, hw2⟩; subst w2) | (go_at_call 30; refine (kn _ ?_).mono ?_; exact hN.up (nextB (b2 _ _) (Nat.le_refl _) hb1); rintro e w3 ⟨rfl, hb3⟩; obtain ⟨t3, f3⟩ := bcells hb3; have u3 := fun j => (t3 _ j z1).trans (t1 j)))
  exact bodyPost_ret (v := .tuple #[.agg #[.int .i64 s.1.c, .int .i64 s.1.s, .int .i64 s.1.lo, .int .i64 s.1.hi, .int .i64 s.1.t, .int .i64 s.1.l], .int .i64 s.2]) (by simp [results, Tryz.results15, go_sem, u3]) rfl ⟨rfl, set6 (rest_below hb1 hb3) (by omega) _ _ _ _ _ _⟩

def tupR (s : Ru × Int) : Value := .tuple #[.agg #[.int .i64 s.1.c, .int .i64 s.1.s, .int .i64 s.1.lo, .int .i64 s.1.hi, .int .i64 s.1.t, .int .i64 s.1.l], .int .i64 s.2]

theorem get_any (A : Option Addr) (C : Nat) (r key : Int) (ps : List PN) (w : World) (hN : NodesAt w.heap.size w A ps) (hwf : ∀ p ∈ ps, p.wf) :
    Calls Tryz.prog 15 #[.agg #[.slice A ps.length C, .int .i64 r], .int .i64 key] w fun e w' => e = .returned (tupR (gotP (ps.map PN.nd) r key)) ∧ Below w.heap.size w w' := by
  unfold gotP
  by_cases hc : treeC (ps.map PN.nd) r = 0
  · rw [if_neg (by simpa using hc)]
    by_cases hk : inB key 0 1099511627775 = true
    · rw [if_pos hk]
      exact get_ok A C r key ps w hN hwf hc hk _ rfl
    · rw [if_neg hk]
      exact get_range A C r key ps w hN hwf hc (by simpa using hk)
  · rw [if_pos hc]
    exact get_bad A C r key ps w hN hwf hc

end Go.Proofs.YtlojfgdpmaigmacGreatDoor

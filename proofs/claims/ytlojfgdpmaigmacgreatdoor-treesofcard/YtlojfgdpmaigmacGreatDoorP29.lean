/- tree.knownAt and tree.Get. -/
import Derived.Test.YtlojfgdpmaigmacGreatDoorP19
import Derived.Test.YtlojfgdpmaigmacGreatDoorP28
import Derived.Test.YtlojfgdpmaigmacGreatDoorP03
import Derived.Test.YtlojfgdpmaigmacGreatDoorP07
import Derived.Deep.DeepCutAuto
namespace Go.Proofs.YtlojfgdpmaigmacGreatDoor
open Go.RowKit Plain

theorem four_rows (w : World) (o : Obj) (l1 l2 l3 : List Value) (t1 t2 t3 : TypeId) {W : World} (hW : W = (((w.alloc o).alloc (.cells l1.toArray t1)).alloc (.cells l2.toArray t2)).alloc (.cells l3.toArray t3)) :
    RowL W (w.heap.size + 1) t1 l1 ∧ RowL W (w.heap.size + 1 + 1) t2 l2 ∧ RowL W (w.heap.size + 1 + 1 + 1) t3 l3 ∧ Below w.heap.size w W ∧ W.heap.size = w.heap.size + 4 := by
  subst hW
  have s0 : (w.alloc o).heap.size = w.heap.size + 1 := by simp
  have s1 : ((w.alloc o).alloc (.cells l1.toArray t1)).heap.size = w.heap.size + 1 + 1 := by simp
  have s2 : (((w.alloc o).alloc (.cells l1.toArray t1)).alloc (.cells l2.toArray t2)).heap.size = w.heap.size + 1 + 1 + 1 := by simp
  have s3 : ((((w.alloc o).alloc (.cells l1.toArray t1)).alloc (.cells l2.toArray t2)).alloc (.cells l3.toArray t3)).heap.size = w.heap.size + 4 := by simp
  have r1 : RowL ((w.alloc o).alloc (.cells l1.toArray t1)) (w.heap.size + 1) t1 l1 := by have := rowL_alloc (w.alloc o) l1 t1; rwa [s0] at this
  have r2 : RowL (((w.alloc o).alloc (.cells l1.toArray t1)).alloc (.cells l2.toArray t2)) (w.heap.size + 1 + 1) t2 l2 := by have := rowL_alloc ((w.alloc o).alloc (.cells l1.toArray t1)) l2 t2; rwa [s1] at this
  have r3 : RowL ((((w.alloc o).alloc (.cells l1.toArray t1)).alloc (.cells l2.toArray t2)).alloc (.cells l3.toArray t3)) (w.heap.size + 1 + 1 + 1) t3 l3 := by have := rowL_alloc (((w.alloc o).alloc (.cells l1.toArray t1)).alloc (.cells l2.toArray t2)) l3 t3; rwa [s2] at this
  refine ⟨(r1.of_block (Below.heap_alloc _ _ _ (by omega))).of_block (Below.heap_alloc _ _ _ (by omega)), r2.of_block (Below.heap_alloc _ _ _ (by omega)), r3, ?_, s3⟩
  exact ((((Below.refl _ _).alloc (Nat.le_refl _) _).alloc (by omega) _).alloc (by omega) _).alloc (by omega) _

set_option maxRecDepth 20000 in
set_option maxHeartbeats 4000000 in
theorem knownAt_any (A : Option Addr) (C : Nat) (r place key : Int) (ps : List PN) (w : World) (hN : NodesAt w.heap.size w A ps) (hr : Reach (ps.map PN.nd) 12 place) (hk : 0 ≤ key ∧ key ≤ 1099511627775) (s : Ru × Int) (hs : Hid ((Wl (ps.map PN.nd) key (key + 1) 12 place).foldl stepK (zro, 0) = s)) :
    Calls Tryz.prog 30 #[.agg #[.slice A ps.length C, .int .i64 r], .int .i64 place, .int .i64 key] w
      fun e w' => e = .returned (.tuple #[.agg #[.int .i64 s.1.c, .int .i64 s.1.s, .int .i64 s.1.lo, .int .i64 s.1.hi, .int .i64 s.1.t, .int .i64 s.1.l], .int .i64 s.2]) ∧ Below w.heap.size w w' := by
  obtain ⟨W4, hW4⟩ : ∃ W4, W4 = (((w.alloc (.cells #[.slice A ps.length C, .int .i64 r] 26)).alloc (.cells #[.int .i64 0, .int .i64 0, .int .i64 0, .int .i64 0, .int .i64 0, .int .i64 0] 38)).alloc (.cells #[.int .i64 0, .int .i64 0, .int .i64 0, .int .i64 0, .int .i64 0, .int .i64 0] 38)).alloc (.cells #[.int .i64 0] 34) := ⟨_, rfl⟩
  obtain ⟨r1, r2, r3, hb4, hz4⟩ := four_rows w _ (ruV zro) (ruV zro) [.int .i64 0] _ _ _ hW4
  have con : Calls Tryz.prog 26 #[.agg #[.slice A ps.length C, .int .i64 r], .int .i64 place, .int .i64 key, .int .i64 (key + 1), .func (Fn.func 64) #[] #[.pointer (some ⟨w.heap.size + 1 + 1 + 1, 0, none⟩), .pointer (some ⟨w.heap.size + 1 + 1, 0, none⟩)]] W4
      fun e w' => e = .returned (.tuple #[]) ∧ RowL w' (w.heap.size + 1) 38 (ruV zro) ∧ RowL w' (w.heap.size + 1 + 1) 38 (ruV s.1) ∧ RowL w' (w.heap.size + 1 + 1 + 1) 34 [.int .i64 s.2] ∧ Below w.heap.size w w' := by
    have V := visK (w.heap.size + 1 + 1) (w.heap.size + 1 + 1 + 1)
    have far : ∀ k, XK (w.heap.size + 1 + 1) (w.heap.size + 1 + 1 + 1) W4 k → w.heap.size ≤ k := fun k hk => by rcases hk with rfl | rfl <;> omega
    refine (walk_any (w.heap.size + 1 + 1) (w.heap.size + 1 + 1 + 1) V A C r ps w.heap.size key (key + 1) 12 place (zro, 0) W4 hr (hN.below hb4 (Nat.le_refl _)) ⟨by omega, r2, r3⟩ (by omega) far).mono ?_
    rintro e w' ⟨rfl, hK, hT⟩
    rw [hs.out] at hK
    exact ⟨rfl, hT.row r1 (by rintro (h | h) <;> omega), hK.rk, hK.rc, hb4.trans (hT.below (by omega) far)⟩
  subst hW4
  clear r1 r2 r3 hb4 hz4 hs hr
  go_enter Tryz.func30, Tryz.ntmps30
  go_wp2_with (go_at_call 26; refine con.mono ?_; rintro e w1 ⟨rfl, q1, q2, q3, hb1⟩; have d1 := fun j => q1.cell j; have f1 := fun j => q1.frozen j; have d2 := fun j => q2.cell j; have d3 := fun j => q3.cell j; simp only [ruV] at d1 d2; have l1 := q1.lt; have l2 := q2.lt; have l3 := q3.lt)
  clear con
  obtain ⟨n1, hn1⟩ : ∃ n, n = w.heap.size + 1 := ⟨_, rfl⟩
  obtain ⟨n2, hn2⟩ : ∃ n, n = w.heap.size + 1 + 1 := ⟨_, rfl⟩
  obtain ⟨n3, hn3⟩ : ∃ n, n = w.heap.size + 1 + 1 + 1 := ⟨_, rfl⟩
  have x12 : ¬ n1 = n2 := by omega
  have x21 : ¬ n2 = n1 := by omega
  have x13 : ¬ n1 = n3 := by omega
  have x31 : ¬ n3 = n1 := by omega
  have HN1 : Hid (w.heap.size ≤ n1) := by show _ ≤ _; omega
  rw [← hn3, ← hn2, ← hn1]
  rw [← hn1] at d1 f1 l1
  rw [← hn2] at d2 l2
  rw [← hn3] at d3 l3
  clear hn1 hn2 hn3 q1 q2 q3
  go_region
  all_goals (try go_wp2)
  exact bodyPost_ret (v := .tuple #[.agg #[.int .i64 s.1.c, .int .i64 s.1.s, .int .i64 s.1.lo, .int .i64 s.1.hi, .int .i64 s.1.t, .int .i64 s.1.l], .int .i64 s.2]) (by simp [results, Tryz.results30, go_sem, d1]) rfl ⟨rfl, (set6 hb1 HN1.out _ _ _ _ _ _).drew⟩

theorem kib_any (key : Int) (w : World) : Calls Tryz.prog 34 #[.int .i64 key] w fun e w' => e = .returned (.bool (inB key 0 1099511627775)) ∧ w' = w := by
  by_cases h1 : 0 ≤ key <;> by_cases h2 : key < 1099511627776 <;>
  · go_enter Tryz.func34, Tryz.ntmps34
    go_wp2
    go_ret
    refine ⟨?_, rfl⟩
    have q : inB key 0 1099511627775 = (decide (0 ≤ key) && decide (key < 1099511627776)) := by
      unfold inB
      congr 1
      exact decide_eq_decide.2 (by omega)
    rw [q]
    simp [h1, h2]

set_option maxRecDepth 20000 in
set_option maxHeartbeats 4000000 in
theorem get_bad (A : Option Addr) (C : Nat) (r key : Int) (ps : List PN) (w : World) (hN : NodesAt w.heap.size w A ps) (hwf : ∀ p ∈ ps, p.wf) (hc : treeC (ps.map PN.nd) r ≠ 0) :
    Calls Tryz.prog 15 #[.agg #[.slice A ps.length C, .int .i64 r], .int .i64 key] w
      fun e w' => e = .returned (.tuple #[.agg #[.int .i64 0, .int .i64 0, .int .i64 0, .int .i64 0, .int .i64 0, .int .i64 0], .int .i64 (treeC (ps.map PN.nd) r)]) ∧ Below w.heap.size w w' := by
  have b2 : ∀ o1 o2 : Obj, Below w.heap.size w ((w.alloc o1).alloc o2) := fun o1 o2 => two o1 o2
  obtain ⟨c, hcc⟩ : ∃ c, c = treeC (ps.map PN.nd) r := ⟨_, rfl⟩
  have con : ∀ w', NodesAt w'.heap.size w' A ps → Calls Tryz.prog 19 #[.agg #[.slice A ps.length C, .int .i64 r]] w' fun e w'' => e = .returned (.int .i64 c) ∧ Below w'.heap.size w' w'' := by
    intro w' h
    rw [hcc]
    exact checkT_any A C r ps w' h hwf
  rw [← hcc] at hc ⊢
  clear hcc
  have hc' : (c != 0) = true := by simpa using hc
  have hc'' : (c == 0) = false := by simpa using hc
  go_enter Tryz.func15, Tryz.ntmps15
  go_wp2_with (first | (go_at_call 19; refine (con _ ?_).mono ?_; exact hN.up (b2 _ _); rintro e w1 ⟨rfl, hb1⟩; obtain ⟨t1, f1, z1⟩ := two_cells hb1))
  exact bodyPost_ret (v := .tuple #[.agg #[.int .i64 0, .int .i64 0, .int .i64 0, .int .i64 0, .int .i64 0, .int .i64 0], .int .i64 c]) (by simp [results, Tryz.results15, go_sem, t1]) rfl ⟨rfl, set6 (nextB (b2 _ _) (Nat.le_refl _) hb1) (by omega) _ _ _ _ _ _⟩

set_option maxRecDepth 20000 in
set_option maxHeartbeats 4000000 in
theorem get_range (A : Option Addr) (C : Nat) (r key : Int) (ps : List PN) (w : World) (hN : NodesAt w.heap.size w A ps) (hwf : ∀ p ∈ ps, p.wf) (hc : treeC (ps.map PN.nd) r = 0) (hk : inB key 0 1099511627775 = false) :
    Calls Tryz.prog 15 #[.agg #[.slice A ps.length C, .int .i64 r], .int .i64 key] w
      fun e w' => e = .returned (.tuple #[.agg #[.int .i64 0, .int .i64 0, .int .i64 0, .int .i64 0, .int .i64 0, .int .i64 0], .int .i64 2]) ∧ Below w.heap.size w w' := by
  have b2 : ∀ o1 o2 : Obj, Below w.heap.size w ((w.alloc o1).alloc o2) := fun o1 o2 => two o1 o2
  have con : ∀ w', NodesAt w'.heap.size w' A ps → Calls Tryz.prog 19 #[.agg #[.slice A ps.length C, .int .i64 r]] w' fun e w'' => e = .returned (.int .i64 0) ∧ Below w'.heap.size w' w'' := by
    intro w' h
    rw [← hc]
    exact checkT_any A C r ps w' h hwf
  clear hc
  go_enter Tryz.func15, Tryz.ntmps15
  go_wp2_with (first | (go_at_call 19; refine (con _ ?_).mono ?_; exact hN.up (b2 _ _); rintro e w1 ⟨rfl, hb1⟩; obtain ⟨t1, f1, z1⟩ := two_cells hb1) | (go_at_call 34; refine (kib_any _ _).mono ?_; rintro e w2 ⟨rfl, hw2⟩; subst w2))
  exact bodyPost_ret (v := .tuple #[.agg #[.int .i64 0, .int .i64 0, .int .i64 0, .int .i64 0, .int .i64 0, .int .i64 0], .int .i64 2]) (by simp [results, Tryz.results15, go_sem, t1]) rfl ⟨rfl, set6 (nextB (b2 _ _) (Nat.le_refl _) hb1) (by omega) _ _ _ _ _ _⟩

set_option maxRecDepth 20000 in
set_option maxHeartbeats 4000000 in
theorem get_ok (A : Option Addr) (C : Nat) (r key : Int) (ps : List PN) (w : World) (hN : NodesAt w.heap.size w A ps) (hwf : ∀ p ∈ ps, p.wf) (hc : treeC (ps.map PN.nd) r = 0) (hk : inB key 0 1099511627775 = true) (s : Ru × Int) (hs : gotA (ps.map PN.nd) key = s) :
    Calls Tryz.prog 15 #[.agg #[.slice A ps.length C, .int .i64 r], .int .i64 key] w
      fun e w' => e = .returned (.tuple #[.agg #[.int .i64 s.1.c, .int .i64 s.1.s, .int .i64 s.1.lo, .int .i64 s.1.hi, .int .i64 s.1.t, .int .i64 s.1.l], .int .i64 s.2]) ∧ Below w.heap.size w w' := by
  have b2 : ∀ o1 o2 : Obj, Below w.heap.size w ((w.alloc o1).alloc o2) := fun o1 o2 => two o1 o2
  have con : ∀ w', NodesAt w'.heap.size w' A ps → Calls Tryz.prog 19 #[.agg #[.slice A ps.length C, .int .i64 r]] w' fun e w'' => e = .returned (.int .i64 0) ∧ Below w'.heap.size w' w'' := by
    intro w' h
    rw [← hc]
    exact checkT_any A C r ps w' h hwf
  have hkk : 0 ≤ key ∧ key ≤ 1099511627775 := (inB_iff _ _ _).1 hk
  obtain ⟨q, hW⟩ := treeC_W hc
  have kn := fun w' (h : NodesAt w'.heap.size w' A ps) => knownAt_any A C r r key ps w' h (W_reach _ _ _ _ _ _ hW) hkk s ((known_eq hc).trans hs)
  clear hc hW hs
  have bxx : ∀ {w1 : World} {b : Obj} (_ : Below ((w.alloc (.cells #[.slice A ps.length C, .int .i64 r] 26)).alloc b).heap.size ((w.alloc (.cells #[.slice A ps.length C, .int .i64 r] 26)).alloc b) w1), w1.cell? ⟨w.heap.size, 0, none⟩ = some (.slice A ps.length C) ∧ w1.cell? ⟨w.heap.size, 1, none⟩ = some (.int .i64 r) := fun hb => ⟨(hb.cell (p := ⟨w.heap.size, 0, none⟩) (by simp; omega)).trans (by simp), (hb.cell (p := ⟨w.heap.size, 1, none⟩) (by simp; omega)).trans (by simp)⟩
  go_enter Tryz.func15, Tryz.ntmps15
  go_wp2_with (first | (go_at_call 19; refine (con _ ?_).mono ?_; exact hN.up (b2 _ _); rintro e w1 ⟨rfl, hb1⟩; obtain ⟨t1, f1, z1⟩ := two_cells hb1; obtain ⟨x0, x1⟩ := bxx hb1) | (go_at_call 34; refine (kib_any _ _).mono ?_; rintro e w2 ⟨rfl, hw2⟩; subst w2) | (go_at_call 30; refine (kn _ ?_).mono ?_; exact hN.up (nextB (b2 _ _) (Nat.le_refl _) hb1); rintro e w3 ⟨rfl, hb3⟩; obtain ⟨t3, f3⟩ := bcells hb3; have u3 := fun j => (t3 _ j z1).trans (t1 j)))
  exact bodyPost_ret (v := .tuple #[.agg #[.int .i64 s.1.c, .int .i64 s.1.s, .int .i64 s.1.lo, .int .i64 s.1.hi, .int .i64 s.1.t, .int .i64 s.1.l], .int .i64 s.2]) (by simp [results, Tryz.results15, go_sem, u3]) rfl ⟨rfl, set6 (rest_below hb1 hb3) (by omega) _ _ _ _ _ _⟩

def tupR (s : Ru × Int) : Value := .tuple #[.agg #[.int .i64 s.1.c, .int .i64 s.1.s, .int .i64 s.1.lo, .int .i64 s.1.hi, .int .i64 s.1.t, .int .i64 s.1.l], .int .i64 s.2]

theorem get_any (A : Option Addr) (C : Nat) (r key : Int) (ps : List PN) (w : World) (hN : NodesAt w.heap.size w A ps) (hwf : ∀ p ∈ ps, p.wf) :
    Calls Tryz.prog 15 #[.agg #[.slice A ps.length C, .int .i64 r], .int .i64 key] w fun e w' => e = .returned (tupR (gotP (ps.map PN.nd) r key)) ∧ Below w.heap.size w w' := by
  unfold gotP
  by_cases hc : treeC (ps.map PN.nd) r = 0
  · rw [if_neg (by simpa using hc)]
    by_cases hk : inB key 0 1099511627775 = true
    · rw [if_pos hk]
      exact get_ok A C r key ps w hN hwf hc hk _ rfl
    · rw [if_neg hk]
      exact get_range A C r key ps w hN hwf hc (by simpa using hk)
  · rw [if_pos hc]
    exact get_bad A C r key ps w hN hwf hc

end Go.Proofs.YtlojfgdpmaigmacGreatDoor

/- Rollup of package winnowerkeep: some rollup. -/
namespace Go.Proofs.YtlojfgdpmaigmacGreatDoor
open Go.RowKit Plain

theorem of_some (t v : Int) (w : World) : Calls Tryz.prog 21 #[.int .i64 t, .int .i64 v] w fun e w' => ∃ (r : Ru) (c : Int), e = .returned (.tuple #[.agg #[.int .i64 r.c, .int .i64 r.s, .int .i64 r.lo, .int .i64 r.hi, .int .i64 r.t, .int .i64 r.l], .int .i64 c]) ∧ Below w.heap.size w w' := by
  cases h1 : inB t 0 1048575 with
  | false => exact (of_no1 t v w h1).mono fun e w' ⟨he, hb⟩ => ⟨zro, 2, he, hb⟩
  | true =>
    cases h2 : inB v (-1000000) 1000000 with
    | false => exact (of_no2 t v w h1 h2).mono fun e w' ⟨he, hb⟩ => ⟨zro, 2, he, hb⟩
    | true => exact (of_yes t v w h1 h2).mono fun e w' ⟨he, hb⟩ => ⟨⟨1, v, v, v, t, v⟩, 0, he, hb⟩

/-- On the way: the boxes of the raw thing, of the answer, and of what is out so far. -/
structure RoA (w wr : World) (k a b c : Int) (ob : Nat) (r : Ru) : Prop where
  below : Below w.heap.size w wr
  bx : RowL wr w.heap.size 44 [.int .i64 k, .int .i64 a, .int .i64 b, .int .i64 c]
  res : RowL wr (w.heap.size + 1) 38 (ruV zro)
  out : RowL wr ob 38 (ruV r)
  ge : w.heap.size + 2 ≤ ob

theorem RoA.next {w wr w' : World} {k a b c : Int} {ob : Nat} {r : Ru} (h : RoA w wr k a b c ob r) (hb : Below wr.heap.size wr w') : RoA w w' k a b c ob r :=
  ⟨nextB h.below (Nat.le_refl _) hb, h.bx.below hb h.bx.lt, h.res.below hb h.res.lt, h.out.below hb h.out.lt, h.ge⟩

theorem setR_block (w : World) (g : Nat) (a b c d e f : Value) {k : Nat} (hk : k ≠ g) : ((((((w.setCell ⟨g, 0, none⟩ a).setCell ⟨g, 1, none⟩ b).setCell ⟨g, 2, none⟩ c).setCell ⟨g, 3, none⟩ d).setCell ⟨g, 4, none⟩ e).setCell ⟨g, 5, none⟩ f).heap[k]? = w.heap[k]? := by
  simp only [Below.heap_setCell _ _ _ _ (show k ≠ (⟨g, _, none⟩ : Addr).block from hk)]

def setR (w : World) (g : Nat) (r : Ru) : World := (((((w.setCell ⟨g, 0, none⟩ (.int .i64 r.c)).setCell ⟨g, 1, none⟩ (.int .i64 r.s)).setCell ⟨g, 2, none⟩ (.int .i64 r.lo)).setCell ⟨g, 3, none⟩ (.int .i64 r.hi)).setCell ⟨g, 4, none⟩ (.int .i64 r.t)).setCell ⟨g, 5, none⟩ (.int .i64 r.l)

theorem setR_row {w : World} {g : Nat} {r r' : Ru} (h : RowL w g 38 (ruV r)) : RowL (setR w g r') g 38 (ruV r') :=
  (((((h.set 0 _).set 1 _).set 2 _).set 3 _).set 4 _).set 5 _

theorem setR_below {B : Nat} {w wr : World} (h : Below B w wr) {g : Nat} (hg : B ≤ g) (r : Ru) : Below B w (setR wr g r) :=
  (((((h.setCell (p := ⟨g, 0, none⟩) hg _).setCell (p := ⟨g, 1, none⟩) hg _).setCell (p := ⟨g, 2, none⟩) hg _).setCell (p := ⟨g, 3, none⟩) hg _).setCell (p := ⟨g, 4, none⟩) hg _).setCell (p := ⟨g, 5, none⟩) hg _

theorem RoA.turn {w wr : World} {k a b c : Int} {ob : Nat} {r r' : Ru} (h : RoA w wr k a b c ob r) : RoA w (setR wr ob r') k a b c ob r' := by
  have hg := h.ge
  exact ⟨setR_below h.below (by omega) _, h.bx.of_block (setR_block _ _ _ _ _ _ _ _ (by omega)), h.res.of_block (setR_block _ _ _ _ _ _ _ _ (by omega)), setR_row h.out, hg⟩

/-- The two boxes that stand first. -/
structure RoB (w wr : World) (k a b c : Int) : Prop where
  below : Below w.heap.size w wr
  bx : RowL wr w.heap.size 44 [.int .i64 k, .int .i64 a, .int .i64 b, .int .i64 c]
  res : RowL wr (w.heap.size + 1) 38 (ruV zro)

theorem RoB.start (w : World) (k a b c : Int) : RoB w ((w.alloc (.cells #[.int .i64 k, .int .i64 a, .int .i64 b, .int .i64 c] 44)).alloc (.cells #[.int .i64 0, .int .i64 0, .int .i64 0, .int .i64 0, .int .i64 0, .int .i64 0] 38)) k a b c := by
  have s1 : (w.alloc (.cells #[.int .i64 k, .int .i64 a, .int .i64 b, .int .i64 c] 44)).heap.size = w.heap.size + 1 := by simp
  have r0 : RowL (w.alloc (.cells #[.int .i64 k, .int .i64 a, .int .i64 b, .int .i64 c] 44)) w.heap.size 44 [.int .i64 k, .int .i64 a, .int .i64 b, .int .i64 c] := rowL_alloc w _ _
  have r1 := rowL_alloc (w.alloc (.cells #[.int .i64 k, .int .i64 a, .int .i64 b, .int .i64 c] 44)) (ruV zro) 38
  rw [s1] at r1
  exact ⟨((Below.refl _ _).alloc (Nat.le_refl _) _).alloc (by omega) _, r0.of_block (Below.heap_alloc _ _ _ (by omega)), r1⟩

theorem RoB.next {w wr w' : World} {k a b c : Int} (h : RoB w wr k a b c) (hb : Below wr.heap.size wr w') : RoB w w' k a b c :=
  ⟨nextB h.below (Nat.le_refl _) hb, h.bx.below hb h.bx.lt, h.res.below hb h.res.lt⟩

/-- Made behind the call .. -/
theorem RoB.late {w wr : World} {k a b c : Int} (h : RoB w wr k a b c) (r : Ru) : RoA w (wr.alloc (.cells (ruV r).toArray 38)) k a b c wr.heap.size r := by
  have h1 := h.next ((Below.refl _ _).alloc (Nat.le_refl _) (.cells (ruV r).toArray 38))
  exact ⟨h1.below, h1.bx, h1.res, rowL_alloc wr _ _, by have := h.res.lt; omega⟩

/-- .. or ahead of it. -/
theorem RoB.early {w wr w1 : World} {k a b c : Int} {ob : Nat} (h : RoB w wr k a b c) (hb : Below (wr.alloc (.cells (ruV zro).toArray 38)).heap.size (wr.alloc (.cells (ruV zro).toArray 38)) w1) (r : Ru) (e : wr.heap.size = ob) : RoA w (setR w1 ob r) k a b c ob r := by
  subst e
  exact ((h.late zro).next hb).turn

/-- In a round: what is out so far, and one more. -/
structure RoC (w wr : World) (k a b c : Int) (ob xb : Nat) (r x : Ru) : Prop where
  roa : RoA w wr k a b c ob r
  bx : RowL wr xb 38 (ruV x)
  gt : ob < xb

theorem RoA.late {w wr : World} {k a b c : Int} {ob : Nat} {r : Ru} (h : RoA w wr k a b c ob r) (x : Ru) : RoC w (wr.alloc (.cells (ruV x).toArray 38)) k a b c ob wr.heap.size r x :=
  ⟨h.next ((Below.refl _ _).alloc (Nat.le_refl _) _), rowL_alloc wr _ _, h.out.lt⟩

theorem RoA.early {w wr w1 : World} {k a b c : Int} {ob xb : Nat} {r : Ru} (h : RoA w wr k a b c ob r) (hb : Below (wr.alloc (.cells (ruV zro).toArray 38)).heap.size (wr.alloc (.cells (ruV zro).toArray 38)) w1) (x : Ru) (e : wr.heap.size = xb) : RoC w (setR w1 xb x) k a b c ob xb r x := by
  subst e
  have h1 := (h.late zro).roa.next hb
  have l1 := h.out.lt
  have hr : RowL w1 wr.heap.size 38 (ruV zro) := (rowL_alloc wr _ _).below hb (by simp)
  have hg := h.ge
  refine ⟨⟨setR_below h1.below (by omega) _, h1.bx.of_block (setR_block _ _ _ _ _ _ _ _ (by omega)), h1.res.of_block (setR_block _ _ _ _ _ _ _ _ (by omega)), h1.out.of_block (setR_block _ _ _ _ _ _ _ _ (by omega)), hg⟩, setR_row hr, l1⟩

end Go.Proofs.YtlojfgdpmaigmacGreatDoor

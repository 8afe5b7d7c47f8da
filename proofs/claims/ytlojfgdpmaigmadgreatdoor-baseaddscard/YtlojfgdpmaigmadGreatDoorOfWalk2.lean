/- The walk of Of of package tree. -/
import Derived.Test.YtlojfgdpmaigmadGreatDoorP42
namespace Go.Proofs.YtlojfgdpmaigmadGreatDoor
open Go.RowKit Plain

set_option maxHeartbeats 1000000 in
theorem checkEntry_any (key c s lo hi t l : Int) (w : World) :
    Calls Tryz.prog 41 #[.int .i64 key, .agg #[.int .i64 c, .int .i64 s, .int .i64 lo, .int .i64 hi, .int .i64 t, .int .i64 l]] w fun e w' => e = .returned (.int .i64 (entC ⟨key, c, s, lo, hi, t, l⟩)) ∧ Below w.heap.size w w' := by
  by_cases h1 : inB key 0 1099511627775 = true
  · by_cases h3 : c = 0
    · have E : Hid (entC ⟨key, c, s, lo, hi, t, l⟩ = 2) := by show _ = _; simp [entC, h3]
      subst h3
      go_enter Tryz.func41, Tryz.ntmps41
      go_wp2_with (first | (go_at_call 61; refine (kibO_any _ _).mono ?_; rintro e w1 ⟨rfl, h5⟩; subst w1))
      go_ret
      exact ⟨ret_int E.out.symm, (Below.refl _ _).alloc (Nat.le_refl _) _⟩
    · have h3' : (c == 0) = false := by simpa using h3
      have E : Hid (entC ⟨key, c, s, lo, hi, t, l⟩ = checkC c s lo hi t l) := by show _ = _; simp [entC, h1, h3]
      clear h3
      go_enter Tryz.func41, Tryz.ntmps41
      go_wp2_with (first | (go_at_call 61; refine (kibO_any _ _).mono ?_; rintro e w1 ⟨rfl, h5⟩; subst w1) | (go_at_call 62; refine (check_any _ _ _ _ _ _ _).mono ?_; rintro e w1 ⟨rfl, hb1⟩))
      go_ret
      exact ⟨ret_int E.out.symm, nextB ((Below.refl _ _).alloc (Nat.le_refl _) _) (Nat.le_refl _) hb1⟩
  · have h1' : inB key 0 1099511627775 = false := by simpa using h1
    have E : Hid (entC ⟨key, c, s, lo, hi, t, l⟩ = 2) := by show _ = _; simp [entC, h1]
    clear h1
    go_enter Tryz.func41, Tryz.ntmps41
    go_wp2_with (first | (go_at_call 61; refine (kibO_any _ _).mono ?_; rintro e w1 ⟨rfl, h5⟩; subst w1))
    go_ret
    exact ⟨ret_int E.out.symm, (Below.refl _ _).alloc (Nat.le_refl _) _⟩

theorem grow_z (base g C : Nat) (qs : List PN) (k : Nat) (z : Int) (n : Nat) (hz : Hid (z = (k : Int))) (hn : Hid (qs.length = n)) (ns1 : List Nd) (more1 : List (Int × Int)) (h1 : Nat) (R : List Nd × Int) (w : World) (hN : NT base w g C qs) (hB : base ≤ w.heap.size)
    (hcon : Hid (∀ (W : World) (tb : Nat), TB base W tb g C qs (k : Int) → base ≤ W.heap.size → Calls Tryz.prog 74 #[.pointer (some ⟨tb, 0, none⟩), .int .i64 (k : Int)] W fun e w' => ∃ vm g' C' qs', e = .returned vm ∧ GrowTo base W tb g qs (k : Int) ns1 more1 w' vm g' C' qs'))
    (hrow : more1 = [] ∨ RowOk ns1 h1 (k : Int) more1) (hfew : ns1.length + more1.length ≤ 999999) (hR : growN more1.length ns1 (k : Int) more1 = R) :
    Calls Tryz.prog 46 #[.agg #[.slice (some ⟨g, 0, none⟩) n C, .int .i64 z]] w
      fun e w' => Kept (feet g qs) w w' ∧ ((2000 < R.1.length ∧ e = .returned (.tuple #[.agg #[.slice none 0 0, .int .i64 0], .int .i64 1])) ∨
        (R.1.length ≤ 2000 ∧ ∃ g' C' qs', e = .returned (.tuple #[.agg #[.slice (some ⟨g', 0, none⟩) qs'.length C', .int .i64 R.2], .int .i64 0]) ∧ NT base w' g' C' qs' ∧ qs'.map PN.nd = R.1 ∧ ∀ b ∈ feet g' qs', b ∈ feet g qs ∨ w.heap.size ≤ b)) := by
  have e1 : z = (k : Int) := hz.out
  have e2 : qs.length = n := hn.out
  subst e1 e2
  exact grow_any base g C qs k ns1 more1 h1 R w hN hB hcon hrow hfew hR

/-- The variable in which the answer will lie. -/
structure ResAt (w wr : World) : Prop where
  row : RowL wr w.heap.size 25 [.slice none 0 0, .int .i64 0]

theorem ResAt.cells {w wr : World} (h : ResAt w wr) : wr.cell? ⟨w.heap.size, 0, none⟩ = some (.slice none 0 0) ∧ wr.cell? ⟨w.heap.size, 1, none⟩ = some (.int .i64 0) ∧ (∀ j, wr.frozen? ⟨w.heap.size, j, none⟩ = false) ∧ w.heap.size < wr.heap.size :=
  ⟨h.row.cell 0, h.row.cell 1, h.row.frozen, h.row.lt⟩

theorem of_next {w wr w1 : World} {o : Obj} {n : Nat} (hb : Below w.heap.size w wr) (hr : ResAt w wr) (hb1 : Below ((wr.alloc o).drewN n).heap.size ((wr.alloc o).drewN n) w1) : Below w.heap.size w w1 ∧ ResAt w w1 := by
  have h1 : Below wr.heap.size wr w1 := nextB (below_drewN ((Below.refl _ _).alloc (Nat.le_refl _) _) _) (Nat.le_refl _) hb1
  exact ⟨nextB hb (Nat.le_refl _) h1, ⟨hr.row.below h1 hr.row.lt⟩⟩

theorem of_res {w wr : World} (hr : ResAt w wr) : (∀ (o : Obj) (n : Nat), ((wr.alloc o).drewN n).cell? ⟨w.heap.size, 0, none⟩ = some (.slice none 0 0)) ∧ ∀ (o : Obj) (n : Nat), ((wr.alloc o).drewN n).cell? ⟨w.heap.size, 1, none⟩ = some (.int .i64 0) := by
  have hb : ∀ (o : Obj) (n : Nat), Below wr.heap.size wr ((wr.alloc o).drewN n) := fun o n => below_drewN ((Below.refl _ _).alloc (Nat.le_refl _) _) _
  exact ⟨fun o n => ((hb o n).cell (p := ⟨w.heap.size, 0, none⟩) hr.row.lt).trans (hr.row.cell 0), fun o n => ((hb o n).cell (p := ⟨w.heap.size, 1, none⟩) hr.row.lt).trans (hr.row.cell 1)⟩

/-- What Of may answer. -/
def OfP (xs : List En) (w : World) (e : Ending) (w' : World) : Prop :=
  Below w.heap.size w w' ∧
  ((∃ c : Int, c ≠ 0 ∧ e = .returned (.tuple #[.agg #[.slice none 0 0, .int .i64 0], .int .i64 c]) ∧ (c = faultE xs ∨ (faultE xs = 0 ∧ c = 1 ∧ 2900 < xs.length))) ∨
   (faultE xs = 0 ∧ ∃ g C' qs root, e = .returned (.tuple #[.agg #[.slice (some ⟨g, 0, none⟩) qs.length C', .int .i64 root], .int .i64 0]) ∧ NodesAt w'.heap.size w' (some ⟨g, 0, none⟩) qs ∧ treeC (qs.map PN.nd) root = 0 ∧ ((qs.map PN.nd).flatMap cont).Perm xs))

def leafPN (A : Option Addr) (C : Nat) (xs : List En) : PN := ⟨true, A, C, xs, none, 0, [], none, 0, [], none, 0, []⟩

theorem of_mem {w wr w1 w2 : World} {g C2 : Nat} {A2 : Option Addr} {xs : List En} {o : Obj} (hb : Below w.heap.size w wr) (hr : ResAt w wr) (hg : wr.heap.size ≤ g) (hrow : RowL w1 g 70 [.bool true, .slice none 0 0, .slice none 0 0, .slice none 0 0, .slice none 0 0]) (hb1 : Below wr.heap.size wr w1)
    (hb2 : Below ((w1.alloc o).drew).heap.size ((w1.alloc o).drew) w2) (o2 : w2.ownsRow ((w1.alloc o).drew).heap.size 63 7 (.slice A2 xs.length C2) xs.length (flatE xs)) (hz : xs.length * 56 ≤ 140737488351232) :
    NT (w.heap.size + 1) (w2.setCell ⟨g, 1, none⟩ (.slice A2 xs.length C2)) g 1 [leafPN A2 C2 xs] ∧ Below w.heap.size w (w2.setCell ⟨g, 1, none⟩ (.slice A2 xs.length C2)) ∧ ResAt w (w2.setCell ⟨g, 1, none⟩ (.slice A2 xs.length C2)) ∧ w.heap.size < g := by
  have hgl := hrow.lt
  have hwg : w.heap.size < g := Nat.lt_of_lt_of_le hr.row.lt hg
  have h12 : Below w1.heap.size w1 w2 := nextB ((Below.refl _ _).alloc (Nat.le_refl _) _).drew (Nat.le_refl _) hb2
  have hw2 : Below w.heap.size w w2 := nextB (nextB hb (Nat.le_refl _) hb1) (Nat.le_refl _) h12
  have hrow2 := hrow.below h12 hgl
  have hrow3 : RowL (w2.setCell ⟨g, 1, none⟩ (.slice A2 xs.length C2)) g 70 (flatN [leafPN A2 C2 xs]) := hrow2.set 1 (.slice A2 xs.length C2)
  have hge : ∀ b, (Value.slice A2 xs.length C2).ownBlock = some b → w1.heap.size < b := fun b hb => by
    have := (o2.lt b hb).1
    simp only [World.size_drew, World.size_alloc] at this
    omega
  have hob : ∀ b, b ≠ g → (w2.setCell ⟨g, 1, none⟩ (.slice A2 xs.length C2)).heap[b]? = w2.heap[b]? := fun b hb => Below.heap_setCell _ _ _ _ hb
  refine ⟨⟨⟨rfl, .inr ⟨g, 1, (flatN [leafPN A2 C2 xs]).toArray, rfl, hwg, hrow3, Nat.le_refl _, by decide, rfl, rfl⟩⟩, ?_, ?_, by show 1 * 104 ≤ _; decide⟩, hw2.setCell (p := ⟨g, 1, none⟩) (Nat.le_of_lt hwg) _, ⟨?_⟩, hwg⟩
  · intro q hq
    obtain rfl : q = leafPN A2 C2 xs := by simpa using hq
    refine ⟨?_, World.ownsRow_nil _ _ _ _, World.ownsRow_nil _ _ _ _, World.ownsRow_nil _ _ _ _, hz, by show 0 * 8 ≤ _; decide, by show 0 * 8 ≤ _; decide, by show 0 * 56 ≤ _; decide⟩
    have hs := hw2.size
    refine own_of_block (own_mono o2 ?_) fun b hb => hob b (by have := hge b hb; omega)
    simp only [World.size_drew, World.size_alloc]
    have := hb1.size
    have := hb.size
    omega
  · unfold feet PN.blocks leafPN
    cases A2 with
    | none => simp
    | some a =>
      have := hge a.block rfl
      simp
      omega
  · have hrl := hr.row.lt
    have h1 := hb1.size
    have r1 := hr.row.below hb1 hrl
    exact (r1.below h12 (by omega)).of_block (hob _ (by omega))

theorem leaf_pre {xs : List En} (h : faultE xs = 0) (hz : xs.length ≤ 12000) : SplitPre (leafOf xs) := by
  by_cases hne : xs = []
  · subst hne
    exact ⟨by decide, fun h => absurd h (by decide)⟩
  · have := Top_pre (leaf_top h hne)
    rw [nth_leaf] at this
    exact this (by rw [(leaf_size xs).1]; omega)

theorem of_con {base g C2 : Nat} {A2 : Option Addr} {xs : List En} (h : faultE xs = 0) (hz : xs.length ≤ 12000) : ∀ (W : World) (tb : Nat), TB base W tb g 1 [leafPN A2 C2 xs] ((0 : Nat) : Int) → base ≤ W.heap.size → Calls Tryz.prog 74 #[.pointer (some ⟨tb, 0, none⟩), .int .i64 ((0 : Nat) : Int)] W
    fun e w' => ∃ vm g' C' qs', e = .returned vm ∧ GrowTo base W tb g [leafPN A2 C2 xs] ((0 : Nat) : Int) (splitN [leafOf xs] 0).1 (splitN [leafOf xs] 0).2 w' vm g' C' qs' := by
  intro W tb hT hB
  have hp := (leaf_size xs).2.2
  refine (splitAll_leaf base tb g 1 [leafPN A2 C2 xs] ((0 : Nat) : Int) 0 W hT (by simp) (leaf_pre h hz) hB ?_ rfl).mono ?_
  · show (1 + partsN (leafOf xs) + 1) * 104 ≤ 140737488351232
    rw [hp]
    exact Nat.le_trans (Nat.mul_le_mul_right 104 (show _ ≤ 10000 by omega)) (by decide)
  · rintro e w' ⟨vm, g', C', qs', rfl, hs⟩
    exact ⟨vm, g', C', qs', rfl, hs.grow⟩

theorem of_few {xs : List En} (hz : xs.length ≤ 12000) : (splitN [leafOf xs] 0).1.length + (splitN [leafOf xs] 0).2.length ≤ 999999 := by
  have := leaf_split xs
  omega

theorem of_res4 {w W3 w4 : World} {g C2 : Nat} {A2 : Option Addr} {xs : List En} (h : NT (w.heap.size + 1) W3 g 1 [leafPN A2 C2 xs] ∧ Below w.heap.size w W3 ∧ ResAt w W3 ∧ w.heap.size < g) (hk : Kept (feet g [leafPN A2 C2 xs]) W3 w4) : Below w.heap.size w w4 ∧ ResAt w w4 := by
  obtain ⟨hN, hb, hr, _⟩ := h
  have hb4 : Below w.heap.size W3 w4 := hk.below hb.size (fun x hx => by have := (hN.lt x hx).1; omega)
  refine ⟨hb.trans hb4, ⟨hk.row hr.row ?_⟩⟩
  intro e
  have := (hN.lt _ e).1
  omega

theorem of_many {xs : List En} (h : faultE xs = 0) (hb : 2000 < (ofN xs).1.length) : 2900 < xs.length := by
  have := ofN_len xs h
  omega

theorem of_nodes {w w4 : World} {g C : Nat} {qs : List PN} (hN : NT (w.heap.size + 1) w4 g C qs) (v0 v1 : Value) : NodesAt ((w4.setCell ⟨w.heap.size, 0, none⟩ v0).setCell ⟨w.heap.size, 1, none⟩ v1).heap.size ((w4.setCell ⟨w.heap.size, 0, none⟩ v0).setCell ⟨w.heap.size, 1, none⟩ v1) (some ⟨g, 0, none⟩) qs := by
  have h : NT (w.heap.size + 1) ((w4.setCell ⟨w.heap.size, 0, none⟩ v0).setCell ⟨w.heap.size, 1, none⟩ v1) g C qs := hN.of_blocks fun b hb => by
    have hne : b ≠ w.heap.size := by have := (hN.lt b hb).1; omega
    exact (Below.heap_setCell _ _ _ _ hne).trans (Below.heap_setCell _ _ _ _ hne)
  exact h.nodes

end Go.Proofs.YtlojfgdpmaigmadGreatDoor

/- What is known of a key: the visitor of tree.knownAt. -/
import Derived.Test.YtndojgeodmddoabGotWalk
namespace Go.Proofs.Ytndojgeodmddoab
open Go.RowKit Plain

def ruV (r : Ru) : List Value := [.int .i64 r.c, .int .i64 r.s, .int .i64 r.lo, .int .i64 r.hi, .int .i64 r.t, .int .i64 r.l]

/-- What is known so far, and the code so far, in their two blocks. -/
structure KAt (bk bc : Nat) (w : World) (s : Ru × Int) : Prop where
  ne : bk ≠ bc
  rk : RowL w bk 36 (ruV s.1)
  rc : RowL w bc 25 [.int .i64 s.2]

def stepK (s : Ru × Int) (x : En) : Ru × Int := if s.2 = 0 then mrg s.1 x.ru else s

theorem KAt.below {bk bc : Nat} {w w' : World} {s : Ru × Int} (h : KAt bk bc w s) (hb : Below w.heap.size w w') : KAt bk bc w' s :=
  ⟨h.ne, h.rk.below hb h.rk.lt, h.rc.below hb h.rc.lt⟩

theorem KAt.set {bk bc : Nat} {w : World} {s : Ru × Int} (h : KAt bk bc w s) (r : Ru) (e : Int) :
    KAt bk bc (((((((w.setCell ⟨bk, 0, none⟩ (.int .i64 r.c)).setCell ⟨bk, 1, none⟩ (.int .i64 r.s)).setCell ⟨bk, 2, none⟩ (.int .i64 r.lo)).setCell ⟨bk, 3, none⟩ (.int .i64 r.hi)).setCell ⟨bk, 4, none⟩ (.int .i64 r.t)).setCell ⟨bk, 5, none⟩ (.int .i64 r.l)).setCell ⟨bc, 0, none⟩ (.int .i64 e)) (r, e) := by
  have far : ∀ (W : World) (j : Nat) (v : Value), (W.setCell ⟨bk, j, none⟩ v).heap[bc]? = W.heap[bc]? := fun W j v => Below.heap_setCell _ _ _ _ (fun q => h.ne q.symm)
  refine ⟨h.ne, ?_, ?_⟩
  · exact ((((((h.rk.set 0 _).set 1 _).set 2 _).set 3 _).set 4 _).set 5 _).of_block (Below.heap_setCell _ _ _ _ h.ne)
  · exact ((((((h.rc.of_block (far _ _ _)).of_block (far _ _ _)).of_block (far _ _ _)).of_block (far _ _ _)).of_block (far _ _ _)).of_block (far _ _ _)).set 0 (.int .i64 e)

set_option maxRecDepth 20000 in
set_option maxHeartbeats 4000000 in
theorem visit_no (x : En) (bk bc : Nat) (s : Ru × Int) (w : World) (h : KAt bk bc w s) (he : s.2 ≠ 0) :
    Calls Try.prog 51 #[.agg #[.int .i64 x.key, .int .i64 x.c, .int .i64 x.s, .int .i64 x.lo, .int .i64 x.hi, .int .i64 x.t, .int .i64 x.l], .pointer (some ⟨bc, 0, none⟩), .pointer (some ⟨bk, 0, none⟩)] w
      fun e w' => e = .returned (.tuple #[]) ∧ KAt bk bc w' s ∧ Kept [bk, bc] w w' := by
  have ce : w.cell? ⟨bc, 0, none⟩ = some (.int .i64 s.2) := h.rc.cell 0
  have lc := h.rc.lt
  have b0 : ∀ o : Obj, Below w.heap.size w (w.alloc o) := fun o => (Below.refl _ _).alloc (Nat.le_refl _) o
  have he' : (s.2 == 0) = false := by simpa using he
  go_enter Try.func51, Try.ntmps51
  go_wp2_with fail
  go_end0
  exact ⟨rfl, h.below (b0 _), Kept.of_below (b0 _)⟩

set_option maxRecDepth 20000 in
set_option maxHeartbeats 4000000 in
theorem visit_yes (x : En) (bk bc : Nat) (ru : Ru) (w : World) (h : KAt bk bc w (ru, 0)) :
    Calls Try.prog 51 #[.agg #[.int .i64 x.key, .int .i64 x.c, .int .i64 x.s, .int .i64 x.lo, .int .i64 x.hi, .int .i64 x.t, .int .i64 x.l], .pointer (some ⟨bc, 0, none⟩), .pointer (some ⟨bk, 0, none⟩)] w
      fun e w' => e = .returned (.tuple #[]) ∧ KAt bk bc w' (mrg ru x.ru) ∧ Kept [bk, bc] w w' := by
  have ce : w.cell? ⟨bc, 0, none⟩ = some (.int .i64 0) := h.rc.cell 0
  have c0 : w.cell? ⟨bk, 0, none⟩ = some (.int .i64 ru.c) := h.rk.cell 0
  have c1 : w.cell? ⟨bk, 1, none⟩ = some (.int .i64 ru.s) := h.rk.cell 1
  have c2 : w.cell? ⟨bk, 2, none⟩ = some (.int .i64 ru.lo) := h.rk.cell 2
  have c3 : w.cell? ⟨bk, 3, none⟩ = some (.int .i64 ru.hi) := h.rk.cell 3
  have c4 : w.cell? ⟨bk, 4, none⟩ = some (.int .i64 ru.t) := h.rk.cell 4
  have c5 : w.cell? ⟨bk, 5, none⟩ = some (.int .i64 ru.l) := h.rk.cell 5
  have lc := h.rc.lt
  have lk := h.rk.lt
  have ne := h.ne
  have ne' : ¬ bc = bk := fun q => ne q.symm
  have HK : Hid (KAt bk bc w (ru, 0)) := h
  clear h
  have b0 : ∀ o : Obj, Below w.heap.size w (w.alloc o) := fun o => (Below.refl _ _).alloc (Nat.le_refl _) o
  go_enter Try.func51, Try.ntmps51
  go_wp2_with (first | (go_at_call 39; refine (merge_any ru x.ru _).mono ?_; rintro e w1 ⟨rfl, hb1⟩; have hbw : Below w.heap.size w w1 := nextB (b0 _) (Nat.le_refl _) hb1; have K1 : Hid (KAt bk bc w1 (ru, 0)) := HK.out.below hbw; have d0 := fun j => K1.out.rk.cell j; have df := fun j => K1.out.rk.frozen j; have e0 := fun j => K1.out.rc.cell j; have ef := fun j => K1.out.rc.frozen j; simp only [ruV] at d0; clear ce c0 c1 c2 c3 c4 c5 hb1))
  go_end0
  have m1 : bk ∈ [bk, bc] := by simp
  have m2 : bc ∈ [bk, bc] := by simp
  exact ⟨rfl, K1.out.set (mrg ru x.ru).1 (mrg ru x.ru).2, (((((((Kept.of_below hbw).set (.inl m1) _).set (.inl m1) _).set (.inl m1) _).set (.inl m1) _).set (.inl m1) _).set (.inl m1) _).set (.inl m2) _⟩

theorem visit_any (x : En) (bk bc : Nat) (s : Ru × Int) (w : World) (h : KAt bk bc w s) :
    Calls Try.prog 51 #[.agg #[.int .i64 x.key, .int .i64 x.c, .int .i64 x.s, .int .i64 x.lo, .int .i64 x.hi, .int .i64 x.t, .int .i64 x.l], .pointer (some ⟨bc, 0, none⟩), .pointer (some ⟨bk, 0, none⟩)] w
      fun e w' => e = .returned (.tuple #[]) ∧ KAt bk bc w' (stepK s x) ∧ Kept [bk, bc] w w' := by
  unfold stepK
  by_cases he : s.2 = 0
  · rw [if_pos he]
    obtain ⟨ru, e⟩ := s
    simp only at he
    subst he
    exact visit_yes x bk bc ru w h
  · rw [if_neg he]
    exact visit_no x bk bc s w h he

end Go.Proofs.Ytndojgeodmddoab

/- The document's 'height' of a tree: the loop over a node's kids. -/
import Derived.Test.YtlojfgdpmaigmacP05
import Derived.Test.YtlojfgdpmaigmacP04
import Derived.Shelf.Slices.SearchI
namespace Go.Proofs.Ytlojfgdpmaigmac
open Go.RowKit Plain

end Go.Proofs.Ytlojfgdpmaigmac

/- The document's 'height' of a tree: nodes that are no leaves. -/
namespace Go.Proofs.Ytlojfgdpmaigmac
open Go.RowKit Plain

end Go.Proofs.Ytlojfgdpmaigmac

/- The document's 'height' of a tree, walked. -/
namespace Go.Proofs.Ytlojfgdpmaigmac
open Go.RowKit Plain

end Go.Proofs.Ytlojfgdpmaigmac

/- The document's answer to Check of package tree. -/
namespace Go.Proofs.Ytlojfgdpmaigmac
open Go.RowKit Plain

theorem infoI : (Try.prog.info? 3).map (fun i => (i.zero, i.size, i.bytes)) = some (some (.int .i64 0), 1, 8) := by kernel_rfl

theorem seen_start (w : World) (N : Nat) : SeenIs (w.alloc (.cells (madeCells #[.int .i64 0] N) 3)) w.heap.size N [] :=
  (World.rowIs_made w (.int .i64 0) N 3).congr fun i _ => by simp [seenB]

theorem seen_start2 (w : World) (o : Obj) (N : Nat) : SeenIs ((w.alloc o).alloc (.cells (madeCells #[.int .i64 0] N) 3)) (w.heap.size + 1) N [] := by
  have := seen_start (w.alloc o) N
  rwa [show (w.alloc o).heap.size = w.heap.size + 1 by simp] at this

/-- What the loop behind 'height' tells: were all nodes come to? -/
theorem treeC_some {ns : List Nd} {root : Int} {S : St} {l : List Int} (hn : ¬ 2000 < ns.length) (hW : W ns 12 root 0 1099511627776 [] = some (S, l)) (h0 : resH (some (S, l)) ≠ 0) : treeC ns root = if S.length = ns.length then 0 else 7 := by
  unfold treeC
  rw [if_neg hn, hW]
  have hok : okL 0 l = true := by
    obtain ⟨hl, he⟩ := resH_some rfl h0
    unfold okL
    rw [List.all_eq_true]
    intro x hx
    cases l with
    | nil => exact absurd rfl hl
    | cons d r =>
      have e1 := he x hx
      have e2 := he d List.mem_cons_self
      simp
      omega
  simp [hok]

theorem treeC_none {ns : List Nd} {root : Int} (hn : ¬ 2000 < ns.length) (h0 : resH (W ns 12 root 0 1099511627776 []) = 0) : treeC ns root = 7 := by
  unfold treeC
  rw [if_neg hn]
  cases hW : W ns 12 root 0 1099511627776 [] with
  | none => rfl
  | some p =>
    obtain ⟨S, l⟩ := p
    rw [hW] at h0
    have hd := W_ds 12 (Nat.le_refl _) _ _ _ _ _ _ hW
    obtain ⟨x, hx, y, hy, hxy⟩ := resH_zero h0 hd.1 hd.2
    have hno : ¬ okL 0 l = true := by
      intro hok
      unfold okL at hok
      rw [List.all_eq_true] at hok
      have a := hok x hx
      have b := hok y hy
      simp at a b
      omega
    simp [hno]

end Go.Proofs.Ytlojfgdpmaigmac

/- The document's AllOf. -/
namespace Go.Proofs.Ytlojfgdpmaigmac
open Go.RowKit Plain

end Go.Proofs.Ytlojfgdpmaigmac

/- The document's GotOf: what a tree knows of a key. -/
namespace Go.Proofs.Ytlojfgdpmaigmac
open Go.RowKit Plain

/-- What is known of a key, out of all that the nodes hold. -/
def gotA (ns : List Nd) (key : Int) : Ru × Int :=
  match allR key (key + 1) (ns.flatMap Nd.lst) with
  | none => (zro, 1)
  | some [] => (zro, 0)
  | some (y :: _) => (y.ru, 0)
def gotP (ns : List Nd) (root key : Int) : Ru × Int :=
  if treeC ns root ≠ 0 then (zro, treeC ns root) else if inB key 0 1099511627775 = true then gotA ns key else (zro, 2)

theorem two_cells {w w1 : World} {a : Obj} {c : Array Value} {t : TypeId} (hb : Below ((w.alloc a).alloc (.cells c t)).heap.size ((w.alloc a).alloc (.cells c t)) w1) :
    (∀ j, w1.cell? ⟨w.heap.size + 1, j, none⟩ = c[j]?) ∧ (∀ j, w1.frozen? ⟨w.heap.size + 1, j, none⟩ = false) ∧ w.heap.size + 1 < w1.heap.size :=
  ⟨fun j => (hb.cell (p := ⟨w.heap.size + 1, j, none⟩) (by simp)).trans (by simp), fun j => (hb.frozen (p := ⟨w.heap.size + 1, j, none⟩) (by simp)).trans (by simp), (sz2 hb).2⟩

theorem rest_below {w w1 w2 : World} {a b : Obj} (hb1 : Below ((w.alloc a).alloc b).heap.size ((w.alloc a).alloc b) w1) (hb2 : Below w1.heap.size w1 w2) : Below w.heap.size w w2 := nextB (nextB (two a b) (Nat.le_refl _) hb1) (Nat.le_refl _) hb2

end Go.Proofs.Ytlojfgdpmaigmac

/- What is known of a key: the visitor of tree.knownAt. -/
namespace Go.Proofs.Ytlojfgdpmaigmac
open Go.RowKit Plain

def ruV (r : Ru) : List Value := [.int .i64 r.c, .int .i64 r.s, .int .i64 r.lo, .int .i64 r.hi, .int .i64 r.t, .int .i64 r.l]

/-- What is known so far, and the code so far, in their two blocks. -/
structure KAt (bk bc : Nat) (w : World) (s : Ru × Int) : Prop where
  ne : bk ≠ bc
  rk : RowL w bk 31 (ruV s.1)
  rc : RowL w bc 32 [.int .i64 s.2]

def stepK (s : Ru × Int) (x : En) : Ru × Int := if s.2 = 0 then mrg s.1 x.ru else s

theorem KAt.below {bk bc : Nat} {w w' : World} {s : Ru × Int} (h : KAt bk bc w s) (hb : Below w.heap.size w w') : KAt bk bc w' s :=
  ⟨h.ne, h.rk.below hb h.rk.lt, h.rc.below hb h.rc.lt⟩

theorem KAt.set {bk bc : Nat} {w : World} {s : Ru × Int} (h : KAt bk bc w s) (r : Ru) (e : Int) :
    KAt bk bc (((((((w.setCell ⟨bk, 0, none⟩ (.int .i64 r.c)).setCell ⟨bk, 1, none⟩ (.int .i64 r.s)).setCell ⟨bk, 2, none⟩ (.int .i64 r.lo)).setCell ⟨bk, 3, none⟩ (.int .i64 r.hi)).setCell ⟨bk, 4, none⟩ (.int .i64 r.t)).setCell ⟨bk, 5, none⟩ (.int .i64 r.l)).setCell ⟨bc, 0, none⟩ (.int .i64 e)) (r, e) := by
  have far : ∀ (W : World) (j : Nat) (v : Value), (W.setCell ⟨bk, j, none⟩ v).heap[bc]? = W.heap[bc]? := fun W j v => Below.heap_setCell _ _ _ _ (fun q => h.ne q.symm)
  refine ⟨h.ne, ?_, ?_⟩
  · exact ((((((h.rk.set 0 _).set 1 _).set 2 _).set 3 _).set 4 _).set 5 _).of_block (Below.heap_setCell _ _ _ _ h.ne)
  · exact ((((((h.rc.of_block (far _ _ _)).of_block (far _ _ _)).of_block (far _ _ _)).of_block (far _ _ _)).of_block (far _ _ _)).of_block (far _ _ _)).set 0 (.int .i64 e)

set_option maxRecDepth 20000 in
set_option maxHeartbeats 4000000 in
theorem visit_no (x : En) (bk bc : Nat) (s : Ru × Int) (w : World) (h : KAt bk bc w s) (he : s.2 ≠ 0) :
    Calls Try.prog 35 #[.agg #[.int .i64 x.key, .int .i64 x.c, .int .i64 x.s, .int .i64 x.lo, .int .i64 x.hi, .int .i64 x.t, .int .i64 x.l], .pointer (some ⟨bc, 0, none⟩), .pointer (some ⟨bk, 0, none⟩)] w
      fun e w' => e = .returned (.tuple #[]) ∧ KAt bk bc w' s ∧ Kept [bk, bc] w w' := by
  have ce : w.cell? ⟨bc, 0, none⟩ = some (.int .i64 s.2) := h.rc.cell 0
  have lc := h.rc.lt
  have b0 : ∀ o : Obj, Below w.heap.size w (w.alloc o) := fun o => (Below.refl _ _).alloc (Nat.le_refl _) o
  have he' : (s.2 == 0) = false := by simpa using he
  go_enter Try.func35, Try.ntmps35
  go_wp2_with fail
  go_end0
  exact ⟨rfl, h.below (b0 _), Kept.of_below (b0 _)⟩

set_option maxRecDepth 20000 in
set_option maxHeartbeats 4000000 in
theorem visit_yes (x : En) (bk bc : Nat) (ru : Ru) (w : World) (h : KAt bk bc w (ru, 0)) :
    Calls Try.prog 35 #[.agg #[.int .i64 x.key, .int .i64 x.c, .int .i64 x.s, .int .i64 x.lo, .int .i64 x.hi, .int .i64 x.t, .int .i64 x.l], .pointer (some ⟨bc, 0, none⟩), .pointer (some ⟨bk, 0, none⟩)] w
      fun e w' => e = .returned (.tuple #[]) ∧ KAt bk bc w' (mrg ru x.ru) ∧ Kept [bk, bc] w w' := by
  have ce : w.cell? ⟨bc, 0, none⟩ = some (.int .i64 0) := h.rc.cell 0
  have c0 : w.cell? ⟨bk, 0, none⟩ = some (.int .i64 ru.c) := h.rk.cell 0
  have c1 : w.cell? ⟨bk, 1, none⟩ = some (.int .i64 ru.s) := h.rk.cell 1
  have c2 : w.cell? ⟨bk, 2, none⟩ = some (.int .i64 ru.lo) := h.rk.cell 2
  have c3 : w.cell? ⟨bk, 3, none⟩ = some (.int .i64 ru.hi) := h.rk.cell 3
  have c4 : w.cell? ⟨bk, 4, none⟩ = some (.int .i64 ru.t) := h.rk.cell 4
  have c5 : w.cell? ⟨bk, 5, none⟩ = some (.int .i64 ru.l) := h.rk.cell 5
  have lc := h.rc.lt
  have lk := h.rk.lt
  have ne := h.ne
  have ne' : ¬ bc = bk := fun q => ne q.symm
  have HK : Hid (KAt bk bc w (ru, 0)) := h
  clear h
  have b0 : ∀ o : Obj, Below w.heap.size w (w.alloc o) := fun o => (Below.refl _ _).alloc (Nat.le_refl _) o
  go_enter Try.func35, Try.ntmps35
  go_wp2_with (first | (go_at_call 16; refine (merge_any ru x.ru _).mono ?_; rintro e w1 ⟨rfl, hb1⟩; have hbw : Below w.heap.size w w1 := nextB (b0 _) (Nat.le_refl _) hb1; have K1 : Hid (KAt bk bc w1 (ru, 0)) := HK.out.below hbw; have d0 := fun j => K1.out.rk.cell j; have df := fun j => K1.out.rk.frozen j; have e0 := fun j => K1.out.rc.cell j; have ef := fun j => K1.out.rc.frozen j; simp only [ruV] at d0; clear ce c0 c1 c2 c3 c4 c5 hb1))
  go_end0
  have m1 : bk ∈ [bk, bc] := by simp
  have m2 : bc ∈ [bk, bc] := by simp
  exact ⟨rfl, K1.out.set (mrg ru x.ru).1 (mrg ru x.ru).2, (((((((Kept.of_below hbw).set (.inl m1) _).set (.inl m1) _).set (.inl m1) _).set (.inl m1) _).set (.inl m1) _).set (.inl m1) _).set (.inl m2) _⟩

theorem visit_any (x : En) (bk bc : Nat) (s : Ru × Int) (w : World) (h : KAt bk bc w s) :
    Calls Try.prog 35 #[.agg #[.int .i64 x.key, .int .i64 x.c, .int .i64 x.s, .int .i64 x.lo, .int .i64 x.hi, .int .i64 x.t, .int .i64 x.l], .pointer (some ⟨bc, 0, none⟩), .pointer (some ⟨bk, 0, none⟩)] w
      fun e w' => e = .returned (.tuple #[]) ∧ KAt bk bc w' (stepK s x) ∧ Kept [bk, bc] w w' := by
  unfold stepK
  by_cases he : s.2 = 0
  · rw [if_pos he]
    obtain ⟨ru, e⟩ := s
    simp only at he
    subst he
    exact visit_yes x bk bc ru w h
  · rw [if_neg he]
    exact visit_no x bk bc s w h he

end Go.Proofs.Ytlojfgdpmaigmac

/- tree.with: a list with an entry more; tree.canWait, tree.kidOf. -/
namespace Go.Proofs.Ytlojfgdpmaigmac
open Go.RowKit Plain Go.Shelf

def withE (l : List En) (x : En) : List En :=
  if hasK l x.key = true then l.set (lowN l x.key) (mkE ((l.getD (lowN l x.key) default).key) (mrg (l.getD (lowN l x.key) default).ru x.ru).1)
  else l.take (lowN l x.key) ++ x :: l.drop (lowN l x.key)

theorem Moved.from {base n size : Nat} {t : TypeId} {A A' : Option Addr} {C' : Nat} {vs : List Value} {w w1 w' : World} (hb : Below w.heap.size w w1) (h : Moved base t size n A A' C' vs w1 w') : Moved base t size n A A' C' vs w w' := by
  refine ⟨h.own, ⟨h.kept.os.trans hb.os, h.kept.tape.trans hb.tape, h.kept.output.trans hb.output, Nat.le_trans hb.size h.kept.size, fun k hk hx => (h.kept.block k (Nat.lt_of_lt_of_le hk hb.size) hx).trans (hb.block k hk)⟩, ?_⟩
  rcases h.lies with e | ⟨k, e, hk⟩
  · exact .inl e
  · exact .inr ⟨k, e, Nat.le_trans hb.size hk⟩

set_option maxRecDepth 20000 in
set_option maxHeartbeats 4000000 in
theorem with_new (base : Nat) (A : Option Addr) (C : Nat) (xs : List En) (x : En) (w : World) (ho : w.ownsRow base 53 7 (.slice A xs.length C) xs.length (flatE xs)) (hp : xs.Pairwise (fun x y => x.key < y.key)) (hB : base ≤ w.heap.size) (hz : (xs.length + 1) * 56 ≤ 140737488351232) (hk : hasK xs x.key = false) :
    Calls Try.prog 43 #[.slice A xs.length C, .agg #[.int .i64 x.key, .int .i64 x.c, .int .i64 x.s, .int .i64 x.lo, .int .i64 x.hi, .int .i64 x.t, .int .i64 x.l]] w
      fun e w' => ∃ A' C', e = .returned (.slice A' (xs.length + 1) C') ∧ Moved base 53 7 (xs.length + 1) A A' C' (flatE (xs.take (lowN xs x.key) ++ x :: xs.drop (lowN xs x.key))) w w' := by
  obtain ⟨_, _, hA, hAC, hlC, _, hrow⟩ := own_row ho
  cases hA
  have hb0 : ∀ o : Obj, Below w.heap.size w (w.alloc o) := fun o => (Below.refl _ _).alloc (Nat.le_refl _) o
  have hfind := fun W (h : RowAt W.heap.size W A (flatE xs)) => find_any A C xs x.key W h (by omega) hp
  rw [hk] at hfind
  have hle := lowN_le xs x.key
  have hins := fun W vb (h1 : W.ownsRow base 53 7 (.slice A xs.length C) xs.length (flatE xs)) (h2 : RowL W vb 53 x.vals) (h3 : vb ∉ obk A) (h4 : base ≤ W.heap.size) => insertE_any base A C vb 1 xs (lowN xs x.key) x W h1 hle h2 h3 h4 hz
  have hob : ∀ k ∈ obk A, k < w.heap.size := by
    intro k hk
    rcases ho.2 with ⟨hn, _⟩ | ⟨g, cap, cur, hn, _, hg, _⟩
    · simp only [Value.slice.injEq] at hn
      obtain ⟨rfl, -, -⟩ := hn
      simp [obk] at hk
    · simp only [Value.slice.injEq] at hn
      obtain ⟨rfl, -, -⟩ := hn
      obtain rfl : k = g := by simpa [obk] using hk
      exact (Array.getElem?_eq_some_iff.1 hg).1
  generalize lowN xs x.key = i at hfind hins hle ⊢
  have HI := hideC hins
  have HF := hideC hfind
  have HO := hideC ho
  have HOB := hideC hob
  clear hins hfind ho hob hp
  go_enter Try.func43, Try.ntmps43
  go_wp2_with (first
    | (go_at_call 59; refine (HF.out _ (hrow.up (hb0 _))).mono ?_; rintro e w1 ⟨rfl, hb1⟩; have hbw : Below w.heap.size w w1 := nextB (hb0 _) (Nat.le_refl _) hb1; have bx := fun j => (hb1.cell (p := ⟨w.heap.size, j, none⟩) (by simp)); simp at bx; have hs1 : w.heap.size < w1.heap.size := by have := hb1.size; simp at this; omega)
    | (go_at_call 60; refine (HI.out _ w1.heap.size (own_next HO.out (hbw.alloc (by omega) _)) (rowL_alloc w1 x.vals _) (fun e => by have := HOB.out _ e; omega) (by simp; omega)).mono ?_; rintro e w2 ⟨A2, C2, rfl, hm2⟩))
  go_ret
  exact ⟨_, _, rfl, hm2.from (hbw.alloc (by omega) _)⟩

theorem set_en (A B : List En) (y : En) (r : Ru) (a : Nat) (ha : A.length * 7 = a) :
    ((((((flatE (A ++ y :: B)).set (a + 1) (.int .i64 r.c)).set (a + 2) (.int .i64 r.s)).set (a + 3) (.int .i64 r.lo)).set (a + 4) (.int .i64 r.hi)).set (a + 5) (.int .i64 r.t)).set (a + 6) (.int .i64 r.l) = flatE (A ++ mkE y.key r :: B) := by
  have h : (flatE A).length = a := by rw [flatE_length]; exact ha
  rw [flatE_append, flatE_append, flatE, flatE]
  rw [List.set_append_right _ _ (by omega), List.set_append_right _ _ (by omega), List.set_append_right _ _ (by omega), List.set_append_right _ _ (by omega), List.set_append_right _ _ (by omega), List.set_append_right _ _ (by omega), h]
  simp only [Nat.add_sub_cancel_left]
  rfl

theorem set_enAt (xs : List En) (i : Nat) (y : En) (r : Ru) (hi : i < xs.length) (hy : xs[i] = y) :
    ((((((flatE xs).set (i * 7 + 1) (.int .i64 r.c)).set (i * 7 + 2) (.int .i64 r.s)).set (i * 7 + 3) (.int .i64 r.lo)).set (i * 7 + 4) (.int .i64 r.hi)).set (i * 7 + 5) (.int .i64 r.t)).set (i * 7 + 6) (.int .i64 r.l) = flatE (xs.set i (mkE y.key r)) := by
  have e1 : xs = xs.take i ++ y :: xs.drop (i + 1) := by rw [← hy, List.getElem_cons_drop, List.take_append_drop]
  have e2 : xs.set i (mkE y.key r) = xs.take i ++ mkE y.key r :: xs.drop (i + 1) := by rw [List.set_eq_take_append_cons_drop, if_pos hi]
  rw [e2]
  conv => lhs; rw [e1]
  exact set_en _ _ y r _ (by rw [List.length_take]; omega)

theorem moved_set {base g C i : Nat} {xs : List En} {y : En} {r : Ru} {w w2 : World} (ho : w.ownsRow base 53 7 (.slice (some ⟨g, 0, none⟩) xs.length C) xs.length (flatE xs)) (hb : Below w.heap.size w w2) (hi : i < xs.length) (hy : xs[i] = y) :
    Moved base 53 7 xs.length (some ⟨g, 0, none⟩) (some ⟨g, 0, none⟩) C (flatE (xs.set i (mkE y.key r))) w ((((((w2.setCell ⟨g, i * 7 + 1, none⟩ (.int .i64 r.c)).setCell ⟨g, i * 7 + 2, none⟩ (.int .i64 r.s)).setCell ⟨g, i * 7 + 3, none⟩ (.int .i64 r.lo)).setCell ⟨g, i * 7 + 4, none⟩ (.int .i64 r.hi)).setCell ⟨g, i * 7 + 5, none⟩ (.int .i64 r.t)).setCell ⟨g, i * 7 + 6, none⟩ (.int .i64 r.l)) := by
  have hg : g ∈ obk (some ⟨g, 0, none⟩) := by simp [obk]
  refine ⟨?_, ((((((Kept.of_below hb).set (.inl hg) _).set (.inl hg) _).set (.inl hg) _).set (.inl hg) _).set (.inl hg) _).set (.inl hg) _, .inl rfl⟩
  rw [← set_enAt xs i y r hi hy]
  exact own_set (own_set (own_set (own_set (own_set (own_set (own_next ho hb) _ _) _ _) _ _) _ _) _ _) _ _

set_option maxRecDepth 20000 in
set_option maxHeartbeats 4000000 in
theorem with_old (base g C : Nat) (xs : List En) (x y : En) (i : Nat) (r : Ru) (w : World) (ho : w.ownsRow base 53 7 (.slice (some ⟨g, 0, none⟩) xs.length C) xs.length (flatE xs)) (hp : xs.Pairwise (fun x y => x.key < y.key)) (hz : (xs.length + 1) * 56 ≤ 140737488351232) (hk : hasK xs x.key = true) (hi : lowN xs x.key = i) (hil : i < xs.length) (hy : xs[i] = y) (hr : (mrg y.ru x.ru).1 = r) :
    Calls Try.prog 43 #[.slice (some ⟨g, 0, none⟩) xs.length C, .agg #[.int .i64 x.key, .int .i64 x.c, .int .i64 x.s, .int .i64 x.lo, .int .i64 x.hi, .int .i64 x.t, .int .i64 x.l]] w
      fun e w' => e = .returned (.slice (some ⟨g, 0, none⟩) xs.length C) ∧ Moved base 53 7 xs.length (some ⟨g, 0, none⟩) (some ⟨g, 0, none⟩) C (flatE (xs.set i (mkE y.key r))) w w' := by
  obtain ⟨_, _, hA, hAC, hlC, _, hrow⟩ := own_row ho
  cases hA
  have hb0 : ∀ o : Obj, Below w.heap.size w (w.alloc o) := fun o => (Below.refl _ _).alloc (Nat.le_refl _) o
  have hfind := fun W (h : RowAt W.heap.size W (some ⟨g, 0, none⟩) (flatE xs)) => find_any (some ⟨g, 0, none⟩) C xs x.key W h (by omega) hp
  rw [hk, hi] at hfind
  have hmrg := fun W => merge_any y.ru x.ru W
  rw [hr] at hmrg
  generalize (mrg y.ru x.ru).2 = e2 at hmrg
  have hglt : g < w.heap.size := (ho.lt g rfl).2
  have HF := hideC hfind
  have HO := hideC ho
  have HMG := hideC hmrg
  have i1 : (i : Int) < (xs.length : Int) := by omega
  have i0 : (0 : Int) ≤ (i : Int) := by omega
  have hcell : ∀ (j : Nat) (u : Value), j < 7 → y.vals[j]? = some u → w.cell? ⟨g, i * 7 + j, none⟩ = some u := fun j u hj hu => by
    rw [ho.cellAt _ (by omega), flatE_get xs i j hil hj, hy]; exact hu
  have c1 := hcell 1 _ (by decide) rfl
  have c2 := hcell 2 _ (by decide) rfl
  have c3 := hcell 3 _ (by decide) rfl
  have c4 := hcell 4 _ (by decide) rfl
  have c5 := hcell 5 _ (by decide) rfl
  have c6 := hcell 6 _ (by decide) rfl
  have HY : Hid (xs[i] = y) := hy
  clear hfind ho hmrg hp hk hi hy hr hcell
  go_enter Try.func43, Try.ntmps43
  go_wp2_with (first
    | (go_at_call 59; refine (HF.out _ (hrow.up (hb0 _))).mono ?_; rintro e w1 ⟨rfl, hb1⟩; have hbw : Below w.heap.size w w1 := nextB (hb0 _) (Nat.le_refl _) hb1; have bx := fun j => (hb1.cell (p := ⟨w.heap.size, j, none⟩) (by simp)); simp at bx; have hs1 : w.heap.size < w1.heap.size := by have := hb1.size; simp at this; omega))
  have k1 := (hbw.cell (p := ⟨g, i * 7 + 1, none⟩) hglt).trans c1
  have k2 := (hbw.cell (p := ⟨g, i * 7 + 2, none⟩) hglt).trans c2
  have k3 := (hbw.cell (p := ⟨g, i * 7 + 3, none⟩) hglt).trans c3
  have k4 := (hbw.cell (p := ⟨g, i * 7 + 4, none⟩) hglt).trans c4
  have k5 := (hbw.cell (p := ⟨g, i * 7 + 5, none⟩) hglt).trans c5
  have k6 := (hbw.cell (p := ⟨g, i * 7 + 6, none⟩) hglt).trans c6
  have hg1 : g < w1.heap.size := by omega
  clear c1 c2 c3 c4 c5 c6
  go_region_with (go_at_call 16; refine (HMG.out _).mono ?_; rintro e w2 ⟨rfl, hb2⟩; have HW2 : Hid (Below w.heap.size w w2) := hideC (hbw.drew.trans (hb2.mono (by simp; omega))); have g1 := (hb2.cell (p := ⟨g, i * 7 + 1, none⟩) (by simpa using hg1)).trans k1; have g2 := (hb2.cell (p := ⟨g, i * 7 + 2, none⟩) (by simpa using hg1)).trans k2; have g3 := (hb2.cell (p := ⟨g, i * 7 + 3, none⟩) (by simpa using hg1)).trans k3; have g4 := (hb2.cell (p := ⟨g, i * 7 + 4, none⟩) (by simpa using hg1)).trans k4; have g5 := (hb2.cell (p := ⟨g, i * 7 + 5, none⟩) (by simpa using hg1)).trans k5; have g6 := (hb2.cell (p := ⟨g, i * 7 + 6, none⟩) (by simpa using hg1)).trans k6; have gf := (own_next HO.out HW2.out).frozenAt; clear hb2)
  all_goals
    go_wp2
    go_ret
    exact ⟨rfl, moved_set HO.out HW2.out hil HY.out⟩

theorem hasK_low {xs : List En} {k : Int} (hp : xs.Pairwise (fun x y => x.key < y.key)) (h : hasK xs k = true) : ∃ h : lowN xs k < xs.length, xs[lowN xs k].key = k := by
  unfold hasK at h
  rw [List.any_eq_true] at h
  obtain ⟨x, hx, hk⟩ := h
  obtain ⟨j, hj, rfl⟩ := List.getElem_of_mem hx
  have hk' : xs[j].key = k := by simpa using hk
  have e : lowN xs k = j := lowN_is (Nat.le_of_lt hj) (fun a ha haj => by
    have := List.pairwise_iff_getElem.1 hp a j ha hj haj; omega) (fun a ha haj => by
    by_cases q : a = j
    · subst q; omega
    · have := List.pairwise_iff_getElem.1 hp j a hj ha (by omega); omega)
  exact ⟨by omega, by simp only [e]; exact hk'⟩

/-- A list with an entry more: in plain terms withE. -/
theorem with_any (base : Nat) (A : Option Addr) (C : Nat) (xs : List En) (x : En) (w : World) (ho : w.ownsRow base 53 7 (.slice A xs.length C) xs.length (flatE xs)) (hp : xs.Pairwise (fun x y => x.key < y.key)) (hB : base ≤ w.heap.size) (hz : (xs.length + 1) * 56 ≤ 140737488351232) :
    Calls Try.prog 43 #[.slice A xs.length C, .agg #[.int .i64 x.key, .int .i64 x.c, .int .i64 x.s, .int .i64 x.lo, .int .i64 x.hi, .int .i64 x.t, .int .i64 x.l]] w
      fun e w' => ∃ A' C', e = .returned (.slice A' (withE xs x).length C') ∧ Moved base 53 7 (withE xs x).length A A' C' (flatE (withE xs x)) w w' := by
  cases hk : hasK xs x.key with
  | true =>
    obtain ⟨hl, hkey⟩ := hasK_low hp hk
    have e : withE xs x = xs.set (lowN xs x.key) (mkE (xs[lowN xs x.key]).key (mrg (xs[lowN xs x.key]).ru x.ru).1) := by
      unfold withE
      rw [if_pos hk, List.getD_eq_getElem?_getD, List.getElem?_eq_getElem hl]
      rfl
    rw [e, List.length_set]
    rcases ho.2 with ⟨hn, h0⟩ | ⟨g, cap, cur, hn, _⟩
    · omega
    · simp only [Value.slice.injEq] at hn
      obtain ⟨rfl, -, rfl⟩ := hn
      refine (with_old base g C xs x _ _ _ w ho hp hz hk rfl hl rfl rfl).mono ?_
      rintro e w' ⟨rfl, hm⟩
      exact ⟨_, _, rfl, hm⟩
  | false =>
    have e : withE xs x = xs.take (lowN xs x.key) ++ x :: xs.drop (lowN xs x.key) := by
      unfold withE
      rw [if_neg (by rw [hk]; decide)]
    have hl := lowN_le xs x.key
    have el : (withE xs x).length = xs.length + 1 := by rw [e]; simp; omega
    rw [el, e]
    exact with_new base A C xs x w ho hp hB hz hk

set_option maxRecDepth 20000 in
theorem canWait_any (A : Option Addr) (C : Nat) (xs : List En) (k : Int) (w : World) (h : RowAt w.heap.size w A (flatE xs)) (hz : xs.length * 56 ≤ 140737488351232) (hp : xs.Pairwise (fun x y => x.key < y.key)) :
    Calls Try.prog 44 #[.slice A xs.length C, .int .i64 k] w fun e w' => e = .returned (.bool (hasK xs k || decide (xs.length < 8))) ∧ Below w.heap.size w w' := by
  have hcon := find_any A C xs k w h hz hp
  generalize lowN xs k = r at hcon
  cases hk : hasK xs k with
  | true =>
    rw [hk] at hcon
    go_enter Try.func44, Try.ntmps44
    go_wp2_with (go_at_call 59; refine hcon.mono ?_; rintro e w1 ⟨rfl, hb1⟩)
    go_ret
    exact ⟨rfl, hb1⟩
  | false =>
    rw [hk] at hcon
    by_cases hl : xs.length < 8
    · have hl' : (xs.length : Int) < 8 := by omega
      go_enter Try.func44, Try.ntmps44
      go_wp2_with (go_at_call 59; refine hcon.mono ?_; rintro e w1 ⟨rfl, hb1⟩)
      go_ret
      exact ⟨by simp [hl], hb1⟩
    · have hl' : ¬ (xs.length : Int) < 8 := by omega
      go_enter Try.func44, Try.ntmps44
      go_wp2_with (go_at_call 59; refine hcon.mono ?_; rintro e w1 ⟨rfl, hb1⟩)
      go_ret
      exact ⟨by simp [hl]; omega, hb1⟩

end Go.Proofs.Ytlojfgdpmaigmac

/- tree.kidOf, tree.greatest. -/
namespace Go.Proofs.Ytlojfgdpmaigmac
open Go.RowKit Plain Go.Shelf

theorem drewNB {B : Nat} {w w' : World} (h : Below B w w') (n : Nat) : Below B w (w'.drewN n) := ⟨h.os, h.tape, h.output, h.size, h.block⟩

/-- Which of the kids has a key. -/
def kidI (keys : List Int) (k : Int) : Nat := keys.countP (· < k) + if keys.contains k = true then 1 else 0

set_option maxRecDepth 20000 in
set_option maxHeartbeats 1000000 in
theorem kidOf_any (p : PN) (k : Int) (w : World) (hk : RowAt w.heap.size w p.kA (ints p.keys)) (hne : p.keys ≠ []) (hz : p.keys.length * 8 ≤ 140737488351232) (hs : p.keys.Pairwise (· ≤ ·)) :
    Calls Try.prog 46 #[.agg #[.bool p.leaf, .slice p.eA p.ents.length p.eC, .slice p.kA p.keys.length p.kC, .slice p.dA p.kids.length p.dC, .slice p.bA p.buf.length p.bC], .int .i64 k] w
      fun e w' => e = .returned (.int .i64 (kidI p.keys k : Int)) ∧ Below w.heap.size w w' := by
  obtain ⟨b, o, hA, hlt, hc⟩ : ∃ b o, p.kA = some ⟨b, o, none⟩ ∧ b < w.heap.size ∧ ∀ j u, (ints p.keys)[j]? = some u → w.cell? ⟨b, o + j, none⟩ = some u := by
    rcases hk with h | h
    · exact absurd (by simpa [ints] using h) hne
    · exact h
  have hb0 : ∀ ob : Obj, Below w.heap.size w (w.alloc ob) := fun ob => (Below.refl _ _).alloc (Nat.le_refl _) ob
  have hcon := fun W (hW : Below w.heap.size w W) => Any.slices_BinarySearch_int Try.searchI b o p.keys.length p.kC p.keys k W (Nat.le_refl _) (by omega) (fun j hj => by
    rw [hW.cell (p := ⟨b, o + j, none⟩) hlt]
    exact hc j _ (by rw [ints, List.getElem?_map, List.getElem?_eq_getElem hj, List.getD_eq_getElem?_getD, List.getElem?_eq_getElem hj]; rfl)) (by rw [List.take_length]; exact hs)
  rw [List.take_length] at hcon
  have hle : p.keys.countP (· < k) ≤ p.keys.length := List.countP_le_length
  rw [hA]
  unfold kidI
  generalize p.keys.countP (· < k) = r at hcon hle ⊢
  cases hq : p.keys.contains k with
  | true =>
    rw [hq] at hcon
    have HC := hideC hcon
    clear hcon hq
    have e1 : ((r + if true = true then 1 else 0 : Nat) : Int) = (r : Int) + 1 := by simp
    rw [e1]
    go_enter Try.func46, Try.ntmps46
    go_wp2_with (go_at_call 63; refine (HC.out _ (hb0 _)).mono ?_; rintro e w1 ⟨rfl, q, rfl⟩)
    go_ret
    exact ⟨rfl, drewNB (hb0 _) _⟩
  | false =>
    rw [hq] at hcon
    have HC := hideC hcon
    clear hcon hq
    have e1 : ((r + if false = true then 1 else 0 : Nat) : Int) = (r : Int) := by simp
    rw [e1]
    go_enter Try.func46, Try.ntmps46
    go_wp2_with (go_at_call 63; refine (HC.out _ (hb0 _)).mono ?_; rintro e w1 ⟨rfl, q, rfl⟩)
    go_ret
    exact ⟨rfl, drewNB (hb0 _) _⟩

set_option maxRecDepth 20000 in
set_option maxHeartbeats 4000000 in
theorem greatest_any (a0 a1 a2 a3 : Int) (w : World) :
    Calls Try.prog 62 #[.agg #[.int .i64 a0, .int .i64 a1, .int .i64 a2, .int .i64 a3]] w
      fun e w' => ∃ m : Nat, m < 4 ∧ e = .returned (.int .i64 (m : Int)) ∧ Below w.heap.size w w' := by
  have i0 : ∀ (x y z u : Value) (w : World), (Instr.index 95 (.agg #[x, y, z, u]) (.int .i64 0)).run Try.prog w = .ok x w := fun _ _ _ _ _ => by kernel_rfl
  have i1 : ∀ (x y z u : Value) (w : World), (Instr.index 95 (.agg #[x, y, z, u]) (.int .i64 1)).run Try.prog w = .ok y w := fun _ _ _ _ _ => by kernel_rfl
  have i2 : ∀ (x y z u : Value) (w : World), (Instr.index 95 (.agg #[x, y, z, u]) (.int .i64 2)).run Try.prog w = .ok z w := fun _ _ _ _ _ => by kernel_rfl
  have i3 : ∀ (x y z u : Value) (w : World), (Instr.index 95 (.agg #[x, y, z, u]) (.int .i64 3)).run Try.prog w = .ok u w := fun _ _ _ _ _ => by kernel_rfl
  go_enter Try.func62, Try.ntmps62
  go_wp2_with fail
  generalize hW : w.alloc (.cells #[.int .i64 a0, .int .i64 a1, .int .i64 a2, .int .i64 a3] 95) = W
  have hbW : Below w.heap.size w W := by rw [← hW]; exact (Below.refl _ _).alloc (Nat.le_refl _) _
  have hlW : w.heap.size < W.heap.size := by rw [← hW]; simp
  have hat : ∀ a : Nat, a < 4 → ∃ v : Int, W.cell? ⟨w.heap.size, a, none⟩ = some (.int .i64 v) := by
    intro a ha
    rw [← hW]
    rcases (show a = 0 ∨ a = 1 ∨ a = 2 ∨ a = 3 by omega) with rfl | rfl | rfl | rfl
    · exact ⟨a0, by simp⟩
    · exact ⟨a1, by simp⟩
    · exact ⟨a2, by simp⟩
    · exact ⟨a3, by simp⟩
  have hix : ∀ i : Nat, i < 4 → ∃ v : Int, (Instr.index 95 (.agg #[.int .i64 a0, .int .i64 a1, .int .i64 a2, .int .i64 a3]) (.int .i64 (i : Int))).run Try.prog W = .ok (.int .i64 v) W := by
    intro i hi
    rcases (show i = 0 ∨ i = 1 ∨ i = 2 ∨ i = 3 by omega) with rfl | rfl | rfl | rfl
    · exact ⟨a0, i0 _ _ _ _ _⟩
    · exact ⟨a1, i1 _ _ _ _ _⟩
    · exact ⟨a2, i2 _ _ _ _ _⟩
    · exact ⟨a3, i3 _ _ _ _ _⟩
  clear i0 i1 i2 i3 hW
  have HAT := hideC hat
  have HIX := hideC hix
  clear hat hix
  go_loopw [3, 7] (fun va vi wr => ∃ a i : Nat, a < 4 ∧ i ≤ 4 ∧ va = .int .i64 a ∧ vi = .int .i64 i ∧ wr = W) (fun _ vi _ => 4 - (intOf vi).toNat)
  case atStart => exact ⟨0, 0, by decide, by decide, rfl, rfl, rfl⟩
  case round =>
    obtain ⟨a, i, ha, hi, rfl, rfl, hw⟩ := hrel
    subst hw
    by_cases hi4 : i < 4
    · obtain ⟨va, ca⟩ := HAT.out a ha
      obtain ⟨vi, ci⟩ := HIX.out i hi4
      have hia : (a : Int) < 4 := by omega
      have hia0 : (0 : Int) ≤ (a : Int) := by omega
      have hii : (i : Int) < 4 := by omega
      by_cases hv : va < vi
      · go_wp2_with fail
        go_roundw
        case rel => exact ⟨i, i + 1, hi4, by omega, rfl, by go_num, trivial⟩
        case measure => simp [intOf]; omega
      · go_wp2_with fail
        go_roundw
        case rel => exact ⟨a, i + 1, ha, by omega, rfl, by go_num, trivial⟩
        case measure => simp [intOf]; omega
    · have hii : ¬ (i : Int) < 4 := by omega
      go_wp2_with fail
      go_ret
      exact ⟨a, ha, rfl, hbW⟩

end Go.Proofs.Ytlojfgdpmaigmac

/- A walk that calls a visitor: what the visitor may turn, and what it leaves. -/
namespace Go.Proofs.Ytlojfgdpmaigmac
open Go.RowKit Plain

/-- w' is w with new blocks, and with writes to the blocks that X names alone; no block that was there comes to be named. -/
structure Turned (X : World → Nat → Prop) (w w' : World) : Prop where
  os : w'.os = w.os
  tape : w'.tape = w.tape
  output : w'.output = w.output
  size : w.heap.size ≤ w'.heap.size
  block : ∀ k, k < w.heap.size → ¬ X w k → w'.heap[k]? = w.heap[k]?
  back : ∀ k, k < w.heap.size → X w' k → X w k

section
variable {X : World → Nat → Prop} {w w' w'' : World}
theorem Turned.refl (X : World → Nat → Prop) (w : World) : Turned X w w := ⟨rfl, rfl, rfl, Nat.le_refl _, fun _ _ _ => rfl, fun _ _ h => h⟩
theorem Turned.trans (h : Turned X w w') (k : Turned X w' w'') : Turned X w w'' :=
  ⟨k.os.trans h.os, k.tape.trans h.tape, k.output.trans h.output, Nat.le_trans h.size k.size,
   fun i hi hx => (k.block i (Nat.lt_of_lt_of_le hi h.size) (fun hx' => hx (h.back i hi hx'))).trans (h.block i hi hx),
   fun i hi hx => h.back i hi (k.back i (Nat.lt_of_lt_of_le hi h.size) hx)⟩
theorem Turned.of_below (h : Below w.heap.size w w') (hX : ∀ k, X w' k → X w k) : Turned X w w' :=
  ⟨h.os, h.tape, h.output, h.size, fun k hk _ => h.block k hk, fun k _ hx => hX k hx⟩
theorem Turned.below (h : Turned X w w') {B : Nat} (hB : B ≤ w.heap.size) (hx : ∀ k, X w k → B ≤ k) : Below B w w' :=
  ⟨h.os, h.tape, h.output, h.size, fun k hk => h.block k (by omega) (fun hm => by have := hx k hm; omega)⟩
theorem Turned.far (h : Turned X w w') {B : Nat} (hB : B ≤ w.heap.size) (hx : ∀ k, X w k → B ≤ k) : ∀ k, X w' k → B ≤ k := fun k hk => by
  by_cases hl : k < w.heap.size
  · exact hx k (h.back k hl hk)
  · omega
theorem Turned.row (h : Turned X w w') {b : Nat} {t : TypeId} {vs : List Value} (hr : RowL w b t vs) (hx : ¬ X w b) : RowL w' b t vs := hr.of_block (h.block b hr.lt hx)
end

/-- A visitor: the function's number is F; it holds the state s where I says so. -/
structure Vis {σ : Type} (F : FuncId) (cap : Array Value) (I : World → σ → Prop) (X : World → Nat → Prop) (step : σ → En → σ) : Prop where
  call : ∀ (x : En) (s : σ) (w : World), I w s → Calls Try.prog F (#[.agg #[.int .i64 x.key, .int .i64 x.c, .int .i64 x.s, .int .i64 x.lo, .int .i64 x.hi, .int .i64 x.t, .int .i64 x.l]] ++ cap) w
    fun e w' => e = .returned (.tuple #[]) ∧ I w' (step s x) ∧ Turned X w w'
  stay : ∀ (s : σ) (w w' : World), I w s → Below w.heap.size w w' → I w' s
  same : ∀ (s : σ) (w w' : World), I w s → Below w.heap.size w w' → ∀ k, X w' k → X w k
  lt : ∀ (s : σ) (w : World), I w s → ∀ k, X w k → k < w.heap.size

def XK (bk bc : Nat) : World → Nat → Prop := fun _ k => k = bk ∨ k = bc

theorem visK (bk bc : Nat) : Vis 35 #[.pointer (some ⟨bc, 0, none⟩), .pointer (some ⟨bk, 0, none⟩)] (KAt bk bc) (XK bk bc) stepK where
  call x s w h := (visit_any x bk bc s w h).mono fun e w' ⟨h1, h2, h3⟩ => ⟨h1, h2, h3.os, h3.tape, h3.output, h3.size, fun k hk hx => h3.block k hk (fun hm => hx (by simpa [XK] using hm)), fun _ _ hx => hx⟩
  stay _ _ _ h hb := h.below hb
  same _ _ _ _ _ _ hx := hx
  lt _ w h k hx := by
    rcases hx with rfl | rfl
    · exact h.rk.lt
    · exact h.rc.lt

/-- The nodes that a walk from n on down comes to. -/
def Reach (ns : List Nd) : Nat → Int → Prop
  | 0, _ => False
  | f + 1, n => 0 ≤ n ∧ n < ns.length ∧ (ns.getD n.toNat default).kids.length ≤ (ns.getD n.toNat default).keys.length + 1 ∧ ∀ d ∈ (ns.getD n.toNat default).kids, Reach ns f d

def itK (g : Int → List En) (low high : Int) (kids keys : List Int) (pr : Option Int) (i : Nat) : List En :=
  if skipB low high (if i = 0 then pr else keys[i - 1]?) keys[i]? = true then [] else g (kids.getD i 0)

theorem WlK_range (g : Int → List En) (low high : Int) : ∀ (kids keys : List Int) (pr : Option Int), WlK g low high kids keys pr = (List.range kids.length).flatMap (itK g low high kids keys pr)
  | [], _, _ => by simp [WlK]
  | d :: ds, keys, pr => by
    have ih := WlK_range g low high ds keys.tail keys.head?
    have e : ∀ i, itK g low high (d :: ds) keys pr (i + 1) = itK g low high ds keys.tail keys.head? i := fun i => by
      unfold itK
      cases i with
      | zero => cases keys <;> simp
      | succ j => cases keys <;> simp
    have e0 : itK g low high (d :: ds) keys pr 0 = if skipB low high pr keys.head? = true then [] else g d := by
      show (if skipB low high pr keys[0]? = true then [] else g d) = _
      rw [show keys[0]? = keys.head? by cases keys <;> rfl]
    rw [WlK, ih, List.length_cons, List.range_succ_eq_map, List.flatMap_cons, List.flatMap_map, e0]
    simp only [Nat.succ_eq_add_one, e]

theorem flat_le (f : Nat → List En) {i n : Nat} (h : i ≤ n) : ((List.range i).flatMap f).length ≤ ((List.range n).flatMap f).length := by
  obtain ⟨d, rfl⟩ := Nat.le.dest h
  rw [List.range_add, List.flatMap_append, List.length_append]
  omega

theorem Wk_kid {g : Int → Int → Int → St → Option (St × List Int)} : ∀ (ds keys : List Int) (lo hi : Int) (S : St) (r : St × List Int), Wk g ds keys lo hi S = some r → ∀ d ∈ ds, ∃ lo' hi' S' r', g d lo' hi' S' = some r'
  | [], _, _, _, _, _, _, d, hd => by simp at hd
  | x :: ds, keys, lo, hi, S, r, hr, d, hd => by
    unfold Wk at hr
    split at hr
    · cases hr
    · rename_i S1 l1 h1
      rcases List.mem_cons.1 hd with rfl | hd
      · exact ⟨_, _, _, _, h1⟩
      · split at hr
        · cases hr
        · rename_i S2 l2 h2
          exact Wk_kid ds _ _ _ _ _ h2 d hd

theorem W_reach {ns : List Nd} : ∀ (f : Nat) (n lo hi : Int) (S : St) (r : St × List Int), W ns f n lo hi S = some r → Reach ns f n := by
  intro f
  induction f with
  | zero => intro n lo hi S r h; cases h
  | succ f ih =>
    intro n lo hi S r h
    unfold W at h
    split at h
    · cases h
    · rename_i hc
      refine ⟨by omega, by omega, ?_⟩
      split at h
      · split at h
        · rename_i hl
          simp only [leafB, Bool.and_eq_true, List.isEmpty_iff] at hl
          obtain ⟨⟨⟨⟨⟨h1, h2⟩, h3⟩, _⟩, _⟩, _⟩ := hl
          rw [h1, h2]
          simp
        · cases h
      · split at h
        · rename_i hl
          simp only [innerB, Bool.and_eq_true, List.isEmpty_iff, beq_iff_eq] at hl
          obtain ⟨⟨⟨⟨⟨h1, h2⟩, h3⟩, h4⟩, _⟩, _⟩ := hl
          refine ⟨by omega, fun d hd => ?_⟩
          obtain ⟨_, _, _, _, q⟩ := Wk_kid _ _ _ _ _ _ h d hd
          exact ih _ _ _ _ _ q
        · cases h

theorem treeC_W {ns : List Nd} {root : Int} (h : treeC ns root = 0) : ∃ r, W ns 12 root 0 1099511627776 [] = some r := by
  unfold treeC at h
  split at h
  · omega
  · cases hW : W ns 12 root 0 1099511627776 [] with
    | none => rw [hW] at h; simp at h
    | some p => exact ⟨p, rfl⟩

end Go.Proofs.Ytlojfgdpmaigmac

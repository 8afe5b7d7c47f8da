/- tree.with: a list with an entry more; tree.canWait, tree.kidOf. -/
import Derived.Test.YtlojfgdpmaigmaeGreatDoorP31
import Derived.Test.YtlojfgdpmaigmaeGreatDoorP24
import Derived.Shelf.Slices.SearchI
import Derived.Test.YtlojfgdpmaigmaeGreatDoorP12
import Derived.BigQuiet
namespace Go.Proofs.YtlojfgdpmaigmaeGreatDoor
open Go.RowKit Plain Go.Shelf

def withE (l : List En) (x : En) : List En :=
  if hasK l x.key = true then l.set (lowN l x.key) (mkE ((l.getD (lowN l x.key) default).key) (mrg (l.getD (lowN l x.key) default).ru x.ru).1)
  else l.take (lowN l x.key) ++ x :: l.drop (lowN l x.key)

theorem Moved.from {base n size : Nat} {t : TypeId} {A A' : Option Addr} {C' : Nat} {vs : List Value} {w w1 w' : World} (hb : Below w.heap.size w w1) (h : Moved base t size n A A' C' vs w1 w') : Moved base t size n A A' C' vs w w' := by
  refine ⟨h.own, ⟨h.kept.os.trans hb.os, h.kept.tape.trans hb.tape, h.kept.output.trans hb.output, Nat.le_trans hb.size h.kept.size, fun k hk hx => (h.kept.block k (Nat.lt_of_lt_of_le hk hb.size) hx).trans (hb.block k hk)⟩, ?_⟩
  rcases h.lies with e | ⟨k, e, hk⟩
  · exact .inl e
  · exact .inr ⟨k, e, Nat.le_trans hb.size hk⟩

set_option maxRecDepth 20000 in
set_option maxHeartbeats 4000000 in
theorem with_new (base : Nat) (A : Option Addr) (C : Nat) (xs : List En) (x : En) (w : World) (ho : w.ownsRow base 73 7 (.slice A xs.length C) xs.length (flatE xs)) (hp : xs.Pairwise (fun x y => x.key < y.key)) (hB : base ≤ w.heap.size) (hz : (xs.length + 1) * 56 ≤ 140737488351232) (hk : hasK xs x.key = false) :
    Calls Tryz.prog 98 #[.slice A xs.length C, .agg #[.int .i64 x.key, .int .i64 x.c, .int .i64 x.s, .int .i64 x.lo, .int .i64 x.hi, .int .i64 x.t, .int .i64 x.l]] w
      fun e w' => ∃ A' C', e = .returned (.slice A' (xs.length + 1) C') ∧ Moved base 73 7 (xs.length + 1) A A' C' (flatE (xs.take (lowN xs x.key) ++ x :: xs.drop (lowN xs x.key))) w w' := by
  obtain ⟨_, _, hA, hAC, hlC, _, hrow⟩ := own_row ho
  cases hA
  have hb0 : ∀ o : Obj, Below w.heap.size w (w.alloc o) := fun o => (Below.refl _ _).alloc (Nat.le_refl _) o
  have hfind := fun W (h : RowAt W.heap.size W A (flatE xs)) => find_any A C xs x.key W h (by omega) hp
  rw [hk] at hfind
  have hle := lowN_le xs x.key
  have hins := fun W vb (h1 : W.ownsRow base 73 7 (.slice A xs.length C) xs.length (flatE xs)) (h2 : RowL W vb 73 x.vals) (h3 : vb ∉ obk A) (h4 : base ≤ W.heap.size) => insertE_any base A C vb 1 xs (lowN xs x.key) x W h1 hle h2 h3 h4 hz
  have hob : ∀ k ∈ obk A, k < w.heap.size := by
    intro k hk
    rcases ho.2 with ⟨hn, _⟩ | ⟨g, cap, cur, hn, _, hg, _⟩
    · simp only [Value.slice.injEq] at hn
      obtain ⟨rfl, -, -⟩ := hn
      simp [obk] at hk
    · simp only [Value.slice.injEq] at hn
      obtain ⟨rfl, -, -⟩ := hn
      obtain rfl : k = g := by simpa [obk] using hk
      exact (Array.getElem?_eq_some_iff.1 hg).1
  generalize lowN xs x.key = i at hfind hins hle ⊢
  have HI := hideC hins
  have HF := hideC hfind
  have HO := hideC ho
  have HOB := hideC hob
  clear hins hfind ho hob hp
  go_enter Tryz.func98, Tryz.ntmps98
  go_wp2_with (first
    | (go_at_call 113; refine (HF.out _ (hrow.up (hb0 _))).mono ?_; rintro e w1 ⟨rfl, hb1⟩; have hbw : Below w.heap.size w w1 := nextB (hb0 _) (Nat.le_refl _) hb1; have bx := fun j => (hb1.cell (p := ⟨w.heap.size, j, none⟩) (by simp)); simp at bx; have hs1 : w.heap.size < w1.heap.size := by have := hb1.size; simp at this; omega)
    | (go_at_call 114; refine (HI.out _ w1.heap.size (own_next HO.out (hbw.alloc (by omega) _)) (rowL_alloc w1 x.vals _) (fun e => by have := HOB.out _ e; omega) (by simp; omega)).mono ?_; rintro e w2 ⟨A2, C2, rfl, hm2⟩))
  go_ret
  exact ⟨_, _, rfl, hm2.from (hbw.alloc (by omega) _)⟩

theorem set_en (A B : List En) (y : En) (r : Ru) (a : Nat) (ha : A.length * 7 = a) :
    ((((((flatE (A ++ y :: B)).set (a + 1) (.int .i64 r.c)).set (a + 2) (.int .i64 r.s)).set (a + 3) (.int .i64 r.lo)).set (a + 4) (.int .i64 r.hi)).set (a + 5) (.int .i64 r.t)).set (a + 6) (.int .i64 r.l) = flatE (A ++ mkE y.key r :: B) := by
  have h : (flatE A).length = a := by rw [flatE_length]; exact ha
  rw [flatE_append, flatE_append, flatE, flatE]
  rw [List.set_append_right _ _ (by omega), List.set_append_right _ _ (by omega), List.set_append_right _ _ (by omega), List.set_append_right _ _ (by omega), List.set_append_right _ _ (by omega), List.set_append_right _ _ (by omega), h]
  simp only [Nat.add_sub_cancel_left]
  rfl

theorem set_enAt (xs : List En) (i : Nat) (y : En) (r : Ru) (hi : i < xs.length) (hy : xs[i] = y) :
    ((((((flatE xs).set (i * 7 + 1) (.int .i64 r.c)).set (i * 7 + 2) (.int .i64 r.s)).set (i * 7 + 3) (.int .i64 r.lo)).set (i * 7 + 4) (.int .i64 r.hi)).set (i * 7 + 5) (.int .i64 r.t)).set (i * 7 + 6) (.int .i64 r.l) = flatE (xs.set i (mkE y.key r)) := by
  have e1 : xs = xs.take i ++ y :: xs.drop (i + 1) := by rw [← hy, List.getElem_cons_drop, List.take_append_drop]
  have e2 : xs.set i (mkE y.key r) = xs.take i ++ mkE y.key r :: xs.drop (i + 1) := by rw [List.set_eq_take_append_cons_drop, if_pos hi]
  rw [e2]
  conv => lhs; rw [e1]
  exact set_en _ _ y r _ (by rw [List.length_take]; omega)

theorem moved_set {base g C i : Nat} {xs : List En} {y : En} {r : Ru} {w w2 : World} (ho : w.ownsRow base 73 7 (.slice (some ⟨g, 0, none⟩) xs.length C) xs.length (flatE xs)) (hb : Below w.heap.size w w2) (hi : i < xs.length) (hy : xs[i] = y) :
    Moved base 73 7 xs.length (some ⟨g, 0, none⟩) (some ⟨g, 0, none⟩) C (flatE (xs.set i (mkE y.key r))) w ((((((w2.setCell ⟨g, i * 7 + 1, none⟩ (.int .i64 r.c)).setCell ⟨g, i * 7 + 2, none⟩ (.int .i64 r.s)).setCell ⟨g, i * 7 + 3, none⟩ (.int .i64 r.lo)).setCell ⟨g, i * 7 + 4, none⟩ (.int .i64 r.hi)).setCell ⟨g, i * 7 + 5, none⟩ (.int .i64 r.t)).setCell ⟨g, i * 7 + 6, none⟩ (.int .i64 r.l)) := by
  have hg : g ∈ obk (some ⟨g, 0, none⟩) := by simp [obk]
  refine ⟨?_, ((((((Kept.of_below hb).set (.inl hg) _).set (.inl hg) _).set (.inl hg) _).set (.inl hg) _).set (.inl hg) _).set (.inl hg) _, .inl rfl⟩
  rw [← set_enAt xs i y r hi hy]
  exact own_set (own_set (own_set (own_set (own_set (own_set (own_next ho hb) _ _) _ _) _ _) _ _) _ _) _ _

set_option maxRecDepth 20000 in
set_option maxHeartbeats 4000000 in
theorem with_old (base g C : Nat) (xs : List En) (x y : En) (i : Nat) (r : Ru) (w : World) (ho : w.ownsRow base 73 7 (.slice (some ⟨g, 0, none⟩) xs.length C) xs.length (flatE xs)) (hp : xs.Pairwise (fun x y => x.key < y.key)) (hz : (xs.length + 1) * 56 ≤ 140737488351232) (hk : hasK xs x.key = true) (hi : lowN xs x.key = i) (hil : i < xs.length) (hy : xs[i] = y) (hr : (mrg y.ru x.ru).1 = r) :
    Calls Tryz.prog 98 #[.slice (some ⟨g, 0, none⟩) xs.length C, .agg #[.int .i64 x.key, .int .i64 x.c, .int .i64 x.s, .int .i64 x.lo, .int .i64 x.hi, .int .i64 x.t, .int .i64 x.l]] w
      fun e w' => e = .returned (.slice (some ⟨g, 0, none⟩) xs.length C) ∧ Moved base 73 7 xs.length (some ⟨g, 0, none⟩) (some ⟨g, 0, none⟩) C (flatE (xs.set i (mkE y.key r))) w w' := by
  obtain ⟨_, _, hA, hAC, hlC, _, hrow⟩ := own_row ho
  cases hA
  have hb0 : ∀ o : Obj, Below w.heap.size w (w.alloc o) := fun o => (Below.refl _ _).alloc (Nat.le_refl _) o
  have hfind := fun W (h : RowAt W.heap.size W (some ⟨g, 0, none⟩) (flatE xs)) => find_any (some ⟨g, 0, none⟩) C xs x.key W h (by omega) hp
  rw [hk, hi] at hfind
  have hmrg := fun W => merge_any y.ru x.ru W
  rw [hr] at hmrg
  generalize (mrg y.ru x.ru).2 = e2 at hmrg
  have hglt : g < w.heap.size := (ho.lt g rfl).2
  have HF := hideC hfind
  have HO := hideC ho
  have HMG := hideC hmrg
  have i1 : (i : Int) < (xs.length : Int) := by omega
  have i0 : (0 : Int) ≤ (i : Int) := by omega
  have hcell : ∀ (j : Nat) (u : Value), j < 7 → y.vals[j]? = some u → w.cell? ⟨g, i * 7 + j, none⟩ = some u := fun j u hj hu => by
    rw [ho.cellAt _ (by omega), flatE_get xs i j hil hj, hy]; exact hu
  have c1 := hcell 1 _ (by decide) rfl
  have c2 := hcell 2 _ (by decide) rfl
  have c3 := hcell 3 _ (by decide) rfl
  have c4 := hcell 4 _ (by decide) rfl
  have c5 := hcell 5 _ (by decide) rfl
  have c6 := hcell 6 _ (by decide) rfl
  have HY : Hid (xs[i] = y) := hy
  clear hfind ho hmrg hp hk hi hy hr hcell
  go_enter Tryz.func98, Tryz.ntmps98
  go_wp2_with (first
    | (go_at_call 113; refine (HF.out _ (hrow.up (hb0 _))).mono ?_; rintro e w1 ⟨rfl, hb1⟩; have hbw : Below w.heap.size w w1 := nextB (hb0 _) (Nat.le_refl _) hb1; have bx := fun j => (hb1.cell (p := ⟨w.heap.size, j, none⟩) (by simp)); simp at bx; have hs1 : w.heap.size < w1.heap.size := by have := hb1.size; simp at this; omega))
  have k1 := (hbw.cell (p := ⟨g, i * 7 + 1, none⟩) hglt).trans c1
  have k2 := (hbw.cell (p := ⟨g, i * 7 + 2, none⟩) hglt).trans c2
  have k3 := (hbw.cell (p := ⟨g, i * 7 + 3, none⟩) hglt).trans c3
  have k4 := (hbw.cell (p := ⟨g, i * 7 + 4, none⟩) hglt).trans c4
  have k5 := (hbw.cell (p := ⟨g, i * 7 + 5, none⟩) hglt).trans c5
  have k6 := (hbw.cell (p := ⟨g, i * 7 + 6, none⟩) hglt).trans c6
  have hg1 : g < w1.heap.size := by omega
  clear c1 c2 c3 c4 c5 c6
  go_region_with (go_at_call 40; refine (HMG.out _).mono ?_; rintro e w2 ⟨rfl, hb2⟩; have HW2 : Hid (Below w.heap.size w w2) := hideC (hbw.drew.trans (hb2.mono (by simp; omega))); have g1 := (hb2.cell (p := ⟨g, i * 7 + 1, none⟩) (by simpa using hg1)).trans k1; have g2 := (hb2.cell (p := ⟨g, i * 7 + 2, none⟩) (by simpa using hg1)).trans k2; have g3 := (hb2.cell (p := ⟨g, i * 7 + 3, none⟩) (by simpa using hg1)).trans k3; have g4 := (hb2.cell (p := ⟨g, i * 7 + 4, none⟩) (by simpa using hg1)).trans k4; have g5 := (hb2.cell (p := ⟨g, i * 7 + 5, none⟩) (by simpa using hg1)).trans k5; have g6 := (hb2.cell (p := ⟨g, i * 7 + 6, none⟩) (by simpa using hg1)).trans k6; have gf := (own_next HO.out HW2.out).frozenAt; clear hb2)
  all_goals
    go_wp2
    go_ret
    exact ⟨rfl, moved_set HO.out HW2.out hil HY.out⟩

theorem hasK_low {xs : List En} {k : Int} (hp : xs.Pairwise (fun x y => x.key < y.key)) (h : hasK xs k = true) : ∃ h : lowN xs k < xs.length, xs[lowN xs k].key = k := by
  unfold hasK at h
  rw [List.any_eq_true] at h
  obtain ⟨x, hx, hk⟩ := h
  obtain ⟨j, hj, rfl⟩ := List.getElem_of_mem hx
  have hk' : xs[j].key = k := by simpa using hk
  have e : lowN xs k = j := lowN_is (Nat.le_of_lt hj) (fun a ha haj => by
    have := List.pairwise_iff_getElem.1 hp a j ha hj haj; omega) (fun a ha haj => by
    by_cases q : a = j
    · subst q; omega
    · have := List.pairwise_iff_getElem.1 hp j a hj ha (by omega); omega)
  exact ⟨by omega, by simp only [e]; exact hk'⟩

/-- A list with an entry more: in plain terms withE. -/
theorem with_any (base : Nat) (A : Option Addr) (C : Nat) (xs : List En) (x : En) (w : World) (ho : w.ownsRow base 73 7 (.slice A xs.length C) xs.length (flatE xs)) (hp : xs.Pairwise (fun x y => x.key < y.key)) (hB : base ≤ w.heap.size) (hz : (xs.length + 1) * 56 ≤ 140737488351232) :
    Calls Tryz.prog 98 #[.slice A xs.length C, .agg #[.int .i64 x.key, .int .i64 x.c, .int .i64 x.s, .int .i64 x.lo, .int .i64 x.hi, .int .i64 x.t, .int .i64 x.l]] w
      fun e w' => ∃ A' C', e = .returned (.slice A' (withE xs x).length C') ∧ Moved base 73 7 (withE xs x).length A A' C' (flatE (withE xs x)) w w' := by
  cases hk : hasK xs x.key with
  | true =>
    obtain ⟨hl, hkey⟩ := hasK_low hp hk
    have e : withE xs x = xs.set (lowN xs x.key) (mkE (xs[lowN xs x.key]).key (mrg (xs[lowN xs x.key]).ru x.ru).1) := by
      unfold withE
      rw [if_pos hk, List.getD_eq_getElem?_getD, List.getElem?_eq_getElem hl]
      rfl
    rw [e, List.length_set]
    rcases ho.2 with ⟨hn, h0⟩ | ⟨g, cap, cur, hn, _⟩
    · omega
    · simp only [Value.slice.injEq] at hn
      obtain ⟨rfl, -, rfl⟩ := hn
      refine (with_old base g C xs x _ _ _ w ho hp hz hk rfl hl rfl rfl).mono ?_
      rintro e w' ⟨rfl, hm⟩
      exact ⟨_, _, rfl, hm⟩
  | false =>
    have e : withE xs x = xs.take (lowN xs x.key) ++ x :: xs.drop (lowN xs x.key) := by
      unfold withE
      rw [if_neg (by rw [hk]; decide)]
    have hl := lowN_le xs x.key
    have el : (withE xs x).length = xs.length + 1 := by rw [e]; simp; omega
    rw [el, e]
    exact with_new base A C xs x w ho hp hB hz hk

set_option maxRecDepth 20000 in
theorem canWait_any (A : Option Addr) (C : Nat) (xs : List En) (k : Int) (w : World) (h : RowAt w.heap.size w A (flatE xs)) (hz : xs.length * 56 ≤ 140737488351232) (hp : xs.Pairwise (fun x y => x.key < y.key)) :
    Calls Tryz.prog 99 #[.slice A xs.length C, .int .i64 k] w fun e w' => e = .returned (.bool (hasK xs k || decide (xs.length < 8))) ∧ Below w.heap.size w w' := by
  have hcon := find_any A C xs k w h hz hp
  generalize lowN xs k = r at hcon
  cases hk : hasK xs k with
  | true =>
    rw [hk] at hcon
    go_enter Tryz.func99, Tryz.ntmps99
    go_wp2_with (go_at_call 113; refine hcon.mono ?_; rintro e w1 ⟨rfl, hb1⟩)
    go_ret
    exact ⟨rfl, hb1⟩
  | false =>
    rw [hk] at hcon
    by_cases hl : xs.length < 8
    · have hl' : (xs.length : Int) < 8 := by omega
      go_enter Tryz.func99, Tryz.ntmps99
      go_wp2_with (go_at_call 113; refine hcon.mono ?_; rintro e w1 ⟨rfl, hb1⟩)
      go_ret
      exact ⟨by simp [hl], hb1⟩
    · have hl' : ¬ (xs.length : Int) < 8 := by omega
      go_enter Tryz.func99, Tryz.ntmps99
      go_wp2_with (go_at_call 113; refine hcon.mono ?_; rintro e w1 ⟨rfl, hb1⟩)
      go_ret
      exact ⟨by simp [hl]; omega, hb1⟩

end Go.Proofs.YtlojfgdpmaigmaeGreatDoor

/- tree.kidOf, tree.greatest. -/
namespace Go.Proofs.YtlojfgdpmaigmaeGreatDoor
open Go.RowKit Plain Go.Shelf

theorem drewNB {B : Nat} {w w' : World} (h : Below B w w') (n : Nat) : Below B w (w'.drewN n) := ⟨h.os, h.tape, h.output, h.size, h.block⟩

/-- Which of the kids has a key. -/
def kidI (keys : List Int) (k : Int) : Nat := keys.countP (· < k) + if keys.contains k = true then 1 else 0

set_option maxRecDepth 20000 in
set_option maxHeartbeats 1000000 in
theorem kidOf_any (p : PN) (k : Int) (w : World) (hk : RowAt w.heap.size w p.kA (ints p.keys)) (hne : p.keys ≠ []) (hz : p.keys.length * 8 ≤ 140737488351232) (hs : p.keys.Pairwise (· ≤ ·)) :
    Calls Tryz.prog 101 #[.agg #[.bool p.leaf, .slice p.eA p.ents.length p.eC, .slice p.kA p.keys.length p.kC, .slice p.dA p.kids.length p.dC, .slice p.bA p.buf.length p.bC], .int .i64 k] w
      fun e w' => e = .returned (.int .i64 (kidI p.keys k : Int)) ∧ Below w.heap.size w w' := by
  obtain ⟨b, o, hA, hlt, hc⟩ : ∃ b o, p.kA = some ⟨b, o, none⟩ ∧ b < w.heap.size ∧ ∀ j u, (ints p.keys)[j]? = some u → w.cell? ⟨b, o + j, none⟩ = some u := by
    rcases hk with h | h
    · exact absurd (by simpa [ints] using h) hne
    · exact h
  have hb0 : ∀ ob : Obj, Below w.heap.size w (w.alloc ob) := fun ob => (Below.refl _ _).alloc (Nat.le_refl _) ob
  have hcon := fun W (hW : Below w.heap.size w W) => Any.slices_BinarySearch_int Tryz.searchI b o p.keys.length p.kC p.keys k W (Nat.le_refl _) (by omega) (fun j hj => by
    rw [hW.cell (p := ⟨b, o + j, none⟩) hlt]
    exact hc j _ (by rw [ints, List.getElem?_map, List.getElem?_eq_getElem hj, List.getD_eq_getElem?_getD, List.getElem?_eq_getElem hj]; rfl)) (by rw [List.take_length]; exact hs)
  rw [List.take_length] at hcon
  have hle : p.keys.countP (· < k) ≤ p.keys.length := List.countP_le_length
  rw [hA]
  unfold kidI
  generalize p.keys.countP (· < k) = r at hcon hle ⊢
  cases hq : p.keys.contains k with
  | true =>
    rw [hq] at hcon
    have HC := hideC hcon
    clear hcon hq
    have e1 : ((r + if true = true then 1 else 0 : Nat) : Int) = (r : Int) + 1 := by simp
    rw [e1]
    go_enter Tryz.func101, Tryz.ntmps101
    go_wp2_with (go_at_call 117; refine (HC.out _ (hb0 _)).mono ?_; rintro e w1 ⟨rfl, q, rfl⟩)
    go_ret
    exact ⟨rfl, drewNB (hb0 _) _⟩
  | false =>
    rw [hq] at hcon
    have HC := hideC hcon
    clear hcon hq
    have e1 : ((r + if false = true then 1 else 0 : Nat) : Int) = (r : Int) := by simp
    rw [e1]
    go_enter Tryz.func101, Tryz.ntmps101
    go_wp2_with (go_at_call 117; refine (HC.out _ (hb0 _)).mono ?_; rintro e w1 ⟨rfl, q, rfl⟩)
    go_ret
    exact ⟨rfl, drewNB (hb0 _) _⟩

set_option maxRecDepth 20000 in
set_option maxHeartbeats 4000000 in
theorem greatest_any (a0 a1 a2 a3 : Int) (w : World) :
    Calls Tryz.prog 116 #[.agg #[.int .i64 a0, .int .i64 a1, .int .i64 a2, .int .i64 a3]] w
      fun e w' => ∃ m : Nat, m < 4 ∧ e = .returned (.int .i64 (m : Int)) ∧ Below w.heap.size w w' := by
  have i0 : ∀ (x y z u : Value) (w : World), (Instr.index 151 (.agg #[x, y, z, u]) (.int .i64 0)).run Tryz.prog w = .ok x w := fun _ _ _ _ _ => by kernel_rfl
  have i1 : ∀ (x y z u : Value) (w : World), (Instr.index 151 (.agg #[x, y, z, u]) (.int .i64 1)).run Tryz.prog w = .ok y w := fun _ _ _ _ _ => by kernel_rfl
  have i2 : ∀ (x y z u : Value) (w : World), (Instr.index 151 (.agg #[x, y, z, u]) (.int .i64 2)).run Tryz.prog w = .ok z w := fun _ _ _ _ _ => by kernel_rfl
  have i3 : ∀ (x y z u : Value) (w : World), (Instr.index 151 (.agg #[x, y, z, u]) (.int .i64 3)).run Tryz.prog w = .ok u w := fun _ _ _ _ _ => by kernel_rfl
  go_enter Tryz.func116, Tryz.ntmps116
  go_wp2_with fail
  generalize hW : w.alloc (.cells #[.int .i64 a0, .int .i64 a1, .int .i64 a2, .int .i64 a3] 151) = W
  have hbW : Below w.heap.size w W := by rw [← hW]; exact (Below.refl _ _).alloc (Nat.le_refl _) _
  have hlW : w.heap.size < W.heap.size := by rw [← hW]; simp
  have hat : ∀ a : Nat, a < 4 → ∃ v : Int, W.cell? ⟨w.heap.size, a, none⟩ = some (.int .i64 v) := by
    intro a ha
    rw [← hW]
    rcases (show a = 0 ∨ a = 1 ∨ a = 2 ∨ a = 3 by omega) with rfl | rfl | rfl | rfl
    · exact ⟨a0, by simp⟩
    · exact ⟨a1, by simp⟩
    · exact ⟨a2, by simp⟩
    · exact ⟨a3, by simp⟩
  have hix : ∀ i : Nat, i < 4 → ∃ v : Int, (Instr.index 151 (.agg #[.int .i64 a0, .int .i64 a1, .int .i64 a2, .int .i64 a3]) (.int .i64 (i : Int))).run Tryz.prog W = .ok (.int .i64 v) W := by
    intro i hi
    rcases (show i = 0 ∨ i = 1 ∨ i = 2 ∨ i = 3 by omega) with rfl | rfl | rfl | rfl
    · exact ⟨a0, i0 _ _ _ _ _⟩
    · exact ⟨a1, i1 _ _ _ _ _⟩
    · exact ⟨a2, i2 _ _ _ _ _⟩
    · exact ⟨a3, i3 _ _ _ _ _⟩
  clear i0 i1 i2 i3 hW
  have HAT := hideC hat
  have HIX := hideC hix
  clear hat hix
  go_loopw [3, 7] (fun va vi wr => ∃ a i : Nat, a < 4 ∧ i ≤ 4 ∧ va = .int .i64 a ∧ vi = .int .i64 i ∧ wr = W) (fun _ vi _ => 4 - (intOf vi).toNat)
  case atStart => exact ⟨0, 0, by decide, by decide, rfl, rfl, rfl⟩
  case round =>
    obtain ⟨a, i, ha, hi, rfl, rfl, hw⟩ := hrel
    subst hw
    by_cases hi4 : i < 4
    · obtain ⟨va, ca⟩ := HAT.out a ha
      obtain ⟨vi, ci⟩ := HIX.out i hi4
      have hia : (a : Int) < 4 := by omega
      have hia0 : (0 : Int) ≤ (a : Int) := by omega
      have hii : (i : Int) < 4 := by omega
      by_cases hv : va < vi
      · go_wp2_with fail
        go_roundw
        case rel => exact ⟨i, i + 1, hi4, by omega, rfl, by go_num, trivial⟩
        case measure => simp [intOf]; omega
      · go_wp2_with fail
        go_roundw
        case rel => exact ⟨a, i + 1, ha, by omega, rfl, by go_num, trivial⟩
        case measure => simp [intOf]; omega
    · have hii : ¬ (i : Int) < 4 := by omega
      go_wp2_with fail
      go_ret
      exact ⟨a, ha, rfl, hbW⟩

end Go.Proofs.YtlojfgdpmaigmaeGreatDoor

/- slices.IndexFunc and slices.DeleteFunc over entries, with the predicate of base.younger: their walks. -/
namespace Go.Proofs.YtlojfgdpmaigmaeGreatDoor
open Go.RowKit Plain Go.Shelf

/-- Older than that. -/
def oldB (t : Int) (x : En) : Bool := decide (x.key % 1048576 < t)

set_option maxRecDepth 20000 in
set_option maxHeartbeats 1000000 in
theorem young_any (key c s lo hi tt l : Int) (tb : Nat) (t : Int) (w : World) (hx : 0 ≤ key ∧ key < 1099511627776) (ht : w.cell? ⟨tb, 0, none⟩ = some (.int .i64 t)) :
    Calls Tryz.prog 58 #[.agg #[.int .i64 key, .int .i64 c, .int .i64 s, .int .i64 lo, .int .i64 hi, .int .i64 tt, .int .i64 l], .pointer (some ⟨tb, 0, none⟩)] w fun e w' => e = .returned (.bool (oldB t ⟨key, c, s, lo, hi, tt, l⟩)) ∧ Below w.heap.size w w' := by
  have b0 : ∀ o : Obj, Below w.heap.size w (w.alloc o) := fun o => (Below.refl _ _).alloc (Nat.le_refl _) o
  have hl : tb < w.heap.size := World.block_lt_of_cell? _ _ ht
  have con := hideB fun W => timeOf_any key W hx
  show Calls _ _ _ _ fun e w' => e = .returned (.bool (decide (key % 1048576 < t))) ∧ _
  clear hx
  go_enter Tryz.func58, Tryz.ntmps58
  go_wp2_with fail
  go_quiet (refine Calls.quiet_of ((con.out _).mono (fun _ _ h => ⟨h.1, 0, h.2⟩)))
  go_wp2
  go_ret
  exact ⟨rfl, below_drewN (b0 _) _⟩

/-- What IndexFunc tells. -/
def IdxTo (del : En → Bool) (xs : List En) (z : Int) : Prop := (z = -1 ∧ ∀ x ∈ xs, del x = false) ∨ ∃ k : Nat, z = k ∧ ∃ h : k < xs.length, del xs[k] = true ∧ ∀ x ∈ xs.take k, del x = false

set_option maxRecDepth 20000 in
set_option maxHeartbeats 2000000 in
theorem idxF_any (A : Option Addr) (C : Nat) (xs : List En) (tb : Nat) (t : Int) (w : World) (h : RowAt w.heap.size w A (flatE xs)) (hz : xs.length * 56 ≤ 140737488351232) (hk : ∀ x ∈ xs, 0 ≤ x.key ∧ x.key < 1099511627776) (ht : w.cell? ⟨tb, 0, none⟩ = some (.int .i64 t)) :
    Calls Tryz.prog 82 #[.slice A xs.length C, .func (.func 58) #[] #[.pointer (some ⟨tb, 0, none⟩)]] w
      fun e w' => ∃ z, e = .returned (.int .i64 z) ∧ IdxTo (oldB t) xs z ∧ Below w.heap.size w w' := by
  have htl : tb < w.heap.size := World.block_lt_of_cell? _ _ ht
  go_enter Tryz.func82, Tryz.ntmps82
  go_wp2_with fail
  go_loopw [5, 8] (fun _ vi wr => ∃ k : Nat, k ≤ xs.length ∧ vi = .int .i64 (k : Int) ∧ Hid (∀ x ∈ xs.take k, oldB t x = false) ∧ Below w.heap.size w wr) (fun _ vi _ => xs.length - (intOf vi).toNat)
  case atStart => exact ⟨0, Nat.zero_le _, rfl, fun x hx => by simp at hx, Below.refl _ _⟩
  case round =>
    obtain ⟨k, hkn, rfl, HI, hb⟩ := hrel
    by_cases hlt : k < xs.length
    · obtain ⟨b, o, rfl, hbl, hat⟩ := (h.below hb (Nat.le_refl _)).en hlt
      have hbw : b < wr.heap.size := Nat.lt_of_lt_of_le hbl hb.size
      have hkx := hk _ (List.getElem_mem hlt)
      have HX : Hid (∀ v, oldB t xs[k] = v → v = false → ∀ x ∈ xs.take (k + 1), oldB t x = false) := fun v e1 e2 x hx => by
        rw [List.take_succ_eq_append_getElem hlt] at hx
        rcases List.mem_append.1 hx with hx | hx
        · exact HI.out x hx
        · obtain rfl : x = xs[k] := by simpa using hx
          rw [e1, e2]
      have HY : Hid (oldB t xs[k] = true → IdxTo (oldB t) xs (k : Int)) := fun e => .inr ⟨k, rfl, hlt, e, HI.out⟩
      obtain ⟨x, hx⟩ : ∃ x, xs[k] = x := ⟨_, rfl⟩
      rw [hx] at hat hkx HX HY
      clear hx
      obtain ⟨key, c, s, lo, hi, tt, l⟩ := x
      obtain ⟨c0, c1, c2, c3, c4, c5, c6⟩ := hat
      simp only at c0 c1 c2 c3 c4 c5 c6 hkx
      have q0 : (0 : Int) ≤ (k : Int) := by omega
      have q1 : (k : Int) < (xs.length : Int) := by omega
      have hcon := young_any key c s lo hi tt l tb t wr hkx ((hb.cell (p := ⟨tb, 0, none⟩) htl).trans ht)
      generalize oldB t ⟨key, c, s, lo, hi, tt, l⟩ = v at hcon HX HY
      have HC := hideB hcon
      clear hcon hkx h hk ht
      cases v with
      | true =>
        go_wp2_with (go_at_call 58; refine HC.out.mono ?_; rintro e w1 ⟨rfl, hb1⟩)
        go_ret
        exact ⟨_, rfl, HY.out (by simp), nextB hb (Nat.le_refl _) hb1⟩
      | false =>
        go_wp2_with (go_at_call 58; refine HC.out.mono ?_; rintro e w1 ⟨rfl, hb1⟩)
        go_roundw
        case rel => exact ⟨k + 1, hlt, by go_num, HX.out false (by simp) (by simp), nextB hb (Nat.le_refl _) hb1⟩
        case measure => simp [intOf]; omega
    · have hlt' : ¬ ((k : Int) < (xs.length : Int)) := by omega
      go_wp2_with fail
      go_ret
      refine ⟨_, rfl, .inl ⟨rfl, fun x hx => HI.out x ?_⟩, hb⟩
      rw [List.take_of_length_le (by omega)]
      exact hx

theorem kept_cells {g : Nat} {w wr : World} (h : Kept [g] w wr) (a : Nat) (vs : List Value) : Kept [g] w (wr.setCells g a vs) := h.trans (setCells_kept g vs a wr)

theorem kept_below {ex : List Nat} {w wr w' : World} (h : Kept ex w wr) (hb : Below wr.heap.size wr w') : Kept ex w w' :=
  ⟨hb.os.trans h.os, hb.tape.trans h.tape, hb.output.trans h.output, Nat.le_trans h.size hb.size, fun k hk hne => (hb.block k (Nat.lt_of_lt_of_le hk h.size)).trans (h.block k hk hne)⟩

set_option maxRecDepth 20000 in
set_option maxHeartbeats 4000000 in
/-- In a row of one's own. -/
theorem delF_own (base g C : Nat) (xs : List En) (tb : Nat) (t : Int) (w : World) (h : w.ownsRow base 73 7 (.slice (some ⟨g, 0, none⟩) xs.length C) xs.length (flatE xs)) (hz : xs.length * 56 ≤ 140737488351232) (hk : ∀ x ∈ xs, 0 ≤ x.key ∧ x.key < 1099511627776) (ht : w.cell? ⟨tb, 0, none⟩ = some (.int .i64 t)) (htg : tb ≠ g) :
    Calls Tryz.prog 57 #[.slice (some ⟨g, 0, none⟩) xs.length C, .func (.func 58) #[] #[.pointer (some ⟨tb, 0, none⟩)]] w
      fun e w' => e = .returned (.slice (some ⟨g, 0, none⟩) (xs.filter fun x => !oldB t x).length C) ∧ w'.ownsRow base 73 7 (.slice (some ⟨g, 0, none⟩) (xs.filter fun x => !oldB t x).length C) (xs.filter fun x => !oldB t x).length (flatE (xs.filter fun x => !oldB t x)) ∧ Kept [g] w w' := by
  obtain ⟨M, hM⟩ : ∃ M, (xs.filter fun x => !oldB t x) = M := ⟨_, rfl⟩
  rw [hM]
  have HM := hideB hM
  clear hM
  have htl : tb < w.heap.size := World.block_lt_of_cell? _ _ ht
  have gl : g < w.heap.size := (h.lt g rfl).2
  have lC : xs.length ≤ C := by
    obtain ⟨A', C', e, _, hl, _⟩ := own_row h
    cases e
    exact hl
  have HI := hideB (idxF_any _ C xs tb t w (own_ok h).1 hz hk ht)
  go_enter Tryz.func57, Tryz.ntmps57
  have HW := hideB h
  clear h
  go_upto_region 2 with (first | (go_at_call 82; refine HI.out.mono ?_; rintro e w1 ⟨z, rfl, hI, hb1⟩))
  rcases hI with ⟨rfl, hall⟩ | ⟨k, rfl, hkl, hd, hn⟩
  · go_wp2_with fail
    go_ret
    have e : M = xs := by
      rw [← HM.out]
      exact List.filter_eq_self.2 fun x hx => by rw [hall x hx]; rfl
    subst e
    exact ⟨rfl, own_next HW.out hb1, Kept.of_below hb1⟩
  · have hk1 : ((k : Int) == -1) = false := beq_eq_false_iff_ne.2 (by omega)
    have HS := hideB (Dl.start (del := oldB t) hkl hd hn)
    have HB1 := hideB hb1
    clear hd hn hb1 HI
    go_wp2_with fail
    go_loopw [5, 6, 7] (fun vi vj _ wr => ∃ (i j : Nat) (R : List En), vi = .int .i64 (i : Int) ∧ vj = .int .i64 (j : Int) ∧ Dl (oldB t) xs i j R ∧ wr.ownsRow base 73 7 (.slice (some ⟨g, 0, none⟩) R.length C) R.length (flatE R) ∧ Kept [g] w wr) (fun _ vj _ _ => xs.length - (intOf vj).toNat)
    case atStart => exact ⟨k, k + 1, xs, rfl, by go_num, HS.out, own_next HW.out HB1.out, Kept.of_below HB1.out⟩
    case round =>
      obtain ⟨i, j, R, rfl, rfl, hD, hown, hkp⟩ := hrel
      have hij := hD.lt
      have hjn := hD.le
      have hRl := hD.len
      have gw : g < wr.heap.size := Nat.lt_of_lt_of_le gl hkp.size
      have tw : wr.cell? ⟨tb, 0, none⟩ = some (.int .i64 t) := (World.cell?_of_block (a := ⟨tb, 0, none⟩) (hkp.block tb htl (by simp [htg]))).trans ht
      by_cases hlt : j < xs.length
      · obtain ⟨b, o, hA, hbl, hat⟩ := (own_ok hown).1.en (k := j) (by omega)
        cases hA
        rw [hD.get hlt] at hat
        have hkx := hk _ (List.getElem_mem hlt)
        have HK := hideB (fun e => hD.keep hlt e)
        have HN := hideB (fun e => hD.skip hlt e)
        obtain ⟨x, hx⟩ : ∃ x, xs[j] = x := ⟨_, rfl⟩
        rw [hx] at hat hkx HK HN
        clear hx
        rw [Nat.zero_add] at hat
        have q0 : (0 : Int) ≤ (j : Int) := by omega
        have q1 : (j : Int) < (xs.length : Int) := by omega
        have q2 : (0 : Int) ≤ (i : Int) := by omega
        have q3 : (i : Int) < (xs.length : Int) := by omega
        have k1 : IntKind.i64.wrap ((i : Int) + 1) = (i : Int) + 1 := by rw [IntKind.wrap_i64]; omega
        have k2 : IntKind.i64.wrap ((j : Int) + 1) = (j : Int) + 1 := by rw [IntKind.wrap_i64]; omega
        obtain ⟨key, c, s, lo, hi, tt, l⟩ := x
        obtain ⟨c0, c1, c2, c3, c4, c5, c6⟩ := hat
        simp only at c0 c1 c2 c3 c4 c5 c6 hkx
        have hcon := hideB fun W (hW : Below wr.heap.size wr W) => young_any key c s lo hi tt l tb t W hkx ((hW.cell (p := ⟨tb, 0, none⟩) (Nat.lt_of_lt_of_le htl hkp.size)).trans tw)
        have HO := hideB hown
        have HP := hideB hkp
        obtain ⟨v, hv⟩ : ∃ v, oldB t ⟨key, c, s, lo, hi, tt, l⟩ = v := ⟨_, rfl⟩
        rw [hv] at hcon HK HN
        have hiR : i < R.length := by omega
        clear hkx hown hkp tw hk ht hv hD HW HS
        cases v with
        | true =>
          clear HK
          go_wp2_with (first | (go_at_call 58; refine (hcon.out _ ((Below.refl _ _).alloc (Nat.le_refl _) _)).mono ?_; rintro e w2 ⟨rfl, hb2⟩))
          go_roundw
          case rel =>
            have hb3 : Below wr.heap.size wr w2 := nextB ((Below.refl _ _).alloc (Nat.le_refl _) _) (Nat.le_refl _) hb2
            exact ⟨i, j + 1, R, rfl, by go_num, HN.out (by simp), own_next HO.out hb3, kept_below HP.out hb3⟩
          case measure => simp [intOf]; omega
        | false =>
          clear HN
          go_upto_region 9 with (first | (go_at_call 58; refine (hcon.out _ ((Below.refl _ _).alloc (Nat.le_refl _) _)).mono ?_; rintro e w2 ⟨rfl, hb2⟩))
          have hb3 : Below wr.heap.size wr w2 := nextB ((Below.refl _ _).alloc (Nat.le_refl _) _) (Nat.le_refl _) hb2
          have O2 := hideB (own_next HO.out hb3)
          have P2 := hideB (kept_below HP.out hb3)
          have V2 : RowL w2 wr.heap.size 73 [.int .i64 key, .int .i64 c, .int .i64 s, .int .i64 lo, .int .i64 hi, .int .i64 tt, .int .i64 l] := (rowL_alloc wr [.int .i64 key, .int .i64 c, .int .i64 s, .int .i64 lo, .int .i64 hi, .int .i64 tt, .int .i64 l] 73).below hb2 (by simp)
          have d0 := fun o => V2.cell o
          have s2 : wr.heap.size < w2.heap.size := V2.lt
          have g2 : g < w2.heap.size := by omega
          have f2 : ∀ o, w2.frozen? ⟨g, o, none⟩ = false := fun o => O2.out.frozenAt o
          have gn : ¬ wr.heap.size = g := by omega
          have gn' : ¬ g = wr.heap.size := by omega
          have hz7 : EnAt w2 g (i * 7) (R[i]'hiR) := by
            obtain ⟨b', o', hA', -, hat'⟩ := (own_ok O2.out).1.en hiR
            cases hA'
            rw [Nat.zero_add] at hat'
            exact hat'
          obtain ⟨z0, z1, z2, z3, z4, z5, z6⟩ := hz7
          clear hb2 hb3 c0 c1 c2 c3 c4 c5 c6 V2
          go_wp2_with fail
          go_roundw
          case rel =>
            go_light
            exact ⟨i + 1, j + 1, R.set i ⟨key, c, s, lo, hi, tt, l⟩, by go_num, by go_num, HK.out (by simp), own_set7 (x := ⟨key, c, s, lo, hi, tt, l⟩) O2.out hiR, kept_set7 P2.out (i * 7) ⟨key, c, s, lo, hi, tt, l⟩⟩
          case measure => simp [intOf]; omega
      · obtain rfl : j = xs.length := by omega
        have hlt' : ¬ ((xs.length : Int) < (xs.length : Int)) := by omega
        have hcnt : M.length = i := by rw [← HM.out]; exact hD.count
        have hdone : R.take i = M := hD.done.trans HM.out
        have hCi : ¬ C = i := by omega
        have hC0 : ¬ C = 0 := by omega
        have q2 : (0 : Int) ≤ (i : Int) := by omega
        have q3 : (i : Int) ≤ (xs.length : Int) := by omega
        have q4 : (i : Int) ≤ (C : Int) := by omega
        have hcell : ∀ m, m < (xs.length - i) * 7 → (wr.cell? ⟨g, i * 7 + m, none⟩).isSome = true := fun m hm => by
          have hfl := flatE_length R
          rcases (own_ok hown).1 with h0 | ⟨b', o', hA, _, hc⟩
          · have : (flatE R).length = 0 := by rw [h0]; rfl
            omega
          · cases hA
            have hlt2 : i * 7 + m < (flatE R).length := by rw [hfl, hRl, Nat.sub_mul] at *; omega
            have := hc (i * 7 + m) _ (List.getElem?_eq_getElem hlt2)
            rw [Nat.zero_add] at this
            rw [this]; rfl
        have hcl := fun ty => run_clear7 wr ty g (i * 7) (xs.length - i) (C - i) (by omega) hcell (fun m _ => hown.frozenAt _)
        have HO := hideB (own_clear (zs := List.replicate ((xs.length - i) * 7) (.int .i64 0)) hown rfl (show i ≤ R.length by omega) rfl)
        have HP := hideB (kept_cells hkp (i * 7) (List.replicate ((xs.length - i) * 7) (.int .i64 0)))
        have HD := hideB hdone
        clear hcell hown hkp hdone hD hk ht HW HS tw HB1
        go_wp2_with fail
        go_ret
        obtain rfl := hcnt
        refine ⟨rfl, ?_, HP.out⟩
        have h9 := HO.out
        rw [HD.out] at h9
        exact h9

end Go.Proofs.YtlojfgdpmaigmaeGreatDoor

/- slices.DeleteFunc over entries, of any row of one's own, an empty one too. -/
namespace Go.Proofs.YtlojfgdpmaigmaeGreatDoor
open Go.RowKit Plain Go.Shelf

set_option maxRecDepth 20000 in
set_option maxHeartbeats 1000000 in
theorem delF_any (base : Nat) (A : Option Addr) (C : Nat) (xs : List En) (tb : Nat) (t : Int) (w : World) (h : w.ownsRow base 73 7 (.slice A xs.length C) xs.length (flatE xs)) (hz : xs.length * 56 ≤ 140737488351232) (hk : ∀ x ∈ xs, 0 ≤ x.key ∧ x.key < 1099511627776) (ht : w.cell? ⟨tb, 0, none⟩ = some (.int .i64 t)) (htg : ∀ g, A = some ⟨g, 0, none⟩ → tb ≠ g) :
    Calls Tryz.prog 57 #[.slice A xs.length C, .func (.func 58) #[] #[.pointer (some ⟨tb, 0, none⟩)]] w
      fun e w' => e = .returned (.slice A (xs.filter fun x => !oldB t x).length C) ∧ w'.ownsRow base 73 7 (.slice A (xs.filter fun x => !oldB t x).length C) (xs.filter fun x => !oldB t x).length (flatE (xs.filter fun x => !oldB t x)) ∧ Kept (obk A) w w' := by
  rcases h.2 with ⟨hv, hn⟩ | ⟨g, cap, cur, hv, hb, hg, hl, hm, hs, htk⟩
  · have e0 : xs = [] := List.eq_nil_of_length_eq_zero hn
    subst e0
    obtain ⟨rfl, rfl⟩ : A = none ∧ C = 0 := by simpa using hv
    have HI := hideB (idxF_any none 0 [] tb t w (.inl rfl) (by simp) hk ht)
    go_enter Tryz.func57, Tryz.ntmps57
    go_upto_region 2 with (first | (go_at_call 82; refine HI.out.mono ?_; rintro e w1 ⟨z, rfl, hI, hb1⟩))
    rcases hI with ⟨rfl, hall⟩ | ⟨k, rfl, hkl, hd, hn⟩
    · go_wp2_with fail
      go_ret
      exact ⟨rfl, World.ownsRow_nil _ _ _ _, Kept.of_below hb1⟩
    · simp at hkl
  · obtain ⟨rfl, rfl⟩ : A = some ⟨g, 0, none⟩ ∧ C = cap := by simpa using hv
    exact delF_own base g C xs tb t w h hz hk ht (htg g rfl)

end Go.Proofs.YtlojfgdpmaigmaeGreatDoor

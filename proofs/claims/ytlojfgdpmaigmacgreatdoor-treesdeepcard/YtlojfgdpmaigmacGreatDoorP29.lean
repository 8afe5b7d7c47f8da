/- What a base knows, in plain terms: the document's words and the program's come to the same. -/
import Derived.Test.YtlojfgdpmaigmacGreatDoorP17
import Derived.Test.YtlojfgdpmaigmacGreatDoorAllsWalk
import Derived.Test.YtlojfgdpmaigmacGreatDoorP02
import Derived.Lib.SlicesS
import Derived.BigQuiet
import Derived.Deep.RegionHeld3
import Derived.Deep.DeepCutAuto
import Derived.Test.YtlojfgdpmaigmacGreatDoorP10
namespace Go.Proofs.YtlojfgdpmaigmacGreatDoor
open Go.RowKit Plain

/-- The place of a series, and the time, in a key. -/
def kp (x : En) : Int := x.key / 1048576
def kt (x : En) : Int := x.key % 1048576
/-- The entry of the bucket in which a time is. -/
def bk (size : Int) (x : En) : En := { x with key := x.key - kt x % size }

def pointB (n f : Int) (x : En) : Bool := decide (kp x < n) && (decide (f ≤ kt x) && decide (x.t = kt x))

/-- What is known of points; none: that may not be. -/
def bookP (ns : List Nd) (r n f : Int) : Option (List En) :=
  if (allP ns r 0 1099511627776).1 = 0 ∧ (allP ns r 0 1099511627776).2.all (pointB n f) = true then some (allP ns r 0 1099511627776).2 else none
def rollP (size : Int) (l : List En) : Option (List En) := allL (l.map (bk size))
def stepB (size : Int) (l : List En) (ns : List Nd) (r : Int) : Bool :=
  match rollP size l with
  | none => false
  | some w => decide ((allP ns r 0 1099511627776).1 = 0) && decide (w = (allP ns r 0 1099511627776).2)
def treesB (n f : Int) (n0 : List Nd) (r0 : Int) (n1 : List Nd) (r1 : Int) (n2 : List Nd) (r2 : Int) : Bool :=
  match bookP n0 r0 n f with
  | none => false
  | some l => stepB 1 l n0 r0 && (stepB 60 l n1 r1 && stepB 3600 l n2 r2)
def okN (ss : List ByteArray) (i : Nat) : Bool := nameB (ss.getD i ByteArray.empty) && !Lib.containsS (ss.take i) (ss.getD i ByteArray.empty)
def namesB (ss : List ByteArray) : Bool := (List.range ss.length).all (okN ss)
def baseB (ss : List ByteArray) (f : Int) (n0 : List Nd) (r0 : Int) (n1 : List Nd) (r1 : Int) (n2 : List Nd) (r2 : Int) : Bool :=
  decide (ss.length ≤ 16) && (inB f 0 1048575 && (decide (f % 3600 = 0) && (namesB ss && treesB ss.length f n0 r0 n1 r1 n2 r2)))

/-! ### What allL makes: keys that rise, and no more than it was given -/

theorem allL_inc : ∀ (xs : List En) (o r : List En), (o.Pairwise fun a b => a.key < b.key) → (∀ z ∈ o, Good z.ru) → (∀ z ∈ xs, Good z.ru) → xs.foldl insO (some o) = some r →
    (r.Pairwise fun a b => a.key < b.key) ∧ (∀ z ∈ r, Good z.ru) ∧ ∀ z ∈ r, (∃ y ∈ o, y.key = z.key) ∨ ∃ y ∈ xs, y.key = z.key
  | [], o, r, hp, hg, _, h => by
    cases h
    exact ⟨hp, hg, fun z hz => .inl ⟨z, hz, rfl⟩⟩
  | x :: xs, o, r, hp, hg, hx, h => by
    rw [List.foldl_cons] at h
    cases hi : insO (some o) x with
    | none => rw [hi, fold_none] at h; cases h
    | some o' =>
      rw [hi] at h
      have hi' : ins o x = some o' := hi
      obtain ⟨q1, q2⟩ := ins_inc hp hi'
      obtain ⟨q3, q4⟩ := ins_good (hx x List.mem_cons_self) hg hi'
      obtain ⟨e1, e2, e3⟩ := allL_inc xs o' r q1 q3 (fun z hz => hx z (List.mem_cons_of_mem _ hz)) h
      refine ⟨e1, e2, fun z hz => ?_⟩
      rcases e3 z hz with ⟨y, hy, e⟩ | ⟨y, hy, e⟩
      · rcases q2 y hy with e' | ⟨u, hu, e'⟩
        · exact .inr ⟨x, List.mem_cons_self, by omega⟩
        · exact .inl ⟨u, hu, by omega⟩
      · exact .inr ⟨y, List.mem_cons_of_mem _ hy, e⟩

theorem allL_id : ∀ (xs o : List En), ((o ++ xs).Pairwise fun a b => a.key < b.key) → xs.foldl insO (some o) = some (o ++ xs)
  | [], o, _ => by simp
  | x :: xs, o, hp => by
    have h1 : ∀ z ∈ o, z.key < x.key := fun z hz => (List.pairwise_append.1 hp).2.2 z hz x List.mem_cons_self
    rw [List.foldl_cons, show insO (some o) x = some (o ++ [x]) from ins_end h1, allL_id xs (o ++ [x]) (by simpa using hp)]
    simp

/-- What a tree tells of all its keys. -/
theorem allP_facts {ns : List Nd} {r low high : Int} : ((allP ns r low high).2.Pairwise fun a b => a.key < b.key) ∧ (∀ z ∈ (allP ns r low high).2, Good z.ru) ∧ ∀ z ∈ (allP ns r low high).2, 0 ≤ z.key ∧ z.key < 1099511627776 := by
  unfold allP
  split
  · simp
  · rename_i hc
    have hc' : treeC ns r = 0 := by simpa using hc
    obtain ⟨e1, g1, _⟩ := walk_all (low := low) (high := high) hc'
    rw [← e1]
    cases hA : allL (Wl ns low high 12 r) with
    | none => simp
    | some ys =>
      obtain ⟨q1, q2, q3⟩ := allL_inc _ [] ys (by simp) (by simp) g1 hA
      refine ⟨q1, q2, fun z hz => ?_⟩
      rcases q3 z hz with ⟨y, hy, _⟩ | ⟨y, hy, e⟩
      · simp at hy
      · obtain ⟨q, hW⟩ := treeC_W hc'
        rw [Wl_eq 12 _ _ _ _ _ hW] at hy
        have := W_in 12 _ _ _ _ _ hW y (List.mem_filter.1 hy).1
        omega

theorem allP_max (ns : List Nd) (r : Int) : allP ns r 0 9223372036854775807 = allP ns r 0 1099511627776 := by
  unfold allP
  split
  · rfl
  · rename_i hc
    have hc' : treeC ns r = 0 := by simpa using hc
    obtain ⟨e1, _, _⟩ := walk_all (low := 0) (high := 9223372036854775807) hc'
    obtain ⟨e2, _, _⟩ := walk_all (low := 0) (high := 1099511627776) hc'
    obtain ⟨q, hW⟩ := treeC_W hc'
    have : Wl ns 0 9223372036854775807 12 r = Wl ns 0 1099511627776 12 r := by
      rw [Wl_eq 12 _ _ _ _ _ hW, Wl_eq 12 _ _ _ _ _ hW]
      refine List.filter_congr fun x hx => ?_
      have := W_in 12 _ _ _ _ _ hW x hx
      simp only [inR]
      congr 1
      exact decide_eq_decide.2 (by omega)
    rw [← e1, ← e2, this]

/-! ### Buckets -/

theorem bk_key (x : En) (size : Int) : (bk size x).key = (kp x) * 1048576 + (kt x - kt x % size) := by
  show x.key - x.key % 1048576 % size = x.key / 1048576 * 1048576 + (x.key % 1048576 - x.key % 1048576 % size)
  omega

theorem bk_le {x y : En} (h : x.key < y.key) {size : Int} (hs : size = 60 ∨ size = 3600) : (bk size x).key ≤ (bk size y).key := by
  show x.key - x.key % 1048576 % size ≤ y.key - y.key % 1048576 % size
  have hq : x.key / 1048576 ≤ y.key / 1048576 := Int.ediv_le_ediv (by decide) (Int.le_of_lt h)
  rcases hs with rfl | rfl <;> (rcases Int.lt_or_eq_of_le hq with hq | hq <;> omega)

theorem bk_sorted {l : List En} (hp : l.Pairwise fun a b => a.key < b.key) {size : Int} (hs : size = 60 ∨ size = 3600) : (l.map (bk size)).Pairwise fun a b => a.key ≤ b.key := by
  rw [List.pairwise_map]
  exact hp.imp fun h => bk_le h hs

theorem bk_one (x : En) : bk 1 x = x := by
  unfold bk
  rw [show kt x % 1 = 0 from Int.emod_one _]
  simp

theorem roll_one {l : List En} (h : l.Pairwise fun a b => a.key < b.key) : rollP 1 l = some l := by
  unfold rollP
  rw [show l.map (bk 1) = l by rw [List.map_congr_left (fun x _ => bk_one x), List.map_id']]
  have := allL_id l [] (by simpa using h)
  simpa [allL] using this

theorem book_some {ns : List Nd} {r n f : Int} {l : List En} (h : bookP ns r n f = some l) : (allP ns r 0 1099511627776).1 = 0 ∧ (allP ns r 0 1099511627776).2 = l ∧ l.all (pointB n f) = true := by
  unfold bookP at h
  split at h
  · rename_i hc
    cases h
    exact ⟨hc.1, rfl, hc.2⟩
  · cases h

theorem step_one {ns : List Nd} {r n f : Int} {l : List En} (h : bookP ns r n f = some l) : stepB 1 l ns r = true := by
  obtain ⟨h1, h2, _⟩ := book_some h
  have hp := (allP_facts (ns := ns) (r := r) (low := 0) (high := 1099511627776)).1
  rw [h2] at hp
  unfold stepB
  rw [roll_one hp, h1, h2]
  simp

end Go.Proofs.YtlojfgdpmaigmacGreatDoor

/- What the document says of bases: Book, Rolled, and its sameEntries. -/
namespace Go.Proofs.YtlojfgdpmaigmacGreatDoor
open Go.RowKit Plain

theorem en_ne {x y : En} (h : ¬ x = y) : (x.key == y.key) = false ∨ ((x.key == y.key) = true ∧ (x.c == y.c) = false) ∨ ((x.key == y.key) = true ∧ (x.c == y.c) = true ∧ (x.s == y.s) = false) ∨ ((x.key == y.key) = true ∧ (x.c == y.c) = true ∧ (x.s == y.s) = true ∧ (x.lo == y.lo) = false) ∨ ((x.key == y.key) = true ∧ (x.c == y.c) = true ∧ (x.s == y.s) = true ∧ (x.lo == y.lo) = true ∧ (x.hi == y.hi) = false) ∨ ((x.key == y.key) = true ∧ (x.c == y.c) = true ∧ (x.s == y.s) = true ∧ (x.lo == y.lo) = true ∧ (x.hi == y.hi) = true ∧ (x.t == y.t) = false) ∨ ((x.key == y.key) = true ∧ (x.c == y.c) = true ∧ (x.s == y.s) = true ∧ (x.lo == y.lo) = true ∧ (x.hi == y.hi) = true ∧ (x.t == y.t) = true ∧ (x.l == y.l) = false) := by
  obtain ⟨a0, a1, a2, a3, a4, a5, a6⟩ := x
  obtain ⟨b0, b1, b2, b3, b4, b5, b6⟩ := y
  simp only [En.mk.injEq] at h
  by_cases h0 : a0 = b0 <;> by_cases h1 : a1 = b1 <;> by_cases h2 : a2 = b2 <;> by_cases h3 : a3 = b3 <;> by_cases h4 : a4 = b4 <;> by_cases h5 : a5 = b5 <;> by_cases h6 : a6 = b6 <;> simp_all

end Go.Proofs.YtlojfgdpmaigmacGreatDoor

/- What a base knows of points: the document's Book. -/
namespace Go.Proofs.YtlojfgdpmaigmacGreatDoor
open Go.RowKit Plain

/-- A base, as it is handed over. -/
def baseV (A : Option Addr) (C : Nat) (ss : List ByteArray) (t0 t1 t2 : TR) (f : Int) : List Value := [.slice A ss.length C, .slice t0.A t0.ps.length t0.C, .int .i64 t0.r, .slice t1.A t1.ps.length t1.C, .int .i64 t1.r, .slice t2.A t2.ps.length t2.C, .int .i64 t2.r, .int .i64 f]

end Go.Proofs.YtlojfgdpmaigmacGreatDoor

/- What a tree tells of some keys is what of all that it tells has them. -/
namespace Go.Proofs.YtlojfgdpmaigmacGreatDoor
open Go.RowKit Plain

theorem allP_range {ns : List Nd} {r low high : Int} (h : (allP ns r 0 1099511627776).1 = 0) : allP ns r low high = (0, (allP ns r 0 1099511627776).2.filter (inR low high)) := by
  unfold allP at h ⊢
  by_cases hc : treeC ns r = 0
  · have hc' : ¬ treeC ns r ≠ 0 := by simpa using hc
    rw [if_neg hc'] at h ⊢
    rw [if_neg hc']
    obtain ⟨e1, _, _⟩ := walk_all (low := low) (high := high) hc
    obtain ⟨e2, _, _⟩ := walk_all (low := 0) (high := 1099511627776) hc
    obtain ⟨q, hW⟩ := treeC_W hc
    have eW : Wl ns low high 12 r = (Wl ns 0 1099511627776 12 r).filter (inR low high) := by
      rw [Wl_eq 12 _ _ _ _ _ hW, Wl_eq 12 _ _ _ _ _ hW, List.filter_filter]
      refine List.filter_congr fun x hx => ?_
      have := W_in 12 _ _ _ _ _ hW x hx
      simp only [inR]
      rw [show decide (0 ≤ x.key) = true by simpa using this.1, show decide (x.key < 1099511627776) = true by simpa using this.2]
      simp
    rw [← e1, ← e2, eW]
    rw [← e2] at h
    cases hA : allL (Wl ns 0 1099511627776 12 r) with
    | none =>
      rw [hA] at h
      simp at h
    | some ys =>
      have := allL_filter (P := fun k => decide (low ≤ k) && decide (k < high)) (Wl ns 0 1099511627776 12 r) [] ys (by simp) hA
      rw [show allL ((Wl ns 0 1099511627776 12 r).filter (inR low high)) = some (ys.filter (inR low high)) from this]
  · rw [if_pos hc] at h
    exact absurd h hc

end Go.Proofs.YtlojfgdpmaigmacGreatDoor

/- What a base knows, in plain terms: the document's words and the program's come to the same. -/
import Derived.Test.YtlojfgdpmaigmafDoorP31
import Derived.Test.YtlojfgdpmaigmafDoorP33
import Derived.Test.YtlojfgdpmaigmafDoorAllsWalk
import Derived.Test.YtlojfgdpmaigmafDoorP09
import Derived.Lib.SlicesS
namespace Go.Proofs.YtlojfgdpmaigmafDoor
open Go.RowKit Plain

/-- The place of a series, and the time, in a key. -/
def kp (x : En) : Int := x.key / 1048576
def kt (x : En) : Int := x.key % 1048576
/-- The entry of the bucket in which a time is. -/
def bk (size : Int) (x : En) : En := { x with key := x.key - kt x % size }

def pointB (n f : Int) (x : En) : Bool := decide (kp x < n) && (decide (f ≤ kt x) && decide (x.t = kt x))

/-- What is known of points; none: that may not be. -/
def bookP (ns : List Nd) (r n f : Int) : Option (List En) :=
  if (allP ns r 0 1099511627776).1 = 0 ∧ (allP ns r 0 1099511627776).2.all (pointB n f) = true then some (allP ns r 0 1099511627776).2 else none
def rollP (size : Int) (l : List En) : Option (List En) := allL (l.map (bk size))
def stepB (size : Int) (l : List En) (ns : List Nd) (r : Int) : Bool :=
  match rollP size l with
  | none => false
  | some w => decide ((allP ns r 0 1099511627776).1 = 0) && decide (w = (allP ns r 0 1099511627776).2)
def treesB (n f : Int) (n0 : List Nd) (r0 : Int) (n1 : List Nd) (r1 : Int) (n2 : List Nd) (r2 : Int) : Bool :=
  match bookP n0 r0 n f with
  | none => false
  | some l => stepB 1 l n0 r0 && (stepB 60 l n1 r1 && stepB 3600 l n2 r2)
def okN (ss : List ByteArray) (i : Nat) : Bool := nameB (ss.getD i ByteArray.empty) && !Lib.containsS (ss.take i) (ss.getD i ByteArray.empty)
def namesB (ss : List ByteArray) : Bool := (List.range ss.length).all (okN ss)
def baseB (ss : List ByteArray) (f : Int) (n0 : List Nd) (r0 : Int) (n1 : List Nd) (r1 : Int) (n2 : List Nd) (r2 : Int) : Bool :=
  decide (ss.length ≤ 16) && (inB f 0 1048575 && (decide (f % 3600 = 0) && (namesB ss && treesB ss.length f n0 r0 n1 r1 n2 r2)))

/-! ### What allL makes: keys that rise, and no more than it was given -/

theorem allL_inc : ∀ (xs : List En) (o r : List En), (o.Pairwise fun a b => a.key < b.key) → (∀ z ∈ o, Good z.ru) → (∀ z ∈ xs, Good z.ru) → xs.foldl insO (some o) = some r →
    (r.Pairwise fun a b => a.key < b.key) ∧ (∀ z ∈ r, Good z.ru) ∧ ∀ z ∈ r, (∃ y ∈ o, y.key = z.key) ∨ ∃ y ∈ xs, y.key = z.key
  | [], o, r, hp, hg, _, h => by
    cases h
    exact ⟨hp, hg, fun z hz => .inl ⟨z, hz, rfl⟩⟩
  | x :: xs, o, r, hp, hg, hx, h => by
    rw [List.foldl_cons] at h
    cases hi : insO (some o) x with
    | none => rw [hi, fold_none] at h; cases h
    | some o' =>
      rw [hi] at h
      have hi' : ins o x = some o' := hi
      obtain ⟨q1, q2⟩ := ins_inc hp hi'
      obtain ⟨q3, q4⟩ := ins_good (hx x List.mem_cons_self) hg hi'
      obtain ⟨e1, e2, e3⟩ := allL_inc xs o' r q1 q3 (fun z hz => hx z (List.mem_cons_of_mem _ hz)) h
      refine ⟨e1, e2, fun z hz => ?_⟩
      rcases e3 z hz with ⟨y, hy, e⟩ | ⟨y, hy, e⟩
      · rcases q2 y hy with e' | ⟨u, hu, e'⟩
        · exact .inr ⟨x, List.mem_cons_self, by omega⟩
        · exact .inl ⟨u, hu, by omega⟩
      · exact .inr ⟨y, List.mem_cons_of_mem _ hy, e⟩

theorem allL_id : ∀ (xs o : List En), ((o ++ xs).Pairwise fun a b => a.key < b.key) → xs.foldl insO (some o) = some (o ++ xs)
  | [], o, _ => by simp
  | x :: xs, o, hp => by
    have h1 : ∀ z ∈ o, z.key < x.key := fun z hz => (List.pairwise_append.1 hp).2.2 z hz x List.mem_cons_self
    rw [List.foldl_cons, show insO (some o) x = some (o ++ [x]) from ins_end h1, allL_id xs (o ++ [x]) (by simpa using hp)]
    simp

/-- What a tree tells of all its keys. -/
theorem allP_facts {ns : List Nd} {r low high : Int} : ((allP ns r low high).2.Pairwise fun a b => a.key < b.key) ∧ (∀ z ∈ (allP ns r low high).2, Good z.ru) ∧ ∀ z ∈ (allP ns r low high).2, 0 ≤ z.key ∧ z.key < 1099511627776 := by
  unfold allP
  split
  · simp
  · rename_i hc
    have hc' : treeC ns r = 0 := by simpa using hc
    obtain ⟨e1, g1, _⟩ := walk_all (low := low) (high := high) hc'
    rw [← e1]
    cases hA : allL (Wl ns low high 12 r) with
    | none => simp
    | some ys =>
      obtain ⟨q1, q2, q3⟩ := allL_inc _ [] ys (by simp) (by simp) g1 hA
      refine ⟨q1, q2, fun z hz => ?_⟩
      rcases q3 z hz with ⟨y, hy, _⟩ | ⟨y, hy, e⟩
      · simp at hy
      · obtain ⟨q, hW⟩ := treeC_W hc'
        rw [Wl_eq 12 _ _ _ _ _ hW] at hy
        have := W_in 12 _ _ _ _ _ hW y (List.mem_filter.1 hy).1
        omega

theorem allP_max (ns : List Nd) (r : Int) : allP ns r 0 9223372036854775807 = allP ns r 0 1099511627776 := by
  unfold allP
  split
  · rfl
  · rename_i hc
    have hc' : treeC ns r = 0 := by simpa using hc
    obtain ⟨e1, _, _⟩ := walk_all (low := 0) (high := 9223372036854775807) hc'
    obtain ⟨e2, _, _⟩ := walk_all (low := 0) (high := 1099511627776) hc'
    obtain ⟨q, hW⟩ := treeC_W hc'
    have : Wl ns 0 9223372036854775807 12 r = Wl ns 0 1099511627776 12 r := by
      rw [Wl_eq 12 _ _ _ _ _ hW, Wl_eq 12 _ _ _ _ _ hW]
      refine List.filter_congr fun x hx => ?_
      have := W_in 12 _ _ _ _ _ hW x hx
      simp only [inR]
      congr 1
      exact decide_eq_decide.2 (by omega)
    rw [← e1, ← e2, this]

/-! ### Buckets -/

theorem bk_key (x : En) (size : Int) : (bk size x).key = (kp x) * 1048576 + (kt x - kt x % size) := by
  show x.key - x.key % 1048576 % size = x.key / 1048576 * 1048576 + (x.key % 1048576 - x.key % 1048576 % size)
  omega

theorem bk_le {x y : En} (h : x.key < y.key) {size : Int} (hs : size = 60 ∨ size = 3600) : (bk size x).key ≤ (bk size y).key := by
  show x.key - x.key % 1048576 % size ≤ y.key - y.key % 1048576 % size
  have hq : x.key / 1048576 ≤ y.key / 1048576 := Int.ediv_le_ediv (by decide) (Int.le_of_lt h)
  rcases hs with rfl | rfl <;> (rcases Int.lt_or_eq_of_le hq with hq | hq <;> omega)

theorem bk_sorted {l : List En} (hp : l.Pairwise fun a b => a.key < b.key) {size : Int} (hs : size = 60 ∨ size = 3600) : (l.map (bk size)).Pairwise fun a b => a.key ≤ b.key := by
  rw [List.pairwise_map]
  exact hp.imp fun h => bk_le h hs

theorem bk_one (x : En) : bk 1 x = x := by
  unfold bk
  rw [show kt x % 1 = 0 from Int.emod_one _]
  simp

theorem roll_one {l : List En} (h : l.Pairwise fun a b => a.key < b.key) : rollP 1 l = some l := by
  unfold rollP
  rw [show l.map (bk 1) = l by rw [List.map_congr_left (fun x _ => bk_one x), List.map_id']]
  have := allL_id l [] (by simpa using h)
  simpa [allL] using this

theorem book_some {ns : List Nd} {r n f : Int} {l : List En} (h : bookP ns r n f = some l) : (allP ns r 0 1099511627776).1 = 0 ∧ (allP ns r 0 1099511627776).2 = l ∧ l.all (pointB n f) = true := by
  unfold bookP at h
  split at h
  · rename_i hc
    cases h
    exact ⟨hc.1, rfl, hc.2⟩
  · cases h

theorem step_one {ns : List Nd} {r n f : Int} {l : List En} (h : bookP ns r n f = some l) : stepB 1 l ns r = true := by
  obtain ⟨h1, h2, _⟩ := book_some h
  have hp := (allP_facts (ns := ns) (r := r) (low := 0) (high := 1099511627776)).1
  rw [h2] at hp
  unfold stepB
  rw [roll_one hp, h1, h2]
  simp

end Go.Proofs.YtlojfgdpmaigmafDoor

/- What a tree tells of some keys is what of all that it tells has them. -/
namespace Go.Proofs.YtlojfgdpmaigmafDoor
open Go.RowKit Plain

end Go.Proofs.YtlojfgdpmaigmafDoor

/- Copies of rows, and rows of nodes. -/
import Derived.Test.YtlojfgdpmaigmafDoorP04
import Derived.Laws.AppendOwnNone
import Derived.Deep.RegionHeld3
namespace Go.Proofs.YtlojfgdpmaigmafDoor
open Go.RowKit

theorem nextB {B : Nat} {w cur w1 : World} (h : Below B w cur) (hB : B ≤ w.heap.size) (hb : Below cur.heap.size cur w1) : Below B w w1 :=
  h.trans (hb.mono (Nat.le_trans hB h.size))

theorem RowAt.up {w cur : World} {A : Option Addr} {vs : List Value} (h : RowAt w.heap.size w A vs) (hb : Below w.heap.size w cur) : RowAt cur.heap.size cur A vs :=
  (h.below hb (Nat.le_refl _)).mono hb.size

theorem flatE_one (xs : List En) : ∀ u ∈ flatE xs, u.oneCell' = true := by
  induction xs with
  | nil => simp [flatE]
  | cons x r ih =>
    intro u hu
    simp only [flatE, En.vals, List.cons_append, List.nil_append, List.mem_cons] at hu
    rcases hu with h | h | h | h | h | h | h | h
    all_goals first | (subst h; rfl) | exact ih u h

/-- What is owned lies there. -/
theorem own_row {w : World} {base : Nat} {e : TypeId} {size n : Nat} {v : Value} {vs : List Value} (h : w.ownsRow base e size v n vs) :
    ∃ A C, v = .slice A n C ∧ (A = none → C = 0) ∧ n ≤ C ∧ C ≤ maxLen ∧ RowAt w.heap.size w A vs := by
  rcases h.2 with ⟨hv, hn⟩ | ⟨g, cap, cur, hv, hb, hg, hl, hm, hs, ht⟩
  · subst hv hn
    refine ⟨none, 0, rfl, fun _ => rfl, Nat.le_refl _, Nat.zero_le _, .inl ?_⟩
    have := h.1
    simpa using this
  · subst hv
    refine ⟨some ⟨g, 0, none⟩, cap, rfl, (fun h => by cases h), hl, hm, .inr ⟨g, 0, rfl, (Array.getElem?_eq_some_iff.1 hg).1, fun j u hu => ?_⟩⟩
    have hj : j < n * size := by
      have := (List.getElem?_eq_some_iff.1 hu).1
      rw [h.1] at this
      exact this
    rw [Nat.zero_add, h.cellAt j hj]
    exact hu

theorem infoE : (Tryd.prog.info? 48).map (fun i => (i.zero, i.size, i.bytes)) = some (some (.agg #[.int .i64 0, .int .i64 0, .int .i64 0, .int .i64 0, .int .i64 0, .int .i64 0, .int .i64 0]), 7, 56) := by kernel_rfl
theorem infoInt : (Tryd.prog.info? 3).map (fun i => (i.zero, i.size, i.bytes)) = some (some (.int .i64 0), 1, 8) := by kernel_rfl

/-- A node, and where its lists lie. -/
structure Nd where
  leaf : Bool
  ents : List En
  keys : List Int
  kids : List Int
  buf : List En
deriving DecidableEq, Inhabited

structure PN where
  leaf : Bool
  eA : Option Addr
  eC : Nat
  ents : List En
  kA : Option Addr
  kC : Nat
  keys : List Int
  dA : Option Addr
  dC : Nat
  kids : List Int
  bA : Option Addr
  bC : Nat
  buf : List En
deriving Inhabited

def PN.nd (p : PN) : Nd := ⟨p.leaf, p.ents, p.keys, p.kids, p.buf⟩
def PN.vals (p : PN) : List Value := [.bool p.leaf, .slice p.eA p.ents.length p.eC, .slice p.kA p.keys.length p.kC, .slice p.dA p.kids.length p.dC, .slice p.bA p.buf.length p.bC]

structure PN.ok (B : Nat) (w : World) (p : PN) : Prop where
  e : RowAt B w p.eA (flatE p.ents)
  k : RowAt B w p.kA (ints p.keys)
  d : RowAt B w p.dA (ints p.kids)
  b : RowAt B w p.bA (flatE p.buf)
  en : p.eA = none → p.eC = 0
  kn : p.kA = none → p.kC = 0
  dn : p.dA = none → p.dC = 0
  bn : p.bA = none → p.bC = 0
  ez : p.ents.length * 56 ≤ 140737488351232
  kz : p.keys.length * 8 ≤ 140737488351232
  dz : p.kids.length * 8 ≤ 140737488351232
  bz : p.buf.length * 56 ≤ 140737488351232

theorem PN.ok.below {B B' : Nat} {w w' : World} {p : PN} (h : p.ok B w) (hb : Below B' w w') (hB : B ≤ B') : p.ok B w' :=
  ⟨h.e.below hb hB, h.k.below hb hB, h.d.below hb hB, h.b.below hb hB, h.en, h.kn, h.dn, h.bn, h.ez, h.kz, h.dz, h.bz⟩
theorem PN.ok.mono {B B' : Nat} {w : World} {p : PN} (h : p.ok B w) (hB : B ≤ B') : p.ok B' w :=
  ⟨h.e.mono hB, h.k.mono hB, h.d.mono hB, h.b.mono hB, h.en, h.kn, h.dn, h.bn, h.ez, h.kz, h.dz, h.bz⟩

def flatN : List PN → List Value
  | [] => []
  | x :: r => x.vals ++ flatN r

theorem flatN_length : ∀ ps : List PN, (flatN ps).length = ps.length * 5
  | [] => rfl
  | x :: r => by simp [flatN, PN.vals, flatN_length r]; omega

theorem flatN_get (ps : List PN) (k j : Nat) (hk : k < ps.length) (hj : j < 5) : (flatN ps)[k * 5 + j]? = (ps[k]).vals[j]? := by
  induction ps generalizing k with
  | nil => simp at hk
  | cons x r ih =>
    cases k with
    | zero => simp only [flatN]; rw [List.getElem?_append_left (by simp [PN.vals]; omega)]; simp
    | succ k =>
      simp only [flatN]
      rw [List.getElem?_append_right (by simp [PN.vals]; omega)]
      have := ih k (by simpa using hk)
      simp only [PN.vals, List.length_cons, List.length_nil] at *
      rw [show (k + 1) * 5 + j - (0 + 1 + 1 + 1 + 1 + 1) = k * 5 + j by omega]
      simpa using this

structure PnAt (w : World) (b o : Nat) (p : PN) : Prop where
  c0 : w.cell? ⟨b, o, none⟩ = some (.bool p.leaf)
  c1 : w.cell? ⟨b, o + 1, none⟩ = some (.slice p.eA p.ents.length p.eC)
  c2 : w.cell? ⟨b, o + 2, none⟩ = some (.slice p.kA p.keys.length p.kC)
  c3 : w.cell? ⟨b, o + 3, none⟩ = some (.slice p.dA p.kids.length p.dC)
  c4 : w.cell? ⟨b, o + 4, none⟩ = some (.slice p.bA p.buf.length p.bC)

theorem RowAt.pn {B : Nat} {w : World} {A : Option Addr} {ps : List PN} (h : RowAt B w A (flatN ps)) {k : Nat} (hk : k < ps.length) :
    ∃ b o, A = some ⟨b, o, none⟩ ∧ b < B ∧ PnAt w b (o + k * 5) ps[k] := by
  rcases h with h | ⟨b, o, hA, hlt, hc⟩
  · have := flatN_length ps; rw [h] at this; simp at this; omega
  · refine ⟨b, o, hA, hlt, ?_⟩
    have g : ∀ j, j < 5 → ∀ u, (ps[k]).vals[j]? = some u → w.cell? ⟨b, o + k * 5 + j, none⟩ = some u := fun j hj u hu => by
      have := hc (k * 5 + j) u (by rw [flatN_get ps k j hk hj]; exact hu)
      rwa [← Nat.add_assoc] at this
    exact ⟨g 0 (by decide) _ rfl, g 1 (by decide) _ rfl, g 2 (by decide) _ rfl, g 3 (by decide) _ rfl, g 4 (by decide) _ rfl⟩

/-- The nodes of a tree lie there. -/
structure NodesAt (B : Nat) (w : World) (A : Option Addr) (ps : List PN) : Prop where
  row : RowAt B w A (flatN ps)
  each : ∀ k (h : k < ps.length), (ps[k]).ok B w
  z : ps.length * 104 ≤ 140737488351232

theorem NodesAt.below {B B' : Nat} {w w' : World} {A : Option Addr} {ps : List PN} (h : NodesAt B w A ps) (hb : Below B' w w') (hB : B ≤ B') : NodesAt B w' A ps :=
  ⟨h.row.below hb hB, fun k hk => (h.each k hk).below hb hB, h.z⟩
theorem NodesAt.mono {B B' : Nat} {w : World} {A : Option Addr} {ps : List PN} (h : NodesAt B w A ps) (hB : B ≤ B') : NodesAt B' w A ps :=
  ⟨h.row.mono hB, fun k hk => (h.each k hk).mono hB, h.z⟩
theorem NodesAt.up {w cur : World} {A : Option Addr} {ps : List PN} (h : NodesAt w.heap.size w A ps) (hb : Below w.heap.size w cur) : NodesAt cur.heap.size cur A ps :=
  (h.below hb (Nat.le_refl _)).mono hb.size

end Go.Proofs.YtlojfgdpmaigmafDoor

/- Two trees that hold the same are found the same. -/
namespace Go.Proofs.YtlojfgdpmaigmafDoor
open Go.RowKit

theorem bcells {W w1 : World} {B : Nat} (hb : Below B W w1) : (∀ b o, b < B → w1.cell? ⟨b, o, none⟩ = W.cell? ⟨b, o, none⟩) ∧ (∀ b o, b < B → w1.frozen? ⟨b, o, none⟩ = W.frozen? ⟨b, o, none⟩) :=
  ⟨fun b o h => hb.cell (p := ⟨b, o, none⟩) h, fun b o h => hb.frozen (p := ⟨b, o, none⟩) h⟩

theorem RowAt.go {B B' : Nat} {w w' : World} {A : Option Addr} {vs : List Value} (h : RowAt B w A vs) (hb : Below B' w w') (hB : B ≤ B') (hw : B' ≤ w.heap.size) : RowAt w'.heap.size w' A vs :=
  (h.below hb hB).mono (Nat.le_trans hB (Nat.le_trans hw hb.size))

theorem two {w : World} (a b : Obj) : Below w.heap.size w ((w.alloc a).alloc b) := ((Below.refl _ _).alloc (Nat.le_refl _) _).alloc (by simp) _

end Go.Proofs.YtlojfgdpmaigmafDoor

/- Blocks that are known whole; blocks of one's own. -/
namespace Go.Proofs.YtlojfgdpmaigmafDoor
open Go.RowKit

/-- Block b holds these cells and no others; none is frozen. -/
def RowL (w : World) (b : Nat) (t : TypeId) (vs : List Value) : Prop := w.heap[b]? = some (.cells vs.toArray t (0, 0))

theorem RowL.lt {w : World} {b : Nat} {t : TypeId} {vs : List Value} (h : RowL w b t vs) : b < w.heap.size := (Array.getElem?_eq_some_iff.1 h).1

theorem RowL.of_block {w w' : World} {b : Nat} {t : TypeId} {vs : List Value} (h : RowL w b t vs) (e : w'.heap[b]? = w.heap[b]?) : RowL w' b t vs := e.trans h

theorem RowL.below {w w' : World} {b B : Nat} {t : TypeId} {vs : List Value} (h : RowL w b t vs) (hb : Below B w w') (hB : b < B) : RowL w' b t vs := h.of_block (hb.block b hB)

theorem RowL.cell {w : World} {b : Nat} {t : TypeId} {vs : List Value} (h : RowL w b t vs) (j : Nat) : w.cell? ⟨b, j, none⟩ = vs[j]? := by
  unfold RowL at h
  simp [World.cell?, h]

theorem RowL.frozen {w : World} {b : Nat} {t : TypeId} {vs : List Value} (h : RowL w b t vs) (j : Nat) : w.frozen? ⟨b, j, none⟩ = false := by
  unfold RowL at h
  simp [World.frozen?, h]

theorem RowL.set {w : World} {b : Nat} {t : TypeId} {vs : List Value} (h : RowL w b t vs) (i : Nat) (v : Value) : RowL (w.setCell ⟨b, i, none⟩ v) b t (vs.set i v) := by
  unfold RowL at *
  simp [World.setCell, Array.getElem?_modify, h]

theorem rowL_alloc (w : World) (vs : List Value) (t : TypeId) : RowL (w.alloc (.cells vs.toArray t)) w.heap.size t vs := by
  unfold RowL
  exact heap_alloc_new w _

theorem own_of_block {w w' : World} {base : Nat} {e : TypeId} {size n : Nat} {v : Value} {vs : List Value} (h : w.ownsRow base e size v n vs) (hk : ∀ k, v.ownBlock = some k → w'.heap[k]? = w.heap[k]?) : w'.ownsRow base e size v n vs := by
  refine ⟨h.1, ?_⟩
  rcases h.2 with hn | ⟨g, cap, cur, rfl, hb, hg, rest⟩
  · exact .inl hn
  · exact .inr ⟨g, cap, cur, rfl, hb, (hk g rfl).trans hg, rest⟩

theorem own_mono {w : World} {base base' : Nat} {e : TypeId} {size n : Nat} {v : Value} {vs : List Value} (h : w.ownsRow base' e size v n vs) (hb : base ≤ base') : w.ownsRow base e size v n vs := by
  refine ⟨h.1, ?_⟩
  rcases h.2 with hn | ⟨g, cap, cur, rfl, hb', rest⟩
  · exact .inl hn
  · exact .inr ⟨g, cap, cur, rfl, by omega, rest⟩

theorem own_ok {w : World} {base : Nat} {e : TypeId} {size n C : Nat} {A : Option Addr} {vs : List Value} (h : w.ownsRow base e size (.slice A n C) n vs) : RowAt w.heap.size w A vs ∧ (A = none → C = 0) := by
  obtain ⟨A', C', hv, hn, _, _, hr⟩ := own_row h
  cases hv
  exact ⟨hr, hn⟩

end Go.Proofs.YtlojfgdpmaigmafDoor

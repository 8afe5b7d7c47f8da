/- Copies of rows, and rows of nodes. -/
import Derived.Test.YtlojfgdpmaigmaeGreatDoorRows1
import Derived.Laws.AppendOwnNone
import Derived.Deep.RegionHeld3
import Derived.Deep.DeepCutAuto
namespace Go.Proofs.YtlojfgdpmaigmaeGreatDoor
open Go.RowKit

theorem nextB {B : Nat} {w cur w1 : World} (h : Below B w cur) (hB : B ≤ w.heap.size) (hb : Below cur.heap.size cur w1) : Below B w w1 :=
  h.trans (hb.mono (Nat.le_trans hB h.size))

theorem RowAt.up {w cur : World} {A : Option Addr} {vs : List Value} (h : RowAt w.heap.size w A vs) (hb : Below w.heap.size w cur) : RowAt cur.heap.size cur A vs :=
  (h.below hb (Nat.le_refl _)).mono hb.size

theorem flatE_one (xs : List En) : ∀ u ∈ flatE xs, u.oneCell' = true := by
  induction xs with
  | nil => simp [flatE]
  | cons x r ih =>
    intro u hu
    simp only [flatE, En.vals, List.cons_append, List.nil_append, List.mem_cons] at hu
    rcases hu with h | h | h | h | h | h | h | h
    all_goals first | (subst h; rfl) | exact ih u h

theorem ints_one (zs : List Int) : ∀ u ∈ ints zs, u.oneCell' = true := ints_oneCell _ _

/-- What is owned lies there. -/
theorem own_row {w : World} {base : Nat} {e : TypeId} {size n : Nat} {v : Value} {vs : List Value} (h : w.ownsRow base e size v n vs) :
    ∃ A C, v = .slice A n C ∧ (A = none → C = 0) ∧ n ≤ C ∧ C ≤ maxLen ∧ RowAt w.heap.size w A vs := by
  rcases h.2 with ⟨hv, hn⟩ | ⟨g, cap, cur, hv, hb, hg, hl, hm, hs, ht⟩
  · subst hv hn
    refine ⟨none, 0, rfl, fun _ => rfl, Nat.le_refl _, Nat.zero_le _, .inl ?_⟩
    have := h.1
    simpa using this
  · subst hv
    refine ⟨some ⟨g, 0, none⟩, cap, rfl, (fun h => by cases h), hl, hm, .inr ⟨g, 0, rfl, (Array.getElem?_eq_some_iff.1 hg).1, fun j u hu => ?_⟩⟩
    have hj : j < n * size := by
      have := (List.getElem?_eq_some_iff.1 hu).1
      rw [h.1] at this
      exact this
    rw [Nat.zero_add, h.cellAt j hj]
    exact hu

theorem infoE : (Tryz.prog.info? 73).map (fun i => (i.zero, i.size, i.bytes)) = some (some (.agg #[.int .i64 0, .int .i64 0, .int .i64 0, .int .i64 0, .int .i64 0, .int .i64 0, .int .i64 0]), 7, 56) := by kernel_rfl
theorem infoInt : (Tryz.prog.info? 3).map (fun i => (i.zero, i.size, i.bytes)) = some (some (.int .i64 0), 1, 8) := by kernel_rfl

theorem news_of {w : World} {B : Nat} {ad : Addr} {vs : List Value} (h : RowAt B w (some ad) vs) : ∀ j u, vs[j]? = some u → w.cell? (ad.add j) = some u := by
  rcases h with h | ⟨b, o, hA, _, hc⟩
  · subst h; intro j u hu; simp at hu
  · cases hA
    intro j u hu
    rw [WideShapes.add_plain]
    exact hc j u hu

set_option maxHeartbeats 400000 in
theorem freshE_any (A : Option Addr) (C : Nat) (xs : List En) (w : World) (h : RowAt w.heap.size w A (flatE xs)) (hA : A = none → C = 0) (hz : xs.length * 56 ≤ 140737488351232) :
    Calls Tryz.prog 81 #[.slice A xs.length C] w fun e w' => ∃ v, e = .returned v ∧ w'.ownsRow w.heap.size 73 7 v xs.length (flatE xs) ∧ Below w.heap.size w w' := by
  obtain ⟨i0, hi, hz0, hz1, hz2⟩ := info_parts infoE
  cases A with
  | none =>
    have hx : xs = [] := by
      rcases h with h | ⟨b, o, hA, _⟩
      · have := flatE_length xs; rw [h] at this; simp at this; exact List.eq_nil_of_length_eq_zero (by omega)
      · cases hA
    subst hx
    obtain rfl := hA rfl
    go_enter Tryz.func81, Tryz.ntmps81
    go_wp2_with (at_builtin; refine wpList_append_own_none rfl _ _ 32 rfl w.heap.size 73 i0 7 Tryz.underlying32 hi _ 0 [] rfl (World.ownsRow_nil _ _ _ _) rfl ?_)
    go_ret
    exact ⟨_, rfl, World.ownsRow_nil _ _ _ _, Below.refl _ _⟩
  | some ad =>
    go_enter Tryz.func81, Tryz.ntmps81
    go_wp2_with (at_builtin; refine wpList_append_own _ rfl _ _ 32 rfl w.heap.size 73 i0 _ 7 56 Tryz.underlying32 hi hz0 hz1 hz2 rfl (by decide) _ 0 [] rfl (World.ownsRow_nil _ _ _ _) ad xs.length C (flatE xs) rfl (flatE_length xs) (news_of h) (flatE_one xs) (by unfold maxLen; omega) (by omega) (Nat.le_refl _) ?_)
    intro v' w' hown hg _
    go_wp2
    go_ret
    exact ⟨_, rfl, hown, (Below.refl _ _).grown hg (Nat.le_refl _) (by simp [Value.ownBlock])⟩

set_option maxHeartbeats 400000 in
theorem freshI_any (A : Option Addr) (C : Nat) (zs : List Int) (w : World) (h : RowAt w.heap.size w A (ints zs)) (hA : A = none → C = 0) (hz : zs.length * 8 ≤ 140737488351232) :
    Calls Tryz.prog 97 #[.slice A zs.length C] w fun e w' => ∃ v, e = .returned v ∧ w'.ownsRow w.heap.size 3 1 v zs.length (ints zs) ∧ Below w.heap.size w w' := by
  obtain ⟨i0, hi, hz0, hz1, hz2⟩ := info_parts infoInt
  cases A with
  | none =>
    have hx : zs = [] := by
      rcases h with h | ⟨b, o, hA, _⟩
      · simpa [ints] using h
      · cases hA
    subst hx
    obtain rfl := hA rfl
    go_enter Tryz.func97, Tryz.ntmps97
    go_wp2_with (at_builtin; refine wpList_append_own_none rfl _ _ 52 rfl w.heap.size 3 i0 1 Tryz.underlying52 hi _ 0 [] rfl (World.ownsRow_nil _ _ _ _) rfl ?_)
    go_ret
    exact ⟨_, rfl, World.ownsRow_nil _ _ _ _, Below.refl _ _⟩
  | some ad =>
    go_enter Tryz.func97, Tryz.ntmps97
    go_wp2_with (at_builtin; refine wpList_append_own _ rfl _ _ 52 rfl w.heap.size 3 i0 _ 1 8 Tryz.underlying52 hi hz0 hz1 hz2 rfl (by decide) _ 0 [] rfl (World.ownsRow_nil _ _ _ _) ad zs.length C (ints zs) rfl (by simp [ints]) (news_of h) (ints_one zs) (by unfold maxLen; omega) (by omega) (Nat.le_refl _) ?_)
    intro v' w' hown hg _
    go_wp2
    go_ret
    exact ⟨_, rfl, hown, (Below.refl _ _).grown hg (Nat.le_refl _) (by simp [Value.ownBlock])⟩

/-- A node, and where its lists lie. -/
structure Nd where
  leaf : Bool
  ents : List En
  keys : List Int
  kids : List Int
  buf : List En
deriving DecidableEq, Inhabited

structure PN where
  leaf : Bool
  eA : Option Addr
  eC : Nat
  ents : List En
  kA : Option Addr
  kC : Nat
  keys : List Int
  dA : Option Addr
  dC : Nat
  kids : List Int
  bA : Option Addr
  bC : Nat
  buf : List En
deriving Inhabited

def PN.nd (p : PN) : Nd := ⟨p.leaf, p.ents, p.keys, p.kids, p.buf⟩
def PN.vals (p : PN) : List Value := [.bool p.leaf, .slice p.eA p.ents.length p.eC, .slice p.kA p.keys.length p.kC, .slice p.dA p.kids.length p.dC, .slice p.bA p.buf.length p.bC]

structure PN.ok (B : Nat) (w : World) (p : PN) : Prop where
  e : RowAt B w p.eA (flatE p.ents)
  k : RowAt B w p.kA (ints p.keys)
  d : RowAt B w p.dA (ints p.kids)
  b : RowAt B w p.bA (flatE p.buf)
  en : p.eA = none → p.eC = 0
  kn : p.kA = none → p.kC = 0
  dn : p.dA = none → p.dC = 0
  bn : p.bA = none → p.bC = 0
  ez : p.ents.length * 56 ≤ 140737488351232
  kz : p.keys.length * 8 ≤ 140737488351232
  dz : p.kids.length * 8 ≤ 140737488351232
  bz : p.buf.length * 56 ≤ 140737488351232

theorem PN.ok.below {B B' : Nat} {w w' : World} {p : PN} (h : p.ok B w) (hb : Below B' w w') (hB : B ≤ B') : p.ok B w' :=
  ⟨h.e.below hb hB, h.k.below hb hB, h.d.below hb hB, h.b.below hb hB, h.en, h.kn, h.dn, h.bn, h.ez, h.kz, h.dz, h.bz⟩
theorem PN.ok.mono {B B' : Nat} {w : World} {p : PN} (h : p.ok B w) (hB : B ≤ B') : p.ok B' w :=
  ⟨h.e.mono hB, h.k.mono hB, h.d.mono hB, h.b.mono hB, h.en, h.kn, h.dn, h.bn, h.ez, h.kz, h.dz, h.bz⟩

def flatN : List PN → List Value
  | [] => []
  | x :: r => x.vals ++ flatN r

theorem flatN_length : ∀ ps : List PN, (flatN ps).length = ps.length * 5
  | [] => rfl
  | x :: r => by simp [flatN, PN.vals, flatN_length r]; omega

theorem flatN_append : ∀ xs ys : List PN, flatN (xs ++ ys) = flatN xs ++ flatN ys
  | [], _ => rfl
  | x :: r, ys => by simp [flatN, flatN_append r ys]

theorem flatN_get (ps : List PN) (k j : Nat) (hk : k < ps.length) (hj : j < 5) : (flatN ps)[k * 5 + j]? = (ps[k]).vals[j]? := by
  induction ps generalizing k with
  | nil => simp at hk
  | cons x r ih =>
    cases k with
    | zero => simp only [flatN]; rw [List.getElem?_append_left (by simp [PN.vals]; omega)]; simp
    | succ k =>
      simp only [flatN]
      rw [List.getElem?_append_right (by simp [PN.vals]; omega)]
      have := ih k (by simpa using hk)
      simp only [PN.vals, List.length_cons, List.length_nil] at *
      rw [show (k + 1) * 5 + j - (0 + 1 + 1 + 1 + 1 + 1) = k * 5 + j by omega]
      simpa using this

structure PnAt (w : World) (b o : Nat) (p : PN) : Prop where
  c0 : w.cell? ⟨b, o, none⟩ = some (.bool p.leaf)
  c1 : w.cell? ⟨b, o + 1, none⟩ = some (.slice p.eA p.ents.length p.eC)
  c2 : w.cell? ⟨b, o + 2, none⟩ = some (.slice p.kA p.keys.length p.kC)
  c3 : w.cell? ⟨b, o + 3, none⟩ = some (.slice p.dA p.kids.length p.dC)
  c4 : w.cell? ⟨b, o + 4, none⟩ = some (.slice p.bA p.buf.length p.bC)

theorem RowAt.pn {B : Nat} {w : World} {A : Option Addr} {ps : List PN} (h : RowAt B w A (flatN ps)) {k : Nat} (hk : k < ps.length) :
    ∃ b o, A = some ⟨b, o, none⟩ ∧ b < B ∧ PnAt w b (o + k * 5) ps[k] := by
  rcases h with h | ⟨b, o, hA, hlt, hc⟩
  · have := flatN_length ps; rw [h] at this; simp at this; omega
  · refine ⟨b, o, hA, hlt, ?_⟩
    have g : ∀ j, j < 5 → ∀ u, (ps[k]).vals[j]? = some u → w.cell? ⟨b, o + k * 5 + j, none⟩ = some u := fun j hj u hu => by
      have := hc (k * 5 + j) u (by rw [flatN_get ps k j hk hj]; exact hu)
      rwa [← Nat.add_assoc] at this
    exact ⟨g 0 (by decide) _ rfl, g 1 (by decide) _ rfl, g 2 (by decide) _ rfl, g 3 (by decide) _ rfl, g 4 (by decide) _ rfl⟩

/-- The nodes of a tree lie there. -/
structure NodesAt (B : Nat) (w : World) (A : Option Addr) (ps : List PN) : Prop where
  row : RowAt B w A (flatN ps)
  each : ∀ k (h : k < ps.length), (ps[k]).ok B w
  z : ps.length * 104 ≤ 140737488351232

theorem NodesAt.below {B B' : Nat} {w w' : World} {A : Option Addr} {ps : List PN} (h : NodesAt B w A ps) (hb : Below B' w w') (hB : B ≤ B') : NodesAt B w' A ps :=
  ⟨h.row.below hb hB, fun k hk => (h.each k hk).below hb hB, h.z⟩
theorem NodesAt.mono {B B' : Nat} {w : World} {A : Option Addr} {ps : List PN} (h : NodesAt B w A ps) (hB : B ≤ B') : NodesAt B' w A ps :=
  ⟨h.row.mono hB, fun k hk => (h.each k hk).mono hB, h.z⟩
theorem NodesAt.up {w cur : World} {A : Option Addr} {ps : List PN} (h : NodesAt w.heap.size w A ps) (hb : Below w.heap.size w cur) : NodesAt cur.heap.size cur A ps :=
  (h.below hb (Nat.le_refl _)).mono hb.size

end Go.Proofs.YtlojfgdpmaigmaeGreatDoor

/- Two trees that hold the same are found the same. -/
namespace Go.Proofs.YtlojfgdpmaigmaeGreatDoor
open Go.RowKit

theorem bcells {W w1 : World} {B : Nat} (hb : Below B W w1) : (∀ b o, b < B → w1.cell? ⟨b, o, none⟩ = W.cell? ⟨b, o, none⟩) ∧ (∀ b o, b < B → w1.frozen? ⟨b, o, none⟩ = W.frozen? ⟨b, o, none⟩) :=
  ⟨fun b o h => hb.cell (p := ⟨b, o, none⟩) h, fun b o h => hb.frozen (p := ⟨b, o, none⟩) h⟩

theorem RowAt.go {B B' : Nat} {w w' : World} {A : Option Addr} {vs : List Value} (h : RowAt B w A vs) (hb : Below B' w w') (hB : B ≤ B') (hw : B' ≤ w.heap.size) : RowAt w'.heap.size w' A vs :=
  (h.below hb hB).mono (Nat.le_trans hB (Nat.le_trans hw hb.size))

theorem two {w : World} (a b : Obj) : Below w.heap.size w ((w.alloc a).alloc b) := ((Below.refl _ _).alloc (Nat.le_refl _) _).alloc (by simp) _

end Go.Proofs.YtlojfgdpmaigmaeGreatDoor

/- Blocks that are known whole; blocks of one's own. -/
namespace Go.Proofs.YtlojfgdpmaigmaeGreatDoor
open Go.RowKit

/-- Block b holds these cells and no others; none is frozen. -/
def RowL (w : World) (b : Nat) (t : TypeId) (vs : List Value) : Prop := w.heap[b]? = some (.cells vs.toArray t (0, 0))

theorem RowL.lt {w : World} {b : Nat} {t : TypeId} {vs : List Value} (h : RowL w b t vs) : b < w.heap.size := (Array.getElem?_eq_some_iff.1 h).1

theorem RowL.of_block {w w' : World} {b : Nat} {t : TypeId} {vs : List Value} (h : RowL w b t vs) (e : w'.heap[b]? = w.heap[b]?) : RowL w' b t vs := e.trans h

theorem RowL.below {w w' : World} {b B : Nat} {t : TypeId} {vs : List Value} (h : RowL w b t vs) (hb : Below B w w') (hB : b < B) : RowL w' b t vs := h.of_block (hb.block b hB)

theorem RowL.cell {w : World} {b : Nat} {t : TypeId} {vs : List Value} (h : RowL w b t vs) (j : Nat) : w.cell? ⟨b, j, none⟩ = vs[j]? := by
  unfold RowL at h
  simp [World.cell?, h]

theorem RowL.frozen {w : World} {b : Nat} {t : TypeId} {vs : List Value} (h : RowL w b t vs) (j : Nat) : w.frozen? ⟨b, j, none⟩ = false := by
  unfold RowL at h
  simp [World.frozen?, h]

theorem RowL.set {w : World} {b : Nat} {t : TypeId} {vs : List Value} (h : RowL w b t vs) (i : Nat) (v : Value) : RowL (w.setCell ⟨b, i, none⟩ v) b t (vs.set i v) := by
  unfold RowL at *
  simp [World.setCell, Array.getElem?_modify, h]

theorem rowL_alloc (w : World) (vs : List Value) (t : TypeId) : RowL (w.alloc (.cells vs.toArray t)) w.heap.size t vs := by
  unfold RowL
  exact heap_alloc_new w _

theorem set_node (qs zs : List PN) (z p : PN) :
    (((((flatN (qs ++ z :: zs)).set (qs.length * 5) (.bool p.leaf)).set (qs.length * 5 + 1) (.slice p.eA p.ents.length p.eC)).set (qs.length * 5 + 2) (.slice p.kA p.keys.length p.kC)).set (qs.length * 5 + 3) (.slice p.dA p.kids.length p.dC)).set (qs.length * 5 + 4) (.slice p.bA p.buf.length p.bC) = flatN (qs ++ p :: zs) := by
  have hl := flatN_length qs
  simp only [flatN_append, flatN, ← hl]
  simp [List.set_append_right, PN.vals]

def nodeZ : Array Value := #[.bool false, .slice none 0 0, .slice none 0 0, .slice none 0 0, .slice none 0 0]
/-- What 'make' lays for n nodes. -/
def madeN (n : Nat) : Array Value := madeCells nodeZ (n * 5)

theorem infoN : (Tryz.prog.info? 112).map (fun i => (i.zero, i.size, i.bytes)) = some (some (.agg nodeZ), 5, 104) := by kernel_rfl

theorem own_of_block {w w' : World} {base : Nat} {e : TypeId} {size n : Nat} {v : Value} {vs : List Value} (h : w.ownsRow base e size v n vs) (hk : ∀ k, v.ownBlock = some k → w'.heap[k]? = w.heap[k]?) : w'.ownsRow base e size v n vs := by
  refine ⟨h.1, ?_⟩
  rcases h.2 with hn | ⟨g, cap, cur, rfl, hb, hg, rest⟩
  · exact .inl hn
  · exact .inr ⟨g, cap, cur, rfl, hb, (hk g rfl).trans hg, rest⟩

theorem own_mono {w : World} {base base' : Nat} {e : TypeId} {size n : Nat} {v : Value} {vs : List Value} (h : w.ownsRow base' e size v n vs) (hb : base ≤ base') : w.ownsRow base e size v n vs := by
  refine ⟨h.1, ?_⟩
  rcases h.2 with hn | ⟨g, cap, cur, rfl, hb', rest⟩
  · exact .inl hn
  · exact .inr ⟨g, cap, cur, rfl, by omega, rest⟩

def PN.blocks (p : PN) : List Nat := [p.eA, p.kA, p.dA, p.bA].filterMap (·.map Addr.block)

structure PN.own (base : Nat) (w : World) (p : PN) : Prop where
  e : w.ownsRow base 73 7 (.slice p.eA p.ents.length p.eC) p.ents.length (flatE p.ents)
  k : w.ownsRow base 3 1 (.slice p.kA p.keys.length p.kC) p.keys.length (ints p.keys)
  d : w.ownsRow base 3 1 (.slice p.dA p.kids.length p.dC) p.kids.length (ints p.kids)
  b : w.ownsRow base 73 7 (.slice p.bA p.buf.length p.bC) p.buf.length (flatE p.buf)
  ez : p.ents.length * 56 ≤ 140737488351232
  kz : p.keys.length * 8 ≤ 140737488351232
  dz : p.kids.length * 8 ≤ 140737488351232
  bz : p.buf.length * 56 ≤ 140737488351232

theorem mem_blocks {p : PN} {k : Nat} (h : (Value.slice p.eA p.ents.length p.eC).ownBlock = some k ∨ (Value.slice p.kA p.keys.length p.kC).ownBlock = some k ∨ (Value.slice p.dA p.kids.length p.dC).ownBlock = some k ∨ (Value.slice p.bA p.buf.length p.bC).ownBlock = some k) : k ∈ p.blocks := by
  have g : ∀ (A : Option Addr) (n c : Nat), (Value.slice A n c).ownBlock = some k → A.map Addr.block = some k := by
    intro A n c h
    cases A with
    | none => simp [Value.ownBlock] at h
    | some a => simpa [Value.ownBlock] using h
  simp only [PN.blocks, List.mem_filterMap, List.mem_cons, List.not_mem_nil, or_false]
  rcases h with h | h | h | h
  · exact ⟨_, .inl rfl, g _ _ _ h⟩
  · exact ⟨_, .inr (.inl rfl), g _ _ _ h⟩
  · exact ⟨_, .inr (.inr (.inl rfl)), g _ _ _ h⟩
  · exact ⟨_, .inr (.inr (.inr rfl)), g _ _ _ h⟩

theorem PN.own.of_blocks {base : Nat} {w w' : World} {p : PN} (h : p.own base w) (hk : ∀ k ∈ p.blocks, w'.heap[k]? = w.heap[k]?) : p.own base w' :=
  ⟨own_of_block h.e fun _ hb => hk _ (mem_blocks (.inl hb)), own_of_block h.k fun _ hb => hk _ (mem_blocks (.inr (.inl hb))), own_of_block h.d fun _ hb => hk _ (mem_blocks (.inr (.inr (.inl hb)))), own_of_block h.b fun _ hb => hk _ (mem_blocks (.inr (.inr (.inr hb)))), h.ez, h.kz, h.dz, h.bz⟩

theorem own_ok {w : World} {base : Nat} {e : TypeId} {size n C : Nat} {A : Option Addr} {vs : List Value} (h : w.ownsRow base e size (.slice A n C) n vs) : RowAt w.heap.size w A vs ∧ (A = none → C = 0) := by
  obtain ⟨A', C', hv, hn, _, _, hr⟩ := own_row h
  cases hv
  exact ⟨hr, hn⟩

theorem PN.own.ok {base : Nat} {w : World} {p : PN} (h : p.own base w) : p.ok w.heap.size w :=
  ⟨(own_ok h.e).1, (own_ok h.k).1, (own_ok h.d).1, (own_ok h.b).1, (own_ok h.e).2, (own_ok h.k).2, (own_ok h.d).2, (own_ok h.b).2, h.ez, h.kz, h.dz, h.bz⟩

theorem own_lt {w : World} {base : Nat} {e : TypeId} {size n C : Nat} {A : Option Addr} {vs : List Value} (h : w.ownsRow base e size (.slice A n C) n vs) (k : Nat) (hk : A.map Addr.block = some k) : base ≤ k ∧ k < w.heap.size := by
  cases A with
  | none => cases hk
  | some a => exact h.lt k (by simpa [Value.ownBlock] using hk)

theorem PN.own.lt {base : Nat} {w : World} {p : PN} (h : p.own base w) : ∀ k ∈ p.blocks, base ≤ k ∧ k < w.heap.size := by
  intro k hk
  simp only [PN.blocks, List.mem_filterMap, List.mem_cons, List.not_mem_nil, or_false] at hk
  obtain ⟨A, hA, hb⟩ := hk
  rcases hA with rfl | rfl | rfl | rfl
  · exact own_lt h.e k hb
  · exact own_lt h.k k hb
  · exact own_lt h.d k hb
  · exact own_lt h.b k hb

theorem blocks_nodup {q : PN} {s1 s2 s3 : Nat} (he : ∀ x, q.eA.map Addr.block = some x → x < s1) (hk : ∀ x, q.kA.map Addr.block = some x → s1 ≤ x ∧ x < s2) (hd : ∀ x, q.dA.map Addr.block = some x → s2 ≤ x ∧ x < s3)
    (hb : ∀ x, q.bA.map Addr.block = some x → s3 ≤ x) (h12 : s1 ≤ s2) (h23 : s2 ≤ s3) : q.blocks.Nodup := by
  obtain ⟨leaf, eA, eC, ents, kA, kC, keys, dA, dC, kids, bA, bC, buf⟩ := q
  simp only at he hk hd hb
  unfold PN.blocks
  cases eA <;> cases kA <;> cases dA <;> cases bA <;> simp_all <;> omega

end Go.Proofs.YtlojfgdpmaigmaeGreatDoor

/- Copy of package tree. -/
namespace Go.Proofs.YtlojfgdpmaigmaeGreatDoor
open Go.RowKit

theorem own_next {w1 w4 : World} {base : Nat} {e : TypeId} {size n : Nat} {v : Value} {vs : List Value} (o : w1.ownsRow base e size v n vs) (hb : Below w1.heap.size w1 w4) : w4.ownsRow base e size v n vs :=
  own_of_block o fun k hk => hb.block k (o.lt k hk).2

end Go.Proofs.YtlojfgdpmaigmaeGreatDoor

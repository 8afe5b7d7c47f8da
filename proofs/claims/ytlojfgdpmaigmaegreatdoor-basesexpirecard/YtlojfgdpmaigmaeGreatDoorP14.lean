/- Copies of rows, and rows of nodes. -/
import Derived.Test.YtlojfgdpmaigmaeGreatDoorP13
import Derived.Laws.AppendOwnNone
import Derived.Deep.RegionHeld3
import Derived.Deep.DeepCutAuto
namespace Go.Proofs.YtlojfgdpmaigmaeGreatDoor
open Go.RowKit

theorem nextB {B : Nat} {w cur w1 : World} (h : Below B w cur) (hB : B ≤ w.heap.size) (hb : Below cur.heap.size cur w1) : Below B w w1 :=
  h.trans (hb.mono (Nat.le_trans hB h.size))

theorem RowAt.up {w cur : World} {A : Option Addr} {vs : List Value} (h : RowAt w.heap.size w A vs) (hb : Below w.heap.size w cur) : RowAt cur.heap.size cur A vs :=
  (h.below hb (Nat.le_refl _)).mono hb.size

theorem flatE_one (xs : List En) : ∀ u ∈ flatE xs, u.oneCell' = true := by
  induction xs with
  | nil => simp [flatE]
  | cons x r ih =>
    intro u hu
    simp only [flatE, En.vals, List.cons_append, List.nil_append, List.mem_cons] at hu
    rcases hu with h | h | h | h | h | h | h | h
    all_goals first | (subst h; rfl) | exact ih u h

theorem ints_one (zs : List Int) : ∀ u ∈ ints zs, u.oneCell' = true := ints_oneCell _ _

/-- What is owned lies there. -/
theorem own_row {w : World} {base : Nat} {e : TypeId} {size n : Nat} {v : Value} {vs : List Value} (h : w.ownsRow base e size v n vs) :
    ∃ A C, v = .slice A n C ∧ (A = none → C = 0) ∧ n ≤ C ∧ C ≤ maxLen ∧ RowAt w.heap.size w A vs := by
  rcases h.2 with ⟨hv, hn⟩ | ⟨g, cap, cur, hv, hb, hg, hl, hm, hs, ht⟩
  · subst hv hn
    refine ⟨none, 0, rfl, fun _ => rfl, Nat.le_refl _, Nat.zero_le _, .inl ?_⟩
    have := h.1
    simpa using this
  · subst hv
    refine ⟨some ⟨g, 0, none⟩, cap, rfl, (fun h => by cases h), hl, hm, .inr ⟨g, 0, rfl, (Array.getElem?_eq_some_iff.1 hg).1, fun j u hu => ?_⟩⟩
    have hj : j < n * size := by
      have := (List.getElem?_eq_some_iff.1 hu).1
      rw [h.1] at this
      exact this
    rw [Nat.zero_add, h.cellAt j hj]
    exact hu

theorem infoE : (Tryz.prog.info? 73).map (fun i => (i.zero, i.size, i.bytes)) = some (some (.agg #[.int .i64 0, .int .i64 0, .int .i64 0, .int .i64 0, .int .i64 0, .int .i64 0, .int .i64 0]), 7, 56) := by kernel_rfl
theorem infoInt : (Tryz.prog.info? 3).map (fun i => (i.zero, i.size, i.bytes)) = some (some (.int .i64 0), 1, 8) := by kernel_rfl

theorem news_of {w : World} {B : Nat} {ad : Addr} {vs : List Value} (h : RowAt B w (some ad) vs) : ∀ j u, vs[j]? = some u → w.cell? (ad.add j) = some u := by
  rcases h with h | ⟨b, o, hA, _, hc⟩
  · subst h; intro j u hu; simp at hu
  · cases hA
    intro j u hu
    rw [WideShapes.add_plain]
    exact hc j u hu

set_option maxHeartbeats 400000 in
theorem freshE_any (A : Option Addr) (C : Nat) (xs : List En) (w : World) (h : RowAt w.heap.size w A (flatE xs)) (hA : A = none → C = 0) (hz : xs.length * 56 ≤ 140737488351232) :
    Calls Tryz.prog 81 #[.slice A xs.length C] w fun e w' => ∃ v, e = .returned v ∧ w'.ownsRow w.heap.size 73 7 v xs.length (flatE xs) ∧ Below w.heap.size w w' := by
  obtain ⟨i0, hi, hz0, hz1, hz2⟩ := info_parts infoE
  cases A with
  | none =>
    have hx : xs = [] := by
      rcases h with h | ⟨b, o, hA, _⟩
      · have := flatE_length xs; rw [h] at this; simp at this; exact List.eq_nil_of_length_eq_zero (by omega)
      · cases hA
    subst hx
    obtain rfl := hA rfl
    go_enter Tryz.func81, Tryz.ntmps81
    go_wp2_with (at_builtin; refine wpList_append_own_none rfl _ _ 32 rfl w.heap.size 73 i0 7 Tryz.underlying32 hi _ 0 [] rfl (World.ownsRow_nil _ _ _ _) rfl ?_)
    go_ret
    exact ⟨_, rfl, World.ownsRow_nil _ _ _ _, Below.refl _ _⟩
  | some ad =>
    go_enter Tryz.func81, Tryz.ntmps81
    go_wp2_with (at_builtin; refine wpList_append_own _ rfl _ _ 32 rfl w.heap.size 73 i0 _ 7 56 Tryz.underlying32 hi hz0 hz1 hz2 rfl (by decide) _ 0 [] rfl (World.ownsRow_nil _ _ _ _) ad xs.length C (flatE xs) rfl (flatE_length xs) (news_of h) (flatE_one xs) (by unfold maxLen; omega) (by omega) (Nat.le_refl _) ?_)
    intro v' w' hown hg _
    go_wp2
    go_ret
    exact ⟨_, rfl, hown, (Below.refl _ _).grown hg (Nat.le_refl _) (by simp [Value.ownBlock])⟩

set_option maxHeartbeats 400000 in
theorem freshI_any (A : Option Addr) (C : Nat) (zs : List Int) (w : World) (h : RowAt w.heap.size w A (ints zs)) (hA : A = none → C = 0) (hz : zs.length * 8 ≤ 140737488351232) :
    Calls Tryz.prog 97 #[.slice A zs.length C] w fun e w' => ∃ v, e = .returned v ∧ w'.ownsRow w.heap.size 3 1 v zs.length (ints zs) ∧ Below w.heap.size w w' := by
  obtain ⟨i0, hi, hz0, hz1, hz2⟩ := info_parts infoInt
  cases A with
  | none =>
    have hx : zs = [] := by
      rcases h with h | ⟨b, o, hA, _⟩
      · simpa [ints] using h
      · cases hA
    subst hx
    obtain rfl := hA rfl
    go_enter Tryz.func97, Tryz.ntmps97
    go_wp2_with (at_builtin; refine wpList_append_own_none rfl _ _ 52 rfl w.heap.size 3 i0 1 Tryz.underlying52 hi _ 0 [] rfl (World.ownsRow_nil _ _ _ _) rfl ?_)
    go_ret
    exact ⟨_, rfl, World.ownsRow_nil _ _ _ _, Below.refl _ _⟩
  | some ad =>
    go_enter Tryz.func97, Tryz.ntmps97
    go_wp2_with (at_builtin; refine wpList_append_own _ rfl _ _ 52 rfl w.heap.size 3 i0 _ 1 8 Tryz.underlying52 hi hz0 hz1 hz2 rfl (by decide) _ 0 [] rfl (World.ownsRow_nil _ _ _ _) ad zs.length C (ints zs) rfl (by simp [ints]) (news_of h) (ints_one zs) (by unfold maxLen; omega) (by omega) (Nat.le_refl _) ?_)
    intro v' w' hown hg _
    go_wp2
    go_ret
    exact ⟨_, rfl, hown, (Below.refl _ _).grown hg (Nat.le_refl _) (by simp [Value.ownBlock])⟩

/-- A node, and where its lists lie. -/
structure Nd where
  leaf : Bool
  ents : List En
  keys : List Int
  kids : List Int
  buf : List En
deriving DecidableEq, Inhabited

structure PN where
  leaf : Bool
  eA : Option Addr
  eC : Nat
  ents : List En
  kA : Option Addr
  kC : Nat
  keys : List Int
  dA : Option Addr
  dC : Nat
  kids : List Int
  bA : Option Addr
  bC : Nat
  buf : List En
deriving Inhabited

def PN.nd (p : PN) : Nd := ⟨p.leaf, p.ents, p.keys, p.kids, p.buf⟩
def PN.vals (p : PN) : List Value := [.bool p.leaf, .slice p.eA p.ents.length p.eC, .slice p.kA p.keys.length p.kC, .slice p.dA p.kids.length p.dC, .slice p.bA p.buf.length p.bC]

structure PN.ok (B : Nat) (w : World) (p : PN) : Prop where
  e : RowAt B w p.eA (flatE p.ents)
  k : RowAt B w p.kA (ints p.keys)
  d : RowAt B w p.dA (ints p.kids)
  b : RowAt B w p.bA (flatE p.buf)
  en : p.eA = none → p.eC = 0
  kn : p.kA = none → p.kC = 0
  dn : p.dA = none → p.dC = 0
  bn : p.bA = none → p.bC = 0
  ez : p.ents.length * 56 ≤ 140737488351232
  kz : p.keys.length * 8 ≤ 140737488351232
  dz : p.kids.length * 8 ≤ 140737488351232
  bz : p.buf.length * 56 ≤ 140737488351232

theorem PN.ok.below {B B' : Nat} {w w' : World} {p : PN} (h : p.ok B w) (hb : Below B' w w') (hB : B ≤ B') : p.ok B w' :=
  ⟨h.e.below hb hB, h.k.below hb hB, h.d.below hb hB, h.b.below hb hB, h.en, h.kn, h.dn, h.bn, h.ez, h.kz, h.dz, h.bz⟩
theorem PN.ok.mono {B B' : Nat} {w : World} {p : PN} (h : p.ok B w) (hB : B ≤ B') : p.ok B' w :=
  ⟨h.e.mono hB, h.k.mono hB, h.d.mono hB, h.b.mono hB, h.en, h.kn, h.dn, h.bn, h.ez, h.kz, h.dz, h.bz⟩

def flatN : List PN → List Value
  | [] => []
  | x :: r => x.vals ++ flatN r

theorem flatN_length : ∀ ps : List PN, (flatN ps).length = ps.length * 5
  | [] => rfl
  | x :: r => by simp [flatN, PN.vals, flatN_length r]; omega

theorem flatN_append : ∀ xs ys : List PN, flatN (xs ++ ys) = flatN xs ++ flatN ys
  | [], _ => rfl
  | x :: r, ys => by simp [flatN, flatN_append r ys]

theorem flatN_get (ps : List PN) (k j : Nat) (hk : k < ps.length) (hj : j < 5) : (flatN ps)[k * 5 + j]? = (ps[k]).vals[j]? := by
  induction ps generalizing k with
  | nil => simp at hk
  | cons x r ih =>
    cases k with
    | zero => simp only [flatN]; rw [List.getElem?_append_left (by simp [PN.vals]; omega)]; simp
    | succ k =>
      simp only [flatN]
      rw [List.getElem?_append_right (by simp [PN.vals]; omega)]
      have := ih k (by simpa using hk)
      simp only [PN.vals, List.length_cons, List.length_nil] at *
      rw [show (k + 1) * 5 + j - (0 + 1 + 1 + 1 + 1 + 1) = k * 5 + j by omega]
      simpa using this

structure PnAt (w : World) (b o : Nat) (p : PN) : Prop where
  c0 : w.cell? ⟨b, o, none⟩ = some (.bool p.leaf)
  c1 : w.cell? ⟨b, o + 1, none⟩ = some (.slice p.eA p.ents.length p.eC)
  c2 : w.cell? ⟨b, o + 2, none⟩ = some (.slice p.kA p.keys.length p.kC)
  c3 : w.cell? ⟨b, o + 3, none⟩ = some (.slice p.dA p.kids.length p.dC)
  c4 : w.cell? ⟨b, o + 4, none⟩ = some (.slice p.bA p.buf.length p.bC)

theorem RowAt.pn {B : Nat} {w : World} {A : Option Addr} {ps : List PN} (h : RowAt B w A (flatN ps)) {k : Nat} (hk : k < ps.length) :
    ∃ b o, A = some ⟨b, o, none⟩ ∧ b < B ∧ PnAt w b (o + k * 5) ps[k] := by
  rcases h with h | ⟨b, o, hA, hlt, hc⟩
  · have := flatN_length ps; rw [h] at this; simp at this; omega
  · refine ⟨b, o, hA, hlt, ?_⟩
    have g : ∀ j, j < 5 → ∀ u, (ps[k]).vals[j]? = some u → w.cell? ⟨b, o + k * 5 + j, none⟩ = some u := fun j hj u hu => by
      have := hc (k * 5 + j) u (by rw [flatN_get ps k j hk hj]; exact hu)
      rwa [← Nat.add_assoc] at this
    exact ⟨g 0 (by decide) _ rfl, g 1 (by decide) _ rfl, g 2 (by decide) _ rfl, g 3 (by decide) _ rfl, g 4 (by decide) _ rfl⟩

/-- The nodes of a tree lie there. -/
structure NodesAt (B : Nat) (w : World) (A : Option Addr) (ps : List PN) : Prop where
  row : RowAt B w A (flatN ps)
  each : ∀ k (h : k < ps.length), (ps[k]).ok B w
  z : ps.length * 104 ≤ 140737488351232

theorem NodesAt.below {B B' : Nat} {w w' : World} {A : Option Addr} {ps : List PN} (h : NodesAt B w A ps) (hb : Below B' w w') (hB : B ≤ B') : NodesAt B w' A ps :=
  ⟨h.row.below hb hB, fun k hk => (h.each k hk).below hb hB, h.z⟩
theorem NodesAt.mono {B B' : Nat} {w : World} {A : Option Addr} {ps : List PN} (h : NodesAt B w A ps) (hB : B ≤ B') : NodesAt B' w A ps :=
  ⟨h.row.mono hB, fun k hk => (h.each k hk).mono hB, h.z⟩
theorem NodesAt.up {w cur : World} {A : Option Addr} {ps : List PN} (h : NodesAt w.heap.size w A ps) (hb : Below w.heap.size w cur) : NodesAt cur.heap.size cur A ps :=
  (h.below hb (Nat.le_refl _)).mono hb.size

end Go.Proofs.YtlojfgdpmaigmaeGreatDoor

/- Two trees that hold the same are found the same. -/
namespace Go.Proofs.YtlojfgdpmaigmaeGreatDoor
open Go.RowKit

theorem bcells {W w1 : World} {B : Nat} (hb : Below B W w1) : (∀ b o, b < B → w1.cell? ⟨b, o, none⟩ = W.cell? ⟨b, o, none⟩) ∧ (∀ b o, b < B → w1.frozen? ⟨b, o, none⟩ = W.frozen? ⟨b, o, none⟩) :=
  ⟨fun b o h => hb.cell (p := ⟨b, o, none⟩) h, fun b o h => hb.frozen (p := ⟨b, o, none⟩) h⟩

theorem RowAt.go {B B' : Nat} {w w' : World} {A : Option Addr} {vs : List Value} (h : RowAt B w A vs) (hb : Below B' w w') (hB : B ≤ B') (hw : B' ≤ w.heap.size) : RowAt w'.heap.size w' A vs :=
  (h.below hb hB).mono (Nat.le_trans hB (Nat.le_trans hw hb.size))

theorem two {w : World} (a b : Obj) : Below w.heap.size w ((w.alloc a).alloc b) := ((Below.refl _ _).alloc (Nat.le_refl _) _).alloc (by simp) _

end Go.Proofs.YtlojfgdpmaigmaeGreatDoor

/- Blocks that are known whole; blocks of one's own. -/
namespace Go.Proofs.YtlojfgdpmaigmaeGreatDoor
open Go.RowKit

/-- Block b holds these cells and no others; none is frozen. -/
def RowL (w : World) (b : Nat) (t : TypeId) (vs : List Value) : Prop := w.heap[b]? = some (.cells vs.toArray t (0, 0))

theorem RowL.lt {w : World} {b : Nat} {t : TypeId} {vs : List Value} (h : RowL w b t vs) : b < w.heap.size := (Array.getElem?_eq_some_iff.1 h).1

theorem RowL.of_block {w w' : World} {b : Nat} {t : TypeId} {vs : List Value} (h : RowL w b t vs) (e : w'.heap[b]? = w.heap[b]?) : RowL w' b t vs := e.trans h

theorem RowL.below {w w' : World} {b B : Nat} {t : TypeId} {vs : List Value} (h : RowL w b t vs) (hb : Below B w w') (hB : b < B) : RowL w' b t vs := h.of_block (hb.block b hB)

theorem RowL.cell {w : World} {b : Nat} {t : TypeId} {vs : List Value} (h : RowL w b t vs) (j : Nat) : w.cell? ⟨b, j, none⟩ = vs[j]? := by
  unfold RowL at h
  simp [World.cell?, h]

theorem RowL.frozen {w : World} {b : Nat} {t : TypeId} {vs : List Value} (h : RowL w b t vs) (j : Nat) : w.frozen? ⟨b, j, none⟩ = false := by
  unfold RowL at h
  simp [World.frozen?, h]

theorem RowL.set {w : World} {b : Nat} {t : TypeId} {vs : List Value} (h : RowL w b t vs) (i : Nat) (v : Value) : RowL (w.setCell ⟨b, i, none⟩ v) b t (vs.set i v) := by
  unfold RowL at *
  simp [World.setCell, Array.getElem?_modify, h]

theorem rowL_alloc (w : World) (vs : List Value) (t : TypeId) : RowL (w.alloc (.cells vs.toArray t)) w.heap.size t vs := by
  unfold RowL
  exact heap_alloc_new w _

def PN.zero : PN := ⟨false, none, 0, [], none, 0, [], none, 0, [], none, 0, []⟩

theorem set_node (qs zs : List PN) (z p : PN) :
    (((((flatN (qs ++ z :: zs)).set (qs.length * 5) (.bool p.leaf)).set (qs.length * 5 + 1) (.slice p.eA p.ents.length p.eC)).set (qs.length * 5 + 2) (.slice p.kA p.keys.length p.kC)).set (qs.length * 5 + 3) (.slice p.dA p.kids.length p.dC)).set (qs.length * 5 + 4) (.slice p.bA p.buf.length p.bC) = flatN (qs ++ p :: zs) := by
  have hl := flatN_length qs
  simp only [flatN_append, flatN, ← hl]
  simp [List.set_append_right, PN.vals]

def nodeZ : Array Value := #[.bool false, .slice none 0 0, .slice none 0 0, .slice none 0 0, .slice none 0 0]
/-- What 'make' lays for n nodes. -/
def madeN (n : Nat) : Array Value := madeCells nodeZ (n * 5)

theorem madeN_eq (n : Nat) : madeN n = (flatN (List.replicate n PN.zero)).toArray := by
  have hl := flatN_length (List.replicate n PN.zero)
  simp only [List.length_replicate] at hl
  apply Array.ext
  · simp [madeN, size_madeCells, hl]
  · intro i h1 h2
    have hi : i < n * 5 := by simpa [madeN, size_madeCells] using h1
    have hk : i / 5 < n := by omega
    have g := flatN_get (List.replicate n PN.zero) (i / 5) (i % 5) (by simpa using hk) (Nat.mod_lt _ (by decide))
    rw [show i / 5 * 5 + i % 5 = i by omega] at g
    have e1 : (flatN (List.replicate n PN.zero)).toArray[i] = nodeZ[i % 5]! := by
      have h5 : i % 5 = 0 ∨ i % 5 = 1 ∨ i % 5 = 2 ∨ i % 5 = 3 ∨ i % 5 = 4 := by omega
      simp only [List.getElem_replicate] at g
      rw [List.getElem?_eq_getElem (by rw [hl]; exact hi)] at g
      simp only [List.getElem_toArray]
      rcases h5 with h | h | h | h | h <;> rw [h] at g ⊢ <;> simpa [PN.zero, PN.vals, nodeZ] using g
    rw [e1]
    simp [madeN, madeCells, nodeZ]

theorem infoN : (Tryz.prog.info? 112).map (fun i => (i.zero, i.size, i.bytes)) = some (some (.agg nodeZ), 5, 104) := by kernel_rfl

theorem run_makeN (n : Nat) (hn : n * 104 ≤ 140737488351232) (w : World) :
    (Instr.makeSlice 23 (.int .i64 (n : Int)) (.int .i64 (n : Int))).run Tryz.prog w = .ok (.slice (some ⟨w.heap.size, 0, none⟩) n n) (w.alloc (.cells (madeN n) 112)) := by
  obtain ⟨i0, hi, hz0, hz1, hz2⟩ := info_parts infoN
  have hr := run_make (P := Tryz.prog) w 23 112 i0 _ Tryz.underlying23 hi hz0 .i64 .i64 n n (by omega) (Int.le_refl _) (by rw [hz2]; omega) (by omega)
  simp only [Int.toNat_natCast, hz1] at hr
  exact hr

theorem own_of_block {w w' : World} {base : Nat} {e : TypeId} {size n : Nat} {v : Value} {vs : List Value} (h : w.ownsRow base e size v n vs) (hk : ∀ k, v.ownBlock = some k → w'.heap[k]? = w.heap[k]?) : w'.ownsRow base e size v n vs := by
  refine ⟨h.1, ?_⟩
  rcases h.2 with hn | ⟨g, cap, cur, rfl, hb, hg, rest⟩
  · exact .inl hn
  · exact .inr ⟨g, cap, cur, rfl, hb, (hk g rfl).trans hg, rest⟩

theorem own_mono {w : World} {base base' : Nat} {e : TypeId} {size n : Nat} {v : Value} {vs : List Value} (h : w.ownsRow base' e size v n vs) (hb : base ≤ base') : w.ownsRow base e size v n vs := by
  refine ⟨h.1, ?_⟩
  rcases h.2 with hn | ⟨g, cap, cur, rfl, hb', rest⟩
  · exact .inl hn
  · exact .inr ⟨g, cap, cur, rfl, by omega, rest⟩

def PN.blocks (p : PN) : List Nat := [p.eA, p.kA, p.dA, p.bA].filterMap (·.map Addr.block)

structure PN.own (base : Nat) (w : World) (p : PN) : Prop where
  e : w.ownsRow base 73 7 (.slice p.eA p.ents.length p.eC) p.ents.length (flatE p.ents)
  k : w.ownsRow base 3 1 (.slice p.kA p.keys.length p.kC) p.keys.length (ints p.keys)
  d : w.ownsRow base 3 1 (.slice p.dA p.kids.length p.dC) p.kids.length (ints p.kids)
  b : w.ownsRow base 73 7 (.slice p.bA p.buf.length p.bC) p.buf.length (flatE p.buf)
  ez : p.ents.length * 56 ≤ 140737488351232
  kz : p.keys.length * 8 ≤ 140737488351232
  dz : p.kids.length * 8 ≤ 140737488351232
  bz : p.buf.length * 56 ≤ 140737488351232

theorem mem_blocks {p : PN} {k : Nat} (h : (Value.slice p.eA p.ents.length p.eC).ownBlock = some k ∨ (Value.slice p.kA p.keys.length p.kC).ownBlock = some k ∨ (Value.slice p.dA p.kids.length p.dC).ownBlock = some k ∨ (Value.slice p.bA p.buf.length p.bC).ownBlock = some k) : k ∈ p.blocks := by
  have g : ∀ (A : Option Addr) (n c : Nat), (Value.slice A n c).ownBlock = some k → A.map Addr.block = some k := by
    intro A n c h
    cases A with
    | none => simp [Value.ownBlock] at h
    | some a => simpa [Value.ownBlock] using h
  simp only [PN.blocks, List.mem_filterMap, List.mem_cons, List.not_mem_nil, or_false]
  rcases h with h | h | h | h
  · exact ⟨_, .inl rfl, g _ _ _ h⟩
  · exact ⟨_, .inr (.inl rfl), g _ _ _ h⟩
  · exact ⟨_, .inr (.inr (.inl rfl)), g _ _ _ h⟩
  · exact ⟨_, .inr (.inr (.inr rfl)), g _ _ _ h⟩

theorem PN.own.of_blocks {base : Nat} {w w' : World} {p : PN} (h : p.own base w) (hk : ∀ k ∈ p.blocks, w'.heap[k]? = w.heap[k]?) : p.own base w' :=
  ⟨own_of_block h.e fun _ hb => hk _ (mem_blocks (.inl hb)), own_of_block h.k fun _ hb => hk _ (mem_blocks (.inr (.inl hb))), own_of_block h.d fun _ hb => hk _ (mem_blocks (.inr (.inr (.inl hb)))), own_of_block h.b fun _ hb => hk _ (mem_blocks (.inr (.inr (.inr hb)))), h.ez, h.kz, h.dz, h.bz⟩

theorem own_ok {w : World} {base : Nat} {e : TypeId} {size n C : Nat} {A : Option Addr} {vs : List Value} (h : w.ownsRow base e size (.slice A n C) n vs) : RowAt w.heap.size w A vs ∧ (A = none → C = 0) := by
  obtain ⟨A', C', hv, hn, _, _, hr⟩ := own_row h
  cases hv
  exact ⟨hr, hn⟩

theorem PN.own.ok {base : Nat} {w : World} {p : PN} (h : p.own base w) : p.ok w.heap.size w :=
  ⟨(own_ok h.e).1, (own_ok h.k).1, (own_ok h.d).1, (own_ok h.b).1, (own_ok h.e).2, (own_ok h.k).2, (own_ok h.d).2, (own_ok h.b).2, h.ez, h.kz, h.dz, h.bz⟩

theorem own_lt {w : World} {base : Nat} {e : TypeId} {size n C : Nat} {A : Option Addr} {vs : List Value} (h : w.ownsRow base e size (.slice A n C) n vs) (k : Nat) (hk : A.map Addr.block = some k) : base ≤ k ∧ k < w.heap.size := by
  cases A with
  | none => cases hk
  | some a => exact h.lt k (by simpa [Value.ownBlock] using hk)

theorem PN.own.lt {base : Nat} {w : World} {p : PN} (h : p.own base w) : ∀ k ∈ p.blocks, base ≤ k ∧ k < w.heap.size := by
  intro k hk
  simp only [PN.blocks, List.mem_filterMap, List.mem_cons, List.not_mem_nil, or_false] at hk
  obtain ⟨A, hA, hb⟩ := hk
  rcases hA with rfl | rfl | rfl | rfl
  · exact own_lt h.e k hb
  · exact own_lt h.k k hb
  · exact own_lt h.d k hb
  · exact own_lt h.b k hb

/-- A tree in memory of the call's own: its nodes in block g, each list in a block of its own. -/
structure OwnTree (base : Nat) (w : World) (g : Nat) (qs : List PN) : Prop where
  row : RowL w g 112 (flatN qs)
  hbase : base ≤ g
  each : ∀ q ∈ qs, q.own base w
  apart : (g :: qs.flatMap PN.blocks).Nodup
  z : qs.length * 104 ≤ 140737488351232

theorem blocks_nodup {q : PN} {s1 s2 s3 : Nat} (he : ∀ x, q.eA.map Addr.block = some x → x < s1) (hk : ∀ x, q.kA.map Addr.block = some x → s1 ≤ x ∧ x < s2) (hd : ∀ x, q.dA.map Addr.block = some x → s2 ≤ x ∧ x < s3)
    (hb : ∀ x, q.bA.map Addr.block = some x → s3 ≤ x) (h12 : s1 ≤ s2) (h23 : s2 ≤ s3) : q.blocks.Nodup := by
  obtain ⟨leaf, eA, eC, ents, kA, kC, keys, dA, dC, kids, bA, bC, buf⟩ := q
  simp only at he hk hd hb
  unfold PN.blocks
  cases eA <;> cases kA <;> cases dA <;> cases bA <;> simp_all <;> omega

set_option maxHeartbeats 400000 in
theorem copy_step {base g : Nat} {wr w4 : World} {qs zs : List PN} {z q : PN} (hrow : RowL wr g 112 (flatN (qs ++ z :: zs))) (hbase : base ≤ g) (each : ∀ x ∈ qs, x.own base wr) (apart : (g :: qs.flatMap PN.blocks).Nodup)
    (hb : Below wr.heap.size wr w4) (hq : q.own wr.heap.size w4) (hqn : q.blocks.Nodup) :
    ∀ W, W = ((((w4.setCell ⟨g, qs.length * 5, none⟩ (.bool q.leaf)).setCell ⟨g, qs.length * 5 + 1, none⟩ (.slice q.eA q.ents.length q.eC)).setCell ⟨g, qs.length * 5 + 2, none⟩ (.slice q.kA q.keys.length q.kC)).setCell ⟨g, qs.length * 5 + 3, none⟩ (.slice q.dA q.kids.length q.dC)).setCell ⟨g, qs.length * 5 + 4, none⟩ (.slice q.bA q.buf.length q.bC) →
    RowL W g 112 (flatN (qs ++ q :: zs)) ∧ (∀ x ∈ qs ++ [q], x.own base W) ∧ (g :: (qs ++ [q]).flatMap PN.blocks).Nodup := by
  intro W hW
  have hg : g < wr.heap.size := hrow.lt
  have hother : ∀ b, b ≠ g → W.heap[b]? = w4.heap[b]? := by
    intro b hbg
    subst hW
    simp only [Below.heap_setCell _ _ _ _ (show b ≠ (⟨g, _, none⟩ : Addr).block from hbg)]
  have hold : ∀ x ∈ qs, ∀ b ∈ x.blocks, base ≤ b ∧ b < wr.heap.size := fun x hx => (each x hx).lt
  have hnew := hq.lt
  rw [List.nodup_cons] at apart
  have hgn : g ∉ qs.flatMap PN.blocks := apart.1
  refine ⟨?_, ?_, ?_⟩
  · rw [← set_node qs zs z q]
    subst hW
    exact (((((hrow.below hb hg).set _ _).set _ _).set _ _).set _ _).set _ _
  · intro x hx
    rcases List.mem_append.1 hx with hx | hx
    · refine (each x hx).of_blocks fun b hbx => ?_
      have hbg : b ≠ g := fun e => hgn (List.mem_flatMap.2 ⟨x, hx, e ▸ hbx⟩)
      rw [hother b hbg]
      exact hb.block b (hold x hx b hbx).2
    · obtain rfl : x = q := by simpa using hx
      have h1 : x.own wr.heap.size W := hq.of_blocks fun b hbx => hother b (by have := hnew b hbx; omega)
      exact ⟨own_mono h1.e (by omega), own_mono h1.k (by omega), own_mono h1.d (by omega), own_mono h1.b (by omega), h1.ez, h1.kz, h1.dz, h1.bz⟩
  · rw [List.nodup_cons, List.flatMap_append, List.mem_append, List.nodup_append]
    simp only [List.flatMap_cons, List.flatMap_nil, List.append_nil]
    refine ⟨fun h => ?_, apart.2, hqn, fun a ha b hb' e => ?_⟩
    · rcases h with h | h
      · exact hgn h
      · have := hnew g h; omega
    · obtain ⟨x, hx, hax⟩ := List.mem_flatMap.1 ha
      have h1 := hold x hx a hax
      have h2 := hnew b hb'
      omega

end Go.Proofs.YtlojfgdpmaigmaeGreatDoor

/- Copy of package tree. -/
namespace Go.Proofs.YtlojfgdpmaigmaeGreatDoor
open Go.RowKit

/-- What stands where the loop begins: the copy c, its nodes g. -/
structure CopyAt (w wc : World) (A : Option Addr) (C : Nat) (r : Int) (n c g : Nat) (ls : List PN) : Prop where
  bel : Below w.heap.size w wc
  src : RowL wc w.heap.size 25 [.slice A n C, .int .i64 r]
  res : RowL wc (w.heap.size + 1) 25 [.slice none 0 0, .int .i64 0]
  cur : RowL wc c 25 [.slice (some ⟨g, 0, none⟩) n n, .int .i64 r]
  row : RowL wc g 112 (flatN ls)
  hc : w.heap.size + 1 < c
  hg : w.heap.size + 1 < g
  ne : c ≠ g

theorem four (w : World) (o1 o2 o3 o4 : Obj) : ((((w.alloc o1).alloc o2).alloc o3).alloc o4).heap[w.heap.size]? = some o1 ∧ ((((w.alloc o1).alloc o2).alloc o3).alloc o4).heap[w.heap.size + 1]? = some o2 ∧
    ((((w.alloc o1).alloc o2).alloc o3).alloc o4).heap[w.heap.size + 1 + 1]? = some o3 ∧ ((((w.alloc o1).alloc o2).alloc o3).alloc o4).heap[w.heap.size + 1 + 1 + 1]? = some o4 := by
  have s1 : (w.alloc o1).heap.size = w.heap.size + 1 := by simp
  have s2 : ((w.alloc o1).alloc o2).heap.size = w.heap.size + 1 + 1 := by simp
  have s3 : (((w.alloc o1).alloc o2).alloc o3).heap.size = w.heap.size + 1 + 1 + 1 := by simp
  refine ⟨?_, ?_, ?_, ?_⟩
  · rw [Below.heap_alloc _ _ _ (by omega), Below.heap_alloc _ _ _ (by omega), Below.heap_alloc _ _ _ (by omega)]; exact heap_alloc_new w _
  · rw [Below.heap_alloc _ _ _ (by omega), Below.heap_alloc _ _ _ (by omega), ← s1]; exact heap_alloc_new _ _
  · rw [Below.heap_alloc _ _ _ (by omega), ← s2]; exact heap_alloc_new _ _
  · rw [← s3]; exact heap_alloc_new _ _

theorem four_below (w : World) (o1 o2 o3 o4 : Obj) : Below w.heap.size w (((((w.alloc o1).alloc o2).alloc o3).alloc o4).drew) :=
  (((((Below.refl _ _).alloc (Nat.le_refl _) _).alloc (by simp) _).alloc (by simp; omega) _).alloc (by simp; omega) _).drew

theorem copyAt_a (w : World) (A : Option Addr) (C : Nat) (r : Int) (n : Nat) :
    CopyAt w (((((w.alloc (.cells #[.slice A n C, .int .i64 r] 25)).alloc (.cells #[.slice none 0 0, .int .i64 0] 25)).alloc (.cells (madeN n) 112)).alloc (.cells #[.slice (some ⟨w.heap.size + 1 + 1, 0, none⟩) n n, .int .i64 r] 25)).drew) A C r n (w.heap.size + 1 + 1 + 1) (w.heap.size + 1 + 1) (List.replicate n PN.zero) := by
  obtain ⟨h1, h2, h3, h4⟩ := four w (.cells #[.slice A n C, .int .i64 r] 25) (.cells #[.slice none 0 0, .int .i64 0] 25) (.cells (madeN n) 112) (.cells #[.slice (some ⟨w.heap.size + 1 + 1, 0, none⟩) n n, .int .i64 r] 25)
  rw [madeN_eq] at *
  exact ⟨four_below _ _ _ _ _, h1, h2, h4, h3, by omega, by omega, by omega⟩

theorem copyAt_b (w : World) (A : Option Addr) (C : Nat) (r : Int) (n : Nat) :
    CopyAt w (((((w.alloc (.cells #[.slice A n C, .int .i64 r] 25)).alloc (.cells #[.slice none 0 0, .int .i64 0] 25)).alloc (.cells #[.slice (some ⟨w.heap.size + 1 + 1 + 1, 0, none⟩) n n, .int .i64 r] 25)).alloc (.cells (madeN n) 112)).drew) A C r n (w.heap.size + 1 + 1) (w.heap.size + 1 + 1 + 1) (List.replicate n PN.zero) := by
  obtain ⟨h1, h2, h3, h4⟩ := four w (.cells #[.slice A n C, .int .i64 r] 25) (.cells #[.slice none 0 0, .int .i64 0] 25) (.cells #[.slice (some ⟨w.heap.size + 1 + 1 + 1, 0, none⟩) n n, .int .i64 r] 25) (.cells (madeN n) 112)
  rw [madeN_eq] at *
  exact ⟨four_below _ _ _ _ _, h1, h2, h3, h4, by omega, by omega, by omega⟩

theorem own_next {w1 w4 : World} {base : Nat} {e : TypeId} {size n : Nat} {v : Value} {vs : List Value} (o : w1.ownsRow base e size v n vs) (hb : Below w1.heap.size w1 w4) : w4.ownsRow base e size v n vs :=
  own_of_block o fun k hk => hb.block k (o.lt k hk).2

theorem copyAt_step {w wr w4 W : World} {A : Option Addr} {C : Nat} {r : Int} {n c g : Nat} {ls ls' : List PN} (h : CopyAt w wr A C r n c g ls) (hb : Below wr.heap.size wr w4) {j0 j1 j2 j3 j4 : Nat} {v0 v1 v2 v3 v4 : Value}
    (hW : W = ((((w4.setCell ⟨g, j0, none⟩ v0).setCell ⟨g, j1, none⟩ v1).setCell ⟨g, j2, none⟩ v2).setCell ⟨g, j3, none⟩ v3).setCell ⟨g, j4, none⟩ v4) (hrow : RowL W g 112 (flatN ls')) : CopyAt w W A C r n c g ls' := by
  have hother : ∀ b, b ≠ g → W.heap[b]? = w4.heap[b]? := by
    intro b hbg
    subst hW
    simp only [Below.heap_setCell _ _ _ _ (show b ≠ (⟨g, _, none⟩ : Addr).block from hbg)]
  have keep : ∀ {b : Nat} {t : TypeId} {vs : List Value}, RowL wr b t vs → b ≠ g → RowL W b t vs := fun hr hbg => (hr.below hb hr.lt).of_block (hother _ hbg)
  have hg := h.hg
  refine ⟨?_, keep h.src (by omega), keep h.res (by omega), keep h.cur h.ne, hrow, h.hc, h.hg, h.ne⟩
  have b4 : Below w.heap.size w w4 := nextB h.bel (Nat.le_refl _) hb
  subst hW
  exact ((((b4.setCell (p := ⟨g, j0, none⟩) (by show _ ≤ g; omega) _).setCell (p := ⟨g, j1, none⟩) (by show _ ≤ g; omega) _).setCell (p := ⟨g, j2, none⟩) (by show _ ≤ g; omega) _).setCell (p := ⟨g, j3, none⟩) (by show _ ≤ g; omega) _).setCell (p := ⟨g, j4, none⟩) (by show _ ≤ g; omega) _

theorem copy_end {w wr : World} {A : Option Addr} {C : Nat} {r : Int} {n c g : Nat} {qs : List PN} (h : CopyAt w wr A C r n c g qs) (hown : ∀ x ∈ qs, x.own (w.heap.size + 2) wr) (hnd : (g :: qs.flatMap PN.blocks).Nodup) (hz : qs.length * 104 ≤ 140737488351232) (v0 v1 : Value) :
    OwnTree w.heap.size ((wr.setCell ⟨w.heap.size + 1, 0, none⟩ v0).setCell ⟨w.heap.size + 1, 1, none⟩ v1) g qs ∧ Below w.heap.size w ((wr.setCell ⟨w.heap.size + 1, 0, none⟩ v0).setCell ⟨w.heap.size + 1, 1, none⟩ v1) := by
  have hother : ∀ b, b ≠ w.heap.size + 1 → ((wr.setCell ⟨w.heap.size + 1, 0, none⟩ v0).setCell ⟨w.heap.size + 1, 1, none⟩ v1).heap[b]? = wr.heap[b]? := by
    intro b hbg
    simp only [Below.heap_setCell _ _ _ _ (show b ≠ (⟨w.heap.size + 1, _, none⟩ : Addr).block from hbg)]
  have hg := h.hg
  refine ⟨⟨h.row.of_block (hother _ (by omega)), by omega, fun q hq => ?_, hnd, hz⟩, ?_⟩
  · have h1 := (hown q hq).of_blocks (w' := (wr.setCell ⟨w.heap.size + 1, 0, none⟩ v0).setCell ⟨w.heap.size + 1, 1, none⟩ v1) fun b hb => hother b (by have := (hown q hq).lt b hb; omega)
    exact ⟨own_mono h1.e (by omega), own_mono h1.k (by omega), own_mono h1.d (by omega), own_mono h1.b (by omega), h1.ez, h1.kz, h1.dz, h1.bz⟩
  · exact (h.bel.setCell (p := ⟨w.heap.size + 1, 0, none⟩) (by show _ ≤ w.heap.size + 1; omega) _).setCell (p := ⟨w.heap.size + 1, 1, none⟩) (by show _ ≤ w.heap.size + 1; omega) _

set_option maxHeartbeats 4000000 in
theorem copy_any (A : Option Addr) (C : Nat) (r : Int) (ps : List PN) (w : World) (h : NodesAt w.heap.size w A ps) :
    Calls Tryz.prog 77 #[.agg #[.slice A ps.length C, .int .i64 r]] w
      fun e w' => ∃ g qs, e = .returned (.agg #[.slice (some ⟨g, 0, none⟩) ps.length ps.length, .int .i64 r]) ∧ OwnTree w.heap.size w' g qs ∧ qs.map PN.nd = ps.map PN.nd ∧ Below w.heap.size w w' := by
  have hz := h.z
  have hmk := run_makeN ps.length hz
  go_enter Tryz.func77, Tryz.ntmps77
  go_upto_region 1 with fail
  go_cut [3] (fun v wc => ∃ c g, v = .pointer (some ⟨c, 0, none⟩) ∧ CopyAt w wc A C r ps.length c g (List.replicate ps.length PN.zero))
  case first =>
    go_region
    all_goals go_wp2
    · go_meet
      case rel => exact ⟨_, _, rfl, copyAt_a w A C r ps.length⟩
    · go_meet
      case rel => exact ⟨_, _, rfl, copyAt_b w A C r ps.length⟩
  case rest =>
    obtain ⟨c, g, rfl, hcut⟩ := hcut
    have s0 := hcut.src.cell 0
    have s1 := hcut.src.cell 1
    simp only [List.getElem?_cons_zero, List.getElem?_cons_succ] at s0 s1
    go_wp2_with fail
    go_loopw [16] (fun i wr => ∃ k qs, k ≤ ps.length ∧ i = .int .i64 (k : Nat) ∧ qs.length = k ∧ CopyAt w wr A C r ps.length c g (qs ++ List.replicate (ps.length - k) PN.zero) ∧ (∀ x ∈ qs, x.own (w.heap.size + 2) wr) ∧ (g :: qs.flatMap PN.blocks).Nodup ∧ qs.map PN.nd = (ps.take k).map PN.nd) (fun i _ => ps.length - (intOf i).toNat)
    case atStart => exact ⟨0, [], Nat.zero_le _, rfl, rfl, by simpa using hcut, by simp, by simp, by simp⟩
    case round =>
      obtain ⟨k, qs, hk, rfl, hql, hat, hown, hnd, hmap⟩ := hrel
      by_cases hlt : k < ps.length
      · have hN := h.below hat.bel (Nat.le_refl _)
        obtain ⟨b, o, rfl, hbl, c0, c1, c2, c3, c4⟩ := hN.row.pn hlt
        have ok := hN.each k hlt
        have hnk : (ps.take (k + 1)).map PN.nd = (ps.take k).map PN.nd ++ [(ps[k]).nd] := by rw [List.take_succ_eq_append_getElem hlt, List.map_append]; rfl
        have HM : Hid (qs.map PN.nd = (ps.take k).map PN.nd ∧ (ps.take (k + 1)).map PN.nd = (ps.take k).map PN.nd ++ [(ps[k]).nd]) := ⟨hmap, hnk⟩
        clear hN hmap hnk hcut s0 s1
        generalize ps[k] = p at *
        obtain ⟨leaf, eA, eC, ents, kA, kC, keys, dA, dC, kids, bA, bC, buf⟩ := p
        simp only at c0 c1 c2 c3 c4
        obtain ⟨e1, k1, t1, f1, en, kn, dn, fn, ez, kz, dz, fz⟩ := ok
        simp only at e1 k1 t1 f1 en kn dn fn ez kz dz fz
        have cc := hat.cur.cell 0
        simp only [List.getElem?_cons_zero] at cc
        have hcl := hat.cur.lt
        have hgl := hat.row.lt
        have hle : w.heap.size ≤ wr.heap.size := hat.bel.size
        have hbr : b < wr.heap.size := by omega
        have HQ : Hid (qs.length = k) := hql
        clear hql
        have gf := hat.row.frozen
        have gcl : ∀ j, j < 5 → ∃ v, wr.cell? ⟨g, k * 5 + j, none⟩ = some v := by
          intro j hj
          have hl := flatN_length (qs ++ List.replicate (ps.length - k) PN.zero)
          rw [hat.row.cell]
          simp only [List.length_append, List.length_replicate] at hl
          have := HQ.out
          exact ⟨_, List.getElem?_eq_getElem (by omega)⟩
        obtain ⟨x0, g0⟩ := gcl 0 (by decide)
        obtain ⟨x1, g1⟩ := gcl 1 (by decide)
        obtain ⟨x2, g2⟩ := gcl 2 (by decide)
        obtain ⟨x3, g3⟩ := gcl 3 (by decide)
        obtain ⟨x4, g4⟩ := gcl 4 (by decide)
        rw [Nat.add_zero] at g0
        have i0 : (0 : Int) ≤ (k : Int) := by omega
        have i1 : (k : Int) < (ps.length : Int) := by omega
        clear gcl
        have hcl1 : c < wr.heap.size + 1 := by omega
        have n1 : ¬ c = g := hat.ne
        have n2 : ¬ wr.heap.size = g := by omega
        have KS : ∀ (W : World) (b o j : Nat) (v : Value), ¬ b = g → (W.setCell ⟨g, j, none⟩ v).cell? ⟨b, o, none⟩ = W.cell? ⟨b, o, none⟩ := fun W b o j v hb => World.cell?_setCell_far _ _ _ _ (fun e => hb e.symm)
        go_wp2_with fail
        go_region_held3 (fun w' => w'.cell? ⟨c, 0, none⟩ = some (.slice (some ⟨g, 0, none⟩) ps.length ps.length) ∧ w'.cell? ⟨wr.heap.size, 0, none⟩ = some (.bool leaf) ∧ w'.cell? ⟨wr.heap.size, 1, none⟩ = some (.slice eA ents.length eC) ∧ w'.cell? ⟨wr.heap.size, 2, none⟩ = some (.slice kA keys.length kC) ∧ w'.cell? ⟨wr.heap.size, 3, none⟩ = some (.slice dA kids.length dC) ∧ w'.cell? ⟨wr.heap.size, 4, none⟩ = some (.slice bA buf.length bC)) (go_keep)
          (first
            | (go_at_call_of 81 eA; refine (freshE_any _ _ _ _ (e1.go (((Below.refl _ _).alloc (Nat.le_refl _) _).drew) hle (Nat.le_refl _)) en ez).mono ?_; rintro e w1 ⟨v1, rfl, o1, hb1⟩; obtain ⟨A1, C1, rfl, -⟩ := own_row o1; have G1 : Below wr.heap.size wr w1 := nextB (((Below.refl _ _).alloc (Nat.le_refl _) _).drew) (Nat.le_refl _) hb1; have T1 := (bcells (hb1.mono (show wr.heap.size + 1 ≤ _ by simp))).1; have Z1 : wr.heap.size + 1 ≤ w1.heap.size := Nat.le_trans (by simp) hb1.size)
            | (go_at_call_of 97 kA; refine (freshI_any _ _ _ _ (k1.go G1 hle (Nat.le_refl _)) kn kz).mono ?_; rintro e w2 ⟨v2, rfl, o2, hb2⟩; obtain ⟨A2, C2, rfl, -⟩ := own_row o2; have G2 : Below wr.heap.size wr w2 := nextB G1 (Nat.le_refl _) hb2; have T2 := (bcells (hb2.mono (show wr.heap.size + 1 ≤ _ by exact Z1))).1; have Z2 : wr.heap.size + 1 ≤ w2.heap.size := Nat.le_trans (Z1) hb2.size)
            | (go_at_call_of 97 dA; refine (freshI_any _ _ _ _ (t1.go G2 hle (Nat.le_refl _)) dn dz).mono ?_; rintro e w3 ⟨v3, rfl, o3, hb3⟩; obtain ⟨A3, C3, rfl, -⟩ := own_row o3; have G3 : Below wr.heap.size wr w3 := nextB G2 (Nat.le_refl _) hb3; have T3 := (bcells (hb3.mono (show wr.heap.size + 1 ≤ _ by exact Z2))).1; have Z3 : wr.heap.size + 1 ≤ w3.heap.size := Nat.le_trans (Z2) hb3.size)
            | (go_at_call_of 81 bA; refine (freshE_any _ _ _ _ (f1.go G3 hle (Nat.le_refl _)) fn fz).mono ?_; rintro e w4 ⟨v4, rfl, o4, hb4⟩; obtain ⟨A4, C4, rfl, -⟩ := own_row o4; have G4 : Below wr.heap.size wr w4 := nextB G3 (Nat.le_refl _) hb4; have T4 := (bcells (hb4.mono (show wr.heap.size + 1 ≤ _ by exact Z3))).1; have Z4 : wr.heap.size + 1 ≤ w4.heap.size := Nat.le_trans (Z3) hb4.size; have Y0 : w4.cell? ⟨g, k * 5, none⟩ = some x0 := (G4.cell (p := ⟨g, k * 5, none⟩) hgl).trans g0; have Y1 : w4.cell? ⟨g, k * 5 + 1, none⟩ = some x1 := (G4.cell (p := ⟨g, k * 5 + 1, none⟩) hgl).trans g1; have Y2 : w4.cell? ⟨g, k * 5 + 2, none⟩ = some x2 := (G4.cell (p := ⟨g, k * 5 + 2, none⟩) hgl).trans g2; have Y3 : w4.cell? ⟨g, k * 5 + 3, none⟩ = some x3 := (G4.cell (p := ⟨g, k * 5 + 3, none⟩) hgl).trans g3; have Y4 : w4.cell? ⟨g, k * 5 + 4, none⟩ = some x4 := (G4.cell (p := ⟨g, k * 5 + 4, none⟩) hgl).trans g4; have YF : ∀ j, w4.frozen? ⟨g, j, none⟩ = false := fun j => (G4.frozen (p := ⟨g, j, none⟩) hgl).trans (gf j)))
        have hql := HQ.out
        obtain ⟨hm1, hm2⟩ := HM.out
        clear HM HQ
        subst hql
        have hrow' : RowL wr g 112 (flatN (qs ++ PN.zero :: List.replicate (ps.length - (qs.length + 1)) PN.zero)) := by
          have := hat.row
          rwa [show ps.length - qs.length = (ps.length - (qs.length + 1)) + 1 by omega, List.replicate_succ] at this
        have hb34 : Below w2.heap.size w2 w4 := nextB hb3 (Nat.le_refl _) hb4
        have hb234 : Below w1.heap.size w1 w4 := nextB hb2 (Nat.le_refl _) hb34
        have sz0 : wr.heap.size ≤ w1.heap.size := by omega
        have q1 : w4.ownsRow wr.heap.size _ _ _ _ _ := own_mono (own_next o1 hb234) (by simp)
        have q2 : w4.ownsRow wr.heap.size _ _ _ _ _ := own_mono (own_next o2 hb34) (by omega)
        have q3 : w4.ownsRow wr.heap.size _ _ _ _ _ := own_mono (own_next o3 hb4) (by omega)
        have q4 : w4.ownsRow wr.heap.size _ _ _ _ _ := own_mono o4 (by omega)
        have hq : PN.own wr.heap.size w4 ⟨leaf, A1, C1, ents, A2, C2, keys, A3, C3, kids, A4, C4, buf⟩ := ⟨q1, q2, q3, q4, ez, kz, dz, fz⟩
        have hqn : (PN.mk leaf A1 C1 ents A2 C2 keys A3 C3 kids A4 C4 buf).blocks.Nodup :=
          blocks_nodup (s1 := w1.heap.size) (s2 := w2.heap.size) (s3 := w3.heap.size) (fun x hx => (own_lt o1 x hx).2) (fun x hx => own_lt o2 x hx) (fun x hx => own_lt o3 x hx) (fun x hx => (own_lt o4 x hx).1) hb2.size hb3.size
        have hgb : w.heap.size + 2 ≤ g := by have := hat.hg; omega
        have R := copy_step hrow' hgb hown hnd G4 hq hqn _ rfl
        have R' := copyAt_step hat G4 rfl R.1
        have Rm : (qs ++ [PN.mk leaf A1 C1 ents A2 C2 keys A3 C3 kids A4 C4 buf]).map PN.nd = (ps.take (qs.length + 1)).map PN.nd := by
          rw [hm2, List.map_append, hm1]; rfl
        have RR : Hid _ := And.intro R (And.intro R' Rm)
        clear R R' Rm hrow' hq hqn q1 q2 q3 q4 o1 o2 o3 o4 hown hnd hat hm1 hm2 T1 T2 T3 T4 KS
        go_wp2
        go_roundw
        case rel =>
          go_light
          obtain ⟨⟨_, R2, R3⟩, R', Rm⟩ := RR.out
          exact ⟨qs.length + 1, qs ++ [PN.mk leaf A1 C1 ents A2 C2 keys A3 C3 kids A4 C4 buf], by omega, by go_num, by simp, by simpa using R', R2, R3, Rm⟩
        case measure => simp [intOf]; omega
      · obtain rfl : k = ps.length := by omega
        have hcur0 := hat.cur.cell 0
        have hcur1 := hat.cur.cell 1
        have hres0 := hat.res.cell 0
        have hres1 := hat.res.cell 1
        have hresf := hat.res.frozen
        simp only [List.getElem?_cons_zero, List.getElem?_cons_succ] at hcur0 hcur1 hres0 hres1
        have HQ : Hid (qs.length = ps.length ∧ qs.map PN.nd = (ps.take ps.length).map PN.nd) := ⟨hql, hmap⟩
        clear hql hmap
        have hcl := hat.cur.lt
        have hgl := hat.row.lt
        go_wp2
        obtain ⟨hq1, hq2⟩ := HQ.out
        rw [List.take_length] at hq2
        rw [Nat.sub_self, List.replicate_zero, List.append_nil] at hat
        have hE := copy_end hat hown hnd (by rw [hq1]; exact hz) (.slice (some ⟨g, 0, none⟩) ps.length ps.length) (.int .i64 r)
        exact bodyPost_ret (v := .agg #[.slice (some ⟨g, 0, none⟩) ps.length ps.length, .int .i64 r]) (by simp [results, Tryz.results77, go_sem, hres0, hres1]) rfl ⟨g, qs, rfl, hE.1, hq2, hE.2⟩

end Go.Proofs.YtlojfgdpmaigmaeGreatDoor

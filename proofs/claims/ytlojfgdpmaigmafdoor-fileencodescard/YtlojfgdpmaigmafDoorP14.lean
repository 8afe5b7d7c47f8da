/- How a tree that came in is opened. -/
import Derived.Test.YtlojfgdpmaigmafDoorP06
import Derived.Test.YtlojfgdpmaigmafDoorP04
import Derived.Deep.Slices
import Derived.SizedLaws
import Derived.ChangeMaps5
namespace Go.Proofs.YtlojfgdpmaigmafDoor
open Go.ChangeShapes Go.WideShapes Go.ChangeAt Go.RowKit Go.Deep

theorem spot_none {w : World} {a : Addr} {v : Value} (h : w.cell? a = some v) : a.spot = none := by
  unfold World.cell? at h
  split at h
  · cases hs : a.spot with
    | none => rfl
    | some x => simp [hs] at h
  · simp at h

/-- Rows of elements of several cells, from their elements. -/
theorem row_of {w : World} {a : Addr} {size len : Nat} (hs : 0 < size) (F : Nat → List Value) (all : List Value) (hlen : all.length = len * size) (hget : ∀ k j, k < len → j < size → all[k * size + j]? = (F k)[j]?)
    (hc : ∀ i, i < len → w.cells? 0 (a.add (i * size)) size = some (F i)) : RowAt w.heap.size w (some a) all := by
  by_cases h0 : len = 0
  · left
    exact List.eq_nil_of_length_eq_zero (by rw [hlen, h0, Nat.zero_mul])
  · right
    have hcell : ∀ q u, all[q]? = some u → w.cell? (a.add q) = some u := by
      intro q u hu
      have hq : q < len * size := by rw [← hlen]; exact (List.getElem?_eq_some_iff.1 hu).1
      have hk : q / size < len := Nat.div_lt_of_lt_mul (by rw [Nat.mul_comm]; exact hq)
      have hj : q % size < size := Nat.mod_lt _ hs
      have hqe : q / size * size + q % size = q := Nat.div_add_mod' q size
      have h1 := (World.cells?_some (hc _ hk)).2.2 _ hj
      rw [add_add, hqe, ← hget _ _ hk hj, hqe, hu] at h1
      exact h1
    have hpos : 0 < all.length := by rw [hlen]; exact Nat.mul_pos (by omega) hs
    have ha := hcell 0 _ (List.getElem?_eq_getElem hpos)
    have hsp := spot_none ha
    have ha0 : a.add 0 = a := by simp [Addr.add]
    rw [ha0] at hsp ha
    obtain ⟨b, o, s⟩ := a
    simp only at hsp
    subst hsp
    refine ⟨b, o, rfl, World.block_lt_of_cell? _ _ ha, fun j u hu => ?_⟩
    have := hcell j u hu
    rwa [add_plain] at this

section
variable {H : Type} {enc : TypeId × Value → H} {W : World} {held : Bool} {spare : Nat → Bool} {fuel : Nat}

theorem cellsEn : Tryd.prog.cellsOf 48 = 7 := by kernel_rfl
theorem cellsNd : Tryd.prog.cellsOf 74 = 5 := by kernel_rfl
theorem cellsTr : Tryd.prog.cellsOf 25 = 2 := by kernel_rfl
theorem cellsBool : Tryd.prog.cellsOf 4 = 1 := by kernel_rfl
theorem cellsSlE : Tryd.prog.cellsOf 35 = 1 := by kernel_rfl
theorem cellsSlI : Tryd.prog.cellsOf 72 = 1 := by kernel_rfl
theorem cellsSlN : Tryd.prog.cellsOf 23 = 1 := by kernel_rfl
theorem bytesEn : Tryd.prog.bytesOf 48 = 56 := by kernel_rfl
theorem bytesNd : Tryd.prog.bytesOf 74 = 104 := by kernel_rfl
theorem bytesInt : Tryd.prog.bytesOf 3 = 8 := by kernel_rfl

def En.wf (x : En) : Prop := (Lit.int .i64 x.key).wf = true ∧ (Lit.int .i64 x.c).wf = true ∧ (Lit.int .i64 x.s).wf = true ∧ (Lit.int .i64 x.lo).wf = true ∧ (Lit.int .i64 x.hi).wf = true ∧ (Lit.int .i64 x.t).wf = true ∧ (Lit.int .i64 x.l).wf = true

set_option maxRecDepth 100000 in
theorem open_en {cs : List Value} {x : DataW H × List MemPlace} (h : DataW.trod enc Tryd.prog W 0 spare held fuel 48 cs = some x) : ∃ y : En, cs = y.vals ∧ y.wf := by
  obtain ⟨xs, n, _, _, hl, hxl, hg⟩ := DataW.trod_struct Tryd.underlying48 h
  rw [cellsEn] at hl
  match cs, hl with
  | [v0, v1, v2, v3, v4, v5, v6], _ =>
    match xs, hxl with
    | [y0, y1], _ =>
      have g0 := hg 0 _ rfl
      have g1 := hg 1 _ rfl
      obtain ⟨k, e0, _, w0⟩ := DataW.trod_int Tryd.underlying3 g0
      obtain ⟨zs, m, _, _, _, hzl, hz⟩ := DataW.trod_struct Tryd.underlying46 g1
      match zs, hzl with
      | [z0, z1, z2, z3, z4, z5], _ =>
        obtain ⟨c, e1, _, w1⟩ := DataW.trod_int Tryd.underlying3 (hz 0 _ rfl)
        obtain ⟨s, e2, _, w2⟩ := DataW.trod_int Tryd.underlying3 (hz 1 _ rfl)
        obtain ⟨lo, e3, _, w3⟩ := DataW.trod_int Tryd.underlying3 (hz 2 _ rfl)
        obtain ⟨hi, e4, _, w4⟩ := DataW.trod_int Tryd.underlying3 (hz 3 _ rfl)
        obtain ⟨t, e5, _, w5⟩ := DataW.trod_int Tryd.underlying3 (hz 4 _ rfl)
        obtain ⟨l, e6, _, w6⟩ := DataW.trod_int Tryd.underlying3 (hz 5 _ rfl)
        simp [cellsInt, cellsRu] at e0 e1 e2 e3 e4 e5 e6
        subst e0 e1 e2 e3 e4 e5 e6
        exact ⟨⟨k, c, s, lo, hi, t, l⟩, rfl, w0, w1, w2, w3, w4, w5, w6⟩

def Sized (t : TypeId) (d : DataW H) : Prop := ∀ n ∈ d.weights Tryd.prog t, n ≤ 140737488351232

set_option maxRecDepth 100000 in
theorem open_ents {v : Value} {x : DataW H × List MemPlace} (h : DataW.trod enc Tryd.prog W 0 (fun _ => true) held fuel 35 [v] = some x) (hs : Sized 35 x.1) :
    ∃ A C xs, v = .slice A xs.length C ∧ (A = none → C = 0) ∧ xs.length ≤ C ∧ RowAt W.heap.size W A (flatE xs) ∧ xs.length * 56 ≤ 140737488351232 ∧ ∀ y ∈ xs, y.wf := by
  rcases open_slice Tryd.underlying35 h with ⟨hv, _⟩ | ⟨a, len, cap, m, n, D, Pl, hv, _, hl, _, hm, hx, he⟩
  · simp at hv
    subst hv
    exact ⟨none, 0, [], rfl, fun _ => rfl, Nat.le_refl _, .inl rfl, by simp, by simp⟩
  · simp at hv
    subst hv
    simp only [if_true] at hm
    subst hm
    obtain ⟨X, hX⟩ := choose_lt (α := En) (p := fun i y => W.cells? 0 (a.add (i * 7)) 7 = some y.vals ∧ y.wf) (n := len) (fun i hi => by
      obtain ⟨cs', h1, h2⟩ := he i (by omega)
      obtain ⟨y, rfl, hy⟩ := open_en h2
      rw [cellsEn] at h1
      exact ⟨y, h1, hy⟩)
    have hwt : (len + (m - len)) * 56 ≤ 140737488351232 := by
      have := hs ((len + (m - len)) * Tryd.prog.bytesOf 48) (by rw [hx]; simp [DataW.weights, Tryd.underlying35])
      rwa [bytesEn] at this
    refine ⟨some a, m, (List.range len).map X, by simp, fun h => (by cases h), by simpa using hl, ?_, ?_, ?_⟩
    · refine row_of (by decide) (fun k => (X k).vals) _ (by rw [flatE_length]; simp) (fun k j hk hj => ?_) (fun i hi => (hX i hi).1)
      rw [flatE_get _ k j (by simpa using hk) hj]
      simp
    · simp only [List.length_map, List.length_range]; omega
    · intro y hy
      obtain ⟨i, hi, rfl⟩ := List.mem_map.1 hy
      exact (hX i (by simpa using hi)).2

set_option maxRecDepth 100000 in
theorem open_nums {v : Value} {x : DataW H × List MemPlace} (h : DataW.trod enc Tryd.prog W 0 (fun _ => true) held fuel 72 [v] = some x) (hs : Sized 72 x.1) :
    ∃ A C zs, v = .slice A zs.length C ∧ (A = none → C = 0) ∧ zs.length ≤ C ∧ RowAt W.heap.size W A (ints zs) ∧ zs.length * 8 ≤ 140737488351232 ∧ ∀ z ∈ zs, (Lit.int .i64 z).wf = true := by
  rcases open_slice Tryd.underlying72 h with ⟨hv, _⟩ | ⟨a, len, cap, m, n, D, Pl, hv, _, hl, _, hm, hx, he⟩
  · simp at hv
    subst hv
    exact ⟨none, 0, [], rfl, fun _ => rfl, Nat.le_refl _, .inl rfl, by simp, by simp⟩
  · simp at hv
    subst hv
    simp only [if_true] at hm
    subst hm
    obtain ⟨X, hX⟩ := choose_lt (α := Int) (p := fun i z => W.cells? 0 (a.add (i * 1)) 1 = some [.int .i64 z] ∧ (Lit.int .i64 z).wf = true) (n := len) (fun i hi => by
      obtain ⟨cs', h1, h2⟩ := he i (by omega)
      obtain ⟨z, rfl, _, hz⟩ := DataW.trod_int Tryd.underlying3 h2
      rw [cellsInt] at h1
      exact ⟨z, h1, hz⟩)
    have hwt : (len + (m - len)) * 8 ≤ 140737488351232 := by
      have := hs ((len + (m - len)) * Tryd.prog.bytesOf 3) (by rw [hx]; simp [DataW.weights, Tryd.underlying72])
      rwa [bytesInt] at this
    refine ⟨some a, m, (List.range len).map X, by simp, fun h => (by cases h), by simpa using hl, ?_, ?_, ?_⟩
    · refine row_of (by decide) (fun k => [.int .i64 (X k)]) _ (by simp [ints]) (fun k j hk hj => ?_) (fun i hi => (hX i hi).1)
      obtain rfl : j = 0 := by omega
      simp [ints, hk]
    · simp only [List.length_map, List.length_range]; omega
    · intro y hy
      obtain ⟨i, hi, rfl⟩ := List.mem_map.1 hy
      exact (hX i (by simpa using hi)).2

def PN.wf (p : PN) : Prop := (∀ y ∈ p.ents, y.wf) ∧ (∀ z ∈ p.keys, (Lit.int .i64 z).wf = true) ∧ (∀ z ∈ p.kids, (Lit.int .i64 z).wf = true) ∧ ∀ y ∈ p.buf, y.wf

set_option maxRecDepth 100000 in
theorem open_node {cs : List Value} {x : DataW H × List MemPlace} (h : DataW.trod enc Tryd.prog W 0 (fun _ => true) held fuel 74 cs = some x) (hs : Sized 74 x.1) :
    ∃ p : PN, cs = p.vals ∧ p.ok W.heap.size W ∧ p.wf := by
  obtain ⟨xs, n, _, hx, hl, hxl, hg⟩ := DataW.trod_struct Tryd.underlying74 h
  rw [cellsNd] at hl
  match cs, hl with
  | [v0, v1, v2, v3, v4], _ =>
    match xs, hxl with
    | [y0, y1, y2, y3, y4], _ =>
      have g0 := hg 0 _ rfl
      have g1 := hg 1 _ rfl
      have g2 := hg 2 _ rfl
      have g3 := hg 3 _ rfl
      have g4 := hg 4 _ rfl
      simp [cellsBool, cellsSlE, cellsSlI] at g0 g1 g2 g3 g4
      have hw : ∀ n ∈ DataW.weightsEach Tryd.prog [4, 35, 72, 72, 35] [y0.1, y1.1, y2.1, y3.1, y4.1], n ≤ 140737488351232 := by
        intro n hn
        refine hs n ?_
        rw [hx]
        simp only [List.map_cons, List.map_nil, DataW.weights, Tryd.underlying74]
        exact hn
      obtain ⟨lf, e0, _⟩ := DataW.trod_bool Tryd.underlying4 g0
      simp at e0
      subst e0
      obtain ⟨eA, eC, ents, rfl, en, _, er, ez, ew⟩ := open_ents g1 (fun n hn => hw n (DataW.weights_mem_each (j := 1) rfl rfl n hn))
      obtain ⟨kA, kC, keys, rfl, kn, _, kr, kz, kw⟩ := open_nums g2 (fun n hn => hw n (DataW.weights_mem_each (j := 2) rfl rfl n hn))
      obtain ⟨dA, dC, kids, rfl, dn, _, dr, dz, dw⟩ := open_nums g3 (fun n hn => hw n (DataW.weights_mem_each (j := 3) rfl rfl n hn))
      obtain ⟨bA, bC, buf, rfl, bn, _, br, bz, bw⟩ := open_ents g4 (fun n hn => hw n (DataW.weights_mem_each (j := 4) rfl rfl n hn))
      exact ⟨⟨lf, eA, eC, ents, kA, kC, keys, dA, dC, kids, bA, bC, buf⟩, rfl, ⟨er, kr, dr, br, en, kn, dn, bn, ez, kz, dz, bz⟩, ew, kw, dw, bw⟩

theorem weightsAll_mem {P : Program} {e : TypeId} : ∀ {ds : List (DataW H)} {d : DataW H}, d ∈ ds → ∀ n ∈ d.weights P e, n ∈ DataW.weightsAll P e ds
  | d0 :: r, d, hd, n, hn => by
    simp only [DataW.weightsAll, List.mem_append]
    rcases List.mem_cons.1 hd with rfl | h
    · exact .inl hn
    · exact .inr (weightsAll_mem h n hn)

set_option maxRecDepth 100000 in
theorem open_nodes {v : Value} {x : DataW H × List MemPlace} (h : DataW.trod enc Tryd.prog W 0 (fun _ => true) held fuel 23 [v] = some x) (hs : Sized 23 x.1) :
    ∃ A C ps, v = .slice A ps.length C ∧ NodesAt W.heap.size W A ps ∧ ∀ p ∈ ps, p.wf := by
  rcases open_slice Tryd.underlying23 h with ⟨hv, _⟩ | ⟨a, len, cap, m, n, D, Pl, hv, _, hl, _, hm, hx, he⟩
  · simp at hv
    subst hv
    exact ⟨none, 0, [], rfl, ⟨.inl rfl, fun k hk => absurd hk (Nat.not_lt_zero _), by simp⟩, by simp⟩
  · simp at hv
    subst hv
    simp only [if_true] at hm
    subst hm
    have hw : ∀ i, i < len → Sized 74 (D i) := by
      intro i hi n hn
      refine hs n ?_
      rw [hx]
      simp only [DataW.weights, Tryd.underlying23, List.mem_cons, List.mem_append]
      exact .inr (.inl (weightsAll_mem (List.mem_map.2 ⟨i, by simpa using hi, rfl⟩) n hn))
    obtain ⟨X, hX⟩ := choose_lt (α := PN) (p := fun i y => W.cells? 0 (a.add (i * 5)) 5 = some y.vals ∧ y.ok W.heap.size W ∧ y.wf) (n := len) (fun i hi => by
      obtain ⟨cs', h1, h2⟩ := he i (by omega)
      obtain ⟨y, rfl, hy, hyw⟩ := open_node h2 (hw i hi)
      rw [cellsNd] at h1
      exact ⟨y, h1, hy, hyw⟩)
    have hwt : (len + (m - len)) * 104 ≤ 140737488351232 := by
      have := hs ((len + (m - len)) * Tryd.prog.bytesOf 74) (by rw [hx]; simp [DataW.weights, Tryd.underlying23])
      rwa [bytesNd] at this
    refine ⟨some a, m, (List.range len).map X, by simp, ⟨?_, ?_, ?_⟩, ?_⟩
    · refine row_of (by decide) (fun k => (X k).vals) _ (by rw [flatN_length]; simp) (fun k j hk hj => ?_) (fun i hi => (hX i hi).1)
      rw [flatN_get _ k j (by simpa using hk) hj]
      simp
    · intro k hk
      simp only [List.length_map, List.length_range] at hk
      simpa using (hX k hk).2.1
    · simp only [List.length_map, List.length_range]; omega
    · intro y hy
      obtain ⟨i, hi, rfl⟩ := List.mem_map.1 hy
      exact (hX i (by simpa using hi)).2.2

end
end Go.Proofs.YtlojfgdpmaigmafDoor

/- How a base that came in is opened. -/
namespace Go.Proofs.YtlojfgdpmaigmafDoor
open Go.ChangeShapes Go.WideShapes Go.ChangeAt Go.RowKit Go.Deep

def strs (ss : List ByteArray) : List Value := ss.map .string

theorem cellsStr : Tryd.prog.cellsOf 9 = 1 := by kernel_rfl
theorem cellsSlS : Tryd.prog.cellsOf 22 = 1 := by kernel_rfl
theorem cellsArT : Tryd.prog.cellsOf 26 = 6 := by kernel_rfl
theorem cellsBase : Tryd.prog.cellsOf 28 = 8 := by kernel_rfl
theorem bytesStr : Tryd.prog.bytesOf 9 = 16 := by kernel_rfl

section
variable {H : Type} {enc : TypeId × Value → H} {W : World} {held : Bool} {fuel : Nat}

/-- A list of texts: what is known of it. -/
structure StrsAt (B : Nat) (w : World) (A : Option Addr) (ss : List ByteArray) : Prop where
  row : RowAt B w A (strs ss)
  z : ss.length * 16 ≤ 140737488351232
  each : ∀ s ∈ ss, s.size ≤ 140737488351232

set_option maxRecDepth 100000 in
theorem open_strs {v : Value} {x : DataW H × List MemPlace} (h : DataW.trod enc Tryd.prog W 0 (fun _ => true) held fuel 22 [v] = some x) (hs : Sized 22 x.1) :
    ∃ A C ss, v = .slice A ss.length C ∧ (A = none → C = 0) ∧ ss.length ≤ C ∧ StrsAt W.heap.size W A ss := by
  rcases open_slice Tryd.underlying22 h with ⟨hv, _⟩ | ⟨a, len, cap, m, n, D, Pl, hv, _, hl, _, hm, hx, he⟩
  · simp at hv
    subst hv
    exact ⟨none, 0, [], rfl, fun _ => rfl, Nat.le_refl _, .inl rfl, by simp, by simp⟩
  · simp at hv
    subst hv
    simp only [if_true] at hm
    subst hm
    have hw : ∀ i, i < len → Sized 9 (D i) := by
      intro i hi n hn
      refine hs n ?_
      rw [hx]
      simp only [DataW.weights, Tryd.underlying22, List.mem_cons, List.mem_append]
      exact .inr (.inl (weightsAll_mem (List.mem_map.2 ⟨i, by simpa using hi, rfl⟩) n hn))
    obtain ⟨X, hX⟩ := choose_lt (α := ByteArray) (p := fun i z => W.cells? 0 (a.add (i * 1)) 1 = some [.string z] ∧ z.size ≤ 140737488351232) (n := len) (fun i hi => by
      obtain ⟨cs', h1, h2⟩ := he i (by omega)
      obtain ⟨z, rfl, hz, _⟩ := DataW.trod_string Tryd.underlying9 h2
      rw [cellsStr] at h1
      refine ⟨z, h1, ?_⟩
      have := hw i hi z.data.toList.length (by
        have e : D i = .lit (.string z.data.toList) := by simpa using congrArg Prod.fst hz
        rw [e]
        simp [DataW.weights])
      simpa using this)
    have hwt : (len + (m - len)) * 16 ≤ 140737488351232 := by
      have := hs ((len + (m - len)) * Tryd.prog.bytesOf 9) (by rw [hx]; simp [DataW.weights, Tryd.underlying22])
      rwa [bytesStr] at this
    refine ⟨some a, m, (List.range len).map X, by simp, fun h => (by cases h), by simpa using hl, ?_, ?_, ?_⟩
    · refine row_of (by decide) (fun k => [.string (X k)]) _ (by simp [strs]) (fun k j hk hj => ?_) (fun i hi => (hX i hi).1)
      obtain rfl : j = 0 := by omega
      simp [strs, hk]
    · simp only [List.length_map, List.length_range]; omega
    · intro y hy
      obtain ⟨i, hi, rfl⟩ := List.mem_map.1 hy
      exact (hX i (by simpa using hi)).2

set_option maxRecDepth 100000 in
theorem open_tree2 {v0 v1 : Value} {x : DataW H × List MemPlace} (hf : DataW.trod enc Tryd.prog W 0 (fun _ => true) held fuel 25 [v0, v1] = some x) (hs : Sized 25 x.1) :
    ∃ A C ps n, v0 = .slice A ps.length C ∧ v1 = .int .i64 n ∧ NodesAt W.heap.size W A ps ∧ (∀ p ∈ ps, p.wf) ∧ (Lit.int .i64 n).wf = true := by
  obtain ⟨xs, n, _, hx, _, hlen, hg⟩ := DataW.trod_struct Tryd.underlying25 hf
  match xs, hlen with
  | [y0, y1], _ =>
    have g0 := hg 0 _ rfl
    have g1 := hg 1 _ rfl
    simp [cellsSlN, cellsInt] at g0 g1
    cases hx
    obtain ⟨A, C, ps, rfl, hN, hw⟩ := open_nodes g0 (fun n hn => hs n (by
      simp only [List.map_cons, List.map_nil, DataW.weights, Tryd.underlying25]
      exact DataW.weights_mem_each (ts := [23, 3]) (j := 0) rfl rfl n hn))
    obtain ⟨m, e1, _, w1⟩ := DataW.trod_int Tryd.underlying3 g1
    simp at e1
    subst e1
    exact ⟨A, C, ps, m, rfl, rfl, hN, hw, w1⟩

/-- A tree that came in: its nodes, their places, its root. -/
structure TR where
  A : Option Addr
  C : Nat
  ps : List PN
  r : Int

def TR.ok (w : World) (t : TR) : Prop := NodesAt w.heap.size w t.A t.ps ∧ (∀ p ∈ t.ps, p.wf) ∧ (Lit.int .i64 t.r).wf = true

set_option maxRecDepth 100000 in
theorem open_base {base b0 : Nat} {r : Reach} {v : Value} {d : DataW H} {p : List MemPlace} (hb : base = 0) (hv : Value.okWide Tryd.prog W r b0 28 v) (h : DataW.Trod enc Tryd.prog W base (fun _ => true) held 28 v d p) (hs : Sized 28 d) :
    ∃ (A : Option Addr) (C : Nat) (ss : List ByteArray) (t0 t1 t2 : TR) (f : Int), v = .agg #[.slice A ss.length C, .slice t0.A t0.ps.length t0.C, .int .i64 t0.r, .slice t1.A t1.ps.length t1.C, .int .i64 t1.r, .slice t2.A t2.ps.length t2.C, .int .i64 t2.r, .int .i64 f] ∧ (A = none → C = 0) ∧ ss.length ≤ C ∧ StrsAt W.heap.size W A ss ∧ t0.ok W ∧ t1.ok W ∧ t2.ok W ∧ (Lit.int .i64 f).wf = true := by
  subst hb
  obtain ⟨⟨cs⟩, rfl, hsz⟩ := okWide_struct Tryd.underlying28 hv
  rw [cellsBase] at hsz
  match cs, hsz with
  | [v0, v1, v2, v3, v4, v5, v6, v7], _ =>
    obtain ⟨fuel, hf⟩ := h
    obtain ⟨xs, n, _, hx, _, hlen, hg⟩ := DataW.trod_struct Tryd.underlying28 hf
    match xs, hlen with
    | [y0, y1, y2], _ =>
      have g0 := hg 0 _ rfl
      have g1 := hg 1 _ rfl
      have g2 := hg 2 _ rfl
      simp [Value.cells, cellsSlS, cellsInt, cellsArT] at g0 g1 g2
      cases hx
      have hw : ∀ n ∈ DataW.weightsEach Tryd.prog [22, 26, 3] [y0.1, y1.1, y2.1], n ≤ 140737488351232 := by
        intro n hn
        refine hs n ?_
        simp only [List.map_cons, List.map_nil, DataW.weights, Tryd.underlying28]
        exact hn
      obtain ⟨A, C, ss, rfl, hA, hC, hS⟩ := open_strs g0 (fun n hn => hw n (DataW.weights_mem_each (j := 0) rfl rfl n hn))
      obtain ⟨zs, m, _, hzx, _, hzl, hz⟩ := DataW.trod_array Tryd.underlying26 g1
      obtain ⟨f, e2, _, w2⟩ := DataW.trod_int Tryd.underlying3 g2
      simp at e2
      subst e2
      match zs, hzl with
      | [z0, z1, z2], _ =>
        have a0 := hz 0 (by decide)
        have a1 := hz 1 (by decide)
        have a2 := hz 2 (by decide)
        simp [cellsTr] at a0 a1 a2
        have hwz : ∀ z ∈ [z0, z1, z2], Sized 25 z.1 := by
          intro z hm n hn
          refine hw n (DataW.weights_mem_each (j := 1) rfl rfl n ?_)
          rw [hzx]
          simp only [DataW.weights, Tryd.underlying26]
          exact weightsAll_mem (List.mem_map.2 ⟨z, hm, rfl⟩) n hn
        obtain ⟨A0, C0, p0, r0, rfl, rfl, n0, f0, w0⟩ := open_tree2 a0 (hwz _ (by simp))
        obtain ⟨A1, C1, p1, r1, rfl, rfl, n1, f1, w1⟩ := open_tree2 a1 (hwz _ (by simp))
        obtain ⟨A2, C2, p2, r2, rfl, rfl, n2, f2, w3⟩ := open_tree2 a2 (hwz _ (by simp))
        exact ⟨A, C, ss, ⟨A0, C0, p0, r0⟩, ⟨A1, C1, p1, r1⟩, ⟨A2, C2, p2, r2⟩, f, rfl, hA, hC, hS, ⟨n0, f0, w0⟩, ⟨n1, f1, w1⟩, ⟨n2, f2, w3⟩, w2⟩

end

theorem strs_get (ss : List ByteArray) (k : Nat) (hk : k < ss.length) : (strs ss)[k]? = some (.string ss[k]) := by simp [strs, hk]

theorem RowAt.str {B : Nat} {w : World} {A : Option Addr} {ss : List ByteArray} (h : RowAt B w A (strs ss)) {k : Nat} (hk : k < ss.length) :
    ∃ b o, A = some ⟨b, o, none⟩ ∧ b < B ∧ w.cell? ⟨b, o + k, none⟩ = some (.string ss[k]) ∧ ∀ j, j < ss.length → w.cell? ⟨b, o + j, none⟩ = some (.string (ss.getD j ByteArray.empty)) := by
  rcases h with h | ⟨b, o, hA, hlt, hc⟩
  · rw [strs, List.map_eq_nil_iff] at h
    subst h
    simp at hk
  · refine ⟨b, o, hA, hlt, hc k _ (strs_get ss k hk), fun j hj => ?_⟩
    have := hc j _ (strs_get ss j hj)
    rw [this, List.getD_eq_getElem?_getD, List.getElem?_eq_getElem hj]
    rfl

theorem StrsAt.up {w cur : World} {A : Option Addr} {ss : List ByteArray} (h : StrsAt w.heap.size w A ss) (hb : Below w.heap.size w cur) : StrsAt cur.heap.size cur A ss := ⟨h.row.up hb, h.z, h.each⟩

end Go.Proofs.YtlojfgdpmaigmafDoor

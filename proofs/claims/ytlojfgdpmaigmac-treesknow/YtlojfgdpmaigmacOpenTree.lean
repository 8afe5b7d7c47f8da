/- How a tree that came in is opened. -/
import Derived.Test.YtlojfgdpmaigmacP05
import Derived.Test.YtlojfgdpmaigmacP04
import Derived.Deep.Slices
import Derived.SizedLaws
namespace Go.Proofs.Ytlojfgdpmaigmac
open Go.ChangeShapes Go.WideShapes Go.ChangeAt Go.RowKit Go.Deep

theorem spot_none {w : World} {a : Addr} {v : Value} (h : w.cell? a = some v) : a.spot = none := by
  unfold World.cell? at h
  split at h
  · cases hs : a.spot with
    | none => rfl
    | some x => simp [hs] at h
  · simp at h

/-- Rows of elements of several cells, from their elements. -/
theorem row_of {w : World} {a : Addr} {size len : Nat} (hs : 0 < size) (F : Nat → List Value) (all : List Value) (hlen : all.length = len * size) (hget : ∀ k j, k < len → j < size → all[k * size + j]? = (F k)[j]?)
    (hc : ∀ i, i < len → w.cells? 0 (a.add (i * size)) size = some (F i)) : RowAt w.heap.size w (some a) all := by
  by_cases h0 : len = 0
  · left
    exact List.eq_nil_of_length_eq_zero (by rw [hlen, h0, Nat.zero_mul])
  · right
    have hcell : ∀ q u, all[q]? = some u → w.cell? (a.add q) = some u := by
      intro q u hu
      have hq : q < len * size := by rw [← hlen]; exact (List.getElem?_eq_some_iff.1 hu).1
      have hk : q / size < len := Nat.div_lt_of_lt_mul (by rw [Nat.mul_comm]; exact hq)
      have hj : q % size < size := Nat.mod_lt _ hs
      have hqe : q / size * size + q % size = q := Nat.div_add_mod' q size
      have h1 := (World.cells?_some (hc _ hk)).2.2 _ hj
      rw [add_add, hqe, ← hget _ _ hk hj, hqe, hu] at h1
      exact h1
    have hpos : 0 < all.length := by rw [hlen]; exact Nat.mul_pos (by omega) hs
    have ha := hcell 0 _ (List.getElem?_eq_getElem hpos)
    have hsp := spot_none ha
    have ha0 : a.add 0 = a := by simp [Addr.add]
    rw [ha0] at hsp ha
    obtain ⟨b, o, s⟩ := a
    simp only at hsp
    subst hsp
    refine ⟨b, o, rfl, World.block_lt_of_cell? _ _ ha, fun j u hu => ?_⟩
    have := hcell j u hu
    rwa [add_plain] at this

section
variable {H : Type} {enc : TypeId × Value → H} {W : World} {held : Bool} {spare : Nat → Bool} {fuel : Nat}

theorem cellsEn : Try.prog.cellsOf 53 = 7 := by kernel_rfl
theorem cellsNd : Try.prog.cellsOf 62 = 5 := by kernel_rfl
theorem cellsTr : Try.prog.cellsOf 26 = 2 := by kernel_rfl
theorem cellsBool : Try.prog.cellsOf 4 = 1 := by kernel_rfl
theorem cellsSlE : Try.prog.cellsOf 35 = 1 := by kernel_rfl
theorem cellsSlI : Try.prog.cellsOf 60 = 1 := by kernel_rfl
theorem cellsSlN : Try.prog.cellsOf 24 = 1 := by kernel_rfl
theorem bytesEn : Try.prog.bytesOf 53 = 56 := by kernel_rfl
theorem bytesNd : Try.prog.bytesOf 62 = 104 := by kernel_rfl
theorem bytesInt : Try.prog.bytesOf 3 = 8 := by kernel_rfl

def En.wf (x : En) : Prop := (Lit.int .i64 x.key).wf = true ∧ (Lit.int .i64 x.c).wf = true ∧ (Lit.int .i64 x.s).wf = true ∧ (Lit.int .i64 x.lo).wf = true ∧ (Lit.int .i64 x.hi).wf = true ∧ (Lit.int .i64 x.t).wf = true ∧ (Lit.int .i64 x.l).wf = true

set_option maxRecDepth 100000 in
theorem open_en {cs : List Value} {x : DataW H × List MemPlace} (h : DataW.trod enc Try.prog W 0 spare held fuel 53 cs = some x) : ∃ y : En, cs = y.vals ∧ y.wf := by
  obtain ⟨xs, n, _, _, hl, hxl, hg⟩ := DataW.trod_struct Try.underlying53 h
  rw [cellsEn] at hl
  match cs, hl with
  | [v0, v1, v2, v3, v4, v5, v6], _ =>
    match xs, hxl with
    | [y0, y1], _ =>
      have g0 := hg 0 _ rfl
      have g1 := hg 1 _ rfl
      obtain ⟨k, e0, _, w0⟩ := DataW.trod_int Try.underlying3 g0
      obtain ⟨zs, m, _, _, _, hzl, hz⟩ := DataW.trod_struct Try.underlying31 g1
      match zs, hzl with
      | [z0, z1, z2, z3, z4, z5], _ =>
        obtain ⟨c, e1, _, w1⟩ := DataW.trod_int Try.underlying3 (hz 0 _ rfl)
        obtain ⟨s, e2, _, w2⟩ := DataW.trod_int Try.underlying3 (hz 1 _ rfl)
        obtain ⟨lo, e3, _, w3⟩ := DataW.trod_int Try.underlying3 (hz 2 _ rfl)
        obtain ⟨hi, e4, _, w4⟩ := DataW.trod_int Try.underlying3 (hz 3 _ rfl)
        obtain ⟨t, e5, _, w5⟩ := DataW.trod_int Try.underlying3 (hz 4 _ rfl)
        obtain ⟨l, e6, _, w6⟩ := DataW.trod_int Try.underlying3 (hz 5 _ rfl)
        simp [cellsInt, cellsRu] at e0 e1 e2 e3 e4 e5 e6
        subst e0 e1 e2 e3 e4 e5 e6
        exact ⟨⟨k, c, s, lo, hi, t, l⟩, rfl, w0, w1, w2, w3, w4, w5, w6⟩

def Sized (t : TypeId) (d : DataW H) : Prop := ∀ n ∈ d.weights Try.prog t, n ≤ 140737488351232

set_option maxRecDepth 100000 in
theorem open_ents {v : Value} {x : DataW H × List MemPlace} (h : DataW.trod enc Try.prog W 0 (fun _ => true) held fuel 35 [v] = some x) (hs : Sized 35 x.1) :
    ∃ A C xs, v = .slice A xs.length C ∧ (A = none → C = 0) ∧ xs.length ≤ C ∧ RowAt W.heap.size W A (flatE xs) ∧ xs.length * 56 ≤ 140737488351232 ∧ ∀ y ∈ xs, y.wf := by
  rcases open_slice Try.underlying35 h with ⟨hv, _⟩ | ⟨a, len, cap, m, n, D, Pl, hv, _, hl, _, hm, hx, he⟩
  · simp at hv
    subst hv
    exact ⟨none, 0, [], rfl, fun _ => rfl, Nat.le_refl _, .inl rfl, by simp, by simp⟩
  · simp at hv
    subst hv
    simp only [if_true] at hm
    subst hm
    obtain ⟨X, hX⟩ := choose_lt (α := En) (p := fun i y => W.cells? 0 (a.add (i * 7)) 7 = some y.vals ∧ y.wf) (n := len) (fun i hi => by
      obtain ⟨cs', h1, h2⟩ := he i (by omega)
      obtain ⟨y, rfl, hy⟩ := open_en h2
      rw [cellsEn] at h1
      exact ⟨y, h1, hy⟩)
    have hwt : (len + (m - len)) * 56 ≤ 140737488351232 := by
      have := hs ((len + (m - len)) * Try.prog.bytesOf 53) (by rw [hx]; simp [DataW.weights, Try.underlying35])
      rwa [bytesEn] at this
    refine ⟨some a, m, (List.range len).map X, by simp, fun h => (by cases h), by simpa using hl, ?_, ?_, ?_⟩
    · refine row_of (by decide) (fun k => (X k).vals) _ (by rw [flatE_length]; simp) (fun k j hk hj => ?_) (fun i hi => (hX i hi).1)
      rw [flatE_get _ k j (by simpa using hk) hj]
      simp
    · simp only [List.length_map, List.length_range]; omega
    · intro y hy
      obtain ⟨i, hi, rfl⟩ := List.mem_map.1 hy
      exact (hX i (by simpa using hi)).2

set_option maxRecDepth 100000 in
theorem open_nums {v : Value} {x : DataW H × List MemPlace} (h : DataW.trod enc Try.prog W 0 (fun _ => true) held fuel 60 [v] = some x) (hs : Sized 60 x.1) :
    ∃ A C zs, v = .slice A zs.length C ∧ (A = none → C = 0) ∧ zs.length ≤ C ∧ RowAt W.heap.size W A (ints zs) ∧ zs.length * 8 ≤ 140737488351232 ∧ ∀ z ∈ zs, (Lit.int .i64 z).wf = true := by
  rcases open_slice Try.underlying60 h with ⟨hv, _⟩ | ⟨a, len, cap, m, n, D, Pl, hv, _, hl, _, hm, hx, he⟩
  · simp at hv
    subst hv
    exact ⟨none, 0, [], rfl, fun _ => rfl, Nat.le_refl _, .inl rfl, by simp, by simp⟩
  · simp at hv
    subst hv
    simp only [if_true] at hm
    subst hm
    obtain ⟨X, hX⟩ := choose_lt (α := Int) (p := fun i z => W.cells? 0 (a.add (i * 1)) 1 = some [.int .i64 z] ∧ (Lit.int .i64 z).wf = true) (n := len) (fun i hi => by
      obtain ⟨cs', h1, h2⟩ := he i (by omega)
      obtain ⟨z, rfl, _, hz⟩ := DataW.trod_int Try.underlying3 h2
      rw [cellsInt] at h1
      exact ⟨z, h1, hz⟩)
    have hwt : (len + (m - len)) * 8 ≤ 140737488351232 := by
      have := hs ((len + (m - len)) * Try.prog.bytesOf 3) (by rw [hx]; simp [DataW.weights, Try.underlying60])
      rwa [bytesInt] at this
    refine ⟨some a, m, (List.range len).map X, by simp, fun h => (by cases h), by simpa using hl, ?_, ?_, ?_⟩
    · refine row_of (by decide) (fun k => [.int .i64 (X k)]) _ (by simp [ints]) (fun k j hk hj => ?_) (fun i hi => (hX i hi).1)
      obtain rfl : j = 0 := by omega
      simp [ints, hk]
    · simp only [List.length_map, List.length_range]; omega
    · intro y hy
      obtain ⟨i, hi, rfl⟩ := List.mem_map.1 hy
      exact (hX i (by simpa using hi)).2

def PN.wf (p : PN) : Prop := (∀ y ∈ p.ents, y.wf) ∧ (∀ z ∈ p.keys, (Lit.int .i64 z).wf = true) ∧ (∀ z ∈ p.kids, (Lit.int .i64 z).wf = true) ∧ ∀ y ∈ p.buf, y.wf

set_option maxRecDepth 100000 in
theorem open_node {cs : List Value} {x : DataW H × List MemPlace} (h : DataW.trod enc Try.prog W 0 (fun _ => true) held fuel 62 cs = some x) (hs : Sized 62 x.1) :
    ∃ p : PN, cs = p.vals ∧ p.ok W.heap.size W ∧ p.wf := by
  obtain ⟨xs, n, _, hx, hl, hxl, hg⟩ := DataW.trod_struct Try.underlying62 h
  rw [cellsNd] at hl
  match cs, hl with
  | [v0, v1, v2, v3, v4], _ =>
    match xs, hxl with
    | [y0, y1, y2, y3, y4], _ =>
      have g0 := hg 0 _ rfl
      have g1 := hg 1 _ rfl
      have g2 := hg 2 _ rfl
      have g3 := hg 3 _ rfl
      have g4 := hg 4 _ rfl
      simp [cellsBool, cellsSlE, cellsSlI] at g0 g1 g2 g3 g4
      have hw : ∀ n ∈ DataW.weightsEach Try.prog [4, 35, 60, 60, 35] [y0.1, y1.1, y2.1, y3.1, y4.1], n ≤ 140737488351232 := by
        intro n hn
        refine hs n ?_
        rw [hx]
        simp only [List.map_cons, List.map_nil, DataW.weights, Try.underlying62]
        exact hn
      obtain ⟨lf, e0, _⟩ := DataW.trod_bool Try.underlying4 g0
      simp at e0
      subst e0
      obtain ⟨eA, eC, ents, rfl, en, _, er, ez, ew⟩ := open_ents g1 (fun n hn => hw n (DataW.weights_mem_each (j := 1) rfl rfl n hn))
      obtain ⟨kA, kC, keys, rfl, kn, _, kr, kz, kw⟩ := open_nums g2 (fun n hn => hw n (DataW.weights_mem_each (j := 2) rfl rfl n hn))
      obtain ⟨dA, dC, kids, rfl, dn, _, dr, dz, dw⟩ := open_nums g3 (fun n hn => hw n (DataW.weights_mem_each (j := 3) rfl rfl n hn))
      obtain ⟨bA, bC, buf, rfl, bn, _, br, bz, bw⟩ := open_ents g4 (fun n hn => hw n (DataW.weights_mem_each (j := 4) rfl rfl n hn))
      exact ⟨⟨lf, eA, eC, ents, kA, kC, keys, dA, dC, kids, bA, bC, buf⟩, rfl, ⟨er, kr, dr, br, en, kn, dn, bn, ez, kz, dz, bz⟩, ew, kw, dw, bw⟩

theorem weightsAll_mem {P : Program} {e : TypeId} : ∀ {ds : List (DataW H)} {d : DataW H}, d ∈ ds → ∀ n ∈ d.weights P e, n ∈ DataW.weightsAll P e ds
  | d0 :: r, d, hd, n, hn => by
    simp only [DataW.weightsAll, List.mem_append]
    rcases List.mem_cons.1 hd with rfl | h
    · exact .inl hn
    · exact .inr (weightsAll_mem h n hn)

set_option maxRecDepth 100000 in
theorem open_nodes {v : Value} {x : DataW H × List MemPlace} (h : DataW.trod enc Try.prog W 0 (fun _ => true) held fuel 24 [v] = some x) (hs : Sized 24 x.1) :
    ∃ A C ps, v = .slice A ps.length C ∧ NodesAt W.heap.size W A ps ∧ ∀ p ∈ ps, p.wf := by
  rcases open_slice Try.underlying24 h with ⟨hv, _⟩ | ⟨a, len, cap, m, n, D, Pl, hv, _, hl, _, hm, hx, he⟩
  · simp at hv
    subst hv
    exact ⟨none, 0, [], rfl, ⟨.inl rfl, fun k hk => absurd hk (Nat.not_lt_zero _), by simp⟩, by simp⟩
  · simp at hv
    subst hv
    simp only [if_true] at hm
    subst hm
    have hw : ∀ i, i < len → Sized 62 (D i) := by
      intro i hi n hn
      refine hs n ?_
      rw [hx]
      simp only [DataW.weights, Try.underlying24, List.mem_cons, List.mem_append]
      exact .inr (.inl (weightsAll_mem (List.mem_map.2 ⟨i, by simpa using hi, rfl⟩) n hn))
    obtain ⟨X, hX⟩ := choose_lt (α := PN) (p := fun i y => W.cells? 0 (a.add (i * 5)) 5 = some y.vals ∧ y.ok W.heap.size W ∧ y.wf) (n := len) (fun i hi => by
      obtain ⟨cs', h1, h2⟩ := he i (by omega)
      obtain ⟨y, rfl, hy, hyw⟩ := open_node h2 (hw i hi)
      rw [cellsNd] at h1
      exact ⟨y, h1, hy, hyw⟩)
    have hwt : (len + (m - len)) * 104 ≤ 140737488351232 := by
      have := hs ((len + (m - len)) * Try.prog.bytesOf 62) (by rw [hx]; simp [DataW.weights, Try.underlying24])
      rwa [bytesNd] at this
    refine ⟨some a, m, (List.range len).map X, by simp, ⟨?_, ?_, ?_⟩, ?_⟩
    · refine row_of (by decide) (fun k => (X k).vals) _ (by rw [flatN_length]; simp) (fun k j hk hj => ?_) (fun i hi => (hX i hi).1)
      rw [flatN_get _ k j (by simpa using hk) hj]
      simp
    · intro k hk
      simp only [List.length_map, List.length_range] at hk
      simpa using (hX k hk).2.1
    · simp only [List.length_map, List.length_range]; omega
    · intro y hy
      obtain ⟨i, hi, rfl⟩ := List.mem_map.1 hy
      exact (hX i (by simpa using hi)).2.2

set_option maxRecDepth 100000 in
theorem open_tree {base b0 : Nat} {r : Reach} {v : Value} {d : DataW H} {p : List MemPlace} (hb : base = 0) (hv : Value.okWide Try.prog W r b0 26 v) (h : DataW.Trod enc Try.prog W base (fun _ => true) held 26 v d p) (hs : Sized 26 d) :
    ∃ A C ps n, v = .agg #[.slice A ps.length C, .int .i64 n] ∧ NodesAt W.heap.size W A ps ∧ (∀ p ∈ ps, p.wf) ∧ (Lit.int .i64 n).wf = true := by
  subst hb
  obtain ⟨⟨cs⟩, rfl, hsz⟩ := okWide_struct Try.underlying26 hv
  rw [cellsTr] at hsz
  match cs, hsz with
  | [v0, v1], _ =>
    obtain ⟨fuel, hf⟩ := h
    obtain ⟨xs, n, _, hx, _, hlen, hg⟩ := DataW.trod_struct Try.underlying26 hf
    match xs, hlen with
    | [y0, y1], _ =>
      have g0 := hg 0 _ rfl
      have g1 := hg 1 _ rfl
      simp [Value.cells, cellsSlN, cellsInt] at g0 g1
      cases hx
      obtain ⟨A, C, ps, rfl, hN, hw⟩ := open_nodes g0 (fun n hn => hs n (by
        simp only [List.map_cons, List.map_nil, DataW.weights, Try.underlying26]
        exact DataW.weights_mem_each (ts := [24, 3]) (j := 0) rfl rfl n hn))
      obtain ⟨m, e1, _, w1⟩ := DataW.trod_int Try.underlying3 g1
      simp at e1
      subst e1
      exact ⟨A, C, ps, m, rfl, hN, hw, w1⟩

end
end Go.Proofs.Ytlojfgdpmaigmac

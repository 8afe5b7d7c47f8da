/- How a base that came in is opened. -/
import Derived.Test.YtndojgeodmddoadDoorOpenTree
import Derived.ChangeMaps5
namespace Go.Proofs.YtndojgeodmddoadDoor
open Go.ChangeShapes Go.WideShapes Go.ChangeAt Go.RowKit Go.Deep

def strs (ss : List ByteArray) : List Value := ss.map .string

theorem cellsStr : Tryd.prog.cellsOf 9 = 1 := by kernel_rfl
theorem cellsSlS : Tryd.prog.cellsOf 22 = 1 := by kernel_rfl
theorem cellsArT : Tryd.prog.cellsOf 26 = 6 := by kernel_rfl
theorem cellsBase : Tryd.prog.cellsOf 28 = 8 := by kernel_rfl
theorem bytesStr : Tryd.prog.bytesOf 9 = 16 := by kernel_rfl

section
variable {H : Type} {enc : TypeId × Value → H} {W : World} {held : Bool} {fuel : Nat}

/-- A list of texts: what is known of it. -/
structure StrsAt (B : Nat) (w : World) (A : Option Addr) (ss : List ByteArray) : Prop where
  row : RowAt B w A (strs ss)
  z : ss.length * 16 ≤ 140737488351232
  each : ∀ s ∈ ss, s.size ≤ 140737488351232

set_option maxRecDepth 100000 in
theorem open_strs {v : Value} {x : DataW H × List MemPlace} (h : DataW.trod enc Tryd.prog W 0 (fun _ => true) held fuel 22 [v] = some x) (hs : Sized 22 x.1) :
    ∃ A C ss, v = .slice A ss.length C ∧ (A = none → C = 0) ∧ ss.length ≤ C ∧ StrsAt W.heap.size W A ss := by
  rcases open_slice Tryd.underlying22 h with ⟨hv, _⟩ | ⟨a, len, cap, m, n, D, Pl, hv, _, hl, _, hm, hx, he⟩
  · simp at hv
    subst hv
    exact ⟨none, 0, [], rfl, fun _ => rfl, Nat.le_refl _, .inl rfl, by simp, by simp⟩
  · simp at hv
    subst hv
    simp only [if_true] at hm
    subst hm
    have hw : ∀ i, i < len → Sized 9 (D i) := by
      intro i hi n hn
      refine hs n ?_
      rw [hx]
      simp only [DataW.weights, Tryd.underlying22, List.mem_cons, List.mem_append]
      exact .inr (.inl (weightsAll_mem (List.mem_map.2 ⟨i, by simpa using hi, rfl⟩) n hn))
    obtain ⟨X, hX⟩ := choose_lt (α := ByteArray) (p := fun i z => W.cells? 0 (a.add (i * 1)) 1 = some [.string z] ∧ z.size ≤ 140737488351232) (n := len) (fun i hi => by
      obtain ⟨cs', h1, h2⟩ := he i (by omega)
      obtain ⟨z, rfl, hz, _⟩ := DataW.trod_string Tryd.underlying9 h2
      rw [cellsStr] at h1
      refine ⟨z, h1, ?_⟩
      have := hw i hi z.data.toList.length (by
        have e : D i = .lit (.string z.data.toList) := by simpa using congrArg Prod.fst hz
        rw [e]
        simp [DataW.weights])
      simpa using this)
    have hwt : (len + (m - len)) * 16 ≤ 140737488351232 := by
      have := hs ((len + (m - len)) * Tryd.prog.bytesOf 9) (by rw [hx]; simp [DataW.weights, Tryd.underlying22])
      rwa [bytesStr] at this
    refine ⟨some a, m, (List.range len).map X, by simp, fun h => (by cases h), by simpa using hl, ?_, ?_, ?_⟩
    · refine row_of (by decide) (fun k => [.string (X k)]) _ (by simp [strs]) (fun k j hk hj => ?_) (fun i hi => (hX i hi).1)
      obtain rfl : j = 0 := by omega
      simp [strs, hk]
    · simp only [List.length_map, List.length_range]; omega
    · intro y hy
      obtain ⟨i, hi, rfl⟩ := List.mem_map.1 hy
      exact (hX i (by simpa using hi)).2

set_option maxRecDepth 100000 in
theorem open_tree2 {v0 v1 : Value} {x : DataW H × List MemPlace} (hf : DataW.trod enc Tryd.prog W 0 (fun _ => true) held fuel 25 [v0, v1] = some x) (hs : Sized 25 x.1) :
    ∃ A C ps n, v0 = .slice A ps.length C ∧ v1 = .int .i64 n ∧ NodesAt W.heap.size W A ps ∧ (∀ p ∈ ps, p.wf) ∧ (Lit.int .i64 n).wf = true := by
  obtain ⟨xs, n, _, hx, _, hlen, hg⟩ := DataW.trod_struct Tryd.underlying25 hf
  match xs, hlen with
  | [y0, y1], _ =>
    have g0 := hg 0 _ rfl
    have g1 := hg 1 _ rfl
    simp [cellsSlN, cellsInt] at g0 g1
    cases hx
    obtain ⟨A, C, ps, rfl, hN, hw⟩ := open_nodes g0 (fun n hn => hs n (by
      simp only [List.map_cons, List.map_nil, DataW.weights, Tryd.underlying25]
      exact DataW.weights_mem_each (ts := [23, 3]) (j := 0) rfl rfl n hn))
    obtain ⟨m, e1, _, w1⟩ := DataW.trod_int Tryd.underlying3 g1
    simp at e1
    subst e1
    exact ⟨A, C, ps, m, rfl, rfl, hN, hw, w1⟩

/-- A tree that came in: its nodes, their places, its root. -/
structure TR where
  A : Option Addr
  C : Nat
  ps : List PN
  r : Int

def TR.ok (w : World) (t : TR) : Prop := NodesAt w.heap.size w t.A t.ps ∧ (∀ p ∈ t.ps, p.wf) ∧ (Lit.int .i64 t.r).wf = true

set_option maxRecDepth 100000 in
theorem open_base {base b0 : Nat} {r : Reach} {v : Value} {d : DataW H} {p : List MemPlace} (hb : base = 0) (hv : Value.okWide Tryd.prog W r b0 28 v) (h : DataW.Trod enc Tryd.prog W base (fun _ => true) held 28 v d p) (hs : Sized 28 d) :
    ∃ (A : Option Addr) (C : Nat) (ss : List ByteArray) (t0 t1 t2 : TR) (f : Int), v = .agg #[.slice A ss.length C, .slice t0.A t0.ps.length t0.C, .int .i64 t0.r, .slice t1.A t1.ps.length t1.C, .int .i64 t1.r, .slice t2.A t2.ps.length t2.C, .int .i64 t2.r, .int .i64 f] ∧ (A = none → C = 0) ∧ ss.length ≤ C ∧ StrsAt W.heap.size W A ss ∧ t0.ok W ∧ t1.ok W ∧ t2.ok W ∧ (Lit.int .i64 f).wf = true := by
  subst hb
  obtain ⟨⟨cs⟩, rfl, hsz⟩ := okWide_struct Tryd.underlying28 hv
  rw [cellsBase] at hsz
  match cs, hsz with
  | [v0, v1, v2, v3, v4, v5, v6, v7], _ =>
    obtain ⟨fuel, hf⟩ := h
    obtain ⟨xs, n, _, hx, _, hlen, hg⟩ := DataW.trod_struct Tryd.underlying28 hf
    match xs, hlen with
    | [y0, y1, y2], _ =>
      have g0 := hg 0 _ rfl
      have g1 := hg 1 _ rfl
      have g2 := hg 2 _ rfl
      simp [Value.cells, cellsSlS, cellsInt, cellsArT] at g0 g1 g2
      cases hx
      have hw : ∀ n ∈ DataW.weightsEach Tryd.prog [22, 26, 3] [y0.1, y1.1, y2.1], n ≤ 140737488351232 := by
        intro n hn
        refine hs n ?_
        simp only [List.map_cons, List.map_nil, DataW.weights, Tryd.underlying28]
        exact hn
      obtain ⟨A, C, ss, rfl, hA, hC, hS⟩ := open_strs g0 (fun n hn => hw n (DataW.weights_mem_each (j := 0) rfl rfl n hn))
      obtain ⟨zs, m, _, hzx, _, hzl, hz⟩ := DataW.trod_array Tryd.underlying26 g1
      obtain ⟨f, e2, _, w2⟩ := DataW.trod_int Tryd.underlying3 g2
      simp at e2
      subst e2
      match zs, hzl with
      | [z0, z1, z2], _ =>
        have a0 := hz 0 (by decide)
        have a1 := hz 1 (by decide)
        have a2 := hz 2 (by decide)
        simp [cellsTr] at a0 a1 a2
        have hwz : ∀ z ∈ [z0, z1, z2], Sized 25 z.1 := by
          intro z hm n hn
          refine hw n (DataW.weights_mem_each (j := 1) rfl rfl n ?_)
          rw [hzx]
          simp only [DataW.weights, Tryd.underlying26]
          exact weightsAll_mem (List.mem_map.2 ⟨z, hm, rfl⟩) n hn
        obtain ⟨A0, C0, p0, r0, rfl, rfl, n0, f0, w0⟩ := open_tree2 a0 (hwz _ (by simp))
        obtain ⟨A1, C1, p1, r1, rfl, rfl, n1, f1, w1⟩ := open_tree2 a1 (hwz _ (by simp))
        obtain ⟨A2, C2, p2, r2, rfl, rfl, n2, f2, w3⟩ := open_tree2 a2 (hwz _ (by simp))
        exact ⟨A, C, ss, ⟨A0, C0, p0, r0⟩, ⟨A1, C1, p1, r1⟩, ⟨A2, C2, p2, r2⟩, f, rfl, hA, hC, hS, ⟨n0, f0, w0⟩, ⟨n1, f1, w1⟩, ⟨n2, f2, w3⟩, w2⟩

end

theorem strs_get (ss : List ByteArray) (k : Nat) (hk : k < ss.length) : (strs ss)[k]? = some (.string ss[k]) := by simp [strs, hk]

theorem RowAt.str {B : Nat} {w : World} {A : Option Addr} {ss : List ByteArray} (h : RowAt B w A (strs ss)) {k : Nat} (hk : k < ss.length) :
    ∃ b o, A = some ⟨b, o, none⟩ ∧ b < B ∧ w.cell? ⟨b, o + k, none⟩ = some (.string ss[k]) ∧ ∀ j, j < ss.length → w.cell? ⟨b, o + j, none⟩ = some (.string (ss.getD j ByteArray.empty)) := by
  rcases h with h | ⟨b, o, hA, hlt, hc⟩
  · rw [strs, List.map_eq_nil_iff] at h
    subst h
    simp at hk
  · refine ⟨b, o, hA, hlt, hc k _ (strs_get ss k hk), fun j hj => ?_⟩
    have := hc j _ (strs_get ss j hj)
    rw [this, List.getD_eq_getElem?_getD, List.getElem?_eq_getElem hj]
    rfl

theorem StrsAt.up {w cur : World} {A : Option Addr} {ss : List ByteArray} (h : StrsAt w.heap.size w A ss) (hb : Below w.heap.size w cur) : StrsAt cur.heap.size cur A ss := ⟨h.row.up hb, h.z, h.each⟩

end Go.Proofs.YtndojgeodmddoadDoor

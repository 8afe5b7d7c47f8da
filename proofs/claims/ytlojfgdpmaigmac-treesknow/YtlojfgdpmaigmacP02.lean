/- Entries that may be (P2.1): the document's test. -/
import Derived.Test.YtlojfgdpmaigmacP01
import Derived.BigQuiet
import Derived.Shelf.Lays2
import Derived.Shelf.SlLaysC2
import Derived.Shelf.SlLaysF0
import Derived.Test.YtlojfgdpmaigmacProg
import Derived.Deep.DeepCutAuto
namespace Go.Proofs.Ytlojfgdpmaigmac
open Go.RowKit Plain

theorem below_drewN {B : Nat} {w w' : World} (h : Below B w w') (n : Nat) : Below B w (w'.drewN n) := ⟨h.os, h.tape, h.output, h.size, h.block⟩

end Go.Proofs.Ytlojfgdpmaigmac

/- Blocks that are known whole; blocks of one's own. -/
namespace Go.Proofs.Ytlojfgdpmaigmac
open Go.RowKit

/-- Block b holds these cells and no others; none is frozen. -/
def RowL (w : World) (b : Nat) (t : TypeId) (vs : List Value) : Prop := w.heap[b]? = some (.cells vs.toArray t (0, 0))

theorem RowL.lt {w : World} {b : Nat} {t : TypeId} {vs : List Value} (h : RowL w b t vs) : b < w.heap.size := (Array.getElem?_eq_some_iff.1 h).1

theorem RowL.of_block {w w' : World} {b : Nat} {t : TypeId} {vs : List Value} (h : RowL w b t vs) (e : w'.heap[b]? = w.heap[b]?) : RowL w' b t vs := e.trans h

theorem RowL.below {w w' : World} {b B : Nat} {t : TypeId} {vs : List Value} (h : RowL w b t vs) (hb : Below B w w') (hB : b < B) : RowL w' b t vs := h.of_block (hb.block b hB)

theorem RowL.cell {w : World} {b : Nat} {t : TypeId} {vs : List Value} (h : RowL w b t vs) (j : Nat) : w.cell? ⟨b, j, none⟩ = vs[j]? := by
  unfold RowL at h
  simp [World.cell?, h]

theorem RowL.frozen {w : World} {b : Nat} {t : TypeId} {vs : List Value} (h : RowL w b t vs) (j : Nat) : w.frozen? ⟨b, j, none⟩ = false := by
  unfold RowL at h
  simp [World.frozen?, h]

theorem RowL.set {w : World} {b : Nat} {t : TypeId} {vs : List Value} (h : RowL w b t vs) (i : Nat) (v : Value) : RowL (w.setCell ⟨b, i, none⟩ v) b t (vs.set i v) := by
  unfold RowL at *
  simp [World.setCell, Array.getElem?_modify, h]

theorem RowL.row {w : World} {b : Nat} {t : TypeId} {vs : List Value} (h : RowL w b t vs) : RowAt w.heap.size w (some ⟨b, 0, none⟩) vs :=
  .inr ⟨b, 0, rfl, h.lt, fun j u hu => by rw [Nat.zero_add, h.cell]; exact hu⟩

theorem rowL_alloc (w : World) (vs : List Value) (t : TypeId) : RowL (w.alloc (.cells vs.toArray t)) w.heap.size t vs := by
  unfold RowL
  exact heap_alloc_new w _

def PN.zero : PN := ⟨false, none, 0, [], none, 0, [], none, 0, [], none, 0, []⟩

theorem set_node (qs zs : List PN) (z p : PN) :
    (((((flatN (qs ++ z :: zs)).set (qs.length * 5) (.bool p.leaf)).set (qs.length * 5 + 1) (.slice p.eA p.ents.length p.eC)).set (qs.length * 5 + 2) (.slice p.kA p.keys.length p.kC)).set (qs.length * 5 + 3) (.slice p.dA p.kids.length p.dC)).set (qs.length * 5 + 4) (.slice p.bA p.buf.length p.bC) = flatN (qs ++ p :: zs) := by
  have hl := flatN_length qs
  simp only [flatN_append, flatN, ← hl]
  simp [List.set_append_right, PN.vals]

def nodeZ : Array Value := #[.bool false, .slice none 0 0, .slice none 0 0, .slice none 0 0, .slice none 0 0]
/-- What 'make' lays for n nodes. -/
def madeN (n : Nat) : Array Value := madeCells nodeZ (n * 5)

theorem madeN_eq (n : Nat) : madeN n = (flatN (List.replicate n PN.zero)).toArray := by
  have hl := flatN_length (List.replicate n PN.zero)
  simp only [List.length_replicate] at hl
  apply Array.ext
  · simp [madeN, size_madeCells, hl]
  · intro i h1 h2
    have hi : i < n * 5 := by simpa [madeN, size_madeCells] using h1
    have hk : i / 5 < n := by omega
    have g := flatN_get (List.replicate n PN.zero) (i / 5) (i % 5) (by simpa using hk) (Nat.mod_lt _ (by decide))
    rw [show i / 5 * 5 + i % 5 = i by omega] at g
    have e1 : (flatN (List.replicate n PN.zero)).toArray[i] = nodeZ[i % 5]! := by
      have h5 : i % 5 = 0 ∨ i % 5 = 1 ∨ i % 5 = 2 ∨ i % 5 = 3 ∨ i % 5 = 4 := by omega
      simp only [List.getElem_replicate] at g
      rw [List.getElem?_eq_getElem (by rw [hl]; exact hi)] at g
      simp only [List.getElem_toArray]
      rcases h5 with h | h | h | h | h <;> rw [h] at g ⊢ <;> simpa [PN.zero, PN.vals, nodeZ] using g
    rw [e1]
    simp [madeN, madeCells, nodeZ]

theorem infoN : (Try.prog.info? 62).map (fun i => (i.zero, i.size, i.bytes)) = some (some (.agg nodeZ), 5, 104) := by kernel_rfl

theorem run_makeN (n : Nat) (hn : n * 104 ≤ 140737488351232) (w : World) :
    (Instr.makeSlice 24 (.int .i64 (n : Int)) (.int .i64 (n : Int))).run Try.prog w = .ok (.slice (some ⟨w.heap.size, 0, none⟩) n n) (w.alloc (.cells (madeN n) 62)) := by
  obtain ⟨i0, hi, hz0, hz1, hz2⟩ := info_parts infoN
  have hr := run_make (P := Try.prog) w 24 62 i0 _ Try.underlying24 hi hz0 .i64 .i64 n n (by omega) (Int.le_refl _) (by rw [hz2]; omega) (by omega)
  simp only [Int.toNat_natCast, hz1] at hr
  exact hr

theorem own_of_block {w w' : World} {base : Nat} {e : TypeId} {size n : Nat} {v : Value} {vs : List Value} (h : w.ownsRow base e size v n vs) (hk : ∀ k, v.ownBlock = some k → w'.heap[k]? = w.heap[k]?) : w'.ownsRow base e size v n vs := by
  refine ⟨h.1, ?_⟩
  rcases h.2 with hn | ⟨g, cap, cur, rfl, hb, hg, rest⟩
  · exact .inl hn
  · exact .inr ⟨g, cap, cur, rfl, hb, (hk g rfl).trans hg, rest⟩

theorem own_mono {w : World} {base base' : Nat} {e : TypeId} {size n : Nat} {v : Value} {vs : List Value} (h : w.ownsRow base' e size v n vs) (hb : base ≤ base') : w.ownsRow base e size v n vs := by
  refine ⟨h.1, ?_⟩
  rcases h.2 with hn | ⟨g, cap, cur, rfl, hb', rest⟩
  · exact .inl hn
  · exact .inr ⟨g, cap, cur, rfl, by omega, rest⟩

def PN.blocks (p : PN) : List Nat := [p.eA, p.kA, p.dA, p.bA].filterMap (·.map Addr.block)

structure PN.own (base : Nat) (w : World) (p : PN) : Prop where
  e : w.ownsRow base 53 7 (.slice p.eA p.ents.length p.eC) p.ents.length (flatE p.ents)
  k : w.ownsRow base 3 1 (.slice p.kA p.keys.length p.kC) p.keys.length (ints p.keys)
  d : w.ownsRow base 3 1 (.slice p.dA p.kids.length p.dC) p.kids.length (ints p.kids)
  b : w.ownsRow base 53 7 (.slice p.bA p.buf.length p.bC) p.buf.length (flatE p.buf)
  ez : p.ents.length * 56 ≤ 140737488351232
  kz : p.keys.length * 8 ≤ 140737488351232
  dz : p.kids.length * 8 ≤ 140737488351232
  bz : p.buf.length * 56 ≤ 140737488351232

theorem mem_blocks {p : PN} {k : Nat} (h : (Value.slice p.eA p.ents.length p.eC).ownBlock = some k ∨ (Value.slice p.kA p.keys.length p.kC).ownBlock = some k ∨ (Value.slice p.dA p.kids.length p.dC).ownBlock = some k ∨ (Value.slice p.bA p.buf.length p.bC).ownBlock = some k) : k ∈ p.blocks := by
  have g : ∀ (A : Option Addr) (n c : Nat), (Value.slice A n c).ownBlock = some k → A.map Addr.block = some k := by
    intro A n c h
    cases A with
    | none => simp [Value.ownBlock] at h
    | some a => simpa [Value.ownBlock] using h
  simp only [PN.blocks, List.mem_filterMap, List.mem_cons, List.not_mem_nil, or_false]
  rcases h with h | h | h | h
  · exact ⟨_, .inl rfl, g _ _ _ h⟩
  · exact ⟨_, .inr (.inl rfl), g _ _ _ h⟩
  · exact ⟨_, .inr (.inr (.inl rfl)), g _ _ _ h⟩
  · exact ⟨_, .inr (.inr (.inr rfl)), g _ _ _ h⟩

theorem PN.own.of_blocks {base : Nat} {w w' : World} {p : PN} (h : p.own base w) (hk : ∀ k ∈ p.blocks, w'.heap[k]? = w.heap[k]?) : p.own base w' :=
  ⟨own_of_block h.e fun _ hb => hk _ (mem_blocks (.inl hb)), own_of_block h.k fun _ hb => hk _ (mem_blocks (.inr (.inl hb))), own_of_block h.d fun _ hb => hk _ (mem_blocks (.inr (.inr (.inl hb)))), own_of_block h.b fun _ hb => hk _ (mem_blocks (.inr (.inr (.inr hb)))), h.ez, h.kz, h.dz, h.bz⟩

theorem own_ok {w : World} {base : Nat} {e : TypeId} {size n C : Nat} {A : Option Addr} {vs : List Value} (h : w.ownsRow base e size (.slice A n C) n vs) : RowAt w.heap.size w A vs ∧ (A = none → C = 0) := by
  obtain ⟨A', C', hv, hn, _, _, hr⟩ := own_row h
  cases hv
  exact ⟨hr, hn⟩

theorem PN.own.ok {base : Nat} {w : World} {p : PN} (h : p.own base w) : p.ok w.heap.size w :=
  ⟨(own_ok h.e).1, (own_ok h.k).1, (own_ok h.d).1, (own_ok h.b).1, (own_ok h.e).2, (own_ok h.k).2, (own_ok h.d).2, (own_ok h.b).2, h.ez, h.kz, h.dz, h.bz⟩

theorem own_lt {w : World} {base : Nat} {e : TypeId} {size n C : Nat} {A : Option Addr} {vs : List Value} (h : w.ownsRow base e size (.slice A n C) n vs) (k : Nat) (hk : A.map Addr.block = some k) : base ≤ k ∧ k < w.heap.size := by
  cases A with
  | none => cases hk
  | some a => exact h.lt k (by simpa [Value.ownBlock] using hk)

theorem PN.own.lt {base : Nat} {w : World} {p : PN} (h : p.own base w) : ∀ k ∈ p.blocks, base ≤ k ∧ k < w.heap.size := by
  intro k hk
  simp only [PN.blocks, List.mem_filterMap, List.mem_cons, List.not_mem_nil, or_false] at hk
  obtain ⟨A, hA, hb⟩ := hk
  rcases hA with rfl | rfl | rfl | rfl
  · exact own_lt h.e k hb
  · exact own_lt h.k k hb
  · exact own_lt h.d k hb
  · exact own_lt h.b k hb

/-- A tree in memory of the call's own: its nodes in block g, each list in a block of its own. -/
structure OwnTree (base : Nat) (w : World) (g : Nat) (qs : List PN) : Prop where
  row : RowL w g 62 (flatN qs)
  hbase : base ≤ g
  each : ∀ q ∈ qs, q.own base w
  apart : (g :: qs.flatMap PN.blocks).Nodup
  z : qs.length * 104 ≤ 140737488351232

theorem blocks_nodup {q : PN} {s1 s2 s3 : Nat} (he : ∀ x, q.eA.map Addr.block = some x → x < s1) (hk : ∀ x, q.kA.map Addr.block = some x → s1 ≤ x ∧ x < s2) (hd : ∀ x, q.dA.map Addr.block = some x → s2 ≤ x ∧ x < s3)
    (hb : ∀ x, q.bA.map Addr.block = some x → s3 ≤ x) (h12 : s1 ≤ s2) (h23 : s2 ≤ s3) : q.blocks.Nodup := by
  obtain ⟨leaf, eA, eC, ents, kA, kC, keys, dA, dC, kids, bA, bC, buf⟩ := q
  simp only at he hk hd hb
  unfold PN.blocks
  cases eA <;> cases kA <;> cases dA <;> cases bA <;> simp_all <;> omega

set_option maxHeartbeats 400000 in
theorem copy_step {base g : Nat} {wr w4 : World} {qs zs : List PN} {z q : PN} (hrow : RowL wr g 62 (flatN (qs ++ z :: zs))) (hbase : base ≤ g) (each : ∀ x ∈ qs, x.own base wr) (apart : (g :: qs.flatMap PN.blocks).Nodup)
    (hb : Below wr.heap.size wr w4) (hq : q.own wr.heap.size w4) (hqn : q.blocks.Nodup) :
    ∀ W, W = ((((w4.setCell ⟨g, qs.length * 5, none⟩ (.bool q.leaf)).setCell ⟨g, qs.length * 5 + 1, none⟩ (.slice q.eA q.ents.length q.eC)).setCell ⟨g, qs.length * 5 + 2, none⟩ (.slice q.kA q.keys.length q.kC)).setCell ⟨g, qs.length * 5 + 3, none⟩ (.slice q.dA q.kids.length q.dC)).setCell ⟨g, qs.length * 5 + 4, none⟩ (.slice q.bA q.buf.length q.bC) →
    RowL W g 62 (flatN (qs ++ q :: zs)) ∧ (∀ x ∈ qs ++ [q], x.own base W) ∧ (g :: (qs ++ [q]).flatMap PN.blocks).Nodup := by
  intro W hW
  have hg : g < wr.heap.size := hrow.lt
  have hother : ∀ b, b ≠ g → W.heap[b]? = w4.heap[b]? := by
    intro b hbg
    subst hW
    simp only [Below.heap_setCell _ _ _ _ (show b ≠ (⟨g, _, none⟩ : Addr).block from hbg)]
  have hold : ∀ x ∈ qs, ∀ b ∈ x.blocks, base ≤ b ∧ b < wr.heap.size := fun x hx => (each x hx).lt
  have hnew := hq.lt
  rw [List.nodup_cons] at apart
  have hgn : g ∉ qs.flatMap PN.blocks := apart.1
  refine ⟨?_, ?_, ?_⟩
  · rw [← set_node qs zs z q]
    subst hW
    exact (((((hrow.below hb hg).set _ _).set _ _).set _ _).set _ _).set _ _
  · intro x hx
    rcases List.mem_append.1 hx with hx | hx
    · refine (each x hx).of_blocks fun b hbx => ?_
      have hbg : b ≠ g := fun e => hgn (List.mem_flatMap.2 ⟨x, hx, e ▸ hbx⟩)
      rw [hother b hbg]
      exact hb.block b (hold x hx b hbx).2
    · obtain rfl : x = q := by simpa using hx
      have h1 : x.own wr.heap.size W := hq.of_blocks fun b hbx => hother b (by have := hnew b hbx; omega)
      exact ⟨own_mono h1.e (by omega), own_mono h1.k (by omega), own_mono h1.d (by omega), own_mono h1.b (by omega), h1.ez, h1.kz, h1.dz, h1.bz⟩
  · rw [List.nodup_cons, List.flatMap_append, List.mem_append, List.nodup_append]
    simp only [List.flatMap_cons, List.flatMap_nil, List.append_nil]
    refine ⟨fun h => ?_, apart.2, hqn, fun a ha b hb' e => ?_⟩
    · rcases h with h | h
      · exact hgn h
      · have := hnew g h; omega
    · obtain ⟨x, hx, hax⟩ := List.mem_flatMap.1 ha
      have h1 := hold x hx a hax
      have h2 := hnew b hb'
      omega

theorem OwnTree.nodes {base g : Nat} {w : World} {qs : List PN} (h : OwnTree base w g qs) : NodesAt w.heap.size w (some ⟨g, 0, none⟩) qs :=
  ⟨h.row.row, fun _ hk => (h.each _ (List.getElem_mem hk)).ok, h.z⟩

end Go.Proofs.Ytlojfgdpmaigmac

/- What a call leaves as it was, some blocks apart; which nodes have been seen. -/
namespace Go.Proofs.Ytlojfgdpmaigmac
open Go.RowKit Plain

/-- w' is w with new blocks, and with writes to the blocks of ex alone. -/
structure Kept (ex : List Nat) (w w' : World) : Prop where
  os : w'.os = w.os
  tape : w'.tape = w.tape
  output : w'.output = w.output
  size : w.heap.size ≤ w'.heap.size
  block : ∀ k, k < w.heap.size → k ∉ ex → w'.heap[k]? = w.heap[k]?

section
variable {ex : List Nat} {w w' w'' : World}

theorem Kept.refl (ex : List Nat) (w : World) : Kept ex w w := ⟨rfl, rfl, rfl, Nat.le_refl _, fun _ _ _ => rfl⟩
theorem Kept.trans (h : Kept ex w w') (k : Kept ex w' w'') : Kept ex w w'' :=
  ⟨k.os.trans h.os, k.tape.trans h.tape, k.output.trans h.output, Nat.le_trans h.size k.size, fun i hi hx => (k.block i (Nat.lt_of_lt_of_le hi h.size) hx).trans (h.block i hi hx)⟩
theorem Kept.alloc (h : Kept ex w w') (o : Obj) : Kept ex w (w'.alloc o) :=
  h.trans ⟨rfl, rfl, rfl, by simp, fun k hk _ => Below.heap_alloc _ _ _ hk⟩
theorem Kept.set (h : Kept ex w w') {b j : Nat} (hb : b ∈ ex ∨ w.heap.size ≤ b) (v : Value) : Kept ex w (w'.setCell ⟨b, j, none⟩ v) :=
  ⟨h.os, h.tape, h.output, by simpa using h.size, fun k hk hx => (Below.heap_setCell _ _ _ _ (by rintro rfl; rcases hb with hb | hb; exact hx hb; omega)).trans (h.block k hk hx)⟩
theorem Kept.drew (h : Kept ex w w') : Kept ex w w'.drew := ⟨h.os, h.tape, h.output, h.size, h.block⟩
theorem Kept.drewN (h : Kept ex w w') (n : Nat) : Kept ex w (w'.drewN n) := ⟨h.os, h.tape, h.output, h.size, h.block⟩
theorem Kept.of_below (h : Below w.heap.size w w') : Kept ex w w' := ⟨h.os, h.tape, h.output, h.size, fun k hk _ => h.block k hk⟩
theorem Kept.below (h : Kept ex w w') {B : Nat} (hB : B ≤ w.heap.size) (hx : ∀ x ∈ ex, B ≤ x) : Below B w w' :=
  ⟨h.os, h.tape, h.output, h.size, fun k hk => h.block k (by omega) (fun hm => by have := hx k hm; omega)⟩
theorem Kept.cell (h : Kept ex w w') {b : Nat} (o : Nat) (hb : b < w.heap.size) (hx : b ∉ ex) : w'.cell? ⟨b, o, none⟩ = w.cell? ⟨b, o, none⟩ :=
  World.cell?_of_block (w := w) (a := ⟨b, o, none⟩) (h.block b hb hx)
theorem Kept.row (h : Kept ex w w') {b : Nat} {t : TypeId} {vs : List Value} (hr : RowL w b t vs) (hx : b ∉ ex) : RowL w' b t vs := hr.of_block (h.block b hr.lt hx)
end

theorem two_rows {v w2 : World} {l1 l2 : List Value} {t1 t2 : TypeId} (hb : Below ((v.alloc (.cells l1.toArray t1)).alloc (.cells l2.toArray t2)).heap.size ((v.alloc (.cells l1.toArray t1)).alloc (.cells l2.toArray t2)) w2) {n : Nat} (hn : n = v.heap.size) :
    RowL w2 n t1 l1 ∧ RowL w2 (n + 1) t2 l2 ∧ n + 1 < w2.heap.size := by
  subst hn
  have s1 : (v.alloc (.cells l1.toArray t1)).heap.size = v.heap.size + 1 := by simp
  have s2 : ((v.alloc (.cells l1.toArray t1)).alloc (.cells l2.toArray t2)).heap.size = v.heap.size + 2 := by simp
  have r1 : RowL ((v.alloc (.cells l1.toArray t1)).alloc (.cells l2.toArray t2)) v.heap.size t1 l1 := (rowL_alloc v l1 t1).of_block (Below.heap_alloc _ _ _ (by omega))
  have r2 : RowL ((v.alloc (.cells l1.toArray t1)).alloc (.cells l2.toArray t2)) (v.heap.size + 1) t2 l2 := by
    have := rowL_alloc (v.alloc (.cells l1.toArray t1)) l2 t2
    rwa [s1] at this
  have hs := hb.size
  exact ⟨r1.below hb (by omega), r2.below hb (by omega), by omega⟩

def SeenIs (w : World) (sb N : Nat) (S : St) : Prop := w.rowIs sb 3 N (fun i => .int .i64 (if seenB S (i : Int) = true then 1 else 0))

theorem SeenIs.set {w : World} {sb N m : Nat} {S : St} (h : SeenIs w sb N S) (d : Int) : SeenIs (w.setCell ⟨sb, m, none⟩ (.int .i64 1)) sb N (((m : Int), d) :: S) := by
  refine (World.rowIs.set h m (.int .i64 1)).congr fun i _ => ?_
  by_cases e : i = m
  · subst e; simp [seenB]
  · have hn : seenB (((m : Int), d) :: S) (i : Int) = seenB S (i : Int) := by
      unfold seenB
      rw [List.any_cons, show ((((m : Int), d) : Int × Int).1 == (i : Int)) = false by simp; omega, Bool.false_or]
    simp only [e, if_false, hn]

theorem SeenIs.kept {w w' : World} {sb N : Nat} {S : St} (h : SeenIs w sb N S) (hk : w'.heap[sb]? = w.heap[sb]?) : SeenIs w' sb N S := World.rowIs.of_block h hk

theorem W_succ (ns : List Nd) (f : Nat) (n low high : Int) (S : St) : W ns (f + 1) n low high S =
    if n < 0 ∨ (ns.length : Int) ≤ n ∨ high ≤ low ∨ seenB S n = true then none
    else if (ns.getD n.toNat default).leaf = true then
      (if leafB (ns.getD n.toNat default) low high f = true then some ((n, 12 - (f : Int)) :: S, [12 - (f : Int)]) else none)
    else if innerB (ns.getD n.toNat default) low high = true then Wk (W ns f) (ns.getD n.toNat default).kids (ns.getD n.toNat default).keys low high ((n, 12 - (f : Int)) :: S)
    else none := rfl

theorem W_out {ns : List Nd} {f : Nat} {n low high : Int} {S : St} (h : n < 0 ∨ (ns.length : Int) ≤ n ∨ high ≤ low ∨ seenB S n = true) : W ns f n low high S = none := by
  cases f with
  | zero => rfl
  | succ f => rw [W_succ, if_pos h]

theorem W_leaf {ns : List Nd} {f m : Nat} {low high : Int} {S : St} {x : Nd} (hm : m < ns.length) (hx : ns[m] = x) (hlh : low < high) (hs : seenB S m = false) (hl : x.leaf = true) :
    W ns (f + 1) m low high S = if leafB x low high f = true then some (((m : Int), 12 - (f : Int)) :: S, [12 - (f : Int)]) else none := by
  have hg : ns.getD m default = x := by simp [hm, hx]
  rw [W_succ, if_neg (by simp [hs]; omega)]
  simp only [Int.toNat_natCast, hg, hl, if_true]

theorem W_inner {ns : List Nd} {f m : Nat} {low high : Int} {S : St} {x : Nd} (hm : m < ns.length) (hx : ns[m] = x) (hlh : low < high) (hs : seenB S m = false) (hl : x.leaf = false) :
    W ns (f + 1) m low high S = if innerB x low high = true then Wk (W ns f) x.kids x.keys low high (((m : Int), 12 - (f : Int)) :: S) else none := by
  have hg : ns.getD m default = x := by simp [hm, hx]
  rw [W_succ, if_neg (by simp [hs]; omega)]
  simp only [Int.toNat_natCast, hg, hl, Bool.false_eq_true, if_false]

end Go.Proofs.Ytlojfgdpmaigmac

/- Roots above roots, till one is enough; and what Check tells of the tree then. -/
namespace Go.Proofs.Ytlojfgdpmaigmac
open Go.RowKit Plain

def newRoot (root : Int) (more : List (Int × Int)) : Nd := ⟨false, [], more.map (·.1), root :: more.map (·.2), []⟩

def growN : Nat → List Nd → Int → List (Int × Int) → List Nd × Int
  | 0, ns, root, _ => (ns, root)
  | f + 1, ns, root, more =>
    if more = [] then (ns, root)
    else growN f (splitN (ns ++ [newRoot root more]) ns.length).1 ns.length (splitN (ns ++ [newRoot root more]) ns.length).2

/-- Nodes in a row, above all others. -/
structure RowOk (ns : List Nd) (h : Nat) (root : Int) (more : List (Int × Int)) : Prop where
  sub : ∃ Q, SubK (Sub 6 4 ns h) 0 (ups (root :: more.map (·.2)) (more.map (·.1)) 1099511627776) Q ∧ Q.Perm (placesF 0 ns.length)

theorem nth_last (ns : List Nd) (x : Nd) : nth (ns ++ [x]) (ns.length : Int) = x := by
  unfold nth
  simp

theorem splitN_more (ns : List Nd) (root : Int) (more : List (Int × Int)) : (splitN (ns ++ [newRoot root more]) ns.length).2.length = (more.length + 4) / 4 - 1 ∧ (splitN (ns ++ [newRoot root more]) ns.length).1.length = ns.length + (more.length + 4) / 4 := by
  unfold splitN
  rw [nth_last]
  have hs : sizeN (newRoot root more) = more.length + 1 := by simp [sizeN, newRoot]
  have hm : mostN (newRoot root more) = 4 := by simp [mostN, newRoot]
  have hp : partsN (newRoot root more) = (more.length + 4) / 4 := by
    rw [partsN, hs, hm]
    congr 1
  split
  · rename_i h
    rw [hs, hm] at h
    simp
    omega
  · rename_i h
    rw [hs, hm] at h
    have hc : (cutsN (newRoot root more)).length = (more.length + 4) / 4 := by unfold cutsN; rw [cutsF_length, hp]
    constructor
    · simp only [List.length_zip, keysL_length, hc, placesF_length, hp]
      omega
    · simp only [List.length_append, List.length_set, List.length_tail, partsL_length, hc, List.length_cons, List.length_nil]
      omega

theorem row_step {ns : List Nd} {h : Nat} {root : Int} {more : List (Int × Int)} (hr : RowOk ns h root more) (hm : more ≠ []) :
    RowOk (splitN (ns ++ [newRoot root more]) ns.length).1 (h + 1) ns.length (splitN (ns ++ [newRoot root more]) ns.length).2 ∧ ((splitN (ns ++ [newRoot root more]) ns.length).1.flatMap cont).Perm (ns.flatMap cont) := by
  obtain ⟨Q, hQ, hp⟩ := hr.sub
  have hml : 1 ≤ more.length := by cases more with | nil => exact absurd rfl hm | cons => simp
  have hkl : (more.map (·.1)).length + 1 = (root :: more.map (·.2)).length := by simp
  have hlt : (0 : Int) < 1099511627776 := by decide
  have hQ' : SubK (Sub 6 4 (ns ++ [newRoot root more]) h) 0 (ups (root :: more.map (·.2)) (more.map (·.1)) 1099511627776) Q :=
    SubK_imp hQ fun d lo hi Q1 a b => Sub_congr h d lo hi Q1 a fun n hn => by
      have hm := placesF_mem.1 (hp.mem_iff.1 (b n hn))
      exact ⟨nth_append_left (by omega) (by omega), by simp; omega⟩
  have htop : Top 0 (more.length + 1) (ns ++ [newRoot root more]) (h + 1) ns.length 0 1099511627776 ((ns.length : Int) :: Q) := by
    refine ⟨⟨by omega, by simp; omega, hlt⟩, Q, rfl, ?_⟩
    rw [nth_last]
    exact ⟨rfl, rfl, by simp [newRoot]; omega, by simp [newRoot], by simp [newRoot], by simp [newRoot], rfl, hQ'⟩
  have hpl : ((ns.length : Int) :: Q).Perm (placesF 0 (ns.length + 1)) := by
    rw [placesF_append]
    refine (hp.cons _).trans ?_
    show ((ns.length : Int) :: placesF 0 ns.length).Perm (placesF 0 ns.length ++ placesF (0 + ns.length) 1)
    rw [Nat.zero_add]
    exact (List.perm_append_comm (l₁ := [(ns.length : Int)]) (l₂ := placesF 0 ns.length))
  have hnd : ((ns.length : Int) :: Q).Nodup := hpl.nodup_iff.2 (placesF_nodup _ _)
  have hs := split_ok htop hnd
  obtain ⟨Q', h1, h2⟩ := hs.sub
  refine ⟨⟨Q', h1, h2.trans ?_⟩, hs.cont.trans ?_⟩
  · have hle := hs.le
    rw [show (splitN (ns ++ [newRoot root more]) ns.length).1.length = (ns.length + 1) + ((splitN (ns ++ [newRoot root more]) ns.length).1.length - (ns ++ [newRoot root more]).length) by simp at hle ⊢; omega, placesF_append]
    have e : (ns ++ [newRoot root more]).length = 0 + (ns.length + 1) := by simp
    rw [e]
    refine (hpl.append_right _).trans ?_
    exact List.Perm.of_eq (by congr 2; simp at hle; omega)
  · simp [cont, newRoot]

theorem grow_ok : ∀ (f : Nat) {ns : List Nd} {h : Nat} {root : Int} {more : List (Int × Int)}, more.length ≤ f → RowOk ns h root more →
    (∃ h' Q, Sub 6 4 (growN f ns root more).1 h' (growN f ns root more).2 0 1099511627776 Q ∧ Q.Perm (placesF 0 (growN f ns root more).1.length)) ∧ ((growN f ns root more).1.flatMap cont).Perm (ns.flatMap cont) ∧ (growN f ns root more).1.length ≤ ns.length + more.length := by
  intro f
  induction f with
  | zero =>
    intro ns h root more hf hr
    obtain rfl : more = [] := List.eq_nil_of_length_eq_zero (by omega)
    obtain ⟨Q, ⟨Q1, Q2, rfl, h1, h2⟩, hp⟩ := hr.sub
    cases h2
    rw [List.append_nil] at hp
    exact ⟨⟨h, Q1, h1, hp⟩, List.Perm.refl _, by simp [growN]⟩
  | succ f ih =>
    intro ns h root more hf hr
    unfold growN
    split
    · rename_i hm
      subst hm
      obtain ⟨Q, ⟨Q1, Q2, rfl, h1, h2⟩, hp⟩ := hr.sub
      cases h2
      rw [List.append_nil] at hp
      exact ⟨⟨h, Q1, h1, hp⟩, List.Perm.refl _, by simp⟩
    · rename_i hm
      have hml : 1 ≤ more.length := by cases more with | nil => exact absurd rfl hm | cons => simp
      obtain ⟨hr', hc⟩ := row_step hr hm
      obtain ⟨l1, l2⟩ := splitN_more ns root more
      obtain ⟨a, b, c⟩ := ih (by rw [l1]; omega) hr'
      exact ⟨a, b.trans hc, by rw [l1, l2] at c; omega⟩

/-! ### What Check tells of it -/

theorem two_pow_succ (h : Nat) : 2 ^ (h + 1) = 2 ^ h + 2 ^ h := by rw [Nat.pow_succ]; omega

theorem Sub_size {mL mK : Nat} {ns : List Nd} : ∀ (h : Nat) (d lo hi : Int) (P : List Int), Sub mL mK ns h d lo hi P → 2 ^ (h + 1) ≤ P.length + 1
  | 0, _, _, _, _, h => by rw [h.2.1]; simp
  | h + 1, d, lo, hi, P, hs => by
    obtain ⟨_, Q, rfl, hin⟩ := hs
    have ih := Sub_size (mL := mL) (mK := mK) (ns := ns) h
    obtain ⟨kids, keys, hk1, hk2⟩ : ∃ kids keys, kids = (nth ns d).kids ∧ keys = (nth ns d).keys := ⟨_, _, rfl, rfl⟩
    have h2 := hin.two
    have h3 := hin.keys
    have h4 := hin.kids
    rw [← hk1] at h2 h3 h4
    rw [← hk2] at h3 h4
    match kids, keys, h2, h3, h4 with
    | a :: b :: r, k :: ks, _, _, h4 =>
      rw [ups_cons] at h4
      obtain ⟨Q1, Q2, rfl, g1, g2⟩ := h4
      have i1 := ih _ _ _ _ g1
      have : ∃ u r', ups (b :: r) ks hi = (b, u) :: r' := by cases ks <;> exact ⟨_, _, rfl⟩
      obtain ⟨u, r', e⟩ := this
      rw [e] at g2
      obtain ⟨Q3, Q4, rfl, g3, _⟩ := g2
      have i2 := ih _ _ _ _ g3
      rw [two_pow_succ (h + 1)]
      simp only [List.length_cons, List.length_append]
      omega

/-- What W yields where all is as it must be. -/
def Yields (S : St) (dp : Int) (P : List Int) (r : Option (St × List Int)) : Prop := ∃ S' l, r = some (S', l) ∧ (S'.map (·.1)).Perm (P ++ S.map (·.1)) ∧ l ≠ [] ∧ ∀ x ∈ l, x = dp

theorem Wk_yields {g : Int → Int → Int → St → Option (St × List Int)} {G : Rel} {dp : Int} (hg : ∀ d lo hi P S, G d lo hi P → P.Nodup → (∀ n ∈ P, n ∉ S.map (·.1)) → Yields S dp P (g d lo hi S)) :
    ∀ (kids keys : List Int) (lo hi : Int) (Q : List Int) (S : St), keys.length + 1 = kids.length → SubK G lo (ups kids keys hi) Q → Q.Nodup → (∀ n ∈ Q, n ∉ S.map (·.1)) → Yields S dp Q (Wk g kids keys lo hi S)
  | [], _, _, _, _, _, h, _, _, _ => by simp at h
  | [d], keys, lo, hi, Q, S, hl, hs, hn, hd => by
    obtain rfl : keys = [] := List.eq_nil_of_length_eq_zero (by simpa using hl)
    obtain ⟨Q1, Q2, rfl, h1, h2⟩ := hs
    cases h2
    rw [List.append_nil] at hn hd ⊢
    obtain ⟨S', l, e, hp, hne, ha⟩ := hg d lo hi Q1 S h1 hn hd
    refine ⟨S', l, ?_, hp, hne, ha⟩
    simp [Wk, e]
  | d :: d' :: ds, keys, lo, hi, Q, S, hl, hs, hn, hd => by
    cases keys with
    | nil => simp at hl
    | cons k ks =>
      rw [ups_cons] at hs
      obtain ⟨Q1, Q2, rfl, h1, h2⟩ := hs
      rw [List.nodup_append] at hn
      obtain ⟨S1, l1, e1, hp1, hne1, ha1⟩ := hg d lo k Q1 S h1 hn.1 (fun n hn' => hd n (List.mem_append_left _ hn'))
      obtain ⟨S2, l2, e2, hp2, hne2, ha2⟩ := Wk_yields hg (d' :: ds) ks k hi Q2 S1 (by simpa using hl) h2 hn.2.1 (fun n hn' hm => by
        rcases List.mem_append.1 (hp1.mem_iff.1 hm) with hm | hm
        · exact hn.2.2 n hm n hn' rfl
        · exact hd n (List.mem_append_right _ hn') hm)
      refine ⟨S2, l1 ++ l2, ?_, ?_, by simp [hne1], fun x hx => ?_⟩
      · show (match g d lo k S with | none => none | some (S1, l1) => match Wk g (d' :: ds) ks k hi S1 with | none => none | some (S2, l2) => some (S2, l1 ++ l2)) = _
        rw [e1]
        simp only
        rw [e2]
      · refine hp2.trans ((hp1.append_left Q2).trans ?_)
        rw [List.append_assoc]
        exact List.perm_append_comm_assoc _ _ _
      · rcases List.mem_append.1 hx with hx | hx
        · exact ha1 x hx
        · exact ha2 x hx

theorem Sub_W {ns : List Nd} : ∀ (h f : Nat) (n lo hi : Int) (P : List Int) (S : St), Sub 6 4 ns h n lo hi P → h < f → P.Nodup → (∀ m ∈ P, m ∉ S.map (·.1)) → Yields S (13 - (f : Int) + h) P (W ns f n lo hi S) := by
  intro h
  induction h with
  | zero =>
    intro f n lo hi P S hs hf hn hd
    obtain ⟨⟨h0, h1, hlt⟩, rfl, hl⟩ := hs
    obtain ⟨f, rfl⟩ : ∃ g, f = g + 1 := ⟨f - 1, by omega⟩
    have hseen : seenB S n = false := by
      have := hd n (by simp)
      cases hb : seenB S n with
      | false => rfl
      | true => exact absurd (seenB_iff.1 hb) this
    have hlB : leafB (nth ns n) lo hi f = true := leafB_iff.2 ⟨hl.keys, hl.kids, hl.buf, hl.most, .inr hl.ne, hl.ents⟩
    refine ⟨(n, 12 - (f : Int)) :: S, [12 - (f : Int)], ?_, by simp, by simp, by simp; omega⟩
    rw [W_succ, if_neg (by simp [hseen]; omega)]
    show (if (nth ns n).leaf = true then _ else _) = _
    rw [if_pos hl.leaf]
    show (if leafB (nth ns n) lo hi f = true then _ else _) = _
    rw [if_pos hlB]
  | succ h ih =>
    intro f n lo hi P S hs hf hn hd
    obtain ⟨⟨h0, h1, hlt⟩, Q, rfl, hl⟩ := hs
    obtain ⟨f, rfl⟩ : ∃ g, f = g + 1 := ⟨f - 1, by omega⟩
    have hseen : seenB S n = false := by
      have := hd n (by simp)
      cases hb : seenB S n with
      | false => rfl
      | true => exact absurd (seenB_iff.1 hb) this
    have hiB : innerB (nth ns n) lo hi = true := by
      simp only [innerB, Bool.and_eq_true, decide_eq_true_eq, beq_iff_eq, List.isEmpty_iff]
      exact ⟨⟨⟨⟨⟨hl.ents, hl.two⟩, hl.most⟩, hl.keys⟩, hl.few⟩, hl.buf⟩
    rw [List.nodup_cons] at hn
    obtain ⟨S', l, e, hp, hne, ha⟩ := Wk_yields (dp := 13 - (f : Int) + h) (fun d lo hi P S a b c => ih f d lo hi P S a (by omega) b c) (nth ns n).kids (nth ns n).keys lo hi Q ((n, 12 - (f : Int)) :: S) hl.keys hl.kids hn.2 (fun m hm hm' => by
      rw [List.map_cons, List.mem_cons] at hm'
      rcases hm' with rfl | hm'
      · exact hn.1 hm
      · exact hd m (List.mem_cons_of_mem _ hm) hm')
    refine ⟨S', l, ?_, hp.trans ?_, hne, fun x hx => by rw [ha x hx]; push_cast; omega⟩
    · rw [W_succ, if_neg (by simp [hseen]; omega)]
      show (if (nth ns n).leaf = true then _ else if innerB (nth ns n) lo hi = true then _ else _) = _
      rw [if_neg (by simp [hl.leaf]), if_pos hiB]
      exact e
    · rw [List.map_cons]
      exact List.perm_middle

theorem placesF_len {Q : List Int} {N : Nat} (h : Q.Perm (placesF 0 N)) : Q.length = N := by rw [h.length_eq, placesF_length]

theorem Sub_treeC {ns : List Nd} {h : Nat} {root : Int} {Q : List Int} (hs : Sub 6 4 ns h root 0 1099511627776 Q) (hp : Q.Perm (placesF 0 ns.length)) (hz : ns.length ≤ 2000) : treeC ns root = 0 := by
  have hl := placesF_len hp
  have h1 := Sub_size h _ _ _ _ hs
  have hh : h < 12 := by
    apply Classical.byContradiction
    intro e
    have : 2 ^ 13 ≤ 2 ^ (h + 1) := Nat.pow_le_pow_right (by decide) (by omega)
    omega
  obtain ⟨S', l, e, hpm, hne, ha⟩ := Sub_W h 12 root 0 1099511627776 Q [] hs hh (hp.nodup_iff.2 (placesF_nodup _ _)) (by simp)
  unfold treeC
  rw [if_neg (by omega), e]
  simp only
  rw [if_pos]
  refine ⟨?_, ?_⟩
  · unfold okL
    rw [if_pos rfl, List.all_eq_true]
    intro x hx
    rw [beq_iff_eq, ha x hx]
    cases l with
    | nil => exact absurd rfl hne
    | cons y r => exact (ha y (by simp)).symm
  · have := hpm.length_eq
    simp at this
    omega

end Go.Proofs.Ytlojfgdpmaigmac

/- Contracts of functions of Go's library, laid at this dump. -/
namespace Go.Proofs
open Go.Shelf
def Try.sortEn_ren : Go.Shelf.Ren := ⟨fun | 6 => 36 | 15 => 56 | 14 => 55 | 28 => 76 | 29 => 77 | 20 => 68 | 21 => 69 | 22 => 70 | 23 => 71 | 24 => 72 | 25 => 73 | 26 => 74 | 27 => 75 | 46 => 87 | 47 => 88 | 48 => 89 | 49 => 90 | 50 => 91 | 57 => 94 | n => n, fun | 22 => 35 | 24 => 53 | 25 => 75 | 3 => 3 | 39 => 91 | 0 => 0 | 53 => 112 | 55 => 114 | 4 => 4 | 46 => 106 | 45 => 105 | 50 => 77 | 5 => 5 | 9 => 9 | 66 => 122 | 70 => 126 | 76 => 128 | 77 => 129 | n => n, fun | n => n⟩
theorem Try.sortEn : Go.Proofs.SlLaysF0.n6 Try.prog Try.sortEn_ren := {
  mixed := by kernel_rfl
  f6 := ⟨Try.f36.name, by decide, Try.func36.trans (congrArg some (by kernel_rfl))⟩
  f14 := ⟨Try.f55.name, by decide, Try.func55.trans (congrArg some (by kernel_rfl))⟩
  f15 := Try.func56.trans (congrArg some (by kernel_rfl))
  f20 := ⟨Try.f68.name, by decide, Try.func68.trans (congrArg some (by kernel_rfl))⟩
  f21 := ⟨Try.f69.name, by decide, Try.func69.trans (congrArg some (by kernel_rfl))⟩
  f22 := ⟨Try.f70.name, by decide, Try.func70.trans (congrArg some (by kernel_rfl))⟩
  f23 := ⟨Try.f71.name, by decide, Try.func71.trans (congrArg some (by kernel_rfl))⟩
  f24 := ⟨Try.f72.name, by decide, Try.func72.trans (congrArg some (by kernel_rfl))⟩
  f25 := ⟨Try.f73.name, by decide, Try.func73.trans (congrArg some (by kernel_rfl))⟩
  f26 := ⟨Try.f74.name, by decide, Try.func74.trans (congrArg some (by kernel_rfl))⟩
  f27 := ⟨Try.f75.name, by decide, Try.func75.trans (congrArg some (by kernel_rfl))⟩
  f28 := Try.func76.trans (congrArg some (by kernel_rfl))
  f29 := Try.func77.trans (congrArg some (by kernel_rfl))
  f46 := ⟨Try.f87.name, by decide, Try.func87.trans (congrArg some (by kernel_rfl))⟩
  f47 := Try.func88.trans (congrArg some (by kernel_rfl))
  f48 := Try.func89.trans (congrArg some (by kernel_rfl))
  f49 := ⟨Try.f90.name, by decide, Try.func90.trans (congrArg some (by kernel_rfl))⟩
  f50 := ⟨Try.f91.name, by decide, Try.func91.trans (congrArg some (by kernel_rfl))⟩
  f57 := ⟨Try.f94.name, by decide, Try.func94.trans (congrArg some (by kernel_rfl))⟩
  t0 := Try.underlying0
  a0 := Try.isAgg0
  z0 := Try.sizeOf0
  v0 := Try.zeroValue0
  t3 := Try.underlying3
  a3 := Try.isAgg3
  z3 := Try.sizeOf3
  v3 := Try.zeroValue3
  t4 := Try.underlying4
  a4 := Try.isAgg4
  z4 := Try.sizeOf4
  v4 := Try.zeroValue4
  t5 := Try.underlying5
  a5 := Try.isAgg5
  z5 := Try.sizeOf5
  v5 := Try.zeroValue5
  t9 := Try.underlying9
  a9 := Try.isAgg9
  z9 := Try.sizeOf9
  v9 := Try.zeroValue9
  t22 := Try.underlying35
  a22 := Try.isAgg35
  z22 := Try.sizeOf35
  v22 := Try.zeroValue35
  t25 := Try.underlying75
  a25 := Try.isAgg75
  z25 := Try.sizeOf75
  v25 := Try.zeroValue75
  t39 := Try.underlying91
  a39 := Try.isAgg91
  z39 := Try.sizeOf91
  v39 := Try.zeroValue91
  t45 := Try.underlying105
  a45 := Try.isAgg105
  z45 := Try.sizeOf105
  v45 := Try.zeroValue105
  t46 := Try.underlying106
  a46 := Try.isAgg106
  z46 := Try.sizeOf106
  v46 := Try.zeroValue106
  t50 := Try.underlying77
  a50 := Try.isAgg77
  z50 := Try.sizeOf77
  v50 := Try.zeroValue77
  t53 := Try.underlying112
  a53 := Try.isAgg112
  z53 := Try.sizeOf112
  v53 := Try.zeroValue112
  t55 := Try.underlying114
  a55 := Try.isAgg114
  z55 := Try.sizeOf114
  v55 := Try.zeroValue114
  t66 := Try.underlying122
  a66 := Try.isAgg122
  z66 := Try.sizeOf122
  v66 := Try.zeroValue122
  t70 := Try.underlying126
  a70 := Try.isAgg126
  z70 := Try.sizeOf126
  v70 := Try.zeroValue126
  t76 := Try.underlying128
  a76 := Try.isAgg128
  z76 := Try.sizeOf128
  v76 := Try.zeroValue128
  t77 := Try.underlying129
  a77 := Try.isAgg129
  z77 := Try.sizeOf129
  v77 := Try.zeroValue129 }
def Try.cmpInt_ren : Go.Shelf.Ren := ⟨fun | 5 => 38 | 7 => 57 | n => n, fun | 22 => 3 | 3 => 3 | 4 => 4 | n => n, fun | n => n⟩
theorem Try.cmpInt : Go.Proofs.SlLaysC2.n5 Try.prog Try.cmpInt_ren := {
  mixed := by kernel_rfl
  f5 := ⟨Try.f38.name, by decide, Try.func38.trans (congrArg some (by kernel_rfl))⟩
  f7 := ⟨Try.f57.name, by decide, Try.func57.trans (congrArg some (by kernel_rfl))⟩
  t3 := Try.underlying3
  a3 := Try.isAgg3
  z3 := Try.sizeOf3
  v3 := Try.zeroValue3
  t4 := Try.underlying4
  a4 := Try.isAgg4
  z4 := Try.sizeOf4
  v4 := Try.zeroValue4
  t22 := Try.underlying3
  a22 := Try.isAgg3
  z22 := Try.sizeOf3
  v22 := Try.zeroValue3 }
def Try.insertI_ren : Go.Shelf.Ren := ⟨fun | 21 => 64 | 27 => 84 | 28 => 85 | 35 => 93 | 39 => 96 | n => n, fun | 22 => 60 | 3 => 3 | 4 => 4 | 0 => 0 | n => n, fun | n => n⟩
theorem Try.insertI : Go.Proofs.Lays2.n21 Try.prog Try.insertI_ren := {
  mixed := by kernel_rfl
  f21 := Try.func64.trans (congrArg some (by kernel_rfl))
  f27 := Try.func84.trans (congrArg some (by kernel_rfl))
  f28 := Try.func85.trans (congrArg some (by kernel_rfl))
  f35 := Try.func93.trans (congrArg some (by kernel_rfl))
  f39 := Try.func96.trans (congrArg some (by kernel_rfl))
  t0 := Try.underlying0
  a0 := Try.isAgg0
  z0 := Try.sizeOf0
  v0 := Try.zeroValue0
  t3 := Try.underlying3
  a3 := Try.isAgg3
  z3 := Try.sizeOf3
  v3 := Try.zeroValue3
  t4 := Try.underlying4
  a4 := Try.isAgg4
  z4 := Try.sizeOf4
  v4 := Try.zeroValue4
  t22 := Try.underlying60
  a22 := Try.isAgg60
  z22 := Try.sizeOf60
  v22 := Try.zeroValue60
  i3 := by kernel_rfl }
def Try.searchI_ren : Go.Shelf.Ren := ⟨fun | 25 => 63 | 31 => 82 | 32 => 83 | 37 => 57 | n => n, fun | 22 => 60 | 3 => 3 | 4 => 4 | 40 => 91 | 0 => 0 | n => n, fun | n => n⟩
theorem Try.searchI : Go.Proofs.Lays2.n25 Try.prog Try.searchI_ren := {
  mixed := by kernel_rfl
  f25 := Try.func63.trans (congrArg some (by kernel_rfl))
  f31 := Try.func82.trans (congrArg some (by kernel_rfl))
  f32 := Try.func83.trans (congrArg some (by kernel_rfl))
  f37 := Try.func57.trans (congrArg some (by kernel_rfl))
  t0 := Try.underlying0
  a0 := Try.isAgg0
  z0 := Try.sizeOf0
  v0 := Try.zeroValue0
  t3 := Try.underlying3
  a3 := Try.isAgg3
  z3 := Try.sizeOf3
  v3 := Try.zeroValue3
  t4 := Try.underlying4
  a4 := Try.isAgg4
  z4 := Try.sizeOf4
  v4 := Try.zeroValue4
  t22 := Try.underlying60
  a22 := Try.isAgg60
  z22 := Try.sizeOf60
  v22 := Try.zeroValue60
  t40 := Try.underlying91
  a40 := Try.isAgg91
  z40 := Try.sizeOf91
  v40 := Try.zeroValue91 }
end Go.Proofs

/- Where an entry of a key stands, or would stand: the search by halves. -/
namespace Go.Proofs.Ytlojfgdpmaigmac
open Go.RowKit Plain

theorem hideC {p : Prop} (h : p) : Hid p := h
theorem ret_ib {a b : Int} {c d : Bool} (h : a = b) (h' : c = d) : Ending.returned (.tuple #[.int .i64 a, .bool c]) = .returned (.tuple #[.int .i64 b, .bool d]) := by rw [h, h']

def cmpI (x y : Int) : Int := if x < y then -1 else if y < x then 1 else 0

theorem isNaN_any (x : Int) (w : World) : Calls Try.prog 57 #[.int .i64 x] w fun e w' => e = .returned (.bool false) ∧ w' = w := by
  go_enter Try.func57, Try.ntmps57
  go_wp2
  go_ret
  exact ⟨rfl, rfl⟩

set_option maxHeartbeats 400000 in
theorem compare_any (x y : Int) (w : World) : Calls Try.prog 38 #[.int .i64 x, .int .i64 y] w fun e w' => e = .returned (.int .i64 (cmpI x y)) ∧ w' = w := by
  rcases Int.lt_trichotomy x y with h | h | h
  · have e : cmpI x y = -1 := by simp [cmpI, h]
    have E : Hid (cmpI x y = -1) := e
    clear e
    go_enter Try.func38, Try.ntmps38
    go_wp2_with (go_at_call 57; refine (isNaN_any _ _).mono ?_; rintro e w' ⟨rfl, rfl⟩)
    go_ret
    exact ⟨ret_int E.out.symm, rfl⟩
  · subst h
    have E : Hid (cmpI x x = 0) := by show _ = _; simp [cmpI]
    have h1 : ¬ x < x := by omega
    go_enter Try.func38, Try.ntmps38
    go_wp2_with (go_at_call 57; refine (isNaN_any _ _).mono ?_; rintro e w' ⟨rfl, rfl⟩)
    go_ret
    exact ⟨ret_int E.out.symm, rfl⟩
  · have h1 : ¬ x < y := by omega
    have E : Hid (cmpI x y = 1) := by show _ = _; simp [cmpI, h, h1]
    go_enter Try.func38, Try.ntmps38
    go_wp2_with (go_at_call 57; refine (isNaN_any _ _).mono ?_; rintro e w' ⟨rfl, rfl⟩)
    go_ret
    exact ⟨ret_int E.out.symm, rfl⟩

set_option maxHeartbeats 400000 in
theorem find1_any (x : En) (k : Int) (w : World) : Calls Try.prog 79 #[.agg #[.int .i64 x.key, .int .i64 x.c, .int .i64 x.s, .int .i64 x.lo, .int .i64 x.hi, .int .i64 x.t, .int .i64 x.l], .int .i64 k] w
    fun e w' => e = .returned (.int .i64 (cmpI x.key k)) ∧ Below w.heap.size w w' := by
  have hcon := fun W' => compare_any x.key k W'
  generalize cmpI x.key k = r at hcon ⊢
  go_enter Try.func79, Try.ntmps79
  go_wp2_with (go_at_call 38; refine (hcon _).mono ?_; rintro e w' ⟨rfl, rfl⟩)
  go_ret
  exact ⟨rfl, (Below.refl _ _).alloc (Nat.le_refl _) _⟩

/-! ### The search, in plain terms -/

def hasK (l : List En) (k : Int) : Bool := l.any fun x => x.key == k

theorem entsB_lt {hi : Int} : ∀ {l : List En} {lo : Int}, entsB l lo hi = true → (∀ x ∈ l, lo ≤ x.key ∧ x.key < hi) ∧ l.Pairwise (fun x y => x.key < y.key)
  | [], _, _ => ⟨by simp, List.Pairwise.nil⟩
  | x :: r, lo, h => by
    simp only [entsB, Bool.and_eq_true] at h
    have h1 := h.1
    simp only [entB, Bool.and_eq_true, decide_eq_true_eq] at h1
    obtain ⟨a, b⟩ := entsB_lt h.2
    refine ⟨fun y hy => ?_, List.pairwise_cons.2 ⟨fun y hy => ?_, b⟩⟩
    · rcases List.mem_cons.1 hy with rfl | hy
      · exact ⟨h1.1.1.1, h1.1.1.2⟩
      · have := a y hy; omega
    · have := a y hy; omega

theorem lowN_is {l : List En} {k : Int} {i : Nat} (hi : i ≤ l.length) (h1 : ∀ j (h : j < l.length), j < i → l[j].key < k) (h2 : ∀ j (h : j < l.length), i ≤ j → k ≤ l[j].key) : lowN l k = i := by
  induction l generalizing i with
  | nil => simp at hi; subst hi; rfl
  | cons x r ih =>
    cases i with
    | zero =>
      have := h2 0 (by simp) (Nat.le_refl _)
      simp at this
      simp [lowN, show ¬ x.key < k by omega]
    | succ i =>
      have hx := h1 0 (by simp) (by omega)
      simp at hx
      have e : lowN (x :: r) k = lowN r k + 1 := by simp [lowN, hx]
      rw [e, ih (i := i) (by simpa using hi) (fun j hj hji => by
        have := h1 (j + 1) (by simpa using hj) (by omega)
        simpa using this) (fun j hj hij => by
        have := h2 (j + 1) (by simpa using hj) (by omega)
        simpa using this)]

theorem hasK_is {l : List En} {k : Int} (hp : l.Pairwise (fun x y => x.key < y.key)) {i : Nat} (h1 : ∀ j (h : j < l.length), j < i → l[j].key < k) : hasK l k = (if h : i < l.length then decide (l[i].key = k) else false) ∨ ¬ (∀ j (h : j < l.length), i ≤ j → k ≤ l[j].key) := by
  by_cases h2 : ∀ j (h : j < l.length), i ≤ j → k ≤ l[j].key
  · left
    rw [Bool.eq_iff_iff]
    unfold hasK
    rw [List.any_eq_true]
    constructor
    · rintro ⟨x, hx, hk⟩
      obtain ⟨j, hj, rfl⟩ := List.getElem_of_mem hx
      have hk' : l[j].key = k := by simpa using hk
      by_cases hji : j < i
      · have := h1 j hj hji; omega
      · by_cases hij : i = j
        · subst hij; simp [hj, hk']
        · have hi : i < l.length := by omega
          have a := h2 i hi (Nat.le_refl _)
          have b := List.pairwise_iff_getElem.1 hp i j hi hj (by omega)
          omega
    · intro h
      split at h
      · rename_i hi
        exact ⟨l[i], List.getElem_mem hi, by simpa using h⟩
      · cases h
  · right; exact h2

set_option maxRecDepth 20000 in
set_option maxHeartbeats 1000000 in
theorem search_any (A : Option Addr) (C : Nat) (xs : List En) (k : Int) (w : World) (h : RowAt w.heap.size w A (flatE xs)) (hz : xs.length * 56 ≤ 140737488351232) (hp : xs.Pairwise (fun x y => x.key < y.key)) :
    Calls Try.prog 78 #[.slice A xs.length C, .int .i64 k, .func (.func 79) #[] #[]] w
      fun e w' => e = .returned (.tuple #[.int .i64 (lowN xs k : Int), .bool (hasK xs k)]) ∧ Below w.heap.size w w' := by
  go_enter Try.func78, Try.ntmps78
  go_wp2_with fail
  go_loopw [9, 10] (fun vi vj wr => ∃ i j : Nat, i ≤ j ∧ j ≤ xs.length ∧ vi = .int .i64 i ∧ vj = .int .i64 j ∧ Hid ((∀ a (h : a < xs.length), a < i → xs[a].key < k) ∧ (∀ a (h : a < xs.length), j ≤ a → k ≤ xs[a].key)) ∧ Below w.heap.size w wr) (fun vi vj _ => (intOf vj).toNat - (intOf vi).toNat)
  case atStart => exact ⟨0, xs.length, Nat.zero_le _, Nat.le_refl _, rfl, rfl, ⟨fun a _ h => by omega, fun a h1 h2 => by omega⟩, Below.refl _ _⟩
  case round =>
    obtain ⟨i, j, hij, hjn, rfl, rfl, hI, hb⟩ := hrel
    by_cases hlt : i < j
    · obtain ⟨m, hm⟩ : ∃ m : Nat, m = (i + j) / 2 := ⟨_, rfl⟩
      have hmj : m < j := by omega
      have hmi : i ≤ m := by omega
      have hm2 : ((i : Int) + (j : Int)) / 2 = (m : Int) := by omega
      have HM : Hid (m = (i + j) / 2) := hm
      clear hm
      obtain ⟨b, o, rfl, hbl, hat⟩ := (h.below hb (Nat.le_refl _)).en (show m < xs.length by omega)
      have hbw : b < wr.heap.size := Nat.lt_of_lt_of_le hbl hb.size
      obtain ⟨x, hx⟩ : ∃ x, xs[m]'(by omega) = x := ⟨_, rfl⟩
      rw [hx] at hat
      obtain ⟨c0, c1, c2, c3, c4, c5, c6⟩ := hat
      have hcon := fun W => find1_any x k W
      have HX : Hid (xs[m]'(by omega) = x) := hx
      clear hx
      by_cases hk : x.key < k
      · have hr : cmpI x.key k < 0 := by unfold cmpI; rw [if_pos hk]; decide
        generalize cmpI x.key k = r at hcon hr
        have HC : Hid _ := hcon
        clear hcon
        go_wp2_with (go_at_call 79; refine (HC.out _).mono ?_; rintro e w1 ⟨rfl, hb1⟩)
        go_roundw
        case rel =>
          refine ⟨m + 1, j, by omega, hjn, by go_num, rfl, ⟨fun a ha hai => ?_, hI.out.2⟩, up hb hb1⟩
          have hxm := HX.out
          by_cases e : a = m
          · subst e; rw [hxm]; exact hk
          · have := List.pairwise_iff_getElem.1 hp a m ha (by omega) (by omega)
            rw [hxm] at this
            omega
        case measure => simp [intOf]; omega
      · have hr : ¬ cmpI x.key k < 0 := by unfold cmpI; rw [if_neg hk]; split <;> decide
        generalize cmpI x.key k = r at hcon hr
        have HC : Hid _ := hcon
        clear hcon
        go_wp2_with (go_at_call 79; refine (HC.out _).mono ?_; rintro e w1 ⟨rfl, hb1⟩)
        go_roundw
        case rel =>
          refine ⟨i, m, by omega, by omega, rfl, by go_num, ⟨hI.out.1, fun a ha hai => ?_⟩, up hb hb1⟩
          have hxm := HX.out
          by_cases e : a = m
          · subst e; rw [hxm]; omega
          · have := List.pairwise_iff_getElem.1 hp m a (by omega) ha (by omega)
            rw [hxm] at this
            omega
        case measure => simp [intOf]; omega
    · obtain rfl : i = j := by omega
      have E1 : Hid (lowN xs k = i) := lowN_is hjn hI.out.1 hI.out.2
      have E2 : Hid (hasK xs k = (if h : i < xs.length then decide (xs[i].key = k) else false)) := by
        rcases hasK_is hp hI.out.1 with e | e
        · exact e
        · exact absurd hI.out.2 e
      by_cases hin : i < xs.length
      · obtain ⟨b, o, rfl, hbl, hat⟩ := (h.below hb (Nat.le_refl _)).en hin
        have hbw : b < wr.heap.size := Nat.lt_of_lt_of_le hbl hb.size
        obtain ⟨x, hx⟩ : ∃ x, xs[i] = x := ⟨_, rfl⟩
        rw [hx] at hat
        obtain ⟨c0, c1, c2, c3, c4, c5, c6⟩ := hat
        have hcon := fun W => find1_any x k W
        have E3 : Hid (hasK xs k = decide (x.key = k)) := by
          show _ = _
          rw [E2.out, dif_pos hin, hx]
        clear hx E2
        have hr : (cmpI x.key k == 0) = decide (x.key = k) := by
          rw [Bool.eq_iff_iff, decide_eq_true_eq, beq_iff_eq]
          unfold cmpI
          split
          · omega
          · split <;> omega
        generalize cmpI x.key k = r at hcon hr
        generalize decide (x.key = k) = q at hr E3
        have HC : Hid _ := hcon
        clear hcon
        go_wp2_with (go_at_call 79; refine (HC.out _).mono ?_; rintro e w1 ⟨rfl, hb1⟩)
        go_ret2
        exact ⟨ret_ib (by rw [E1.out]) E3.out.symm, up hb hb1⟩
      · have hin' : ¬ ((i : Int) < (xs.length : Int)) := by omega
        go_wp2_with fail
        go_ret2
        exact ⟨ret_ib (by rw [E1.out]) (by rw [E2.out, dif_neg hin]), hb⟩

set_option maxHeartbeats 400000 in
theorem find_any (A : Option Addr) (C : Nat) (xs : List En) (k : Int) (w : World) (h : RowAt w.heap.size w A (flatE xs)) (hz : xs.length * 56 ≤ 140737488351232) (hp : xs.Pairwise (fun x y => x.key < y.key)) :
    Calls Try.prog 59 #[.slice A xs.length C, .int .i64 k] w fun e w' => e = .returned (.tuple #[.int .i64 (lowN xs k : Int), .bool (hasK xs k)]) ∧ Below w.heap.size w w' := by
  have hcon := search_any A C xs k w h hz hp
  generalize lowN xs k = r at hcon ⊢
  generalize hasK xs k = q at hcon ⊢
  have HC := hideC hcon
  clear hcon
  go_enter Try.func59, Try.ntmps59
  go_wp2_with (go_at_call 78; refine HC.out.mono ?_; rintro e w1 ⟨rfl, hb1⟩)
  go_ret2
  exact ⟨rfl, hb1⟩

end Go.Proofs.Ytlojfgdpmaigmac

/- Copy of package tree. -/
namespace Go.Proofs.Ytlojfgdpmaigmac
open Go.RowKit

/-- What stands where the loop begins: the copy c, its nodes g. -/
structure CopyAt (w wc : World) (A : Option Addr) (C : Nat) (r : Int) (n c g : Nat) (ls : List PN) : Prop where
  bel : Below w.heap.size w wc
  src : RowL wc w.heap.size 26 [.slice A n C, .int .i64 r]
  res : RowL wc (w.heap.size + 1) 26 [.slice none 0 0, .int .i64 0]
  cur : RowL wc c 26 [.slice (some ⟨g, 0, none⟩) n n, .int .i64 r]
  row : RowL wc g 62 (flatN ls)
  hc : w.heap.size + 1 < c
  hg : w.heap.size + 1 < g
  ne : c ≠ g

theorem four (w : World) (o1 o2 o3 o4 : Obj) : ((((w.alloc o1).alloc o2).alloc o3).alloc o4).heap[w.heap.size]? = some o1 ∧ ((((w.alloc o1).alloc o2).alloc o3).alloc o4).heap[w.heap.size + 1]? = some o2 ∧
    ((((w.alloc o1).alloc o2).alloc o3).alloc o4).heap[w.heap.size + 1 + 1]? = some o3 ∧ ((((w.alloc o1).alloc o2).alloc o3).alloc o4).heap[w.heap.size + 1 + 1 + 1]? = some o4 := by
  have s1 : (w.alloc o1).heap.size = w.heap.size + 1 := by simp
  have s2 : ((w.alloc o1).alloc o2).heap.size = w.heap.size + 1 + 1 := by simp
  have s3 : (((w.alloc o1).alloc o2).alloc o3).heap.size = w.heap.size + 1 + 1 + 1 := by simp
  refine ⟨?_, ?_, ?_, ?_⟩
  · rw [Below.heap_alloc _ _ _ (by omega), Below.heap_alloc _ _ _ (by omega), Below.heap_alloc _ _ _ (by omega)]; exact heap_alloc_new w _
  · rw [Below.heap_alloc _ _ _ (by omega), Below.heap_alloc _ _ _ (by omega), ← s1]; exact heap_alloc_new _ _
  · rw [Below.heap_alloc _ _ _ (by omega), ← s2]; exact heap_alloc_new _ _
  · rw [← s3]; exact heap_alloc_new _ _

theorem four_below (w : World) (o1 o2 o3 o4 : Obj) : Below w.heap.size w (((((w.alloc o1).alloc o2).alloc o3).alloc o4).drew) :=
  (((((Below.refl _ _).alloc (Nat.le_refl _) _).alloc (by simp) _).alloc (by simp; omega) _).alloc (by simp; omega) _).drew

theorem copyAt_a (w : World) (A : Option Addr) (C : Nat) (r : Int) (n : Nat) :
    CopyAt w (((((w.alloc (.cells #[.slice A n C, .int .i64 r] 26)).alloc (.cells #[.slice none 0 0, .int .i64 0] 26)).alloc (.cells (madeN n) 62)).alloc (.cells #[.slice (some ⟨w.heap.size + 1 + 1, 0, none⟩) n n, .int .i64 r] 26)).drew) A C r n (w.heap.size + 1 + 1 + 1) (w.heap.size + 1 + 1) (List.replicate n PN.zero) := by
  obtain ⟨h1, h2, h3, h4⟩ := four w (.cells #[.slice A n C, .int .i64 r] 26) (.cells #[.slice none 0 0, .int .i64 0] 26) (.cells (madeN n) 62) (.cells #[.slice (some ⟨w.heap.size + 1 + 1, 0, none⟩) n n, .int .i64 r] 26)
  rw [madeN_eq] at *
  exact ⟨four_below _ _ _ _ _, h1, h2, h4, h3, by omega, by omega, by omega⟩

theorem copyAt_b (w : World) (A : Option Addr) (C : Nat) (r : Int) (n : Nat) :
    CopyAt w (((((w.alloc (.cells #[.slice A n C, .int .i64 r] 26)).alloc (.cells #[.slice none 0 0, .int .i64 0] 26)).alloc (.cells #[.slice (some ⟨w.heap.size + 1 + 1 + 1, 0, none⟩) n n, .int .i64 r] 26)).alloc (.cells (madeN n) 62)).drew) A C r n (w.heap.size + 1 + 1) (w.heap.size + 1 + 1 + 1) (List.replicate n PN.zero) := by
  obtain ⟨h1, h2, h3, h4⟩ := four w (.cells #[.slice A n C, .int .i64 r] 26) (.cells #[.slice none 0 0, .int .i64 0] 26) (.cells #[.slice (some ⟨w.heap.size + 1 + 1 + 1, 0, none⟩) n n, .int .i64 r] 26) (.cells (madeN n) 62)
  rw [madeN_eq] at *
  exact ⟨four_below _ _ _ _ _, h1, h2, h3, h4, by omega, by omega, by omega⟩

theorem own_next {w1 w4 : World} {base : Nat} {e : TypeId} {size n : Nat} {v : Value} {vs : List Value} (o : w1.ownsRow base e size v n vs) (hb : Below w1.heap.size w1 w4) : w4.ownsRow base e size v n vs :=
  own_of_block o fun k hk => hb.block k (o.lt k hk).2

theorem copyAt_step {w wr w4 W : World} {A : Option Addr} {C : Nat} {r : Int} {n c g : Nat} {ls ls' : List PN} (h : CopyAt w wr A C r n c g ls) (hb : Below wr.heap.size wr w4) {j0 j1 j2 j3 j4 : Nat} {v0 v1 v2 v3 v4 : Value}
    (hW : W = ((((w4.setCell ⟨g, j0, none⟩ v0).setCell ⟨g, j1, none⟩ v1).setCell ⟨g, j2, none⟩ v2).setCell ⟨g, j3, none⟩ v3).setCell ⟨g, j4, none⟩ v4) (hrow : RowL W g 62 (flatN ls')) : CopyAt w W A C r n c g ls' := by
  have hother : ∀ b, b ≠ g → W.heap[b]? = w4.heap[b]? := by
    intro b hbg
    subst hW
    simp only [Below.heap_setCell _ _ _ _ (show b ≠ (⟨g, _, none⟩ : Addr).block from hbg)]
  have keep : ∀ {b : Nat} {t : TypeId} {vs : List Value}, RowL wr b t vs → b ≠ g → RowL W b t vs := fun hr hbg => (hr.below hb hr.lt).of_block (hother _ hbg)
  have hg := h.hg
  refine ⟨?_, keep h.src (by omega), keep h.res (by omega), keep h.cur h.ne, hrow, h.hc, h.hg, h.ne⟩
  have b4 : Below w.heap.size w w4 := nextB h.bel (Nat.le_refl _) hb
  subst hW
  exact ((((b4.setCell (p := ⟨g, j0, none⟩) (by show _ ≤ g; omega) _).setCell (p := ⟨g, j1, none⟩) (by show _ ≤ g; omega) _).setCell (p := ⟨g, j2, none⟩) (by show _ ≤ g; omega) _).setCell (p := ⟨g, j3, none⟩) (by show _ ≤ g; omega) _).setCell (p := ⟨g, j4, none⟩) (by show _ ≤ g; omega) _

theorem copy_end {w wr : World} {A : Option Addr} {C : Nat} {r : Int} {n c g : Nat} {qs : List PN} (h : CopyAt w wr A C r n c g qs) (hown : ∀ x ∈ qs, x.own (w.heap.size + 2) wr) (hnd : (g :: qs.flatMap PN.blocks).Nodup) (hz : qs.length * 104 ≤ 140737488351232) (v0 v1 : Value) :
    OwnTree w.heap.size ((wr.setCell ⟨w.heap.size + 1, 0, none⟩ v0).setCell ⟨w.heap.size + 1, 1, none⟩ v1) g qs ∧ Below w.heap.size w ((wr.setCell ⟨w.heap.size + 1, 0, none⟩ v0).setCell ⟨w.heap.size + 1, 1, none⟩ v1) := by
  have hother : ∀ b, b ≠ w.heap.size + 1 → ((wr.setCell ⟨w.heap.size + 1, 0, none⟩ v0).setCell ⟨w.heap.size + 1, 1, none⟩ v1).heap[b]? = wr.heap[b]? := by
    intro b hbg
    simp only [Below.heap_setCell _ _ _ _ (show b ≠ (⟨w.heap.size + 1, _, none⟩ : Addr).block from hbg)]
  have hg := h.hg
  refine ⟨⟨h.row.of_block (hother _ (by omega)), by omega, fun q hq => ?_, hnd, hz⟩, ?_⟩
  · have h1 := (hown q hq).of_blocks (w' := (wr.setCell ⟨w.heap.size + 1, 0, none⟩ v0).setCell ⟨w.heap.size + 1, 1, none⟩ v1) fun b hb => hother b (by have := (hown q hq).lt b hb; omega)
    exact ⟨own_mono h1.e (by omega), own_mono h1.k (by omega), own_mono h1.d (by omega), own_mono h1.b (by omega), h1.ez, h1.kz, h1.dz, h1.bz⟩
  · exact (h.bel.setCell (p := ⟨w.heap.size + 1, 0, none⟩) (by show _ ≤ w.heap.size + 1; omega) _).setCell (p := ⟨w.heap.size + 1, 1, none⟩) (by show _ ≤ w.heap.size + 1; omega) _

set_option maxHeartbeats 4000000 in
theorem copy_any (A : Option Addr) (C : Nat) (r : Int) (ps : List PN) (w : World) (h : NodesAt w.heap.size w A ps) :
    Calls Try.prog 10 #[.agg #[.slice A ps.length C, .int .i64 r]] w
      fun e w' => ∃ g qs, e = .returned (.agg #[.slice (some ⟨g, 0, none⟩) ps.length ps.length, .int .i64 r]) ∧ OwnTree w.heap.size w' g qs ∧ qs.map PN.nd = ps.map PN.nd ∧ Below w.heap.size w w' := by
  have hz := h.z
  have hmk := run_makeN ps.length hz
  go_enter Try.func10, Try.ntmps10
  go_upto_region 1 with fail
  go_cut [3] (fun v wc => ∃ c g, v = .pointer (some ⟨c, 0, none⟩) ∧ CopyAt w wc A C r ps.length c g (List.replicate ps.length PN.zero))
  case first =>
    go_region
    all_goals go_wp2
    · go_meet
      case rel => exact ⟨_, _, rfl, copyAt_a w A C r ps.length⟩
    · go_meet
      case rel => exact ⟨_, _, rfl, copyAt_b w A C r ps.length⟩
  case rest =>
    obtain ⟨c, g, rfl, hcut⟩ := hcut
    have s0 := hcut.src.cell 0
    have s1 := hcut.src.cell 1
    simp only [List.getElem?_cons_zero, List.getElem?_cons_succ] at s0 s1
    go_wp2_with fail
    go_loopw [16] (fun i wr => ∃ k qs, k ≤ ps.length ∧ i = .int .i64 (k : Nat) ∧ qs.length = k ∧ CopyAt w wr A C r ps.length c g (qs ++ List.replicate (ps.length - k) PN.zero) ∧ (∀ x ∈ qs, x.own (w.heap.size + 2) wr) ∧ (g :: qs.flatMap PN.blocks).Nodup ∧ qs.map PN.nd = (ps.take k).map PN.nd) (fun i _ => ps.length - (intOf i).toNat)
    case atStart => exact ⟨0, [], Nat.zero_le _, rfl, rfl, by simpa using hcut, by simp, by simp, by simp⟩
    case round =>
      obtain ⟨k, qs, hk, rfl, hql, hat, hown, hnd, hmap⟩ := hrel
      by_cases hlt : k < ps.length
      · have hN := h.below hat.bel (Nat.le_refl _)
        obtain ⟨b, o, rfl, hbl, c0, c1, c2, c3, c4⟩ := hN.row.pn hlt
        have ok := hN.each k hlt
        have hnk : (ps.take (k + 1)).map PN.nd = (ps.take k).map PN.nd ++ [(ps[k]).nd] := by rw [List.take_succ_eq_append_getElem hlt, List.map_append]; rfl
        have HM : Hid (qs.map PN.nd = (ps.take k).map PN.nd ∧ (ps.take (k + 1)).map PN.nd = (ps.take k).map PN.nd ++ [(ps[k]).nd]) := ⟨hmap, hnk⟩
        clear hN hmap hnk hcut s0 s1
        generalize ps[k] = p at *
        obtain ⟨leaf, eA, eC, ents, kA, kC, keys, dA, dC, kids, bA, bC, buf⟩ := p
        simp only at c0 c1 c2 c3 c4
        obtain ⟨e1, k1, t1, f1, en, kn, dn, fn, ez, kz, dz, fz⟩ := ok
        simp only at e1 k1 t1 f1 en kn dn fn ez kz dz fz
        have cc := hat.cur.cell 0
        simp only [List.getElem?_cons_zero] at cc
        have hcl := hat.cur.lt
        have hgl := hat.row.lt
        have hle : w.heap.size ≤ wr.heap.size := hat.bel.size
        have hbr : b < wr.heap.size := by omega
        have HQ : Hid (qs.length = k) := hql
        clear hql
        have gf := hat.row.frozen
        have gcl : ∀ j, j < 5 → ∃ v, wr.cell? ⟨g, k * 5 + j, none⟩ = some v := by
          intro j hj
          have hl := flatN_length (qs ++ List.replicate (ps.length - k) PN.zero)
          rw [hat.row.cell]
          simp only [List.length_append, List.length_replicate] at hl
          have := HQ.out
          exact ⟨_, List.getElem?_eq_getElem (by omega)⟩
        obtain ⟨x0, g0⟩ := gcl 0 (by decide)
        obtain ⟨x1, g1⟩ := gcl 1 (by decide)
        obtain ⟨x2, g2⟩ := gcl 2 (by decide)
        obtain ⟨x3, g3⟩ := gcl 3 (by decide)
        obtain ⟨x4, g4⟩ := gcl 4 (by decide)
        rw [Nat.add_zero] at g0
        have i0 : (0 : Int) ≤ (k : Int) := by omega
        have i1 : (k : Int) < (ps.length : Int) := by omega
        clear gcl
        have hcl1 : c < wr.heap.size + 1 := by omega
        have n1 : ¬ c = g := hat.ne
        have n2 : ¬ wr.heap.size = g := by omega
        have KS : ∀ (W : World) (b o j : Nat) (v : Value), ¬ b = g → (W.setCell ⟨g, j, none⟩ v).cell? ⟨b, o, none⟩ = W.cell? ⟨b, o, none⟩ := fun W b o j v hb => World.cell?_setCell_far _ _ _ _ (fun e => hb e.symm)
        go_wp2_with fail
        go_region_held3 (fun w' => w'.cell? ⟨c, 0, none⟩ = some (.slice (some ⟨g, 0, none⟩) ps.length ps.length) ∧ w'.cell? ⟨wr.heap.size, 0, none⟩ = some (.bool leaf) ∧ w'.cell? ⟨wr.heap.size, 1, none⟩ = some (.slice eA ents.length eC) ∧ w'.cell? ⟨wr.heap.size, 2, none⟩ = some (.slice kA keys.length kC) ∧ w'.cell? ⟨wr.heap.size, 3, none⟩ = some (.slice dA kids.length dC) ∧ w'.cell? ⟨wr.heap.size, 4, none⟩ = some (.slice bA buf.length bC)) (go_keep)
          (first
            | (go_at_call_of 23 eA; refine (freshE_any _ _ _ _ (e1.go (((Below.refl _ _).alloc (Nat.le_refl _) _).drew) hle (Nat.le_refl _)) en ez).mono ?_; rintro e w1 ⟨v1, rfl, o1, hb1⟩; obtain ⟨A1, C1, rfl, -⟩ := own_row o1; have G1 : Below wr.heap.size wr w1 := nextB (((Below.refl _ _).alloc (Nat.le_refl _) _).drew) (Nat.le_refl _) hb1; have T1 := (bcells (hb1.mono (show wr.heap.size + 1 ≤ _ by simp))).1; have Z1 : wr.heap.size + 1 ≤ w1.heap.size := Nat.le_trans (by simp) hb1.size)
            | (go_at_call_of 24 kA; refine (freshI_any _ _ _ _ (k1.go G1 hle (Nat.le_refl _)) kn kz).mono ?_; rintro e w2 ⟨v2, rfl, o2, hb2⟩; obtain ⟨A2, C2, rfl, -⟩ := own_row o2; have G2 : Below wr.heap.size wr w2 := nextB G1 (Nat.le_refl _) hb2; have T2 := (bcells (hb2.mono (show wr.heap.size + 1 ≤ _ by exact Z1))).1; have Z2 : wr.heap.size + 1 ≤ w2.heap.size := Nat.le_trans (Z1) hb2.size)
            | (go_at_call_of 24 dA; refine (freshI_any _ _ _ _ (t1.go G2 hle (Nat.le_refl _)) dn dz).mono ?_; rintro e w3 ⟨v3, rfl, o3, hb3⟩; obtain ⟨A3, C3, rfl, -⟩ := own_row o3; have G3 : Below wr.heap.size wr w3 := nextB G2 (Nat.le_refl _) hb3; have T3 := (bcells (hb3.mono (show wr.heap.size + 1 ≤ _ by exact Z2))).1; have Z3 : wr.heap.size + 1 ≤ w3.heap.size := Nat.le_trans (Z2) hb3.size)
            | (go_at_call_of 23 bA; refine (freshE_any _ _ _ _ (f1.go G3 hle (Nat.le_refl _)) fn fz).mono ?_; rintro e w4 ⟨v4, rfl, o4, hb4⟩; obtain ⟨A4, C4, rfl, -⟩ := own_row o4; have G4 : Below wr.heap.size wr w4 := nextB G3 (Nat.le_refl _) hb4; have T4 := (bcells (hb4.mono (show wr.heap.size + 1 ≤ _ by exact Z3))).1; have Z4 : wr.heap.size + 1 ≤ w4.heap.size := Nat.le_trans (Z3) hb4.size; have Y0 : w4.cell? ⟨g, k * 5, none⟩ = some x0 := (G4.cell (p := ⟨g, k * 5, none⟩) hgl).trans g0; have Y1 : w4.cell? ⟨g, k * 5 + 1, none⟩ = some x1 := (G4.cell (p := ⟨g, k * 5 + 1, none⟩) hgl).trans g1; have Y2 : w4.cell? ⟨g, k * 5 + 2, none⟩ = some x2 := (G4.cell (p := ⟨g, k * 5 + 2, none⟩) hgl).trans g2; have Y3 : w4.cell? ⟨g, k * 5 + 3, none⟩ = some x3 := (G4.cell (p := ⟨g, k * 5 + 3, none⟩) hgl).trans g3; have Y4 : w4.cell? ⟨g, k * 5 + 4, none⟩ = some x4 := (G4.cell (p := ⟨g, k * 5 + 4, none⟩) hgl).trans g4; have YF : ∀ j, w4.frozen? ⟨g, j, none⟩ = false := fun j => (G4.frozen (p := ⟨g, j, none⟩) hgl).trans (gf j)))
        have hql := HQ.out
        obtain ⟨hm1, hm2⟩ := HM.out
        clear HM HQ
        subst hql
        have hrow' : RowL wr g 62 (flatN (qs ++ PN.zero :: List.replicate (ps.length - (qs.length + 1)) PN.zero)) := by
          have := hat.row
          rwa [show ps.length - qs.length = (ps.length - (qs.length + 1)) + 1 by omega, List.replicate_succ] at this
        have hb34 : Below w2.heap.size w2 w4 := nextB hb3 (Nat.le_refl _) hb4
        have hb234 : Below w1.heap.size w1 w4 := nextB hb2 (Nat.le_refl _) hb34
        have sz0 : wr.heap.size ≤ w1.heap.size := by omega
        have q1 : w4.ownsRow wr.heap.size _ _ _ _ _ := own_mono (own_next o1 hb234) (by simp)
        have q2 : w4.ownsRow wr.heap.size _ _ _ _ _ := own_mono (own_next o2 hb34) (by omega)
        have q3 : w4.ownsRow wr.heap.size _ _ _ _ _ := own_mono (own_next o3 hb4) (by omega)
        have q4 : w4.ownsRow wr.heap.size _ _ _ _ _ := own_mono o4 (by omega)
        have hq : PN.own wr.heap.size w4 ⟨leaf, A1, C1, ents, A2, C2, keys, A3, C3, kids, A4, C4, buf⟩ := ⟨q1, q2, q3, q4, ez, kz, dz, fz⟩
        have hqn : (PN.mk leaf A1 C1 ents A2 C2 keys A3 C3 kids A4 C4 buf).blocks.Nodup :=
          blocks_nodup (s1 := w1.heap.size) (s2 := w2.heap.size) (s3 := w3.heap.size) (fun x hx => (own_lt o1 x hx).2) (fun x hx => own_lt o2 x hx) (fun x hx => own_lt o3 x hx) (fun x hx => (own_lt o4 x hx).1) hb2.size hb3.size
        have hgb : w.heap.size + 2 ≤ g := by have := hat.hg; omega
        have R := copy_step hrow' hgb hown hnd G4 hq hqn _ rfl
        have R' := copyAt_step hat G4 rfl R.1
        have Rm : (qs ++ [PN.mk leaf A1 C1 ents A2 C2 keys A3 C3 kids A4 C4 buf]).map PN.nd = (ps.take (qs.length + 1)).map PN.nd := by
          rw [hm2, List.map_append, hm1]; rfl
        have RR : Hid _ := And.intro R (And.intro R' Rm)
        clear R R' Rm hrow' hq hqn q1 q2 q3 q4 o1 o2 o3 o4 hown hnd hat hm1 hm2 T1 T2 T3 T4 KS
        go_wp2
        go_roundw
        case rel =>
          go_light
          obtain ⟨⟨_, R2, R3⟩, R', Rm⟩ := RR.out
          exact ⟨qs.length + 1, qs ++ [PN.mk leaf A1 C1 ents A2 C2 keys A3 C3 kids A4 C4 buf], by omega, by go_num, by simp, by simpa using R', R2, R3, Rm⟩
        case measure => simp [intOf]; omega
      · obtain rfl : k = ps.length := by omega
        have hcur0 := hat.cur.cell 0
        have hcur1 := hat.cur.cell 1
        have hres0 := hat.res.cell 0
        have hres1 := hat.res.cell 1
        have hresf := hat.res.frozen
        simp only [List.getElem?_cons_zero, List.getElem?_cons_succ] at hcur0 hcur1 hres0 hres1
        have HQ : Hid (qs.length = ps.length ∧ qs.map PN.nd = (ps.take ps.length).map PN.nd) := ⟨hql, hmap⟩
        clear hql hmap
        have hcl := hat.cur.lt
        have hgl := hat.row.lt
        go_wp2
        obtain ⟨hq1, hq2⟩ := HQ.out
        rw [List.take_length] at hq2
        rw [Nat.sub_self, List.replicate_zero, List.append_nil] at hat
        have hE := copy_end hat hown hnd (by rw [hq1]; exact hz) (.slice (some ⟨g, 0, none⟩) ps.length ps.length) (.int .i64 r)
        exact bodyPost_ret (v := .agg #[.slice (some ⟨g, 0, none⟩) ps.length ps.length, .int .i64 r]) (by simp [results, Try.results10, go_sem, hres0, hres1]) rfl ⟨g, qs, rfl, hE.1, hq2, hE.2⟩

end Go.Proofs.Ytlojfgdpmaigmac

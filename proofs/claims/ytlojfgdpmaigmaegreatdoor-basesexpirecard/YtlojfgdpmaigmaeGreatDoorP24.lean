/- The document's AllOf. -/
import Derived.Test.YtlojfgdpmaigmaeGreatDoorP16
import Derived.Test.YtlojfgdpmaigmaeGreatDoorP23
import Derived.Test.YtlojfgdpmaigmaeGreatDoorP20
namespace Go.Proofs.YtlojfgdpmaigmaeGreatDoor
open Go.RowKit Plain

end Go.Proofs.YtlojfgdpmaigmaeGreatDoor

/- The document's GotOf: what a tree knows of a key. -/
namespace Go.Proofs.YtlojfgdpmaigmaeGreatDoor
open Go.RowKit Plain

/-- What is known of a key, out of all that the nodes hold. -/
def gotA (ns : List Nd) (key : Int) : Ru × Int :=
  match allR key (key + 1) (ns.flatMap Nd.lst) with
  | none => (zro, 1)
  | some [] => (zro, 0)
  | some (y :: _) => (y.ru, 0)
def gotP (ns : List Nd) (root key : Int) : Ru × Int :=
  if treeC ns root ≠ 0 then (zro, treeC ns root) else if inB key 0 1099511627775 = true then gotA ns key else (zro, 2)

end Go.Proofs.YtlojfgdpmaigmaeGreatDoor

/- What is known of a key: the visitor of tree.knownAt. -/
namespace Go.Proofs.YtlojfgdpmaigmaeGreatDoor
open Go.RowKit Plain

def ruV (r : Ru) : List Value := [.int .i64 r.c, .int .i64 r.s, .int .i64 r.lo, .int .i64 r.hi, .int .i64 r.t, .int .i64 r.l]

/-- What is known so far, and the code so far, in their two blocks. -/
structure KAt (bk bc : Nat) (w : World) (s : Ru × Int) : Prop where
  ne : bk ≠ bc
  rk : RowL w bk 45 (ruV s.1)
  rc : RowL w bc 29 [.int .i64 s.2]

def stepK (s : Ru × Int) (x : En) : Ru × Int := if s.2 = 0 then mrg s.1 x.ru else s

theorem KAt.below {bk bc : Nat} {w w' : World} {s : Ru × Int} (h : KAt bk bc w s) (hb : Below w.heap.size w w') : KAt bk bc w' s :=
  ⟨h.ne, h.rk.below hb h.rk.lt, h.rc.below hb h.rc.lt⟩

theorem KAt.set {bk bc : Nat} {w : World} {s : Ru × Int} (h : KAt bk bc w s) (r : Ru) (e : Int) :
    KAt bk bc (((((((w.setCell ⟨bk, 0, none⟩ (.int .i64 r.c)).setCell ⟨bk, 1, none⟩ (.int .i64 r.s)).setCell ⟨bk, 2, none⟩ (.int .i64 r.lo)).setCell ⟨bk, 3, none⟩ (.int .i64 r.hi)).setCell ⟨bk, 4, none⟩ (.int .i64 r.t)).setCell ⟨bk, 5, none⟩ (.int .i64 r.l)).setCell ⟨bc, 0, none⟩ (.int .i64 e)) (r, e) := by
  have far : ∀ (W : World) (j : Nat) (v : Value), (W.setCell ⟨bk, j, none⟩ v).heap[bc]? = W.heap[bc]? := fun W j v => Below.heap_setCell _ _ _ _ (fun q => h.ne q.symm)
  refine ⟨h.ne, ?_, ?_⟩
  · exact ((((((h.rk.set 0 _).set 1 _).set 2 _).set 3 _).set 4 _).set 5 _).of_block (Below.heap_setCell _ _ _ _ h.ne)
  · exact ((((((h.rc.of_block (far _ _ _)).of_block (far _ _ _)).of_block (far _ _ _)).of_block (far _ _ _)).of_block (far _ _ _)).of_block (far _ _ _)).set 0 (.int .i64 e)

set_option maxRecDepth 20000 in
set_option maxHeartbeats 4000000 in
theorem visit_no (x : En) (bk bc : Nat) (s : Ru × Int) (w : World) (h : KAt bk bc w s) (he : s.2 ≠ 0) :
    Calls Tryz.prog 96 #[.agg #[.int .i64 x.key, .int .i64 x.c, .int .i64 x.s, .int .i64 x.lo, .int .i64 x.hi, .int .i64 x.t, .int .i64 x.l], .pointer (some ⟨bc, 0, none⟩), .pointer (some ⟨bk, 0, none⟩)] w
      fun e w' => e = .returned (.tuple #[]) ∧ KAt bk bc w' s ∧ Kept [bk, bc] w w' := by
  have ce : w.cell? ⟨bc, 0, none⟩ = some (.int .i64 s.2) := h.rc.cell 0
  have lc := h.rc.lt
  have b0 : ∀ o : Obj, Below w.heap.size w (w.alloc o) := fun o => (Below.refl _ _).alloc (Nat.le_refl _) o
  have he' : (s.2 == 0) = false := by simpa using he
  go_enter Tryz.func96, Tryz.ntmps96
  go_wp2_with fail
  go_end0
  exact ⟨rfl, h.below (b0 _), Kept.of_below (b0 _)⟩

set_option maxRecDepth 20000 in
set_option maxHeartbeats 4000000 in
theorem visit_yes (x : En) (bk bc : Nat) (ru : Ru) (w : World) (h : KAt bk bc w (ru, 0)) :
    Calls Tryz.prog 96 #[.agg #[.int .i64 x.key, .int .i64 x.c, .int .i64 x.s, .int .i64 x.lo, .int .i64 x.hi, .int .i64 x.t, .int .i64 x.l], .pointer (some ⟨bc, 0, none⟩), .pointer (some ⟨bk, 0, none⟩)] w
      fun e w' => e = .returned (.tuple #[]) ∧ KAt bk bc w' (mrg ru x.ru) ∧ Kept [bk, bc] w w' := by
  have ce : w.cell? ⟨bc, 0, none⟩ = some (.int .i64 0) := h.rc.cell 0
  have c0 : w.cell? ⟨bk, 0, none⟩ = some (.int .i64 ru.c) := h.rk.cell 0
  have c1 : w.cell? ⟨bk, 1, none⟩ = some (.int .i64 ru.s) := h.rk.cell 1
  have c2 : w.cell? ⟨bk, 2, none⟩ = some (.int .i64 ru.lo) := h.rk.cell 2
  have c3 : w.cell? ⟨bk, 3, none⟩ = some (.int .i64 ru.hi) := h.rk.cell 3
  have c4 : w.cell? ⟨bk, 4, none⟩ = some (.int .i64 ru.t) := h.rk.cell 4
  have c5 : w.cell? ⟨bk, 5, none⟩ = some (.int .i64 ru.l) := h.rk.cell 5
  have lc := h.rc.lt
  have lk := h.rk.lt
  have ne := h.ne
  have ne' : ¬ bc = bk := fun q => ne q.symm
  have HK : Hid (KAt bk bc w (ru, 0)) := h
  clear h
  have b0 : ∀ o : Obj, Below w.heap.size w (w.alloc o) := fun o => (Below.refl _ _).alloc (Nat.le_refl _) o
  go_enter Tryz.func96, Tryz.ntmps96
  go_wp2_with (first | (go_at_call 40; refine (merge_any ru x.ru _).mono ?_; rintro e w1 ⟨rfl, hb1⟩; have hbw : Below w.heap.size w w1 := nextB (b0 _) (Nat.le_refl _) hb1; have K1 : Hid (KAt bk bc w1 (ru, 0)) := HK.out.below hbw; have d0 := fun j => K1.out.rk.cell j; have df := fun j => K1.out.rk.frozen j; have e0 := fun j => K1.out.rc.cell j; have ef := fun j => K1.out.rc.frozen j; simp only [ruV] at d0; clear ce c0 c1 c2 c3 c4 c5 hb1))
  go_end0
  have m1 : bk ∈ [bk, bc] := by simp
  have m2 : bc ∈ [bk, bc] := by simp
  exact ⟨rfl, K1.out.set (mrg ru x.ru).1 (mrg ru x.ru).2, (((((((Kept.of_below hbw).set (.inl m1) _).set (.inl m1) _).set (.inl m1) _).set (.inl m1) _).set (.inl m1) _).set (.inl m1) _).set (.inl m2) _⟩

theorem visit_any (x : En) (bk bc : Nat) (s : Ru × Int) (w : World) (h : KAt bk bc w s) :
    Calls Tryz.prog 96 #[.agg #[.int .i64 x.key, .int .i64 x.c, .int .i64 x.s, .int .i64 x.lo, .int .i64 x.hi, .int .i64 x.t, .int .i64 x.l], .pointer (some ⟨bc, 0, none⟩), .pointer (some ⟨bk, 0, none⟩)] w
      fun e w' => e = .returned (.tuple #[]) ∧ KAt bk bc w' (stepK s x) ∧ Kept [bk, bc] w w' := by
  unfold stepK
  by_cases he : s.2 = 0
  · rw [if_pos he]
    obtain ⟨ru, e⟩ := s
    simp only at he
    subst he
    exact visit_yes x bk bc ru w h
  · rw [if_neg he]
    exact visit_no x bk bc s w h he

end Go.Proofs.YtlojfgdpmaigmaeGreatDoor

/- A walk that calls a visitor: what the visitor may turn, and what it leaves. -/
namespace Go.Proofs.YtlojfgdpmaigmaeGreatDoor
open Go.RowKit Plain

/-- w' is w with new blocks, and with writes to the blocks that X names alone; no block that was there comes to be named. -/
structure Turned (X : World → Nat → Prop) (w w' : World) : Prop where
  os : w'.os = w.os
  tape : w'.tape = w.tape
  output : w'.output = w.output
  size : w.heap.size ≤ w'.heap.size
  block : ∀ k, k < w.heap.size → ¬ X w k → w'.heap[k]? = w.heap[k]?
  back : ∀ k, k < w.heap.size → X w' k → X w k

section
variable {X : World → Nat → Prop} {w w' w'' : World}
theorem Turned.refl (X : World → Nat → Prop) (w : World) : Turned X w w := ⟨rfl, rfl, rfl, Nat.le_refl _, fun _ _ _ => rfl, fun _ _ h => h⟩
theorem Turned.trans (h : Turned X w w') (k : Turned X w' w'') : Turned X w w'' :=
  ⟨k.os.trans h.os, k.tape.trans h.tape, k.output.trans h.output, Nat.le_trans h.size k.size,
   fun i hi hx => (k.block i (Nat.lt_of_lt_of_le hi h.size) (fun hx' => hx (h.back i hi hx'))).trans (h.block i hi hx),
   fun i hi hx => h.back i hi (k.back i (Nat.lt_of_lt_of_le hi h.size) hx)⟩
theorem Turned.of_below (h : Below w.heap.size w w') (hX : ∀ k, X w' k → X w k) : Turned X w w' :=
  ⟨h.os, h.tape, h.output, h.size, fun k hk _ => h.block k hk, fun k _ hx => hX k hx⟩
theorem Turned.below (h : Turned X w w') {B : Nat} (hB : B ≤ w.heap.size) (hx : ∀ k, X w k → B ≤ k) : Below B w w' :=
  ⟨h.os, h.tape, h.output, h.size, fun k hk => h.block k (by omega) (fun hm => by have := hx k hm; omega)⟩
theorem Turned.far (h : Turned X w w') {B : Nat} (hB : B ≤ w.heap.size) (hx : ∀ k, X w k → B ≤ k) : ∀ k, X w' k → B ≤ k := fun k hk => by
  by_cases hl : k < w.heap.size
  · exact hx k (h.back k hl hk)
  · omega
theorem Turned.row (h : Turned X w w') {b : Nat} {t : TypeId} {vs : List Value} (hr : RowL w b t vs) (hx : ¬ X w b) : RowL w' b t vs := hr.of_block (h.block b hr.lt hx)
end

/-- A visitor: the function's number is F; it holds the state s where I says so. -/
structure Vis {σ : Type} (F : FuncId) (cap : Array Value) (I : World → σ → Prop) (X : World → Nat → Prop) (step : σ → En → σ) : Prop where
  call : ∀ (x : En) (s : σ) (w : World), I w s → Calls Tryz.prog F (#[.agg #[.int .i64 x.key, .int .i64 x.c, .int .i64 x.s, .int .i64 x.lo, .int .i64 x.hi, .int .i64 x.t, .int .i64 x.l]] ++ cap) w
    fun e w' => e = .returned (.tuple #[]) ∧ I w' (step s x) ∧ Turned X w w'
  stay : ∀ (s : σ) (w w' : World), I w s → Below w.heap.size w w' → I w' s
  same : ∀ (s : σ) (w w' : World), I w s → Below w.heap.size w w' → ∀ k, X w' k → X w k
  lt : ∀ (s : σ) (w : World), I w s → ∀ k, X w k → k < w.heap.size

def XK (bk bc : Nat) : World → Nat → Prop := fun _ k => k = bk ∨ k = bc

theorem visK (bk bc : Nat) : Vis 96 #[.pointer (some ⟨bc, 0, none⟩), .pointer (some ⟨bk, 0, none⟩)] (KAt bk bc) (XK bk bc) stepK where
  call x s w h := (visit_any x bk bc s w h).mono fun e w' ⟨h1, h2, h3⟩ => ⟨h1, h2, h3.os, h3.tape, h3.output, h3.size, fun k hk hx => h3.block k hk (fun hm => hx (by simpa [XK] using hm)), fun _ _ hx => hx⟩
  stay _ _ _ h hb := h.below hb
  same _ _ _ _ _ _ hx := hx
  lt _ w h k hx := by
    rcases hx with rfl | rfl
    · exact h.rk.lt
    · exact h.rc.lt

/-- The nodes that a walk from n on down comes to. -/
def Reach (ns : List Nd) : Nat → Int → Prop
  | 0, _ => False
  | f + 1, n => 0 ≤ n ∧ n < ns.length ∧ (ns.getD n.toNat default).kids.length ≤ (ns.getD n.toNat default).keys.length + 1 ∧ ∀ d ∈ (ns.getD n.toNat default).kids, Reach ns f d

def itK (g : Int → List En) (low high : Int) (kids keys : List Int) (pr : Option Int) (i : Nat) : List En :=
  if skipB low high (if i = 0 then pr else keys[i - 1]?) keys[i]? = true then [] else g (kids.getD i 0)

theorem WlK_range (g : Int → List En) (low high : Int) : ∀ (kids keys : List Int) (pr : Option Int), WlK g low high kids keys pr = (List.range kids.length).flatMap (itK g low high kids keys pr)
  | [], _, _ => by simp [WlK]
  | d :: ds, keys, pr => by
    have ih := WlK_range g low high ds keys.tail keys.head?
    have e : ∀ i, itK g low high (d :: ds) keys pr (i + 1) = itK g low high ds keys.tail keys.head? i := fun i => by
      unfold itK
      cases i with
      | zero => cases keys <;> simp
      | succ j => cases keys <;> simp
    have e0 : itK g low high (d :: ds) keys pr 0 = if skipB low high pr keys.head? = true then [] else g d := by
      show (if skipB low high pr keys[0]? = true then [] else g d) = _
      rw [show keys[0]? = keys.head? by cases keys <;> rfl]
    rw [WlK, ih, List.length_cons, List.range_succ_eq_map, List.flatMap_cons, List.flatMap_map, e0]
    simp only [Nat.succ_eq_add_one, e]

theorem flat_le (f : Nat → List En) {i n : Nat} (h : i ≤ n) : ((List.range i).flatMap f).length ≤ ((List.range n).flatMap f).length := by
  obtain ⟨d, rfl⟩ := Nat.le.dest h
  rw [List.range_add, List.flatMap_append, List.length_append]
  omega

theorem Wk_kid {g : Int → Int → Int → St → Option (St × List Int)} : ∀ (ds keys : List Int) (lo hi : Int) (S : St) (r : St × List Int), Wk g ds keys lo hi S = some r → ∀ d ∈ ds, ∃ lo' hi' S' r', g d lo' hi' S' = some r'
  | [], _, _, _, _, _, _, d, hd => by simp at hd
  | x :: ds, keys, lo, hi, S, r, hr, d, hd => by
    unfold Wk at hr
    split at hr
    · cases hr
    · rename_i S1 l1 h1
      rcases List.mem_cons.1 hd with rfl | hd
      · exact ⟨_, _, _, _, h1⟩
      · split at hr
        · cases hr
        · rename_i S2 l2 h2
          exact Wk_kid ds _ _ _ _ _ h2 d hd

theorem W_reach {ns : List Nd} : ∀ (f : Nat) (n lo hi : Int) (S : St) (r : St × List Int), W ns f n lo hi S = some r → Reach ns f n := by
  intro f
  induction f with
  | zero => intro n lo hi S r h; cases h
  | succ f ih =>
    intro n lo hi S r h
    unfold W at h
    split at h
    · cases h
    · rename_i hc
      refine ⟨by omega, by omega, ?_⟩
      split at h
      · split at h
        · rename_i hl
          simp only [leafB, Bool.and_eq_true, List.isEmpty_iff] at hl
          obtain ⟨⟨⟨⟨⟨h1, h2⟩, h3⟩, _⟩, _⟩, _⟩ := hl
          rw [h1, h2]
          simp
        · cases h
      · split at h
        · rename_i hl
          simp only [innerB, Bool.and_eq_true, List.isEmpty_iff, beq_iff_eq] at hl
          obtain ⟨⟨⟨⟨⟨h1, h2⟩, h3⟩, h4⟩, _⟩, _⟩ := hl
          refine ⟨by omega, fun d hd => ?_⟩
          obtain ⟨_, _, _, _, q⟩ := Wk_kid _ _ _ _ _ _ h d hd
          exact ih _ _ _ _ _ q
        · cases h

theorem treeC_W {ns : List Nd} {root : Int} (h : treeC ns root = 0) : ∃ r, W ns 12 root 0 1099511627776 [] = some r := by
  unfold treeC at h
  split at h
  · omega
  · cases hW : W ns 12 root 0 1099511627776 [] with
    | none => rw [hW] at h; simp at h
    | some p => exact ⟨p, rfl⟩

end Go.Proofs.YtlojfgdpmaigmaeGreatDoor

/- The program's walk over a tree. -/
namespace Go.Proofs.YtlojfgdpmaigmaeGreatDoor
open Go.RowKit Plain

set_option maxRecDepth 20000 in
set_option maxHeartbeats 4000000 in
theorem walk_step {σ : Type} {I : World → σ → Prop} {X : World → Nat → Prop} {step : σ → En → σ} (bk bc : Nat) (V : Hid (Vis 96 #[.pointer (some ⟨bc, 0, none⟩), .pointer (some ⟨bk, 0, none⟩)] I X step))
    (b o C : Nat) (r : Int) (ps : List PN) (m B : Nat) (low high : Int) (s : σ) (w : World) (leaf : Bool) (eA : Option Addr) (eC : Nat) (ents : List En) (kA : Option Addr) (kC : Nat) (keys : List Int) (dA : Option Addr) (dC : Nat) (kids : List Int) (bA : Option Addr) (bC : Nat) (buf : List En) (g : Int → List En)
    (hm : m < ps.length) (hN : NodesAt B w (some ⟨b, o, none⟩) ps) (hat : PnAt w b (o + m * 5) ⟨leaf, eA, eC, ents, kA, kC, keys, dA, dC, kids, bA, bC, buf⟩) (ok : PN.ok B w ⟨leaf, eA, eC, ents, kA, kC, keys, dA, dC, kids, bA, bC, buf⟩)
    (hB : B ≤ w.heap.size) (hbl : b < B) (hX : ∀ k, X w k → B ≤ k) (hI : I w s) (hk : kids.length ≤ keys.length + 1)
    (ih : Hid (∀ d ∈ kids, ∀ (s' : σ) (w' : World), NodesAt B w' (some ⟨b, o, none⟩) ps → I w' s' → B ≤ w'.heap.size → (∀ k, X w' k → B ≤ k) →
      Calls Tryz.prog 85 #[.agg #[.slice (some ⟨b, o, none⟩) ps.length C, .int .i64 r], .int .i64 d, .int .i64 low, .int .i64 high, .func (Fn.func 96) #[] #[.pointer (some ⟨bc, 0, none⟩), .pointer (some ⟨bk, 0, none⟩)]] w'
        fun e w'' => e = .returned (.tuple #[]) ∧ I w'' ((g d).foldl step s') ∧ Turned X w' w'')) :
    Calls Tryz.prog 85 #[.agg #[.slice (some ⟨b, o, none⟩) ps.length C, .int .i64 r], .int .i64 (m : Int), .int .i64 low, .int .i64 high, .func (Fn.func 96) #[] #[.pointer (some ⟨bc, 0, none⟩), .pointer (some ⟨bk, 0, none⟩)]] w
      fun e w' => e = .returned (.tuple #[]) ∧ I w' ((buf.filter (inR low high) ++ ents.filter (inR low high) ++ WlK g low high kids keys none).foldl step s) ∧ Turned X w w' := by
  have hz := hN.z
  obtain ⟨c0, c1, c2, c3, c4⟩ := hat
  simp only at c0 c1 c2 c3 c4
  obtain ⟨e1, k1, t1, f1, -, -, -, -, ez, kz, dz, fz⟩ := ok
  simp only at e1 k1 t1 f1 ez kz dz fz
  have hbw : b < w.heap.size := by omega
  have HI : Hid (I w s) := hI
  have HX : Hid (∀ k, X w k → B ≤ k) := hX
  clear hI hX
  go_enter Tryz.func85, Tryz.ntmps85
  go_wp2_with fail
  obtain ⟨rb, rx, zz⟩ := two_rows (v := w) (l1 := [.slice (some ⟨b, o, none⟩) ps.length C, .int .i64 r]) (l2 := [.bool leaf, .slice eA ents.length eC, .slice kA keys.length kC, .slice dA kids.length dC, .slice bA buf.length bC]) (t1 := 25) (t2 := 112) (Below.refl _ _) rfl
  have hb01 : Below w.heap.size w ((w.alloc (.cells #[.slice (some ⟨b, o, none⟩) ps.length C, .int .i64 r] 25)).alloc (.cells #[.bool leaf, .slice eA ents.length eC, .slice kA keys.length kC, .slice dA kids.length dC, .slice bA buf.length bC] 112)) := two _ _
  simp only [List.toArray] at rb rx zz
  generalize ((w.alloc (.cells #[.slice (some ⟨b, o, none⟩) ps.length C, .int .i64 r] 25)).alloc (.cells #[.bool leaf, .slice eA ents.length eC, .slice kA keys.length kC, .slice dA kids.length dC, .slice bA buf.length bC] 112)) = w1 at *
  have I1 : Hid (I w1 s) := V.out.stay _ _ _ HI.out hb01
  have X1 : Hid (∀ k, X w1 k → X w k) := V.out.same _ _ _ HI.out hb01
  have T01 : Turned X w w1 := Turned.of_below hb01 X1.out
  have nb : Hid (¬ X w1 w.heap.size) := fun h => by have := V.out.lt _ _ HI.out _ (X1.out _ h); omega
  have nx : Hid (¬ X w1 (w.heap.size + 1)) := fun h => by have := V.out.lt _ _ HI.out _ (X1.out _ h); omega
  clear hb01 c0 c1 c2 c3 c4
  have i0 : ∀ (x y : Value) (w : World), (Instr.index 145 (.agg #[x, y]) (.int .i64 0)).run Tryz.prog w = .ok x w := fun _ _ _ => by kernel_rfl
  have i1 : ∀ (x y : Value) (w : World), (Instr.index 145 (.agg #[x, y]) (.int .i64 1)).run Tryz.prog w = .ok y w := fun _ _ _ => by kernel_rfl
  go_loopw [29] (fun vi wr => ∃ i : Nat, i ≤ 2 ∧ vi = .int .i64 i ∧ Hid (I wr ((if i = 0 then [] else if i = 1 then buf.filter (inR low high) else buf.filter (inR low high) ++ ents.filter (inR low high)).foldl step s)) ∧ Turned X w1 wr) (fun vi _ => 2 - (intOf vi).toNat)
  case atStart => exact ⟨0, by omega, rfl, I1, Turned.refl _ _⟩
  case round =>
    obtain ⟨i, hi, hv, HIr, htr⟩ := hrel
    rcases (show i = 0 ∨ i = 1 ∨ i = 2 by omega) with rfl | rfl | rfl
    · obtain rfl : _ = Value.int .i64 0 := hv
      simp only [if_true] at HIr
      go_wp2_with fail
      go_loopw [34] (fun vk wi => ∃ k : Nat, k ≤ buf.length ∧ vk = .int .i64 k ∧ Hid (I wi (([] ++ (buf.take k).filter (inR low high)).foldl step s)) ∧ Turned X w1 wi) (fun vk _ => buf.length - (intOf vk).toNat)
      case atStart => exact ⟨0, Nat.zero_le _, rfl, (by show I _ _; simpa using HIr.out), htr⟩
      case round =>
        clear HIr htr
        obtain ⟨k, hkl, rfl, HIr, htr⟩ := hrel
        have hTw : Turned X w wr := T01.trans htr
        have hBb : Below B w wr := hTw.below hB HX.out
        have hsz := hTw.size
        by_cases hlt : k < buf.length
        · obtain ⟨qb, qo, rfl, hqb, hqe⟩ := (f1.below hBb (Nat.le_refl _)).en hlt
          obtain ⟨y, hy⟩ : ∃ y, buf[k] = y := ⟨_, rfl⟩
          rw [hy] at hqe
          obtain ⟨q0, q1, q2, q3, q4, q5, q6⟩ := hqe
          have hqr : qb < wr.heap.size := by omega
          have HT : Hid ((buf.take (k + 1)).filter (inR low high) = (buf.take k).filter (inR low high) ++ if inR low high y = true then [y] else []) := by
            show _ = _
            rw [List.take_succ_eq_append_getElem hlt, List.filter_append, hy]
            by_cases h : inR low high y = true <;> simp [h]
          clear hy
          have hbA : ∀ o : Obj, Below wr.heap.size wr (wr.alloc o) := fun o => (Below.refl _ _).alloc (Nat.le_refl _) o
          by_cases hq : inR low high y = true
          · have hq' : low ≤ y.key ∧ y.key < high := by simpa [inR] using hq
            go_wp2_with (go_at_call 96; refine (V.out.call y _ _ (V.out.stay _ _ _ HIr.out (hbA _))).mono ?_; rintro e w2 ⟨rfl, hI2, ht2⟩)
            refine ⟨⟨k + 1, hlt, by go_num, ?_, htr.trans ((Turned.of_below (hbA _) (V.out.same _ _ _ HIr.out (hbA _))).trans ht2)⟩, by simp only [intOf]; omega⟩
            show I _ _
            rw [HT.out, if_pos hq, ← List.append_assoc, List.foldl_append]
            exact hI2
          · have hq' : ¬ (low ≤ y.key ∧ y.key < high) := by simpa [inR] using hq
            go_wp2_with fail
            all_goals (refine ⟨⟨k + 1, hlt, by go_num, ?_, htr.trans (Turned.of_below (hbA _) (V.out.same _ _ _ HIr.out (hbA _)))⟩, by simp only [intOf]; omega⟩; show I _ _; rw [HT.out, if_neg hq, List.append_nil]; exact V.out.stay _ _ _ HIr.out (hbA _))
        · go_wp2_with fail
          have hke : k = buf.length := by omega
          refine ⟨⟨0 + 1, by omega, rfl, ?_, htr⟩, by decide⟩
          show I _ _
          have q := HIr.out
          rw [hke, List.take_length] at q
          simpa using q
    · obtain rfl : _ = Value.int .i64 1 := hv
      simp only [if_true, Nat.one_ne_zero, if_false] at HIr
      go_wp2_with fail
      go_loopw [34] (fun vk wi => ∃ k : Nat, k ≤ ents.length ∧ vk = .int .i64 k ∧ Hid (I wi ((buf.filter (inR low high) ++ (ents.take k).filter (inR low high)).foldl step s)) ∧ Turned X w1 wi) (fun vk _ => ents.length - (intOf vk).toNat)
      case atStart => exact ⟨0, Nat.zero_le _, rfl, (by show I _ _; simpa using HIr.out), htr⟩
      case round =>
        clear HIr htr
        obtain ⟨k, hkl, rfl, HIr, htr⟩ := hrel
        have hTw : Turned X w wr := T01.trans htr
        have hBb : Below B w wr := hTw.below hB HX.out
        have hsz := hTw.size
        by_cases hlt : k < ents.length
        · obtain ⟨qb, qo, rfl, hqb, hqe⟩ := (e1.below hBb (Nat.le_refl _)).en hlt
          obtain ⟨y, hy⟩ : ∃ y, ents[k] = y := ⟨_, rfl⟩
          rw [hy] at hqe
          obtain ⟨q0, q1, q2, q3, q4, q5, q6⟩ := hqe
          have hqr : qb < wr.heap.size := by omega
          have HT : Hid ((ents.take (k + 1)).filter (inR low high) = (ents.take k).filter (inR low high) ++ if inR low high y = true then [y] else []) := by
            show _ = _
            rw [List.take_succ_eq_append_getElem hlt, List.filter_append, hy]
            by_cases h : inR low high y = true <;> simp [h]
          clear hy
          have hbA : ∀ o : Obj, Below wr.heap.size wr (wr.alloc o) := fun o => (Below.refl _ _).alloc (Nat.le_refl _) o
          by_cases hq : inR low high y = true
          · have hq' : low ≤ y.key ∧ y.key < high := by simpa [inR] using hq
            go_wp2_with (go_at_call 96; refine (V.out.call y _ _ (V.out.stay _ _ _ HIr.out (hbA _))).mono ?_; rintro e w2 ⟨rfl, hI2, ht2⟩)
            refine ⟨⟨k + 1, hlt, by go_num, ?_, htr.trans ((Turned.of_below (hbA _) (V.out.same _ _ _ HIr.out (hbA _))).trans ht2)⟩, by simp only [intOf]; omega⟩
            show I _ _
            rw [HT.out, if_pos hq, ← List.append_assoc, List.foldl_append]
            exact hI2
          · have hq' : ¬ (low ≤ y.key ∧ y.key < high) := by simpa [inR] using hq
            go_wp2_with fail
            all_goals (refine ⟨⟨k + 1, hlt, by go_num, ?_, htr.trans (Turned.of_below (hbA _) (V.out.same _ _ _ HIr.out (hbA _)))⟩, by simp only [intOf]; omega⟩; show I _ _; rw [HT.out, if_neg hq, List.append_nil]; exact V.out.stay _ _ _ HIr.out (hbA _))
        · go_wp2_with fail
          have hke : k = ents.length := by omega
          refine ⟨⟨1 + 1, by omega, rfl, ?_, htr⟩, by decide⟩
          show I _ _
          have q := HIr.out
          rw [hke, List.take_length] at q
          simpa using q
    · obtain rfl : _ = Value.int .i64 2 := hv
      simp only [show ¬ (2 = 0) by decide, show ¬ (2 = 1) by decide, if_false] at HIr
      have rx' := htr.row rx nx.out
      have y3 := rx'.cell 3
      simp only [List.getElem?_cons_zero, List.getElem?_cons_succ] at y3
      have hxl := rx'.lt
      have w2e : ∃ w2, w2 = wr := ⟨_, rfl⟩
      obtain ⟨w2, hw2⟩ := w2e
      have H2 : Hid (I w2 ((buf.filter (inR low high) ++ ents.filter (inR low high)).foldl step s)) := by rw [hw2]; exact HIr
      have T2 : Turned X w1 w2 := by rw [hw2]; exact htr
      go_wp2_with fail
      clear y3 hxl rx'
      rw [← hw2]
      go_loopw [56] (fun vi wk => ∃ i : Nat, i ≤ kids.length ∧ vi = .int .i64 i ∧ Hid (I wk ((buf.filter (inR low high) ++ ents.filter (inR low high) ++ (List.range i).flatMap (itK g low high kids keys none)).foldl step s)) ∧ Turned X w1 wk) (fun vi _ => kids.length - (intOf vi).toNat)
      case atStart => exact ⟨0, Nat.zero_le _, rfl, (by show I _ _; simpa using H2.out), T2⟩
      case round =>
        clear HIr htr H2 T2 hw2 w2
        obtain ⟨i, hi, rfl, HIr, htr⟩ := hrel
        have hTw : Turned X w wr := T01.trans htr
        have hBb : Below B w wr := hTw.below hB HX.out
        have hsz := hTw.size
        have hsz1 := htr.size
        have rb' := htr.row rb nb.out
        have rx' := htr.row rx nx.out
        have y0 := rb'.cell 0
        have y1 := rb'.cell 1
        have y2 := rx'.cell 2
        have y3 := rx'.cell 3
        simp only [List.getElem?_cons_zero, List.getElem?_cons_succ] at y0 y1 y2 y3
        have hxl := rx'.lt
        have hBr : B ≤ wr.heap.size := by omega
        have hwl : w.heap.size < wr.heap.size := by omega
        have HNr : Hid (NodesAt B wr (some ⟨b, o, none⟩) ps) := hN.below hBb (Nat.le_refl _)
        have HXr : Hid (∀ k, X wr k → B ≤ k) := hTw.far hB HX.out
        by_cases hlt : i < kids.length
        · obtain ⟨qb, qo, rfl, hqb, hqc⟩ := (t1.below hBb (Nat.le_refl _)).int hlt
          obtain ⟨kd, hkd⟩ : ∃ kd, kids[i] = kd := ⟨_, rfl⟩
          have con := fun w' (h1 : NodesAt B w' (some ⟨b, o, none⟩) ps) h2 h3 h4 => ih.out kd (by rw [← hkd]; exact List.getElem_mem hlt) ((buf.filter (inR low high) ++ ents.filter (inR low high) ++ (List.range i).flatMap (itK g low high kids keys none)).foldl step s) w' h1 h2 h3 h4
          rw [hkd] at hqc
          have hqr : qb < wr.heap.size := by omega
          have HT : Hid ((List.range (i + 1)).flatMap (itK g low high kids keys none) = (List.range i).flatMap (itK g low high kids keys none) ++ itK g low high kids keys none i) := by
            show _ = _
            rw [List.range_succ, List.flatMap_append]
            simp
          have HE : Hid (itK g low high kids keys none i = if skipB low high (if i = 0 then none else keys[i - 1]?) keys[i]? = true then [] else g kd) := by
            show _ = _
            unfold itK
            rw [← hkd, List.getD_eq_getElem?_getD, List.getElem?_eq_getElem hlt]
            rfl
          clear hkd ih
          cases i with
          | zero =>
            by_cases hkk : 0 < keys.length
            · obtain ⟨zb, zo, rfl, hzb, hzc⟩ := (k1.below hBb (Nat.le_refl _)).int hkk
              obtain ⟨nk, hnk⟩ : ∃ nk, keys[0] = nk := ⟨_, rfl⟩
              rw [hnk] at hzc
              have hzr : zb < wr.heap.size := by omega
              have hn : keys[0]? = some nk := by rw [List.getElem?_eq_getElem hkk, hnk]
              simp only [Nat.add_zero] at hzc hqc
              have HE' : Hid (itK g low high kids keys none 0 = if nk ≤ low then [] else g kd) := by
                show _ = _
                rw [HE.out]
                simp [skipB, hn]
              clear HE
              by_cases hc : nk ≤ low
              · go_wp2_with fail
                all_goals (refine ⟨⟨0 + 1, hlt, by go_num, ?_, htr⟩, by simp only [intOf]; omega⟩; show I _ _; rw [HT.out, HE'.out, if_pos hc, List.append_nil]; exact HIr.out)
              · go_wp2_with (go_at_call 85; refine (con _ ?_ ?_ ?_ ?_).mono ?_; exact HNr.out; exact HIr.out; exact hBr; exact HXr.out; rintro e w2 ⟨rfl, hI2, ht2⟩)
                refine ⟨⟨0 + 1, hlt, by go_num, ?_, htr.trans ht2⟩, by simp only [intOf]; omega⟩
                show I _ _
                rw [HT.out, HE'.out, if_neg (by omega), ← List.append_assoc, List.foldl_append]
                exact hI2
            · have hn : keys[0]? = none := List.getElem?_eq_none (by omega)
              have hk1 : (keys.length : Int) < 1 := by omega
              clear hkk
              simp only [Nat.add_zero] at hqc
              have HE' : Hid (itK g low high kids keys none 0 = g kd) := by
                show _ = _
                rw [HE.out]
                simp [skipB, hn]
              clear HE
              go_wp2_with (go_at_call 85; refine (con _ ?_ ?_ ?_ ?_).mono ?_; exact HNr.out; exact HIr.out; exact hBr; exact HXr.out; rintro e w2 ⟨rfl, hI2, ht2⟩)
              refine ⟨⟨0 + 1, hlt, by go_num, ?_, htr.trans ht2⟩, by simp only [intOf]; omega⟩
              show I _ _
              rw [HT.out, HE'.out, ← List.append_assoc, List.foldl_append]
              exact hI2
          | succ j =>
            have hjk : j < keys.length := by omega
            obtain ⟨zb, zo, rfl, hzb, hzp⟩ := (k1.below hBb (Nat.le_refl _)).int hjk
            obtain ⟨pv, hpv⟩ : ∃ pv, keys[j] = pv := ⟨_, rfl⟩
            rw [hpv] at hzp
            have hzr : zb < wr.heap.size := by omega
            have hp : keys[j]? = some pv := by rw [List.getElem?_eq_getElem hjk, hpv]
            by_cases hkk : j + 1 < keys.length
            · obtain ⟨zb', zo', hzz, _, hzc⟩ := (k1.below hBb (Nat.le_refl _)).int hkk
              obtain ⟨rfl, rfl⟩ : zb = zb' ∧ zo = zo' := by simpa using hzz
              obtain ⟨nk, hnk⟩ : ∃ nk, keys[j + 1] = nk := ⟨_, rfl⟩
              rw [hnk] at hzc
              have hn : keys[j + 1]? = some nk := by rw [List.getElem?_eq_getElem hkk, hnk]
              have HE' : Hid (itK g low high kids keys none (j + 1) = if high ≤ pv ∨ nk ≤ low then [] else g kd) := by
                show _ = _
                rw [HE.out]
                simp [skipB, hn, hp]
              clear HE
              by_cases hc : high ≤ pv ∨ nk ≤ low
              · have HC : Hid (high ≤ pv ∨ nk ≤ low) := hc
                by_cases hc1 : high ≤ pv <;> by_cases hc2 : nk ≤ low <;> (try (exfalso; omega)) <;> clear hc
                all_goals go_wp2_with fail
                all_goals (refine ⟨⟨j + 1 + 1, hlt, by go_num, ?_, htr⟩, by simp only [intOf]; omega⟩; show I _ _; rw [HT.out, HE'.out, if_pos HC.out, List.append_nil]; exact HIr.out)
              · have hc1 : ¬ high ≤ pv := by omega
                have hc2 : ¬ nk ≤ low := by omega
                have HC : Hid (¬ (high ≤ pv ∨ nk ≤ low)) := hc
                clear hc
                go_wp2_with (go_at_call 85; refine (con _ ?_ ?_ ?_ ?_).mono ?_; exact HNr.out; exact HIr.out; exact hBr; exact HXr.out; rintro e w2 ⟨rfl, hI2, ht2⟩)
                refine ⟨⟨j + 1 + 1, hlt, by go_num, ?_, htr.trans ht2⟩, by simp only [intOf]; omega⟩
                show I _ _
                rw [HT.out, HE'.out, if_neg HC.out, ← List.append_assoc, List.foldl_append]
                exact hI2
            · have hn : keys[j + 1]? = none := List.getElem?_eq_none (by omega)
              have HE' : Hid (itK g low high kids keys none (j + 1) = if high ≤ pv then [] else g kd) := by
                show _ = _
                rw [HE.out]
                simp [skipB, hn, hp]
              clear HE
              by_cases hc : high ≤ pv
              · go_wp2_with fail
                all_goals (refine ⟨⟨j + 1 + 1, hlt, by go_num, ?_, htr⟩, by simp only [intOf]; omega⟩; show I _ _; rw [HT.out, HE'.out, if_pos hc, List.append_nil]; exact HIr.out)
              · go_wp2_with (go_at_call 85; refine (con _ ?_ ?_ ?_ ?_).mono ?_; exact HNr.out; exact HIr.out; exact hBr; exact HXr.out; rintro e w2 ⟨rfl, hI2, ht2⟩)
                refine ⟨⟨j + 1 + 1, hlt, by go_num, ?_, htr.trans ht2⟩, by simp only [intOf]; omega⟩
                show I _ _
                rw [HT.out, HE'.out, if_neg (by omega), ← List.append_assoc, List.foldl_append]
                exact hI2
        · have hie : i = kids.length := by omega
          go_wp2_with fail
          go_end0
          refine ⟨rfl, ?_, hTw⟩
          rw [WlK_range, ← hie]
          exact HIr.out
end Go.Proofs.YtlojfgdpmaigmaeGreatDoor

/- The program's walk over a tree: all of it; and what knownAt makes of it. -/
namespace Go.Proofs.YtlojfgdpmaigmaeGreatDoor
open Go.RowKit Plain

theorem walk_any {σ : Type} {I : World → σ → Prop} {X : World → Nat → Prop} {step : σ → En → σ} (bk bc : Nat) (V : Vis 96 #[.pointer (some ⟨bc, 0, none⟩), .pointer (some ⟨bk, 0, none⟩)] I X step)
    (A : Option Addr) (C : Nat) (r : Int) (ps : List PN) (B : Nat) (low high : Int) : ∀ (f : Nat) (n : Int) (s : σ) (w : World), Reach (ps.map PN.nd) f n → NodesAt B w A ps → I w s → B ≤ w.heap.size → (∀ k, X w k → B ≤ k) →
    Calls Tryz.prog 85 #[.agg #[.slice A ps.length C, .int .i64 r], .int .i64 n, .int .i64 low, .int .i64 high, .func (Fn.func 96) #[] #[.pointer (some ⟨bc, 0, none⟩), .pointer (some ⟨bk, 0, none⟩)]] w
      fun e w' => e = .returned (.tuple #[]) ∧ I w' ((Wl (ps.map PN.nd) low high f n).foldl step s) ∧ Turned X w w' := by
  intro f
  induction f with
  | zero => intro n s w h; exact h.elim
  | succ f ih =>
    intro n s w hr hN hI hB hX
    obtain ⟨h0, h1, h2, h3⟩ := hr
    simp only [List.length_map] at h1
    obtain ⟨m, rfl⟩ : ∃ m : Nat, n = m := ⟨n.toNat, by omega⟩
    have hm : m < ps.length := by omega
    obtain ⟨b, o, rfl, hbl, hat⟩ := hN.row.pn hm
    have ok := hN.each m hm
    have hg : (ps.map PN.nd).getD m default = (ps[m]).nd := by simp [hm]
    simp only [Int.toNat_natCast, hg] at h2 h3
    have e : Wl (ps.map PN.nd) low high (f + 1) (m : Int) = (ps[m]).buf.filter (inR low high) ++ (ps[m]).ents.filter (inR low high) ++ WlK (Wl (ps.map PN.nd) low high f) low high (ps[m]).kids (ps[m]).keys none := by
      rw [Wl]
      simp only [Int.toNat_natCast, hg]
      rfl
    rw [e]
    exact walk_step bk bc V b o C r ps m B low high s w _ _ _ _ _ _ _ _ _ _ _ _ _ (Wl (ps.map PN.nd) low high f) hm hN hat ok hB hbl hX hI h2 (fun d hd s' w' a1 a2 a3 a4 => ih d s' w' (h3 d hd) a1 a2 a3 a4)

end Go.Proofs.YtlojfgdpmaigmaeGreatDoor

/- Entries that may be (P2.1): the document's test. -/
import Derived.Test.YtlojfgdpmaigmacP03
import Derived.BigQuiet
import Derived.Test.YtlojfgdpmaigmacP02
import Derived.Shelf.Lays2
import Derived.Shelf.SlLaysC2
import Derived.Shelf.SlLaysF0
import Derived.Test.YtlojfgdpmaigmacProg
import Derived.Test.YtlojfgdpmaigmacPartWalk
import Derived.Deep.AppendLies
import Derived.Shelf.Spec.SlicesInsertGrow
namespace Go.Proofs.Ytlojfgdpmaigmac
open Go.RowKit Plain

theorem below_drewN {B : Nat} {w w' : World} (h : Below B w w') (n : Nat) : Below B w (w'.drewN n) := ⟨h.os, h.tape, h.output, h.size, h.block⟩

end Go.Proofs.Ytlojfgdpmaigmac

/- What a call leaves as it was, some blocks apart; which nodes have been seen. -/
namespace Go.Proofs.Ytlojfgdpmaigmac
open Go.RowKit Plain

/-- w' is w with new blocks, and with writes to the blocks of ex alone. -/
structure Kept (ex : List Nat) (w w' : World) : Prop where
  os : w'.os = w.os
  tape : w'.tape = w.tape
  output : w'.output = w.output
  size : w.heap.size ≤ w'.heap.size
  block : ∀ k, k < w.heap.size → k ∉ ex → w'.heap[k]? = w.heap[k]?

section
variable {ex : List Nat} {w w' w'' : World}

theorem Kept.refl (ex : List Nat) (w : World) : Kept ex w w := ⟨rfl, rfl, rfl, Nat.le_refl _, fun _ _ _ => rfl⟩
theorem Kept.trans (h : Kept ex w w') (k : Kept ex w' w'') : Kept ex w w'' :=
  ⟨k.os.trans h.os, k.tape.trans h.tape, k.output.trans h.output, Nat.le_trans h.size k.size, fun i hi hx => (k.block i (Nat.lt_of_lt_of_le hi h.size) hx).trans (h.block i hi hx)⟩
theorem Kept.alloc (h : Kept ex w w') (o : Obj) : Kept ex w (w'.alloc o) :=
  h.trans ⟨rfl, rfl, rfl, by simp, fun k hk _ => Below.heap_alloc _ _ _ hk⟩
theorem Kept.set (h : Kept ex w w') {b j : Nat} (hb : b ∈ ex ∨ w.heap.size ≤ b) (v : Value) : Kept ex w (w'.setCell ⟨b, j, none⟩ v) :=
  ⟨h.os, h.tape, h.output, by simpa using h.size, fun k hk hx => (Below.heap_setCell _ _ _ _ (by rintro rfl; rcases hb with hb | hb; exact hx hb; omega)).trans (h.block k hk hx)⟩
theorem Kept.drew (h : Kept ex w w') : Kept ex w w'.drew := ⟨h.os, h.tape, h.output, h.size, h.block⟩
theorem Kept.drewN (h : Kept ex w w') (n : Nat) : Kept ex w (w'.drewN n) := ⟨h.os, h.tape, h.output, h.size, h.block⟩
theorem Kept.of_below (h : Below w.heap.size w w') : Kept ex w w' := ⟨h.os, h.tape, h.output, h.size, fun k hk _ => h.block k hk⟩
theorem Kept.below (h : Kept ex w w') {B : Nat} (hB : B ≤ w.heap.size) (hx : ∀ x ∈ ex, B ≤ x) : Below B w w' :=
  ⟨h.os, h.tape, h.output, h.size, fun k hk => h.block k (by omega) (fun hm => by have := hx k hm; omega)⟩
theorem Kept.cell (h : Kept ex w w') {b : Nat} (o : Nat) (hb : b < w.heap.size) (hx : b ∉ ex) : w'.cell? ⟨b, o, none⟩ = w.cell? ⟨b, o, none⟩ :=
  World.cell?_of_block (w := w) (a := ⟨b, o, none⟩) (h.block b hb hx)
theorem Kept.row (h : Kept ex w w') {b : Nat} {t : TypeId} {vs : List Value} (hr : RowL w b t vs) (hx : b ∉ ex) : RowL w' b t vs := hr.of_block (h.block b hr.lt hx)
end

theorem two_rows {v w2 : World} {l1 l2 : List Value} {t1 t2 : TypeId} (hb : Below ((v.alloc (.cells l1.toArray t1)).alloc (.cells l2.toArray t2)).heap.size ((v.alloc (.cells l1.toArray t1)).alloc (.cells l2.toArray t2)) w2) {n : Nat} (hn : n = v.heap.size) :
    RowL w2 n t1 l1 ∧ RowL w2 (n + 1) t2 l2 ∧ n + 1 < w2.heap.size := by
  subst hn
  have s1 : (v.alloc (.cells l1.toArray t1)).heap.size = v.heap.size + 1 := by simp
  have s2 : ((v.alloc (.cells l1.toArray t1)).alloc (.cells l2.toArray t2)).heap.size = v.heap.size + 2 := by simp
  have r1 : RowL ((v.alloc (.cells l1.toArray t1)).alloc (.cells l2.toArray t2)) v.heap.size t1 l1 := (rowL_alloc v l1 t1).of_block (Below.heap_alloc _ _ _ (by omega))
  have r2 : RowL ((v.alloc (.cells l1.toArray t1)).alloc (.cells l2.toArray t2)) (v.heap.size + 1) t2 l2 := by
    have := rowL_alloc (v.alloc (.cells l1.toArray t1)) l2 t2
    rwa [s1] at this
  have hs := hb.size
  exact ⟨r1.below hb (by omega), r2.below hb (by omega), by omega⟩

def SeenIs (w : World) (sb N : Nat) (S : St) : Prop := w.rowIs sb 3 N (fun i => .int .i64 (if seenB S (i : Int) = true then 1 else 0))

theorem SeenIs.set {w : World} {sb N m : Nat} {S : St} (h : SeenIs w sb N S) (d : Int) : SeenIs (w.setCell ⟨sb, m, none⟩ (.int .i64 1)) sb N (((m : Int), d) :: S) := by
  refine (World.rowIs.set h m (.int .i64 1)).congr fun i _ => ?_
  by_cases e : i = m
  · subst e; simp [seenB]
  · have hn : seenB (((m : Int), d) :: S) (i : Int) = seenB S (i : Int) := by
      unfold seenB
      rw [List.any_cons, show ((((m : Int), d) : Int × Int).1 == (i : Int)) = false by simp; omega, Bool.false_or]
    simp only [e, if_false, hn]

theorem SeenIs.kept {w w' : World} {sb N : Nat} {S : St} (h : SeenIs w sb N S) (hk : w'.heap[sb]? = w.heap[sb]?) : SeenIs w' sb N S := World.rowIs.of_block h hk

theorem W_succ (ns : List Nd) (f : Nat) (n low high : Int) (S : St) : W ns (f + 1) n low high S =
    if n < 0 ∨ (ns.length : Int) ≤ n ∨ high ≤ low ∨ seenB S n = true then none
    else if (ns.getD n.toNat default).leaf = true then
      (if leafB (ns.getD n.toNat default) low high f = true then some ((n, 12 - (f : Int)) :: S, [12 - (f : Int)]) else none)
    else if innerB (ns.getD n.toNat default) low high = true then Wk (W ns f) (ns.getD n.toNat default).kids (ns.getD n.toNat default).keys low high ((n, 12 - (f : Int)) :: S)
    else none := rfl

theorem W_out {ns : List Nd} {f : Nat} {n low high : Int} {S : St} (h : n < 0 ∨ (ns.length : Int) ≤ n ∨ high ≤ low ∨ seenB S n = true) : W ns f n low high S = none := by
  cases f with
  | zero => rfl
  | succ f => rw [W_succ, if_pos h]

theorem W_leaf {ns : List Nd} {f m : Nat} {low high : Int} {S : St} {x : Nd} (hm : m < ns.length) (hx : ns[m] = x) (hlh : low < high) (hs : seenB S m = false) (hl : x.leaf = true) :
    W ns (f + 1) m low high S = if leafB x low high f = true then some (((m : Int), 12 - (f : Int)) :: S, [12 - (f : Int)]) else none := by
  have hg : ns.getD m default = x := by simp [hm, hx]
  rw [W_succ, if_neg (by simp [hs]; omega)]
  simp only [Int.toNat_natCast, hg, hl, if_true]

theorem W_inner {ns : List Nd} {f m : Nat} {low high : Int} {S : St} {x : Nd} (hm : m < ns.length) (hx : ns[m] = x) (hlh : low < high) (hs : seenB S m = false) (hl : x.leaf = false) :
    W ns (f + 1) m low high S = if innerB x low high = true then Wk (W ns f) x.kids x.keys low high (((m : Int), 12 - (f : Int)) :: S) else none := by
  have hg : ns.getD m default = x := by simp [hm, hx]
  rw [W_succ, if_neg (by simp [hs]; omega)]
  simp only [Int.toNat_natCast, hg, hl, Bool.false_eq_true, if_false]

end Go.Proofs.Ytlojfgdpmaigmac

/- Roots above roots, till one is enough; and what Check tells of the tree then. -/
namespace Go.Proofs.Ytlojfgdpmaigmac
open Go.RowKit Plain

def newRoot (root : Int) (more : List (Int × Int)) : Nd := ⟨false, [], more.map (·.1), root :: more.map (·.2), []⟩

def growN : Nat → List Nd → Int → List (Int × Int) → List Nd × Int
  | 0, ns, root, _ => (ns, root)
  | f + 1, ns, root, more =>
    if more = [] then (ns, root)
    else growN f (splitN (ns ++ [newRoot root more]) ns.length).1 ns.length (splitN (ns ++ [newRoot root more]) ns.length).2

/-- Nodes in a row, above all others. -/
structure RowOk (ns : List Nd) (h : Nat) (root : Int) (more : List (Int × Int)) : Prop where
  sub : ∃ Q, SubK (Sub 6 4 ns h) 0 (ups (root :: more.map (·.2)) (more.map (·.1)) 1099511627776) Q ∧ Q.Perm (placesF 0 ns.length)

theorem nth_last (ns : List Nd) (x : Nd) : nth (ns ++ [x]) (ns.length : Int) = x := by
  unfold nth
  simp

theorem splitN_more (ns : List Nd) (root : Int) (more : List (Int × Int)) : (splitN (ns ++ [newRoot root more]) ns.length).2.length = (more.length + 4) / 4 - 1 ∧ (splitN (ns ++ [newRoot root more]) ns.length).1.length = ns.length + (more.length + 4) / 4 := by
  unfold splitN
  rw [nth_last]
  have hs : sizeN (newRoot root more) = more.length + 1 := by simp [sizeN, newRoot]
  have hm : mostN (newRoot root more) = 4 := by simp [mostN, newRoot]
  have hp : partsN (newRoot root more) = (more.length + 4) / 4 := by
    rw [partsN, hs, hm]
    congr 1
  split
  · rename_i h
    rw [hs, hm] at h
    simp
    omega
  · rename_i h
    rw [hs, hm] at h
    have hc : (cutsN (newRoot root more)).length = (more.length + 4) / 4 := by unfold cutsN; rw [cutsF_length, hp]
    constructor
    · simp only [List.length_zip, keysL_length, hc, placesF_length, hp]
      omega
    · simp only [List.length_append, List.length_set, List.length_tail, partsL_length, hc, List.length_cons, List.length_nil]
      omega

theorem row_step {ns : List Nd} {h : Nat} {root : Int} {more : List (Int × Int)} (hr : RowOk ns h root more) (hm : more ≠ []) :
    RowOk (splitN (ns ++ [newRoot root more]) ns.length).1 (h + 1) ns.length (splitN (ns ++ [newRoot root more]) ns.length).2 ∧ ((splitN (ns ++ [newRoot root more]) ns.length).1.flatMap cont).Perm (ns.flatMap cont) := by
  obtain ⟨Q, hQ, hp⟩ := hr.sub
  have hml : 1 ≤ more.length := by cases more with | nil => exact absurd rfl hm | cons => simp
  have hkl : (more.map (·.1)).length + 1 = (root :: more.map (·.2)).length := by simp
  have hlt : (0 : Int) < 1099511627776 := by decide
  have hQ' : SubK (Sub 6 4 (ns ++ [newRoot root more]) h) 0 (ups (root :: more.map (·.2)) (more.map (·.1)) 1099511627776) Q :=
    SubK_imp hQ fun d lo hi Q1 a b => Sub_congr h d lo hi Q1 a fun n hn => by
      have hm := placesF_mem.1 (hp.mem_iff.1 (b n hn))
      exact ⟨nth_append_left (by omega) (by omega), by simp; omega⟩
  have htop : Top 0 (more.length + 1) (ns ++ [newRoot root more]) (h + 1) ns.length 0 1099511627776 ((ns.length : Int) :: Q) := by
    refine ⟨⟨by omega, by simp; omega, hlt⟩, Q, rfl, ?_⟩
    rw [nth_last]
    exact ⟨rfl, rfl, by simp [newRoot]; omega, by simp [newRoot], by simp [newRoot], by simp [newRoot], rfl, hQ'⟩
  have hpl : ((ns.length : Int) :: Q).Perm (placesF 0 (ns.length + 1)) := by
    rw [placesF_append]
    refine (hp.cons _).trans ?_
    show ((ns.length : Int) :: placesF 0 ns.length).Perm (placesF 0 ns.length ++ placesF (0 + ns.length) 1)
    rw [Nat.zero_add]
    exact (List.perm_append_comm (l₁ := [(ns.length : Int)]) (l₂ := placesF 0 ns.length))
  have hnd : ((ns.length : Int) :: Q).Nodup := hpl.nodup_iff.2 (placesF_nodup _ _)
  have hs := split_ok htop hnd
  obtain ⟨Q', h1, h2⟩ := hs.sub
  refine ⟨⟨Q', h1, h2.trans ?_⟩, hs.cont.trans ?_⟩
  · have hle := hs.le
    rw [show (splitN (ns ++ [newRoot root more]) ns.length).1.length = (ns.length + 1) + ((splitN (ns ++ [newRoot root more]) ns.length).1.length - (ns ++ [newRoot root more]).length) by simp at hle ⊢; omega, placesF_append]
    have e : (ns ++ [newRoot root more]).length = 0 + (ns.length + 1) := by simp
    rw [e]
    refine (hpl.append_right _).trans ?_
    exact List.Perm.of_eq (by congr 2; simp at hle; omega)
  · simp [cont, newRoot]

theorem grow_ok : ∀ (f : Nat) {ns : List Nd} {h : Nat} {root : Int} {more : List (Int × Int)}, more.length ≤ f → RowOk ns h root more →
    (∃ h' Q, Sub 6 4 (growN f ns root more).1 h' (growN f ns root more).2 0 1099511627776 Q ∧ Q.Perm (placesF 0 (growN f ns root more).1.length)) ∧ ((growN f ns root more).1.flatMap cont).Perm (ns.flatMap cont) ∧ (growN f ns root more).1.length ≤ ns.length + more.length := by
  intro f
  induction f with
  | zero =>
    intro ns h root more hf hr
    obtain rfl : more = [] := List.eq_nil_of_length_eq_zero (by omega)
    obtain ⟨Q, ⟨Q1, Q2, rfl, h1, h2⟩, hp⟩ := hr.sub
    cases h2
    rw [List.append_nil] at hp
    exact ⟨⟨h, Q1, h1, hp⟩, List.Perm.refl _, by simp [growN]⟩
  | succ f ih =>
    intro ns h root more hf hr
    unfold growN
    split
    · rename_i hm
      subst hm
      obtain ⟨Q, ⟨Q1, Q2, rfl, h1, h2⟩, hp⟩ := hr.sub
      cases h2
      rw [List.append_nil] at hp
      exact ⟨⟨h, Q1, h1, hp⟩, List.Perm.refl _, by simp⟩
    · rename_i hm
      have hml : 1 ≤ more.length := by cases more with | nil => exact absurd rfl hm | cons => simp
      obtain ⟨hr', hc⟩ := row_step hr hm
      obtain ⟨l1, l2⟩ := splitN_more ns root more
      obtain ⟨a, b, c⟩ := ih (by rw [l1]; omega) hr'
      exact ⟨a, b.trans hc, by rw [l1, l2] at c; omega⟩

/-! ### What Check tells of it -/

theorem two_pow_succ (h : Nat) : 2 ^ (h + 1) = 2 ^ h + 2 ^ h := by rw [Nat.pow_succ]; omega

theorem Sub_size {mL mK : Nat} {ns : List Nd} : ∀ (h : Nat) (d lo hi : Int) (P : List Int), Sub mL mK ns h d lo hi P → 2 ^ (h + 1) ≤ P.length + 1
  | 0, _, _, _, _, h => by rw [h.2.1]; simp
  | h + 1, d, lo, hi, P, hs => by
    obtain ⟨_, Q, rfl, hin⟩ := hs
    have ih := Sub_size (mL := mL) (mK := mK) (ns := ns) h
    obtain ⟨kids, keys, hk1, hk2⟩ : ∃ kids keys, kids = (nth ns d).kids ∧ keys = (nth ns d).keys := ⟨_, _, rfl, rfl⟩
    have h2 := hin.two
    have h3 := hin.keys
    have h4 := hin.kids
    rw [← hk1] at h2 h3 h4
    rw [← hk2] at h3 h4
    match kids, keys, h2, h3, h4 with
    | a :: b :: r, k :: ks, _, _, h4 =>
      rw [ups_cons] at h4
      obtain ⟨Q1, Q2, rfl, g1, g2⟩ := h4
      have i1 := ih _ _ _ _ g1
      have : ∃ u r', ups (b :: r) ks hi = (b, u) :: r' := by cases ks <;> exact ⟨_, _, rfl⟩
      obtain ⟨u, r', e⟩ := this
      rw [e] at g2
      obtain ⟨Q3, Q4, rfl, g3, _⟩ := g2
      have i2 := ih _ _ _ _ g3
      rw [two_pow_succ (h + 1)]
      simp only [List.length_cons, List.length_append]
      omega

/-- What W yields where all is as it must be. -/
def Yields (S : St) (dp : Int) (P : List Int) (r : Option (St × List Int)) : Prop := ∃ S' l, r = some (S', l) ∧ (S'.map (·.1)).Perm (P ++ S.map (·.1)) ∧ l ≠ [] ∧ ∀ x ∈ l, x = dp

theorem Wk_yields {g : Int → Int → Int → St → Option (St × List Int)} {G : Rel} {dp : Int} (hg : ∀ d lo hi P S, G d lo hi P → P.Nodup → (∀ n ∈ P, n ∉ S.map (·.1)) → Yields S dp P (g d lo hi S)) :
    ∀ (kids keys : List Int) (lo hi : Int) (Q : List Int) (S : St), keys.length + 1 = kids.length → SubK G lo (ups kids keys hi) Q → Q.Nodup → (∀ n ∈ Q, n ∉ S.map (·.1)) → Yields S dp Q (Wk g kids keys lo hi S)
  | [], _, _, _, _, _, h, _, _, _ => by simp at h
  | [d], keys, lo, hi, Q, S, hl, hs, hn, hd => by
    obtain rfl : keys = [] := List.eq_nil_of_length_eq_zero (by simpa using hl)
    obtain ⟨Q1, Q2, rfl, h1, h2⟩ := hs
    cases h2
    rw [List.append_nil] at hn hd ⊢
    obtain ⟨S', l, e, hp, hne, ha⟩ := hg d lo hi Q1 S h1 hn hd
    refine ⟨S', l, ?_, hp, hne, ha⟩
    simp [Wk, e]
  | d :: d' :: ds, keys, lo, hi, Q, S, hl, hs, hn, hd => by
    cases keys with
    | nil => simp at hl
    | cons k ks =>
      rw [ups_cons] at hs
      obtain ⟨Q1, Q2, rfl, h1, h2⟩ := hs
      rw [List.nodup_append] at hn
      obtain ⟨S1, l1, e1, hp1, hne1, ha1⟩ := hg d lo k Q1 S h1 hn.1 (fun n hn' => hd n (List.mem_append_left _ hn'))
      obtain ⟨S2, l2, e2, hp2, hne2, ha2⟩ := Wk_yields hg (d' :: ds) ks k hi Q2 S1 (by simpa using hl) h2 hn.2.1 (fun n hn' hm => by
        rcases List.mem_append.1 (hp1.mem_iff.1 hm) with hm | hm
        · exact hn.2.2 n hm n hn' rfl
        · exact hd n (List.mem_append_right _ hn') hm)
      refine ⟨S2, l1 ++ l2, ?_, ?_, by simp [hne1], fun x hx => ?_⟩
      · show (match g d lo k S with | none => none | some (S1, l1) => match Wk g (d' :: ds) ks k hi S1 with | none => none | some (S2, l2) => some (S2, l1 ++ l2)) = _
        rw [e1]
        simp only
        rw [e2]
      · refine hp2.trans ((hp1.append_left Q2).trans ?_)
        rw [List.append_assoc]
        exact List.perm_append_comm_assoc _ _ _
      · rcases List.mem_append.1 hx with hx | hx
        · exact ha1 x hx
        · exact ha2 x hx

theorem Sub_W {ns : List Nd} : ∀ (h f : Nat) (n lo hi : Int) (P : List Int) (S : St), Sub 6 4 ns h n lo hi P → h < f → P.Nodup → (∀ m ∈ P, m ∉ S.map (·.1)) → Yields S (13 - (f : Int) + h) P (W ns f n lo hi S) := by
  intro h
  induction h with
  | zero =>
    intro f n lo hi P S hs hf hn hd
    obtain ⟨⟨h0, h1, hlt⟩, rfl, hl⟩ := hs
    obtain ⟨f, rfl⟩ : ∃ g, f = g + 1 := ⟨f - 1, by omega⟩
    have hseen : seenB S n = false := by
      have := hd n (by simp)
      cases hb : seenB S n with
      | false => rfl
      | true => exact absurd (seenB_iff.1 hb) this
    have hlB : leafB (nth ns n) lo hi f = true := leafB_iff.2 ⟨hl.keys, hl.kids, hl.buf, hl.most, .inr hl.ne, hl.ents⟩
    refine ⟨(n, 12 - (f : Int)) :: S, [12 - (f : Int)], ?_, by simp, by simp, by simp; omega⟩
    rw [W_succ, if_neg (by simp [hseen]; omega)]
    show (if (nth ns n).leaf = true then _ else _) = _
    rw [if_pos hl.leaf]
    show (if leafB (nth ns n) lo hi f = true then _ else _) = _
    rw [if_pos hlB]
  | succ h ih =>
    intro f n lo hi P S hs hf hn hd
    obtain ⟨⟨h0, h1, hlt⟩, Q, rfl, hl⟩ := hs
    obtain ⟨f, rfl⟩ : ∃ g, f = g + 1 := ⟨f - 1, by omega⟩
    have hseen : seenB S n = false := by
      have := hd n (by simp)
      cases hb : seenB S n with
      | false => rfl
      | true => exact absurd (seenB_iff.1 hb) this
    have hiB : innerB (nth ns n) lo hi = true := by
      simp only [innerB, Bool.and_eq_true, decide_eq_true_eq, beq_iff_eq, List.isEmpty_iff]
      exact ⟨⟨⟨⟨⟨hl.ents, hl.two⟩, hl.most⟩, hl.keys⟩, hl.few⟩, hl.buf⟩
    rw [List.nodup_cons] at hn
    obtain ⟨S', l, e, hp, hne, ha⟩ := Wk_yields (dp := 13 - (f : Int) + h) (fun d lo hi P S a b c => ih f d lo hi P S a (by omega) b c) (nth ns n).kids (nth ns n).keys lo hi Q ((n, 12 - (f : Int)) :: S) hl.keys hl.kids hn.2 (fun m hm hm' => by
      rw [List.map_cons, List.mem_cons] at hm'
      rcases hm' with rfl | hm'
      · exact hn.1 hm
      · exact hd m (List.mem_cons_of_mem _ hm) hm')
    refine ⟨S', l, ?_, hp.trans ?_, hne, fun x hx => by rw [ha x hx]; push_cast; omega⟩
    · rw [W_succ, if_neg (by simp [hseen]; omega)]
      show (if (nth ns n).leaf = true then _ else if innerB (nth ns n) lo hi = true then _ else _) = _
      rw [if_neg (by simp [hl.leaf]), if_pos hiB]
      exact e
    · rw [List.map_cons]
      exact List.perm_middle

theorem placesF_len {Q : List Int} {N : Nat} (h : Q.Perm (placesF 0 N)) : Q.length = N := by rw [h.length_eq, placesF_length]

theorem Sub_treeC {ns : List Nd} {h : Nat} {root : Int} {Q : List Int} (hs : Sub 6 4 ns h root 0 1099511627776 Q) (hp : Q.Perm (placesF 0 ns.length)) (hz : ns.length ≤ 2000) : treeC ns root = 0 := by
  have hl := placesF_len hp
  have h1 := Sub_size h _ _ _ _ hs
  have hh : h < 12 := by
    apply Classical.byContradiction
    intro e
    have : 2 ^ 13 ≤ 2 ^ (h + 1) := Nat.pow_le_pow_right (by decide) (by omega)
    omega
  obtain ⟨S', l, e, hpm, hne, ha⟩ := Sub_W h 12 root 0 1099511627776 Q [] hs hh (hp.nodup_iff.2 (placesF_nodup _ _)) (by simp)
  unfold treeC
  rw [if_neg (by omega), e]
  simp only
  rw [if_pos]
  refine ⟨?_, ?_⟩
  · unfold okL
    rw [if_pos rfl, List.all_eq_true]
    intro x hx
    rw [beq_iff_eq, ha x hx]
    cases l with
    | nil => exact absurd rfl hne
    | cons y r => exact (ha y (by simp)).symm
  · have := hpm.length_eq
    simp at this
    omega

end Go.Proofs.Ytlojfgdpmaigmac

/- Contracts of functions of Go's library, laid at this dump. -/
namespace Go.Proofs
open Go.Shelf
def Try.sortEn_ren : Go.Shelf.Ren := ⟨fun | 6 => 36 | 15 => 56 | 14 => 55 | 28 => 76 | 29 => 77 | 20 => 68 | 21 => 69 | 22 => 70 | 23 => 71 | 24 => 72 | 25 => 73 | 26 => 74 | 27 => 75 | 46 => 87 | 47 => 88 | 48 => 89 | 49 => 90 | 50 => 91 | 57 => 94 | n => n, fun | 22 => 35 | 24 => 53 | 25 => 75 | 3 => 3 | 39 => 91 | 0 => 0 | 53 => 112 | 55 => 114 | 4 => 4 | 46 => 106 | 45 => 105 | 50 => 77 | 5 => 5 | 9 => 9 | 66 => 122 | 70 => 126 | 76 => 128 | 77 => 129 | n => n, fun | n => n⟩
theorem Try.sortEn : Go.Proofs.SlLaysF0.n6 Try.prog Try.sortEn_ren := {
  mixed := by kernel_rfl
  f6 := ⟨Try.f36.name, by decide, Try.func36.trans (congrArg some (by kernel_rfl))⟩
  f14 := ⟨Try.f55.name, by decide, Try.func55.trans (congrArg some (by kernel_rfl))⟩
  f15 := Try.func56.trans (congrArg some (by kernel_rfl))
  f20 := ⟨Try.f68.name, by decide, Try.func68.trans (congrArg some (by kernel_rfl))⟩
  f21 := ⟨Try.f69.name, by decide, Try.func69.trans (congrArg some (by kernel_rfl))⟩
  f22 := ⟨Try.f70.name, by decide, Try.func70.trans (congrArg some (by kernel_rfl))⟩
  f23 := ⟨Try.f71.name, by decide, Try.func71.trans (congrArg some (by kernel_rfl))⟩
  f24 := ⟨Try.f72.name, by decide, Try.func72.trans (congrArg some (by kernel_rfl))⟩
  f25 := ⟨Try.f73.name, by decide, Try.func73.trans (congrArg some (by kernel_rfl))⟩
  f26 := ⟨Try.f74.name, by decide, Try.func74.trans (congrArg some (by kernel_rfl))⟩
  f27 := ⟨Try.f75.name, by decide, Try.func75.trans (congrArg some (by kernel_rfl))⟩
  f28 := Try.func76.trans (congrArg some (by kernel_rfl))
  f29 := Try.func77.trans (congrArg some (by kernel_rfl))
  f46 := ⟨Try.f87.name, by decide, Try.func87.trans (congrArg some (by kernel_rfl))⟩
  f47 := Try.func88.trans (congrArg some (by kernel_rfl))
  f48 := Try.func89.trans (congrArg some (by kernel_rfl))
  f49 := ⟨Try.f90.name, by decide, Try.func90.trans (congrArg some (by kernel_rfl))⟩
  f50 := ⟨Try.f91.name, by decide, Try.func91.trans (congrArg some (by kernel_rfl))⟩
  f57 := ⟨Try.f94.name, by decide, Try.func94.trans (congrArg some (by kernel_rfl))⟩
  t0 := Try.underlying0
  a0 := Try.isAgg0
  z0 := Try.sizeOf0
  v0 := Try.zeroValue0
  t3 := Try.underlying3
  a3 := Try.isAgg3
  z3 := Try.sizeOf3
  v3 := Try.zeroValue3
  t4 := Try.underlying4
  a4 := Try.isAgg4
  z4 := Try.sizeOf4
  v4 := Try.zeroValue4
  t5 := Try.underlying5
  a5 := Try.isAgg5
  z5 := Try.sizeOf5
  v5 := Try.zeroValue5
  t9 := Try.underlying9
  a9 := Try.isAgg9
  z9 := Try.sizeOf9
  v9 := Try.zeroValue9
  t22 := Try.underlying35
  a22 := Try.isAgg35
  z22 := Try.sizeOf35
  v22 := Try.zeroValue35
  t25 := Try.underlying75
  a25 := Try.isAgg75
  z25 := Try.sizeOf75
  v25 := Try.zeroValue75
  t39 := Try.underlying91
  a39 := Try.isAgg91
  z39 := Try.sizeOf91
  v39 := Try.zeroValue91
  t45 := Try.underlying105
  a45 := Try.isAgg105
  z45 := Try.sizeOf105
  v45 := Try.zeroValue105
  t46 := Try.underlying106
  a46 := Try.isAgg106
  z46 := Try.sizeOf106
  v46 := Try.zeroValue106
  t50 := Try.underlying77
  a50 := Try.isAgg77
  z50 := Try.sizeOf77
  v50 := Try.zeroValue77
  t53 := Try.underlying112
  a53 := Try.isAgg112
  z53 := Try.sizeOf112
  v53 := Try.zeroValue112
  t55 := Try.underlying114
  a55 := Try.isAgg114
  z55 := Try.sizeOf114
  v55 := Try.zeroValue114
  t66 := Try.underlying122
  a66 := Try.isAgg122
  z66 := Try.sizeOf122
  v66 := Try.zeroValue122
  t70 := Try.underlying126
  a70 := Try.isAgg126
  z70 := Try.sizeOf126
  v70 := Try.zeroValue126
  t76 := Try.underlying128
  a76 := Try.isAgg128
  z76 := Try.sizeOf128
  v76 := Try.zeroValue128
  t77 := Try.underlying129
  a77 := Try.isAgg129
  z77 := Try.sizeOf129
  v77 := Try.zeroValue129 }
def Try.cmpInt_ren : Go.Shelf.Ren := ⟨fun | 5 => 38 | 7 => 57 | n => n, fun | 22 => 3 | 3 => 3 | 4 => 4 | n => n, fun | n => n⟩
theorem Try.cmpInt : Go.Proofs.SlLaysC2.n5 Try.prog Try.cmpInt_ren := {
  mixed := by kernel_rfl
  f5 := ⟨Try.f38.name, by decide, Try.func38.trans (congrArg some (by kernel_rfl))⟩
  f7 := ⟨Try.f57.name, by decide, Try.func57.trans (congrArg some (by kernel_rfl))⟩
  t3 := Try.underlying3
  a3 := Try.isAgg3
  z3 := Try.sizeOf3
  v3 := Try.zeroValue3
  t4 := Try.underlying4
  a4 := Try.isAgg4
  z4 := Try.sizeOf4
  v4 := Try.zeroValue4
  t22 := Try.underlying3
  a22 := Try.isAgg3
  z22 := Try.sizeOf3
  v22 := Try.zeroValue3 }
def Try.insertI_ren : Go.Shelf.Ren := ⟨fun | 21 => 64 | 27 => 84 | 28 => 85 | 35 => 93 | 39 => 96 | n => n, fun | 22 => 60 | 3 => 3 | 4 => 4 | 0 => 0 | n => n, fun | n => n⟩
theorem Try.insertI : Go.Proofs.Lays2.n21 Try.prog Try.insertI_ren := {
  mixed := by kernel_rfl
  f21 := Try.func64.trans (congrArg some (by kernel_rfl))
  f27 := Try.func84.trans (congrArg some (by kernel_rfl))
  f28 := Try.func85.trans (congrArg some (by kernel_rfl))
  f35 := Try.func93.trans (congrArg some (by kernel_rfl))
  f39 := Try.func96.trans (congrArg some (by kernel_rfl))
  t0 := Try.underlying0
  a0 := Try.isAgg0
  z0 := Try.sizeOf0
  v0 := Try.zeroValue0
  t3 := Try.underlying3
  a3 := Try.isAgg3
  z3 := Try.sizeOf3
  v3 := Try.zeroValue3
  t4 := Try.underlying4
  a4 := Try.isAgg4
  z4 := Try.sizeOf4
  v4 := Try.zeroValue4
  t22 := Try.underlying60
  a22 := Try.isAgg60
  z22 := Try.sizeOf60
  v22 := Try.zeroValue60
  i3 := by kernel_rfl }
def Try.searchI_ren : Go.Shelf.Ren := ⟨fun | 25 => 63 | 31 => 82 | 32 => 83 | 37 => 57 | n => n, fun | 22 => 60 | 3 => 3 | 4 => 4 | 40 => 91 | 0 => 0 | n => n, fun | n => n⟩
theorem Try.searchI : Go.Proofs.Lays2.n25 Try.prog Try.searchI_ren := {
  mixed := by kernel_rfl
  f25 := Try.func63.trans (congrArg some (by kernel_rfl))
  f31 := Try.func82.trans (congrArg some (by kernel_rfl))
  f32 := Try.func83.trans (congrArg some (by kernel_rfl))
  f37 := Try.func57.trans (congrArg some (by kernel_rfl))
  t0 := Try.underlying0
  a0 := Try.isAgg0
  z0 := Try.sizeOf0
  v0 := Try.zeroValue0
  t3 := Try.underlying3
  a3 := Try.isAgg3
  z3 := Try.sizeOf3
  v3 := Try.zeroValue3
  t4 := Try.underlying4
  a4 := Try.isAgg4
  z4 := Try.sizeOf4
  v4 := Try.zeroValue4
  t22 := Try.underlying60
  a22 := Try.isAgg60
  z22 := Try.sizeOf60
  v22 := Try.zeroValue60
  t40 := Try.underlying91
  a40 := Try.isAgg91
  z40 := Try.sizeOf91
  v40 := Try.zeroValue91 }
end Go.Proofs

/- A tree in memory of one's own that grows: its nodes in a row that may move, each list in a block of its own. -/
namespace Go.Proofs.Ytlojfgdpmaigmac
open Go.RowKit Plain

def feet (g : Nat) (qs : List PN) : List Nat := g :: qs.flatMap PN.blocks

structure NT (base : Nat) (w : World) (g C : Nat) (qs : List PN) : Prop where
  own : w.ownsRow base 62 5 (.slice (some ⟨g, 0, none⟩) qs.length C) qs.length (flatN qs)
  each : ∀ q ∈ qs, q.own base w
  apart : (feet g qs).Nodup
  z : qs.length * 104 ≤ 140737488351232

/-- .. and the variable that holds it. -/
structure TB (base : Nat) (w : World) (tb g C : Nat) (qs : List PN) (root : Int) : Prop where
  nt : NT base w g C qs
  box : RowL w tb 26 [.slice (some ⟨g, 0, none⟩) qs.length C, .int .i64 root]
  ne : tb ∉ feet g qs
  hb : base ≤ tb

section
variable {base g C : Nat} {w w' : World} {qs : List PN}

theorem NT.glt (h : NT base w g C qs) : base ≤ g ∧ g < w.heap.size := h.own.lt g rfl

theorem NT.lt (h : NT base w g C qs) : ∀ k ∈ feet g qs, base ≤ k ∧ k < w.heap.size := by
  intro k hk
  rcases List.mem_cons.1 hk with rfl | hk
  · exact h.glt
  · obtain ⟨q, hq, hk⟩ := List.mem_flatMap.1 hk
    exact (h.each q hq).lt k hk

theorem NT.of_blocks (h : NT base w g C qs) (hk : ∀ k ∈ feet g qs, w'.heap[k]? = w.heap[k]?) : NT base w' g C qs :=
  ⟨own_of_block h.own fun k hb => hk k (by simp [Value.ownBlock] at hb; subst hb; exact List.mem_cons_self), fun q hq => (h.each q hq).of_blocks fun k hb => hk k (List.mem_cons_of_mem _ (List.mem_flatMap.2 ⟨q, hq, hb⟩)), h.apart, h.z⟩

theorem NT.below {B : Nat} (h : NT base w g C qs) (hb : Below B w w') (hB : w.heap.size ≤ B) : NT base w' g C qs :=
  h.of_blocks fun k hk => hb.block k (Nat.lt_of_lt_of_le (h.lt k hk).2 hB)

theorem NT.cell (h : NT base w g C qs) {j : Nat} (hj : j < qs.length * 5) : w.cell? ⟨g, j, none⟩ = (flatN qs)[j]? := h.own.cellAt j hj

theorem NT.node (h : NT base w g C qs) {k : Nat} (hk : k < qs.length) : PnAt w g (k * 5) qs[k] := by
  have c : ∀ j, j < 5 → ∀ u, (qs[k]).vals[j]? = some u → w.cell? ⟨g, k * 5 + j, none⟩ = some u := fun j hj u hu => by
    rw [h.cell (by omega), flatN_get qs k j hk hj]; exact hu
  exact ⟨c 0 (by decide) _ rfl, c 1 (by decide) _ rfl, c 2 (by decide) _ rfl, c 3 (by decide) _ rfl, c 4 (by decide) _ rfl⟩

theorem NT.free (h : NT base w g C qs) (j : Nat) : w.frozen? ⟨g, j, none⟩ = false := h.own.frozenAt j

theorem NT.nodes (h : NT base w g C qs) : NodesAt w.heap.size w (some ⟨g, 0, none⟩) qs :=
  ⟨(own_ok h.own).1, fun _ hk => (h.each _ (List.getElem_mem hk)).ok, h.z⟩
end

theorem set_nodeAt (qs : List PN) (k : Nat) (hk : k < qs.length) (p : PN) :
    (((((flatN qs).set (k * 5) (.bool p.leaf)).set (k * 5 + 1) (.slice p.eA p.ents.length p.eC)).set (k * 5 + 2) (.slice p.kA p.keys.length p.kC)).set (k * 5 + 3) (.slice p.dA p.kids.length p.dC)).set (k * 5 + 4) (.slice p.bA p.buf.length p.bC) = flatN (qs.set k p) := by
  obtain ⟨e1, e2⟩ := set_split qs k p hk
  rw [e2]
  conv => lhs; rw [e1]
  have h := set_node (qs.take k) (qs.drop (k + 1)) qs[k] p
  rw [List.length_take, Nat.min_eq_left (Nat.le_of_lt hk)] at h
  exact h

theorem own_set {w : World} {base : Nat} {e : TypeId} {size n g C : Nat} {vs : List Value} (h : w.ownsRow base e size (.slice (some ⟨g, 0, none⟩) n C) n vs) (j : Nat) (v : Value) :
    (w.setCell ⟨g, j, none⟩ v).ownsRow base e size (.slice (some ⟨g, 0, none⟩) n C) n (vs.set j v) := by
  refine ⟨by simp [h.1], .inr ?_⟩
  rcases h.2 with ⟨hv, _⟩ | ⟨g', cap, cur, hv, hb, hg, hl, hm, hs, ht⟩
  · cases hv
  · cases hv
    refine ⟨g, C, cur.setIfInBounds j v, rfl, hb, ?_, hl, hm, by simp [hs], ?_⟩
    · simp [World.setCell, Array.getElem?_modify, hg]
    · rw [Array.toList_setIfInBounds, List.take_set, ht]

theorem feet_set {g k : Nat} {qs : List PN} {p : PN} (hk : k < qs.length) (ha : (feet g qs).Nodup) (hn : p.blocks.Nodup) (hd : ∀ b ∈ p.blocks, b ∉ feet g qs) : (feet g (qs.set k p)).Nodup ∧ ∀ b ∈ feet g (qs.set k p), b ∈ feet g qs ∨ b ∈ p.blocks := by
  obtain ⟨A, x, B, hq, hset⟩ : ∃ A x B, qs = A ++ x :: B ∧ qs.set k p = A ++ p :: B := ⟨_, _, _, set_split qs k p hk⟩
  rw [hset]
  clear hset hk
  subst hq
  unfold feet at *
  simp only [List.flatMap_append, List.flatMap_cons, List.nodup_cons, List.nodup_append, List.mem_append, List.mem_cons, not_or] at *
  obtain ⟨⟨a1, a2, a3⟩, a4, ⟨a5, a6, a7⟩, a8⟩ := ha
  refine ⟨⟨⟨a1, fun h => (hd g h).1 rfl, a3⟩, a4, ⟨hn, a6, fun b hb c hc e => (hd b hb).2.2.2 (e ▸ hc)⟩, fun b hb c hc e => ?_⟩, fun b hb => ?_⟩
  · rcases hc with hc | hc
    · exact (hd c hc).2.1 (e ▸ hb)
    · exact a8 b hb c (.inr hc) e
  · rcases hb with hb | hb | hb | hb
    · exact .inl (.inl hb)
    · exact .inl (.inr (.inl hb))
    · exact .inr hb
    · exact .inl (.inr (.inr (.inr hb)))

theorem NT.setNode {base g C k : Nat} {w : World} {qs : List PN} {p : PN} (h : NT base w g C qs) (hk : k < qs.length) (hp : p.own base w) (hn : p.blocks.Nodup) (hd : ∀ b ∈ p.blocks, b ∉ feet g qs) :
    NT base (((((w.setCell ⟨g, k * 5, none⟩ (.bool p.leaf)).setCell ⟨g, k * 5 + 1, none⟩ (.slice p.eA p.ents.length p.eC)).setCell ⟨g, k * 5 + 2, none⟩ (.slice p.kA p.keys.length p.kC)).setCell ⟨g, k * 5 + 3, none⟩ (.slice p.dA p.kids.length p.dC)).setCell ⟨g, k * 5 + 4, none⟩ (.slice p.bA p.buf.length p.bC)) g C (qs.set k p) := by
  have hg : g ∉ p.blocks := fun e => hd g e List.mem_cons_self
  have hs : ∀ b, b ≠ g → (((((w.setCell ⟨g, k * 5, none⟩ (.bool p.leaf)).setCell ⟨g, k * 5 + 1, none⟩ (.slice p.eA p.ents.length p.eC)).setCell ⟨g, k * 5 + 2, none⟩ (.slice p.kA p.keys.length p.kC)).setCell ⟨g, k * 5 + 3, none⟩ (.slice p.dA p.kids.length p.dC)).setCell ⟨g, k * 5 + 4, none⟩ (.slice p.bA p.buf.length p.bC)).heap[b]? = w.heap[b]? := fun b hb => set5_block w g (k * 5) _ _ _ _ _ hb
  refine ⟨?_, fun q hq => ?_, (feet_set hk h.apart hn hd).1, by simpa using h.z⟩
  · rw [← set_nodeAt qs k hk p, List.length_set]
    exact own_set (own_set (own_set (own_set (own_set h.own _ _) _ _) _ _) _ _) _ _
  · rcases List.mem_or_eq_of_mem_set hq with hq | rfl
    · refine (h.each q hq).of_blocks fun b hb => hs b ?_
      rintro rfl
      have := h.apart
      rw [feet, List.nodup_cons] at this
      exact this.1 (List.mem_flatMap.2 ⟨q, hq, hb⟩)
    · exact hp.of_blocks fun b hb => hs b (fun e => hg (e ▸ hb))

theorem flatN_one (ps : List PN) : ∀ u ∈ flatN ps, u.oneCell' = true := by
  induction ps with
  | nil => simp [flatN]
  | cons x r ih =>
    intro u hu
    simp only [flatN, PN.vals, List.cons_append, List.nil_append, List.mem_cons] at hu
    rcases hu with h | h | h | h | h | h
    all_goals first | (subst h; rfl) | exact ih u h

theorem newsN (W : World) (b : Nat) (t : TypeId) (p : PN) (h : RowL W b t p.vals) : ∀ j u, (flatN [p])[j]? = some u → W.cell? (Addr.add ⟨b, 0, none⟩ j) = some u := by
  intro j u hu
  rw [WideShapes.add_plain, Nat.zero_add, h.cell]
  simpa [flatN] using hu

theorem feet_append {g' : Nat} {g : Nat} {qs : List PN} {q : PN} (ha : (feet g qs).Nodup) (hn : q.blocks.Nodup) (hd : ∀ b ∈ q.blocks, b ∉ feet g qs) (hg : g' = g ∨ (g' ∉ feet g qs ∧ g' ∉ q.blocks)) : (feet g' (qs ++ [q])).Nodup := by
  unfold feet at *
  simp only [List.flatMap_append, List.flatMap_cons, List.flatMap_nil, List.append_nil, List.nodup_cons, List.nodup_append, List.mem_append, List.mem_cons, not_or] at *
  refine ⟨⟨?_, ?_⟩, ha.2, hn, fun b hb c hc e => (hd c hc).2 (e ▸ hb)⟩
  · rcases hg with rfl | hg
    · exact ha.1
    · exact hg.1.2
  · rcases hg with rfl | hg
    · intro h; exact (hd g' h).1 rfl
    · exact hg.2

end Go.Proofs.Ytlojfgdpmaigmac

/- slices.Insert of one number, in a list of one's own. -/
namespace Go.Proofs.Ytlojfgdpmaigmac
open Go.RowKit Plain Go.Shelf

def ovr : List Value → Nat → List Value → List Value
  | l, _, [] => l
  | l, o, v :: r => ovr (l.set o v) (o + 1) r

theorem ovr_length : ∀ (vs : List Value) (l : List Value) (o : Nat), (ovr l o vs).length = l.length
  | [], _, _ => rfl
  | v :: r, l, o => by rw [ovr, ovr_length r]; simp

theorem ovr_get : ∀ (vs : List Value) (l : List Value) (o j : Nat), o + vs.length ≤ l.length → (ovr l o vs)[j]? = if o ≤ j ∧ j < o + vs.length then vs[j - o]? else l[j]?
  | [], l, o, j, _ => by simp [ovr]; omega
  | v :: r, l, o, j, h => by
    simp only [List.length_cons] at h ⊢
    rw [ovr, ovr_get r _ _ _ (by simp; omega)]
    by_cases h1 : j = o
    · subst h1
      rw [if_neg (by omega), if_pos (by omega), List.getElem?_set_self (by omega), Nat.sub_self]
      rfl
    · by_cases h2 : o + 1 ≤ j ∧ j < o + 1 + r.length
      · rw [if_pos h2, if_pos (by omega), show j - o = (j - (o + 1)) + 1 by omega, List.getElem?_cons_succ]
      · rw [if_neg h2, if_neg (by omega), List.getElem?_set_ne (by omega)]

theorem take_get {cur cs : List Value} (ht : cur.take cs.length = cs) {j : Nat} (hj : j < cs.length) : cur[j]? = cs[j]? := by
  have h : (cur.take cs.length)[j]? = cs[j]? := by rw [ht]
  rwa [List.getElem?_take, if_pos hj] at h

theorem ins_get (cs : List Value) (v : Value) (i j : Nat) (hi : i ≤ cs.length) : (cs.take i ++ v :: cs.drop i)[j]? = if j < i then cs[j]? else if j = i then some v else cs[j - 1]? := by
  have hl : (cs.take i).length = i := by rw [List.length_take]; omega
  by_cases h1 : j < i
  · rw [List.getElem?_append_left (by omega), List.getElem?_take, if_pos h1, if_pos h1]
  · rw [List.getElem?_append_right (by omega), hl, if_neg h1]
    by_cases h2 : j = i
    · rw [if_pos h2, h2, Nat.sub_self]; rfl
    · rw [if_neg h2, show j - i = (j - 1 - i) + 1 by omega, List.getElem?_cons_succ, List.getElem?_drop, show i + (j - 1 - i) = j - 1 by omega]

/-- In place: the last ones move, then the new one comes. -/
theorem ovr_shift {cur cs : List Value} {i : Nat} (v : Value) (ht : cur.take cs.length = cs) (hi : i ≤ cs.length) (hr : cs.length + 1 ≤ cur.length) : (ovr (ovr cur (i + 1) (cs.drop i)) i [v]).take (cs.length + 1) = cs.take i ++ v :: cs.drop i := by
  apply List.ext_getElem?
  intro j
  rw [ins_get cs v i j hi, List.getElem?_take]
  by_cases hj : j < cs.length + 1
  · rw [if_pos hj, ovr_get _ _ _ _ (by rw [ovr_length]; simp; omega)]
    by_cases h1 : j = i
    · subst h1
      rw [if_pos (by simp), if_neg (by omega), if_pos rfl]
      simp
    · rw [if_neg (by simp; omega), ovr_get _ _ _ _ (by simp; omega)]
      by_cases h2 : j < i
      · rw [if_neg (by omega), if_pos h2, take_get ht (by omega)]
      · rw [if_pos (by simp; omega), if_neg h2, if_neg h1, List.getElem?_drop, show i + (j - (i + 1)) = j - 1 by omega]
  · rw [if_neg hj, if_neg (by omega), if_neg (by omega), List.getElem?_eq_none (by omega)]

/-- In new memory: what is ahead stands there, the rest comes. -/
theorem ovr_fill {cur cs : List Value} {i : Nat} (v : Value) (ht : cur.take i = cs.take i) (hi : i ≤ cs.length) (hr : cs.length + 1 ≤ cur.length) : (ovr (ovr cur i [v]) (i + 1) (cs.drop i)).take (cs.length + 1) = cs.take i ++ v :: cs.drop i := by
  apply List.ext_getElem?
  intro j
  rw [ins_get cs v i j hi, List.getElem?_take]
  by_cases hj : j < cs.length + 1
  · rw [if_pos hj, ovr_get _ _ _ _ (by rw [ovr_length]; simp; omega)]
    by_cases h1 : i + 1 ≤ j
    · rw [if_pos (by simp; omega), if_neg (by omega), if_neg (by omega), List.getElem?_drop, show i + (j - (i + 1)) = j - 1 by omega]
    · rw [if_neg (by omega), ovr_get _ _ _ _ (by simp; omega)]
      by_cases h2 : j < i
      · rw [if_neg (by omega), if_pos h2]
        have h : (cur.take i)[j]? = (cs.take i)[j]? := by rw [ht]
        rwa [List.getElem?_take, List.getElem?_take, if_pos h2, if_pos h2] at h
      · obtain rfl : j = i := by omega
        rw [if_pos (by simp), if_neg (by omega), if_pos rfl]
        simp
  · rw [if_neg hj, if_neg (by omega), if_neg (by omega), List.getElem?_eq_none (by omega)]

theorem setCells_at (g : Nat) (e : TypeId) : ∀ (vs : List Value) (o : Nat) (cur : Array Value) (w : World), w.heap[g]? = some (.cells cur e (0, 0)) → (w.setCells g o vs).heap[g]? = some (.cells (ovr cur.toList o vs).toArray e (0, 0))
  | [], o, cur, w, h => by simpa [World.setCells, ovr] using h
  | v :: r, o, cur, w, h => by
    rw [World.setCells]
    have h1 : (w.setCell ⟨g, o, none⟩ v).heap[g]? = some (.cells (cur.setIfInBounds o v) e (0, 0)) := by simp [World.setCell, Array.getElem?_modify, h]
    have := setCells_at g e r (o + 1) _ _ h1
    rw [Array.toList_setIfInBounds] at this
    exact this

theorem setCells_kept (g : Nat) : ∀ (vs : List Value) (o : Nat) (w : World), Kept [g] w (w.setCells g o vs)
  | [], _, w => Kept.refl _ _
  | v :: r, o, w => by
    rw [World.setCells]
    exact ((Kept.refl [g] w).set (.inl (by simp)) v).trans (setCells_kept g r (o + 1) _)

def obk (A : Option Addr) : List Nat := (A.map Addr.block).toList

/-- What is left behind: a list of one's own, in its old block or in a new one; nothing else has turned. -/
structure Moved (base : Nat) (t : TypeId) (size n : Nat) (A A' : Option Addr) (C' : Nat) (vs : List Value) (w w' : World) : Prop where
  own : w'.ownsRow base t size (.slice A' n C') n vs
  kept : Kept (obk A) w w'
  lies : A'.map Addr.block = A.map Addr.block ∨ ∃ k, A'.map Addr.block = some k ∧ w.heap.size ≤ k

theorem Kept.mono {ex ex' : List Nat} {w w' : World} (h : Kept ex w w') (hs : ∀ k ∈ ex, k ∈ ex') : Kept ex' w w' := ⟨h.os, h.tape, h.output, h.size, fun k hk hx => h.block k hk (fun e => hx (hs k e))⟩

theorem ints_take (zs : List Int) (i : Nat) : (ints zs).take i = ints (zs.take i) := by simp [ints]
theorem ints_drop (zs : List Int) (i : Nat) : (ints zs).drop i = ints (zs.drop i) := by simp [ints]
theorem ints_ins (zs : List Int) (i : Nat) (z : Int) : ints (zs.take i ++ z :: zs.drop i) = (ints zs).take i ++ .int .i64 z :: (ints zs).drop i := by simp [ints]
theorem ints_len (zs : List Int) : (ints zs).length = zs.length := by simp [ints]

theorem moved_new {base n C : Nat} {t : TypeId} {A : Option Addr} {vs : List Value} {w w' : World} {cur : Array Value} (hb : base ≤ w.heap.size) (hg : w'.heap[w.heap.size]? = some (.cells cur t (0, 0))) (hn : n ≤ C) (hm : C ≤ maxLen) (hs : cur.size = C) (hl : vs.length = n) (ht : cur.toList.take n = vs)
    (hk : Kept (obk A) w w') : Moved base t 1 n A (some ⟨w.heap.size, 0, none⟩) C vs w w' :=
  ⟨⟨by omega, .inr ⟨w.heap.size, C, cur, rfl, hb, hg, hn, hm, by omega, by rw [Nat.mul_one]; exact ht⟩⟩, hk, .inr ⟨w.heap.size, rfl, Nat.le_refl _⟩⟩

theorem moved_old {base n C g : Nat} {t : TypeId} {vs : List Value} {w w' : World} {cur : Array Value} (hb : base ≤ g) (hg : w'.heap[g]? = some (.cells cur t (0, 0))) (hn : n ≤ C) (hm : C ≤ maxLen) (hs : cur.size = C) (hl : vs.length = n) (ht : cur.toList.take n = vs)
    (hk : Kept [g] w w') : Moved base t 1 n (some ⟨g, 0, none⟩) (some ⟨g, 0, none⟩) C vs w w' :=
  ⟨⟨by omega, .inr ⟨g, C, cur, rfl, hb, hg, hn, hm, by omega, by rw [Nat.mul_one]; exact ht⟩⟩, hk, .inl rfl⟩

theorem oneI (z : Int) : ∀ v ∈ ([.int .i64 z] : List Value), v.oneCell' = true := by
  intro v hv
  obtain rfl : v = .int .i64 z := by simpa using hv
  rfl

theorem insertI_any (base : Nat) (A : Option Addr) (C vb vc : Nat) (zs : List Int) (i : Nat) (z : Int) (w : World) (ho : w.ownsRow base 3 1 (.slice A zs.length C) zs.length (ints zs)) (hi : i ≤ zs.length) (hv : RowL w vb 3 [.int .i64 z]) (hvb : vb ∉ obk A) (hB : base ≤ w.heap.size) (hz : (zs.length + 1) * 8 ≤ 140737488351232) :
    Calls Try.prog 64 #[.slice A zs.length C, .int .i64 (i : Int), .slice (some ⟨vb, 0, none⟩) 1 vc] w
      fun e w' => ∃ A' C', e = .returned (.slice A' (zs.length + 1) C') ∧ Moved base 3 1 (zs.length + 1) A A' C' (ints (zs.take i ++ z :: zs.drop i)) w w' := by
  have hvs : ∀ j v, ([.int .i64 z] : List Value)[j]? = some v → w.cell? ⟨vb, 0 + j, none⟩ = some v := fun j v hj => by rw [Nat.zero_add, hv.cell]; exact hj
  have hml : zs.length + 1 ≤ maxLen := by unfold maxLen; omega
  rcases ho.2 with ⟨hn, hn0⟩ | ⟨g, cap, cur, hn, hb, hg, hl, hm, hs, ht⟩
  · obtain rfl : zs = [] := List.eq_nil_of_length_eq_zero hn0
    cases hn
    obtain rfl : i = 0 := by simpa using hi
    have hcon := Any2.slices_Insert_int_end_grow Try.insertI none 0 0 vb 0 1 vc [] [.int .i64 z] w (by decide) (by decide) (by decide) (by decide) rfl rfl (fun _ => rfl) (fun a h => by cases h) hvs (oneI z)
    change Calls Try.prog 64 _ _ _ at hcon
    refine hcon.mono ?_
    rintro e w' ⟨rfl, rfl⟩
    refine ⟨_, _, rfl, moved_new (cur := _) hB (heap_alloc_new w.drew _) (grownCap_ge _ _ _ _) (grownCap_le_maxLen _ _ _ _ (by decide)) ?_ (by simp [ints]) ?_ ?_⟩
    · have h := grownCap_ge w (0 + 1) 0 3
      show (([] ++ [Value.int .i64 z] : List Value).toArray ++ Builtin.zeroCells (Value.int .i64 0).cells (grownCap w (0 + 1) 0 3 - (0 + 1))).size = grownCap w (0 + 1) 0 3
      generalize grownCap w (0 + 1) 0 3 = G at h ⊢
      rw [Array.size_append, size_zeroCells]
      simp [Value.cells]
      omega
    · simp [ints]
    · exact ((Kept.refl _ w).drew).alloc _
  · simp only [Value.slice.injEq] at hn
    obtain ⟨rfl, -, rfl⟩ := hn
    have hvg : vb ≠ g := fun e => hvb (by simp [obk, e])
    rw [Nat.mul_one] at hs ht
    have hil := ints_len zs
    have hcl : cur.toList.length = C := by simpa using hs
    have hcell : ∀ j, w.cell? ⟨g, j, none⟩ = cur.toList[j]? := fun j => by simp [World.cell?, hg]
    have hcs : ∀ j v, (ints zs)[j]? = some v → w.cell? ⟨g, 0 + j, none⟩ = some v := fun j v hj => by
      rw [Nat.zero_add, hcell, ← hj, ← ht, List.getElem?_take, if_pos]
      have := (List.getElem?_eq_some_iff.1 hj).1
      omega
    have hfz : ∀ j, w.frozen? ⟨g, j, none⟩ = false := fun j => by simp [World.frozen?, hg]
    by_cases hin : i < zs.length
    · by_cases hroom : zs.length + 1 ≤ C
      · have hcon := Any2.slices_Insert_int_shift Try.insertI g 0 zs.length C i vb 0 1 vc (ints zs) [.int .i64 z] w hin (by decide) hroom (by unfold maxLen at hm; omega) hvg hil rfl hcs (fun j hj => by rw [Nat.zero_add, hcell, List.getElem?_eq_getElem (by omega)]; rfl) (fun j _ => hfz _) hvs (ints_one zs) (oneI z) 3 3 1 C
          (by unfold World.shape?; rw [show w.heap[vb]? = _ from hv]; rfl) (by unfold World.shape?; rw [hg]; simp [hs]) (by omega) (hv.frozen _) (hv.frozen _)
        change Calls Try.prog 64 _ _ _ at hcon
        refine hcon.mono ?_
        rintro e w' ⟨rfl, rfl⟩
        have h1 := setCells_at g 3 ((ints zs).drop i) (0 + (i + 1)) cur w.drew hg
        have h2 := setCells_at g 3 [.int .i64 z] (0 + i) _ _ h1
        refine ⟨_, _, rfl, moved_old hb h2 hroom hm (by simp [ovr_length, hs]) (by simp [ints]; omega) ?_ ?_⟩
        · rw [ints_ins, Nat.zero_add, Nat.zero_add]
          have := ovr_shift (cur := cur.toList) (cs := ints zs) (i := i) (.int .i64 z) (by rw [hil]; exact ht) (by omega) (by omega)
          rw [hil] at this
          exact this
        · exact (((Kept.refl _ w).drew).trans (setCells_kept g _ _ _)).trans (setCells_kept g _ _ _)
      · have hcon := Any2.slices_Insert_int_grow Try.insertI g 0 zs.length C i vb 0 1 vc (ints zs) [.int .i64 z] w hin (by decide) hl (by omega) (by omega) hil rfl hcs hvs (ints_one zs) (oneI z)
        change Calls Try.prog 64 _ _ _ at hcon
        refine hcon.mono ?_
        rintro e w' ⟨rfl, rfl⟩
        have hG := grownCap_ge w (zs.length + 1) C 3
        have hGm := grownCap_le_maxLen w (zs.length + 1) C 3 hml
        obtain ⟨G, hGe⟩ : ∃ G, G = grownCap w (zs.length + 1) C 3 := ⟨_, rfl⟩
        rw [← hGe] at hG hGm
        show ∃ A' C', Ending.returned (.slice (some ⟨w.heap.size, 0, none⟩) (zs.length + 1) (grownCap w (zs.length + 1) C 3)) = _ ∧ Moved base 3 1 (zs.length + 1) _ A' C' _ w ((((w.alloc (.cells (((ints zs).take i).toArray ++ Builtin.zeroCells (Value.int .i64 0).cells (zs.length + 1 - i) ++ Builtin.zeroCells (Value.int .i64 0).cells (grownCap w (zs.length + 1) C 3 - (zs.length + 1))) 3)).drew.setCells w.heap.size i [.int .i64 z]).drew).setCells w.heap.size (i + 1) ((ints zs).drop i))
        rw [← hGe]
        obtain ⟨ROW, hROW⟩ : ∃ ROW : Array Value, ROW = ((ints zs).take i).toArray ++ Builtin.zeroCells (Value.int .i64 0).cells (zs.length + 1 - i) ++ Builtin.zeroCells (Value.int .i64 0).cells (G - (zs.length + 1)) := ⟨_, rfl⟩
        have hRs : ROW.size = G := by
          rw [hROW, Array.size_append, Array.size_append, size_zeroCells, size_zeroCells]
          simp [Value.cells, hil]
          omega
        have hRt : ROW.toList.take i = (ints zs).take i := by
          rw [hROW, Array.toList_append, Array.toList_append, List.append_assoc]
          exact List.take_left' (by rw [List.length_take]; omega)
        rw [← hROW]
        have h0 : (w.alloc (.cells ROW 3)).drew.heap[w.heap.size]? = some (.cells ROW 3 (0, 0)) := heap_alloc_new w _
        have h1 := setCells_at w.heap.size 3 [.int .i64 z] i ROW _ h0
        have h2 := setCells_at w.heap.size 3 ((ints zs).drop i) (i + 1) _ ((w.alloc (.cells ROW 3)).drew.setCells w.heap.size i [.int .i64 z]).drew h1
        refine ⟨_, _, rfl, moved_new hB h2 hG hGm (by simp [ovr_length, hRs]) (by simp [ints]; omega) ?_ ?_⟩
        · rw [ints_ins]
          have := ovr_fill (cur := ROW.toList) (cs := ints zs) (i := i) (.int .i64 z) hRt (by omega) (by simp [hRs, hil]; omega)
          rw [hil] at this
          exact this
        · have hk : Kept (obk (some ⟨g, 0, none⟩)) w ((((w.alloc (.cells ROW 3)).drew.setCells w.heap.size i [.int .i64 z]).drew).setCells w.heap.size (i + 1) ((ints zs).drop i)) := by
            have k1 := (((Kept.refl [w.heap.size] w).alloc (.cells ROW 3)).drew.trans (setCells_kept w.heap.size [.int .i64 z] i _)).drew.trans (setCells_kept w.heap.size ((ints zs).drop i) (i + 1) _)
            exact ⟨k1.os, k1.tape, k1.output, k1.size, fun k hk _ => k1.block k hk (by simp; omega)⟩
          exact hk
    · obtain rfl : i = zs.length := by omega
      by_cases hroom : zs.length + 1 ≤ C
      · have hcon := Any2.slices_Insert_int_end_room Try.insertI g 0 zs.length C vb 0 1 vc [.int .i64 z] w (by decide) hroom (by unfold maxLen at hm; omega) rfl (fun j hj => by rw [Nat.zero_add, hcell, List.getElem?_eq_getElem (by omega)]; rfl) (fun j _ => hfz _) hvs (oneI z)
        change Calls Try.prog 64 _ _ _ at hcon
        refine hcon.mono ?_
        rintro e w' ⟨rfl, rfl⟩
        have h2 := setCells_at g 3 [.int .i64 z] (0 + zs.length) cur w hg
        refine ⟨_, _, rfl, moved_old hb h2 hroom hm (by simp [ovr_length, hs]) (by simp [ints]) ?_ (setCells_kept g _ _ _)⟩
        rw [ints_ins, Nat.zero_add]
        have := ovr_shift (cur := cur.toList) (cs := ints zs) (i := zs.length) (.int .i64 z) (by rw [hil]; exact ht) (by omega) (by omega)
        rw [hil, List.drop_of_length_le (by omega)] at this
        rw [List.drop_of_length_le (by omega)]
        exact this
      · have hcon := Any2.slices_Insert_int_end_grow Try.insertI (some ⟨g, 0, none⟩) zs.length C vb 0 1 vc (ints zs) [.int .i64 z] w (by decide) hl (by omega) (by omega) hil rfl (fun h => by cases h) (fun a ha j v hj => by cases ha; rw [Addr.add_lit]; exact hcs j v hj) hvs (oneI z)
        change Calls Try.prog 64 _ _ _ at hcon
        refine hcon.mono ?_
        rintro e w' ⟨rfl, rfl⟩
        have hG := grownCap_ge w (zs.length + 1) C 3
        have hGm := grownCap_le_maxLen w (zs.length + 1) C 3 hml
        refine ⟨_, _, rfl, moved_new (cur := _) hB (heap_alloc_new w.drew _) hG hGm ?_ (by simp [ints]) ?_ (((Kept.refl _ w).drew).alloc _)⟩
        · show ((ints zs ++ [Value.int .i64 z]).toArray ++ Builtin.zeroCells (Value.int .i64 0).cells (grownCap w (zs.length + 1) C 3 - (zs.length + 1))).size = grownCap w (zs.length + 1) C 3
          rw [Array.size_append, size_zeroCells]
          simp [Value.cells, hil]
          omega
        · have e1 : (ints zs).take zs.length = ints zs := List.take_of_length_le (by omega)
          have e2 : (ints zs).drop zs.length = [] := List.drop_of_length_le (by omega)
          rw [ints_ins, e1, e2, Array.toList_append]
          exact List.take_left' (by simp [hil])

end Go.Proofs.Ytlojfgdpmaigmac

/- What a call leaves as it was, some blocks apart; which nodes have been seen. -/
import Derived.Test.YtlojfgdpmaigmacGreatDoorP09
import Derived.Test.YtlojfgdpmaigmacGreatDoorP14
import Derived.Test.YtlojfgdpmaigmacGreatDoorP08
import Derived.Test.YtlojfgdpmaigmacGreatDoorPartWalk
import Derived.Deep.AppendLies
import Derived.Test.YtlojfgdpmaigmacGreatDoorP06
import Derived.Deep.DeepCutAuto
import Derived.Maps.OwnSet
import Derived.Maps.Views
import Derived.Maps.OwnOps
namespace Go.Proofs.YtlojfgdpmaigmacGreatDoor
open Go.RowKit Plain

/-- w' is w with new blocks, and with writes to the blocks of ex alone. -/
structure Kept (ex : List Nat) (w w' : World) : Prop where
  os : w'.os = w.os
  tape : w'.tape = w.tape
  output : w'.output = w.output
  size : w.heap.size ≤ w'.heap.size
  block : ∀ k, k < w.heap.size → k ∉ ex → w'.heap[k]? = w.heap[k]?

section
variable {ex : List Nat} {w w' w'' : World}

theorem Kept.refl (ex : List Nat) (w : World) : Kept ex w w := ⟨rfl, rfl, rfl, Nat.le_refl _, fun _ _ _ => rfl⟩
theorem Kept.trans (h : Kept ex w w') (k : Kept ex w' w'') : Kept ex w w'' :=
  ⟨k.os.trans h.os, k.tape.trans h.tape, k.output.trans h.output, Nat.le_trans h.size k.size, fun i hi hx => (k.block i (Nat.lt_of_lt_of_le hi h.size) hx).trans (h.block i hi hx)⟩
theorem Kept.alloc (h : Kept ex w w') (o : Obj) : Kept ex w (w'.alloc o) :=
  h.trans ⟨rfl, rfl, rfl, by simp, fun k hk _ => Below.heap_alloc _ _ _ hk⟩
theorem Kept.set (h : Kept ex w w') {b j : Nat} (hb : b ∈ ex ∨ w.heap.size ≤ b) (v : Value) : Kept ex w (w'.setCell ⟨b, j, none⟩ v) :=
  ⟨h.os, h.tape, h.output, by simpa using h.size, fun k hk hx => (Below.heap_setCell _ _ _ _ (by rintro rfl; rcases hb with hb | hb; exact hx hb; omega)).trans (h.block k hk hx)⟩
theorem Kept.drew (h : Kept ex w w') : Kept ex w w'.drew := ⟨h.os, h.tape, h.output, h.size, h.block⟩
theorem Kept.drewN (h : Kept ex w w') (n : Nat) : Kept ex w (w'.drewN n) := ⟨h.os, h.tape, h.output, h.size, h.block⟩
theorem Kept.of_below (h : Below w.heap.size w w') : Kept ex w w' := ⟨h.os, h.tape, h.output, h.size, fun k hk _ => h.block k hk⟩
theorem Kept.below (h : Kept ex w w') {B : Nat} (hB : B ≤ w.heap.size) (hx : ∀ x ∈ ex, B ≤ x) : Below B w w' :=
  ⟨h.os, h.tape, h.output, h.size, fun k hk => h.block k (by omega) (fun hm => by have := hx k hm; omega)⟩
theorem Kept.cell (h : Kept ex w w') {b : Nat} (o : Nat) (hb : b < w.heap.size) (hx : b ∉ ex) : w'.cell? ⟨b, o, none⟩ = w.cell? ⟨b, o, none⟩ :=
  World.cell?_of_block (w := w) (a := ⟨b, o, none⟩) (h.block b hb hx)
theorem Kept.row (h : Kept ex w w') {b : Nat} {t : TypeId} {vs : List Value} (hr : RowL w b t vs) (hx : b ∉ ex) : RowL w' b t vs := hr.of_block (h.block b hr.lt hx)
end

theorem two_rows {v w2 : World} {l1 l2 : List Value} {t1 t2 : TypeId} (hb : Below ((v.alloc (.cells l1.toArray t1)).alloc (.cells l2.toArray t2)).heap.size ((v.alloc (.cells l1.toArray t1)).alloc (.cells l2.toArray t2)) w2) {n : Nat} (hn : n = v.heap.size) :
    RowL w2 n t1 l1 ∧ RowL w2 (n + 1) t2 l2 ∧ n + 1 < w2.heap.size := by
  subst hn
  have s1 : (v.alloc (.cells l1.toArray t1)).heap.size = v.heap.size + 1 := by simp
  have s2 : ((v.alloc (.cells l1.toArray t1)).alloc (.cells l2.toArray t2)).heap.size = v.heap.size + 2 := by simp
  have r1 : RowL ((v.alloc (.cells l1.toArray t1)).alloc (.cells l2.toArray t2)) v.heap.size t1 l1 := (rowL_alloc v l1 t1).of_block (Below.heap_alloc _ _ _ (by omega))
  have r2 : RowL ((v.alloc (.cells l1.toArray t1)).alloc (.cells l2.toArray t2)) (v.heap.size + 1) t2 l2 := by
    have := rowL_alloc (v.alloc (.cells l1.toArray t1)) l2 t2
    rwa [s1] at this
  have hs := hb.size
  exact ⟨r1.below hb (by omega), r2.below hb (by omega), by omega⟩

theorem W_succ (ns : List Nd) (f : Nat) (n low high : Int) (S : St) : W ns (f + 1) n low high S =
    if n < 0 ∨ (ns.length : Int) ≤ n ∨ high ≤ low ∨ seenB S n = true then none
    else if (ns.getD n.toNat default).leaf = true then
      (if leafB (ns.getD n.toNat default) low high f = true then some ((n, 12 - (f : Int)) :: S, [12 - (f : Int)]) else none)
    else if innerB (ns.getD n.toNat default) low high = true then Wk (W ns f) (ns.getD n.toNat default).kids (ns.getD n.toNat default).keys low high ((n, 12 - (f : Int)) :: S)
    else none := rfl

theorem W_out {ns : List Nd} {f : Nat} {n low high : Int} {S : St} (h : n < 0 ∨ (ns.length : Int) ≤ n ∨ high ≤ low ∨ seenB S n = true) : W ns f n low high S = none := by
  cases f with
  | zero => rfl
  | succ f => rw [W_succ, if_pos h]

theorem W_leaf {ns : List Nd} {f m : Nat} {low high : Int} {S : St} {x : Nd} (hm : m < ns.length) (hx : ns[m] = x) (hlh : low < high) (hs : seenB S m = false) (hl : x.leaf = true) :
    W ns (f + 1) m low high S = if leafB x low high f = true then some (((m : Int), 12 - (f : Int)) :: S, [12 - (f : Int)]) else none := by
  have hg : ns.getD m default = x := by simp [hm, hx]
  rw [W_succ, if_neg (by simp [hs]; omega)]
  simp only [Int.toNat_natCast, hg, hl, if_true]

theorem W_inner {ns : List Nd} {f m : Nat} {low high : Int} {S : St} {x : Nd} (hm : m < ns.length) (hx : ns[m] = x) (hlh : low < high) (hs : seenB S m = false) (hl : x.leaf = false) :
    W ns (f + 1) m low high S = if innerB x low high = true then Wk (W ns f) x.kids x.keys low high (((m : Int), 12 - (f : Int)) :: S) else none := by
  have hg : ns.getD m default = x := by simp [hm, hx]
  rw [W_succ, if_neg (by simp [hs]; omega)]
  simp only [Int.toNat_natCast, hg, hl, Bool.false_eq_true, if_false]

end Go.Proofs.YtlojfgdpmaigmacGreatDoor

/- Roots above roots, till one is enough; and what Check tells of the tree then. -/
namespace Go.Proofs.YtlojfgdpmaigmacGreatDoor
open Go.RowKit Plain

def newRoot (root : Int) (more : List (Int × Int)) : Nd := ⟨false, [], more.map (·.1), root :: more.map (·.2), []⟩

def growN : Nat → List Nd → Int → List (Int × Int) → List Nd × Int
  | 0, ns, root, _ => (ns, root)
  | f + 1, ns, root, more =>
    if more = [] then (ns, root)
    else growN f (splitN (ns ++ [newRoot root more]) ns.length).1 ns.length (splitN (ns ++ [newRoot root more]) ns.length).2

/-- Nodes in a row, above all others. -/
structure RowOk (ns : List Nd) (h : Nat) (root : Int) (more : List (Int × Int)) : Prop where
  sub : ∃ Q, SubK (Sub 6 4 ns h) 0 (ups (root :: more.map (·.2)) (more.map (·.1)) 1099511627776) Q ∧ Q.Perm (placesF 0 ns.length)

theorem nth_last (ns : List Nd) (x : Nd) : nth (ns ++ [x]) (ns.length : Int) = x := by
  unfold nth
  simp

theorem splitN_more (ns : List Nd) (root : Int) (more : List (Int × Int)) : (splitN (ns ++ [newRoot root more]) ns.length).2.length = (more.length + 4) / 4 - 1 ∧ (splitN (ns ++ [newRoot root more]) ns.length).1.length = ns.length + (more.length + 4) / 4 := by
  unfold splitN
  rw [nth_last]
  have hs : sizeN (newRoot root more) = more.length + 1 := by simp [sizeN, newRoot]
  have hm : mostN (newRoot root more) = 4 := by simp [mostN, newRoot]
  have hp : partsN (newRoot root more) = (more.length + 4) / 4 := by
    rw [partsN, hs, hm]
    congr 1
  split
  · rename_i h
    rw [hs, hm] at h
    simp
    omega
  · rename_i h
    rw [hs, hm] at h
    have hc : (cutsN (newRoot root more)).length = (more.length + 4) / 4 := by unfold cutsN; rw [cutsF_length, hp]
    constructor
    · simp only [List.length_zip, keysL_length, hc, placesF_length, hp]
      omega
    · simp only [List.length_append, List.length_set, List.length_tail, partsL_length, hc, List.length_cons, List.length_nil]
      omega

theorem row_step {ns : List Nd} {h : Nat} {root : Int} {more : List (Int × Int)} (hr : RowOk ns h root more) (hm : more ≠ []) :
    RowOk (splitN (ns ++ [newRoot root more]) ns.length).1 (h + 1) ns.length (splitN (ns ++ [newRoot root more]) ns.length).2 ∧ ((splitN (ns ++ [newRoot root more]) ns.length).1.flatMap cont).Perm (ns.flatMap cont) := by
  obtain ⟨Q, hQ, hp⟩ := hr.sub
  have hml : 1 ≤ more.length := by cases more with | nil => exact absurd rfl hm | cons => simp
  have hkl : (more.map (·.1)).length + 1 = (root :: more.map (·.2)).length := by simp
  have hlt : (0 : Int) < 1099511627776 := by decide
  have hQ' : SubK (Sub 6 4 (ns ++ [newRoot root more]) h) 0 (ups (root :: more.map (·.2)) (more.map (·.1)) 1099511627776) Q :=
    SubK_imp hQ fun d lo hi Q1 a b => Sub_congr h d lo hi Q1 a fun n hn => by
      have hm := placesF_mem.1 (hp.mem_iff.1 (b n hn))
      exact ⟨nth_append_left (by omega) (by omega), by simp; omega⟩
  have htop : Top 0 (more.length + 1) (ns ++ [newRoot root more]) (h + 1) ns.length 0 1099511627776 ((ns.length : Int) :: Q) := by
    refine ⟨⟨by omega, by simp; omega, hlt⟩, Q, rfl, ?_⟩
    rw [nth_last]
    exact ⟨rfl, rfl, by simp [newRoot]; omega, by simp [newRoot], by simp [newRoot], by simp [newRoot], rfl, hQ'⟩
  have hpl : ((ns.length : Int) :: Q).Perm (placesF 0 (ns.length + 1)) := by
    rw [placesF_append]
    refine (hp.cons _).trans ?_
    show ((ns.length : Int) :: placesF 0 ns.length).Perm (placesF 0 ns.length ++ placesF (0 + ns.length) 1)
    rw [Nat.zero_add]
    exact (List.perm_append_comm (l₁ := [(ns.length : Int)]) (l₂ := placesF 0 ns.length))
  have hnd : ((ns.length : Int) :: Q).Nodup := hpl.nodup_iff.2 (placesF_nodup _ _)
  have hs := split_ok htop hnd
  obtain ⟨Q', h1, h2⟩ := hs.sub
  refine ⟨⟨Q', h1, h2.trans ?_⟩, hs.cont.trans ?_⟩
  · have hle := hs.le
    rw [show (splitN (ns ++ [newRoot root more]) ns.length).1.length = (ns.length + 1) + ((splitN (ns ++ [newRoot root more]) ns.length).1.length - (ns ++ [newRoot root more]).length) by simp at hle ⊢; omega, placesF_append]
    have e : (ns ++ [newRoot root more]).length = 0 + (ns.length + 1) := by simp
    rw [e]
    refine (hpl.append_right _).trans ?_
    exact List.Perm.of_eq (by congr 2; simp at hle; omega)
  · simp [cont, newRoot]

theorem grow_ok : ∀ (f : Nat) {ns : List Nd} {h : Nat} {root : Int} {more : List (Int × Int)}, more.length ≤ f → RowOk ns h root more →
    (∃ h' Q, Sub 6 4 (growN f ns root more).1 h' (growN f ns root more).2 0 1099511627776 Q ∧ Q.Perm (placesF 0 (growN f ns root more).1.length)) ∧ ((growN f ns root more).1.flatMap cont).Perm (ns.flatMap cont) ∧ (growN f ns root more).1.length ≤ ns.length + more.length := by
  intro f
  induction f with
  | zero =>
    intro ns h root more hf hr
    obtain rfl : more = [] := List.eq_nil_of_length_eq_zero (by omega)
    obtain ⟨Q, ⟨Q1, Q2, rfl, h1, h2⟩, hp⟩ := hr.sub
    cases h2
    rw [List.append_nil] at hp
    exact ⟨⟨h, Q1, h1, hp⟩, List.Perm.refl _, by simp [growN]⟩
  | succ f ih =>
    intro ns h root more hf hr
    unfold growN
    split
    · rename_i hm
      subst hm
      obtain ⟨Q, ⟨Q1, Q2, rfl, h1, h2⟩, hp⟩ := hr.sub
      cases h2
      rw [List.append_nil] at hp
      exact ⟨⟨h, Q1, h1, hp⟩, List.Perm.refl _, by simp⟩
    · rename_i hm
      have hml : 1 ≤ more.length := by cases more with | nil => exact absurd rfl hm | cons => simp
      obtain ⟨hr', hc⟩ := row_step hr hm
      obtain ⟨l1, l2⟩ := splitN_more ns root more
      obtain ⟨a, b, c⟩ := ih (by rw [l1]; omega) hr'
      exact ⟨a, b.trans hc, by rw [l1, l2] at c; omega⟩

/-! ### What Check tells of it -/

theorem two_pow_succ (h : Nat) : 2 ^ (h + 1) = 2 ^ h + 2 ^ h := by rw [Nat.pow_succ]; omega

theorem Sub_size {mL mK : Nat} {ns : List Nd} : ∀ (h : Nat) (d lo hi : Int) (P : List Int), Sub mL mK ns h d lo hi P → 2 ^ (h + 1) ≤ P.length + 1
  | 0, _, _, _, _, h => by rw [h.2.1]; simp
  | h + 1, d, lo, hi, P, hs => by
    obtain ⟨_, Q, rfl, hin⟩ := hs
    have ih := Sub_size (mL := mL) (mK := mK) (ns := ns) h
    obtain ⟨kids, keys, hk1, hk2⟩ : ∃ kids keys, kids = (nth ns d).kids ∧ keys = (nth ns d).keys := ⟨_, _, rfl, rfl⟩
    have h2 := hin.two
    have h3 := hin.keys
    have h4 := hin.kids
    rw [← hk1] at h2 h3 h4
    rw [← hk2] at h3 h4
    match kids, keys, h2, h3, h4 with
    | a :: b :: r, k :: ks, _, _, h4 =>
      rw [ups_cons] at h4
      obtain ⟨Q1, Q2, rfl, g1, g2⟩ := h4
      have i1 := ih _ _ _ _ g1
      have : ∃ u r', ups (b :: r) ks hi = (b, u) :: r' := by cases ks <;> exact ⟨_, _, rfl⟩
      obtain ⟨u, r', e⟩ := this
      rw [e] at g2
      obtain ⟨Q3, Q4, rfl, g3, _⟩ := g2
      have i2 := ih _ _ _ _ g3
      rw [two_pow_succ (h + 1)]
      simp only [List.length_cons, List.length_append]
      omega

/-- What W yields where all is as it must be. -/
def Yields (S : St) (dp : Int) (P : List Int) (r : Option (St × List Int)) : Prop := ∃ S' l, r = some (S', l) ∧ (S'.map (·.1)).Perm (P ++ S.map (·.1)) ∧ l ≠ [] ∧ ∀ x ∈ l, x = dp

theorem Wk_yields {g : Int → Int → Int → St → Option (St × List Int)} {G : Rel} {dp : Int} (hg : ∀ d lo hi P S, G d lo hi P → P.Nodup → (∀ n ∈ P, n ∉ S.map (·.1)) → Yields S dp P (g d lo hi S)) :
    ∀ (kids keys : List Int) (lo hi : Int) (Q : List Int) (S : St), keys.length + 1 = kids.length → SubK G lo (ups kids keys hi) Q → Q.Nodup → (∀ n ∈ Q, n ∉ S.map (·.1)) → Yields S dp Q (Wk g kids keys lo hi S)
  | [], _, _, _, _, _, h, _, _, _ => by simp at h
  | [d], keys, lo, hi, Q, S, hl, hs, hn, hd => by
    obtain rfl : keys = [] := List.eq_nil_of_length_eq_zero (by simpa using hl)
    obtain ⟨Q1, Q2, rfl, h1, h2⟩ := hs
    cases h2
    rw [List.append_nil] at hn hd ⊢
    obtain ⟨S', l, e, hp, hne, ha⟩ := hg d lo hi Q1 S h1 hn hd
    refine ⟨S', l, ?_, hp, hne, ha⟩
    simp [Wk, e]
  | d :: d' :: ds, keys, lo, hi, Q, S, hl, hs, hn, hd => by
    cases keys with
    | nil => simp at hl
    | cons k ks =>
      rw [ups_cons] at hs
      obtain ⟨Q1, Q2, rfl, h1, h2⟩ := hs
      rw [List.nodup_append] at hn
      obtain ⟨S1, l1, e1, hp1, hne1, ha1⟩ := hg d lo k Q1 S h1 hn.1 (fun n hn' => hd n (List.mem_append_left _ hn'))
      obtain ⟨S2, l2, e2, hp2, hne2, ha2⟩ := Wk_yields hg (d' :: ds) ks k hi Q2 S1 (by simpa using hl) h2 hn.2.1 (fun n hn' hm => by
        rcases List.mem_append.1 (hp1.mem_iff.1 hm) with hm | hm
        · exact hn.2.2 n hm n hn' rfl
        · exact hd n (List.mem_append_right _ hn') hm)
      refine ⟨S2, l1 ++ l2, ?_, ?_, by simp [hne1], fun x hx => ?_⟩
      · show (match g d lo k S with | none => none | some (S1, l1) => match Wk g (d' :: ds) ks k hi S1 with | none => none | some (S2, l2) => some (S2, l1 ++ l2)) = _
        rw [e1]
        simp only
        rw [e2]
      · refine hp2.trans ((hp1.append_left Q2).trans ?_)
        rw [List.append_assoc]
        exact List.perm_append_comm_assoc _ _ _
      · rcases List.mem_append.1 hx with hx | hx
        · exact ha1 x hx
        · exact ha2 x hx

theorem Sub_W {ns : List Nd} : ∀ (h f : Nat) (n lo hi : Int) (P : List Int) (S : St), Sub 6 4 ns h n lo hi P → h < f → P.Nodup → (∀ m ∈ P, m ∉ S.map (·.1)) → Yields S (13 - (f : Int) + h) P (W ns f n lo hi S) := by
  intro h
  induction h with
  | zero =>
    intro f n lo hi P S hs hf hn hd
    obtain ⟨⟨h0, h1, hlt⟩, rfl, hl⟩ := hs
    obtain ⟨f, rfl⟩ : ∃ g, f = g + 1 := ⟨f - 1, by omega⟩
    have hseen : seenB S n = false := by
      have := hd n (by simp)
      cases hb : seenB S n with
      | false => rfl
      | true => exact absurd (seenB_iff.1 hb) this
    have hlB : leafB (nth ns n) lo hi f = true := leafB_iff.2 ⟨hl.keys, hl.kids, hl.buf, hl.most, .inr hl.ne, hl.ents⟩
    refine ⟨(n, 12 - (f : Int)) :: S, [12 - (f : Int)], ?_, by simp, by simp, by simp; omega⟩
    rw [W_succ, if_neg (by simp [hseen]; omega)]
    show (if (nth ns n).leaf = true then _ else _) = _
    rw [if_pos hl.leaf]
    show (if leafB (nth ns n) lo hi f = true then _ else _) = _
    rw [if_pos hlB]
  | succ h ih =>
    intro f n lo hi P S hs hf hn hd
    obtain ⟨⟨h0, h1, hlt⟩, Q, rfl, hl⟩ := hs
    obtain ⟨f, rfl⟩ : ∃ g, f = g + 1 := ⟨f - 1, by omega⟩
    have hseen : seenB S n = false := by
      have := hd n (by simp)
      cases hb : seenB S n with
      | false => rfl
      | true => exact absurd (seenB_iff.1 hb) this
    have hiB : innerB (nth ns n) lo hi = true := by
      simp only [innerB, Bool.and_eq_true, decide_eq_true_eq, beq_iff_eq, List.isEmpty_iff]
      exact ⟨⟨⟨⟨⟨hl.ents, hl.two⟩, hl.most⟩, hl.keys⟩, hl.few⟩, hl.buf⟩
    rw [List.nodup_cons] at hn
    obtain ⟨S', l, e, hp, hne, ha⟩ := Wk_yields (dp := 13 - (f : Int) + h) (fun d lo hi P S a b c => ih f d lo hi P S a (by omega) b c) (nth ns n).kids (nth ns n).keys lo hi Q ((n, 12 - (f : Int)) :: S) hl.keys hl.kids hn.2 (fun m hm hm' => by
      rw [List.map_cons, List.mem_cons] at hm'
      rcases hm' with rfl | hm'
      · exact hn.1 hm
      · exact hd m (List.mem_cons_of_mem _ hm) hm')
    refine ⟨S', l, ?_, hp.trans ?_, hne, fun x hx => by rw [ha x hx]; push_cast; omega⟩
    · rw [W_succ, if_neg (by simp [hseen]; omega)]
      show (if (nth ns n).leaf = true then _ else if innerB (nth ns n) lo hi = true then _ else _) = _
      rw [if_neg (by simp [hl.leaf]), if_pos hiB]
      exact e
    · rw [List.map_cons]
      exact List.perm_middle

theorem placesF_len {Q : List Int} {N : Nat} (h : Q.Perm (placesF 0 N)) : Q.length = N := by rw [h.length_eq, placesF_length]

theorem Sub_treeC {ns : List Nd} {h : Nat} {root : Int} {Q : List Int} (hs : Sub 6 4 ns h root 0 1099511627776 Q) (hp : Q.Perm (placesF 0 ns.length)) (hz : ns.length ≤ 2000) : treeC ns root = 0 := by
  have hl := placesF_len hp
  have h1 := Sub_size h _ _ _ _ hs
  have hh : h < 12 := by
    apply Classical.byContradiction
    intro e
    have : 2 ^ 13 ≤ 2 ^ (h + 1) := Nat.pow_le_pow_right (by decide) (by omega)
    omega
  obtain ⟨S', l, e, hpm, hne, ha⟩ := Sub_W h 12 root 0 1099511627776 Q [] hs hh (hp.nodup_iff.2 (placesF_nodup _ _)) (by simp)
  unfold treeC
  rw [if_neg (by omega), e]
  simp only
  rw [if_pos]
  refine ⟨?_, ?_⟩
  · unfold okL
    rw [if_pos rfl, List.all_eq_true]
    intro x hx
    rw [beq_iff_eq, ha x hx]
    cases l with
    | nil => exact absurd rfl hne
    | cons y r => exact (ha y (by simp)).symm
  · have := hpm.length_eq
    simp at this
    omega

end Go.Proofs.YtlojfgdpmaigmacGreatDoor

/- A tree in memory of one's own that grows: its nodes in a row that may move, each list in a block of its own. -/
namespace Go.Proofs.YtlojfgdpmaigmacGreatDoor
open Go.RowKit Plain

def feet (g : Nat) (qs : List PN) : List Nat := g :: qs.flatMap PN.blocks

structure NT (base : Nat) (w : World) (g C : Nat) (qs : List PN) : Prop where
  own : w.ownsRow base 84 5 (.slice (some ⟨g, 0, none⟩) qs.length C) qs.length (flatN qs)
  each : ∀ q ∈ qs, q.own base w
  apart : (feet g qs).Nodup
  z : qs.length * 104 ≤ 140737488351232

/-- .. and the variable that holds it. -/
structure TB (base : Nat) (w : World) (tb g C : Nat) (qs : List PN) (root : Int) : Prop where
  nt : NT base w g C qs
  box : RowL w tb 26 [.slice (some ⟨g, 0, none⟩) qs.length C, .int .i64 root]
  ne : tb ∉ feet g qs
  hb : base ≤ tb

section
variable {base g C : Nat} {w w' : World} {qs : List PN}

theorem NT.glt (h : NT base w g C qs) : base ≤ g ∧ g < w.heap.size := h.own.lt g rfl

theorem NT.lt (h : NT base w g C qs) : ∀ k ∈ feet g qs, base ≤ k ∧ k < w.heap.size := by
  intro k hk
  rcases List.mem_cons.1 hk with rfl | hk
  · exact h.glt
  · obtain ⟨q, hq, hk⟩ := List.mem_flatMap.1 hk
    exact (h.each q hq).lt k hk

theorem NT.of_blocks (h : NT base w g C qs) (hk : ∀ k ∈ feet g qs, w'.heap[k]? = w.heap[k]?) : NT base w' g C qs :=
  ⟨own_of_block h.own fun k hb => hk k (by simp [Value.ownBlock] at hb; subst hb; exact List.mem_cons_self), fun q hq => (h.each q hq).of_blocks fun k hb => hk k (List.mem_cons_of_mem _ (List.mem_flatMap.2 ⟨q, hq, hb⟩)), h.apart, h.z⟩

theorem NT.below {B : Nat} (h : NT base w g C qs) (hb : Below B w w') (hB : w.heap.size ≤ B) : NT base w' g C qs :=
  h.of_blocks fun k hk => hb.block k (Nat.lt_of_lt_of_le (h.lt k hk).2 hB)

theorem NT.cell (h : NT base w g C qs) {j : Nat} (hj : j < qs.length * 5) : w.cell? ⟨g, j, none⟩ = (flatN qs)[j]? := h.own.cellAt j hj

theorem NT.node (h : NT base w g C qs) {k : Nat} (hk : k < qs.length) : PnAt w g (k * 5) qs[k] := by
  have c : ∀ j, j < 5 → ∀ u, (qs[k]).vals[j]? = some u → w.cell? ⟨g, k * 5 + j, none⟩ = some u := fun j hj u hu => by
    rw [h.cell (by omega), flatN_get qs k j hk hj]; exact hu
  exact ⟨c 0 (by decide) _ rfl, c 1 (by decide) _ rfl, c 2 (by decide) _ rfl, c 3 (by decide) _ rfl, c 4 (by decide) _ rfl⟩

theorem NT.free (h : NT base w g C qs) (j : Nat) : w.frozen? ⟨g, j, none⟩ = false := h.own.frozenAt j

theorem NT.nodes (h : NT base w g C qs) : NodesAt w.heap.size w (some ⟨g, 0, none⟩) qs :=
  ⟨(own_ok h.own).1, fun _ hk => (h.each _ (List.getElem_mem hk)).ok, h.z⟩
end

theorem set_nodeAt (qs : List PN) (k : Nat) (hk : k < qs.length) (p : PN) :
    (((((flatN qs).set (k * 5) (.bool p.leaf)).set (k * 5 + 1) (.slice p.eA p.ents.length p.eC)).set (k * 5 + 2) (.slice p.kA p.keys.length p.kC)).set (k * 5 + 3) (.slice p.dA p.kids.length p.dC)).set (k * 5 + 4) (.slice p.bA p.buf.length p.bC) = flatN (qs.set k p) := by
  obtain ⟨e1, e2⟩ := set_split qs k p hk
  rw [e2]
  conv => lhs; rw [e1]
  have h := set_node (qs.take k) (qs.drop (k + 1)) qs[k] p
  rw [List.length_take, Nat.min_eq_left (Nat.le_of_lt hk)] at h
  exact h

theorem own_set {w : World} {base : Nat} {e : TypeId} {size n g C : Nat} {vs : List Value} (h : w.ownsRow base e size (.slice (some ⟨g, 0, none⟩) n C) n vs) (j : Nat) (v : Value) :
    (w.setCell ⟨g, j, none⟩ v).ownsRow base e size (.slice (some ⟨g, 0, none⟩) n C) n (vs.set j v) := by
  refine ⟨by simp [h.1], .inr ?_⟩
  rcases h.2 with ⟨hv, _⟩ | ⟨g', cap, cur, hv, hb, hg, hl, hm, hs, ht⟩
  · cases hv
  · cases hv
    refine ⟨g, C, cur.setIfInBounds j v, rfl, hb, ?_, hl, hm, by simp [hs], ?_⟩
    · simp [World.setCell, Array.getElem?_modify, hg]
    · rw [Array.toList_setIfInBounds, List.take_set, ht]

theorem feet_set {g k : Nat} {qs : List PN} {p : PN} (hk : k < qs.length) (ha : (feet g qs).Nodup) (hn : p.blocks.Nodup) (hd : ∀ b ∈ p.blocks, b ∉ feet g qs) : (feet g (qs.set k p)).Nodup ∧ ∀ b ∈ feet g (qs.set k p), b ∈ feet g qs ∨ b ∈ p.blocks := by
  obtain ⟨A, x, B, hq, hset⟩ : ∃ A x B, qs = A ++ x :: B ∧ qs.set k p = A ++ p :: B := ⟨_, _, _, set_split qs k p hk⟩
  rw [hset]
  clear hset hk
  subst hq
  unfold feet at *
  simp only [List.flatMap_append, List.flatMap_cons, List.nodup_cons, List.nodup_append, List.mem_append, List.mem_cons, not_or] at *
  obtain ⟨⟨a1, a2, a3⟩, a4, ⟨a5, a6, a7⟩, a8⟩ := ha
  refine ⟨⟨⟨a1, fun h => (hd g h).1 rfl, a3⟩, a4, ⟨hn, a6, fun b hb c hc e => (hd b hb).2.2.2 (e ▸ hc)⟩, fun b hb c hc e => ?_⟩, fun b hb => ?_⟩
  · rcases hc with hc | hc
    · exact (hd c hc).2.1 (e ▸ hb)
    · exact a8 b hb c (.inr hc) e
  · rcases hb with hb | hb | hb | hb
    · exact .inl (.inl hb)
    · exact .inl (.inr (.inl hb))
    · exact .inr hb
    · exact .inl (.inr (.inr (.inr hb)))

theorem NT.setNode {base g C k : Nat} {w : World} {qs : List PN} {p : PN} (h : NT base w g C qs) (hk : k < qs.length) (hp : p.own base w) (hn : p.blocks.Nodup) (hd : ∀ b ∈ p.blocks, b ∉ feet g qs) :
    NT base (((((w.setCell ⟨g, k * 5, none⟩ (.bool p.leaf)).setCell ⟨g, k * 5 + 1, none⟩ (.slice p.eA p.ents.length p.eC)).setCell ⟨g, k * 5 + 2, none⟩ (.slice p.kA p.keys.length p.kC)).setCell ⟨g, k * 5 + 3, none⟩ (.slice p.dA p.kids.length p.dC)).setCell ⟨g, k * 5 + 4, none⟩ (.slice p.bA p.buf.length p.bC)) g C (qs.set k p) := by
  have hg : g ∉ p.blocks := fun e => hd g e List.mem_cons_self
  have hs : ∀ b, b ≠ g → (((((w.setCell ⟨g, k * 5, none⟩ (.bool p.leaf)).setCell ⟨g, k * 5 + 1, none⟩ (.slice p.eA p.ents.length p.eC)).setCell ⟨g, k * 5 + 2, none⟩ (.slice p.kA p.keys.length p.kC)).setCell ⟨g, k * 5 + 3, none⟩ (.slice p.dA p.kids.length p.dC)).setCell ⟨g, k * 5 + 4, none⟩ (.slice p.bA p.buf.length p.bC)).heap[b]? = w.heap[b]? := fun b hb => set5_block w g (k * 5) _ _ _ _ _ hb
  refine ⟨?_, fun q hq => ?_, (feet_set hk h.apart hn hd).1, by simpa using h.z⟩
  · rw [← set_nodeAt qs k hk p, List.length_set]
    exact own_set (own_set (own_set (own_set (own_set h.own _ _) _ _) _ _) _ _) _ _
  · rcases List.mem_or_eq_of_mem_set hq with hq | rfl
    · refine (h.each q hq).of_blocks fun b hb => hs b ?_
      rintro rfl
      have := h.apart
      rw [feet, List.nodup_cons] at this
      exact this.1 (List.mem_flatMap.2 ⟨q, hq, hb⟩)
    · exact hp.of_blocks fun b hb => hs b (fun e => hg (e ▸ hb))

theorem flatN_one (ps : List PN) : ∀ u ∈ flatN ps, u.oneCell' = true := by
  induction ps with
  | nil => simp [flatN]
  | cons x r ih =>
    intro u hu
    simp only [flatN, PN.vals, List.cons_append, List.nil_append, List.mem_cons] at hu
    rcases hu with h | h | h | h | h | h
    all_goals first | (subst h; rfl) | exact ih u h

theorem newsN (W : World) (b : Nat) (t : TypeId) (p : PN) (h : RowL W b t p.vals) : ∀ j u, (flatN [p])[j]? = some u → W.cell? (Addr.add ⟨b, 0, none⟩ j) = some u := by
  intro j u hu
  rw [WideShapes.add_plain, Nat.zero_add, h.cell]
  simpa [flatN] using hu

theorem feet_append {g' : Nat} {g : Nat} {qs : List PN} {q : PN} (ha : (feet g qs).Nodup) (hn : q.blocks.Nodup) (hd : ∀ b ∈ q.blocks, b ∉ feet g qs) (hg : g' = g ∨ (g' ∉ feet g qs ∧ g' ∉ q.blocks)) : (feet g' (qs ++ [q])).Nodup := by
  unfold feet at *
  simp only [List.flatMap_append, List.flatMap_cons, List.flatMap_nil, List.append_nil, List.nodup_cons, List.nodup_append, List.mem_append, List.mem_cons, not_or] at *
  refine ⟨⟨?_, ?_⟩, ha.2, hn, fun b hb c hc e => (hd c hc).2 (e ▸ hb)⟩
  · rcases hg with rfl | hg
    · exact ha.1
    · exact hg.1.2
  · rcases hg with rfl | hg
    · intro h; exact (hd g' h).1 rfl
    · exact hg.2

end Go.Proofs.YtlojfgdpmaigmacGreatDoor

/- What comes together, in whatever order: rollups, and entries by their keys. -/
namespace Go.Proofs.YtlojfgdpmaigmacGreatDoor
open Go.RowKit Plain

theorem Ru.ext' {a b : Ru} (h1 : a.c = b.c) (h2 : a.s = b.s) (h3 : a.lo = b.lo) (h4 : a.hi = b.hi) (h5 : a.t = b.t) (h6 : a.l = b.l) : a = b := by
  cases a; cases b; simp at *; exact ⟨h1, h2, h3, h4, h5, h6⟩

theorem mn_comm (a b : Int) : mn a b = mn b a := by unfold mn; split <;> split <;> omega
theorem mx_comm (a b : Int) : mx a b = mx b a := by unfold mx; split <;> split <;> omega
theorem mn_assoc (a b c : Int) : mn (mn a b) c = mn a (mn b c) := by
  unfold mn
  by_cases h1 : a ≤ b <;> by_cases h2 : b ≤ c <;> by_cases h3 : a ≤ c <;> simp [h1, h2, h3] <;> omega
theorem mx_assoc (a b c : Int) : mx (mx a b) c = mx a (mx b c) := by
  unfold mx
  by_cases h1 : a ≤ b <;> by_cases h2 : b ≤ c <;> by_cases h3 : a ≤ c <;> simp [h1, h2, h3] <;> omega

theorem ltr_iff {t l t' l' : Int} : ltr t l t' l' = true ↔ t' < t ∨ (t = t' ∧ l' < l) := by simp [ltr]

/-- The later of two last points, as a pair. -/
theorem jn_tl (a b : Ru) : ((jn a b).t = a.t ∧ (jn a b).l = a.l ∧ (b.t < a.t ∨ (a.t = b.t ∧ b.l < a.l))) ∨ ((jn a b).t = b.t ∧ (jn a b).l = b.l ∧ ¬ (b.t < a.t ∨ (a.t = b.t ∧ b.l < a.l))) := by
  by_cases h : ltr a.t a.l b.t b.l = true
  · left
    refine ⟨?_, ?_, ltr_iff.1 h⟩ <;> simp [jn, pk, h]
  · right
    refine ⟨?_, ?_, fun e => h (ltr_iff.2 e)⟩ <;> simp [jn, pk, h]

theorem jn_comm (a b : Ru) : jn a b = jn b a := by
  have h1 := jn_tl a b
  have h2 := jn_tl b a
  refine Ru.ext' (Int.add_comm _ _) (Int.add_comm _ _) (mn_comm _ _) (mx_comm _ _) ?_ ?_ <;> omega

theorem jn_assoc (a b c : Ru) : jn (jn a b) c = jn a (jn b c) := by
  have h1 := jn_tl a b
  have h2 := jn_tl (jn a b) c
  have h3 := jn_tl b c
  have h4 := jn_tl a (jn b c)
  refine Ru.ext' (Int.add_assoc _ _ _) (Int.add_assoc _ _ _) (mn_assoc _ _ _) (mx_assoc _ _ _) ?_ ?_
  · rcases h1 with h1 | h1 <;> rcases h3 with h3 | h3 <;> omega
  · rcases h1 with h1 | h1 <;> rcases h3 with h3 | h3 <;> omega

/-- A rollup that may be, of some points. -/
def Good (a : Ru) : Prop := chk a = 0 ∧ a.c ≠ 0

theorem good_iff {a : Ru} : Good a ↔ (1 ≤ a.c ∧ a.c ≤ 1073741824) ∧ (0 ≤ a.t ∧ a.t ≤ 1048575) ∧ -1000000 ≤ a.lo ∧ a.hi ≤ 1000000 ∧ (a.lo ≤ a.l ∧ a.l ≤ a.hi) ∧ (a.c * a.lo ≤ a.s ∧ a.s ≤ a.c * a.hi) := by
  constructor
  · rintro ⟨h, hc⟩
    obtain ⟨b1, b2, b3, b4, b5, b6⟩ := check_bounds h
    have m1 := mulbd (x := a.lo) b1.1 b1.2 b4.1 b4.2
    have m2 := mulbd (x := a.hi) b1.1 b1.2 b5.1 b5.2
    have hf : formB a.c a.s a.lo a.hi a.t a.l = true := by
      unfold chk checkC at h
      split at h
      · split at h
        · assumption
        · omega
      · omega
    unfold formB at hf
    rw [if_neg hc, w64 _ (by omega), w64 _ (by omega)] at hf
    simp only [Bool.and_eq_true, inB_iff] at hf
    exact ⟨by omega, b3, b4.1, b5.2, hf.1, hf.2⟩
  · rintro ⟨h1, h2, h3, h4, h5, h6⟩
    exact ⟨chk_ok (by omega) h1.2 h2 h3 h4 h5 h6, by omega⟩

theorem mn_le (a b : Int) : mn a b ≤ a ∧ mn a b ≤ b ∧ (mn a b = a ∨ mn a b = b) := by unfold mn; split <;> omega
theorem mx_ge (a b : Int) : a ≤ mx a b ∧ b ≤ mx a b ∧ (mx a b = a ∨ mx a b = b) := by unfold mx; split <;> omega

theorem good_jn {a b : Ru} (ha : Good a) (hb : Good b) (h : a.c + b.c ≤ 1073741824) : Good (jn a b) := by
  rw [good_iff] at *
  obtain ⟨a1, a2, a3, a4, a5, a6⟩ := ha
  obtain ⟨b1, b2, b3, b4, b5, b6⟩ := hb
  have n := mn_le a.lo b.lo
  have x := mx_ge a.hi b.hi
  have tl := jn_tl a b
  have e1 : (jn a b).lo = mn a.lo b.lo := rfl
  have e2 : (jn a b).hi = mx a.hi b.hi := rfl
  have e3 : (jn a b).c = a.c + b.c := rfl
  have e4 : (jn a b).s = a.s + b.s := rfl
  have p1 := Int.mul_le_mul_of_nonneg_left n.1 (show 0 ≤ a.c by omega)
  have p2 := Int.mul_le_mul_of_nonneg_left n.2.1 (show 0 ≤ b.c by omega)
  have p3 := Int.mul_le_mul_of_nonneg_left x.1 (show 0 ≤ a.c by omega)
  have p4 := Int.mul_le_mul_of_nonneg_left x.2.1 (show 0 ≤ b.c by omega)
  rw [e1, e2, e3, e4, Int.add_mul, Int.add_mul]
  refine ⟨by omega, by omega, by omega, by omega, by omega, by omega⟩

theorem mrg_good {a b : Ru} (ha : Good a) (hb : Good b) : mrg a b = if a.c + b.c ≤ 1073741824 then (jn a b, 0) else (zro, 1) := by
  have ga := good_iff.1 ha
  have gb := good_iff.1 hb
  split
  · rename_i h
    refine mrg_5 ha.1 hb.1 ha.2 hb.2 h ?_
    have gj := good_iff.1 (good_jn ha hb h)
    have hc := check_bounds (good_jn ha hb h).1
    rw [inB_iff]
    exact hc.2.1
  · rename_i h
    exact mrg_6 ha.1 hb.1 ha.2 hb.2 (fun e => h e.1)

theorem mrg_zro {b : Ru} (hb : Good b) : mrg zro b = (b, 0) := mrg_3 chk_zro hb.1 rfl

/-! ### Entries -/

def En.ru (x : En) : Ru := ⟨x.c, x.s, x.lo, x.hi, x.t, x.l⟩
def mkE (k : Int) (r : Ru) : En := ⟨k, r.c, r.s, r.lo, r.hi, r.t, r.l⟩
theorem mkE_ru (k : Int) (r : Ru) : (mkE k r).ru = r := rfl
theorem ru_mkE (x : En) : mkE x.key x.ru = x := rfl
theorem mkE_key (k : Int) (r : Ru) : (mkE k r).key = k := rfl
theorem mkE_c (k : Int) (r : Ru) : (mkE k r).c = r.c := rfl

theorem entB_good {x : En} {low high : Int} (h : entB x low high = true) : Good x.ru := by
  simp only [entB, Bool.and_eq_true, Bool.not_eq_true', beq_eq_false_iff_ne, beq_iff_eq] at h
  exact ⟨h.2, h.1.2⟩

theorem entsB_good {high : Int} : ∀ {xs : List En} {low : Int}, entsB xs low high = true → ∀ x ∈ xs, Good x.ru
  | [], _, _, x, hx => by simp at hx
  | y :: r, low, h, x, hx => by
    simp only [entsB, Bool.and_eq_true] at h
    rcases List.mem_cons.1 hx with rfl | hx
    · exact entB_good h.1
    · exact entsB_good h.2 x hx

/-- Entries with one more; none: what is known of its key can't come together. -/
def ins : List En → En → Option (List En)
  | [], x => some [x]
  | y :: r, x =>
    if x.key < y.key then some (x :: y :: r)
    else if y.key = x.key then (if y.c + x.c ≤ 1073741824 then some (mkE x.key (jn y.ru x.ru) :: r) else none)
    else (ins r x).map (y :: ·)
def insO (o : Option (List En)) (x : En) : Option (List En) := o.bind fun l => ins l x
def allL (xs : List En) : Option (List En) := xs.foldl insO (some [])

theorem ins_lt {y x : En} {r : List En} (h : x.key < y.key) : ins (y :: r) x = some (x :: y :: r) := by simp [ins, h]
theorem ins_eq {y x : En} {r : List En} (h : y.key = x.key) : ins (y :: r) x = if y.c + x.c ≤ 1073741824 then some (mkE x.key (jn y.ru x.ru) :: r) else none := by
  simp [ins, h]
theorem ins_gt {y x : En} {r : List En} (h : y.key < x.key) : ins (y :: r) x = (ins r x).map (y :: ·) := by
  simp only [ins]
  rw [if_neg (by omega), if_neg (by omega)]

theorem map_bind_cons {o : Option (List En)} {y x : En} (h : y.key < x.key) : (o.map (y :: ·)).bind (ins · x) = (o.bind (ins · x)).map (y :: ·) := by
  cases o with
  | none => rfl
  | some l => simp [ins_gt h]

theorem ins_comm {x y : En} (hx : 1 ≤ x.c) (hy : 1 ≤ y.c) : ∀ l : List En, (ins l x).bind (ins · y) = (ins l y).bind (ins · x)
  | [] => by
    simp only [ins, Option.bind_some]
    rcases Int.lt_trichotomy x.key y.key with h | h | h
    · have h1 : ¬ y.key < x.key := by omega
      have h2 : ¬ x.key = y.key := by omega
      simp [h, h1, h2]
    · have h1 : ¬ y.key < x.key := by omega
      have h2 : ¬ x.key < y.key := by omega
      simp only [h, Int.lt_irrefl, if_false, if_true]
      rw [Int.add_comm y.c x.c, jn_comm y.ru x.ru]
    · have h1 : ¬ x.key < y.key := by omega
      have h2 : ¬ y.key = x.key := by omega
      simp [h, h1, h2]
  | z :: r => by
    rcases Int.lt_trichotomy x.key z.key with hxz | hxz | hxz <;> rcases Int.lt_trichotomy y.key z.key with hyz | hyz | hyz
    · rw [ins_lt hxz, ins_lt hyz]
      simp only [Option.bind_some]
      rcases Int.lt_trichotomy x.key y.key with h | h | h
      · rw [ins_gt h, ins_lt h, ins_lt hyz]; rfl
      · rw [ins_eq h, ins_eq h.symm, Int.add_comm y.c x.c, jn_comm y.ru x.ru, h]
      · rw [ins_lt h, ins_gt h, ins_lt hxz]; rfl
    · rw [ins_lt hxz, ins_eq hyz.symm]
      simp only [Option.bind_some]
      rw [ins_gt (by omega), ins_eq hyz.symm]
      split
      · simp only [Option.map_some, Option.bind_some]
        rw [ins_lt (by rw [mkE_key]; omega)]
      · rfl
    · rw [ins_lt hxz, ins_gt hyz]
      simp only [Option.bind_some]
      rw [ins_gt (by omega), ins_gt hyz]
      cases ins r y with
      | none => rfl
      | some l => simp [ins_lt hxz]
    · rw [ins_eq hxz.symm, ins_lt hyz]
      simp only [Option.bind_some]
      rw [ins_gt (by omega), ins_eq hxz.symm]
      split
      · simp only [Option.map_some, Option.bind_some]
        rw [ins_lt (by rw [mkE_key]; omega)]
      · rfl
    · rw [ins_eq hxz.symm, ins_eq hyz.symm]
      have hxy : x.key = y.key := by omega
      by_cases h1 : z.c + x.c ≤ 1073741824 <;> by_cases h2 : z.c + y.c ≤ 1073741824
      · simp only [h1, h2, if_true, Option.bind_some]
        rw [ins_eq (by rw [mkE_key]; exact hxy), ins_eq (by rw [mkE_key]; exact hxy.symm)]
        show (if z.c + x.c + y.c ≤ 1073741824 then some (mkE y.key (jn (jn z.ru x.ru) y.ru) :: r) else none) = if z.c + y.c + x.c ≤ 1073741824 then some (mkE x.key (jn (jn z.ru y.ru) x.ru) :: r) else none
        rw [jn_assoc, jn_assoc, jn_comm x.ru y.ru, hxy]
        by_cases h3 : z.c + x.c + y.c ≤ 1073741824
        · rw [if_pos h3, if_pos (by omega)]
        · rw [if_neg h3, if_neg (by omega)]
      · simp only [h1, h2, if_true, if_false, Option.bind_some, Option.bind_none]
        rw [ins_eq (by rw [mkE_key]; exact hxy)]
        exact if_neg (show ¬ z.c + x.c + y.c ≤ 1073741824 by omega)
      · simp only [h1, h2, if_true, if_false, Option.bind_some, Option.bind_none]
        rw [ins_eq (by rw [mkE_key]; exact hxy.symm)]
        exact (if_neg (show ¬ z.c + y.c + x.c ≤ 1073741824 by omega)).symm
      · simp [h1, h2]
    · rw [ins_eq hxz.symm, ins_gt hyz]
      by_cases h1 : z.c + x.c ≤ 1073741824
      · simp only [h1, if_true, Option.bind_some]
        rw [ins_gt (by rw [mkE_key]; omega)]
        cases ins r y with
        | none => rfl
        | some l => simp [ins_eq hxz.symm, h1]
      · simp only [h1, if_false, Option.bind_none]
        cases ins r y with
        | none => rfl
        | some l => simp [ins_eq hxz.symm, h1]
    · rw [ins_gt hxz, ins_lt hyz]
      simp only [Option.bind_some]
      rw [ins_gt (by omega), ins_gt hxz]
      cases ins r x with
      | none => rfl
      | some l => simp [ins_lt hyz]
    · rw [ins_gt hxz, ins_eq hyz.symm]
      by_cases h1 : z.c + y.c ≤ 1073741824
      · simp only [h1, if_true, Option.bind_some]
        rw [ins_gt (by rw [mkE_key]; omega)]
        cases ins r x with
        | none => rfl
        | some l => simp [ins_eq hyz.symm, h1]
      · simp only [h1, if_false, Option.bind_none]
        cases ins r x with
        | none => rfl
        | some l => simp [ins_eq hyz.symm, h1]
    · rw [ins_gt hxz, ins_gt hyz, map_bind_cons hyz, map_bind_cons hxz, ins_comm hx hy r]

/-- It does not matter in what order entries come together. -/
theorem allL_perm {l₁ l₂ : List En} (h : l₁.Perm l₂) (hp : ∀ x ∈ l₁, 1 ≤ x.c) : allL l₁ = allL l₂ := by
  unfold allL
  refine h.foldl_eq' (fun x hx y hy z => ?_) _
  cases z with
  | none => rfl
  | some l => exact ins_comm (hp x hx) (hp y hy) l

end Go.Proofs.YtlojfgdpmaigmacGreatDoor

/- Plain facts on the document's AllOf: what the nodes of a tree that may be hold, and what comes of putting it together. -/
namespace Go.Proofs.YtlojfgdpmaigmacGreatDoor
open Go.RowKit Plain

def NodeOk (x : Nd) : Prop := x.ents.length ≤ 6 ∧ x.buf.length ≤ 8 ∧ (∀ y ∈ x.ents, Good y.ru) ∧ ∀ y ∈ x.buf, Good y.ru

theorem leaf_ok {x : Nd} {low high : Int} {f : Nat} (h : leafB x low high f = true) : NodeOk x := by
  obtain ⟨_, _, h3, h4, _, h6⟩ := leafB_iff.1 h
  exact ⟨h4, by rw [h3]; simp, entsB_good h6, by rw [h3]; simp⟩

theorem inner_ok {x : Nd} {low high : Int} (h : innerB x low high = true) : NodeOk x := by
  obtain ⟨h1, _, _, _, h5, h6⟩ := innerB_kids h
  exact ⟨by rw [h1]; simp, h5, by rw [h1]; simp, entsB_good h6⟩

theorem Wk_each {ns : List Nd} {g : Int → Int → Int → St → Option (St × List Int)} (hg : ∀ d lo hi S S' l, g d lo hi S = some (S', l) → ∀ p ∈ S', p ∈ S ∨ NodeOk (ns.getD p.1.toNat default)) :
    ∀ (ds keys : List Int) (lo hi : Int) (S S' : St) (l : List Int), Wk g ds keys lo hi S = some (S', l) → ∀ p ∈ S', p ∈ S ∨ NodeOk (ns.getD p.1.toNat default)
  | [], _, _, _, _, _, _, h, p, hp => by cases h; exact .inl hp
  | d :: ds, keys, lo, hi, S, S', l, hr, p, hp => by
    unfold Wk at hr
    split at hr
    · cases hr
    · rename_i S1 l1 h1
      split at hr
      · cases hr
      · rename_i S2 l2 h2
        cases hr
        rcases Wk_each hg _ _ _ _ _ _ _ h2 p hp with h | h
        · exact hg _ _ _ _ _ _ h1 p h
        · exact .inr h

theorem W_each {ns : List Nd} : ∀ (f : Nat) (n lo hi : Int) (S S' : St) (l : List Int), W ns f n lo hi S = some (S', l) → ∀ p ∈ S', p ∈ S ∨ NodeOk (ns.getD p.1.toNat default) := by
  intro f
  induction f with
  | zero => intro n lo hi S S' l h; cases h
  | succ f ih =>
    intro n lo hi S S' l h p hp
    unfold W at h
    split at h
    · cases h
    · split at h
      · split at h
        · rename_i hl
          cases h
          rcases List.mem_cons.1 hp with rfl | hp
          · exact .inr (leaf_ok hl)
          · exact .inl hp
        · cases h
      · split at h
        · rename_i hin
          rcases Wk_each ih _ _ _ _ _ _ _ h p hp with h | h
          · rcases List.mem_cons.1 h with rfl | h
            · exact .inr (inner_ok hin)
            · exact .inl h
          · exact .inr h
        · cases h

theorem tree_each {ns : List Nd} {root : Int} (h : treeC ns root = 0) : ns.length ≤ 2000 ∧ ∀ i (hi : i < ns.length), NodeOk ns[i] := by
  unfold treeC at h
  split at h
  · omega
  · rename_i hn
    refine ⟨by omega, fun i hi => ?_⟩
    cases hW : W ns 12 root 0 1099511627776 [] with
    | none => rw [hW] at h; simp at h
    | some p =>
      obtain ⟨S, l⟩ := p
      rw [hW] at h
      simp only at h
      split at h
      · rename_i hc
        have hst := (W_st 12 _ _ _ _ _ _ hW ⟨by simp, by simp⟩).1
        have hseen := (all_seen hst).1 hc.2 i hi
        obtain ⟨p, hp, hpe⟩ := List.mem_map.1 (seenB_iff.1 hseen)
        rcases W_each 12 _ _ _ _ _ _ hW p hp with h | h
        · simp at h
        · rw [hpe] at h
          simpa [hi] using h
      · omega

/-- What the document has come to behind i nodes and k entries of the next one. -/
def Nd.lst (x : Nd) : List En := x.ents ++ x.buf
def soFar (ns : List Nd) (i k : Nat) : List En := (ns.take i).flatMap Nd.lst ++ ((ns.getD i default).lst).take k

def allR (low high : Int) (xs : List En) : Option (List En) := allL (xs.filter (inR low high))

theorem allL_snoc (xs : List En) (x : En) : allL (xs ++ [x]) = insO (allL xs) x := by simp [allL]

/-- What can't come together stays so. -/
theorem fold_none : ∀ ys : List En, ys.foldl insO none = none
  | [] => rfl
  | _ :: r => fold_none r
theorem allR_none {low high : Int} {xs ys : List En} (h : allR low high xs = none) : allR low high (xs ++ ys) = none := by
  unfold allR allL at *
  rw [List.filter_append, List.foldl_append, h, fold_none]

theorem ins_good {x : En} (hx : Good x.ru) : ∀ {l r : List En}, (∀ y ∈ l, Good y.ru) → ins l x = some r → (∀ y ∈ r, Good y.ru) ∧ r.length ≤ l.length + 1
  | [], r, _, h => by simp [ins] at h; subst h; simpa using hx
  | y :: l, r, hl, h => by
    have hy := hl y List.mem_cons_self
    have hl' : ∀ z ∈ l, Good z.ru := fun z hz => hl z (List.mem_cons_of_mem _ hz)
    simp only [ins] at h
    split at h
    · cases h
      refine ⟨fun z hz => ?_, by simp⟩
      rcases List.mem_cons.1 hz with rfl | hz
      · exact hx
      · exact hl z hz
    · split at h
      · split at h
        · rename_i hc
          cases h
          refine ⟨fun z hz => ?_, by simp⟩
          rcases List.mem_cons.1 hz with rfl | hz
          · exact good_jn hy hx hc
          · exact hl' z hz
        · cases h
      · cases hr : ins l x with
        | none => rw [hr] at h; cases h
        | some q =>
          rw [hr] at h
          cases h
          have ih := ins_good hx hl' hr
          refine ⟨fun z hz => ?_, by simp; omega⟩
          rcases List.mem_cons.1 hz with rfl | hz
          · exact hy
          · exact ih.1 z hz

end Go.Proofs.YtlojfgdpmaigmacGreatDoor

/- The document's WithEntry: entries with one more. -/
namespace Go.Proofs.YtlojfgdpmaigmacGreatDoor
open Go.RowKit Plain

theorem ins_app {x : En} : ∀ {l : List En} (r : List En), (∀ y ∈ l, y.key < x.key) → ins (l ++ r) x = (ins r x).map (l ++ ·)
  | [], r, _ => by rw [List.nil_append]; cases ins r x <;> rfl
  | y :: l, r, h => by
    rw [List.cons_append, ins_gt (h y List.mem_cons_self), ins_app r (fun z hz => h z (List.mem_cons_of_mem _ hz))]
    cases ins r x <;> rfl

theorem news1 (w : World) (x : En) : ∀ j u, x.vals[j]? = some u → (w.alloc (.cells x.vals.toArray 40)).cell? ((⟨w.heap.size, 0, none⟩ : Addr).add j) = some u := by
  intro j u hu
  rw [WideShapes.add_plain, Nat.zero_add, (rowL_alloc w x.vals 40).cell]
  exact hu

theorem vals_one (x : En) : ∀ u ∈ x.vals, u.oneCell' = true := by
  have := flatE_one [x]
  simpa [flatE] using this

theorem flatE_snoc (l : List En) (x : En) : flatE l ++ x.vals = flatE (l ++ [x]) := by rw [flatE_append]; simp [flatE]

theorem app_below {B : Nat} {W wd w1 : World} {v : Value} {out : List En} {o : Obj} (hown : wd.ownsRow B 40 7 v out.length (flatE out)) (hb : Below B W wd) (hB : B ≤ wd.heap.size) (hg : (wd.alloc o).grownBy w1 v.ownBlock) : Below B W w1 ∧ B ≤ w1.heap.size := by
  have hs := hg.size
  simp at hs
  exact ⟨(hb.alloc hB o).grown hg (by simp; omega) (fun k hk => (hown.lt k hk).1), by omega⟩

theorem app_own {B : Nat} {w1 : World} {v : Value} {out : List En} {y : En} (h : w1.ownsRow B 40 7 v (out.length + 1) (flatE out ++ y.vals)) : w1.ownsRow B 40 7 v (out ++ [y]).length (flatE (out ++ [y])) := by
  rw [flatE_snoc] at h
  simpa using h

theorem alloc_rule {W w3 : World} {c : Array Value} {t : TypeId} {n : Nat} (hb : Below (W.alloc (.cells c t)).heap.size (W.alloc (.cells c t)) w3) (hn : W.heap.size = n) :
    w3.cell? ⟨n, 0, none⟩ = c[0]? ∧ w3.cell? ⟨n, 1, none⟩ = c[1]? ∧ w3.cell? ⟨n, 2, none⟩ = c[2]? ∧ w3.cell? ⟨n, 3, none⟩ = c[3]? ∧ w3.cell? ⟨n, 4, none⟩ = c[4]? ∧ w3.cell? ⟨n, 5, none⟩ = c[5]? ∧ ∀ j, w3.frozen? ⟨n, j, none⟩ = false := by
  subst hn
  have g : ∀ j, w3.cell? ⟨W.heap.size, j, none⟩ = c[j]? := fun j => (hb.cell (p := ⟨W.heap.size, j, none⟩) (by simp)).trans (by simp)
  exact ⟨g 0, g 1, g 2, g 3, g 4, g 5, fun j => (hb.frozen (p := ⟨W.heap.size, j, none⟩) (by simp)).trans (by simp)⟩

end Go.Proofs.YtlojfgdpmaigmacGreatDoor

/- The document's 'height' of a tree: leaves. -/
namespace Go.Proofs.YtlojfgdpmaigmacGreatDoor
open Go.RowKit Plain

end Go.Proofs.YtlojfgdpmaigmacGreatDoor

/- The document's 'height' of a tree: the loop over a node's kids. -/
namespace Go.Proofs.YtlojfgdpmaigmacGreatDoor
open Go.RowKit Plain

end Go.Proofs.YtlojfgdpmaigmacGreatDoor

/- The document's 'height' of a tree: nodes that are no leaves. -/
namespace Go.Proofs.YtlojfgdpmaigmacGreatDoor
open Go.RowKit Plain

end Go.Proofs.YtlojfgdpmaigmacGreatDoor

/- The document's 'height' of a tree, walked. -/
namespace Go.Proofs.YtlojfgdpmaigmacGreatDoor
open Go.RowKit Plain

end Go.Proofs.YtlojfgdpmaigmacGreatDoor

/- The document's answer to Check of package tree. -/
namespace Go.Proofs.YtlojfgdpmaigmacGreatDoor
open Go.RowKit Plain

end Go.Proofs.YtlojfgdpmaigmacGreatDoor

/- Lists of entries that tell the same. In plain terms. -/
namespace Go.Proofs.YtlojfgdpmaigmacGreatDoor
open Go.RowKit Plain

def cntK (k : Int) : List En → Int
  | [] => 0
  | y :: r => (if y.key = k then y.c else 0) + cntK k r

theorem cntK_append (k : Int) : ∀ l m : List En, cntK k (l ++ m) = cntK k l + cntK k m
  | [], m => by simp [cntK]
  | y :: r, m => by simp only [List.cons_append, cntK, cntK_append k r m]; omega

theorem cntK_perm {k : Int} {l m : List En} (h : l.Perm m) : cntK k l = cntK k m := by
  induction h with
  | nil => rfl
  | cons x _ ih => simp only [cntK, ih]
  | swap x y l => simp only [cntK]; omega
  | trans _ _ h1 h2 => rw [h1, h2]

def Pos (l : List En) : Prop := ∀ y ∈ l, 1 ≤ y.c

theorem cntK_nn {k : Int} : ∀ {l : List En}, Pos l → 0 ≤ cntK k l
  | [], _ => Int.le_refl _
  | y :: r, h => by
    have h1 := h y List.mem_cons_self
    have h2 := cntK_nn (k := k) (l := r) fun z hz => h z (List.mem_cons_of_mem _ hz)
    simp only [cntK]
    split <;> omega

theorem Pos.app {l m : List En} (h : Pos l) (k : Pos m) : Pos (l ++ m) := fun y hy => (List.mem_append.1 hy).elim (h y) (k y)
theorem Pos.left {l m : List En} (h : Pos (l ++ m)) : Pos l := fun y hy => h y (List.mem_append_left _ hy)
theorem Pos.right {l m : List En} (h : Pos (l ++ m)) : Pos m := fun y hy => h y (List.mem_append_right _ hy)
theorem Pos.perm {l m : List En} (h : Pos l) (p : l.Perm m) : Pos m := fun y hy => h y (p.mem_iff.2 hy)

/-- Two lists of entries tell the same, whatever else comes. -/
structure Eqv (l m : List En) : Prop where
  all : ∀ r, Pos r → allL (l ++ r) = allL (m ++ r)
  cnt : ∀ k, cntK k l = cntK k m
  posl : Pos l
  posm : Pos m

theorem Eqv.refl {l : List En} (h : Pos l) : Eqv l l := ⟨fun _ _ => rfl, fun _ => rfl, h, h⟩
theorem Eqv.symm {l m : List En} (h : Eqv l m) : Eqv m l := ⟨fun r hr => (h.all r hr).symm, fun k => (h.cnt k).symm, h.posm, h.posl⟩
theorem Eqv.trans {l m n : List En} (h : Eqv l m) (k : Eqv m n) : Eqv l n := ⟨fun r hr => (h.all r hr).trans (k.all r hr), fun q => (h.cnt q).trans (k.cnt q), h.posl, k.posm⟩
theorem Eqv.of_perm {l m : List En} (h : l.Perm m) (hp : Pos l) : Eqv l m := ⟨fun r hr => allL_perm (h.append_right r) (hp.app hr), fun _ => cntK_perm h, hp, hp.perm h⟩
theorem Eqv.app {l m : List En} (h : Eqv l m) {r : List En} (hr : Pos r) : Eqv (l ++ r) (m ++ r) :=
  ⟨fun s hs => by rw [List.append_assoc, List.append_assoc]; exact h.all _ (hr.app hs), fun k => by rw [cntK_append, cntK_append, h.cnt], h.posl.app hr, h.posm.app hr⟩
theorem Eqv.app_left {l m : List En} (h : Eqv l m) {r : List En} (hr : Pos r) : Eqv (r ++ l) (r ++ m) :=
  (Eqv.of_perm List.perm_append_comm (hr.app h.posl)).trans ((h.app hr).trans (Eqv.of_perm List.perm_append_comm (h.posm.app hr)))
theorem Eqv.eq {l m : List En} (h : Eqv l m) : allL l = allL m := by simpa using h.all [] (by intro y hy; simp at hy)

/-- Two entries of one key become one. -/
theorem Eqv.join {x y : En} (hk : y.key = x.key) (hx : Good x.ru) (hy : Good y.ru) (hc : y.c + x.c ≤ 1073741824) : Eqv [y, x] [mkE x.key (jn y.ru x.ru)] := by
  have gx := (good_iff.1 hx).1
  have gy := (good_iff.1 hy).1
  have cx : x.ru.c = x.c := rfl
  have cy : y.ru.c = y.c := rfl
  have cj : (mkE x.key (jn y.ru x.ru)).c = y.c + x.c := rfl
  refine ⟨fun r _ => ?_, fun k => ?_, fun z hz => ?_, fun z hz => ?_⟩
  · have e : insO (insO (some []) y) x = insO (some []) (mkE x.key (jn y.ru x.ru)) := by
      show ins [y] x = some [mkE x.key (jn y.ru x.ru)]
      rw [ins_eq hk, if_pos hc]
    show r.foldl insO (insO (insO (some []) y) x) = r.foldl insO (insO (some []) (mkE x.key (jn y.ru x.ru)))
    rw [e]
  · simp only [cntK, mkE_key, cj, hk]
    split <;> omega
  · rcases List.mem_cons.1 hz with rfl | hz
    · omega
    · obtain rfl : z = x := by simpa using hz
      omega
  · obtain rfl : z = mkE x.key (jn y.ru x.ru) := by simpa using hz
    omega

/-! ### A list with an entry more -/

end Go.Proofs.YtlojfgdpmaigmacGreatDoor

/- A loop over kids as the code's survey goes: with one depth for all leaves. -/
namespace Go.Proofs.YtlojfgdpmaigmacGreatDoor
open Go.RowKit Plain Go.Maps

def nextL (L : Int) (l : List Int) : Int := if L = 0 then l.headD 0 else L

structure KidsN (g : Int → Int → Int → St → Option (St × List Int)) (kids keys : List Int) (low high : Int) (S0 : St) (L0 : Int) (i : Nat) (lo : Int) (S : St) (acc : List Int) (L : Int) : Prop where
  eq : Wk g kids keys low high S0 = join acc (Wk g (kids.drop i) (keys.drop i) lo high S)
  same : ∀ x ∈ acc, x = L
  none : acc = [] → L = L0
  pos : acc ≠ [] → L ≠ 0
  first : L0 ≠ 0 → L = L0
  low : low ≤ lo

section
variable {g : Int → Int → Int → St → Option (St × List Int)} {kids keys : List Int} {low high lo L0 L : Int} {S0 S : St} {i : Nat} {acc : List Int}

theorem kidsN_start (g : Int → Int → Int → St → Option (St × List Int)) (kids keys : List Int) (low high : Int) (S0 : St) (L0 : Int) : KidsN g kids keys low high S0 L0 0 low S0 [] L0 :=
  ⟨by rw [join_nil]; rfl, by simp, fun _ => rfl, by simp, fun _ => rfl, Int.le_refl _⟩

theorem okL_iff {L : Int} {l : List Int} : okL L l = true ↔ ∀ x ∈ l, x = nextL L l := by
  simp [okL, nextL]

theorem kidsN_no (h : KidsN g kids keys low high S0 L0 i lo S acc L) (hi : i < kids.length) (hr : resN L (g kids[i] lo (toAt keys high i) S) = false) : resN L0 (Wk g kids keys low high S0) = false := by
  rw [h.eq, Wk_drop hi]
  cases hg : g kids[i] lo (toAt keys high i) S with
  | none => rfl
  | some p =>
    obtain ⟨S1, l1⟩ := p
    rw [hg] at hr
    simp only [join_join]
    cases Wk g (kids.drop (i + 1)) (keys.drop (i + 1)) (toAt keys high i) high S1 with
    | none => rfl
    | some q =>
      obtain ⟨S2, l2⟩ := q
      simp only [join, resN] at hr ⊢
      rw [Bool.eq_false_iff] at hr ⊢
      intro hok
      apply hr
      rw [okL_iff] at hok ⊢
      intro x hx
      have hx' := hok x (List.mem_append_left _ (List.mem_append_right _ hx))
      rw [hx']
      by_cases hacc : acc = []
      · have hL := h.none hacc
        subst hacc hL
        cases l1 with
        | nil => simp at hx
        | cons d r => simp [nextL]
      · have hL := h.pos hacc
        obtain ⟨y, hy⟩ := List.exists_mem_of_ne_nil _ hacc
        have hy' := hok y (List.mem_append_left _ (List.mem_append_left _ hy))
        rw [← hy', h.same y hy]
        simp [nextL, hL]

theorem kidsN_next (hd : ∀ d low high S S' l, g d low high S = some (S', l) → l ≠ [] ∧ ∀ x ∈ l, 1 ≤ x) (hw : ∀ d low high S r, g d low high S = some r → low < high) (h : KidsN g kids keys low high S0 L0 i lo S acc L) (hi : i < kids.length) (hr : resN L (g kids[i] lo (toAt keys high i) S) = true) :
    ∃ S1 l1, g kids[i] lo (toAt keys high i) S = some (S1, l1) ∧ okL L l1 = true ∧ KidsN g kids keys low high S0 L0 (i + 1) (toAt keys high i) S1 (acc ++ l1) (nextL L l1) := by
  cases hg : g kids[i] lo (toAt keys high i) S with
  | none => rw [hg] at hr; simp [resN] at hr
  | some p =>
    obtain ⟨S1, l1⟩ := p
    rw [hg] at hr
    simp only [resN] at hr
    have hall := okL_iff.1 hr
    obtain ⟨hl, hpos⟩ := hd _ _ _ _ _ _ hg
    have hlt := hw _ _ _ _ _ hg
    have hlow := h.low
    obtain ⟨x, hx⟩ := List.exists_mem_of_ne_nil _ hl
    have hn0 : nextL L l1 ≠ 0 := by
      have := hpos x hx
      rw [hall x hx] at this
      omega
    refine ⟨S1, l1, rfl, hr, ⟨?_, ?_, fun e => absurd (List.append_eq_nil_iff.1 e).2 hl, fun _ => hn0, fun h0 => ?_, by omega⟩⟩
    · rw [h.eq, Wk_drop hi, hg]
      simp only [join_join]
    · intro z hz
      rcases List.mem_append.1 hz with hz | hz
      · have hacc : acc ≠ [] := List.ne_nil_of_mem hz
        have hL := h.pos hacc
        rw [h.same z hz]
        simp [nextL, hL]
      · exact hall z hz
    · have := h.first h0
      subst this
      simp [nextL, h0]

theorem kidsN_end (h : KidsN g kids keys low high S0 L0 i lo S acc L) (hi : i = kids.length) : Wk g kids keys low high S0 = some (S, acc) ∧ resN L0 (Wk g kids keys low high S0) = true ∧ nextL L0 acc = L := by
  have e : Wk g kids keys low high S0 = some (S, acc) := by
    rw [h.eq, hi, List.drop_length]
    simp [Wk, join]
  have hn : nextL L0 acc = L := by
    unfold nextL
    split
    · rename_i h0
      cases acc with
      | nil => simp; rw [h.none rfl]; exact h0.symm
      | cons d r => simpa using h.same d List.mem_cons_self
    · rename_i h0
      exact (h.first h0).symm
  refine ⟨e, ?_, hn⟩
  rw [e]
  simp only [resN]
  rw [okL_iff, hn]
  exact h.same

end

theorem law : Keyed Tryz.prog 3 := int_keyed Tryz.underlying3
theorem zeroI (w : World) : (zeroValue 3).run Tryz.prog w = .ok (.int .i64 0) w := by kernel_rfl

/-- Block mb is the map of which nodes have been come to, and how deep. -/
def MapIs (w : World) (mb : Nat) (S : St) : Prop :=
  ∃ D : DataW Unit, w.ownsMap Tryz.prog 3 (plainElem Tryz.prog 3) mb S.length D ∧ (∀ n : Int, Maps.has D (.int .i64 n) = seenB S n) ∧ (∀ p ∈ S, D.atKey (.int .i64 p.1) (.lit (.int .i64 0)) = .lit (.int .i64 p.2)) ∧ Maps.size D = S.length

theorem map_of_block {w w' : World} {mb n : Nat} {D : DataW Unit} (h : w.ownsMap Tryz.prog 3 (plainElem Tryz.prog 3) mb n D) (e : w'.heap[mb]? = w.heap[mb]?) : w'.ownsMap Tryz.prog 3 (plainElem Tryz.prog 3) mb n D := by
  unfold World.ownsMap at *
  rw [e]
  exact h

theorem MapIs.of_block {w w' : World} {mb : Nat} {S : St} (h : MapIs w mb S) (e : w'.heap[mb]? = w.heap[mb]?) : MapIs w' mb S := by
  obtain ⟨D, a, b⟩ := h
  exact ⟨D, map_of_block a e, b⟩

theorem MapIs.lt {w : World} {mb : Nat} {S : St} (h : MapIs w mb S) : mb < w.heap.size := by
  obtain ⟨D, a, _⟩ := h
  exact a.lt

theorem MapIs.look {w : World} {mb : Nat} {S : St} (h : MapIs w mb S) {n d : Int} (hp : (n, d) ∈ S) (hw : (Lit.int .i64 n).wf = true) :
    ∀ w' : World, w'.heap[mb]? = w.heap[mb]? → (Instr.lookup 85 (.map (some mb)) (.int .i64 n) false).run Tryz.prog w' = .ok (.int .i64 d) w' := by
  intro w' e
  obtain ⟨D, a, _, b, _⟩ := h
  obtain ⟨c, hrun, hat, _⟩ := (map_of_block a e).lookup_int law Tryz.underlying85 Tryz.underlying3 (zeroI _) (keyOf_int_mk Tryz.underlying3 hw)
  have := (b _ hp).symm.trans hat
  simp at this
  subst this
  exact hrun

end Go.Proofs.YtlojfgdpmaigmacGreatDoor

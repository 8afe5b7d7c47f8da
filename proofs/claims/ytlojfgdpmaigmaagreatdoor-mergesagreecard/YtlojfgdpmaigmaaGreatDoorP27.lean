/- Roots above roots, till one is enough; and what Check tells of the tree then. -/
import Derived.Test.YtlojfgdpmaigmaaGreatDoorP10
import Derived.Test.YtlojfgdpmaigmaaGreatDoorP20
import Derived.Test.YtlojfgdpmaigmaaGreatDoorPartWalk
import Derived.Deep.AppendLies
namespace Go.Proofs.YtlojfgdpmaigmaaGreatDoor
open Go.RowKit Plain

def newRoot (root : Int) (more : List (Int × Int)) : Nd := ⟨false, [], more.map (·.1), root :: more.map (·.2), []⟩

def growN : Nat → List Nd → Int → List (Int × Int) → List Nd × Int
  | 0, ns, root, _ => (ns, root)
  | f + 1, ns, root, more =>
    if more = [] then (ns, root)
    else growN f (splitN (ns ++ [newRoot root more]) ns.length).1 ns.length (splitN (ns ++ [newRoot root more]) ns.length).2

/-- Nodes in a row, above all others. -/
structure RowOk (ns : List Nd) (h : Nat) (root : Int) (more : List (Int × Int)) : Prop where
  sub : ∃ Q, SubK (Sub 6 4 ns h) 0 (ups (root :: more.map (·.2)) (more.map (·.1)) 1099511627776) Q ∧ Q.Perm (placesF 0 ns.length)

theorem nth_last (ns : List Nd) (x : Nd) : nth (ns ++ [x]) (ns.length : Int) = x := by
  unfold nth
  simp

theorem splitN_more (ns : List Nd) (root : Int) (more : List (Int × Int)) : (splitN (ns ++ [newRoot root more]) ns.length).2.length = (more.length + 4) / 4 - 1 ∧ (splitN (ns ++ [newRoot root more]) ns.length).1.length = ns.length + (more.length + 4) / 4 := by
  unfold splitN
  rw [nth_last]
  have hs : sizeN (newRoot root more) = more.length + 1 := by simp [sizeN, newRoot]
  have hm : mostN (newRoot root more) = 4 := by simp [mostN, newRoot]
  have hp : partsN (newRoot root more) = (more.length + 4) / 4 := by
    rw [partsN, hs, hm]
    congr 1
  split
  · rename_i h
    rw [hs, hm] at h
    simp
    omega
  · rename_i h
    rw [hs, hm] at h
    have hc : (cutsN (newRoot root more)).length = (more.length + 4) / 4 := by unfold cutsN; rw [cutsF_length, hp]
    constructor
    · simp only [List.length_zip, keysL_length, hc, placesF_length, hp]
      omega
    · simp only [List.length_append, List.length_set, List.length_tail, partsL_length, hc, List.length_cons, List.length_nil]
      omega

theorem row_step {ns : List Nd} {h : Nat} {root : Int} {more : List (Int × Int)} (hr : RowOk ns h root more) (hm : more ≠ []) :
    RowOk (splitN (ns ++ [newRoot root more]) ns.length).1 (h + 1) ns.length (splitN (ns ++ [newRoot root more]) ns.length).2 ∧ ((splitN (ns ++ [newRoot root more]) ns.length).1.flatMap cont).Perm (ns.flatMap cont) := by
  obtain ⟨Q, hQ, hp⟩ := hr.sub
  have hml : 1 ≤ more.length := by cases more with | nil => exact absurd rfl hm | cons => simp
  have hkl : (more.map (·.1)).length + 1 = (root :: more.map (·.2)).length := by simp
  have hlt : (0 : Int) < 1099511627776 := by decide
  have hQ' : SubK (Sub 6 4 (ns ++ [newRoot root more]) h) 0 (ups (root :: more.map (·.2)) (more.map (·.1)) 1099511627776) Q :=
    SubK_imp hQ fun d lo hi Q1 a b => Sub_congr h d lo hi Q1 a fun n hn => by
      have hm := placesF_mem.1 (hp.mem_iff.1 (b n hn))
      exact ⟨nth_append_left (by omega) (by omega), by simp; omega⟩
  have htop : Top 0 (more.length + 1) (ns ++ [newRoot root more]) (h + 1) ns.length 0 1099511627776 ((ns.length : Int) :: Q) := by
    refine ⟨⟨by omega, by simp; omega, hlt⟩, Q, rfl, ?_⟩
    rw [nth_last]
    exact ⟨rfl, rfl, by simp [newRoot]; omega, by simp [newRoot], by simp [newRoot], by simp [newRoot], rfl, hQ'⟩
  have hpl : ((ns.length : Int) :: Q).Perm (placesF 0 (ns.length + 1)) := by
    rw [placesF_append]
    refine (hp.cons _).trans ?_
    show ((ns.length : Int) :: placesF 0 ns.length).Perm (placesF 0 ns.length ++ placesF (0 + ns.length) 1)
    rw [Nat.zero_add]
    exact (List.perm_append_comm (l₁ := [(ns.length : Int)]) (l₂ := placesF 0 ns.length))
  have hnd : ((ns.length : Int) :: Q).Nodup := hpl.nodup_iff.2 (placesF_nodup _ _)
  have hs := split_ok htop hnd
  obtain ⟨Q', h1, h2⟩ := hs.sub
  refine ⟨⟨Q', h1, h2.trans ?_⟩, hs.cont.trans ?_⟩
  · have hle := hs.le
    rw [show (splitN (ns ++ [newRoot root more]) ns.length).1.length = (ns.length + 1) + ((splitN (ns ++ [newRoot root more]) ns.length).1.length - (ns ++ [newRoot root more]).length) by simp at hle ⊢; omega, placesF_append]
    have e : (ns ++ [newRoot root more]).length = 0 + (ns.length + 1) := by simp
    rw [e]
    refine (hpl.append_right _).trans ?_
    exact List.Perm.of_eq (by congr 2; simp at hle; omega)
  · simp [cont, newRoot]

theorem grow_ok : ∀ (f : Nat) {ns : List Nd} {h : Nat} {root : Int} {more : List (Int × Int)}, more.length ≤ f → RowOk ns h root more →
    (∃ h' Q, Sub 6 4 (growN f ns root more).1 h' (growN f ns root more).2 0 1099511627776 Q ∧ Q.Perm (placesF 0 (growN f ns root more).1.length)) ∧ ((growN f ns root more).1.flatMap cont).Perm (ns.flatMap cont) ∧ (growN f ns root more).1.length ≤ ns.length + more.length := by
  intro f
  induction f with
  | zero =>
    intro ns h root more hf hr
    obtain rfl : more = [] := List.eq_nil_of_length_eq_zero (by omega)
    obtain ⟨Q, ⟨Q1, Q2, rfl, h1, h2⟩, hp⟩ := hr.sub
    cases h2
    rw [List.append_nil] at hp
    exact ⟨⟨h, Q1, h1, hp⟩, List.Perm.refl _, by simp [growN]⟩
  | succ f ih =>
    intro ns h root more hf hr
    unfold growN
    split
    · rename_i hm
      subst hm
      obtain ⟨Q, ⟨Q1, Q2, rfl, h1, h2⟩, hp⟩ := hr.sub
      cases h2
      rw [List.append_nil] at hp
      exact ⟨⟨h, Q1, h1, hp⟩, List.Perm.refl _, by simp⟩
    · rename_i hm
      have hml : 1 ≤ more.length := by cases more with | nil => exact absurd rfl hm | cons => simp
      obtain ⟨hr', hc⟩ := row_step hr hm
      obtain ⟨l1, l2⟩ := splitN_more ns root more
      obtain ⟨a, b, c⟩ := ih (by rw [l1]; omega) hr'
      exact ⟨a, b.trans hc, by rw [l1, l2] at c; omega⟩

/-! ### What Check tells of it -/

theorem two_pow_succ (h : Nat) : 2 ^ (h + 1) = 2 ^ h + 2 ^ h := by rw [Nat.pow_succ]; omega

theorem Sub_size {mL mK : Nat} {ns : List Nd} : ∀ (h : Nat) (d lo hi : Int) (P : List Int), Sub mL mK ns h d lo hi P → 2 ^ (h + 1) ≤ P.length + 1
  | 0, _, _, _, _, h => by rw [h.2.1]; simp
  | h + 1, d, lo, hi, P, hs => by
    obtain ⟨_, Q, rfl, hin⟩ := hs
    have ih := Sub_size (mL := mL) (mK := mK) (ns := ns) h
    obtain ⟨kids, keys, hk1, hk2⟩ : ∃ kids keys, kids = (nth ns d).kids ∧ keys = (nth ns d).keys := ⟨_, _, rfl, rfl⟩
    have h2 := hin.two
    have h3 := hin.keys
    have h4 := hin.kids
    rw [← hk1] at h2 h3 h4
    rw [← hk2] at h3 h4
    match kids, keys, h2, h3, h4 with
    | a :: b :: r, k :: ks, _, _, h4 =>
      rw [ups_cons] at h4
      obtain ⟨Q1, Q2, rfl, g1, g2⟩ := h4
      have i1 := ih _ _ _ _ g1
      have : ∃ u r', ups (b :: r) ks hi = (b, u) :: r' := by cases ks <;> exact ⟨_, _, rfl⟩
      obtain ⟨u, r', e⟩ := this
      rw [e] at g2
      obtain ⟨Q3, Q4, rfl, g3, _⟩ := g2
      have i2 := ih _ _ _ _ g3
      rw [two_pow_succ (h + 1)]
      simp only [List.length_cons, List.length_append]
      omega

/-- What W yields where all is as it must be. -/
def Yields (S : St) (dp : Int) (P : List Int) (r : Option (St × List Int)) : Prop := ∃ S' l, r = some (S', l) ∧ (S'.map (·.1)).Perm (P ++ S.map (·.1)) ∧ l ≠ [] ∧ ∀ x ∈ l, x = dp

theorem Wk_yields {g : Int → Int → Int → St → Option (St × List Int)} {G : Rel} {dp : Int} (hg : ∀ d lo hi P S, G d lo hi P → P.Nodup → (∀ n ∈ P, n ∉ S.map (·.1)) → Yields S dp P (g d lo hi S)) :
    ∀ (kids keys : List Int) (lo hi : Int) (Q : List Int) (S : St), keys.length + 1 = kids.length → SubK G lo (ups kids keys hi) Q → Q.Nodup → (∀ n ∈ Q, n ∉ S.map (·.1)) → Yields S dp Q (Wk g kids keys lo hi S)
  | [], _, _, _, _, _, h, _, _, _ => by simp at h
  | [d], keys, lo, hi, Q, S, hl, hs, hn, hd => by
    obtain rfl : keys = [] := List.eq_nil_of_length_eq_zero (by simpa using hl)
    obtain ⟨Q1, Q2, rfl, h1, h2⟩ := hs
    cases h2
    rw [List.append_nil] at hn hd ⊢
    obtain ⟨S', l, e, hp, hne, ha⟩ := hg d lo hi Q1 S h1 hn hd
    refine ⟨S', l, ?_, hp, hne, ha⟩
    simp [Wk, e]
  | d :: d' :: ds, keys, lo, hi, Q, S, hl, hs, hn, hd => by
    cases keys with
    | nil => simp at hl
    | cons k ks =>
      rw [ups_cons] at hs
      obtain ⟨Q1, Q2, rfl, h1, h2⟩ := hs
      rw [List.nodup_append] at hn
      obtain ⟨S1, l1, e1, hp1, hne1, ha1⟩ := hg d lo k Q1 S h1 hn.1 (fun n hn' => hd n (List.mem_append_left _ hn'))
      obtain ⟨S2, l2, e2, hp2, hne2, ha2⟩ := Wk_yields hg (d' :: ds) ks k hi Q2 S1 (by simpa using hl) h2 hn.2.1 (fun n hn' hm => by
        rcases List.mem_append.1 (hp1.mem_iff.1 hm) with hm | hm
        · exact hn.2.2 n hm n hn' rfl
        · exact hd n (List.mem_append_right _ hn') hm)
      refine ⟨S2, l1 ++ l2, ?_, ?_, by simp [hne1], fun x hx => ?_⟩
      · show (match g d lo k S with | none => none | some (S1, l1) => match Wk g (d' :: ds) ks k hi S1 with | none => none | some (S2, l2) => some (S2, l1 ++ l2)) = _
        rw [e1]
        simp only
        rw [e2]
      · refine hp2.trans ((hp1.append_left Q2).trans ?_)
        rw [List.append_assoc]
        exact List.perm_append_comm_assoc _ _ _
      · rcases List.mem_append.1 hx with hx | hx
        · exact ha1 x hx
        · exact ha2 x hx

theorem Sub_W {ns : List Nd} : ∀ (h f : Nat) (n lo hi : Int) (P : List Int) (S : St), Sub 6 4 ns h n lo hi P → h < f → P.Nodup → (∀ m ∈ P, m ∉ S.map (·.1)) → Yields S (13 - (f : Int) + h) P (W ns f n lo hi S) := by
  intro h
  induction h with
  | zero =>
    intro f n lo hi P S hs hf hn hd
    obtain ⟨⟨h0, h1, hlt⟩, rfl, hl⟩ := hs
    obtain ⟨f, rfl⟩ : ∃ g, f = g + 1 := ⟨f - 1, by omega⟩
    have hseen : seenB S n = false := by
      have := hd n (by simp)
      cases hb : seenB S n with
      | false => rfl
      | true => exact absurd (seenB_iff.1 hb) this
    have hlB : leafB (nth ns n) lo hi f = true := leafB_iff.2 ⟨hl.keys, hl.kids, hl.buf, hl.most, .inr hl.ne, hl.ents⟩
    refine ⟨(n, 12 - (f : Int)) :: S, [12 - (f : Int)], ?_, by simp, by simp, by simp; omega⟩
    rw [W_succ, if_neg (by simp [hseen]; omega)]
    show (if (nth ns n).leaf = true then _ else _) = _
    rw [if_pos hl.leaf]
    show (if leafB (nth ns n) lo hi f = true then _ else _) = _
    rw [if_pos hlB]
  | succ h ih =>
    intro f n lo hi P S hs hf hn hd
    obtain ⟨⟨h0, h1, hlt⟩, Q, rfl, hl⟩ := hs
    obtain ⟨f, rfl⟩ : ∃ g, f = g + 1 := ⟨f - 1, by omega⟩
    have hseen : seenB S n = false := by
      have := hd n (by simp)
      cases hb : seenB S n with
      | false => rfl
      | true => exact absurd (seenB_iff.1 hb) this
    have hiB : innerB (nth ns n) lo hi = true := by
      simp only [innerB, Bool.and_eq_true, decide_eq_true_eq, beq_iff_eq, List.isEmpty_iff]
      exact ⟨⟨⟨⟨⟨hl.ents, hl.two⟩, hl.most⟩, hl.keys⟩, hl.few⟩, hl.buf⟩
    rw [List.nodup_cons] at hn
    obtain ⟨S', l, e, hp, hne, ha⟩ := Wk_yields (dp := 13 - (f : Int) + h) (fun d lo hi P S a b c => ih f d lo hi P S a (by omega) b c) (nth ns n).kids (nth ns n).keys lo hi Q ((n, 12 - (f : Int)) :: S) hl.keys hl.kids hn.2 (fun m hm hm' => by
      rw [List.map_cons, List.mem_cons] at hm'
      rcases hm' with rfl | hm'
      · exact hn.1 hm
      · exact hd m (List.mem_cons_of_mem _ hm) hm')
    refine ⟨S', l, ?_, hp.trans ?_, hne, fun x hx => by rw [ha x hx]; push_cast; omega⟩
    · rw [W_succ, if_neg (by simp [hseen]; omega)]
      show (if (nth ns n).leaf = true then _ else if innerB (nth ns n) lo hi = true then _ else _) = _
      rw [if_neg (by simp [hl.leaf]), if_pos hiB]
      exact e
    · rw [List.map_cons]
      exact List.perm_middle

theorem placesF_len {Q : List Int} {N : Nat} (h : Q.Perm (placesF 0 N)) : Q.length = N := by rw [h.length_eq, placesF_length]

theorem Sub_treeC {ns : List Nd} {h : Nat} {root : Int} {Q : List Int} (hs : Sub 6 4 ns h root 0 1099511627776 Q) (hp : Q.Perm (placesF 0 ns.length)) (hz : ns.length ≤ 2000) : treeC ns root = 0 := by
  have hl := placesF_len hp
  have h1 := Sub_size h _ _ _ _ hs
  have hh : h < 12 := by
    apply Classical.byContradiction
    intro e
    have : 2 ^ 13 ≤ 2 ^ (h + 1) := Nat.pow_le_pow_right (by decide) (by omega)
    omega
  obtain ⟨S', l, e, hpm, hne, ha⟩ := Sub_W h 12 root 0 1099511627776 Q [] hs hh (hp.nodup_iff.2 (placesF_nodup _ _)) (by simp)
  unfold treeC
  rw [if_neg (by omega), e]
  simp only
  rw [if_pos]
  refine ⟨?_, ?_⟩
  · unfold okL
    rw [if_pos rfl, List.all_eq_true]
    intro x hx
    rw [beq_iff_eq, ha x hx]
    cases l with
    | nil => exact absurd rfl hne
    | cons y r => exact (ha y (by simp)).symm
  · have := hpm.length_eq
    simp at this
    omega

end Go.Proofs.YtlojfgdpmaigmaaGreatDoor

/- A tree in memory of one's own that grows: its nodes in a row that may move, each list in a block of its own. -/
namespace Go.Proofs.YtlojfgdpmaigmaaGreatDoor
open Go.RowKit Plain

def feet (g : Nat) (qs : List PN) : List Nat := g :: qs.flatMap PN.blocks

structure NT (base : Nat) (w : World) (g C : Nat) (qs : List PN) : Prop where
  own : w.ownsRow base 65 5 (.slice (some ⟨g, 0, none⟩) qs.length C) qs.length (flatN qs)
  each : ∀ q ∈ qs, q.own base w
  apart : (feet g qs).Nodup
  z : qs.length * 104 ≤ 140737488351232

/-- .. and the variable that holds it. -/
structure TB (base : Nat) (w : World) (tb g C : Nat) (qs : List PN) (root : Int) : Prop where
  nt : NT base w g C qs
  box : RowL w tb 36 [.slice (some ⟨g, 0, none⟩) qs.length C, .int .i64 root]
  ne : tb ∉ feet g qs
  hb : base ≤ tb

section
variable {base g C : Nat} {w w' : World} {qs : List PN}

theorem NT.glt (h : NT base w g C qs) : base ≤ g ∧ g < w.heap.size := h.own.lt g rfl

theorem NT.lt (h : NT base w g C qs) : ∀ k ∈ feet g qs, base ≤ k ∧ k < w.heap.size := by
  intro k hk
  rcases List.mem_cons.1 hk with rfl | hk
  · exact h.glt
  · obtain ⟨q, hq, hk⟩ := List.mem_flatMap.1 hk
    exact (h.each q hq).lt k hk

theorem NT.of_blocks (h : NT base w g C qs) (hk : ∀ k ∈ feet g qs, w'.heap[k]? = w.heap[k]?) : NT base w' g C qs :=
  ⟨own_of_block h.own fun k hb => hk k (by simp [Value.ownBlock] at hb; subst hb; exact List.mem_cons_self), fun q hq => (h.each q hq).of_blocks fun k hb => hk k (List.mem_cons_of_mem _ (List.mem_flatMap.2 ⟨q, hq, hb⟩)), h.apart, h.z⟩

theorem NT.below {B : Nat} (h : NT base w g C qs) (hb : Below B w w') (hB : w.heap.size ≤ B) : NT base w' g C qs :=
  h.of_blocks fun k hk => hb.block k (Nat.lt_of_lt_of_le (h.lt k hk).2 hB)

theorem NT.cell (h : NT base w g C qs) {j : Nat} (hj : j < qs.length * 5) : w.cell? ⟨g, j, none⟩ = (flatN qs)[j]? := h.own.cellAt j hj

theorem NT.node (h : NT base w g C qs) {k : Nat} (hk : k < qs.length) : PnAt w g (k * 5) qs[k] := by
  have c : ∀ j, j < 5 → ∀ u, (qs[k]).vals[j]? = some u → w.cell? ⟨g, k * 5 + j, none⟩ = some u := fun j hj u hu => by
    rw [h.cell (by omega), flatN_get qs k j hk hj]; exact hu
  exact ⟨c 0 (by decide) _ rfl, c 1 (by decide) _ rfl, c 2 (by decide) _ rfl, c 3 (by decide) _ rfl, c 4 (by decide) _ rfl⟩

theorem NT.free (h : NT base w g C qs) (j : Nat) : w.frozen? ⟨g, j, none⟩ = false := h.own.frozenAt j

theorem NT.nodes (h : NT base w g C qs) : NodesAt w.heap.size w (some ⟨g, 0, none⟩) qs :=
  ⟨(own_ok h.own).1, fun _ hk => (h.each _ (List.getElem_mem hk)).ok, h.z⟩
end

theorem set_nodeAt (qs : List PN) (k : Nat) (hk : k < qs.length) (p : PN) :
    (((((flatN qs).set (k * 5) (.bool p.leaf)).set (k * 5 + 1) (.slice p.eA p.ents.length p.eC)).set (k * 5 + 2) (.slice p.kA p.keys.length p.kC)).set (k * 5 + 3) (.slice p.dA p.kids.length p.dC)).set (k * 5 + 4) (.slice p.bA p.buf.length p.bC) = flatN (qs.set k p) := by
  obtain ⟨e1, e2⟩ := set_split qs k p hk
  rw [e2]
  conv => lhs; rw [e1]
  have h := set_node (qs.take k) (qs.drop (k + 1)) qs[k] p
  rw [List.length_take, Nat.min_eq_left (Nat.le_of_lt hk)] at h
  exact h

theorem own_set {w : World} {base : Nat} {e : TypeId} {size n g C : Nat} {vs : List Value} (h : w.ownsRow base e size (.slice (some ⟨g, 0, none⟩) n C) n vs) (j : Nat) (v : Value) :
    (w.setCell ⟨g, j, none⟩ v).ownsRow base e size (.slice (some ⟨g, 0, none⟩) n C) n (vs.set j v) := by
  refine ⟨by simp [h.1], .inr ?_⟩
  rcases h.2 with ⟨hv, _⟩ | ⟨g', cap, cur, hv, hb, hg, hl, hm, hs, ht⟩
  · cases hv
  · cases hv
    refine ⟨g, C, cur.setIfInBounds j v, rfl, hb, ?_, hl, hm, by simp [hs], ?_⟩
    · simp [World.setCell, Array.getElem?_modify, hg]
    · rw [Array.toList_setIfInBounds, List.take_set, ht]

theorem feet_set {g k : Nat} {qs : List PN} {p : PN} (hk : k < qs.length) (ha : (feet g qs).Nodup) (hn : p.blocks.Nodup) (hd : ∀ b ∈ p.blocks, b ∉ feet g qs) : (feet g (qs.set k p)).Nodup ∧ ∀ b ∈ feet g (qs.set k p), b ∈ feet g qs ∨ b ∈ p.blocks := by
  obtain ⟨A, x, B, hq, hset⟩ : ∃ A x B, qs = A ++ x :: B ∧ qs.set k p = A ++ p :: B := ⟨_, _, _, set_split qs k p hk⟩
  rw [hset]
  clear hset hk
  subst hq
  unfold feet at *
  simp only [List.flatMap_append, List.flatMap_cons, List.nodup_cons, List.nodup_append, List.mem_append, List.mem_cons, not_or] at *
  obtain ⟨⟨a1, a2, a3⟩, a4, ⟨a5, a6, a7⟩, a8⟩ := ha
  refine ⟨⟨⟨a1, fun h => (hd g h).1 rfl, a3⟩, a4, ⟨hn, a6, fun b hb c hc e => (hd b hb).2.2.2 (e ▸ hc)⟩, fun b hb c hc e => ?_⟩, fun b hb => ?_⟩
  · rcases hc with hc | hc
    · exact (hd c hc).2.1 (e ▸ hb)
    · exact a8 b hb c (.inr hc) e
  · rcases hb with hb | hb | hb | hb
    · exact .inl (.inl hb)
    · exact .inl (.inr (.inl hb))
    · exact .inr hb
    · exact .inl (.inr (.inr (.inr hb)))

theorem NT.setNode {base g C k : Nat} {w : World} {qs : List PN} {p : PN} (h : NT base w g C qs) (hk : k < qs.length) (hp : p.own base w) (hn : p.blocks.Nodup) (hd : ∀ b ∈ p.blocks, b ∉ feet g qs) :
    NT base (((((w.setCell ⟨g, k * 5, none⟩ (.bool p.leaf)).setCell ⟨g, k * 5 + 1, none⟩ (.slice p.eA p.ents.length p.eC)).setCell ⟨g, k * 5 + 2, none⟩ (.slice p.kA p.keys.length p.kC)).setCell ⟨g, k * 5 + 3, none⟩ (.slice p.dA p.kids.length p.dC)).setCell ⟨g, k * 5 + 4, none⟩ (.slice p.bA p.buf.length p.bC)) g C (qs.set k p) := by
  have hg : g ∉ p.blocks := fun e => hd g e List.mem_cons_self
  have hs : ∀ b, b ≠ g → (((((w.setCell ⟨g, k * 5, none⟩ (.bool p.leaf)).setCell ⟨g, k * 5 + 1, none⟩ (.slice p.eA p.ents.length p.eC)).setCell ⟨g, k * 5 + 2, none⟩ (.slice p.kA p.keys.length p.kC)).setCell ⟨g, k * 5 + 3, none⟩ (.slice p.dA p.kids.length p.dC)).setCell ⟨g, k * 5 + 4, none⟩ (.slice p.bA p.buf.length p.bC)).heap[b]? = w.heap[b]? := fun b hb => set5_block w g (k * 5) _ _ _ _ _ hb
  refine ⟨?_, fun q hq => ?_, (feet_set hk h.apart hn hd).1, by simpa using h.z⟩
  · rw [← set_nodeAt qs k hk p, List.length_set]
    exact own_set (own_set (own_set (own_set (own_set h.own _ _) _ _) _ _) _ _) _ _
  · rcases List.mem_or_eq_of_mem_set hq with hq | rfl
    · refine (h.each q hq).of_blocks fun b hb => hs b ?_
      rintro rfl
      have := h.apart
      rw [feet, List.nodup_cons] at this
      exact this.1 (List.mem_flatMap.2 ⟨q, hq, hb⟩)
    · exact hp.of_blocks fun b hb => hs b (fun e => hg (e ▸ hb))

theorem flatN_one (ps : List PN) : ∀ u ∈ flatN ps, u.oneCell' = true := by
  induction ps with
  | nil => simp [flatN]
  | cons x r ih =>
    intro u hu
    simp only [flatN, PN.vals, List.cons_append, List.nil_append, List.mem_cons] at hu
    rcases hu with h | h | h | h | h | h
    all_goals first | (subst h; rfl) | exact ih u h

theorem newsN (W : World) (b : Nat) (t : TypeId) (p : PN) (h : RowL W b t p.vals) : ∀ j u, (flatN [p])[j]? = some u → W.cell? (Addr.add ⟨b, 0, none⟩ j) = some u := by
  intro j u hu
  rw [WideShapes.add_plain, Nat.zero_add, h.cell]
  simpa [flatN] using hu

theorem feet_append {g' : Nat} {g : Nat} {qs : List PN} {q : PN} (ha : (feet g qs).Nodup) (hn : q.blocks.Nodup) (hd : ∀ b ∈ q.blocks, b ∉ feet g qs) (hg : g' = g ∨ (g' ∉ feet g qs ∧ g' ∉ q.blocks)) : (feet g' (qs ++ [q])).Nodup := by
  unfold feet at *
  simp only [List.flatMap_append, List.flatMap_cons, List.flatMap_nil, List.append_nil, List.nodup_cons, List.nodup_append, List.mem_append, List.mem_cons, not_or] at *
  refine ⟨⟨?_, ?_⟩, ha.2, hn, fun b hb c hc e => (hd c hc).2 (e ▸ hb)⟩
  · rcases hg with rfl | hg
    · exact ha.1
    · exact hg.1.2
  · rcases hg with rfl | hg
    · intro h; exact (hd g' h).1 rfl
    · exact hg.2

end Go.Proofs.YtlojfgdpmaigmaaGreatDoor

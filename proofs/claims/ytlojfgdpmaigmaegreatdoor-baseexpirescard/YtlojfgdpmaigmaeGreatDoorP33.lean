/- Roots above roots, till one is enough; and what Check tells of the tree then. -/
import Derived.Test.YtlojfgdpmaigmaeGreatDoorP18
import Derived.Test.YtlojfgdpmaigmaeGreatDoorP22
import Derived.Test.YtlojfgdpmaigmaeGreatDoorP23
import Derived.Deep.RegionLaw
namespace Go.Proofs.YtlojfgdpmaigmaeGreatDoor
open Go.RowKit Plain

def newRoot (root : Int) (more : List (Int × Int)) : Nd := ⟨false, [], more.map (·.1), root :: more.map (·.2), []⟩

def growN : Nat → List Nd → Int → List (Int × Int) → List Nd × Int
  | 0, ns, root, _ => (ns, root)
  | f + 1, ns, root, more =>
    if more = [] then (ns, root)
    else growN f (splitN (ns ++ [newRoot root more]) ns.length).1 ns.length (splitN (ns ++ [newRoot root more]) ns.length).2

/-- Nodes in a row, above all others. -/
structure RowOk (ns : List Nd) (h : Nat) (root : Int) (more : List (Int × Int)) : Prop where
  sub : ∃ Q, SubK (Sub 6 4 ns h) 0 (ups (root :: more.map (·.2)) (more.map (·.1)) 1099511627776) Q ∧ Q.Perm (placesF 0 ns.length)

theorem nth_last (ns : List Nd) (x : Nd) : nth (ns ++ [x]) (ns.length : Int) = x := by
  unfold nth
  simp

theorem splitN_more (ns : List Nd) (root : Int) (more : List (Int × Int)) : (splitN (ns ++ [newRoot root more]) ns.length).2.length = (more.length + 4) / 4 - 1 ∧ (splitN (ns ++ [newRoot root more]) ns.length).1.length = ns.length + (more.length + 4) / 4 := by
  unfold splitN
  rw [nth_last]
  have hs : sizeN (newRoot root more) = more.length + 1 := by simp [sizeN, newRoot]
  have hm : mostN (newRoot root more) = 4 := by simp [mostN, newRoot]
  have hp : partsN (newRoot root more) = (more.length + 4) / 4 := by
    rw [partsN, hs, hm]
    congr 1
  split
  · rename_i h
    rw [hs, hm] at h
    simp
    omega
  · rename_i h
    rw [hs, hm] at h
    have hc : (cutsN (newRoot root more)).length = (more.length + 4) / 4 := by unfold cutsN; rw [cutsF_length, hp]
    constructor
    · simp only [List.length_zip, keysL_length, hc, placesF_length, hp]
      omega
    · simp only [List.length_append, List.length_set, List.length_tail, partsL_length, hc, List.length_cons, List.length_nil]
      omega

theorem row_step {ns : List Nd} {h : Nat} {root : Int} {more : List (Int × Int)} (hr : RowOk ns h root more) (hm : more ≠ []) :
    RowOk (splitN (ns ++ [newRoot root more]) ns.length).1 (h + 1) ns.length (splitN (ns ++ [newRoot root more]) ns.length).2 ∧ ((splitN (ns ++ [newRoot root more]) ns.length).1.flatMap cont).Perm (ns.flatMap cont) := by
  obtain ⟨Q, hQ, hp⟩ := hr.sub
  have hml : 1 ≤ more.length := by cases more with | nil => exact absurd rfl hm | cons => simp
  have hkl : (more.map (·.1)).length + 1 = (root :: more.map (·.2)).length := by simp
  have hlt : (0 : Int) < 1099511627776 := by decide
  have hQ' : SubK (Sub 6 4 (ns ++ [newRoot root more]) h) 0 (ups (root :: more.map (·.2)) (more.map (·.1)) 1099511627776) Q :=
    SubK_imp hQ fun d lo hi Q1 a b => Sub_congr h d lo hi Q1 a fun n hn => by
      have hm := placesF_mem.1 (hp.mem_iff.1 (b n hn))
      exact ⟨nth_append_left (by omega) (by omega), by simp; omega⟩
  have htop : Top 0 (more.length + 1) (ns ++ [newRoot root more]) (h + 1) ns.length 0 1099511627776 ((ns.length : Int) :: Q) := by
    refine ⟨⟨by omega, by simp; omega, hlt⟩, Q, rfl, ?_⟩
    rw [nth_last]
    exact ⟨rfl, rfl, by simp [newRoot]; omega, by simp [newRoot], by simp [newRoot], by simp [newRoot], rfl, hQ'⟩
  have hpl : ((ns.length : Int) :: Q).Perm (placesF 0 (ns.length + 1)) := by
    rw [placesF_append]
    refine (hp.cons _).trans ?_
    show ((ns.length : Int) :: placesF 0 ns.length).Perm (placesF 0 ns.length ++ placesF (0 + ns.length) 1)
    rw [Nat.zero_add]
    exact (List.perm_append_comm (l₁ := [(ns.length : Int)]) (l₂ := placesF 0 ns.length))
  have hnd : ((ns.length : Int) :: Q).Nodup := hpl.nodup_iff.2 (placesF_nodup _ _)
  have hs := split_ok htop hnd
  obtain ⟨Q', h1, h2⟩ := hs.sub
  refine ⟨⟨Q', h1, h2.trans ?_⟩, hs.cont.trans ?_⟩
  · have hle := hs.le
    rw [show (splitN (ns ++ [newRoot root more]) ns.length).1.length = (ns.length + 1) + ((splitN (ns ++ [newRoot root more]) ns.length).1.length - (ns ++ [newRoot root more]).length) by simp at hle ⊢; omega, placesF_append]
    have e : (ns ++ [newRoot root more]).length = 0 + (ns.length + 1) := by simp
    rw [e]
    refine (hpl.append_right _).trans ?_
    exact List.Perm.of_eq (by congr 2; simp at hle; omega)
  · simp [cont, newRoot]

theorem grow_ok : ∀ (f : Nat) {ns : List Nd} {h : Nat} {root : Int} {more : List (Int × Int)}, more.length ≤ f → RowOk ns h root more →
    (∃ h' Q, Sub 6 4 (growN f ns root more).1 h' (growN f ns root more).2 0 1099511627776 Q ∧ Q.Perm (placesF 0 (growN f ns root more).1.length)) ∧ ((growN f ns root more).1.flatMap cont).Perm (ns.flatMap cont) ∧ (growN f ns root more).1.length ≤ ns.length + more.length := by
  intro f
  induction f with
  | zero =>
    intro ns h root more hf hr
    obtain rfl : more = [] := List.eq_nil_of_length_eq_zero (by omega)
    obtain ⟨Q, ⟨Q1, Q2, rfl, h1, h2⟩, hp⟩ := hr.sub
    cases h2
    rw [List.append_nil] at hp
    exact ⟨⟨h, Q1, h1, hp⟩, List.Perm.refl _, by simp [growN]⟩
  | succ f ih =>
    intro ns h root more hf hr
    unfold growN
    split
    · rename_i hm
      subst hm
      obtain ⟨Q, ⟨Q1, Q2, rfl, h1, h2⟩, hp⟩ := hr.sub
      cases h2
      rw [List.append_nil] at hp
      exact ⟨⟨h, Q1, h1, hp⟩, List.Perm.refl _, by simp⟩
    · rename_i hm
      have hml : 1 ≤ more.length := by cases more with | nil => exact absurd rfl hm | cons => simp
      obtain ⟨hr', hc⟩ := row_step hr hm
      obtain ⟨l1, l2⟩ := splitN_more ns root more
      obtain ⟨a, b, c⟩ := ih (by rw [l1]; omega) hr'
      exact ⟨a, b.trans hc, by rw [l1, l2] at c; omega⟩

/-! ### What Check tells of it -/

theorem two_pow_succ (h : Nat) : 2 ^ (h + 1) = 2 ^ h + 2 ^ h := by rw [Nat.pow_succ]; omega

theorem Sub_size {mL mK : Nat} {ns : List Nd} : ∀ (h : Nat) (d lo hi : Int) (P : List Int), Sub mL mK ns h d lo hi P → 2 ^ (h + 1) ≤ P.length + 1
  | 0, _, _, _, _, h => by rw [h.2.1]; simp
  | h + 1, d, lo, hi, P, hs => by
    obtain ⟨_, Q, rfl, hin⟩ := hs
    have ih := Sub_size (mL := mL) (mK := mK) (ns := ns) h
    obtain ⟨kids, keys, hk1, hk2⟩ : ∃ kids keys, kids = (nth ns d).kids ∧ keys = (nth ns d).keys := ⟨_, _, rfl, rfl⟩
    have h2 := hin.two
    have h3 := hin.keys
    have h4 := hin.kids
    rw [← hk1] at h2 h3 h4
    rw [← hk2] at h3 h4
    match kids, keys, h2, h3, h4 with
    | a :: b :: r, k :: ks, _, _, h4 =>
      rw [ups_cons] at h4
      obtain ⟨Q1, Q2, rfl, g1, g2⟩ := h4
      have i1 := ih _ _ _ _ g1
      have : ∃ u r', ups (b :: r) ks hi = (b, u) :: r' := by cases ks <;> exact ⟨_, _, rfl⟩
      obtain ⟨u, r', e⟩ := this
      rw [e] at g2
      obtain ⟨Q3, Q4, rfl, g3, _⟩ := g2
      have i2 := ih _ _ _ _ g3
      rw [two_pow_succ (h + 1)]
      simp only [List.length_cons, List.length_append]
      omega

/-- What W yields where all is as it must be. -/
def Yields (S : St) (dp : Int) (P : List Int) (r : Option (St × List Int)) : Prop := ∃ S' l, r = some (S', l) ∧ (S'.map (·.1)).Perm (P ++ S.map (·.1)) ∧ l ≠ [] ∧ ∀ x ∈ l, x = dp

theorem Wk_yields {g : Int → Int → Int → St → Option (St × List Int)} {G : Rel} {dp : Int} (hg : ∀ d lo hi P S, G d lo hi P → P.Nodup → (∀ n ∈ P, n ∉ S.map (·.1)) → Yields S dp P (g d lo hi S)) :
    ∀ (kids keys : List Int) (lo hi : Int) (Q : List Int) (S : St), keys.length + 1 = kids.length → SubK G lo (ups kids keys hi) Q → Q.Nodup → (∀ n ∈ Q, n ∉ S.map (·.1)) → Yields S dp Q (Wk g kids keys lo hi S)
  | [], _, _, _, _, _, h, _, _, _ => by simp at h
  | [d], keys, lo, hi, Q, S, hl, hs, hn, hd => by
    obtain rfl : keys = [] := List.eq_nil_of_length_eq_zero (by simpa using hl)
    obtain ⟨Q1, Q2, rfl, h1, h2⟩ := hs
    cases h2
    rw [List.append_nil] at hn hd ⊢
    obtain ⟨S', l, e, hp, hne, ha⟩ := hg d lo hi Q1 S h1 hn hd
    refine ⟨S', l, ?_, hp, hne, ha⟩
    simp [Wk, e]
  | d :: d' :: ds, keys, lo, hi, Q, S, hl, hs, hn, hd => by
    cases keys with
    | nil => simp at hl
    | cons k ks =>
      rw [ups_cons] at hs
      obtain ⟨Q1, Q2, rfl, h1, h2⟩ := hs
      rw [List.nodup_append] at hn
      obtain ⟨S1, l1, e1, hp1, hne1, ha1⟩ := hg d lo k Q1 S h1 hn.1 (fun n hn' => hd n (List.mem_append_left _ hn'))
      obtain ⟨S2, l2, e2, hp2, hne2, ha2⟩ := Wk_yields hg (d' :: ds) ks k hi Q2 S1 (by simpa using hl) h2 hn.2.1 (fun n hn' hm => by
        rcases List.mem_append.1 (hp1.mem_iff.1 hm) with hm | hm
        · exact hn.2.2 n hm n hn' rfl
        · exact hd n (List.mem_append_right _ hn') hm)
      refine ⟨S2, l1 ++ l2, ?_, ?_, by simp [hne1], fun x hx => ?_⟩
      · show (match g d lo k S with | none => none | some (S1, l1) => match Wk g (d' :: ds) ks k hi S1 with | none => none | some (S2, l2) => some (S2, l1 ++ l2)) = _
        rw [e1]
        simp only
        rw [e2]
      · refine hp2.trans ((hp1.append_left Q2).trans ?_)
        rw [List.append_assoc]
        exact List.perm_append_comm_assoc _ _ _
      · rcases List.mem_append.1 hx with hx | hx
        · exact ha1 x hx
        · exact ha2 x hx

theorem Sub_W {ns : List Nd} : ∀ (h f : Nat) (n lo hi : Int) (P : List Int) (S : St), Sub 6 4 ns h n lo hi P → h < f → P.Nodup → (∀ m ∈ P, m ∉ S.map (·.1)) → Yields S (13 - (f : Int) + h) P (W ns f n lo hi S) := by
  intro h
  induction h with
  | zero =>
    intro f n lo hi P S hs hf hn hd
    obtain ⟨⟨h0, h1, hlt⟩, rfl, hl⟩ := hs
    obtain ⟨f, rfl⟩ : ∃ g, f = g + 1 := ⟨f - 1, by omega⟩
    have hseen : seenB S n = false := by
      have := hd n (by simp)
      cases hb : seenB S n with
      | false => rfl
      | true => exact absurd (seenB_iff.1 hb) this
    have hlB : leafB (nth ns n) lo hi f = true := leafB_iff.2 ⟨hl.keys, hl.kids, hl.buf, hl.most, .inr hl.ne, hl.ents⟩
    refine ⟨(n, 12 - (f : Int)) :: S, [12 - (f : Int)], ?_, by simp, by simp, by simp; omega⟩
    rw [W_succ, if_neg (by simp [hseen]; omega)]
    show (if (nth ns n).leaf = true then _ else _) = _
    rw [if_pos hl.leaf]
    show (if leafB (nth ns n) lo hi f = true then _ else _) = _
    rw [if_pos hlB]
  | succ h ih =>
    intro f n lo hi P S hs hf hn hd
    obtain ⟨⟨h0, h1, hlt⟩, Q, rfl, hl⟩ := hs
    obtain ⟨f, rfl⟩ : ∃ g, f = g + 1 := ⟨f - 1, by omega⟩
    have hseen : seenB S n = false := by
      have := hd n (by simp)
      cases hb : seenB S n with
      | false => rfl
      | true => exact absurd (seenB_iff.1 hb) this
    have hiB : innerB (nth ns n) lo hi = true := by
      simp only [innerB, Bool.and_eq_true, decide_eq_true_eq, beq_iff_eq, List.isEmpty_iff]
      exact ⟨⟨⟨⟨⟨hl.ents, hl.two⟩, hl.most⟩, hl.keys⟩, hl.few⟩, hl.buf⟩
    rw [List.nodup_cons] at hn
    obtain ⟨S', l, e, hp, hne, ha⟩ := Wk_yields (dp := 13 - (f : Int) + h) (fun d lo hi P S a b c => ih f d lo hi P S a (by omega) b c) (nth ns n).kids (nth ns n).keys lo hi Q ((n, 12 - (f : Int)) :: S) hl.keys hl.kids hn.2 (fun m hm hm' => by
      rw [List.map_cons, List.mem_cons] at hm'
      rcases hm' with rfl | hm'
      · exact hn.1 hm
      · exact hd m (List.mem_cons_of_mem _ hm) hm')
    refine ⟨S', l, ?_, hp.trans ?_, hne, fun x hx => by rw [ha x hx]; push_cast; omega⟩
    · rw [W_succ, if_neg (by simp [hseen]; omega)]
      show (if (nth ns n).leaf = true then _ else if innerB (nth ns n) lo hi = true then _ else _) = _
      rw [if_neg (by simp [hl.leaf]), if_pos hiB]
      exact e
    · rw [List.map_cons]
      exact List.perm_middle

theorem placesF_len {Q : List Int} {N : Nat} (h : Q.Perm (placesF 0 N)) : Q.length = N := by rw [h.length_eq, placesF_length]

theorem Sub_treeC {ns : List Nd} {h : Nat} {root : Int} {Q : List Int} (hs : Sub 6 4 ns h root 0 1099511627776 Q) (hp : Q.Perm (placesF 0 ns.length)) (hz : ns.length ≤ 2000) : treeC ns root = 0 := by
  have hl := placesF_len hp
  have h1 := Sub_size h _ _ _ _ hs
  have hh : h < 12 := by
    apply Classical.byContradiction
    intro e
    have : 2 ^ 13 ≤ 2 ^ (h + 1) := Nat.pow_le_pow_right (by decide) (by omega)
    omega
  obtain ⟨S', l, e, hpm, hne, ha⟩ := Sub_W h 12 root 0 1099511627776 Q [] hs hh (hp.nodup_iff.2 (placesF_nodup _ _)) (by simp)
  unfold treeC
  rw [if_neg (by omega), e]
  simp only
  rw [if_pos]
  refine ⟨?_, ?_⟩
  · unfold okL
    rw [if_pos rfl, List.all_eq_true]
    intro x hx
    rw [beq_iff_eq, ha x hx]
    cases l with
    | nil => exact absurd rfl hne
    | cons y r => exact (ha y (by simp)).symm
  · have := hpm.length_eq
    simp at this
    omega

end Go.Proofs.YtlojfgdpmaigmaeGreatDoor

/- A node more. -/
namespace Go.Proofs.YtlojfgdpmaigmaeGreatDoor
open Go.RowKit Plain

theorem newsA (w : World) (q : PN) (o1 : Obj) (t : TypeId) : ∀ j u, (flatN [q])[j]? = some u → ((w.alloc o1).drew.alloc (.cells #[.bool q.leaf, .slice q.eA q.ents.length q.eC, .slice q.kA q.keys.length q.kC, .slice q.dA q.kids.length q.dC, .slice q.bA q.buf.length q.bC] t)).cell? (Addr.add ⟨w.heap.size + 1, 0, none⟩ j) = some u := by
  have h := rowL_alloc (w.alloc o1).drew q.vals t
  have e : (w.alloc o1).drew.heap.size = w.heap.size + 1 := by simp
  rw [e] at h
  exact newsN _ _ _ q h

theorem add_end {base tb g C g' C' : Nat} {qs : List PN} {root : Int} {q : PN} {w W w1 : World} (hT : TB base w tb g C qs root) (hq : q.own base w) (hqn : q.blocks.Nodup) (hqd : ∀ b ∈ q.blocks, b ∉ feet g qs) (hqt : tb ∉ q.blocks) (hz : (qs.length + 1) * 104 ≤ 140737488351232)
    (hW : Below w.heap.size w W) (hown : w1.ownsRow base 112 5 (.slice (some ⟨g', 0, none⟩) (qs.length + 1) C') (qs.length + 1) (flatN qs ++ flatN [q])) (hgrow : W.grownBy w1 (Value.slice (some ⟨g, 0, none⟩) qs.length C).ownBlock) (hat : (Value.slice (some ⟨g, 0, none⟩) qs.length C).ownBlock = some g' ∨ g' = w.heap.size + 2) :
    TB base (w1.setCell ⟨tb, 0, none⟩ (.slice (some ⟨g', 0, none⟩) (qs.length + 1) C')) tb g' C' (qs ++ [q]) root ∧ Kept [tb, g] w (w1.setCell ⟨tb, 0, none⟩ (.slice (some ⟨g', 0, none⟩) (qs.length + 1) C')) ∧ (g' = g ∨ w.heap.size ≤ g') := by
  have hat' : g' = g ∨ g' = w.heap.size + 2 := by
    rcases hat with h | h
    · left; simpa [Value.ownBlock] using h.symm
    · exact .inr h
  have htg : tb ≠ g := fun e => hT.ne (e ▸ List.mem_cons_self)
  have htl := hT.box.lt
  have hk1 : ∀ k, k < w.heap.size → k ≠ g → w1.heap[k]? = w.heap[k]? := fun k hk hne => (hgrow.block k (Nat.lt_of_lt_of_le hk hW.size) (by simpa [Value.ownBlock] using hne)).trans (hW.block k hk)
  have hk2 : ∀ k, k ≠ tb → (w1.setCell ⟨tb, 0, none⟩ (.slice (some ⟨g', 0, none⟩) (qs.length + 1) C')).heap[k]? = w1.heap[k]? := fun k hne => Below.heap_setCell _ _ _ _ hne
  have hg't : g' ≠ tb := by rcases hat' with rfl | rfl <;> omega
  have hfl := hT.nt.lt
  have hap := hT.nt.apart
  have hgn : g ∉ qs.flatMap PN.blocks := by rw [feet, List.nodup_cons] at hap; exact hap.1
  refine ⟨⟨⟨?_, fun x hx => ?_, ?_, by simpa using hz⟩, ?_, ?_, hT.hb⟩, ⟨hgrow.os.trans hW.os, hgrow.tape.trans hW.tape, hgrow.output.trans hW.output, ?_, fun k hk hx => ?_⟩, by omega⟩
  · rw [flatN_append, List.length_append]
    exact own_of_block hown fun k hk => hk2 k (by have : g' = k := (by simpa [Value.ownBlock] using hk); omega)
  · rcases List.mem_append.1 hx with hx | hx
    · refine (hT.nt.each x hx).of_blocks fun k hk => ?_
      have hm : k ∈ feet g qs := List.mem_cons_of_mem _ (List.mem_flatMap.2 ⟨x, hx, hk⟩)
      rw [hk2 k (fun e => hT.ne (e ▸ hm)), hk1 k (hfl k hm).2 (fun e => hgn (e ▸ List.mem_flatMap.2 ⟨x, hx, hk⟩))]
    · obtain rfl : x = q := by simpa using hx
      refine hq.of_blocks fun k hk => ?_
      rw [hk2 k (fun e => hqt (e ▸ hk)), hk1 k (hq.lt k hk).2 (fun e => hqd k hk (e ▸ List.mem_cons_self))]
  · refine feet_append hap hqn hqd ?_
    rcases hat' with h | h
    · exact .inl h
    · refine .inr ⟨fun e => ?_, fun e => ?_⟩
      · have := (hfl _ e).2; omega
      · have := (hq.lt _ e).2; omega
  · have hr : RowL w1 tb 25 [.slice (some ⟨g, 0, none⟩) qs.length C, .int .i64 root] := hT.box.of_block (hk1 tb htl htg)
    rw [List.length_append]
    exact hr.set 0 _
  · unfold feet
    simp only [List.flatMap_append, List.flatMap_cons, List.flatMap_nil, List.append_nil, List.mem_cons, List.mem_append, not_or]
    refine ⟨fun e => hg't e.symm, fun e => hT.ne (List.mem_cons_of_mem _ e), hqt⟩
  · have h1 := hgrow.size
    have h2 := hW.size
    simp
    omega
  · simp only [List.mem_cons, List.not_mem_nil, or_false, not_or] at hx
    rw [hk2 k hx.1, hk1 k hk hx.2]

set_option maxRecDepth 20000 in
set_option maxHeartbeats 4000000 in
theorem add_any (base tb g C : Nat) (qs : List PN) (root : Int) (q : PN) (w : World) (hT : TB base w tb g C qs root) (hq : q.own base w) (hqn : q.blocks.Nodup) (hqd : ∀ b ∈ q.blocks, b ∉ feet g qs) (hqt : tb ∉ q.blocks) (hz : (qs.length + 1) * 104 ≤ 140737488351232) (hB : base ≤ w.heap.size) :
    Calls Tryz.prog 104 #[.pointer (some ⟨tb, 0, none⟩), .agg #[.bool q.leaf, .slice q.eA q.ents.length q.eC, .slice q.kA q.keys.length q.kC, .slice q.dA q.kids.length q.dC, .slice q.bA q.buf.length q.bC]] w
      fun e w' => e = .returned (.int .i64 (qs.length : Int)) ∧ ∃ g' C', TB base w' tb g' C' (qs ++ [q]) root ∧ Kept [tb, g] w w' ∧ (g' = g ∨ w.heap.size ≤ g') := by
  obtain ⟨i0, hi0, hz0, hz1, hz2⟩ := info_parts infoN
  have own := hT.nt.own
  have HT : Hid (TB base w tb g C qs root) := hT
  have c0 := hT.box.cell 0
  have c1 := hT.box.cell 1
  have fz := hT.box.frozen
  have tlt := hT.box.lt
  have glt := hT.nt.glt.2
  simp only [List.getElem?_cons_zero, List.getElem?_cons_succ] at c0 c1
  have HN : Hid (tb ≠ g) := fun e => hT.ne (e ▸ List.mem_cons_self)
  have HM : Hid (some tb ≠ (Value.slice (some ⟨g, 0, none⟩) qs.length C).ownBlock) := fun e => HN.out (by simpa [Value.ownBlock] using e)
  have hb2 : ∀ o1 o2 : Obj, Below w.heap.size w ((w.alloc o1).drew.alloc o2) := fun o1 o2 => (((Below.refl _ _).alloc (Nat.le_refl _) _).drew).alloc (by simp) _
  clear hT
  go_enter Tryz.func104, Tryz.ntmps104
  go_wp2_with fail
  go_region_law (refine step_append_lies _ rfl (.tmp 9) (.tmp 11) 23 rfl base 112 i0 _ 5 104 Tryz.underlying23 hi0 hz0 hz1 hz2 rfl (by decide) (.slice (some ⟨g, 0, none⟩) qs.length C) qs.length (flatN qs) (by simp [Act.eval]) (own_next own ((((Below.refl _ _).alloc (Nat.le_refl _) _).drew).alloc (by simp) _)) ⟨w.heap.size + 1, 0, none⟩ 1 1 (flatN [q]) (by simp [Act.eval]) rfl (newsA w q _ _) (flatN_one _) (by decide) (by unfold maxLen; omega) (by omega) (by simp; omega) (w.heap.size + 2) (by simp) ?_; intro g' C' w1 hown1 hgrow1 hat1 hlt1; have cv1 : w1.cell? ⟨tb, 0, none⟩ = some (.slice (some ⟨g, 0, none⟩) qs.length C) := (hgrow1.cell_far ⟨tb, 0, none⟩ (by simp; omega) HM.out).trans ((hb2 _ _).cell (p := ⟨tb, 0, none⟩) tlt |>.trans c0); have fv1 : w1.frozen? ⟨tb, 0, none⟩ = false := (hgrow1.frozen_far ⟨tb, 0, none⟩ (by simp; omega) HM.out).trans ((hb2 _ _).frozen (p := ⟨tb, 0, none⟩) tlt |>.trans (fz 0)); have HR := hideC (And.intro hown1 (And.intro hgrow1 hat1)); clear hown1 hgrow1 hat1)
  all_goals
    go_wp2
    go_ret
    obtain ⟨hown1, hgrow1, hat1⟩ := HR.out
    have R := add_end HT.out hq hqn hqd hqt hz (hb2 _ _) hown1 hgrow1 hat1
    exact ⟨ret_int (by omega), _, _, R⟩

end Go.Proofs.YtlojfgdpmaigmaeGreatDoor

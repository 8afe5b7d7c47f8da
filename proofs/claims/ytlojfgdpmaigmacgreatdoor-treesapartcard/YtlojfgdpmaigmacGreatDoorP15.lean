/- Roots above roots, till one is enough; and what Check tells of the tree then. -/
import Derived.Test.YtlojfgdpmaigmacGreatDoorP12
import Derived.Test.YtlojfgdpmaigmacGreatDoorP14
import Derived.Maps.OwnSet
import Derived.Maps.Views
import Derived.Maps.OwnOps
namespace Go.Proofs.YtlojfgdpmaigmacGreatDoor
open Go.RowKit Plain

def newRoot (root : Int) (more : List (Int × Int)) : Nd := ⟨false, [], more.map (·.1), root :: more.map (·.2), []⟩

def growN : Nat → List Nd → Int → List (Int × Int) → List Nd × Int
  | 0, ns, root, _ => (ns, root)
  | f + 1, ns, root, more =>
    if more = [] then (ns, root)
    else growN f (splitN (ns ++ [newRoot root more]) ns.length).1 ns.length (splitN (ns ++ [newRoot root more]) ns.length).2

/-- Nodes in a row, above all others. -/
structure RowOk (ns : List Nd) (h : Nat) (root : Int) (more : List (Int × Int)) : Prop where
  sub : ∃ Q, SubK (Sub 6 4 ns h) 0 (ups (root :: more.map (·.2)) (more.map (·.1)) 1099511627776) Q ∧ Q.Perm (placesF 0 ns.length)

theorem nth_last (ns : List Nd) (x : Nd) : nth (ns ++ [x]) (ns.length : Int) = x := by
  unfold nth
  simp

theorem splitN_more (ns : List Nd) (root : Int) (more : List (Int × Int)) : (splitN (ns ++ [newRoot root more]) ns.length).2.length = (more.length + 4) / 4 - 1 ∧ (splitN (ns ++ [newRoot root more]) ns.length).1.length = ns.length + (more.length + 4) / 4 := by
  unfold splitN
  rw [nth_last]
  have hs : sizeN (newRoot root more) = more.length + 1 := by simp [sizeN, newRoot]
  have hm : mostN (newRoot root more) = 4 := by simp [mostN, newRoot]
  have hp : partsN (newRoot root more) = (more.length + 4) / 4 := by
    rw [partsN, hs, hm]
    congr 1
  split
  · rename_i h
    rw [hs, hm] at h
    simp
    omega
  · rename_i h
    rw [hs, hm] at h
    have hc : (cutsN (newRoot root more)).length = (more.length + 4) / 4 := by unfold cutsN; rw [cutsF_length, hp]
    constructor
    · simp only [List.length_zip, keysL_length, hc, placesF_length, hp]
      omega
    · simp only [List.length_append, List.length_set, List.length_tail, partsL_length, hc, List.length_cons, List.length_nil]
      omega

theorem row_step {ns : List Nd} {h : Nat} {root : Int} {more : List (Int × Int)} (hr : RowOk ns h root more) (hm : more ≠ []) :
    RowOk (splitN (ns ++ [newRoot root more]) ns.length).1 (h + 1) ns.length (splitN (ns ++ [newRoot root more]) ns.length).2 ∧ ((splitN (ns ++ [newRoot root more]) ns.length).1.flatMap cont).Perm (ns.flatMap cont) := by
  obtain ⟨Q, hQ, hp⟩ := hr.sub
  have hml : 1 ≤ more.length := by cases more with | nil => exact absurd rfl hm | cons => simp
  have hkl : (more.map (·.1)).length + 1 = (root :: more.map (·.2)).length := by simp
  have hlt : (0 : Int) < 1099511627776 := by decide
  have hQ' : SubK (Sub 6 4 (ns ++ [newRoot root more]) h) 0 (ups (root :: more.map (·.2)) (more.map (·.1)) 1099511627776) Q :=
    SubK_imp hQ fun d lo hi Q1 a b => Sub_congr h d lo hi Q1 a fun n hn => by
      have hm := placesF_mem.1 (hp.mem_iff.1 (b n hn))
      exact ⟨nth_append_left (by omega) (by omega), by simp; omega⟩
  have htop : Top 0 (more.length + 1) (ns ++ [newRoot root more]) (h + 1) ns.length 0 1099511627776 ((ns.length : Int) :: Q) := by
    refine ⟨⟨by omega, by simp; omega, hlt⟩, Q, rfl, ?_⟩
    rw [nth_last]
    exact ⟨rfl, rfl, by simp [newRoot]; omega, by simp [newRoot], by simp [newRoot], by simp [newRoot], rfl, hQ'⟩
  have hpl : ((ns.length : Int) :: Q).Perm (placesF 0 (ns.length + 1)) := by
    rw [placesF_append]
    refine (hp.cons _).trans ?_
    show ((ns.length : Int) :: placesF 0 ns.length).Perm (placesF 0 ns.length ++ placesF (0 + ns.length) 1)
    rw [Nat.zero_add]
    exact (List.perm_append_comm (l₁ := [(ns.length : Int)]) (l₂ := placesF 0 ns.length))
  have hnd : ((ns.length : Int) :: Q).Nodup := hpl.nodup_iff.2 (placesF_nodup _ _)
  have hs := split_ok htop hnd
  obtain ⟨Q', h1, h2⟩ := hs.sub
  refine ⟨⟨Q', h1, h2.trans ?_⟩, hs.cont.trans ?_⟩
  · have hle := hs.le
    rw [show (splitN (ns ++ [newRoot root more]) ns.length).1.length = (ns.length + 1) + ((splitN (ns ++ [newRoot root more]) ns.length).1.length - (ns ++ [newRoot root more]).length) by simp at hle ⊢; omega, placesF_append]
    have e : (ns ++ [newRoot root more]).length = 0 + (ns.length + 1) := by simp
    rw [e]
    refine (hpl.append_right _).trans ?_
    exact List.Perm.of_eq (by congr 2; simp at hle; omega)
  · simp [cont, newRoot]

theorem grow_ok : ∀ (f : Nat) {ns : List Nd} {h : Nat} {root : Int} {more : List (Int × Int)}, more.length ≤ f → RowOk ns h root more →
    (∃ h' Q, Sub 6 4 (growN f ns root more).1 h' (growN f ns root more).2 0 1099511627776 Q ∧ Q.Perm (placesF 0 (growN f ns root more).1.length)) ∧ ((growN f ns root more).1.flatMap cont).Perm (ns.flatMap cont) ∧ (growN f ns root more).1.length ≤ ns.length + more.length := by
  intro f
  induction f with
  | zero =>
    intro ns h root more hf hr
    obtain rfl : more = [] := List.eq_nil_of_length_eq_zero (by omega)
    obtain ⟨Q, ⟨Q1, Q2, rfl, h1, h2⟩, hp⟩ := hr.sub
    cases h2
    rw [List.append_nil] at hp
    exact ⟨⟨h, Q1, h1, hp⟩, List.Perm.refl _, by simp [growN]⟩
  | succ f ih =>
    intro ns h root more hf hr
    unfold growN
    split
    · rename_i hm
      subst hm
      obtain ⟨Q, ⟨Q1, Q2, rfl, h1, h2⟩, hp⟩ := hr.sub
      cases h2
      rw [List.append_nil] at hp
      exact ⟨⟨h, Q1, h1, hp⟩, List.Perm.refl _, by simp⟩
    · rename_i hm
      have hml : 1 ≤ more.length := by cases more with | nil => exact absurd rfl hm | cons => simp
      obtain ⟨hr', hc⟩ := row_step hr hm
      obtain ⟨l1, l2⟩ := splitN_more ns root more
      obtain ⟨a, b, c⟩ := ih (by rw [l1]; omega) hr'
      exact ⟨a, b.trans hc, by rw [l1, l2] at c; omega⟩

/-! ### What Check tells of it -/

theorem two_pow_succ (h : Nat) : 2 ^ (h + 1) = 2 ^ h + 2 ^ h := by rw [Nat.pow_succ]; omega

theorem Sub_size {mL mK : Nat} {ns : List Nd} : ∀ (h : Nat) (d lo hi : Int) (P : List Int), Sub mL mK ns h d lo hi P → 2 ^ (h + 1) ≤ P.length + 1
  | 0, _, _, _, _, h => by rw [h.2.1]; simp
  | h + 1, d, lo, hi, P, hs => by
    obtain ⟨_, Q, rfl, hin⟩ := hs
    have ih := Sub_size (mL := mL) (mK := mK) (ns := ns) h
    obtain ⟨kids, keys, hk1, hk2⟩ : ∃ kids keys, kids = (nth ns d).kids ∧ keys = (nth ns d).keys := ⟨_, _, rfl, rfl⟩
    have h2 := hin.two
    have h3 := hin.keys
    have h4 := hin.kids
    rw [← hk1] at h2 h3 h4
    rw [← hk2] at h3 h4
    match kids, keys, h2, h3, h4 with
    | a :: b :: r, k :: ks, _, _, h4 =>
      rw [ups_cons] at h4
      obtain ⟨Q1, Q2, rfl, g1, g2⟩ := h4
      have i1 := ih _ _ _ _ g1
      have : ∃ u r', ups (b :: r) ks hi = (b, u) :: r' := by cases ks <;> exact ⟨_, _, rfl⟩
      obtain ⟨u, r', e⟩ := this
      rw [e] at g2
      obtain ⟨Q3, Q4, rfl, g3, _⟩ := g2
      have i2 := ih _ _ _ _ g3
      rw [two_pow_succ (h + 1)]
      simp only [List.length_cons, List.length_append]
      omega

/-- What W yields where all is as it must be. -/
def Yields (S : St) (dp : Int) (P : List Int) (r : Option (St × List Int)) : Prop := ∃ S' l, r = some (S', l) ∧ (S'.map (·.1)).Perm (P ++ S.map (·.1)) ∧ l ≠ [] ∧ ∀ x ∈ l, x = dp

theorem Wk_yields {g : Int → Int → Int → St → Option (St × List Int)} {G : Rel} {dp : Int} (hg : ∀ d lo hi P S, G d lo hi P → P.Nodup → (∀ n ∈ P, n ∉ S.map (·.1)) → Yields S dp P (g d lo hi S)) :
    ∀ (kids keys : List Int) (lo hi : Int) (Q : List Int) (S : St), keys.length + 1 = kids.length → SubK G lo (ups kids keys hi) Q → Q.Nodup → (∀ n ∈ Q, n ∉ S.map (·.1)) → Yields S dp Q (Wk g kids keys lo hi S)
  | [], _, _, _, _, _, h, _, _, _ => by simp at h
  | [d], keys, lo, hi, Q, S, hl, hs, hn, hd => by
    obtain rfl : keys = [] := List.eq_nil_of_length_eq_zero (by simpa using hl)
    obtain ⟨Q1, Q2, rfl, h1, h2⟩ := hs
    cases h2
    rw [List.append_nil] at hn hd ⊢
    obtain ⟨S', l, e, hp, hne, ha⟩ := hg d lo hi Q1 S h1 hn hd
    refine ⟨S', l, ?_, hp, hne, ha⟩
    simp [Wk, e]
  | d :: d' :: ds, keys, lo, hi, Q, S, hl, hs, hn, hd => by
    cases keys with
    | nil => simp at hl
    | cons k ks =>
      rw [ups_cons] at hs
      obtain ⟨Q1, Q2, rfl, h1, h2⟩ := hs
      rw [List.nodup_append] at hn
      obtain ⟨S1, l1, e1, hp1, hne1, ha1⟩ := hg d lo k Q1 S h1 hn.1 (fun n hn' => hd n (List.mem_append_left _ hn'))
      obtain ⟨S2, l2, e2, hp2, hne2, ha2⟩ := Wk_yields hg (d' :: ds) ks k hi Q2 S1 (by simpa using hl) h2 hn.2.1 (fun n hn' hm => by
        rcases List.mem_append.1 (hp1.mem_iff.1 hm) with hm | hm
        · exact hn.2.2 n hm n hn' rfl
        · exact hd n (List.mem_append_right _ hn') hm)
      refine ⟨S2, l1 ++ l2, ?_, ?_, by simp [hne1], fun x hx => ?_⟩
      · show (match g d lo k S with | none => none | some (S1, l1) => match Wk g (d' :: ds) ks k hi S1 with | none => none | some (S2, l2) => some (S2, l1 ++ l2)) = _
        rw [e1]
        simp only
        rw [e2]
      · refine hp2.trans ((hp1.append_left Q2).trans ?_)
        rw [List.append_assoc]
        exact List.perm_append_comm_assoc _ _ _
      · rcases List.mem_append.1 hx with hx | hx
        · exact ha1 x hx
        · exact ha2 x hx

theorem Sub_W {ns : List Nd} : ∀ (h f : Nat) (n lo hi : Int) (P : List Int) (S : St), Sub 6 4 ns h n lo hi P → h < f → P.Nodup → (∀ m ∈ P, m ∉ S.map (·.1)) → Yields S (13 - (f : Int) + h) P (W ns f n lo hi S) := by
  intro h
  induction h with
  | zero =>
    intro f n lo hi P S hs hf hn hd
    obtain ⟨⟨h0, h1, hlt⟩, rfl, hl⟩ := hs
    obtain ⟨f, rfl⟩ : ∃ g, f = g + 1 := ⟨f - 1, by omega⟩
    have hseen : seenB S n = false := by
      have := hd n (by simp)
      cases hb : seenB S n with
      | false => rfl
      | true => exact absurd (seenB_iff.1 hb) this
    have hlB : leafB (nth ns n) lo hi f = true := leafB_iff.2 ⟨hl.keys, hl.kids, hl.buf, hl.most, .inr hl.ne, hl.ents⟩
    refine ⟨(n, 12 - (f : Int)) :: S, [12 - (f : Int)], ?_, by simp, by simp, by simp; omega⟩
    rw [W_succ, if_neg (by simp [hseen]; omega)]
    show (if (nth ns n).leaf = true then _ else _) = _
    rw [if_pos hl.leaf]
    show (if leafB (nth ns n) lo hi f = true then _ else _) = _
    rw [if_pos hlB]
  | succ h ih =>
    intro f n lo hi P S hs hf hn hd
    obtain ⟨⟨h0, h1, hlt⟩, Q, rfl, hl⟩ := hs
    obtain ⟨f, rfl⟩ : ∃ g, f = g + 1 := ⟨f - 1, by omega⟩
    have hseen : seenB S n = false := by
      have := hd n (by simp)
      cases hb : seenB S n with
      | false => rfl
      | true => exact absurd (seenB_iff.1 hb) this
    have hiB : innerB (nth ns n) lo hi = true := by
      simp only [innerB, Bool.and_eq_true, decide_eq_true_eq, beq_iff_eq, List.isEmpty_iff]
      exact ⟨⟨⟨⟨⟨hl.ents, hl.two⟩, hl.most⟩, hl.keys⟩, hl.few⟩, hl.buf⟩
    rw [List.nodup_cons] at hn
    obtain ⟨S', l, e, hp, hne, ha⟩ := Wk_yields (dp := 13 - (f : Int) + h) (fun d lo hi P S a b c => ih f d lo hi P S a (by omega) b c) (nth ns n).kids (nth ns n).keys lo hi Q ((n, 12 - (f : Int)) :: S) hl.keys hl.kids hn.2 (fun m hm hm' => by
      rw [List.map_cons, List.mem_cons] at hm'
      rcases hm' with rfl | hm'
      · exact hn.1 hm
      · exact hd m (List.mem_cons_of_mem _ hm) hm')
    refine ⟨S', l, ?_, hp.trans ?_, hne, fun x hx => by rw [ha x hx]; push_cast; omega⟩
    · rw [W_succ, if_neg (by simp [hseen]; omega)]
      show (if (nth ns n).leaf = true then _ else if innerB (nth ns n) lo hi = true then _ else _) = _
      rw [if_neg (by simp [hl.leaf]), if_pos hiB]
      exact e
    · rw [List.map_cons]
      exact List.perm_middle

theorem placesF_len {Q : List Int} {N : Nat} (h : Q.Perm (placesF 0 N)) : Q.length = N := by rw [h.length_eq, placesF_length]

theorem Sub_treeC {ns : List Nd} {h : Nat} {root : Int} {Q : List Int} (hs : Sub 6 4 ns h root 0 1099511627776 Q) (hp : Q.Perm (placesF 0 ns.length)) (hz : ns.length ≤ 2000) : treeC ns root = 0 := by
  have hl := placesF_len hp
  have h1 := Sub_size h _ _ _ _ hs
  have hh : h < 12 := by
    apply Classical.byContradiction
    intro e
    have : 2 ^ 13 ≤ 2 ^ (h + 1) := Nat.pow_le_pow_right (by decide) (by omega)
    omega
  obtain ⟨S', l, e, hpm, hne, ha⟩ := Sub_W h 12 root 0 1099511627776 Q [] hs hh (hp.nodup_iff.2 (placesF_nodup _ _)) (by simp)
  unfold treeC
  rw [if_neg (by omega), e]
  simp only
  rw [if_pos]
  refine ⟨?_, ?_⟩
  · unfold okL
    rw [if_pos rfl, List.all_eq_true]
    intro x hx
    rw [beq_iff_eq, ha x hx]
    cases l with
    | nil => exact absurd rfl hne
    | cons y r => exact (ha y (by simp)).symm
  · have := hpm.length_eq
    simp at this
    omega

end Go.Proofs.YtlojfgdpmaigmacGreatDoor

/- A loop over kids as the code's survey goes: with one depth for all leaves. -/
namespace Go.Proofs.YtlojfgdpmaigmacGreatDoor
open Go.RowKit Plain Go.Maps

def nextL (L : Int) (l : List Int) : Int := if L = 0 then l.headD 0 else L

structure KidsN (g : Int → Int → Int → St → Option (St × List Int)) (kids keys : List Int) (low high : Int) (S0 : St) (L0 : Int) (i : Nat) (lo : Int) (S : St) (acc : List Int) (L : Int) : Prop where
  eq : Wk g kids keys low high S0 = join acc (Wk g (kids.drop i) (keys.drop i) lo high S)
  same : ∀ x ∈ acc, x = L
  none : acc = [] → L = L0
  pos : acc ≠ [] → L ≠ 0
  first : L0 ≠ 0 → L = L0
  low : low ≤ lo

section
variable {g : Int → Int → Int → St → Option (St × List Int)} {kids keys : List Int} {low high lo L0 L : Int} {S0 S : St} {i : Nat} {acc : List Int}

theorem kidsN_start (g : Int → Int → Int → St → Option (St × List Int)) (kids keys : List Int) (low high : Int) (S0 : St) (L0 : Int) : KidsN g kids keys low high S0 L0 0 low S0 [] L0 :=
  ⟨by rw [join_nil]; rfl, by simp, fun _ => rfl, by simp, fun _ => rfl, Int.le_refl _⟩

theorem okL_iff {L : Int} {l : List Int} : okL L l = true ↔ ∀ x ∈ l, x = nextL L l := by
  simp [okL, nextL]

theorem kidsN_no (h : KidsN g kids keys low high S0 L0 i lo S acc L) (hi : i < kids.length) (hr : resN L (g kids[i] lo (toAt keys high i) S) = false) : resN L0 (Wk g kids keys low high S0) = false := by
  rw [h.eq, Wk_drop hi]
  cases hg : g kids[i] lo (toAt keys high i) S with
  | none => rfl
  | some p =>
    obtain ⟨S1, l1⟩ := p
    rw [hg] at hr
    simp only [join_join]
    cases Wk g (kids.drop (i + 1)) (keys.drop (i + 1)) (toAt keys high i) high S1 with
    | none => rfl
    | some q =>
      obtain ⟨S2, l2⟩ := q
      simp only [join, resN] at hr ⊢
      rw [Bool.eq_false_iff] at hr ⊢
      intro hok
      apply hr
      rw [okL_iff] at hok ⊢
      intro x hx
      have hx' := hok x (List.mem_append_left _ (List.mem_append_right _ hx))
      rw [hx']
      by_cases hacc : acc = []
      · have hL := h.none hacc
        subst hacc hL
        cases l1 with
        | nil => simp at hx
        | cons d r => simp [nextL]
      · have hL := h.pos hacc
        obtain ⟨y, hy⟩ := List.exists_mem_of_ne_nil _ hacc
        have hy' := hok y (List.mem_append_left _ (List.mem_append_left _ hy))
        rw [← hy', h.same y hy]
        simp [nextL, hL]

theorem kidsN_next (hd : ∀ d low high S S' l, g d low high S = some (S', l) → l ≠ [] ∧ ∀ x ∈ l, 1 ≤ x) (hw : ∀ d low high S r, g d low high S = some r → low < high) (h : KidsN g kids keys low high S0 L0 i lo S acc L) (hi : i < kids.length) (hr : resN L (g kids[i] lo (toAt keys high i) S) = true) :
    ∃ S1 l1, g kids[i] lo (toAt keys high i) S = some (S1, l1) ∧ okL L l1 = true ∧ KidsN g kids keys low high S0 L0 (i + 1) (toAt keys high i) S1 (acc ++ l1) (nextL L l1) := by
  cases hg : g kids[i] lo (toAt keys high i) S with
  | none => rw [hg] at hr; simp [resN] at hr
  | some p =>
    obtain ⟨S1, l1⟩ := p
    rw [hg] at hr
    simp only [resN] at hr
    have hall := okL_iff.1 hr
    obtain ⟨hl, hpos⟩ := hd _ _ _ _ _ _ hg
    have hlt := hw _ _ _ _ _ hg
    have hlow := h.low
    obtain ⟨x, hx⟩ := List.exists_mem_of_ne_nil _ hl
    have hn0 : nextL L l1 ≠ 0 := by
      have := hpos x hx
      rw [hall x hx] at this
      omega
    refine ⟨S1, l1, rfl, hr, ⟨?_, ?_, fun e => absurd (List.append_eq_nil_iff.1 e).2 hl, fun _ => hn0, fun h0 => ?_, by omega⟩⟩
    · rw [h.eq, Wk_drop hi, hg]
      simp only [join_join]
    · intro z hz
      rcases List.mem_append.1 hz with hz | hz
      · have hacc : acc ≠ [] := List.ne_nil_of_mem hz
        have hL := h.pos hacc
        rw [h.same z hz]
        simp [nextL, hL]
      · exact hall z hz
    · have := h.first h0
      subst this
      simp [nextL, h0]

theorem kidsN_end (h : KidsN g kids keys low high S0 L0 i lo S acc L) (hi : i = kids.length) : Wk g kids keys low high S0 = some (S, acc) ∧ resN L0 (Wk g kids keys low high S0) = true ∧ nextL L0 acc = L := by
  have e : Wk g kids keys low high S0 = some (S, acc) := by
    rw [h.eq, hi, List.drop_length]
    simp [Wk, join]
  have hn : nextL L0 acc = L := by
    unfold nextL
    split
    · rename_i h0
      cases acc with
      | nil => simp; rw [h.none rfl]; exact h0.symm
      | cons d r => simpa using h.same d List.mem_cons_self
    · rename_i h0
      exact (h.first h0).symm
  refine ⟨e, ?_, hn⟩
  rw [e]
  simp only [resN]
  rw [okL_iff, hn]
  exact h.same

end

theorem law : Keyed Tryz.prog 3 := int_keyed Tryz.underlying3
theorem zeroI (w : World) : (zeroValue 3).run Tryz.prog w = .ok (.int .i64 0) w := by kernel_rfl

/-- Block mb is the map of which nodes have been come to, and how deep. -/
def MapIs (w : World) (mb : Nat) (S : St) : Prop :=
  ∃ D : DataW Unit, w.ownsMap Tryz.prog 3 (plainElem Tryz.prog 3) mb S.length D ∧ (∀ n : Int, Maps.has D (.int .i64 n) = seenB S n) ∧ (∀ p ∈ S, D.atKey (.int .i64 p.1) (.lit (.int .i64 0)) = .lit (.int .i64 p.2)) ∧ Maps.size D = S.length

theorem map_of_block {w w' : World} {mb n : Nat} {D : DataW Unit} (h : w.ownsMap Tryz.prog 3 (plainElem Tryz.prog 3) mb n D) (e : w'.heap[mb]? = w.heap[mb]?) : w'.ownsMap Tryz.prog 3 (plainElem Tryz.prog 3) mb n D := by
  unfold World.ownsMap at *
  rw [e]
  exact h

theorem MapIs.of_block {w w' : World} {mb : Nat} {S : St} (h : MapIs w mb S) (e : w'.heap[mb]? = w.heap[mb]?) : MapIs w' mb S := by
  obtain ⟨D, a, b⟩ := h
  exact ⟨D, map_of_block a e, b⟩

theorem MapIs.lt {w : World} {mb : Nat} {S : St} (h : MapIs w mb S) : mb < w.heap.size := by
  obtain ⟨D, a, _⟩ := h
  exact a.lt

theorem MapIs.look {w : World} {mb : Nat} {S : St} (h : MapIs w mb S) {n d : Int} (hp : (n, d) ∈ S) (hw : (Lit.int .i64 n).wf = true) :
    ∀ w' : World, w'.heap[mb]? = w.heap[mb]? → (Instr.lookup 85 (.map (some mb)) (.int .i64 n) false).run Tryz.prog w' = .ok (.int .i64 d) w' := by
  intro w' e
  obtain ⟨D, a, _, b, _⟩ := h
  obtain ⟨c, hrun, hat, _⟩ := (map_of_block a e).lookup_int law Tryz.underlying85 Tryz.underlying3 (zeroI _) (keyOf_int_mk Tryz.underlying3 hw)
  have := (b _ hp).symm.trans hat
  simp at this
  subst this
  exact hrun

end Go.Proofs.YtlojfgdpmaigmacGreatDoor

/- Roots above roots, till one is enough; and what Check tells of the tree then. -/
import Derived.Test.YtlojfgdpmaigmaeGreatDoorP18
import Derived.Test.YtlojfgdpmaigmaeGreatDoorP20
import Derived.Test.YtlojfgdpmaigmaeGreatDoorP19
import Derived.Test.YtlojfgdpmaigmaeGreatDoorP14
import Derived.Deep.AppendLies
import Derived.Deep.RegionLaw
namespace Go.Proofs.YtlojfgdpmaigmaeGreatDoor
open Go.RowKit Plain

def newRoot (root : Int) (more : List (Int × Int)) : Nd := ⟨false, [], more.map (·.1), root :: more.map (·.2), []⟩

def growN : Nat → List Nd → Int → List (Int × Int) → List Nd × Int
  | 0, ns, root, _ => (ns, root)
  | f + 1, ns, root, more =>
    if more = [] then (ns, root)
    else growN f (splitN (ns ++ [newRoot root more]) ns.length).1 ns.length (splitN (ns ++ [newRoot root more]) ns.length).2

/-- Nodes in a row, above all others. -/
structure RowOk (ns : List Nd) (h : Nat) (root : Int) (more : List (Int × Int)) : Prop where
  sub : ∃ Q, SubK (Sub 6 4 ns h) 0 (ups (root :: more.map (·.2)) (more.map (·.1)) 1099511627776) Q ∧ Q.Perm (placesF 0 ns.length)

theorem nth_last (ns : List Nd) (x : Nd) : nth (ns ++ [x]) (ns.length : Int) = x := by
  unfold nth
  simp

theorem splitN_more (ns : List Nd) (root : Int) (more : List (Int × Int)) : (splitN (ns ++ [newRoot root more]) ns.length).2.length = (more.length + 4) / 4 - 1 ∧ (splitN (ns ++ [newRoot root more]) ns.length).1.length = ns.length + (more.length + 4) / 4 := by
  unfold splitN
  rw [nth_last]
  have hs : sizeN (newRoot root more) = more.length + 1 := by simp [sizeN, newRoot]
  have hm : mostN (newRoot root more) = 4 := by simp [mostN, newRoot]
  have hp : partsN (newRoot root more) = (more.length + 4) / 4 := by
    rw [partsN, hs, hm]
    congr 1
  split
  · rename_i h
    rw [hs, hm] at h
    simp
    omega
  · rename_i h
    rw [hs, hm] at h
    have hc : (cutsN (newRoot root more)).length = (more.length + 4) / 4 := by unfold cutsN; rw [cutsF_length, hp]
    constructor
    · simp only [List.length_zip, keysL_length, hc, placesF_length, hp]
      omega
    · simp only [List.length_append, List.length_set, List.length_tail, partsL_length, hc, List.length_cons, List.length_nil]
      omega

theorem row_step {ns : List Nd} {h : Nat} {root : Int} {more : List (Int × Int)} (hr : RowOk ns h root more) (hm : more ≠ []) :
    RowOk (splitN (ns ++ [newRoot root more]) ns.length).1 (h + 1) ns.length (splitN (ns ++ [newRoot root more]) ns.length).2 ∧ ((splitN (ns ++ [newRoot root more]) ns.length).1.flatMap cont).Perm (ns.flatMap cont) := by
  obtain ⟨Q, hQ, hp⟩ := hr.sub
  have hml : 1 ≤ more.length := by cases more with | nil => exact absurd rfl hm | cons => simp
  have hkl : (more.map (·.1)).length + 1 = (root :: more.map (·.2)).length := by simp
  have hlt : (0 : Int) < 1099511627776 := by decide
  have hQ' : SubK (Sub 6 4 (ns ++ [newRoot root more]) h) 0 (ups (root :: more.map (·.2)) (more.map (·.1)) 1099511627776) Q :=
    SubK_imp hQ fun d lo hi Q1 a b => Sub_congr h d lo hi Q1 a fun n hn => by
      have hm := placesF_mem.1 (hp.mem_iff.1 (b n hn))
      exact ⟨nth_append_left (by omega) (by omega), by simp; omega⟩
  have htop : Top 0 (more.length + 1) (ns ++ [newRoot root more]) (h + 1) ns.length 0 1099511627776 ((ns.length : Int) :: Q) := by
    refine ⟨⟨by omega, by simp; omega, hlt⟩, Q, rfl, ?_⟩
    rw [nth_last]
    exact ⟨rfl, rfl, by simp [newRoot]; omega, by simp [newRoot], by simp [newRoot], by simp [newRoot], rfl, hQ'⟩
  have hpl : ((ns.length : Int) :: Q).Perm (placesF 0 (ns.length + 1)) := by
    rw [placesF_append]
    refine (hp.cons _).trans ?_
    show ((ns.length : Int) :: placesF 0 ns.length).Perm (placesF 0 ns.length ++ placesF (0 + ns.length) 1)
    rw [Nat.zero_add]
    exact (List.perm_append_comm (l₁ := [(ns.length : Int)]) (l₂ := placesF 0 ns.length))
  have hnd : ((ns.length : Int) :: Q).Nodup := hpl.nodup_iff.2 (placesF_nodup _ _)
  have hs := split_ok htop hnd
  obtain ⟨Q', h1, h2⟩ := hs.sub
  refine ⟨⟨Q', h1, h2.trans ?_⟩, hs.cont.trans ?_⟩
  · have hle := hs.le
    rw [show (splitN (ns ++ [newRoot root more]) ns.length).1.length = (ns.length + 1) + ((splitN (ns ++ [newRoot root more]) ns.length).1.length - (ns ++ [newRoot root more]).length) by simp at hle ⊢; omega, placesF_append]
    have e : (ns ++ [newRoot root more]).length = 0 + (ns.length + 1) := by simp
    rw [e]
    refine (hpl.append_right _).trans ?_
    exact List.Perm.of_eq (by congr 2; simp at hle; omega)
  · simp [cont, newRoot]

theorem grow_ok : ∀ (f : Nat) {ns : List Nd} {h : Nat} {root : Int} {more : List (Int × Int)}, more.length ≤ f → RowOk ns h root more →
    (∃ h' Q, Sub 6 4 (growN f ns root more).1 h' (growN f ns root more).2 0 1099511627776 Q ∧ Q.Perm (placesF 0 (growN f ns root more).1.length)) ∧ ((growN f ns root more).1.flatMap cont).Perm (ns.flatMap cont) ∧ (growN f ns root more).1.length ≤ ns.length + more.length := by
  intro f
  induction f with
  | zero =>
    intro ns h root more hf hr
    obtain rfl : more = [] := List.eq_nil_of_length_eq_zero (by omega)
    obtain ⟨Q, ⟨Q1, Q2, rfl, h1, h2⟩, hp⟩ := hr.sub
    cases h2
    rw [List.append_nil] at hp
    exact ⟨⟨h, Q1, h1, hp⟩, List.Perm.refl _, by simp [growN]⟩
  | succ f ih =>
    intro ns h root more hf hr
    unfold growN
    split
    · rename_i hm
      subst hm
      obtain ⟨Q, ⟨Q1, Q2, rfl, h1, h2⟩, hp⟩ := hr.sub
      cases h2
      rw [List.append_nil] at hp
      exact ⟨⟨h, Q1, h1, hp⟩, List.Perm.refl _, by simp⟩
    · rename_i hm
      have hml : 1 ≤ more.length := by cases more with | nil => exact absurd rfl hm | cons => simp
      obtain ⟨hr', hc⟩ := row_step hr hm
      obtain ⟨l1, l2⟩ := splitN_more ns root more
      obtain ⟨a, b, c⟩ := ih (by rw [l1]; omega) hr'
      exact ⟨a, b.trans hc, by rw [l1, l2] at c; omega⟩

/-! ### What Check tells of it -/

theorem two_pow_succ (h : Nat) : 2 ^ (h + 1) = 2 ^ h + 2 ^ h := by rw [Nat.pow_succ]; omega

theorem Sub_size {mL mK : Nat} {ns : List Nd} : ∀ (h : Nat) (d lo hi : Int) (P : List Int), Sub mL mK ns h d lo hi P → 2 ^ (h + 1) ≤ P.length + 1
  | 0, _, _, _, _, h => by rw [h.2.1]; simp
  | h + 1, d, lo, hi, P, hs => by
    obtain ⟨_, Q, rfl, hin⟩ := hs
    have ih := Sub_size (mL := mL) (mK := mK) (ns := ns) h
    obtain ⟨kids, keys, hk1, hk2⟩ : ∃ kids keys, kids = (nth ns d).kids ∧ keys = (nth ns d).keys := ⟨_, _, rfl, rfl⟩
    have h2 := hin.two
    have h3 := hin.keys
    have h4 := hin.kids
    rw [← hk1] at h2 h3 h4
    rw [← hk2] at h3 h4
    match kids, keys, h2, h3, h4 with
    | a :: b :: r, k :: ks, _, _, h4 =>
      rw [ups_cons] at h4
      obtain ⟨Q1, Q2, rfl, g1, g2⟩ := h4
      have i1 := ih _ _ _ _ g1
      have : ∃ u r', ups (b :: r) ks hi = (b, u) :: r' := by cases ks <;> exact ⟨_, _, rfl⟩
      obtain ⟨u, r', e⟩ := this
      rw [e] at g2
      obtain ⟨Q3, Q4, rfl, g3, _⟩ := g2
      have i2 := ih _ _ _ _ g3
      rw [two_pow_succ (h + 1)]
      simp only [List.length_cons, List.length_append]
      omega

/-- What W yields where all is as it must be. -/
def Yields (S : St) (dp : Int) (P : List Int) (r : Option (St × List Int)) : Prop := ∃ S' l, r = some (S', l) ∧ (S'.map (·.1)).Perm (P ++ S.map (·.1)) ∧ l ≠ [] ∧ ∀ x ∈ l, x = dp

theorem Wk_yields {g : Int → Int → Int → St → Option (St × List Int)} {G : Rel} {dp : Int} (hg : ∀ d lo hi P S, G d lo hi P → P.Nodup → (∀ n ∈ P, n ∉ S.map (·.1)) → Yields S dp P (g d lo hi S)) :
    ∀ (kids keys : List Int) (lo hi : Int) (Q : List Int) (S : St), keys.length + 1 = kids.length → SubK G lo (ups kids keys hi) Q → Q.Nodup → (∀ n ∈ Q, n ∉ S.map (·.1)) → Yields S dp Q (Wk g kids keys lo hi S)
  | [], _, _, _, _, _, h, _, _, _ => by simp at h
  | [d], keys, lo, hi, Q, S, hl, hs, hn, hd => by
    obtain rfl : keys = [] := List.eq_nil_of_length_eq_zero (by simpa using hl)
    obtain ⟨Q1, Q2, rfl, h1, h2⟩ := hs
    cases h2
    rw [List.append_nil] at hn hd ⊢
    obtain ⟨S', l, e, hp, hne, ha⟩ := hg d lo hi Q1 S h1 hn hd
    refine ⟨S', l, ?_, hp, hne, ha⟩
    simp [Wk, e]
  | d :: d' :: ds, keys, lo, hi, Q, S, hl, hs, hn, hd => by
    cases keys with
    | nil => simp at hl
    | cons k ks =>
      rw [ups_cons] at hs
      obtain ⟨Q1, Q2, rfl, h1, h2⟩ := hs
      rw [List.nodup_append] at hn
      obtain ⟨S1, l1, e1, hp1, hne1, ha1⟩ := hg d lo k Q1 S h1 hn.1 (fun n hn' => hd n (List.mem_append_left _ hn'))
      obtain ⟨S2, l2, e2, hp2, hne2, ha2⟩ := Wk_yields hg (d' :: ds) ks k hi Q2 S1 (by simpa using hl) h2 hn.2.1 (fun n hn' hm => by
        rcases List.mem_append.1 (hp1.mem_iff.1 hm) with hm | hm
        · exact hn.2.2 n hm n hn' rfl
        · exact hd n (List.mem_append_right _ hn') hm)
      refine ⟨S2, l1 ++ l2, ?_, ?_, by simp [hne1], fun x hx => ?_⟩
      · show (match g d lo k S with | none => none | some (S1, l1) => match Wk g (d' :: ds) ks k hi S1 with | none => none | some (S2, l2) => some (S2, l1 ++ l2)) = _
        rw [e1]
        simp only
        rw [e2]
      · refine hp2.trans ((hp1.append_left Q2).trans ?_)
        rw [List.append_assoc]
        exact List.perm_append_comm_assoc _ _ _
      · rcases List.mem_append.1 hx with hx | hx
        · exact ha1 x hx
        · exact ha2 x hx

theorem Sub_W {ns : List Nd} : ∀ (h f : Nat) (n lo hi : Int) (P : List Int) (S : St), Sub 6 4 ns h n lo hi P → h < f → P.Nodup → (∀ m ∈ P, m ∉ S.map (·.1)) → Yields S (13 - (f : Int) + h) P (W ns f n lo hi S) := by
  intro h
  induction h with
  | zero =>
    intro f n lo hi P S hs hf hn hd
    obtain ⟨⟨h0, h1, hlt⟩, rfl, hl⟩ := hs
    obtain ⟨f, rfl⟩ : ∃ g, f = g + 1 := ⟨f - 1, by omega⟩
    have hseen : seenB S n = false := by
      have := hd n (by simp)
      cases hb : seenB S n with
      | false => rfl
      | true => exact absurd (seenB_iff.1 hb) this
    have hlB : leafB (nth ns n) lo hi f = true := leafB_iff.2 ⟨hl.keys, hl.kids, hl.buf, hl.most, .inr hl.ne, hl.ents⟩
    refine ⟨(n, 12 - (f : Int)) :: S, [12 - (f : Int)], ?_, by simp, by simp, by simp; omega⟩
    rw [W_succ, if_neg (by simp [hseen]; omega)]
    show (if (nth ns n).leaf = true then _ else _) = _
    rw [if_pos hl.leaf]
    show (if leafB (nth ns n) lo hi f = true then _ else _) = _
    rw [if_pos hlB]
  | succ h ih =>
    intro f n lo hi P S hs hf hn hd
    obtain ⟨⟨h0, h1, hlt⟩, Q, rfl, hl⟩ := hs
    obtain ⟨f, rfl⟩ : ∃ g, f = g + 1 := ⟨f - 1, by omega⟩
    have hseen : seenB S n = false := by
      have := hd n (by simp)
      cases hb : seenB S n with
      | false => rfl
      | true => exact absurd (seenB_iff.1 hb) this
    have hiB : innerB (nth ns n) lo hi = true := by
      simp only [innerB, Bool.and_eq_true, decide_eq_true_eq, beq_iff_eq, List.isEmpty_iff]
      exact ⟨⟨⟨⟨⟨hl.ents, hl.two⟩, hl.most⟩, hl.keys⟩, hl.few⟩, hl.buf⟩
    rw [List.nodup_cons] at hn
    obtain ⟨S', l, e, hp, hne, ha⟩ := Wk_yields (dp := 13 - (f : Int) + h) (fun d lo hi P S a b c => ih f d lo hi P S a (by omega) b c) (nth ns n).kids (nth ns n).keys lo hi Q ((n, 12 - (f : Int)) :: S) hl.keys hl.kids hn.2 (fun m hm hm' => by
      rw [List.map_cons, List.mem_cons] at hm'
      rcases hm' with rfl | hm'
      · exact hn.1 hm
      · exact hd m (List.mem_cons_of_mem _ hm) hm')
    refine ⟨S', l, ?_, hp.trans ?_, hne, fun x hx => by rw [ha x hx]; push_cast; omega⟩
    · rw [W_succ, if_neg (by simp [hseen]; omega)]
      show (if (nth ns n).leaf = true then _ else if innerB (nth ns n) lo hi = true then _ else _) = _
      rw [if_neg (by simp [hl.leaf]), if_pos hiB]
      exact e
    · rw [List.map_cons]
      exact List.perm_middle

theorem placesF_len {Q : List Int} {N : Nat} (h : Q.Perm (placesF 0 N)) : Q.length = N := by rw [h.length_eq, placesF_length]

theorem Sub_treeC {ns : List Nd} {h : Nat} {root : Int} {Q : List Int} (hs : Sub 6 4 ns h root 0 1099511627776 Q) (hp : Q.Perm (placesF 0 ns.length)) (hz : ns.length ≤ 2000) : treeC ns root = 0 := by
  have hl := placesF_len hp
  have h1 := Sub_size h _ _ _ _ hs
  have hh : h < 12 := by
    apply Classical.byContradiction
    intro e
    have : 2 ^ 13 ≤ 2 ^ (h + 1) := Nat.pow_le_pow_right (by decide) (by omega)
    omega
  obtain ⟨S', l, e, hpm, hne, ha⟩ := Sub_W h 12 root 0 1099511627776 Q [] hs hh (hp.nodup_iff.2 (placesF_nodup _ _)) (by simp)
  unfold treeC
  rw [if_neg (by omega), e]
  simp only
  rw [if_pos]
  refine ⟨?_, ?_⟩
  · unfold okL
    rw [if_pos rfl, List.all_eq_true]
    intro x hx
    rw [beq_iff_eq, ha x hx]
    cases l with
    | nil => exact absurd rfl hne
    | cons y r => exact (ha y (by simp)).symm
  · have := hpm.length_eq
    simp at this
    omega

end Go.Proofs.YtlojfgdpmaigmaeGreatDoor

/- Parts of a node, in memory of their own. -/
namespace Go.Proofs.YtlojfgdpmaigmaeGreatDoor
open Go.RowKit Plain

theorem RowAt.cutI {B : Nat} {w : World} {b o a n : Nat} {zs : List Int} (h : RowAt B w (some ⟨b, o, none⟩) (ints zs)) : RowAt B w (some ⟨b, o + a, none⟩) (ints ((zs.drop a).take n)) := by
  rcases h with h | ⟨b', o', hA, hlt, hc⟩
  · left
    simp [ints] at h ⊢
    subst h
    simp
  · cases hA
    refine .inr ⟨b, o + a, rfl, hlt, fun j u hu => ?_⟩
    have hj : (ints zs)[a + j]? = some u := by
      have h1 : ((ints zs).drop a)[j]? = some u := by
        have e : ints ((zs.drop a).take n) = ((ints zs).drop a).take n := by simp [ints]
        rw [e, List.getElem?_take] at hu
        split at hu
        · exact hu
        · cases hu
      rwa [List.getElem?_drop] at h1
    have := hc (a + j) u hj
    rwa [← Nat.add_assoc] at this

theorem flatE_drop : ∀ (xs : List En) (a : Nat), flatE (xs.drop a) = (flatE xs).drop (a * 7)
  | [], a => by simp [flatE]
  | x :: r, 0 => by simp
  | x :: r, a + 1 => by
    rw [List.drop_succ_cons, flatE_drop r a, flatE, show (a + 1) * 7 = 7 + a * 7 by omega, ← List.drop_drop]
    rfl
theorem flatE_take : ∀ (xs : List En) (a : Nat), flatE (xs.take a) = (flatE xs).take (a * 7)
  | [], a => by simp [flatE]
  | x :: r, 0 => by simp [flatE]
  | x :: r, a + 1 => by
    rw [List.take_succ_cons, flatE, flatE_take r a, flatE, show (a + 1) * 7 = x.vals.length + a * 7 by simp [En.vals]; omega, List.take_length_add_append]

theorem RowAt.cutE {B : Nat} {w : World} {b o a n : Nat} {xs : List En} (h : RowAt B w (some ⟨b, o, none⟩) (flatE xs)) : RowAt B w (some ⟨b, o + a * 7, none⟩) (flatE ((xs.drop a).take n)) := by
  rcases h with h | ⟨b', o', hA, hlt, hc⟩
  · left
    have : xs = [] := by
      have hl := flatE_length xs
      rw [h] at hl
      exact List.eq_nil_of_length_eq_zero (by simp at hl; omega)
    subst this
    simp [flatE]
  · cases hA
    refine .inr ⟨b, o + a * 7, rfl, hlt, fun j u hu => ?_⟩
    have hj : (flatE xs)[a * 7 + j]? = some u := by
      rw [flatE_take, List.getElem?_take, flatE_drop] at hu
      split at hu
      · rwa [List.getElem?_drop] at hu
      · cases hu
    have := hc (a * 7 + j) u hj
    rwa [← Nat.add_assoc] at this

theorem RowAt.cutIf {B : Nat} {w : World} {b o a n C : Nat} {xs : List En} (h : RowAt B w (some ⟨b, o, none⟩) (flatE xs)) (hC : xs.length ≤ C) : RowAt B w (if C = a then some ⟨b, o, none⟩ else some ⟨b, o + a * 7, none⟩) (flatE ((xs.drop a).take n)) := by
  split
  · left
    rw [List.drop_eq_nil_of_le (by omega)]
    simp [flatE]
  · exact h.cutE

theorem RowAt.some_of {B : Nat} {w : World} {A : Option Addr} {vs : List Value} (h : RowAt B w A vs) (hne : vs ≠ []) : ∃ b o, A = some ⟨b, o, none⟩ ∧ b < B := by
  rcases h with h | ⟨b, o, hA, hlt, _⟩
  · exact absurd h hne
  · exact ⟨b, o, hA, hlt⟩

theorem freshE_n (A : Option Addr) (C n : Nat) (xs : List En) (hn : xs.length = n) (w : World) (h : RowAt w.heap.size w A (flatE xs)) (hA : A = none → C = 0) (hz : n * 56 ≤ 140737488351232) :
    Calls Tryz.prog 81 #[.slice A n C] w fun e w' => ∃ v, e = .returned v ∧ w'.ownsRow w.heap.size 73 7 v n (flatE xs) ∧ Below w.heap.size w w' := by
  subst hn
  exact freshE_any A C xs w h hA hz

theorem freshI_n (A : Option Addr) (C n : Nat) (zs : List Int) (hn : zs.length = n) (w : World) (h : RowAt w.heap.size w A (ints zs)) (hA : A = none → C = 0) (hz : n * 8 ≤ 140737488351232) :
    Calls Tryz.prog 97 #[.slice A n C] w fun e w' => ∃ v, e = .returned v ∧ w'.ownsRow w.heap.size 3 1 v n (ints zs) ∧ Below w.heap.size w w' := by
  subst hn
  exact freshI_any A C zs w h hA hz

theorem own_len {α : Type} {w : World} {base n size C : Nat} {e : TypeId} {A : Option Addr} {xs : List α} {vs : List Value} (h : xs.length = n) (ho : w.ownsRow base e size (.slice A n C) n vs) : w.ownsRow base e size (.slice A xs.length C) xs.length vs := by rw [h]; exact ho

theorem two_below (w : World) (o1 o2 : Obj) : Below w.heap.size w ((w.alloc o1).alloc o2) := ((Below.refl _ _).alloc (Nat.le_refl _) _).alloc (by simp) _

theorem set5_block (w : World) (r o : Nat) (v0 v1 v2 v3 v4 : Value) {k : Nat} (hk : k ≠ r) :
    (((((w.setCell ⟨r, o, none⟩ v0).setCell ⟨r, o + 1, none⟩ v1).setCell ⟨r, o + 2, none⟩ v2).setCell ⟨r, o + 3, none⟩ v3).setCell ⟨r, o + 4, none⟩ v4).heap[k]? = w.heap[k]? := by
  simp only [Below.heap_setCell _ _ _ _ (show k ≠ (⟨r, _, none⟩ : Addr).block from hk)]

theorem set5_below {B : Nat} {a w : World} (h : Below B a w) {r : Nat} (hr : B ≤ r) (o : Nat) (v0 v1 v2 v3 v4 : Value) :
    Below B a (((((w.setCell ⟨r, o, none⟩ v0).setCell ⟨r, o + 1, none⟩ v1).setCell ⟨r, o + 2, none⟩ v2).setCell ⟨r, o + 3, none⟩ v3).setCell ⟨r, o + 4, none⟩ v4) :=
  ((((h.setCell hr _).setCell hr _).setCell hr _).setCell hr _).setCell hr _

set_option maxHeartbeats 1000000 in
theorem part_leaf (eA : Option Addr) (eC : Nat) (ents : List En) (kA : Option Addr) (kC : Nat) (keys : List Int) (dA : Option Addr) (dC : Nat) (kids : List Int) (bA : Option Addr) (bC : Nat) (buf : List En) (a b : Nat) (w : World)
    (he : RowAt w.heap.size w eA (flatE ents)) (hec : ents.length ≤ eC) (ez : ents.length * 56 ≤ 140737488351232) (hab : a < b) (hbl : b ≤ ents.length) :
    Calls Tryz.prog 120 #[.agg #[.bool true, .slice eA ents.length eC, .slice kA keys.length kC, .slice dA kids.length dC, .slice bA buf.length bC], .int .i64 (a : Int), .int .i64 (b : Int)] w
      fun e w' => ∃ A1 C1, e = .returned (.agg #[.bool true, .slice A1 (b - a) C1, .slice none 0 0, .slice none 0 0, .slice none 0 0]) ∧ w'.ownsRow w.heap.size 73 7 (.slice A1 (b - a) C1) (b - a) (flatE ((ents.drop a).take (b - a))) ∧ Below w.heap.size w w' := by
  obtain ⟨eb, eo, rfl, hlt⟩ := he.some_of (by
    intro e
    have := flatE_length ents
    rw [e] at this
    simp at this
    omega)
  have HL : Hid (((ents.drop a).take (b - a)).length = b - a) := by show _ = _; simp; omega
  go_enter Tryz.func120, Tryz.ntmps120
  go_wp2_with (go_at_call 81; refine (freshE_n _ _ _ ((ents.drop a).take (b - a)) HL.out _ ((he.cutE.below (two_below _ _ _) (Nat.le_refl _)).mono (by simp; omega)) (fun h => by cases h) (by omega)).mono ?_; rintro e w1 ⟨v1, rfl, o1, hb1⟩; obtain ⟨A1, C1, rfl, -⟩ := own_row o1; obtain ⟨hc1, hf1⟩ := bcells hb1; have hz1 : w.heap.size + 1 < w1.heap.size := by have := hb1.size; simp at this; omega)
  refine bodyPost_ret (v := .agg #[.bool true, .slice A1 (b - a) C1, .slice none 0 0, .slice none 0 0, .slice none 0 0]) (by simp [results, Tryz.results120, go_sem, hc1]) rfl ⟨A1, C1, rfl, ?_, ?_⟩
  · refine own_of_block (own_mono o1 (by simp; omega)) fun k hk => ?_
    have := (o1.lt k hk).1
    simp only [World.size_alloc] at this
    exact set5_block w1 (w.heap.size + 1) 0 _ _ _ _ _ (by omega)
  · exact set5_below ((two_below w _ _).trans (hb1.mono (by simp; omega))) (by omega) 0 _ _ _ _ _

set_option maxRecDepth 20000 in
set_option maxHeartbeats 1000000 in
theorem wait_any (leaf : Bool) (eA : Option Addr) (eC : Nat) (ents : List En) (kA : Option Addr) (kC : Nat) (keys : List Int) (dA : Option Addr) (dC : Nat) (kids : List Int) (bA : Option Addr) (bC : Nat) (buf : List En) (kid : Nat) (w : World)
    (hk : RowAt w.heap.size w kA (ints keys)) (hb : RowAt w.heap.size w bA (flatE buf)) (kz : keys.length * 8 ≤ 140737488351232) (bz : buf.length * 56 ≤ 140737488351232) (hkl : keys.length + 1 = kids.length) (hkid : kid ≤ kids.length) (hp : buf.Pairwise (fun x y => x.key < y.key)) (r : Nat) (hr : Hid (waitA ⟨leaf, ents, keys, kids, buf⟩ kid = r)) :
    Calls Tryz.prog 136 #[.agg #[.bool leaf, .slice eA ents.length eC, .slice kA keys.length kC, .slice dA kids.length dC, .slice bA buf.length bC], .int .i64 (kid : Int)] w
      fun e w' => e = .returned (.int .i64 (r : Int)) ∧ Below w.heap.size w w' := by
  by_cases h0 : kid = 0
  · subst h0
    have E : Hid (r = 0) := by show _ = _; rw [← hr.out]; simp [waitA]
    clear hr
    go_enter Tryz.func136, Tryz.ntmps136
    go_wp2_with fail
    go_ret
    exact ⟨ret_int (by rw [E.out]; rfl), (Below.refl _ _).alloc (Nat.le_refl _) _⟩
  · have h0' : ((kid : Int) == 0) = false := by simp; omega
    by_cases h1 : kid = kids.length
    · have E : Hid (r = buf.length) := by
        show _ = _
        rw [← hr.out]
        unfold waitA
        rw [if_neg h0, if_pos h1]
      subst h1
      clear hr
      go_enter Tryz.func136, Tryz.ntmps136
      go_wp2_with fail
      go_ret
      exact ⟨ret_int (by rw [E.out]), (Below.refl _ _).alloc (Nat.le_refl _) _⟩
    · have h1' : ((kid : Int) == (kids.length : Int)) = false := by simp; omega
      obtain ⟨j, rfl⟩ : ∃ j, kid = j + 1 := ⟨kid - 1, by omega⟩
      have hj : j < keys.length := by omega
      obtain ⟨kb, ko, rfl, hkb, hkc⟩ := hk.int hj
      have E : Hid (lowN buf keys[j] = r) := by
        show _ = _
        rw [← hr.out]
        unfold waitA
        rw [if_neg h0, if_neg h1]
        simp [hj]
      have HK : Hid (keys.length + 1 = kids.length) := hkl
      clear hr h0 h1 hkl
      generalize keys[j] = kk at *
      have i0 : (0 : Int) ≤ (j : Int) := by omega
      have i1 : (j : Int) < (keys.length : Int) := by omega
      obtain ⟨kd, hkd⟩ : ∃ kd : Int, ((j + 1 : Nat) : Int) = kd := ⟨_, rfl⟩
      have wj : IntKind.i64.wrap (kd - 1) = (j : Int) := by rw [IntKind.wrap_i64]; omega
      rw [hkd] at h0' h1' ⊢
      clear hkd
      have hkb1 : kb < w.heap.size + 1 := by omega
      go_enter Tryz.func136, Tryz.ntmps136
      go_wp2_with fail
      go_region_held3 (fun w' => w'.cell? ⟨w.heap.size, 2, none⟩ = some (.slice (some ⟨kb, ko, none⟩) keys.length kC) ∧ w'.cell? ⟨w.heap.size, 4, none⟩ = some (.slice bA buf.length bC) ∧ w'.cell? ⟨kb, ko + j, none⟩ = some (.int .i64 kk)) (go_keep)
        (first | (go_at_call 113; refine (find_any _ _ _ _ _ (hb.go (((Below.refl _ _).alloc (Nat.le_refl _) _).drew) (Nat.le_refl _) (Nat.le_refl _)) bz hp).mono ?_; rintro e w1 ⟨rfl, hb1⟩; have T1 := (bcells (hb1.mono (show w.heap.size + 1 ≤ _ by simp))).1))
      go_wp2
      go_ret
      exact ⟨ret_int (by rw [E.out]), ((Below.refl _ _).alloc (Nat.le_refl _) _).drew.trans (hb1.mono (by simp))⟩

set_option maxHeartbeats 1000000 in
theorem firstKey_any (leaf : Bool) (eA : Option Addr) (eC : Nat) (ents : List En) (kA : Option Addr) (kC : Nat) (keys : List Int) (dA : Option Addr) (dC : Nat) (kids : List Int) (bA : Option Addr) (bC : Nat) (buf : List En) (a : Nat) (w : World)
    (he : RowAt w.heap.size w eA (flatE ents)) (hk : RowAt w.heap.size w kA (ints keys)) (h1 : leaf = true → a < ents.length) (h2 : leaf = false → 0 < a ∧ a ≤ keys.length) (kz : keys.length * 8 ≤ 140737488351232) :
    Calls Tryz.prog 121 #[.agg #[.bool leaf, .slice eA ents.length eC, .slice kA keys.length kC, .slice dA kids.length dC, .slice bA buf.length bC], .int .i64 (a : Int)] w
      fun e w' => e = .returned (.int .i64 (firstK ⟨leaf, ents, keys, kids, buf⟩ a)) ∧ Below w.heap.size w w' := by
  cases leaf with
  | true =>
    have hl := h1 rfl
    obtain ⟨b, o, rfl, hbl, hat⟩ := he.en hl
    have E : Hid (firstK ⟨true, ents, keys, kids, buf⟩ a = ents[a].key) := by show _ = _; simp [firstK, hl]
    have c0 := hat.c0
    clear hat h2
    generalize ents[a] = x at *
    go_enter Tryz.func121, Tryz.ntmps121
    go_wp2
    go_ret
    exact ⟨ret_int E.out.symm, (Below.refl _ _).alloc (Nat.le_refl _) _⟩
  | false =>
    obtain ⟨ha, hl⟩ := h2 rfl
    obtain ⟨j, rfl⟩ : ∃ j, a = j + 1 := ⟨a - 1, by omega⟩
    have hj : j < keys.length := by omega
    obtain ⟨b, o, rfl, hbl, hc⟩ := hk.int hj
    have E : Hid (firstK ⟨false, ents, keys, kids, buf⟩ (j + 1) = keys[j]) := by show _ = _; simp [firstK, hj]
    have i1 : (j : Int) < (keys.length : Int) := by omega
    obtain ⟨kd, hkd⟩ : ∃ kd : Int, ((j + 1 : Nat) : Int) = kd := ⟨_, rfl⟩
    have wj : kd - 1 = (j : Int) := by omega
    rw [hkd]
    have hk1 : 1 ≤ kd := by omega
    have hk2 : kd ≤ 1099511627776000 := by omega
    clear hkd h1 h2 ha hl
    generalize keys[j] = x at *
    go_enter Tryz.func121, Tryz.ntmps121
    go_wp2
    go_ret
    exact ⟨ret_int E.out.symm, (Below.refl _ _).alloc (Nat.le_refl _) _⟩

set_option maxRecDepth 20000 in
set_option maxHeartbeats 4000000 in
theorem part_inner_some (eA : Option Addr) (eC : Nat) (ents : List En) (kb ko : Nat) (kC : Nat) (keys : List Int) (db dO : Nat) (dC : Nat) (kids : List Int) (fb fo : Nat) (bC : Nat) (buf : List En) (a b c r1 r2 : Nat) (w : World)
    (hk : RowAt w.heap.size w (some ⟨kb, ko, none⟩) (ints keys)) (hd : RowAt w.heap.size w (some ⟨db, dO, none⟩) (ints kids)) (hf : RowAt w.heap.size w (some ⟨fb, fo, none⟩) (flatE buf))
    (hkc : keys.length ≤ kC) (hdc : kids.length ≤ dC) (hfc : buf.length ≤ bC) (kz : keys.length * 8 ≤ 140737488351232) (dz : kids.length * 8 ≤ 140737488351232) (bz : buf.length * 56 ≤ 140737488351232)
    (hkl : Hid (keys.length + 1 = kids.length)) (hbc : Hid (b = c + 1)) (hac : a < c) (hck : c ≤ keys.length) (hbk : b ≤ kids.length) (hp : List.Pairwise (fun x y : En => x.key < y.key) buf)
    (hr1 : Hid (waitA ⟨false, ents, keys, kids, buf⟩ a = r1)) (hr2 : Hid (waitA ⟨false, ents, keys, kids, buf⟩ b = r2)) (h12 : r1 ≤ r2) (h2f : r2 ≤ buf.length) :
    Calls Tryz.prog 120 #[.agg #[.bool false, .slice eA ents.length eC, .slice (some ⟨kb, ko, none⟩) keys.length kC, .slice (some ⟨db, dO, none⟩) kids.length dC, .slice (some ⟨fb, fo, none⟩) buf.length bC], .int .i64 (a : Int), .int .i64 (b : Int)] w
      fun e w' => ∃ A1 C1 A2 C2 A3 C3, e = .returned (.agg #[.bool false, .slice none 0 0, .slice A1 (c - a) C1, .slice A2 (b - a) C2, .slice A3 (r2 - r1) C3]) ∧
        PN.own w.heap.size w' ⟨false, none, 0, [], A1, C1, (keys.drop a).take (c - a), A2, C2, (kids.drop a).take (b - a), A3, C3, (buf.drop r1).take (r2 - r1)⟩ ∧ (PN.mk false none 0 [] A1 C1 ((keys.drop a).take (c - a)) A2 C2 ((kids.drop a).take (b - a)) A3 C3 ((buf.drop r1).take (r2 - r1))).blocks.Nodup ∧ Below w.heap.size w w' := by
  have hab : a ≤ b := by have := hbc.out; omega
  have wb : IntKind.i64.wrap ((b : Int) - 1) = (c : Int) := by have := hbc.out; rw [IntKind.wrap_i64]; omega
  have i1 : (a : Int) ≤ (c : Int) := by omega
  have i2 : (c : Int) ≤ (kC : Int) := by omega
  have i3 : (a : Int) ≤ (b : Int) := by omega
  have i4 : (b : Int) ≤ (dC : Int) := by omega
  have i5 : (r1 : Int) ≤ (r2 : Int) := by omega
  have i6 : (r2 : Int) ≤ (bC : Int) := by omega
  have i7 : (0 : Int) ≤ (a : Int) := by omega
  have i8 : (0 : Int) ≤ (r1 : Int) := by omega
  have n1 : ¬ kC = a := by omega
  have n2 : ¬ dC = a := by have := hbc.out; omega
  obtain ⟨A', hA'⟩ : ∃ A', (if bC = r1 then some (⟨fb, fo, none⟩ : Addr) else some ⟨fb, fo + r1 * 7, none⟩) = A' := ⟨_, rfl⟩
  have HA : Hid (∀ n, RowAt w.heap.size w A' (flatE ((buf.drop r1).take n))) := fun n => hA' ▸ hf.cutIf hfc
  have HN : Hid (A' ≠ none) := by rw [← hA']; intro h; split at h <;> cases h
  have l1 : Hid (((keys.drop a).take (c - a)).length = c - a) := by show _ = _; simp; omega
  have l2 : Hid (((kids.drop a).take (b - a)).length = b - a) := by show _ = _; simp; omega
  have l3 : Hid (((buf.drop r1).take (r2 - r1)).length = r2 - r1) := by show _ = _; simp; omega
  have hda : b - a ≤ kids.length := by omega
  have hca : c - a ≤ keys.length := by omega
  have hba : r2 - r1 ≤ buf.length := by omega
  go_enter Tryz.func120, Tryz.ntmps120
  go_wp2_with fail
  go_region_held3 (fun w' => w'.cell? ⟨w.heap.size, 0, none⟩ = some (.bool false) ∧ w'.cell? ⟨w.heap.size, 1, none⟩ = some (.slice eA ents.length eC) ∧ w'.cell? ⟨w.heap.size, 2, none⟩ = some (.slice (some ⟨kb, ko, none⟩) keys.length kC) ∧ w'.cell? ⟨w.heap.size, 3, none⟩ = some (.slice (some ⟨db, dO, none⟩) kids.length dC) ∧ w'.cell? ⟨w.heap.size, 4, none⟩ = some (.slice (some ⟨fb, fo, none⟩) buf.length bC)) (go_keep)
    (first
      | (go_at_call_of 97 (kC - a); refine (freshI_n _ _ _ ((keys.drop a).take (c - a)) l1.out _ (hk.cutI.go ((two_below _ _ _).drew) (Nat.le_refl _) (Nat.le_refl _)) (fun h => by cases h) (by omega)).mono ?_; rintro e w1 ⟨v1, rfl, o1, hb1⟩; obtain ⟨A1, C1, rfl, -⟩ := own_row o1; have G1 : Below w.heap.size w w1 := nextB ((two_below _ _ _).drew) (Nat.le_refl _) hb1; have T1 := (bcells (hb1.mono (show w.heap.size + 2 ≤ _ by simp))).1; have F1 := (bcells (hb1.mono (show w.heap.size + 2 ≤ _ by simp))).2; have Z1 : w.heap.size + 2 ≤ w1.heap.size := Nat.le_trans (by simp) hb1.size)
      | (go_at_call_of 97 (dC - a); refine (freshI_n _ _ _ ((kids.drop a).take (b - a)) l2.out _ (hd.cutI.go G1 (Nat.le_refl _) (Nat.le_refl _)) (fun h => by cases h) (by omega)).mono ?_; rintro e w2 ⟨v2, rfl, o2, hb2⟩; obtain ⟨A2, C2, rfl, -⟩ := own_row o2; have G2 : Below w.heap.size w w2 := nextB G1 (Nat.le_refl _) hb2; have T2 := (bcells (hb2.mono (show w.heap.size + 2 ≤ _ by exact Z1))).1; have F2 := (bcells (hb2.mono (show w.heap.size + 2 ≤ _ by exact Z1))).2; have Z2 : w.heap.size + 2 ≤ w2.heap.size := Nat.le_trans Z1 hb2.size)
      | (have k0 : w2.heap.size ≤ w2.heap.size := Nat.le_refl _; go_at_call_of 136 (Value.int IntKind.i64 (a : Int)); refine (wait_any false eA eC ents _ kC keys _ dC kids _ bC buf a _ (hk.go G2 (Nat.le_refl _) (Nat.le_refl _)) (hf.go G2 (Nat.le_refl _) (Nat.le_refl _)) kz bz hkl.out (by omega) hp r1 hr1).mono ?_; rintro e w3 ⟨rfl, hb3⟩; have G3 : Below w.heap.size w w3 := nextB G2 (Nat.le_refl _) hb3; have T3 := (bcells (hb3.mono (show w.heap.size + 2 ≤ _ by exact Z2))).1; have F3 := (bcells (hb3.mono (show w.heap.size + 2 ≤ _ by exact Z2))).2; have Z3 : w.heap.size + 2 ≤ w3.heap.size := Nat.le_trans Z2 hb3.size)
      | (have k0 : w3.heap.size ≤ w3.heap.size := Nat.le_refl _; go_at_call_of 136 (Value.int IntKind.i64 (b : Int)); refine (wait_any false eA eC ents _ kC keys _ dC kids _ bC buf b _ (hk.go G3 (Nat.le_refl _) (Nat.le_refl _)) (hf.go G3 (Nat.le_refl _) (Nat.le_refl _)) kz bz hkl.out hbk hp r2 hr2).mono ?_; rintro e w4 ⟨rfl, hb4⟩; have G4 : Below w.heap.size w w4 := nextB G3 (Nat.le_refl _) hb4; have T4 := (bcells (hb4.mono (show w.heap.size + 2 ≤ _ by exact Z3))).1; have F4 := (bcells (hb4.mono (show w.heap.size + 2 ≤ _ by exact Z3))).2; have Z4 : w.heap.size + 2 ≤ w4.heap.size := Nat.le_trans Z3 hb4.size)
      | (go_at_call 81; refine (freshE_n _ _ _ ((buf.drop r1).take (r2 - r1)) l3.out _ ((HA.out _).go G4 (Nat.le_refl _) (Nat.le_refl _)) (fun h => absurd h HN.out) (by omega)).mono ?_; rintro e w5 ⟨v5, rfl, o5, hb5⟩; obtain ⟨A5, C5, rfl, -⟩ := own_row o5; have G5 : Below w.heap.size w w5 := nextB G4 (Nat.le_refl _) hb5; have T5 := (bcells (hb5.mono (show w.heap.size + 2 ≤ _ by exact Z4))).1; have F5 := (bcells (hb5.mono (show w.heap.size + 2 ≤ _ by exact Z4))).2; have Z5 : w.heap.size + 2 ≤ w5.heap.size := Nat.le_trans Z4 hb5.size))
  go_wp2
  have hb45 : Below w3.heap.size w3 w5 := nextB hb4 (Nat.le_refl _) hb5
  have hb35 : Below w2.heap.size w2 w5 := nextB hb3 (Nat.le_refl _) hb45
  have hb25 : Below w1.heap.size w1 w5 := nextB hb2 (Nat.le_refl _) hb35
  have p1 := own_next o1 hb25
  have p2 := own_next o2 hb35
  have s12 := hb2.size
  have s23 := hb3.size
  have s34 := hb4.size
  simp only [World.size_drew, World.size_alloc] at p1
  refine bodyPost_ret (v := .agg #[.bool false, .slice none 0 0, .slice A1 (c - a) C1, .slice A2 (b - a) C2, .slice A5 (r2 - r1) C5]) (by simp [results, Tryz.results120, go_sem, T1, T2, T3, T4, T5]) rfl ⟨A1, C1, A2, C2, A5, C5, rfl, ⟨World.ownsRow_nil _ _ _ _, own_len l1.out ?_, own_len l2.out ?_, own_len l3.out ?_, by simp, by show ((keys.drop a).take (c - a)).length * 8 ≤ _; rw [l1.out]; omega, by show ((kids.drop a).take (b - a)).length * 8 ≤ _; rw [l2.out]; omega, by show ((buf.drop r1).take (r2 - r1)).length * 56 ≤ _; rw [l3.out]; omega⟩, ?_, ?_⟩
  · exact own_of_block (own_mono p1 (by omega)) fun k hk => set5_block w5 (w.heap.size + 1) 0 _ _ _ _ _ (by have := (p1.lt k hk).1; omega)
  · exact own_of_block (own_mono p2 (by omega)) fun k hk => set5_block w5 (w.heap.size + 1) 0 _ _ _ _ _ (by have := (p2.lt k hk).1; omega)
  · exact own_of_block (own_mono o5 (by omega)) fun k hk => set5_block w5 (w.heap.size + 1) 0 _ _ _ _ _ (by have := (o5.lt k hk).1; omega)
  · refine blocks_nodup (s1 := w.heap.size + 2) (s2 := w1.heap.size) (s3 := w2.heap.size) (fun x hx => by cases hx) (fun x hx => ?_) (fun x hx => own_lt o2 x hx) (fun x hx => ?_) Z1 s12
    · have := own_lt o1 x hx
      simp only [World.size_drew, World.size_alloc] at this
      exact this
    · have := own_lt o5 x hx; omega
  · exact set5_below G5 (by omega) 0 _ _ _ _ _

set_option maxRecDepth 20000 in
set_option maxHeartbeats 4000000 in
theorem part_inner_none (eA : Option Addr) (eC : Nat) (ents : List En) (kb ko : Nat) (kC : Nat) (keys : List Int) (db dO : Nat) (dC : Nat) (kids : List Int) (a b c : Nat) (w : World)
    (hk : RowAt w.heap.size w (some ⟨kb, ko, none⟩) (ints keys)) (hd : RowAt w.heap.size w (some ⟨db, dO, none⟩) (ints kids))
    (hkc : keys.length ≤ kC) (hdc : kids.length ≤ dC) (kz : keys.length * 8 ≤ 140737488351232) (dz : kids.length * 8 ≤ 140737488351232)
    (hkl : Hid (keys.length + 1 = kids.length)) (hbc : Hid (b = c + 1)) (hac : a < c) (hck : c ≤ keys.length) (hbk : b ≤ kids.length)
    (hr1 : Hid (waitA ⟨false, ents, keys, kids, []⟩ a = 0)) (hr2 : Hid (waitA ⟨false, ents, keys, kids, []⟩ b = 0)) :
    Calls Tryz.prog 120 #[.agg #[.bool false, .slice eA ents.length eC, .slice (some ⟨kb, ko, none⟩) keys.length kC, .slice (some ⟨db, dO, none⟩) kids.length dC, .slice none 0 0], .int .i64 (a : Int), .int .i64 (b : Int)] w
      fun e w' => ∃ A1 C1 A2 C2 A3 C3, e = .returned (.agg #[.bool false, .slice none 0 0, .slice A1 (c - a) C1, .slice A2 (b - a) C2, .slice A3 0 C3]) ∧
        PN.own w.heap.size w' ⟨false, none, 0, [], A1, C1, (keys.drop a).take (c - a), A2, C2, (kids.drop a).take (b - a), A3, C3, []⟩ ∧ (PN.mk false none 0 [] A1 C1 ((keys.drop a).take (c - a)) A2 C2 ((kids.drop a).take (b - a)) A3 C3 []).blocks.Nodup ∧ Below w.heap.size w w' := by
  have hab : a ≤ b := by have := hbc.out; omega
  have wb : IntKind.i64.wrap ((b : Int) - 1) = (c : Int) := by have := hbc.out; rw [IntKind.wrap_i64]; omega
  have i1 : (a : Int) ≤ (c : Int) := by omega
  have i2 : (c : Int) ≤ (kC : Int) := by omega
  have i3 : (a : Int) ≤ (b : Int) := by omega
  have i4 : (b : Int) ≤ (dC : Int) := by omega
  have i7 : (0 : Int) ≤ (a : Int) := by omega
  have n1 : ¬ kC = a := by omega
  have n2 : ¬ dC = a := by have := hbc.out; omega
  have l1 : Hid (((keys.drop a).take (c - a)).length = c - a) := by show _ = _; simp; omega
  have l2 : Hid (((kids.drop a).take (b - a)).length = b - a) := by show _ = _; simp; omega
  have hda : b - a ≤ kids.length := by omega
  have hca : c - a ≤ keys.length := by omega
  go_enter Tryz.func120, Tryz.ntmps120
  go_wp2_with fail
  go_region_held3 (fun w' => w'.cell? ⟨w.heap.size, 0, none⟩ = some (.bool false) ∧ w'.cell? ⟨w.heap.size, 1, none⟩ = some (.slice eA ents.length eC) ∧ w'.cell? ⟨w.heap.size, 2, none⟩ = some (.slice (some ⟨kb, ko, none⟩) keys.length kC) ∧ w'.cell? ⟨w.heap.size, 3, none⟩ = some (.slice (some ⟨db, dO, none⟩) kids.length dC) ∧ w'.cell? ⟨w.heap.size, 4, none⟩ = some (.slice none 0 0)) (go_keep)
    (first
      | (go_at_call_of 97 (kC - a); refine (freshI_n _ _ _ ((keys.drop a).take (c - a)) l1.out _ (hk.cutI.go ((two_below _ _ _).drew) (Nat.le_refl _) (Nat.le_refl _)) (fun h => by cases h) (by omega)).mono ?_; rintro e w1 ⟨v1, rfl, o1, hb1⟩; obtain ⟨A1, C1, rfl, -⟩ := own_row o1; have G1 : Below w.heap.size w w1 := nextB ((two_below _ _ _).drew) (Nat.le_refl _) hb1; have T1 := (bcells (hb1.mono (show w.heap.size + 2 ≤ _ by simp))).1; have F1 := (bcells (hb1.mono (show w.heap.size + 2 ≤ _ by simp))).2; have Z1 : w.heap.size + 2 ≤ w1.heap.size := Nat.le_trans (by simp) hb1.size)
      | (go_at_call_of 97 (dC - a); refine (freshI_n _ _ _ ((kids.drop a).take (b - a)) l2.out _ (hd.cutI.go G1 (Nat.le_refl _) (Nat.le_refl _)) (fun h => by cases h) (by omega)).mono ?_; rintro e w2 ⟨v2, rfl, o2, hb2⟩; obtain ⟨A2, C2, rfl, -⟩ := own_row o2; have G2 : Below w.heap.size w w2 := nextB G1 (Nat.le_refl _) hb2; have T2 := (bcells (hb2.mono (show w.heap.size + 2 ≤ _ by exact Z1))).1; have F2 := (bcells (hb2.mono (show w.heap.size + 2 ≤ _ by exact Z1))).2; have Z2 : w.heap.size + 2 ≤ w2.heap.size := Nat.le_trans Z1 hb2.size)
      | (have k0 : w2.heap.size ≤ w2.heap.size := Nat.le_refl _; go_at_call_of 136 (Value.int IntKind.i64 (a : Int)); refine (wait_any false eA eC ents _ kC keys _ dC kids none 0 [] a _ (hk.go G2 (Nat.le_refl _) (Nat.le_refl _)) (.inl rfl) kz (by simp) hkl.out (by omega) List.Pairwise.nil 0 hr1).mono ?_; rintro e w3 ⟨rfl, hb3⟩; have G3 : Below w.heap.size w w3 := nextB G2 (Nat.le_refl _) hb3; have T3 := (bcells (hb3.mono (show w.heap.size + 2 ≤ _ by exact Z2))).1; have F3 := (bcells (hb3.mono (show w.heap.size + 2 ≤ _ by exact Z2))).2; have Z3 : w.heap.size + 2 ≤ w3.heap.size := Nat.le_trans Z2 hb3.size)
      | (have k0 : w3.heap.size ≤ w3.heap.size := Nat.le_refl _; go_at_call_of 136 (Value.int IntKind.i64 (b : Int)); refine (wait_any false eA eC ents _ kC keys _ dC kids none 0 [] b _ (hk.go G3 (Nat.le_refl _) (Nat.le_refl _)) (.inl rfl) kz (by simp) hkl.out hbk List.Pairwise.nil 0 hr2).mono ?_; rintro e w4 ⟨rfl, hb4⟩; have G4 : Below w.heap.size w w4 := nextB G3 (Nat.le_refl _) hb4; have T4 := (bcells (hb4.mono (show w.heap.size + 2 ≤ _ by exact Z3))).1; have F4 := (bcells (hb4.mono (show w.heap.size + 2 ≤ _ by exact Z3))).2; have Z4 : w.heap.size + 2 ≤ w4.heap.size := Nat.le_trans Z3 hb4.size)
      | (go_at_call 81; refine (freshE_n none 0 0 [] rfl _ (.inl rfl) (fun _ => rfl) (by omega)).mono ?_; rintro e w5 ⟨v5, rfl, o5, hb5⟩; obtain ⟨A5, C5, rfl, -⟩ := own_row o5; have G5 : Below w.heap.size w w5 := nextB G4 (Nat.le_refl _) hb5; have T5 := (bcells (hb5.mono (show w.heap.size + 2 ≤ _ by exact Z4))).1; have F5 := (bcells (hb5.mono (show w.heap.size + 2 ≤ _ by exact Z4))).2; have Z5 : w.heap.size + 2 ≤ w5.heap.size := Nat.le_trans Z4 hb5.size))
  go_wp2
  have hb45 : Below w3.heap.size w3 w5 := nextB hb4 (Nat.le_refl _) hb5
  have hb35 : Below w2.heap.size w2 w5 := nextB hb3 (Nat.le_refl _) hb45
  have hb25 : Below w1.heap.size w1 w5 := nextB hb2 (Nat.le_refl _) hb35
  have p1 := own_next o1 hb25
  have p2 := own_next o2 hb35
  have s12 := hb2.size
  have s23 := hb3.size
  have s34 := hb4.size
  simp only [World.size_drew, World.size_alloc] at p1
  refine bodyPost_ret (v := .agg #[.bool false, .slice none 0 0, .slice A1 (c - a) C1, .slice A2 (b - a) C2, .slice A5 0 C5]) (by simp [results, Tryz.results120, go_sem, T1, T2, T3, T4, T5]) rfl ⟨A1, C1, A2, C2, A5, C5, rfl, ⟨World.ownsRow_nil _ _ _ _, own_len l1.out ?_, own_len l2.out ?_, ?_, by simp, by show ((keys.drop a).take (c - a)).length * 8 ≤ _; rw [l1.out]; omega, by show ((kids.drop a).take (b - a)).length * 8 ≤ _; rw [l2.out]; omega, by simp⟩, ?_, ?_⟩
  · exact own_of_block (own_mono p1 (by omega)) fun k hk => set5_block w5 (w.heap.size + 1) 0 _ _ _ _ _ (by have := (p1.lt k hk).1; omega)
  · exact own_of_block (own_mono p2 (by omega)) fun k hk => set5_block w5 (w.heap.size + 1) 0 _ _ _ _ _ (by have := (p2.lt k hk).1; omega)
  · exact own_of_block (own_mono o5 (by omega)) fun k hk => set5_block w5 (w.heap.size + 1) 0 _ _ _ _ _ (by have := (o5.lt k hk).1; omega)
  · refine blocks_nodup (s1 := w.heap.size + 2) (s2 := w1.heap.size) (s3 := w2.heap.size) (fun x hx => by cases hx) (fun x hx => ?_) (fun x hx => own_lt o2 x hx) (fun x hx => ?_) Z1 s12
    · have := own_lt o1 x hx
      simp only [World.size_drew, World.size_alloc] at this
      exact this
    · have := own_lt o5 x hx; omega
  · exact set5_below G5 (by omega) 0 _ _ _ _ _

end Go.Proofs.YtlojfgdpmaigmaeGreatDoor

/- A tree in memory of one's own that grows: its nodes in a row that may move, each list in a block of its own. -/
namespace Go.Proofs.YtlojfgdpmaigmaeGreatDoor
open Go.RowKit Plain

def feet (g : Nat) (qs : List PN) : List Nat := g :: qs.flatMap PN.blocks

structure NT (base : Nat) (w : World) (g C : Nat) (qs : List PN) : Prop where
  own : w.ownsRow base 112 5 (.slice (some ⟨g, 0, none⟩) qs.length C) qs.length (flatN qs)
  each : ∀ q ∈ qs, q.own base w
  apart : (feet g qs).Nodup
  z : qs.length * 104 ≤ 140737488351232

/-- .. and the variable that holds it. -/
structure TB (base : Nat) (w : World) (tb g C : Nat) (qs : List PN) (root : Int) : Prop where
  nt : NT base w g C qs
  box : RowL w tb 25 [.slice (some ⟨g, 0, none⟩) qs.length C, .int .i64 root]
  ne : tb ∉ feet g qs
  hb : base ≤ tb

section
variable {base g C : Nat} {w w' : World} {qs : List PN}

theorem NT.glt (h : NT base w g C qs) : base ≤ g ∧ g < w.heap.size := h.own.lt g rfl

theorem NT.lt (h : NT base w g C qs) : ∀ k ∈ feet g qs, base ≤ k ∧ k < w.heap.size := by
  intro k hk
  rcases List.mem_cons.1 hk with rfl | hk
  · exact h.glt
  · obtain ⟨q, hq, hk⟩ := List.mem_flatMap.1 hk
    exact (h.each q hq).lt k hk

theorem NT.of_blocks (h : NT base w g C qs) (hk : ∀ k ∈ feet g qs, w'.heap[k]? = w.heap[k]?) : NT base w' g C qs :=
  ⟨own_of_block h.own fun k hb => hk k (by simp [Value.ownBlock] at hb; subst hb; exact List.mem_cons_self), fun q hq => (h.each q hq).of_blocks fun k hb => hk k (List.mem_cons_of_mem _ (List.mem_flatMap.2 ⟨q, hq, hb⟩)), h.apart, h.z⟩

theorem NT.below {B : Nat} (h : NT base w g C qs) (hb : Below B w w') (hB : w.heap.size ≤ B) : NT base w' g C qs :=
  h.of_blocks fun k hk => hb.block k (Nat.lt_of_lt_of_le (h.lt k hk).2 hB)

theorem NT.cell (h : NT base w g C qs) {j : Nat} (hj : j < qs.length * 5) : w.cell? ⟨g, j, none⟩ = (flatN qs)[j]? := h.own.cellAt j hj

theorem NT.node (h : NT base w g C qs) {k : Nat} (hk : k < qs.length) : PnAt w g (k * 5) qs[k] := by
  have c : ∀ j, j < 5 → ∀ u, (qs[k]).vals[j]? = some u → w.cell? ⟨g, k * 5 + j, none⟩ = some u := fun j hj u hu => by
    rw [h.cell (by omega), flatN_get qs k j hk hj]; exact hu
  exact ⟨c 0 (by decide) _ rfl, c 1 (by decide) _ rfl, c 2 (by decide) _ rfl, c 3 (by decide) _ rfl, c 4 (by decide) _ rfl⟩

theorem NT.free (h : NT base w g C qs) (j : Nat) : w.frozen? ⟨g, j, none⟩ = false := h.own.frozenAt j

theorem NT.nodes (h : NT base w g C qs) : NodesAt w.heap.size w (some ⟨g, 0, none⟩) qs :=
  ⟨(own_ok h.own).1, fun _ hk => (h.each _ (List.getElem_mem hk)).ok, h.z⟩
end

theorem set_nodeAt (qs : List PN) (k : Nat) (hk : k < qs.length) (p : PN) :
    (((((flatN qs).set (k * 5) (.bool p.leaf)).set (k * 5 + 1) (.slice p.eA p.ents.length p.eC)).set (k * 5 + 2) (.slice p.kA p.keys.length p.kC)).set (k * 5 + 3) (.slice p.dA p.kids.length p.dC)).set (k * 5 + 4) (.slice p.bA p.buf.length p.bC) = flatN (qs.set k p) := by
  obtain ⟨e1, e2⟩ := set_split qs k p hk
  rw [e2]
  conv => lhs; rw [e1]
  have h := set_node (qs.take k) (qs.drop (k + 1)) qs[k] p
  rw [List.length_take, Nat.min_eq_left (Nat.le_of_lt hk)] at h
  exact h

theorem own_set {w : World} {base : Nat} {e : TypeId} {size n g C : Nat} {vs : List Value} (h : w.ownsRow base e size (.slice (some ⟨g, 0, none⟩) n C) n vs) (j : Nat) (v : Value) :
    (w.setCell ⟨g, j, none⟩ v).ownsRow base e size (.slice (some ⟨g, 0, none⟩) n C) n (vs.set j v) := by
  refine ⟨by simp [h.1], .inr ?_⟩
  rcases h.2 with ⟨hv, _⟩ | ⟨g', cap, cur, hv, hb, hg, hl, hm, hs, ht⟩
  · cases hv
  · cases hv
    refine ⟨g, C, cur.setIfInBounds j v, rfl, hb, ?_, hl, hm, by simp [hs], ?_⟩
    · simp [World.setCell, Array.getElem?_modify, hg]
    · rw [Array.toList_setIfInBounds, List.take_set, ht]

theorem feet_set {g k : Nat} {qs : List PN} {p : PN} (hk : k < qs.length) (ha : (feet g qs).Nodup) (hn : p.blocks.Nodup) (hd : ∀ b ∈ p.blocks, b ∉ feet g qs) : (feet g (qs.set k p)).Nodup ∧ ∀ b ∈ feet g (qs.set k p), b ∈ feet g qs ∨ b ∈ p.blocks := by
  obtain ⟨A, x, B, hq, hset⟩ : ∃ A x B, qs = A ++ x :: B ∧ qs.set k p = A ++ p :: B := ⟨_, _, _, set_split qs k p hk⟩
  rw [hset]
  clear hset hk
  subst hq
  unfold feet at *
  simp only [List.flatMap_append, List.flatMap_cons, List.nodup_cons, List.nodup_append, List.mem_append, List.mem_cons, not_or] at *
  obtain ⟨⟨a1, a2, a3⟩, a4, ⟨a5, a6, a7⟩, a8⟩ := ha
  refine ⟨⟨⟨a1, fun h => (hd g h).1 rfl, a3⟩, a4, ⟨hn, a6, fun b hb c hc e => (hd b hb).2.2.2 (e ▸ hc)⟩, fun b hb c hc e => ?_⟩, fun b hb => ?_⟩
  · rcases hc with hc | hc
    · exact (hd c hc).2.1 (e ▸ hb)
    · exact a8 b hb c (.inr hc) e
  · rcases hb with hb | hb | hb | hb
    · exact .inl (.inl hb)
    · exact .inl (.inr (.inl hb))
    · exact .inr hb
    · exact .inl (.inr (.inr (.inr hb)))

theorem NT.setNode {base g C k : Nat} {w : World} {qs : List PN} {p : PN} (h : NT base w g C qs) (hk : k < qs.length) (hp : p.own base w) (hn : p.blocks.Nodup) (hd : ∀ b ∈ p.blocks, b ∉ feet g qs) :
    NT base (((((w.setCell ⟨g, k * 5, none⟩ (.bool p.leaf)).setCell ⟨g, k * 5 + 1, none⟩ (.slice p.eA p.ents.length p.eC)).setCell ⟨g, k * 5 + 2, none⟩ (.slice p.kA p.keys.length p.kC)).setCell ⟨g, k * 5 + 3, none⟩ (.slice p.dA p.kids.length p.dC)).setCell ⟨g, k * 5 + 4, none⟩ (.slice p.bA p.buf.length p.bC)) g C (qs.set k p) := by
  have hg : g ∉ p.blocks := fun e => hd g e List.mem_cons_self
  have hs : ∀ b, b ≠ g → (((((w.setCell ⟨g, k * 5, none⟩ (.bool p.leaf)).setCell ⟨g, k * 5 + 1, none⟩ (.slice p.eA p.ents.length p.eC)).setCell ⟨g, k * 5 + 2, none⟩ (.slice p.kA p.keys.length p.kC)).setCell ⟨g, k * 5 + 3, none⟩ (.slice p.dA p.kids.length p.dC)).setCell ⟨g, k * 5 + 4, none⟩ (.slice p.bA p.buf.length p.bC)).heap[b]? = w.heap[b]? := fun b hb => set5_block w g (k * 5) _ _ _ _ _ hb
  refine ⟨?_, fun q hq => ?_, (feet_set hk h.apart hn hd).1, by simpa using h.z⟩
  · rw [← set_nodeAt qs k hk p, List.length_set]
    exact own_set (own_set (own_set (own_set (own_set h.own _ _) _ _) _ _) _ _) _ _
  · rcases List.mem_or_eq_of_mem_set hq with hq | rfl
    · refine (h.each q hq).of_blocks fun b hb => hs b ?_
      rintro rfl
      have := h.apart
      rw [feet, List.nodup_cons] at this
      exact this.1 (List.mem_flatMap.2 ⟨q, hq, hb⟩)
    · exact hp.of_blocks fun b hb => hs b (fun e => hg (e ▸ hb))

theorem flatN_one (ps : List PN) : ∀ u ∈ flatN ps, u.oneCell' = true := by
  induction ps with
  | nil => simp [flatN]
  | cons x r ih =>
    intro u hu
    simp only [flatN, PN.vals, List.cons_append, List.nil_append, List.mem_cons] at hu
    rcases hu with h | h | h | h | h | h
    all_goals first | (subst h; rfl) | exact ih u h

theorem newsN (W : World) (b : Nat) (t : TypeId) (p : PN) (h : RowL W b t p.vals) : ∀ j u, (flatN [p])[j]? = some u → W.cell? (Addr.add ⟨b, 0, none⟩ j) = some u := by
  intro j u hu
  rw [WideShapes.add_plain, Nat.zero_add, h.cell]
  simpa [flatN] using hu

theorem feet_append {g' : Nat} {g : Nat} {qs : List PN} {q : PN} (ha : (feet g qs).Nodup) (hn : q.blocks.Nodup) (hd : ∀ b ∈ q.blocks, b ∉ feet g qs) (hg : g' = g ∨ (g' ∉ feet g qs ∧ g' ∉ q.blocks)) : (feet g' (qs ++ [q])).Nodup := by
  unfold feet at *
  simp only [List.flatMap_append, List.flatMap_cons, List.flatMap_nil, List.append_nil, List.nodup_cons, List.nodup_append, List.mem_append, List.mem_cons, not_or] at *
  refine ⟨⟨?_, ?_⟩, ha.2, hn, fun b hb c hc e => (hd c hc).2 (e ▸ hb)⟩
  · rcases hg with rfl | hg
    · exact ha.1
    · exact hg.1.2
  · rcases hg with rfl | hg
    · intro h; exact (hd g' h).1 rfl
    · exact hg.2

end Go.Proofs.YtlojfgdpmaigmaeGreatDoor

/- A node more. -/
namespace Go.Proofs.YtlojfgdpmaigmaeGreatDoor
open Go.RowKit Plain

theorem newsA (w : World) (q : PN) (o1 : Obj) (t : TypeId) : ∀ j u, (flatN [q])[j]? = some u → ((w.alloc o1).drew.alloc (.cells #[.bool q.leaf, .slice q.eA q.ents.length q.eC, .slice q.kA q.keys.length q.kC, .slice q.dA q.kids.length q.dC, .slice q.bA q.buf.length q.bC] t)).cell? (Addr.add ⟨w.heap.size + 1, 0, none⟩ j) = some u := by
  have h := rowL_alloc (w.alloc o1).drew q.vals t
  have e : (w.alloc o1).drew.heap.size = w.heap.size + 1 := by simp
  rw [e] at h
  exact newsN _ _ _ q h

theorem add_end {base tb g C g' C' : Nat} {qs : List PN} {root : Int} {q : PN} {w W w1 : World} (hT : TB base w tb g C qs root) (hq : q.own base w) (hqn : q.blocks.Nodup) (hqd : ∀ b ∈ q.blocks, b ∉ feet g qs) (hqt : tb ∉ q.blocks) (hz : (qs.length + 1) * 104 ≤ 140737488351232)
    (hW : Below w.heap.size w W) (hown : w1.ownsRow base 112 5 (.slice (some ⟨g', 0, none⟩) (qs.length + 1) C') (qs.length + 1) (flatN qs ++ flatN [q])) (hgrow : W.grownBy w1 (Value.slice (some ⟨g, 0, none⟩) qs.length C).ownBlock) (hat : (Value.slice (some ⟨g, 0, none⟩) qs.length C).ownBlock = some g' ∨ g' = w.heap.size + 2) :
    TB base (w1.setCell ⟨tb, 0, none⟩ (.slice (some ⟨g', 0, none⟩) (qs.length + 1) C')) tb g' C' (qs ++ [q]) root ∧ Kept [tb, g] w (w1.setCell ⟨tb, 0, none⟩ (.slice (some ⟨g', 0, none⟩) (qs.length + 1) C')) ∧ (g' = g ∨ w.heap.size ≤ g') := by
  have hat' : g' = g ∨ g' = w.heap.size + 2 := by
    rcases hat with h | h
    · left; simpa [Value.ownBlock] using h.symm
    · exact .inr h
  have htg : tb ≠ g := fun e => hT.ne (e ▸ List.mem_cons_self)
  have htl := hT.box.lt
  have hk1 : ∀ k, k < w.heap.size → k ≠ g → w1.heap[k]? = w.heap[k]? := fun k hk hne => (hgrow.block k (Nat.lt_of_lt_of_le hk hW.size) (by simpa [Value.ownBlock] using hne)).trans (hW.block k hk)
  have hk2 : ∀ k, k ≠ tb → (w1.setCell ⟨tb, 0, none⟩ (.slice (some ⟨g', 0, none⟩) (qs.length + 1) C')).heap[k]? = w1.heap[k]? := fun k hne => Below.heap_setCell _ _ _ _ hne
  have hg't : g' ≠ tb := by rcases hat' with rfl | rfl <;> omega
  have hfl := hT.nt.lt
  have hap := hT.nt.apart
  have hgn : g ∉ qs.flatMap PN.blocks := by rw [feet, List.nodup_cons] at hap; exact hap.1
  refine ⟨⟨⟨?_, fun x hx => ?_, ?_, by simpa using hz⟩, ?_, ?_, hT.hb⟩, ⟨hgrow.os.trans hW.os, hgrow.tape.trans hW.tape, hgrow.output.trans hW.output, ?_, fun k hk hx => ?_⟩, by omega⟩
  · rw [flatN_append, List.length_append]
    exact own_of_block hown fun k hk => hk2 k (by have : g' = k := (by simpa [Value.ownBlock] using hk); omega)
  · rcases List.mem_append.1 hx with hx | hx
    · refine (hT.nt.each x hx).of_blocks fun k hk => ?_
      have hm : k ∈ feet g qs := List.mem_cons_of_mem _ (List.mem_flatMap.2 ⟨x, hx, hk⟩)
      rw [hk2 k (fun e => hT.ne (e ▸ hm)), hk1 k (hfl k hm).2 (fun e => hgn (e ▸ List.mem_flatMap.2 ⟨x, hx, hk⟩))]
    · obtain rfl : x = q := by simpa using hx
      refine hq.of_blocks fun k hk => ?_
      rw [hk2 k (fun e => hqt (e ▸ hk)), hk1 k (hq.lt k hk).2 (fun e => hqd k hk (e ▸ List.mem_cons_self))]
  · refine feet_append hap hqn hqd ?_
    rcases hat' with h | h
    · exact .inl h
    · refine .inr ⟨fun e => ?_, fun e => ?_⟩
      · have := (hfl _ e).2; omega
      · have := (hq.lt _ e).2; omega
  · have hr : RowL w1 tb 25 [.slice (some ⟨g, 0, none⟩) qs.length C, .int .i64 root] := hT.box.of_block (hk1 tb htl htg)
    rw [List.length_append]
    exact hr.set 0 _
  · unfold feet
    simp only [List.flatMap_append, List.flatMap_cons, List.flatMap_nil, List.append_nil, List.mem_cons, List.mem_append, not_or]
    refine ⟨fun e => hg't e.symm, fun e => hT.ne (List.mem_cons_of_mem _ e), hqt⟩
  · have h1 := hgrow.size
    have h2 := hW.size
    simp
    omega
  · simp only [List.mem_cons, List.not_mem_nil, or_false, not_or] at hx
    rw [hk2 k hx.1, hk1 k hk hx.2]

set_option maxRecDepth 20000 in
set_option maxHeartbeats 4000000 in
theorem add_any (base tb g C : Nat) (qs : List PN) (root : Int) (q : PN) (w : World) (hT : TB base w tb g C qs root) (hq : q.own base w) (hqn : q.blocks.Nodup) (hqd : ∀ b ∈ q.blocks, b ∉ feet g qs) (hqt : tb ∉ q.blocks) (hz : (qs.length + 1) * 104 ≤ 140737488351232) (hB : base ≤ w.heap.size) :
    Calls Tryz.prog 104 #[.pointer (some ⟨tb, 0, none⟩), .agg #[.bool q.leaf, .slice q.eA q.ents.length q.eC, .slice q.kA q.keys.length q.kC, .slice q.dA q.kids.length q.dC, .slice q.bA q.buf.length q.bC]] w
      fun e w' => e = .returned (.int .i64 (qs.length : Int)) ∧ ∃ g' C', TB base w' tb g' C' (qs ++ [q]) root ∧ Kept [tb, g] w w' ∧ (g' = g ∨ w.heap.size ≤ g') := by
  obtain ⟨i0, hi0, hz0, hz1, hz2⟩ := info_parts infoN
  have own := hT.nt.own
  have HT : Hid (TB base w tb g C qs root) := hT
  have c0 := hT.box.cell 0
  have c1 := hT.box.cell 1
  have fz := hT.box.frozen
  have tlt := hT.box.lt
  have glt := hT.nt.glt.2
  simp only [List.getElem?_cons_zero, List.getElem?_cons_succ] at c0 c1
  have HN : Hid (tb ≠ g) := fun e => hT.ne (e ▸ List.mem_cons_self)
  have HM : Hid (some tb ≠ (Value.slice (some ⟨g, 0, none⟩) qs.length C).ownBlock) := fun e => HN.out (by simpa [Value.ownBlock] using e)
  have hb2 : ∀ o1 o2 : Obj, Below w.heap.size w ((w.alloc o1).drew.alloc o2) := fun o1 o2 => (((Below.refl _ _).alloc (Nat.le_refl _) _).drew).alloc (by simp) _
  clear hT
  go_enter Tryz.func104, Tryz.ntmps104
  go_wp2_with fail
  go_region_law (refine step_append_lies _ rfl (.tmp 9) (.tmp 11) 23 rfl base 112 i0 _ 5 104 Tryz.underlying23 hi0 hz0 hz1 hz2 rfl (by decide) (.slice (some ⟨g, 0, none⟩) qs.length C) qs.length (flatN qs) (by simp [Act.eval]) (own_next own ((((Below.refl _ _).alloc (Nat.le_refl _) _).drew).alloc (by simp) _)) ⟨w.heap.size + 1, 0, none⟩ 1 1 (flatN [q]) (by simp [Act.eval]) rfl (newsA w q _ _) (flatN_one _) (by decide) (by unfold maxLen; omega) (by omega) (by simp; omega) (w.heap.size + 2) (by simp) ?_; intro g' C' w1 hown1 hgrow1 hat1 hlt1; have cv1 : w1.cell? ⟨tb, 0, none⟩ = some (.slice (some ⟨g, 0, none⟩) qs.length C) := (hgrow1.cell_far ⟨tb, 0, none⟩ (by simp; omega) HM.out).trans ((hb2 _ _).cell (p := ⟨tb, 0, none⟩) tlt |>.trans c0); have fv1 : w1.frozen? ⟨tb, 0, none⟩ = false := (hgrow1.frozen_far ⟨tb, 0, none⟩ (by simp; omega) HM.out).trans ((hb2 _ _).frozen (p := ⟨tb, 0, none⟩) tlt |>.trans (fz 0)); have HR := hideC (And.intro hown1 (And.intro hgrow1 hat1)); clear hown1 hgrow1 hat1)
  all_goals
    go_wp2
    go_ret
    obtain ⟨hown1, hgrow1, hat1⟩ := HR.out
    have R := add_end HT.out hq hqn hqd hqt hz (hb2 _ _) hown1 hgrow1 hat1
    exact ⟨ret_int (by omega), _, _, R⟩

end Go.Proofs.YtlojfgdpmaigmaeGreatDoor

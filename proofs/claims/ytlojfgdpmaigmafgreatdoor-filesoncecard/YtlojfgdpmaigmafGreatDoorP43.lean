/- What a base knows with one point more: in plain terms. -/
import Derived.Test.YtlojfgdpmaigmafGreatDoorP16
import Derived.Test.YtlojfgdpmaigmafGreatDoorP19
import Derived.Test.YtlojfgdpmaigmafGreatDoorP30
import Derived.Test.YtlojfgdpmaigmafGreatDoorP42
import Derived.Test.YtlojfgdpmaigmafGreatDoorP31
import Derived.Test.YtlojfgdpmaigmafGreatDoorP12
import Derived.Maps.Views
import Derived.Maps.OwnSet
import Derived.Test.YtlojfgdpmaigmafGreatDoorP23
import Derived.Test.YtlojfgdpmaigmafGreatDoorP26
import Derived.Test.YtlojfgdpmaigmafGreatDoorP34
import Derived.Test.YtlojfgdpmaigmafGreatDoorP35
namespace Go.Proofs.YtlojfgdpmaigmafGreatDoor
open Go.RowKit Plain

theorem allP_zero {ns : List Nd} {root : Int} {L : List En} (h : allP ns root 0 1099511627776 = (0, L)) : treeC ns root = 0 ∧ allR 0 1099511627776 (ns.flatMap Nd.lst) = some L := by
  unfold allP at h
  by_cases hc : treeC ns root = 0
  · rw [if_neg (by simpa using hc)] at h
    cases ha : allR 0 1099511627776 (ns.flatMap Nd.lst) with
    | none => rw [ha] at h; cases h
    | some ys => rw [ha] at h; cases h; exact ⟨hc, rfl⟩
  · rw [if_pos hc] at h
    exact absurd (congrArg Prod.fst h) hc

theorem allP_of {ns : List Nd} {root : Int} {L : List En} (hc : treeC ns root = 0) (h : allR 0 1099511627776 (ns.flatMap Nd.lst) = some L) : allP ns root 0 1099511627776 = (0, L) := by
  unfold allP
  rw [if_neg (by simpa using hc), h]

/-! ### Names -/

/-! ### A base with one point more -/

end Go.Proofs.YtlojfgdpmaigmafGreatDoor

/- A tree knows these entries, key by key: in plain terms. -/
namespace Go.Proofs.YtlojfgdpmaigmafGreatDoor
open Go.RowKit Plain

end Go.Proofs.YtlojfgdpmaigmafGreatDoor

/- The numbers of a tree that may be are numbers. -/
namespace Go.Proofs.YtlojfgdpmaigmafGreatDoor
open Go.RowKit Plain

def NB (N : Nat) (x : Nd) : Prop := (∀ z ∈ x.keys, 0 ≤ z ∧ z ≤ 1099511627776) ∧ ∀ z ∈ x.kids, 0 ≤ z ∧ z < N

theorem Sub_self {T m : Nat} {ns : List Nd} : ∀ {h : Nat} {p lo hi : Int} {P : List Int}, Sub T m ns h p lo hi P → 0 ≤ p ∧ p < ns.length
  | 0, _, _, _, _, hs => ⟨hs.1.1, hs.1.2.1⟩
  | _ + 1, _, _, _, _, hs => ⟨hs.1.1, hs.1.2.1⟩

theorem SubK_kids {T m : Nat} {ns : List Nd} {h : Nat} {hi : Int} : ∀ (kids keys : List Int) (lo : Int) (Q : List Int), keys.length + 1 = kids.length → SubK (Sub T m ns h) lo (ups kids keys hi) Q → ∀ d ∈ kids, 0 ≤ d ∧ d < ns.length
  | [], _, _, _, hk, _ => by simp at hk
  | [d], keys, lo, Q, hk, hQ => by
    obtain rfl : keys = [] := List.eq_nil_of_length_eq_zero (by simpa using hk)
    obtain ⟨Q1, Q2, rfl, h1, h2⟩ := hQ
    intro z hz
    obtain rfl : z = d := by simpa using hz
    exact Sub_self h1
  | d :: e :: ds, [], _, _, hk, _ => by simp at hk
  | d :: e :: ds, k :: ks, lo, Q, hk, hQ => by
    obtain ⟨Q1, Q2, rfl, h1, h2⟩ := hQ
    intro z hz
    rcases List.mem_cons.1 hz with rfl | hz
    · exact Sub_self h1
    · exact SubK_kids (e :: ds) ks k Q2 (by simpa using hk) h2 z hz

theorem Sub_nb {T m : Nat} {ns : List Nd} : ∀ (h : Nat) (p lo hi : Int) (P : List Int), 0 ≤ lo → hi ≤ 1099511627776 → Sub T m ns h p lo hi P → ∀ n ∈ P, NB ns.length (nth ns n)
  | 0, p, lo, hi, P, _, _, hs, n, hn => by
    obtain ⟨_, rfl, hl⟩ := hs
    obtain rfl : n = p := by simpa using hn
    unfold NB
    rw [hl.keys, hl.kids]
    exact ⟨by simp, by simp⟩
  | h + 1, p, lo, hi, P, hlo, hhi, hs, n, hn => by
    obtain ⟨_, Q, rfl, hin⟩ := hs
    rcases List.mem_cons.1 hn with rfl | hn
    · have hr := keys_rise (Sub_lt h) hin.keys hin.kids
      exact ⟨fun z hz => by have := hr.2.1 z hz; omega, SubK_kids _ _ _ _ hin.keys hin.kids⟩
    · have ih := Sub_nb (T := T) (m := m) (ns := ns) h
      have : ∀ (kids keys : List Int) (lo' : Int) (Q : List Int), 0 ≤ lo' → keys.length + 1 = kids.length → SubK (Sub T m ns h) lo' (ups kids keys hi) Q → ∀ n ∈ Q, NB ns.length (nth ns n) := by
        intro kids
        induction kids with
        | nil => intro keys lo' Q _ hk; simp at hk
        | cons d ds ihd =>
          intro keys lo' Q h0 hk hQ n hn
          have hr := keys_rise (Sub_lt h) hk hQ
          cases ds with
          | nil =>
            obtain rfl : keys = [] := List.eq_nil_of_length_eq_zero (by simpa using hk)
            obtain ⟨Q1, Q2, rfl, h1, h2⟩ := hQ
            cases h2
            rw [List.append_nil] at hn
            exact ih _ _ _ _ h0 hhi h1 n hn
          | cons e ds =>
            cases keys with
            | nil => simp at hk
            | cons k ks =>
              obtain ⟨Q1, Q2, rfl, h1, h2⟩ := hQ
              have hk1 := hr.2.1 k List.mem_cons_self
              rcases List.mem_append.1 hn with hn | hn
              · exact ih _ _ _ _ h0 (by omega) h1 n hn
              · exact ihd ks k Q2 (by omega) (by simpa using hk) h2 n hn
      exact this _ _ _ _ hlo hin.keys hin.kids n hn

theorem tree_nb {ns : List Nd} {root : Int} (h : treeC ns root = 0) : ∀ x ∈ ns, NB ns.length x := by
  rcases treeC_sub h with ⟨ht, P, hs, hp⟩ | ⟨he, rfl⟩
  · intro x hx
    obtain ⟨i, hi, rfl⟩ := List.getElem_of_mem hx
    have hm : (i : Int) ∈ P := hp.mem_iff.2 (placesF_mem.2 ⟨by omega, by omega⟩)
    have := Sub_nb ht _ _ _ _ (Int.le_refl _) (Int.le_refl _) hs (i : Int) hm
    have e : nth ns (i : Int) = ns[i] := by simp [nth, hi]
    rwa [e] at this
  · rw [he]
    intro x hx
    obtain rfl : x = leafOf [] := by simpa using hx
    exact ⟨by simp [leafOf], by simp [leafOf]⟩

theorem en_wf {y : En} (hk : 0 ≤ y.key ∧ y.key < 1099511627776) (hg : Good y.ru) : y.wf := by
  obtain ⟨b1, b2, b3, b4, b5, b6⟩ := check_bounds hg.1
  have e : y.ru = ⟨y.c, y.s, y.lo, y.hi, y.t, y.l⟩ := rfl
  have g := good_iff.1 hg
  simp only [e] at b1 b2 b3 b4 b5 b6 g
  exact ⟨WalkArith.wf_i64 (by omega), WalkArith.wf_i64 (by omega), WalkArith.wf_i64 (by omega), WalkArith.wf_i64 (by omega), WalkArith.wf_i64 (by omega), WalkArith.wf_i64 (by omega), WalkArith.wf_i64 (by omega)⟩

theorem treeC_wf {qs : List PN} {root : Int} (h : treeC (qs.map PN.nd) root = 0) : ∀ q ∈ qs, q.wf := by
  intro q hq
  have hm : q.nd ∈ qs.map PN.nd := List.mem_map.2 ⟨q, hq, rfl⟩
  obtain ⟨n1, n2⟩ := tree_nb h _ hm
  have hin : ∀ y ∈ cont q.nd, y.wf := fun y hy => by
    have := tree_in h y (List.mem_flatMap.2 ⟨_, hm, hy⟩)
    exact en_wf this.1 this.2
  have hl := (tree_each h).1
  refine ⟨fun y hy => hin y (List.mem_append_right _ hy), fun z hz => ?_, fun z hz => ?_, fun y hy => hin y (List.mem_append_left _ hy)⟩
  · have := n1 z hz
    exact WalkArith.wf_i64 (by omega)
  · have := n2 z hz
    exact WalkArith.wf_i64 (by omega)

end Go.Proofs.YtlojfgdpmaigmafGreatDoor

/- A tree of few keys has few nodes: in plain terms. -/
namespace Go.Proofs.YtlojfgdpmaigmafGreatDoor
open Go.RowKit Plain

end Go.Proofs.YtlojfgdpmaigmafGreatDoor

/- A total: what all entries of a series come to, whichever buckets are asked. In plain terms. -/
namespace Go.Proofs.YtlojfgdpmaigmafGreatDoor
open Go.RowKit Plain

end Go.Proofs.YtlojfgdpmaigmafGreatDoor

/- How many points entries are of, together: in plain terms. -/
namespace Go.Proofs.YtlojfgdpmaigmafGreatDoor
open Go.RowKit Plain

end Go.Proofs.YtlojfgdpmaigmafGreatDoor

/- base.mergeAll: what all entries come to. -/
namespace Go.Proofs.YtlojfgdpmaigmafGreatDoor
open Go.RowKit Plain

end Go.Proofs.YtlojfgdpmaigmafGreatDoor

/- What Of says of entries in order, and of the same the other way round: in plain terms. -/
namespace Go.Proofs.YtlojfgdpmaigmafGreatDoor
open Go.RowKit Plain

theorem getD_lt {l : List En} {k : Nat} (h : k < l.length) : l.getD k default = l[k] := by
  rw [List.getD_eq_getElem?_getD, List.getElem?_eq_getElem h]
  rfl

theorem ent_zero {x : En} (hk : 0 ≤ x.key ∧ x.key < 1099511627776) (hg : Good x.ru) : entC x = 0 := by
  unfold entC
  rw [if_pos ⟨(inB_iff _ _ _).2 (by omega), hg.2⟩]
  exact hg.1

theorem fault_zero {l : List En} (hi : l.Pairwise fun a b => a.key < b.key) (hg : ∀ y ∈ l, Good y.ru) (hk : ∀ y ∈ l, 0 ≤ y.key ∧ y.key < 1099511627776) : faultE l = 0 := by
  have at0 : ∀ k, k < l.length → fltAt l k = 0 := by
    intro k hkl
    unfold fltAt
    rw [if_neg]
    · rw [getD_lt hkl]
      exact ent_zero (hk _ (List.getElem_mem hkl)) (hg _ (List.getElem_mem hkl))
    · unfold ordB
      simp only [Bool.and_eq_true, decide_eq_true_eq, not_and]
      intro h0
      rw [getD_lt hkl, getD_lt (show k - 1 < l.length by omega)]
      have := List.pairwise_iff_getElem.1 hi (k - 1) k (by omega) hkl (by omega)
      omega
  have go : ∀ (f k : Nat), k + f = l.length → fltF l f k = 0 := by
    intro f
    induction f with
    | zero => intro k _; rfl
    | succ f ih =>
      intro k hk'
      unfold fltF
      rw [if_pos (at0 k (by omega))]
      exact ih (k + 1) (by omega)
  exact go l.length 0 (by omega)

end Go.Proofs.YtlojfgdpmaigmafGreatDoor

/- Expire, in plain terms: of what a base knows, that which is not older. -/
namespace Go.Proofs.YtlojfgdpmaigmafGreatDoor
open Go.RowKit Plain

end Go.Proofs.YtlojfgdpmaigmafGreatDoor

/- A tree of few keys has few nodes: in plain terms. -/
import Derived.Test.YtlojfgdpmaigmacGreatDoorP49
import Derived.Test.YtlojfgdpmaigmacGreatDoorFindWalk
namespace Go.Proofs.YtlojfgdpmaigmacGreatDoor
open Go.RowKit Plain

/-- Keys of leaves, in their order: from lo on, below hi; each stands in a node at one of the places. -/
structure LeafK (ns : List Nd) (P : List Int) (lo hi : Int) (E : List Int) : Prop where
  inc : E.Pairwise (· < ·)
  bd : ∀ e ∈ E, lo ≤ e ∧ e < hi
  mem : ∀ e ∈ E, ∃ n ∈ P, ∃ y ∈ (nth ns n).ents, y.key = e

theorem leafK_app {ns : List Nd} {P Q E F : List Int} {lo u hi : Int} (h : LeafK ns P lo u E) (k : LeafK ns Q u hi F) (h1 : lo ≤ u) (h2 : u ≤ hi) : LeafK ns (P ++ Q) lo hi (E ++ F) := by
  refine ⟨List.pairwise_append.2 ⟨h.inc, k.inc, fun a ha b hb => ?_⟩, fun e he => ?_, fun e he => ?_⟩
  · have := h.bd a ha
    have := k.bd b hb
    omega
  · rcases List.mem_append.1 he with he | he
    · have := h.bd e he
      omega
    · have := k.bd e he
      omega
  · rcases List.mem_append.1 he with he | he
    · obtain ⟨n, hn, y, hy, q⟩ := h.mem e he
      exact ⟨n, List.mem_append_left _ hn, y, hy, q⟩
    · obtain ⟨n, hn, y, hy, q⟩ := k.mem e he
      exact ⟨n, List.mem_append_right _ hn, y, hy, q⟩

theorem SubK_leaves {ns : List Nd} {g : Rel} (hlt : ∀ d lo hi Q, g d lo hi Q → lo < hi) (hg : ∀ d lo hi Q, g d lo hi Q → ∃ E, LeafK ns Q lo hi E ∧ Q.length + 1 ≤ 2 * E.length) :
    ∀ (r : List (Int × Int)) (lo : Int) (Q : List Int), SubK g lo r Q → ∃ E, LeafK ns Q lo (endU lo r) E ∧ Q.length + r.length ≤ 2 * E.length
  | [], lo, Q, h => by
    cases h
    exact ⟨[], ⟨by simp, by simp, by simp⟩, by simp⟩
  | (d, u) :: r, lo, Q, h => by
    obtain ⟨Q1, Q2, rfl, h1, h2⟩ := h
    obtain ⟨E1, k1, n1⟩ := hg _ _ _ _ h1
    obtain ⟨E2, k2, n2⟩ := SubK_leaves hlt hg r u Q2 h2
    have l1 := hlt _ _ _ _ h1
    have l2 := (SubK_lt hlt h2).1
    refine ⟨E1 ++ E2, leafK_app k1 k2 (by omega) l2, ?_⟩
    simp only [List.length_append, List.length_cons]
    omega

theorem ups_length {kids keys : List Int} {hi : Int} (h : keys.length + 1 = kids.length) : (ups kids keys hi).length = kids.length := by
  unfold ups
  rw [List.length_zip, List.length_append]
  simp
  omega

theorem endU_upsL : ∀ (kids keys : List Int) (lo hi : Int), keys.length + 1 = kids.length → endU lo (ups kids keys hi) = hi
  | [], _, _, _, h => by simp at h
  | [d], [], lo, hi, _ => rfl
  | d :: e :: kids, [], lo, hi, h => by simp at h
  | [d], k :: keys, lo, hi, h => by simp at h
  | d :: e :: kids, k :: keys, lo, hi, h => endU_upsL (e :: kids) keys k hi (by simpa using h)

theorem Sub_leaves {T m : Nat} {ns : List Nd} : ∀ (h : Nat) (n lo hi : Int) (P : List Int), Sub T m ns h n lo hi P → ∃ E, LeafK ns P lo hi E ∧ P.length + 1 ≤ 2 * E.length
  | 0, n, lo, hi, P, hs => by
    obtain ⟨_, rfl, hl⟩ := hs
    obtain ⟨b1, b2⟩ := entsB_lt hl.ents
    refine ⟨(nth ns n).ents.map En.key, ⟨by rw [List.pairwise_map]; exact b2, fun e he => ?_, fun e he => ?_⟩, ?_⟩
    · obtain ⟨y, hy, rfl⟩ := List.mem_map.1 he
      exact b1 y hy
    · obtain ⟨y, hy, rfl⟩ := List.mem_map.1 he
      exact ⟨n, by simp, y, hy, rfl⟩
    · have : (nth ns n).ents.length ≠ 0 := fun e => hl.ne (List.eq_nil_of_length_eq_zero e)
      simp only [List.length_cons, List.length_nil, List.length_map]
      omega
  | h + 1, n, lo, hi, P, hs => by
    obtain ⟨_, Q, rfl, hi'⟩ := hs
    obtain ⟨E, k, q⟩ := SubK_leaves (fun d lo hi Q hq => Sub_lt h d lo hi Q hq) (fun d lo hi Q hq => Sub_leaves h d lo hi Q hq) _ _ _ hi'.kids
    rw [endU_upsL _ _ _ _ hi'.keys] at k
    rw [ups_length hi'.keys] at q
    refine ⟨E, ⟨k.inc, k.bd, fun e he => ?_⟩, ?_⟩
    · obtain ⟨p, hp, y, hy, q⟩ := k.mem e he
      exact ⟨p, List.mem_cons_of_mem _ hp, y, hy, q⟩
    · have := hi'.two
      simp only [List.length_cons]
      omega

theorem cntK_zero {k : Int} : ∀ {l : List En}, (∀ z ∈ l, z.key ≠ k) → cntK k l = 0
  | [], _ => rfl
  | y :: r, h => by
    have h1 := h y List.mem_cons_self
    have h2 := cntK_zero (l := r) fun z hz => h z (List.mem_cons_of_mem _ hz)
    simp only [cntK, if_neg h1, h2]
    omega

theorem cntK_mem {y : En} : ∀ {l : List En}, Pos l → y ∈ l → 1 ≤ cntK y.key l
  | [], _, h => by simp at h
  | z :: r, hp, h => by
    have hr : Pos r := fun x hx => hp x (List.mem_cons_of_mem _ hx)
    have h0 := cntK_nn (k := y.key) hr
    have hz := hp z List.mem_cons_self
    rcases List.mem_cons.1 h with rfl | h
    · simp only [cntK, if_true]
      omega
    · have := cntK_mem hr h
      simp only [cntK]
      split <;> omega

/-- Nodes that stand as a tree, each of whose keys is among these: there are few. -/
theorem few_of {ns : List Nd} {h : Nat} {root : Int} {P : List Int} {l : List En} (hs : Sub 6 4 ns h root 0 1099511627776 P) (hp : P.Perm (placesF 0 ns.length)) (hk : ∀ y ∈ ns.flatMap cont, 1 ≤ cntK y.key l) : ns.length + 1 ≤ 2 * l.length := by
  obtain ⟨E, k, q⟩ := Sub_leaves h _ _ _ _ hs
  have hlen : P.length = ns.length := by rw [hp.length_eq, placesF_length]
  have hle : E.length ≤ (l.map En.key).length := by
    refine nodup_le E _ (k.inc.imp fun h => by omega) fun e he => ?_
    obtain ⟨n, hn, y, hy, rfl⟩ := k.mem e he
    have hr := Sub_range h _ _ _ _ hs n hn
    have hm : nth ns n ∈ ns := by
      unfold nth
      rw [List.getD_eq_getElem?_getD, List.getElem?_eq_getElem (by omega)]
      exact List.getElem_mem _
    have h1 := hk y (List.mem_flatMap.2 ⟨_, hm, List.mem_append_right _ hy⟩)
    apply Classical.byContradiction
    intro hno
    rw [cntK_zero (fun z hz e => hno (List.mem_map.2 ⟨z, hz, e⟩))] at h1
    omega
  rw [List.length_map] at hle
  omega

/-- A tree that knows of few keys has few nodes. -/
theorem Knows.nodes {ns : List Nd} {root : Int} {l : List En} (h : Knows ns root l) : ns.length = 1 ∨ ns.length + 1 ≤ 2 * l.length := by
  rcases treeC_sub h.ok with ⟨ht, P, hs, hp⟩ | ⟨e, _⟩
  · right
    have hgs : ∀ y ∈ ns.flatMap cont, Good y.ru := fun y hy => (tree_in h.ok y hy).2
    have hcnt := (allL_facts hgs h.all).2.2
    exact few_of hs hp fun y hy => by rw [hcnt]; exact cntK_mem (good_pos hgs) hy
  · left
    rw [e]
    rfl

/-- And so has what a Put makes of it. -/
theorem Knows.put_few {ns ns2 : List Nd} {root root2 key : Int} {r : Ru} {l ys : List En} (h : Knows ns root l) (hok : PutOk ns ns2 root2 (mkE key r)) (hi : ins l (mkE key r) = some ys) : ns2.length + 1 ≤ 2 * ys.length := by
  obtain ⟨ht, P, hs, hp⟩ := hok.sub
  have hgs : ∀ y ∈ ns.flatMap cont, Good y.ru := fun y hy => (tree_in h.ok y hy).2
  have hcnt := (allL_facts hgs h.all).2.2
  refine few_of hs hp fun y hy => ?_
  have h1 := cntK_mem hok.eqv.posm hy
  rw [← hok.eqv.cnt] at h1
  rw [ins_cnt hi, hcnt]
  simp only [cntK] at h1
  omega

end Go.Proofs.YtlojfgdpmaigmacGreatDoor

/- Roots above roots, till one is enough; and what Check tells of the tree then. -/
import Derived.Test.YtlojfgdpmaigmafGreatDoorP13
import Derived.Test.YtlojfgdpmaigmafGreatDoorP16
import Derived.Test.YtlojfgdpmaigmafGreatDoorP12
import Derived.Test.YtlojfgdpmaigmafGreatDoorP15
namespace Go.Proofs.YtlojfgdpmaigmafGreatDoor
open Go.RowKit Plain

def newRoot (root : Int) (more : List (Int × Int)) : Nd := ⟨false, [], more.map (·.1), root :: more.map (·.2), []⟩

def growN : Nat → List Nd → Int → List (Int × Int) → List Nd × Int
  | 0, ns, root, _ => (ns, root)
  | f + 1, ns, root, more =>
    if more = [] then (ns, root)
    else growN f (splitN (ns ++ [newRoot root more]) ns.length).1 ns.length (splitN (ns ++ [newRoot root more]) ns.length).2

/-- Nodes in a row, above all others. -/
structure RowOk (ns : List Nd) (h : Nat) (root : Int) (more : List (Int × Int)) : Prop where
  sub : ∃ Q, SubK (Sub 6 4 ns h) 0 (ups (root :: more.map (·.2)) (more.map (·.1)) 1099511627776) Q ∧ Q.Perm (placesF 0 ns.length)

theorem nth_last (ns : List Nd) (x : Nd) : nth (ns ++ [x]) (ns.length : Int) = x := by
  unfold nth
  simp

theorem splitN_more (ns : List Nd) (root : Int) (more : List (Int × Int)) : (splitN (ns ++ [newRoot root more]) ns.length).2.length = (more.length + 4) / 4 - 1 ∧ (splitN (ns ++ [newRoot root more]) ns.length).1.length = ns.length + (more.length + 4) / 4 := by
  unfold splitN
  rw [nth_last]
  have hs : sizeN (newRoot root more) = more.length + 1 := by simp [sizeN, newRoot]
  have hm : mostN (newRoot root more) = 4 := by simp [mostN, newRoot]
  have hp : partsN (newRoot root more) = (more.length + 4) / 4 := by
    rw [partsN, hs, hm]
    congr 1
  split
  · rename_i h
    rw [hs, hm] at h
    simp
    omega
  · rename_i h
    rw [hs, hm] at h
    have hc : (cutsN (newRoot root more)).length = (more.length + 4) / 4 := by unfold cutsN; rw [cutsF_length, hp]
    constructor
    · simp only [List.length_zip, keysL_length, hc, placesF_length, hp]
      omega
    · simp only [List.length_append, List.length_set, List.length_tail, partsL_length, hc, List.length_cons, List.length_nil]
      omega

theorem row_step {ns : List Nd} {h : Nat} {root : Int} {more : List (Int × Int)} (hr : RowOk ns h root more) (hm : more ≠ []) :
    RowOk (splitN (ns ++ [newRoot root more]) ns.length).1 (h + 1) ns.length (splitN (ns ++ [newRoot root more]) ns.length).2 ∧ ((splitN (ns ++ [newRoot root more]) ns.length).1.flatMap cont).Perm (ns.flatMap cont) := by
  obtain ⟨Q, hQ, hp⟩ := hr.sub
  have hml : 1 ≤ more.length := by cases more with | nil => exact absurd rfl hm | cons => simp
  have hkl : (more.map (·.1)).length + 1 = (root :: more.map (·.2)).length := by simp
  have hlt : (0 : Int) < 1099511627776 := by decide
  have hQ' : SubK (Sub 6 4 (ns ++ [newRoot root more]) h) 0 (ups (root :: more.map (·.2)) (more.map (·.1)) 1099511627776) Q :=
    SubK_imp hQ fun d lo hi Q1 a b => Sub_congr h d lo hi Q1 a fun n hn => by
      have hm := placesF_mem.1 (hp.mem_iff.1 (b n hn))
      exact ⟨nth_append_left (by omega) (by omega), by simp; omega⟩
  have htop : Top 0 (more.length + 1) (ns ++ [newRoot root more]) (h + 1) ns.length 0 1099511627776 ((ns.length : Int) :: Q) := by
    refine ⟨⟨by omega, by simp; omega, hlt⟩, Q, rfl, ?_⟩
    rw [nth_last]
    exact ⟨rfl, rfl, by simp [newRoot]; omega, by simp [newRoot], by simp [newRoot], by simp [newRoot], rfl, hQ'⟩
  have hpl : ((ns.length : Int) :: Q).Perm (placesF 0 (ns.length + 1)) := by
    rw [placesF_append]
    refine (hp.cons _).trans ?_
    show ((ns.length : Int) :: placesF 0 ns.length).Perm (placesF 0 ns.length ++ placesF (0 + ns.length) 1)
    rw [Nat.zero_add]
    exact (List.perm_append_comm (l₁ := [(ns.length : Int)]) (l₂ := placesF 0 ns.length))
  have hnd : ((ns.length : Int) :: Q).Nodup := hpl.nodup_iff.2 (placesF_nodup _ _)
  have hs := split_ok htop hnd
  obtain ⟨Q', h1, h2⟩ := hs.sub
  refine ⟨⟨Q', h1, h2.trans ?_⟩, hs.cont.trans ?_⟩
  · have hle := hs.le
    rw [show (splitN (ns ++ [newRoot root more]) ns.length).1.length = (ns.length + 1) + ((splitN (ns ++ [newRoot root more]) ns.length).1.length - (ns ++ [newRoot root more]).length) by simp at hle ⊢; omega, placesF_append]
    have e : (ns ++ [newRoot root more]).length = 0 + (ns.length + 1) := by simp
    rw [e]
    refine (hpl.append_right _).trans ?_
    exact List.Perm.of_eq (by congr 2; simp at hle; omega)
  · simp [cont, newRoot]

theorem grow_ok : ∀ (f : Nat) {ns : List Nd} {h : Nat} {root : Int} {more : List (Int × Int)}, more.length ≤ f → RowOk ns h root more →
    (∃ h' Q, Sub 6 4 (growN f ns root more).1 h' (growN f ns root more).2 0 1099511627776 Q ∧ Q.Perm (placesF 0 (growN f ns root more).1.length)) ∧ ((growN f ns root more).1.flatMap cont).Perm (ns.flatMap cont) ∧ (growN f ns root more).1.length ≤ ns.length + more.length := by
  intro f
  induction f with
  | zero =>
    intro ns h root more hf hr
    obtain rfl : more = [] := List.eq_nil_of_length_eq_zero (by omega)
    obtain ⟨Q, ⟨Q1, Q2, rfl, h1, h2⟩, hp⟩ := hr.sub
    cases h2
    rw [List.append_nil] at hp
    exact ⟨⟨h, Q1, h1, hp⟩, List.Perm.refl _, by simp [growN]⟩
  | succ f ih =>
    intro ns h root more hf hr
    unfold growN
    split
    · rename_i hm
      subst hm
      obtain ⟨Q, ⟨Q1, Q2, rfl, h1, h2⟩, hp⟩ := hr.sub
      cases h2
      rw [List.append_nil] at hp
      exact ⟨⟨h, Q1, h1, hp⟩, List.Perm.refl _, by simp⟩
    · rename_i hm
      have hml : 1 ≤ more.length := by cases more with | nil => exact absurd rfl hm | cons => simp
      obtain ⟨hr', hc⟩ := row_step hr hm
      obtain ⟨l1, l2⟩ := splitN_more ns root more
      obtain ⟨a, b, c⟩ := ih (by rw [l1]; omega) hr'
      exact ⟨a, b.trans hc, by rw [l1, l2] at c; omega⟩

/-! ### What Check tells of it -/

theorem two_pow_succ (h : Nat) : 2 ^ (h + 1) = 2 ^ h + 2 ^ h := by rw [Nat.pow_succ]; omega

theorem Sub_size {mL mK : Nat} {ns : List Nd} : ∀ (h : Nat) (d lo hi : Int) (P : List Int), Sub mL mK ns h d lo hi P → 2 ^ (h + 1) ≤ P.length + 1
  | 0, _, _, _, _, h => by rw [h.2.1]; simp
  | h + 1, d, lo, hi, P, hs => by
    obtain ⟨_, Q, rfl, hin⟩ := hs
    have ih := Sub_size (mL := mL) (mK := mK) (ns := ns) h
    obtain ⟨kids, keys, hk1, hk2⟩ : ∃ kids keys, kids = (nth ns d).kids ∧ keys = (nth ns d).keys := ⟨_, _, rfl, rfl⟩
    have h2 := hin.two
    have h3 := hin.keys
    have h4 := hin.kids
    rw [← hk1] at h2 h3 h4
    rw [← hk2] at h3 h4
    match kids, keys, h2, h3, h4 with
    | a :: b :: r, k :: ks, _, _, h4 =>
      rw [ups_cons] at h4
      obtain ⟨Q1, Q2, rfl, g1, g2⟩ := h4
      have i1 := ih _ _ _ _ g1
      have : ∃ u r', ups (b :: r) ks hi = (b, u) :: r' := by cases ks <;> exact ⟨_, _, rfl⟩
      obtain ⟨u, r', e⟩ := this
      rw [e] at g2
      obtain ⟨Q3, Q4, rfl, g3, _⟩ := g2
      have i2 := ih _ _ _ _ g3
      rw [two_pow_succ (h + 1)]
      simp only [List.length_cons, List.length_append]
      omega

/-- What W yields where all is as it must be. -/
def Yields (S : St) (dp : Int) (P : List Int) (r : Option (St × List Int)) : Prop := ∃ S' l, r = some (S', l) ∧ (S'.map (·.1)).Perm (P ++ S.map (·.1)) ∧ l ≠ [] ∧ ∀ x ∈ l, x = dp

theorem Wk_yields {g : Int → Int → Int → St → Option (St × List Int)} {G : Rel} {dp : Int} (hg : ∀ d lo hi P S, G d lo hi P → P.Nodup → (∀ n ∈ P, n ∉ S.map (·.1)) → Yields S dp P (g d lo hi S)) :
    ∀ (kids keys : List Int) (lo hi : Int) (Q : List Int) (S : St), keys.length + 1 = kids.length → SubK G lo (ups kids keys hi) Q → Q.Nodup → (∀ n ∈ Q, n ∉ S.map (·.1)) → Yields S dp Q (Wk g kids keys lo hi S)
  | [], _, _, _, _, _, h, _, _, _ => by simp at h
  | [d], keys, lo, hi, Q, S, hl, hs, hn, hd => by
    obtain rfl : keys = [] := List.eq_nil_of_length_eq_zero (by simpa using hl)
    obtain ⟨Q1, Q2, rfl, h1, h2⟩ := hs
    cases h2
    rw [List.append_nil] at hn hd ⊢
    obtain ⟨S', l, e, hp, hne, ha⟩ := hg d lo hi Q1 S h1 hn hd
    refine ⟨S', l, ?_, hp, hne, ha⟩
    simp [Wk, e]
  | d :: d' :: ds, keys, lo, hi, Q, S, hl, hs, hn, hd => by
    cases keys with
    | nil => simp at hl
    | cons k ks =>
      rw [ups_cons] at hs
      obtain ⟨Q1, Q2, rfl, h1, h2⟩ := hs
      rw [List.nodup_append] at hn
      obtain ⟨S1, l1, e1, hp1, hne1, ha1⟩ := hg d lo k Q1 S h1 hn.1 (fun n hn' => hd n (List.mem_append_left _ hn'))
      obtain ⟨S2, l2, e2, hp2, hne2, ha2⟩ := Wk_yields hg (d' :: ds) ks k hi Q2 S1 (by simpa using hl) h2 hn.2.1 (fun n hn' hm => by
        rcases List.mem_append.1 (hp1.mem_iff.1 hm) with hm | hm
        · exact hn.2.2 n hm n hn' rfl
        · exact hd n (List.mem_append_right _ hn') hm)
      refine ⟨S2, l1 ++ l2, ?_, ?_, by simp [hne1], fun x hx => ?_⟩
      · show (match g d lo k S with | none => none | some (S1, l1) => match Wk g (d' :: ds) ks k hi S1 with | none => none | some (S2, l2) => some (S2, l1 ++ l2)) = _
        rw [e1]
        simp only
        rw [e2]
      · refine hp2.trans ((hp1.append_left Q2).trans ?_)
        rw [List.append_assoc]
        exact List.perm_append_comm_assoc _ _ _
      · rcases List.mem_append.1 hx with hx | hx
        · exact ha1 x hx
        · exact ha2 x hx

theorem Sub_W {ns : List Nd} : ∀ (h f : Nat) (n lo hi : Int) (P : List Int) (S : St), Sub 6 4 ns h n lo hi P → h < f → P.Nodup → (∀ m ∈ P, m ∉ S.map (·.1)) → Yields S (13 - (f : Int) + h) P (W ns f n lo hi S) := by
  intro h
  induction h with
  | zero =>
    intro f n lo hi P S hs hf hn hd
    obtain ⟨⟨h0, h1, hlt⟩, rfl, hl⟩ := hs
    obtain ⟨f, rfl⟩ : ∃ g, f = g + 1 := ⟨f - 1, by omega⟩
    have hseen : seenB S n = false := by
      have := hd n (by simp)
      cases hb : seenB S n with
      | false => rfl
      | true => exact absurd (seenB_iff.1 hb) this
    have hlB : leafB (nth ns n) lo hi f = true := leafB_iff.2 ⟨hl.keys, hl.kids, hl.buf, hl.most, .inr hl.ne, hl.ents⟩
    refine ⟨(n, 12 - (f : Int)) :: S, [12 - (f : Int)], ?_, by simp, by simp, by simp; omega⟩
    rw [W_succ, if_neg (by simp [hseen]; omega)]
    show (if (nth ns n).leaf = true then _ else _) = _
    rw [if_pos hl.leaf]
    show (if leafB (nth ns n) lo hi f = true then _ else _) = _
    rw [if_pos hlB]
  | succ h ih =>
    intro f n lo hi P S hs hf hn hd
    obtain ⟨⟨h0, h1, hlt⟩, Q, rfl, hl⟩ := hs
    obtain ⟨f, rfl⟩ : ∃ g, f = g + 1 := ⟨f - 1, by omega⟩
    have hseen : seenB S n = false := by
      have := hd n (by simp)
      cases hb : seenB S n with
      | false => rfl
      | true => exact absurd (seenB_iff.1 hb) this
    have hiB : innerB (nth ns n) lo hi = true := by
      simp only [innerB, Bool.and_eq_true, decide_eq_true_eq, beq_iff_eq, List.isEmpty_iff]
      exact ⟨⟨⟨⟨⟨hl.ents, hl.two⟩, hl.most⟩, hl.keys⟩, hl.few⟩, hl.buf⟩
    rw [List.nodup_cons] at hn
    obtain ⟨S', l, e, hp, hne, ha⟩ := Wk_yields (dp := 13 - (f : Int) + h) (fun d lo hi P S a b c => ih f d lo hi P S a (by omega) b c) (nth ns n).kids (nth ns n).keys lo hi Q ((n, 12 - (f : Int)) :: S) hl.keys hl.kids hn.2 (fun m hm hm' => by
      rw [List.map_cons, List.mem_cons] at hm'
      rcases hm' with rfl | hm'
      · exact hn.1 hm
      · exact hd m (List.mem_cons_of_mem _ hm) hm')
    refine ⟨S', l, ?_, hp.trans ?_, hne, fun x hx => by rw [ha x hx]; push_cast; omega⟩
    · rw [W_succ, if_neg (by simp [hseen]; omega)]
      show (if (nth ns n).leaf = true then _ else if innerB (nth ns n) lo hi = true then _ else _) = _
      rw [if_neg (by simp [hl.leaf]), if_pos hiB]
      exact e
    · rw [List.map_cons]
      exact List.perm_middle

theorem placesF_len {Q : List Int} {N : Nat} (h : Q.Perm (placesF 0 N)) : Q.length = N := by rw [h.length_eq, placesF_length]

theorem Sub_treeC {ns : List Nd} {h : Nat} {root : Int} {Q : List Int} (hs : Sub 6 4 ns h root 0 1099511627776 Q) (hp : Q.Perm (placesF 0 ns.length)) (hz : ns.length ≤ 2000) : treeC ns root = 0 := by
  have hl := placesF_len hp
  have h1 := Sub_size h _ _ _ _ hs
  have hh : h < 12 := by
    apply Classical.byContradiction
    intro e
    have : 2 ^ 13 ≤ 2 ^ (h + 1) := Nat.pow_le_pow_right (by decide) (by omega)
    omega
  obtain ⟨S', l, e, hpm, hne, ha⟩ := Sub_W h 12 root 0 1099511627776 Q [] hs hh (hp.nodup_iff.2 (placesF_nodup _ _)) (by simp)
  unfold treeC
  rw [if_neg (by omega), e]
  simp only
  rw [if_pos]
  refine ⟨?_, ?_⟩
  · unfold okL
    rw [if_pos rfl, List.all_eq_true]
    intro x hx
    rw [beq_iff_eq, ha x hx]
    cases l with
    | nil => exact absurd rfl hne
    | cons y r => exact (ha y (by simp)).symm
  · have := hpm.length_eq
    simp at this
    omega

end Go.Proofs.YtlojfgdpmaigmafGreatDoor

/- Where an entry of a key stands, or would stand: the search by halves. -/
namespace Go.Proofs.YtlojfgdpmaigmafGreatDoor
open Go.RowKit Plain

theorem hideC {p : Prop} (h : p) : Hid p := h
theorem ret_ib {a b : Int} {c d : Bool} (h : a = b) (h' : c = d) : Ending.returned (.tuple #[.int .i64 a, .bool c]) = .returned (.tuple #[.int .i64 b, .bool d]) := by rw [h, h']

def cmpI (x y : Int) : Int := if x < y then -1 else if y < x then 1 else 0

theorem isNaN_any (x : Int) (w : World) : Calls Tryz.prog 172 #[.int .i64 x] w fun e w' => e = .returned (.bool false) ∧ w' = w := by
  go_enter Tryz.func172, Tryz.ntmps172
  go_wp2
  go_ret
  exact ⟨rfl, rfl⟩

set_option maxHeartbeats 400000 in
theorem compare_any (x y : Int) (w : World) : Calls Tryz.prog 146 #[.int .i64 x, .int .i64 y] w fun e w' => e = .returned (.int .i64 (cmpI x y)) ∧ w' = w := by
  rcases Int.lt_trichotomy x y with h | h | h
  · have e : cmpI x y = -1 := by simp [cmpI, h]
    have E : Hid (cmpI x y = -1) := e
    clear e
    go_enter Tryz.func146, Tryz.ntmps146
    go_wp2_with (go_at_call 172; refine (isNaN_any _ _).mono ?_; rintro e w' ⟨rfl, rfl⟩)
    go_ret
    exact ⟨ret_int E.out.symm, rfl⟩
  · subst h
    have E : Hid (cmpI x x = 0) := by show _ = _; simp [cmpI]
    have h1 : ¬ x < x := by omega
    go_enter Tryz.func146, Tryz.ntmps146
    go_wp2_with (go_at_call 172; refine (isNaN_any _ _).mono ?_; rintro e w' ⟨rfl, rfl⟩)
    go_ret
    exact ⟨ret_int E.out.symm, rfl⟩
  · have h1 : ¬ x < y := by omega
    have E : Hid (cmpI x y = 1) := by show _ = _; simp [cmpI, h, h1]
    go_enter Tryz.func146, Tryz.ntmps146
    go_wp2_with (go_at_call 172; refine (isNaN_any _ _).mono ?_; rintro e w' ⟨rfl, rfl⟩)
    go_ret
    exact ⟨ret_int E.out.symm, rfl⟩

set_option maxHeartbeats 400000 in
theorem find1_any (x : En) (k : Int) (w : World) : Calls Tryz.prog 178 #[.agg #[.int .i64 x.key, .int .i64 x.c, .int .i64 x.s, .int .i64 x.lo, .int .i64 x.hi, .int .i64 x.t, .int .i64 x.l], .int .i64 k] w
    fun e w' => e = .returned (.int .i64 (cmpI x.key k)) ∧ Below w.heap.size w w' := by
  have hcon := fun W' => compare_any x.key k W'
  generalize cmpI x.key k = r at hcon ⊢
  go_enter Tryz.func178, Tryz.ntmps178
  go_wp2_with (go_at_call 146; refine (hcon _).mono ?_; rintro e w' ⟨rfl, rfl⟩)
  go_ret
  exact ⟨rfl, (Below.refl _ _).alloc (Nat.le_refl _) _⟩

/-! ### The search, in plain terms -/

def hasK (l : List En) (k : Int) : Bool := l.any fun x => x.key == k

theorem entsB_lt {hi : Int} : ∀ {l : List En} {lo : Int}, entsB l lo hi = true → (∀ x ∈ l, lo ≤ x.key ∧ x.key < hi) ∧ l.Pairwise (fun x y => x.key < y.key)
  | [], _, _ => ⟨by simp, List.Pairwise.nil⟩
  | x :: r, lo, h => by
    simp only [entsB, Bool.and_eq_true] at h
    have h1 := h.1
    simp only [entB, Bool.and_eq_true, decide_eq_true_eq] at h1
    obtain ⟨a, b⟩ := entsB_lt h.2
    refine ⟨fun y hy => ?_, List.pairwise_cons.2 ⟨fun y hy => ?_, b⟩⟩
    · rcases List.mem_cons.1 hy with rfl | hy
      · exact ⟨h1.1.1.1, h1.1.1.2⟩
      · have := a y hy; omega
    · have := a y hy; omega

theorem lowN_is {l : List En} {k : Int} {i : Nat} (hi : i ≤ l.length) (h1 : ∀ j (h : j < l.length), j < i → l[j].key < k) (h2 : ∀ j (h : j < l.length), i ≤ j → k ≤ l[j].key) : lowN l k = i := by
  induction l generalizing i with
  | nil => simp at hi; subst hi; rfl
  | cons x r ih =>
    cases i with
    | zero =>
      have := h2 0 (by simp) (Nat.le_refl _)
      simp at this
      simp [lowN, show ¬ x.key < k by omega]
    | succ i =>
      have hx := h1 0 (by simp) (by omega)
      simp at hx
      have e : lowN (x :: r) k = lowN r k + 1 := by simp [lowN, hx]
      rw [e, ih (i := i) (by simpa using hi) (fun j hj hji => by
        have := h1 (j + 1) (by simpa using hj) (by omega)
        simpa using this) (fun j hj hij => by
        have := h2 (j + 1) (by simpa using hj) (by omega)
        simpa using this)]

theorem hasK_is {l : List En} {k : Int} (hp : l.Pairwise (fun x y => x.key < y.key)) {i : Nat} (h1 : ∀ j (h : j < l.length), j < i → l[j].key < k) : hasK l k = (if h : i < l.length then decide (l[i].key = k) else false) ∨ ¬ (∀ j (h : j < l.length), i ≤ j → k ≤ l[j].key) := by
  by_cases h2 : ∀ j (h : j < l.length), i ≤ j → k ≤ l[j].key
  · left
    rw [Bool.eq_iff_iff]
    unfold hasK
    rw [List.any_eq_true]
    constructor
    · rintro ⟨x, hx, hk⟩
      obtain ⟨j, hj, rfl⟩ := List.getElem_of_mem hx
      have hk' : l[j].key = k := by simpa using hk
      by_cases hji : j < i
      · have := h1 j hj hji; omega
      · by_cases hij : i = j
        · subst hij; simp [hj, hk']
        · have hi : i < l.length := by omega
          have a := h2 i hi (Nat.le_refl _)
          have b := List.pairwise_iff_getElem.1 hp i j hi hj (by omega)
          omega
    · intro h
      split at h
      · rename_i hi
        exact ⟨l[i], List.getElem_mem hi, by simpa using h⟩
      · cases h
  · right; exact h2

set_option maxRecDepth 20000 in
set_option maxHeartbeats 1000000 in
theorem search_any (A : Option Addr) (C : Nat) (xs : List En) (k : Int) (w : World) (h : RowAt w.heap.size w A (flatE xs)) (hz : xs.length * 56 ≤ 140737488351232) (hp : xs.Pairwise (fun x y => x.key < y.key)) :
    Calls Tryz.prog 177 #[.slice A xs.length C, .int .i64 k, .func (.func 178) #[] #[]] w
      fun e w' => e = .returned (.tuple #[.int .i64 (lowN xs k : Int), .bool (hasK xs k)]) ∧ Below w.heap.size w w' := by
  go_enter Tryz.func177, Tryz.ntmps177
  go_wp2_with fail
  go_loopw [9, 10] (fun vi vj wr => ∃ i j : Nat, i ≤ j ∧ j ≤ xs.length ∧ vi = .int .i64 i ∧ vj = .int .i64 j ∧ Hid ((∀ a (h : a < xs.length), a < i → xs[a].key < k) ∧ (∀ a (h : a < xs.length), j ≤ a → k ≤ xs[a].key)) ∧ Below w.heap.size w wr) (fun vi vj _ => (intOf vj).toNat - (intOf vi).toNat)
  case atStart => exact ⟨0, xs.length, Nat.zero_le _, Nat.le_refl _, rfl, rfl, ⟨fun a _ h => by omega, fun a h1 h2 => by omega⟩, Below.refl _ _⟩
  case round =>
    obtain ⟨i, j, hij, hjn, rfl, rfl, hI, hb⟩ := hrel
    by_cases hlt : i < j
    · obtain ⟨m, hm⟩ : ∃ m : Nat, m = (i + j) / 2 := ⟨_, rfl⟩
      have hmj : m < j := by omega
      have hmi : i ≤ m := by omega
      have hm2 : ((i : Int) + (j : Int)) / 2 = (m : Int) := by omega
      have HM : Hid (m = (i + j) / 2) := hm
      clear hm
      obtain ⟨b, o, rfl, hbl, hat⟩ := (h.below hb (Nat.le_refl _)).en (show m < xs.length by omega)
      have hbw : b < wr.heap.size := Nat.lt_of_lt_of_le hbl hb.size
      obtain ⟨x, hx⟩ : ∃ x, xs[m]'(by omega) = x := ⟨_, rfl⟩
      rw [hx] at hat
      obtain ⟨c0, c1, c2, c3, c4, c5, c6⟩ := hat
      have hcon := fun W => find1_any x k W
      have HX : Hid (xs[m]'(by omega) = x) := hx
      clear hx
      by_cases hk : x.key < k
      · have hr : cmpI x.key k < 0 := by unfold cmpI; rw [if_pos hk]; decide
        generalize cmpI x.key k = r at hcon hr
        have HC : Hid _ := hcon
        clear hcon
        go_wp2_with (go_at_call 178; refine (HC.out _).mono ?_; rintro e w1 ⟨rfl, hb1⟩)
        go_roundw
        case rel =>
          refine ⟨m + 1, j, by omega, hjn, by go_num, rfl, ⟨fun a ha hai => ?_, hI.out.2⟩, up hb hb1⟩
          have hxm := HX.out
          by_cases e : a = m
          · subst e; rw [hxm]; exact hk
          · have := List.pairwise_iff_getElem.1 hp a m ha (by omega) (by omega)
            rw [hxm] at this
            omega
        case measure => simp [intOf]; omega
      · have hr : ¬ cmpI x.key k < 0 := by unfold cmpI; rw [if_neg hk]; split <;> decide
        generalize cmpI x.key k = r at hcon hr
        have HC : Hid _ := hcon
        clear hcon
        go_wp2_with (go_at_call 178; refine (HC.out _).mono ?_; rintro e w1 ⟨rfl, hb1⟩)
        go_roundw
        case rel =>
          refine ⟨i, m, by omega, by omega, rfl, by go_num, ⟨hI.out.1, fun a ha hai => ?_⟩, up hb hb1⟩
          have hxm := HX.out
          by_cases e : a = m
          · subst e; rw [hxm]; omega
          · have := List.pairwise_iff_getElem.1 hp m a (by omega) ha (by omega)
            rw [hxm] at this
            omega
        case measure => simp [intOf]; omega
    · obtain rfl : i = j := by omega
      have E1 : Hid (lowN xs k = i) := lowN_is hjn hI.out.1 hI.out.2
      have E2 : Hid (hasK xs k = (if h : i < xs.length then decide (xs[i].key = k) else false)) := by
        rcases hasK_is hp hI.out.1 with e | e
        · exact e
        · exact absurd hI.out.2 e
      by_cases hin : i < xs.length
      · obtain ⟨b, o, rfl, hbl, hat⟩ := (h.below hb (Nat.le_refl _)).en hin
        have hbw : b < wr.heap.size := Nat.lt_of_lt_of_le hbl hb.size
        obtain ⟨x, hx⟩ : ∃ x, xs[i] = x := ⟨_, rfl⟩
        rw [hx] at hat
        obtain ⟨c0, c1, c2, c3, c4, c5, c6⟩ := hat
        have hcon := fun W => find1_any x k W
        have E3 : Hid (hasK xs k = decide (x.key = k)) := by
          show _ = _
          rw [E2.out, dif_pos hin, hx]
        clear hx E2
        have hr : (cmpI x.key k == 0) = decide (x.key = k) := by
          rw [Bool.eq_iff_iff, decide_eq_true_eq, beq_iff_eq]
          unfold cmpI
          split
          · omega
          · split <;> omega
        generalize cmpI x.key k = r at hcon hr
        generalize decide (x.key = k) = q at hr E3
        have HC : Hid _ := hcon
        clear hcon
        go_wp2_with (go_at_call 178; refine (HC.out _).mono ?_; rintro e w1 ⟨rfl, hb1⟩)
        go_ret2
        exact ⟨ret_ib (by rw [E1.out]) E3.out.symm, up hb hb1⟩
      · have hin' : ¬ ((i : Int) < (xs.length : Int)) := by omega
        go_wp2_with fail
        go_ret2
        exact ⟨ret_ib (by rw [E1.out]) (by rw [E2.out, dif_neg hin]), hb⟩

set_option maxHeartbeats 400000 in
theorem find_any (A : Option Addr) (C : Nat) (xs : List En) (k : Int) (w : World) (h : RowAt w.heap.size w A (flatE xs)) (hz : xs.length * 56 ≤ 140737488351232) (hp : xs.Pairwise (fun x y => x.key < y.key)) :
    Calls Tryz.prog 160 #[.slice A xs.length C, .int .i64 k] w fun e w' => e = .returned (.tuple #[.int .i64 (lowN xs k : Int), .bool (hasK xs k)]) ∧ Below w.heap.size w w' := by
  have hcon := search_any A C xs k w h hz hp
  generalize lowN xs k = r at hcon ⊢
  generalize hasK xs k = q at hcon ⊢
  have HC := hideC hcon
  clear hcon
  go_enter Tryz.func160, Tryz.ntmps160
  go_wp2_with (go_at_call 177; refine HC.out.mono ?_; rintro e w1 ⟨rfl, hb1⟩)
  go_ret2
  exact ⟨rfl, hb1⟩

end Go.Proofs.YtlojfgdpmaigmafGreatDoor

/- The document's WithEntry: entries with one more. -/
import Derived.Test.YtlojfgdpmaigmaeGreatDoorP16
import Derived.Test.YtlojfgdpmaigmaeGreatDoorP14
import Derived.Test.YtlojfgdpmaigmaeGreatDoorP19
import Derived.Deep.DeepCutAuto
namespace Go.Proofs.YtlojfgdpmaigmaeGreatDoor
open Go.RowKit Plain

theorem ins_app {x : En} : ∀ {l : List En} (r : List En), (∀ y ∈ l, y.key < x.key) → ins (l ++ r) x = (ins r x).map (l ++ ·)
  | [], r, _ => by rw [List.nil_append]; cases ins r x <;> rfl
  | y :: l, r, h => by
    rw [List.cons_append, ins_gt (h y List.mem_cons_self), ins_app r (fun z hz => h z (List.mem_cons_of_mem _ hz))]
    cases ins r x <;> rfl

theorem news1 (w : World) (x : En) : ∀ j u, x.vals[j]? = some u → (w.alloc (.cells x.vals.toArray 73)).cell? ((⟨w.heap.size, 0, none⟩ : Addr).add j) = some u := by
  intro j u hu
  rw [WideShapes.add_plain, Nat.zero_add, (rowL_alloc w x.vals 73).cell]
  exact hu

theorem vals_one (x : En) : ∀ u ∈ x.vals, u.oneCell' = true := by
  have := flatE_one [x]
  simpa [flatE] using this

theorem flatE_snoc (l : List En) (x : En) : flatE l ++ x.vals = flatE (l ++ [x]) := by rw [flatE_append]; simp [flatE]

theorem app_below {B : Nat} {W wd w1 : World} {v : Value} {out : List En} {o : Obj} (hown : wd.ownsRow B 73 7 v out.length (flatE out)) (hb : Below B W wd) (hB : B ≤ wd.heap.size) (hg : (wd.alloc o).grownBy w1 v.ownBlock) : Below B W w1 ∧ B ≤ w1.heap.size := by
  have hs := hg.size
  simp at hs
  exact ⟨(hb.alloc hB o).grown hg (by simp; omega) (fun k hk => (hown.lt k hk).1), by omega⟩

theorem app_own {B : Nat} {w1 : World} {v : Value} {out : List En} {y : En} (h : w1.ownsRow B 73 7 v (out.length + 1) (flatE out ++ y.vals)) : w1.ownsRow B 73 7 v (out ++ [y]).length (flatE (out ++ [y])) := by
  rw [flatE_snoc] at h
  simpa using h

theorem alloc_rule {W w3 : World} {c : Array Value} {t : TypeId} {n : Nat} (hb : Below (W.alloc (.cells c t)).heap.size (W.alloc (.cells c t)) w3) (hn : W.heap.size = n) :
    w3.cell? ⟨n, 0, none⟩ = c[0]? ∧ w3.cell? ⟨n, 1, none⟩ = c[1]? ∧ w3.cell? ⟨n, 2, none⟩ = c[2]? ∧ w3.cell? ⟨n, 3, none⟩ = c[3]? ∧ w3.cell? ⟨n, 4, none⟩ = c[4]? ∧ w3.cell? ⟨n, 5, none⟩ = c[5]? ∧ ∀ j, w3.frozen? ⟨n, j, none⟩ = false := by
  subst hn
  have g : ∀ j, w3.cell? ⟨W.heap.size, j, none⟩ = c[j]? := fun j => (hb.cell (p := ⟨W.heap.size, j, none⟩) (by simp)).trans (by simp)
  exact ⟨g 0, g 1, g 2, g 3, g 4, g 5, fun j => (hb.frozen (p := ⟨W.heap.size, j, none⟩) (by simp)).trans (by simp)⟩

end Go.Proofs.YtlojfgdpmaigmaeGreatDoor

/- What comes of a list of entries whose keys do not fall, gone through once; and what a tree's walk hands to it. -/
namespace Go.Proofs.YtlojfgdpmaigmaeGreatDoor
open Go.RowKit Plain

theorem ins_end {x : En} {l : List En} (h : ∀ z ∈ l, z.key < x.key) : ins l x = some (l ++ [x]) := by
  have := ins_app (x := x) [] h
  simpa [ins] using this

theorem ins_last {x y : En} {l : List En} (h : ∀ z ∈ l, z.key < x.key) (hy : y.key = x.key) : ins (l ++ [y]) x = if y.c + x.c ≤ 1073741824 then some (l ++ [mkE x.key (jn y.ru x.ru)]) else none := by
  rw [ins_app _ h, ins_eq hy]
  split <;> simp

/-- What is out so far, of the first i of xs. -/
structure Brg (xs : List En) (i : Nat) (out : List En) : Prop where
  is : allL (xs.take i) = some out
  inc : out.Pairwise fun a b => a.key < b.key
  up : ∀ z ∈ out, ∀ x ∈ xs.drop i, z.key ≤ x.key
  good : ∀ z ∈ out, Good z.ru
  len : out.length ≤ i

theorem brg_start (xs : List En) : Brg xs 0 [] := ⟨by simp [allL], by simp, by simp, by simp, by simp⟩

theorem drop_mem {xs : List En} {i : Nat} {x : En} (h : x ∈ xs.drop (i + 1)) : x ∈ xs.drop i := by
  have : xs.drop (i + 1) = (xs.drop i).drop 1 := by rw [List.drop_drop]
  rw [this] at h
  exact List.mem_of_mem_drop h

theorem take_step {xs : List En} {i : Nat} (hi : i < xs.length) : allL (xs.take (i + 1)) = insO (allL (xs.take i)) xs[i] := by
  rw [List.take_succ_eq_append_getElem hi, allL_snoc]

theorem sorted_drop {xs : List En} (hs : xs.Pairwise fun a b => a.key ≤ b.key) {i : Nat} (hi : i < xs.length) : ∀ x ∈ xs.drop (i + 1), xs[i].key ≤ x.key := by
  intro x hx
  obtain ⟨j, hj, rfl⟩ := List.getElem_of_mem hx
  rw [List.getElem_drop]
  exact List.pairwise_iff_getElem.1 hs i (i + 1 + j) hi _ (by omega)

/-- The next one has a key of its own. -/
theorem brg_new {xs : List En} {i : Nat} {out : List En} (hs : xs.Pairwise fun a b => a.key ≤ b.key) (h : Brg xs i out) (hi : i < xs.length) (hg : Good xs[i].ru) (hn : ∀ l y, out = l ++ [y] → y.key ≠ xs[i].key) : Brg xs (i + 1) (out ++ [xs[i]]) := by
  have mem : xs[i] ∈ xs.drop i := by rw [List.drop_eq_getElem_cons hi]; exact List.mem_cons_self
  have low : ∀ z ∈ out, z.key < xs[i].key := by
    intro z hz
    rcases List.eq_nil_or_concat out with rfl | ⟨l, y, rfl⟩
    · simp at hz
    · have hy := h.up y (by simp) _ mem
      have hne := hn l y (by simp)
      rcases List.mem_append.1 (by simpa using hz : z ∈ l ++ [y]) with hz | hz
      · have := (List.pairwise_append.1 (by simpa using h.inc : (l ++ [y]).Pairwise _)).2.2 z hz y (by simp)
        omega
      · have : z = y := by simpa using hz
        subst this
        omega
  refine ⟨?_, ?_, ?_, ?_, ?_⟩
  · rw [take_step hi, h.is]
    exact ins_end low
  · rw [List.pairwise_append]
    exact ⟨h.inc, by simp, fun a ha b hb => by have : b = xs[i] := by simpa using hb
                                               subst this; exact low a ha⟩
  · intro z hz x hx
    rcases List.mem_append.1 hz with hz | hz
    · exact h.up z hz x (drop_mem hx)
    · have : z = xs[i] := by simpa using hz
      subst this
      exact sorted_drop hs hi x hx
  · intro z hz
    rcases List.mem_append.1 hz with hz | hz
    · exact h.good z hz
    · have : z = xs[i] := by simpa using hz
      subst this
      exact hg
  · have := h.len
    simp
    omega

/-- The next one has the last one's key. -/
theorem brg_same {xs : List En} {i : Nat} {l : List En} {y : En} (hs : xs.Pairwise fun a b => a.key ≤ b.key) (h : Brg xs i (l ++ [y])) (hi : i < xs.length) (hg : Good xs[i].ru) (hy : y.key = xs[i].key) :
    mrg y.ru xs[i].ru = (if y.c + xs[i].c ≤ 1073741824 then (jn y.ru xs[i].ru, 0) else (zro, 1)) ∧
    (y.c + xs[i].c ≤ 1073741824 → Brg xs (i + 1) (l ++ [mkE xs[i].key (jn y.ru xs[i].ru)])) ∧ (¬ y.c + xs[i].c ≤ 1073741824 → allL xs = none) := by
  have low : ∀ z ∈ l, z.key < xs[i].key := fun z hz => by
    have := (List.pairwise_append.1 h.inc).2.2 z hz y (by simp)
    omega
  have st : allL (xs.take (i + 1)) = if y.c + xs[i].c ≤ 1073741824 then some (l ++ [mkE xs[i].key (jn y.ru xs[i].ru)]) else none := by
    rw [take_step hi, h.is]
    exact ins_last low hy
  have gy := h.good y (by simp)
  refine ⟨mrg_good gy hg, fun hc => ?_, fun hc => ?_⟩
  · rw [if_pos hc] at st
    refine ⟨st, ?_, ?_, ?_, ?_⟩
    · rw [List.pairwise_append]
      exact ⟨(List.pairwise_append.1 h.inc).1, by simp, fun a ha b hb => by have : b = mkE xs[i].key (jn y.ru xs[i].ru) := by simpa using hb
                                                                            subst this; exact low a ha⟩
    · intro z hz x hx
      rcases List.mem_append.1 hz with hz | hz
      · exact h.up z (by simp [hz]) x (drop_mem hx)
      · have : z = mkE xs[i].key (jn y.ru xs[i].ru) := by simpa using hz
        subst this
        exact sorted_drop hs hi x hx
    · intro z hz
      rcases List.mem_append.1 hz with hz | hz
      · exact h.good z (by simp [hz])
      · have : z = mkE xs[i].key (jn y.ru xs[i].ru) := by simpa using hz
        subst this
        exact good_jn gy hg hc
    · have := h.len
      simp only [List.length_append, List.length_cons, List.length_nil] at this ⊢
      omega
  · rw [if_neg hc] at st
    have e : xs = xs.take (i + 1) ++ xs.drop (i + 1) := (List.take_append_drop _ _).symm
    rw [e]
    unfold allL at st ⊢
    rw [List.foldl_append, st]
    exact fold_none _

theorem brg_end {xs out : List En} (h : Brg xs xs.length out) : allL xs = some out := by
  have := h.is
  rwa [List.take_length] at this

theorem own_some {w : World} {base : Nat} {e : TypeId} {size n k : Nat} {v : Value} {vs : List Value} (h : w.ownsRow base e size v n vs) (hk : v.ownBlock = some k) : base ≤ k ∧ k < w.heap.size := by
  rcases h.2 with ⟨rfl, _⟩ | ⟨g, cap, cur, rfl, hb, hg, _⟩
  · cases hk
  · have : g = k := by simpa [Value.ownBlock] using hk
    subst this
    exact ⟨hb, (Array.getElem?_eq_some_iff.1 hg).1⟩

theorem news2 (w : World) (o : Obj) (x : En) : ∀ j u, x.vals[j]? = some u → ((w.alloc o).alloc (.cells x.vals.toArray 73)).cell? ((⟨w.heap.size + 1, 0, none⟩ : Addr).add j) = some u := by
  have := news1 (w.alloc o) x
  simpa using this

end Go.Proofs.YtlojfgdpmaigmaeGreatDoor

/- What comes together of some keys is what of all that comes together has them. -/
namespace Go.Proofs.YtlojfgdpmaigmaeGreatDoor
open Go.RowKit Plain

theorem ins_inc {x : En} : ∀ {l r : List En}, (l.Pairwise fun a b => a.key < b.key) → ins l x = some r → (r.Pairwise fun a b => a.key < b.key) ∧ ∀ z ∈ r, z.key = x.key ∨ ∃ y ∈ l, y.key = z.key
  | [], r, _, h => by
    cases h
    exact ⟨by simp, by simp⟩
  | y :: l, r, hp, h => by
    obtain ⟨h1, h2⟩ := List.pairwise_cons.1 hp
    rcases Int.lt_trichotomy x.key y.key with hk | hk | hk
    · rw [ins_lt hk] at h
      cases h
      refine ⟨List.pairwise_cons.2 ⟨fun z hz => ?_, hp⟩, fun z hz => ?_⟩
      · rcases List.mem_cons.1 hz with rfl | hz
        · exact hk
        · have := h1 z hz
          omega
      · rcases List.mem_cons.1 hz with rfl | hz
        · exact .inl rfl
        · exact .inr ⟨z, hz, rfl⟩
    · rw [ins_eq hk.symm] at h
      split at h
      · cases h
        refine ⟨List.pairwise_cons.2 ⟨fun z hz => ?_, h2⟩, fun z hz => ?_⟩
        · rw [mkE_key, hk]
          exact h1 z hz
        · rcases List.mem_cons.1 hz with rfl | hz
          · exact .inl rfl
          · exact .inr ⟨z, List.mem_cons_of_mem _ hz, rfl⟩
      · cases h
    · rw [ins_gt hk] at h
      cases hi : ins l x with
      | none => rw [hi] at h; cases h
      | some r' =>
        rw [hi] at h
        cases h
        obtain ⟨q1, q2⟩ := ins_inc h2 hi
        refine ⟨List.pairwise_cons.2 ⟨fun z hz => ?_, q1⟩, fun z hz => ?_⟩
        · rcases q2 z hz with e | ⟨u, hu, e⟩
          · omega
          · have := h1 u hu
            omega
        · rcases List.mem_cons.1 hz with rfl | hz
          · exact .inr ⟨z, List.mem_cons_self, rfl⟩
          · rcases q2 z hz with e | ⟨u, hu, e⟩
            · exact .inl e
            · exact .inr ⟨u, List.mem_cons_of_mem _ hu, e⟩

theorem ins_below {x : En} : ∀ {l : List En}, (∀ z ∈ l, x.key < z.key) → ins l x = some (x :: l)
  | [], _ => rfl
  | y :: _, h => ins_lt (h y List.mem_cons_self)

theorem ins_filter {P : Int → Bool} {x : En} : ∀ {o o' : List En}, (o.Pairwise fun a b => a.key < b.key) → ins o x = some o' →
    (P x.key = true → ins (o.filter fun z => P z.key) x = some (o'.filter fun z => P z.key)) ∧ (P x.key = false → (o'.filter fun z => P z.key) = o.filter fun z => P z.key)
  | [], o', _, h => by
    cases h
    exact ⟨fun hp => by simp [ins, hp], fun hp => by simp [hp]⟩
  | y :: r, o', hs, h => by
    obtain ⟨h1, h2⟩ := List.pairwise_cons.1 hs
    rcases Int.lt_trichotomy x.key y.key with hk | hk | hk
    · rw [ins_lt hk] at h
      cases h
      refine ⟨fun hp => ?_, fun hp => by rw [List.filter_cons_of_neg (by simp [hp])]⟩
      rw [List.filter_cons_of_pos (a := x) (by simpa using hp)]
      refine ins_below fun z hz => ?_
      rcases List.mem_cons.1 (List.mem_filter.1 hz).1 with rfl | hz
      · exact hk
      · have := h1 z hz
        omega
    · rw [ins_eq hk.symm] at h
      split at h
      · rename_i hc
        cases h
        refine ⟨fun hp => ?_, fun hp => ?_⟩
        · rw [List.filter_cons_of_pos (by rw [← hk]; exact hp), List.filter_cons_of_pos (by exact hp), ins_eq hk.symm, if_pos hc]
        · rw [List.filter_cons_of_neg (by rw [mkE_key, hp]; simp), List.filter_cons_of_neg (by rw [← hk, hp]; simp)]
      · cases h
    · rw [ins_gt hk] at h
      cases hi : ins r x with
      | none => rw [hi] at h; cases h
      | some r' =>
        rw [hi] at h
        cases h
        obtain ⟨q1, q2⟩ := ins_filter (P := P) h2 hi
        refine ⟨fun hp => ?_, fun hp => ?_⟩
        · by_cases hy : P y.key = true
          · rw [List.filter_cons_of_pos (by exact hy), List.filter_cons_of_pos (by exact hy), ins_gt hk, q1 hp]
            rfl
          · rw [List.filter_cons_of_neg (by exact hy), List.filter_cons_of_neg (by exact hy), q1 hp]
        · by_cases hy : P y.key = true
          · rw [List.filter_cons_of_pos (by exact hy), List.filter_cons_of_pos (by exact hy), q2 hp]
          · rw [List.filter_cons_of_neg (by exact hy), List.filter_cons_of_neg (by exact hy), q2 hp]

theorem allL_filter {P : Int → Bool} : ∀ (xs o r : List En), (o.Pairwise fun a b => a.key < b.key) → xs.foldl insO (some o) = some r → (xs.filter fun z => P z.key).foldl insO (some (o.filter fun z => P z.key)) = some (r.filter fun z => P z.key)
  | [], o, r, _, h => by
    cases h
    simp
  | x :: xs, o, r, hs, h => by
    rw [List.foldl_cons] at h
    cases hi : insO (some o) x with
    | none => rw [hi, fold_none] at h; cases h
    | some o' =>
      rw [hi] at h
      have hi' : ins o x = some o' := hi
      have ih := allL_filter (P := P) xs o' r (ins_inc hs hi').1 h
      obtain ⟨q1, q2⟩ := ins_filter (P := P) hs hi'
      by_cases hp : P x.key = true
      · rw [List.filter_cons_of_pos (by exact hp), List.foldl_cons, show insO (some (o.filter fun z => P z.key)) x = ins (o.filter fun z => P z.key) x from rfl, q1 hp]
        exact ih
      · rw [List.filter_cons_of_neg (by exact hp), ← q2 (by simpa using hp)]
        exact ih

end Go.Proofs.YtlojfgdpmaigmaeGreatDoor

/- How many points entries are of, together: in plain terms. -/
namespace Go.Proofs.YtlojfgdpmaigmaeGreatDoor
open Go.RowKit Plain

def sumC : List En → Int
  | [] => 0
  | y :: r => y.c + sumC r

theorem sumC_nn : ∀ {l : List En}, Pos l → 0 ≤ sumC l
  | [], _ => Int.le_refl _
  | y :: r, h => by
    have h1 := h y List.mem_cons_self
    have h2 := sumC_nn (l := r) fun z hz => h z (List.mem_cons_of_mem _ hz)
    simp only [sumC]
    omega

theorem sumC_len : ∀ {l : List En}, Pos l → (l.length : Int) ≤ sumC l
  | [], _ => Int.le_refl _
  | y :: r, h => by
    have h1 := h y List.mem_cons_self
    have h2 := sumC_len (l := r) fun z hz => h z (List.mem_cons_of_mem _ hz)
    simp only [sumC, List.length_cons]
    omega

theorem cntK_sum {k : Int} : ∀ {l : List En}, Pos l → cntK k l ≤ sumC l
  | [], _ => Int.le_refl _
  | y :: r, h => by
    have h1 := h y List.mem_cons_self
    have h2 := cntK_sum (k := k) (l := r) fun z hz => h z (List.mem_cons_of_mem _ hz)
    simp only [sumC, cntK]
    split <;> omega

theorem ins_sum {x : En} : ∀ {l r : List En}, ins l x = some r → sumC r = sumC l + x.c
  | [], r, h => by
    cases h
    simp [sumC]
  | y :: l, r, h => by
    rcases Int.lt_trichotomy x.key y.key with hk | hk | hk
    · rw [ins_lt hk] at h
      cases h
      simp only [sumC]
      omega
    · rw [ins_eq hk.symm] at h
      split at h
      · cases h
        have e : (mkE x.key (jn y.ru x.ru)).c = y.c + x.c := rfl
        simp only [sumC, e]
        omega
      · cases h
    · rw [ins_gt hk] at h
      cases hi : ins l x with
      | none => rw [hi] at h; cases h
      | some q =>
        rw [hi] at h
        cases h
        have := ins_sum hi
        simp only [sumC]
        omega

theorem fold_sum : ∀ (xs o r : List En), xs.foldl insO (some o) = some r → sumC r = sumC o + sumC xs
  | [], o, r, h => by
    cases h
    simp [sumC]
  | x :: xs, o, r, h => by
    rw [List.foldl_cons] at h
    cases hi : insO (some o) x with
    | none => rw [hi, fold_none] at h; cases h
    | some q =>
      rw [hi] at h
      have h1 := ins_sum (show ins o x = some q from hi)
      have h2 := fold_sum xs q r h
      simp only [sumC]
      omega

theorem all_sum {xs r : List En} (h : allL xs = some r) : sumC r = sumC xs := by
  have := fold_sum xs [] r h
  simpa [sumC] using this

end Go.Proofs.YtlojfgdpmaigmaeGreatDoor

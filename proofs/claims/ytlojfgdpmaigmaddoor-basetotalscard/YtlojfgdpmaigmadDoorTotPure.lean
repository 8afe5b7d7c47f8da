/- A total: what all entries of a series come to, whichever buckets are asked. In plain terms. -/
import Derived.Test.YtlojfgdpmaigmadDoorP19
import Derived.Test.YtlojfgdpmaigmadDoorP27
import Derived.Test.YtlojfgdpmaigmadDoorP22
import Derived.Test.YtlojfgdpmaigmadDoorP33
namespace Go.Proofs.YtlojfgdpmaigmadDoor
open Go.RowKit Plain

/-- The key left out. -/
def z0 (x : En) : En := { x with key := 0 }
def tot (l : List En) : Ru × Int := l.foldl stepK (zro, 0)

theorem z0_ru (x : En) : (z0 x).ru = x.ru := rfl

theorem tot_z0 (l : List En) (s : Ru × Int) : (l.map z0).foldl stepK s = l.foldl stepK s := by
  induction l generalizing s with
  | nil => rfl
  | cons x r ih => exact ih _

theorem tot_ans {l : List En} (hg : ∀ y ∈ l, Good y.ru) : tot l = ansO (allL (l.map z0)) := by
  have h := relO_fold (key := 0) (l.map z0) (some []) (zro, 0) (.inl ⟨rfl, rfl⟩) (fun x hx => by
    obtain ⟨y, hy, rfl⟩ := List.mem_map.1 hx
    exact ⟨rfl, hg y hy⟩)
  rw [tot_z0] at h
  exact (relO_ans h).symm

theorem tot_eq {l m : List En} (hl : ∀ y ∈ l, Good y.ru) (hm : ∀ y ∈ m, Good y.ru) (h : Eqv (l.map z0) (m.map z0)) : tot l = tot m := by
  rw [tot_ans hl, tot_ans hm, h.eq]

theorem pos_good {l : List En} (h : ∀ y ∈ l, Good y.ru) : Pos l := fun y hy => (good_iff.1 (h y hy)).1.1
theorem pos_z0 {l : List En} (h : Pos l) : Pos (l.map z0) := fun y hy => by
  obtain ⟨x, hx, rfl⟩ := List.mem_map.1 hy
  exact h x hx

theorem z_ins {x : En} (hx : Good x.ru) : ∀ {o o' : List En}, (∀ y ∈ o, Good y.ru) → ins o x = some o' → Eqv ((o ++ [x]).map z0) (o'.map z0)
  | [], o', _, h => by
    cases h
    exact Eqv.refl (pos_z0 (pos_good (by simpa using hx)))
  | y :: r, o', hg, h => by
    have hy := hg y List.mem_cons_self
    have hr : ∀ z ∈ r, Good z.ru := fun z hz => hg z (List.mem_cons_of_mem _ hz)
    have hall : ∀ z ∈ (y :: r) ++ [x], Good z.ru := fun z hz => by
      rcases List.mem_append.1 hz with hz | hz
      · exact hg z hz
      · obtain rfl : z = x := by simpa using hz
        exact hx
    rcases Int.lt_trichotomy x.key y.key with hk | hk | hk
    · rw [ins_lt hk] at h
      cases h
      exact Eqv.of_perm ((List.perm_append_comm (l₁ := y :: r) (l₂ := [x])).map z0) (pos_z0 (pos_good hall))
    · rw [ins_eq hk.symm] at h
      split at h
      · rename_i hc
        cases h
        have hj := Eqv.join (x := z0 x) (y := z0 y) rfl hx hy hc
        have p1 : (((y :: r) ++ [x]).map z0).Perm ([z0 y, z0 x] ++ r.map z0) := by
          rw [List.map_append, List.map_cons]
          exact (List.perm_append_comm (l₁ := r.map z0) (l₂ := [z0 x])).cons (z0 y)
        have e1 : ((mkE x.key (jn y.ru x.ru) :: r).map z0) = [mkE (z0 x).key (jn (z0 y).ru (z0 x).ru)] ++ r.map z0 := rfl
        rw [e1]
        exact (Eqv.of_perm p1 (pos_z0 (pos_good hall))).trans (hj.app (pos_z0 (pos_good hr)))
      · cases h
    · rw [ins_gt hk] at h
      cases hi : ins r x with
      | none => rw [hi] at h; cases h
      | some r' =>
        rw [hi] at h
        cases h
        have ih := z_ins hx hr hi
        have := ih.app_left (r := [z0 y]) (fun z hz => by
          obtain rfl : z = z0 y := by simpa using hz
          exact (good_iff.1 hy).1.1)
        simpa using this

theorem z_fold : ∀ (xs o l : List En), (∀ y ∈ xs, Good y.ru) → (∀ y ∈ o, Good y.ru) → xs.foldl insO (some o) = some l → Eqv ((o ++ xs).map z0) (l.map z0)
  | [], o, l, _, ho, h => by
    cases h
    rw [List.append_nil]
    exact Eqv.refl (pos_z0 (pos_good ho))
  | x :: xs, o, l, hx, ho, h => by
    rw [List.foldl_cons] at h
    cases hi : insO (some o) x with
    | none => rw [hi, fold_none] at h; cases h
    | some o' =>
      rw [hi] at h
      have hi' : ins o x = some o' := hi
      have hx0 := hx x List.mem_cons_self
      have hxs : ∀ y ∈ xs, Good y.ru := fun y hy => hx y (List.mem_cons_of_mem _ hy)
      have ih := z_fold xs o' l hxs (ins_good hx0 ho hi').1 h
      have s := (z_ins hx0 ho hi').app (pos_z0 (pos_good hxs))
      rw [← List.map_append, ← List.map_append, List.append_assoc] at s
      exact s.trans ih

theorem z_all {xs l : List En} (hx : ∀ y ∈ xs, Good y.ru) (h : allL xs = some l) : Eqv (xs.map z0) (l.map z0) := by
  have := z_fold xs [] l hx (by simp) h
  simpa using this

def keyB (p a b : Int) (k : Int) : Bool := decide (k / 1048576 = p) && (decide (a ≤ k % 1048576) && decide (k % 1048576 ≤ b))

/-- Of a series, from a time on, up to another one. -/
def selK (p a b : Int) (x : En) : Bool := keyB p a b x.key

theorem bk_sel {p a b size : Int} (hs : size = 1 ∨ size = 60 ∨ size = 3600) (ha : a % size = 0) (hb : (b + 1) % size = 0) {x : En} : keyB p a b (bk size x).key = selK p a b x := by
  have e := bk_key x size
  simp only [kp, kt] at e
  rw [e]
  unfold selK keyB
  have h1 : (x.key / 1048576 * 1048576 + (x.key % 1048576 - x.key % 1048576 % size)) / 1048576 = x.key / 1048576 := by
    rcases hs with rfl | rfl | rfl <;> omega
  have h2 : (x.key / 1048576 * 1048576 + (x.key % 1048576 - x.key % 1048576 % size)) % 1048576 = x.key % 1048576 - x.key % 1048576 % size := by
    rcases hs with rfl | rfl | rfl <;> omega
  rw [h1, h2]
  have h3 : (a ≤ x.key % 1048576 - x.key % 1048576 % size ↔ a ≤ x.key % 1048576) := by
    rcases hs with rfl | rfl | rfl <;> omega
  have h4 : (x.key % 1048576 - x.key % 1048576 % size ≤ b ↔ x.key % 1048576 ≤ b) := by
    rcases hs with rfl | rfl | rfl <;> omega
  simp only [h3, h4]

theorem z0_bk (size : Int) (x : En) : z0 (bk size x) = z0 x := rfl

theorem roll_sel {L M : List En} {p a b size : Int} (hs : size = 1 ∨ size = 60 ∨ size = 3600) (hg : ∀ y ∈ L, Good y.ru) (h : rollP size L = some M) (ha : a % size = 0) (hb : (b + 1) % size = 0) :
    Eqv ((L.filter (selK p a b)).map z0) ((M.filter (selK p a b)).map z0) := by
  have h1 := allL_filter (P := keyB p a b) (L.map (bk size)) [] M (by simp) h
  have e1 : ((L.map (bk size)).filter fun z => keyB p a b z.key) = (L.filter (selK p a b)).map (bk size) := by
    rw [List.filter_map]
    congr 1
    exact List.filter_congr fun x _ => bk_sel hs ha hb
  rw [e1] at h1
  have h2 := z_all (xs := (L.filter (selK p a b)).map (bk size)) (l := M.filter fun z => keyB p a b z.key) (fun y hy => by
    obtain ⟨x, hx, rfl⟩ := List.mem_map.1 hy
    exact hg x (List.mem_filter.1 hx).1) h1
  rw [List.map_map] at h2
  exact h2

/-- How the times from a on, up to b, are covered: with buckets of the step's size where they are within, with lesser ones at both ends. -/
def szN : Nat → Int
  | 0 => 1
  | 1 => 60
  | _ => 3600

def begN (t s : Int) : Int := t - t % s

def coverN : Nat → Int → Int → List (Nat × Int × Int)
  | 0, a, b => if b < a then [] else [(0, a, b)]
  | k + 1, a, b => if b < a then [] else
    if begN (b + 1) (szN (k + 1)) ≤ begN (a + szN (k + 1) - 1) (szN (k + 1)) then coverN k a b
    else coverN k a (begN (a + szN (k + 1) - 1) (szN (k + 1)) - 1) ++ (coverN k (begN (b + 1) (szN (k + 1))) b ++ [(k + 1, begN (a + szN (k + 1) - 1) (szN (k + 1)), begN (b + 1) (szN (k + 1)) - 1)])

/-- The entries that are gathered. -/
def gathN (L : Nat → List En) (p : Int) (c : List (Nat × Int × Int)) : List En := c.flatMap fun q => (L q.1).filter (selK p q.2.1 q.2.2)

theorem gath_append (L : Nat → List En) (p : Int) (c d : List (Nat × Int × Int)) : gathN L p (c ++ d) = gathN L p c ++ gathN L p d := List.flatMap_append

theorem split3 {l : List En} {p a b m n : Int} (h1 : a ≤ m) (h2 : m < n) (h3 : n ≤ b + 1) :
    (l.filter (selK p a b)).Perm (l.filter (selK p a (m - 1)) ++ (l.filter (selK p n b) ++ l.filter (selK p m (n - 1)))) := by
  induction l with
  | nil => simp
  | cons x r ih =>
    have hx : ∀ u v : Int, selK p u v x = true ↔ x.key / 1048576 = p ∧ u ≤ x.key % 1048576 ∧ x.key % 1048576 ≤ v := fun u v => by simp [selK, keyB]
    by_cases h : selK p a b x = true
    · obtain ⟨q1, q2, q3⟩ := (hx _ _).1 h
      rw [List.filter_cons_of_pos h]
      by_cases c1 : x.key % 1048576 < m
      · have k1 : selK p a (m - 1) x = true := (hx _ _).2 ⟨q1, q2, by omega⟩
        have k2 : ¬ selK p n b x = true := fun e => by have := (hx _ _).1 e; omega
        have k3 : ¬ selK p m (n - 1) x = true := fun e => by have := (hx _ _).1 e; omega
        rw [List.filter_cons_of_pos k1, List.filter_cons_of_neg k2, List.filter_cons_of_neg k3, List.cons_append]
        exact ih.cons x
      · by_cases c2 : n ≤ x.key % 1048576
        · have k1 : ¬ selK p a (m - 1) x = true := fun e => by have := (hx _ _).1 e; omega
          have k2 : selK p n b x = true := (hx _ _).2 ⟨q1, c2, q3⟩
          have k3 : ¬ selK p m (n - 1) x = true := fun e => by have := (hx _ _).1 e; omega
          rw [List.filter_cons_of_neg k1, List.filter_cons_of_pos k2, List.filter_cons_of_neg k3, List.cons_append]
          exact (ih.cons x).trans List.perm_middle.symm
        · have k1 : ¬ selK p a (m - 1) x = true := fun e => by have := (hx _ _).1 e; omega
          have k2 : ¬ selK p n b x = true := fun e => by have := (hx _ _).1 e; omega
          have k3 : selK p m (n - 1) x = true := (hx _ _).2 ⟨q1, by omega, by omega⟩
          rw [List.filter_cons_of_neg k1, List.filter_cons_of_neg k2, List.filter_cons_of_pos k3]
          refine (ih.cons x).trans ?_
          rw [← List.append_assoc, ← List.append_assoc]
          exact List.perm_middle.symm
    · rw [List.filter_cons_of_neg h]
      have k : ∀ u v : Int, a ≤ u → v ≤ b → ¬ selK p u v x = true := fun u v hu hv e => h ((hx _ _).2 (by have := (hx _ _).1 e; omega))
      rw [List.filter_cons_of_neg (k _ _ (by omega) (by omega)), List.filter_cons_of_neg (k _ _ (by omega) (by omega)), List.filter_cons_of_neg (k _ _ (by omega) (by omega))]
      exact ih

theorem sel_none {l : List En} {p a b : Int} (h : b < a) : l.filter (selK p a b) = [] := by
  rw [List.filter_eq_nil_iff]
  intro x _
  simp [selK, keyB]
  omega

theorem gath_ok {L : Nat → List En} (hg : ∀ k, ∀ y ∈ L k, Good y.ru) (hr : ∀ k, k ≤ 2 → rollP (szN k) (L 0) = some (L k)) (p : Int) :
    ∀ (k : Nat) (a b : Int), k ≤ 2 → 0 ≤ a → Eqv (((L 0).filter (selK p a b)).map z0) ((gathN L p (coverN k a b)).map z0)
  | 0, a, b, _, _ => by
    unfold coverN
    split
    · rename_i h
      rw [sel_none h]
      exact Eqv.refl (by intro y hy; simp at hy)
    · have : gathN L p [(0, a, b)] = (L 0).filter (selK p a b) := by simp [gathN]
      rw [this]
      exact Eqv.refl (pos_z0 (pos_good fun y hy => hg 0 y (List.mem_filter.1 hy).1))
  | k + 1, a, b, hk2, ha => by
    have hsz : szN (k + 1) = 60 ∨ szN (k + 1) = 3600 := by
      rcases (show k = 0 ∨ k = 1 by omega) with rfl | rfl
      · exact .inl rfl
      · exact .inr rfl
    unfold coverN
    split
    · rename_i h
      rw [sel_none h]
      exact Eqv.refl (by intro y hy; simp at hy)
    · split
      · exact gath_ok hg hr p k a b (by omega) ha
      · rename_i h1 h2
        have hr1 := hr (k + 1) hk2
        generalize hs : szN (k + 1) = s at *
        generalize hm : begN (a + s - 1) s = m at *
        generalize hn : begN (b + 1) s = n at *
        have hm' : a ≤ m ∧ m % s = 0 := by
          rw [← hm]; unfold begN
          rcases hsz with rfl | rfl <;> omega
        have hn' : n ≤ b + 1 ∧ n % s = 0 := by
          rw [← hn]; unfold begN
          rcases hsz with rfl | rfl <;> omega
        rw [gath_append, gath_append, List.map_append, List.map_append]
        have i1 := gath_ok hg hr p k a (m - 1) (by omega) ha
        have i2 := gath_ok hg hr p k n b (by omega) (by omega)
        have e3 : gathN L p [(k + 1, m, n - 1)] = (L (k + 1)).filter (selK p m (n - 1)) := by simp [gathN]
        rw [e3]
        have i3 := roll_sel (p := p) (a := m) (b := n - 1) (by rcases hsz with h | h <;> simp [h]) (hg 0) hr1 hm'.2 (by rw [show n - 1 + 1 = n by omega]; exact hn'.2)
        have hP : ∀ (j : Nat) (u v : Int), Pos (((L j).filter (selK p u v)).map z0) := fun j u v => pos_z0 (pos_good fun y hy => hg j y (List.mem_filter.1 hy).1)
        have p0 := (split3 (l := L 0) (p := p) (a := a) (b := b) (m := m) (n := n) hm'.1 (by omega) hn'.1).map z0
        rw [List.map_append, List.map_append] at p0
        refine (Eqv.of_perm p0 (hP 0 a b)).trans ?_
        have q2 := (i2.app (hP 0 m (n - 1))).trans ((i3.app_left i2.posm))
        exact (i1.app ((hP 0 n b).app (hP 0 m (n - 1)))).trans (q2.app_left i1.posm)

end Go.Proofs.YtlojfgdpmaigmadDoor

/- What comes together, in whatever order: rollups, and entries by their keys. -/
import Derived.Test.YtlojfgdpmaigmafDoorP27
import Derived.Test.YtlojfgdpmaigmafDoorP09
namespace Go.Proofs.YtlojfgdpmaigmafDoor
open Go.RowKit Plain

theorem Ru.ext' {a b : Ru} (h1 : a.c = b.c) (h2 : a.s = b.s) (h3 : a.lo = b.lo) (h4 : a.hi = b.hi) (h5 : a.t = b.t) (h6 : a.l = b.l) : a = b := by
  cases a; cases b; simp at *; exact ⟨h1, h2, h3, h4, h5, h6⟩

theorem mn_comm (a b : Int) : mn a b = mn b a := by unfold mn; split <;> split <;> omega
theorem mx_comm (a b : Int) : mx a b = mx b a := by unfold mx; split <;> split <;> omega
theorem mn_assoc (a b c : Int) : mn (mn a b) c = mn a (mn b c) := by
  unfold mn
  by_cases h1 : a ≤ b <;> by_cases h2 : b ≤ c <;> by_cases h3 : a ≤ c <;> simp [h1, h2, h3] <;> omega
theorem mx_assoc (a b c : Int) : mx (mx a b) c = mx a (mx b c) := by
  unfold mx
  by_cases h1 : a ≤ b <;> by_cases h2 : b ≤ c <;> by_cases h3 : a ≤ c <;> simp [h1, h2, h3] <;> omega

theorem ltr_iff {t l t' l' : Int} : ltr t l t' l' = true ↔ t' < t ∨ (t = t' ∧ l' < l) := by simp [ltr]

/-- The later of two last points, as a pair. -/
theorem jn_tl (a b : Ru) : ((jn a b).t = a.t ∧ (jn a b).l = a.l ∧ (b.t < a.t ∨ (a.t = b.t ∧ b.l < a.l))) ∨ ((jn a b).t = b.t ∧ (jn a b).l = b.l ∧ ¬ (b.t < a.t ∨ (a.t = b.t ∧ b.l < a.l))) := by
  by_cases h : ltr a.t a.l b.t b.l = true
  · left
    refine ⟨?_, ?_, ltr_iff.1 h⟩ <;> simp [jn, pk, h]
  · right
    refine ⟨?_, ?_, fun e => h (ltr_iff.2 e)⟩ <;> simp [jn, pk, h]

theorem jn_comm (a b : Ru) : jn a b = jn b a := by
  have h1 := jn_tl a b
  have h2 := jn_tl b a
  refine Ru.ext' (Int.add_comm _ _) (Int.add_comm _ _) (mn_comm _ _) (mx_comm _ _) ?_ ?_ <;> omega

theorem jn_assoc (a b c : Ru) : jn (jn a b) c = jn a (jn b c) := by
  have h1 := jn_tl a b
  have h2 := jn_tl (jn a b) c
  have h3 := jn_tl b c
  have h4 := jn_tl a (jn b c)
  refine Ru.ext' (Int.add_assoc _ _ _) (Int.add_assoc _ _ _) (mn_assoc _ _ _) (mx_assoc _ _ _) ?_ ?_
  · rcases h1 with h1 | h1 <;> rcases h3 with h3 | h3 <;> omega
  · rcases h1 with h1 | h1 <;> rcases h3 with h3 | h3 <;> omega

/-- A rollup that may be, of some points. -/
def Good (a : Ru) : Prop := chk a = 0 ∧ a.c ≠ 0

theorem good_iff {a : Ru} : Good a ↔ (1 ≤ a.c ∧ a.c ≤ 1073741824) ∧ (0 ≤ a.t ∧ a.t ≤ 1048575) ∧ -1000000 ≤ a.lo ∧ a.hi ≤ 1000000 ∧ (a.lo ≤ a.l ∧ a.l ≤ a.hi) ∧ (a.c * a.lo ≤ a.s ∧ a.s ≤ a.c * a.hi) := by
  constructor
  · rintro ⟨h, hc⟩
    obtain ⟨b1, b2, b3, b4, b5, b6⟩ := check_bounds h
    have m1 := mulbd (x := a.lo) b1.1 b1.2 b4.1 b4.2
    have m2 := mulbd (x := a.hi) b1.1 b1.2 b5.1 b5.2
    have hf : formB a.c a.s a.lo a.hi a.t a.l = true := by
      unfold chk checkC at h
      split at h
      · split at h
        · assumption
        · omega
      · omega
    unfold formB at hf
    rw [if_neg hc, w64 _ (by omega), w64 _ (by omega)] at hf
    simp only [Bool.and_eq_true, inB_iff] at hf
    exact ⟨by omega, b3, b4.1, b5.2, hf.1, hf.2⟩
  · rintro ⟨h1, h2, h3, h4, h5, h6⟩
    exact ⟨chk_ok (by omega) h1.2 h2 h3 h4 h5 h6, by omega⟩

theorem mn_le (a b : Int) : mn a b ≤ a ∧ mn a b ≤ b ∧ (mn a b = a ∨ mn a b = b) := by unfold mn; split <;> omega
theorem mx_ge (a b : Int) : a ≤ mx a b ∧ b ≤ mx a b ∧ (mx a b = a ∨ mx a b = b) := by unfold mx; split <;> omega

theorem good_jn {a b : Ru} (ha : Good a) (hb : Good b) (h : a.c + b.c ≤ 1073741824) : Good (jn a b) := by
  rw [good_iff] at *
  obtain ⟨a1, a2, a3, a4, a5, a6⟩ := ha
  obtain ⟨b1, b2, b3, b4, b5, b6⟩ := hb
  have n := mn_le a.lo b.lo
  have x := mx_ge a.hi b.hi
  have tl := jn_tl a b
  have e1 : (jn a b).lo = mn a.lo b.lo := rfl
  have e2 : (jn a b).hi = mx a.hi b.hi := rfl
  have e3 : (jn a b).c = a.c + b.c := rfl
  have e4 : (jn a b).s = a.s + b.s := rfl
  have p1 := Int.mul_le_mul_of_nonneg_left n.1 (show 0 ≤ a.c by omega)
  have p2 := Int.mul_le_mul_of_nonneg_left n.2.1 (show 0 ≤ b.c by omega)
  have p3 := Int.mul_le_mul_of_nonneg_left x.1 (show 0 ≤ a.c by omega)
  have p4 := Int.mul_le_mul_of_nonneg_left x.2.1 (show 0 ≤ b.c by omega)
  rw [e1, e2, e3, e4, Int.add_mul, Int.add_mul]
  refine ⟨by omega, by omega, by omega, by omega, by omega, by omega⟩

theorem mrg_good {a b : Ru} (ha : Good a) (hb : Good b) : mrg a b = if a.c + b.c ≤ 1073741824 then (jn a b, 0) else (zro, 1) := by
  have ga := good_iff.1 ha
  have gb := good_iff.1 hb
  split
  · rename_i h
    refine mrg_5 ha.1 hb.1 ha.2 hb.2 h ?_
    have gj := good_iff.1 (good_jn ha hb h)
    have hc := check_bounds (good_jn ha hb h).1
    rw [inB_iff]
    exact hc.2.1
  · rename_i h
    exact mrg_6 ha.1 hb.1 ha.2 hb.2 (fun e => h e.1)

/-! ### Entries -/

def En.ru (x : En) : Ru := ⟨x.c, x.s, x.lo, x.hi, x.t, x.l⟩
def mkE (k : Int) (r : Ru) : En := ⟨k, r.c, r.s, r.lo, r.hi, r.t, r.l⟩
theorem mkE_ru (k : Int) (r : Ru) : (mkE k r).ru = r := rfl
theorem ru_mkE (x : En) : mkE x.key x.ru = x := rfl
theorem mkE_key (k : Int) (r : Ru) : (mkE k r).key = k := rfl
theorem mkE_c (k : Int) (r : Ru) : (mkE k r).c = r.c := rfl

theorem entB_good {x : En} {low high : Int} (h : entB x low high = true) : Good x.ru := by
  simp only [entB, Bool.and_eq_true, Bool.not_eq_true', beq_eq_false_iff_ne, beq_iff_eq] at h
  exact ⟨h.2, h.1.2⟩

theorem entsB_good {high : Int} : ∀ {xs : List En} {low : Int}, entsB xs low high = true → ∀ x ∈ xs, Good x.ru
  | [], _, _, x, hx => by simp at hx
  | y :: r, low, h, x, hx => by
    simp only [entsB, Bool.and_eq_true] at h
    rcases List.mem_cons.1 hx with rfl | hx
    · exact entB_good h.1
    · exact entsB_good h.2 x hx

/-- Entries with one more; none: what is known of its key can't come together. -/
def ins : List En → En → Option (List En)
  | [], x => some [x]
  | y :: r, x =>
    if x.key < y.key then some (x :: y :: r)
    else if y.key = x.key then (if y.c + x.c ≤ 1073741824 then some (mkE x.key (jn y.ru x.ru) :: r) else none)
    else (ins r x).map (y :: ·)
def insO (o : Option (List En)) (x : En) : Option (List En) := o.bind fun l => ins l x
def allL (xs : List En) : Option (List En) := xs.foldl insO (some [])

theorem ins_lt {y x : En} {r : List En} (h : x.key < y.key) : ins (y :: r) x = some (x :: y :: r) := by simp [ins, h]
theorem ins_eq {y x : En} {r : List En} (h : y.key = x.key) : ins (y :: r) x = if y.c + x.c ≤ 1073741824 then some (mkE x.key (jn y.ru x.ru) :: r) else none := by
  simp [ins, h]
theorem ins_gt {y x : En} {r : List En} (h : y.key < x.key) : ins (y :: r) x = (ins r x).map (y :: ·) := by
  simp only [ins]
  rw [if_neg (by omega), if_neg (by omega)]

theorem map_bind_cons {o : Option (List En)} {y x : En} (h : y.key < x.key) : (o.map (y :: ·)).bind (ins · x) = (o.bind (ins · x)).map (y :: ·) := by
  cases o with
  | none => rfl
  | some l => simp [ins_gt h]

theorem ins_comm {x y : En} (hx : 1 ≤ x.c) (hy : 1 ≤ y.c) : ∀ l : List En, (ins l x).bind (ins · y) = (ins l y).bind (ins · x)
  | [] => by
    simp only [ins, Option.bind_some]
    rcases Int.lt_trichotomy x.key y.key with h | h | h
    · have h1 : ¬ y.key < x.key := by omega
      have h2 : ¬ x.key = y.key := by omega
      simp [h, h1, h2]
    · have h1 : ¬ y.key < x.key := by omega
      have h2 : ¬ x.key < y.key := by omega
      simp only [h, Int.lt_irrefl, if_false, if_true]
      rw [Int.add_comm y.c x.c, jn_comm y.ru x.ru]
    · have h1 : ¬ x.key < y.key := by omega
      have h2 : ¬ y.key = x.key := by omega
      simp [h, h1, h2]
  | z :: r => by
    rcases Int.lt_trichotomy x.key z.key with hxz | hxz | hxz <;> rcases Int.lt_trichotomy y.key z.key with hyz | hyz | hyz
    · rw [ins_lt hxz, ins_lt hyz]
      simp only [Option.bind_some]
      rcases Int.lt_trichotomy x.key y.key with h | h | h
      · rw [ins_gt h, ins_lt h, ins_lt hyz]; rfl
      · rw [ins_eq h, ins_eq h.symm, Int.add_comm y.c x.c, jn_comm y.ru x.ru, h]
      · rw [ins_lt h, ins_gt h, ins_lt hxz]; rfl
    · rw [ins_lt hxz, ins_eq hyz.symm]
      simp only [Option.bind_some]
      rw [ins_gt (by omega), ins_eq hyz.symm]
      split
      · simp only [Option.map_some, Option.bind_some]
        rw [ins_lt (by rw [mkE_key]; omega)]
      · rfl
    · rw [ins_lt hxz, ins_gt hyz]
      simp only [Option.bind_some]
      rw [ins_gt (by omega), ins_gt hyz]
      cases ins r y with
      | none => rfl
      | some l => simp [ins_lt hxz]
    · rw [ins_eq hxz.symm, ins_lt hyz]
      simp only [Option.bind_some]
      rw [ins_gt (by omega), ins_eq hxz.symm]
      split
      · simp only [Option.map_some, Option.bind_some]
        rw [ins_lt (by rw [mkE_key]; omega)]
      · rfl
    · rw [ins_eq hxz.symm, ins_eq hyz.symm]
      have hxy : x.key = y.key := by omega
      by_cases h1 : z.c + x.c ≤ 1073741824 <;> by_cases h2 : z.c + y.c ≤ 1073741824
      · simp only [h1, h2, if_true, Option.bind_some]
        rw [ins_eq (by rw [mkE_key]; exact hxy), ins_eq (by rw [mkE_key]; exact hxy.symm)]
        show (if z.c + x.c + y.c ≤ 1073741824 then some (mkE y.key (jn (jn z.ru x.ru) y.ru) :: r) else none) = if z.c + y.c + x.c ≤ 1073741824 then some (mkE x.key (jn (jn z.ru y.ru) x.ru) :: r) else none
        rw [jn_assoc, jn_assoc, jn_comm x.ru y.ru, hxy]
        by_cases h3 : z.c + x.c + y.c ≤ 1073741824
        · rw [if_pos h3, if_pos (by omega)]
        · rw [if_neg h3, if_neg (by omega)]
      · simp only [h1, h2, if_true, if_false, Option.bind_some, Option.bind_none]
        rw [ins_eq (by rw [mkE_key]; exact hxy)]
        exact if_neg (show ¬ z.c + x.c + y.c ≤ 1073741824 by omega)
      · simp only [h1, h2, if_true, if_false, Option.bind_some, Option.bind_none]
        rw [ins_eq (by rw [mkE_key]; exact hxy.symm)]
        exact (if_neg (show ¬ z.c + y.c + x.c ≤ 1073741824 by omega)).symm
      · simp [h1, h2]
    · rw [ins_eq hxz.symm, ins_gt hyz]
      by_cases h1 : z.c + x.c ≤ 1073741824
      · simp only [h1, if_true, Option.bind_some]
        rw [ins_gt (by rw [mkE_key]; omega)]
        cases ins r y with
        | none => rfl
        | some l => simp [ins_eq hxz.symm, h1]
      · simp only [h1, if_false, Option.bind_none]
        cases ins r y with
        | none => rfl
        | some l => simp [ins_eq hxz.symm, h1]
    · rw [ins_gt hxz, ins_lt hyz]
      simp only [Option.bind_some]
      rw [ins_gt (by omega), ins_gt hxz]
      cases ins r x with
      | none => rfl
      | some l => simp [ins_lt hyz]
    · rw [ins_gt hxz, ins_eq hyz.symm]
      by_cases h1 : z.c + y.c ≤ 1073741824
      · simp only [h1, if_true, Option.bind_some]
        rw [ins_gt (by rw [mkE_key]; omega)]
        cases ins r x with
        | none => rfl
        | some l => simp [ins_eq hyz.symm, h1]
      · simp only [h1, if_false, Option.bind_none]
        cases ins r x with
        | none => rfl
        | some l => simp [ins_eq hyz.symm, h1]
    · rw [ins_gt hxz, ins_gt hyz, map_bind_cons hyz, map_bind_cons hxz, ins_comm hx hy r]

/-- It does not matter in what order entries come together. -/
theorem allL_perm {l₁ l₂ : List En} (h : l₁.Perm l₂) (hp : ∀ x ∈ l₁, 1 ≤ x.c) : allL l₁ = allL l₂ := by
  unfold allL
  refine h.foldl_eq' (fun x hx y hy z => ?_) _
  cases z with
  | none => rfl
  | some l => exact ins_comm (hp x hx) (hp y hy) l

end Go.Proofs.YtlojfgdpmaigmafDoor

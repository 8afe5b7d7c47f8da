/- Plain mathematics of points that come one by one: what is known of the first k of them. -/
import Derived.Test.YtmcbjpaknffgkabWalks14
namespace Go.Proofs.Ytmcbjpaknffgkab
open Go.RowKit Plain

theorem w64 (n : Int) (h : -9223372036854775808 ≤ n ∧ n ≤ 9223372036854775807) : wrap64 n = n := by unfold wrap64; omega

theorem mulbd {c x : Int} (h1 : 0 ≤ c) (h2 : c ≤ 1073741824) (h3 : -1000000 ≤ x) (h4 : x ≤ 1000000) : -1073741824000000 ≤ c * x ∧ c * x ≤ 1073741824000000 := by
  have a := Int.mul_le_mul_of_nonneg_left h3 h1
  have b := Int.mul_le_mul_of_nonneg_left h4 h1
  omega

theorem chk_ok {r : Ru} (h1 : 0 < r.c) (h2 : r.c ≤ 1073741824) (ht : 0 ≤ r.t ∧ r.t ≤ 1048575) (hlo : -1000000 ≤ r.lo) (hhi : r.hi ≤ 1000000) (hl : r.lo ≤ r.l ∧ r.l ≤ r.hi) (hs : r.c * r.lo ≤ r.s ∧ r.s ≤ r.c * r.hi) : chk r = 0 := by
  have m1 := mulbd (x := r.lo) (by omega) h2 hlo (by omega)
  have m2 := mulbd (x := r.hi) (by omega) h2 (by omega) hhi
  have hb : boundsB r.c r.s r.lo r.hi r.t r.l = true := by
    simp only [boundsB, Bool.and_eq_true, inB_iff]
    omega
  have hf : formB r.c r.s r.lo r.hi r.t r.l = true := by
    unfold formB
    rw [if_neg (by omega), w64 _ (by omega), w64 _ (by omega)]
    simp only [Bool.and_eq_true, inB_iff]
    omega
  simp [chk, checkC, hb, hf]

theorem chk_zro : chk zro = 0 := by simp [chk, checkC, zro, boundsB, formB, eqR, inB]

/-- What is known of one point. -/
def one (t v : Int) : Ru := ⟨1, v, v, v, t, v⟩
theorem chk_one {t v : Int} (ht : 0 ≤ t ∧ t ≤ 1048575) (hv : -1000000 ≤ v ∧ v ≤ 1000000) : chk (one t v) = 0 :=
  chk_ok (by simp [one]) (by simp [one]) ht hv.1 hv.2 (by simp [one]) (by simp [one])

/-- What is known of k points, at the times 0 to k - 1, with values from -1000 to 1000. -/
def Inv (k : Nat) (o : Ru) : Prop := k ≤ 30 ∧ o.c = k ∧ (k = 0 → o = zro) ∧ (0 < k → o.t = k - 1 ∧ -1000 ≤ o.lo ∧ o.hi ≤ 1000 ∧ (o.lo ≤ o.l ∧ o.l ≤ o.hi) ∧ (o.c * o.lo ≤ o.s ∧ o.s ≤ o.c * o.hi))

def nxt (k : Nat) (o : Ru) (v : Int) : Ru := if k = 0 then one 0 v else ⟨(k : Int) + 1, o.s + v, mn o.lo v, mx o.hi v, k, v⟩

theorem inv_chk {k : Nat} {o : Ru} (h : Inv k o) : chk o = 0 := by
  obtain ⟨h1, h2, h3, h4⟩ := h
  by_cases e : k = 0
  · rw [h3 e]; exact chk_zro
  · obtain ⟨a, b, c, d, e'⟩ := h4 (by omega)
    exact chk_ok (by omega) (by omega) (by omega) (by omega) (by omega) d e'

theorem inv_step {k : Nat} {o : Ru} {v : Int} (h : Inv k o) (hk : k < 30) (hv : -1000 ≤ v ∧ v ≤ 1000) : mrg o (one k v) = (nxt k o v, 0) ∧ Inv (k + 1) (nxt k o v) := by
  have hc := inv_chk h
  have h1 : chk (one k v) = 0 := chk_one (by omega) (by omega)
  obtain ⟨_, h2, h3, h4⟩ := h
  by_cases e : k = 0
  · subst e
    refine ⟨?_, ?_⟩
    · rw [mrg_3 hc h1 (by omega)]; simp [nxt]
    · refine ⟨by omega, by simp [nxt, one], by omega, fun _ => ?_⟩
      simp only [nxt, one, if_pos]
      omega
  · obtain ⟨a, b, c, d, e'⟩ := h4 (by omega)
    have m1 : o.c * mn o.lo v ≤ o.c * o.lo := Int.mul_le_mul_of_nonneg_left (by unfold mn; split <;> omega) (by omega)
    have m2 : o.c * o.hi ≤ o.c * mx o.hi v := Int.mul_le_mul_of_nonneg_left (by unfold mx; split <;> omega) (by omega)
    have m3 : mn o.lo v ≤ v ∧ -1000 ≤ mn o.lo v ∧ mn o.lo v ≤ o.lo := by unfold mn; split <;> omega
    have m4 : v ≤ mx o.hi v ∧ mx o.hi v ≤ 1000 ∧ o.hi ≤ mx o.hi v := by unfold mx; split <;> omega
    have b1 := mulbd (c := o.c) (x := o.lo) (by omega) (by omega) (by omega) (by omega)
    have b2 := mulbd (c := o.c) (x := o.hi) (by omega) (by omega) (by omega) (by omega)
    refine ⟨?_, ?_⟩
    · have hl : ltr o.t o.l k v = false := by simp [ltr]; omega
      rw [mrg_5 hc h1 (by omega) (by simp [one]) (by simp only [one]; omega) ((inB_iff _ _ _).2 (by simp only [one]; omega))]
      simp only [jn, one, nxt, if_neg e, h2, hl, pk_f _ _ rfl]
    · refine ⟨by omega, by simp [nxt, e], by omega, fun _ => ?_⟩
      simp only [nxt, if_neg e]
      have x1 : ((k : Int) + 1) * mn o.lo v = o.c * mn o.lo v + mn o.lo v := by rw [h2, Int.add_mul]; omega
      have x2 : ((k : Int) + 1) * mx o.hi v = o.c * mx o.hi v + mx o.hi v := by rw [h2, Int.add_mul]; omega
      rw [x1, x2]
      omega

end Go.Proofs.Ytmcbjpaknffgkab

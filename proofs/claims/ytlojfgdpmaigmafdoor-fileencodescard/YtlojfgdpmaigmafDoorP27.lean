/- What Merge of package roll, and the document's answer to it, do with any two rollups. -/
import Derived.Test.YtlojfgdpmaigmafDoorP23
import Derived.Test.YtlojfgdpmaigmafDoorWalks11
import Derived.Test.YtlojfgdpmaigmafDoorWalks12
import Derived.Test.YtlojfgdpmaigmafDoorWalks13
namespace Go.Proofs.YtlojfgdpmaigmafDoor
open Go.RowKit Plain

/-- What is known of some points. -/
structure Ru where
  c : Int
  s : Int
  lo : Int
  hi : Int
  t : Int
  l : Int

def chk (r : Ru) : Int := checkC r.c r.s r.lo r.hi r.t r.l
def zro : Ru := ⟨0, 0, 0, 0, 0, 0⟩
def jn (a b : Ru) : Ru := ⟨a.c + b.c, a.s + b.s, mn a.lo b.lo, mx a.hi b.hi, pk (ltr a.t a.l b.t b.l) a.t b.t, pk (ltr a.t a.l b.t b.l) a.l b.l⟩
def mrg (a b : Ru) : Ru × Int :=
  if chk a ≠ 0 then (zro, chk a) else if chk b ≠ 0 then (zro, chk b) else if a.c = 0 then (b, 0) else if b.c = 0 then (a, 0)
  else if a.c + b.c ≤ 1073741824 ∧ inB (a.s + b.s) (-1125899906842624) 1125899906842624 = true then (jn a b, 0) else (zro, 1)

theorem mrg_1 {a b : Ru} (h : chk a ≠ 0) : mrg a b = (zro, chk a) := by unfold mrg; rw [if_pos h]
theorem mrg_2 {a b : Ru} (h : chk a = 0) (h' : chk b ≠ 0) : mrg a b = (zro, chk b) := by unfold mrg; rw [if_neg (by simpa using h), if_pos h']
theorem mrg_3 {a b : Ru} (h : chk a = 0) (h' : chk b = 0) (e : a.c = 0) : mrg a b = (b, 0) := by unfold mrg; rw [if_neg (by simpa using h), if_neg (by simpa using h'), if_pos e]
theorem mrg_4 {a b : Ru} (h : chk a = 0) (h' : chk b = 0) (e : ¬ a.c = 0) (e' : b.c = 0) : mrg a b = (a, 0) := by unfold mrg; rw [if_neg (by simpa using h), if_neg (by simpa using h'), if_neg e, if_pos e']
theorem mrg_5 {a b : Ru} (h : chk a = 0) (h' : chk b = 0) (e : ¬ a.c = 0) (e' : ¬ b.c = 0) (k : a.c + b.c ≤ 1073741824) (k' : inB (a.s + b.s) (-1125899906842624) 1125899906842624 = true) : mrg a b = (jn a b, 0) := by
  unfold mrg; rw [if_neg (by simpa using h), if_neg (by simpa using h'), if_neg e, if_neg e', if_pos ⟨k, k'⟩]
theorem mrg_6 {a b : Ru} (h : chk a = 0) (h' : chk b = 0) (e : ¬ a.c = 0) (e' : ¬ b.c = 0) (k : ¬ (a.c + b.c ≤ 1073741824 ∧ inB (a.s + b.s) (-1125899906842624) 1125899906842624 = true)) : mrg a b = (zro, 1) := by
  unfold mrg; rw [if_neg (by simpa using h), if_neg (by simpa using h'), if_neg e, if_neg e', if_neg k]
theorem mrg_33 {a b : Ru} (h : chk a = 0) (h' : chk b = 0) (e : a.c = 0) (e' : b.c = 0) : a = b := by
  have key : ∀ r : Ru, chk r = 0 → r.c = 0 → r = zro := by
    intro r hr hc
    obtain ⟨c, s, lo, hi, t, l⟩ := r
    simp only at hc
    subst hc
    simp only [chk, checkC] at hr
    by_cases hb : boundsB 0 s lo hi t l = true
    · rw [if_pos hb] at hr
      by_cases hf : formB 0 s lo hi t l = true
      · simp [formB, eqR] at hf
        obtain ⟨⟨⟨⟨rfl, rfl⟩, rfl⟩, rfl⟩, rfl⟩ := hf
        rfl
      · rw [if_neg hf] at hr; omega
    · rw [if_neg hb] at hr; omega
  rw [key a h e, key b h' e']

theorem bne_of {x : Int} (h : x ≠ 0) : (x != 0) = true := by simpa using h
theorem beq_of {x : Int} (h : x ≠ 0) : (x == 0) = false := by simpa using h

theorem merge_any (a b : Ru) (w : World) :
    Calls Tryd.prog 43 #[.agg #[.int .i64 a.c, .int .i64 a.s, .int .i64 a.lo, .int .i64 a.hi, .int .i64 a.t, .int .i64 a.l], .agg #[.int .i64 b.c, .int .i64 b.s, .int .i64 b.lo, .int .i64 b.hi, .int .i64 b.t, .int .i64 b.l]] w fun e w' => e = .returned (.tuple #[.agg #[.int .i64 (mrg a b).1.c, .int .i64 (mrg a b).1.s, .int .i64 (mrg a b).1.lo, .int .i64 (mrg a b).1.hi, .int .i64 (mrg a b).1.t, .int .i64 (mrg a b).1.l], .int .i64 (mrg a b).2]) ∧ Below w.heap.size w w' := by
  by_cases h1 : chk a = 0
  · by_cases h2 : chk b = 0
    · by_cases e1 : a.c = 0
      · rw [mrg_3 h1 h2 e1]
        obtain ⟨c, s, lo, hi, t, l⟩ := a
        simp only at e1
        subst e1
        exact merge_none1 _ _ _ _ _ _ _ _ _ _ _ _ h1 h2
      · by_cases e2 : b.c = 0
        · rw [mrg_4 h1 h2 e1 e2]
          obtain ⟨c, s, lo, hi, t, l⟩ := b
          simp only at e2
          subst e2
          exact merge_none2 _ _ _ _ _ _ _ _ _ _ _ _ h1 h2 (beq_of e1)
        · obtain ⟨⟨a1, _⟩, _⟩ := check_bounds h1
          obtain ⟨⟨b1, _⟩, _⟩ := check_bounds h2
          by_cases k1 : a.c + b.c ≤ 1073741824
          · have k1' : inB (a.c + b.c) 0 1073741824 = true := (inB_iff _ _ _).2 ⟨by omega, k1⟩
            by_cases k2 : inB (a.s + b.s) (-1125899906842624) 1125899906842624 = true
            · rw [mrg_5 h1 h2 e1 e2 k1 k2]
              exact merge_ok _ _ _ _ _ _ _ _ _ _ _ _ _ h1 h2 (beq_of e1) (beq_of e2) k1' k2
            · rw [mrg_6 h1 h2 e1 e2 (fun h => k2 h.2)]
              exact merge_big2 _ _ _ _ _ _ _ _ _ _ _ _ _ h1 h2 (beq_of e1) (beq_of e2) k1' (by simpa using k2)
          · rw [mrg_6 h1 h2 e1 e2 (fun h => k1 h.1)]
            exact merge_big1 _ _ _ _ _ _ _ _ _ _ _ _ _ h1 h2 (beq_of e1) (beq_of e2) ((inB_not _ _ _).2 (Or.inr (by omega)))
    · rw [mrg_2 h1 h2]
      exact merge_bad2 _ _ _ _ _ _ _ _ _ _ _ _ _ h1 (bne_of h2)
  · rw [mrg_1 h1]
    exact merge_bad1 _ _ _ _ _ _ _ _ _ _ _ _ _ (bne_of h1)

theorem pk_1 {t l t' l' : Int} (h : t < t') : pk (ltr t l t' l') t t' = t' ∧ pk (ltr t l t' l') l l' = l' := by
  have : ltr t l t' l' = false := by simp [ltr]; omega
  exact ⟨pk_f _ _ this, pk_f _ _ this⟩
theorem pk_2 {t l l' : Int} (h : l < l') : pk (ltr t l t l') t t = t ∧ pk (ltr t l t l') l l' = l' := by
  have : ltr t l t l' = false := by simp [ltr]; omega
  exact ⟨pk_f _ _ this, pk_f _ _ this⟩
theorem pk_3 {t l l' : Int} (h : l' ≤ l) : pk (ltr t l t l') t t = t ∧ pk (ltr t l t l') l l' = l := by
  by_cases e : l' < l
  · have : ltr t l t l' = true := by simp [ltr]; omega
    exact ⟨pk_t _ _ this, pk_t _ _ this⟩
  · have : ltr t l t l' = false := by simp [ltr]; omega
    exact ⟨pk_f _ _ this, (pk_f _ _ this).trans (by omega)⟩
theorem pk_4 {t l t' l' : Int} (h : t' < t) : pk (ltr t l t' l') t t' = t ∧ pk (ltr t l t' l') l l' = l := by
  have : ltr t l t' l' = true := by simp [ltr]; omega
  exact ⟨pk_t _ _ this, pk_t _ _ this⟩

theorem rmerge_any (a b : Ru) (w : World) :
    Calls Tryd.prog 61 #[.agg #[.int .i64 a.c, .int .i64 a.s, .int .i64 a.lo, .int .i64 a.hi, .int .i64 a.t, .int .i64 a.l], .agg #[.int .i64 b.c, .int .i64 b.s, .int .i64 b.lo, .int .i64 b.hi, .int .i64 b.t, .int .i64 b.l]] w fun e w' => e = .returned (.tuple #[.agg #[.int .i64 (mrg a b).1.c, .int .i64 (mrg a b).1.s, .int .i64 (mrg a b).1.lo, .int .i64 (mrg a b).1.hi, .int .i64 (mrg a b).1.t, .int .i64 (mrg a b).1.l], .int .i64 (mrg a b).2]) ∧ Below w.heap.size w w' := by
  by_cases h1 : chk a = 0
  · by_cases h2 : chk b = 0
    · by_cases e2 : b.c = 0
      · have hm : mrg a b = (a, 0) := by
          by_cases e1 : a.c = 0
          · rw [mrg_3 h1 h2 e1, mrg_33 h1 h2 e1 e2]
          · exact mrg_4 h1 h2 e1 e2
        rw [hm]
        obtain ⟨c, s, lo, hi, t, l⟩ := b
        simp only at e2
        subst e2
        exact rmerge_none2 _ _ _ _ _ _ _ _ _ _ _ _ h1 h2
      · by_cases e1 : a.c = 0
        · rw [mrg_3 h1 h2 e1]
          obtain ⟨c, s, lo, hi, t, l⟩ := a
          simp only at e1
          subst e1
          exact rmerge_none1 _ _ _ _ _ _ _ _ _ _ _ _ h1 h2 (beq_of e2)
        · obtain ⟨c, s, lo, hi, t, l⟩ := a
          obtain ⟨c', s', lo', hi', t', l'⟩ := b
          simp only at e1 e2
          by_cases k1 : c + c' ≤ 1073741824
          · by_cases k2 : inB (s + s') (-1125899906842624) 1125899906842624 = true
            · rw [mrg_5 h1 h2 e1 e2 k1 k2]
              simp only [jn]
              by_cases z1 : t < t'
              · rw [(pk_1 z1).1, (pk_1 z1).2]
                exact rmerge_ok_1 _ _ _ _ _ _ _ _ _ _ _ _ _ h1 h2 (beq_of e1) (beq_of e2) z1 k1 k2
              · by_cases z2 : t' < t
                · rw [(pk_4 z2).1, (pk_4 z2).2]
                  exact rmerge_ok_4 _ _ _ _ _ _ _ _ _ _ _ _ _ h1 h2 (beq_of e1) (beq_of e2) z2 k1 k2
                · obtain rfl : t = t' := by omega
                  by_cases z3 : l < l'
                  · rw [(pk_2 z3).1, (pk_2 z3).2]
                    exact rmerge_ok_2 _ _ _ _ _ _ _ _ _ _ _ _ h1 h2 (beq_of e1) (beq_of e2) z3 k1 k2
                  · have z4 : l' ≤ l := by omega
                    rw [(pk_3 z4).1, (pk_3 z4).2]
                    exact rmerge_ok_3 _ _ _ _ _ _ _ _ _ _ _ _ h1 h2 (beq_of e1) (beq_of e2) z4 k1 k2
            · rw [mrg_6 h1 h2 e1 e2 (fun h => k2 h.2)]
              have k2 : inB (s + s') (-1125899906842624) 1125899906842624 = false := by simpa using k2
              by_cases z1 : t < t'
              · exact rmerge_big2_1 _ _ _ _ _ _ _ _ _ _ _ _ _ h1 h2 (beq_of e1) (beq_of e2) z1 k1 k2
              · by_cases z2 : t' < t
                · exact rmerge_big2_4 _ _ _ _ _ _ _ _ _ _ _ _ _ h1 h2 (beq_of e1) (beq_of e2) z2 k1 k2
                · obtain rfl : t = t' := by omega
                  by_cases z3 : l < l'
                  · exact rmerge_big2_2 _ _ _ _ _ _ _ _ _ _ _ _ h1 h2 (beq_of e1) (beq_of e2) z3 k1 k2
                  · exact rmerge_big2_3 _ _ _ _ _ _ _ _ _ _ _ _ h1 h2 (beq_of e1) (beq_of e2) (show l' ≤ l by omega) k1 k2
          · rw [mrg_6 h1 h2 e1 e2 (fun h => k1 h.1)]
            have k1 : 1073741824 < c + c' := by omega
            by_cases z1 : t < t'
            · exact rmerge_big1_1 _ _ _ _ _ _ _ _ _ _ _ _ _ h1 h2 (beq_of e1) (beq_of e2) z1 k1
            · by_cases z2 : t' < t
              · exact rmerge_big1_4 _ _ _ _ _ _ _ _ _ _ _ _ _ h1 h2 (beq_of e1) (beq_of e2) z2 k1
              · obtain rfl : t = t' := by omega
                by_cases z3 : l < l'
                · exact rmerge_big1_2 _ _ _ _ _ _ _ _ _ _ _ _ h1 h2 (beq_of e1) (beq_of e2) z3 k1
                · exact rmerge_big1_3 _ _ _ _ _ _ _ _ _ _ _ _ h1 h2 (beq_of e1) (beq_of e2) (show l' ≤ l by omega) k1
    · rw [mrg_2 h1 h2]
      exact rmerge_bad2 _ _ _ _ _ _ _ _ _ _ _ _ _ h1 (bne_of h2)
  · rw [mrg_1 h1]
    exact rmerge_bad1 _ _ _ _ _ _ _ _ _ _ _ _ _ (bne_of h1) (beq_of h1)

end Go.Proofs.YtlojfgdpmaigmafDoor

/- Plain mathematics of points that come one by one: what is known of the first k of them. -/
namespace Go.Proofs.YtlojfgdpmaigmafDoor
open Go.RowKit Plain

theorem w64 (n : Int) (h : -9223372036854775808 ≤ n ∧ n ≤ 9223372036854775807) : wrap64 n = n := by unfold wrap64; omega

theorem mulbd {c x : Int} (h1 : 0 ≤ c) (h2 : c ≤ 1073741824) (h3 : -1000000 ≤ x) (h4 : x ≤ 1000000) : -1073741824000000 ≤ c * x ∧ c * x ≤ 1073741824000000 := by
  have a := Int.mul_le_mul_of_nonneg_left h3 h1
  have b := Int.mul_le_mul_of_nonneg_left h4 h1
  omega

theorem chk_ok {r : Ru} (h1 : 0 < r.c) (h2 : r.c ≤ 1073741824) (ht : 0 ≤ r.t ∧ r.t ≤ 1048575) (hlo : -1000000 ≤ r.lo) (hhi : r.hi ≤ 1000000) (hl : r.lo ≤ r.l ∧ r.l ≤ r.hi) (hs : r.c * r.lo ≤ r.s ∧ r.s ≤ r.c * r.hi) : chk r = 0 := by
  have m1 := mulbd (x := r.lo) (by omega) h2 hlo (by omega)
  have m2 := mulbd (x := r.hi) (by omega) h2 (by omega) hhi
  have hb : boundsB r.c r.s r.lo r.hi r.t r.l = true := by
    simp only [boundsB, Bool.and_eq_true, inB_iff]
    omega
  have hf : formB r.c r.s r.lo r.hi r.t r.l = true := by
    unfold formB
    rw [if_neg (by omega), w64 _ (by omega), w64 _ (by omega)]
    simp only [Bool.and_eq_true, inB_iff]
    omega
  simp [chk, checkC, hb, hf]

end Go.Proofs.YtlojfgdpmaigmafDoor

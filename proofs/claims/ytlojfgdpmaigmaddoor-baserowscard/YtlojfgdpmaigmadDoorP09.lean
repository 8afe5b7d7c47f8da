/- What Merge of package roll, and the document's answer to it, do with any two rollups. -/
import Derived.Test.YtlojfgdpmaigmadDoorP04
import Derived.Test.YtlojfgdpmaigmadDoorWalks11
import Derived.Test.YtlojfgdpmaigmadDoorWalks12
import Derived.Test.YtlojfgdpmaigmadDoorWalks13
import Derived.Test.YtlojfgdpmaigmadDoorRows
import Derived.Test.YtlojfgdpmaigmadDoorP01
import Derived.WalkKit
import Derived.WalkSpells
import Derived.WalkLawsBesides
import Derived.Handy
import Derived.Deep.Light
import Derived.Deep.OwnRows
import Derived.Laws.AppendOwnNone
import Derived.Deep.RegionHeld3
import Derived.Test.YtlojfgdpmaigmadDoorWalks4
namespace Go.Proofs.YtlojfgdpmaigmadDoor
open Go.RowKit Plain

/-- What is known of some points. -/
structure Ru where
  c : Int
  s : Int
  lo : Int
  hi : Int
  t : Int
  l : Int

def chk (r : Ru) : Int := checkC r.c r.s r.lo r.hi r.t r.l
def zro : Ru := ⟨0, 0, 0, 0, 0, 0⟩
def jn (a b : Ru) : Ru := ⟨a.c + b.c, a.s + b.s, mn a.lo b.lo, mx a.hi b.hi, pk (ltr a.t a.l b.t b.l) a.t b.t, pk (ltr a.t a.l b.t b.l) a.l b.l⟩
def mrg (a b : Ru) : Ru × Int :=
  if chk a ≠ 0 then (zro, chk a) else if chk b ≠ 0 then (zro, chk b) else if a.c = 0 then (b, 0) else if b.c = 0 then (a, 0)
  else if a.c + b.c ≤ 1073741824 ∧ inB (a.s + b.s) (-1125899906842624) 1125899906842624 = true then (jn a b, 0) else (zro, 1)

theorem mrg_1 {a b : Ru} (h : chk a ≠ 0) : mrg a b = (zro, chk a) := by unfold mrg; rw [if_pos h]
theorem mrg_2 {a b : Ru} (h : chk a = 0) (h' : chk b ≠ 0) : mrg a b = (zro, chk b) := by unfold mrg; rw [if_neg (by simpa using h), if_pos h']
theorem mrg_3 {a b : Ru} (h : chk a = 0) (h' : chk b = 0) (e : a.c = 0) : mrg a b = (b, 0) := by unfold mrg; rw [if_neg (by simpa using h), if_neg (by simpa using h'), if_pos e]
theorem mrg_4 {a b : Ru} (h : chk a = 0) (h' : chk b = 0) (e : ¬ a.c = 0) (e' : b.c = 0) : mrg a b = (a, 0) := by unfold mrg; rw [if_neg (by simpa using h), if_neg (by simpa using h'), if_neg e, if_pos e']
theorem mrg_5 {a b : Ru} (h : chk a = 0) (h' : chk b = 0) (e : ¬ a.c = 0) (e' : ¬ b.c = 0) (k : a.c + b.c ≤ 1073741824) (k' : inB (a.s + b.s) (-1125899906842624) 1125899906842624 = true) : mrg a b = (jn a b, 0) := by
  unfold mrg; rw [if_neg (by simpa using h), if_neg (by simpa using h'), if_neg e, if_neg e', if_pos ⟨k, k'⟩]
theorem mrg_6 {a b : Ru} (h : chk a = 0) (h' : chk b = 0) (e : ¬ a.c = 0) (e' : ¬ b.c = 0) (k : ¬ (a.c + b.c ≤ 1073741824 ∧ inB (a.s + b.s) (-1125899906842624) 1125899906842624 = true)) : mrg a b = (zro, 1) := by
  unfold mrg; rw [if_neg (by simpa using h), if_neg (by simpa using h'), if_neg e, if_neg e', if_neg k]
theorem mrg_33 {a b : Ru} (h : chk a = 0) (h' : chk b = 0) (e : a.c = 0) (e' : b.c = 0) : a = b := by
  have key : ∀ r : Ru, chk r = 0 → r.c = 0 → r = zro := by
    intro r hr hc
    obtain ⟨c, s, lo, hi, t, l⟩ := r
    simp only at hc
    subst hc
    simp only [chk, checkC] at hr
    by_cases hb : boundsB 0 s lo hi t l = true
    · rw [if_pos hb] at hr
      by_cases hf : formB 0 s lo hi t l = true
      · simp [formB, eqR] at hf
        obtain ⟨⟨⟨⟨rfl, rfl⟩, rfl⟩, rfl⟩, rfl⟩ := hf
        rfl
      · rw [if_neg hf] at hr; omega
    · rw [if_neg hb] at hr; omega
  rw [key a h e, key b h' e']

theorem bne_of {x : Int} (h : x ≠ 0) : (x != 0) = true := by simpa using h
theorem beq_of {x : Int} (h : x ≠ 0) : (x == 0) = false := by simpa using h

theorem merge_any (a b : Ru) (w : World) :
    Calls Tryd.prog 48 #[.agg #[.int .i64 a.c, .int .i64 a.s, .int .i64 a.lo, .int .i64 a.hi, .int .i64 a.t, .int .i64 a.l], .agg #[.int .i64 b.c, .int .i64 b.s, .int .i64 b.lo, .int .i64 b.hi, .int .i64 b.t, .int .i64 b.l]] w fun e w' => e = .returned (.tuple #[.agg #[.int .i64 (mrg a b).1.c, .int .i64 (mrg a b).1.s, .int .i64 (mrg a b).1.lo, .int .i64 (mrg a b).1.hi, .int .i64 (mrg a b).1.t, .int .i64 (mrg a b).1.l], .int .i64 (mrg a b).2]) ∧ Below w.heap.size w w' := by
  by_cases h1 : chk a = 0
  · by_cases h2 : chk b = 0
    · by_cases e1 : a.c = 0
      · rw [mrg_3 h1 h2 e1]
        obtain ⟨c, s, lo, hi, t, l⟩ := a
        simp only at e1
        subst e1
        exact merge_none1 _ _ _ _ _ _ _ _ _ _ _ _ h1 h2
      · by_cases e2 : b.c = 0
        · rw [mrg_4 h1 h2 e1 e2]
          obtain ⟨c, s, lo, hi, t, l⟩ := b
          simp only at e2
          subst e2
          exact merge_none2 _ _ _ _ _ _ _ _ _ _ _ _ h1 h2 (beq_of e1)
        · obtain ⟨⟨a1, _⟩, _⟩ := check_bounds h1
          obtain ⟨⟨b1, _⟩, _⟩ := check_bounds h2
          by_cases k1 : a.c + b.c ≤ 1073741824
          · have k1' : inB (a.c + b.c) 0 1073741824 = true := (inB_iff _ _ _).2 ⟨by omega, k1⟩
            by_cases k2 : inB (a.s + b.s) (-1125899906842624) 1125899906842624 = true
            · rw [mrg_5 h1 h2 e1 e2 k1 k2]
              exact merge_ok _ _ _ _ _ _ _ _ _ _ _ _ _ h1 h2 (beq_of e1) (beq_of e2) k1' k2
            · rw [mrg_6 h1 h2 e1 e2 (fun h => k2 h.2)]
              exact merge_big2 _ _ _ _ _ _ _ _ _ _ _ _ _ h1 h2 (beq_of e1) (beq_of e2) k1' (by simpa using k2)
          · rw [mrg_6 h1 h2 e1 e2 (fun h => k1 h.1)]
            exact merge_big1 _ _ _ _ _ _ _ _ _ _ _ _ _ h1 h2 (beq_of e1) (beq_of e2) ((inB_not _ _ _).2 (Or.inr (by omega)))
    · rw [mrg_2 h1 h2]
      exact merge_bad2 _ _ _ _ _ _ _ _ _ _ _ _ _ h1 (bne_of h2)
  · rw [mrg_1 h1]
    exact merge_bad1 _ _ _ _ _ _ _ _ _ _ _ _ _ (bne_of h1)

theorem pk_1 {t l t' l' : Int} (h : t < t') : pk (ltr t l t' l') t t' = t' ∧ pk (ltr t l t' l') l l' = l' := by
  have : ltr t l t' l' = false := by simp [ltr]; omega
  exact ⟨pk_f _ _ this, pk_f _ _ this⟩
theorem pk_2 {t l l' : Int} (h : l < l') : pk (ltr t l t l') t t = t ∧ pk (ltr t l t l') l l' = l' := by
  have : ltr t l t l' = false := by simp [ltr]; omega
  exact ⟨pk_f _ _ this, pk_f _ _ this⟩
theorem pk_3 {t l l' : Int} (h : l' ≤ l) : pk (ltr t l t l') t t = t ∧ pk (ltr t l t l') l l' = l := by
  by_cases e : l' < l
  · have : ltr t l t l' = true := by simp [ltr]; omega
    exact ⟨pk_t _ _ this, pk_t _ _ this⟩
  · have : ltr t l t l' = false := by simp [ltr]; omega
    exact ⟨pk_f _ _ this, (pk_f _ _ this).trans (by omega)⟩
theorem pk_4 {t l t' l' : Int} (h : t' < t) : pk (ltr t l t' l') t t' = t ∧ pk (ltr t l t' l') l l' = l := by
  have : ltr t l t' l' = true := by simp [ltr]; omega
  exact ⟨pk_t _ _ this, pk_t _ _ this⟩

theorem rmerge_any (a b : Ru) (w : World) :
    Calls Tryd.prog 34 #[.agg #[.int .i64 a.c, .int .i64 a.s, .int .i64 a.lo, .int .i64 a.hi, .int .i64 a.t, .int .i64 a.l], .agg #[.int .i64 b.c, .int .i64 b.s, .int .i64 b.lo, .int .i64 b.hi, .int .i64 b.t, .int .i64 b.l]] w fun e w' => e = .returned (.tuple #[.agg #[.int .i64 (mrg a b).1.c, .int .i64 (mrg a b).1.s, .int .i64 (mrg a b).1.lo, .int .i64 (mrg a b).1.hi, .int .i64 (mrg a b).1.t, .int .i64 (mrg a b).1.l], .int .i64 (mrg a b).2]) ∧ Below w.heap.size w w' := by
  by_cases h1 : chk a = 0
  · by_cases h2 : chk b = 0
    · by_cases e2 : b.c = 0
      · have hm : mrg a b = (a, 0) := by
          by_cases e1 : a.c = 0
          · rw [mrg_3 h1 h2 e1, mrg_33 h1 h2 e1 e2]
          · exact mrg_4 h1 h2 e1 e2
        rw [hm]
        obtain ⟨c, s, lo, hi, t, l⟩ := b
        simp only at e2
        subst e2
        exact rmerge_none2 _ _ _ _ _ _ _ _ _ _ _ _ h1 h2
      · by_cases e1 : a.c = 0
        · rw [mrg_3 h1 h2 e1]
          obtain ⟨c, s, lo, hi, t, l⟩ := a
          simp only at e1
          subst e1
          exact rmerge_none1 _ _ _ _ _ _ _ _ _ _ _ _ h1 h2 (beq_of e2)
        · obtain ⟨c, s, lo, hi, t, l⟩ := a
          obtain ⟨c', s', lo', hi', t', l'⟩ := b
          simp only at e1 e2
          by_cases k1 : c + c' ≤ 1073741824
          · by_cases k2 : inB (s + s') (-1125899906842624) 1125899906842624 = true
            · rw [mrg_5 h1 h2 e1 e2 k1 k2]
              simp only [jn]
              by_cases z1 : t < t'
              · rw [(pk_1 z1).1, (pk_1 z1).2]
                exact rmerge_ok_1 _ _ _ _ _ _ _ _ _ _ _ _ _ h1 h2 (beq_of e1) (beq_of e2) z1 k1 k2
              · by_cases z2 : t' < t
                · rw [(pk_4 z2).1, (pk_4 z2).2]
                  exact rmerge_ok_4 _ _ _ _ _ _ _ _ _ _ _ _ _ h1 h2 (beq_of e1) (beq_of e2) z2 k1 k2
                · obtain rfl : t = t' := by omega
                  by_cases z3 : l < l'
                  · rw [(pk_2 z3).1, (pk_2 z3).2]
                    exact rmerge_ok_2 _ _ _ _ _ _ _ _ _ _ _ _ h1 h2 (beq_of e1) (beq_of e2) z3 k1 k2
                  · have z4 : l' ≤ l := by omega
                    rw [(pk_3 z4).1, (pk_3 z4).2]
                    exact rmerge_ok_3 _ _ _ _ _ _ _ _ _ _ _ _ h1 h2 (beq_of e1) (beq_of e2) z4 k1 k2
            · rw [mrg_6 h1 h2 e1 e2 (fun h => k2 h.2)]
              have k2 : inB (s + s') (-1125899906842624) 1125899906842624 = false := by simpa using k2
              by_cases z1 : t < t'
              · exact rmerge_big2_1 _ _ _ _ _ _ _ _ _ _ _ _ _ h1 h2 (beq_of e1) (beq_of e2) z1 k1 k2
              · by_cases z2 : t' < t
                · exact rmerge_big2_4 _ _ _ _ _ _ _ _ _ _ _ _ _ h1 h2 (beq_of e1) (beq_of e2) z2 k1 k2
                · obtain rfl : t = t' := by omega
                  by_cases z3 : l < l'
                  · exact rmerge_big2_2 _ _ _ _ _ _ _ _ _ _ _ _ h1 h2 (beq_of e1) (beq_of e2) z3 k1 k2
                  · exact rmerge_big2_3 _ _ _ _ _ _ _ _ _ _ _ _ h1 h2 (beq_of e1) (beq_of e2) (show l' ≤ l by omega) k1 k2
          · rw [mrg_6 h1 h2 e1 e2 (fun h => k1 h.1)]
            have k1 : 1073741824 < c + c' := by omega
            by_cases z1 : t < t'
            · exact rmerge_big1_1 _ _ _ _ _ _ _ _ _ _ _ _ _ h1 h2 (beq_of e1) (beq_of e2) z1 k1
            · by_cases z2 : t' < t
              · exact rmerge_big1_4 _ _ _ _ _ _ _ _ _ _ _ _ _ h1 h2 (beq_of e1) (beq_of e2) z2 k1
              · obtain rfl : t = t' := by omega
                by_cases z3 : l < l'
                · exact rmerge_big1_2 _ _ _ _ _ _ _ _ _ _ _ _ h1 h2 (beq_of e1) (beq_of e2) z3 k1
                · exact rmerge_big1_3 _ _ _ _ _ _ _ _ _ _ _ _ h1 h2 (beq_of e1) (beq_of e2) (show l' ≤ l by omega) k1
    · rw [mrg_2 h1 h2]
      exact rmerge_bad2 _ _ _ _ _ _ _ _ _ _ _ _ _ h1 (bne_of h2)
  · rw [mrg_1 h1]
    exact rmerge_bad1 _ _ _ _ _ _ _ _ _ _ _ _ _ (bne_of h1) (beq_of h1)

end Go.Proofs.YtlojfgdpmaigmadDoor

/- Plain mathematics of points that come one by one: what is known of the first k of them. -/
namespace Go.Proofs.YtlojfgdpmaigmadDoor
open Go.RowKit Plain

theorem w64 (n : Int) (h : -9223372036854775808 ≤ n ∧ n ≤ 9223372036854775807) : wrap64 n = n := by unfold wrap64; omega

theorem mulbd {c x : Int} (h1 : 0 ≤ c) (h2 : c ≤ 1073741824) (h3 : -1000000 ≤ x) (h4 : x ≤ 1000000) : -1073741824000000 ≤ c * x ∧ c * x ≤ 1073741824000000 := by
  have a := Int.mul_le_mul_of_nonneg_left h3 h1
  have b := Int.mul_le_mul_of_nonneg_left h4 h1
  omega

theorem chk_ok {r : Ru} (h1 : 0 < r.c) (h2 : r.c ≤ 1073741824) (ht : 0 ≤ r.t ∧ r.t ≤ 1048575) (hlo : -1000000 ≤ r.lo) (hhi : r.hi ≤ 1000000) (hl : r.lo ≤ r.l ∧ r.l ≤ r.hi) (hs : r.c * r.lo ≤ r.s ∧ r.s ≤ r.c * r.hi) : chk r = 0 := by
  have m1 := mulbd (x := r.lo) (by omega) h2 hlo (by omega)
  have m2 := mulbd (x := r.hi) (by omega) h2 (by omega) hhi
  have hb : boundsB r.c r.s r.lo r.hi r.t r.l = true := by
    simp only [boundsB, Bool.and_eq_true, inB_iff]
    omega
  have hf : formB r.c r.s r.lo r.hi r.t r.l = true := by
    unfold formB
    rw [if_neg (by omega), w64 _ (by omega), w64 _ (by omega)]
    simp only [Bool.and_eq_true, inB_iff]
    omega
  simp [chk, checkC, hb, hf]

theorem chk_zro : chk zro = 0 := by simp [chk, checkC, zro, boundsB, formB, eqR, inB]

/-- What is known of one point. -/
def one (t v : Int) : Ru := ⟨1, v, v, v, t, v⟩
theorem chk_one {t v : Int} (ht : 0 ≤ t ∧ t ≤ 1048575) (hv : -1000000 ≤ v ∧ v ≤ 1000000) : chk (one t v) = 0 :=
  chk_ok (by simp [one]) (by simp [one]) ht hv.1 hv.2 (by simp [one]) (by simp [one])

/-- What is known of k points, at the times 0 to k - 1, with values from -1000 to 1000. -/
def Inv (k : Nat) (o : Ru) : Prop := k ≤ 30 ∧ o.c = k ∧ (k = 0 → o = zro) ∧ (0 < k → o.t = k - 1 ∧ -1000 ≤ o.lo ∧ o.hi ≤ 1000 ∧ (o.lo ≤ o.l ∧ o.l ≤ o.hi) ∧ (o.c * o.lo ≤ o.s ∧ o.s ≤ o.c * o.hi))

def nxt (k : Nat) (o : Ru) (v : Int) : Ru := if k = 0 then one 0 v else ⟨(k : Int) + 1, o.s + v, mn o.lo v, mx o.hi v, k, v⟩

theorem inv_chk {k : Nat} {o : Ru} (h : Inv k o) : chk o = 0 := by
  obtain ⟨h1, h2, h3, h4⟩ := h
  by_cases e : k = 0
  · rw [h3 e]; exact chk_zro
  · obtain ⟨a, b, c, d, e'⟩ := h4 (by omega)
    exact chk_ok (by omega) (by omega) (by omega) (by omega) (by omega) d e'

theorem inv_step {k : Nat} {o : Ru} {v : Int} (h : Inv k o) (hk : k < 30) (hv : -1000 ≤ v ∧ v ≤ 1000) : mrg o (one k v) = (nxt k o v, 0) ∧ Inv (k + 1) (nxt k o v) := by
  have hc := inv_chk h
  have h1 : chk (one k v) = 0 := chk_one (by omega) (by omega)
  obtain ⟨_, h2, h3, h4⟩ := h
  by_cases e : k = 0
  · subst e
    refine ⟨?_, ?_⟩
    · rw [mrg_3 hc h1 (by omega)]; simp [nxt]
    · refine ⟨by omega, by simp [nxt, one], by omega, fun _ => ?_⟩
      simp only [nxt, one, if_pos]
      omega
  · obtain ⟨a, b, c, d, e'⟩ := h4 (by omega)
    have m1 : o.c * mn o.lo v ≤ o.c * o.lo := Int.mul_le_mul_of_nonneg_left (by unfold mn; split <;> omega) (by omega)
    have m2 : o.c * o.hi ≤ o.c * mx o.hi v := Int.mul_le_mul_of_nonneg_left (by unfold mx; split <;> omega) (by omega)
    have m3 : mn o.lo v ≤ v ∧ -1000 ≤ mn o.lo v ∧ mn o.lo v ≤ o.lo := by unfold mn; split <;> omega
    have m4 : v ≤ mx o.hi v ∧ mx o.hi v ≤ 1000 ∧ o.hi ≤ mx o.hi v := by unfold mx; split <;> omega
    have b1 := mulbd (c := o.c) (x := o.lo) (by omega) (by omega) (by omega) (by omega)
    have b2 := mulbd (c := o.c) (x := o.hi) (by omega) (by omega) (by omega) (by omega)
    refine ⟨?_, ?_⟩
    · have hl : ltr o.t o.l k v = false := by simp [ltr]; omega
      rw [mrg_5 hc h1 (by omega) (by simp [one]) (by simp only [one]; omega) ((inB_iff _ _ _).2 (by simp only [one]; omega))]
      simp only [jn, one, nxt, if_neg e, h2, hl, pk_f _ _ rfl]
    · refine ⟨by omega, by simp [nxt, e], by omega, fun _ => ?_⟩
      simp only [nxt, if_neg e]
      have x1 : ((k : Int) + 1) * mn o.lo v = o.c * mn o.lo v + mn o.lo v := by rw [h2, Int.add_mul]; omega
      have x2 : ((k : Int) + 1) * mx o.hi v = o.c * mx o.hi v + mx o.hi v := by rw [h2, Int.add_mul]; omega
      rw [x1, x2]
      omega

end Go.Proofs.YtlojfgdpmaigmadDoor

/- Rows of cells, and what lies in them: numbers, entries. -/
namespace Go.Proofs.YtlojfgdpmaigmadDoor
open Go.RowKit

/-- A slice's cells, from its address on, in blocks below B. -/
def RowAt (B : Nat) (w : World) (A : Option Addr) (vs : List Value) : Prop :=
  vs = [] ∨ ∃ b o, A = some ⟨b, o, none⟩ ∧ b < B ∧ ∀ j u, vs[j]? = some u → w.cell? ⟨b, o + j, none⟩ = some u

theorem RowAt.below {B B' : Nat} {w w' : World} {A : Option Addr} {vs : List Value} (h : RowAt B w A vs) (hb : Below B' w w') (hB : B ≤ B') : RowAt B w' A vs := by
  rcases h with h | ⟨b, o, hA, hlt, hc⟩
  · exact .inl h
  · exact .inr ⟨b, o, hA, hlt, fun j u hu => (hb.cell (p := ⟨b, o + j, none⟩) (Nat.lt_of_lt_of_le hlt hB)).trans (hc j u hu)⟩

theorem RowAt.mono {B B' : Nat} {w : World} {A : Option Addr} {vs : List Value} (h : RowAt B w A vs) (hB : B ≤ B') : RowAt B' w A vs := by
  rcases h with h | ⟨b, o, hA, hlt, hc⟩
  · exact .inl h
  · exact .inr ⟨b, o, hA, by omega, hc⟩

structure En where
  key : Int
  c : Int
  s : Int
  lo : Int
  hi : Int
  t : Int
  l : Int
deriving DecidableEq, Inhabited

def En.vals (x : En) : List Value := [.int .i64 x.key, .int .i64 x.c, .int .i64 x.s, .int .i64 x.lo, .int .i64 x.hi, .int .i64 x.t, .int .i64 x.l]
def flatE : List En → List Value
  | [] => []
  | x :: r => x.vals ++ flatE r

theorem flatE_length : ∀ xs : List En, (flatE xs).length = xs.length * 7
  | [] => rfl
  | x :: r => by simp [flatE, En.vals, flatE_length r]; omega

theorem flatE_append : ∀ xs ys : List En, flatE (xs ++ ys) = flatE xs ++ flatE ys
  | [], _ => rfl
  | x :: r, ys => by simp [flatE, flatE_append r ys]

theorem flatE_get (xs : List En) (k j : Nat) (hk : k < xs.length) (hj : j < 7) : (flatE xs)[k * 7 + j]? = (xs[k]).vals[j]? := by
  induction xs generalizing k with
  | nil => simp at hk
  | cons x r ih =>
    cases k with
    | zero => simp only [flatE]; rw [List.getElem?_append_left (by simp [En.vals]; omega)]; simp
    | succ k =>
      simp only [flatE]
      rw [List.getElem?_append_right (by simp [En.vals]; omega)]
      have := ih k (by simpa using hk)
      simp only [En.vals, List.length_cons, List.length_nil] at *
      rw [show (k + 1) * 7 + j - (0 + 1 + 1 + 1 + 1 + 1 + 1 + 1) = k * 7 + j by omega]
      simpa using this

def ints (zs : List Int) : List Value := zs.map (.int .i64)

theorem RowAt.int {B : Nat} {w : World} {A : Option Addr} {zs : List Int} (h : RowAt B w A (ints zs)) {k : Nat} (hk : k < zs.length) :
    ∃ b o, A = some ⟨b, o, none⟩ ∧ b < B ∧ w.cell? ⟨b, o + k, none⟩ = some (.int .i64 zs[k]) := by
  rcases h with h | ⟨b, o, hA, hlt, hc⟩
  · simp [ints] at h; subst h; simp at hk
  · exact ⟨b, o, hA, hlt, hc k _ (by simp [ints, hk])⟩

structure EnAt (w : World) (b o : Nat) (x : En) : Prop where
  c0 : w.cell? ⟨b, o, none⟩ = some (.int .i64 x.key)
  c1 : w.cell? ⟨b, o + 1, none⟩ = some (.int .i64 x.c)
  c2 : w.cell? ⟨b, o + 2, none⟩ = some (.int .i64 x.s)
  c3 : w.cell? ⟨b, o + 3, none⟩ = some (.int .i64 x.lo)
  c4 : w.cell? ⟨b, o + 4, none⟩ = some (.int .i64 x.hi)
  c5 : w.cell? ⟨b, o + 5, none⟩ = some (.int .i64 x.t)
  c6 : w.cell? ⟨b, o + 6, none⟩ = some (.int .i64 x.l)

theorem RowAt.en {B : Nat} {w : World} {A : Option Addr} {xs : List En} (h : RowAt B w A (flatE xs)) {k : Nat} (hk : k < xs.length) :
    ∃ b o, A = some ⟨b, o, none⟩ ∧ b < B ∧ EnAt w b (o + k * 7) xs[k] := by
  rcases h with h | ⟨b, o, hA, hlt, hc⟩
  · have := flatE_length xs; rw [h] at this; simp at this; omega
  · refine ⟨b, o, hA, hlt, ?_⟩
    have g : ∀ j, j < 7 → ∀ u, (xs[k]).vals[j]? = some u → w.cell? ⟨b, o + k * 7 + j, none⟩ = some u := fun j hj u hu => by
      have := hc (k * 7 + j) u (by rw [flatE_get xs k j hk hj]; exact hu)
      rwa [← Nat.add_assoc] at this
    exact ⟨g 0 (by decide) _ rfl, g 1 (by decide) _ rfl, g 2 (by decide) _ rfl, g 3 (by decide) _ rfl, g 4 (by decide) _ rfl, g 5 (by decide) _ rfl, g 6 (by decide) _ rfl⟩

end Go.Proofs.YtlojfgdpmaigmadDoor

/- Copies of rows, and rows of nodes. -/
namespace Go.Proofs.YtlojfgdpmaigmadDoor
open Go.RowKit

theorem nextB {B : Nat} {w cur w1 : World} (h : Below B w cur) (hB : B ≤ w.heap.size) (hb : Below cur.heap.size cur w1) : Below B w w1 :=
  h.trans (hb.mono (Nat.le_trans hB h.size))

theorem RowAt.up {w cur : World} {A : Option Addr} {vs : List Value} (h : RowAt w.heap.size w A vs) (hb : Below w.heap.size w cur) : RowAt cur.heap.size cur A vs :=
  (h.below hb (Nat.le_refl _)).mono hb.size

theorem flatE_one (xs : List En) : ∀ u ∈ flatE xs, u.oneCell' = true := by
  induction xs with
  | nil => simp [flatE]
  | cons x r ih =>
    intro u hu
    simp only [flatE, En.vals, List.cons_append, List.nil_append, List.mem_cons] at hu
    rcases hu with h | h | h | h | h | h | h | h
    all_goals first | (subst h; rfl) | exact ih u h

theorem ints_one (zs : List Int) : ∀ u ∈ ints zs, u.oneCell' = true := ints_oneCell _ _

/-- What is owned lies there. -/
theorem own_row {w : World} {base : Nat} {e : TypeId} {size n : Nat} {v : Value} {vs : List Value} (h : w.ownsRow base e size v n vs) :
    ∃ A C, v = .slice A n C ∧ (A = none → C = 0) ∧ n ≤ C ∧ C ≤ maxLen ∧ RowAt w.heap.size w A vs := by
  rcases h.2 with ⟨hv, hn⟩ | ⟨g, cap, cur, hv, hb, hg, hl, hm, hs, ht⟩
  · subst hv hn
    refine ⟨none, 0, rfl, fun _ => rfl, Nat.le_refl _, Nat.zero_le _, .inl ?_⟩
    have := h.1
    simpa using this
  · subst hv
    refine ⟨some ⟨g, 0, none⟩, cap, rfl, (fun h => by cases h), hl, hm, .inr ⟨g, 0, rfl, (Array.getElem?_eq_some_iff.1 hg).1, fun j u hu => ?_⟩⟩
    have hj : j < n * size := by
      have := (List.getElem?_eq_some_iff.1 hu).1
      rw [h.1] at this
      exact this
    rw [Nat.zero_add, h.cellAt j hj]
    exact hu

theorem infoE : (Tryd.prog.info? 61).map (fun i => (i.zero, i.size, i.bytes)) = some (some (.agg #[.int .i64 0, .int .i64 0, .int .i64 0, .int .i64 0, .int .i64 0, .int .i64 0, .int .i64 0]), 7, 56) := by kernel_rfl
theorem infoInt : (Tryd.prog.info? 3).map (fun i => (i.zero, i.size, i.bytes)) = some (some (.int .i64 0), 1, 8) := by kernel_rfl

theorem news_of {w : World} {B : Nat} {ad : Addr} {vs : List Value} (h : RowAt B w (some ad) vs) : ∀ j u, vs[j]? = some u → w.cell? (ad.add j) = some u := by
  rcases h with h | ⟨b, o, hA, _, hc⟩
  · subst h; intro j u hu; simp at hu
  · cases hA
    intro j u hu
    rw [WideShapes.add_plain]
    exact hc j u hu

/-- A node, and where its lists lie. -/
structure Nd where
  leaf : Bool
  ents : List En
  keys : List Int
  kids : List Int
  buf : List En
deriving DecidableEq, Inhabited

structure PN where
  leaf : Bool
  eA : Option Addr
  eC : Nat
  ents : List En
  kA : Option Addr
  kC : Nat
  keys : List Int
  dA : Option Addr
  dC : Nat
  kids : List Int
  bA : Option Addr
  bC : Nat
  buf : List En
deriving Inhabited

def PN.nd (p : PN) : Nd := ⟨p.leaf, p.ents, p.keys, p.kids, p.buf⟩
def PN.vals (p : PN) : List Value := [.bool p.leaf, .slice p.eA p.ents.length p.eC, .slice p.kA p.keys.length p.kC, .slice p.dA p.kids.length p.dC, .slice p.bA p.buf.length p.bC]

structure PN.ok (B : Nat) (w : World) (p : PN) : Prop where
  e : RowAt B w p.eA (flatE p.ents)
  k : RowAt B w p.kA (ints p.keys)
  d : RowAt B w p.dA (ints p.kids)
  b : RowAt B w p.bA (flatE p.buf)
  en : p.eA = none → p.eC = 0
  kn : p.kA = none → p.kC = 0
  dn : p.dA = none → p.dC = 0
  bn : p.bA = none → p.bC = 0
  ez : p.ents.length * 56 ≤ 140737488351232
  kz : p.keys.length * 8 ≤ 140737488351232
  dz : p.kids.length * 8 ≤ 140737488351232
  bz : p.buf.length * 56 ≤ 140737488351232

theorem PN.ok.below {B B' : Nat} {w w' : World} {p : PN} (h : p.ok B w) (hb : Below B' w w') (hB : B ≤ B') : p.ok B w' :=
  ⟨h.e.below hb hB, h.k.below hb hB, h.d.below hb hB, h.b.below hb hB, h.en, h.kn, h.dn, h.bn, h.ez, h.kz, h.dz, h.bz⟩
theorem PN.ok.mono {B B' : Nat} {w : World} {p : PN} (h : p.ok B w) (hB : B ≤ B') : p.ok B' w :=
  ⟨h.e.mono hB, h.k.mono hB, h.d.mono hB, h.b.mono hB, h.en, h.kn, h.dn, h.bn, h.ez, h.kz, h.dz, h.bz⟩

def flatN : List PN → List Value
  | [] => []
  | x :: r => x.vals ++ flatN r

theorem flatN_length : ∀ ps : List PN, (flatN ps).length = ps.length * 5
  | [] => rfl
  | x :: r => by simp [flatN, PN.vals, flatN_length r]; omega

theorem flatN_append : ∀ xs ys : List PN, flatN (xs ++ ys) = flatN xs ++ flatN ys
  | [], _ => rfl
  | x :: r, ys => by simp [flatN, flatN_append r ys]

theorem flatN_get (ps : List PN) (k j : Nat) (hk : k < ps.length) (hj : j < 5) : (flatN ps)[k * 5 + j]? = (ps[k]).vals[j]? := by
  induction ps generalizing k with
  | nil => simp at hk
  | cons x r ih =>
    cases k with
    | zero => simp only [flatN]; rw [List.getElem?_append_left (by simp [PN.vals]; omega)]; simp
    | succ k =>
      simp only [flatN]
      rw [List.getElem?_append_right (by simp [PN.vals]; omega)]
      have := ih k (by simpa using hk)
      simp only [PN.vals, List.length_cons, List.length_nil] at *
      rw [show (k + 1) * 5 + j - (0 + 1 + 1 + 1 + 1 + 1) = k * 5 + j by omega]
      simpa using this

structure PnAt (w : World) (b o : Nat) (p : PN) : Prop where
  c0 : w.cell? ⟨b, o, none⟩ = some (.bool p.leaf)
  c1 : w.cell? ⟨b, o + 1, none⟩ = some (.slice p.eA p.ents.length p.eC)
  c2 : w.cell? ⟨b, o + 2, none⟩ = some (.slice p.kA p.keys.length p.kC)
  c3 : w.cell? ⟨b, o + 3, none⟩ = some (.slice p.dA p.kids.length p.dC)
  c4 : w.cell? ⟨b, o + 4, none⟩ = some (.slice p.bA p.buf.length p.bC)

theorem RowAt.pn {B : Nat} {w : World} {A : Option Addr} {ps : List PN} (h : RowAt B w A (flatN ps)) {k : Nat} (hk : k < ps.length) :
    ∃ b o, A = some ⟨b, o, none⟩ ∧ b < B ∧ PnAt w b (o + k * 5) ps[k] := by
  rcases h with h | ⟨b, o, hA, hlt, hc⟩
  · have := flatN_length ps; rw [h] at this; simp at this; omega
  · refine ⟨b, o, hA, hlt, ?_⟩
    have g : ∀ j, j < 5 → ∀ u, (ps[k]).vals[j]? = some u → w.cell? ⟨b, o + k * 5 + j, none⟩ = some u := fun j hj u hu => by
      have := hc (k * 5 + j) u (by rw [flatN_get ps k j hk hj]; exact hu)
      rwa [← Nat.add_assoc] at this
    exact ⟨g 0 (by decide) _ rfl, g 1 (by decide) _ rfl, g 2 (by decide) _ rfl, g 3 (by decide) _ rfl, g 4 (by decide) _ rfl⟩

/-- The nodes of a tree lie there. -/
structure NodesAt (B : Nat) (w : World) (A : Option Addr) (ps : List PN) : Prop where
  row : RowAt B w A (flatN ps)
  each : ∀ k (h : k < ps.length), (ps[k]).ok B w
  z : ps.length * 104 ≤ 140737488351232

theorem NodesAt.below {B B' : Nat} {w w' : World} {A : Option Addr} {ps : List PN} (h : NodesAt B w A ps) (hb : Below B' w w') (hB : B ≤ B') : NodesAt B w' A ps :=
  ⟨h.row.below hb hB, fun k hk => (h.each k hk).below hb hB, h.z⟩
theorem NodesAt.mono {B B' : Nat} {w : World} {A : Option Addr} {ps : List PN} (h : NodesAt B w A ps) (hB : B ≤ B') : NodesAt B' w A ps :=
  ⟨h.row.mono hB, fun k hk => (h.each k hk).mono hB, h.z⟩
theorem NodesAt.up {w cur : World} {A : Option Addr} {ps : List PN} (h : NodesAt w.heap.size w A ps) (hb : Below w.heap.size w cur) : NodesAt cur.heap.size cur A ps :=
  (h.below hb (Nat.le_refl _)).mono hb.size

end Go.Proofs.YtlojfgdpmaigmadDoor

/- Which trees may be, as plain functions: what the code's survey and the document's 'height' both come to. -/
namespace Go.Proofs.YtlojfgdpmaigmadDoor
open Go.RowKit Plain

def entB (x : En) (low high : Int) : Bool := decide (low ≤ x.key) && decide (x.key < high) && !(x.c == 0) && (checkC x.c x.s x.lo x.hi x.t x.l == 0)
def entsB : List En → Int → Int → Bool
  | [], _, _ => true
  | x :: r, low, high => entB x low high && entsB r (x.key + 1) high

abbrev St := List (Int × Int)
def seenB (S : St) (n : Int) : Bool := S.any fun p => p.1 == n

def leafB (x : Nd) (low high : Int) (f : Nat) : Bool :=
  x.keys.isEmpty && x.kids.isEmpty && x.buf.isEmpty && decide (x.ents.length ≤ 6) && (f == 11 || !x.ents.isEmpty) && entsB x.ents low high
def innerB (x : Nd) (low high : Int) : Bool :=
  x.ents.isEmpty && decide (2 ≤ x.kids.length) && decide (x.kids.length ≤ 4) && (x.keys.length + 1 == x.kids.length) && decide (x.buf.length ≤ 8) && entsB x.buf low high

def Wk (g : Int → Int → Int → St → Option (St × List Int)) : List Int → List Int → Int → Int → St → Option (St × List Int)
  | [], _, _, _, S => some (S, [])
  | d :: ds, keys, low, high, S =>
    match g d low (keys.headD high) S with
    | none => none
    | some (S1, l1) =>
      match Wk g ds keys.tail (keys.headD high) high S1 with
      | none => none
      | some (S2, l2) => some (S2, l1 ++ l2)

/-- From node n on, with keys from low to below high; 12 - f' deep, where f' + 1 is the first number: which nodes are come to, and how deep the leaves are. -/
def W (ns : List Nd) : Nat → Int → Int → Int → St → Option (St × List Int)
  | 0, _, _, _, _ => none
  | f + 1, n, low, high, S =>
    if n < 0 ∨ (ns.length : Int) ≤ n ∨ high ≤ low ∨ seenB S n = true then none
    else if (ns.getD n.toNat default).leaf = true then
      (if leafB (ns.getD n.toNat default) low high f = true then some ((n, 12 - (f : Int)) :: S, [12 - (f : Int)]) else none)
    else if innerB (ns.getD n.toNat default) low high = true then Wk (W ns f) (ns.getD n.toNat default).kids (ns.getD n.toNat default).keys low high ((n, 12 - (f : Int)) :: S)
    else none

def resH : Option (St × List Int) → Int
  | some (_, d :: r) => if r.all (· == d) = true then d else 0
  | _ => 0

def okL (L : Int) (l : List Int) : Bool := l.all (· == (if L = 0 then l.headD 0 else L))
def resN (L : Int) : Option (St × List Int) → Bool
  | some (_, l) => okL L l
  | none => false

/-- What Check tells. -/
def treeC (ns : List Nd) (root : Int) : Int :=
  if 2000 < ns.length then 1 else
  match W ns 12 root 0 1099511627776 [] with
  | some (S, l) => if okL 0 l = true ∧ S.length = ns.length then 0 else 7
  | none => 7

/-! ### Entries -/

def lowAt (xs : List En) (low : Int) (k : Nat) : Int := if k = 0 then low else (xs.getD (k - 1) default).key + 1

theorem entsB_drop {xs : List En} {low high : Int} {k : Nat} (hk : k < xs.length) :
    entsB (xs.drop k) (lowAt xs low k) high = (entB xs[k] (lowAt xs low k) high && entsB (xs.drop (k + 1)) (lowAt xs low (k + 1)) high) := by
  rw [List.drop_eq_getElem_cons hk]
  simp [entsB, lowAt, hk]

/-! ### What W yields -/

theorem Wk_low {g : Int → Int → Int → St → Option (St × List Int)} (hg : ∀ d low high S r, g d low high S = some r → low < high) :
    ∀ (ds keys : List Int) (low high : Int) (S : St) (r : St × List Int), Wk g ds keys low high S = some r → ds ≠ [] → keys.length + 1 = ds.length → low < high ∧ ∀ k ∈ keys, low < k ∧ k < high
  | [], _, _, _, _, _, _, h, _ => absurd rfl h
  | d :: ds, keys, low, high, S, r, hr, _, hl => by
    unfold Wk at hr
    split at hr
    · cases hr
    · rename_i S1 l1 h1
      have hlt := hg _ _ _ _ _ h1
      cases keys with
      | nil => exact ⟨by simpa using hlt, by simp⟩
      | cons k ks =>
        simp only [List.headD_cons, List.tail_cons] at hlt hr
        split at hr
        · cases hr
        · rename_i S2 l2 h2
          have hds : ds ≠ [] := by intro e; subst e; simp at hl
          have ih := Wk_low hg ds ks k high S1 _ h2 hds (by simpa using hl)
          refine ⟨by omega, fun x hx => ?_⟩
          rcases List.mem_cons.1 hx with rfl | hx
          · exact ⟨hlt, ih.1⟩
          · have := ih.2 x hx; omega

theorem W_low {ns : List Nd} : ∀ (f : Nat) (n low high : Int) (S : St) (r : St × List Int), W ns f n low high S = some r → low < high := by
  intro f n low high S r h
  cases f with
  | zero => cases h
  | succ f =>
    unfold W at h
    split at h
    · cases h
    · omega

theorem innerB_kids {x : Nd} {low high : Int} (h : innerB x low high = true) : x.ents = [] ∧ 2 ≤ x.kids.length ∧ x.kids.length ≤ 4 ∧ x.keys.length + 1 = x.kids.length ∧ x.buf.length ≤ 8 ∧ entsB x.buf low high = true := by
  simp only [innerB, Bool.and_eq_true, decide_eq_true_eq, beq_iff_eq, List.isEmpty_iff] at h
  obtain ⟨⟨⟨⟨⟨a, b⟩, c⟩, d⟩, e⟩, g⟩ := h
  exact ⟨a, b, c, d, e, g⟩

theorem leafB_iff {x : Nd} {low high : Int} {f : Nat} : leafB x low high f = true ↔ x.keys = [] ∧ x.kids = [] ∧ x.buf = [] ∧ x.ents.length ≤ 6 ∧ (f = 11 ∨ x.ents ≠ []) ∧ entsB x.ents low high = true := by
  simp only [leafB, Bool.and_eq_true, decide_eq_true_eq, beq_iff_eq, List.isEmpty_iff, Bool.or_eq_true, Bool.not_eq_true', List.isEmpty_eq_false_iff]
  constructor <;> intro h <;> simp_all

/-- The leaves' depths: there are some, each at least 1. -/
theorem Wk_ds {g : Int → Int → Int → St → Option (St × List Int)} (hg : ∀ d low high S S' l, g d low high S = some (S', l) → l ≠ [] ∧ ∀ x ∈ l, 1 ≤ x) :
    ∀ (ds keys : List Int) (low high : Int) (S S' : St) (l : List Int), Wk g ds keys low high S = some (S', l) → (ds ≠ [] → l ≠ []) ∧ ∀ x ∈ l, 1 ≤ x
  | [], _, _, _, _, _, _, h => by cases h; simp
  | d :: ds, keys, low, high, S, S', l, hr => by
    unfold Wk at hr
    split at hr
    · cases hr
    · rename_i S1 l1 h1
      split at hr
      · cases hr
      · rename_i S2 l2 h2
        cases hr
        have a := hg _ _ _ _ _ _ h1
        have b := Wk_ds hg _ _ _ _ _ _ _ h2
        refine ⟨fun _ e => a.1 (List.append_eq_nil_iff.1 e).1, fun x hx => ?_⟩
        rcases List.mem_append.1 hx with hx | hx
        · exact a.2 x hx
        · exact b.2 x hx

theorem W_ds {ns : List Nd} : ∀ (f : Nat), f ≤ 12 → ∀ (n low high : Int) (S S' : St) (l : List Int), W ns f n low high S = some (S', l) → l ≠ [] ∧ ∀ x ∈ l, 1 ≤ x := by
  intro f
  induction f with
  | zero => intro _ n low high S S' l h; cases h
  | succ f ih =>
    intro hf n low high S S' l h
    unfold W at h
    split at h
    · cases h
    · split at h
      · split at h
        · cases h
          exact ⟨by simp, by simp; omega⟩
        · cases h
      · split at h
        · rename_i hin
          have := Wk_ds (ih (by omega)) _ _ _ _ _ _ _ h
          have hk := (innerB_kids hin).2.1
          exact ⟨this.1 (by intro e; rw [e] at hk; simp at hk), this.2⟩
        · cases h

/-- What was seen stays seen; each once; all are places of nodes. -/
def StOk (N : Nat) (S : St) : Prop := (S.map (·.1)).Nodup ∧ ∀ p ∈ S, 0 ≤ p.1 ∧ p.1 < (N : Int)

theorem seenB_iff {S : St} {n : Int} : seenB S n = true ↔ n ∈ S.map (·.1) := by
  simp [seenB]

theorem Wk_st {N : Nat} {g : Int → Int → Int → St → Option (St × List Int)} (hg : ∀ d low high S S' l, g d low high S = some (S', l) → StOk N S → StOk N S' ∧ ∀ p ∈ S, p ∈ S') :
    ∀ (ds keys : List Int) (low high : Int) (S S' : St) (l : List Int), Wk g ds keys low high S = some (S', l) → StOk N S → StOk N S' ∧ ∀ p ∈ S, p ∈ S'
  | [], _, _, _, _, _, _, h => by cases h; exact fun h => ⟨h, fun _ h => h⟩
  | d :: ds, keys, low, high, S, S', l, hr => by
    unfold Wk at hr
    split at hr
    · cases hr
    · rename_i S1 l1 h1
      split at hr
      · cases hr
      · rename_i S2 l2 h2
        cases hr
        intro hS
        have a := hg _ _ _ _ _ _ h1 hS
        have b := Wk_st hg _ _ _ _ _ _ _ h2 a.1
        exact ⟨b.1, fun p hp => b.2 p (a.2 p hp)⟩

theorem W_st {ns : List Nd} : ∀ (f : Nat) (n low high : Int) (S S' : St) (l : List Int), W ns f n low high S = some (S', l) → StOk ns.length S → StOk ns.length S' ∧ ∀ p ∈ S, p ∈ S' := by
  intro f
  induction f with
  | zero => intro n low high S S' l h; cases h
  | succ f ih =>
    intro n low high S S' l h hS
    unfold W at h
    split at h
    · cases h
    · rename_i hc
      have h1 : StOk ns.length ((n, 12 - (f : Int)) :: S) := by
        refine ⟨?_, fun p hp => ?_⟩
        · rw [List.map_cons, List.nodup_cons]
          refine ⟨fun e => hc (.inr (.inr (.inr (seenB_iff.2 e)))), hS.1⟩
        · rcases List.mem_cons.1 hp with rfl | hp
          · constructor <;> simp <;> omega
          · exact hS.2 p hp
      split at h
      · split at h
        · cases h
          exact ⟨h1, fun p hp => List.mem_cons_of_mem _ hp⟩
        · cases h
      · split at h
        · have := Wk_st ih _ _ _ _ _ _ _ h h1
          exact ⟨this.1, fun p hp => this.2 p (List.mem_cons_of_mem _ hp)⟩
        · cases h

/-! ### Counting -/

theorem nodup_le {α : Type} [DecidableEq α] : ∀ (l m : List α), l.Nodup → (∀ x ∈ l, x ∈ m) → l.length ≤ m.length
  | [], _, _, _ => Nat.zero_le _
  | x :: l, m, hn, hs => by
    rw [List.nodup_cons] at hn
    have hx : x ∈ m := hs x List.mem_cons_self
    have := nodup_le l (m.erase x) hn.2 (fun y hy => (List.mem_erase_of_ne (by intro e; subst e; exact hn.1 hy)).2 (hs y (List.mem_cons_of_mem _ hy)))
    rw [List.length_erase_of_mem hx] at this
    have hpos : 0 < m.length := List.length_pos_of_mem hx
    simp only [List.length_cons]
    omega

theorem all_seen {N : Nat} {S : St} (h : StOk N S) : S.length = N ↔ ∀ i : Nat, i < N → seenB S i = true := by
  have hsub : ∀ x ∈ S.map (·.1), x ∈ (List.range N).map (fun i : Nat => (i : Int)) := by
    intro x hx
    obtain ⟨p, hp, rfl⟩ := List.mem_map.1 hx
    have := h.2 p hp
    exact List.mem_map.2 ⟨p.1.toNat, by simp; omega, by omega⟩
  have hrn : ((List.range N).map (fun i : Nat => (i : Int))).Nodup := by
    rw [List.Nodup, List.pairwise_map]
    exact List.nodup_range.imp (fun h e => h (by omega))
  constructor
  · intro hl i hi
    rw [seenB_iff]
    apply Classical.byContradiction
    intro hni
    have := nodup_le ((i : Int) :: S.map (·.1)) ((List.range N).map (fun i : Nat => (i : Int))) (List.nodup_cons.2 ⟨hni, h.1⟩) (fun x hx => by
      rcases List.mem_cons.1 hx with rfl | hx
      · exact List.mem_map.2 ⟨i, by simpa using hi, rfl⟩
      · exact hsub x hx)
    simp at this
    omega
  · intro hall
    have h1 := nodup_le _ _ h.1 hsub
    have h2 := nodup_le _ (S.map (·.1)) hrn (fun x hx => by
      obtain ⟨i, hi, rfl⟩ := List.mem_map.1 hx
      exact seenB_iff.1 (hall i (by simpa using hi)))
    simp at h1 h2
    omega

end Go.Proofs.YtlojfgdpmaigmadDoor

/- What comes together, in whatever order: rollups, and entries by their keys. -/
namespace Go.Proofs.YtlojfgdpmaigmadDoor
open Go.RowKit Plain

theorem Ru.ext' {a b : Ru} (h1 : a.c = b.c) (h2 : a.s = b.s) (h3 : a.lo = b.lo) (h4 : a.hi = b.hi) (h5 : a.t = b.t) (h6 : a.l = b.l) : a = b := by
  cases a; cases b; simp at *; exact ⟨h1, h2, h3, h4, h5, h6⟩

theorem mn_comm (a b : Int) : mn a b = mn b a := by unfold mn; split <;> split <;> omega
theorem mx_comm (a b : Int) : mx a b = mx b a := by unfold mx; split <;> split <;> omega
theorem mn_assoc (a b c : Int) : mn (mn a b) c = mn a (mn b c) := by
  unfold mn
  by_cases h1 : a ≤ b <;> by_cases h2 : b ≤ c <;> by_cases h3 : a ≤ c <;> simp [h1, h2, h3] <;> omega
theorem mx_assoc (a b c : Int) : mx (mx a b) c = mx a (mx b c) := by
  unfold mx
  by_cases h1 : a ≤ b <;> by_cases h2 : b ≤ c <;> by_cases h3 : a ≤ c <;> simp [h1, h2, h3] <;> omega

theorem ltr_iff {t l t' l' : Int} : ltr t l t' l' = true ↔ t' < t ∨ (t = t' ∧ l' < l) := by simp [ltr]

/-- The later of two last points, as a pair. -/
theorem jn_tl (a b : Ru) : ((jn a b).t = a.t ∧ (jn a b).l = a.l ∧ (b.t < a.t ∨ (a.t = b.t ∧ b.l < a.l))) ∨ ((jn a b).t = b.t ∧ (jn a b).l = b.l ∧ ¬ (b.t < a.t ∨ (a.t = b.t ∧ b.l < a.l))) := by
  by_cases h : ltr a.t a.l b.t b.l = true
  · left
    refine ⟨?_, ?_, ltr_iff.1 h⟩ <;> simp [jn, pk, h]
  · right
    refine ⟨?_, ?_, fun e => h (ltr_iff.2 e)⟩ <;> simp [jn, pk, h]

theorem jn_comm (a b : Ru) : jn a b = jn b a := by
  have h1 := jn_tl a b
  have h2 := jn_tl b a
  refine Ru.ext' (Int.add_comm _ _) (Int.add_comm _ _) (mn_comm _ _) (mx_comm _ _) ?_ ?_ <;> omega

theorem jn_assoc (a b c : Ru) : jn (jn a b) c = jn a (jn b c) := by
  have h1 := jn_tl a b
  have h2 := jn_tl (jn a b) c
  have h3 := jn_tl b c
  have h4 := jn_tl a (jn b c)
  refine Ru.ext' (Int.add_assoc _ _ _) (Int.add_assoc _ _ _) (mn_assoc _ _ _) (mx_assoc _ _ _) ?_ ?_
  · rcases h1 with h1 | h1 <;> rcases h3 with h3 | h3 <;> omega
  · rcases h1 with h1 | h1 <;> rcases h3 with h3 | h3 <;> omega

/-- A rollup that may be, of some points. -/
def Good (a : Ru) : Prop := chk a = 0 ∧ a.c ≠ 0

theorem good_iff {a : Ru} : Good a ↔ (1 ≤ a.c ∧ a.c ≤ 1073741824) ∧ (0 ≤ a.t ∧ a.t ≤ 1048575) ∧ -1000000 ≤ a.lo ∧ a.hi ≤ 1000000 ∧ (a.lo ≤ a.l ∧ a.l ≤ a.hi) ∧ (a.c * a.lo ≤ a.s ∧ a.s ≤ a.c * a.hi) := by
  constructor
  · rintro ⟨h, hc⟩
    obtain ⟨b1, b2, b3, b4, b5, b6⟩ := check_bounds h
    have m1 := mulbd (x := a.lo) b1.1 b1.2 b4.1 b4.2
    have m2 := mulbd (x := a.hi) b1.1 b1.2 b5.1 b5.2
    have hf : formB a.c a.s a.lo a.hi a.t a.l = true := by
      unfold chk checkC at h
      split at h
      · split at h
        · assumption
        · omega
      · omega
    unfold formB at hf
    rw [if_neg hc, w64 _ (by omega), w64 _ (by omega)] at hf
    simp only [Bool.and_eq_true, inB_iff] at hf
    exact ⟨by omega, b3, b4.1, b5.2, hf.1, hf.2⟩
  · rintro ⟨h1, h2, h3, h4, h5, h6⟩
    exact ⟨chk_ok (by omega) h1.2 h2 h3 h4 h5 h6, by omega⟩

theorem mn_le (a b : Int) : mn a b ≤ a ∧ mn a b ≤ b ∧ (mn a b = a ∨ mn a b = b) := by unfold mn; split <;> omega
theorem mx_ge (a b : Int) : a ≤ mx a b ∧ b ≤ mx a b ∧ (mx a b = a ∨ mx a b = b) := by unfold mx; split <;> omega

theorem good_jn {a b : Ru} (ha : Good a) (hb : Good b) (h : a.c + b.c ≤ 1073741824) : Good (jn a b) := by
  rw [good_iff] at *
  obtain ⟨a1, a2, a3, a4, a5, a6⟩ := ha
  obtain ⟨b1, b2, b3, b4, b5, b6⟩ := hb
  have n := mn_le a.lo b.lo
  have x := mx_ge a.hi b.hi
  have tl := jn_tl a b
  have e1 : (jn a b).lo = mn a.lo b.lo := rfl
  have e2 : (jn a b).hi = mx a.hi b.hi := rfl
  have e3 : (jn a b).c = a.c + b.c := rfl
  have e4 : (jn a b).s = a.s + b.s := rfl
  have p1 := Int.mul_le_mul_of_nonneg_left n.1 (show 0 ≤ a.c by omega)
  have p2 := Int.mul_le_mul_of_nonneg_left n.2.1 (show 0 ≤ b.c by omega)
  have p3 := Int.mul_le_mul_of_nonneg_left x.1 (show 0 ≤ a.c by omega)
  have p4 := Int.mul_le_mul_of_nonneg_left x.2.1 (show 0 ≤ b.c by omega)
  rw [e1, e2, e3, e4, Int.add_mul, Int.add_mul]
  refine ⟨by omega, by omega, by omega, by omega, by omega, by omega⟩

theorem mrg_good {a b : Ru} (ha : Good a) (hb : Good b) : mrg a b = if a.c + b.c ≤ 1073741824 then (jn a b, 0) else (zro, 1) := by
  have ga := good_iff.1 ha
  have gb := good_iff.1 hb
  split
  · rename_i h
    refine mrg_5 ha.1 hb.1 ha.2 hb.2 h ?_
    have gj := good_iff.1 (good_jn ha hb h)
    have hc := check_bounds (good_jn ha hb h).1
    rw [inB_iff]
    exact hc.2.1
  · rename_i h
    exact mrg_6 ha.1 hb.1 ha.2 hb.2 (fun e => h e.1)

theorem mrg_zro {b : Ru} (hb : Good b) : mrg zro b = (b, 0) := mrg_3 chk_zro hb.1 rfl

/-! ### Entries -/

def En.ru (x : En) : Ru := ⟨x.c, x.s, x.lo, x.hi, x.t, x.l⟩
def mkE (k : Int) (r : Ru) : En := ⟨k, r.c, r.s, r.lo, r.hi, r.t, r.l⟩
theorem mkE_ru (k : Int) (r : Ru) : (mkE k r).ru = r := rfl
theorem ru_mkE (x : En) : mkE x.key x.ru = x := rfl
theorem mkE_key (k : Int) (r : Ru) : (mkE k r).key = k := rfl
theorem mkE_c (k : Int) (r : Ru) : (mkE k r).c = r.c := rfl

theorem entB_good {x : En} {low high : Int} (h : entB x low high = true) : Good x.ru := by
  simp only [entB, Bool.and_eq_true, Bool.not_eq_true', beq_eq_false_iff_ne, beq_iff_eq] at h
  exact ⟨h.2, h.1.2⟩

theorem entsB_good {high : Int} : ∀ {xs : List En} {low : Int}, entsB xs low high = true → ∀ x ∈ xs, Good x.ru
  | [], _, _, x, hx => by simp at hx
  | y :: r, low, h, x, hx => by
    simp only [entsB, Bool.and_eq_true] at h
    rcases List.mem_cons.1 hx with rfl | hx
    · exact entB_good h.1
    · exact entsB_good h.2 x hx

/-- Entries with one more; none: what is known of its key can't come together. -/
def ins : List En → En → Option (List En)
  | [], x => some [x]
  | y :: r, x =>
    if x.key < y.key then some (x :: y :: r)
    else if y.key = x.key then (if y.c + x.c ≤ 1073741824 then some (mkE x.key (jn y.ru x.ru) :: r) else none)
    else (ins r x).map (y :: ·)
def insO (o : Option (List En)) (x : En) : Option (List En) := o.bind fun l => ins l x
def allL (xs : List En) : Option (List En) := xs.foldl insO (some [])

theorem ins_lt {y x : En} {r : List En} (h : x.key < y.key) : ins (y :: r) x = some (x :: y :: r) := by simp [ins, h]
theorem ins_eq {y x : En} {r : List En} (h : y.key = x.key) : ins (y :: r) x = if y.c + x.c ≤ 1073741824 then some (mkE x.key (jn y.ru x.ru) :: r) else none := by
  simp [ins, h]
theorem ins_gt {y x : En} {r : List En} (h : y.key < x.key) : ins (y :: r) x = (ins r x).map (y :: ·) := by
  simp only [ins]
  rw [if_neg (by omega), if_neg (by omega)]

theorem map_bind_cons {o : Option (List En)} {y x : En} (h : y.key < x.key) : (o.map (y :: ·)).bind (ins · x) = (o.bind (ins · x)).map (y :: ·) := by
  cases o with
  | none => rfl
  | some l => simp [ins_gt h]

theorem ins_comm {x y : En} (hx : 1 ≤ x.c) (hy : 1 ≤ y.c) : ∀ l : List En, (ins l x).bind (ins · y) = (ins l y).bind (ins · x)
  | [] => by
    simp only [ins, Option.bind_some]
    rcases Int.lt_trichotomy x.key y.key with h | h | h
    · have h1 : ¬ y.key < x.key := by omega
      have h2 : ¬ x.key = y.key := by omega
      simp [h, h1, h2]
    · have h1 : ¬ y.key < x.key := by omega
      have h2 : ¬ x.key < y.key := by omega
      simp only [h, Int.lt_irrefl, if_false, if_true]
      rw [Int.add_comm y.c x.c, jn_comm y.ru x.ru]
    · have h1 : ¬ x.key < y.key := by omega
      have h2 : ¬ y.key = x.key := by omega
      simp [h, h1, h2]
  | z :: r => by
    rcases Int.lt_trichotomy x.key z.key with hxz | hxz | hxz <;> rcases Int.lt_trichotomy y.key z.key with hyz | hyz | hyz
    · rw [ins_lt hxz, ins_lt hyz]
      simp only [Option.bind_some]
      rcases Int.lt_trichotomy x.key y.key with h | h | h
      · rw [ins_gt h, ins_lt h, ins_lt hyz]; rfl
      · rw [ins_eq h, ins_eq h.symm, Int.add_comm y.c x.c, jn_comm y.ru x.ru, h]
      · rw [ins_lt h, ins_gt h, ins_lt hxz]; rfl
    · rw [ins_lt hxz, ins_eq hyz.symm]
      simp only [Option.bind_some]
      rw [ins_gt (by omega), ins_eq hyz.symm]
      split
      · simp only [Option.map_some, Option.bind_some]
        rw [ins_lt (by rw [mkE_key]; omega)]
      · rfl
    · rw [ins_lt hxz, ins_gt hyz]
      simp only [Option.bind_some]
      rw [ins_gt (by omega), ins_gt hyz]
      cases ins r y with
      | none => rfl
      | some l => simp [ins_lt hxz]
    · rw [ins_eq hxz.symm, ins_lt hyz]
      simp only [Option.bind_some]
      rw [ins_gt (by omega), ins_eq hxz.symm]
      split
      · simp only [Option.map_some, Option.bind_some]
        rw [ins_lt (by rw [mkE_key]; omega)]
      · rfl
    · rw [ins_eq hxz.symm, ins_eq hyz.symm]
      have hxy : x.key = y.key := by omega
      by_cases h1 : z.c + x.c ≤ 1073741824 <;> by_cases h2 : z.c + y.c ≤ 1073741824
      · simp only [h1, h2, if_true, Option.bind_some]
        rw [ins_eq (by rw [mkE_key]; exact hxy), ins_eq (by rw [mkE_key]; exact hxy.symm)]
        show (if z.c + x.c + y.c ≤ 1073741824 then some (mkE y.key (jn (jn z.ru x.ru) y.ru) :: r) else none) = if z.c + y.c + x.c ≤ 1073741824 then some (mkE x.key (jn (jn z.ru y.ru) x.ru) :: r) else none
        rw [jn_assoc, jn_assoc, jn_comm x.ru y.ru, hxy]
        by_cases h3 : z.c + x.c + y.c ≤ 1073741824
        · rw [if_pos h3, if_pos (by omega)]
        · rw [if_neg h3, if_neg (by omega)]
      · simp only [h1, h2, if_true, if_false, Option.bind_some, Option.bind_none]
        rw [ins_eq (by rw [mkE_key]; exact hxy)]
        exact if_neg (show ¬ z.c + x.c + y.c ≤ 1073741824 by omega)
      · simp only [h1, h2, if_true, if_false, Option.bind_some, Option.bind_none]
        rw [ins_eq (by rw [mkE_key]; exact hxy.symm)]
        exact (if_neg (show ¬ z.c + y.c + x.c ≤ 1073741824 by omega)).symm
      · simp [h1, h2]
    · rw [ins_eq hxz.symm, ins_gt hyz]
      by_cases h1 : z.c + x.c ≤ 1073741824
      · simp only [h1, if_true, Option.bind_some]
        rw [ins_gt (by rw [mkE_key]; omega)]
        cases ins r y with
        | none => rfl
        | some l => simp [ins_eq hxz.symm, h1]
      · simp only [h1, if_false, Option.bind_none]
        cases ins r y with
        | none => rfl
        | some l => simp [ins_eq hxz.symm, h1]
    · rw [ins_gt hxz, ins_lt hyz]
      simp only [Option.bind_some]
      rw [ins_gt (by omega), ins_gt hxz]
      cases ins r x with
      | none => rfl
      | some l => simp [ins_lt hyz]
    · rw [ins_gt hxz, ins_eq hyz.symm]
      by_cases h1 : z.c + y.c ≤ 1073741824
      · simp only [h1, if_true, Option.bind_some]
        rw [ins_gt (by rw [mkE_key]; omega)]
        cases ins r x with
        | none => rfl
        | some l => simp [ins_eq hyz.symm, h1]
      · simp only [h1, if_false, Option.bind_none]
        cases ins r x with
        | none => rfl
        | some l => simp [ins_eq hyz.symm, h1]
    · rw [ins_gt hxz, ins_gt hyz, map_bind_cons hyz, map_bind_cons hxz, ins_comm hx hy r]

/-- It does not matter in what order entries come together. -/
theorem allL_perm {l₁ l₂ : List En} (h : l₁.Perm l₂) (hp : ∀ x ∈ l₁, 1 ≤ x.c) : allL l₁ = allL l₂ := by
  unfold allL
  refine h.foldl_eq' (fun x hx y hy z => ?_) _
  cases z with
  | none => rfl
  | some l => exact ins_comm (hp x hx) (hp y hy) l

end Go.Proofs.YtlojfgdpmaigmadDoor

/- A loop over kids, as plain functions. -/
namespace Go.Proofs.YtlojfgdpmaigmadDoor
open Go.RowKit Plain

def join (acc : List Int) : Option (St × List Int) → Option (St × List Int)
  | none => none
  | some (S, l) => some (S, acc ++ l)

theorem join_nil (r : Option (St × List Int)) : join [] r = r := by cases r <;> simp [join]
theorem join_join (a b : List Int) (r : Option (St × List Int)) : join a (join b r) = join (a ++ b) r := by cases r <;> simp [join]

def toAt (keys : List Int) (high : Int) (i : Nat) : Int := if i < keys.length then keys.getD i 0 else high

theorem headD_drop (keys : List Int) (high : Int) (i : Nat) : (keys.drop i).headD high = toAt keys high i := by
  unfold toAt
  split
  · rename_i h
    rw [List.drop_eq_getElem_cons h]
    simp [h]
  · rename_i h
    rw [List.drop_eq_nil_of_le (by omega)]
    rfl

theorem Wk_drop {g : Int → Int → Int → St → Option (St × List Int)} {kids keys : List Int} {lo high : Int} {S : St} {i : Nat} (hi : i < kids.length) :
    Wk g (kids.drop i) (keys.drop i) lo high S =
      match g kids[i] lo (toAt keys high i) S with
      | none => none
      | some (S1, l1) => join l1 (Wk g (kids.drop (i + 1)) (keys.drop (i + 1)) (toAt keys high i) high S1) := by
  rw [List.drop_eq_getElem_cons hi]
  simp only [Wk, headD_drop, List.tail_drop]
  cases g kids[i] lo (toAt keys high i) S with
  | none => rfl
  | some p =>
    obtain ⟨S1, l1⟩ := p
    simp only
    cases Wk g (kids.drop (i + 1)) (keys.drop (i + 1)) (toAt keys high i) high S1 with
    | none => rfl
    | some q => rfl

/-- What the loop has come to behind i kids. -/
structure KidsAt (g : Int → Int → Int → St → Option (St × List Int)) (kids keys : List Int) (low high : Int) (S0 : St) (i : Nat) (lo : Int) (S : St) (acc : List Int) (a : Int) : Prop where
  eq : Wk g kids keys low high S0 = join acc (Wk g (kids.drop i) (keys.drop i) lo high S)
  same : ∀ x ∈ acc, x = a
  some : 0 < i → acc ≠ []
  none : acc = [] → a = 0
  pos : acc ≠ [] → 1 ≤ a
  low : low ≤ lo

theorem kidsAt_start (g : Int → Int → Int → St → Option (St × List Int)) (kids keys : List Int) (low high : Int) (S0 : St) : KidsAt g kids keys low high S0 0 low S0 [] 0 :=
  ⟨by rw [join_nil]; rfl, by simp, by simp, fun _ => rfl, by simp, Int.le_refl _⟩

theorem resH_bad {acc : List Int} {R : Option (St × List Int)} {x y : Int} (hx : x ∈ acc) (hy : y ∈ acc) (h : x ≠ y) : resH (join acc R) = 0 := by
  cases R with
  | none => rfl
  | some p =>
    obtain ⟨S, l⟩ := p
    cases acc with
    | nil => simp at hx
    | cons d r =>
      simp only [join, List.cons_append, resH]
      split
      · rename_i hall
        rw [List.all_eq_true] at hall
        have e : ∀ z ∈ d :: r, z = d := by
          intro z hz
          rcases List.mem_cons.1 hz with rfl | hz
          · rfl
          · simpa using hall z (List.mem_append_left _ hz)
        exact absurd ((e x hx).trans (e y hy).symm) h
      · rfl

theorem resH_some {S : St} {l : List Int} {h : Int} (hr : resH (some (S, l)) = h) (h0 : h ≠ 0) : l ≠ [] ∧ ∀ x ∈ l, x = h := by
  cases l with
  | nil => simp [resH] at hr; omega
  | cons d r =>
    simp only [resH] at hr
    split at hr
    · rename_i hall
      subst hr
      rw [List.all_eq_true] at hall
      refine ⟨by simp, fun x hx => ?_⟩
      rcases List.mem_cons.1 hx with rfl | hx
      · rfl
      · simpa using hall x hx
    · omega

theorem resH_zero {S : St} {l : List Int} (hr : resH (some (S, l)) = 0) (hne : l ≠ []) (hpos : ∀ x ∈ l, 1 ≤ x) : ∃ x ∈ l, ∃ y ∈ l, x ≠ y := by
  cases l with
  | nil => exact absurd rfl hne
  | cons d r =>
    simp only [resH] at hr
    split at hr
    · have := hpos d List.mem_cons_self; omega
    · rename_i hall
      apply Classical.byContradiction
      intro hno
      apply hall
      rw [List.all_eq_true]
      intro x hx
      rw [beq_iff_eq]
      apply Classical.byContradiction
      intro hxd
      exact hno ⟨x, List.mem_cons_of_mem _ hx, d, List.mem_cons_self, hxd⟩

theorem resH_all {S : St} {l : List Int} {a : Int} (hne : l ≠ []) (h : ∀ x ∈ l, x = a) : resH (some (S, l)) = a := by
  cases l with
  | nil => exact absurd rfl hne
  | cons d r =>
    have hd : d = a := h d List.mem_cons_self
    simp only [resH]
    rw [if_pos (List.all_eq_true.2 fun x hx => by rw [beq_iff_eq, hd]; exact h x (List.mem_cons_of_mem _ hx))]
    exact hd

section
variable {g : Int → Int → Int → St → Option (St × List Int)} {kids keys : List Int} {low high lo a : Int} {S0 S : St} {i : Nat} {acc : List Int}

/-- The kid's keys may not be: the whole is refused. -/
theorem kidsAt_out (hg : ∀ d low high S r, g d low high S = some r → low < high) (h : KidsAt g kids keys low high S0 i lo S acc a) (hi : i < kids.length) (hlen : keys.length + 1 = kids.length) (ho : ¬ (low ≤ toAt keys high i ∧ toAt keys high i ≤ high)) :
    resH (Wk g kids keys low high S0) = 0 := by
  rw [h.eq]
  cases hw : Wk g (kids.drop i) (keys.drop i) lo high S with
  | none => rfl
  | some r =>
    exfalso
    have hL := Wk_low hg _ _ _ _ _ _ hw (by intro e; have := congrArg List.length e; simp at this; omega) (by simp; omega)
    have hlow := h.low
    by_cases hik : i < keys.length
    · have hm : toAt keys high i ∈ keys.drop i := by
        rw [List.drop_eq_getElem_cons hik, show toAt keys high i = keys[i] by simp [toAt, hik]]
        exact List.mem_cons_self
      have := hL.2 _ hm
      omega
    · have : toAt keys high i = high := by simp [toAt, hik]
      omega

theorem kidsAt_none (h : KidsAt g kids keys low high S0 i lo S acc a) (hi : i < kids.length) (hr : g kids[i] lo (toAt keys high i) S = none) : resH (Wk g kids keys low high S0) = 0 := by
  rw [h.eq, Wk_drop hi, hr]; rfl

theorem kidsAt_zero (hd : ∀ d low high S S' l, g d low high S = some (S', l) → l ≠ [] ∧ ∀ x ∈ l, 1 ≤ x) (h : KidsAt g kids keys low high S0 i lo S acc a) (hi : i < kids.length) (hr : resH (g kids[i] lo (toAt keys high i) S) = 0) :
    resH (Wk g kids keys low high S0) = 0 := by
  cases hg : g kids[i] lo (toAt keys high i) S with
  | none => exact kidsAt_none h hi hg
  | some p =>
    obtain ⟨S1, l1⟩ := p
    rw [hg] at hr
    have := hd _ _ _ _ _ _ hg
    obtain ⟨x, hx, y, hy, hxy⟩ := resH_zero hr this.1 this.2
    rw [h.eq, Wk_drop hi, hg]
    simp only [join_join]
    exact resH_bad (List.mem_append_right _ hx) (List.mem_append_right _ hy) hxy

theorem kidsAt_part (h : KidsAt g kids keys low high S0 i lo S acc a) (hi : i < kids.length) {hh : Int} (hr : resH (g kids[i] lo (toAt keys high i) S) = hh) (h0 : hh ≠ 0) (ha : 0 < a) (hne : hh ≠ a) :
    resH (Wk g kids keys low high S0) = 0 := by
  cases hg : g kids[i] lo (toAt keys high i) S with
  | none => exact kidsAt_none h hi hg
  | some p =>
    obtain ⟨S1, l1⟩ := p
    rw [hg] at hr
    obtain ⟨hl, he⟩ := resH_some hr h0
    have hacc : acc ≠ [] := by intro e; have := h.none e; omega
    obtain ⟨x, hx⟩ := List.exists_mem_of_ne_nil _ hl
    obtain ⟨y, hy⟩ := List.exists_mem_of_ne_nil _ hacc
    rw [h.eq, Wk_drop hi, hg]
    simp only [join_join]
    refine resH_bad (List.mem_append_right _ hx) (List.mem_append_left _ hy) ?_
    rw [he x hx, h.same y hy]
    exact hne

theorem kidsAt_next (hd : ∀ d low high S S' l, g d low high S = some (S', l) → l ≠ [] ∧ ∀ x ∈ l, 1 ≤ x) (hw : ∀ d low high S r, g d low high S = some r → low < high) (h : KidsAt g kids keys low high S0 i lo S acc a) (hi : i < kids.length) {hh : Int} (hr : resH (g kids[i] lo (toAt keys high i) S) = hh) (h0 : hh ≠ 0) (ha : ¬ (0 < a ∧ hh ≠ a)) :
    ∃ S1 l1, g kids[i] lo (toAt keys high i) S = some (S1, l1) ∧ KidsAt g kids keys low high S0 (i + 1) (toAt keys high i) S1 (acc ++ l1) hh := by
  cases hg : g kids[i] lo (toAt keys high i) S with
  | none => rw [hg] at hr; simp [resH] at hr; omega
  | some p =>
    obtain ⟨S1, l1⟩ := p
    rw [hg] at hr
    obtain ⟨hl, he⟩ := resH_some hr h0
    have hpos := hd _ _ _ _ _ _ hg
    have hlt := hw _ _ _ _ _ hg
    have hlow := h.low
    obtain ⟨x, hx⟩ := List.exists_mem_of_ne_nil _ hl
    have h1 : 1 ≤ hh := by rw [← he x hx]; exact hpos.2 x hx
    refine ⟨S1, l1, rfl, ⟨?_, ?_, fun _ e => hl (List.append_eq_nil_iff.1 e).2, fun e => absurd (List.append_eq_nil_iff.1 e).2 hl, fun _ => h1, by omega⟩⟩
    · rw [h.eq, Wk_drop hi, hg]
      simp only [join_join]
    · intro z hz
      rcases List.mem_append.1 hz with hz | hz
      · by_cases hacc : acc = []
        · subst hacc; simp at hz
        · have := h.pos hacc
          have hza := h.same z hz
          rw [hza]
          apply Classical.byContradiction
          intro hne
          exact ha ⟨by omega, fun e => hne e.symm⟩
      · exact he z hz

theorem kidsAt_end (h : KidsAt g kids keys low high S0 i lo S acc a) (hi : i = kids.length) (hk : 0 < kids.length) : Wk g kids keys low high S0 = some (S, acc) ∧ resH (Wk g kids keys low high S0) = a := by
  have e : Wk g kids keys low high S0 = some (S, acc) := by
    rw [h.eq, hi, List.drop_length]
    simp [Wk, join]
  refine ⟨e, ?_⟩
  rw [e]
  exact resH_all (h.some (by omega)) h.same

end
end Go.Proofs.YtlojfgdpmaigmadDoor

/- All entries of a tree that may be, as the code walks them and as they stand in the nodes: the same ones, in another order. -/
namespace Go.Proofs.YtlojfgdpmaigmadDoor
open Go.RowKit Plain

def inR (low high : Int) (x : En) : Bool := decide (low ≤ x.key) && decide (x.key < high)

/-- All entries from a node on. -/
def Fl (ns : List Nd) : Nat → Int → List En
  | 0, _ => []
  | f + 1, n => (ns.getD n.toNat default).buf ++ (ns.getD n.toNat default).ents ++ (ns.getD n.toNat default).kids.flatMap (Fl ns f)

/-- Is a kid passed by? 'pr': the key ahead of it; 'nx': the one behind it. -/
def skipB (low high : Int) (pr nx : Option Int) : Bool := (pr.any fun k => decide (high ≤ k)) || (nx.any fun k => decide (k ≤ low))

def WlK (g : Int → List En) (low high : Int) : List Int → List Int → Option Int → List En
  | [], _, _ => []
  | d :: ds, keys, pr => (if skipB low high pr keys.head? = true then [] else g d) ++ WlK g low high ds keys.tail keys.head?

/-- The entries of keys from low on, below high, as the code walks them. -/
def Wl (ns : List Nd) (low high : Int) : Nat → Int → List En
  | 0, _ => []
  | f + 1, n => (ns.getD n.toNat default).buf.filter (inR low high) ++ (ns.getD n.toNat default).ents.filter (inR low high) ++
      WlK (Wl ns low high f) low high (ns.getD n.toNat default).kids (ns.getD n.toNat default).keys none

theorem entsB_in {lo hi : Int} : ∀ {xs : List En} {low : Int}, entsB xs low hi = true → lo ≤ low → ∀ x ∈ xs, lo ≤ x.key ∧ x.key < hi
  | [], _, _, _, x, hx => by simp at hx
  | y :: r, low, h, hl, x, hx => by
    simp only [entsB, entB, Bool.and_eq_true, decide_eq_true_eq] at h
    rcases List.mem_cons.1 hx with rfl | hx
    · omega
    · exact entsB_in h.2 (by omega) x hx

/-- What W lets pass lies within its keys. -/
theorem Wk_in {g : Int → Int → Int → St → Option (St × List Int)} {F : Int → List En} (hg : ∀ d lo hi S r, g d lo hi S = some r → (∀ x ∈ F d, lo ≤ x.key ∧ x.key < hi) ∧ lo < hi) :
    ∀ (ds keys : List Int) (lo hi : Int) (S : St) (r : St × List Int), Wk g ds keys lo hi S = some r → keys.length + 1 = ds.length → ∀ x ∈ ds.flatMap F, lo ≤ x.key ∧ x.key < hi
  | [], _, _, _, _, _, _, _, x, hx => by simp at hx
  | d :: ds, keys, lo, hi, S, r, hr, hl, x, hx => by
    have hlow := Wk_low (fun d lo hi S r h => (hg d lo hi S r h).2) _ _ _ _ _ _ hr (by simp) hl
    unfold Wk at hr
    split at hr
    · cases hr
    · rename_i S1 l1 h1
      have a := hg _ _ _ _ _ h1
      simp only [List.flatMap_cons, List.mem_append] at hx
      cases keys with
      | nil =>
        have hds : ds = [] := by cases ds with | nil => rfl | cons _ _ => simp at hl
        subst hds
        simp at hx
        simpa using a.1 x hx
      | cons k ks =>
        simp only [List.headD_cons, List.tail_cons] at a hr
        have hk := hlow.2 k List.mem_cons_self
        split at hr
        · cases hr
        · rename_i S2 l2 h2
          rcases hx with hx | hx
          · have := a.1 x hx; omega
          · have := Wk_in hg ds ks k hi S1 _ h2 (by simpa using hl) x hx
            omega

theorem W_in {ns : List Nd} : ∀ (f : Nat) (n lo hi : Int) (S : St) (r : St × List Int), W ns f n lo hi S = some r → ∀ x ∈ Fl ns f n, lo ≤ x.key ∧ x.key < hi := by
  intro f
  induction f with
  | zero => intro n lo hi S r h; cases h
  | succ f ih =>
    intro n lo hi S r h x hx
    unfold W at h
    split at h
    · cases h
    · unfold Fl at hx
      split at h
      · split at h
        · rename_i hl
          obtain ⟨h1, h2, h3, _, _, h6⟩ := leafB_iff.1 hl
          simp only [h2, h3, List.nil_append, List.flatMap_nil, List.append_nil] at hx
          exact entsB_in h6 (Int.le_refl _) x hx
        · cases h
      · split at h
        · rename_i hin
          obtain ⟨h1, h2, h3, h4, h5, h6⟩ := innerB_kids hin
          simp only [h1, List.append_nil, List.mem_append] at hx
          rcases hx with hx | hx
          · exact entsB_in h6 (Int.le_refl _) x hx
          · exact Wk_in (fun d lo hi S r h => ⟨ih d lo hi S r h, W_low f d lo hi S r h⟩) _ _ _ _ _ _ h h4 x hx
        · cases h

theorem filter_none {low high lo hi : Int} {l : List En} (h : ∀ x ∈ l, lo ≤ x.key ∧ x.key < hi) (hs : high ≤ lo ∨ hi ≤ low) : l.filter (inR low high) = [] := by
  rw [List.filter_eq_nil_iff]
  intro x hx
  have := h x hx
  simp only [inR, Bool.and_eq_true, decide_eq_true_eq]
  omega

theorem Wk_filter {g : Int → Int → Int → St → Option (St × List Int)} {F G : Int → List En} {low high : Int} (hg : ∀ d lo hi S r, g d lo hi S = some r → (∀ x ∈ F d, lo ≤ x.key ∧ x.key < hi) ∧ G d = (F d).filter (inR low high)) :
    ∀ (ds keys : List Int) (lo hi : Int) (S : St) (r : St × List Int) (pr : Option Int), Wk g ds keys lo hi S = some r → keys.length + 1 = ds.length → (∀ k, pr = some k → k = lo) → WlK G low high ds keys pr = (ds.flatMap F).filter (inR low high)
  | [], _, _, _, _, _, _, _, h, _ => by simp at h
  | d :: ds, keys, lo, hi, S, r, pr, hr, hl, hp => by
    unfold Wk at hr
    split at hr
    · cases hr
    · rename_i S1 l1 h1
      have a := hg _ _ _ _ _ h1
      simp only [WlK, List.flatMap_cons, List.filter_append]
      have hd : (if skipB low high pr keys.head? = true then [] else G d) = (F d).filter (inR low high) := by
        split
        · rename_i hs
          symm
          refine filter_none a.1 ?_
          simp only [skipB, Bool.or_eq_true, Option.any_eq_true, decide_eq_true_eq] at hs
          rcases hs with ⟨k, hk, hh⟩ | ⟨k, hk, hh⟩
          · have := hp k hk; omega
          · right
            cases keys with
            | nil => simp at hk
            | cons k' ks => simp at hk; subst hk; simpa using hh
        · exact a.2
      rw [hd]
      cases keys with
      | nil =>
        have hds : ds = [] := by cases ds with | nil => rfl | cons _ _ => simp at hl
        subst hds
        simp [WlK]
      | cons k ks =>
        simp only [List.headD_cons, List.tail_cons, List.head?_cons] at hr ⊢
        split at hr
        · cases hr
        · rename_i S2 l2 h2
          rw [Wk_filter hg ds ks k hi S1 _ (some k) h2 (by simpa using hl) (fun _ h => by cases h; rfl)]

/-- The code's walk comes to what of all is within the keys. -/
theorem Wl_eq {ns : List Nd} {low high : Int} : ∀ (f : Nat) (n lo hi : Int) (S : St) (r : St × List Int), W ns f n lo hi S = some r → Wl ns low high f n = (Fl ns f n).filter (inR low high) := by
  intro f
  induction f with
  | zero => intro n lo hi S r h; cases h
  | succ f ih =>
    intro n lo hi S r h
    have h0 := h
    unfold W at h
    split at h
    · cases h
    · unfold Wl Fl
      simp only [List.filter_append]
      congr 1
      split at h
      · split at h
        · rename_i hl
          obtain ⟨h1, h2, _⟩ := leafB_iff.1 hl
          rw [h2]
          rfl
        · cases h
      · split at h
        · rename_i hin
          obtain ⟨h1, h2, h3, h4, _⟩ := innerB_kids hin
          exact Wk_filter (fun d lo hi S r h => ⟨W_in f d lo hi S r h, ih d lo hi S r h⟩) _ _ _ _ _ _ _ h h4 (fun _ h => by cases h)
        · cases h

/-! ### The nodes come to, and their entries -/

def allOf (ns : List Nd) (n : Int) : List En := (ns.getD n.toNat default).buf ++ (ns.getD n.toNat default).ents

theorem Wk_perm {ns : List Nd} {g : Int → Int → Int → St → Option (St × List Int)} {F : Int → List En} (hg : ∀ d lo hi S S' l, g d lo hi S = some (S', l) → ∃ T : St, S' = T ++ S ∧ (F d).Perm (T.flatMap fun p => allOf ns p.1)) :
    ∀ (ds keys : List Int) (lo hi : Int) (S S' : St) (l : List Int), Wk g ds keys lo hi S = some (S', l) → ∃ T : St, S' = T ++ S ∧ (ds.flatMap F).Perm (T.flatMap fun p => allOf ns p.1)
  | [], _, _, _, _, _, _, h => by cases h; exact ⟨[], rfl, by simp⟩
  | d :: ds, keys, lo, hi, S, S', l, hr => by
    unfold Wk at hr
    split at hr
    · cases hr
    · rename_i S1 l1 h1
      split at hr
      · cases hr
      · rename_i S2 l2 h2
        cases hr
        obtain ⟨T1, e1, p1⟩ := hg _ _ _ _ _ _ h1
        obtain ⟨T2, e2, p2⟩ := Wk_perm hg _ _ _ _ _ _ _ h2
        refine ⟨T2 ++ T1, by rw [e2, e1, List.append_assoc], ?_⟩
        simp only [List.flatMap_cons, List.flatMap_append]
        exact (p1.append p2).trans List.perm_append_comm

theorem W_perm {ns : List Nd} : ∀ (f : Nat) (n lo hi : Int) (S S' : St) (l : List Int), W ns f n lo hi S = some (S', l) → ∃ T : St, S' = T ++ S ∧ (Fl ns f n).Perm (T.flatMap fun p => allOf ns p.1) := by
  intro f
  induction f with
  | zero => intro n lo hi S S' l h; cases h
  | succ f ih =>
    intro n lo hi S S' l h
    unfold W at h
    split at h
    · cases h
    · unfold Fl
      split at h
      · split at h
        · rename_i hl
          obtain ⟨_, h2, _⟩ := leafB_iff.1 hl
          cases h
          refine ⟨[(n, 12 - (f : Int))], rfl, ?_⟩
          rw [h2]
          simp only [List.flatMap_nil, List.append_nil, List.flatMap_cons, allOf]
          exact List.Perm.refl _
        · cases h
      · split at h
        · obtain ⟨T, e, p⟩ := Wk_perm ih _ _ _ _ _ _ _ h
          refine ⟨T ++ [(n, 12 - (f : Int))], by rw [e]; simp, ?_⟩
          simp only [List.flatMap_append, List.flatMap_cons, List.flatMap_nil, List.append_nil]
          exact (List.Perm.append_left _ p).trans List.perm_append_comm
        · cases h

/-- What the nodes of a tree that may be hold is what is come to from its root. -/
theorem tree_perm {ns : List Nd} {root : Int} (h : treeC ns root = 0) : (Fl ns 12 root).Perm (ns.flatMap fun x => x.buf ++ x.ents) := by
  unfold treeC at h
  split at h
  · omega
  · cases hW : W ns 12 root 0 1099511627776 [] with
    | none => rw [hW] at h; simp at h
    | some p =>
      obtain ⟨S, l⟩ := p
      rw [hW] at h
      simp only at h
      split at h
      · rename_i hc
        obtain ⟨T, e, pm⟩ := W_perm 12 _ _ _ _ _ _ hW
        simp at e
        subst e
        have hst := (W_st 12 _ _ _ _ _ _ hW ⟨by simp, by simp⟩).1
        have hseen := (all_seen hst).1 hc.2
        have hpm : (S.map (·.1)).Perm ((List.range ns.length).map fun i : Nat => (i : Int)) := by
          rw [List.perm_ext_iff_of_nodup hst.1 (by
            rw [List.Nodup, List.pairwise_map]
            exact List.nodup_range.imp (fun h e => h (by omega)))]
          intro a
          constructor
          · intro ha
            obtain ⟨p, hp, rfl⟩ := List.mem_map.1 ha
            have := hst.2 p hp
            exact List.mem_map.2 ⟨p.1.toNat, by simp; omega, by omega⟩
          · intro ha
            obtain ⟨i, hi, rfl⟩ := List.mem_map.1 ha
            exact seenB_iff.1 (hseen i (by simpa using hi))
        refine pm.trans ?_
        have e1 : (S.flatMap fun p => allOf ns p.1) = (S.map (·.1)).flatMap (allOf ns) := by rw [List.flatMap_map]
        rw [e1]
        refine (hpm.flatMap_right _).trans ?_
        rw [List.flatMap_map]
        have e2 : (List.range ns.length).flatMap (fun i => allOf ns ((i : Nat) : Int)) = ns.flatMap fun x => x.buf ++ x.ents := by
          rw [List.flatMap_def, List.flatMap_def]
          congr 1
          apply List.ext_getElem?
          intro i
          by_cases hi : i < ns.length
          · simp [hi, allOf]
          · simp [hi]
        rw [e2]
      · omega

end Go.Proofs.YtlojfgdpmaigmadDoor

/- Plain facts on the document's AllOf: what the nodes of a tree that may be hold, and what comes of putting it together. -/
namespace Go.Proofs.YtlojfgdpmaigmadDoor
open Go.RowKit Plain

def NodeOk (x : Nd) : Prop := x.ents.length ≤ 6 ∧ x.buf.length ≤ 8 ∧ (∀ y ∈ x.ents, Good y.ru) ∧ ∀ y ∈ x.buf, Good y.ru

theorem leaf_ok {x : Nd} {low high : Int} {f : Nat} (h : leafB x low high f = true) : NodeOk x := by
  obtain ⟨_, _, h3, h4, _, h6⟩ := leafB_iff.1 h
  exact ⟨h4, by rw [h3]; simp, entsB_good h6, by rw [h3]; simp⟩

theorem inner_ok {x : Nd} {low high : Int} (h : innerB x low high = true) : NodeOk x := by
  obtain ⟨h1, _, _, _, h5, h6⟩ := innerB_kids h
  exact ⟨by rw [h1]; simp, h5, by rw [h1]; simp, entsB_good h6⟩

theorem Wk_each {ns : List Nd} {g : Int → Int → Int → St → Option (St × List Int)} (hg : ∀ d lo hi S S' l, g d lo hi S = some (S', l) → ∀ p ∈ S', p ∈ S ∨ NodeOk (ns.getD p.1.toNat default)) :
    ∀ (ds keys : List Int) (lo hi : Int) (S S' : St) (l : List Int), Wk g ds keys lo hi S = some (S', l) → ∀ p ∈ S', p ∈ S ∨ NodeOk (ns.getD p.1.toNat default)
  | [], _, _, _, _, _, _, h, p, hp => by cases h; exact .inl hp
  | d :: ds, keys, lo, hi, S, S', l, hr, p, hp => by
    unfold Wk at hr
    split at hr
    · cases hr
    · rename_i S1 l1 h1
      split at hr
      · cases hr
      · rename_i S2 l2 h2
        cases hr
        rcases Wk_each hg _ _ _ _ _ _ _ h2 p hp with h | h
        · exact hg _ _ _ _ _ _ h1 p h
        · exact .inr h

theorem W_each {ns : List Nd} : ∀ (f : Nat) (n lo hi : Int) (S S' : St) (l : List Int), W ns f n lo hi S = some (S', l) → ∀ p ∈ S', p ∈ S ∨ NodeOk (ns.getD p.1.toNat default) := by
  intro f
  induction f with
  | zero => intro n lo hi S S' l h; cases h
  | succ f ih =>
    intro n lo hi S S' l h p hp
    unfold W at h
    split at h
    · cases h
    · split at h
      · split at h
        · rename_i hl
          cases h
          rcases List.mem_cons.1 hp with rfl | hp
          · exact .inr (leaf_ok hl)
          · exact .inl hp
        · cases h
      · split at h
        · rename_i hin
          rcases Wk_each ih _ _ _ _ _ _ _ h p hp with h | h
          · rcases List.mem_cons.1 h with rfl | h
            · exact .inr (inner_ok hin)
            · exact .inl h
          · exact .inr h
        · cases h

theorem tree_each {ns : List Nd} {root : Int} (h : treeC ns root = 0) : ns.length ≤ 2000 ∧ ∀ i (hi : i < ns.length), NodeOk ns[i] := by
  unfold treeC at h
  split at h
  · omega
  · rename_i hn
    refine ⟨by omega, fun i hi => ?_⟩
    cases hW : W ns 12 root 0 1099511627776 [] with
    | none => rw [hW] at h; simp at h
    | some p =>
      obtain ⟨S, l⟩ := p
      rw [hW] at h
      simp only at h
      split at h
      · rename_i hc
        have hst := (W_st 12 _ _ _ _ _ _ hW ⟨by simp, by simp⟩).1
        have hseen := (all_seen hst).1 hc.2 i hi
        obtain ⟨p, hp, hpe⟩ := List.mem_map.1 (seenB_iff.1 hseen)
        rcases W_each 12 _ _ _ _ _ _ hW p hp with h | h
        · simp at h
        · rw [hpe] at h
          simpa [hi] using h
      · omega

/-- What the document has come to behind i nodes and k entries of the next one. -/
def Nd.lst (x : Nd) : List En := x.ents ++ x.buf
def soFar (ns : List Nd) (i k : Nat) : List En := (ns.take i).flatMap Nd.lst ++ ((ns.getD i default).lst).take k

def allR (low high : Int) (xs : List En) : Option (List En) := allL (xs.filter (inR low high))

theorem allL_snoc (xs : List En) (x : En) : allL (xs ++ [x]) = insO (allL xs) x := by simp [allL]

theorem allR_snoc {low high : Int} {xs : List En} {x : En} : allR low high (xs ++ [x]) = if inR low high x = true then insO (allR low high xs) x else allR low high xs := by
  unfold allR
  rw [List.filter_append]
  by_cases h : inR low high x = true
  · rw [if_pos h, List.filter_cons_of_pos h]
    exact allL_snoc _ _
  · rw [if_neg h, List.filter_cons_of_neg h]
    simp

theorem soFar_snoc {ns : List Nd} {i k : Nat} (hk : k < ((ns.getD i default).lst).length) : soFar ns i (k + 1) = soFar ns i k ++ [((ns.getD i default).lst)[k]] := by
  unfold soFar
  rw [List.take_succ_eq_append_getElem hk, List.append_assoc]

theorem soFar_next {ns : List Nd} {i : Nat} (hi : i < ns.length) : soFar ns i ((ns.getD i default).lst).length = soFar ns (i + 1) 0 := by
  have hg : ns.getD i default = ns[i] := by simp [hi]
  unfold soFar
  rw [hg, List.take_length, List.take_zero, List.append_nil, List.take_succ_eq_append_getElem hi, List.flatMap_append]
  simp only [List.flatMap_cons, List.flatMap_nil, List.append_nil]

theorem soFar_end (ns : List Nd) : soFar ns ns.length 0 = ns.flatMap Nd.lst := by simp [soFar]

theorem soFar_prefix {ns : List Nd} {i k : Nat} (hi : i < ns.length) : ∃ rest, ns.flatMap Nd.lst = soFar ns i k ++ rest := by
  have hg : ns.getD i default = ns[i] := by simp [hi]
  refine ⟨(ns[i]).lst.drop k ++ (ns.drop (i + 1)).flatMap Nd.lst, ?_⟩
  unfold soFar
  rw [hg]
  have e : ns = ns.take i ++ ns[i] :: ns.drop (i + 1) := by rw [← List.drop_eq_getElem_cons hi, List.take_append_drop]
  conv => lhs; rw [e]
  rw [List.flatMap_append, List.flatMap_cons, List.append_assoc, ← List.append_assoc ((ns[i]).lst.take k), List.take_append_drop]

/-- What can't come together stays so. -/
theorem fold_none : ∀ ys : List En, ys.foldl insO none = none
  | [] => rfl
  | _ :: r => fold_none r
theorem allR_none {low high : Int} {xs ys : List En} (h : allR low high xs = none) : allR low high (xs ++ ys) = none := by
  unfold allR allL at *
  rw [List.filter_append, List.foldl_append, h, fold_none]

theorem ins_good {x : En} (hx : Good x.ru) : ∀ {l r : List En}, (∀ y ∈ l, Good y.ru) → ins l x = some r → (∀ y ∈ r, Good y.ru) ∧ r.length ≤ l.length + 1
  | [], r, _, h => by simp [ins] at h; subst h; simpa using hx
  | y :: l, r, hl, h => by
    have hy := hl y List.mem_cons_self
    have hl' : ∀ z ∈ l, Good z.ru := fun z hz => hl z (List.mem_cons_of_mem _ hz)
    simp only [ins] at h
    split at h
    · cases h
      refine ⟨fun z hz => ?_, by simp⟩
      rcases List.mem_cons.1 hz with rfl | hz
      · exact hx
      · exact hl z hz
    · split at h
      · split at h
        · rename_i hc
          cases h
          refine ⟨fun z hz => ?_, by simp⟩
          rcases List.mem_cons.1 hz with rfl | hz
          · exact good_jn hy hx hc
          · exact hl' z hz
        · cases h
      · cases hr : ins l x with
        | none => rw [hr] at h; cases h
        | some q =>
          rw [hr] at h
          cases h
          have ih := ins_good hx hl' hr
          refine ⟨fun z hz => ?_, by simp; omega⟩
          rcases List.mem_cons.1 hz with rfl | hz
          · exact hy
          · exact ih.1 z hz

end Go.Proofs.YtlojfgdpmaigmadDoor

/- Two trees that hold the same are found the same. -/
namespace Go.Proofs.YtlojfgdpmaigmadDoor
open Go.RowKit

theorem bcells {W w1 : World} {B : Nat} (hb : Below B W w1) : (∀ b o, b < B → w1.cell? ⟨b, o, none⟩ = W.cell? ⟨b, o, none⟩) ∧ (∀ b o, b < B → w1.frozen? ⟨b, o, none⟩ = W.frozen? ⟨b, o, none⟩) :=
  ⟨fun b o h => hb.cell (p := ⟨b, o, none⟩) h, fun b o h => hb.frozen (p := ⟨b, o, none⟩) h⟩

theorem RowAt.go {B B' : Nat} {w w' : World} {A : Option Addr} {vs : List Value} (h : RowAt B w A vs) (hb : Below B' w w') (hB : B ≤ B') (hw : B' ≤ w.heap.size) : RowAt w'.heap.size w' A vs :=
  (h.below hb hB).mono (Nat.le_trans hB (Nat.le_trans hw hb.size))

theorem two {w : World} (a b : Obj) : Below w.heap.size w ((w.alloc a).alloc b) := ((Below.refl _ _).alloc (Nat.le_refl _) _).alloc (by simp) _

end Go.Proofs.YtlojfgdpmaigmadDoor

/- Blocks that are known whole; blocks of one's own. -/
namespace Go.Proofs.YtlojfgdpmaigmadDoor
open Go.RowKit

/-- Block b holds these cells and no others; none is frozen. -/
def RowL (w : World) (b : Nat) (t : TypeId) (vs : List Value) : Prop := w.heap[b]? = some (.cells vs.toArray t (0, 0))

theorem RowL.lt {w : World} {b : Nat} {t : TypeId} {vs : List Value} (h : RowL w b t vs) : b < w.heap.size := (Array.getElem?_eq_some_iff.1 h).1

theorem RowL.of_block {w w' : World} {b : Nat} {t : TypeId} {vs : List Value} (h : RowL w b t vs) (e : w'.heap[b]? = w.heap[b]?) : RowL w' b t vs := e.trans h

theorem RowL.below {w w' : World} {b B : Nat} {t : TypeId} {vs : List Value} (h : RowL w b t vs) (hb : Below B w w') (hB : b < B) : RowL w' b t vs := h.of_block (hb.block b hB)

theorem RowL.cell {w : World} {b : Nat} {t : TypeId} {vs : List Value} (h : RowL w b t vs) (j : Nat) : w.cell? ⟨b, j, none⟩ = vs[j]? := by
  unfold RowL at h
  simp [World.cell?, h]

theorem RowL.frozen {w : World} {b : Nat} {t : TypeId} {vs : List Value} (h : RowL w b t vs) (j : Nat) : w.frozen? ⟨b, j, none⟩ = false := by
  unfold RowL at h
  simp [World.frozen?, h]

theorem RowL.set {w : World} {b : Nat} {t : TypeId} {vs : List Value} (h : RowL w b t vs) (i : Nat) (v : Value) : RowL (w.setCell ⟨b, i, none⟩ v) b t (vs.set i v) := by
  unfold RowL at *
  simp [World.setCell, Array.getElem?_modify, h]

theorem RowL.row {w : World} {b : Nat} {t : TypeId} {vs : List Value} (h : RowL w b t vs) : RowAt w.heap.size w (some ⟨b, 0, none⟩) vs :=
  .inr ⟨b, 0, rfl, h.lt, fun j u hu => by rw [Nat.zero_add, h.cell]; exact hu⟩

theorem rowL_alloc (w : World) (vs : List Value) (t : TypeId) : RowL (w.alloc (.cells vs.toArray t)) w.heap.size t vs := by
  unfold RowL
  exact heap_alloc_new w _

def PN.zero : PN := ⟨false, none, 0, [], none, 0, [], none, 0, [], none, 0, []⟩

theorem set_node (qs zs : List PN) (z p : PN) :
    (((((flatN (qs ++ z :: zs)).set (qs.length * 5) (.bool p.leaf)).set (qs.length * 5 + 1) (.slice p.eA p.ents.length p.eC)).set (qs.length * 5 + 2) (.slice p.kA p.keys.length p.kC)).set (qs.length * 5 + 3) (.slice p.dA p.kids.length p.dC)).set (qs.length * 5 + 4) (.slice p.bA p.buf.length p.bC) = flatN (qs ++ p :: zs) := by
  have hl := flatN_length qs
  simp only [flatN_append, flatN, ← hl]
  simp [List.set_append_right, PN.vals]

def nodeZ : Array Value := #[.bool false, .slice none 0 0, .slice none 0 0, .slice none 0 0, .slice none 0 0]
/-- What 'make' lays for n nodes. -/
def madeN (n : Nat) : Array Value := madeCells nodeZ (n * 5)

theorem madeN_eq (n : Nat) : madeN n = (flatN (List.replicate n PN.zero)).toArray := by
  have hl := flatN_length (List.replicate n PN.zero)
  simp only [List.length_replicate] at hl
  apply Array.ext
  · simp [madeN, size_madeCells, hl]
  · intro i h1 h2
    have hi : i < n * 5 := by simpa [madeN, size_madeCells] using h1
    have hk : i / 5 < n := by omega
    have g := flatN_get (List.replicate n PN.zero) (i / 5) (i % 5) (by simpa using hk) (Nat.mod_lt _ (by decide))
    rw [show i / 5 * 5 + i % 5 = i by omega] at g
    have e1 : (flatN (List.replicate n PN.zero)).toArray[i] = nodeZ[i % 5]! := by
      have h5 : i % 5 = 0 ∨ i % 5 = 1 ∨ i % 5 = 2 ∨ i % 5 = 3 ∨ i % 5 = 4 := by omega
      simp only [List.getElem_replicate] at g
      rw [List.getElem?_eq_getElem (by rw [hl]; exact hi)] at g
      simp only [List.getElem_toArray]
      rcases h5 with h | h | h | h | h <;> rw [h] at g ⊢ <;> simpa [PN.zero, PN.vals, nodeZ] using g
    rw [e1]
    simp [madeN, madeCells, nodeZ]

theorem infoN : (Tryd.prog.info? 80).map (fun i => (i.zero, i.size, i.bytes)) = some (some (.agg nodeZ), 5, 104) := by kernel_rfl

theorem run_makeN (n : Nat) (hn : n * 104 ≤ 140737488351232) (w : World) :
    (Instr.makeSlice 23 (.int .i64 (n : Int)) (.int .i64 (n : Int))).run Tryd.prog w = .ok (.slice (some ⟨w.heap.size, 0, none⟩) n n) (w.alloc (.cells (madeN n) 80)) := by
  obtain ⟨i0, hi, hz0, hz1, hz2⟩ := info_parts infoN
  have hr := run_make (P := Tryd.prog) w 23 80 i0 _ Tryd.underlying23 hi hz0 .i64 .i64 n n (by omega) (Int.le_refl _) (by rw [hz2]; omega) (by omega)
  simp only [Int.toNat_natCast, hz1] at hr
  exact hr

theorem own_of_block {w w' : World} {base : Nat} {e : TypeId} {size n : Nat} {v : Value} {vs : List Value} (h : w.ownsRow base e size v n vs) (hk : ∀ k, v.ownBlock = some k → w'.heap[k]? = w.heap[k]?) : w'.ownsRow base e size v n vs := by
  refine ⟨h.1, ?_⟩
  rcases h.2 with hn | ⟨g, cap, cur, rfl, hb, hg, rest⟩
  · exact .inl hn
  · exact .inr ⟨g, cap, cur, rfl, hb, (hk g rfl).trans hg, rest⟩

theorem own_mono {w : World} {base base' : Nat} {e : TypeId} {size n : Nat} {v : Value} {vs : List Value} (h : w.ownsRow base' e size v n vs) (hb : base ≤ base') : w.ownsRow base e size v n vs := by
  refine ⟨h.1, ?_⟩
  rcases h.2 with hn | ⟨g, cap, cur, rfl, hb', rest⟩
  · exact .inl hn
  · exact .inr ⟨g, cap, cur, rfl, by omega, rest⟩

def PN.blocks (p : PN) : List Nat := [p.eA, p.kA, p.dA, p.bA].filterMap (·.map Addr.block)

structure PN.own (base : Nat) (w : World) (p : PN) : Prop where
  e : w.ownsRow base 61 7 (.slice p.eA p.ents.length p.eC) p.ents.length (flatE p.ents)
  k : w.ownsRow base 3 1 (.slice p.kA p.keys.length p.kC) p.keys.length (ints p.keys)
  d : w.ownsRow base 3 1 (.slice p.dA p.kids.length p.dC) p.kids.length (ints p.kids)
  b : w.ownsRow base 61 7 (.slice p.bA p.buf.length p.bC) p.buf.length (flatE p.buf)
  ez : p.ents.length * 56 ≤ 140737488351232
  kz : p.keys.length * 8 ≤ 140737488351232
  dz : p.kids.length * 8 ≤ 140737488351232
  bz : p.buf.length * 56 ≤ 140737488351232

theorem mem_blocks {p : PN} {k : Nat} (h : (Value.slice p.eA p.ents.length p.eC).ownBlock = some k ∨ (Value.slice p.kA p.keys.length p.kC).ownBlock = some k ∨ (Value.slice p.dA p.kids.length p.dC).ownBlock = some k ∨ (Value.slice p.bA p.buf.length p.bC).ownBlock = some k) : k ∈ p.blocks := by
  have g : ∀ (A : Option Addr) (n c : Nat), (Value.slice A n c).ownBlock = some k → A.map Addr.block = some k := by
    intro A n c h
    cases A with
    | none => simp [Value.ownBlock] at h
    | some a => simpa [Value.ownBlock] using h
  simp only [PN.blocks, List.mem_filterMap, List.mem_cons, List.not_mem_nil, or_false]
  rcases h with h | h | h | h
  · exact ⟨_, .inl rfl, g _ _ _ h⟩
  · exact ⟨_, .inr (.inl rfl), g _ _ _ h⟩
  · exact ⟨_, .inr (.inr (.inl rfl)), g _ _ _ h⟩
  · exact ⟨_, .inr (.inr (.inr rfl)), g _ _ _ h⟩

theorem PN.own.of_blocks {base : Nat} {w w' : World} {p : PN} (h : p.own base w) (hk : ∀ k ∈ p.blocks, w'.heap[k]? = w.heap[k]?) : p.own base w' :=
  ⟨own_of_block h.e fun _ hb => hk _ (mem_blocks (.inl hb)), own_of_block h.k fun _ hb => hk _ (mem_blocks (.inr (.inl hb))), own_of_block h.d fun _ hb => hk _ (mem_blocks (.inr (.inr (.inl hb)))), own_of_block h.b fun _ hb => hk _ (mem_blocks (.inr (.inr (.inr hb)))), h.ez, h.kz, h.dz, h.bz⟩

theorem own_ok {w : World} {base : Nat} {e : TypeId} {size n C : Nat} {A : Option Addr} {vs : List Value} (h : w.ownsRow base e size (.slice A n C) n vs) : RowAt w.heap.size w A vs ∧ (A = none → C = 0) := by
  obtain ⟨A', C', hv, hn, _, _, hr⟩ := own_row h
  cases hv
  exact ⟨hr, hn⟩

theorem PN.own.ok {base : Nat} {w : World} {p : PN} (h : p.own base w) : p.ok w.heap.size w :=
  ⟨(own_ok h.e).1, (own_ok h.k).1, (own_ok h.d).1, (own_ok h.b).1, (own_ok h.e).2, (own_ok h.k).2, (own_ok h.d).2, (own_ok h.b).2, h.ez, h.kz, h.dz, h.bz⟩

theorem own_lt {w : World} {base : Nat} {e : TypeId} {size n C : Nat} {A : Option Addr} {vs : List Value} (h : w.ownsRow base e size (.slice A n C) n vs) (k : Nat) (hk : A.map Addr.block = some k) : base ≤ k ∧ k < w.heap.size := by
  cases A with
  | none => cases hk
  | some a => exact h.lt k (by simpa [Value.ownBlock] using hk)

theorem PN.own.lt {base : Nat} {w : World} {p : PN} (h : p.own base w) : ∀ k ∈ p.blocks, base ≤ k ∧ k < w.heap.size := by
  intro k hk
  simp only [PN.blocks, List.mem_filterMap, List.mem_cons, List.not_mem_nil, or_false] at hk
  obtain ⟨A, hA, hb⟩ := hk
  rcases hA with rfl | rfl | rfl | rfl
  · exact own_lt h.e k hb
  · exact own_lt h.k k hb
  · exact own_lt h.d k hb
  · exact own_lt h.b k hb

/-- A tree in memory of the call's own: its nodes in block g, each list in a block of its own. -/
structure OwnTree (base : Nat) (w : World) (g : Nat) (qs : List PN) : Prop where
  row : RowL w g 80 (flatN qs)
  hbase : base ≤ g
  each : ∀ q ∈ qs, q.own base w
  apart : (g :: qs.flatMap PN.blocks).Nodup
  z : qs.length * 104 ≤ 140737488351232

theorem blocks_nodup {q : PN} {s1 s2 s3 : Nat} (he : ∀ x, q.eA.map Addr.block = some x → x < s1) (hk : ∀ x, q.kA.map Addr.block = some x → s1 ≤ x ∧ x < s2) (hd : ∀ x, q.dA.map Addr.block = some x → s2 ≤ x ∧ x < s3)
    (hb : ∀ x, q.bA.map Addr.block = some x → s3 ≤ x) (h12 : s1 ≤ s2) (h23 : s2 ≤ s3) : q.blocks.Nodup := by
  obtain ⟨leaf, eA, eC, ents, kA, kC, keys, dA, dC, kids, bA, bC, buf⟩ := q
  simp only at he hk hd hb
  unfold PN.blocks
  cases eA <;> cases kA <;> cases dA <;> cases bA <;> simp_all <;> omega

set_option maxHeartbeats 400000 in
theorem copy_step {base g : Nat} {wr w4 : World} {qs zs : List PN} {z q : PN} (hrow : RowL wr g 80 (flatN (qs ++ z :: zs))) (hbase : base ≤ g) (each : ∀ x ∈ qs, x.own base wr) (apart : (g :: qs.flatMap PN.blocks).Nodup)
    (hb : Below wr.heap.size wr w4) (hq : q.own wr.heap.size w4) (hqn : q.blocks.Nodup) :
    ∀ W, W = ((((w4.setCell ⟨g, qs.length * 5, none⟩ (.bool q.leaf)).setCell ⟨g, qs.length * 5 + 1, none⟩ (.slice q.eA q.ents.length q.eC)).setCell ⟨g, qs.length * 5 + 2, none⟩ (.slice q.kA q.keys.length q.kC)).setCell ⟨g, qs.length * 5 + 3, none⟩ (.slice q.dA q.kids.length q.dC)).setCell ⟨g, qs.length * 5 + 4, none⟩ (.slice q.bA q.buf.length q.bC) →
    RowL W g 80 (flatN (qs ++ q :: zs)) ∧ (∀ x ∈ qs ++ [q], x.own base W) ∧ (g :: (qs ++ [q]).flatMap PN.blocks).Nodup := by
  intro W hW
  have hg : g < wr.heap.size := hrow.lt
  have hother : ∀ b, b ≠ g → W.heap[b]? = w4.heap[b]? := by
    intro b hbg
    subst hW
    simp only [Below.heap_setCell _ _ _ _ (show b ≠ (⟨g, _, none⟩ : Addr).block from hbg)]
  have hold : ∀ x ∈ qs, ∀ b ∈ x.blocks, base ≤ b ∧ b < wr.heap.size := fun x hx => (each x hx).lt
  have hnew := hq.lt
  rw [List.nodup_cons] at apart
  have hgn : g ∉ qs.flatMap PN.blocks := apart.1
  refine ⟨?_, ?_, ?_⟩
  · rw [← set_node qs zs z q]
    subst hW
    exact (((((hrow.below hb hg).set _ _).set _ _).set _ _).set _ _).set _ _
  · intro x hx
    rcases List.mem_append.1 hx with hx | hx
    · refine (each x hx).of_blocks fun b hbx => ?_
      have hbg : b ≠ g := fun e => hgn (List.mem_flatMap.2 ⟨x, hx, e ▸ hbx⟩)
      rw [hother b hbg]
      exact hb.block b (hold x hx b hbx).2
    · obtain rfl : x = q := by simpa using hx
      have h1 : x.own wr.heap.size W := hq.of_blocks fun b hbx => hother b (by have := hnew b hbx; omega)
      exact ⟨own_mono h1.e (by omega), own_mono h1.k (by omega), own_mono h1.d (by omega), own_mono h1.b (by omega), h1.ez, h1.kz, h1.dz, h1.bz⟩
  · rw [List.nodup_cons, List.flatMap_append, List.mem_append, List.nodup_append]
    simp only [List.flatMap_cons, List.flatMap_nil, List.append_nil]
    refine ⟨fun h => ?_, apart.2, hqn, fun a ha b hb' e => ?_⟩
    · rcases h with h | h
      · exact hgn h
      · have := hnew g h; omega
    · obtain ⟨x, hx, hax⟩ := List.mem_flatMap.1 ha
      have h1 := hold x hx a hax
      have h2 := hnew b hb'
      omega

theorem OwnTree.nodes {base g : Nat} {w : World} {qs : List PN} (h : OwnTree base w g qs) : NodesAt w.heap.size w (some ⟨g, 0, none⟩) qs :=
  ⟨h.row.row, fun _ hk => (h.each _ (List.getElem_mem hk)).ok, h.z⟩

end Go.Proofs.YtlojfgdpmaigmadDoor

/- What comes together, in whatever order: rollups, and entries by their keys. -/
import Derived.Test.YtlojfgdpmaigmafGreatDoorP09
import Derived.Test.YtlojfgdpmaigmafGreatDoorP13
import Derived.Test.YtlojfgdpmaigmafGreatDoorP12
import Derived.Test.YtlojfgdpmaigmafGreatDoorP15
import Derived.Deep.DeepCutAuto
namespace Go.Proofs.YtlojfgdpmaigmafGreatDoor
section
open Go.RowKit Plain

theorem Ru.ext' {a b : Ru} (h1 : a.c = b.c) (h2 : a.s = b.s) (h3 : a.lo = b.lo) (h4 : a.hi = b.hi) (h5 : a.t = b.t) (h6 : a.l = b.l) : a = b := by
 cases a; cases b; simp at *; exact ⟨h1, h2, h3, h4, h5, h6⟩

theorem qxa (a b : Int) : mn a b = mn b a := by unfold mn; split <;> split <;> omega
theorem qwf (a b : Int) : mx a b = mx b a := by unfold mx; split <;> split <;> omega
theorem qu0 (a b c : Int) : mn (mn a b) c = mn a (mn b c) := by
 unfold mn
 by_cases h1 : a ≤ b <;> by_cases h2 : b ≤ c <;> by_cases h3 : a ≤ c <;> simp [h1, h2, h3] <;> omega
theorem qu7 (a b c : Int) : mx (mx a b) c = mx a (mx b c) := by
 unfold mx
 by_cases h1 : a ≤ b <;> by_cases h2 : b ≤ c <;> by_cases h3 : a ≤ c <;> simp [h1, h2, h3] <;> omega

theorem ltr_iff {t l t' l' : Int} : ltr t l t' l' = true ↔ t' < t ∨ (t = t' ∧ l' < l) := by simp [ltr]

theorem qh9 (a b : Ru) : ((jn a b).t = a.t ∧ (jn a b).l = a.l ∧ (b.t < a.t ∨ (a.t = b.t ∧ b.l < a.l))) ∨ ((jn a b).t = b.t ∧ (jn a b).l = b.l ∧ ¬ (b.t < a.t ∨ (a.t = b.t ∧ b.l < a.l))) := by
 by_cases h : ltr a.t a.l b.t b.l = true
 · left
   refine ⟨?_, ?_, ltr_iff.1 h⟩ <;> simp [jn, pk, h]
 · right
   refine ⟨?_, ?_, fun e => h (ltr_iff.2 e)⟩ <;> simp [jn, pk, h]

theorem qjy (a b : Ru) : jn a b = jn b a := by
 have h1 := qh9 a b
 have h2 := qh9 b a
 refine Ru.ext' (Int.add_comm _ _) (Int.add_comm _ _) (qxa _ _) (qwf _ _) ?_ ?_ <;> omega

theorem qkc (a b c : Ru) : jn (jn a b) c = jn a (jn b c) := by
 have h1 := qh9 a b
 have h2 := qh9 (jn a b) c
 have h3 := qh9 b c
 have h4 := qh9 a (jn b c)
 refine Ru.ext' (Int.add_assoc _ _ _) (Int.add_assoc _ _ _) (qu0 _ _ _) (qu7 _ _ _) ?_ ?_
 · rcases h1 with h1 | h1 <;> rcases h3 with h3 | h3 <;> omega
 · rcases h1 with h1 | h1 <;> rcases h3 with h3 | h3 <;> omega

def Good (a : Ru) : Prop := chk a = 0 ∧ a.c ≠ 0

theorem good_iff {a : Ru} : Good a ↔ (1 ≤ a.c ∧ a.c ≤ 1073741824) ∧ (0 ≤ a.t ∧ a.t ≤ 1048575) ∧ -1000000 ≤ a.lo ∧ a.hi ≤ 1000000 ∧ (a.lo ≤ a.l ∧ a.l ≤ a.hi) ∧ (a.c * a.lo ≤ a.s ∧ a.s ≤ a.c * a.hi) := by
 constructor
 · rintro ⟨h, hc⟩
   obtain ⟨b1, b2, b3, b4, b5, b6⟩ := q1r h
   have m1 := qnz (x := a.lo) b1.1 b1.2 b4.1 b4.2
   have m2 := qnz (x := a.hi) b1.1 b1.2 b5.1 b5.2
   have hf : q9k a.c a.s a.lo a.hi a.t a.l = true := by
     unfold chk q1h at h
     split at h
     · split at h
       · assumption
       · omega
     · omega
   unfold q9k at hf
   rw [if_neg hc, w64 _ (by omega), w64 _ (by omega)] at hf
   simp only [Bool.and_eq_true, q2n] at hf
   exact ⟨by omega, b3, b4.1, b5.2, hf.1, hf.2⟩
 · rintro ⟨h1, h2, h3, h4, h5, h6⟩
   exact ⟨qur (by omega) h1.2 h2 h3 h4 h5 h6, by omega⟩

theorem qzi (a b : Int) : mn a b ≤ a ∧ mn a b ≤ b ∧ (mn a b = a ∨ mn a b = b) := by unfold mn; split <;> omega
theorem qzl (a b : Int) : a ≤ mx a b ∧ b ≤ mx a b ∧ (mx a b = a ∨ mx a b = b) := by unfold mx; split <;> omega

theorem q8k {a b : Ru} (ha : Good a) (hb : Good b) (h : a.c + b.c ≤ 1073741824) : Good (jn a b) := by
 rw [good_iff] at *
 obtain ⟨a1, a2, a3, a4, a5, a6⟩ := ha
 obtain ⟨b1, b2, b3, b4, b5, b6⟩ := hb
 have n := qzi a.lo b.lo
 have x := qzl a.hi b.hi
 have tl := qh9 a b
 have e1 : (jn a b).lo = mn a.lo b.lo := rfl
 have e2 : (jn a b).hi = mx a.hi b.hi := rfl
 have e3 : (jn a b).c = a.c + b.c := rfl
 have e4 : (jn a b).s = a.s + b.s := rfl
 have p1 := Int.mul_le_mul_of_nonneg_left n.1 (show 0 ≤ a.c by omega)
 have p2 := Int.mul_le_mul_of_nonneg_left n.2.1 (show 0 ≤ b.c by omega)
 have p3 := Int.mul_le_mul_of_nonneg_left x.1 (show 0 ≤ a.c by omega)
 have p4 := Int.mul_le_mul_of_nonneg_left x.2.1 (show 0 ≤ b.c by omega)
 rw [e1, e2, e3, e4, Int.add_mul, Int.add_mul]
 refine ⟨by omega, by omega, by omega, by omega, by omega, by omega⟩

theorem q7s {a b : Ru} (ha : Good a) (hb : Good b) : mrg a b = if a.c + b.c ≤ 1073741824 then (jn a b, 0) else (zro, 1) := by
 have ga := good_iff.1 ha
 have gb := good_iff.1 hb
 split
 · rename_i h
   refine qxy ha.1 hb.1 ha.2 hb.2 h ?_
   have gj := good_iff.1 (q8k ha hb h)
   have hc := q1r (q8k ha hb h).1
   rw [q2n]
   exact hc.2.1
 · rename_i h
   exact qwz ha.1 hb.1 ha.2 hb.2 (fun e => h e.1)

theorem qfv {b : Ru} (hb : Good b) : mrg zro b = (b, 0) := qz1 qwe hb.1 rfl

def En.ru (x : En) : Ru := ⟨x.c, x.s, x.lo, x.hi, x.t, x.l⟩
def mkE (k : Int) (r : Ru) : En := ⟨k, r.c, r.s, r.lo, r.hi, r.t, r.l⟩
theorem qut (k : Int) (r : Ru) : (mkE k r).ru = r := rfl
theorem z0g (x : En) : mkE x.key x.ru = x := rfl
theorem q5j (k : Int) (r : Ru) : (mkE k r).key = k := rfl
theorem z0i (k : Int) (r : Ru) : (mkE k r).c = r.c := rfl

theorem qhm {x : En} {low high : Int} (h : entB x low high = true) : Good x.ru := by
 simp only [entB, Bool.and_eq_true, Bool.not_eq_true', beq_eq_false_iff_ne, beq_iff_eq] at h
 exact ⟨h.2, h.1.2⟩

theorem q3t {high : Int} : ∀ {xs : List En} {low : Int}, q0p xs low high = true → ∀ x ∈ xs, Good x.ru
 | [], _, _, x, hx => by simp at hx
 | y :: r, low, h, x, hx => by
   simp only [q0p, Bool.and_eq_true] at h
   rcases List.mem_cons.1 hx with rfl | hx
   · exact qhm h.1
   · exact q3t h.2 x hx

def ins : List En → En → Option (List En)
 | [], x => some [x]
 | y :: r, x =>
   if x.key < y.key then some (x :: y :: r)
   else if y.key = x.key then (if y.c + x.c ≤ 1073741824 then some (mkE x.key (jn y.ru x.ru) :: r) else none)
   else (ins r x).map (y :: ·)
def insO (o : Option (List En)) (x : En) : Option (List En) := o.bind fun l => ins l x
def allL (xs : List En) : Option (List En) := xs.foldl insO (some [])

theorem q3z {y x : En} {r : List En} (h : x.key < y.key) : ins (y :: r) x = some (x :: y :: r) := by simp [ins, h]
theorem q2k {y x : En} {r : List En} (h : y.key = x.key) : ins (y :: r) x = if y.c + x.c ≤ 1073741824 then some (mkE x.key (jn y.ru x.ru) :: r) else none := by
 simp [ins, h]
theorem q2u {y x : En} {r : List En} (h : y.key < x.key) : ins (y :: r) x = (ins r x).map (y :: ·) := by
 simp only [ins]
 rw [if_neg (by omega), if_neg (by omega)]

theorem q9t {o : Option (List En)} {y x : En} (h : y.key < x.key) : (o.map (y :: ·)).bind (ins · x) = (o.bind (ins · x)).map (y :: ·) := by
 cases o with
 | none => rfl
 | some l => simp [q2u h]

theorem qkr {x y : En} (hx : 1 ≤ x.c) (hy : 1 ≤ y.c) : ∀ l : List En, (ins l x).bind (ins · y) = (ins l y).bind (ins · x)
 | [] => by
   simp only [ins, Option.bind_some]
   rcases Int.lt_trichotomy x.key y.key with h | h | h
   · have h1 : ¬ y.key < x.key := by omega
     have h2 : ¬ x.key = y.key := by omega
     simp [h, h1, h2]
   · have h1 : ¬ y.key < x.key := by omega
     have h2 : ¬ x.key < y.key := by omega
     simp only [h, Int.lt_irrefl, if_false, if_true]
     rw [Int.add_comm y.c x.c, qjy y.ru x.ru]
   · have h1 : ¬ x.key < y.key := by omega
     have h2 : ¬ y.key = x.key := by omega
     simp [h, h1, h2]
 | z :: r => by
   rcases Int.lt_trichotomy x.key z.key with hxz | hxz | hxz <;> rcases Int.lt_trichotomy y.key z.key with hyz | hyz | hyz
   · rw [q3z hxz, q3z hyz]
     simp only [Option.bind_some]
     rcases Int.lt_trichotomy x.key y.key with h | h | h
     · rw [q2u h, q3z h, q3z hyz]; rfl
     · rw [q2k h, q2k h.symm, Int.add_comm y.c x.c, qjy y.ru x.ru, h]
     · rw [q3z h, q2u h, q3z hxz]; rfl
   · rw [q3z hxz, q2k hyz.symm]
     simp only [Option.bind_some]
     rw [q2u (by omega), q2k hyz.symm]
     split
     · simp only [Option.map_some, Option.bind_some]
       rw [q3z (by rw [q5j]; omega)]
     · rfl
   · rw [q3z hxz, q2u hyz]
     simp only [Option.bind_some]
     rw [q2u (by omega), q2u hyz]
     cases ins r y with
     | none => rfl
     | some l => simp [q3z hxz]
   · rw [q2k hxz.symm, q3z hyz]
     simp only [Option.bind_some]
     rw [q2u (by omega), q2k hxz.symm]
     split
     · simp only [Option.map_some, Option.bind_some]
       rw [q3z (by rw [q5j]; omega)]
     · rfl
   · rw [q2k hxz.symm, q2k hyz.symm]
     have hxy : x.key = y.key := by omega
     by_cases h1 : z.c + x.c ≤ 1073741824 <;> by_cases h2 : z.c + y.c ≤ 1073741824
     · simp only [h1, h2, if_true, Option.bind_some]
       rw [q2k (by rw [q5j]; exact hxy), q2k (by rw [q5j]; exact hxy.symm)]
       show (if z.c + x.c + y.c ≤ 1073741824 then some (mkE y.key (jn (jn z.ru x.ru) y.ru) :: r) else none) = if z.c + y.c + x.c ≤ 1073741824 then some (mkE x.key (jn (jn z.ru y.ru) x.ru) :: r) else none
       rw [qkc, qkc, qjy x.ru y.ru, hxy]
       by_cases h3 : z.c + x.c + y.c ≤ 1073741824
       · rw [if_pos h3, if_pos (by omega)]
       · rw [if_neg h3, if_neg (by omega)]
     · simp only [h1, h2, if_true, if_false, Option.bind_some, Option.bind_none]
       rw [q2k (by rw [q5j]; exact hxy)]
       exact if_neg (show ¬ z.c + x.c + y.c ≤ 1073741824 by omega)
     · simp only [h1, h2, if_true, if_false, Option.bind_some, Option.bind_none]
       rw [q2k (by rw [q5j]; exact hxy.symm)]
       exact (if_neg (show ¬ z.c + y.c + x.c ≤ 1073741824 by omega)).symm
     · simp [h1, h2]
   · rw [q2k hxz.symm, q2u hyz]
     by_cases h1 : z.c + x.c ≤ 1073741824
     · simp only [h1, if_true, Option.bind_some]
       rw [q2u (by rw [q5j]; omega)]
       cases ins r y with
       | none => rfl
       | some l => simp [q2k hxz.symm, h1]
     · simp only [h1, if_false, Option.bind_none]
       cases ins r y with
       | none => rfl
       | some l => simp [q2k hxz.symm, h1]
   · rw [q2u hxz, q3z hyz]
     simp only [Option.bind_some]
     rw [q2u (by omega), q2u hxz]
     cases ins r x with
     | none => rfl
     | some l => simp [q3z hyz]
   · rw [q2u hxz, q2k hyz.symm]
     by_cases h1 : z.c + y.c ≤ 1073741824
     · simp only [h1, if_true, Option.bind_some]
       rw [q2u (by rw [q5j]; omega)]
       cases ins r x with
       | none => rfl
       | some l => simp [q2k hyz.symm, h1]
     · simp only [h1, if_false, Option.bind_none]
       cases ins r x with
       | none => rfl
       | some l => simp [q2k hyz.symm, h1]
   · rw [q2u hxz, q2u hyz, q9t hyz, q9t hxz, qkr hx hy r]

theorem q5g {l₁ l₂ : List En} (h : l₁.Perm l₂) (hp : ∀ x ∈ l₁, 1 ≤ x.c) : allL l₁ = allL l₂ := by
 unfold allL
 refine h.foldl_eq' (fun x hx y hy z => ?_) _
 cases z with
 | none => rfl
 | some l => exact qkr (hp x hx) (hp y hy) l

end
section
open Go.RowKit Plain

def qa0 (x : Nd) : Prop := x.ents.length ≤ 6 ∧ x.buf.length ≤ 8 ∧ (∀ y ∈ x.ents, Good y.ru) ∧ ∀ y ∈ x.buf, Good y.ru

theorem qx1 {x : Nd} {low high : Int} {f : Nat} (h : q9q x low high f = true) : qa0 x := by
 obtain ⟨_, _, h3, h4, _, h6⟩ := leafB_iff.1 h
 exact ⟨h4, by rw [h3]; simp, q3t h6, by rw [h3]; simp⟩

theorem qtt {x : Nd} {low high : Int} (h : q6c x low high = true) : qa0 x := by
 obtain ⟨h1, _, _, _, h5, h6⟩ := q2f h
 exact ⟨by rw [h1]; simp, h5, by rw [h1]; simp, q3t h6⟩

theorem qr8 {ns : List Nd} {g : Int → Int → Int → St → Option (St × List Int)} (hg : ∀ d lo hi S S' l, g d lo hi S = some (S', l) → ∀ p ∈ S', p ∈ S ∨ qa0 (ns.getD p.1.toNat default)) :
   ∀ (ds keys : List Int) (lo hi : Int) (S S' : St) (l : List Int), Wk g ds keys lo hi S = some (S', l) → ∀ p ∈ S', p ∈ S ∨ qa0 (ns.getD p.1.toNat default)
 | [], _, _, _, _, _, _, h, p, hp => by cases h; exact .inl hp
 | d :: ds, keys, lo, hi, S, S', l, hr, p, hp => by
   unfold Wk at hr
   split at hr
   · cases hr
   · rename_i S1 l1 h1
     split at hr
     · cases hr
     · rename_i S2 l2 h2
       cases hr
       rcases qr8 hg _ _ _ _ _ _ _ h2 p hp with h | h
       · exact hg _ _ _ _ _ _ h1 p h
       · exact .inr h

theorem qz0 {ns : List Nd} : ∀ (f : Nat) (n lo hi : Int) (S S' : St) (l : List Int), W ns f n lo hi S = some (S', l) → ∀ p ∈ S', p ∈ S ∨ qa0 (ns.getD p.1.toNat default) := by
 intro f
 induction f with
 | zero => intro n lo hi S S' l h; cases h
 | succ f ih =>
   intro n lo hi S S' l h p hp
   unfold W at h
   split at h
   · cases h
   · split at h
     · split at h
       · rename_i hl
         cases h
         rcases List.mem_cons.1 hp with rfl | hp
         · exact .inr (qx1 hl)
         · exact .inl hp
       · cases h
     · split at h
       · rename_i hin
         rcases qr8 ih _ _ _ _ _ _ _ h p hp with h | h
         · rcases List.mem_cons.1 h with rfl | h
           · exact .inr (qtt hin)
           · exact .inl h
         · exact .inr h
       · cases h

theorem q8d {ns : List Nd} {root : Int} (h : q1e ns root = 0) : ns.length ≤ 2000 ∧ ∀ i (hi : i < ns.length), qa0 ns[i] := by
 unfold q1e at h
 split at h
 · omega
 · rename_i hn
   refine ⟨by omega, fun i hi => ?_⟩
   cases hW : W ns 12 root 0 1099511627776 [] with
   | none => rw [hW] at h; simp at h
   | some p =>
     obtain ⟨S, l⟩ := p
     rw [hW] at h
     simp only at h
     split at h
     · rename_i hc
       have hst := (W_st 12 _ _ _ _ _ _ hW ⟨by simp, by simp⟩).1
       have hseen := (qkx hst).1 hc.2 i hi
       obtain ⟨p, hp, hpe⟩ := List.mem_map.1 (seenB_iff.1 hseen)
       rcases qz0 12 _ _ _ _ _ _ hW p hp with h | h
       · simp at h
       · rw [hpe] at h
         simpa [hi] using h
     · omega

def Nd.lst (x : Nd) : List En := x.ents ++ x.buf
def z0j (ns : List Nd) (i k : Nat) : List En := (ns.take i).flatMap Nd.lst ++ ((ns.getD i default).lst).take k

def allR (low high : Int) (xs : List En) : Option (List En) := allL (xs.filter (inR low high))

theorem qab (xs : List En) (x : En) : allL (xs ++ [x]) = insO (allL xs) x := by simp [allL]

theorem q3n : ∀ ys : List En, ys.foldl insO none = none
 | [] => rfl
 | _ :: r => q3n r
theorem qxm {low high : Int} {xs ys : List En} (h : allR low high xs = none) : allR low high (xs ++ ys) = none := by
 unfold allR allL at *
 rw [List.filter_append, List.foldl_append, h, q3n]

theorem q5p {x : En} (hx : Good x.ru) : ∀ {l r : List En}, (∀ y ∈ l, Good y.ru) → ins l x = some r → (∀ y ∈ r, Good y.ru) ∧ r.length ≤ l.length + 1
 | [], r, _, h => by simp [ins] at h; subst h; simpa using hx
 | y :: l, r, hl, h => by
   have hy := hl y List.mem_cons_self
   have hl' : ∀ z ∈ l, Good z.ru := fun z hz => hl z (List.mem_cons_of_mem _ hz)
   simp only [ins] at h
   split at h
   · cases h
     refine ⟨fun z hz => ?_, by simp⟩
     rcases List.mem_cons.1 hz with rfl | hz
     · exact hx
     · exact hl z hz
   · split at h
     · split at h
       · rename_i hc
         cases h
         refine ⟨fun z hz => ?_, by simp⟩
         rcases List.mem_cons.1 hz with rfl | hz
         · exact q8k hy hx hc
         · exact hl' z hz
       · cases h
     · cases hr : ins l x with
       | none => rw [hr] at h; cases h
       | some q =>
         rw [hr] at h
         cases h
         have ih := q5p hx hl' hr
         refine ⟨fun z hz => ?_, by simp; omega⟩
         rcases List.mem_cons.1 hz with rfl | hz
         · exact hy
         · exact ih.1 z hz

end
section
open Go.RowKit Plain

theorem qir {x : En} : ∀ {l : List En} (r : List En), (∀ y ∈ l, y.key < x.key) → ins (l ++ r) x = (ins r x).map (l ++ ·)
 | [], r, _ => by rw [List.nil_append]; cases ins r x <;> rfl
 | y :: l, r, h => by
   rw [List.cons_append, q2u (h y List.mem_cons_self), qir r (fun z hz => h z (List.mem_cons_of_mem _ hz))]
   cases ins r x <;> rfl

theorem qzf (w : World) (x : En) : ∀ j u, x.vals[j]? = some u → (w.alloc (.cells x.vals.toArray 86)).cell? ((⟨w.heap.size, 0, none⟩ : Addr).add j) = some u := by
 intro j u hu
 rw [WideShapes.add_plain, Nat.zero_add, (q0b w x.vals 86).cell]
 exact hu

theorem q8u (x : En) : ∀ u ∈ x.vals, u.oneCell' = true := by
 have := q2i [x]
 simpa [q0d] using this

theorem qaz (l : List En) (x : En) : q0d l ++ x.vals = q0d (l ++ [x]) := by rw [q2j]; simp [q0d]

theorem qae {B : Nat} {W wd w1 : World} {v : Value} {out : List En} {o : Obj} (hown : wd.ownsRow B 86 7 v out.length (q0d out)) (hb : Below B W wd) (hB : B ≤ wd.heap.size) (hg : (wd.alloc o).grownBy w1 v.ownBlock) : Below B W w1 ∧ B ≤ w1.heap.size := by
 have hs := hg.size
 simp at hs
 exact ⟨(hb.alloc hB o).grown hg (by simp; omega) (fun k hk => (hown.lt k hk).1), by omega⟩

theorem qd0 {B : Nat} {w1 : World} {v : Value} {out : List En} {y : En} (h : w1.ownsRow B 86 7 v (out.length + 1) (q0d out ++ y.vals)) : w1.ownsRow B 86 7 v (out ++ [y]).length (q0d (out ++ [y])) := by
 rw [qaz] at h
 simpa using h

theorem qel {W w3 : World} {c : Array Value} {t : TypeId} {n : Nat} (hb : Below (W.alloc (.cells c t)).heap.size (W.alloc (.cells c t)) w3) (hn : W.heap.size = n) :
   w3.cell? ⟨n, 0, none⟩ = c[0]? ∧ w3.cell? ⟨n, 1, none⟩ = c[1]? ∧ w3.cell? ⟨n, 2, none⟩ = c[2]? ∧ w3.cell? ⟨n, 3, none⟩ = c[3]? ∧ w3.cell? ⟨n, 4, none⟩ = c[4]? ∧ w3.cell? ⟨n, 5, none⟩ = c[5]? ∧ ∀ j, w3.frozen? ⟨n, j, none⟩ = false := by
 subst hn
 have g : ∀ j, w3.cell? ⟨W.heap.size, j, none⟩ = c[j]? := fun j => (hb.cell (p := ⟨W.heap.size, j, none⟩) (by simp)).trans (by simp)
 exact ⟨g 0, g 1, g 2, g 3, g 4, g 5, fun j => (hb.frozen (p := ⟨W.heap.size, j, none⟩) (by simp)).trans (by simp)⟩

end
section
open Go.RowKit Plain

theorem qpr {x : En} {l : List En} (h : ∀ z ∈ l, z.key < x.key) : ins l x = some (l ++ [x]) := by
 have := qir (x := x) [] h
 simpa [ins] using this

theorem qtv {x y : En} {l : List En} (h : ∀ z ∈ l, z.key < x.key) (hy : y.key = x.key) : ins (l ++ [y]) x = if y.c + x.c ≤ 1073741824 then some (l ++ [mkE x.key (jn y.ru x.ru)]) else none := by
 rw [qir _ h, q2k hy]
 split <;> simp

structure Brg (xs : List En) (i : Nat) (out : List En) : Prop where
 is : allL (xs.take i) = some out
 inc : out.Pairwise fun a b => a.key < b.key
 up : ∀ z ∈ out, ∀ x ∈ xs.drop i, z.key ≤ x.key
 good : ∀ z ∈ out, Good z.ru
 len : out.length ≤ i

theorem qge (xs : List En) : Brg xs 0 [] := ⟨by simp [allL], by simp, by simp, by simp, by simp⟩

theorem qls {xs : List En} {i : Nat} {x : En} (h : x ∈ xs.drop (i + 1)) : x ∈ xs.drop i := by
 have : xs.drop (i + 1) = (xs.drop i).drop 1 := by rw [List.drop_drop]
 rw [this] at h
 exact List.mem_of_mem_drop h

theorem qhd {xs : List En} {i : Nat} (hi : i < xs.length) : allL (xs.take (i + 1)) = insO (allL (xs.take i)) xs[i] := by
 rw [List.take_succ_eq_append_getElem hi, qab]

theorem qcn {xs : List En} (hs : xs.Pairwise fun a b => a.key ≤ b.key) {i : Nat} (hi : i < xs.length) : ∀ x ∈ xs.drop (i + 1), xs[i].key ≤ x.key := by
 intro x hx
 obtain ⟨j, hj, rfl⟩ := List.getElem_of_mem hx
 rw [List.getElem_drop]
 exact List.pairwise_iff_getElem.1 hs i (i + 1 + j) hi _ (by omega)

theorem qg6 {xs : List En} {i : Nat} {out : List En} (hs : xs.Pairwise fun a b => a.key ≤ b.key) (h : Brg xs i out) (hi : i < xs.length) (hg : Good xs[i].ru) (hn : ∀ l y, out = l ++ [y] → y.key ≠ xs[i].key) : Brg xs (i + 1) (out ++ [xs[i]]) := by
 have mem : xs[i] ∈ xs.drop i := by rw [List.drop_eq_getElem_cons hi]; exact List.mem_cons_self
 have low : ∀ z ∈ out, z.key < xs[i].key := by
   intro z hz
   rcases List.eq_nil_or_concat out with rfl | ⟨l, y, rfl⟩
   · simp at hz
   · have hy := h.up y (by simp) _ mem
     have hne := hn l y (by simp)
     rcases List.mem_append.1 (by simpa using hz : z ∈ l ++ [y]) with hz | hz
     · have := (List.pairwise_append.1 (by simpa using h.inc : (l ++ [y]).Pairwise _)).2.2 z hz y (by simp)
       omega
     · have : z = y := by simpa using hz
       subst this
       omega
 refine ⟨?_, ?_, ?_, ?_, ?_⟩
 · rw [qhd hi, h.is]
   exact qpr low
 · rw [List.pairwise_append]
   exact ⟨h.inc, by simp, fun a ha b hb => by have : b = xs[i] := by simpa using hb
                                              subst this; exact low a ha⟩
 · intro z hz x hx
   rcases List.mem_append.1 hz with hz | hz
   · exact h.up z hz x (qls hx)
   · have : z = xs[i] := by simpa using hz
     subst this
     exact qcn hs hi x hx
 · intro z hz
   rcases List.mem_append.1 hz with hz | hz
   · exact h.good z hz
   · have : z = xs[i] := by simpa using hz
     subst this
     exact hg
 · have := h.len
   simp
   omega

theorem qlx {xs : List En} {i : Nat} {l : List En} {y : En} (hs : xs.Pairwise fun a b => a.key ≤ b.key) (h : Brg xs i (l ++ [y])) (hi : i < xs.length) (hg : Good xs[i].ru) (hy : y.key = xs[i].key) :
   mrg y.ru xs[i].ru = (if y.c + xs[i].c ≤ 1073741824 then (jn y.ru xs[i].ru, 0) else (zro, 1)) ∧
   (y.c + xs[i].c ≤ 1073741824 → Brg xs (i + 1) (l ++ [mkE xs[i].key (jn y.ru xs[i].ru)])) ∧ (¬ y.c + xs[i].c ≤ 1073741824 → allL xs = none) := by
 have low : ∀ z ∈ l, z.key < xs[i].key := fun z hz => by
   have := (List.pairwise_append.1 h.inc).2.2 z hz y (by simp)
   omega
 have st : allL (xs.take (i + 1)) = if y.c + xs[i].c ≤ 1073741824 then some (l ++ [mkE xs[i].key (jn y.ru xs[i].ru)]) else none := by
   rw [qhd hi, h.is]
   exact qtv low hy
 have gy := h.good y (by simp)
 refine ⟨q7s gy hg, fun hc => ?_, fun hc => ?_⟩
 · rw [if_pos hc] at st
   refine ⟨st, ?_, ?_, ?_, ?_⟩
   · rw [List.pairwise_append]
     exact ⟨(List.pairwise_append.1 h.inc).1, by simp, fun a ha b hb => by have : b = mkE xs[i].key (jn y.ru xs[i].ru) := by simpa using hb
                                                                           subst this; exact low a ha⟩
   · intro z hz x hx
     rcases List.mem_append.1 hz with hz | hz
     · exact h.up z (by simp [hz]) x (qls hx)
     · have : z = mkE xs[i].key (jn y.ru xs[i].ru) := by simpa using hz
       subst this
       exact qcn hs hi x hx
   · intro z hz
     rcases List.mem_append.1 hz with hz | hz
     · exact h.good z (by simp [hz])
     · have : z = mkE xs[i].key (jn y.ru xs[i].ru) := by simpa using hz
       subst this
       exact q8k gy hg hc
   · have := h.len
     simp only [List.length_append, List.length_cons, List.length_nil] at this ⊢
     omega
 · rw [if_neg hc] at st
   have e : xs = xs.take (i + 1) ++ xs.drop (i + 1) := (List.take_append_drop _ _).symm
   rw [e]
   unfold allL at st ⊢
   rw [List.foldl_append, st]
   exact q3n _

theorem qpc {xs out : List En} (h : Brg xs xs.length out) : allL xs = some out := by
 have := h.is
 rwa [List.take_length] at this

theorem q5r {w : World} {base : Nat} {e : TypeId} {size n k : Nat} {v : Value} {vs : List Value} (h : w.ownsRow base e size v n vs) (hk : v.ownBlock = some k) : base ≤ k ∧ k < w.heap.size := by
 rcases h.2 with ⟨rfl, _⟩ | ⟨g, cap, cur, rfl, hb, hg, _⟩
 · cases hk
 · have : g = k := by simpa [Value.ownBlock] using hk
   subst this
   exact ⟨hb, (Array.getElem?_eq_some_iff.1 hg).1⟩

theorem qrf (w : World) (o : Obj) (x : En) : ∀ j u, x.vals[j]? = some u → ((w.alloc o).alloc (.cells x.vals.toArray 86)).cell? ((⟨w.heap.size + 1, 0, none⟩ : Addr).add j) = some u := by
 have := qzf (w.alloc o) x
 simpa using this

end
section
open Go.RowKit Plain

theorem qfe {x : En} : ∀ {l r : List En}, (l.Pairwise fun a b => a.key < b.key) → ins l x = some r → (r.Pairwise fun a b => a.key < b.key) ∧ ∀ z ∈ r, z.key = x.key ∨ ∃ y ∈ l, y.key = z.key
 | [], r, _, h => by
   cases h
   exact ⟨by simp, by simp⟩
 | y :: l, r, hp, h => by
   obtain ⟨h1, h2⟩ := List.pairwise_cons.1 hp
   rcases Int.lt_trichotomy x.key y.key with hk | hk | hk
   · rw [q3z hk] at h
     cases h
     refine ⟨List.pairwise_cons.2 ⟨fun z hz => ?_, hp⟩, fun z hz => ?_⟩
     · rcases List.mem_cons.1 hz with rfl | hz
       · exact hk
       · have := h1 z hz
         omega
     · rcases List.mem_cons.1 hz with rfl | hz
       · exact .inl rfl
       · exact .inr ⟨z, hz, rfl⟩
   · rw [q2k hk.symm] at h
     split at h
     · cases h
       refine ⟨List.pairwise_cons.2 ⟨fun z hz => ?_, h2⟩, fun z hz => ?_⟩
       · rw [q5j, hk]
         exact h1 z hz
       · rcases List.mem_cons.1 hz with rfl | hz
         · exact .inl rfl
         · exact .inr ⟨z, List.mem_cons_of_mem _ hz, rfl⟩
     · cases h
   · rw [q2u hk] at h
     cases hi : ins l x with
     | none => rw [hi] at h; cases h
     | some r' =>
       rw [hi] at h
       cases h
       obtain ⟨q1, q2⟩ := qfe h2 hi
       refine ⟨List.pairwise_cons.2 ⟨fun z hz => ?_, q1⟩, fun z hz => ?_⟩
       · rcases q2 z hz with e | ⟨u, hu, e⟩
         · omega
         · have := h1 u hu
           omega
       · rcases List.mem_cons.1 hz with rfl | hz
         · exact .inr ⟨z, List.mem_cons_self, rfl⟩
         · rcases q2 z hz with e | ⟨u, hu, e⟩
           · exact .inl e
           · exact .inr ⟨u, List.mem_cons_of_mem _ hu, e⟩

theorem qp4 {x : En} : ∀ {l : List En}, (∀ z ∈ l, x.key < z.key) → ins l x = some (x :: l)
 | [], _ => rfl
 | y :: _, h => q3z (h y List.mem_cons_self)

theorem qef {P : Int → Bool} {x : En} : ∀ {o o' : List En}, (o.Pairwise fun a b => a.key < b.key) → ins o x = some o' →
   (P x.key = true → ins (o.filter fun z => P z.key) x = some (o'.filter fun z => P z.key)) ∧ (P x.key = false → (o'.filter fun z => P z.key) = o.filter fun z => P z.key)
 | [], o', _, h => by
   cases h
   exact ⟨fun hp => by simp [ins, hp], fun hp => by simp [hp]⟩
 | y :: r, o', hs, h => by
   obtain ⟨h1, h2⟩ := List.pairwise_cons.1 hs
   rcases Int.lt_trichotomy x.key y.key with hk | hk | hk
   · rw [q3z hk] at h
     cases h
     refine ⟨fun hp => ?_, fun hp => by rw [List.filter_cons_of_neg (by simp [hp])]⟩
     rw [List.filter_cons_of_pos (a := x) (by simpa using hp)]
     refine qp4 fun z hz => ?_
     rcases List.mem_cons.1 (List.mem_filter.1 hz).1 with rfl | hz
     · exact hk
     · have := h1 z hz
       omega
   · rw [q2k hk.symm] at h
     split at h
     · rename_i hc
       cases h
       refine ⟨fun hp => ?_, fun hp => ?_⟩
       · rw [List.filter_cons_of_pos (by rw [← hk]; exact hp), List.filter_cons_of_pos (by exact hp), q2k hk.symm, if_pos hc]
       · rw [List.filter_cons_of_neg (by rw [q5j, hp]; simp), List.filter_cons_of_neg (by rw [← hk, hp]; simp)]
     · cases h
   · rw [q2u hk] at h
     cases hi : ins r x with
     | none => rw [hi] at h; cases h
     | some r' =>
       rw [hi] at h
       cases h
       obtain ⟨q1, q2⟩ := qef (P := P) h2 hi
       refine ⟨fun hp => ?_, fun hp => ?_⟩
       · by_cases hy : P y.key = true
         · rw [List.filter_cons_of_pos (by exact hy), List.filter_cons_of_pos (by exact hy), q2u hk, q1 hp]
           rfl
         · rw [List.filter_cons_of_neg (by exact hy), List.filter_cons_of_neg (by exact hy), q1 hp]
       · by_cases hy : P y.key = true
         · rw [List.filter_cons_of_pos (by exact hy), List.filter_cons_of_pos (by exact hy), q2 hp]
         · rw [List.filter_cons_of_neg (by exact hy), List.filter_cons_of_neg (by exact hy), q2 hp]

theorem q6k {P : Int → Bool} : ∀ (xs o r : List En), (o.Pairwise fun a b => a.key < b.key) → xs.foldl insO (some o) = some r → (xs.filter fun z => P z.key).foldl insO (some (o.filter fun z => P z.key)) = some (r.filter fun z => P z.key)
 | [], o, r, _, h => by
   cases h
   simp
 | x :: xs, o, r, hs, h => by
   rw [List.foldl_cons] at h
   cases hi : insO (some o) x with
   | none => rw [hi, q3n] at h; cases h
   | some o' =>
     rw [hi] at h
     have hi' : ins o x = some o' := hi
     have ih := q6k (P := P) xs o' r (qfe hs hi').1 h
     obtain ⟨q1, q2⟩ := qef (P := P) hs hi'
     by_cases hp : P x.key = true
     · rw [List.filter_cons_of_pos (by exact hp), List.foldl_cons, show insO (some (o.filter fun z => P z.key)) x = ins (o.filter fun z => P z.key) x from rfl, q1 hp]
       exact ih
     · rw [List.filter_cons_of_neg (by exact hp), ← q2 (by simpa using hp)]
       exact ih

end
section
open Go.RowKit Plain

structure Kept (ex : List Nat) (w w' : World) : Prop where
 os : w'.os = w.os
 tape : w'.tape = w.tape
 output : w'.output = w.output
 size : w.heap.size ≤ w'.heap.size
 block : ∀ k, k < w.heap.size → k ∉ ex → w'.heap[k]? = w.heap[k]?

section
variable {ex : List Nat} {w w' w'' : World}

theorem Kept.refl (ex : List Nat) (w : World) : Kept ex w w := ⟨rfl, rfl, rfl, Nat.le_refl _, fun _ _ _ => rfl⟩
theorem Kept.trans (h : Kept ex w w') (k : Kept ex w' w'') : Kept ex w w'' :=
 ⟨k.os.trans h.os, k.tape.trans h.tape, k.output.trans h.output, Nat.le_trans h.size k.size, fun i hi hx => (k.block i (Nat.lt_of_lt_of_le hi h.size) hx).trans (h.block i hi hx)⟩
theorem Kept.alloc (h : Kept ex w w') (o : Obj) : Kept ex w (w'.alloc o) :=
 h.trans ⟨rfl, rfl, rfl, by simp, fun k hk _ => Below.heap_alloc _ _ _ hk⟩
theorem Kept.set (h : Kept ex w w') {b j : Nat} (hb : b ∈ ex ∨ w.heap.size ≤ b) (v : Value) : Kept ex w (w'.setCell ⟨b, j, none⟩ v) :=
 ⟨h.os, h.tape, h.output, by simpa using h.size, fun k hk hx => (Below.heap_setCell _ _ _ _ (by rintro rfl; rcases hb with hb | hb; exact hx hb; omega)).trans (h.block k hk hx)⟩
theorem Kept.drew (h : Kept ex w w') : Kept ex w w'.drew := ⟨h.os, h.tape, h.output, h.size, h.block⟩
theorem Kept.drewN (h : Kept ex w w') (n : Nat) : Kept ex w (w'.drewN n) := ⟨h.os, h.tape, h.output, h.size, h.block⟩
theorem Kept.of_below (h : Below w.heap.size w w') : Kept ex w w' := ⟨h.os, h.tape, h.output, h.size, fun k hk _ => h.block k hk⟩
theorem Kept.below (h : Kept ex w w') {B : Nat} (hB : B ≤ w.heap.size) (hx : ∀ x ∈ ex, B ≤ x) : Below B w w' :=
 ⟨h.os, h.tape, h.output, h.size, fun k hk => h.block k (by omega) (fun hm => by have := hx k hm; omega)⟩
theorem Kept.cell (h : Kept ex w w') {b : Nat} (o : Nat) (hb : b < w.heap.size) (hx : b ∉ ex) : w'.cell? ⟨b, o, none⟩ = w.cell? ⟨b, o, none⟩ :=
 World.cell?_of_block (w := w) (a := ⟨b, o, none⟩) (h.block b hb hx)
theorem Kept.row (h : Kept ex w w') {b : Nat} {t : TypeId} {vs : List Value} (hr : RowL w b t vs) (hx : b ∉ ex) : RowL w' b t vs := hr.of_block (h.block b hr.lt hx)
end

theorem qm4 {v w2 : World} {l1 l2 : List Value} {t1 t2 : TypeId} (hb : Below ((v.alloc (.cells l1.toArray t1)).alloc (.cells l2.toArray t2)).heap.size ((v.alloc (.cells l1.toArray t1)).alloc (.cells l2.toArray t2)) w2) {n : Nat} (hn : n = v.heap.size) :
   RowL w2 n t1 l1 ∧ RowL w2 (n + 1) t2 l2 ∧ n + 1 < w2.heap.size := by
 subst hn
 have s1 : (v.alloc (.cells l1.toArray t1)).heap.size = v.heap.size + 1 := by simp
 have s2 : ((v.alloc (.cells l1.toArray t1)).alloc (.cells l2.toArray t2)).heap.size = v.heap.size + 2 := by simp
 have r1 : RowL ((v.alloc (.cells l1.toArray t1)).alloc (.cells l2.toArray t2)) v.heap.size t1 l1 := (q0b v l1 t1).of_block (Below.heap_alloc _ _ _ (by omega))
 have r2 : RowL ((v.alloc (.cells l1.toArray t1)).alloc (.cells l2.toArray t2)) (v.heap.size + 1) t2 l2 := by
   have := q0b (v.alloc (.cells l1.toArray t1)) l2 t2
   rwa [s1] at this
 have hs := hb.size
 exact ⟨r1.below hb (by omega), r2.below hb (by omega), by omega⟩

theorem qig (ns : List Nd) (f : Nat) (n low high : Int) (S : St) : W ns (f + 1) n low high S =
   if n < 0 ∨ (ns.length : Int) ≤ n ∨ high ≤ low ∨ q6l S n = true then none
   else if (ns.getD n.toNat default).leaf = true then
     (if q9q (ns.getD n.toNat default) low high f = true then some ((n, 12 - (f : Int)) :: S, [12 - (f : Int)]) else none)
   else if q6c (ns.getD n.toNat default) low high = true then Wk (W ns f) (ns.getD n.toNat default).kids (ns.getD n.toNat default).keys low high ((n, 12 - (f : Int)) :: S)
   else none := rfl

theorem qy6 {ns : List Nd} {f : Nat} {n low high : Int} {S : St} (h : n < 0 ∨ (ns.length : Int) ≤ n ∨ high ≤ low ∨ q6l S n = true) : W ns f n low high S = none := by
 cases f with
 | zero => rfl
 | succ f => rw [qig, if_pos h]

theorem qyf {ns : List Nd} {f m : Nat} {low high : Int} {S : St} {x : Nd} (hm : m < ns.length) (hx : ns[m] = x) (hlh : low < high) (hs : q6l S m = false) (hl : x.leaf = true) :
   W ns (f + 1) m low high S = if q9q x low high f = true then some (((m : Int), 12 - (f : Int)) :: S, [12 - (f : Int)]) else none := by
 have hg : ns.getD m default = x := by simp [hm, hx]
 rw [qig, if_neg (by simp [hs]; omega)]
 simp only [Int.toNat_natCast, hg, hl, if_true]

theorem qwp {ns : List Nd} {f m : Nat} {low high : Int} {S : St} {x : Nd} (hm : m < ns.length) (hx : ns[m] = x) (hlh : low < high) (hs : q6l S m = false) (hl : x.leaf = false) :
   W ns (f + 1) m low high S = if q6c x low high = true then Wk (W ns f) x.kids x.keys low high (((m : Int), 12 - (f : Int)) :: S) else none := by
 have hg : ns.getD m default = x := by simp [hm, hx]
 rw [qig, if_neg (by simp [hs]; omega)]
 simp only [Int.toNat_natCast, hg, hl, Bool.false_eq_true, if_false]

end
section
open Go.RowKit Plain

def cntK (k : Int) : List En → Int
 | [] => 0
 | y :: r => (if y.key = k then y.c else 0) + cntK k r

theorem q3j (k : Int) : ∀ l m : List En, cntK k (l ++ m) = cntK k l + cntK k m
 | [], m => by simp [cntK]
 | y :: r, m => by simp only [List.cons_append, cntK, q3j k r m]; omega

theorem qcl {k : Int} {l m : List En} (h : l.Perm m) : cntK k l = cntK k m := by
 induction h with
 | nil => rfl
 | cons x _ ih => simp only [cntK, ih]
 | swap x y l => simp only [cntK]; omega
 | trans _ _ h1 h2 => rw [h1, h2]

def Pos (l : List En) : Prop := ∀ y ∈ l, 1 ≤ y.c

theorem q7q {k : Int} : ∀ {l : List En}, Pos l → 0 ≤ cntK k l
 | [], _ => Int.le_refl _
 | y :: r, h => by
   have h1 := h y List.mem_cons_self
   have h2 := q7q (k := k) (l := r) fun z hz => h z (List.mem_cons_of_mem _ hz)
   simp only [cntK]
   split <;> omega

theorem Pos.app {l m : List En} (h : Pos l) (k : Pos m) : Pos (l ++ m) := fun y hy => (List.mem_append.1 hy).elim (h y) (k y)
theorem Pos.left {l m : List En} (h : Pos (l ++ m)) : Pos l := fun y hy => h y (List.mem_append_left _ hy)
theorem Pos.right {l m : List En} (h : Pos (l ++ m)) : Pos m := fun y hy => h y (List.mem_append_right _ hy)
theorem Pos.perm {l m : List En} (h : Pos l) (p : l.Perm m) : Pos m := fun y hy => h y (p.mem_iff.2 hy)

structure Eqv (l m : List En) : Prop where
 all : ∀ r, Pos r → allL (l ++ r) = allL (m ++ r)
 cnt : ∀ k, cntK k l = cntK k m
 posl : Pos l
 posm : Pos m

theorem Eqv.refl {l : List En} (h : Pos l) : Eqv l l := ⟨fun _ _ => rfl, fun _ => rfl, h, h⟩
theorem Eqv.symm {l m : List En} (h : Eqv l m) : Eqv m l := ⟨fun r hr => (h.all r hr).symm, fun k => (h.cnt k).symm, h.posm, h.posl⟩
theorem Eqv.trans {l m n : List En} (h : Eqv l m) (k : Eqv m n) : Eqv l n := ⟨fun r hr => (h.all r hr).trans (k.all r hr), fun q => (h.cnt q).trans (k.cnt q), h.posl, k.posm⟩
theorem Eqv.of_perm {l m : List En} (h : l.Perm m) (hp : Pos l) : Eqv l m := ⟨fun r hr => q5g (h.append_right r) (hp.app hr), fun _ => qcl h, hp, hp.perm h⟩
theorem Eqv.app {l m : List En} (h : Eqv l m) {r : List En} (hr : Pos r) : Eqv (l ++ r) (m ++ r) :=
 ⟨fun s hs => by rw [List.append_assoc, List.append_assoc]; exact h.all _ (hr.app hs), fun k => by rw [q3j, q3j, h.cnt], h.posl.app hr, h.posm.app hr⟩
theorem Eqv.app_left {l m : List En} (h : Eqv l m) {r : List En} (hr : Pos r) : Eqv (r ++ l) (r ++ m) :=
 (Eqv.of_perm List.perm_append_comm (hr.app h.posl)).trans ((h.app hr).trans (Eqv.of_perm List.perm_append_comm (h.posm.app hr)))
theorem Eqv.eq {l m : List En} (h : Eqv l m) : allL l = allL m := by simpa using h.all [] (by intro y hy; simp at hy)

theorem Eqv.join {x y : En} (hk : y.key = x.key) (hx : Good x.ru) (hy : Good y.ru) (hc : y.c + x.c ≤ 1073741824) : Eqv [y, x] [mkE x.key (jn y.ru x.ru)] := by
 have gx := (good_iff.1 hx).1
 have gy := (good_iff.1 hy).1
 have cx : x.ru.c = x.c := rfl
 have cy : y.ru.c = y.c := rfl
 have cj : (mkE x.key (jn y.ru x.ru)).c = y.c + x.c := rfl
 refine ⟨fun r _ => ?_, fun k => ?_, fun z hz => ?_, fun z hz => ?_⟩
 · have e : insO (insO (some []) y) x = insO (some []) (mkE x.key (jn y.ru x.ru)) := by
     show ins [y] x = some [mkE x.key (jn y.ru x.ru)]
     rw [q2k hk, if_pos hc]
   show r.foldl insO (insO (insO (some []) y) x) = r.foldl insO (insO (some []) (mkE x.key (jn y.ru x.ru)))
   rw [e]
 · simp only [cntK, q5j, cj, hk]
   split <;> omega
 · rcases List.mem_cons.1 hz with rfl | hz
   · omega
   · obtain rfl : z = x := by simpa using hz
     omega
 · obtain rfl : z = mkE x.key (jn y.ru x.ru) := by simpa using hz
   omega

end
end Go.Proofs.YtlojfgdpmaigmafGreatDoor

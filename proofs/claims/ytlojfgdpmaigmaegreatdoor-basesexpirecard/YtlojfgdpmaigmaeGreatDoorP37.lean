/- What a base knows of points: the document's Book. -/
import Derived.Test.YtlojfgdpmaigmaeGreatDoorP28
import Derived.Test.YtlojfgdpmaigmaeGreatDoorP17
import Derived.Test.YtlojfgdpmaigmaeGreatDoorP36
import Derived.Test.YtlojfgdpmaigmaeGreatDoorP30
import Derived.Test.YtlojfgdpmaigmaeGreatDoorP34
import Derived.Test.YtlojfgdpmaigmaeGreatDoorP16
import Derived.Test.YtlojfgdpmaigmaeGreatDoorP35
import Derived.Test.YtlojfgdpmaigmaeGreatDoorP32
import Derived.Test.YtlojfgdpmaigmaeGreatDoorP33
namespace Go.Proofs.YtlojfgdpmaigmaeGreatDoor
open Go.RowKit Plain

/-- A base, as it is handed over. -/
def baseV (A : Option Addr) (C : Nat) (ss : List ByteArray) (t0 t1 t2 : TR) (f : Int) : List Value := [.slice A ss.length C, .slice t0.A t0.ps.length t0.C, .int .i64 t0.r, .slice t1.A t1.ps.length t1.C, .int .i64 t1.r, .slice t2.A t2.ps.length t2.C, .int .i64 t2.r, .int .i64 f]

end Go.Proofs.YtlojfgdpmaigmaeGreatDoor

/- What goes down a tree: lists of entries that tell the same; a list with an entry more. In plain terms. -/
namespace Go.Proofs.YtlojfgdpmaigmaeGreatDoor
open Go.RowKit Plain

theorem entB_iff {x : En} {lo hi : Int} : entB x lo hi = true ↔ (lo ≤ x.key ∧ x.key < hi) ∧ Good x.ru := by
  constructor
  · intro h
    refine ⟨?_, entB_good h⟩
    simp only [entB, Bool.and_eq_true, decide_eq_true_eq] at h
    exact h.1.1
  · rintro ⟨⟨h1, h2⟩, h3, h4⟩
    simp only [entB, Bool.and_eq_true, decide_eq_true_eq, Bool.not_eq_true', beq_eq_false_iff_ne, beq_iff_eq]
    exact ⟨⟨⟨h1, h2⟩, h4⟩, h3⟩

theorem entsB_glue {k hi : Int} : ∀ {A B : List En} {lo : Int}, entsB A lo k = true → entsB B k hi = true → lo ≤ k → k ≤ hi → entsB (A ++ B) lo hi = true
  | [], B, lo, _, hB, hl, _ => entsB_mono hB hl
  | x :: A, B, lo, hA, hB, _, hh => by
    simp only [entsB, Bool.and_eq_true, List.cons_append] at hA ⊢
    have h1 := entB_iff.1 hA.1
    exact ⟨entB_iff.2 ⟨⟨h1.1.1, by omega⟩, h1.2⟩, entsB_glue hA.2 hB (by omega) hh⟩

theorem entsB_turn {x z : En} {hi : Int} (hz : z.key = x.key) (hg : Good z.ru) : ∀ {A B : List En} {lo : Int}, entsB (A ++ x :: B) lo hi = true → entsB (A ++ z :: B) lo hi = true
  | [], B, lo, h => by
    simp only [List.nil_append, entsB, Bool.and_eq_true] at h ⊢
    have h1 := entB_iff.1 h.1
    exact ⟨entB_iff.2 ⟨⟨by omega, by omega⟩, hg⟩, by rw [hz]; exact h.2⟩
  | y :: A, B, lo, h => by
    simp only [List.cons_append, entsB, Bool.and_eq_true] at h ⊢
    exact ⟨h.1, entsB_turn hz hg h.2⟩

theorem entsB_after {hi k : Int} : ∀ {l : List En}, entsB l k hi = true → (∀ y ∈ l, y.key ≠ k) → entsB l (k + 1) hi = true
  | [], _, _ => rfl
  | x :: r, h, hn => by
    simp only [entsB, Bool.and_eq_true] at h ⊢
    have h1 := entB_iff.1 h.1
    have h2 := hn x List.mem_cons_self
    exact ⟨entB_iff.2 ⟨⟨by omega, h1.1.2⟩, h1.2⟩, h.2⟩

theorem entsB_pos {lo hi : Int} {l : List En} (h : entsB l lo hi = true) : Pos l := fun y hy => (good_iff.1 (entsB_good h y hy)).1.1

structure WithOk (l : List En) (x : En) (lo hi : Int) (m : List En) : Prop where
  ents : entsB m lo hi = true
  eqv : Eqv (x :: l) m
  ne : m ≠ []
  len : m.length = if hasK l x.key = true then l.length else l.length + 1

theorem withE_ok {l : List En} {x : En} {lo hi : Int} (hl : entsB l lo hi = true) (hx : entB x lo hi = true) (hc : cntK x.key l + x.c ≤ 1073741824) : WithOk l x lo hi (withE l x) := by
  have hp := (entsB_lt hl).2
  obtain ⟨⟨hx1, hx2⟩, hxg⟩ := entB_iff.1 hx
  have hpx : (1 : Int) ≤ x.c := (good_iff.1 hxg).1.1
  have hpl := entsB_pos hl
  cases hk : hasK l x.key with
  | true =>
    obtain ⟨hi', hkey⟩ := hasK_low hp hk
    obtain ⟨e1, e2⟩ := set_split l (lowN l x.key) (mkE (l[lowN l x.key]).key (mrg (l[lowN l x.key]).ru x.ru).1) hi'
    have e : withE l x = l.set (lowN l x.key) (mkE (l[lowN l x.key]).key (mrg (l[lowN l x.key]).ru x.ru).1) := by
      unfold withE
      rw [if_pos hk, List.getD_eq_getElem?_getD, List.getElem?_eq_getElem hi']
      rfl
    have hyg : Good (l[lowN l x.key]).ru := entsB_good hl _ (List.getElem_mem hi')
    rw [e, e2]
    generalize l[lowN l x.key] = y at *
    generalize l.take (lowN l x.key) = A at *
    generalize l.drop (lowN l x.key + 1) = B at *
    subst e1
    have hpA := hpl.left
    have hpB : Pos B := fun z hz => hpl.right z (List.mem_cons_of_mem _ hz)
    have hyc : y.c + x.c ≤ 1073741824 := by
      rw [cntK_append, cntK, if_pos hkey] at hc
      have a := cntK_nn (k := x.key) hpA
      have b := cntK_nn (k := x.key) hpB
      omega
    have em : mrg y.ru x.ru = (jn y.ru x.ru, 0) := by rw [mrg_good hyg hxg, if_pos (show y.ru.c + x.ru.c ≤ 1073741824 from hyc)]
    rw [em, hkey]
    have hg := good_jn hyg hxg (show y.ru.c + x.ru.c ≤ 1073741824 from hyc)
    have hg2 : Good (mkE x.key (jn y.ru x.ru)).ru := by rw [mkE_ru]; exact hg
    have hk2 : (mkE x.key (jn y.ru x.ru)).key = y.key := by rw [mkE_key, hkey]
    refine ⟨entsB_turn hk2 hg2 hl, ?_, by simp, by rw [if_pos hk]; simp⟩
    have j := (Eqv.join hkey hxg hyg hyc).app hpB
    have j2 := j.app_left hpA
    refine Eqv.trans (Eqv.of_perm ?_ ?_) j2
    · show (x :: (A ++ y :: B)).Perm (A ++ ([y, x] ++ B))
      refine List.Perm.trans ?_ (List.perm_append_comm (l₁ := [y, x] ++ B) (l₂ := A))
      refine List.Perm.trans ?_ (List.Perm.swap y x (B ++ A))
      exact List.Perm.cons x (List.perm_append_comm (l₁ := A) (l₂ := y :: B))
    · intro z hz
      rcases List.mem_cons.1 hz with rfl | hz
      · exact hpx
      · exact hpl z hz
  | false =>
    have e : withE l x = l.take (lowN l x.key) ++ x :: l.drop (lowN l x.key) := by
      unfold withE
      rw [if_neg (by rw [hk]; decide)]
    obtain ⟨h1, h2⟩ := entsB_lowN (k := x.key) hl hx1
    have hne : ∀ y ∈ l, y.key ≠ x.key := fun y hy q => by
      have : hasK l x.key = true := List.any_eq_true.2 ⟨y, hy, by simpa using q⟩
      rw [hk] at this
      cases this
    have h3 := entsB_after h2 (fun y hy => hne y (List.mem_of_mem_drop hy))
    have hln := lowN_le l x.key
    rw [e]
    refine ⟨entsB_glue h1 ?_ hx1 (by omega), Eqv.of_perm ?_ ?_, by simp, by rw [if_neg (by rw [hk]; decide)]; simp; omega⟩
    · simp only [entsB, Bool.and_eq_true]
      exact ⟨entB_iff.2 ⟨⟨Int.le_refl _, hx2⟩, hxg⟩, h3⟩
    · have : (x :: l).Perm (x :: (l.drop (lowN l x.key) ++ l.take (lowN l x.key))) := by
        refine List.Perm.cons x ?_
        conv => lhs; rw [← List.take_append_drop (lowN l x.key) l]
        exact List.perm_append_comm
      exact this.trans (List.perm_append_comm (l₁ := x :: l.drop (lowN l x.key)) (l₂ := l.take (lowN l x.key)))
    · intro z hz
      rcases List.mem_cons.1 hz with rfl | hz
      · exact hpx
      · exact hpl z hz

end Go.Proofs.YtlojfgdpmaigmaeGreatDoor

/- What goes down a tree: the node's kids, what is below. In plain terms. -/
namespace Go.Proofs.YtlojfgdpmaigmaeGreatDoor
open Go.RowKit Plain

def cP (ns : List Nd) (P : List Int) : List En := P.flatMap fun n => cont (nth ns n)

theorem cP_append (ns : List Nd) (P Q : List Int) : cP ns (P ++ Q) = cP ns P ++ cP ns Q := by simp [cP]
theorem cP_cons (ns : List Nd) (n : Int) (Q : List Int) : cP ns (n :: Q) = cont (nth ns n) ++ cP ns Q := by simp [cP]
theorem cP_congr {ns ns' : List Nd} : ∀ {P : List Int}, (∀ n ∈ P, nth ns' n = nth ns n) → cP ns' P = cP ns P
  | [], _ => rfl
  | n :: Q, h => by rw [cP_cons, cP_cons, h n List.mem_cons_self, cP_congr fun m hm => h m (List.mem_cons_of_mem _ hm)]

/-! ### Which kid -/

def kidJ : List Int → Int → Nat
  | [], _ => 0
  | k0 :: ks, k => if k0 ≤ k then kidJ ks k + 1 else 0

theorem kidI_eq {k : Int} : ∀ {keys : List Int}, keys.Pairwise (· < ·) → kidI keys k = kidJ keys k
  | [], _ => rfl
  | k0 :: ks, h => by
    obtain ⟨h1, h2⟩ := List.pairwise_cons.1 h
    have ih := kidI_eq (k := k) h2
    show kidI (k0 :: ks) k = if k0 ≤ k then kidJ ks k + 1 else 0
    unfold kidI at *
    rw [List.countP_cons, List.contains_cons]
    by_cases a : k0 < k
    · have e : (k == k0) = false := by simp; omega
      rw [if_pos (show k0 ≤ k by omega), ← ih, e, if_pos (show decide (k0 < k) = true by simpa using a), Bool.false_or]
      omega
    · have c1 : ks.countP (fun z => decide (z < k)) = 0 := by
        rw [List.countP_eq_zero]
        intro z hz
        have := h1 z hz
        simp
        omega
      have c2 : ks.contains k = false := by
        rw [← Bool.not_eq_true, List.contains_iff_mem]
        intro hz
        have := h1 k hz
        omega
      rw [c1, c2] at ih
      have ih' : kidJ ks k = 0 := by simpa using ih.symm
      rw [c1, c2, if_neg (show ¬ decide (k0 < k) = true by simpa using a), Bool.or_false]
      by_cases b : k0 = k
      · rw [if_pos (show k0 ≤ k by omega), ih', if_pos (by simp [b])]
      · rw [if_neg (show ¬ k0 ≤ k by omega), if_neg (by simp; omega)]

theorem keys_rise {g : Rel} (hg : ∀ d lo hi Q, g d lo hi Q → lo < hi) {hi : Int} : ∀ {kids keys : List Int} {lo : Int} {Q : List Int}, keys.length + 1 = kids.length → SubK g lo (ups kids keys hi) Q → keys.Pairwise (· < ·) ∧ (∀ k ∈ keys, lo < k ∧ k < hi) ∧ lo < hi
  | [], _, _, _, h, _ => by simp at h
  | [d], keys, lo, Q, h, hs => by
    obtain rfl : keys = [] := List.eq_nil_of_length_eq_zero (by simpa using h)
    obtain ⟨Q1, Q2, rfl, h1, h2⟩ := hs
    exact ⟨List.Pairwise.nil, by simp, hg _ _ _ _ h1⟩
  | d :: e :: ds, [], lo, Q, h, _ => by simp at h
  | d :: e :: ds, k :: ks, lo, Q, h, hs => by
    obtain ⟨Q1, Q2, rfl, h1, h2⟩ := hs
    obtain ⟨a, b, c⟩ := keys_rise hg (kids := e :: ds) (keys := ks) (by simpa using h) h2
    have hlt := hg _ _ _ _ h1
    refine ⟨List.pairwise_cons.2 ⟨fun z hz => (b z hz).1, a⟩, fun z hz => ?_, by omega⟩
    rcases List.mem_cons.1 hz with rfl | hz
    · omega
    · have := b z hz; omega

/-- The kid that has a key: what it is; and how the node is made again if only that kid has turned. -/
theorem SubK_pick {g : Rel} (hg : ∀ d lo hi Q, g d lo hi Q → lo < hi) {hi k : Int} : ∀ {kids keys : List Int} {lo : Int} {Q : List Int}, keys.length + 1 = kids.length → SubK g lo (ups kids keys hi) Q → lo ≤ k → k < hi →
    ∃ l u Qa Qd Qb, kidJ keys k < kids.length ∧ Q = Qa ++ Qd ++ Qb ∧ g (kids.getD (kidJ keys k) 0) l u Qd ∧ l ≤ k ∧ k < u ∧ lo ≤ l ∧ u ≤ hi ∧
      ∀ g' : Rel, (∀ d l u Q', g d l u Q' → (∀ n ∈ Q', n ∈ Qa ++ Qb) → g' d l u Q') → g' (kids.getD (kidJ keys k) 0) l u Qd → SubK g' lo (ups kids keys hi) Q
  | [], _, _, _, h, _, _, _ => by simp at h
  | [d], keys, lo, Q, h, hs, h1, h2 => by
    obtain rfl : keys = [] := List.eq_nil_of_length_eq_zero (by simpa using h)
    obtain ⟨Q1, Q2, rfl, a, b⟩ := hs
    cases b
    exact ⟨lo, hi, [], Q1, [], by simp [kidJ], by simp, a, h1, h2, Int.le_refl _, Int.le_refl _, fun g' _ hd => ⟨Q1, [], rfl, hd, rfl⟩⟩
  | d :: e :: ds, [], lo, Q, h, _, _, _ => by simp at h
  | d :: e :: ds, k0 :: ks, lo, Q, h, hs, h1, h2 => by
    obtain ⟨Q1, Q2, rfl, a, b⟩ := hs
    have hlt := hg _ _ _ _ a
    have hrs := (keys_rise hg (kids := e :: ds) (keys := ks) (by simpa using h) b).2.2
    by_cases hk : k0 ≤ k
    · obtain ⟨l, u, Qa, Qd, Qb, c1, rfl, c3, c4, c5, c7, c8, c6⟩ := SubK_pick hg (kids := e :: ds) (keys := ks) (by simpa using h) b hk h2
      have ej : kidJ (k0 :: ks) k = kidJ ks k + 1 := by simp [kidJ, hk]
      have ed : (d :: e :: ds).getD (kidJ (k0 :: ks) k) 0 = (e :: ds).getD (kidJ ks k) 0 := by rw [ej, List.getD_cons_succ]
      refine ⟨l, u, Q1 ++ Qa, Qd, Qb, by rw [ej]; simpa using c1, by simp, by rw [ed]; exact c3, c4, c5, by omega, c8, fun g' hg' hd => ?_⟩
      rw [ed] at hd
      refine ⟨Q1, Qa ++ Qd ++ Qb, by simp, hg' _ _ _ _ a (fun n hn => by simp [hn]), c6 g' (fun d l u Q' q1 q2 => hg' d l u Q' q1 fun n hn => ?_) hd⟩
      have := q2 n hn
      simp only [List.mem_append] at this ⊢
      rcases this with t | t
      · exact .inl (.inr t)
      · exact .inr t
    · have ej : kidJ (k0 :: ks) k = 0 := by simp [kidJ, hk]
      rw [ej]
      refine ⟨lo, k0, [], Q1, Q2, by simp, by simp, by simpa using a, h1, by omega, Int.le_refl _, by omega, fun g' hg' hd => ⟨Q1, Q2, rfl, by simpa using hd, SubK_imp b fun d l u Q' q1 q2 => hg' d l u Q' q1 fun n hn => by simp [q2 n hn]⟩⟩

/-- A node, h + 1 above the leaves, and its kid that has a key. -/
theorem Sub_pick {T : Nat} {ns : List Nd} {h : Nat} {p lo hi k : Int} {P : List Int} (hs : Sub T 4 ns (h + 1) p lo hi P) (hP : P.Nodup) (h1 : lo ≤ k) (h2 : k < hi) :
    ∃ l u Qa Qd Qb, kidI (nth ns p).keys k < (nth ns p).kids.length ∧ P = p :: (Qa ++ Qd ++ Qb) ∧ Sub T 4 ns h ((nth ns p).kids.getD (kidI (nth ns p).keys k) 0) l u Qd ∧ l ≤ k ∧ k < u ∧ Qd.Nodup ∧ p ∉ Qd ∧ lo ≤ l ∧ u ≤ hi ∧
      ∀ ns', ns'.length = ns.length → (∀ n, n ∉ Qd → 0 ≤ n → nth ns' n = nth ns n) → Sub T 4 ns' h ((nth ns p).kids.getD (kidI (nth ns p).keys k) 0) l u Qd → Sub T 4 ns' (h + 1) p lo hi P := by
  obtain ⟨hr, Q, rfl, hin⟩ := hs
  have hrise := keys_rise (Sub_lt h) hin.keys hin.kids
  rw [kidI_eq hrise.1]
  obtain ⟨l, u, Qa, Qd, Qb, c1, rfl, c3, c4, c5, c7, c8, c6⟩ := SubK_pick (Sub_lt h) hin.keys hin.kids h1 h2
  have hnd := hP
  rw [List.nodup_cons, List.nodup_append, List.nodup_append] at hnd
  obtain ⟨hpn, ⟨na, nd, nad⟩, nb, nab⟩ := hnd
  have hpd : p ∉ Qd := fun e => hpn (by simp [e])
  refine ⟨l, u, Qa, Qd, Qb, c1, rfl, c3, c4, c5, nd, hpd, c7, c8, fun ns' hl hsame hd => ?_⟩
  · refine ⟨⟨hr.1, by omega, hr.2.2⟩, Qa ++ Qd ++ Qb, rfl, ?_⟩
    rw [hsame p hpd hr.1]
    refine ⟨hin.leaf, hin.ents, hin.two, hin.most, hin.keys, hin.few, hin.buf, c6 _ (fun d l u Q' q1 q2 => Sub_congr h d l u Q' q1 fun n hn => ?_) hd⟩
    have hm := q2 n hn
    have hnd : n ∉ Qd := by
      intro e
      rcases List.mem_append.1 hm with t | t
      · exact nad n t n e rfl
      · exact nab n (List.mem_append_right _ e) n t rfl
    exact ⟨hsame n hnd (Sub_range h _ _ _ _ q1 n hn).1, by rw [hl]; exact (Sub_range h _ _ _ _ q1 n hn).2⟩

/-- What a node and all below it know: entries of its keys, that may be. -/
theorem Sub_cont {T m : Nat} {ns : List Nd} : ∀ (h : Nat) (p lo hi : Int) (P : List Int), Sub T m ns h p lo hi P → ∀ y ∈ cP ns P, (lo ≤ y.key ∧ y.key < hi) ∧ Good y.ru
  | 0, p, lo, hi, P, hs, y, hy => by
    obtain ⟨_, rfl, hl⟩ := hs
    have hy' : y ∈ (nth ns p).ents := by simpa [cP, cont, hl.buf] using hy
    exact ⟨(entsB_lt hl.ents).1 y hy', entsB_good hl.ents y hy'⟩
  | h + 1, p, lo, hi, P, hs, y, hy => by
    obtain ⟨_, Q, rfl, hin⟩ := hs
    rw [cP_cons] at hy
    rcases List.mem_append.1 hy with hy | hy
    · have hy' : y ∈ (nth ns p).buf := by simpa [cont, hin.ents] using hy
      exact ⟨(entsB_lt hin.buf).1 y hy', entsB_good hin.buf y hy'⟩
    · have ih := Sub_cont (T := T) (m := m) (ns := ns) h
      have : ∀ (kids keys : List Int) (lo' : Int) (Q : List Int), keys.length + 1 = kids.length → SubK (Sub T m ns h) lo' (ups kids keys hi) Q → ∀ y ∈ cP ns Q, (lo' ≤ y.key ∧ y.key < hi) ∧ Good y.ru := by
        intro kids
        induction kids with
        | nil => intro keys lo' Q hk; simp at hk
        | cons d ds ihd =>
          intro keys lo' Q hk hQ y hy
          have hr := keys_rise (Sub_lt h) hk hQ
          cases ds with
          | nil =>
            obtain rfl : keys = [] := List.eq_nil_of_length_eq_zero (by simpa using hk)
            obtain ⟨Q1, Q2, rfl, h1, h2⟩ := hQ
            cases h2
            rw [List.append_nil] at hy
            exact ih _ _ _ _ h1 y hy
          | cons e ds =>
            cases keys with
            | nil => simp at hk
            | cons k ks =>
              obtain ⟨Q1, Q2, rfl, h1, h2⟩ := hQ
              have hk1 := hr.2.1 k List.mem_cons_self
              rw [cP_append] at hy
              rcases List.mem_append.1 hy with hy | hy
              · obtain ⟨a, b⟩ := ih _ _ _ _ h1 y hy
                exact ⟨⟨a.1, by omega⟩, b⟩
              · obtain ⟨a, b⟩ := ihd ks k Q2 (by simpa using hk) h2 y hy
                exact ⟨⟨by omega, a.2⟩, b⟩
      exact this _ _ _ _ hin.keys hin.kids y hy

theorem Sub_pos {T m : Nat} {ns : List Nd} {h : Nat} {p lo hi : Int} {P : List Int} (hs : Sub T m ns h p lo hi P) : Pos (cP ns P) := fun y hy => (good_iff.1 (Sub_cont h p lo hi P hs y hy).2).1.1

theorem Sub_reach {T m : Nat} {ns : List Nd} : ∀ (h f : Nat) (p lo hi : Int) (P : List Int), Sub T m ns h p lo hi P → h < f → Reach ns f p
  | 0, f + 1, p, lo, hi, P, hs, _ => by
    obtain ⟨hr, rfl, hl⟩ := hs
    refine ⟨hr.1, hr.2.1, ?_⟩
    rw [show ns.getD p.toNat default = nth ns p from rfl, hl.kids]
    simp
  | h + 1, f + 1, p, lo, hi, P, hs, hf => by
    obtain ⟨hr, Q, rfl, hin⟩ := hs
    refine ⟨hr.1, hr.2.1, ?_⟩
    rw [show ns.getD p.toNat default = nth ns p from rfl]
    refine ⟨by have := hin.keys; omega, fun d hd => ?_⟩
    have : ∀ (kids keys : List Int) (lo' : Int) (Q : List Int), keys.length + 1 = kids.length → SubK (Sub T m ns h) lo' (ups kids keys hi) Q → ∀ d ∈ kids, ∃ l u Q', Sub T m ns h d l u Q' := by
      intro kids
      induction kids with
      | nil => intro keys lo' Q hk; simp at hk
      | cons e ds ihd =>
        intro keys lo' Q hk hQ d hd
        cases ds with
        | nil =>
          obtain rfl : keys = [] := List.eq_nil_of_length_eq_zero (by simpa using hk)
          obtain ⟨Q1, Q2, rfl, h1, h2⟩ := hQ
          obtain rfl : d = e := by simpa using hd
          exact ⟨_, _, _, h1⟩
        | cons e' ds =>
          cases keys with
          | nil => simp at hk
          | cons k ks =>
            obtain ⟨Q1, Q2, rfl, h1, h2⟩ := hQ
            rcases List.mem_cons.1 hd with rfl | hd
            · exact ⟨_, _, _, h1⟩
            · exact ihd ks k Q2 (by simpa using hk) h2 d hd
    obtain ⟨l, u, Q', hd'⟩ := this _ _ _ _ hin.keys hin.kids d hd
    exact Sub_reach h f d l u Q' hd' (by omega)

theorem inR_none {low high : Int} {l : List En} (h : ∀ y ∈ l, ¬ (low ≤ y.key ∧ y.key < high)) : l.filter (inR low high) = [] := by
  rw [List.filter_eq_nil_iff]
  intro y hy e
  exact h y hy (by simpa [inR] using e)

/-- What the code walks from a node on. -/
theorem Sub_Wl {T m : Nat} {ns : List Nd} {low high : Int} : ∀ (h f : Nat) (p lo hi : Int) (P : List Int), Sub T m ns h p lo hi P → h < f → Wl ns low high f p = (cP ns P).filter (inR low high)
  | 0, f + 1, p, lo, hi, P, hs, _ => by
    obtain ⟨hr, rfl, hl⟩ := hs
    rw [Wl, show ns.getD p.toNat default = nth ns p from rfl, hl.kids, hl.buf]
    simp [WlK, cP, cont, hl.buf]
  | h + 1, f + 1, p, lo, hi, P, hs, hf => by
    obtain ⟨hr, Q, rfl, hin⟩ := hs
    rw [Wl, show ns.getD p.toNat default = nth ns p from rfl, cP_cons, List.filter_append, hin.ents]
    have : ∀ (kids keys : List Int) (lo' : Int) (Q : List Int) (pr : Option Int), keys.length + 1 = kids.length → SubK (Sub T m ns h) lo' (ups kids keys hi) Q → (∀ k, pr = some k → k = lo') → WlK (Wl ns low high f) low high kids keys pr = (cP ns Q).filter (inR low high) := by
      intro kids
      induction kids with
      | nil => intro keys lo' Q pr hk; simp at hk
      | cons d ds ihd =>
        intro keys lo' Q pr hk hQ hpr
        have one : ∀ (u : Int) (Q1 : List Int) (nx : Option Int), Sub T m ns h d lo' u Q1 → (∀ k, nx = some k → k = u) → (if skipB low high pr nx = true then [] else Wl ns low high f d) = (cP ns Q1).filter (inR low high) := by
          intro u Q1 nx h1 hnx
          by_cases hsk : skipB low high pr nx = true
          · rw [if_pos hsk, inR_none]
            intro y hy
            have hc := (Sub_cont h _ _ _ _ h1 y hy).1
            unfold skipB at hsk
            rw [Bool.or_eq_true] at hsk
            rcases hsk with e | e
            · cases pr with
              | none => simp at e
              | some k =>
                have := hpr k rfl
                simp at e
                omega
            · cases nx with
              | none => simp at e
              | some k =>
                have := hnx k rfl
                simp at e
                omega
          · rw [if_neg hsk]
            exact Sub_Wl h f d lo' u Q1 h1 (by omega)
        cases ds with
        | nil =>
          obtain rfl : keys = [] := List.eq_nil_of_length_eq_zero (by simpa using hk)
          obtain ⟨Q1, Q2, rfl, h1, h2⟩ := hQ
          cases h2
          rw [WlK, one _ _ _ h1 (by simp), List.append_nil]
          simp [WlK]
        | cons e ds =>
          cases keys with
          | nil => simp at hk
          | cons k ks =>
            obtain ⟨Q1, Q2, rfl, h1, h2⟩ := hQ
            rw [WlK, one _ _ _ h1 (by simp), cP_append, List.filter_append]
            congr 1
            exact ihd ks k Q2 _ (by simpa using hk) h2 (by simp)
    rw [this _ _ _ _ _ hin.keys hin.kids (by simp)]
    simp [cont, hin.ents]

end Go.Proofs.YtlojfgdpmaigmaeGreatDoor

/- What goes down a tree: each step, in plain terms. -/
namespace Go.Proofs.YtlojfgdpmaigmaeGreatDoor
open Go.RowKit Plain

def InvK (s : Ru × Int) : Prop := s = (zro, 0) ∨ (Good s.1 ∧ s.2 = 0) ∨ s.2 ≠ 0

theorem stepK_inv {s : Ru × Int} {x : En} (h : InvK s) (hx : Good x.ru) : InvK (stepK s x) ∧ ((stepK s x).2 = 0 → s.2 = 0 ∧ (stepK s x).1.c = s.1.c + x.c) := by
  unfold stepK
  rcases h with rfl | ⟨hg, h0⟩ | h0
  · rw [if_pos rfl, mrg_zro hx]
    exact ⟨.inr (.inl ⟨hx, rfl⟩), fun _ => ⟨rfl, by show x.c = 0 + x.c; omega⟩⟩
  · rw [if_pos h0, mrg_good hg hx]
    by_cases hc : s.1.c + x.ru.c ≤ 1073741824
    · rw [if_pos hc]
      exact ⟨.inr (.inl ⟨good_jn hg hx hc, rfl⟩), fun _ => ⟨h0, rfl⟩⟩
    · rw [if_neg hc]
      exact ⟨.inr (.inr (by decide)), fun h => absurd h (by decide)⟩
  · rw [if_neg h0]
    exact ⟨.inr (.inr h0), fun h => absurd h h0⟩

theorem stepK_cnt {k : Int} : ∀ (xs : List En) (s : Ru × Int), (∀ x ∈ xs, x.key = k ∧ Good x.ru) → InvK s → InvK (xs.foldl stepK s) ∧ ((xs.foldl stepK s).2 = 0 → s.2 = 0 ∧ (xs.foldl stepK s).1.c = s.1.c + cntK k xs)
  | [], s, _, h => ⟨h, fun h0 => ⟨h0, by simp [cntK]⟩⟩
  | x :: xs, s, hx, h => by
    obtain ⟨a, b⟩ := stepK_inv h (hx x List.mem_cons_self).2
    obtain ⟨c, d⟩ := stepK_cnt xs (stepK s x) (fun y hy => hx y (List.mem_cons_of_mem _ hy)) a
    refine ⟨c, fun h0 => ?_⟩
    obtain ⟨d1, d2⟩ := d h0
    obtain ⟨b1, b2⟩ := b d1
    refine ⟨b1, ?_⟩
    rw [List.foldl_cons, d2, b2, cntK, if_pos (hx x List.mem_cons_self).1]
    omega

theorem cntK_filter (k : Int) : ∀ l : List En, cntK k (l.filter (inR k (k + 1))) = cntK k l
  | [] => rfl
  | y :: r => by
    rw [List.filter_cons]
    by_cases h : y.key = k
    · rw [if_pos (by simp [inR, h]; omega), cntK, cntK, cntK_filter k r]
    · rw [if_neg (by simp [inR]; omega), cntK, if_neg h, cntK_filter k r]
      omega

/-- What a node knows of a key comes together: so it does if there is less. -/
theorem known_cnt {T m h : Nat} {ns : List Nd} {p lo hi : Int} {P : List Int} {k : Int} (hs : Sub T m ns h p lo hi P) (hh : h < 12) {s : Ru × Int} (e : (Wl ns k (k + 1) 12 p).foldl stepK (zro, 0) = s) : InvK s ∧ (s.2 = 0 → s.1.c = cntK k (cP ns P)) := by
  have hw : Wl ns k (k + 1) 12 p = (cP ns P).filter (inR k (k + 1)) := Sub_Wl h 12 p lo hi P hs hh
  obtain ⟨a, b⟩ := stepK_cnt (k := k) (Wl ns k (k + 1) 12 p) (zro, 0) (fun x hx => by
    rw [hw] at hx
    obtain ⟨h1, h2⟩ := List.mem_filter.1 hx
    have h3 : k ≤ x.key ∧ x.key < k + 1 := by simpa [inR] using h2
    exact ⟨by omega, (Sub_cont h p lo hi P hs x h1).2⟩) (.inl rfl)
  rw [e] at a b
  refine ⟨a, fun h0 => ?_⟩
  obtain ⟨_, b2⟩ := b h0
  rw [b2, hw, cntK_filter]
  show 0 + _ = _
  omega

theorem inv_most {s : Ru × Int} (h : InvK s) (h0 : s.2 = 0) : s.1.c ≤ 1073741824 := by
  rcases h with rfl | ⟨hg, _⟩ | h
  · decide
  · exact (good_iff.1 hg).1.2
  · exact absurd h0 h

/-- An entry went into a node, or below it. -/
structure SinkOk (T : Nat) (ns ns' : List Nd) (h : Nat) (p lo hi : Int) (P : List Int) (x : En) : Prop where
  sub : Sub T 4 ns' h p lo hi P
  len : ns'.length = ns.length
  same : ∀ n, n ∉ P → 0 ≤ n → nth ns' n = nth ns n
  eqv : Eqv (x :: cP ns P) (cP ns' P)
  few : (cP ns' P).length ≤ (cP ns P).length + 1

theorem leaf_sink {T : Nat} {ns : List Nd} {p lo hi : Int} {P : List Int} {x : En} (hs : Sub T 4 ns 0 p lo hi P) (hx : entB x lo hi = true) (hc : cntK x.key (cP ns P) + x.c ≤ 1073741824) (hT : (cP ns P).length + 1 ≤ T) :
    SinkOk T ns (ns.set p.toNat { nth ns p with ents := withE (nth ns p).ents x }) 0 p lo hi P x := by
  obtain ⟨hr, rfl, hl⟩ := hs
  have ec : cP ns [p] = (nth ns p).ents := by simp [cP, cont, hl.buf]
  rw [ec] at hc hT
  have hw := withE_ok hl.ents hx hc
  have hn := nth_set_self (y := { nth ns p with ents := withE (nth ns p).ents x }) hr.1 hr.2.1
  have hlen : (withE (nth ns p).ents x).length ≤ (nth ns p).ents.length + 1 := by rw [hw.len]; split <;> omega
  have ec' : cP (ns.set p.toNat { nth ns p with ents := withE (nth ns p).ents x }) [p] = withE (nth ns p).ents x := by
    rw [cP_cons, hn]
    simp [cP, cont, hl.buf]
  refine ⟨⟨⟨hr.1, by simpa using hr.2.1, hr.2.2⟩, rfl, ?_⟩, by simp, fun n hn0 h0 => nth_set_far hr.1 h0 (by simpa using hn0), ?_, ?_⟩
  · rw [hn]
    exact ⟨hl.leaf, hl.keys, hl.kids, hl.buf, hw.ne, by show (withE _ _).length ≤ T; omega, hw.ents⟩
  · rw [ec, ec']
    exact hw.eqv
  · rw [ec, ec']
    exact hlen

/-- The node's list of what waits is another one. -/
theorem Sub_setBuf {T h : Nat} {ns : List Nd} {p lo hi : Int} {P : List Int} {b : List En} (hs : Sub T 4 ns (h + 1) p lo hi P) (hP : P.Nodup) (hb : entsB b lo hi = true) (hf : b.length ≤ 8) :
    Sub T 4 (ns.set p.toNat { nth ns p with buf := b }) (h + 1) p lo hi P ∧ ∃ Q, P = p :: Q ∧ cP ns P = (nth ns p).buf ++ cP ns Q ∧ cP (ns.set p.toNat { nth ns p with buf := b }) P = b ++ cP ns Q := by
  obtain ⟨hr, Q, rfl, hin⟩ := hs
  have hn := nth_set_self (y := { nth ns p with buf := b }) hr.1 hr.2.1
  rw [List.nodup_cons] at hP
  have hQr := SubK_range hin.kids
  have hfar : ∀ n ∈ Q, nth (ns.set p.toNat { nth ns p with buf := b }) n = nth ns n := fun n hnQ => nth_set_far hr.1 (hQr n hnQ).1 (fun e => hP.1 (e ▸ hnQ))
  refine ⟨⟨⟨hr.1, by simpa using hr.2.1, hr.2.2⟩, Q, rfl, ?_⟩, Q, rfl, ?_, ?_⟩
  · rw [hn]
    exact ⟨hin.leaf, hin.ents, hin.two, hin.most, hin.keys, hf, hb, SubK_imp hin.kids fun d l u Q' q1 q2 => Sub_congr h d l u Q' q1 fun n hnQ => ⟨hfar n (q2 n hnQ), by simpa using (hQr n (q2 n hnQ)).2⟩⟩
  · rw [cP_cons]
    simp [cont, hin.ents]
  · rw [cP_cons, hn, cP_congr hfar]
    simp [cont, hin.ents]

theorem buf_sink {T h : Nat} {ns : List Nd} {p lo hi : Int} {P : List Int} {x : En} (hs : Sub T 4 ns (h + 1) p lo hi P) (hP : P.Nodup) (hx : entB x lo hi = true) (hc : cntK x.key (cP ns P) + x.c ≤ 1073741824) (hw : hasK (nth ns p).buf x.key = true ∨ (nth ns p).buf.length < 8) :
    SinkOk T ns (ns.set p.toNat { nth ns p with buf := withE (nth ns p).buf x }) (h + 1) p lo hi P x := by
  have hpos := Sub_pos hs
  obtain ⟨hr, Q, rfl, hin⟩ := hs
  have hQpos : Pos (cP ns Q) := by rw [cP_cons] at hpos; exact hpos.right
  have hcb : cntK x.key (nth ns p).buf + x.c ≤ 1073741824 := by
    have e : cP ns (p :: Q) = (nth ns p).buf ++ cP ns Q := by rw [cP_cons]; simp [cont, hin.ents]
    rw [e, cntK_append] at hc
    have := cntK_nn (k := x.key) hQpos
    omega
  have hwe := withE_ok hin.buf hx hcb
  have hlen : (withE (nth ns p).buf x).length ≤ 8 := by
    rw [hwe.len]
    have := hin.few
    rcases hw with e | e
    · rw [if_pos e]; exact this
    · split <;> omega
  have hlen2 : (withE (nth ns p).buf x).length ≤ (nth ns p).buf.length + 1 := by rw [hwe.len]; split <;> omega
  obtain ⟨s1, Q', hQ, e1, e2⟩ := Sub_setBuf (b := withE (nth ns p).buf x) ⟨hr, Q, rfl, hin⟩ hP hwe.ents hlen
  obtain rfl : Q = Q' := by simpa using hQ
  refine ⟨s1, by simp, fun n hn0 h0 => nth_set_far hr.1 h0 (fun e => hn0 (by simp [e])), ?_, ?_⟩
  · rw [e1, e2]
    exact hwe.eqv.app hQpos
  · rw [e1, e2]
    simp
    omega

theorem kid_sink {T h : Nat} {ns ns' : List Nd} {p lo hi l u d : Int} {P Qa Qd Qb : List Int} {x : En} (hs : Sub T 4 ns (h + 1) p lo hi P) (hP : P = p :: (Qa ++ Qd ++ Qb)) (hnd : P.Nodup)
    (hre : ∀ ns', ns'.length = ns.length → (∀ n, n ∉ Qd → 0 ≤ n → nth ns' n = nth ns n) → Sub T 4 ns' h d l u Qd → Sub T 4 ns' (h + 1) p lo hi P) (hk : SinkOk T ns ns' h d l u Qd x) : SinkOk T ns ns' (h + 1) p lo hi P x := by
  have hpos := Sub_pos hs
  have hrg := Sub_range _ _ _ _ _ hs
  subst hP
  have hnd2 := hnd
  rw [List.nodup_cons, List.nodup_append, List.nodup_append] at hnd
  obtain ⟨hpn, ⟨na, nd, nad⟩, nb, nab⟩ := hnd
  have e : ∀ ns : List Nd, cP ns (p :: (Qa ++ Qd ++ Qb)) = cont (nth ns p) ++ cP ns Qa ++ cP ns Qd ++ cP ns Qb := fun ns => by rw [cP_cons, cP_append, cP_append]; simp
  have c1 : nth ns' p = nth ns p := hk.same p (fun e => hpn (by simp [e])) (hrg p (by simp)).1
  have c2 : cP ns' Qa = cP ns Qa := cP_congr fun n hn => hk.same n (fun e => nad n hn n e rfl) (hrg n (by simp [hn])).1
  have c3 : cP ns' Qb = cP ns Qb := cP_congr fun n hn => hk.same n (fun e => nab n (List.mem_append_right _ e) n hn rfl) (hrg n (by simp [hn])).1
  refine ⟨hre ns' hk.len (fun n h1 h2 => hk.same n h1 h2) hk.sub, hk.len, fun n hn h0 => hk.same n (fun e => hn (by simp [e])) h0, ?_, ?_⟩
  · rw [e] at hpos
    rw [e, e, c1, c2, c3]
    have h1 := (hk.eqv.app hpos.right).app_left hpos.left.left
    refine Eqv.trans (Eqv.of_perm ?_ ?_) (h1.trans (Eqv.of_perm ?_ h1.posm))
    · generalize cont (nth ns p) ++ cP ns Qa = A
      show (x :: (A ++ cP ns Qd ++ cP ns Qb)).Perm (A ++ ((x :: cP ns Qd) ++ cP ns Qb))
      rw [List.append_assoc]
      exact (List.perm_middle (a := x) (l₁ := A) (l₂ := cP ns Qd ++ cP ns Qb)).symm
    · intro z hz
      rcases List.mem_cons.1 hz with rfl | hz
      · exact hk.eqv.posl _ List.mem_cons_self
      · exact hpos z hz
    · rw [List.append_assoc, List.append_assoc, List.append_assoc]
  · have := hk.few
    rw [e, e, c1, c2, c3]
    simp only [List.length_append]
    omega

theorem entsB_filter {hi : Int} (f : En → Bool) : ∀ {l : List En} {lo : Int}, entsB l lo hi = true → entsB (l.filter f) lo hi = true
  | [], _, _ => rfl
  | x :: r, lo, h => by
    simp only [entsB, Bool.and_eq_true] at h
    have h1 := entB_iff.1 h.1
    have ih := entsB_filter f h.2
    rw [List.filter_cons]
    split
    · simp only [entsB, Bool.and_eq_true]
      exact ⟨h.1, ih⟩
    · exact entsB_mono ih (by omega)

/-- What waited goes down: what is left to go. -/
structure DownOk (T : Nat) (ns ns' : List Nd) (h : Nat) (p lo hi : Int) (P : List Int) (rest : List En) : Prop where
  sub : Sub T 4 ns' (h + 1) p lo hi P
  len : ns'.length = ns.length
  same : ∀ n, n ∉ P → 0 ≤ n → nth ns' n = nth ns n
  eqv : Eqv (cP ns P) (rest ++ cP ns' P)
  few : (cP ns' P).length + rest.length ≤ (cP ns P).length
  keys : (nth ns' p).keys = (nth ns p).keys
  kids : (nth ns' p).kids = (nth ns p).kids

theorem down_start {T h : Nat} {ns : List Nd} {p lo hi : Int} {P : List Int} (hs : Sub T 4 ns (h + 1) p lo hi P) (hP : P.Nodup) (f : En → Bool) :
    DownOk T ns (ns.set p.toNat { nth ns p with buf := (nth ns p).buf.filter fun x => !f x }) h p lo hi P ((nth ns p).buf.filter f) := by
  have hpos := Sub_pos hs
  have hr := hs.1
  have hin := hs.2
  obtain ⟨Q0, hQ0, hin⟩ := hin
  have hfl : ((nth ns p).buf.filter fun x => !f x).length ≤ 8 := Nat.le_trans (List.length_filter_le _ _) hin.few
  obtain ⟨s1, Q, rfl, e1, e2⟩ := Sub_setBuf (b := (nth ns p).buf.filter fun x => !f x) hs hP (entsB_filter _ hin.buf) hfl
  have hperm : ((nth ns p).buf.filter f ++ (nth ns p).buf.filter fun x => !f x).Perm (nth ns p).buf := List.filter_append_perm f _
  have hn := nth_set_self (y := { nth ns p with buf := (nth ns p).buf.filter fun x => !f x }) hr.1 hr.2.1
  refine ⟨s1, by simp, fun n hn0 h0 => nth_set_far hr.1 h0 (fun e => hn0 (by simp [e])), ?_, ?_, by rw [hn], by rw [hn]⟩
  · rw [e1] at hpos
    rw [e1, e2, ← List.append_assoc]
    exact Eqv.of_perm (hperm.symm.append_right _) hpos
  · rw [e1, e2]
    have := hperm.length_eq
    simp only [List.length_append] at this ⊢
    omega

theorem down_step {T h : Nat} {ns ns1 ns2 : List Nd} {p lo hi : Int} {P : List Int} {x : En} {rest : List En} (hd : DownOk T ns ns1 h p lo hi P (x :: rest)) (hk : SinkOk T ns1 ns2 (h + 1) p lo hi P x) (hkeys : (nth ns2 p).keys = (nth ns1 p).keys) (hkids : (nth ns2 p).kids = (nth ns1 p).kids) : DownOk T ns ns2 h p lo hi P rest := by
  have hp := hd.eqv.posm
  have hpr : Pos rest := fun y hy => hp y (by simp [hy])
  refine ⟨hk.sub, hk.len.trans hd.len, fun n h1 h2 => (hk.same n h1 h2).trans (hd.same n h1 h2), ?_, ?_, hkeys.trans hd.keys, hkids.trans hd.kids⟩
  · refine hd.eqv.trans (Eqv.trans (Eqv.of_perm ?_ hp) (hk.eqv.app_left hpr))
    exact (List.perm_middle (a := x) (l₁ := rest) (l₂ := cP ns1 P)).symm
  · have h1 := hd.few
    have h2 := hk.few
    simp only [List.length_cons] at h1
    omega

end Go.Proofs.YtlojfgdpmaigmaeGreatDoor

/- How many nodes there are when all that hold too much are split. In plain terms. -/
namespace Go.Proofs.YtlojfgdpmaigmaeGreatDoor
open Go.RowKit Plain

def wt (x : Nd) : Nat := if x.leaf = true then (if x.ents.length ≤ 6 then 6 else x.ents.length + 5) else 0
def wts : List Nd → Nat
  | [] => 0
  | x :: r => wt x + wts r

theorem wts_append : ∀ a b : List Nd, wts (a ++ b) = wts a + wts b
  | [], b => by simp [wts]
  | x :: r, b => by simp only [List.cons_append, wts, wts_append r b]; omega

theorem wts_set {ns : List Nd} {i : Nat} (hi : i < ns.length) (y : Nd) : wts (ns.set i y) + wt ns[i] = wts ns + wt y := by
  obtain ⟨e1, e2⟩ := set_split ns i y hi
  rw [e2]
  have : wts ns = wts (ns.take i ++ ns[i] :: ns.drop (i + 1)) := by rw [← e1]
  rw [this, wts_append, wts_append, wts, wts]
  omega

theorem partsL_wt {x : Nd} (hl : x.leaf = true) {mn s : Nat} : ∀ (bs : List Nat) (a : Nat), CutsOk mn 6 s a bs → wts (partsL x a bs) = 6 * bs.length
  | [], _, _ => rfl
  | b :: bs, a, h => by
    obtain ⟨_, h2, h3⟩ := h
    have e : wt (partN x a b) = 6 := by
      have hle : ((x.ents.drop a).take (b - a)).length ≤ 6 := by rw [List.length_take]; omega
      simp only [partN, hl, if_true, wt]
      rw [if_pos hle]
    rw [partsL, wts, e, partsL_wt hl bs b h3, List.length_cons]
    omega

theorem partsL_wt0 {x : Nd} (hl : x.leaf = false) : ∀ (bs : List Nat) (a : Nat), wts (partsL x a bs) = 0
  | [], _ => rfl
  | b :: bs, a => by
    have e : wt (partN x a b) = 0 := by simp [partN, hl, wt]
    rw [partsL, wts, e, partsL_wt0 hl bs b]

theorem splitN_wt (ns : List Nd) (p : Int) : wts (splitN ns p).1 ≤ wts ns := by
  unfold splitN
  split
  · exact Nat.le_refl _
  · rename_i hgt
    have hpn : p.toNat < ns.length := by
      apply Classical.byContradiction
      intro hn
      have e : nth ns p = default := by
        unfold nth
        rw [List.getD_eq_getElem?_getD, List.getElem?_eq_none (by omega)]
        rfl
      rw [e] at hgt
      exact hgt (by decide)
    have hx : ns[p.toNat] = nth ns p := by
      unfold nth
      rw [List.getD_eq_getElem?_getD, List.getElem?_eq_getElem hpn]
      rfl
    generalize hX : nth ns p = x at *
    have hlen : (partsL x 0 (cutsN x)).length = partsN x := by rw [partsL_length]; exact cutsF_length _ _ _ _
    have hsum : wts (partsL x 0 (cutsN x)) ≤ wt x := by
      cases hl : x.leaf with
      | false => rw [partsL_wt0 hl]; omega
      | true =>
        have hs : sizeN x = x.ents.length := by simp [sizeN, hl]
        have hm : mostN x = 6 := by simp [mostN, hl]
        rw [hs, hm] at hgt
        have hq : partsN x = (x.ents.length + 6 - 1) / 6 := by unfold partsN; rw [hs, hm]
        obtain ⟨q1, q2, q3, q4⟩ := parts_bounds (s := x.ents.length) (m := 6) (mn := 1) (.inl ⟨rfl, rfl⟩) (by omega)
        have hc : CutsOk 1 6 x.ents.length 0 (cutsN x) := by
          unfold cutsN
          rw [hs, hq]
          have := cutsF_ok (s := x.ents.length) (q := (x.ents.length + 6 - 1) / 6) (m := 6) (mn := 1) (by omega) q2 q3 ((x.ents.length + 6 - 1) / 6) 0 (by omega)
          rwa [beg_zero _ _ (by omega)] at this
        rw [partsL_wt hl _ _ hc, show (cutsN x).length = partsN x from cutsF_length _ _ _ _, hq]
        unfold wt
        rw [if_pos hl, if_neg (by omega)]
        omega
    simp only
    rw [wts_append]
    cases hp : partsL x 0 (cutsN x) with
    | nil =>
      have hq1 : partsN x = 0 := by rw [← hlen, hp]; rfl
      exfalso
      have : 1 ≤ mostN x := by unfold mostN; split <;> omega
      unfold partsN at hq1
      rcases Nat.div_eq_zero_iff.1 hq1 with e | e <;> omega
    | cons y ys =>
      rw [hp] at hsum
      have := wts_set hpn y
      rw [hx] at this
      simp only [List.headD_cons, List.tail_cons, wts] at hsum ⊢
      omega

theorem adopt_wt (ns : List Nd) (p : Int) (i : Nat) (more : List (Int × Int)) : wts (adoptAt ns p i more) = wts ns := by
  unfold adoptAt
  by_cases hpn : p.toNat < ns.length
  · have hx : ns[p.toNat] = nth ns p := by
      unfold nth
      rw [List.getD_eq_getElem?_getD, List.getElem?_eq_getElem hpn]
      rfl
    have := wts_set hpn (adoptN (nth ns p) i more)
    rw [hx] at this
    have e : wt (adoptN (nth ns p) i more) = wt (nth ns p) := rfl
    omega
  · rw [List.set_eq_of_length_le (by omega)]

theorem kidsN_wt {rec : List Nd → Int → List Nd × List (Int × Int)} (hr : ∀ ns p, wts (rec ns p).1 ≤ wts ns) (p : Int) : ∀ (i : Nat) (ns : List Nd), wts (kidsN rec p i ns) ≤ wts ns
  | 0, _ => Nat.le_refl _
  | i + 1, ns => by
    rw [kidsN]
    refine Nat.le_trans (kidsN_wt hr p i _) ?_
    rw [adopt_wt]
    exact hr ns _

theorem splitAllN_wt : ∀ (h : Nat) (ns : List Nd) (p : Int), wts (splitAllN h ns p).1 ≤ wts ns
  | 0, ns, p => splitN_wt ns p
  | h + 1, ns, p => Nat.le_trans (splitN_wt _ p) (kidsN_wt (splitAllN_wt h) p _ ns)

theorem growN_wt : ∀ (f : Nat) (ns : List Nd) (root : Int) (more : List (Int × Int)), wts (growN f ns root more).1 ≤ wts ns
  | 0, _, _, _ => Nat.le_refl _
  | f + 1, ns, root, more => by
    unfold growN
    split
    · exact Nat.le_refl _
    · refine Nat.le_trans (growN_wt f _ _ _) (Nat.le_trans (splitN_wt _ _) ?_)
      rw [wts_append]
      simp [wts, wt, newRoot]

def wtP (ns : List Nd) : List Int → Nat
  | [] => 0
  | n :: P => wt (nth ns n) + wtP ns P

theorem wtP_append (ns : List Nd) : ∀ a b : List Int, wtP ns (a ++ b) = wtP ns a + wtP ns b
  | [], b => by simp [wtP]
  | x :: r, b => by simp only [List.cons_append, wtP, wtP_append ns r b]; omega

theorem wtP_perm {ns : List Nd} {a b : List Int} (h : a.Perm b) : wtP ns a = wtP ns b := by
  induction h with
  | nil => rfl
  | cons x _ ih => simp only [wtP, ih]
  | swap x y l => simp only [wtP]; omega
  | trans _ _ h1 h2 => rw [h1, h2]

theorem wtP_places : ∀ (r pre : List Nd), wtP (pre ++ r) (placesF pre.length r.length) = wts r
  | [], _ => rfl
  | x :: r, pre => by
    have e : nth (pre ++ x :: r) (pre.length : Int) = x := by
      unfold nth
      simp
    have ih := wtP_places r (pre ++ [x])
    rw [List.append_assoc, List.length_append] at ih
    simp only [List.length_cons, placesF, wtP, wts]
    rw [e]
    simp only [List.length_singleton, List.singleton_append] at ih
    rw [ih]

/-- A tree has no more nodes than twice its leaves; each of these weighs. -/
theorem Sub_few {ns : List Nd} : ∀ (h : Nat) (d lo hi : Int) (P : List Int), Sub 6 4 ns h d lo hi P → 3 * (P.length + 1) ≤ wtP ns P
  | 0, d, lo, hi, P, hs => by
    obtain ⟨_, rfl, hl⟩ := hs
    have : wt (nth ns d) = 6 := by
      unfold wt
      rw [if_pos hl.leaf, if_pos hl.most]
    simp [wtP, this]
  | h + 1, d, lo, hi, P, hs => by
    obtain ⟨_, Q, rfl, hin⟩ := hs
    have ih := Sub_few (ns := ns) h
    have : ∀ (L : List (Int × Int)) (lo : Int) (Q : List Int), SubK (Sub 6 4 ns h) lo L Q → 3 * (Q.length + L.length) ≤ wtP ns Q := by
      intro L
      induction L with
      | nil => intro lo Q hQ; cases hQ; simp [wtP]
      | cons p r ihr =>
        obtain ⟨d, u⟩ := p
        rintro lo Q ⟨Q1, Q2, rfl, h1, h2⟩
        have a := ih _ _ _ _ h1
        have b := ihr _ _ h2
        rw [wtP_append]
        simp only [List.length_append, List.length_cons]
        omega
    have a := this _ _ _ hin.kids
    have b : (ups (nth ns d).kids (nth ns d).keys hi).length = (nth ns d).kids.length := by
      have := hin.keys
      simp [ups]
      omega
    have c := hin.two
    simp only [wtP, List.length_cons]
    omega

theorem tree_few {ns : List Nd} {h : Nat} {root : Int} {Q : List Int} (hs : Sub 6 4 ns h root 0 1099511627776 Q) (hp : Q.Perm (placesF 0 ns.length)) : 3 * (ns.length + 1) ≤ wts ns := by
  have a := Sub_few _ _ _ _ _ hs
  have b := wtP_places ns []
  rw [List.nil_append, List.length_nil] at b
  rw [wtP_perm hp, b, placesF_len hp] at a
  exact a

theorem wts_cont : ∀ ns : List Nd, wts ns ≤ (ns.flatMap cont).length + 6 * ns.length
  | [] => by simp [wts]
  | x :: r => by
    have ih := wts_cont r
    have : wt x ≤ x.ents.length + 6 := by
      unfold wt
      split
      · split <;> omega
      · omega
    rw [List.flatMap_cons, wts]
    simp only [List.length_append, List.length_cons, cont]
    omega

end Go.Proofs.YtlojfgdpmaigmaeGreatDoor

/- What Put makes of a tree: in plain terms. -/
namespace Go.Proofs.YtlojfgdpmaigmaeGreatDoor
open Go.RowKit Plain

theorem splitN_le (ns : List Nd) (p : Int) : ns.length ≤ (splitN ns p).1.length := by
  unfold splitN
  split
  · exact Nat.le_refl _
  · simp

theorem growN_le : ∀ (f : Nat) (ns : List Nd) (root : Int) (more : List (Int × Int)), ns.length ≤ (growN f ns root more).1.length
  | 0, _, _, _ => Nat.le_refl _
  | f + 1, ns, root, more => by
    unfold growN
    split
    · exact Nat.le_refl _
    · refine Nat.le_trans ?_ (growN_le f _ _ _)
      refine Nat.le_trans ?_ (splitN_le _ _)
      simp

/-- What grow makes of a tree whose leaves may hold too much. -/
def growAll (h : Nat) (ns : List Nd) (root : Int) : List Nd × Int := growN (splitAllN h ns root).2.length (splitAllN h ns root).1 root (splitAllN h ns root).2

structure GrownOk (ns : List Nd) (h : Nat) (root : Int) : Prop where
  row : RowOk (splitAllN h ns root).1 h root (splitAllN h ns root).2
  fine : (growAll h ns root).1.length ≤ 2000 → treeC (growAll h ns root).1 (growAll h ns root).2 = 0
  cont : ((growAll h ns root).1.flatMap cont).Perm (ns.flatMap cont)
  few : 3 * ((growAll h ns root).1.length + 1) ≤ wts ns
  part : (splitAllN h ns root).1.length + (splitAllN h ns root).2.length ≤ 2 * (growAll h ns root).1.length
  sub : ∃ h' Q, Sub 6 4 (growAll h ns root).1 h' (growAll h ns root).2 0 1099511627776 Q ∧ Q.Perm (placesF 0 (growAll h ns root).1.length)

theorem grown_ok {T h : Nat} {ns : List Nd} {root : Int} {P : List Int} (hs : Sub T 4 ns h root 0 1099511627776 P) (hp : P.Perm (placesF 0 ns.length)) : GrownOk ns h root := by
  have hnd : P.Nodup := hp.nodup_iff.2 (placesF_nodup _ _)
  have hok := splitAll_ok h ns root _ _ P hs hnd
  have hle := hok.le
  have hfew := hok.few
  have hrow : RowOk (splitAllN h ns root).1 h root (splitAllN h ns root).2 := by
    obtain ⟨Q', a, b⟩ := hok.sub
    refine ⟨Q', a, b.trans ((hp.append_right _).trans ?_)⟩
    have e := placesF_append 0 ns.length ((splitAllN h ns root).1.length - ns.length)
    rw [show ns.length + ((splitAllN h ns root).1.length - ns.length) = (splitAllN h ns root).1.length by omega, Nat.zero_add] at e
    rw [e]
  obtain ⟨⟨h', Q, c1, c2⟩, c3, c4⟩ := grow_ok (splitAllN h ns root).2.length (Nat.le_refl _) hrow
  have hw : wts (growAll h ns root).1 ≤ wts ns := Nat.le_trans (growN_wt _ _ _ _) (splitAllN_wt h ns root)
  have hl := growN_le (splitAllN h ns root).2.length (splitAllN h ns root).1 root (splitAllN h ns root).2
  refine ⟨hrow, fun hz => Sub_treeC c1 c2 hz, c3.trans hok.cont, Nat.le_trans (tree_few c1 c2) hw, ?_, h', Q, c1, c2⟩
  unfold growAll
  omega

theorem Sub_nodup_ne {T h : Nat} {ns : List Nd} {root lo hi : Int} {P : List Int} (hs : Sub T 4 ns h root lo hi P) : 0 ≤ root ∧ root < ns.length := by
  cases h with
  | zero => exact ⟨hs.1.1, hs.1.2.1⟩
  | succ h => exact ⟨hs.1.1, hs.1.2.1⟩

theorem Sub_up {m m' mK : Nat} {ns : List Nd} (hm : m ≤ m') : ∀ (h : Nat) (d lo hi : Int) (P : List Int), Sub m mK ns h d lo hi P → Sub m' mK ns h d lo hi P
  | 0, _, _, _, _, hs => ⟨hs.1, hs.2.1, hs.2.2.mono hm⟩
  | h + 1, _, _, _, _, hs => by
    obtain ⟨hr, Q, rfl, hin⟩ := hs
    exact ⟨hr, Q, rfl, hin.imp fun d lo hi Q1 a _ => Sub_up hm h d lo hi Q1 a⟩

theorem cP_all {ns : List Nd} {P : List Int} (hp : P.Perm (placesF 0 ns.length)) : (cP ns P).Perm (ns.flatMap cont) := by
  have h1 : (cP ns P).Perm (cP ns (placesF 0 ns.length)) := hp.flatMap_right _
  have h2 : ∀ (r pre : List Nd), cP (pre ++ r) (placesF pre.length r.length) = r.flatMap cont := by
    intro r
    induction r with
    | nil => intro pre; rfl
    | cons x r ih =>
      intro pre
      have e : nth (pre ++ x :: r) (pre.length : Int) = x := by
        unfold nth
        simp
      have h := ih (pre ++ [x])
      rw [List.append_assoc, List.length_append] at h
      simp only [List.length_singleton, List.singleton_append] at h
      rw [List.length_cons, placesF, cP_cons, e, h, List.flatMap_cons]
  have h3 := h2 ns []
  rw [List.nil_append, List.length_nil] at h3
  rw [h3] at h1
  exact h1

end Go.Proofs.YtlojfgdpmaigmaeGreatDoor

/- A tree in memory of one's own: one list of a node is turned. -/
namespace Go.Proofs.YtlojfgdpmaigmaeGreatDoor
open Go.RowKit Plain

theorem blocks_eq (p : PN) : p.blocks = obk p.eA ++ (obk p.kA ++ (obk p.dA ++ obk p.bA)) := by
  unfold PN.blocks obk
  cases p.eA <;> cases p.kA <;> cases p.dA <;> cases p.bA <;> rfl

theorem flatN_setF (qs : List PN) (k j : Nat) (u : Value) (p : PN) (hk : k < qs.length) (hj : j < 5) (hp : p.vals = (qs[k]).vals.set j u) : (flatN qs).set (k * 5 + j) u = flatN (qs.set k p) := by
  obtain ⟨e1, e2⟩ := set_split qs k p hk
  have hl : (flatN (qs.take k)).length = k * 5 := by rw [flatN_length, List.length_take]; omega
  have hv : (qs[k]).vals.length = 5 := rfl
  rw [e2]
  conv => lhs; rw [e1]
  rw [flatN_append, flatN_append, flatN, flatN, List.set_append_right _ _ (by omega), hl, Nat.add_sub_cancel_left, List.set_append_left _ _ (by omega), hp]

theorem feet_turn {g k B : Nat} {qs : List PN} {p : PN} (hk : k < qs.length) (ha : (feet g qs).Nodup) (hn : p.blocks.Nodup) (hlt : ∀ b ∈ feet g qs, b < B) (hb : ∀ b ∈ p.blocks, b ∈ (qs[k]).blocks ∨ B ≤ b) :
    (feet g (qs.set k p)).Nodup ∧ ∀ b ∈ feet g (qs.set k p), b ∈ feet g qs ∨ B ≤ b := by
  obtain ⟨A, x, D, hq, hset, hx⟩ : ∃ A x D, qs = A ++ x :: D ∧ qs.set k p = A ++ p :: D ∧ qs[k] = x := ⟨_, _, _, (set_split qs k p hk).1, (set_split qs k p hk).2, rfl⟩
  rw [hx] at hb
  rw [hset]
  clear hset hx hk
  subst hq
  unfold feet at *
  simp only [List.flatMap_append, List.flatMap_cons, List.nodup_cons, List.nodup_append, List.mem_append, List.mem_cons, not_or] at *
  obtain ⟨⟨a1, a2, a3⟩, a4, ⟨a5, a6, a7⟩, a8⟩ := ha
  refine ⟨⟨⟨a1, fun h => ?_, a3⟩, a4, ⟨hn, a6, fun b h1 c h2 e => ?_⟩, fun b h1 c h2 e => ?_⟩, fun b h1 => ?_⟩
  · rcases hb g h with h | h
    · exact a2 h
    · have := hlt g (.inl rfl); omega
  · rcases hb b h1 with h | h
    · exact a7 b h c h2 e
    · have := hlt c (.inr (.inr (.inr h2))); omega
  · rcases h2 with h2 | h2
    · rcases hb c h2 with h | h
      · exact a8 b h1 c (.inl h) e
      · have := hlt b (.inr (.inl h1)); omega
    · exact a8 b h1 c (.inr h2) e
  · rcases h1 with h1 | h1 | h1 | h1
    · exact .inl (.inl h1)
    · exact .inl (.inr (.inl h1))
    · rcases hb b h1 with h | h
      · exact .inl (.inr (.inr (.inl h)))
      · exact .inr h
    · exact .inl (.inr (.inr (.inr h1)))

/-- What an entry's way down leaves of the memory. -/
structure SinkMem (base : Nat) (w : World) (g C : Nat) (qs : List PN) (w' : World) (qs' : List PN) : Prop where
  nt : NT base w' g C qs'
  len : qs'.length = qs.length
  kept : Kept (feet g qs) w w'
  fresh : ∀ b ∈ feet g qs', b ∈ feet g qs ∨ w.heap.size ≤ b

theorem SinkMem.trans {base g C : Nat} {w w1 w2 : World} {qs qs1 qs2 : List PN} (h : SinkMem base w g C qs w1 qs1) (k : SinkMem base w1 g C qs1 w2 qs2) : SinkMem base w g C qs w2 qs2 :=
  ⟨k.nt, k.len.trans h.len, h.kept.step k.kept h.fresh, fun b hb => by
    rcases k.fresh b hb with e | e
    · exact h.fresh b e
    · exact .inr (Nat.le_trans h.kept.size e)⟩

theorem SinkMem.of_below {base g C : Nat} {w w1 : World} {qs : List PN} (h : NT base w g C qs) (hb : Below w.heap.size w w1) : SinkMem base w g C qs w1 qs :=
  ⟨h.below hb (Nat.le_refl _), rfl, Kept.of_below hb, fun _ e => .inl e⟩

theorem NT.blocks_nodup {base g C k : Nat} {w : World} {qs : List PN} (h : NT base w g C qs) (hk : k < qs.length) : (qs[k]).blocks.Nodup ∧ (∀ b ∈ (qs[k]).blocks, b ∈ feet g qs) ∧ g ∉ (qs[k]).blocks ∧ ∀ q ∈ qs.take k ++ qs.drop (k + 1), ∀ b ∈ q.blocks, b ∉ (qs[k]).blocks := by
  have ha := h.apart
  obtain ⟨e1, -⟩ := set_split qs k qs[k] hk
  have hm : ∀ b ∈ (qs[k]).blocks, b ∈ feet g qs := fun b hb => List.mem_cons_of_mem _ (List.mem_flatMap.2 ⟨_, List.getElem_mem hk, hb⟩)
  refine ⟨?_, hm, ?_, ?_⟩
  · rw [e1] at ha
    unfold feet at ha
    simp only [List.flatMap_append, List.flatMap_cons, List.nodup_cons, List.nodup_append] at ha
    exact ha.2.2.1.1
  · intro hb
    rw [feet, List.nodup_cons] at ha
    exact ha.1 (List.mem_flatMap.2 ⟨_, List.getElem_mem hk, hb⟩)
  · intro q hq b hb hb2
    rw [e1] at ha
    unfold feet at ha
    simp only [List.flatMap_append, List.flatMap_cons, List.nodup_cons, List.nodup_append] at ha
    obtain ⟨_, _, ⟨_, _, a7⟩, a8⟩ := ha
    rcases List.mem_append.1 hq with hq | hq
    · exact a8 b (List.mem_flatMap.2 ⟨q, hq, hb⟩) b (List.mem_append_left _ hb2) rfl
    · exact a7 b hb2 b (List.mem_flatMap.2 ⟨q, hq, hb⟩) rfl

/-- One list of a node is another one, in its old block or in a new one. -/
theorem NT.turn {base g C k j : Nat} {w w1 : World} {qs : List PN} {p : PN} {u : Value} {A : Option Addr} (h : NT base w g C qs) (hk : k < qs.length) (hj : j < 5) (hp : p.vals = (qs[k]).vals.set j u) (hA : ∀ b ∈ obk A, b ∈ (qs[k]).blocks) (hkept : Kept (obk A) w w1)
    (hnd : p.blocks.Nodup) (hb : ∀ b ∈ p.blocks, b ∈ (qs[k]).blocks ∨ w.heap.size ≤ b) (hown : p.own base w1) : SinkMem base w g C qs (w1.setCell ⟨g, k * 5 + j, none⟩ u) (qs.set k p) := by
  obtain ⟨b1, b2, b3, b4⟩ := h.blocks_nodup hk
  have hfl := h.lt
  have hgA : g ∉ obk A := fun e => b3 (hA g e)
  have hgp : g ∉ p.blocks := fun e => by
    rcases hb g e with e | e
    · exact b3 e
    · have := (hfl g List.mem_cons_self).2; omega
  obtain ⟨f1, f2⟩ := feet_turn hk h.apart hnd (fun b hb => (hfl b hb).2) hb
  have hset : ∀ b, b ≠ g → (w1.setCell ⟨g, k * 5 + j, none⟩ u).heap[b]? = w1.heap[b]? := fun b hb => Below.heap_setCell _ _ _ _ hb
  have hg1 : w1.ownsRow base 112 5 (.slice (some ⟨g, 0, none⟩) qs.length C) qs.length (flatN qs) := own_of_block h.own fun b hb => by
    have e : b = g := by have : g = b := (by simpa [Value.ownBlock] using hb); omega
    subst e
    exact hkept.block _ (hfl _ List.mem_cons_self).2 hgA
  refine ⟨⟨?_, fun q hq => ?_, f1, by simpa using h.z⟩, by simp, ?_, f2⟩
  · rw [← flatN_setF qs k j u p hk hj hp, List.length_set]
    exact own_set hg1 _ _
  · rw [(set_split qs k p hk).2] at hq
    have hq' : q ∈ qs.take k ++ qs.drop (k + 1) ∨ q = p := by
      simp only [List.mem_append, List.mem_cons] at hq ⊢
      rcases hq with e | e | e
      · exact .inl (.inl e)
      · exact .inr e
      · exact .inl (.inr e)
    rcases hq' with hq' | rfl
    · have hqm : q ∈ qs := by
        rcases List.mem_append.1 hq' with e | e
        · exact List.mem_of_mem_take e
        · exact List.mem_of_mem_drop e
      refine (h.each q hqm).of_blocks fun b hbq => ?_
      have hbf : b ∈ feet g qs := List.mem_cons_of_mem _ (List.mem_flatMap.2 ⟨q, hqm, hbq⟩)
      have hbg : b ≠ g := fun e => by
        have ha := h.apart
        rw [feet, List.nodup_cons] at ha
        exact ha.1 (List.mem_flatMap.2 ⟨q, hqm, e ▸ hbq⟩)
      rw [hset b hbg]
      exact hkept.block b (hfl b hbf).2 (fun e => b4 q hq' b hbq (hA b e))
    · exact hown.of_blocks fun b hb => hset b (fun e => hgp (e ▸ hb))
  · exact (hkept.mono fun b hb => b2 b (hA b hb)).set (.inl List.mem_cons_self) _

theorem Moved.lies' {base n size C' : Nat} {t : TypeId} {A A' : Option Addr} {vs : List Value} {w w' : World} (h : Moved base t size n A A' C' vs w w') : ∀ b ∈ obk A', b ∈ obk A ∨ w.heap.size ≤ b := by
  intro k hk
  rw [mem_obk] at hk
  rcases h.lies with e | ⟨k', e, hk'⟩
  · left; rw [mem_obk, ← e]; exact hk
  · rw [e] at hk; cases hk; exact .inr hk'

theorem obk_nodup (A : Option Addr) : (obk A).Nodup := by cases A <;> simp [obk]

theorem nodup_swap {B : Nat} {X X' Y : List Nat} (h : (X ++ Y).Nodup) (hX : X'.Nodup) (hb : ∀ b ∈ X', b ∈ X ∨ B ≤ b) (hlt : ∀ b ∈ Y, b < B) : (X' ++ Y).Nodup := by
  rw [List.nodup_append] at *
  refine ⟨hX, h.2.1, fun a ha b hb2 e => ?_⟩
  rcases hb a ha with q | q
  · exact h.2.2 a q b hb2 e
  · have := hlt b hb2; omega

theorem NT.setEnts {base g C k C' : Nat} {w w1 : World} {qs : List PN} {A' : Option Addr} {l : List En} {q : PN} (h : NT base w g C qs) (hk : k < qs.length) (hqk : qs[k] = q) (hm : Moved base 73 7 l.length q.eA A' C' (flatE l) w w1) (hz : l.length * 56 ≤ 140737488351232) :
    SinkMem base w g C qs (w1.setCell ⟨g, k * 5 + 1, none⟩ (.slice A' l.length C')) (qs.set k { q with ents := l, eA := A', eC := C' }) := by
  obtain ⟨b1, b2, b3, b4⟩ := h.blocks_nodup hk
  have ho := h.each _ (List.getElem_mem hk)
  have hlt := ho.lt
  rw [hqk] at b1 ho hlt
  have hq := blocks_eq q
  rw [hq] at b1
  have hfar : ∀ b, b ∈ obk q.kA ∨ b ∈ obk q.dA ∨ b ∈ obk q.bA → w1.heap[b]? = w.heap[b]? := fun b hb => by
    have hbm : b ∈ obk q.kA ++ (obk q.dA ++ obk q.bA) := by simpa using hb
    refine hm.kept.block b (hlt b (by rw [hq]; exact List.mem_append_right _ hbm)).2 fun e => ?_
    exact (List.nodup_append.1 b1).2.2 b e b hbm rfl
  refine h.turn (A := q.eA) hk (by decide) (by rw [hqk]; rfl) (fun b hb => by rw [hqk, hq]; simp [hb]) hm.kept ?_ ?_ ?_
  · rw [blocks_eq]
    exact nodup_swap b1 (obk_nodup _) hm.lies' (fun b hb => (hlt b (by rw [hq]; exact List.mem_append_right _ hb)).2)
  · intro b hb
    rw [hqk, hq]
    rw [blocks_eq] at hb
    rcases List.mem_append.1 hb with hb | hb
    · rcases hm.lies' b hb with e | e
      · exact .inl (List.mem_append_left _ e)
      · exact .inr e
    · exact .inl (List.mem_append_right _ hb)
  · exact ⟨hm.own, own_of_block ho.k fun b hb => hfar b (.inl (obk_of hb)), own_of_block ho.d fun b hb => hfar b (.inr (.inl (obk_of hb))), own_of_block ho.b fun b hb => hfar b (.inr (.inr (obk_of hb))), hz, ho.kz, ho.dz, ho.bz⟩

theorem NT.setBuf {base g C k C' : Nat} {w w1 : World} {qs : List PN} {A' : Option Addr} {l : List En} {q : PN} (h : NT base w g C qs) (hk : k < qs.length) (hqk : qs[k] = q) (hmo : w1.ownsRow base 73 7 (.slice A' l.length C') l.length (flatE l)) (hmk : Kept (obk q.bA) w w1) (hml : ∀ b ∈ obk A', b ∈ obk q.bA ∨ w.heap.size ≤ b) (hz : l.length * 56 ≤ 140737488351232) :
    SinkMem base w g C qs (w1.setCell ⟨g, k * 5 + 4, none⟩ (.slice A' l.length C')) (qs.set k { q with buf := l, bA := A', bC := C' }) := by
  obtain ⟨b1, b2, b3, b4⟩ := h.blocks_nodup hk
  have ho := h.each _ (List.getElem_mem hk)
  have hlt := ho.lt
  rw [hqk] at b1 ho hlt
  have hq : ∀ b, b ∈ q.blocks ↔ b ∈ obk q.bA ++ (obk q.eA ++ (obk q.kA ++ obk q.dA)) := fun b => by
    rw [blocks_eq]
    simp only [List.mem_append]
    constructor
    · rintro (h | h | h | h)
      · exact .inr (.inl h)
      · exact .inr (.inr (.inl h))
      · exact .inr (.inr (.inr h))
      · exact .inl h
    · rintro (h | h | h | h)
      · exact .inr (.inr (.inr h))
      · exact .inl h
      · exact .inr (.inl h)
      · exact .inr (.inr (.inl h))
  have hperm : ∀ X : List Nat, (obk q.eA ++ (obk q.kA ++ (obk q.dA ++ X))).Perm (X ++ (obk q.eA ++ (obk q.kA ++ obk q.dA))) := fun X => by
    have e : obk q.eA ++ (obk q.kA ++ (obk q.dA ++ X)) = (obk q.eA ++ (obk q.kA ++ obk q.dA)) ++ X := by simp
    rw [e]
    exact List.perm_append_comm
  have b1' : (obk q.bA ++ (obk q.eA ++ (obk q.kA ++ obk q.dA))).Nodup := by
    rw [blocks_eq] at b1
    exact (hperm _).nodup_iff.1 b1
  have hfar : ∀ b, b ∈ obk q.eA ∨ b ∈ obk q.kA ∨ b ∈ obk q.dA → w1.heap[b]? = w.heap[b]? := fun b hb => by
    have hbm : b ∈ obk q.eA ++ (obk q.kA ++ obk q.dA) := by simpa using hb
    refine hmk.block b (hlt b ((hq b).2 (List.mem_append_right _ hbm))).2 fun e => ?_
    exact (List.nodup_append.1 b1').2.2 b e b hbm rfl
  refine h.turn (A := q.bA) hk (by decide) (by rw [hqk]; rfl) (fun b hb => by rw [hqk, hq]; simp [hb]) hmk ?_ ?_ ?_
  · rw [blocks_eq]
    refine (hperm _).nodup_iff.2 ?_
    exact nodup_swap b1' (obk_nodup _) hml (fun b hb => (hlt b ((hq b).2 (List.mem_append_right _ hb))).2)
  · intro b hb
    rw [hqk, hq]
    rw [blocks_eq] at hb
    have hb := (hperm _).mem_iff.1 hb
    rcases List.mem_append.1 hb with hb | hb
    · rcases hml b hb with e | e
      · exact .inl (List.mem_append_left _ e)
      · exact .inr e
    · exact .inl (List.mem_append_right _ hb)
  · exact ⟨own_of_block ho.e fun b hb => hfar b (.inl (obk_of hb)), own_of_block ho.k fun b hb => hfar b (.inr (.inl (obk_of hb))), own_of_block ho.d fun b hb => hfar b (.inr (.inr (obk_of hb))), hmo, ho.ez, ho.kz, ho.dz, hz⟩

end Go.Proofs.YtlojfgdpmaigmaeGreatDoor

/- tree.sink at a leaf; tree.stuck. -/
namespace Go.Proofs.YtlojfgdpmaigmaeGreatDoor
open Go.RowKit Plain Go.Shelf

set_option maxRecDepth 20000 in
set_option maxHeartbeats 1000000 in
theorem stuck_any (A : Option Addr) (C : Nat) (r place key : Int) (ps : List PN) (w : World) (hN : NodesAt w.heap.size w A ps) (hr : Reach (ps.map PN.nd) 12 place) (hk : 0 ≤ key ∧ key ≤ 1099511627775) (s : Ru × Int) (hs : Hid ((Wl (ps.map PN.nd) key (key + 1) 12 place).foldl stepK (zro, 0) = s)) :
    Calls Tryz.prog 115 #[.agg #[.slice A ps.length C, .int .i64 r], .int .i64 place, .int .i64 key] w
      fun e w' => e = .returned (.bool (s.2 != 0)) ∧ Below w.heap.size w w' := by
  have hb0 : ∀ o : Obj, Below w.heap.size w (w.alloc o) := fun o => (Below.refl _ _).alloc (Nat.le_refl _) o
  have con := fun o : Obj => knownAt_any A C r place key ps (w.alloc o) (hN.up (hb0 o)) hr hk s hs
  have HC := hideC con
  clear con hr hs
  generalize s.1 = q at HC
  generalize s.2 = z at HC ⊢
  go_enter Tryz.func115, Tryz.ntmps115
  go_wp2_with (go_at_call 76; refine (HC.out _).mono ?_; rintro e w1 ⟨rfl, hb1⟩; have hbw : Below w.heap.size w w1 := nextB (hb0 _) (Nat.le_refl _) hb1; have hs1 : w.heap.size ≤ w1.heap.size := hbw.size)
  go_ret
  exact ⟨rfl, hbw.alloc (by omega) _⟩

set_option maxRecDepth 20000 in
set_option maxHeartbeats 4000000 in
theorem sink_leaf (base g C : Nat) (qs : List PN) (r : Int) (k : Nat) (q : PN) (x : En) (w : World) (hT : NT base w g C qs) (hk : k < qs.length) (hqk : qs[k] = q) (hl : q.leaf = true) (hp : q.ents.Pairwise (fun x y => x.key < y.key)) (hz : (q.ents.length + 1) * 56 ≤ 140737488351232) (hB : base ≤ w.heap.size) :
    Calls Tryz.prog 78 #[.agg #[.slice (some ⟨g, 0, none⟩) qs.length C, .int .i64 r], .int .i64 (k : Int), .agg #[.int .i64 x.key, .int .i64 x.c, .int .i64 x.s, .int .i64 x.lo, .int .i64 x.hi, .int .i64 x.t, .int .i64 x.l]] w
      fun e w' => ∃ A' C', e = .returned (.tuple #[]) ∧ SinkMem base w g C qs w' (qs.set k { q with ents := withE q.ents x, eA := A', eC := C' }) := by
  have hb2 : ∀ o1 o2 : Obj, Below w.heap.size w ((w.alloc o1).alloc o2) := fun o1 o2 => ((Below.refl _ _).alloc (Nat.le_refl _) o1).alloc (by simp) o2
  have hat := hT.node hk
  rw [hqk] at hat
  obtain ⟨n0, n1, n2, n3, n4⟩ := hat
  rw [hl] at n0
  have hgl := hT.glt.2
  have i1 : (k : Int) < (qs.length : Int) := by omega
  have i0 : (0 : Int) ≤ (k : Int) := by omega
  have ho := (hT.each _ (List.getElem_mem hk)).e
  have hge : g ∉ obk q.eA := fun e => (hT.blocks_nodup hk).2.2.1 (by rw [hqk, blocks_eq]; simp [e])
  rw [hqk] at ho
  have hcon := fun W (hW : Below w.heap.size w W) => with_any base q.eA q.eC q.ents x W (own_next ho hW) hp (Nat.le_trans hB hW.size) hz
  have fz := hT.free (k * 5 + 1)
  have hwl : (withE q.ents x).length ≤ q.ents.length + 1 := by
    unfold withE
    have := lowN_le q.ents x.key
    split
    · simp
    · simp; omega
  have HC := hideC hcon
  have HT := hideC hT
  have HG := hideC hge
  have HQ := hideC hqk
  have HZ := hideC hz
  have HWL := hideC hwl
  clear hcon hT hge ho hqk hp hl hwl hz n2 n3 n4
  go_enter Tryz.func78, Tryz.ntmps78
  go_wp2_with fail
  go_region_with (go_at_call 98; refine (HC.out _ ((hb2 _ _).drew)).mono ?_; rintro e w2 ⟨A2, C2, rfl, hm2⟩; have HM := hideC (hm2.from ((hb2 _ _).drew)); have c2 : w2.cell? ⟨g, k * 5 + 1, none⟩ = some (.slice q.eA q.ents.length q.eC) := (HM.out.kept.cell _ hgl HG.out).trans n1; have f2 : w2.frozen? ⟨g, k * 5 + 1, none⟩ = false := (World.frozen?_of_block (a := ⟨g, k * 5 + 1, none⟩) (HM.out.kept.block g hgl HG.out)).trans fz; clear hm2)
  all_goals
    go_wp2
    (try simp only [Exit.inBlock, Exit.then]); refine bodyPost_ret (results_none rfl _ _ _) rfl ?_
    exact ⟨A2, C2, rfl, HT.out.setEnts hk HQ.out HM.out (by have := HZ.out; have := HWL.out; omega)⟩

end Go.Proofs.YtlojfgdpmaigmaeGreatDoor

/- tree.flush: what stands where. -/
namespace Go.Proofs.YtlojfgdpmaigmaeGreatDoor
open Go.RowKit Plain Go.Shelf

/-- Is what a node and those below it know of a key such that it can't come together? -/
def stB (ns : List Nd) (p key : Int) : Bool := ((Wl ns key (key + 1) 12 p).foldl stepK (zro, 0)).2 != 0

/-- While nothing has turned yet: the tree's box, and how much waits for each kid. -/
structure FlA (w wr : World) (g C n : Nat) (r : Int) : Prop where
  below : Below w.heap.size w wr
  box : RowL wr w.heap.size 25 [.slice (some ⟨g, 0, none⟩) n C, .int .i64 r]
  waits : ∃ a0 a1 a2 a3 : Int, RowL wr (w.heap.size + 1) 151 [.int .i64 a0, .int .i64 a1, .int .i64 a2, .int .i64 a3]

theorem FlA.next {w wr w' : World} {g C n : Nat} {r : Int} (h : FlA w wr g C n r) (hb : Below wr.heap.size wr w') : FlA w w' g C n r := by
  obtain ⟨a0, a1, a2, a3, hw⟩ := h.waits
  exact ⟨nextB h.below (Nat.le_refl _) hb, h.box.below hb h.box.lt, a0, a1, a2, a3, hw.below hb hw.lt⟩

theorem FlA.size {w wr : World} {g C n : Nat} {r : Int} (h : FlA w wr g C n r) : w.heap.size + 1 < wr.heap.size := by
  obtain ⟨_, _, _, _, hw⟩ := h.waits
  exact hw.lt

theorem FlA.at {w wr : World} {g C n : Nat} {r : Int} (h : FlA w wr g C n r) {m : Nat} (hm : m < 4) : ∃ v : Int, wr.cell? ⟨w.heap.size + 1, m, none⟩ = some (.int .i64 v) := by
  obtain ⟨a0, a1, a2, a3, hw⟩ := h.waits
  rw [hw.cell]
  rcases (show m = 0 ∨ m = 1 ∨ m = 2 ∨ m = 3 by omega) with rfl | rfl | rfl | rfl
  · exact ⟨a0, rfl⟩
  · exact ⟨a1, rfl⟩
  · exact ⟨a2, rfl⟩
  · exact ⟨a3, rfl⟩

theorem FlA.frozen {w wr : World} {g C n : Nat} {r : Int} (h : FlA w wr g C n r) (m : Nat) : wr.frozen? ⟨w.heap.size + 1, m, none⟩ = false := by
  obtain ⟨_, _, _, _, hw⟩ := h.waits
  exact hw.frozen m

theorem FlA.set {w wr : World} {g C n : Nat} {r : Int} (h : FlA w wr g C n r) {m : Nat} (hm : m < 4) (v : Int) : FlA w (wr.setCell ⟨w.heap.size + 1, m, none⟩ (.int .i64 v)) g C n r := by
  obtain ⟨a0, a1, a2, a3, hw⟩ := h.waits
  refine ⟨h.below.setCell (by show w.heap.size ≤ w.heap.size + 1; omega) _, h.box.of_block (Below.heap_setCell _ _ _ _ (by show w.heap.size ≠ w.heap.size + 1; omega)), ?_⟩
  have := hw.set m (.int .i64 v)
  rcases (show m = 0 ∨ m = 1 ∨ m = 2 ∨ m = 3 by omega) with rfl | rfl | rfl | rfl
  · exact ⟨v, a1, a2, a3, this⟩
  · exact ⟨a0, v, a2, a3, this⟩
  · exact ⟨a0, a1, v, a3, this⟩
  · exact ⟨a0, a1, a2, v, this⟩

/-- While what waits is parted: what stays, and what goes down. -/
structure FlB (w wr : World) (g C n : Nat) (r : Int) (sl dn : List En) (vs vd : Value) : Prop where
  below : Below w.heap.size w wr
  box : RowL wr w.heap.size 25 [.slice (some ⟨g, 0, none⟩) n C, .int .i64 r]
  hz : w.heap.size + 2 ≤ wr.heap.size
  os : wr.ownsRow (w.heap.size + 2) 73 7 vs sl.length (flatE sl)
  od : wr.ownsRow (w.heap.size + 2) 73 7 vd dn.length (flatE dn)
  ne : ∀ b, vs.ownBlock = some b → vd.ownBlock ≠ some b

theorem FlB.next {w wr w' : World} {g C n : Nat} {r : Int} {sl dn : List En} {vs vd : Value} (h : FlB w wr g C n r sl dn vs vd) (hb : Below wr.heap.size wr w') : FlB w w' g C n r sl dn vs vd :=
  ⟨nextB h.below (Nat.le_refl _) hb, h.box.below hb h.box.lt, Nat.le_trans h.hz hb.size, own_next h.os hb, own_next h.od hb, h.ne⟩

theorem FlB.addS {w wr w1 : World} {g C n g' cap : Nat} {r : Int} {sl dn : List En} {vs vd : Value} {x : En} (h : FlB w wr g C n r sl dn vs vd) (hown : w1.ownsRow (w.heap.size + 2) 73 7 (.slice (some ⟨g', 0, none⟩) (sl.length + 1) cap) (sl.length + 1) (flatE sl ++ flatE [x])) (hgrow : wr.grownBy w1 vs.ownBlock) (hat : vs.ownBlock = some g' ∨ g' = wr.heap.size) :
    FlB w w1 g C n r (sl ++ [x]) dn (.slice (some ⟨g', 0, none⟩) (sl.length + 1) cap) vd := by
  have hlt : ∀ b, vs.ownBlock = some b → w.heap.size + 2 ≤ b := fun b hb => (h.os.lt b hb).1
  have hbl : ∀ b, b < wr.heap.size → vs.ownBlock ≠ some b → w1.heap[b]? = wr.heap[b]? := fun b hb hne => hgrow.block b hb (fun e => hne e.symm)
  have hlow : ∀ b, b < w.heap.size + 2 → w1.heap[b]? = wr.heap[b]? := fun b hb => hbl b (by have := h.hz; omega) (fun e => by have := hlt b e; omega)
  refine ⟨⟨hgrow.os.trans h.below.os, hgrow.tape.trans h.below.tape, hgrow.output.trans h.below.output, Nat.le_trans h.below.size hgrow.size, fun b hb => (hlow b (by omega)).trans (h.below.block b hb)⟩, h.box.of_block (hlow _ (by omega)), Nat.le_trans h.hz hgrow.size, ?_, ?_, ?_⟩
  · rw [flatE_append, List.length_append]
    exact hown
  · exact own_of_block h.od fun b hb => hbl b (h.od.lt b hb).2 (fun e => h.ne b e hb)
  · intro b hb hd
    have e : g' = b := by simpa [Value.ownBlock] using hb
    subst e
    rcases hat with q | q
    · exact h.ne _ q hd
    · have := (h.od.lt _ hd).2; omega

theorem FlB.addD {w wr w1 : World} {g C n g' cap : Nat} {r : Int} {sl dn : List En} {vs vd : Value} {x : En} (h : FlB w wr g C n r sl dn vs vd) (hown : w1.ownsRow (w.heap.size + 2) 73 7 (.slice (some ⟨g', 0, none⟩) (dn.length + 1) cap) (dn.length + 1) (flatE dn ++ flatE [x])) (hgrow : wr.grownBy w1 vd.ownBlock) (hat : vd.ownBlock = some g' ∨ g' = wr.heap.size) :
    FlB w w1 g C n r sl (dn ++ [x]) vs (.slice (some ⟨g', 0, none⟩) (dn.length + 1) cap) := by
  have hsw : FlB w wr g C n r dn sl vd vs := ⟨h.below, h.box, h.hz, h.od, h.os, fun b hb hs => h.ne b hs hb⟩
  have q := hsw.addS hown hgrow hat
  exact ⟨q.below, q.box, q.hz, q.od, q.os, fun b hb hs => q.ne b hs hb⟩

/-- While what goes down goes: 'w1' is the world as that began. -/
structure FlC (T h : Nat) (base : Nat) (w w1 wr : World) (g C : Nat) (qs : List PN) (k : Nat) (lo hi : Int) (P : List Int) (r : Int) (dn rest : List En) (As Ad : Option Addr) (Cd : Nat) (qs' : List PN) : Prop where
  mem : SinkMem base w g C qs wr qs'
  ok : DownOk T (qs.map PN.nd) (qs'.map PN.nd) h (k : Int) lo hi P rest
  le : w1.heap.size ≤ wr.heap.size
  far : ∀ b ∈ feet g qs', b ∈ feet g qs ∨ b ∈ obk As ∨ w1.heap.size ≤ b
  box : RowL wr w.heap.size 25 [.slice (some ⟨g, 0, none⟩) qs.length C, .int .i64 r]
  hz : w.heap.size + 2 ≤ w1.heap.size
  od : wr.ownsRow (w.heap.size + 2) 73 7 (.slice Ad dn.length Cd) dn.length (flatE dn)
  hd : ∀ b ∈ obk Ad, b < w1.heap.size ∧ b ∉ obk As
  hs : ∀ b ∈ obk As, w.heap.size + 2 ≤ b
  pn : ∀ n : Nat, (n : Int) ∉ P → qs'[n]? = qs[n]?

theorem feet_mem {g k : Nat} {qs : List PN} {p : PN} (hk : k < qs.length) : ∀ b ∈ feet g (qs.set k p), b ∈ feet g qs ∨ b ∈ p.blocks := by
  obtain ⟨A, x, D, hq, hset⟩ : ∃ A x D, qs = A ++ x :: D ∧ qs.set k p = A ++ p :: D := ⟨_, _, _, set_split qs k p hk⟩
  rw [hset]
  clear hset hk
  subst hq
  unfold feet
  simp only [List.flatMap_append, List.flatMap_cons, List.mem_append, List.mem_cons]
  rintro b (h | h | h | h)
  · exact .inl (.inl h)
  · exact .inl (.inr (.inl h))
  · exact .inr h
  · exact .inl (.inr (.inr (.inr h)))

theorem own_base {w : World} {base base' : Nat} {e : TypeId} {size n : Nat} {v : Value} {vs : List Value} (h : w.ownsRow base e size v n vs) (hb : base' ≤ base) : w.ownsRow base' e size v n vs := by
  refine ⟨h.1, ?_⟩
  rcases h.2 with q | ⟨g, cap, cur, h1, h2, rest⟩
  · exact .inl q
  · exact .inr ⟨g, cap, cur, h1, Nat.le_trans hb h2, rest⟩

/-- As what waited is parted, and the rest stands in the node. -/
theorem flC_start {T h base g C n k Cs Cd : Nat} {w wr : World} {qs : List PN} {lo hi : Int} {P : List Int} {r : Int} {sl dn : List En} {As Ad : Option Addr} {q : PN} (hnt : NT base w g C qs) (hk : k < qs.length) (hqk : qs[k] = q) (hB : base ≤ w.heap.size) (hn : qs.length = n) (hkP : (k : Int) ∈ P)
    (hd0 : DownOk T (qs.map PN.nd) ((qs.map PN.nd).set k { nth (qs.map PN.nd) (k : Int) with buf := sl }) h (k : Int) lo hi P dn) (hl : sl.length ≤ 8) (hb : FlB w wr g C n r sl dn (.slice As sl.length Cs) (.slice Ad dn.length Cd)) :
    FlC T h base w (wr.setCell ⟨g, k * 5 + 4, none⟩ (.slice As sl.length Cs)) (wr.setCell ⟨g, k * 5 + 4, none⟩ (.slice As sl.length Cs)) g C qs k lo hi P r dn dn As Ad Cd (qs.set k { q with buf := sl, bA := As, bC := Cs }) := by
  have hss : ∀ b ∈ obk As, w.heap.size + 2 ≤ b := fun b hbb => (own_lt hb.os b (mem_obk.1 hbb)).1
  have hgl := hnt.glt.2
  have hset : ∀ b, b ≠ g → (wr.setCell ⟨g, k * 5 + 4, none⟩ (.slice As sl.length Cs)).heap[b]? = wr.heap[b]? := fun b hb => Below.heap_setCell _ _ _ _ hb
  have hm := hnt.setBuf hk hqk (own_base hb.os (by omega)) (Kept.of_below hb.below) (fun b hbb => .inr (by have := hss b hbb; omega)) (by omega)
  subst hn
  refine ⟨hm, ?_, Nat.le_refl _, ?_, hb.box.of_block (hset _ (by omega)), by simpa using hb.hz, ?_, ?_, hss, fun n hn => List.getElem?_set_ne (fun e => hn (by rw [← e]; exact hkP))⟩
  · have e : (qs.set k { q with buf := sl, bA := As, bC := Cs }).map PN.nd = (qs.map PN.nd).set k { nth (qs.map PN.nd) (k : Int) with buf := sl } := by
      rw [List.map_set]
      congr 1
      have : nth (qs.map PN.nd) (k : Int) = q.nd := by simp [nth, hk, hqk]
      rw [this]
      rfl
    rw [e]
    exact hd0
  · intro b hbb
    rcases feet_mem hk b hbb with e | e
    · exact .inl e
    · rw [blocks_eq] at e
      simp only [List.mem_append] at e
      have hin : ∀ X : List Nat, b ∈ X → (∀ c ∈ X, c ∈ q.blocks) → b ∈ feet g qs := fun X h1 h2 => List.mem_cons_of_mem _ (List.mem_flatMap.2 ⟨q, hqk ▸ List.getElem_mem hk, h2 b h1⟩)
      rcases e with e | e | e | e
      · exact .inl (hin _ e fun c hc => by rw [blocks_eq]; simp [hc])
      · exact .inl (hin _ e fun c hc => by rw [blocks_eq]; simp [hc])
      · exact .inl (hin _ e fun c hc => by rw [blocks_eq]; simp [hc])
      · exact .inr (.inl e)
  · exact own_of_block hb.od fun b hbb => hset b (by have := (hb.od.lt b hbb).1; omega)
  · intro b hbb
    have h1 := own_lt hb.od b (mem_obk.1 hbb)
    refine ⟨by simpa using h1.2, fun e => ?_⟩
    refine hb.ne b ?_ ?_
    · have := mem_obk.1 e
      cases As with
      | none => cases this
      | some a => simpa [Value.ownBlock] using this
    · have := mem_obk.1 hbb
      cases Ad with
      | none => cases this
      | some a => simpa [Value.ownBlock] using this

theorem FlC.apart {T h base : Nat} {w w1 wr : World} {g C : Nat} {qs : List PN} {k : Nat} {lo hi : Int} {P : List Int} {r : Int} {dn rest : List En} {As Ad : Option Addr} {Cd : Nat} {qs' : List PN} (H : FlC T h base w w1 wr g C qs k lo hi P r dn rest As Ad Cd qs') (hnt : NT base w g C qs) : w.heap.size ∉ feet g qs' ∧ ∀ b ∈ obk Ad, b ∉ feet g qs' := by
  have hz := H.hz
  constructor
  · intro e
    rcases H.far _ e with e | e | e
    · have := (hnt.lt _ e).2; omega
    · have := H.hs _ e; omega
    · omega
  · intro b hb e
    have h1 := H.hd b hb
    have h2 := (own_lt H.od b (mem_obk.1 hb)).1
    rcases H.far _ e with e | e | e
    · have := (hnt.lt _ e).2; omega
    · exact h1.2 e
    · omega

theorem FlC.step {T h base : Nat} {w w1 wr W w3 : World} {g C : Nat} {qs : List PN} {k : Nat} {lo hi : Int} {P : List Int} {r : Int} {dn rest rest' : List En} {As Ad : Option Addr} {Cd : Nat} {qs' qs'' : List PN} (H : FlC T h base w w1 wr g C qs k lo hi P r dn rest As Ad Cd qs') (hnt : NT base w g C qs) (hW : Below wr.heap.size wr W) (hm : SinkMem base W g C qs' w3 qs'') (hok : DownOk T (qs.map PN.nd) (qs''.map PN.nd) h (k : Int) lo hi P rest') (hpn : ∀ n : Nat, (n : Int) ∉ P → qs''[n]? = qs'[n]?) :
    FlC T h base w w1 w3 g C qs k lo hi P r dn rest' As Ad Cd qs'' := by
  obtain ⟨a1, a2⟩ := H.apart hnt
  have hz := H.hz
  have hle := H.le
  have hblk : ∀ b, b < wr.heap.size → b ∉ feet g qs' → w3.heap[b]? = wr.heap[b]? := fun b h1 h2 => (hm.kept.block b (Nat.lt_of_lt_of_le h1 hW.size) h2).trans (hW.block b h1)
  refine ⟨H.mem.trans ((SinkMem.of_below H.mem.nt hW).trans hm), hok, Nat.le_trans hle (Nat.le_trans hW.size hm.kept.size), fun b hb => ?_, H.box.of_block (hblk _ H.box.lt a1), hz, ?_, H.hd, H.hs, fun n hn => (hpn n hn).trans (H.pn n hn)⟩
  · rcases hm.fresh b hb with e | e
    · exact H.far b e
    · exact .inr (.inr (Nat.le_trans hle (Nat.le_trans hW.size e)))
  · refine own_of_block H.od fun b hb => hblk b (H.od.lt b hb).2 (a2 b (obk_of hb))

theorem FlC.kid {T h base : Nat} {w w1 wr : World} {g C : Nat} {qs : List PN} {k : Nat} {lo hi : Int} {P : List Int} {r : Int} {dn rest : List En} {As Ad : Option Addr} {Cd m : Nat} {qs' : List PN} {kids : List Int} (H : FlC T h base w w1 wr g C qs k lo hi P r dn rest As Ad Cd qs') (hk : k < qs.length) (hkids : (nth (qs'.map PN.nd) (k : Int)).kids = kids) (hm : m < kids.length) :
    ∃ db doff dC' : Nat, wr.cell? ⟨g, k * 5 + 3, none⟩ = some (.slice (some ⟨db, doff, none⟩) kids.length dC') ∧ db < wr.heap.size ∧ wr.cell? ⟨db, doff + m, none⟩ = some (.int .i64 (kids.getD m 0)) := by
  have hk' : k < qs'.length := by rw [H.mem.len]; exact hk
  have hnk : nth (qs'.map PN.nd) (k : Int) = (qs'[k]).nd := by simp [nth, hk']
  rw [hnk] at hkids
  have hkids' : (qs'[k]).kids = kids := hkids
  have hat := (H.mem.nt.node hk').c3
  have ho := (own_ok (H.mem.nt.each _ (List.getElem_mem hk')).d).1
  rw [hkids'] at hat ho
  obtain ⟨db, doff, hA, hl, hc⟩ := ho.int hm
  rw [hA] at hat
  refine ⟨db, doff, _, hat, hl, ?_⟩
  rw [hc, List.getD_eq_getElem?_getD, List.getElem?_eq_getElem hm]
  rfl

theorem filter_next {buf : List En} {i : Nat} {x : En} (hi : i < buf.length) (hx : buf[i] = x) (f : En → Bool) : (buf.take (i + 1)).filter f = (buf.take i).filter f ++ if f x = true then [x] else [] := by
  rw [List.take_succ_eq_append_getElem hi, hx, List.filter_append, List.filter_cons]
  rfl

end Go.Proofs.YtlojfgdpmaigmaeGreatDoor

/- A node of a tree in memory of one's own adopts the siblings of a kid. -/
namespace Go.Proofs.YtlojfgdpmaigmaeGreatDoor
open Go.RowKit Plain

theorem own_split {w : World} {base g C n : Nat} {e : TypeId} {size : Nat} {vs : List Value} (h : w.ownsRow base e size (.slice (some ⟨g, 0, none⟩) n C) n vs) : ∃ cur : List Value, RowL w g e cur ∧ cur.length = C * size ∧ cur.take (n * size) = vs ∧ n ≤ C ∧ C ≤ maxLen ∧ base ≤ g := by
  rcases h.2 with ⟨hv, _⟩ | ⟨g', cap, cur, hv, hb, hg, hl, hm, hs, ht⟩
  · cases hv
  · cases hv
    exact ⟨cur.toList, by unfold RowL; rw [hg], by simpa using hs, ht, hl, hm, hb⟩

theorem own_glue {w : World} {base g C n : Nat} {e : TypeId} {size : Nat} {vs cur : List Value} (hr : RowL w g e cur) (hl : cur.length = C * size) (ht : cur.take (n * size) = vs) (hn : n ≤ C) (hm : C ≤ maxLen) (hb : base ≤ g) (hv : vs.length = n * size) : w.ownsRow base e size (.slice (some ⟨g, 0, none⟩) n C) n vs :=
  ⟨hv, .inr ⟨g, C, cur.toArray, rfl, hb, hr, hn, hm, by simpa using hl, by simpa using ht⟩⟩

theorem keysAt_all (keys : List Int) (i : Nat) (more : List (Int × Int)) : keysAt keys i more more.length = keys.take i ++ more.map (·.1) ++ keys.drop i := by unfold keysAt; rw [List.take_length]
theorem kidsAt_all (kids : List Int) (i : Nat) (more : List (Int × Int)) : kidsAt kids i more more.length = kids.take (i + 1) ++ more.map (·.2) ++ kids.drop (i + 1) := by unfold kidsAt; rw [List.take_length]

theorem nodup_swap2 {B : Nat} {E K D K' D' X : List Nat} (h : (E ++ (K ++ (D ++ X))).Nodup) (hK : K'.Nodup) (hD : D'.Nodup) (hKD : ∀ b ∈ K', b ∉ D') (hk : ∀ b ∈ K', b ∈ K ∨ B ≤ b) (hd : ∀ b ∈ D', b ∈ D ∨ B ≤ b) (hlt : ∀ b ∈ E ++ (K ++ (D ++ X)), b < B) : (E ++ (K' ++ (D' ++ X))).Nodup := by
  simp only [List.nodup_append, List.mem_append] at h hlt ⊢
  obtain ⟨hE, ⟨_, ⟨_, hX, hDX⟩, hKDX⟩, hEK⟩ := h
  refine ⟨hE, ⟨hK, ⟨hD, hX, fun a ha b hb e => ?_⟩, fun a ha b hb e => ?_⟩, fun a ha b hb e => ?_⟩
  · rcases hd a ha with q | q
    · exact hDX a q b hb e
    · have := hlt b (.inr (.inr (.inr hb))); omega
  · rcases hb with hb | hb
    · exact hKD a ha (e ▸ hb)
    · rcases hk a ha with q | q
      · exact hKDX a q b (.inr hb) e
      · have := hlt b (.inr (.inr (.inr hb))); omega
  · rcases hb with hb | hb | hb
    · rcases hk b hb with q | q
      · exact hEK a ha b (.inl q) e
      · have := hlt a (.inl ha); omega
    · rcases hd b hb with q | q
      · exact hEK a ha b (.inr (.inl q)) e
      · have := hlt a (.inl ha); omega
    · exact hEK a ha b (.inr (.inr hb)) e

theorem adoptT (base tb g C : Nat) (qs : List PN) (root : Int) (k i : Nat) (mA : Option Addr) (mC : Nat) (more : List (Int × Int)) (w : World) (hT : TB base w tb g C qs root) (hk : k < qs.length) (hi : i < (qs[k]).kids.length) (hkl : (qs[k]).keys.length + 1 = (qs[k]).kids.length) (hB : base ≤ w.heap.size) (hm : RowAt w.heap.size w mA (flatS more)) (hmb : ∀ a, mA = some a → a.block ∉ feet g qs) (hz : ((qs[k]).kids.length + more.length + 1) * 8 ≤ 140737488351232) :
    Calls Tryz.prog 103 #[.pointer (some ⟨g, k * 5, none⟩), .int .i64 (i : Int), .slice mA more.length mC] w
      fun e w' => e = .returned (.tuple #[]) ∧ ∃ qs', TB base w' tb g C qs' root ∧ qs'.map PN.nd = adoptAt (qs.map PN.nd) (k : Int) i more ∧ qs'.length = qs.length ∧ Kept (feet g qs) w w' ∧ ∀ b ∈ feet g qs', b ∈ feet g qs ∨ w.heap.size ≤ b := by
  obtain ⟨b1, b2, b3, b4⟩ := hT.nt.blocks_nodup hk
  have ho := hT.nt.each _ (List.getElem_mem hk)
  have hlt := ho.lt
  have hfl := hT.nt.lt
  have hx := nth_map hk
  obtain ⟨cur, hrow, hcl, hct, hnC, hCm, hbg⟩ := own_split hT.nt.own
  obtain ⟨q, hq⟩ : ∃ q, qs[k] = q := ⟨_, rfl⟩
  have hcell : ∀ j, j < 5 → ∀ u, q.vals[j]? = some u → cur[k * 5 + j]? = some u := fun j hj u hu => by
    have := flatN_get qs k j hk hj
    rw [← hct, List.getElem?_take, if_pos (by omega), hq] at this
    rw [this]; exact hu
  rw [hq] at b1 b2 b3 b4 ho hlt hi hkl hz hx
  have hbe := blocks_eq q
  have hset2 : cur.set (k * 5 + 2) (.slice q.kA q.keys.length q.kC) = cur := by
    have h := hcell 2 (by decide) _ rfl
    obtain ⟨h1, h2⟩ := List.getElem?_eq_some_iff.1 h
    rw [← h2, List.set_getElem_self]
  have hset3 : cur.set (k * 5 + 3) (.slice q.dA q.kids.length q.dC) = cur := by
    have h := hcell 3 (by decide) _ rfl
    obtain ⟨h1, h2⟩ := List.getElem?_eq_some_iff.1 h
    rw [← h2, List.set_getElem_self]
  have hgk : g ∉ obk q.kA := fun e => b3 (by rw [hbe]; simp [e])
  have hgd : g ∉ obk q.dA := fun e => b3 (by rw [hbe]; simp [e])
  have hkd : ∀ b ∈ obk q.kA, b ∉ obk q.dA := fun b h1 h2 => by
    rw [hbe] at b1
    simp only [List.nodup_append, List.mem_append] at b1
    exact b1.2.1.2.2 b h1 b (.inl h2) rfl
  have hA : AdAt base w g (k * 5) 112 cur q.kA q.dA w q.kA q.kC q.keys q.dA q.dC q.kids :=
    ⟨by rw [hset2, hset3]; exact hrow, ho.k, ho.d, Kept.refl _ _, fun _ h => .inl h, fun _ h => .inl h, hkd, hgk, hgd⟩
  refine (adopt_any base g (k * 5) 112 cur q.kA q.kC q.keys q.dA q.dC q.kids i mA mC more w hA (by rw [hcl]; omega) hB hm (fun a ha => ?_) (by omega) (by omega) (by omega) hz).mono ?_
  · have := hmb a ha
    intro e
    simp only [List.cons_append, List.mem_cons, List.mem_append] at e
    rcases e with e | e | e
    · exact this (e ▸ List.mem_cons_self)
    · exact this (b2 _ (by rw [hbe]; simp [e]))
    · exact this (b2 _ (by rw [hbe]; simp [e]))
  · rintro e w' ⟨rfl, kA', kC', dA', dC', hA'⟩
    rw [keysAt_all, kidsAt_all] at hA'
    have hkl' : (q.keys.take i ++ more.map (·.1) ++ q.keys.drop i).length = q.keys.length + more.length := by simp; omega
    have hdl' : (q.kids.take (i + 1) ++ more.map (·.2) ++ q.kids.drop (i + 1)).length = q.kids.length + more.length := by simp; omega
    generalize hK : q.keys.take i ++ more.map (·.1) ++ q.keys.drop i = keys' at hA' hkl'
    generalize hD : q.kids.take (i + 1) ++ more.map (·.2) ++ q.kids.drop (i + 1) = kids' at hA' hdl'
    obtain ⟨p, hp⟩ : ∃ p : PN, p = { q with keys := keys', kA := kA', kC := kC', kids := kids', dA := dA', dC := dC' } := ⟨_, rfl⟩
    have hpb : p.blocks = obk q.eA ++ (obk kA' ++ (obk dA' ++ obk q.bA)) := by rw [blocks_eq, hp]
    have hblk : ∀ b ∈ p.blocks, b ∈ q.blocks ∨ w.heap.size ≤ b := by
      intro b hb
      rw [hpb] at hb
      rw [hbe]
      simp only [List.mem_append] at hb ⊢
      rcases hb with e | e | e | e
      · exact .inl (.inl e)
      · rcases hA'.lk b e with e | e
        · exact .inl (.inr (.inl e))
        · exact .inr e
      · rcases hA'.ld b e with e | e
        · exact .inl (.inr (.inr (.inl e)))
        · exact .inr e
      · exact .inl (.inr (.inr (.inr e)))
    have hnd : p.blocks.Nodup := by
      rw [hpb]
      rw [hbe] at b1 hlt
      exact nodup_swap2 b1 (obk_nodup _) (obk_nodup _) hA'.ne hA'.lk hA'.ld (fun b hb => (hlt b hb).2)
    obtain ⟨f1, f2⟩ := feet_turn (p := p) (B := w.heap.size) hk hT.nt.apart hnd (fun b hb => (hfl b hb).2) (by rw [hq]; exact hblk)
    have hfar : ∀ b, b ∈ feet g qs → b ≠ g → b ∉ obk q.kA → b ∉ obk q.dA → w'.heap[b]? = w.heap[b]? := fun b h1 h2 h3 h4 => hA'.kept.block b (hfl b h1).2 (by simp [h2, h3, h4])
    have hkept : Kept (feet g qs) w w' := hA'.kept.mono fun b hb => by
      simp only [List.cons_append, List.mem_cons, List.mem_append] at hb
      rcases hb with rfl | e | e
      · exact List.mem_cons_self
      · exact b2 _ (by rw [hbe]; simp [e])
      · exact b2 _ (by rw [hbe]; simp [e])
    have hgn : ∀ b ∈ q.blocks, b ≠ g := fun b hb e => b3 (e ▸ hb)
    refine ⟨rfl, qs.set k p, ⟨⟨?_, fun s hs => ?_, f1, by simpa using hT.nt.z⟩, ?_, ?_, hT.hb⟩, ?_, by simp, hkept, f2⟩
    · have e1 : p.vals = (q.vals.set 2 (.slice kA' keys'.length kC')).set 3 (.slice dA' kids'.length dC') := by rw [hp]; rfl
      have e2 : flatN (qs.set k p) = ((flatN qs).set (k * 5 + 2) (.slice kA' keys'.length kC')).set (k * 5 + 3) (.slice dA' kids'.length dC') := by
        obtain ⟨p1, hp1⟩ : ∃ p1 : PN, p1 = { q with keys := keys', kA := kA', kC := kC' } := ⟨_, rfl⟩
        have s1 := flatN_setF qs k 2 (.slice kA' keys'.length kC') p1 hk (by decide) (by rw [hq, hp1]; rfl)
        have s2 := flatN_setF (qs.set k p1) k 3 (.slice dA' kids'.length dC') p (by simpa using hk) (by decide) (by rw [List.getElem_set_self, hp, hp1]; rfl)
        rw [s1, s2, List.set_set]
      rw [e2, List.length_set]
      refine own_glue hA'.row (by simp [hcl]) ?_ hnC hCm hbg (by simp [flatN_length])
      rw [List.take_set, List.take_set, hct]
    · rw [(set_split qs k p hk).2] at hs
      have hs' : s ∈ qs.take k ++ qs.drop (k + 1) ∨ s = p := by
        simp only [List.mem_append, List.mem_cons] at hs ⊢
        rcases hs with e | e | e
        · exact .inl (.inl e)
        · exact .inr e
        · exact .inl (.inr e)
      rcases hs' with hs' | rfl
      · have hsm : s ∈ qs := by
          rcases List.mem_append.1 hs' with e | e
          · exact List.mem_of_mem_take e
          · exact List.mem_of_mem_drop e
        refine (hT.nt.each s hsm).of_blocks fun b hbs => ?_
        have hbf : b ∈ feet g qs := List.mem_cons_of_mem _ (List.mem_flatMap.2 ⟨s, hsm, hbs⟩)
        have hbg' : b ≠ g := fun e => by
          have ha := hT.nt.apart
          rw [feet, List.nodup_cons] at ha
          exact ha.1 (List.mem_flatMap.2 ⟨s, hsm, e ▸ hbs⟩)
        have hbq := b4 s hs' b hbs
        rw [hbe] at hbq
        simp only [List.mem_append, not_or] at hbq
        exact hfar b hbf hbg' hbq.2.1 hbq.2.2.1
      · have hrest : ∀ b, b ∈ obk q.eA ∨ b ∈ obk q.bA → w'.heap[b]? = w.heap[b]? := fun b hb => by
          have hbq : b ∈ q.blocks := by rw [hbe]; rcases hb with e | e <;> simp [e]
          rw [hbe] at b1
          simp only [List.nodup_append, List.mem_append] at b1
          refine hfar b (b2 b hbq) (hgn b hbq) (fun e => ?_) (fun e => ?_)
          · rcases hb with q1 | q1
            · exact b1.2.2 b q1 b (.inl e) rfl
            · exact b1.2.1.2.2 b e b (.inr q1) rfl
          · rcases hb with q1 | q1
            · exact b1.2.2 b q1 b (.inr (.inl e)) rfl
            · exact b1.2.1.2.1.2.2 b e b q1 rfl
        rw [hp]
        exact ⟨own_of_block ho.e fun b hb => hrest b (.inl (obk_of hb)), hA'.ok, hA'.od, own_of_block ho.b fun b hb => hrest b (.inr (obk_of hb)), ho.ez, by show keys'.length * 8 ≤ _; omega, by show kids'.length * 8 ≤ _; omega, ho.bz⟩
    · rw [List.length_set]
      exact hkept.row hT.box (fun e => hT.ne e)
    · intro e
      rcases f2 _ e with e | e
      · exact hT.ne e
      · have := hT.box.lt; omega
    · rw [List.map_set]
      unfold adoptAt
      rw [hx]
      show (qs.map PN.nd).set k p.nd = (qs.map PN.nd).set ((k : Int).toNat) (adoptN q.nd i more)
      congr 1
      rw [hp]
      unfold adoptN PN.nd
      simp only
      rw [hK, hD]

end Go.Proofs.YtlojfgdpmaigmaeGreatDoor

/- The walk of splitAll. -/
namespace Go.Proofs.YtlojfgdpmaigmaeGreatDoor
open Go.RowKit Plain

theorem own_base' {w : World} {base base' : Nat} {e : TypeId} {size n : Nat} {v : Value} {vs : List Value} (h : w.ownsRow base e size v n vs) (hb : base' ≤ base) : w.ownsRow base' e size v n vs := by
  refine ⟨h.1, ?_⟩
  rcases h.2 with q | ⟨g, cap, cur, h1, h2, rest⟩
  · exact .inl q
  · exact .inr ⟨g, cap, cur, h1, Nat.le_trans hb h2, rest⟩

theorem splitN_len (ns : List Nd) (p : Int) : ns.length ≤ (splitN ns p).1.length := by
  unfold splitN
  split
  · exact Nat.le_refl _
  · simp

theorem kidsN_len {rec : List Nd → Int → List Nd × List (Int × Int)} (hr : ∀ ns p, ns.length ≤ (rec ns p).1.length) (p : Int) : ∀ (i : Nat) (ns : List Nd), ns.length ≤ (kidsN rec p i ns).length
  | 0, _ => Nat.le_refl _
  | i + 1, ns => by
    rw [kidsN]
    refine Nat.le_trans ?_ (kidsN_len hr p i _)
    simpa [adoptAt] using hr ns _

theorem splitAllN_len : ∀ (h : Nat) (ns : List Nd) (p : Int), ns.length ≤ (splitAllN h ns p).1.length
  | 0, ns, p => splitN_len ns p
  | h + 1, ns, p => Nat.le_trans (kidsN_len (splitAllN_len h) p _ ns) (splitN_len _ p)

/-- Where the loop of splitAll begins a round: kids from i on have their siblings. -/
structure SaAt (mL : Nat) (base : Nat) (w wr : World) (tb g : Nat) (qs : List PN) (root : Int) (h k : Nat) (lo hi : Int) (P : List Int) (i : Nat) (g' C' : Nat) (qs' : List PN) : Prop where
  tree : TB base wr tb g' C' qs' root
  kept : Kept (tb :: feet g qs) w wr
  old : ∀ b ∈ feet g' qs', b ∈ feet g qs ∨ w.heap.size ≤ b
  ok : KidsOk mL (qs.map PN.nd) (qs'.map PN.nd) h (k : Int) lo hi P (nth (qs.map PN.nd) (k : Int)) i
  fin : kidsN (splitAllN h) (k : Int) i (qs'.map PN.nd) = kidsN (splitAllN h) (k : Int) (nth (qs.map PN.nd) (k : Int)).kids.length (qs.map PN.nd)

theorem SubK_len {g : Rel} (hg : ∀ d lo hi Q, g d lo hi Q → Q ≠ []) : ∀ {L : List (Int × Int)} {lo : Int} {Q : List Int}, SubK g lo L Q → L.length ≤ Q.length
  | [], _, _, _ => Nat.zero_le _
  | (d, u) :: r, lo, Q, h => by
    obtain ⟨Q1, Q2, rfl, h1, h2⟩ := h
    have a := hg _ _ _ _ h1
    have b := SubK_len hg h2
    have c : 1 ≤ Q1.length := by cases Q1 with | nil => exact absurd rfl a | cons => simp
    simp
    omega

theorem Sub_ne {mL mK : Nat} {ns : List Nd} : ∀ (h : Nat) (d lo hi : Int) (Q : List Int), Sub mL mK ns h d lo hi Q → Q ≠ []
  | 0, _, _, _, _, h => by rw [h.2.1]; simp
  | _ + 1, _, _, _, _, h => by obtain ⟨_, Q, rfl, _⟩ := h; simp

/-- The node, where the loop stands. -/
theorem SaAt.node {mL base : Nat} {w wr : World} {tb g : Nat} {qs : List PN} {root : Int} {h k : Nat} {lo hi : Int} {P : List Int} {i g' C' : Nat} {qs' : List PN} (H : SaAt mL base w wr tb g qs root h k lo hi P i g' C' qs') (hk : k < qs.length) (hP : P.Nodup) (hPr : ∀ n ∈ P, 0 ≤ n ∧ n < ((qs.map PN.nd).length : Int)) :
    ∃ h' : k < qs'.length, (qs'[k]).keys.length + 1 = (qs'[k]).kids.length ∧ (nth (qs.map PN.nd) (k : Int)).kids.length ≤ (qs'[k]).kids.length ∧ (qs'[k]).kids.length ≤ qs'.length := by
  have hle := H.ok.le
  simp only [List.length_map] at hle
  have hk' : k < qs'.length := by omega
  obtain ⟨kids, keys, T, Q1, Q2, hn, hkl, hle2, htk, hU, s1, s2, hpm⟩ := H.ok.at'
  rw [nth_map hk'] at hn
  have e1 : (qs'[k]).kids = kids := congrArg Nd.kids hn
  have e2 : (qs'[k]).keys = keys := congrArg Nd.keys hn
  refine ⟨hk', by rw [e1, e2]; exact hkl, by rw [e1]; exact hle2, ?_⟩
  rw [e1]
  have l1 := SubK_len (Sub_ne h) s1
  have l2 := SubK_len (Sub_ne h) s2
  have l3 : (ups kids keys hi).length = kids.length := by simp [ups]; omega
  rw [hU] at l3
  have l4 := hpm.length_eq
  have l5 : P.length ≤ qs.length := by
    have := nodup_le P (placesF 0 qs.length) hP fun n hn => by
      have := hPr n hn
      simp at this
      exact placesF_mem.2 ⟨by omega, by omega⟩
    rwa [placesF_length] at this
  simp only [List.length_append, List.length_cons, placesF_length, List.length_map] at l3 l4
  omega

set_option maxRecDepth 20000 in
set_option maxHeartbeats 4000000 in
theorem splitAll_step {mL h : Nat} (base tb g C : Nat) (qs : List PN) (root : Int) (k : Nat) (lo hi : Int) (P : List Int) (N : Nat) (w : World) (hT : TB base w tb g C qs root) (hk : k < qs.length) (hB : base ≤ w.heap.size) (hN : N ≤ 999999) (hkn : (nth (qs.map PN.nd) (k : Int)).kids.length ≤ N) (HS0 : Hid (SaAt mL base w w tb g qs root h k lo hi P (nth (qs.map PN.nd) (k : Int)).kids.length g C qs))
    (HNO : Hid (∀ wr i g' C' qs', SaAt mL base w wr tb g qs root h k lo hi P i g' C' qs' → i ≤ (nth (qs.map PN.nd) (k : Int)).kids.length ∧ ∃ h' : k < qs'.length, (qs'[k]).keys.length + 1 = (qs'[k]).kids.length ∧ (nth (qs.map PN.nd) (k : Int)).kids.length ≤ (qs'[k]).kids.length ∧ (qs'[k]).kids.length ≤ N))
    (HRC : Hid (∀ wr i g' C' qs' (_ : SaAt mL base w wr tb g qs root h k lo hi P (i + 1) g' C' qs') (h' : k < qs'.length), Calls Tryz.prog 102 #[.pointer (some ⟨tb, 0, none⟩), .int .i64 ((qs'[k]).kids.getD i 0)] wr fun e w' => ∃ vm g2 C2 qs2, e = .returned vm ∧ GrowTo base wr tb g' qs' root (splitAllN h (qs'.map PN.nd) ((qs'[k]).kids.getD i 0)).1 (splitAllN h (qs'.map PN.nd) ((qs'[k]).kids.getD i 0)).2 w' vm g2 C2 qs2 ∧ (splitAllN h (qs'.map PN.nd) ((qs'[k]).kids.getD i 0)).2.length ≤ N ∧ ∃ h2 : k < qs2.length, (qs2[k]).nd = (qs'[k]).nd))
    (HNX : Hid (∀ (wr w3 : World) (i g' C' : Nat) (qs' : List PN) (g2 C2 : Nat) (qs2 qs3 : List PN) (h' : k < qs'.length), SaAt mL base w wr tb g qs root h k lo hi P (i + 1) g' C' qs' → qs2.map PN.nd = (splitAllN h (qs'.map PN.nd) ((qs'[k]).kids.getD i 0)).1 → qs3.map PN.nd = adoptAt (qs2.map PN.nd) (k : Int) i (splitAllN h (qs'.map PN.nd) ((qs'[k]).kids.getD i 0)).2 → TB base w3 tb g2 C2 qs3 root → Kept (tb :: feet g qs) w w3 → (∀ b ∈ feet g2 qs3, b ∈ feet g qs ∨ w.heap.size ≤ b) → SaAt mL base w w3 tb g qs root h k lo hi P i g2 C2 qs3))
    (HSP : Hid (∀ wr g' C' qs', SaAt mL base w wr tb g qs root h k lo hi P 0 g' C' qs' → Calls Tryz.prog 105 #[.pointer (some ⟨tb, 0, none⟩), .int .i64 (k : Int)] wr fun e w' => ∃ vm g2 C2 qs2, e = .returned vm ∧ GrowTo base w tb g qs root (splitAllN (h + 1) (qs.map PN.nd) k).1 (splitAllN (h + 1) (qs.map PN.nd) k).2 w' vm g2 C2 qs2)) :
    Calls Tryz.prog 102 #[.pointer (some ⟨tb, 0, none⟩), .int .i64 (k : Int)] w
      fun e w' => ∃ vm g' C' qs', e = .returned vm ∧ GrowTo base w tb g qs root (splitAllN (h + 1) (qs.map PN.nd) k).1 (splitAllN (h + 1) (qs.map PN.nd) k).2 w' vm g' C' qs' := by
  have hat := hT.nt.node hk
  have n3 := hat.c3
  have c0 := hT.box.cell 0
  simp only [List.getElem?_cons_zero] at c0
  have i0 : (0 : Int) ≤ (k : Int) := by omega
  have i1 : (k : Int) < (qs.length : Int) := by omega
  have hkk : (qs[k]).kids.length = (nth (qs.map PN.nd) (k : Int)).kids.length := by rw [nth_map hk]; rfl
  rw [hkk] at n3
  generalize (nth (qs.map PN.nd) (k : Int)).kids.length = m at HS0 HNO n3 hkn
  have hw : IntKind.i64.wrap ((m : Int) - 1) = (m : Int) - 1 := by rw [IntKind.wrap_i64]; omega
  clear hat hkk
  go_enter Tryz.func102, Tryz.ntmps102
  go_wp2_with fail
  go_loopw [5] (fun vi wr => ∃ (i g' C' : Nat) (qs' : List PN), vi = .int .i64 ((i : Int) - 1) ∧ Hid (SaAt mL base w wr tb g qs root h k lo hi P i g' C' qs')) (fun vi _ => (intOf vi + 1).toNat)
  case atStart => exact ⟨m, g, C, qs, rfl, HS0⟩
  case round =>
    obtain ⟨i, g', C', qs', rfl, HS⟩ := hrel
    obtain ⟨him, hk', hkl, hkm, hkN⟩ := HNO.out _ _ _ _ _ HS.out
    cases i with
    | zero =>
      have hneg : ((0 : Nat) : Int) - 1 = -1 := by omega
      rw [hneg]
      have hsp := hideC (HSP.out _ _ _ _ HS.out)
      go_wp2_with (go_at_call 105; refine hsp.out.mono ?_; rintro e w' ⟨vm, g2, C2, qs2, rfl, hs⟩)
      go_ret
      exact ⟨vm, g2, C2, qs2, rfl, hs⟩
    | succ i =>
      have hcast : ((i + 1 : Nat) : Int) - 1 = (i : Int) := by omega
      rw [hcast]
      have hil : i < (qs'[k]).kids.length := by omega
      have a0 := HS.out.tree.box.cell 0
      simp only [List.getElem?_cons_zero] at a0
      have hat := HS.out.tree.nt.node hk'
      have a3 := hat.c3
      obtain ⟨db, doff, hA, hdl, hdc⟩ := (own_ok (HS.out.tree.nt.each _ (List.getElem_mem hk')).d).1.int hil
      rw [hA] at a3
      have ak : wr.cell? ⟨db, doff + i, none⟩ = some (.int .i64 ((qs'[k]).kids.getD i 0)) := by
        rw [hdc, List.getD_eq_getElem?_getD, List.getElem?_eq_getElem hil]
        rfl
      have j0 : (0 : Int) ≤ (i : Int) := by omega
      have j1 : (i : Int) < ((qs'[k]).kids.length : Int) := by omega
      have j2 : (k : Int) < (qs'.length : Int) := by omega
      have hrc := hideC (HRC.out wr i g' C' qs' HS.out hk')
      have hnx := hideC fun w3 g2 C2 qs2 qs3 => HNX.out wr w3 i g' C' qs' g2 C2 qs2 qs3 hk' HS.out
      have hwi : IntKind.i64.wrap ((i : Int) - 1) = (i : Int) - 1 := by rw [IntKind.wrap_i64]; omega
      generalize (splitAllN h (qs'.map PN.nd) ((qs'[k]).kids.getD i 0)).1 = R1 at hrc hnx
      generalize (splitAllN h (qs'.map PN.nd) ((qs'[k]).kids.getD i 0)).2 = R2 at hrc hnx
      generalize (qs'[k]).kids.getD i 0 = kp at ak hrc
      have HND := hideC (show (qs'[k]).nd.kids.length ≤ N ∧ (qs'[k]).nd.keys.length + 1 = (qs'[k]).nd.kids.length ∧ i < (qs'[k]).nd.kids.length from ⟨hkN, hkl, hil⟩)
      generalize (qs'[k]).nd = nd at HND hrc
      generalize (qs'[k]).kids.length = kn at a3 j1
      generalize (qs'[k]).dC = dC at a3
      clear hat hA hdc hkl hkm hkN hil HRC HNX HSP HNO HS0 n3 c0 hw him
      go_wp2_with (first
        | (go_at_call 102; refine hrc.out.mono ?_; rintro e w2 ⟨vm, g2, C2, qs2, rfl, hg2, hmN, hk2, hnd2⟩; obtain ⟨mA, mC, hvm, -, -, -, hmr⟩ := own_row hg2.more; subst hvm; have d0 := hg2.tree.box.cell 0; simp only [List.getElem?_cons_zero] at d0; have HG2 := hideC hg2; have e2 : (k : Int) < (qs2.length : Int) := (by omega); have HND2 := hideC hnd2; have HMR := hideC hmr; clear hg2 hnd2 hmr)
        | (go_at_call 103; refine (adoptT base tb g2 C2 qs2 root k i mA mC R2 w2 HG2.out.tree hk2 ?_ ?_ ?_ HMR.out ?_ ?_).mono ?_; (have := HND.out.2.2; rw [← HND2.out] at this; exact this); (have := HND.out.2.1; rw [← HND2.out] at this; exact this); (exact Nat.le_trans hB (Nat.le_trans HS.out.kept.size HG2.out.kept.size)); (exact fun a ha e => HG2.out.apart a.block (by rw [ha]; rfl) (List.mem_cons_of_mem _ e)); (have := HND.out.1; rw [← HND2.out] at this; have : (qs2[k]).kids.length ≤ N := this; omega); rintro e w3 ⟨rfl, qs3, hT3, hn3, hl3, hkp3, hf3⟩; have HR := hideC (And.intro hT3 (And.intro hn3 (And.intro hkp3 hf3))); clear hT3 hn3 hl3 hkp3 hf3))
      obtain ⟨hT3, hn3, hkp3, hf3⟩ := HR.out
      have o2 : ∀ b ∈ feet g2 qs2, b ∈ feet g qs ∨ w.heap.size ≤ b := fun b hb => by
        rcases HG2.out.old b hb with e | e
        · exact HS.out.old b e
        · exact .inr (Nat.le_trans HS.out.kept.size e)
      have k2 : Kept (tb :: feet g qs) w w2 := HS.out.kept.step HG2.out.kept fun b hb => by
        rcases List.mem_cons.1 hb with rfl | hb
        · exact .inl List.mem_cons_self
        · rcases HS.out.old b hb with e | e
          · exact .inl (List.mem_cons_of_mem _ e)
          · exact .inr e
      have k3 : Kept (tb :: feet g qs) w w3 := k2.step hkp3 fun b hb => by
        rcases o2 b hb with e | e
        · exact .inl (List.mem_cons_of_mem _ e)
        · exact .inr e
      have o3 : ∀ b ∈ feet g2 qs3, b ∈ feet g qs ∨ w.heap.size ≤ b := fun b hb => by
        rcases hf3 b hb with e | e
        · exact o2 b e
        · exact .inr (Nat.le_trans k2.size e)
      exact ⟨⟨i, g2, C2, qs3, rfl, hnx.out w3 g2 C2 qs2 qs3 HG2.out.nds hn3 hT3 k3 o3⟩, by simp [intOf]⟩

theorem parts_few (ns : List Nd) (p : Int) (hm : partsN (nth ns p) ≤ 1 ∨ mostN (nth ns p) < sizeN (nth ns p)) : ns.length + partsN (nth ns p) ≤ (splitN ns p).1.length + 1 := by
  have hl := splitN_len ns p
  rcases hm with h | h
  · omega
  · unfold splitN
    rw [if_neg (by omega)]
    simp only [List.length_append, List.length_set, List.length_tail, partsL_length]
    have : (cutsN (nth ns p)).length = partsN (nth ns p) := cutsF_length _ _ _ _
    omega

theorem parts_one (x : Nd) : partsN x ≤ 1 ∨ mostN x < sizeN x := by
  by_cases h : mostN x < sizeN x
  · exact .inr h
  · left
    unfold partsN
    have := mostN_pos x
    have h2 : sizeN x + mostN x - 1 < 2 * mostN x := by omega
    have := Nat.div_lt_of_lt_mul (by rw [Nat.mul_comm]; exact h2 : sizeN x + mostN x - 1 < mostN x * 2)
    omega

theorem KidsOk.kid {mL : Nat} {ns0 ns : List Nd} {h : Nat} {p lo hi : Int} {P : List Int} {x : Nd} {i : Nat} (hx : x.keys.length + 1 = x.kids.length) (hP : P.Nodup) (hPr : ∀ n ∈ P, 0 ≤ n ∧ n < ns0.length) (hK : KidsOk mL ns0 ns h p lo hi P x (i + 1)) :
    ∃ lo' u Qd, Sub mL 4 ns h ((nth ns p).kids.getD i 0) lo' u Qd ∧ Qd.Nodup ∧ p ∉ Qd := by
  obtain ⟨kids, keys, T, Q1, Q2, hn, hkl, hle, htk, hU, s1, s2, hpm⟩ := hK.at'
  have hix : i < x.kids.length := hK.len
  have hik : i < kids.length := by omega
  have hd : (nth ns p).kids.getD i 0 = x.kids[i] := by
    have e : kids[i] = x.kids[i] := by
      have h1 : (kids.take (i + 1))[i]? = (x.kids.take (i + 1))[i]? := by rw [htk]
      rw [List.getElem?_take, List.getElem?_take, if_pos (by omega), if_pos (by omega), List.getElem?_eq_getElem hik, List.getElem?_eq_getElem hix] at h1
      simpa using h1
    rw [hn]
    simp [hik, e]
  rw [take_succ_ups hx hix, SubK_append] at s1
  obtain ⟨Qa, Qd, rfl, s1a, Qd', Qe, rfl, s1d, hQe⟩ := s1
  cases hQe
  rw [List.append_nil] at hpm
  have hnd : (p :: (Qa ++ Qd' ++ Q2)).Nodup := hpm.nodup_iff.2 (List.nodup_append.2 ⟨hP, placesF_nodup _ _, fun a ha b hb e => by
    have h1 := (hPr a ha).2
    have h2 := (placesF_mem.1 hb).1
    omega⟩)
  rw [List.nodup_cons, List.nodup_append, List.nodup_append] at hnd
  obtain ⟨hpn, ⟨na, nd', nad⟩, n2, nad2⟩ := hnd
  rw [hd]
  exact ⟨_, _, Qd', s1d, nd', fun e => hpn (by simp [e])⟩

theorem KidsOk.top {mL : Nat} {ns0 ns : List Nd} {h : Nat} {p lo hi : Int} {P Q : List Int} {x : Nd} (hin : InnOk 4 (Sub mL 4 ns0 h) x lo hi Q) (hp : 0 ≤ p) (hp1 : p < ns0.length) (hl : lo < hi) (hK : KidsOk mL ns0 ns h p lo hi P x 0) : ∃ m Q2, Top 6 m ns (h + 1) p lo hi (p :: Q2) := by
  obtain ⟨kids, keys, T, Q1, Q2, hn, hkl, hle, -, hU, s1, s2, hpm⟩ := hK.at'
  have hle1 := hK.le
  have htwo := hin.two
  cases s1
  rw [List.take_zero] at hU s2
  rw [List.nil_append] at hU
  refine ⟨kids.length, Q2, ⟨hp, by omega, hl⟩, Q2, rfl, ?_⟩
  rw [hn]
  exact ⟨hin.leaf, hin.ents, by show 2 ≤ kids.length; omega, Nat.le_refl _, hkl, hin.few, hin.buf, by show SubK _ lo (ups kids keys hi) Q2; rw [hU]; exact s2⟩

/-- All nodes that hold too much are split: in memory as in plain terms. -/
theorem splitAll_any {mL : Nat} (hmL : mL ≤ 999999) (base tb : Nat) (root : Int) : ∀ (h g C : Nat) (qs : List PN) (k : Nat) (lo hi : Int) (P : List Int) (w : World), TB base w tb g C qs root → k < qs.length → Sub mL 4 (qs.map PN.nd) h (k : Int) lo hi P → P.Nodup → base ≤ w.heap.size → (splitAllN h (qs.map PN.nd) (k : Int)).1.length ≤ 900000 →
    Calls Tryz.prog 102 #[.pointer (some ⟨tb, 0, none⟩), .int .i64 (k : Int)] w
      fun e w' => ∃ vm g' C' qs', e = .returned vm ∧ GrowTo base w tb g qs root (splitAllN h (qs.map PN.nd) (k : Int)).1 (splitAllN h (qs.map PN.nd) (k : Int)).2 w' vm g' C' qs'
  | 0, g, C, qs, k, lo, hi, P, w, hT, hk, hs, hP, hB, hN => by
    have hx := nth_map hk
    have hkids : (qs[k]).kids = [] := by
      have := hs.2.2.kids
      rw [hx] at this
      exact this
    have hsz : sizeN (nth (qs.map PN.nd) (k : Int)) ≤ 1000000 := by
      have h1 := hs.2.2
      unfold sizeN
      rw [if_pos h1.leaf]
      have := h1.most
      omega
    have hpre := Top_pre (mL := mL) (mK := 4) (h := 0) (show Top mL 4 (qs.map PN.nd) 0 (k : Int) lo hi P from hs) hsz
    have hf := parts_few (qs.map PN.nd) (k : Int) (parts_one _)
    change (splitN (qs.map PN.nd) (k : Int)).1.length ≤ 900000 at hN
    rw [hx] at hpre hf
    simp only [List.length_map] at hf
    refine (splitAll_leaf base tb g C qs root k w hT hk hpre hB (by omega) hkids).mono ?_
    rintro e w' ⟨vm, g', C', qs', rfl, hs'⟩
    exact ⟨vm, g', C', qs', rfl, hs'.grow⟩
  | h + 1, g, C, qs, k, lo, hi, P, w, hT, hk, hs, hP, hB, hN => by
    have hx := nth_map hk
    have hPr := Sub_range _ _ _ _ _ hs
    have hs0 := hs
    obtain ⟨hr, Q, hPQ, hin⟩ := hs
    have hul : (ups (nth (qs.map PN.nd) (k : Int)).kids (nth (qs.map PN.nd) (k : Int)).keys hi).take (nth (qs.map PN.nd) (k : Int)).kids.length = ups (nth (qs.map PN.nd) (k : Int)).kids (nth (qs.map PN.nd) (k : Int)).keys hi := List.take_of_length_le (by simp [ups]; omega)
    have hK : KidsOk mL (qs.map PN.nd) (qs.map PN.nd) h (k : Int) lo hi P (nth (qs.map PN.nd) (k : Int)) (nth (qs.map PN.nd) (k : Int)).kids.length := by
      refine ⟨Nat.le_refl _, ⟨(nth (qs.map PN.nd) (k : Int)).kids, (nth (qs.map PN.nd) (k : Int)).keys, [], Q, [], rfl, hin.keys, Nat.le_refl _, rfl, ?_, ?_, rfl, ?_⟩, Nat.le_refl _, fun _ _ _ _ => rfl, List.Perm.refl _⟩
      · rw [hul, List.append_nil]
      · rw [hul]; exact hin.kids
      · rw [hPQ]; simp [placesF]
    have hkP : (k : Int) ∈ P := by rw [hPQ]; simp
    have hfin : ∀ {wr : World} {i g' C' : Nat} {qs' : List PN}, SaAt mL base w wr tb g qs root h k lo hi P i g' C' qs' → (kidsN (splitAllN h) (k : Int) i (qs'.map PN.nd)).length ≤ 900000 := fun {wr i g' C' qs'} H => by
      rw [H.fin]
      exact Nat.le_trans (splitN_len _ (k : Int)) hN
    have hqs : ∀ {wr : World} {i g' C' : Nat} {qs' : List PN}, SaAt mL base w wr tb g qs root h k lo hi P i g' C' qs' → qs'.length ≤ 900000 := fun {wr i g' C' qs'} H => by
      have := kidsN_len (splitAllN_len h) (k : Int) i (qs'.map PN.nd)
      have := hfin H
      simp only [List.length_map] at *
      omega
    have hSN : SaAt mL base w w tb g qs root h k lo hi P (nth (qs.map PN.nd) (k : Int)).kids.length g C qs := ⟨hT, Kept.refl _ _, fun b hb => .inl hb, hK, rfl⟩
    have hk4 : (nth (qs.map PN.nd) (k : Int)).kids.length ≤ 4 := hin.most
    -- a kid, and its siblings
    have hkidok : ∀ {wr : World} {i g' C' : Nat} {qs' : List PN} (H : SaAt mL base w wr tb g qs root h k lo hi P (i + 1) g' C' qs') (h' : k < qs'.length), ∃ lo' u Qd, Sub mL 4 (qs'.map PN.nd) h ((qs'[k]).kids.getD i 0) lo' u Qd ∧ Qd.Nodup ∧ (k : Int) ∉ Qd := fun {wr i g' C' qs'} H h' => by
      have := H.ok.kid hin.keys hP hPr
      rw [nth_map h'] at this
      exact this
    refine splitAll_step (mL := mL) (h := h) base tb g C qs root k lo hi P 999999 w hT hk hB (by omega) (by omega) hSN ?_ ?_ ?_ ?_
    · intro wr i g' C' qs' H
      obtain ⟨h', a, b, c⟩ := H.node hk hP hPr
      exact ⟨H.ok.len, h', a, b, by have := hqs H; omega⟩
    · intro wr i g' C' qs' H h'
      obtain ⟨lo', u, Qd, hsd, hnd, hkd⟩ := hkidok H h'
      have hrd := Sub_range _ _ _ _ _ hsd
      have hok := splitAll_ok h _ _ _ _ _ hsd hnd
      have hd : 0 ≤ (qs'[k]).kids.getD i 0 ∧ (qs'[k]).kids.getD i 0 < ((qs'.map PN.nd).length : Int) := by
        cases h with
        | zero => exact ⟨hsd.1.1, hsd.1.2.1⟩
        | succ h => exact ⟨hsd.1.1, hsd.1.2.1⟩
      obtain ⟨d, hdd⟩ : ∃ d : Nat, (qs'[k]).kids.getD i 0 = d := ⟨((qs'[k]).kids.getD i 0).toNat, by omega⟩
      rw [hdd] at hsd hok hd ⊢
      have hlen : (splitAllN h (qs'.map PN.nd) (d : Int)).1.length ≤ 900000 := by
        have h1 := hfin H
        rw [kidsN, nth_map h'] at h1
        have h2 := kidsN_len (splitAllN_len h) (k : Int) i (adoptAt (splitAllN h (qs'.map PN.nd) ((qs'[k]).nd.kids.getD i 0)).1 (k : Int) i (splitAllN h (qs'.map PN.nd) ((qs'[k]).nd.kids.getD i 0)).2)
        have e : (qs'[k]).nd.kids.getD i 0 = d := hdd
        rw [e] at h1 h2
        simp only [adoptAt, List.length_set] at h1 h2
        omega
      refine (splitAll_any hmL base tb root h g' C' qs' d lo' u Qd wr H.tree (by simp at hd; omega) hsd hnd (Nat.le_trans hB H.kept.size) hlen).mono ?_
      rintro e w' ⟨vm, g2, C2, qs2, rfl, hG⟩
      have hle := hok.le
      have hfew := hok.few
      have hq2 : qs2.length = (splitAllN h (qs'.map PN.nd) (d : Int)).1.length := by rw [← hG.nds]; simp
      simp only [List.length_map] at hle hfew
      have hk2 : k < qs2.length := by omega
      refine ⟨vm, g2, C2, qs2, rfl, hG, by omega, hk2, ?_⟩
      have hsame := hok.same (k : Int) hkd (by omega) (by simp; omega)
      rw [← hG.nds, nth_map hk2, nth_map h'] at hsame
      exact hsame
    · intro wr w3 i g' C' qs' g2 C2 qs2 qs3 h' H hn2 hn3 hT3 hkp3 ho3
      refine ⟨hT3, hkp3, ho3, ?_, ?_⟩
      · rw [hn3, hn2]
        have e := nth_map h'
        have := kids_step (R := splitAllN h (qs'.map PN.nd) ((qs'[k]).kids.getD i 0)) hin.keys hr.1 hr.2.1 hkP hP hPr H.ok (fun l u Qd a b => by
          rw [e] at a ⊢
          exact splitAll_ok h _ _ _ _ _ a b)
        exact this
      · rw [hn3, hn2, ← H.fin, kidsN, nth_map h']
        rfl
    · intro wr g' C' qs' H
      obtain ⟨h', a, b, c⟩ := H.node hk hP hPr
      have hx' := nth_map h'
      have hke : qs'.map PN.nd = kidsN (splitAllN h) (k : Int) (nth (qs.map PN.nd) (k : Int)).kids.length (qs.map PN.nd) := H.fin
      have hlen := hfin H
      have hsz : sizeN (nth (qs'.map PN.nd) (k : Int)) ≤ 1000000 := by
        obtain ⟨kids, keys, T, Q1, Q2, hn, _⟩ := H.ok.at'
        unfold sizeN
        rw [hn, if_neg (by show ¬ (nth (qs.map PN.nd) (k : Int)).leaf = true; rw [hin.leaf]; decide)]
        rw [hx'] at hn
        have : (qs'[k]).kids = kids := congrArg Nd.kids hn
        show kids.length ≤ _
        rw [← this]
        have := hqs H
        omega
      have hpre : SplitPre (nth (qs'.map PN.nd) (k : Int)) := by
        obtain ⟨m, Q2, ht⟩ := H.ok.top hin hr.1 hr.2.1 hr.2.2
        exact Top_pre ht hsz
      have hf := parts_few (qs'.map PN.nd) (k : Int) (parts_one _)
      have hN' : (splitN (qs'.map PN.nd) (k : Int)).1.length ≤ 900000 := by rw [hke]; exact hN
      rw [hx'] at hpre hf
      simp only [List.length_map] at hf
      refine (split_any base tb g' C' qs' root k wr H.tree h' hpre (Nat.le_trans hB H.kept.size) (by omega)).mono ?_
      rintro e w' ⟨vm, g2, C2, qs2, rfl, hS⟩
      have hG := hS.grow
      rw [hke] at hG
      refine ⟨vm, g2, C2, qs2, rfl, ⟨hG.tree, hG.nds, own_base' hG.more H.kept.size, hG.apart, H.kept.step hG.kept fun b hb => ?_, fun b hb => ?_⟩⟩
      · rcases List.mem_cons.1 hb with rfl | hb
        · exact .inl List.mem_cons_self
        · rcases H.old b hb with e | e
          · exact .inl (List.mem_cons_of_mem _ e)
          · exact .inr e
      · rcases hG.old b hb with e | e
        · exact H.old b e
        · exact .inr (Nat.le_trans H.kept.size e)

end Go.Proofs.YtlojfgdpmaigmaeGreatDoor

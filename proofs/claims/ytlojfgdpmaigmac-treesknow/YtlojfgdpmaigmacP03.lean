/- Parts of a node, in memory of their own. -/
import Derived.Test.YtlojfgdpmaigmacP02
import Derived.Test.YtlojfgdpmaigmacP01
import Derived.Deep.AppendLies
import Derived.Shelf.Spec.SlicesInsertGrow
import Derived.Deep.RegionLaw
namespace Go.Proofs.Ytlojfgdpmaigmac
open Go.RowKit Plain

theorem RowAt.cutI {B : Nat} {w : World} {b o a n : Nat} {zs : List Int} (h : RowAt B w (some ⟨b, o, none⟩) (ints zs)) : RowAt B w (some ⟨b, o + a, none⟩) (ints ((zs.drop a).take n)) := by
  rcases h with h | ⟨b', o', hA, hlt, hc⟩
  · left
    simp [ints] at h ⊢
    subst h
    simp
  · cases hA
    refine .inr ⟨b, o + a, rfl, hlt, fun j u hu => ?_⟩
    have hj : (ints zs)[a + j]? = some u := by
      have h1 : ((ints zs).drop a)[j]? = some u := by
        have e : ints ((zs.drop a).take n) = ((ints zs).drop a).take n := by simp [ints]
        rw [e, List.getElem?_take] at hu
        split at hu
        · exact hu
        · cases hu
      rwa [List.getElem?_drop] at h1
    have := hc (a + j) u hj
    rwa [← Nat.add_assoc] at this

theorem flatE_drop : ∀ (xs : List En) (a : Nat), flatE (xs.drop a) = (flatE xs).drop (a * 7)
  | [], a => by simp [flatE]
  | x :: r, 0 => by simp
  | x :: r, a + 1 => by
    rw [List.drop_succ_cons, flatE_drop r a, flatE, show (a + 1) * 7 = 7 + a * 7 by omega, ← List.drop_drop]
    rfl
theorem flatE_take : ∀ (xs : List En) (a : Nat), flatE (xs.take a) = (flatE xs).take (a * 7)
  | [], a => by simp [flatE]
  | x :: r, 0 => by simp [flatE]
  | x :: r, a + 1 => by
    rw [List.take_succ_cons, flatE, flatE_take r a, flatE, show (a + 1) * 7 = x.vals.length + a * 7 by simp [En.vals]; omega, List.take_length_add_append]

theorem RowAt.cutE {B : Nat} {w : World} {b o a n : Nat} {xs : List En} (h : RowAt B w (some ⟨b, o, none⟩) (flatE xs)) : RowAt B w (some ⟨b, o + a * 7, none⟩) (flatE ((xs.drop a).take n)) := by
  rcases h with h | ⟨b', o', hA, hlt, hc⟩
  · left
    have : xs = [] := by
      have hl := flatE_length xs
      rw [h] at hl
      exact List.eq_nil_of_length_eq_zero (by simp at hl; omega)
    subst this
    simp [flatE]
  · cases hA
    refine .inr ⟨b, o + a * 7, rfl, hlt, fun j u hu => ?_⟩
    have hj : (flatE xs)[a * 7 + j]? = some u := by
      rw [flatE_take, List.getElem?_take, flatE_drop] at hu
      split at hu
      · rwa [List.getElem?_drop] at hu
      · cases hu
    have := hc (a * 7 + j) u hj
    rwa [← Nat.add_assoc] at this

theorem RowAt.cutIf {B : Nat} {w : World} {b o a n C : Nat} {xs : List En} (h : RowAt B w (some ⟨b, o, none⟩) (flatE xs)) (hC : xs.length ≤ C) : RowAt B w (if C = a then some ⟨b, o, none⟩ else some ⟨b, o + a * 7, none⟩) (flatE ((xs.drop a).take n)) := by
  split
  · left
    rw [List.drop_eq_nil_of_le (by omega)]
    simp [flatE]
  · exact h.cutE

theorem RowAt.some_of {B : Nat} {w : World} {A : Option Addr} {vs : List Value} (h : RowAt B w A vs) (hne : vs ≠ []) : ∃ b o, A = some ⟨b, o, none⟩ ∧ b < B := by
  rcases h with h | ⟨b, o, hA, hlt, _⟩
  · exact absurd h hne
  · exact ⟨b, o, hA, hlt⟩

theorem freshE_n (A : Option Addr) (C n : Nat) (xs : List En) (hn : xs.length = n) (w : World) (h : RowAt w.heap.size w A (flatE xs)) (hA : A = none → C = 0) (hz : n * 56 ≤ 140737488351232) :
    Calls Try.prog 23 #[.slice A n C] w fun e w' => ∃ v, e = .returned v ∧ w'.ownsRow w.heap.size 53 7 v n (flatE xs) ∧ Below w.heap.size w w' := by
  subst hn
  exact freshE_any A C xs w h hA hz

theorem freshI_n (A : Option Addr) (C n : Nat) (zs : List Int) (hn : zs.length = n) (w : World) (h : RowAt w.heap.size w A (ints zs)) (hA : A = none → C = 0) (hz : n * 8 ≤ 140737488351232) :
    Calls Try.prog 24 #[.slice A n C] w fun e w' => ∃ v, e = .returned v ∧ w'.ownsRow w.heap.size 3 1 v n (ints zs) ∧ Below w.heap.size w w' := by
  subst hn
  exact freshI_any A C zs w h hA hz

theorem own_len {α : Type} {w : World} {base n size C : Nat} {e : TypeId} {A : Option Addr} {xs : List α} {vs : List Value} (h : xs.length = n) (ho : w.ownsRow base e size (.slice A n C) n vs) : w.ownsRow base e size (.slice A xs.length C) xs.length vs := by rw [h]; exact ho

theorem two_below (w : World) (o1 o2 : Obj) : Below w.heap.size w ((w.alloc o1).alloc o2) := ((Below.refl _ _).alloc (Nat.le_refl _) _).alloc (by simp) _

theorem set5_block (w : World) (r o : Nat) (v0 v1 v2 v3 v4 : Value) {k : Nat} (hk : k ≠ r) :
    (((((w.setCell ⟨r, o, none⟩ v0).setCell ⟨r, o + 1, none⟩ v1).setCell ⟨r, o + 2, none⟩ v2).setCell ⟨r, o + 3, none⟩ v3).setCell ⟨r, o + 4, none⟩ v4).heap[k]? = w.heap[k]? := by
  simp only [Below.heap_setCell _ _ _ _ (show k ≠ (⟨r, _, none⟩ : Addr).block from hk)]

theorem set5_below {B : Nat} {a w : World} (h : Below B a w) {r : Nat} (hr : B ≤ r) (o : Nat) (v0 v1 v2 v3 v4 : Value) :
    Below B a (((((w.setCell ⟨r, o, none⟩ v0).setCell ⟨r, o + 1, none⟩ v1).setCell ⟨r, o + 2, none⟩ v2).setCell ⟨r, o + 3, none⟩ v3).setCell ⟨r, o + 4, none⟩ v4) :=
  ((((h.setCell hr _).setCell hr _).setCell hr _).setCell hr _).setCell hr _

set_option maxHeartbeats 1000000 in
theorem part_leaf (eA : Option Addr) (eC : Nat) (ents : List En) (kA : Option Addr) (kC : Nat) (keys : List Int) (dA : Option Addr) (dC : Nat) (kids : List Int) (bA : Option Addr) (bC : Nat) (buf : List En) (a b : Nat) (w : World)
    (he : RowAt w.heap.size w eA (flatE ents)) (hec : ents.length ≤ eC) (ez : ents.length * 56 ≤ 140737488351232) (hab : a < b) (hbl : b ≤ ents.length) :
    Calls Try.prog 66 #[.agg #[.bool true, .slice eA ents.length eC, .slice kA keys.length kC, .slice dA kids.length dC, .slice bA buf.length bC], .int .i64 (a : Int), .int .i64 (b : Int)] w
      fun e w' => ∃ A1 C1, e = .returned (.agg #[.bool true, .slice A1 (b - a) C1, .slice none 0 0, .slice none 0 0, .slice none 0 0]) ∧ w'.ownsRow w.heap.size 53 7 (.slice A1 (b - a) C1) (b - a) (flatE ((ents.drop a).take (b - a))) ∧ Below w.heap.size w w' := by
  obtain ⟨eb, eo, rfl, hlt⟩ := he.some_of (by
    intro e
    have := flatE_length ents
    rw [e] at this
    simp at this
    omega)
  have HL : Hid (((ents.drop a).take (b - a)).length = b - a) := by show _ = _; simp; omega
  go_enter Try.func66, Try.ntmps66
  go_wp2_with (go_at_call 23; refine (freshE_n _ _ _ ((ents.drop a).take (b - a)) HL.out _ ((he.cutE.below (two_below _ _ _) (Nat.le_refl _)).mono (by simp; omega)) (fun h => by cases h) (by omega)).mono ?_; rintro e w1 ⟨v1, rfl, o1, hb1⟩; obtain ⟨A1, C1, rfl, -⟩ := own_row o1; obtain ⟨hc1, hf1⟩ := bcells hb1; have hz1 : w.heap.size + 1 < w1.heap.size := by have := hb1.size; simp at this; omega)
  refine bodyPost_ret (v := .agg #[.bool true, .slice A1 (b - a) C1, .slice none 0 0, .slice none 0 0, .slice none 0 0]) (by simp [results, Try.results66, go_sem, hc1]) rfl ⟨A1, C1, rfl, ?_, ?_⟩
  · refine own_of_block (own_mono o1 (by simp; omega)) fun k hk => ?_
    have := (o1.lt k hk).1
    simp only [World.size_alloc] at this
    exact set5_block w1 (w.heap.size + 1) 0 _ _ _ _ _ (by omega)
  · exact set5_below ((two_below w _ _).trans (hb1.mono (by simp; omega))) (by omega) 0 _ _ _ _ _

set_option maxRecDepth 20000 in
set_option maxHeartbeats 1000000 in
theorem wait_any (leaf : Bool) (eA : Option Addr) (eC : Nat) (ents : List En) (kA : Option Addr) (kC : Nat) (keys : List Int) (dA : Option Addr) (dC : Nat) (kids : List Int) (bA : Option Addr) (bC : Nat) (buf : List En) (kid : Nat) (w : World)
    (hk : RowAt w.heap.size w kA (ints keys)) (hb : RowAt w.heap.size w bA (flatE buf)) (kz : keys.length * 8 ≤ 140737488351232) (bz : buf.length * 56 ≤ 140737488351232) (hkl : keys.length + 1 = kids.length) (hkid : kid ≤ kids.length) (hp : buf.Pairwise (fun x y => x.key < y.key)) (r : Nat) (hr : Hid (waitA ⟨leaf, ents, keys, kids, buf⟩ kid = r)) :
    Calls Try.prog 86 #[.agg #[.bool leaf, .slice eA ents.length eC, .slice kA keys.length kC, .slice dA kids.length dC, .slice bA buf.length bC], .int .i64 (kid : Int)] w
      fun e w' => e = .returned (.int .i64 (r : Int)) ∧ Below w.heap.size w w' := by
  by_cases h0 : kid = 0
  · subst h0
    have E : Hid (r = 0) := by show _ = _; rw [← hr.out]; simp [waitA]
    clear hr
    go_enter Try.func86, Try.ntmps86
    go_wp2_with fail
    go_ret
    exact ⟨ret_int (by rw [E.out]; rfl), (Below.refl _ _).alloc (Nat.le_refl _) _⟩
  · have h0' : ((kid : Int) == 0) = false := by simp; omega
    by_cases h1 : kid = kids.length
    · have E : Hid (r = buf.length) := by
        show _ = _
        rw [← hr.out]
        unfold waitA
        rw [if_neg h0, if_pos h1]
      subst h1
      clear hr
      go_enter Try.func86, Try.ntmps86
      go_wp2_with fail
      go_ret
      exact ⟨ret_int (by rw [E.out]), (Below.refl _ _).alloc (Nat.le_refl _) _⟩
    · have h1' : ((kid : Int) == (kids.length : Int)) = false := by simp; omega
      obtain ⟨j, rfl⟩ : ∃ j, kid = j + 1 := ⟨kid - 1, by omega⟩
      have hj : j < keys.length := by omega
      obtain ⟨kb, ko, rfl, hkb, hkc⟩ := hk.int hj
      have E : Hid (lowN buf keys[j] = r) := by
        show _ = _
        rw [← hr.out]
        unfold waitA
        rw [if_neg h0, if_neg h1]
        simp [hj]
      have HK : Hid (keys.length + 1 = kids.length) := hkl
      clear hr h0 h1 hkl
      generalize keys[j] = kk at *
      have i0 : (0 : Int) ≤ (j : Int) := by omega
      have i1 : (j : Int) < (keys.length : Int) := by omega
      obtain ⟨kd, hkd⟩ : ∃ kd : Int, ((j + 1 : Nat) : Int) = kd := ⟨_, rfl⟩
      have wj : IntKind.i64.wrap (kd - 1) = (j : Int) := by rw [IntKind.wrap_i64]; omega
      rw [hkd] at h0' h1' ⊢
      clear hkd
      have hkb1 : kb < w.heap.size + 1 := by omega
      go_enter Try.func86, Try.ntmps86
      go_wp2_with fail
      go_region_held3 (fun w' => w'.cell? ⟨w.heap.size, 2, none⟩ = some (.slice (some ⟨kb, ko, none⟩) keys.length kC) ∧ w'.cell? ⟨w.heap.size, 4, none⟩ = some (.slice bA buf.length bC) ∧ w'.cell? ⟨kb, ko + j, none⟩ = some (.int .i64 kk)) (go_keep)
        (first | (go_at_call 59; refine (find_any _ _ _ _ _ (hb.go (((Below.refl _ _).alloc (Nat.le_refl _) _).drew) (Nat.le_refl _) (Nat.le_refl _)) bz hp).mono ?_; rintro e w1 ⟨rfl, hb1⟩; have T1 := (bcells (hb1.mono (show w.heap.size + 1 ≤ _ by simp))).1))
      go_wp2
      go_ret
      exact ⟨ret_int (by rw [E.out]), ((Below.refl _ _).alloc (Nat.le_refl _) _).drew.trans (hb1.mono (by simp))⟩

set_option maxHeartbeats 1000000 in
theorem firstKey_any (leaf : Bool) (eA : Option Addr) (eC : Nat) (ents : List En) (kA : Option Addr) (kC : Nat) (keys : List Int) (dA : Option Addr) (dC : Nat) (kids : List Int) (bA : Option Addr) (bC : Nat) (buf : List En) (a : Nat) (w : World)
    (he : RowAt w.heap.size w eA (flatE ents)) (hk : RowAt w.heap.size w kA (ints keys)) (h1 : leaf = true → a < ents.length) (h2 : leaf = false → 0 < a ∧ a ≤ keys.length) (kz : keys.length * 8 ≤ 140737488351232) :
    Calls Try.prog 67 #[.agg #[.bool leaf, .slice eA ents.length eC, .slice kA keys.length kC, .slice dA kids.length dC, .slice bA buf.length bC], .int .i64 (a : Int)] w
      fun e w' => e = .returned (.int .i64 (firstK ⟨leaf, ents, keys, kids, buf⟩ a)) ∧ Below w.heap.size w w' := by
  cases leaf with
  | true =>
    have hl := h1 rfl
    obtain ⟨b, o, rfl, hbl, hat⟩ := he.en hl
    have E : Hid (firstK ⟨true, ents, keys, kids, buf⟩ a = ents[a].key) := by show _ = _; simp [firstK, hl]
    have c0 := hat.c0
    clear hat h2
    generalize ents[a] = x at *
    go_enter Try.func67, Try.ntmps67
    go_wp2
    go_ret
    exact ⟨ret_int E.out.symm, (Below.refl _ _).alloc (Nat.le_refl _) _⟩
  | false =>
    obtain ⟨ha, hl⟩ := h2 rfl
    obtain ⟨j, rfl⟩ : ∃ j, a = j + 1 := ⟨a - 1, by omega⟩
    have hj : j < keys.length := by omega
    obtain ⟨b, o, rfl, hbl, hc⟩ := hk.int hj
    have E : Hid (firstK ⟨false, ents, keys, kids, buf⟩ (j + 1) = keys[j]) := by show _ = _; simp [firstK, hj]
    have i1 : (j : Int) < (keys.length : Int) := by omega
    obtain ⟨kd, hkd⟩ : ∃ kd : Int, ((j + 1 : Nat) : Int) = kd := ⟨_, rfl⟩
    have wj : kd - 1 = (j : Int) := by omega
    rw [hkd]
    have hk1 : 1 ≤ kd := by omega
    have hk2 : kd ≤ 1099511627776000 := by omega
    clear hkd h1 h2 ha hl
    generalize keys[j] = x at *
    go_enter Try.func67, Try.ntmps67
    go_wp2
    go_ret
    exact ⟨ret_int E.out.symm, (Below.refl _ _).alloc (Nat.le_refl _) _⟩

set_option maxRecDepth 20000 in
set_option maxHeartbeats 4000000 in
theorem part_inner_some (eA : Option Addr) (eC : Nat) (ents : List En) (kb ko : Nat) (kC : Nat) (keys : List Int) (db dO : Nat) (dC : Nat) (kids : List Int) (fb fo : Nat) (bC : Nat) (buf : List En) (a b c r1 r2 : Nat) (w : World)
    (hk : RowAt w.heap.size w (some ⟨kb, ko, none⟩) (ints keys)) (hd : RowAt w.heap.size w (some ⟨db, dO, none⟩) (ints kids)) (hf : RowAt w.heap.size w (some ⟨fb, fo, none⟩) (flatE buf))
    (hkc : keys.length ≤ kC) (hdc : kids.length ≤ dC) (hfc : buf.length ≤ bC) (kz : keys.length * 8 ≤ 140737488351232) (dz : kids.length * 8 ≤ 140737488351232) (bz : buf.length * 56 ≤ 140737488351232)
    (hkl : Hid (keys.length + 1 = kids.length)) (hbc : Hid (b = c + 1)) (hac : a < c) (hck : c ≤ keys.length) (hbk : b ≤ kids.length) (hp : List.Pairwise (fun x y : En => x.key < y.key) buf)
    (hr1 : Hid (waitA ⟨false, ents, keys, kids, buf⟩ a = r1)) (hr2 : Hid (waitA ⟨false, ents, keys, kids, buf⟩ b = r2)) (h12 : r1 ≤ r2) (h2f : r2 ≤ buf.length) :
    Calls Try.prog 66 #[.agg #[.bool false, .slice eA ents.length eC, .slice (some ⟨kb, ko, none⟩) keys.length kC, .slice (some ⟨db, dO, none⟩) kids.length dC, .slice (some ⟨fb, fo, none⟩) buf.length bC], .int .i64 (a : Int), .int .i64 (b : Int)] w
      fun e w' => ∃ A1 C1 A2 C2 A3 C3, e = .returned (.agg #[.bool false, .slice none 0 0, .slice A1 (c - a) C1, .slice A2 (b - a) C2, .slice A3 (r2 - r1) C3]) ∧
        PN.own w.heap.size w' ⟨false, none, 0, [], A1, C1, (keys.drop a).take (c - a), A2, C2, (kids.drop a).take (b - a), A3, C3, (buf.drop r1).take (r2 - r1)⟩ ∧ (PN.mk false none 0 [] A1 C1 ((keys.drop a).take (c - a)) A2 C2 ((kids.drop a).take (b - a)) A3 C3 ((buf.drop r1).take (r2 - r1))).blocks.Nodup ∧ Below w.heap.size w w' := by
  have hab : a ≤ b := by have := hbc.out; omega
  have wb : IntKind.i64.wrap ((b : Int) - 1) = (c : Int) := by have := hbc.out; rw [IntKind.wrap_i64]; omega
  have i1 : (a : Int) ≤ (c : Int) := by omega
  have i2 : (c : Int) ≤ (kC : Int) := by omega
  have i3 : (a : Int) ≤ (b : Int) := by omega
  have i4 : (b : Int) ≤ (dC : Int) := by omega
  have i5 : (r1 : Int) ≤ (r2 : Int) := by omega
  have i6 : (r2 : Int) ≤ (bC : Int) := by omega
  have i7 : (0 : Int) ≤ (a : Int) := by omega
  have i8 : (0 : Int) ≤ (r1 : Int) := by omega
  have n1 : ¬ kC = a := by omega
  have n2 : ¬ dC = a := by have := hbc.out; omega
  obtain ⟨A', hA'⟩ : ∃ A', (if bC = r1 then some (⟨fb, fo, none⟩ : Addr) else some ⟨fb, fo + r1 * 7, none⟩) = A' := ⟨_, rfl⟩
  have HA : Hid (∀ n, RowAt w.heap.size w A' (flatE ((buf.drop r1).take n))) := fun n => hA' ▸ hf.cutIf hfc
  have HN : Hid (A' ≠ none) := by rw [← hA']; intro h; split at h <;> cases h
  have l1 : Hid (((keys.drop a).take (c - a)).length = c - a) := by show _ = _; simp; omega
  have l2 : Hid (((kids.drop a).take (b - a)).length = b - a) := by show _ = _; simp; omega
  have l3 : Hid (((buf.drop r1).take (r2 - r1)).length = r2 - r1) := by show _ = _; simp; omega
  have hda : b - a ≤ kids.length := by omega
  have hca : c - a ≤ keys.length := by omega
  have hba : r2 - r1 ≤ buf.length := by omega
  go_enter Try.func66, Try.ntmps66
  go_wp2_with fail
  go_region_held3 (fun w' => w'.cell? ⟨w.heap.size, 0, none⟩ = some (.bool false) ∧ w'.cell? ⟨w.heap.size, 1, none⟩ = some (.slice eA ents.length eC) ∧ w'.cell? ⟨w.heap.size, 2, none⟩ = some (.slice (some ⟨kb, ko, none⟩) keys.length kC) ∧ w'.cell? ⟨w.heap.size, 3, none⟩ = some (.slice (some ⟨db, dO, none⟩) kids.length dC) ∧ w'.cell? ⟨w.heap.size, 4, none⟩ = some (.slice (some ⟨fb, fo, none⟩) buf.length bC)) (go_keep)
    (first
      | (go_at_call_of 24 (kC - a); refine (freshI_n _ _ _ ((keys.drop a).take (c - a)) l1.out _ (hk.cutI.go ((two_below _ _ _).drew) (Nat.le_refl _) (Nat.le_refl _)) (fun h => by cases h) (by omega)).mono ?_; rintro e w1 ⟨v1, rfl, o1, hb1⟩; obtain ⟨A1, C1, rfl, -⟩ := own_row o1; have G1 : Below w.heap.size w w1 := nextB ((two_below _ _ _).drew) (Nat.le_refl _) hb1; have T1 := (bcells (hb1.mono (show w.heap.size + 2 ≤ _ by simp))).1; have F1 := (bcells (hb1.mono (show w.heap.size + 2 ≤ _ by simp))).2; have Z1 : w.heap.size + 2 ≤ w1.heap.size := Nat.le_trans (by simp) hb1.size)
      | (go_at_call_of 24 (dC - a); refine (freshI_n _ _ _ ((kids.drop a).take (b - a)) l2.out _ (hd.cutI.go G1 (Nat.le_refl _) (Nat.le_refl _)) (fun h => by cases h) (by omega)).mono ?_; rintro e w2 ⟨v2, rfl, o2, hb2⟩; obtain ⟨A2, C2, rfl, -⟩ := own_row o2; have G2 : Below w.heap.size w w2 := nextB G1 (Nat.le_refl _) hb2; have T2 := (bcells (hb2.mono (show w.heap.size + 2 ≤ _ by exact Z1))).1; have F2 := (bcells (hb2.mono (show w.heap.size + 2 ≤ _ by exact Z1))).2; have Z2 : w.heap.size + 2 ≤ w2.heap.size := Nat.le_trans Z1 hb2.size)
      | (have k0 : w2.heap.size ≤ w2.heap.size := Nat.le_refl _; go_at_call_of 86 (Value.int IntKind.i64 (a : Int)); refine (wait_any false eA eC ents _ kC keys _ dC kids _ bC buf a _ (hk.go G2 (Nat.le_refl _) (Nat.le_refl _)) (hf.go G2 (Nat.le_refl _) (Nat.le_refl _)) kz bz hkl.out (by omega) hp r1 hr1).mono ?_; rintro e w3 ⟨rfl, hb3⟩; have G3 : Below w.heap.size w w3 := nextB G2 (Nat.le_refl _) hb3; have T3 := (bcells (hb3.mono (show w.heap.size + 2 ≤ _ by exact Z2))).1; have F3 := (bcells (hb3.mono (show w.heap.size + 2 ≤ _ by exact Z2))).2; have Z3 : w.heap.size + 2 ≤ w3.heap.size := Nat.le_trans Z2 hb3.size)
      | (have k0 : w3.heap.size ≤ w3.heap.size := Nat.le_refl _; go_at_call_of 86 (Value.int IntKind.i64 (b : Int)); refine (wait_any false eA eC ents _ kC keys _ dC kids _ bC buf b _ (hk.go G3 (Nat.le_refl _) (Nat.le_refl _)) (hf.go G3 (Nat.le_refl _) (Nat.le_refl _)) kz bz hkl.out hbk hp r2 hr2).mono ?_; rintro e w4 ⟨rfl, hb4⟩; have G4 : Below w.heap.size w w4 := nextB G3 (Nat.le_refl _) hb4; have T4 := (bcells (hb4.mono (show w.heap.size + 2 ≤ _ by exact Z3))).1; have F4 := (bcells (hb4.mono (show w.heap.size + 2 ≤ _ by exact Z3))).2; have Z4 : w.heap.size + 2 ≤ w4.heap.size := Nat.le_trans Z3 hb4.size)
      | (go_at_call 23; refine (freshE_n _ _ _ ((buf.drop r1).take (r2 - r1)) l3.out _ ((HA.out _).go G4 (Nat.le_refl _) (Nat.le_refl _)) (fun h => absurd h HN.out) (by omega)).mono ?_; rintro e w5 ⟨v5, rfl, o5, hb5⟩; obtain ⟨A5, C5, rfl, -⟩ := own_row o5; have G5 : Below w.heap.size w w5 := nextB G4 (Nat.le_refl _) hb5; have T5 := (bcells (hb5.mono (show w.heap.size + 2 ≤ _ by exact Z4))).1; have F5 := (bcells (hb5.mono (show w.heap.size + 2 ≤ _ by exact Z4))).2; have Z5 : w.heap.size + 2 ≤ w5.heap.size := Nat.le_trans Z4 hb5.size))
  go_wp2
  have hb45 : Below w3.heap.size w3 w5 := nextB hb4 (Nat.le_refl _) hb5
  have hb35 : Below w2.heap.size w2 w5 := nextB hb3 (Nat.le_refl _) hb45
  have hb25 : Below w1.heap.size w1 w5 := nextB hb2 (Nat.le_refl _) hb35
  have p1 := own_next o1 hb25
  have p2 := own_next o2 hb35
  have s12 := hb2.size
  have s23 := hb3.size
  have s34 := hb4.size
  simp only [World.size_drew, World.size_alloc] at p1
  refine bodyPost_ret (v := .agg #[.bool false, .slice none 0 0, .slice A1 (c - a) C1, .slice A2 (b - a) C2, .slice A5 (r2 - r1) C5]) (by simp [results, Try.results66, go_sem, T1, T2, T3, T4, T5]) rfl ⟨A1, C1, A2, C2, A5, C5, rfl, ⟨World.ownsRow_nil _ _ _ _, own_len l1.out ?_, own_len l2.out ?_, own_len l3.out ?_, by simp, by show ((keys.drop a).take (c - a)).length * 8 ≤ _; rw [l1.out]; omega, by show ((kids.drop a).take (b - a)).length * 8 ≤ _; rw [l2.out]; omega, by show ((buf.drop r1).take (r2 - r1)).length * 56 ≤ _; rw [l3.out]; omega⟩, ?_, ?_⟩
  · exact own_of_block (own_mono p1 (by omega)) fun k hk => set5_block w5 (w.heap.size + 1) 0 _ _ _ _ _ (by have := (p1.lt k hk).1; omega)
  · exact own_of_block (own_mono p2 (by omega)) fun k hk => set5_block w5 (w.heap.size + 1) 0 _ _ _ _ _ (by have := (p2.lt k hk).1; omega)
  · exact own_of_block (own_mono o5 (by omega)) fun k hk => set5_block w5 (w.heap.size + 1) 0 _ _ _ _ _ (by have := (o5.lt k hk).1; omega)
  · refine blocks_nodup (s1 := w.heap.size + 2) (s2 := w1.heap.size) (s3 := w2.heap.size) (fun x hx => by cases hx) (fun x hx => ?_) (fun x hx => own_lt o2 x hx) (fun x hx => ?_) Z1 s12
    · have := own_lt o1 x hx
      simp only [World.size_drew, World.size_alloc] at this
      exact this
    · have := own_lt o5 x hx; omega
  · exact set5_below G5 (by omega) 0 _ _ _ _ _

set_option maxRecDepth 20000 in
set_option maxHeartbeats 4000000 in
theorem part_inner_none (eA : Option Addr) (eC : Nat) (ents : List En) (kb ko : Nat) (kC : Nat) (keys : List Int) (db dO : Nat) (dC : Nat) (kids : List Int) (a b c : Nat) (w : World)
    (hk : RowAt w.heap.size w (some ⟨kb, ko, none⟩) (ints keys)) (hd : RowAt w.heap.size w (some ⟨db, dO, none⟩) (ints kids))
    (hkc : keys.length ≤ kC) (hdc : kids.length ≤ dC) (kz : keys.length * 8 ≤ 140737488351232) (dz : kids.length * 8 ≤ 140737488351232)
    (hkl : Hid (keys.length + 1 = kids.length)) (hbc : Hid (b = c + 1)) (hac : a < c) (hck : c ≤ keys.length) (hbk : b ≤ kids.length)
    (hr1 : Hid (waitA ⟨false, ents, keys, kids, []⟩ a = 0)) (hr2 : Hid (waitA ⟨false, ents, keys, kids, []⟩ b = 0)) :
    Calls Try.prog 66 #[.agg #[.bool false, .slice eA ents.length eC, .slice (some ⟨kb, ko, none⟩) keys.length kC, .slice (some ⟨db, dO, none⟩) kids.length dC, .slice none 0 0], .int .i64 (a : Int), .int .i64 (b : Int)] w
      fun e w' => ∃ A1 C1 A2 C2 A3 C3, e = .returned (.agg #[.bool false, .slice none 0 0, .slice A1 (c - a) C1, .slice A2 (b - a) C2, .slice A3 0 C3]) ∧
        PN.own w.heap.size w' ⟨false, none, 0, [], A1, C1, (keys.drop a).take (c - a), A2, C2, (kids.drop a).take (b - a), A3, C3, []⟩ ∧ (PN.mk false none 0 [] A1 C1 ((keys.drop a).take (c - a)) A2 C2 ((kids.drop a).take (b - a)) A3 C3 []).blocks.Nodup ∧ Below w.heap.size w w' := by
  have hab : a ≤ b := by have := hbc.out; omega
  have wb : IntKind.i64.wrap ((b : Int) - 1) = (c : Int) := by have := hbc.out; rw [IntKind.wrap_i64]; omega
  have i1 : (a : Int) ≤ (c : Int) := by omega
  have i2 : (c : Int) ≤ (kC : Int) := by omega
  have i3 : (a : Int) ≤ (b : Int) := by omega
  have i4 : (b : Int) ≤ (dC : Int) := by omega
  have i7 : (0 : Int) ≤ (a : Int) := by omega
  have n1 : ¬ kC = a := by omega
  have n2 : ¬ dC = a := by have := hbc.out; omega
  have l1 : Hid (((keys.drop a).take (c - a)).length = c - a) := by show _ = _; simp; omega
  have l2 : Hid (((kids.drop a).take (b - a)).length = b - a) := by show _ = _; simp; omega
  have hda : b - a ≤ kids.length := by omega
  have hca : c - a ≤ keys.length := by omega
  go_enter Try.func66, Try.ntmps66
  go_wp2_with fail
  go_region_held3 (fun w' => w'.cell? ⟨w.heap.size, 0, none⟩ = some (.bool false) ∧ w'.cell? ⟨w.heap.size, 1, none⟩ = some (.slice eA ents.length eC) ∧ w'.cell? ⟨w.heap.size, 2, none⟩ = some (.slice (some ⟨kb, ko, none⟩) keys.length kC) ∧ w'.cell? ⟨w.heap.size, 3, none⟩ = some (.slice (some ⟨db, dO, none⟩) kids.length dC) ∧ w'.cell? ⟨w.heap.size, 4, none⟩ = some (.slice none 0 0)) (go_keep)
    (first
      | (go_at_call_of 24 (kC - a); refine (freshI_n _ _ _ ((keys.drop a).take (c - a)) l1.out _ (hk.cutI.go ((two_below _ _ _).drew) (Nat.le_refl _) (Nat.le_refl _)) (fun h => by cases h) (by omega)).mono ?_; rintro e w1 ⟨v1, rfl, o1, hb1⟩; obtain ⟨A1, C1, rfl, -⟩ := own_row o1; have G1 : Below w.heap.size w w1 := nextB ((two_below _ _ _).drew) (Nat.le_refl _) hb1; have T1 := (bcells (hb1.mono (show w.heap.size + 2 ≤ _ by simp))).1; have F1 := (bcells (hb1.mono (show w.heap.size + 2 ≤ _ by simp))).2; have Z1 : w.heap.size + 2 ≤ w1.heap.size := Nat.le_trans (by simp) hb1.size)
      | (go_at_call_of 24 (dC - a); refine (freshI_n _ _ _ ((kids.drop a).take (b - a)) l2.out _ (hd.cutI.go G1 (Nat.le_refl _) (Nat.le_refl _)) (fun h => by cases h) (by omega)).mono ?_; rintro e w2 ⟨v2, rfl, o2, hb2⟩; obtain ⟨A2, C2, rfl, -⟩ := own_row o2; have G2 : Below w.heap.size w w2 := nextB G1 (Nat.le_refl _) hb2; have T2 := (bcells (hb2.mono (show w.heap.size + 2 ≤ _ by exact Z1))).1; have F2 := (bcells (hb2.mono (show w.heap.size + 2 ≤ _ by exact Z1))).2; have Z2 : w.heap.size + 2 ≤ w2.heap.size := Nat.le_trans Z1 hb2.size)
      | (have k0 : w2.heap.size ≤ w2.heap.size := Nat.le_refl _; go_at_call_of 86 (Value.int IntKind.i64 (a : Int)); refine (wait_any false eA eC ents _ kC keys _ dC kids none 0 [] a _ (hk.go G2 (Nat.le_refl _) (Nat.le_refl _)) (.inl rfl) kz (by simp) hkl.out (by omega) List.Pairwise.nil 0 hr1).mono ?_; rintro e w3 ⟨rfl, hb3⟩; have G3 : Below w.heap.size w w3 := nextB G2 (Nat.le_refl _) hb3; have T3 := (bcells (hb3.mono (show w.heap.size + 2 ≤ _ by exact Z2))).1; have F3 := (bcells (hb3.mono (show w.heap.size + 2 ≤ _ by exact Z2))).2; have Z3 : w.heap.size + 2 ≤ w3.heap.size := Nat.le_trans Z2 hb3.size)
      | (have k0 : w3.heap.size ≤ w3.heap.size := Nat.le_refl _; go_at_call_of 86 (Value.int IntKind.i64 (b : Int)); refine (wait_any false eA eC ents _ kC keys _ dC kids none 0 [] b _ (hk.go G3 (Nat.le_refl _) (Nat.le_refl _)) (.inl rfl) kz (by simp) hkl.out hbk List.Pairwise.nil 0 hr2).mono ?_; rintro e w4 ⟨rfl, hb4⟩; have G4 : Below w.heap.size w w4 := nextB G3 (Nat.le_refl _) hb4; have T4 := (bcells (hb4.mono (show w.heap.size + 2 ≤ _ by exact Z3))).1; have F4 := (bcells (hb4.mono (show w.heap.size + 2 ≤ _ by exact Z3))).2; have Z4 : w.heap.size + 2 ≤ w4.heap.size := Nat.le_trans Z3 hb4.size)
      | (go_at_call 23; refine (freshE_n none 0 0 [] rfl _ (.inl rfl) (fun _ => rfl) (by omega)).mono ?_; rintro e w5 ⟨v5, rfl, o5, hb5⟩; obtain ⟨A5, C5, rfl, -⟩ := own_row o5; have G5 : Below w.heap.size w w5 := nextB G4 (Nat.le_refl _) hb5; have T5 := (bcells (hb5.mono (show w.heap.size + 2 ≤ _ by exact Z4))).1; have F5 := (bcells (hb5.mono (show w.heap.size + 2 ≤ _ by exact Z4))).2; have Z5 : w.heap.size + 2 ≤ w5.heap.size := Nat.le_trans Z4 hb5.size))
  go_wp2
  have hb45 : Below w3.heap.size w3 w5 := nextB hb4 (Nat.le_refl _) hb5
  have hb35 : Below w2.heap.size w2 w5 := nextB hb3 (Nat.le_refl _) hb45
  have hb25 : Below w1.heap.size w1 w5 := nextB hb2 (Nat.le_refl _) hb35
  have p1 := own_next o1 hb25
  have p2 := own_next o2 hb35
  have s12 := hb2.size
  have s23 := hb3.size
  have s34 := hb4.size
  simp only [World.size_drew, World.size_alloc] at p1
  refine bodyPost_ret (v := .agg #[.bool false, .slice none 0 0, .slice A1 (c - a) C1, .slice A2 (b - a) C2, .slice A5 0 C5]) (by simp [results, Try.results66, go_sem, T1, T2, T3, T4, T5]) rfl ⟨A1, C1, A2, C2, A5, C5, rfl, ⟨World.ownsRow_nil _ _ _ _, own_len l1.out ?_, own_len l2.out ?_, ?_, by simp, by show ((keys.drop a).take (c - a)).length * 8 ≤ _; rw [l1.out]; omega, by show ((kids.drop a).take (b - a)).length * 8 ≤ _; rw [l2.out]; omega, by simp⟩, ?_, ?_⟩
  · exact own_of_block (own_mono p1 (by omega)) fun k hk => set5_block w5 (w.heap.size + 1) 0 _ _ _ _ _ (by have := (p1.lt k hk).1; omega)
  · exact own_of_block (own_mono p2 (by omega)) fun k hk => set5_block w5 (w.heap.size + 1) 0 _ _ _ _ _ (by have := (p2.lt k hk).1; omega)
  · exact own_of_block (own_mono o5 (by omega)) fun k hk => set5_block w5 (w.heap.size + 1) 0 _ _ _ _ _ (by have := (o5.lt k hk).1; omega)
  · refine blocks_nodup (s1 := w.heap.size + 2) (s2 := w1.heap.size) (s3 := w2.heap.size) (fun x hx => by cases hx) (fun x hx => ?_) (fun x hx => own_lt o2 x hx) (fun x hx => ?_) Z1 s12
    · have := own_lt o1 x hx
      simp only [World.size_drew, World.size_alloc] at this
      exact this
    · have := own_lt o5 x hx; omega
  · exact set5_below G5 (by omega) 0 _ _ _ _ _

end Go.Proofs.Ytlojfgdpmaigmac

/- A tree in memory of one's own that grows: its nodes in a row that may move, each list in a block of its own. -/
namespace Go.Proofs.Ytlojfgdpmaigmac
open Go.RowKit Plain

def feet (g : Nat) (qs : List PN) : List Nat := g :: qs.flatMap PN.blocks

structure NT (base : Nat) (w : World) (g C : Nat) (qs : List PN) : Prop where
  own : w.ownsRow base 62 5 (.slice (some ⟨g, 0, none⟩) qs.length C) qs.length (flatN qs)
  each : ∀ q ∈ qs, q.own base w
  apart : (feet g qs).Nodup
  z : qs.length * 104 ≤ 140737488351232

/-- .. and the variable that holds it. -/
structure TB (base : Nat) (w : World) (tb g C : Nat) (qs : List PN) (root : Int) : Prop where
  nt : NT base w g C qs
  box : RowL w tb 26 [.slice (some ⟨g, 0, none⟩) qs.length C, .int .i64 root]
  ne : tb ∉ feet g qs
  hb : base ≤ tb

section
variable {base g C : Nat} {w w' : World} {qs : List PN}

theorem NT.glt (h : NT base w g C qs) : base ≤ g ∧ g < w.heap.size := h.own.lt g rfl

theorem NT.lt (h : NT base w g C qs) : ∀ k ∈ feet g qs, base ≤ k ∧ k < w.heap.size := by
  intro k hk
  rcases List.mem_cons.1 hk with rfl | hk
  · exact h.glt
  · obtain ⟨q, hq, hk⟩ := List.mem_flatMap.1 hk
    exact (h.each q hq).lt k hk

theorem NT.of_blocks (h : NT base w g C qs) (hk : ∀ k ∈ feet g qs, w'.heap[k]? = w.heap[k]?) : NT base w' g C qs :=
  ⟨own_of_block h.own fun k hb => hk k (by simp [Value.ownBlock] at hb; subst hb; exact List.mem_cons_self), fun q hq => (h.each q hq).of_blocks fun k hb => hk k (List.mem_cons_of_mem _ (List.mem_flatMap.2 ⟨q, hq, hb⟩)), h.apart, h.z⟩

theorem NT.below {B : Nat} (h : NT base w g C qs) (hb : Below B w w') (hB : w.heap.size ≤ B) : NT base w' g C qs :=
  h.of_blocks fun k hk => hb.block k (Nat.lt_of_lt_of_le (h.lt k hk).2 hB)

theorem NT.cell (h : NT base w g C qs) {j : Nat} (hj : j < qs.length * 5) : w.cell? ⟨g, j, none⟩ = (flatN qs)[j]? := h.own.cellAt j hj

theorem NT.node (h : NT base w g C qs) {k : Nat} (hk : k < qs.length) : PnAt w g (k * 5) qs[k] := by
  have c : ∀ j, j < 5 → ∀ u, (qs[k]).vals[j]? = some u → w.cell? ⟨g, k * 5 + j, none⟩ = some u := fun j hj u hu => by
    rw [h.cell (by omega), flatN_get qs k j hk hj]; exact hu
  exact ⟨c 0 (by decide) _ rfl, c 1 (by decide) _ rfl, c 2 (by decide) _ rfl, c 3 (by decide) _ rfl, c 4 (by decide) _ rfl⟩

theorem NT.free (h : NT base w g C qs) (j : Nat) : w.frozen? ⟨g, j, none⟩ = false := h.own.frozenAt j

theorem NT.nodes (h : NT base w g C qs) : NodesAt w.heap.size w (some ⟨g, 0, none⟩) qs :=
  ⟨(own_ok h.own).1, fun _ hk => (h.each _ (List.getElem_mem hk)).ok, h.z⟩
end

theorem set_nodeAt (qs : List PN) (k : Nat) (hk : k < qs.length) (p : PN) :
    (((((flatN qs).set (k * 5) (.bool p.leaf)).set (k * 5 + 1) (.slice p.eA p.ents.length p.eC)).set (k * 5 + 2) (.slice p.kA p.keys.length p.kC)).set (k * 5 + 3) (.slice p.dA p.kids.length p.dC)).set (k * 5 + 4) (.slice p.bA p.buf.length p.bC) = flatN (qs.set k p) := by
  obtain ⟨e1, e2⟩ := set_split qs k p hk
  rw [e2]
  conv => lhs; rw [e1]
  have h := set_node (qs.take k) (qs.drop (k + 1)) qs[k] p
  rw [List.length_take, Nat.min_eq_left (Nat.le_of_lt hk)] at h
  exact h

theorem own_set {w : World} {base : Nat} {e : TypeId} {size n g C : Nat} {vs : List Value} (h : w.ownsRow base e size (.slice (some ⟨g, 0, none⟩) n C) n vs) (j : Nat) (v : Value) :
    (w.setCell ⟨g, j, none⟩ v).ownsRow base e size (.slice (some ⟨g, 0, none⟩) n C) n (vs.set j v) := by
  refine ⟨by simp [h.1], .inr ?_⟩
  rcases h.2 with ⟨hv, _⟩ | ⟨g', cap, cur, hv, hb, hg, hl, hm, hs, ht⟩
  · cases hv
  · cases hv
    refine ⟨g, C, cur.setIfInBounds j v, rfl, hb, ?_, hl, hm, by simp [hs], ?_⟩
    · simp [World.setCell, Array.getElem?_modify, hg]
    · rw [Array.toList_setIfInBounds, List.take_set, ht]

theorem feet_set {g k : Nat} {qs : List PN} {p : PN} (hk : k < qs.length) (ha : (feet g qs).Nodup) (hn : p.blocks.Nodup) (hd : ∀ b ∈ p.blocks, b ∉ feet g qs) : (feet g (qs.set k p)).Nodup ∧ ∀ b ∈ feet g (qs.set k p), b ∈ feet g qs ∨ b ∈ p.blocks := by
  obtain ⟨A, x, B, hq, hset⟩ : ∃ A x B, qs = A ++ x :: B ∧ qs.set k p = A ++ p :: B := ⟨_, _, _, set_split qs k p hk⟩
  rw [hset]
  clear hset hk
  subst hq
  unfold feet at *
  simp only [List.flatMap_append, List.flatMap_cons, List.nodup_cons, List.nodup_append, List.mem_append, List.mem_cons, not_or] at *
  obtain ⟨⟨a1, a2, a3⟩, a4, ⟨a5, a6, a7⟩, a8⟩ := ha
  refine ⟨⟨⟨a1, fun h => (hd g h).1 rfl, a3⟩, a4, ⟨hn, a6, fun b hb c hc e => (hd b hb).2.2.2 (e ▸ hc)⟩, fun b hb c hc e => ?_⟩, fun b hb => ?_⟩
  · rcases hc with hc | hc
    · exact (hd c hc).2.1 (e ▸ hb)
    · exact a8 b hb c (.inr hc) e
  · rcases hb with hb | hb | hb | hb
    · exact .inl (.inl hb)
    · exact .inl (.inr (.inl hb))
    · exact .inr hb
    · exact .inl (.inr (.inr (.inr hb)))

theorem NT.setNode {base g C k : Nat} {w : World} {qs : List PN} {p : PN} (h : NT base w g C qs) (hk : k < qs.length) (hp : p.own base w) (hn : p.blocks.Nodup) (hd : ∀ b ∈ p.blocks, b ∉ feet g qs) :
    NT base (((((w.setCell ⟨g, k * 5, none⟩ (.bool p.leaf)).setCell ⟨g, k * 5 + 1, none⟩ (.slice p.eA p.ents.length p.eC)).setCell ⟨g, k * 5 + 2, none⟩ (.slice p.kA p.keys.length p.kC)).setCell ⟨g, k * 5 + 3, none⟩ (.slice p.dA p.kids.length p.dC)).setCell ⟨g, k * 5 + 4, none⟩ (.slice p.bA p.buf.length p.bC)) g C (qs.set k p) := by
  have hg : g ∉ p.blocks := fun e => hd g e List.mem_cons_self
  have hs : ∀ b, b ≠ g → (((((w.setCell ⟨g, k * 5, none⟩ (.bool p.leaf)).setCell ⟨g, k * 5 + 1, none⟩ (.slice p.eA p.ents.length p.eC)).setCell ⟨g, k * 5 + 2, none⟩ (.slice p.kA p.keys.length p.kC)).setCell ⟨g, k * 5 + 3, none⟩ (.slice p.dA p.kids.length p.dC)).setCell ⟨g, k * 5 + 4, none⟩ (.slice p.bA p.buf.length p.bC)).heap[b]? = w.heap[b]? := fun b hb => set5_block w g (k * 5) _ _ _ _ _ hb
  refine ⟨?_, fun q hq => ?_, (feet_set hk h.apart hn hd).1, by simpa using h.z⟩
  · rw [← set_nodeAt qs k hk p, List.length_set]
    exact own_set (own_set (own_set (own_set (own_set h.own _ _) _ _) _ _) _ _) _ _
  · rcases List.mem_or_eq_of_mem_set hq with hq | rfl
    · refine (h.each q hq).of_blocks fun b hb => hs b ?_
      rintro rfl
      have := h.apart
      rw [feet, List.nodup_cons] at this
      exact this.1 (List.mem_flatMap.2 ⟨q, hq, hb⟩)
    · exact hp.of_blocks fun b hb => hs b (fun e => hg (e ▸ hb))

theorem flatN_one (ps : List PN) : ∀ u ∈ flatN ps, u.oneCell' = true := by
  induction ps with
  | nil => simp [flatN]
  | cons x r ih =>
    intro u hu
    simp only [flatN, PN.vals, List.cons_append, List.nil_append, List.mem_cons] at hu
    rcases hu with h | h | h | h | h | h
    all_goals first | (subst h; rfl) | exact ih u h

theorem newsN (W : World) (b : Nat) (t : TypeId) (p : PN) (h : RowL W b t p.vals) : ∀ j u, (flatN [p])[j]? = some u → W.cell? (Addr.add ⟨b, 0, none⟩ j) = some u := by
  intro j u hu
  rw [WideShapes.add_plain, Nat.zero_add, h.cell]
  simpa [flatN] using hu

theorem feet_append {g' : Nat} {g : Nat} {qs : List PN} {q : PN} (ha : (feet g qs).Nodup) (hn : q.blocks.Nodup) (hd : ∀ b ∈ q.blocks, b ∉ feet g qs) (hg : g' = g ∨ (g' ∉ feet g qs ∧ g' ∉ q.blocks)) : (feet g' (qs ++ [q])).Nodup := by
  unfold feet at *
  simp only [List.flatMap_append, List.flatMap_cons, List.flatMap_nil, List.append_nil, List.nodup_cons, List.nodup_append, List.mem_append, List.mem_cons, not_or] at *
  refine ⟨⟨?_, ?_⟩, ha.2, hn, fun b hb c hc e => (hd c hc).2 (e ▸ hb)⟩
  · rcases hg with rfl | hg
    · exact ha.1
    · exact hg.1.2
  · rcases hg with rfl | hg
    · intro h; exact (hd g' h).1 rfl
    · exact hg.2

end Go.Proofs.Ytlojfgdpmaigmac

/- slices.Insert of one number, in a list of one's own. -/
namespace Go.Proofs.Ytlojfgdpmaigmac
open Go.RowKit Plain Go.Shelf

def ovr : List Value → Nat → List Value → List Value
  | l, _, [] => l
  | l, o, v :: r => ovr (l.set o v) (o + 1) r

theorem ovr_length : ∀ (vs : List Value) (l : List Value) (o : Nat), (ovr l o vs).length = l.length
  | [], _, _ => rfl
  | v :: r, l, o => by rw [ovr, ovr_length r]; simp

theorem ovr_get : ∀ (vs : List Value) (l : List Value) (o j : Nat), o + vs.length ≤ l.length → (ovr l o vs)[j]? = if o ≤ j ∧ j < o + vs.length then vs[j - o]? else l[j]?
  | [], l, o, j, _ => by simp [ovr]; omega
  | v :: r, l, o, j, h => by
    simp only [List.length_cons] at h ⊢
    rw [ovr, ovr_get r _ _ _ (by simp; omega)]
    by_cases h1 : j = o
    · subst h1
      rw [if_neg (by omega), if_pos (by omega), List.getElem?_set_self (by omega), Nat.sub_self]
      rfl
    · by_cases h2 : o + 1 ≤ j ∧ j < o + 1 + r.length
      · rw [if_pos h2, if_pos (by omega), show j - o = (j - (o + 1)) + 1 by omega, List.getElem?_cons_succ]
      · rw [if_neg h2, if_neg (by omega), List.getElem?_set_ne (by omega)]

theorem take_get {cur cs : List Value} (ht : cur.take cs.length = cs) {j : Nat} (hj : j < cs.length) : cur[j]? = cs[j]? := by
  have h : (cur.take cs.length)[j]? = cs[j]? := by rw [ht]
  rwa [List.getElem?_take, if_pos hj] at h

theorem ins_get (cs : List Value) (v : Value) (i j : Nat) (hi : i ≤ cs.length) : (cs.take i ++ v :: cs.drop i)[j]? = if j < i then cs[j]? else if j = i then some v else cs[j - 1]? := by
  have hl : (cs.take i).length = i := by rw [List.length_take]; omega
  by_cases h1 : j < i
  · rw [List.getElem?_append_left (by omega), List.getElem?_take, if_pos h1, if_pos h1]
  · rw [List.getElem?_append_right (by omega), hl, if_neg h1]
    by_cases h2 : j = i
    · rw [if_pos h2, h2, Nat.sub_self]; rfl
    · rw [if_neg h2, show j - i = (j - 1 - i) + 1 by omega, List.getElem?_cons_succ, List.getElem?_drop, show i + (j - 1 - i) = j - 1 by omega]

/-- In place: the last ones move, then the new one comes. -/
theorem ovr_shift {cur cs : List Value} {i : Nat} (v : Value) (ht : cur.take cs.length = cs) (hi : i ≤ cs.length) (hr : cs.length + 1 ≤ cur.length) : (ovr (ovr cur (i + 1) (cs.drop i)) i [v]).take (cs.length + 1) = cs.take i ++ v :: cs.drop i := by
  apply List.ext_getElem?
  intro j
  rw [ins_get cs v i j hi, List.getElem?_take]
  by_cases hj : j < cs.length + 1
  · rw [if_pos hj, ovr_get _ _ _ _ (by rw [ovr_length]; simp; omega)]
    by_cases h1 : j = i
    · subst h1
      rw [if_pos (by simp), if_neg (by omega), if_pos rfl]
      simp
    · rw [if_neg (by simp; omega), ovr_get _ _ _ _ (by simp; omega)]
      by_cases h2 : j < i
      · rw [if_neg (by omega), if_pos h2, take_get ht (by omega)]
      · rw [if_pos (by simp; omega), if_neg h2, if_neg h1, List.getElem?_drop, show i + (j - (i + 1)) = j - 1 by omega]
  · rw [if_neg hj, if_neg (by omega), if_neg (by omega), List.getElem?_eq_none (by omega)]

/-- In new memory: what is ahead stands there, the rest comes. -/
theorem ovr_fill {cur cs : List Value} {i : Nat} (v : Value) (ht : cur.take i = cs.take i) (hi : i ≤ cs.length) (hr : cs.length + 1 ≤ cur.length) : (ovr (ovr cur i [v]) (i + 1) (cs.drop i)).take (cs.length + 1) = cs.take i ++ v :: cs.drop i := by
  apply List.ext_getElem?
  intro j
  rw [ins_get cs v i j hi, List.getElem?_take]
  by_cases hj : j < cs.length + 1
  · rw [if_pos hj, ovr_get _ _ _ _ (by rw [ovr_length]; simp; omega)]
    by_cases h1 : i + 1 ≤ j
    · rw [if_pos (by simp; omega), if_neg (by omega), if_neg (by omega), List.getElem?_drop, show i + (j - (i + 1)) = j - 1 by omega]
    · rw [if_neg (by omega), ovr_get _ _ _ _ (by simp; omega)]
      by_cases h2 : j < i
      · rw [if_neg (by omega), if_pos h2]
        have h : (cur.take i)[j]? = (cs.take i)[j]? := by rw [ht]
        rwa [List.getElem?_take, List.getElem?_take, if_pos h2, if_pos h2] at h
      · obtain rfl : j = i := by omega
        rw [if_pos (by simp), if_neg (by omega), if_pos rfl]
        simp
  · rw [if_neg hj, if_neg (by omega), if_neg (by omega), List.getElem?_eq_none (by omega)]

theorem setCells_at (g : Nat) (e : TypeId) : ∀ (vs : List Value) (o : Nat) (cur : Array Value) (w : World), w.heap[g]? = some (.cells cur e (0, 0)) → (w.setCells g o vs).heap[g]? = some (.cells (ovr cur.toList o vs).toArray e (0, 0))
  | [], o, cur, w, h => by simpa [World.setCells, ovr] using h
  | v :: r, o, cur, w, h => by
    rw [World.setCells]
    have h1 : (w.setCell ⟨g, o, none⟩ v).heap[g]? = some (.cells (cur.setIfInBounds o v) e (0, 0)) := by simp [World.setCell, Array.getElem?_modify, h]
    have := setCells_at g e r (o + 1) _ _ h1
    rw [Array.toList_setIfInBounds] at this
    exact this

theorem setCells_kept (g : Nat) : ∀ (vs : List Value) (o : Nat) (w : World), Kept [g] w (w.setCells g o vs)
  | [], _, w => Kept.refl _ _
  | v :: r, o, w => by
    rw [World.setCells]
    exact ((Kept.refl [g] w).set (.inl (by simp)) v).trans (setCells_kept g r (o + 1) _)

def obk (A : Option Addr) : List Nat := (A.map Addr.block).toList

/-- What is left behind: a list of one's own, in its old block or in a new one; nothing else has turned. -/
structure Moved (base : Nat) (t : TypeId) (size n : Nat) (A A' : Option Addr) (C' : Nat) (vs : List Value) (w w' : World) : Prop where
  own : w'.ownsRow base t size (.slice A' n C') n vs
  kept : Kept (obk A) w w'
  lies : A'.map Addr.block = A.map Addr.block ∨ ∃ k, A'.map Addr.block = some k ∧ w.heap.size ≤ k

theorem Kept.mono {ex ex' : List Nat} {w w' : World} (h : Kept ex w w') (hs : ∀ k ∈ ex, k ∈ ex') : Kept ex' w w' := ⟨h.os, h.tape, h.output, h.size, fun k hk hx => h.block k hk (fun e => hx (hs k e))⟩

theorem ints_take (zs : List Int) (i : Nat) : (ints zs).take i = ints (zs.take i) := by simp [ints]
theorem ints_drop (zs : List Int) (i : Nat) : (ints zs).drop i = ints (zs.drop i) := by simp [ints]
theorem ints_ins (zs : List Int) (i : Nat) (z : Int) : ints (zs.take i ++ z :: zs.drop i) = (ints zs).take i ++ .int .i64 z :: (ints zs).drop i := by simp [ints]
theorem ints_len (zs : List Int) : (ints zs).length = zs.length := by simp [ints]

theorem moved_new {base n C : Nat} {t : TypeId} {A : Option Addr} {vs : List Value} {w w' : World} {cur : Array Value} (hb : base ≤ w.heap.size) (hg : w'.heap[w.heap.size]? = some (.cells cur t (0, 0))) (hn : n ≤ C) (hm : C ≤ maxLen) (hs : cur.size = C) (hl : vs.length = n) (ht : cur.toList.take n = vs)
    (hk : Kept (obk A) w w') : Moved base t 1 n A (some ⟨w.heap.size, 0, none⟩) C vs w w' :=
  ⟨⟨by omega, .inr ⟨w.heap.size, C, cur, rfl, hb, hg, hn, hm, by omega, by rw [Nat.mul_one]; exact ht⟩⟩, hk, .inr ⟨w.heap.size, rfl, Nat.le_refl _⟩⟩

theorem moved_old {base n C g : Nat} {t : TypeId} {vs : List Value} {w w' : World} {cur : Array Value} (hb : base ≤ g) (hg : w'.heap[g]? = some (.cells cur t (0, 0))) (hn : n ≤ C) (hm : C ≤ maxLen) (hs : cur.size = C) (hl : vs.length = n) (ht : cur.toList.take n = vs)
    (hk : Kept [g] w w') : Moved base t 1 n (some ⟨g, 0, none⟩) (some ⟨g, 0, none⟩) C vs w w' :=
  ⟨⟨by omega, .inr ⟨g, C, cur, rfl, hb, hg, hn, hm, by omega, by rw [Nat.mul_one]; exact ht⟩⟩, hk, .inl rfl⟩

theorem oneI (z : Int) : ∀ v ∈ ([.int .i64 z] : List Value), v.oneCell' = true := by
  intro v hv
  obtain rfl : v = .int .i64 z := by simpa using hv
  rfl

theorem insertI_any (base : Nat) (A : Option Addr) (C vb vc : Nat) (zs : List Int) (i : Nat) (z : Int) (w : World) (ho : w.ownsRow base 3 1 (.slice A zs.length C) zs.length (ints zs)) (hi : i ≤ zs.length) (hv : RowL w vb 3 [.int .i64 z]) (hvb : vb ∉ obk A) (hB : base ≤ w.heap.size) (hz : (zs.length + 1) * 8 ≤ 140737488351232) :
    Calls Try.prog 64 #[.slice A zs.length C, .int .i64 (i : Int), .slice (some ⟨vb, 0, none⟩) 1 vc] w
      fun e w' => ∃ A' C', e = .returned (.slice A' (zs.length + 1) C') ∧ Moved base 3 1 (zs.length + 1) A A' C' (ints (zs.take i ++ z :: zs.drop i)) w w' := by
  have hvs : ∀ j v, ([.int .i64 z] : List Value)[j]? = some v → w.cell? ⟨vb, 0 + j, none⟩ = some v := fun j v hj => by rw [Nat.zero_add, hv.cell]; exact hj
  have hml : zs.length + 1 ≤ maxLen := by unfold maxLen; omega
  rcases ho.2 with ⟨hn, hn0⟩ | ⟨g, cap, cur, hn, hb, hg, hl, hm, hs, ht⟩
  · obtain rfl : zs = [] := List.eq_nil_of_length_eq_zero hn0
    cases hn
    obtain rfl : i = 0 := by simpa using hi
    have hcon := Any2.slices_Insert_int_end_grow Try.insertI none 0 0 vb 0 1 vc [] [.int .i64 z] w (by decide) (by decide) (by decide) (by decide) rfl rfl (fun _ => rfl) (fun a h => by cases h) hvs (oneI z)
    change Calls Try.prog 64 _ _ _ at hcon
    refine hcon.mono ?_
    rintro e w' ⟨rfl, rfl⟩
    refine ⟨_, _, rfl, moved_new (cur := _) hB (heap_alloc_new w.drew _) (grownCap_ge _ _ _ _) (grownCap_le_maxLen _ _ _ _ (by decide)) ?_ (by simp [ints]) ?_ ?_⟩
    · have h := grownCap_ge w (0 + 1) 0 3
      show (([] ++ [Value.int .i64 z] : List Value).toArray ++ Builtin.zeroCells (Value.int .i64 0).cells (grownCap w (0 + 1) 0 3 - (0 + 1))).size = grownCap w (0 + 1) 0 3
      generalize grownCap w (0 + 1) 0 3 = G at h ⊢
      rw [Array.size_append, size_zeroCells]
      simp [Value.cells]
      omega
    · simp [ints]
    · exact ((Kept.refl _ w).drew).alloc _
  · simp only [Value.slice.injEq] at hn
    obtain ⟨rfl, -, rfl⟩ := hn
    have hvg : vb ≠ g := fun e => hvb (by simp [obk, e])
    rw [Nat.mul_one] at hs ht
    have hil := ints_len zs
    have hcl : cur.toList.length = C := by simpa using hs
    have hcell : ∀ j, w.cell? ⟨g, j, none⟩ = cur.toList[j]? := fun j => by simp [World.cell?, hg]
    have hcs : ∀ j v, (ints zs)[j]? = some v → w.cell? ⟨g, 0 + j, none⟩ = some v := fun j v hj => by
      rw [Nat.zero_add, hcell, ← hj, ← ht, List.getElem?_take, if_pos]
      have := (List.getElem?_eq_some_iff.1 hj).1
      omega
    have hfz : ∀ j, w.frozen? ⟨g, j, none⟩ = false := fun j => by simp [World.frozen?, hg]
    by_cases hin : i < zs.length
    · by_cases hroom : zs.length + 1 ≤ C
      · have hcon := Any2.slices_Insert_int_shift Try.insertI g 0 zs.length C i vb 0 1 vc (ints zs) [.int .i64 z] w hin (by decide) hroom (by unfold maxLen at hm; omega) hvg hil rfl hcs (fun j hj => by rw [Nat.zero_add, hcell, List.getElem?_eq_getElem (by omega)]; rfl) (fun j _ => hfz _) hvs (ints_one zs) (oneI z) 3 3 1 C
          (by unfold World.shape?; rw [show w.heap[vb]? = _ from hv]; rfl) (by unfold World.shape?; rw [hg]; simp [hs]) (by omega) (hv.frozen _) (hv.frozen _)
        change Calls Try.prog 64 _ _ _ at hcon
        refine hcon.mono ?_
        rintro e w' ⟨rfl, rfl⟩
        have h1 := setCells_at g 3 ((ints zs).drop i) (0 + (i + 1)) cur w.drew hg
        have h2 := setCells_at g 3 [.int .i64 z] (0 + i) _ _ h1
        refine ⟨_, _, rfl, moved_old hb h2 hroom hm (by simp [ovr_length, hs]) (by simp [ints]; omega) ?_ ?_⟩
        · rw [ints_ins, Nat.zero_add, Nat.zero_add]
          have := ovr_shift (cur := cur.toList) (cs := ints zs) (i := i) (.int .i64 z) (by rw [hil]; exact ht) (by omega) (by omega)
          rw [hil] at this
          exact this
        · exact (((Kept.refl _ w).drew).trans (setCells_kept g _ _ _)).trans (setCells_kept g _ _ _)
      · have hcon := Any2.slices_Insert_int_grow Try.insertI g 0 zs.length C i vb 0 1 vc (ints zs) [.int .i64 z] w hin (by decide) hl (by omega) (by omega) hil rfl hcs hvs (ints_one zs) (oneI z)
        change Calls Try.prog 64 _ _ _ at hcon
        refine hcon.mono ?_
        rintro e w' ⟨rfl, rfl⟩
        have hG := grownCap_ge w (zs.length + 1) C 3
        have hGm := grownCap_le_maxLen w (zs.length + 1) C 3 hml
        obtain ⟨G, hGe⟩ : ∃ G, G = grownCap w (zs.length + 1) C 3 := ⟨_, rfl⟩
        rw [← hGe] at hG hGm
        show ∃ A' C', Ending.returned (.slice (some ⟨w.heap.size, 0, none⟩) (zs.length + 1) (grownCap w (zs.length + 1) C 3)) = _ ∧ Moved base 3 1 (zs.length + 1) _ A' C' _ w ((((w.alloc (.cells (((ints zs).take i).toArray ++ Builtin.zeroCells (Value.int .i64 0).cells (zs.length + 1 - i) ++ Builtin.zeroCells (Value.int .i64 0).cells (grownCap w (zs.length + 1) C 3 - (zs.length + 1))) 3)).drew.setCells w.heap.size i [.int .i64 z]).drew).setCells w.heap.size (i + 1) ((ints zs).drop i))
        rw [← hGe]
        obtain ⟨ROW, hROW⟩ : ∃ ROW : Array Value, ROW = ((ints zs).take i).toArray ++ Builtin.zeroCells (Value.int .i64 0).cells (zs.length + 1 - i) ++ Builtin.zeroCells (Value.int .i64 0).cells (G - (zs.length + 1)) := ⟨_, rfl⟩
        have hRs : ROW.size = G := by
          rw [hROW, Array.size_append, Array.size_append, size_zeroCells, size_zeroCells]
          simp [Value.cells, hil]
          omega
        have hRt : ROW.toList.take i = (ints zs).take i := by
          rw [hROW, Array.toList_append, Array.toList_append, List.append_assoc]
          exact List.take_left' (by rw [List.length_take]; omega)
        rw [← hROW]
        have h0 : (w.alloc (.cells ROW 3)).drew.heap[w.heap.size]? = some (.cells ROW 3 (0, 0)) := heap_alloc_new w _
        have h1 := setCells_at w.heap.size 3 [.int .i64 z] i ROW _ h0
        have h2 := setCells_at w.heap.size 3 ((ints zs).drop i) (i + 1) _ ((w.alloc (.cells ROW 3)).drew.setCells w.heap.size i [.int .i64 z]).drew h1
        refine ⟨_, _, rfl, moved_new hB h2 hG hGm (by simp [ovr_length, hRs]) (by simp [ints]; omega) ?_ ?_⟩
        · rw [ints_ins]
          have := ovr_fill (cur := ROW.toList) (cs := ints zs) (i := i) (.int .i64 z) hRt (by omega) (by simp [hRs, hil]; omega)
          rw [hil] at this
          exact this
        · have hk : Kept (obk (some ⟨g, 0, none⟩)) w ((((w.alloc (.cells ROW 3)).drew.setCells w.heap.size i [.int .i64 z]).drew).setCells w.heap.size (i + 1) ((ints zs).drop i)) := by
            have k1 := (((Kept.refl [w.heap.size] w).alloc (.cells ROW 3)).drew.trans (setCells_kept w.heap.size [.int .i64 z] i _)).drew.trans (setCells_kept w.heap.size ((ints zs).drop i) (i + 1) _)
            exact ⟨k1.os, k1.tape, k1.output, k1.size, fun k hk _ => k1.block k hk (by simp; omega)⟩
          exact hk
    · obtain rfl : i = zs.length := by omega
      by_cases hroom : zs.length + 1 ≤ C
      · have hcon := Any2.slices_Insert_int_end_room Try.insertI g 0 zs.length C vb 0 1 vc [.int .i64 z] w (by decide) hroom (by unfold maxLen at hm; omega) rfl (fun j hj => by rw [Nat.zero_add, hcell, List.getElem?_eq_getElem (by omega)]; rfl) (fun j _ => hfz _) hvs (oneI z)
        change Calls Try.prog 64 _ _ _ at hcon
        refine hcon.mono ?_
        rintro e w' ⟨rfl, rfl⟩
        have h2 := setCells_at g 3 [.int .i64 z] (0 + zs.length) cur w hg
        refine ⟨_, _, rfl, moved_old hb h2 hroom hm (by simp [ovr_length, hs]) (by simp [ints]) ?_ (setCells_kept g _ _ _)⟩
        rw [ints_ins, Nat.zero_add]
        have := ovr_shift (cur := cur.toList) (cs := ints zs) (i := zs.length) (.int .i64 z) (by rw [hil]; exact ht) (by omega) (by omega)
        rw [hil, List.drop_of_length_le (by omega)] at this
        rw [List.drop_of_length_le (by omega)]
        exact this
      · have hcon := Any2.slices_Insert_int_end_grow Try.insertI (some ⟨g, 0, none⟩) zs.length C vb 0 1 vc (ints zs) [.int .i64 z] w (by decide) hl (by omega) (by omega) hil rfl (fun h => by cases h) (fun a ha j v hj => by cases ha; rw [Addr.add_lit]; exact hcs j v hj) hvs (oneI z)
        change Calls Try.prog 64 _ _ _ at hcon
        refine hcon.mono ?_
        rintro e w' ⟨rfl, rfl⟩
        have hG := grownCap_ge w (zs.length + 1) C 3
        have hGm := grownCap_le_maxLen w (zs.length + 1) C 3 hml
        refine ⟨_, _, rfl, moved_new (cur := _) hB (heap_alloc_new w.drew _) hG hGm ?_ (by simp [ints]) ?_ (((Kept.refl _ w).drew).alloc _)⟩
        · show ((ints zs ++ [Value.int .i64 z]).toArray ++ Builtin.zeroCells (Value.int .i64 0).cells (grownCap w (zs.length + 1) C 3 - (zs.length + 1))).size = grownCap w (zs.length + 1) C 3
          rw [Array.size_append, size_zeroCells]
          simp [Value.cells, hil]
          omega
        · have e1 : (ints zs).take zs.length = ints zs := List.take_of_length_le (by omega)
          have e2 : (ints zs).drop zs.length = [] := List.drop_of_length_le (by omega)
          rw [ints_ins, e1, e2, Array.toList_append]
          exact List.take_left' (by simp [hil])

end Go.Proofs.Ytlojfgdpmaigmac

/- A node more. -/
namespace Go.Proofs.Ytlojfgdpmaigmac
open Go.RowKit Plain

theorem newsA (w : World) (q : PN) (o1 : Obj) (t : TypeId) : ∀ j u, (flatN [q])[j]? = some u → ((w.alloc o1).drew.alloc (.cells #[.bool q.leaf, .slice q.eA q.ents.length q.eC, .slice q.kA q.keys.length q.kC, .slice q.dA q.kids.length q.dC, .slice q.bA q.buf.length q.bC] t)).cell? (Addr.add ⟨w.heap.size + 1, 0, none⟩ j) = some u := by
  have h := rowL_alloc (w.alloc o1).drew q.vals t
  have e : (w.alloc o1).drew.heap.size = w.heap.size + 1 := by simp
  rw [e] at h
  exact newsN _ _ _ q h

theorem add_end {base tb g C g' C' : Nat} {qs : List PN} {root : Int} {q : PN} {w W w1 : World} (hT : TB base w tb g C qs root) (hq : q.own base w) (hqn : q.blocks.Nodup) (hqd : ∀ b ∈ q.blocks, b ∉ feet g qs) (hqt : tb ∉ q.blocks) (hz : (qs.length + 1) * 104 ≤ 140737488351232)
    (hW : Below w.heap.size w W) (hown : w1.ownsRow base 62 5 (.slice (some ⟨g', 0, none⟩) (qs.length + 1) C') (qs.length + 1) (flatN qs ++ flatN [q])) (hgrow : W.grownBy w1 (Value.slice (some ⟨g, 0, none⟩) qs.length C).ownBlock) (hat : (Value.slice (some ⟨g, 0, none⟩) qs.length C).ownBlock = some g' ∨ g' = w.heap.size + 2) :
    TB base (w1.setCell ⟨tb, 0, none⟩ (.slice (some ⟨g', 0, none⟩) (qs.length + 1) C')) tb g' C' (qs ++ [q]) root ∧ Kept [tb, g] w (w1.setCell ⟨tb, 0, none⟩ (.slice (some ⟨g', 0, none⟩) (qs.length + 1) C')) ∧ (g' = g ∨ w.heap.size ≤ g') := by
  have hat' : g' = g ∨ g' = w.heap.size + 2 := by
    rcases hat with h | h
    · left; simpa [Value.ownBlock] using h.symm
    · exact .inr h
  have htg : tb ≠ g := fun e => hT.ne (e ▸ List.mem_cons_self)
  have htl := hT.box.lt
  have hk1 : ∀ k, k < w.heap.size → k ≠ g → w1.heap[k]? = w.heap[k]? := fun k hk hne => (hgrow.block k (Nat.lt_of_lt_of_le hk hW.size) (by simpa [Value.ownBlock] using hne)).trans (hW.block k hk)
  have hk2 : ∀ k, k ≠ tb → (w1.setCell ⟨tb, 0, none⟩ (.slice (some ⟨g', 0, none⟩) (qs.length + 1) C')).heap[k]? = w1.heap[k]? := fun k hne => Below.heap_setCell _ _ _ _ hne
  have hg't : g' ≠ tb := by rcases hat' with rfl | rfl <;> omega
  have hfl := hT.nt.lt
  have hap := hT.nt.apart
  have hgn : g ∉ qs.flatMap PN.blocks := by rw [feet, List.nodup_cons] at hap; exact hap.1
  refine ⟨⟨⟨?_, fun x hx => ?_, ?_, by simpa using hz⟩, ?_, ?_, hT.hb⟩, ⟨hgrow.os.trans hW.os, hgrow.tape.trans hW.tape, hgrow.output.trans hW.output, ?_, fun k hk hx => ?_⟩, by omega⟩
  · rw [flatN_append, List.length_append]
    exact own_of_block hown fun k hk => hk2 k (by have : g' = k := (by simpa [Value.ownBlock] using hk); omega)
  · rcases List.mem_append.1 hx with hx | hx
    · refine (hT.nt.each x hx).of_blocks fun k hk => ?_
      have hm : k ∈ feet g qs := List.mem_cons_of_mem _ (List.mem_flatMap.2 ⟨x, hx, hk⟩)
      rw [hk2 k (fun e => hT.ne (e ▸ hm)), hk1 k (hfl k hm).2 (fun e => hgn (e ▸ List.mem_flatMap.2 ⟨x, hx, hk⟩))]
    · obtain rfl : x = q := by simpa using hx
      refine hq.of_blocks fun k hk => ?_
      rw [hk2 k (fun e => hqt (e ▸ hk)), hk1 k (hq.lt k hk).2 (fun e => hqd k hk (e ▸ List.mem_cons_self))]
  · refine feet_append hap hqn hqd ?_
    rcases hat' with h | h
    · exact .inl h
    · refine .inr ⟨fun e => ?_, fun e => ?_⟩
      · have := (hfl _ e).2; omega
      · have := (hq.lt _ e).2; omega
  · have hr : RowL w1 tb 26 [.slice (some ⟨g, 0, none⟩) qs.length C, .int .i64 root] := hT.box.of_block (hk1 tb htl htg)
    rw [List.length_append]
    exact hr.set 0 _
  · unfold feet
    simp only [List.flatMap_append, List.flatMap_cons, List.flatMap_nil, List.append_nil, List.mem_cons, List.mem_append, not_or]
    refine ⟨fun e => hg't e.symm, fun e => hT.ne (List.mem_cons_of_mem _ e), hqt⟩
  · have h1 := hgrow.size
    have h2 := hW.size
    simp
    omega
  · simp only [List.mem_cons, List.not_mem_nil, or_false, not_or] at hx
    rw [hk2 k hx.1, hk1 k hk hx.2]

set_option maxRecDepth 20000 in
set_option maxHeartbeats 4000000 in
theorem add_any (base tb g C : Nat) (qs : List PN) (root : Int) (q : PN) (w : World) (hT : TB base w tb g C qs root) (hq : q.own base w) (hqn : q.blocks.Nodup) (hqd : ∀ b ∈ q.blocks, b ∉ feet g qs) (hqt : tb ∉ q.blocks) (hz : (qs.length + 1) * 104 ≤ 140737488351232) (hB : base ≤ w.heap.size) :
    Calls Try.prog 49 #[.pointer (some ⟨tb, 0, none⟩), .agg #[.bool q.leaf, .slice q.eA q.ents.length q.eC, .slice q.kA q.keys.length q.kC, .slice q.dA q.kids.length q.dC, .slice q.bA q.buf.length q.bC]] w
      fun e w' => e = .returned (.int .i64 (qs.length : Int)) ∧ ∃ g' C', TB base w' tb g' C' (qs ++ [q]) root ∧ Kept [tb, g] w w' ∧ (g' = g ∨ w.heap.size ≤ g') := by
  obtain ⟨i0, hi0, hz0, hz1, hz2⟩ := info_parts infoN
  have own := hT.nt.own
  have HT : Hid (TB base w tb g C qs root) := hT
  have c0 := hT.box.cell 0
  have c1 := hT.box.cell 1
  have fz := hT.box.frozen
  have tlt := hT.box.lt
  have glt := hT.nt.glt.2
  simp only [List.getElem?_cons_zero, List.getElem?_cons_succ] at c0 c1
  have HN : Hid (tb ≠ g) := fun e => hT.ne (e ▸ List.mem_cons_self)
  have HM : Hid (some tb ≠ (Value.slice (some ⟨g, 0, none⟩) qs.length C).ownBlock) := fun e => HN.out (by simpa [Value.ownBlock] using e)
  have hb2 : ∀ o1 o2 : Obj, Below w.heap.size w ((w.alloc o1).drew.alloc o2) := fun o1 o2 => (((Below.refl _ _).alloc (Nat.le_refl _) _).drew).alloc (by simp) _
  clear hT
  go_enter Try.func49, Try.ntmps49
  go_wp2_with fail
  go_region_law (refine step_append_lies _ rfl (.tmp 9) (.tmp 11) 24 rfl base 62 i0 _ 5 104 Try.underlying24 hi0 hz0 hz1 hz2 rfl (by decide) (.slice (some ⟨g, 0, none⟩) qs.length C) qs.length (flatN qs) (by simp [Act.eval]) (own_next own ((((Below.refl _ _).alloc (Nat.le_refl _) _).drew).alloc (by simp) _)) ⟨w.heap.size + 1, 0, none⟩ 1 1 (flatN [q]) (by simp [Act.eval]) rfl (newsA w q _ _) (flatN_one _) (by decide) (by unfold maxLen; omega) (by omega) (by simp; omega) (w.heap.size + 2) (by simp) ?_; intro g' C' w1 hown1 hgrow1 hat1 hlt1; have cv1 : w1.cell? ⟨tb, 0, none⟩ = some (.slice (some ⟨g, 0, none⟩) qs.length C) := (hgrow1.cell_far ⟨tb, 0, none⟩ (by simp; omega) HM.out).trans ((hb2 _ _).cell (p := ⟨tb, 0, none⟩) tlt |>.trans c0); have fv1 : w1.frozen? ⟨tb, 0, none⟩ = false := (hgrow1.frozen_far ⟨tb, 0, none⟩ (by simp; omega) HM.out).trans ((hb2 _ _).frozen (p := ⟨tb, 0, none⟩) tlt |>.trans (fz 0)); have HR := hideC (And.intro hown1 (And.intro hgrow1 hat1)); clear hown1 hgrow1 hat1)
  all_goals
    go_wp2
    go_ret
    obtain ⟨hown1, hgrow1, hat1⟩ := HR.out
    have R := add_end HT.out hq hqn hqd hqt hz (hb2 _ _) hown1 hgrow1 hat1
    exact ⟨ret_int (by omega), _, _, R⟩

end Go.Proofs.Ytlojfgdpmaigmac

/- A node that gets the siblings of one of its kids. -/
namespace Go.Proofs.Ytlojfgdpmaigmac
open Go.RowKit Plain

def flatS : List (Int × Int) → List Value
  | [] => []
  | (k, p) :: r => .int .i64 k :: .int .i64 p :: flatS r

theorem flatS_length : ∀ l : List (Int × Int), (flatS l).length = l.length * 2
  | [] => rfl
  | (k, p) :: r => by simp [flatS, flatS_length r]; omega

theorem flatS_get : ∀ (l : List (Int × Int)) (k : Nat) (hk : k < l.length), (flatS l)[k * 2]? = some (.int .i64 l[k].1) ∧ (flatS l)[k * 2 + 1]? = some (.int .i64 l[k].2)
  | (a, b) :: r, 0, _ => ⟨rfl, rfl⟩
  | (a, b) :: r, k + 1, hk => by
    have := flatS_get r k (by simpa using hk)
    simp only [flatS, List.getElem_cons_succ]
    rw [show (k + 1) * 2 = k * 2 + 1 + 1 by omega, show k * 2 + 1 + 1 + 1 = (k * 2 + 1) + 1 + 1 by omega]
    simpa using this

theorem flatS_append : ∀ a b : List (Int × Int), flatS (a ++ b) = flatS a ++ flatS b
  | [], _ => rfl
  | (_, _) :: r, b => by simp [flatS, flatS_append r b]

def adoptN (x : Nd) (i : Nat) (more : List (Int × Int)) : Nd := { x with keys := x.keys.take i ++ more.map (·.1) ++ x.keys.drop i, kids := x.kids.take (i + 1) ++ more.map (·.2) ++ x.kids.drop (i + 1) }

/-- Behind k of the siblings. -/
def keysAt (keys : List Int) (i : Nat) (more : List (Int × Int)) (k : Nat) : List Int := keys.take i ++ (more.take k).map (·.1) ++ keys.drop i
def kidsAt (kids : List Int) (i : Nat) (more : List (Int × Int)) (k : Nat) : List Int := kids.take (i + 1) ++ (more.take k).map (·.2) ++ kids.drop (i + 1)

theorem ins_at (l a : List Int) (z : Int) (i : Nat) (hi : i ≤ l.length) : (l.take i ++ a ++ l.drop i).take (i + a.length) ++ z :: (l.take i ++ a ++ l.drop i).drop (i + a.length) = l.take i ++ (a ++ [z]) ++ l.drop i := by
  have hl : (l.take i ++ a).length = i + a.length := by simp; omega
  rw [← hl, List.take_left, List.drop_left]
  simp

theorem keysAt_succ {keys : List Int} {i k : Nat} {more : List (Int × Int)} (hi : i ≤ keys.length) (hk : k < more.length) : (keysAt keys i more k).take (i + k) ++ more[k].1 :: (keysAt keys i more k).drop (i + k) = keysAt keys i more (k + 1) := by
  have h := ins_at keys ((more.take k).map (·.1)) more[k].1 i hi
  rw [show ((more.take k).map (·.1)).length = k by simp; omega] at h
  unfold keysAt
  rw [h, List.take_succ_eq_append_getElem hk, List.map_append]
  rfl

theorem kidsAt_succ {kids : List Int} {i k : Nat} {more : List (Int × Int)} (hi : i + 1 ≤ kids.length) (hk : k < more.length) : (kidsAt kids i more k).take (i + k + 1) ++ more[k].2 :: (kidsAt kids i more k).drop (i + k + 1) = kidsAt kids i more (k + 1) := by
  have h := ins_at kids ((more.take k).map (·.2)) more[k].2 (i + 1) hi
  rw [show ((more.take k).map (·.2)).length = k by simp; omega] at h
  unfold kidsAt
  rw [show i + k + 1 = i + 1 + k by omega, h, List.take_succ_eq_append_getElem hk, List.map_append]
  rfl

theorem keysAt_length {keys : List Int} {i k : Nat} {more : List (Int × Int)} (hk : k ≤ more.length) : (keysAt keys i more k).length = keys.length + k := by
  simp [keysAt]; omega
theorem kidsAt_length {kids : List Int} {i k : Nat} {more : List (Int × Int)} (hk : k ≤ more.length) : (kidsAt kids i more k).length = kids.length + k := by
  simp [kidsAt]; omega

/-- The node's row of cells, its Keys and Kids apart. -/
structure AdAt (base : Nat) (w : World) (nb no : Nat) (t : TypeId) (vs : List Value) (kA0 dA0 : Option Addr) (wr : World) (kA : Option Addr) (kC : Nat) (keys : List Int) (dA : Option Addr) (dC : Nat) (kids : List Int) : Prop where
  row : RowL wr nb t ((vs.set (no + 2) (.slice kA keys.length kC)).set (no + 3) (.slice dA kids.length dC))
  ok : wr.ownsRow base 3 1 (.slice kA keys.length kC) keys.length (ints keys)
  od : wr.ownsRow base 3 1 (.slice dA kids.length dC) kids.length (ints kids)
  kept : Kept (nb :: obk kA0 ++ obk dA0) w wr
  lk : ∀ k ∈ obk kA, k ∈ obk kA0 ∨ w.heap.size ≤ k
  ld : ∀ k ∈ obk dA, k ∈ obk dA0 ∨ w.heap.size ≤ k
  ne : ∀ k ∈ obk kA, k ∉ obk dA
  nk : nb ∉ obk kA
  nd : nb ∉ obk dA

theorem obk_of {A : Option Addr} {n C k : Nat} (h : (Value.slice A n C).ownBlock = some k) : k ∈ obk A := by
  cases A with
  | none => cases h
  | some a => simpa [obk, Value.ownBlock, eq_comm] using h

theorem AdAt.lt {base : Nat} {w : World} {nb no : Nat} {t : TypeId} {vs : List Value} {kA0 dA0 : Option Addr} {wr : World} {kA : Option Addr} {kC : Nat} {keys : List Int} {dA : Option Addr} {dC : Nat} {kids : List Int} (h : AdAt base w nb no t vs kA0 dA0 wr kA kC keys dA dC kids) :
    (∀ k ∈ obk kA, k < wr.heap.size) ∧ ∀ k ∈ obk dA, k < wr.heap.size := by
  constructor
  · intro k hk
    refine (own_lt h.ok k ?_).2
    simpa [obk] using hk
  · intro k hk
    refine (own_lt h.od k ?_).2
    simpa [obk] using hk

/-- Blocks more; nothing that was is turned. -/
theorem AdAt.below {base : Nat} {w : World} {nb no : Nat} {t : TypeId} {vs : List Value} {kA0 dA0 : Option Addr} {wr w' : World} {kA : Option Addr} {kC : Nat} {keys : List Int} {dA : Option Addr} {dC : Nat} {kids : List Int} (h : AdAt base w nb no t vs kA0 dA0 wr kA kC keys dA dC kids) (hb : Below wr.heap.size wr w') :
    AdAt base w nb no t vs kA0 dA0 w' kA kC keys dA dC kids :=
  ⟨h.row.below hb h.row.lt, own_next h.ok hb, own_next h.od hb, h.kept.trans (Kept.of_below hb), h.lk, h.ld, h.ne, h.nk, h.nd⟩

theorem Kept.step {ex ex2 : List Nat} {w wr w' : World} (h : Kept ex w wr) (k : Kept ex2 wr w') (hs : ∀ b ∈ ex2, b ∈ ex ∨ w.heap.size ≤ b) : Kept ex w w' :=
  ⟨k.os.trans h.os, k.tape.trans h.tape, k.output.trans h.output, Nat.le_trans h.size k.size, fun i hi hx => (k.block i (Nat.lt_of_lt_of_le hi h.size) (fun e => by rcases hs i e with e | e; exact hx e; omega)).trans (h.block i hi hx)⟩

theorem mem_obk {A : Option Addr} {k : Nat} : k ∈ obk A ↔ A.map Addr.block = some k := by simp [obk]

section
variable {base : Nat} {w : World} {nb no : Nat} {t : TypeId} {vs : List Value} {kA0 dA0 : Option Addr} {wr W w1 : World} {kA : Option Addr} {kC : Nat} {keys : List Int} {dA : Option Addr} {dC : Nat} {kids : List Int}

theorem AdAt.putK (h : AdAt base w nb no t vs kA0 dA0 wr kA kC keys dA dC kids) (hW : Below wr.heap.size wr W) {n kC' : Nat} {kA' : Option Addr} {keys' : List Int} (hm : Moved base 3 1 n kA kA' kC' (ints keys') W w1) (hn : keys'.length = n) :
    AdAt base w nb no t vs kA0 dA0 (w1.setCell ⟨nb, no + 2, none⟩ (.slice kA' n kC')) kA' kC' keys' dA dC kids := by
  subst hn
  have H := h.below hW
  have hnl := H.row.lt
  have hws := H.kept.size
  have hlies : ∀ k ∈ obk kA', k ∈ obk kA ∨ W.heap.size ≤ k := by
    intro k hk
    rw [mem_obk] at hk
    rcases hm.lies with e | ⟨k', e, hk'⟩
    · left; rw [mem_obk, ← e]; exact hk
    · rw [e] at hk; cases hk; exact .inr hk'
  have hnk' : nb ∉ obk kA' := fun e => by
    rcases hlies nb e with e | e
    · exact H.nk e
    · omega
  have hrow : RowL w1 nb t ((vs.set (no + 2) (.slice kA keys.length kC)).set (no + 3) (.slice dA kids.length dC)) := H.row.of_block (hm.kept.block nb hnl H.nk)
  have hset : ∀ k, k ≠ nb → (w1.setCell ⟨nb, no + 2, none⟩ (.slice kA' keys'.length kC')).heap[k]? = w1.heap[k]? := fun k hk => Below.heap_setCell _ _ _ _ hk
  refine ⟨?_, ?_, ?_, ?_, ?_, h.ld, ?_, hnk', h.nd⟩
  · have := hrow.set (no + 2) (.slice kA' keys'.length kC')
    rwa [List.set_comm _ _ (by omega), List.set_set] at this
  · exact own_of_block hm.own fun k hk => hset k (fun e => hnk' (e ▸ obk_of hk))
  · refine own_of_block H.od fun k hk => ?_
    have hk' := obk_of hk
    rw [hset k (fun e => H.nd (e ▸ hk'))]
    exact hm.kept.block k (H.lt.2 k hk') (fun e => H.ne k e hk')
  · refine (H.kept.step hm.kept fun k hk => ?_).set (.inl (by simp)) _
    rcases h.lk k hk with e | e
    · exact .inl (by simp [e])
    · exact .inr e
  · intro k hk
    rcases hlies k hk with e | e
    · exact h.lk k e
    · exact .inr (by omega)
  · intro k hk hd
    rcases hlies k hk with e | e
    · exact h.ne k e hd
    · have := H.lt.2 k hd; omega

theorem AdAt.putD (h : AdAt base w nb no t vs kA0 dA0 wr kA kC keys dA dC kids) (hW : Below wr.heap.size wr W) {n dC' : Nat} {dA' : Option Addr} {kids' : List Int} (hm : Moved base 3 1 n dA dA' dC' (ints kids') W w1) (hn : kids'.length = n) :
    AdAt base w nb no t vs kA0 dA0 (w1.setCell ⟨nb, no + 3, none⟩ (.slice dA' n dC')) kA kC keys dA' dC' kids' := by
  subst hn
  have H := h.below hW
  have hnl := H.row.lt
  have hws := H.kept.size
  have hlies : ∀ k ∈ obk dA', k ∈ obk dA ∨ W.heap.size ≤ k := by
    intro k hk
    rw [mem_obk] at hk
    rcases hm.lies with e | ⟨k', e, hk'⟩
    · left; rw [mem_obk, ← e]; exact hk
    · rw [e] at hk; cases hk; exact .inr hk'
  have hnd' : nb ∉ obk dA' := fun e => by
    rcases hlies nb e with e | e
    · exact H.nd e
    · omega
  have hrow : RowL w1 nb t ((vs.set (no + 2) (.slice kA keys.length kC)).set (no + 3) (.slice dA kids.length dC)) := H.row.of_block (hm.kept.block nb hnl H.nd)
  have hset : ∀ k, k ≠ nb → (w1.setCell ⟨nb, no + 3, none⟩ (.slice dA' kids'.length dC')).heap[k]? = w1.heap[k]? := fun k hk => Below.heap_setCell _ _ _ _ hk
  refine ⟨?_, ?_, ?_, ?_, h.lk, ?_, ?_, h.nk, hnd'⟩
  · have := hrow.set (no + 3) (.slice dA' kids'.length dC')
    rwa [List.set_set] at this
  · refine own_of_block H.ok fun k hk => ?_
    have hk' := obk_of hk
    rw [hset k (fun e => H.nk (e ▸ hk'))]
    exact hm.kept.block k (H.lt.1 k hk') (H.ne k hk')
  · exact own_of_block hm.own fun k hk => hset k (fun e => hnd' (e ▸ obk_of hk))
  · refine (H.kept.step hm.kept fun k hk => ?_).set (.inl (by simp)) _
    rcases h.ld k hk with e | e
    · exact .inl (by simp [e])
    · exact .inr e
  · intro k hk
    rcases hlies k hk with e | e
    · exact h.ld k e
    · exact .inr (by omega)
  · intro k hk hd
    rcases hlies k hd with e | e
    · exact h.ne k hk e
    · have := H.lt.1 k hk; omega
end

end Go.Proofs.Ytlojfgdpmaigmac

/- All nodes that hold too much, from the leaves up: in plain terms. -/
namespace Go.Proofs.Ytlojfgdpmaigmac
open Go.RowKit Plain

def adoptAt (ns : List Nd) (p : Int) (i : Nat) (more : List (Int × Int)) : List Nd := ns.set p.toNat (adoptN (nth ns p) i more)

/-- The kids, from the last one on, each with its siblings. -/
def kidsN (rec : List Nd → Int → List Nd × List (Int × Int)) (p : Int) : Nat → List Nd → List Nd
  | 0, ns => ns
  | i + 1, ns => kidsN rec p i (adoptAt (rec ns ((nth ns p).kids.getD i 0)).1 p i (rec ns ((nth ns p).kids.getD i 0)).2)

def splitAllN : Nat → List Nd → Int → List Nd × List (Int × Int)
  | 0, ns, p => splitN ns p
  | h + 1, ns, p => splitN (kidsN (splitAllN h) p (nth ns p).kids.length ns) p

theorem zip_app {α β : Type} {a a' : List α} {b b' : List β} (h : a.length = b.length) : (a ++ a').zip (b ++ b') = a.zip b ++ a'.zip b' := List.zip_append h

/-- A kid's siblings, right behind it. -/
theorem ups_adopt {kids keys places mkeys : List Int} {hi : Int} {i : Nat} (hk : keys.length + 1 = kids.length) (hi' : i < kids.length) (hl : places.length = mkeys.length) :
    ups (kids.take (i + 1) ++ places ++ kids.drop (i + 1)) (keys.take i ++ mkeys ++ keys.drop i) hi = (ups kids keys hi).take i ++ ups (kids[i] :: places) mkeys ((keys ++ [hi])[i]'(by simp; omega)) ++ (ups kids keys hi).drop (i + 1) := by
  unfold ups
  have hlk : i < (keys ++ [hi]).length := by simp; omega
  have e1 : kids.take (i + 1) = kids.take i ++ [kids[i]] := List.take_succ_eq_append_getElem hi'
  have e2 : keys.drop i ++ [hi] = (keys ++ [hi])[i] :: (keys ++ [hi]).drop (i + 1) := by
    rw [← List.drop_eq_getElem_cons hlk, List.drop_append_of_le_length (by omega)]
  have e3 : (keys ++ [hi]).take i = keys.take i := List.take_append_of_le_length (by omega)
  have l1 : (kids.take i).length = (keys.take i).length := by simp; omega
  have a1 : kids.take (i + 1) ++ places ++ kids.drop (i + 1) = kids.take i ++ ((kids[i] :: places) ++ kids.drop (i + 1)) := by rw [e1, List.append_assoc, List.append_assoc]; rfl
  have a2 : keys.take i ++ mkeys ++ keys.drop i ++ [hi] = keys.take i ++ ((mkeys ++ [(keys ++ [hi])[i]]) ++ (keys ++ [hi]).drop (i + 1)) := by
    rw [List.append_assoc, List.append_assoc, e2]
    simp
  rw [a1, a2, zip_app l1, zip_app (by simp [hl]), take_zip', drop_zip', e3, List.append_assoc]

theorem nth_set_self {ns : List Nd} {p : Int} {y : Nd} (h0 : 0 ≤ p) (h1 : p < ns.length) : nth (ns.set p.toNat y) p = y := by
  unfold nth
  rw [List.getD_eq_getElem?_getD, List.getElem?_set_self (by omega)]
  rfl
theorem nth_set_far {ns : List Nd} {p n : Int} {y : Nd} (h0 : 0 ≤ p) (hn : 0 ≤ n) (hne : n ≠ p) : nth (ns.set p.toNat y) n = nth ns n := by
  unfold nth
  rw [List.getD_eq_getElem?_getD, List.getD_eq_getElem?_getD, List.getElem?_set_ne (by omega)]

theorem adopt_cont {ns : List Nd} {p : Int} {i : Nat} {more : List (Int × Int)} (h0 : 0 ≤ p) (h1 : p < ns.length) : ((adoptAt ns p i more).flatMap cont).Perm (ns.flatMap cont) := by
  have hx : ns[p.toNat]'(by omega) = nth ns p := by
    unfold nth
    rw [List.getD_eq_getElem?_getD, List.getElem?_eq_getElem (by omega)]
    rfl
  have := set_cont (ns := ns) (xs := []) (i := p.toNat) (y := adoptN (nth ns p) i more) (by omega) (by rw [hx]; simp [cont, adoptN])
  simpa [adoptAt] using this

/-- What stands behind the kids from i on. -/
structure KidsOk (mL : Nat) (ns0 ns : List Nd) (h : Nat) (p lo hi : Int) (P : List Int) (x : Nd) (i : Nat) : Prop where
  len : i ≤ x.kids.length
  at' : ∃ kids keys : List Int, ∃ T : List (Int × Int), ∃ Q1 Q2 : List Int, nth ns p = { x with kids := kids, keys := keys } ∧ keys.length + 1 = kids.length ∧ x.kids.length ≤ kids.length ∧ kids.take i = x.kids.take i ∧ ups kids keys hi = (ups x.kids x.keys hi).take i ++ T ∧
    SubK (Sub mL 4 ns h) lo ((ups x.kids x.keys hi).take i) Q1 ∧ SubK (Sub 6 4 ns h) (endU lo ((ups x.kids x.keys hi).take i)) T Q2 ∧ (p :: (Q1 ++ Q2)).Perm (P ++ placesF ns0.length (ns.length - ns0.length))
  le : ns0.length ≤ ns.length
  same : ∀ n, n ∉ P → 0 ≤ n → n < ns0.length → nth ns n = nth ns0 n
  cont : (ns.flatMap cont).Perm (ns0.flatMap cont)

theorem take_succ_ups {kids keys : List Int} {hi : Int} {i : Nat} (hk : keys.length + 1 = kids.length) (hi' : i < kids.length) : (ups kids keys hi).take (i + 1) = (ups kids keys hi).take i ++ [(kids[i], (keys ++ [hi])[i]'(by simp; omega))] := by
  have hl : i < (ups kids keys hi).length := by simp [ups]; omega
  rw [List.take_succ_eq_append_getElem hl]
  congr 2
  exact (List.getElem?_eq_some_iff.1 (ups_get hk hi')).2

theorem kids_step {mL : Nat} {ns0 ns : List Nd} {h : Nat} {p lo hi : Int} {P : List Int} {x : Nd} {i : Nat} {R : List Nd × List (Int × Int)} (hx : x.keys.length + 1 = x.kids.length) (hp0 : 0 ≤ p) (hp1 : p < ns0.length) (hpP : p ∈ P) (hP : P.Nodup) (hPr : ∀ n ∈ P, 0 ≤ n ∧ n < ns0.length)
    (hK : KidsOk mL ns0 ns h p lo hi P x (i + 1)) (hR : ∀ lo u Qd, Sub mL 4 ns h ((nth ns p).kids.getD i 0) lo u Qd → Qd.Nodup → SplitOk ns R.1 h ((nth ns p).kids.getD i 0) lo u Qd R.2) :
    KidsOk mL ns0 (adoptAt R.1 p i R.2) h p lo hi P x i := by
  obtain ⟨kids, keys, T, Q1, Q2, hn, hkl, hle, htk, hU, s1, s2, hpm⟩ := hK.at'
  have hix : i < x.kids.length := hK.len
  have hik : i < kids.length := by omega
  have hd : (nth ns p).kids.getD i 0 = x.kids[i] := by
    have e : kids[i] = x.kids[i] := by
      have h1 : (kids.take (i + 1))[i]? = (x.kids.take (i + 1))[i]? := by rw [htk]
      rw [List.getElem?_take, List.getElem?_take, if_pos (by omega), if_pos (by omega), List.getElem?_eq_getElem hik, List.getElem?_eq_getElem hix] at h1
      simpa using h1
    rw [hn]
    simp [hik, e]
  rw [hd] at hR
  rw [take_succ_ups hx hix, SubK_append] at s1
  obtain ⟨Qa, Qd, rfl, s1a, Qd', Qe, rfl, s1d, hQe⟩ := s1
  cases hQe
  rw [List.append_nil] at hpm
  rw [take_succ_ups hx hix, endU_last] at s2
  have hnd : (p :: (Qa ++ Qd' ++ Q2)).Nodup := hpm.nodup_iff.2 (List.nodup_append.2 ⟨hP, placesF_nodup _ _, fun a ha b hb e => by
    have h1 := (hPr a ha).2
    have h2 := (placesF_mem.1 hb).1
    omega⟩)
  have hnd2 := hnd
  rw [List.nodup_cons, List.nodup_append, List.nodup_append] at hnd
  obtain ⟨hpn, ⟨na, nd', nad⟩, n2, nad2⟩ := hnd
  have hs := hR _ _ _ s1d nd'
  obtain ⟨Q', t1, t2⟩ := hs.sub
  have hsle := hs.le
  have hle0 := hK.le
  have hpn' : p ∉ Qd' := fun e => hpn (by simp [e])
  have hpl : p < ns.length := by omega
  have hpR : nth R.1 p = nth ns p := hs.same p hpn' hp0 hpl
  have hpRl : p < R.1.length := by omega
  have hnR : nth (adoptAt R.1 p i R.2) p = adoptN (nth R.1 p) i R.2 := nth_set_self hp0 hpRl
  have hfar : ∀ n, 0 ≤ n → n ≠ p → nth (adoptAt R.1 p i R.2) n = nth R.1 n := fun n h0 hne => nth_set_far hp0 h0 hne
  have hlen : (adoptAt R.1 p i R.2).length = R.1.length := by simp [adoptAt]
  have hr1 := SubK_range s1a
  have hr2 := SubK_range s2
  have hml : (R.2.map (·.2)).length = (R.2.map (·.1)).length := by simp
  refine ⟨by omega, ⟨kids.take (i + 1) ++ R.2.map (·.2) ++ kids.drop (i + 1), keys.take i ++ R.2.map (·.1) ++ keys.drop i, ups (x.kids[i] :: R.2.map (·.2)) (R.2.map (·.1)) ((x.keys ++ [hi])[i]'(by simp; omega)) ++ T, Qa, Q' ++ Q2, ?_, ?_, ?_, ?_, ?_, ?_, ?_, ?_⟩, by omega, ?_, ?_⟩
  · rw [hnR, hpR, hn]
    rfl
  · simp; omega
  · simp; omega
  · rw [List.append_assoc, List.take_append_of_le_length (by simp; omega), List.take_take, Nat.min_eq_left (by omega)]
    have := congrArg (List.take i) htk
    rwa [List.take_take, List.take_take, Nat.min_eq_left (by omega)] at this
  · have hkd : kids[i] = x.kids[i] := by
      have h1 : (kids.take (i + 1))[i]? = (x.kids.take (i + 1))[i]? := by rw [htk]
      rw [List.getElem?_take, List.getElem?_take, if_pos (by omega), if_pos (by omega), List.getElem?_eq_getElem hik, List.getElem?_eq_getElem hix] at h1
      simpa using h1
    have hUi : (ups kids keys hi).take (i + 1) = (ups x.kids x.keys hi).take (i + 1) := by
      rw [hU]
      have hl : ((ups x.kids x.keys hi).take (i + 1)).length = i + 1 := by simp [ups]; omega
      exact List.take_left' hl
    have hTd : (ups kids keys hi).drop (i + 1) = T := by
      rw [hU]
      have hl : ((ups x.kids x.keys hi).take (i + 1)).length = i + 1 := by simp [ups]; omega
      exact List.drop_left' hl
    have hTi : (ups kids keys hi).take i = (ups x.kids x.keys hi).take i := by
      have := congrArg (List.take i) hUi
      rwa [List.take_take, List.take_take, Nat.min_eq_left (by omega)] at this
    have hup : (keys ++ [hi])[i]'(by simp; omega) = (x.keys ++ [hi])[i]'(by simp; omega) := by
      have a := take_succ_ups (hi := hi) hkl hik
      have b := take_succ_ups (hi := hi) hx hix
      rw [hUi, b, hTi] at a
      have := List.append_cancel_left a
      simp at this
      exact this.2.symm
    rw [ups_adopt hkl hik hml, hTd, hTi, hkd, List.append_assoc]
    simp only [hup]
  · refine SubK_imp s1a fun d l u Qq a b => Sub_congr h d l u Qq a fun n hn' => ?_
    have hr := hr1 n (b n hn')
    have hne : n ≠ p := fun e => hpn (by rw [← e]; simp [b n hn'])
    have hnot : n ∉ Qd' := fun e => nad n (b n hn') n e rfl
    exact ⟨(hfar n hr.1 hne).trans (hs.same n hnot hr.1 hr.2), by rw [hlen]; omega⟩
  · rw [SubK_append]
    refine ⟨Q', Q2, rfl, ?_, ?_⟩
    · refine SubK_imp t1 fun d l u Qq a b => Sub_congr h d l u Qq a fun n hn' => ?_
      have hm := t2.mem_iff.1 (b n hn')
      have hr : 0 ≤ n ∧ n < R.1.length := SubK_range t1 n (b n hn')
      have hne : n ≠ p := by
        rintro rfl
        rcases List.mem_append.1 hm with e | e
        · exact hpn' e
        · have := (placesF_mem.1 e).1; omega
      exact ⟨hfar n hr.1 hne, by rw [hlen]; exact hr.2⟩
    · rw [endU_ups (by simp)]
      refine SubK_imp s2 fun d l u Qq a b => Sub_congr h d l u Qq a fun n hn' => ?_
      have hr := hr2 n (b n hn')
      have hne : n ≠ p := fun e => hpn (by rw [← e]; simp [b n hn'])
      have hnot : n ∉ Qd' := fun e => nad2 n (List.mem_append_right _ e) n (b n hn') rfl
      exact ⟨(hfar n hr.1 hne).trans (hs.same n hnot hr.1 hr.2), by rw [hlen]; omega⟩
  · rw [hlen, show R.1.length - ns0.length = (ns.length - ns0.length) + (R.1.length - ns.length) by omega, placesF_append, show ns0.length + (ns.length - ns0.length) = ns.length by omega]
    rw [← List.append_assoc P]
    refine List.Perm.trans ?_ (hpm.append_right _)
    show (p :: (Qa ++ (Q' ++ Q2))).Perm (p :: (Qa ++ Qd' ++ Q2 ++ placesF ns.length (R.1.length - ns.length)))
    refine List.Perm.cons p ?_
    simp only [List.append_assoc]
    refine List.Perm.append_left Qa ?_
    refine (t2.append_right Q2).trans ?_
    simp only [List.append_assoc]
    exact List.Perm.append_left Qd' List.perm_append_comm
  · intro n hnP h0 h1
    have hne : n ≠ p := fun e => hnP (e ▸ hpP)
    have hnot : n ∉ Qd' := by
      intro e
      have : n ∈ P ++ placesF ns0.length (ns.length - ns0.length) := hpm.mem_iff.1 (by simp [e])
      rcases List.mem_append.1 this with e' | e'
      · exact hnP e'
      · have := (placesF_mem.1 e').1; omega
    exact (hfar n h0 hne).trans ((hs.same n hnot h0 (by omega)).trans (hK.same n hnP h0 h1))
  · exact (adopt_cont hp0 hpRl).trans (hs.cont.trans hK.cont)

theorem kidsN_ok {mL : Nat} {ns0 : List Nd} {h : Nat} {p lo hi : Int} {P : List Int} {x : Nd} {rec : List Nd → Int → List Nd × List (Int × Int)} (hx : x.keys.length + 1 = x.kids.length) (hp0 : 0 ≤ p) (hp1 : p < ns0.length) (hpP : p ∈ P) (hP : P.Nodup) (hPr : ∀ n ∈ P, 0 ≤ n ∧ n < ns0.length)
    (hrec : ∀ ns d lo u Qd, Sub mL 4 ns h d lo u Qd → Qd.Nodup → SplitOk ns (rec ns d).1 h d lo u Qd (rec ns d).2) :
    ∀ (i : Nat) (ns : List Nd), KidsOk mL ns0 ns h p lo hi P x i → KidsOk mL ns0 (kidsN rec p i ns) h p lo hi P x 0
  | 0, _, hK => hK
  | i + 1, ns, hK => kidsN_ok hx hp0 hp1 hpP hP hPr hrec i _ (kids_step hx hp0 hp1 hpP hP hPr hK fun lo u Qd a b => hrec ns _ lo u Qd a b)

/-- All of a tree's nodes that hold too much are split: what is left is a row of nodes that hold enough. -/
theorem splitAll_ok {mL : Nat} : ∀ (h : Nat) (ns : List Nd) (p lo hi : Int) (P : List Int), Sub mL 4 ns h p lo hi P → P.Nodup → SplitOk ns (splitAllN h ns p).1 h p lo hi P (splitAllN h ns p).2
  | 0, ns, p, lo, hi, P, hs, hP => split_ok (mK := 4) (mL := mL) (show Top mL 4 ns 0 p lo hi P from hs) hP
  | h + 1, ns, p, lo, hi, P, hs, hP => by
    have hPr := Sub_range _ _ _ _ _ hs
    obtain ⟨hr, Q, rfl, hin⟩ := hs
    have hul : (ups (nth ns p).kids (nth ns p).keys hi).take (nth ns p).kids.length = ups (nth ns p).kids (nth ns p).keys hi := List.take_of_length_le (by simp [ups]; omega)
    have hK : KidsOk mL ns ns h p lo hi (p :: Q) (nth ns p) (nth ns p).kids.length := by
      refine ⟨Nat.le_refl _, ⟨(nth ns p).kids, (nth ns p).keys, [], Q, [], rfl, hin.keys, Nat.le_refl _, rfl, ?_, ?_, rfl, ?_⟩, Nat.le_refl _, fun _ _ _ _ => rfl, List.Perm.refl _⟩
      · rw [hul, List.append_nil]
      · rw [hul]; exact hin.kids
      · simp [placesF]
    have hK0 := kidsN_ok (rec := splitAllN h) hin.keys hr.1 hr.2.1 (by simp) hP hPr (fun ns d lo u Qd a b => splitAll_ok h ns d lo u Qd a b) _ _ hK
    show SplitOk ns (splitN (kidsN (splitAllN h) p (nth ns p).kids.length ns) p).1 (h + 1) p lo hi (p :: Q) (splitN (kidsN (splitAllN h) p (nth ns p).kids.length ns) p).2
    generalize kidsN (splitAllN h) p (nth ns p).kids.length ns = ns1 at hK0 ⊢
    obtain ⟨kids, keys, T, Q1, Q2, hn, hkl, hle, -, hU, s1, s2, hpm⟩ := hK0.at'
    have hle1 := hK0.le
    cases s1
    rw [List.take_zero] at hU s2
    rw [List.nil_append] at hU hpm
    have htwo := hin.two
    have hp1 := hr.2.1
    have hnd : (p :: Q2).Nodup := hpm.nodup_iff.2 (List.nodup_append.2 ⟨hP, placesF_nodup _ _, fun a ha b hb e => by
      have h1 := (hPr a ha).2
      have h2 := (placesF_mem.1 hb).1
      omega⟩)
    have htop : Top 6 kids.length ns1 (h + 1) p lo hi (p :: Q2) := by
      refine ⟨⟨hr.1, by omega, hr.2.2⟩, Q2, rfl, ?_⟩
      rw [hn]
      exact ⟨hin.leaf, hin.ents, by show 2 ≤ kids.length; omega, Nat.le_refl _, hkl, hin.few, hin.buf, by show SubK _ lo (ups kids keys hi) Q2; rw [hU]; exact s2⟩
    have hs := split_ok htop hnd
    have hle2 := hs.le
    have hfew := hs.few
    obtain ⟨Q', t1, t2⟩ := hs.sub
    refine ⟨⟨Q', t1, t2.trans ?_⟩, by omega, ?_, hs.cont.trans hK0.cont, by omega⟩
    · rw [show (splitN ns1 p).1.length - ns.length = (ns1.length - ns.length) + ((splitN ns1 p).1.length - ns1.length) by omega, placesF_append, show ns.length + (ns1.length - ns.length) = ns1.length by omega, ← List.append_assoc (p :: Q)]
      exact hpm.append_right _
    · intro n hnP h0 h1
      refine (hs.same n ?_ h0 (by omega)).trans (hK0.same n hnP h0 h1)
      intro e
      rcases List.mem_append.1 (hpm.mem_iff.1 e) with e' | e'
      · exact hnP e'
      · have := (placesF_mem.1 e').1; omega

end Go.Proofs.Ytlojfgdpmaigmac

/- Parts of a node, in memory of their own. -/
import Derived.Test.YtlojfgdpmaigmacGreatDoorP12
import Derived.Test.YtlojfgdpmaigmacGreatDoorP08
import Derived.Test.YtlojfgdpmaigmacGreatDoorP14
import Derived.Deep.AppendLies
namespace Go.Proofs.YtlojfgdpmaigmacGreatDoor
open Go.RowKit Plain

theorem RowAt.cutI {B : Nat} {w : World} {b o a n : Nat} {zs : List Int} (h : RowAt B w (some ⟨b, o, none⟩) (ints zs)) : RowAt B w (some ⟨b, o + a, none⟩) (ints ((zs.drop a).take n)) := by
  rcases h with h | ⟨b', o', hA, hlt, hc⟩
  · left
    simp [ints] at h ⊢
    subst h
    simp
  · cases hA
    refine .inr ⟨b, o + a, rfl, hlt, fun j u hu => ?_⟩
    have hj : (ints zs)[a + j]? = some u := by
      have h1 : ((ints zs).drop a)[j]? = some u := by
        have e : ints ((zs.drop a).take n) = ((ints zs).drop a).take n := by simp [ints]
        rw [e, List.getElem?_take] at hu
        split at hu
        · exact hu
        · cases hu
      rwa [List.getElem?_drop] at h1
    have := hc (a + j) u hj
    rwa [← Nat.add_assoc] at this

theorem flatE_drop : ∀ (xs : List En) (a : Nat), flatE (xs.drop a) = (flatE xs).drop (a * 7)
  | [], a => by simp [flatE]
  | x :: r, 0 => by simp
  | x :: r, a + 1 => by
    rw [List.drop_succ_cons, flatE_drop r a, flatE, show (a + 1) * 7 = 7 + a * 7 by omega, ← List.drop_drop]
    rfl
theorem flatE_take : ∀ (xs : List En) (a : Nat), flatE (xs.take a) = (flatE xs).take (a * 7)
  | [], a => by simp [flatE]
  | x :: r, 0 => by simp [flatE]
  | x :: r, a + 1 => by
    rw [List.take_succ_cons, flatE, flatE_take r a, flatE, show (a + 1) * 7 = x.vals.length + a * 7 by simp [En.vals]; omega, List.take_length_add_append]

theorem RowAt.cutE {B : Nat} {w : World} {b o a n : Nat} {xs : List En} (h : RowAt B w (some ⟨b, o, none⟩) (flatE xs)) : RowAt B w (some ⟨b, o + a * 7, none⟩) (flatE ((xs.drop a).take n)) := by
  rcases h with h | ⟨b', o', hA, hlt, hc⟩
  · left
    have : xs = [] := by
      have hl := flatE_length xs
      rw [h] at hl
      exact List.eq_nil_of_length_eq_zero (by simp at hl; omega)
    subst this
    simp [flatE]
  · cases hA
    refine .inr ⟨b, o + a * 7, rfl, hlt, fun j u hu => ?_⟩
    have hj : (flatE xs)[a * 7 + j]? = some u := by
      rw [flatE_take, List.getElem?_take, flatE_drop] at hu
      split at hu
      · rwa [List.getElem?_drop] at hu
      · cases hu
    have := hc (a * 7 + j) u hj
    rwa [← Nat.add_assoc] at this

theorem RowAt.cutIf {B : Nat} {w : World} {b o a n C : Nat} {xs : List En} (h : RowAt B w (some ⟨b, o, none⟩) (flatE xs)) (hC : xs.length ≤ C) : RowAt B w (if C = a then some ⟨b, o, none⟩ else some ⟨b, o + a * 7, none⟩) (flatE ((xs.drop a).take n)) := by
  split
  · left
    rw [List.drop_eq_nil_of_le (by omega)]
    simp [flatE]
  · exact h.cutE

theorem RowAt.some_of {B : Nat} {w : World} {A : Option Addr} {vs : List Value} (h : RowAt B w A vs) (hne : vs ≠ []) : ∃ b o, A = some ⟨b, o, none⟩ ∧ b < B := by
  rcases h with h | ⟨b, o, hA, hlt, _⟩
  · exact absurd h hne
  · exact ⟨b, o, hA, hlt⟩

theorem freshE_n (A : Option Addr) (C n : Nat) (xs : List En) (hn : xs.length = n) (w : World) (h : RowAt w.heap.size w A (flatE xs)) (hA : A = none → C = 0) (hz : n * 56 ≤ 140737488351232) :
    Calls Tryz.prog 39 #[.slice A n C] w fun e w' => ∃ v, e = .returned v ∧ w'.ownsRow w.heap.size 40 7 v n (flatE xs) ∧ Below w.heap.size w w' := by
  subst hn
  exact freshE_any A C xs w h hA hz

theorem freshI_n (A : Option Addr) (C n : Nat) (zs : List Int) (hn : zs.length = n) (w : World) (h : RowAt w.heap.size w A (ints zs)) (hA : A = none → C = 0) (hz : n * 8 ≤ 140737488351232) :
    Calls Tryz.prog 65 #[.slice A n C] w fun e w' => ∃ v, e = .returned v ∧ w'.ownsRow w.heap.size 3 1 v n (ints zs) ∧ Below w.heap.size w w' := by
  subst hn
  exact freshI_any A C zs w h hA hz

theorem own_len {α : Type} {w : World} {base n size C : Nat} {e : TypeId} {A : Option Addr} {xs : List α} {vs : List Value} (h : xs.length = n) (ho : w.ownsRow base e size (.slice A n C) n vs) : w.ownsRow base e size (.slice A xs.length C) xs.length vs := by rw [h]; exact ho

theorem two_below (w : World) (o1 o2 : Obj) : Below w.heap.size w ((w.alloc o1).alloc o2) := ((Below.refl _ _).alloc (Nat.le_refl _) _).alloc (by simp) _

theorem set5_block (w : World) (r o : Nat) (v0 v1 v2 v3 v4 : Value) {k : Nat} (hk : k ≠ r) :
    (((((w.setCell ⟨r, o, none⟩ v0).setCell ⟨r, o + 1, none⟩ v1).setCell ⟨r, o + 2, none⟩ v2).setCell ⟨r, o + 3, none⟩ v3).setCell ⟨r, o + 4, none⟩ v4).heap[k]? = w.heap[k]? := by
  simp only [Below.heap_setCell _ _ _ _ (show k ≠ (⟨r, _, none⟩ : Addr).block from hk)]

theorem set5_below {B : Nat} {a w : World} (h : Below B a w) {r : Nat} (hr : B ≤ r) (o : Nat) (v0 v1 v2 v3 v4 : Value) :
    Below B a (((((w.setCell ⟨r, o, none⟩ v0).setCell ⟨r, o + 1, none⟩ v1).setCell ⟨r, o + 2, none⟩ v2).setCell ⟨r, o + 3, none⟩ v3).setCell ⟨r, o + 4, none⟩ v4) :=
  ((((h.setCell hr _).setCell hr _).setCell hr _).setCell hr _).setCell hr _

set_option maxHeartbeats 1000000 in
theorem part_leaf (eA : Option Addr) (eC : Nat) (ents : List En) (kA : Option Addr) (kC : Nat) (keys : List Int) (dA : Option Addr) (dC : Nat) (kids : List Int) (bA : Option Addr) (bC : Nat) (buf : List En) (a b : Nat) (w : World)
    (he : RowAt w.heap.size w eA (flatE ents)) (hec : ents.length ≤ eC) (ez : ents.length * 56 ≤ 140737488351232) (hab : a < b) (hbl : b ≤ ents.length) :
    Calls Tryz.prog 102 #[.agg #[.bool true, .slice eA ents.length eC, .slice kA keys.length kC, .slice dA kids.length dC, .slice bA buf.length bC], .int .i64 (a : Int), .int .i64 (b : Int)] w
      fun e w' => ∃ A1 C1, e = .returned (.agg #[.bool true, .slice A1 (b - a) C1, .slice none 0 0, .slice none 0 0, .slice none 0 0]) ∧ w'.ownsRow w.heap.size 40 7 (.slice A1 (b - a) C1) (b - a) (flatE ((ents.drop a).take (b - a))) ∧ Below w.heap.size w w' := by
  obtain ⟨eb, eo, rfl, hlt⟩ := he.some_of (by
    intro e
    have := flatE_length ents
    rw [e] at this
    simp at this
    omega)
  have HL : Hid (((ents.drop a).take (b - a)).length = b - a) := by show _ = _; simp; omega
  go_enter Tryz.func102, Tryz.ntmps102
  go_wp2_with (go_at_call 39; refine (freshE_n _ _ _ ((ents.drop a).take (b - a)) HL.out _ ((he.cutE.below (two_below _ _ _) (Nat.le_refl _)).mono (by simp; omega)) (fun h => by cases h) (by omega)).mono ?_; rintro e w1 ⟨v1, rfl, o1, hb1⟩; obtain ⟨A1, C1, rfl, -⟩ := own_row o1; obtain ⟨hc1, hf1⟩ := bcells hb1; have hz1 : w.heap.size + 1 < w1.heap.size := by have := hb1.size; simp at this; omega)
  refine bodyPost_ret (v := .agg #[.bool true, .slice A1 (b - a) C1, .slice none 0 0, .slice none 0 0, .slice none 0 0]) (by simp [results, Tryz.results102, go_sem, hc1]) rfl ⟨A1, C1, rfl, ?_, ?_⟩
  · refine own_of_block (own_mono o1 (by simp; omega)) fun k hk => ?_
    have := (o1.lt k hk).1
    simp only [World.size_alloc] at this
    exact set5_block w1 (w.heap.size + 1) 0 _ _ _ _ _ (by omega)
  · exact set5_below ((two_below w _ _).trans (hb1.mono (by simp; omega))) (by omega) 0 _ _ _ _ _

set_option maxRecDepth 20000 in
set_option maxHeartbeats 1000000 in
theorem wait_any (leaf : Bool) (eA : Option Addr) (eC : Nat) (ents : List En) (kA : Option Addr) (kC : Nat) (keys : List Int) (dA : Option Addr) (dC : Nat) (kids : List Int) (bA : Option Addr) (bC : Nat) (buf : List En) (kid : Nat) (w : World)
    (hk : RowAt w.heap.size w kA (ints keys)) (hb : RowAt w.heap.size w bA (flatE buf)) (kz : keys.length * 8 ≤ 140737488351232) (bz : buf.length * 56 ≤ 140737488351232) (hkl : keys.length + 1 = kids.length) (hkid : kid ≤ kids.length) (hp : buf.Pairwise (fun x y => x.key < y.key)) (r : Nat) (hr : Hid (waitA ⟨leaf, ents, keys, kids, buf⟩ kid = r)) :
    Calls Tryz.prog 126 #[.agg #[.bool leaf, .slice eA ents.length eC, .slice kA keys.length kC, .slice dA kids.length dC, .slice bA buf.length bC], .int .i64 (kid : Int)] w
      fun e w' => e = .returned (.int .i64 (r : Int)) ∧ Below w.heap.size w w' := by
  by_cases h0 : kid = 0
  · subst h0
    have E : Hid (r = 0) := by show _ = _; rw [← hr.out]; simp [waitA]
    clear hr
    go_enter Tryz.func126, Tryz.ntmps126
    go_wp2_with fail
    go_ret
    exact ⟨ret_int (by rw [E.out]; rfl), (Below.refl _ _).alloc (Nat.le_refl _) _⟩
  · have h0' : ((kid : Int) == 0) = false := by simp; omega
    by_cases h1 : kid = kids.length
    · have E : Hid (r = buf.length) := by
        show _ = _
        rw [← hr.out]
        unfold waitA
        rw [if_neg h0, if_pos h1]
      subst h1
      clear hr
      go_enter Tryz.func126, Tryz.ntmps126
      go_wp2_with fail
      go_ret
      exact ⟨ret_int (by rw [E.out]), (Below.refl _ _).alloc (Nat.le_refl _) _⟩
    · have h1' : ((kid : Int) == (kids.length : Int)) = false := by simp; omega
      obtain ⟨j, rfl⟩ : ∃ j, kid = j + 1 := ⟨kid - 1, by omega⟩
      have hj : j < keys.length := by omega
      obtain ⟨kb, ko, rfl, hkb, hkc⟩ := hk.int hj
      have E : Hid (lowN buf keys[j] = r) := by
        show _ = _
        rw [← hr.out]
        unfold waitA
        rw [if_neg h0, if_neg h1]
        simp [hj]
      have HK : Hid (keys.length + 1 = kids.length) := hkl
      clear hr h0 h1 hkl
      generalize keys[j] = kk at *
      have i0 : (0 : Int) ≤ (j : Int) := by omega
      have i1 : (j : Int) < (keys.length : Int) := by omega
      obtain ⟨kd, hkd⟩ : ∃ kd : Int, ((j + 1 : Nat) : Int) = kd := ⟨_, rfl⟩
      have wj : IntKind.i64.wrap (kd - 1) = (j : Int) := by rw [IntKind.wrap_i64]; omega
      rw [hkd] at h0' h1' ⊢
      clear hkd
      have hkb1 : kb < w.heap.size + 1 := by omega
      go_enter Tryz.func126, Tryz.ntmps126
      go_wp2_with fail
      go_region_held3 (fun w' => w'.cell? ⟨w.heap.size, 2, none⟩ = some (.slice (some ⟨kb, ko, none⟩) keys.length kC) ∧ w'.cell? ⟨w.heap.size, 4, none⟩ = some (.slice bA buf.length bC) ∧ w'.cell? ⟨kb, ko + j, none⟩ = some (.int .i64 kk)) (go_keep)
        (first | (go_at_call 95; refine (find_any _ _ _ _ _ (hb.go (((Below.refl _ _).alloc (Nat.le_refl _) _).drew) (Nat.le_refl _) (Nat.le_refl _)) bz hp).mono ?_; rintro e w1 ⟨rfl, hb1⟩; have T1 := (bcells (hb1.mono (show w.heap.size + 1 ≤ _ by simp))).1))
      go_wp2
      go_ret
      exact ⟨ret_int (by rw [E.out]), ((Below.refl _ _).alloc (Nat.le_refl _) _).drew.trans (hb1.mono (by simp))⟩

set_option maxHeartbeats 1000000 in
theorem firstKey_any (leaf : Bool) (eA : Option Addr) (eC : Nat) (ents : List En) (kA : Option Addr) (kC : Nat) (keys : List Int) (dA : Option Addr) (dC : Nat) (kids : List Int) (bA : Option Addr) (bC : Nat) (buf : List En) (a : Nat) (w : World)
    (he : RowAt w.heap.size w eA (flatE ents)) (hk : RowAt w.heap.size w kA (ints keys)) (h1 : leaf = true → a < ents.length) (h2 : leaf = false → 0 < a ∧ a ≤ keys.length) (kz : keys.length * 8 ≤ 140737488351232) :
    Calls Tryz.prog 103 #[.agg #[.bool leaf, .slice eA ents.length eC, .slice kA keys.length kC, .slice dA kids.length dC, .slice bA buf.length bC], .int .i64 (a : Int)] w
      fun e w' => e = .returned (.int .i64 (firstK ⟨leaf, ents, keys, kids, buf⟩ a)) ∧ Below w.heap.size w w' := by
  cases leaf with
  | true =>
    have hl := h1 rfl
    obtain ⟨b, o, rfl, hbl, hat⟩ := he.en hl
    have E : Hid (firstK ⟨true, ents, keys, kids, buf⟩ a = ents[a].key) := by show _ = _; simp [firstK, hl]
    have c0 := hat.c0
    clear hat h2
    generalize ents[a] = x at *
    go_enter Tryz.func103, Tryz.ntmps103
    go_wp2
    go_ret
    exact ⟨ret_int E.out.symm, (Below.refl _ _).alloc (Nat.le_refl _) _⟩
  | false =>
    obtain ⟨ha, hl⟩ := h2 rfl
    obtain ⟨j, rfl⟩ : ∃ j, a = j + 1 := ⟨a - 1, by omega⟩
    have hj : j < keys.length := by omega
    obtain ⟨b, o, rfl, hbl, hc⟩ := hk.int hj
    have E : Hid (firstK ⟨false, ents, keys, kids, buf⟩ (j + 1) = keys[j]) := by show _ = _; simp [firstK, hj]
    have i1 : (j : Int) < (keys.length : Int) := by omega
    obtain ⟨kd, hkd⟩ : ∃ kd : Int, ((j + 1 : Nat) : Int) = kd := ⟨_, rfl⟩
    have wj : kd - 1 = (j : Int) := by omega
    rw [hkd]
    have hk1 : 1 ≤ kd := by omega
    have hk2 : kd ≤ 1099511627776000 := by omega
    clear hkd h1 h2 ha hl
    generalize keys[j] = x at *
    go_enter Tryz.func103, Tryz.ntmps103
    go_wp2
    go_ret
    exact ⟨ret_int E.out.symm, (Below.refl _ _).alloc (Nat.le_refl _) _⟩

set_option maxRecDepth 20000 in
set_option maxHeartbeats 4000000 in
theorem part_inner_some (eA : Option Addr) (eC : Nat) (ents : List En) (kb ko : Nat) (kC : Nat) (keys : List Int) (db dO : Nat) (dC : Nat) (kids : List Int) (fb fo : Nat) (bC : Nat) (buf : List En) (a b c r1 r2 : Nat) (w : World)
    (hk : RowAt w.heap.size w (some ⟨kb, ko, none⟩) (ints keys)) (hd : RowAt w.heap.size w (some ⟨db, dO, none⟩) (ints kids)) (hf : RowAt w.heap.size w (some ⟨fb, fo, none⟩) (flatE buf))
    (hkc : keys.length ≤ kC) (hdc : kids.length ≤ dC) (hfc : buf.length ≤ bC) (kz : keys.length * 8 ≤ 140737488351232) (dz : kids.length * 8 ≤ 140737488351232) (bz : buf.length * 56 ≤ 140737488351232)
    (hkl : Hid (keys.length + 1 = kids.length)) (hbc : Hid (b = c + 1)) (hac : a < c) (hck : c ≤ keys.length) (hbk : b ≤ kids.length) (hp : List.Pairwise (fun x y : En => x.key < y.key) buf)
    (hr1 : Hid (waitA ⟨false, ents, keys, kids, buf⟩ a = r1)) (hr2 : Hid (waitA ⟨false, ents, keys, kids, buf⟩ b = r2)) (h12 : r1 ≤ r2) (h2f : r2 ≤ buf.length) :
    Calls Tryz.prog 102 #[.agg #[.bool false, .slice eA ents.length eC, .slice (some ⟨kb, ko, none⟩) keys.length kC, .slice (some ⟨db, dO, none⟩) kids.length dC, .slice (some ⟨fb, fo, none⟩) buf.length bC], .int .i64 (a : Int), .int .i64 (b : Int)] w
      fun e w' => ∃ A1 C1 A2 C2 A3 C3, e = .returned (.agg #[.bool false, .slice none 0 0, .slice A1 (c - a) C1, .slice A2 (b - a) C2, .slice A3 (r2 - r1) C3]) ∧
        PN.own w.heap.size w' ⟨false, none, 0, [], A1, C1, (keys.drop a).take (c - a), A2, C2, (kids.drop a).take (b - a), A3, C3, (buf.drop r1).take (r2 - r1)⟩ ∧ (PN.mk false none 0 [] A1 C1 ((keys.drop a).take (c - a)) A2 C2 ((kids.drop a).take (b - a)) A3 C3 ((buf.drop r1).take (r2 - r1))).blocks.Nodup ∧ Below w.heap.size w w' := by
  have hab : a ≤ b := by have := hbc.out; omega
  have wb : IntKind.i64.wrap ((b : Int) - 1) = (c : Int) := by have := hbc.out; rw [IntKind.wrap_i64]; omega
  have i1 : (a : Int) ≤ (c : Int) := by omega
  have i2 : (c : Int) ≤ (kC : Int) := by omega
  have i3 : (a : Int) ≤ (b : Int) := by omega
  have i4 : (b : Int) ≤ (dC : Int) := by omega
  have i5 : (r1 : Int) ≤ (r2 : Int) := by omega
  have i6 : (r2 : Int) ≤ (bC : Int) := by omega
  have i7 : (0 : Int) ≤ (a : Int) := by omega
  have i8 : (0 : Int) ≤ (r1 : Int) := by omega
  have n1 : ¬ kC = a := by omega
  have n2 : ¬ dC = a := by have := hbc.out; omega
  obtain ⟨A', hA'⟩ : ∃ A', (if bC = r1 then some (⟨fb, fo, none⟩ : Addr) else some ⟨fb, fo + r1 * 7, none⟩) = A' := ⟨_, rfl⟩
  have HA : Hid (∀ n, RowAt w.heap.size w A' (flatE ((buf.drop r1).take n))) := fun n => hA' ▸ hf.cutIf hfc
  have HN : Hid (A' ≠ none) := by rw [← hA']; intro h; split at h <;> cases h
  have l1 : Hid (((keys.drop a).take (c - a)).length = c - a) := by show _ = _; simp; omega
  have l2 : Hid (((kids.drop a).take (b - a)).length = b - a) := by show _ = _; simp; omega
  have l3 : Hid (((buf.drop r1).take (r2 - r1)).length = r2 - r1) := by show _ = _; simp; omega
  have hda : b - a ≤ kids.length := by omega
  have hca : c - a ≤ keys.length := by omega
  have hba : r2 - r1 ≤ buf.length := by omega
  go_enter Tryz.func102, Tryz.ntmps102
  go_wp2_with fail
  go_region_held3 (fun w' => w'.cell? ⟨w.heap.size, 0, none⟩ = some (.bool false) ∧ w'.cell? ⟨w.heap.size, 1, none⟩ = some (.slice eA ents.length eC) ∧ w'.cell? ⟨w.heap.size, 2, none⟩ = some (.slice (some ⟨kb, ko, none⟩) keys.length kC) ∧ w'.cell? ⟨w.heap.size, 3, none⟩ = some (.slice (some ⟨db, dO, none⟩) kids.length dC) ∧ w'.cell? ⟨w.heap.size, 4, none⟩ = some (.slice (some ⟨fb, fo, none⟩) buf.length bC)) (go_keep)
    (first
      | (go_at_call_of 65 (kC - a); refine (freshI_n _ _ _ ((keys.drop a).take (c - a)) l1.out _ (hk.cutI.go ((two_below _ _ _).drew) (Nat.le_refl _) (Nat.le_refl _)) (fun h => by cases h) (by omega)).mono ?_; rintro e w1 ⟨v1, rfl, o1, hb1⟩; obtain ⟨A1, C1, rfl, -⟩ := own_row o1; have G1 : Below w.heap.size w w1 := nextB ((two_below _ _ _).drew) (Nat.le_refl _) hb1; have T1 := (bcells (hb1.mono (show w.heap.size + 2 ≤ _ by simp))).1; have F1 := (bcells (hb1.mono (show w.heap.size + 2 ≤ _ by simp))).2; have Z1 : w.heap.size + 2 ≤ w1.heap.size := Nat.le_trans (by simp) hb1.size)
      | (go_at_call_of 65 (dC - a); refine (freshI_n _ _ _ ((kids.drop a).take (b - a)) l2.out _ (hd.cutI.go G1 (Nat.le_refl _) (Nat.le_refl _)) (fun h => by cases h) (by omega)).mono ?_; rintro e w2 ⟨v2, rfl, o2, hb2⟩; obtain ⟨A2, C2, rfl, -⟩ := own_row o2; have G2 : Below w.heap.size w w2 := nextB G1 (Nat.le_refl _) hb2; have T2 := (bcells (hb2.mono (show w.heap.size + 2 ≤ _ by exact Z1))).1; have F2 := (bcells (hb2.mono (show w.heap.size + 2 ≤ _ by exact Z1))).2; have Z2 : w.heap.size + 2 ≤ w2.heap.size := Nat.le_trans Z1 hb2.size)
      | (have k0 : w2.heap.size ≤ w2.heap.size := Nat.le_refl _; go_at_call_of 126 (Value.int IntKind.i64 (a : Int)); refine (wait_any false eA eC ents _ kC keys _ dC kids _ bC buf a _ (hk.go G2 (Nat.le_refl _) (Nat.le_refl _)) (hf.go G2 (Nat.le_refl _) (Nat.le_refl _)) kz bz hkl.out (by omega) hp r1 hr1).mono ?_; rintro e w3 ⟨rfl, hb3⟩; have G3 : Below w.heap.size w w3 := nextB G2 (Nat.le_refl _) hb3; have T3 := (bcells (hb3.mono (show w.heap.size + 2 ≤ _ by exact Z2))).1; have F3 := (bcells (hb3.mono (show w.heap.size + 2 ≤ _ by exact Z2))).2; have Z3 : w.heap.size + 2 ≤ w3.heap.size := Nat.le_trans Z2 hb3.size)
      | (have k0 : w3.heap.size ≤ w3.heap.size := Nat.le_refl _; go_at_call_of 126 (Value.int IntKind.i64 (b : Int)); refine (wait_any false eA eC ents _ kC keys _ dC kids _ bC buf b _ (hk.go G3 (Nat.le_refl _) (Nat.le_refl _)) (hf.go G3 (Nat.le_refl _) (Nat.le_refl _)) kz bz hkl.out hbk hp r2 hr2).mono ?_; rintro e w4 ⟨rfl, hb4⟩; have G4 : Below w.heap.size w w4 := nextB G3 (Nat.le_refl _) hb4; have T4 := (bcells (hb4.mono (show w.heap.size + 2 ≤ _ by exact Z3))).1; have F4 := (bcells (hb4.mono (show w.heap.size + 2 ≤ _ by exact Z3))).2; have Z4 : w.heap.size + 2 ≤ w4.heap.size := Nat.le_trans Z3 hb4.size)
      | (go_at_call 39; refine (freshE_n _ _ _ ((buf.drop r1).take (r2 - r1)) l3.out _ ((HA.out _).go G4 (Nat.le_refl _) (Nat.le_refl _)) (fun h => absurd h HN.out) (by omega)).mono ?_; rintro e w5 ⟨v5, rfl, o5, hb5⟩; obtain ⟨A5, C5, rfl, -⟩ := own_row o5; have G5 : Below w.heap.size w w5 := nextB G4 (Nat.le_refl _) hb5; have T5 := (bcells (hb5.mono (show w.heap.size + 2 ≤ _ by exact Z4))).1; have F5 := (bcells (hb5.mono (show w.heap.size + 2 ≤ _ by exact Z4))).2; have Z5 : w.heap.size + 2 ≤ w5.heap.size := Nat.le_trans Z4 hb5.size))
  go_wp2
  have hb45 : Below w3.heap.size w3 w5 := nextB hb4 (Nat.le_refl _) hb5
  have hb35 : Below w2.heap.size w2 w5 := nextB hb3 (Nat.le_refl _) hb45
  have hb25 : Below w1.heap.size w1 w5 := nextB hb2 (Nat.le_refl _) hb35
  have p1 := own_next o1 hb25
  have p2 := own_next o2 hb35
  have s12 := hb2.size
  have s23 := hb3.size
  have s34 := hb4.size
  simp only [World.size_drew, World.size_alloc] at p1
  refine bodyPost_ret (v := .agg #[.bool false, .slice none 0 0, .slice A1 (c - a) C1, .slice A2 (b - a) C2, .slice A5 (r2 - r1) C5]) (by simp [results, Tryz.results102, go_sem, T1, T2, T3, T4, T5]) rfl ⟨A1, C1, A2, C2, A5, C5, rfl, ⟨World.ownsRow_nil _ _ _ _, own_len l1.out ?_, own_len l2.out ?_, own_len l3.out ?_, by simp, by show ((keys.drop a).take (c - a)).length * 8 ≤ _; rw [l1.out]; omega, by show ((kids.drop a).take (b - a)).length * 8 ≤ _; rw [l2.out]; omega, by show ((buf.drop r1).take (r2 - r1)).length * 56 ≤ _; rw [l3.out]; omega⟩, ?_, ?_⟩
  · exact own_of_block (own_mono p1 (by omega)) fun k hk => set5_block w5 (w.heap.size + 1) 0 _ _ _ _ _ (by have := (p1.lt k hk).1; omega)
  · exact own_of_block (own_mono p2 (by omega)) fun k hk => set5_block w5 (w.heap.size + 1) 0 _ _ _ _ _ (by have := (p2.lt k hk).1; omega)
  · exact own_of_block (own_mono o5 (by omega)) fun k hk => set5_block w5 (w.heap.size + 1) 0 _ _ _ _ _ (by have := (o5.lt k hk).1; omega)
  · refine blocks_nodup (s1 := w.heap.size + 2) (s2 := w1.heap.size) (s3 := w2.heap.size) (fun x hx => by cases hx) (fun x hx => ?_) (fun x hx => own_lt o2 x hx) (fun x hx => ?_) Z1 s12
    · have := own_lt o1 x hx
      simp only [World.size_drew, World.size_alloc] at this
      exact this
    · have := own_lt o5 x hx; omega
  · exact set5_below G5 (by omega) 0 _ _ _ _ _

set_option maxRecDepth 20000 in
set_option maxHeartbeats 4000000 in
theorem part_inner_none (eA : Option Addr) (eC : Nat) (ents : List En) (kb ko : Nat) (kC : Nat) (keys : List Int) (db dO : Nat) (dC : Nat) (kids : List Int) (a b c : Nat) (w : World)
    (hk : RowAt w.heap.size w (some ⟨kb, ko, none⟩) (ints keys)) (hd : RowAt w.heap.size w (some ⟨db, dO, none⟩) (ints kids))
    (hkc : keys.length ≤ kC) (hdc : kids.length ≤ dC) (kz : keys.length * 8 ≤ 140737488351232) (dz : kids.length * 8 ≤ 140737488351232)
    (hkl : Hid (keys.length + 1 = kids.length)) (hbc : Hid (b = c + 1)) (hac : a < c) (hck : c ≤ keys.length) (hbk : b ≤ kids.length)
    (hr1 : Hid (waitA ⟨false, ents, keys, kids, []⟩ a = 0)) (hr2 : Hid (waitA ⟨false, ents, keys, kids, []⟩ b = 0)) :
    Calls Tryz.prog 102 #[.agg #[.bool false, .slice eA ents.length eC, .slice (some ⟨kb, ko, none⟩) keys.length kC, .slice (some ⟨db, dO, none⟩) kids.length dC, .slice none 0 0], .int .i64 (a : Int), .int .i64 (b : Int)] w
      fun e w' => ∃ A1 C1 A2 C2 A3 C3, e = .returned (.agg #[.bool false, .slice none 0 0, .slice A1 (c - a) C1, .slice A2 (b - a) C2, .slice A3 0 C3]) ∧
        PN.own w.heap.size w' ⟨false, none, 0, [], A1, C1, (keys.drop a).take (c - a), A2, C2, (kids.drop a).take (b - a), A3, C3, []⟩ ∧ (PN.mk false none 0 [] A1 C1 ((keys.drop a).take (c - a)) A2 C2 ((kids.drop a).take (b - a)) A3 C3 []).blocks.Nodup ∧ Below w.heap.size w w' := by
  have hab : a ≤ b := by have := hbc.out; omega
  have wb : IntKind.i64.wrap ((b : Int) - 1) = (c : Int) := by have := hbc.out; rw [IntKind.wrap_i64]; omega
  have i1 : (a : Int) ≤ (c : Int) := by omega
  have i2 : (c : Int) ≤ (kC : Int) := by omega
  have i3 : (a : Int) ≤ (b : Int) := by omega
  have i4 : (b : Int) ≤ (dC : Int) := by omega
  have i7 : (0 : Int) ≤ (a : Int) := by omega
  have n1 : ¬ kC = a := by omega
  have n2 : ¬ dC = a := by have := hbc.out; omega
  have l1 : Hid (((keys.drop a).take (c - a)).length = c - a) := by show _ = _; simp; omega
  have l2 : Hid (((kids.drop a).take (b - a)).length = b - a) := by show _ = _; simp; omega
  have hda : b - a ≤ kids.length := by omega
  have hca : c - a ≤ keys.length := by omega
  go_enter Tryz.func102, Tryz.ntmps102
  go_wp2_with fail
  go_region_held3 (fun w' => w'.cell? ⟨w.heap.size, 0, none⟩ = some (.bool false) ∧ w'.cell? ⟨w.heap.size, 1, none⟩ = some (.slice eA ents.length eC) ∧ w'.cell? ⟨w.heap.size, 2, none⟩ = some (.slice (some ⟨kb, ko, none⟩) keys.length kC) ∧ w'.cell? ⟨w.heap.size, 3, none⟩ = some (.slice (some ⟨db, dO, none⟩) kids.length dC) ∧ w'.cell? ⟨w.heap.size, 4, none⟩ = some (.slice none 0 0)) (go_keep)
    (first
      | (go_at_call_of 65 (kC - a); refine (freshI_n _ _ _ ((keys.drop a).take (c - a)) l1.out _ (hk.cutI.go ((two_below _ _ _).drew) (Nat.le_refl _) (Nat.le_refl _)) (fun h => by cases h) (by omega)).mono ?_; rintro e w1 ⟨v1, rfl, o1, hb1⟩; obtain ⟨A1, C1, rfl, -⟩ := own_row o1; have G1 : Below w.heap.size w w1 := nextB ((two_below _ _ _).drew) (Nat.le_refl _) hb1; have T1 := (bcells (hb1.mono (show w.heap.size + 2 ≤ _ by simp))).1; have F1 := (bcells (hb1.mono (show w.heap.size + 2 ≤ _ by simp))).2; have Z1 : w.heap.size + 2 ≤ w1.heap.size := Nat.le_trans (by simp) hb1.size)
      | (go_at_call_of 65 (dC - a); refine (freshI_n _ _ _ ((kids.drop a).take (b - a)) l2.out _ (hd.cutI.go G1 (Nat.le_refl _) (Nat.le_refl _)) (fun h => by cases h) (by omega)).mono ?_; rintro e w2 ⟨v2, rfl, o2, hb2⟩; obtain ⟨A2, C2, rfl, -⟩ := own_row o2; have G2 : Below w.heap.size w w2 := nextB G1 (Nat.le_refl _) hb2; have T2 := (bcells (hb2.mono (show w.heap.size + 2 ≤ _ by exact Z1))).1; have F2 := (bcells (hb2.mono (show w.heap.size + 2 ≤ _ by exact Z1))).2; have Z2 : w.heap.size + 2 ≤ w2.heap.size := Nat.le_trans Z1 hb2.size)
      | (have k0 : w2.heap.size ≤ w2.heap.size := Nat.le_refl _; go_at_call_of 126 (Value.int IntKind.i64 (a : Int)); refine (wait_any false eA eC ents _ kC keys _ dC kids none 0 [] a _ (hk.go G2 (Nat.le_refl _) (Nat.le_refl _)) (.inl rfl) kz (by simp) hkl.out (by omega) List.Pairwise.nil 0 hr1).mono ?_; rintro e w3 ⟨rfl, hb3⟩; have G3 : Below w.heap.size w w3 := nextB G2 (Nat.le_refl _) hb3; have T3 := (bcells (hb3.mono (show w.heap.size + 2 ≤ _ by exact Z2))).1; have F3 := (bcells (hb3.mono (show w.heap.size + 2 ≤ _ by exact Z2))).2; have Z3 : w.heap.size + 2 ≤ w3.heap.size := Nat.le_trans Z2 hb3.size)
      | (have k0 : w3.heap.size ≤ w3.heap.size := Nat.le_refl _; go_at_call_of 126 (Value.int IntKind.i64 (b : Int)); refine (wait_any false eA eC ents _ kC keys _ dC kids none 0 [] b _ (hk.go G3 (Nat.le_refl _) (Nat.le_refl _)) (.inl rfl) kz (by simp) hkl.out hbk List.Pairwise.nil 0 hr2).mono ?_; rintro e w4 ⟨rfl, hb4⟩; have G4 : Below w.heap.size w w4 := nextB G3 (Nat.le_refl _) hb4; have T4 := (bcells (hb4.mono (show w.heap.size + 2 ≤ _ by exact Z3))).1; have F4 := (bcells (hb4.mono (show w.heap.size + 2 ≤ _ by exact Z3))).2; have Z4 : w.heap.size + 2 ≤ w4.heap.size := Nat.le_trans Z3 hb4.size)
      | (go_at_call 39; refine (freshE_n none 0 0 [] rfl _ (.inl rfl) (fun _ => rfl) (by omega)).mono ?_; rintro e w5 ⟨v5, rfl, o5, hb5⟩; obtain ⟨A5, C5, rfl, -⟩ := own_row o5; have G5 : Below w.heap.size w w5 := nextB G4 (Nat.le_refl _) hb5; have T5 := (bcells (hb5.mono (show w.heap.size + 2 ≤ _ by exact Z4))).1; have F5 := (bcells (hb5.mono (show w.heap.size + 2 ≤ _ by exact Z4))).2; have Z5 : w.heap.size + 2 ≤ w5.heap.size := Nat.le_trans Z4 hb5.size))
  go_wp2
  have hb45 : Below w3.heap.size w3 w5 := nextB hb4 (Nat.le_refl _) hb5
  have hb35 : Below w2.heap.size w2 w5 := nextB hb3 (Nat.le_refl _) hb45
  have hb25 : Below w1.heap.size w1 w5 := nextB hb2 (Nat.le_refl _) hb35
  have p1 := own_next o1 hb25
  have p2 := own_next o2 hb35
  have s12 := hb2.size
  have s23 := hb3.size
  have s34 := hb4.size
  simp only [World.size_drew, World.size_alloc] at p1
  refine bodyPost_ret (v := .agg #[.bool false, .slice none 0 0, .slice A1 (c - a) C1, .slice A2 (b - a) C2, .slice A5 0 C5]) (by simp [results, Tryz.results102, go_sem, T1, T2, T3, T4, T5]) rfl ⟨A1, C1, A2, C2, A5, C5, rfl, ⟨World.ownsRow_nil _ _ _ _, own_len l1.out ?_, own_len l2.out ?_, ?_, by simp, by show ((keys.drop a).take (c - a)).length * 8 ≤ _; rw [l1.out]; omega, by show ((kids.drop a).take (b - a)).length * 8 ≤ _; rw [l2.out]; omega, by simp⟩, ?_, ?_⟩
  · exact own_of_block (own_mono p1 (by omega)) fun k hk => set5_block w5 (w.heap.size + 1) 0 _ _ _ _ _ (by have := (p1.lt k hk).1; omega)
  · exact own_of_block (own_mono p2 (by omega)) fun k hk => set5_block w5 (w.heap.size + 1) 0 _ _ _ _ _ (by have := (p2.lt k hk).1; omega)
  · exact own_of_block (own_mono o5 (by omega)) fun k hk => set5_block w5 (w.heap.size + 1) 0 _ _ _ _ _ (by have := (o5.lt k hk).1; omega)
  · refine blocks_nodup (s1 := w.heap.size + 2) (s2 := w1.heap.size) (s3 := w2.heap.size) (fun x hx => by cases hx) (fun x hx => ?_) (fun x hx => own_lt o2 x hx) (fun x hx => ?_) Z1 s12
    · have := own_lt o1 x hx
      simp only [World.size_drew, World.size_alloc] at this
      exact this
    · have := own_lt o5 x hx; omega
  · exact set5_below G5 (by omega) 0 _ _ _ _ _

end Go.Proofs.YtlojfgdpmaigmacGreatDoor

/- A tree in memory of one's own that grows: its nodes in a row that may move, each list in a block of its own. -/
namespace Go.Proofs.YtlojfgdpmaigmacGreatDoor
open Go.RowKit Plain

def feet (g : Nat) (qs : List PN) : List Nat := g :: qs.flatMap PN.blocks

structure NT (base : Nat) (w : World) (g C : Nat) (qs : List PN) : Prop where
  own : w.ownsRow base 84 5 (.slice (some ⟨g, 0, none⟩) qs.length C) qs.length (flatN qs)
  each : ∀ q ∈ qs, q.own base w
  apart : (feet g qs).Nodup
  z : qs.length * 104 ≤ 140737488351232

/-- .. and the variable that holds it. -/
structure TB (base : Nat) (w : World) (tb g C : Nat) (qs : List PN) (root : Int) : Prop where
  nt : NT base w g C qs
  box : RowL w tb 26 [.slice (some ⟨g, 0, none⟩) qs.length C, .int .i64 root]
  ne : tb ∉ feet g qs
  hb : base ≤ tb

section
variable {base g C : Nat} {w w' : World} {qs : List PN}

theorem NT.glt (h : NT base w g C qs) : base ≤ g ∧ g < w.heap.size := h.own.lt g rfl

theorem NT.lt (h : NT base w g C qs) : ∀ k ∈ feet g qs, base ≤ k ∧ k < w.heap.size := by
  intro k hk
  rcases List.mem_cons.1 hk with rfl | hk
  · exact h.glt
  · obtain ⟨q, hq, hk⟩ := List.mem_flatMap.1 hk
    exact (h.each q hq).lt k hk

theorem NT.of_blocks (h : NT base w g C qs) (hk : ∀ k ∈ feet g qs, w'.heap[k]? = w.heap[k]?) : NT base w' g C qs :=
  ⟨own_of_block h.own fun k hb => hk k (by simp [Value.ownBlock] at hb; subst hb; exact List.mem_cons_self), fun q hq => (h.each q hq).of_blocks fun k hb => hk k (List.mem_cons_of_mem _ (List.mem_flatMap.2 ⟨q, hq, hb⟩)), h.apart, h.z⟩

theorem NT.below {B : Nat} (h : NT base w g C qs) (hb : Below B w w') (hB : w.heap.size ≤ B) : NT base w' g C qs :=
  h.of_blocks fun k hk => hb.block k (Nat.lt_of_lt_of_le (h.lt k hk).2 hB)

theorem NT.cell (h : NT base w g C qs) {j : Nat} (hj : j < qs.length * 5) : w.cell? ⟨g, j, none⟩ = (flatN qs)[j]? := h.own.cellAt j hj

theorem NT.node (h : NT base w g C qs) {k : Nat} (hk : k < qs.length) : PnAt w g (k * 5) qs[k] := by
  have c : ∀ j, j < 5 → ∀ u, (qs[k]).vals[j]? = some u → w.cell? ⟨g, k * 5 + j, none⟩ = some u := fun j hj u hu => by
    rw [h.cell (by omega), flatN_get qs k j hk hj]; exact hu
  exact ⟨c 0 (by decide) _ rfl, c 1 (by decide) _ rfl, c 2 (by decide) _ rfl, c 3 (by decide) _ rfl, c 4 (by decide) _ rfl⟩

theorem NT.free (h : NT base w g C qs) (j : Nat) : w.frozen? ⟨g, j, none⟩ = false := h.own.frozenAt j

theorem NT.nodes (h : NT base w g C qs) : NodesAt w.heap.size w (some ⟨g, 0, none⟩) qs :=
  ⟨(own_ok h.own).1, fun _ hk => (h.each _ (List.getElem_mem hk)).ok, h.z⟩
end

theorem set_nodeAt (qs : List PN) (k : Nat) (hk : k < qs.length) (p : PN) :
    (((((flatN qs).set (k * 5) (.bool p.leaf)).set (k * 5 + 1) (.slice p.eA p.ents.length p.eC)).set (k * 5 + 2) (.slice p.kA p.keys.length p.kC)).set (k * 5 + 3) (.slice p.dA p.kids.length p.dC)).set (k * 5 + 4) (.slice p.bA p.buf.length p.bC) = flatN (qs.set k p) := by
  obtain ⟨e1, e2⟩ := set_split qs k p hk
  rw [e2]
  conv => lhs; rw [e1]
  have h := set_node (qs.take k) (qs.drop (k + 1)) qs[k] p
  rw [List.length_take, Nat.min_eq_left (Nat.le_of_lt hk)] at h
  exact h

theorem own_set {w : World} {base : Nat} {e : TypeId} {size n g C : Nat} {vs : List Value} (h : w.ownsRow base e size (.slice (some ⟨g, 0, none⟩) n C) n vs) (j : Nat) (v : Value) :
    (w.setCell ⟨g, j, none⟩ v).ownsRow base e size (.slice (some ⟨g, 0, none⟩) n C) n (vs.set j v) := by
  refine ⟨by simp [h.1], .inr ?_⟩
  rcases h.2 with ⟨hv, _⟩ | ⟨g', cap, cur, hv, hb, hg, hl, hm, hs, ht⟩
  · cases hv
  · cases hv
    refine ⟨g, C, cur.setIfInBounds j v, rfl, hb, ?_, hl, hm, by simp [hs], ?_⟩
    · simp [World.setCell, Array.getElem?_modify, hg]
    · rw [Array.toList_setIfInBounds, List.take_set, ht]

theorem feet_set {g k : Nat} {qs : List PN} {p : PN} (hk : k < qs.length) (ha : (feet g qs).Nodup) (hn : p.blocks.Nodup) (hd : ∀ b ∈ p.blocks, b ∉ feet g qs) : (feet g (qs.set k p)).Nodup ∧ ∀ b ∈ feet g (qs.set k p), b ∈ feet g qs ∨ b ∈ p.blocks := by
  obtain ⟨A, x, B, hq, hset⟩ : ∃ A x B, qs = A ++ x :: B ∧ qs.set k p = A ++ p :: B := ⟨_, _, _, set_split qs k p hk⟩
  rw [hset]
  clear hset hk
  subst hq
  unfold feet at *
  simp only [List.flatMap_append, List.flatMap_cons, List.nodup_cons, List.nodup_append, List.mem_append, List.mem_cons, not_or] at *
  obtain ⟨⟨a1, a2, a3⟩, a4, ⟨a5, a6, a7⟩, a8⟩ := ha
  refine ⟨⟨⟨a1, fun h => (hd g h).1 rfl, a3⟩, a4, ⟨hn, a6, fun b hb c hc e => (hd b hb).2.2.2 (e ▸ hc)⟩, fun b hb c hc e => ?_⟩, fun b hb => ?_⟩
  · rcases hc with hc | hc
    · exact (hd c hc).2.1 (e ▸ hb)
    · exact a8 b hb c (.inr hc) e
  · rcases hb with hb | hb | hb | hb
    · exact .inl (.inl hb)
    · exact .inl (.inr (.inl hb))
    · exact .inr hb
    · exact .inl (.inr (.inr (.inr hb)))

theorem NT.setNode {base g C k : Nat} {w : World} {qs : List PN} {p : PN} (h : NT base w g C qs) (hk : k < qs.length) (hp : p.own base w) (hn : p.blocks.Nodup) (hd : ∀ b ∈ p.blocks, b ∉ feet g qs) :
    NT base (((((w.setCell ⟨g, k * 5, none⟩ (.bool p.leaf)).setCell ⟨g, k * 5 + 1, none⟩ (.slice p.eA p.ents.length p.eC)).setCell ⟨g, k * 5 + 2, none⟩ (.slice p.kA p.keys.length p.kC)).setCell ⟨g, k * 5 + 3, none⟩ (.slice p.dA p.kids.length p.dC)).setCell ⟨g, k * 5 + 4, none⟩ (.slice p.bA p.buf.length p.bC)) g C (qs.set k p) := by
  have hg : g ∉ p.blocks := fun e => hd g e List.mem_cons_self
  have hs : ∀ b, b ≠ g → (((((w.setCell ⟨g, k * 5, none⟩ (.bool p.leaf)).setCell ⟨g, k * 5 + 1, none⟩ (.slice p.eA p.ents.length p.eC)).setCell ⟨g, k * 5 + 2, none⟩ (.slice p.kA p.keys.length p.kC)).setCell ⟨g, k * 5 + 3, none⟩ (.slice p.dA p.kids.length p.dC)).setCell ⟨g, k * 5 + 4, none⟩ (.slice p.bA p.buf.length p.bC)).heap[b]? = w.heap[b]? := fun b hb => set5_block w g (k * 5) _ _ _ _ _ hb
  refine ⟨?_, fun q hq => ?_, (feet_set hk h.apart hn hd).1, by simpa using h.z⟩
  · rw [← set_nodeAt qs k hk p, List.length_set]
    exact own_set (own_set (own_set (own_set (own_set h.own _ _) _ _) _ _) _ _) _ _
  · rcases List.mem_or_eq_of_mem_set hq with hq | rfl
    · refine (h.each q hq).of_blocks fun b hb => hs b ?_
      rintro rfl
      have := h.apart
      rw [feet, List.nodup_cons] at this
      exact this.1 (List.mem_flatMap.2 ⟨q, hq, hb⟩)
    · exact hp.of_blocks fun b hb => hs b (fun e => hg (e ▸ hb))

theorem flatN_one (ps : List PN) : ∀ u ∈ flatN ps, u.oneCell' = true := by
  induction ps with
  | nil => simp [flatN]
  | cons x r ih =>
    intro u hu
    simp only [flatN, PN.vals, List.cons_append, List.nil_append, List.mem_cons] at hu
    rcases hu with h | h | h | h | h | h
    all_goals first | (subst h; rfl) | exact ih u h

theorem newsN (W : World) (b : Nat) (t : TypeId) (p : PN) (h : RowL W b t p.vals) : ∀ j u, (flatN [p])[j]? = some u → W.cell? (Addr.add ⟨b, 0, none⟩ j) = some u := by
  intro j u hu
  rw [WideShapes.add_plain, Nat.zero_add, h.cell]
  simpa [flatN] using hu

theorem feet_append {g' : Nat} {g : Nat} {qs : List PN} {q : PN} (ha : (feet g qs).Nodup) (hn : q.blocks.Nodup) (hd : ∀ b ∈ q.blocks, b ∉ feet g qs) (hg : g' = g ∨ (g' ∉ feet g qs ∧ g' ∉ q.blocks)) : (feet g' (qs ++ [q])).Nodup := by
  unfold feet at *
  simp only [List.flatMap_append, List.flatMap_cons, List.flatMap_nil, List.append_nil, List.nodup_cons, List.nodup_append, List.mem_append, List.mem_cons, not_or] at *
  refine ⟨⟨?_, ?_⟩, ha.2, hn, fun b hb c hc e => (hd c hc).2 (e ▸ hb)⟩
  · rcases hg with rfl | hg
    · exact ha.1
    · exact hg.1.2
  · rcases hg with rfl | hg
    · intro h; exact (hd g' h).1 rfl
    · exact hg.2

end Go.Proofs.YtlojfgdpmaigmacGreatDoor

/- Parts of a node, in memory of their own. -/
import Derived.Test.YtlojfgdpmaigmafGreatDoorP22
import Derived.Test.YtlojfgdpmaigmafGreatDoorP13
import Derived.Test.YtlojfgdpmaigmafGreatDoorP20
namespace Go.Proofs.YtlojfgdpmaigmafGreatDoor
open Go.RowKit Plain

theorem q0l.cutI {B : Nat} {w : World} {b o a n : Nat} {zs : List Int} (h : q0l B w (some ⟨b, o, none⟩) (ints zs)) : q0l B w (some ⟨b, o + a, none⟩) (ints ((zs.drop a).take n)) := by
 rcases h with h | ⟨b', o', hA, hlt, hc⟩
 · left
   simp [ints] at h ⊢
   subst h
   simp
 · cases hA
   refine .inr ⟨b, o + a, rfl, hlt, fun j u hu => ?_⟩
   have hj : (ints zs)[a + j]? = some u := by
     have h1 : ((ints zs).drop a)[j]? = some u := by
       have e : ints ((zs.drop a).take n) = ((ints zs).drop a).take n := by simp [ints]
       rw [e, List.getElem?_take] at hu
       split at hu
       · exact hu
       · cases hu
     rwa [List.getElem?_drop] at h1
   have := hc (a + j) u hj
   rwa [← Nat.add_assoc] at this

theorem qav : ∀ (xs : List En) (a : Nat), q0d (xs.drop a) = (q0d xs).drop (a * 7)
 | [], a => by simp [q0d]
 | x :: r, 0 => by simp
 | x :: r, a + 1 => by
   rw [List.drop_succ_cons, qav r a, q0d, show (a + 1) * 7 = 7 + a * 7 by omega, ← List.drop_drop]
   rfl
theorem qas : ∀ (xs : List En) (a : Nat), q0d (xs.take a) = (q0d xs).take (a * 7)
 | [], a => by simp [q0d]
 | x :: r, 0 => by simp [q0d]
 | x :: r, a + 1 => by
   rw [List.take_succ_cons, q0d, qas r a, q0d, show (a + 1) * 7 = x.vals.length + a * 7 by simp [En.vals]; omega, List.take_length_add_append]

theorem q0l.cutE {B : Nat} {w : World} {b o a n : Nat} {xs : List En} (h : q0l B w (some ⟨b, o, none⟩) (q0d xs)) : q0l B w (some ⟨b, o + a * 7, none⟩) (q0d ((xs.drop a).take n)) := by
 rcases h with h | ⟨b', o', hA, hlt, hc⟩
 · left
   have : xs = [] := by
     have hl := q0x xs
     rw [h] at hl
     exact List.eq_nil_of_length_eq_zero (by simp at hl; omega)
   subst this
   simp [q0d]
 · cases hA
   refine .inr ⟨b, o + a * 7, rfl, hlt, fun j u hu => ?_⟩
   have hj : (q0d xs)[a * 7 + j]? = some u := by
     rw [qas, List.getElem?_take, qav] at hu
     split at hu
     · rwa [List.getElem?_drop] at hu
     · cases hu
   have := hc (a * 7 + j) u hj
   rwa [← Nat.add_assoc] at this

theorem q0l.cutIf {B : Nat} {w : World} {b o a n C : Nat} {xs : List En} (h : q0l B w (some ⟨b, o, none⟩) (q0d xs)) (hC : xs.length ≤ C) : q0l B w (if C = a then some ⟨b, o, none⟩ else some ⟨b, o + a * 7, none⟩) (q0d ((xs.drop a).take n)) := by
 split
 · left
   rw [List.drop_eq_nil_of_le (by omega)]
   simp [q0d]
 · exact h.cutE

theorem q0l.some_of {B : Nat} {w : World} {A : Option Addr} {vs : List Value} (h : q0l B w A vs) (hne : vs ≠ []) : ∃ b o, A = some ⟨b, o, none⟩ ∧ b < B := by
 rcases h with h | ⟨b, o, hA, hlt, _⟩
 · exact absurd h hne
 · exact ⟨b, o, hA, hlt⟩

theorem qfy (A : Option Addr) (C n : Nat) (xs : List En) (hn : xs.length = n) (w : World) (h : q0l w.heap.size w A (q0d xs)) (hA : A = none → C = 0) (hz : n * 56 ≤ 140737488351232) :
   Calls Tryz.prog 128 #[.slice A n C] w fun e w' => ∃ v, e = .returned v ∧ w'.ownsRow w.heap.size 86 7 v n (q0d xs) ∧ Below w.heap.size w w' := by
 subst hn
 exact q8y A C xs w h hA hz

theorem qcg (A : Option Addr) (C n : Nat) (zs : List Int) (hn : zs.length = n) (w : World) (h : q0l w.heap.size w A (ints zs)) (hA : A = none → C = 0) (hz : n * 8 ≤ 140737488351232) :
   Calls Tryz.prog 133 #[.slice A n C] w fun e w' => ∃ v, e = .returned v ∧ w'.ownsRow w.heap.size 3 1 v n (ints zs) ∧ Below w.heap.size w w' := by
 subst hn
 exact qar A C zs w h hA hz

theorem qaw {α : Type} {w : World} {base n size C : Nat} {e : TypeId} {A : Option Addr} {xs : List α} {vs : List Value} (h : xs.length = n) (ho : w.ownsRow base e size (.slice A n C) n vs) : w.ownsRow base e size (.slice A xs.length C) xs.length vs := by rw [h]; exact ho

theorem q3x (w : World) (o1 o2 : Obj) : Below w.heap.size w ((w.alloc o1).alloc o2) := ((Below.refl _ _).alloc (Nat.le_refl _) _).alloc (by simp) _

theorem q3s (w : World) (r o : Nat) (v0 v1 v2 v3 v4 : Value) {k : Nat} (hk : k ≠ r) :
   (((((w.setCell ⟨r, o, none⟩ v0).setCell ⟨r, o + 1, none⟩ v1).setCell ⟨r, o + 2, none⟩ v2).setCell ⟨r, o + 3, none⟩ v3).setCell ⟨r, o + 4, none⟩ v4).heap[k]? = w.heap[k]? := by
 simp only [Below.heap_setCell _ _ _ _ (show k ≠ (⟨r, _, none⟩ : Addr).block from hk)]

theorem qb2 {B : Nat} {a w : World} (h : Below B a w) {r : Nat} (hr : B ≤ r) (o : Nat) (v0 v1 v2 v3 v4 : Value) :
   Below B a (((((w.setCell ⟨r, o, none⟩ v0).setCell ⟨r, o + 1, none⟩ v1).setCell ⟨r, o + 2, none⟩ v2).setCell ⟨r, o + 3, none⟩ v3).setCell ⟨r, o + 4, none⟩ v4) :=
 ((((h.setCell hr _).setCell hr _).setCell hr _).setCell hr _).setCell hr _

set_option maxHeartbeats 1000000 in
theorem qqz (eA : Option Addr) (eC : Nat) (ents : List En) (kA : Option Addr) (kC : Nat) (keys : List Int) (dA : Option Addr) (dC : Nat) (kids : List Int) (bA : Option Addr) (bC : Nat) (buf : List En) (a b : Nat) (w : World)
   (he : q0l w.heap.size w eA (q0d ents)) (hec : ents.length ≤ eC) (ez : ents.length * 56 ≤ 140737488351232) (hab : a < b) (hbl : b ≤ ents.length) :
   Calls Tryz.prog 167 #[.agg #[.bool true, .slice eA ents.length eC, .slice kA keys.length kC, .slice dA kids.length dC, .slice bA buf.length bC], .int .i64 (a : Int), .int .i64 (b : Int)] w
     fun e w' => ∃ A1 C1, e = .returned (.agg #[.bool true, .slice A1 (b - a) C1, .slice none 0 0, .slice none 0 0, .slice none 0 0]) ∧ w'.ownsRow w.heap.size 86 7 (.slice A1 (b - a) C1) (b - a) (q0d ((ents.drop a).take (b - a))) ∧ Below w.heap.size w w' := by
 obtain ⟨eb, eo, rfl, hlt⟩ := he.some_of (by
   intro e
   have := q0x ents
   rw [e] at this
   simp at this
   omega)
 have HL : Hid (((ents.drop a).take (b - a)).length = b - a) := by show _ = _; simp; omega
 go_enter Tryz.func167, Tryz.ntmps167
 go_wp2_with (go_at_call 128; refine (qfy _ _ _ ((ents.drop a).take (b - a)) HL.out _ ((he.cutE.below (q3x _ _ _) (Nat.le_refl _)).mono (by simp; omega)) (fun h => by cases h) (by omega)).mono ?_; rintro e w1 ⟨v1, rfl, o1, hb1⟩; obtain ⟨A1, C1, rfl, -⟩ := q0k o1; obtain ⟨hc1, hf1⟩ := q0q hb1; have hz1 : w.heap.size + 1 < w1.heap.size := by have := hb1.size; simp at this; omega)
 refine bodyPost_ret (v := .agg #[.bool true, .slice A1 (b - a) C1, .slice none 0 0, .slice none 0 0, .slice none 0 0]) (by simp [results, Tryz.results167, go_sem, hc1]) rfl ⟨A1, C1, rfl, ?_, ?_⟩
 · refine q0c (q0o o1 (by simp; omega)) fun k hk => ?_
   have := (o1.lt k hk).1
   simp only [World.size_alloc] at this
   exact q3s w1 (w.heap.size + 1) 0 _ _ _ _ _ (by omega)
 · exact qb2 ((q3x w _ _).trans (hb1.mono (by simp; omega))) (by omega) 0 _ _ _ _ _

set_option maxRecDepth 20000 in
set_option maxHeartbeats 1000000 in
theorem qc3 (leaf : Bool) (eA : Option Addr) (eC : Nat) (ents : List En) (kA : Option Addr) (kC : Nat) (keys : List Int) (dA : Option Addr) (dC : Nat) (kids : List Int) (bA : Option Addr) (bC : Nat) (buf : List En) (kid : Nat) (w : World)
   (hk : q0l w.heap.size w kA (ints keys)) (hb : q0l w.heap.size w bA (q0d buf)) (kz : keys.length * 8 ≤ 140737488351232) (bz : buf.length * 56 ≤ 140737488351232) (hkl : keys.length + 1 = kids.length) (hkid : kid ≤ kids.length) (hp : buf.Pairwise (fun x y => x.key < y.key)) (r : Nat) (hr : Hid (q2o ⟨leaf, ents, keys, kids, buf⟩ kid = r)) :
   Calls Tryz.prog 185 #[.agg #[.bool leaf, .slice eA ents.length eC, .slice kA keys.length kC, .slice dA kids.length dC, .slice bA buf.length bC], .int .i64 (kid : Int)] w
     fun e w' => e = .returned (.int .i64 (r : Int)) ∧ Below w.heap.size w w' := by
 by_cases h0 : kid = 0
 · subst h0
   have E : Hid (r = 0) := by show _ = _; rw [← hr.out]; simp [q2o]
   clear hr
   go_enter Tryz.func185, Tryz.ntmps185
   go_wp2_with fail
   go_ret
   exact ⟨q3m (by rw [E.out]; rfl), (Below.refl _ _).alloc (Nat.le_refl _) _⟩
 · have h0' : ((kid : Int) == 0) = false := by simp; omega
   by_cases h1 : kid = kids.length
   · have E : Hid (r = buf.length) := by
       show _ = _
       rw [← hr.out]
       unfold q2o
       rw [if_neg h0, if_pos h1]
     subst h1
     clear hr
     go_enter Tryz.func185, Tryz.ntmps185
     go_wp2_with fail
     go_ret
     exact ⟨q3m (by rw [E.out]), (Below.refl _ _).alloc (Nat.le_refl _) _⟩
   · have h1' : ((kid : Int) == (kids.length : Int)) = false := by simp; omega
     obtain ⟨j, rfl⟩ : ∃ j, kid = j + 1 := ⟨kid - 1, by omega⟩
     have hj : j < keys.length := by omega
     obtain ⟨kb, ko, rfl, hkb, hkc⟩ := hk.int hj
     have E : Hid (lowN buf keys[j] = r) := by
       show _ = _
       rw [← hr.out]
       unfold q2o
       rw [if_neg h0, if_neg h1]
       simp [hj]
     have HK : Hid (keys.length + 1 = kids.length) := hkl
     clear hr h0 h1 hkl
     generalize keys[j] = kk at *
     have i0 : (0 : Int) ≤ (j : Int) := by omega
     have i1 : (j : Int) < (keys.length : Int) := by omega
     obtain ⟨kd, hkd⟩ : ∃ kd : Int, ((j + 1 : Nat) : Int) = kd := ⟨_, rfl⟩
     have wj : IntKind.i64.wrap (kd - 1) = (j : Int) := by rw [IntKind.wrap_i64]; omega
     rw [hkd] at h0' h1' ⊢
     clear hkd
     have hkb1 : kb < w.heap.size + 1 := by omega
     go_enter Tryz.func185, Tryz.ntmps185
     go_wp2_with fail
     go_region_held3 (fun w' => w'.cell? ⟨w.heap.size, 2, none⟩ = some (.slice (some ⟨kb, ko, none⟩) keys.length kC) ∧ w'.cell? ⟨w.heap.size, 4, none⟩ = some (.slice bA buf.length bC) ∧ w'.cell? ⟨kb, ko + j, none⟩ = some (.int .i64 kk)) (go_keep)
       (first | (go_at_call 160; refine (qc1 _ _ _ _ _ (hb.go (((Below.refl _ _).alloc (Nat.le_refl _) _).drew) (Nat.le_refl _) (Nat.le_refl _)) bz hp).mono ?_; rintro e w1 ⟨rfl, hb1⟩; have T1 := (q0q (hb1.mono (show w.heap.size + 1 ≤ _ by simp))).1))
     go_wp2
     go_ret
     exact ⟨q3m (by rw [E.out]), ((Below.refl _ _).alloc (Nat.le_refl _) _).drew.trans (hb1.mono (by simp))⟩

set_option maxHeartbeats 1000000 in
theorem qbd (leaf : Bool) (eA : Option Addr) (eC : Nat) (ents : List En) (kA : Option Addr) (kC : Nat) (keys : List Int) (dA : Option Addr) (dC : Nat) (kids : List Int) (bA : Option Addr) (bC : Nat) (buf : List En) (a : Nat) (w : World)
   (he : q0l w.heap.size w eA (q0d ents)) (hk : q0l w.heap.size w kA (ints keys)) (h1 : leaf = true → a < ents.length) (h2 : leaf = false → 0 < a ∧ a ≤ keys.length) (kz : keys.length * 8 ≤ 140737488351232) :
   Calls Tryz.prog 168 #[.agg #[.bool leaf, .slice eA ents.length eC, .slice kA keys.length kC, .slice dA kids.length dC, .slice bA buf.length bC], .int .i64 (a : Int)] w
     fun e w' => e = .returned (.int .i64 (q5c ⟨leaf, ents, keys, kids, buf⟩ a)) ∧ Below w.heap.size w w' := by
 cases leaf with
 | true =>
   have hl := h1 rfl
   obtain ⟨b, o, rfl, hbl, hat⟩ := he.en hl
   have E : Hid (q5c ⟨true, ents, keys, kids, buf⟩ a = ents[a].key) := by show _ = _; simp [q5c, hl]
   have c0 := hat.c0
   clear hat h2
   generalize ents[a] = x at *
   go_enter Tryz.func168, Tryz.ntmps168
   go_wp2
   go_ret
   exact ⟨q3m E.out.symm, (Below.refl _ _).alloc (Nat.le_refl _) _⟩
 | false =>
   obtain ⟨ha, hl⟩ := h2 rfl
   obtain ⟨j, rfl⟩ : ∃ j, a = j + 1 := ⟨a - 1, by omega⟩
   have hj : j < keys.length := by omega
   obtain ⟨b, o, rfl, hbl, hc⟩ := hk.int hj
   have E : Hid (q5c ⟨false, ents, keys, kids, buf⟩ (j + 1) = keys[j]) := by show _ = _; simp [q5c, hj]
   have i1 : (j : Int) < (keys.length : Int) := by omega
   obtain ⟨kd, hkd⟩ : ∃ kd : Int, ((j + 1 : Nat) : Int) = kd := ⟨_, rfl⟩
   have wj : kd - 1 = (j : Int) := by omega
   rw [hkd]
   have hk1 : 1 ≤ kd := by omega
   have hk2 : kd ≤ 1099511627776000 := by omega
   clear hkd h1 h2 ha hl
   generalize keys[j] = x at *
   go_enter Tryz.func168, Tryz.ntmps168
   go_wp2
   go_ret
   exact ⟨q3m E.out.symm, (Below.refl _ _).alloc (Nat.le_refl _) _⟩

set_option maxRecDepth 20000 in
set_option maxHeartbeats 4000000 in
theorem qd8 (eA : Option Addr) (eC : Nat) (ents : List En) (kb ko : Nat) (kC : Nat) (keys : List Int) (db dO : Nat) (dC : Nat) (kids : List Int) (fb fo : Nat) (bC : Nat) (buf : List En) (a b c r1 r2 : Nat) (w : World)
   (hk : q0l w.heap.size w (some ⟨kb, ko, none⟩) (ints keys)) (hd : q0l w.heap.size w (some ⟨db, dO, none⟩) (ints kids)) (hf : q0l w.heap.size w (some ⟨fb, fo, none⟩) (q0d buf))
   (hkc : keys.length ≤ kC) (hdc : kids.length ≤ dC) (hfc : buf.length ≤ bC) (kz : keys.length * 8 ≤ 140737488351232) (dz : kids.length * 8 ≤ 140737488351232) (bz : buf.length * 56 ≤ 140737488351232)
   (hkl : Hid (keys.length + 1 = kids.length)) (hbc : Hid (b = c + 1)) (hac : a < c) (hck : c ≤ keys.length) (hbk : b ≤ kids.length) (hp : List.Pairwise (fun x y : En => x.key < y.key) buf)
   (hr1 : Hid (q2o ⟨false, ents, keys, kids, buf⟩ a = r1)) (hr2 : Hid (q2o ⟨false, ents, keys, kids, buf⟩ b = r2)) (h12 : r1 ≤ r2) (h2f : r2 ≤ buf.length) :
   Calls Tryz.prog 167 #[.agg #[.bool false, .slice eA ents.length eC, .slice (some ⟨kb, ko, none⟩) keys.length kC, .slice (some ⟨db, dO, none⟩) kids.length dC, .slice (some ⟨fb, fo, none⟩) buf.length bC], .int .i64 (a : Int), .int .i64 (b : Int)] w
     fun e w' => ∃ A1 C1 A2 C2 A3 C3, e = .returned (.agg #[.bool false, .slice none 0 0, .slice A1 (c - a) C1, .slice A2 (b - a) C2, .slice A3 (r2 - r1) C3]) ∧
       PN.own w.heap.size w' ⟨false, none, 0, [], A1, C1, (keys.drop a).take (c - a), A2, C2, (kids.drop a).take (b - a), A3, C3, (buf.drop r1).take (r2 - r1)⟩ ∧ (PN.mk false none 0 [] A1 C1 ((keys.drop a).take (c - a)) A2 C2 ((kids.drop a).take (b - a)) A3 C3 ((buf.drop r1).take (r2 - r1))).blocks.Nodup ∧ Below w.heap.size w w' := by
 have hab : a ≤ b := by have := hbc.out; omega
 have wb : IntKind.i64.wrap ((b : Int) - 1) = (c : Int) := by have := hbc.out; rw [IntKind.wrap_i64]; omega
 have i1 : (a : Int) ≤ (c : Int) := by omega
 have i2 : (c : Int) ≤ (kC : Int) := by omega
 have i3 : (a : Int) ≤ (b : Int) := by omega
 have i4 : (b : Int) ≤ (dC : Int) := by omega
 have i5 : (r1 : Int) ≤ (r2 : Int) := by omega
 have i6 : (r2 : Int) ≤ (bC : Int) := by omega
 have i7 : (0 : Int) ≤ (a : Int) := by omega
 have i8 : (0 : Int) ≤ (r1 : Int) := by omega
 have n1 : ¬ kC = a := by omega
 have n2 : ¬ dC = a := by have := hbc.out; omega
 obtain ⟨A', hA'⟩ : ∃ A', (if bC = r1 then some (⟨fb, fo, none⟩ : Addr) else some ⟨fb, fo + r1 * 7, none⟩) = A' := ⟨_, rfl⟩
 have HA : Hid (∀ n, q0l w.heap.size w A' (q0d ((buf.drop r1).take n))) := fun n => hA' ▸ hf.cutIf hfc
 have HN : Hid (A' ≠ none) := by rw [← hA']; intro h; split at h <;> cases h
 have l1 : Hid (((keys.drop a).take (c - a)).length = c - a) := by show _ = _; simp; omega
 have l2 : Hid (((kids.drop a).take (b - a)).length = b - a) := by show _ = _; simp; omega
 have l3 : Hid (((buf.drop r1).take (r2 - r1)).length = r2 - r1) := by show _ = _; simp; omega
 have hda : b - a ≤ kids.length := by omega
 have hca : c - a ≤ keys.length := by omega
 have hba : r2 - r1 ≤ buf.length := by omega
 go_enter Tryz.func167, Tryz.ntmps167
 go_wp2_with fail
 go_region_held3 (fun w' => w'.cell? ⟨w.heap.size, 0, none⟩ = some (.bool false) ∧ w'.cell? ⟨w.heap.size, 1, none⟩ = some (.slice eA ents.length eC) ∧ w'.cell? ⟨w.heap.size, 2, none⟩ = some (.slice (some ⟨kb, ko, none⟩) keys.length kC) ∧ w'.cell? ⟨w.heap.size, 3, none⟩ = some (.slice (some ⟨db, dO, none⟩) kids.length dC) ∧ w'.cell? ⟨w.heap.size, 4, none⟩ = some (.slice (some ⟨fb, fo, none⟩) buf.length bC)) (go_keep)
   (first
     | (go_at_call_of 133 (kC - a); refine (qcg _ _ _ ((keys.drop a).take (c - a)) l1.out _ (hk.cutI.go ((q3x _ _ _).drew) (Nat.le_refl _) (Nat.le_refl _)) (fun h => by cases h) (by omega)).mono ?_; rintro e w1 ⟨v1, rfl, o1, hb1⟩; obtain ⟨A1, C1, rfl, -⟩ := q0k o1; have G1 : Below w.heap.size w w1 := q0e ((q3x _ _ _).drew) (Nat.le_refl _) hb1; have T1 := (q0q (hb1.mono (show w.heap.size + 2 ≤ _ by simp))).1; have F1 := (q0q (hb1.mono (show w.heap.size + 2 ≤ _ by simp))).2; have Z1 : w.heap.size + 2 ≤ w1.heap.size := Nat.le_trans (by simp) hb1.size)
     | (go_at_call_of 133 (dC - a); refine (qcg _ _ _ ((kids.drop a).take (b - a)) l2.out _ (hd.cutI.go G1 (Nat.le_refl _) (Nat.le_refl _)) (fun h => by cases h) (by omega)).mono ?_; rintro e w2 ⟨v2, rfl, o2, hb2⟩; obtain ⟨A2, C2, rfl, -⟩ := q0k o2; have G2 : Below w.heap.size w w2 := q0e G1 (Nat.le_refl _) hb2; have T2 := (q0q (hb2.mono (show w.heap.size + 2 ≤ _ by exact Z1))).1; have F2 := (q0q (hb2.mono (show w.heap.size + 2 ≤ _ by exact Z1))).2; have Z2 : w.heap.size + 2 ≤ w2.heap.size := Nat.le_trans Z1 hb2.size)
     | (have k0 : w2.heap.size ≤ w2.heap.size := Nat.le_refl _; go_at_call_of 185 (Value.int IntKind.i64 (a : Int)); refine (qc3 false eA eC ents _ kC keys _ dC kids _ bC buf a _ (hk.go G2 (Nat.le_refl _) (Nat.le_refl _)) (hf.go G2 (Nat.le_refl _) (Nat.le_refl _)) kz bz hkl.out (by omega) hp r1 hr1).mono ?_; rintro e w3 ⟨rfl, hb3⟩; have G3 : Below w.heap.size w w3 := q0e G2 (Nat.le_refl _) hb3; have T3 := (q0q (hb3.mono (show w.heap.size + 2 ≤ _ by exact Z2))).1; have F3 := (q0q (hb3.mono (show w.heap.size + 2 ≤ _ by exact Z2))).2; have Z3 : w.heap.size + 2 ≤ w3.heap.size := Nat.le_trans Z2 hb3.size)
     | (have k0 : w3.heap.size ≤ w3.heap.size := Nat.le_refl _; go_at_call_of 185 (Value.int IntKind.i64 (b : Int)); refine (qc3 false eA eC ents _ kC keys _ dC kids _ bC buf b _ (hk.go G3 (Nat.le_refl _) (Nat.le_refl _)) (hf.go G3 (Nat.le_refl _) (Nat.le_refl _)) kz bz hkl.out hbk hp r2 hr2).mono ?_; rintro e w4 ⟨rfl, hb4⟩; have G4 : Below w.heap.size w w4 := q0e G3 (Nat.le_refl _) hb4; have T4 := (q0q (hb4.mono (show w.heap.size + 2 ≤ _ by exact Z3))).1; have F4 := (q0q (hb4.mono (show w.heap.size + 2 ≤ _ by exact Z3))).2; have Z4 : w.heap.size + 2 ≤ w4.heap.size := Nat.le_trans Z3 hb4.size)
     | (go_at_call 128; refine (qfy _ _ _ ((buf.drop r1).take (r2 - r1)) l3.out _ ((HA.out _).go G4 (Nat.le_refl _) (Nat.le_refl _)) (fun h => absurd h HN.out) (by omega)).mono ?_; rintro e w5 ⟨v5, rfl, o5, hb5⟩; obtain ⟨A5, C5, rfl, -⟩ := q0k o5; have G5 : Below w.heap.size w w5 := q0e G4 (Nat.le_refl _) hb5; have T5 := (q0q (hb5.mono (show w.heap.size + 2 ≤ _ by exact Z4))).1; have F5 := (q0q (hb5.mono (show w.heap.size + 2 ≤ _ by exact Z4))).2; have Z5 : w.heap.size + 2 ≤ w5.heap.size := Nat.le_trans Z4 hb5.size))
 go_wp2
 have hb45 : Below w3.heap.size w3 w5 := q0e hb4 (Nat.le_refl _) hb5
 have hb35 : Below w2.heap.size w2 w5 := q0e hb3 (Nat.le_refl _) hb45
 have hb25 : Below w1.heap.size w1 w5 := q0e hb2 (Nat.le_refl _) hb35
 have p1 := q1d o1 hb25
 have p2 := q1d o2 hb35
 have s12 := hb2.size
 have s23 := hb3.size
 have s34 := hb4.size
 simp only [World.size_drew, World.size_alloc] at p1
 refine bodyPost_ret (v := .agg #[.bool false, .slice none 0 0, .slice A1 (c - a) C1, .slice A2 (b - a) C2, .slice A5 (r2 - r1) C5]) (by simp [results, Tryz.results167, go_sem, T1, T2, T3, T4, T5]) rfl ⟨A1, C1, A2, C2, A5, C5, rfl, ⟨World.ownsRow_nil _ _ _ _, qaw l1.out ?_, qaw l2.out ?_, qaw l3.out ?_, by simp, by show ((keys.drop a).take (c - a)).length * 8 ≤ _; rw [l1.out]; omega, by show ((kids.drop a).take (b - a)).length * 8 ≤ _; rw [l2.out]; omega, by show ((buf.drop r1).take (r2 - r1)).length * 56 ≤ _; rw [l3.out]; omega⟩, ?_, ?_⟩
 · exact q0c (q0o p1 (by omega)) fun k hk => q3s w5 (w.heap.size + 1) 0 _ _ _ _ _ (by have := (p1.lt k hk).1; omega)
 · exact q0c (q0o p2 (by omega)) fun k hk => q3s w5 (w.heap.size + 1) 0 _ _ _ _ _ (by have := (p2.lt k hk).1; omega)
 · exact q0c (q0o o5 (by omega)) fun k hk => q3s w5 (w.heap.size + 1) 0 _ _ _ _ _ (by have := (o5.lt k hk).1; omega)
 · refine blocks_nodup (s1 := w.heap.size + 2) (s2 := w1.heap.size) (s3 := w2.heap.size) (fun x hx => by cases hx) (fun x hx => ?_) (fun x hx => q4g o2 x hx) (fun x hx => ?_) Z1 s12
   · have := q4g o1 x hx
     simp only [World.size_drew, World.size_alloc] at this
     exact this
   · have := q4g o5 x hx; omega
 · exact qb2 G5 (by omega) 0 _ _ _ _ _

set_option maxRecDepth 20000 in
set_option maxHeartbeats 4000000 in
theorem qdh (eA : Option Addr) (eC : Nat) (ents : List En) (kb ko : Nat) (kC : Nat) (keys : List Int) (db dO : Nat) (dC : Nat) (kids : List Int) (a b c : Nat) (w : World)
   (hk : q0l w.heap.size w (some ⟨kb, ko, none⟩) (ints keys)) (hd : q0l w.heap.size w (some ⟨db, dO, none⟩) (ints kids))
   (hkc : keys.length ≤ kC) (hdc : kids.length ≤ dC) (kz : keys.length * 8 ≤ 140737488351232) (dz : kids.length * 8 ≤ 140737488351232)
   (hkl : Hid (keys.length + 1 = kids.length)) (hbc : Hid (b = c + 1)) (hac : a < c) (hck : c ≤ keys.length) (hbk : b ≤ kids.length)
   (hr1 : Hid (q2o ⟨false, ents, keys, kids, []⟩ a = 0)) (hr2 : Hid (q2o ⟨false, ents, keys, kids, []⟩ b = 0)) :
   Calls Tryz.prog 167 #[.agg #[.bool false, .slice eA ents.length eC, .slice (some ⟨kb, ko, none⟩) keys.length kC, .slice (some ⟨db, dO, none⟩) kids.length dC, .slice none 0 0], .int .i64 (a : Int), .int .i64 (b : Int)] w
     fun e w' => ∃ A1 C1 A2 C2 A3 C3, e = .returned (.agg #[.bool false, .slice none 0 0, .slice A1 (c - a) C1, .slice A2 (b - a) C2, .slice A3 0 C3]) ∧
       PN.own w.heap.size w' ⟨false, none, 0, [], A1, C1, (keys.drop a).take (c - a), A2, C2, (kids.drop a).take (b - a), A3, C3, []⟩ ∧ (PN.mk false none 0 [] A1 C1 ((keys.drop a).take (c - a)) A2 C2 ((kids.drop a).take (b - a)) A3 C3 []).blocks.Nodup ∧ Below w.heap.size w w' := by
 have hab : a ≤ b := by have := hbc.out; omega
 have wb : IntKind.i64.wrap ((b : Int) - 1) = (c : Int) := by have := hbc.out; rw [IntKind.wrap_i64]; omega
 have i1 : (a : Int) ≤ (c : Int) := by omega
 have i2 : (c : Int) ≤ (kC : Int) := by omega
 have i3 : (a : Int) ≤ (b : Int) := by omega
 have i4 : (b : Int) ≤ (dC : Int) := by omega
 have i7 : (0 : Int) ≤ (a : Int) := by omega
 have n1 : ¬ kC = a := by omega
 have n2 : ¬ dC = a := by have := hbc.out; omega
 have l1 : Hid (((keys.drop a).take (c - a)).length = c - a) := by show _ = _; simp; omega
 have l2 : Hid (((kids.drop a).take (b - a)).length = b - a) := by show _ = _; simp; omega
 have hda : b - a ≤ kids.length := by omega
 have hca : c - a ≤ keys.length := by omega
 go_enter Tryz.func167, Tryz.ntmps167
 go_wp2_with fail
 go_region_held3 (fun w' => w'.cell? ⟨w.heap.size, 0, none⟩ = some (.bool false) ∧ w'.cell? ⟨w.heap.size, 1, none⟩ = some (.slice eA ents.length eC) ∧ w'.cell? ⟨w.heap.size, 2, none⟩ = some (.slice (some ⟨kb, ko, none⟩) keys.length kC) ∧ w'.cell? ⟨w.heap.size, 3, none⟩ = some (.slice (some ⟨db, dO, none⟩) kids.length dC) ∧ w'.cell? ⟨w.heap.size, 4, none⟩ = some (.slice none 0 0)) (go_keep)
   (first
     | (go_at_call_of 133 (kC - a); refine (qcg _ _ _ ((keys.drop a).take (c - a)) l1.out _ (hk.cutI.go ((q3x _ _ _).drew) (Nat.le_refl _) (Nat.le_refl _)) (fun h => by cases h) (by omega)).mono ?_; rintro e w1 ⟨v1, rfl, o1, hb1⟩; obtain ⟨A1, C1, rfl, -⟩ := q0k o1; have G1 : Below w.heap.size w w1 := q0e ((q3x _ _ _).drew) (Nat.le_refl _) hb1; have T1 := (q0q (hb1.mono (show w.heap.size + 2 ≤ _ by simp))).1; have F1 := (q0q (hb1.mono (show w.heap.size + 2 ≤ _ by simp))).2; have Z1 : w.heap.size + 2 ≤ w1.heap.size := Nat.le_trans (by simp) hb1.size)
     | (go_at_call_of 133 (dC - a); refine (qcg _ _ _ ((kids.drop a).take (b - a)) l2.out _ (hd.cutI.go G1 (Nat.le_refl _) (Nat.le_refl _)) (fun h => by cases h) (by omega)).mono ?_; rintro e w2 ⟨v2, rfl, o2, hb2⟩; obtain ⟨A2, C2, rfl, -⟩ := q0k o2; have G2 : Below w.heap.size w w2 := q0e G1 (Nat.le_refl _) hb2; have T2 := (q0q (hb2.mono (show w.heap.size + 2 ≤ _ by exact Z1))).1; have F2 := (q0q (hb2.mono (show w.heap.size + 2 ≤ _ by exact Z1))).2; have Z2 : w.heap.size + 2 ≤ w2.heap.size := Nat.le_trans Z1 hb2.size)
     | (have k0 : w2.heap.size ≤ w2.heap.size := Nat.le_refl _; go_at_call_of 185 (Value.int IntKind.i64 (a : Int)); refine (qc3 false eA eC ents _ kC keys _ dC kids none 0 [] a _ (hk.go G2 (Nat.le_refl _) (Nat.le_refl _)) (.inl rfl) kz (by simp) hkl.out (by omega) List.Pairwise.nil 0 hr1).mono ?_; rintro e w3 ⟨rfl, hb3⟩; have G3 : Below w.heap.size w w3 := q0e G2 (Nat.le_refl _) hb3; have T3 := (q0q (hb3.mono (show w.heap.size + 2 ≤ _ by exact Z2))).1; have F3 := (q0q (hb3.mono (show w.heap.size + 2 ≤ _ by exact Z2))).2; have Z3 : w.heap.size + 2 ≤ w3.heap.size := Nat.le_trans Z2 hb3.size)
     | (have k0 : w3.heap.size ≤ w3.heap.size := Nat.le_refl _; go_at_call_of 185 (Value.int IntKind.i64 (b : Int)); refine (qc3 false eA eC ents _ kC keys _ dC kids none 0 [] b _ (hk.go G3 (Nat.le_refl _) (Nat.le_refl _)) (.inl rfl) kz (by simp) hkl.out hbk List.Pairwise.nil 0 hr2).mono ?_; rintro e w4 ⟨rfl, hb4⟩; have G4 : Below w.heap.size w w4 := q0e G3 (Nat.le_refl _) hb4; have T4 := (q0q (hb4.mono (show w.heap.size + 2 ≤ _ by exact Z3))).1; have F4 := (q0q (hb4.mono (show w.heap.size + 2 ≤ _ by exact Z3))).2; have Z4 : w.heap.size + 2 ≤ w4.heap.size := Nat.le_trans Z3 hb4.size)
     | (go_at_call 128; refine (qfy none 0 0 [] rfl _ (.inl rfl) (fun _ => rfl) (by omega)).mono ?_; rintro e w5 ⟨v5, rfl, o5, hb5⟩; obtain ⟨A5, C5, rfl, -⟩ := q0k o5; have G5 : Below w.heap.size w w5 := q0e G4 (Nat.le_refl _) hb5; have T5 := (q0q (hb5.mono (show w.heap.size + 2 ≤ _ by exact Z4))).1; have F5 := (q0q (hb5.mono (show w.heap.size + 2 ≤ _ by exact Z4))).2; have Z5 : w.heap.size + 2 ≤ w5.heap.size := Nat.le_trans Z4 hb5.size))
 go_wp2
 have hb45 : Below w3.heap.size w3 w5 := q0e hb4 (Nat.le_refl _) hb5
 have hb35 : Below w2.heap.size w2 w5 := q0e hb3 (Nat.le_refl _) hb45
 have hb25 : Below w1.heap.size w1 w5 := q0e hb2 (Nat.le_refl _) hb35
 have p1 := q1d o1 hb25
 have p2 := q1d o2 hb35
 have s12 := hb2.size
 have s23 := hb3.size
 have s34 := hb4.size
 simp only [World.size_drew, World.size_alloc] at p1
 refine bodyPost_ret (v := .agg #[.bool false, .slice none 0 0, .slice A1 (c - a) C1, .slice A2 (b - a) C2, .slice A5 0 C5]) (by simp [results, Tryz.results167, go_sem, T1, T2, T3, T4, T5]) rfl ⟨A1, C1, A2, C2, A5, C5, rfl, ⟨World.ownsRow_nil _ _ _ _, qaw l1.out ?_, qaw l2.out ?_, ?_, by simp, by show ((keys.drop a).take (c - a)).length * 8 ≤ _; rw [l1.out]; omega, by show ((kids.drop a).take (b - a)).length * 8 ≤ _; rw [l2.out]; omega, by simp⟩, ?_, ?_⟩
 · exact q0c (q0o p1 (by omega)) fun k hk => q3s w5 (w.heap.size + 1) 0 _ _ _ _ _ (by have := (p1.lt k hk).1; omega)
 · exact q0c (q0o p2 (by omega)) fun k hk => q3s w5 (w.heap.size + 1) 0 _ _ _ _ _ (by have := (p2.lt k hk).1; omega)
 · exact q0c (q0o o5 (by omega)) fun k hk => q3s w5 (w.heap.size + 1) 0 _ _ _ _ _ (by have := (o5.lt k hk).1; omega)
 · refine blocks_nodup (s1 := w.heap.size + 2) (s2 := w1.heap.size) (s3 := w2.heap.size) (fun x hx => by cases hx) (fun x hx => ?_) (fun x hx => q4g o2 x hx) (fun x hx => ?_) Z1 s12
   · have := q4g o1 x hx
     simp only [World.size_drew, World.size_alloc] at this
     exact this
   · have := q4g o5 x hx; omega
 · exact qb2 G5 (by omega) 0 _ _ _ _ _

end Go.Proofs.YtlojfgdpmaigmafGreatDoor

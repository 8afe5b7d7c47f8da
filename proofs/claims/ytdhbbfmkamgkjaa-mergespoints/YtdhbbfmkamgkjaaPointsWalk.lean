/- What MergesPoints of package winnowerkeep does. -/
import Derived.Test.YtdhbbfmkamgkjaaPoints
import Derived.Test.YtdhbbfmkamgkjaaPicked
import Derived.Test.YtdhbbfmkamgkjaaOpen
import Derived.Handy
namespace Go.Proofs.Ytdhbbfmkamgkjaa
open Go.ChangeShapes Go.WideShapes Go.ChangeAt Go.RowKit Plain

/-- A slice of integers that came in: nil, or a row of cells. -/
def IsRow (w : World) (a : Option Addr) (len cap : Nat) (zs : List Int) : Prop :=
  (a = none ∧ len = 0 ∧ cap = 0 ∧ zs = []) ∨
  ∃ x, a = some x ∧ len ≤ cap ∧ cap ≤ maxLen ∧ zs.length = cap ∧ (∀ i, i < zs.length → w.cell? (x.add i) = some (.int .i64 (zs.getD i 0))) ∧ ∀ n ∈ zs, (Lit.int .i64 n).wf = true

theorem open_row {H : Type} {enc : TypeId × Value → H} {W : World} {a : Option Addr} {len cap : Nat} {d : DataW H} {p : List MemPlace}
    (h : DataW.Trod enc Try.prog W 0 (fun _ => true) true 32 (.slice a len cap) d p) : ∃ zs, IsRow W a len cap zs := by
  obtain ⟨fuel, hf⟩ := h
  rcases open_ints Try.underlying32 Try.underlying3 (by kernel_rfl) hf with ⟨hcs, _⟩ | ⟨x, l, c, zs, hcs, _, hl, hm, hz, _, hcell, hwz⟩
  · simp [Value.cells] at hcs
    obtain ⟨rfl, rfl, rfl⟩ := hcs
    exact ⟨[], .inl ⟨rfl, rfl, rfl, rfl⟩⟩
  · simp [Value.cells] at hcs
    obtain ⟨rfl, rfl, rfl⟩ := hcs
    exact ⟨zs, .inr ⟨_, rfl, hl, hm, by simpa using hz, hcell, hwz⟩⟩

/-- The rollup o lies in block b, which may be written. -/
def RuAt (w : World) (b : Nat) (o : Ru) : Prop :=
  (w.cell? ⟨b, 0, none⟩ = some (.int .i64 o.c) ∧ w.cell? ⟨b, 1, none⟩ = some (.int .i64 o.s) ∧ w.cell? ⟨b, 2, none⟩ = some (.int .i64 o.lo) ∧ w.cell? ⟨b, 3, none⟩ = some (.int .i64 o.hi) ∧ w.cell? ⟨b, 4, none⟩ = some (.int .i64 o.t) ∧ w.cell? ⟨b, 5, none⟩ = some (.int .i64 o.l)) ∧
  (w.frozen? ⟨b, 0, none⟩ = false ∧ w.frozen? ⟨b, 1, none⟩ = false ∧ w.frozen? ⟨b, 2, none⟩ = false ∧ w.frozen? ⟨b, 3, none⟩ = false ∧ w.frozen? ⟨b, 4, none⟩ = false ∧ w.frozen? ⟨b, 5, none⟩ = false)

theorem RuAt.below {w w' : World} {B b : Nat} {o : Ru} (h : RuAt w b o) (hb : Below B w w') (hB : b < B) : RuAt w' b o := by
  obtain ⟨⟨q0, q1, q2, q3, q4, q5⟩, ⟨f0, f1, f2, f3, f4, f5⟩⟩ := h
  have C : ∀ i, w'.cell? ⟨b, i, none⟩ = w.cell? ⟨b, i, none⟩ := fun i => hb.cell (p := ⟨b, i, none⟩) hB
  have F : ∀ i, w'.frozen? ⟨b, i, none⟩ = w.frozen? ⟨b, i, none⟩ := fun i => hb.frozen (p := ⟨b, i, none⟩) hB
  exact ⟨⟨(C 0).trans q0, (C 1).trans q1, (C 2).trans q2, (C 3).trans q3, (C 4).trans q4, (C 5).trans q5⟩, (F 0).trans f0, (F 1).trans f1, (F 2).trans f2, (F 3).trans f3, (F 4).trans f4, (F 5).trans f5⟩

theorem RuAt.set {w : World} {b : Nat} {o : Ru} (h : RuAt w b o) (hb : b < w.heap.size) (o' : Ru) (c : Array Value) (t : TypeId) :
    RuAt (((((((w.setCell ⟨b, 0, none⟩ (.int .i64 o'.c)).setCell ⟨b, 1, none⟩ (.int .i64 o'.s)).setCell ⟨b, 2, none⟩ (.int .i64 o'.lo)).setCell ⟨b, 3, none⟩ (.int .i64 o'.hi)).setCell ⟨b, 4, none⟩ (.int .i64 o'.t)).setCell ⟨b, 5, none⟩ (.int .i64 o'.l)).alloc (.cells c t)) b o' := by
  obtain ⟨⟨q0, q1, q2, q3, q4, q5⟩, ⟨f0, f1, f2, f3, f4, f5⟩⟩ := h
  have hne : ¬ b = w.heap.size := by omega
  refine ⟨⟨?_, ?_, ?_, ?_, ?_, ?_⟩, ?_, ?_, ?_, ?_, ?_, ?_⟩ <;> simp [go_sem, *]

theorem inv_sum {k : Nat} {o : Ru} (h : Inv k o) : -30000 ≤ o.s ∧ o.s ≤ 30000 := by
  obtain ⟨h1, h2, h3, h4⟩ := h
  by_cases e : k = 0
  · rw [h3 e]; simp [zro]
  · obtain ⟨_, b, c, d, e'⟩ := h4 (by omega)
    have m1 : o.c * (-1000) ≤ o.c * o.lo := Int.mul_le_mul_of_nonneg_left (by omega) (by omega)
    have m2 : o.c * o.hi ≤ o.c * 1000 := Int.mul_le_mul_of_nonneg_left (by omega) (by omega)
    omega

theorem nxt_eq {k : Nat} {v : Int} (o : Ru) (h : ¬ k = 0) : nxt k o v = ⟨(k : Int) + 1, o.s + v, mn o.lo v, mx o.hi v, k, v⟩ := by simp [nxt, h]

theorem inv_zero : Inv 0 zro := ⟨by omega, rfl, fun _ => rfl, fun h => by omega⟩

theorem merge_first (k : Nat) (h0 : k = 0) (v : Int) (w : World) (hv : -1000 ≤ v ∧ v ≤ 1000) :
    Calls Try.prog 11 #[.agg #[.int .i64 0, .int .i64 0, .int .i64 0, .int .i64 0, .int .i64 0, .int .i64 0], .agg #[.int .i64 1, .int .i64 v, .int .i64 v, .int .i64 v, .int .i64 k, .int .i64 v]] w fun e w' => e = .returned (.tuple #[.agg #[.int .i64 1, .int .i64 v, .int .i64 v, .int .i64 v, .int .i64 k, .int .i64 v], .int .i64 0]) ∧ Below w.heap.size w w' := by
  subst h0
  have := merge_any zro (one (0 : Nat) v) w
  rw [(inv_step inv_zero (by omega) hv).1] at this
  exact this

theorem inv_first (k : Nat) (h0 : k = 0) (v : Int) (hv : -1000 ≤ v ∧ v ≤ 1000) : Inv (k + 1) ⟨1, v, v, v, k, v⟩ := by
  subst h0
  exact (inv_step inv_zero (by omega) hv).2

theorem merge_next (k : Nat) (o : Ru) (v : Int) (w : World) (h : Inv k o) (hk : k < 30) (h0 : ¬ k = 0) (hv : -1000 ≤ v ∧ v ≤ 1000) :
    Calls Try.prog 11 #[.agg #[.int .i64 o.c, .int .i64 o.s, .int .i64 o.lo, .int .i64 o.hi, .int .i64 o.t, .int .i64 o.l], .agg #[.int .i64 1, .int .i64 v, .int .i64 v, .int .i64 v, .int .i64 k, .int .i64 v]] w fun e w' => e = .returned (.tuple #[.agg #[.int .i64 (k + 1), .int .i64 (o.s + v), .int .i64 (mn o.lo v), .int .i64 (mx o.hi v), .int .i64 k, .int .i64 v], .int .i64 0]) ∧ Below w.heap.size w w' := by
  have := merge_any o (one k v) w
  rw [(inv_step h hk hv).1] at this
  simp only [nxt, if_neg h0] at this
  exact this

set_option maxRecDepth 20000 in
set_option maxHeartbeats 1000000 in
theorem points_core (b off len cap : Nat) (zs : List Int) (w : World) (hl : len ≤ cap) (_hm : cap ≤ maxLen) (hcell : ∀ i, i < len → w.cell? ⟨b, off + i, none⟩ = some (.int .i64 (zs.getD i 0))) (hbd : ∀ i, -9223372036854775808 ≤ zs.getD i 0 ∧ zs.getD i 0 ≤ 9223372036854775807) (hb : 0 < len → b < w.heap.size) :
    Calls Try.prog 6 #[.slice (some ⟨b, off, none⟩) len cap] w fun e w' => e = .returned (.bool true) ∧ Below w.heap.size w w' := by
  unfold maxLen at _hm
  go_enter Try.func6, Try.ntmps6
  go_wp2
  have HC : Hid (∀ i, i < len → w.cell? ⟨b, off + i, none⟩ = some (.int .i64 (zs.getD i 0))) := hcell
  have HB : Hid (∀ i, -9223372036854775808 ≤ zs.getD i 0 ∧ zs.getD i 0 ≤ 9223372036854775807) := hbd
  clear hcell hbd
  go_loopw [4, 5, 6, 7] (fun sm lw hg i wr => ∃ (k : Nat) (o : Ru), k ≤ len ∧ Inv k o ∧ i = .int .i64 k ∧ sm = .int .i64 o.s ∧ lw = .int .i64 o.lo ∧ hg = .int .i64 o.hi ∧ RuAt wr w.heap.size o ∧ Below w.heap.size w wr ∧ w.heap.size < wr.heap.size) (fun _ _ _ i _ => 30 - (intOf i).toNat)
  case atStart =>
    refine ⟨0, zro, Nat.zero_le _, ⟨by omega, rfl, fun _ => rfl, fun h => by omega⟩, rfl, rfl, rfl, rfl, ?_, (Below.refl _ _).alloc (Nat.le_refl _) _, by simp⟩
    simp [RuAt, zro]
  case round =>
    obtain ⟨k, o, hk, hinv, rfl, rfl, rfl, rfl, hat, hbel, hsz⟩ := hrel
    by_cases hlt : k < len ∧ k < 30
    · obtain ⟨hlt, hlt'⟩ := hlt
      have hcx : wr.cell? ⟨b, off + k, none⟩ = some (.int .i64 (zs.getD k 0)) := (hbel.cell (p := ⟨b, off + k, none⟩) (hb (by omega))).trans (HC.out k hlt)
      have hz1 := (HB.out k).1
      have hz2 := (HB.out k).2
      have HA : Hid (RuAt wr w.heap.size o) := hat
      obtain ⟨hat1, hat2⟩ := hat
      obtain ⟨q0, q1, q2, q3, q4, q5⟩ := hat1
      obtain ⟨hs1, hs2⟩ := inv_sum hinv
      have HI : Hid (Inv k o) := hinv
      clear hinv HC HB hb hat2
      by_cases h0 : k = 0
      · obtain rfl : o = ⟨0, 0, 0, 0, 0, 0⟩ := HI.out.2.2.1 h0
        have h0' : ((k : Int) == 0) = true := by simpa using h0
        have H0 : Hid (k = 0) := h0
        clear h0
        simp only at q0 q1 q2 q3 q4 q5 hs1 hs2
        go_wp2_with fail
        refine (picked_any _ _ _ hz1 hz2 (by omega) (by omega)).mono ?_
        rintro e w' ⟨rfl, rfl⟩
        obtain ⟨hp1, hp2⟩ := pick_bd (zs.getD k 0) (many := 2001) (by omega)
        generalize pick (zs.getD k 0) 2001 = p at hp1 hp2 ⊢
        clear hcx hz1 hz2 hs1 hs2 HI
        go_wp2_with fail
        refine (of_yes _ _ _ ((inB_iff _ _ _).2 (by omega)) ((inB_iff _ _ _).2 (by omega))).mono ?_
        rintro e w1 ⟨rfl, hb1⟩
        have hy1 := hb1.size
        have hx1 : w.heap.size < w1.heap.size := by omega
        have HA1 : Hid (RuAt w1 w.heap.size ⟨0, 0, 0, 0, 0, 0⟩) := HA.out.below hb1 hsz
        have HB1 : Hid (Below w.heap.size w w1) := hbel.trans (hb1.mono (by omega))
        clear q0 q1 q2 q3 q4 q5 hb1 hy1 hsz HA hbel
        obtain ⟨q0, q1, q2, q3, q4, q5⟩ := HA1.out.1
        simp only at q0 q1 q2 q3 q4 q5
        go_wp2_with fail
        refine (merge_first k H0.out (p - 1000) _ (by omega)).mono ?_
        rintro e w2 ⟨rfl, hb2⟩
        have hx2 := sz1 hb2
        have hx3 : w.heap.size < w2.heap.size := by omega
        have HA2 : Hid (RuAt w2 w.heap.size ⟨0, 0, 0, 0, 0, 0⟩) := (HA1.out.below ((Below.refl w1.heap.size w1).alloc (Nat.le_refl _) _) hx1).below hb2 (by simp; omega)
        have HB2 : Hid (Below w.heap.size w w2) := (HB1.out.alloc (by omega) _).trans (hb2.mono (by simp; omega))
        clear q0 q1 q2 q3 q4 q5 hb2 hx2 hx1 HA1 HB1
        obtain ⟨⟨q0, q1, q2, q3, q4, q5⟩, ⟨f0, f1, f2, f3, f4, f5⟩⟩ := HA2.out
        simp only at q0 q1 q2 q3 q4 q5
        have ST : Hid (Inv (k + 1) ⟨1, p - 1000, p - 1000, p - 1000, k, p - 1000⟩) := inv_first k H0.out (p - 1000) (by omega)
        go_wp2
        go_round
        case rel =>
          go_light
          exact ⟨k + 1, _, by omega, ST.out, by go_num, rfl, rfl, rfl, HA2.out.set hx3 ⟨_, _, _, _, _, _⟩ _ _, ((set6 HB2.out (Nat.le_refl _) _ _ _ _ _ _).alloc (by simp; omega) _), by simp; omega⟩
        case measure => simp [intOf]; omega
      · have h0' : ((k : Int) == 0) = false := by simpa using h0
        have H0 : Hid (¬ k = 0) := h0
        clear h0
        go_wp2_with fail
        refine (picked_any _ _ _ hz1 hz2 (by omega) (by omega)).mono ?_
        rintro e w' ⟨rfl, rfl⟩
        obtain ⟨hp1, hp2⟩ := pick_bd (zs.getD k 0) (many := 2001) (by omega)
        generalize pick (zs.getD k 0) 2001 = p at hp1 hp2 ⊢
        clear hcx hz1 hz2
        go_wp2_with fail
        refine (of_yes _ _ _ ((inB_iff _ _ _).2 (by omega)) ((inB_iff _ _ _).2 (by omega))).mono ?_
        rintro e w1 ⟨rfl, hb1⟩
        have hy1 := hb1.size
        have hx1 : w.heap.size < w1.heap.size := by omega
        have HA1 : Hid (RuAt w1 w.heap.size o) := HA.out.below hb1 hsz
        have HB1 : Hid (Below w.heap.size w w1) := hbel.trans (hb1.mono (by omega))
        clear q0 q1 q2 q3 q4 q5 hb1 hy1 hsz HA hbel
        obtain ⟨q0, q1, q2, q3, q4, q5⟩ := HA1.out.1
        go_wp2_with fail
        refine (merge_next k o (p - 1000) _ HI.out hlt' H0.out (by omega)).mono ?_
        rintro e w2 ⟨rfl, hb2⟩
        have hx2 := sz1 hb2
        have hx3 : w.heap.size < w2.heap.size := by omega
        have HA2 : Hid (RuAt w2 w.heap.size o) := (HA1.out.below ((Below.refl w1.heap.size w1).alloc (Nat.le_refl _) _) hx1).below hb2 (by simp; omega)
        have HB2 : Hid (Below w.heap.size w w2) := (HB1.out.alloc (by omega) _).trans (hb2.mono (by simp; omega))
        clear q0 q1 q2 q3 q4 q5 hb2 hx2 hx1 HA1 HB1
        obtain ⟨⟨q0, q1, q2, q3, q4, q5⟩, ⟨f0, f1, f2, f3, f4, f5⟩⟩ := HA2.out
        have ST := (inv_step HI.out hlt' (v := p - 1000) (by omega)).2
        have ST : Hid (Inv (k + 1) (nxt k o (p - 1000))) := ST
        by_cases t1 : p - 1000 < o.lo
        · by_cases t2 : o.hi < p - 1000
          · go_wp2
            go_round
            case rel =>
              go_light
              have E := nxt_eq (v := p - 1000) o H0.out
              have ST := ST.out
              rw [E] at ST
              exact ⟨k + 1, _, by omega, ST, by go_num, rfl, by rw [mn_r (show p - 1000 ≤ o.lo by omega)], by rw [mx_r (show o.hi ≤ p - 1000 by omega)], HA2.out.set hx3 ⟨_, _, _, _, _, _⟩ _ _, ((set6 HB2.out (Nat.le_refl _) _ _ _ _ _ _).alloc (by simp; omega) _), by simp; omega⟩
            case measure => simp [intOf]; omega
          · go_wp2
            go_round
            case rel =>
              go_light
              have E := nxt_eq (v := p - 1000) o H0.out
              have ST := ST.out
              rw [E] at ST
              exact ⟨k + 1, _, by omega, ST, by go_num, rfl, by rw [mn_r (show p - 1000 ≤ o.lo by omega)], by rw [mx_l (show p - 1000 ≤ o.hi by omega)], HA2.out.set hx3 ⟨_, _, _, _, _, _⟩ _ _, ((set6 HB2.out (Nat.le_refl _) _ _ _ _ _ _).alloc (by simp; omega) _), by simp; omega⟩
            case measure => simp [intOf]; omega
        · by_cases t2 : o.hi < p - 1000
          · go_wp2
            go_round
            case rel =>
              go_light
              have E := nxt_eq (v := p - 1000) o H0.out
              have ST := ST.out
              rw [E] at ST
              exact ⟨k + 1, _, by omega, ST, by go_num, rfl, by rw [mn_l (show o.lo ≤ p - 1000 by omega)], by rw [mx_r (show o.hi ≤ p - 1000 by omega)], HA2.out.set hx3 ⟨_, _, _, _, _, _⟩ _ _, ((set6 HB2.out (Nat.le_refl _) _ _ _ _ _ _).alloc (by simp; omega) _), by simp; omega⟩
            case measure => simp [intOf]; omega
          · go_wp2
            go_round
            case rel =>
              go_light
              have E := nxt_eq (v := p - 1000) o H0.out
              have ST := ST.out
              rw [E] at ST
              exact ⟨k + 1, _, by omega, ST, by go_num, rfl, by rw [mn_l (show o.lo ≤ p - 1000 by omega)], by rw [mx_l (show p - 1000 ≤ o.hi by omega)], HA2.out.set hx3 ⟨_, _, _, _, _, _⟩ _ _, ((set6 HB2.out (Nat.le_refl _) _ _ _ _ _ _).alloc (by simp; omega) _), by simp; omega⟩
            case measure => simp [intOf]; omega
    · obtain ⟨⟨q0, q1, q2, q3, q4, q5⟩, _⟩ := hat
      have hk30 := hinv.1
      have hc := hinv.2.1
      clear hinv HC HB hb
      rw [hc] at q0
      clear hc
      by_cases hlt2 : k < len
      · obtain rfl : k = 30 := by omega
        go_wp2
        go_ret
        exact ⟨rfl, hbel⟩
      · obtain rfl : k = len := by omega
        have hle : (k : Int) ≤ 30 := by omega
        go_wp2
        go_ret
        exact ⟨rfl, hbel⟩

end Go.Proofs.Ytdhbbfmkamgkjaa

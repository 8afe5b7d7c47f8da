/- The document's AddedOf: its walk, over what its callees do. -/
import Derived.Test.YtlojfgdpmaigmaeGreatDoorP49
import Derived.Test.YtlojfgdpmaigmaeGreatDoorP48
import Derived.Test.YtlojfgdpmaigmaeGreatDoorP45
import Derived.Test.YtlojfgdpmaigmaeGreatDoorP46
import Derived.Test.YtlojfgdpmaigmaeGreatDoorP23
import Derived.Test.YtlojfgdpmaigmaeGreatDoorP25
import Derived.Test.YtlojfgdpmaigmaeGreatDoorP36
import Derived.Test.YtlojfgdpmaigmaeGreatDoorCheckB1
import Derived.Test.YtlojfgdpmaigmaeGreatDoorAddCore
import Derived.Test.YtlojfgdpmaigmaeGreatDoorP44
namespace Go.Proofs.YtlojfgdpmaigmaeGreatDoor
open Go.RowKit Plain Go.Shelf

end Go.Proofs.YtlojfgdpmaigmaeGreatDoor

/- The document's ExpiredOf: what it answers, at any base and any time. -/
namespace Go.Proofs.YtlojfgdpmaigmaeGreatDoor
open Go.RowKit Plain Go.Shelf

/-- Refused. -/
def noExp (c : Int) : Value := .tuple #[.slice none 0 0, .int .i64 c]

/-- What ExpiredOf answers. -/
def ExdTo (ss : List ByteArray) (f t : Int) (n0 : List Nd) (r0 : Int) (n1 : List Nd) (r1 : Int) (n2 : List Nd) (r2 : Int) (w : World) (e : Ending) (w' : World) : Prop :=
  ∃ (EA : Option Addr) (el EC : Nat) (d : Int), e = .returned (.tuple #[.slice EA el EC, .int .i64 d]) ∧ Below w.heap.size w w' ∧
    ((d ≠ 0 ∧ ((baseB ss f n0 r0 n1 r1 n2 r2 = false ∧ d = 7) ∨ (baseB ss f n0 r0 n1 r1 n2 r2 = true ∧ floorC f t ≠ 0 ∧ d = floorC f t))) ∨
     (d = 0 ∧ baseB ss f n0 r0 n1 r1 n2 r2 = true ∧ floorC f t = 0 ∧ ∃ L0, bookP n0 r0 ss.length f = some L0 ∧ el = (L0.filter (yngB t)).length ∧ RowAt w'.heap.size w' EA (flatE (L0.filter (yngB t)))))

theorem exdTo_no {ss : List ByteArray} {f t : Int} {n0 n1 n2 : List Nd} {r0 r1 r2 d : Int} {w w' : World} (hb : Below w.heap.size w w') (hd : d ≠ 0) (h : (baseB ss f n0 r0 n1 r1 n2 r2 = false ∧ d = 7) ∨ (baseB ss f n0 r0 n1 r1 n2 r2 = true ∧ floorC f t ≠ 0 ∧ d = floorC f t)) : ExdTo ss f t n0 r0 n1 r1 n2 r2 w (.returned (noExp d)) w' :=
  ⟨none, 0, 0, d, rfl, hb, .inl ⟨hd, h⟩⟩

section
variable (A A0 A1 A2 : Option Addr) (C C0 C1 C2 : Nat) (ss : List ByteArray) (p0 p1 p2 : List PN) (r0 r1 r2 f t : Int) (w : World)

set_option maxRecDepth 20000 in
set_option maxHeartbeats 2000000 in
theorem xr_b1
    (MM : Hid (∀ W, Below w.heap.size w W → Calls Tryz.prog 27 #[.agg #[.slice A ss.length C, .slice A0 p0.length C0, .int .i64 r0, .slice A1 p1.length C1, .int .i64 r1, .slice A2 p2.length C2, .int .i64 r2, .int .i64 f]] W fun e w' => e = .returned (.bool false) ∧ Below W.heap.size W w')) :
    Calls Tryz.prog 10 #[.agg #[.slice A ss.length C, .slice A0 p0.length C0, .int .i64 r0, .slice A1 p1.length C1, .int .i64 r1, .slice A2 p2.length C2, .int .i64 r2, .int .i64 f], .int .i64 t] w fun e w' => e = .returned (noExp 7) ∧ Below w.heap.size w w' := by
  have b0 : ∀ o : Obj, Below w.heap.size w (w.alloc o) := fun o => (Below.refl _ _).alloc (Nat.le_refl _) o
  go_enter Tryz.func10, Tryz.ntmps10
  go_wp2_with (first
    | (go_at_call 27; refine (MM.out _ (b0 _)).mono ?_; rintro e w1 ⟨rfl, hb1⟩))
  exact bodyPost_ret (v := noExp 7) (by simp [noExp, results, Tryz.results10, go_sem]) rfl ⟨rfl, nextB (b0 _) (Nat.le_refl _) hb1⟩

set_option maxRecDepth 20000 in
set_option maxHeartbeats 2000000 in
theorem xr_b2 (h0 : floorC f t ≠ 0)
    (MM : Hid (∀ W, Below w.heap.size w W → Calls Tryz.prog 27 #[.agg #[.slice A ss.length C, .slice A0 p0.length C0, .int .i64 r0, .slice A1 p1.length C1, .int .i64 r1, .slice A2 p2.length C2, .int .i64 r2, .int .i64 f]] W fun e w' => e = .returned (.bool true) ∧ Below W.heap.size W w')) :
    Calls Tryz.prog 10 #[.agg #[.slice A ss.length C, .slice A0 p0.length C0, .int .i64 r0, .slice A1 p1.length C1, .int .i64 r1, .slice A2 p2.length C2, .int .i64 r2, .int .i64 f], .int .i64 t] w fun e w' => e = .returned (noExp (floorC f t)) ∧ Below w.heap.size w w' := by
  have b0 : ∀ o : Obj, Below w.heap.size w (w.alloc o) := fun o => (Below.refl _ _).alloc (Nat.le_refl _) o
  have con := hideC fun W => in_any t 0 1048575 W
  have hrow : ∀ w1 : World, Below (w.heap.size + 1) (w.alloc (.cells #[.slice A ss.length C, .slice A0 p0.length C0, .int .i64 r0, .slice A1 p1.length C1, .int .i64 r1, .slice A2 p2.length C2, .int .i64 r2, .int .i64 f] 28)) w1 → w1.cell? ⟨w.heap.size, 7, none⟩ = some (.int .i64 f) := fun w1 hb => (hb.cell (p := ⟨w.heap.size, 7, none⟩) (by simp)).trans ((rowL_alloc w [.slice A ss.length C, .slice A0 p0.length C0, .int .i64 r0, .slice A1 p1.length C1, .int .i64 r1, .slice A2 p2.length C2, .int .i64 r2, .int .i64 f] 28).cell 7)
  have HR := hideC hrow
  clear hrow
  unfold floorC at h0 ⊢
  by_cases h1 : inB t 0 1048575 = true
  · have h1' := (inB_iff _ _ _).1 h1
    rw [h1] at con
    simp only [h1, if_true] at h0 ⊢
    clear h1
    by_cases h2 : t % 3600 = 0
    · have h2' : (t.tmod 3600 != 0) = false := by rw [Int.tmod_eq_emod_of_nonneg h1'.1, h2]; rfl
      simp only [h2, if_true] at h0 ⊢
      by_cases h3 : t < f
      · simp only [h3, if_true]
        clear h0
        go_enter Tryz.func10, Tryz.ntmps10
        go_wp2_with (first
          | (go_at_call 27; refine (MM.out _ (b0 _)).mono ?_; rintro e w1 ⟨rfl, hb1⟩; have c7 := HR.out w1 (by simpa using hb1); have l1 : w.heap.size < w1.heap.size := Nat.lt_of_lt_of_le (by simp) hb1.size)
          | (go_at_call 28; refine (con.out _).mono ?_; rintro e wx ⟨rfl, hwx⟩; subst wx))
        exact bodyPost_ret (v := noExp 8) (by simp [noExp, results, Tryz.results10, go_sem]) rfl ⟨rfl, nextB (b0 _) (Nat.le_refl _) hb1⟩
      · simp only [h3, if_false] at h0
        exact absurd rfl h0
    · have h2' : (t.tmod 3600 != 0) = true := by rw [Int.tmod_eq_emod_of_nonneg h1'.1]; simpa using h2
      simp only [h2, if_false] at h0 ⊢
      clear h0
      go_enter Tryz.func10, Tryz.ntmps10
      go_wp2_with (first
        | (go_at_call 27; refine (MM.out _ (b0 _)).mono ?_; rintro e w1 ⟨rfl, hb1⟩)
        | (go_at_call 28; refine (con.out _).mono ?_; rintro e wx ⟨rfl, hwx⟩; subst wx))
      exact bodyPost_ret (v := noExp 4) (by simp [noExp, results, Tryz.results10, go_sem]) rfl ⟨rfl, nextB (b0 _) (Nat.le_refl _) hb1⟩
  · have h1' : inB t 0 1048575 = false := by simpa using h1
    rw [h1'] at con
    simp only [h1'] at h0 ⊢
    clear h0 h1 h1'
    go_enter Tryz.func10, Tryz.ntmps10
    go_wp2_with (first
      | (go_at_call 27; refine (MM.out _ (b0 _)).mono ?_; rintro e w1 ⟨rfl, hb1⟩)
      | (go_at_call 28; refine (con.out _).mono ?_; rintro e wx ⟨rfl, hwx⟩; subst wx))
    exact bodyPost_ret (v := noExp 2) (by simp [noExp, results, Tryz.results10, go_sem]) rfl ⟨rfl, nextB (b0 _) (Nat.le_refl _) hb1⟩

/-- What it answers, where it is not refused. -/
def XrTo (M : List En) (w : World) (e : Ending) (w' : World) : Prop :=
  ∃ (EA : Option Addr) (EC : Nat), e = .returned (.tuple #[.slice EA M.length EC, .int .i64 0]) ∧ RowAt w'.heap.size w' EA (flatE M) ∧ Below w.heap.size w w'

set_option maxRecDepth 20000 in
set_option maxHeartbeats 4000000 in
theorem xr_ok (L : List En) (h0 : floorC f t = 0) (hz : L.length ≤ 28000) (hk : ∀ x ∈ L, 0 ≤ x.key ∧ x.key < 1099511627776)
    (MM : Hid (∀ W, Below w.heap.size w W → Calls Tryz.prog 27 #[.agg #[.slice A ss.length C, .slice A0 p0.length C0, .int .i64 r0, .slice A1 p1.length C1, .int .i64 r1, .slice A2 p2.length C2, .int .i64 r2, .int .i64 f]] W fun e w' => e = .returned (.bool true) ∧ Below W.heap.size W w'))
    (BK : Hid (∀ W, Below w.heap.size w W → Calls Tryz.prog 29 #[.agg #[.slice A ss.length C, .slice A0 p0.length C0, .int .i64 r0, .slice A1 p1.length C1, .int .i64 r1, .slice A2 p2.length C2, .int .i64 r2, .int .i64 f]] W fun e w' => Below W.heap.size W w' ∧ ∃ v, e = .returned (.tuple #[v, .bool true]) ∧ w'.ownsRow W.heap.size 73 7 v L.length (flatE L))) :
    Calls Tryz.prog 10 #[.agg #[.slice A ss.length C, .slice A0 p0.length C0, .int .i64 r0, .slice A1 p1.length C1, .int .i64 r1, .slice A2 p2.length C2, .int .i64 r2, .int .i64 f], .int .i64 t] w (XrTo (L.filter (yngB t)) w) := by
  obtain ⟨i0', hi0, hz0, hz1, hz2⟩ := info_parts infoE
  have b0 : ∀ o : Obj, Below w.heap.size w (w.alloc o) := fun o => (Below.refl _ _).alloc (Nat.le_refl _) o
  have con := hideC fun W => in_any t 0 1048575 W
  obtain ⟨t0, t1, t2, t3⟩ := floor_zero h0
  rw [show inB t 0 1048575 = true from (inB_iff _ _ _).2 ⟨t0, t1⟩] at con
  have h2' : (t % 3600 != 0) = false := by rw [t2]; rfl
  have h3 : ¬ t < f := by omega
  have RB := hideC (rowL_alloc w [.slice A ss.length C, .slice A0 p0.length C0, .int .i64 r0, .slice A1 p1.length C1, .int .i64 r1, .slice A2 p2.length C2, .int .i64 r2, .int .i64 f] 28)
  clear h0 t2 t3
  go_enter Tryz.func10, Tryz.ntmps10
  go_wp2_with (first
    | (go_at_call 27; refine (MM.out _ (b0 _)).mono ?_; rintro e w1 ⟨rfl, hb1⟩; have R1 := hideC (RB.out.below hb1 (by simp)); have c1 := fun j => R1.out.cell j; have l1 := R1.out.lt; have HB1 := hideC (nextB (b0 _) (Nat.le_refl _) hb1); clear hb1)
    | (go_at_call 28; refine (con.out _).mono ?_; rintro e wx ⟨rfl, hwx⟩; subst wx)
    | (go_at_call 29; refine (BK.out _ HB1.out).mono ?_; rintro e w2 ⟨hb2, v2, rfl, ho2⟩; obtain ⟨VA, VC, hvv, -, -, -, hrow2⟩ := own_row ho2; subst hvv; have HB2 := hideC (nextB HB1.out (Nat.le_refl _) hb2); clear c1 l1 hb2))
  go_loopw [8, 9] (fun vo vi wr => ∃ i : Nat, i ≤ L.length ∧ vi = .int .i64 (i : Int) ∧ wr.ownsRow w2.heap.size 73 7 vo ((L.take i).filter (yngB t)).length (flatE ((L.take i).filter (yngB t))) ∧ Below w2.heap.size w2 wr) (fun _ vi _ => L.length - (intOf vi).toNat)
  case atStart => exact ⟨0, Nat.zero_le _, rfl, World.ownsRow_nil _ _ _ _, Below.refl _ _⟩
  case round =>
    obtain ⟨i, hi, rfl, hown, hb⟩ := hrel
    have hbz := hb.size
    by_cases hlt : i < L.length
    · obtain ⟨b, o, rfl, hbl, hat⟩ := (hrow2.below hb (Nat.le_refl _)).en hlt
      have hbw : b < wr.heap.size := Nat.lt_of_lt_of_le hbl hb.size
      have hkx := hk _ (List.getElem_mem hlt)
      have HT : Hid ((L.take (i + 1)).filter (yngB t) = (L.take i).filter (yngB t) ++ (if yngB t L[i] = true then [L[i]] else [])) := by
        show _ = _
        rw [List.take_succ_eq_append_getElem hlt, List.filter_append]
        congr 1
        by_cases hs : yngB t L[i] = true
        · simp [hs]
        · simp [hs]
      have hll : ((L.take i).filter (yngB t)).length ≤ i := by
        have := List.length_filter_le (yngB t) (L.take i)
        have := List.length_take_le i L
        omega
      obtain ⟨x, hx⟩ : ∃ x, L[i] = x := ⟨_, rfl⟩
      rw [hx] at hat hkx HT
      clear hx
      obtain ⟨M, hM⟩ : ∃ M, (L.take i).filter (yngB t) = M := ⟨_, rfl⟩
      rw [hM] at hown HT hll
      clear hM
      obtain ⟨c0, c1, c2, c3, c4, c5, c6⟩ := hat
      have q0 : (0 : Int) ≤ (i : Int) := by omega
      have q1 : (i : Int) < (L.length : Int) := by omega
      have hm : x.key.tmod 1048576 = x.key % 1048576 := Int.tmod_eq_emod_of_nonneg hkx.1
      have HO := hideC hown
      have HB := hideC hb
      by_cases hy : t ≤ x.key % 1048576
      · rw [show yngB t x = true from decide_eq_true hy, if_pos rfl] at HT
        clear hown hb hk
        go_wp2_with (first
          | (at_builtin; refine wpList_append_lies _ rfl _ _ 32 rfl w2.heap.size 73 i0' _ 7 56 Tryz.underlying32 hi0 hz0 hz1 hz2 rfl (by decide) u8 M.length (flatE M) rfl (own_next HO.out ((Below.refl _ _).alloc (Nat.le_refl _) _)) ⟨wr.heap.size, 0, none⟩ 1 1 (flatE [x]) rfl rfl (newsE1 (rowL_alloc wr x.vals _)) (flatE_one _) (by decide) (by unfold maxLen; omega) (by omega) (by simp; omega) (wr.heap.size + 1) (by simp) ?_; intro g cap w5 hown5 hgrow5 hat5 hlt5))
        go_roundw
        case rel =>
          refine ⟨i + 1, hlt, by go_num, ?_, ?_⟩
          · rw [HT.out, flatE_append, List.length_append]
            exact hown5
          · exact (HB.out.alloc hbz _).grown hgrow5 (by simp; omega) (fun k hk => (HO.out.lt k hk).1)
        case measure => simp [intOf]; omega
      · rw [show yngB t x = false from decide_eq_false hy, if_neg (by simp), List.append_nil] at HT
        clear hown hb hk
        go_wp2_with fail
        go_roundw
        case rel => exact ⟨i + 1, hlt, by go_num, by rw [HT.out]; exact HO.out, HB.out⟩
        case measure => simp [intOf]; omega
    · have hni : ¬ ((i : Int) < (L.length : Int)) := by omega
      rw [List.take_of_length_le (show L.length ≤ i by omega)] at hown
      obtain ⟨EA, EC, hvv, -, -, -, hrow⟩ := own_row hown
      subst hvv
      have HX := hideC (And.intro hrow (nextB HB2.out (Nat.le_refl _) hb))
      clear hrow hown hb
      obtain ⟨m, hm⟩ : ∃ m, (L.filter (yngB t)).length = m := ⟨_, rfl⟩
      rw [hm]
      have HM := hideC hm
      clear hm
      go_wp2_with fail
      exact bodyPost_ret (v := .tuple #[.slice EA m EC, .int .i64 0]) (by simp [results, Tryz.results10, go_sem]) rfl ⟨EA, EC, by rw [HM.out], HX.out.1, HX.out.2⟩
end

theorem expiredOf_any (A : Option Addr) (C : Nat) (ss : List ByteArray) (t0 t1 t2 : TR) (f t : Int) (w : World) (hS : StrsAt w.heap.size w A ss) (h0 : t0.ok w) (h1 : t1.ok w) (h2 : t2.ok w) :
    Calls Tryz.prog 10 #[.agg (baseV A C ss t0 t1 t2 f).toArray, .int .i64 t] w (ExdTo ss f t (t0.ps.map PN.nd) t0.r (t1.ps.map PN.nd) t1.r (t2.ps.map PN.nd) t2.r w) := by
  have mm := fun W (hW : Below w.heap.size w W) => baseMay_any A C ss t0 t1 t2 f W (hS.up hW) (h0.1.up hW) (h1.1.up hW) (h2.1.up hW)
  cases hB : baseB ss f (t0.ps.map PN.nd) t0.r (t1.ps.map PN.nd) t1.r (t2.ps.map PN.nd) t2.r with
  | false =>
    rw [hB] at mm
    refine (xr_b1 A t0.A t1.A t2.A C t0.C t1.C t2.C ss t0.ps t1.ps t2.ps t0.r t1.r t2.r f t w mm).mono ?_
    rintro e w' ⟨rfl, hb⟩
    exact exdTo_no hb (by decide) (.inl ⟨hB, rfl⟩)
  | true =>
    rw [hB] at mm
    by_cases hp : floorC f t = 0
    · obtain ⟨L0, L1, L2, hL⟩ := baseL hB
      have f0 := allP_facts (ns := t0.ps.map PN.nd) (r := t0.r) (low := 0) (high := 1099511627776)
      have fl := allP_len (t0.ps.map PN.nd) t0.r 0 1099511627776
      rw [hL.a0] at f0 fl
      refine (xr_ok A t0.A t1.A t2.A C t0.C t1.C t2.C ss t0.ps t1.ps t2.ps t0.r t1.r t2.r f t w L0 hp fl f0.2.2 mm (fun W hW => book_any A C ss t0 t1 t2 f W (h0.1.up hW) _ (fun e w' q1 q2 _ => ⟨q1, q2 L0 hL.book⟩))).mono ?_
      rintro e w' ⟨EA, EC, rfl, hr, hb⟩
      exact ⟨EA, _, EC, 0, rfl, hb, .inr ⟨rfl, hB, hp, L0, hL.book, rfl, hr⟩⟩
    · refine (xr_b2 A t0.A t1.A t2.A C t0.C t1.C t2.C ss t0.ps t1.ps t2.ps t0.r t1.r t2.r f t w hp mm).mono ?_
      rintro e w' ⟨rfl, hb⟩
      exact exdTo_no hb hp (.inr ⟨hB, hp, rfl⟩)

end Go.Proofs.YtlojfgdpmaigmaeGreatDoor

/- base.nextFloor, base.younger: their walks. -/
namespace Go.Proofs.YtlojfgdpmaigmaeGreatDoor
open Go.RowKit Plain Go.Shelf

theorem nextFloor_any (f t : Int) (w : World) (hs : SzAt w) : Calls Tryz.prog 24 #[.int .i64 f, .int .i64 t] w fun e w' => e = .returned (.int .i64 (floorC f t)) ∧ Below w.heap.size w w' := by
  unfold floorC
  by_cases h1 : inB t 0 1048575 = true
  · have h1' := (inB_iff _ _ _).1 h1
    have c1 := hideC fun W => btime_any t W
    have c2 := hideC (isFloor_any t w hs (by omega))
    rw [h1] at c1
    by_cases h2 : t % 3600 = 0
    · rw [decide_eq_true h2] at c2
      by_cases h3 : t < f
      · simp only [h1, h2, h3, if_true]
        clear h1 h2
        go_enter Tryz.func24, Tryz.ntmps24
        go_wp2_with (first
          | (go_at_call 42; refine (c1.out _).mono ?_; rintro e w1 ⟨rfl, hw1⟩; subst w1)
          | (go_at_call 43; refine c2.out.mono ?_; rintro e w2 ⟨rfl, hb2⟩))
        go_ret
        exact ⟨rfl, hb2⟩
      · simp only [h1, h2, h3, if_true, if_false]
        clear h1 h2
        go_enter Tryz.func24, Tryz.ntmps24
        go_wp2_with (first
          | (go_at_call 42; refine (c1.out _).mono ?_; rintro e w1 ⟨rfl, hw1⟩; subst w1)
          | (go_at_call 43; refine c2.out.mono ?_; rintro e w2 ⟨rfl, hb2⟩))
        go_ret
        exact ⟨rfl, hb2⟩
    · rw [decide_eq_false h2] at c2
      simp only [h1, h2, if_true, if_false]
      clear h1 h2
      go_enter Tryz.func24, Tryz.ntmps24
      go_wp2_with (first
        | (go_at_call 42; refine (c1.out _).mono ?_; rintro e w1 ⟨rfl, hw1⟩; subst w1)
        | (go_at_call 43; refine c2.out.mono ?_; rintro e w2 ⟨rfl, hb2⟩))
      go_ret
      exact ⟨rfl, hb2⟩
  · have h1' : inB t 0 1048575 = false := by simpa using h1
    have c1 := hideC fun W => btime_any t W
    rw [h1'] at c1 ⊢
    clear h1 h1'
    go_enter Tryz.func24, Tryz.ntmps24
    go_wp2_with (first
      | (go_at_call 42; refine (c1.out _).mono ?_; rintro e w1 ⟨rfl, hw1⟩; subst w1))
    go_ret
    exact ⟨rfl, Below.refl _ _⟩

theorem old_yng (t : Int) (L : List En) : (L.filter fun x => !oldB t x) = L.filter (yngB t) :=
  List.filter_congr fun x _ => by
    unfold oldB yngB
    by_cases h : x.key % 1048576 < t
    · rw [decide_eq_true h, decide_eq_false (by omega)]; rfl
    · rw [decide_eq_false h, decide_eq_true (by omega)]; rfl

theorem of_put {M : List En} {w w' : World} {e : Ending} (hf : faultE M = 0) (h : OfP M w e w') : PutC (fun c => c = 1 ∧ 2900 < M.length) (fun m q => allP m q 0 1099511627776 = (0, M)) w e w' := by
  obtain ⟨hb, h⟩ := h
  rcases h with ⟨c, h0, rfl, h | ⟨_, h1, h2⟩⟩ | ⟨_, g, C', qs, root, rfl, hN, hc, hp⟩
  · rw [hf] at h
    exact absurd h h0
  · exact ⟨none, 0, 0, 0, c, rfl, hb, .inl ⟨h0, h1, h2⟩⟩
  · have h1 := allR_of hf hp
    refine ⟨_, _, _, _, 0, rfl, hb, .inr ⟨rfl, g, qs, rfl, rfl, hN, ?_⟩⟩
    show allP _ _ 0 1099511627776 = (0, M)
    unfold allP
    rw [if_neg (by simpa using hc), h1]

theorem mem_obk' {A : Option Addr} {n C k : Nat} (h : k ∈ obk A) : (Value.slice A n C).ownBlock = some k := by
  cases A with
  | none => simp [obk] at h
  | some a => simpa [obk, Value.ownBlock, eq_comm] using h

set_option maxRecDepth 20000 in
set_option maxHeartbeats 2000000 in
theorem younger_any (A : Option Addr) (C : Nat) (r t : Int) (ps : List PN) (L : List En) (w : World) (hN : NodesAt w.heap.size w A ps) (hwf : ∀ p ∈ ps, p.wf) (hL : allP (ps.map PN.nd) r 0 1099511627776 = (0, L)) :
    Calls Tryz.prog 26 #[.agg #[.slice A ps.length C, .int .i64 r], .int .i64 t] w (PutC (fun c => c = 1 ∧ 2900 < (L.filter (yngB t)).length) (fun m q => allP m q 0 1099511627776 = (0, L.filter (yngB t))) w) := by
  have f0 := allP_facts (ns := ps.map PN.nd) (r := r) (low := 0) (high := 1099511627776)
  have fl := allP_len (ps.map PN.nd) r 0 1099511627776
  rw [hL] at f0 fl
  simp only at fl
  have con1 := hideC fun W hN => ball_any A C r ps W hN hwf
  rw [hL] at con1
  simp only at con1
  have hf := hideC (yng_fault (t := t) hL)
  have hk := hideC f0.2.2
  obtain ⟨M, hM⟩ : ∃ M, L.filter (yngB t) = M := ⟨_, rfl⟩
  have hm : M.length ≤ L.length := by rw [← hM]; exact List.length_filter_le _ _
  have HM := hideC ((old_yng t L).trans hM)
  rw [hM] at hf ⊢
  have HN := hideC hN
  clear f0 hL hM hN hwf
  have b3 : Below w.heap.size w (((w.alloc (.cells #[.slice A ps.length C, .int .i64 r] 25)).alloc (.cells #[.int .i64 t] 3)).alloc (.cells #[.slice none 0 0, .int .i64 0] 25)) := (((Below.refl _ _).alloc (Nat.le_refl _) _).alloc (by simp) _).alloc (by simp; omega) _
  have R := rows3 w [.slice A ps.length C, .int .i64 r] [.int .i64 t] [.slice none 0 0, .int .i64 0] 25 3 25
  have HR := hideC R
  clear R
  go_enter Tryz.func26, Tryz.ntmps26
  go_upto_region 4 with (first
    | (go_at_call 55; refine (con1.out _ (HN.out.up b3)).mono ?_; rintro e w1 ⟨hb1, v1, rfl, ho1⟩; obtain ⟨VA, VC, hvv, -⟩ := own_row ho1; subst hvv))
  have HB1 := hideC hb1
  have rt : RowL w1 (w.heap.size + 1) 3 [.int .i64 t] := HR.out.2.1.below hb1 (by simp)
  have ro : RowL w1 (w.heap.size + 1 + 1) 25 [.slice none 0 0, .int .i64 0] := HR.out.2.2.1.below hb1 (by simp)
  have ht : w1.cell? ⟨w.heap.size + 1, 0, none⟩ = some (.int .i64 t) := rt.cell 0
  have hlt : ∀ k, (Value.slice VA L.length VC).ownBlock = some k → w.heap.size + 3 ≤ k := fun k hk => by have := (ho1.lt k hk).1; simpa using this
  have con2 := hideC (delF_any _ VA VC L (w.heap.size + 1) t w1 ho1 (by omega) hk.out ht (fun g e => by subst e; have := hlt g rfl; omega))
  rw [HM.out] at con2
  have ro0 := ro.lt
  have HRO := hideC ro
  have hVC : VA = none → VC = 0 := by
    obtain ⟨A', C', e', hA', -⟩ := own_row ho1
    cases e'
    exact hA'
  have HLT := hideC hlt
  clear hk HR ro rt ho1 hb1 con1 hlt
  go_wp2_with (first
    | (go_at_call 57; refine con2.out.mono ?_; rintro e w2 ⟨rfl, ho2, hk2⟩)
    | (go_at_call 56; refine (of_any VA VC M w2 (own_ok ho2).1 hVC (by omega)).mono ?_; rintro e w3 hP; obtain ⟨XA, xl, XC, sr, c, rfl, hb3, hP3⟩ := of_put hf.out hP; have R3 := hideC ((HRO.out.of_block (hk2.block _ ro0 (fun hm => by have := HLT.out _ (mem_obk' hm); omega))).below hb3 (Nat.lt_of_lt_of_le ro0 hk2.size)); have d3 := fun j => R3.out.cell j; have f3 := fun j => R3.out.frozen j; have l3 := R3.out.lt))
  refine bodyPost_ret (v := .tuple #[.agg #[.slice XA xl XC, .int .i64 sr], .int .i64 c]) (by simp [results, Tryz.results26, go_sem, d3]) rfl ⟨XA, xl, XC, sr, c, rfl, ?_, ?_⟩
  · have h2 : Below w.heap.size w w2 := ⟨hk2.os.trans (HB1.out.os.trans b3.os), hk2.tape.trans (HB1.out.tape.trans b3.tape), hk2.output.trans (HB1.out.output.trans b3.output), Nat.le_trans (Nat.le_trans b3.size HB1.out.size) hk2.size, fun j hj => (hk2.block j (Nat.lt_of_lt_of_le hj (Nat.le_trans b3.size HB1.out.size)) (fun hm => by have := HLT.out _ (mem_obk' hm); omega)).trans ((HB1.out.block j (Nat.lt_of_lt_of_le hj b3.size)).trans (b3.block j hj))⟩
    exact set1_below (set1_below (nextB h2 (Nat.le_refl _) hb3) (by omega) _ _) (by omega) _ _
  · have hs : w.heap.size + 2 < w2.heap.size := Nat.lt_of_lt_of_le ro0 hk2.size
    exact hP3.keep (by omega) fun k hk _ => (Below.heap_setCell _ _ _ _ (show k ≠ w.heap.size + 1 + 1 by omega)).trans (Below.heap_setCell _ _ _ _ (show k ≠ w.heap.size + 1 + 1 by omega))

end Go.Proofs.YtlojfgdpmaigmaeGreatDoor

/- base.Add: what it answers, at any base and any point. -/
namespace Go.Proofs.YtlojfgdpmaigmaeGreatDoor
open Go.RowKit Plain Go.Shelf

/-- A base in memory of its own. -/
structure OwnB (B : Nat) (w : World) (A : Option Addr) (C : Nat) (ss : List ByteArray) (t0 t1 t2 : TR) : Prop where
  sr : w.ownsRow B 9 1 (.slice A ss.length C) ss.length (strs ss)
  se : ∀ s ∈ ss, s.size ≤ 140737488351232
  sn : ss.length ≤ 17
  n0 : ∃ g, t0.A = some ⟨g, 0, none⟩ ∧ NT B w g t0.C t0.ps
  n1 : ∃ g, t1.A = some ⟨g, 0, none⟩ ∧ NT B w g t1.C t1.ps
  n2 : ∃ g, t2.A = some ⟨g, 0, none⟩ ∧ NT B w g t2.C t2.ps

end Go.Proofs.YtlojfgdpmaigmaeGreatDoor

/- base.Expire: what it answers, at any base and any time. -/
namespace Go.Proofs.YtlojfgdpmaigmaeGreatDoor
open Go.RowKit Plain Go.Shelf

set_option maxRecDepth 20000 in
set_option maxHeartbeats 1000000 in
theorem exp_b1 (a0 a1 a2 a3 a4 a5 a6 a7 : Value) (t c : Int) (h0 : c ≠ 0) (w : World)
    (CK : Hid (∀ W, Below w.heap.size w W → Calls Tryz.prog 19 #[.agg #[a0, a1, a2, a3, a4, a5, a6, a7]] W fun e w' => e = .returned (.int .i64 c) ∧ Below W.heap.size W w')) :
    Calls Tryz.prog 9 #[.agg #[a0, a1, a2, a3, a4, a5, a6, a7], .int .i64 t] w fun e w' => e = .returned (noBase c) ∧ Below w.heap.size w w' := by
  have HS := hideC (ExS.start w [a0, a1, a2, a3, a4, a5, a6, a7])
  have hc' : (c != 0) = true := by simpa using h0
  go_enter Tryz.func9, Tryz.ntmps9
  go_upto_region 3 with (first
    | (go_at_call 19; refine (CK.out _ HS.out.below).mono ?_; rintro e w1 ⟨rfl, hb1⟩; have H1 := hideC (HS.out.next hb1); have d := fun j => H1.out.bo.cell j; have fz := fun j => H1.out.bo.frozen j; have l1 := H1.out.bo.lt; simp only [zb8] at d))
  repeat go_step
  exact bodyPost_ret (v := noBase c) (by simp [noBase, results, Tryz.results9, go_sem, d]) rfl ⟨rfl, set8_below H1.out.below (by omega) _ _ _ _ _ _ _ _⟩

set_option maxRecDepth 20000 in
set_option maxHeartbeats 1000000 in
theorem exp_b2 (a0 a1 a2 a3 a4 a5 a6 : Value) (f t c : Int) (h0 : c ≠ 0) (w : World)
    (CK : Hid (∀ W, Below w.heap.size w W → Calls Tryz.prog 19 #[.agg #[a0, a1, a2, a3, a4, a5, a6, .int .i64 f]] W fun e w' => e = .returned (.int .i64 0) ∧ Below W.heap.size W w'))
    (NF : Hid (∀ W, Below w.heap.size w W → Calls Tryz.prog 24 #[.int .i64 f, .int .i64 t] W fun e w' => e = .returned (.int .i64 c) ∧ Below W.heap.size W w')) :
    Calls Tryz.prog 9 #[.agg #[a0, a1, a2, a3, a4, a5, a6, .int .i64 f], .int .i64 t] w fun e w' => e = .returned (noBase c) ∧ Below w.heap.size w w' := by
  have HS := hideC (ExS.start w [a0, a1, a2, a3, a4, a5, a6, .int .i64 f])
  have hc' : (c != 0) = true := by simpa using h0
  go_enter Tryz.func9, Tryz.ntmps9
  go_upto_region 6 with (first
    | (go_at_call 19; refine (CK.out _ HS.out.below).mono ?_; rintro e w1 ⟨rfl, hb1⟩; have H1 := hideC (HS.out.next hb1); have d1 := fun j => H1.out.bb.cell j; have l1 := H1.out.bb.lt)
    | (go_at_call 24; refine (NF.out _ H1.out.below).mono ?_; rintro e w2 ⟨rfl, hb2⟩; clear d1 l1; have H2 := hideC (H1.out.next hb2); have d := fun j => H2.out.bo.cell j; have fz := fun j => H2.out.bo.frozen j; have l2 := H2.out.bo.lt; simp only [zb8] at d))
  repeat go_step
  exact bodyPost_ret (v := noBase c) (by simp [noBase, results, Tryz.results9, go_sem, d]) rfl ⟨rfl, set8_below H2.out.below (by omega) _ _ _ _ _ _ _ _⟩

/-- Why Expire is refused. -/
def ExpNo (ss : List ByteArray) (f t : Int) (n0 : List Nd) (r0 : Int) (n1 : List Nd) (r1 : Int) (n2 : List Nd) (r2 c : Int) : Prop :=
  (baseB ss f n0 r0 n1 r1 n2 r2 = false ∧ c = 7) ∨ (baseB ss f n0 r0 n1 r1 n2 r2 = true ∧ floorC f t ≠ 0 ∧ c = floorC f t) ∨
  (baseB ss f n0 r0 n1 r1 n2 r2 = true ∧ floorC f t = 0 ∧ c = 1 ∧ ∀ L0 L1 L2, BaseL ss f n0 r0 n1 r1 n2 r2 L0 L1 L2 → 2900 < (L0.filter (yngB t)).length)

/-- What a base knows, once it expired. -/
structure ExpYes (ss : List ByteArray) (f t : Int) (n0 : List Nd) (r0 : Int) (n1 : List Nd) (r1 : Int) (n2 : List Nd) (r2 : Int) (m0 : List Nd) (q0 : Int) (m1 : List Nd) (q1 : Int) (m2 : List Nd) (q2 : Int) (L0 L1 L2 : List En) : Prop where
  was : baseB ss f n0 r0 n1 r1 n2 r2 = true
  fl : floorC f t = 0
  lst : BaseL ss f n0 r0 n1 r1 n2 r2 L0 L1 L2
  a0 : allP m0 q0 0 1099511627776 = (0, L0.filter (yngB t))
  a1 : allP m1 q1 0 1099511627776 = (0, L1.filter (yngB t))
  a2 : allP m2 q2 0 1099511627776 = (0, L2.filter (yngB t))

theorem ExpYes.base {ss : List ByteArray} {f t : Int} {n0 n1 n2 m0 m1 m2 : List Nd} {r0 r1 r2 q0 q1 q2 : Int} {L0 L1 L2 : List En} (h : ExpYes ss f t n0 r0 n1 r1 n2 r2 m0 q0 m1 q1 m2 q2 L0 L1 L2) :
    baseB ss t m0 q0 m1 q1 m2 q2 = true ∧ bookP m0 q0 ss.length t = some (L0.filter (yngB t)) :=
  exp_base h.was h.lst h.fl h.a0 h.a1 h.a2

/-- What Expire answers. -/
def ExpTo (ss : List ByteArray) (f t : Int) (n0 : List Nd) (r0 : Int) (n1 : List Nd) (r1 : Int) (n2 : List Nd) (r2 : Int) (w : World) (e : Ending) (w' : World) : Prop :=
  Below w.heap.size w w' ∧ ((∃ c, c ≠ 0 ∧ ExpNo ss f t n0 r0 n1 r1 n2 r2 c ∧ e = .returned (noBase c)) ∨
    ∃ (A' : Option Addr) (C' : Nat) (u0 u1 u2 : TR) (L0 L1 L2 : List En), ExpYes ss f t n0 r0 n1 r1 n2 r2 (u0.ps.map PN.nd) u0.r (u1.ps.map PN.nd) u1.r (u2.ps.map PN.nd) u2.r L0 L1 L2 ∧ e = .returned (.tuple #[.agg (baseV A' C' ss u0 u1 u2 t).toArray, .int .i64 0]) ∧ OwnB w.heap.size w' A' C' ss u0 u1 u2)

theorem roll_few {size : Int} {L M : List En} (hg : ∀ y ∈ L, Good y.ru) (h : rollP size L = some M) : M.length ≤ L.length := by
  have k := (allL_facts (xs := L.map (bk size)) (fun y hy => by
    obtain ⟨x, hx, rfl⟩ := List.mem_map.1 hy
    exact hg x hx) h).2.1
  simpa using k

theorem bexp_any (A : Option Addr) (C : Nat) (ss : List ByteArray) (t0 t1 t2 : TR) (f t : Int) (w : World) (hZ : SzAt w) (hC : ss.length ≤ C) (hS : StrsAt w.heap.size w A ss) (h0 : t0.ok w) (h1 : t1.ok w) (h2 : t2.ok w) :
    Calls Tryz.prog 9 #[.agg (baseV A C ss t0 t1 t2 f).toArray, .int .i64 t] w (ExpTo ss f t (t0.ps.map PN.nd) t0.r (t1.ps.map PN.nd) t1.r (t2.ps.map PN.nd) t2.r w) := by
  have okup : ∀ (t : TR) (w' : World), Below w.heap.size w w' → t.ok w → t.ok w' := fun t w' hb ht => ⟨ht.1.up hb, ht.2.1, ht.2.2⟩
  have ck := fun (bb : Bool) (hbb : Hid (baseB ss f (t0.ps.map PN.nd) t0.r (t1.ps.map PN.nd) t1.r (t2.ps.map PN.nd) t2.r = bb)) W (hW : Below w.heap.size w W) => bcheck_any A C ss t0 t1 t2 f W (hZ.below hW) hC (hS.up hW) (okup t0 W hW h0) (okup t1 W hW h1) (okup t2 W hW h2) bb hbb
  have nf := fun W (hW : Below w.heap.size w W) => nextFloor_any f t W (hZ.below hW)
  cases hB : baseB ss f (t0.ps.map PN.nd) t0.r (t1.ps.map PN.nd) t1.r (t2.ps.map PN.nd) t2.r with
  | false =>
    refine (exp_b1 _ _ _ _ _ _ _ _ t 7 (by decide) w (fun W hW => ?_)).mono ?_
    · have k := ck false hB W hW
      simp only [Bool.false_eq_true, if_false] at k
      exact k
    · rintro e w' ⟨rfl, hb⟩
      exact ⟨hb, .inl ⟨7, by decide, .inl ⟨hB, rfl⟩, rfl⟩⟩
  | true =>
    have ck0 : ∀ W, Below w.heap.size w W → Calls Tryz.prog 19 #[.agg (baseV A C ss t0 t1 t2 f).toArray] W fun e w' => e = .returned (.int .i64 0) ∧ Below W.heap.size W w' := fun W hW => by
      have k := ck true hB W hW
      simp only [if_true] at k
      exact k
    by_cases hp : floorC f t = 0
    · obtain ⟨L0, L1, L2, hL⟩ := baseL hB
      have hlen := hL.few
      rw [hp] at nf
      refine (exp_core A t0.A t1.A t2.A C t0.C t1.C t2.C ss t0.ps t1.ps t2.ps t0.r t1.r t2.r f t w _ _ _ _ _ _ ck0 nf (fun W hW => freshNames_any A C ss W (hS.up hW)) (fun W hW => younger_any t0.A t0.C t0.r t t0.ps L0 W (h0.1.up hW) h0.2.1 hL.a0) (fun W hW => younger_any t1.A t1.C t1.r t t1.ps L1 W (h1.1.up hW) h1.2.1 hL.a1) (fun W hW => younger_any t2.A t2.C t2.r t t2.ps L2 W (h2.1.up hW) h2.2.1 hL.a2)).mono ?_
      intro e w' h
      obtain ⟨hb, h⟩ := h
      refine ⟨hb, ?_⟩
      rcases h with ⟨c, hc0, hbad, rfl⟩ | ⟨VA, VC, g0, D0, g1, D1, g2, D2, q0, q1, q2, s0, s1, s2, rfl, hown, N0, N1, N2, a0, a1, a2⟩
      · have hc1 : c = 1 := by
          rcases hbad with h | h | h <;> exact h.1
        refine .inl ⟨c, hc0, .inr (.inr ⟨hB, hp, hc1, fun K0 K1 K2 hK => ?_⟩), rfl⟩
        obtain rfl : K0 = L0 := by have := hK.a0.symm.trans hL.a0; exact (Prod.mk.inj this).2
        have ht := (floor_zero hp).2.2.1
        have hg := (allP_facts (ns := t0.ps.map PN.nd) (r := t0.r) (low := 0) (high := 1099511627776)).2.1
        rw [hL.a0] at hg
        have hg' : ∀ y ∈ K0.filter (yngB t), Good y.ru := fun y hy => hg y (List.mem_filter.1 hy).1
        have l1 := roll_few hg' (yng_roll (t := t) ht (.inr (.inl rfl)) hL.p1)
        have l2 := roll_few hg' (yng_roll (t := t) ht (.inr (.inr rfl)) hL.p2)
        rcases hbad with h | h | h
        · exact h.2
        · have := h.2; omega
        · have := h.2; omega
      · exact .inr ⟨VA, VC, ⟨some ⟨g0, 0, none⟩, D0, q0, s0⟩, ⟨some ⟨g1, 0, none⟩, D1, q1, s1⟩, ⟨some ⟨g2, 0, none⟩, D2, q2, s2⟩, L0, L1, L2, ⟨hB, hp, hL, a0, a1, a2⟩, rfl, ⟨hown, hS.each, by omega, ⟨g0, rfl, N0⟩, ⟨g1, rfl, N1⟩, ⟨g2, rfl, N2⟩⟩⟩
    · refine (exp_b2 _ _ _ _ _ _ _ f t _ hp w ck0 nf).mono ?_
      rintro e w' ⟨rfl, hb⟩
      exact ⟨hb, .inl ⟨_, hp, .inr (.inl ⟨hB, hp, rfl⟩), rfl⟩⟩

end Go.Proofs.YtlojfgdpmaigmaeGreatDoor

/- The law of Add: its walk, over what its callees do. -/
namespace Go.Proofs.YtlojfgdpmaigmaeGreatDoor
open Go.RowKit Plain Go.Shelf

theorem kept_any (A A0 A1 A2 : Option Addr) (C C0 C1 C2 : Nat) (r0 r1 r2 : Int) (w : World) : Calls Tryz.prog 11 #[.agg #[.slice A 0 C, .slice A0 0 C0, .int .i64 r0, .slice A1 0 C1, .int .i64 r1, .slice A2 0 C2, .int .i64 r2, .int .i64 0]] w fun e w' => e = .returned (.bool true) ∧ Below w.heap.size w w' := by
  have b0 : ∀ o : Obj, Below w.heap.size w (w.alloc o) := fun o => (Below.refl _ _).alloc (Nat.le_refl _) o
  go_enter Tryz.func11, Tryz.ntmps11
  go_wp2
  go_ret
  exact ⟨rfl, b0 _⟩

end Go.Proofs.YtlojfgdpmaigmaeGreatDoor

/- The law of Expire: its walk, over what its callees do. -/
namespace Go.Proofs.YtlojfgdpmaigmaeGreatDoor
open Go.RowKit Plain Go.Shelf

/-- What the law finds, once both are called. -/
def LawX (ss : List ByteArray) (A : Option Addr) (C : Nat) (t : Int) (w : World) (NA : Option Addr) (nl NC : Nat) (X0 : Option Addr) (x0 Y0 : Nat) (s0 : Int) (X1 : Option Addr) (x1 Y1 : Nat) (s1 : Int) (X2 : Option Addr) (x2 Y2 : Nat) (s2 g c : Int) (EA : Option Addr) (el EC : Nat) (d : Int) : Prop :=
  (c ≠ 0 ∧ nl = 0 ∧ x0 = 0 ∧ x1 = 0 ∧ x2 = 0 ∧ g = 0 ∧ (c = d ∨ (d = 0 ∧ c = 1 ∧ 2900 < el))) ∨
  (c = 0 ∧ d = 0 ∧ ∀ W, Below w.heap.size w W → Calls Tryz.prog 12 #[.agg #[.slice NA nl NC, .slice X0 x0 Y0, .int .i64 s0, .slice X1 x1 Y1, .int .i64 s1, .slice X2 x2 Y2, .int .i64 s2, .int .i64 g], .slice A ss.length C, .int .i64 t, .slice EA el EC] W fun e w' => e = .returned (.bool true) ∧ Below W.heap.size W w')

set_option maxRecDepth 20000 in
set_option maxHeartbeats 4000000 in
theorem expires_s (A A0 A1 A2 : Option Addr) (C C0 C1 C2 : Nat) (ss : List ByteArray) (p0 p1 p2 : List PN) (r0 r1 r2 f t : Int) (w : World) (P : World → (NA : Option Addr) → (nl NC : Nat) → (X0 : Option Addr) → (x0 Y0 : Nat) → (s0 : Int) → (X1 : Option Addr) → (x1 Y1 : Nat) → (s1 : Int) → (X2 : Option Addr) → (x2 Y2 : Nat) → (s2 g c : Int) → Prop) (Q : World → (EA : Option Addr) → (el EC : Nat) → (d : Int) → Prop)
    (AD : Hid (∀ W, Below w.heap.size w W → Calls Tryz.prog 9 #[.agg #[.slice A ss.length C, .slice A0 p0.length C0, .int .i64 r0, .slice A1 p1.length C1, .int .i64 r1, .slice A2 p2.length C2, .int .i64 r2, .int .i64 f], .int .i64 t] W fun e w' => ∃ NA nl NC X0 x0 Y0 s0 X1 x1 Y1 s1 X2 x2 Y2 s2 g c, e = .returned (.tuple #[.agg #[.slice NA nl NC, .slice X0 x0 Y0, .int .i64 s0, .slice X1 x1 Y1, .int .i64 s1, .slice X2 x2 Y2, .int .i64 s2, .int .i64 g], .int .i64 c]) ∧ Below W.heap.size W w' ∧ P w' NA nl NC X0 x0 Y0 s0 X1 x1 Y1 s1 X2 x2 Y2 s2 g c))
    (DC : Hid (∀ W, Below w.heap.size w W → Calls Tryz.prog 10 #[.agg #[.slice A ss.length C, .slice A0 p0.length C0, .int .i64 r0, .slice A1 p1.length C1, .int .i64 r1, .slice A2 p2.length C2, .int .i64 r2, .int .i64 f], .int .i64 t] W fun e w' => ∃ EA el EC d, e = .returned (.tuple #[.slice EA el EC, .int .i64 d]) ∧ Below W.heap.size W w' ∧ Q w' EA el EC d))
    (LC : Hid (∀ wa wb W NA nl NC X0 x0 Y0 s0 X1 x1 Y1 s1 X2 x2 Y2 s2 g c EA el EC d, P wa NA nl NC X0 x0 Y0 s0 X1 x1 Y1 s1 X2 x2 Y2 s2 g c → Q wb EA el EC d → Below wa.heap.size wa W → Below wb.heap.size wb W → Below w.heap.size w W → LawX ss A C t W NA nl NC X0 x0 Y0 s0 X1 x1 Y1 s1 X2 x2 Y2 s2 g c EA el EC d)) :
    Calls Tryz.prog 3 #[.agg #[.slice A ss.length C, .slice A0 p0.length C0, .int .i64 r0, .slice A1 p1.length C1, .int .i64 r1, .slice A2 p2.length C2, .int .i64 r2, .int .i64 f], .int .i64 t] w fun e w' => e = .returned (.bool true) ∧ Below w.heap.size w w' := by
  have b0 : ∀ o : Obj, Below w.heap.size w (w.alloc o) := fun o => (Below.refl _ _).alloc (Nat.le_refl _) o
  have RB := hideC (rowL_alloc w [.slice A ss.length C, .slice A0 p0.length C0, .int .i64 r0, .slice A1 p1.length C1, .int .i64 r1, .slice A2 p2.length C2, .int .i64 r2, .int .i64 f] 28)
  go_enter Tryz.func3, Tryz.ntmps3
  go_upto_region 3 with (first
    | (go_at_call 9; refine (AD.out _ (b0 _)).mono ?_; rintro e w2 ⟨NA, nl, NC, X0, x0, Y0, s0, X1, x1, Y1, s1, X2, x2, Y2, s2, g, c, rfl, hb2, hP⟩; have HP2 := hideC hP; have HB2 := hideC (nextB (b0 _) (Nat.le_refl _) hb2); have R2 := hideC (RB.out.below hb2 (by simp)); have d2 := fun j => R2.out.cell j; have l2 := R2.out.lt; clear hb2 hP)
    | (go_at_call 10; refine (DC.out _ (HB2.out.alloc HB2.out.size _)).mono ?_; rintro e w3 ⟨EA, el, EC, d, rfl, hb3, hQ⟩; have HQ3 := hideC hQ; have HB3 := hideC (nextB ((Below.refl _ _).alloc (Nat.le_refl _) _) (Nat.le_refl _) hb3 : Below w2.heap.size w2 w3); have A3 : Hid (RowL w3 w2.heap.size 28 [.slice NA nl NC, .slice X0 x0 Y0, .int .i64 s0, .slice X1 x1 Y1, .int .i64 s1, .slice X2 x2 Y2, .int .i64 s2, .int .i64 g]) := (rowL_alloc w2 [.slice NA nl NC, .slice X0 x0 Y0, .int .i64 s0, .slice X1 x1 Y1, .int .i64 s1, .slice X2 x2 Y2, .int .i64 s2, .int .i64 g] _).below hb3 (by simp); have R3 := hideC (R2.out.below HB3.out R2.out.lt); clear hb3 hQ d2))
  have HW := hideC (nextB HB2.out (Nat.le_refl _) HB3.out)
  have HL := LC.out w2 w3 w3 _ _ _ _ _ _ _ _ _ _ _ _ _ _ _ _ _ _ _ _ _ HP2.out HQ3.out HB3.out (Below.refl _ _) HW.out
  have e4 := fun j => R3.out.cell j
  have a4 := fun j => A3.out.cell j
  have l4 := R3.out.lt
  have m4 := A3.out.lt
  clear HP2 HQ3 HB2 HB3 R3 A3 R2 RB AD DC LC l2
  obtain ⟨ab, hab⟩ : ∃ ab, ab = w2.heap.size := ⟨_, rfl⟩
  rw [← hab] at a4 m4 ⊢
  clear hab
  rcases HL with ⟨hc, rfl, rfl, rfl, rfl, rfl, hcd⟩ | ⟨rfl, rfl, hIs⟩
  · have hc' : (c != 0) = true := by simpa using hc
    have KP := hideC fun W => kept_any NA X0 X1 X2 NC Y0 Y1 Y2 s0 s1 s2 W
    rcases hcd with rfl | ⟨rfl, rfl, hla⟩
    · have hcc : (c == c) = true := by simp
      go_wp2_with (first
        | (go_at_call 11; refine (KP.out _).mono ?_; rintro e w9 ⟨rfl, hb9⟩))
      go_ret
      exact ⟨rfl, nextB HW.out (Nat.le_refl _) hb9⟩
    · have hla' : (2900 : Int) < (el : Int) := by omega
      go_wp2_with (first
        | (go_at_call 11; refine (KP.out _).mono ?_; rintro e w9 ⟨rfl, hb9⟩))
      go_ret
      exact ⟨rfl, nextB HW.out (Nat.le_refl _) hb9⟩
  · have HI := hideC hIs
    clear hIs
    go_wp2_with (first
      | (go_at_call 12; refine (HI.out _ (Below.refl _ _)).mono ?_; rintro e w9 ⟨rfl, hb9⟩))
    go_ret
    exact ⟨rfl, nextB HW.out (Nat.le_refl _) hb9⟩

end Go.Proofs.YtlojfgdpmaigmaeGreatDoor

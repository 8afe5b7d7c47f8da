/- For every list of raw things and any two numbers, what may not be is refused: names, times and values that may not be, a base that may not be, a series that there is not, times out of their order or bounds. No condition beside the table of sizes, which is tied to the program's text. -/
import Derived.Test.YtlojfgdpmaigmaeGreatDoorP51
import Derived.Test.YtlojfgdpmaigmaeGreatDoorLaidSz
import Derived.ChangeMaps5
namespace Go.Proofs.YtlojfgdpmaigmaeGreatDoor
open Go.ChangeShapes Go.WideShapes Go.ChangeAt Go.RowKit Plain Go.Shelf

/-- To a base that there is not nothing is added. -/
theorem zero_bad : baseB [] 0 (([] : List PN).map PN.nd) 0 (([] : List PN).map PN.nd) 0 (([] : List PN).map PN.nd) 0 = false := by
  have h : treeC (([] : List PN).map PN.nd) 0 = 7 := by decide
  have hb : bookP (([] : List PN).map PN.nd) 0 0 0 = none := by
    unfold bookP
    rw [if_neg]
    rintro ⟨h1, -⟩
    unfold allP at h1
    rw [if_pos (by rw [h]; decide), h] at h1
    exact absurd h1 (by decide)
  unfold baseB treesB
  rw [show ((([] : List ByteArray).length : Nat) : Int) = 0 from rfl, hb]
  simp

theorem badd_zero (s : ByteArray) (t v : Int) (w : World) (hZ : SzAt w) (hs : s.size ≤ 140737488351232) :
    Calls Tryz.prog 22 #[.agg #[.slice none 0 0, .slice none 0 0, .int .i64 0, .slice none 0 0, .int .i64 0, .slice none 0 0, .int .i64 0, .int .i64 0], .agg #[.string s, .int .i64 t, .int .i64 v]] w fun e w' => e = .returned (noBase 7) ∧ Below w.heap.size w w' := by
  have hz : (Lit.int .i64 0).wf = true := by decide
  have hN : NodesAt w.heap.size w none [] := ⟨.inl rfl, fun k hk => by simp at hk, by decide⟩
  refine (badd_any none 0 [] ⟨none, 0, [], 0⟩ ⟨none, 0, [], 0⟩ ⟨none, 0, [], 0⟩ 0 s t v w hZ (Nat.le_refl _) ⟨.inl rfl, by decide, by simp⟩ hs ⟨hN, by simp, hz⟩ ⟨hN, by simp, hz⟩ ⟨hN, by simp, hz⟩).mono ?_
  rintro e w' ⟨hb, h⟩
  rcases h with ⟨c, _, hno, rfl⟩ | ⟨A', C', u0, u1, u2, K0, K1, K2, M0, M1, M2, hy, _⟩
  · rcases hno with ⟨_, rfl⟩ | ⟨h1, _⟩ | ⟨h1, _⟩
    · exact ⟨rfl, hb⟩
    · rw [zero_bad] at h1; cases h1
    · rw [zero_bad] at h1; cases h1
  · have h1 := hy.was
    rw [zero_bad] at h1; cases h1

theorem never_nm (i : Int) : (⟨#[110, 101, 118, 101, 114]⟩ : ByteArray) ≠ nmS i := by
  unfold nmS
  split
  · decide
  · split
    · decide
    · split <;> decide

theorem never_idx {ss : List ByteArray} (h : Few4 ss) : Lib.idxOfS ss ⟨#[110, 101, 118, 101, 114]⟩ < 0 := by
  rw [idx_neg]
  intro hm
  obtain ⟨i, hi⟩ := h _ hm
  exact never_nm i hi

/-- The six points that may not be, and how each is refused. -/
def oddS (i : Nat) : ByteArray := if i = 0 then ⟨#[]⟩ else if i = 1 then ⟨#[67, 112, 117]⟩ else if i = 2 then ⟨#[97, 98, 99, 100, 101, 102, 103, 104, 105, 106, 107]⟩ else ⟨#[97]⟩
def oddT (k : Int) (i : Nat) : Int := if i = 3 then -k else if i = 4 then 1048575 + k else 0
def oddV (k : Int) (i : Nat) : Int := if i = 5 then 1000000 + k else 0
def oddE (i : Nat) : Int := if i < 3 then 4 else 2

theorem odd_c {k : Int} (hk : 1 ≤ k) {i : Nat} (hi : i < 6) : ptC (oddS i) (oddT k i) (oddV k i) 0 = oddE i := by
  have na : nameB ⟨#[97]⟩ = true := by decide
  rcases (show i = 0 ∨ i = 1 ∨ i = 2 ∨ i = 3 ∨ i = 4 ∨ i = 5 by omega) with rfl | rfl | rfl | rfl | rfl | rfl
  · show ptC ⟨#[]⟩ 0 0 0 = 4
    decide
  · show ptC ⟨#[67, 112, 117]⟩ 0 0 0 = 4
    decide
  · show ptC ⟨#[97, 98, 99, 100, 101, 102, 103, 104, 105, 106, 107]⟩ 0 0 0 = 4
    decide
  · show ptC ⟨#[97]⟩ (-k) 0 0 = 2
    unfold ptC
    rw [if_pos na, if_neg]
    unfold ofOk inB
    simp
    omega
  · show ptC ⟨#[97]⟩ (1048575 + k) 0 0 = 2
    unfold ptC
    rw [if_pos na, if_neg]
    unfold ofOk inB
    simp
    omega
  · show ptC ⟨#[97]⟩ 0 (1000000 + k) 0 = 2
    unfold ptC
    rw [if_pos na, if_neg]
    unfold ofOk inB
    simp
    omega

theorem oddS_size (i : Nat) : (oddS i).size ≤ 11 := by
  unfold oddS
  split
  · decide
  · split
    · decide
    · split <;> decide

theorem odd_cells (w : World) (k : Int) (t : TypeId) {i : Nat} (hi : i < 6) : let W := w.alloc (.cells #[.string ⟨#[]⟩, .int .i64 0, .int .i64 0, .string ⟨#[67, 112, 117]⟩, .int .i64 0, .int .i64 0, .string ⟨#[97, 98, 99, 100, 101, 102, 103, 104, 105, 106, 107]⟩, .int .i64 0, .int .i64 0, .string ⟨#[97]⟩, .int .i64 (-k), .int .i64 0, .string ⟨#[97]⟩, .int .i64 (1048575 + k), .int .i64 0, .string ⟨#[97]⟩, .int .i64 0, .int .i64 (1000000 + k)] t)
    W.cell? ⟨w.heap.size, i * 3, none⟩ = some (.string (oddS i)) ∧ W.cell? ⟨w.heap.size, i * 3 + 1, none⟩ = some (.int .i64 (oddT k i)) ∧ W.cell? ⟨w.heap.size, i * 3 + 2, none⟩ = some (.int .i64 (oddV k i)) := by
  intro W
  have h := rowL_alloc w [.string ⟨#[]⟩, .int .i64 0, .int .i64 0, .string ⟨#[67, 112, 117]⟩, .int .i64 0, .int .i64 0, .string ⟨#[97, 98, 99, 100, 101, 102, 103, 104, 105, 106, 107]⟩, .int .i64 0, .int .i64 0, .string ⟨#[97]⟩, .int .i64 (-k), .int .i64 0, .string ⟨#[97]⟩, .int .i64 (1048575 + k), .int .i64 0, .string ⟨#[97]⟩, .int .i64 0, .int .i64 (1000000 + k)] t
  refine ⟨(h.cell _).trans ?_, (h.cell _).trans ?_, (h.cell _).trans ?_⟩ <;>
    rcases (show i = 0 ∨ i = 1 ∨ i = 2 ∨ i = 3 ∨ i = 4 ∨ i = 5 by omega) with rfl | rfl | rfl | rfl | rfl | rfl <;> rfl

theorem err_cells (w : World) (t : TypeId) {i : Nat} (hi : i < 6) : (w.alloc (.cells #[.int .i64 4, .int .i64 4, .int .i64 4, .int .i64 2, .int .i64 2, .int .i64 2] t)).cell? ⟨w.heap.size, i, none⟩ = some (.int .i64 (oddE i)) := by
  have h := rowL_alloc w [.int .i64 4, .int .i64 4, .int .i64 4, .int .i64 2, .int .i64 2, .int .i64 2] t
  refine (h.cell _).trans ?_
  rcases (show i = 0 ∨ i = 1 ∨ i = 2 ∨ i = 3 ∨ i = 4 ∨ i = 5 by omega) with rfl | rfl | rfl | rfl | rfl | rfl <;> rfl

set_option maxRecDepth 20000 in
set_option maxHeartbeats 4000000 in
theorem basesBad_walk (A : Option Addr) (C : Nat) (xs : List Rw) (which n : Int) (w : World) (hZ : SzAt w) (hA : RowAt w.heap.size w A (flatR xs)) (_ : xs.length * 32 ≤ 140737488351232) (hwf : ∀ x ∈ xs, x.wf) (hw : (Lit.int .i64 which).wf = true) (hn : (Lit.int .i64 n).wf = true) :
    Calls Tryz.prog 8 #[.slice A xs.length C, .int .i64 which, .int .i64 n] w fun e w' => e = .returned (.bool true) ∧ Below w.heap.size w w' := by
  have bw := i64_wf hw
  have bn := i64_wf hn
  have p1 := pick_bd n (show (0 : Int) < 100 by decide)
  have p2 := pick_bd which (show (0 : Int) < 6 by decide)
  have KB1 := hideC (kbase_any A C xs 10 w hZ hA hwf (by decide) (by decide))
  have hlen : ((xs.take (10 : Int).toNat).map rawPt).length ≤ 10 := by simp; omega
  obtain ⟨pts, hpts⟩ : ∃ pts, (xs.take (10 : Int).toNat).map rawPt = pts := ⟨_, rfl⟩
  rw [hpts] at KB1 hlen
  have PN := hideC fun W => picked_any n 100 W bn.1 bn.2 (by decide) (by decide)
  have PW := hideC fun W => picked_any which 6 W bw.1 bw.2 (by decide) (by decide)
  obtain ⟨u, hu⟩ : ∃ u, pick n 100 = u := ⟨_, rfl⟩
  rw [hu] at PN p1
  obtain ⟨i, hi⟩ : ∃ i : Nat, pick which 6 = (i : Int) := ⟨(pick which 6).toNat, by omega⟩
  rw [hi] at PW p2
  obtain ⟨k, hk⟩ : ∃ k, 1 + u = k := ⟨_, rfl⟩
  have k1 : IntKind.i64.wrap (1 + u) = k := by rw [IntKind.wrap_i64]; omega
  have k2 : IntKind.i64.wrap (-k) = -k := by rw [IntKind.wrap_i64]; omega
  have k3 : IntKind.i64.wrap (1048575 + k) = 1048575 + k := by rw [IntKind.wrap_i64]; omega
  have k4 : IntKind.i64.wrap (1000000 + k) = 1000000 + k := by rw [IntKind.wrap_i64]; omega
  have k5 : IntKind.i64.wrap (k - 1) = k - 1 := by rw [IntKind.wrap_i64]; omega
  have hk1 : 1 ≤ k ∧ k ≤ 100 := by omega
  have hi6 : i < 6 := by omega
  have HZ := hideC hZ
  clear hpts hu hi hk hA hwf hw hn bw bn hZ p1 p2
  go_enter Tryz.func8, Tryz.ntmps8
  go_upto_region 6 with (first
    | (go_at_call 13; refine KB1.out.mono ?_; rintro e w1 ⟨A1, PA1, C1, PC1, ss, t0, t1, t2, he, ho, hk, hf4, hr, hb⟩; obtain ⟨A10, C10, q0, s0⟩ := t0; obtain ⟨A11, C11, q1, s1⟩ := t1; obtain ⟨A12, C12, q2, s2⟩ := t2; have BA1 := hideC (ho.at hk); have K1 := hideC hk; have HB1 := hideC hb; have F4 := hideC hf4; have X1 := hideC (rowL_alloc w1 (baseV A1 C1 ss ⟨A10, C10, q0, s0⟩ ⟨A11, C11, q1, s1⟩ ⟨A12, C12, q2, s2⟩ 0) 28); simp only [baseV] at he; subst he; clear ho hk hf4 hr hb KB1)
    | (go_at_call_of 15 n; refine (PN.out _).mono ?_; rintro e wx ⟨rfl, hwx⟩; subst wx)
    | (go_at_call_of 15 which; refine (PW.out _).mono ?_; rintro e wy ⟨rfl, hwy⟩; subst wy))
  obtain ⟨wd, hwd⟩ : ∃ wd, wd = (((w1.alloc (.cells #[.slice A1 ss.length C1, .slice A10 q0.length C10, .int .i64 s0, .slice A11 q1.length C11, .int .i64 s1, .slice A12 q2.length C12, .int .i64 s2, .int .i64 0] 28)).alloc (.cells #[.string ⟨#[]⟩, .int .i64 0, .int .i64 0, .string ⟨#[67, 112, 117]⟩, .int .i64 0, .int .i64 0, .string ⟨#[97, 98, 99, 100, 101, 102, 103, 104, 105, 106, 107]⟩, .int .i64 0, .int .i64 0, .string ⟨#[97]⟩, .int .i64 (-k), .int .i64 0, .string ⟨#[97]⟩, .int .i64 (1048575 + k), .int .i64 0, .string ⟨#[97]⟩, .int .i64 0, .int .i64 (1000000 + k)] 61)).alloc (.cells #[.int .i64 4, .int .i64 4, .int .i64 4, .int .i64 2, .int .i64 2, .int .i64 2] 29)) := ⟨_, rfl⟩
  have hsz : wd.heap.size = w1.heap.size + 3 := by rw [hwd]; simp
  have HBd : Hid (Below w1.heap.size w1 wd) := by rw [hwd]; exact (((Below.refl _ _).alloc (Nat.le_refl _) _).alloc (by simp) _).alloc (by simp; omega) _
  have XB : Hid (RowL wd w1.heap.size 28 (baseV A1 C1 ss ⟨A10, C10, q0, s0⟩ ⟨A11, C11, q1, s1⟩ ⟨A12, C12, q2, s2⟩ 0)) := by
    rw [hwd]
    exact (X1.out.of_block (Below.heap_alloc _ _ _ (by simp))).of_block (Below.heap_alloc _ _ _ (by simp; omega))
  obtain ⟨o0, o1, o2⟩ : wd.cell? ⟨w1.heap.size + 1, i * 3, none⟩ = some (.string (oddS i)) ∧ wd.cell? ⟨w1.heap.size + 1, i * 3 + 1, none⟩ = some (.int .i64 (oddT k i)) ∧ wd.cell? ⟨w1.heap.size + 1, i * 3 + 2, none⟩ = some (.int .i64 (oddV k i)) := by
    obtain ⟨e0, e1, e2⟩ := odd_cells (w1.alloc (.cells #[.slice A1 ss.length C1, .slice A10 q0.length C10, .int .i64 s0, .slice A11 q1.length C11, .int .i64 s1, .slice A12 q2.length C12, .int .i64 s2, .int .i64 0] 28)) k 61 hi6
    have hs1 : (w1.alloc (.cells #[.slice A1 ss.length C1, .slice A10 q0.length C10, .int .i64 s0, .slice A11 q1.length C11, .int .i64 s1, .slice A12 q2.length C12, .int .i64 s2, .int .i64 0] 28)).heap.size = w1.heap.size + 1 := by simp
    rw [hs1] at e0 e1 e2
    have far : ∀ (W : World) (o : Obj) (j : Nat), w1.heap.size + 1 < W.heap.size → (W.alloc o).cell? ⟨w1.heap.size + 1, j, none⟩ = W.cell? ⟨w1.heap.size + 1, j, none⟩ := fun W o j h => ((Below.refl W.heap.size W).alloc (Nat.le_refl _) o).cell (p := ⟨w1.heap.size + 1, j, none⟩) h
    rw [hwd]
    exact ⟨(far _ _ _ (by simp)).trans e0, (far _ _ _ (by simp)).trans e1, (far _ _ _ (by simp)).trans e2⟩
  have e0 : wd.cell? ⟨w1.heap.size + 1 + 1, i, none⟩ = some (.int .i64 (oddE i)) := by
    have h := err_cells ((w1.alloc (.cells #[.slice A1 ss.length C1, .slice A10 q0.length C10, .int .i64 s0, .slice A11 q1.length C11, .int .i64 s1, .slice A12 q2.length C12, .int .i64 s2, .int .i64 0] 28)).alloc (.cells #[.string ⟨#[]⟩, .int .i64 0, .int .i64 0, .string ⟨#[67, 112, 117]⟩, .int .i64 0, .int .i64 0, .string ⟨#[97, 98, 99, 100, 101, 102, 103, 104, 105, 106, 107]⟩, .int .i64 0, .int .i64 0, .string ⟨#[97]⟩, .int .i64 (-k), .int .i64 0, .string ⟨#[97]⟩, .int .i64 (1048575 + k), .int .i64 0, .string ⟨#[97]⟩, .int .i64 0, .int .i64 (1000000 + k)] 61)) 29 hi6
    rw [hwd]
    simpa using h
  rw [← hwd]
  clear hwd X1
  have b := fun j => XB.out.cell j
  have b0 := b 0
  have b1 := b 1
  have b2 := b 2
  have b3 := b 3
  have b4 := b 4
  have b5 := b 5
  have b6 := b 6
  have b7 := b 7
  simp only [baseV, List.getElem?_cons_zero, List.getElem?_cons_succ] at b0 b1 b2 b3 b4 b5 b6 b7
  clear b
  have q0' : (0 : Int) ≤ (i : Int) := by omega
  have q1' : (i : Int) < 6 := by omega
  have hod := odd_c hk1.1 hi6
  have AD := hideC fun W (hW : Below wd.heap.size wd W) => badd_pt (HZ.out.below (nextB (nextB HB1.out (Nat.le_refl _) HBd.out) (Nat.le_refl _) hW)) (BA1.out.up (nextB HBd.out (Nat.le_refl _) hW)) K1.out (s := oddS i) (t := oddT k i) (v := oddV k i) (c := oddE i) (by have := oddS_size i; omega) hod (by unfold oddE; split <;> decide)
  simp only [baseV, noBase] at AD
  obtain ⟨os, hos⟩ : ∃ os, oddS i = os := ⟨_, rfl⟩
  obtain ⟨ot, hot⟩ : ∃ ot, oddT k i = ot := ⟨_, rfl⟩
  obtain ⟨ov, hov⟩ : ∃ ov, oddV k i = ov := ⟨_, rfl⟩
  obtain ⟨oe, hoe⟩ : ∃ oe, oddE i = oe := ⟨_, rfl⟩
  rw [hos] at o0 AD
  rw [hot] at o1 AD
  rw [hov] at o2 AD
  rw [hoe] at e0 AD
  clear hod hos hot hov hoe PN PW
  have l1 : w1.heap.size < wd.heap.size := by omega
  have l2 : w1.heap.size + 1 < wd.heap.size := by omega
  have l3 : w1.heap.size + 1 + 1 < wd.heap.size := by omega
  clear hsz
  go_cut [14] (fun v14 wc => v14 = .int .i64 oe ∧ Below wd.heap.size wd wc)
  case first =>
    have n1 : ¬ w1.heap.size = wd.heap.size := by omega
    have n2 : ¬ w1.heap.size + 1 = wd.heap.size := by omega
    have KS : ∀ (W : World) (b' o' j : Nat) (u : Value), ¬ b' = wd.heap.size → (W.setCell ⟨wd.heap.size, j, none⟩ u).cell? ⟨b', o', none⟩ = W.cell? ⟨b', o', none⟩ := fun W b' o' j u hb => World.cell?_setCell_far _ _ _ _ (fun e => hb e.symm)
    go_region_held3 (fun w' => w'.cell? ⟨w1.heap.size, 0, none⟩ = some (.slice A1 ss.length C1) ∧ w'.cell? ⟨w1.heap.size, 1, none⟩ = some (.slice A10 q0.length C10) ∧ w'.cell? ⟨w1.heap.size, 2, none⟩ = some (.int .i64 s0) ∧ w'.cell? ⟨w1.heap.size, 3, none⟩ = some (.slice A11 q1.length C11) ∧ w'.cell? ⟨w1.heap.size, 4, none⟩ = some (.int .i64 s1) ∧ w'.cell? ⟨w1.heap.size, 5, none⟩ = some (.slice A12 q2.length C12) ∧ w'.cell? ⟨w1.heap.size, 6, none⟩ = some (.int .i64 s2) ∧ w'.cell? ⟨w1.heap.size, 7, none⟩ = some (.int .i64 0) ∧ w'.cell? ⟨w1.heap.size + 1, i * 3, none⟩ = some (.string os) ∧ w'.cell? ⟨w1.heap.size + 1, i * 3 + 1, none⟩ = some (.int .i64 ot) ∧ w'.cell? ⟨w1.heap.size + 1, i * 3 + 2, none⟩ = some (.int .i64 ov)) (go_keep)
      (first
        | (go_at_call 22; refine (AD.out _ (by first | exact (Below.refl _ _).drew | exact ((Below.refl _ _).alloc (Nat.le_refl _) _).drew)).mono ?_; rintro e w3 ⟨rfl, hb3⟩; have T3 := (bcells (hb3.mono (show wd.heap.size ≤ _ by first | simp | (simp; omega)))).1; (first | (have T4 := alloc_rule8 (W := wd.drew) (n := wd.heap.size) hb3 rfl; obtain ⟨T40, U4⟩ := T4) | skip); have HB3 := hideC hb3))
    · go_wp2
      go_meet
      case rel =>
        have bw : Below wd.heap.size wd w3 := ((Below.refl wd.heap.size wd).drew).trans (HB3.out.mono (by simp))
        exact ⟨rfl, bw.alloc bw.size _⟩
    · go_wp2
      go_meet
      case rel =>
        have bw : Below wd.heap.size wd w3 := (((Below.refl wd.heap.size wd).alloc (Nat.le_refl _) _).drew).trans (HB3.out.mono (by simp))
        exact ⟨rfl, set8_below bw (Nat.le_refl _) _ _ _ _ _ _ _ _⟩
  case rest =>
    obtain ⟨rfl, hcut⟩ := hcut
    obtain ⟨wq, hwq⟩ : ∃ wq, wq = wc := ⟨_, rfl⟩
    subst hwq
    have HQ := hideC (nextB HBd.out (Nat.le_refl _) hcut)
    have XQ := hideC (XB.out.below hcut XB.out.lt)
    have eq := (hcut.cell (p := ⟨w1.heap.size + 1 + 1, i, none⟩) l3).trans e0
    have lq : w1.heap.size + 1 + 1 < wq.heap.size := Nat.lt_of_lt_of_le l3 hcut.size
    have x := fun j => XQ.out.cell j
    simp only [baseV] at x
    clear b0 b1 b2 b3 b4 b5 b6 b7 o0 o1 o2 e0 hcut AD XB HBd
    have hcpu : ptC (nmS 0) 20000 0 0 = 0 := by decide
    have Z7 := hideC fun (W : World) (hW : SzAt W) => badd_zero ⟨#[97]⟩ 0 0 W hW (by decide)
    have Z8 := hideC fun W (hW : Below w1.heap.size w1 W) => total_no (HZ.out.below (nextB HB1.out (Nat.le_refl _) hW)) (BA1.out.up hW) K1.out (a := 0) (b := 1) (never_idx F4.out)
    have Z9 := hideC fun W (hW : Below w1.heap.size w1 W) => badd_kn (HZ.out.below (nextB HB1.out (Nat.le_refl _) hW)) (BA1.out.up hW) K1.out (s := nmS 0) (t := 20000) (v := 0) (by decide) hcpu (K1.out.with_len F4.out 0) (by omega)
    simp only [baseV, noBase, zro] at Z7 Z8 Z9
    have cpuM : 0 ≤ Lib.idxOfS (withS ss (nmS 0)) (nmS 0) := by
      rw [(plc_with ss (nmS 0)).1]
      exact (plc_with ss (nmS 0)).2.1
    rw [show nmS 0 = (⟨#[99, 112, 117]⟩ : ByteArray) from rfl] at Z9 cpuM
    obtain ⟨s9, hs9⟩ : ∃ s9, withS ss (⟨#[99, 112, 117]⟩ : ByteArray) = s9 := ⟨_, rfl⟩
    rw [hs9] at Z9 cpuM
    have CM := hideC cpuM
    have hsp1 : spanB k (k - 1) = false := by
      simp only [spanB, Bool.and_eq_false_iff, decide_eq_false_iff_not]
      omega
    have hsp2 : spanB 0 (1048575 + k) = false := by
      simp only [spanB, Bool.and_eq_false_iff, decide_eq_false_iff_not]
      omega
    have P0 : True := trivial
    clear hs9 cpuM hcpu
    go_wp2_with (first
      | (go_at_call 20; refine (R10.out _ ((Below.refl _ _).alloc (Nat.le_refl _) _)).mono ?_; rintro e wa ⟨rfl, hba⟩; have HBa := hideC (nextB ((Below.refl _ _).alloc (Nat.le_refl _) _) (Nat.le_refl _) hba : Below w9.heap.size w9 wa); have Xa := hideC (X9.out.below hba X9.out.lt); have xa := fun j => Xa.out.cell j; have la := Xa.out.lt; simp only [baseV] at xa; have P3 : True := trivial; clear hba)
      | (go_at_call 16; have kk := P3; clear kk; refine (T11.out _ HBa.out).mono ?_; rintro e wb ⟨rfl, hbb⟩; have HBb := hideC (nextB HBa.out (Nat.le_refl _) hbb); have Tb := (bcells hbb).1; have lb : w1.heap.size + 1 + 1 < wb.heap.size := (by have := HBb.out.size; have := HB9.out.size; omega); have eb := (HBb.out.cell (p := ⟨w1.heap.size + 1 + 1, i, none⟩) le9).trans eq9; clear hbb)
      | (go_at_call 16; have kk := P1; clear kk; refine (Z8.out _ (H7.out.alloc H7.out.size _)).mono ?_; rintro e w8 ⟨rfl, hb8⟩; have H8 := hideC (nextB (H7.out.alloc H7.out.size _) (Nat.le_refl _) hb8); have X8 := hideC ((X7.out.below ((Below.refl _ _).alloc (Nat.le_refl _) _) X7.out.lt).below hb8 (by have := X7.out.lt; simp; omega)); have x8 := fun j => X8.out.cell j; simp only [baseV] at x8; have l8 := X8.out.lt; have le8 : w1.heap.size + 1 + 1 < w8.heap.size := (by have := hb8.size; simp at this; omega); have eq8 := (hb8.cell (p := ⟨w1.heap.size + 1 + 1, i, none⟩) (by show w1.heap.size + 1 + 1 < _; simp; omega)).trans ((((Below.refl w7.heap.size w7).alloc (Nat.le_refl _) _).cell (p := ⟨w1.heap.size + 1 + 1, i, none⟩) le7).trans eq7); have P2 : True := trivial; clear hb8 x7 P1)
      | (go_at_call 22; have kk := P2; clear kk; refine (Z9.out _ (H8.out.alloc H8.out.size _)).mono ?_; rintro e w9 ⟨A9, C9, ⟨A90, C90, u0, v0⟩, ⟨A91, C91, u1, v1⟩, ⟨A92, C92, u2, v2⟩, he9, ho9, hk9, hb9⟩; have HB9 := hideC (nextB (H8.out.alloc H8.out.size _) (Nat.le_refl _) hb9); have BA9 := hideC (ho9.at hk9); have K9 := hideC hk9; have X9 := hideC (rowL_alloc w9 (baseV A9 C9 s9 ⟨A90, C90, u0, v0⟩ ⟨A91, C91, u1, v1⟩ ⟨A92, C92, u2, v2⟩ 0) 28); have R10 := hideC fun W (hW : Below w9.heap.size w9 W) => rows_span1 A9 C9 s9 ⟨A90, C90, u0, v0⟩ ⟨A91, C91, u1, v1⟩ ⟨A92, C92, u2, v2⟩ 0 ⟨#[99, 112, 117]⟩ k (k - 1) W _ (HZ.out.below (nextB (nextB HB1.out (Nat.le_refl _) HB9.out) (Nat.le_refl _) hW)) hsp1 (series_kn (HZ.out.below (nextB (nextB HB1.out (Nat.le_refl _) HB9.out) (Nat.le_refl _) hW)) (BA9.out.up hW) K9.out rfl CM.out); have T11 := hideC fun W (hW : Below w9.heap.size w9 W) => total_sp (HZ.out.below (nextB (nextB HB1.out (Nat.le_refl _) HB9.out) (Nat.le_refl _) hW)) (BA9.out.up hW) K9.out (x := ⟨#[99, 112, 117]⟩) (a := 0) (b := 1048575 + k) CM.out hsp2; simp only [baseV, zro] at he9 R10 T11; subst he9; have le9 : w1.heap.size + 1 + 1 < w9.heap.size := (by have := hb9.size; simp at this; omega); have eq9 := (hb9.cell (p := ⟨w1.heap.size + 1 + 1, i, none⟩) (by show w1.heap.size + 1 + 1 < _; simp; omega)).trans ((((Below.refl w8.heap.size w8).alloc (Nat.le_refl _) _).cell (p := ⟨w1.heap.size + 1 + 1, i, none⟩) le8).trans eq8); clear ho9 hk9 hb9 x8 P2 Z9 Z8 Z7)
      | (go_at_call 22; have kk := P0; clear kk; refine (Z7.out _ (HZ.out.below (nextB HB1.out (Nat.le_refl _) HQ.out))).mono ?_; rintro e w7 ⟨rfl, hb7⟩; have H7 := hideC (nextB HQ.out (Nat.le_refl _) hb7); have X7 := hideC (XQ.out.below hb7 XQ.out.lt); have x7 := fun j => X7.out.cell j; simp only [baseV] at x7; have l7 := X7.out.lt; have le7 : w1.heap.size + 1 + 1 < w7.heap.size := Nat.lt_of_lt_of_le lq hb7.size; have eq7 := (hb7.cell (p := ⟨w1.heap.size + 1 + 1, i, none⟩) lq).trans eq; have P1 : True := trivial; clear hb7 x P0))
    go_ret
    have hb := nextB (nextB HB1.out (Nat.le_refl _) HB9.out) (Nat.le_refl _) HBb.out
    exact ⟨rfl, hb.alloc hb.size _⟩

set_option maxRecDepth 100000 in
theorem basesBad_lifted (os : Os) (started : os.Started) (H : Type) (enc : TypeId × Value → H) :
    ReturnsInHanded {} Tryz.checked os 8 .any (fun w args => (Rows.basesBadSpec.pre enc Tryz.prog Tryz.f8 [] false w args ∧ laidMetH Tryz.prog laidSz w) ∧ sizedMet enc Tryz.prog Tryz.f8 (OpenSpec.ofChange Rows.basesBadSpec) false w args)
      (Rows.basesBadSpec.post enc Tryz.prog Tryz.f8 false true false false) := by
  refine returnsInHanded_of_change_and (C := Tryz.checked) (X := fun w _ => laidMetH Tryz.prog laidSz w) (fun _ _ _ hh h => h.of_heap hh) own started (by kernel_rfl) Tryz.func8
    (ChangeSpec.witness_at (enc := enc) (C := Tryz.checked) (os := os) (X := fun w _ => laidMetH Tryz.prog laidSz w) false (World.laidAll Tryz.prog os laidSz) #[.slice none 0 0, .int .i64 0, .int .i64 0] 8 (World.laidAll_os _ _ _) (by kernel_rfl) (by kernel_rfl) (by kernel_rfl) (by kernel_rfl) (by kernel_rfl)
      (by rw [MakeChecks.laidMetH_plain _ _ _ (by kernel_rfl)]; exact laidMet_laidAll _ (by kernel_rfl) (by kernel_rfl))) ?_
  intro W base args ds gs before hval0 hW _ hsz0 hL _
  have hval : ∀ (j : Nat) t v, Tryz.f8.params[j]? = some t → args[j]? = some v → Value.okWide Tryz.prog W .any base t v := hval0
  have hW' := hW
  obtain ⟨p, q, hA0, hV, rfl, hfz, hnd⟩ := hW
  have hA : DataW.TrodAll enc Tryz.prog W 0 (fun _ => true) true Tryz.f8.params.toList args.toList ds p := hA0
  have hsz : (DataW.weightsEach Tryz.prog (Tryz.f8.params.toList ++ Rows.basesBadSpec.plain.varTypes Tryz.prog) (ds ++ gs)).all (· ≤ reachBytes) = true := hsz0
  rw [Tryz.params8] at hA hval hsz
  obtain ⟨v0, vs0, d0, ds0, p0, q0, hargs, rfl, rfl, h0, r0⟩ := trodAll_cons hA
  obtain ⟨v1, vs1, d1, ds1, p1, q1, rfl, rfl, rfl, h1, r1⟩ := trodAll_cons r0
  obtain ⟨v2, vs2, d2, ds2, p2, q2, rfl, rfl, rfl, h2, r2⟩ := trodAll_cons r1
  obtain ⟨rfl, rfl, rfl⟩ := trodAll_nil r2
  obtain rfl : args = #[v0, v1, v2] := by cases args; simp_all
  obtain ⟨rfl, rfl⟩ := trodVars_none hV
  have k0 := h0
  have lt0 : ∀ x ∈ p0, x.block < W.heap.size := by obtain ⟨m, hm⟩ := k0; exact DataW.trod_lt m _ _ _ hm
  obtain ⟨A0, C0, xs0, rfl, hR0, hz0, hw0⟩ := open_rawsArg (hval 0 38 v0 rfl rfl) h0 (fun n hn => by
    have := List.all_eq_true.1 hsz n (DataW.weights_mem_each (j := 0) (t := 38) rfl rfl n hn)
    exact of_decide_eq_true this)
  have k1 := h1
  have lt1 : ∀ x ∈ p1, x.block < W.heap.size := by obtain ⟨m, hm⟩ := k1; exact DataW.trod_lt m _ _ _ hm
  obtain ⟨a1, rfl, w1⟩ : ∃ n : Int, v1 = .int .i64 n ∧ (Lit.int .i64 n).wf = true := by
    obtain ⟨n, h, _, _, w⟩ := open_int Tryz.underlying3 (hval 1 3 v1 rfl rfl) h1; exact ⟨n, h, w⟩
  have k2 := h2
  have lt2 : ∀ x ∈ p2, x.block < W.heap.size := by obtain ⟨m, hm⟩ := k2; exact DataW.trod_lt m _ _ _ hm
  obtain ⟨a2, rfl, w2⟩ : ∃ n : Int, v2 = .int .i64 n ∧ (Lit.int .i64 n).wf = true := by
    obtain ⟨n, h, _, _, w⟩ := open_int Tryz.underlying3 (hval 2 3 v2 rfl rfl) h2; exact ⟨n, h, w⟩
  clear hA0 hval0 hsz0
  refine (basesBad_walk A0 C0 xs0 a1 a2 W (szAt_of hL) hR0 hz0 hw0 w1 w2).mono fun e W' ⟨he, bel⟩ => ?_
  subst he
  exact ⟨_, rfl, _, _, _, [], _, [], hW', trodAll_mk1 (shut_bool Tryz.underlying4 _), (trodAll_cons_mk (Below.trod laidOut (by kernel_rfl) (of_decide_eq_true (by kernel_rfl)) k0 bel lt0) (trodAll_cons_mk (Below.trod laidOut (by kernel_rfl) (of_decide_eq_true (by kernel_rfl)) k1 bel lt1) (trodAll_cons_mk (Below.trod laidOut (by kernel_rfl) (of_decide_eq_true (by kernel_rfl)) k2 bel lt2) trodAll_mk0))), rfl, bel.frame _, fun h => by cases h⟩

theorem basesBad_holds : Rows.BasesBadSaid :=
  OpenClaim.holds_of_wide 8 Tryz.f8 rfl rfl rfl rfl rfl rfl rfl ⟨rfl, rfl, rfl, rfl, rfl⟩ rfl rfl rfl rfl rfl (by kernel_rfl) Tryz.func8 (by kernel_rfl)
    (of_decide_eq_true (by kernel_rfl)) (by unfold Func.isWrapper; first | (rw [if_pos (by decide +kernel)]; kernel_rfl) | (rw [if_neg (by decide +kernel)]; exact ⟨rfl, rfl⟩))
    (fun os started H enc _ => basesBad_lifted os started H enc)

theorem basesBadCard_holds : Rows.BasesBadCardSaid :=
  Claim7.holds_tied_plain_at .later [] [.data] true (true, "70812a8111c496b7e791c729587af830859d64019f6e8c761a5939306b334728") false basesBad_holds (fun _ h => by cases h) (by kernel_rfl) (fun _ h => by cases h) basesBad_row_tie rfl ⟨rfl, rfl⟩ (by kernel_rfl) rfl
    (fun f fn hf hfn => by
      obtain rfl : f = 8 := Option.some.inj ((show Tryz.prog.funcNamed "winnower/winnowerkeep.BasesBad" = some 8 by kernel_rfl).symm.trans hf) |>.symm
      obtain rfl : fn = Tryz.f8 := (Option.some.inj (Tryz.func8.symm.trans hfn)).symm
      exact ⟨by kernel_rfl, fun j t ht => by
        rw [Tryz.params8] at ht
        have hm : t ∈ [38, 3, 3] := by simpa using Array.mem_of_getElem? ht
        have hall : ([38, 3, 3].all fun u => !Tryz.prog.wantsStandIn u) = true := by kernel_rfl
        exact (show Tryz.prog.wantsStandIn t = false by simpa using List.all_eq_true.1 hall t hm)⟩)
    (by kernel_rfl)
#print axioms basesBadCard_holds
end Go.Proofs.YtlojfgdpmaigmaeGreatDoor

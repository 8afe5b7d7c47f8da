/- For every base, name, size, and times, package base's Rows answers what promise P3.4 says. No condition beside the table of sizes, which is tied to the program's text. -/
import Derived.Test.YtlojfgdpmaigmadDoorP32
import Derived.Test.YtlojfgdpmaigmadDoorLaidSz
import Derived.ChangeMaps5
namespace Go.Proofs.YtlojfgdpmaigmadDoor
open Go.ChangeShapes Go.WideShapes Go.ChangeAt Go.RowKit Plain
open Go.ChangeMaps (open_string)

set_option maxHeartbeats 1000000 in
theorem sameRows_eq (A A' : Option Addr) (C C' : Nat) (xs : List En) (w : World) (h : RowAt w.heap.size w A (flatE xs)) (h' : RowAt w.heap.size w A' (flatE xs)) (hz : xs.length ≤ 28000) :
    Calls Tryd.prog 10 #[.slice A xs.length C, .slice A' xs.length C'] w fun e w' => e = .returned (.bool true) ∧ Below w.heap.size w w' := by
  go_enter Tryd.func10, Tryd.ntmps10
  go_wp2_with fail
  go_loopw [5] (fun i wr => ∃ k : Nat, k ≤ xs.length ∧ i = .int .i64 k ∧ Below w.heap.size w wr) (fun i _ => xs.length - (intOf i).toNat)
  case atStart => exact ⟨0, Nat.zero_le _, rfl, Below.refl _ _⟩
  case round =>
    obtain ⟨k, hk, rfl, hb⟩ := hrel
    by_cases hlt : k < xs.length
    · obtain ⟨b, o, rfl, hbl, c0, c1, c2, c3, c4, c5, c6⟩ := (h.below hb (Nat.le_refl _)).en hlt
      obtain ⟨b', o', rfl, hbl', d0, d1, d2, d3, d4, d5, d6⟩ := (h'.below hb (Nat.le_refl _)).en hlt
      go_wp2
      go_region
      all_goals (try go_wp2)
      go_roundw
      case rel => exact ⟨k + 1, by omega, by go_num, hb.drew⟩
      case measure => simp [intOf]; omega
    · obtain rfl : k = xs.length := by omega
      go_wp2
      go_ret
      exact ⟨rfl, hb⟩

set_option maxRecDepth 20000 in
set_option maxHeartbeats 1000000 in
theorem baseRows_c (A : Option Addr) (C : Nat) (ss : List ByteArray) (t0 t1 t2 : TR) (f : Int) (x : ByteArray) (size a b : Int) (c : Int) (w : World) (conP : Hid (∀ W, Below w.heap.size w W → Calls Tryd.prog 8 #[.agg (baseV A C ss t0 t1 t2 f).toArray, .string x, .int .i64 size, .int .i64 a, .int .i64 b] W fun e w' => e = .returned (.tuple #[.slice none 0 0, .int .i64 c]) ∧ Below W.heap.size W w')) (conD : Hid (∀ W, Below w.heap.size w W → Calls Tryd.prog 9 #[.agg (baseV A C ss t0 t1 t2 f).toArray, .string x, .int .i64 size, .int .i64 a, .int .i64 b] W fun e w' => e = .returned (.tuple #[.slice none 0 0, .int .i64 c]) ∧ Below W.heap.size W w')) :
    Calls Tryd.prog 4 #[.agg (baseV A C ss t0 t1 t2 f).toArray, .string x, .int .i64 size, .int .i64 a, .int .i64 b] w fun e w' => e = .returned (.bool true) ∧ Below w.heap.size w w' := by
  have b0 : ∀ o : Obj, Below w.heap.size w (w.alloc o) := fun o => (Below.refl _ _).alloc (Nat.le_refl _) o
  have con3 : Hid (∀ W : World, Calls Tryd.prog 10 #[.slice none 0 0, .slice none 0 0] W fun e w' => e = .returned (.bool true) ∧ Below W.heap.size W w') := fun W => sameRows_eq none none 0 0 [] W (.inl rfl) (.inl rfl) (by decide)
  have hcc : (c == c) = true := by simp
  obtain ⟨A0, C0, p0, r0⟩ := t0
  obtain ⟨A1, C1, p1, r1⟩ := t1
  obtain ⟨A2, C2, p2, r2⟩ := t2
  simp only [baseV] at *
  go_enter Tryd.func4, Tryd.ntmps4
  go_wp2_with (first
    | (go_at_call 8; refine (conP.out _ (b0 _)).mono ?_; rintro e w1 ⟨rfl, hb1⟩; have hw1 : Below w.heap.size w w1 := nextB (b0 _) (Nat.le_refl _) hb1; have yy := (bcells hb1).1; have z1 := sz1 hb1)
    | (go_at_call 9; refine (conD.out _ hw1).mono ?_; rintro e w2 ⟨rfl, hb2⟩; have hw2 : Below w.heap.size w w2 := nextB hw1 (Nat.le_refl _) hb2; clear yy)
    | (go_at_call 10; refine (con3.out _).mono ?_; rintro e w3 ⟨rfl, hb3⟩))
  go_ret
  exact ⟨rfl, nextB hw2 (Nat.le_refl _) hb3⟩

set_option maxRecDepth 20000 in
set_option maxHeartbeats 1000000 in
theorem baseRows_m (A : Option Addr) (C : Nat) (ss : List ByteArray) (t0 t1 t2 : TR) (f : Int) (x : ByteArray) (size a b : Int) (M : List En) (w : World) (hM : M.length ≤ 500) (conP : Hid (∀ W, Below w.heap.size w W → Calls Tryd.prog 8 #[.agg (baseV A C ss t0 t1 t2 f).toArray, .string x, .int .i64 size, .int .i64 a, .int .i64 b] W (RowsTo M W))) (conD : Hid (∀ W, Below w.heap.size w W → Calls Tryd.prog 9 #[.agg (baseV A C ss t0 t1 t2 f).toArray, .string x, .int .i64 size, .int .i64 a, .int .i64 b] W (RowsTo M W))) :
    Calls Tryd.prog 4 #[.agg (baseV A C ss t0 t1 t2 f).toArray, .string x, .int .i64 size, .int .i64 a, .int .i64 b] w fun e w' => e = .returned (.bool true) ∧ Below w.heap.size w w' := by
  have b0 : ∀ o : Obj, Below w.heap.size w (w.alloc o) := fun o => (Below.refl _ _).alloc (Nat.le_refl _) o
  have hlm : (M.map rowE).length = M.length := by simp
  have con3 : Hid (∀ (A A' : Option Addr) (C C' : Nat) (W : World), RowAt W.heap.size W A (flatE (M.map rowE)) → RowAt W.heap.size W A' (flatE (M.map rowE)) → Calls Tryd.prog 10 #[.slice A M.length C, .slice A' M.length C'] W fun e w' => e = .returned (.bool true) ∧ Below W.heap.size W w') := fun A A' C C' W h h' => by
    have k := sameRows_eq A A' C C' (M.map rowE) W h h' (by omega)
    rw [hlm] at k
    exact k
  clear hlm
  obtain ⟨A0, C0, p0, r0⟩ := t0
  obtain ⟨A1, C1, p1, r1⟩ := t1
  obtain ⟨A2, C2, p2, r2⟩ := t2
  simp only [baseV] at *
  go_enter Tryd.func4, Tryd.ntmps4
  go_wp2_with (first
    | (go_at_call 8; refine (conP.out _ (b0 _)).mono ?_; rintro e w1 ⟨hb1, v1, rfl, ho1⟩; obtain ⟨RA, RC, rfl, -, -, -, hr1⟩ := own_row ho1; have hw1 : Below w.heap.size w w1 := nextB (b0 _) (Nat.le_refl _) hb1; have yy := (bcells hb1).1; have z1 := sz1 hb1; clear ho1)
    | (go_at_call 9; refine (conD.out _ hw1).mono ?_; rintro e w2 ⟨hb2, v2, rfl, ho2⟩; obtain ⟨SA, SC, rfl, -, -, -, hr2⟩ := own_row ho2; have hw2 : Below w.heap.size w w2 := nextB hw1 (Nat.le_refl _) hb2; have hr12 := hr1.up hb2; clear yy ho2)
    | (go_at_call 10; refine (con3.out _ _ _ _ _ hr12 hr2).mono ?_; rintro e w3 ⟨rfl, hb3⟩))
  go_ret
  exact ⟨rfl, nextB hw2 (Nat.le_refl _) hb3⟩

theorem idx_lt : ∀ (zs : List ByteArray) (x : ByteArray) (i : Nat), Lib.idxFromS zs x i < i + zs.length ∨ Lib.idxFromS zs x i = -1
  | [], _, _ => .inr rfl
  | z :: zs, x, i => by
    by_cases hz : z = x
    · left
      simp only [Lib.idxFromS, hz, if_true, List.length_cons]
      omega
    · simp only [Lib.idxFromS, hz, if_false, List.length_cons]
      rcases idx_lt zs x (i + 1) with h | h
      · left; omega
      · exact .inr h

theorem baseRows_walk (A : Option Addr) (C : Nat) (ss : List ByteArray) (t0 t1 t2 : TR) (f : Int) (x : ByteArray) (size a b : Int) (w : World) (hZ : SzAt w) (hC : ss.length ≤ C) (hS : StrsAt w.heap.size w A ss) (h0 : t0.ok w) (h1 : t1.ok w) (h2 : t2.ok w) (_ : (Lit.int .i64 f).wf = true) (_ : x.size ≤ maxLen) (_ : (Lit.int .i64 size).wf = true) (_ : (Lit.int .i64 a).wf = true) (_ : (Lit.int .i64 b).wf = true) :
    Calls Tryd.prog 4 #[.agg (baseV A C ss t0 t1 t2 f).toArray, .string x, .int .i64 size, .int .i64 a, .int .i64 b] w fun e w' => e = .returned (.bool true) ∧ Below w.heap.size w w' := by
  have okup : ∀ (t : TR) (w' : World), Below w.heap.size w w' → t.ok w → t.ok w' := fun t w' hb ht => ⟨ht.1.up hb, ht.2.1, ht.2.2⟩
  have serc := fun (bb : Bool) (hbb : Hid (baseB ss f (t0.ps.map PN.nd) t0.r (t1.ps.map PN.nd) t1.r (t2.ps.map PN.nd) t2.r = bb)) W (hW : Below w.heap.size w W) => series_any A C ss t0 t1 t2 f x W (hZ.below hW) hC (hS.up hW) (okup t0 W hW h0) (okup t1 W hW h1) (okup t2 W hW h2) bb hbb
  have fauc := fun (bb : Bool) (hbb : Hid (baseB ss f (t0.ps.map PN.nd) t0.r (t1.ps.map PN.nd) t1.r (t2.ps.map PN.nd) t2.r = bb)) W (hW : Below w.heap.size w W) => seriesFault_any A C ss t0 t1 t2 f x W (hS.up hW) (okup t0 W hW h0) (okup t1 W hW h1) (okup t2 W hW h2) bb hbb
  cases hB : baseB ss f (t0.ps.map PN.nd) t0.r (t1.ps.map PN.nd) t1.r (t2.ps.map PN.nd) t2.r with
  | false =>
    refine baseRows_c A C ss t0 t1 t2 f x size a b 7 w (fun W hW => rows_c A C ss t0 t1 t2 f x size a b 7 W 0 rfl (fun V hV => ?_)) (fun W hW => rowsOf_c A C ss t0 t1 t2 f x size a b 7 W rfl rfl (fun V hV => ?_))
    · have k := serc false hB V (nextB hW (Nat.le_refl _) hV)
      simp only [Bool.false_eq_true, if_false] at k
      exact k
    · have k := fauc false hB V (nextB hW (Nat.le_refl _) hV)
      simp only [Bool.false_eq_true, if_false] at k
      exact k
  | true =>
    obtain ⟨p, hx⟩ : ∃ p, Lib.idxOfS ss x = p := ⟨_, rfl⟩
    obtain ⟨L0, L1, L2, hL⟩ := baseL hB
    by_cases hp : p < 0
    · refine baseRows_c A C ss t0 t1 t2 f x size a b 6 w (fun W hW => rows_c A C ss t0 t1 t2 f x size a b 6 W 0 rfl (fun V hV => ?_)) (fun W hW => rowsOf_c A C ss t0 t1 t2 f x size a b 6 W rfl rfl (fun V hV => ?_))
      · have k := serc true hB V (nextB hW (Nat.le_refl _) hV)
        rw [hx] at k
        simp only [if_true, hp] at k
        exact k
      · have k := fauc true hB V (nextB hW (Nat.le_refl _) hV)
        rw [hx] at k
        simp only [if_true, hp] at k
        exact k
    · have sero : ∀ W, Below w.heap.size w W → Hid (∀ V, Below W.heap.size W V → Calls Tryd.prog 24 #[.agg (baseV A C ss t0 t1 t2 f).toArray, .string x] V fun e w' => e = .returned (.tuple #[.int .i64 p, .int .i64 0]) ∧ Below V.heap.size V w') := fun W hW V hV => by
        have k := serc true hB V (nextB hW (Nat.le_refl _) hV)
        rw [hx] at k
        simp only [if_true, hp, if_false] at k
        exact k
      have fauo : ∀ W, Below w.heap.size w W → Hid (∀ V, Below W.heap.size W V → Calls Tryd.prog 29 #[.agg (baseV A C ss t0 t1 t2 f).toArray, .string x] V fun e w' => e = .returned (.int .i64 0) ∧ Below V.heap.size V w') := fun W hW V hV => by
        have k := fauc true hB V (nextB hW (Nat.le_refl _) hV)
        rw [hx] at k
        simp only [if_true, hp, if_false] at k
        exact k
      have hp2 : p < 16 := by
        have k := idx_lt ss x 0
        have e : Lib.idxFromS ss x 0 = p := hx
        rw [e] at k
        have := hL.few
        omega
      by_cases hs : size = 1 ∨ size = 60 ∨ size = 3600
      · cases hsp : spanB a b with
        | false =>
          rcases hs with rfl | rfl | rfl
          · exact baseRows_c A C ss t0 t1 t2 f x 1 a b 2 w (fun W hW => rows_span0 A C ss t0 t1 t2 f x a b W p (hZ.below hW) hsp (sero W hW)) (fun W hW => rowsOf_span0 A C ss t0 t1 t2 f x a b W hsp (fauo W hW))
          · exact baseRows_c A C ss t0 t1 t2 f x 60 a b 2 w (fun W hW => rows_span1 A C ss t0 t1 t2 f x a b W p (hZ.below hW) hsp (sero W hW)) (fun W hW => rowsOf_span1 A C ss t0 t1 t2 f x a b W hsp (fauo W hW))
          · exact baseRows_c A C ss t0 t1 t2 f x 3600 a b 2 w (fun W hW => rows_span2 A C ss t0 t1 t2 f x a b W p (hZ.below hW) hsp (sero W hW)) (fun W hW => rowsOf_span2 A C ss t0 t1 t2 f x a b W hsp (fauo W hW))
        | true =>
          obtain ⟨ha, hab, hb⟩ := spanB_iff.1 hsp
          have fc0 := allP_facts (ns := t0.ps.map PN.nd) (r := t0.r) (low := 0) (high := 1099511627776)
          have ln0 := allP_len (t0.ps.map PN.nd) t0.r 0 1099511627776
          rw [hL.a0] at fc0 ln0
          rcases hs with rfl | rfl | rfl
          · have fc := allP_facts (ns := t0.ps.map PN.nd) (r := t0.r) (low := 0) (high := 1099511627776)
            have ln := allP_len (t0.ps.map PN.nd) t0.r 0 1099511627776
            rw [hL.a0] at fc ln
            have hkM : ∀ y ∈ L0.filter (selB p a b), 0 ≤ y.key ∧ y.key < 1099511627776 := fun y hy => fc.2.2 y (List.mem_filter.1 hy).1
            have docc := fun W (hW : Below w.heap.size w W) => rowsOf_ok A C ss t0 t1 t2 f x 1 a b p L0 L0 W (hS.up hW) (okup t0 W hW h0) (okup t1 W hW h1) (okup t2 W hW h2) hB hx (by omega) (by decide) hsp hL.book hL.p0 ln fc.2.2 ln0 fc0.2.1 fc0.2.2
            by_cases hl : (L0.filter (selB p a b)).length ≤ 500
            · exact baseRows_m A C ss t0 t1 t2 f x 1 a b _ w hl (fun W hW => rows_ok0 A C ss t0 t1 t2 f x a b p _ W (hZ.below hW) hC (hS.up hW) (okup t0 W hW h0) (okup t1 W hW h1) (okup t2 W hW h2) hB hx (by omega) hp2 ha hab hb L0 hL.a0 rfl hkM hl) (fun W hW => (docc W hW).mono fun e w' h => h.1 hl)
            · exact baseRows_c A C ss t0 t1 t2 f x 1 a b 1 w (fun W hW => rows_big0 A C ss t0 t1 t2 f x a b p _ W (hZ.below hW) hC (hS.up hW) (okup t0 W hW h0) (okup t1 W hW h1) (okup t2 W hW h2) hB hx (by omega) hp2 ha hab hb L0 hL.a0 rfl (by omega)) (fun W hW => (docc W hW).mono fun e w' h => h.2 (by omega))
          · have fc := allP_facts (ns := t1.ps.map PN.nd) (r := t1.r) (low := 0) (high := 1099511627776)
            have ln := allP_len (t1.ps.map PN.nd) t1.r 0 1099511627776
            rw [hL.a1] at fc ln
            have hkM : ∀ y ∈ L1.filter (selB p a b), 0 ≤ y.key ∧ y.key < 1099511627776 := fun y hy => fc.2.2 y (List.mem_filter.1 hy).1
            have docc := fun W (hW : Below w.heap.size w W) => rowsOf_ok A C ss t0 t1 t2 f x 60 a b p L0 L1 W (hS.up hW) (okup t0 W hW h0) (okup t1 W hW h1) (okup t2 W hW h2) hB hx (by omega) (by decide) hsp hL.book hL.p1 ln fc.2.2 ln0 fc0.2.1 fc0.2.2
            by_cases hl : (L1.filter (selB p a b)).length ≤ 500
            · exact baseRows_m A C ss t0 t1 t2 f x 60 a b _ w hl (fun W hW => rows_ok1 A C ss t0 t1 t2 f x a b p _ W (hZ.below hW) hC (hS.up hW) (okup t0 W hW h0) (okup t1 W hW h1) (okup t2 W hW h2) hB hx (by omega) hp2 ha hab hb L1 hL.a1 rfl hkM hl) (fun W hW => (docc W hW).mono fun e w' h => h.1 hl)
            · exact baseRows_c A C ss t0 t1 t2 f x 60 a b 1 w (fun W hW => rows_big1 A C ss t0 t1 t2 f x a b p _ W (hZ.below hW) hC (hS.up hW) (okup t0 W hW h0) (okup t1 W hW h1) (okup t2 W hW h2) hB hx (by omega) hp2 ha hab hb L1 hL.a1 rfl (by omega)) (fun W hW => (docc W hW).mono fun e w' h => h.2 (by omega))
          · have fc := allP_facts (ns := t2.ps.map PN.nd) (r := t2.r) (low := 0) (high := 1099511627776)
            have ln := allP_len (t2.ps.map PN.nd) t2.r 0 1099511627776
            rw [hL.a2] at fc ln
            have hkM : ∀ y ∈ L2.filter (selB p a b), 0 ≤ y.key ∧ y.key < 1099511627776 := fun y hy => fc.2.2 y (List.mem_filter.1 hy).1
            have docc := fun W (hW : Below w.heap.size w W) => rowsOf_ok A C ss t0 t1 t2 f x 3600 a b p L0 L2 W (hS.up hW) (okup t0 W hW h0) (okup t1 W hW h1) (okup t2 W hW h2) hB hx (by omega) (by decide) hsp hL.book hL.p2 ln fc.2.2 ln0 fc0.2.1 fc0.2.2
            by_cases hl : (L2.filter (selB p a b)).length ≤ 500
            · exact baseRows_m A C ss t0 t1 t2 f x 3600 a b _ w hl (fun W hW => rows_ok2 A C ss t0 t1 t2 f x a b p _ W (hZ.below hW) hC (hS.up hW) (okup t0 W hW h0) (okup t1 W hW h1) (okup t2 W hW h2) hB hx (by omega) hp2 ha hab hb L2 hL.a2 rfl hkM hl) (fun W hW => (docc W hW).mono fun e w' h => h.1 hl)
            · exact baseRows_c A C ss t0 t1 t2 f x 3600 a b 1 w (fun W hW => rows_big2 A C ss t0 t1 t2 f x a b p _ W (hZ.below hW) hC (hS.up hW) (okup t0 W hW h0) (okup t1 W hW h1) (okup t2 W hW h2) hB hx (by omega) hp2 ha hab hb L2 hL.a2 rfl (by omega)) (fun W hW => (docc W hW).mono fun e w' h => h.2 (by omega))
      · exact baseRows_c A C ss t0 t1 t2 f x size a b 3 w (fun W hW => rows_kind A C ss t0 t1 t2 f x size a b W p (hZ.below hW) hs (sero W hW)) (fun W hW => rowsOf_kind A C ss t0 t1 t2 f x size a b W hs (fauo W hW))

set_option maxRecDepth 100000 in
theorem baseRows_lifted (os : Os) (started : os.Started) (H : Type) (enc : TypeId × Value → H) :
    ReturnsInHanded {} Tryd.checked os 4 .any (fun w args => (Rows.baseRowsSpec.pre enc Tryd.prog Tryd.f4 [] false w args ∧ laidMetH Tryd.prog laidSz w) ∧ sizedMet enc Tryd.prog Tryd.f4 (OpenSpec.ofChange Rows.baseRowsSpec) false w args)
      (Rows.baseRowsSpec.post enc Tryd.prog Tryd.f4 false true false false) := by
  refine returnsInHanded_of_change_and (C := Tryd.checked) (X := fun w _ => laidMetH Tryd.prog laidSz w) (fun _ _ _ hh h => h.of_heap hh) own started (by kernel_rfl) Tryd.func4
    (ChangeSpec.witness_at (enc := enc) (C := Tryd.checked) (os := os) (X := fun w _ => laidMetH Tryd.prog laidSz w) false (World.laidAll Tryd.prog os laidSz) #[.agg #[.slice none 0 0, .slice none 0 0, .int .i64 0, .slice none 0 0, .int .i64 0, .slice none 0 0, .int .i64 0, .int .i64 0], .string ByteArray.empty, .int .i64 0, .int .i64 0, .int .i64 0] 8 (World.laidAll_os _ _ _) (by kernel_rfl) (by kernel_rfl) (by kernel_rfl) (by kernel_rfl) (by kernel_rfl)
      (by rw [MakeChecks.laidMetH_plain _ _ _ (by kernel_rfl)]; exact laidMet_laidAll _ (by kernel_rfl) (by kernel_rfl))) ?_
  intro W base args ds gs before hval0 hW _ hsz0 hL _
  have hval : ∀ (j : Nat) t v, Tryd.f4.params[j]? = some t → args[j]? = some v → Value.okWide Tryd.prog W .any base t v := hval0
  have hW' := hW
  obtain ⟨p, q, hA0, hV, rfl, hfz, hnd⟩ := hW
  have hA : DataW.TrodAll enc Tryd.prog W 0 (fun _ => true) true Tryd.f4.params.toList args.toList ds p := hA0
  have hsz : (DataW.weightsEach Tryd.prog (Tryd.f4.params.toList ++ Rows.baseRowsSpec.plain.varTypes Tryd.prog) (ds ++ gs)).all (· ≤ reachBytes) = true := hsz0
  rw [Tryd.params4] at hA hval hsz
  obtain ⟨v0, vs0, d0, ds0, p0, q0, hargs, rfl, rfl, h0, r0⟩ := trodAll_cons hA
  obtain ⟨v1, vs1, d1, ds1, p1, q1, rfl, rfl, rfl, h1, r1⟩ := trodAll_cons r0
  obtain ⟨v2, vs2, d2, ds2, p2, q2, rfl, rfl, rfl, h2, r2⟩ := trodAll_cons r1
  obtain ⟨v3, vs3, d3, ds3, p3, q3, rfl, rfl, rfl, h3, r3⟩ := trodAll_cons r2
  obtain ⟨v4, vs4, d4, ds4, p4, q4, rfl, rfl, rfl, h4, r4⟩ := trodAll_cons r3
  obtain ⟨rfl, rfl, rfl⟩ := trodAll_nil r4
  obtain rfl : args = #[v0, v1, v2, v3, v4] := by cases args; simp_all
  obtain ⟨rfl, rfl⟩ := trodVars_none hV
  have k0 := h0
  have lt0 : ∀ x ∈ p0, x.block < W.heap.size := by obtain ⟨m, hm⟩ := k0; exact DataW.trod_lt m _ _ _ hm
  obtain ⟨A0, C0, ss0, ta0, tb0, tc0, f0, rfl, -, hC0, hS0, ha0, hb0, hc0, w0⟩ := open_base rfl (hval 0 28 v0 rfl rfl) h0 (fun n hn => by
    have := List.all_eq_true.1 hsz n (DataW.weights_mem_each (j := 0) (t := 28) rfl rfl n hn)
    exact of_decide_eq_true this)
  have k1 := h1
  have lt1 : ∀ x ∈ p1, x.block < W.heap.size := by obtain ⟨m, hm⟩ := k1; exact DataW.trod_lt m _ _ _ hm
  obtain ⟨a1, rfl, -, -, w1⟩ := open_string Tryd.underlying9 (hval 1 9 v1 rfl rfl) h1
  have k2 := h2
  have lt2 : ∀ x ∈ p2, x.block < W.heap.size := by obtain ⟨m, hm⟩ := k2; exact DataW.trod_lt m _ _ _ hm
  obtain ⟨a2, rfl, w2⟩ : ∃ n : Int, v2 = .int .i64 n ∧ (Lit.int .i64 n).wf = true := by
    obtain ⟨n, h, _, _, w⟩ := open_int Tryd.underlying3 (hval 2 3 v2 rfl rfl) h2; exact ⟨n, h, w⟩
  have k3 := h3
  have lt3 : ∀ x ∈ p3, x.block < W.heap.size := by obtain ⟨m, hm⟩ := k3; exact DataW.trod_lt m _ _ _ hm
  obtain ⟨a3, rfl, w3⟩ : ∃ n : Int, v3 = .int .i64 n ∧ (Lit.int .i64 n).wf = true := by
    obtain ⟨n, h, _, _, w⟩ := open_int Tryd.underlying3 (hval 3 3 v3 rfl rfl) h3; exact ⟨n, h, w⟩
  have k4 := h4
  have lt4 : ∀ x ∈ p4, x.block < W.heap.size := by obtain ⟨m, hm⟩ := k4; exact DataW.trod_lt m _ _ _ hm
  obtain ⟨a4, rfl, w4⟩ : ∃ n : Int, v4 = .int .i64 n ∧ (Lit.int .i64 n).wf = true := by
    obtain ⟨n, h, _, _, w⟩ := open_int Tryd.underlying3 (hval 4 3 v4 rfl rfl) h4; exact ⟨n, h, w⟩
  clear hA0 hval0 hsz0
  refine (baseRows_walk A0 C0 ss0 ta0 tb0 tc0 f0 a1 a2 a3 a4 W (szAt_of hL) hC0 hS0 ha0 hb0 hc0 w0 w1 w2 w3 w4).mono fun e W' ⟨he, bel⟩ => ?_
  subst he
  exact ⟨_, rfl, _, _, _, [], _, [], hW', trodAll_mk1 (shut_bool Tryd.underlying4 _), (trodAll_cons_mk (Below.trod laidOut (by kernel_rfl) (of_decide_eq_true (by kernel_rfl)) k0 bel lt0) (trodAll_cons_mk (Below.trod laidOut (by kernel_rfl) (of_decide_eq_true (by kernel_rfl)) k1 bel lt1) (trodAll_cons_mk (Below.trod laidOut (by kernel_rfl) (of_decide_eq_true (by kernel_rfl)) k2 bel lt2) (trodAll_cons_mk (Below.trod laidOut (by kernel_rfl) (of_decide_eq_true (by kernel_rfl)) k3 bel lt3) (trodAll_cons_mk (Below.trod laidOut (by kernel_rfl) (of_decide_eq_true (by kernel_rfl)) k4 bel lt4) trodAll_mk0))))), rfl, bel.frame _, fun h => by cases h⟩

theorem baseRows_holds : Rows.BaseRowsSaid :=
  OpenClaim.holds_of_wide 4 Tryd.f4 rfl rfl rfl rfl rfl rfl rfl ⟨rfl, rfl, rfl, rfl, rfl⟩ rfl rfl rfl rfl rfl (by kernel_rfl) Tryd.func4 (by kernel_rfl)
    (of_decide_eq_true (by kernel_rfl)) (by unfold Func.isWrapper; first | (rw [if_pos (by decide +kernel)]; kernel_rfl) | (rw [if_neg (by decide +kernel)]; exact ⟨rfl, rfl⟩))
    (fun os started H enc _ => baseRows_lifted os started H enc)

theorem baseRowsCard_holds : Rows.BaseRowsCardSaid :=
  Claim7.holds_tied_plain_at .later [] [.data] true (true, "778ac4088cc39b418fb54c163749a4a331474be8f10bd7bda9abbcb1f01f6800") false baseRows_holds (fun _ h => by cases h) (by kernel_rfl) (fun _ h => by cases h) baseRows_row_tie rfl ⟨rfl, rfl⟩ (by kernel_rfl) rfl
    (fun f fn hf hfn => by
      obtain rfl : f = 4 := Option.some.inj ((show Tryd.prog.funcNamed "winnower/winnowerlaw.BaseRows" = some 4 by kernel_rfl).symm.trans hf) |>.symm
      obtain rfl : fn = Tryd.f4 := (Option.some.inj (Tryd.func4.symm.trans hfn)).symm
      exact ⟨by kernel_rfl, fun j t ht => by
        rw [Tryd.params4] at ht
        have hm : t ∈ [28, 9, 3, 3, 3] := by simpa using Array.mem_of_getElem? ht
        have hall : ([28, 9, 3, 3, 3].all fun u => !Tryd.prog.wantsStandIn u) = true := by kernel_rfl
        exact (show Tryd.prog.wantsStandIn t = false by simpa using List.all_eq_true.1 hall t hm)⟩)
    (by kernel_rfl)
#print axioms baseRowsCard_holds
end Go.Proofs.YtlojfgdpmaigmadDoor

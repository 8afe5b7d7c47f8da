/- The document's answer to Check of package tree. -/
import Derived.Test.YtlojfgdpmaigmafDoorP12
namespace Go.Proofs.YtlojfgdpmaigmafDoor
open Go.RowKit Plain

theorem infoI : (Tryd.prog.info? 3).map (fun i => (i.zero, i.size, i.bytes)) = some (some (.int .i64 0), 1, 8) := by kernel_rfl

theorem seen_start (w : World) (N : Nat) : SeenIs (w.alloc (.cells (madeCells #[.int .i64 0] N) 3)) w.heap.size N [] :=
  (World.rowIs_made w (.int .i64 0) N 3).congr fun i _ => by simp [seenB]

theorem seen_start2 (w : World) (o : Obj) (N : Nat) : SeenIs ((w.alloc o).alloc (.cells (madeCells #[.int .i64 0] N) 3)) (w.heap.size + 1) N [] := by
  have := seen_start (w.alloc o) N
  rwa [show (w.alloc o).heap.size = w.heap.size + 1 by simp] at this

/-- What the loop behind 'height' tells: were all nodes come to? -/
theorem treeC_some {ns : List Nd} {root : Int} {S : St} {l : List Int} (hn : ¬ 2000 < ns.length) (hW : W ns 12 root 0 1099511627776 [] = some (S, l)) (h0 : resH (some (S, l)) ≠ 0) : treeC ns root = if S.length = ns.length then 0 else 7 := by
  unfold treeC
  rw [if_neg hn, hW]
  have hok : okL 0 l = true := by
    obtain ⟨hl, he⟩ := resH_some rfl h0
    unfold okL
    rw [List.all_eq_true]
    intro x hx
    cases l with
    | nil => exact absurd rfl hl
    | cons d r =>
      have e1 := he x hx
      have e2 := he d List.mem_cons_self
      simp
      omega
  simp [hok]

theorem treeC_none {ns : List Nd} {root : Int} (hn : ¬ 2000 < ns.length) (h0 : resH (W ns 12 root 0 1099511627776 []) = 0) : treeC ns root = 7 := by
  unfold treeC
  rw [if_neg hn]
  cases hW : W ns 12 root 0 1099511627776 [] with
  | none => rfl
  | some p =>
    obtain ⟨S, l⟩ := p
    rw [hW] at h0
    have hd := W_ds 12 (Nat.le_refl _) _ _ _ _ _ _ hW
    obtain ⟨x, hx, y, hy, hxy⟩ := resH_zero h0 hd.1 hd.2
    have hno : ¬ okL 0 l = true := by
      intro hok
      unfold okL at hok
      rw [List.all_eq_true] at hok
      have a := hok x hx
      have b := hok y hy
      simp at a b
      omega
    simp [hno]

set_option maxRecDepth 20000 in
set_option maxHeartbeats 4000000 in
theorem treeFault_any (A : Option Addr) (C : Nat) (r : Int) (ps : List PN) (w : World) (hN : NodesAt w.heap.size w A ps) :
    Calls Tryd.prog 45 #[.agg #[.slice A ps.length C, .int .i64 r]] w fun e w' => e = .returned (.int .i64 (treeC (ps.map PN.nd) r)) ∧ Below w.heap.size w w' := by
  have hz := hN.z
  by_cases hbig : 2000 < ps.length
  · have E0 : Hid (treeC (ps.map PN.nd) r = 1) := by show _ = _; simp [treeC, hbig]
    have hbig' : (2000 : Int) < (ps.length : Int) := by omega
    go_enter Tryd.func45, Tryd.ntmps45
    go_wp2_with fail
    go_ret
    exact ⟨ret_int E0.out.symm, (Below.refl _ _).alloc (Nat.le_refl _) _⟩
  · have hn : ¬ 2000 < (ps.map PN.nd).length := by simpa using hbig
    have hmk := run_make_row' (P := Tryd.prog) 72 3 (.int .i64 0) 8 Tryd.underlying72 infoI rfl .i64 .i64 ps.length (by omega) (by omega)
    obtain ⟨hh, Hh'⟩ : ∃ hh, hh = resH (W (ps.map PN.nd) 12 r 0 1099511627776 []) := ⟨_, rfl⟩
    have HB : Hid ((hh = 0 → treeC (ps.map PN.nd) r = 7) ∧ (hh ≠ 0 → ∃ S l, W (ps.map PN.nd) 12 r 0 1099511627776 [] = some (S, l) ∧ treeC (ps.map PN.nd) r = (if S.length = ps.length then 0 else 7) ∧ (S.length = ps.length ↔ ∀ i : Nat, i < ps.length → seenB S i = true))) := by
      refine ⟨fun h0 => treeC_none hn (by rw [← Hh']; exact h0), fun h0 => ?_⟩
      cases hW : W (ps.map PN.nd) 12 r 0 1099511627776 [] with
      | none => rw [hW] at Hh'; exact absurd Hh' h0
      | some p =>
        obtain ⟨S, l⟩ := p
        rw [hW] at Hh'
        have e := treeC_some hn hW (by rw [← Hh']; exact h0)
        have hst := W_st 12 _ _ _ _ _ _ hW ⟨by simp, by simp⟩
        simp only [List.length_map] at e hst
        exact ⟨S, l, rfl, e, all_seen hst.1⟩
    have con : ∀ w' , NodesAt w.heap.size w' A ps → SeenIs w' (w.heap.size + 1) ps.length [] → Calls Tryd.prog 62 #[.agg #[.slice A ps.length C, .int .i64 r], .int .i64 r, .int .i64 0, .int .i64 1099511627776, .int .i64 1, .slice (some ⟨w.heap.size + 1, 0, none⟩) ps.length ps.length] w'
        fun e w'' => e = .returned (.int .i64 hh) ∧ Kept [w.heap.size + 1] w' w'' ∧ ∀ S' l, W (ps.map PN.nd) 12 r 0 1099511627776 [] = some (S', l) → hh ≠ 0 → SeenIs w'' (w.heap.size + 1) ps.length S' := by
      intro w' a1 a2
      rw [Hh']
      exact height_any A C r ps (w.heap.size + 1) 12 (Nat.le_refl _) r 0 1099511627776 1 [] w.heap.size w' (by decide) a1 (by omega) a2 (by decide) (by decide) (fun _ => rfl) (fun h => absurd h (by decide)) ⟨by simp, by simp⟩
    clear Hh'
    go_enter Tryd.func45, Tryd.ntmps45
    go_wp2_with (go_at_call 62; refine (con _ ?_ ?_).mono ?_; exact hN.below (((Below.refl _ _).alloc (Nat.le_refl _) _).alloc (by simp) _) (Nat.le_refl _); exact seen_start2 _ _ _; rintro e w1 ⟨rfl, hk1, hs1⟩)
    · have q : (hh == 0) = true := by assumption
      go_ret
      exact ⟨ret_int (HB.out.1 (by simpa using q)).symm, (((Below.refl _ _).alloc (Nat.le_refl _) _).alloc (by simp) _).trans (hk1.below (by simp; omega) (by simp))⟩
    · have q : (hh == 0) = false := by assumption
      have q' : hh ≠ 0 := by simpa using q
      have hbel : Below w.heap.size w w1 := (((Below.refl _ _).alloc (Nat.le_refl _) _).alloc (by simp) _).trans (hk1.below (by simp; omega) (by simp))
      obtain ⟨S, l, hW, hT, hA⟩ := HB.out.2 q'
      have hSn := hs1 S l hW q'
      have HT : Hid ((treeC (ps.map PN.nd) r = if S.length = ps.length then 0 else 7) ∧ (S.length = ps.length ↔ ∀ i : Nat, i < ps.length → seenB S i = true)) := ⟨hT, hA⟩
      clear hW hT hA hs1 hk1 HB con
      go_loopw [4] (fun vi wr => ∃ k : Nat, k ≤ ps.length ∧ vi = .int .i64 k ∧ wr = w1 ∧ ∀ j : Nat, j < k → seenB S j = true) (fun vi _ => ps.length - (intOf vi).toNat)
      case atStart => exact ⟨0, Nat.zero_le _, rfl, rfl, fun j hj => absurd hj (Nat.not_lt_zero _)⟩
      case round =>
        obtain ⟨k, hk, rfl, hwr, hall⟩ := hrel
        subst wr
        by_cases hlt : k < ps.length
        · have hc := hSn.cell hlt
          by_cases hs : seenB S (k : Int) = true
          · simp only [hs, if_true] at hc
            have HA : Hid (∀ j : Nat, j < k + 1 → seenB S j = true) := fun j hj => by
              by_cases e : j = k
              · subst e; exact hs
              · exact hall j (by omega)
            clear hall
            go_wp2
            go_roundw
            case rel => exact ⟨k + 1, by omega, by go_num, (by first | rfl | trivial), HA.out⟩
            case measure => simp [intOf]; omega
          · simp only [hs, Bool.false_eq_true, if_false] at hc
            clear hall
            go_wp2
            go_ret
            refine ⟨ret_int ?_, hbel⟩
            rw [HT.out.1, if_neg]
            intro e
            exact hs (HT.out.2.1 e k hlt)
        · obtain rfl : k = ps.length := by omega
          have HA : Hid (∀ j : Nat, j < ps.length → seenB S j = true) := hall
          clear hall
          go_wp2
          go_ret
          refine ⟨ret_int ?_, hbel⟩
          rw [HT.out.1, if_pos (HT.out.2.2 HA.out)]

end Go.Proofs.YtlojfgdpmaigmafDoor

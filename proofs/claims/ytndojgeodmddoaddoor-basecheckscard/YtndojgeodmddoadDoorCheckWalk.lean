/- Check of package tree. -/
import Derived.Test.YtndojgeodmddoadDoorSurNode
namespace Go.Proofs.YtndojgeodmddoadDoor
open Go.RowKit Plain Go.Maps

theorem three_rows (w : World) (l1 l3 : List Value) (t1 t3 : TypeId) :
    (((w.alloc (.cells l1.toArray t1)).alloc (.map #[] 0)).alloc (.cells l3.toArray t3)).heap[w.heap.size + 1]? = some (.map #[] 0) ∧ RowL (((w.alloc (.cells l1.toArray t1)).alloc (.map #[] 0)).alloc (.cells l3.toArray t3)) (w.heap.size + 2) t3 l3 := by
  have s1 : (w.alloc (.cells l1.toArray t1)).heap.size = w.heap.size + 1 := by simp
  have s2 : ((w.alloc (.cells l1.toArray t1)).alloc (.map #[] 0)).heap.size = w.heap.size + 2 := by simp
  refine ⟨?_, ?_⟩
  · rw [Below.heap_alloc _ _ _ (by omega), ← s1]; exact heap_alloc_new _ _
  · have := rowL_alloc ((w.alloc (.cells l1.toArray t1)).alloc (.map #[] 0)) l3 t3
    rwa [s2] at this

theorem sur_start (w : World) (A : Option Addr) (N C : Nat) (r : Int) :
    Sur (((w.alloc (.cells #[.slice A N C, .int .i64 r] 25)).alloc (.map #[] 0)).alloc (.cells #[.slice A N C, .map (some (w.heap.size + 1)), .int .i64 0] 91)) (w.heap.size + 2) (w.heap.size + 1) A N C [] 0 := by
  obtain ⟨h1, h2⟩ := three_rows w [.slice A N C, .int .i64 r] [.slice A N C, .map (some (w.heap.size + 1)), .int .i64 0] 25 91
  refine ⟨h2, ?_, by omega⟩
  have hm : (w.alloc (.map #[] 0)).ownsMap Tryd.prog 3 (plainElem (H := Unit) Tryd.prog 3) w.heap.size 0 (.map []) := World.ownsMap_made _ _ _ _
  refine ⟨.map [], ?_, fun n => by simp [Maps.has, seenB], by simp, rfl⟩
  unfold World.ownsMap at hm ⊢
  rw [h1]
  have e : (w.alloc (.map #[] 0)).heap[w.heap.size]? = some (.map #[] 0) := heap_alloc_new _ _
  rw [e] at hm
  exact hm

set_option maxRecDepth 20000 in
set_option maxHeartbeats 4000000 in
theorem checkT_any (A : Option Addr) (C : Nat) (r : Int) (ps : List PN) (w : World) (hN : NodesAt w.heap.size w A ps) (hwf : ∀ p ∈ ps, p.wf) :
    Calls Tryd.prog 52 #[.agg #[.slice A ps.length C, .int .i64 r]] w fun e w' => e = .returned (.int .i64 (treeC (ps.map PN.nd) r)) ∧ Below w.heap.size w w' := by
  have hz := hN.z
  by_cases hbig : 2000 < ps.length
  · have E0 : Hid (treeC (ps.map PN.nd) r = 1) := by show _ = _; simp [treeC, hbig]
    have hbig' : (2000 : Int) < (ps.length : Int) := by omega
    go_enter Tryd.func52, Tryd.ntmps52
    go_wp2_with fail
    go_ret
    exact ⟨ret_int E0.out.symm, (Below.refl _ _).alloc (Nat.le_refl _) _⟩
  · have hn : ¬ 2000 < (ps.map PN.nd).length := by simpa using hbig
    have hmm := @run_makeMap Tryd.prog
    obtain ⟨bb, hbb⟩ : ∃ bb, bb = resN 0 (W (ps.map PN.nd) 12 r 0 1099511627776 []) := ⟨_, rfl⟩
    have con : ∀ w', NodesAt w.heap.size w' A ps → Sur w' (w.heap.size + 2) (w.heap.size + 1) A ps.length C [] 0 → Calls Tryd.prog 61 #[.pointer (some ⟨w.heap.size + 2, 0, none⟩), .int .i64 r, .int .i64 1, .int .i64 0, .int .i64 1099511627776] w'
        fun e w'' => e = .returned (.bool bb) ∧ Kept [w.heap.size + 2, w.heap.size + 1] w' w'' ∧ ∀ S' l, W (ps.map PN.nd) 12 r 0 1099511627776 [] = some (S', l) → okL 0 l = true → Sur w'' (w.heap.size + 2) (w.heap.size + 1) A ps.length C S' (nextL 0 l) := by
      intro w' a1 a2
      rw [hbb]
      exact node_any A C ps (w.heap.size + 2) (w.heap.size + 1) w.heap.size hwf (by omega) (by omega) (by omega) 12 (Nat.le_refl _) r 0 1099511627776 1 0 [] w' (by decide) a1 a2 ⟨by simp, by simp⟩ (by decide) (by decide)
    have hb3 : ∀ o1 o2 o3 : Obj, Below w.heap.size w (((w.alloc o1).alloc o2).alloc o3) := fun o1 o2 o3 => (((Below.refl _ _).alloc (Nat.le_refl _) _).alloc (by simp) _).alloc (by simp; omega) _
    cases hb : bb with
    | false =>
      subst hb
      have E0 : Hid (treeC (ps.map PN.nd) r = 7) := by
        show _ = _
        unfold treeC
        rw [if_neg hn]
        cases hW : W (ps.map PN.nd) 12 r 0 1099511627776 [] with
        | none => rfl
        | some p =>
          obtain ⟨S, l⟩ := p
          rw [hW] at hbb
          simp only [resN] at hbb
          simp [← hbb]
      clear hbb
      go_enter Tryd.func52, Tryd.ntmps52
      go_wp2_with (first | (go_at_call 61; refine (con _ ?_ ?_).mono ?_; exact hN.below (hb3 _ _ _) (Nat.le_refl _); exact sur_start _ _ _ _ _; rintro e w1 ⟨rfl, hk1, hs1⟩))
      go_ret
      exact ⟨ret_int E0.out.symm, (hb3 _ _ _).trans (hk1.below (by simp; omega) (by simp))⟩
    | true =>
      subst hb
      obtain ⟨S, l, hW, hok⟩ : ∃ S l, W (ps.map PN.nd) 12 r 0 1099511627776 [] = some (S, l) ∧ okL 0 l = true := by
        cases hW : W (ps.map PN.nd) 12 r 0 1099511627776 [] with
        | none => rw [hW] at hbb; simp [resN] at hbb
        | some p =>
          obtain ⟨S, l⟩ := p
          rw [hW] at hbb
          exact ⟨S, l, rfl, hbb.symm⟩
      have E0 : Hid (treeC (ps.map PN.nd) r = if S.length = ps.length then 0 else 7) := by
        show _ = _
        unfold treeC
        rw [if_neg hn, hW]
        simp [hok]
      have HW : Hid (W (ps.map PN.nd) 12 r 0 1099511627776 [] = some (S, l)) := hW
      clear hbb hW
      go_enter Tryd.func52, Tryd.ntmps52
      go_wp2_with (first | (go_at_call 61; refine (con _ ?_ ?_).mono ?_; exact hN.below (hb3 _ _ _) (Nat.le_refl _); exact sur_start _ _ _ _ _; rintro e w1 ⟨rfl, hk1, hs1⟩; have hsu := hs1 S l HW.out hok; obtain ⟨D, hown, _, _, hsize⟩ := hsu.map; have hln := fun ty => hown.len Tryd.underlying89 ty; have u1 := hsu.row.cell 1; simp only [List.getElem?_cons_zero, List.getElem?_cons_succ] at u1; have bx := hk1.cell 0 (b := w.heap.size) (by simp; omega) (by simp)))
      · have hq : ((S.length : Int) != (ps.length : Int)) = true := by assumption
        go_ret
        refine ⟨ret_int ?_, (hb3 _ _ _).trans (hk1.below (by simp; omega) (by simp))⟩
        rw [E0.out, if_neg]
        simp at hq
        omega
      · have hq : ((S.length : Int) != (ps.length : Int)) = false := by assumption
        go_ret
        refine ⟨ret_int ?_, (hb3 _ _ _).trans (hk1.below (by simp; omega) (by simp))⟩
        rw [E0.out, if_pos]
        simp at hq
        omega

end Go.Proofs.YtndojgeodmddoadDoor

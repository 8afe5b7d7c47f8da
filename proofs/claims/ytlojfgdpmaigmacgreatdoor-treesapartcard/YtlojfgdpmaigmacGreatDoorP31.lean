/- A tree of entries, in plain terms. -/
import Derived.Test.YtlojfgdpmaigmacGreatDoorP30
import Derived.Test.YtlojfgdpmaigmacGreatDoorP19
import Derived.Test.YtlojfgdpmaigmacGreatDoorP15
import Derived.Test.YtlojfgdpmaigmacGreatDoorP12
namespace Go.Proofs.YtlojfgdpmaigmacGreatDoor
open Go.RowKit Plain

def leafOf (xs : List En) : Nd := ⟨true, xs, [], [], []⟩
def ofN (xs : List En) : List Nd × Int := growN (splitN [leafOf xs] 0).2.length (splitN [leafOf xs] 0).1 0 (splitN [leafOf xs] 0).2

/-! ### What such a tree tells -/

theorem lst_cont {ns : List Nd} : (ns.flatMap Nd.lst).Perm (ns.flatMap cont) := by
  induction ns with
  | nil => exact List.Perm.refl _
  | cons x r ih =>
    rw [List.flatMap_cons, List.flatMap_cons]
    refine List.Perm.append ?_ ih
    exact List.perm_append_comm

end Go.Proofs.YtlojfgdpmaigmacGreatDoor

/- What Check tells of a tree: in parts. -/
namespace Go.Proofs.YtlojfgdpmaigmacGreatDoor
open Go.RowKit Plain

theorem Wk_sub {ns : List Nd} {f h : Nat} {dp : Int} (hg : ∀ d lo hi S S' l, W ns f d lo hi S = some (S', l) → (∀ x ∈ l, x = dp) → ∃ P T, Sub 6 4 ns h d lo hi P ∧ S' = T ++ S ∧ (T.map (·.1)).Perm P) :
    ∀ (ds keys : List Int) (lo hi : Int) (S S' : St) (l : List Int), keys.length + 1 = ds.length → Wk (W ns f) ds keys lo hi S = some (S', l) → (∀ x ∈ l, x = dp) → ∃ Q T, SubK (Sub 6 4 ns h) lo (ups ds keys hi) Q ∧ S' = T ++ S ∧ (T.map (·.1)).Perm Q
  | [], _, _, _, _, _, _, hl, _, _ => by simp at hl
  | d :: ds, keys, lo, hi, S, S', l, hl, hr, ha => by
    unfold Wk at hr
    split at hr
    · cases hr
    · rename_i S1 l1 h1
      split at hr
      · cases hr
      · rename_i S2 l2 h2
        cases hr
        obtain ⟨P, T1, a1, rfl, a3⟩ := hg _ _ _ _ _ _ h1 (fun x hx => ha x (List.mem_append_left _ hx))
        cases keys with
        | nil =>
          obtain rfl : ds = [] := List.eq_nil_of_length_eq_zero (by simpa using hl.symm)
          simp only [Wk] at h2
          cases h2
          exact ⟨P, T1, ⟨P, [], by simp, a1, rfl⟩, rfl, a3⟩
        | cons k ks =>
          obtain ⟨Q2, T2, b1, b2, b3⟩ := Wk_sub hg ds ks k hi (T1 ++ S) _ l2 (by simpa using hl) h2 (fun x hx => ha x (List.mem_append_right _ hx))
          subst b2
          have hne : ds ≠ [] := fun e => by subst e; simp at hl
          obtain ⟨e, ds', rfl⟩ := List.exists_cons_of_ne_nil hne
          refine ⟨P ++ Q2, T2 ++ T1, ⟨P, Q2, rfl, a1, b1⟩, by simp, ?_⟩
          rw [List.map_append]
          exact (b3.append a3).trans List.perm_append_comm

theorem W_sub {ns : List Nd} : ∀ (f : Nat), f ≤ 11 → ∀ (n lo hi : Int) (S S' : St) (l : List Int) (dp : Int), W ns f n lo hi S = some (S', l) → (∀ x ∈ l, x = dp) → ∃ h P T, dp = 13 - (f : Int) + (h : Nat) ∧ Sub 6 4 ns h n lo hi P ∧ S' = T ++ S ∧ (T.map (·.1)).Perm P := by
  intro f
  induction f with
  | zero => intro _ n lo hi S S' l dp h; cases h
  | succ f ih =>
    intro hf n lo hi S S' l dp hW ha
    unfold W at hW
    split at hW
    · cases hW
    · rename_i hc
      have hr : 0 ≤ n ∧ n < ns.length ∧ lo < hi := ⟨by omega, by omega, by omega⟩
      split at hW
      · rename_i hlf
        split at hW
        · rename_i hl
          cases hW
          obtain ⟨h1, h2, h3, h4, h5, h6⟩ := leafB_iff.1 hl
          have hd := ha (12 - (f : Int)) (by simp)
          refine ⟨0, [n], [(n, 12 - (f : Int))], by omega, ⟨hr, rfl, hlf, h1, h2, h3, ?_, h4, h6⟩, rfl, by simp⟩
          rcases h5 with e | e
          · omega
          · exact e
        · cases hW
      · rename_i hlf
        split at hW
        · rename_i hi'
          obtain ⟨e1, e2, e3, e4, e5, e6⟩ := innerB_kids hi'
          have hne := (Wk_ds (fun d lo hi S S' l h => W_ds f (by omega) d lo hi S S' l h) _ _ _ _ _ _ _ hW).1 (fun e => by rw [e] at e2; simp at e2)
          -- the first kid tells how high it is
          have hcase : ∃ h : Nat, dp = 13 - (f : Int) + h := by
            cases hk : (ns.getD n.toNat default).kids with
            | nil => rw [hk] at e2; simp at e2
            | cons d ds =>
              rw [hk] at hW
              unfold Wk at hW
              split at hW
              · cases hW
              · rename_i S1 l1 h1
                split at hW
                · cases hW
                · cases hW
                  obtain ⟨h, _, _, e, _⟩ := ih (by omega) _ _ _ _ _ _ dp h1 (fun x hx => ha x (List.mem_append_left _ hx))
                  exact ⟨h, e⟩
          obtain ⟨h, hh⟩ := hcase
          obtain ⟨Q, T, b1, b2, b3⟩ := Wk_sub (h := h) (dp := dp) (fun d lo hi S S' l a b => by
            obtain ⟨h', P, T, e, c1, c2, c3⟩ := ih (by omega) d lo hi S S' l dp a b
            obtain rfl : h' = h := by omega
            exact ⟨P, T, c1, c2, c3⟩) _ _ _ _ _ _ _ e4 hW ha
          refine ⟨h + 1, n :: Q, T ++ [(n, 12 - (f : Int))], by omega, ⟨hr, Q, rfl, ?_⟩, by rw [b2]; simp, ?_⟩
          · exact ⟨Bool.eq_false_iff.2 hlf, e1, e2, e3, e4, e5, e6, b1⟩
          · rw [List.map_append]
            exact (b3.append_right _).trans List.perm_append_comm
        · cases hW

theorem perm_places {N : Nat} {L : List Int} (hn : L.Nodup) (hr : ∀ n ∈ L, 0 ≤ n ∧ n < (N : Int)) (hl : L.length = N) : L.Perm (placesF 0 N) := by
  rw [List.perm_ext_iff_of_nodup hn (placesF_nodup _ _)]
  intro a
  constructor
  · intro ha
    have := hr a ha
    exact placesF_mem.2 ⟨by omega, by omega⟩
  · intro ha
    apply Classical.byContradiction
    intro hna
    have h1 := nodup_le (a :: L) (placesF 0 N) (List.nodup_cons.2 ⟨hna, hn⟩) (fun x hx => by
      rcases List.mem_cons.1 hx with rfl | hx
      · exact ha
      · have := hr x hx
        exact placesF_mem.2 ⟨by omega, by omega⟩)
    rw [placesF_length] at h1
    simp at h1
    omega

/-- A tree that may be is a node with all below it; or there is nothing in it. -/
theorem treeC_sub {ns : List Nd} {root : Int} (h : treeC ns root = 0) : (∃ h P, Sub 6 4 ns h root 0 1099511627776 P ∧ P.Perm (placesF 0 ns.length)) ∨ (ns = [leafOf []] ∧ root = 0) := by
  unfold treeC at h
  split at h
  · omega
  · cases hW : W ns 12 root 0 1099511627776 [] with
    | none => rw [hW] at h; simp at h
    | some p =>
      obtain ⟨S, l⟩ := p
      rw [hW] at h
      simp only at h
      split at h
      · rename_i hc
        obtain ⟨hok, hlen⟩ := hc
        have hst := (W_st 12 _ _ _ _ _ _ hW ⟨by simp, by simp⟩).1
        have hperm : ∀ {P : List Int}, (S.map (·.1)).Perm P → P.Perm (placesF 0 ns.length) := fun {P} hp => by
          refine hp.symm.trans (perm_places hst.1 (fun n hn => ?_) (by simpa using hlen))
          obtain ⟨p, hp, rfl⟩ := List.mem_map.1 hn
          exact hst.2 p hp
        have hall : ∀ x ∈ l, x = l.headD 0 := fun x hx => by
          unfold okL at hok
          rw [if_pos rfl, List.all_eq_true] at hok
          simpa using hok x hx
        unfold W at hW
        split at hW
        · cases hW
        · rename_i hcc
          have hr : 0 ≤ root ∧ root < ns.length ∧ (0 : Int) < 1099511627776 := ⟨by omega, by omega, by decide⟩
          split at hW
          · rename_i hlf
            split at hW
            · rename_i hl
              cases hW
              obtain ⟨h1, h2, h3, h4, h5, h6⟩ := leafB_iff.1 hl
              by_cases hne : (ns.getD root.toNat default).ents = []
              · right
                simp at hlen
                obtain ⟨x, rfl⟩ : ∃ x, ns = [x] := List.length_eq_one_iff.1 hlen.symm
                have hr0 : root = 0 := by simp at hr; omega
                subst hr0
                refine ⟨?_, rfl⟩
                simp at h1 h2 h3 hne hlf
                cases x
                simp at h1 h2 h3 hne hlf
                subst h1 h2 h3 hne hlf
                rfl
              · left
                exact ⟨0, [root], ⟨hr, rfl, hlf, h1, h2, h3, hne, h4, h6⟩, hperm (by simp)⟩
            · cases hW
          · rename_i hlf
            split at hW
            · rename_i hi'
              obtain ⟨e1, e2, e3, e4, e5, e6⟩ := innerB_kids hi'
              left
              have hcase : ∃ h : Nat, l.headD 0 = 13 - (11 : Int) + h := by
                cases hk : (ns.getD root.toNat default).kids with
                | nil => rw [hk] at e2; simp at e2
                | cons d ds =>
                  have hW2 := hW
                  rw [hk] at hW2
                  unfold Wk at hW2
                  split at hW2
                  · cases hW2
                  · rename_i S1 l1 h1
                    split at hW2
                    · cases hW2
                    · cases hW2
                      obtain ⟨h, _, _, e, _⟩ := W_sub 11 (by omega) _ _ _ _ _ _ ((l1 ++ _).headD 0) h1 (fun x hx => hall x (List.mem_append_left _ hx))
                      exact ⟨h, e⟩
              obtain ⟨h, hh⟩ := hcase
              obtain ⟨Q, T, b1, b2, b3⟩ := Wk_sub (h := h) (dp := l.headD 0) (fun d lo hi S S' l' a b => by
                obtain ⟨h', P, T, e, c1, c2, c3⟩ := W_sub 11 (by omega) d lo hi S S' l' (l.headD 0) a b
                obtain rfl : h' = h := by omega
                exact ⟨P, T, c1, c2, c3⟩) _ _ _ _ _ _ _ e4 hW hall
              refine ⟨h + 1, root :: Q, ⟨hr, Q, rfl, ⟨Bool.eq_false_iff.2 hlf, e1, e2, e3, e4, e5, e6, b1⟩⟩, hperm ?_⟩
              rw [b2, List.map_append]
              exact (b3.append_right _).trans List.perm_append_comm
            · cases hW
      · omega

end Go.Proofs.YtlojfgdpmaigmacGreatDoor

/- The walk of Of of package tree. -/
namespace Go.Proofs.YtlojfgdpmaigmacGreatDoor
open Go.RowKit Plain

set_option maxHeartbeats 1000000 in
theorem checkEntry_any (key c s lo hi t l : Int) (w : World) :
    Calls Tryz.prog 29 #[.int .i64 key, .agg #[.int .i64 c, .int .i64 s, .int .i64 lo, .int .i64 hi, .int .i64 t, .int .i64 l]] w fun e w' => e = .returned (.int .i64 (entC ⟨key, c, s, lo, hi, t, l⟩)) ∧ Below w.heap.size w w' := by
  by_cases h1 : inB key 0 1099511627775 = true
  · by_cases h3 : c = 0
    · have E : Hid (entC ⟨key, c, s, lo, hi, t, l⟩ = 2) := by show _ = _; simp [entC, h3]
      subst h3
      go_enter Tryz.func29, Tryz.ntmps29
      go_wp2_with (first | (go_at_call 34; refine (kibO_any _ _).mono ?_; rintro e w1 ⟨rfl, h5⟩; subst w1))
      go_ret
      exact ⟨ret_int E.out.symm, (Below.refl _ _).alloc (Nat.le_refl _) _⟩
    · have h3' : (c == 0) = false := by simpa using h3
      have E : Hid (entC ⟨key, c, s, lo, hi, t, l⟩ = checkC c s lo hi t l) := by show _ = _; simp [entC, h1, h3]
      clear h3
      go_enter Tryz.func29, Tryz.ntmps29
      go_wp2_with (first | (go_at_call 34; refine (kibO_any _ _).mono ?_; rintro e w1 ⟨rfl, h5⟩; subst w1) | (go_at_call 35; refine (check_any _ _ _ _ _ _ _).mono ?_; rintro e w1 ⟨rfl, hb1⟩))
      go_ret
      exact ⟨ret_int E.out.symm, nextB ((Below.refl _ _).alloc (Nat.le_refl _) _) (Nat.le_refl _) hb1⟩
  · have h1' : inB key 0 1099511627775 = false := by simpa using h1
    have E : Hid (entC ⟨key, c, s, lo, hi, t, l⟩ = 2) := by show _ = _; simp [entC, h1]
    clear h1
    go_enter Tryz.func29, Tryz.ntmps29
    go_wp2_with (first | (go_at_call 34; refine (kibO_any _ _).mono ?_; rintro e w1 ⟨rfl, h5⟩; subst w1))
    go_ret
    exact ⟨ret_int E.out.symm, (Below.refl _ _).alloc (Nat.le_refl _) _⟩

set_option maxHeartbeats 400000 in
theorem newT_any (w : World) : Calls Tryz.prog 20 #[] w fun e w' => ∃ g, e = .returned (.agg #[.slice (some ⟨g, 0, none⟩) 1 1, .int .i64 0]) ∧ w.heap.size ≤ g ∧ RowL w' g 84 [.bool true, .slice none 0 0, .slice none 0 0, .slice none 0 0, .slice none 0 0] ∧ Below w.heap.size w w' := by
  go_enter Tryz.func20, Tryz.ntmps20
  go_wp2
  refine bodyPost_ret (v := .agg #[.slice (some ⟨w.heap.size + 1, 0, none⟩) 1 1, .int .i64 0]) (by simp [results, Tryz.results20, go_sem]) rfl ⟨w.heap.size + 1, rfl, by omega, ?_, two_below _ _ _⟩
  have h := rowL_alloc (w.alloc (.cells #[.slice (some ⟨w.heap.size + 1, 0, none⟩) 1 1, .int .i64 0] 26)) [.bool true, .slice none 0 0, .slice none 0 0, .slice none 0 0, .slice none 0 0] 84
  rwa [show (w.alloc (.cells #[.slice (some ⟨w.heap.size + 1, 0, none⟩) 1 1, .int .i64 0] 26)).heap.size = w.heap.size + 1 by simp] at h

end Go.Proofs.YtlojfgdpmaigmacGreatDoor

/- The survey's leaf. -/
import Derived.Test.YtndojgeodmddoadDoorKidsN
import Derived.Deep.DeepCutAuto
namespace Go.Proofs.YtndojgeodmddoadDoor
open Go.RowKit Plain Go.Maps

structure Sur (w : World) (q mb : Nat) (A : Option Addr) (N C : Nat) (S : St) (L : Int) : Prop where
  row : RowL w q 91 [.slice A N C, .map (some mb), .int .i64 L]
  map : MapIs w mb S
  ne : q ≠ mb

theorem Sur.kept {w w' : World} {q mb : Nat} {A : Option Addr} {N C : Nat} {S : St} {L : Int} (h : Sur w q mb A N C S L) (e1 : w'.heap[q]? = w.heap[q]?) (e2 : w'.heap[mb]? = w.heap[mb]?) : Sur w' q mb A N C S L :=
  ⟨h.row.of_block e1, h.map.of_block e2, h.ne⟩

def leafR (x : Nd) (low high : Int) (f : Nat) (L d : Int) : Bool := decide (L = 0 ∨ L = d) && leafB x low high f

theorem leafR_open {leaf : Bool} {ents : List En} {low high L d : Int} {f : Nat} (hL : L = 0 ∨ L = d) (hc : f = 11 ∨ ents ≠ []) : leafR ⟨leaf, ents, [], [], []⟩ low high f L d = (decide ((ents.length : Int) ≤ 6) && entsB ents low high) := by
  rw [Bool.eq_iff_iff]
  unfold leafR
  rw [Bool.and_eq_true, leafB_iff, Bool.and_eq_true, decide_eq_true_eq, decide_eq_true_eq]
  constructor
  · rintro ⟨_, _, _, _, h, _, h'⟩
    simp only at h
    exact ⟨by omega, h'⟩
  · rintro ⟨h, h'⟩
    exact ⟨hL, rfl, rfl, rfl, by show ents.length ≤ 6; omega, hc, h'⟩

set_option maxRecDepth 20000 in
set_option maxHeartbeats 4000000 in
theorem surLeaf_any (b o C N q mb B f m : Nat) (low high d L : Int) (S : St) (w : World) (leaf : Bool) (eA : Option Addr) (eC : Nat) (ents : List En) (kA : Option Addr) (kC : Nat) (keys : List Int) (dA : Option Addr) (dC : Nat) (kids : List Int) (bA : Option Addr) (bC : Nat) (buf : List En)
    (hm : m < N) (hz : N * 104 ≤ 140737488351232) (hat : PnAt w b (o + m * 5) ⟨leaf, eA, eC, ents, kA, kC, keys, dA, dC, kids, bA, bC, buf⟩) (ok : PN.ok B w ⟨leaf, eA, eC, ents, kA, kC, keys, dA, dC, kids, bA, bC, buf⟩)
    (hbl : b < B) (hBq : B ≤ q) (hS : Sur w q mb (some ⟨b, o, none⟩) N C S L) (hp : ((m : Int), d) ∈ S) (hlow : 0 ≤ low) (hhigh : high ≤ 9223372036854775807) (hd1 : 1 ≤ d) (hd2 : d ≤ 12) (hfd : f = 11 ↔ d = 1) (res : Bool) (hres : Hid (res = leafR ⟨leaf, ents, keys, kids, buf⟩ low high f L d)) (L' : Int) (hL' : Hid (L' = if L = 0 then d else L)) :
    Calls Tryd.prog 69 #[.pointer (some ⟨q, 0, none⟩), .int .i64 (m : Int), .int .i64 low, .int .i64 high] w
      fun e w' => e = .returned (.bool res) ∧ Kept [q, mb] w w' ∧ (res = true → Sur w' q mb (some ⟨b, o, none⟩) N C S L') := by
  have hqs := hS.row.lt
  have hms := hS.map.lt
  obtain ⟨c0, c1, c2, c3, c4⟩ := hat
  simp only at c0 c1 c2 c3 c4
  obtain ⟨e1, -, -, -, -, -, -, -, ez, kz, dz, fz⟩ := ok
  simp only at e1 ez kz dz fz
  have q0 := hS.row.cell 0
  have q1 := hS.row.cell 1
  have q2 := hS.row.cell 2
  have qf := hS.row.frozen 2
  simp only [List.getElem?_cons_zero, List.getElem?_cons_succ] at q0 q1 q2
  have hbw : b < w.heap.size := by omega
  have hL := hS.map.look hp (WalkArith.wf_i64 (by omega))
  have i0 : (0 : Int) ≤ (m : Int) := by omega
  have i1 : (m : Int) < (N : Int) := by omega
  go_enter Tryd.func69, Tryd.ntmps69
  go_upto_region 1 with fail
  go_cut [9, 10] (fun v9 v10 wc => v9 = .pointer (some ⟨w.heap.size, 0, none⟩) ∧ v10 = .int .i64 d ∧ wc = (w.alloc (.cells #[.bool leaf, .slice eA ents.length eC, .slice kA keys.length kC, .slice dA kids.length dC, .slice bA buf.length bC] 79)).drew)
  case first =>
    go_region_held3 (fun w' => w'.cell? ⟨q, 0, none⟩ = some (.slice (some ⟨b, o, none⟩) N C) ∧ w'.cell? ⟨q, 1, none⟩ = some (.map (some mb)) ∧ w'.cell? ⟨b, o + m * 5, none⟩ = some (.bool leaf) ∧ w'.cell? ⟨b, o + m * 5 + 1, none⟩ = some (.slice eA ents.length eC) ∧ w'.cell? ⟨b, o + m * 5 + 2, none⟩ = some (.slice kA keys.length kC) ∧ w'.cell? ⟨b, o + m * 5 + 3, none⟩ = some (.slice dA kids.length dC) ∧ w'.cell? ⟨b, o + m * 5 + 4, none⟩ = some (.slice bA buf.length bC) ∧ w'.heap[mb]? = w.heap[mb]?) (((try go_split_ands); refine ⟨by go_keep, by go_keep, by go_keep, by go_keep, by go_keep, by go_keep, by go_keep, ?_⟩; first | rfl | assumption | exact Below.heap_alloc w _ mb hms)) (fail)
    all_goals go_wp2
    all_goals go_meet
    all_goals exact ⟨rfl, rfl, rfl⟩
  case rest =>
    obtain ⟨rfl, rfl, rfl⟩ := hcut
    by_cases hL0 : L = 0
    · subst hL0
      have EL : Hid (L' = d) := by show _ = _; rw [hL'.out, if_pos rfl]
      have hbel : ∀ o1 : Obj, Below B w (((w.setCell ⟨q, 2, none⟩ (.int .i64 d)).alloc o1).drew) := fun o1 => (((Below.refl _ _).setCell (p := ⟨q, 2, none⟩) hBq _).alloc (by simp; omega) _).drew
      have hk0 : ∀ o1 : Obj, Kept [q, mb] w (((w.setCell ⟨q, 2, none⟩ (.int .i64 d)).alloc o1).drew) := fun o1 => (((Kept.refl _ _).set (.inl (by simp)) _).alloc _).drew
      have hs0 : ∀ o1 : Obj, Sur (((w.setCell ⟨q, 2, none⟩ (.int .i64 d)).alloc o1).drew) q mb (some ⟨b, o, none⟩) N C S d := fun o1 => by
        have r1 := hS.row.set 2 (.int .i64 d)
        refine ⟨r1.of_block (Below.heap_alloc _ _ _ (by simpa using hqs)), hS.map.of_block ?_, hS.ne⟩
        exact (Below.heap_alloc _ _ _ (by simpa using hms)).trans (Below.heap_setCell _ _ _ _ (fun e => hS.ne e.symm))
      by_cases h1 : 1 < d
      · by_cases he : ents = []
        · subst he
          have E0 : Hid (false = res) := by
            show _ = _
            rw [hres.out, eq_comm, Bool.eq_false_iff]
            intro h
            simp only [leafR, Bool.and_eq_true, leafB_iff] at h
            rcases h.2.2.2.2.2.1 with h | h; have := hfd.1 h; omega; exact h rfl
          clear hres hfd
          go_wp2_with fail
          go_ret
          exact ⟨ret_bool E0.out, hk0 _, fun h => absurd (E0.out.trans h) (by simp)⟩
        · have he1 : ((ents.length : Int) == 0) = false := by have := List.length_pos_iff.2 he; rw [beq_eq_false_iff_ne]; omega
          by_cases hk : keys = []
          · subst hk
            by_cases hd : kids = []
            · subst hd
              by_cases hf : buf = []
              · subst hf
                have E0 : Hid ((decide ((ents.length : Int) ≤ 6) && entsB ents low high) = res) := by
                  show _ = _
                  rw [hres.out]; exact (leafR_open (Or.inl rfl) (Or.inr he)).symm
                clear hres hfd
                go_wp2_with (first | (go_at_call 76; refine (entriesMayBe_any _ _ _ _ _ _ _ (e1.go (hbel _) (Nat.le_refl _) (by omega)) ez (by omega) hhigh).mono ?_; rintro e w2 ⟨rfl, hb2⟩))
                go_ret
                exact ⟨ret_bool E0.out, (hk0 _).trans (Kept.of_below hb2), fun _ => by rw [EL.out]; exact (hs0 _).kept (hb2.block q (by simp; omega)) (hb2.block mb (by simp; omega))⟩
              · have hf1 : (0 : Int) < (buf.length : Int) := by have := List.length_pos_iff.2 hf; omega
                have E0 : Hid (false = res) := by
                  show _ = _
                  rw [hres.out, eq_comm, Bool.eq_false_iff]
                  intro h
                  simp only [leafR, Bool.and_eq_true, leafB_iff] at h
                  exact hf h.2.2.2.1
                clear hres hfd
                go_wp2_with fail
                go_ret
                exact ⟨ret_bool E0.out, hk0 _, fun h => absurd (E0.out.trans h) (by simp)⟩
            · have hd1' : (0 : Int) < (kids.length : Int) := by have := List.length_pos_iff.2 hd; omega
              have E0 : Hid (false = res) := by
                show _ = _
                rw [hres.out, eq_comm, Bool.eq_false_iff]
                intro h
                simp only [leafR, Bool.and_eq_true, leafB_iff] at h
                exact hd h.2.2.1
              clear hres hfd
              go_wp2_with fail
              go_ret
              exact ⟨ret_bool E0.out, hk0 _, fun h => absurd (E0.out.trans h) (by simp)⟩
          · have hk1 : (0 : Int) < (keys.length : Int) := by have := List.length_pos_iff.2 hk; omega
            have E0 : Hid (false = res) := by
              show _ = _
              rw [hres.out, eq_comm, Bool.eq_false_iff]
              intro h
              simp only [leafR, Bool.and_eq_true, leafB_iff] at h
              exact hk h.2.1
            clear hres hfd
            go_wp2_with fail
            go_ret
            exact ⟨ret_bool E0.out, hk0 _, fun h => absurd (E0.out.trans h) (by simp)⟩
      · have hd11 : d = 1 := by omega
        have hf11 := hfd.2 hd11
        have Hf : Hid (f = 11) := hf11
        clear hf11
        have Hd : Hid (d = 1) := hd11
        clear hd11
        by_cases hk : keys = []
        · subst hk
          by_cases hd : kids = []
          · subst hd
            by_cases hf : buf = []
            · subst hf
              have E0 : Hid ((decide ((ents.length : Int) ≤ 6) && entsB ents low high) = res) := by
                show _ = _
                rw [hres.out]; exact (leafR_open (Or.inl rfl) (Or.inl Hf.out)).symm
              clear hres hfd
              go_wp2_with (first | (go_at_call 76; refine (entriesMayBe_any _ _ _ _ _ _ _ (e1.go (hbel _) (Nat.le_refl _) (by omega)) ez (by omega) hhigh).mono ?_; rintro e w2 ⟨rfl, hb2⟩))
              go_ret
              exact ⟨ret_bool E0.out, (hk0 _).trans (Kept.of_below hb2), fun _ => by rw [EL.out]; exact (hs0 _).kept (hb2.block q (by simp; omega)) (hb2.block mb (by simp; omega))⟩
            · have hf1 : (0 : Int) < (buf.length : Int) := by have := List.length_pos_iff.2 hf; omega
              have E0 : Hid (false = res) := by
                show _ = _
                rw [hres.out, eq_comm, Bool.eq_false_iff]
                intro h
                simp only [leafR, Bool.and_eq_true, leafB_iff] at h
                exact hf h.2.2.2.1
              clear hres hfd
              go_wp2_with fail
              go_ret
              exact ⟨ret_bool E0.out, hk0 _, fun h => absurd (E0.out.trans h) (by simp)⟩
          · have hd1' : (0 : Int) < (kids.length : Int) := by have := List.length_pos_iff.2 hd; omega
            have E0 : Hid (false = res) := by
              show _ = _
              rw [hres.out, eq_comm, Bool.eq_false_iff]
              intro h
              simp only [leafR, Bool.and_eq_true, leafB_iff] at h
              exact hd h.2.2.1
            clear hres hfd
            go_wp2_with fail
            go_ret
            exact ⟨ret_bool E0.out, hk0 _, fun h => absurd (E0.out.trans h) (by simp)⟩
        · have hk1 : (0 : Int) < (keys.length : Int) := by have := List.length_pos_iff.2 hk; omega
          have E0 : Hid (false = res) := by
            show _ = _
            rw [hres.out, eq_comm, Bool.eq_false_iff]
            intro h
            simp only [leafR, Bool.and_eq_true, leafB_iff] at h
            exact hk h.2.1
          clear hres hfd
          go_wp2_with fail
          go_ret
          exact ⟨ret_bool E0.out, hk0 _, fun h => absurd (E0.out.trans h) (by simp)⟩
    · have hbel : ∀ o1 : Obj, Below B w ((w.alloc o1).drew) := fun o1 => ((Below.refl _ _).alloc (by omega) _).drew
      have hk0 : ∀ o1 : Obj, Kept [q, mb] w ((w.alloc o1).drew) := fun o1 => ((Kept.refl _ _).alloc _).drew
      have hs0 : ∀ o1 : Obj, Sur ((w.alloc o1).drew) q mb (some ⟨b, o, none⟩) N C S L := fun o1 => hS.kept (Below.heap_alloc _ _ _ hqs) (Below.heap_alloc _ _ _ hms)
      have hL0' : (L == 0) = false := by simpa using hL0
      by_cases hLd : L = d
      · have hLd2 : d = L := hLd.symm
        subst hLd2
        clear hLd
        have EL : Hid (L' = d) := by show _ = _; rw [hL'.out, if_neg hL0]
        have HL0 : Hid (¬ d = 0) := hL0
        clear hL0
        by_cases h1 : 1 < d
        · by_cases he : ents = []
          · subst he
            have E0 : Hid (false = res) := by
              show _ = _
              rw [hres.out, eq_comm, Bool.eq_false_iff]
              intro h
              simp only [leafR, Bool.and_eq_true, leafB_iff] at h
              rcases h.2.2.2.2.2.1 with h | h; have := hfd.1 h; omega; exact h rfl
            clear hres hfd
            go_wp2_with fail
            go_ret
            exact ⟨ret_bool E0.out, hk0 _, fun h => absurd (E0.out.trans h) (by simp)⟩
          · have he1 : ((ents.length : Int) == 0) = false := by have := List.length_pos_iff.2 he; rw [beq_eq_false_iff_ne]; omega
            by_cases hk : keys = []
            · subst hk
              by_cases hd : kids = []
              · subst hd
                by_cases hf : buf = []
                · subst hf
                  have E0 : Hid ((decide ((ents.length : Int) ≤ 6) && entsB ents low high) = res) := by
                    show _ = _
                    rw [hres.out]; exact (leafR_open (Or.inr rfl) (Or.inr he)).symm
                  clear hres hfd
                  go_wp2_with (first | (go_at_call 76; refine (entriesMayBe_any _ _ _ _ _ _ _ (e1.go (hbel _) (Nat.le_refl _) (by omega)) ez (by omega) hhigh).mono ?_; rintro e w2 ⟨rfl, hb2⟩))
                  go_ret
                  exact ⟨ret_bool E0.out, (hk0 _).trans (Kept.of_below hb2), fun _ => by rw [EL.out]; exact (hs0 _).kept (hb2.block q (by simp; omega)) (hb2.block mb (by simp; omega))⟩
                · have hf1 : (0 : Int) < (buf.length : Int) := by have := List.length_pos_iff.2 hf; omega
                  have E0 : Hid (false = res) := by
                    show _ = _
                    rw [hres.out, eq_comm, Bool.eq_false_iff]
                    intro h
                    simp only [leafR, Bool.and_eq_true, leafB_iff] at h
                    exact hf h.2.2.2.1
                  clear hres hfd
                  go_wp2_with fail
                  go_ret
                  exact ⟨ret_bool E0.out, hk0 _, fun h => absurd (E0.out.trans h) (by simp)⟩
              · have hd1' : (0 : Int) < (kids.length : Int) := by have := List.length_pos_iff.2 hd; omega
                have E0 : Hid (false = res) := by
                  show _ = _
                  rw [hres.out, eq_comm, Bool.eq_false_iff]
                  intro h
                  simp only [leafR, Bool.and_eq_true, leafB_iff] at h
                  exact hd h.2.2.1
                clear hres hfd
                go_wp2_with fail
                go_ret
                exact ⟨ret_bool E0.out, hk0 _, fun h => absurd (E0.out.trans h) (by simp)⟩
            · have hk1 : (0 : Int) < (keys.length : Int) := by have := List.length_pos_iff.2 hk; omega
              have E0 : Hid (false = res) := by
                show _ = _
                rw [hres.out, eq_comm, Bool.eq_false_iff]
                intro h
                simp only [leafR, Bool.and_eq_true, leafB_iff] at h
                exact hk h.2.1
              clear hres hfd
              go_wp2_with fail
              go_ret
              exact ⟨ret_bool E0.out, hk0 _, fun h => absurd (E0.out.trans h) (by simp)⟩
        · have hd11 : d = 1 := by omega
          have hf11 := hfd.2 hd11
          have Hf : Hid (f = 11) := hf11
          clear hf11
          have Hd : Hid (d = 1) := hd11
          clear hd11
          by_cases hk : keys = []
          · subst hk
            by_cases hd : kids = []
            · subst hd
              by_cases hf : buf = []
              · subst hf
                have E0 : Hid ((decide ((ents.length : Int) ≤ 6) && entsB ents low high) = res) := by
                  show _ = _
                  rw [hres.out]; exact (leafR_open (Or.inr rfl) (Or.inl Hf.out)).symm
                clear hres hfd
                go_wp2_with (first | (go_at_call 76; refine (entriesMayBe_any _ _ _ _ _ _ _ (e1.go (hbel _) (Nat.le_refl _) (by omega)) ez (by omega) hhigh).mono ?_; rintro e w2 ⟨rfl, hb2⟩))
                go_ret
                exact ⟨ret_bool E0.out, (hk0 _).trans (Kept.of_below hb2), fun _ => by rw [EL.out]; exact (hs0 _).kept (hb2.block q (by simp; omega)) (hb2.block mb (by simp; omega))⟩
              · have hf1 : (0 : Int) < (buf.length : Int) := by have := List.length_pos_iff.2 hf; omega
                have E0 : Hid (false = res) := by
                  show _ = _
                  rw [hres.out, eq_comm, Bool.eq_false_iff]
                  intro h
                  simp only [leafR, Bool.and_eq_true, leafB_iff] at h
                  exact hf h.2.2.2.1
                clear hres hfd
                go_wp2_with fail
                go_ret
                exact ⟨ret_bool E0.out, hk0 _, fun h => absurd (E0.out.trans h) (by simp)⟩
            · have hd1' : (0 : Int) < (kids.length : Int) := by have := List.length_pos_iff.2 hd; omega
              have E0 : Hid (false = res) := by
                show _ = _
                rw [hres.out, eq_comm, Bool.eq_false_iff]
                intro h
                simp only [leafR, Bool.and_eq_true, leafB_iff] at h
                exact hd h.2.2.1
              clear hres hfd
              go_wp2_with fail
              go_ret
              exact ⟨ret_bool E0.out, hk0 _, fun h => absurd (E0.out.trans h) (by simp)⟩
          · have hk1 : (0 : Int) < (keys.length : Int) := by have := List.length_pos_iff.2 hk; omega
            have E0 : Hid (false = res) := by
              show _ = _
              rw [hres.out, eq_comm, Bool.eq_false_iff]
              intro h
              simp only [leafR, Bool.and_eq_true, leafB_iff] at h
              exact hk h.2.1
            clear hres hfd
            go_wp2_with fail
            go_ret
            exact ⟨ret_bool E0.out, hk0 _, fun h => absurd (E0.out.trans h) (by simp)⟩
      · have hLd' : (d != L) = true := by simp; exact fun e => hLd e.symm
        have E0 : Hid (false = res) := by
          show _ = _
          rw [hres.out, eq_comm, Bool.eq_false_iff]
          intro h
          simp only [leafR, Bool.and_eq_true, leafB_iff] at h
          have := h.1; simp at this; rcases this with h | h; exact hL0 h; exact hLd h
        clear hres hfd
        go_wp2_with fail
        go_ret
        exact ⟨ret_bool E0.out, hk0 _, fun h => absurd (E0.out.trans h) (by simp)⟩

end Go.Proofs.YtndojgeodmddoadDoor

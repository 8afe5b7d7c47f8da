/- The survey's leaf. -/
import Derived.Test.YtlojfgdpmaigmafDoorP12
import Derived.Deep.DeepCutAuto
namespace Go.Proofs.YtlojfgdpmaigmafDoor
open Go.RowKit Plain Go.Maps

structure Sur (w : World) (q mb : Nat) (A : Option Addr) (N C : Nat) (S : St) (L : Int) : Prop where
  row : RowL w q 70 [.slice A N C, .map (some mb), .int .i64 L]
  map : MapIs w mb S
  ne : q ≠ mb

theorem Sur.kept {w w' : World} {q mb : Nat} {A : Option Addr} {N C : Nat} {S : St} {L : Int} (h : Sur w q mb A N C S L) (e1 : w'.heap[q]? = w.heap[q]?) (e2 : w'.heap[mb]? = w.heap[mb]?) : Sur w' q mb A N C S L :=
  ⟨h.row.of_block e1, h.map.of_block e2, h.ne⟩

def leafR (x : Nd) (low high : Int) (f : Nat) (L d : Int) : Bool := decide (L = 0 ∨ L = d) && leafB x low high f

theorem leafR_open {leaf : Bool} {ents : List En} {low high L d : Int} {f : Nat} (hL : L = 0 ∨ L = d) (hc : f = 11 ∨ ents ≠ []) : leafR ⟨leaf, ents, [], [], []⟩ low high f L d = (decide ((ents.length : Int) ≤ 6) && entsB ents low high) := by
  rw [Bool.eq_iff_iff]
  unfold leafR
  rw [Bool.and_eq_true, leafB_iff, Bool.and_eq_true, decide_eq_true_eq, decide_eq_true_eq]
  constructor
  · rintro ⟨_, _, _, _, h, _, h'⟩
    simp only at h
    exact ⟨by omega, h'⟩
  · rintro ⟨h, h'⟩
    exact ⟨hL, rfl, rfl, rfl, by show ents.length ≤ 6; omega, hc, h'⟩

set_option maxRecDepth 20000 in
set_option maxHeartbeats 4000000 in
theorem surLeaf_any (b o C N q mb B f m : Nat) (low high d L : Int) (S : St) (w : World) (leaf : Bool) (eA : Option Addr) (eC : Nat) (ents : List En) (kA : Option Addr) (kC : Nat) (keys : List Int) (dA : Option Addr) (dC : Nat) (kids : List Int) (bA : Option Addr) (bC : Nat) (buf : List En)
    (hm : m < N) (hz : N * 104 ≤ 140737488351232) (hat : PnAt w b (o + m * 5) ⟨leaf, eA, eC, ents, kA, kC, keys, dA, dC, kids, bA, bC, buf⟩) (ok : PN.ok B w ⟨leaf, eA, eC, ents, kA, kC, keys, dA, dC, kids, bA, bC, buf⟩)
    (hbl : b < B) (hBq : B ≤ q) (hS : Sur w q mb (some ⟨b, o, none⟩) N C S L) (hp : ((m : Int), d) ∈ S) (hlow : 0 ≤ low) (hhigh : high ≤ 9223372036854775807) (hd1 : 1 ≤ d) (hd2 : d ≤ 12) (hfd : f = 11 ↔ d = 1) (res : Bool) (hres : Hid (res = leafR ⟨leaf, ents, keys, kids, buf⟩ low high f L d)) (L' : Int) (hL' : Hid (L' = if L = 0 then d else L)) :
    Calls Tryd.prog 53 #[.pointer (some ⟨q, 0, none⟩), .int .i64 (m : Int), .int .i64 low, .int .i64 high] w
      fun e w' => e = .returned (.bool res) ∧ Kept [q, mb] w w' ∧ (res = true → Sur w' q mb (some ⟨b, o, none⟩) N C S L') := by
  have hqs := hS.row.lt
  have hms := hS.map.lt
  obtain ⟨c0, c1, c2, c3, c4⟩ := hat
  simp only at c0 c1 c2 c3 c4
  obtain ⟨e1, -, -, -, -, -, -, -, ez, kz, dz, fz⟩ := ok
  simp only at e1 ez kz dz fz
  have q0 := hS.row.cell 0
  have q1 := hS.row.cell 1
  have q2 := hS.row.cell 2
  have qf := hS.row.frozen 2
  simp only [List.getElem?_cons_zero, List.getElem?_cons_succ] at q0 q1 q2
  have hbw : b < w.heap.size := by omega
  have hL := hS.map.look hp (WalkArith.wf_i64 (by omega))
  have i0 : (0 : Int) ≤ (m : Int) := by omega
  have i1 : (m : Int) < (N : Int) := by omega
  go_enter Tryd.func53, Tryd.ntmps53
  go_upto_region 1 with fail
  go_cut [9, 10] (fun v9 v10 wc => v9 = .pointer (some ⟨w.heap.size, 0, none⟩) ∧ v10 = .int .i64 d ∧ wc = (w.alloc (.cells #[.bool leaf, .slice eA ents.length eC, .slice kA keys.length kC, .slice dA kids.length dC, .slice bA buf.length bC] 74)).drew)
  case first =>
    go_region_held3 (fun w' => w'.cell? ⟨q, 0, none⟩ = some (.slice (some ⟨b, o, none⟩) N C) ∧ w'.cell? ⟨q, 1, none⟩ = some (.map (some mb)) ∧ w'.cell? ⟨b, o + m * 5, none⟩ = some (.bool leaf) ∧ w'.cell? ⟨b, o + m * 5 + 1, none⟩ = some (.slice eA ents.length eC) ∧ w'.cell? ⟨b, o + m * 5 + 2, none⟩ = some (.slice kA keys.length kC) ∧ w'.cell? ⟨b, o + m * 5 + 3, none⟩ = some (.slice dA kids.length dC) ∧ w'.cell? ⟨b, o + m * 5 + 4, none⟩ = some (.slice bA buf.length bC) ∧ w'.heap[mb]? = w.heap[mb]?) (((try go_split_ands); refine ⟨by go_keep, by go_keep, by go_keep, by go_keep, by go_keep, by go_keep, by go_keep, ?_⟩; first | rfl | assumption | exact Below.heap_alloc w _ mb hms)) (fail)
    all_goals go_wp2
    all_goals go_meet
    all_goals exact ⟨rfl, rfl, rfl⟩
  case rest =>
    obtain ⟨rfl, rfl, rfl⟩ := hcut
    by_cases hL0 : L = 0
    · subst hL0
      have EL : Hid (L' = d) := by show _ = _; rw [hL'.out, if_pos rfl]
      have hbel : ∀ o1 : Obj, Below B w (((w.setCell ⟨q, 2, none⟩ (.int .i64 d)).alloc o1).drew) := fun o1 => (((Below.refl _ _).setCell (p := ⟨q, 2, none⟩) hBq _).alloc (by simp; omega) _).drew
      have hk0 : ∀ o1 : Obj, Kept [q, mb] w (((w.setCell ⟨q, 2, none⟩ (.int .i64 d)).alloc o1).drew) := fun o1 => (((Kept.refl _ _).set (.inl (by simp)) _).alloc _).drew
      have hs0 : ∀ o1 : Obj, Sur (((w.setCell ⟨q, 2, none⟩ (.int .i64 d)).alloc o1).drew) q mb (some ⟨b, o, none⟩) N C S d := fun o1 => by
        have r1 := hS.row.set 2 (.int .i64 d)
        refine ⟨r1.of_block (Below.heap_alloc _ _ _ (by simpa using hqs)), hS.map.of_block ?_, hS.ne⟩
        exact (Below.heap_alloc _ _ _ (by simpa using hms)).trans (Below.heap_setCell _ _ _ _ (fun e => hS.ne e.symm))
      by_cases h1 : 1 < d
      · by_cases he : ents = []
        · subst he
          have E0 : Hid (false = res) := by
            show _ = _
            rw [hres.out, eq_comm, Bool.eq_false_iff]
            intro h
            simp only [leafR, Bool.and_eq_true, leafB_iff] at h
            rcases h.2.2.2.2.2.1 with h | h; have := hfd.1 h; omega; exact h rfl
          clear hres hfd
          go_wp2_with fail
          go_ret
          exact ⟨ret_bool E0.out, hk0 _, fun h => absurd (E0.out.trans h) (by simp)⟩
        · have he1 : ((ents.length : Int) == 0) = false := by have := List.length_pos_iff.2 he; rw [beq_eq_false_iff_ne]; omega
          by_cases hk : keys = []
          · subst hk
            by_cases hd : kids = []
            · subst hd
              by_cases hf : buf = []
              · subst hf
                have E0 : Hid ((decide ((ents.length : Int) ≤ 6) && entsB ents low high) = res) := by
                  show _ = _
                  rw [hres.out]; exact (leafR_open (Or.inl rfl) (Or.inr he)).symm
                clear hres hfd
                go_wp2_with (first | (go_at_call 65; refine (entriesMayBe_any _ _ _ _ _ _ _ (e1.go (hbel _) (Nat.le_refl _) (by omega)) ez (by omega) hhigh).mono ?_; rintro e w2 ⟨rfl, hb2⟩))
                go_ret
                exact ⟨ret_bool E0.out, (hk0 _).trans (Kept.of_below hb2), fun _ => by rw [EL.out]; exact (hs0 _).kept (hb2.block q (by simp; omega)) (hb2.block mb (by simp; omega))⟩
              · have hf1 : (0 : Int) < (buf.length : Int) := by have := List.length_pos_iff.2 hf; omega
                have E0 : Hid (false = res) := by
                  show _ = _
                  rw [hres.out, eq_comm, Bool.eq_false_iff]
                  intro h
                  simp only [leafR, Bool.and_eq_true, leafB_iff] at h
                  exact hf h.2.2.2.1
                clear hres hfd
                go_wp2_with fail
                go_ret
                exact ⟨ret_bool E0.out, hk0 _, fun h => absurd (E0.out.trans h) (by simp)⟩
            · have hd1' : (0 : Int) < (kids.length : Int) := by have := List.length_pos_iff.2 hd; omega
              have E0 : Hid (false = res) := by
                show _ = _
                rw [hres.out, eq_comm, Bool.eq_false_iff]
                intro h
                simp only [leafR, Bool.and_eq_true, leafB_iff] at h
                exact hd h.2.2.1
              clear hres hfd
              go_wp2_with fail
              go_ret
              exact ⟨ret_bool E0.out, hk0 _, fun h => absurd (E0.out.trans h) (by simp)⟩
          · have hk1 : (0 : Int) < (keys.length : Int) := by have := List.length_pos_iff.2 hk; omega
            have E0 : Hid (false = res) := by
              show _ = _
              rw [hres.out, eq_comm, Bool.eq_false_iff]
              intro h
              simp only [leafR, Bool.and_eq_true, leafB_iff] at h
              exact hk h.2.1
            clear hres hfd
            go_wp2_with fail
            go_ret
            exact ⟨ret_bool E0.out, hk0 _, fun h => absurd (E0.out.trans h) (by simp)⟩
      · have hd11 : d = 1 := by omega
        have hf11 := hfd.2 hd11
        have Hf : Hid (f = 11) := hf11
        clear hf11
        have Hd : Hid (d = 1) := hd11
        clear hd11
        by_cases hk : keys = []
        · subst hk
          by_cases hd : kids = []
          · subst hd
            by_cases hf : buf = []
            · subst hf
              have E0 : Hid ((decide ((ents.length : Int) ≤ 6) && entsB ents low high) = res) := by
                show _ = _
                rw [hres.out]; exact (leafR_open (Or.inl rfl) (Or.inl Hf.out)).symm
              clear hres hfd
              go_wp2_with (first | (go_at_call 65; refine (entriesMayBe_any _ _ _ _ _ _ _ (e1.go (hbel _) (Nat.le_refl _) (by omega)) ez (by omega) hhigh).mono ?_; rintro e w2 ⟨rfl, hb2⟩))
              go_ret
              exact ⟨ret_bool E0.out, (hk0 _).trans (Kept.of_below hb2), fun _ => by rw [EL.out]; exact (hs0 _).kept (hb2.block q (by simp; omega)) (hb2.block mb (by simp; omega))⟩
            · have hf1 : (0 : Int) < (buf.length : Int) := by have := List.length_pos_iff.2 hf; omega
              have E0 : Hid (false = res) := by
                show _ = _
                rw [hres.out, eq_comm, Bool.eq_false_iff]
                intro h
                simp only [leafR, Bool.and_eq_true, leafB_iff] at h
                exact hf h.2.2.2.1
              clear hres hfd
              go_wp2_with fail
              go_ret
              exact ⟨ret_bool E0.out, hk0 _, fun h => absurd (E0.out.trans h) (by simp)⟩
          · have hd1' : (0 : Int) < (kids.length : Int) := by have := List.length_pos_iff.2 hd; omega
            have E0 : Hid (false = res) := by
              show _ = _
              rw [hres.out, eq_comm, Bool.eq_false_iff]
              intro h
              simp only [leafR, Bool.and_eq_true, leafB_iff] at h
              exact hd h.2.2.1
            clear hres hfd
            go_wp2_with fail
            go_ret
            exact ⟨ret_bool E0.out, hk0 _, fun h => absurd (E0.out.trans h) (by simp)⟩
        · have hk1 : (0 : Int) < (keys.length : Int) := by have := List.length_pos_iff.2 hk; omega
          have E0 : Hid (false = res) := by
            show _ = _
            rw [hres.out, eq_comm, Bool.eq_false_iff]
            intro h
            simp only [leafR, Bool.and_eq_true, leafB_iff] at h
            exact hk h.2.1
          clear hres hfd
          go_wp2_with fail
          go_ret
          exact ⟨ret_bool E0.out, hk0 _, fun h => absurd (E0.out.trans h) (by simp)⟩
    · have hbel : ∀ o1 : Obj, Below B w ((w.alloc o1).drew) := fun o1 => ((Below.refl _ _).alloc (by omega) _).drew
      have hk0 : ∀ o1 : Obj, Kept [q, mb] w ((w.alloc o1).drew) := fun o1 => ((Kept.refl _ _).alloc _).drew
      have hs0 : ∀ o1 : Obj, Sur ((w.alloc o1).drew) q mb (some ⟨b, o, none⟩) N C S L := fun o1 => hS.kept (Below.heap_alloc _ _ _ hqs) (Below.heap_alloc _ _ _ hms)
      have hL0' : (L == 0) = false := by simpa using hL0
      by_cases hLd : L = d
      · have hLd2 : d = L := hLd.symm
        subst hLd2
        clear hLd
        have EL : Hid (L' = d) := by show _ = _; rw [hL'.out, if_neg hL0]
        have HL0 : Hid (¬ d = 0) := hL0
        clear hL0
        by_cases h1 : 1 < d
        · by_cases he : ents = []
          · subst he
            have E0 : Hid (false = res) := by
              show _ = _
              rw [hres.out, eq_comm, Bool.eq_false_iff]
              intro h
              simp only [leafR, Bool.and_eq_true, leafB_iff] at h
              rcases h.2.2.2.2.2.1 with h | h; have := hfd.1 h; omega; exact h rfl
            clear hres hfd
            go_wp2_with fail
            go_ret
            exact ⟨ret_bool E0.out, hk0 _, fun h => absurd (E0.out.trans h) (by simp)⟩
          · have he1 : ((ents.length : Int) == 0) = false := by have := List.length_pos_iff.2 he; rw [beq_eq_false_iff_ne]; omega
            by_cases hk : keys = []
            · subst hk
              by_cases hd : kids = []
              · subst hd
                by_cases hf : buf = []
                · subst hf
                  have E0 : Hid ((decide ((ents.length : Int) ≤ 6) && entsB ents low high) = res) := by
                    show _ = _
                    rw [hres.out]; exact (leafR_open (Or.inr rfl) (Or.inr he)).symm
                  clear hres hfd
                  go_wp2_with (first | (go_at_call 65; refine (entriesMayBe_any _ _ _ _ _ _ _ (e1.go (hbel _) (Nat.le_refl _) (by omega)) ez (by omega) hhigh).mono ?_; rintro e w2 ⟨rfl, hb2⟩))
                  go_ret
                  exact ⟨ret_bool E0.out, (hk0 _).trans (Kept.of_below hb2), fun _ => by rw [EL.out]; exact (hs0 _).kept (hb2.block q (by simp; omega)) (hb2.block mb (by simp; omega))⟩
                · have hf1 : (0 : Int) < (buf.length : Int) := by have := List.length_pos_iff.2 hf; omega
                  have E0 : Hid (false = res) := by
                    show _ = _
                    rw [hres.out, eq_comm, Bool.eq_false_iff]
                    intro h
                    simp only [leafR, Bool.and_eq_true, leafB_iff] at h
                    exact hf h.2.2.2.1
                  clear hres hfd
                  go_wp2_with fail
                  go_ret
                  exact ⟨ret_bool E0.out, hk0 _, fun h => absurd (E0.out.trans h) (by simp)⟩
              · have hd1' : (0 : Int) < (kids.length : Int) := by have := List.length_pos_iff.2 hd; omega
                have E0 : Hid (false = res) := by
                  show _ = _
                  rw [hres.out, eq_comm, Bool.eq_false_iff]
                  intro h
                  simp only [leafR, Bool.and_eq_true, leafB_iff] at h
                  exact hd h.2.2.1
                clear hres hfd
                go_wp2_with fail
                go_ret
                exact ⟨ret_bool E0.out, hk0 _, fun h => absurd (E0.out.trans h) (by simp)⟩
            · have hk1 : (0 : Int) < (keys.length : Int) := by have := List.length_pos_iff.2 hk; omega
              have E0 : Hid (false = res) := by
                show _ = _
                rw [hres.out, eq_comm, Bool.eq_false_iff]
                intro h
                simp only [leafR, Bool.and_eq_true, leafB_iff] at h
                exact hk h.2.1
              clear hres hfd
              go_wp2_with fail
              go_ret
              exact ⟨ret_bool E0.out, hk0 _, fun h => absurd (E0.out.trans h) (by simp)⟩
        · have hd11 : d = 1 := by omega
          have hf11 := hfd.2 hd11
          have Hf : Hid (f = 11) := hf11
          clear hf11
          have Hd : Hid (d = 1) := hd11
          clear hd11
          by_cases hk : keys = []
          · subst hk
            by_cases hd : kids = []
            · subst hd
              by_cases hf : buf = []
              · subst hf
                have E0 : Hid ((decide ((ents.length : Int) ≤ 6) && entsB ents low high) = res) := by
                  show _ = _
                  rw [hres.out]; exact (leafR_open (Or.inr rfl) (Or.inl Hf.out)).symm
                clear hres hfd
                go_wp2_with (first | (go_at_call 65; refine (entriesMayBe_any _ _ _ _ _ _ _ (e1.go (hbel _) (Nat.le_refl _) (by omega)) ez (by omega) hhigh).mono ?_; rintro e w2 ⟨rfl, hb2⟩))
                go_ret
                exact ⟨ret_bool E0.out, (hk0 _).trans (Kept.of_below hb2), fun _ => by rw [EL.out]; exact (hs0 _).kept (hb2.block q (by simp; omega)) (hb2.block mb (by simp; omega))⟩
              · have hf1 : (0 : Int) < (buf.length : Int) := by have := List.length_pos_iff.2 hf; omega
                have E0 : Hid (false = res) := by
                  show _ = _
                  rw [hres.out, eq_comm, Bool.eq_false_iff]
                  intro h
                  simp only [leafR, Bool.and_eq_true, leafB_iff] at h
                  exact hf h.2.2.2.1
                clear hres hfd
                go_wp2_with fail
                go_ret
                exact ⟨ret_bool E0.out, hk0 _, fun h => absurd (E0.out.trans h) (by simp)⟩
            · have hd1' : (0 : Int) < (kids.length : Int) := by have := List.length_pos_iff.2 hd; omega
              have E0 : Hid (false = res) := by
                show _ = _
                rw [hres.out, eq_comm, Bool.eq_false_iff]
                intro h
                simp only [leafR, Bool.and_eq_true, leafB_iff] at h
                exact hd h.2.2.1
              clear hres hfd
              go_wp2_with fail
              go_ret
              exact ⟨ret_bool E0.out, hk0 _, fun h => absurd (E0.out.trans h) (by simp)⟩
          · have hk1 : (0 : Int) < (keys.length : Int) := by have := List.length_pos_iff.2 hk; omega
            have E0 : Hid (false = res) := by
              show _ = _
              rw [hres.out, eq_comm, Bool.eq_false_iff]
              intro h
              simp only [leafR, Bool.and_eq_true, leafB_iff] at h
              exact hk h.2.1
            clear hres hfd
            go_wp2_with fail
            go_ret
            exact ⟨ret_bool E0.out, hk0 _, fun h => absurd (E0.out.trans h) (by simp)⟩
      · have hLd' : (d != L) = true := by simp; exact fun e => hLd e.symm
        have E0 : Hid (false = res) := by
          show _ = _
          rw [hres.out, eq_comm, Bool.eq_false_iff]
          intro h
          simp only [leafR, Bool.and_eq_true, leafB_iff] at h
          have := h.1; simp at this; rcases this with h | h; exact hL0 h; exact hLd h
        clear hres hfd
        go_wp2_with fail
        go_ret
        exact ⟨ret_bool E0.out, hk0 _, fun h => absurd (E0.out.trans h) (by simp)⟩

end Go.Proofs.YtlojfgdpmaigmafDoor

/- The survey's loop over a node's kids. -/
namespace Go.Proofs.YtlojfgdpmaigmafDoor
open Go.RowKit Plain Go.Maps

set_option maxRecDepth 20000 in
set_option maxHeartbeats 4000000 in
theorem surKids_any (b o C : Nat) (ps : List PN) (q mb B f m : Nat) (low high d L : Int) (S : St) (w : World) (leaf : Bool) (eA : Option Addr) (eC : Nat) (ents : List En) (kA : Option Addr) (kC : Nat) (keys : List Int) (dA : Option Addr) (dC : Nat) (kids : List Int) (bA : Option Addr) (bC : Nat) (buf : List En)
    (hm : m < ps.length) (hN : NodesAt B w (some ⟨b, o, none⟩) ps) (hat : PnAt w b (o + m * 5) ⟨leaf, eA, eC, ents, kA, kC, keys, dA, dC, kids, bA, bC, buf⟩) (ok : PN.ok B w ⟨leaf, eA, eC, ents, kA, kC, keys, dA, dC, kids, bA, bC, buf⟩) (hkw : ∀ z ∈ keys, z ≤ 9223372036854775807)
    (hbl : b < B) (hBq : B ≤ q) (hBm : B ≤ mb) (hS : Sur w q mb (some ⟨b, o, none⟩) ps.length C S L) (hp : ((m : Int), d) ∈ S) (hst : StOk ps.length S) (hlow : 0 ≤ low) (hhigh : high ≤ 9223372036854775807) (hd1 : 1 ≤ d) (hd2 : d ≤ 12) (hf : f + 1 ≤ 12)
    (ih : Hid (∀ (n lo hi L' : Int) (S' : St) (w' : World), NodesAt B w' (some ⟨b, o, none⟩) ps → Sur w' q mb (some ⟨b, o, none⟩) ps.length C S' L' → StOk ps.length S' → 0 ≤ lo → hi ≤ 9223372036854775807 →
      Calls Tryd.prog 39 #[.pointer (some ⟨q, 0, none⟩), .int .i64 n, .int .i64 (d + 1), .int .i64 lo, .int .i64 hi] w'
        fun e w'' => e = .returned (.bool (resN L' (W (ps.map PN.nd) f n lo hi S'))) ∧ Kept [q, mb] w' w'' ∧ ∀ S'' l, W (ps.map PN.nd) f n lo hi S' = some (S'', l) → okL L' l = true → Sur w'' q mb (some ⟨b, o, none⟩) ps.length C S'' (nextL L' l)))
    (h1 : ents.length = 0) (h2 : 2 ≤ kids.length) (h3 : kids.length ≤ 4) (h4 : keys.length + 1 = kids.length) (h5 : (decide ((buf.length : Int) ≤ 8) && entsB buf low high) = true) (R : Option (St × List Int)) (hR : Hid (R = Wk (W (ps.map PN.nd) f) kids keys low high S)) :
    Calls Tryd.prog 54 #[.pointer (some ⟨q, 0, none⟩), .int .i64 (m : Int), .int .i64 low, .int .i64 high] w
      fun e w' => e = .returned (.bool (resN L R)) ∧ Kept [q, mb] w w' ∧ ∀ S' l, R = some (S', l) → okL L l = true → Sur w' q mb (some ⟨b, o, none⟩) ps.length C S' (nextL L l) := by
  have hqs := hS.row.lt
  have hms := hS.map.lt
  have hz := hN.z
  obtain ⟨c0, c1, c2, c3, c4⟩ := hat
  simp only at c0 c1 c2 c3 c4
  obtain ⟨-, k1, t1, f1, -, -, -, -, ez, kz, dz, fz⟩ := ok
  simp only at k1 t1 f1 ez kz dz fz
  have q0 := hS.row.cell 0
  have q1 := hS.row.cell 1
  simp only [List.getElem?_cons_zero, List.getElem?_cons_succ] at q0 q1
  have hbw : b < w.heap.size := by omega
  have hbel : ∀ o1 : Obj, Below B w (w.alloc o1) := fun o1 => (Below.refl _ _).alloc (by omega) _
  have hk0 : ∀ o1 : Obj, Kept [q, mb] w (w.alloc o1) := fun o1 => (Kept.refl _ _).alloc _
  obtain rfl : ents = [] := List.eq_nil_of_length_eq_zero h1
  have h2' : ¬ (kids.length : Int) < 2 := by omega
  have h3' : ¬ (4 : Int) < (kids.length : Int) := by omega
  have h4b : ((keys.length : Int) != (kids.length : Int) - 1) = false := by simp; omega
  have HH : Hid (f + 1 ≤ 12 ∧ keys.length + 1 = kids.length ∧ StOk ps.length S) := ⟨hf, h4, hst⟩
  clear h1 h4 hst hf
  go_enter Tryd.func54, Tryd.ntmps54
  go_wp2_with (first | (go_at_call 65; refine (entriesMayBe_any _ _ _ _ _ _ _ (f1.go (hbel _) (Nat.le_refl _) (by omega)) fz (by omega) hhigh).mono ?_; rintro e w2 ⟨rfl, hb2⟩; have hc2 := (bcells hb2).1))
  have hK2 : Kept [q, mb] w w2 := (hk0 _).trans (Kept.of_below hb2)
  have hS2 : Sur w2 q mb (some ⟨b, o, none⟩) ps.length C S L := (hS.kept (Below.heap_alloc _ _ _ hqs) (Below.heap_alloc _ _ _ hms)).kept (hb2.block q (by simp; omega)) (hb2.block mb (by simp; omega))
  have rn : RowL w2 w.heap.size 74 [.bool leaf, .slice eA 0 eC, .slice kA keys.length kC, .slice dA kids.length dC, .slice bA buf.length bC] := (rowL_alloc w _ _).below hb2 (by simp)
  clear hbel hk0 hc2
  go_loopw [2, 55] (fun vl vi wr => ∃ (i : Nat) (S' : St) (acc : List Int) (lo L' : Int), i ≤ kids.length ∧ vl = .int .i64 lo ∧ vi = .int .i64 i ∧ KidsN (W (ps.map PN.nd) f) kids keys low high S L i lo S' acc L' ∧ Kept [q, mb] w2 wr ∧ Sur wr q mb (some ⟨b, o, none⟩) ps.length C S' L' ∧ StOk ps.length S' ∧ ((m : Int), d) ∈ S') (fun _ vi _ => kids.length - (intOf vi).toNat)
  case atStart => exact ⟨0, S, [], low, L, Nat.zero_le _, rfl, rfl, kidsN_start _ _ _ _ _ _ _, Kept.refl _ _, hS2, HH.out.2.2, hp⟩
  case round =>
    obtain ⟨i, S', acc, lo, L', hi, rfl, rfl, hka, hkw2, hsur, hok, hpm⟩ := hrel
    have hKw : Kept [q, mb] w wr := hK2.trans hkw2
    by_cases hlt : i < kids.length
    · have hBb : Below B w wr := hKw.below (by omega) (by simp; omega)
      have hNr := hN.below hBb (Nat.le_refl _)
      have rn' := hkw2.row rn (by simp; omega)
      have y2 := rn'.cell 2
      have y3 := rn'.cell 3
      simp only [List.getElem?_cons_zero, List.getElem?_cons_succ] at y2 y3
      have q0' := hsur.row.cell 0
      have q1' := hsur.row.cell 1
      simp only [List.getElem?_cons_zero, List.getElem?_cons_succ] at q0' q1'
      have hlk := hsur.map.look hpm (WalkArith.wf_i64 (by omega)) wr rfl
      obtain ⟨kb, ko, rfl, hkb, hkc⟩ := (t1.below hBb (Nat.le_refl _)).int hlt
      obtain ⟨kd, hkd⟩ : ∃ kd, kids[i] = kd := ⟨_, rfl⟩
      rw [hkd] at hkc
      have HKD : Hid (kids[i] = kd) := hkd
      clear hkd
      have hf12 : f + 1 ≤ 12 := HH.out.1
      by_cases hik : i < keys.length
      · obtain ⟨qb, qo, rfl, hqb, hqc⟩ := (k1.below hBb (Nat.le_refl _)).int hik
        have HT : Hid (toAt keys high i = keys[i]) := by show _ = _; simp [toAt, hik]
        have hTle := hkw _ (List.getElem_mem hik)
        generalize keys[i] = tk at *
        obtain ⟨bb, Hb'⟩ : ∃ bb, bb = resN L' (W (ps.map PN.nd) f kd lo tk S') := ⟨_, rfl⟩
        have con : ∀ w', NodesAt B w' (some ⟨b, o, none⟩) ps → Sur w' q mb (some ⟨b, o, none⟩) ps.length C S' L' → Calls Tryd.prog 39 #[.pointer (some ⟨q, 0, none⟩), .int .i64 kd, .int .i64 (d + 1), .int .i64 lo, .int .i64 tk] w'
            fun e w'' => e = .returned (.bool bb) ∧ Kept [q, mb] w' w'' ∧ ∀ S'' l, W (ps.map PN.nd) f kd lo tk S' = some (S'', l) → okL L' l = true → Sur w'' q mb (some ⟨b, o, none⟩) ps.length C S'' (nextL L' l) := by
          intro w' a1 a2
          rw [Hb']
          exact ih.out kd lo tk L' S' w' a1 a2 hok (by have := hka.low; omega) hTle
        have e1 : resN L' (W (ps.map PN.nd) f kids[i] lo (toAt keys high i) S') = bb := by rw [HT.out, HKD.out]; exact Hb'.symm
        cases hbb : bb with
        | false =>
          subst hbb
          have E0 : Hid (resN L R = false) := by show _ = _; rw [hR.out]; exact kidsN_no hka hlt e1
          clear hka HT ih e1 Hb'
          go_wp2_with (first | (go_at_call 39; refine (con _ hNr hsur).mono ?_; rintro e w3 ⟨rfl, hk3, hs3⟩))
          go_ret
          exact ⟨ret_bool E0.out.symm, hKw.trans hk3, fun S'' l h hk => by rw [h] at E0; exact absurd (hk.symm.trans E0.out) (by simp)⟩
        | true =>
          subst hbb
          have HX : Hid (∃ S1 l1, W (ps.map PN.nd) f kd lo tk S' = some (S1, l1) ∧ okL L' l1 = true ∧ KidsN (W (ps.map PN.nd) f) kids keys low high S L (i + 1) tk S1 (acc ++ l1) (nextL L' l1) ∧ StOk ps.length S1 ∧ ∀ p ∈ S', p ∈ S1) := by
            obtain ⟨S1, l1, g1, g2, g3⟩ := kidsN_next (W_ds f (by omega)) (W_low f) hka hlt e1
            rw [HT.out, HKD.out] at g1
            rw [HT.out] at g3
            have g4 := W_st f _ _ _ _ _ _ g1 (by simpa using hok)
            simp only [List.length_map] at g4
            exact ⟨S1, l1, g1, g2, g3, g4⟩
          clear hka HT ih e1 Hb'
          go_wp2_with (first | (go_at_call 39; refine (con _ hNr hsur).mono ?_; rintro e w3 ⟨rfl, hk3, hs3⟩))
          go_roundw
          case rel =>
            go_light
            obtain ⟨S1, l1, g1, g2, g3, g4, g5⟩ := HX.out
            exact ⟨i + 1, S1, acc ++ l1, tk, nextL L' l1, by omega, rfl, by go_num, g3, hkw2.trans hk3, hs3 S1 l1 g1 g2, g4, g5 _ hpm⟩
          case measure => simp [intOf]; omega
      · have HT : Hid (toAt keys high i = high) := by show _ = _; simp [toAt, hik]
        have hTle := hhigh
        obtain ⟨bb, Hb'⟩ : ∃ bb, bb = resN L' (W (ps.map PN.nd) f kd lo high S') := ⟨_, rfl⟩
        have con : ∀ w', NodesAt B w' (some ⟨b, o, none⟩) ps → Sur w' q mb (some ⟨b, o, none⟩) ps.length C S' L' → Calls Tryd.prog 39 #[.pointer (some ⟨q, 0, none⟩), .int .i64 kd, .int .i64 (d + 1), .int .i64 lo, .int .i64 high] w'
            fun e w'' => e = .returned (.bool bb) ∧ Kept [q, mb] w' w'' ∧ ∀ S'' l, W (ps.map PN.nd) f kd lo high S' = some (S'', l) → okL L' l = true → Sur w'' q mb (some ⟨b, o, none⟩) ps.length C S'' (nextL L' l) := by
          intro w' a1 a2
          rw [Hb']
          exact ih.out kd lo high L' S' w' a1 a2 hok (by have := hka.low; omega) hTle
        have e1 : resN L' (W (ps.map PN.nd) f kids[i] lo (toAt keys high i) S') = bb := by rw [HT.out, HKD.out]; exact Hb'.symm
        cases hbb : bb with
        | false =>
          subst hbb
          have E0 : Hid (resN L R = false) := by show _ = _; rw [hR.out]; exact kidsN_no hka hlt e1
          clear hka HT ih e1 Hb'
          go_wp2_with (first | (go_at_call 39; refine (con _ hNr hsur).mono ?_; rintro e w3 ⟨rfl, hk3, hs3⟩))
          go_ret
          exact ⟨ret_bool E0.out.symm, hKw.trans hk3, fun S'' l h hk => by rw [h] at E0; exact absurd (hk.symm.trans E0.out) (by simp)⟩
        | true =>
          subst hbb
          have HX : Hid (∃ S1 l1, W (ps.map PN.nd) f kd lo high S' = some (S1, l1) ∧ okL L' l1 = true ∧ KidsN (W (ps.map PN.nd) f) kids keys low high S L (i + 1) high S1 (acc ++ l1) (nextL L' l1) ∧ StOk ps.length S1 ∧ ∀ p ∈ S', p ∈ S1) := by
            obtain ⟨S1, l1, g1, g2, g3⟩ := kidsN_next (W_ds f (by omega)) (W_low f) hka hlt e1
            rw [HT.out, HKD.out] at g1
            rw [HT.out] at g3
            have g4 := W_st f _ _ _ _ _ _ g1 (by simpa using hok)
            simp only [List.length_map] at g4
            exact ⟨S1, l1, g1, g2, g3, g4⟩
          clear hka HT ih e1 Hb'
          go_wp2_with (first | (go_at_call 39; refine (con _ hNr hsur).mono ?_; rintro e w3 ⟨rfl, hk3, hs3⟩))
          go_roundw
          case rel =>
            go_light
            obtain ⟨S1, l1, g1, g2, g3, g4, g5⟩ := HX.out
            exact ⟨i + 1, S1, acc ++ l1, high, nextL L' l1, by omega, rfl, by go_num, g3, hkw2.trans hk3, hs3 S1 l1 g1 g2, g4, g5 _ hpm⟩
          case measure => simp [intOf]; omega
    · obtain rfl : i = kids.length := by omega
      have HE : Hid (Wk (W (ps.map PN.nd) f) kids keys low high S = some (S', acc) ∧ resN L (Wk (W (ps.map PN.nd) f) kids keys low high S) = true ∧ nextL L acc = L') := kidsN_end hka rfl
      clear hka ih
      go_wp2
      go_ret
      obtain ⟨a1, a2, a3⟩ := HE.out
      rw [hR.out, a2, a1]
      exact ⟨rfl, hKw, fun S'' l h _ => by cases h; rw [a3]; exact hsur⟩

end Go.Proofs.YtlojfgdpmaigmafDoor

/- The survey's nodes that are no leaves. -/
namespace Go.Proofs.YtlojfgdpmaigmafDoor
open Go.RowKit Plain Go.Maps

set_option maxRecDepth 20000 in
set_option maxHeartbeats 4000000 in
theorem surInner_any (b o C : Nat) (ps : List PN) (q mb B f m : Nat) (low high d L : Int) (S : St) (w : World) (leaf : Bool) (eA : Option Addr) (eC : Nat) (ents : List En) (kA : Option Addr) (kC : Nat) (keys : List Int) (dA : Option Addr) (dC : Nat) (kids : List Int) (bA : Option Addr) (bC : Nat) (buf : List En)
    (hm : m < ps.length) (hN : NodesAt B w (some ⟨b, o, none⟩) ps) (hat : PnAt w b (o + m * 5) ⟨leaf, eA, eC, ents, kA, kC, keys, dA, dC, kids, bA, bC, buf⟩) (ok : PN.ok B w ⟨leaf, eA, eC, ents, kA, kC, keys, dA, dC, kids, bA, bC, buf⟩) (hkw : ∀ z ∈ keys, z ≤ 9223372036854775807)
    (hbl : b < B) (hBq : B ≤ q) (hBm : B ≤ mb) (hS : Sur w q mb (some ⟨b, o, none⟩) ps.length C S L) (hp : ((m : Int), d) ∈ S) (hst : StOk ps.length S) (hlow : 0 ≤ low) (hhigh : high ≤ 9223372036854775807) (hd1 : 1 ≤ d) (hd2 : d ≤ 12) (hf : f + 1 ≤ 12)
    (ih : Hid (∀ (n lo hi L' : Int) (S' : St) (w' : World), NodesAt B w' (some ⟨b, o, none⟩) ps → Sur w' q mb (some ⟨b, o, none⟩) ps.length C S' L' → StOk ps.length S' → 0 ≤ lo → hi ≤ 9223372036854775807 →
      Calls Tryd.prog 39 #[.pointer (some ⟨q, 0, none⟩), .int .i64 n, .int .i64 (d + 1), .int .i64 lo, .int .i64 hi] w'
        fun e w'' => e = .returned (.bool (resN L' (W (ps.map PN.nd) f n lo hi S'))) ∧ Kept [q, mb] w' w'' ∧ ∀ S'' l, W (ps.map PN.nd) f n lo hi S' = some (S'', l) → okL L' l = true → Sur w'' q mb (some ⟨b, o, none⟩) ps.length C S'' (nextL L' l)))
    (R : Option (St × List Int)) (hR : Hid (R = if innerB ⟨leaf, ents, keys, kids, buf⟩ low high = true then Wk (W (ps.map PN.nd) f) kids keys low high S else none)) :
    Calls Tryd.prog 54 #[.pointer (some ⟨q, 0, none⟩), .int .i64 (m : Int), .int .i64 low, .int .i64 high] w
      fun e w' => e = .returned (.bool (resN L R)) ∧ Kept [q, mb] w w' ∧ ∀ S' l, R = some (S', l) → okL L l = true → Sur w' q mb (some ⟨b, o, none⟩) ps.length C S' (nextL L l) := by
  have hat0 := hat
  have ok0 := ok
  have hqs := hS.row.lt
  have hms := hS.map.lt
  have hz := hN.z
  obtain ⟨c0, c1, c2, c3, c4⟩ := hat
  simp only at c0 c1 c2 c3 c4
  obtain ⟨-, k1, t1, f1, -, -, -, -, ez, kz, dz, fz⟩ := ok
  simp only at k1 t1 f1 ez kz dz fz
  have q0 := hS.row.cell 0
  have q1 := hS.row.cell 1
  simp only [List.getElem?_cons_zero, List.getElem?_cons_succ] at q0 q1
  have hbw : b < w.heap.size := by omega
  have hbel : ∀ o1 : Obj, Below B w (w.alloc o1) := fun o1 => (Below.refl _ _).alloc (by omega) _
  have hk0 : ∀ o1 : Obj, Kept [q, mb] w (w.alloc o1) := fun o1 => (Kept.refl _ _).alloc _
  by_cases h1 : ents = []
  · subst h1
    by_cases h2 : kids.length < 2
    · have h2' : (kids.length : Int) < 2 := by omega
      have E0 : Hid (R = none) := by
        show _ = _
        rw [hR.out, if_neg]
        intro hi
        have hi' := innerB_kids hi
        simp only at hi'
        omega
      rw [E0.out]
      clear hR ih hst
      go_enter Tryd.func54, Tryd.ntmps54
      go_wp2_with (first | (go_at_call 65; refine (entriesMayBe_any _ _ _ _ _ _ _ (f1.go (hbel _) (Nat.le_refl _) (by omega)) fz (by omega) hhigh).mono ?_; rintro e w2 ⟨rfl, hb2⟩))
      go_ret
      first | exact ⟨rfl, hk0 _, fun _ _ h => by cases h⟩ | exact ⟨rfl, hk0 _⟩
    · have h2' : ¬ (kids.length : Int) < 2 := by omega
      by_cases h3 : 4 < kids.length
      · have h3' : (4 : Int) < (kids.length : Int) := by omega
        have E0 : Hid (R = none) := by
          show _ = _
          rw [hR.out, if_neg]
          intro hi
          have hi' := innerB_kids hi
          simp only at hi'
          omega
        rw [E0.out]
        clear hR ih hst
        go_enter Tryd.func54, Tryd.ntmps54
        go_wp2_with (first | (go_at_call 65; refine (entriesMayBe_any _ _ _ _ _ _ _ (f1.go (hbel _) (Nat.le_refl _) (by omega)) fz (by omega) hhigh).mono ?_; rintro e w2 ⟨rfl, hb2⟩))
        go_ret
        first | exact ⟨rfl, hk0 _, fun _ _ h => by cases h⟩ | exact ⟨rfl, hk0 _⟩
      · have h3' : ¬ (4 : Int) < (kids.length : Int) := by omega
        by_cases h4 : keys.length + 1 = kids.length
        · have h4' : (keys.length : Int) = (kids.length : Int) - 1 := by omega
          have h4b : ((keys.length : Int) != (kids.length : Int) - 1) = false := by simp; omega
          have H4 : Hid (keys.length + 1 = kids.length) := h4
          clear h4
          by_cases h5 : (decide ((buf.length : Int) ≤ 8) && entsB buf low high) = true
          · have h5x : buf.length ≤ 8 ∧ entsB buf low high = true := by simp at h5; exact ⟨by omega, h5.2⟩
            have hI : innerB ⟨leaf, [], keys, kids, buf⟩ low high = true := by
              simp only [innerB, Bool.and_eq_true, decide_eq_true_eq, beq_iff_eq, List.isEmpty_iff]
              exact ⟨⟨⟨⟨⟨trivial, by omega⟩, by omega⟩, H4.out⟩, h5x.1⟩, h5x.2⟩
            refine surKids_any b o C ps q mb B f m low high d L S w leaf eA eC [] kA kC keys dA dC kids bA bC buf hm hN hat0 ok0 hkw hbl hBq hBm hS hp hst hlow hhigh hd1 hd2 hf ih rfl (by omega) (by omega) H4.out h5 R ?_
            show _ = _
            rw [hR.out, if_pos hI]
          · have h5' : (decide ((buf.length : Int) ≤ 8) && entsB buf low high) = false := by simpa using h5
            have E0 : Hid (R = none) := by
              show _ = _
              rw [hR.out, if_neg]
              intro hi
              have hi' := innerB_kids hi
              simp only at hi'
              apply h5; simp; exact ⟨by omega, hi'.2.2.2.2.2⟩
            clear h5
            rw [E0.out]
            clear hR ih hst
            go_enter Tryd.func54, Tryd.ntmps54
            go_wp2_with (first | (go_at_call 65; refine (entriesMayBe_any _ _ _ _ _ _ _ (f1.go (hbel _) (Nat.le_refl _) (by omega)) fz (by omega) hhigh).mono ?_; rintro e w2 ⟨rfl, hb2⟩))
            go_ret
            first | exact ⟨rfl, (hk0 _).trans (Kept.of_below hb2), fun _ _ h => by cases h⟩ | exact ⟨rfl, (hk0 _).trans (Kept.of_below hb2)⟩
        · have h4' : ¬ (keys.length : Int) = (kids.length : Int) - 1 := by omega
          have E0 : Hid (R = none) := by
            show _ = _
            rw [hR.out, if_neg]
            intro hi
            have hi' := innerB_kids hi
            simp only at hi'
            omega
          rw [E0.out]
          clear hR ih hst
          go_enter Tryd.func54, Tryd.ntmps54
          go_wp2_with (first | (go_at_call 65; refine (entriesMayBe_any _ _ _ _ _ _ _ (f1.go (hbel _) (Nat.le_refl _) (by omega)) fz (by omega) hhigh).mono ?_; rintro e w2 ⟨rfl, hb2⟩))
          go_ret
          first | exact ⟨rfl, hk0 _, fun _ _ h => by cases h⟩ | exact ⟨rfl, hk0 _⟩
  · have h1' : (0 : Int) < (ents.length : Int) := by have := List.length_pos_iff.2 h1; omega
    have E0 : Hid (R = none) := by
      show _ = _
      rw [hR.out, if_neg]
      intro hi
      have hi' := innerB_kids hi
      simp only at hi'
      exact h1 hi'.1
    rw [E0.out]
    clear hR ih hst
    go_enter Tryd.func54, Tryd.ntmps54
    go_wp2_with (first | (go_at_call 65; refine (entriesMayBe_any _ _ _ _ _ _ _ (f1.go (hbel _) (Nat.le_refl _) (by omega)) fz (by omega) hhigh).mono ?_; rintro e w2 ⟨rfl, hb2⟩))
    go_ret
    first | exact ⟨rfl, hk0 _, fun _ _ h => by cases h⟩ | exact ⟨rfl, hk0 _⟩

end Go.Proofs.YtlojfgdpmaigmafDoor

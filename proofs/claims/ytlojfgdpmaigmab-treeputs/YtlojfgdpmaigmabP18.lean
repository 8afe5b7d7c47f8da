/- The survey's leaf. -/
import Derived.Test.YtlojfgdpmaigmabP17
import Derived.Deep.DeepCutAuto
import Derived.Test.YtlojfgdpmaigmabRows
import Derived.WalkKit
import Derived.ProofKit
import Derived.OpenShut
import Derived.Below
import Derived.ChangeOld
import Derived.Test.YtlojfgdpmaigmabP01
import Derived.Deep.Slices
import Derived.SizedLaws
namespace Go.Proofs.Ytlojfgdpmaigmab
open Go.RowKit Plain Go.Maps

structure Sur (w : World) (q mb : Nat) (A : Option Addr) (N C : Nat) (S : St) (L : Int) : Prop where
  row : RowL w q 53 [.slice A N C, .map (some mb), .int .i64 L]
  map : MapIs w mb S
  ne : q ≠ mb

theorem Sur.kept {w w' : World} {q mb : Nat} {A : Option Addr} {N C : Nat} {S : St} {L : Int} (h : Sur w q mb A N C S L) (e1 : w'.heap[q]? = w.heap[q]?) (e2 : w'.heap[mb]? = w.heap[mb]?) : Sur w' q mb A N C S L :=
  ⟨h.row.of_block e1, h.map.of_block e2, h.ne⟩

def leafR (x : Nd) (low high : Int) (f : Nat) (L d : Int) : Bool := decide (L = 0 ∨ L = d) && leafB x low high f

theorem leafR_open {leaf : Bool} {ents : List En} {low high L d : Int} {f : Nat} (hL : L = 0 ∨ L = d) (hc : f = 11 ∨ ents ≠ []) : leafR ⟨leaf, ents, [], [], []⟩ low high f L d = (decide ((ents.length : Int) ≤ 6) && entsB ents low high) := by
  rw [Bool.eq_iff_iff]
  unfold leafR
  rw [Bool.and_eq_true, leafB_iff, Bool.and_eq_true, decide_eq_true_eq, decide_eq_true_eq]
  constructor
  · rintro ⟨_, _, _, _, h, _, h'⟩
    simp only at h
    exact ⟨by omega, h'⟩
  · rintro ⟨h, h'⟩
    exact ⟨hL, rfl, rfl, rfl, by show ents.length ≤ 6; omega, hc, h'⟩

set_option maxRecDepth 20000 in
set_option maxHeartbeats 4000000 in
theorem surLeaf_any (b o C N q mb B f m : Nat) (low high d L : Int) (S : St) (w : World) (leaf : Bool) (eA : Option Addr) (eC : Nat) (ents : List En) (kA : Option Addr) (kC : Nat) (keys : List Int) (dA : Option Addr) (dC : Nat) (kids : List Int) (bA : Option Addr) (bC : Nat) (buf : List En)
    (hm : m < N) (hz : N * 104 ≤ 140737488351232) (hat : PnAt w b (o + m * 5) ⟨leaf, eA, eC, ents, kA, kC, keys, dA, dC, kids, bA, bC, buf⟩) (ok : PN.ok B w ⟨leaf, eA, eC, ents, kA, kC, keys, dA, dC, kids, bA, bC, buf⟩)
    (hbl : b < B) (hBq : B ≤ q) (hS : Sur w q mb (some ⟨b, o, none⟩) N C S L) (hp : ((m : Int), d) ∈ S) (hlow : 0 ≤ low) (hhigh : high ≤ 9223372036854775807) (hd1 : 1 ≤ d) (hd2 : d ≤ 12) (hfd : f = 11 ↔ d = 1) (res : Bool) (hres : Hid (res = leafR ⟨leaf, ents, keys, kids, buf⟩ low high f L d)) (L' : Int) (hL' : Hid (L' = if L = 0 then d else L)) :
    Calls Try.prog 45 #[.pointer (some ⟨q, 0, none⟩), .int .i64 (m : Int), .int .i64 low, .int .i64 high] w
      fun e w' => e = .returned (.bool res) ∧ Kept [q, mb] w w' ∧ (res = true → Sur w' q mb (some ⟨b, o, none⟩) N C S L') := by
  have hqs := hS.row.lt
  have hms := hS.map.lt
  obtain ⟨c0, c1, c2, c3, c4⟩ := hat
  simp only at c0 c1 c2 c3 c4
  obtain ⟨e1, -, -, -, -, -, -, -, ez, kz, dz, fz⟩ := ok
  simp only at e1 ez kz dz fz
  have q0 := hS.row.cell 0
  have q1 := hS.row.cell 1
  have q2 := hS.row.cell 2
  have qf := hS.row.frozen 2
  simp only [List.getElem?_cons_zero, List.getElem?_cons_succ] at q0 q1 q2
  have hbw : b < w.heap.size := by omega
  have hL := hS.map.look hp (WalkArith.wf_i64 (by omega))
  have i0 : (0 : Int) ≤ (m : Int) := by omega
  have i1 : (m : Int) < (N : Int) := by omega
  go_enter Try.func45, Try.ntmps45
  go_upto_region 1 with fail
  go_cut [9, 10] (fun v9 v10 wc => v9 = .pointer (some ⟨w.heap.size, 0, none⟩) ∧ v10 = .int .i64 d ∧ wc = (w.alloc (.cells #[.bool leaf, .slice eA ents.length eC, .slice kA keys.length kC, .slice dA kids.length dC, .slice bA buf.length bC] 58)).drew)
  case first =>
    go_region_held3 (fun w' => w'.cell? ⟨q, 0, none⟩ = some (.slice (some ⟨b, o, none⟩) N C) ∧ w'.cell? ⟨q, 1, none⟩ = some (.map (some mb)) ∧ w'.cell? ⟨b, o + m * 5, none⟩ = some (.bool leaf) ∧ w'.cell? ⟨b, o + m * 5 + 1, none⟩ = some (.slice eA ents.length eC) ∧ w'.cell? ⟨b, o + m * 5 + 2, none⟩ = some (.slice kA keys.length kC) ∧ w'.cell? ⟨b, o + m * 5 + 3, none⟩ = some (.slice dA kids.length dC) ∧ w'.cell? ⟨b, o + m * 5 + 4, none⟩ = some (.slice bA buf.length bC) ∧ w'.heap[mb]? = w.heap[mb]?) (((try go_split_ands); refine ⟨by go_keep, by go_keep, by go_keep, by go_keep, by go_keep, by go_keep, by go_keep, ?_⟩; first | rfl | assumption | exact Below.heap_alloc w _ mb hms)) (fail)
    all_goals go_wp2
    all_goals go_meet
    all_goals exact ⟨rfl, rfl, rfl⟩
  case rest =>
    obtain ⟨rfl, rfl, rfl⟩ := hcut
    by_cases hL0 : L = 0
    · subst hL0
      have EL : Hid (L' = d) := by show _ = _; rw [hL'.out, if_pos rfl]
      have hbel : ∀ o1 : Obj, Below B w (((w.setCell ⟨q, 2, none⟩ (.int .i64 d)).alloc o1).drew) := fun o1 => (((Below.refl _ _).setCell (p := ⟨q, 2, none⟩) hBq _).alloc (by simp; omega) _).drew
      have hk0 : ∀ o1 : Obj, Kept [q, mb] w (((w.setCell ⟨q, 2, none⟩ (.int .i64 d)).alloc o1).drew) := fun o1 => (((Kept.refl _ _).set (.inl (by simp)) _).alloc _).drew
      have hs0 : ∀ o1 : Obj, Sur (((w.setCell ⟨q, 2, none⟩ (.int .i64 d)).alloc o1).drew) q mb (some ⟨b, o, none⟩) N C S d := fun o1 => by
        have r1 := hS.row.set 2 (.int .i64 d)
        refine ⟨r1.of_block (Below.heap_alloc _ _ _ (by simpa using hqs)), hS.map.of_block ?_, hS.ne⟩
        exact (Below.heap_alloc _ _ _ (by simpa using hms)).trans (Below.heap_setCell _ _ _ _ (fun e => hS.ne e.symm))
      by_cases h1 : 1 < d
      · by_cases he : ents = []
        · subst he
          have E0 : Hid (false = res) := by
            show _ = _
            rw [hres.out, eq_comm, Bool.eq_false_iff]
            intro h
            simp only [leafR, Bool.and_eq_true, leafB_iff] at h
            rcases h.2.2.2.2.2.1 with h | h; have := hfd.1 h; omega; exact h rfl
          clear hres hfd
          go_wp2_with fail
          go_ret
          exact ⟨ret_bool E0.out, hk0 _, fun h => absurd (E0.out.trans h) (by simp)⟩
        · have he1 : ((ents.length : Int) == 0) = false := by have := List.length_pos_iff.2 he; rw [beq_eq_false_iff_ne]; omega
          by_cases hk : keys = []
          · subst hk
            by_cases hd : kids = []
            · subst hd
              by_cases hf : buf = []
              · subst hf
                have E0 : Hid ((decide ((ents.length : Int) ≤ 6) && entsB ents low high) = res) := by
                  show _ = _
                  rw [hres.out]; exact (leafR_open (Or.inl rfl) (Or.inr he)).symm
                clear hres hfd
                go_wp2_with (first | (go_at_call 64; refine (entriesMayBe_any _ _ _ _ _ _ _ (e1.go (hbel _) (Nat.le_refl _) (by omega)) ez (by omega) hhigh).mono ?_; rintro e w2 ⟨rfl, hb2⟩))
                go_ret
                exact ⟨ret_bool E0.out, (hk0 _).trans (Kept.of_below hb2), fun _ => by rw [EL.out]; exact (hs0 _).kept (hb2.block q (by simp; omega)) (hb2.block mb (by simp; omega))⟩
              · have hf1 : (0 : Int) < (buf.length : Int) := by have := List.length_pos_iff.2 hf; omega
                have E0 : Hid (false = res) := by
                  show _ = _
                  rw [hres.out, eq_comm, Bool.eq_false_iff]
                  intro h
                  simp only [leafR, Bool.and_eq_true, leafB_iff] at h
                  exact hf h.2.2.2.1
                clear hres hfd
                go_wp2_with fail
                go_ret
                exact ⟨ret_bool E0.out, hk0 _, fun h => absurd (E0.out.trans h) (by simp)⟩
            · have hd1' : (0 : Int) < (kids.length : Int) := by have := List.length_pos_iff.2 hd; omega
              have E0 : Hid (false = res) := by
                show _ = _
                rw [hres.out, eq_comm, Bool.eq_false_iff]
                intro h
                simp only [leafR, Bool.and_eq_true, leafB_iff] at h
                exact hd h.2.2.1
              clear hres hfd
              go_wp2_with fail
              go_ret
              exact ⟨ret_bool E0.out, hk0 _, fun h => absurd (E0.out.trans h) (by simp)⟩
          · have hk1 : (0 : Int) < (keys.length : Int) := by have := List.length_pos_iff.2 hk; omega
            have E0 : Hid (false = res) := by
              show _ = _
              rw [hres.out, eq_comm, Bool.eq_false_iff]
              intro h
              simp only [leafR, Bool.and_eq_true, leafB_iff] at h
              exact hk h.2.1
            clear hres hfd
            go_wp2_with fail
            go_ret
            exact ⟨ret_bool E0.out, hk0 _, fun h => absurd (E0.out.trans h) (by simp)⟩
      · have hd11 : d = 1 := by omega
        have hf11 := hfd.2 hd11
        have Hf : Hid (f = 11) := hf11
        clear hf11
        have Hd : Hid (d = 1) := hd11
        clear hd11
        by_cases hk : keys = []
        · subst hk
          by_cases hd : kids = []
          · subst hd
            by_cases hf : buf = []
            · subst hf
              have E0 : Hid ((decide ((ents.length : Int) ≤ 6) && entsB ents low high) = res) := by
                show _ = _
                rw [hres.out]; exact (leafR_open (Or.inl rfl) (Or.inl Hf.out)).symm
              clear hres hfd
              go_wp2_with (first | (go_at_call 64; refine (entriesMayBe_any _ _ _ _ _ _ _ (e1.go (hbel _) (Nat.le_refl _) (by omega)) ez (by omega) hhigh).mono ?_; rintro e w2 ⟨rfl, hb2⟩))
              go_ret
              exact ⟨ret_bool E0.out, (hk0 _).trans (Kept.of_below hb2), fun _ => by rw [EL.out]; exact (hs0 _).kept (hb2.block q (by simp; omega)) (hb2.block mb (by simp; omega))⟩
            · have hf1 : (0 : Int) < (buf.length : Int) := by have := List.length_pos_iff.2 hf; omega
              have E0 : Hid (false = res) := by
                show _ = _
                rw [hres.out, eq_comm, Bool.eq_false_iff]
                intro h
                simp only [leafR, Bool.and_eq_true, leafB_iff] at h
                exact hf h.2.2.2.1
              clear hres hfd
              go_wp2_with fail
              go_ret
              exact ⟨ret_bool E0.out, hk0 _, fun h => absurd (E0.out.trans h) (by simp)⟩
          · have hd1' : (0 : Int) < (kids.length : Int) := by have := List.length_pos_iff.2 hd; omega
            have E0 : Hid (false = res) := by
              show _ = _
              rw [hres.out, eq_comm, Bool.eq_false_iff]
              intro h
              simp only [leafR, Bool.and_eq_true, leafB_iff] at h
              exact hd h.2.2.1
            clear hres hfd
            go_wp2_with fail
            go_ret
            exact ⟨ret_bool E0.out, hk0 _, fun h => absurd (E0.out.trans h) (by simp)⟩
        · have hk1 : (0 : Int) < (keys.length : Int) := by have := List.length_pos_iff.2 hk; omega
          have E0 : Hid (false = res) := by
            show _ = _
            rw [hres.out, eq_comm, Bool.eq_false_iff]
            intro h
            simp only [leafR, Bool.and_eq_true, leafB_iff] at h
            exact hk h.2.1
          clear hres hfd
          go_wp2_with fail
          go_ret
          exact ⟨ret_bool E0.out, hk0 _, fun h => absurd (E0.out.trans h) (by simp)⟩
    · have hbel : ∀ o1 : Obj, Below B w ((w.alloc o1).drew) := fun o1 => ((Below.refl _ _).alloc (by omega) _).drew
      have hk0 : ∀ o1 : Obj, Kept [q, mb] w ((w.alloc o1).drew) := fun o1 => ((Kept.refl _ _).alloc _).drew
      have hs0 : ∀ o1 : Obj, Sur ((w.alloc o1).drew) q mb (some ⟨b, o, none⟩) N C S L := fun o1 => hS.kept (Below.heap_alloc _ _ _ hqs) (Below.heap_alloc _ _ _ hms)
      have hL0' : (L == 0) = false := by simpa using hL0
      by_cases hLd : L = d
      · have hLd2 : d = L := hLd.symm
        subst hLd2
        clear hLd
        have EL : Hid (L' = d) := by show _ = _; rw [hL'.out, if_neg hL0]
        have HL0 : Hid (¬ d = 0) := hL0
        clear hL0
        by_cases h1 : 1 < d
        · by_cases he : ents = []
          · subst he
            have E0 : Hid (false = res) := by
              show _ = _
              rw [hres.out, eq_comm, Bool.eq_false_iff]
              intro h
              simp only [leafR, Bool.and_eq_true, leafB_iff] at h
              rcases h.2.2.2.2.2.1 with h | h; have := hfd.1 h; omega; exact h rfl
            clear hres hfd
            go_wp2_with fail
            go_ret
            exact ⟨ret_bool E0.out, hk0 _, fun h => absurd (E0.out.trans h) (by simp)⟩
          · have he1 : ((ents.length : Int) == 0) = false := by have := List.length_pos_iff.2 he; rw [beq_eq_false_iff_ne]; omega
            by_cases hk : keys = []
            · subst hk
              by_cases hd : kids = []
              · subst hd
                by_cases hf : buf = []
                · subst hf
                  have E0 : Hid ((decide ((ents.length : Int) ≤ 6) && entsB ents low high) = res) := by
                    show _ = _
                    rw [hres.out]; exact (leafR_open (Or.inr rfl) (Or.inr he)).symm
                  clear hres hfd
                  go_wp2_with (first | (go_at_call 64; refine (entriesMayBe_any _ _ _ _ _ _ _ (e1.go (hbel _) (Nat.le_refl _) (by omega)) ez (by omega) hhigh).mono ?_; rintro e w2 ⟨rfl, hb2⟩))
                  go_ret
                  exact ⟨ret_bool E0.out, (hk0 _).trans (Kept.of_below hb2), fun _ => by rw [EL.out]; exact (hs0 _).kept (hb2.block q (by simp; omega)) (hb2.block mb (by simp; omega))⟩
                · have hf1 : (0 : Int) < (buf.length : Int) := by have := List.length_pos_iff.2 hf; omega
                  have E0 : Hid (false = res) := by
                    show _ = _
                    rw [hres.out, eq_comm, Bool.eq_false_iff]
                    intro h
                    simp only [leafR, Bool.and_eq_true, leafB_iff] at h
                    exact hf h.2.2.2.1
                  clear hres hfd
                  go_wp2_with fail
                  go_ret
                  exact ⟨ret_bool E0.out, hk0 _, fun h => absurd (E0.out.trans h) (by simp)⟩
              · have hd1' : (0 : Int) < (kids.length : Int) := by have := List.length_pos_iff.2 hd; omega
                have E0 : Hid (false = res) := by
                  show _ = _
                  rw [hres.out, eq_comm, Bool.eq_false_iff]
                  intro h
                  simp only [leafR, Bool.and_eq_true, leafB_iff] at h
                  exact hd h.2.2.1
                clear hres hfd
                go_wp2_with fail
                go_ret
                exact ⟨ret_bool E0.out, hk0 _, fun h => absurd (E0.out.trans h) (by simp)⟩
            · have hk1 : (0 : Int) < (keys.length : Int) := by have := List.length_pos_iff.2 hk; omega
              have E0 : Hid (false = res) := by
                show _ = _
                rw [hres.out, eq_comm, Bool.eq_false_iff]
                intro h
                simp only [leafR, Bool.and_eq_true, leafB_iff] at h
                exact hk h.2.1
              clear hres hfd
              go_wp2_with fail
              go_ret
              exact ⟨ret_bool E0.out, hk0 _, fun h => absurd (E0.out.trans h) (by simp)⟩
        · have hd11 : d = 1 := by omega
          have hf11 := hfd.2 hd11
          have Hf : Hid (f = 11) := hf11
          clear hf11
          have Hd : Hid (d = 1) := hd11
          clear hd11
          by_cases hk : keys = []
          · subst hk
            by_cases hd : kids = []
            · subst hd
              by_cases hf : buf = []
              · subst hf
                have E0 : Hid ((decide ((ents.length : Int) ≤ 6) && entsB ents low high) = res) := by
                  show _ = _
                  rw [hres.out]; exact (leafR_open (Or.inr rfl) (Or.inl Hf.out)).symm
                clear hres hfd
                go_wp2_with (first | (go_at_call 64; refine (entriesMayBe_any _ _ _ _ _ _ _ (e1.go (hbel _) (Nat.le_refl _) (by omega)) ez (by omega) hhigh).mono ?_; rintro e w2 ⟨rfl, hb2⟩))
                go_ret
                exact ⟨ret_bool E0.out, (hk0 _).trans (Kept.of_below hb2), fun _ => by rw [EL.out]; exact (hs0 _).kept (hb2.block q (by simp; omega)) (hb2.block mb (by simp; omega))⟩
              · have hf1 : (0 : Int) < (buf.length : Int) := by have := List.length_pos_iff.2 hf; omega
                have E0 : Hid (false = res) := by
                  show _ = _
                  rw [hres.out, eq_comm, Bool.eq_false_iff]
                  intro h
                  simp only [leafR, Bool.and_eq_true, leafB_iff] at h
                  exact hf h.2.2.2.1
                clear hres hfd
                go_wp2_with fail
                go_ret
                exact ⟨ret_bool E0.out, hk0 _, fun h => absurd (E0.out.trans h) (by simp)⟩
            · have hd1' : (0 : Int) < (kids.length : Int) := by have := List.length_pos_iff.2 hd; omega
              have E0 : Hid (false = res) := by
                show _ = _
                rw [hres.out, eq_comm, Bool.eq_false_iff]
                intro h
                simp only [leafR, Bool.and_eq_true, leafB_iff] at h
                exact hd h.2.2.1
              clear hres hfd
              go_wp2_with fail
              go_ret
              exact ⟨ret_bool E0.out, hk0 _, fun h => absurd (E0.out.trans h) (by simp)⟩
          · have hk1 : (0 : Int) < (keys.length : Int) := by have := List.length_pos_iff.2 hk; omega
            have E0 : Hid (false = res) := by
              show _ = _
              rw [hres.out, eq_comm, Bool.eq_false_iff]
              intro h
              simp only [leafR, Bool.and_eq_true, leafB_iff] at h
              exact hk h.2.1
            clear hres hfd
            go_wp2_with fail
            go_ret
            exact ⟨ret_bool E0.out, hk0 _, fun h => absurd (E0.out.trans h) (by simp)⟩
      · have hLd' : (d != L) = true := by simp; exact fun e => hLd e.symm
        have E0 : Hid (false = res) := by
          show _ = _
          rw [hres.out, eq_comm, Bool.eq_false_iff]
          intro h
          simp only [leafR, Bool.and_eq_true, leafB_iff] at h
          have := h.1; simp at this; rcases this with h | h; exact hL0 h; exact hLd h
        clear hres hfd
        go_wp2_with fail
        go_ret
        exact ⟨ret_bool E0.out, hk0 _, fun h => absurd (E0.out.trans h) (by simp)⟩

end Go.Proofs.Ytlojfgdpmaigmab

/- The survey's loop over a node's kids. -/
namespace Go.Proofs.Ytlojfgdpmaigmab
open Go.RowKit Plain Go.Maps

set_option maxRecDepth 20000 in
set_option maxHeartbeats 4000000 in
theorem surKids_any (b o C : Nat) (ps : List PN) (q mb B f m : Nat) (low high d L : Int) (S : St) (w : World) (leaf : Bool) (eA : Option Addr) (eC : Nat) (ents : List En) (kA : Option Addr) (kC : Nat) (keys : List Int) (dA : Option Addr) (dC : Nat) (kids : List Int) (bA : Option Addr) (bC : Nat) (buf : List En)
    (hm : m < ps.length) (hN : NodesAt B w (some ⟨b, o, none⟩) ps) (hat : PnAt w b (o + m * 5) ⟨leaf, eA, eC, ents, kA, kC, keys, dA, dC, kids, bA, bC, buf⟩) (ok : PN.ok B w ⟨leaf, eA, eC, ents, kA, kC, keys, dA, dC, kids, bA, bC, buf⟩) (hkw : ∀ z ∈ keys, z ≤ 9223372036854775807)
    (hbl : b < B) (hBq : B ≤ q) (hBm : B ≤ mb) (hS : Sur w q mb (some ⟨b, o, none⟩) ps.length C S L) (hp : ((m : Int), d) ∈ S) (hst : StOk ps.length S) (hlow : 0 ≤ low) (hhigh : high ≤ 9223372036854775807) (hd1 : 1 ≤ d) (hd2 : d ≤ 12) (hf : f + 1 ≤ 12)
    (ih : Hid (∀ (n lo hi L' : Int) (S' : St) (w' : World), NodesAt B w' (some ⟨b, o, none⟩) ps → Sur w' q mb (some ⟨b, o, none⟩) ps.length C S' L' → StOk ps.length S' → 0 ≤ lo → hi ≤ 9223372036854775807 →
      Calls Try.prog 26 #[.pointer (some ⟨q, 0, none⟩), .int .i64 n, .int .i64 (d + 1), .int .i64 lo, .int .i64 hi] w'
        fun e w'' => e = .returned (.bool (resN L' (W (ps.map PN.nd) f n lo hi S'))) ∧ Kept [q, mb] w' w'' ∧ ∀ S'' l, W (ps.map PN.nd) f n lo hi S' = some (S'', l) → okL L' l = true → Sur w'' q mb (some ⟨b, o, none⟩) ps.length C S'' (nextL L' l)))
    (h1 : ents.length = 0) (h2 : 2 ≤ kids.length) (h3 : kids.length ≤ 4) (h4 : keys.length + 1 = kids.length) (h5 : (decide ((buf.length : Int) ≤ 8) && entsB buf low high) = true) (R : Option (St × List Int)) (hR : Hid (R = Wk (W (ps.map PN.nd) f) kids keys low high S)) :
    Calls Try.prog 46 #[.pointer (some ⟨q, 0, none⟩), .int .i64 (m : Int), .int .i64 low, .int .i64 high] w
      fun e w' => e = .returned (.bool (resN L R)) ∧ Kept [q, mb] w w' ∧ ∀ S' l, R = some (S', l) → okL L l = true → Sur w' q mb (some ⟨b, o, none⟩) ps.length C S' (nextL L l) := by
  have hqs := hS.row.lt
  have hms := hS.map.lt
  have hz := hN.z
  obtain ⟨c0, c1, c2, c3, c4⟩ := hat
  simp only at c0 c1 c2 c3 c4
  obtain ⟨-, k1, t1, f1, -, -, -, -, ez, kz, dz, fz⟩ := ok
  simp only at k1 t1 f1 ez kz dz fz
  have q0 := hS.row.cell 0
  have q1 := hS.row.cell 1
  simp only [List.getElem?_cons_zero, List.getElem?_cons_succ] at q0 q1
  have hbw : b < w.heap.size := by omega
  have hbel : ∀ o1 : Obj, Below B w (w.alloc o1) := fun o1 => (Below.refl _ _).alloc (by omega) _
  have hk0 : ∀ o1 : Obj, Kept [q, mb] w (w.alloc o1) := fun o1 => (Kept.refl _ _).alloc _
  obtain rfl : ents = [] := List.eq_nil_of_length_eq_zero h1
  have h2' : ¬ (kids.length : Int) < 2 := by omega
  have h3' : ¬ (4 : Int) < (kids.length : Int) := by omega
  have h4b : ((keys.length : Int) != (kids.length : Int) - 1) = false := by simp; omega
  have HH : Hid (f + 1 ≤ 12 ∧ keys.length + 1 = kids.length ∧ StOk ps.length S) := ⟨hf, h4, hst⟩
  clear h1 h4 hst hf
  go_enter Try.func46, Try.ntmps46
  go_wp2_with (first | (go_at_call 64; refine (entriesMayBe_any _ _ _ _ _ _ _ (f1.go (hbel _) (Nat.le_refl _) (by omega)) fz (by omega) hhigh).mono ?_; rintro e w2 ⟨rfl, hb2⟩; have hc2 := (bcells hb2).1))
  have hK2 : Kept [q, mb] w w2 := (hk0 _).trans (Kept.of_below hb2)
  have hS2 : Sur w2 q mb (some ⟨b, o, none⟩) ps.length C S L := (hS.kept (Below.heap_alloc _ _ _ hqs) (Below.heap_alloc _ _ _ hms)).kept (hb2.block q (by simp; omega)) (hb2.block mb (by simp; omega))
  have rn : RowL w2 w.heap.size 58 [.bool leaf, .slice eA 0 eC, .slice kA keys.length kC, .slice dA kids.length dC, .slice bA buf.length bC] := (rowL_alloc w _ _).below hb2 (by simp)
  clear hbel hk0 hc2
  go_loopw [2, 55] (fun vl vi wr => ∃ (i : Nat) (S' : St) (acc : List Int) (lo L' : Int), i ≤ kids.length ∧ vl = .int .i64 lo ∧ vi = .int .i64 i ∧ KidsN (W (ps.map PN.nd) f) kids keys low high S L i lo S' acc L' ∧ Kept [q, mb] w2 wr ∧ Sur wr q mb (some ⟨b, o, none⟩) ps.length C S' L' ∧ StOk ps.length S' ∧ ((m : Int), d) ∈ S') (fun _ vi _ => kids.length - (intOf vi).toNat)
  case atStart => exact ⟨0, S, [], low, L, Nat.zero_le _, rfl, rfl, kidsN_start _ _ _ _ _ _ _, Kept.refl _ _, hS2, HH.out.2.2, hp⟩
  case round =>
    obtain ⟨i, S', acc, lo, L', hi, rfl, rfl, hka, hkw2, hsur, hok, hpm⟩ := hrel
    have hKw : Kept [q, mb] w wr := hK2.trans hkw2
    by_cases hlt : i < kids.length
    · have hBb : Below B w wr := hKw.below (by omega) (by simp; omega)
      have hNr := hN.below hBb (Nat.le_refl _)
      have rn' := hkw2.row rn (by simp; omega)
      have y2 := rn'.cell 2
      have y3 := rn'.cell 3
      simp only [List.getElem?_cons_zero, List.getElem?_cons_succ] at y2 y3
      have q0' := hsur.row.cell 0
      have q1' := hsur.row.cell 1
      simp only [List.getElem?_cons_zero, List.getElem?_cons_succ] at q0' q1'
      have hlk := hsur.map.look hpm (WalkArith.wf_i64 (by omega)) wr rfl
      obtain ⟨kb, ko, rfl, hkb, hkc⟩ := (t1.below hBb (Nat.le_refl _)).int hlt
      obtain ⟨kd, hkd⟩ : ∃ kd, kids[i] = kd := ⟨_, rfl⟩
      rw [hkd] at hkc
      have HKD : Hid (kids[i] = kd) := hkd
      clear hkd
      have hf12 : f + 1 ≤ 12 := HH.out.1
      by_cases hik : i < keys.length
      · obtain ⟨qb, qo, rfl, hqb, hqc⟩ := (k1.below hBb (Nat.le_refl _)).int hik
        have HT : Hid (toAt keys high i = keys[i]) := by show _ = _; simp [toAt, hik]
        have hTle := hkw _ (List.getElem_mem hik)
        generalize keys[i] = tk at *
        obtain ⟨bb, Hb'⟩ : ∃ bb, bb = resN L' (W (ps.map PN.nd) f kd lo tk S') := ⟨_, rfl⟩
        have con : ∀ w', NodesAt B w' (some ⟨b, o, none⟩) ps → Sur w' q mb (some ⟨b, o, none⟩) ps.length C S' L' → Calls Try.prog 26 #[.pointer (some ⟨q, 0, none⟩), .int .i64 kd, .int .i64 (d + 1), .int .i64 lo, .int .i64 tk] w'
            fun e w'' => e = .returned (.bool bb) ∧ Kept [q, mb] w' w'' ∧ ∀ S'' l, W (ps.map PN.nd) f kd lo tk S' = some (S'', l) → okL L' l = true → Sur w'' q mb (some ⟨b, o, none⟩) ps.length C S'' (nextL L' l) := by
          intro w' a1 a2
          rw [Hb']
          exact ih.out kd lo tk L' S' w' a1 a2 hok (by have := hka.low; omega) hTle
        have e1 : resN L' (W (ps.map PN.nd) f kids[i] lo (toAt keys high i) S') = bb := by rw [HT.out, HKD.out]; exact Hb'.symm
        cases hbb : bb with
        | false =>
          subst hbb
          have E0 : Hid (resN L R = false) := by show _ = _; rw [hR.out]; exact kidsN_no hka hlt e1
          clear hka HT ih e1 Hb'
          go_wp2_with (first | (go_at_call 26; refine (con _ hNr hsur).mono ?_; rintro e w3 ⟨rfl, hk3, hs3⟩))
          go_ret
          exact ⟨ret_bool E0.out.symm, hKw.trans hk3, fun S'' l h hk => by rw [h] at E0; exact absurd (hk.symm.trans E0.out) (by simp)⟩
        | true =>
          subst hbb
          have HX : Hid (∃ S1 l1, W (ps.map PN.nd) f kd lo tk S' = some (S1, l1) ∧ okL L' l1 = true ∧ KidsN (W (ps.map PN.nd) f) kids keys low high S L (i + 1) tk S1 (acc ++ l1) (nextL L' l1) ∧ StOk ps.length S1 ∧ ∀ p ∈ S', p ∈ S1) := by
            obtain ⟨S1, l1, g1, g2, g3⟩ := kidsN_next (W_ds f (by omega)) (W_low f) hka hlt e1
            rw [HT.out, HKD.out] at g1
            rw [HT.out] at g3
            have g4 := W_st f _ _ _ _ _ _ g1 (by simpa using hok)
            simp only [List.length_map] at g4
            exact ⟨S1, l1, g1, g2, g3, g4⟩
          clear hka HT ih e1 Hb'
          go_wp2_with (first | (go_at_call 26; refine (con _ hNr hsur).mono ?_; rintro e w3 ⟨rfl, hk3, hs3⟩))
          go_roundw
          case rel =>
            go_light
            obtain ⟨S1, l1, g1, g2, g3, g4, g5⟩ := HX.out
            exact ⟨i + 1, S1, acc ++ l1, tk, nextL L' l1, by omega, rfl, by go_num, g3, hkw2.trans hk3, hs3 S1 l1 g1 g2, g4, g5 _ hpm⟩
          case measure => simp [intOf]; omega
      · have HT : Hid (toAt keys high i = high) := by show _ = _; simp [toAt, hik]
        have hTle := hhigh
        obtain ⟨bb, Hb'⟩ : ∃ bb, bb = resN L' (W (ps.map PN.nd) f kd lo high S') := ⟨_, rfl⟩
        have con : ∀ w', NodesAt B w' (some ⟨b, o, none⟩) ps → Sur w' q mb (some ⟨b, o, none⟩) ps.length C S' L' → Calls Try.prog 26 #[.pointer (some ⟨q, 0, none⟩), .int .i64 kd, .int .i64 (d + 1), .int .i64 lo, .int .i64 high] w'
            fun e w'' => e = .returned (.bool bb) ∧ Kept [q, mb] w' w'' ∧ ∀ S'' l, W (ps.map PN.nd) f kd lo high S' = some (S'', l) → okL L' l = true → Sur w'' q mb (some ⟨b, o, none⟩) ps.length C S'' (nextL L' l) := by
          intro w' a1 a2
          rw [Hb']
          exact ih.out kd lo high L' S' w' a1 a2 hok (by have := hka.low; omega) hTle
        have e1 : resN L' (W (ps.map PN.nd) f kids[i] lo (toAt keys high i) S') = bb := by rw [HT.out, HKD.out]; exact Hb'.symm
        cases hbb : bb with
        | false =>
          subst hbb
          have E0 : Hid (resN L R = false) := by show _ = _; rw [hR.out]; exact kidsN_no hka hlt e1
          clear hka HT ih e1 Hb'
          go_wp2_with (first | (go_at_call 26; refine (con _ hNr hsur).mono ?_; rintro e w3 ⟨rfl, hk3, hs3⟩))
          go_ret
          exact ⟨ret_bool E0.out.symm, hKw.trans hk3, fun S'' l h hk => by rw [h] at E0; exact absurd (hk.symm.trans E0.out) (by simp)⟩
        | true =>
          subst hbb
          have HX : Hid (∃ S1 l1, W (ps.map PN.nd) f kd lo high S' = some (S1, l1) ∧ okL L' l1 = true ∧ KidsN (W (ps.map PN.nd) f) kids keys low high S L (i + 1) high S1 (acc ++ l1) (nextL L' l1) ∧ StOk ps.length S1 ∧ ∀ p ∈ S', p ∈ S1) := by
            obtain ⟨S1, l1, g1, g2, g3⟩ := kidsN_next (W_ds f (by omega)) (W_low f) hka hlt e1
            rw [HT.out, HKD.out] at g1
            rw [HT.out] at g3
            have g4 := W_st f _ _ _ _ _ _ g1 (by simpa using hok)
            simp only [List.length_map] at g4
            exact ⟨S1, l1, g1, g2, g3, g4⟩
          clear hka HT ih e1 Hb'
          go_wp2_with (first | (go_at_call 26; refine (con _ hNr hsur).mono ?_; rintro e w3 ⟨rfl, hk3, hs3⟩))
          go_roundw
          case rel =>
            go_light
            obtain ⟨S1, l1, g1, g2, g3, g4, g5⟩ := HX.out
            exact ⟨i + 1, S1, acc ++ l1, high, nextL L' l1, by omega, rfl, by go_num, g3, hkw2.trans hk3, hs3 S1 l1 g1 g2, g4, g5 _ hpm⟩
          case measure => simp [intOf]; omega
    · obtain rfl : i = kids.length := by omega
      have HE : Hid (Wk (W (ps.map PN.nd) f) kids keys low high S = some (S', acc) ∧ resN L (Wk (W (ps.map PN.nd) f) kids keys low high S) = true ∧ nextL L acc = L') := kidsN_end hka rfl
      clear hka ih
      go_wp2
      go_ret
      obtain ⟨a1, a2, a3⟩ := HE.out
      rw [hR.out, a2, a1]
      exact ⟨rfl, hKw, fun S'' l h _ => by cases h; rw [a3]; exact hsur⟩

end Go.Proofs.Ytlojfgdpmaigmab

/- The survey's nodes that are no leaves. -/
namespace Go.Proofs.Ytlojfgdpmaigmab
open Go.RowKit Plain Go.Maps

set_option maxRecDepth 20000 in
set_option maxHeartbeats 4000000 in
theorem surInner_any (b o C : Nat) (ps : List PN) (q mb B f m : Nat) (low high d L : Int) (S : St) (w : World) (leaf : Bool) (eA : Option Addr) (eC : Nat) (ents : List En) (kA : Option Addr) (kC : Nat) (keys : List Int) (dA : Option Addr) (dC : Nat) (kids : List Int) (bA : Option Addr) (bC : Nat) (buf : List En)
    (hm : m < ps.length) (hN : NodesAt B w (some ⟨b, o, none⟩) ps) (hat : PnAt w b (o + m * 5) ⟨leaf, eA, eC, ents, kA, kC, keys, dA, dC, kids, bA, bC, buf⟩) (ok : PN.ok B w ⟨leaf, eA, eC, ents, kA, kC, keys, dA, dC, kids, bA, bC, buf⟩) (hkw : ∀ z ∈ keys, z ≤ 9223372036854775807)
    (hbl : b < B) (hBq : B ≤ q) (hBm : B ≤ mb) (hS : Sur w q mb (some ⟨b, o, none⟩) ps.length C S L) (hp : ((m : Int), d) ∈ S) (hst : StOk ps.length S) (hlow : 0 ≤ low) (hhigh : high ≤ 9223372036854775807) (hd1 : 1 ≤ d) (hd2 : d ≤ 12) (hf : f + 1 ≤ 12)
    (ih : Hid (∀ (n lo hi L' : Int) (S' : St) (w' : World), NodesAt B w' (some ⟨b, o, none⟩) ps → Sur w' q mb (some ⟨b, o, none⟩) ps.length C S' L' → StOk ps.length S' → 0 ≤ lo → hi ≤ 9223372036854775807 →
      Calls Try.prog 26 #[.pointer (some ⟨q, 0, none⟩), .int .i64 n, .int .i64 (d + 1), .int .i64 lo, .int .i64 hi] w'
        fun e w'' => e = .returned (.bool (resN L' (W (ps.map PN.nd) f n lo hi S'))) ∧ Kept [q, mb] w' w'' ∧ ∀ S'' l, W (ps.map PN.nd) f n lo hi S' = some (S'', l) → okL L' l = true → Sur w'' q mb (some ⟨b, o, none⟩) ps.length C S'' (nextL L' l)))
    (R : Option (St × List Int)) (hR : Hid (R = if innerB ⟨leaf, ents, keys, kids, buf⟩ low high = true then Wk (W (ps.map PN.nd) f) kids keys low high S else none)) :
    Calls Try.prog 46 #[.pointer (some ⟨q, 0, none⟩), .int .i64 (m : Int), .int .i64 low, .int .i64 high] w
      fun e w' => e = .returned (.bool (resN L R)) ∧ Kept [q, mb] w w' ∧ ∀ S' l, R = some (S', l) → okL L l = true → Sur w' q mb (some ⟨b, o, none⟩) ps.length C S' (nextL L l) := by
  have hat0 := hat
  have ok0 := ok
  have hqs := hS.row.lt
  have hms := hS.map.lt
  have hz := hN.z
  obtain ⟨c0, c1, c2, c3, c4⟩ := hat
  simp only at c0 c1 c2 c3 c4
  obtain ⟨-, k1, t1, f1, -, -, -, -, ez, kz, dz, fz⟩ := ok
  simp only at k1 t1 f1 ez kz dz fz
  have q0 := hS.row.cell 0
  have q1 := hS.row.cell 1
  simp only [List.getElem?_cons_zero, List.getElem?_cons_succ] at q0 q1
  have hbw : b < w.heap.size := by omega
  have hbel : ∀ o1 : Obj, Below B w (w.alloc o1) := fun o1 => (Below.refl _ _).alloc (by omega) _
  have hk0 : ∀ o1 : Obj, Kept [q, mb] w (w.alloc o1) := fun o1 => (Kept.refl _ _).alloc _
  by_cases h1 : ents = []
  · subst h1
    by_cases h2 : kids.length < 2
    · have h2' : (kids.length : Int) < 2 := by omega
      have E0 : Hid (R = none) := by
        show _ = _
        rw [hR.out, if_neg]
        intro hi
        have hi' := innerB_kids hi
        simp only at hi'
        omega
      rw [E0.out]
      clear hR ih hst
      go_enter Try.func46, Try.ntmps46
      go_wp2_with (first | (go_at_call 64; refine (entriesMayBe_any _ _ _ _ _ _ _ (f1.go (hbel _) (Nat.le_refl _) (by omega)) fz (by omega) hhigh).mono ?_; rintro e w2 ⟨rfl, hb2⟩))
      go_ret
      first | exact ⟨rfl, hk0 _, fun _ _ h => by cases h⟩ | exact ⟨rfl, hk0 _⟩
    · have h2' : ¬ (kids.length : Int) < 2 := by omega
      by_cases h3 : 4 < kids.length
      · have h3' : (4 : Int) < (kids.length : Int) := by omega
        have E0 : Hid (R = none) := by
          show _ = _
          rw [hR.out, if_neg]
          intro hi
          have hi' := innerB_kids hi
          simp only at hi'
          omega
        rw [E0.out]
        clear hR ih hst
        go_enter Try.func46, Try.ntmps46
        go_wp2_with (first | (go_at_call 64; refine (entriesMayBe_any _ _ _ _ _ _ _ (f1.go (hbel _) (Nat.le_refl _) (by omega)) fz (by omega) hhigh).mono ?_; rintro e w2 ⟨rfl, hb2⟩))
        go_ret
        first | exact ⟨rfl, hk0 _, fun _ _ h => by cases h⟩ | exact ⟨rfl, hk0 _⟩
      · have h3' : ¬ (4 : Int) < (kids.length : Int) := by omega
        by_cases h4 : keys.length + 1 = kids.length
        · have h4' : (keys.length : Int) = (kids.length : Int) - 1 := by omega
          have h4b : ((keys.length : Int) != (kids.length : Int) - 1) = false := by simp; omega
          have H4 : Hid (keys.length + 1 = kids.length) := h4
          clear h4
          by_cases h5 : (decide ((buf.length : Int) ≤ 8) && entsB buf low high) = true
          · have h5x : buf.length ≤ 8 ∧ entsB buf low high = true := by simp at h5; exact ⟨by omega, h5.2⟩
            have hI : innerB ⟨leaf, [], keys, kids, buf⟩ low high = true := by
              simp only [innerB, Bool.and_eq_true, decide_eq_true_eq, beq_iff_eq, List.isEmpty_iff]
              exact ⟨⟨⟨⟨⟨trivial, by omega⟩, by omega⟩, H4.out⟩, h5x.1⟩, h5x.2⟩
            refine surKids_any b o C ps q mb B f m low high d L S w leaf eA eC [] kA kC keys dA dC kids bA bC buf hm hN hat0 ok0 hkw hbl hBq hBm hS hp hst hlow hhigh hd1 hd2 hf ih rfl (by omega) (by omega) H4.out h5 R ?_
            show _ = _
            rw [hR.out, if_pos hI]
          · have h5' : (decide ((buf.length : Int) ≤ 8) && entsB buf low high) = false := by simpa using h5
            have E0 : Hid (R = none) := by
              show _ = _
              rw [hR.out, if_neg]
              intro hi
              have hi' := innerB_kids hi
              simp only at hi'
              apply h5; simp; exact ⟨by omega, hi'.2.2.2.2.2⟩
            clear h5
            rw [E0.out]
            clear hR ih hst
            go_enter Try.func46, Try.ntmps46
            go_wp2_with (first | (go_at_call 64; refine (entriesMayBe_any _ _ _ _ _ _ _ (f1.go (hbel _) (Nat.le_refl _) (by omega)) fz (by omega) hhigh).mono ?_; rintro e w2 ⟨rfl, hb2⟩))
            go_ret
            first | exact ⟨rfl, (hk0 _).trans (Kept.of_below hb2), fun _ _ h => by cases h⟩ | exact ⟨rfl, (hk0 _).trans (Kept.of_below hb2)⟩
        · have h4' : ¬ (keys.length : Int) = (kids.length : Int) - 1 := by omega
          have E0 : Hid (R = none) := by
            show _ = _
            rw [hR.out, if_neg]
            intro hi
            have hi' := innerB_kids hi
            simp only at hi'
            omega
          rw [E0.out]
          clear hR ih hst
          go_enter Try.func46, Try.ntmps46
          go_wp2_with (first | (go_at_call 64; refine (entriesMayBe_any _ _ _ _ _ _ _ (f1.go (hbel _) (Nat.le_refl _) (by omega)) fz (by omega) hhigh).mono ?_; rintro e w2 ⟨rfl, hb2⟩))
          go_ret
          first | exact ⟨rfl, hk0 _, fun _ _ h => by cases h⟩ | exact ⟨rfl, hk0 _⟩
  · have h1' : (0 : Int) < (ents.length : Int) := by have := List.length_pos_iff.2 h1; omega
    have E0 : Hid (R = none) := by
      show _ = _
      rw [hR.out, if_neg]
      intro hi
      have hi' := innerB_kids hi
      simp only at hi'
      exact h1 hi'.1
    rw [E0.out]
    clear hR ih hst
    go_enter Try.func46, Try.ntmps46
    go_wp2_with (first | (go_at_call 64; refine (entriesMayBe_any _ _ _ _ _ _ _ (f1.go (hbel _) (Nat.le_refl _) (by omega)) fz (by omega) hhigh).mono ?_; rintro e w2 ⟨rfl, hb2⟩))
    go_ret
    first | exact ⟨rfl, hk0 _, fun _ _ h => by cases h⟩ | exact ⟨rfl, hk0 _⟩

end Go.Proofs.Ytlojfgdpmaigmab

/- How the arguments of the statements are opened: rollups by value. -/
namespace Go.Proofs.Ytlojfgdpmaigmab
open Go.ChangeShapes Go.WideShapes Go.ChangeAt Go.RowKit

theorem own : ownKnob Try.prog.godebug = none := by kernel_rfl
theorem laidOut : laidOutB Try.prog = true := by kernel_rfl
theorem cellsRu : Try.prog.cellsOf 36 = 6 := by kernel_rfl
theorem cellsInt : Try.prog.cellsOf 3 = 1 := by kernel_rfl

set_option maxRecDepth 100000 in
theorem open_ru {H : Type} {enc : TypeId × Value → H} {W : World} {base : Nat} {spare : Nat → Bool} {held : Bool} {r : Reach} {b0 : Nat} {v : Value} {d : DataW H} {p : List MemPlace}
    (hv : Value.okWide Try.prog W r b0 36 v) (h : DataW.Trod enc Try.prog W base spare held 36 v d p) :
    ∃ c s lo hi t l : Int, v = .agg #[.int .i64 c, .int .i64 s, .int .i64 lo, .int .i64 hi, .int .i64 t, .int .i64 l] ∧ (Lit.int .i64 c).wf = true ∧ (Lit.int .i64 s).wf = true ∧ (Lit.int .i64 lo).wf = true ∧ (Lit.int .i64 hi).wf = true ∧ (Lit.int .i64 t).wf = true ∧ (Lit.int .i64 l).wf = true := by
  obtain ⟨⟨cs⟩, rfl, hsz⟩ := okWide_struct Try.underlying36 hv
  rw [cellsRu] at hsz
  match cs, hsz with
  | [v0, v1, v2, v3, v4, v5], _ =>
    obtain ⟨fuel, hf⟩ := h
    obtain ⟨xs, n, _, _, _, hlen, hg⟩ := DataW.trod_struct Try.underlying36 hf
    match xs, hlen with
    | [y0, y1, y2, y3, y4, y5], _ =>
      have g0 := hg 0 _ rfl
      have g1 := hg 1 _ rfl
      have g2 := hg 2 _ rfl
      have g3 := hg 3 _ rfl
      have g4 := hg 4 _ rfl
      have g5 := hg 5 _ rfl
      obtain ⟨c, e0, _, w0⟩ := DataW.trod_int Try.underlying3 g0
      obtain ⟨s, e1, _, w1⟩ := DataW.trod_int Try.underlying3 g1
      obtain ⟨lo, e2, _, w2⟩ := DataW.trod_int Try.underlying3 g2
      obtain ⟨hi, e3, _, w3⟩ := DataW.trod_int Try.underlying3 g3
      obtain ⟨t, e4, _, w4⟩ := DataW.trod_int Try.underlying3 g4
      obtain ⟨l, e5, _, w5⟩ := DataW.trod_int Try.underlying3 g5
      simp [Value.cells, cellsInt] at e0 e1 e2 e3 e4 e5
      subst e0 e1 e2 e3 e4 e5
      exact ⟨c, s, lo, hi, t, l, rfl, w0, w1, w2, w3, w4, w5⟩

theorem bd {n : Int} (h : (Lit.int .i64 n).wf = true) : -9223372036854775808 ≤ n ∧ n ≤ 9223372036854775807 := by
  have := bounds_i64 h
  omega

end Go.Proofs.Ytlojfgdpmaigmab

/- How a tree that came in is opened. -/
namespace Go.Proofs.Ytlojfgdpmaigmab
open Go.ChangeShapes Go.WideShapes Go.ChangeAt Go.RowKit Go.Deep

theorem spot_none {w : World} {a : Addr} {v : Value} (h : w.cell? a = some v) : a.spot = none := by
  unfold World.cell? at h
  split at h
  · cases hs : a.spot with
    | none => rfl
    | some x => simp [hs] at h
  · simp at h

/-- Rows of elements of several cells, from their elements. -/
theorem row_of {w : World} {a : Addr} {size len : Nat} (hs : 0 < size) (F : Nat → List Value) (all : List Value) (hlen : all.length = len * size) (hget : ∀ k j, k < len → j < size → all[k * size + j]? = (F k)[j]?)
    (hc : ∀ i, i < len → w.cells? 0 (a.add (i * size)) size = some (F i)) : RowAt w.heap.size w (some a) all := by
  by_cases h0 : len = 0
  · left
    exact List.eq_nil_of_length_eq_zero (by rw [hlen, h0, Nat.zero_mul])
  · right
    have hcell : ∀ q u, all[q]? = some u → w.cell? (a.add q) = some u := by
      intro q u hu
      have hq : q < len * size := by rw [← hlen]; exact (List.getElem?_eq_some_iff.1 hu).1
      have hk : q / size < len := Nat.div_lt_of_lt_mul (by rw [Nat.mul_comm]; exact hq)
      have hj : q % size < size := Nat.mod_lt _ hs
      have hqe : q / size * size + q % size = q := Nat.div_add_mod' q size
      have h1 := (World.cells?_some (hc _ hk)).2.2 _ hj
      rw [add_add, hqe, ← hget _ _ hk hj, hqe, hu] at h1
      exact h1
    have hpos : 0 < all.length := by rw [hlen]; exact Nat.mul_pos (by omega) hs
    have ha := hcell 0 _ (List.getElem?_eq_getElem hpos)
    have hsp := spot_none ha
    have ha0 : a.add 0 = a := by simp [Addr.add]
    rw [ha0] at hsp ha
    obtain ⟨b, o, s⟩ := a
    simp only at hsp
    subst hsp
    refine ⟨b, o, rfl, World.block_lt_of_cell? _ _ ha, fun j u hu => ?_⟩
    have := hcell j u hu
    rwa [add_plain] at this

section
variable {H : Type} {enc : TypeId × Value → H} {W : World} {held : Bool} {spare : Nat → Bool} {fuel : Nat}

theorem cellsEn : Try.prog.cellsOf 45 = 7 := by kernel_rfl
theorem cellsNd : Try.prog.cellsOf 58 = 5 := by kernel_rfl
theorem cellsTr : Try.prog.cellsOf 24 = 2 := by kernel_rfl
theorem cellsBool : Try.prog.cellsOf 4 = 1 := by kernel_rfl
theorem cellsSlE : Try.prog.cellsOf 30 = 1 := by kernel_rfl
theorem cellsSlI : Try.prog.cellsOf 55 = 1 := by kernel_rfl
theorem cellsSlN : Try.prog.cellsOf 22 = 1 := by kernel_rfl
theorem bytesEn : Try.prog.bytesOf 45 = 56 := by kernel_rfl
theorem bytesNd : Try.prog.bytesOf 58 = 104 := by kernel_rfl
theorem bytesInt : Try.prog.bytesOf 3 = 8 := by kernel_rfl

def En.wf (x : En) : Prop := (Lit.int .i64 x.key).wf = true ∧ (Lit.int .i64 x.c).wf = true ∧ (Lit.int .i64 x.s).wf = true ∧ (Lit.int .i64 x.lo).wf = true ∧ (Lit.int .i64 x.hi).wf = true ∧ (Lit.int .i64 x.t).wf = true ∧ (Lit.int .i64 x.l).wf = true

set_option maxRecDepth 100000 in
theorem open_en {cs : List Value} {x : DataW H × List MemPlace} (h : DataW.trod enc Try.prog W 0 spare held fuel 45 cs = some x) : ∃ y : En, cs = y.vals ∧ y.wf := by
  obtain ⟨xs, n, _, _, hl, hxl, hg⟩ := DataW.trod_struct Try.underlying45 h
  rw [cellsEn] at hl
  match cs, hl with
  | [v0, v1, v2, v3, v4, v5, v6], _ =>
    match xs, hxl with
    | [y0, y1], _ =>
      have g0 := hg 0 _ rfl
      have g1 := hg 1 _ rfl
      obtain ⟨k, e0, _, w0⟩ := DataW.trod_int Try.underlying3 g0
      obtain ⟨zs, m, _, _, _, hzl, hz⟩ := DataW.trod_struct Try.underlying36 g1
      match zs, hzl with
      | [z0, z1, z2, z3, z4, z5], _ =>
        obtain ⟨c, e1, _, w1⟩ := DataW.trod_int Try.underlying3 (hz 0 _ rfl)
        obtain ⟨s, e2, _, w2⟩ := DataW.trod_int Try.underlying3 (hz 1 _ rfl)
        obtain ⟨lo, e3, _, w3⟩ := DataW.trod_int Try.underlying3 (hz 2 _ rfl)
        obtain ⟨hi, e4, _, w4⟩ := DataW.trod_int Try.underlying3 (hz 3 _ rfl)
        obtain ⟨t, e5, _, w5⟩ := DataW.trod_int Try.underlying3 (hz 4 _ rfl)
        obtain ⟨l, e6, _, w6⟩ := DataW.trod_int Try.underlying3 (hz 5 _ rfl)
        simp [cellsInt, cellsRu] at e0 e1 e2 e3 e4 e5 e6
        subst e0 e1 e2 e3 e4 e5 e6
        exact ⟨⟨k, c, s, lo, hi, t, l⟩, rfl, w0, w1, w2, w3, w4, w5, w6⟩

def Sized (t : TypeId) (d : DataW H) : Prop := ∀ n ∈ d.weights Try.prog t, n ≤ 140737488351232

set_option maxRecDepth 100000 in
theorem open_ents {v : Value} {x : DataW H × List MemPlace} (h : DataW.trod enc Try.prog W 0 (fun _ => true) held fuel 30 [v] = some x) (hs : Sized 30 x.1) :
    ∃ A C xs, v = .slice A xs.length C ∧ (A = none → C = 0) ∧ xs.length ≤ C ∧ RowAt W.heap.size W A (flatE xs) ∧ xs.length * 56 ≤ 140737488351232 ∧ ∀ y ∈ xs, y.wf := by
  rcases open_slice Try.underlying30 h with ⟨hv, _⟩ | ⟨a, len, cap, m, n, D, Pl, hv, _, hl, _, hm, hx, he⟩
  · simp at hv
    subst hv
    exact ⟨none, 0, [], rfl, fun _ => rfl, Nat.le_refl _, .inl rfl, by simp, by simp⟩
  · simp at hv
    subst hv
    simp only [if_true] at hm
    subst hm
    obtain ⟨X, hX⟩ := choose_lt (α := En) (p := fun i y => W.cells? 0 (a.add (i * 7)) 7 = some y.vals ∧ y.wf) (n := len) (fun i hi => by
      obtain ⟨cs', h1, h2⟩ := he i (by omega)
      obtain ⟨y, rfl, hy⟩ := open_en h2
      rw [cellsEn] at h1
      exact ⟨y, h1, hy⟩)
    have hwt : (len + (m - len)) * 56 ≤ 140737488351232 := by
      have := hs ((len + (m - len)) * Try.prog.bytesOf 45) (by rw [hx]; simp [DataW.weights, Try.underlying30])
      rwa [bytesEn] at this
    refine ⟨some a, m, (List.range len).map X, by simp, fun h => (by cases h), by simpa using hl, ?_, ?_, ?_⟩
    · refine row_of (by decide) (fun k => (X k).vals) _ (by rw [flatE_length]; simp) (fun k j hk hj => ?_) (fun i hi => (hX i hi).1)
      rw [flatE_get _ k j (by simpa using hk) hj]
      simp
    · simp only [List.length_map, List.length_range]; omega
    · intro y hy
      obtain ⟨i, hi, rfl⟩ := List.mem_map.1 hy
      exact (hX i (by simpa using hi)).2

set_option maxRecDepth 100000 in
theorem open_nums {v : Value} {x : DataW H × List MemPlace} (h : DataW.trod enc Try.prog W 0 (fun _ => true) held fuel 55 [v] = some x) (hs : Sized 55 x.1) :
    ∃ A C zs, v = .slice A zs.length C ∧ (A = none → C = 0) ∧ zs.length ≤ C ∧ RowAt W.heap.size W A (ints zs) ∧ zs.length * 8 ≤ 140737488351232 ∧ ∀ z ∈ zs, (Lit.int .i64 z).wf = true := by
  rcases open_slice Try.underlying55 h with ⟨hv, _⟩ | ⟨a, len, cap, m, n, D, Pl, hv, _, hl, _, hm, hx, he⟩
  · simp at hv
    subst hv
    exact ⟨none, 0, [], rfl, fun _ => rfl, Nat.le_refl _, .inl rfl, by simp, by simp⟩
  · simp at hv
    subst hv
    simp only [if_true] at hm
    subst hm
    obtain ⟨X, hX⟩ := choose_lt (α := Int) (p := fun i z => W.cells? 0 (a.add (i * 1)) 1 = some [.int .i64 z] ∧ (Lit.int .i64 z).wf = true) (n := len) (fun i hi => by
      obtain ⟨cs', h1, h2⟩ := he i (by omega)
      obtain ⟨z, rfl, _, hz⟩ := DataW.trod_int Try.underlying3 h2
      rw [cellsInt] at h1
      exact ⟨z, h1, hz⟩)
    have hwt : (len + (m - len)) * 8 ≤ 140737488351232 := by
      have := hs ((len + (m - len)) * Try.prog.bytesOf 3) (by rw [hx]; simp [DataW.weights, Try.underlying55])
      rwa [bytesInt] at this
    refine ⟨some a, m, (List.range len).map X, by simp, fun h => (by cases h), by simpa using hl, ?_, ?_, ?_⟩
    · refine row_of (by decide) (fun k => [.int .i64 (X k)]) _ (by simp [ints]) (fun k j hk hj => ?_) (fun i hi => (hX i hi).1)
      obtain rfl : j = 0 := by omega
      simp [ints, hk]
    · simp only [List.length_map, List.length_range]; omega
    · intro y hy
      obtain ⟨i, hi, rfl⟩ := List.mem_map.1 hy
      exact (hX i (by simpa using hi)).2

def PN.wf (p : PN) : Prop := (∀ y ∈ p.ents, y.wf) ∧ (∀ z ∈ p.keys, (Lit.int .i64 z).wf = true) ∧ (∀ z ∈ p.kids, (Lit.int .i64 z).wf = true) ∧ ∀ y ∈ p.buf, y.wf

set_option maxRecDepth 100000 in
theorem open_node {cs : List Value} {x : DataW H × List MemPlace} (h : DataW.trod enc Try.prog W 0 (fun _ => true) held fuel 58 cs = some x) (hs : Sized 58 x.1) :
    ∃ p : PN, cs = p.vals ∧ p.ok W.heap.size W ∧ p.wf := by
  obtain ⟨xs, n, _, hx, hl, hxl, hg⟩ := DataW.trod_struct Try.underlying58 h
  rw [cellsNd] at hl
  match cs, hl with
  | [v0, v1, v2, v3, v4], _ =>
    match xs, hxl with
    | [y0, y1, y2, y3, y4], _ =>
      have g0 := hg 0 _ rfl
      have g1 := hg 1 _ rfl
      have g2 := hg 2 _ rfl
      have g3 := hg 3 _ rfl
      have g4 := hg 4 _ rfl
      simp [cellsBool, cellsSlE, cellsSlI] at g0 g1 g2 g3 g4
      have hw : ∀ n ∈ DataW.weightsEach Try.prog [4, 30, 55, 55, 30] [y0.1, y1.1, y2.1, y3.1, y4.1], n ≤ 140737488351232 := by
        intro n hn
        refine hs n ?_
        rw [hx]
        simp only [List.map_cons, List.map_nil, DataW.weights, Try.underlying58]
        exact hn
      obtain ⟨lf, e0, _⟩ := DataW.trod_bool Try.underlying4 g0
      simp at e0
      subst e0
      obtain ⟨eA, eC, ents, rfl, en, _, er, ez, ew⟩ := open_ents g1 (fun n hn => hw n (DataW.weights_mem_each (j := 1) rfl rfl n hn))
      obtain ⟨kA, kC, keys, rfl, kn, _, kr, kz, kw⟩ := open_nums g2 (fun n hn => hw n (DataW.weights_mem_each (j := 2) rfl rfl n hn))
      obtain ⟨dA, dC, kids, rfl, dn, _, dr, dz, dw⟩ := open_nums g3 (fun n hn => hw n (DataW.weights_mem_each (j := 3) rfl rfl n hn))
      obtain ⟨bA, bC, buf, rfl, bn, _, br, bz, bw⟩ := open_ents g4 (fun n hn => hw n (DataW.weights_mem_each (j := 4) rfl rfl n hn))
      exact ⟨⟨lf, eA, eC, ents, kA, kC, keys, dA, dC, kids, bA, bC, buf⟩, rfl, ⟨er, kr, dr, br, en, kn, dn, bn, ez, kz, dz, bz⟩, ew, kw, dw, bw⟩

theorem weightsAll_mem {P : Program} {e : TypeId} : ∀ {ds : List (DataW H)} {d : DataW H}, d ∈ ds → ∀ n ∈ d.weights P e, n ∈ DataW.weightsAll P e ds
  | d0 :: r, d, hd, n, hn => by
    simp only [DataW.weightsAll, List.mem_append]
    rcases List.mem_cons.1 hd with rfl | h
    · exact .inl hn
    · exact .inr (weightsAll_mem h n hn)

set_option maxRecDepth 100000 in
theorem open_nodes {v : Value} {x : DataW H × List MemPlace} (h : DataW.trod enc Try.prog W 0 (fun _ => true) held fuel 22 [v] = some x) (hs : Sized 22 x.1) :
    ∃ A C ps, v = .slice A ps.length C ∧ NodesAt W.heap.size W A ps ∧ ∀ p ∈ ps, p.wf := by
  rcases open_slice Try.underlying22 h with ⟨hv, _⟩ | ⟨a, len, cap, m, n, D, Pl, hv, _, hl, _, hm, hx, he⟩
  · simp at hv
    subst hv
    exact ⟨none, 0, [], rfl, ⟨.inl rfl, fun k hk => absurd hk (Nat.not_lt_zero _), by simp⟩, by simp⟩
  · simp at hv
    subst hv
    simp only [if_true] at hm
    subst hm
    have hw : ∀ i, i < len → Sized 58 (D i) := by
      intro i hi n hn
      refine hs n ?_
      rw [hx]
      simp only [DataW.weights, Try.underlying22, List.mem_cons, List.mem_append]
      exact .inr (.inl (weightsAll_mem (List.mem_map.2 ⟨i, by simpa using hi, rfl⟩) n hn))
    obtain ⟨X, hX⟩ := choose_lt (α := PN) (p := fun i y => W.cells? 0 (a.add (i * 5)) 5 = some y.vals ∧ y.ok W.heap.size W ∧ y.wf) (n := len) (fun i hi => by
      obtain ⟨cs', h1, h2⟩ := he i (by omega)
      obtain ⟨y, rfl, hy, hyw⟩ := open_node h2 (hw i hi)
      rw [cellsNd] at h1
      exact ⟨y, h1, hy, hyw⟩)
    have hwt : (len + (m - len)) * 104 ≤ 140737488351232 := by
      have := hs ((len + (m - len)) * Try.prog.bytesOf 58) (by rw [hx]; simp [DataW.weights, Try.underlying22])
      rwa [bytesNd] at this
    refine ⟨some a, m, (List.range len).map X, by simp, ⟨?_, ?_, ?_⟩, ?_⟩
    · refine row_of (by decide) (fun k => (X k).vals) _ (by rw [flatN_length]; simp) (fun k j hk hj => ?_) (fun i hi => (hX i hi).1)
      rw [flatN_get _ k j (by simpa using hk) hj]
      simp
    · intro k hk
      simp only [List.length_map, List.length_range] at hk
      simpa using (hX k hk).2.1
    · simp only [List.length_map, List.length_range]; omega
    · intro y hy
      obtain ⟨i, hi, rfl⟩ := List.mem_map.1 hy
      exact (hX i (by simpa using hi)).2.2

set_option maxRecDepth 100000 in
theorem open_tree {base b0 : Nat} {r : Reach} {v : Value} {d : DataW H} {p : List MemPlace} (hb : base = 0) (hv : Value.okWide Try.prog W r b0 24 v) (h : DataW.Trod enc Try.prog W base (fun _ => true) held 24 v d p) (hs : Sized 24 d) :
    ∃ A C ps n, v = .agg #[.slice A ps.length C, .int .i64 n] ∧ NodesAt W.heap.size W A ps ∧ (∀ p ∈ ps, p.wf) ∧ (Lit.int .i64 n).wf = true := by
  subst hb
  obtain ⟨⟨cs⟩, rfl, hsz⟩ := okWide_struct Try.underlying24 hv
  rw [cellsTr] at hsz
  match cs, hsz with
  | [v0, v1], _ =>
    obtain ⟨fuel, hf⟩ := h
    obtain ⟨xs, n, _, hx, _, hlen, hg⟩ := DataW.trod_struct Try.underlying24 hf
    match xs, hlen with
    | [y0, y1], _ =>
      have g0 := hg 0 _ rfl
      have g1 := hg 1 _ rfl
      simp [Value.cells, cellsSlN, cellsInt] at g0 g1
      cases hx
      obtain ⟨A, C, ps, rfl, hN, hw⟩ := open_nodes g0 (fun n hn => hs n (by
        simp only [List.map_cons, List.map_nil, DataW.weights, Try.underlying24]
        exact DataW.weights_mem_each (ts := [22, 3]) (j := 0) rfl rfl n hn))
      obtain ⟨m, e1, _, w1⟩ := DataW.trod_int Try.underlying3 g1
      simp at e1
      subst e1
      exact ⟨A, C, ps, m, rfl, hN, hw, w1⟩

end
end Go.Proofs.Ytlojfgdpmaigmab

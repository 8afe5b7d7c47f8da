/- The document's AllOf. -/
import Derived.Test.YtlojfgdpmaigmafDoorAllPure
import Derived.Test.YtlojfgdpmaigmafDoorWithWalk
import Derived.Test.YtlojfgdpmaigmafDoorFaultWalk
namespace Go.Proofs.YtlojfgdpmaigmafDoor
open Go.RowKit Plain

set_option maxRecDepth 20000 in
set_option maxHeartbeats 4000000 in
theorem allOf_bad (A : Option Addr) (C : Nat) (r low high : Int) (ps : List PN) (w : World) (hN : NodesAt w.heap.size w A ps) (hc : treeC (ps.map PN.nd) r ≠ 0) :
    Calls Tryd.prog 30 #[.agg #[.slice A ps.length C, .int .i64 r], .int .i64 low, .int .i64 high] w
      fun e w' => e = .returned (.tuple #[.slice none 0 0, .int .i64 (treeC (ps.map PN.nd) r)]) ∧ Below w.heap.size w w' := by
  have b0 : ∀ o : Obj, Below w.heap.size w (w.alloc o) := fun o => (Below.refl _ _).alloc (Nat.le_refl _) o
  obtain ⟨c, hcc⟩ : ∃ c, c = treeC (ps.map PN.nd) r := ⟨_, rfl⟩
  have con : ∀ w', NodesAt w'.heap.size w' A ps → Calls Tryd.prog 45 #[.agg #[.slice A ps.length C, .int .i64 r]] w' fun e w'' => e = .returned (.int .i64 c) ∧ Below w'.heap.size w' w'' := by
    intro w' h
    rw [hcc]
    exact treeFault_any A C r ps w' h
  rw [← hcc] at hc ⊢
  clear hcc
  have hc' : (c != 0) = true := by simpa using hc
  go_enter Tryd.func30, Tryd.ntmps30
  go_wp2_with (first | (go_at_call 45; refine (con _ ?_).mono ?_; exact hN.up (b0 _); rintro e w1 ⟨rfl, hb1⟩))
  go_ret2
  exact ⟨rfl, nextB (b0 _) (Nat.le_refl _) hb1⟩

set_option maxRecDepth 20000 in
set_option maxHeartbeats 4000000 in
theorem allOf_ok (A : Option Addr) (C : Nat) (r low high : Int) (ps : List PN) (w : World) (hN : NodesAt w.heap.size w A ps) (hc : treeC (ps.map PN.nd) r = 0) (Q : Ending → World → Prop)
    (HQ : Hid (∀ e w', Below w.heap.size w w' → (∀ ys, allR low high ((ps.map PN.nd).flatMap Nd.lst) = some ys → ∃ v, e = .returned (.tuple #[v, .int .i64 0]) ∧ w'.ownsRow w.heap.size 48 7 v ys.length (flatE ys)) → (allR low high ((ps.map PN.nd).flatMap Nd.lst) = none → e = .returned (.tuple #[.slice none 0 0, .int .i64 1])) → Q e w')) :
    Calls Tryd.prog 30 #[.agg #[.slice A ps.length C, .int .i64 r], .int .i64 low, .int .i64 high] w Q := by
  have b0 : ∀ o : Obj, Below w.heap.size w (w.alloc o) := fun o => (Below.refl _ _).alloc (Nat.le_refl _) o
  have hz := hN.z
  obtain ⟨hlen, hok⟩ := tree_each hc
  simp only [List.length_map] at hlen
  have con : ∀ w', NodesAt w'.heap.size w' A ps → Calls Tryd.prog 45 #[.agg #[.slice A ps.length C, .int .i64 r]] w' fun e w'' => e = .returned (.int .i64 0) ∧ Below w'.heap.size w' w'' := by
    intro w' h
    rw [← hc]
    exact treeFault_any A C r ps w' h
  have HOK : Hid (∀ i (hi : i < ps.length), NodeOk (ps[i]).nd) := fun i hi => by have := hok i (by simpa using hi); simpa using this
  clear hc hok
  go_enter Tryd.func30, Tryd.ntmps30
  go_wp2_with (first | (go_at_call 45; refine (con _ ?_).mono ?_; exact hN.up (b0 _); rintro e w1 ⟨rfl, hb1⟩))
  have bx0 : w1.cell? ⟨w.heap.size, 0, none⟩ = some (.slice A ps.length C) := (hb1.cell (p := ⟨w.heap.size, 0, none⟩) (by simp)).trans (by simp)
  have hbw1 : Below w.heap.size w w1 := nextB (b0 _) (Nat.le_refl _) hb1
  have hz1 : w.heap.size < w1.heap.size := sz1 hb1
  clear con hb1
  go_loopw [8, 9, 10] (fun ve vo vi wr => ∃ (i : Nat) (out : List En), i ≤ ps.length ∧ vi = .int .i64 i ∧ ve = .int .i64 0 ∧ Hid (allR low high (soFar (ps.map PN.nd) i 0) = some out) ∧ out.length ≤ i * 14 ∧ (∀ y ∈ out, Good y.ru) ∧ wr.ownsRow w1.heap.size 48 7 vo out.length (flatE out) ∧ Below w1.heap.size w1 wr) (fun _ _ vi _ => ps.length - (intOf vi).toNat)
  case atStart => exact ⟨0, [], Nat.zero_le _, rfl, rfl, (by show _ = _; simp [soFar, allR, allL]), by simp, by simp, World.ownsRow_nil _ _ _ _, Below.refl _ _⟩
  case round =>
    obtain ⟨i, out, hi, rfl, rfl, HA, hol, hgo, hown, hb⟩ := hrel
    have bxr := (hb.cell (p := ⟨w.heap.size, 0, none⟩) hz1).trans bx0
    have hwr := hb.size
    have hbw : Below w.heap.size w wr := nextB hbw1 (Nat.le_refl _) hb
    by_cases hlt : i < ps.length
    · obtain ⟨b, o, rfl, hbl, c0, c1, c2, c3, c4⟩ := (hN.row.below hbw (Nat.le_refl _)).pn hlt
      have okw := hN.each i hlt
      have hno := HOK.out i hlt
      have HG : Hid ((ps.map PN.nd).getD i default = (ps[i]).nd) := by show _ = _; simp [hlt]
      have HC : Hid (∀ w', Below w.heap.size w w' → PnAt w' b (o + i * 5) ps[i]) := by
        intro w' hb'
        obtain ⟨b', o', hA, _, hE⟩ := (hN.row.below hb' (Nat.le_refl _)).pn hlt
        cases hA
        exact hE
      clear c0 c1 c2 c3 c4
      generalize ps[i] = p at *
      obtain ⟨leaf, eA, eC, ents, kA, kC, keys, dA, dC, kids, bA, bC, buf⟩ := p
      obtain ⟨n1, n2, n3, n4⟩ := hno
      simp only [PN.nd] at n1 n2 n3 n4
      obtain ⟨e1, -, -, f1, -, -, -, -, ez, -, -, fz⟩ := okw
      simp only at e1 f1 ez fz
      have hi14 : i * 14 ≤ 28000 := by omega
      go_wp2
      go_loopw [8, 9, 11] (fun ve vo vk wq => ∃ (k : Nat) (out : List En), k ≤ (Nd.lst ⟨leaf, ents, keys, kids, buf⟩).length ∧ vk = .int .i64 k ∧ ve = .int .i64 0 ∧ Hid (allR low high (soFar (ps.map PN.nd) i k) = some out) ∧ out.length ≤ i * 14 + k ∧ (∀ y ∈ out, Good y.ru) ∧ wq.ownsRow w1.heap.size 48 7 vo out.length (flatE out) ∧ Below w1.heap.size w1 wq) (fun _ _ vk _ => (ents.length + buf.length) - (intOf vk).toNat)
      case atStart => exact ⟨0, out, Nat.zero_le _, rfl, rfl, HA, by omega, hgo, hown, hb⟩
      case round =>
        clear hgo hol hown HA hb bxr hwr hbw
        obtain ⟨k, out, hk, rfl, rfl, HA, hol, hgo, hown, hb'⟩ := hrel
        have hbw' : Below w.heap.size w wr := nextB hbw1 (Nat.le_refl _) hb'
        obtain ⟨Ao, Co, rfl, _, _, _, ORow⟩ := own_row hown
        have bx := (hb'.cell (p := ⟨w.heap.size, 0, none⟩) hz1).trans bx0
        have hwr : w1.heap.size ≤ wr.heap.size := hb'.size
        obtain ⟨c0, c1, c2, c3, c4⟩ := HC.out wr hbw'
        simp only at c0 c1 c2 c3 c4
        have hbr : b < wr.heap.size := by omega
        have hws : w.heap.size < wr.heap.size := by omega
        have hlst : (Nd.lst ⟨leaf, ents, keys, kids, buf⟩).length = ents.length + buf.length := by simp [Nd.lst]
        have hk' : k ≤ ents.length + buf.length := by omega
        have ktot : ents.length + buf.length ≤ 14 := by omega
        clear hk
        by_cases hkk : k < ents.length + buf.length
        · have HN : Hid (allR low high (soFar (ps.map PN.nd) i (k + 1)) = if inR low high ((ents ++ buf)[k]'(by simpa using hkk)) = true then insO (allR low high (soFar (ps.map PN.nd) i k)) ((ents ++ buf)[k]'(by simpa using hkk)) else allR low high (soFar (ps.map PN.nd) i k)) := by
            show _ = _
            have hk2 : k < (((ps.map PN.nd).getD i default).lst).length := by rw [HG.out]; show k < (Nd.lst ⟨leaf, ents, keys, kids, buf⟩).length; omega
            rw [soFar_snoc hk2, allR_snoc]
            have e : (((ps.map PN.nd).getD i default).lst)[k] = (ents ++ buf)[k]'(by simpa using hkk) := by
              congr 1
              rw [HG.out]
              rfl
            rw [e]
          have HNN : Hid (allR low high (soFar (ps.map PN.nd) i (k + 1)) = none → allR low high ((ps.map PN.nd).flatMap Nd.lst) = none) := by
            intro h
            obtain ⟨rest, hr⟩ := soFar_prefix (ns := ps.map PN.nd) (i := i) (k := k + 1) (by simpa using hlt)
            rw [hr]
            exact allR_none h
          by_cases hA : k < ents.length
          · obtain ⟨eb, eo, rfl, hebl, d0, d1, d2, d3, d4, d5, d6⟩ := (e1.below hbw' (Nat.le_refl _)).en hA
            have hgy := n3 _ (List.getElem_mem hA)
            have HN1 : Hid (allR low high (soFar (ps.map PN.nd) i (k + 1)) = if inR low high ents[k] = true then insO (allR low high (soFar (ps.map PN.nd) i k)) ents[k] else allR low high (soFar (ps.map PN.nd) i k)) := by
              have := HN.out
              rw [List.getElem_append_left hA] at this
              exact this
            clear HN
            have HN := HN1
            clear HN1
            generalize ents[k] = y at *
            obtain ⟨yk, yc, ys, ylo, yhi, yt, yl⟩ := y
            simp only at d0 d1 d2 d3 d4 d5 d6
            have hkA : (k : Int) < (ents.length : Int) := by omega
            have hkT : (k : Int) < (ents.length : Int) + (buf.length : Int) := by omega
            have hebr : eb < wr.heap.size := by omega
            by_cases hR : inR low high (En.mk yk yc ys ylo yhi yt yl) = true
            · have hR1 : low ≤ yk ∧ yk < high := by simpa [inR] using hR
              cases hI : ins out (En.mk yk yc ys ylo yhi yt yl) with
              | some zs =>
                have HA' : Hid (allR low high (soFar (ps.map PN.nd) i (k + 1)) = some zs) := by
                  show _ = _
                  rw [HN.out, if_pos hR, HA.out]
                  exact hI
                have hgz := ins_good hgy hgo hI
                have con : ∀ w', RowAt w'.heap.size w' Ao (flatE out) → Calls Tryd.prog 44 #[.slice Ao out.length Co, .agg #[.int .i64 yk, .int .i64 yc, .int .i64 ys, .int .i64 ylo, .int .i64 yhi, .int .i64 yt, .int .i64 yl]] w' fun e w'' => Below w'.heap.size w' w'' ∧ ∃ v, e = .returned (.tuple #[v, .int .i64 0]) ∧ w''.ownsRow w'.heap.size 48 7 v zs.length (flatE zs) := by
                  intro w' h
                  have := withEntry_any Ao Co out (En.mk yk yc ys ylo yhi yt yl) w' h (by omega) hgo hgy
                  rw [hI] at this
                  exact this
                clear HA HN hI hR
                go_wp2_with fail
                go_quiet (fail)
                have hwq : Below wr.heap.size wr (wr.drewN nq) := below_drewN (Below.refl _ _) nq
                have zq : Hid ((wr.drewN nq).heap.size = wr.heap.size) := rfl
                have bxq : (wr.drewN nq).cell? ⟨w.heap.size, 0, none⟩ = some (.slice (some ⟨b, o, none⟩) ps.length C) := bx
                have c1q : (wr.drewN nq).cell? ⟨b, o + i * 5 + 1, none⟩ = _ := c1
                have c4q : (wr.drewN nq).cell? ⟨b, o + i * 5 + 4, none⟩ = _ := c4
                have d0q : (wr.drewN nq).cell? ⟨eb, eo + k * 7, none⟩ = _ := d0
                have d1q : (wr.drewN nq).cell? ⟨eb, eo + k * 7 + 1, none⟩ = _ := d1
                have d2q : (wr.drewN nq).cell? ⟨eb, eo + k * 7 + 2, none⟩ = _ := d2
                have d3q : (wr.drewN nq).cell? ⟨eb, eo + k * 7 + 3, none⟩ = _ := d3
                have d4q : (wr.drewN nq).cell? ⟨eb, eo + k * 7 + 4, none⟩ = _ := d4
                have d5q : (wr.drewN nq).cell? ⟨eb, eo + k * 7 + 5, none⟩ = _ := d5
                have d6q : (wr.drewN nq).cell? ⟨eb, eo + k * 7 + 6, none⟩ = _ := d6
                have y1q : eb < (wr.drewN nq).heap.size := hebr
                have y2q : b < (wr.drewN nq).heap.size := hbr
                have y3q : w.heap.size < (wr.drewN nq).heap.size := hws
                clear bx c1 c4 d0 d1 d2 d3 d4 d5 d6
                generalize wr.drewN nq = wd at *
                have XB : ∀ o' : Obj, Below wr.heap.size wr (wd.alloc o') := fun o' => hwq.alloc hwq.size o'
                go_wp2_with (first | (go_at_call 44; refine (con _ ?_).mono ?_; exact (ORow.go (XB _) (Nat.le_refl _) (Nat.le_refl _)); rintro e w3 ⟨hb3, v3, rfl, hown3⟩))
                go_roundw
                case rel =>
                  go_light
                  have hs3 := hb3.size
                  simp at hs3
                  exact ⟨k + 1, zs, by simp [Nd.lst]; omega, by go_num, rfl, HA', by omega, hgz.1, own_mono hown3 (by have := zq.out; simp; omega), (nextB (nextB hb' (Nat.le_refl _) (XB _)) (Nat.le_refl _) hb3)⟩
                case measure => simp [intOf]; omega
              | none =>
                have HA' : Hid (allR low high ((ps.map PN.nd).flatMap Nd.lst) = none) := HNN.out (by
                  rw [HN.out, if_pos hR, HA.out]
                  exact hI)
                have con : ∀ w', RowAt w'.heap.size w' Ao (flatE out) → Calls Tryd.prog 44 #[.slice Ao out.length Co, .agg #[.int .i64 yk, .int .i64 yc, .int .i64 ys, .int .i64 ylo, .int .i64 yhi, .int .i64 yt, .int .i64 yl]] w' fun e w'' => Below w'.heap.size w' w'' ∧ e = .returned (.tuple #[.slice none 0 0, .int .i64 1]) := by
                  intro w' h
                  have := withEntry_any Ao Co out (En.mk yk yc ys ylo yhi yt yl) w' h (by omega) hgo hgy
                  rw [hI] at this
                  exact this
                clear HA HN hI hR
                go_wp2_with fail
                go_quiet (fail)
                have hwq : Below wr.heap.size wr (wr.drewN nq) := below_drewN (Below.refl _ _) nq
                have zq : Hid ((wr.drewN nq).heap.size = wr.heap.size) := rfl
                have bxq : (wr.drewN nq).cell? ⟨w.heap.size, 0, none⟩ = some (.slice (some ⟨b, o, none⟩) ps.length C) := bx
                have c1q : (wr.drewN nq).cell? ⟨b, o + i * 5 + 1, none⟩ = _ := c1
                have c4q : (wr.drewN nq).cell? ⟨b, o + i * 5 + 4, none⟩ = _ := c4
                have d0q : (wr.drewN nq).cell? ⟨eb, eo + k * 7, none⟩ = _ := d0
                have d1q : (wr.drewN nq).cell? ⟨eb, eo + k * 7 + 1, none⟩ = _ := d1
                have d2q : (wr.drewN nq).cell? ⟨eb, eo + k * 7 + 2, none⟩ = _ := d2
                have d3q : (wr.drewN nq).cell? ⟨eb, eo + k * 7 + 3, none⟩ = _ := d3
                have d4q : (wr.drewN nq).cell? ⟨eb, eo + k * 7 + 4, none⟩ = _ := d4
                have d5q : (wr.drewN nq).cell? ⟨eb, eo + k * 7 + 5, none⟩ = _ := d5
                have d6q : (wr.drewN nq).cell? ⟨eb, eo + k * 7 + 6, none⟩ = _ := d6
                have y1q : eb < (wr.drewN nq).heap.size := hebr
                have y2q : b < (wr.drewN nq).heap.size := hbr
                have y3q : w.heap.size < (wr.drewN nq).heap.size := hws
                clear bx c1 c4 d0 d1 d2 d3 d4 d5 d6
                generalize wr.drewN nq = wd at *
                have XB : ∀ o' : Obj, Below wr.heap.size wr (wd.alloc o') := fun o' => hwq.alloc hwq.size o'
                go_wp2_with (first | (go_at_call 44; refine (con _ ?_).mono ?_; exact (ORow.go (XB _) (Nat.le_refl _) (Nat.le_refl _)); rintro e w3 ⟨hb3, rfl⟩))
                refine HQ.out _ _ (nextB (nextB hbw' (Nat.le_refl _) (XB _)) (Nat.le_refl _) hb3) (fun ys hys => by rw [HA'.out] at hys; cases hys) (fun _ => rfl)
            · have HA' : Hid (allR low high (soFar (ps.map PN.nd) i (k + 1)) = some out) := by
                show _ = _
                rw [HN.out, if_neg hR, HA.out]
              have hR1 : ¬ (low ≤ yk ∧ yk < high) := by simpa [inR] using hR
              clear HA HN hR
              have hR2 : ¬ low ≤ yk ∨ (low ≤ yk ∧ ¬ yk < high) := by omega
              rcases hR2 with hR2 | hR2
              all_goals
                go_wp2_with fail
                go_quiet (fail)
                have hwq : Below wr.heap.size wr (wr.drewN nq) := below_drewN (Below.refl _ _) nq
                have zq : Hid ((wr.drewN nq).heap.size = wr.heap.size) := rfl
                have bxq : (wr.drewN nq).cell? ⟨w.heap.size, 0, none⟩ = some (.slice (some ⟨b, o, none⟩) ps.length C) := bx
                have c1q : (wr.drewN nq).cell? ⟨b, o + i * 5 + 1, none⟩ = _ := c1
                have c4q : (wr.drewN nq).cell? ⟨b, o + i * 5 + 4, none⟩ = _ := c4
                have d0q : (wr.drewN nq).cell? ⟨eb, eo + k * 7, none⟩ = _ := d0
                have d1q : (wr.drewN nq).cell? ⟨eb, eo + k * 7 + 1, none⟩ = _ := d1
                have d2q : (wr.drewN nq).cell? ⟨eb, eo + k * 7 + 2, none⟩ = _ := d2
                have d3q : (wr.drewN nq).cell? ⟨eb, eo + k * 7 + 3, none⟩ = _ := d3
                have d4q : (wr.drewN nq).cell? ⟨eb, eo + k * 7 + 4, none⟩ = _ := d4
                have d5q : (wr.drewN nq).cell? ⟨eb, eo + k * 7 + 5, none⟩ = _ := d5
                have d6q : (wr.drewN nq).cell? ⟨eb, eo + k * 7 + 6, none⟩ = _ := d6
                have y1q : eb < (wr.drewN nq).heap.size := hebr
                have y2q : b < (wr.drewN nq).heap.size := hbr
                have y3q : w.heap.size < (wr.drewN nq).heap.size := hws
                clear bx c1 c4 d0 d1 d2 d3 d4 d5 d6
                generalize wr.drewN nq = wd at *
                have XB : ∀ o' : Obj, Below wr.heap.size wr (wd.alloc o') := fun o' => hwq.alloc hwq.size o'
                go_wp2_with fail
                go_roundw
                case rel =>
                  go_light
                  exact ⟨k + 1, out, by simp [Nd.lst]; omega, by go_num, rfl, HA', by omega, hgo, own_of_block hown (fun k hk => (XB _).block k (hown.lt k hk).2), nextB hb' (Nat.le_refl _) (XB _)⟩
                case measure => simp [intOf]; omega
          · obtain ⟨k2, hk2⟩ : ∃ k2, k = ents.length + k2 := ⟨k - ents.length, by omega⟩
            have hB2 : k2 < buf.length := by omega
            obtain ⟨eb, eo, rfl, hebl, d0, d1, d2, d3, d4, d5, d6⟩ := (f1.below hbw' (Nat.le_refl _)).en hB2
            have hgy := n4 _ (List.getElem_mem hB2)
            have HN1 : Hid (allR low high (soFar (ps.map PN.nd) i (k + 1)) = if inR low high buf[k2] = true then insO (allR low high (soFar (ps.map PN.nd) i k)) buf[k2] else allR low high (soFar (ps.map PN.nd) i k)) := by
              have := HN.out
              rw [List.getElem_append_right (by omega)] at this
              simp only [show k - ents.length = k2 by omega] at this
              exact this
            clear HN
            have HN := HN1
            clear HN1
            generalize buf[k2] = y at *
            obtain ⟨yk, yc, ys, ylo, yhi, yt, yl⟩ := y
            simp only at d0 d1 d2 d3 d4 d5 d6
            have hkA : ¬ (k : Int) < (ents.length : Int) := by omega
            have hkT : (k : Int) < (ents.length : Int) + (buf.length : Int) := by omega
            have hebr : eb < wr.heap.size := by omega
            have hki : (k : Int) - (ents.length : Int) = (k2 : Int) := by omega
            have hkw : IntKind.i64.wrap (k2 : Int) = (k2 : Int) := by rw [IntKind.wrap_i64]; omega
            have j0 : (0 : Int) ≤ (k2 : Int) := by omega
            have j1 : (k2 : Int) < (buf.length : Int) := by omega
            have j2 : (0 : Int) ≤ (i : Int) := by omega
            have j3 : (i : Int) < (ps.length : Int) := by omega
            have HK2 : Hid (k = ents.length + k2) := hk2
            clear hk2
            by_cases hR : inR low high (En.mk yk yc ys ylo yhi yt yl) = true
            · have hR1 : low ≤ yk ∧ yk < high := by simpa [inR] using hR
              cases hI : ins out (En.mk yk yc ys ylo yhi yt yl) with
              | some zs =>
                have HA' : Hid (allR low high (soFar (ps.map PN.nd) i (k + 1)) = some zs) := by
                  show _ = _
                  rw [HN.out, if_pos hR, HA.out]
                  exact hI
                have hgz := ins_good hgy hgo hI
                have con : ∀ w', RowAt w'.heap.size w' Ao (flatE out) → Calls Tryd.prog 44 #[.slice Ao out.length Co, .agg #[.int .i64 yk, .int .i64 yc, .int .i64 ys, .int .i64 ylo, .int .i64 yhi, .int .i64 yt, .int .i64 yl]] w' fun e w'' => Below w'.heap.size w' w'' ∧ ∃ v, e = .returned (.tuple #[v, .int .i64 0]) ∧ w''.ownsRow w'.heap.size 48 7 v zs.length (flatE zs) := by
                  intro w' h
                  have := withEntry_any Ao Co out (En.mk yk yc ys ylo yhi yt yl) w' h (by omega) hgo hgy
                  rw [hI] at this
                  exact this
                clear HA HN hI hR
                go_wp2_with fail
                go_quiet (fail)
                have hwq : Below wr.heap.size wr (wr.drewN nq) := below_drewN (Below.refl _ _) nq
                have zq : Hid ((wr.drewN nq).heap.size = wr.heap.size) := rfl
                have bxq : (wr.drewN nq).cell? ⟨w.heap.size, 0, none⟩ = some (.slice (some ⟨b, o, none⟩) ps.length C) := bx
                have c1q : (wr.drewN nq).cell? ⟨b, o + i * 5 + 1, none⟩ = _ := c1
                have c4q : (wr.drewN nq).cell? ⟨b, o + i * 5 + 4, none⟩ = _ := c4
                have d0q : (wr.drewN nq).cell? ⟨eb, eo + k2 * 7, none⟩ = _ := d0
                have d1q : (wr.drewN nq).cell? ⟨eb, eo + k2 * 7 + 1, none⟩ = _ := d1
                have d2q : (wr.drewN nq).cell? ⟨eb, eo + k2 * 7 + 2, none⟩ = _ := d2
                have d3q : (wr.drewN nq).cell? ⟨eb, eo + k2 * 7 + 3, none⟩ = _ := d3
                have d4q : (wr.drewN nq).cell? ⟨eb, eo + k2 * 7 + 4, none⟩ = _ := d4
                have d5q : (wr.drewN nq).cell? ⟨eb, eo + k2 * 7 + 5, none⟩ = _ := d5
                have d6q : (wr.drewN nq).cell? ⟨eb, eo + k2 * 7 + 6, none⟩ = _ := d6
                have y1q : eb < (wr.drewN nq).heap.size := hebr
                have y2q : b < (wr.drewN nq).heap.size := hbr
                have y3q : w.heap.size < (wr.drewN nq).heap.size := hws
                clear bx c1 c4 d0 d1 d2 d3 d4 d5 d6
                generalize wr.drewN nq = wd at *
                have XB : ∀ o' : Obj, Below wr.heap.size wr ((wd.alloc o').drew) := fun o' => (hwq.alloc hwq.size o').drew
                have m1 : ¬ eb = wd.heap.size := by omega
                have m2 : ¬ b = wd.heap.size := by omega
                have m3 : ¬ w.heap.size = wd.heap.size := by omega
                go_wp2_with fail
                go_region_held3 (fun w' => w'.cell? ⟨w.heap.size, 0, none⟩ = some (.slice (some ⟨b, o, none⟩) ps.length C) ∧ w'.cell? ⟨b, o + i * 5 + 1, none⟩ = some (.slice eA ents.length eC) ∧ w'.cell? ⟨b, o + i * 5 + 4, none⟩ = some (.slice (some ⟨eb, eo, none⟩) buf.length bC) ∧ w'.cell? ⟨eb, eo + k2 * 7, none⟩ = some (.int .i64 yk) ∧ w'.cell? ⟨eb, eo + k2 * 7 + 1, none⟩ = some (.int .i64 yc) ∧ w'.cell? ⟨eb, eo + k2 * 7 + 2, none⟩ = some (.int .i64 ys) ∧ w'.cell? ⟨eb, eo + k2 * 7 + 3, none⟩ = some (.int .i64 ylo) ∧ w'.cell? ⟨eb, eo + k2 * 7 + 4, none⟩ = some (.int .i64 yhi) ∧ w'.cell? ⟨eb, eo + k2 * 7 + 5, none⟩ = some (.int .i64 yt) ∧ w'.cell? ⟨eb, eo + k2 * 7 + 6, none⟩ = some (.int .i64 yl)) (go_keep) (fail)
                go_wp2_with (first | (go_at_call 44; refine (con _ ?_).mono ?_; exact (ORow.go (XB _) (Nat.le_refl _) (Nat.le_refl _)); rintro e w3 ⟨hb3, v3, rfl, hown3⟩))
                go_roundw
                case rel =>
                  go_light
                  have hs3 := hb3.size
                  simp at hs3
                  exact ⟨k + 1, zs, by simp [Nd.lst]; omega, by go_num, rfl, HA', by omega, hgz.1, own_mono hown3 (by have := zq.out; simp; omega), (nextB (nextB hb' (Nat.le_refl _) (XB _)) (Nat.le_refl _) hb3)⟩
                case measure => simp [intOf]; omega
              | none =>
                have HA' : Hid (allR low high ((ps.map PN.nd).flatMap Nd.lst) = none) := HNN.out (by
                  rw [HN.out, if_pos hR, HA.out]
                  exact hI)
                have con : ∀ w', RowAt w'.heap.size w' Ao (flatE out) → Calls Tryd.prog 44 #[.slice Ao out.length Co, .agg #[.int .i64 yk, .int .i64 yc, .int .i64 ys, .int .i64 ylo, .int .i64 yhi, .int .i64 yt, .int .i64 yl]] w' fun e w'' => Below w'.heap.size w' w'' ∧ e = .returned (.tuple #[.slice none 0 0, .int .i64 1]) := by
                  intro w' h
                  have := withEntry_any Ao Co out (En.mk yk yc ys ylo yhi yt yl) w' h (by omega) hgo hgy
                  rw [hI] at this
                  exact this
                clear HA HN hI hR
                go_wp2_with fail
                go_quiet (fail)
                have hwq : Below wr.heap.size wr (wr.drewN nq) := below_drewN (Below.refl _ _) nq
                have zq : Hid ((wr.drewN nq).heap.size = wr.heap.size) := rfl
                have bxq : (wr.drewN nq).cell? ⟨w.heap.size, 0, none⟩ = some (.slice (some ⟨b, o, none⟩) ps.length C) := bx
                have c1q : (wr.drewN nq).cell? ⟨b, o + i * 5 + 1, none⟩ = _ := c1
                have c4q : (wr.drewN nq).cell? ⟨b, o + i * 5 + 4, none⟩ = _ := c4
                have d0q : (wr.drewN nq).cell? ⟨eb, eo + k2 * 7, none⟩ = _ := d0
                have d1q : (wr.drewN nq).cell? ⟨eb, eo + k2 * 7 + 1, none⟩ = _ := d1
                have d2q : (wr.drewN nq).cell? ⟨eb, eo + k2 * 7 + 2, none⟩ = _ := d2
                have d3q : (wr.drewN nq).cell? ⟨eb, eo + k2 * 7 + 3, none⟩ = _ := d3
                have d4q : (wr.drewN nq).cell? ⟨eb, eo + k2 * 7 + 4, none⟩ = _ := d4
                have d5q : (wr.drewN nq).cell? ⟨eb, eo + k2 * 7 + 5, none⟩ = _ := d5
                have d6q : (wr.drewN nq).cell? ⟨eb, eo + k2 * 7 + 6, none⟩ = _ := d6
                have y1q : eb < (wr.drewN nq).heap.size := hebr
                have y2q : b < (wr.drewN nq).heap.size := hbr
                have y3q : w.heap.size < (wr.drewN nq).heap.size := hws
                clear bx c1 c4 d0 d1 d2 d3 d4 d5 d6
                generalize wr.drewN nq = wd at *
                have XB : ∀ o' : Obj, Below wr.heap.size wr ((wd.alloc o').drew) := fun o' => (hwq.alloc hwq.size o').drew
                have m1 : ¬ eb = wd.heap.size := by omega
                have m2 : ¬ b = wd.heap.size := by omega
                have m3 : ¬ w.heap.size = wd.heap.size := by omega
                go_wp2_with fail
                go_region_held3 (fun w' => w'.cell? ⟨w.heap.size, 0, none⟩ = some (.slice (some ⟨b, o, none⟩) ps.length C) ∧ w'.cell? ⟨b, o + i * 5 + 1, none⟩ = some (.slice eA ents.length eC) ∧ w'.cell? ⟨b, o + i * 5 + 4, none⟩ = some (.slice (some ⟨eb, eo, none⟩) buf.length bC) ∧ w'.cell? ⟨eb, eo + k2 * 7, none⟩ = some (.int .i64 yk) ∧ w'.cell? ⟨eb, eo + k2 * 7 + 1, none⟩ = some (.int .i64 yc) ∧ w'.cell? ⟨eb, eo + k2 * 7 + 2, none⟩ = some (.int .i64 ys) ∧ w'.cell? ⟨eb, eo + k2 * 7 + 3, none⟩ = some (.int .i64 ylo) ∧ w'.cell? ⟨eb, eo + k2 * 7 + 4, none⟩ = some (.int .i64 yhi) ∧ w'.cell? ⟨eb, eo + k2 * 7 + 5, none⟩ = some (.int .i64 yt) ∧ w'.cell? ⟨eb, eo + k2 * 7 + 6, none⟩ = some (.int .i64 yl)) (go_keep) (fail)
                go_wp2_with (first | (go_at_call 44; refine (con _ ?_).mono ?_; exact (ORow.go (XB _) (Nat.le_refl _) (Nat.le_refl _)); rintro e w3 ⟨hb3, rfl⟩))
                refine HQ.out _ _ (nextB (nextB hbw' (Nat.le_refl _) (XB _)) (Nat.le_refl _) hb3) (fun ys hys => by rw [HA'.out] at hys; cases hys) (fun _ => rfl)
            · have HA' : Hid (allR low high (soFar (ps.map PN.nd) i (k + 1)) = some out) := by
                show _ = _
                rw [HN.out, if_neg hR, HA.out]
              have hR1 : ¬ (low ≤ yk ∧ yk < high) := by simpa [inR] using hR
              clear HA HN hR
              have hR2 : ¬ low ≤ yk ∨ (low ≤ yk ∧ ¬ yk < high) := by omega
              rcases hR2 with hR2 | hR2
              all_goals
                go_wp2_with fail
                go_quiet (fail)
                have hwq : Below wr.heap.size wr (wr.drewN nq) := below_drewN (Below.refl _ _) nq
                have zq : Hid ((wr.drewN nq).heap.size = wr.heap.size) := rfl
                have bxq : (wr.drewN nq).cell? ⟨w.heap.size, 0, none⟩ = some (.slice (some ⟨b, o, none⟩) ps.length C) := bx
                have c1q : (wr.drewN nq).cell? ⟨b, o + i * 5 + 1, none⟩ = _ := c1
                have c4q : (wr.drewN nq).cell? ⟨b, o + i * 5 + 4, none⟩ = _ := c4
                have d0q : (wr.drewN nq).cell? ⟨eb, eo + k2 * 7, none⟩ = _ := d0
                have d1q : (wr.drewN nq).cell? ⟨eb, eo + k2 * 7 + 1, none⟩ = _ := d1
                have d2q : (wr.drewN nq).cell? ⟨eb, eo + k2 * 7 + 2, none⟩ = _ := d2
                have d3q : (wr.drewN nq).cell? ⟨eb, eo + k2 * 7 + 3, none⟩ = _ := d3
                have d4q : (wr.drewN nq).cell? ⟨eb, eo + k2 * 7 + 4, none⟩ = _ := d4
                have d5q : (wr.drewN nq).cell? ⟨eb, eo + k2 * 7 + 5, none⟩ = _ := d5
                have d6q : (wr.drewN nq).cell? ⟨eb, eo + k2 * 7 + 6, none⟩ = _ := d6
                have y1q : eb < (wr.drewN nq).heap.size := hebr
                have y2q : b < (wr.drewN nq).heap.size := hbr
                have y3q : w.heap.size < (wr.drewN nq).heap.size := hws
                clear bx c1 c4 d0 d1 d2 d3 d4 d5 d6
                generalize wr.drewN nq = wd at *
                have XB : ∀ o' : Obj, Below wr.heap.size wr ((wd.alloc o').drew) := fun o' => (hwq.alloc hwq.size o').drew
                have m1 : ¬ eb = wd.heap.size := by omega
                have m2 : ¬ b = wd.heap.size := by omega
                have m3 : ¬ w.heap.size = wd.heap.size := by omega
                go_wp2_with fail
                go_region_held3 (fun w' => w'.cell? ⟨w.heap.size, 0, none⟩ = some (.slice (some ⟨b, o, none⟩) ps.length C) ∧ w'.cell? ⟨b, o + i * 5 + 1, none⟩ = some (.slice eA ents.length eC) ∧ w'.cell? ⟨b, o + i * 5 + 4, none⟩ = some (.slice (some ⟨eb, eo, none⟩) buf.length bC) ∧ w'.cell? ⟨eb, eo + k2 * 7, none⟩ = some (.int .i64 yk) ∧ w'.cell? ⟨eb, eo + k2 * 7 + 1, none⟩ = some (.int .i64 yc) ∧ w'.cell? ⟨eb, eo + k2 * 7 + 2, none⟩ = some (.int .i64 ys) ∧ w'.cell? ⟨eb, eo + k2 * 7 + 3, none⟩ = some (.int .i64 ylo) ∧ w'.cell? ⟨eb, eo + k2 * 7 + 4, none⟩ = some (.int .i64 yhi) ∧ w'.cell? ⟨eb, eo + k2 * 7 + 5, none⟩ = some (.int .i64 yt) ∧ w'.cell? ⟨eb, eo + k2 * 7 + 6, none⟩ = some (.int .i64 yl)) (go_keep) (fail)
                go_wp2_with fail
                go_roundw
                case rel =>
                  go_light
                  exact ⟨k + 1, out, by simp [Nd.lst]; omega, by go_num, rfl, HA', by omega, hgo, own_of_block hown (fun k hk => (XB _).block k (hown.lt k hk).2), nextB hb' (Nat.le_refl _) (XB _)⟩
                case measure => simp [intOf]; omega
        · obtain rfl : k = ents.length + buf.length := by omega
          have HA' : Hid (allR low high (soFar (ps.map PN.nd) (i + 1) 0) = some out) := by
            show _ = _
            rw [← soFar_next (by simpa using hlt), HG.out]
            have := HA.out
            rw [← hlst] at this
            exact this
          have hck : ¬ ((ents.length : Int) + (buf.length : Int)) < (ents.length : Int) + (buf.length : Int) := by omega
          clear HA
          go_wp2_with fail
          go_quiet (fail)
          go_wp2
          go_roundw
          case rel =>
            go_light
            exact ⟨i + 1, out, by omega, by go_num, rfl, HA', by omega, hgo, own_of_block hown (fun _ _ => rfl), below_drewN hb' _⟩
          case measure => simp [intOf]; omega
    · obtain rfl : i = ps.length := by omega
      have HE : Hid (allR low high ((ps.map PN.nd).flatMap Nd.lst) = some out) := by
        have := HA.out
        rw [show ps.length = (ps.map PN.nd).length by simp, soFar_end] at this
        exact this
      clear HA
      go_wp2
      refine HQ.out _ _ hbw (fun ys hys => ?_) (fun hn => by rw [HE.out] at hn; cases hn)
      rw [HE.out] at hys
      cases hys
      exact ⟨_, rfl, own_mono hown (by omega)⟩

end Go.Proofs.YtlojfgdpmaigmafDoor

/- The document's GotOf: what a tree knows of a key. -/
namespace Go.Proofs.YtlojfgdpmaigmafDoor
open Go.RowKit Plain

end Go.Proofs.YtlojfgdpmaigmafDoor

/- What is known of a key: the visitor of tree.knownAt. -/
namespace Go.Proofs.YtlojfgdpmaigmafDoor
open Go.RowKit Plain

end Go.Proofs.YtlojfgdpmaigmafDoor

/- A walk that calls a visitor: what the visitor may turn, and what it leaves. -/
namespace Go.Proofs.YtlojfgdpmaigmafDoor
open Go.RowKit Plain

/-- w' is w with new blocks, and with writes to the blocks that X names alone; no block that was there comes to be named. -/
structure Turned (X : World → Nat → Prop) (w w' : World) : Prop where
  os : w'.os = w.os
  tape : w'.tape = w.tape
  output : w'.output = w.output
  size : w.heap.size ≤ w'.heap.size
  block : ∀ k, k < w.heap.size → ¬ X w k → w'.heap[k]? = w.heap[k]?
  back : ∀ k, k < w.heap.size → X w' k → X w k

section
variable {X : World → Nat → Prop} {w w' w'' : World}
theorem Turned.refl (X : World → Nat → Prop) (w : World) : Turned X w w := ⟨rfl, rfl, rfl, Nat.le_refl _, fun _ _ _ => rfl, fun _ _ h => h⟩
theorem Turned.trans (h : Turned X w w') (k : Turned X w' w'') : Turned X w w'' :=
  ⟨k.os.trans h.os, k.tape.trans h.tape, k.output.trans h.output, Nat.le_trans h.size k.size,
   fun i hi hx => (k.block i (Nat.lt_of_lt_of_le hi h.size) (fun hx' => hx (h.back i hi hx'))).trans (h.block i hi hx),
   fun i hi hx => h.back i hi (k.back i (Nat.lt_of_lt_of_le hi h.size) hx)⟩
theorem Turned.of_below (h : Below w.heap.size w w') (hX : ∀ k, X w' k → X w k) : Turned X w w' :=
  ⟨h.os, h.tape, h.output, h.size, fun k hk _ => h.block k hk, fun k _ hx => hX k hx⟩
theorem Turned.below (h : Turned X w w') {B : Nat} (hB : B ≤ w.heap.size) (hx : ∀ k, X w k → B ≤ k) : Below B w w' :=
  ⟨h.os, h.tape, h.output, h.size, fun k hk => h.block k (by omega) (fun hm => by have := hx k hm; omega)⟩
theorem Turned.far (h : Turned X w w') {B : Nat} (hB : B ≤ w.heap.size) (hx : ∀ k, X w k → B ≤ k) : ∀ k, X w' k → B ≤ k := fun k hk => by
  by_cases hl : k < w.heap.size
  · exact hx k (h.back k hl hk)
  · omega
theorem Turned.row (h : Turned X w w') {b : Nat} {t : TypeId} {vs : List Value} (hr : RowL w b t vs) (hx : ¬ X w b) : RowL w' b t vs := hr.of_block (h.block b hr.lt hx)
end

/-- The nodes that a walk from n on down comes to. -/
def Reach (ns : List Nd) : Nat → Int → Prop
  | 0, _ => False
  | f + 1, n => 0 ≤ n ∧ n < ns.length ∧ (ns.getD n.toNat default).kids.length ≤ (ns.getD n.toNat default).keys.length + 1 ∧ ∀ d ∈ (ns.getD n.toNat default).kids, Reach ns f d

def itK (g : Int → List En) (low high : Int) (kids keys : List Int) (pr : Option Int) (i : Nat) : List En :=
  if skipB low high (if i = 0 then pr else keys[i - 1]?) keys[i]? = true then [] else g (kids.getD i 0)

theorem WlK_range (g : Int → List En) (low high : Int) : ∀ (kids keys : List Int) (pr : Option Int), WlK g low high kids keys pr = (List.range kids.length).flatMap (itK g low high kids keys pr)
  | [], _, _ => by simp [WlK]
  | d :: ds, keys, pr => by
    have ih := WlK_range g low high ds keys.tail keys.head?
    have e : ∀ i, itK g low high (d :: ds) keys pr (i + 1) = itK g low high ds keys.tail keys.head? i := fun i => by
      unfold itK
      cases i with
      | zero => cases keys <;> simp
      | succ j => cases keys <;> simp
    have e0 : itK g low high (d :: ds) keys pr 0 = if skipB low high pr keys.head? = true then [] else g d := by
      show (if skipB low high pr keys[0]? = true then [] else g d) = _
      rw [show keys[0]? = keys.head? by cases keys <;> rfl]
    rw [WlK, ih, List.length_cons, List.range_succ_eq_map, List.flatMap_cons, List.flatMap_map, e0]
    simp only [Nat.succ_eq_add_one, e]

theorem flat_le (f : Nat → List En) {i n : Nat} (h : i ≤ n) : ((List.range i).flatMap f).length ≤ ((List.range n).flatMap f).length := by
  obtain ⟨d, rfl⟩ := Nat.le.dest h
  rw [List.range_add, List.flatMap_append, List.length_append]
  omega

theorem Wk_kid {g : Int → Int → Int → St → Option (St × List Int)} : ∀ (ds keys : List Int) (lo hi : Int) (S : St) (r : St × List Int), Wk g ds keys lo hi S = some r → ∀ d ∈ ds, ∃ lo' hi' S' r', g d lo' hi' S' = some r'
  | [], _, _, _, _, _, _, d, hd => by simp at hd
  | x :: ds, keys, lo, hi, S, r, hr, d, hd => by
    unfold Wk at hr
    split at hr
    · cases hr
    · rename_i S1 l1 h1
      rcases List.mem_cons.1 hd with rfl | hd
      · exact ⟨_, _, _, _, h1⟩
      · split at hr
        · cases hr
        · rename_i S2 l2 h2
          exact Wk_kid ds _ _ _ _ _ h2 d hd

theorem W_reach {ns : List Nd} : ∀ (f : Nat) (n lo hi : Int) (S : St) (r : St × List Int), W ns f n lo hi S = some r → Reach ns f n := by
  intro f
  induction f with
  | zero => intro n lo hi S r h; cases h
  | succ f ih =>
    intro n lo hi S r h
    unfold W at h
    split at h
    · cases h
    · rename_i hc
      refine ⟨by omega, by omega, ?_⟩
      split at h
      · split at h
        · rename_i hl
          simp only [leafB, Bool.and_eq_true, List.isEmpty_iff] at hl
          obtain ⟨⟨⟨⟨⟨h1, h2⟩, h3⟩, _⟩, _⟩, _⟩ := hl
          rw [h1, h2]
          simp
        · cases h
      · split at h
        · rename_i hl
          simp only [innerB, Bool.and_eq_true, List.isEmpty_iff, beq_iff_eq] at hl
          obtain ⟨⟨⟨⟨⟨h1, h2⟩, h3⟩, h4⟩, _⟩, _⟩ := hl
          refine ⟨by omega, fun d hd => ?_⟩
          obtain ⟨_, _, _, _, q⟩ := Wk_kid _ _ _ _ _ _ h d hd
          exact ih _ _ _ _ _ q
        · cases h

theorem treeC_W {ns : List Nd} {root : Int} (h : treeC ns root = 0) : ∃ r, W ns 12 root 0 1099511627776 [] = some r := by
  unfold treeC at h
  split at h
  · omega
  · cases hW : W ns 12 root 0 1099511627776 [] with
    | none => rw [hW] at h; simp at h
    | some p => exact ⟨p, rfl⟩

end Go.Proofs.YtlojfgdpmaigmafDoor

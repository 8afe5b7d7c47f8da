/- The seal of bytes: the program's walk. -/
import Derived.Test.YtlojfgdpmaigmafDoorReadPts
import Derived.Test.YtlojfgdpmaigmafDoorP05
import Derived.Test.YtlojfgdpmaigmafDoorP13
namespace Go.Proofs.YtlojfgdpmaigmafDoor
open Go.RowKit Plain

theorem seal_take {bs : List Int} {i : Nat} (h : i < bs.length) : (bs.take (i + 1)).foldl sealS (1, 0) = sealS ((bs.take i).foldl sealS (1, 0)) bs[i] := by
  rw [List.take_succ_eq_append_getElem h, List.foldl_append]
  rfl

theorem seal_trng (bs : List Int) (i : Nat) : 0 ≤ ((bs.take i).foldl sealS (1, 0)).1 ∧ ((bs.take i).foldl sealS (1, 0)).1 < 65521 ∧ 0 ≤ ((bs.take i).foldl sealS (1, 0)).2 ∧ ((bs.take i).foldl sealS (1, 0)).2 < 65521 := sealF_rng (bs.take i)

set_option maxRecDepth 20000 in
set_option maxHeartbeats 2000000 in
theorem seal_any (A : Option Addr) (C : Nat) (bs : List Int) (w : World) (h : BytesAt w.heap.size w A C bs) (hu : U8 bs) :
    Calls Tryd.prog 11 #[.slice A bs.length C] w fun e w' => ∃ g, e = .returned (.slice (some ⟨g, 0, none⟩) 4 4) ∧ w.heap.size ≤ g ∧ RowL w' g 5 (u8s (sealP bs)) ∧ Below w.heap.size w w' := by
  have hz := h.1
  have hz2 := h.2.1
  go_enter Tryd.func11, Tryd.ntmps11
  go_wp2_with fail
  go_loopw [3, 4, 6, 9] (fun vx vy _ vi wr => ∃ i : Nat, i ≤ bs.length ∧ vi = .int .i64 (i : Int) ∧ vx = .int .i64 ((bs.take i).foldl sealS (1, 0)).1 ∧ vy = .int .i64 ((bs.take i).foldl sealS (1, 0)).2 ∧ wr = w) (fun _ _ _ vi _ => bs.length - (intOf vi).toNat)
  case atStart => exact ⟨0, Nat.zero_le _, rfl, rfl, rfl, rfl⟩
  case round =>
    obtain ⟨i, hi, rfl, rfl, rfl, rfl⟩ := hrel
    obtain ⟨x0, x1, y0, y1⟩ := seal_trng bs i
    by_cases hlt : i < bs.length
    · obtain ⟨b, o, rfl, hbl, hc⟩ := h.row.byte hlt
      obtain ⟨c0, c1⟩ := hu _ (List.getElem_mem hlt)
      have HE := hideF (seal_take hlt)
      obtain ⟨P, hP⟩ : ∃ P, (bs.take i).foldl sealS (1, 0) = P := ⟨_, rfl⟩
      rw [hP] at HE x0 x1 y0 y1 ⊢
      obtain ⟨x, y⟩ := P
      obtain ⟨c, hcc⟩ : ∃ c, bs[i] = c := ⟨_, rfl⟩
      rw [hcc] at HE hc c0 c1
      simp only at x0 x1 y0 y1 ⊢
      have k0 : IntKind.i64.wrap c = c := by rw [IntKind.wrap_i64]; omega
      have k1 : IntKind.i64.wrap (x + c) = x + c := by rw [IntKind.wrap_i64]; omega
      have k2 : (x + c).tmod 65521 = (x + c) % 65521 := Int.tmod_eq_emod_of_nonneg (by omega)
      have k3 : IntKind.i64.wrap (y + (x + c) % 65521) = y + (x + c) % 65521 := by rw [IntKind.wrap_i64]; omega
      have k4 : (y + (x + c) % 65521).tmod 65521 = (y + (x + c) % 65521) % 65521 := Int.tmod_eq_emod_of_nonneg (by omega)
      clear hP hcc hu h
      have q0 : (0 : Int) ≤ (i : Int) := by omega
      have q1 : (i : Int) < (bs.length : Int) := by omega
      go_wp2_with fail
      exact ⟨⟨i + 1, hlt, by go_num, by rw [HE.out]; rfl, by rw [HE.out]; exact congrArg _ (show _ = (y + (x + c) % 65521) % 65521 by omega), trivial⟩, by simp only [intOf]; omega⟩
    · have hni : ¬ ((i : Int) < (bs.length : Int)) := by omega
      rw [List.take_of_length_le (show bs.length ≤ i by omega)] at x0 x1 y0 y1 ⊢
      have HP : Hid (sealP bs = fourB (bs.foldl sealS (1, 0))) := rfl
      obtain ⟨P, hP⟩ : ∃ P, bs.foldl sealS (1, 0) = P := ⟨_, rfl⟩
      rw [hP] at HP x0 x1 y0 y1 ⊢
      obtain ⟨x, y⟩ := P
      simp only at x0 x1 y0 y1 ⊢
      clear hP
      go_wp2_with fail
      go_ret
      refine ⟨wr.heap.size, rfl, Nat.le_refl _, ?_, (Below.refl _ _).alloc (Nat.le_refl _) _⟩
      rw [HP.out]
      exact rowL_alloc wr _ _

end Go.Proofs.YtlojfgdpmaigmafDoor

/- The document's reader of bytes: its walks. -/
namespace Go.Proofs.YtlojfgdpmaigmafDoor
open Go.RowKit Plain

set_option maxRecDepth 20000 in
theorem sealOf_any (A : Option Addr) (C : Nat) (bs : List Int) (w : World) (h : BytesAt w.heap.size w A C bs) (hu : U8 bs) :
    Calls Tryd.prog 16 #[.slice A bs.length C] w fun e w' => ∃ g, e = .returned (.slice (some ⟨g, 0, none⟩) 4 4) ∧ w.heap.size ≤ g ∧ RowL w' g 5 (u8s (sealP bs)) ∧ Below w.heap.size w w' := by
  have hz := h.1
  have hz2 := h.2.1
  go_enter Tryd.func16, Tryd.ntmps16
  go_wp2_with fail
  go_loopw [3, 4, 5] (fun vx vy vi wr => ∃ i : Nat, i ≤ bs.length ∧ vi = .int .i64 (i : Int) ∧ vx = .int .i64 ((bs.take i).foldl sealS (1, 0)).1 ∧ vy = .int .i64 ((bs.take i).foldl sealS (1, 0)).2 ∧ wr = w) (fun _ _ vi _ => bs.length - (intOf vi).toNat)
  case atStart => exact ⟨0, Nat.zero_le _, rfl, rfl, rfl, rfl⟩
  case round =>
    obtain ⟨i, hi, rfl, rfl, rfl, rfl⟩ := hrel
    obtain ⟨x0, x1, y0, y1⟩ := seal_trng bs i
    by_cases hlt : i < bs.length
    · obtain ⟨b, o, rfl, hbl, hc⟩ := h.row.byte hlt
      obtain ⟨c0, c1⟩ := hu _ (List.getElem_mem hlt)
      have HE := hideF (seal_take hlt)
      obtain ⟨P, hP⟩ : ∃ P, (bs.take i).foldl sealS (1, 0) = P := ⟨_, rfl⟩
      rw [hP] at HE x0 x1 y0 y1 ⊢
      obtain ⟨x, y⟩ := P
      obtain ⟨c, hcc⟩ : ∃ c, bs[i] = c := ⟨_, rfl⟩
      rw [hcc] at HE hc c0 c1
      simp only at x0 x1 y0 y1 ⊢
      have k0 : IntKind.i64.wrap c = c := by rw [IntKind.wrap_i64]; omega
      have k1 : IntKind.i64.wrap (x + c) = x + c := by rw [IntKind.wrap_i64]; omega
      have k2 : (x + c).tmod 65521 = (x + c) % 65521 := Int.tmod_eq_emod_of_nonneg (by omega)
      have k3 : IntKind.i64.wrap ((x + c) % 65521 + y) = (x + c) % 65521 + y := by rw [IntKind.wrap_i64]; omega
      have k4 : ((x + c) % 65521 + y).tmod 65521 = ((x + c) % 65521 + y) % 65521 := Int.tmod_eq_emod_of_nonneg (by omega)
      clear hP hcc hu h
      have q0 : (0 : Int) ≤ (i : Int) := by omega
      have q1 : (i : Int) < (bs.length : Int) := by omega
      go_wp2_with fail
      exact ⟨⟨i + 1, hlt, by go_num, by rw [HE.out]; rfl, by rw [HE.out]; exact congrArg _ (show (x + c + y) % 65521 = (y + (x + c) % 65521) % 65521 by omega), trivial⟩, by simp only [intOf]; omega⟩
    · have hni : ¬ ((i : Int) < (bs.length : Int)) := by omega
      rw [List.take_of_length_le (show bs.length ≤ i by omega)] at x0 x1 y0 y1 ⊢
      have HP : Hid (sealP bs = fourB (bs.foldl sealS (1, 0))) := rfl
      obtain ⟨P, hP⟩ : ∃ P, bs.foldl sealS (1, 0) = P := ⟨_, rfl⟩
      rw [hP] at HP x0 x1 y0 y1 ⊢
      obtain ⟨x, y⟩ := P
      simp only at x0 x1 y0 y1 ⊢
      have k1 : x.tdiv 256 = x / 256 := Int.tdiv_eq_ediv_of_nonneg x0
      have k2 : y.tdiv 256 = y / 256 := Int.tdiv_eq_ediv_of_nonneg y0
      have k3 : x.tmod 256 = x % 256 := Int.tmod_eq_emod_of_nonneg x0
      have k4 : y.tmod 256 = y % 256 := Int.tmod_eq_emod_of_nonneg y0
      have w1 : IntKind.u8.wrap (x / 256) = x / 256 := by simp [IntKind.wrap, IntKind.bits, IntKind.signed]; omega
      have w2 : IntKind.u8.wrap (y / 256) = y / 256 := by simp [IntKind.wrap, IntKind.bits, IntKind.signed]; omega
      have w3 : IntKind.u8.wrap (x % 256) = x % 256 := by simp [IntKind.wrap, IntKind.bits, IntKind.signed]
      have w4 : IntKind.u8.wrap (y % 256) = y % 256 := by simp [IntKind.wrap, IntKind.bits, IntKind.signed]
      have m1 : IntKind.i64.wrap (x / 256) = x / 256 := by rw [IntKind.wrap_i64]; omega
      have m2 : IntKind.i64.wrap (y / 256) = y / 256 := by rw [IntKind.wrap_i64]; omega
      clear hP
      go_wp2_with fail
      go_ret
      refine ⟨_, rfl, Nat.le_refl _, ?_, (Below.refl _ _).alloc (Nat.le_refl _) _⟩
      rw [HP.out]
      exact rowL_alloc _ _ _

end Go.Proofs.YtlojfgdpmaigmafDoor

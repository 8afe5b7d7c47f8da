/- file.Encode: its walk. -/
import Derived.Test.YtlojfgdpmaigmafDoorEncPure
import Derived.Test.YtlojfgdpmaigmafDoorP47
import Derived.BigQuiet
import Derived.Lib.SlBytesConst
namespace Go.Proofs.YtlojfgdpmaigmafDoor
open Go.RowKit Plain

set_option maxRecDepth 20000 in
set_option maxHeartbeats 2000000 in
theorem encode_bad (A : Option Addr) (C : Nat) (ss : List ByteArray) (t0 t1 t2 : TR) (f : Int) (w : World) (hZ : SzAt w) (hC : ss.length ≤ C) (hS : StrsAt w.heap.size w A ss) (h0 : t0.ok w) (h1 : t1.ok w) (h2 : t2.ok w)
    (hb : baseB ss f (t0.ps.map PN.nd) t0.r (t1.ps.map PN.nd) t1.r (t2.ps.map PN.nd) t2.r = false) :
    Calls Tryd.prog 4 #[.agg (baseV A C ss t0 t1 t2 f).toArray] w fun e w' => e = .returned (.tuple #[.slice none 0 0, .int .i64 7]) ∧ Below w.heap.size w w' := by
  have okup : ∀ (t : TR) (W : World), Below w.heap.size w W → t.ok w → t.ok W := fun t W hW ht => ⟨ht.1.up hW, ht.2.1, ht.2.2⟩
  have con := hideF fun W (hW : Below w.heap.size w W) => bcheck_any A C ss t0 t1 t2 f W (hZ.below hW) hC (hS.up hW) (okup t0 W hW h0) (okup t1 W hW h1) (okup t2 W hW h2) false hb
  have b0 : ∀ o : Obj, Below w.heap.size w (w.alloc o) := fun o => (Below.refl _ _).alloc (Nat.le_refl _) o
  obtain ⟨A0, C0, p0, r0⟩ := t0
  obtain ⟨A1, C1, p1, r1⟩ := t1
  obtain ⟨A2, C2, p2, r2⟩ := t2
  simp only [baseV] at *
  clear hb okup h0 h1 h2
  go_enter Tryd.func4, Tryd.ntmps4
  go_wp2_with (first
    | (go_at_call 6; refine (con.out _ (b0 _)).mono ?_; rintro e w1 ⟨rfl, hb1⟩))
  exact bodyPost_ret (v := .tuple #[.slice none 0 0, .int .i64 7]) (by simp [results, Tryd.results4, go_sem]) rfl ⟨rfl, nextB (b0 _) (Nat.le_refl _) hb1⟩

theorem mark_buf {w : World} : BufAt w.heap.size (w.alloc (.cells #[.int .u8 119, .int .u8 110] 5 (2, 3))) (.slice (some ⟨w.heap.size, 0, none⟩) 2 2) mark := by
  have hn : (w.alloc (.cells #[.int .u8 119, .int .u8 110] 5 (2, 3))).heap[w.heap.size]? = some (.cells #[.int .u8 119, .int .u8 110] 5 (2, 3)) := heap_alloc_new w _
  have hc : ∀ j, (w.alloc (.cells #[.int .u8 119, .int .u8 110] 5 (2, 3))).cell? ⟨w.heap.size, j, none⟩ = (#[Value.int .u8 119, Value.int .u8 110] : Array Value)[j]? := fun j => cell_of_row _ _ _ _ _ _ hn
  refine ⟨w.heap.size, 2, rfl, Nat.le_refl _, by simp, Nat.le_refl _, by omega, fun j hj => ⟨?_, ?_⟩, fun j u hu => ?_⟩
  · rw [hc, Array.getElem?_eq_getElem (by simpa using hj)]
    rfl
  · unfold World.frozen?
    rw [hn]
    simp
    omega
  · rw [hc]
    have h2 : (u8s mark)[j]? = (#[Value.int .u8 119, Value.int .u8 110] : Array Value)[j]? := by
      show ([Value.int .u8 119, Value.int .u8 110] : List Value)[j]? = _
      simp
    rw [← h2]
    exact hu

/-- What Encode answers, of a base that may be. -/
def EncTo (ss : List ByteArray) (f : Int) (L : List En) (w : World) (e : Ending) (w' : World) : Prop :=
  Below w.heap.size w w' ∧ (((10000 < L.length ∨ 200000 < (encB ss f L).length) ∧ e = .returned (.tuple #[.slice none 0 0, .int .i64 1])) ∨
    (L.length ≤ 10000 ∧ (encB ss f L).length ≤ 200000 ∧ ∃ v, e = .returned (.tuple #[v, .int .i64 0]) ∧ BufAt w.heap.size w' v (encB ss f L)))

set_option maxRecDepth 20000 in
set_option maxHeartbeats 8000000 in
theorem encode_any (A : Option Addr) (C : Nat) (ss : List ByteArray) (t0 t1 t2 : TR) (f : Int) (w : World) (hZ : SzAt w) (hC : ss.length ≤ C) (hS : StrsAt w.heap.size w A ss) (h0 : t0.ok w) (h1 : t1.ok w) (h2 : t2.ok w)
    (hb : baseB ss f (t0.ps.map PN.nd) t0.r (t1.ps.map PN.nd) t1.r (t2.ps.map PN.nd) t2.r = true) :
    Calls Tryd.prog 4 #[.agg (baseV A C ss t0 t1 t2 f).toArray] w (EncTo ss f (allP (t0.ps.map PN.nd) t0.r 0 1099511627776).2 w) := by
  rw [← allP_max]
  obtain ⟨hT, hz⟩ := tellB1 hb
  have okup : ∀ (t : TR) (W : World), Below w.heap.size w W → t.ok w → t.ok W := fun t W hW ht => ⟨ht.1.up hW, ht.2.1, ht.2.2⟩
  have con := hideF fun W (hW : Below w.heap.size w W) => bcheck_any A C ss t0 t1 t2 f W (hZ.below hW) hC (hS.up hW) (okup t0 W hW h0) (okup t1 W hW h1) (okup t2 W hW h2) true hb
  have conA := hideF fun W (hW : Below w.heap.size w W) => all_any t0.A t0.C t0.r 0 9223372036854775807 t0.ps W (okup t0 W hW h0).1 h0.2.1
  have hlen := allP_len (t0.ps.map PN.nd) t0.r 0 9223372036854775807
  obtain ⟨A0, C0, p0, r0⟩ := t0
  obtain ⟨A1, C1, p1, r1⟩ := t1
  obtain ⟨A2, C2, p2, r2⟩ := t2
  simp only [baseV] at *
  rw [hz] at conA
  obtain ⟨L, hL⟩ : ∃ L, (allP (p0.map PN.nd) r0 0 9223372036854775807).2 = L := ⟨_, rfl⟩
  rw [hL] at conA hlen hT ⊢
  have HT := hideF hT
  have HS := hideF hS
  clear hb okup h0 h1 h2 hz hL hT hS hZ
  unfold EncTo
  obtain ⟨EB, hEB⟩ : ∃ EB, encB ss f L = EB := ⟨_, rfl⟩
  rw [hEB]
  have HEB := hideF hEB
  clear hEB
  have b0 : ∀ o : Obj, Below w.heap.size w (w.alloc o) := fun o => (Below.refl _ _).alloc (Nat.le_refl _) o
  go_enter Tryd.func4, Tryd.ntmps4
  go_upto_region 7 with (first
    | (go_at_call 6; refine (con.out _ (b0 _)).mono ?_; rintro e w1 ⟨rfl, hb1⟩; have hb1' := nextB (b0 _) (Nat.le_refl _) hb1; have XB := hideF ((rowL_alloc w [.slice A ss.length C, .slice A0 p0.length C0, .int .i64 r0, .slice A1 p1.length C1, .int .i64 r1, .slice A2 p2.length C2, .int .i64 r2, .int .i64 f] 28).below hb1 (by simp)); have b := fun j => XB.out.cell j; have lb := XB.out.lt)
    | (go_at_call 7; refine (conA.out _ hb1').mono ?_; rintro e w2 ⟨hb2, v2, rfl, ho2⟩; obtain ⟨LA, LC, rfl, hnL, hlL, _, hrL⟩ := own_row ho2; have hb2' := nextB hb1' (Nat.le_refl _) hb2; have XC := hideF (XB.out.below hb2 XB.out.lt); have c := fun j => XC.out.cell j; have lc := XC.out.lt; clear b lb XB con conA))
  have HB2 := hideF hb2'
  have HR := hideF hrL
  clear hb1 hb1' hb2 hb2' ho2 hrL
  by_cases hm : 10000 < L.length
  · have hm' : (10000 : Int) < (L.length : Int) := by omega
    go_wp2_with fail
    exact bodyPost_ret (v := .tuple #[.slice none 0 0, .int .i64 1]) (by simp [results, Tryd.results4, go_sem]) rfl ⟨HB2.out, .inl ⟨.inl hm, rfl⟩⟩
  · have hm' : ¬ (10000 : Int) < (L.length : Int) := by omega
    obtain ⟨hl1, hl2, hl3⟩ := HT.out.len (by omega)
    have hfew := HT.out.few
    obtain ⟨bx, hbx⟩ : ∃ bx, bx = w.heap.size := ⟨_, rfl⟩
    have hbl : bx < w2.heap.size := by rw [hbx]; exact lc
    rw [← hbx] at XC c lc
    rw [← hbx]
    obtain ⟨e1, he1⟩ : ∃ e1, mark ++ encNames ss = e1 := ⟨_, rfl⟩
    obtain ⟨e2, he2⟩ : ∃ e2, e1 ++ sev f.toNat = e2 := ⟨_, rfl⟩
    obtain ⟨e3, he3⟩ : ∃ e3, e2 ++ (sev L.length ++ encPs 0 L) = e3 := ⟨_, rfl⟩
    have hH : encH ss f L = e3 := by
      rw [← he3, ← he2, ← he1]
      unfold encH encBody
      simp only [List.append_assoc]
    have he4 : e3 ++ sealP e3 = EB := by
      rw [← HEB.out, encB, hH]
    have hu : U8 e3 := fun b hb => encB_u8 ss f L b (by rw [HEB.out, ← he4]; exact List.mem_append_left _ hb)
    have z1 : e1.length ≤ 402 := by rw [← he1, List.length_append]; have : mark.length = 2 := rfl; omega
    have z2 : e2.length ≤ 411 := by rw [← he2, List.length_append]; omega
    have z3 : e3.length ≤ 1600411 := by rw [← he3, List.length_append]; omega
    have conN : Hid (∀ v W, w2.heap.size ≤ W.heap.size → Below w2.heap.size w2 W → BufAt w2.heap.size W v mark → Calls Tryd.prog 8 #[v, .slice A ss.length C] W fun e w' => ∃ v', e = .returned v' ∧ BufAt w2.heap.size w' v' e1 ∧ Grew W w' v v') := fun v W hW hb hv => by
      have k := appendNames_any w2.heap.size v mark A C ss W hW hv (((HS.out.row.below HB2.out (Nat.le_refl _)).mono HB2.out.size).below hb (Nat.le_refl _)) (by rw [he1]; omega) (by omega)
      rw [he1] at k
      exact k
    have conF : Hid (∀ v W, w2.heap.size ≤ W.heap.size → BufAt w2.heap.size W v e1 → Calls Tryd.prog 9 #[v, .int .i64 f] W fun e w' => ∃ v', e = .returned v' ∧ BufAt w2.heap.size w' v' e2 ∧ Grew W w' v v') := fun v W hW hv => by
      have k := appendInt_any w2.heap.size v e1 f W hW hv HT.out.f0 (by have := HT.out.f1; omega) (by omega)
      rw [he2] at k
      exact k
    have conP : Hid (∀ v W, w2.heap.size ≤ W.heap.size → Below w2.heap.size w2 W → BufAt w2.heap.size W v e2 → Calls Tryd.prog 10 #[v, .slice LA L.length LC] W fun e w' => ∃ v', e = .returned v' ∧ BufAt w2.heap.size w' v' e3 ∧ Grew W w' v v') := fun v W hW hb hv => by
      have k := appendPoints_any w2.heap.size v e2 LA LC L W hW hv (HR.out.below hb (Nat.le_refl _)) (by rw [he3]; omega) (by omega) HT.out.rise HT.out.told
      rw [he3] at k
      exact k
    have conS : Hid (∀ g cap W, BytesAt W.heap.size W (some ⟨g, 0, none⟩) cap e3 → Calls Tryd.prog 11 #[.slice (some ⟨g, 0, none⟩) e3.length cap] W fun e w' => ∃ g, e = .returned (.slice (some ⟨g, 0, none⟩) 4 4) ∧ W.heap.size ≤ g ∧ RowL w' g 5 (u8s (sealP e3)) ∧ Below W.heap.size W w') := fun g cap W h => seal_any _ _ _ _ h hu
    have HE4 := hideF he4
    clear hbx hH hu he1 he2 he3 he4 hl1 hl2 hl3
    have kc := fun (C' : Array Value) (n c : Nat) => Lib.run_convert_bytes_const (P := Tryd.prog) w2 29 5 C' n c Tryd.underlying29 (by kernel_rfl)
    go_upto_region 10 with fail
    have HM : Hid (BufAt w2.heap.size (w2.alloc (.cells #[.int .u8 119, .int .u8 110] 5 (2, 3))) (.slice (some ⟨w2.heap.size, 0, none⟩) 2 2) mark) := mark_buf
    have HW : Hid (Below w2.heap.size w2 (w2.alloc (.cells #[.int .u8 119, .int .u8 110] 5 (2, 3)))) := (Below.refl _ _).alloc (Nat.le_refl _) _
    obtain ⟨wm, hwm⟩ : ∃ wm, wm = w2.alloc (.cells #[.int .u8 119, .int .u8 110] 5 (2, 3)) := ⟨_, rfl⟩
    obtain ⟨vm, hvm⟩ : ∃ vm, vm = Value.slice (some ⟨w2.heap.size, 0, none⟩) 2 2 := ⟨_, rfl⟩
    rw [← hwm] at HM HW ⊢
    rw [← hvm] at HM ⊢
    have XD := hideF (XC.out.below HW.out hbl)
    have d := fun j => XD.out.cell j
    have ld := XD.out.lt
    clear hwm hvm c lc kc
    have P0 : True := trivial
    go_upto_region 14 with (first
      | (go_at_call 8; refine (conN.out vm wm HW.out.size HW.out HM.out).mono ?_; rintro e w3 ⟨v3, rfl, hbuf3, hg3⟩; have hb3 := hg3.below HM.out; have HW3 := hideF (HW.out.trans hb3); have X3 := hideF (XD.out.below hb3 hbl); have d3 := fun j => X3.out.cell j; have ld3 := X3.out.lt; clear d ld XD conN)
      | (go_at_call 9; refine (conF.out v3 w3 HW3.out.size hbuf3).mono ?_; rintro e w4 ⟨v4, rfl, hbuf4, hg4⟩; have hb4 := hg4.below hbuf3; have HW4 := hideF (HW3.out.trans hb4); clear d3 ld3 X3 conF)
      | (go_at_call 10; refine (conP.out v4 w4 HW4.out.size HW4.out hbuf4).mono ?_; rintro e w5 ⟨v5, rfl, hbuf5, hg5⟩; have hb5 := hg5.below hbuf4; have HW5 := hideF (HW4.out.trans hb5); obtain ⟨g5, cap5, hv5, hby5⟩ := hbuf5.bytes; have HF5 := hideF hbuf5; clear hbuf5; subst hv5)
      | (go_at_call 11; refine (conS.out g5 cap5 w5 hby5).mono ?_; rintro e w6 ⟨g6, rfl, hg6, hrow6, hb6⟩; have HF6 := hideF (HF5.out.below hb6); have HW6 := hideF (HW5.out.trans (hb6.mono HW5.out.size)))
      | (at_builtin; refine wpList_append_buf rfl _ _ 29 rfl w2.heap.size _ _ e3 (sealP e3) rfl HF6.out rfl (row_src hrow6 rfl 4) HW6.out.size (by rw [sealP_len]; omega) ?_; intro v7 w7 hbuf7 hg7))
    have hb7 := hg7.below HF6.out
    rw [HE4.out] at hbuf7
    have HW7 := hideF (nextB HB2.out (Nat.le_refl _) (HW6.out.trans hb7))
    obtain ⟨g7, cap7, hv7, hr7⟩ := hbuf7
    have HR7 := hideF hr7
    subst hv7
    by_cases hq : 200000 < EB.length
    · have hq' : (200000 : Int) < (EB.length : Int) := by omega
      go_wp2_with fail
      exact bodyPost_ret (v := .tuple #[.slice none 0 0, .int .i64 1]) (by simp [results, Tryd.results4, go_sem]) rfl ⟨HW7.out, .inl ⟨.inr hq, rfl⟩⟩
    · have hq' : ¬ (200000 : Int) < (EB.length : Int) := by omega
      go_wp2_with fail
      refine bodyPost_ret (v := .tuple #[.slice (some ⟨g7, 0, none⟩) EB.length cap7, .int .i64 0]) (by simp [results, Tryd.results4, go_sem]) rfl ⟨HW7.out, by omega, by omega, _, rfl, g7, cap7, rfl, ?_⟩
      exact ⟨Nat.le_trans HB2.out.size HR7.out.1, HR7.out.2⟩

end Go.Proofs.YtlojfgdpmaigmafDoor

/- The document's bytes of a base: its walk. -/
import Derived.Test.YtlojfgdpmaigmafDoorEncodeWalk
import Derived.Test.YtlojfgdpmaigmafDoorP21
import Derived.Test.YtlojfgdpmaigmafDoorP20
import Derived.Test.YtlojfgdpmaigmafDoorMayWalk
import Derived.Test.YtlojfgdpmaigmafDoorBookWalk
namespace Go.Proofs.YtlojfgdpmaigmafDoor
open Go.RowKit Plain

theorem mark_row {w : World} : BufAt w.heap.size (w.alloc (.cells #[.int .u8 119, .int .u8 110] 5)) (.slice (some ⟨w.heap.size, 0, none⟩) 2 2) mark := by
  have hn : (w.alloc (.cells #[.int .u8 119, .int .u8 110] 5)).heap[w.heap.size]? = some (.cells #[.int .u8 119, .int .u8 110] 5 (0, 0)) := heap_alloc_new w _
  have hc : ∀ j, (w.alloc (.cells #[.int .u8 119, .int .u8 110] 5)).cell? ⟨w.heap.size, j, none⟩ = (#[Value.int .u8 119, Value.int .u8 110] : Array Value)[j]? := fun j => cell_of_row _ _ _ _ _ _ hn
  refine ⟨w.heap.size, 2, rfl, Nat.le_refl _, by simp, Nat.le_refl _, by omega, fun j hj => ⟨?_, ?_⟩, fun j u hu => ?_⟩
  · rw [hc, Array.getElem?_eq_getElem (by simpa using hj)]
    rfl
  · unfold World.frozen?
    rw [hn]
    simp
  · rw [hc]
    have h2 : (u8s mark)[j]? = (#[Value.int .u8 119, Value.int .u8 110] : Array Value)[j]? := by
      show ([Value.int .u8 119, Value.int .u8 110] : List Value)[j]? = _
      simp
    rw [← h2]
    exact hu

theorem sevInt_any (n : Int) (w : World) (h0 : 0 ≤ n) (hn : n < 9223372036854775808) : Calls Tryd.prog 14 #[.int .i64 n] w (SvTo (sev n.toNat) w) := by
  have k := sevens_any n.toNat w (by omega)
  rw [show ((n.toNat : Nat) : Int) = n by omega] at k
  exact k

/-- Bytes that grow, beside a rollup in its box. -/
structure BuS (B : Nat) (w2 : World) (k : Nat) (vals : List Value) (W : World) (v : Value) (bs : List Int) : Prop where
  buf : BufAt B W v bs
  bel : Below B w2 W
  row : RowL W k 46 vals
  ap : v.ownBlock ≠ some k
  ge : B ≤ W.heap.size

theorem BuS.next {B k : Nat} {w2 W W1 W2 : World} {vals : List Value} {v v2 : Value} {bs bs2 : List Int} (h : BuS B w2 k vals W v bs) (hb : Below W.heap.size W W1) (h2 : BufAt B W2 v2 bs2) (hg : Grew W1 W2 v v2) : BuS B w2 k vals W2 v2 bs2 := by
  have hl := h.row.lt
  have hz := hb.size
  refine ⟨h2, h.bel.trans ((hb.mono h.ge).trans (hg.below (h.buf.below hb))), ?_, fun e => ?_, Nat.le_trans h.ge (Nat.le_trans hz hg.size)⟩
  · exact (h.row.below hb hl).of_block (hg.block k (by omega) (fun e => h.ap e.symm))
  · rcases hg.own with e' | e'
    · exact h.ap (e'.symm.trans e)
    · have := e' k e
      omega

set_option maxRecDepth 20000 in
set_option maxHeartbeats 2000000 in
theorem baseBytes_bad (A : Option Addr) (C : Nat) (ss : List ByteArray) (t0 t1 t2 : TR) (f : Int) (w : World) (hS : StrsAt w.heap.size w A ss) (h0 : t0.ok w) (h1 : t1.ok w) (h2 : t2.ok w)
    (hb : baseB ss f (t0.ps.map PN.nd) t0.r (t1.ps.map PN.nd) t1.r (t2.ps.map PN.nd) t2.r = false) :
    Calls Tryd.prog 5 #[.agg (baseV A C ss t0 t1 t2 f).toArray] w fun e w' => e = .returned (.tuple #[.slice none 0 0, .int .i64 7]) ∧ Below w.heap.size w w' := by
  have MM := hideF fun W (hW : Below w.heap.size w W) => baseMay_any A C ss t0 t1 t2 f W (hS.up hW) (h0.1.up hW) (h1.1.up hW) (h2.1.up hW)
  rw [hb] at MM
  have b0 : ∀ o : Obj, Below w.heap.size w (w.alloc o) := fun o => (Below.refl _ _).alloc (Nat.le_refl _) o
  obtain ⟨A0, C0, p0, r0⟩ := t0
  obtain ⟨A1, C1, p1, r1⟩ := t1
  obtain ⟨A2, C2, p2, r2⟩ := t2
  simp only [baseV] at *
  clear hb h0 h1 h2
  go_enter Tryd.func5, Tryd.ntmps5
  go_wp2_with (first
    | (go_at_call 12; refine (MM.out _ (b0 _)).mono ?_; rintro e w1 ⟨rfl, hb1⟩))
  exact bodyPost_ret (v := .tuple #[.slice none 0 0, .int .i64 7]) (by simp [results, Tryd.results5, go_sem]) rfl ⟨rfl, nextB (b0 _) (Nat.le_refl _) hb1⟩

set_option maxRecDepth 20000 in
set_option maxHeartbeats 8000000 in
theorem baseBytes_any (A : Option Addr) (C : Nat) (ss : List ByteArray) (t0 t1 t2 : TR) (f : Int) (w : World) (hS : StrsAt w.heap.size w A ss) (h0 : t0.ok w) (h1 : t1.ok w) (h2 : t2.ok w)
    (hb : baseB ss f (t0.ps.map PN.nd) t0.r (t1.ps.map PN.nd) t1.r (t2.ps.map PN.nd) t2.r = true) :
    Calls Tryd.prog 5 #[.agg (baseV A C ss t0 t1 t2 f).toArray] w (EncTo ss f (allP (t0.ps.map PN.nd) t0.r 0 1099511627776).2 w) := by
  obtain ⟨L0, L1, L2, hL⟩ := baseL hb
  have hT := (tellB1 hb).1
  rw [allP_max, hL.a0] at hT
  rw [hL.a0]
  have MM := hideF fun W (hW : Below w.heap.size w W) => baseMay_any A C ss t0 t1 t2 f W (hS.up hW) (h0.1.up hW) (h1.1.up hW) (h2.1.up hW)
  rw [hb] at MM
  have BK : Hid (∀ W, Below w.heap.size w W → Calls Tryd.prog 13 #[.agg (baseV A C ss t0 t1 t2 f).toArray] W fun e w' => ∃ v, e = .returned (.tuple #[v, .bool true]) ∧ w'.ownsRow W.heap.size 48 7 v L0.length (flatE L0) ∧ Below W.heap.size W w') := fun W hW =>
    book_any A C ss t0 t1 t2 f W (h0.1.up hW) _ (hideF fun e w' hbw hy _ => by
      obtain ⟨v, he, ho⟩ := hy L0 hL.book
      exact ⟨v, he, ho, hbw⟩)
  have b0 : ∀ o : Obj, Below w.heap.size w (w.alloc o) := fun o => (Below.refl _ _).alloc (Nat.le_refl _) o
  have hlen : L0.length ≤ 28000 := by
    have := allP_len (t0.ps.map PN.nd) t0.r 0 1099511627776
    rw [hL.a0] at this
    exact this
  obtain ⟨A0, C0, p0, r0⟩ := t0
  obtain ⟨A1, C1, p1, r1⟩ := t1
  obtain ⟨A2, C2, p2, r2⟩ := t2
  simp only [baseV] at *
  have HT := hideF hT
  have HS := hideF hS
  clear hb h0 h1 h2 hT hS hL
  obtain ⟨L, hLL⟩ : ∃ L, L0 = L := ⟨_, rfl⟩
  subst hLL
  unfold EncTo
  obtain ⟨EB, hEB⟩ : ∃ EB, encB ss f L0 = EB := ⟨_, rfl⟩
  rw [hEB]
  have HEB := hideF hEB
  clear hEB
  go_enter Tryd.func5, Tryd.ntmps5
  go_upto_region 3 with (first
    | (go_at_call 12; refine (MM.out _ (b0 _)).mono ?_; rintro e w1 ⟨rfl, hb1⟩; have HB1 := hideF (nextB (b0 _) (Nat.le_refl _) hb1); have XB := hideF ((rowL_alloc w [.slice A ss.length C, .slice A0 p0.length C0, .int .i64 r0, .slice A1 p1.length C1, .int .i64 r1, .slice A2 p2.length C2, .int .i64 r2, .int .i64 f] 28).below hb1 (by simp)); have b := fun j => XB.out.cell j; have lb := XB.out.lt; clear hb1))
  go_upto_region 4 with (first
    | (go_at_call 13; refine (BK.out _ HB1.out).mono ?_; rintro e w2 ⟨v2, rfl, ho2, hb2⟩; obtain ⟨LA, LC, rfl, _, _, _, hrL⟩ := own_row ho2; have HB2 := hideF (nextB HB1.out (Nat.le_refl _) hb2); have XC := hideF (XB.out.below hb2 XB.out.lt); have c := fun j => XC.out.cell j; have lc := XC.out.lt; have HR := hideF hrL; clear b lb XB MM BK hb2 ho2 hrL))
  by_cases hm : 10000 < L0.length
  · have hm' : (10000 : Int) < (L0.length : Int) := by omega
    go_wp2_with fail
    exact bodyPost_ret (v := .tuple #[.slice none 0 0, .int .i64 1]) (by simp [results, Tryd.results5, go_sem]) rfl ⟨HB2.out, .inl ⟨.inl hm, rfl⟩⟩
  · have hm' : ¬ (10000 : Int) < (L0.length : Int) := by omega
    obtain ⟨hl1, hl2, hl3⟩ := HT.out.len (by omega)
    have hfew := HT.out.few
    obtain ⟨bx, hbx⟩ : ∃ bx, bx = w.heap.size := ⟨_, rfl⟩
    have hbl : bx < w2.heap.size := by rw [hbx]; exact lc
    rw [← hbx] at XC c lc
    rw [← hbx]
    obtain ⟨e1, he1⟩ : ∃ e1, (mark ++ sev ss.length) ++ (ss.drop 0).flatMap encName = e1 := ⟨_, rfl⟩
    have he1' : mark ++ encNames ss = e1 := by rw [← he1, List.append_assoc, List.drop_zero]; rfl
    obtain ⟨e2, he2⟩ : ∃ e2, e1 ++ sev f.toNat = e2 := ⟨_, rfl⟩
    obtain ⟨e3, he3⟩ : ∃ e3, (e2 ++ sev L0.length) ++ encPs 0 (L0.drop 0) = e3 := ⟨_, rfl⟩
    have hH : encH ss f L0 = e3 := by
      rw [← he3, ← he2, ← he1', List.drop_zero]
      unfold encH encBody
      simp only [List.append_assoc]
    have he4 : e3 ++ sealP e3 = EB := by rw [← HEB.out, encB, hH]
    have hu : U8 e3 := fun b hb => encB_u8 ss f L0 b (by rw [HEB.out, ← he4]; exact List.mem_append_left _ hb)
    have z1 : e1.length ≤ 402 := by rw [← he1', List.length_append]; have : mark.length = 2 := rfl; omega
    have z2 : e2.length ≤ 411 := by rw [← he2, List.length_append]; omega
    have z3 : e3.length ≤ 1600411 := by rw [← he3, List.append_assoc, List.drop_zero, List.length_append]; omega
    have z0 : mark.length + (sev ss.length).length ≤ 1000000000 := by have := congrArg List.length he1; simp only [List.length_append] at this; omega
    have zf : e1.length + (sev f.toNat).length ≤ 1000000000 := by omega
    have zl : e2.length + (sev L0.length).length ≤ 1000000000 := by have := congrArg List.length he3; simp only [List.length_append] at this; omega
    have z4 : EB.length = e3.length + 4 := by rw [← he4, List.length_append]; rfl
    have HE1 := hideF he1
    have HE2 := hideF he2
    have HE3 := hideF he3
    have HE4 := hideF he4
    have S1 := hideF fun W => sevens_any ss.length W (by omega)
    have SF := hideF fun W => sevInt_any f W HT.out.f0 (by have := HT.out.f1; omega)
    have SL := hideF fun W => sevens_any L0.length W (by omega)
    unfold SvTo at S1 SF SL
    have HU := hideF hu
    clear hbx hH hu he1 he1' he2 he3 he4 hl1 hl2 hl3 b0
    have HM := hideF (mark_row (w := w2))
    have G0 := hideF (show Below w2.heap.size w2 (w2.alloc (.cells #[.int .u8 119, .int .u8 110] 5)) from (Below.refl _ _).alloc (Nat.le_refl _) _)
    go_upto_region 7 with fail
    have XD := hideF (XC.out.below G0.out hbl)
    have d := fun j => XD.out.cell j
    have ld := XD.out.lt
    go_upto_region 8 with (first
      | (go_at_call 14; refine (S1.out _).mono ?_; rintro e w3 ⟨g3, cap3, rfl, hv3, hb3⟩; have HX3 := HM.out.below hb3; have HS3 := buf_src hv3; have hle3 := (G0.out.trans (hb3.mono G0.out.size)).size; have HB3 := hideF (G0.out.trans (hb3.mono G0.out.size)); clear d ld S1)
      | (at_builtin; refine wpList_append_buf rfl _ _ 29 rfl w2.heap.size _ _ mark (sev ss.length) rfl HX3 rfl HS3 hle3 z0 ?_; intro v4 w4 hv4 hg4; have HB4 := hideF (HB3.out.trans (hg4.below HX3)); have HV4 := hideF hv4; clear HS3 HX3 hv4 hg4))
    have X4 := hideF (XC.out.below HB4.out hbl)
    have x4 := fun j => X4.out.cell j
    have lx4 := X4.out.lt
    go_wp2_with fail
    go_loopw [6, 7] (fun vl vi wr => ∃ (i : Nat) (xs : List Int), i ≤ ss.length ∧ vi = .int .i64 (i : Int) ∧ Hid (xs ++ (ss.drop i).flatMap encName = e1) ∧ Hid (BufAt w2.heap.size wr vl xs) ∧ Hid (Below w2.heap.size w2 wr)) (fun _ vi _ => ss.length - (intOf vi).toNat)
    case atStart => exact ⟨0, _, Nat.zero_le _, rfl, HE1.out, HV4.out, HB4.out⟩
    case round =>
      obtain ⟨i, xs, hi, rfl, HE, HX, HW⟩ := hrel
      have XW := hideF (XC.out.below HW.out hbl)
      have xw := fun j => XW.out.cell j
      have lxw := XW.out.lt
      by_cases hlt : i < ss.length
      · as_aux_lemma =>
          obtain ⟨sb, so, rfl, hsb, hc, -⟩ := (HS.out.row.below (HB2.out.trans (HW.out.mono HB2.out.size)) (Nat.le_refl _)).str hlt
          have h1 := HE.out
          rw [List.drop_eq_getElem_cons hlt, List.flatMap_cons] at h1
          obtain ⟨s, hs⟩ : ∃ s, ss[i] = s := ⟨_, rfl⟩
          rw [hs] at h1 hc
          have HE2' : Hid (((xs ++ sev s.size) ++ ofStr s) ++ (ss.drop (i + 1)).flatMap encName = e1) := by
            show _ = _
            rw [← h1]
            simp only [encName, List.append_assoc]
          have hlen : xs.length + (sev s.size).length + (ofStr s).length ≤ 402 := by
            have := congrArg List.length HE2'.out
            simp only [List.length_append] at this
            omega
          have hss := ofStr_len s
          have con2 := hideF fun W => sevens_any s.size W (by omega)
          unfold SvTo at con2
          have hz1 : xs.length + (sev s.size).length ≤ 1000000000 := by omega
          have hll : (xs ++ sev s.size).length + (ofStr s).length ≤ 1000000000 := by rw [List.length_append]; omega
          have hw2s := HB2.out.size
          have lsb : sb < wr.heap.size := by have := HW.out.size; omega
          have hsb2 : sb < w2.heap.size := by omega
          have q0 : (0 : Int) ≤ (i : Int) := by omega
          have q1 : (i : Int) < (ss.length : Int) := by omega
          have HC := hideF hc
          clear h1 hs hlen hss HE
          go_upto_region 12 with (first
            | (go_at_call 14; refine (con2.out _).mono ?_; rintro e w5 ⟨g5, cap5, rfl, hv5, hb5⟩; have HX5 := HX.out.below hb5; have HS5 := buf_src hv5; have hle5 := (HW.out.trans (hb5.mono HW.out.size)).size; have HB5 := hideF (HW.out.trans (hb5.mono HW.out.size)); clear con2)
            | (at_builtin; refine wpList_append_buf rfl _ _ 29 rfl w2.heap.size _ _ xs (sev s.size) rfl HX5 rfl HS5 hle5 hz1 ?_; intro v6 w6 hv6 hg6; have HB6 := hideF (HB5.out.trans (hg6.below HX5)); have HV6 := hideF hv6; have HG6 := hideF (Below.trans (hb5.mono HW.out.size) (hg6.below HX5)); clear HS5 HX5 hv6 hg6 hb5 hc xw))
          have X6 := hideF (XC.out.below HB6.out hbl)
          have x6 := fun j => X6.out.cell j
          have lx6 := X6.out.lt
          have c6 : w6.cell? ⟨sb, so + i, none⟩ = some (.string s) := (World.cell?_of_block (a := ⟨sb, so + i, none⟩) (HG6.out.block sb hsb2)).trans HC.out
          have lsb6 : sb < w6.heap.size := by have := HB6.out.size; omega
          have hle6 := HB6.out.size
          go_wp2_with (first
            | (at_builtin; refine wpList_append_buf rfl _ _ 9 rfl w2.heap.size _ _ (xs ++ sev s.size) (ofStr s) rfl HV6.out rfl (str_src w6 s) hle6 hll ?_; intro v7 w7 hv7 hg7))
          exact ⟨⟨i + 1, _, hlt, by go_num, HE2'.out, hv7, HB6.out.trans (hg7.below HV6.out)⟩, by simp only [intOf]; omega⟩
      · as_aux_lemma =>
          have hlt' : ¬ ((i : Int) < (ss.length : Int)) := by omega
          have hE := HE.out
          rw [List.drop_eq_nil_of_le (by omega), List.flatMap_nil, List.append_nil] at hE
          subst hE
          have hw2s := HB2.out.size
          go_upto_region 14 with (first
            | (go_at_call 14; refine (SF.out _).mono ?_; rintro e w5 ⟨g5, cap5, rfl, hv5, hb5⟩; have HX5 := HX.out.below hb5; have HS5 := buf_src hv5; have hle5 := (HW.out.trans (hb5.mono HW.out.size)).size; have HB5 := hideF (HW.out.trans (hb5.mono HW.out.size)); clear SF)
            | (at_builtin; refine wpList_append_buf rfl _ _ 29 rfl w2.heap.size _ _ xs (sev f.toNat) rfl HX5 rfl HS5 hle5 zf ?_; intro v6 w6 hv6 hg6; have HB6 := hideF (HB5.out.trans (hg6.below HX5)); have HV6 := hideF hv6; clear HS5 HX5 hv6 hg6 hb5 xw))
          rw [HE2.out] at HV6
          go_wp2_with (first
            | (go_at_call 14; refine (SL.out _).mono ?_; rintro e w7 ⟨g7, cap7, rfl, hv7, hb7⟩; have HX7 := HV6.out.below hb7; have HS7 := buf_src hv7; have hle7 := (HB6.out.trans (hb7.mono HB6.out.size)).size; have HB7 := hideF (HB6.out.trans (hb7.mono HB6.out.size)); clear SL)
            | (at_builtin; refine wpList_append_buf rfl _ _ 29 rfl w2.heap.size _ _ e2 (sev L0.length) rfl HX7 rfl HS7 hle7 zl ?_; intro v8 w8 hv8 hg8; have HB8 := hideF (HB7.out.trans (hg8.below HX7)); have HV8 := hideF hv8; clear HS7 HX7 hv8 hg8 hb7))
          have HK0 : Hid ((0 : Int) ≤ 0 ∧ ∀ x ∈ L0.drop 0, (0 : Int) ≤ x.key) := ⟨Int.le_refl 0, fun x hx => (HT.out.told x (by simpa using hx)).k0⟩
          have HTT := hideF HT.out.told
          have HTR := hideF HT.out.rise
          clear HX HE1 HE2 HV4 HB4 HM G0 XD X4 x4 lx4 XW lxw HV6 HB6 HB7 HB5 HE HT HS XC c
          go_loopw [6, 8, 9, 10] (fun vl va vi _ wr => ∃ (i : Nat) (a : Int) (ys : List Int), i ≤ L0.length ∧ vi = .int .i64 (i : Int) ∧ va = .int .i64 a ∧ Hid (0 ≤ a ∧ ∀ x ∈ L0.drop i, a ≤ x.key) ∧ Hid (ys ++ encPs a (L0.drop i) = e3) ∧ Hid (BufAt w2.heap.size wr vl ys) ∧ Hid (Below w2.heap.size w2 wr)) (fun _ _ vi _ _ => L0.length - (intOf vi).toNat)
          case atStart => exact ⟨0, 0, _, Nat.zero_le _, rfl, rfl, HK0.out, HE3.out, HV8.out, HB8.out⟩
          case round =>
            obtain ⟨i2, a, ys, hi2, rfl, rfl, HK, HE', HX', HW'⟩ := hrel
            clear HV8 HB8 HK0 HE3
            by_cases hlt2 : i2 < L0.length
            · as_aux_lemma =>
                obtain ⟨sb, so, hLA, hsb, d0, d1, d2, d3, d4, d5, d6⟩ := ((HR.out.below HW'.out (Nat.le_refl _)).en hlt2)
                subst hLA
                have h1 := HE'.out
                have h2 := HK.out.2
                have h3 : (L0.drop i2).Pairwise fun a b => a.key < b.key := HTR.out.sublist (List.drop_sublist i2 L0)
                have ht := HTT.out _ (List.getElem_mem hlt2)
                rw [List.drop_eq_getElem_cons hlt2] at h1 h2 h3
                obtain ⟨x, hx⟩ : ∃ x, L0[i2] = x := ⟨_, rfl⟩
                rw [hx] at h1 h2 h3 ht d0 d1 d2 d3 d4 d5 d6
                have HE2' : Hid (((((((ys ++ sev (x.key - a).toNat) ++ sev x.c.toNat) ++ zig x.s) ++ zig x.lo) ++ zig x.hi) ++ zig x.l) ++ encPs x.key (L0.drop (i2 + 1)) = e3) := by
                  show _ = _
                  rw [← h1]
                  simp [encPs, encP, List.append_assoc]
                have HK2 : Hid (0 ≤ x.key ∧ ∀ y ∈ L0.drop (i2 + 1), x.key ≤ y.key) := ⟨ht.k0, fun y hy => Int.le_of_lt ((List.pairwise_cons.1 h3).1 y hy)⟩
                have hax : a ≤ x.key := h2 x (by simp)
                have ha0 := HK.out.1
                have hk1 := ht.k1
                have hl1 := congrArg List.length HE2'.out
                simp only [List.length_append] at hl1
                obtain ⟨b1, hb1⟩ : ∃ b1, sev (x.key - a).toNat = b1 := ⟨_, rfl⟩
                obtain ⟨b2, hb2⟩ : ∃ b2, sev x.c.toNat = b2 := ⟨_, rfl⟩
                obtain ⟨b3, hb3⟩ : ∃ b3, zig x.s = b3 := ⟨_, rfl⟩
                obtain ⟨b4, hb4⟩ : ∃ b4, zig x.lo = b4 := ⟨_, rfl⟩
                obtain ⟨b5, hb5⟩ : ∃ b5, zig x.hi = b5 := ⟨_, rfl⟩
                obtain ⟨b6, hb6⟩ : ∃ b6, zig x.l = b6 := ⟨_, rfl⟩
                have C1 := hideF fun W => sevInt_any (x.key - a) W (by omega) (by omega)
                have C2 := hideF fun W => sevInt_any x.c W ht.c0 (by have := ht.c1; omega)
                have C3 := hideF fun W => zigs_any x.s W ht.s
                have C4 := hideF fun W => zigs_any x.lo W ht.lo
                have C5 := hideF fun W => zigs_any x.hi W ht.hi
                have C6 := hideF fun W => zigs_any x.l W ht.l
                rw [hb1] at C1 HE2' hl1
                rw [hb2] at C2 HE2' hl1
                rw [hb3] at C3 HE2' hl1
                rw [hb4] at C4 HE2' hl1
                rw [hb5] at C5 HE2' hl1
                rw [hb6] at C6 HE2' hl1
                unfold SvTo at C1 C2 C3 C4 C5 C6
                have k1 : IntKind.i64.wrap (x.key - a) = x.key - a := by rw [IntKind.wrap_i64]; omega
                have hw2r := HW'.out.size
                have hsr : sb < wr.heap.size := by omega
                have Z1 : ys.length + b1.length ≤ 1000000000 := by omega
                have Z2 : ((ys ++ b1)).length + b2.length ≤ 1000000000 := by simp only [List.length_append]; omega
                have Z3 : (((ys ++ b1) ++ b2)).length + b3.length ≤ 1000000000 := by simp only [List.length_append]; omega
                have Z4 : ((((ys ++ b1) ++ b2) ++ b3)).length + b4.length ≤ 1000000000 := by simp only [List.length_append]; omega
                have Z5 : (((((ys ++ b1) ++ b2) ++ b3) ++ b4)).length + b5.length ≤ 1000000000 := by simp only [List.length_append]; omega
                have Z6 : ((((((ys ++ b1) ++ b2) ++ b3) ++ b4) ++ b5)).length + b6.length ≤ 1000000000 := by simp only [List.length_append]; omega
                clear h1 h2 h3 ht hx HE' HK hl1 hb1 hb2 hb3 hb4 hb5 hb6
                have q0 : (0 : Int) ≤ (i2 : Int) := by omega
                have q1 : (i2 : Int) < (L0.length : Int) := by omega
                have D0 := hideF d0
                go_upto_region 20 with fail
                obtain ⟨wb, hwb⟩ : ∃ wb, wb = wr.alloc (.cells #[.int .i64 x.c, .int .i64 x.s, .int .i64 x.lo, .int .i64 x.hi, .int .i64 x.t, .int .i64 x.l] 46) := ⟨_, rfl⟩
                obtain ⟨xb, hxb⟩ : ∃ xb, xb = wr.heap.size := ⟨_, rfl⟩
                have H0 : Hid (BuS w2.heap.size w2 xb [.int .i64 x.c, .int .i64 x.s, .int .i64 x.lo, .int .i64 x.hi, .int .i64 x.t, .int .i64 x.l] wb u6 ys) := by
                  have hbw : Below wr.heap.size wr wb := by rw [hwb]; exact (Below.refl _ _).alloc (Nat.le_refl _) _
                  refine ⟨HX'.out.below hbw, HW'.out.trans (hbw.mono HW'.out.size), by rw [hwb, hxb]; exact rowL_alloc wr _ _, fun e => ?_, Nat.le_trans HW'.out.size hbw.size⟩
                  obtain ⟨g, e', _, hg⟩ := HX'.out.own
                  rw [e'] at e
                  cases e
                  omega
                have E0 : wb.cell? ⟨sb, so + i2 * 7, none⟩ = some (.int .i64 x.key) := (World.cell?_of_block (a := ⟨sb, so + i2 * 7, none⟩) (by rw [hwb]; exact Below.heap_alloc _ _ _ hsr)).trans D0.out
                have hsw : sb < wb.heap.size := by rw [hwb]; simp; omega
                have HD : Hid (∀ W, Below w2.heap.size w2 W → W.cell? ⟨sb, so + i2 * 7, none⟩ = some (.int .i64 x.key) ∧ sb < W.heap.size) := fun W hW => ⟨(World.cell?_of_block (a := ⟨sb, so + i2 * 7, none⟩) ((hW.block sb hsb).trans (HW'.out.block sb hsb).symm)).trans D0.out, Nat.lt_of_lt_of_le hsb hW.size⟩
                rw [← hwb, ← hxb]
                clear hwb hxb d0 d1 d2 d3 d4 d5 d6 hsr
                go_upto_region 21 with (first
                  | (go_at_call 14; refine (C1.out _).mono ?_; rintro e w12 ⟨g1, cap1, rfl, hv1, hb1⟩; have HX1 := H0.out.buf.below hb1; have HS1 := buf_src hv1; have hle1 := Nat.le_trans H0.out.ge hb1.size)
                  | (at_builtin; refine wpList_append_buf rfl _ _ 29 rfl w2.heap.size _ _ ys b1 rfl HX1 rfl HS1 hle1 Z1 ?_; intro va1 w13 hva1 hga1; have H1 := hideF (H0.out.next hb1 hva1 hga1); clear HS1 HX1 hva1 hga1 hb1 hv1))
                clear E0 hsw
                have r2 := fun k => H1.out.row.cell k
                have lr2 := H1.out.row.lt
                go_upto_region 22 with (first
                  | (go_at_call 14; refine (C2.out _).mono ?_; rintro e w14 ⟨g2, cap2, rfl, hv2, hb2⟩; have HX2 := H1.out.buf.below hb2; have HS2 := buf_src hv2; have hle2 := Nat.le_trans H1.out.ge hb2.size)
                  | (at_builtin; refine wpList_append_buf rfl _ _ 29 rfl w2.heap.size _ _ (ys ++ b1) b2 rfl HX2 rfl HS2 hle2 Z2 ?_; intro va2 w15 hva2 hga2; have H2 := hideF (H1.out.next hb2 hva2 hga2); clear HS2 HX2 hva2 hga2 hb2 hv2))
                clear r2 lr2
                have r3 := fun k => H2.out.row.cell k
                have lr3 := H2.out.row.lt
                go_upto_region 23 with (first
                  | (go_at_call 15; refine (C3.out _).mono ?_; rintro e w16 ⟨g3, cap3, rfl, hv3, hb3⟩; have HX3 := H2.out.buf.below hb3; have HS3 := buf_src hv3; have hle3 := Nat.le_trans H2.out.ge hb3.size)
                  | (at_builtin; refine wpList_append_buf rfl _ _ 29 rfl w2.heap.size _ _ ((ys ++ b1) ++ b2) b3 rfl HX3 rfl HS3 hle3 Z3 ?_; intro va3 w17 hva3 hga3; have H3 := hideF (H2.out.next hb3 hva3 hga3); clear HS3 HX3 hva3 hga3 hb3 hv3))
                clear r3 lr3
                have r4 := fun k => H3.out.row.cell k
                have lr4 := H3.out.row.lt
                go_upto_region 24 with (first
                  | (go_at_call 15; refine (C4.out _).mono ?_; rintro e w18 ⟨g4, cap4, rfl, hv4, hb4⟩; have HX4 := H3.out.buf.below hb4; have HS4 := buf_src hv4; have hle4 := Nat.le_trans H3.out.ge hb4.size)
                  | (at_builtin; refine wpList_append_buf rfl _ _ 29 rfl w2.heap.size _ _ (((ys ++ b1) ++ b2) ++ b3) b4 rfl HX4 rfl HS4 hle4 Z4 ?_; intro va4 w19 hva4 hga4; have H4 := hideF (H3.out.next hb4 hva4 hga4); clear HS4 HX4 hva4 hga4 hb4 hv4))
                clear r4 lr4
                have r5 := fun k => H4.out.row.cell k
                have lr5 := H4.out.row.lt
                go_upto_region 25 with (first
                  | (go_at_call 15; refine (C5.out _).mono ?_; rintro e w20 ⟨g5, cap5, rfl, hv5, hb5⟩; have HX5 := H4.out.buf.below hb5; have HS5 := buf_src hv5; have hle5 := Nat.le_trans H4.out.ge hb5.size)
                  | (at_builtin; refine wpList_append_buf rfl _ _ 29 rfl w2.heap.size _ _ ((((ys ++ b1) ++ b2) ++ b3) ++ b4) b5 rfl HX5 rfl HS5 hle5 Z5 ?_; intro va5 w21 hva5 hga5; have H5 := hideF (H4.out.next hb5 hva5 hga5); clear HS5 HX5 hva5 hga5 hb5 hv5))
                clear r5 lr5
                have r6 := fun k => H5.out.row.cell k
                have lr6 := H5.out.row.lt
                go_upto_region 26 with (first
                  | (go_at_call 15; refine (C6.out _).mono ?_; rintro e w22 ⟨g6, cap6, rfl, hv6, hb6⟩; have HX6 := H5.out.buf.below hb6; have HS6 := buf_src hv6; have hle6 := Nat.le_trans H5.out.ge hb6.size)
                  | (at_builtin; refine wpList_append_buf rfl _ _ 29 rfl w2.heap.size _ _ (((((ys ++ b1) ++ b2) ++ b3) ++ b4) ++ b5) b6 rfl HX6 rfl HS6 hle6 Z6 ?_; intro va6 w23 hva6 hga6; have H6 := hideF (H5.out.next hb6 hva6 hga6); clear HS6 HX6 hva6 hga6 hb6 hv6))
                clear r6 lr6
                obtain ⟨E6, hs6⟩ := HD.out _ H6.out.bel
                go_wp2_with fail
                exact ⟨⟨i2 + 1, x.key, _, hlt2, by go_num, rfl, HK2.out, HE2'.out, H6.out.buf, H6.out.bel⟩, by simp only [intOf]; omega⟩
            · as_aux_lemma =>
                have hlt2' : ¬ ((i2 : Int) < (L0.length : Int)) := by omega
                have hE := HE'.out
                rw [List.drop_eq_nil_of_le (by omega)] at hE
                have hE2 : ys = e3 := by rw [← hE]; simp [encPs]
                subst hE2
                obtain ⟨g, cap, hv, hby⟩ := HX'.out.bytes
                subst hv
                have HBY := hideF hby
                have SO := hideF (sealOf_any _ _ _ _ hby HU.out)
                have kw : IntKind.i64.wrap ((ys.length : Int) + 4) = (ys.length : Int) + 4 := by rw [IntKind.wrap_i64]; omega
                have HBW := hideF (nextB HB2.out (Nat.le_refl _) HW'.out)
                have hw2r := HW'.out.size
                clear hby HE' HK hE
                by_cases hq : 200000 < EB.length
                · have hq' : (200000 : Int) < (ys.length : Int) + 4 := by omega
                  go_wp2_with fail
                  exact bodyPost_ret (v := .tuple #[.slice none 0 0, .int .i64 1]) (by simp [results, Tryd.results5, go_sem]) rfl ⟨HBW.out, .inl ⟨by omega, rfl⟩⟩
                · have hq' : ¬ (200000 : Int) < (ys.length : Int) + 4 := by omega
                  have hzz : ys.length + (sealP ys).length ≤ 1000000000 := by rw [sealP_len]; omega
                  go_wp2_with (first
                    | (go_at_call 16; refine SO.out.mono ?_; rintro e w9 ⟨g9, rfl, hg9, hrow9, hb9⟩; have HX9 := HX'.out.below hb9; have HS9 := row_src hrow9 rfl 4; have hle9 := Nat.le_trans hw2r hb9.size)
                    | (at_builtin; refine wpList_append_buf rfl _ _ 29 rfl w2.heap.size _ _ ys (sealP ys) rfl HX9 rfl HS9 hle9 hzz ?_; intro v10 w10 hv10 hg10))
                  rw [HE4.out] at hv10
                  have HBX := hideF (nextB HBW.out (Nat.le_refl _) hb9)
                  have HBZ := hideF (HBX.out.trans ((hg10.below HX9).mono HB2.out.size))
                  obtain ⟨g10, cap10, hv10', hr10⟩ := hv10
                  subst hv10'
                  refine bodyPost_ret (v := .tuple #[.slice (some ⟨g10, 0, none⟩) EB.length cap10, .int .i64 0]) (by simp [results, Tryd.results5, go_sem]) rfl ⟨HBZ.out, .inr ⟨by omega, by omega, _, rfl, g10, cap10, rfl, ?_⟩⟩
                  exact ⟨Nat.le_trans HB2.out.size hr10.1, hr10.2⟩

end Go.Proofs.YtlojfgdpmaigmafDoor

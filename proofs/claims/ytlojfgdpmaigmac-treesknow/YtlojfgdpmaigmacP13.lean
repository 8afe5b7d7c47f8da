/- The survey's nodes that are no leaves. -/
import Derived.Test.YtlojfgdpmaigmacP12
import Derived.Test.YtlojfgdpmaigmacRows
import Derived.WalkKit
import Derived.ProofKit
import Derived.OpenShut
import Derived.Below
import Derived.ChangeOld
import Derived.Test.YtlojfgdpmaigmacP01
import Derived.Deep.Slices
import Derived.SizedLaws
import Derived.Test.YtlojfgdpmaigmacP06
namespace Go.Proofs.Ytlojfgdpmaigmac
open Go.RowKit Plain Go.Maps

set_option maxRecDepth 20000 in
set_option maxHeartbeats 4000000 in
theorem surInner_any (b o C : Nat) (ps : List PN) (q mb B f m : Nat) (low high d L : Int) (S : St) (w : World) (leaf : Bool) (eA : Option Addr) (eC : Nat) (ents : List En) (kA : Option Addr) (kC : Nat) (keys : List Int) (dA : Option Addr) (dC : Nat) (kids : List Int) (bA : Option Addr) (bC : Nat) (buf : List En)
    (hm : m < ps.length) (hN : NodesAt B w (some ⟨b, o, none⟩) ps) (hat : PnAt w b (o + m * 5) ⟨leaf, eA, eC, ents, kA, kC, keys, dA, dC, kids, bA, bC, buf⟩) (ok : PN.ok B w ⟨leaf, eA, eC, ents, kA, kC, keys, dA, dC, kids, bA, bC, buf⟩) (hkw : ∀ z ∈ keys, z ≤ 9223372036854775807)
    (hbl : b < B) (hBq : B ≤ q) (hBm : B ≤ mb) (hS : Sur w q mb (some ⟨b, o, none⟩) ps.length C S L) (hp : ((m : Int), d) ∈ S) (hst : StOk ps.length S) (hlow : 0 ≤ low) (hhigh : high ≤ 9223372036854775807) (hd1 : 1 ≤ d) (hd2 : d ≤ 12) (hf : f + 1 ≤ 12)
    (ih : Hid (∀ (n lo hi L' : Int) (S' : St) (w' : World), NodesAt B w' (some ⟨b, o, none⟩) ps → Sur w' q mb (some ⟨b, o, none⟩) ps.length C S' L' → StOk ps.length S' → 0 ≤ lo → hi ≤ 9223372036854775807 →
      Calls Try.prog 22 #[.pointer (some ⟨q, 0, none⟩), .int .i64 n, .int .i64 (d + 1), .int .i64 lo, .int .i64 hi] w'
        fun e w'' => e = .returned (.bool (resN L' (W (ps.map PN.nd) f n lo hi S'))) ∧ Kept [q, mb] w' w'' ∧ ∀ S'' l, W (ps.map PN.nd) f n lo hi S' = some (S'', l) → okL L' l = true → Sur w'' q mb (some ⟨b, o, none⟩) ps.length C S'' (nextL L' l)))
    (R : Option (St × List Int)) (hR : Hid (R = if innerB ⟨leaf, ents, keys, kids, buf⟩ low high = true then Wk (W (ps.map PN.nd) f) kids keys low high S else none)) :
    Calls Try.prog 40 #[.pointer (some ⟨q, 0, none⟩), .int .i64 (m : Int), .int .i64 low, .int .i64 high] w
      fun e w' => e = .returned (.bool (resN L R)) ∧ Kept [q, mb] w w' ∧ ∀ S' l, R = some (S', l) → okL L l = true → Sur w' q mb (some ⟨b, o, none⟩) ps.length C S' (nextL L l) := by
  have hat0 := hat
  have ok0 := ok
  have hqs := hS.row.lt
  have hms := hS.map.lt
  have hz := hN.z
  obtain ⟨c0, c1, c2, c3, c4⟩ := hat
  simp only at c0 c1 c2 c3 c4
  obtain ⟨-, k1, t1, f1, -, -, -, -, ez, kz, dz, fz⟩ := ok
  simp only at k1 t1 f1 ez kz dz fz
  have q0 := hS.row.cell 0
  have q1 := hS.row.cell 1
  simp only [List.getElem?_cons_zero, List.getElem?_cons_succ] at q0 q1
  have hbw : b < w.heap.size := by omega
  have hbel : ∀ o1 : Obj, Below B w (w.alloc o1) := fun o1 => (Below.refl _ _).alloc (by omega) _
  have hk0 : ∀ o1 : Obj, Kept [q, mb] w (w.alloc o1) := fun o1 => (Kept.refl _ _).alloc _
  by_cases h1 : ents = []
  · subst h1
    by_cases h2 : kids.length < 2
    · have h2' : (kids.length : Int) < 2 := by omega
      have E0 : Hid (R = none) := by
        show _ = _
        rw [hR.out, if_neg]
        intro hi
        have hi' := innerB_kids hi
        simp only at hi'
        omega
      rw [E0.out]
      clear hR ih hst
      go_enter Try.func40, Try.ntmps40
      go_wp2_with (first | (go_at_call 58; refine (entriesMayBe_any _ _ _ _ _ _ _ (f1.go (hbel _) (Nat.le_refl _) (by omega)) fz (by omega) hhigh).mono ?_; rintro e w2 ⟨rfl, hb2⟩))
      go_ret
      first | exact ⟨rfl, hk0 _, fun _ _ h => by cases h⟩ | exact ⟨rfl, hk0 _⟩
    · have h2' : ¬ (kids.length : Int) < 2 := by omega
      by_cases h3 : 4 < kids.length
      · have h3' : (4 : Int) < (kids.length : Int) := by omega
        have E0 : Hid (R = none) := by
          show _ = _
          rw [hR.out, if_neg]
          intro hi
          have hi' := innerB_kids hi
          simp only at hi'
          omega
        rw [E0.out]
        clear hR ih hst
        go_enter Try.func40, Try.ntmps40
        go_wp2_with (first | (go_at_call 58; refine (entriesMayBe_any _ _ _ _ _ _ _ (f1.go (hbel _) (Nat.le_refl _) (by omega)) fz (by omega) hhigh).mono ?_; rintro e w2 ⟨rfl, hb2⟩))
        go_ret
        first | exact ⟨rfl, hk0 _, fun _ _ h => by cases h⟩ | exact ⟨rfl, hk0 _⟩
      · have h3' : ¬ (4 : Int) < (kids.length : Int) := by omega
        by_cases h4 : keys.length + 1 = kids.length
        · have h4' : (keys.length : Int) = (kids.length : Int) - 1 := by omega
          have h4b : ((keys.length : Int) != (kids.length : Int) - 1) = false := by simp; omega
          have H4 : Hid (keys.length + 1 = kids.length) := h4
          clear h4
          by_cases h5 : (decide ((buf.length : Int) ≤ 8) && entsB buf low high) = true
          · have h5x : buf.length ≤ 8 ∧ entsB buf low high = true := by simp at h5; exact ⟨by omega, h5.2⟩
            have hI : innerB ⟨leaf, [], keys, kids, buf⟩ low high = true := by
              simp only [innerB, Bool.and_eq_true, decide_eq_true_eq, beq_iff_eq, List.isEmpty_iff]
              exact ⟨⟨⟨⟨⟨trivial, by omega⟩, by omega⟩, H4.out⟩, h5x.1⟩, h5x.2⟩
            refine surKids_any b o C ps q mb B f m low high d L S w leaf eA eC [] kA kC keys dA dC kids bA bC buf hm hN hat0 ok0 hkw hbl hBq hBm hS hp hst hlow hhigh hd1 hd2 hf ih rfl (by omega) (by omega) H4.out h5 R ?_
            show _ = _
            rw [hR.out, if_pos hI]
          · have h5' : (decide ((buf.length : Int) ≤ 8) && entsB buf low high) = false := by simpa using h5
            have E0 : Hid (R = none) := by
              show _ = _
              rw [hR.out, if_neg]
              intro hi
              have hi' := innerB_kids hi
              simp only at hi'
              apply h5; simp; exact ⟨by omega, hi'.2.2.2.2.2⟩
            clear h5
            rw [E0.out]
            clear hR ih hst
            go_enter Try.func40, Try.ntmps40
            go_wp2_with (first | (go_at_call 58; refine (entriesMayBe_any _ _ _ _ _ _ _ (f1.go (hbel _) (Nat.le_refl _) (by omega)) fz (by omega) hhigh).mono ?_; rintro e w2 ⟨rfl, hb2⟩))
            go_ret
            first | exact ⟨rfl, (hk0 _).trans (Kept.of_below hb2), fun _ _ h => by cases h⟩ | exact ⟨rfl, (hk0 _).trans (Kept.of_below hb2)⟩
        · have h4' : ¬ (keys.length : Int) = (kids.length : Int) - 1 := by omega
          have E0 : Hid (R = none) := by
            show _ = _
            rw [hR.out, if_neg]
            intro hi
            have hi' := innerB_kids hi
            simp only at hi'
            omega
          rw [E0.out]
          clear hR ih hst
          go_enter Try.func40, Try.ntmps40
          go_wp2_with (first | (go_at_call 58; refine (entriesMayBe_any _ _ _ _ _ _ _ (f1.go (hbel _) (Nat.le_refl _) (by omega)) fz (by omega) hhigh).mono ?_; rintro e w2 ⟨rfl, hb2⟩))
          go_ret
          first | exact ⟨rfl, hk0 _, fun _ _ h => by cases h⟩ | exact ⟨rfl, hk0 _⟩
  · have h1' : (0 : Int) < (ents.length : Int) := by have := List.length_pos_iff.2 h1; omega
    have E0 : Hid (R = none) := by
      show _ = _
      rw [hR.out, if_neg]
      intro hi
      have hi' := innerB_kids hi
      simp only at hi'
      exact h1 hi'.1
    rw [E0.out]
    clear hR ih hst
    go_enter Try.func40, Try.ntmps40
    go_wp2_with (first | (go_at_call 58; refine (entriesMayBe_any _ _ _ _ _ _ _ (f1.go (hbel _) (Nat.le_refl _) (by omega)) fz (by omega) hhigh).mono ?_; rintro e w2 ⟨rfl, hb2⟩))
    go_ret
    first | exact ⟨rfl, hk0 _, fun _ _ h => by cases h⟩ | exact ⟨rfl, hk0 _⟩

end Go.Proofs.Ytlojfgdpmaigmac

/- How the arguments of the statements are opened: rollups by value. -/
namespace Go.Proofs.Ytlojfgdpmaigmac
open Go.ChangeShapes Go.WideShapes Go.ChangeAt Go.RowKit

theorem own : ownKnob Try.prog.godebug = none := by kernel_rfl
theorem laidOut : laidOutB Try.prog = true := by kernel_rfl
theorem cellsRu : Try.prog.cellsOf 31 = 6 := by kernel_rfl
theorem cellsInt : Try.prog.cellsOf 3 = 1 := by kernel_rfl

set_option maxRecDepth 100000 in
theorem open_ru {H : Type} {enc : TypeId × Value → H} {W : World} {base : Nat} {spare : Nat → Bool} {held : Bool} {r : Reach} {b0 : Nat} {v : Value} {d : DataW H} {p : List MemPlace}
    (hv : Value.okWide Try.prog W r b0 31 v) (h : DataW.Trod enc Try.prog W base spare held 31 v d p) :
    ∃ c s lo hi t l : Int, v = .agg #[.int .i64 c, .int .i64 s, .int .i64 lo, .int .i64 hi, .int .i64 t, .int .i64 l] ∧ (Lit.int .i64 c).wf = true ∧ (Lit.int .i64 s).wf = true ∧ (Lit.int .i64 lo).wf = true ∧ (Lit.int .i64 hi).wf = true ∧ (Lit.int .i64 t).wf = true ∧ (Lit.int .i64 l).wf = true := by
  obtain ⟨⟨cs⟩, rfl, hsz⟩ := okWide_struct Try.underlying31 hv
  rw [cellsRu] at hsz
  match cs, hsz with
  | [v0, v1, v2, v3, v4, v5], _ =>
    obtain ⟨fuel, hf⟩ := h
    obtain ⟨xs, n, _, _, _, hlen, hg⟩ := DataW.trod_struct Try.underlying31 hf
    match xs, hlen with
    | [y0, y1, y2, y3, y4, y5], _ =>
      have g0 := hg 0 _ rfl
      have g1 := hg 1 _ rfl
      have g2 := hg 2 _ rfl
      have g3 := hg 3 _ rfl
      have g4 := hg 4 _ rfl
      have g5 := hg 5 _ rfl
      obtain ⟨c, e0, _, w0⟩ := DataW.trod_int Try.underlying3 g0
      obtain ⟨s, e1, _, w1⟩ := DataW.trod_int Try.underlying3 g1
      obtain ⟨lo, e2, _, w2⟩ := DataW.trod_int Try.underlying3 g2
      obtain ⟨hi, e3, _, w3⟩ := DataW.trod_int Try.underlying3 g3
      obtain ⟨t, e4, _, w4⟩ := DataW.trod_int Try.underlying3 g4
      obtain ⟨l, e5, _, w5⟩ := DataW.trod_int Try.underlying3 g5
      simp [Value.cells, cellsInt] at e0 e1 e2 e3 e4 e5
      subst e0 e1 e2 e3 e4 e5
      exact ⟨c, s, lo, hi, t, l, rfl, w0, w1, w2, w3, w4, w5⟩

theorem bd {n : Int} (h : (Lit.int .i64 n).wf = true) : -9223372036854775808 ≤ n ∧ n ≤ 9223372036854775807 := by
  have := bounds_i64 h
  omega

end Go.Proofs.Ytlojfgdpmaigmac

/- How a tree that came in is opened. -/
namespace Go.Proofs.Ytlojfgdpmaigmac
open Go.ChangeShapes Go.WideShapes Go.ChangeAt Go.RowKit Go.Deep

theorem spot_none {w : World} {a : Addr} {v : Value} (h : w.cell? a = some v) : a.spot = none := by
  unfold World.cell? at h
  split at h
  · cases hs : a.spot with
    | none => rfl
    | some x => simp [hs] at h
  · simp at h

/-- Rows of elements of several cells, from their elements. -/
theorem row_of {w : World} {a : Addr} {size len : Nat} (hs : 0 < size) (F : Nat → List Value) (all : List Value) (hlen : all.length = len * size) (hget : ∀ k j, k < len → j < size → all[k * size + j]? = (F k)[j]?)
    (hc : ∀ i, i < len → w.cells? 0 (a.add (i * size)) size = some (F i)) : RowAt w.heap.size w (some a) all := by
  by_cases h0 : len = 0
  · left
    exact List.eq_nil_of_length_eq_zero (by rw [hlen, h0, Nat.zero_mul])
  · right
    have hcell : ∀ q u, all[q]? = some u → w.cell? (a.add q) = some u := by
      intro q u hu
      have hq : q < len * size := by rw [← hlen]; exact (List.getElem?_eq_some_iff.1 hu).1
      have hk : q / size < len := Nat.div_lt_of_lt_mul (by rw [Nat.mul_comm]; exact hq)
      have hj : q % size < size := Nat.mod_lt _ hs
      have hqe : q / size * size + q % size = q := Nat.div_add_mod' q size
      have h1 := (World.cells?_some (hc _ hk)).2.2 _ hj
      rw [add_add, hqe, ← hget _ _ hk hj, hqe, hu] at h1
      exact h1
    have hpos : 0 < all.length := by rw [hlen]; exact Nat.mul_pos (by omega) hs
    have ha := hcell 0 _ (List.getElem?_eq_getElem hpos)
    have hsp := spot_none ha
    have ha0 : a.add 0 = a := by simp [Addr.add]
    rw [ha0] at hsp ha
    obtain ⟨b, o, s⟩ := a
    simp only at hsp
    subst hsp
    refine ⟨b, o, rfl, World.block_lt_of_cell? _ _ ha, fun j u hu => ?_⟩
    have := hcell j u hu
    rwa [add_plain] at this

section
variable {H : Type} {enc : TypeId × Value → H} {W : World} {held : Bool} {spare : Nat → Bool} {fuel : Nat}

theorem cellsEn : Try.prog.cellsOf 53 = 7 := by kernel_rfl
theorem cellsNd : Try.prog.cellsOf 62 = 5 := by kernel_rfl
theorem cellsTr : Try.prog.cellsOf 26 = 2 := by kernel_rfl
theorem cellsBool : Try.prog.cellsOf 4 = 1 := by kernel_rfl
theorem cellsSlE : Try.prog.cellsOf 35 = 1 := by kernel_rfl
theorem cellsSlI : Try.prog.cellsOf 60 = 1 := by kernel_rfl
theorem cellsSlN : Try.prog.cellsOf 24 = 1 := by kernel_rfl
theorem bytesEn : Try.prog.bytesOf 53 = 56 := by kernel_rfl
theorem bytesNd : Try.prog.bytesOf 62 = 104 := by kernel_rfl
theorem bytesInt : Try.prog.bytesOf 3 = 8 := by kernel_rfl

def En.wf (x : En) : Prop := (Lit.int .i64 x.key).wf = true ∧ (Lit.int .i64 x.c).wf = true ∧ (Lit.int .i64 x.s).wf = true ∧ (Lit.int .i64 x.lo).wf = true ∧ (Lit.int .i64 x.hi).wf = true ∧ (Lit.int .i64 x.t).wf = true ∧ (Lit.int .i64 x.l).wf = true

set_option maxRecDepth 100000 in
theorem open_en {cs : List Value} {x : DataW H × List MemPlace} (h : DataW.trod enc Try.prog W 0 spare held fuel 53 cs = some x) : ∃ y : En, cs = y.vals ∧ y.wf := by
  obtain ⟨xs, n, _, _, hl, hxl, hg⟩ := DataW.trod_struct Try.underlying53 h
  rw [cellsEn] at hl
  match cs, hl with
  | [v0, v1, v2, v3, v4, v5, v6], _ =>
    match xs, hxl with
    | [y0, y1], _ =>
      have g0 := hg 0 _ rfl
      have g1 := hg 1 _ rfl
      obtain ⟨k, e0, _, w0⟩ := DataW.trod_int Try.underlying3 g0
      obtain ⟨zs, m, _, _, _, hzl, hz⟩ := DataW.trod_struct Try.underlying31 g1
      match zs, hzl with
      | [z0, z1, z2, z3, z4, z5], _ =>
        obtain ⟨c, e1, _, w1⟩ := DataW.trod_int Try.underlying3 (hz 0 _ rfl)
        obtain ⟨s, e2, _, w2⟩ := DataW.trod_int Try.underlying3 (hz 1 _ rfl)
        obtain ⟨lo, e3, _, w3⟩ := DataW.trod_int Try.underlying3 (hz 2 _ rfl)
        obtain ⟨hi, e4, _, w4⟩ := DataW.trod_int Try.underlying3 (hz 3 _ rfl)
        obtain ⟨t, e5, _, w5⟩ := DataW.trod_int Try.underlying3 (hz 4 _ rfl)
        obtain ⟨l, e6, _, w6⟩ := DataW.trod_int Try.underlying3 (hz 5 _ rfl)
        simp [cellsInt, cellsRu] at e0 e1 e2 e3 e4 e5 e6
        subst e0 e1 e2 e3 e4 e5 e6
        exact ⟨⟨k, c, s, lo, hi, t, l⟩, rfl, w0, w1, w2, w3, w4, w5, w6⟩

def Sized (t : TypeId) (d : DataW H) : Prop := ∀ n ∈ d.weights Try.prog t, n ≤ 140737488351232

set_option maxRecDepth 100000 in
theorem open_ents {v : Value} {x : DataW H × List MemPlace} (h : DataW.trod enc Try.prog W 0 (fun _ => true) held fuel 35 [v] = some x) (hs : Sized 35 x.1) :
    ∃ A C xs, v = .slice A xs.length C ∧ (A = none → C = 0) ∧ xs.length ≤ C ∧ RowAt W.heap.size W A (flatE xs) ∧ xs.length * 56 ≤ 140737488351232 ∧ ∀ y ∈ xs, y.wf := by
  rcases open_slice Try.underlying35 h with ⟨hv, _⟩ | ⟨a, len, cap, m, n, D, Pl, hv, _, hl, _, hm, hx, he⟩
  · simp at hv
    subst hv
    exact ⟨none, 0, [], rfl, fun _ => rfl, Nat.le_refl _, .inl rfl, by simp, by simp⟩
  · simp at hv
    subst hv
    simp only [if_true] at hm
    subst hm
    obtain ⟨X, hX⟩ := choose_lt (α := En) (p := fun i y => W.cells? 0 (a.add (i * 7)) 7 = some y.vals ∧ y.wf) (n := len) (fun i hi => by
      obtain ⟨cs', h1, h2⟩ := he i (by omega)
      obtain ⟨y, rfl, hy⟩ := open_en h2
      rw [cellsEn] at h1
      exact ⟨y, h1, hy⟩)
    have hwt : (len + (m - len)) * 56 ≤ 140737488351232 := by
      have := hs ((len + (m - len)) * Try.prog.bytesOf 53) (by rw [hx]; simp [DataW.weights, Try.underlying35])
      rwa [bytesEn] at this
    refine ⟨some a, m, (List.range len).map X, by simp, fun h => (by cases h), by simpa using hl, ?_, ?_, ?_⟩
    · refine row_of (by decide) (fun k => (X k).vals) _ (by rw [flatE_length]; simp) (fun k j hk hj => ?_) (fun i hi => (hX i hi).1)
      rw [flatE_get _ k j (by simpa using hk) hj]
      simp
    · simp only [List.length_map, List.length_range]; omega
    · intro y hy
      obtain ⟨i, hi, rfl⟩ := List.mem_map.1 hy
      exact (hX i (by simpa using hi)).2

set_option maxRecDepth 100000 in
theorem open_nums {v : Value} {x : DataW H × List MemPlace} (h : DataW.trod enc Try.prog W 0 (fun _ => true) held fuel 60 [v] = some x) (hs : Sized 60 x.1) :
    ∃ A C zs, v = .slice A zs.length C ∧ (A = none → C = 0) ∧ zs.length ≤ C ∧ RowAt W.heap.size W A (ints zs) ∧ zs.length * 8 ≤ 140737488351232 ∧ ∀ z ∈ zs, (Lit.int .i64 z).wf = true := by
  rcases open_slice Try.underlying60 h with ⟨hv, _⟩ | ⟨a, len, cap, m, n, D, Pl, hv, _, hl, _, hm, hx, he⟩
  · simp at hv
    subst hv
    exact ⟨none, 0, [], rfl, fun _ => rfl, Nat.le_refl _, .inl rfl, by simp, by simp⟩
  · simp at hv
    subst hv
    simp only [if_true] at hm
    subst hm
    obtain ⟨X, hX⟩ := choose_lt (α := Int) (p := fun i z => W.cells? 0 (a.add (i * 1)) 1 = some [.int .i64 z] ∧ (Lit.int .i64 z).wf = true) (n := len) (fun i hi => by
      obtain ⟨cs', h1, h2⟩ := he i (by omega)
      obtain ⟨z, rfl, _, hz⟩ := DataW.trod_int Try.underlying3 h2
      rw [cellsInt] at h1
      exact ⟨z, h1, hz⟩)
    have hwt : (len + (m - len)) * 8 ≤ 140737488351232 := by
      have := hs ((len + (m - len)) * Try.prog.bytesOf 3) (by rw [hx]; simp [DataW.weights, Try.underlying60])
      rwa [bytesInt] at this
    refine ⟨some a, m, (List.range len).map X, by simp, fun h => (by cases h), by simpa using hl, ?_, ?_, ?_⟩
    · refine row_of (by decide) (fun k => [.int .i64 (X k)]) _ (by simp [ints]) (fun k j hk hj => ?_) (fun i hi => (hX i hi).1)
      obtain rfl : j = 0 := by omega
      simp [ints, hk]
    · simp only [List.length_map, List.length_range]; omega
    · intro y hy
      obtain ⟨i, hi, rfl⟩ := List.mem_map.1 hy
      exact (hX i (by simpa using hi)).2

def PN.wf (p : PN) : Prop := (∀ y ∈ p.ents, y.wf) ∧ (∀ z ∈ p.keys, (Lit.int .i64 z).wf = true) ∧ (∀ z ∈ p.kids, (Lit.int .i64 z).wf = true) ∧ ∀ y ∈ p.buf, y.wf

set_option maxRecDepth 100000 in
theorem open_node {cs : List Value} {x : DataW H × List MemPlace} (h : DataW.trod enc Try.prog W 0 (fun _ => true) held fuel 62 cs = some x) (hs : Sized 62 x.1) :
    ∃ p : PN, cs = p.vals ∧ p.ok W.heap.size W ∧ p.wf := by
  obtain ⟨xs, n, _, hx, hl, hxl, hg⟩ := DataW.trod_struct Try.underlying62 h
  rw [cellsNd] at hl
  match cs, hl with
  | [v0, v1, v2, v3, v4], _ =>
    match xs, hxl with
    | [y0, y1, y2, y3, y4], _ =>
      have g0 := hg 0 _ rfl
      have g1 := hg 1 _ rfl
      have g2 := hg 2 _ rfl
      have g3 := hg 3 _ rfl
      have g4 := hg 4 _ rfl
      simp [cellsBool, cellsSlE, cellsSlI] at g0 g1 g2 g3 g4
      have hw : ∀ n ∈ DataW.weightsEach Try.prog [4, 35, 60, 60, 35] [y0.1, y1.1, y2.1, y3.1, y4.1], n ≤ 140737488351232 := by
        intro n hn
        refine hs n ?_
        rw [hx]
        simp only [List.map_cons, List.map_nil, DataW.weights, Try.underlying62]
        exact hn
      obtain ⟨lf, e0, _⟩ := DataW.trod_bool Try.underlying4 g0
      simp at e0
      subst e0
      obtain ⟨eA, eC, ents, rfl, en, _, er, ez, ew⟩ := open_ents g1 (fun n hn => hw n (DataW.weights_mem_each (j := 1) rfl rfl n hn))
      obtain ⟨kA, kC, keys, rfl, kn, _, kr, kz, kw⟩ := open_nums g2 (fun n hn => hw n (DataW.weights_mem_each (j := 2) rfl rfl n hn))
      obtain ⟨dA, dC, kids, rfl, dn, _, dr, dz, dw⟩ := open_nums g3 (fun n hn => hw n (DataW.weights_mem_each (j := 3) rfl rfl n hn))
      obtain ⟨bA, bC, buf, rfl, bn, _, br, bz, bw⟩ := open_ents g4 (fun n hn => hw n (DataW.weights_mem_each (j := 4) rfl rfl n hn))
      exact ⟨⟨lf, eA, eC, ents, kA, kC, keys, dA, dC, kids, bA, bC, buf⟩, rfl, ⟨er, kr, dr, br, en, kn, dn, bn, ez, kz, dz, bz⟩, ew, kw, dw, bw⟩

theorem weightsAll_mem {P : Program} {e : TypeId} : ∀ {ds : List (DataW H)} {d : DataW H}, d ∈ ds → ∀ n ∈ d.weights P e, n ∈ DataW.weightsAll P e ds
  | d0 :: r, d, hd, n, hn => by
    simp only [DataW.weightsAll, List.mem_append]
    rcases List.mem_cons.1 hd with rfl | h
    · exact .inl hn
    · exact .inr (weightsAll_mem h n hn)

set_option maxRecDepth 100000 in
theorem open_nodes {v : Value} {x : DataW H × List MemPlace} (h : DataW.trod enc Try.prog W 0 (fun _ => true) held fuel 24 [v] = some x) (hs : Sized 24 x.1) :
    ∃ A C ps, v = .slice A ps.length C ∧ NodesAt W.heap.size W A ps ∧ ∀ p ∈ ps, p.wf := by
  rcases open_slice Try.underlying24 h with ⟨hv, _⟩ | ⟨a, len, cap, m, n, D, Pl, hv, _, hl, _, hm, hx, he⟩
  · simp at hv
    subst hv
    exact ⟨none, 0, [], rfl, ⟨.inl rfl, fun k hk => absurd hk (Nat.not_lt_zero _), by simp⟩, by simp⟩
  · simp at hv
    subst hv
    simp only [if_true] at hm
    subst hm
    have hw : ∀ i, i < len → Sized 62 (D i) := by
      intro i hi n hn
      refine hs n ?_
      rw [hx]
      simp only [DataW.weights, Try.underlying24, List.mem_cons, List.mem_append]
      exact .inr (.inl (weightsAll_mem (List.mem_map.2 ⟨i, by simpa using hi, rfl⟩) n hn))
    obtain ⟨X, hX⟩ := choose_lt (α := PN) (p := fun i y => W.cells? 0 (a.add (i * 5)) 5 = some y.vals ∧ y.ok W.heap.size W ∧ y.wf) (n := len) (fun i hi => by
      obtain ⟨cs', h1, h2⟩ := he i (by omega)
      obtain ⟨y, rfl, hy, hyw⟩ := open_node h2 (hw i hi)
      rw [cellsNd] at h1
      exact ⟨y, h1, hy, hyw⟩)
    have hwt : (len + (m - len)) * 104 ≤ 140737488351232 := by
      have := hs ((len + (m - len)) * Try.prog.bytesOf 62) (by rw [hx]; simp [DataW.weights, Try.underlying24])
      rwa [bytesNd] at this
    refine ⟨some a, m, (List.range len).map X, by simp, ⟨?_, ?_, ?_⟩, ?_⟩
    · refine row_of (by decide) (fun k => (X k).vals) _ (by rw [flatN_length]; simp) (fun k j hk hj => ?_) (fun i hi => (hX i hi).1)
      rw [flatN_get _ k j (by simpa using hk) hj]
      simp
    · intro k hk
      simp only [List.length_map, List.length_range] at hk
      simpa using (hX k hk).2.1
    · simp only [List.length_map, List.length_range]; omega
    · intro y hy
      obtain ⟨i, hi, rfl⟩ := List.mem_map.1 hy
      exact (hX i (by simpa using hi)).2.2

set_option maxRecDepth 100000 in
theorem open_tree {base b0 : Nat} {r : Reach} {v : Value} {d : DataW H} {p : List MemPlace} (hb : base = 0) (hv : Value.okWide Try.prog W r b0 26 v) (h : DataW.Trod enc Try.prog W base (fun _ => true) held 26 v d p) (hs : Sized 26 d) :
    ∃ A C ps n, v = .agg #[.slice A ps.length C, .int .i64 n] ∧ NodesAt W.heap.size W A ps ∧ (∀ p ∈ ps, p.wf) ∧ (Lit.int .i64 n).wf = true := by
  subst hb
  obtain ⟨⟨cs⟩, rfl, hsz⟩ := okWide_struct Try.underlying26 hv
  rw [cellsTr] at hsz
  match cs, hsz with
  | [v0, v1], _ =>
    obtain ⟨fuel, hf⟩ := h
    obtain ⟨xs, n, _, hx, _, hlen, hg⟩ := DataW.trod_struct Try.underlying26 hf
    match xs, hlen with
    | [y0, y1], _ =>
      have g0 := hg 0 _ rfl
      have g1 := hg 1 _ rfl
      simp [Value.cells, cellsSlN, cellsInt] at g0 g1
      cases hx
      obtain ⟨A, C, ps, rfl, hN, hw⟩ := open_nodes g0 (fun n hn => hs n (by
        simp only [List.map_cons, List.map_nil, DataW.weights, Try.underlying26]
        exact DataW.weights_mem_each (ts := [24, 3]) (j := 0) rfl rfl n hn))
      obtain ⟨m, e1, _, w1⟩ := DataW.trod_int Try.underlying3 g1
      simp at e1
      subst e1
      exact ⟨A, C, ps, m, rfl, hN, hw, w1⟩

end
end Go.Proofs.Ytlojfgdpmaigmac

/- The survey of a tree, and Check. -/
namespace Go.Proofs.Ytlojfgdpmaigmac
open Go.RowKit Plain Go.Maps

theorem mapIs_put {w w1 : World} {mb : Nat} {S : St} {D : DataW Unit} {m d : Int} (hown : w.ownsMap Try.prog 3 (plainElem Try.prog 3) mb S.length D) (hhas : ∀ n : Int, Maps.has D (.int .i64 n) = seenB S n) (hat : ∀ p ∈ S, D.atKey (.int .i64 p.1) (.lit (.int .i64 0)) = .lit (.int .i64 p.2)) (hsize : Maps.size D = S.length)
    (hw : (Lit.int .i64 m).wf = true) (hs : seenB S m = false) (hown1 : w1.ownsMap Try.prog 3 (plainElem Try.prog 3) mb (S.length + 1) (D.put (.int .i64 m) (.lit (.int .i64 d)))) : MapIs w1 mb ((m, d) :: S) := by
  have hk := law.key (keyOf_int_mk Try.underlying3 hw)
  refine ⟨_, hown1, fun n => ?_, fun p hp => ?_, ?_⟩
  · by_cases e : n = m
    · subst e
      rw [has_put_same hown.isMap hk]
      simp [seenB]
    · rw [has_put_other (by intro h; exact e (by simpa using h)), hhas n]
      unfold seenB
      rw [List.any_cons, show (((m, d) : Int × Int).1 == n) = false by simp; exact fun h => e h.symm, Bool.false_or]
  · rcases List.mem_cons.1 hp with rfl | hp
    · exact atKey_put_same hown.isMap hk _ _
    · have hne : p.1 ≠ m := by
        intro e
        have : seenB S m = true := seenB_iff.2 (e ▸ List.mem_map.2 ⟨p, hp, rfl⟩)
        rw [hs] at this
        cases this
      rw [atKey_put_other (by intro h; exact hne (by simpa using h))]
      exact hat p hp
  · rw [size_put (hown.tidy law), hhas m, hs]
    simp [hsize]

theorem kept_grown {w w1 : World} {q mb : Nat} (h : w.grownBy w1 (some mb)) : Kept [q, mb] w w1 :=
  ⟨h.os, h.tape, h.output, h.size, fun k hk hx => h.block k hk (by intro e; cases e; simp at hx)⟩

theorem StOk.len {N : Nat} {S : St} (h : StOk N S) : S.length ≤ N := by
  have h1 := nodup_le (S.map (·.1)) ((List.range N).map (fun i : Nat => (i : Int))) h.1 (fun x hx => by
    obtain ⟨p, hp, rfl⟩ := List.mem_map.1 hx
    have := h.2 p hp
    exact List.mem_map.2 ⟨p.1.toNat, by simp; omega, by omega⟩)
  simpa using h1

theorem StOk.cons {N : Nat} {S : St} (h : StOk N S) {m d : Int} (h0 : 0 ≤ m) (h1 : m < (N : Int)) (hs : seenB S m = false) : StOk N ((m, d) :: S) := by
  refine ⟨?_, fun p hp => ?_⟩
  · rw [List.map_cons, List.nodup_cons]
    exact ⟨fun e => (by rw [seenB_iff.2 e] at hs; cases hs), h.1⟩
  · rcases List.mem_cons.1 hp with rfl | hp
    · exact ⟨h0, h1⟩
    · exact h.2 p hp

theorem leaf_res (x : Nd) (low high : Int) (f : Nat) (L d : Int) (S1 : St) :
    resN L (if leafB x low high f = true then some (S1, [d]) else none) = leafR x low high f L d ∧ ∀ S' l, (if leafB x low high f = true then some (S1, [d]) else none) = some (S', l) → okL L l = true → S' = S1 ∧ nextL L l = (if L = 0 then d else L) ∧ leafR x low high f L d = true := by
  by_cases h : leafB x low high f = true
  · have e : okL L [d] = decide (L = 0 ∨ L = d) := by
      by_cases h0 : L = 0
      · simp [okL, h0]
      · rw [Bool.eq_iff_iff]
        simp [okL, h0]
        exact eq_comm
    simp only [h, if_true, resN, leafR, Bool.and_true]
    refine ⟨e, fun S' l hs hk => ?_⟩
    cases hs
    exact ⟨rfl, by simp [nextL], by rw [← e]; exact hk⟩
  · have h' : leafB x low high f = false := by simpa using h
    simp [h', resN, leafR]

set_option maxRecDepth 20000 in
set_option maxHeartbeats 4000000 in
theorem node_any (A : Option Addr) (C : Nat) (ps : List PN) (q mb B : Nat) (hwf : ∀ p ∈ ps, p.wf) (hps : ps.length ≤ 2000) (hBq : B ≤ q) (hBm : B ≤ mb) : ∀ (f : Nat), f ≤ 12 → ∀ (n low high d L : Int) (S : St) (w : World), d + (f : Int) = 13 → NodesAt B w A ps → Sur w q mb A ps.length C S L → StOk ps.length S → 0 ≤ low → high ≤ 9223372036854775807 →
    Calls Try.prog 22 #[.pointer (some ⟨q, 0, none⟩), .int .i64 n, .int .i64 d, .int .i64 low, .int .i64 high] w
      fun e w' => e = .returned (.bool (resN L (W (ps.map PN.nd) f n low high S))) ∧ Kept [q, mb] w w' ∧ ∀ S' l, W (ps.map PN.nd) f n low high S = some (S', l) → okL L l = true → Sur w' q mb A ps.length C S' (nextL L l) := by
  intro f
  induction f with
  | zero =>
    intro _ n low high d L S w hd0 hN hS _ hlow hhigh
    obtain rfl : d = 13 := by omega
    clear hd0
    have hz := hN.z
    have q0 := hS.row.cell 0
    simp only [List.getElem?_cons_zero] at q0
    have E0 : Hid (resN L (W (ps.map PN.nd) 0 n low high S) = false) := rfl
    go_enter Try.func22, Try.ntmps22
    go_wp2_with fail
    all_goals go_ret
    all_goals exact ⟨ret_bool E0.out.symm, Kept.refl _ _, fun _ _ h => by cases h⟩
  | succ f ih =>
    intro hf n low high d L S w hd0 hN hS hst hlow hhigh
    have hd1 : 1 ≤ d := by omega
    have hd2 : d ≤ 12 := by omega
    have HD : Hid (d = 12 - (f : Int)) := by show _ = _; omega
    clear hd0
    have hz := hN.z
    have hqs := hS.row.lt
    have hms := hS.map.lt
    have q0 := hS.row.cell 0
    have q1 := hS.row.cell 1
    simp only [List.getElem?_cons_zero, List.getElem?_cons_succ] at q0 q1
    by_cases hout : n < 0 ∨ (ps.length : Int) ≤ n ∨ high ≤ low
    · have E0 : Hid (W (ps.map PN.nd) (f + 1) n low high S = none) := W_out (by simp only [List.length_map]; omega)
      rw [E0.out]
      clear ih
      rcases hout with h | h | h
      all_goals
        go_enter Try.func22, Try.ntmps22
        go_wp2_with fail
        all_goals go_ret
        all_goals first | exact ⟨rfl, Kept.refl _ _, fun _ _ h => by cases h⟩ | exact ⟨rfl, Kept.refl _ _⟩
    · obtain ⟨m, rfl⟩ : ∃ m : Nat, n = m := ⟨n.toNat, by omega⟩
      have hm : m < ps.length := by omega
      have hlh : low < high := by omega
      have hwm : (Lit.int .i64 (m : Int)).wf = true := WalkArith.wf_i64 (by omega)
      have hwd : (Lit.int .i64 d).wf = true := WalkArith.wf_i64 (by omega)
      have j1 : ¬ (ps.length : Int) ≤ (m : Int) := by omega
      have j2 : ¬ high ≤ low := by omega
      clear hout
      obtain ⟨D, hown, hhas, hatk, hsize⟩ := hS.map
      have hkey := keyOf_int_mk Try.underlying3 hwm
      by_cases hseen : seenB S (m : Int) = true
      · have E0 : Hid (W (ps.map PN.nd) (f + 1) m low high S = none) := W_out (.inr (.inr (.inr hseen)))
        rw [E0.out]
        have hh := (hhas m).trans hseen
        clear ih hhas hatk hsize
        go_enter Try.func22, Try.ntmps22
        go_wp2_with (first | (at_lookup; refine wpList_lookup_own_ok_int _ rfl _ _ 56 rfl 3 3 .i64 law Try.underlying56 Try.underlying3 (zeroI _) mb _ D rfl hown _ _ rfl hkey ?_; intro c hat hwc))
        go_ret
        first | exact ⟨rfl, Kept.refl _ _, fun _ _ h => by cases h⟩ | exact ⟨rfl, Kept.refl _ _⟩
      · have hseen' : seenB S (m : Int) = false := by simpa using hseen
        obtain ⟨b, o, rfl, hbl, c0, c1, c2, c3, c4⟩ := hN.row.pn hm
        have ok := hN.each m hm
        have hwp := hwf _ (List.getElem_mem hm)
        have hx : (ps.map PN.nd)[m]'(by simpa using hm) = (ps[m]).nd := by simp
        have hml : m < (ps.map PN.nd).length := by simpa using hm
        have hat : PnAt w b (o + m * 5) ps[m] := ⟨c0, c1, c2, c3, c4⟩
        have hWl := W_leaf (f := f) (low := low) (high := high) (S := S) hml hx hlh hseen'
        have hWi := W_inner (f := f) (low := low) (high := high) (S := S) hml hx hlh hseen'
        clear c1 c2 c3 c4 hx
        generalize ps[m] = p at *
        obtain ⟨leaf, eA, eC, ents, kA, kC, keys, dA, dC, kids, bA, bC, buf⟩ := p
        have hh := (hhas m).trans hseen'
        have hsl : S.length ≤ ps.length := hst.len
        have hst1 : StOk ps.length (((m : Int), d) :: S) := hst.cons (by omega) (by omega) hseen'
        have hne : q ≠ mb := hS.ne
        have dd := HD.out
        have HA : Hid (∀ w1 : World, w1.ownsMap Try.prog 3 (plainElem Try.prog 3) mb (S.length + 1) (D.put (.int .i64 (m : Int)) (.lit (.int .i64 d))) → w.grownBy w1 (some mb) → Sur w1 q mb (some ⟨b, o, none⟩) ps.length C (((m : Int), d) :: S) L ∧ PnAt w1 b (o + m * 5) ⟨leaf, eA, eC, ents, kA, kC, keys, dA, dC, kids, bA, bC, buf⟩ ∧ PN.ok B w1 ⟨leaf, eA, eC, ents, kA, kC, keys, dA, dC, kids, bA, bC, buf⟩ ∧ NodesAt B w1 (some ⟨b, o, none⟩) ps) := by
          intro w1 hown1 hgrow1
          have hb1 : Below B w w1 := (kept_grown (q := q) hgrow1).below (by omega) (by simp; omega)
          refine ⟨⟨hS.row.of_block (hgrow1.block q hqs (by simpa using hne)), mapIs_put hown hhas hatk hsize hwm hseen' hown1, hne⟩, ?_, ok.below hb1 (Nat.le_refl _), hN.below hb1 (Nat.le_refl _)⟩
          obtain ⟨x0, x1, x2, x3, x4⟩ := hat
          exact ⟨(hb1.cell (p := ⟨b, _, none⟩) hbl).trans x0, (hb1.cell (p := ⟨b, _, none⟩) hbl).trans x1, (hb1.cell (p := ⟨b, _, none⟩) hbl).trans x2, (hb1.cell (p := ⟨b, _, none⟩) hbl).trans x3, (hb1.cell (p := ⟨b, _, none⟩) hbl).trans x4⟩
        clear hhas hatk hsize hat ok hseen
        have hbm : ¬ b = mb := by omega
        have hqm : ¬ q = mb := hne
        simp only at c0
        cases hleaf : leaf with
        | true =>
          subst hleaf
          obtain ⟨rs, hrs⟩ : ∃ rs, rs = leafR ⟨true, ents, keys, kids, buf⟩ low high f L d := ⟨_, rfl⟩
          have hW1 : W (ps.map PN.nd) (f + 1) m low high S = if leafB ⟨true, ents, keys, kids, buf⟩ low high f = true then some (((m : Int), d) :: S, [d]) else none := by rw [dd]; exact hWl rfl
          have E1 : Hid (resN L (W (ps.map PN.nd) (f + 1) m low high S) = rs ∧ ∀ S' l, W (ps.map PN.nd) (f + 1) m low high S = some (S', l) → okL L l = true → S' = ((m : Int), d) :: S ∧ nextL L l = (if L = 0 then d else L) ∧ rs = true) := by
            rw [hW1, hrs]
            exact leaf_res _ _ _ _ _ _ _
          obtain ⟨L', hL'⟩ : ∃ L', L' = if L = 0 then d else L := ⟨_, rfl⟩
          have HL' : Hid (L' = if L = 0 then d else L) := hL'
          clear hL' hWl hWi ih hW1
          have HRS : Hid (rs = leafR ⟨true, ents, keys, kids, buf⟩ low high f L d) := hrs
          clear hrs dd
          go_enter Try.func22, Try.ntmps22
          go_wp2_with (first
            | (at_lookup; refine wpList_lookup_own_ok_int _ rfl _ _ 56 rfl 3 3 .i64 law Try.underlying56 Try.underlying3 (zeroI _) mb _ D rfl hown _ _ rfl hkey ?_; intro c hat hwc)
            | (at_mapUpdate; refine wpList_mapUpdate_own _ rfl _ _ _ 56 rfl 3 3 law Try.underlying56 _ mb _ D rfl hown (by unfold maxLen; omega) _ _ _ rfl rfl hkey _ [] (plainElem_int Try.underlying3 hwd) ?_; intro w1 hown1 hgrow1; have q0' := hgrow1.cell q0 (by simpa using hqm); have c0' := hgrow1.cell c0 (by simpa using hbm))
            | (go_at_call 39; obtain ⟨g1, g2, g3, g4⟩ := HA.out w1 hown1 hgrow1; refine (surLeaf_any b o C ps.length q mb B f m low high d L (((m : Int), d) :: S) w1 true eA eC ents kA kC keys dA dC kids bA bC buf hm hz g2 g3 hbl hBq g1 List.mem_cons_self hlow hhigh hd1 hd2 (by have := HD.out; omega) rs HRS L' HL').mono ?_; rintro e w2 ⟨rfl, hk2, hs2⟩))
          go_ret
          refine ⟨ret_bool E1.out.1.symm, (kept_grown hgrow1).trans hk2, fun S' l h hk => ?_⟩
          obtain ⟨e1, e2, e3⟩ := E1.out.2 S' l h hk
          rw [e1, e2, ← HL'.out]
          exact hs2 e3
        | false =>
          subst hleaf
          have hW1 : W (ps.map PN.nd) (f + 1) m low high S = if innerB ⟨false, ents, keys, kids, buf⟩ low high = true then Wk (W (ps.map PN.nd) f) kids keys low high (((m : Int), d) :: S) else none := by rw [dd]; exact hWi rfl
          obtain ⟨R, hR⟩ : ∃ R, R = W (ps.map PN.nd) (f + 1) m low high S := ⟨_, rfl⟩
          have HR : Hid (R = if innerB ⟨false, ents, keys, kids, buf⟩ low high = true then Wk (W (ps.map PN.nd) f) kids keys low high (((m : Int), d) :: S) else none) := hR.trans hW1
          rw [← hR]
          have HIH : Hid (∀ (n lo hi L' : Int) (S' : St) (w' : World), NodesAt B w' (some ⟨b, o, none⟩) ps → Sur w' q mb (some ⟨b, o, none⟩) ps.length C S' L' → StOk ps.length S' → 0 ≤ lo → hi ≤ 9223372036854775807 →
              Calls Try.prog 22 #[.pointer (some ⟨q, 0, none⟩), .int .i64 n, .int .i64 (d + 1), .int .i64 lo, .int .i64 hi] w'
                fun e w'' => e = .returned (.bool (resN L' (W (ps.map PN.nd) f n lo hi S'))) ∧ Kept [q, mb] w' w'' ∧ ∀ S'' l, W (ps.map PN.nd) f n lo hi S' = some (S'', l) → okL L' l = true → Sur w'' q mb (some ⟨b, o, none⟩) ps.length C S'' (nextL L' l)) :=
            fun n lo hi L' S' w' a1 a2 a3 a4 a5 => ih (by omega) n lo hi (d + 1) L' S' w' (by omega) a1 a2 a3 a4 a5
          have hkk : ∀ z ∈ keys, z ≤ 9223372036854775807 := fun z hz => (bd (hwp.2.1 z hz)).2
          clear hWl hWi ih hW1 hR dd hwp
          go_enter Try.func22, Try.ntmps22
          go_wp2_with (first
            | (at_lookup; refine wpList_lookup_own_ok_int _ rfl _ _ 56 rfl 3 3 .i64 law Try.underlying56 Try.underlying3 (zeroI _) mb _ D rfl hown _ _ rfl hkey ?_; intro c hat hwc)
            | (at_mapUpdate; refine wpList_mapUpdate_own _ rfl _ _ _ 56 rfl 3 3 law Try.underlying56 _ mb _ D rfl hown (by unfold maxLen; omega) _ _ _ rfl rfl hkey _ [] (plainElem_int Try.underlying3 hwd) ?_; intro w1 hown1 hgrow1; have q0' := hgrow1.cell q0 (by simpa using hqm); have c0' := hgrow1.cell c0 (by simpa using hbm))
            | (go_at_call 40; obtain ⟨g1, g2, g3, g4⟩ := HA.out w1 hown1 hgrow1; refine (surInner_any b o C ps q mb B f m low high d L (((m : Int), d) :: S) w1 false eA eC ents kA kC keys dA dC kids bA bC buf hm g4 g2 g3 hkk hbl hBq hBm g1 List.mem_cons_self hst1 hlow hhigh hd1 hd2 hf HIH R HR).mono ?_; rintro e w2 ⟨rfl, hk2, hs2⟩))
          go_ret
          exact ⟨rfl, (kept_grown hgrow1).trans hk2, hs2⟩

end Go.Proofs.Ytlojfgdpmaigmac

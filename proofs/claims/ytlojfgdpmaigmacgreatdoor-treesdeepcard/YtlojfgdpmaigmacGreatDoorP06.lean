/- Rows of cells, and what lies in them: numbers, entries. -/
import Derived.Test.YtlojfgdpmaigmacGreatDoorRows
import Derived.Test.YtlojfgdpmaigmacGreatDoorP02
import Derived.WalkKit
import Derived.WalkSpells
import Derived.WalkLawsBesides
import Derived.Handy
import Derived.Deep.Light
import Derived.Deep.OwnRows
import Derived.ProofKit
import Derived.OpenShut
import Derived.Below
import Derived.ChangeOld
namespace Go.Proofs.YtlojfgdpmaigmacGreatDoor
open Go.RowKit

/-- A slice's cells, from its address on, in blocks below B. -/
def RowAt (B : Nat) (w : World) (A : Option Addr) (vs : List Value) : Prop :=
  vs = [] ∨ ∃ b o, A = some ⟨b, o, none⟩ ∧ b < B ∧ ∀ j u, vs[j]? = some u → w.cell? ⟨b, o + j, none⟩ = some u

theorem RowAt.below {B B' : Nat} {w w' : World} {A : Option Addr} {vs : List Value} (h : RowAt B w A vs) (hb : Below B' w w') (hB : B ≤ B') : RowAt B w' A vs := by
  rcases h with h | ⟨b, o, hA, hlt, hc⟩
  · exact .inl h
  · exact .inr ⟨b, o, hA, hlt, fun j u hu => (hb.cell (p := ⟨b, o + j, none⟩) (Nat.lt_of_lt_of_le hlt hB)).trans (hc j u hu)⟩

theorem RowAt.mono {B B' : Nat} {w : World} {A : Option Addr} {vs : List Value} (h : RowAt B w A vs) (hB : B ≤ B') : RowAt B' w A vs := by
  rcases h with h | ⟨b, o, hA, hlt, hc⟩
  · exact .inl h
  · exact .inr ⟨b, o, hA, by omega, hc⟩

structure En where
  key : Int
  c : Int
  s : Int
  lo : Int
  hi : Int
  t : Int
  l : Int
deriving DecidableEq, Inhabited

def En.vals (x : En) : List Value := [.int .i64 x.key, .int .i64 x.c, .int .i64 x.s, .int .i64 x.lo, .int .i64 x.hi, .int .i64 x.t, .int .i64 x.l]
def flatE : List En → List Value
  | [] => []
  | x :: r => x.vals ++ flatE r

theorem flatE_length : ∀ xs : List En, (flatE xs).length = xs.length * 7
  | [] => rfl
  | x :: r => by simp [flatE, En.vals, flatE_length r]; omega

theorem flatE_append : ∀ xs ys : List En, flatE (xs ++ ys) = flatE xs ++ flatE ys
  | [], _ => rfl
  | x :: r, ys => by simp [flatE, flatE_append r ys]

theorem flatE_get (xs : List En) (k j : Nat) (hk : k < xs.length) (hj : j < 7) : (flatE xs)[k * 7 + j]? = (xs[k]).vals[j]? := by
  induction xs generalizing k with
  | nil => simp at hk
  | cons x r ih =>
    cases k with
    | zero => simp only [flatE]; rw [List.getElem?_append_left (by simp [En.vals]; omega)]; simp
    | succ k =>
      simp only [flatE]
      rw [List.getElem?_append_right (by simp [En.vals]; omega)]
      have := ih k (by simpa using hk)
      simp only [En.vals, List.length_cons, List.length_nil] at *
      rw [show (k + 1) * 7 + j - (0 + 1 + 1 + 1 + 1 + 1 + 1 + 1) = k * 7 + j by omega]
      simpa using this

def ints (zs : List Int) : List Value := zs.map (.int .i64)

theorem RowAt.int {B : Nat} {w : World} {A : Option Addr} {zs : List Int} (h : RowAt B w A (ints zs)) {k : Nat} (hk : k < zs.length) :
    ∃ b o, A = some ⟨b, o, none⟩ ∧ b < B ∧ w.cell? ⟨b, o + k, none⟩ = some (.int .i64 zs[k]) := by
  rcases h with h | ⟨b, o, hA, hlt, hc⟩
  · simp [ints] at h; subst h; simp at hk
  · exact ⟨b, o, hA, hlt, hc k _ (by simp [ints, hk])⟩

structure EnAt (w : World) (b o : Nat) (x : En) : Prop where
  c0 : w.cell? ⟨b, o, none⟩ = some (.int .i64 x.key)
  c1 : w.cell? ⟨b, o + 1, none⟩ = some (.int .i64 x.c)
  c2 : w.cell? ⟨b, o + 2, none⟩ = some (.int .i64 x.s)
  c3 : w.cell? ⟨b, o + 3, none⟩ = some (.int .i64 x.lo)
  c4 : w.cell? ⟨b, o + 4, none⟩ = some (.int .i64 x.hi)
  c5 : w.cell? ⟨b, o + 5, none⟩ = some (.int .i64 x.t)
  c6 : w.cell? ⟨b, o + 6, none⟩ = some (.int .i64 x.l)

theorem RowAt.en {B : Nat} {w : World} {A : Option Addr} {xs : List En} (h : RowAt B w A (flatE xs)) {k : Nat} (hk : k < xs.length) :
    ∃ b o, A = some ⟨b, o, none⟩ ∧ b < B ∧ EnAt w b (o + k * 7) xs[k] := by
  rcases h with h | ⟨b, o, hA, hlt, hc⟩
  · have := flatE_length xs; rw [h] at this; simp at this; omega
  · refine ⟨b, o, hA, hlt, ?_⟩
    have g : ∀ j, j < 7 → ∀ u, (xs[k]).vals[j]? = some u → w.cell? ⟨b, o + k * 7 + j, none⟩ = some u := fun j hj u hu => by
      have := hc (k * 7 + j) u (by rw [flatE_get xs k j hk hj]; exact hu)
      rwa [← Nat.add_assoc] at this
    exact ⟨g 0 (by decide) _ rfl, g 1 (by decide) _ rfl, g 2 (by decide) _ rfl, g 3 (by decide) _ rfl, g 4 (by decide) _ rfl, g 5 (by decide) _ rfl, g 6 (by decide) _ rfl⟩

end Go.Proofs.YtlojfgdpmaigmacGreatDoor

/- How the arguments of the statements are opened: rollups by value. -/
namespace Go.Proofs.YtlojfgdpmaigmacGreatDoor
open Go.ChangeShapes Go.WideShapes Go.ChangeAt Go.RowKit

theorem own : ownKnob Tryz.prog.godebug = none := by kernel_rfl
theorem laidOut : laidOutB Tryz.prog = true := by kernel_rfl
theorem cellsRu : Tryz.prog.cellsOf 38 = 6 := by kernel_rfl
theorem cellsInt : Tryz.prog.cellsOf 3 = 1 := by kernel_rfl

set_option maxRecDepth 100000 in
theorem open_ru {H : Type} {enc : TypeId × Value → H} {W : World} {base : Nat} {spare : Nat → Bool} {held : Bool} {r : Reach} {b0 : Nat} {v : Value} {d : DataW H} {p : List MemPlace}
    (hv : Value.okWide Tryz.prog W r b0 38 v) (h : DataW.Trod enc Tryz.prog W base spare held 38 v d p) :
    ∃ c s lo hi t l : Int, v = .agg #[.int .i64 c, .int .i64 s, .int .i64 lo, .int .i64 hi, .int .i64 t, .int .i64 l] ∧ (Lit.int .i64 c).wf = true ∧ (Lit.int .i64 s).wf = true ∧ (Lit.int .i64 lo).wf = true ∧ (Lit.int .i64 hi).wf = true ∧ (Lit.int .i64 t).wf = true ∧ (Lit.int .i64 l).wf = true := by
  obtain ⟨⟨cs⟩, rfl, hsz⟩ := okWide_struct Tryz.underlying38 hv
  rw [cellsRu] at hsz
  match cs, hsz with
  | [v0, v1, v2, v3, v4, v5], _ =>
    obtain ⟨fuel, hf⟩ := h
    obtain ⟨xs, n, _, _, _, hlen, hg⟩ := DataW.trod_struct Tryz.underlying38 hf
    match xs, hlen with
    | [y0, y1, y2, y3, y4, y5], _ =>
      have g0 := hg 0 _ rfl
      have g1 := hg 1 _ rfl
      have g2 := hg 2 _ rfl
      have g3 := hg 3 _ rfl
      have g4 := hg 4 _ rfl
      have g5 := hg 5 _ rfl
      obtain ⟨c, e0, _, w0⟩ := DataW.trod_int Tryz.underlying3 g0
      obtain ⟨s, e1, _, w1⟩ := DataW.trod_int Tryz.underlying3 g1
      obtain ⟨lo, e2, _, w2⟩ := DataW.trod_int Tryz.underlying3 g2
      obtain ⟨hi, e3, _, w3⟩ := DataW.trod_int Tryz.underlying3 g3
      obtain ⟨t, e4, _, w4⟩ := DataW.trod_int Tryz.underlying3 g4
      obtain ⟨l, e5, _, w5⟩ := DataW.trod_int Tryz.underlying3 g5
      simp [Value.cells, cellsInt] at e0 e1 e2 e3 e4 e5
      subst e0 e1 e2 e3 e4 e5
      exact ⟨c, s, lo, hi, t, l, rfl, w0, w1, w2, w3, w4, w5⟩

theorem bd {n : Int} (h : (Lit.int .i64 n).wf = true) : -9223372036854775808 ≤ n ∧ n ≤ 9223372036854775807 := by
  have := bounds_i64 h
  omega

end Go.Proofs.YtlojfgdpmaigmacGreatDoor

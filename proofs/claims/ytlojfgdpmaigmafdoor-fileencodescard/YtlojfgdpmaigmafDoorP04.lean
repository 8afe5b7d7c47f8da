/- Rows of cells, and what lies in them: numbers, entries. -/
import Derived.Test.YtlojfgdpmaigmafDoorRows
import Derived.Test.YtlojfgdpmaigmafDoorAid
import Derived.WalkKit
import Derived.WalkSpells
import Derived.WalkLawsBesides
import Derived.Handy
import Derived.Deep.Light
import Derived.Deep.OwnRows
import Derived.ProofKit
import Derived.OpenShut
import Derived.Below
import Derived.ChangeOld
namespace Go.Proofs.YtlojfgdpmaigmafDoor
open Go.RowKit

/-- A slice's cells, from its address on, in blocks below B. -/
def RowAt (B : Nat) (w : World) (A : Option Addr) (vs : List Value) : Prop :=
  vs = [] ∨ ∃ b o, A = some ⟨b, o, none⟩ ∧ b < B ∧ ∀ j u, vs[j]? = some u → w.cell? ⟨b, o + j, none⟩ = some u

theorem RowAt.below {B B' : Nat} {w w' : World} {A : Option Addr} {vs : List Value} (h : RowAt B w A vs) (hb : Below B' w w') (hB : B ≤ B') : RowAt B w' A vs := by
  rcases h with h | ⟨b, o, hA, hlt, hc⟩
  · exact .inl h
  · exact .inr ⟨b, o, hA, hlt, fun j u hu => (hb.cell (p := ⟨b, o + j, none⟩) (Nat.lt_of_lt_of_le hlt hB)).trans (hc j u hu)⟩

theorem RowAt.mono {B B' : Nat} {w : World} {A : Option Addr} {vs : List Value} (h : RowAt B w A vs) (hB : B ≤ B') : RowAt B' w A vs := by
  rcases h with h | ⟨b, o, hA, hlt, hc⟩
  · exact .inl h
  · exact .inr ⟨b, o, hA, by omega, hc⟩

structure En where
  key : Int
  c : Int
  s : Int
  lo : Int
  hi : Int
  t : Int
  l : Int
deriving DecidableEq, Inhabited

def En.vals (x : En) : List Value := [.int .i64 x.key, .int .i64 x.c, .int .i64 x.s, .int .i64 x.lo, .int .i64 x.hi, .int .i64 x.t, .int .i64 x.l]
def flatE : List En → List Value
  | [] => []
  | x :: r => x.vals ++ flatE r

theorem flatE_length : ∀ xs : List En, (flatE xs).length = xs.length * 7
  | [] => rfl
  | x :: r => by simp [flatE, En.vals, flatE_length r]; omega

theorem flatE_append : ∀ xs ys : List En, flatE (xs ++ ys) = flatE xs ++ flatE ys
  | [], _ => rfl
  | x :: r, ys => by simp [flatE, flatE_append r ys]

theorem flatE_get (xs : List En) (k j : Nat) (hk : k < xs.length) (hj : j < 7) : (flatE xs)[k * 7 + j]? = (xs[k]).vals[j]? := by
  induction xs generalizing k with
  | nil => simp at hk
  | cons x r ih =>
    cases k with
    | zero => simp only [flatE]; rw [List.getElem?_append_left (by simp [En.vals]; omega)]; simp
    | succ k =>
      simp only [flatE]
      rw [List.getElem?_append_right (by simp [En.vals]; omega)]
      have := ih k (by simpa using hk)
      simp only [En.vals, List.length_cons, List.length_nil] at *
      rw [show (k + 1) * 7 + j - (0 + 1 + 1 + 1 + 1 + 1 + 1 + 1) = k * 7 + j by omega]
      simpa using this

def ints (zs : List Int) : List Value := zs.map (.int .i64)

theorem RowAt.int {B : Nat} {w : World} {A : Option Addr} {zs : List Int} (h : RowAt B w A (ints zs)) {k : Nat} (hk : k < zs.length) :
    ∃ b o, A = some ⟨b, o, none⟩ ∧ b < B ∧ w.cell? ⟨b, o + k, none⟩ = some (.int .i64 zs[k]) := by
  rcases h with h | ⟨b, o, hA, hlt, hc⟩
  · simp [ints] at h; subst h; simp at hk
  · exact ⟨b, o, hA, hlt, hc k _ (by simp [ints, hk])⟩

structure EnAt (w : World) (b o : Nat) (x : En) : Prop where
  c0 : w.cell? ⟨b, o, none⟩ = some (.int .i64 x.key)
  c1 : w.cell? ⟨b, o + 1, none⟩ = some (.int .i64 x.c)
  c2 : w.cell? ⟨b, o + 2, none⟩ = some (.int .i64 x.s)
  c3 : w.cell? ⟨b, o + 3, none⟩ = some (.int .i64 x.lo)
  c4 : w.cell? ⟨b, o + 4, none⟩ = some (.int .i64 x.hi)
  c5 : w.cell? ⟨b, o + 5, none⟩ = some (.int .i64 x.t)
  c6 : w.cell? ⟨b, o + 6, none⟩ = some (.int .i64 x.l)

theorem RowAt.en {B : Nat} {w : World} {A : Option Addr} {xs : List En} (h : RowAt B w A (flatE xs)) {k : Nat} (hk : k < xs.length) :
    ∃ b o, A = some ⟨b, o, none⟩ ∧ b < B ∧ EnAt w b (o + k * 7) xs[k] := by
  rcases h with h | ⟨b, o, hA, hlt, hc⟩
  · have := flatE_length xs; rw [h] at this; simp at this; omega
  · refine ⟨b, o, hA, hlt, ?_⟩
    have g : ∀ j, j < 7 → ∀ u, (xs[k]).vals[j]? = some u → w.cell? ⟨b, o + k * 7 + j, none⟩ = some u := fun j hj u hu => by
      have := hc (k * 7 + j) u (by rw [flatE_get xs k j hk hj]; exact hu)
      rwa [← Nat.add_assoc] at this
    exact ⟨g 0 (by decide) _ rfl, g 1 (by decide) _ rfl, g 2 (by decide) _ rfl, g 3 (by decide) _ rfl, g 4 (by decide) _ rfl, g 5 (by decide) _ rfl, g 6 (by decide) _ rfl⟩

end Go.Proofs.YtlojfgdpmaigmafDoor

/- How the arguments of the statements are opened: rollups by value. -/
namespace Go.Proofs.YtlojfgdpmaigmafDoor
open Go.ChangeShapes Go.WideShapes Go.ChangeAt Go.RowKit

theorem own : ownKnob Tryd.prog.godebug = none := by kernel_rfl
theorem laidOut : laidOutB Tryd.prog = true := by kernel_rfl
theorem cellsRu : Tryd.prog.cellsOf 46 = 6 := by kernel_rfl
theorem cellsInt : Tryd.prog.cellsOf 3 = 1 := by kernel_rfl

theorem bd {n : Int} (h : (Lit.int .i64 n).wf = true) : -9223372036854775808 ≤ n ∧ n ≤ 9223372036854775807 := by
  have := bounds_i64 h
  omega

end Go.Proofs.YtlojfgdpmaigmafDoor

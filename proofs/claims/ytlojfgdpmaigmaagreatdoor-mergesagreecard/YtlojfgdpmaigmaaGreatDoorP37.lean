/- Raw things in a row: four numbers each. -/
import Derived.Test.YtlojfgdpmaigmaaGreatDoorP09
import Derived.Test.YtlojfgdpmaigmaaGreatDoorP36
namespace Go.Proofs.YtlojfgdpmaigmaaGreatDoor
open Go.ChangeShapes Go.WideShapes Go.ChangeAt Go.RowKit Go.Deep Plain

structure Rw where
  k : Int
  a : Int
  b : Int
  c : Int
deriving Inhabited

def Rw.vals (x : Rw) : List Value := [.int .i64 x.k, .int .i64 x.a, .int .i64 x.b, .int .i64 x.c]
def Rw.wf (x : Rw) : Prop := i64B x.k ∧ i64B x.a ∧ i64B x.b ∧ i64B x.c
def flatR : List Rw → List Value
  | [] => []
  | x :: r => x.vals ++ flatR r

theorem flatR_length : ∀ xs : List Rw, (flatR xs).length = xs.length * 4
  | [] => rfl
  | x :: r => by simp [flatR, Rw.vals, flatR_length r]; omega

theorem flatR_get (xs : List Rw) (k j : Nat) (hk : k < xs.length) (hj : j < 4) : (flatR xs)[k * 4 + j]? = (xs[k]).vals[j]? := by
  induction xs generalizing k with
  | nil => simp at hk
  | cons x r ih =>
    cases k with
    | zero => simp only [flatR]; rw [List.getElem?_append_left (by simp [Rw.vals]; omega)]; simp
    | succ k =>
      simp only [flatR]
      rw [List.getElem?_append_right (by simp [Rw.vals]; omega)]
      have := ih k (by simpa using hk)
      simp only [Rw.vals, List.length_cons, List.length_nil] at *
      rw [show (k + 1) * 4 + j - (0 + 1 + 1 + 1 + 1) = k * 4 + j by omega]
      simpa using this

structure RwAt (w : World) (b o : Nat) (x : Rw) : Prop where
  c0 : w.cell? ⟨b, o, none⟩ = some (.int .i64 x.k)
  c1 : w.cell? ⟨b, o + 1, none⟩ = some (.int .i64 x.a)
  c2 : w.cell? ⟨b, o + 2, none⟩ = some (.int .i64 x.b)
  c3 : w.cell? ⟨b, o + 3, none⟩ = some (.int .i64 x.c)

theorem RowAt.rw4 {B : Nat} {w : World} {A : Option Addr} {xs : List Rw} (h : RowAt B w A (flatR xs)) {k : Nat} (hk : k < xs.length) :
    ∃ b o, A = some ⟨b, o, none⟩ ∧ b < B ∧ RwAt w b (o + k * 4) xs[k] := by
  rcases h with h | ⟨b, o, hA, hlt, hc⟩
  · have := flatR_length xs; rw [h] at this; simp at this; omega
  · refine ⟨b, o, hA, hlt, ?_⟩
    have g : ∀ j, j < 4 → ∀ u, (xs[k]).vals[j]? = some u → w.cell? ⟨b, o + k * 4 + j, none⟩ = some u := fun j hj u hu => by
      have := hc (k * 4 + j) u (by rw [flatR_get xs k j hk hj]; exact hu)
      rwa [← Nat.add_assoc] at this
    exact ⟨g 0 (by decide) _ rfl, g 1 (by decide) _ rfl, g 2 (by decide) _ rfl, g 3 (by decide) _ rfl⟩

theorem i64_wf {z : Int} (h : (Lit.int .i64 z).wf = true) : i64B z := by
  simp [Lit.wf, IntKind.min, IntKind.max, IntKind.signed, IntKind.bits] at h
  unfold i64B
  omega

theorem cellsRw : Tryz.prog.cellsOf 23 = 4 := by kernel_rfl
theorem bytesRw : Tryz.prog.bytesOf 23 = 32 := by kernel_rfl

section
variable {H : Type} {enc : TypeId × Value → H} {W : World} {held : Bool} {fuel : Nat} {spare : Nat → Bool}

set_option maxRecDepth 100000 in
theorem open_rw {cs : List Value} {x : DataW H × List MemPlace} (h : DataW.trod enc Tryz.prog W 0 spare held fuel 23 cs = some x) : ∃ y : Rw, cs = y.vals ∧ y.wf := by
  obtain ⟨xs, n, _, _, hl, hxl, hg⟩ := DataW.trod_struct Tryz.underlying23 h
  rw [cellsRw] at hl
  match cs, hl with
  | [v0, v1, v2, v3], _ =>
    match xs, hxl with
    | [y0, y1, y2, y3], _ =>
      obtain ⟨k, e0, _, w0⟩ := DataW.trod_int Tryz.underlying3 (hg 0 _ rfl)
      obtain ⟨a, e1, _, w1⟩ := DataW.trod_int Tryz.underlying3 (hg 1 _ rfl)
      obtain ⟨b, e2, _, w2⟩ := DataW.trod_int Tryz.underlying3 (hg 2 _ rfl)
      obtain ⟨c, e3, _, w3⟩ := DataW.trod_int Tryz.underlying3 (hg 3 _ rfl)
      simp [cellsInt] at e0 e1 e2 e3
      subst e0 e1 e2 e3
      exact ⟨⟨k, a, b, c⟩, rfl, i64_wf w0, i64_wf w1, i64_wf w2, i64_wf w3⟩

end

end Go.Proofs.YtlojfgdpmaigmaaGreatDoor

/- How a raw thing that came in is opened. -/
namespace Go.Proofs.YtlojfgdpmaigmaaGreatDoor
open Go.ChangeShapes Go.WideShapes Go.ChangeAt Go.RowKit Go.Deep

set_option maxRecDepth 100000 in
theorem open_raw {H : Type} {enc : TypeId × Value → H} {W : World} {held : Bool} {base b0 : Nat} {r : Go.Reach} {v : Value} {d : DataW H} {p : List MemPlace} (hb : base = 0) (hv : Value.okWide Tryz.prog W r b0 23 v) (h : DataW.Trod enc Tryz.prog W base (fun _ => true) held 23 v d p) :
    ∃ (k a b c : Int), v = .agg #[.int .i64 k, .int .i64 a, .int .i64 b, .int .i64 c] ∧ i64B k ∧ i64B a ∧ i64B b ∧ i64B c := by
  subst hb
  obtain ⟨⟨cs⟩, rfl, hsz⟩ := okWide_struct Tryz.underlying23 hv
  rw [cellsRw] at hsz
  match cs, hsz with
  | [v0, v1, v2, v3], _ =>
    obtain ⟨fuel, hf⟩ := h
    obtain ⟨xs, n, _, hx, _, hlen, hg⟩ := DataW.trod_struct Tryz.underlying23 hf
    match xs, hlen with
    | [y0, y1, y2, y3], _ =>
      have g0 := hg 0 _ rfl
      have g1 := hg 1 _ rfl
      have g2 := hg 2 _ rfl
      have g3 := hg 3 _ rfl
      simp [Value.cells, cellsInt] at g0 g1 g2 g3
      obtain ⟨k, e0, _, w0⟩ := DataW.trod_int Tryz.underlying3 g0
      simp at e0
      subst e0
      obtain ⟨a, e1, _, w1⟩ := DataW.trod_int Tryz.underlying3 g1
      simp at e1
      subst e1
      obtain ⟨b, e2, _, w2⟩ := DataW.trod_int Tryz.underlying3 g2
      simp at e2
      subst e2
      obtain ⟨c, e3, _, w3⟩ := DataW.trod_int Tryz.underlying3 g3
      simp at e3
      subst e3
      exact ⟨k, a, b, c, rfl, i64_wf w0, i64_wf w1, i64_wf w2, i64_wf w3⟩

end Go.Proofs.YtlojfgdpmaigmaaGreatDoor

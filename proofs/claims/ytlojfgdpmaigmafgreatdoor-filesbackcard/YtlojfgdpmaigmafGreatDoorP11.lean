/- Rows of cells, and what lies in them: numbers, entries. -/
import Derived.Test.YtlojfgdpmaigmafGreatDoorRows
import Derived.Test.YtlojfgdpmaigmafGreatDoorP02
import Derived.WalkKit
import Derived.WalkSpells
import Derived.WalkLawsBesides
import Derived.Handy
import Derived.Deep.Light
import Derived.Deep.OwnRows
import Derived.ProofKit
import Derived.OpenShut
import Derived.Below
import Derived.ChangeOld
import Derived.Test.YtlojfgdpmaigmafGreatDoorP01
namespace Go.Proofs.YtlojfgdpmaigmafGreatDoor
open Go.RowKit

/-- A slice's cells, from its address on, in blocks below B. -/
def RowAt (B : Nat) (w : World) (A : Option Addr) (vs : List Value) : Prop :=
  vs = [] ∨ ∃ b o, A = some ⟨b, o, none⟩ ∧ b < B ∧ ∀ j u, vs[j]? = some u → w.cell? ⟨b, o + j, none⟩ = some u

theorem RowAt.below {B B' : Nat} {w w' : World} {A : Option Addr} {vs : List Value} (h : RowAt B w A vs) (hb : Below B' w w') (hB : B ≤ B') : RowAt B w' A vs := by
  rcases h with h | ⟨b, o, hA, hlt, hc⟩
  · exact .inl h
  · exact .inr ⟨b, o, hA, hlt, fun j u hu => (hb.cell (p := ⟨b, o + j, none⟩) (Nat.lt_of_lt_of_le hlt hB)).trans (hc j u hu)⟩

theorem RowAt.mono {B B' : Nat} {w : World} {A : Option Addr} {vs : List Value} (h : RowAt B w A vs) (hB : B ≤ B') : RowAt B' w A vs := by
  rcases h with h | ⟨b, o, hA, hlt, hc⟩
  · exact .inl h
  · exact .inr ⟨b, o, hA, by omega, hc⟩

structure En where
  key : Int
  c : Int
  s : Int
  lo : Int
  hi : Int
  t : Int
  l : Int
deriving DecidableEq, Inhabited

def En.vals (x : En) : List Value := [.int .i64 x.key, .int .i64 x.c, .int .i64 x.s, .int .i64 x.lo, .int .i64 x.hi, .int .i64 x.t, .int .i64 x.l]
def flatE : List En → List Value
  | [] => []
  | x :: r => x.vals ++ flatE r

theorem flatE_length : ∀ xs : List En, (flatE xs).length = xs.length * 7
  | [] => rfl
  | x :: r => by simp [flatE, En.vals, flatE_length r]; omega

theorem flatE_append : ∀ xs ys : List En, flatE (xs ++ ys) = flatE xs ++ flatE ys
  | [], _ => rfl
  | x :: r, ys => by simp [flatE, flatE_append r ys]

theorem flatE_get (xs : List En) (k j : Nat) (hk : k < xs.length) (hj : j < 7) : (flatE xs)[k * 7 + j]? = (xs[k]).vals[j]? := by
  induction xs generalizing k with
  | nil => simp at hk
  | cons x r ih =>
    cases k with
    | zero => simp only [flatE]; rw [List.getElem?_append_left (by simp [En.vals]; omega)]; simp
    | succ k =>
      simp only [flatE]
      rw [List.getElem?_append_right (by simp [En.vals]; omega)]
      have := ih k (by simpa using hk)
      simp only [En.vals, List.length_cons, List.length_nil] at *
      rw [show (k + 1) * 7 + j - (0 + 1 + 1 + 1 + 1 + 1 + 1 + 1) = k * 7 + j by omega]
      simpa using this

def ints (zs : List Int) : List Value := zs.map (.int .i64)

theorem RowAt.int {B : Nat} {w : World} {A : Option Addr} {zs : List Int} (h : RowAt B w A (ints zs)) {k : Nat} (hk : k < zs.length) :
    ∃ b o, A = some ⟨b, o, none⟩ ∧ b < B ∧ w.cell? ⟨b, o + k, none⟩ = some (.int .i64 zs[k]) := by
  rcases h with h | ⟨b, o, hA, hlt, hc⟩
  · simp [ints] at h; subst h; simp at hk
  · exact ⟨b, o, hA, hlt, hc k _ (by simp [ints, hk])⟩

structure EnAt (w : World) (b o : Nat) (x : En) : Prop where
  c0 : w.cell? ⟨b, o, none⟩ = some (.int .i64 x.key)
  c1 : w.cell? ⟨b, o + 1, none⟩ = some (.int .i64 x.c)
  c2 : w.cell? ⟨b, o + 2, none⟩ = some (.int .i64 x.s)
  c3 : w.cell? ⟨b, o + 3, none⟩ = some (.int .i64 x.lo)
  c4 : w.cell? ⟨b, o + 4, none⟩ = some (.int .i64 x.hi)
  c5 : w.cell? ⟨b, o + 5, none⟩ = some (.int .i64 x.t)
  c6 : w.cell? ⟨b, o + 6, none⟩ = some (.int .i64 x.l)

theorem RowAt.en {B : Nat} {w : World} {A : Option Addr} {xs : List En} (h : RowAt B w A (flatE xs)) {k : Nat} (hk : k < xs.length) :
    ∃ b o, A = some ⟨b, o, none⟩ ∧ b < B ∧ EnAt w b (o + k * 7) xs[k] := by
  rcases h with h | ⟨b, o, hA, hlt, hc⟩
  · have := flatE_length xs; rw [h] at this; simp at this; omega
  · refine ⟨b, o, hA, hlt, ?_⟩
    have g : ∀ j, j < 7 → ∀ u, (xs[k]).vals[j]? = some u → w.cell? ⟨b, o + k * 7 + j, none⟩ = some u := fun j hj u hu => by
      have := hc (k * 7 + j) u (by rw [flatE_get xs k j hk hj]; exact hu)
      rwa [← Nat.add_assoc] at this
    exact ⟨g 0 (by decide) _ rfl, g 1 (by decide) _ rfl, g 2 (by decide) _ rfl, g 3 (by decide) _ rfl, g 4 (by decide) _ rfl, g 5 (by decide) _ rfl, g 6 (by decide) _ rfl⟩

end Go.Proofs.YtlojfgdpmaigmafGreatDoor

/- How the arguments of the statements are opened: rollups by value. -/
namespace Go.Proofs.YtlojfgdpmaigmafGreatDoor
open Go.ChangeShapes Go.WideShapes Go.ChangeAt Go.RowKit

theorem own : ownKnob Tryz.prog.godebug = none := by kernel_rfl
theorem laidOut : laidOutB Tryz.prog = true := by kernel_rfl
theorem cellsRu : Tryz.prog.cellsOf 49 = 6 := by kernel_rfl
theorem cellsInt : Tryz.prog.cellsOf 3 = 1 := by kernel_rfl

theorem bd {n : Int} (h : (Lit.int .i64 n).wf = true) : -9223372036854775808 ≤ n ∧ n ≤ 9223372036854775807 := by
  have := bounds_i64 h
  omega

end Go.Proofs.YtlojfgdpmaigmafGreatDoor

/- A base as bytes, in plain terms: what is told, and what is read. -/
namespace Go.Proofs.YtlojfgdpmaigmafGreatDoor
open Plain

def refuse (c : Int) (s : Rs) : Rs := ⟨[], if s.code = 0 then c else s.code⟩
def tk (n : Nat) (s : Rs) : List Int × Rs := if s.rest.length < n then ([], refuse 5 s) else (s.rest.take n, ⟨s.rest.drop n, s.code⟩)
def cnt (most : Int) (s : Rs) : Int × Rs := if (num s).1 > most then (0, refuse 1 (num s).2) else num s

/-- The bytes of a name, and the name of bytes. -/
def ofStr (s : ByteArray) : List Int := s.data.toList.map fun b => (b.toNat : Int)
def toStr (l : List Int) : ByteArray := ⟨(l.map fun b => UInt8.ofNat b.toNat).toArray⟩

theorem str_back (s : ByteArray) : toStr (ofStr s) = s := by
  unfold toStr ofStr
  apply ByteArray.ext
  apply Array.toList_inj.1
  rw [List.map_map]
  have : ((fun b : Int => UInt8.ofNat b.toNat) ∘ fun b : UInt8 => (b.toNat : Int)) = id := by
    funext b
    simp
  rw [this]
  simp

theorem of_toStr {l : List Int} (h : U8 l) : ofStr (toStr l) = l := by
  unfold toStr ofStr
  simp only [List.map_map]
  conv => rhs; rw [← List.map_id l]
  refine List.map_congr_left fun b hb => ?_
  obtain ⟨h0, h1⟩ := h b hb
  have : b.toNat % 256 = b.toNat := Nat.mod_eq_of_lt (by omega)
  simp [this]
  omega

theorem ofStr_len (s : ByteArray) : (ofStr s).length = s.size := by
  unfold ofStr
  rw [List.length_map, Array.length_toList]
  rfl
theorem toStr_size (l : List Int) : (toStr l).size = l.length := by
  unfold toStr
  show Array.size _ = _
  rw [List.size_toArray, List.length_map]
theorem ofStr_u8 (s : ByteArray) : U8 (ofStr s) := fun b hb => by
  obtain ⟨x, _, rfl⟩ := List.mem_map.1 hb
  have := x.toNat_lt
  omega

def namesF : Nat → Rs → List ByteArray × Rs
  | 0, s => ([], s)
  | k + 1, s => (toStr (tk (cnt 10 s).1.toNat (cnt 10 s).2).1 :: (namesF k (tk (cnt 10 s).1.toNat (cnt 10 s).2).2).1, (namesF k (tk (cnt 10 s).1.toNat (cnt 10 s).2).2).2)

/-- The six numbers of a time. -/
def six (s : Rs) : Rs := (num (num (num (num (num (num s).2).2).2).2).2).2
def pointF (ahead : Int) (s : Rs) : En :=
  ⟨ahead + (num s).1, (num (num s).2).1, unfold2 (num (num (num s).2).2).1, unfold2 (num (num (num (num s).2).2).2).1, unfold2 (num (num (num (num (num s).2).2).2).2).1, (ahead + (num s).1) % 1048576, unfold2 (num (num (num (num (num (num s).2).2).2).2).2).1⟩

/-- May a time stand there? -/
def badP (first : Bool) (ahead : Int) (x : En) : Bool := decide (1099511627776 ≤ x.key) || ((!first && decide (x.key = ahead)) || decide (x.c = 0))
def afterP (first : Bool) (ahead : Int) (s : Rs) : Rs := if badP first ahead (pointF ahead s) = true then refuse 7 (six s) else six s

def pointsF : Nat → Bool → Int → Rs → List En × Rs
  | 0, _, _, s => ([], s)
  | k + 1, first, ahead, s =>
    if (afterP first ahead s).code = 0 then
      (if (pointsF k false (pointF ahead s).key (afterP first ahead s)).2.code = 0 then pointF ahead s :: (pointsF k false (pointF ahead s).key (afterP first ahead s)).1 else [], (pointsF k false (pointF ahead s).key (afterP first ahead s)).2)
    else ([], afterP first ahead s)

/-- All that stands between the mark and the seal. -/
def rdNames (bs : List Int) : List ByteArray × Rs := namesF (cnt 16 ⟨bs, 0⟩).1.toNat (cnt 16 ⟨bs, 0⟩).2
def rdFloor (bs : List Int) : Int × Rs := num (rdNames bs).2
def rdPoints (bs : List Int) : List En × Rs := pointsF (cnt 10000 (rdFloor bs).2).1.toNat true 0 (cnt 10000 (rdFloor bs).2).2
def rdEnd (bs : List Int) : Rs := if 0 < (rdPoints bs).2.rest.length then refuse 4 (rdPoints bs).2 else (rdPoints bs).2

/-! ### Once something is wrong -/

/-- What is wrong is kept, and then nothing is left. -/
def Still (s : Rs) : Prop := s.code ≠ 0 → s.rest = []

theorem still_refuse (c : Int) (s : Rs) : Still (refuse c s) := fun _ => rfl
theorem refuse_bad {c : Int} (hc : c ≠ 0) (s : Rs) : (refuse c s).code ≠ 0 := by
  unfold refuse
  show (if s.code = 0 then c else s.code) ≠ 0
  split
  · exact hc
  · assumption

theorem numF_still : ∀ (f : Nat) (first : Bool) (a u : Int) (bs : List Int), Still (numF f first a u bs).2
  | 0, _, _, _, [] => fun _ => rfl
  | _ + 1, _, _, _, [] => fun _ => rfl
  | 0, _, _, _, _ :: _ => fun _ => rfl
  | f + 1, first, a, u, c :: r => by
    unfold numF
    split
    · exact fun _ => rfl
    · split
      · exact fun h => absurd rfl h
      · exact numF_still f false _ _ r

theorem num_still {s : Rs} (h : Still s) : Still (num s).2 := by
  unfold num
  split
  · exact numF_still _ _ _ _ _
  · exact h

theorem num_bad {s : Rs} (h : s.code ≠ 0) : num s = (0, s) := if_neg h

theorem num_good {s : Rs} (h : (num s).2.code = 0) : s.code = 0 := by
  unfold num at h
  split at h
  · assumption
  · exact h

theorem numF_nn : ∀ (f : Nat) (first : Bool) (a u : Int) (bs : List Int), U8 bs → 0 ≤ a → 0 ≤ u → 0 ≤ (numF f first a u bs).1
  | 0, _, _, _, [], _, _, _ => Int.le_refl _
  | _ + 1, _, _, _, [], _, _, _ => Int.le_refl _
  | 0, _, _, _, _ :: _, _, _, _ => Int.le_refl _
  | f + 1, first, a, u, c :: r, h, ha, hu => by
    have hc := h c List.mem_cons_self
    unfold numF
    split
    · exact Int.le_refl _
    · split
      · have := Int.mul_nonneg hc.1 hu
        show 0 ≤ a + c * u
        omega
      · have := Int.mul_nonneg (show 0 ≤ c - 128 by omega) hu
        exact numF_nn f false _ _ r (fun b hb => h b (List.mem_cons_of_mem _ hb)) (by omega) (by omega)

theorem numF_u8 : ∀ (f : Nat) (first : Bool) (a u : Int) (bs : List Int), U8 bs → U8 (numF f first a u bs).2.rest
  | 0, _, _, _, [], h => h
  | _ + 1, _, _, _, [], h => h
  | 0, _, _, _, _ :: _, _ => fun b hb => by simp [numF] at hb
  | f + 1, first, a, u, c :: r, h => by
    have h' : U8 r := fun b hb => h b (List.mem_cons_of_mem _ hb)
    unfold numF
    split
    · exact fun b hb => by simp at hb
    · split
      · exact h'
      · exact numF_u8 f false _ _ r h'

theorem num_nn {s : Rs} (h : U8 s.rest) : 0 ≤ (num s).1 := by
  unfold num
  split
  · exact numF_nn _ _ _ _ _ h (by decide) (by decide)
  · exact Int.le_refl _

theorem num_u8 {s : Rs} (h : U8 s.rest) : U8 (num s).2.rest := by
  unfold num
  split
  · exact numF_u8 _ _ _ _ _ h
  · exact h

theorem numF_lt : ∀ (f : Nat) (first : Bool) (a u : Int) (bs : List Int), U8 bs → 0 ≤ a → 0 ≤ u → (numF f first a u bs).1 ≤ a + (128 ^ f - 1) * u
  | 0, _, a, u, [], _, ha, _ => by simpa [numF] using ha
  | f + 1, _, a, u, [], _, ha, hu => by
    show (0 : Int) ≤ _
    have := Int.mul_nonneg (show (0 : Int) ≤ 128 ^ (f + 1) - 1 by have h1 : (0 : Int) < 128 ^ (f + 1) := Int.pow_pos (by decide); omega) hu
    omega
  | 0, _, a, u, _ :: _, _, ha, _ => by simpa [numF] using ha
  | f + 1, first, a, u, c :: r, h, ha, hu => by
    have hc := h c List.mem_cons_self
    have hp : (0 : Int) < 128 ^ f := Int.pow_pos (by decide)
    have hpp : (128 : Int) ^ (f + 1) = 128 ^ f * 128 := Int.pow_succ ..
    have hnn := Int.mul_nonneg (show (0 : Int) ≤ 128 ^ (f + 1) - 1 by omega) hu
    unfold numF
    split
    · show (0 : Int) ≤ _
      omega
    · split
      · rename_i h1 h2
        show a + c * u ≤ _
        have := Int.mul_le_mul_of_nonneg_right (show c ≤ 128 ^ (f + 1) - 1 by omega) hu
        omega
      · rename_i h1 h2
        have k := numF_lt f false (a + (c - 128) * u) (u * 128) r (fun b hb => h b (List.mem_cons_of_mem _ hb)) (by have := Int.mul_nonneg (show 0 ≤ c - 128 by omega) hu; omega) (by omega)
        refine Int.le_trans k ?_
        have e : (128 ^ f - 1) * (u * 128) = (128 ^ f * 128 - 128) * u := by
          rw [Int.mul_comm u 128, ← Int.mul_assoc]
          congr 1
          omega
        rw [e, hpp, Int.add_assoc, ← Int.add_mul]
        have := Int.mul_le_mul_of_nonneg_right (show (c - 128) + (128 ^ f * 128 - 128) ≤ 128 ^ f * 128 - 1 by omega) hu
        omega

theorem num_lt {s : Rs} (h : U8 s.rest) : (num s).1 < 72057594037927936 := by
  unfold num
  split
  · have := numF_lt 8 true 0 1 s.rest h (by decide) (by decide)
    have e : (0 : Int) + (128 ^ 8 - 1) * 1 = 72057594037927935 := by decide
    omega
  · show (0 : Int) < _
    decide

theorem refuse_still {c : Int} {s : Rs} (h : s.code ≠ 0) (hs : Still s) : refuse c s = s := by
  obtain ⟨r, k⟩ := s
  unfold refuse
  rw [if_neg h]
  have := hs h
  simp only at this
  rw [this]

theorem tk_u8 {n : Nat} {s : Rs} (h : U8 s.rest) : U8 (tk n s).2.rest ∧ U8 (tk n s).1 := by
  unfold tk
  split
  · exact ⟨fun b hb => by simp [refuse] at hb, fun b hb => by simp at hb⟩
  · exact ⟨fun b hb => h b (List.mem_of_mem_drop hb), fun b hb => h b (List.mem_of_mem_take hb)⟩

theorem tk_still {n : Nat} {s : Rs} (h : Still s) : Still (tk n s).2 := by
  unfold tk
  split
  · exact still_refuse _ _
  · intro hc
    have := h hc
    show s.rest.drop n = []
    rw [this]; simp

theorem tk_good {n : Nat} {s : Rs} (h : (tk n s).2.code = 0) : s.code = 0 ∧ n ≤ s.rest.length ∧ tk n s = (s.rest.take n, ⟨s.rest.drop n, 0⟩) := by
  unfold tk at h ⊢
  split at h
  · exact absurd h (refuse_bad (by decide) _)
  · rename_i hn
    have h' : s.code = 0 := h
    rw [if_neg hn, h']
    exact ⟨rfl, by omega, rfl⟩

theorem cnt_u8 {m : Int} {s : Rs} (h : U8 s.rest) : U8 (cnt m s).2.rest := by
  unfold cnt
  split
  · exact fun b hb => by simp [refuse] at hb
  · exact num_u8 h

theorem cnt_still {m : Int} {s : Rs} (h : Still s) : Still (cnt m s).2 := by
  unfold cnt
  split
  · exact still_refuse _ _
  · exact num_still h

theorem cnt_rng {m : Int} {s : Rs} (hm : 0 ≤ m) (h : U8 s.rest) : 0 ≤ (cnt m s).1 ∧ (cnt m s).1 ≤ m := by
  unfold cnt
  split
  · exact ⟨Int.le_refl _, hm⟩
  · rename_i h1
    exact ⟨num_nn h, by omega⟩

theorem cnt_good {m : Int} {s : Rs} (h : (cnt m s).2.code = 0) : s.code = 0 ∧ cnt m s = num s ∧ (num s).1 ≤ m := by
  unfold cnt at h ⊢
  split at h
  · exact absurd h (refuse_bad (by decide) _)
  · rename_i h1
    rw [if_neg h1]
    exact ⟨num_good h, rfl, by omega⟩

theorem namesF_u8 : ∀ (k : Nat) (s : Rs), U8 s.rest → U8 (namesF k s).2.rest
  | 0, _, h => h
  | k + 1, _, h => namesF_u8 k _ (tk_u8 (cnt_u8 h)).1

theorem six_u8 {s : Rs} (h : U8 s.rest) : U8 (six s).rest := num_u8 (num_u8 (num_u8 (num_u8 (num_u8 (num_u8 h)))))
theorem six_still {s : Rs} (h : Still s) : Still (six s) := num_still (num_still (num_still (num_still (num_still (num_still h)))))

theorem afterP_u8 {first : Bool} {ahead : Int} {s : Rs} (h : U8 s.rest) : U8 (afterP first ahead s).rest := by
  unfold afterP
  split
  · exact fun b hb => by simp [refuse] at hb
  · exact six_u8 h

theorem afterP_good {first : Bool} {ahead : Int} {s : Rs} (h : (afterP first ahead s).code = 0) : badP first ahead (pointF ahead s) = false ∧ (six s).code = 0 ∧ afterP first ahead s = six s := by
  unfold afterP at h ⊢
  split at h
  · exact absurd h (refuse_bad (by decide) _)
  · rename_i h1
    rw [if_neg h1]
    exact ⟨by simpa using h1, h, rfl⟩

theorem pointsF_bad : ∀ (k : Nat) (first : Bool) (ahead : Int) (s : Rs), (pointsF k first ahead s).2.code ≠ 0 → (pointsF k first ahead s).1 = []
  | 0, _, _, _, _ => rfl
  | k + 1, first, ahead, s, h => by
    unfold pointsF at h ⊢
    split at h
    · rename_i h1
      rw [if_pos h1, if_neg h]
    · rename_i h1
      rw [if_neg h1]

end Go.Proofs.YtlojfgdpmaigmafGreatDoor

/- A base as bytes: what is told is read again, and what is read was told so. -/
namespace Go.Proofs.YtlojfgdpmaigmafGreatDoor
open Plain

/-! ### What is told -/

def encName (s : ByteArray) : List Int := sev s.size ++ ofStr s
def encNames (ss : List ByteArray) : List Int := sev ss.length ++ ss.flatMap encName
def zig (n : Int) : List Int := sev (fold2 n).toNat
def encP (ahead : Int) (x : En) : List Int := sev (x.key - ahead).toNat ++ (sev x.c.toNat ++ (zig x.s ++ (zig x.lo ++ (zig x.hi ++ zig x.l))))
def encPs : Int → List En → List Int
  | _, [] => []
  | ahead, x :: r => encP ahead x ++ encPs x.key r
def encBody (ss : List ByteArray) (f : Int) (l : List En) : List Int := encNames ss ++ (sev f.toNat ++ (sev l.length ++ encPs 0 l))

def big (n : Int) : Prop := -36028797018963968 ≤ n ∧ n < 36028797018963968

theorem fold_lt {n : Int} (h : big n) : (fold2 n).toNat < 72057594037927936 := by
  unfold big at h
  have := fold_nn n
  unfold fold2 at *
  split <;> omega

theorem num_of {n : Int} (h0 : 0 ≤ n) (h1 : n < 72057594037927936) (r : List Int) : num ⟨sev n.toNat ++ r, 0⟩ = (n, ⟨r, 0⟩) := by
  rw [num_sev (by omega)]
  have : ((n.toNat : Nat) : Int) = n := by omega
  rw [this]

theorem num_zig {n : Int} (h : big n) (r : List Int) : num ⟨zig n ++ r, 0⟩ = (fold2 n, ⟨r, 0⟩) := by
  unfold zig
  have := fold_nn n
  have := fold_lt h
  exact num_of (by omega) (by omega) r

/-- A time that may be told. -/
structure TellP (ahead : Int) (x : En) : Prop where
  k0 : ahead ≤ x.key
  a0 : 0 ≤ ahead
  k1 : x.key < 1099511627776
  c0 : 0 < x.c
  c1 : x.c < 72057594037927936
  s : big x.s
  lo : big x.lo
  hi : big x.hi
  l : big x.l
  t : x.t = x.key % 1048576

theorem encP_read {ahead : Int} {x : En} (h : TellP ahead x) (r : List Int) : pointF ahead ⟨encP ahead x ++ r, 0⟩ = x ∧ six ⟨encP ahead x ++ r, 0⟩ = ⟨r, 0⟩ := by
  obtain ⟨h1, h2, h3, h4, h5, h6, h7, h8, h9, h10⟩ := h
  have n1 := num_of (n := x.key - ahead) (by omega) (by omega) (sev x.c.toNat ++ (zig x.s ++ (zig x.lo ++ (zig x.hi ++ (zig x.l ++ r)))))
  have n2 := num_of (n := x.c) (by omega) h5 (zig x.s ++ (zig x.lo ++ (zig x.hi ++ (zig x.l ++ r))))
  have n3 := num_zig h6 (zig x.lo ++ (zig x.hi ++ (zig x.l ++ r)))
  have n4 := num_zig h7 (zig x.hi ++ (zig x.l ++ r))
  have n5 := num_zig h8 (zig x.l ++ r)
  have n6 := num_zig h9 r
  have e : encP ahead x ++ r = sev (x.key - ahead).toNat ++ (sev x.c.toNat ++ (zig x.s ++ (zig x.lo ++ (zig x.hi ++ (zig x.l ++ r))))) := by
    unfold encP
    simp only [List.append_assoc]
  rw [e]
  unfold pointF six
  simp only [n1, n2, n3, n4, n5, n6, unfold_fold]
  refine ⟨?_, trivial⟩
  obtain ⟨key, c, s, lo, hi, t, l⟩ := x
  simp only at h10 ⊢
  have : ahead + (key - ahead) = key := by omega
  rw [this, h10]

/-- Times that may be told, one behind the other. -/
def TellPs : Bool → Int → List En → Prop
  | _, _, [] => True
  | first, ahead, x :: r => TellP ahead x ∧ (first = true ∨ ahead < x.key) ∧ TellPs false x.key r

theorem encPs_read : ∀ (l : List En) (first : Bool) (ahead : Int) (r : List Int), TellPs first ahead l → pointsF l.length first ahead ⟨encPs ahead l ++ r, 0⟩ = (l, ⟨r, 0⟩)
  | [], _, _, _, _ => rfl
  | x :: l, first, ahead, r, h => by
    obtain ⟨h1, h2, h3⟩ := h
    have e : encPs ahead (x :: l) ++ r = encP ahead x ++ (encPs x.key l ++ r) := by
      show (encP ahead x ++ encPs x.key l) ++ r = _
      rw [List.append_assoc]
    obtain ⟨p1, p2⟩ := encP_read h1 (encPs x.key l ++ r)
    have hb : badP first ahead x = false := by
      unfold badP
      have := h1.k1
      have := h1.c0
      simp only [Bool.or_eq_false_iff, Bool.and_eq_false_iff, decide_eq_false_iff_not, Bool.not_eq_false']
      refine ⟨by omega, ?_, by omega⟩
      rcases h2 with h2 | h2
      · exact .inl h2
      · right; omega
    have ha : afterP first ahead ⟨encP ahead x ++ (encPs x.key l ++ r), 0⟩ = ⟨encPs x.key l ++ r, 0⟩ := by
      unfold afterP
      rw [p1, hb, p2]
      rfl
    have ih := encPs_read l false x.key r h3
    rw [e, List.length_cons]
    unfold pointsF
    rw [ha, p1, ih]
    simp

theorem cnt_of {m : Int} {n : Nat} (h : (n : Int) ≤ m) (h1 : n < 72057594037927936) (r : List Int) : cnt m ⟨sev n ++ r, 0⟩ = ((n : Int), ⟨r, 0⟩) := by
  unfold cnt
  rw [num_sev h1, if_neg (by show ¬ (n : Int) > m; omega)]

theorem tk_of (a r : List Int) : tk a.length ⟨a ++ r, 0⟩ = (a, ⟨r, 0⟩) := by
  unfold tk
  rw [if_neg (by simp)]
  simp

theorem names_read : ∀ (ss : List ByteArray) (r : List Int), (∀ s ∈ ss, s.size ≤ 10) → namesF ss.length ⟨ss.flatMap encName ++ r, 0⟩ = (ss, ⟨r, 0⟩)
  | [], _, _ => rfl
  | s :: ss, r, h => by
    have hs := h s List.mem_cons_self
    have e : (s :: ss).flatMap encName ++ r = sev s.size ++ (ofStr s ++ (ss.flatMap encName ++ r)) := by
      rw [List.flatMap_cons]
      unfold encName
      simp only [List.append_assoc]
    have n1 := cnt_of (m := 10) (n := s.size) (by omega) (by omega) (ofStr s ++ (ss.flatMap encName ++ r))
    have n2 := tk_of (ofStr s) (ss.flatMap encName ++ r)
    rw [ofStr_len] at n2
    have ih := names_read ss r (fun x hx => h x (List.mem_cons_of_mem _ hx))
    rw [e, List.length_cons]
    unfold namesF
    simp only [n1, Int.toNat_natCast, n2, str_back, ih]

/-- What may be told of a base. -/
structure TellB (ss : List ByteArray) (f : Int) (l : List En) : Prop where
  n : ss.length ≤ 16
  s : ∀ s ∈ ss, s.size ≤ 10
  f0 : 0 ≤ f
  f1 : f < 72057594037927936
  m : l.length ≤ 10000
  p : TellPs true 0 l

/-- What is told is read, and what is behind it is left. -/
theorem body_read {ss : List ByteArray} {f : Int} {l : List En} (h : TellB ss f l) (r : List Int) : (rdNames (encBody ss f l ++ r)).1 = ss ∧ (rdFloor (encBody ss f l ++ r)).1 = f ∧ rdPoints (encBody ss f l ++ r) = (l, ⟨r, 0⟩) := by
  have hn := h.n
  have hm := h.m
  have e : encBody ss f l ++ r = sev ss.length ++ (ss.flatMap encName ++ (sev f.toNat ++ (sev l.length ++ (encPs 0 l ++ r)))) := by
    unfold encBody encNames
    simp only [List.append_assoc]
  have n1 := cnt_of (m := 16) (n := ss.length) (by omega) (by omega) (ss.flatMap encName ++ (sev f.toNat ++ (sev l.length ++ (encPs 0 l ++ r))))
  have n2 := names_read ss (sev f.toNat ++ (sev l.length ++ (encPs 0 l ++ r))) h.s
  have n3 := num_of h.f0 h.f1 (sev l.length ++ (encPs 0 l ++ r))
  have n4 := cnt_of (m := 10000) (n := l.length) (by omega) (by omega) (encPs 0 l ++ r)
  have n5 := encPs_read l true 0 r h.p
  rw [e]
  have a1 : rdNames (sev ss.length ++ (ss.flatMap encName ++ (sev f.toNat ++ (sev l.length ++ (encPs 0 l ++ r))))) = (ss, ⟨sev f.toNat ++ (sev l.length ++ (encPs 0 l ++ r)), 0⟩) := by
    unfold rdNames
    simp only [n1, Int.toNat_natCast, n2]
  have a2 : rdFloor (sev ss.length ++ (ss.flatMap encName ++ (sev f.toNat ++ (sev l.length ++ (encPs 0 l ++ r))))) = (f, ⟨sev l.length ++ (encPs 0 l ++ r), 0⟩) := by
    unfold rdFloor
    rw [a1]
    exact n3
  refine ⟨by rw [a1], by rw [a2], ?_⟩
  unfold rdPoints
  simp only [a2, n4, Int.toNat_natCast, n5]

/-! ### What is read was told so -/

theorem num_b {s : Rs} (hu : U8 s.rest) (h : (num s).2.code = 0) : s.code = 0 ∧ s.rest = sev (num s).1.toNat ++ (num s).2.rest ∧ 0 ≤ (num s).1 ∧ (num s).1 < 72057594037927936 := by
  have hp : num s = ((num s).1, ⟨(num s).2.rest, 0⟩) := by
    rw [← h]
  obtain ⟨h0, n, h1, h2, h3⟩ := num_back hu hp
  refine ⟨h0, ?_, by omega, by omega⟩
  have : (num s).1.toNat = n := by omega
  rw [this]
  exact h3

theorem num_bz {s : Rs} (hu : U8 s.rest) (h : (num s).2.code = 0) : s.code = 0 ∧ s.rest = zig (unfold2 (num s).1) ++ (num s).2.rest ∧ big (unfold2 (num s).1) := by
  obtain ⟨h0, h1, h2, h3⟩ := num_b hu h
  refine ⟨h0, ?_, ?_⟩
  · unfold zig
    rw [fold_unfold h2]
    exact h1
  · unfold big unfold2
    split <;> omega

theorem point_b {first : Bool} {ahead : Int} {s : Rs} (hu : U8 s.rest) (ha : 0 ≤ ahead) (h : (afterP first ahead s).code = 0) :
    s.code = 0 ∧ s.rest = encP ahead (pointF ahead s) ++ (afterP first ahead s).rest ∧ TellP ahead (pointF ahead s) ∧ (first = true ∨ ahead < (pointF ahead s).key) := by
  obtain ⟨hb, h6, he⟩ := afterP_good h
  rw [he]
  have u1 := num_u8 hu
  have u2 := num_u8 u1
  have u3 := num_u8 u2
  have u4 := num_u8 u3
  have u5 := num_u8 u4
  obtain ⟨z6, e6, b6⟩ := num_bz u5 h6
  obtain ⟨z5, e5, b5⟩ := num_bz u4 z6
  obtain ⟨z4, e4, b4⟩ := num_bz u3 z5
  obtain ⟨z3, e3, b3⟩ := num_bz u2 z4
  obtain ⟨z2, e2, c2, d2⟩ := num_b u1 z3
  obtain ⟨z1, e1, c1, d1⟩ := num_b hu z2
  unfold badP at hb
  simp only [Bool.or_eq_false_iff, Bool.and_eq_false_iff, decide_eq_false_iff_not, Bool.not_eq_false'] at hb
  obtain ⟨hb1, hb2, hb3⟩ := hb
  have hk : (pointF ahead s).key = ahead + (num s).1 := rfl
  have hc : (pointF ahead s).c = (num (num s).2).1 := rfl
  refine ⟨z1, ?_, ⟨by omega, ha, by omega, by omega, by omega, b3, b4, b5, b6, rfl⟩, ?_⟩
  · unfold encP six
    have ek : (pointF ahead s).key - ahead = (num s).1 := by omega
    rw [ek, hc]
    show _ = (sev (num s).1.toNat ++ (sev (num (num s).2).1.toNat ++ (zig (unfold2 (num (num (num s).2).2).1) ++ (zig (unfold2 (num (num (num (num s).2).2).2).1) ++ (zig (unfold2 (num (num (num (num (num s).2).2).2).2).1) ++ zig (unfold2 (num (num (num (num (num (num s).2).2).2).2).2).1)))))) ++ _
    simp only [List.append_assoc]
    rw [← e6, ← e5, ← e4, ← e3, ← e2, ← e1]
  · rcases hb2 with hb2 | hb2
    · exact .inl hb2
    · right; omega

theorem points_b : ∀ (k : Nat) (first : Bool) (ahead : Int) (s : Rs), U8 s.rest → 0 ≤ ahead → (pointsF k first ahead s).2.code = 0 → s.code = 0 ∧ s.rest = encPs ahead (pointsF k first ahead s).1 ++ (pointsF k first ahead s).2.rest ∧ TellPs first ahead (pointsF k first ahead s).1 ∧ (pointsF k first ahead s).1.length = k
  | 0, _, _, _, _, _, h => ⟨h, rfl, trivial, rfl⟩
  | k + 1, first, ahead, s, hu, ha, h => by
    unfold pointsF at h ⊢
    by_cases h0 : (afterP first ahead s).code = 0
    · rw [if_pos h0] at h ⊢
      have h' : (pointsF k false (pointF ahead s).key (afterP first ahead s)).2.code = 0 := h
      rw [if_pos h']
      obtain ⟨a1, a2, a3, a4⟩ := point_b (first := first) hu ha h0
      obtain ⟨b1, b2, b3, b4⟩ := points_b k false (pointF ahead s).key (afterP first ahead s) (afterP_u8 hu) (by have := a3.k0; omega) h'
      refine ⟨a1, ?_, ⟨a3, a4, b3⟩, by simpa using b4⟩
      show s.rest = (encP ahead (pointF ahead s) ++ encPs (pointF ahead s).key _) ++ _
      rw [List.append_assoc, ← b2]
      exact a2
    · rw [if_neg h0] at h
      exact absurd h h0

theorem names_b : ∀ (k : Nat) (s : Rs), U8 s.rest → Still s → (namesF k s).2.code = 0 → s.code = 0 ∧ s.rest = (namesF k s).1.flatMap encName ++ (namesF k s).2.rest ∧ (namesF k s).1.length = k ∧ ∀ x ∈ (namesF k s).1, x.size ≤ 10
  | 0, _, _, _, h => ⟨h, rfl, rfl, fun x hx => by simp [namesF] at hx⟩
  | k + 1, s, hu, hs, h => by
    have u1 := cnt_u8 (m := 10) hu
    have u2 := tk_u8 (n := (cnt 10 s).1.toNat) u1
    have s2 := tk_still (n := (cnt 10 s).1.toNat) (cnt_still (m := 10) hs)
    obtain ⟨a1, a2, a3, a4⟩ := names_b k _ u2.1 s2 h
    obtain ⟨b1, b2, b3⟩ := tk_good a1
    obtain ⟨c1, c2, c3⟩ := cnt_good b1
    have z : (num s).2.code = 0 := by rw [← c2]; exact b1
    obtain ⟨d1, d2, d3, d4⟩ := num_b hu z
    have hl : (toStr (tk (cnt 10 s).1.toNat (cnt 10 s).2).1).size = (num s).1.toNat := by
      rw [toStr_size, b3, List.length_take, c2]
      rw [c2] at b2
      omega
    refine ⟨c1, ?_, ?_, ?_⟩
    · show s.rest = (toStr (tk (cnt 10 s).1.toNat (cnt 10 s).2).1 :: _).flatMap encName ++ _
      rw [List.flatMap_cons, List.append_assoc, encName, hl, of_toStr u2.2]
      show s.rest = _ ++ ((namesF k (tk (cnt 10 s).1.toNat (cnt 10 s).2).2).1.flatMap encName ++ (namesF k (tk (cnt 10 s).1.toNat (cnt 10 s).2).2).2.rest)
      rw [← a2, List.append_assoc, b3, c2]
      show s.rest = sev (num s).1.toNat ++ (((num s).2.rest.take _) ++ ((num s).2.rest.drop _))
      rw [List.take_append_drop]
      exact d2
    · show (_ :: _).length = _
      rw [List.length_cons, a3]
    · intro x hx
      rcases List.mem_cons.1 hx with rfl | hx
      · rw [hl]; omega
      · exact a4 x hx

/-- What is read was told so. -/
theorem body_b {bs : List Int} (hu : U8 bs) (h : (rdEnd bs).code = 0) : bs = encBody (rdNames bs).1 (rdFloor bs).1 (rdPoints bs).1 ∧ TellB (rdNames bs).1 (rdFloor bs).1 (rdPoints bs).1 ∧ (rdPoints bs).2 = ⟨[], 0⟩ := by
  have hz : (rdPoints bs).2.code = 0 ∧ (rdPoints bs).2.rest = [] := by
    unfold rdEnd at h
    split at h
    · exact absurd h (refuse_bad (by decide) _)
    · rename_i h1
      exact ⟨h, List.eq_nil_of_length_eq_zero (by omega)⟩
  have u0 : U8 (Rs.mk bs 0).rest := hu
  have s0 : Still (Rs.mk bs 0) := fun h => absurd rfl h
  have u1 := cnt_u8 (m := 16) u0
  have s1 := cnt_still (m := 16) s0
  have u2 : U8 (rdNames bs).2.rest := namesF_u8 _ _ u1
  have u3 : U8 (rdFloor bs).2.rest := num_u8 u2
  have u4 := cnt_u8 (m := 10000) u3
  obtain ⟨a1, a2, a3, a4⟩ := points_b _ true 0 _ u4 (Int.le_refl _) hz.1
  obtain ⟨b1, b2, b3⟩ := cnt_good a1
  have z3 : (num (rdFloor bs).2).2.code = 0 := by rw [← b2]; exact a1
  obtain ⟨c1, c2, c3, c4⟩ := num_b u3 z3
  obtain ⟨d1, d2, d3, d4⟩ := num_b u2 b1
  obtain ⟨e1, e2, e3, e4⟩ := names_b _ _ u1 s1 d1
  obtain ⟨f1, f2, f3⟩ := cnt_good e1
  have z1 : (num (Rs.mk bs 0)).2.code = 0 := by rw [← f2]; exact e1
  obtain ⟨g1, g2, g3, g4⟩ := num_b u0 z1
  have l1 : (rdNames bs).1.length = (num (Rs.mk bs 0)).1.toNat := by rw [← f2]; exact e3
  have l2 : (rdPoints bs).1.length = (num (rdFloor bs).2).1.toNat := by rw [← b2]; exact a4
  refine ⟨?_, ⟨by omega, e4, d3, d4, by omega, a3⟩, ?_⟩
  · unfold encBody encNames
    rw [l1, l2, List.append_assoc]
    have a2' : (num (rdFloor bs).2).2.rest = encPs 0 (rdPoints bs).1 ++ (rdPoints bs).2.rest := (congrArg (fun x => x.2.rest) b2).symm.trans a2
    rw [hz.2, List.append_nil] at a2'
    rw [← a2', ← c2]
    have d2' : (rdNames bs).2.rest = sev (rdFloor bs).1.toNat ++ (rdFloor bs).2.rest := d2
    rw [← d2']
    have e2' : (num (Rs.mk bs 0)).2.rest = (rdNames bs).1.flatMap encName ++ (rdNames bs).2.rest := (congrArg (fun x => x.2.rest) f2).symm.trans e2
    rw [← e2']
    exact g2
  · rw [← hz.1, ← hz.2]

end Go.Proofs.YtlojfgdpmaigmafGreatDoor

/- The seal of bytes, and what is told of bytes as a whole: in plain terms. -/
namespace Go.Proofs.YtlojfgdpmaigmafGreatDoor
open Plain

def sealS (p : Int × Int) (b : Int) : Int × Int := ((p.1 + b) % 65521, (p.2 + (p.1 + b) % 65521) % 65521)
def sealF (bs : List Int) : Int × Int := bs.foldl sealS (1, 0)
def fourB (p : Int × Int) : List Int := [p.2 / 256, p.2 % 256, p.1 / 256, p.1 % 256]
def sealP (bs : List Int) : List Int := fourB (sealF bs)

def sumI : List Int → Int
  | [] => 0
  | b :: r => b + sumI r

theorem seal_fst : ∀ (bs : List Int) (p : Int × Int), (bs.foldl sealS p).1 % 65521 = (p.1 + sumI bs) % 65521
  | [], p => by simp [sumI]
  | b :: r, p => by
    rw [List.foldl_cons, seal_fst r]
    show ((p.1 + b) % 65521 + sumI r) % 65521 = (p.1 + (b + sumI r)) % 65521
    omega

theorem seal_rng : ∀ (bs : List Int) (p : Int × Int), 0 ≤ p.1 → p.1 < 65521 → 0 ≤ p.2 → p.2 < 65521 → 0 ≤ (bs.foldl sealS p).1 ∧ (bs.foldl sealS p).1 < 65521 ∧ 0 ≤ (bs.foldl sealS p).2 ∧ (bs.foldl sealS p).2 < 65521
  | [], _, h1, h2, h3, h4 => ⟨h1, h2, h3, h4⟩
  | b :: r, p, _, _, _, _ => by
    rw [List.foldl_cons]
    exact seal_rng r (sealS p b) (show 0 ≤ (p.1 + b) % 65521 by omega) (show (p.1 + b) % 65521 < 65521 by omega) (show 0 ≤ (p.2 + (p.1 + b) % 65521) % 65521 by omega) (show (p.2 + (p.1 + b) % 65521) % 65521 < 65521 by omega)

theorem sealF_rng (bs : List Int) : 0 ≤ (sealF bs).1 ∧ (sealF bs).1 < 65521 ∧ 0 ≤ (sealF bs).2 ∧ (sealF bs).2 < 65521 := seal_rng bs (1, 0) (by decide) (by decide) (by decide) (by decide)

theorem sealP_u8 (bs : List Int) : U8 (sealP bs) := by
  obtain ⟨h1, h2, h3, h4⟩ := sealF_rng bs
  intro b hb
  simp only [sealP, fourB, List.mem_cons, List.not_mem_nil, or_false] at hb
  rcases hb with rfl | rfl | rfl | rfl <;> omega

theorem sealP_len (bs : List Int) : (sealP bs).length = 4 := rfl

theorem seal_sum {a b : List Int} (h : sealP a = sealP b) : (sumI a - sumI b) % 65521 = 0 := by
  have h1 := sealF_rng a
  have h2 := sealF_rng b
  simp only [sealP, fourB, List.cons.injEq, and_true] at h
  have e : (sealF a).1 = (sealF b).1 := by omega
  have k1 := seal_fst a (1, 0)
  have k2 := seal_fst b (1, 0)
  have e' : (a.foldl sealS (1, 0)).1 = (b.foldl sealS (1, 0)).1 := e
  rw [e'] at k1
  simp only at k1 k2
  omega

theorem sumI_set : ∀ (l : List Int) (k : Nat) (v u : Int), l[k]? = some u → sumI (l.set k v) = sumI l + (v - u)
  | [], _, _, _, h => by simp at h
  | b :: r, 0, v, u, h => by
    obtain rfl : b = u := by simpa using h
    show v + sumI r = b + sumI r + (v - b)
    omega
  | b :: r, k + 1, v, u, h => by
    have := sumI_set r k v u (by simpa using h)
    show b + sumI (r.set k v) = b + sumI r + (v - u)
    omega

/-! ### The whole -/

def mark : List Int := [119, 110]
def encH (ss : List ByteArray) (f : Int) (l : List En) : List Int := mark ++ encBody ss f l
def encB (ss : List ByteArray) (f : Int) (l : List En) : List Int := encH ss f l ++ sealP (encH ss f l)

def headP (b : List Int) : List Int := b.take (b.length - 4)
def bodyP (b : List Int) : List Int := (headP b).drop 2
/-- What is wrong with bytes, whatever they tell. -/
def sealC (b : List Int) : Int := if 200000 < b.length then 1 else if b.length < 6 then 5 else if b.take 2 = mark then (if sealP (headP b) = b.drop (b.length - 4) then 0 else 9) else 4
def decC (b : List Int) : Int := if sealC b = 0 then (rdEnd (bodyP b)).code else sealC b

theorem sealC_zero {b : List Int} (h : sealC b = 0) : b.length ≤ 200000 ∧ 6 ≤ b.length ∧ b.take 2 = mark ∧ sealP (headP b) = b.drop (b.length - 4) := by
  unfold sealC at h
  split at h
  · cases h
  · split at h
    · cases h
    · split at h
      · split at h
        · rename_i h1 h2 h3 h4
          exact ⟨by omega, by omega, h3, h4⟩
        · cases h
      · cases h

theorem head_app (a b : List Int) (hb : b.length = 4) : headP (a ++ b) = a ∧ (a ++ b).drop ((a ++ b).length - 4) = b := by
  have e : (a ++ b).length - 4 = a.length := by rw [List.length_append]; omega
  constructor
  · unfold headP
    rw [e, List.take_left]
  · rw [e, List.drop_left]

theorem enc_len (ss : List ByteArray) (f : Int) (l : List En) : (encB ss f l).length = (encBody ss f l).length + 6 := by
  unfold encB encH
  simp [mark, sealP, fourB]

theorem enc_seal {ss : List ByteArray} {f : Int} {l : List En} (h : (encB ss f l).length ≤ 200000) : sealC (encB ss f l) = 0 ∧ bodyP (encB ss f l) = encBody ss f l := by
  obtain ⟨h1, h2⟩ := head_app (encH ss f l) (sealP (encH ss f l)) rfl
  have hl := enc_len ss f l
  constructor
  · unfold sealC
    rw [if_neg (by omega), if_neg (by omega), if_pos (by unfold encB encH; rfl), if_pos]
    unfold encB
    rw [h1, h2]
  · unfold bodyP encB
    rw [h1]
    rfl

/-- What is told of a base is read. -/
theorem dec_enc {ss : List ByteArray} {f : Int} {l : List En} (h : TellB ss f l) (hl : (encB ss f l).length ≤ 200000) : decC (encB ss f l) = 0 ∧ (rdNames (bodyP (encB ss f l))).1 = ss ∧ (rdFloor (bodyP (encB ss f l))).1 = f ∧ (rdPoints (bodyP (encB ss f l))).1 = l := by
  obtain ⟨h1, h2⟩ := enc_seal hl
  obtain ⟨a1, a2, a3⟩ := body_read h []
  rw [List.append_nil] at a1 a2 a3
  unfold decC
  rw [if_pos h1, h2]
  refine ⟨?_, a1, a2, by rw [a3]⟩
  unfold rdEnd
  rw [a3]
  rfl

/-- With one byte more it is refused. -/
theorem dec_more {ss : List ByteArray} {f : Int} {l : List En} (h : TellB ss f l) (v : Int) : decC (encB ss f l ++ [v]) ≠ 0 := by
  intro hd
  by_cases hs : sealC (encB ss f l ++ [v]) = 0
  · unfold decC at hd
    rw [if_pos hs] at hd
    have e : encB ss f l ++ [v] = (encH ss f l ++ [(sealF (encH ss f l)).2 / 256]) ++ [(sealF (encH ss f l)).2 % 256, (sealF (encH ss f l)).1 / 256, (sealF (encH ss f l)).1 % 256, v] := by
      unfold encB sealP fourB
      simp
    have hh := (head_app (encH ss f l ++ [(sealF (encH ss f l)).2 / 256]) [(sealF (encH ss f l)).2 % 256, (sealF (encH ss f l)).1 / 256, (sealF (encH ss f l)).1 % 256, v] rfl).1
    rw [← e] at hh
    have hb : bodyP (encB ss f l ++ [v]) = encBody ss f l ++ [(sealF (encH ss f l)).2 / 256] := by
      unfold bodyP
      rw [hh]
      rfl
    obtain ⟨_, _, a3⟩ := body_read h [(sealF (encH ss f l)).2 / 256]
    unfold rdEnd at hd
    rw [hb, a3, if_pos (by simp)] at hd
    exact refuse_bad (by decide) _ hd
  · unfold decC at hd
    rw [if_neg hs] at hd
    exact hs hd

/-- With another byte in the place of one it is refused. -/
theorem dec_bent {ss : List ByteArray} {f : Int} {l : List En} {k : Nat} {v u : Int} (hk : (encB ss f l)[k]? = some u) (h0 : 0 ≤ v) (h1 : v ≤ 255) (hu : 0 ≤ u ∧ u ≤ 255) (hne : v ≠ u) : decC ((encB ss f l).set k v) ≠ 0 := by
  intro hd
  have hs : sealC ((encB ss f l).set k v) = 0 := by
    unfold decC at hd
    split at hd
    · assumption
    · exact hd
  obtain ⟨_, _, _, h4⟩ := sealC_zero hs
  have hl := enc_len ss f l
  have hH : (encH ss f l).length = (encB ss f l).length - 4 := by
    rw [hl]
    unfold encH
    simp [mark]
  by_cases hkk : k < (encH ss f l).length
  · have e : (encB ss f l).set k v = (encH ss f l).set k v ++ sealP (encH ss f l) := by
      unfold encB
      rw [List.set_append_left _ _ hkk]
    obtain ⟨e1, e2⟩ := head_app ((encH ss f l).set k v) (sealP (encH ss f l)) rfl
    rw [e, e1, e2] at h4
    have hg : (encH ss f l)[k]? = some u := by
      rw [← hk]
      unfold encB
      rw [List.getElem?_append_left hkk]
    have hsum := seal_sum h4
    rw [sumI_set _ _ _ _ hg] at hsum
    omega
  · have e : (encB ss f l).set k v = encH ss f l ++ (sealP (encH ss f l)).set (k - (encH ss f l).length) v := by
      unfold encB
      rw [List.set_append_right _ _ (by omega)]
    obtain ⟨e1, e2⟩ := head_app (encH ss f l) ((sealP (encH ss f l)).set (k - (encH ss f l).length) v) (by rw [List.length_set]; rfl)
    rw [e, e1, e2] at h4
    have hg : (sealP (encH ss f l))[k - (encH ss f l).length]? = some u := by
      rw [← hk]
      unfold encB
      rw [List.getElem?_append_right (by omega)]
    have hk4 := (List.getElem?_eq_some_iff.1 hg).1
    have g : (sealP (encH ss f l))[k - (encH ss f l).length]? = some v := by
      conv => lhs; rw [h4]
      rw [List.getElem?_set_self hk4]
    rw [hg] at g
    exact hne (Option.some.inj g).symm

theorem take_u8 {l : List Int} (h : U8 l) (n : Nat) : U8 (l.take n) := fun b hb => h b (List.mem_of_mem_take hb)
theorem drop_u8 {l : List Int} (h : U8 l) (n : Nat) : U8 (l.drop n) := fun b hb => h b (List.mem_of_mem_drop hb)

/-- What is read was told so: no base has two forms. -/
theorem dec_once {b : List Int} (hu : U8 b) (h : decC b = 0) : b = encB (rdNames (bodyP b)).1 (rdFloor (bodyP b)).1 (rdPoints (bodyP b)).1 ∧ TellB (rdNames (bodyP b)).1 (rdFloor (bodyP b)).1 (rdPoints (bodyP b)).1 := by
  have hs : sealC b = 0 := by
    unfold decC at h
    split at h
    · assumption
    · exact h
  have hr : (rdEnd (bodyP b)).code = 0 := by
    unfold decC at h
    rwa [if_pos hs] at h
  obtain ⟨h1, h2, h3, h4⟩ := sealC_zero hs
  have hub : U8 (bodyP b) := drop_u8 (take_u8 hu _) 2
  obtain ⟨k1, k2, _⟩ := body_b hub hr
  refine ⟨?_, k2⟩
  have e1 : headP b = mark ++ bodyP b := by
    unfold bodyP headP
    conv => lhs; rw [← List.take_append_drop 2 (b.take (b.length - 4))]
    congr 1
    rw [List.take_take, Nat.min_eq_left (by omega), h3]
  have e2 : encH (rdNames (bodyP b)).1 (rdFloor (bodyP b)).1 (rdPoints (bodyP b)).1 = headP b := by
    unfold encH
    rw [← k1, e1]
  unfold encB
  rw [e2, h4]
  exact (List.take_append_drop _ _).symm

theorem app_u8 {a b : List Int} (ha : U8 a) (hb : U8 b) : U8 (a ++ b) := fun x hx => by
  rcases List.mem_append.1 hx with h | h
  · exact ha x h
  · exact hb x h

theorem encPs_u8 : ∀ (ahead : Int) (l : List En), U8 (encPs ahead l)
  | _, [] => fun x hx => by simp [encPs] at hx
  | ahead, x :: r => app_u8 (app_u8 (sev_u8 _) (app_u8 (sev_u8 _) (app_u8 (sev_u8 _) (app_u8 (sev_u8 _) (app_u8 (sev_u8 _) (sev_u8 _)))))) (encPs_u8 x.key r)

theorem names_u8 : ∀ (ss : List ByteArray), U8 (ss.flatMap encName)
  | [] => fun x hx => by simp at hx
  | s :: r => by
    rw [List.flatMap_cons]
    exact app_u8 (app_u8 (sev_u8 _) (ofStr_u8 s)) (names_u8 r)

theorem encH_u8 (ss : List ByteArray) (f : Int) (l : List En) : U8 (encH ss f l) :=
  app_u8 (fun x hx => by simp only [mark, List.mem_cons, List.not_mem_nil, or_false] at hx; omega) (app_u8 (app_u8 (sev_u8 _) (names_u8 ss)) (app_u8 (sev_u8 _) (app_u8 (sev_u8 _) (encPs_u8 0 l))))

theorem encB_u8 (ss : List ByteArray) (f : Int) (l : List En) : U8 (encB ss f l) := app_u8 (encH_u8 ss f l) (sealP_u8 _)

end Go.Proofs.YtlojfgdpmaigmafGreatDoor

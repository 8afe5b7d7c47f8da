/- Rows of cells, and what lies in them: numbers, entries. -/
import Derived.Test.YtlojfgdpmaigmafGreatDoorRows
import Derived.Test.YtlojfgdpmaigmafGreatDoorP02
import Derived.WalkKit
import Derived.WalkSpells
import Derived.WalkLawsBesides
import Derived.Handy
import Derived.Deep.Light
import Derived.Deep.OwnRows
import Derived.ProofKit
import Derived.OpenShut
import Derived.Below
import Derived.ChangeOld
import Derived.Test.YtlojfgdpmaigmafGreatDoorP01
namespace Go.Proofs.YtlojfgdpmaigmafGreatDoor
section
open Go.RowKit

def q0l (B : Nat) (w : World) (A : Option Addr) (vs : List Value) : Prop :=
 vs = [] ∨ ∃ b o, A = some ⟨b, o, none⟩ ∧ b < B ∧ ∀ j u, vs[j]? = some u → w.cell? ⟨b, o + j, none⟩ = some u

theorem q0l.below {B B' : Nat} {w w' : World} {A : Option Addr} {vs : List Value} (h : q0l B w A vs) (hb : Below B' w w') (hB : B ≤ B') : q0l B w' A vs := by
 rcases h with h | ⟨b, o, hA, hlt, hc⟩
 · exact .inl h
 · exact .inr ⟨b, o, hA, hlt, fun j u hu => (hb.cell (p := ⟨b, o + j, none⟩) (Nat.lt_of_lt_of_le hlt hB)).trans (hc j u hu)⟩

theorem q0l.mono {B B' : Nat} {w : World} {A : Option Addr} {vs : List Value} (h : q0l B w A vs) (hB : B ≤ B') : q0l B' w A vs := by
 rcases h with h | ⟨b, o, hA, hlt, hc⟩
 · exact .inl h
 · exact .inr ⟨b, o, hA, by omega, hc⟩

structure En where
 key : Int
 c : Int
 s : Int
 lo : Int
 hi : Int
 t : Int
 l : Int
deriving DecidableEq, Inhabited

def En.vals (x : En) : List Value := [.int .i64 x.key, .int .i64 x.c, .int .i64 x.s, .int .i64 x.lo, .int .i64 x.hi, .int .i64 x.t, .int .i64 x.l]
def q0d : List En → List Value
 | [] => []
 | x :: r => x.vals ++ q0d r

theorem q0x : ∀ xs : List En, (q0d xs).length = xs.length * 7
 | [] => rfl
 | x :: r => by simp [q0d, En.vals, q0x r]; omega

theorem q2j : ∀ xs ys : List En, q0d (xs ++ ys) = q0d xs ++ q0d ys
 | [], _ => rfl
 | x :: r, ys => by simp [q0d, q2j r ys]

theorem qcv (xs : List En) (k j : Nat) (hk : k < xs.length) (hj : j < 7) : (q0d xs)[k * 7 + j]? = (xs[k]).vals[j]? := by
 induction xs generalizing k with
 | nil => simp at hk
 | cons x r ih =>
   cases k with
   | zero => simp only [q0d]; rw [List.getElem?_append_left (by simp [En.vals]; omega)]; simp
   | succ k =>
     simp only [q0d]
     rw [List.getElem?_append_right (by simp [En.vals]; omega)]
     have := ih k (by simpa using hk)
     simp only [En.vals, List.length_cons, List.length_nil] at *
     rw [show (k + 1) * 7 + j - (0 + 1 + 1 + 1 + 1 + 1 + 1 + 1) = k * 7 + j by omega]
     simpa using this

def ints (zs : List Int) : List Value := zs.map (.int .i64)

theorem q0l.int {B : Nat} {w : World} {A : Option Addr} {zs : List Int} (h : q0l B w A (ints zs)) {k : Nat} (hk : k < zs.length) :
   ∃ b o, A = some ⟨b, o, none⟩ ∧ b < B ∧ w.cell? ⟨b, o + k, none⟩ = some (.int .i64 zs[k]) := by
 rcases h with h | ⟨b, o, hA, hlt, hc⟩
 · simp [ints] at h; subst h; simp at hk
 · exact ⟨b, o, hA, hlt, hc k _ (by simp [ints, hk])⟩

structure EnAt (w : World) (b o : Nat) (x : En) : Prop where
 c0 : w.cell? ⟨b, o, none⟩ = some (.int .i64 x.key)
 c1 : w.cell? ⟨b, o + 1, none⟩ = some (.int .i64 x.c)
 c2 : w.cell? ⟨b, o + 2, none⟩ = some (.int .i64 x.s)
 c3 : w.cell? ⟨b, o + 3, none⟩ = some (.int .i64 x.lo)
 c4 : w.cell? ⟨b, o + 4, none⟩ = some (.int .i64 x.hi)
 c5 : w.cell? ⟨b, o + 5, none⟩ = some (.int .i64 x.t)
 c6 : w.cell? ⟨b, o + 6, none⟩ = some (.int .i64 x.l)

theorem q0l.en {B : Nat} {w : World} {A : Option Addr} {xs : List En} (h : q0l B w A (q0d xs)) {k : Nat} (hk : k < xs.length) :
   ∃ b o, A = some ⟨b, o, none⟩ ∧ b < B ∧ EnAt w b (o + k * 7) xs[k] := by
 rcases h with h | ⟨b, o, hA, hlt, hc⟩
 · have := q0x xs; rw [h] at this; simp at this; omega
 · refine ⟨b, o, hA, hlt, ?_⟩
   have g : ∀ j, j < 7 → ∀ u, (xs[k]).vals[j]? = some u → w.cell? ⟨b, o + k * 7 + j, none⟩ = some u := fun j hj u hu => by
     have := hc (k * 7 + j) u (by rw [qcv xs k j hk hj]; exact hu)
     rwa [← Nat.add_assoc] at this
   exact ⟨g 0 (by decide) _ rfl, g 1 (by decide) _ rfl, g 2 (by decide) _ rfl, g 3 (by decide) _ rfl, g 4 (by decide) _ rfl, g 5 (by decide) _ rfl, g 6 (by decide) _ rfl⟩

end
section
open Go.ChangeShapes Go.WideShapes Go.ChangeAt Go.RowKit

theorem own : ownKnob Tryz.prog.godebug = none := by kernel_rfl
theorem qjm : laidOutB Tryz.prog = true := by kernel_rfl
theorem qzj : Tryz.prog.cellsOf 49 = 6 := by kernel_rfl
theorem qrs : Tryz.prog.cellsOf 3 = 1 := by kernel_rfl

theorem bd {n : Int} (h : (Lit.int .i64 n).wf = true) : -9223372036854775808 ≤ n ∧ n ≤ 9223372036854775807 := by
 have := bounds_i64 h
 omega

end
section
open Plain

def q1l (c : Int) (s : Rs) : Rs := ⟨[], if s.code = 0 then c else s.code⟩
def tk (n : Nat) (s : Rs) : List Int × Rs := if s.rest.length < n then ([], q1l 5 s) else (s.rest.take n, ⟨s.rest.drop n, s.code⟩)
def cnt (most : Int) (s : Rs) : Int × Rs := if (num s).1 > most then (0, q1l 1 (num s).2) else num s

def q5z (s : ByteArray) : List Int := s.data.toList.map fun b => (b.toNat : Int)
def q8b (l : List Int) : ByteArray := ⟨(l.map fun b => UInt8.ofNat b.toNat).toArray⟩

theorem qtq (s : ByteArray) : q8b (q5z s) = s := by
 unfold q8b q5z
 apply ByteArray.ext
 apply Array.toList_inj.1
 rw [List.map_map]
 have : ((fun b : Int => UInt8.ofNat b.toNat) ∘ fun b : UInt8 => (b.toNat : Int)) = id := by
   funext b
   simp
 rw [this]
 simp

theorem qf8 {l : List Int} (h : U8 l) : q5z (q8b l) = l := by
 unfold q8b q5z
 simp only [List.map_map]
 conv => rhs; rw [← List.map_id l]
 refine List.map_congr_left fun b hb => ?_
 obtain ⟨h0, h1⟩ := h b hb
 have : b.toNat % 256 = b.toNat := Nat.mod_eq_of_lt (by omega)
 simp [this]
 omega

theorem qgw (s : ByteArray) : (q5z s).length = s.size := by
 unfold q5z
 rw [List.length_map, Array.length_toList]
 rfl
theorem qn6 (l : List Int) : (q8b l).size = l.length := by
 unfold q8b
 show Array.size _ = _
 rw [List.size_toArray, List.length_map]
theorem qsu (s : ByteArray) : U8 (q5z s) := fun b hb => by
 obtain ⟨x, _, rfl⟩ := List.mem_map.1 hb
 have := x.toNat_lt
 omega

def q3i : Nat → Rs → List ByteArray × Rs
 | 0, s => ([], s)
 | k + 1, s => (q8b (tk (cnt 10 s).1.toNat (cnt 10 s).2).1 :: (q3i k (tk (cnt 10 s).1.toNat (cnt 10 s).2).2).1, (q3i k (tk (cnt 10 s).1.toNat (cnt 10 s).2).2).2)

def six (s : Rs) : Rs := (num (num (num (num (num (num s).2).2).2).2).2).2
def q1v (ahead : Int) (s : Rs) : En :=
 ⟨ahead + (num s).1, (num (num s).2).1, q2h (num (num (num s).2).2).1, q2h (num (num (num (num s).2).2).2).1, q2h (num (num (num (num (num s).2).2).2).2).1, (ahead + (num s).1) % 1048576, q2h (num (num (num (num (num (num s).2).2).2).2).2).1⟩

def badP (first : Bool) (ahead : Int) (x : En) : Bool := decide (1099511627776 ≤ x.key) || ((!first && decide (x.key = ahead)) || decide (x.c = 0))
def q2r (first : Bool) (ahead : Int) (s : Rs) : Rs := if badP first ahead (q1v ahead s) = true then q1l 7 (six s) else six s

def q1c : Nat → Bool → Int → Rs → List En × Rs
 | 0, _, _, s => ([], s)
 | k + 1, first, ahead, s =>
   if (q2r first ahead s).code = 0 then
     (if (q1c k false (q1v ahead s).key (q2r first ahead s)).2.code = 0 then q1v ahead s :: (q1c k false (q1v ahead s).key (q2r first ahead s)).1 else [], (q1c k false (q1v ahead s).key (q2r first ahead s)).2)
   else ([], q2r first ahead s)

def q1a (bs : List Int) : List ByteArray × Rs := q3i (cnt 16 ⟨bs, 0⟩).1.toNat (cnt 16 ⟨bs, 0⟩).2
def q1i (bs : List Int) : Int × Rs := num (q1a bs).2
def q0v (bs : List Int) : List En × Rs := q1c (cnt 10000 (q1i bs).2).1.toNat true 0 (cnt 10000 (q1i bs).2).2
def qb6 (bs : List Int) : Rs := if 0 < (q0v bs).2.rest.length then q1l 4 (q0v bs).2 else (q0v bs).2

def q8a (s : Rs) : Prop := s.code ≠ 0 → s.rest = []

theorem q6r (c : Int) (s : Rs) : q8a (q1l c s) := fun _ => rfl
theorem q4d {c : Int} (hc : c ≠ 0) (s : Rs) : (q1l c s).code ≠ 0 := by
 unfold q1l
 show (if s.code = 0 then c else s.code) ≠ 0
 split
 · exact hc
 · assumption

theorem qem : ∀ (f : Nat) (first : Bool) (a u : Int) (bs : List Int), q8a (numF f first a u bs).2
 | 0, _, _, _, [] => fun _ => rfl
 | _ + 1, _, _, _, [] => fun _ => rfl
 | 0, _, _, _, _ :: _ => fun _ => rfl
 | f + 1, first, a, u, c :: r => by
   unfold numF
   split
   · exact fun _ => rfl
   · split
     · exact fun h => absurd rfl h
     · exact qem f false _ _ r

theorem q6b {s : Rs} (h : q8a s) : q8a (num s).2 := by
 unfold num
 split
 · exact qem _ _ _ _ _
 · exact h

theorem qvp {s : Rs} (h : s.code ≠ 0) : num s = (0, s) := if_neg h

theorem qsp {s : Rs} (h : (num s).2.code = 0) : s.code = 0 := by
 unfold num at h
 split at h
 · assumption
 · exact h

theorem qpn : ∀ (f : Nat) (first : Bool) (a u : Int) (bs : List Int), U8 bs → 0 ≤ a → 0 ≤ u → 0 ≤ (numF f first a u bs).1
 | 0, _, _, _, [], _, _, _ => Int.le_refl _
 | _ + 1, _, _, _, [], _, _, _ => Int.le_refl _
 | 0, _, _, _, _ :: _, _, _, _ => Int.le_refl _
 | f + 1, first, a, u, c :: r, h, ha, hu => by
   have hc := h c List.mem_cons_self
   unfold numF
   split
   · exact Int.le_refl _
   · split
     · have := Int.mul_nonneg hc.1 hu
       show 0 ≤ a + c * u
       omega
     · have := Int.mul_nonneg (show 0 ≤ c - 128 by omega) hu
       exact qpn f false _ _ r (fun b hb => h b (List.mem_cons_of_mem _ hb)) (by omega) (by omega)

theorem qrb : ∀ (f : Nat) (first : Bool) (a u : Int) (bs : List Int), U8 bs → U8 (numF f first a u bs).2.rest
 | 0, _, _, _, [], h => h
 | _ + 1, _, _, _, [], h => h
 | 0, _, _, _, _ :: _, _ => fun b hb => by simp [numF] at hb
 | f + 1, first, a, u, c :: r, h => by
   have h' : U8 r := fun b hb => h b (List.mem_cons_of_mem _ hb)
   unfold numF
   split
   · exact fun b hb => by simp at hb
   · split
     · exact h'
     · exact qrb f false _ _ r h'

theorem qle {s : Rs} (h : U8 s.rest) : 0 ≤ (num s).1 := by
 unfold num
 split
 · exact qpn _ _ _ _ _ h (by decide) (by decide)
 · exact Int.le_refl _

theorem q6p {s : Rs} (h : U8 s.rest) : U8 (num s).2.rest := by
 unfold num
 split
 · exact qrb _ _ _ _ _ h
 · exact h

theorem qo7 : ∀ (f : Nat) (first : Bool) (a u : Int) (bs : List Int), U8 bs → 0 ≤ a → 0 ≤ u → (numF f first a u bs).1 ≤ a + (128 ^ f - 1) * u
 | 0, _, a, u, [], _, ha, _ => by simpa [numF] using ha
 | f + 1, _, a, u, [], _, ha, hu => by
   show (0 : Int) ≤ _
   have := Int.mul_nonneg (show (0 : Int) ≤ 128 ^ (f + 1) - 1 by have h1 : (0 : Int) < 128 ^ (f + 1) := Int.pow_pos (by decide); omega) hu
   omega
 | 0, _, a, u, _ :: _, _, ha, _ => by simpa [numF] using ha
 | f + 1, first, a, u, c :: r, h, ha, hu => by
   have hc := h c List.mem_cons_self
   have hp : (0 : Int) < 128 ^ f := Int.pow_pos (by decide)
   have hpp : (128 : Int) ^ (f + 1) = 128 ^ f * 128 := Int.pow_succ ..
   have hnn := Int.mul_nonneg (show (0 : Int) ≤ 128 ^ (f + 1) - 1 by omega) hu
   unfold numF
   split
   · show (0 : Int) ≤ _
     omega
   · split
     · rename_i h1 h2
       show a + c * u ≤ _
       have := Int.mul_le_mul_of_nonneg_right (show c ≤ 128 ^ (f + 1) - 1 by omega) hu
       omega
     · rename_i h1 h2
       have k := qo7 f false (a + (c - 128) * u) (u * 128) r (fun b hb => h b (List.mem_cons_of_mem _ hb)) (by have := Int.mul_nonneg (show 0 ≤ c - 128 by omega) hu; omega) (by omega)
       refine Int.le_trans k ?_
       have e : (128 ^ f - 1) * (u * 128) = (128 ^ f * 128 - 128) * u := by
         rw [Int.mul_comm u 128, ← Int.mul_assoc]
         congr 1
         omega
       rw [e, hpp, Int.add_assoc, ← Int.add_mul]
       have := Int.mul_le_mul_of_nonneg_right (show (c - 128) + (128 ^ f * 128 - 128) ≤ 128 ^ f * 128 - 1 by omega) hu
       omega

theorem quy {s : Rs} (h : U8 s.rest) : (num s).1 < 72057594037927936 := by
 unfold num
 split
 · have := qo7 8 true 0 1 s.rest h (by decide) (by decide)
   have e : (0 : Int) + (128 ^ 8 - 1) * 1 = 72057594037927935 := by decide
   omega
 · show (0 : Int) < _
   decide

theorem q8j {c : Int} {s : Rs} (h : s.code ≠ 0) (hs : q8a s) : q1l c s = s := by
 obtain ⟨r, k⟩ := s
 unfold q1l
 rw [if_neg h]
 have := hs h
 simp only at this
 rw [this]

theorem quk {n : Nat} {s : Rs} (h : U8 s.rest) : U8 (tk n s).2.rest ∧ U8 (tk n s).1 := by
 unfold tk
 split
 · exact ⟨fun b hb => by simp [q1l] at hb, fun b hb => by simp at hb⟩
 · exact ⟨fun b hb => h b (List.mem_of_mem_drop hb), fun b hb => h b (List.mem_of_mem_take hb)⟩

theorem qlo {n : Nat} {s : Rs} (h : q8a s) : q8a (tk n s).2 := by
 unfold tk
 split
 · exact q6r _ _
 · intro hc
   have := h hc
   show s.rest.drop n = []
   rw [this]; simp

theorem qx2 {n : Nat} {s : Rs} (h : (tk n s).2.code = 0) : s.code = 0 ∧ n ≤ s.rest.length ∧ tk n s = (s.rest.take n, ⟨s.rest.drop n, 0⟩) := by
 unfold tk at h ⊢
 split at h
 · exact absurd h (q4d (by decide) _)
 · rename_i hn
   have h' : s.code = 0 := h
   rw [if_neg hn, h']
   exact ⟨rfl, by omega, rfl⟩

theorem qeh {m : Int} {s : Rs} (h : U8 s.rest) : U8 (cnt m s).2.rest := by
 unfold cnt
 split
 · exact fun b hb => by simp [q1l] at hb
 · exact q6p h

theorem qd7 {m : Int} {s : Rs} (h : q8a s) : q8a (cnt m s).2 := by
 unfold cnt
 split
 · exact q6r _ _
 · exact q6b h

theorem qk3 {m : Int} {s : Rs} (hm : 0 ≤ m) (h : U8 s.rest) : 0 ≤ (cnt m s).1 ∧ (cnt m s).1 ≤ m := by
 unfold cnt
 split
 · exact ⟨Int.le_refl _, hm⟩
 · rename_i h1
   exact ⟨qle h, by omega⟩

theorem qfz {m : Int} {s : Rs} (h : (cnt m s).2.code = 0) : s.code = 0 ∧ cnt m s = num s ∧ (num s).1 ≤ m := by
 unfold cnt at h ⊢
 split at h
 · exact absurd h (q4d (by decide) _)
 · rename_i h1
   rw [if_neg h1]
   exact ⟨qsp h, rfl, by omega⟩

theorem qgm : ∀ (k : Nat) (s : Rs), U8 s.rest → U8 (q3i k s).2.rest
 | 0, _, h => h
 | k + 1, _, h => qgm k _ (quk (qeh h)).1

theorem qxp {s : Rs} (h : U8 s.rest) : U8 (six s).rest := q6p (q6p (q6p (q6p (q6p (q6p h)))))
theorem qxq {s : Rs} (h : q8a s) : q8a (six s) := q6b (q6b (q6b (q6b (q6b (q6b h)))))

theorem qoo {first : Bool} {ahead : Int} {s : Rs} (h : U8 s.rest) : U8 (q2r first ahead s).rest := by
 unfold q2r
 split
 · exact fun b hb => by simp [q1l] at hb
 · exact qxp h

theorem qj8 {first : Bool} {ahead : Int} {s : Rs} (h : (q2r first ahead s).code = 0) : badP first ahead (q1v ahead s) = false ∧ (six s).code = 0 ∧ q2r first ahead s = six s := by
 unfold q2r at h ⊢
 split at h
 · exact absurd h (q4d (by decide) _)
 · rename_i h1
   rw [if_neg h1]
   exact ⟨by simpa using h1, h, rfl⟩

theorem qj0 : ∀ (k : Nat) (first : Bool) (ahead : Int) (s : Rs), (q1c k first ahead s).2.code ≠ 0 → (q1c k first ahead s).1 = []
 | 0, _, _, _, _ => rfl
 | k + 1, first, ahead, s, h => by
   unfold q1c at h ⊢
   split at h
   · rename_i h1
     rw [if_pos h1, if_neg h]
   · rename_i h1
     rw [if_neg h1]

end
section
open Plain

def q1y (s : ByteArray) : List Int := sev s.size ++ q5z s
def q4z (ss : List ByteArray) : List Int := sev ss.length ++ ss.flatMap q1y
def zig (n : Int) : List Int := sev (q6n n).toNat
def encP (ahead : Int) (x : En) : List Int := sev (x.key - ahead).toNat ++ (sev x.c.toNat ++ (zig x.s ++ (zig x.lo ++ (zig x.hi ++ zig x.l))))
def q3p : Int → List En → List Int
 | _, [] => []
 | ahead, x :: r => encP ahead x ++ q3p x.key r
def q4w (ss : List ByteArray) (f : Int) (l : List En) : List Int := q4z ss ++ (sev f.toNat ++ (sev l.length ++ q3p 0 l))

def big (n : Int) : Prop := -36028797018963968 ≤ n ∧ n < 36028797018963968

theorem qiz {n : Int} (h : big n) : (q6n n).toNat < 72057594037927936 := by
 unfold big at h
 have := qdl n
 unfold q6n at *
 split <;> omega

theorem qm7 {n : Int} (h0 : 0 ≤ n) (h1 : n < 72057594037927936) (r : List Int) : num ⟨sev n.toNat ++ r, 0⟩ = (n, ⟨r, 0⟩) := by
 rw [qq0 (by omega)]
 have : ((n.toNat : Nat) : Int) = n := by omega
 rw [this]

theorem qg0 {n : Int} (h : big n) (r : List Int) : num ⟨zig n ++ r, 0⟩ = (q6n n, ⟨r, 0⟩) := by
 unfold zig
 have := qdl n
 have := qiz h
 exact qm7 (by omega) (by omega) r

structure qx3 (ahead : Int) (x : En) : Prop where
 k0 : ahead ≤ x.key
 a0 : 0 ≤ ahead
 k1 : x.key < 1099511627776
 c0 : 0 < x.c
 c1 : x.c < 72057594037927936
 s : big x.s
 lo : big x.lo
 hi : big x.hi
 l : big x.l
 t : x.t = x.key % 1048576

theorem qqc {ahead : Int} {x : En} (h : qx3 ahead x) (r : List Int) : q1v ahead ⟨encP ahead x ++ r, 0⟩ = x ∧ six ⟨encP ahead x ++ r, 0⟩ = ⟨r, 0⟩ := by
 obtain ⟨h1, h2, h3, h4, h5, h6, h7, h8, h9, h10⟩ := h
 have n1 := qm7 (n := x.key - ahead) (by omega) (by omega) (sev x.c.toNat ++ (zig x.s ++ (zig x.lo ++ (zig x.hi ++ (zig x.l ++ r)))))
 have n2 := qm7 (n := x.c) (by omega) h5 (zig x.s ++ (zig x.lo ++ (zig x.hi ++ (zig x.l ++ r))))
 have n3 := qg0 h6 (zig x.lo ++ (zig x.hi ++ (zig x.l ++ r)))
 have n4 := qg0 h7 (zig x.hi ++ (zig x.l ++ r))
 have n5 := qg0 h8 (zig x.l ++ r)
 have n6 := qg0 h9 r
 have e : encP ahead x ++ r = sev (x.key - ahead).toNat ++ (sev x.c.toNat ++ (zig x.s ++ (zig x.lo ++ (zig x.hi ++ (zig x.l ++ r))))) := by
   unfold encP
   simp only [List.append_assoc]
 rw [e]
 unfold q1v six
 simp only [n1, n2, n3, n4, n5, n6, qjs]
 refine ⟨?_, trivial⟩
 obtain ⟨key, c, s, lo, hi, t, l⟩ := x
 simp only at h10 ⊢
 have : ahead + (key - ahead) = key := by omega
 rw [this, h10]

def qe9 : Bool → Int → List En → Prop
 | _, _, [] => True
 | first, ahead, x :: r => qx3 ahead x ∧ (first = true ∨ ahead < x.key) ∧ qe9 false x.key r

theorem qe7 : ∀ (l : List En) (first : Bool) (ahead : Int) (r : List Int), qe9 first ahead l → q1c l.length first ahead ⟨q3p ahead l ++ r, 0⟩ = (l, ⟨r, 0⟩)
 | [], _, _, _, _ => rfl
 | x :: l, first, ahead, r, h => by
   obtain ⟨h1, h2, h3⟩ := h
   have e : q3p ahead (x :: l) ++ r = encP ahead x ++ (q3p x.key l ++ r) := by
     show (encP ahead x ++ q3p x.key l) ++ r = _
     rw [List.append_assoc]
   obtain ⟨p1, p2⟩ := qqc h1 (q3p x.key l ++ r)
   have hb : badP first ahead x = false := by
     unfold badP
     have := h1.k1
     have := h1.c0
     simp only [Bool.or_eq_false_iff, Bool.and_eq_false_iff, decide_eq_false_iff_not, Bool.not_eq_false']
     refine ⟨by omega, ?_, by omega⟩
     rcases h2 with h2 | h2
     · exact .inl h2
     · right; omega
   have ha : q2r first ahead ⟨encP ahead x ++ (q3p x.key l ++ r), 0⟩ = ⟨q3p x.key l ++ r, 0⟩ := by
     unfold q2r
     rw [p1, hb, p2]
     rfl
   have ih := qe7 l false x.key r h3
   rw [e, List.length_cons]
   unfold q1c
   rw [ha, p1, ih]
   simp

theorem qoh {m : Int} {n : Nat} (h : (n : Int) ≤ m) (h1 : n < 72057594037927936) (r : List Int) : cnt m ⟨sev n ++ r, 0⟩ = ((n : Int), ⟨r, 0⟩) := by
 unfold cnt
 rw [qq0 h1, if_neg (by show ¬ (n : Int) > m; omega)]

theorem qzd (a r : List Int) : tk a.length ⟨a ++ r, 0⟩ = (a, ⟨r, 0⟩) := by
 unfold tk
 rw [if_neg (by simp)]
 simp

theorem qe2 : ∀ (ss : List ByteArray) (r : List Int), (∀ s ∈ ss, s.size ≤ 10) → q3i ss.length ⟨ss.flatMap q1y ++ r, 0⟩ = (ss, ⟨r, 0⟩)
 | [], _, _ => rfl
 | s :: ss, r, h => by
   have hs := h s List.mem_cons_self
   have e : (s :: ss).flatMap q1y ++ r = sev s.size ++ (q5z s ++ (ss.flatMap q1y ++ r)) := by
     rw [List.flatMap_cons]
     unfold q1y
     simp only [List.append_assoc]
   have n1 := qoh (m := 10) (n := s.size) (by omega) (by omega) (q5z s ++ (ss.flatMap q1y ++ r))
   have n2 := qzd (q5z s) (ss.flatMap q1y ++ r)
   rw [qgw] at n2
   have ih := qe2 ss r (fun x hx => h x (List.mem_cons_of_mem _ hx))
   rw [e, List.length_cons]
   unfold q3i
   simp only [n1, Int.toNat_natCast, n2, qtq, ih]

structure qi5 (ss : List ByteArray) (f : Int) (l : List En) : Prop where
 n : ss.length ≤ 16
 s : ∀ s ∈ ss, s.size ≤ 10
 f0 : 0 ≤ f
 f1 : f < 72057594037927936
 m : l.length ≤ 10000
 p : qe9 true 0 l

theorem qgl {ss : List ByteArray} {f : Int} {l : List En} (h : qi5 ss f l) (r : List Int) : (q1a (q4w ss f l ++ r)).1 = ss ∧ (q1i (q4w ss f l ++ r)).1 = f ∧ q0v (q4w ss f l ++ r) = (l, ⟨r, 0⟩) := by
 have hn := h.n
 have hm := h.m
 have e : q4w ss f l ++ r = sev ss.length ++ (ss.flatMap q1y ++ (sev f.toNat ++ (sev l.length ++ (q3p 0 l ++ r)))) := by
   unfold q4w q4z
   simp only [List.append_assoc]
 have n1 := qoh (m := 16) (n := ss.length) (by omega) (by omega) (ss.flatMap q1y ++ (sev f.toNat ++ (sev l.length ++ (q3p 0 l ++ r))))
 have n2 := qe2 ss (sev f.toNat ++ (sev l.length ++ (q3p 0 l ++ r))) h.s
 have n3 := qm7 h.f0 h.f1 (sev l.length ++ (q3p 0 l ++ r))
 have n4 := qoh (m := 10000) (n := l.length) (by omega) (by omega) (q3p 0 l ++ r)
 have n5 := qe7 l true 0 r h.p
 rw [e]
 have a1 : q1a (sev ss.length ++ (ss.flatMap q1y ++ (sev f.toNat ++ (sev l.length ++ (q3p 0 l ++ r))))) = (ss, ⟨sev f.toNat ++ (sev l.length ++ (q3p 0 l ++ r)), 0⟩) := by
   unfold q1a
   simp only [n1, Int.toNat_natCast, n2]
 have a2 : q1i (sev ss.length ++ (ss.flatMap q1y ++ (sev f.toNat ++ (sev l.length ++ (q3p 0 l ++ r))))) = (f, ⟨sev l.length ++ (q3p 0 l ++ r), 0⟩) := by
   unfold q1i
   rw [a1]
   exact n3
 refine ⟨by rw [a1], by rw [a2], ?_⟩
 unfold q0v
 simp only [a2, n4, Int.toNat_natCast, n5]

theorem qjd {s : Rs} (hu : U8 s.rest) (h : (num s).2.code = 0) : s.code = 0 ∧ s.rest = sev (num s).1.toNat ++ (num s).2.rest ∧ 0 ≤ (num s).1 ∧ (num s).1 < 72057594037927936 := by
 have hp : num s = ((num s).1, ⟨(num s).2.rest, 0⟩) := by
   rw [← h]
 obtain ⟨h0, n, h1, h2, h3⟩ := qu5 hu hp
 refine ⟨h0, ?_, by omega, by omega⟩
 have : (num s).1.toNat = n := by omega
 rw [this]
 exact h3

theorem qmd {s : Rs} (hu : U8 s.rest) (h : (num s).2.code = 0) : s.code = 0 ∧ s.rest = zig (q2h (num s).1) ++ (num s).2.rest ∧ big (q2h (num s).1) := by
 obtain ⟨h0, h1, h2, h3⟩ := qjd hu h
 refine ⟨h0, ?_, ?_⟩
 · unfold zig
   rw [qjn h2]
   exact h1
 · unfold big q2h
   split <;> omega

theorem qvx {first : Bool} {ahead : Int} {s : Rs} (hu : U8 s.rest) (ha : 0 ≤ ahead) (h : (q2r first ahead s).code = 0) :
   s.code = 0 ∧ s.rest = encP ahead (q1v ahead s) ++ (q2r first ahead s).rest ∧ qx3 ahead (q1v ahead s) ∧ (first = true ∨ ahead < (q1v ahead s).key) := by
 obtain ⟨hb, h6, he⟩ := qj8 h
 rw [he]
 have u1 := q6p hu
 have u2 := q6p u1
 have u3 := q6p u2
 have u4 := q6p u3
 have u5 := q6p u4
 obtain ⟨z6, e6, b6⟩ := qmd u5 h6
 obtain ⟨z5, e5, b5⟩ := qmd u4 z6
 obtain ⟨z4, e4, b4⟩ := qmd u3 z5
 obtain ⟨z3, e3, b3⟩ := qmd u2 z4
 obtain ⟨z2, e2, c2, d2⟩ := qjd u1 z3
 obtain ⟨z1, e1, c1, d1⟩ := qjd hu z2
 unfold badP at hb
 simp only [Bool.or_eq_false_iff, Bool.and_eq_false_iff, decide_eq_false_iff_not, Bool.not_eq_false'] at hb
 obtain ⟨hb1, hb2, hb3⟩ := hb
 have hk : (q1v ahead s).key = ahead + (num s).1 := rfl
 have hc : (q1v ahead s).c = (num (num s).2).1 := rfl
 refine ⟨z1, ?_, ⟨by omega, ha, by omega, by omega, by omega, b3, b4, b5, b6, rfl⟩, ?_⟩
 · unfold encP six
   have ek : (q1v ahead s).key - ahead = (num s).1 := by omega
   rw [ek, hc]
   show _ = (sev (num s).1.toNat ++ (sev (num (num s).2).1.toNat ++ (zig (q2h (num (num (num s).2).2).1) ++ (zig (q2h (num (num (num (num s).2).2).2).1) ++ (zig (q2h (num (num (num (num (num s).2).2).2).2).1) ++ zig (q2h (num (num (num (num (num (num s).2).2).2).2).2).1)))))) ++ _
   simp only [List.append_assoc]
   rw [← e6, ← e5, ← e4, ← e3, ← e2, ← e1]
 · rcases hb2 with hb2 | hb2
   · exact .inl hb2
   · right; omega

theorem qm2 : ∀ (k : Nat) (first : Bool) (ahead : Int) (s : Rs), U8 s.rest → 0 ≤ ahead → (q1c k first ahead s).2.code = 0 → s.code = 0 ∧ s.rest = q3p ahead (q1c k first ahead s).1 ++ (q1c k first ahead s).2.rest ∧ qe9 first ahead (q1c k first ahead s).1 ∧ (q1c k first ahead s).1.length = k
 | 0, _, _, _, _, _, h => ⟨h, rfl, trivial, rfl⟩
 | k + 1, first, ahead, s, hu, ha, h => by
   unfold q1c at h ⊢
   by_cases h0 : (q2r first ahead s).code = 0
   · rw [if_pos h0] at h ⊢
     have h' : (q1c k false (q1v ahead s).key (q2r first ahead s)).2.code = 0 := h
     rw [if_pos h']
     obtain ⟨a1, a2, a3, a4⟩ := qvx (first := first) hu ha h0
     obtain ⟨b1, b2, b3, b4⟩ := qm2 k false (q1v ahead s).key (q2r first ahead s) (qoo hu) (by have := a3.k0; omega) h'
     refine ⟨a1, ?_, ⟨a3, a4, b3⟩, by simpa using b4⟩
     show s.rest = (encP ahead (q1v ahead s) ++ q3p (q1v ahead s).key _) ++ _
     rw [List.append_assoc, ← b2]
     exact a2
   · rw [if_neg h0] at h
     exact absurd h h0

theorem qqg : ∀ (k : Nat) (s : Rs), U8 s.rest → q8a s → (q3i k s).2.code = 0 → s.code = 0 ∧ s.rest = (q3i k s).1.flatMap q1y ++ (q3i k s).2.rest ∧ (q3i k s).1.length = k ∧ ∀ x ∈ (q3i k s).1, x.size ≤ 10
 | 0, _, _, _, h => ⟨h, rfl, rfl, fun x hx => by simp [q3i] at hx⟩
 | k + 1, s, hu, hs, h => by
   have u1 := qeh (m := 10) hu
   have u2 := quk (n := (cnt 10 s).1.toNat) u1
   have s2 := qlo (n := (cnt 10 s).1.toNat) (qd7 (m := 10) hs)
   obtain ⟨a1, a2, a3, a4⟩ := qqg k _ u2.1 s2 h
   obtain ⟨b1, b2, b3⟩ := qx2 a1
   obtain ⟨c1, c2, c3⟩ := qfz b1
   have z : (num s).2.code = 0 := by rw [← c2]; exact b1
   obtain ⟨d1, d2, d3, d4⟩ := qjd hu z
   have hl : (q8b (tk (cnt 10 s).1.toNat (cnt 10 s).2).1).size = (num s).1.toNat := by
     rw [qn6, b3, List.length_take, c2]
     rw [c2] at b2
     omega
   refine ⟨c1, ?_, ?_, ?_⟩
   · show s.rest = (q8b (tk (cnt 10 s).1.toNat (cnt 10 s).2).1 :: _).flatMap q1y ++ _
     rw [List.flatMap_cons, List.append_assoc, q1y, hl, qf8 u2.2]
     show s.rest = _ ++ ((q3i k (tk (cnt 10 s).1.toNat (cnt 10 s).2).2).1.flatMap q1y ++ (q3i k (tk (cnt 10 s).1.toNat (cnt 10 s).2).2).2.rest)
     rw [← a2, List.append_assoc, b3, c2]
     show s.rest = sev (num s).1.toNat ++ (((num s).2.rest.take _) ++ ((num s).2.rest.drop _))
     rw [List.take_append_drop]
     exact d2
   · show (_ :: _).length = _
     rw [List.length_cons, a3]
   · intro x hx
     rcases List.mem_cons.1 hx with rfl | hx
     · rw [hl]; omega
     · exact a4 x hx

theorem qyz {bs : List Int} (hu : U8 bs) (h : (qb6 bs).code = 0) : bs = q4w (q1a bs).1 (q1i bs).1 (q0v bs).1 ∧ qi5 (q1a bs).1 (q1i bs).1 (q0v bs).1 ∧ (q0v bs).2 = ⟨[], 0⟩ := by
 have hz : (q0v bs).2.code = 0 ∧ (q0v bs).2.rest = [] := by
   unfold qb6 at h
   split at h
   · exact absurd h (q4d (by decide) _)
   · rename_i h1
     exact ⟨h, List.eq_nil_of_length_eq_zero (by omega)⟩
 have u0 : U8 (Rs.mk bs 0).rest := hu
 have s0 : q8a (Rs.mk bs 0) := fun h => absurd rfl h
 have u1 := qeh (m := 16) u0
 have s1 := qd7 (m := 16) s0
 have u2 : U8 (q1a bs).2.rest := qgm _ _ u1
 have u3 : U8 (q1i bs).2.rest := q6p u2
 have u4 := qeh (m := 10000) u3
 obtain ⟨a1, a2, a3, a4⟩ := qm2 _ true 0 _ u4 (Int.le_refl _) hz.1
 obtain ⟨b1, b2, b3⟩ := qfz a1
 have z3 : (num (q1i bs).2).2.code = 0 := by rw [← b2]; exact a1
 obtain ⟨c1, c2, c3, c4⟩ := qjd u3 z3
 obtain ⟨d1, d2, d3, d4⟩ := qjd u2 b1
 obtain ⟨e1, e2, e3, e4⟩ := qqg _ _ u1 s1 d1
 obtain ⟨f1, f2, f3⟩ := qfz e1
 have z1 : (num (Rs.mk bs 0)).2.code = 0 := by rw [← f2]; exact e1
 obtain ⟨g1, g2, g3, g4⟩ := qjd u0 z1
 have l1 : (q1a bs).1.length = (num (Rs.mk bs 0)).1.toNat := by rw [← f2]; exact e3
 have l2 : (q0v bs).1.length = (num (q1i bs).2).1.toNat := by rw [← b2]; exact a4
 refine ⟨?_, ⟨by omega, e4, d3, d4, by omega, a3⟩, ?_⟩
 · unfold q4w q4z
   rw [l1, l2, List.append_assoc]
   have a2' : (num (q1i bs).2).2.rest = q3p 0 (q0v bs).1 ++ (q0v bs).2.rest := (congrArg (fun x => x.2.rest) b2).symm.trans a2
   rw [hz.2, List.append_nil] at a2'
   rw [← a2', ← c2]
   have d2' : (q1a bs).2.rest = sev (q1i bs).1.toNat ++ (q1i bs).2.rest := d2
   rw [← d2']
   have e2' : (num (Rs.mk bs 0)).2.rest = (q1a bs).1.flatMap q1y ++ (q1a bs).2.rest := (congrArg (fun x => x.2.rest) f2).symm.trans e2
   rw [← e2']
   exact g2
 · rw [← hz.1, ← hz.2]

end
section
open Plain

def q7b (p : Int × Int) (b : Int) : Int × Int := ((p.1 + b) % 65521, (p.2 + (p.1 + b) % 65521) % 65521)
def q8p (bs : List Int) : Int × Int := bs.foldl q7b (1, 0)
def qnt (p : Int × Int) : List Int := [p.2 / 256, p.2 % 256, p.1 / 256, p.1 % 256]
def q4r (bs : List Int) : List Int := qnt (q8p bs)

def sumI : List Int → Int
 | [] => 0
 | b :: r => b + sumI r

theorem qfp : ∀ (bs : List Int) (p : Int × Int), (bs.foldl q7b p).1 % 65521 = (p.1 + sumI bs) % 65521
 | [], p => by simp [sumI]
 | b :: r, p => by
   rw [List.foldl_cons, qfp r]
   show ((p.1 + b) % 65521 + sumI r) % 65521 = (p.1 + (b + sumI r)) % 65521
   omega

theorem ql2 : ∀ (bs : List Int) (p : Int × Int), 0 ≤ p.1 → p.1 < 65521 → 0 ≤ p.2 → p.2 < 65521 → 0 ≤ (bs.foldl q7b p).1 ∧ (bs.foldl q7b p).1 < 65521 ∧ 0 ≤ (bs.foldl q7b p).2 ∧ (bs.foldl q7b p).2 < 65521
 | [], _, h1, h2, h3, h4 => ⟨h1, h2, h3, h4⟩
 | b :: r, p, _, _, _, _ => by
   rw [List.foldl_cons]
   exact ql2 r (q7b p b) (show 0 ≤ (p.1 + b) % 65521 by omega) (show (p.1 + b) % 65521 < 65521 by omega) (show 0 ≤ (p.2 + (p.1 + b) % 65521) % 65521 by omega) (show (p.2 + (p.1 + b) % 65521) % 65521 < 65521 by omega)

theorem qa2 (bs : List Int) : 0 ≤ (q8p bs).1 ∧ (q8p bs).1 < 65521 ∧ 0 ≤ (q8p bs).2 ∧ (q8p bs).2 < 65521 := ql2 bs (1, 0) (by decide) (by decide) (by decide) (by decide)

theorem ql5 (bs : List Int) : U8 (q4r bs) := by
 obtain ⟨h1, h2, h3, h4⟩ := qa2 bs
 intro b hb
 simp only [q4r, qnt, List.mem_cons, List.not_mem_nil, or_false] at hb
 rcases hb with rfl | rfl | rfl | rfl <;> omega

theorem qr7 (bs : List Int) : (q4r bs).length = 4 := rfl

theorem qsb {a b : List Int} (h : q4r a = q4r b) : (sumI a - sumI b) % 65521 = 0 := by
 have h1 := qa2 a
 have h2 := qa2 b
 simp only [q4r, qnt, List.cons.injEq, and_true] at h
 have e : (q8p a).1 = (q8p b).1 := by omega
 have k1 := qfp a (1, 0)
 have k2 := qfp b (1, 0)
 have e' : (a.foldl q7b (1, 0)).1 = (b.foldl q7b (1, 0)).1 := e
 rw [e'] at k1
 simp only at k1 k2
 omega

theorem qm8 : ∀ (l : List Int) (k : Nat) (v u : Int), l[k]? = some u → sumI (l.set k v) = sumI l + (v - u)
 | [], _, _, _, h => by simp at h
 | b :: r, 0, v, u, h => by
   obtain rfl : b = u := by simpa using h
   show v + sumI r = b + sumI r + (v - b)
   omega
 | b :: r, k + 1, v, u, h => by
   have := qm8 r k v u (by simpa using h)
   show b + sumI (r.set k v) = b + sumI r + (v - u)
   omega

def mark : List Int := [119, 110]
def encH (ss : List ByteArray) (f : Int) (l : List En) : List Int := mark ++ q4w ss f l
def encB (ss : List ByteArray) (f : Int) (l : List En) : List Int := encH ss f l ++ q4r (encH ss f l)

def qdv (b : List Int) : List Int := b.take (b.length - 4)
def q1g (b : List Int) : List Int := (qdv b).drop 2
def q3l (b : List Int) : Int := if 200000 < b.length then 1 else if b.length < 6 then 5 else if b.take 2 = mark then (if q4r (qdv b) = b.drop (b.length - 4) then 0 else 9) else 4
def decC (b : List Int) : Int := if q3l b = 0 then (qb6 (q1g b)).code else q3l b

theorem qek {b : List Int} (h : q3l b = 0) : b.length ≤ 200000 ∧ 6 ≤ b.length ∧ b.take 2 = mark ∧ q4r (qdv b) = b.drop (b.length - 4) := by
 unfold q3l at h
 split at h
 · cases h
 · split at h
   · cases h
   · split at h
     · split at h
       · rename_i h1 h2 h3 h4
         exact ⟨by omega, by omega, h3, h4⟩
       · cases h
     · cases h

theorem qcf (a b : List Int) (hb : b.length = 4) : qdv (a ++ b) = a ∧ (a ++ b).drop ((a ++ b).length - 4) = b := by
 have e : (a ++ b).length - 4 = a.length := by rw [List.length_append]; omega
 constructor
 · unfold qdv
   rw [e, List.take_left]
 · rw [e, List.drop_left]

theorem qfk (ss : List ByteArray) (f : Int) (l : List En) : (encB ss f l).length = (q4w ss f l).length + 6 := by
 unfold encB encH
 simp [mark, q4r, qnt]

theorem qsm {ss : List ByteArray} {f : Int} {l : List En} (h : (encB ss f l).length ≤ 200000) : q3l (encB ss f l) = 0 ∧ q1g (encB ss f l) = q4w ss f l := by
 obtain ⟨h1, h2⟩ := qcf (encH ss f l) (q4r (encH ss f l)) rfl
 have hl := qfk ss f l
 constructor
 · unfold q3l
   rw [if_neg (by omega), if_neg (by omega), if_pos (by unfold encB encH; rfl), if_pos]
   unfold encB
   rw [h1, h2]
 · unfold q1g encB
   rw [h1]
   rfl

theorem qwb {ss : List ByteArray} {f : Int} {l : List En} (h : qi5 ss f l) (hl : (encB ss f l).length ≤ 200000) : decC (encB ss f l) = 0 ∧ (q1a (q1g (encB ss f l))).1 = ss ∧ (q1i (q1g (encB ss f l))).1 = f ∧ (q0v (q1g (encB ss f l))).1 = l := by
 obtain ⟨h1, h2⟩ := qsm hl
 obtain ⟨a1, a2, a3⟩ := qgl h []
 rw [List.append_nil] at a1 a2 a3
 unfold decC
 rw [if_pos h1, h2]
 refine ⟨?_, a1, a2, by rw [a3]⟩
 unfold qb6
 rw [a3]
 rfl

theorem qt6 {ss : List ByteArray} {f : Int} {l : List En} (h : qi5 ss f l) (v : Int) : decC (encB ss f l ++ [v]) ≠ 0 := by
 intro hd
 by_cases hs : q3l (encB ss f l ++ [v]) = 0
 · unfold decC at hd
   rw [if_pos hs] at hd
   have e : encB ss f l ++ [v] = (encH ss f l ++ [(q8p (encH ss f l)).2 / 256]) ++ [(q8p (encH ss f l)).2 % 256, (q8p (encH ss f l)).1 / 256, (q8p (encH ss f l)).1 % 256, v] := by
     unfold encB q4r qnt
     simp
   have hh := (qcf (encH ss f l ++ [(q8p (encH ss f l)).2 / 256]) [(q8p (encH ss f l)).2 % 256, (q8p (encH ss f l)).1 / 256, (q8p (encH ss f l)).1 % 256, v] rfl).1
   rw [← e] at hh
   have hb : q1g (encB ss f l ++ [v]) = q4w ss f l ++ [(q8p (encH ss f l)).2 / 256] := by
     unfold q1g
     rw [hh]
     rfl
   obtain ⟨_, _, a3⟩ := qgl h [(q8p (encH ss f l)).2 / 256]
   unfold qb6 at hd
   rw [hb, a3, if_pos (by simp)] at hd
   exact q4d (by decide) _ hd
 · unfold decC at hd
   rw [if_neg hs] at hd
   exact hs hd

theorem qu2 {ss : List ByteArray} {f : Int} {l : List En} {k : Nat} {v u : Int} (hk : (encB ss f l)[k]? = some u) (h0 : 0 ≤ v) (h1 : v ≤ 255) (hu : 0 ≤ u ∧ u ≤ 255) (hne : v ≠ u) : decC ((encB ss f l).set k v) ≠ 0 := by
 intro hd
 have hs : q3l ((encB ss f l).set k v) = 0 := by
   unfold decC at hd
   split at hd
   · assumption
   · exact hd
 obtain ⟨_, _, _, h4⟩ := qek hs
 have hl := qfk ss f l
 have hH : (encH ss f l).length = (encB ss f l).length - 4 := by
   rw [hl]
   unfold encH
   simp [mark]
 by_cases hkk : k < (encH ss f l).length
 · have e : (encB ss f l).set k v = (encH ss f l).set k v ++ q4r (encH ss f l) := by
     unfold encB
     rw [List.set_append_left _ _ hkk]
   obtain ⟨e1, e2⟩ := qcf ((encH ss f l).set k v) (q4r (encH ss f l)) rfl
   rw [e, e1, e2] at h4
   have hg : (encH ss f l)[k]? = some u := by
     rw [← hk]
     unfold encB
     rw [List.getElem?_append_left hkk]
   have hsum := qsb h4
   rw [qm8 _ _ _ _ hg] at hsum
   omega
 · have e : (encB ss f l).set k v = encH ss f l ++ (q4r (encH ss f l)).set (k - (encH ss f l).length) v := by
     unfold encB
     rw [List.set_append_right _ _ (by omega)]
   obtain ⟨e1, e2⟩ := qcf (encH ss f l) ((q4r (encH ss f l)).set (k - (encH ss f l).length) v) (by rw [List.length_set]; rfl)
   rw [e, e1, e2] at h4
   have hg : (q4r (encH ss f l))[k - (encH ss f l).length]? = some u := by
     rw [← hk]
     unfold encB
     rw [List.getElem?_append_right (by omega)]
   have hk4 := (List.getElem?_eq_some_iff.1 hg).1
   have g : (q4r (encH ss f l))[k - (encH ss f l).length]? = some v := by
     conv => lhs; rw [h4]
     rw [List.getElem?_set_self hk4]
   rw [hg] at g
   exact hne (Option.some.inj g).symm

theorem qcu {l : List Int} (h : U8 l) (n : Nat) : U8 (l.take n) := fun b hb => h b (List.mem_of_mem_take hb)
theorem qfd {l : List Int} (h : U8 l) (n : Nat) : U8 (l.drop n) := fun b hb => h b (List.mem_of_mem_drop hb)

theorem qu6 {b : List Int} (hu : U8 b) (h : decC b = 0) : b = encB (q1a (q1g b)).1 (q1i (q1g b)).1 (q0v (q1g b)).1 ∧ qi5 (q1a (q1g b)).1 (q1i (q1g b)).1 (q0v (q1g b)).1 := by
 have hs : q3l b = 0 := by
   unfold decC at h
   split at h
   · assumption
   · exact h
 have hr : (qb6 (q1g b)).code = 0 := by
   unfold decC at h
   rwa [if_pos hs] at h
 obtain ⟨h1, h2, h3, h4⟩ := qek hs
 have hub : U8 (q1g b) := qfd (qcu hu _) 2
 obtain ⟨k1, k2, _⟩ := qyz hub hr
 refine ⟨?_, k2⟩
 have e1 : qdv b = mark ++ q1g b := by
   unfold q1g qdv
   conv => lhs; rw [← List.take_append_drop 2 (b.take (b.length - 4))]
   congr 1
   rw [List.take_take, Nat.min_eq_left (by omega), h3]
 have e2 : encH (q1a (q1g b)).1 (q1i (q1g b)).1 (q0v (q1g b)).1 = qdv b := by
   unfold encH
   rw [← k1, e1]
 unfold encB
 rw [e2, h4]
 exact (List.take_append_drop _ _).symm

theorem q6j {a b : List Int} (ha : U8 a) (hb : U8 b) : U8 (a ++ b) := fun x hx => by
 rcases List.mem_append.1 hx with h | h
 · exact ha x h
 · exact hb x h

theorem qm5 : ∀ (ahead : Int) (l : List En), U8 (q3p ahead l)
 | _, [] => fun x hx => by simp [q3p] at hx
 | ahead, x :: r => q6j (q6j (q9h _) (q6j (q9h _) (q6j (q9h _) (q6j (q9h _) (q6j (q9h _) (q9h _)))))) (qm5 x.key r)

theorem qmg : ∀ (ss : List ByteArray), U8 (ss.flatMap q1y)
 | [] => fun x hx => by simp at hx
 | s :: r => by
   rw [List.flatMap_cons]
   exact q6j (q6j (q9h _) (qsu s)) (qmg r)

theorem qw0 (ss : List ByteArray) (f : Int) (l : List En) : U8 (encH ss f l) :=
 q6j (fun x hx => by simp only [mark, List.mem_cons, List.not_mem_nil, or_false] at hx; omega) (q6j (q6j (q9h _) (qmg ss)) (q6j (q9h _) (q6j (q9h _) (qm5 0 l))))

theorem qcx (ss : List ByteArray) (f : Int) (l : List En) : U8 (encB ss f l) := q6j (qw0 ss f l) (ql5 _)

end
end Go.Proofs.YtlojfgdpmaigmafGreatDoor

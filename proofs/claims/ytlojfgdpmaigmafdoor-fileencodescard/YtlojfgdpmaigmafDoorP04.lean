/- A base as bytes, in plain terms: what is told, and what is read. -/
import Derived.Test.YtlojfgdpmaigmafDoorP01
import Derived.Test.YtlojfgdpmaigmafDoorP03
import Derived.Test.YtlojfgdpmaigmafDoorRows
import Derived.WalkKit
import Derived.WalkSpells
import Derived.WalkLawsBesides
import Derived.Deep.Light
namespace Go.Proofs.YtlojfgdpmaigmafDoor
open Plain

/-- The bytes of a name, and the name of bytes. -/
def ofStr (s : ByteArray) : List Int := s.data.toList.map fun b => (b.toNat : Int)
def toStr (l : List Int) : ByteArray := ⟨(l.map fun b => UInt8.ofNat b.toNat).toArray⟩

theorem ofStr_len (s : ByteArray) : (ofStr s).length = s.size := by
  unfold ofStr
  rw [List.length_map, Array.length_toList]
  rfl
theorem toStr_size (l : List Int) : (toStr l).size = l.length := by
  unfold toStr
  show Array.size _ = _
  rw [List.size_toArray, List.length_map]
theorem ofStr_u8 (s : ByteArray) : U8 (ofStr s) := fun b hb => by
  obtain ⟨x, _, rfl⟩ := List.mem_map.1 hb
  have := x.toNat_lt
  omega

/-! ### Once something is wrong -/

end Go.Proofs.YtlojfgdpmaigmafDoor

/- What the functions of package roll, and of the document's answer to it, do: a contract each. -/
namespace Go.Proofs.YtlojfgdpmaigmafDoor
open Go.RowKit Plain

set_option maxHeartbeats 400000 in
theorem within_any (n lo hi : Int) (w : World) :
    Calls Tryd.prog 77 #[.int .i64 n, .int .i64 lo, .int .i64 hi] w fun e w' => e = .returned (.bool (inB n lo hi)) ∧ w' = w := by
  by_cases h1 : lo ≤ n <;> by_cases h2 : n ≤ hi <;>
  · go_enter Tryd.func77, Tryd.ntmps77
    go_wp2
    go_ret
    exact ⟨by simp [inB, h1, h2], rfl⟩

set_option maxHeartbeats 400000 in
theorem in_any (n lo hi : Int) (w : World) :
    Calls Tryd.prog 26 #[.int .i64 n, .int .i64 lo, .int .i64 hi] w fun e w' => e = .returned (.bool (inB n lo hi)) ∧ w' = w := by
  by_cases h1 : lo ≤ n <;> by_cases h2 : n ≤ hi <;>
  · go_enter Tryd.func26, Tryd.ntmps26
    go_wp2
    go_ret
    exact ⟨by simp [inB, h1, h2], rfl⟩

set_option maxHeartbeats 400000 in
theorem count_any (n : Int) (w : World) :
    Calls Tryd.prog 59 #[.int .i64 n] w fun e w' => e = .returned (.bool (inB n (0) 1073741824)) ∧ w' = w := by
  go_enter Tryd.func59, Tryd.ntmps59
  go_wp2_with (go_at_call 77; refine (within_any _ _ _ _).mono ?_; rintro e w' ⟨rfl, rfl⟩)
  go_ret
  exact ⟨rfl, rfl⟩

set_option maxHeartbeats 400000 in
theorem sum_any (n : Int) (w : World) :
    Calls Tryd.prog 60 #[.int .i64 n] w fun e w' => e = .returned (.bool (inB n (-1125899906842624) 1125899906842624)) ∧ w' = w := by
  go_enter Tryd.func60, Tryd.ntmps60
  go_wp2_with (go_at_call 77; refine (within_any _ _ _ _).mono ?_; rintro e w' ⟨rfl, rfl⟩)
  go_ret
  exact ⟨rfl, rfl⟩

set_option maxHeartbeats 400000 in
theorem time_any (n : Int) (w : World) :
    Calls Tryd.prog 80 #[.int .i64 n] w fun e w' => e = .returned (.bool (inB n (0) 1048575)) ∧ w' = w := by
  go_enter Tryd.func80, Tryd.ntmps80
  go_wp2_with (go_at_call 77; refine (within_any _ _ _ _).mono ?_; rintro e w' ⟨rfl, rfl⟩)
  go_ret
  exact ⟨rfl, rfl⟩

set_option maxHeartbeats 400000 in
theorem value_any (n : Int) (w : World) :
    Calls Tryd.prog 81 #[.int .i64 n] w fun e w' => e = .returned (.bool (inB n (-1000000) 1000000)) ∧ w' = w := by
  go_enter Tryd.func81, Tryd.ntmps81
  go_wp2_with (go_at_call 77; refine (within_any _ _ _ _).mono ?_; rintro e w' ⟨rfl, rfl⟩)
  go_ret
  exact ⟨rfl, rfl⟩

end Go.Proofs.YtlojfgdpmaigmafDoor

/- What Check of package roll, and the document's answer to it, do. -/
namespace Go.Proofs.YtlojfgdpmaigmafDoor
open Go.RowKit Plain

def boundsB (c s lo hi t l : Int) : Bool := inB c 0 1073741824 && inB s (-1125899906842624) 1125899906842624 && inB t 0 1048575 && inB lo (-1000000) 1000000 && inB hi (-1000000) 1000000 && inB l (-1000000) 1000000

set_option maxHeartbeats 400000 in
theorem inBounds_any (c s lo hi t l : Int) (w : World) :
    Calls Tryd.prog 63 #[.agg #[.int .i64 c, .int .i64 s, .int .i64 lo, .int .i64 hi, .int .i64 t, .int .i64 l]] w fun e w' => e = .returned (.bool (boundsB c s lo hi t l)) ∧ Below w.heap.size w w' := by
  go_enter Tryd.func63, Tryd.ntmps63
  go_wp2_with (first | (go_at_call 59; refine (count_any _ _).mono ?_; rintro e w' ⟨rfl, rfl⟩) | (go_at_call 60; refine (sum_any _ _).mono ?_; rintro e w' ⟨rfl, rfl⟩) | (go_at_call 80; refine (time_any _ _).mono ?_; rintro e w' ⟨rfl, rfl⟩) | (go_at_call 81; refine (value_any _ _).mono ?_; rintro e w' ⟨rfl, rfl⟩))
  all_goals (go_ret; exact ⟨by simp [boundsB, *], (Below.refl _ _).alloc (Nat.le_refl _) _⟩)

end Go.Proofs.YtlojfgdpmaigmafDoor

/- What two rollups held against each other, and inForm of package roll, come to. -/
namespace Go.Proofs.YtlojfgdpmaigmafDoor
open Go.RowKit Plain

def eqR (c s lo hi t l c' s' lo' hi' t' l' : Int) : Bool := c == c' && s == s' && lo == lo' && hi == hi' && t == t' && l == l'

def formB (c s lo hi t l : Int) : Bool := if c = 0 then eqR c s lo hi t l 0 0 0 0 0 0 else inB l lo hi && inB s (wrap64 (c * lo)) (wrap64 (c * hi))


set_option maxHeartbeats 400000 in
theorem inForm_any (c s lo hi t l : Int) (w : World) :
    Calls Tryd.prog 64 #[.agg #[.int .i64 c, .int .i64 s, .int .i64 lo, .int .i64 hi, .int .i64 t, .int .i64 l]] w fun e w' => e = .returned (.bool (formB c s lo hi t l)) ∧ Below w.heap.size w w' := by
  by_cases hc : c = 0
  · subst hc
    go_enter Tryd.func64, Tryd.ntmps64
    go_wp2
    all_goals (go_ret; exact ⟨by simp [formB, eqR, *], (Below.refl _ _).alloc (Nat.le_refl _) _⟩)
  · have h0 : (c == 0) = false := by simpa using hc
    have e0 : formB c s lo hi t l = (inB l lo hi && inB s (wrap64 (c * lo)) (wrap64 (c * hi))) := by simp [formB, hc]
    have E0 : Hid (formB c s lo hi t l = (inB l lo hi && inB s (wrap64 (c * lo)) (wrap64 (c * hi)))) := e0
    clear e0 hc
    by_cases h1 : inB l lo hi = true
    · go_enter Tryd.func64, Tryd.ntmps64
      go_wp2_with (first | (go_at_call 77; refine (within_any _ _ _ _).mono ?_; rintro e w' ⟨rfl, rfl⟩))
      go_ret
      exact ⟨by rw [E0.out, h1]; rfl, (Below.refl _ _).alloc (Nat.le_refl _) _⟩
    · have h1 : inB l lo hi = false := by simpa using h1
      go_enter Tryd.func64, Tryd.ntmps64
      go_wp2_with (first | (go_at_call 77; refine (within_any _ _ _ _).mono ?_; rintro e w' ⟨rfl, rfl⟩))
      go_ret
      exact ⟨by rw [E0.out, h1]; rfl, (Below.refl _ _).alloc (Nat.le_refl _) _⟩

end Go.Proofs.YtlojfgdpmaigmafDoor

/- What Check of package roll, and the document's answer to it, do. -/
namespace Go.Proofs.YtlojfgdpmaigmafDoor
open Go.RowKit Plain

theorem bcell {W w1 : World} (hb : Below W.heap.size W w1) : (∀ b o, b < W.heap.size → w1.cell? ⟨b, o, none⟩ = W.cell? ⟨b, o, none⟩) ∧ (∀ b o, b < W.heap.size → w1.frozen? ⟨b, o, none⟩ = W.frozen? ⟨b, o, none⟩) :=
  ⟨fun b o h => hb.cell (p := ⟨b, o, none⟩) h, fun b o h => hb.frozen (p := ⟨b, o, none⟩) h⟩

theorem ret_int {k : IntKind} {a b : Int} (h : a = b) : Ending.returned (.int k a) = .returned (.int k b) := by rw [h]

def checkC (c s lo hi t l : Int) : Int := if boundsB c s lo hi t l = true then (if formB c s lo hi t l = true then 0 else 4) else 2

set_option maxHeartbeats 400000 in
theorem check_any (c s lo hi t l : Int) (w : World) :
    Calls Tryd.prog 50 #[.agg #[.int .i64 c, .int .i64 s, .int .i64 lo, .int .i64 hi, .int .i64 t, .int .i64 l]] w fun e w' => e = .returned (.int .i64 (checkC c s lo hi t l)) ∧ Below w.heap.size w w' := by
  by_cases h1 : boundsB c s lo hi t l = true
  · by_cases h2 : formB c s lo hi t l = true
    · have E0 : Hid (checkC c s lo hi t l = 0) := by simp [Hid, checkC, h1, h2]
      go_enter Tryd.func50, Tryd.ntmps50
      go_wp2_with (first | (go_at_call 63; refine (inBounds_any _ _ _ _ _ _ _).mono ?_; rintro e w1 ⟨rfl, hb1⟩; obtain ⟨hc1, hf1⟩ := bcell hb1) | (go_at_call 64; refine (inForm_any _ _ _ _ _ _ _).mono ?_; rintro e w2 ⟨rfl, hb2⟩))
      go_ret
      exact ⟨by rw [E0.out]; rfl, (((Below.refl _ _).alloc (Nat.le_refl _) _).trans (hb1.mono (by simp))).trans (hb2.mono (by have := hb1.size; simp at this; omega))⟩
    · have E0 : Hid (checkC c s lo hi t l = 4) := by simp [Hid, checkC, h1, h2]
      have h2 : formB c s lo hi t l = false := by simpa using h2
      go_enter Tryd.func50, Tryd.ntmps50
      go_wp2_with (first | (go_at_call 63; refine (inBounds_any _ _ _ _ _ _ _).mono ?_; rintro e w1 ⟨rfl, hb1⟩; obtain ⟨hc1, hf1⟩ := bcell hb1) | (go_at_call 64; refine (inForm_any _ _ _ _ _ _ _).mono ?_; rintro e w2 ⟨rfl, hb2⟩))
      go_ret
      exact ⟨by rw [E0.out]; rfl, (((Below.refl _ _).alloc (Nat.le_refl _) _).trans (hb1.mono (by simp))).trans (hb2.mono (by have := hb1.size; simp at this; omega))⟩
  · have E0 : Hid (checkC c s lo hi t l = 2) := by simp [Hid, checkC, h1]
    have h1 : boundsB c s lo hi t l = false := by simpa using h1
    go_enter Tryd.func50, Tryd.ntmps50
    go_wp2_with (first | (go_at_call 63; refine (inBounds_any _ _ _ _ _ _ _).mono ?_; rintro e w1 ⟨rfl, hb1⟩))
    go_ret
    exact ⟨by rw [E0.out]; rfl, (((Below.refl _ _).alloc (Nat.le_refl _) _).trans (hb1.mono (by simp)))⟩

set_option maxHeartbeats 1000000 in
theorem fault_any (c s lo hi t l : Int) (w : World) :
    Calls Tryd.prog 78 #[.agg #[.int .i64 c, .int .i64 s, .int .i64 lo, .int .i64 hi, .int .i64 t, .int .i64 l]] w fun e w' => e = .returned (.int .i64 (checkC c s lo hi t l)) ∧ Below w.heap.size w w' := by
  by_cases h0 : c = 0
  · subst h0
    go_enter Tryd.func78, Tryd.ntmps78
    go_wp2_with (first | (go_at_call 26; refine (in_any _ _ _ _).mono ?_; rintro e w' ⟨rfl, rfl⟩))
    all_goals
      go_ret
      refine ⟨ret_int ?_, (Below.refl _ _).alloc (Nat.le_refl _) _⟩
      go_light
      simp_all [checkC, boundsB, formB, eqR]
  · have h0' : (c == 0) = false := by simpa using h0
    have E0 : Hid (¬ c = 0) := h0
    clear h0
    go_enter Tryd.func78, Tryd.ntmps78
    go_wp2_with (first | (go_at_call 26; refine (in_any _ _ _ _).mono ?_; rintro e w' ⟨rfl, rfl⟩))
    all_goals
      go_ret
      refine ⟨ret_int ?_, (Below.refl _ _).alloc (Nat.le_refl _) _⟩
      have E1 := E0.out
      clear E0
      go_light
      simp_all [checkC, boundsB, formB]

end Go.Proofs.YtlojfgdpmaigmafDoor

/- A base as bytes: what is told is read again, and what is read was told so. -/
namespace Go.Proofs.YtlojfgdpmaigmafDoor
open Plain

/-! ### What is told -/

def encName (s : ByteArray) : List Int := sev s.size ++ ofStr s
def encNames (ss : List ByteArray) : List Int := sev ss.length ++ ss.flatMap encName
def zig (n : Int) : List Int := sev (fold2 n).toNat
def encP (ahead : Int) (x : En) : List Int := sev (x.key - ahead).toNat ++ (sev x.c.toNat ++ (zig x.s ++ (zig x.lo ++ (zig x.hi ++ zig x.l))))
def encPs : Int → List En → List Int
  | _, [] => []
  | ahead, x :: r => encP ahead x ++ encPs x.key r
def encBody (ss : List ByteArray) (f : Int) (l : List En) : List Int := encNames ss ++ (sev f.toNat ++ (sev l.length ++ encPs 0 l))

def big (n : Int) : Prop := -36028797018963968 ≤ n ∧ n < 36028797018963968

theorem fold_lt {n : Int} (h : big n) : (fold2 n).toNat < 72057594037927936 := by
  unfold big at h
  have := fold_nn n
  unfold fold2 at *
  split <;> omega

/-! ### What is read was told so -/

end Go.Proofs.YtlojfgdpmaigmafDoor

/- The seal of bytes, and what is told of bytes as a whole: in plain terms. -/
namespace Go.Proofs.YtlojfgdpmaigmafDoor
open Plain

def sealS (p : Int × Int) (b : Int) : Int × Int := ((p.1 + b) % 65521, (p.2 + (p.1 + b) % 65521) % 65521)
def sealF (bs : List Int) : Int × Int := bs.foldl sealS (1, 0)
def fourB (p : Int × Int) : List Int := [p.2 / 256, p.2 % 256, p.1 / 256, p.1 % 256]
def sealP (bs : List Int) : List Int := fourB (sealF bs)

theorem seal_rng : ∀ (bs : List Int) (p : Int × Int), 0 ≤ p.1 → p.1 < 65521 → 0 ≤ p.2 → p.2 < 65521 → 0 ≤ (bs.foldl sealS p).1 ∧ (bs.foldl sealS p).1 < 65521 ∧ 0 ≤ (bs.foldl sealS p).2 ∧ (bs.foldl sealS p).2 < 65521
  | [], _, h1, h2, h3, h4 => ⟨h1, h2, h3, h4⟩
  | b :: r, p, _, _, _, _ => by
    rw [List.foldl_cons]
    exact seal_rng r (sealS p b) (show 0 ≤ (p.1 + b) % 65521 by omega) (show (p.1 + b) % 65521 < 65521 by omega) (show 0 ≤ (p.2 + (p.1 + b) % 65521) % 65521 by omega) (show (p.2 + (p.1 + b) % 65521) % 65521 < 65521 by omega)

theorem sealF_rng (bs : List Int) : 0 ≤ (sealF bs).1 ∧ (sealF bs).1 < 65521 ∧ 0 ≤ (sealF bs).2 ∧ (sealF bs).2 < 65521 := seal_rng bs (1, 0) (by decide) (by decide) (by decide) (by decide)

theorem sealP_u8 (bs : List Int) : U8 (sealP bs) := by
  obtain ⟨h1, h2, h3, h4⟩ := sealF_rng bs
  intro b hb
  simp only [sealP, fourB, List.mem_cons, List.not_mem_nil, or_false] at hb
  rcases hb with rfl | rfl | rfl | rfl <;> omega

theorem sealP_len (bs : List Int) : (sealP bs).length = 4 := rfl

/-! ### The whole -/

def mark : List Int := [119, 110]
def encH (ss : List ByteArray) (f : Int) (l : List En) : List Int := mark ++ encBody ss f l
def encB (ss : List ByteArray) (f : Int) (l : List En) : List Int := encH ss f l ++ sealP (encH ss f l)

theorem app_u8 {a b : List Int} (ha : U8 a) (hb : U8 b) : U8 (a ++ b) := fun x hx => by
  rcases List.mem_append.1 hx with h | h
  · exact ha x h
  · exact hb x h

theorem encPs_u8 : ∀ (ahead : Int) (l : List En), U8 (encPs ahead l)
  | _, [] => fun x hx => by simp [encPs] at hx
  | ahead, x :: r => app_u8 (app_u8 (sev_u8 _) (app_u8 (sev_u8 _) (app_u8 (sev_u8 _) (app_u8 (sev_u8 _) (app_u8 (sev_u8 _) (sev_u8 _)))))) (encPs_u8 x.key r)

theorem names_u8 : ∀ (ss : List ByteArray), U8 (ss.flatMap encName)
  | [] => fun x hx => by simp at hx
  | s :: r => by
    rw [List.flatMap_cons]
    exact app_u8 (app_u8 (sev_u8 _) (ofStr_u8 s)) (names_u8 r)

theorem encH_u8 (ss : List ByteArray) (f : Int) (l : List En) : U8 (encH ss f l) :=
  app_u8 (fun x hx => by simp only [mark, List.mem_cons, List.not_mem_nil, or_false] at hx; omega) (app_u8 (app_u8 (sev_u8 _) (names_u8 ss)) (app_u8 (sev_u8 _) (app_u8 (sev_u8 _) (encPs_u8 0 l))))

theorem encB_u8 (ss : List ByteArray) (f : Int) (l : List En) : U8 (encB ss f l) := app_u8 (encH_u8 ss f l) (sealP_u8 _)

end Go.Proofs.YtlojfgdpmaigmafDoor

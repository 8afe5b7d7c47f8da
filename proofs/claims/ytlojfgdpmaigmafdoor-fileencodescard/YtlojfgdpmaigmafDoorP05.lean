/- A base as bytes, in plain terms: what is told, and what is read. -/
import Derived.Test.YtlojfgdpmaigmafDoorNumPure
import Derived.Test.YtlojfgdpmaigmafDoorP04
namespace Go.Proofs.YtlojfgdpmaigmafDoor
open Plain

/-- The bytes of a name, and the name of bytes. -/
def ofStr (s : ByteArray) : List Int := s.data.toList.map fun b => (b.toNat : Int)
def toStr (l : List Int) : ByteArray := ⟨(l.map fun b => UInt8.ofNat b.toNat).toArray⟩

theorem ofStr_len (s : ByteArray) : (ofStr s).length = s.size := by
  unfold ofStr
  rw [List.length_map, Array.length_toList]
  rfl
theorem toStr_size (l : List Int) : (toStr l).size = l.length := by
  unfold toStr
  show Array.size _ = _
  rw [List.size_toArray, List.length_map]
theorem ofStr_u8 (s : ByteArray) : U8 (ofStr s) := fun b hb => by
  obtain ⟨x, _, rfl⟩ := List.mem_map.1 hb
  have := x.toNat_lt
  omega

/-! ### Once something is wrong -/

end Go.Proofs.YtlojfgdpmaigmafDoor

/- A base as bytes: what is told is read again, and what is read was told so. -/
namespace Go.Proofs.YtlojfgdpmaigmafDoor
open Plain

/-! ### What is told -/

def encName (s : ByteArray) : List Int := sev s.size ++ ofStr s
def encNames (ss : List ByteArray) : List Int := sev ss.length ++ ss.flatMap encName
def zig (n : Int) : List Int := sev (fold2 n).toNat
def encP (ahead : Int) (x : En) : List Int := sev (x.key - ahead).toNat ++ (sev x.c.toNat ++ (zig x.s ++ (zig x.lo ++ (zig x.hi ++ zig x.l))))
def encPs : Int → List En → List Int
  | _, [] => []
  | ahead, x :: r => encP ahead x ++ encPs x.key r
def encBody (ss : List ByteArray) (f : Int) (l : List En) : List Int := encNames ss ++ (sev f.toNat ++ (sev l.length ++ encPs 0 l))

def big (n : Int) : Prop := -36028797018963968 ≤ n ∧ n < 36028797018963968

theorem fold_lt {n : Int} (h : big n) : (fold2 n).toNat < 72057594037927936 := by
  unfold big at h
  have := fold_nn n
  unfold fold2 at *
  split <;> omega

/-! ### What is read was told so -/

end Go.Proofs.YtlojfgdpmaigmafDoor

/- The seal of bytes, and what is told of bytes as a whole: in plain terms. -/
namespace Go.Proofs.YtlojfgdpmaigmafDoor
open Plain

def sealS (p : Int × Int) (b : Int) : Int × Int := ((p.1 + b) % 65521, (p.2 + (p.1 + b) % 65521) % 65521)
def sealF (bs : List Int) : Int × Int := bs.foldl sealS (1, 0)
def fourB (p : Int × Int) : List Int := [p.2 / 256, p.2 % 256, p.1 / 256, p.1 % 256]
def sealP (bs : List Int) : List Int := fourB (sealF bs)

theorem seal_rng : ∀ (bs : List Int) (p : Int × Int), 0 ≤ p.1 → p.1 < 65521 → 0 ≤ p.2 → p.2 < 65521 → 0 ≤ (bs.foldl sealS p).1 ∧ (bs.foldl sealS p).1 < 65521 ∧ 0 ≤ (bs.foldl sealS p).2 ∧ (bs.foldl sealS p).2 < 65521
  | [], _, h1, h2, h3, h4 => ⟨h1, h2, h3, h4⟩
  | b :: r, p, _, _, _, _ => by
    rw [List.foldl_cons]
    exact seal_rng r (sealS p b) (show 0 ≤ (p.1 + b) % 65521 by omega) (show (p.1 + b) % 65521 < 65521 by omega) (show 0 ≤ (p.2 + (p.1 + b) % 65521) % 65521 by omega) (show (p.2 + (p.1 + b) % 65521) % 65521 < 65521 by omega)

theorem sealF_rng (bs : List Int) : 0 ≤ (sealF bs).1 ∧ (sealF bs).1 < 65521 ∧ 0 ≤ (sealF bs).2 ∧ (sealF bs).2 < 65521 := seal_rng bs (1, 0) (by decide) (by decide) (by decide) (by decide)

theorem sealP_u8 (bs : List Int) : U8 (sealP bs) := by
  obtain ⟨h1, h2, h3, h4⟩ := sealF_rng bs
  intro b hb
  simp only [sealP, fourB, List.mem_cons, List.not_mem_nil, or_false] at hb
  rcases hb with rfl | rfl | rfl | rfl <;> omega

theorem sealP_len (bs : List Int) : (sealP bs).length = 4 := rfl

/-! ### The whole -/

def mark : List Int := [119, 110]
def encH (ss : List ByteArray) (f : Int) (l : List En) : List Int := mark ++ encBody ss f l
def encB (ss : List ByteArray) (f : Int) (l : List En) : List Int := encH ss f l ++ sealP (encH ss f l)

theorem app_u8 {a b : List Int} (ha : U8 a) (hb : U8 b) : U8 (a ++ b) := fun x hx => by
  rcases List.mem_append.1 hx with h | h
  · exact ha x h
  · exact hb x h

theorem encPs_u8 : ∀ (ahead : Int) (l : List En), U8 (encPs ahead l)
  | _, [] => fun x hx => by simp [encPs] at hx
  | ahead, x :: r => app_u8 (app_u8 (sev_u8 _) (app_u8 (sev_u8 _) (app_u8 (sev_u8 _) (app_u8 (sev_u8 _) (app_u8 (sev_u8 _) (sev_u8 _)))))) (encPs_u8 x.key r)

theorem names_u8 : ∀ (ss : List ByteArray), U8 (ss.flatMap encName)
  | [] => fun x hx => by simp at hx
  | s :: r => by
    rw [List.flatMap_cons]
    exact app_u8 (app_u8 (sev_u8 _) (ofStr_u8 s)) (names_u8 r)

theorem encH_u8 (ss : List ByteArray) (f : Int) (l : List En) : U8 (encH ss f l) :=
  app_u8 (fun x hx => by simp only [mark, List.mem_cons, List.not_mem_nil, or_false] at hx; omega) (app_u8 (app_u8 (sev_u8 _) (names_u8 ss)) (app_u8 (sev_u8 _) (app_u8 (sev_u8 _) (encPs_u8 0 l))))

theorem encB_u8 (ss : List ByteArray) (f : Int) (l : List En) : U8 (encB ss f l) := app_u8 (encH_u8 ss f l) (sealP_u8 _)

end Go.Proofs.YtlojfgdpmaigmafDoor

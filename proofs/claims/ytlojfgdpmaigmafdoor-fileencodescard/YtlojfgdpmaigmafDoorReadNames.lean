/- A reader's names: their walk. -/
import Derived.Test.YtlojfgdpmaigmafDoorP13
import Derived.Test.YtlojfgdpmaigmafDoorP14
import Derived.Test.YtlojfgdpmaigmafDoorBaseCopyWalk
import Derived.Laws.IdiomStrings
import Derived.Laws.BytesArg
namespace Go.Proofs.YtlojfgdpmaigmafDoor
open Go.RowKit Plain

theorem str_of_bytes {B C : Nat} {w : World} {A : Option Addr} {l : List Int} (h : BytesAt B w A C l) (hu : U8 l) : (convert 29 9 (.slice A l.length C)).run Tryd.prog w = .ok (.string (toStr l)) w := by
  obtain ⟨h1, h2, h3⟩ := h
  rcases h3 with ⟨rfl, rfl⟩ | ⟨b, o, rfl, hb, hc⟩
  · obtain rfl : l = [] := List.eq_nil_of_length_eq_zero (by omega)
    exact run_convert_bytes_nil (P := Tryd.prog) w _ _ Tryd.underlying29 (by kernel_rfl) _ _ _ (by kernel_rfl)
  · have k := run_convert_bytes_back (P := Tryd.prog) w 29 9 5 ⟨b, o, none⟩ C (l.map fun b => UInt8.ofNat b.toNat) Tryd.underlying29 (by kernel_rfl) (by kernel_rfl) (fun j hj => by
      have hj' : j < l.length := by simpa using hj
      rw [Addr.add_lit]
      rw [hc j (.int .u8 l[j]) (by simp [u8s, List.getElem?_eq_getElem hj'])]
      obtain ⟨g0, g1⟩ := hu _ (List.getElem_mem hj')
      have hm : l[j].toNat % 256 = l[j].toNat := Nat.mod_eq_of_lt (by omega)
      simp [hm]
      omega)
    rw [List.length_map] at k
    exact k

end Go.Proofs.YtlojfgdpmaigmafDoor

/- What goes down a tree: lists of entries that tell the same; a list with an entry more. In plain terms. -/
import Derived.Test.YtlojfgdpmaigmafGreatDoorP37
import Derived.Test.YtlojfgdpmaigmafGreatDoorP23
import Derived.Test.YtlojfgdpmaigmafGreatDoorP31
import Derived.Test.YtlojfgdpmaigmafGreatDoorP16
import Derived.Test.YtlojfgdpmaigmafGreatDoorP33
import Derived.Test.YtlojfgdpmaigmafGreatDoorP35
namespace Go.Proofs.YtlojfgdpmaigmafGreatDoor
open Go.RowKit Plain

end Go.Proofs.YtlojfgdpmaigmafGreatDoor

/- What goes down a tree: the node's kids, what is below. In plain terms. -/
namespace Go.Proofs.YtlojfgdpmaigmafGreatDoor
open Go.RowKit Plain

def cP (ns : List Nd) (P : List Int) : List En := P.flatMap fun n => cont (nth ns n)

theorem cP_append (ns : List Nd) (P Q : List Int) : cP ns (P ++ Q) = cP ns P ++ cP ns Q := by simp [cP]
theorem cP_cons (ns : List Nd) (n : Int) (Q : List Int) : cP ns (n :: Q) = cont (nth ns n) ++ cP ns Q := by simp [cP]
theorem cP_congr {ns ns' : List Nd} : ∀ {P : List Int}, (∀ n ∈ P, nth ns' n = nth ns n) → cP ns' P = cP ns P
  | [], _ => rfl
  | n :: Q, h => by rw [cP_cons, cP_cons, h n List.mem_cons_self, cP_congr fun m hm => h m (List.mem_cons_of_mem _ hm)]

/-! ### Which kid -/

theorem keys_rise {g : Rel} (hg : ∀ d lo hi Q, g d lo hi Q → lo < hi) {hi : Int} : ∀ {kids keys : List Int} {lo : Int} {Q : List Int}, keys.length + 1 = kids.length → SubK g lo (ups kids keys hi) Q → keys.Pairwise (· < ·) ∧ (∀ k ∈ keys, lo < k ∧ k < hi) ∧ lo < hi
  | [], _, _, _, h, _ => by simp at h
  | [d], keys, lo, Q, h, hs => by
    obtain rfl : keys = [] := List.eq_nil_of_length_eq_zero (by simpa using h)
    obtain ⟨Q1, Q2, rfl, h1, h2⟩ := hs
    exact ⟨List.Pairwise.nil, by simp, hg _ _ _ _ h1⟩
  | d :: e :: ds, [], lo, Q, h, _ => by simp at h
  | d :: e :: ds, k :: ks, lo, Q, h, hs => by
    obtain ⟨Q1, Q2, rfl, h1, h2⟩ := hs
    obtain ⟨a, b, c⟩ := keys_rise hg (kids := e :: ds) (keys := ks) (by simpa using h) h2
    have hlt := hg _ _ _ _ h1
    refine ⟨List.pairwise_cons.2 ⟨fun z hz => (b z hz).1, a⟩, fun z hz => ?_, by omega⟩
    rcases List.mem_cons.1 hz with rfl | hz
    · omega
    · have := b z hz; omega

/-- What a node and all below it know: entries of its keys, that may be. -/
theorem Sub_cont {T m : Nat} {ns : List Nd} : ∀ (h : Nat) (p lo hi : Int) (P : List Int), Sub T m ns h p lo hi P → ∀ y ∈ cP ns P, (lo ≤ y.key ∧ y.key < hi) ∧ Good y.ru
  | 0, p, lo, hi, P, hs, y, hy => by
    obtain ⟨_, rfl, hl⟩ := hs
    have hy' : y ∈ (nth ns p).ents := by simpa [cP, cont, hl.buf] using hy
    exact ⟨(entsB_lt hl.ents).1 y hy', entsB_good hl.ents y hy'⟩
  | h + 1, p, lo, hi, P, hs, y, hy => by
    obtain ⟨_, Q, rfl, hin⟩ := hs
    rw [cP_cons] at hy
    rcases List.mem_append.1 hy with hy | hy
    · have hy' : y ∈ (nth ns p).buf := by simpa [cont, hin.ents] using hy
      exact ⟨(entsB_lt hin.buf).1 y hy', entsB_good hin.buf y hy'⟩
    · have ih := Sub_cont (T := T) (m := m) (ns := ns) h
      have : ∀ (kids keys : List Int) (lo' : Int) (Q : List Int), keys.length + 1 = kids.length → SubK (Sub T m ns h) lo' (ups kids keys hi) Q → ∀ y ∈ cP ns Q, (lo' ≤ y.key ∧ y.key < hi) ∧ Good y.ru := by
        intro kids
        induction kids with
        | nil => intro keys lo' Q hk; simp at hk
        | cons d ds ihd =>
          intro keys lo' Q hk hQ y hy
          have hr := keys_rise (Sub_lt h) hk hQ
          cases ds with
          | nil =>
            obtain rfl : keys = [] := List.eq_nil_of_length_eq_zero (by simpa using hk)
            obtain ⟨Q1, Q2, rfl, h1, h2⟩ := hQ
            cases h2
            rw [List.append_nil] at hy
            exact ih _ _ _ _ h1 y hy
          | cons e ds =>
            cases keys with
            | nil => simp at hk
            | cons k ks =>
              obtain ⟨Q1, Q2, rfl, h1, h2⟩ := hQ
              have hk1 := hr.2.1 k List.mem_cons_self
              rw [cP_append] at hy
              rcases List.mem_append.1 hy with hy | hy
              · obtain ⟨a, b⟩ := ih _ _ _ _ h1 y hy
                exact ⟨⟨a.1, by omega⟩, b⟩
              · obtain ⟨a, b⟩ := ihd ks k Q2 (by simpa using hk) h2 y hy
                exact ⟨⟨by omega, a.2⟩, b⟩
      exact this _ _ _ _ hin.keys hin.kids y hy

end Go.Proofs.YtlojfgdpmaigmafGreatDoor

/- What goes down a tree: each step, in plain terms. -/
namespace Go.Proofs.YtlojfgdpmaigmafGreatDoor
open Go.RowKit Plain

end Go.Proofs.YtlojfgdpmaigmafGreatDoor

/- How many nodes there are when all that hold too much are split. In plain terms. -/
namespace Go.Proofs.YtlojfgdpmaigmafGreatDoor
open Go.RowKit Plain

end Go.Proofs.YtlojfgdpmaigmafGreatDoor

/- What Put makes of a tree: in plain terms. -/
namespace Go.Proofs.YtlojfgdpmaigmafGreatDoor
open Go.RowKit Plain

theorem cP_all {ns : List Nd} {P : List Int} (hp : P.Perm (placesF 0 ns.length)) : (cP ns P).Perm (ns.flatMap cont) := by
  have h1 : (cP ns P).Perm (cP ns (placesF 0 ns.length)) := hp.flatMap_right _
  have h2 : ∀ (r pre : List Nd), cP (pre ++ r) (placesF pre.length r.length) = r.flatMap cont := by
    intro r
    induction r with
    | nil => intro pre; rfl
    | cons x r ih =>
      intro pre
      have e : nth (pre ++ x :: r) (pre.length : Int) = x := by
        unfold nth
        simp
      have h := ih (pre ++ [x])
      rw [List.append_assoc, List.length_append] at h
      simp only [List.length_singleton, List.singleton_append] at h
      rw [List.length_cons, placesF, cP_cons, e, h, List.flatMap_cons]
  have h3 := h2 ns []
  rw [List.nil_append, List.length_nil] at h3
  rw [h3] at h1
  exact h1

end Go.Proofs.YtlojfgdpmaigmafGreatDoor

/- The program's walk over a tree: all of it; and what knownAt makes of it. -/
import Derived.Test.YtndojgeodmddoabAllStep
namespace Go.Proofs.Ytndojgeodmddoab
open Go.RowKit Plain

theorem walkL_any {σ : Type} {I : World → σ → Prop} {X : World → Nat → Prop} {step : σ → En → σ} {N : σ → Nat} {M : Nat} (bl : Nat) (V : VisN 32 #[.pointer (some ⟨bl, 0, none⟩)] I X step N M)
    (A : Option Addr) (C : Nat) (r : Int) (ps : List PN) (B : Nat) (low high : Int) : ∀ (f : Nat) (n : Int) (s : σ) (w : World), Reach (ps.map PN.nd) f n → NodesAt B w A ps → I w s → B ≤ w.heap.size → (∀ k, X w k → B ≤ k) → N s + (Wl (ps.map PN.nd) low high f n).length ≤ M →
    Calls Try.prog 31 #[.agg #[.slice A ps.length C, .int .i64 r], .int .i64 n, .int .i64 low, .int .i64 high, .func (Fn.func 32) #[] #[.pointer (some ⟨bl, 0, none⟩)]] w
      fun e w' => e = .returned (.tuple #[]) ∧ I w' ((Wl (ps.map PN.nd) low high f n).foldl step s) ∧ Turned X w w' := by
  intro f
  induction f with
  | zero => intro n s w h; exact h.elim
  | succ f ih =>
    intro n s w hr hN hI hB hX hM
    obtain ⟨h0, h1, h2, h3⟩ := hr
    simp only [List.length_map] at h1
    obtain ⟨m, rfl⟩ : ∃ m : Nat, n = m := ⟨n.toNat, by omega⟩
    have hm : m < ps.length := by omega
    obtain ⟨b, o, rfl, hbl, hat⟩ := hN.row.pn hm
    have ok := hN.each m hm
    have hg : (ps.map PN.nd).getD m default = (ps[m]).nd := by simp [hm]
    simp only [Int.toNat_natCast, hg] at h2 h3
    have e : Wl (ps.map PN.nd) low high (f + 1) (m : Int) = (ps[m]).buf.filter (inR low high) ++ (ps[m]).ents.filter (inR low high) ++ WlK (Wl (ps.map PN.nd) low high f) low high (ps[m]).kids (ps[m]).keys none := by
      rw [Wl]
      simp only [Int.toNat_natCast, hg]
      rfl
    rw [e] at hM ⊢
    exact walkL_step bl V b o C r ps m B low high s w _ _ _ _ _ _ _ _ _ _ _ _ _ (Wl (ps.map PN.nd) low high f) hm hN hat ok hB hbl hX hI h2 hM (fun d hd s' w' a1 a2 a3 a4 a5 => ih d s' w' (h3 d hd) a1 a2 a3 a4 a5)

end Go.Proofs.Ytndojgeodmddoab

/- Rows of a series: in plain terms. -/
import Derived.Test.YtlojfgdpmaigmafGreatDoorP26
import Derived.Test.YtlojfgdpmaigmafGreatDoorP29
import Derived.Deep.RegionHeld3
import Derived.Deep.AppendLies
import Derived.BigQuiet
namespace Go.Proofs.YtlojfgdpmaigmafGreatDoor
section
open Go.RowKit Plain

def selB (p a b : Int) (x : En) : Bool := decide (kp x = p) && (decide (a ≤ kt x) && decide (kt x ≤ b))
def rowE (x : En) : En := { x with key := kt x }
def z0h (p a b : Int) (l : List En) : List En := (l.filter (selB p a b)).map rowE

structure qfh (ss : List ByteArray) (f : Int) (n0 : List Nd) (r0 : Int) (n1 : List Nd) (r1 : Int) (n2 : List Nd) (r2 : Int) (L0 L1 L2 : List En) : Prop where
 few : ss.length ≤ 16
 book : q7z n0 r0 ss.length f = some L0
 a0 : allP n0 r0 0 1099511627776 = (0, L0)
 a1 : allP n1 r1 0 1099511627776 = (0, L1)
 a2 : allP n2 r2 0 1099511627776 = (0, L2)
 p0 : q1f 1 L0 = some L0
 p1 : q1f 60 L0 = some L1
 p2 : q1f 3600 L0 = some L2

theorem qi3 {size : Int} {l : List En} {ns : List Nd} {r : Int} (h : q2x size l ns r = true) : ∃ M, q1f size l = some M ∧ allP ns r 0 1099511627776 = (0, M) := by
 unfold q2x at h
 cases hr : q1f size l with
 | none => rw [hr] at h; cases h
 | some W =>
   rw [hr] at h
   simp only [Bool.and_eq_true, decide_eq_true_eq] at h
   exact ⟨W, rfl, Prod.ext h.1 h.2.symm⟩

theorem qf7 {ss : List ByteArray} {f : Int} {n0 : List Nd} {r0 : Int} {n1 : List Nd} {r1 : Int} {n2 : List Nd} {r2 : Int} (h : q3h ss f n0 r0 n1 r1 n2 r2 = true) : ∃ L0 L1 L2, qfh ss f n0 r0 n1 r1 n2 r2 L0 L1 L2 := by
 unfold q3h at h
 simp only [Bool.and_eq_true, decide_eq_true_eq] at h
 obtain ⟨h1, _, _, _, h2⟩ := h
 unfold q9g at h2
 cases hb : q7z n0 r0 ss.length f with
 | none => rw [hb] at h2; cases h2
 | some l =>
   rw [hb] at h2
   simp only [Bool.and_eq_true] at h2
   obtain ⟨s0, s1, s2⟩ := h2
   obtain ⟨b1, b2, _⟩ := q7g hb
   obtain ⟨M1, q1, q2⟩ := qi3 s1
   obtain ⟨M2, q3, q4⟩ := qi3 s2
   have hp := (q1u (ns := n0) (r := r0) (low := 0) (high := 1099511627776)).1
   rw [b2] at hp
   exact ⟨l, M1, M2, h1, hb, Prod.ext b1 b2, q2, q4, qc5 hp, q1, q3⟩

theorem qrg {p a b : Int} (ha : 0 ≤ a) (hb : b ≤ 1048575) {x : En} : inR (p * 1048576 + a) (p * 1048576 + b + 1) x = selB p a b x := by
 rw [Bool.eq_iff_iff]
 simp only [inR, selB, Bool.and_eq_true, decide_eq_true_eq]
 simp only [kp, kt]
 constructor
 · rintro ⟨h1, h2⟩
   have h3 : x.key / 1048576 = p := by omega
   exact ⟨h3, by omega, by omega⟩
 · rintro ⟨h1, h2, h3⟩
   exact ⟨by omega, by omega⟩

theorem qtx {ns : List Nd} {r p a b : Int} {L : List En} (h : allP ns r 0 1099511627776 = (0, L)) (ha : 0 ≤ a) (hb : b ≤ 1048575) : allP ns r (p * 1048576 + a) (p * 1048576 + b + 1) = (0, L.filter (selB p a b)) := by
 rw [qf4 (by rw [h]), h]
 exact Prod.ext rfl (List.filter_congr fun x _ => qrg ha hb)

end
section
open Go.RowKit Plain

set_option maxRecDepth 20000 in
set_option maxHeartbeats 1000000 in
theorem qdo (A : Option Addr) (C : Nat) (r p a b : Int) (ps : List PN) (L : List En) (w : World) (hN : q0j w.heap.size w A ps) (hwf : ∀ q ∈ ps, q.wf) (hp : 0 ≤ p ∧ p < 16) (ha : 0 ≤ a) (hab : a ≤ b) (hb : b ≤ 1048575) (hL : allP (ps.map PN.nd) r 0 1099511627776 = (0, L)) :
   Calls Tryz.prog 65 #[.agg #[.slice A ps.length C, .int .i64 r], .int .i64 p, .int .i64 a, .int .i64 b] w
     fun e w' => Below w.heap.size w w' ∧ ∃ v, e = .returned (.tuple #[v, .int .i64 0]) ∧ w'.ownsRow w.heap.size 86 7 v (L.filter (selB p a b)).length (q0d (L.filter (selB p a b))) := by
 have b0 : ∀ o : Obj, Below w.heap.size w (w.alloc o) := fun o => (Below.refl _ _).alloc (Nat.le_refl _) o
 have con := q0s fun W hN => qjq A C r (p * 1048576 + a) (p * 1048576 + b + 1) ps W hN hwf
 rw [qtx hL ha hb] at con
 simp only at con
 generalize L.filter (selB p a b) = M at con ⊢
 obtain ⟨k1, hk1⟩ : ∃ k1, p * 1048576 + a = k1 := ⟨_, rfl⟩
 obtain ⟨k2, hk2⟩ : ∃ k2, p * 1048576 + b = k2 := ⟨_, rfl⟩
 have c1 := q0s fun W => q7h p a W (by omega) (by omega)
 have c2 := q0s fun W => q7h p b W (by omega) (by omega)
 rw [hk1] at c1
 rw [hk2] at c2
 rw [hk1, hk2] at con
 have hw : IntKind.i64.wrap (k2 + 1) = k2 + 1 := by rw [IntKind.wrap_i64]; omega
 clear hL hwf
 go_enter Tryz.func65, Tryz.ntmps65
 go_wp2_with fail
 go_region_held3 (fun w' => w'.cell? ⟨w.heap.size, 0, none⟩ = some (.slice A ps.length C) ∧ w'.cell? ⟨w.heap.size, 1, none⟩ = some (.int .i64 r)) (go_keep)
   (first
     | (go_at_call 52; refine (con.out _ (hN.up ((b0 _).drew))).mono ?_; rintro e w1 ⟨hb1, v1, rfl, ho1⟩; have T1 := (q0q (hb1.mono (show w.heap.size + 1 ≤ _ by simp))).1; have HB := q0s hb1; have HO := q0s ho1)
     | (go_at_call 100; have kk := K1; clear kk; refine (c2.out _).mono ?_; rintro e wx ⟨rfl, hwx⟩; subst wx)
     | (go_at_call 100; refine (c1.out _).mono ?_; rintro e wx ⟨rfl, hwx⟩; subst wx; have K1 : True := trivial))
 go_wp2
 go_ret2
 exact ⟨q0e ((b0 _).drew) (Nat.le_refl _) HB.out, v1, rfl, q0o HO.out (by simp)⟩

end
section
open Go.RowKit Plain

theorem qh4 {w1 w4 : World} {base : Nat} {e : TypeId} {size n : Nat} {v : Value} {vs : List Value} (o : w1.ownsRow base e size v n vs) (hb : Below w1.heap.size w1 w4) : w4.ownsRow base e size v n vs :=
 q0c o fun k hk => hb.block k (o.lt k hk).2

theorem qjf {w : World} {base : Nat} {e : TypeId} {size n C : Nat} {A : Option Addr} {vs : List Value} (h : w.ownsRow base e size (.slice A n C) n vs) : ∀ k, (Value.slice A n C).ownBlock = some k → base ≤ k ∧ k < w.heap.size := fun k hk => h.lt k hk

end
section
open Go.RowKit Plain

end
section
open Go.RowKit Plain

end
end Go.Proofs.YtlojfgdpmaigmafGreatDoor

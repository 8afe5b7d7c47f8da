/- The parts of a node, one by one. -/
import Derived.Test.YtlojfgdpmaigmacP10
import Derived.Test.YtlojfgdpmaigmacAdoptWalk2
namespace Go.Proofs.Ytlojfgdpmaigmac
open Go.RowKit Plain

def pc (x : Nd) (s q i : Nat) : Nd := partN x (beg s q i) (beg s q (i + 1))
def pcs (x : Nd) (s q : Nat) : Nat → Nat → List Nd
  | _, 0 => []
  | i, k + 1 => pc x s q i :: pcs x s q (i + 1) k
def sbs (x : Nd) (s q : Nat) : Nat → Nat → Nat → List (Int × Int)
  | _, _, 0 => []
  | N, i, k + 1 => (firstK x (beg s q i), (N : Int)) :: sbs x s q (N + 1) (i + 1) k

theorem pcs_snoc (x : Nd) (s q : Nat) : ∀ (k i : Nat), pcs x s q i (k + 1) = pcs x s q i k ++ [pc x s q (i + k)]
  | 0, i => rfl
  | k + 1, i => by
    rw [pcs, pcs_snoc x s q k (i + 1), pcs, show i + 1 + k = i + (k + 1) by omega]
    rfl
theorem sbs_snoc (x : Nd) (s q : Nat) : ∀ (k N i : Nat), sbs x s q N i (k + 1) = sbs x s q N i k ++ [(firstK x (beg s q (i + k)), ((N + k : Nat) : Int))]
  | 0, N, i => rfl
  | k + 1, N, i => by
    rw [sbs, sbs_snoc x s q k (N + 1) (i + 1), sbs, show i + 1 + k = i + (k + 1) by omega, show N + 1 + k = N + (k + 1) by omega]
    rfl
theorem pcs_length (x : Nd) (s q : Nat) : ∀ (k i : Nat), (pcs x s q i k).length = k
  | 0, _ => rfl
  | k + 1, i => by simp [pcs, pcs_length x s q k (i + 1)]
theorem sbs_length (x : Nd) (s q : Nat) : ∀ (k N i : Nat), (sbs x s q N i k).length = k
  | 0, _, _ => rfl
  | k + 1, N, i => by simp [sbs, sbs_length x s q k (N + 1) (i + 1)]

theorem partsL_pcs (x : Nd) (s q : Nat) : ∀ (k i : Nat), partsL x (beg s q i) (cutsF s q i k) = pcs x s q i k
  | 0, _ => rfl
  | k + 1, i => by rw [cutsF, partsL, partsL_pcs x s q k (i + 1)]; rfl
theorem keysL_sbs (x : Nd) (s q : Nat) : ∀ (k i N : Nat), (keysL x (cutsF s q i (k + 1))).zip (placesF N k) = sbs x s q N (i + 1) k
  | 0, i, N => rfl
  | k + 1, i, N => by
    rw [cutsF, cutsF, keysL, placesF, List.zip_cons_cons, sbs]
    have := keysL_sbs x s q k (i + 1) (N + 1)
    rw [cutsF] at this
    rw [this]

/-- What split leaves, in these terms. -/
theorem splitN_eq {ns : List Nd} {p : Int} {x : Nd} (hx : nth ns p = x) (hs : ¬ sizeN x ≤ mostN x) (hm : 1 ≤ mostN x) :
    splitN ns p = (ns.set p.toNat (pc x (sizeN x) (partsN x) 0) ++ pcs x (sizeN x) (partsN x) 1 (partsN x - 1), sbs x (sizeN x) (partsN x) ns.length 1 (partsN x - 1)) := by
  have hq : 1 ≤ partsN x := by
    unfold partsN
    exact (Nat.le_div_iff_mul_le (by omega)).2 (by omega)
  unfold splitN
  rw [hx, if_neg hs]
  obtain ⟨k, hk⟩ : ∃ k, partsN x = k + 1 := ⟨partsN x - 1, by omega⟩
  have e1 : partsL x 0 (cutsN x) = pcs x (sizeN x) (partsN x) 0 (partsN x) := by
    have := partsL_pcs x (sizeN x) (partsN x) (partsN x) 0
    rw [beg_zero _ _ hq] at this
    exact this
  have e2 : (keysL x (cutsN x)).zip (placesF ns.length (partsN x - 1)) = sbs x (sizeN x) (partsN x) ns.length 1 (partsN x - 1) := by
    have := keysL_sbs x (sizeN x) (partsN x) (partsN x - 1) 0 ns.length
    rw [show partsN x - 1 + 1 = partsN x by omega] at this
    exact this
  rw [e1, e2]
  clear e1 e2 hq
  generalize partsN x = q at hk ⊢
  subst hk
  rfl

set_option maxHeartbeats 400000 in
theorem begin_any (s q i b1 b2 : Nat) (w : World) (c1 : w.cell? ⟨b1, 0, none⟩ = some (.int .i64 (s : Int))) (c2 : w.cell? ⟨b2, 0, none⟩ = some (.int .i64 (q : Int))) (hq : 1 ≤ q) (hq' : q ≤ 1000000) (hs : s ≤ 1000000) (hi : i ≤ 1000000) :
    Calls Try.prog 65 #[.int .i64 (i : Int), .pointer (some ⟨b1, 0, none⟩), .pointer (some ⟨b2, 0, none⟩)] w fun e w' => e = .returned (.int .i64 (beg s q i : Int)) ∧ w' = w := by
  have hm : s * i ≤ 1000000000000 := Nat.le_trans (Nat.mul_le_mul hs hi) (by decide)
  have hc : ((s * i : Nat) : Int) = (s : Int) * (i : Int) := Int.natCast_mul s i
  have hb1 : (0 : Int) ≤ (s : Int) * (i : Int) := Int.mul_nonneg (by omega) (by omega)
  have hb2 : (s : Int) * (i : Int) ≤ 1000000000000 := by omega
  have E : Hid (((s : Int) * (i : Int) + (q : Int) - 1) / (q : Int) = (beg s q i : Int)) := by
    show _ = _
    unfold beg
    have e : (s : Int) * (i : Int) + (q : Int) - 1 = ((s * i + q - 1 : Nat) : Int) := by omega
    rw [e]
    exact (Int.natCast_ediv _ _).symm
  clear hm hc
  go_enter Try.func65, Try.ntmps65
  go_wp2
  go_ret
  exact ⟨ret_int E.out, rfl⟩

end Go.Proofs.Ytlojfgdpmaigmac

/- The walk of split. -/
namespace Go.Proofs.Ytlojfgdpmaigmac
open Go.RowKit Plain

/-- What part asks of a node. -/
def PartPre (x : Nd) (a b : Nat) : Prop :=
  (x.leaf = true ∧ a < b ∧ b ≤ x.ents.length) ∨ (x.leaf = false ∧ x.keys.length + 1 = x.kids.length ∧ a + 2 ≤ b ∧ b ≤ x.kids.length ∧ x.buf.Pairwise (fun x y => x.key < y.key) ∧ waitA x a ≤ waitA x b)

theorem waitA_le (x : Nd) (k : Nat) : waitA x k ≤ x.buf.length := by
  unfold waitA
  split
  · omega
  · split
    · omega
    · exact lowN_le _ _

theorem own_form {w : World} {base : Nat} {e : TypeId} {size n C : Nat} {A : Option Addr} {vs : List Value} (h : w.ownsRow base e size (.slice A n C) n vs) : n ≤ C ∧ (A = none ∧ C = 0 ∧ n = 0 ∨ ∃ g, A = some ⟨g, 0, none⟩) := by
  rcases h.2 with ⟨hv, hn⟩ | ⟨g, cap, cur, hv, hb, hg, hl, _⟩
  · cases hv; exact ⟨by omega, .inl ⟨rfl, rfl, hn⟩⟩
  · simp only [Value.slice.injEq] at hv
    obtain ⟨rfl, -, rfl⟩ := hv
    exact ⟨hl, .inr ⟨g, rfl⟩⟩

abbrev PN.agg (q : PN) : Value := .agg #[.bool q.leaf, .slice q.eA q.ents.length q.eC, .slice q.kA q.keys.length q.kC, .slice q.dA q.kids.length q.dC, .slice q.bA q.buf.length q.bC]

theorem part_any (base : Nat) (p : PN) (a b : Nat) (w : World) (hp : p.own base w) (h : PartPre p.nd a b) :
    Calls Try.prog 66 #[.agg #[.bool p.leaf, .slice p.eA p.ents.length p.eC, .slice p.kA p.keys.length p.kC, .slice p.dA p.kids.length p.dC, .slice p.bA p.buf.length p.bC], .int .i64 (a : Int), .int .i64 (b : Int)] w
      fun e w' => ∃ q : PN, e = .returned (.agg #[.bool q.leaf, .slice q.eA q.ents.length q.eC, .slice q.kA q.keys.length q.kC, .slice q.dA q.kids.length q.dC, .slice q.bA q.buf.length q.bC]) ∧ q.nd = partN p.nd a b ∧ q.own w.heap.size w' ∧ q.blocks.Nodup ∧ Below w.heap.size w w' := by
  have hok := hp.ok
  obtain ⟨leaf, eA, eC, ents, kA, kC, keys, dA, dC, kids, bA, bC, buf⟩ := p
  obtain ⟨oe, okk, od, ob, ez, kz, dz, bz⟩ := hp
  simp only [PN.nd] at *
  rcases h with ⟨hl, h1, h2⟩ | ⟨hl, h1, h2, h3, h4, h5⟩
  · simp only at hl h2
    subst hl
    refine (part_leaf eA eC ents kA kC keys dA dC kids bA bC buf a b w hok.e (own_form oe).1 ez h1 h2).mono ?_
    rintro e w' ⟨A1, C1, rfl, o1, hb⟩
    have hlen : ((ents.drop a).take (b - a)).length = b - a := by simp; omega
    refine ⟨⟨true, A1, C1, (ents.drop a).take (b - a), none, 0, [], none, 0, [], none, 0, []⟩, ?_, ?_, ⟨own_len hlen o1, World.ownsRow_nil _ _ _ _, World.ownsRow_nil _ _ _ _, World.ownsRow_nil _ _ _ _, ?_, by simp, by simp, by simp⟩, ?_, hb⟩
    · simp only [hlen]; rfl
    · simp [partN]
    · show ((ents.drop a).take (b - a)).length * 56 ≤ _
      omega
    · unfold PN.blocks
      cases A1 <;> simp
  · simp only at hl h1 h2 h3 h4 h5
    subst hl
    obtain ⟨k1, k2⟩ := own_form okk
    obtain ⟨d1, d2⟩ := own_form od
    obtain ⟨b1, b2⟩ := own_form ob
    obtain ⟨kg, rfl⟩ : ∃ g, kA = some ⟨g, 0, none⟩ := by rcases k2 with ⟨_, _, k2⟩ | k2; omega; exact k2
    obtain ⟨dg, rfl⟩ : ∃ g, dA = some ⟨g, 0, none⟩ := by rcases d2 with ⟨_, _, d2⟩ | d2; omega; exact d2
    have w2 : waitA ⟨false, ents, keys, kids, buf⟩ b ≤ buf.length := waitA_le ⟨false, ents, keys, kids, buf⟩ b
    have fin : ∀ (c r1 r2 : Nat) (e : Ending) (w' : World), b = c + 1 → waitA ⟨false, ents, keys, kids, buf⟩ a = r1 → waitA ⟨false, ents, keys, kids, buf⟩ b = r2 → (∃ A1 C1 A2 C2 A3 C3, e = .returned (.agg #[.bool false, .slice none 0 0, .slice A1 (c - a) C1, .slice A2 (b - a) C2, .slice A3 (r2 - r1) C3]) ∧
        PN.own w.heap.size w' ⟨false, none, 0, [], A1, C1, (keys.drop a).take (c - a), A2, C2, (kids.drop a).take (b - a), A3, C3, (buf.drop r1).take (r2 - r1)⟩ ∧ (PN.mk false none 0 [] A1 C1 ((keys.drop a).take (c - a)) A2 C2 ((kids.drop a).take (b - a)) A3 C3 ((buf.drop r1).take (r2 - r1))).blocks.Nodup ∧ Below w.heap.size w w') →
        ∃ q : PN, e = .returned (.agg #[.bool q.leaf, .slice q.eA q.ents.length q.eC, .slice q.kA q.keys.length q.kC, .slice q.dA q.kids.length q.dC, .slice q.bA q.buf.length q.bC]) ∧ q.nd = partN ⟨false, ents, keys, kids, buf⟩ a b ∧ q.own w.heap.size w' ∧ q.blocks.Nodup ∧ Below w.heap.size w w' := by
      rintro c r1 r2 e w' hc hr1 hr2 ⟨A1, C1, A2, C2, A3, C3, rfl, ho, hn, hb⟩
      refine ⟨_, ?_, ?_, ho, hn, hb⟩
      · have l1 : ((keys.drop a).take (c - a)).length = c - a := by simp; omega
        have l2 : ((kids.drop a).take (b - a)).length = b - a := by simp; omega
        have l3 : ((buf.drop r1).take (r2 - r1)).length = r2 - r1 := by simp; omega
        simp only [l1, l2, l3]
        rfl
      · simp only [PN.nd, partN, Bool.false_eq_true, if_false, hr1, hr2]
        rw [show b - 1 - a = c - a by omega]
    rcases b2 with ⟨rfl, rfl, b2⟩ | ⟨fg, rfl⟩
    · obtain rfl : buf = [] := List.eq_nil_of_length_eq_zero b2
      have z0 : ∀ k, waitA ⟨false, ents, keys, kids, []⟩ k = 0 := fun k => by have : waitA ⟨false, ents, keys, kids, []⟩ k ≤ 0 := waitA_le ⟨false, ents, keys, kids, []⟩ k; omega
      refine (part_inner_none eA eC ents kg 0 kC keys dg 0 dC kids a b (b - 1) w hok.k hok.d k1 d1 kz dz h1 (show b = b - 1 + 1 by omega) (by omega) (by omega) h3 (z0 a) (z0 b)).mono ?_
      intro e w' hq
      refine fin (b - 1) 0 0 e w' (by omega) (z0 a) (z0 b) ?_
      simpa using hq
    · refine (part_inner_some eA eC ents kg 0 kC keys dg 0 dC kids fg 0 bC buf a b (b - 1) _ _ w hok.k hok.d hok.b k1 d1 b1 kz dz bz h1 (show b = b - 1 + 1 by omega) (by omega) (by omega) h3 h4 rfl rfl h5 w2).mono ?_
      intro e w' hq
      exact fin (b - 1) _ _ e w' (by omega) rfl rfl hq

end Go.Proofs.Ytlojfgdpmaigmac

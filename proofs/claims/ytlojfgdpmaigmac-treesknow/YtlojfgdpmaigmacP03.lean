/- Entries that may be (P2.1): the code's test and the document's. -/
import Derived.Test.YtlojfgdpmaigmacP02
namespace Go.Proofs.Ytlojfgdpmaigmac
open Go.RowKit Plain

theorem lowAt_le {xs : List En} {low high : Int} {k : Nat} (hk : k < xs.length) (h : low ≤ lowAt xs low k) (he : entB xs[k] (lowAt xs low k) high = true) : low ≤ lowAt xs low (k + 1) := by
  simp only [entB, Bool.and_eq_true, decide_eq_true_eq] at he
  have : lowAt xs low (k + 1) = xs[k].key + 1 := by simp [lowAt, hk]
  omega

theorem ents_no {xs : List En} {low high : Int} {k : Nat} (hk : k < xs.length) (h : entsB xs low high = entsB (xs.drop k) (lowAt xs low k) high) (he : entB xs[k] (lowAt xs low k) high = false) : entsB xs low high = false := by
  rw [h, entsB_drop hk, he, Bool.false_and]

theorem ents_yes {xs : List En} {low high : Int} {k : Nat} (hk : k < xs.length) (h : entsB xs low high = entsB (xs.drop k) (lowAt xs low k) high) (he : entB xs[k] (lowAt xs low k) high = true) :
    entsB xs low high = entsB (xs.drop (k + 1)) (lowAt xs low (k + 1)) high := by
  rw [h, entsB_drop hk, he, Bool.true_and]

theorem ents_end {xs : List En} {low high : Int} {k : Nat} (hk : k = xs.length) (h : entsB xs low high = entsB (xs.drop k) (lowAt xs low k) high) : entsB xs low high = true := by
  rw [h, hk, List.drop_length]; rfl

theorem ret_bool {a b : Bool} (h : a = b) : Ending.returned (.bool a) = .returned (.bool b) := by rw [h]

set_option maxRecDepth 20000 in
set_option maxHeartbeats 4000000 in
theorem entriesMayBe_any (A : Option Addr) (C : Nat) (xs : List En) (most low high : Int) (w : World) (h : RowAt w.heap.size w A (flatE xs)) (hz : xs.length * 56 ≤ 140737488351232) (hl : -9223372036854775808 ≤ low) (hh : high ≤ 9223372036854775807) :
    Calls Try.prog 58 #[.slice A xs.length C, .int .i64 most, .int .i64 low, .int .i64 high] w fun e w' => e = .returned (.bool (decide ((xs.length : Int) ≤ most) && entsB xs low high)) ∧ Below w.heap.size w w' := by
  by_cases hm : most < xs.length
  · have HE : Hid ((decide ((xs.length : Int) ≤ most) && entsB xs low high) = false) := by
      show _ = false
      rw [decide_eq_false (by omega), Bool.false_and]
    go_enter Try.func58, Try.ntmps58
    go_wp2_with fail
    go_ret
    exact ⟨ret_bool HE.out.symm, Below.refl _ _⟩
  · have HE : Hid ((decide ((xs.length : Int) ≤ most) && entsB xs low high) = entsB xs low high) := by
      show _ = _
      rw [decide_eq_true (by omega), Bool.true_and]
    rw [HE.out]
    go_enter Try.func58, Try.ntmps58
    go_wp2_with fail
    go_loopw [2, 17] (fun lo i wr => ∃ k : Nat, k ≤ xs.length ∧ i = .int .i64 k ∧ lo = .int .i64 (lowAt xs low k) ∧ low ≤ lowAt xs low k ∧ Hid (entsB xs low high = entsB (xs.drop k) (lowAt xs low k) high) ∧ Below w.heap.size w wr) (fun _ i _ => xs.length - (intOf i).toNat)
    case atStart => exact ⟨0, Nat.zero_le _, rfl, rfl, Int.le_refl _, (show _ = _ from rfl), Below.refl _ _⟩
    case round =>
      obtain ⟨k, hk, rfl, rfl, hlo, HR, hb⟩ := hrel
      by_cases hlt : k < xs.length
      · obtain ⟨b, o, rfl, hbl, c0, c1, c2, c3, c4, c5, c6⟩ := (h.below hb (Nat.le_refl _)).en hlt
        have hle : w.heap.size ≤ wr.heap.size := hb.size
        have hbr : b < wr.heap.size := by omega
        have HY : Hid (entB xs[k] (lowAt xs low k) high = true → entsB xs low high = entsB (xs.drop (k + 1)) (lowAt xs low (k + 1)) high) := fun he => ents_yes hlt HR.out he
        have HN : Hid (entB xs[k] (lowAt xs low k) high = false → entsB xs low high = false) := fun he => ents_no hlt HR.out he
        have HS : Hid (lowAt xs low (k + 1) = xs[k].key + 1) := by show _ = _; simp [lowAt, hlt]
        clear HR
        generalize xs[k] = x at *
        generalize lowAt xs low k = lo at *
        obtain ⟨key, c, s, xlo, xhi, t, l⟩ := x
        simp only at c0 c1 c2 c3 c4 c5 c6
        by_cases h1 : lo ≤ key
        · by_cases h2 : key < high
          · by_cases h3 : c = 0
            · have HN' := HN.out (by simp [entB, h3])
              clear HN HY
              have HN'' : Hid (entsB xs low high = false) := HN'
              clear HN'
              subst h3
              go_wp2_with fail
              go_ret
              exact ⟨ret_bool HN''.out.symm, hb.alloc hle _⟩
            · by_cases h4 : checkC c s xlo xhi t l = 0
              · have h4' : (checkC c s xlo xhi t l == 0) = true := by simpa using h4
                have h3' : (c == 0) = false := by simpa using h3
                have HY' : Hid (entsB xs low high = entsB (xs.drop (k + 1)) (lowAt xs low (k + 1)) high) := HY.out (by simp [entB, h1, h2, h3, h4])
                clear h3 HY HN
                go_wp2_with (first | (go_at_call 31; refine (check_any _ _ _ _ _ _ _).mono ?_; rintro e w1 ⟨rfl, hb1⟩; have hc1 := (bcells hb1).1))
                go_roundw
                case rel =>
                  go_light
                  have hs := HS.out
                  exact ⟨k + 1, by omega, by go_num, by rw [hs], by omega, HY', nextB (hb.alloc hle _) (Nat.le_refl _) hb1⟩
                case measure => simp [intOf]; omega
              · have h4' : (checkC c s xlo xhi t l == 0) = false := by simpa using h4
                have h3' : (c == 0) = false := by simpa using h3
                have HN' : Hid (entsB xs low high = false) := HN.out (by simp [entB, h4])
                clear h3 HY HN
                have h4n : (checkC c s xlo xhi t l != 0) = true := by simpa using h4
                go_wp2_with (first | (go_at_call 31; refine (check_any _ _ _ _ _ _ _).mono ?_; rintro e w1 ⟨rfl, hb1⟩; have hc1 := (bcells hb1).1))
                go_ret
                exact ⟨ret_bool HN'.out.symm, nextB (hb.alloc hle _) (Nat.le_refl _) hb1⟩
          · have HN' : Hid (entsB xs low high = false) := HN.out (by simp [entB, h2])
            clear HN HY
            go_wp2_with fail
            go_ret
            exact ⟨ret_bool HN'.out.symm, hb.alloc hle _⟩
        · have HN' : Hid (entsB xs low high = false) := HN.out (by simp [entB, h1])
          clear HN HY
          go_wp2_with fail
          go_ret
          exact ⟨ret_bool HN'.out.symm, hb.alloc hle _⟩
      · obtain rfl : k = xs.length := by omega
        go_wp2
        go_ret
        exact ⟨ret_bool (ents_end rfl HR.out).symm, hb⟩

end Go.Proofs.Ytlojfgdpmaigmac

/- Blocks that are known whole; blocks of one's own. -/
namespace Go.Proofs.Ytlojfgdpmaigmac
open Go.RowKit

/-- Block b holds these cells and no others; none is frozen. -/
def RowL (w : World) (b : Nat) (t : TypeId) (vs : List Value) : Prop := w.heap[b]? = some (.cells vs.toArray t (0, 0))

theorem RowL.lt {w : World} {b : Nat} {t : TypeId} {vs : List Value} (h : RowL w b t vs) : b < w.heap.size := (Array.getElem?_eq_some_iff.1 h).1

theorem RowL.of_block {w w' : World} {b : Nat} {t : TypeId} {vs : List Value} (h : RowL w b t vs) (e : w'.heap[b]? = w.heap[b]?) : RowL w' b t vs := e.trans h

theorem RowL.below {w w' : World} {b B : Nat} {t : TypeId} {vs : List Value} (h : RowL w b t vs) (hb : Below B w w') (hB : b < B) : RowL w' b t vs := h.of_block (hb.block b hB)

theorem RowL.cell {w : World} {b : Nat} {t : TypeId} {vs : List Value} (h : RowL w b t vs) (j : Nat) : w.cell? ⟨b, j, none⟩ = vs[j]? := by
  unfold RowL at h
  simp [World.cell?, h]

theorem RowL.frozen {w : World} {b : Nat} {t : TypeId} {vs : List Value} (h : RowL w b t vs) (j : Nat) : w.frozen? ⟨b, j, none⟩ = false := by
  unfold RowL at h
  simp [World.frozen?, h]

theorem RowL.set {w : World} {b : Nat} {t : TypeId} {vs : List Value} (h : RowL w b t vs) (i : Nat) (v : Value) : RowL (w.setCell ⟨b, i, none⟩ v) b t (vs.set i v) := by
  unfold RowL at *
  simp [World.setCell, Array.getElem?_modify, h]

theorem RowL.row {w : World} {b : Nat} {t : TypeId} {vs : List Value} (h : RowL w b t vs) : RowAt w.heap.size w (some ⟨b, 0, none⟩) vs :=
  .inr ⟨b, 0, rfl, h.lt, fun j u hu => by rw [Nat.zero_add, h.cell]; exact hu⟩

theorem rowL_alloc (w : World) (vs : List Value) (t : TypeId) : RowL (w.alloc (.cells vs.toArray t)) w.heap.size t vs := by
  unfold RowL
  exact heap_alloc_new w _

def PN.zero : PN := ⟨false, none, 0, [], none, 0, [], none, 0, [], none, 0, []⟩

theorem set_node (qs zs : List PN) (z p : PN) :
    (((((flatN (qs ++ z :: zs)).set (qs.length * 5) (.bool p.leaf)).set (qs.length * 5 + 1) (.slice p.eA p.ents.length p.eC)).set (qs.length * 5 + 2) (.slice p.kA p.keys.length p.kC)).set (qs.length * 5 + 3) (.slice p.dA p.kids.length p.dC)).set (qs.length * 5 + 4) (.slice p.bA p.buf.length p.bC) = flatN (qs ++ p :: zs) := by
  have hl := flatN_length qs
  simp only [flatN_append, flatN, ← hl]
  simp [List.set_append_right, PN.vals]

def nodeZ : Array Value := #[.bool false, .slice none 0 0, .slice none 0 0, .slice none 0 0, .slice none 0 0]
/-- What 'make' lays for n nodes. -/
def madeN (n : Nat) : Array Value := madeCells nodeZ (n * 5)

theorem madeN_eq (n : Nat) : madeN n = (flatN (List.replicate n PN.zero)).toArray := by
  have hl := flatN_length (List.replicate n PN.zero)
  simp only [List.length_replicate] at hl
  apply Array.ext
  · simp [madeN, size_madeCells, hl]
  · intro i h1 h2
    have hi : i < n * 5 := by simpa [madeN, size_madeCells] using h1
    have hk : i / 5 < n := by omega
    have g := flatN_get (List.replicate n PN.zero) (i / 5) (i % 5) (by simpa using hk) (Nat.mod_lt _ (by decide))
    rw [show i / 5 * 5 + i % 5 = i by omega] at g
    have e1 : (flatN (List.replicate n PN.zero)).toArray[i] = nodeZ[i % 5]! := by
      have h5 : i % 5 = 0 ∨ i % 5 = 1 ∨ i % 5 = 2 ∨ i % 5 = 3 ∨ i % 5 = 4 := by omega
      simp only [List.getElem_replicate] at g
      rw [List.getElem?_eq_getElem (by rw [hl]; exact hi)] at g
      simp only [List.getElem_toArray]
      rcases h5 with h | h | h | h | h <;> rw [h] at g ⊢ <;> simpa [PN.zero, PN.vals, nodeZ] using g
    rw [e1]
    simp [madeN, madeCells, nodeZ]

theorem infoN : (Try.prog.info? 62).map (fun i => (i.zero, i.size, i.bytes)) = some (some (.agg nodeZ), 5, 104) := by kernel_rfl

theorem run_makeN (n : Nat) (hn : n * 104 ≤ 140737488351232) (w : World) :
    (Instr.makeSlice 24 (.int .i64 (n : Int)) (.int .i64 (n : Int))).run Try.prog w = .ok (.slice (some ⟨w.heap.size, 0, none⟩) n n) (w.alloc (.cells (madeN n) 62)) := by
  obtain ⟨i0, hi, hz0, hz1, hz2⟩ := info_parts infoN
  have hr := run_make (P := Try.prog) w 24 62 i0 _ Try.underlying24 hi hz0 .i64 .i64 n n (by omega) (Int.le_refl _) (by rw [hz2]; omega) (by omega)
  simp only [Int.toNat_natCast, hz1] at hr
  exact hr

theorem own_of_block {w w' : World} {base : Nat} {e : TypeId} {size n : Nat} {v : Value} {vs : List Value} (h : w.ownsRow base e size v n vs) (hk : ∀ k, v.ownBlock = some k → w'.heap[k]? = w.heap[k]?) : w'.ownsRow base e size v n vs := by
  refine ⟨h.1, ?_⟩
  rcases h.2 with hn | ⟨g, cap, cur, rfl, hb, hg, rest⟩
  · exact .inl hn
  · exact .inr ⟨g, cap, cur, rfl, hb, (hk g rfl).trans hg, rest⟩

theorem own_mono {w : World} {base base' : Nat} {e : TypeId} {size n : Nat} {v : Value} {vs : List Value} (h : w.ownsRow base' e size v n vs) (hb : base ≤ base') : w.ownsRow base e size v n vs := by
  refine ⟨h.1, ?_⟩
  rcases h.2 with hn | ⟨g, cap, cur, rfl, hb', rest⟩
  · exact .inl hn
  · exact .inr ⟨g, cap, cur, rfl, by omega, rest⟩

def PN.blocks (p : PN) : List Nat := [p.eA, p.kA, p.dA, p.bA].filterMap (·.map Addr.block)

structure PN.own (base : Nat) (w : World) (p : PN) : Prop where
  e : w.ownsRow base 53 7 (.slice p.eA p.ents.length p.eC) p.ents.length (flatE p.ents)
  k : w.ownsRow base 3 1 (.slice p.kA p.keys.length p.kC) p.keys.length (ints p.keys)
  d : w.ownsRow base 3 1 (.slice p.dA p.kids.length p.dC) p.kids.length (ints p.kids)
  b : w.ownsRow base 53 7 (.slice p.bA p.buf.length p.bC) p.buf.length (flatE p.buf)
  ez : p.ents.length * 56 ≤ 140737488351232
  kz : p.keys.length * 8 ≤ 140737488351232
  dz : p.kids.length * 8 ≤ 140737488351232
  bz : p.buf.length * 56 ≤ 140737488351232

theorem mem_blocks {p : PN} {k : Nat} (h : (Value.slice p.eA p.ents.length p.eC).ownBlock = some k ∨ (Value.slice p.kA p.keys.length p.kC).ownBlock = some k ∨ (Value.slice p.dA p.kids.length p.dC).ownBlock = some k ∨ (Value.slice p.bA p.buf.length p.bC).ownBlock = some k) : k ∈ p.blocks := by
  have g : ∀ (A : Option Addr) (n c : Nat), (Value.slice A n c).ownBlock = some k → A.map Addr.block = some k := by
    intro A n c h
    cases A with
    | none => simp [Value.ownBlock] at h
    | some a => simpa [Value.ownBlock] using h
  simp only [PN.blocks, List.mem_filterMap, List.mem_cons, List.not_mem_nil, or_false]
  rcases h with h | h | h | h
  · exact ⟨_, .inl rfl, g _ _ _ h⟩
  · exact ⟨_, .inr (.inl rfl), g _ _ _ h⟩
  · exact ⟨_, .inr (.inr (.inl rfl)), g _ _ _ h⟩
  · exact ⟨_, .inr (.inr (.inr rfl)), g _ _ _ h⟩

theorem PN.own.of_blocks {base : Nat} {w w' : World} {p : PN} (h : p.own base w) (hk : ∀ k ∈ p.blocks, w'.heap[k]? = w.heap[k]?) : p.own base w' :=
  ⟨own_of_block h.e fun _ hb => hk _ (mem_blocks (.inl hb)), own_of_block h.k fun _ hb => hk _ (mem_blocks (.inr (.inl hb))), own_of_block h.d fun _ hb => hk _ (mem_blocks (.inr (.inr (.inl hb)))), own_of_block h.b fun _ hb => hk _ (mem_blocks (.inr (.inr (.inr hb)))), h.ez, h.kz, h.dz, h.bz⟩

theorem own_ok {w : World} {base : Nat} {e : TypeId} {size n C : Nat} {A : Option Addr} {vs : List Value} (h : w.ownsRow base e size (.slice A n C) n vs) : RowAt w.heap.size w A vs ∧ (A = none → C = 0) := by
  obtain ⟨A', C', hv, hn, _, _, hr⟩ := own_row h
  cases hv
  exact ⟨hr, hn⟩

theorem PN.own.ok {base : Nat} {w : World} {p : PN} (h : p.own base w) : p.ok w.heap.size w :=
  ⟨(own_ok h.e).1, (own_ok h.k).1, (own_ok h.d).1, (own_ok h.b).1, (own_ok h.e).2, (own_ok h.k).2, (own_ok h.d).2, (own_ok h.b).2, h.ez, h.kz, h.dz, h.bz⟩

theorem own_lt {w : World} {base : Nat} {e : TypeId} {size n C : Nat} {A : Option Addr} {vs : List Value} (h : w.ownsRow base e size (.slice A n C) n vs) (k : Nat) (hk : A.map Addr.block = some k) : base ≤ k ∧ k < w.heap.size := by
  cases A with
  | none => cases hk
  | some a => exact h.lt k (by simpa [Value.ownBlock] using hk)

theorem PN.own.lt {base : Nat} {w : World} {p : PN} (h : p.own base w) : ∀ k ∈ p.blocks, base ≤ k ∧ k < w.heap.size := by
  intro k hk
  simp only [PN.blocks, List.mem_filterMap, List.mem_cons, List.not_mem_nil, or_false] at hk
  obtain ⟨A, hA, hb⟩ := hk
  rcases hA with rfl | rfl | rfl | rfl
  · exact own_lt h.e k hb
  · exact own_lt h.k k hb
  · exact own_lt h.d k hb
  · exact own_lt h.b k hb

/-- A tree in memory of the call's own: its nodes in block g, each list in a block of its own. -/
structure OwnTree (base : Nat) (w : World) (g : Nat) (qs : List PN) : Prop where
  row : RowL w g 62 (flatN qs)
  hbase : base ≤ g
  each : ∀ q ∈ qs, q.own base w
  apart : (g :: qs.flatMap PN.blocks).Nodup
  z : qs.length * 104 ≤ 140737488351232

theorem blocks_nodup {q : PN} {s1 s2 s3 : Nat} (he : ∀ x, q.eA.map Addr.block = some x → x < s1) (hk : ∀ x, q.kA.map Addr.block = some x → s1 ≤ x ∧ x < s2) (hd : ∀ x, q.dA.map Addr.block = some x → s2 ≤ x ∧ x < s3)
    (hb : ∀ x, q.bA.map Addr.block = some x → s3 ≤ x) (h12 : s1 ≤ s2) (h23 : s2 ≤ s3) : q.blocks.Nodup := by
  obtain ⟨leaf, eA, eC, ents, kA, kC, keys, dA, dC, kids, bA, bC, buf⟩ := q
  simp only at he hk hd hb
  unfold PN.blocks
  cases eA <;> cases kA <;> cases dA <;> cases bA <;> simp_all <;> omega

set_option maxHeartbeats 400000 in
theorem copy_step {base g : Nat} {wr w4 : World} {qs zs : List PN} {z q : PN} (hrow : RowL wr g 62 (flatN (qs ++ z :: zs))) (hbase : base ≤ g) (each : ∀ x ∈ qs, x.own base wr) (apart : (g :: qs.flatMap PN.blocks).Nodup)
    (hb : Below wr.heap.size wr w4) (hq : q.own wr.heap.size w4) (hqn : q.blocks.Nodup) :
    ∀ W, W = ((((w4.setCell ⟨g, qs.length * 5, none⟩ (.bool q.leaf)).setCell ⟨g, qs.length * 5 + 1, none⟩ (.slice q.eA q.ents.length q.eC)).setCell ⟨g, qs.length * 5 + 2, none⟩ (.slice q.kA q.keys.length q.kC)).setCell ⟨g, qs.length * 5 + 3, none⟩ (.slice q.dA q.kids.length q.dC)).setCell ⟨g, qs.length * 5 + 4, none⟩ (.slice q.bA q.buf.length q.bC) →
    RowL W g 62 (flatN (qs ++ q :: zs)) ∧ (∀ x ∈ qs ++ [q], x.own base W) ∧ (g :: (qs ++ [q]).flatMap PN.blocks).Nodup := by
  intro W hW
  have hg : g < wr.heap.size := hrow.lt
  have hother : ∀ b, b ≠ g → W.heap[b]? = w4.heap[b]? := by
    intro b hbg
    subst hW
    simp only [Below.heap_setCell _ _ _ _ (show b ≠ (⟨g, _, none⟩ : Addr).block from hbg)]
  have hold : ∀ x ∈ qs, ∀ b ∈ x.blocks, base ≤ b ∧ b < wr.heap.size := fun x hx => (each x hx).lt
  have hnew := hq.lt
  rw [List.nodup_cons] at apart
  have hgn : g ∉ qs.flatMap PN.blocks := apart.1
  refine ⟨?_, ?_, ?_⟩
  · rw [← set_node qs zs z q]
    subst hW
    exact (((((hrow.below hb hg).set _ _).set _ _).set _ _).set _ _).set _ _
  · intro x hx
    rcases List.mem_append.1 hx with hx | hx
    · refine (each x hx).of_blocks fun b hbx => ?_
      have hbg : b ≠ g := fun e => hgn (List.mem_flatMap.2 ⟨x, hx, e ▸ hbx⟩)
      rw [hother b hbg]
      exact hb.block b (hold x hx b hbx).2
    · obtain rfl : x = q := by simpa using hx
      have h1 : x.own wr.heap.size W := hq.of_blocks fun b hbx => hother b (by have := hnew b hbx; omega)
      exact ⟨own_mono h1.e (by omega), own_mono h1.k (by omega), own_mono h1.d (by omega), own_mono h1.b (by omega), h1.ez, h1.kz, h1.dz, h1.bz⟩
  · rw [List.nodup_cons, List.flatMap_append, List.mem_append, List.nodup_append]
    simp only [List.flatMap_cons, List.flatMap_nil, List.append_nil]
    refine ⟨fun h => ?_, apart.2, hqn, fun a ha b hb' e => ?_⟩
    · rcases h with h | h
      · exact hgn h
      · have := hnew g h; omega
    · obtain ⟨x, hx, hax⟩ := List.mem_flatMap.1 ha
      have h1 := hold x hx a hax
      have h2 := hnew b hb'
      omega

theorem OwnTree.nodes {base g : Nat} {w : World} {qs : List PN} (h : OwnTree base w g qs) : NodesAt w.heap.size w (some ⟨g, 0, none⟩) qs :=
  ⟨h.row.row, fun _ hk => (h.each _ (List.getElem_mem hk)).ok, h.z⟩

end Go.Proofs.Ytlojfgdpmaigmac

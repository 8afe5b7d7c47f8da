/- The document's entries: a list in new memory. -/
import Derived.Test.YtlojfgdpmaigmabP03
namespace Go.Proofs.Ytlojfgdpmaigmab
open Go.RowKit Plain

theorem newsE1 {w : World} {vb : Nat} {x : En} (hv : RowL w vb 45 x.vals) : ∀ j u, (flatE [x])[j]? = some u → w.cell? (Addr.add ⟨vb, 0, none⟩ j) = some u := by
  intro j u hu
  rw [WideShapes.add_plain, Nat.zero_add, hv.cell]
  simpa [flatE] using hu

set_option maxRecDepth 20000 in
set_option maxHeartbeats 4000000 in
theorem entries_any (A : Option Addr) (C : Nat) (xs : List En) (w : World) (h : RowAt w.heap.size w A (flatE xs)) (hz : xs.length * 56 ≤ 140737488351232) :
    Calls Try.prog 37 #[.slice A xs.length C] w fun e w' => ∃ v, e = .returned v ∧ w'.ownsRow w.heap.size 45 7 v xs.length (flatE xs) ∧ Below w.heap.size w w' := by
  obtain ⟨i0', hi0, hz0, hz1, hz2⟩ := info_parts infoE
  go_enter Try.func37, Try.ntmps37
  go_wp2_with fail
  go_loopw [3, 4] (fun vo vi wr => ∃ i : Nat, i ≤ xs.length ∧ vi = .int .i64 i ∧ Hid (wr.ownsRow w.heap.size 45 7 vo i (flatE (xs.take i)) ∧ Below w.heap.size w wr)) (fun _ vi _ => xs.length - (intOf vi).toNat)
  case atStart => exact ⟨0, Nat.zero_le _, rfl, World.ownsRow_nil _ _ _ _, Below.refl _ _⟩
  case round =>
    obtain ⟨i, hil, rfl, HI⟩ := hrel
    obtain ⟨hown0, hbw⟩ := HI.out
    by_cases hlt : i < xs.length
    · obtain ⟨b, o, rfl, hbl, hen⟩ := (h.below hbw (Nat.le_refl _)).en hlt
      obtain ⟨x, hx⟩ : ∃ x, xs[i] = x := ⟨_, rfl⟩
      rw [hx] at hen
      obtain ⟨c0, c1, c2, c3, c4, c5, c6⟩ := hen
      have hbr : b < wr.heap.size := Nat.lt_of_lt_of_le hbl hbw.size
      have hsz := hbw.size
      have i0 : (0 : Int) ≤ (i : Int) := by omega
      have i1 : (i : Int) < (xs.length : Int) := by omega
      have HX : Hid (flatE (xs.take (i + 1)) = flatE (xs.take i) ++ flatE [x]) := by
        show _ = _
        rw [List.take_succ_eq_append_getElem hlt, hx, flatE_append]
      have HO := hideC hown0
      clear hown0 hx
      go_wp2_with (at_builtin; refine wpList_append_lies _ rfl _ _ 30 rfl w.heap.size 45 i0' _ 7 56 Try.underlying30 hi0 hz0 hz1 hz2 rfl (by decide) u3 i (flatE (xs.take i)) rfl (own_next HO.out ((Below.refl _ _).alloc (Nat.le_refl _) _)) ⟨wr.heap.size, 0, none⟩ 1 1 (flatE [x]) rfl rfl (newsE1 (rowL_alloc wr x.vals _)) (flatE_one _) (by decide) (by unfold maxLen; omega) (by omega) (by simp; omega) (wr.heap.size + 1) (by simp) ?_; intro g' cap w4 hown hgrow hat hlt')
      refine ⟨⟨i + 1, by omega, by go_num, ?_, ?_⟩, by simp [intOf]; omega⟩
      · rw [HX.out]
        exact hown
      · refine (hbw.alloc hsz _).grown hgrow (Nat.le_trans hsz (by simp)) fun b' hb' => ?_
        exact (HO.out.lt b' hb').1
    · obtain rfl : i = xs.length := by omega
      have hlti : ¬ ((xs.length : Int) < (xs.length : Int)) := by omega
      rw [List.take_length] at hown0
      go_wp2_with fail
      go_ret
      exact ⟨_, rfl, hown0, hbw⟩

end Go.Proofs.Ytlojfgdpmaigmab

/- The document's TreeCopy: what stands while it copies. -/
namespace Go.Proofs.Ytlojfgdpmaigmab
open Go.RowKit Plain

/-- append(nil, ks...) at a step of a region that draws its order, whatever the list. -/
theorem step_app_nilI {ops : Array Oper} {o : Oper} {a : Act} {w : World} {K : Act → World → Prop} {Q : Exit → Act → World → Prop} {E : Prop} (hgd : o.guard = none) (s x : Operand)
    (ho : o.op = .call { callee := .builtin .append, args := #[s, x], argTypes := #[55, 55] }) (A : Option Addr) (C : Nat) (ks : List Int) (hs : a.eval s = .slice none 0 0) (hx : a.eval x = .slice A ks.length C)
    (hr : RowAt w.heap.size w A (ints ks)) (hn : A = none → C = 0) (hz : ks.length * 8 ≤ 140737488351232)
    (h : ∀ A' C' w', w'.ownsRow w.heap.size 3 1 (.slice A' ks.length C') ks.length (ints ks) → Below w.heap.size w w' → K (a.put o.dst (.slice A' ks.length C')) w') :
    if Region.wanted o (yielded ops a.tmps) = true then Oper.wp Try.prog o a w K Q else E := by
  have hw : Region.wanted o (yielded ops a.tmps) = true := by simp [Region.wanted, hgd]
  rw [if_pos hw]
  obtain ⟨i0, hi, hz0, hz1, hz2⟩ := info_parts infoInt
  cases A with
  | none =>
    have hk : ks = [] := by
      rcases hr with hr | ⟨b, o', hA, _⟩
      · cases ks with
        | nil => rfl
        | cons y r => simp [ints] at hr
      · cases hA
    subst hk
    obtain rfl := hn rfl
    have hrun := run_append_owned_none (P := Try.prog) (w := w) w.heap.size 55 o.type 3 i0 1 Try.underlying55 hi (.slice none 0 0) 0 [] (World.ownsRow_nil _ _ _ _)
    have hx' : a.eval x = .slice none 0 0 := hx
    have h' := h none 0 w (World.ownsRow_nil _ _ _ _) (Below.refl _ _)
    unfold Oper.wp
    simp [execOp, ho, resolve, invoke, builtin, hs, hx', hrun, Result.andThen]
    exact h'
  | some ad =>
    refine wp_append_own (P := Try.prog) w s x 55 ho w.heap.size 3 i0 _ 1 8 Try.underlying55 hi hz0 hz1 hz2 rfl (by decide) (.slice none 0 0) 0 [] hs (World.ownsRow_nil _ _ _ _) ad ks.length C (ints ks) hx (by simp [ints]) (news_of hr) (ints_one ks) (by unfold maxLen; omega) (by omega) (Nat.le_refl _) ?_
    intro v' w' hown hg _
    rw [Nat.zero_add, List.nil_append] at hown
    obtain ⟨A', C', rfl, -⟩ := own_row hown
    exact h A' C' w' hown ((Below.refl _ _).grown hg (Nat.le_refl _) (by intro k hk; cases hk))

/-- What stands where a round begins. -/
structure CopT (w wr : World) (A : Option Addr) (C : Nat) (r : Int) (n : Nat) (Av : Option Addr) (Cv : Nat) (qs : List PN) : Prop where
  bel : Below w.heap.size w wr
  src : RowL wr w.heap.size 24 [.slice A n C, .int .i64 r]
  res : RowL wr (w.heap.size + 1) 24 [.slice none 0 0, .int .i64 0]
  out : RowL wr (w.heap.size + 1 + 1) 24 [.slice Av qs.length Cv, .int .i64 r]
  own : wr.ownsRow (w.heap.size + 3) 58 5 (.slice Av qs.length Cv) qs.length (flatN qs)
  each : ∀ q ∈ qs, q.own (w.heap.size + 3) wr
  ap : ∀ k, (Value.slice Av qs.length Cv).ownBlock = some k → k ∉ qs.flatMap PN.blocks

theorem CopT.start (w : World) (A : Option Addr) (C : Nat) (r : Int) (n : Nat) :
    CopT w (((w.alloc (.cells #[.slice A n C, .int .i64 r] 24)).alloc (.cells #[.slice none 0 0, .int .i64 0] 24)).alloc (.cells #[.slice none 0 0, .int .i64 r] 24)) A C r n none 0 [] := by
  have s1 : (w.alloc (.cells #[.slice A n C, .int .i64 r] 24)).heap.size = w.heap.size + 1 := by simp
  have s2 : ((w.alloc (.cells #[.slice A n C, .int .i64 r] 24)).alloc (.cells #[.slice none 0 0, .int .i64 0] 24)).heap.size = w.heap.size + 1 + 1 := by simp
  refine ⟨(((Below.refl _ _).alloc (Nat.le_refl _) _).alloc (by simp) _).alloc (by simp; omega) _, ?_, ?_, ?_, World.ownsRow_nil _ _ _ _, by simp, by simp⟩
  · show _ = _
    rw [Below.heap_alloc _ _ _ (by omega), Below.heap_alloc _ _ _ (by omega)]; exact heap_alloc_new w _
  · show _ = _
    rw [Below.heap_alloc _ _ _ (by omega), ← s1]; exact heap_alloc_new _ _
  · show _ = _
    rw [← s2]; exact heap_alloc_new _ _

theorem CopT.below {w wr w4 : World} {A Av : Option Addr} {C Cv n : Nat} {r : Int} {qs : List PN} (h : CopT w wr A C r n Av Cv qs) (hb : Below wr.heap.size wr w4) : CopT w w4 A C r n Av Cv qs :=
  ⟨nextB h.bel (Nat.le_refl _) hb, h.src.below hb h.src.lt, h.res.below hb h.res.lt, h.out.below hb h.out.lt, own_next h.own hb, fun q hq => (h.each q hq).of_blocks fun k hk => hb.block k ((h.each q hq).lt k hk).2, h.ap⟩

theorem own_block_lt {w : World} {base : Nat} {e : TypeId} {size n C : Nat} {A : Option Addr} {vs : List Value} (h : w.ownsRow base e size (.slice A n C) n vs) : ∀ k, (Value.slice A n C).ownBlock = some k → base ≤ k ∧ k < w.heap.size := fun k hk => h.lt k hk

theorem CopT.step {w wr w4 w5 : World} {A Av : Option Addr} {C Cv n g' C' : Nat} {r : Int} {qs : List PN} {q : PN} {o : Obj} (h : CopT w wr A C r n Av Cv qs) (hb : Below wr.heap.size wr w4) (hq : q.own wr.heap.size w4)
    (hown : w5.ownsRow (w.heap.size + 3) 58 5 (.slice (some ⟨g', 0, none⟩) (qs.length + 1) C') (qs.length + 1) (flatN qs ++ flatN [q])) (hgrow : (w4.alloc o).grownBy w5 (Value.slice Av qs.length Cv).ownBlock) (hat : (Value.slice Av qs.length Cv).ownBlock = some g' ∨ g' = w4.heap.size + 1) :
    CopT w (w5.setCell ⟨w.heap.size + 1 + 1, 0, none⟩ (.slice (some ⟨g', 0, none⟩) (qs.length + 1) C')) A C r n (some ⟨g', 0, none⟩) C' (qs ++ [q]) := by
  have hov := own_block_lt h.own
  have hl := h.out.lt
  have hsz := hb.size
  have h4 := h.below hb
  have hl4 := h4.out.lt
  have hk1 : ∀ k, k < w4.heap.size → (Value.slice Av qs.length Cv).ownBlock ≠ some k → w5.heap[k]? = w4.heap[k]? := fun k hk hne => (hgrow.block k (by simp; omega) (fun e => hne e.symm)).trans (Below.heap_alloc _ _ _ hk)
  have hk2 : ∀ k, k ≠ w.heap.size + 1 + 1 → (w5.setCell ⟨w.heap.size + 1 + 1, 0, none⟩ (.slice (some ⟨g', 0, none⟩) (qs.length + 1) C')).heap[k]? = w5.heap[k]? := fun k hne => Below.heap_setCell _ _ _ _ hne
  have hlow : ∀ k, k < w.heap.size + 3 → w5.heap[k]? = w4.heap[k]? := fun k hk => hk1 k (by omega) (fun e => by have := (hov k e).1; omega)
  have hg3 : w.heap.size + 3 ≤ g' := by
    rcases hat with e | e
    · exact (hov _ e).1
    · omega
  have hold : ∀ x ∈ qs, ∀ k ∈ x.blocks, w.heap.size + 3 ≤ k ∧ k < wr.heap.size := fun x hx => (h.each x hx).lt
  have hnew := hq.lt
  have hq3 : q.own (w.heap.size + 3) w4 := ⟨own_mono hq.e (by omega), own_mono hq.k (by omega), own_mono hq.d (by omega), own_mono hq.b (by omega), hq.ez, hq.kz, hq.dz, hq.bz⟩
  refine ⟨?_, ?_, ?_, ?_, ?_, fun x hx => ?_, fun k hk => ?_⟩
  · refine ⟨hgrow.os.trans h4.bel.os, hgrow.tape.trans h4.bel.tape, hgrow.output.trans h4.bel.output, ?_, fun k hk => ?_⟩
    · have h1 := hgrow.size
      have h2 := h4.bel.size
      simp at h1
      simp
      omega
    · rw [hk2 k (by omega), hlow k (by omega)]
      exact h4.bel.block k hk
  · exact h4.src.of_block ((hk2 _ (by omega)).trans (hlow _ (by omega)))
  · exact h4.res.of_block ((hk2 _ (by omega)).trans (hlow _ (by omega)))
  · have hr : RowL w5 (w.heap.size + 1 + 1) 24 [.slice Av qs.length Cv, .int .i64 r] := h4.out.of_block (hlow _ (by omega))
    rw [List.length_append]
    exact hr.set 0 _
  · rw [flatN_append, List.length_append]
    exact own_of_block hown fun k hk => hk2 k (by have : g' = k := (by simpa [Value.ownBlock] using hk); omega)
  · rcases List.mem_append.1 hx with hx | hx
    · refine (h4.each x hx).of_blocks fun k hk => ?_
      have h1 := hold x hx k hk
      rw [hk2 k (by omega), hk1 k (by omega) (fun e => h.ap k e (List.mem_flatMap.2 ⟨x, hx, hk⟩))]
    · obtain rfl : x = q := by simpa using hx
      refine hq3.of_blocks fun k hk => ?_
      have h1 := hnew k hk
      rw [hk2 k (by omega), hk1 k (by omega) (fun e => by have := (hov k e).2; omega)]
  · have hgk : g' = k := by simpa [Value.ownBlock] using hk
    subst hgk
    simp only [List.flatMap_append, List.flatMap_cons, List.flatMap_nil, List.append_nil, List.mem_append, not_or]
    refine ⟨fun e => ?_, fun e => ?_⟩
    · rcases hat with h1 | h1
      · exact h.ap _ h1 e
      · obtain ⟨x, hx, hk⟩ := List.mem_flatMap.1 e
        have := (hold x hx _ hk).2
        omega
    · have h2 := hnew _ e
      rcases hat with h1 | h1
      · have := (hov _ h1).2; omega
      · omega

theorem CopT.fin {w wr : World} {A Av : Option Addr} {C Cv n : Nat} {r : Int} {qs : List PN} (h : CopT w wr A C r n Av Cv qs) (hz : qs.length * 104 ≤ 140737488351232) (v0 v1 : Value) :
    NodesAt ((wr.setCell ⟨w.heap.size + 1, 0, none⟩ v0).setCell ⟨w.heap.size + 1, 1, none⟩ v1).heap.size ((wr.setCell ⟨w.heap.size + 1, 0, none⟩ v0).setCell ⟨w.heap.size + 1, 1, none⟩ v1) Av qs ∧ Below w.heap.size w ((wr.setCell ⟨w.heap.size + 1, 0, none⟩ v0).setCell ⟨w.heap.size + 1, 1, none⟩ v1) := by
  have hother : ∀ b, b ≠ w.heap.size + 1 → ((wr.setCell ⟨w.heap.size + 1, 0, none⟩ v0).setCell ⟨w.heap.size + 1, 1, none⟩ v1).heap[b]? = wr.heap[b]? := by
    intro b hbg
    simp only [Below.heap_setCell _ _ _ _ (show b ≠ (⟨w.heap.size + 1, _, none⟩ : Addr).block from hbg)]
  refine ⟨⟨(own_ok (own_of_block h.own fun k hk => hother k (by have := (own_block_lt h.own k hk).1; omega))).1, fun k hk => ?_, hz⟩, ?_⟩
  · have hq := h.each _ (List.getElem_mem hk)
    exact (hq.of_blocks fun b hb => hother b (by have := (hq.lt b hb).1; omega)).ok
  · exact (h.bel.setCell (p := ⟨w.heap.size + 1, 0, none⟩) (by show _ ≤ w.heap.size + 1; omega) _).setCell (p := ⟨w.heap.size + 1, 1, none⟩) (by show _ ≤ w.heap.size + 1; omega) _

end Go.Proofs.Ytlojfgdpmaigmab

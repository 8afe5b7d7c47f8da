/- A node of a tree in memory of one's own adopts the siblings of a kid. -/
import Derived.Test.YtlojfgdpmaigmabP44
import Derived.Test.YtlojfgdpmaigmabP16
import Derived.Test.YtlojfgdpmaigmabP36
namespace Go.Proofs.Ytlojfgdpmaigmab
open Go.RowKit Plain

theorem own_split {w : World} {base g C n : Nat} {e : TypeId} {size : Nat} {vs : List Value} (h : w.ownsRow base e size (.slice (some ⟨g, 0, none⟩) n C) n vs) : ∃ cur : List Value, RowL w g e cur ∧ cur.length = C * size ∧ cur.take (n * size) = vs ∧ n ≤ C ∧ C ≤ maxLen ∧ base ≤ g := by
  rcases h.2 with ⟨hv, _⟩ | ⟨g', cap, cur, hv, hb, hg, hl, hm, hs, ht⟩
  · cases hv
  · cases hv
    exact ⟨cur.toList, by unfold RowL; rw [hg], by simpa using hs, ht, hl, hm, hb⟩

theorem own_glue {w : World} {base g C n : Nat} {e : TypeId} {size : Nat} {vs cur : List Value} (hr : RowL w g e cur) (hl : cur.length = C * size) (ht : cur.take (n * size) = vs) (hn : n ≤ C) (hm : C ≤ maxLen) (hb : base ≤ g) (hv : vs.length = n * size) : w.ownsRow base e size (.slice (some ⟨g, 0, none⟩) n C) n vs :=
  ⟨hv, .inr ⟨g, C, cur.toArray, rfl, hb, hr, hn, hm, by simpa using hl, by simpa using ht⟩⟩

theorem keysAt_all (keys : List Int) (i : Nat) (more : List (Int × Int)) : keysAt keys i more more.length = keys.take i ++ more.map (·.1) ++ keys.drop i := by unfold keysAt; rw [List.take_length]
theorem kidsAt_all (kids : List Int) (i : Nat) (more : List (Int × Int)) : kidsAt kids i more more.length = kids.take (i + 1) ++ more.map (·.2) ++ kids.drop (i + 1) := by unfold kidsAt; rw [List.take_length]

theorem nodup_swap2 {B : Nat} {E K D K' D' X : List Nat} (h : (E ++ (K ++ (D ++ X))).Nodup) (hK : K'.Nodup) (hD : D'.Nodup) (hKD : ∀ b ∈ K', b ∉ D') (hk : ∀ b ∈ K', b ∈ K ∨ B ≤ b) (hd : ∀ b ∈ D', b ∈ D ∨ B ≤ b) (hlt : ∀ b ∈ E ++ (K ++ (D ++ X)), b < B) : (E ++ (K' ++ (D' ++ X))).Nodup := by
  simp only [List.nodup_append, List.mem_append] at h hlt ⊢
  obtain ⟨hE, ⟨_, ⟨_, hX, hDX⟩, hKDX⟩, hEK⟩ := h
  refine ⟨hE, ⟨hK, ⟨hD, hX, fun a ha b hb e => ?_⟩, fun a ha b hb e => ?_⟩, fun a ha b hb e => ?_⟩
  · rcases hd a ha with q | q
    · exact hDX a q b hb e
    · have := hlt b (.inr (.inr (.inr hb))); omega
  · rcases hb with hb | hb
    · exact hKD a ha (e ▸ hb)
    · rcases hk a ha with q | q
      · exact hKDX a q b (.inr hb) e
      · have := hlt b (.inr (.inr (.inr hb))); omega
  · rcases hb with hb | hb | hb
    · rcases hk b hb with q | q
      · exact hEK a ha b (.inl q) e
      · have := hlt a (.inl ha); omega
    · rcases hd b hb with q | q
      · exact hEK a ha b (.inr (.inl q)) e
      · have := hlt a (.inl ha); omega
    · exact hEK a ha b (.inr (.inr hb)) e

theorem adoptT (base tb g C : Nat) (qs : List PN) (root : Int) (k i : Nat) (mA : Option Addr) (mC : Nat) (more : List (Int × Int)) (w : World) (hT : TB base w tb g C qs root) (hk : k < qs.length) (hi : i < (qs[k]).kids.length) (hkl : (qs[k]).keys.length + 1 = (qs[k]).kids.length) (hB : base ≤ w.heap.size) (hm : RowAt w.heap.size w mA (flatS more)) (hmb : ∀ a, mA = some a → a.block ∉ feet g qs) (hz : ((qs[k]).kids.length + more.length + 1) * 8 ≤ 140737488351232) :
    Calls Try.prog 61 #[.pointer (some ⟨g, k * 5, none⟩), .int .i64 (i : Int), .slice mA more.length mC] w
      fun e w' => e = .returned (.tuple #[]) ∧ ∃ qs', TB base w' tb g C qs' root ∧ qs'.map PN.nd = adoptAt (qs.map PN.nd) (k : Int) i more ∧ qs'.length = qs.length ∧ Kept (feet g qs) w w' ∧ ∀ b ∈ feet g qs', b ∈ feet g qs ∨ w.heap.size ≤ b := by
  obtain ⟨b1, b2, b3, b4⟩ := hT.nt.blocks_nodup hk
  have ho := hT.nt.each _ (List.getElem_mem hk)
  have hlt := ho.lt
  have hfl := hT.nt.lt
  have hx := nth_map hk
  obtain ⟨cur, hrow, hcl, hct, hnC, hCm, hbg⟩ := own_split hT.nt.own
  obtain ⟨q, hq⟩ : ∃ q, qs[k] = q := ⟨_, rfl⟩
  have hcell : ∀ j, j < 5 → ∀ u, q.vals[j]? = some u → cur[k * 5 + j]? = some u := fun j hj u hu => by
    have := flatN_get qs k j hk hj
    rw [← hct, List.getElem?_take, if_pos (by omega), hq] at this
    rw [this]; exact hu
  rw [hq] at b1 b2 b3 b4 ho hlt hi hkl hz hx
  have hbe := blocks_eq q
  have hset2 : cur.set (k * 5 + 2) (.slice q.kA q.keys.length q.kC) = cur := by
    have h := hcell 2 (by decide) _ rfl
    obtain ⟨h1, h2⟩ := List.getElem?_eq_some_iff.1 h
    rw [← h2, List.set_getElem_self]
  have hset3 : cur.set (k * 5 + 3) (.slice q.dA q.kids.length q.dC) = cur := by
    have h := hcell 3 (by decide) _ rfl
    obtain ⟨h1, h2⟩ := List.getElem?_eq_some_iff.1 h
    rw [← h2, List.set_getElem_self]
  have hgk : g ∉ obk q.kA := fun e => b3 (by rw [hbe]; simp [e])
  have hgd : g ∉ obk q.dA := fun e => b3 (by rw [hbe]; simp [e])
  have hkd : ∀ b ∈ obk q.kA, b ∉ obk q.dA := fun b h1 h2 => by
    rw [hbe] at b1
    simp only [List.nodup_append, List.mem_append] at b1
    exact b1.2.1.2.2 b h1 b (.inl h2) rfl
  have hA : AdAt base w g (k * 5) 58 cur q.kA q.dA w q.kA q.kC q.keys q.dA q.dC q.kids :=
    ⟨by rw [hset2, hset3]; exact hrow, ho.k, ho.d, Kept.refl _ _, fun _ h => .inl h, fun _ h => .inl h, hkd, hgk, hgd⟩
  refine (adopt_any base g (k * 5) 58 cur q.kA q.kC q.keys q.dA q.dC q.kids i mA mC more w hA (by rw [hcl]; omega) hB hm (fun a ha => ?_) (by omega) (by omega) (by omega) hz).mono ?_
  · have := hmb a ha
    intro e
    simp only [List.cons_append, List.mem_cons, List.mem_append] at e
    rcases e with e | e | e
    · exact this (e ▸ List.mem_cons_self)
    · exact this (b2 _ (by rw [hbe]; simp [e]))
    · exact this (b2 _ (by rw [hbe]; simp [e]))
  · rintro e w' ⟨rfl, kA', kC', dA', dC', hA'⟩
    rw [keysAt_all, kidsAt_all] at hA'
    have hkl' : (q.keys.take i ++ more.map (·.1) ++ q.keys.drop i).length = q.keys.length + more.length := by simp; omega
    have hdl' : (q.kids.take (i + 1) ++ more.map (·.2) ++ q.kids.drop (i + 1)).length = q.kids.length + more.length := by simp; omega
    generalize hK : q.keys.take i ++ more.map (·.1) ++ q.keys.drop i = keys' at hA' hkl'
    generalize hD : q.kids.take (i + 1) ++ more.map (·.2) ++ q.kids.drop (i + 1) = kids' at hA' hdl'
    obtain ⟨p, hp⟩ : ∃ p : PN, p = { q with keys := keys', kA := kA', kC := kC', kids := kids', dA := dA', dC := dC' } := ⟨_, rfl⟩
    have hpb : p.blocks = obk q.eA ++ (obk kA' ++ (obk dA' ++ obk q.bA)) := by rw [blocks_eq, hp]
    have hblk : ∀ b ∈ p.blocks, b ∈ q.blocks ∨ w.heap.size ≤ b := by
      intro b hb
      rw [hpb] at hb
      rw [hbe]
      simp only [List.mem_append] at hb ⊢
      rcases hb with e | e | e | e
      · exact .inl (.inl e)
      · rcases hA'.lk b e with e | e
        · exact .inl (.inr (.inl e))
        · exact .inr e
      · rcases hA'.ld b e with e | e
        · exact .inl (.inr (.inr (.inl e)))
        · exact .inr e
      · exact .inl (.inr (.inr (.inr e)))
    have hnd : p.blocks.Nodup := by
      rw [hpb]
      rw [hbe] at b1 hlt
      exact nodup_swap2 b1 (obk_nodup _) (obk_nodup _) hA'.ne hA'.lk hA'.ld (fun b hb => (hlt b hb).2)
    obtain ⟨f1, f2⟩ := feet_turn (p := p) (B := w.heap.size) hk hT.nt.apart hnd (fun b hb => (hfl b hb).2) (by rw [hq]; exact hblk)
    have hfar : ∀ b, b ∈ feet g qs → b ≠ g → b ∉ obk q.kA → b ∉ obk q.dA → w'.heap[b]? = w.heap[b]? := fun b h1 h2 h3 h4 => hA'.kept.block b (hfl b h1).2 (by simp [h2, h3, h4])
    have hkept : Kept (feet g qs) w w' := hA'.kept.mono fun b hb => by
      simp only [List.cons_append, List.mem_cons, List.mem_append] at hb
      rcases hb with rfl | e | e
      · exact List.mem_cons_self
      · exact b2 _ (by rw [hbe]; simp [e])
      · exact b2 _ (by rw [hbe]; simp [e])
    have hgn : ∀ b ∈ q.blocks, b ≠ g := fun b hb e => b3 (e ▸ hb)
    refine ⟨rfl, qs.set k p, ⟨⟨?_, fun s hs => ?_, f1, by simpa using hT.nt.z⟩, ?_, ?_, hT.hb⟩, ?_, by simp, hkept, f2⟩
    · have e1 : p.vals = (q.vals.set 2 (.slice kA' keys'.length kC')).set 3 (.slice dA' kids'.length dC') := by rw [hp]; rfl
      have e2 : flatN (qs.set k p) = ((flatN qs).set (k * 5 + 2) (.slice kA' keys'.length kC')).set (k * 5 + 3) (.slice dA' kids'.length dC') := by
        obtain ⟨p1, hp1⟩ : ∃ p1 : PN, p1 = { q with keys := keys', kA := kA', kC := kC' } := ⟨_, rfl⟩
        have s1 := flatN_setF qs k 2 (.slice kA' keys'.length kC') p1 hk (by decide) (by rw [hq, hp1]; rfl)
        have s2 := flatN_setF (qs.set k p1) k 3 (.slice dA' kids'.length dC') p (by simpa using hk) (by decide) (by rw [List.getElem_set_self, hp, hp1]; rfl)
        rw [s1, s2, List.set_set]
      rw [e2, List.length_set]
      refine own_glue hA'.row (by simp [hcl]) ?_ hnC hCm hbg (by simp [flatN_length])
      rw [List.take_set, List.take_set, hct]
    · rw [(set_split qs k p hk).2] at hs
      have hs' : s ∈ qs.take k ++ qs.drop (k + 1) ∨ s = p := by
        simp only [List.mem_append, List.mem_cons] at hs ⊢
        rcases hs with e | e | e
        · exact .inl (.inl e)
        · exact .inr e
        · exact .inl (.inr e)
      rcases hs' with hs' | rfl
      · have hsm : s ∈ qs := by
          rcases List.mem_append.1 hs' with e | e
          · exact List.mem_of_mem_take e
          · exact List.mem_of_mem_drop e
        refine (hT.nt.each s hsm).of_blocks fun b hbs => ?_
        have hbf : b ∈ feet g qs := List.mem_cons_of_mem _ (List.mem_flatMap.2 ⟨s, hsm, hbs⟩)
        have hbg' : b ≠ g := fun e => by
          have ha := hT.nt.apart
          rw [feet, List.nodup_cons] at ha
          exact ha.1 (List.mem_flatMap.2 ⟨s, hsm, e ▸ hbs⟩)
        have hbq := b4 s hs' b hbs
        rw [hbe] at hbq
        simp only [List.mem_append, not_or] at hbq
        exact hfar b hbf hbg' hbq.2.1 hbq.2.2.1
      · have hrest : ∀ b, b ∈ obk q.eA ∨ b ∈ obk q.bA → w'.heap[b]? = w.heap[b]? := fun b hb => by
          have hbq : b ∈ q.blocks := by rw [hbe]; rcases hb with e | e <;> simp [e]
          rw [hbe] at b1
          simp only [List.nodup_append, List.mem_append] at b1
          refine hfar b (b2 b hbq) (hgn b hbq) (fun e => ?_) (fun e => ?_)
          · rcases hb with q1 | q1
            · exact b1.2.2 b q1 b (.inl e) rfl
            · exact b1.2.1.2.2 b e b (.inr q1) rfl
          · rcases hb with q1 | q1
            · exact b1.2.2 b q1 b (.inr (.inl e)) rfl
            · exact b1.2.1.2.1.2.2 b e b q1 rfl
        rw [hp]
        exact ⟨own_of_block ho.e fun b hb => hrest b (.inl (obk_of hb)), hA'.ok, hA'.od, own_of_block ho.b fun b hb => hrest b (.inr (obk_of hb)), ho.ez, by show keys'.length * 8 ≤ _; omega, by show kids'.length * 8 ≤ _; omega, ho.bz⟩
    · rw [List.length_set]
      exact hkept.row hT.box (fun e => hT.ne e)
    · intro e
      rcases f2 _ e with e | e
      · exact hT.ne e
      · have := hT.box.lt; omega
    · rw [List.map_set]
      unfold adoptAt
      rw [hx]
      show (qs.map PN.nd).set k p.nd = (qs.map PN.nd).set ((k : Int).toNat) (adoptN q.nd i more)
      congr 1
      rw [hp]
      unfold adoptN PN.nd
      simp only
      rw [hK, hD]

end Go.Proofs.Ytlojfgdpmaigmab

/- The survey of a tree, and Check. -/
import Derived.Test.YtlojfgdpmaigmafGreatDoorP20
import Derived.Test.YtlojfgdpmaigmafGreatDoorP18
import Derived.Test.YtlojfgdpmaigmafGreatDoorP12
import Derived.Test.YtlojfgdpmaigmafGreatDoorP13
import Derived.Test.YtlojfgdpmaigmafGreatDoorP16
import Derived.Test.YtlojfgdpmaigmafGreatDoorP15
namespace Go.Proofs.YtlojfgdpmaigmafGreatDoor
section
open Go.RowKit Plain Go.Maps

theorem qqx {w w1 : World} {mb : Nat} {S : St} {D : DataW Unit} {m d : Int} (hown : w.ownsMap Tryz.prog 3 (plainElem Tryz.prog 3) mb S.length D) (hhas : ∀ n : Int, Maps.has D (.int .i64 n) = q6l S n) (hat : ∀ p ∈ S, D.atKey (.int .i64 p.1) (.lit (.int .i64 0)) = .lit (.int .i64 p.2)) (hsize : Maps.size D = S.length)
   (hw : (Lit.int .i64 m).wf = true) (hs : q6l S m = false) (hown1 : w1.ownsMap Tryz.prog 3 (plainElem Tryz.prog 3) mb (S.length + 1) (D.put (.int .i64 m) (.lit (.int .i64 d)))) : qg3 w1 mb ((m, d) :: S) := by
 have hk := law.key (keyOf_int_mk Tryz.underlying3 hw)
 refine ⟨_, hown1, fun n => ?_, fun p hp => ?_, ?_⟩
 · by_cases e : n = m
   · subst e
     rw [has_put_same hown.isMap hk]
     simp [q6l]
   · rw [has_put_other (by intro h; exact e (by simpa using h)), hhas n]
     unfold q6l
     rw [List.any_cons, show (((m, d) : Int × Int).1 == n) = false by simp; exact fun h => e h.symm, Bool.false_or]
 · rcases List.mem_cons.1 hp with rfl | hp
   · exact atKey_put_same hown.isMap hk _ _
   · have hne : p.1 ≠ m := by
       intro e
       have : q6l S m = true := seenB_iff.2 (e ▸ List.mem_map.2 ⟨p, hp, rfl⟩)
       rw [hs] at this
       cases this
     rw [atKey_put_other (by intro h; exact hne (by simpa using h))]
     exact hat p hp
 · rw [size_put (hown.tidy law), hhas m, hs]
   simp [hsize]

theorem qao {w w1 : World} {q mb : Nat} (h : w.grownBy w1 (some mb)) : Kept [q, mb] w w1 :=
 ⟨h.os, h.tape, h.output, h.size, fun k hk hx => h.block k hk (by intro e; cases e; simp at hx)⟩

theorem StOk.len {N : Nat} {S : St} (h : StOk N S) : S.length ≤ N := by
 have h1 := q5v (S.map (·.1)) ((List.range N).map (fun i : Nat => (i : Int))) h.1 (fun x hx => by
   obtain ⟨p, hp, rfl⟩ := List.mem_map.1 hx
   have := h.2 p hp
   exact List.mem_map.2 ⟨p.1.toNat, by simp; omega, by omega⟩)
 simpa using h1

theorem StOk.cons {N : Nat} {S : St} (h : StOk N S) {m d : Int} (h0 : 0 ≤ m) (h1 : m < (N : Int)) (hs : q6l S m = false) : StOk N ((m, d) :: S) := by
 refine ⟨?_, fun p hp => ?_⟩
 · rw [List.map_cons, List.nodup_cons]
   exact ⟨fun e => (by rw [seenB_iff.2 e] at hs; cases hs), h.1⟩
 · rcases List.mem_cons.1 hp with rfl | hp
   · exact ⟨h0, h1⟩
   · exact h.2 p hp

theorem qtg (x : Nd) (low high : Int) (f : Nat) (L d : Int) (S1 : St) :
   resN L (if q9q x low high f = true then some (S1, [d]) else none) = q5u x low high f L d ∧ ∀ S' l, (if q9q x low high f = true then some (S1, [d]) else none) = some (S', l) → okL L l = true → S' = S1 ∧ q4s L l = (if L = 0 then d else L) ∧ q5u x low high f L d = true := by
 by_cases h : q9q x low high f = true
 · have e : okL L [d] = decide (L = 0 ∨ L = d) := by
     by_cases h0 : L = 0
     · simp [okL, h0]
     · rw [Bool.eq_iff_iff]
       simp [okL, h0]
       exact eq_comm
   simp only [h, if_true, resN, q5u, Bool.and_true]
   refine ⟨e, fun S' l hs hk => ?_⟩
   cases hs
   exact ⟨rfl, by simp [q4s], by rw [← e]; exact hk⟩
 · have h' : q9q x low high f = false := by simpa using h
   simp [h', resN, q5u]

set_option maxRecDepth 20000 in
set_option maxHeartbeats 4000000 in
theorem qs4 (A : Option Addr) (C : Nat) (ps : List PN) (q mb B : Nat) (hwf : ∀ p ∈ ps, p.wf) (hps : ps.length ≤ 2000) (hBq : B ≤ q) (hBm : B ≤ mb) : ∀ (f : Nat), f ≤ 12 → ∀ (n low high d L : Int) (S : St) (w : World), d + (f : Int) = 13 → q0j B w A ps → Sur w q mb A ps.length C S L → StOk ps.length S → 0 ≤ low → high ≤ 9223372036854775807 →
   Calls Tryz.prog 131 #[.pointer (some ⟨q, 0, none⟩), .int .i64 n, .int .i64 d, .int .i64 low, .int .i64 high] w
     fun e w' => e = .returned (.bool (resN L (W (ps.map PN.nd) f n low high S))) ∧ Kept [q, mb] w w' ∧ ∀ S' l, W (ps.map PN.nd) f n low high S = some (S', l) → okL L l = true → Sur w' q mb A ps.length C S' (q4s L l) := by
 intro f
 induction f with
 | zero =>
   intro _ n low high d L S w hd0 hN hS _ hlow hhigh
   obtain rfl : d = 13 := by omega
   clear hd0
   have hz := hN.z
   have q0 := hS.row.cell 0
   simp only [List.getElem?_cons_zero] at q0
   have E0 : Hid (resN L (W (ps.map PN.nd) 0 n low high S) = false) := rfl
   go_enter Tryz.func131, Tryz.ntmps131
   go_wp2_with fail
   all_goals go_ret
   all_goals exact ⟨q0y E0.out.symm, Kept.refl _ _, fun _ _ h => by cases h⟩
 | succ f ih =>
   intro hf n low high d L S w hd0 hN hS hst hlow hhigh
   have hd1 : 1 ≤ d := by omega
   have hd2 : d ≤ 12 := by omega
   have HD : Hid (d = 12 - (f : Int)) := by show _ = _; omega
   clear hd0
   have hz := hN.z
   have hqs := hS.row.lt
   have hms := hS.map.lt
   have q0 := hS.row.cell 0
   have q1 := hS.row.cell 1
   simp only [List.getElem?_cons_zero, List.getElem?_cons_succ] at q0 q1
   by_cases hout : n < 0 ∨ (ps.length : Int) ≤ n ∨ high ≤ low
   · have E0 : Hid (W (ps.map PN.nd) (f + 1) n low high S = none) := qy6 (by simp only [List.length_map]; omega)
     rw [E0.out]
     clear ih
     rcases hout with h | h | h
     all_goals
       go_enter Tryz.func131, Tryz.ntmps131
       go_wp2_with fail
       all_goals go_ret
       all_goals first | exact ⟨rfl, Kept.refl _ _, fun _ _ h => by cases h⟩ | exact ⟨rfl, Kept.refl _ _⟩
   · obtain ⟨m, rfl⟩ : ∃ m : Nat, n = m := ⟨n.toNat, by omega⟩
     have hm : m < ps.length := by omega
     have hlh : low < high := by omega
     have hwm : (Lit.int .i64 (m : Int)).wf = true := WalkArith.wf_i64 (by omega)
     have hwd : (Lit.int .i64 d).wf = true := WalkArith.wf_i64 (by omega)
     have j1 : ¬ (ps.length : Int) ≤ (m : Int) := by omega
     have j2 : ¬ high ≤ low := by omega
     clear hout
     obtain ⟨D, hown, hhas, hatk, hsize⟩ := hS.map
     have hkey := keyOf_int_mk Tryz.underlying3 hwm
     by_cases hseen : q6l S (m : Int) = true
     · have E0 : Hid (W (ps.map PN.nd) (f + 1) m low high S = none) := qy6 (.inr (.inr (.inr hseen)))
       rw [E0.out]
       have hh := (hhas m).trans hseen
       clear ih hhas hatk hsize
       go_enter Tryz.func131, Tryz.ntmps131
       go_wp2_with (first | (at_lookup; refine wpList_lookup_own_ok_int _ rfl _ _ 176 rfl 3 3 .i64 law Tryz.underlying176 Tryz.underlying3 (qub _) mb _ D rfl hown _ _ rfl hkey ?_; intro c hat hwc))
       go_ret
       first | exact ⟨rfl, Kept.refl _ _, fun _ _ h => by cases h⟩ | exact ⟨rfl, Kept.refl _ _⟩
     · have hseen' : q6l S (m : Int) = false := by simpa using hseen
       obtain ⟨b, o, rfl, hbl, c0, c1, c2, c3, c4⟩ := hN.row.pn hm
       have ok := hN.each m hm
       have hwp := hwf _ (List.getElem_mem hm)
       have hx : (ps.map PN.nd)[m]'(by simpa using hm) = (ps[m]).nd := by simp
       have hml : m < (ps.map PN.nd).length := by simpa using hm
       have hat : PnAt w b (o + m * 5) ps[m] := ⟨c0, c1, c2, c3, c4⟩
       have hWl := qyf (f := f) (low := low) (high := high) (S := S) hml hx hlh hseen'
       have hWi := qwp (f := f) (low := low) (high := high) (S := S) hml hx hlh hseen'
       clear c1 c2 c3 c4 hx
       generalize ps[m] = p at *
       obtain ⟨leaf, eA, eC, ents, kA, kC, keys, dA, dC, kids, bA, bC, buf⟩ := p
       have hh := (hhas m).trans hseen'
       have hsl : S.length ≤ ps.length := hst.len
       have hst1 : StOk ps.length (((m : Int), d) :: S) := hst.cons (by omega) (by omega) hseen'
       have hne : q ≠ mb := hS.ne
       have dd := HD.out
       have HA : Hid (∀ w1 : World, w1.ownsMap Tryz.prog 3 (plainElem Tryz.prog 3) mb (S.length + 1) (D.put (.int .i64 (m : Int)) (.lit (.int .i64 d))) → w.grownBy w1 (some mb) → Sur w1 q mb (some ⟨b, o, none⟩) ps.length C (((m : Int), d) :: S) L ∧ PnAt w1 b (o + m * 5) ⟨leaf, eA, eC, ents, kA, kC, keys, dA, dC, kids, bA, bC, buf⟩ ∧ PN.ok B w1 ⟨leaf, eA, eC, ents, kA, kC, keys, dA, dC, kids, bA, bC, buf⟩ ∧ q0j B w1 (some ⟨b, o, none⟩) ps) := by
         intro w1 hown1 hgrow1
         have hb1 : Below B w w1 := (qao (q := q) hgrow1).below (by omega) (by simp; omega)
         refine ⟨⟨hS.row.of_block (hgrow1.block q hqs (by simpa using hne)), qqx hown hhas hatk hsize hwm hseen' hown1, hne⟩, ?_, ok.below hb1 (Nat.le_refl _), hN.below hb1 (Nat.le_refl _)⟩
         obtain ⟨x0, x1, x2, x3, x4⟩ := hat
         exact ⟨(hb1.cell (p := ⟨b, _, none⟩) hbl).trans x0, (hb1.cell (p := ⟨b, _, none⟩) hbl).trans x1, (hb1.cell (p := ⟨b, _, none⟩) hbl).trans x2, (hb1.cell (p := ⟨b, _, none⟩) hbl).trans x3, (hb1.cell (p := ⟨b, _, none⟩) hbl).trans x4⟩
       clear hhas hatk hsize hat ok hseen
       have hbm : ¬ b = mb := by omega
       have hqm : ¬ q = mb := hne
       simp only at c0
       cases hleaf : leaf with
       | true =>
         subst hleaf
         obtain ⟨rs, hrs⟩ : ∃ rs, rs = q5u ⟨true, ents, keys, kids, buf⟩ low high f L d := ⟨_, rfl⟩
         have hW1 : W (ps.map PN.nd) (f + 1) m low high S = if q9q ⟨true, ents, keys, kids, buf⟩ low high f = true then some (((m : Int), d) :: S, [d]) else none := by rw [dd]; exact hWl rfl
         have E1 : Hid (resN L (W (ps.map PN.nd) (f + 1) m low high S) = rs ∧ ∀ S' l, W (ps.map PN.nd) (f + 1) m low high S = some (S', l) → okL L l = true → S' = ((m : Int), d) :: S ∧ q4s L l = (if L = 0 then d else L) ∧ rs = true) := by
           rw [hW1, hrs]
           exact qtg _ _ _ _ _ _ _
         obtain ⟨L', hL'⟩ : ∃ L', L' = if L = 0 then d else L := ⟨_, rfl⟩
         have HL' : Hid (L' = if L = 0 then d else L) := hL'
         clear hL' hWl hWi ih hW1
         have HRS : Hid (rs = q5u ⟨true, ents, keys, kids, buf⟩ low high f L d) := hrs
         clear hrs dd
         go_enter Tryz.func131, Tryz.ntmps131
         go_wp2_with (first
           | (at_lookup; refine wpList_lookup_own_ok_int _ rfl _ _ 176 rfl 3 3 .i64 law Tryz.underlying176 Tryz.underlying3 (qub _) mb _ D rfl hown _ _ rfl hkey ?_; intro c hat hwc)
           | (at_mapUpdate; refine wpList_mapUpdate_own _ rfl _ _ _ 176 rfl 3 3 law Tryz.underlying176 _ mb _ D rfl hown (by unfold maxLen; omega) _ _ _ rfl rfl hkey _ [] (plainElem_int Tryz.underlying3 hwd) ?_; intro w1 hown1 hgrow1; have q0' := hgrow1.cell q0 (by simpa using hqm); have c0' := hgrow1.cell c0 (by simpa using hbm))
           | (go_at_call 158; obtain ⟨g1, g2, g3, g4⟩ := HA.out w1 hown1 hgrow1; refine (qiq b o C ps.length q mb B f m low high d L (((m : Int), d) :: S) w1 true eA eC ents kA kC keys dA dC kids bA bC buf hm hz g2 g3 hbl hBq g1 List.mem_cons_self hlow hhigh hd1 hd2 (by have := HD.out; omega) rs HRS L' HL').mono ?_; rintro e w2 ⟨rfl, hk2, hs2⟩))
         go_ret
         refine ⟨q0y E1.out.1.symm, (qao hgrow1).trans hk2, fun S' l h hk => ?_⟩
         obtain ⟨e1, e2, e3⟩ := E1.out.2 S' l h hk
         rw [e1, e2, ← HL'.out]
         exact hs2 e3
       | false =>
         subst hleaf
         have hW1 : W (ps.map PN.nd) (f + 1) m low high S = if q6c ⟨false, ents, keys, kids, buf⟩ low high = true then Wk (W (ps.map PN.nd) f) kids keys low high (((m : Int), d) :: S) else none := by rw [dd]; exact hWi rfl
         obtain ⟨R, hR⟩ : ∃ R, R = W (ps.map PN.nd) (f + 1) m low high S := ⟨_, rfl⟩
         have HR : Hid (R = if q6c ⟨false, ents, keys, kids, buf⟩ low high = true then Wk (W (ps.map PN.nd) f) kids keys low high (((m : Int), d) :: S) else none) := hR.trans hW1
         rw [← hR]
         have HIH : Hid (∀ (n lo hi L' : Int) (S' : St) (w' : World), q0j B w' (some ⟨b, o, none⟩) ps → Sur w' q mb (some ⟨b, o, none⟩) ps.length C S' L' → StOk ps.length S' → 0 ≤ lo → hi ≤ 9223372036854775807 →
             Calls Tryz.prog 131 #[.pointer (some ⟨q, 0, none⟩), .int .i64 n, .int .i64 (d + 1), .int .i64 lo, .int .i64 hi] w'
               fun e w'' => e = .returned (.bool (resN L' (W (ps.map PN.nd) f n lo hi S'))) ∧ Kept [q, mb] w' w'' ∧ ∀ S'' l, W (ps.map PN.nd) f n lo hi S' = some (S'', l) → okL L' l = true → Sur w'' q mb (some ⟨b, o, none⟩) ps.length C S'' (q4s L' l)) :=
           fun n lo hi L' S' w' a1 a2 a3 a4 a5 => ih (by omega) n lo hi (d + 1) L' S' w' (by omega) a1 a2 a3 a4 a5
         have hkk : ∀ z ∈ keys, z ≤ 9223372036854775807 := fun z hz => (bd (hwp.2.1 z hz)).2
         clear hWl hWi ih hW1 hR dd hwp
         go_enter Tryz.func131, Tryz.ntmps131
         go_wp2_with (first
           | (at_lookup; refine wpList_lookup_own_ok_int _ rfl _ _ 176 rfl 3 3 .i64 law Tryz.underlying176 Tryz.underlying3 (qub _) mb _ D rfl hown _ _ rfl hkey ?_; intro c hat hwc)
           | (at_mapUpdate; refine wpList_mapUpdate_own _ rfl _ _ _ 176 rfl 3 3 law Tryz.underlying176 _ mb _ D rfl hown (by unfold maxLen; omega) _ _ _ rfl rfl hkey _ [] (plainElem_int Tryz.underlying3 hwd) ?_; intro w1 hown1 hgrow1; have q0' := hgrow1.cell q0 (by simpa using hqm); have c0' := hgrow1.cell c0 (by simpa using hbm))
           | (go_at_call 159; obtain ⟨g1, g2, g3, g4⟩ := HA.out w1 hown1 hgrow1; refine (qgc b o C ps q mb B f m low high d L (((m : Int), d) :: S) w1 false eA eC ents kA kC keys dA dC kids bA bC buf hm g4 g2 g3 hkk hbl hBq hBm g1 List.mem_cons_self hst1 hlow hhigh hd1 hd2 hf HIH R HR).mono ?_; rintro e w2 ⟨rfl, hk2, hs2⟩))
         go_ret
         exact ⟨rfl, (qao hgrow1).trans hk2, hs2⟩

end
section
open Go.RowKit Plain Go.Maps

theorem qnn (w : World) (l1 l3 : List Value) (t1 t3 : TypeId) :
   (((w.alloc (.cells l1.toArray t1)).alloc (.map #[] 0)).alloc (.cells l3.toArray t3)).heap[w.heap.size + 1]? = some (.map #[] 0) ∧ RowL (((w.alloc (.cells l1.toArray t1)).alloc (.map #[] 0)).alloc (.cells l3.toArray t3)) (w.heap.size + 2) t3 l3 := by
 have s1 : (w.alloc (.cells l1.toArray t1)).heap.size = w.heap.size + 1 := by simp
 have s2 : ((w.alloc (.cells l1.toArray t1)).alloc (.map #[] 0)).heap.size = w.heap.size + 2 := by simp
 refine ⟨?_, ?_⟩
 · rw [Below.heap_alloc _ _ _ (by omega), ← s1]; exact heap_alloc_new _ _
 · have := q0b ((w.alloc (.cells l1.toArray t1)).alloc (.map #[] 0)) l3 t3
   rwa [s2] at this

theorem qgo (w : World) (A : Option Addr) (N C : Nat) (r : Int) :
   Sur (((w.alloc (.cells #[.slice A N C, .int .i64 r] 26)).alloc (.map #[] 0)).alloc (.cells #[.slice A N C, .map (some (w.heap.size + 1)), .int .i64 0] 178)) (w.heap.size + 2) (w.heap.size + 1) A N C [] 0 := by
 obtain ⟨h1, h2⟩ := qnn w [.slice A N C, .int .i64 r] [.slice A N C, .map (some (w.heap.size + 1)), .int .i64 0] 26 178
 refine ⟨h2, ?_, by omega⟩
 have hm : (w.alloc (.map #[] 0)).ownsMap Tryz.prog 3 (plainElem (H := Unit) Tryz.prog 3) w.heap.size 0 (.map []) := World.ownsMap_made _ _ _ _
 refine ⟨.map [], ?_, fun n => by simp [Maps.has, q6l], by simp, rfl⟩
 unfold World.ownsMap at hm ⊢
 rw [h1]
 have e : (w.alloc (.map #[] 0)).heap[w.heap.size]? = some (.map #[] 0) := heap_alloc_new _ _
 rw [e] at hm
 exact hm

set_option maxRecDepth 20000 in
set_option maxHeartbeats 4000000 in
theorem q3e (A : Option Addr) (C : Nat) (r : Int) (ps : List PN) (w : World) (hN : q0j w.heap.size w A ps) (hwf : ∀ p ∈ ps, p.wf) :
   Calls Tryz.prog 89 #[.agg #[.slice A ps.length C, .int .i64 r]] w fun e w' => e = .returned (.int .i64 (q1e (ps.map PN.nd) r)) ∧ Below w.heap.size w w' := by
 have hz := hN.z
 by_cases hbig : 2000 < ps.length
 · have E0 : Hid (q1e (ps.map PN.nd) r = 1) := by show _ = _; simp [q1e, hbig]
   have hbig' : (2000 : Int) < (ps.length : Int) := by omega
   go_enter Tryz.func89, Tryz.ntmps89
   go_wp2_with fail
   go_ret
   exact ⟨q3m E0.out.symm, (Below.refl _ _).alloc (Nat.le_refl _) _⟩
 · have hn : ¬ 2000 < (ps.map PN.nd).length := by simpa using hbig
   have hmm := @run_makeMap Tryz.prog
   obtain ⟨bb, hbb⟩ : ∃ bb, bb = resN 0 (W (ps.map PN.nd) 12 r 0 1099511627776 []) := ⟨_, rfl⟩
   have con : ∀ w', q0j w.heap.size w' A ps → Sur w' (w.heap.size + 2) (w.heap.size + 1) A ps.length C [] 0 → Calls Tryz.prog 131 #[.pointer (some ⟨w.heap.size + 2, 0, none⟩), .int .i64 r, .int .i64 1, .int .i64 0, .int .i64 1099511627776] w'
       fun e w'' => e = .returned (.bool bb) ∧ Kept [w.heap.size + 2, w.heap.size + 1] w' w'' ∧ ∀ S' l, W (ps.map PN.nd) 12 r 0 1099511627776 [] = some (S', l) → okL 0 l = true → Sur w'' (w.heap.size + 2) (w.heap.size + 1) A ps.length C S' (q4s 0 l) := by
     intro w' a1 a2
     rw [hbb]
     exact qs4 A C ps (w.heap.size + 2) (w.heap.size + 1) w.heap.size hwf (by omega) (by omega) (by omega) 12 (Nat.le_refl _) r 0 1099511627776 1 0 [] w' (by decide) a1 a2 ⟨by simp, by simp⟩ (by decide) (by decide)
   have hb3 : ∀ o1 o2 o3 : Obj, Below w.heap.size w (((w.alloc o1).alloc o2).alloc o3) := fun o1 o2 o3 => (((Below.refl _ _).alloc (Nat.le_refl _) _).alloc (by simp) _).alloc (by simp; omega) _
   cases hb : bb with
   | false =>
     subst hb
     have E0 : Hid (q1e (ps.map PN.nd) r = 7) := by
       show _ = _
       unfold q1e
       rw [if_neg hn]
       cases hW : W (ps.map PN.nd) 12 r 0 1099511627776 [] with
       | none => rfl
       | some p =>
         obtain ⟨S, l⟩ := p
         rw [hW] at hbb
         simp only [resN] at hbb
         simp [← hbb]
     clear hbb
     go_enter Tryz.func89, Tryz.ntmps89
     go_wp2_with (first | (go_at_call 131; refine (con _ ?_ ?_).mono ?_; exact hN.below (hb3 _ _ _) (Nat.le_refl _); exact qgo _ _ _ _ _; rintro e w1 ⟨rfl, hk1, hs1⟩))
     go_ret
     exact ⟨q3m E0.out.symm, (hb3 _ _ _).trans (hk1.below (by simp; omega) (by simp))⟩
   | true =>
     subst hb
     obtain ⟨S, l, hW, hok⟩ : ∃ S l, W (ps.map PN.nd) 12 r 0 1099511627776 [] = some (S, l) ∧ okL 0 l = true := by
       cases hW : W (ps.map PN.nd) 12 r 0 1099511627776 [] with
       | none => rw [hW] at hbb; simp [resN] at hbb
       | some p =>
         obtain ⟨S, l⟩ := p
         rw [hW] at hbb
         exact ⟨S, l, rfl, hbb.symm⟩
     have E0 : Hid (q1e (ps.map PN.nd) r = if S.length = ps.length then 0 else 7) := by
       show _ = _
       unfold q1e
       rw [if_neg hn, hW]
       simp [hok]
     have HW : Hid (W (ps.map PN.nd) 12 r 0 1099511627776 [] = some (S, l)) := hW
     clear hbb hW
     go_enter Tryz.func89, Tryz.ntmps89
     go_wp2_with (first | (go_at_call 131; refine (con _ ?_ ?_).mono ?_; exact hN.below (hb3 _ _ _) (Nat.le_refl _); exact qgo _ _ _ _ _; rintro e w1 ⟨rfl, hk1, hs1⟩; have hsu := hs1 S l HW.out hok; obtain ⟨D, hown, _, _, hsize⟩ := hsu.map; have hln := fun ty => hown.len Tryz.underlying176 ty; have u1 := hsu.row.cell 1; simp only [List.getElem?_cons_zero, List.getElem?_cons_succ] at u1; have bx := hk1.cell 0 (b := w.heap.size) (by simp; omega) (by simp)))
     · have hq : ((S.length : Int) != (ps.length : Int)) = true := by assumption
       go_ret
       refine ⟨q3m ?_, (hb3 _ _ _).trans (hk1.below (by simp; omega) (by simp))⟩
       rw [E0.out, if_neg]
       simp at hq
       omega
     · have hq : ((S.length : Int) != (ps.length : Int)) = false := by assumption
       go_ret
       refine ⟨q3m ?_, (hb3 _ _ _).trans (hk1.below (by simp; omega) (by simp))⟩
       rw [E0.out, if_pos]
       simp at hq
       omega

end
section
open Go.RowKit Plain

def q0r (root : Int) (more : List (Int × Int)) : Nd := ⟨false, [], more.map (·.1), root :: more.map (·.2), []⟩

def q5b : Nat → List Nd → Int → List (Int × Int) → List Nd × Int
 | 0, ns, root, _ => (ns, root)
 | f + 1, ns, root, more =>
   if more = [] then (ns, root)
   else q5b f (q0n (ns ++ [q0r root more]) ns.length).1 ns.length (q0n (ns ++ [q0r root more]) ns.length).2

structure qd9 (ns : List Nd) (h : Nat) (root : Int) (more : List (Int × Int)) : Prop where
 sub : ∃ Q, SubK (Sub 6 4 ns h) 0 (ups (root :: more.map (·.2)) (more.map (·.1)) 1099511627776) Q ∧ Q.Perm (q0i 0 ns.length)

theorem qc4 (ns : List Nd) (x : Nd) : nth (ns ++ [x]) (ns.length : Int) = x := by
 unfold nth
 simp

theorem q7u (ns : List Nd) (root : Int) (more : List (Int × Int)) : (q0n (ns ++ [q0r root more]) ns.length).2.length = (more.length + 4) / 4 - 1 ∧ (q0n (ns ++ [q0r root more]) ns.length).1.length = ns.length + (more.length + 4) / 4 := by
 unfold q0n
 rw [qc4]
 have hs : q1o (q0r root more) = more.length + 1 := by simp [q1o, q0r]
 have hm : q2g (q0r root more) = 4 := by simp [q2g, q0r]
 have hp : q0m (q0r root more) = (more.length + 4) / 4 := by
   rw [q0m, hs, hm]
   congr 1
 split
 · rename_i h
   rw [hs, hm] at h
   simp
   omega
 · rename_i h
   rw [hs, hm] at h
   have hc : (q4x (q0r root more)).length = (more.length + 4) / 4 := by unfold q4x; rw [q2y, hp]
   constructor
   · simp only [List.length_zip, q6t, hc, q1j, hp]
     omega
   · simp only [List.length_append, List.length_set, List.length_tail, q3q, hc, List.length_cons, List.length_nil]
     omega

theorem qkp {ns : List Nd} {h : Nat} {root : Int} {more : List (Int × Int)} (hr : qd9 ns h root more) (hm : more ≠ []) :
   qd9 (q0n (ns ++ [q0r root more]) ns.length).1 (h + 1) ns.length (q0n (ns ++ [q0r root more]) ns.length).2 ∧ ((q0n (ns ++ [q0r root more]) ns.length).1.flatMap cont).Perm (ns.flatMap cont) := by
 obtain ⟨Q, hQ, hp⟩ := hr.sub
 have hml : 1 ≤ more.length := by cases more with | nil => exact absurd rfl hm | cons => simp
 have hkl : (more.map (·.1)).length + 1 = (root :: more.map (·.2)).length := by simp
 have hlt : (0 : Int) < 1099511627776 := by decide
 have hQ' : SubK (Sub 6 4 (ns ++ [q0r root more]) h) 0 (ups (root :: more.map (·.2)) (more.map (·.1)) 1099511627776) Q :=
   q5t hQ fun d lo hi Q1 a b => q4n h d lo hi Q1 a fun n hn => by
     have hm := placesF_mem.1 (hp.mem_iff.1 (b n hn))
     exact ⟨q4l (by omega) (by omega), by simp; omega⟩
 have htop : Top 0 (more.length + 1) (ns ++ [q0r root more]) (h + 1) ns.length 0 1099511627776 ((ns.length : Int) :: Q) := by
   refine ⟨⟨by omega, by simp; omega, hlt⟩, Q, rfl, ?_⟩
   rw [qc4]
   exact ⟨rfl, rfl, by simp [q0r]; omega, by simp [q0r], by simp [q0r], by simp [q0r], rfl, hQ'⟩
 have hpl : ((ns.length : Int) :: Q).Perm (q0i 0 (ns.length + 1)) := by
   rw [q1z]
   refine (hp.cons _).trans ?_
   show ((ns.length : Int) :: q0i 0 ns.length).Perm (q0i 0 ns.length ++ q0i (0 + ns.length) 1)
   rw [Nat.zero_add]
   exact (List.perm_append_comm (l₁ := [(ns.length : Int)]) (l₂ := q0i 0 ns.length))
 have hnd : ((ns.length : Int) :: Q).Nodup := hpl.nodup_iff.2 (q1p _ _)
 have hs := q9x htop hnd
 obtain ⟨Q', h1, h2⟩ := hs.sub
 refine ⟨⟨Q', h1, h2.trans ?_⟩, hs.cont.trans ?_⟩
 · have hle := hs.le
   rw [show (q0n (ns ++ [q0r root more]) ns.length).1.length = (ns.length + 1) + ((q0n (ns ++ [q0r root more]) ns.length).1.length - (ns ++ [q0r root more]).length) by simp at hle ⊢; omega, q1z]
   have e : (ns ++ [q0r root more]).length = 0 + (ns.length + 1) := by simp
   rw [e]
   refine (hpl.append_right _).trans ?_
   exact List.Perm.of_eq (by congr 2; simp at hle; omega)
 · simp [cont, q0r]

theorem qik : ∀ (f : Nat) {ns : List Nd} {h : Nat} {root : Int} {more : List (Int × Int)}, more.length ≤ f → qd9 ns h root more →
   (∃ h' Q, Sub 6 4 (q5b f ns root more).1 h' (q5b f ns root more).2 0 1099511627776 Q ∧ Q.Perm (q0i 0 (q5b f ns root more).1.length)) ∧ ((q5b f ns root more).1.flatMap cont).Perm (ns.flatMap cont) ∧ (q5b f ns root more).1.length ≤ ns.length + more.length := by
 intro f
 induction f with
 | zero =>
   intro ns h root more hf hr
   obtain rfl : more = [] := List.eq_nil_of_length_eq_zero (by omega)
   obtain ⟨Q, ⟨Q1, Q2, rfl, h1, h2⟩, hp⟩ := hr.sub
   cases h2
   rw [List.append_nil] at hp
   exact ⟨⟨h, Q1, h1, hp⟩, List.Perm.refl _, by simp [q5b]⟩
 | succ f ih =>
   intro ns h root more hf hr
   unfold q5b
   split
   · rename_i hm
     subst hm
     obtain ⟨Q, ⟨Q1, Q2, rfl, h1, h2⟩, hp⟩ := hr.sub
     cases h2
     rw [List.append_nil] at hp
     exact ⟨⟨h, Q1, h1, hp⟩, List.Perm.refl _, by simp⟩
   · rename_i hm
     have hml : 1 ≤ more.length := by cases more with | nil => exact absurd rfl hm | cons => simp
     obtain ⟨hr', hc⟩ := qkp hr hm
     obtain ⟨l1, l2⟩ := q7u ns root more
     obtain ⟨a, b, c⟩ := ih (by rw [l1]; omega) hr'
     exact ⟨a, b.trans hc, by rw [l1, l2] at c; omega⟩

theorem qgf (h : Nat) : 2 ^ (h + 1) = 2 ^ h + 2 ^ h := by rw [Nat.pow_succ]; omega

theorem qg2 {mL mK : Nat} {ns : List Nd} : ∀ (h : Nat) (d lo hi : Int) (P : List Int), Sub mL mK ns h d lo hi P → 2 ^ (h + 1) ≤ P.length + 1
 | 0, _, _, _, _, h => by rw [h.2.1]; simp
 | h + 1, d, lo, hi, P, hs => by
   obtain ⟨_, Q, rfl, hin⟩ := hs
   have ih := qg2 (mL := mL) (mK := mK) (ns := ns) h
   obtain ⟨kids, keys, hk1, hk2⟩ : ∃ kids keys, kids = (nth ns d).kids ∧ keys = (nth ns d).keys := ⟨_, _, rfl, rfl⟩
   have h2 := hin.two
   have h3 := hin.keys
   have h4 := hin.kids
   rw [← hk1] at h2 h3 h4
   rw [← hk2] at h3 h4
   match kids, keys, h2, h3, h4 with
   | a :: b :: r, k :: ks, _, _, h4 =>
     rw [qc7] at h4
     obtain ⟨Q1, Q2, rfl, g1, g2⟩ := h4
     have i1 := ih _ _ _ _ g1
     have : ∃ u r', ups (b :: r) ks hi = (b, u) :: r' := by cases ks <;> exact ⟨_, _, rfl⟩
     obtain ⟨u, r', e⟩ := this
     rw [e] at g2
     obtain ⟨Q3, Q4, rfl, g3, _⟩ := g2
     have i2 := ih _ _ _ _ g3
     rw [qgf (h + 1)]
     simp only [List.length_cons, List.length_append]
     omega

def qpt (S : St) (dp : Int) (P : List Int) (r : Option (St × List Int)) : Prop := ∃ S' l, r = some (S', l) ∧ (S'.map (·.1)).Perm (P ++ S.map (·.1)) ∧ l ≠ [] ∧ ∀ x ∈ l, x = dp

theorem qgu {g : Int → Int → Int → St → Option (St × List Int)} {G : Rel} {dp : Int} (hg : ∀ d lo hi P S, G d lo hi P → P.Nodup → (∀ n ∈ P, n ∉ S.map (·.1)) → qpt S dp P (g d lo hi S)) :
   ∀ (kids keys : List Int) (lo hi : Int) (Q : List Int) (S : St), keys.length + 1 = kids.length → SubK G lo (ups kids keys hi) Q → Q.Nodup → (∀ n ∈ Q, n ∉ S.map (·.1)) → qpt S dp Q (Wk g kids keys lo hi S)
 | [], _, _, _, _, _, h, _, _, _ => by simp at h
 | [d], keys, lo, hi, Q, S, hl, hs, hn, hd => by
   obtain rfl : keys = [] := List.eq_nil_of_length_eq_zero (by simpa using hl)
   obtain ⟨Q1, Q2, rfl, h1, h2⟩ := hs
   cases h2
   rw [List.append_nil] at hn hd ⊢
   obtain ⟨S', l, e, hp, hne, ha⟩ := hg d lo hi Q1 S h1 hn hd
   refine ⟨S', l, ?_, hp, hne, ha⟩
   simp [Wk, e]
 | d :: d' :: ds, keys, lo, hi, Q, S, hl, hs, hn, hd => by
   cases keys with
   | nil => simp at hl
   | cons k ks =>
     rw [qc7] at hs
     obtain ⟨Q1, Q2, rfl, h1, h2⟩ := hs
     rw [List.nodup_append] at hn
     obtain ⟨S1, l1, e1, hp1, hne1, ha1⟩ := hg d lo k Q1 S h1 hn.1 (fun n hn' => hd n (List.mem_append_left _ hn'))
     obtain ⟨S2, l2, e2, hp2, hne2, ha2⟩ := qgu hg (d' :: ds) ks k hi Q2 S1 (by simpa using hl) h2 hn.2.1 (fun n hn' hm => by
       rcases List.mem_append.1 (hp1.mem_iff.1 hm) with hm | hm
       · exact hn.2.2 n hm n hn' rfl
       · exact hd n (List.mem_append_right _ hn') hm)
     refine ⟨S2, l1 ++ l2, ?_, ?_, by simp [hne1], fun x hx => ?_⟩
     · show (match g d lo k S with | none => none | some (S1, l1) => match Wk g (d' :: ds) ks k hi S1 with | none => none | some (S2, l2) => some (S2, l1 ++ l2)) = _
       rw [e1]
       simp only
       rw [e2]
     · refine hp2.trans ((hp1.append_left Q2).trans ?_)
       rw [List.append_assoc]
       exact List.perm_append_comm_assoc _ _ _
     · rcases List.mem_append.1 hx with hx | hx
       · exact ha1 x hx
       · exact ha2 x hx

theorem qzn {ns : List Nd} : ∀ (h f : Nat) (n lo hi : Int) (P : List Int) (S : St), Sub 6 4 ns h n lo hi P → h < f → P.Nodup → (∀ m ∈ P, m ∉ S.map (·.1)) → qpt S (13 - (f : Int) + h) P (W ns f n lo hi S) := by
 intro h
 induction h with
 | zero =>
   intro f n lo hi P S hs hf hn hd
   obtain ⟨⟨h0, h1, hlt⟩, rfl, hl⟩ := hs
   obtain ⟨f, rfl⟩ : ∃ g, f = g + 1 := ⟨f - 1, by omega⟩
   have hseen : q6l S n = false := by
     have := hd n (by simp)
     cases hb : q6l S n with
     | false => rfl
     | true => exact absurd (seenB_iff.1 hb) this
   have hlB : q9q (nth ns n) lo hi f = true := leafB_iff.2 ⟨hl.keys, hl.kids, hl.buf, hl.most, .inr hl.ne, hl.ents⟩
   refine ⟨(n, 12 - (f : Int)) :: S, [12 - (f : Int)], ?_, by simp, by simp, by simp; omega⟩
   rw [qig, if_neg (by simp [hseen]; omega)]
   show (if (nth ns n).leaf = true then _ else _) = _
   rw [if_pos hl.leaf]
   show (if q9q (nth ns n) lo hi f = true then _ else _) = _
   rw [if_pos hlB]
 | succ h ih =>
   intro f n lo hi P S hs hf hn hd
   obtain ⟨⟨h0, h1, hlt⟩, Q, rfl, hl⟩ := hs
   obtain ⟨f, rfl⟩ : ∃ g, f = g + 1 := ⟨f - 1, by omega⟩
   have hseen : q6l S n = false := by
     have := hd n (by simp)
     cases hb : q6l S n with
     | false => rfl
     | true => exact absurd (seenB_iff.1 hb) this
   have hiB : q6c (nth ns n) lo hi = true := by
     simp only [q6c, Bool.and_eq_true, decide_eq_true_eq, beq_iff_eq, List.isEmpty_iff]
     exact ⟨⟨⟨⟨⟨hl.ents, hl.two⟩, hl.most⟩, hl.keys⟩, hl.few⟩, hl.buf⟩
   rw [List.nodup_cons] at hn
   obtain ⟨S', l, e, hp, hne, ha⟩ := qgu (dp := 13 - (f : Int) + h) (fun d lo hi P S a b c => ih f d lo hi P S a (by omega) b c) (nth ns n).kids (nth ns n).keys lo hi Q ((n, 12 - (f : Int)) :: S) hl.keys hl.kids hn.2 (fun m hm hm' => by
     rw [List.map_cons, List.mem_cons] at hm'
     rcases hm' with rfl | hm'
     · exact hn.1 hm
     · exact hd m (List.mem_cons_of_mem _ hm) hm')
   refine ⟨S', l, ?_, hp.trans ?_, hne, fun x hx => by rw [ha x hx]; push_cast; omega⟩
   · rw [qig, if_neg (by simp [hseen]; omega)]
     show (if (nth ns n).leaf = true then _ else if q6c (nth ns n) lo hi = true then _ else _) = _
     rw [if_neg (by simp [hl.leaf]), if_pos hiB]
     exact e
   · rw [List.map_cons]
     exact List.perm_middle

theorem q9o {Q : List Int} {N : Nat} (h : Q.Perm (q0i 0 N)) : Q.length = N := by rw [h.length_eq, q1j]

theorem qgv {ns : List Nd} {h : Nat} {root : Int} {Q : List Int} (hs : Sub 6 4 ns h root 0 1099511627776 Q) (hp : Q.Perm (q0i 0 ns.length)) (hz : ns.length ≤ 2000) : q1e ns root = 0 := by
 have hl := q9o hp
 have h1 := qg2 h _ _ _ _ hs
 have hh : h < 12 := by
   apply Classical.byContradiction
   intro e
   have : 2 ^ 13 ≤ 2 ^ (h + 1) := Nat.pow_le_pow_right (by decide) (by omega)
   omega
 obtain ⟨S', l, e, hpm, hne, ha⟩ := qzn h 12 root 0 1099511627776 Q [] hs hh (hp.nodup_iff.2 (q1p _ _)) (by simp)
 unfold q1e
 rw [if_neg (by omega), e]
 simp only
 rw [if_pos]
 refine ⟨?_, ?_⟩
 · unfold okL
   rw [if_pos rfl, List.all_eq_true]
   intro x hx
   rw [beq_iff_eq, ha x hx]
   cases l with
   | nil => exact absurd rfl hne
   | cons y r => exact (ha y (by simp)).symm
 · have := hpm.length_eq
   simp at this
   omega

end
section
open Go.RowKit Plain

theorem q0a {p : Prop} (h : p) : Hid p := h
theorem qvf {a b : Int} {c d : Bool} (h : a = b) (h' : c = d) : Ending.returned (.tuple #[.int .i64 a, .bool c]) = .returned (.tuple #[.int .i64 b, .bool d]) := by rw [h, h']

def cmpI (x y : Int) : Int := if x < y then -1 else if y < x then 1 else 0

theorem qdi (x : Int) (w : World) : Calls Tryz.prog 172 #[.int .i64 x] w fun e w' => e = .returned (.bool false) ∧ w' = w := by
 go_enter Tryz.func172, Tryz.ntmps172
 go_wp2
 go_ret
 exact ⟨rfl, rfl⟩

set_option maxHeartbeats 400000 in
theorem qj4 (x y : Int) (w : World) : Calls Tryz.prog 146 #[.int .i64 x, .int .i64 y] w fun e w' => e = .returned (.int .i64 (cmpI x y)) ∧ w' = w := by
 rcases Int.lt_trichotomy x y with h | h | h
 · have e : cmpI x y = -1 := by simp [cmpI, h]
   have E : Hid (cmpI x y = -1) := e
   clear e
   go_enter Tryz.func146, Tryz.ntmps146
   go_wp2_with (go_at_call 172; refine (qdi _ _).mono ?_; rintro e w' ⟨rfl, rfl⟩)
   go_ret
   exact ⟨q3m E.out.symm, rfl⟩
 · subst h
   have E : Hid (cmpI x x = 0) := by show _ = _; simp [cmpI]
   have h1 : ¬ x < x := by omega
   go_enter Tryz.func146, Tryz.ntmps146
   go_wp2_with (go_at_call 172; refine (qdi _ _).mono ?_; rintro e w' ⟨rfl, rfl⟩)
   go_ret
   exact ⟨q3m E.out.symm, rfl⟩
 · have h1 : ¬ x < y := by omega
   have E : Hid (cmpI x y = 1) := by show _ = _; simp [cmpI, h, h1]
   go_enter Tryz.func146, Tryz.ntmps146
   go_wp2_with (go_at_call 172; refine (qdi _ _).mono ?_; rintro e w' ⟨rfl, rfl⟩)
   go_ret
   exact ⟨q3m E.out.symm, rfl⟩

set_option maxHeartbeats 400000 in
theorem qhz (x : En) (k : Int) (w : World) : Calls Tryz.prog 178 #[.agg #[.int .i64 x.key, .int .i64 x.c, .int .i64 x.s, .int .i64 x.lo, .int .i64 x.hi, .int .i64 x.t, .int .i64 x.l], .int .i64 k] w
   fun e w' => e = .returned (.int .i64 (cmpI x.key k)) ∧ Below w.heap.size w w' := by
 have hcon := fun W' => qj4 x.key k W'
 generalize cmpI x.key k = r at hcon ⊢
 go_enter Tryz.func178, Tryz.ntmps178
 go_wp2_with (go_at_call 146; refine (hcon _).mono ?_; rintro e w' ⟨rfl, rfl⟩)
 go_ret
 exact ⟨rfl, (Below.refl _ _).alloc (Nat.le_refl _) _⟩

def hasK (l : List En) (k : Int) : Bool := l.any fun x => x.key == k

theorem q4b {hi : Int} : ∀ {l : List En} {lo : Int}, q0p l lo hi = true → (∀ x ∈ l, lo ≤ x.key ∧ x.key < hi) ∧ l.Pairwise (fun x y => x.key < y.key)
 | [], _, _ => ⟨by simp, List.Pairwise.nil⟩
 | x :: r, lo, h => by
   simp only [q0p, Bool.and_eq_true] at h
   have h1 := h.1
   simp only [entB, Bool.and_eq_true, decide_eq_true_eq] at h1
   obtain ⟨a, b⟩ := q4b h.2
   refine ⟨fun y hy => ?_, List.pairwise_cons.2 ⟨fun y hy => ?_, b⟩⟩
   · rcases List.mem_cons.1 hy with rfl | hy
     · exact ⟨h1.1.1.1, h1.1.1.2⟩
     · have := a y hy; omega
   · have := a y hy; omega

theorem qos {l : List En} {k : Int} {i : Nat} (hi : i ≤ l.length) (h1 : ∀ j (h : j < l.length), j < i → l[j].key < k) (h2 : ∀ j (h : j < l.length), i ≤ j → k ≤ l[j].key) : lowN l k = i := by
 induction l generalizing i with
 | nil => simp at hi; subst hi; rfl
 | cons x r ih =>
   cases i with
   | zero =>
     have := h2 0 (by simp) (Nat.le_refl _)
     simp at this
     simp [lowN, show ¬ x.key < k by omega]
   | succ i =>
     have hx := h1 0 (by simp) (by omega)
     simp at hx
     have e : lowN (x :: r) k = lowN r k + 1 := by simp [lowN, hx]
     rw [e, ih (i := i) (by simpa using hi) (fun j hj hji => by
       have := h1 (j + 1) (by simpa using hj) (by omega)
       simpa using this) (fun j hj hij => by
       have := h2 (j + 1) (by simpa using hj) (by omega)
       simpa using this)]

theorem qwc {l : List En} {k : Int} (hp : l.Pairwise (fun x y => x.key < y.key)) {i : Nat} (h1 : ∀ j (h : j < l.length), j < i → l[j].key < k) : hasK l k = (if h : i < l.length then decide (l[i].key = k) else false) ∨ ¬ (∀ j (h : j < l.length), i ≤ j → k ≤ l[j].key) := by
 by_cases h2 : ∀ j (h : j < l.length), i ≤ j → k ≤ l[j].key
 · left
   rw [Bool.eq_iff_iff]
   unfold hasK
   rw [List.any_eq_true]
   constructor
   · rintro ⟨x, hx, hk⟩
     obtain ⟨j, hj, rfl⟩ := List.getElem_of_mem hx
     have hk' : l[j].key = k := by simpa using hk
     by_cases hji : j < i
     · have := h1 j hj hji; omega
     · by_cases hij : i = j
       · subst hij; simp [hj, hk']
       · have hi : i < l.length := by omega
         have a := h2 i hi (Nat.le_refl _)
         have b := List.pairwise_iff_getElem.1 hp i j hi hj (by omega)
         omega
   · intro h
     split at h
     · rename_i hi
       exact ⟨l[i], List.getElem_mem hi, by simpa using h⟩
     · cases h
 · right; exact h2

set_option maxRecDepth 20000 in
set_option maxHeartbeats 1000000 in
theorem qmw (A : Option Addr) (C : Nat) (xs : List En) (k : Int) (w : World) (h : q0l w.heap.size w A (q0d xs)) (hz : xs.length * 56 ≤ 140737488351232) (hp : xs.Pairwise (fun x y => x.key < y.key)) :
   Calls Tryz.prog 177 #[.slice A xs.length C, .int .i64 k, .func (.func 178) #[] #[]] w
     fun e w' => e = .returned (.tuple #[.int .i64 (lowN xs k : Int), .bool (hasK xs k)]) ∧ Below w.heap.size w w' := by
 go_enter Tryz.func177, Tryz.ntmps177
 go_wp2_with fail
 go_loopw [9, 10] (fun vi vj wr => ∃ i j : Nat, i ≤ j ∧ j ≤ xs.length ∧ vi = .int .i64 i ∧ vj = .int .i64 j ∧ Hid ((∀ a (h : a < xs.length), a < i → xs[a].key < k) ∧ (∀ a (h : a < xs.length), j ≤ a → k ≤ xs[a].key)) ∧ Below w.heap.size w wr) (fun vi vj _ => (intOf vj).toNat - (intOf vi).toNat)
 case atStart => exact ⟨0, xs.length, Nat.zero_le _, Nat.le_refl _, rfl, rfl, ⟨fun a _ h => by omega, fun a h1 h2 => by omega⟩, Below.refl _ _⟩
 case round =>
   obtain ⟨i, j, hij, hjn, rfl, rfl, hI, hb⟩ := hrel
   by_cases hlt : i < j
   · obtain ⟨m, hm⟩ : ∃ m : Nat, m = (i + j) / 2 := ⟨_, rfl⟩
     have hmj : m < j := by omega
     have hmi : i ≤ m := by omega
     have hm2 : ((i : Int) + (j : Int)) / 2 = (m : Int) := by omega
     have HM : Hid (m = (i + j) / 2) := hm
     clear hm
     obtain ⟨b, o, rfl, hbl, hat⟩ := (h.below hb (Nat.le_refl _)).en (show m < xs.length by omega)
     have hbw : b < wr.heap.size := Nat.lt_of_lt_of_le hbl hb.size
     obtain ⟨x, hx⟩ : ∃ x, xs[m]'(by omega) = x := ⟨_, rfl⟩
     rw [hx] at hat
     obtain ⟨c0, c1, c2, c3, c4, c5, c6⟩ := hat
     have hcon := fun W => qhz x k W
     have HX : Hid (xs[m]'(by omega) = x) := hx
     clear hx
     by_cases hk : x.key < k
     · have hr : cmpI x.key k < 0 := by unfold cmpI; rw [if_pos hk]; decide
       generalize cmpI x.key k = r at hcon hr
       have HC : Hid _ := hcon
       clear hcon
       go_wp2_with (go_at_call 178; refine (HC.out _).mono ?_; rintro e w1 ⟨rfl, hb1⟩)
       go_roundw
       case rel =>
         refine ⟨m + 1, j, by omega, hjn, by go_num, rfl, ⟨fun a ha hai => ?_, hI.out.2⟩, up hb hb1⟩
         have hxm := HX.out
         by_cases e : a = m
         · subst e; rw [hxm]; exact hk
         · have := List.pairwise_iff_getElem.1 hp a m ha (by omega) (by omega)
           rw [hxm] at this
           omega
       case measure => simp [intOf]; omega
     · have hr : ¬ cmpI x.key k < 0 := by unfold cmpI; rw [if_neg hk]; split <;> decide
       generalize cmpI x.key k = r at hcon hr
       have HC : Hid _ := hcon
       clear hcon
       go_wp2_with (go_at_call 178; refine (HC.out _).mono ?_; rintro e w1 ⟨rfl, hb1⟩)
       go_roundw
       case rel =>
         refine ⟨i, m, by omega, by omega, rfl, by go_num, ⟨hI.out.1, fun a ha hai => ?_⟩, up hb hb1⟩
         have hxm := HX.out
         by_cases e : a = m
         · subst e; rw [hxm]; omega
         · have := List.pairwise_iff_getElem.1 hp m a (by omega) ha (by omega)
           rw [hxm] at this
           omega
       case measure => simp [intOf]; omega
   · obtain rfl : i = j := by omega
     have E1 : Hid (lowN xs k = i) := qos hjn hI.out.1 hI.out.2
     have E2 : Hid (hasK xs k = (if h : i < xs.length then decide (xs[i].key = k) else false)) := by
       rcases qwc hp hI.out.1 with e | e
       · exact e
       · exact absurd hI.out.2 e
     by_cases hin : i < xs.length
     · obtain ⟨b, o, rfl, hbl, hat⟩ := (h.below hb (Nat.le_refl _)).en hin
       have hbw : b < wr.heap.size := Nat.lt_of_lt_of_le hbl hb.size
       obtain ⟨x, hx⟩ : ∃ x, xs[i] = x := ⟨_, rfl⟩
       rw [hx] at hat
       obtain ⟨c0, c1, c2, c3, c4, c5, c6⟩ := hat
       have hcon := fun W => qhz x k W
       have E3 : Hid (hasK xs k = decide (x.key = k)) := by
         show _ = _
         rw [E2.out, dif_pos hin, hx]
       clear hx E2
       have hr : (cmpI x.key k == 0) = decide (x.key = k) := by
         rw [Bool.eq_iff_iff, decide_eq_true_eq, beq_iff_eq]
         unfold cmpI
         split
         · omega
         · split <;> omega
       generalize cmpI x.key k = r at hcon hr
       generalize decide (x.key = k) = q at hr E3
       have HC : Hid _ := hcon
       clear hcon
       go_wp2_with (go_at_call 178; refine (HC.out _).mono ?_; rintro e w1 ⟨rfl, hb1⟩)
       go_ret2
       exact ⟨qvf (by rw [E1.out]) E3.out.symm, up hb hb1⟩
     · have hin' : ¬ ((i : Int) < (xs.length : Int)) := by omega
       go_wp2_with fail
       go_ret2
       exact ⟨qvf (by rw [E1.out]) (by rw [E2.out, dif_neg hin]), hb⟩

set_option maxHeartbeats 400000 in
theorem qc1 (A : Option Addr) (C : Nat) (xs : List En) (k : Int) (w : World) (h : q0l w.heap.size w A (q0d xs)) (hz : xs.length * 56 ≤ 140737488351232) (hp : xs.Pairwise (fun x y => x.key < y.key)) :
   Calls Tryz.prog 160 #[.slice A xs.length C, .int .i64 k] w fun e w' => e = .returned (.tuple #[.int .i64 (lowN xs k : Int), .bool (hasK xs k)]) ∧ Below w.heap.size w w' := by
 have hcon := qmw A C xs k w h hz hp
 generalize lowN xs k = r at hcon ⊢
 generalize hasK xs k = q at hcon ⊢
 have HC := q0a hcon
 clear hcon
 go_enter Tryz.func160, Tryz.ntmps160
 go_wp2_with (go_at_call 177; refine HC.out.mono ?_; rintro e w1 ⟨rfl, hb1⟩)
 go_ret2
 exact ⟨rfl, hb1⟩

end
end Go.Proofs.YtlojfgdpmaigmafGreatDoor

/- slices.Insert of one entry, in a list of one's own. -/
import Derived.Test.YtlojfgdpmaigmafGreatDoorP32
import Derived.Test.YtlojfgdpmaigmafGreatDoorP31
import Derived.Test.YtlojfgdpmaigmafGreatDoorP16
import Derived.Test.YtlojfgdpmaigmafGreatDoorP02
import Derived.BigQuiet
namespace Go.Proofs.YtlojfgdpmaigmafGreatDoor
section
open Go.RowKit Plain Go.Shelf

theorem ql7 (cs vs : List Value) (i j : Nat) (hi : i ≤ cs.length) : (cs.take i ++ (vs ++ cs.drop i))[j]? = if j < i then cs[j]? else if j < i + vs.length then vs[j - i]? else cs[j - vs.length]? := by
 have hl : (cs.take i).length = i := by rw [List.length_take]; omega
 by_cases h1 : j < i
 · rw [List.getElem?_append_left (by omega), List.getElem?_take, if_pos h1, if_pos h1]
 · rw [List.getElem?_append_right (by omega), hl, if_neg h1]
   by_cases h2 : j < i + vs.length
   · rw [if_pos h2, List.getElem?_append_left (by omega)]
   · rw [if_neg h2, List.getElem?_append_right (by omega), List.getElem?_drop, show i + (j - i - vs.length) = j - vs.length by omega]

theorem qnd {cur cs vs : List Value} {i : Nat} (ht : cur.take cs.length = cs) (hi : i ≤ cs.length) (hr : cs.length + vs.length ≤ cur.length) : (ovr (ovr cur (i + vs.length) (cs.drop i)) i vs).take (cs.length + vs.length) = cs.take i ++ (vs ++ cs.drop i) := by
 apply List.ext_getElem?
 intro j
 rw [ql7 cs vs i j hi, List.getElem?_take]
 by_cases hj : j < cs.length + vs.length
 · rw [if_pos hj, q6v _ _ _ _ (by rw [q3f]; omega)]
   by_cases h2 : j < i
   · rw [if_neg (by omega), if_pos h2, q6v _ _ _ _ (by simp; omega), if_neg (by omega), qkg ht (by omega)]
   · by_cases h1 : j < i + vs.length
     · rw [if_pos (by omega), if_neg h2, if_pos h1]
     · rw [if_neg (by omega), if_neg h2, if_neg h1, q6v _ _ _ _ (by simp; omega), if_pos (by simp; omega), List.getElem?_drop, show i + (j - (i + vs.length)) = j - vs.length by omega]
 · rw [if_neg hj, if_neg (by omega), if_neg (by omega), List.getElem?_eq_none (by omega)]

theorem qr0 {cur cs vs : List Value} {i : Nat} (ht : cur.take i = cs.take i) (hi : i ≤ cs.length) (hr : cs.length + vs.length ≤ cur.length) : (ovr (ovr cur i vs) (i + vs.length) (cs.drop i)).take (cs.length + vs.length) = cs.take i ++ (vs ++ cs.drop i) := by
 apply List.ext_getElem?
 intro j
 rw [ql7 cs vs i j hi, List.getElem?_take]
 by_cases hj : j < cs.length + vs.length
 · rw [if_pos hj, q6v _ _ _ _ (by rw [q3f]; simp; omega)]
   by_cases h1 : i + vs.length ≤ j
   · rw [if_pos (by simp; omega), if_neg (by omega), if_neg (by omega), List.getElem?_drop, show i + (j - (i + vs.length)) = j - vs.length by omega]
   · rw [if_neg (by omega), q6v _ _ _ _ (by omega)]
     by_cases h2 : j < i
     · rw [if_neg (by omega), if_pos h2]
       have h : (cur.take i)[j]? = (cs.take i)[j]? := by rw [ht]
       rwa [List.getElem?_take, List.getElem?_take, if_pos h2, if_pos h2] at h
     · rw [if_pos (by omega), if_neg h2, if_pos (by omega)]
 · rw [if_neg hj, if_neg (by omega), if_neg (by omega), List.getElem?_eq_none (by omega)]

theorem q4i {P : Program} (w : World) (dT sT ty elem : TypeId) (k b o dLen dCap : Nat) (a : Addr) (sLen sCap : Nat) (cs : List Value)
   (hu : P.underlying dT = some (.slice elem)) (hs : (P.info? elem).map (·.size) = some k) (hn : cs.length = Nat.min sLen dLen * k)
   (hsrc : ∀ j v, cs[j]? = some v → w.cell? (a.add j) = some v) (hc : ∀ j, j < cs.length → (w.cell? ⟨b, o + j, none⟩).isSome = true) (hf : ∀ j, j < cs.length → w.frozen? ⟨b, o + j, none⟩ = false) (h1 : ∀ v ∈ cs, v.oneCell' = true) :
   (Builtin.copy_ #[dT, sT] ty #[.slice (some ⟨b, o, none⟩) dLen dCap, .slice (some a) sLen sCap]).run P w = .ok (goInt (Nat.min sLen dLen)) (w.setCells b o cs) := by
 have hl := run_loadCells_list (P := P) w a cs hsrc
 have hst := run_storeCells_cells (P := P) b o cs 0 w (by simpa using hc) (by simpa using hf) h1
 rw [hn] at hl
 cases hq : P.info? elem with
 | none => simp [hq] at hs
 | some i =>
   have hi : i.size = k := by simpa [hq] using hs
   simp only [Nat.min_def] at hl ⊢
   simp [Builtin.copy_, run_underlying hu, Builtin.lenOf, Builtin.firstCells, sizeOf, typeInfo, hq, hi, hl, hst, Nat.min_def]

theorem qbm (x : En) : q0d [x] = x.vals := by simp [q0d]

theorem qvw {w : World} {vb : Nat} {x : En} (hv : RowL w vb 86 x.vals) : ∀ j u, (q0d [x])[j]? = some u → w.cell? (Addr.add ⟨vb, 0, none⟩ j) = some u := by
 intro j u hu
 rw [WideShapes.add_plain, Nat.zero_add, hv.cell]
 rwa [qbm] at hu

theorem qew {base n g cap : Nat} {t : TypeId} {size : Nat} {A : Option Addr} {n0 C0 : Nat} {vs : List Value} {w w1 : World} (hown : w1.ownsRow base t size (.slice (some ⟨g, 0, none⟩) n cap) n vs) (hgrow : w.grownBy w1 (Value.slice A n0 C0).ownBlock) (hat : (Value.slice A n0 C0).ownBlock = some g ∨ g = w.heap.size) :
   q6x base t size n A (some ⟨g, 0, none⟩) cap vs w w1 := by
 have e : ∀ k, (Value.slice A n0 C0).ownBlock = some k → A.map Addr.block = some k := by
   intro k hk
   cases A <;> simp_all [Value.ownBlock]
 refine ⟨hown, ⟨hgrow.os, hgrow.tape, hgrow.output, hgrow.size, fun k hk hx => hgrow.block k hk (fun h => hx ?_)⟩, ?_⟩
 · simp [obk, e k h.symm]
 · rcases hat with h | h
   · left; rw [e g h]; rfl
   · right; exact ⟨g, rfl, by omega⟩

set_option maxRecDepth 20000 in
set_option maxHeartbeats 4000000 in
theorem qjg (base : Nat) (A : Option Addr) (C vb vc : Nat) (xs : List En) (x : En) (w : World) (ho : w.ownsRow base 86 7 (.slice A xs.length C) xs.length (q0d xs)) (hv : RowL w vb 86 x.vals) (hB : base ≤ w.heap.size) (hz : (xs.length + 1) * 56 ≤ 140737488351232) :
   Calls Tryz.prog 161 #[.slice A xs.length C, .int .i64 (xs.length : Int), .slice (some ⟨vb, 0, none⟩) 1 vc] w
     fun e w' => ∃ A' C', e = .returned (.slice A' (xs.length + 1) C') ∧ q6x base 86 7 (xs.length + 1) A A' C' (q0d (xs ++ [x])) w w' := by
 obtain ⟨i0, hi0, hz0, hz1, hz2⟩ := info_parts qbz
 have hnews := qvw hv
 have hcap : xs.length ≤ C ∧ C ≤ maxLen := by
   obtain ⟨A', C', h1, _, h2, h3, _⟩ := q0k ho
   cases h1
   exact ⟨h2, h3⟩
 have hc63 : C ≤ 9223372036854775807 := by have := hcap.2; unfold maxLen at this; omega
 have hc0 : (xs.length : Int) ≤ (C : Int) := by have := hcap.1; omega
 have hml : xs.length + 1 ≤ maxLen := by unfold maxLen; omega
 have HE : Hid (q0d (xs ++ [x]) = q0d xs ++ q0d [x]) := q2j _ _
 clear hv hcap
 cases A with
 | none =>
   go_enter Tryz.func161, Tryz.ntmps161
   go_wp2_with (at_builtin; refine wpList_append_lies _ rfl _ _ 33 rfl base 86 i0 _ 7 56 Tryz.underlying33 hi0 hz0 hz1 hz2 rfl (by decide) (.slice none xs.length C) xs.length (q0d xs) rfl ho ⟨vb, 0, none⟩ 1 vc (q0d [x]) rfl rfl hnews (q2i _) (by decide) hml (by omega) hB w.heap.size rfl ?_; intro g cap w1 hown hgrow hat hlt)
   go_ret
   exact ⟨_, _, rfl, by rw [HE.out]; exact qew hown hgrow hat⟩
 | some ad =>
   go_enter Tryz.func161, Tryz.ntmps161
   go_wp2_with (at_builtin; refine wpList_append_lies _ rfl _ _ 33 rfl base 86 i0 _ 7 56 Tryz.underlying33 hi0 hz0 hz1 hz2 rfl (by decide) (.slice (some ad) xs.length C) xs.length (q0d xs) rfl ho ⟨vb, 0, none⟩ 1 vc (q0d [x]) rfl rfl hnews (q2i _) (by decide) hml (by omega) hB w.heap.size rfl ?_; intro g cap w1 hown hgrow hat hlt)
   all_goals
     go_ret
     exact ⟨_, _, rfl, by rw [HE.out]; exact qew hown hgrow hat⟩

theorem qta : (Tryz.prog.info? 86).map (·.size) = some 7 := by
 obtain ⟨i0, hi0, _, h1, _⟩ := info_parts qbz
 rw [hi0]
 simp [h1]

set_option maxRecDepth 100000 in
set_option maxHeartbeats 4000000 in
theorem qg7 (g n c i vb vc : Nat) (cs vs : List Value) (w : World) (hi : i < n) (hroom : n + 1 ≤ c) (hc63 : c ≤ 9223372036854775807) (hvb : vb ≠ g) (hcl : cs.length = n * 7) (hvl : vs.length = 7)
   (hcs : ∀ j v, cs[j]? = some v → w.cell? ⟨g, j, none⟩ = some v) (hsp : ∀ j, j < (n + 1) * 7 → (w.cell? ⟨g, j, none⟩).isSome = true) (hfz : ∀ j, w.frozen? ⟨g, j, none⟩ = false)
   (hvs : ∀ j v, vs[j]? = some v → w.cell? ⟨vb, j, none⟩ = some v) (h1c : ∀ v ∈ cs, v.oneCell' = true) (h1v : ∀ v ∈ vs, v.oneCell' = true)
   (tA tB : TypeId) (kA kB : Nat) (hsa : w.shape? vb = some (tA, kA)) (hsb : w.shape? g = some (tB, kB)) (hkB : kB ≠ 0) (hfa : ∀ j, w.frozen? ⟨vb, j, none⟩ = false) :
   Calls Tryz.prog 161 #[.slice (some ⟨g, 0, none⟩) n c, .int .i64 (i : Int), .slice (some ⟨vb, 0, none⟩) 1 vc] w fun e w' =>
     e = .returned (.slice (some ⟨g, 0, none⟩) (n + 1) c) ∧ w' = (w.drew.setCells g ((i + 1) * 7) (cs.drop (i * 7))).setCells g (i * 7) vs := by
 have hz2 : ¬ ((i : Int) = (n : Int)) := by omega
 have hov : ∀ lb cb, (callFunc 179 #[.slice (some ⟨vb, 0, none⟩) 1 vc, .slice (some ⟨g, (i + 1) * 7, none⟩) lb cb]).run Tryz.prog w = .ok (.value (.bool false)) w := fun lb cb => by
   rw [run_callFunc_extern Tryz.func179 (by kernel_rfl) (by kernel_rfl) (by kernel_rfl) (e := Extern.SlicesOverlaps.overlaps #[33, 33] #[4]) (by kernel_rfl),
     Lib.run_overlaps_apart w 33 4 86 Tryz.underlying33 7 Tryz.sizeOf86 ⟨vb, 0, none⟩ ⟨g, (i + 1) * 7, none⟩ 1 vc lb cb hvb tA tB kA kB hsa hsb hkB (hfa _) (hfa _)]
   rfl
 have hdl : (cs.drop (i * 7)).length = (n - i) * 7 := by rw [List.length_drop, hcl]; omega
 have hcp1 : ∀ ty dc sc, (Builtin.copy_ #[33, 33] ty #[.slice (some ⟨g, (i + 1) * 7, none⟩) (n - i) dc, .slice (some ⟨g, i * 7, none⟩) (n + 1 - i) sc]).run Tryz.prog w.drew = .ok (goInt (Nat.min (n + 1 - i) (n - i))) (w.drew.setCells g ((i + 1) * 7) (cs.drop (i * 7))) := fun ty dc sc =>
   q4i w.drew _ _ ty 86 7 g ((i + 1) * 7) (n - i) dc ⟨g, i * 7, none⟩ (n + 1 - i) sc (cs.drop (i * 7)) Tryz.underlying33 qta (by rw [hdl]; simp only [Nat.min_def]; split <;> omega)
     (fun j v hj => by rw [Addr.add_lit]; exact hcs (i * 7 + j) v (by rwa [List.getElem?_drop] at hj))
     (fun j hj => hsp _ (by omega)) (fun j hj => hfz _) (fun v hv => h1c v (List.mem_of_mem_drop hv))
 obtain ⟨W1, hW1⟩ : ∃ W1, W1 = w.drew.setCells g ((i + 1) * 7) (cs.drop (i * 7)) := ⟨_, rfl⟩
 have hsp1 : ∀ k, k < (n + 1) * 7 → (W1.cell? ⟨g, k, none⟩).isSome = true := fun k hk => by
   rw [hW1]
   exact isSome_setCells g (cs.drop (i * 7)) ((i + 1) * 7) w.drew (fun j hj => hsp _ (by omega)) _ (hsp k hk)
 have hcp2 : ∀ (W : World), (∀ x, W.cell? x = W1.cell? x) → (∀ x, W.frozen? x = W1.frozen? x) → ∀ ty dc, (Builtin.copy_ #[33, 33] ty #[.slice (some ⟨g, i * 7, none⟩) (n + 1 - i) dc, .slice (some ⟨vb, 0, none⟩) 1 vc]).run Tryz.prog W = .ok (goInt (Nat.min 1 (n + 1 - i))) (W.setCells g (i * 7) vs) := fun W hWc hWf ty dc =>
   q4i W _ _ ty 86 7 g (i * 7) (n + 1 - i) dc ⟨vb, 0, none⟩ 1 vc vs Tryz.underlying33 qta (by rw [hvl]; simp only [Nat.min_def]; split <;> omega)
     (fun j v hj => by
       rw [Addr.add_lit, hWc, hW1, World.cell?_setCells_out g _ _ _ _ (fun h _ => absurd h hvb), Nat.zero_add]
       exact hvs j v hj)
     (fun j hj => by rw [hWc]; exact hsp1 _ (by omega)) (fun j hj => by rw [hWf, hW1, World.frozen?_setCells]; exact hfz _) h1v
 rw [← hW1] at hcp1
 have hin : i ≤ n := by omega
 have hb2 : ¬ (c = i + 1) := by omega
 have hb4 : ¬ (c = i) := by omega
 have hw1 : IntKind.i64.wrap ((i : Int) + 1) = (i : Int) + 1 := by rw [IntKind.wrap_i64]; omega
 have hb1 : (0 : Int) ≤ (i : Int) + 1 := by omega
 have htn : ((i : Int) + 1).toNat = i + 1 := by omega
 have hb3 : (i : Int) + 1 ≤ (n : Int) + 1 := by omega
 have hb5 : (i : Int) ≤ (n : Int) + 1 := by omega
 go_enter Tryz.func161, Tryz.ntmps161
 go_wp2_with (simp only [hov])
 go_region_law (refine step_copy_runI rfl _ _ 33 33 rfl _ _ (by simp [Act.eval, Act.put]) (by simp [Act.eval, Act.put]) (hcp1 _ _ _) ?_)
 go_wp2_with (at_builtin; refine wpList_copy_runI _ rfl _ _ 33 33 rfl _ _ rfl rfl (hcp2 _ (fun _ => rfl) (fun _ => rfl) _ _) ?_)
 go_ret
 first | exact ⟨rfl, rfl⟩ | exact ⟨rfl, by rw [hW1]⟩

def zroE : Value := .agg #[.int .i64 0, .int .i64 0, .int .i64 0, .int .i64 0, .int .i64 0, .int .i64 0, .int .i64 0]
def rowG (cs : List Value) (i n G : Nat) : Array Value := (cs.take (i * 7)).toArray ++ Builtin.zeroCells zroE.cells (n + 1 - i) ++ Builtin.zeroCells zroE.cells (G - (n + 1))

theorem qif {cs : List Value} {i n G : Nat} (hi : i ≤ n) (hcl : cs.length = n * 7) (hG : n + 1 ≤ G) : (rowG cs i n G).size = G * 7 := by
 unfold rowG
 rw [Array.size_append, Array.size_append, size_zeroCells, size_zeroCells]
 simp [zroE, Value.cells, hcl]
 omega

theorem qrj {cs : List Value} {i n G : Nat} (hi : i ≤ n) (hcl : cs.length = n * 7) : (rowG cs i n G).toList.take (i * 7) = cs.take (i * 7) := by
 unfold rowG
 rw [Array.toList_append, Array.toList_append, List.append_assoc]
 exact List.take_left' (by rw [List.length_take]; omega)

set_option maxRecDepth 100000 in
set_option maxHeartbeats 4000000 in
theorem qhg (g n c i vb vc : Nat) (cs vs : List Value) (w : World) (hi : i < n) (hnc : n ≤ c) (hroom : c < n + 1) (hbig : (n + 1) * 56 ≤ 140737488355328) (hcl : cs.length = n * 7) (hvl : vs.length = 7)
   (hcs : ∀ j v, cs[j]? = some v → w.cell? ⟨g, j, none⟩ = some v) (hvs : ∀ j v, vs[j]? = some v → w.cell? ⟨vb, j, none⟩ = some v) (h1c : ∀ v ∈ cs, v.oneCell' = true) (h1v : ∀ v ∈ vs, v.oneCell' = true) :
   Calls Tryz.prog 161 #[.slice (some ⟨g, 0, none⟩) n c, .int .i64 (i : Int), .slice (some ⟨vb, 0, none⟩) 1 vc] w fun e w' =>
     ∃ G, n + 1 ≤ G ∧ G ≤ maxLen ∧ e = .returned (.slice (some ⟨w.heap.size, 0, none⟩) (n + 1) G) ∧
     w' = (((w.alloc (.cells (rowG cs i n G) 86)).drew.setCells w.heap.size (i * 7) vs).drew).setCells w.heap.size ((i + 1) * 7) (cs.drop (i * 7)) := by
 obtain ⟨i0, hi0, hz0, hzs, hzb⟩ := info_parts qbz
 have hz2 : ¬ ((i : Int) = (n : Int)) := by omega
 have hz3 : (c : Int) < (n : Int) + 1 := by omega
 have hbw : g < w.heap.size := block_lt_of_cell (hcs 0 _ (List.getElem?_eq_getElem (by omega)))
 have hvw : vb < w.heap.size := block_lt_of_cell (hvs 0 _ (List.getElem?_eq_getElem (by omega)))
 have hkk : (n : Int) + 1 - (i : Int) = ((n + 1 - i : Nat) : Int) := by omega
 have hik : i + (n + 1 - i) = n + 1 := by omega
 have hold : (Builtin.firstCells i0.size i (.slice (some ⟨g, 0, none⟩) i c)).run Tryz.prog w.drew = .ok (cs.take (i * 7)).toArray w.drew := by
   rw [hzs]
   exact run_firstCells_some w.drew 7 i ⟨g, 0, none⟩ i c (cs.take (i * 7)) (by rw [List.length_take]; omega) (fun j v hj => by
     rw [Addr.add_lit, Nat.zero_add]
     rw [List.getElem?_take] at hj
     split at hj
     · exact hcs j v hj
     · cases hj)
 have hrz : ∀ ty, (Builtin.append_ #[33, 3] ty #[.slice (some ⟨g, 0, none⟩) i c, .int .i64 ((n : Int) + 1 - (i : Int))]).run Tryz.prog w =
     .ok (.slice (some ⟨w.heap.size, 0, none⟩) (n + 1) (grownCap w (n + 1) c 86)) (w.drew.alloc (.cells (rowG cs i n (grownCap w (n + 1) c 86)) 86)) := fun ty => by
   have h := Lib.run_append_grow_zeros w 33 3 ty 86 i0 _ .i64 .i64 Tryz.underlying33 Tryz.underlying3 hi0 hz0 (some ⟨g, 0, none⟩) i c (cs.take (i * 7)) hold (n + 1 - i) (by omega) (by omega) (by omega) (by omega) (by rw [hzb]; omega) (by rw [hzb, hik]; exact growslice_fits hroom hbig)
   rw [hik] at h
   rw [hkk]
   exact h
 obtain ⟨G, hG⟩ : ∃ G, G = grownCap w (n + 1) c 86 := ⟨_, rfl⟩
 have hGn : n + 1 ≤ G := by rw [hG]; exact grownCap_ge w _ _ _
 have hGm : G ≤ maxLen := by rw [hG]; exact grownCap_le_maxLen w (n + 1) c _ (by unfold maxLen; omega)
 rw [← hG] at hrz
 suffices hS : Calls Tryz.prog 161 #[.slice (some ⟨g, 0, none⟩) n c, .int .i64 (i : Int), .slice (some ⟨vb, 0, none⟩) 1 vc] w (fun e w' => e = .returned (.slice (some ⟨w.heap.size, 0, none⟩) (n + 1) G) ∧ w' = (((w.alloc (.cells (rowG cs i n G) 86)).drew.setCells w.heap.size (i * 7) vs).drew).setCells w.heap.size ((i + 1) * 7) (cs.drop (i * 7))) from hS.mono fun e w' h => ⟨G, hGn, hGm, h.1, h.2⟩
 have hRl := qif (i := i) (G := G) (Nat.le_of_lt hi) hcl hGn
 obtain ⟨ROW, hROW⟩ : ∃ ROW : Array Value, ROW = rowG cs i n G := ⟨_, rfl⟩
 rw [← hROW] at hrz hRl ⊢
 obtain ⟨W1, hW1⟩ : ∃ W1, W1 = w.drew.alloc (.cells ROW 86) := ⟨_, rfl⟩
 rw [← hW1] at hrz
 have hN : ∀ j, j < (n + 1) * 7 → (W1.cell? ⟨w.heap.size, j, none⟩).isSome = true := fun j hj => by
   rw [hW1, World.cell?_alloc_at (w := w.drew) ROW _ w.heap.size j rfl, Array.getElem?_eq_getElem (by omega)]; rfl
 have hNf : ∀ j, W1.frozen? ⟨w.heap.size, j, none⟩ = false := fun j => by rw [hW1]; exact World.frozen?_alloc_at (w := w.drew) ROW _ w.heap.size j rfl
 have hOb : ∀ j v, w.cell? ⟨g, j, none⟩ = some v → W1.cell? ⟨g, j, none⟩ = some v := fun j v h => by rw [hW1, World.cell?_alloc_past (w := w.drew) _ g j hbw]; exact h
 have hOv : ∀ j v, w.cell? ⟨vb, j, none⟩ = some v → W1.cell? ⟨vb, j, none⟩ = some v := fun j v h => by rw [hW1, World.cell?_alloc_past (w := w.drew) _ vb j hvw]; exact h
 have hcpA : ∀ (W : World), (∀ x, W.cell? x = W1.cell? x) → (∀ x, W.frozen? x = W1.frozen? x) → ∀ ty dc, (Builtin.copy_ #[33, 33] ty #[.slice (some ⟨w.heap.size, i * 7, none⟩) (n + 1 - i) dc, .slice (some ⟨vb, 0, none⟩) 1 vc]).run Tryz.prog W = .ok (goInt (Nat.min 1 (n + 1 - i))) (W.setCells w.heap.size (i * 7) vs) := fun W hWc hWf ty dc =>
   q4i W _ _ ty 86 7 w.heap.size (i * 7) (n + 1 - i) dc ⟨vb, 0, none⟩ 1 vc vs Tryz.underlying33 qta (by rw [hvl]; simp only [Nat.min_def]; split <;> omega)
     (fun j v hj => by rw [Addr.add_lit, Nat.zero_add, hWc]; exact hOv _ v (hvs j v hj))
     (fun j hj => by rw [hWc]; exact hN _ (by omega)) (fun j hj => by rw [hWf]; exact hNf _) h1v
 have hG63 : G ≤ 9223372036854775807 := by unfold maxLen at hGm; omega
 have hGi : ¬ (G = i) := by omega
 have hGim : ¬ (G = i + 1) := by omega
 have hci : ¬ (c = i) := by omega
 have hbN : g ≠ w.heap.size := by omega
 have hdl : (cs.drop (i * 7)).length = (n - i) * 7 := by rw [List.length_drop, hcl]; omega
 have hcpB : ∀ (W : World), (∀ x, W.cell? x = (W1.setCells w.heap.size (i * 7) vs).cell? x) → (∀ x, W.frozen? x = (W1.setCells w.heap.size (i * 7) vs).frozen? x) → ∀ ty dc sc, (Builtin.copy_ #[33, 33] ty #[.slice (some ⟨w.heap.size, (i + 1) * 7, none⟩) (n - i) dc, .slice (some ⟨g, i * 7, none⟩) (n - i) sc]).run Tryz.prog W = .ok (goInt (Nat.min (n - i) (n - i))) (W.setCells w.heap.size ((i + 1) * 7) (cs.drop (i * 7))) := fun W hWc hWf ty dc sc =>
   q4i W _ _ ty 86 7 w.heap.size ((i + 1) * 7) (n - i) dc ⟨g, i * 7, none⟩ (n - i) sc (cs.drop (i * 7)) Tryz.underlying33 qta (by rw [hdl]; simp only [Nat.min_def]; split <;> omega)
     (fun j v hj => by
       rw [Addr.add_lit, hWc, World.cell?_setCells_out _ _ _ _ _ (fun h _ => absurd h hbN)]
       exact hOb _ v (hcs (i * 7 + j) v (by rwa [List.getElem?_drop] at hj)))
     (fun j hj => by rw [hWc]; exact isSome_setCells _ _ _ _ (fun t ht => hN _ (by omega)) _ (hN _ (by omega)))
     (fun j hj => by rw [hWf, World.frozen?_setCells]; exact hNf _) (fun v hv => h1c v (List.mem_of_mem_drop hv))
 subst hW1
 have hE1 : ∀ x, ((w.alloc (.cells ROW 86)).drew).cell? x = (w.drew.alloc (.cells ROW 86)).cell? x := fun x => rfl
 have hE2 : ∀ x, ((w.alloc (.cells ROW 86)).drew).frozen? x = (w.drew.alloc (.cells ROW 86)).frozen? x := fun x => rfl
 have hF1 : ∀ x, (((w.alloc (.cells ROW 86)).drew.setCells w.heap.size (i * 7) vs).drew).cell? x = ((w.drew.alloc (.cells ROW 86)).setCells w.heap.size (i * 7) vs).cell? x := fun x => rfl
 have hF2 : ∀ x, (((w.alloc (.cells ROW 86)).drew.setCells w.heap.size (i * 7) vs).drew).frozen? x = ((w.drew.alloc (.cells ROW 86)).setCells w.heap.size (i * 7) vs).frozen? x := fun x => rfl
 have hw1 : IntKind.i64.wrap ((i : Int) + 1) = (i : Int) + 1 := by rw [IntKind.wrap_i64]; omega
 have hb1 : (0 : Int) ≤ (i : Int) + 1 := by omega
 have hin : i ≤ n := by omega
 have htn : ((i : Int) + 1).toNat = i + 1 := by omega
 have hb3 : (i : Int) ≤ (n : Int) := by omega
 have hb4 : (i : Int) + 1 ≤ (n : Int) + 1 := by omega
 clear hkk hik hold hROW hG hRl
 go_enter Tryz.func161, Tryz.ntmps161
 go_wp2_with (first
   | (at_builtin; refine Lib.wpList_append_run _ rfl _ _ _ _ rfl _ _ rfl rfl _ _ (hrz _) ?_)
   | (at_builtin; refine wpList_copy_runI _ rfl _ _ 33 33 rfl _ _ rfl rfl (hcpA _ hE1 hE2 _ _) ?_)
   | (at_builtin; refine wpList_copy_runI _ rfl _ _ 33 33 rfl _ _ rfl rfl (hcpB _ (fun _ => rfl) (fun _ => rfl) _ _ _) ?_))
 go_region_law (refine step_copy_runI rfl _ _ 33 33 rfl (.slice (some ⟨w.heap.size, (i + 1) * 7, none⟩) (n - i) (G - (i + 1))) (.slice (some ⟨g, i * 7, none⟩) (n - i) (c - i)) (by simp [Act.eval, Act.put]) (by simp [Act.eval, Act.put]) (hcpB _ hF1 hF2 3 (G - (i + 1)) (c - i)) ?_)
 go_wp2
 go_ret
 exact ⟨rfl, rfl⟩

end
section
open Go.RowKit Plain Go.Shelf

theorem qpu (xs : List En) (i : Nat) (x : En) : q0d (xs.take i ++ x :: xs.drop i) = (q0d xs).take (i * 7) ++ (x.vals ++ (q0d xs).drop (i * 7)) := by
 rw [q2j, ← qas, ← qav]
 rfl

theorem qmp {base n C size : Nat} {t : TypeId} {A : Option Addr} {vs : List Value} {w w' : World} {cur : Array Value} (hb : base ≤ w.heap.size) (hg : w'.heap[w.heap.size]? = some (.cells cur t (0, 0))) (hn : n ≤ C) (hm : C ≤ maxLen) (hs : cur.size = C * size) (hl : vs.length = n * size) (ht : cur.toList.take (n * size) = vs)
   (hk : Kept (obk A) w w') : q6x base t size n A (some ⟨w.heap.size, 0, none⟩) C vs w w' :=
 ⟨⟨hl, .inr ⟨w.heap.size, C, cur, rfl, hb, hg, hn, hm, hs, ht⟩⟩, hk, .inr ⟨w.heap.size, rfl, Nat.le_refl _⟩⟩

theorem qmu {base n C g size : Nat} {t : TypeId} {vs : List Value} {w w' : World} {cur : Array Value} (hb : base ≤ g) (hg : w'.heap[g]? = some (.cells cur t (0, 0))) (hn : n ≤ C) (hm : C ≤ maxLen) (hs : cur.size = C * size) (hl : vs.length = n * size) (ht : cur.toList.take (n * size) = vs)
   (hk : Kept [g] w w') : q6x base t size n (some ⟨g, 0, none⟩) (some ⟨g, 0, none⟩) C vs w w' :=
 ⟨⟨hl, .inr ⟨g, C, cur, rfl, hb, hg, hn, hm, hs, ht⟩⟩, hk, .inl rfl⟩

theorem qit (base : Nat) (A : Option Addr) (C vb vc : Nat) (xs : List En) (i : Nat) (x : En) (w : World) (ho : w.ownsRow base 86 7 (.slice A xs.length C) xs.length (q0d xs)) (hi : i ≤ xs.length) (hv : RowL w vb 86 x.vals) (hvb : vb ∉ obk A) (hB : base ≤ w.heap.size) (hz : (xs.length + 1) * 56 ≤ 140737488351232) :
   Calls Tryz.prog 161 #[.slice A xs.length C, .int .i64 (i : Int), .slice (some ⟨vb, 0, none⟩) 1 vc] w
     fun e w' => ∃ A' C', e = .returned (.slice A' (xs.length + 1) C') ∧ q6x base 86 7 (xs.length + 1) A A' C' (q0d (xs.take i ++ x :: xs.drop i)) w w' := by
 by_cases hin : i < xs.length
 · rcases ho.2 with ⟨hn, hn0⟩ | ⟨g, cap, cur, hn, hb, hg, hl, hm, hs, ht⟩
   · omega
   · simp only [Value.slice.injEq] at hn
     obtain ⟨rfl, -, rfl⟩ := hn
     have hvg : vb ≠ g := fun e => hvb (by simp [obk, e])
     have hil := q0x xs
     have hcl : cur.toList.length = C * 7 := by simpa using hs
     have hcell : ∀ j, w.cell? ⟨g, j, none⟩ = cur.toList[j]? := fun j => by simp [World.cell?, hg]
     have hcs : ∀ j v, (q0d xs)[j]? = some v → w.cell? ⟨g, j, none⟩ = some v := fun j v hj => by
       rw [hcell, ← hj, ← ht, List.getElem?_take, if_pos]
       have := (List.getElem?_eq_some_iff.1 hj).1
       omega
     have hvs : ∀ j v, (x.vals)[j]? = some v → w.cell? ⟨vb, j, none⟩ = some v := fun j v hj => by rw [hv.cell]; exact hj
     have hfz : ∀ j, w.frozen? ⟨g, j, none⟩ = false := fun j => by simp [World.frozen?, hg]
     have h1v : ∀ v ∈ x.vals, v.oneCell' = true := by
       have := q2i [x]
       rwa [qbm] at this
     have hvl : x.vals.length = 7 := rfl
     have e7 : (i + 1) * 7 = i * 7 + x.vals.length := by rw [hvl]; omega
     have e8 : (xs.length + 1) * 7 = (q0d xs).length + x.vals.length := by rw [hvl, hil]; omega
     have hlen : (q0d (xs.take i ++ x :: xs.drop i)).length = (xs.length + 1) * 7 := by rw [q0x]; simp; omega
     rw [qpu] at hlen ⊢
     generalize x.vals = vv at *
     by_cases hroom : xs.length + 1 ≤ C
     · refine (qg7 g xs.length C i vb vc (q0d xs) vv w hin hroom (by unfold maxLen at hm; omega) hvg hil hvl hcs (fun j hj => by rw [hcell, List.getElem?_eq_getElem (by omega)]; rfl) hfz hvs (q2i xs) h1v 86 86 7 (C * 7)
         (by unfold World.shape?; rw [show w.heap[vb]? = _ from hv]; simp [hvl]) (by unfold World.shape?; rw [hg]; simp [hs]) (by omega) hv.frozen).mono ?_
       rintro e w' ⟨rfl, rfl⟩
       have h1 := q2p g 86 ((q0d xs).drop (i * 7)) ((i + 1) * 7) cur w.drew hg
       have h2 := q2p g 86 vv (i * 7) _ _ h1
       refine ⟨_, _, rfl, qmu hb h2 hroom hm (by simp [q3f, hs]) hlen ?_ ?_⟩
       · rw [e7, e8]
         exact qnd (by rw [hil]; exact ht) (by omega) (by rw [hcl, hil, hvl]; omega)
       · exact (((Kept.refl _ w).drew).trans (q1q g _ _ _)).trans (q1q g _ _ _)
     · refine (qhg g xs.length C i vb vc (q0d xs) vv w hin hl (by omega) (by omega) hil hvl hcs hvs (q2i xs) h1v).mono ?_
       rintro e w' ⟨G, hG, hGm, rfl, rfl⟩
       have hRs := qif (i := i) (Nat.le_of_lt hin) hil hG
       have hRt := qrj (G := G) (Nat.le_of_lt hin) hil
       generalize rowG (q0d xs) i xs.length G = ROW at hRs hRt ⊢
       have h0 : (w.alloc (.cells ROW 86)).drew.heap[w.heap.size]? = some (.cells ROW 86 (0, 0)) := heap_alloc_new w _
       have h1 := q2p w.heap.size 86 vv (i * 7) ROW _ h0
       have h2 := q2p w.heap.size 86 ((q0d xs).drop (i * 7)) ((i + 1) * 7) _ ((w.alloc (.cells ROW 86)).drew.setCells w.heap.size (i * 7) vv).drew h1
       refine ⟨_, _, rfl, qmp (by omega) h2 hG hGm (by simp [q3f, hRs]) hlen ?_ ?_⟩
       · rw [e7, e8]
         exact qr0 (cur := ROW.toList) hRt (by omega) (by rw [hil, hvl]; simp [hRs]; omega)
       · have k1 := (((Kept.refl [w.heap.size] w).alloc (.cells ROW 86)).drew.trans (q1q w.heap.size vv (i * 7) _)).drew.trans (q1q w.heap.size ((q0d xs).drop (i * 7)) ((i + 1) * 7) _)
         exact ⟨k1.os, k1.tape, k1.output, k1.size, fun k hk _ => k1.block k hk (by simp; omega)⟩
 · obtain rfl : i = xs.length := by omega
   rw [List.take_length, List.drop_length]
   exact qjg base A C vb vc xs x w ho hv hB hz

end
section
open Go.RowKit Plain Go.Shelf

end
section
open Go.RowKit Plain Go.Shelf

end
section
open Go.RowKit Plain Go.Shelf

end
section
open Go.RowKit Plain Go.Shelf

end
section
open Go.RowKit Plain Go.Shelf

end
end Go.Proofs.YtlojfgdpmaigmafGreatDoor

/- The visitor of tree.All: it appends each entry to a list of its caller's. -/
import Derived.Test.YtndojgeodmddoadDoorWalkAid
import Derived.Test.YtndojgeodmddoadDoorBringPure
import Derived.Deep.AppendLies
import Derived.Shelf.SlSortCmp.NoneTotal
import Derived.Shelf.SlicesG.Cmp
import Derived.Test.YtndojgeodmddoadDoorLays
import Derived.Test.YtndojgeodmddoadDoorCheckWalk
namespace Go.Proofs.YtndojgeodmddoadDoor
open Go.RowKit Plain

/-- A visitor that may be called M times in all: N tells how often it was. -/
structure VisN {σ : Type} (F : FuncId) (cap : Array Value) (I : World → σ → Prop) (X : World → Nat → Prop) (step : σ → En → σ) (N : σ → Nat) (M : Nat) : Prop where
  call : ∀ (x : En) (s : σ) (w : World), I w s → N s < M → Calls Tryd.prog F (#[.agg #[.int .i64 x.key, .int .i64 x.c, .int .i64 x.s, .int .i64 x.lo, .int .i64 x.hi, .int .i64 x.t, .int .i64 x.l]] ++ cap) w
    fun e w' => e = .returned (.tuple #[]) ∧ I w' (step s x) ∧ Turned X w w'
  cnt : ∀ (s : σ) (x : En), N (step s x) = N s + 1
  stay : ∀ (s : σ) (w w' : World), I w s → Below w.heap.size w w' → I w' s
  same : ∀ (s : σ) (w w' : World), I w s → Below w.heap.size w w' → ∀ k, X w' k → X w k
  lt : ∀ (s : σ) (w : World), I w s → ∀ k, X w k → k < w.heap.size

theorem VisN.fold {σ : Type} {F : FuncId} {cap : Array Value} {I : World → σ → Prop} {X : World → Nat → Prop} {step : σ → En → σ} {N : σ → Nat} {M : Nat} (V : VisN F cap I X step N M) : ∀ (l : List En) (s : σ), N (l.foldl step s) = N s + l.length
  | [], s => rfl
  | x :: l, s => by
    rw [List.foldl_cons, V.fold l, V.cnt, List.length_cons]
    omega

/-- The list so far: its slice lies in the block bl, its row is owned from H on. -/
structure LAt (bl H : Nat) (w : World) (s : List En) : Prop where
  blt : bl < H
  hz : H ≤ w.heap.size
  row : ∃ v, RowL w bl 46 [v] ∧ w.ownsRow H 61 7 v s.length (flatE s)

def XL (bl : Nat) : World → Nat → Prop := fun w k => k = bl ∨ ∃ v, RowL w bl 46 [v] ∧ v.ownBlock = some k

theorem RowL.one {w : World} {b : Nat} {t : TypeId} {v v' : Value} (h : RowL w b t [v]) (h' : RowL w b t [v']) : v = v' := by
  have := h.symm.trans h'
  simpa using this

theorem LAt.below {bl H : Nat} {w w' : World} {s : List En} (h : LAt bl H w s) (hb : Below w.heap.size w w') : LAt bl H w' s := by
  obtain ⟨v, hr, ho⟩ := h.row
  exact ⟨h.blt, Nat.le_trans h.hz hb.size, v, hr.below hb hr.lt, own_of_block ho fun k hk => hb.block k (own_some ho hk).2⟩

theorem LAt.same {bl H : Nat} {w w' : World} {s : List En} (h : LAt bl H w s) (hb : Below w.heap.size w w') (k : Nat) (hk : XL bl w' k) : XL bl w k := by
  obtain ⟨v, hr, ho⟩ := h.row
  rcases hk with hk | ⟨v', hr', hv⟩
  · exact .inl hk
  · obtain rfl := (hr.below hb hr.lt).one hr'
    exact .inr ⟨v, hr, hv⟩

theorem LAt.lt {bl H : Nat} {w : World} {s : List En} (h : LAt bl H w s) (k : Nat) (hk : XL bl w k) : k < w.heap.size := by
  obtain ⟨v, hr, ho⟩ := h.row
  rcases hk with rfl | ⟨v', hr', hv⟩
  · exact hr.lt
  · obtain rfl := hr.one hr'
    exact (own_some ho hv).2

theorem LAt.put {bl H g cap : Nat} {w w1 : World} {v : Value} {s : List En} {x : En} {o1 o2 : Obj} (h : LAt bl H w s) (hr : RowL w bl 46 [v])
    (hown : w1.ownsRow H 61 7 (.slice (some ⟨g, 0, none⟩) (s.length + 1) cap) (s.length + 1) (flatE s ++ x.vals)) (hgrow : ((w.alloc o1).alloc o2).grownBy w1 v.ownBlock) (hat : v.ownBlock = some g ∨ g = w.heap.size + 2) :
    LAt bl H (w1.setCell ⟨bl, 0, none⟩ (.slice (some ⟨g, 0, none⟩) (s.length + 1) cap)) (s ++ [x]) ∧ Turned (XL bl) w (w1.setCell ⟨bl, 0, none⟩ (.slice (some ⟨g, 0, none⟩) (s.length + 1) cap)) := by
  obtain ⟨v', hr', ho⟩ := h.row
  obtain rfl := hr.one hr'
  have hlt := hr.lt
  have hs := hgrow.size
  simp only [World.size_alloc] at hs
  have hbl := h.blt
  have hz := h.hz
  have hnb : some bl ≠ v.ownBlock := fun e => by have := (own_some ho e.symm).1; omega
  have two' : ∀ k, k < w.heap.size → ((w.alloc o1).alloc o2).heap[k]? = w.heap[k]? := fun k hk => (two o1 o2).block k hk
  have hb1 : w1.heap[bl]? = w.heap[bl]? := (hgrow.block bl (by simp; omega) hnb).trans (two' bl hlt)
  have hr1 : RowL w1 bl 46 [v] := hr.of_block hb1
  have hg : H ≤ g := (own_some hown rfl).1
  have hr2 : RowL (w1.setCell ⟨bl, 0, none⟩ (.slice (some ⟨g, 0, none⟩) (s.length + 1) cap)) bl 46 [.slice (some ⟨g, 0, none⟩) (s.length + 1) cap] := hr1.set 0 _
  refine ⟨⟨hbl, by simp; omega, _, hr2, ?_⟩, ⟨hgrow.os, hgrow.tape, hgrow.output, by simp; omega, fun k hk hx => ?_, fun k hk hx => ?_⟩⟩
  · have := app_own hown
    refine own_of_block (by simpa using this) fun k hk => ?_
    have : g = k := by simpa [Value.ownBlock] using hk
    exact Below.heap_setCell _ _ _ _ (show k ≠ bl by omega)
  · have h1 : k ≠ bl := fun e => hx (.inl e)
    have h2 : some k ≠ v.ownBlock := fun e => hx (.inr ⟨v, hr, e.symm⟩)
    exact (Below.heap_setCell _ _ _ _ h1).trans ((hgrow.block k (by simp; omega) h2).trans (two' k hk))
  · rcases hx with hx | ⟨v2, hv2, hx⟩
    · exact .inl hx
    · obtain rfl := hr2.one hv2
      have : g = k := by simpa [Value.ownBlock] using hx
      subst this
      rcases hat with hat | hat
      · exact .inr ⟨v, hr, hat⟩
      · omega

set_option maxRecDepth 20000 in
set_option maxHeartbeats 4000000 in
theorem visitL_any (x : En) (bl H : Nat) (s : List En) (w : World) (h : LAt bl H w s) (hs : s.length < 30000) :
    Calls Tryd.prog 54 #[.agg #[.int .i64 x.key, .int .i64 x.c, .int .i64 x.s, .int .i64 x.lo, .int .i64 x.hi, .int .i64 x.t, .int .i64 x.l], .pointer (some ⟨bl, 0, none⟩)] w
      fun e w' => e = .returned (.tuple #[]) ∧ LAt bl H w' (s ++ [x]) ∧ Turned (XL bl) w w' := by
  obtain ⟨i0, hi0, hz0, hz1, hz2⟩ := info_parts infoE
  have HL : Hid (LAt bl H w s) := h
  obtain ⟨v, hr, ho⟩ := h.row
  have HR : Hid (RowL w bl 46 [v]) := hr
  have cv : w.cell? ⟨bl, 0, none⟩ = some v := hr.cell 0
  have fv : w.frozen? ⟨bl, 0, none⟩ = false := hr.frozen 0
  have lb := hr.lt
  have hH := h.hz
  have HN : Hid (some bl ≠ v.ownBlock) := fun e => by have := (own_some ho e.symm).1; have := h.blt; omega
  clear h hr
  go_enter Tryd.func54, Tryd.ntmps54
  go_wp2_with (at_builtin; refine wpList_append_lies _ rfl _ _ 46 rfl H 61 i0 _ 7 56 Tryd.underlying46 hi0 hz0 hz1 hz2 rfl (by decide) v s.length (flatE s) rfl ((ho.alloc _).alloc _) ⟨w.heap.size + 1, 0, none⟩ 1 1 x.vals rfl rfl (news2 _ _ x) (vals_one x) (by decide) (by unfold maxLen; omega) (by omega) (by simp; omega) (w.heap.size + 2) (by simp) ?_; intro g cap w1 hown1 hgrow1 hat1 hlt1; have cv1 : w1.cell? ⟨bl, 0, none⟩ = some v := (hgrow1.cell_far ⟨bl, 0, none⟩ (by simp; omega) HN.out).trans ((two _ _).cell (p := ⟨bl, 0, none⟩) lb |>.trans cv); have fv1 : w1.frozen? ⟨bl, 0, none⟩ = false := (hgrow1.frozen_far ⟨bl, 0, none⟩ (by simp; omega) HN.out).trans ((two _ _).frozen (p := ⟨bl, 0, none⟩) lb |>.trans fv))
  go_end0
  have P := HL.out.put HR.out hown1 hgrow1 hat1
  exact ⟨rfl, P.1, P.2⟩

theorem visL (bl H : Nat) : VisN 54 #[.pointer (some ⟨bl, 0, none⟩)] (LAt bl H) (XL bl) (fun s x => s ++ [x]) List.length 30000 where
  call x s w h hs := visitL_any x bl H s w h hs
  cnt s x := by simp
  stay _ _ _ h hb := h.below hb
  same _ _ _ h hb := h.same hb
  lt _ _ h := h.lt

end Go.Proofs.YtndojgeodmddoadDoor

/- The program's walk over a tree. -/
namespace Go.Proofs.YtndojgeodmddoadDoor
open Go.RowKit Plain

set_option maxRecDepth 20000 in
set_option maxHeartbeats 4000000 in
theorem walkL_step {σ : Type} {I : World → σ → Prop} {X : World → Nat → Prop} {step : σ → En → σ} {N : σ → Nat} {M : Nat} (bl : Nat) (V : Hid (VisN 54 #[.pointer (some ⟨bl, 0, none⟩)] I X step N M))
    (b o C : Nat) (r : Int) (ps : List PN) (m B : Nat) (low high : Int) (s : σ) (w : World) (leaf : Bool) (eA : Option Addr) (eC : Nat) (ents : List En) (kA : Option Addr) (kC : Nat) (keys : List Int) (dA : Option Addr) (dC : Nat) (kids : List Int) (bA : Option Addr) (bC : Nat) (buf : List En) (g : Int → List En)
    (hm : m < ps.length) (hN : NodesAt B w (some ⟨b, o, none⟩) ps) (hat : PnAt w b (o + m * 5) ⟨leaf, eA, eC, ents, kA, kC, keys, dA, dC, kids, bA, bC, buf⟩) (ok : PN.ok B w ⟨leaf, eA, eC, ents, kA, kC, keys, dA, dC, kids, bA, bC, buf⟩)
    (hB : B ≤ w.heap.size) (hbl : b < B) (hX : ∀ k, X w k → B ≤ k) (hI : I w s) (hk : kids.length ≤ keys.length + 1) (hM : Hid (N s + (buf.filter (inR low high) ++ ents.filter (inR low high) ++ WlK g low high kids keys none).length ≤ M))
    (ih : Hid (∀ d ∈ kids, ∀ (s' : σ) (w' : World), NodesAt B w' (some ⟨b, o, none⟩) ps → I w' s' → B ≤ w'.heap.size → (∀ k, X w' k → B ≤ k) → N s' + (g d).length ≤ M →
      Calls Tryd.prog 53 #[.agg #[.slice (some ⟨b, o, none⟩) ps.length C, .int .i64 r], .int .i64 d, .int .i64 low, .int .i64 high, .func (Fn.func 54) #[] #[.pointer (some ⟨bl, 0, none⟩)]] w'
        fun e w'' => e = .returned (.tuple #[]) ∧ I w'' ((g d).foldl step s') ∧ Turned X w' w'')) :
    Calls Tryd.prog 53 #[.agg #[.slice (some ⟨b, o, none⟩) ps.length C, .int .i64 r], .int .i64 (m : Int), .int .i64 low, .int .i64 high, .func (Fn.func 54) #[] #[.pointer (some ⟨bl, 0, none⟩)]] w
      fun e w' => e = .returned (.tuple #[]) ∧ I w' ((buf.filter (inR low high) ++ ents.filter (inR low high) ++ WlK g low high kids keys none).foldl step s) ∧ Turned X w w' := by
  have hz := hN.z
  obtain ⟨c0, c1, c2, c3, c4⟩ := hat
  simp only at c0 c1 c2 c3 c4
  obtain ⟨e1, k1, t1, f1, -, -, -, -, ez, kz, dz, fz⟩ := ok
  simp only at e1 k1 t1 f1 ez kz dz fz
  have hbw : b < w.heap.size := by omega
  have HI : Hid (I w s) := hI
  have HX : Hid (∀ k, X w k → B ≤ k) := hX
  clear hI hX
  go_enter Tryd.func53, Tryd.ntmps53
  go_wp2_with fail
  obtain ⟨rb, rx, zz⟩ := two_rows (v := w) (l1 := [.slice (some ⟨b, o, none⟩) ps.length C, .int .i64 r]) (l2 := [.bool leaf, .slice eA ents.length eC, .slice kA keys.length kC, .slice dA kids.length dC, .slice bA buf.length bC]) (t1 := 25) (t2 := 79) (Below.refl _ _) rfl
  have hb01 : Below w.heap.size w ((w.alloc (.cells #[.slice (some ⟨b, o, none⟩) ps.length C, .int .i64 r] 25)).alloc (.cells #[.bool leaf, .slice eA ents.length eC, .slice kA keys.length kC, .slice dA kids.length dC, .slice bA buf.length bC] 79)) := two _ _
  simp only [List.toArray] at rb rx zz
  generalize ((w.alloc (.cells #[.slice (some ⟨b, o, none⟩) ps.length C, .int .i64 r] 25)).alloc (.cells #[.bool leaf, .slice eA ents.length eC, .slice kA keys.length kC, .slice dA kids.length dC, .slice bA buf.length bC] 79)) = w1 at *
  have I1 : Hid (I w1 s) := V.out.stay _ _ _ HI.out hb01
  have X1 : Hid (∀ k, X w1 k → X w k) := V.out.same _ _ _ HI.out hb01
  have T01 : Turned X w w1 := Turned.of_below hb01 X1.out
  have nb : Hid (¬ X w1 w.heap.size) := fun h => by have := V.out.lt _ _ HI.out _ (X1.out _ h); omega
  have nx : Hid (¬ X w1 (w.heap.size + 1)) := fun h => by have := V.out.lt _ _ HI.out _ (X1.out _ h); omega
  clear hb01 c0 c1 c2 c3 c4
  have i0 : ∀ (x y : Value) (w : World), (Instr.index 93 (.agg #[x, y]) (.int .i64 0)).run Tryd.prog w = .ok x w := fun _ _ _ => by kernel_rfl
  have i1 : ∀ (x y : Value) (w : World), (Instr.index 93 (.agg #[x, y]) (.int .i64 1)).run Tryd.prog w = .ok y w := fun _ _ _ => by kernel_rfl
  go_loopw [29] (fun vi wr => ∃ i : Nat, i ≤ 2 ∧ vi = .int .i64 i ∧ Hid (I wr ((if i = 0 then [] else if i = 1 then buf.filter (inR low high) else buf.filter (inR low high) ++ ents.filter (inR low high)).foldl step s)) ∧ Turned X w1 wr) (fun vi _ => 2 - (intOf vi).toNat)
  case atStart => exact ⟨0, by omega, rfl, I1, Turned.refl _ _⟩
  case round =>
    obtain ⟨i, hi, hv, HIr, htr⟩ := hrel
    rcases (show i = 0 ∨ i = 1 ∨ i = 2 by omega) with rfl | rfl | rfl
    · obtain rfl : _ = Value.int .i64 0 := hv
      simp only [if_true] at HIr
      go_wp2_with fail
      go_loopw [34] (fun vk wi => ∃ k : Nat, k ≤ buf.length ∧ vk = .int .i64 k ∧ Hid (I wi (([] ++ (buf.take k).filter (inR low high)).foldl step s)) ∧ Turned X w1 wi) (fun vk _ => buf.length - (intOf vk).toNat)
      case atStart => exact ⟨0, Nat.zero_le _, rfl, (by show I _ _; simpa using HIr.out), htr⟩
      case round =>
        clear HIr htr
        obtain ⟨k, hkl, rfl, HIr, htr⟩ := hrel
        have hTw : Turned X w wr := T01.trans htr
        have hBb : Below B w wr := hTw.below hB HX.out
        have hsz := hTw.size
        by_cases hlt : k < buf.length
        · obtain ⟨qb, qo, rfl, hqb, hqe⟩ := (f1.below hBb (Nat.le_refl _)).en hlt
          obtain ⟨y, hy⟩ : ∃ y, buf[k] = y := ⟨_, rfl⟩
          rw [hy] at hqe
          obtain ⟨q0, q1, q2, q3, q4, q5, q6⟩ := hqe
          have hqr : qb < wr.heap.size := by omega
          have HT : Hid ((buf.take (k + 1)).filter (inR low high) = (buf.take k).filter (inR low high) ++ if inR low high y = true then [y] else []) := by
            show _ = _
            rw [List.take_succ_eq_append_getElem hlt, List.filter_append, hy]
            by_cases h : inR low high y = true <;> simp [h]
          clear hy
          have hbA : ∀ o : Obj, Below wr.heap.size wr (wr.alloc o) := fun o => (Below.refl _ _).alloc (Nat.le_refl _) o
          by_cases hq : inR low high y = true
          · have hq' : low ≤ y.key ∧ y.key < high := by simpa [inR] using hq
            have HNk : Hid (N (([] ++ (buf.take k).filter (inR low high)).foldl step s) < M) := by
              show _ < _
              rw [V.out.fold]
              have h1 := HT.out
              rw [if_pos hq] at h1
              have h2 : ((buf.take (k + 1)).filter (inR low high)).length ≤ (buf.filter (inR low high)).length := ((List.take_sublist _ _).filter _).length_le
              rw [h1] at h2
              have h3 := hM.out
              simp only [List.length_append, List.length_cons, List.length_nil] at h2 h3 ⊢
              omega
            go_wp2_with (go_at_call 54; refine (V.out.call y _ _ (V.out.stay _ _ _ HIr.out (hbA _)) HNk.out).mono ?_; rintro e w2 ⟨rfl, hI2, ht2⟩)
            refine ⟨⟨k + 1, hlt, by go_num, ?_, htr.trans ((Turned.of_below (hbA _) (V.out.same _ _ _ HIr.out (hbA _))).trans ht2)⟩, by simp only [intOf]; omega⟩
            show I _ _
            rw [HT.out, if_pos hq, ← List.append_assoc, List.foldl_append]
            exact hI2
          · have hq' : ¬ (low ≤ y.key ∧ y.key < high) := by simpa [inR] using hq
            go_wp2_with fail
            all_goals (refine ⟨⟨k + 1, hlt, by go_num, ?_, htr.trans (Turned.of_below (hbA _) (V.out.same _ _ _ HIr.out (hbA _)))⟩, by simp only [intOf]; omega⟩; show I _ _; rw [HT.out, if_neg hq, List.append_nil]; exact V.out.stay _ _ _ HIr.out (hbA _))
        · go_wp2_with fail
          have hke : k = buf.length := by omega
          refine ⟨⟨0 + 1, by omega, rfl, ?_, htr⟩, by decide⟩
          show I _ _
          have q := HIr.out
          rw [hke, List.take_length] at q
          simpa using q
    · obtain rfl : _ = Value.int .i64 1 := hv
      simp only [if_true, Nat.one_ne_zero, if_false] at HIr
      go_wp2_with fail
      go_loopw [34] (fun vk wi => ∃ k : Nat, k ≤ ents.length ∧ vk = .int .i64 k ∧ Hid (I wi ((buf.filter (inR low high) ++ (ents.take k).filter (inR low high)).foldl step s)) ∧ Turned X w1 wi) (fun vk _ => ents.length - (intOf vk).toNat)
      case atStart => exact ⟨0, Nat.zero_le _, rfl, (by show I _ _; simpa using HIr.out), htr⟩
      case round =>
        clear HIr htr
        obtain ⟨k, hkl, rfl, HIr, htr⟩ := hrel
        have hTw : Turned X w wr := T01.trans htr
        have hBb : Below B w wr := hTw.below hB HX.out
        have hsz := hTw.size
        by_cases hlt : k < ents.length
        · obtain ⟨qb, qo, rfl, hqb, hqe⟩ := (e1.below hBb (Nat.le_refl _)).en hlt
          obtain ⟨y, hy⟩ : ∃ y, ents[k] = y := ⟨_, rfl⟩
          rw [hy] at hqe
          obtain ⟨q0, q1, q2, q3, q4, q5, q6⟩ := hqe
          have hqr : qb < wr.heap.size := by omega
          have HT : Hid ((ents.take (k + 1)).filter (inR low high) = (ents.take k).filter (inR low high) ++ if inR low high y = true then [y] else []) := by
            show _ = _
            rw [List.take_succ_eq_append_getElem hlt, List.filter_append, hy]
            by_cases h : inR low high y = true <;> simp [h]
          clear hy
          have hbA : ∀ o : Obj, Below wr.heap.size wr (wr.alloc o) := fun o => (Below.refl _ _).alloc (Nat.le_refl _) o
          by_cases hq : inR low high y = true
          · have hq' : low ≤ y.key ∧ y.key < high := by simpa [inR] using hq
            have HNk : Hid (N ((buf.filter (inR low high) ++ (ents.take k).filter (inR low high)).foldl step s) < M) := by
              show _ < _
              rw [V.out.fold]
              have h1 := HT.out
              rw [if_pos hq] at h1
              have h2 : ((ents.take (k + 1)).filter (inR low high)).length ≤ (ents.filter (inR low high)).length := ((List.take_sublist _ _).filter _).length_le
              rw [h1] at h2
              have h3 := hM.out
              simp only [List.length_append, List.length_cons, List.length_nil] at h2 h3 ⊢
              omega
            go_wp2_with (go_at_call 54; refine (V.out.call y _ _ (V.out.stay _ _ _ HIr.out (hbA _)) HNk.out).mono ?_; rintro e w2 ⟨rfl, hI2, ht2⟩)
            refine ⟨⟨k + 1, hlt, by go_num, ?_, htr.trans ((Turned.of_below (hbA _) (V.out.same _ _ _ HIr.out (hbA _))).trans ht2)⟩, by simp only [intOf]; omega⟩
            show I _ _
            rw [HT.out, if_pos hq, ← List.append_assoc, List.foldl_append]
            exact hI2
          · have hq' : ¬ (low ≤ y.key ∧ y.key < high) := by simpa [inR] using hq
            go_wp2_with fail
            all_goals (refine ⟨⟨k + 1, hlt, by go_num, ?_, htr.trans (Turned.of_below (hbA _) (V.out.same _ _ _ HIr.out (hbA _)))⟩, by simp only [intOf]; omega⟩; show I _ _; rw [HT.out, if_neg hq, List.append_nil]; exact V.out.stay _ _ _ HIr.out (hbA _))
        · go_wp2_with fail
          have hke : k = ents.length := by omega
          refine ⟨⟨1 + 1, by omega, rfl, ?_, htr⟩, by decide⟩
          show I _ _
          have q := HIr.out
          rw [hke, List.take_length] at q
          simpa using q
    · obtain rfl : _ = Value.int .i64 2 := hv
      simp only [show ¬ (2 = 0) by decide, show ¬ (2 = 1) by decide, if_false] at HIr
      have rx' := htr.row rx nx.out
      have y3 := rx'.cell 3
      simp only [List.getElem?_cons_zero, List.getElem?_cons_succ] at y3
      have hxl := rx'.lt
      have w2e : ∃ w2, w2 = wr := ⟨_, rfl⟩
      obtain ⟨w2, hw2⟩ := w2e
      have H2 : Hid (I w2 ((buf.filter (inR low high) ++ ents.filter (inR low high)).foldl step s)) := by rw [hw2]; exact HIr
      have T2 : Turned X w1 w2 := by rw [hw2]; exact htr
      go_wp2_with fail
      clear y3 hxl rx'
      rw [← hw2]
      go_loopw [56] (fun vi wk => ∃ i : Nat, i ≤ kids.length ∧ vi = .int .i64 i ∧ Hid (I wk ((buf.filter (inR low high) ++ ents.filter (inR low high) ++ (List.range i).flatMap (itK g low high kids keys none)).foldl step s)) ∧ Turned X w1 wk) (fun vi _ => kids.length - (intOf vi).toNat)
      case atStart => exact ⟨0, Nat.zero_le _, rfl, (by show I _ _; simpa using H2.out), T2⟩
      case round =>
        clear HIr htr H2 T2 hw2 w2
        obtain ⟨i, hi, rfl, HIr, htr⟩ := hrel
        have hTw : Turned X w wr := T01.trans htr
        have hBb : Below B w wr := hTw.below hB HX.out
        have hsz := hTw.size
        have hsz1 := htr.size
        have rb' := htr.row rb nb.out
        have rx' := htr.row rx nx.out
        have y0 := rb'.cell 0
        have y1 := rb'.cell 1
        have y2 := rx'.cell 2
        have y3 := rx'.cell 3
        simp only [List.getElem?_cons_zero, List.getElem?_cons_succ] at y0 y1 y2 y3
        have hxl := rx'.lt
        have hBr : B ≤ wr.heap.size := by omega
        have hwl : w.heap.size < wr.heap.size := by omega
        have HNr : Hid (NodesAt B wr (some ⟨b, o, none⟩) ps) := hN.below hBb (Nat.le_refl _)
        have HXr : Hid (∀ k, X wr k → B ≤ k) := hTw.far hB HX.out
        by_cases hlt : i < kids.length
        · obtain ⟨qb, qo, rfl, hqb, hqc⟩ := (t1.below hBb (Nat.le_refl _)).int hlt
          obtain ⟨kd, hkd⟩ : ∃ kd, kids[i] = kd := ⟨_, rfl⟩
          have con := fun w' (h1 : NodesAt B w' (some ⟨b, o, none⟩) ps) h2 h3 h4 h5 => ih.out kd (by rw [← hkd]; exact List.getElem_mem hlt) ((buf.filter (inR low high) ++ ents.filter (inR low high) ++ (List.range i).flatMap (itK g low high kids keys none)).foldl step s) w' h1 h2 h3 h4 h5
          rw [hkd] at hqc
          have hqr : qb < wr.heap.size := by omega
          have HT : Hid ((List.range (i + 1)).flatMap (itK g low high kids keys none) = (List.range i).flatMap (itK g low high kids keys none) ++ itK g low high kids keys none i) := by
            show _ = _
            rw [List.range_succ, List.flatMap_append]
            simp
          have HE : Hid (itK g low high kids keys none i = if skipB low high (if i = 0 then none else keys[i - 1]?) keys[i]? = true then [] else g kd) := by
            show _ = _
            unfold itK
            rw [← hkd, List.getD_eq_getElem?_getD, List.getElem?_eq_getElem hlt]
            rfl
          have HNi : Hid (itK g low high kids keys none i = g kd → N ((buf.filter (inR low high) ++ ents.filter (inR low high) ++ (List.range i).flatMap (itK g low high kids keys none)).foldl step s) + (g kd).length ≤ M) := by
            intro he
            rw [V.out.fold]
            have h1 := flat_le (itK g low high kids keys none) hlt
            have h3 := hM.out
            rw [WlK_range] at h3
            rw [HT.out, he] at h1
            simp only [List.length_append] at h1 h3 ⊢
            omega
          clear hkd ih
          cases i with
          | zero =>
            by_cases hkk : 0 < keys.length
            · obtain ⟨zb, zo, rfl, hzb, hzc⟩ := (k1.below hBb (Nat.le_refl _)).int hkk
              obtain ⟨nk, hnk⟩ : ∃ nk, keys[0] = nk := ⟨_, rfl⟩
              rw [hnk] at hzc
              have hzr : zb < wr.heap.size := by omega
              have hn : keys[0]? = some nk := by rw [List.getElem?_eq_getElem hkk, hnk]
              simp only [Nat.add_zero] at hzc hqc
              have HE' : Hid (itK g low high kids keys none 0 = if nk ≤ low then [] else g kd) := by
                show _ = _
                rw [HE.out]
                simp [skipB, hn]
              clear HE
              by_cases hc : nk ≤ low
              · go_wp2_with fail
                all_goals (refine ⟨⟨0 + 1, hlt, by go_num, ?_, htr⟩, by simp only [intOf]; omega⟩; show I _ _; rw [HT.out, HE'.out, if_pos hc, List.append_nil]; exact HIr.out)
              · go_wp2_with (go_at_call 53; refine (con _ ?_ ?_ ?_ ?_ ?_).mono ?_; exact HNr.out; exact HIr.out; exact hBr; exact HXr.out; exact HNi.out (by rw [HE'.out, if_neg (show ¬ nk ≤ low by omega)]); rintro e w2 ⟨rfl, hI2, ht2⟩)
                refine ⟨⟨0 + 1, hlt, by go_num, ?_, htr.trans ht2⟩, by simp only [intOf]; omega⟩
                show I _ _
                rw [HT.out, HE'.out, if_neg (by omega), ← List.append_assoc, List.foldl_append]
                exact hI2
            · have hn : keys[0]? = none := List.getElem?_eq_none (by omega)
              have hk1 : (keys.length : Int) < 1 := by omega
              clear hkk
              simp only [Nat.add_zero] at hqc
              have HE' : Hid (itK g low high kids keys none 0 = g kd) := by
                show _ = _
                rw [HE.out]
                simp [skipB, hn]
              clear HE
              go_wp2_with (go_at_call 53; refine (con _ ?_ ?_ ?_ ?_ ?_).mono ?_; exact HNr.out; exact HIr.out; exact hBr; exact HXr.out; exact HNi.out (HE'.out); rintro e w2 ⟨rfl, hI2, ht2⟩)
              refine ⟨⟨0 + 1, hlt, by go_num, ?_, htr.trans ht2⟩, by simp only [intOf]; omega⟩
              show I _ _
              rw [HT.out, HE'.out, ← List.append_assoc, List.foldl_append]
              exact hI2
          | succ j =>
            have hjk : j < keys.length := by omega
            obtain ⟨zb, zo, rfl, hzb, hzp⟩ := (k1.below hBb (Nat.le_refl _)).int hjk
            obtain ⟨pv, hpv⟩ : ∃ pv, keys[j] = pv := ⟨_, rfl⟩
            rw [hpv] at hzp
            have hzr : zb < wr.heap.size := by omega
            have hp : keys[j]? = some pv := by rw [List.getElem?_eq_getElem hjk, hpv]
            by_cases hkk : j + 1 < keys.length
            · obtain ⟨zb', zo', hzz, _, hzc⟩ := (k1.below hBb (Nat.le_refl _)).int hkk
              obtain ⟨rfl, rfl⟩ : zb = zb' ∧ zo = zo' := by simpa using hzz
              obtain ⟨nk, hnk⟩ : ∃ nk, keys[j + 1] = nk := ⟨_, rfl⟩
              rw [hnk] at hzc
              have hn : keys[j + 1]? = some nk := by rw [List.getElem?_eq_getElem hkk, hnk]
              have HE' : Hid (itK g low high kids keys none (j + 1) = if high ≤ pv ∨ nk ≤ low then [] else g kd) := by
                show _ = _
                rw [HE.out]
                simp [skipB, hn, hp]
              clear HE
              by_cases hc : high ≤ pv ∨ nk ≤ low
              · have HC : Hid (high ≤ pv ∨ nk ≤ low) := hc
                by_cases hc1 : high ≤ pv <;> by_cases hc2 : nk ≤ low <;> (try (exfalso; omega)) <;> clear hc
                all_goals go_wp2_with fail
                all_goals (refine ⟨⟨j + 1 + 1, hlt, by go_num, ?_, htr⟩, by simp only [intOf]; omega⟩; show I _ _; rw [HT.out, HE'.out, if_pos HC.out, List.append_nil]; exact HIr.out)
              · have hc1 : ¬ high ≤ pv := by omega
                have hc2 : ¬ nk ≤ low := by omega
                have HC : Hid (¬ (high ≤ pv ∨ nk ≤ low)) := hc
                clear hc
                go_wp2_with (go_at_call 53; refine (con _ ?_ ?_ ?_ ?_ ?_).mono ?_; exact HNr.out; exact HIr.out; exact hBr; exact HXr.out; exact HNi.out (by rw [HE'.out, if_neg HC.out]); rintro e w2 ⟨rfl, hI2, ht2⟩)
                refine ⟨⟨j + 1 + 1, hlt, by go_num, ?_, htr.trans ht2⟩, by simp only [intOf]; omega⟩
                show I _ _
                rw [HT.out, HE'.out, if_neg HC.out, ← List.append_assoc, List.foldl_append]
                exact hI2
            · have hn : keys[j + 1]? = none := List.getElem?_eq_none (by omega)
              have HE' : Hid (itK g low high kids keys none (j + 1) = if high ≤ pv then [] else g kd) := by
                show _ = _
                rw [HE.out]
                simp [skipB, hn, hp]
              clear HE
              by_cases hc : high ≤ pv
              · go_wp2_with fail
                all_goals (refine ⟨⟨j + 1 + 1, hlt, by go_num, ?_, htr⟩, by simp only [intOf]; omega⟩; show I _ _; rw [HT.out, HE'.out, if_pos hc, List.append_nil]; exact HIr.out)
              · go_wp2_with (go_at_call 53; refine (con _ ?_ ?_ ?_ ?_ ?_).mono ?_; exact HNr.out; exact HIr.out; exact hBr; exact HXr.out; exact HNi.out (by rw [HE'.out, if_neg (show ¬ high ≤ pv by omega)]); rintro e w2 ⟨rfl, hI2, ht2⟩)
                refine ⟨⟨j + 1 + 1, hlt, by go_num, ?_, htr.trans ht2⟩, by simp only [intOf]; omega⟩
                show I _ _
                rw [HT.out, HE'.out, if_neg (by omega), ← List.append_assoc, List.foldl_append]
                exact hI2
        · have hie : i = kids.length := by omega
          go_wp2_with fail
          go_end0
          refine ⟨rfl, ?_, hTw⟩
          rw [WlK_range, ← hie]
          exact HIr.out
end Go.Proofs.YtndojgeodmddoadDoor

/- The program's walk over a tree: all of it; and what knownAt makes of it. -/
namespace Go.Proofs.YtndojgeodmddoadDoor
open Go.RowKit Plain

theorem walkL_any {σ : Type} {I : World → σ → Prop} {X : World → Nat → Prop} {step : σ → En → σ} {N : σ → Nat} {M : Nat} (bl : Nat) (V : VisN 54 #[.pointer (some ⟨bl, 0, none⟩)] I X step N M)
    (A : Option Addr) (C : Nat) (r : Int) (ps : List PN) (B : Nat) (low high : Int) : ∀ (f : Nat) (n : Int) (s : σ) (w : World), Reach (ps.map PN.nd) f n → NodesAt B w A ps → I w s → B ≤ w.heap.size → (∀ k, X w k → B ≤ k) → N s + (Wl (ps.map PN.nd) low high f n).length ≤ M →
    Calls Tryd.prog 53 #[.agg #[.slice A ps.length C, .int .i64 r], .int .i64 n, .int .i64 low, .int .i64 high, .func (Fn.func 54) #[] #[.pointer (some ⟨bl, 0, none⟩)]] w
      fun e w' => e = .returned (.tuple #[]) ∧ I w' ((Wl (ps.map PN.nd) low high f n).foldl step s) ∧ Turned X w w' := by
  intro f
  induction f with
  | zero => intro n s w h; exact h.elim
  | succ f ih =>
    intro n s w hr hN hI hB hX hM
    obtain ⟨h0, h1, h2, h3⟩ := hr
    simp only [List.length_map] at h1
    obtain ⟨m, rfl⟩ : ∃ m : Nat, n = m := ⟨n.toNat, by omega⟩
    have hm : m < ps.length := by omega
    obtain ⟨b, o, rfl, hbl, hat⟩ := hN.row.pn hm
    have ok := hN.each m hm
    have hg : (ps.map PN.nd).getD m default = (ps[m]).nd := by simp [hm]
    simp only [Int.toNat_natCast, hg] at h2 h3
    have e : Wl (ps.map PN.nd) low high (f + 1) (m : Int) = (ps[m]).buf.filter (inR low high) ++ (ps[m]).ents.filter (inR low high) ++ WlK (Wl (ps.map PN.nd) low high f) low high (ps[m]).kids (ps[m]).keys none := by
      rw [Wl]
      simp only [Int.toNat_natCast, hg]
      rfl
    rw [e] at hM ⊢
    exact walkL_step bl V b o C r ps m B low high s w _ _ _ _ _ _ _ _ _ _ _ _ _ (Wl (ps.map PN.nd) low high f) hm hN hat ok hB hbl hX hI h2 hM (fun d hd s' w' a1 a2 a3 a4 a5 => ih d s' w' (h3 d hd) a1 a2 a3 a4 a5)

end Go.Proofs.YtndojgeodmddoadDoor

/- slices.SortFunc over entries, by their keys. -/
namespace Go.Proofs.YtndojgeodmddoadDoor
open Go.RowKit Plain Go.Shelf

set_option maxHeartbeats 1000000 in
theorem keyCmp (x y : En) (W : World) : Calls Tryd.prog 63 #[.agg #[.int .i64 x.key, .int .i64 x.c, .int .i64 x.s, .int .i64 x.lo, .int .i64 x.hi, .int .i64 x.t, .int .i64 x.l], .agg #[.int .i64 y.key, .int .i64 y.c, .int .i64 y.s, .int .i64 y.lo, .int .i64 y.hi, .int .i64 y.t, .int .i64 y.l]] W
    fun e w' => e = .returned (.int .i64 (Lib.compareInt x.key y.key)) ∧ ∃ q os', w' = Sort.grow (W.drewN q) os' := by
  have hcon := fun W' => AnyG.cmp_Compare_int Tryd.cmpInt x.key y.key W'
  change ∀ W', Calls Tryd.prog 64 _ _ _ at hcon
  generalize Lib.compareInt x.key y.key = r at hcon ⊢
  go_enter Tryd.func63, Tryd.ntmps63
  go_wp2_with (go_at_call 64; refine (hcon _).mono ?_; rintro e w' ⟨rfl, rfl⟩)
  go_ret
  exact ⟨rfl, 0, _, by rw [Sort.alloc_eq_grow, Sort.alloc_eq_grow, Sort.grow_grow]; rfl⟩

theorem ltKey (x y : En) : ltOf (fun x y : En => Lib.compareInt x.key y.key) x y = decide (x.key < y.key) := by
  unfold ltOf Lib.compareInt
  by_cases h1 : x.key < y.key
  · simp [h1]
  · by_cases h2 : y.key < x.key <;> simp [h1, h2]

theorem swoKey : Sort.SWO (ltOf fun x y : En => Lib.compareInt x.key y.key) where
  irrefl x := by rw [ltKey]; simp
  trans x y z h1 h2 := by rw [ltKey] at *; simp at *; omega
  ntrans x y z h1 h2 := by rw [ltKey] at *; simp at *; omega

theorem flatE_bang (xs : List En) (t : Nat) (h : t < xs.length * 7) : (flatE xs)[t]? = some ((xs.toArray[t / 7]!).vals)[t % 7]! := by
  have h1 : t / 7 < xs.length := by omega
  have e : t = t / 7 * 7 + t % 7 := by omega
  have g := flatE_get xs (t / 7) (t % 7) h1 (Nat.mod_lt _ (by decide))
  rw [← e] at g
  rw [g]
  have e2 : xs.toArray[t / 7]! = xs[t / 7] := by simp [h1]
  rw [e2]
  have l : t % 7 < (xs[t / 7]).vals.length := by simp only [En.vals, List.length_cons, List.length_nil]; omega
  rw [List.getElem?_eq_getElem l, getElem!_pos (xs[t / 7]).vals (t % 7) l]

theorem holds_own {w : World} {H g n cap : Nat} {xs : List En} {t : TypeId} (h : w.ownsRow H t 7 (.slice (some ⟨g, 0, none⟩) n cap) n (flatE xs)) (hn : n = xs.length) : Sort.HoldsK En.vals 7 w g 0 xs.toArray := by
  subst hn
  intro j hj
  have hj' : j < xs.length * 7 := by simpa using hj
  rw [Nat.zero_add, Sort.get_flatK _ _ _ _ (by simpa using hj')]
  exact ⟨(h.cellAt j hj').trans (flatE_bang xs j hj'), h.frozenAt j⟩

theorem below_sorted {B : Nat} {w : World} {g n : Nat} (hg : B ≤ g) (hB : B ≤ w.heap.size) (d : Array En) (os : Array Obj) : Below B w (sortWorldK En.vals 7 w g 0 n d os) := by
  unfold sortWorldK Sort.putRowK
  refine ⟨rfl, rfl, rfl, ?_, fun k hk => ?_⟩
  · rw [Sort.size_grow]
    simp [Sort.putRow, Sort.mapBlock, Sort.ahead]
  · rw [Sort.heap_grow_old _ _ (by simp [Sort.putRow, Sort.mapBlock, Sort.ahead]; omega)]
    have : g ≠ k := by omega
    simp [Sort.putRow, Sort.mapBlock, Sort.ahead, Array.getElem?_modify, this]

set_option maxHeartbeats 1000000 in
theorem sortE_some (xs : List En) (g cap H : Nat) (w : World) (t : TypeId) (h : w.ownsRow H t 7 (.slice (some ⟨g, 0, none⟩) xs.length cap) xs.length (flatE xs)) (hH : H ≤ w.heap.size) (hg : H ≤ g) (hgl : g < w.heap.size) (hz : xs.length < 4611686018427387904) :
    Calls Tryd.prog 62 #[.slice (some ⟨g, 0, none⟩) xs.length cap, .func (.func 63) #[] #[]] w
      fun e w' => e = .returned (.tuple #[]) ∧ Below H w w' ∧ ∃ ys : List En, ys.Perm xs ∧ (ys.Pairwise fun a b => a.key ≤ b.key) ∧ RowAt w'.heap.size w' (some ⟨g, 0, none⟩) (flatE ys) := by
  have eg : ∀ args w, (callFunc 63 args).run Tryd.prog w = .ok (.enter 63 args) w := enters_of Tryd.func63 (by kernel_rfl) rfl
  have hh := holds_own h rfl
  have hcon := AnyQ.slices_SortFunc Tryd.sortEn 7 Tryd.isAgg61 Tryd.sizeOf61 En.vals (fun _ => rfl) (fun x v hv => vals_one x v hv) (fun x y => Lib.compareInt x.key y.key) swoKey 63 #[] g 0 cap xs.toArray w eg (fun _ _ _ _ x y => keyCmp x y _) hh hgl (by simpa using hz)
  change Calls Tryd.prog 62 _ _ _ at hcon
  simp only [List.size_toArray] at hcon
  refine hcon.mono ?_
  rintro e w' ⟨rfl, d', n, os, hp, hs, rfl⟩
  have hsz : d'.size = xs.length := by simpa using hp.1
  have hd := holdsK_sortWorldK En.vals 7 w g 0 n xs.toArray d' os hgl hh (by simpa using hsz)
  have hlt := lt_sortWorldK En.vals 7 w g 0 n d' os hgl
  refine ⟨rfl, below_sorted hg hH d' os, d'.toList, ?_, ?_, .inr ⟨g, 0, rfl, hlt, fun j u hu => ?_⟩⟩
  · have := hp.2.2
    simp only [← hsz, Array.extract_size, List.extract_toArray, List.extract_eq_take_drop, List.drop_zero, Nat.sub_zero] at this
    rw [hsz, List.take_length] at this
    exact this
  · rw [List.pairwise_iff_getElem]
    intro i j hi hj hij
    simp only [Array.length_toList] at hi hj
    have := hs i j (Nat.zero_le _) hij (by omega)
    rw [ltKey, getElem!_pos d' i hi, getElem!_pos d' j hj] at this
    simp only [decide_eq_false_iff_not, Array.getElem_toList] at this ⊢
    omega
  · have hj : j < d'.size * 7 := by
      have := (List.getElem?_eq_some_iff.1 hu).1
      rw [flatE_length] at this
      simpa using this
    have c := (hd j (by simpa using hj)).1
    rw [Sort.get_flatK _ _ _ _ hj] at c
    have f := flatE_bang d'.toList j (by simpa using hj)
    rw [f] at hu
    cases hu
    simpa using c

theorem sortE_none (p : Option Addr) (cap : Nat) (w : World) :
    Calls Tryd.prog 62 #[.slice p 0 cap, .func (.func 63) #[] #[]] w fun e w' => e = .returned (.tuple #[]) ∧ w' = w :=
  AnyF.slices_SortFunc_none Tryd.sortEn p cap _ w

/-- Whatever the list is. -/
theorem sortE_any (xs : List En) (v : Value) (H : Nat) (w : World) (h : w.ownsRow H 61 7 v xs.length (flatE xs)) (hH : H ≤ w.heap.size) (hz : xs.length < 4611686018427387904) :
    ∃ A C, v = .slice A xs.length C ∧ Calls Tryd.prog 62 #[.slice A xs.length C, .func (.func 63) #[] #[]] w
      fun e w' => e = .returned (.tuple #[]) ∧ Below H w w' ∧ ∃ ys : List En, ys.Perm xs ∧ (ys.Pairwise fun a b => a.key ≤ b.key) ∧ RowAt w'.heap.size w' A (flatE ys) := by
  rcases h.2 with ⟨rfl, h0⟩ | ⟨g, cap, cur, rfl, hb, hg, _⟩
  · have e : xs = [] := List.length_eq_zero_iff.1 h0
    subst e
    refine ⟨none, 0, rfl, (sortE_none none 0 w).mono ?_⟩
    rintro e w' ⟨rfl, rfl⟩
    exact ⟨rfl, Below.refl _ _, [], List.Perm.refl _, by simp, .inl rfl⟩
  · have hgl : g < w.heap.size := (Array.getElem?_eq_some_iff.1 hg).1
    exact ⟨_, cap, rfl, sortE_some xs g cap H w _ h hH hb hgl hz⟩

end Go.Proofs.YtndojgeodmddoadDoor

/- tree.bringTogether: what comes of a list of entries. -/
namespace Go.Proofs.YtndojgeodmddoadDoor
open Go.RowKit Plain

theorem own_last {w : World} {base g cap : Nat} {l : List En} {y : En} {t : TypeId} (h : w.ownsRow base t 7 (.slice (some ⟨g, 0, none⟩) (l.length + 1) cap) (l.length + 1) (flatE (l ++ [y]))) : EnAt w g (l.length * 7) y := by
  obtain ⟨b, o, e, _, q⟩ := (own_ok h).1.en (k := l.length) (by simp)
  cases e
  rw [Nat.zero_add] at q
  simpa using q

theorem own_put {w : World} {base g cap : Nat} {l : List En} {y : En} {t : TypeId} (h : w.ownsRow base t 7 (.slice (some ⟨g, 0, none⟩) (l.length + 1) cap) (l.length + 1) (flatE (l ++ [y]))) (r : Ru) :
    ((((((w.setCell ⟨g, l.length * 7 + 1, none⟩ (.int .i64 r.c)).setCell ⟨g, l.length * 7 + 2, none⟩ (.int .i64 r.s)).setCell ⟨g, l.length * 7 + 3, none⟩ (.int .i64 r.lo)).setCell ⟨g, l.length * 7 + 4, none⟩ (.int .i64 r.hi)).setCell ⟨g, l.length * 7 + 5, none⟩ (.int .i64 r.t)).setCell ⟨g, l.length * 7 + 6, none⟩ (.int .i64 r.l)).ownsRow base t 7 (.slice (some ⟨g, 0, none⟩) (l.length + 1) cap) (l.length + 1) (flatE (l ++ [mkE y.key r])) := by
  have q := ((((((h.stored (l.length * 7 + 1) (.int .i64 r.c)).1.stored (l.length * 7 + 2) (.int .i64 r.s)).1.stored (l.length * 7 + 3) (.int .i64 r.lo)).1.stored (l.length * 7 + 4) (.int .i64 r.hi)).1.stored (l.length * 7 + 5) (.int .i64 r.t)).1.stored (l.length * 7 + 6) (.int .i64 r.l)).1
  have e : ∀ (j : Nat) (v : Value) (vs : List Value), (flatE l ++ vs).set (l.length * 7 + j) v = flatE l ++ vs.set j v := fun j v vs => by
    rw [List.set_append_right _ _ (by rw [flatE_length]; omega), flatE_length]
    congr 2
    omega
  have e0 : flatE (l ++ [y]) = flatE l ++ y.vals := (flatE_snoc l y).symm
  rw [e0, e, e, e, e, e, e] at q
  rw [← flatE_snoc]
  exact q

theorem below_set {B : Nat} {w w' : World} (h : Below B w w') {g : Nat} (hg : B ≤ g) (j : Nat) (v : Value) : Below B w (w'.setCell ⟨g, j, none⟩ v) :=
  ⟨h.os, h.tape, h.output, by simpa using h.size, fun k hk => (Below.heap_setCell _ _ _ _ (show k ≠ g by omega)).trans (h.block k hk)⟩

set_option maxRecDepth 20000 in
set_option maxHeartbeats 4000000 in
theorem bring_any (xs : List En) (v : Value) (H : Nat) (w : World) (h : w.ownsRow H 61 7 v xs.length (flatE xs)) (hH : H ≤ w.heap.size) (hz : xs.length ≤ 28000) (hg : ∀ x ∈ xs, Good x.ru) (Q : Ending → World → Prop)
    (HQ : Hid (∀ e w', Below H w w' → (∀ ys, allL xs = some ys → ∃ v, e = .returned (.tuple #[v, .int .i64 0]) ∧ w'.ownsRow H 61 7 v ys.length (flatE ys)) → (allL xs = none → e = .returned (.tuple #[.slice none 0 0, .int .i64 1])) → Q e w')) :
    Calls Tryd.prog 55 #[v] w Q := by
  obtain ⟨i0, hi0, hz0, hz1, hz2⟩ := info_parts infoE
  obtain ⟨A, C, rfl, con⟩ := sortE_any xs v H w h hH (by omega)
  go_enter Tryd.func55, Tryd.ntmps55
  go_wp2_with (go_at_call 62; refine con.mono ?_; rintro e w1 ⟨rfl, hb1, ys, hp, hs, hrow⟩)
  clear con h
  have hlen : ys.length = xs.length := hp.length_eq
  have HG : Hid (∀ x ∈ ys, Good x.ru) := fun x hx => hg x (hp.subset hx)
  have HA : Hid (allL xs = allL ys) := (allL_perm hp fun x hx => (good_iff.1 (HG.out x hx)).1.1).symm
  have HS : Hid (ys.Pairwise fun a b => a.key ≤ b.key) := hs
  clear hs hp hg
  go_loopw [4, 14] (fun vo vi wr => ∃ (i : Nat) (out : List En), i ≤ xs.length ∧ vi = .int .i64 i ∧ Hid (Brg ys i out) ∧ out.length ≤ i ∧ wr.ownsRow w1.heap.size 61 7 vo out.length (flatE out) ∧ Below w1.heap.size w1 wr) (fun _ vi _ => xs.length - (intOf vi).toNat)
  case atStart => exact ⟨0, [], Nat.zero_le _, rfl, brg_start _, by simp, World.ownsRow_nil _ _ _ _, Below.refl _ _⟩
  case round =>
    obtain ⟨i, out, hi, rfl, HB, hol, hown, hb⟩ := hrel
    have hsz := hb.size
    by_cases hlt : i < xs.length
    · have hly : i < ys.length := by omega
      obtain ⟨b, o, rfl, hbl, c0, c1, c2, c3, c4, c5, c6⟩ := (hrow.below hb (Nat.le_refl _)).en hly
      have hbr : b < wr.heap.size := by omega
      have hgi : Hid (Good (ys[i]).ru) := HG.out _ (List.getElem_mem hly)
      rcases List.eq_nil_or_concat out with rfl | ⟨l, y, rfl⟩
      · have HB' : Hid (Brg ys (i + 1) ([] ++ [ys[i]])) := brg_new HS.out HB.out hly hgi.out (fun l y e => by simp at e)
        clear HB
        obtain ⟨A0, C0, hv, hr0, hA0⟩ := own_row hown
        simp only [List.length_nil] at hv
        obtain ⟨y, hy⟩ : ∃ y, ys[i] = y := ⟨_, rfl⟩
        rw [hy] at c0 c1 c2 c3 c4 c5 c6 HB'
        rw [hv]
        go_wp2_with fail
        go_quiet (fail)
        have hownd : (wr.drewN nq).ownsRow w1.heap.size 61 7 (.slice A0 0 C0) 0 (flatE []) := by
          rw [← hv]
          exact own_of_block hown (fun _ _ => rfl)
        have hbd := below_drewN hb nq
        go_wp2_with (at_builtin; refine wpList_append_own _ rfl _ _ 46 rfl w1.heap.size 61 i0 _ 7 56 Tryd.underlying46 hi0 hz0 hz1 hz2 rfl (by decide) (.slice A0 0 C0) 0 (flatE []) rfl ((hownd.alloc _).alloc _) ⟨wr.heap.size + 1, 0, none⟩ 1 1 y.vals rfl rfl (news2 (wr.drewN nq) _ y) (vals_one y) (by unfold maxLen; omega) (by omega) (by simp; omega) ?_; intro v2 w2 hown2 hgrow2 _)
        have R1 := app_below (out := []) (hownd.alloc _) (hbd.alloc (by simpa using hsz) _) (by simp; omega) hgrow2
        go_wp2
        go_roundw
        case rel =>
          go_light
          exact ⟨i + 1, [] ++ [y], by omega, by go_num, HB', by simp, app_own (out := []) hown2, R1.1⟩
        case measure => simp [intOf]; omega
      · rw [List.concat_eq_append] at HB hol hown
        obtain ⟨g, cap, hv, hgb, hgl⟩ := hown.form (by simp)
        have hl1 : (l ++ [y]).length = l.length + 1 := by simp
        rw [hl1] at hv hown hol
        subst hv
        have hE := own_last hown
        obtain ⟨d0, d1, d2, d3, d4, d5, d6⟩ := hE
        have hd0 : decide ((l.length : Int) < 0) = false := by simp
        have hngw : ¬ g = wr.heap.size := by omega
        by_cases hk : y.key = ys[i].key
        · obtain ⟨hm, hB1, hN1⟩ := brg_same HS.out HB.out hly hgi.out hk
          clear HB
          obtain ⟨x, hx⟩ : ∃ x, ys[i] = x := ⟨_, rfl⟩
          rw [hx] at c0 c1 c2 c3 c4 c5 c6 hm hB1 hN1 hk
          obtain ⟨J, hJ⟩ : ∃ J : Ru, J = (mrg y.ru x.ru).1 := ⟨_, rfl⟩
          obtain ⟨ec, hec⟩ : ∃ ec : Int, ec = (mrg y.ru x.ru).2 := ⟨_, rfl⟩
          have HJ : Hid ((ec = 0 ∧ Brg ys (i + 1) (l ++ [mkE y.key J])) ∨ (ec = 1 ∧ allL ys = none)) := by
            by_cases hc : y.c + x.c ≤ 1073741824
            · left
              rw [hec, hJ, hm, if_pos hc, hk]
              exact ⟨rfl, hB1 hc⟩
            · right
              rw [hec, hm, if_neg hc]
              exact ⟨rfl, hN1 hc⟩
          have con : ∀ w', Calls Tryd.prog 47 #[.agg #[.int .i64 y.c, .int .i64 y.s, .int .i64 y.lo, .int .i64 y.hi, .int .i64 y.t, .int .i64 y.l], .agg #[.int .i64 x.c, .int .i64 x.s, .int .i64 x.lo, .int .i64 x.hi, .int .i64 x.t, .int .i64 x.l]] w' fun e w'' => e = .returned (.tuple #[.agg #[.int .i64 J.c, .int .i64 J.s, .int .i64 J.lo, .int .i64 J.hi, .int .i64 J.t, .int .i64 J.l], .int .i64 ec]) ∧ Below w'.heap.size w' w'' := by
            intro w'
            have := merge_any y.ru x.ru w'
            rw [← hJ, ← hec] at this
            exact this
          clear hm hJ hec hB1 hN1
          obtain ⟨jc, js, jlo, jhi, jt, jl⟩ := J
          simp only at con
          have hkb : (y.key == x.key) = true := by simpa using hk
          have hkn : (y.key != x.key) = false := by simpa using hk
          go_wp2_with fail
          go_quiet (fail)
          go_wp2_with fail
          obtain ⟨wd, hwd⟩ : ∃ wd, wd = (wr.alloc (.cells #[.int .i64 x.key, .int .i64 x.c, .int .i64 x.s, .int .i64 x.lo, .int .i64 x.hi, .int .i64 x.t, .int .i64 x.l] 61)).drewN nq := ⟨_, rfl⟩
          have rx : RowL wd wr.heap.size 61 x.vals := by
            rw [hwd]
            exact rowL_alloc wr x.vals _
          have hbd0 : Below wr.heap.size wr wd := by
            rw [hwd]
            exact below_drewN ((Below.refl _ _).alloc (Nat.le_refl _) _) nq
          have hbd : Below w1.heap.size w1 wd := hb.trans (hbd0.mono hsz)
          have hownd : wd.ownsRow w1.heap.size 61 7 (.slice (some ⟨g, 0, none⟩) (l.length + 1) cap) (l.length + 1) (flatE (l ++ [y])) := own_of_block hown (fun k hk => hbd0.block k (own_some hown hk).2)
          have hzd : wd.heap.size = wr.heap.size + 1 := by rw [hwd]; simp
          rw [← hwd]
          clear hown hb hbd0 c0 c1 c2 c3 c4 c5 c6 d0 d1 d2 d3 d4 d5 d6 hwd
          obtain ⟨-, d1, d2, d3, d4, d5, d6⟩ := own_last hownd
          have rxx := fun j => rx.cell j
          simp only [En.vals] at rxx
          have x1 := rxx 1
          have x2 := rxx 2
          have x3 := rxx 3
          have x4 := rxx 4
          have x5 := rxx 5
          have x6 := rxx 6
          simp only [List.getElem?_cons_zero, List.getElem?_cons_succ] at x1 x2 x3 x4 x5 x6
          obtain ⟨n, hn⟩ : ∃ n, n = wr.heap.size := ⟨_, rfl⟩
          rw [← hn] at hsz hzd hgl hngw x1 x2 x3 x4 x5 x6 ⊢
          have hgd : g < wd.heap.size := by omega
          have hnd : n < wd.heap.size := by omega
          clear rx rxx hbr hn hzd
          have q0 : (0 : Int) ≤ (l.length : Int) := by omega
          obtain ⟨m, hm⟩ : ∃ m, m = l.length + 1 := ⟨_, rfl⟩
          rw [← hm]
          have q1 : (l.length : Int) < (m : Int) := by omega
          have HM : Hid (m = l.length + 1) := hm
          clear hm
          have n1 : ¬ g = wd.heap.size := by omega
          have n2 : ¬ n = wd.heap.size := by omega
          have hgd1 : g < wd.heap.size + 1 := by omega
          have hnd1 : n < wd.heap.size + 1 := by omega
          have KS : ∀ (W : World) (b' o' j : Nat) (v : Value), ¬ b' = wd.heap.size → (W.setCell ⟨wd.heap.size, j, none⟩ v).cell? ⟨b', o', none⟩ = W.cell? ⟨b', o', none⟩ := fun W b' o' j v hb => World.cell?_setCell_far _ _ _ _ (fun e => hb e.symm)
          go_cut [8, 9] (fun v8 v9 wc => ∃ rb, v8 = .pointer (some ⟨rb, 0, none⟩) ∧ v9 = .int .i64 ec ∧ wd.heap.size ≤ rb ∧ RowL wc rb 38 [.int .i64 jc, .int .i64 js, .int .i64 jlo, .int .i64 jhi, .int .i64 jt, .int .i64 jl] ∧ Below wd.heap.size wd wc)
          case first =>
            go_region_held3 (fun w' => w'.cell? ⟨g, l.length * 7 + 1, none⟩ = some (.int .i64 y.c) ∧ w'.cell? ⟨g, l.length * 7 + 2, none⟩ = some (.int .i64 y.s) ∧ w'.cell? ⟨g, l.length * 7 + 3, none⟩ = some (.int .i64 y.lo) ∧ w'.cell? ⟨g, l.length * 7 + 4, none⟩ = some (.int .i64 y.hi) ∧ w'.cell? ⟨g, l.length * 7 + 5, none⟩ = some (.int .i64 y.t) ∧ w'.cell? ⟨g, l.length * 7 + 6, none⟩ = some (.int .i64 y.l) ∧ w'.cell? ⟨n, 1, none⟩ = some (.int .i64 x.c) ∧ w'.cell? ⟨n, 2, none⟩ = some (.int .i64 x.s) ∧ w'.cell? ⟨n, 3, none⟩ = some (.int .i64 x.lo) ∧ w'.cell? ⟨n, 4, none⟩ = some (.int .i64 x.hi) ∧ w'.cell? ⟨n, 5, none⟩ = some (.int .i64 x.t) ∧ w'.cell? ⟨n, 6, none⟩ = some (.int .i64 x.l)) (go_keep) (first | (go_at_call 47; refine (con _).mono ?_; rintro e w3 ⟨rfl, hb3⟩; have T3 := (bcells (hb3.mono (show wd.heap.size ≤ _ by simp))).1; first | (have T4 := alloc_rule (W := wd.drew) (n := wd.heap.size) hb3 rfl; obtain ⟨T40, T41, T42, T43, T44, T45, U4⟩ := T4) | skip))
            · go_wp2
              go_meet
              case rel =>
                refine ⟨w3.heap.size, rfl, rfl, ?_, rowL_alloc w3 _ _, ?_⟩
                · have := hb3.size; simpa using this
                · have bw : Below wd.heap.size wd w3 := ((Below.refl wd.heap.size wd).drew).trans (hb3.mono (by simp))
                  exact bw.alloc bw.size _
            · go_wp2
              go_meet
              case rel =>
                have r0 : RowL w3 wd.heap.size 38 [.int .i64 0, .int .i64 0, .int .i64 0, .int .i64 0, .int .i64 0, .int .i64 0] := RowL.below (rowL_alloc wd.drew _ _) hb3 (by simp)
                have bw : Below wd.heap.size wd w3 := (((Below.refl wd.heap.size wd).alloc (Nat.le_refl _) _).drew).trans (hb3.mono (by simp))
                refine ⟨wd.heap.size, rfl, rfl, Nat.le_refl _, (((((r0.set 0 _).set 1 _).set 2 _).set 3 _).set 4 _).set 5 _, ?_⟩
                exact set6 bw (Nat.le_refl _) _ _ _ _ _ _
          case rest =>
            obtain ⟨rb, rfl, rfl, hrb, hrw, hbc⟩ := hcut
            have r0 := hrw.cell 0
            have r1 := hrw.cell 1
            have r2 := hrw.cell 2
            have r3 := hrw.cell 3
            have r4 := hrw.cell 4
            have r5 := hrw.cell 5
            simp only [List.getElem?_cons_zero, List.getElem?_cons_succ] at r0 r1 r2 r3 r4 r5
            have hrl := hrw.lt
            have hcs : wd.heap.size ≤ wc.heap.size := hbc.size
            have hdz := hbd.size
            have hownc : wc.ownsRow w1.heap.size 61 7 (.slice (some ⟨g, 0, none⟩) (l.length + 1) cap) (l.length + 1) (flatE (l ++ [y])) := own_of_block hownd (fun k hk => hbc.block k (own_some hownd hk).2)
            have hbcc : Below w1.heap.size w1 wc := hbd.trans (hbc.mono hdz)
            obtain ⟨-, e1, e2, e3, e4, e5, e6⟩ := own_last hownc
            have ef := fun j => hownc.frozenAt j
            have hgc : g < wc.heap.size := by omega
            have n3 : ¬ rb = g := by omega
            have n4 : ¬ g = rb := by omega
            have HO : Hid (wc.ownsRow w1.heap.size 61 7 (.slice (some ⟨g, 0, none⟩) (l.length + 1) cap) (l.length + 1) (flatE (l ++ [y]))) := hownc
            clear hownd hownc d1 d2 d3 d4 d5 d6 x1 x2 x3 x4 x5 x6 con KS
            rcases HJ.out with ⟨he, hWA⟩ | ⟨he, hIN⟩
            · subst he
              have HW' : Hid (Brg ys (i + 1) (l ++ [mkE y.key (Ru.mk jc js jlo jhi jt jl)])) := hWA
              clear HJ hWA
              go_wp2_with fail
              go_roundw
              case rel =>
                go_light
                have hm := HM.out
                subst hm
                exact ⟨i + 1, l ++ [mkE y.key (Ru.mk jc js jlo jhi jt jl)], by omega, by go_num, HW', by simp; omega, (by
                  have q := own_put HO.out (Ru.mk jc js jlo jhi jt jl)
                  rw [← show (l ++ [mkE y.key (Ru.mk jc js jlo jhi jt jl)]).length = l.length + 1 by simp] at q
                  simpa using q), below_set (below_set (below_set (below_set (below_set (below_set hbcc hgb _ _) hgb _ _) hgb _ _) hgb _ _) hgb _ _) hgb _ _⟩
              case measure => simp [intOf]; omega
            · subst he
              have HN : Hid (allL ys = none) := hIN
              clear HJ hIN
              go_wp2_with fail
              refine HQ.out _ _ (hb1.trans (hbcc.mono (Nat.le_trans hH hb1.size))) (fun ys hys => by rw [HA.out, HN.out] at hys; cases hys) (fun _ => rfl)
        · have HB' : Hid (Brg ys (i + 1) (l ++ [y] ++ [ys[i]])) := brg_new HS.out HB.out hly hgi.out (fun l' y' e => by
            obtain ⟨_, e2⟩ := List.append_inj' e rfl
            cases e2
            exact hk)
          clear HB
          obtain ⟨x, hx⟩ : ∃ x, ys[i] = x := ⟨_, rfl⟩
          rw [hx] at c0 c1 c2 c3 c4 c5 c6 HB' hk
          go_wp2_with fail
          go_quiet (fail)
          have hownd : (wr.drewN nq).ownsRow w1.heap.size 61 7 (.slice (some ⟨g, 0, none⟩) (l.length + 1) cap) (l.length + 1) (flatE (l ++ [y])) := own_of_block hown (fun _ _ => rfl)
          have hbd := below_drewN hb nq
          go_wp2_with (at_builtin; refine wpList_append_own _ rfl _ _ 46 rfl w1.heap.size 61 i0 _ 7 56 Tryd.underlying46 hi0 hz0 hz1 hz2 rfl (by decide) (.slice (some ⟨g, 0, none⟩) (l.length + 1) cap) (l.length + 1) (flatE (l ++ [y])) rfl ((hownd.alloc _).alloc _) ⟨wr.heap.size + 1, 0, none⟩ 1 1 x.vals rfl rfl (news2 (wr.drewN nq) _ x) (vals_one x) (by unfold maxLen; omega) (by omega) (by simp; omega) ?_; intro v2 w2 hown2 hgrow2 _)
          have R1 := app_below (out := l ++ [y]) (by rw [hl1]; exact hownd.alloc _) (hbd.alloc (by simpa using hsz) _) (by simp; omega) hgrow2
          go_wp2
          go_roundw
          case rel =>
            go_light
            exact ⟨i + 1, l ++ [y] ++ [x], by omega, by go_num, HB', by simp; omega, app_own (out := l ++ [y]) (by rw [hl1]; exact hown2), R1.1⟩
          case measure => simp [intOf]; omega
    · have hie : i = xs.length := by omega
      have HE : Hid (allL ys = some out) := by
        have q := HB.out
        rw [show i = ys.length by omega] at q
        exact brg_end q
      clear HB
      go_wp2_with fail
      refine HQ.out _ _ (hb1.trans (hb.mono ?_)) ?_ ?_
      · exact Nat.le_trans hH hb1.size
      · intro zs hzs
        rw [HA.out, HE.out] at hzs
        cases hzs
        exact ⟨_, rfl, own_mono hown (Nat.le_trans hH hb1.size)⟩
      · intro hn
        rw [HA.out, HE.out] at hn
        cases hn

end Go.Proofs.YtndojgeodmddoadDoor

/- tree.All, and the document's AllOf: both answer 'allP'. -/
namespace Go.Proofs.YtndojgeodmddoadDoor
open Go.RowKit Plain

/-- The code, and what is known, of a tree's keys from low on, below high. -/
def allP (ns : List Nd) (root low high : Int) : Int × List En :=
  if treeC ns root ≠ 0 then (treeC ns root, []) else match allR low high (ns.flatMap Nd.lst) with
    | some ys => (0, ys)
    | none => (1, [])

/-- The walk's list, brought together, is what the document brings together. -/
theorem walk_all {ns : List Nd} {root low high : Int} (h : treeC ns root = 0) :
    allL (Wl ns low high 12 root) = allR low high (ns.flatMap Nd.lst) ∧ (∀ x ∈ Wl ns low high 12 root, Good x.ru) ∧ (Wl ns low high 12 root).length ≤ 28000 := by
  obtain ⟨r, hW⟩ := treeC_W h
  have hp := tree_perm h
  obtain ⟨hn, hok⟩ := tree_each h
  have hm : ∀ n ∈ ns, NodeOk n := fun n hn => by
    obtain ⟨i, hi, rfl⟩ := List.getElem_of_mem hn
    exact hok i hi
  have good : ∀ x ∈ ns.flatMap (fun x => x.buf ++ x.ents), Good x.ru := fun x hx => by
    obtain ⟨n, hn, hx⟩ := List.mem_flatMap.1 hx
    obtain ⟨_, _, g1, g2⟩ := hm n hn
    rcases List.mem_append.1 hx with hx | hx
    · exact g2 x hx
    · exact g1 x hx
  have pl : ∀ l : List Nd, (l.flatMap (fun x => x.buf ++ x.ents)).Perm (l.flatMap Nd.lst) := fun l => by
    induction l with
    | nil => simp
    | cons a l ih => simpa [Nd.lst] using List.Perm.append (List.perm_append_comm (l₁ := a.buf) (l₂ := a.ents)) ih
  have len : ∀ l : List Nd, (∀ n ∈ l, NodeOk n) → (l.flatMap (fun x => x.buf ++ x.ents)).length ≤ l.length * 14 := fun l => by
    induction l with
    | nil => simp
    | cons a l ih =>
      intro hl
      obtain ⟨a1, a2, _, _⟩ := hl a (by simp)
      have := ih fun n hn => hl n (by simp [hn])
      rw [List.flatMap_cons, List.length_append, List.length_append, List.length_cons]
      omega
  have e1 : Wl ns low high 12 root = (Fl ns 12 root).filter (inR low high) := Wl_eq 12 _ _ _ _ _ hW
  have p1 : (Wl ns low high 12 root).Perm ((ns.flatMap Nd.lst).filter (inR low high)) := by
    rw [e1]
    exact (hp.trans (pl ns)).filter _
  have each : ∀ x ∈ Wl ns low high 12 root, Good x.ru := fun x hx => by
    rw [e1] at hx
    exact good x (hp.subset (List.mem_filter.1 hx).1)
  refine ⟨allL_perm p1 (fun x hx => (good_iff.1 (each x hx)).1.1), each, ?_⟩
  have l1 : (Wl ns low high 12 root).length ≤ (Fl ns 12 root).length := by
    rw [e1]
    exact List.length_filter_le _ _
  have l2 := hp.length_eq
  have l3 := len ns hm
  omega

set_option maxRecDepth 20000 in
set_option maxHeartbeats 4000000 in
theorem all_bad (A : Option Addr) (C : Nat) (r low high : Int) (ps : List PN) (w : World) (hN : NodesAt w.heap.size w A ps) (hwf : ∀ p ∈ ps, p.wf) (hc : treeC (ps.map PN.nd) r ≠ 0) :
    Calls Tryd.prog 44 #[.agg #[.slice A ps.length C, .int .i64 r], .int .i64 low, .int .i64 high] w
      fun e w' => e = .returned (.tuple #[.slice none 0 0, .int .i64 (treeC (ps.map PN.nd) r)]) ∧ Below w.heap.size w w' := by
  have b0 : ∀ o : Obj, Below w.heap.size w (w.alloc o) := fun o => (Below.refl _ _).alloc (Nat.le_refl _) o
  obtain ⟨c, hcc⟩ : ∃ c, c = treeC (ps.map PN.nd) r := ⟨_, rfl⟩
  have con : ∀ w', NodesAt w'.heap.size w' A ps → Calls Tryd.prog 52 #[.agg #[.slice A ps.length C, .int .i64 r]] w' fun e w'' => e = .returned (.int .i64 c) ∧ Below w'.heap.size w' w'' := by
    intro w' h
    rw [hcc]
    exact checkT_any A C r ps w' h hwf
  rw [← hcc] at hc ⊢
  clear hcc
  have hc' : (c != 0) = true := by simpa using hc
  have hc'' : (c == 0) = false := by simpa using hc
  go_enter Tryd.func44, Tryd.ntmps44
  go_wp2_with (first | (go_at_call 52; refine (con _ ?_).mono ?_; exact hN.up (b0 _); rintro e w1 ⟨rfl, hb1⟩))
  exact bodyPost_ret (v := .tuple #[.slice none 0 0, .int .i64 c]) (by simp [results, Tryd.results44, go_sem]) rfl ⟨rfl, nextB (b0 _) (Nat.le_refl _) hb1⟩

theorem foldl_snoc (l : List En) : ∀ s : List En, l.foldl (fun s x => s ++ [x]) s = s ++ l := by
  induction l with
  | nil => intro s; simp
  | cons x l ih => intro s; simp [ih]

/-- The walk of tree.All, in a world with a new empty list at its end. -/
theorem walkAll (A : Option Addr) (C : Nat) (r low high : Int) (ps : List PN) (B : Nat) (w1 : World) (hN : NodesAt B w1 A ps) (hB : B ≤ w1.heap.size) (hc : treeC (ps.map PN.nd) r = 0) (Wn : List En) (hW : Hid (Wl (ps.map PN.nd) low high 12 r = Wn)) :
    Calls Tryd.prog 53 #[.agg #[.slice A ps.length C, .int .i64 r], .int .i64 r, .int .i64 low, .int .i64 high, .func (Fn.func 54) #[] #[.pointer (some ⟨w1.heap.size, 0, none⟩)]] (w1.alloc (.cells #[.slice none 0 0] 46))
      fun e w' => e = .returned (.tuple #[]) ∧ (∃ v, RowL w' w1.heap.size 46 [v] ∧ w'.ownsRow (w1.heap.size + 1) 61 7 v Wn.length (flatE Wn)) ∧ Below B w1 w' ∧ w1.heap.size + 1 ≤ w'.heap.size := by
  have hb0 : Below B w1 (w1.alloc (.cells #[.slice none 0 0] 46)) := (Below.refl _ _).alloc hB _
  have hr0 : RowL (w1.alloc (.cells #[.slice none 0 0] 46)) w1.heap.size 46 [.slice none 0 0] := rowL_alloc w1 _ _
  have hz0 : (w1.alloc (.cells #[.slice none 0 0] 46)).heap.size = w1.heap.size + 1 := by simp
  obtain ⟨q, hq⟩ := treeC_W hc
  have hl := (walk_all (low := low) (high := high) hc).2.2
  have far : ∀ k, XL w1.heap.size (w1.alloc (.cells #[.slice none 0 0] 46)) k → B ≤ k := by
    rintro k (rfl | ⟨v, hv, hk⟩)
    · exact hB
    · obtain rfl := hr0.one hv
      cases hk
  refine (walkL_any w1.heap.size (visL w1.heap.size (w1.heap.size + 1)) A C r ps B low high 12 r [] _ (W_reach _ _ _ _ _ _ hq) (hN.below hb0 (Nat.le_refl _)) ⟨Nat.lt_succ_self _, by omega, _, hr0, World.ownsRow_nil _ _ _ _⟩ (by omega) far (by simp; omega)).mono ?_
  rintro e w' ⟨rfl, hL, hT⟩
  rw [foldl_snoc, List.nil_append, hW.out] at hL
  exact ⟨rfl, hL.row, hb0.trans (hT.below (by omega) far), hL.hz⟩

set_option maxRecDepth 20000 in
set_option maxHeartbeats 4000000 in
theorem all_ok (A : Option Addr) (C : Nat) (r low high : Int) (ps : List PN) (w : World) (hN : NodesAt w.heap.size w A ps) (hwf : ∀ p ∈ ps, p.wf) (hc : treeC (ps.map PN.nd) r = 0) (Q : Ending → World → Prop)
    (HQ : Hid (∀ e w', Below w.heap.size w w' → (∀ ys, allR low high ((ps.map PN.nd).flatMap Nd.lst) = some ys → ∃ v, e = .returned (.tuple #[v, .int .i64 0]) ∧ w'.ownsRow w.heap.size 61 7 v ys.length (flatE ys)) → (allR low high ((ps.map PN.nd).flatMap Nd.lst) = none → e = .returned (.tuple #[.slice none 0 0, .int .i64 1])) → Q e w')) :
    Calls Tryd.prog 44 #[.agg #[.slice A ps.length C, .int .i64 r], .int .i64 low, .int .i64 high] w Q := by
  have b0 : ∀ o : Obj, Below w.heap.size w (w.alloc o) := fun o => (Below.refl _ _).alloc (Nat.le_refl _) o
  have con : ∀ w', NodesAt w'.heap.size w' A ps → Calls Tryd.prog 52 #[.agg #[.slice A ps.length C, .int .i64 r]] w' fun e w'' => e = .returned (.int .i64 0) ∧ Below w'.heap.size w' w'' := by
    intro w' h
    rw [← hc]
    exact checkT_any A C r ps w' h hwf
  obtain ⟨Wn, hWn⟩ : ∃ Wn, Wl (ps.map PN.nd) low high 12 r = Wn := ⟨_, rfl⟩
  have HW : Hid (Wl (ps.map PN.nd) low high 12 r = Wn) := hWn
  have hall := walk_all (low := low) (high := high) hc
  rw [hWn] at hall
  obtain ⟨ha1, ha2, ha3⟩ := hall
  have wk : ∀ w1, NodesAt w.heap.size w1 A ps → w.heap.size ≤ w1.heap.size → _ := fun w1 h1 h2 => walkAll A C r low high ps w.heap.size w1 h1 h2 hc Wn HW
  have br : ∀ v H w2, w2.ownsRow H 61 7 v Wn.length (flatE Wn) → H ≤ w2.heap.size → Calls Tryd.prog 55 #[v] w2 fun e w' => Below H w2 w' ∧ ∃ v' c, e = .returned (.tuple #[v', .int .i64 c]) ∧ Hid ((∃ ys, c = 0 ∧ allR low high ((ps.map PN.nd).flatMap Nd.lst) = some ys ∧ w'.ownsRow H 61 7 v' ys.length (flatE ys)) ∨ (c = 1 ∧ v' = .slice none 0 0 ∧ allR low high ((ps.map PN.nd).flatMap Nd.lst) = none)) := by
    intro v H w2 h1 h2
    refine bring_any Wn v H w2 h1 h2 ha3 ha2 _ (fun e w' k1 k2 k3 => ?_)
    rw [ha1] at k2 k3
    refine ⟨k1, ?_⟩
    cases hA : allR low high ((ps.map PN.nd).flatMap Nd.lst) with
    | none => exact ⟨_, _, k3 hA, .inr ⟨rfl, rfl, rfl⟩⟩
    | some ys =>
      obtain ⟨v', he, ho⟩ := k2 ys hA
      exact ⟨v', _, he, .inl ⟨ys, rfl, rfl, ho⟩⟩
  clear ha1 ha2 ha3 hWn HW hc
  go_enter Tryd.func44, Tryd.ntmps44
  go_wp2_with (first
    | (go_at_call 52; refine (con _ ?_).mono ?_; exact hN.up (b0 _); rintro e w1 ⟨rfl, hb1⟩; have x0 : w1.cell? ⟨w.heap.size, 0, none⟩ = some (.slice A ps.length C) := (hb1.cell (p := ⟨w.heap.size, 0, none⟩) (by simp)).trans (by simp); have x1 : w1.cell? ⟨w.heap.size, 1, none⟩ = some (.int .i64 r) := (hb1.cell (p := ⟨w.heap.size, 1, none⟩) (by simp)).trans (by simp); have z1 := sz1 hb1; have hw1 : Below w.heap.size w w1 := nextB (b0 _) (Nat.le_refl _) hb1)
    | (go_at_call 53; refine (wk w1 (hN.below hw1 (Nat.le_refl _)) (Nat.le_of_lt z1)).mono ?_; rintro e w2 ⟨rfl, ⟨v, hv, ho⟩, hb2, hz2⟩; have cv : w2.cell? ⟨w1.heap.size, 0, none⟩ = some v := hv.cell 0; have cl := hv.lt)
    | (go_at_call 55; refine (br v _ _ ho hz2).mono ?_; rintro e w3 ⟨hb3, v', c, rfl, hres⟩))
  have hb : Below w.heap.size w w3 := hw1.trans (hb2.trans (hb3.mono (by omega)))
  have hww : w.heap.size ≤ w1.heap.size + 1 := by omega
  refine HQ.out (.returned (.tuple #[v', .int .i64 c])) w3 hb ?_ ?_
  · intro ys hys
    rcases hres.out with ⟨zs, rfl, h1, h2⟩ | ⟨_, _, h1⟩
    · rw [h1] at hys
      cases hys
      exact ⟨v', rfl, own_mono h2 hww⟩
    · rw [h1] at hys
      cases hys
  · intro hn
    rcases hres.out with ⟨zs, _, h1, _⟩ | ⟨rfl, rfl, _⟩
    · rw [h1] at hn
      cases hn
    · rfl

theorem all_any (A : Option Addr) (C : Nat) (r low high : Int) (ps : List PN) (w : World) (hN : NodesAt w.heap.size w A ps) (hwf : ∀ p ∈ ps, p.wf) :
    Calls Tryd.prog 44 #[.agg #[.slice A ps.length C, .int .i64 r], .int .i64 low, .int .i64 high] w
      fun e w' => Below w.heap.size w w' ∧ ∃ v, e = .returned (.tuple #[v, .int .i64 (allP (ps.map PN.nd) r low high).1]) ∧ w'.ownsRow w.heap.size 61 7 v (allP (ps.map PN.nd) r low high).2.length (flatE (allP (ps.map PN.nd) r low high).2) := by
  unfold allP
  by_cases hc : treeC (ps.map PN.nd) r = 0
  · rw [if_neg (by simpa using hc)]
    refine all_ok A C r low high ps w hN hwf hc _ (fun e w' h1 h2 h3 => ⟨h1, ?_⟩)
    cases hA : allR low high ((ps.map PN.nd).flatMap Nd.lst) with
    | none => exact ⟨_, h3 hA, World.ownsRow_nil _ _ _ _⟩
    | some ys => exact h2 ys hA
  · rw [if_pos hc]
    exact (all_bad A C r low high ps w hN hwf hc).mono fun e w' ⟨h1, h2⟩ => ⟨h2, _, h1, World.ownsRow_nil _ _ _ _⟩

theorem allOf_all (A : Option Addr) (C : Nat) (r low high : Int) (ps : List PN) (w : World) (hN : NodesAt w.heap.size w A ps) :
    Calls Tryd.prog 22 #[.agg #[.slice A ps.length C, .int .i64 r], .int .i64 low, .int .i64 high] w
      fun e w' => Below w.heap.size w w' ∧ ∃ v, e = .returned (.tuple #[v, .int .i64 (allP (ps.map PN.nd) r low high).1]) ∧ w'.ownsRow w.heap.size 61 7 v (allP (ps.map PN.nd) r low high).2.length (flatE (allP (ps.map PN.nd) r low high).2) := by
  unfold allP
  by_cases hc : treeC (ps.map PN.nd) r = 0
  · rw [if_neg (by simpa using hc)]
    refine allOf_ok A C r low high ps w hN hc _ (fun e w' h1 h2 h3 => ⟨h1, ?_⟩)
    cases hA : allR low high ((ps.map PN.nd).flatMap Nd.lst) with
    | none => exact ⟨_, h3 hA, World.ownsRow_nil _ _ _ _⟩
    | some ys => exact h2 ys hA
  · rw [if_pos hc]
    exact (allOf_bad A C r low high ps w hN hc).mono fun e w' ⟨h1, h2⟩ => ⟨h2, _, h1, World.ownsRow_nil _ _ _ _⟩

theorem allP_len (ns : List Nd) (r low high : Int) : (allP ns r low high).2.length ≤ 28000 := by
  unfold allP
  split
  · simp
  · rename_i hc
    have hc' : treeC ns r = 0 := by simpa using hc
    obtain ⟨e1, g1, l1⟩ := walk_all (low := low) (high := high) hc'
    rw [← e1]
    cases hA : allL (Wl ns low high 12 r) with
    | none => simp
    | some ys =>
      have : ∀ (xs : List En) (o : List En), (∀ x ∈ xs, Good x.ru) → (∀ y ∈ o, Good y.ru) → ∀ ys, xs.foldl insO (some o) = some ys → ys.length ≤ o.length + xs.length := by
        intro xs
        induction xs with
        | nil => intro o _ _ ys h; cases h; simp
        | cons x xs ih =>
          intro o hx ho ys h
          rw [List.foldl_cons] at h
          cases hi : insO (some o) x with
          | none => rw [hi, fold_none] at h; cases h
          | some o' =>
            rw [hi] at h
            obtain ⟨q1, q2⟩ := ins_good (hx x (by simp)) ho hi
            have := ih o' (fun y hy => hx y (by simp [hy])) q1 ys h
            simp only [List.length_cons]
            omega
      have q := this _ [] g1 (by simp) ys hA
      simp only [List.length_nil] at q
      show ys.length ≤ 28000
      omega

end Go.Proofs.YtndojgeodmddoadDoor

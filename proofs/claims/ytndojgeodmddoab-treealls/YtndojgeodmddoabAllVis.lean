/- The visitor of tree.All: it appends each entry to a list of its caller's. -/
import Derived.Test.YtndojgeodmddoabWalkAid
import Derived.Test.YtndojgeodmddoabBringPure
import Derived.Deep.AppendLies
namespace Go.Proofs.Ytndojgeodmddoab
open Go.RowKit Plain

/-- A visitor that may be called M times in all: N tells how often it was. -/
structure VisN {σ : Type} (F : FuncId) (cap : Array Value) (I : World → σ → Prop) (X : World → Nat → Prop) (step : σ → En → σ) (N : σ → Nat) (M : Nat) : Prop where
  call : ∀ (x : En) (s : σ) (w : World), I w s → N s < M → Calls Try.prog F (#[.agg #[.int .i64 x.key, .int .i64 x.c, .int .i64 x.s, .int .i64 x.lo, .int .i64 x.hi, .int .i64 x.t, .int .i64 x.l]] ++ cap) w
    fun e w' => e = .returned (.tuple #[]) ∧ I w' (step s x) ∧ Turned X w w'
  cnt : ∀ (s : σ) (x : En), N (step s x) = N s + 1
  stay : ∀ (s : σ) (w w' : World), I w s → Below w.heap.size w w' → I w' s
  same : ∀ (s : σ) (w w' : World), I w s → Below w.heap.size w w' → ∀ k, X w' k → X w k
  lt : ∀ (s : σ) (w : World), I w s → ∀ k, X w k → k < w.heap.size

theorem VisN.fold {σ : Type} {F : FuncId} {cap : Array Value} {I : World → σ → Prop} {X : World → Nat → Prop} {step : σ → En → σ} {N : σ → Nat} {M : Nat} (V : VisN F cap I X step N M) : ∀ (l : List En) (s : σ), N (l.foldl step s) = N s + l.length
  | [], s => rfl
  | x :: l, s => by
    rw [List.foldl_cons, V.fold l, V.cnt, List.length_cons]
    omega

/-- The list so far: its slice lies in the block bl, its row is owned from H on. -/
structure LAt (bl H : Nat) (w : World) (s : List En) : Prop where
  blt : bl < H
  hz : H ≤ w.heap.size
  row : ∃ v, RowL w bl 30 [v] ∧ w.ownsRow H 45 7 v s.length (flatE s)

def XL (bl : Nat) : World → Nat → Prop := fun w k => k = bl ∨ ∃ v, RowL w bl 30 [v] ∧ v.ownBlock = some k

theorem RowL.one {w : World} {b : Nat} {t : TypeId} {v v' : Value} (h : RowL w b t [v]) (h' : RowL w b t [v']) : v = v' := by
  have := h.symm.trans h'
  simpa using this

theorem LAt.below {bl H : Nat} {w w' : World} {s : List En} (h : LAt bl H w s) (hb : Below w.heap.size w w') : LAt bl H w' s := by
  obtain ⟨v, hr, ho⟩ := h.row
  exact ⟨h.blt, Nat.le_trans h.hz hb.size, v, hr.below hb hr.lt, own_of_block ho fun k hk => hb.block k (own_some ho hk).2⟩

theorem LAt.same {bl H : Nat} {w w' : World} {s : List En} (h : LAt bl H w s) (hb : Below w.heap.size w w') (k : Nat) (hk : XL bl w' k) : XL bl w k := by
  obtain ⟨v, hr, ho⟩ := h.row
  rcases hk with hk | ⟨v', hr', hv⟩
  · exact .inl hk
  · obtain rfl := (hr.below hb hr.lt).one hr'
    exact .inr ⟨v, hr, hv⟩

theorem LAt.lt {bl H : Nat} {w : World} {s : List En} (h : LAt bl H w s) (k : Nat) (hk : XL bl w k) : k < w.heap.size := by
  obtain ⟨v, hr, ho⟩ := h.row
  rcases hk with rfl | ⟨v', hr', hv⟩
  · exact hr.lt
  · obtain rfl := hr.one hr'
    exact (own_some ho hv).2

theorem LAt.put {bl H g cap : Nat} {w w1 : World} {v : Value} {s : List En} {x : En} {o1 o2 : Obj} (h : LAt bl H w s) (hr : RowL w bl 30 [v])
    (hown : w1.ownsRow H 45 7 (.slice (some ⟨g, 0, none⟩) (s.length + 1) cap) (s.length + 1) (flatE s ++ x.vals)) (hgrow : ((w.alloc o1).alloc o2).grownBy w1 v.ownBlock) (hat : v.ownBlock = some g ∨ g = w.heap.size + 2) :
    LAt bl H (w1.setCell ⟨bl, 0, none⟩ (.slice (some ⟨g, 0, none⟩) (s.length + 1) cap)) (s ++ [x]) ∧ Turned (XL bl) w (w1.setCell ⟨bl, 0, none⟩ (.slice (some ⟨g, 0, none⟩) (s.length + 1) cap)) := by
  obtain ⟨v', hr', ho⟩ := h.row
  obtain rfl := hr.one hr'
  have hlt := hr.lt
  have hs := hgrow.size
  simp only [World.size_alloc] at hs
  have hbl := h.blt
  have hz := h.hz
  have hnb : some bl ≠ v.ownBlock := fun e => by have := (own_some ho e.symm).1; omega
  have two' : ∀ k, k < w.heap.size → ((w.alloc o1).alloc o2).heap[k]? = w.heap[k]? := fun k hk => (two o1 o2).block k hk
  have hb1 : w1.heap[bl]? = w.heap[bl]? := (hgrow.block bl (by simp; omega) hnb).trans (two' bl hlt)
  have hr1 : RowL w1 bl 30 [v] := hr.of_block hb1
  have hg : H ≤ g := (own_some hown rfl).1
  have hr2 : RowL (w1.setCell ⟨bl, 0, none⟩ (.slice (some ⟨g, 0, none⟩) (s.length + 1) cap)) bl 30 [.slice (some ⟨g, 0, none⟩) (s.length + 1) cap] := hr1.set 0 _
  refine ⟨⟨hbl, by simp; omega, _, hr2, ?_⟩, ⟨hgrow.os, hgrow.tape, hgrow.output, by simp; omega, fun k hk hx => ?_, fun k hk hx => ?_⟩⟩
  · have := app_own hown
    refine own_of_block (by simpa using this) fun k hk => ?_
    have : g = k := by simpa [Value.ownBlock] using hk
    exact Below.heap_setCell _ _ _ _ (show k ≠ bl by omega)
  · have h1 : k ≠ bl := fun e => hx (.inl e)
    have h2 : some k ≠ v.ownBlock := fun e => hx (.inr ⟨v, hr, e.symm⟩)
    exact (Below.heap_setCell _ _ _ _ h1).trans ((hgrow.block k (by simp; omega) h2).trans (two' k hk))
  · rcases hx with hx | ⟨v2, hv2, hx⟩
    · exact .inl hx
    · obtain rfl := hr2.one hv2
      have : g = k := by simpa [Value.ownBlock] using hx
      subst this
      rcases hat with hat | hat
      · exact .inr ⟨v, hr, hat⟩
      · omega

set_option maxRecDepth 20000 in
set_option maxHeartbeats 4000000 in
theorem visitL_any (x : En) (bl H : Nat) (s : List En) (w : World) (h : LAt bl H w s) (hs : s.length < 30000) :
    Calls Try.prog 32 #[.agg #[.int .i64 x.key, .int .i64 x.c, .int .i64 x.s, .int .i64 x.lo, .int .i64 x.hi, .int .i64 x.t, .int .i64 x.l], .pointer (some ⟨bl, 0, none⟩)] w
      fun e w' => e = .returned (.tuple #[]) ∧ LAt bl H w' (s ++ [x]) ∧ Turned (XL bl) w w' := by
  obtain ⟨i0, hi0, hz0, hz1, hz2⟩ := info_parts infoE
  have HL : Hid (LAt bl H w s) := h
  obtain ⟨v, hr, ho⟩ := h.row
  have HR : Hid (RowL w bl 30 [v]) := hr
  have cv : w.cell? ⟨bl, 0, none⟩ = some v := hr.cell 0
  have fv : w.frozen? ⟨bl, 0, none⟩ = false := hr.frozen 0
  have lb := hr.lt
  have hH := h.hz
  have HN : Hid (some bl ≠ v.ownBlock) := fun e => by have := (own_some ho e.symm).1; have := h.blt; omega
  clear h hr
  go_enter Try.func32, Try.ntmps32
  go_wp2_with (at_builtin; refine wpList_append_lies _ rfl _ _ 30 rfl H 45 i0 _ 7 56 Try.underlying30 hi0 hz0 hz1 hz2 rfl (by decide) v s.length (flatE s) rfl ((ho.alloc _).alloc _) ⟨w.heap.size + 1, 0, none⟩ 1 1 x.vals rfl rfl (news2 _ _ x) (vals_one x) (by decide) (by unfold maxLen; omega) (by omega) (by simp; omega) (w.heap.size + 2) (by simp) ?_; intro g cap w1 hown1 hgrow1 hat1 hlt1; have cv1 : w1.cell? ⟨bl, 0, none⟩ = some v := (hgrow1.cell_far ⟨bl, 0, none⟩ (by simp; omega) HN.out).trans ((two _ _).cell (p := ⟨bl, 0, none⟩) lb |>.trans cv); have fv1 : w1.frozen? ⟨bl, 0, none⟩ = false := (hgrow1.frozen_far ⟨bl, 0, none⟩ (by simp; omega) HN.out).trans ((two _ _).frozen (p := ⟨bl, 0, none⟩) lb |>.trans fv))
  go_end0
  have P := HL.out.put HR.out hown1 hgrow1 hat1
  exact ⟨rfl, P.1, P.2⟩

theorem visL (bl H : Nat) : VisN 32 #[.pointer (some ⟨bl, 0, none⟩)] (LAt bl H) (XL bl) (fun s x => s ++ [x]) List.length 30000 where
  call x s w h hs := visitL_any x bl H s w h hs
  cnt s x := by simp
  stay _ _ _ h hb := h.below hb
  same _ _ _ h hb := h.same hb
  lt _ _ h := h.lt

end Go.Proofs.Ytndojgeodmddoab

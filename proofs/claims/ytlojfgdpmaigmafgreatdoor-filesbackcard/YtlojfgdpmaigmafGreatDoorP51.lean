/- Base of package winnowerkeep: what it makes of raw things. -/
import Derived.Test.YtlojfgdpmaigmafGreatDoorP50
import Derived.Test.YtlojfgdpmaigmafGreatDoorP49
import Derived.Deep.AppendLies
import Derived.Test.YtlojfgdpmaigmafGreatDoorP45
import Derived.Test.YtlojfgdpmaigmafGreatDoorP03
namespace Go.Proofs.YtlojfgdpmaigmafGreatDoor
section
open Go.RowKit Plain Go.Shelf

def Few4 (ss : List ByteArray) : Prop := ∀ s ∈ ss, ∃ i, s = nmS i

theorem qiv {ss : List ByteArray} (h : q3w ss = true) : ss.Nodup := by
 unfold q3w at h
 rw [List.all_eq_true] at h
 refine List.pairwise_iff_getElem.2 fun i j hi hj hij e => ?_
 have k := h j (by simpa using hj)
 unfold okN at k
 rw [q4y hj, Bool.and_eq_true] at k
 have k2 := k.2
 rw [Bool.not_eq_true'] at k2
 have : Lib.containsS (ss.take j) ss[j] = true := (Lib.containsS_iff _ _).2 (List.mem_take_iff_getElem.2 ⟨i, by omega, e⟩)
 rw [this] at k2
 cases k2

theorem qw1 (i : Int) : nmS i ∈ [nmS 0, nmS 1, nmS 2, nmS 3] := by
 by_cases h0 : i = 0
 · subst h0; simp
 · by_cases h1 : i = 1
   · subst h1; simp
   · by_cases h2 : i = 2
     · subst h2; simp
     · have e : nmS i = nmS 3 := by
         unfold nmS
         rw [if_neg h0, if_neg h1, if_neg h2]
         rfl
       rw [e]; simp

theorem qtu {ss : List ByteArray} (h : q3w ss = true) (hf : Few4 ss) : ss.length ≤ 4 := by
 have := q5v ss [nmS 0, nmS 1, nmS 2, nmS 3] (qiv h) (fun s hs => by
   obtain ⟨i, rfl⟩ := hf s hs
   exact qw1 i)
 simpa using this

theorem qhp {ss : List ByteArray} (h : Few4 ss) (i : Int) : Few4 (q1w ss (nmS i)) := by
 unfold q1w
 split
 · intro s hs
   rcases List.mem_append.1 hs with hs | hs
   · exact h s hs
   · exact ⟨i, by simpa using hs⟩
 · exact h

theorem KB.names {ss : List ByteArray} {f : Int} {t0 t1 t2 : TR} {pts : List Pt} (h : KB ss f t0 t1 t2 pts) : q3w ss = true := by
 obtain ⟨L0, L1, L2, k⟩ := h
 have := k.ok
 unfold q3h at this
 simp only [Bool.and_eq_true] at this
 exact this.2.2.2.1

theorem KB.with_len {ss : List ByteArray} {f : Int} {t0 t1 t2 : TR} {pts : List Pt} (h : KB ss f t0 t1 t2 pts) (h4 : Few4 ss) (i : Int) : (q1w ss (nmS i)).length ≤ 16 := by
 have := qtu (qe8 h.names (qko i)) (qhp h4 i)
 omega

theorem qvg (x : Rw) : ptC (q6w x).s (q6w x).t (q6w x).v 0 = 0 := by
 have h := qrx x
 unfold ptC
 rw [if_pos (show q6z (q6w x).s = true from qko _), if_pos, if_neg (by have := h.t0; omega)]
 unfold ofOk
 have h0 := h.t0
 have h1 := h.t1
 have h2 := h.v0
 have h3 := h.v1
 simp only [Bool.and_eq_true]
 exact ⟨(q2n _ _ _).2 ⟨h0, h1⟩, (q2n _ _ _).2 ⟨h2, h3⟩⟩

def qmo (B bb : Nat) (wr : World) (A : Option Addr) (C : Nat) (ss : List ByteArray) (t0 t1 t2 : TR) : Prop :=
 (∃ B', bb < B' ∧ OwnB B' wr A C ss t0 t1 t2) ∨ ∃ w0 : World, OwnB B w0 A C ss t0 t1 t2 ∧ w0.heap.size ≤ bb ∧ Below w0.heap.size w0 wr

structure KbA (w wr : World) (bb : Nat) (A : Option Addr) (C : Nat) (ss : List ByteArray) (t0 t1 t2 : TR) (pts : List Pt) : Prop where
 below : Below w.heap.size w wr
 res : RowL wr w.heap.size 29 zb8
 bx : RowL wr bb 29 (q1k A C ss t0 t1 t2 0)
 own : qmo (w.heap.size + 1) bb wr A C ss t0 t1 t2
 kb : KB ss 0 t0 t1 t2 pts
 lo : w.heap.size < bb
 few : Few4 ss

section
variable {w wr w' : World} {bb : Nat} {A : Option Addr} {C : Nat} {ss : List ByteArray} {t0 t1 t2 : TR} {pts : List Pt}

theorem qmo.any {B : Nat} (h : qmo B bb wr A C ss t0 t1 t2) (hB : B ≤ bb + 1) : OwnB B wr A C ss t0 t1 t2 := by
 rcases h with ⟨B', h1, h2⟩ | ⟨w0, h1, h2, h3⟩
 · exact h2.keep (by omega) fun _ _ _ => rfl
 · exact h1.next h3

theorem qmo.next {B : Nat} (h : qmo B bb wr A C ss t0 t1 t2) (hb : Below wr.heap.size wr w') : qmo B bb w' A C ss t0 t1 t2 := by
 rcases h with ⟨B', h1, h2⟩ | ⟨w0, h1, h2, h3⟩
 · exact .inl ⟨B', h1, h2.next hb⟩
 · exact .inr ⟨w0, h1, h2, q0e h3 (Nat.le_refl _) hb⟩

theorem KbA.next (h : KbA w wr bb A C ss t0 t1 t2 pts) (hb : Below wr.heap.size wr w') : KbA w w' bb A C ss t0 t1 t2 pts :=
 ⟨q0e h.below (Nat.le_refl _) hb, h.res.below hb h.res.lt, h.bx.below hb h.bx.lt, h.own.next hb, h.kb, h.lo, h.few⟩

theorem KbA.at (h : KbA w wr bb A C ss t0 t1 t2 pts) : q8i wr A C ss t0 t1 t2 := (h.own.any (by have := h.lo; omega)).at h.kb

theorem KbA.turn (h : KbA w wr bb A C ss t0 t1 t2 pts) {A' : Option Addr} {C' : Nat} {ss' : List ByteArray} {u0 u1 u2 : TR} {pts' : List Pt} {B' : Nat} {w5 : World} (hb : Below wr.heap.size wr w5) (hB : bb < B') (ho : OwnB B' w5 A' C' ss' u0 u1 u2) (hk : KB ss' 0 u0 u1 u2 pts') (hf : Few4 ss') :
   KbA w (set8 w5 bb (.slice A' ss'.length C') (.slice u0.A u0.ps.length u0.C) (.int .i64 u0.r) (.slice u1.A u1.ps.length u1.C) (.int .i64 u1.r) (.slice u2.A u2.ps.length u2.C) (.int .i64 u2.r) (.int .i64 0)) bb A' C' ss' u0 u1 u2 pts' := by
 have hl := h.lo
 have hn := h.next hb
 refine ⟨q0z hn.below (by omega) _ _ _ _ _ _ _ _, hn.res.of_block (q2l _ _ _ _ _ _ _ _ _ _ _ (by omega)), ?_, .inl ⟨B', hB, ho.set8 hB _ _ _ _ _ _ _ _⟩, hk, hl, hf⟩
 have := (((((((hn.bx.set 0 (.slice A' ss'.length C')).set 1 (.slice u0.A u0.ps.length u0.C)).set 2 (.int .i64 u0.r)).set 3 (.slice u1.A u1.ps.length u1.C)).set 4 (.int .i64 u1.r)).set 5 (.slice u2.A u2.ps.length u2.C)).set 6 (.int .i64 u2.r)).set 7 (.int .i64 0)
 exact this

theorem KbA.fin (h : KbA w wr bb A C ss t0 t1 t2 pts) (x0 x1 x2 x3 x4 x5 x6 x7 : Value) : OwnB (w.heap.size + 1) (set8 wr w.heap.size x0 x1 x2 x3 x4 x5 x6 x7) A C ss t0 t1 t2 ∧ Below w.heap.size w (set8 wr w.heap.size x0 x1 x2 x3 x4 x5 x6 x7) :=
 ⟨(h.own.any (by have := h.lo; omega)).set8 (by omega) _ _ _ _ _ _ _ _, q0z h.below (Nat.le_refl _) _ _ _ _ _ _ _ _⟩
end

theorem qt3 {w w5 wd : World} {bb B' : Nat} {A A' : Option Addr} {C C' : Nat} {ss ss' : List ByteArray} {t0 t1 t2 u0 u1 u2 : TR} {pts pts' : List Pt} (h : KbA w w5 bb A C ss t0 t1 t2 pts) (hB : bb < B') (ho : OwnB B' w5 A' C' ss' u0 u1 u2) (hk : KB ss' 0 u0 u1 u2 pts') (hf : Few4 ss')
   (hwd : wd = set8 w5 bb (.slice A' ss'.length C') (.slice u0.A u0.ps.length u0.C) (.int .i64 u0.r) (.slice u1.A u1.ps.length u1.C) (.int .i64 u1.r) (.slice u2.A u2.ps.length u2.C) (.int .i64 u2.r) (.int .i64 0)) :
   KbA w wd bb A' C' ss' u0 u1 u2 pts' ∧ OwnB B' wd A' C' ss' u0 u1 u2 ∧ (∀ j, j < w5.heap.size → j ≠ bb → wd.heap[j]? = w5.heap[j]?) ∧ w5.heap.size = wd.heap.size := by
 subst hwd
 exact ⟨h.turn (Below.refl _ _) hB ho hk hf, ho.set8 hB _ _ _ _ _ _ _ _, fun j _ h2 => q2l _ _ _ _ _ _ _ _ _ _ _ h2, by simp [set8]⟩

theorem KbA.grown {w wd w7 : World} {bb B' : Nat} {A : Option Addr} {C : Nat} {ss : List ByteArray} {t0 t1 t2 : TR} {pts : List Pt} {v : Value} (h : KbA w wd bb A C ss t0 t1 t2 pts) (hB : bb < B') (ho : OwnB B' wd A C ss t0 t1 t2) (hg : wd.grownBy w7 v.ownBlock) (hv : ∀ q, v.ownBlock = some q → bb + 1 ≤ q ∧ q < B') : KbA w w7 bb A C ss t0 t1 t2 pts := by
 have hl := h.lo
 have hs := h.below.size
 have hk : ∀ k, k < wd.heap.size → (k ≤ bb ∨ B' ≤ k) → w7.heap[k]? = wd.heap[k]? := fun k h1 h2 => hg.block k h1 (fun e => by have := hv k e.symm; omega)
 exact ⟨⟨hg.os.trans h.below.os, hg.tape.trans h.below.tape, hg.output.trans h.below.output, Nat.le_trans hs hg.size, fun k hk' => (hk k (by omega) (by omega)).trans (h.below.block k hk')⟩, h.res.of_block (hk _ h.res.lt (by omega)), h.bx.of_block (hk _ h.bx.lt (by omega)), .inl ⟨B', hB, ho.keep (Nat.le_refl _) fun k h1 h2 => hk k h2 (.inr h1)⟩, h.kb, hl, h.few⟩

theorem qrh {w w2 : World} {t0 t1 t2 : TR} (hb : Below (w.alloc (.cells zb8.toArray 29)).heap.size (w.alloc (.cells zb8.toArray 29)) w2) (ho : OwnB (w.heap.size + 1) w2 none 0 [] t0 t1 t2) (hk : KB [] 0 t0 t1 t2 []) :
   KbA w (w2.alloc (.cells (q1k none 0 [] t0 t1 t2 0).toArray 29)) w2.heap.size none 0 [] t0 t1 t2 [] := by
 have hs : w.heap.size + 1 ≤ w2.heap.size := Nat.le_trans (by simp) hb.size
 have b1 : Below w2.heap.size w2 (w2.alloc (.cells (q1k none 0 [] t0 t1 t2 0).toArray 29)) := (Below.refl _ _).alloc (Nat.le_refl _) _
 exact ⟨q0e (q0e ((Below.refl _ _).alloc (Nat.le_refl _) _) (Nat.le_refl _) hb) (Nat.le_refl _) b1, ((q0b w _ _).below hb (by simp)).below b1 (by omega), q0b w2 _ _, .inr ⟨w2, ho, Nat.le_refl _, b1⟩, hk, by omega, fun s hs => by simp at hs⟩

theorem qz4 : (Tryz.prog.info? 103).map (fun i => (i.zero, i.size, i.bytes)) = some (some (.agg #[.string ByteArray.empty, .int .i64 0, .int .i64 0]), 3, 32) := by kernel_rfl

theorem qzo {w : World} {vb : Nat} {t : TypeId} {x : Pt} (hv : RowL w vb t x.vals) : ∀ j u, (q5y [x])[j]? = some u → w.cell? (Addr.add ⟨vb, 0, none⟩ j) = some u := by
 intro j u hu
 rw [WideShapes.add_plain, Nat.zero_add, hv.cell]
 simpa [q5y] using hu

theorem qzb (w : World) (o : Obj) (x : Pt) : ∀ j u, (q5y [x])[j]? = some u → ((w.alloc o).alloc (.cells x.vals.toArray 103)).cell? (Addr.add ⟨w.heap.size + 1, 0, none⟩ j) = some u := by
 have h := q0b (w.alloc o) x.vals 103
 have e : (w.alloc o).heap.size = w.heap.size + 1 := by simp
 rw [e] at h
 exact qzo h

theorem q8n (w : World) (o o' : Obj) : Below w.heap.size w ((w.alloc o).alloc o') := ((Below.refl _ _).alloc (Nat.le_refl _) _).alloc (by simp) _

def KbTo (pts : List Pt) (w : World) (e : Ending) (w' : World) : Prop :=
 ∃ (A PA : Option Addr) (C PC : Nat) (ss : List ByteArray) (t0 t1 t2 : TR), e = .returned (.tuple #[.agg (q1k A C ss t0 t1 t2 0).toArray, .slice PA pts.length PC]) ∧ OwnB (w.heap.size + 1) w' A C ss t0 t1 t2 ∧ KB ss 0 t0 t1 t2 pts ∧ Few4 ss ∧ q0l w'.heap.size w' PA (q5y pts) ∧ Below w.heap.size w w'

set_option maxRecDepth 20000 in
set_option maxHeartbeats 4000000 in
theorem qqp (PA : Option Addr) (PC : Nat) (xs : List Rw) (most : Int) (w : World) (hZ : SzAt w) (hA : q0l w.heap.size w PA (qde xs)) (hwf : ∀ x ∈ xs, x.wf) (hm1 : 0 ≤ most) (hm2 : most ≤ 200) :
   Calls Tryz.prog 13 #[.slice PA xs.length PC, .int .i64 most] w (KbTo ((xs.take most.toNat).map q6w) w) := by
 obtain ⟨i0, hi0, hz0, hz1, hz2⟩ := info_parts qz4
 have HZ := q0a hZ
 have HA := q0a hA
 obtain ⟨PT, hPT⟩ : ∃ PT, (xs.take most.toNat).map q6w = PT := ⟨_, rfl⟩
 rw [hPT]
 have HPT := q0a hPT
 clear hZ hA hPT
 go_enter Tryz.func13, Tryz.ntmps13
 go_wp2_with (first | (go_at_call 50; refine (qw6 _).mono ?_; rintro e w2 ⟨u0, u1, u2, he, ho2, hk2, hb2⟩; have HS := q0a (qrh hb2 (by simpa using ho2) hk2); clear ho2 hk2 hb2; obtain ⟨A0, C0, p0, r0⟩ := u0; obtain ⟨A1, C1, p1, r1⟩ := u1; obtain ⟨A2, C2, p2, r2⟩ := u2; simp only [q1k] at he; subst he))
 obtain ⟨bb, hbb⟩ : ∃ bb, bb = w2.heap.size := ⟨_, rfl⟩
 rw [← hbb] at HS ⊢
 clear hbb
 go_loopw [7, 8] (fun vo vi wr => ∃ (k : Nat) (A : Option Addr) (C : Nat) (ss : List ByteArray) (t0 t1 t2 : TR), k ≤ xs.length ∧ (k : Int) ≤ most ∧ vi = .int .i64 (k : Int) ∧ KbA w wr bb A C ss t0 t1 t2 ((xs.take k).map q6w) ∧ wr.ownsRow (bb + 1) 103 3 vo k (q5y ((xs.take k).map q6w))) (fun _ vi _ => xs.length - (intOf vi).toNat)
 case atStart => exact ⟨0, none, 0, [], ⟨A0, C0, p0, r0⟩, ⟨A1, C1, p1, r1⟩, ⟨A2, C2, p2, r2⟩, Nat.zero_le _, hm1, rfl, HS.out, World.ownsRow_nil _ _ _ _⟩
 case round =>
   obtain ⟨k, A, C, ss, t0, t1, t2, hk, hkm, rfl, hat, hown⟩ := hrel
   clear HS
   have lt := hat.bx.lt
   have hlo := hat.lo
   have hge := hat.below.size
   obtain ⟨VA, VC, hvo, -, -, -, hvr⟩ := q0k hown
   subst hvo
   have hov := qjf hown
   by_cases hlt : k < xs.length ∧ (k : Int) < most
   · obtain ⟨hlt, hl5⟩ := hlt
     obtain ⟨b, o, rfl, hbl, hrw⟩ := (HA.out.below hat.below (Nat.le_refl _)).rw4 hlt
     have hx := hwf _ (List.getElem_mem hlt)
     have htk : Hid ((xs.take (k + 1)).map q6w = (xs.take k).map q6w ++ [q6w xs[k]]) := by
       show _ = _
       rw [List.take_succ_eq_append_getElem hlt, List.map_append]
       rfl
     have hlen : ((xs.take k).map q6w).length = k := by simp; omega
     obtain ⟨pts, hpts⟩ : ∃ pts, (xs.take k).map q6w = pts := ⟨_, rfl⟩
     rw [hpts] at htk hlen hat hown
     clear hpts
     generalize xs[k] = x at *
     have hpc := qvg x
     have hw16 := hat.kb.with_len hat.few (pick x.k 4)
     have hf4 := qhp hat.few (pick x.k 4)
     have hsz := qtm (pick x.k 4)
     have con1 := q0a fun W => qnw x.k x.a x.b x.c W hx.1 hx.2.1 hx.2.2.1
     have htk2 : Hid ((xs.take (k + 1)).map q6w = pts ++ [⟨nmS (pick x.k 4), pick x.a 12000, pick x.b 2000 - 1000⟩]) := htk
     obtain ⟨s, hs⟩ : ∃ s, nmS (pick x.k 4) = s := ⟨_, rfl⟩
     obtain ⟨t, ht⟩ : ∃ t, pick x.a 12000 = t := ⟨_, rfl⟩
     obtain ⟨v, hv⟩ : ∃ v, pick x.b 2000 - 1000 = v := ⟨_, rfl⟩
     simp only [q6w] at hpc
     rw [hs, ht, hv] at con1 htk2 hpc
     rw [hs] at hw16 hf4 hsz
     obtain ⟨xk, xa, xb, xc⟩ := x
     obtain ⟨c0, c1, c2, c3⟩ := hrw
     simp only at c0 c1 c2 c3 con1
     clear hs ht hv htk hx
     have hbr : b < wr.heap.size := by omega
     have q0 : (0 : Int) ≤ (k : Int) := by omega
     have q1 : (k : Int) < (xs.length : Int) := by omega
     have con2 : Hid (∀ W, Below wr.heap.size wr W → Calls Tryz.prog 49 #[.agg (q1k A C ss t0 t1 t2 0).toArray, .agg #[.string s, .int .i64 t, .int .i64 v]] W (qyy (q1w ss s) 0 (pts ++ [⟨s, t, v⟩]) W)) := fun W hW => qvz (HZ.out.below (q0e hat.below (Nat.le_refl _) hW)) (hat.at.up hW) hat.kb (by omega) hpc hw16 (by omega)
     have HT := q0a hat
     have b0 := fun j => hat.bx.cell j
     have HO := q0a hown
     have HF4 := q0a hf4
     have HVR := q0a hov
     clear hat hown hf4 hpc hw16 hsz hov hvr
     obtain ⟨A0, C0, p0, r0⟩ := t0
     obtain ⟨A1, C1, p1, r1⟩ := t1
     obtain ⟨A2, C2, p2, r2⟩ := t2
     simp only [q1k] at con2 b0
     go_upto_region 9 with (first
       | (go_at_call 51; refine (con1.out _).mono ?_; rintro e w3 ⟨rfl, hb3⟩; have H3 := q0a (HT.out.next hb3); have b3 := fun j => H3.out.bx.cell j; simp only [q1k] at b3; have l3 := H3.out.bx.lt; have P3 := q0a (q0b w3 [.string s, .int .i64 t, .int .i64 v] 103); have HB3 := q0a hb3; clear hb3 b0)
       | (go_at_call 49; refine (con2.out _ (q0e HB3.out (Nat.le_refl _) ((Below.refl _ _).alloc (Nat.le_refl _) _))).mono ?_; rintro e w5 ⟨A5, C5, ⟨A50, C50, q0, s0⟩, ⟨A51, C51, q1, s1⟩, ⟨A52, C52, q2, s2⟩, he5, ho5, hk5, hb5⟩; simp only [q1k] at he5; subst he5; have H5 := q0a (H3.out.next (q0e ((Below.refl _ _).alloc (Nat.le_refl _) _) (Nat.le_refl _) hb5)); have b5 := fun j => H5.out.bx.cell j; have f5 := fun j => H5.out.bx.frozen j; simp only [q1k] at b5; have l5 := H5.out.bx.lt; have P5 := q0a (P3.out.below hb5 P3.out.lt); have O5 := q0a ho5; have K5 := q0a hk5; have HB5 := q0a hb5; clear hb5 ho5 hk5 b3))
     go_upto_region 10 with fail
     obtain ⟨wd, hwd⟩ : ∃ wd, wd = set8 w5 bb (.slice A5 (q1w ss s).length C5) (.slice A50 q0.length C50) (.int .i64 s0) (.slice A51 q1.length C51) (.int .i64 s1) (.slice A52 q2.length C52) (.int .i64 s2) (.int .i64 0) := ⟨_, rfl⟩
     have z3 := HB3.out.size
     have z5 : w3.heap.size + 1 ≤ w5.heap.size := by simpa using HB5.out.size
     have KL := qt3 (pts' := pts ++ [⟨s, t, v⟩]) H5.out (by simp; omega) O5.out K5.out HF4.out hwd
     have HD := q0a KL.1
     have hOD := q0a KL.2.1
     have hsd := KL.2.2.2
     have hblk : ∀ j, j < wr.heap.size → j ≠ bb → wd.heap[j]? = wr.heap[j]? := fun j h1 h2 =>
       (KL.2.2.1 j (by omega) h2).trans ((HB5.out.block j (by simp; omega)).trans ((Below.heap_alloc _ _ _ (by omega)).trans (HB3.out.block j h1)))
     have PD : RowL wd w3.heap.size 103 [.string s, .int .i64 t, .int .i64 v] := P5.out.of_block (KL.2.2.1 _ (by omega) (by omega))
     clear KL
     have hOwn : Hid (wd.ownsRow (bb + 1) 103 3 (.slice VA k VC) k (q5y pts)) := q0c HO.out fun j hj => hblk j (HVR.out j hj).2 (by have := (HVR.out j hj).1; omega)
     have hov2 : Hid (∀ q, (Value.slice VA k VC).ownBlock = some q → bb + 1 ≤ q ∧ q < (w3.alloc (.cells #[.string s, .int .i64 t, .int .i64 v] 103)).heap.size) := fun q hq => by have := HVR.out q hq; simp; omega
     simp only [set8] at hwd
     rw [← hwd]
     have p0 := PD.cell 0
     have p1 := PD.cell 1
     have p2 := PD.cell 2
     simp only [List.getElem?_cons_zero, List.getElem?_cons_succ] at p0 p1 p2
     have lp := PD.lt
     have hlenP : pts.length = k := hlen
     clear hwd hblk PD P5 O5 K5 H5 b5 f5 HB5 H3 P3 HB3 HT HO con1 con2 HA HZ c0 c1 c2 c3
     have hmx : bb + 1 ≤ wd.heap.size + 2 := by omega
     go_wp2_with (at_builtin; refine wpList_append_own _ rfl _ _ 41 rfl (bb + 1) 103 i0 _ 3 32 Tryz.underlying41 hi0 hz0 hz1 hz2 rfl (by decide) (.slice VA k VC) k (q5y pts) rfl (qh4 hOwn.out (q8n _ _ _)) ⟨wd.heap.size + 1, 0, none⟩ 1 1 (q5y [⟨s, t, v⟩]) rfl (q8g _) (qzb wd _ ⟨s, t, v⟩) (qqn _) (by unfold maxLen; omega) (by omega) (by simp; omega) ?_; intro v7 w7 hown7 hgrow7 _)
     go_roundw
     case rel =>
       go_light
       refine ⟨k + 1, A5, C5, q1w ss s, ⟨A50, C50, q0, s0⟩, ⟨A51, C51, q1, s1⟩, ⟨A52, C52, q2, s2⟩, by omega, by omega, by go_num, ?_, ?_⟩
       · rw [htk2.out]
         exact (HD.out.next (q8n _ _ _)).grown (by simp; omega) (hOD.out.next (q8n _ _ _)) hgrow7 hov2.out
       · rw [htk2.out, qbe]
         exact hown7
     case measure => simp [intOf]; omega
   · have hlen : ((xs.take k).map q6w).length = k := by simp; omega
     have htk : (xs.take most.toNat).map q6w = (xs.take k).map q6w := by
       by_cases h1 : k < xs.length
       · rw [show most.toNat = k by omega]
       · rw [List.take_of_length_le (by omega), List.take_of_length_le (by omega)]
     have HT := q0a hat
     have HK := q0a (HPT.out.symm.trans htk)
     have HL := q0a hlen
     have HO := q0a hown
     have HV := q0a hov
     have b0 := fun j => hat.bx.cell j
     have r0 := fun j => hat.res.cell j
     have rf := fun j => hat.res.frozen j
     clear hat htk hlen hvr hown hov
     obtain ⟨A0, C0, p0, r0'⟩ := t0
     obtain ⟨A1, C1, p1, r1'⟩ := t1
     obtain ⟨A2, C2, p2, r2'⟩ := t2
     simp only [q1k, zb8] at b0 r0
     have FIN : Hid (∀ x0 x1 x2 x3 x4 x5 x6 x7, KbTo PT w (.returned (.tuple #[.agg #[.slice A ss.length C, .slice A0 p0.length C0, .int .i64 r0', .slice A1 p1.length C1, .int .i64 r1', .slice A2 p2.length C2, .int .i64 r2', .int .i64 0], .slice VA k VC])) (set8 wr w.heap.size x0 x1 x2 x3 x4 x5 x6 x7)) := fun x0 x1 x2 x3 x4 x5 x6 x7 => by
       obtain ⟨f1, f2⟩ := HT.out.fin x0 x1 x2 x3 x4 x5 x6 x7
       rw [HK.out]
       refine ⟨A, VA, C, VC, ss, ⟨A0, C0, p0, r0'⟩, ⟨A1, C1, p1, r1'⟩, ⟨A2, C2, p2, r2'⟩, by rw [HL.out]; rfl, f1, HT.out.kb, HT.out.few, ?_, f2⟩
       have ho := q0c HO.out (w' := set8 wr w.heap.size x0 x1 x2 x3 x4 x5 x6 x7) fun j hj => q2l _ _ _ _ _ _ _ _ _ _ j (by have := (HV.out j hj).1; omega)
       exact (q3o ho).1
     have lw : w.heap.size < wr.heap.size := by omega
     by_cases h1 : k < xs.length
     · have h2 : ¬ (k : Int) < most := fun h2 => hlt ⟨h1, h2⟩
       have q1 : (k : Int) < (xs.length : Int) := by omega
       clear hlt
       go_wp2_with fail
       exact bodyPost_ret (v := .tuple #[.agg #[.slice A ss.length C, .slice A0 p0.length C0, .int .i64 r0', .slice A1 p1.length C1, .int .i64 r1', .slice A2 p2.length C2, .int .i64 r2', .int .i64 0], .slice VA k VC]) (by simp [results, Tryz.results13, go_sem, r0]) rfl (FIN.out _ _ _ _ _ _ _ _)
     · have q1 : ¬ (k : Int) < (xs.length : Int) := by omega
       clear hlt
       go_wp2_with fail
       exact bodyPost_ret (v := .tuple #[.agg #[.slice A ss.length C, .slice A0 p0.length C0, .int .i64 r0', .slice A1 p1.length C1, .int .i64 r1', .slice A2 p2.length C2, .int .i64 r2', .int .i64 0], .slice VA k VC]) (by simp [results, Tryz.results13, go_sem, r0]) rfl (FIN.out _ _ _ _ _ _ _ _)

end
section
open Go.RowKit Plain Go.Shelf

theorem qqi (x : ByteArray) (a b : Int) (l : List Pt) (p : Pt) : sumR (q8c x a b (l ++ [p])) = if inPt x a b p = true then (mrg (sumR (q8c x a b l)) (ruP p)).1 else sumR (q8c x a b l) := by
 unfold q8c
 rw [List.filter_append]
 by_cases h : inPt x a b p = true
 · rw [if_pos h, List.filter_cons_of_pos h, List.filter_nil]
   unfold sumR
   rw [List.foldl_append]
   rfl
 · rw [if_neg h, List.filter_cons_of_neg h, List.filter_nil, List.append_nil]

theorem qvj (r : Ru) : Value.agg #[.int .i64 r.c, .int .i64 r.s, .int .i64 r.lo, .int .i64 r.hi, .int .i64 r.t, .int .i64 r.l] = .agg (ruV r).toArray := rfl

set_option maxRecDepth 20000 in
set_option maxHeartbeats 2000000 in
theorem qn8 (A : Option Addr) (C : Nat) (l : List Pt) (x : ByteArray) (a b : Int) (w : World) (h : q0l w.heap.size w A (q5y l)) (hz : l.length ≤ 1000000) (hg : ∀ p ∈ l, ∃ f, Pt.ok f p) :
   Calls Tryz.prog 18 #[.slice A l.length C, .string x, .int .i64 a, .int .i64 b] w fun e w' => e = .returned (.agg (ruV (sumR (q8c x a b l))).toArray) ∧ Below w.heap.size w w' := by
 have HS := q0s (MaA.start w)
 obtain ⟨S, hS⟩ : ∃ S, sumR (q8c x a b l) = S := ⟨_, rfl⟩
 rw [hS]
 have HSS := q0s hS
 clear hS
 go_enter Tryz.func18, Tryz.ntmps18
 go_wp2_with fail
 go_loopw [17] (fun vi wr => ∃ (i : Nat) (r : Ru), i ≤ l.length ∧ vi = .int .i64 i ∧ Hid (sumR (q8c x a b (l.take i)) = r) ∧ MaA w wr r) (fun vi _ => l.length - (intOf vi).toNat)
 case atStart => exact ⟨0, zro, Nat.zero_le _, rfl, (by show _ = _; rfl), HS.out⟩
 case round =>
   obtain ⟨i, r, hi, rfl, HT, hat⟩ := hrel
   have hsz := hat.below.size
   have lt1 := hat.tot.lt
   clear HS
   by_cases hlt : i < l.length
   · obtain ⟨bb, oo, rfl, hbl, c0, c1, c2⟩ := (h.below hat.below (Nat.le_refl _)).pt3 hlt
     obtain ⟨f, hgi⟩ := hg _ (List.getElem_mem hlt)
     have HN : Hid (sumR (q8c x a b (l.take (i + 1))) = if inPt x a b l[i] = true then (mrg r (ruP l[i])).1 else r) := by
       show _ = _
       rw [List.take_succ_eq_append_getElem hlt, qqi, HT.out]
     generalize l[i] = p at c0 c1 c2 hgi HN
     obtain ⟨s, t, v⟩ := p
     simp only at c0 c1 c2
     have lb : bb < wr.heap.size := by omega
     have q0 : (0 : Int) ≤ (i : Int) := by omega
     have q1 : (i : Int) < (l.length : Int) := by omega
     have t1 := fun j => hat.tot.cell j
     simp only [ruV] at t1
     by_cases hin : inPt x a b ⟨s, t, v⟩ = true
     · rw [if_pos hin] at HN
       simp only [inPt, Bool.and_eq_true, decide_eq_true_eq] at hin
       obtain ⟨rfl, ha, hb⟩ := hin
       have OF := q0s fun W => qqy t v W ((q2n _ _ _).2 ⟨hgi.t0, hgi.t1⟩) ((q2n _ _ _).2 ⟨hgi.v0, hgi.v1⟩)
       obtain ⟨m, hm⟩ : ∃ m, mrg r (one t v) = m := ⟨_, rfl⟩
       have con := q0s fun W => q5e r (one t v) W
       rw [hm] at con
       simp only [one] at con
       have HM : Hid (sumR (q8c s a b (l.take (i + 1))) = m.1) := by
         show _ = _
         rw [HN.out, ← hm]
         rfl
       have HA := q0s hat
       clear hat HN hm hgi
       go_wp2_with (first
         | (go_at_call 45; refine (OF.out _).mono ?_; rintro e w3 ⟨rfl, hb3⟩; have H3 := q0s ((HA.out.next ((Below.refl _ _).alloc (Nat.le_refl _) _)).next hb3); have t3 := fun j => H3.out.tot.cell j; simp only [ruV] at t3; have l3 := H3.out.tot.lt; clear hb3 t1)
         | (go_at_call 67; refine (con.out _).mono ?_; rintro e w5 ⟨rfl, hb5⟩; have H5 := q0s ((H3.out.next ((Below.refl _ _).alloc (Nat.le_refl _) _)).next hb5); have t5 := fun j => H5.out.tot.cell j; simp only [ruV] at t5; have f5 := fun j => H5.out.tot.frozen j; have l5 := H5.out.tot.lt; clear hb5 t3))
       go_roundw
       case rel =>
         go_light
         exact ⟨i + 1, m.1, by omega, by go_num, HM, H5.out.turn⟩
       case measure => simp [intOf]; omega
     · rw [if_neg hin] at HN
       have HA := q0s hat
       clear hat
       by_cases h1 : s = x
       · subst h1
         by_cases h2 : a ≤ t
         · have h3 : ¬ t ≤ b := fun h3 => hin (by simp [inPt, h2, h3])
           clear hin
           go_wp2_with fail
           all_goals (try (exfalso; omega))
           go_roundw
           case rel =>
             go_light
             exact ⟨i + 1, r, by omega, by go_num, HN, HA.out.next ((Below.refl _ _).alloc (Nat.le_refl _) _)⟩
           case measure => simp [intOf]; omega
         · clear hin
           go_wp2_with fail
           all_goals (try (exfalso; omega))
           go_roundw
           case rel =>
             go_light
             exact ⟨i + 1, r, by omega, by go_num, HN, HA.out.next ((Below.refl _ _).alloc (Nat.le_refl _) _)⟩
           case measure => simp [intOf]; omega
       · have h1' : ¬ s.toList = x.toList := fun e => h1 (ByteArray.ext (by simpa [ByteArray.toList_eq] using e))
         clear hin
         go_wp2_with fail
         go_roundw
         case rel =>
           go_light
           exact ⟨i + 1, r, by omega, by go_num, HN, HA.out.next ((Below.refl _ _).alloc (Nat.le_refl _) _)⟩
         case measure => simp [intOf]; omega
   · obtain rfl : i = l.length := by omega
     have hni : ¬ ((l.length : Int) < (l.length : Int)) := by omega
     have HT' : Hid (r = S) := by
       have e := HT.out
       rw [List.take_length, HSS.out] at e
       exact e.symm
     have t1 := fun j => hat.tot.cell j
     have s1 := fun j => hat.res.cell j
     have f1 := fun j => hat.res.frozen j
     simp only [ruV, zro] at t1 s1
     have HA := q0s hat
     clear hat HT
     go_wp2_with fail
     exact bodyPost_ret (v := .agg #[.int .i64 r.c, .int .i64 r.s, .int .i64 r.lo, .int .i64 r.hi, .int .i64 r.t, .int .i64 r.l]) (by simp [results, Tryz.results18, go_sem, s1]) rfl ⟨by rw [qvj, HT'.out], q6e HA.out.below (Nat.le_refl _) r⟩

end
end Go.Proofs.YtlojfgdpmaigmafGreatDoor

/- For every list of raw things, every place and every byte: a base of the raw things' points is told as bytes, and comes back with all that it knows; with a byte more, or another byte in the place of one, it does not come back. No condition beside the table of sizes, which is tied to the program's text. -/
import Derived.Test.YtlojfgdpmaigmafGreatDoorP52
import Derived.Test.YtlojfgdpmaigmafGreatDoorP42
import Derived.Test.YtlojfgdpmaigmafGreatDoorP40
import Derived.Test.YtlojfgdpmaigmafGreatDoorP51
import Derived.Test.YtlojfgdpmaigmafGreatDoorP49
import Derived.Test.YtlojfgdpmaigmafGreatDoorLaidSz
import Derived.ChangeMaps5
namespace Go.Proofs.YtlojfgdpmaigmafGreatDoor
open Go.ChangeShapes Go.WideShapes Go.ChangeAt Go.RowKit Plain Go.Shelf

theorem qzu {f : Int} {ss : List ByteArray} {t0 t1 t2 : TR} {pts : List Pt} (h : KB ss f t0 t1 t2 pts) : ∀ p ∈ pts, ∃ f, Pt.ok f p := fun p hp => by
 obtain ⟨_, _, _, k⟩ := h
 exact ⟨f, (k.pt p hp).2⟩

structure FbK (ss : List ByteArray) (t0 t1 t2 : TR) (pts : List Pt) (L : List En) (EB : List Int) : Prop where
 base : q3h ss 0 (t0.ps.map PN.nd) t0.r (t1.ps.map PN.nd) t1.r (t2.ps.map PN.nd) t2.r = true
 all : allP (t0.ps.map PN.nd) t0.r 0 1099511627776 = (0, L)
 few : L.length ≤ 40
 tell : qi5 ss 0 L
 eb : encB ss 0 L = EB
 len : EB.length ≤ 200000
 pos : 6 ≤ EB.length
 ok : q9e ss 0 L = true
 pt : ∀ (u0 u1 u2 : TR), q3h ss 0 (u0.ps.map PN.nd) u0.r (u1.ps.map PN.nd) u1.r (u2.ps.map PN.nd) u2.r = true → allP (u0.ps.map PN.nd) u0.r 0 1099511627776 = (0, L) → KB ss 0 u0 u1 u2 pts

theorem fbK {ss : List ByteArray} {t0 t1 t2 : TR} {pts : List Pt} (h : KB ss 0 t0 t1 t2 pts) (hn : pts.length ≤ 40) : ∃ L EB, FbK ss t0 t1 t2 pts L EB := by
 obtain ⟨L0, L1, L2, k⟩ := h
 have hf := k.few.1
 have hT := qpx k.ok k.lst (by omega)
 have h1 := (qq1 k.ok).1
 rw [q9v, k.lst.a0] at h1
 have hl := qwn h1 (by show L0.length ≤ 1000; omega)
 refine ⟨L0, encB ss 0 L0, k.ok, k.lst.a0, by omega, hT, rfl, hl, by rw [qfk]; omega, qts k.ok k.lst, fun u0 u1 u2 hb ha => ?_⟩
 obtain ⟨M1, M2, hk⟩ := k.same hb ha
 exact ⟨L0, M1, M2, hk⟩

theorem qyo {l : List Int} (h : U8 l) (k : Nat) {v : Int} (h0 : 0 ≤ v) (h1 : v ≤ 255) : U8 (l.set k v) := fun x hx => by
 rcases List.mem_or_eq_of_mem_set hx with h' | rfl
 · exact h x h'
 · exact ⟨h0, h1⟩

theorem qn1 {B g cap k : Nat} {bs : List Int} {w : World} {v : Int} (h : q2s B w (.slice (some ⟨g, 0, none⟩) bs.length cap) bs) (hk : k < bs.length) : q0h (w.setCell ⟨g, k, none⟩ (.int .u8 v)).heap.size (w.setCell ⟨g, k, none⟩ (.int .u8 v)) (some ⟨g, 0, none⟩) cap (bs.set k v) := by
 obtain ⟨g', cap', e, _, hg, h1, h2, h3, h4⟩ := h
 cases e
 refine ⟨by rw [List.length_set]; exact h1, h2, .inr ⟨g, 0, rfl, by simpa using hg, fun j u hu => ?_⟩⟩
 rw [Nat.zero_add]
 have hjl : j < bs.length := by
   have := (List.getElem?_eq_some_iff.1 hu).1
   simpa [u8s] using this
 have old : w.cell? ⟨g, j, none⟩ = some (.int .u8 bs[j]) := h4 j _ (by simp [u8s, List.getElem?_eq_getElem hjl])
 by_cases e : j = k
 · subst e
   rw [World.cell?_setCell_same _ _ _ old]
   simpa [u8s, hjl] using hu
 · rw [World.cell?_setCell_other _ _ _ _ (fun h => e (by simpa using h.symm)), old]
   have : (bs.set k v)[j]? = bs[j]? := List.getElem?_set_ne (fun h => e h.symm)
   simp only [u8s, List.getElem?_map, this, List.getElem?_eq_getElem hjl] at hu
   simpa using hu

set_option maxRecDepth 20000 in
set_option maxHeartbeats 8000000 in
theorem qdw (A : Option Addr) (C : Nat) (xs : List Rw) (cut y : Int) (w : World) (hZ : SzAt w) (hA : q0l w.heap.size w A (qde xs)) (_ : xs.length * 32 ≤ 140737488351232) (hwf : ∀ x ∈ xs, x.wf) (hn : (Lit.int .i64 cut).wf = true) (hy : (Lit.int .u8 y).wf = true) :
   Calls Tryz.prog 4 #[.slice A xs.length C, .int .i64 cut, .int .u8 y] w fun e w' => e = .returned (.bool true) ∧ Below w.heap.size w w' := by
 have bc := qgk hn
 have by1 := qzp hy
 have TT := q0a (qqr w hZ)
 have KB1 := q0a fun W (hW : Below w.heap.size w W) => qqp A C xs 40 W (hZ.below hW) (hA.up hW) hwf (by decide) (by decide)
 have hlen : ((xs.take (40 : Int).toNat).map q6w).length ≤ 40 := by simp; omega
 obtain ⟨pts, hpts⟩ : ∃ pts, (xs.take (40 : Int).toNat).map q6w = pts := ⟨_, rfl⟩
 rw [hpts] at KB1 hlen
 have HZ := q0a hZ
 clear hpts hA hwf hn hy hZ
 go_enter Tryz.func4, Tryz.ntmps4
 go_upto_region 3 with (first
   | (go_at_call 12; refine TT.out.mono ?_; rintro e w1 ⟨rfl, hb1⟩; have HB1 := q0a hb1; clear hb1 TT))
 go_upto_region 4 with (first
   | (go_at_call 13; refine (KB1.out _ HB1.out).mono ?_; rintro e w2 ⟨A1, PA1, C1, PC1, ss, t0, t1, t2, he, ho, hk, hf4, hr, hb⟩; obtain ⟨A10, C10, q0, s0⟩ := t0; obtain ⟨A11, C11, q1, s1⟩ := t1; obtain ⟨A12, C12, q2, s2⟩ := t2; have BA1 := q0a (ho.at hk); have K1 := q0a hk; have R1 := q0a hr; have HB2 := q0a (q0e HB1.out (Nat.le_refl _) hb); have X1 := q0a (q0b w2 (q1k A1 C1 ss ⟨A10, C10, q0, s0⟩ ⟨A11, C11, q1, s1⟩ ⟨A12, C12, q2, s2⟩ 0) 29); have HO1 := q0a (qzu hk); simp only [q1k] at he; subst he; clear ho hk hf4 hr hb KB1))
 obtain ⟨L, EB, hF⟩ := fbK K1.out hlen
 have HF := q0a hF
 have E1 := q0a fun W (hW : Below w2.heap.size w2 W) => by
   have k := qvd (HZ.out.below (q0e HB2.out (Nat.le_refl _) hW)) (BA1.out.up hW) hF.base hF.all (by have := hF.few; omega) (by rw [hF.eb]; exact hF.len)
   rw [hF.eb] at k
   exact k
 have D1 := q0a fun W (hW : Below w2.heap.size w2 W) (g cap : Nat) (hy : q0h W.heap.size W (some ⟨g, 0, none⟩) cap EB) => by
   have k := qyk (C := cap) (A := some ⟨g, 0, none⟩) (w := W) (HZ.out.below (q0e HB2.out (Nat.le_refl _) hW)) (by rw [hF.eb]; exact hy) hF.tell (by rw [hF.eb]; exact hF.len) hF.ok (by have := hF.few; omega)
   rw [hF.eb] at k
   exact k
 clear hF
 simp only [q1k] at E1
 unfold DkTo at D1
 have b0 : ∀ (W : World) (o : Obj), Below W.heap.size W (W.alloc o) := fun W o => (Below.refl _ _).alloc (Nat.le_refl _) o
 go_upto_region 5 with (first
   | (go_at_call 14; refine (E1.out _ (b0 _ _)).mono ?_; rintro e w3 ⟨g3, cap3, rfl, hy3, hb3⟩; have HB3 := q0a (q0e (b0 w2 _) (Nat.le_refl _) hb3); have Y3 := q0a hy3; have X3 := q0a (X1.out.below hb3 X1.out.lt); clear hy3 hb3 E1 X1))
 go_upto_region 6 with (first
   | (go_at_call 8; refine (D1.out _ HB3.out g3 cap3 Y3.out).mono ?_; rintro e w4 ⟨A4, C4, ⟨A40, C40, p0, r0⟩, ⟨A41, C41, p1, r1⟩, ⟨A42, C42, p2, r2⟩, he, ha4, hbb4, hal4, ho4, hb4⟩; have HB4 := q0a (q0e HB3.out (Nat.le_refl _) hb4); have X4 := q0a (X3.out.below hb4 X3.out.lt); have BA4 := q0a ha4; have BB4 := q0a hbb4; have AL4 := q0a hal4; have Y4 := q0a ((Y3.out.below hb4 (Nat.le_refl _)).mono hb4.size); have Z4 := q0a (q0b w4 (q1k A4 C4 ss ⟨A40, C40, p0, r0⟩ ⟨A41, C41, p1, r1⟩ ⟨A42, C42, p2, r2⟩ 0) 29); simp only [q1k] at he; subst he; clear ha4 hbb4 hal4 ho4 hb4 D1 X3 Y3))
 have K4 : Hid (KB ss 0 ⟨A40, C40, p0, r0⟩ ⟨A41, C41, p1, r1⟩ ⟨A42, C42, p2, r2⟩ pts) := HF.out.pt _ _ _ BB4.out AL4.out
 have E2 := q0a fun W (hW : Below w4.heap.size w4 W) => by
   have k := qvd (HZ.out.below (q0e HB2.out (Nat.le_refl _) (q0e HB4.out (Nat.le_refl _) hW))) (BA4.out.up hW) BB4.out AL4.out (by have := HF.out.few; omega) (by rw [HF.out.eb]; exact HF.out.len)
   rw [HF.out.eb] at k
   exact k
 simp only [q1k] at E2
 go_upto_region 7 with (first
   | (go_at_call 14; refine (E2.out _ (b0 _ _)).mono ?_; rintro e w5 ⟨g5, cap5, rfl, hy5, hb5⟩; have HB5 := q0a (q0e (b0 w4 _) (Nat.le_refl _) hb5); have X5 := q0a (X4.out.below HB5.out X4.out.lt); have Z5 := q0a (Z4.out.below hb5 Z4.out.lt); have Y5 := q0a ((Y4.out.below HB5.out (Nat.le_refl _)).mono HB5.out.size); have V5 := q0a hy5; clear hy5 hb5 E2 X4 Z4 Y4))
 have HC5 := q0a (q0e HB2.out (Nat.le_refl _) (q0e HB4.out (Nat.le_refl _) HB5.out))
 have BA5 := q0a (BA1.out.up (q0e HB4.out (Nat.le_refl _) HB5.out))
 have BC5 := q0a (BA4.out.up HB5.out)
 have HO5 := q0a (R1.out.up (q0e HB4.out (Nat.le_refl _) HB5.out))
 have kc1 := q5h Y5.out (by rw [← HF.out.eb]; exact qcx _ _ _)
 have kc2 := q5h V5.out (by rw [← HF.out.eb]; exact qcx _ _ _)
 have CK := q0a fun W (hW : Below w5.heap.size w5 W) => qrm (HZ.out.below (q0e HC5.out (Nat.le_refl _) hW)) (BC5.out.up hW) K4.out
 simp only [q1k] at CK
 have ES := q0a fun W (hW : Below w5.heap.size w5 W) => qfo A1 A4 C1 C4 ss W (BA5.out.up hW).st (BC5.out.up hW).st
 have z5 := fun j => Z5.out.cell j
 simp only [q1k] at z5
 clear BA1 BA4 BB4 AL4 R1 HB1
 go_upto_region 9 with (first
   | (go_at_call 15; refine (CK.out _ (Below.refl _ _)).mono ?_; rintro e w6 ⟨rfl, hb6⟩; have HB6 := q0a hb6; have X6 := q0a (X5.out.below hb6 X5.out.lt); have Z6 := q0a (Z5.out.below hb6 Z5.out.lt); have z6 := fun j => Z6.out.cell j; have x6 := fun j => X6.out.cell j; simp only [q1k] at z6 x6; clear hb6 CK z5)
   | (go_at_call 16; refine (ES.out _ HB6.out).mono ?_; rintro e w7 ⟨rfl, hb7⟩; have HB7 := q0a (q0e HB6.out (Nat.le_refl _) hb7); have X7 := q0a (X6.out.below hb7 X6.out.lt); have Z7 := q0a (Z6.out.below hb7 Z6.out.lt); have x7 := fun j => X7.out.cell j; simp only [q1k] at x7; clear hb7 ES z6 x6 X6 Z6 X5 Z5))
 have HC7 := q0a (q0e HC5.out (Nat.le_refl _) HB7.out)
 have BA7 := q0a (BA5.out.up HB7.out)
 have BC7 := q0a (BC5.out.up HB7.out)
 have HO7 := q0a (HO5.out.up HB7.out)
 have Y7 := q0a ((Y5.out.below HB7.out (Nat.le_refl _)).mono HB7.out.size)
 have lx7 := X7.out.lt
 have lz7 := Z7.out.lt
 clear HB2 HB3 HB4 HB5 HB6 HB7 HC5 BA5 BC5 HO5 Y5 V5 kc1 kc2 b0
 go_wp2_with fail
 go_loopw [79] (fun vi wr => ∃ k : Nat, k ≤ ss.length ∧ vi = .int .i64 (k : Int) ∧ Hid (Below w7.heap.size w7 wr)) (fun vi _ => ss.length - (intOf vi).toNat)
 case atStart => exact ⟨0, Nat.zero_le _, rfl, Below.refl _ _⟩
 case round =>
   obtain ⟨k, hk, rfl, HB⟩ := hrel
   by_cases hlt : k < ss.length
   · as_aux_lemma =>
       have hss := HF.out.tell.n
       have hwk : IntKind.i64.wrap ((k : Int) + 1) = (k : Int) + 1 := by rw [IntKind.wrap_i64]; omega
       have hwl : wrap64 ((k : Int) + 1) = (k : Int) + 1 := by unfold wrap64; omega
       obtain ⟨sb, so, hsA, hsb, hsc, -⟩ := (BA7.out.up HB.out).st.row.str hlt
       have hm : ss[k] ∈ ss := List.getElem_mem hlt
       obtain ⟨s, hs⟩ : ∃ s, ss[k] = s := ⟨_, rfl⟩
       rw [hs] at hsc hm
       have hx : 0 ≤ Lib.idxOfS ss s := (Lib.idxOfS_nonneg_iff ss s).2 hm
       have TK := q0a fun W (hW : Below wr.heap.size wr W) => qte (HZ.out.below (q0e HC7.out (Nat.le_refl _) (q0e HB.out (Nat.le_refl _) hW))) (BC7.out.up (q0e HB.out (Nat.le_refl _) hW)) K4.out (x := s) (a := 0) (b := 1048575) hx (by decide) (by omega)
       have KK := q0a fun W (hW : Below wr.heap.size wr W) => qn8 PA1 PC1 pts s 0 1048575 W (HO7.out.up (q0e HB.out (Nat.le_refl _) hW)) (by omega) HO1.out
       obtain ⟨S, hS⟩ : ∃ S, sumR (q8c s 0 1048575 pts) = S := ⟨_, rfl⟩
       rw [hS] at TK KK
       unfold MaTo at TK
       simp only [q1k, ruV] at TK KK
       have Zr := q0a (Z7.out.below HB.out lz7)
       have zr := fun j => Zr.out.cell j
       simp only [q1k] at zr
       subst hsA
       clear hS hx hm hs
       go_upto_region 13 with (first
         | (go_at_call 17; refine (TK.out _ (Below.refl _ _)).mono ?_; rintro e w8 ⟨rfl, hb8⟩; have HB8 := q0a hb8; have GB8 := q0a ((Below.refl w8.heap.size w8).alloc (Nat.le_refl _) (.cells #[.int .i64 S.c, .int .i64 S.s, .int .i64 S.lo, .int .i64 S.hi, .int .i64 S.t, .int .i64 S.l] 49)); clear hb8 zr Zr TK))
       go_region_held3 (fun w' => w'.cell? ⟨w8.heap.size, 0, none⟩ = some (.int .i64 S.c) ∧ w'.cell? ⟨w8.heap.size, 1, none⟩ = some (.int .i64 S.s) ∧ w'.cell? ⟨w8.heap.size, 2, none⟩ = some (.int .i64 S.lo) ∧ w'.cell? ⟨w8.heap.size, 3, none⟩ = some (.int .i64 S.hi) ∧ w'.cell? ⟨w8.heap.size, 4, none⟩ = some (.int .i64 S.t) ∧ w'.cell? ⟨w8.heap.size, 5, none⟩ = some (.int .i64 S.l)) (go_keep)
         (first
           | (go_at_call 18; refine (KK.out _ ((q0e HB8.out (Nat.le_refl _) GB8.out).drew)).mono ?_; rintro e w9 ⟨rfl, hb9⟩; have T9 := (q0q (hb9.mono (show w8.heap.size + 1 ≤ _ by simp))).1; have HB9 := q0a (q0e ((q0e HB8.out (Nat.le_refl _) GB8.out).drew) (Nat.le_refl _) hb9)))
       go_wp2
       first
         | (rw [hwl]; exact ⟨⟨k + 1, hlt, rfl, q0e HB.out (Nat.le_refl _) HB9.out⟩, by simp only [intOf]; omega⟩)
         | exact ⟨⟨k + 1, hlt, by go_num, q0e HB.out (Nat.le_refl _) HB9.out⟩, by simp only [intOf]; omega⟩
   · as_aux_lemma =>
       have hlt' : ¬ ((k : Int) < (ss.length : Int)) := by omega
       have hEu : U8 EB := by rw [← HF.out.eb]; exact qcx _ _ _
       have hEl := HF.out.len
       have hEp := HF.out.pos
       have hEu1 : U8 (EB ++ [0]) := q6j hEu (fun x hx => by simp at hx; omega)
       have hzl : EB.length + [(0 : Int)].length ≤ 1000000000 := by simp; omega
       have hE1 : decC (EB ++ [0]) ≠ 0 := by rw [← HF.out.eb]; exact qt6 HF.out.tell 0
       have CL := q0a fun W (hW : Below w7.heap.size w7 W) => qnv g3 0 cap3 EB W ((Y7.out.below hW (Nat.le_refl _)).mono hW.size) (by omega)
       have DN := q0a fun W (hW : Below w7.heap.size w7 W) g cap (hy : q0h W.heap.size W (some ⟨g, 0, none⟩) cap (EB ++ [0])) => by
         have k := quw (A := some ⟨g, 0, none⟩) (C := cap) (HZ.out.below (q0e HC7.out (Nat.le_refl _) hW)) hy hEu1 hE1
         rw [show (EB ++ [(0 : Int)]).length = EB.length + 1 by simp] at k
         exact k
       unfold q4f at DN
       clear hE1 hEu1 x7
       go_upto_region 17 with (first
         | (go_at_call 19; refine (CL.out _ HB.out).mono ?_; rintro e w8 ⟨v8, rfl, hv8, hb8⟩; have HB8 := q0a (q0e HB.out (Nat.le_refl _) hb8); have hA8 := hv8.below ((Below.refl _ _).alloc (Nat.le_refl _) (.cells #[.int .u8 0] 5)); have hle8 : wr.heap.size ≤ (w8.alloc (.cells #[.int .u8 0] 5)).heap.size := (hb8.alloc hb8.size _).size; have G8 := q0a (hb8.alloc hb8.size (.cells #[.int .u8 0] 5)); clear hb8)
         | (at_builtin; refine q2b rfl _ _ 22 rfl wr.heap.size _ _ EB [0] rfl hA8 rfl (qfg w8 0) hle8 hzl ?_; intro v9 w9 hv9 hg9; have HB9 := q0a (q0e HB.out (Nat.le_refl _) (G8.out.trans (hg9.below hA8))); obtain ⟨g9, cap9, e9, hy9⟩ := hv9.bytes; subst e9; clear hv9 hg9 hA8 hle8)
         | (go_at_call 8; refine (DN.out _ HB9.out g9 cap9 hy9).mono ?_; rintro e w10 ⟨c1, hc1, rfl, hb10⟩; have HB10 := q0a (q0e HB9.out (Nat.le_refl _) hb10); clear hb10 hy9))
       have HC9 := q0a (q0e HC7.out (Nat.le_refl _) HB10.out)
       have HT9 := q0a ((Below.refl w10.heap.size w10).alloc (Nat.le_refl _) (.cells #[.slice none 0 0, .slice none 0 0, .int .i64 0, .slice none 0 0, .int .i64 0, .slice none 0 0, .int .i64 0, .int .i64 0] 29))
       have hne1 : (c1 != 0) = true := by simpa using hc1
       clear HB9 G8 DN
       by_cases hy0 : y = 0
       · have hy0' : (y == 0) = true := by simpa using hy0
         subst hy0
         go_wp2_with fail
         go_ret
         exact ⟨rfl, q0e HC9.out (Nat.le_refl _) HT9.out⟩
       · have hy0' : (y == 0) = false := by simpa using hy0
         have pk := qcm cut (show (0 : Int) < (EB.length : Int) by omega)
         have PKC := q0a fun W => q8s cut EB.length W bc.1 bc.2 (by omega) (by omega)
         obtain ⟨k9, hk9⟩ : ∃ k9 : Nat, pick cut EB.length = (k9 : Int) := ⟨(pick cut EB.length).toNat, by omega⟩
         rw [hk9] at pk PKC
         have hkl : k9 < EB.length := by omega
         have hu9 := hEu _ (List.getElem_mem hkl)
         have hg9 : EB[k9]? = some EB[k9] := List.getElem?_eq_getElem hkl
         obtain ⟨u, hu⟩ : ∃ u, EB[k9] = u := ⟨_, rfl⟩
         rw [hu] at hu9 hg9
         obtain ⟨v, hv⟩ : ∃ v, IntKind.u8.wrap (u + y) = v := ⟨_, rfl⟩
         have hv9 : 0 ≤ v ∧ v ≤ 255 ∧ v ≠ u := by
           have e : IntKind.u8.wrap (u + y) = (u + y) % 256 := by simp [IntKind.wrap, IntKind.bits, IntKind.signed]
           rw [← hv, e]
           omega
         have hE2 : decC (EB.set k9 v) ≠ 0 := by
           have h := hg9
           rw [← HF.out.eb] at h ⊢
           exact qu2 h hv9.1 hv9.2.1 hu9 hv9.2.2
         have hEu2 := qyo hEu k9 hv9.1 hv9.2.1
         have DN := q0a fun W (hW : Below w7.heap.size w7 W) g cap (hy : q0h W.heap.size W (some ⟨g, 0, none⟩) cap (EB.set k9 v)) => by
           have k := quw (A := some ⟨g, 0, none⟩) (C := cap) (HZ.out.below (q0e HC7.out (Nat.le_refl _) hW)) hy hEu2 hE2
           rw [List.length_set] at k
           exact k
         unfold q4f at DN
         have HG9 := q0a hg9
         have hk0 : (0 : Int) ≤ (k9 : Int) := pk.1
         have hk1 : (k9 : Int) < (EB.length : Int) := pk.2
         have HKL := q0a hkl
         clear hE2 hEu2 hEu hg9 hkl hu hk9 pk
         go_upto_region 20 with (first
           | (go_at_call 19; refine (CL.out _ (q0e HB10.out (Nat.le_refl _) HT9.out)).mono ?_; rintro e w11 ⟨v11, rfl, hv11, hb11⟩; have HB11 := q0a (q0e (q0e HB10.out (Nat.le_refl _) HT9.out) (Nat.le_refl _) hb11); have HV11 := q0a hv11; obtain ⟨g11, cap11, e11, q0', q1', q2', q3', q4', q5'⟩ := hv11; subst e11; clear hb11 CL))
         have c9 : w11.cell? ⟨g11, k9, none⟩ = some (.int .u8 u) := q5' k9 _ (by simp [u8s, HG9.out])
         have f9 : w11.frozen? ⟨g11, k9, none⟩ = false := (q4' k9 (by have := HKL.out; omega)).2
         have HQ := q0a (show w7.heap.size ≤ g11 from Nat.le_trans (q0e HB10.out (Nat.le_refl _) HT9.out).size q0')
         have HT := q0a (qn1 (v := v) HV11.out HKL.out)
         have HS := q0a (HB11.out.setCell (p := ⟨g11, k9, none⟩) HQ.out (.int .u8 v))
         clear q0' q2' q3' q4' q5'
         go_upto_region 21 with (first
           | (go_at_call 20; refine (PKC.out _).mono ?_; rintro e wx ⟨rfl, hwx⟩; subst wx))
         have HW := q0a (q0e HC7.out (Nat.le_refl _) HS.out)
         have cx : Hid (∀ c2 : Int, c2 ≠ 0 → (c2 != 0) = true) := fun c2 h => by simpa using h
         go_wp2_with (first
           | (go_at_call 8; refine (DN.out _ HS.out g11 cap11 HT.out).mono ?_; rintro e w12 ⟨c2, hc2, rfl, hb12⟩; have hne2 := cx.out c2 hc2; have HB12 := q0a (q0e HW.out (Nat.le_refl _) hb12); clear hb12 DN))
         go_ret
         exact ⟨rfl, HB12.out.alloc HB12.out.size _⟩

set_option maxRecDepth 100000 in
theorem qby (os : Os) (started : os.Started) (H : Type) (enc : TypeId × Value → H) :
   ReturnsInHanded {} Tryz.checked os 4 .any (fun w args => (Rows.filesBackSpec.pre enc Tryz.prog Tryz.f4 [] false w args ∧ laidMetH Tryz.prog qf3 w) ∧ sizedMet enc Tryz.prog Tryz.f4 (OpenSpec.ofChange Rows.filesBackSpec) false w args)
     (Rows.filesBackSpec.post enc Tryz.prog Tryz.f4 false true false false) := by
 refine returnsInHanded_of_change_and (C := Tryz.checked) (X := fun w _ => laidMetH Tryz.prog qf3 w) (fun _ _ _ hh h => h.of_heap hh) own started (by kernel_rfl) Tryz.func4
   (ChangeSpec.witness_at (enc := enc) (C := Tryz.checked) (os := os) (X := fun w _ => laidMetH Tryz.prog qf3 w) false (World.laidAll Tryz.prog os qf3) #[.slice none 0 0, .int .i64 0, .int .u8 0] 8 (World.laidAll_os _ _ _) (by kernel_rfl) (by kernel_rfl) (by kernel_rfl) (by kernel_rfl) (by kernel_rfl)
     (by rw [MakeChecks.laidMetH_plain _ _ _ (by kernel_rfl)]; exact laidMet_laidAll _ (by kernel_rfl) (by kernel_rfl))) ?_
 intro W base args ds gs before hval0 hW _ hsz0 hL _
 have hval : ∀ (j : Nat) t v, Tryz.f4.params[j]? = some t → args[j]? = some v → Value.okWide Tryz.prog W .any base t v := hval0
 have hW' := hW
 obtain ⟨p, q, hA0, hV, rfl, hfz, hnd⟩ := hW
 have hA : DataW.TrodAll enc Tryz.prog W 0 (fun _ => true) true Tryz.f4.params.toList args.toList ds p := hA0
 have hsz : (DataW.weightsEach Tryz.prog (Tryz.f4.params.toList ++ Rows.filesBackSpec.plain.varTypes Tryz.prog) (ds ++ gs)).all (· ≤ reachBytes) = true := hsz0
 rw [Tryz.params4] at hA hval hsz
 obtain ⟨v0, vs0, d0, ds0, p0, q0, hargs, rfl, rfl, h0, r0⟩ := trodAll_cons hA
 obtain ⟨v1, vs1, d1, ds1, p1, q1, rfl, rfl, rfl, h1, r1⟩ := trodAll_cons r0
 obtain ⟨v2, vs2, d2, ds2, p2, q2, rfl, rfl, rfl, h2, r2⟩ := trodAll_cons r1
 obtain ⟨rfl, rfl, rfl⟩ := trodAll_nil r2
 obtain rfl : args = #[v0, v1, v2] := by cases args; simp_all
 obtain ⟨rfl, rfl⟩ := trodVars_none hV
 have k0 := h0
 have lt0 : ∀ x ∈ p0, x.block < W.heap.size := by obtain ⟨m, hm⟩ := k0; exact DataW.trod_lt m _ _ _ hm
 obtain ⟨A0, C0, xs0, rfl, hR0, hz0, hw0⟩ := qih (hval 0 39 v0 rfl rfl) h0 (fun n hn => by
   have := List.all_eq_true.1 hsz n (DataW.weights_mem_each (j := 0) (t := 39) rfl rfl n hn)
   exact of_decide_eq_true this)
 have k1 := h1
 have lt1 : ∀ x ∈ p1, x.block < W.heap.size := by obtain ⟨m, hm⟩ := k1; exact DataW.trod_lt m _ _ _ hm
 obtain ⟨a1, rfl, w1⟩ : ∃ n : Int, v1 = .int .i64 n ∧ (Lit.int .i64 n).wf = true := by
   obtain ⟨n, h, _, _, w⟩ := open_int Tryz.underlying3 (hval 1 3 v1 rfl rfl) h1; exact ⟨n, h, w⟩
 have k2 := h2
 have lt2 : ∀ x ∈ p2, x.block < W.heap.size := by obtain ⟨m, hm⟩ := k2; exact DataW.trod_lt m _ _ _ hm
 obtain ⟨a2, rfl, w2⟩ : ∃ n : Int, v2 = .int .u8 n ∧ (Lit.int .u8 n).wf = true := by
   obtain ⟨n, h, _, _, w⟩ := open_int Tryz.underlying5 (hval 2 5 v2 rfl rfl) h2; exact ⟨n, h, w⟩
 clear hA0 hval0 hsz0
 refine (qdw A0 C0 xs0 a1 a2 W (qwy hL) hR0 hz0 hw0 w1 w2).mono fun e W' ⟨he, bel⟩ => ?_
 subst he
 exact ⟨_, rfl, _, _, _, [], _, [], hW', trodAll_mk1 (shut_bool Tryz.underlying4 _), (trodAll_cons_mk (Below.trod qjm (by kernel_rfl) (of_decide_eq_true (by kernel_rfl)) k0 bel lt0) (trodAll_cons_mk (Below.trod qjm (by kernel_rfl) (of_decide_eq_true (by kernel_rfl)) k1 bel lt1) (trodAll_cons_mk (Below.trod qjm (by kernel_rfl) (of_decide_eq_true (by kernel_rfl)) k2 bel lt2) trodAll_mk0))), rfl, bel.frame _, fun h => by cases h⟩

theorem qcj : Rows.FilesBackSaid :=
 OpenClaim.holds_of_wide 4 Tryz.f4 rfl rfl rfl rfl rfl rfl rfl ⟨rfl, rfl, rfl, rfl, rfl⟩ rfl rfl rfl rfl rfl (by kernel_rfl) Tryz.func4 (by kernel_rfl)
   (of_decide_eq_true (by kernel_rfl)) (by unfold Func.isWrapper; first | (rw [if_pos (by decide +kernel)]; kernel_rfl) | (rw [if_neg (by decide +kernel)]; exact ⟨rfl, rfl⟩))
   (fun os started H enc _ => qby os started H enc)

theorem filesBackCard_holds : Rows.FilesBackCardSaid :=
 Claim7.holds_tied_plain_at .later [] [.data] true (true, "a102583fe28ffa609899a275fe48454efada5daf74d5e6fcddfa7c764d9a7f81") false qcj (fun _ h => by cases h) (by kernel_rfl) (fun _ h => by cases h) filesBack_row_tie rfl ⟨rfl, rfl⟩ (by kernel_rfl) rfl
   (fun f fn hf hfn => by
     obtain rfl : f = 4 := Option.some.inj ((show Tryz.prog.funcNamed "winnower/winnowerkeep.FilesBack" = some 4 by kernel_rfl).symm.trans hf) |>.symm
     obtain rfl : fn = Tryz.f4 := (Option.some.inj (Tryz.func4.symm.trans hfn)).symm
     exact ⟨by kernel_rfl, fun j t ht => by
       rw [Tryz.params4] at ht
       have hm : t ∈ [39, 3, 5] := by simpa using Array.mem_of_getElem? ht
       have hall : ([39, 3, 5].all fun u => !Tryz.prog.wantsStandIn u) = true := by kernel_rfl
       exact (show Tryz.prog.wantsStandIn t = false by simpa using List.all_eq_true.1 hall t hm)⟩)
   (by kernel_rfl)
#print axioms filesBackCard_holds
end Go.Proofs.YtlojfgdpmaigmafGreatDoor

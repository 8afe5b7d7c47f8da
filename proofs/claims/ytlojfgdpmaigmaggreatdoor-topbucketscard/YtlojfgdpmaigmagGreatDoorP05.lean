/- What together of package roll does. -/
import Derived.Test.YtlojfgdpmaigmagGreatDoorWalks6
import Derived.Test.YtlojfgdpmaigmagGreatDoorP02
namespace Go.Proofs.YtlojfgdpmaigmagGreatDoor
section
open Go.RowKit Plain

set_option maxHeartbeats 1000000 in
theorem zF(c s lo hi t l c' s' lo' hi' t' l':Int)(w:World)(a1:0<=c)(a2:c<=1073741824)(b1:0<=c')(b2:c'<=1073741824)(a3: -1125899906842624<=s)(a4:s<=1125899906842624)(b3: -1125899906842624<=s')(b4:s'<=1125899906842624):
  Calls Tryz.prog 27 #[.agg #[.int .i64 c,.int .i64 s,.int .i64 lo,.int .i64 hi,.int .i64 t,.int .i64 l],.agg #[.int .i64 c',.int .i64 s',.int .i64 lo',.int .i64 hi',.int .i64 t',.int .i64 l']] w fun e w'=>e=.returned (.agg #[.int .i64 (c+c'),.int .i64 (s+s'),.int .i64 (mn lo lo'),.int .i64 (mx hi hi'),.int .i64 (pk (ltr t l t' l') t t'),.int .i64 (pk (ltr t l t' l') l l')])/\Below w.heap.size w w':=by
 by_cases hl:ltr t l t' l'=true
 ·rw[pk_t t t' hl,pk_t l l' hl]
  go_enter Tryz.func27,Tryz.ntmps27
  go_wp2_with (first|(go_at_call 43;refine(qms _ _ _ _ _ _ _ _ _ _ _ _ _ hl).mono ?_;rintro e w1 ⟨rfl,hb1⟩;obtain⟨hc1,hf1⟩:=gW hb1;obtain⟨hz1,hz2,hz3⟩:=sz3 hb1))
  all_goals
   first
   |exact bodyPost_ret (v:=.agg #[.int .i64 (c+c'),.int .i64 (s+s'),.int .i64 lo,.int .i64 hi,.int .i64 t,.int .i64 l]) (by simp[results,Tryz.results27,go_sem,hc1,hz3]) rfl ⟨by rw[mn_l (show lo<=lo' by omega),mx_l (show hi'<=hi by omega)],(set6 ((Below.refl _ _).alloc (Nat.le_refl _) _ |>.alloc (by simp) _ |>.alloc (by simp;omega) _ |>.trans (hb1.mono (by simp;omega))) (by omega) _ _ _ _ _ _).alloc (by simp;omega) _⟩
   |exact bodyPost_ret (v:=.agg #[.int .i64 (c+c'),.int .i64 (s+s'),.int .i64 lo,.int .i64 hi',.int .i64 t,.int .i64 l]) (by simp[results,Tryz.results27,go_sem,hc1,hz3]) rfl ⟨by rw[mn_l (show lo<=lo' by omega),mx_r (show hi<=hi' by omega)],(set6 ((Below.refl _ _).alloc (Nat.le_refl _) _ |>.alloc (by simp) _ |>.alloc (by simp;omega) _ |>.trans (hb1.mono (by simp;omega))) (by omega) _ _ _ _ _ _).alloc (by simp;omega) _⟩
   |exact bodyPost_ret (v:=.agg #[.int .i64 (c+c'),.int .i64 (s+s'),.int .i64 lo',.int .i64 hi,.int .i64 t,.int .i64 l]) (by simp[results,Tryz.results27,go_sem,hc1,hz3]) rfl ⟨by rw[mn_r (show lo'<=lo by omega),mx_l (show hi'<=hi by omega)],(set6 ((Below.refl _ _).alloc (Nat.le_refl _) _ |>.alloc (by simp) _ |>.alloc (by simp;omega) _ |>.trans (hb1.mono (by simp;omega))) (by omega) _ _ _ _ _ _).alloc (by simp;omega) _⟩
   |exact bodyPost_ret (v:=.agg #[.int .i64 (c+c'),.int .i64 (s+s'),.int .i64 lo',.int .i64 hi',.int .i64 t,.int .i64 l]) (by simp[results,Tryz.results27,go_sem,hc1,hz3]) rfl ⟨by rw[mn_r (show lo'<=lo by omega),mx_r (show hi<=hi' by omega)],(set6 ((Below.refl _ _).alloc (Nat.le_refl _) _ |>.alloc (by simp) _ |>.alloc (by simp;omega) _ |>.trans (hb1.mono (by simp;omega))) (by omega) _ _ _ _ _ _).alloc (by simp;omega) _⟩
 ·have hl:ltr t l t' l'=false:=by simpa using hl
  rw[pk_f t t' hl,pk_f l l' hl]
  go_enter Tryz.func27,Tryz.ntmps27
  go_wp2_with (first|(go_at_call 43;refine(qmm _ _ _ _ _ _ _ _ _ _ _ _ _ hl).mono ?_;rintro e w1 ⟨rfl,hb1⟩;obtain⟨hc1,hf1⟩:=gW hb1;obtain⟨hz1,hz2,hz3⟩:=sz3 hb1))
  all_goals
   first
   |exact bodyPost_ret (v:=.agg #[.int .i64 (c+c'),.int .i64 (s+s'),.int .i64 lo,.int .i64 hi,.int .i64 t',.int .i64 l']) (by simp[results,Tryz.results27,go_sem,hc1,hz3]) rfl ⟨by rw[mn_l (show lo<=lo' by omega),mx_l (show hi'<=hi by omega)],(set6 ((Below.refl _ _).alloc (Nat.le_refl _) _ |>.alloc (by simp) _ |>.alloc (by simp;omega) _ |>.trans (hb1.mono (by simp;omega))) (by omega) _ _ _ _ _ _).alloc (by simp;omega) _⟩
   |exact bodyPost_ret (v:=.agg #[.int .i64 (c+c'),.int .i64 (s+s'),.int .i64 lo,.int .i64 hi',.int .i64 t',.int .i64 l']) (by simp[results,Tryz.results27,go_sem,hc1,hz3]) rfl ⟨by rw[mn_l (show lo<=lo' by omega),mx_r (show hi<=hi' by omega)],(set6 ((Below.refl _ _).alloc (Nat.le_refl _) _ |>.alloc (by simp) _ |>.alloc (by simp;omega) _ |>.trans (hb1.mono (by simp;omega))) (by omega) _ _ _ _ _ _).alloc (by simp;omega) _⟩
   |exact bodyPost_ret (v:=.agg #[.int .i64 (c+c'),.int .i64 (s+s'),.int .i64 lo',.int .i64 hi,.int .i64 t',.int .i64 l']) (by simp[results,Tryz.results27,go_sem,hc1,hz3]) rfl ⟨by rw[mn_r (show lo'<=lo by omega),mx_l (show hi'<=hi by omega)],(set6 ((Below.refl _ _).alloc (Nat.le_refl _) _ |>.alloc (by simp) _ |>.alloc (by simp;omega) _ |>.trans (hb1.mono (by simp;omega))) (by omega) _ _ _ _ _ _).alloc (by simp;omega) _⟩
   |exact bodyPost_ret (v:=.agg #[.int .i64 (c+c'),.int .i64 (s+s'),.int .i64 lo',.int .i64 hi',.int .i64 t',.int .i64 l']) (by simp[results,Tryz.results27,go_sem,hc1,hz3]) rfl ⟨by rw[mn_r (show lo'<=lo by omega),mx_r (show hi<=hi' by omega)],(set6 ((Below.refl _ _).alloc (Nat.le_refl _) _ |>.alloc (by simp) _ |>.alloc (by simp;omega) _ |>.trans (hb1.mono (by simp;omega))) (by omega) _ _ _ _ _ _).alloc (by simp;omega) _⟩

set_option maxHeartbeats 1000000 in
theorem qe1(c s lo hi t l c' s' lo' hi' t' l':Int)(w:World)(h:(bU c s lo hi t l != 0)=true):
  Calls Tryz.prog 15 #[.agg #[.int .i64 c,.int .i64 s,.int .i64 lo,.int .i64 hi,.int .i64 t,.int .i64 l],.agg #[.int .i64 c',.int .i64 s',.int .i64 lo',.int .i64 hi',.int .i64 t',.int .i64 l']] w fun e w'=>e=.returned (.tuple #[.agg #[.int .i64 0,.int .i64 0,.int .i64 0,.int .i64 0,.int .i64 0,.int .i64 0],.int .i64 (bU c s lo hi t l)])/\Below w.heap.size w w':=by
 go_enter Tryz.func15,Tryz.ntmps15
 go_wp2_with (first|(go_at_call 26;refine(iF _ _ _ _ _ _ _).mono ?_;rintro e w1 ⟨rfl,hb1⟩;obtain⟨hc1,hf1⟩:=gW hb1;obtain⟨hz1,hz2,hz3⟩:=sz3 hb1))
 exact bodyPost_ret (v:=.tuple #[.agg #[.int .i64 0,.int .i64 0,.int .i64 0,.int .i64 0,.int .i64 0,.int .i64 0],.int .i64 (bU c s lo hi t l)]) (by simp[results,Tryz.results15,go_sem,hc1]) rfl ⟨rfl,set6 (up3 hb1) (by omega) _ _ _ _ _ _⟩

set_option maxHeartbeats 1000000 in
theorem qdp(c s lo hi t l c' s' lo' hi' t' l':Int)(w:World)(h0:bU c s lo hi t l=0)(h:(bU c' s' lo' hi' t' l' != 0)=true):
  Calls Tryz.prog 15 #[.agg #[.int .i64 c,.int .i64 s,.int .i64 lo,.int .i64 hi,.int .i64 t,.int .i64 l],.agg #[.int .i64 c',.int .i64 s',.int .i64 lo',.int .i64 hi',.int .i64 t',.int .i64 l']] w fun e w'=>e=.returned (.tuple #[.agg #[.int .i64 0,.int .i64 0,.int .i64 0,.int .i64 0,.int .i64 0,.int .i64 0],.int .i64 (bU c' s' lo' hi' t' l')])/\Below w.heap.size w w':=by
 go_enter Tryz.func15,Tryz.ntmps15
 go_wp2_with fail;refine(iF _ _ _ _ _ _ _).mono ?_;rintro e w1 ⟨rfl,hb1⟩;obtain⟨hc1,hf1⟩:=gW hb1;obtain⟨hz1,hz2,hz3⟩:=sz3 hb1;have hy1:=hb1.size;go_wp2_with fail;refine(iF _ _ _ _ _ _ _).mono ?_;rintro e w2 ⟨rfl,hb2⟩;obtain⟨hc2,hf2⟩:=gW hb2;go_wp2;exact bodyPost_ret (v:=.tuple #[.agg #[.int .i64 0,.int .i64 0,.int .i64 0,.int .i64 0,.int .i64 0,.int .i64 0],.int .i64 (bU c' s' lo' hi' t' l')]) (by simp[results,Tryz.results15,go_sem,hc1,hc2,hz3]) rfl ⟨rfl,set6 (up (up3 hb1) hb2) (by omega) _ _ _ _ _ _⟩

set_option maxHeartbeats 1000000 in
theorem q9z(s lo hi t l c' s' lo' hi' t' l':Int)(w:World)(h0:bU 0 s lo hi t l=0)(h:bU c' s' lo' hi' t' l'=0):
  Calls Tryz.prog 15 #[.agg #[.int .i64 0,.int .i64 s,.int .i64 lo,.int .i64 hi,.int .i64 t,.int .i64 l],.agg #[.int .i64 c',.int .i64 s',.int .i64 lo',.int .i64 hi',.int .i64 t',.int .i64 l']] w fun e w'=>e=.returned (.tuple #[.agg #[.int .i64 c',.int .i64 s',.int .i64 lo',.int .i64 hi',.int .i64 t',.int .i64 l'],.int .i64 0])/\Below w.heap.size w w':=by
 go_enter Tryz.func15,Tryz.ntmps15
 go_wp2_with fail;refine(iF _ _ _ _ _ _ _).mono ?_;rintro e w1 ⟨rfl,hb1⟩;obtain⟨hc1,hf1⟩:=gW hb1;obtain⟨hz1,hz2,hz3⟩:=sz3 hb1;have hy1:=hb1.size;go_wp2_with fail;refine(iF _ _ _ _ _ _ _).mono ?_;rintro e w2 ⟨rfl,hb2⟩;obtain⟨hc2,hf2⟩:=gW hb2;go_wp2;exact bodyPost_ret (v:=.tuple #[.agg #[.int .i64 c',.int .i64 s',.int .i64 lo',.int .i64 hi',.int .i64 t',.int .i64 l'],.int .i64 0]) (by simp[results,Tryz.results15,go_sem,hc1,hc2,hz3]) rfl ⟨rfl,set6 (up (up3 hb1) hb2) (by omega) _ _ _ _ _ _⟩

set_option maxHeartbeats 1000000 in
theorem q9f(c s lo hi t l s' lo' hi' t' l':Int)(w:World)(h0:bU c s lo hi t l=0)(h:bU 0 s' lo' hi' t' l'=0)(hn:(c==0)=false):
  Calls Tryz.prog 15 #[.agg #[.int .i64 c,.int .i64 s,.int .i64 lo,.int .i64 hi,.int .i64 t,.int .i64 l],.agg #[.int .i64 0,.int .i64 s',.int .i64 lo',.int .i64 hi',.int .i64 t',.int .i64 l']] w fun e w'=>e=.returned (.tuple #[.agg #[.int .i64 c,.int .i64 s,.int .i64 lo,.int .i64 hi,.int .i64 t,.int .i64 l],.int .i64 0])/\Below w.heap.size w w':=by
 go_enter Tryz.func15,Tryz.ntmps15
 go_wp2_with fail;refine(iF _ _ _ _ _ _ _).mono ?_;rintro e w1 ⟨rfl,hb1⟩;obtain⟨hc1,hf1⟩:=gW hb1;obtain⟨hz1,hz2,hz3⟩:=sz3 hb1;have hy1:=hb1.size;go_wp2_with fail;refine(iF _ _ _ _ _ _ _).mono ?_;rintro e w2 ⟨rfl,hb2⟩;obtain⟨hc2,hf2⟩:=gW hb2;go_wp2;exact bodyPost_ret (v:=.tuple #[.agg #[.int .i64 c,.int .i64 s,.int .i64 lo,.int .i64 hi,.int .i64 t,.int .i64 l],.int .i64 0]) (by simp[results,Tryz.results15,go_sem,hc1,hc2,hz3]) rfl ⟨rfl,set6 (up (up3 hb1) hb2) (by omega) _ _ _ _ _ _⟩

theorem kT{c s lo hi t l:Int}(h:bU c s lo hi t l=0):(0<=c/\c<=1073741824)/\(-1125899906842624<=s/\s<=1125899906842624)/\(0<=t/\t<=1048575)/\(-1000000<=lo/\lo<=1000000)/\(-1000000<=hi/\hi<=1000000)/\(-1000000<=l/\l<=1000000):=by
 unfold bU at h
 by_cases hb:lD c s lo hi t l=true
 ·simp only[lD,Bool.and_eq_true,gI] at hb;obtain⟨⟨⟨⟨⟨h1,h2⟩,h3⟩,h4⟩,h5⟩,h6⟩:=hb;exact⟨h1,h2,h3,h4,h5,h6⟩
 ·rw[if_neg hb] at h;omega

set_option maxHeartbeats 1000000 in
theorem qjv(c s lo hi t l c' s' lo' hi' t' l':Int)(w:World)(h0:bU c s lo hi t l=0)(h:bU c' s' lo' hi' t' l'=0)(hn:(c==0)=false)(hn':(c'==0)=false)(k1:inB (c+c') 0 1073741824=true)(k2:inB (s+s') (-1125899906842624) 1125899906842624=true):
  Calls Tryz.prog 15 #[.agg #[.int .i64 c,.int .i64 s,.int .i64 lo,.int .i64 hi,.int .i64 t,.int .i64 l],.agg #[.int .i64 c',.int .i64 s',.int .i64 lo',.int .i64 hi',.int .i64 t',.int .i64 l']] w fun e w'=>e=.returned (.tuple #[.agg #[.int .i64 (c+c'),.int .i64 (s+s'),.int .i64 (mn lo lo'),.int .i64 (mx hi hi'),.int .i64 (pk (ltr t l t' l') t t'),.int .i64 (pk (ltr t l t' l') l l')],.int .i64 0])/\Below w.heap.size w w':=by
 obtain⟨⟨a1,a2⟩,⟨a3,a4⟩,_⟩:=kT h0;obtain⟨⟨b1,b2⟩,⟨b3,b4⟩,_⟩:=kT h
 go_enter Tryz.func15,Tryz.ntmps15
 go_wp2_with fail;refine(iF _ _ _ _ _ _ _).mono ?_;rintro e w1 ⟨rfl,hb1⟩;obtain⟨hc1,hf1⟩:=gW hb1;obtain⟨hz1,hz2,hz3⟩:=sz3 hb1;have hy1:=hb1.size;go_wp2_with fail;refine(iF _ _ _ _ _ _ _).mono ?_;rintro e w2 ⟨rfl,hb2⟩;obtain⟨hc2,hf2⟩:=gW hb2;have hy2:=hb2.size;go_wp2_with fail;refine(zF _ _ _ _ _ _ _ _ _ _ _ _ _ a1 a2 b1 b2 a3 a4 b3 b4).mono ?_;rintro e w3 ⟨rfl,hb3⟩;obtain⟨hc3,hf3⟩:=gW hb3;have hy3:=hb3.size;have hx2:w.heap.size+2<w2.heap.size:=by omega
 have hx3:w.heap.size+2<w3.heap.size:=by omega
 go_wp2_with (first|(go_at_call 28;refine(wQ _ _).mono ?_;rintro e w' ⟨rfl,rfl⟩)|(go_at_call 29;refine(xQ _ _).mono ?_;rintro e w' ⟨rfl,rfl⟩))
 exact bodyPost_ret (v:=.tuple #[.agg #[.int .i64 (c+c'),.int .i64 (s+s'),.int .i64 (mn lo lo'),.int .i64 (mx hi hi'),.int .i64 (pk (ltr t l t' l') t t'),.int .i64 (pk (ltr t l t' l') l l')],.int .i64 0]) (by simp[results,Tryz.results15,go_sem,hc1,hc2,hc3,hz3,hx2,hx3]) rfl ⟨rfl,(set6 (up (up (up3 hb1) hb2) hb3) (by omega) _ _ _ _ _ _).alloc (by simp;omega) _⟩

set_option maxHeartbeats 1000000 in
theorem qdq(c s lo hi t l c' s' lo' hi' t' l':Int)(w:World)(h0:bU c s lo hi t l=0)(h:bU c' s' lo' hi' t' l'=0)(hn:(c==0)=false)(hn':(c'==0)=false)(k1:inB (c+c') 0 1073741824=false):
  Calls Tryz.prog 15 #[.agg #[.int .i64 c,.int .i64 s,.int .i64 lo,.int .i64 hi,.int .i64 t,.int .i64 l],.agg #[.int .i64 c',.int .i64 s',.int .i64 lo',.int .i64 hi',.int .i64 t',.int .i64 l']] w fun e w'=>e=.returned (.tuple #[.agg #[.int .i64 0,.int .i64 0,.int .i64 0,.int .i64 0,.int .i64 0,.int .i64 0],.int .i64 1])/\Below w.heap.size w w':=by
 obtain⟨⟨a1,a2⟩,⟨a3,a4⟩,_⟩:=kT h0;obtain⟨⟨b1,b2⟩,⟨b3,b4⟩,_⟩:=kT h
 go_enter Tryz.func15,Tryz.ntmps15
 go_wp2_with fail;refine(iF _ _ _ _ _ _ _).mono ?_;rintro e w1 ⟨rfl,hb1⟩;obtain⟨hc1,hf1⟩:=gW hb1;obtain⟨hz1,hz2,hz3⟩:=sz3 hb1;have hy1:=hb1.size;go_wp2_with fail;refine(iF _ _ _ _ _ _ _).mono ?_;rintro e w2 ⟨rfl,hb2⟩;obtain⟨hc2,hf2⟩:=gW hb2;have hy2:=hb2.size;go_wp2_with fail;refine(zF _ _ _ _ _ _ _ _ _ _ _ _ _ a1 a2 b1 b2 a3 a4 b3 b4).mono ?_;rintro e w3 ⟨rfl,hb3⟩;obtain⟨hc3,hf3⟩:=gW hb3;have hy3:=hb3.size;have hx2:w.heap.size+2<w2.heap.size:=by omega
 have hx3:w.heap.size+2<w3.heap.size:=by omega
 go_wp2_with (first|(go_at_call 28;refine(wQ _ _).mono ?_;rintro e w' ⟨rfl,rfl⟩)|(go_at_call 29;refine(xQ _ _).mono ?_;rintro e w' ⟨rfl,rfl⟩))
 exact bodyPost_ret (v:=.tuple #[.agg #[.int .i64 0,.int .i64 0,.int .i64 0,.int .i64 0,.int .i64 0,.int .i64 0],.int .i64 1]) (by simp[results,Tryz.results15,go_sem,hc1,hc2,hc3,hz3,hx2,hx3]) rfl ⟨rfl,(set6 (up (up (up3 hb1) hb2) hb3) (by omega) _ _ _ _ _ _).alloc (by simp;omega) _⟩

set_option maxHeartbeats 1000000 in
theorem qd6(c s lo hi t l c' s' lo' hi' t' l':Int)(w:World)(h0:bU c s lo hi t l=0)(h:bU c' s' lo' hi' t' l'=0)(hn:(c==0)=false)(hn':(c'==0)=false)(k1:inB (c+c') 0 1073741824=true)(k2:inB (s+s') (-1125899906842624) 1125899906842624=false):
  Calls Tryz.prog 15 #[.agg #[.int .i64 c,.int .i64 s,.int .i64 lo,.int .i64 hi,.int .i64 t,.int .i64 l],.agg #[.int .i64 c',.int .i64 s',.int .i64 lo',.int .i64 hi',.int .i64 t',.int .i64 l']] w fun e w'=>e=.returned (.tuple #[.agg #[.int .i64 0,.int .i64 0,.int .i64 0,.int .i64 0,.int .i64 0,.int .i64 0],.int .i64 1])/\Below w.heap.size w w':=by
 obtain⟨⟨a1,a2⟩,⟨a3,a4⟩,_⟩:=kT h0;obtain⟨⟨b1,b2⟩,⟨b3,b4⟩,_⟩:=kT h
 go_enter Tryz.func15,Tryz.ntmps15
 go_wp2_with fail;refine(iF _ _ _ _ _ _ _).mono ?_;rintro e w1 ⟨rfl,hb1⟩;obtain⟨hc1,hf1⟩:=gW hb1;obtain⟨hz1,hz2,hz3⟩:=sz3 hb1;have hy1:=hb1.size;go_wp2_with fail;refine(iF _ _ _ _ _ _ _).mono ?_;rintro e w2 ⟨rfl,hb2⟩;obtain⟨hc2,hf2⟩:=gW hb2;have hy2:=hb2.size;go_wp2_with fail;refine(zF _ _ _ _ _ _ _ _ _ _ _ _ _ a1 a2 b1 b2 a3 a4 b3 b4).mono ?_;rintro e w3 ⟨rfl,hb3⟩;obtain⟨hc3,hf3⟩:=gW hb3;have hy3:=hb3.size;have hx2:w.heap.size+2<w2.heap.size:=by omega
 have hx3:w.heap.size+2<w3.heap.size:=by omega
 go_wp2_with (first|(go_at_call 28;refine(wQ _ _).mono ?_;rintro e w' ⟨rfl,rfl⟩)|(go_at_call 29;refine(xQ _ _).mono ?_;rintro e w' ⟨rfl,rfl⟩))
 exact bodyPost_ret (v:=.tuple #[.agg #[.int .i64 0,.int .i64 0,.int .i64 0,.int .i64 0,.int .i64 0,.int .i64 0],.int .i64 1]) (by simp[results,Tryz.results15,go_sem,hc1,hc2,hc3,hz3,hx2,hx3]) rfl ⟨rfl,(set6 (up (up (up3 hb1) hb2) hb3) (by omega) _ _ _ _ _ _).alloc (by simp;omega) _⟩

structure Ru where
 c:Int
 s:Int
 lo:Int
 hi:Int
 t:Int
 l:Int

def chk(r:Ru):Int:=bU r.c r.s r.lo r.hi r.t r.l
def zro:Ru:=⟨0,0,0,0,0,0⟩
def jn(a b:Ru):Ru:=⟨a.c+b.c,a.s+b.s,mn a.lo b.lo,mx a.hi b.hi,pk (ltr a.t a.l b.t b.l) a.t b.t,pk (ltr a.t a.l b.t b.l) a.l b.l⟩
def mrg(a b:Ru):Ru × Int:=
 if chk a≠0 then(zro,chk a) else if chk b≠0 then(zro,chk b) else if a.c=0 then(b,0) else if b.c=0 then(a,0)
 else if a.c+b.c<=1073741824/\inB (a.s+b.s) (-1125899906842624) 1125899906842624=true then(jn a b,0) else(zro,1)

theorem qrk{a b:Ru}(h:chk a≠0):mrg a b=(zro,chk a):=by unfold mrg;rw[if_pos h]
theorem qrx{a b:Ru}(h:chk a=0)(h':chk b≠0):mrg a b=(zro,chk b):=by unfold mrg;rw[if_neg (by simpa using h),if_pos h']
theorem qpg{a b:Ru}(h:chk a=0)(h':chk b=0)(e:a.c=0):mrg a b=(b,0):=by unfold mrg;rw[if_neg (by simpa using h),if_neg (by simpa using h'),if_pos e]
theorem qrm{a b:Ru}(h:chk a=0)(h':chk b=0)(e:¬a.c=0)(e':b.c=0):mrg a b=(a,0):=by unfold mrg;rw[if_neg (by simpa using h),if_neg (by simpa using h'),if_neg e,if_pos e']
theorem qpl{a b:Ru}(h:chk a=0)(h':chk b=0)(e:¬a.c=0)(e':¬b.c=0)(k:a.c+b.c<=1073741824)(k':inB (a.s+b.s) (-1125899906842624) 1125899906842624=true):mrg a b=(jn a b,0):=by
 unfold mrg;rw[if_neg (by simpa using h),if_neg (by simpa using h'),if_neg e,if_neg e',if_pos ⟨k,k'⟩]
theorem qow{a b:Ru}(h:chk a=0)(h':chk b=0)(e:¬a.c=0)(e':¬b.c=0)(k:¬(a.c+b.c<=1073741824/\inB (a.s+b.s) (-1125899906842624) 1125899906842624=true)):mrg a b=(zro,1):=by
 unfold mrg;rw[if_neg (by simpa using h),if_neg (by simpa using h'),if_neg e,if_neg e',if_neg k]
theorem qsj{a b:Ru}(h:chk a=0)(h':chk b=0)(e:a.c=0)(e':b.c=0):a=b:=by
 have key:∀r:Ru,chk r=0->r.c=0->r=zro:=by
  intro r hr hc;obtain⟨c,s,lo,hi,t,l⟩:=r;simp only at hc;subst hc;simp only[chk,bU] at hr
  by_cases hb:lD 0 s lo hi t l=true
  ·rw[if_pos hb] at hr
   by_cases hf:jC 0 s lo hi t l=true
   ·simp[jC,eqR] at hf;obtain⟨⟨⟨⟨rfl,rfl⟩,rfl⟩,rfl⟩,rfl⟩:=hf
    rfl
   ·rw[if_neg hf] at hr;omega
  ·rw[if_neg hb] at hr;omega
 rw[key a h e,key b h' e']

theorem qlw{x:Int}(h:x≠0):(x != 0)=true:=by simpa using h
theorem qE{x:Int}(h:x≠0):(x==0)=false:=by simpa using h

theorem oG(a b:Ru)(w:World):
  Calls Tryz.prog 15 #[.agg #[.int .i64 a.c,.int .i64 a.s,.int .i64 a.lo,.int .i64 a.hi,.int .i64 a.t,.int .i64 a.l],.agg #[.int .i64 b.c,.int .i64 b.s,.int .i64 b.lo,.int .i64 b.hi,.int .i64 b.t,.int .i64 b.l]] w fun e w'=>e=.returned (.tuple #[.agg #[.int .i64 (mrg a b).1.c,.int .i64 (mrg a b).1.s,.int .i64 (mrg a b).1.lo,.int .i64 (mrg a b).1.hi,.int .i64 (mrg a b).1.t,.int .i64 (mrg a b).1.l],.int .i64 (mrg a b).2])/\Below w.heap.size w w':=by
 by_cases h1:chk a=0
 ·by_cases h2:chk b=0
  ·by_cases e1:a.c=0
   ·rw[qpg h1 h2 e1];obtain⟨c,s,lo,hi,t,l⟩:=a;simp only at e1;subst e1;exact q9z _ _ _ _ _ _ _ _ _ _ _ _ h1 h2
   ·by_cases e2:b.c=0
    ·rw[qrm h1 h2 e1 e2];obtain⟨c,s,lo,hi,t,l⟩:=b;simp only at e2;subst e2;exact q9f _ _ _ _ _ _ _ _ _ _ _ _ h1 h2 (qE e1)
    ·obtain⟨⟨a1,_⟩,_⟩:=kT h1;obtain⟨⟨b1,_⟩,_⟩:=kT h2
     by_cases k1:a.c+b.c<=1073741824
     ·have k1':inB (a.c+b.c) 0 1073741824=true:=(gI _ _ _).2 ⟨by omega,k1⟩
      by_cases k2:inB (a.s+b.s) (-1125899906842624) 1125899906842624=true
      ·rw[qpl h1 h2 e1 e2 k1 k2];exact qjv _ _ _ _ _ _ _ _ _ _ _ _ _ h1 h2 (qE e1) (qE e2) k1' k2
      ·rw[qow h1 h2 e1 e2 (fun h=>k2 h.2)]
       exact qd6 _ _ _ _ _ _ _ _ _ _ _ _ _ h1 h2 (qE e1) (qE e2) k1' (by simpa using k2)
     ·rw[qow h1 h2 e1 e2 (fun h=>k1 h.1)]
      exact qdq _ _ _ _ _ _ _ _ _ _ _ _ _ h1 h2 (qE e1) (qE e2) ((qhm _ _ _).2 (Or.inr (by omega)))
  ·rw[qrx h1 h2];exact qdp _ _ _ _ _ _ _ _ _ _ _ _ _ h1 (qlw h2)
 ·rw[qrk h1];exact qe1 _ _ _ _ _ _ _ _ _ _ _ _ _ (qlw h1)

theorem w64(n:Int)(h: -9223372036854775808<=n/\n<=9223372036854775807):wrap64 n=n:=by unfold wrap64;omega

theorem rX{c x:Int}(h1:0<=c)(h2:c<=1073741824)(h3: -1000000<=x)(h4:x<=1000000): -1073741824000000<=c*x/\c*x<=1073741824000000:=by
 have a:=Int.mul_le_mul_of_nonneg_left h3 h1;have b:=Int.mul_le_mul_of_nonneg_left h4 h1;omega

theorem qlk{r:Ru}(h1:0<r.c)(h2:r.c<=1073741824)(ht:0<=r.t/\r.t<=1048575)(hlo: -1000000<=r.lo)(hhi:r.hi<=1000000)(hl:r.lo<=r.l/\r.l<=r.hi)(hs:r.c*r.lo<=r.s/\r.s<=r.c*r.hi):chk r=0:=by
 have m1:=rX (x:=r.lo) (by omega) h2 hlo (by omega)
 have m2:=rX (x:=r.hi) (by omega) h2 (by omega) hhi
 have hb:lD r.c r.s r.lo r.hi r.t r.l=true:=by
  simp only[lD,Bool.and_eq_true,gI];omega
 have hf:jC r.c r.s r.lo r.hi r.t r.l=true:=by
  unfold jC;rw[if_neg (by omega),w64 _ (by omega),w64 _ (by omega)]
  simp only[Bool.and_eq_true,gI];omega
 simp[chk,bU,hb,hf]

theorem qn1:chk zro=0:=by simp[chk,bU,zro,lD,jC,eqR,inB]

def one(t v:Int):Ru:=⟨1,v,v,v,t,v⟩
theorem qoh{t v:Int}(ht:0<=t/\t<=1048575)(hv: -1000000<=v/\v<=1000000):chk (one t v)=0:=
 qlk (by simp[one]) (by simp[one]) ht hv.1 hv.2 (by simp[one]) (by simp[one])

end
end Go.Proofs.YtlojfgdpmaigmagGreatDoor

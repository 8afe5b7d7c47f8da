/- Names of series: base.Name, and the document's NameMay. -/
import Derived.Test.YtndojgeodmddoadDoorWalks
import Derived.Test.YtndojgeodmddoadDoorBringPure
import Derived.Test.YtndojgeodmddoadDoorWalkAid
import Derived.Test.YtndojgeodmddoadDoorMAlls
import Derived.Lib.SlicesS
import Derived.BigQuiet
import Derived.Deep.RegionHeld3
import Derived.Deep.DeepCutAuto
import Derived.Test.YtndojgeodmddoadDoorOpenBase
import Derived.Test.YtndojgeodmddoadDoorLays
import Derived.Shelf.Slices.Turned
import Derived.Test.YtndojgeodmddoadDoorTie
import Derived.Test.YtndojgeodmddoadDoorCards
import Derived.SevenTiedAt
import Derived.OpenVars
import Derived.OpenShut
import Derived.LaidMore
import Derived.Lay
import Derived.LaidOnce
namespace Go.Proofs.YtndojgeodmddoadDoor
open Go.RowKit Plain

/-- May a byte be in a name? -/
def chB (c : Int) : Bool := inB c 97 122 || inB c 48 57 || decide (c = 46)
/-- May a text be a name? -/
def nameB (s : ByteArray) : Bool := inB s.size 1 10 && s.data.toList.all fun c => chB c.toNat

theorem bytes_all (s : ByteArray) (f : UInt8 → Bool) : s.data.toList.all f = true ↔ ∀ j (hj : j < s.size), f s[j] = true := by
  rw [List.all_eq_true]
  constructor
  · intro h j hj
    exact h _ (by rw [ByteArray.getElem_eq_getElem_data]; simp)
  · intro h x hx
    obtain ⟨j, hj, rfl⟩ := List.getElem_of_mem hx
    have := h j (by simpa using hj)
    rw [ByteArray.getElem_eq_getElem_data] at this
    simpa using this

theorem name_yes {s : ByteArray} (h : inB s.size 1 10 = true) (ha : ∀ j (hj : j < s.size), j < s.size → chB s[j].toNat = true) : nameB s = true := by
  unfold nameB
  rw [h, Bool.true_and, bytes_all]
  exact fun j hj => ha j hj hj

theorem name_no {s : ByteArray} {k : Nat} (hk : k < s.size) (hc : chB s[k].toNat = false) : nameB s = false := by
  cases hn : nameB s with
  | false => rfl
  | true =>
    unfold nameB at hn
    rw [Bool.and_eq_true, bytes_all] at hn
    have := hn.2 k hk
    rw [hc] at this
    cases this

theorem name_size {s : ByteArray} (h : inB s.size 1 10 = false) : nameB s = false := by
  unfold nameB
  rw [h, Bool.false_and]

theorem inName_any (c : Int) (w : World) : Calls Tryd.prog 49 #[.int .u8 c] w fun e w' => e = .returned (.bool (chB c)) ∧ w' = w := by
  unfold chB inB
  by_cases h1 : 97 ≤ c <;> by_cases h2 : c ≤ 122 <;> by_cases h3 : 48 ≤ c <;> by_cases h4 : c ≤ 57 <;> by_cases h5 : c = 46 <;>
  · have h5' : (c == 46) = decide (c = 46) := rfl
    go_enter Tryd.func49, Tryd.ntmps49
    go_wp2
    go_ret
    exact ⟨by simp [*], rfl⟩

/-- The first k bytes may be in a name. -/
def Upto (s : ByteArray) (k : Nat) : Prop := ∀ j (hj : j < s.size), j < k → chB s[j].toNat = true

theorem Upto.next {s : ByteArray} {k : Nat} (h : Upto s k) (hk : k < s.size) (hc : chB s[k].toNat = true) : Upto s (k + 1) := fun j hj hjk => by
  by_cases e : j = k
  · subst e
    exact hc
  · exact h j hj (by omega)

set_option maxRecDepth 20000 in
set_option maxHeartbeats 4000000 in
theorem name_any (s : ByteArray) (w : World) : Calls Tryd.prog 35 #[.string s] w fun e w' => e = .returned (.bool (nameB s)) ∧ w' = w := by
  obtain ⟨nb, hnb⟩ : ∃ nb, nb = nameB s := ⟨_, rfl⟩
  have HN : Hid (nb = nameB s) := hnb
  rw [← hnb]
  clear hnb
  by_cases h : inB s.size 1 10 = true
  · have h' := (inB_iff _ _ _).1 h
    have hd1 : decide ((s.size : Int) < 1) = false := by simp; omega
    have hd2 : decide (10 < (s.size : Int)) = false := by simp; omega
    go_enter Tryd.func35, Tryd.ntmps35
    go_wp2_with fail
    go_loopw [14] (fun vi wr => ∃ k : Nat, k ≤ s.size ∧ vi = .int .i64 k ∧ Hid (Upto s k) ∧ wr = w) (fun vi _ => s.size - (intOf vi).toNat)
    case atStart => exact ⟨0, Nat.zero_le _, rfl, (fun j _ hj => by omega), rfl⟩
    case round =>
      obtain ⟨k, hk, rfl, HA, hw⟩ := hrel
      subst hw
      by_cases hlt : k < s.size
      · by_cases hc : chB s[k].toNat = true
        · have HB : Hid (Upto s (k + 1)) := HA.out.next hlt hc
          go_wp2_with (go_at_call 49; refine (inName_any _ _).mono ?_; rintro e w1 ⟨rfl, hw1⟩; subst w1)
          exact ⟨⟨k + 1, hlt, by go_num, HB, by trivial⟩, by simp only [intOf]; omega⟩
        · have hc' : chB s[k].toNat = false := by simpa using hc
          have HF : Hid (nb = false) := HN.out.trans (name_no hlt hc')
          clear hc
          go_wp2_with (go_at_call 49; refine (inName_any _ _).mono ?_; rintro e w1 ⟨rfl, hw1⟩; subst w1)
          go_ret
          exact ⟨by rw [HF.out]; rfl, rfl⟩
      · have HT : Hid (nb = true) := HN.out.trans (name_yes h (fun j hj _ => HA.out j hj (by omega)))
        go_wp2_with fail
        go_ret
        exact ⟨by rw [HT.out]; rfl, rfl⟩
  · have h0 : inB s.size 1 10 = false := by simpa using h
    have HF : Hid (nb = false) := HN.out.trans (name_size h0)
    have h' := (inB_not _ _ _).1 h0
    clear h h0
    rcases h' with h' | h'
    · have h2 : ¬ (10 < (s.size : Int)) := by omega
      go_enter Tryd.func35, Tryd.ntmps35
      go_wp2_with fail
      go_ret
      exact ⟨by rw [HF.out]; rfl, rfl⟩
    · have h2 : ¬ ((s.size : Int) < 1) := by omega
      go_enter Tryd.func35, Tryd.ntmps35
      go_wp2_with fail
      go_ret
      exact ⟨by rw [HF.out]; rfl, rfl⟩

set_option maxRecDepth 20000 in
set_option maxHeartbeats 4000000 in
theorem nameMay_any (s : ByteArray) (w : World) (hs : s.size ≤ maxLen) : Calls Tryd.prog 18 #[.string s] w fun e w' => e = .returned (.bool (nameB s)) ∧ w' = w := by
  obtain ⟨nb, hnb⟩ : ∃ nb, nb = nameB s := ⟨_, rfl⟩
  have HN : Hid (nb = nameB s) := hnb
  rw [← hnb]
  clear hnb
  have hs' : s.size ≤ 9223372036854775807 := hs
  go_enter Tryd.func18, Tryd.ntmps18
  go_wp2_with fail
  go_loopw [3] (fun vi wr => ∃ k : Nat, k ≤ s.size ∧ vi = .int .i64 k ∧ Hid (Upto s k) ∧ wr = w) (fun vi _ => s.size - (intOf vi).toNat)
  case atStart => exact ⟨0, Nat.zero_le _, rfl, (fun j _ hj => by omega), rfl⟩
  case round =>
    obtain ⟨k, hk, rfl, HA, hw⟩ := hrel
    subst hw
    by_cases hlt : k < s.size
    · obtain ⟨c, hc⟩ : ∃ c : Int, c = s[k].toNat := ⟨_, rfl⟩
      have hb : 0 ≤ c ∧ c ≤ 255 := by
        have := s[k].toNat_lt
        omega
      have HB : Hid (chB c = true → Upto s (k + 1)) := fun q => HA.out.next hlt (by rw [← hc]; exact q)
      have HF : Hid (chB c = false → nb = false) := fun q => HN.out.trans (name_no hlt (by rw [← hc]; exact q))
      by_cases h1 : inB c 97 122 = true
      · have H1 : Hid (Upto s (k + 1)) := HB.out (by unfold chB; rw [h1]; rfl)
        rw [hc] at h1
        go_wp2_with (go_at_call 17; refine (in_any _ _ _ _).mono ?_; rintro e w1 ⟨rfl, hw1⟩; subst w1)
        exact ⟨⟨k + 1, hlt, by go_num, H1, by trivial⟩, by simp only [intOf]; omega⟩
      · have h1 : inB c 97 122 = false := by simpa using h1
        by_cases h2 : inB c 48 57 = true
        · have H1 : Hid (Upto s (k + 1)) := HB.out (by unfold chB; rw [h1, h2]; rfl)
          rw [hc] at h1 h2
          go_wp2_with (go_at_call 17; refine (in_any _ _ _ _).mono ?_; rintro e w1 ⟨rfl, hw1⟩; subst w1)
          exact ⟨⟨k + 1, hlt, by go_num, H1, by trivial⟩, by simp only [intOf]; omega⟩
        · have h2 : inB c 48 57 = false := by simpa using h2
          by_cases h3 : c = 46
          · have H1 : Hid (Upto s (k + 1)) := HB.out (by unfold chB; rw [h1, h2, h3]; rfl)
            rw [hc] at h1 h2 h3
            have h3' : ((s[k].toNat : Int) != 46) = false := by simpa using h3
            go_wp2_with (go_at_call 17; refine (in_any _ _ _ _).mono ?_; rintro e w1 ⟨rfl, hw1⟩; subst w1)
            exact ⟨⟨k + 1, hlt, by go_num, H1, by trivial⟩, by simp only [intOf]; omega⟩
          · have H1 : Hid (nb = false) := HF.out (by unfold chB; rw [h1, h2]; simp [h3])
            rw [hc] at h1 h2 h3
            have h3' : ((s[k].toNat : Int) != 46) = true := by simpa using h3
            go_wp2_with (go_at_call 17; refine (in_any _ _ _ _).mono ?_; rintro e w1 ⟨rfl, hw1⟩; subst w1)
            go_ret
            exact ⟨by rw [H1.out]; rfl, rfl⟩
    · have H1 : Hid (nb = inB s.size 1 10) := by
        show _ = _
        rw [HN.out]
        cases h : inB s.size 1 10 with
        | true => exact name_yes h (fun j hj _ => HA.out j hj (by omega))
        | false => exact name_size h
      go_wp2_with (go_at_call 17; refine (in_any _ _ _ _).mono ?_; rintro e w1 ⟨rfl, hw1⟩; subst w1)
      go_ret
      exact ⟨by rw [H1.out]; rfl, rfl⟩

end Go.Proofs.YtndojgeodmddoadDoor

/- What a base knows, in plain terms: the document's words and the program's come to the same. -/
namespace Go.Proofs.YtndojgeodmddoadDoor
open Go.RowKit Plain

/-- The place of a series, and the time, in a key. -/
def kp (x : En) : Int := x.key / 1048576
def kt (x : En) : Int := x.key % 1048576
/-- The entry of the bucket in which a time is. -/
def bk (size : Int) (x : En) : En := { x with key := x.key - kt x % size }

def pointB (n f : Int) (x : En) : Bool := decide (kp x < n) && (decide (f ≤ kt x) && decide (x.t = kt x))

/-- What is known of points; none: that may not be. -/
def bookP (ns : List Nd) (r n f : Int) : Option (List En) :=
  if (allP ns r 0 1099511627776).1 = 0 ∧ (allP ns r 0 1099511627776).2.all (pointB n f) = true then some (allP ns r 0 1099511627776).2 else none
def rollP (size : Int) (l : List En) : Option (List En) := allL (l.map (bk size))
def stepB (size : Int) (l : List En) (ns : List Nd) (r : Int) : Bool :=
  match rollP size l with
  | none => false
  | some w => decide ((allP ns r 0 1099511627776).1 = 0) && decide (w = (allP ns r 0 1099511627776).2)
def treesB (n f : Int) (n0 : List Nd) (r0 : Int) (n1 : List Nd) (r1 : Int) (n2 : List Nd) (r2 : Int) : Bool :=
  match bookP n0 r0 n f with
  | none => false
  | some l => stepB 1 l n0 r0 && (stepB 60 l n1 r1 && stepB 3600 l n2 r2)
def okN (ss : List ByteArray) (i : Nat) : Bool := nameB (ss.getD i ByteArray.empty) && !Lib.containsS (ss.take i) (ss.getD i ByteArray.empty)
def namesB (ss : List ByteArray) : Bool := (List.range ss.length).all (okN ss)
def baseB (ss : List ByteArray) (f : Int) (n0 : List Nd) (r0 : Int) (n1 : List Nd) (r1 : Int) (n2 : List Nd) (r2 : Int) : Bool :=
  decide (ss.length ≤ 16) && (inB f 0 1048575 && (decide (f % 3600 = 0) && (namesB ss && treesB ss.length f n0 r0 n1 r1 n2 r2)))

/-! ### What allL makes: keys that rise, and no more than it was given -/

theorem ins_inc {x : En} : ∀ {l r : List En}, (l.Pairwise fun a b => a.key < b.key) → ins l x = some r → (r.Pairwise fun a b => a.key < b.key) ∧ ∀ z ∈ r, z.key = x.key ∨ ∃ y ∈ l, y.key = z.key
  | [], r, _, h => by
    cases h
    exact ⟨by simp, by simp⟩
  | y :: l, r, hp, h => by
    obtain ⟨h1, h2⟩ := List.pairwise_cons.1 hp
    rcases Int.lt_trichotomy x.key y.key with hk | hk | hk
    · rw [ins_lt hk] at h
      cases h
      refine ⟨List.pairwise_cons.2 ⟨fun z hz => ?_, hp⟩, fun z hz => ?_⟩
      · rcases List.mem_cons.1 hz with rfl | hz
        · exact hk
        · have := h1 z hz
          omega
      · rcases List.mem_cons.1 hz with rfl | hz
        · exact .inl rfl
        · exact .inr ⟨z, hz, rfl⟩
    · rw [ins_eq hk.symm] at h
      split at h
      · cases h
        refine ⟨List.pairwise_cons.2 ⟨fun z hz => ?_, h2⟩, fun z hz => ?_⟩
        · rw [mkE_key, hk]
          exact h1 z hz
        · rcases List.mem_cons.1 hz with rfl | hz
          · exact .inl rfl
          · exact .inr ⟨z, List.mem_cons_of_mem _ hz, rfl⟩
      · cases h
    · rw [ins_gt hk] at h
      cases hi : ins l x with
      | none => rw [hi] at h; cases h
      | some r' =>
        rw [hi] at h
        cases h
        obtain ⟨q1, q2⟩ := ins_inc h2 hi
        refine ⟨List.pairwise_cons.2 ⟨fun z hz => ?_, q1⟩, fun z hz => ?_⟩
        · rcases q2 z hz with e | ⟨u, hu, e⟩
          · omega
          · have := h1 u hu
            omega
        · rcases List.mem_cons.1 hz with rfl | hz
          · exact .inr ⟨z, List.mem_cons_self, rfl⟩
          · rcases q2 z hz with e | ⟨u, hu, e⟩
            · exact .inl e
            · exact .inr ⟨u, List.mem_cons_of_mem _ hu, e⟩

theorem allL_inc : ∀ (xs : List En) (o r : List En), (o.Pairwise fun a b => a.key < b.key) → (∀ z ∈ o, Good z.ru) → (∀ z ∈ xs, Good z.ru) → xs.foldl insO (some o) = some r →
    (r.Pairwise fun a b => a.key < b.key) ∧ (∀ z ∈ r, Good z.ru) ∧ ∀ z ∈ r, (∃ y ∈ o, y.key = z.key) ∨ ∃ y ∈ xs, y.key = z.key
  | [], o, r, hp, hg, _, h => by
    cases h
    exact ⟨hp, hg, fun z hz => .inl ⟨z, hz, rfl⟩⟩
  | x :: xs, o, r, hp, hg, hx, h => by
    rw [List.foldl_cons] at h
    cases hi : insO (some o) x with
    | none => rw [hi, fold_none] at h; cases h
    | some o' =>
      rw [hi] at h
      have hi' : ins o x = some o' := hi
      obtain ⟨q1, q2⟩ := ins_inc hp hi'
      obtain ⟨q3, q4⟩ := ins_good (hx x List.mem_cons_self) hg hi'
      obtain ⟨e1, e2, e3⟩ := allL_inc xs o' r q1 q3 (fun z hz => hx z (List.mem_cons_of_mem _ hz)) h
      refine ⟨e1, e2, fun z hz => ?_⟩
      rcases e3 z hz with ⟨y, hy, e⟩ | ⟨y, hy, e⟩
      · rcases q2 y hy with e' | ⟨u, hu, e'⟩
        · exact .inr ⟨x, List.mem_cons_self, by omega⟩
        · exact .inl ⟨u, hu, by omega⟩
      · exact .inr ⟨y, List.mem_cons_of_mem _ hy, e⟩

theorem allL_id : ∀ (xs o : List En), ((o ++ xs).Pairwise fun a b => a.key < b.key) → xs.foldl insO (some o) = some (o ++ xs)
  | [], o, _ => by simp
  | x :: xs, o, hp => by
    have h1 : ∀ z ∈ o, z.key < x.key := fun z hz => (List.pairwise_append.1 hp).2.2 z hz x List.mem_cons_self
    rw [List.foldl_cons, show insO (some o) x = some (o ++ [x]) from ins_end h1, allL_id xs (o ++ [x]) (by simpa using hp)]
    simp

/-- What a tree tells of all its keys. -/
theorem allP_facts {ns : List Nd} {r low high : Int} : ((allP ns r low high).2.Pairwise fun a b => a.key < b.key) ∧ (∀ z ∈ (allP ns r low high).2, Good z.ru) ∧ ∀ z ∈ (allP ns r low high).2, 0 ≤ z.key ∧ z.key < 1099511627776 := by
  unfold allP
  split
  · simp
  · rename_i hc
    have hc' : treeC ns r = 0 := by simpa using hc
    obtain ⟨e1, g1, _⟩ := walk_all (low := low) (high := high) hc'
    rw [← e1]
    cases hA : allL (Wl ns low high 12 r) with
    | none => simp
    | some ys =>
      obtain ⟨q1, q2, q3⟩ := allL_inc _ [] ys (by simp) (by simp) g1 hA
      refine ⟨q1, q2, fun z hz => ?_⟩
      rcases q3 z hz with ⟨y, hy, _⟩ | ⟨y, hy, e⟩
      · simp at hy
      · obtain ⟨q, hW⟩ := treeC_W hc'
        rw [Wl_eq 12 _ _ _ _ _ hW] at hy
        have := W_in 12 _ _ _ _ _ hW y (List.mem_filter.1 hy).1
        omega

theorem allP_max (ns : List Nd) (r : Int) : allP ns r 0 9223372036854775807 = allP ns r 0 1099511627776 := by
  unfold allP
  split
  · rfl
  · rename_i hc
    have hc' : treeC ns r = 0 := by simpa using hc
    obtain ⟨e1, _, _⟩ := walk_all (low := 0) (high := 9223372036854775807) hc'
    obtain ⟨e2, _, _⟩ := walk_all (low := 0) (high := 1099511627776) hc'
    obtain ⟨q, hW⟩ := treeC_W hc'
    have : Wl ns 0 9223372036854775807 12 r = Wl ns 0 1099511627776 12 r := by
      rw [Wl_eq 12 _ _ _ _ _ hW, Wl_eq 12 _ _ _ _ _ hW]
      refine List.filter_congr fun x hx => ?_
      have := W_in 12 _ _ _ _ _ hW x hx
      simp only [inR]
      congr 1
      exact decide_eq_decide.2 (by omega)
    rw [← e1, ← e2, this]

/-! ### Buckets -/

theorem bk_key (x : En) (size : Int) : (bk size x).key = (kp x) * 1048576 + (kt x - kt x % size) := by
  show x.key - x.key % 1048576 % size = x.key / 1048576 * 1048576 + (x.key % 1048576 - x.key % 1048576 % size)
  omega

theorem bk_le {x y : En} (h : x.key < y.key) {size : Int} (hs : size = 60 ∨ size = 3600) : (bk size x).key ≤ (bk size y).key := by
  show x.key - x.key % 1048576 % size ≤ y.key - y.key % 1048576 % size
  have hq : x.key / 1048576 ≤ y.key / 1048576 := Int.ediv_le_ediv (by decide) (Int.le_of_lt h)
  rcases hs with rfl | rfl <;> (rcases Int.lt_or_eq_of_le hq with hq | hq <;> omega)

theorem bk_sorted {l : List En} (hp : l.Pairwise fun a b => a.key < b.key) {size : Int} (hs : size = 60 ∨ size = 3600) : (l.map (bk size)).Pairwise fun a b => a.key ≤ b.key := by
  rw [List.pairwise_map]
  exact hp.imp fun h => bk_le h hs

theorem bk_one (x : En) : bk 1 x = x := by
  unfold bk
  rw [show kt x % 1 = 0 from Int.emod_one _]
  simp

theorem roll_one {l : List En} (h : l.Pairwise fun a b => a.key < b.key) : rollP 1 l = some l := by
  unfold rollP
  rw [show l.map (bk 1) = l by rw [List.map_congr_left (fun x _ => bk_one x), List.map_id']]
  have := allL_id l [] (by simpa using h)
  simpa [allL] using this

theorem book_some {ns : List Nd} {r n f : Int} {l : List En} (h : bookP ns r n f = some l) : (allP ns r 0 1099511627776).1 = 0 ∧ (allP ns r 0 1099511627776).2 = l ∧ l.all (pointB n f) = true := by
  unfold bookP at h
  split at h
  · rename_i hc
    cases h
    exact ⟨hc.1, rfl, hc.2⟩
  · cases h

theorem step_one {ns : List Nd} {r n f : Int} {l : List En} (h : bookP ns r n f = some l) : stepB 1 l ns r = true := by
  obtain ⟨h1, h2, _⟩ := book_some h
  have hp := (allP_facts (ns := ns) (r := r) (low := 0) (high := 1099511627776)).1
  rw [h2] at hp
  unfold stepB
  rw [roll_one hp, h1, h2]
  simp

end Go.Proofs.YtndojgeodmddoadDoor

/- What the document says of bases: Book, Rolled, and its sameEntries. -/
namespace Go.Proofs.YtndojgeodmddoadDoor
open Go.RowKit Plain

theorem en_ne {x y : En} (h : ¬ x = y) : (x.key == y.key) = false ∨ ((x.key == y.key) = true ∧ (x.c == y.c) = false) ∨ ((x.key == y.key) = true ∧ (x.c == y.c) = true ∧ (x.s == y.s) = false) ∨ ((x.key == y.key) = true ∧ (x.c == y.c) = true ∧ (x.s == y.s) = true ∧ (x.lo == y.lo) = false) ∨ ((x.key == y.key) = true ∧ (x.c == y.c) = true ∧ (x.s == y.s) = true ∧ (x.lo == y.lo) = true ∧ (x.hi == y.hi) = false) ∨ ((x.key == y.key) = true ∧ (x.c == y.c) = true ∧ (x.s == y.s) = true ∧ (x.lo == y.lo) = true ∧ (x.hi == y.hi) = true ∧ (x.t == y.t) = false) ∨ ((x.key == y.key) = true ∧ (x.c == y.c) = true ∧ (x.s == y.s) = true ∧ (x.lo == y.lo) = true ∧ (x.hi == y.hi) = true ∧ (x.t == y.t) = true ∧ (x.l == y.l) = false) := by
  obtain ⟨a0, a1, a2, a3, a4, a5, a6⟩ := x
  obtain ⟨b0, b1, b2, b3, b4, b5, b6⟩ := y
  simp only [En.mk.injEq] at h
  by_cases h0 : a0 = b0 <;> by_cases h1 : a1 = b1 <;> by_cases h2 : a2 = b2 <;> by_cases h3 : a3 = b3 <;> by_cases h4 : a4 = b4 <;> by_cases h5 : a5 = b5 <;> by_cases h6 : a6 = b6 <;> simp_all

set_option maxRecDepth 20000 in
set_option maxHeartbeats 1000000 in
theorem sameR_any (A A' : Option Addr) (C C' : Nat) (xs ys : List En) (w : World) (h : RowAt w.heap.size w A (flatE xs)) (h' : RowAt w.heap.size w A' (flatE ys)) (hz : xs.length * 56 ≤ 140737488351232) (hz' : ys.length * 56 ≤ 140737488351232) :
    Calls Tryd.prog 23 #[.slice A xs.length C, .slice A' ys.length C'] w fun e w' => e = .returned (.bool (decide (xs = ys))) ∧ Below w.heap.size w w' := by
  obtain ⟨nb, hnb⟩ : ∃ nb, nb = decide (xs = ys) := ⟨_, rfl⟩
  rw [← hnb]
  by_cases hl : xs.length = ys.length
  · have HN : Hid (nb = decide (xs = ys)) := hnb
    clear hnb
    go_enter Tryd.func23, Tryd.ntmps23
    go_wp2_with fail
    have hl' : (xs.length : Int) = (ys.length : Int) := by omega
    go_loopw [5] (fun vi wr => ∃ i : Nat, i ≤ xs.length ∧ vi = .int .i64 i ∧ Hid (xs.take i = ys.take i) ∧ Below w.heap.size w wr) (fun vi _ => xs.length - (intOf vi).toNat)
    case atStart => exact ⟨0, Nat.zero_le _, rfl, (by show _ = _; simp), Below.refl _ _⟩
    case round =>
      obtain ⟨i, hi, rfl, HT, hb⟩ := hrel
      by_cases hlt : i < xs.length
      · have hlt' : i < ys.length := by omega
        obtain ⟨b, o, rfl, hbl, c0, c1, c2, c3, c4, c5, c6⟩ := (h.below hb (Nat.le_refl _)).en hlt
        obtain ⟨b', o', rfl, hbl', d0, d1, d2, d3, d4, d5, d6⟩ := (h'.below hb (Nat.le_refl _)).en hlt'
        have hsz := hb.size
        have l1 : b < wr.heap.size := by omega
        have l2 : b' < wr.heap.size := by omega
        by_cases hxy : xs[i] = ys[i]
        · have HT' : Hid (xs.take (i + 1) = ys.take (i + 1)) := by
            show _ = _
            rw [List.take_succ_eq_append_getElem hlt, List.take_succ_eq_append_getElem hlt', HT.out, hxy]
          rw [hxy] at c0 c1 c2 c3 c4 c5 c6
          clear hxy HT
          generalize ys[i] = y at *
          go_wp2_with fail
          go_quiet (fail)
          go_wp2_with fail
          go_roundw
          case rel =>
            go_light
            exact ⟨i + 1, hlt, by go_num, HT', below_drewN hb _⟩
          case measure => simp [intOf]; omega
        · have HF : Hid (nb = false) := by
            show nb = false
            rw [HN.out, decide_eq_false_iff_not]
            intro e
            subst e
            exact hxy rfl
          have hne := en_ne hxy
          clear HT HN hxy
          generalize xs[i] = x at *
          generalize ys[i] = y at *
          rcases hne with k0 | ⟨k0, k1⟩ | ⟨k0, k1, k2⟩ | ⟨k0, k1, k2, k3⟩ | ⟨k0, k1, k2, k3, k4⟩ | ⟨k0, k1, k2, k3, k4, k5⟩ | ⟨k0, k1, k2, k3, k4, k5, k6⟩
          all_goals
            go_wp2_with fail
            go_quiet (fail)
            go_wp2_with fail
            go_ret
            exact ⟨by rw [HF.out]; rfl, below_drewN hb _⟩
      · have HE : Hid (nb = true) := by
          show nb = true
          have q := HT.out
          rw [List.take_of_length_le (by omega), List.take_of_length_le (by omega)] at q
          rw [HN.out, q]
          simp
        go_wp2_with fail
        go_ret
        exact ⟨by rw [HE.out]; rfl, hb⟩
  · have HF : Hid (nb = false) := by
      show nb = false
      rw [hnb]
      simp only [decide_eq_false_iff_not]
      intro e
      exact hl (by rw [e])
    clear hnb
    go_enter Tryd.func23, Tryd.ntmps23
    go_wp2_with fail
    go_ret
    exact ⟨by rw [HF.out]; rfl, Below.refl _ _⟩

theorem roll_take {size : Int} {l : List En} {i : Nat} (hi : i < l.length) : allL ((l.take (i + 1)).map (bk size)) = insO (allL ((l.take i).map (bk size))) (bk size l[i]) := by
  rw [List.take_succ_eq_append_getElem hi, List.map_append, List.map_cons, List.map_nil, allL_snoc]

theorem roll_stop {size : Int} {l : List En} {i : Nat} (h : allL ((l.take i).map (bk size)) = none) : rollP size l = none := by
  unfold rollP
  have e : l = l.take i ++ l.drop i := (List.take_append_drop _ _).symm
  rw [e, List.map_append]
  unfold allL at h ⊢
  rw [List.foldl_append, h]
  exact fold_none _

set_option maxRecDepth 20000 in
set_option maxHeartbeats 1000000 in
theorem rolled_any (A : Option Addr) (C : Nat) (l : List En) (size : Int) (hs : size = 1 ∨ size = 60 ∨ size = 3600) (w : World) (h : RowAt w.heap.size w A (flatE l)) (hz : l.length ≤ 28000) (hg : ∀ x ∈ l, Good x.ru) (hk : ∀ x ∈ l, 0 ≤ x.key ∧ x.key < 1099511627776) (Q : Ending → World → Prop)
    (HQ : Hid (∀ e w', Below w.heap.size w w' → (∀ ys, rollP size l = some ys → ∃ v, e = .returned (.tuple #[v, .bool true]) ∧ w'.ownsRow w.heap.size 61 7 v ys.length (flatE ys)) → (rollP size l = none → e = .returned (.tuple #[.slice none 0 0, .bool false])) → Q e w')) :
    Calls Tryd.prog 20 #[.slice A l.length C, .int .i64 size] w Q := by
  go_enter Tryd.func20, Tryd.ntmps20
  go_wp2_with fail
  go_loopw [6, 7] (fun vo vi wr => ∃ (i : Nat) (out : List En), i ≤ l.length ∧ vi = .int .i64 i ∧ Hid (allL ((l.take i).map (bk size)) = some out) ∧ out.length ≤ i ∧ (∀ y ∈ out, Good y.ru) ∧ wr.ownsRow w.heap.size 61 7 vo out.length (flatE out) ∧ Below w.heap.size w wr) (fun _ vi _ => l.length - (intOf vi).toNat)
  case atStart => exact ⟨0, [], Nat.zero_le _, rfl, (by show _ = _; simp [allL]), by simp, by simp, World.ownsRow_nil _ _ _ _, Below.refl _ _⟩
  case round =>
    obtain ⟨i, out, hi, rfl, HA, hol, hgo, hown, hb⟩ := hrel
    by_cases hlt : i < l.length
    · obtain ⟨b, o, rfl, hbl, c0, c1, c2, c3, c4, c5, c6⟩ := (h.below hb (Nat.le_refl _)).en hlt
      have hsz := hb.size
      have hbr : b < wr.heap.size := by omega
      have hgi := hg _ (List.getElem_mem hlt)
      have hki := hk _ (List.getElem_mem hlt)
      obtain ⟨x, hx⟩ : ∃ x, l[i] = x := ⟨_, rfl⟩
      have HT := roll_take (size := size) hlt
      rw [hx] at c0 c1 c2 c3 c4 c5 c6 hgi hki HT
      have hkm : 0 ≤ x.key % 1048576 ∧ x.key % 1048576 < 1048576 := by omega
      obtain ⟨m, hmm⟩ : ∃ m, m = x.key % 1048576 % size := ⟨_, rfl⟩
      have hm : 0 ≤ m ∧ m ≤ x.key := by rw [hmm]; rcases hs with rfl | rfl | rfl <;> omega
      have HX : Hid (bk size x = ⟨x.key - m, x.c, x.s, x.lo, x.hi, x.t, x.l⟩) := by rw [hmm]; rfl
      have hr : (x.key % 1048576).tmod size = m := by rw [hmm, Int.tmod_eq_emod_of_nonneg hkm.1]
      have hs0 : ¬ size = 0 := by rcases hs with rfl | rfl | rfl <;> decide
      have hs1 : (size == 0) = false := by simpa using hs0
      have hs2 : ¬ size = -1 := by rcases hs with rfl | rfl | rfl <;> decide
      have hkw : IntKind.i64.wrap (x.key - m) = x.key - m := by rw [IntKind.wrap_i64]; omega
      have hmw : IntKind.i64.wrap m = m := by rw [IntKind.wrap_i64]; omega
      have i0 : (0 : Int) ≤ (i : Int) := by omega
      have i1 : (i : Int) < (l.length : Int) := by omega
      have n1 : ¬ b = wr.heap.size := by omega
      have hbr1 : b < wr.heap.size + 1 := by omega
      have KS : ∀ (W : World) (b' o' j : Nat) (v : Value), ¬ b' = wr.heap.size → (W.setCell ⟨wr.heap.size, j, none⟩ v).cell? ⟨b', o', none⟩ = W.cell? ⟨b', o', none⟩ := fun W b' o' j v hb => World.cell?_setCell_far _ _ _ _ (fun e => hb e.symm)
      clear hs hmm
      go_upto_region 6 with fail
      go_cut [9] (fun v9 wc => ∃ rb, v9 = .pointer (some ⟨rb, 0, none⟩) ∧ wr.heap.size ≤ rb ∧ RowL wc rb 61 [.int .i64 (x.key - m), .int .i64 x.c, .int .i64 x.s, .int .i64 x.lo, .int .i64 x.hi, .int .i64 x.t, .int .i64 x.l] ∧ Below wr.heap.size wr wc)
      case first =>
        go_region_held3 (fun w' => w'.cell? ⟨b, o + i * 7, none⟩ = some (.int .i64 x.key) ∧ w'.cell? ⟨b, o + i * 7 + 1, none⟩ = some (.int .i64 x.c) ∧ w'.cell? ⟨b, o + i * 7 + 2, none⟩ = some (.int .i64 x.s) ∧ w'.cell? ⟨b, o + i * 7 + 3, none⟩ = some (.int .i64 x.lo) ∧ w'.cell? ⟨b, o + i * 7 + 4, none⟩ = some (.int .i64 x.hi) ∧ w'.cell? ⟨b, o + i * 7 + 5, none⟩ = some (.int .i64 x.t) ∧ w'.cell? ⟨b, o + i * 7 + 6, none⟩ = some (.int .i64 x.l)) (go_keep) (fail)
        go_wp2
        go_meet
        case rel => exact ⟨wr.heap.size, rfl, Nat.le_refl _, rowL_alloc wr _ _, ((Below.refl _ _).alloc (Nat.le_refl _) _).drew⟩
      case rest =>
        obtain ⟨rb, rfl, hrb, hrw, hbc⟩ := hcut
        have r0 := hrw.cell 0
        have r1 := hrw.cell 1
        have r2 := hrw.cell 2
        have r3 := hrw.cell 3
        have r4 := hrw.cell 4
        have r5 := hrw.cell 5
        have r6 := hrw.cell 6
        simp only [List.getElem?_cons_zero, List.getElem?_cons_succ] at r0 r1 r2 r3 r4 r5 r6
        have hrl := hrw.lt
        obtain ⟨A0, C0, hv, -, -, -, hro⟩ := own_row hown
        have hroc := hro.up hbc
        have hwc : Below w.heap.size w wc := nextB hb (Nat.le_refl _) hbc
        have hcz := hbc.size
        have wc0 := withEntry_any A0 C0 out (bk size x) wc hroc (by omega) hgo hgi
        have hins : insO (some out) (bk size x) = ins out (bk size x) := rfl
        rw [HA.out, hins] at HT
        simp only [HX.out] at wc0 HT
        cases hi1 : ins out ⟨x.key - m, x.c, x.s, x.lo, x.hi, x.t, x.l⟩ with
        | none =>
          rw [hi1] at wc0 HT
          have HE : Hid (rollP size l = none) := roll_stop HT
          simp only at wc0
          clear HT HA
          rw [hv]
          go_wp2_with (go_at_call 41; refine wc0.mono ?_; rintro e w3 ⟨hb3, rfl⟩)
          refine HQ.out _ _ (nextB hwc (Nat.le_refl _) hb3) (fun ys hys => by rw [HE.out] at hys; cases hys) (fun _ => rfl)
        | some zs =>
          rw [hi1] at wc0 HT
          have HE : Hid (allL ((l.take (i + 1)).map (bk size)) = some zs) := HT
          obtain ⟨gz, lz⟩ := ins_good (x := ⟨x.key - m, x.c, x.s, x.lo, x.hi, x.t, x.l⟩) hgi hgo hi1
          simp only at wc0
          clear HT HA
          rw [hv]
          go_wp2_with (go_at_call 41; refine wc0.mono ?_; rintro e w3 ⟨hb3, v3, rfl, ho3⟩)
          exact ⟨⟨i + 1, zs, hlt, by go_num, HE, by omega, gz, own_mono ho3 (by have := hwc.size; omega), nextB hwc (Nat.le_refl _) hb3⟩, by simp only [intOf]; omega⟩
    · have HE : Hid (rollP size l = some out) := by
        have q := HA.out
        rw [List.take_of_length_le (by omega)] at q
        exact q
      clear HA
      go_wp2_with fail
      exact HQ.out _ _ hb (fun ys hys => by rw [HE.out] at hys; cases hys; exact ⟨_, rfl, hown⟩) (fun hn => by rw [HE.out] at hn; cases hn)

end Go.Proofs.YtndojgeodmddoadDoor

/- What a base knows of points: the document's Book. -/
namespace Go.Proofs.YtndojgeodmddoadDoor
open Go.RowKit Plain

/-- A base, as it is handed over. -/
def baseV (A : Option Addr) (C : Nat) (ss : List ByteArray) (t0 t1 t2 : TR) (f : Int) : List Value := [.slice A ss.length C, .slice t0.A t0.ps.length t0.C, .int .i64 t0.r, .slice t1.A t1.ps.length t1.C, .int .i64 t1.r, .slice t2.A t2.ps.length t2.C, .int .i64 t2.r, .int .i64 f]

set_option maxRecDepth 20000 in
set_option maxHeartbeats 1000000 in
theorem book_any (A : Option Addr) (C : Nat) (ss : List ByteArray) (t0 t1 t2 : TR) (f : Int) (w : World) (h0 : NodesAt w.heap.size w t0.A t0.ps) (Q : Ending → World → Prop)
    (HQ : Hid (∀ e w', Below w.heap.size w w' → (∀ l, bookP (t0.ps.map PN.nd) t0.r ss.length f = some l → ∃ v, e = .returned (.tuple #[v, .bool true]) ∧ w'.ownsRow w.heap.size 61 7 v l.length (flatE l)) → (bookP (t0.ps.map PN.nd) t0.r ss.length f = none → e = .returned (.tuple #[.slice none 0 0, .bool false])) → Q e w')) :
    Calls Tryd.prog 19 #[.agg (baseV A C ss t0 t1 t2 f).toArray] w Q := by
  have b0 : ∀ o : Obj, Below w.heap.size w (w.alloc o) := fun o => (Below.refl _ _).alloc (Nat.le_refl _) o
  obtain ⟨A0, C0, p0, r0⟩ := t0
  obtain ⟨A1, C1, p1, r1⟩ := t1
  obtain ⟨A2, C2, p2, r2⟩ := t2
  simp only [baseV] at *
  have g2 := fun w' hN => allOf_all A0 C0 r0 0 1099511627776 p0 w' hN
  have hf := allP_facts (ns := p0.map PN.nd) (r := r0) (low := 0) (high := 1099511627776)
  have hl := allP_len (p0.map PN.nd) r0 0 1099511627776
  have HB : Hid (bookP (p0.map PN.nd) r0 ss.length f = if (allP (p0.map PN.nd) r0 0 1099511627776).1 = 0 ∧ (allP (p0.map PN.nd) r0 0 1099511627776).2.all (pointB ss.length f) = true then some (allP (p0.map PN.nd) r0 0 1099511627776).2 else none) := rfl
  generalize allP (p0.map PN.nd) r0 0 1099511627776 = P at g2 hf hl HB
  obtain ⟨c, L⟩ := P
  simp only at g2 hf hl HB
  obtain ⟨-, hf2, hf3⟩ := hf
  by_cases hc : c = 0
  · subst hc
    go_enter Tryd.func19, Tryd.ntmps19
    go_wp2_with (go_at_call 22; refine (g2 _ (h0.up (b0 _))).mono ?_; rintro e w1 ⟨hb1, v, rfl, ho⟩; obtain ⟨VA, VC, hvv, -, -, -, hrow⟩ := own_row ho; subst hvv; have hd := (bcells hb1).1; have z1 := sz1 hb1; have hw1 : Below w.heap.size w w1 := nextB (b0 _) (Nat.le_refl _) hb1)
    have rb : RowL w1 w.heap.size 28 [.slice A ss.length C, .slice A0 p0.length C0, .int .i64 r0, .slice A1 p1.length C1, .int .i64 r1, .slice A2 p2.length C2, .int .i64 r2, .int .i64 f] := (rowL_alloc w _ _).below hb1 (by simp)
    clear hd hb1
    go_loopw [6] (fun vi wr => ∃ i : Nat, i ≤ L.length ∧ vi = .int .i64 i ∧ Hid ((L.take i).all (pointB ss.length f) = true) ∧ Below w1.heap.size w1 wr) (fun vi _ => L.length - (intOf vi).toNat)
    case atStart => exact ⟨0, Nat.zero_le _, rfl, (by show _ = _; simp), Below.refl _ _⟩
    case round =>
      obtain ⟨i, hi, rfl, HA, hb⟩ := hrel
      have rb1 := rb.below hb z1
      have y0 := rb1.cell 0
      have y7 := rb1.cell 7
      simp only [List.getElem?_cons_zero, List.getElem?_cons_succ] at y0 y7
      have hsz := hb.size
      have lb := rb1.lt
      by_cases hlt : i < L.length
      · obtain ⟨b, o, rfl, hbl, c0, c1, c2, c3, c4, c5, c6⟩ := (hrow.below hb (Nat.le_refl _)).en hlt
        have hbr : b < wr.heap.size := by omega
        have hki := hf3 _ (List.getElem_mem hlt)
        have HT : Hid ((L.take (i + 1)).all (pointB ss.length f) = ((L.take i).all (pointB ss.length f) && pointB ss.length f L[i])) := by
          show _ = _
          rw [List.take_succ_eq_append_getElem hlt, List.all_append]
          simp
        have HF : Hid (pointB ss.length f L[i] = false → bookP (p0.map PN.nd) r0 ss.length f = none) := fun q => by
          rw [HB.out, if_neg]
          rintro ⟨_, h2⟩
          rw [List.all_eq_true] at h2
          rw [h2 _ (List.getElem_mem hlt)] at q
          cases q
        obtain ⟨x, hx⟩ : ∃ x, L[i] = x := ⟨_, rfl⟩
        rw [hx] at c0 c1 c2 c3 c4 c5 c6 hki HT HF
        have HP : Hid (pointB ss.length f x = (decide (x.key / 1048576 < ss.length) && (decide (f ≤ x.key % 1048576) && decide (x.t = x.key % 1048576)))) := rfl
        by_cases k1 : x.key / 1048576 < ss.length
        · have k1' : decide ((ss.length : Int) ≤ x.key / 1048576) = false := by simpa using k1
          by_cases k2 : f ≤ x.key % 1048576
          · have k2' : decide (x.key % 1048576 < f) = false := by simpa using k2
            by_cases k3 : x.t = x.key % 1048576
            · have k3' : (x.t != x.key % 1048576) = false := by simpa using k3
              have H1 : Hid ((L.take (i + 1)).all (pointB ss.length f) = true) := by
                show _ = _
                rw [HT.out, HA.out, HP.out]
                simp [k1, k2, k3]
              clear HF HT HP HA
              go_wp2_with fail
              go_quiet (fail)
              go_wp2_with fail
              go_roundw
              case rel =>
                go_light
                exact ⟨i + 1, hlt, by go_num, H1, below_drewN hb _⟩
              case measure => simp [intOf]; omega
            · have k3' : (x.t != x.key % 1048576) = true := by simpa using k3
              have H1 : Hid (bookP (p0.map PN.nd) r0 ss.length f = none) := HF.out (by rw [HP.out]; simp [k3])
              clear HF HT HP HA HB
              go_wp2_with fail
              go_quiet (fail)
              go_wp2_with fail
              exact HQ.out _ _ (nextB hw1 (Nat.le_refl _) (below_drewN hb _)) (fun l hl => by rw [H1.out] at hl; cases hl) (fun _ => rfl)
          · have k2' : decide (x.key % 1048576 < f) = true := by simpa using k2
            have H1 : Hid (bookP (p0.map PN.nd) r0 ss.length f = none) := HF.out (by rw [HP.out]; simp [k2])
            clear HF HT HP HA HB
            go_wp2_with fail
            go_quiet (fail)
            go_wp2_with fail
            exact HQ.out _ _ (nextB hw1 (Nat.le_refl _) (below_drewN hb _)) (fun l hl => by rw [H1.out] at hl; cases hl) (fun _ => rfl)
        · have k1' : decide ((ss.length : Int) ≤ x.key / 1048576) = true := by simpa using k1
          have H1 : Hid (bookP (p0.map PN.nd) r0 ss.length f = none) := HF.out (by rw [HP.out]; simp [k1])
          clear HF HT HP HA HB
          go_wp2_with fail
          go_quiet (fail)
          go_wp2_with fail
          exact HQ.out _ _ (nextB hw1 (Nat.le_refl _) (below_drewN hb _)) (fun l hl => by rw [H1.out] at hl; cases hl) (fun _ => rfl)
      · have H1 : Hid (bookP (p0.map PN.nd) r0 ss.length f = some L) := by
          show _ = _
          have q := HA.out
          rw [List.take_of_length_le (by omega)] at q
          rw [HB.out, if_pos ⟨by trivial, q⟩]
        clear HA HB
        go_wp2_with fail
        have how : wr.ownsRow w.heap.size 61 7 (.slice VA L.length VC) L.length (flatE L) := own_mono (own_of_block ho (fun k hk => hb.block k (ho.lt k hk).2)) (by simp)
        exact HQ.out _ _ (nextB hw1 (Nat.le_refl _) hb) (fun l hl => by rw [H1.out] at hl; cases hl; exact ⟨_, rfl, how⟩) (fun hn => by rw [H1.out] at hn; cases hn)
  · have HF : Hid (bookP (p0.map PN.nd) r0 ss.length f = none) := by
      show _ = _
      rw [HB.out, if_neg (fun e => hc e.1)]
    have hc' : (c != 0) = true := by simpa using hc
    go_enter Tryd.func19, Tryd.ntmps19
    go_wp2_with (go_at_call 22; refine (g2 _ (h0.up (b0 _))).mono ?_; rintro e w1 ⟨hb1, v, rfl, ho⟩; obtain ⟨VA, VC, hvv, -, -, -, hrow⟩ := own_row ho; subst hvv)
    refine HQ.out _ _ (nextB (b0 _) (Nat.le_refl _) hb1) (fun l hl => by rw [HF.out] at hl; cases hl) (fun _ => rfl)

end Go.Proofs.YtndojgeodmddoadDoor

/- Lists of names: base.namesMayBe. -/
namespace Go.Proofs.YtndojgeodmddoadDoor
open Go.RowKit Plain

theorem names_bad {ss : List ByteArray} {i : Nat} (hi : i < ss.length) (h : okN ss i = false) : namesB ss = false := by
  cases hn : namesB ss with
  | false => rfl
  | true =>
    unfold namesB at hn
    rw [List.all_eq_true] at hn
    have := hn i (by simpa using hi)
    rw [h] at this
    cases this

theorem names_ok {ss : List ByteArray} (h : ∀ j, j < ss.length → okN ss j = true) : namesB ss = true := by
  unfold namesB
  rw [List.all_eq_true]
  exact fun j hj => h j (by simpa using hj)

set_option maxRecDepth 20000 in
set_option maxHeartbeats 1000000 in
theorem namesMayBe_any (A : Option Addr) (C : Nat) (ss : List ByteArray) (w : World) (h : StrsAt w.heap.size w A ss) (hC : ss.length ≤ C) :
    Calls Tryd.prog 13 #[.slice A ss.length C] w fun e w' => e = .returned (.bool (decide (ss.length ≤ 16) && namesB ss)) ∧ w' = w := by
  obtain ⟨nb, hnb⟩ : ∃ nb, nb = (decide (ss.length ≤ 16) && namesB ss) := ⟨_, rfl⟩
  have HN : Hid (nb = (decide (ss.length ≤ 16) && namesB ss)) := hnb
  rw [← hnb]
  clear hnb
  have hz := h.z
  have con : ∀ (b o i : Nat) (x : ByteArray) (W : World), i ≤ ss.length → (∀ j, j < ss.length → W.cell? ⟨b, o + j, none⟩ = some (.string (ss.getD j ByteArray.empty))) → Calls Tryd.prog 36 #[.slice (some ⟨b, o, none⟩) i C, .string x] W fun e w' => e = .returned (.bool (Lib.containsS (ss.take i) x)) ∧ w' = W := fun b o i x W hi hc => Any.slices_Contains_string Tryd.containsS b o i C ss x W hi (by omega) hc
  by_cases h16 : ss.length ≤ 16
  · have h16' : ¬ (16 < (ss.length : Int)) := by omega
    go_enter Tryd.func13, Tryd.ntmps13
    go_wp2_with fail
    go_loopw [10] (fun vi wr => ∃ k : Nat, k ≤ ss.length ∧ vi = .int .i64 k ∧ Hid (∀ j, j < k → okN ss j = true) ∧ wr = w) (fun vi _ => ss.length - (intOf vi).toNat)
    case atStart => exact ⟨0, Nat.zero_le _, rfl, (fun j hj => by omega), rfl⟩
    case round =>
      obtain ⟨k, hk, rfl, HA, hw⟩ := hrel
      subst hw
      by_cases hlt : k < ss.length
      · obtain ⟨b, o, rfl, hbl, hc, hcs⟩ := h.row.str hlt
        have HE : Hid (okN ss k = (nameB ss[k] && !Lib.containsS (ss.take k) ss[k])) := by
          show _ = _
          unfold okN
          rw [show ss.getD k ByteArray.empty = ss[k] by rw [List.getD_eq_getElem?_getD, List.getElem?_eq_getElem hlt]; rfl]
        have HB : Hid (okN ss k = true → ∀ j, j < k + 1 → okN ss j = true) := fun q j hj => by
          by_cases e : j = k
          · subst e
            exact q
          · exact HA.out j (by omega)
        have HF : Hid (okN ss k = false → nb = false) := fun q => by
          rw [HN.out, names_bad hlt q]
          simp
        have cc := con b o k ss[k] wr (by omega) hcs
        have nm := name_any ss[k] wr
        generalize ss[k] = s at *
        have h0k : (0 : Int) ≤ (k : Int) := by omega
        have hkC : (k : Int) ≤ (C : Int) := by omega
        cases hn : nameB s with
        | false =>
          have H1 : Hid (nb = false) := HF.out (by rw [HE.out, hn]; rfl)
          simp only [hn] at nm
          clear HE HB HF cc con hcs
          go_wp2_with (first | (go_at_call 35; refine nm.mono ?_; rintro e w1 ⟨rfl, hw1⟩; subst w1))
          go_ret
          exact ⟨by rw [H1.out]; rfl, rfl⟩
        | true =>
          simp only [hn] at nm
          cases hcn : Lib.containsS (ss.take k) s with
          | true =>
            have H1 : Hid (nb = false) := HF.out (by rw [HE.out, hn, hcn]; rfl)
            simp only [hcn] at cc
            clear HE HB HF con hcs
            go_wp2_with (first | (go_at_call 35; refine nm.mono ?_; rintro e w1 ⟨rfl, hw1⟩; subst w1) | (go_at_call 36; refine cc.mono ?_; rintro e w1 ⟨rfl, hw1⟩; subst w1))
            go_ret
            exact ⟨by rw [H1.out]; rfl, rfl⟩
          | false =>
            have H1 : Hid (∀ j, j < k + 1 → okN ss j = true) := HB.out (by rw [HE.out, hn, hcn]; rfl)
            simp only [hcn] at cc
            clear HE HB HF con hcs
            go_wp2_with (first | (go_at_call 35; refine nm.mono ?_; rintro e w1 ⟨rfl, hw1⟩; subst w1) | (go_at_call 36; refine cc.mono ?_; rintro e w1 ⟨rfl, hw1⟩; subst w1))
            exact ⟨⟨k + 1, hlt, by go_num, H1, by trivial⟩, by simp only [intOf]; omega⟩
      · have HT : Hid (nb = true) := by
          show nb = true
          rw [HN.out, names_ok (fun j hj => HA.out j (by omega)), show decide (ss.length ≤ 16) = true by simpa using h16]
          rfl
        go_wp2_with fail
        go_ret
        exact ⟨by rw [HT.out]; rfl, rfl⟩
  · have HF : Hid (nb = false) := by
      show nb = false
      rw [HN.out, show decide (ss.length ≤ 16) = false by simpa using h16]
      rfl
    have h16' : 16 < (ss.length : Int) := by omega
    go_enter Tryd.func13, Tryd.ntmps13
    go_wp2_with fail
    go_ret
    exact ⟨by rw [HF.out]; rfl, rfl⟩

end Go.Proofs.YtndojgeodmddoadDoor

/- What bases may be: the document's BaseMay. -/
namespace Go.Proofs.YtndojgeodmddoadDoor
open Go.RowKit Plain

theorem sizeR_any (k : Nat) (hk : k < 3) (w : World) :
    Calls Tryd.prog 21 #[.int .i64 k] w fun e w' => e = .returned (.int .i64 (if k = 0 then 1 else if k = 1 then 60 else 3600)) ∧ Below w.heap.size w w' := by
  rcases (show k = 0 ∨ k = 1 ∨ k = 2 by omega) with rfl | rfl | rfl <;>
  · go_enter Tryd.func21, Tryd.ntmps21
    go_wp2
    go_ret
    exact ⟨rfl, (Below.refl _ _).alloc (Nat.le_refl _) _⟩

theorem okN_of {ss : List ByteArray} {i : Nat} (hi : i < ss.length) : okN ss i = (nameB ss[i] && !Lib.containsS (ss.take i) ss[i]) := by
  unfold okN
  rw [show ss.getD i ByteArray.empty = ss[i] by rw [List.getD_eq_getElem?_getD, List.getElem?_eq_getElem hi]; rfl]

theorem okN_bad {ss : List ByteArray} {i k : Nat} (hi : i < ss.length) (hk : k < i) (h : ss[k]'(by omega) = ss[i]) : okN ss i = false := by
  rw [okN_of hi]
  have : Lib.containsS (ss.take i) ss[i] = true := by
    rw [Lib.containsS_iff, ← h]
    exact List.mem_take_iff_getElem.2 ⟨k, by omega, rfl⟩
  rw [this]
  simp

theorem okN_good {ss : List ByteArray} {i : Nat} (hi : i < ss.length) (hn : nameB ss[i] = true) (h : ∀ j (hj : j < ss.length), j < i → ss[j] ≠ ss[i]) : okN ss i = true := by
  rw [okN_of hi, hn]
  cases hc : Lib.containsS (ss.take i) ss[i] with
  | false => rfl
  | true =>
    rw [Lib.containsS_iff] at hc
    obtain ⟨j, hj, e⟩ := List.mem_take_iff_getElem.1 hc
    exact absurd e (h j (by omega) (by omega))

theorem hideM {p : Prop} (h : p) : Hid p := h

theorem allL_len : ∀ (xs : List En) (o r : List En), (∀ x ∈ xs, Good x.ru) → (∀ y ∈ o, Good y.ru) → xs.foldl insO (some o) = some r → r.length ≤ o.length + xs.length
  | [], o, r, _, _, h => by cases h; simp
  | x :: xs, o, r, hx, ho, h => by
    rw [List.foldl_cons] at h
    cases hi : insO (some o) x with
    | none => rw [hi, fold_none] at h; cases h
    | some o' =>
      rw [hi] at h
      obtain ⟨q1, q2⟩ := ins_good (hx x List.mem_cons_self) ho hi
      have := allL_len xs o' r (fun y hy => hx y (List.mem_cons_of_mem _ hy)) q1 h
      simp only [List.length_cons]
      omega

theorem roll_len {size : Int} {l W : List En} (hg : ∀ x ∈ l, Good x.ru) (h : rollP size l = some W) : W.length ≤ l.length := by
  have := allL_len (l.map (bk size)) [] W (fun x hx => by
    obtain ⟨y, hy, rfl⟩ := List.mem_map.1 hx
    exact hg y hy) (by simp) h
  simpa using this

set_option maxRecDepth 20000 in
set_option maxHeartbeats 4000000 in
theorem baseMay_any (A : Option Addr) (C : Nat) (ss : List ByteArray) (t0 t1 t2 : TR) (f : Int) (w : World) (hS : StrsAt w.heap.size w A ss) (h0 : NodesAt w.heap.size w t0.A t0.ps) (h1 : NodesAt w.heap.size w t1.A t1.ps) (h2 : NodesAt w.heap.size w t2.A t2.ps) :
    Calls Tryd.prog 7 #[.agg (baseV A C ss t0 t1 t2 f).toArray] w fun e w' => e = .returned (.bool (baseB ss f (t0.ps.map PN.nd) t0.r (t1.ps.map PN.nd) t1.r (t2.ps.map PN.nd) t2.r)) ∧ Below w.heap.size w w' := by
  have b0 : ∀ o : Obj, Below w.heap.size w (w.alloc o) := fun o => (Below.refl _ _).alloc (Nat.le_refl _) o
  obtain ⟨nb, hnb⟩ : ∃ nb, nb = baseB ss f (t0.ps.map PN.nd) t0.r (t1.ps.map PN.nd) t1.r (t2.ps.map PN.nd) t2.r := ⟨_, rfl⟩
  have HN : Hid (nb = baseB ss f (t0.ps.map PN.nd) t0.r (t1.ps.map PN.nd) t1.r (t2.ps.map PN.nd) t2.r) := hnb
  rw [← hnb]
  clear hnb
  have bkc := fun w' h0' Q HQ => book_any A C ss t0 t1 t2 f w' h0' Q HQ
  obtain ⟨A0, C0, p0, r0⟩ := t0
  obtain ⟨A1, C1, p1, r1⟩ := t1
  obtain ⟨A2, C2, p2, r2⟩ := t2
  simp only [baseV] at *
  by_cases k16 : ss.length ≤ 16
  · have k16' : decide (16 < (ss.length : Int)) = false := by simp; omega
    by_cases kf : inB f 0 1048575 = true
    · have kff := (inB_iff _ _ _).1 kf
      by_cases km : f % 3600 = 0
      · have km' : (f % 3600 != 0) = false := by simpa using km
        have KM : Hid (f % 3600 = 0) := km
        clear km
        go_enter Tryd.func7, Tryd.ntmps7
        go_wp2_with (first | (go_at_call 17; refine (in_any _ _ _ _).mono ?_; rintro e w1 ⟨rfl, hw1⟩; subst w1))
        obtain ⟨w1, hw1⟩ : ∃ w1, w1 = w.alloc (.cells #[.slice A ss.length C, .slice A0 p0.length C0, .int .i64 r0, .slice A1 p1.length C1, .int .i64 r1, .slice A2 p2.length C2, .int .i64 r2, .int .i64 f] 28) := ⟨_, rfl⟩
        have rb : RowL w1 w.heap.size 28 [.slice A ss.length C, .slice A0 p0.length C0, .int .i64 r0, .slice A1 p1.length C1, .int .i64 r1, .slice A2 p2.length C2, .int .i64 r2, .int .i64 f] := by
          rw [hw1]
          exact rowL_alloc w _ _
        have hbw : Below w.heap.size w w1 := by
          rw [hw1]
          exact b0 _
        rw [← hw1]
        clear hw1
        have hz := hS.z
        have lb := rb.lt
        go_loopw [3] (fun vi wr => ∃ i : Nat, i ≤ ss.length ∧ vi = .int .i64 i ∧ Hid (∀ j, j < i → okN ss j = true) ∧ Below w1.heap.size w1 wr) (fun vi _ => ss.length - (intOf vi).toNat)
        case atStart => exact ⟨0, Nat.zero_le _, rfl, (fun j hj => by omega), Below.refl _ _⟩
        case round =>
          obtain ⟨i, hi, rfl, HA, hb⟩ := hrel
          have hwr : Below w.heap.size w wr := nextB hbw (Nat.le_refl _) hb
          have rb1 := rb.below hb lb
          have y0 := rb1.cell 0
          simp only [List.getElem?_cons_zero] at y0
          have lb1 := rb1.lt
          have hsz := hwr.size
          by_cases hlt : i < ss.length
          · obtain ⟨b, o, rfl, hbl, hc, -⟩ := (hS.row.below hwr (Nat.le_refl _)).str hlt
            have hbr : b < wr.heap.size := by omega
            have hss := hS.each _ (List.getElem_mem hlt)
            have nm := nameMay_any ss[i] wr (Nat.le_trans hss (by unfold maxLen; decide))
            have HFo : Hid (okN ss i = false → nb = false) := fun q => by
              rw [HN.out]
              unfold baseB
              rw [names_bad hlt q]
              simp
            cases hn : nameB ss[i] with
            | false =>
              have H1 : Hid (nb = false) := HFo.out (by rw [okN_of hlt, hn]; rfl)
              simp only [hn] at nm
              generalize ss[i] = s at *
              clear HFo HN bkc HA
              go_wp2_with (go_at_call 18; refine nm.mono ?_; rintro e w2 ⟨rfl, hw2⟩; subst w2)
              go_ret
              exact ⟨by rw [H1.out]; rfl, hwr⟩
            | true =>
              simp only [hn] at nm
              go_wp2_with (go_at_call 18; refine nm.mono ?_; rintro e w2 ⟨rfl, hw2⟩; subst w2)
              clear nm
              go_loopw [4] (fun vk wk => ∃ k : Nat, k ≤ i ∧ vk = .int .i64 k ∧ Hid (∀ j (hj : j < ss.length), j < k → ss[j] ≠ ss[i]) ∧ Below w1.heap.size w1 wk) (fun vk _ => i - (intOf vk).toNat)
              case atStart => exact ⟨0, Nat.zero_le _, rfl, (fun j _ hj => by omega), hb⟩
              case round =>
                clear y0 rb1 lb1 hc hbl hbr hwr hb hsz
                obtain ⟨k, hk, rfl, HD, hb⟩ := hrel
                have hwr : Below w.heap.size w wr := nextB hbw (Nat.le_refl _) hb
                have rb1 := rb.below hb lb
                have y0 := rb1.cell 0
                simp only [List.getElem?_cons_zero] at y0
                have lb1 := rb1.lt
                have hsz := hwr.size
                by_cases hki : k < i
                · have hkl : k < ss.length := by omega
                  obtain ⟨b1, o1, e1, hbl, hc, -⟩ := (hS.row.below hwr (Nat.le_refl _)).str hlt
                  obtain ⟨b2, o2, e2, -, hc2, -⟩ := (hS.row.below hwr (Nat.le_refl _)).str hkl
                  cases e1
                  cases e2
                  have hbr : b < wr.heap.size := by omega
                  by_cases he : ss[k] = ss[i]
                  · have H1 : Hid (nb = false) := HFo.out (okN_bad hlt hki he)
                    rw [he] at hc2
                    generalize ss[i] = s at *
                    clear HFo HN bkc HA HD he
                    go_wp2_with fail
                    go_quiet (fail)
                    go_wp2_with fail
                    go_ret
                    exact ⟨by rw [H1.out]; rfl, below_drewN hwr _⟩
                  · have HD' : Hid (∀ j (hj : j < ss.length), j < k + 1 → ss[j] ≠ ss[i]) := fun j hj hjk => by
                      by_cases e : j = k
                      · subst e
                        exact he
                      · exact HD.out j hj (by omega)
                    have he1 : (ss[k].toList == ss[i].toList) = false := by
                      simp only [beq_eq_false_iff_ne, ne_eq]
                      intro e
                      exact he (ByteArray.ext (by simpa [ByteArray.toList_eq] using e))
                    go_wp2_with fail
                    go_quiet (fail)
                    go_wp2_with fail
                    go_roundw
                    case rel =>
                      go_light
                      exact ⟨k + 1, hki, by go_num, HD', below_drewN hb _⟩
                    case measure => simp [intOf]; omega
                · have H1 : Hid (∀ j, j < i + 1 → okN ss j = true) := fun j hj => by
                    by_cases e : j = i
                    · subst e
                      exact okN_good hlt hn (fun q hq hqi => HD.out q hq (by omega))
                    · exact HA.out j (by omega)
                  clear HD HA
                  go_wp2_with fail
                  go_roundw
                  case rel =>
                    go_light
                    exact ⟨i + 1, hlt, by go_num, H1, hb⟩
                  case measure => simp [intOf]; omega
          · have HNm : Hid (namesB ss = true) := names_ok (fun j hj => HA.out j (by omega))
            clear HA
            cases hbk : bookP (p0.map PN.nd) r0 ss.length f with
            | none =>
              have H1 : Hid (nb = false) := by
                show nb = false
                rw [HN.out]
                unfold baseB treesB
                rw [hbk]
                simp
              have con : ∀ w', NodesAt w'.heap.size w' A0 p0 → Calls Tryd.prog 19 #[.agg #[.slice A ss.length C, .slice A0 p0.length C0, .int .i64 r0, .slice A1 p1.length C1, .int .i64 r1, .slice A2 p2.length C2, .int .i64 r2, .int .i64 f]] w' fun e w'' => e = .returned (.tuple #[.slice none 0 0, .bool false]) ∧ Below w'.heap.size w' w'' := fun w' hN => bkc w' hN _ (fun e w'' q1 _ q3 => ⟨q3 hbk, q1⟩)
              clear bkc HN hbk
              have y1 := rb1.cell 1
              have yy := fun j => rb1.cell j
              go_wp2_with (go_at_call 19; refine (con _ (h0.up hwr)).mono ?_; rintro e w2 ⟨rfl, hb2⟩)
              refine wp_loop_rounds 1 ?_
              rw [rounds_succ]
              go_wp2_with fail
              go_ret
              exact ⟨by rw [H1.out]; rfl, nextB hwr (Nat.le_refl _) hb2⟩
            | some l =>
              obtain ⟨hb1, hb2, hb3⟩ := book_some hbk
              have hfc := allP_facts (ns := p0.map PN.nd) (r := r0) (low := 0) (high := 1099511627776)
              have hlen := allP_len (p0.map PN.nd) r0 0 1099511627776
              rw [hb2] at hfc hlen
              have HNb : Hid (nb = (stepB 1 l (p0.map PN.nd) r0 && (stepB 60 l (p1.map PN.nd) r1 && stepB 3600 l (p2.map PN.nd) r2))) := by
                show _ = _
                rw [HN.out]
                unfold baseB treesB
                rw [hbk, HNm.out, kf]
                simp [k16, KM.out]
              have con : ∀ w', NodesAt w'.heap.size w' A0 p0 → Calls Tryd.prog 19 #[.agg #[.slice A ss.length C, .slice A0 p0.length C0, .int .i64 r0, .slice A1 p1.length C1, .int .i64 r1, .slice A2 p2.length C2, .int .i64 r2, .int .i64 f]] w' fun e w'' => (∃ v, e = .returned (.tuple #[v, .bool true]) ∧ w''.ownsRow w'.heap.size 61 7 v l.length (flatE l)) ∧ Below w'.heap.size w' w'' := fun w' hN => bkc w' hN _ (fun e w'' q1 q2 _ => ⟨q2 l hbk, q1⟩)
              clear bkc HN hbk hb1 hb2 hb3 HNm KM
              have yy := fun j => rb1.cell j
              go_wp2_with (go_at_call 19; refine (con _ (h0.up hwr)).mono ?_; rintro e w2 ⟨⟨v, rfl, ho⟩, hb2⟩; obtain ⟨VA, VC, hvv, -, -, -, hrow⟩ := own_row ho; subst hvv)
              clear con
              have rb2 := rb1.below hb2 lb1
              have hw2 : Below w.heap.size w w2 := nextB hwr (Nat.le_refl _) hb2
              have lb2 := rb2.lt
              clear y0 yy rb1 lb1 hb2 hb hwr hsz
              go_loopw [6, 7] (fun v6 v7 wr => ∃ k : Nat, k ≤ 3 ∧ v7 = .int .i64 k ∧ ((v6 = .bool true ∧ Hid ((0 < k → stepB 1 l (p0.map PN.nd) r0 = true) ∧ (1 < k → stepB 60 l (p1.map PN.nd) r1 = true) ∧ (2 < k → stepB 3600 l (p2.map PN.nd) r2 = true))) ∨ (v6 = .bool false ∧ 0 < k ∧ Hid (nb = false))) ∧ Below w2.heap.size w2 wr) (fun _ v7 _ => 3 - (intOf v7).toNat)
              case atStart => exact ⟨0, by omega, rfl, .inl ⟨rfl, ⟨fun h => by omega, fun h => by omega, fun h => by omega⟩⟩, Below.refl _ _⟩
              case round =>
                obtain ⟨k, hk, rfl, hcase, hb⟩ := hrel
                have hwr : Below w.heap.size w wr := nextB hw2 (Nat.le_refl _) hb
                have rb1 := rb2.below hb lb2
                have lb1 := rb1.lt
                have yy := fun j => rb1.cell j
                have hrw := hrow.up hb
                rcases hcase with ⟨rfl, HP⟩ | ⟨rfl, hk0, HF⟩
                · rcases (show k = 0 ∨ k = 1 ∨ k = 2 ∨ k = 3 by omega) with rfl | rfl | rfl | rfl
                  · have sz : ∀ w', Calls Tryd.prog 21 #[.int .i64 0] w' fun e w'' => e = .returned (.int .i64 1) ∧ Below w'.heap.size w' w'' := fun w' => by
                      have := sizeR_any 0 (by decide) w'
                      simpa using this
                    have g2 := fun w' hN => allOf_all A0 C0 r0 0 1099511627776 p0 w' hN
                    have hll := allP_len (p0.map PN.nd) r0 0 1099511627776
                    have HS : Hid (stepB 1 l (p0.map PN.nd) r0 = match rollP 1 l with | none => false | some W => decide ((allP (p0.map PN.nd) r0 0 1099511627776).1 = 0) && decide (W = (allP (p0.map PN.nd) r0 0 1099511627776).2)) := rfl
                    have HFk : Hid (stepB 1 l (p0.map PN.nd) r0 = false → nb = false) := fun q => by
                      rw [HNb.out, q]
                      simp
                    generalize allP (p0.map PN.nd) r0 0 1099511627776 = P at g2 hll HS
                    obtain ⟨c, L⟩ := P
                    simp only at g2 hll HS
                    cases hroll : rollP 1 l with
                    | none =>
                      have HF : Hid (nb = false) := HFk.out (by rw [HS.out, hroll])
                      have conR : ∀ w', RowAt w'.heap.size w' VA (flatE l) → Calls Tryd.prog 20 #[.slice VA l.length VC, .int .i64 1] w' fun e w'' => e = .returned (.tuple #[.slice none 0 0, .bool false]) ∧ Below w'.heap.size w' w'' := fun w' hr => rolled_any VA VC l 1 (Or.inl rfl) w' hr hlen hfc.2.1 hfc.2.2 _ (fun e w'' q1 _ q3 => ⟨q3 hroll, q1⟩)
                      clear HS HFk hroll HNb HP
                      go_wp2_with (first
                        | (go_at_call 21; refine (sz _).mono ?_; rintro e w3 ⟨rfl, hb3⟩; have rb3 := rb1.below hb3 lb1; have lb3 := rb3.lt; have hw3 : Below wr.heap.size wr w3 := hb3; have hr3 := hrw.up hb3)
                        | (go_at_call 20; refine (conR _ hr3).mono ?_; rintro e w4 ⟨rfl, hb4⟩; have rb4 := rb3.below hb4 lb3; have lb4 := rb4.lt; have y4 := (fun j => rb4.cell j); have hw4 : Below w.heap.size w w4 := nextB (nextB hwr (Nat.le_refl _) hb3) (Nat.le_refl _) hb4)
                        | (go_at_call 22; refine (g2 _ (h0.up hw4)).mono ?_; rintro e w5 ⟨hb5, v5, rfl, ho5⟩; obtain ⟨LA, LC, hv5, -, -, -, hr5⟩ := own_row ho5; subst hv5; have h25 : Below w2.heap.size w2 w5 := nextB (nextB (nextB hb (Nat.le_refl _) hb3) (Nat.le_refl _) hb4) (Nat.le_refl _) hb5))
                      exact ⟨⟨1, by omega, by go_num, .inr ⟨rfl, by omega, HF⟩, h25⟩, by simp only [intOf]; omega⟩
                    | some W =>
                      have hWl := roll_len hfc.2.1 hroll
                      have conR : ∀ w', RowAt w'.heap.size w' VA (flatE l) → Calls Tryd.prog 20 #[.slice VA l.length VC, .int .i64 1] w' fun e w'' => (∃ v, e = .returned (.tuple #[v, .bool true]) ∧ w''.ownsRow w'.heap.size 61 7 v W.length (flatE W)) ∧ Below w'.heap.size w' w'' := fun w' hr => rolled_any VA VC l 1 (Or.inl rfl) w' hr hlen hfc.2.1 hfc.2.2 _ (fun e w'' q1 q2 _ => ⟨q2 W hroll, q1⟩)
                      have HSW : Hid (stepB 1 l (p0.map PN.nd) r0 = (decide (c = 0) && decide (W = L))) := by
                        show _ = _
                        rw [HS.out, hroll]
                      clear HS hroll
                      by_cases hc : c = 0
                      · have sm := fun A' B' C' D' w' h1 h2 => sameR_any A' B' C' D' W L w' h1 h2 (by omega) (by omega)
                        have hc' : (c == 0) = true := by simpa using hc
                        by_cases hWL : W = L
                        · have HS1 : stepB 1 l (p0.map PN.nd) r0 = true := by
                            rw [HSW.out]
                            simp [hc, hWL]
                          have HP' : Hid ((0 < 1 → stepB 1 l (p0.map PN.nd) r0 = true) ∧ (1 < 1 → stepB 60 l (p1.map PN.nd) r1 = true) ∧ (2 < 1 → stepB 3600 l (p2.map PN.nd) r2 = true)) := ⟨fun _ => HS1, fun h => by omega, fun h => by omega⟩
                          have hd : decide (W = L) = true := by simpa using hWL
                          simp only [hd] at sm
                          have SM := hideM sm
                          clear HSW HFk HNb HP hd hWL HS1 sm hc
                          go_wp2_with (first
                        | (go_at_call 21; refine (sz _).mono ?_; rintro e w3 ⟨rfl, hb3⟩; have rb3 := rb1.below hb3 lb1; have lb3 := rb3.lt; have hw3 : Below wr.heap.size wr w3 := hb3; have hr3 := hrw.up hb3)
                        | (go_at_call 20; refine (conR _ hr3).mono ?_; rintro e w4 ⟨⟨v4, rfl, ho4⟩, hb4⟩; obtain ⟨WA, WC, hv4, -, -, -, hr4⟩ := own_row ho4; subst hv4; have rb4 := rb3.below hb4 lb3; have lb4 := rb4.lt; have y4 := (fun j => rb4.cell j); have hw4 : Below w.heap.size w w4 := nextB (nextB hwr (Nat.le_refl _) hb3) (Nat.le_refl _) hb4)
                        | (go_at_call 22; refine (g2 _ (h0.up hw4)).mono ?_; rintro e w5 ⟨hb5, v5, rfl, ho5⟩; obtain ⟨LA, LC, hv5, -, -, -, hr5⟩ := own_row ho5; subst hv5; have h25 : Below w2.heap.size w2 w5 := nextB (nextB (nextB hb (Nat.le_refl _) hb3) (Nat.le_refl _) hb4) (Nat.le_refl _) hb5)
                        | (go_at_call 23; refine (SM.out _ _ _ _ _ (hr4.up hb5) hr5).mono ?_; rintro e w6 ⟨rfl, hb6⟩))
                          exact ⟨⟨1, by omega, by go_num, .inl ⟨rfl, HP'⟩, nextB h25 (Nat.le_refl _) hb6⟩, by simp only [intOf]; omega⟩
                        · have HF : Hid (nb = false) := HFk.out (by rw [HSW.out]; simp [hWL])
                          have hd : decide (W = L) = false := by simpa using hWL
                          simp only [hd] at sm
                          have SM := hideM sm
                          clear HSW HFk HNb HP hd hWL sm hc
                          go_wp2_with (first
                        | (go_at_call 21; refine (sz _).mono ?_; rintro e w3 ⟨rfl, hb3⟩; have rb3 := rb1.below hb3 lb1; have lb3 := rb3.lt; have hw3 : Below wr.heap.size wr w3 := hb3; have hr3 := hrw.up hb3)
                        | (go_at_call 20; refine (conR _ hr3).mono ?_; rintro e w4 ⟨⟨v4, rfl, ho4⟩, hb4⟩; obtain ⟨WA, WC, hv4, -, -, -, hr4⟩ := own_row ho4; subst hv4; have rb4 := rb3.below hb4 lb3; have lb4 := rb4.lt; have y4 := (fun j => rb4.cell j); have hw4 : Below w.heap.size w w4 := nextB (nextB hwr (Nat.le_refl _) hb3) (Nat.le_refl _) hb4)
                        | (go_at_call 22; refine (g2 _ (h0.up hw4)).mono ?_; rintro e w5 ⟨hb5, v5, rfl, ho5⟩; obtain ⟨LA, LC, hv5, -, -, -, hr5⟩ := own_row ho5; subst hv5; have h25 : Below w2.heap.size w2 w5 := nextB (nextB (nextB hb (Nat.le_refl _) hb3) (Nat.le_refl _) hb4) (Nat.le_refl _) hb5)
                        | (go_at_call 23; refine (SM.out _ _ _ _ _ (hr4.up hb5) hr5).mono ?_; rintro e w6 ⟨rfl, hb6⟩))
                          exact ⟨⟨1, by omega, by go_num, .inr ⟨rfl, by omega, HF⟩, nextB h25 (Nat.le_refl _) hb6⟩, by simp only [intOf]; omega⟩
                      · have HF : Hid (nb = false) := HFk.out (by rw [HSW.out]; simp [hc])
                        have hc' : (c == 0) = false := by simpa using hc
                        clear HSW HFk HNb HP
                        go_wp2_with (first
                        | (go_at_call 21; refine (sz _).mono ?_; rintro e w3 ⟨rfl, hb3⟩; have rb3 := rb1.below hb3 lb1; have lb3 := rb3.lt; have hw3 : Below wr.heap.size wr w3 := hb3; have hr3 := hrw.up hb3)
                        | (go_at_call 20; refine (conR _ hr3).mono ?_; rintro e w4 ⟨⟨v4, rfl, ho4⟩, hb4⟩; obtain ⟨WA, WC, hv4, -, -, -, hr4⟩ := own_row ho4; subst hv4; have rb4 := rb3.below hb4 lb3; have lb4 := rb4.lt; have y4 := (fun j => rb4.cell j); have hw4 : Below w.heap.size w w4 := nextB (nextB hwr (Nat.le_refl _) hb3) (Nat.le_refl _) hb4)
                        | (go_at_call 22; refine (g2 _ (h0.up hw4)).mono ?_; rintro e w5 ⟨hb5, v5, rfl, ho5⟩; obtain ⟨LA, LC, hv5, -, -, -, hr5⟩ := own_row ho5; subst hv5; have h25 : Below w2.heap.size w2 w5 := nextB (nextB (nextB hb (Nat.le_refl _) hb3) (Nat.le_refl _) hb4) (Nat.le_refl _) hb5))
                        exact ⟨⟨1, by omega, by go_num, .inr ⟨rfl, by omega, HF⟩, h25⟩, by simp only [intOf]; omega⟩
                  · have sz : ∀ w', Calls Tryd.prog 21 #[.int .i64 1] w' fun e w'' => e = .returned (.int .i64 60) ∧ Below w'.heap.size w' w'' := fun w' => by
                      have := sizeR_any 1 (by decide) w'
                      simpa using this
                    have g2 := fun w' hN => allOf_all A1 C1 r1 0 1099511627776 p1 w' hN
                    have hll := allP_len (p1.map PN.nd) r1 0 1099511627776
                    have HS : Hid (stepB 60 l (p1.map PN.nd) r1 = match rollP 60 l with | none => false | some W => decide ((allP (p1.map PN.nd) r1 0 1099511627776).1 = 0) && decide (W = (allP (p1.map PN.nd) r1 0 1099511627776).2)) := rfl
                    have HFk : Hid (stepB 60 l (p1.map PN.nd) r1 = false → nb = false) := fun q => by
                      rw [HNb.out, q]
                      simp
                    generalize allP (p1.map PN.nd) r1 0 1099511627776 = P at g2 hll HS
                    obtain ⟨c, L⟩ := P
                    simp only at g2 hll HS
                    cases hroll : rollP 60 l with
                    | none =>
                      have HF : Hid (nb = false) := HFk.out (by rw [HS.out, hroll])
                      have conR : ∀ w', RowAt w'.heap.size w' VA (flatE l) → Calls Tryd.prog 20 #[.slice VA l.length VC, .int .i64 60] w' fun e w'' => e = .returned (.tuple #[.slice none 0 0, .bool false]) ∧ Below w'.heap.size w' w'' := fun w' hr => rolled_any VA VC l 60 (Or.inr (Or.inl rfl)) w' hr hlen hfc.2.1 hfc.2.2 _ (fun e w'' q1 _ q3 => ⟨q3 hroll, q1⟩)
                      clear HS HFk hroll HNb HP
                      go_wp2_with (first
                        | (go_at_call 21; refine (sz _).mono ?_; rintro e w3 ⟨rfl, hb3⟩; have rb3 := rb1.below hb3 lb1; have lb3 := rb3.lt; have hw3 : Below wr.heap.size wr w3 := hb3; have hr3 := hrw.up hb3)
                        | (go_at_call 20; refine (conR _ hr3).mono ?_; rintro e w4 ⟨rfl, hb4⟩; have rb4 := rb3.below hb4 lb3; have lb4 := rb4.lt; have y4 := (fun j => rb4.cell j); have hw4 : Below w.heap.size w w4 := nextB (nextB hwr (Nat.le_refl _) hb3) (Nat.le_refl _) hb4)
                        | (go_at_call 22; refine (g2 _ (h1.up hw4)).mono ?_; rintro e w5 ⟨hb5, v5, rfl, ho5⟩; obtain ⟨LA, LC, hv5, -, -, -, hr5⟩ := own_row ho5; subst hv5; have h25 : Below w2.heap.size w2 w5 := nextB (nextB (nextB hb (Nat.le_refl _) hb3) (Nat.le_refl _) hb4) (Nat.le_refl _) hb5))
                      exact ⟨⟨2, by omega, by go_num, .inr ⟨rfl, by omega, HF⟩, h25⟩, by simp only [intOf]; omega⟩
                    | some W =>
                      have hWl := roll_len hfc.2.1 hroll
                      have conR : ∀ w', RowAt w'.heap.size w' VA (flatE l) → Calls Tryd.prog 20 #[.slice VA l.length VC, .int .i64 60] w' fun e w'' => (∃ v, e = .returned (.tuple #[v, .bool true]) ∧ w''.ownsRow w'.heap.size 61 7 v W.length (flatE W)) ∧ Below w'.heap.size w' w'' := fun w' hr => rolled_any VA VC l 60 (Or.inr (Or.inl rfl)) w' hr hlen hfc.2.1 hfc.2.2 _ (fun e w'' q1 q2 _ => ⟨q2 W hroll, q1⟩)
                      have HSW : Hid (stepB 60 l (p1.map PN.nd) r1 = (decide (c = 0) && decide (W = L))) := by
                        show _ = _
                        rw [HS.out, hroll]
                      clear HS hroll
                      by_cases hc : c = 0
                      · have sm := fun A' B' C' D' w' h1 h2 => sameR_any A' B' C' D' W L w' h1 h2 (by omega) (by omega)
                        have hc' : (c == 0) = true := by simpa using hc
                        by_cases hWL : W = L
                        · have HS1 : stepB 60 l (p1.map PN.nd) r1 = true := by
                            rw [HSW.out]
                            simp [hc, hWL]
                          have HP' : Hid ((0 < 2 → stepB 1 l (p0.map PN.nd) r0 = true) ∧ (1 < 2 → stepB 60 l (p1.map PN.nd) r1 = true) ∧ (2 < 2 → stepB 3600 l (p2.map PN.nd) r2 = true)) := ⟨fun _ => HP.out.1 (by omega), fun _ => HS1, fun h => by omega⟩
                          have hd : decide (W = L) = true := by simpa using hWL
                          simp only [hd] at sm
                          have SM := hideM sm
                          clear HSW HFk HNb HP hd hWL HS1 sm hc
                          go_wp2_with (first
                        | (go_at_call 21; refine (sz _).mono ?_; rintro e w3 ⟨rfl, hb3⟩; have rb3 := rb1.below hb3 lb1; have lb3 := rb3.lt; have hw3 : Below wr.heap.size wr w3 := hb3; have hr3 := hrw.up hb3)
                        | (go_at_call 20; refine (conR _ hr3).mono ?_; rintro e w4 ⟨⟨v4, rfl, ho4⟩, hb4⟩; obtain ⟨WA, WC, hv4, -, -, -, hr4⟩ := own_row ho4; subst hv4; have rb4 := rb3.below hb4 lb3; have lb4 := rb4.lt; have y4 := (fun j => rb4.cell j); have hw4 : Below w.heap.size w w4 := nextB (nextB hwr (Nat.le_refl _) hb3) (Nat.le_refl _) hb4)
                        | (go_at_call 22; refine (g2 _ (h1.up hw4)).mono ?_; rintro e w5 ⟨hb5, v5, rfl, ho5⟩; obtain ⟨LA, LC, hv5, -, -, -, hr5⟩ := own_row ho5; subst hv5; have h25 : Below w2.heap.size w2 w5 := nextB (nextB (nextB hb (Nat.le_refl _) hb3) (Nat.le_refl _) hb4) (Nat.le_refl _) hb5)
                        | (go_at_call 23; refine (SM.out _ _ _ _ _ (hr4.up hb5) hr5).mono ?_; rintro e w6 ⟨rfl, hb6⟩))
                          exact ⟨⟨2, by omega, by go_num, .inl ⟨rfl, HP'⟩, nextB h25 (Nat.le_refl _) hb6⟩, by simp only [intOf]; omega⟩
                        · have HF : Hid (nb = false) := HFk.out (by rw [HSW.out]; simp [hWL])
                          have hd : decide (W = L) = false := by simpa using hWL
                          simp only [hd] at sm
                          have SM := hideM sm
                          clear HSW HFk HNb HP hd hWL sm hc
                          go_wp2_with (first
                        | (go_at_call 21; refine (sz _).mono ?_; rintro e w3 ⟨rfl, hb3⟩; have rb3 := rb1.below hb3 lb1; have lb3 := rb3.lt; have hw3 : Below wr.heap.size wr w3 := hb3; have hr3 := hrw.up hb3)
                        | (go_at_call 20; refine (conR _ hr3).mono ?_; rintro e w4 ⟨⟨v4, rfl, ho4⟩, hb4⟩; obtain ⟨WA, WC, hv4, -, -, -, hr4⟩ := own_row ho4; subst hv4; have rb4 := rb3.below hb4 lb3; have lb4 := rb4.lt; have y4 := (fun j => rb4.cell j); have hw4 : Below w.heap.size w w4 := nextB (nextB hwr (Nat.le_refl _) hb3) (Nat.le_refl _) hb4)
                        | (go_at_call 22; refine (g2 _ (h1.up hw4)).mono ?_; rintro e w5 ⟨hb5, v5, rfl, ho5⟩; obtain ⟨LA, LC, hv5, -, -, -, hr5⟩ := own_row ho5; subst hv5; have h25 : Below w2.heap.size w2 w5 := nextB (nextB (nextB hb (Nat.le_refl _) hb3) (Nat.le_refl _) hb4) (Nat.le_refl _) hb5)
                        | (go_at_call 23; refine (SM.out _ _ _ _ _ (hr4.up hb5) hr5).mono ?_; rintro e w6 ⟨rfl, hb6⟩))
                          exact ⟨⟨2, by omega, by go_num, .inr ⟨rfl, by omega, HF⟩, nextB h25 (Nat.le_refl _) hb6⟩, by simp only [intOf]; omega⟩
                      · have HF : Hid (nb = false) := HFk.out (by rw [HSW.out]; simp [hc])
                        have hc' : (c == 0) = false := by simpa using hc
                        clear HSW HFk HNb HP
                        go_wp2_with (first
                        | (go_at_call 21; refine (sz _).mono ?_; rintro e w3 ⟨rfl, hb3⟩; have rb3 := rb1.below hb3 lb1; have lb3 := rb3.lt; have hw3 : Below wr.heap.size wr w3 := hb3; have hr3 := hrw.up hb3)
                        | (go_at_call 20; refine (conR _ hr3).mono ?_; rintro e w4 ⟨⟨v4, rfl, ho4⟩, hb4⟩; obtain ⟨WA, WC, hv4, -, -, -, hr4⟩ := own_row ho4; subst hv4; have rb4 := rb3.below hb4 lb3; have lb4 := rb4.lt; have y4 := (fun j => rb4.cell j); have hw4 : Below w.heap.size w w4 := nextB (nextB hwr (Nat.le_refl _) hb3) (Nat.le_refl _) hb4)
                        | (go_at_call 22; refine (g2 _ (h1.up hw4)).mono ?_; rintro e w5 ⟨hb5, v5, rfl, ho5⟩; obtain ⟨LA, LC, hv5, -, -, -, hr5⟩ := own_row ho5; subst hv5; have h25 : Below w2.heap.size w2 w5 := nextB (nextB (nextB hb (Nat.le_refl _) hb3) (Nat.le_refl _) hb4) (Nat.le_refl _) hb5))
                        exact ⟨⟨2, by omega, by go_num, .inr ⟨rfl, by omega, HF⟩, h25⟩, by simp only [intOf]; omega⟩
                  · have sz : ∀ w', Calls Tryd.prog 21 #[.int .i64 2] w' fun e w'' => e = .returned (.int .i64 3600) ∧ Below w'.heap.size w' w'' := fun w' => by
                      have := sizeR_any 2 (by decide) w'
                      simpa using this
                    have g2 := fun w' hN => allOf_all A2 C2 r2 0 1099511627776 p2 w' hN
                    have hll := allP_len (p2.map PN.nd) r2 0 1099511627776
                    have HS : Hid (stepB 3600 l (p2.map PN.nd) r2 = match rollP 3600 l with | none => false | some W => decide ((allP (p2.map PN.nd) r2 0 1099511627776).1 = 0) && decide (W = (allP (p2.map PN.nd) r2 0 1099511627776).2)) := rfl
                    have HFk : Hid (stepB 3600 l (p2.map PN.nd) r2 = false → nb = false) := fun q => by
                      rw [HNb.out, q]
                      simp
                    generalize allP (p2.map PN.nd) r2 0 1099511627776 = P at g2 hll HS
                    obtain ⟨c, L⟩ := P
                    simp only at g2 hll HS
                    cases hroll : rollP 3600 l with
                    | none =>
                      have HF : Hid (nb = false) := HFk.out (by rw [HS.out, hroll])
                      have conR : ∀ w', RowAt w'.heap.size w' VA (flatE l) → Calls Tryd.prog 20 #[.slice VA l.length VC, .int .i64 3600] w' fun e w'' => e = .returned (.tuple #[.slice none 0 0, .bool false]) ∧ Below w'.heap.size w' w'' := fun w' hr => rolled_any VA VC l 3600 (Or.inr (Or.inr rfl)) w' hr hlen hfc.2.1 hfc.2.2 _ (fun e w'' q1 _ q3 => ⟨q3 hroll, q1⟩)
                      clear HS HFk hroll HNb HP
                      go_wp2_with (first
                        | (go_at_call 21; refine (sz _).mono ?_; rintro e w3 ⟨rfl, hb3⟩; have rb3 := rb1.below hb3 lb1; have lb3 := rb3.lt; have hw3 : Below wr.heap.size wr w3 := hb3; have hr3 := hrw.up hb3)
                        | (go_at_call 20; refine (conR _ hr3).mono ?_; rintro e w4 ⟨rfl, hb4⟩; have rb4 := rb3.below hb4 lb3; have lb4 := rb4.lt; have y4 := (fun j => rb4.cell j); have hw4 : Below w.heap.size w w4 := nextB (nextB hwr (Nat.le_refl _) hb3) (Nat.le_refl _) hb4)
                        | (go_at_call 22; refine (g2 _ (h2.up hw4)).mono ?_; rintro e w5 ⟨hb5, v5, rfl, ho5⟩; obtain ⟨LA, LC, hv5, -, -, -, hr5⟩ := own_row ho5; subst hv5; have h25 : Below w2.heap.size w2 w5 := nextB (nextB (nextB hb (Nat.le_refl _) hb3) (Nat.le_refl _) hb4) (Nat.le_refl _) hb5))
                      exact ⟨⟨3, by omega, by go_num, .inr ⟨rfl, by omega, HF⟩, h25⟩, by simp only [intOf]; omega⟩
                    | some W =>
                      have hWl := roll_len hfc.2.1 hroll
                      have conR : ∀ w', RowAt w'.heap.size w' VA (flatE l) → Calls Tryd.prog 20 #[.slice VA l.length VC, .int .i64 3600] w' fun e w'' => (∃ v, e = .returned (.tuple #[v, .bool true]) ∧ w''.ownsRow w'.heap.size 61 7 v W.length (flatE W)) ∧ Below w'.heap.size w' w'' := fun w' hr => rolled_any VA VC l 3600 (Or.inr (Or.inr rfl)) w' hr hlen hfc.2.1 hfc.2.2 _ (fun e w'' q1 q2 _ => ⟨q2 W hroll, q1⟩)
                      have HSW : Hid (stepB 3600 l (p2.map PN.nd) r2 = (decide (c = 0) && decide (W = L))) := by
                        show _ = _
                        rw [HS.out, hroll]
                      clear HS hroll
                      by_cases hc : c = 0
                      · have sm := fun A' B' C' D' w' h1 h2 => sameR_any A' B' C' D' W L w' h1 h2 (by omega) (by omega)
                        have hc' : (c == 0) = true := by simpa using hc
                        by_cases hWL : W = L
                        · have HS1 : stepB 3600 l (p2.map PN.nd) r2 = true := by
                            rw [HSW.out]
                            simp [hc, hWL]
                          have HP' : Hid ((0 < 3 → stepB 1 l (p0.map PN.nd) r0 = true) ∧ (1 < 3 → stepB 60 l (p1.map PN.nd) r1 = true) ∧ (2 < 3 → stepB 3600 l (p2.map PN.nd) r2 = true)) := ⟨fun _ => HP.out.1 (by omega), fun _ => HP.out.2.1 (by omega), fun _ => HS1⟩
                          have hd : decide (W = L) = true := by simpa using hWL
                          simp only [hd] at sm
                          have SM := hideM sm
                          clear HSW HFk HNb HP hd hWL HS1 sm hc
                          go_wp2_with (first
                        | (go_at_call 21; refine (sz _).mono ?_; rintro e w3 ⟨rfl, hb3⟩; have rb3 := rb1.below hb3 lb1; have lb3 := rb3.lt; have hw3 : Below wr.heap.size wr w3 := hb3; have hr3 := hrw.up hb3)
                        | (go_at_call 20; refine (conR _ hr3).mono ?_; rintro e w4 ⟨⟨v4, rfl, ho4⟩, hb4⟩; obtain ⟨WA, WC, hv4, -, -, -, hr4⟩ := own_row ho4; subst hv4; have rb4 := rb3.below hb4 lb3; have lb4 := rb4.lt; have y4 := (fun j => rb4.cell j); have hw4 : Below w.heap.size w w4 := nextB (nextB hwr (Nat.le_refl _) hb3) (Nat.le_refl _) hb4)
                        | (go_at_call 22; refine (g2 _ (h2.up hw4)).mono ?_; rintro e w5 ⟨hb5, v5, rfl, ho5⟩; obtain ⟨LA, LC, hv5, -, -, -, hr5⟩ := own_row ho5; subst hv5; have h25 : Below w2.heap.size w2 w5 := nextB (nextB (nextB hb (Nat.le_refl _) hb3) (Nat.le_refl _) hb4) (Nat.le_refl _) hb5)
                        | (go_at_call 23; refine (SM.out _ _ _ _ _ (hr4.up hb5) hr5).mono ?_; rintro e w6 ⟨rfl, hb6⟩))
                          exact ⟨⟨3, by omega, by go_num, .inl ⟨rfl, HP'⟩, nextB h25 (Nat.le_refl _) hb6⟩, by simp only [intOf]; omega⟩
                        · have HF : Hid (nb = false) := HFk.out (by rw [HSW.out]; simp [hWL])
                          have hd : decide (W = L) = false := by simpa using hWL
                          simp only [hd] at sm
                          have SM := hideM sm
                          clear HSW HFk HNb HP hd hWL sm hc
                          go_wp2_with (first
                        | (go_at_call 21; refine (sz _).mono ?_; rintro e w3 ⟨rfl, hb3⟩; have rb3 := rb1.below hb3 lb1; have lb3 := rb3.lt; have hw3 : Below wr.heap.size wr w3 := hb3; have hr3 := hrw.up hb3)
                        | (go_at_call 20; refine (conR _ hr3).mono ?_; rintro e w4 ⟨⟨v4, rfl, ho4⟩, hb4⟩; obtain ⟨WA, WC, hv4, -, -, -, hr4⟩ := own_row ho4; subst hv4; have rb4 := rb3.below hb4 lb3; have lb4 := rb4.lt; have y4 := (fun j => rb4.cell j); have hw4 : Below w.heap.size w w4 := nextB (nextB hwr (Nat.le_refl _) hb3) (Nat.le_refl _) hb4)
                        | (go_at_call 22; refine (g2 _ (h2.up hw4)).mono ?_; rintro e w5 ⟨hb5, v5, rfl, ho5⟩; obtain ⟨LA, LC, hv5, -, -, -, hr5⟩ := own_row ho5; subst hv5; have h25 : Below w2.heap.size w2 w5 := nextB (nextB (nextB hb (Nat.le_refl _) hb3) (Nat.le_refl _) hb4) (Nat.le_refl _) hb5)
                        | (go_at_call 23; refine (SM.out _ _ _ _ _ (hr4.up hb5) hr5).mono ?_; rintro e w6 ⟨rfl, hb6⟩))
                          exact ⟨⟨3, by omega, by go_num, .inr ⟨rfl, by omega, HF⟩, nextB h25 (Nat.le_refl _) hb6⟩, by simp only [intOf]; omega⟩
                      · have HF : Hid (nb = false) := HFk.out (by rw [HSW.out]; simp [hc])
                        have hc' : (c == 0) = false := by simpa using hc
                        clear HSW HFk HNb HP
                        go_wp2_with (first
                        | (go_at_call 21; refine (sz _).mono ?_; rintro e w3 ⟨rfl, hb3⟩; have rb3 := rb1.below hb3 lb1; have lb3 := rb3.lt; have hw3 : Below wr.heap.size wr w3 := hb3; have hr3 := hrw.up hb3)
                        | (go_at_call 20; refine (conR _ hr3).mono ?_; rintro e w4 ⟨⟨v4, rfl, ho4⟩, hb4⟩; obtain ⟨WA, WC, hv4, -, -, -, hr4⟩ := own_row ho4; subst hv4; have rb4 := rb3.below hb4 lb3; have lb4 := rb4.lt; have y4 := (fun j => rb4.cell j); have hw4 : Below w.heap.size w w4 := nextB (nextB hwr (Nat.le_refl _) hb3) (Nat.le_refl _) hb4)
                        | (go_at_call 22; refine (g2 _ (h2.up hw4)).mono ?_; rintro e w5 ⟨hb5, v5, rfl, ho5⟩; obtain ⟨LA, LC, hv5, -, -, -, hr5⟩ := own_row ho5; subst hv5; have h25 : Below w2.heap.size w2 w5 := nextB (nextB (nextB hb (Nat.le_refl _) hb3) (Nat.le_refl _) hb4) (Nat.le_refl _) hb5))
                        exact ⟨⟨3, by omega, by go_num, .inr ⟨rfl, by omega, HF⟩, h25⟩, by simp only [intOf]; omega⟩
                  · have H1 : Hid (nb = true) := by
                      show nb = true
                      rw [HNb.out, HP.out.1 (by omega), HP.out.2.1 (by omega), HP.out.2.2 (by omega)]
                      rfl
                    clear HP HNb
                    go_wp2_with fail
                    go_ret
                    exact ⟨by rw [H1.out]; rfl, hwr⟩
                · by_cases hk3 : k < 3
                  · go_wp2_with fail
                    go_ret
                    exact ⟨by rw [HF.out]; rfl, hwr⟩
                  · go_wp2_with fail
                    go_ret
                    exact ⟨by rw [HF.out]; rfl, hwr⟩
      · have HF : Hid (nb = false) := by
          show nb = false
          rw [HN.out]
          unfold baseB
          simp [km]
        have km' : (f % 3600 != 0) = true := by simpa using km
        clear HN bkc
        go_enter Tryd.func7, Tryd.ntmps7
        go_wp2_with (first | (go_at_call 17; refine (in_any _ _ _ _).mono ?_; rintro e w1 ⟨rfl, hw1⟩; subst w1))
        go_ret
        exact ⟨by rw [HF.out]; rfl, b0 _⟩
    · have kf' : inB f 0 1048575 = false := by simpa using kf
      have HF : Hid (nb = false) := by
        show nb = false
        rw [HN.out]
        unfold baseB
        simp [kf']
      clear HN bkc
      go_enter Tryd.func7, Tryd.ntmps7
      go_wp2_with (first | (go_at_call 17; refine (in_any _ _ _ _).mono ?_; rintro e w1 ⟨rfl, hw1⟩; subst w1))
      go_ret
      exact ⟨by rw [HF.out]; rfl, b0 _⟩
  · have HF : Hid (nb = false) := by
      show nb = false
      rw [HN.out]
      unfold baseB
      simp [k16]
    have k16' : 16 < (ss.length : Int) := by omega
    clear HN bkc
    go_enter Tryd.func7, Tryd.ntmps7
    go_wp2_with fail
    go_ret
    exact ⟨by rw [HF.out]; rfl, b0 _⟩

end Go.Proofs.YtndojgeodmddoadDoor

/- The small functions of package base. -/
namespace Go.Proofs.YtndojgeodmddoadDoor
open Go.RowKit Plain

theorem btime_any (t : Int) (w : World) : Calls Tryd.prog 14 #[.int .i64 t] w fun e w' => e = .returned (.bool (inB t 0 1048575)) ∧ w' = w := by
  by_cases h1 : 0 ≤ t <;> by_cases h2 : t ≤ 1048575 <;>
  · go_enter Tryd.func14, Tryd.ntmps14
    go_wp2
    go_ret
    exact ⟨by simp [inB, h1, h2], rfl⟩

theorem place_any (k : Int) (w : World) (h : 0 ≤ k ∧ k < 1099511627776) : Calls Tryd.prog 50 #[.int .i64 k] w fun e w' => e = .returned (.int .i64 (k / 1048576)) ∧ w' = w := by
  go_enter Tryd.func50, Tryd.ntmps50
  go_wp2
  go_ret
  exact ⟨rfl, rfl⟩

theorem timeOf_any (k : Int) (w : World) (h : 0 ≤ k ∧ k < 1099511627776) : Calls Tryd.prog 28 #[.int .i64 k] w fun e w' => e = .returned (.int .i64 (k % 1048576)) ∧ w' = w := by
  go_enter Tryd.func28, Tryd.ntmps28
  go_wp2
  go_ret
  exact ⟨rfl, rfl⟩

theorem begin_any (t s : Int) (w : World) (h : 0 ≤ t ∧ t < 1099511627776) (hs : s = 1 ∨ s = 60 ∨ s = 3600) : Calls Tryd.prog 46 #[.int .i64 t, .int .i64 s] w fun e w' => e = .returned (.int .i64 (t - t % s)) ∧ w' = w := by
  have hm : ∀ q : Int, q = 1 ∨ q = 60 ∨ q = 3600 → 0 ≤ t % q ∧ t % q ≤ t := by
    rintro q (rfl | rfl | rfl) <;> omega
  have hq := hm s hs
  rcases hs with rfl | rfl | rfl <;>
  · go_enter Tryd.func46, Tryd.ntmps46
    go_wp2
    go_ret
    first | exact ⟨rfl, rfl⟩ | exact ⟨by simp, rfl⟩

theorem keyOf_any (p t : Int) (w : World) (hp : 0 ≤ p ∧ p < 1048576) (ht : 0 ≤ t ∧ t < 1048576) : Calls Tryd.prog 45 #[.int .i64 p, .int .i64 t] w fun e w' => e = .returned (.int .i64 (p * 1048576 + t)) ∧ w' = w := by
  go_enter Tryd.func45, Tryd.ntmps45
  go_wp2
  go_ret
  exact ⟨rfl, rfl⟩

/-- The table of sizes, as it is laid. -/
structure SzAt (w : World) : Prop where
  c0 : w.cell? ⟨0, 0, none⟩ = some (.int .i64 1)
  c1 : w.cell? ⟨0, 1, none⟩ = some (.int .i64 60)
  c2 : w.cell? ⟨0, 2, none⟩ = some (.int .i64 3600)
  lt : 0 < w.heap.size

theorem SzAt.below {w w' : World} (h : SzAt w) (hb : Below w.heap.size w w') : SzAt w' :=
  ⟨(hb.cell (p := ⟨0, 0, none⟩) h.lt).trans h.c0, (hb.cell (p := ⟨0, 1, none⟩) h.lt).trans h.c1, (hb.cell (p := ⟨0, 2, none⟩) h.lt).trans h.c2, Nat.lt_of_lt_of_le h.lt hb.size⟩

theorem isFloor_any (t : Int) (w : World) (hs : SzAt w) (ht : 0 ≤ t ∧ t < 1099511627776) : Calls Tryd.prog 15 #[.int .i64 t] w fun e w' => e = .returned (.bool (decide (t % 3600 = 0))) ∧ w' = w := by
  obtain ⟨c0, c1, c2, hl⟩ := hs
  by_cases h : t % 3600 = 0
  · have h' : (t % 3600 == 0) = true := by simpa using h
    go_enter Tryd.func15, Tryd.ntmps15
    go_wp2
    go_ret
    exact ⟨by simp [h], rfl⟩
  · have h' : (t % 3600 == 0) = false := by simpa using h
    go_enter Tryd.func15, Tryd.ntmps15
    go_wp2
    go_ret
    exact ⟨by simp [h], rfl⟩

end Go.Proofs.YtndojgeodmddoadDoor

/- Package base's looks at a base's trees. -/
namespace Go.Proofs.YtndojgeodmddoadDoor
open Go.RowKit Plain

set_option maxHeartbeats 1000000 in
theorem ball_any (A : Option Addr) (C : Nat) (r : Int) (ps : List PN) (w : World) (hN : NodesAt w.heap.size w A ps) (hwf : ∀ p ∈ ps, p.wf) :
    Calls Tryd.prog 37 #[.agg #[.slice A ps.length C, .int .i64 r]] w
      fun e w' => Below w.heap.size w w' ∧ ∃ v, e = .returned (.tuple #[v, .int .i64 (allP (ps.map PN.nd) r 0 1099511627776).1]) ∧ w'.ownsRow w.heap.size 61 7 v (allP (ps.map PN.nd) r 0 1099511627776).2.length (flatE (allP (ps.map PN.nd) r 0 1099511627776).2) := by
  have g := fun w' hN => all_any A C r 0 9223372036854775807 ps w' hN hwf
  simp only [allP_max] at g
  generalize allP (ps.map PN.nd) r 0 1099511627776 = P at g
  obtain ⟨c, L⟩ := P
  simp only at g
  have b0 : ∀ o : Obj, Below w.heap.size w (w.alloc o) := fun o => (Below.refl _ _).alloc (Nat.le_refl _) o
  go_enter Tryd.func37, Tryd.ntmps37
  go_wp2_with (go_at_call 44; refine (g _ (hN.up (b0 _))).mono ?_; rintro e w1 ⟨hb1, v, rfl, ho⟩)
  exact bodyPost_ret (v := .tuple #[v, .int .i64 c]) (by simp [results, Tryd.results37, go_sem]) rfl ⟨nextB (b0 _) (Nat.le_refl _) hb1, v, rfl, own_mono ho (by simp)⟩

set_option maxRecDepth 20000 in
set_option maxHeartbeats 1000000 in
theorem equalE_any (A A' : Option Addr) (C C' : Nat) (xs ys : List En) (w : World) (h : RowAt w.heap.size w A (flatE xs)) (h' : RowAt w.heap.size w A' (flatE ys)) (hz : xs.length * 56 ≤ 140737488351232) (hz' : ys.length * 56 ≤ 140737488351232) :
    Calls Tryd.prog 40 #[.slice A xs.length C, .slice A' ys.length C'] w fun e w' => e = .returned (.bool (decide (xs = ys))) ∧ Below w.heap.size w w' := by
  obtain ⟨nb, hnb⟩ : ∃ nb, nb = decide (xs = ys) := ⟨_, rfl⟩
  rw [← hnb]
  by_cases hl : xs.length = ys.length
  · have HN : Hid (nb = decide (xs = ys)) := hnb
    clear hnb
    go_enter Tryd.func40, Tryd.ntmps40
    go_wp2_with fail
    have hl' : (xs.length : Int) = (ys.length : Int) := by omega
    go_loopw [13] (fun vi wr => ∃ i : Nat, i ≤ xs.length ∧ vi = .int .i64 i ∧ Hid (xs.take i = ys.take i) ∧ Below w.heap.size w wr) (fun vi _ => xs.length - (intOf vi).toNat)
    case atStart => exact ⟨0, Nat.zero_le _, rfl, (by show _ = _; simp), Below.refl _ _⟩
    case round =>
      obtain ⟨i, hi, rfl, HT, hb⟩ := hrel
      by_cases hlt : i < xs.length
      · have hlt' : i < ys.length := by omega
        obtain ⟨b, o, rfl, hbl, c0, c1, c2, c3, c4, c5, c6⟩ := (h.below hb (Nat.le_refl _)).en hlt
        obtain ⟨b', o', rfl, hbl', d0, d1, d2, d3, d4, d5, d6⟩ := (h'.below hb (Nat.le_refl _)).en hlt'
        have hsz := hb.size
        have l1 : b < wr.heap.size := by omega
        have l2 : b' < wr.heap.size := by omega
        by_cases hxy : xs[i] = ys[i]
        · have HT' : Hid (xs.take (i + 1) = ys.take (i + 1)) := by
            show _ = _
            rw [List.take_succ_eq_append_getElem hlt, List.take_succ_eq_append_getElem hlt', HT.out, hxy]
          rw [hxy] at c0 c1 c2 c3 c4 c5 c6
          clear hxy HT
          generalize ys[i] = y at *
          go_wp2_with fail
          go_quiet (fail)
          go_wp2_with fail
          go_roundw
          case rel =>
            go_light
            exact ⟨i + 1, hlt, by go_num, HT', below_drewN hb _⟩
          case measure => simp [intOf]; omega
        · have HF : Hid (nb = false) := by
            show nb = false
            rw [HN.out, decide_eq_false_iff_not]
            intro e
            subst e
            exact hxy rfl
          have hne := en_ne hxy
          clear HT HN hxy
          generalize xs[i] = x at *
          generalize ys[i] = y at *
          rcases hne with k0 | ⟨k0, k1⟩ | ⟨k0, k1, k2⟩ | ⟨k0, k1, k2, k3⟩ | ⟨k0, k1, k2, k3, k4⟩ | ⟨k0, k1, k2, k3, k4, k5⟩ | ⟨k0, k1, k2, k3, k4, k5, k6⟩
          all_goals
            go_wp2_with fail
            go_quiet (fail)
            go_wp2_with fail
            go_ret
            exact ⟨by rw [HF.out]; rfl, below_drewN hb _⟩
      · have HE : Hid (nb = true) := by
          show nb = true
          have q := HT.out
          rw [List.take_of_length_le (by omega), List.take_of_length_le (by omega)] at q
          rw [HN.out, q]
          simp
        go_wp2_with fail
        go_ret
        exact ⟨by rw [HE.out]; rfl, hb⟩
  · have HF : Hid (nb = false) := by
      show nb = false
      rw [hnb]
      simp only [decide_eq_false_iff_not]
      intro e
      exact hl (by rw [e])
    clear hnb
    go_enter Tryd.func40, Tryd.ntmps40
    go_wp2_with fail
    go_ret
    exact ⟨by rw [HF.out]; rfl, Below.refl _ _⟩

theorem place_q (k : Int) (w : World) (h : 0 ≤ k ∧ k < 1099511627776) : Calls Tryd.prog 50 #[.int .i64 k] w fun e w' => e = .returned (.int .i64 (k / 1048576)) ∧ ∃ m, w' = w.drewN m :=
  (place_any k w h).mono fun _ _ ⟨h1, h2⟩ => ⟨h1, 0, by rw [h2]; rfl⟩

set_option maxRecDepth 20000 in
set_option maxHeartbeats 1000000 in
theorem points_any (A : Option Addr) (C : Nat) (ss : List ByteArray) (t0 t1 t2 : TR) (f : Int) (VA : Option Addr) (VC : Nat) (L : List En) (w : World) (h : RowAt w.heap.size w VA (flatE L)) (hz : L.length ≤ 28000) (hk : ∀ x ∈ L, 0 ≤ x.key ∧ x.key < 1099511627776) :
    Calls Tryd.prog 38 #[.agg (baseV A C ss t0 t1 t2 f).toArray, .slice VA L.length VC] w fun e w' => e = .returned (.bool (L.all (pointB ss.length f))) ∧ Below w.heap.size w w' := by
  have b0 : ∀ o : Obj, Below w.heap.size w (w.alloc o) := fun o => (Below.refl _ _).alloc (Nat.le_refl _) o
  obtain ⟨nb, hnb⟩ : ∃ nb, nb = L.all (pointB ss.length f) := ⟨_, rfl⟩
  have HN : Hid (nb = L.all (pointB ss.length f)) := hnb
  rw [← hnb]
  clear hnb
  obtain ⟨A0, C0, p0, r0⟩ := t0
  obtain ⟨A1, C1, p1, r1⟩ := t1
  obtain ⟨A2, C2, p2, r2⟩ := t2
  simp only [baseV] at *
  go_enter Tryd.func38, Tryd.ntmps38
  go_wp2_with fail
  obtain ⟨w1, hw1⟩ : ∃ w1, w1 = w.alloc (.cells #[.slice A ss.length C, .slice A0 p0.length C0, .int .i64 r0, .slice A1 p1.length C1, .int .i64 r1, .slice A2 p2.length C2, .int .i64 r2, .int .i64 f] 28) := ⟨_, rfl⟩
  have rb : RowL w1 w.heap.size 28 [.slice A ss.length C, .slice A0 p0.length C0, .int .i64 r0, .slice A1 p1.length C1, .int .i64 r1, .slice A2 p2.length C2, .int .i64 r2, .int .i64 f] := by
    rw [hw1]
    exact rowL_alloc w _ _
  have hbw : Below w.heap.size w w1 := by
    rw [hw1]
    exact b0 _
  rw [← hw1]
  clear hw1
  have z1 := rb.lt
  go_loopw [10] (fun vi wr => ∃ i : Nat, i ≤ L.length ∧ vi = .int .i64 i ∧ Hid ((L.take i).all (pointB ss.length f) = true) ∧ Below w1.heap.size w1 wr) (fun vi _ => L.length - (intOf vi).toNat)
  case atStart => exact ⟨0, Nat.zero_le _, rfl, (by show _ = _; simp), Below.refl _ _⟩
  case round =>
    obtain ⟨i, hi, rfl, HA, hb⟩ := hrel
    have hwr : Below w.heap.size w wr := nextB hbw (Nat.le_refl _) hb
    have rb1 := rb.below hb z1
    have y0 := rb1.cell 0
    have y7 := rb1.cell 7
    simp only [List.getElem?_cons_zero, List.getElem?_cons_succ] at y0 y7
    have hsz := hwr.size
    have lb := rb1.lt
    have lb1 : w.heap.size < wr.heap.size + 1 := by omega
    by_cases hlt : i < L.length
    · obtain ⟨b, o, rfl, hbl, c0, c1, c2, c3, c4, c5, c6⟩ := (h.below hwr (Nat.le_refl _)).en hlt
      have hbr : b < wr.heap.size := by omega
      have hki := hk _ (List.getElem_mem hlt)
      have HT : Hid ((L.take (i + 1)).all (pointB ss.length f) = ((L.take i).all (pointB ss.length f) && pointB ss.length f L[i])) := by
        show _ = _
        rw [List.take_succ_eq_append_getElem hlt, List.all_append]
        simp
      have HF : Hid (pointB ss.length f L[i] = false → nb = false) := fun q => by
        rw [HN.out]
        cases ha : L.all (pointB ss.length f) with
        | false => rfl
        | true =>
          rw [List.all_eq_true] at ha
          rw [ha _ (List.getElem_mem hlt)] at q
          cases q
      obtain ⟨x, hx⟩ : ∃ x, L[i] = x := ⟨_, rfl⟩
      rw [hx] at c0 c1 c2 c3 c4 c5 c6 hki HT HF
      have HP : Hid (pointB ss.length f x = (decide (x.key / 1048576 < ss.length) && (decide (f ≤ x.key % 1048576) && decide (x.t = x.key % 1048576)))) := rfl
      by_cases k1 : x.key / 1048576 < ss.length
      · have k1' : decide ((ss.length : Int) ≤ x.key / 1048576) = false := by simpa using k1
        by_cases k2 : f ≤ x.key % 1048576
        · have k2' : decide (x.key % 1048576 < f) = false := by simpa using k2
          by_cases k3 : x.key % 1048576 = x.t
          · have k3' : (x.key % 1048576 != x.t) = false := by simpa using k3
            have H1 : Hid ((L.take (i + 1)).all (pointB ss.length f) = true) := by
              show _ = _
              rw [HT.out, HA.out, HP.out, decide_eq_true k1, decide_eq_true k2, decide_eq_true k3.symm]
              rfl
            clear HF HT HP HA k3
            go_wp2_with (go_at_call 28; refine (timeOf_any x.key _ hki).mono ?_; rintro e w2 ⟨rfl, hw2⟩; subst w2)
            go_quiet (refine Calls.quiet_of (place_q x.key _ hki))
            go_wp2_with fail
            go_roundw
            case rel =>
              go_light
              exact ⟨i + 1, hlt, by go_num, H1, below_drewN (hb.alloc (by have := hb.size; omega) _) _⟩
            case measure => simp [intOf]; omega
          · have k3' : (x.key % 1048576 != x.t) = true := by simpa using k3
            have H1 : Hid (nb = false) := HF.out (by rw [HP.out]; simp [Ne.symm k3])
            clear HF HT HP HA HN
            go_wp2_with (go_at_call 28; refine (timeOf_any x.key _ hki).mono ?_; rintro e w2 ⟨rfl, hw2⟩; subst w2)
            go_quiet (refine Calls.quiet_of (place_q x.key _ hki))
            go_wp2_with fail
            go_ret
            exact ⟨by rw [H1.out]; rfl, below_drewN ((nextB hbw (Nat.le_refl _) hb).alloc (by omega) _) _⟩
        · have k2' : decide (x.key % 1048576 < f) = true := by simpa using k2
          have H1 : Hid (nb = false) := HF.out (by rw [HP.out]; simp [k2])
          clear HF HT HP HA HN
          go_wp2_with (go_at_call 28; refine (timeOf_any x.key _ hki).mono ?_; rintro e w2 ⟨rfl, hw2⟩; subst w2)
          go_quiet (refine Calls.quiet_of (place_q x.key _ hki))
          go_wp2_with fail
          go_ret
          exact ⟨by rw [H1.out]; rfl, below_drewN ((nextB hbw (Nat.le_refl _) hb).alloc (by omega) _) _⟩
      · have k1' : decide ((ss.length : Int) ≤ x.key / 1048576) = true := by simpa using k1
        have H1 : Hid (nb = false) := HF.out (by rw [HP.out]; simp [k1])
        clear HF HT HP HA HN
        go_wp2_with (go_at_call 28; refine (timeOf_any x.key _ hki).mono ?_; rintro e w2 ⟨rfl, hw2⟩; subst w2)
        go_quiet (refine Calls.quiet_of (place_q x.key _ hki))
        go_wp2_with fail
        go_ret
        exact ⟨by rw [H1.out]; rfl, below_drewN ((nextB hbw (Nat.le_refl _) hb).alloc (by omega) _) _⟩
    · have H1 : Hid (nb = true) := by
        show _ = _
        have q := HA.out
        rw [List.take_of_length_le (by omega)] at q
        rw [HN.out, q]
      go_wp2_with fail
      go_ret
      exact ⟨by rw [H1.out]; rfl, hwr⟩

end Go.Proofs.YtndojgeodmddoadDoor

/- base.bucketsOf: what comes of points, in buckets of a size. -/
namespace Go.Proofs.YtndojgeodmddoadDoor
open Go.RowKit Plain

theorem map_get {size : Int} {l : List En} {i : Nat} (hi : i < l.length) : (l.map (bk size))[i]'(by simpa using hi) = bk size l[i] := by simp

set_option maxRecDepth 20000 in
set_option maxHeartbeats 1000000 in
theorem buckets_any (A : Option Addr) (C : Nat) (l : List En) (size : Int) (hs : size = 60 ∨ size = 3600) (w : World) (h : RowAt w.heap.size w A (flatE l)) (hz : l.length ≤ 28000) (hp : l.Pairwise fun a b => a.key < b.key) (hg : ∀ x ∈ l, Good x.ru) (hk : ∀ x ∈ l, 0 ≤ x.key ∧ x.key < 1099511627776) (Q : Ending → World → Prop)
    (HQ : Hid (∀ e w', Below w.heap.size w w' → (∀ ys, rollP size l = some ys → ∃ v, e = .returned (.tuple #[v, .int .i64 0]) ∧ w'.ownsRow w.heap.size 61 7 v ys.length (flatE ys)) → (rollP size l = none → e = .returned (.tuple #[.slice none 0 0, .int .i64 1])) → Q e w')) :
    Calls Tryd.prog 39 #[.slice A l.length C, .int .i64 size] w Q := by
  obtain ⟨i0, hi0, hz0, hz1, hz2⟩ := info_parts infoE
  have HS : Hid ((l.map (bk size)).Pairwise fun a b => a.key ≤ b.key) := bk_sorted hp hs
  go_enter Tryd.func39, Tryd.ntmps39
  go_wp2_with fail
  go_loopw [6, 15] (fun vo vi wr => ∃ (i : Nat) (out : List En), i ≤ l.length ∧ vi = .int .i64 i ∧ Hid (Brg (l.map (bk size)) i out) ∧ out.length ≤ i ∧ wr.ownsRow w.heap.size 61 7 vo out.length (flatE out) ∧ Below w.heap.size w wr) (fun _ vi _ => l.length - (intOf vi).toNat)
  case atStart => exact ⟨0, [], Nat.zero_le _, rfl, brg_start _, by simp, World.ownsRow_nil _ _ _ _, Below.refl _ _⟩
  case round =>
    obtain ⟨i, out, hi, rfl, HB, hol, hown, hb⟩ := hrel
    have hsz := hb.size
    by_cases hlt : i < l.length
    · obtain ⟨b, o, rfl, hbl, c0, c1, c2, c3, c4, c5, c6⟩ := (h.below hb (Nat.le_refl _)).en hlt
      have hbr : b < wr.heap.size := by omega
      have hki := hk _ (List.getElem_mem hlt)
      have hgi := hg _ (List.getElem_mem hlt)
      have hly : i < (l.map (bk size)).length := by simpa using hlt
      have hyi := map_get (size := size) hlt
      obtain ⟨x, hx⟩ : ∃ x, l[i] = x := ⟨_, rfl⟩
      rw [hx] at c0 c1 c2 c3 c4 c5 c6 hki hgi hyi
      have hkm : 0 ≤ x.key % 1048576 ∧ x.key % 1048576 < 1048576 := by omega
      have hkd : 0 ≤ x.key / 1048576 ∧ x.key / 1048576 < 1048576 := by omega
      obtain ⟨tb, htb⟩ : ∃ tb, tb = x.key % 1048576 - x.key % 1048576 % size := ⟨_, rfl⟩
      have htbb : 0 ≤ tb ∧ tb < 1048576 := by rw [htb]; rcases hs with rfl | rfl <;> omega
      obtain ⟨kx, hkx⟩ : ∃ kx, kx = x.key / 1048576 * 1048576 + tb := ⟨_, rfl⟩
      have HX : Hid (bk size x = ⟨kx, x.c, x.s, x.lo, x.hi, x.t, x.l⟩) := by
        show _ = _
        rw [hkx, htb, show x.key / 1048576 * 1048576 + (x.key % 1048576 - x.key % 1048576 % size) = (bk size x).key from (bk_key x size).symm]
        rfl
      have hkxb : 0 ≤ kx ∧ kx < 1099511627776 := by omega
      have q1 : ∀ W, Calls Tryd.prog 50 #[.int .i64 x.key] W fun e w' => e = .returned (.int .i64 (x.key / 1048576)) ∧ ∃ m, w' = W.drewN m := fun W => (place_any x.key W hki).mono fun _ _ ⟨a1, a2⟩ => ⟨a1, 0, by rw [a2]; rfl⟩
      have q2 : ∀ W, Calls Tryd.prog 28 #[.int .i64 x.key] W fun e w' => e = .returned (.int .i64 (x.key % 1048576)) ∧ ∃ m, w' = W.drewN m := fun W => (timeOf_any x.key W hki).mono fun _ _ ⟨a1, a2⟩ => ⟨a1, 0, by rw [a2]; rfl⟩
      have q3 : ∀ W, Calls Tryd.prog 46 #[.int .i64 (x.key % 1048576), .int .i64 size] W fun e w' => e = .returned (.int .i64 tb) ∧ ∃ m, w' = W.drewN m := fun W => (begin_any (x.key % 1048576) size W (by omega) (.inr hs)).mono fun _ _ ⟨a1, a2⟩ => ⟨by rw [a1, htb], 0, by rw [a2]; rfl⟩
      have q4 : ∀ W, Calls Tryd.prog 45 #[.int .i64 (x.key / 1048576), .int .i64 tb] W fun e w' => e = .returned (.int .i64 kx) ∧ ∃ m, w' = W.drewN m := fun W => (keyOf_any (x.key / 1048576) tb W hkd htbb).mono fun _ _ ⟨a1, a2⟩ => ⟨by rw [a1, hkx], 0, by rw [a2]; rfl⟩
      clear htb hkx
      rcases List.eq_nil_or_concat out with rfl | ⟨l', y, rfl⟩
      · have HB' : Hid (Brg (l.map (bk size)) (i + 1) ([] ++ [En.mk kx x.c x.s x.lo x.hi x.t x.l])) := by
          have q := brg_new HS.out HB.out hly (by rw [hyi]; exact hgi) (fun l y e => by simp at e)
          rw [hyi, HX.out] at q
          exact q
        clear HB
        obtain ⟨A0, C0, hv, hr0, hA0⟩ := own_row hown
        simp only [List.length_nil] at hv
        rw [hv]
        go_wp2_with fail
        go_quiet (first | (refine Calls.quiet_of (q1 _)) | (refine Calls.quiet_of (q2 _)) | (refine Calls.quiet_of (q3 _)) | (refine Calls.quiet_of (q4 _)))
        have hownd : (wr.drewN nq).ownsRow w.heap.size 61 7 (.slice A0 0 C0) 0 (flatE []) := by
          rw [← hv]
          exact own_of_block hown (fun _ _ => rfl)
        have hbd := below_drewN hb nq
        go_wp2_with (at_builtin; refine wpList_append_own _ rfl _ _ 46 rfl w.heap.size 61 i0 _ 7 56 Tryd.underlying46 hi0 hz0 hz1 hz2 rfl (by decide) (.slice A0 0 C0) 0 (flatE []) rfl ((hownd.alloc _).alloc _) ⟨wr.heap.size + 1, 0, none⟩ 1 1 (En.mk kx x.c x.s x.lo x.hi x.t x.l).vals rfl rfl (news2 (wr.drewN nq) _ (En.mk kx x.c x.s x.lo x.hi x.t x.l)) (vals_one _) (by unfold maxLen; omega) (by omega) (by simp; omega) ?_; intro v2 w2 hown2 hgrow2 _)
        have R1 := app_below (out := []) (hownd.alloc _) (hbd.alloc (by simpa using hsz) _) (by simp; omega) hgrow2
        go_wp2
        go_roundw
        case rel =>
          go_light
          exact ⟨i + 1, [] ++ [En.mk kx x.c x.s x.lo x.hi x.t x.l], by omega, by go_num, HB', by simp, app_own (out := []) hown2, R1.1⟩
        case measure => simp [intOf]; omega
      · rw [List.concat_eq_append] at HB hol hown
        obtain ⟨g, cap, hv, hgb, hgl⟩ := hown.form (by simp)
        have hl1 : (l' ++ [y]).length = l'.length + 1 := by simp
        rw [hl1] at hv hown hol
        subst hv
        have hE := own_last hown
        obtain ⟨d0, d1, d2, d3, d4, d5, d6⟩ := hE
        have hd0 : decide ((l'.length : Int) < 0) = false := by simp
        have hngw : ¬ g = wr.heap.size := by omega
        by_cases hk0 : y.key = kx
        · have hbs := brg_same HS.out HB.out hly (by rw [hyi]; exact hgi) (by rw [hyi, HX.out]; exact hk0)
          simp only [hyi, HX.out] at hbs
          obtain ⟨hm, hB1, hN1⟩ := hbs
          clear HB
          obtain ⟨J, hJ⟩ : ∃ J : Ru, J = (mrg y.ru x.ru).1 := ⟨_, rfl⟩
          obtain ⟨ec, hec⟩ : ∃ ec : Int, ec = (mrg y.ru x.ru).2 := ⟨_, rfl⟩
          have hm' : mrg y.ru x.ru = if y.c + x.c ≤ 1073741824 then (jn y.ru x.ru, 0) else (zro, 1) := hm
          have HJ : Hid ((ec = 0 ∧ Brg (l.map (bk size)) (i + 1) (l' ++ [mkE y.key J])) ∨ (ec = 1 ∧ rollP size l = none)) := by
            by_cases hc : y.c + x.c ≤ 1073741824
            · left
              rw [hec, hJ, hm', if_pos hc, hk0]
              exact ⟨rfl, hB1 hc⟩
            · right
              rw [hec, hm', if_neg hc]
              exact ⟨rfl, hN1 hc⟩
          have con : ∀ w', Calls Tryd.prog 47 #[.agg #[.int .i64 y.c, .int .i64 y.s, .int .i64 y.lo, .int .i64 y.hi, .int .i64 y.t, .int .i64 y.l], .agg #[.int .i64 x.c, .int .i64 x.s, .int .i64 x.lo, .int .i64 x.hi, .int .i64 x.t, .int .i64 x.l]] w' fun e w'' => e = .returned (.tuple #[.agg #[.int .i64 J.c, .int .i64 J.s, .int .i64 J.lo, .int .i64 J.hi, .int .i64 J.t, .int .i64 J.l], .int .i64 ec]) ∧ Below w'.heap.size w' w'' := by
            intro w'
            have := merge_any y.ru x.ru w'
            rw [← hJ, ← hec] at this
            exact this
          clear hm hm' hJ hec hB1 hN1
          obtain ⟨jc, js, jlo, jhi, jt, jl⟩ := J
          simp only at con
          have hkb : (y.key == kx) = true := by simpa using hk0
          have hkn : (y.key != kx) = false := by simpa using hk0
          clear hk0
          go_wp2_with fail
          go_quiet (first | (refine Calls.quiet_of (q1 _)) | (refine Calls.quiet_of (q2 _)) | (refine Calls.quiet_of (q3 _)) | (refine Calls.quiet_of (q4 _)))
          go_wp2_with fail
          obtain ⟨wd, hwd⟩ : ∃ wd, wd = (wr.alloc (.cells #[.int .i64 x.key, .int .i64 x.c, .int .i64 x.s, .int .i64 x.lo, .int .i64 x.hi, .int .i64 x.t, .int .i64 x.l] 61)).drewN nq := ⟨_, rfl⟩
          have rx : RowL wd wr.heap.size 61 x.vals := by
            rw [hwd]
            exact rowL_alloc wr x.vals _
          have hbd0 : Below wr.heap.size wr wd := by
            rw [hwd]
            exact below_drewN ((Below.refl _ _).alloc (Nat.le_refl _) _) nq
          have hbd : Below w.heap.size w wd := hb.trans (hbd0.mono hsz)
          have hownd : wd.ownsRow w.heap.size 61 7 (.slice (some ⟨g, 0, none⟩) (l'.length + 1) cap) (l'.length + 1) (flatE (l' ++ [y])) := own_of_block hown (fun k hk => hbd0.block k (own_some hown hk).2)
          have hzd : wd.heap.size = wr.heap.size + 1 := by rw [hwd]; simp
          rw [← hwd]
          clear hown hb hbd0 c0 c1 c2 c3 c4 c5 c6 d0 d1 d2 d3 d4 d5 d6 hwd
          obtain ⟨-, d1, d2, d3, d4, d5, d6⟩ := own_last hownd
          have rxx := fun j => rx.cell j
          simp only [En.vals] at rxx
          have x1 := rxx 1
          have x2 := rxx 2
          have x3 := rxx 3
          have x4 := rxx 4
          have x5 := rxx 5
          have x6 := rxx 6
          simp only [List.getElem?_cons_zero, List.getElem?_cons_succ] at x1 x2 x3 x4 x5 x6
          obtain ⟨n, hn⟩ : ∃ n, n = wr.heap.size := ⟨_, rfl⟩
          rw [← hn] at hsz hzd hgl hngw x1 x2 x3 x4 x5 x6 ⊢
          have hgd : g < wd.heap.size := by omega
          have hnd : n < wd.heap.size := by omega
          clear rx rxx hbr hn hzd
          have q0 : (0 : Int) ≤ (l'.length : Int) := by omega
          obtain ⟨m, hm⟩ : ∃ m, m = l'.length + 1 := ⟨_, rfl⟩
          rw [← hm]
          have q1 : (l'.length : Int) < (m : Int) := by omega
          have HM : Hid (m = l'.length + 1) := hm
          clear hm
          have n1 : ¬ g = wd.heap.size := by omega
          have n2 : ¬ n = wd.heap.size := by omega
          have hgd1 : g < wd.heap.size + 1 := by omega
          have hnd1 : n < wd.heap.size + 1 := by omega
          have KS : ∀ (W : World) (b' o' j : Nat) (v : Value), ¬ b' = wd.heap.size → (W.setCell ⟨wd.heap.size, j, none⟩ v).cell? ⟨b', o', none⟩ = W.cell? ⟨b', o', none⟩ := fun W b' o' j v hb => World.cell?_setCell_far _ _ _ _ (fun e => hb e.symm)
          go_cut [11, 12] (fun v8 v9 wc => ∃ rb, v8 = .pointer (some ⟨rb, 0, none⟩) ∧ v9 = .int .i64 ec ∧ wd.heap.size ≤ rb ∧ RowL wc rb 38 [.int .i64 jc, .int .i64 js, .int .i64 jlo, .int .i64 jhi, .int .i64 jt, .int .i64 jl] ∧ Below wd.heap.size wd wc)
          case first =>
            go_region_held3 (fun w' => w'.cell? ⟨g, l'.length * 7 + 1, none⟩ = some (.int .i64 y.c) ∧ w'.cell? ⟨g, l'.length * 7 + 2, none⟩ = some (.int .i64 y.s) ∧ w'.cell? ⟨g, l'.length * 7 + 3, none⟩ = some (.int .i64 y.lo) ∧ w'.cell? ⟨g, l'.length * 7 + 4, none⟩ = some (.int .i64 y.hi) ∧ w'.cell? ⟨g, l'.length * 7 + 5, none⟩ = some (.int .i64 y.t) ∧ w'.cell? ⟨g, l'.length * 7 + 6, none⟩ = some (.int .i64 y.l) ∧ w'.cell? ⟨n, 1, none⟩ = some (.int .i64 x.c) ∧ w'.cell? ⟨n, 2, none⟩ = some (.int .i64 x.s) ∧ w'.cell? ⟨n, 3, none⟩ = some (.int .i64 x.lo) ∧ w'.cell? ⟨n, 4, none⟩ = some (.int .i64 x.hi) ∧ w'.cell? ⟨n, 5, none⟩ = some (.int .i64 x.t) ∧ w'.cell? ⟨n, 6, none⟩ = some (.int .i64 x.l)) (go_keep) (first | (go_at_call 47; refine (con _).mono ?_; rintro e w3 ⟨rfl, hb3⟩; have T3 := (bcells (hb3.mono (show wd.heap.size ≤ _ by simp))).1; first | (have T4 := alloc_rule (W := wd.drew) (n := wd.heap.size) hb3 rfl; obtain ⟨T40, T41, T42, T43, T44, T45, U4⟩ := T4) | skip))
            · go_wp2
              go_meet
              case rel =>
                refine ⟨w3.heap.size, rfl, rfl, ?_, rowL_alloc w3 _ _, ?_⟩
                · have := hb3.size; simpa using this
                · have bw : Below wd.heap.size wd w3 := ((Below.refl wd.heap.size wd).drew).trans (hb3.mono (by simp))
                  exact bw.alloc bw.size _
            · go_wp2
              go_meet
              case rel =>
                have r0 : RowL w3 wd.heap.size 38 [.int .i64 0, .int .i64 0, .int .i64 0, .int .i64 0, .int .i64 0, .int .i64 0] := RowL.below (rowL_alloc wd.drew _ _) hb3 (by simp)
                have bw : Below wd.heap.size wd w3 := (((Below.refl wd.heap.size wd).alloc (Nat.le_refl _) _).drew).trans (hb3.mono (by simp))
                refine ⟨wd.heap.size, rfl, rfl, Nat.le_refl _, (((((r0.set 0 _).set 1 _).set 2 _).set 3 _).set 4 _).set 5 _, ?_⟩
                exact set6 bw (Nat.le_refl _) _ _ _ _ _ _
          case rest =>
            obtain ⟨rb, rfl, rfl, hrb, hrw, hbc⟩ := hcut
            have r0 := hrw.cell 0
            have r1 := hrw.cell 1
            have r2 := hrw.cell 2
            have r3 := hrw.cell 3
            have r4 := hrw.cell 4
            have r5 := hrw.cell 5
            simp only [List.getElem?_cons_zero, List.getElem?_cons_succ] at r0 r1 r2 r3 r4 r5
            have hrl := hrw.lt
            have hcs : wd.heap.size ≤ wc.heap.size := hbc.size
            have hdz := hbd.size
            have hownc : wc.ownsRow w.heap.size 61 7 (.slice (some ⟨g, 0, none⟩) (l'.length + 1) cap) (l'.length + 1) (flatE (l' ++ [y])) := own_of_block hownd (fun k hk => hbc.block k (own_some hownd hk).2)
            have hbcc : Below w.heap.size w wc := hbd.trans (hbc.mono hdz)
            obtain ⟨-, e1, e2, e3, e4, e5, e6⟩ := own_last hownc
            have ef := fun j => hownc.frozenAt j
            have hgc : g < wc.heap.size := by omega
            have n3 : ¬ rb = g := by omega
            have n4 : ¬ g = rb := by omega
            have HO : Hid (wc.ownsRow w.heap.size 61 7 (.slice (some ⟨g, 0, none⟩) (l'.length + 1) cap) (l'.length + 1) (flatE (l' ++ [y]))) := hownc
            clear hownd hownc d1 d2 d3 d4 d5 d6 x1 x2 x3 x4 x5 x6 con KS
            rcases HJ.out with ⟨he, hWA⟩ | ⟨he, hIN⟩
            · subst he
              have HW' : Hid (Brg (l.map (bk size)) (i + 1) (l' ++ [mkE y.key (Ru.mk jc js jlo jhi jt jl)])) := hWA
              clear HJ hWA
              go_wp2_with fail
              go_roundw
              case rel =>
                go_light
                have hm := HM.out
                subst hm
                exact ⟨i + 1, l' ++ [mkE y.key (Ru.mk jc js jlo jhi jt jl)], by omega, by go_num, HW', by simp; omega, (by
                  have q := own_put HO.out (Ru.mk jc js jlo jhi jt jl)
                  rw [← show (l' ++ [mkE y.key (Ru.mk jc js jlo jhi jt jl)]).length = l'.length + 1 by simp] at q
                  simpa using q), below_set (below_set (below_set (below_set (below_set (below_set hbcc hgb _ _) hgb _ _) hgb _ _) hgb _ _) hgb _ _) hgb _ _⟩
              case measure => simp [intOf]; omega
            · subst he
              have HN : Hid (rollP size l = none) := hIN
              clear HJ hIN
              go_wp2_with fail
              refine HQ.out _ _ (hbcc) (fun ys hys => by rw [HN.out] at hys; cases hys) (fun _ => rfl)
        · have HB' : Hid (Brg (l.map (bk size)) (i + 1) (l' ++ [y] ++ [En.mk kx x.c x.s x.lo x.hi x.t x.l])) := by
            have q := brg_new HS.out HB.out hly (by rw [hyi]; exact hgi) (fun l2 y2 e => by
              obtain ⟨_, e2⟩ := List.append_inj' e rfl
              cases e2
              rw [hyi, HX.out]
              exact hk0)
            rw [hyi, HX.out] at q
            exact q
          clear HB
          have hkb : (y.key == kx) = false := by simpa using hk0
          have hkn : (y.key != kx) = true := by simpa using hk0
          go_wp2_with fail
          go_quiet (first | (refine Calls.quiet_of (q1 _)) | (refine Calls.quiet_of (q2 _)) | (refine Calls.quiet_of (q3 _)) | (refine Calls.quiet_of (q4 _)))
          have hownd : (wr.drewN nq).ownsRow w.heap.size 61 7 (.slice (some ⟨g, 0, none⟩) (l'.length + 1) cap) (l'.length + 1) (flatE (l' ++ [y])) := own_of_block hown (fun _ _ => rfl)
          have hbd := below_drewN hb nq
          go_wp2_with (at_builtin; refine wpList_append_own _ rfl _ _ 46 rfl w.heap.size 61 i0 _ 7 56 Tryd.underlying46 hi0 hz0 hz1 hz2 rfl (by decide) (.slice (some ⟨g, 0, none⟩) (l'.length + 1) cap) (l'.length + 1) (flatE (l' ++ [y])) rfl ((hownd.alloc _).alloc _) ⟨wr.heap.size + 1, 0, none⟩ 1 1 (En.mk kx x.c x.s x.lo x.hi x.t x.l).vals rfl rfl (news2 (wr.drewN nq) _ (En.mk kx x.c x.s x.lo x.hi x.t x.l)) (vals_one _) (by unfold maxLen; omega) (by omega) (by simp; omega) ?_; intro v2 w2 hown2 hgrow2 _)
          have R1 := app_below (out := l' ++ [y]) (by rw [hl1]; exact hownd.alloc _) (hbd.alloc (by simpa using hsz) _) (by simp; omega) hgrow2
          go_wp2
          go_roundw
          case rel =>
            go_light
            exact ⟨i + 1, l' ++ [y] ++ [En.mk kx x.c x.s x.lo x.hi x.t x.l], by omega, by go_num, HB', by simp; omega, app_own (out := l' ++ [y]) (by rw [hl1]; exact hown2), R1.1⟩
          case measure => simp [intOf]; omega
    · have HE : Hid (rollP size l = some out) := by
        have q := HB.out
        rw [show i = (l.map (bk size)).length by simp; omega] at q
        exact brg_end q
      clear HB
      go_wp2_with fail
      exact HQ.out _ _ hb (fun ys hys => by rw [HE.out] at hys; cases hys; exact ⟨_, rfl, hown⟩) (fun hn => by rw [HE.out] at hn; cases hn)

end Go.Proofs.YtndojgeodmddoadDoor

/- base.Check: what package base says of a base. -/
namespace Go.Proofs.YtndojgeodmddoadDoor
open Go.RowKit Plain

/-- What the program asks of a base's trees. -/
def treesC (n f : Int) (n0 : List Nd) (r0 : Int) (n1 : List Nd) (r1 : Int) (n2 : List Nd) (r2 : Int) : Bool :=
  decide ((allP n0 r0 0 1099511627776).1 = 0) && ((allP n0 r0 0 1099511627776).2.all (pointB n f) && (stepB 60 (allP n0 r0 0 1099511627776).2 n1 r1 && stepB 3600 (allP n0 r0 0 1099511627776).2 n2 r2))

theorem trees_eq (n f : Int) (n0 : List Nd) (r0 : Int) (n1 : List Nd) (r1 : Int) (n2 : List Nd) (r2 : Int) : treesC n f n0 r0 n1 r1 n2 r2 = treesB n f n0 r0 n1 r1 n2 r2 := by
  unfold treesC treesB
  cases hb : bookP n0 r0 n f with
  | some l =>
    obtain ⟨h1, h2, h3⟩ := book_some hb
    show _ = (stepB 1 l n0 r0 && (stepB 60 l n1 r1 && stepB 3600 l n2 r2))
    rw [step_one hb, h1, h2, h3]
    simp
  | none =>
    unfold bookP at hb
    split at hb
    · cases hb
    · rename_i hc
      by_cases h1 : (allP n0 r0 0 1099511627776).1 = 0
      · have h2 : (allP n0 r0 0 1099511627776).2.all (pointB n f) = false := by
          cases h : (allP n0 r0 0 1099511627776).2.all (pointB n f) with
          | false => rfl
          | true => exact absurd ⟨h1, h⟩ hc
        rw [h2]
        simp
      · simp [h1]

set_option maxRecDepth 20000 in
set_option maxHeartbeats 1000000 in
theorem treesMayBe_any (A : Option Addr) (C : Nat) (ss : List ByteArray) (t0 t1 t2 : TR) (f : Int) (w : World) (hZ : SzAt w) (h0 : t0.ok w) (h1 : t1.ok w) (h2 : t2.ok w) :
    Calls Tryd.prog 16 #[.agg (baseV A C ss t0 t1 t2 f).toArray] w fun e w' => e = .returned (.bool (treesC ss.length f (t0.ps.map PN.nd) t0.r (t1.ps.map PN.nd) t1.r (t2.ps.map PN.nd) t2.r)) ∧ Below w.heap.size w w' := by
  have b0 : ∀ o : Obj, Below w.heap.size w (w.alloc o) := fun o => (Below.refl _ _).alloc (Nat.le_refl _) o
  obtain ⟨nb, hnb⟩ : ∃ nb, nb = treesC ss.length f (t0.ps.map PN.nd) t0.r (t1.ps.map PN.nd) t1.r (t2.ps.map PN.nd) t2.r := ⟨_, rfl⟩
  have HN : Hid (nb = treesC ss.length f (t0.ps.map PN.nd) t0.r (t1.ps.map PN.nd) t1.r (t2.ps.map PN.nd) t2.r) := hnb
  rw [← hnb]
  clear hnb
  have ptc := fun (VA : Option Addr) (VC : Nat) (L : List En) w' h' hz hk => points_any A C ss t0 t1 t2 f VA VC L w' h' hz hk
  obtain ⟨A0, C0, p0, r0⟩ := t0
  obtain ⟨A1, C1, p1, r1⟩ := t1
  obtain ⟨A2, C2, p2, r2⟩ := t2
  obtain ⟨n0, f0, -⟩ := h0
  obtain ⟨n1, f1, -⟩ := h1
  obtain ⟨n2, f2, -⟩ := h2
  simp only [baseV] at *
  have g0 := fun w' hN => ball_any A0 C0 r0 p0 w' hN f0
  have hfc := allP_facts (ns := p0.map PN.nd) (r := r0) (low := 0) (high := 1099511627776)
  have hlen := allP_len (p0.map PN.nd) r0 0 1099511627776
  have HT : Hid (nb = (decide ((allP (p0.map PN.nd) r0 0 1099511627776).1 = 0) && ((allP (p0.map PN.nd) r0 0 1099511627776).2.all (pointB ss.length f) && (stepB 60 (allP (p0.map PN.nd) r0 0 1099511627776).2 (p1.map PN.nd) r1 && stepB 3600 (allP (p0.map PN.nd) r0 0 1099511627776).2 (p2.map PN.nd) r2)))) := HN.out
  generalize allP (p0.map PN.nd) r0 0 1099511627776 = P at g0 hfc hlen HT
  obtain ⟨c, L⟩ := P
  simp only at g0 hfc hlen HT
  clear HN
  have bx : ∀ w', Below (w.alloc (.cells #[.slice A ss.length C, .slice A0 p0.length C0, .int .i64 r0, .slice A1 p1.length C1, .int .i64 r1, .slice A2 p2.length C2, .int .i64 r2, .int .i64 f] 28)).heap.size (w.alloc (.cells #[.slice A ss.length C, .slice A0 p0.length C0, .int .i64 r0, .slice A1 p1.length C1, .int .i64 r1, .slice A2 p2.length C2, .int .i64 r2, .int .i64 f] 28)) w' → RowL w' w.heap.size 28 [.slice A ss.length C, .slice A0 p0.length C0, .int .i64 r0, .slice A1 p1.length C1, .int .i64 r1, .slice A2 p2.length C2, .int .i64 r2, .int .i64 f] := fun w' hb => (rowL_alloc w _ _).below hb (by simp)
  have BX := hideM bx
  clear bx
  by_cases hc : c = 0
  · subst hc
    have pt := fun VA VC w' h' => ptc VA VC L w' h' hlen hfc.2.2
    cases hpb : L.all (pointB ss.length f) with
    | false =>
      have H1 : Hid (nb = false) := by
        show _ = _
        rw [HT.out, hpb]
        simp
      simp only [hpb] at pt
      clear HT ptc
      go_enter Tryd.func16, Tryd.ntmps16
      go_wp2_with (first
        | (go_at_call 37; refine (g0 _ (n0.up (b0 _))).mono ?_; rintro e w1 ⟨hb1, v, rfl, ho⟩; obtain ⟨VA, VC, hvv, -, -, -, hrow⟩ := own_row ho; subst hvv; have hw1 : Below w.heap.size w w1 := nextB (b0 _) (Nat.le_refl _) hb1; have rb := BX.out _ hb1; have yy := (fun j => rb.cell j); have lb := rb.lt)
        | (go_at_call 38; refine (pt VA VC _ hrow).mono ?_; rintro e w2 ⟨rfl, hb2⟩))
      go_ret
      exact ⟨by rw [H1.out]; rfl, nextB hw1 (Nat.le_refl _) hb2⟩
    | true =>
      have HT2 : Hid (nb = (stepB 60 L (p1.map PN.nd) r1 && stepB 3600 L (p2.map PN.nd) r2)) := by
        show _ = _
        rw [HT.out, hpb]
        simp
      simp only [hpb] at pt
      clear HT ptc
      go_enter Tryd.func16, Tryd.ntmps16
      go_wp2_with (first
        | (go_at_call 37; refine (g0 _ (n0.up (b0 _))).mono ?_; rintro e w1 ⟨hb1, v, rfl, ho⟩; obtain ⟨VA, VC, hvv, -, -, -, hrow⟩ := own_row ho; subst hvv; have hw1 : Below w.heap.size w w1 := nextB (b0 _) (Nat.le_refl _) hb1; have rb := BX.out _ hb1; have yy := (fun j => rb.cell j); have lb := rb.lt)
        | (go_at_call 38; refine (pt VA VC _ hrow).mono ?_; rintro e w2 ⟨rfl, hb2⟩))
      have rb2 := rb.below hb2 lb
      have lb2 := rb2.lt
      have hw2 : Below w.heap.size w w2 := nextB hw1 (Nat.le_refl _) hb2
      have hrow2 := hrow.up hb2
      clear yy rb lb hb2 hb1 hw1 hrow pt g0 hpb
      go_loopw [5] (fun v5 wr => ∃ k : Nat, 1 ≤ k ∧ k ≤ 3 ∧ v5 = .int .i64 k ∧ Hid ((1 < k → stepB 60 L (p1.map PN.nd) r1 = true) ∧ (2 < k → stepB 3600 L (p2.map PN.nd) r2 = true)) ∧ Below w2.heap.size w2 wr) (fun v5 _ => 3 - (intOf v5).toNat)
      case atStart => exact ⟨1, by omega, by omega, rfl, ⟨fun h => by omega, fun h => by omega⟩, Below.refl _ _⟩
      case round =>
        obtain ⟨k, hk1, hk3, rfl, HP, hb⟩ := hrel
        have hwr : Below w.heap.size w wr := nextB hw2 (Nat.le_refl _) hb
        have rb1 := rb2.below hb lb2
        have lb1 := rb1.lt
        have yy := fun j => rb1.cell j
        have hrw := hrow2.up hb
        rcases (show k = 1 ∨ k = 2 ∨ k = 3 by omega) with rfl | rfl | rfl
        · have gk := fun w' hN => ball_any A1 C1 r1 p1 w' hN f1
          have hll := allP_len (p1.map PN.nd) r1 0 1099511627776
          have HS : Hid (stepB 60 L (p1.map PN.nd) r1 = match rollP 60 L with | none => false | some W => decide ((allP (p1.map PN.nd) r1 0 1099511627776).1 = 0) && decide (W = (allP (p1.map PN.nd) r1 0 1099511627776).2)) := rfl
          have HFk : Hid (stepB 60 L (p1.map PN.nd) r1 = false → nb = false) := fun q => by
            rw [HT2.out, q]
            simp
          generalize allP (p1.map PN.nd) r1 0 1099511627776 = P at gk hll HS
          obtain ⟨c, M⟩ := P
          simp only at gk hll HS
          by_cases hc : c = 0
          · subst hc
            cases hroll : rollP 60 L with
            | none =>
              have HF : Hid (nb = false) := HFk.out (by rw [HS.out, hroll])
              have conB : ∀ w', RowAt w'.heap.size w' VA (flatE L) → Calls Tryd.prog 39 #[.slice VA L.length VC, .int .i64 60] w' fun e w'' => e = .returned (.tuple #[.slice none 0 0, .int .i64 1]) ∧ Below w'.heap.size w' w'' := fun w' hr => buckets_any VA VC L 60 (Or.inl rfl) w' hr hlen hfc.1 hfc.2.1 hfc.2.2 _ (fun e w'' q1 _ q3 => ⟨q3 hroll, q1⟩)
              clear HS HFk hroll HT2 HP
              go_wp2_with (first | (go_at_call 37; refine (gk _ (n1.up hwr)).mono ?_; rintro e w3 ⟨hb3, v3, rfl, ho3⟩; obtain ⟨LA, LC, hv3, -, -, -, hr3⟩ := own_row ho3; subst hv3; have hw3 : Below w.heap.size w w3 := nextB hwr (Nat.le_refl _) hb3; have zs := hZ.below hw3; have zc := zs.c1; have zl := zs.lt; have hrw3 := hrw.up hb3) | (go_at_call 39; refine (conB _ hrw3).mono ?_; rintro e w4 ⟨rfl, hb4⟩))
              go_ret
              exact ⟨by rw [HF.out]; rfl, nextB hw3 (Nat.le_refl _) hb4⟩
            | some W =>
              have hWl := roll_len hfc.2.1 hroll
              have conB : ∀ w', RowAt w'.heap.size w' VA (flatE L) → Calls Tryd.prog 39 #[.slice VA L.length VC, .int .i64 60] w' fun e w'' => (∃ v, e = .returned (.tuple #[v, .int .i64 0]) ∧ w''.ownsRow w'.heap.size 61 7 v W.length (flatE W)) ∧ Below w'.heap.size w' w'' := fun w' hr => buckets_any VA VC L 60 (Or.inl rfl) w' hr hlen hfc.1 hfc.2.1 hfc.2.2 _ (fun e w'' q1 q2 _ => ⟨q2 W hroll, q1⟩)
              have HSW : Hid (stepB 60 L (p1.map PN.nd) r1 = decide (W = M)) := by
                show _ = _
                rw [HS.out, hroll]
                simp
              clear HS hroll
              have sm := fun A' B' C' D' w' h1 h2 => equalE_any A' B' C' D' M W w' h1 h2 (by omega) (by omega)
              by_cases hWL : W = M
              · have HS1 : stepB 60 L (p1.map PN.nd) r1 = true := by
                  rw [HSW.out]
                  simpa using hWL
                have HP' : Hid ((1 < 2 → stepB 60 L (p1.map PN.nd) r1 = true) ∧ (2 < 2 → stepB 3600 L (p2.map PN.nd) r2 = true)) := ⟨fun _ => HS1, fun h => by omega⟩
                have hd : decide (M = W) = true := by simpa using hWL.symm
                simp only [hd] at sm
                have SM := hideM sm
                clear HSW HFk HT2 HP hd hWL HS1 sm
                go_wp2_with (first | (go_at_call 37; refine (gk _ (n1.up hwr)).mono ?_; rintro e w3 ⟨hb3, v3, rfl, ho3⟩; obtain ⟨LA, LC, hv3, -, -, -, hr3⟩ := own_row ho3; subst hv3; have hw3 : Below w.heap.size w w3 := nextB hwr (Nat.le_refl _) hb3; have zs := hZ.below hw3; have zc := zs.c1; have zl := zs.lt; have hrw3 := hrw.up hb3) | (go_at_call 39; refine (conB _ hrw3).mono ?_; rintro e w4 ⟨⟨v4, rfl, ho4⟩, hb4⟩; obtain ⟨WA, WC, hv4, -, -, -, hr4⟩ := own_row ho4; subst hv4) | (go_at_call 40; refine (SM.out _ _ _ _ _ (hr3.up hb4) hr4).mono ?_; rintro e w6 ⟨rfl, hb6⟩))
                exact ⟨⟨2, by omega, by omega, by go_num, HP', nextB (nextB (nextB hb (Nat.le_refl _) hb3) (Nat.le_refl _) hb4) (Nat.le_refl _) hb6⟩, by simp only [intOf]; omega⟩
              · have HF : Hid (nb = false) := HFk.out (by rw [HSW.out]; simpa using hWL)
                have hd : decide (M = W) = false := by simpa using fun e => hWL e.symm
                simp only [hd] at sm
                have SM := hideM sm
                clear HSW HFk HT2 HP hd hWL sm
                go_wp2_with (first | (go_at_call 37; refine (gk _ (n1.up hwr)).mono ?_; rintro e w3 ⟨hb3, v3, rfl, ho3⟩; obtain ⟨LA, LC, hv3, -, -, -, hr3⟩ := own_row ho3; subst hv3; have hw3 : Below w.heap.size w w3 := nextB hwr (Nat.le_refl _) hb3; have zs := hZ.below hw3; have zc := zs.c1; have zl := zs.lt; have hrw3 := hrw.up hb3) | (go_at_call 39; refine (conB _ hrw3).mono ?_; rintro e w4 ⟨⟨v4, rfl, ho4⟩, hb4⟩; obtain ⟨WA, WC, hv4, -, -, -, hr4⟩ := own_row ho4; subst hv4) | (go_at_call 40; refine (SM.out _ _ _ _ _ (hr3.up hb4) hr4).mono ?_; rintro e w6 ⟨rfl, hb6⟩))
                go_ret
                exact ⟨by rw [HF.out]; rfl, nextB (nextB hw3 (Nat.le_refl _) hb4) (Nat.le_refl _) hb6⟩
          · have HF : Hid (nb = false) := HFk.out (by
              rw [HS.out]
              cases rollP 60 L with
              | none => rfl
              | some W => simp [hc])
            have hc' : (c != 0) = true := by simpa using hc
            clear HS HFk HT2 HP
            go_wp2_with (first | (go_at_call 37; refine (gk _ (n1.up hwr)).mono ?_; rintro e w3 ⟨hb3, v3, rfl, ho3⟩; obtain ⟨LA, LC, hv3, -, -, -, hr3⟩ := own_row ho3; subst hv3; have hw3 : Below w.heap.size w w3 := nextB hwr (Nat.le_refl _) hb3; have zs := hZ.below hw3; have zc := zs.c1; have zl := zs.lt; have hrw3 := hrw.up hb3))
            go_ret
            exact ⟨by rw [HF.out]; rfl, hw3⟩
        · have gk := fun w' hN => ball_any A2 C2 r2 p2 w' hN f2
          have hll := allP_len (p2.map PN.nd) r2 0 1099511627776
          have HS : Hid (stepB 3600 L (p2.map PN.nd) r2 = match rollP 3600 L with | none => false | some W => decide ((allP (p2.map PN.nd) r2 0 1099511627776).1 = 0) && decide (W = (allP (p2.map PN.nd) r2 0 1099511627776).2)) := rfl
          have HFk : Hid (stepB 3600 L (p2.map PN.nd) r2 = false → nb = false) := fun q => by
            rw [HT2.out, q]
            simp
          generalize allP (p2.map PN.nd) r2 0 1099511627776 = P at gk hll HS
          obtain ⟨c, M⟩ := P
          simp only at gk hll HS
          by_cases hc : c = 0
          · subst hc
            cases hroll : rollP 3600 L with
            | none =>
              have HF : Hid (nb = false) := HFk.out (by rw [HS.out, hroll])
              have conB : ∀ w', RowAt w'.heap.size w' VA (flatE L) → Calls Tryd.prog 39 #[.slice VA L.length VC, .int .i64 3600] w' fun e w'' => e = .returned (.tuple #[.slice none 0 0, .int .i64 1]) ∧ Below w'.heap.size w' w'' := fun w' hr => buckets_any VA VC L 3600 (Or.inr rfl) w' hr hlen hfc.1 hfc.2.1 hfc.2.2 _ (fun e w'' q1 _ q3 => ⟨q3 hroll, q1⟩)
              clear HS HFk hroll HT2 HP
              go_wp2_with (first | (go_at_call 37; refine (gk _ (n2.up hwr)).mono ?_; rintro e w3 ⟨hb3, v3, rfl, ho3⟩; obtain ⟨LA, LC, hv3, -, -, -, hr3⟩ := own_row ho3; subst hv3; have hw3 : Below w.heap.size w w3 := nextB hwr (Nat.le_refl _) hb3; have zs := hZ.below hw3; have zc := zs.c2; have zl := zs.lt; have hrw3 := hrw.up hb3) | (go_at_call 39; refine (conB _ hrw3).mono ?_; rintro e w4 ⟨rfl, hb4⟩))
              go_ret
              exact ⟨by rw [HF.out]; rfl, nextB hw3 (Nat.le_refl _) hb4⟩
            | some W =>
              have hWl := roll_len hfc.2.1 hroll
              have conB : ∀ w', RowAt w'.heap.size w' VA (flatE L) → Calls Tryd.prog 39 #[.slice VA L.length VC, .int .i64 3600] w' fun e w'' => (∃ v, e = .returned (.tuple #[v, .int .i64 0]) ∧ w''.ownsRow w'.heap.size 61 7 v W.length (flatE W)) ∧ Below w'.heap.size w' w'' := fun w' hr => buckets_any VA VC L 3600 (Or.inr rfl) w' hr hlen hfc.1 hfc.2.1 hfc.2.2 _ (fun e w'' q1 q2 _ => ⟨q2 W hroll, q1⟩)
              have HSW : Hid (stepB 3600 L (p2.map PN.nd) r2 = decide (W = M)) := by
                show _ = _
                rw [HS.out, hroll]
                simp
              clear HS hroll
              have sm := fun A' B' C' D' w' h1 h2 => equalE_any A' B' C' D' M W w' h1 h2 (by omega) (by omega)
              by_cases hWL : W = M
              · have HS1 : stepB 3600 L (p2.map PN.nd) r2 = true := by
                  rw [HSW.out]
                  simpa using hWL
                have HP' : Hid ((1 < 3 → stepB 60 L (p1.map PN.nd) r1 = true) ∧ (2 < 3 → stepB 3600 L (p2.map PN.nd) r2 = true)) := ⟨fun _ => HP.out.1 (by omega), fun _ => HS1⟩
                have hd : decide (M = W) = true := by simpa using hWL.symm
                simp only [hd] at sm
                have SM := hideM sm
                clear HSW HFk HT2 HP hd hWL HS1 sm
                go_wp2_with (first | (go_at_call 37; refine (gk _ (n2.up hwr)).mono ?_; rintro e w3 ⟨hb3, v3, rfl, ho3⟩; obtain ⟨LA, LC, hv3, -, -, -, hr3⟩ := own_row ho3; subst hv3; have hw3 : Below w.heap.size w w3 := nextB hwr (Nat.le_refl _) hb3; have zs := hZ.below hw3; have zc := zs.c2; have zl := zs.lt; have hrw3 := hrw.up hb3) | (go_at_call 39; refine (conB _ hrw3).mono ?_; rintro e w4 ⟨⟨v4, rfl, ho4⟩, hb4⟩; obtain ⟨WA, WC, hv4, -, -, -, hr4⟩ := own_row ho4; subst hv4) | (go_at_call 40; refine (SM.out _ _ _ _ _ (hr3.up hb4) hr4).mono ?_; rintro e w6 ⟨rfl, hb6⟩))
                exact ⟨⟨3, by omega, by omega, by go_num, HP', nextB (nextB (nextB hb (Nat.le_refl _) hb3) (Nat.le_refl _) hb4) (Nat.le_refl _) hb6⟩, by simp only [intOf]; omega⟩
              · have HF : Hid (nb = false) := HFk.out (by rw [HSW.out]; simpa using hWL)
                have hd : decide (M = W) = false := by simpa using fun e => hWL e.symm
                simp only [hd] at sm
                have SM := hideM sm
                clear HSW HFk HT2 HP hd hWL sm
                go_wp2_with (first | (go_at_call 37; refine (gk _ (n2.up hwr)).mono ?_; rintro e w3 ⟨hb3, v3, rfl, ho3⟩; obtain ⟨LA, LC, hv3, -, -, -, hr3⟩ := own_row ho3; subst hv3; have hw3 : Below w.heap.size w w3 := nextB hwr (Nat.le_refl _) hb3; have zs := hZ.below hw3; have zc := zs.c2; have zl := zs.lt; have hrw3 := hrw.up hb3) | (go_at_call 39; refine (conB _ hrw3).mono ?_; rintro e w4 ⟨⟨v4, rfl, ho4⟩, hb4⟩; obtain ⟨WA, WC, hv4, -, -, -, hr4⟩ := own_row ho4; subst hv4) | (go_at_call 40; refine (SM.out _ _ _ _ _ (hr3.up hb4) hr4).mono ?_; rintro e w6 ⟨rfl, hb6⟩))
                go_ret
                exact ⟨by rw [HF.out]; rfl, nextB (nextB hw3 (Nat.le_refl _) hb4) (Nat.le_refl _) hb6⟩
          · have HF : Hid (nb = false) := HFk.out (by
              rw [HS.out]
              cases rollP 3600 L with
              | none => rfl
              | some W => simp [hc])
            have hc' : (c != 0) = true := by simpa using hc
            clear HS HFk HT2 HP
            go_wp2_with (first | (go_at_call 37; refine (gk _ (n2.up hwr)).mono ?_; rintro e w3 ⟨hb3, v3, rfl, ho3⟩; obtain ⟨LA, LC, hv3, -, -, -, hr3⟩ := own_row ho3; subst hv3; have hw3 : Below w.heap.size w w3 := nextB hwr (Nat.le_refl _) hb3; have zs := hZ.below hw3; have zc := zs.c2; have zl := zs.lt; have hrw3 := hrw.up hb3))
            go_ret
            exact ⟨by rw [HF.out]; rfl, hw3⟩
        · have H1 : Hid (nb = true) := by
            show _ = _
            rw [HT2.out, HP.out.1 (by omega), HP.out.2 (by omega)]
            rfl
          clear HP HT2
          go_wp2_with fail
          go_ret
          exact ⟨by rw [H1.out]; rfl, hwr⟩
  · have H1 : Hid (nb = false) := by
      show _ = _
      rw [HT.out]
      simp [hc]
    have hc' : (c != 0) = true := by simpa using hc
    clear HT ptc
    go_enter Tryd.func16, Tryd.ntmps16
    go_wp2_with (first
      | (go_at_call 37; refine (g0 _ (n0.up (b0 _))).mono ?_; rintro e w1 ⟨hb1, v, rfl, ho⟩; obtain ⟨VA, VC, hvv, -, -, -, hrow⟩ := own_row ho; subst hvv))
    go_ret
    exact ⟨by rw [H1.out]; rfl, nextB (b0 _) (Nat.le_refl _) hb1⟩

end Go.Proofs.YtndojgeodmddoadDoor

/- base.Check, whole. -/
namespace Go.Proofs.YtndojgeodmddoadDoor
open Go.RowKit Plain

theorem SzAt.alloc {w : World} (h : SzAt w) (o : Obj) : SzAt (w.alloc o) := h.below ((Below.refl _ _).alloc (Nat.le_refl _) o)

set_option maxRecDepth 20000 in
set_option maxHeartbeats 1000000 in
theorem bcheck_any (A : Option Addr) (C : Nat) (ss : List ByteArray) (t0 t1 t2 : TR) (f : Int) (w : World) (hZ : SzAt w) (hC : ss.length ≤ C) (hS : StrsAt w.heap.size w A ss) (h0 : t0.ok w) (h1 : t1.ok w) (h2 : t2.ok w) (bb : Bool) (hbb : Hid (baseB ss f (t0.ps.map PN.nd) t0.r (t1.ps.map PN.nd) t1.r (t2.ps.map PN.nd) t2.r = bb)) :
    Calls Tryd.prog 6 #[.agg (baseV A C ss t0 t1 t2 f).toArray] w fun e w' => e = .returned (.int .i64 (if bb = true then 0 else 7)) ∧ Below w.heap.size w w' := by
  have b0 : ∀ o : Obj, Below w.heap.size w (w.alloc o) := fun o => (Below.refl _ _).alloc (Nat.le_refl _) o
  obtain ⟨res, hres⟩ : ∃ res : Int, res = if bb = true then 0 else 7 := ⟨_, rfl⟩
  have HR : Hid (res = if bb = true then 0 else 7) := hres
  rw [← hres]
  clear hres
  have HB : Hid (bb = ((decide (ss.length ≤ 16) && namesB ss) && (inB f 0 1048575 && (decide (f % 3600 = 0) && treesC ss.length f (t0.ps.map PN.nd) t0.r (t1.ps.map PN.nd) t1.r (t2.ps.map PN.nd) t2.r)))) := by
    show _ = _
    rw [← hbb.out, trees_eq]
    unfold baseB
    cases decide (ss.length ≤ 16) <;> cases inB f 0 1048575 <;> cases decide (f % 3600 = 0) <;> cases namesB ss <;> rfl
  have okup : ∀ (t : TR) (o : Obj), t.ok w → t.ok (w.alloc o) := fun t o ht => ⟨ht.1.up (b0 o), ht.2.1, ht.2.2⟩
  have nmc := fun o => namesMayBe_any A C ss (w.alloc o) (hS.up (b0 o)) hC
  have trc := fun o => treesMayBe_any A C ss t0 t1 t2 f (w.alloc o) (hZ.alloc o) (okup t0 o h0) (okup t1 o h1) (okup t2 o h2)
  generalize treesC ss.length f (t0.ps.map PN.nd) t0.r (t1.ps.map PN.nd) t1.r (t2.ps.map PN.nd) t2.r = tb at trc HB
  generalize (decide (ss.length ≤ 16) && namesB ss) = nb at nmc HB
  obtain ⟨A0, C0, p0, r0⟩ := t0
  obtain ⟨A1, C1, p1, r1⟩ := t1
  obtain ⟨A2, C2, p2, r2⟩ := t2
  simp only [baseV] at *
  clear hbb okup h0 h1 h2
  cases nb with
  | false =>
    have H1 : Hid (res = 7) := by
      show _ = _
      rw [HR.out, HB.out]
      rfl
    clear HR HB trc
    go_enter Tryd.func6, Tryd.ntmps6
    go_wp2_with (first | (go_at_call 13; refine (nmc _).mono ?_; rintro e w1 ⟨rfl, hw1⟩; subst w1))
    go_ret
    exact ⟨by rw [H1.out]; rfl, b0 _⟩
  | true =>
    cases hf : inB f 0 1048575 with
    | false =>
      have H1 : Hid (res = 7) := by
        show _ = _
        rw [HR.out, HB.out, hf]
        rfl
      clear HR HB trc
      go_enter Tryd.func6, Tryd.ntmps6
      go_wp2_with (first | (go_at_call 13; refine (nmc _).mono ?_; rintro e w1 ⟨rfl, hw1⟩; subst w1) | (go_at_call 14; refine (btime_any _ _).mono ?_; rintro e w1 ⟨rfl, hw1⟩; subst w1))
      go_ret
      exact ⟨by rw [H1.out]; rfl, b0 _⟩
    | true =>
      have hff := (inB_iff _ _ _).1 hf
      have hff' : 0 ≤ f ∧ f < 1099511627776 := by omega
      have flc := fun o => isFloor_any f (w.alloc o) (hZ.alloc o) hff'
      cases hm : decide (f % 3600 = 0) with
      | false =>
        have H1 : Hid (res = 7) := by
          show _ = _
          rw [HR.out, HB.out, hf, hm]
          rfl
        simp only [hm] at flc
        clear HR HB trc hm
        go_enter Tryd.func6, Tryd.ntmps6
        go_wp2_with (first | (go_at_call 13; refine (nmc _).mono ?_; rintro e w1 ⟨rfl, hw1⟩; subst w1) | (go_at_call 14; refine (btime_any _ _).mono ?_; rintro e w1 ⟨rfl, hw1⟩; subst w1) | (go_at_call 15; refine (flc _).mono ?_; rintro e w1 ⟨rfl, hw1⟩; subst w1))
        go_ret
        exact ⟨by rw [H1.out]; rfl, b0 _⟩
      | true =>
        have H1 : Hid (res = if tb = true then 0 else 7) := by
          show _ = _
          rw [HR.out, HB.out, hf, hm]
          rfl
        simp only [hm] at flc
        clear HR HB hm
        cases tb with
        | false =>
          have H2 : Hid (res = 7) := H1.out
          clear H1
          go_enter Tryd.func6, Tryd.ntmps6
          go_wp2_with (first | (go_at_call 13; refine (nmc _).mono ?_; rintro e w1 ⟨rfl, hw1⟩; subst w1) | (go_at_call 14; refine (btime_any _ _).mono ?_; rintro e w1 ⟨rfl, hw1⟩; subst w1) | (go_at_call 15; refine (flc _).mono ?_; rintro e w1 ⟨rfl, hw1⟩; subst w1) | (go_at_call 16; refine (trc _).mono ?_; rintro e w2 ⟨rfl, hb2⟩))
          go_ret
          exact ⟨by rw [H2.out]; rfl, nextB (b0 _) (Nat.le_refl _) hb2⟩
        | true =>
          have H2 : Hid (res = 0) := H1.out
          clear H1
          go_enter Tryd.func6, Tryd.ntmps6
          go_wp2_with (first | (go_at_call 13; refine (nmc _).mono ?_; rintro e w1 ⟨rfl, hw1⟩; subst w1) | (go_at_call 14; refine (btime_any _ _).mono ?_; rintro e w1 ⟨rfl, hw1⟩; subst w1) | (go_at_call 15; refine (flc _).mono ?_; rintro e w1 ⟨rfl, hw1⟩; subst w1) | (go_at_call 16; refine (trc _).mono ?_; rintro e w2 ⟨rfl, hb2⟩))
          go_ret
          exact ⟨by rw [H2.out]; rfl, nextB (b0 _) (Nat.le_refl _) hb2⟩

end Go.Proofs.YtndojgeodmddoadDoor

/- For every base, package base's Check answers what promise P3.2 says. No condition beside the table of sizes, which is tied to the program's text. -/
namespace Go.Proofs.YtndojgeodmddoadDoor
open Go.ChangeShapes Go.WideShapes Go.ChangeAt Go.RowKit

set_option maxRecDepth 20000 in
set_option maxHeartbeats 1000000 in
theorem baseChecks_walk (A : Option Addr) (C : Nat) (ss : List ByteArray) (t0 t1 t2 : TR) (f : Int) (w : World) (hZ : SzAt w) (hC : ss.length ≤ C) (hS : StrsAt w.heap.size w A ss) (h0 : t0.ok w) (h1 : t1.ok w) (h2 : t2.ok w) (_ : (Lit.int .i64 f).wf = true) :
    Calls Tryd.prog 3 #[.agg (baseV A C ss t0 t1 t2 f).toArray] w fun e w' => e = .returned (.bool true) ∧ Below w.heap.size w w' := by
  have b0 : ∀ o : Obj, Below w.heap.size w (w.alloc o) := fun o => (Below.refl _ _).alloc (Nat.le_refl _) o
  obtain ⟨bb, hbb⟩ : ∃ bb, baseB ss f (t0.ps.map PN.nd) t0.r (t1.ps.map PN.nd) t1.r (t2.ps.map PN.nd) t2.r = bb := ⟨_, rfl⟩
  have okup : ∀ (t : TR) (w' : World), Below w.heap.size w w' → t.ok w → t.ok w' := fun t w' hb ht => ⟨ht.1.up hb, ht.2.1, ht.2.2⟩
  have cc := fun w' (hb : Below w.heap.size w w') => bcheck_any A C ss t0 t1 t2 f w' (hZ.below hb) hC (hS.up hb) (okup t0 w' hb h0) (okup t1 w' hb h1) (okup t2 w' hb h2) bb hbb
  have mm := fun w' (hb : Below w.heap.size w w') => baseMay_any A C ss t0 t1 t2 f w' (hS.up hb) (h0.1.up hb) (h1.1.up hb) (h2.1.up hb)
  rw [hbb] at mm
  clear hbb okup h0 h1 h2 hS hC hZ
  obtain ⟨A0, C0, p0, r0⟩ := t0
  obtain ⟨A1, C1, p1, r1⟩ := t1
  obtain ⟨A2, C2, p2, r2⟩ := t2
  simp only [baseV] at *
  have CC := hideM cc
  have MM := hideM mm
  clear cc mm
  cases bb with
  | false =>
    have C2 := fun w' hb => CC.out w' hb
    simp only [Bool.false_eq_true, if_false] at C2
    go_enter Tryd.func3, Tryd.ntmps3
    go_wp2_with (first
      | (go_at_call 6; refine (C2 _ (b0 _)).mono ?_; rintro e w1 ⟨rfl, hb1⟩; have hw1 : Below w.heap.size w w1 := nextB (b0 _) (Nat.le_refl _) hb1; have yy := (bcells hb1).1; have z1 := sz1 hb1)
      | (go_at_call 7; refine (MM.out _ hw1).mono ?_; rintro e w2 ⟨rfl, hb2⟩))
    go_ret
    exact ⟨rfl, nextB hw1 (Nat.le_refl _) hb2⟩
  | true =>
    have C2 := fun w' hb => CC.out w' hb
    simp only [if_true] at C2
    go_enter Tryd.func3, Tryd.ntmps3
    go_wp2_with (first
      | (go_at_call 6; refine (C2 _ (b0 _)).mono ?_; rintro e w1 ⟨rfl, hb1⟩; have hw1 : Below w.heap.size w w1 := nextB (b0 _) (Nat.le_refl _) hb1; have yy := (bcells hb1).1; have z1 := sz1 hb1)
      | (go_at_call 7; refine (MM.out _ hw1).mono ?_; rintro e w2 ⟨rfl, hb2⟩))
    go_ret
    exact ⟨rfl, nextB hw1 (Nat.le_refl _) hb2⟩

def laidSz : List (String × DataW Unit) := [("winnower/base.sizes", Rows.laid_winnower_base_sizes)]

set_option maxRecDepth 100000 in
theorem sizes_of {W : World} (h : laidMetH Tryd.prog laidSz W) : W.var? Tryd.prog "winnower/base.sizes" = some #[.int .i64 1, .int .i64 60, .int .i64 3600] := by
  rw [MakeChecks.laidMetH_plain _ _ _ (by kernel_rfl)] at h
  obtain ⟨ps, ⟨g, t, cs, fuel, p, q, hg, ht, hv, hd, _, _⟩, _, _⟩ := h
  obtain rfl := Option.some.inj ((show Tryd.prog.globalNamed "winnower/base.sizes" = some 0 by kernel_rfl).symm.trans hg)
  obtain rfl := Option.some.inj ((show (Tryd.prog.globals[0]?).map (·.type) = some 71 by kernel_rfl).symm.trans ht)
  have c5 : Tryd.prog.cellsOf 3 = 1 := by kernel_rfl
  have c29 : Tryd.prog.cellsOf 71 = 3 := by kernel_rfl
  obtain ⟨xs, m, _, ex, hlen, hl, hel⟩ := DataW.trod_array Tryd.underlying71 hd
  rw [c29] at hlen
  obtain ⟨l⟩ := cs
  match l, hlen with
  | [a, b, c], _ =>
    match xs, hl with
    | [x0, x1, x2], _ =>
      have e3 := (DataW.agg.inj (Prod.mk.inj ex).1)
      simp only [List.map_cons, List.map_nil, List.cons.injEq, and_true] at e3
      have k0 := hel 0 (by omega)
      have k1 := hel 1 (by omega)
      have k2 := hel 2 (by omega)
      rw [c5] at k0 k1 k2
      obtain ⟨z0, a0, b0, _⟩ := DataW.trod_int Tryd.underlying3 k0
      obtain ⟨z1, a1, b1, _⟩ := DataW.trod_int Tryd.underlying3 k1
      obtain ⟨z2, a2, b2, _⟩ := DataW.trod_int Tryd.underlying3 k2
      rw [hv]
      simp_all

set_option maxRecDepth 100000 in
theorem szAt_of {W : World} (h : laidMetH Tryd.prog laidSz W) : SzAt W := by
  have hcell := fun j => World.var?_cell (show Tryd.prog.globalNamed "winnower/base.sizes" = some 0 by kernel_rfl) (sizes_of h) j
  have c0 : W.cell? ⟨0, 0, none⟩ = some (.int .i64 1) := by rw [hcell]; rfl
  exact ⟨c0, by rw [hcell]; rfl, by rw [hcell]; rfl, World.block_lt_of_cell? _ _ c0⟩

set_option maxRecDepth 100000 in
theorem baseChecks_lifted (os : Os) (started : os.Started) (H : Type) (enc : TypeId × Value → H) :
    ReturnsInHanded {} Tryd.checked os 3 .any (fun w args => (Rows.baseChecksSpec.pre enc Tryd.prog Tryd.f3 [] false w args ∧ laidMetH Tryd.prog laidSz w) ∧ sizedMet enc Tryd.prog Tryd.f3 (OpenSpec.ofChange Rows.baseChecksSpec) false w args)
      (Rows.baseChecksSpec.post enc Tryd.prog Tryd.f3 false true false false) := by
  refine returnsInHanded_of_change_and (C := Tryd.checked) (X := fun w _ => laidMetH Tryd.prog laidSz w) (fun _ _ _ hh h => h.of_heap hh) own started (by kernel_rfl) Tryd.func3
    (ChangeSpec.witness_at (enc := enc) (C := Tryd.checked) (os := os) (X := fun w _ => laidMetH Tryd.prog laidSz w) false (World.laidAll Tryd.prog os laidSz) #[.agg #[.slice none 0 0, .slice none 0 0, .int .i64 0, .slice none 0 0, .int .i64 0, .slice none 0 0, .int .i64 0, .int .i64 0]] 8 (World.laidAll_os _ _ _) (by kernel_rfl) (by kernel_rfl) (by kernel_rfl) (by kernel_rfl) (by kernel_rfl)
      (by rw [MakeChecks.laidMetH_plain _ _ _ (by kernel_rfl)]; exact laidMet_laidAll _ (by kernel_rfl) (by kernel_rfl))) ?_
  intro W base args ds gs before hval0 hW _ hsz0 hL _
  have hval : ∀ (j : Nat) t v, Tryd.f3.params[j]? = some t → args[j]? = some v → Value.okWide Tryd.prog W .any base t v := hval0
  have hW' := hW
  obtain ⟨p, q, hA0, hV, rfl, hfz, hnd⟩ := hW
  have hA : DataW.TrodAll enc Tryd.prog W 0 (fun _ => true) true Tryd.f3.params.toList args.toList ds p := hA0
  have hsz : (DataW.weightsEach Tryd.prog (Tryd.f3.params.toList ++ Rows.baseChecksSpec.plain.varTypes Tryd.prog) (ds ++ gs)).all (· ≤ reachBytes) = true := hsz0
  rw [Tryd.params3] at hA hval hsz
  obtain ⟨v0, vs0, d0, ds0, p0, q0, hargs, rfl, rfl, h0, r0⟩ := trodAll_cons hA
  obtain ⟨rfl, rfl, rfl⟩ := trodAll_nil r0
  obtain rfl : args = #[v0] := by cases args; simp_all
  obtain ⟨rfl, rfl⟩ := trodVars_none hV
  have k0 := h0
  have lt0 : ∀ x ∈ p0, x.block < W.heap.size := by obtain ⟨m, hm⟩ := k0; exact DataW.trod_lt m _ _ _ hm
  obtain ⟨A0, C0, ss0, ta0, tb0, tc0, f0, rfl, -, hC0, hS0, ha0, hb0, hc0, w0⟩ := open_base rfl (hval 0 28 v0 rfl rfl) h0 (fun n hn => by
    have := List.all_eq_true.1 hsz n (DataW.weights_mem_each (j := 0) (t := 28) rfl rfl n hn)
    exact of_decide_eq_true this)
  clear hA0 hval0 hsz0
  refine (baseChecks_walk A0 C0 ss0 ta0 tb0 tc0 f0 W (szAt_of hL) hC0 hS0 ha0 hb0 hc0 w0).mono fun e W' ⟨he, bel⟩ => ?_
  subst he
  exact ⟨_, rfl, _, _, _, [], _, [], hW', trodAll_mk1 (shut_bool Tryd.underlying4 _), (trodAll_cons_mk (Below.trod laidOut (by kernel_rfl) (of_decide_eq_true (by kernel_rfl)) k0 bel lt0) trodAll_mk0), rfl, bel.frame _, fun h => by cases h⟩

theorem baseChecks_holds : Rows.BaseChecksSaid :=
  OpenClaim.holds_of_wide 3 Tryd.f3 rfl rfl rfl rfl rfl rfl rfl ⟨rfl, rfl, rfl, rfl, rfl⟩ rfl rfl rfl rfl rfl (by kernel_rfl) Tryd.func3 (by kernel_rfl)
    (of_decide_eq_true (by kernel_rfl)) (by unfold Func.isWrapper; first | (rw [if_pos (by decide +kernel)]; kernel_rfl) | (rw [if_neg (by decide +kernel)]; exact ⟨rfl, rfl⟩))
    (fun os started H enc _ => baseChecks_lifted os started H enc)

theorem baseChecksCard_holds : Rows.BaseChecksCardSaid :=
  Claim7.holds_tied_plain_at .later [] [.data] true (true, "778ac4088cc39b418fb54c163749a4a331474be8f10bd7bda9abbcb1f01f6800") false baseChecks_holds (fun _ h => by cases h) (by kernel_rfl) (fun _ h => by cases h) baseChecks_row_tie rfl ⟨rfl, rfl⟩ (by kernel_rfl) rfl
    (fun f fn hf hfn => by
      obtain rfl : f = 3 := Option.some.inj ((show Tryd.prog.funcNamed "winnower/winnowerlaw.BaseChecks" = some 3 by kernel_rfl).symm.trans hf) |>.symm
      obtain rfl : fn = Tryd.f3 := (Option.some.inj (Tryd.func3.symm.trans hfn)).symm
      exact ⟨by kernel_rfl, fun j t ht => by
        rw [Tryd.params3] at ht
        have hm : t ∈ [28] := by simpa using Array.mem_of_getElem? ht
        have hall : ([28].all fun u => !Tryd.prog.wantsStandIn u) = true := by kernel_rfl
        exact (show Tryd.prog.wantsStandIn t = false by simpa using List.all_eq_true.1 hall t hm)⟩)
    (by kernel_rfl)
#print axioms baseChecksCard_holds
end Go.Proofs.YtndojgeodmddoadDoor

/- The walk of the reference's word, where the text begins with a digit or a minus ahead of one. The walk of the reference's word, where the text begins with a sign or with what begins no word. The walk of the reference's Scan. Constants: what may be one, in plain mathematics; the walks of isSmall, isDigit, isWord and of the reference's Name. -/
import Derived.Test.YtienpejlfjhnmaaPart02
import Derived.LoopN
import Derived.Test.YtienpejlfjhnmaaPart01
import Derived.WalkKit
import Derived.WalkSpells
import Derived.WalkLawsBesides
import Derived.BigQuiet
namespace Go.Proofs.Ytienpejlfjhnmaa.Lx
open Go.RowKit

theorem kind_num {s : ByteArray} (h1 : smallN (bt s 0) = false) (h2 : greatN (bt s 0) = false) (h3 : digitN (bt s 0) = true ∨ bt s 0 = 45) : kindL (bs s) = 3 := by
  have e1 : smallN ((bs s).getD 0 0).toNat = false := h1
  have e2 : greatN ((bs s).getD 0 0).toNat = false := h2
  have e3 : digitN ((bs s).getD 0 0).toNat = true ∨ ((bs s).getD 0 0).toNat = 45 := h3
  rw [kindL, kindN, if_neg (by rw [e1]; decide), if_neg (by rw [e2]; decide), if_pos e3]

theorem size_num {s : ByteArray} (h : kindL (bs s) = 3) : sizeL (bs s) = numL (bs s) := by
  rw [sizeL, if_neg (by rw [h]; decide), if_neg (by rw [h]; decide), if_pos h]

theorem num_zero {s : ByteArray} (h0 : 0 < s.size) (h : bt s 0 = 48) : numL (bs s) = 1 := by
  have e := drop_cons (bs s) 0 h0
  rw [List.drop_zero] at e
  have h' : ((bs s).getD 0 0).toNat = 48 := h
  rw [e]
  simp only [numL, if_pos h']

/-- A number without a minus: as far as there are digits. -/
theorem num_digits {s : ByteArray} (h0 : 0 < s.size) (h : digitN (bt s 0) = true) (hz : bt s 0 ≠ 48) (k : Nat) (hk : k ≤ s.size) (hh : ∀ j, j < k → digitN (bt s j) = true) (he : k = s.size ∨ digitN (bt s k) = false) : numL (bs s) = k := by
  have e := drop_cons (bs s) 0 h0
  rw [List.drop_zero] at e
  have h1 : ¬ ((bs s).getD 0 0).toNat = 48 := hz
  have h2 : ¬ ((bs s).getD 0 0).toNat = 45 := fun x => by
    have : bt s 0 = 45 := x
    rw [this] at h; exact absurd h (by decide)
  rw [e]
  simp only [numL, if_neg h1, if_neg h2]
  rw [← e]
  exact runP_eq digitN (bs s) k hk hh he

/-- A minus and digits behind it. -/
theorem num_minus {s : ByteArray} (h0 : 1 < s.size) (h : bt s 0 = 45) (h1 : digitN (bt s 1) = true) (hz : bt s 1 ≠ 48) (k : Nat) (hk2 : 2 ≤ k) (hk : k ≤ s.size) (hh : ∀ j, 1 ≤ j → j < k → digitN (bt s j) = true) (he : k = s.size ∨ digitN (bt s k) = false) : numL (bs s) = k := by
  have e0 := drop_cons (bs s) 0 (by rw [bs_length]; omega)
  have e1 := drop_cons (bs s) 1 (by rw [bs_length]; omega)
  rw [List.drop_zero] at e0
  have g0 : ((bs s).getD 0 0).toNat = 45 := h
  have g1 : ¬ ((bs s).getD 1 0).toNat = 48 := hz
  have g2 : digitN ((bs s).getD 1 0).toNat = true := h1
  have hr : runP digitN ((bs s).drop 2) = k - 2 := by
    refine runP_eq digitN _ (k - 2) (by rw [List.length_drop, bs_length]; omega) (fun j hj => ?_) ?_
    · have := hh (j + 2) (by omega) (by omega)
      simpa [bt, List.getD, List.getElem?_drop, Nat.add_comm] using this
    · rcases he with he | he
      · left; rw [List.length_drop, bs_length]; omega
      · right
        have e : 2 + (k - 2) = k := by omega
        simpa [bt, List.getD, List.getElem?_drop, e] using he
  rw [e0, e1]
  simp only [numL]
  rw [if_neg (by rw [g0]; decide), if_pos g0, if_neg g1, if_pos g2, hr]
  omega

theorem num_nought {s : ByteArray} (h0 : 1 < s.size) (h : bt s 0 = 45) (hz : bt s 1 = 48) : numL (bs s) = 0 := by
  have e0 := drop_cons (bs s) 0 (by rw [bs_length]; omega)
  have e1 := drop_cons (bs s) 1 (by rw [bs_length]; omega)
  rw [List.drop_zero] at e0
  have g0 : ((bs s).getD 0 0).toNat = 45 := h
  have g1 : ((bs s).getD 1 0).toNat = 48 := hz
  rw [e0, e1]
  simp only [numL]
  rw [if_neg (by rw [g0]; decide), if_pos g0, if_pos g1]

set_option maxHeartbeats 4000000 in
theorem word_digit (s : ByteArray) (w : World) (h0 : 0 < s.size) (hs : s.size ≤ 4000) (h1 : smallN (bt s 0) = false) (h2 : greatN (bt s 0) = false) (hc : digitN (bt s 0) = true) :
    Calls Try.prog 34 #[.string s] w fun e w' => Wr s w e w' := by
  have b0 := bt_at s 0 h0
  have HK : Hid (kindL (bs s) = 3) := kind_num h1 h2 (Or.inl hc)
  have HC : Hid _ := hc
  have g45 : ((bt s 0 : Int) == 45) = false := by
    have : bt s 0 ≠ 45 := fun x => by rw [x] at hc; exact absurd hc (by decide)
    simp; omega
  by_cases hz : bt s 0 = 48
  · have g48 : ((bt s 0 : Int) == 48) = true := by rw [hz]; rfl
    have HZ : Hid _ := hz
    clear hz
    go_enter Try.func34, Try.ntmps34
    go_wp2_with (first
    | (go_at_call 38; refine (rsmall_any _ _).mono ?_; rintro e w' ⟨rfl, hw⟩; have hw' := hw.symm; subst hw'; clear hw; rw [h1])
    | (go_at_call 40; refine (rgreat_any _ _).mono ?_; rintro e w' ⟨rfl, hw⟩; have hw' := hw.symm; subst hw'; clear hw; rw [h2])
    | (go_at_call 39; refine (rdigit_any _ _).mono ?_; rintro e w' ⟨rfl, hw⟩; have hw' := hw.symm; subst hw'; clear hw; rw [hc]))
    go_ret2
    exact wr_of' 1 3 rfl rfl ((size_num HK.out).trans (num_zero h0 HZ.out)) (Or.inr HK.out) (fun h => by omega) _ (Below.refl _ _)
  have g48 : ((bt s 0 : Int) == 48) = false := by simp; omega
  have HZ : Hid _ := hz
  clear hz
  go_enter Try.func34, Try.ntmps34
  go_wp2_with (first
    | (go_at_call 38; refine (rsmall_any _ _).mono ?_; rintro e w' ⟨rfl, hw⟩; have hw' := hw.symm; subst hw'; clear hw; rw [h1])
    | (go_at_call 40; refine (rgreat_any _ _).mono ?_; rintro e w' ⟨rfl, hw⟩; have hw' := hw.symm; subst hw'; clear hw; rw [h2])
    | (go_at_call 39; refine (rdigit_any _ _).mono ?_; rintro e w' ⟨rfl, hw⟩; have hw' := hw.symm; subst hw'; clear hw; rw [hc]))
  go_loopw [4] (fun i wr => ∃ k : Nat, 1 ≤ k ∧ k ≤ s.size ∧ i = .int .i64 k ∧ Hid (∀ j, j < k → digitN (bt s j) = true) ∧ wr = w) (fun i _ => s.size - (intOf i).toNat)
  case atStart => exact ⟨1, Nat.le_refl _, h0, rfl, start_of HC.out, rfl⟩
  case round =>
    obtain ⟨k, hk1, hk, rfl, hh, hw⟩ := hrel
    have hw' := hw.symm
    subst hw'
    clear hc h1 h2 g45 g48
    have done : (k = s.size ∨ digitN (bt s k) = false) → sizeL (bs s) = k := fun e => by
      rw [size_num HK.out]
      exact num_digits h0 HC.out HZ.out k hk hh.out e
    have DN : Hid _ := done
    clear done
    by_cases hlt : k < s.size
    · have bk := bt_at s k hlt
      have hltI : (k : Int) < (s.size : Int) := by omega
      cases a1 : digitN (bt s k)
      all_goals (go_wp2_with (go_at_call 39; refine (rdigit_any _ _).mono ?_; rintro e w' ⟨rfl, hw⟩; have hw' := hw.symm; subst hw'; clear hw; rw [a1]))
      · go_ret2
        exact wr_of' k 3 rfl rfl (DN.out (Or.inr a1)) (Or.inr HK.out) (fun h => by omega) _ (Below.refl _ _)
      · go_roundw
        case rel => exact ⟨k + 1, by omega, by omega, by go_num, more_of hh.out a1, trivial⟩
        case measure => simp [intOf]; omega
    · have hke : k = s.size := by omega
      subst hke
      go_wp2_with fail
      go_ret2
      exact wr_of' s.size 3 rfl rfl (DN.out (Or.inl trivial)) (Or.inr HK.out) (fun h => by omega) _ (Below.refl _ _)

theorem more_from {p : Nat → Bool} {s : ByteArray} {k : Nat} (h : ∀ j, 1 ≤ j → j < k → p (bt s j) = true) (hk : p (bt s k) = true) : ∀ j, 1 ≤ j → j < k + 1 → p (bt s j) = true := by
  intro j h1 hj
  by_cases e : j < k
  · exact h j h1 e
  · have : j = k := by omega
    rw [this]; exact hk
theorem start_from {p : Nat → Bool} {s : ByteArray} (h : p (bt s 1) = true) : ∀ j, 1 ≤ j → j < 2 → p (bt s j) = true := by
  intro j h1 hj
  have : j = 1 := by omega
  rw [this]; exact h

set_option maxHeartbeats 4000000 in
theorem word_minus (s : ByteArray) (w : World) (h0 : 0 < s.size) (hl : 1 < s.size) (hs : s.size ≤ 4000) (h1 : smallN (bt s 0) = false) (h2 : greatN (bt s 0) = false) (hc : digitN (bt s 0) = false) (hm : bt s 0 = 45) (hd : digitN (bt s 1) = true) :
    Calls Try.prog 34 #[.string s] w fun e w' => Wr s w e w' := by
  have b0 := bt_at s 0 h0
  have b1 := bt_at s 1 hl
  have HK : Hid (kindL (bs s) = 3) := kind_num h1 h2 (Or.inr hm)
  have HD : Hid _ := hd
  have g45 : ((bt s 0 : Int) == 45) = true := by rw [hm]; rfl
  have gl : (1 : Int) < (s.size : Int) := by omega
  have HM : Hid _ := hm
  clear hm
  by_cases hz : bt s 1 = 48
  · have g48 : ((bt s 1 : Int) == 48) = true := by rw [hz]; rfl
    have HZ : Hid _ := hz
    clear hz
    go_enter Try.func34, Try.ntmps34
    go_wp2_with (first
    | (go_at_call 38; refine (rsmall_any _ _).mono ?_; rintro e w' ⟨rfl, hw⟩; have hw' := hw.symm; subst hw'; clear hw; rw [h1])
    | (go_at_call 40; refine (rgreat_any _ _).mono ?_; rintro e w' ⟨rfl, hw⟩; have hw' := hw.symm; subst hw'; clear hw; rw [h2])
    | (go_at_call 39; refine (rdigit_any _ _).mono ?_; rintro e w' ⟨rfl, hw⟩; have hw' := hw.symm; subst hw'; clear hw; first | rw [hc] | rw [hd]))
    go_ret2
    exact wr_of' 0 0 rfl rfl ((size_num HK.out).trans (num_nought hl HM.out HZ.out)) (Or.inl rfl) (fun _ => rfl) _ (Below.refl _ _)
  have g48 : ((bt s 1 : Int) == 48) = false := by simp; omega
  have g480 : ((bt s 0 : Int) == 48) = false := by rw [HM.out]; rfl
  have HZ : Hid _ := hz
  clear hz
  go_enter Try.func34, Try.ntmps34
  go_wp2_with (first
    | (go_at_call 38; refine (rsmall_any _ _).mono ?_; rintro e w' ⟨rfl, hw⟩; have hw' := hw.symm; subst hw'; clear hw; rw [h1])
    | (go_at_call 40; refine (rgreat_any _ _).mono ?_; rintro e w' ⟨rfl, hw⟩; have hw' := hw.symm; subst hw'; clear hw; rw [h2])
    | (go_at_call 39; refine (rdigit_any _ _).mono ?_; rintro e w' ⟨rfl, hw⟩; have hw' := hw.symm; subst hw'; clear hw; first | rw [hc] | rw [hd]))
  go_loopw [4] (fun i wr => ∃ k : Nat, 2 ≤ k ∧ k ≤ s.size ∧ i = .int .i64 k ∧ Hid (∀ j, 1 ≤ j → j < k → digitN (bt s j) = true) ∧ wr = w) (fun i _ => s.size - (intOf i).toNat)
  case atStart => exact ⟨2, Nat.le_refl _, hl, rfl, start_from HD.out, rfl⟩
  case round =>
    obtain ⟨k, hk1, hk, rfl, hh, hw⟩ := hrel
    have hw' := hw.symm
    subst hw'
    clear hc h1 h2 g45 g48 g480 hd
    have done : (k = s.size ∨ digitN (bt s k) = false) → sizeL (bs s) = k := fun e => by
      rw [size_num HK.out]
      exact num_minus hl HM.out HD.out HZ.out k hk1 hk hh.out e
    have DN : Hid _ := done
    clear done
    by_cases hlt : k < s.size
    · have bk := bt_at s k hlt
      have hltI : (k : Int) < (s.size : Int) := by omega
      cases a1 : digitN (bt s k)
      all_goals (go_wp2_with (go_at_call 39; refine (rdigit_any _ _).mono ?_; rintro e w' ⟨rfl, hw⟩; have hw' := hw.symm; subst hw'; clear hw; rw [a1]))
      · go_ret2
        exact wr_of' k 3 rfl rfl (DN.out (Or.inr a1)) (Or.inr HK.out) (fun h => by omega) _ (Below.refl _ _)
      · go_roundw
        case rel => exact ⟨k + 1, by omega, by omega, by go_num, more_from hh.out a1, trivial⟩
        case measure => simp [intOf]; omega
    · have hke : k = s.size := by omega
      subst hke
      go_wp2_with fail
      go_ret2
      exact wr_of' s.size 3 rfl rfl (DN.out (Or.inl trivial)) (Or.inr HK.out) (fun h => by omega) _ (Below.refl _ _)

end Go.Proofs.Ytienpejlfjhnmaa.Lx
namespace Go.Proofs.Ytienpejlfjhnmaa.Lx
open Go.RowKit

def oneN (n : Nat) : Bool := decide (n = 40) || decide (n = 41) || decide (n = 44) || decide (n = 46) || decide (n = 33) || decide (n = 61) || decide (n = 60)
def twoL (L : List UInt8) : Bool := [58, 45].isPrefixOf L || [33, 61].isPrefixOf L || [60, 61].isPrefixOf L

theorem sign_ref (L : List UInt8) (h : 0 < L.length) : signL L = if twoL L = true then 2 else if oneN (L.getD 0 0).toNat = true then 1 else 0 := by
  have hu : ∀ (c : UInt8) (n : Nat), n < 256 → (c.toNat = n ↔ (UInt8.ofNat n) = c) := fun c n hn => by
    constructor
    · intro e; rw [← e]; simp
    · intro e; rw [← e, UInt8.toNat_ofNat']; omega
  have ho : ∀ c : UInt8, oneN c.toNat = ((40 == c) || (41 == c) || (44 == c) || (46 == c) || (33 == c) || (61 == c) || (60 == c)) := fun c => by
    unfold oneN
    rw [Bool.eq_iff_iff]
    simp only [Bool.or_eq_true, decide_eq_true_eq, beq_iff_eq, hu c 40 (by decide), hu c 41 (by decide), hu c 44 (by decide), hu c 46 (by decide), hu c 33 (by decide), hu c 61 (by decide), hu c 60 (by decide)]
    rfl
  match L with
  | [] => simp at h
  | [c] =>
    simp only [signL, signsL, signIn, isPre1, isPre2', List.length, twoL, List.getD_cons_zero, ho]
    by_cases e1 : 40 = c
    · subst e1; rfl
    by_cases e2 : 41 = c
    · subst e2; rfl
    by_cases e3 : 44 = c
    · subst e3; rfl
    by_cases e4 : 46 = c
    · subst e4; rfl
    by_cases e6 : 61 = c
    · subst e6; rfl
    by_cases e5 : 33 = c
    · subst e5; rfl
    by_cases e7 : 60 = c
    · subst e7; rfl
    simp [e1, e2, e3, e4, e5, e6, e7]
  | c :: d :: t =>
    simp only [signL, signsL, signIn, isPre1, isPre2, List.length, twoL, List.getD_cons_zero, ho]
    by_cases e1 : 40 = c
    · subst e1; rfl
    by_cases e2 : 41 = c
    · subst e2; rfl
    by_cases e3 : 44 = c
    · subst e3; rfl
    by_cases e4 : 46 = c
    · subst e4; rfl
    by_cases e6 : 61 = c
    · subst e6; rfl
    by_cases e5 : 33 = c
    · subst e5; by_cases f : 61 = d
      · subst f; rfl
      · simp [f]
    by_cases e7 : 60 = c
    · subst e7; by_cases f : 61 = d
      · subst f; rfl
      · simp [f]
    by_cases e8 : 58 = c
    · subst e8; by_cases f : 45 = d
      · subst f; rfl
      · simp [f]
    simp [e1, e2, e3, e4, e5, e6, e7, e8]

/-- The table of signs of two bytes, as the call lays it. -/
abbrev tB (w : World) : World := w.alloc (.cells #[.string ⟨#[58, 45]⟩, .string ⟨#[33, 61]⟩, .string ⟨#[60, 61]⟩] 9)

theorem pre_two (s : ByteArray) (x y : UInt8) (h : 2 ≤ s.size) : ((s.extract 0 2).toList == [x, y]) = [x, y].isPrefixOf (bs s) := by
  have e0 := drop_cons (bs s) 0 (by rw [bs_length]; omega)
  have e1 := drop_cons (bs s) 1 (by rw [bs_length]; omega)
  rw [List.drop_zero] at e0
  have : (s.extract 0 2).toList = bs (s.extract 0 2) := Lib.toList_data _
  rw [this, bs_extract, List.drop_zero, e0, e1, isPre2]
  simp only [Nat.sub_zero, List.take_succ_cons, List.take_zero]
  rw [Bool.eq_iff_iff]
  simp only [beq_iff_eq, Bool.and_eq_true, List.cons.injEq, and_true]
  exact ⟨fun h => ⟨h.1.symm, h.2.symm⟩, fun h => ⟨h.1.symm, h.2.symm⟩⟩

theorem kind_sign {s : ByteArray} (h1 : smallN (bt s 0) = false) (h2 : greatN (bt s 0) = false) (h3 : digitN (bt s 0) = false) (hm : bt s 0 ≠ 45) : kindL (bs s) = 4 := by
  have e1 : smallN ((bs s).getD 0 0).toNat = false := h1
  have e2 : greatN ((bs s).getD 0 0).toNat = false := h2
  have e3 : digitN ((bs s).getD 0 0).toNat = false := h3
  have e4 : ¬ ((bs s).getD 0 0).toNat = 45 := hm
  rw [kindL, kindN, if_neg (by rw [e1]; decide), if_neg (by rw [e2]; decide), if_neg (fun h => h.elim (fun x => by rw [e3] at x; cases x) e4)]
theorem size_sign {s : ByteArray} (h : kindL (bs s) = 4) : sizeL (bs s) = signL (bs s) := by
  rw [sizeL, if_neg (by rw [h]; decide), if_neg (by rw [h]; decide), if_neg (by rw [h]; decide)]
theorem two_short (L : List UInt8) (h : L.length = 1) : twoL L = false := by
  match L, h with
  | [c], _ => simp [twoL, isPre2']
theorem below_tB (w : World) (n : Nat) : Below w.heap.size w ((tB w).drewN n) := ⟨rfl, rfl, rfl, by simp [World.drewN], fun k hk => (below_box w _).block k hk⟩
theorem tB_cells (w : World) (n : Nat) : ((tB w).drewN n).cell? ⟨w.heap.size, 0, none⟩ = some (.string ⟨#[58, 45]⟩) ∧ ((tB w).drewN n).cell? ⟨w.heap.size, 1, none⟩ = some (.string ⟨#[33, 61]⟩) ∧ ((tB w).drewN n).cell? ⟨w.heap.size, 2, none⟩ = some (.string ⟨#[60, 61]⟩) := by
  refine ⟨?_, ?_, ?_⟩
  · show (tB w).cell? _ = _
    rw [cell_of_row _ _ _ _ _ _ (heap_alloc_new _ _)]; rfl
  · show (tB w).cell? _ = _
    rw [cell_of_row _ _ _ _ _ _ (heap_alloc_new _ _)]; rfl
  · show (tB w).cell? _ = _
    rw [cell_of_row _ _ _ _ _ _ (heap_alloc_new _ _)]; rfl

theorem one_of {n : Nat} (h : ((n : Int) == 40) = true ∨ ((n : Int) == 41) = true ∨ ((n : Int) == 44) = true ∨ ((n : Int) == 46) = true ∨ ((n : Int) == 33) = true ∨ ((n : Int) == 61) = true ∨ ((n : Int) == 60) = true) : oneN n = true := by
  simp only [beq_iff_eq] at h
  simp [oneN]
  omega
theorem none_of {n : Nat} (h1 : ((n : Int) == 40) = false) (h2 : ((n : Int) == 41) = false) (h3 : ((n : Int) == 44) = false) (h4 : ((n : Int) == 46) = false) (h5 : ((n : Int) == 33) = false) (h6 : ((n : Int) == 61) = false) (h7 : ((n : Int) == 60) = false) : oneN n = false := by
  simp only [beq_eq_false_iff_ne, ne_eq] at h1 h2 h3 h4 h5 h6 h7
  simp [oneN]
  omega
theorem fin_two {s : ByteArray} {w : World} {b : Bool} (hk : kindL (bs s) = 4) (ht : twoL (bs s) = b) (h0 : 0 < s.size) (w' : World) (hb : Below w.heap.size w w') (hB : b = true := by rfl) : Wr s w (.returned (.tuple #[.int .i64 2, .int .i64 4])) w' :=
  wr_of' 2 4 rfl rfl (by rw [size_sign hk, sign_ref (bs s) h0, ht, hB]; rfl) (Or.inr hk) (fun h => by omega) _ hb
theorem fin_one {s : ByteArray} {w : World} {b : Bool} (hk : kindL (bs s) = 4) (ht : twoL (bs s) = b) (h0 : 0 < s.size) (ho : oneN (bt s 0) = true) (w' : World) (hb : Below w.heap.size w w') (hB : b = false := by rfl) : Wr s w (.returned (.tuple #[.int .i64 1, .int .i64 4])) w' :=
  wr_of' 1 4 rfl rfl (by rw [size_sign hk, sign_ref (bs s) h0, ht, hB, show oneN ((bs s).getD 0 0).toNat = true from ho]; rfl) (Or.inr hk) (fun h => by omega) _ hb
theorem fin_none {s : ByteArray} {w : World} {b : Bool} (hk : kindL (bs s) = 4) (ht : twoL (bs s) = b) (h0 : 0 < s.size) (ho : oneN (bt s 0) = false) (w' : World) (hb : Below w.heap.size w w') (hB : b = false := by rfl) : Wr s w (.returned (.tuple #[.int .i64 0, .int .i64 0])) w' :=
  wr_of' 0 0 rfl rfl (by rw [size_sign hk, sign_ref (bs s) h0, ht, hB, show oneN ((bs s).getD 0 0).toNat = false from ho]; rfl) (Or.inl rfl) (fun _ => rfl) _ hb

set_option maxHeartbeats 4000000 in
theorem word_sign (s : ByteArray) (w : World) (h0 : 0 < s.size) (hs : s.size ≤ 4000) (h1 : smallN (bt s 0) = false) (h2 : greatN (bt s 0) = false) (hc : digitN (bt s 0) = false) (hm : bt s 0 ≠ 45) :
    Calls Try.prog 34 #[.string s] w fun e w' => Wr s w e w' := by
  have b0 := bt_at s 0 h0
  have t0 : (w.alloc (.cells #[.string ⟨#[58, 45]⟩, .string ⟨#[33, 61]⟩, .string ⟨#[60, 61]⟩] 9)).cell? ⟨w.heap.size, 0, none⟩ = some (.string ⟨#[58, 45]⟩) := (tB_cells w 0).1
  have t1 : (w.alloc (.cells #[.string ⟨#[58, 45]⟩, .string ⟨#[33, 61]⟩, .string ⟨#[60, 61]⟩] 9)).cell? ⟨w.heap.size, 1, none⟩ = some (.string ⟨#[33, 61]⟩) := (tB_cells w 0).2.1
  have t2 : (w.alloc (.cells #[.string ⟨#[58, 45]⟩, .string ⟨#[33, 61]⟩, .string ⟨#[60, 61]⟩] 9)).cell? ⟨w.heap.size, 2, none⟩ = some (.string ⟨#[60, 61]⟩) := (tB_cells w 0).2.2
  have g45 : ((bt s 0 : Int) == 45) = false := by simp; omega
  have HK : Hid (kindL (bs s) = 4) := kind_sign h1 h2 hc hm
  clear hm
  by_cases hl : 2 ≤ s.size
  · have p0 := pre_two s 58 45 hl
    have p1 := pre_two s 33 61 hl
    have p2 := pre_two s 60 61 hl
    have HT : Hid (twoL (bs s) = ([58, 45].isPrefixOf (bs s) || [33, 61].isPrefixOf (bs s) || [60, 61].isPrefixOf (bs s))) := rfl
    generalize List.isPrefixOf [58, 45] (bs s) = q0 at *
    generalize List.isPrefixOf [33, 61] (bs s) = q1 at *
    generalize List.isPrefixOf [60, 61] (bs s) = q2 at *
    cases q0
    · cases q1
      · cases q2
        ·
          go_enter Try.func34, Try.ntmps34
          go_wp2_with (first
    | (go_at_call 38; refine (rsmall_any _ _).mono ?_; rintro e w' ⟨rfl, hw⟩; have hw' := hw.symm; subst hw'; clear hw; rw [h1])
    | (go_at_call 40; refine (rgreat_any _ _).mono ?_; rintro e w' ⟨rfl, hw⟩; have hw' := hw.symm; subst hw'; clear hw; rw [h2])
    | (go_at_call 39; refine (rdigit_any _ _).mono ?_; rintro e w' ⟨rfl, hw⟩; have hw' := hw.symm; subst hw'; clear hw; rw [hc]))
          have B0 : Hid (Below w.heap.size w (w.alloc (.cells #[.string ⟨#[58, 45]⟩, .string ⟨#[33, 61]⟩, .string ⟨#[60, 61]⟩] 9))) := below_box _ _
          generalize w.alloc (.cells #[.string ⟨#[58, 45]⟩, .string ⟨#[33, 61]⟩, .string ⟨#[60, 61]⟩] 9) = W0 at *
          refine wp_loop_rounds 4 ?_
          rw [rounds_succ]
          go_wp2_with fail
          have gd : (2 : Int) ≤ (s.size : Int) := by omega
          go_quiet (fail)
          clear gd
          have B1 : Hid (Below w.heap.size w (W0.drewN nq)) := ⟨B0.out.os, B0.out.tape, B0.out.output, B0.out.size, B0.out.block⟩
          have T0 : (W0.drewN nq).cell? ⟨w.heap.size, 0, none⟩ = some (.string ⟨#[58, 45]⟩) := t0
          have T1 : (W0.drewN nq).cell? ⟨w.heap.size, 1, none⟩ = some (.string ⟨#[33, 61]⟩) := t1
          have T2 : (W0.drewN nq).cell? ⟨w.heap.size, 2, none⟩ = some (.string ⟨#[60, 61]⟩) := t2
          clear t0 t1 t2
          have t0 := T0; have t1 := T1; have t2 := T2; clear T0 T1 T2
          clear B0
          generalize W0.drewN nq = W1 at *
          go_wp2_with fail
          rw [rounds_succ]
          go_wp2_with fail
          have gd : (2 : Int) ≤ (s.size : Int) := by omega
          go_quiet (fail)
          clear gd
          have B2 : Hid (Below w.heap.size w (W1.drewN nq)) := ⟨B1.out.os, B1.out.tape, B1.out.output, B1.out.size, B1.out.block⟩
          have T0 : (W1.drewN nq).cell? ⟨w.heap.size, 0, none⟩ = some (.string ⟨#[58, 45]⟩) := t0
          have T1 : (W1.drewN nq).cell? ⟨w.heap.size, 1, none⟩ = some (.string ⟨#[33, 61]⟩) := t1
          have T2 : (W1.drewN nq).cell? ⟨w.heap.size, 2, none⟩ = some (.string ⟨#[60, 61]⟩) := t2
          clear t0 t1 t2
          have t0 := T0; have t1 := T1; have t2 := T2; clear T0 T1 T2
          clear B1
          generalize W1.drewN nq = W2 at *
          go_wp2_with fail
          rw [rounds_succ]
          go_wp2_with fail
          have gd : (2 : Int) ≤ (s.size : Int) := by omega
          go_quiet (fail)
          clear gd
          have B3 : Hid (Below w.heap.size w (W2.drewN nq)) := ⟨B2.out.os, B2.out.tape, B2.out.output, B2.out.size, B2.out.block⟩
          have T0 : (W2.drewN nq).cell? ⟨w.heap.size, 0, none⟩ = some (.string ⟨#[58, 45]⟩) := t0
          have T1 : (W2.drewN nq).cell? ⟨w.heap.size, 1, none⟩ = some (.string ⟨#[33, 61]⟩) := t1
          have T2 : (W2.drewN nq).cell? ⟨w.heap.size, 2, none⟩ = some (.string ⟨#[60, 61]⟩) := t2
          clear t0 t1 t2
          have t0 := T0; have t1 := T1; have t2 := T2; clear T0 T1 T2
          clear B2
          generalize W2.drewN nq = W3 at *
          go_wp2_with fail
          rw [rounds_succ]
          go_wp2_with fail
          all_goals go_ret2
          all_goals first | (have ho : oneN (bt s 0) = true := one_of (by first | assumption | (left; assumption) | (right; left; assumption) | (right; right; left; assumption) | (right; right; right; left; assumption) | (right; right; right; right; left; assumption) | (right; right; right; right; right; left; assumption) | (right; right; right; right; right; right; assumption)); exact fin_one HK.out HT.out h0 ho _ B3.out) | (have ho : oneN (bt s 0) = false := none_of (by assumption) (by assumption) (by assumption) (by assumption) (by assumption) (by assumption) (by assumption); exact fin_none HK.out HT.out h0 ho _ B3.out)
        ·
          go_enter Try.func34, Try.ntmps34
          go_wp2_with (first
    | (go_at_call 38; refine (rsmall_any _ _).mono ?_; rintro e w' ⟨rfl, hw⟩; have hw' := hw.symm; subst hw'; clear hw; rw [h1])
    | (go_at_call 40; refine (rgreat_any _ _).mono ?_; rintro e w' ⟨rfl, hw⟩; have hw' := hw.symm; subst hw'; clear hw; rw [h2])
    | (go_at_call 39; refine (rdigit_any _ _).mono ?_; rintro e w' ⟨rfl, hw⟩; have hw' := hw.symm; subst hw'; clear hw; rw [hc]))
          have B0 : Hid (Below w.heap.size w (w.alloc (.cells #[.string ⟨#[58, 45]⟩, .string ⟨#[33, 61]⟩, .string ⟨#[60, 61]⟩] 9))) := below_box _ _
          generalize w.alloc (.cells #[.string ⟨#[58, 45]⟩, .string ⟨#[33, 61]⟩, .string ⟨#[60, 61]⟩] 9) = W0 at *
          refine wp_loop_rounds 4 ?_
          rw [rounds_succ]
          go_wp2_with fail
          have gd : (2 : Int) ≤ (s.size : Int) := by omega
          go_quiet (fail)
          clear gd
          have B1 : Hid (Below w.heap.size w (W0.drewN nq)) := ⟨B0.out.os, B0.out.tape, B0.out.output, B0.out.size, B0.out.block⟩
          have T0 : (W0.drewN nq).cell? ⟨w.heap.size, 0, none⟩ = some (.string ⟨#[58, 45]⟩) := t0
          have T1 : (W0.drewN nq).cell? ⟨w.heap.size, 1, none⟩ = some (.string ⟨#[33, 61]⟩) := t1
          have T2 : (W0.drewN nq).cell? ⟨w.heap.size, 2, none⟩ = some (.string ⟨#[60, 61]⟩) := t2
          clear t0 t1 t2
          have t0 := T0; have t1 := T1; have t2 := T2; clear T0 T1 T2
          clear B0
          generalize W0.drewN nq = W1 at *
          go_wp2_with fail
          rw [rounds_succ]
          go_wp2_with fail
          have gd : (2 : Int) ≤ (s.size : Int) := by omega
          go_quiet (fail)
          clear gd
          have B2 : Hid (Below w.heap.size w (W1.drewN nq)) := ⟨B1.out.os, B1.out.tape, B1.out.output, B1.out.size, B1.out.block⟩
          have T0 : (W1.drewN nq).cell? ⟨w.heap.size, 0, none⟩ = some (.string ⟨#[58, 45]⟩) := t0
          have T1 : (W1.drewN nq).cell? ⟨w.heap.size, 1, none⟩ = some (.string ⟨#[33, 61]⟩) := t1
          have T2 : (W1.drewN nq).cell? ⟨w.heap.size, 2, none⟩ = some (.string ⟨#[60, 61]⟩) := t2
          clear t0 t1 t2
          have t0 := T0; have t1 := T1; have t2 := T2; clear T0 T1 T2
          clear B1
          generalize W1.drewN nq = W2 at *
          go_wp2_with fail
          rw [rounds_succ]
          go_wp2_with fail
          have gd : (2 : Int) ≤ (s.size : Int) := by omega
          go_quiet (fail)
          clear gd
          have B3 : Hid (Below w.heap.size w (W2.drewN nq)) := ⟨B2.out.os, B2.out.tape, B2.out.output, B2.out.size, B2.out.block⟩
          have T0 : (W2.drewN nq).cell? ⟨w.heap.size, 0, none⟩ = some (.string ⟨#[58, 45]⟩) := t0
          have T1 : (W2.drewN nq).cell? ⟨w.heap.size, 1, none⟩ = some (.string ⟨#[33, 61]⟩) := t1
          have T2 : (W2.drewN nq).cell? ⟨w.heap.size, 2, none⟩ = some (.string ⟨#[60, 61]⟩) := t2
          clear t0 t1 t2
          have t0 := T0; have t1 := T1; have t2 := T2; clear T0 T1 T2
          clear B2
          generalize W2.drewN nq = W3 at *
          go_wp2_with fail
          go_ret2
          exact fin_two HK.out HT.out h0 _ B3.out
      ·
        go_enter Try.func34, Try.ntmps34
        go_wp2_with (first
    | (go_at_call 38; refine (rsmall_any _ _).mono ?_; rintro e w' ⟨rfl, hw⟩; have hw' := hw.symm; subst hw'; clear hw; rw [h1])
    | (go_at_call 40; refine (rgreat_any _ _).mono ?_; rintro e w' ⟨rfl, hw⟩; have hw' := hw.symm; subst hw'; clear hw; rw [h2])
    | (go_at_call 39; refine (rdigit_any _ _).mono ?_; rintro e w' ⟨rfl, hw⟩; have hw' := hw.symm; subst hw'; clear hw; rw [hc]))
        have B0 : Hid (Below w.heap.size w (w.alloc (.cells #[.string ⟨#[58, 45]⟩, .string ⟨#[33, 61]⟩, .string ⟨#[60, 61]⟩] 9))) := below_box _ _
        generalize w.alloc (.cells #[.string ⟨#[58, 45]⟩, .string ⟨#[33, 61]⟩, .string ⟨#[60, 61]⟩] 9) = W0 at *
        refine wp_loop_rounds 4 ?_
        rw [rounds_succ]
        go_wp2_with fail
        have gd : (2 : Int) ≤ (s.size : Int) := by omega
        go_quiet (fail)
        clear gd
        have B1 : Hid (Below w.heap.size w (W0.drewN nq)) := ⟨B0.out.os, B0.out.tape, B0.out.output, B0.out.size, B0.out.block⟩
        have T0 : (W0.drewN nq).cell? ⟨w.heap.size, 0, none⟩ = some (.string ⟨#[58, 45]⟩) := t0
        have T1 : (W0.drewN nq).cell? ⟨w.heap.size, 1, none⟩ = some (.string ⟨#[33, 61]⟩) := t1
        have T2 : (W0.drewN nq).cell? ⟨w.heap.size, 2, none⟩ = some (.string ⟨#[60, 61]⟩) := t2
        clear t0 t1 t2
        have t0 := T0; have t1 := T1; have t2 := T2; clear T0 T1 T2
        clear B0
        generalize W0.drewN nq = W1 at *
        go_wp2_with fail
        rw [rounds_succ]
        go_wp2_with fail
        have gd : (2 : Int) ≤ (s.size : Int) := by omega
        go_quiet (fail)
        clear gd
        have B2 : Hid (Below w.heap.size w (W1.drewN nq)) := ⟨B1.out.os, B1.out.tape, B1.out.output, B1.out.size, B1.out.block⟩
        have T0 : (W1.drewN nq).cell? ⟨w.heap.size, 0, none⟩ = some (.string ⟨#[58, 45]⟩) := t0
        have T1 : (W1.drewN nq).cell? ⟨w.heap.size, 1, none⟩ = some (.string ⟨#[33, 61]⟩) := t1
        have T2 : (W1.drewN nq).cell? ⟨w.heap.size, 2, none⟩ = some (.string ⟨#[60, 61]⟩) := t2
        clear t0 t1 t2
        have t0 := T0; have t1 := T1; have t2 := T2; clear T0 T1 T2
        clear B1
        generalize W1.drewN nq = W2 at *
        go_wp2_with fail
        go_ret2
        exact fin_two HK.out HT.out h0 _ B2.out
    ·
      go_enter Try.func34, Try.ntmps34
      go_wp2_with (first
    | (go_at_call 38; refine (rsmall_any _ _).mono ?_; rintro e w' ⟨rfl, hw⟩; have hw' := hw.symm; subst hw'; clear hw; rw [h1])
    | (go_at_call 40; refine (rgreat_any _ _).mono ?_; rintro e w' ⟨rfl, hw⟩; have hw' := hw.symm; subst hw'; clear hw; rw [h2])
    | (go_at_call 39; refine (rdigit_any _ _).mono ?_; rintro e w' ⟨rfl, hw⟩; have hw' := hw.symm; subst hw'; clear hw; rw [hc]))
      have B0 : Hid (Below w.heap.size w (w.alloc (.cells #[.string ⟨#[58, 45]⟩, .string ⟨#[33, 61]⟩, .string ⟨#[60, 61]⟩] 9))) := below_box _ _
      generalize w.alloc (.cells #[.string ⟨#[58, 45]⟩, .string ⟨#[33, 61]⟩, .string ⟨#[60, 61]⟩] 9) = W0 at *
      refine wp_loop_rounds 4 ?_
      rw [rounds_succ]
      go_wp2_with fail
      have gd : (2 : Int) ≤ (s.size : Int) := by omega
      go_quiet (fail)
      clear gd
      have B1 : Hid (Below w.heap.size w (W0.drewN nq)) := ⟨B0.out.os, B0.out.tape, B0.out.output, B0.out.size, B0.out.block⟩
      have T0 : (W0.drewN nq).cell? ⟨w.heap.size, 0, none⟩ = some (.string ⟨#[58, 45]⟩) := t0
      have T1 : (W0.drewN nq).cell? ⟨w.heap.size, 1, none⟩ = some (.string ⟨#[33, 61]⟩) := t1
      have T2 : (W0.drewN nq).cell? ⟨w.heap.size, 2, none⟩ = some (.string ⟨#[60, 61]⟩) := t2
      clear t0 t1 t2
      have t0 := T0; have t1 := T1; have t2 := T2; clear T0 T1 T2
      clear B0
      generalize W0.drewN nq = W1 at *
      go_wp2_with fail
      go_ret2
      exact fin_two HK.out HT.out h0 _ B1.out
  · have HT : Hid (twoL (bs s) = false) := two_short _ (by rw [bs_length]; omega)
    go_enter Try.func34, Try.ntmps34
    go_wp2_with (first
    | (go_at_call 38; refine (rsmall_any _ _).mono ?_; rintro e w' ⟨rfl, hw⟩; have hw' := hw.symm; subst hw'; clear hw; rw [h1])
    | (go_at_call 40; refine (rgreat_any _ _).mono ?_; rintro e w' ⟨rfl, hw⟩; have hw' := hw.symm; subst hw'; clear hw; rw [h2])
    | (go_at_call 39; refine (rdigit_any _ _).mono ?_; rintro e w' ⟨rfl, hw⟩; have hw' := hw.symm; subst hw'; clear hw; rw [hc]))
    have B0 : Hid (Below w.heap.size w (w.alloc (.cells #[.string ⟨#[58, 45]⟩, .string ⟨#[33, 61]⟩, .string ⟨#[60, 61]⟩] 9))) := below_box _ _
    generalize w.alloc (.cells #[.string ⟨#[58, 45]⟩, .string ⟨#[33, 61]⟩, .string ⟨#[60, 61]⟩] 9) = W0 at *
    refine wp_loop_rounds 4 ?_
    rw [rounds_succ]
    go_wp2_with fail
    have gd : decide ((2 : Int) ≤ (s.size : Int)) = false := by simp; omega
    go_quiet (fail)
    clear gd
    have B1 : Hid (Below w.heap.size w (W0.drewN nq)) := ⟨B0.out.os, B0.out.tape, B0.out.output, B0.out.size, B0.out.block⟩
    have T0 : (W0.drewN nq).cell? ⟨w.heap.size, 0, none⟩ = some (.string ⟨#[58, 45]⟩) := t0
    have T1 : (W0.drewN nq).cell? ⟨w.heap.size, 1, none⟩ = some (.string ⟨#[33, 61]⟩) := t1
    have T2 : (W0.drewN nq).cell? ⟨w.heap.size, 2, none⟩ = some (.string ⟨#[60, 61]⟩) := t2
    clear t0 t1 t2
    have t0 := T0; have t1 := T1; have t2 := T2; clear T0 T1 T2
    clear B0
    generalize W0.drewN nq = W1 at *
    go_wp2_with fail
    rw [rounds_succ]
    go_wp2_with fail
    have gd : decide ((2 : Int) ≤ (s.size : Int)) = false := by simp; omega
    go_quiet (fail)
    clear gd
    have B2 : Hid (Below w.heap.size w (W1.drewN nq)) := ⟨B1.out.os, B1.out.tape, B1.out.output, B1.out.size, B1.out.block⟩
    have T0 : (W1.drewN nq).cell? ⟨w.heap.size, 0, none⟩ = some (.string ⟨#[58, 45]⟩) := t0
    have T1 : (W1.drewN nq).cell? ⟨w.heap.size, 1, none⟩ = some (.string ⟨#[33, 61]⟩) := t1
    have T2 : (W1.drewN nq).cell? ⟨w.heap.size, 2, none⟩ = some (.string ⟨#[60, 61]⟩) := t2
    clear t0 t1 t2
    have t0 := T0; have t1 := T1; have t2 := T2; clear T0 T1 T2
    clear B1
    generalize W1.drewN nq = W2 at *
    go_wp2_with fail
    rw [rounds_succ]
    go_wp2_with fail
    have gd : decide ((2 : Int) ≤ (s.size : Int)) = false := by simp; omega
    go_quiet (fail)
    clear gd
    have B3 : Hid (Below w.heap.size w (W2.drewN nq)) := ⟨B2.out.os, B2.out.tape, B2.out.output, B2.out.size, B2.out.block⟩
    have T0 : (W2.drewN nq).cell? ⟨w.heap.size, 0, none⟩ = some (.string ⟨#[58, 45]⟩) := t0
    have T1 : (W2.drewN nq).cell? ⟨w.heap.size, 1, none⟩ = some (.string ⟨#[33, 61]⟩) := t1
    have T2 : (W2.drewN nq).cell? ⟨w.heap.size, 2, none⟩ = some (.string ⟨#[60, 61]⟩) := t2
    clear t0 t1 t2
    have t0 := T0; have t1 := T1; have t2 := T2; clear T0 T1 T2
    clear B2
    generalize W2.drewN nq = W3 at *
    go_wp2_with fail
    rw [rounds_succ]
    go_wp2_with fail
    all_goals go_ret2
    all_goals first | (have ho : oneN (bt s 0) = true := one_of (by first | assumption | (left; assumption) | (right; left; assumption) | (right; right; left; assumption) | (right; right; right; left; assumption) | (right; right; right; right; left; assumption) | (right; right; right; right; right; left; assumption) | (right; right; right; right; right; right; assumption)); exact fin_one HK.out HT.out h0 ho _ B3.out) | (have ho : oneN (bt s 0) = false := none_of (by assumption) (by assumption) (by assumption) (by assumption) (by assumption) (by assumption) (by assumption); exact fin_none HK.out HT.out h0 ho _ B3.out)

theorem fin_bare {s : ByteArray} {w : World} (hk : kindL (bs s) = 3) (hn : numL (bs s) = 0) (w' : World) (hb : Below w.heap.size w w') : Wr s w (.returned (.tuple #[.int .i64 0, .int .i64 0])) w' :=
  wr_of' 0 0 rfl rfl ((size_num hk).trans hn) (Or.inl rfl) (fun _ => rfl) _ hb
theorem num_bare {s : ByteArray} (h0 : 0 < s.size) (h : bt s 0 = 45) (hd : 1 < s.size → digitN (bt s 1) = false) : numL (bs s) = 0 := by
  have e0 := drop_cons (bs s) 0 (by rw [bs_length]; omega)
  rw [List.drop_zero] at e0
  have g0 : ((bs s).getD 0 0).toNat = 45 := h
  by_cases hl : 1 < s.size
  · have e1 := drop_cons (bs s) 1 (by rw [bs_length]; omega)
    have g2 : digitN ((bs s).getD 1 0).toNat = false := hd hl
    have g1 : ¬ ((bs s).getD 1 0).toNat = 48 := fun e => by rw [e] at g2; exact absurd g2 (by decide)
    rw [e0, e1]
    simp only [numL]
    rw [if_neg (by rw [g0]; decide), if_pos g0, if_neg g1, if_neg (by rw [g2]; decide)]
  · have e1 : (bs s).drop 1 = [] := List.drop_eq_nil_of_le (by rw [bs_length]; omega)
    rw [e0, e1]
    simp only [numL]
    rw [if_neg (by rw [g0]; decide), if_pos g0]
theorem pre_bare {s : ByteArray} (x y : UInt8) (hx : x ≠ 45) (h0 : 0 < s.size) (h : bt s 0 = 45) : [x, y].isPrefixOf (bs s) = false := by
  have e0 := drop_cons (bs s) 0 (by rw [bs_length]; omega)
  rw [List.drop_zero] at e0
  have g0 : (bs s).getD 0 0 = 45 := UInt8.toNat_inj.1 h
  rw [e0, g0]
  have : (x == 45) = false := by simpa using hx
  simp [List.isPrefixOf, this]

set_option maxHeartbeats 4000000 in
theorem word_bare (s : ByteArray) (w : World) (h0 : 0 < s.size) (hs : s.size ≤ 4000) (h1 : smallN (bt s 0) = false) (h2 : greatN (bt s 0) = false) (hc : digitN (bt s 0) = false) (hm : bt s 0 = 45) (hd : 1 < s.size → digitN (bt s 1) = false) :
    Calls Try.prog 34 #[.string s] w fun e w' => Wr s w e w' := by
  have b0 := bt_at s 0 h0
  have t0 : (w.alloc (.cells #[.string ⟨#[58, 45]⟩, .string ⟨#[33, 61]⟩, .string ⟨#[60, 61]⟩] 9)).cell? ⟨w.heap.size, 0, none⟩ = some (.string ⟨#[58, 45]⟩) := (tB_cells w 0).1
  have t1 : (w.alloc (.cells #[.string ⟨#[58, 45]⟩, .string ⟨#[33, 61]⟩, .string ⟨#[60, 61]⟩] 9)).cell? ⟨w.heap.size, 1, none⟩ = some (.string ⟨#[33, 61]⟩) := (tB_cells w 0).2.1
  have t2 : (w.alloc (.cells #[.string ⟨#[58, 45]⟩, .string ⟨#[33, 61]⟩, .string ⟨#[60, 61]⟩] 9)).cell? ⟨w.heap.size, 2, none⟩ = some (.string ⟨#[60, 61]⟩) := (tB_cells w 0).2.2
  have g45 : ((bt s 0 : Int) == 45) = true := by rw [hm]; rfl
  have f40 : ((bt s 0 : Int) == 40) = false := by rw [hm]; rfl
  have f41 : ((bt s 0 : Int) == 41) = false := by rw [hm]; rfl
  have f44 : ((bt s 0 : Int) == 44) = false := by rw [hm]; rfl
  have f46 : ((bt s 0 : Int) == 46) = false := by rw [hm]; rfl
  have f33 : ((bt s 0 : Int) == 33) = false := by rw [hm]; rfl
  have f61 : ((bt s 0 : Int) == 61) = false := by rw [hm]; rfl
  have f60 : ((bt s 0 : Int) == 60) = false := by rw [hm]; rfl
  have HK : Hid (kindL (bs s) = 3) := kind_num h1 h2 (Or.inr hm)
  have HN : Hid (numL (bs s) = 0) := num_bare h0 hm hd
  by_cases hl : 2 ≤ s.size
  · have p0 := pre_two s 58 45 hl
    have p1 := pre_two s 33 61 hl
    have p2 := pre_two s 60 61 hl
    rw [pre_bare 58 45 (by decide) h0 hm] at p0
    rw [pre_bare 33 61 (by decide) h0 hm] at p1
    rw [pre_bare 60 61 (by decide) h0 hm] at p2
    have hd1 := hd (by omega)
    have hl1 : 1 < s.size := by omega
    have b1 := bt_at s 1 hl1
    have gl : (1 : Int) < (s.size : Int) := by omega
    clear hm hd
    go_enter Try.func34, Try.ntmps34
    go_wp2_with fail
    refine (rsmall_any _ _).mono ?_
    rintro e w' ⟨rfl, hw⟩; have hw' := hw.symm; subst hw'; clear hw; rw [h1]
    go_wp2_with fail
    refine (rgreat_any _ _).mono ?_
    rintro e w' ⟨rfl, hw⟩; have hw' := hw.symm; subst hw'; clear hw; rw [h2]
    go_wp2_with fail
    refine (rdigit_any _ _).mono ?_
    rintro e w' ⟨rfl, hw⟩; have hw' := hw.symm; subst hw'; clear hw; rw [hc]
    go_wp2_with fail
    refine (rdigit_any _ _).mono ?_
    rintro e w' ⟨rfl, hw⟩; have hw' := hw.symm; subst hw'; clear hw; rw [hd1]
    go_wp2_with fail
    have B0 : Hid (Below w.heap.size w (w.alloc (.cells #[.string ⟨#[58, 45]⟩, .string ⟨#[33, 61]⟩, .string ⟨#[60, 61]⟩] 9))) := below_box _ _
    generalize w.alloc (.cells #[.string ⟨#[58, 45]⟩, .string ⟨#[33, 61]⟩, .string ⟨#[60, 61]⟩] 9) = W0 at *
    refine wp_loop_rounds 4 ?_
    rw [rounds_succ]
    go_wp2_with fail
    have gd : (2 : Int) ≤ (s.size : Int) := by omega
    go_quiet (fail)
    clear gd
    have B1 : Hid (Below w.heap.size w (W0.drewN nq)) := ⟨B0.out.os, B0.out.tape, B0.out.output, B0.out.size, B0.out.block⟩
    have T0 : (W0.drewN nq).cell? ⟨w.heap.size, 0, none⟩ = some (.string ⟨#[58, 45]⟩) := t0
    have T1 : (W0.drewN nq).cell? ⟨w.heap.size, 1, none⟩ = some (.string ⟨#[33, 61]⟩) := t1
    have T2 : (W0.drewN nq).cell? ⟨w.heap.size, 2, none⟩ = some (.string ⟨#[60, 61]⟩) := t2
    clear t0 t1 t2
    have t0 := T0; have t1 := T1; have t2 := T2; clear T0 T1 T2
    clear B0
    generalize W0.drewN nq = W1 at *
    go_wp2_with fail
    rw [rounds_succ]
    go_wp2_with fail
    have gd : (2 : Int) ≤ (s.size : Int) := by omega
    go_quiet (fail)
    clear gd
    have B2 : Hid (Below w.heap.size w (W1.drewN nq)) := ⟨B1.out.os, B1.out.tape, B1.out.output, B1.out.size, B1.out.block⟩
    have T0 : (W1.drewN nq).cell? ⟨w.heap.size, 0, none⟩ = some (.string ⟨#[58, 45]⟩) := t0
    have T1 : (W1.drewN nq).cell? ⟨w.heap.size, 1, none⟩ = some (.string ⟨#[33, 61]⟩) := t1
    have T2 : (W1.drewN nq).cell? ⟨w.heap.size, 2, none⟩ = some (.string ⟨#[60, 61]⟩) := t2
    clear t0 t1 t2
    have t0 := T0; have t1 := T1; have t2 := T2; clear T0 T1 T2
    clear B1
    generalize W1.drewN nq = W2 at *
    go_wp2_with fail
    rw [rounds_succ]
    go_wp2_with fail
    have gd : (2 : Int) ≤ (s.size : Int) := by omega
    go_quiet (fail)
    clear gd
    have B3 : Hid (Below w.heap.size w (W2.drewN nq)) := ⟨B2.out.os, B2.out.tape, B2.out.output, B2.out.size, B2.out.block⟩
    have T0 : (W2.drewN nq).cell? ⟨w.heap.size, 0, none⟩ = some (.string ⟨#[58, 45]⟩) := t0
    have T1 : (W2.drewN nq).cell? ⟨w.heap.size, 1, none⟩ = some (.string ⟨#[33, 61]⟩) := t1
    have T2 : (W2.drewN nq).cell? ⟨w.heap.size, 2, none⟩ = some (.string ⟨#[60, 61]⟩) := t2
    clear t0 t1 t2
    have t0 := T0; have t1 := T1; have t2 := T2; clear T0 T1 T2
    clear B2
    generalize W2.drewN nq = W3 at *
    go_wp2_with fail
    rw [rounds_succ]
    go_wp2_with fail
    go_ret2
    exact fin_bare HK.out HN.out _ B3.out
  · have gl : decide ((1 : Int) < (s.size : Int)) = false := by simp; omega
    clear hm hd
    go_enter Try.func34, Try.ntmps34
    go_wp2_with (first
    | (go_at_call 38; refine (rsmall_any _ _).mono ?_; rintro e w' ⟨rfl, hw⟩; have hw' := hw.symm; subst hw'; clear hw; rw [h1])
    | (go_at_call 40; refine (rgreat_any _ _).mono ?_; rintro e w' ⟨rfl, hw⟩; have hw' := hw.symm; subst hw'; clear hw; rw [h2])
    | (go_at_call 39; refine (rdigit_any _ _).mono ?_; rintro e w' ⟨rfl, hw⟩; have hw' := hw.symm; subst hw'; clear hw; rw [hc]))
    have B0 : Hid (Below w.heap.size w (w.alloc (.cells #[.string ⟨#[58, 45]⟩, .string ⟨#[33, 61]⟩, .string ⟨#[60, 61]⟩] 9))) := below_box _ _
    generalize w.alloc (.cells #[.string ⟨#[58, 45]⟩, .string ⟨#[33, 61]⟩, .string ⟨#[60, 61]⟩] 9) = W0 at *
    refine wp_loop_rounds 4 ?_
    rw [rounds_succ]
    go_wp2_with fail
    have gd : decide ((2 : Int) ≤ (s.size : Int)) = false := by simp; omega
    go_quiet (fail)
    clear gd
    have B1 : Hid (Below w.heap.size w (W0.drewN nq)) := ⟨B0.out.os, B0.out.tape, B0.out.output, B0.out.size, B0.out.block⟩
    have T0 : (W0.drewN nq).cell? ⟨w.heap.size, 0, none⟩ = some (.string ⟨#[58, 45]⟩) := t0
    have T1 : (W0.drewN nq).cell? ⟨w.heap.size, 1, none⟩ = some (.string ⟨#[33, 61]⟩) := t1
    have T2 : (W0.drewN nq).cell? ⟨w.heap.size, 2, none⟩ = some (.string ⟨#[60, 61]⟩) := t2
    clear t0 t1 t2
    have t0 := T0; have t1 := T1; have t2 := T2; clear T0 T1 T2
    clear B0
    generalize W0.drewN nq = W1 at *
    go_wp2_with fail
    rw [rounds_succ]
    go_wp2_with fail
    have gd : decide ((2 : Int) ≤ (s.size : Int)) = false := by simp; omega
    go_quiet (fail)
    clear gd
    have B2 : Hid (Below w.heap.size w (W1.drewN nq)) := ⟨B1.out.os, B1.out.tape, B1.out.output, B1.out.size, B1.out.block⟩
    have T0 : (W1.drewN nq).cell? ⟨w.heap.size, 0, none⟩ = some (.string ⟨#[58, 45]⟩) := t0
    have T1 : (W1.drewN nq).cell? ⟨w.heap.size, 1, none⟩ = some (.string ⟨#[33, 61]⟩) := t1
    have T2 : (W1.drewN nq).cell? ⟨w.heap.size, 2, none⟩ = some (.string ⟨#[60, 61]⟩) := t2
    clear t0 t1 t2
    have t0 := T0; have t1 := T1; have t2 := T2; clear T0 T1 T2
    clear B1
    generalize W1.drewN nq = W2 at *
    go_wp2_with fail
    rw [rounds_succ]
    go_wp2_with fail
    have gd : decide ((2 : Int) ≤ (s.size : Int)) = false := by simp; omega
    go_quiet (fail)
    clear gd
    have B3 : Hid (Below w.heap.size w (W2.drewN nq)) := ⟨B2.out.os, B2.out.tape, B2.out.output, B2.out.size, B2.out.block⟩
    have T0 : (W2.drewN nq).cell? ⟨w.heap.size, 0, none⟩ = some (.string ⟨#[58, 45]⟩) := t0
    have T1 : (W2.drewN nq).cell? ⟨w.heap.size, 1, none⟩ = some (.string ⟨#[33, 61]⟩) := t1
    have T2 : (W2.drewN nq).cell? ⟨w.heap.size, 2, none⟩ = some (.string ⟨#[60, 61]⟩) := t2
    clear t0 t1 t2
    have t0 := T0; have t1 := T1; have t2 := T2; clear T0 T1 T2
    clear B2
    generalize W2.drewN nq = W3 at *
    go_wp2_with fail
    rw [rounds_succ]
    go_wp2_with fail
    go_ret2
    exact fin_bare HK.out HN.out _ B3.out

end Go.Proofs.Ytienpejlfjhnmaa.Lx
namespace Go.Proofs.Ytienpejlfjhnmaa.Lx
open Go.RowKit

theorem word_any (s : ByteArray) (w : World) (h0 : 0 < s.size) (hs : s.size ≤ 4000) : Calls Try.prog 34 #[.string s] w fun e w' => Wr s w e w' := by
  by_cases h1 : smallN (bt s 0) = true
  · exact word_small s w h0 hs h1
  rw [Bool.not_eq_true] at h1
  by_cases h2 : greatN (bt s 0) = true
  · exact word_great s w h0 hs h1 h2
  rw [Bool.not_eq_true] at h2
  by_cases h3 : digitN (bt s 0) = true
  · exact word_digit s w h0 hs h1 h2 h3
  rw [Bool.not_eq_true] at h3
  by_cases h4 : bt s 0 = 45
  · by_cases hd : 1 < s.size ∧ digitN (bt s 1) = true
    · exact word_minus s w h0 hd.1 hs h1 h2 h3 h4 hd.2
    · exact word_bare s w h0 hs h1 h2 h3 h4 fun hl => by
        cases hx : digitN (bt s 1)
        · rfl
        · exact absurd ⟨hl, hx⟩ hd
  · exact word_sign s w h0 hs h1 h2 h3 h4

/-- What the reference's Scan gives. -/
def Sr (s : ByteArray) (w : World) (r : Ending) (w' : World) : Prop :=
  (∃ v L, scanAt (bs s) 0 = some L ∧ r = .returned (.tuple #[v, .int .i64 0]) ∧ Rw 84 w w' v L) ∨ (scanAt (bs s) 0 = none ∧ ∃ v, r = .returned (.tuple #[v, .int .i64 4]) ∧ Rw 84 w w' v (frontAt (bs s) 0))

theorem blank_not {n : Nat} (h : blankN n = false) : ((n : Int) == 32) = false ∧ ((n : Int) == 9) = false ∧ ((n : Int) == 10) = false ∧ ((n : Int) == 13) = false := by
  simp [blankN] at h
  simp
  omega
theorem blank_is {n : Nat} (h : blankN n = true) : n = 32 ∨ n = 9 ∨ n = 10 ∨ n = 13 := by
  simp [blankN] at h
  omega

theorem kind_four {L : List UInt8} (h : kindL L = 4) : sizeL L ≤ 16 := by
  rw [sizeL, if_neg (by rw [h]; decide), if_neg (by rw [h]; decide), if_neg (by rw [h]; decide)]
  have := signL_two L
  omega

theorem line_eq {s : ByteArray} {k j : Nat} (hkj : k ≤ j) (hj : j ≤ s.size) (h : ∀ x, k ≤ x → x < j → bt s x ≠ 10) (he : j = s.size ∨ bt s j = 10) : lineL ((bs s).drop k) = j - k := by
  refine runP_eq _ _ _ (by rw [List.length_drop, bs_length]; omega) (fun x hx => ?_) ?_
  · have := h (k + x) (by omega) (by omega)
    simpa [bt, List.getD, List.getElem?_drop] using this
  · rcases he with he | he
    · left; rw [List.length_drop, bs_length]; omega
    · right
      have e : k + (j - k) = j := by omega
      simpa [bt, List.getD, List.getElem?_drop, e] using he

/-- What word says of the rest of a text. -/
theorem word_says (S : List UInt8) (a n d : Nat) (h : a < S.length) (hb : blankN (S.getD a 0).toNat = false) (hn : (S.getD a 0).toNat ≠ 37) (e1 : sizeL (S.drop a) = n) (e2 : (if sizeL (S.drop a) = 0 then 0 else kindL (S.drop a)) = d) :
    (n = 0 ∧ scanAt S a = none ∧ frontAt S a = []) ∨ (16 < n ∧ d < 4 ∧ scanAt S a = none ∧ frontAt S a = []) ∨ (1 ≤ n ∧ n ≤ 16 ∧ a + n ≤ S.length ∧ scanAt S a = (scanAt S (a + n)).map (fun r => (d, (S.drop a).take n, a) :: r) ∧ frontAt S a = (d, (S.drop a).take n, a) :: frontAt S (a + n)) := by
  have hl := sizeL_le (S.drop a)
  rw [List.length_drop] at hl
  by_cases h0 : n = 0
  · left
    exact ⟨h0, scanAt_bad S a h hb hn (Or.inl (by rw [e1, h0])), frontAt_bad S a h hb hn (Or.inl (by rw [e1, h0]))⟩
  · right
    rw [e1, if_neg h0] at e2
    by_cases h16 : 16 < n
    · left
      refine ⟨h16, ?_, scanAt_bad S a h hb hn (Or.inr (by rw [e1]; exact h16)), frontAt_bad S a h hb hn (Or.inr (by rw [e1]; exact h16))⟩
      have hk : kindL (S.drop a) ≤ 4 := (kindN_pos _).2
      by_cases h4 : kindL (S.drop a) = 4
      · have := kind_four h4
        omega
      · omega
    · right
      have := scanAt_word S a h hb hn (by rw [e1]; exact h0) (by rw [e1]; omega)
      rw [e1, e2] at this
      have this2 := frontAt_word S a h hb hn (by rw [e1]; exact h0) (by rw [e1]; omega)
      rw [e1, e2] at this2
      exact ⟨by omega, by omega, by omega, this, this2⟩

theorem rscan_long (s : ByteArray) (w : World) (h : 4000 < s.size) :
    Calls Try.prog 24 #[.string s] w fun e w' => e = .returned (.tuple #[.slice none 0 0, .int .i64 8]) ∧ w' = w := by
  go_enter Try.func24, Try.ntmps24
  go_wp2
  go_ret2
  exact ⟨rfl, rfl⟩

set_option maxRecDepth 4000 in
set_option maxHeartbeats 4000000 in
theorem rscan_any (s : ByteArray) (w : World) (hs : s.size ≤ 4000) :
    Calls Try.prog 24 #[.string s] w fun e w' => Sr s w e w' := by
  go_enter Try.func24, Try.ntmps24
  go_wp2_with fail
  go_loopw [4, 5] (fun v i wr => ∃ (k : Nat) (L : List Wd), i = .int .i64 k ∧ k ≤ s.size ∧ Hid (Sp (bs s) k L) ∧ L.length ≤ k ∧ Hid (Rw 84 w wr v L)) (fun _ i _ => s.size - (intOf i).toNat)
  case atStart => exact ⟨0, [], rfl, Nat.zero_le _, Sp.start _, Nat.le_refl _, Rw.nil _ _⟩
  case round =>
    obtain ⟨k, L, rfl, hk, H1, hLk, HR⟩ := hrel
    by_cases hlt : k < s.size
    · have bk := bt_at s k hlt
      have hltI : (k : Int) < (s.size : Int) := by omega
      cases hb : blankN (bt s k)
      · obtain ⟨n1, n2, n3, n4⟩ := blank_not hb
        have HB : Hid _ := hb
        clear hb
        by_cases hp : bt s k = 37
        · have g37 : ((bt s k : Int) == 37) = true := by rw [hp]; rfl
          have HP : Hid _ := hp
          clear hp
          go_wp2_with fail
          go_loopw [5] (fun i wr' => ∃ j : Nat, k ≤ j ∧ j ≤ s.size ∧ i = .int .i64 j ∧ Hid (∀ x, k ≤ x → x < j → bt s x ≠ 10) ∧ wr' = wr) (fun i _ => s.size - (intOf i).toNat)
          case atStart => exact ⟨k, Nat.le_refl _, hk, rfl, fun x h1 h2 => absurd h2 (by omega), rfl⟩
          case round =>
            obtain ⟨j, hkj, hj, rfl, hx, hw⟩ := hrel
            have hw' := hw.symm
            subst hw'
            have dn : (j = s.size ∨ bt s j = 10) → (scanAt (bs s) k = scanAt (bs s) j ∧ frontAt (bs s) k = frontAt (bs s) j) ∧ k < j := fun he => by
              have hn := scanAt_note (bs s) k hlt HP.out
              have hn2 := frontAt_note (bs s) k hlt HP.out
              rw [line_eq hkj hj hx.out he] at hn hn2
              have e : k + (j - k) = j := by omega
              rw [e] at hn hn2
              exact ⟨⟨hn.1, hn2⟩, by omega⟩
            have DN : Hid _ := dn
            clear dn bk
            by_cases hlj : j < s.size
            · have bj := bt_at s j hlj
              have hljI : (j : Int) < (s.size : Int) := by omega
              by_cases h10 : bt s j = 10
              · have g10 : ((bt s j : Int) == 10) = true := by rw [h10]; rfl
                obtain ⟨d1, d2⟩ := DN.out (Or.inr h10)
                have D1 : Hid _ := d1
                clear d1 h10 DN
                go_wp2_with fail
                exact ⟨⟨j, L, rfl, hj, H1.out.same D1.out, by omega, HR⟩, by simp [intOf]; omega⟩
              · have g10 : ((bt s j : Int) == 10) = false := by simp; omega
                have H10 : Hid _ := h10
                clear h10
                go_wp2_with fail
                go_roundw
                case rel => exact ⟨j + 1, by omega, by omega, by go_num, fun x h1 h2 => by
                  by_cases e : x < j
                  · exact hx.out x h1 e
                  · have : x = j := by omega
                    rw [this]; exact H10.out, trivial⟩
                case measure => simp [intOf]; omega
            · have hje : j = s.size := by omega
              subst hje
              obtain ⟨d1, d2⟩ := DN.out (Or.inl rfl)
              have D1 : Hid _ := d1
              clear d1 DN
              go_wp2_with fail
              exact ⟨⟨s.size, L, rfl, Nat.le_refl _, H1.out.same D1.out, by omega, HR⟩, by simp [intOf]; omega⟩
        · have g37 : ((bt s k : Int) == 37) = false := by simp; omega
          have HP : Hid _ := hp
          clear hp
          obtain ⟨n, hn⟩ : ∃ n, Hid (sizeL ((bs s).drop k) = n) := ⟨_, rfl⟩
          obtain ⟨d, hd⟩ : ∃ d, Hid ((if sizeL ((bs s).drop k) = 0 then 0 else kindL ((bs s).drop k)) = d) := ⟨_, rfl⟩
          have HW : Hid _ := word_says (bs s) k n d hlt HB.out HP.out hn.out hd.out
          go_wp2_with fail
          refine (word_any _ _ (by rw [size_from]; omega) (by rw [size_from]; omega)).mono ?_
          rintro e w1 ⟨rfl, hb⟩
          rw [bs_from, hd.out, hn.out]
          have HR1 : Hid (Rw 84 w w1 u4 L) := HR.out.keep hb
          clear hb HR
          rcases HW.out with ⟨h0, hno⟩ | ⟨h16, h4, hno⟩ | ⟨g1, g2, g3, g4⟩
          · subst h0
            have HN : Hid _ := hno
            clear hno HW hn hd
            go_wp2_with fail
            go_ret2
            exact Or.inr ⟨(H1.out.bad HN.out).1, _, rfl, by rw [(H1.out.bad HN.out).2]; exact HR1.out⟩
          · have HN : Hid _ := hno
            clear hno HW hn hd
            have e0 : ((n : Int) == 0) = false := by simp; omega
            have e1 : (d : Int) < 4 := by omega
            have e2 : (16 : Int) < (n : Int) := by omega
            go_wp2_with fail
            go_ret2
            exact Or.inr ⟨(H1.out.bad HN.out).1, _, rfl, by rw [(H1.out.bad HN.out).2]; exact HR1.out⟩
          · have H4 : Hid _ := g4
            clear g4 HW hn hd
            have e0 : ((n : Int) == 0) = false := by simp; omega
            have e2 : ¬ (16 : Int) < (n : Int) := by omega
            have hn3 : k + n ≤ s.size := g3
            obtain ⟨X, hX⟩ : ∃ X, Hid (((bs s).drop k).take n = X) := ⟨_, rfl⟩
            rw [hX.out] at H4
            have HX : Hid (s.extract k (k + n) = tx X) := by rw [extract_tx, Nat.add_sub_cancel_left, hX.out]; rfl
            obtain ⟨g, cap, w3, hap, HR3⟩ := push_any 65 84 Try.underlying65 Try.info84 HR1.out (d, X, k) (by omega)
            clear HR1 g3
            simp only [] at hap
            rw [← HX.out] at hap
            have hgo : Hid (Sp (bs s) (k + n) (L ++ [(d, X, k)])) := H1.out.more H4.out
            clear H1 H4 HX hX HP HB
            by_cases hd4 : (d : Int) < 4
            all_goals go_wp2_with (at_builtin; refine wpList_append_run _ rfl (.tmp 37) (.tmp 47) 65 65 rfl _ _ rfl rfl (hap _) ?_)
            all_goals clear hap
            all_goals (go_roundw
                       case rel => exact ⟨k + n, L ++ [(d, X, k)], by go_num, hn3, hgo, by simp; omega, HR3⟩
                       case measure => simp [intOf]; omega)
      · have HS : Hid (scanAt (bs s) k = scanAt (bs s) (k + 1) ∧ frontAt (bs s) k = frontAt (bs s) (k + 1)) := ⟨scanAt_blank (bs s) k hlt hb, frontAt_blank (bs s) k hlt hb⟩
        have h4 := blank_is hb
        clear hb
        have hcs : (((bt s k : Int) == 32) = true) ∨ ((((bt s k : Int) == 32) = false) ∧ (((bt s k : Int) == 9) = true)) ∨ ((((bt s k : Int) == 32) = false) ∧ (((bt s k : Int) == 9) = false) ∧ (((bt s k : Int) == 10) = true)) ∨ ((((bt s k : Int) == 32) = false) ∧ (((bt s k : Int) == 9) = false) ∧ (((bt s k : Int) == 10) = false) ∧ (((bt s k : Int) == 13) = true)) := by
          rcases h4 with h4 | h4 | h4 | h4 <;> rw [h4] <;> simp
        clear h4
        rcases hcs with m1 | ⟨m1, m2⟩ | ⟨m1, m2, m3⟩ | ⟨m1, m2, m3, m4⟩
        all_goals go_wp2_with fail
        all_goals (go_roundw
                   case rel => exact ⟨k + 1, L, by go_num, by omega, H1.out.same HS.out, by omega, HR⟩
                   case measure => simp [intOf]; omega)
    · have hke : k = s.size := by omega
      subst hke
      go_wp2_with fail
      go_ret2
      exact Or.inl ⟨_, L, H1.out.good (Nat.le_refl _), rfl, HR.out⟩

/-- A string's first bytes. -/
def cutS (s : ByteArray) (n : Nat) : ByteArray := if n < s.size then s.extract 0 n else s
theorem cutS_size (s : ByteArray) (n : Nat) : (cutS s n).size ≤ n := by
  unfold cutS
  split
  · simp; omega
  · omega
set_option maxHeartbeats 1000000 in
theorem cutS_any (s : ByteArray) (n : Nat) (w : World) :
    Calls Try.prog 16 #[.string s, .int .i64 (n : Int)] w fun e w' => e = .returned (.string (cutS s n)) ∧ w' = w := by
  go_enter Try.func16, Try.ntmps16
  go_wp2
  all_goals go_ret
  · rename_i h
    rw [cutS, if_pos h]
    exact ⟨rfl, rfl⟩
  · rename_i h
    rw [cutS, if_neg h]
    exact ⟨rfl, rfl⟩

end Go.Proofs.Ytienpejlfjhnmaa.Lx
namespace Go.Proofs.Ytienpejlfjhnmaa.Vl
open Go.RowKit

/-- A small letter; a digit; what may stand behind a word's first letter. -/
def smallN (n : Nat) : Bool := decide (97 ≤ n) && decide (n ≤ 122)
def digitN (n : Nat) : Bool := decide (48 ≤ n) && decide (n ≤ 57)
def restN (n : Nat) : Bool := smallN n || digitN n || decide (n = 95)
/-- The byte at a place, as a number. -/
def bt (s : ByteArray) (j : Nat) : Nat := (s.data.toList.getD j 0).toNat
theorem bt_lt (s : ByteArray) (j : Nat) : bt s j < 256 := UInt8.toNat_lt _
theorem bt_at (s : ByteArray) (j : Nat) (h : j < s.size) : (s[j]'h).toNat = bt s j := by
  unfold bt
  rw [List.getD, Array.getElem?_toList, Array.getElem?_eq_getElem (show j < s.data.size from h)]
  rfl

def wordS (s : ByteArray) : Bool := decide (1 ≤ s.size) && decide (s.size ≤ 16) && smallN (bt s 0) && (List.range s.size).all fun j => j == 0 || restN (bt s j)

theorem wordS_iff (s : ByteArray) : wordS s = true ↔ 1 ≤ s.size ∧ s.size ≤ 16 ∧ smallN (bt s 0) = true ∧ ∀ j, 1 ≤ j → j < s.size → restN (bt s j) = true := by
  unfold wordS
  simp only [Bool.and_eq_true, decide_eq_true_eq, List.all_eq_true, List.mem_range, Bool.or_eq_true, beq_iff_eq]
  constructor
  · rintro ⟨⟨⟨h1, h2⟩, h3⟩, h4⟩
    exact ⟨h1, h2, h3, fun j hj hl => (h4 j hl).resolve_left (by omega)⟩
  · rintro ⟨h1, h2, h3, h4⟩
    exact ⟨⟨⟨h1, h2⟩, h3⟩, fun j hl => if hj : j = 0 then Or.inl hj else Or.inr (h4 j (by omega) hl)⟩

theorem ret_bool {a b : Bool} (h : a = b) : Ending.returned (.bool a) = Ending.returned (.bool b) := by rw [h]

theorem wordS_not {s : ByteArray} (h : ¬ (1 ≤ s.size ∧ s.size ≤ 16 ∧ smallN (bt s 0) = true ∧ ∀ j, 1 ≤ j → j < s.size → restN (bt s j) = true)) : wordS s = false := by
  rw [← wordS_iff] at h
  simpa using h

theorem rest_more {s : ByteArray} {k a : Nat} (h : ∀ j, a ≤ j → j < k → restN (bt s j) = true) (hk : restN (bt s k) = true) : ∀ j, a ≤ j → j < k + 1 → restN (bt s j) = true := by
  intro j hj hl
  by_cases e : j < k
  · exact h j hj e
  · have : j = k := by omega
    rw [this]; exact hk

theorem ref_not {n k : Nat} (h : ¬ ((¬ (smallN n = true)) ∧ (k = 0 ∨ ¬ (digitN n = true ∨ n = 95)))) : (k = 0 → smallN n = true) ∧ restN n = true := by
  unfold restN
  by_cases h1 : smallN n = true <;> by_cases h2 : digitN n = true <;> by_cases h3 : n = 95 <;> simp_all

end Go.Proofs.Ytienpejlfjhnmaa.Vl

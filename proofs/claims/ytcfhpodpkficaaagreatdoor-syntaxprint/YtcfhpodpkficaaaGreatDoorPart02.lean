/- The walks of first and skip. A row of words in memory, and what 'append' of one word leaves; strings.Clone. The walk of the reference's word, where the text begins with a small or great letter or a digit. The walk of the reference's word, where the text begins with a digit or a minus ahead of one. -/
import Derived.Test.YtcfhpodpkficaaaGreatDoorPart01
import Derived.Maps.AppendAt
import Derived.Laws.AppendOwnNone
import Derived.Laws.Rows
namespace Go.Proofs.YtcfhpodpkficaaaGreatDoor.Lx
open Go.RowKit

theorem bs_extract (s : ByteArray) (a b : Nat) : bs (s.extract a b) = ((bs s).drop a).take (b - a) := by
  unfold bs
  rw [ByteArray.data_extract, Array.toList_extract, List.extract_eq_take_drop]

theorem bs_from (s : ByteArray) (a : Nat) : bs (s.extract a s.size) = (bs s).drop a := by
  rw [bs_extract s a s.size, List.take_of_length_le (by rw [List.length_drop, bs_length]; exact Nat.le_refl _)]

theorem size_from (s : ByteArray) (a : Nat) : (s.extract a s.size).size = s.size - a := by simp

/-- What first gives. -/
def firstK (L : List UInt8) : Nat := if sizeL L = 0 ∨ 16 < sizeL L then 0 else kindL L
def firstN (L : List UInt8) : Nat := if sizeL L = 0 ∨ 16 < sizeL L then 0 else sizeL L

theorem ret_two {a b c d : Int} (h : a = c) (g : b = d) : Ending.returned (.tuple #[.int .i64 a, .int .i64 b]) = Ending.returned (.tuple #[.int .i64 c, .int .i64 d]) := by rw [h, g]

set_option maxHeartbeats 4000000 in
theorem first_any (s : ByteArray) (w : World) (h : Sg w) (h0 : 0 < s.size) (hs : s.size ≤ 4611686018427387904) :
    Calls Tryz.prog 73 #[.string s] w fun e w' => e = .returned (.tuple #[.int .i64 ((firstK (bs s) : Nat) : Int), .int .i64 ((firstN (bs s) : Nat) : Int)]) ∧ w' = w := by
  have b0 := bt_at s 0 h0
  have HS : Hid (Sg w) := h
  clear h
  obtain ⟨n, hn⟩ : ∃ n, Hid (sizeL (bs s) = n) := ⟨_, rfl⟩
  have hle : n ≤ s.size := by rw [← hn.out]; exact sizeL_le _
  have hk : Hid (kindL (bs s) = kindN (bt s 0)) := rfl
  have HB : Hid (n = 0 ∨ 16 < n → firstK (bs s) = 0 ∧ firstN (bs s) = 0) := by rw [← hn.out]; exact fun e => ⟨if_pos e, if_pos e⟩
  have HG : Hid (¬ (n = 0 ∨ 16 < n) → firstK (bs s) = kindN (bt s 0) ∧ firstN (bs s) = n) := by rw [← hn.out]; exact fun e => ⟨if_neg e, if_neg e⟩
  have hz : Hid ((kindN (bt s 0) = 1 → runP nameN (bs s) = n) ∧ (kindN (bt s 0) = 2 → runP varN (bs s) = n) ∧ (kindN (bt s 0) = 3 → numL (bs s) = n) ∧ (kindN (bt s 0) = 4 → signL (bs s) = n)) := by
    rw [← hn.out]
    refine ⟨fun e => ?_, fun e => ?_, fun e => ?_, fun e => ?_⟩ <;> rw [← hk.out] at e <;> simp [sizeL, e]
  clear hn hk
  generalize bt s 0 = c at *
  have hc : n = 0 ∨ 16 < n ∨ (n ≠ 0 ∧ n ≤ 16) := by omega
  by_cases h1 : smallN c = true
  · have hkk : Hid (kindN c = 1) := show kindN c = 1 by simp [kindN, h1]
    have h2 : greatN c = false := by simp [smallN, greatN] at h1 ⊢; omega
    have h3 : digitN c = false := by simp [smallN, digitN] at h1 ⊢; omega
    rcases hc with rfl | hb | ⟨hb0, hb⟩
    · go_enter Tryz.func73, Tryz.ntmps73
      go_wp2_with (first
      | (go_at_call 87; refine (isSmall_any _ _).mono ?_; rintro e w' ⟨rfl, hw⟩; have hw' := hw.symm; subst hw'; clear hw; rw [h1])
      | (go_at_call 90; refine (isGreat_any _ _).mono ?_; rintro e w' ⟨rfl, hw⟩; have hw' := hw.symm; subst hw'; clear hw; rw [h2])
      | (go_at_call 92; refine (isDigit_any _ _).mono ?_; rintro e w' ⟨rfl, hw⟩; have hw' := hw.symm; subst hw'; clear hw; rw [h3])
      | (go_at_call 88; refine (run_any 89 nameN inName_any enters18 _ _ (by omega)).mono ?_; rintro e w' ⟨rfl, hw⟩; have hw' := hw.symm; subst hw'; clear hw; rw [hz.out.1 hkk.out]))
      go_ret2
      exact ⟨ret_two (by rw [(HB.out (by simp)).1]; rfl) (by rw [(HB.out (by simp)).2]; rfl), rfl⟩
    · have gb : ((n : Int) == 0) = false := by simp; omega
      go_enter Tryz.func73, Tryz.ntmps73
      go_wp2_with (first
      | (go_at_call 87; refine (isSmall_any _ _).mono ?_; rintro e w' ⟨rfl, hw⟩; have hw' := hw.symm; subst hw'; clear hw; rw [h1])
      | (go_at_call 90; refine (isGreat_any _ _).mono ?_; rintro e w' ⟨rfl, hw⟩; have hw' := hw.symm; subst hw'; clear hw; rw [h2])
      | (go_at_call 92; refine (isDigit_any _ _).mono ?_; rintro e w' ⟨rfl, hw⟩; have hw' := hw.symm; subst hw'; clear hw; rw [h3])
      | (go_at_call 88; refine (run_any 89 nameN inName_any enters18 _ _ (by omega)).mono ?_; rintro e w' ⟨rfl, hw⟩; have hw' := hw.symm; subst hw'; clear hw; rw [hz.out.1 hkk.out]))
      go_ret2
      exact ⟨ret_two (by rw [(HB.out (Or.inr hb)).1]; rfl) (by rw [(HB.out (Or.inr hb)).2]; rfl), rfl⟩
    · have gb : ((n : Int) == 0) = false := by simp; omega
      go_enter Tryz.func73, Tryz.ntmps73
      go_wp2_with (first
      | (go_at_call 87; refine (isSmall_any _ _).mono ?_; rintro e w' ⟨rfl, hw⟩; have hw' := hw.symm; subst hw'; clear hw; rw [h1])
      | (go_at_call 90; refine (isGreat_any _ _).mono ?_; rintro e w' ⟨rfl, hw⟩; have hw' := hw.symm; subst hw'; clear hw; rw [h2])
      | (go_at_call 92; refine (isDigit_any _ _).mono ?_; rintro e w' ⟨rfl, hw⟩; have hw' := hw.symm; subst hw'; clear hw; rw [h3])
      | (go_at_call 88; refine (run_any 89 nameN inName_any enters18 _ _ (by omega)).mono ?_; rintro e w' ⟨rfl, hw⟩; have hw' := hw.symm; subst hw'; clear hw; rw [hz.out.1 hkk.out]))
      go_ret2
      exact ⟨ret_two (by rw [(HG.out (by omega)).1, hkk.out]; rfl) (by rw [(HG.out (by omega)).2]), rfl⟩
  rw [Bool.not_eq_true] at h1
  by_cases h2 : greatN c = true
  · have hkk : Hid (kindN c = 2) := show kindN c = 2 by simp [kindN, h1, h2]
    have h3 : digitN c = false := by simp [greatN, digitN] at h2 ⊢; omega
    rcases hc with rfl | hb | ⟨hb0, hb⟩
    · go_enter Tryz.func73, Tryz.ntmps73
      go_wp2_with (first
      | (go_at_call 87; refine (isSmall_any _ _).mono ?_; rintro e w' ⟨rfl, hw⟩; have hw' := hw.symm; subst hw'; clear hw; rw [h1])
      | (go_at_call 90; refine (isGreat_any _ _).mono ?_; rintro e w' ⟨rfl, hw⟩; have hw' := hw.symm; subst hw'; clear hw; rw [h2])
      | (go_at_call 92; refine (isDigit_any _ _).mono ?_; rintro e w' ⟨rfl, hw⟩; have hw' := hw.symm; subst hw'; clear hw; rw [h3])
      | (go_at_call 88; refine (run_any 91 varN inVar_any enters20 _ _ (by omega)).mono ?_; rintro e w' ⟨rfl, hw⟩; have hw' := hw.symm; subst hw'; clear hw; rw [hz.out.2.1 hkk.out]))
      go_ret2
      exact ⟨ret_two (by rw [(HB.out (by simp)).1]; rfl) (by rw [(HB.out (by simp)).2]; rfl), rfl⟩
    · have gb : ((n : Int) == 0) = false := by simp; omega
      go_enter Tryz.func73, Tryz.ntmps73
      go_wp2_with (first
      | (go_at_call 87; refine (isSmall_any _ _).mono ?_; rintro e w' ⟨rfl, hw⟩; have hw' := hw.symm; subst hw'; clear hw; rw [h1])
      | (go_at_call 90; refine (isGreat_any _ _).mono ?_; rintro e w' ⟨rfl, hw⟩; have hw' := hw.symm; subst hw'; clear hw; rw [h2])
      | (go_at_call 92; refine (isDigit_any _ _).mono ?_; rintro e w' ⟨rfl, hw⟩; have hw' := hw.symm; subst hw'; clear hw; rw [h3])
      | (go_at_call 88; refine (run_any 91 varN inVar_any enters20 _ _ (by omega)).mono ?_; rintro e w' ⟨rfl, hw⟩; have hw' := hw.symm; subst hw'; clear hw; rw [hz.out.2.1 hkk.out]))
      go_ret2
      exact ⟨ret_two (by rw [(HB.out (Or.inr hb)).1]; rfl) (by rw [(HB.out (Or.inr hb)).2]; rfl), rfl⟩
    · have gb : ((n : Int) == 0) = false := by simp; omega
      go_enter Tryz.func73, Tryz.ntmps73
      go_wp2_with (first
      | (go_at_call 87; refine (isSmall_any _ _).mono ?_; rintro e w' ⟨rfl, hw⟩; have hw' := hw.symm; subst hw'; clear hw; rw [h1])
      | (go_at_call 90; refine (isGreat_any _ _).mono ?_; rintro e w' ⟨rfl, hw⟩; have hw' := hw.symm; subst hw'; clear hw; rw [h2])
      | (go_at_call 92; refine (isDigit_any _ _).mono ?_; rintro e w' ⟨rfl, hw⟩; have hw' := hw.symm; subst hw'; clear hw; rw [h3])
      | (go_at_call 88; refine (run_any 91 varN inVar_any enters20 _ _ (by omega)).mono ?_; rintro e w' ⟨rfl, hw⟩; have hw' := hw.symm; subst hw'; clear hw; rw [hz.out.2.1 hkk.out]))
      go_ret2
      exact ⟨ret_two (by rw [(HG.out (by omega)).1, hkk.out]; rfl) (by rw [(HG.out (by omega)).2]), rfl⟩
  rw [Bool.not_eq_true] at h2
  by_cases h3 : digitN c = true
  · have hkk : Hid (kindN c = 3) := show kindN c = 3 by simp [kindN, h1, h2, h3]
    rcases hc with rfl | hb | ⟨hb0, hb⟩
    · go_enter Tryz.func73, Tryz.ntmps73
      go_wp2_with (first
      | (go_at_call 87; refine (isSmall_any _ _).mono ?_; rintro e w' ⟨rfl, hw⟩; have hw' := hw.symm; subst hw'; clear hw; rw [h1])
      | (go_at_call 90; refine (isGreat_any _ _).mono ?_; rintro e w' ⟨rfl, hw⟩; have hw' := hw.symm; subst hw'; clear hw; rw [h2])
      | (go_at_call 92; refine (isDigit_any _ _).mono ?_; rintro e w' ⟨rfl, hw⟩; have hw' := hw.symm; subst hw'; clear hw; rw [h3])
      | (go_at_call 93; refine (numberSize_any _ _ h0 hs).mono ?_; rintro e w' ⟨rfl, hw⟩; have hw' := hw.symm; subst hw'; clear hw; rw [hz.out.2.2.1 hkk.out]))
      go_ret2
      exact ⟨ret_two (by rw [(HB.out (by simp)).1]; rfl) (by rw [(HB.out (by simp)).2]; rfl), rfl⟩
    · have gb : ((n : Int) == 0) = false := by simp; omega
      go_enter Tryz.func73, Tryz.ntmps73
      go_wp2_with (first
      | (go_at_call 87; refine (isSmall_any _ _).mono ?_; rintro e w' ⟨rfl, hw⟩; have hw' := hw.symm; subst hw'; clear hw; rw [h1])
      | (go_at_call 90; refine (isGreat_any _ _).mono ?_; rintro e w' ⟨rfl, hw⟩; have hw' := hw.symm; subst hw'; clear hw; rw [h2])
      | (go_at_call 92; refine (isDigit_any _ _).mono ?_; rintro e w' ⟨rfl, hw⟩; have hw' := hw.symm; subst hw'; clear hw; rw [h3])
      | (go_at_call 93; refine (numberSize_any _ _ h0 hs).mono ?_; rintro e w' ⟨rfl, hw⟩; have hw' := hw.symm; subst hw'; clear hw; rw [hz.out.2.2.1 hkk.out]))
      go_ret2
      exact ⟨ret_two (by rw [(HB.out (Or.inr hb)).1]; rfl) (by rw [(HB.out (Or.inr hb)).2]; rfl), rfl⟩
    · have gb : ((n : Int) == 0) = false := by simp; omega
      go_enter Tryz.func73, Tryz.ntmps73
      go_wp2_with (first
      | (go_at_call 87; refine (isSmall_any _ _).mono ?_; rintro e w' ⟨rfl, hw⟩; have hw' := hw.symm; subst hw'; clear hw; rw [h1])
      | (go_at_call 90; refine (isGreat_any _ _).mono ?_; rintro e w' ⟨rfl, hw⟩; have hw' := hw.symm; subst hw'; clear hw; rw [h2])
      | (go_at_call 92; refine (isDigit_any _ _).mono ?_; rintro e w' ⟨rfl, hw⟩; have hw' := hw.symm; subst hw'; clear hw; rw [h3])
      | (go_at_call 93; refine (numberSize_any _ _ h0 hs).mono ?_; rintro e w' ⟨rfl, hw⟩; have hw' := hw.symm; subst hw'; clear hw; rw [hz.out.2.2.1 hkk.out]))
      go_ret2
      exact ⟨ret_two (by rw [(HG.out (by omega)).1, hkk.out]; rfl) (by rw [(HG.out (by omega)).2]), rfl⟩
  rw [Bool.not_eq_true] at h3
  by_cases h4 : c = 45
  · have hkk : Hid (kindN c = 3) := show kindN c = 3 by unfold kindN; rw [if_neg (by rw [h1]; decide), if_neg (by rw [h2]; decide), if_pos (Or.inr h4)]
    have h4' : ((c : Int) == 45) = true := by rw [h4]; rfl
    clear h4
    rcases hc with rfl | hb | ⟨hb0, hb⟩
    · go_enter Tryz.func73, Tryz.ntmps73
      go_wp2_with (first
      | (go_at_call 87; refine (isSmall_any _ _).mono ?_; rintro e w' ⟨rfl, hw⟩; have hw' := hw.symm; subst hw'; clear hw; rw [h1])
      | (go_at_call 90; refine (isGreat_any _ _).mono ?_; rintro e w' ⟨rfl, hw⟩; have hw' := hw.symm; subst hw'; clear hw; rw [h2])
      | (go_at_call 92; refine (isDigit_any _ _).mono ?_; rintro e w' ⟨rfl, hw⟩; have hw' := hw.symm; subst hw'; clear hw; rw [h3])
      | (go_at_call 93; refine (numberSize_any _ _ h0 hs).mono ?_; rintro e w' ⟨rfl, hw⟩; have hw' := hw.symm; subst hw'; clear hw; rw [hz.out.2.2.1 hkk.out]))
      go_ret2
      exact ⟨ret_two (by rw [(HB.out (by simp)).1]; rfl) (by rw [(HB.out (by simp)).2]; rfl), rfl⟩
    · have gb : ((n : Int) == 0) = false := by simp; omega
      go_enter Tryz.func73, Tryz.ntmps73
      go_wp2_with (first
      | (go_at_call 87; refine (isSmall_any _ _).mono ?_; rintro e w' ⟨rfl, hw⟩; have hw' := hw.symm; subst hw'; clear hw; rw [h1])
      | (go_at_call 90; refine (isGreat_any _ _).mono ?_; rintro e w' ⟨rfl, hw⟩; have hw' := hw.symm; subst hw'; clear hw; rw [h2])
      | (go_at_call 92; refine (isDigit_any _ _).mono ?_; rintro e w' ⟨rfl, hw⟩; have hw' := hw.symm; subst hw'; clear hw; rw [h3])
      | (go_at_call 93; refine (numberSize_any _ _ h0 hs).mono ?_; rintro e w' ⟨rfl, hw⟩; have hw' := hw.symm; subst hw'; clear hw; rw [hz.out.2.2.1 hkk.out]))
      go_ret2
      exact ⟨ret_two (by rw [(HB.out (Or.inr hb)).1]; rfl) (by rw [(HB.out (Or.inr hb)).2]; rfl), rfl⟩
    · have gb : ((n : Int) == 0) = false := by simp; omega
      go_enter Tryz.func73, Tryz.ntmps73
      go_wp2_with (first
      | (go_at_call 87; refine (isSmall_any _ _).mono ?_; rintro e w' ⟨rfl, hw⟩; have hw' := hw.symm; subst hw'; clear hw; rw [h1])
      | (go_at_call 90; refine (isGreat_any _ _).mono ?_; rintro e w' ⟨rfl, hw⟩; have hw' := hw.symm; subst hw'; clear hw; rw [h2])
      | (go_at_call 92; refine (isDigit_any _ _).mono ?_; rintro e w' ⟨rfl, hw⟩; have hw' := hw.symm; subst hw'; clear hw; rw [h3])
      | (go_at_call 93; refine (numberSize_any _ _ h0 hs).mono ?_; rintro e w' ⟨rfl, hw⟩; have hw' := hw.symm; subst hw'; clear hw; rw [hz.out.2.2.1 hkk.out]))
      go_ret2
      exact ⟨ret_two (by rw [(HG.out (by omega)).1, hkk.out]; rfl) (by rw [(HG.out (by omega)).2]), rfl⟩
  · have hkk : Hid (kindN c = 4) := show kindN c = 4 by simp [kindN, h1, h2, h3, h4]
    have h4' : ((c : Int) == 45) = false := by simp; omega
    rcases hc with rfl | hb | ⟨hb0, hb⟩
    · go_enter Tryz.func73, Tryz.ntmps73
      go_wp2_with (first
      | (go_at_call 87; refine (isSmall_any _ _).mono ?_; rintro e w' ⟨rfl, hw⟩; have hw' := hw.symm; subst hw'; clear hw; rw [h1])
      | (go_at_call 90; refine (isGreat_any _ _).mono ?_; rintro e w' ⟨rfl, hw⟩; have hw' := hw.symm; subst hw'; clear hw; rw [h2])
      | (go_at_call 92; refine (isDigit_any _ _).mono ?_; rintro e w' ⟨rfl, hw⟩; have hw' := hw.symm; subst hw'; clear hw; rw [h3])
      | (go_at_call 94; refine (signSize_any _ _ HS.out).mono ?_; rintro e w' ⟨rfl, hw⟩; have hw' := hw.symm; subst hw'; clear hw; rw [hz.out.2.2.2 hkk.out]))
      go_ret2
      exact ⟨ret_two (by rw [(HB.out (by simp)).1]; rfl) (by rw [(HB.out (by simp)).2]; rfl), rfl⟩
    · have gb : ((n : Int) == 0) = false := by simp; omega
      go_enter Tryz.func73, Tryz.ntmps73
      go_wp2_with (first
      | (go_at_call 87; refine (isSmall_any _ _).mono ?_; rintro e w' ⟨rfl, hw⟩; have hw' := hw.symm; subst hw'; clear hw; rw [h1])
      | (go_at_call 90; refine (isGreat_any _ _).mono ?_; rintro e w' ⟨rfl, hw⟩; have hw' := hw.symm; subst hw'; clear hw; rw [h2])
      | (go_at_call 92; refine (isDigit_any _ _).mono ?_; rintro e w' ⟨rfl, hw⟩; have hw' := hw.symm; subst hw'; clear hw; rw [h3])
      | (go_at_call 94; refine (signSize_any _ _ HS.out).mono ?_; rintro e w' ⟨rfl, hw⟩; have hw' := hw.symm; subst hw'; clear hw; rw [hz.out.2.2.2 hkk.out]))
      go_ret2
      exact ⟨ret_two (by rw [(HB.out (Or.inr hb)).1]; rfl) (by rw [(HB.out (Or.inr hb)).2]; rfl), rfl⟩
    · have gb : ((n : Int) == 0) = false := by simp; omega
      go_enter Tryz.func73, Tryz.ntmps73
      go_wp2_with (first
      | (go_at_call 87; refine (isSmall_any _ _).mono ?_; rintro e w' ⟨rfl, hw⟩; have hw' := hw.symm; subst hw'; clear hw; rw [h1])
      | (go_at_call 90; refine (isGreat_any _ _).mono ?_; rintro e w' ⟨rfl, hw⟩; have hw' := hw.symm; subst hw'; clear hw; rw [h2])
      | (go_at_call 92; refine (isDigit_any _ _).mono ?_; rintro e w' ⟨rfl, hw⟩; have hw' := hw.symm; subst hw'; clear hw; rw [h3])
      | (go_at_call 94; refine (signSize_any _ _ HS.out).mono ?_; rintro e w' ⟨rfl, hw⟩; have hw' := hw.symm; subst hw'; clear hw; rw [hz.out.2.2.2 hkk.out]))
      go_ret2
      exact ⟨ret_two (by rw [(HG.out (by omega)).1, hkk.out]; rfl) (by rw [(HG.out (by omega)).2]), rfl⟩

set_option maxHeartbeats 1000000 in
theorem skip_any (s : ByteArray) (a : Nat) (w : World) (ha : a ≤ s.size) (hs : s.size ≤ 4611686018427387904) :
    Calls Tryz.prog 72 #[.string s, .int .i64 (a : Int)] w fun e w' => (∃ b : Nat, e = .returned (.int .i64 (b : Int)) ∧ b ≤ s.size ∧ a ≤ b ∧ scanAt (bs s) a = scanAt (bs s) b ∧ (b < s.size → blankN (bt s b) = false ∧ bt s b ≠ 37)) ∧ w' = w := by
  go_enter Tryz.func72, Tryz.ntmps72
  go_wp2
  go_loopw [1] (fun i wr => ∃ k : Nat, k ≤ s.size ∧ a ≤ k ∧ i = .int .i64 k ∧ Hid (scanAt (bs s) a = scanAt (bs s) k) ∧ wr = w) (fun i _ => s.size - (intOf i).toNat)
  case atStart => exact ⟨a, ha, Nat.le_refl _, rfl, rfl, rfl⟩
  case round =>
    obtain ⟨k, hk, hak, rfl, hh, hw⟩ := hrel
    have hw' := hw.symm
    subst hw'
    by_cases hlt : k < s.size
    · have bk := bt_at s k hlt
      cases hb : blankN (bt s k)
      · by_cases hp : bt s k = 37
        · have hn := scanAt_note (bs s) k hlt hp
          obtain ⟨l, hl⟩ : ∃ l, Hid (lineL ((bs s).drop k) = l) := ⟨_, rfl⟩
          rw [hl.out, bs_length] at hn
          obtain ⟨hn1, hn2, hn3⟩ := hn
          have HN : Hid _ := hn1
          clear hn1
          rw [hp] at bk hb
          go_wp2_with (first
            | (go_at_call 85; refine (isBlank_any _ _).mono ?_; rintro e w' ⟨rfl, hw⟩; have hw' := hw.symm; subst hw'; clear hw; rw [hb])
            | (go_at_call 86; refine (lineSize_any _ _ (by simp; omega)).mono ?_; rintro e w' ⟨rfl, hw⟩; have hw' := hw.symm; subst hw'; clear hw; rw [bs_from, hl.out]))
          go_roundw
          case rel => exact ⟨k + l, by omega, by omega, by go_num, hh.out.trans HN.out, trivial⟩
          case measure => simp [intOf]; omega
        · have hp' : ((bt s k : Int) == 37) = false := by simp; omega
          go_wp2_with (go_at_call 85; refine (isBlank_any _ _).mono ?_; rintro e w' ⟨rfl, hw⟩; have hw' := hw.symm; subst hw'; clear hw; rw [hb])
          go_ret
          exact ⟨⟨k, rfl, hk, hak, hh.out, fun _ => ⟨hb, hp⟩⟩, rfl⟩
      · have HB : Hid _ := scanAt_blank (bs s) k hlt hb
        go_wp2_with (go_at_call 85; refine (isBlank_any _ _).mono ?_; rintro e w' ⟨rfl, hw⟩; have hw' := hw.symm; subst hw'; clear hw; rw [hb])
        go_roundw
        case rel => exact ⟨k + 1, by omega, by omega, by go_num, hh.out.trans HB.out, trivial⟩
        case measure => simp [intOf]; omega
    · have hke : k = s.size := by omega
      subst hke
      go_wp2
      go_ret
      exact ⟨⟨s.size, rfl, Nat.le_refl _, hak, hh.out, fun h => absurd h (Nat.lt_irrefl _)⟩, rfl⟩

end Go.Proofs.YtcfhpodpkficaaaGreatDoor.Lx
namespace Go.Proofs.YtcfhpodpkficaaaGreatDoor.Lx
open Go.RowKit

theorem wpList_append_run {P : Program} (w : World) {ops : Array Oper} {rest : List Oper} {o : Oper} {a : Act} {Q : Exit → Act → World → Prop} (hgd : o.guard = none) (d x : Operand) (dT sT : TypeId)
    (ho : o.op = .call { callee := .builtin .append, args := #[d, x], argTypes := #[dT, sT] }) (v u : Value) (hd : a.eval d = v) (hx : a.eval x = u) {v' : Value} {w' : World}
    (hr : (Builtin.append_ #[dT, sT] o.type #[v, u]).run P w = .ok v' w') (h : wpList P ops Q rest (a.put o.dst v') w') : wpList P ops Q (o :: rest) a w := by
  refine wpList_plain hgd fun _ hK => ?_
  unfold Oper.wp
  simp [execOp, ho, resolve, invoke, builtin, hd, hx, hr, Result.andThen]
  exact hK _ _ h

/-- A text out of its bytes. -/
def tx (x : List UInt8) : ByteArray := ⟨x.toArray⟩
theorem bs_tx (x : List UInt8) : bs (tx x) = x := rfl
theorem tx_bs (s : ByteArray) : tx (bs s) = s := rfl
theorem tx_size (x : List UInt8) : (tx x).size = x.length := rfl
theorem extract_tx (s : ByteArray) (a b : Nat) : s.extract a b = tx (((bs s).drop a).take (b - a)) := by
  rw [← tx_bs (s.extract a b), bs_extract]

def cellsW (L : List Wd) : List Value := L.flatMap fun t => [.int .i64 (t.1 : Int), .string (tx t.2.1), .int .i64 (t.2.2 : Int)]
theorem cellsW_len : ∀ L : List Wd, (cellsW L).length = L.length * 3
  | [] => rfl
  | t :: r => by
    have := cellsW_len r
    simp [cellsW] at this ⊢
    omega
theorem cellsW_append (a b : List Wd) : cellsW (a ++ b) = cellsW a ++ cellsW b := by simp [cellsW]
theorem cellsW_cons (t : Wd) (b : List Wd) : cellsW (t :: b) = .int .i64 (t.1 : Int) :: .string (tx t.2.1) :: .int .i64 (t.2.2 : Int) :: cellsW b := by simp [cellsW]
theorem cellsW_get (L : List Wd) (i : Nat) (h : i < L.length) : (cellsW L)[i * 3]? = some (.int .i64 (L[i].1 : Int)) ∧ (cellsW L)[i * 3 + 1]? = some (.string (tx L[i].2.1)) ∧ (cellsW L)[i * 3 + 2]? = some (.int .i64 (L[i].2.2 : Int)) := by
  have e : L = L.take i ++ L[i] :: L.drop (i + 1) := by simp
  have hl : (cellsW (L.take i)).length = i * 3 := by rw [cellsW_len]; simp; omega
  have e2 : cellsW L = cellsW (L.take i) ++ (.int .i64 (L[i].1 : Int) :: .string (tx L[i].2.1) :: .int .i64 (L[i].2.2 : Int) :: cellsW (L.drop (i + 1))) := by
    conv => lhs; rw [e]
    rw [cellsW_append, cellsW_cons]
  rw [e2]
  refine ⟨?_, ?_, ?_⟩
  · rw [List.getElem?_append_right (by omega), hl]; simp
  · rw [List.getElem?_append_right (by omega), hl, Nat.add_sub_cancel_left]; rfl
  · rw [List.getElem?_append_right (by omega), hl, Nat.add_sub_cancel_left]; rfl
theorem cellsW_one (L : List Wd) : ∀ u ∈ cellsW L, u.oneCell' = true := by
  intro u hu
  obtain ⟨t, _, hu⟩ := List.mem_flatMap.1 hu
  simp at hu
  rcases hu with rfl | rfl | rfl <;> rfl

theorem own_shape {w : World} {b e s n : Nat} {v : Value} {xs : List Value} (h : w.ownsRow b e s v n xs) : (v = .slice none 0 0 ∧ n = 0) ∨ ∃ g cap, v = .slice (some ⟨g, 0, none⟩) n cap ∧ n ≤ cap ∧ cap ≤ maxLen ∧ g < w.heap.size ∧ b ≤ g := by
  rcases h.2 with h | ⟨g, cap, cur, rfl, hb, hg, h1, h2, _⟩
  · exact .inl h
  · exact .inr ⟨g, cap, rfl, h1, h2, (Array.getElem?_eq_some_iff.1 hg).1, hb⟩
theorem own_below {w w' : World} {base e size n : Nat} {v : Value} {xs : List Value} (h : w.ownsRow base e size v n xs) (hb : Below w.heap.size w w') : w'.ownsRow base e size v n xs := by
  refine ⟨h.1, ?_⟩
  rcases h.2 with hn' | ⟨g, cap, cur, rfl, hbb, hgg, rest⟩
  · exact .inl hn'
  · refine .inr ⟨g, cap, cur, rfl, hbb, ?_, rest⟩
    rw [hb.block g (Array.getElem?_eq_some_iff.1 hgg).1]
    exact hgg
theorem below_box (w : World) (o : Obj) : Below w.heap.size w (w.alloc o) := (Below.refl _ _).alloc (Nat.le_refl _) o

/-- A row of words of the call's own, e the words' type; nothing else was turned. -/
structure Rw (e : TypeId) (w W : World) (v : Value) (L : List Wd) : Prop where
  row : W.ownsRow w.heap.size e 3 v L.length (cellsW L)
  below : Below w.heap.size w W
theorem Rw.keep {e : TypeId} {w W W' : World} {v : Value} {L : List Wd} (h : Rw e w W v L) (hb : Below W.heap.size W W') : Rw e w W' v L :=
  ⟨own_below h.row hb, h.below.trans (hb.mono h.below.size)⟩
theorem Rw.nil (e : TypeId) (w : World) : Rw e w w (.slice none 0 0) [] := ⟨⟨by simp [cellsW], .inl ⟨rfl, rfl⟩⟩, Below.refl _ _⟩
theorem Rw.slice {e : TypeId} {w W : World} {v : Value} {L : List Wd} (h : Rw e w W v L) : ∃ ao cap, v = .slice ao L.length cap ∧ (0 < L.length → ∃ g, ao = some ⟨g, 0, none⟩) := by
  rcases own_shape h.row with ⟨rfl, h0⟩ | ⟨g, cap, rfl, _⟩
  · exact ⟨none, 0, by rw [h0], fun hp => by omega⟩
  · exact ⟨_, cap, rfl, fun _ => ⟨g, rfl⟩⟩
theorem Rw.cells {e : TypeId} {w W : World} {g cap : Nat} {L : List Wd} (h : Rw e w W (.slice (some ⟨g, 0, none⟩) L.length cap) L) (i : Nat) (hi : i < L.length) :
    W.cell? ⟨g, i * 3, none⟩ = some (.int .i64 (L[i].1 : Int)) ∧ W.cell? ⟨g, i * 3 + 1, none⟩ = some (.string (tx L[i].2.1)) ∧ W.cell? ⟨g, i * 3 + 2, none⟩ = some (.int .i64 (L[i].2.2 : Int)) := by
  have hc := cellsW_get L i hi
  exact ⟨(h.row.cellAt _ (by omega)).trans hc.1, (h.row.cellAt _ (by omega)).trans hc.2.1, (h.row.cellAt _ (by omega)).trans hc.2.2⟩

theorem grown_below {w w' : World} {B : Nat} {row : Option Nat} (h : w.grownBy w' row) (hB : B ≤ w.heap.size) (hr : ∀ k, row = some k → B ≤ k) : Below B w w' :=
  ⟨h.os, h.tape, h.output, h.size, fun k hk => h.block k (by omega) (fun e => by have := hr k e.symm; omega)⟩

theorem push_any (t e : TypeId) (ht : Tryz.prog.underlying t = some (.slice e)) (hi : (Tryz.prog.info? e).map (fun i => (i.zero, i.size, i.bytes)) = some (some (.agg #[.int .i64 0, .string ⟨#[]⟩, .int .i64 0]), 3, 32))
    {w W : World} {v : Value} {L : List Wd} (h : Rw e w W v L) (x : Wd) (hl : L.length ≤ 1000000) :
    ∃ g cap w3, (∀ ty, (Builtin.append_ #[t, t] ty #[v, .slice (some ⟨W.heap.size, 0, none⟩) 1 1]).run Tryz.prog (W.alloc (.cells #[.int .i64 (x.1 : Int), .string (tx x.2.1), .int .i64 (x.2.2 : Int)] e)) = .ok (.slice (some ⟨g, 0, none⟩) (L.length + 1) cap) w3) ∧
      Hid (Rw e w w3 (.slice (some ⟨g, 0, none⟩) (L.length + 1) cap) (L ++ [x])) := by
  obtain ⟨i, hi, hz, hsize, hby⟩ := info_parts hi
  have ha := h.keep (below_box W (.cells #[.int .i64 (x.1 : Int), .string (tx x.2.1), .int .i64 (x.2.2 : Int)] e))
  have hsa : (W.alloc (.cells #[.int .i64 (x.1 : Int), .string (tx x.2.1), .int .i64 (x.2.2 : Int)] e)).heap.size = W.heap.size + 1 := by simp
  have hbs := h.below.size
  have H := fun ty => run_append_own_at (P := Tryz.prog) _ w.heap.size t ty e i _ 3 32 ht hi hz hsize hby rfl (by decide) v L.length (cellsW L) ha.row ⟨W.heap.size, 0, none⟩ 1 1 (cellsW [x]) rfl (fun j u hj => by
    rw [Addr.add_lit, Nat.zero_add, cell_of_row _ _ j _ _ _ (heap_alloc_new _ _)]
    simpa [cellsW] using hj) (cellsW_one [x]) (by simp only [maxLen]; omega) (by omega) (by omega)
  obtain ⟨v', w', hr, g1, g2, _, g4⟩ := H 0
  rw [← cellsW_append] at g1
  rcases own_shape g1 with ⟨_, h0⟩ | ⟨g', cap, rfl, _⟩
  · omega
  · refine ⟨g', cap, w', fun ty => hr, ⟨by rw [List.length_append]; exact g1, ?_⟩⟩
    refine ha.below.trans (grown_below g2 (by omega) fun k hk => ?_)
    rcases own_shape h.row with ⟨rfl, _⟩ | ⟨g0, cap0, rfl, _, _, _, hb⟩
    · simp [Value.ownBlock] at hk
    · simp [Value.ownBlock] at hk
      omega

theorem Tryz.info101 : (Tryz.prog.info? 101).map (fun i => (i.zero, i.size, i.bytes)) = some (some (.agg #[.int .i64 0, .string ⟨#[]⟩, .int .i64 0]), 3, 32) := by kernel_rfl
theorem Tryz.info50 : (Tryz.prog.info? 50).map (fun i => (i.zero, i.size, i.bytes)) = some (some (.agg #[.int .i64 0, .string ⟨#[]⟩, .int .i64 0]), 3, 32) := by kernel_rfl

theorem clone_any (s : ByteArray) (w : World) (hs : s.size ≤ 281474976710656) : Calls Tryz.prog 74 #[.string s] w fun e w' => e = .returned (.string s) ∧ Below w.heap.size w w' := by
  go_enter Tryz.func74, Tryz.ntmps74
  go_wp2_with (go_at_call 95; refine (Tryz.stringslite_Clone s _ hs).mono ?_; rintro e w' ⟨rfl, hb⟩)
  go_ret
  exact ⟨rfl, hb⟩

end Go.Proofs.YtcfhpodpkficaaaGreatDoor.Lx
namespace Go.Proofs.YtcfhpodpkficaaaGreatDoor.Lx
open Go.RowKit

/-- What the reference's word gives. -/
def Wr (s : ByteArray) (w : World) (r : Ending) (w' : World) : Prop :=
  r = .returned (.tuple #[.int .i64 ((sizeL (bs s) : Nat) : Int), .int .i64 ((if sizeL (bs s) = 0 then 0 else kindL (bs s) : Nat) : Int)]) ∧ Below w.heap.size w w'

theorem wr_of {s : ByteArray} {w : World} {n k : Nat} (h1 : sizeL (bs s) = n) (h2 : n = 0 ∨ kindL (bs s) = k) (h3 : n = 0 → k = 0) (w' : World) (hb : Below w.heap.size w w') : Wr s w (.returned (.tuple #[.int .i64 (n : Int), .int .i64 (k : Int)])) w' := by
  refine ⟨?_, hb⟩
  rw [h1]
  by_cases h : n = 0
  · rw [if_pos h, h3 h]
  · rw [if_neg h, h2.resolve_left h]

theorem wr_of' {s : ByteArray} {w : World} {N K : Int} (n k : Nat) (hn : N = n) (hk : K = k) (h1 : sizeL (bs s) = n) (h2 : n = 0 ∨ kindL (bs s) = k) (h3 : n = 0 → k = 0) (w' : World) (hb : Below w.heap.size w w') : Wr s w (.returned (.tuple #[.int .i64 N, .int .i64 K])) w' := by
  subst hn hk
  exact wr_of h1 h2 h3 w' hb

theorem more_of {p : Nat → Bool} {s : ByteArray} {k : Nat} (h : ∀ j, j < k → p (bt s j) = true) (hk : p (bt s k) = true) : ∀ j, j < k + 1 → p (bt s j) = true := by
  intro j hj
  by_cases e : j < k
  · exact h j e
  · have : j = k := by omega
    rw [this]; exact hk

theorem start_of {p : Nat → Bool} {s : ByteArray} (h : p (bt s 0) = true) : ∀ j, j < 1 → p (bt s j) = true := by
  intro j hj
  have : j = 0 := by omega
  rw [this]; exact h

set_option maxHeartbeats 4000000 in
theorem word_small (s : ByteArray) (w : World) (h0 : 0 < s.size) (hs : s.size ≤ 4000) (hc : smallN (bt s 0) = true) :
    Calls Tryz.prog 40 #[.string s] w fun e w' => Wr s w e w' := by
  have b0 := bt_at s 0 h0
  have HK : Hid (kindL (bs s) = 1) := show kindL (bs s) = 1 from if_pos hc
  have HC : Hid _ := hc
  go_enter Tryz.func40, Tryz.ntmps40
  go_wp2_with (go_at_call 59; refine (rsmall_any _ _).mono ?_; rintro e w' ⟨rfl, hw⟩; have hw' := hw.symm; subst hw'; clear hw; rw [hc])
  go_loopw [4] (fun i wr => ∃ k : Nat, 1 ≤ k ∧ k ≤ s.size ∧ i = .int .i64 k ∧ Hid (∀ j, j < k → nameN (bt s j) = true) ∧ wr = w) (fun i _ => s.size - (intOf i).toNat)
  case atStart => exact ⟨1, Nat.le_refl _, h0, rfl, start_of (by simp [nameN, HC.out]), rfl⟩
  case round =>
    obtain ⟨k, hk1, hk, rfl, hh, hw⟩ := hrel
    have hw' := hw.symm
    subst hw'
    clear hc
    have done : (k = s.size ∨ nameN (bt s k) = false) → sizeL (bs s) = k := fun e => by
      rw [sizeL, if_pos HK.out]
      exact runP_eq nameN (bs s) k hk hh.out e
    have DN : Hid _ := done
    clear done
    by_cases hlt : k < s.size
    · have bk := bt_at s k hlt
      have hltI : (k : Int) < (s.size : Int) := by omega
      cases a1 : smallN (bt s k) <;> cases a2 : digitN (bt s k) <;> by_cases a3 : bt s k = 95
      all_goals (try (have a3' : ((bt s k : Int) == 95) = true := by rw [a3]; rfl))
      all_goals (try (have a3' : ((bt s k : Int) == 95) = false := by simp; omega))
      all_goals (first | (have HG : Hid (nameN (bt s k) = true) := by show nameN (bt s k) = true; simp [nameN, a1, a2, a3]) | (have HG : Hid (nameN (bt s k) = false) := by show nameN (bt s k) = false; simp [nameN, a1, a2, a3]))
      all_goals (have A3 : Hid _ := a3; clear a3)
      all_goals (go_wp2_with (first
        | (go_at_call 59; refine (rsmall_any _ _).mono ?_; rintro e w' ⟨rfl, hw⟩; have hw' := hw.symm; subst hw'; clear hw; rw [a1])
        | (go_at_call 60; refine (rdigit_any _ _).mono ?_; rintro e w' ⟨rfl, hw⟩; have hw' := hw.symm; subst hw'; clear hw; rw [a2])))
      all_goals first
        | (go_roundw
           case rel => exact ⟨k + 1, by omega, by omega, by go_num, more_of hh.out HG.out, trivial⟩
           case measure => simp [intOf]; omega)
        | (go_ret2
           exact wr_of' k 1 rfl rfl (DN.out (Or.inr HG.out)) (Or.inr HK.out) (fun h => by omega) _ (Below.refl _ _))
    · have hke : k = s.size := by omega
      subst hke
      go_wp2_with fail
      go_ret2
      exact wr_of' s.size 1 rfl rfl (DN.out (Or.inl trivial)) (Or.inr HK.out) (fun h => by omega) _ (Below.refl _ _)

set_option maxHeartbeats 4000000 in
theorem word_great (s : ByteArray) (w : World) (h0 : 0 < s.size) (hs : s.size ≤ 4000) (h1 : smallN (bt s 0) = false) (hc : greatN (bt s 0) = true) :
    Calls Tryz.prog 40 #[.string s] w fun e w' => Wr s w e w' := by
  have b0 := bt_at s 0 h0
  have HK : Hid (kindL (bs s) = 2) := show kindL (bs s) = 2 from (if_neg (by rw [show smallN ((bs s).getD 0 0).toNat = false from h1]; decide)).trans (if_pos hc)
  have HC : Hid _ := hc
  go_enter Tryz.func40, Tryz.ntmps40
  go_wp2_with (first
    | (go_at_call 59; refine (rsmall_any _ _).mono ?_; rintro e w' ⟨rfl, hw⟩; have hw' := hw.symm; subst hw'; clear hw; rw [h1])
    | (go_at_call 61; refine (rgreat_any _ _).mono ?_; rintro e w' ⟨rfl, hw⟩; have hw' := hw.symm; subst hw'; clear hw; rw [hc]))
  go_loopw [4] (fun i wr => ∃ k : Nat, 1 ≤ k ∧ k ≤ s.size ∧ i = .int .i64 k ∧ Hid (∀ j, j < k → varN (bt s j) = true) ∧ wr = w) (fun i _ => s.size - (intOf i).toNat)
  case atStart => exact ⟨1, Nat.le_refl _, h0, rfl, start_of (by simp [varN, HC.out]), rfl⟩
  case round =>
    obtain ⟨k, hk1, hk, rfl, hh, hw⟩ := hrel
    have hw' := hw.symm
    subst hw'
    clear hc
    have done : (k = s.size ∨ varN (bt s k) = false) → sizeL (bs s) = k := fun e => by
      rw [sizeL, if_neg (by rw [HK.out]; decide), if_pos HK.out]
      exact runP_eq varN (bs s) k hk hh.out e
    have DN : Hid _ := done
    clear done
    by_cases hlt : k < s.size
    · have bk := bt_at s k hlt
      have hltI : (k : Int) < (s.size : Int) := by omega
      cases a1 : smallN (bt s k) <;> cases a2 : digitN (bt s k) <;> cases a4 : greatN (bt s k) <;> by_cases a3 : bt s k = 95
      all_goals (try (have a3' : ((bt s k : Int) == 95) = true := by rw [a3]; rfl))
      all_goals (try (have a3' : ((bt s k : Int) == 95) = false := by simp; omega))
      all_goals (first | (have HG : Hid (varN (bt s k) = true) := by show varN (bt s k) = true; simp [varN, nameN, a1, a2, a3, a4]) | (have HG : Hid (varN (bt s k) = false) := by show varN (bt s k) = false; simp [varN, nameN, a1, a2, a3, a4]))
      all_goals (have A3 : Hid _ := a3; clear a3)
      all_goals (go_wp2_with (first
        | (go_at_call 59; refine (rsmall_any _ _).mono ?_; rintro e w' ⟨rfl, hw⟩; have hw' := hw.symm; subst hw'; clear hw; rw [a1])
        | (go_at_call 60; refine (rdigit_any _ _).mono ?_; rintro e w' ⟨rfl, hw⟩; have hw' := hw.symm; subst hw'; clear hw; rw [a2])
        | (go_at_call 61; refine (rgreat_any _ _).mono ?_; rintro e w' ⟨rfl, hw⟩; have hw' := hw.symm; subst hw'; clear hw; rw [a4])))
      all_goals first
        | (go_roundw
           case rel => exact ⟨k + 1, by omega, by omega, by go_num, more_of hh.out HG.out, trivial⟩
           case measure => simp [intOf]; omega)
        | (go_ret2
           exact wr_of' k 2 rfl rfl (DN.out (Or.inr HG.out)) (Or.inr HK.out) (fun h => by omega) _ (Below.refl _ _))
    · have hke : k = s.size := by omega
      subst hke
      go_wp2_with fail
      go_ret2
      exact wr_of' s.size 2 rfl rfl (DN.out (Or.inl trivial)) (Or.inr HK.out) (fun h => by omega) _ (Below.refl _ _)

end Go.Proofs.YtcfhpodpkficaaaGreatDoor.Lx
namespace Go.Proofs.YtcfhpodpkficaaaGreatDoor.Lx
open Go.RowKit

theorem kind_num {s : ByteArray} (h1 : smallN (bt s 0) = false) (h2 : greatN (bt s 0) = false) (h3 : digitN (bt s 0) = true ∨ bt s 0 = 45) : kindL (bs s) = 3 := by
  have e1 : smallN ((bs s).getD 0 0).toNat = false := h1
  have e2 : greatN ((bs s).getD 0 0).toNat = false := h2
  have e3 : digitN ((bs s).getD 0 0).toNat = true ∨ ((bs s).getD 0 0).toNat = 45 := h3
  rw [kindL, kindN, if_neg (by rw [e1]; decide), if_neg (by rw [e2]; decide), if_pos e3]

theorem size_num {s : ByteArray} (h : kindL (bs s) = 3) : sizeL (bs s) = numL (bs s) := by
  rw [sizeL, if_neg (by rw [h]; decide), if_neg (by rw [h]; decide), if_pos h]

theorem num_zero {s : ByteArray} (h0 : 0 < s.size) (h : bt s 0 = 48) : numL (bs s) = 1 := by
  have e := drop_cons (bs s) 0 h0
  rw [List.drop_zero] at e
  have h' : ((bs s).getD 0 0).toNat = 48 := h
  rw [e]
  simp only [numL, if_pos h']

/-- A number without a minus: as far as there are digits. -/
theorem num_digits {s : ByteArray} (h0 : 0 < s.size) (h : digitN (bt s 0) = true) (hz : bt s 0 ≠ 48) (k : Nat) (hk : k ≤ s.size) (hh : ∀ j, j < k → digitN (bt s j) = true) (he : k = s.size ∨ digitN (bt s k) = false) : numL (bs s) = k := by
  have e := drop_cons (bs s) 0 h0
  rw [List.drop_zero] at e
  have h1 : ¬ ((bs s).getD 0 0).toNat = 48 := hz
  have h2 : ¬ ((bs s).getD 0 0).toNat = 45 := fun x => by
    have : bt s 0 = 45 := x
    rw [this] at h; exact absurd h (by decide)
  rw [e]
  simp only [numL, if_neg h1, if_neg h2]
  rw [← e]
  exact runP_eq digitN (bs s) k hk hh he

/-- A minus and digits behind it. -/
theorem num_minus {s : ByteArray} (h0 : 1 < s.size) (h : bt s 0 = 45) (h1 : digitN (bt s 1) = true) (hz : bt s 1 ≠ 48) (k : Nat) (hk2 : 2 ≤ k) (hk : k ≤ s.size) (hh : ∀ j, 1 ≤ j → j < k → digitN (bt s j) = true) (he : k = s.size ∨ digitN (bt s k) = false) : numL (bs s) = k := by
  have e0 := drop_cons (bs s) 0 (by rw [bs_length]; omega)
  have e1 := drop_cons (bs s) 1 (by rw [bs_length]; omega)
  rw [List.drop_zero] at e0
  have g0 : ((bs s).getD 0 0).toNat = 45 := h
  have g1 : ¬ ((bs s).getD 1 0).toNat = 48 := hz
  have g2 : digitN ((bs s).getD 1 0).toNat = true := h1
  have hr : runP digitN ((bs s).drop 2) = k - 2 := by
    refine runP_eq digitN _ (k - 2) (by rw [List.length_drop, bs_length]; omega) (fun j hj => ?_) ?_
    · have := hh (j + 2) (by omega) (by omega)
      simpa [bt, List.getD, List.getElem?_drop, Nat.add_comm] using this
    · rcases he with he | he
      · left; rw [List.length_drop, bs_length]; omega
      · right
        have e : 2 + (k - 2) = k := by omega
        simpa [bt, List.getD, List.getElem?_drop, e] using he
  rw [e0, e1]
  simp only [numL]
  rw [if_neg (by rw [g0]; decide), if_pos g0, if_neg g1, if_pos g2, hr]
  omega

theorem num_nought {s : ByteArray} (h0 : 1 < s.size) (h : bt s 0 = 45) (hz : bt s 1 = 48) : numL (bs s) = 0 := by
  have e0 := drop_cons (bs s) 0 (by rw [bs_length]; omega)
  have e1 := drop_cons (bs s) 1 (by rw [bs_length]; omega)
  rw [List.drop_zero] at e0
  have g0 : ((bs s).getD 0 0).toNat = 45 := h
  have g1 : ((bs s).getD 1 0).toNat = 48 := hz
  rw [e0, e1]
  simp only [numL]
  rw [if_neg (by rw [g0]; decide), if_pos g0, if_pos g1]

set_option maxHeartbeats 4000000 in
theorem word_digit (s : ByteArray) (w : World) (h0 : 0 < s.size) (hs : s.size ≤ 4000) (h1 : smallN (bt s 0) = false) (h2 : greatN (bt s 0) = false) (hc : digitN (bt s 0) = true) :
    Calls Tryz.prog 40 #[.string s] w fun e w' => Wr s w e w' := by
  have b0 := bt_at s 0 h0
  have HK : Hid (kindL (bs s) = 3) := kind_num h1 h2 (Or.inl hc)
  have HC : Hid _ := hc
  have g45 : ((bt s 0 : Int) == 45) = false := by
    have : bt s 0 ≠ 45 := fun x => by rw [x] at hc; exact absurd hc (by decide)
    simp; omega
  by_cases hz : bt s 0 = 48
  · have g48 : ((bt s 0 : Int) == 48) = true := by rw [hz]; rfl
    have HZ : Hid _ := hz
    clear hz
    go_enter Tryz.func40, Tryz.ntmps40
    go_wp2_with (first
    | (go_at_call 59; refine (rsmall_any _ _).mono ?_; rintro e w' ⟨rfl, hw⟩; have hw' := hw.symm; subst hw'; clear hw; rw [h1])
    | (go_at_call 61; refine (rgreat_any _ _).mono ?_; rintro e w' ⟨rfl, hw⟩; have hw' := hw.symm; subst hw'; clear hw; rw [h2])
    | (go_at_call 60; refine (rdigit_any _ _).mono ?_; rintro e w' ⟨rfl, hw⟩; have hw' := hw.symm; subst hw'; clear hw; rw [hc]))
    go_ret2
    exact wr_of' 1 3 rfl rfl ((size_num HK.out).trans (num_zero h0 HZ.out)) (Or.inr HK.out) (fun h => by omega) _ (Below.refl _ _)
  have g48 : ((bt s 0 : Int) == 48) = false := by simp; omega
  have HZ : Hid _ := hz
  clear hz
  go_enter Tryz.func40, Tryz.ntmps40
  go_wp2_with (first
    | (go_at_call 59; refine (rsmall_any _ _).mono ?_; rintro e w' ⟨rfl, hw⟩; have hw' := hw.symm; subst hw'; clear hw; rw [h1])
    | (go_at_call 61; refine (rgreat_any _ _).mono ?_; rintro e w' ⟨rfl, hw⟩; have hw' := hw.symm; subst hw'; clear hw; rw [h2])
    | (go_at_call 60; refine (rdigit_any _ _).mono ?_; rintro e w' ⟨rfl, hw⟩; have hw' := hw.symm; subst hw'; clear hw; rw [hc]))
  go_loopw [4] (fun i wr => ∃ k : Nat, 1 ≤ k ∧ k ≤ s.size ∧ i = .int .i64 k ∧ Hid (∀ j, j < k → digitN (bt s j) = true) ∧ wr = w) (fun i _ => s.size - (intOf i).toNat)
  case atStart => exact ⟨1, Nat.le_refl _, h0, rfl, start_of HC.out, rfl⟩
  case round =>
    obtain ⟨k, hk1, hk, rfl, hh, hw⟩ := hrel
    have hw' := hw.symm
    subst hw'
    clear hc h1 h2 g45 g48
    have done : (k = s.size ∨ digitN (bt s k) = false) → sizeL (bs s) = k := fun e => by
      rw [size_num HK.out]
      exact num_digits h0 HC.out HZ.out k hk hh.out e
    have DN : Hid _ := done
    clear done
    by_cases hlt : k < s.size
    · have bk := bt_at s k hlt
      have hltI : (k : Int) < (s.size : Int) := by omega
      cases a1 : digitN (bt s k)
      all_goals (go_wp2_with (go_at_call 60; refine (rdigit_any _ _).mono ?_; rintro e w' ⟨rfl, hw⟩; have hw' := hw.symm; subst hw'; clear hw; rw [a1]))
      · go_ret2
        exact wr_of' k 3 rfl rfl (DN.out (Or.inr a1)) (Or.inr HK.out) (fun h => by omega) _ (Below.refl _ _)
      · go_roundw
        case rel => exact ⟨k + 1, by omega, by omega, by go_num, more_of hh.out a1, trivial⟩
        case measure => simp [intOf]; omega
    · have hke : k = s.size := by omega
      subst hke
      go_wp2_with fail
      go_ret2
      exact wr_of' s.size 3 rfl rfl (DN.out (Or.inl trivial)) (Or.inr HK.out) (fun h => by omega) _ (Below.refl _ _)

theorem more_from {p : Nat → Bool} {s : ByteArray} {k : Nat} (h : ∀ j, 1 ≤ j → j < k → p (bt s j) = true) (hk : p (bt s k) = true) : ∀ j, 1 ≤ j → j < k + 1 → p (bt s j) = true := by
  intro j h1 hj
  by_cases e : j < k
  · exact h j h1 e
  · have : j = k := by omega
    rw [this]; exact hk
theorem start_from {p : Nat → Bool} {s : ByteArray} (h : p (bt s 1) = true) : ∀ j, 1 ≤ j → j < 2 → p (bt s j) = true := by
  intro j h1 hj
  have : j = 1 := by omega
  rw [this]; exact h

set_option maxHeartbeats 4000000 in
theorem word_minus (s : ByteArray) (w : World) (h0 : 0 < s.size) (hl : 1 < s.size) (hs : s.size ≤ 4000) (h1 : smallN (bt s 0) = false) (h2 : greatN (bt s 0) = false) (hc : digitN (bt s 0) = false) (hm : bt s 0 = 45) (hd : digitN (bt s 1) = true) :
    Calls Tryz.prog 40 #[.string s] w fun e w' => Wr s w e w' := by
  have b0 := bt_at s 0 h0
  have b1 := bt_at s 1 hl
  have HK : Hid (kindL (bs s) = 3) := kind_num h1 h2 (Or.inr hm)
  have HD : Hid _ := hd
  have g45 : ((bt s 0 : Int) == 45) = true := by rw [hm]; rfl
  have gl : (1 : Int) < (s.size : Int) := by omega
  have HM : Hid _ := hm
  clear hm
  by_cases hz : bt s 1 = 48
  · have g48 : ((bt s 1 : Int) == 48) = true := by rw [hz]; rfl
    have HZ : Hid _ := hz
    clear hz
    go_enter Tryz.func40, Tryz.ntmps40
    go_wp2_with (first
    | (go_at_call 59; refine (rsmall_any _ _).mono ?_; rintro e w' ⟨rfl, hw⟩; have hw' := hw.symm; subst hw'; clear hw; rw [h1])
    | (go_at_call 61; refine (rgreat_any _ _).mono ?_; rintro e w' ⟨rfl, hw⟩; have hw' := hw.symm; subst hw'; clear hw; rw [h2])
    | (go_at_call 60; refine (rdigit_any _ _).mono ?_; rintro e w' ⟨rfl, hw⟩; have hw' := hw.symm; subst hw'; clear hw; first | rw [hc] | rw [hd]))
    go_ret2
    exact wr_of' 0 0 rfl rfl ((size_num HK.out).trans (num_nought hl HM.out HZ.out)) (Or.inl rfl) (fun _ => rfl) _ (Below.refl _ _)
  have g48 : ((bt s 1 : Int) == 48) = false := by simp; omega
  have g480 : ((bt s 0 : Int) == 48) = false := by rw [HM.out]; rfl
  have HZ : Hid _ := hz
  clear hz
  go_enter Tryz.func40, Tryz.ntmps40
  go_wp2_with (first
    | (go_at_call 59; refine (rsmall_any _ _).mono ?_; rintro e w' ⟨rfl, hw⟩; have hw' := hw.symm; subst hw'; clear hw; rw [h1])
    | (go_at_call 61; refine (rgreat_any _ _).mono ?_; rintro e w' ⟨rfl, hw⟩; have hw' := hw.symm; subst hw'; clear hw; rw [h2])
    | (go_at_call 60; refine (rdigit_any _ _).mono ?_; rintro e w' ⟨rfl, hw⟩; have hw' := hw.symm; subst hw'; clear hw; first | rw [hc] | rw [hd]))
  go_loopw [4] (fun i wr => ∃ k : Nat, 2 ≤ k ∧ k ≤ s.size ∧ i = .int .i64 k ∧ Hid (∀ j, 1 ≤ j → j < k → digitN (bt s j) = true) ∧ wr = w) (fun i _ => s.size - (intOf i).toNat)
  case atStart => exact ⟨2, Nat.le_refl _, hl, rfl, start_from HD.out, rfl⟩
  case round =>
    obtain ⟨k, hk1, hk, rfl, hh, hw⟩ := hrel
    have hw' := hw.symm
    subst hw'
    clear hc h1 h2 g45 g48 g480 hd
    have done : (k = s.size ∨ digitN (bt s k) = false) → sizeL (bs s) = k := fun e => by
      rw [size_num HK.out]
      exact num_minus hl HM.out HD.out HZ.out k hk1 hk hh.out e
    have DN : Hid _ := done
    clear done
    by_cases hlt : k < s.size
    · have bk := bt_at s k hlt
      have hltI : (k : Int) < (s.size : Int) := by omega
      cases a1 : digitN (bt s k)
      all_goals (go_wp2_with (go_at_call 60; refine (rdigit_any _ _).mono ?_; rintro e w' ⟨rfl, hw⟩; have hw' := hw.symm; subst hw'; clear hw; rw [a1]))
      · go_ret2
        exact wr_of' k 3 rfl rfl (DN.out (Or.inr a1)) (Or.inr HK.out) (fun h => by omega) _ (Below.refl _ _)
      · go_roundw
        case rel => exact ⟨k + 1, by omega, by omega, by go_num, more_from hh.out a1, trivial⟩
        case measure => simp [intOf]; omega
    · have hke : k = s.size := by omega
      subst hke
      go_wp2_with fail
      go_ret2
      exact wr_of' s.size 3 rfl rfl (DN.out (Or.inl trivial)) (Or.inr HK.out) (fun h => by omega) _ (Below.refl _ _)

end Go.Proofs.YtcfhpodpkficaaaGreatDoor.Lx

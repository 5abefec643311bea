/- What the row's listed variable gives the walks: the table of signs. The walks of first and skip. A row of words in memory, and what 'append' of one word leaves; strings.Clone. The walk of the program's Scan. -/
import Derived.Test.YtpbfimjfplemhaaDoorPart01
import Derived.Test.YtpbfimjfplemhaaDoorTie
import Derived.Test.YtpbfimjfplemhaaDoorCards
import Derived.ProofKit
import Derived.LaidMore
import Derived.OpenShut
import Derived.ShutString
import Derived.ChangeOld
import Derived.Below
import Derived.Stop.Joined
import Derived.Maps.AppendAt
import Derived.Laws.AppendOwnNone
import Derived.Laws.Rows
namespace Go.Proofs.YtpbfimjfplemhaaDoor
open Go.ChangeShapes Go.WideShapes Go.ChangeAt Go.RowKit

theorem own : ownKnob Tryd.prog.godebug = none := by kernel_rfl
theorem laidOut : laidOutB Tryd.prog = true := by kernel_rfl
theorem gTab : Tryd.prog.globalNamed "delphi/lex.signs" = some 0 := by kernel_rfl
theorem tTab : (Tryd.prog.globals[0]?).map (·.type) = some 48 := by kernel_rfl
def laid1 : List (String × DataW Unit) := [("delphi/lex.signs", Rows.laid_delphi_lex_signs)]

theorem door_met (os : Os) (args : Array Value) : laidMetH Tryd.prog laid1 ((World.doorLaid Tryd.prog 400 os).forCall (fun _ _ => 0) ⟨#[], args, []⟩).memory :=
  laidMetH_of_parts3 (fuel := 8) (laidMet_of_run' 8 (by kernel_rfl) (by kernel_rfl)) (by kernel_rfl) (by kernel_rfl)

theorem of_laid {W : World} (h : laidMetH Tryd.prog laid1 W) : Sg W := by
  rw [MakeChecks.laidMetH_plain _ _ _ (by kernel_rfl)] at h
  obtain ⟨ps, ⟨g0, t0, cs0, f0, p0, q0, hg0, ht0, hv0, hd0, _, _⟩, _, _⟩ := h
  obtain rfl := Option.some.inj (gTab.symm.trans hg0)
  obtain rfl := Option.some.inj (tTab.symm.trans ht0)
  obtain ⟨xs, m1, rfl, hx1, hlen, hn3, hel⟩ := DataW.trod_array Tryd.underlying48 hd0
  intro i hi
  have c9 : Tryd.prog.cellsOf 9 = 1 := by kernel_rfl
  have h0 := hel i hi
  rw [List.getElem?_eq_getElem (by omega), c9, Nat.mul_one] at h0
  obtain ⟨k, e1, e2, _⟩ := DataW.trod_string Tryd.underlying9 h0
  simp only [Prod.mk.injEq] at hx1
  have hx := hx1.1
  have hL : Rows.laid_delphi_lex_signs = (DataW.agg (signsL.map fun x => DataW.lit (.string x)) : DataW Unit) := rfl
  rw [hL, DataW.agg.injEq] at hx
  have hxi := congrArg (fun l => l[i]?) hx
  have ht : signsL[i]? = some (signsL.getD i []) := by
    rw [List.getD, List.getElem?_eq_getElem (show i < signsL.length from hi)]
    rfl
  simp only [List.getElem?_map, ht, List.getElem?_eq_getElem (show i < xs.length by omega), Option.map_some, Option.some.injEq] at hxi
  have hk : k = sg i := by
    rw [e2] at hxi
    simp only [DataW.lit.injEq, Lit.string.injEq] at hxi
    unfold sg
    rw [hxi]
  subst hk
  have hc := World.var?_cell hg0 hv0 i
  rw [hc, ← Array.getElem?_toList]
  have h1 := congrArg (fun l => l[0]?) e1
  simpa using h1
end Go.Proofs.YtpbfimjfplemhaaDoor
namespace Go.Proofs.YtpbfimjfplemhaaDoor
open Go.RowKit

theorem bs_extract (s : ByteArray) (a b : Nat) : bs (s.extract a b) = ((bs s).drop a).take (b - a) := by
  unfold bs
  rw [ByteArray.data_extract, Array.toList_extract, List.extract_eq_take_drop]

theorem bs_from (s : ByteArray) (a : Nat) : bs (s.extract a s.size) = (bs s).drop a := by
  rw [bs_extract s a s.size, List.take_of_length_le (by rw [List.length_drop, bs_length]; exact Nat.le_refl _)]

theorem size_from (s : ByteArray) (a : Nat) : (s.extract a s.size).size = s.size - a := by simp

/-- What first gives. -/
def firstK (L : List UInt8) : Nat := if sizeL L = 0 ∨ 16 < sizeL L then 0 else kindL L
def firstN (L : List UInt8) : Nat := if sizeL L = 0 ∨ 16 < sizeL L then 0 else sizeL L

theorem ret_two {a b c d : Int} (h : a = c) (g : b = d) : Ending.returned (.tuple #[.int .i64 a, .int .i64 b]) = Ending.returned (.tuple #[.int .i64 c, .int .i64 d]) := by rw [h, g]

set_option maxHeartbeats 4000000 in
theorem first_any (s : ByteArray) (w : World) (h : Sg w) (h0 : 0 < s.size) (hs : s.size ≤ 4611686018427387904) :
    Calls Tryd.prog 11 #[.string s] w fun e w' => e = .returned (.tuple #[.int .i64 ((firstK (bs s) : Nat) : Int), .int .i64 ((firstN (bs s) : Nat) : Int)]) ∧ w' = w := by
  have b0 := bt_at s 0 h0
  have HS : Hid (Sg w) := h
  clear h
  obtain ⟨n, hn⟩ : ∃ n, Hid (sizeL (bs s) = n) := ⟨_, rfl⟩
  have hle : n ≤ s.size := by rw [← hn.out]; exact sizeL_le _
  have hk : Hid (kindL (bs s) = kindN (bt s 0)) := rfl
  have HB : Hid (n = 0 ∨ 16 < n → firstK (bs s) = 0 ∧ firstN (bs s) = 0) := by rw [← hn.out]; exact fun e => ⟨if_pos e, if_pos e⟩
  have HG : Hid (¬ (n = 0 ∨ 16 < n) → firstK (bs s) = kindN (bt s 0) ∧ firstN (bs s) = n) := by rw [← hn.out]; exact fun e => ⟨if_neg e, if_neg e⟩
  have hz : Hid ((kindN (bt s 0) = 1 → runP nameN (bs s) = n) ∧ (kindN (bt s 0) = 2 → runP varN (bs s) = n) ∧ (kindN (bt s 0) = 3 → numL (bs s) = n) ∧ (kindN (bt s 0) = 4 → signL (bs s) = n)) := by
    rw [← hn.out]
    refine ⟨fun e => ?_, fun e => ?_, fun e => ?_, fun e => ?_⟩ <;> rw [← hk.out] at e <;> simp [sizeL, e]
  clear hn hk
  generalize bt s 0 = c at *
  have hc : n = 0 ∨ 16 < n ∨ (n ≠ 0 ∧ n ≤ 16) := by omega
  by_cases h1 : smallN c = true
  · have hkk : Hid (kindN c = 1) := show kindN c = 1 by simp [kindN, h1]
    have h2 : greatN c = false := by simp [smallN, greatN] at h1 ⊢; omega
    have h3 : digitN c = false := by simp [smallN, digitN] at h1 ⊢; omega
    rcases hc with rfl | hb | ⟨hb0, hb⟩
    · go_enter Tryd.func11, Tryd.ntmps11
      go_wp2_with (first
      | (go_at_call 16; refine (isSmall_any _ _).mono ?_; rintro e w' ⟨rfl, hw⟩; have hw' := hw.symm; subst hw'; clear hw; rw [h1])
      | (go_at_call 19; refine (isGreat_any _ _).mono ?_; rintro e w' ⟨rfl, hw⟩; have hw' := hw.symm; subst hw'; clear hw; rw [h2])
      | (go_at_call 21; refine (isDigit_any _ _).mono ?_; rintro e w' ⟨rfl, hw⟩; have hw' := hw.symm; subst hw'; clear hw; rw [h3])
      | (go_at_call 17; refine (run_any 18 nameN inName_any enters18 _ _ (by omega)).mono ?_; rintro e w' ⟨rfl, hw⟩; have hw' := hw.symm; subst hw'; clear hw; rw [hz.out.1 hkk.out]))
      go_ret2
      exact ⟨ret_two (by rw [(HB.out (by simp)).1]; rfl) (by rw [(HB.out (by simp)).2]; rfl), rfl⟩
    · have gb : ((n : Int) == 0) = false := by simp; omega
      go_enter Tryd.func11, Tryd.ntmps11
      go_wp2_with (first
      | (go_at_call 16; refine (isSmall_any _ _).mono ?_; rintro e w' ⟨rfl, hw⟩; have hw' := hw.symm; subst hw'; clear hw; rw [h1])
      | (go_at_call 19; refine (isGreat_any _ _).mono ?_; rintro e w' ⟨rfl, hw⟩; have hw' := hw.symm; subst hw'; clear hw; rw [h2])
      | (go_at_call 21; refine (isDigit_any _ _).mono ?_; rintro e w' ⟨rfl, hw⟩; have hw' := hw.symm; subst hw'; clear hw; rw [h3])
      | (go_at_call 17; refine (run_any 18 nameN inName_any enters18 _ _ (by omega)).mono ?_; rintro e w' ⟨rfl, hw⟩; have hw' := hw.symm; subst hw'; clear hw; rw [hz.out.1 hkk.out]))
      go_ret2
      exact ⟨ret_two (by rw [(HB.out (Or.inr hb)).1]; rfl) (by rw [(HB.out (Or.inr hb)).2]; rfl), rfl⟩
    · have gb : ((n : Int) == 0) = false := by simp; omega
      go_enter Tryd.func11, Tryd.ntmps11
      go_wp2_with (first
      | (go_at_call 16; refine (isSmall_any _ _).mono ?_; rintro e w' ⟨rfl, hw⟩; have hw' := hw.symm; subst hw'; clear hw; rw [h1])
      | (go_at_call 19; refine (isGreat_any _ _).mono ?_; rintro e w' ⟨rfl, hw⟩; have hw' := hw.symm; subst hw'; clear hw; rw [h2])
      | (go_at_call 21; refine (isDigit_any _ _).mono ?_; rintro e w' ⟨rfl, hw⟩; have hw' := hw.symm; subst hw'; clear hw; rw [h3])
      | (go_at_call 17; refine (run_any 18 nameN inName_any enters18 _ _ (by omega)).mono ?_; rintro e w' ⟨rfl, hw⟩; have hw' := hw.symm; subst hw'; clear hw; rw [hz.out.1 hkk.out]))
      go_ret2
      exact ⟨ret_two (by rw [(HG.out (by omega)).1, hkk.out]; rfl) (by rw [(HG.out (by omega)).2]), rfl⟩
  rw [Bool.not_eq_true] at h1
  by_cases h2 : greatN c = true
  · have hkk : Hid (kindN c = 2) := show kindN c = 2 by simp [kindN, h1, h2]
    have h3 : digitN c = false := by simp [greatN, digitN] at h2 ⊢; omega
    rcases hc with rfl | hb | ⟨hb0, hb⟩
    · go_enter Tryd.func11, Tryd.ntmps11
      go_wp2_with (first
      | (go_at_call 16; refine (isSmall_any _ _).mono ?_; rintro e w' ⟨rfl, hw⟩; have hw' := hw.symm; subst hw'; clear hw; rw [h1])
      | (go_at_call 19; refine (isGreat_any _ _).mono ?_; rintro e w' ⟨rfl, hw⟩; have hw' := hw.symm; subst hw'; clear hw; rw [h2])
      | (go_at_call 21; refine (isDigit_any _ _).mono ?_; rintro e w' ⟨rfl, hw⟩; have hw' := hw.symm; subst hw'; clear hw; rw [h3])
      | (go_at_call 17; refine (run_any 20 varN inVar_any enters20 _ _ (by omega)).mono ?_; rintro e w' ⟨rfl, hw⟩; have hw' := hw.symm; subst hw'; clear hw; rw [hz.out.2.1 hkk.out]))
      go_ret2
      exact ⟨ret_two (by rw [(HB.out (by simp)).1]; rfl) (by rw [(HB.out (by simp)).2]; rfl), rfl⟩
    · have gb : ((n : Int) == 0) = false := by simp; omega
      go_enter Tryd.func11, Tryd.ntmps11
      go_wp2_with (first
      | (go_at_call 16; refine (isSmall_any _ _).mono ?_; rintro e w' ⟨rfl, hw⟩; have hw' := hw.symm; subst hw'; clear hw; rw [h1])
      | (go_at_call 19; refine (isGreat_any _ _).mono ?_; rintro e w' ⟨rfl, hw⟩; have hw' := hw.symm; subst hw'; clear hw; rw [h2])
      | (go_at_call 21; refine (isDigit_any _ _).mono ?_; rintro e w' ⟨rfl, hw⟩; have hw' := hw.symm; subst hw'; clear hw; rw [h3])
      | (go_at_call 17; refine (run_any 20 varN inVar_any enters20 _ _ (by omega)).mono ?_; rintro e w' ⟨rfl, hw⟩; have hw' := hw.symm; subst hw'; clear hw; rw [hz.out.2.1 hkk.out]))
      go_ret2
      exact ⟨ret_two (by rw [(HB.out (Or.inr hb)).1]; rfl) (by rw [(HB.out (Or.inr hb)).2]; rfl), rfl⟩
    · have gb : ((n : Int) == 0) = false := by simp; omega
      go_enter Tryd.func11, Tryd.ntmps11
      go_wp2_with (first
      | (go_at_call 16; refine (isSmall_any _ _).mono ?_; rintro e w' ⟨rfl, hw⟩; have hw' := hw.symm; subst hw'; clear hw; rw [h1])
      | (go_at_call 19; refine (isGreat_any _ _).mono ?_; rintro e w' ⟨rfl, hw⟩; have hw' := hw.symm; subst hw'; clear hw; rw [h2])
      | (go_at_call 21; refine (isDigit_any _ _).mono ?_; rintro e w' ⟨rfl, hw⟩; have hw' := hw.symm; subst hw'; clear hw; rw [h3])
      | (go_at_call 17; refine (run_any 20 varN inVar_any enters20 _ _ (by omega)).mono ?_; rintro e w' ⟨rfl, hw⟩; have hw' := hw.symm; subst hw'; clear hw; rw [hz.out.2.1 hkk.out]))
      go_ret2
      exact ⟨ret_two (by rw [(HG.out (by omega)).1, hkk.out]; rfl) (by rw [(HG.out (by omega)).2]), rfl⟩
  rw [Bool.not_eq_true] at h2
  by_cases h3 : digitN c = true
  · have hkk : Hid (kindN c = 3) := show kindN c = 3 by simp [kindN, h1, h2, h3]
    rcases hc with rfl | hb | ⟨hb0, hb⟩
    · go_enter Tryd.func11, Tryd.ntmps11
      go_wp2_with (first
      | (go_at_call 16; refine (isSmall_any _ _).mono ?_; rintro e w' ⟨rfl, hw⟩; have hw' := hw.symm; subst hw'; clear hw; rw [h1])
      | (go_at_call 19; refine (isGreat_any _ _).mono ?_; rintro e w' ⟨rfl, hw⟩; have hw' := hw.symm; subst hw'; clear hw; rw [h2])
      | (go_at_call 21; refine (isDigit_any _ _).mono ?_; rintro e w' ⟨rfl, hw⟩; have hw' := hw.symm; subst hw'; clear hw; rw [h3])
      | (go_at_call 22; refine (numberSize_any _ _ h0 hs).mono ?_; rintro e w' ⟨rfl, hw⟩; have hw' := hw.symm; subst hw'; clear hw; rw [hz.out.2.2.1 hkk.out]))
      go_ret2
      exact ⟨ret_two (by rw [(HB.out (by simp)).1]; rfl) (by rw [(HB.out (by simp)).2]; rfl), rfl⟩
    · have gb : ((n : Int) == 0) = false := by simp; omega
      go_enter Tryd.func11, Tryd.ntmps11
      go_wp2_with (first
      | (go_at_call 16; refine (isSmall_any _ _).mono ?_; rintro e w' ⟨rfl, hw⟩; have hw' := hw.symm; subst hw'; clear hw; rw [h1])
      | (go_at_call 19; refine (isGreat_any _ _).mono ?_; rintro e w' ⟨rfl, hw⟩; have hw' := hw.symm; subst hw'; clear hw; rw [h2])
      | (go_at_call 21; refine (isDigit_any _ _).mono ?_; rintro e w' ⟨rfl, hw⟩; have hw' := hw.symm; subst hw'; clear hw; rw [h3])
      | (go_at_call 22; refine (numberSize_any _ _ h0 hs).mono ?_; rintro e w' ⟨rfl, hw⟩; have hw' := hw.symm; subst hw'; clear hw; rw [hz.out.2.2.1 hkk.out]))
      go_ret2
      exact ⟨ret_two (by rw [(HB.out (Or.inr hb)).1]; rfl) (by rw [(HB.out (Or.inr hb)).2]; rfl), rfl⟩
    · have gb : ((n : Int) == 0) = false := by simp; omega
      go_enter Tryd.func11, Tryd.ntmps11
      go_wp2_with (first
      | (go_at_call 16; refine (isSmall_any _ _).mono ?_; rintro e w' ⟨rfl, hw⟩; have hw' := hw.symm; subst hw'; clear hw; rw [h1])
      | (go_at_call 19; refine (isGreat_any _ _).mono ?_; rintro e w' ⟨rfl, hw⟩; have hw' := hw.symm; subst hw'; clear hw; rw [h2])
      | (go_at_call 21; refine (isDigit_any _ _).mono ?_; rintro e w' ⟨rfl, hw⟩; have hw' := hw.symm; subst hw'; clear hw; rw [h3])
      | (go_at_call 22; refine (numberSize_any _ _ h0 hs).mono ?_; rintro e w' ⟨rfl, hw⟩; have hw' := hw.symm; subst hw'; clear hw; rw [hz.out.2.2.1 hkk.out]))
      go_ret2
      exact ⟨ret_two (by rw [(HG.out (by omega)).1, hkk.out]; rfl) (by rw [(HG.out (by omega)).2]), rfl⟩
  rw [Bool.not_eq_true] at h3
  by_cases h4 : c = 45
  · have hkk : Hid (kindN c = 3) := show kindN c = 3 by unfold kindN; rw [if_neg (by rw [h1]; decide), if_neg (by rw [h2]; decide), if_pos (Or.inr h4)]
    have h4' : ((c : Int) == 45) = true := by rw [h4]; rfl
    clear h4
    rcases hc with rfl | hb | ⟨hb0, hb⟩
    · go_enter Tryd.func11, Tryd.ntmps11
      go_wp2_with (first
      | (go_at_call 16; refine (isSmall_any _ _).mono ?_; rintro e w' ⟨rfl, hw⟩; have hw' := hw.symm; subst hw'; clear hw; rw [h1])
      | (go_at_call 19; refine (isGreat_any _ _).mono ?_; rintro e w' ⟨rfl, hw⟩; have hw' := hw.symm; subst hw'; clear hw; rw [h2])
      | (go_at_call 21; refine (isDigit_any _ _).mono ?_; rintro e w' ⟨rfl, hw⟩; have hw' := hw.symm; subst hw'; clear hw; rw [h3])
      | (go_at_call 22; refine (numberSize_any _ _ h0 hs).mono ?_; rintro e w' ⟨rfl, hw⟩; have hw' := hw.symm; subst hw'; clear hw; rw [hz.out.2.2.1 hkk.out]))
      go_ret2
      exact ⟨ret_two (by rw [(HB.out (by simp)).1]; rfl) (by rw [(HB.out (by simp)).2]; rfl), rfl⟩
    · have gb : ((n : Int) == 0) = false := by simp; omega
      go_enter Tryd.func11, Tryd.ntmps11
      go_wp2_with (first
      | (go_at_call 16; refine (isSmall_any _ _).mono ?_; rintro e w' ⟨rfl, hw⟩; have hw' := hw.symm; subst hw'; clear hw; rw [h1])
      | (go_at_call 19; refine (isGreat_any _ _).mono ?_; rintro e w' ⟨rfl, hw⟩; have hw' := hw.symm; subst hw'; clear hw; rw [h2])
      | (go_at_call 21; refine (isDigit_any _ _).mono ?_; rintro e w' ⟨rfl, hw⟩; have hw' := hw.symm; subst hw'; clear hw; rw [h3])
      | (go_at_call 22; refine (numberSize_any _ _ h0 hs).mono ?_; rintro e w' ⟨rfl, hw⟩; have hw' := hw.symm; subst hw'; clear hw; rw [hz.out.2.2.1 hkk.out]))
      go_ret2
      exact ⟨ret_two (by rw [(HB.out (Or.inr hb)).1]; rfl) (by rw [(HB.out (Or.inr hb)).2]; rfl), rfl⟩
    · have gb : ((n : Int) == 0) = false := by simp; omega
      go_enter Tryd.func11, Tryd.ntmps11
      go_wp2_with (first
      | (go_at_call 16; refine (isSmall_any _ _).mono ?_; rintro e w' ⟨rfl, hw⟩; have hw' := hw.symm; subst hw'; clear hw; rw [h1])
      | (go_at_call 19; refine (isGreat_any _ _).mono ?_; rintro e w' ⟨rfl, hw⟩; have hw' := hw.symm; subst hw'; clear hw; rw [h2])
      | (go_at_call 21; refine (isDigit_any _ _).mono ?_; rintro e w' ⟨rfl, hw⟩; have hw' := hw.symm; subst hw'; clear hw; rw [h3])
      | (go_at_call 22; refine (numberSize_any _ _ h0 hs).mono ?_; rintro e w' ⟨rfl, hw⟩; have hw' := hw.symm; subst hw'; clear hw; rw [hz.out.2.2.1 hkk.out]))
      go_ret2
      exact ⟨ret_two (by rw [(HG.out (by omega)).1, hkk.out]; rfl) (by rw [(HG.out (by omega)).2]), rfl⟩
  · have hkk : Hid (kindN c = 4) := show kindN c = 4 by simp [kindN, h1, h2, h3, h4]
    have h4' : ((c : Int) == 45) = false := by simp; omega
    rcases hc with rfl | hb | ⟨hb0, hb⟩
    · go_enter Tryd.func11, Tryd.ntmps11
      go_wp2_with (first
      | (go_at_call 16; refine (isSmall_any _ _).mono ?_; rintro e w' ⟨rfl, hw⟩; have hw' := hw.symm; subst hw'; clear hw; rw [h1])
      | (go_at_call 19; refine (isGreat_any _ _).mono ?_; rintro e w' ⟨rfl, hw⟩; have hw' := hw.symm; subst hw'; clear hw; rw [h2])
      | (go_at_call 21; refine (isDigit_any _ _).mono ?_; rintro e w' ⟨rfl, hw⟩; have hw' := hw.symm; subst hw'; clear hw; rw [h3])
      | (go_at_call 23; refine (signSize_any _ _ HS.out).mono ?_; rintro e w' ⟨rfl, hw⟩; have hw' := hw.symm; subst hw'; clear hw; rw [hz.out.2.2.2 hkk.out]))
      go_ret2
      exact ⟨ret_two (by rw [(HB.out (by simp)).1]; rfl) (by rw [(HB.out (by simp)).2]; rfl), rfl⟩
    · have gb : ((n : Int) == 0) = false := by simp; omega
      go_enter Tryd.func11, Tryd.ntmps11
      go_wp2_with (first
      | (go_at_call 16; refine (isSmall_any _ _).mono ?_; rintro e w' ⟨rfl, hw⟩; have hw' := hw.symm; subst hw'; clear hw; rw [h1])
      | (go_at_call 19; refine (isGreat_any _ _).mono ?_; rintro e w' ⟨rfl, hw⟩; have hw' := hw.symm; subst hw'; clear hw; rw [h2])
      | (go_at_call 21; refine (isDigit_any _ _).mono ?_; rintro e w' ⟨rfl, hw⟩; have hw' := hw.symm; subst hw'; clear hw; rw [h3])
      | (go_at_call 23; refine (signSize_any _ _ HS.out).mono ?_; rintro e w' ⟨rfl, hw⟩; have hw' := hw.symm; subst hw'; clear hw; rw [hz.out.2.2.2 hkk.out]))
      go_ret2
      exact ⟨ret_two (by rw [(HB.out (Or.inr hb)).1]; rfl) (by rw [(HB.out (Or.inr hb)).2]; rfl), rfl⟩
    · have gb : ((n : Int) == 0) = false := by simp; omega
      go_enter Tryd.func11, Tryd.ntmps11
      go_wp2_with (first
      | (go_at_call 16; refine (isSmall_any _ _).mono ?_; rintro e w' ⟨rfl, hw⟩; have hw' := hw.symm; subst hw'; clear hw; rw [h1])
      | (go_at_call 19; refine (isGreat_any _ _).mono ?_; rintro e w' ⟨rfl, hw⟩; have hw' := hw.symm; subst hw'; clear hw; rw [h2])
      | (go_at_call 21; refine (isDigit_any _ _).mono ?_; rintro e w' ⟨rfl, hw⟩; have hw' := hw.symm; subst hw'; clear hw; rw [h3])
      | (go_at_call 23; refine (signSize_any _ _ HS.out).mono ?_; rintro e w' ⟨rfl, hw⟩; have hw' := hw.symm; subst hw'; clear hw; rw [hz.out.2.2.2 hkk.out]))
      go_ret2
      exact ⟨ret_two (by rw [(HG.out (by omega)).1, hkk.out]; rfl) (by rw [(HG.out (by omega)).2]), rfl⟩

set_option maxHeartbeats 1000000 in
theorem skip_any (s : ByteArray) (a : Nat) (w : World) (ha : a ≤ s.size) (hs : s.size ≤ 4611686018427387904) :
    Calls Tryd.prog 10 #[.string s, .int .i64 (a : Int)] w fun e w' => (∃ b : Nat, e = .returned (.int .i64 (b : Int)) ∧ b ≤ s.size ∧ a ≤ b ∧ scanAt (bs s) a = scanAt (bs s) b ∧ (b < s.size → blankN (bt s b) = false ∧ bt s b ≠ 37)) ∧ w' = w := by
  go_enter Tryd.func10, Tryd.ntmps10
  go_wp2
  go_loopw [1] (fun i wr => ∃ k : Nat, k ≤ s.size ∧ a ≤ k ∧ i = .int .i64 k ∧ Hid (scanAt (bs s) a = scanAt (bs s) k) ∧ wr = w) (fun i _ => s.size - (intOf i).toNat)
  case atStart => exact ⟨a, ha, Nat.le_refl _, rfl, rfl, rfl⟩
  case round =>
    obtain ⟨k, hk, hak, rfl, hh, hw⟩ := hrel
    have hw' := hw.symm
    subst hw'
    by_cases hlt : k < s.size
    · have bk := bt_at s k hlt
      cases hb : blankN (bt s k)
      · by_cases hp : bt s k = 37
        · have hn := scanAt_note (bs s) k hlt hp
          obtain ⟨l, hl⟩ : ∃ l, Hid (lineL ((bs s).drop k) = l) := ⟨_, rfl⟩
          rw [hl.out, bs_length] at hn
          obtain ⟨hn1, hn2, hn3⟩ := hn
          have HN : Hid _ := hn1
          clear hn1
          rw [hp] at bk hb
          go_wp2_with (first
            | (go_at_call 14; refine (isBlank_any _ _).mono ?_; rintro e w' ⟨rfl, hw⟩; have hw' := hw.symm; subst hw'; clear hw; rw [hb])
            | (go_at_call 15; refine (lineSize_any _ _ (by simp; omega)).mono ?_; rintro e w' ⟨rfl, hw⟩; have hw' := hw.symm; subst hw'; clear hw; rw [bs_from, hl.out]))
          go_roundw
          case rel => exact ⟨k + l, by omega, by omega, by go_num, hh.out.trans HN.out, trivial⟩
          case measure => simp [intOf]; omega
        · have hp' : ((bt s k : Int) == 37) = false := by simp; omega
          go_wp2_with (go_at_call 14; refine (isBlank_any _ _).mono ?_; rintro e w' ⟨rfl, hw⟩; have hw' := hw.symm; subst hw'; clear hw; rw [hb])
          go_ret
          exact ⟨⟨k, rfl, hk, hak, hh.out, fun _ => ⟨hb, hp⟩⟩, rfl⟩
      · have HB : Hid _ := scanAt_blank (bs s) k hlt hb
        go_wp2_with (go_at_call 14; refine (isBlank_any _ _).mono ?_; rintro e w' ⟨rfl, hw⟩; have hw' := hw.symm; subst hw'; clear hw; rw [hb])
        go_roundw
        case rel => exact ⟨k + 1, by omega, by omega, by go_num, hh.out.trans HB.out, trivial⟩
        case measure => simp [intOf]; omega
    · have hke : k = s.size := by omega
      subst hke
      go_wp2
      go_ret
      exact ⟨⟨s.size, rfl, Nat.le_refl _, hak, hh.out, fun h => absurd h (Nat.lt_irrefl _)⟩, rfl⟩

end Go.Proofs.YtpbfimjfplemhaaDoor
namespace Go.Proofs.YtpbfimjfplemhaaDoor
open Go.RowKit

theorem wpList_append_run {P : Program} (w : World) {ops : Array Oper} {rest : List Oper} {o : Oper} {a : Act} {Q : Exit → Act → World → Prop} (hgd : o.guard = none) (d x : Operand) (dT sT : TypeId)
    (ho : o.op = .call { callee := .builtin .append, args := #[d, x], argTypes := #[dT, sT] }) (v u : Value) (hd : a.eval d = v) (hx : a.eval x = u) {v' : Value} {w' : World}
    (hr : (Builtin.append_ #[dT, sT] o.type #[v, u]).run P w = .ok v' w') (h : wpList P ops Q rest (a.put o.dst v') w') : wpList P ops Q (o :: rest) a w := by
  refine wpList_plain hgd fun _ hK => ?_
  unfold Oper.wp
  simp [execOp, ho, resolve, invoke, builtin, hd, hx, hr, Result.andThen]
  exact hK _ _ h

/-- A text out of its bytes. -/
def tx (x : List UInt8) : ByteArray := ⟨x.toArray⟩
theorem bs_tx (x : List UInt8) : bs (tx x) = x := rfl
theorem tx_bs (s : ByteArray) : tx (bs s) = s := rfl
theorem tx_size (x : List UInt8) : (tx x).size = x.length := rfl
theorem extract_tx (s : ByteArray) (a b : Nat) : s.extract a b = tx (((bs s).drop a).take (b - a)) := by
  rw [← tx_bs (s.extract a b), bs_extract]

def cellsW (L : List Wd) : List Value := L.flatMap fun t => [.int .i64 (t.1 : Int), .string (tx t.2.1), .int .i64 (t.2.2 : Int)]
theorem cellsW_len : ∀ L : List Wd, (cellsW L).length = L.length * 3
  | [] => rfl
  | t :: r => by
    have := cellsW_len r
    simp [cellsW] at this ⊢
    omega
theorem cellsW_append (a b : List Wd) : cellsW (a ++ b) = cellsW a ++ cellsW b := by simp [cellsW]
theorem cellsW_cons (t : Wd) (b : List Wd) : cellsW (t :: b) = .int .i64 (t.1 : Int) :: .string (tx t.2.1) :: .int .i64 (t.2.2 : Int) :: cellsW b := by simp [cellsW]
theorem cellsW_get (L : List Wd) (i : Nat) (h : i < L.length) : (cellsW L)[i * 3]? = some (.int .i64 (L[i].1 : Int)) ∧ (cellsW L)[i * 3 + 1]? = some (.string (tx L[i].2.1)) ∧ (cellsW L)[i * 3 + 2]? = some (.int .i64 (L[i].2.2 : Int)) := by
  have e : L = L.take i ++ L[i] :: L.drop (i + 1) := by simp
  have hl : (cellsW (L.take i)).length = i * 3 := by rw [cellsW_len]; simp; omega
  have e2 : cellsW L = cellsW (L.take i) ++ (.int .i64 (L[i].1 : Int) :: .string (tx L[i].2.1) :: .int .i64 (L[i].2.2 : Int) :: cellsW (L.drop (i + 1))) := by
    conv => lhs; rw [e]
    rw [cellsW_append, cellsW_cons]
  rw [e2]
  refine ⟨?_, ?_, ?_⟩
  · rw [List.getElem?_append_right (by omega), hl]; simp
  · rw [List.getElem?_append_right (by omega), hl, Nat.add_sub_cancel_left]; rfl
  · rw [List.getElem?_append_right (by omega), hl, Nat.add_sub_cancel_left]; rfl
theorem cellsW_one (L : List Wd) : ∀ u ∈ cellsW L, u.oneCell' = true := by
  intro u hu
  obtain ⟨t, _, hu⟩ := List.mem_flatMap.1 hu
  simp at hu
  rcases hu with rfl | rfl | rfl <;> rfl

theorem own_shape {w : World} {b e s n : Nat} {v : Value} {xs : List Value} (h : w.ownsRow b e s v n xs) : (v = .slice none 0 0 ∧ n = 0) ∨ ∃ g cap, v = .slice (some ⟨g, 0, none⟩) n cap ∧ n ≤ cap ∧ cap ≤ maxLen ∧ g < w.heap.size ∧ b ≤ g := by
  rcases h.2 with h | ⟨g, cap, cur, rfl, hb, hg, h1, h2, _⟩
  · exact .inl h
  · exact .inr ⟨g, cap, rfl, h1, h2, (Array.getElem?_eq_some_iff.1 hg).1, hb⟩
theorem own_below {w w' : World} {base e size n : Nat} {v : Value} {xs : List Value} (h : w.ownsRow base e size v n xs) (hb : Below w.heap.size w w') : w'.ownsRow base e size v n xs := by
  refine ⟨h.1, ?_⟩
  rcases h.2 with hn' | ⟨g, cap, cur, rfl, hbb, hgg, rest⟩
  · exact .inl hn'
  · refine .inr ⟨g, cap, cur, rfl, hbb, ?_, rest⟩
    rw [hb.block g (Array.getElem?_eq_some_iff.1 hgg).1]
    exact hgg
theorem below_box (w : World) (o : Obj) : Below w.heap.size w (w.alloc o) := (Below.refl _ _).alloc (Nat.le_refl _) o

/-- A row of words of the call's own, e the words' type; nothing else was turned. -/
structure Rw (e : TypeId) (w W : World) (v : Value) (L : List Wd) : Prop where
  row : W.ownsRow w.heap.size e 3 v L.length (cellsW L)
  below : Below w.heap.size w W
theorem Rw.keep {e : TypeId} {w W W' : World} {v : Value} {L : List Wd} (h : Rw e w W v L) (hb : Below W.heap.size W W') : Rw e w W' v L :=
  ⟨own_below h.row hb, h.below.trans (hb.mono h.below.size)⟩
theorem Rw.nil (e : TypeId) (w : World) : Rw e w w (.slice none 0 0) [] := ⟨⟨by simp [cellsW], .inl ⟨rfl, rfl⟩⟩, Below.refl _ _⟩
theorem Rw.slice {e : TypeId} {w W : World} {v : Value} {L : List Wd} (h : Rw e w W v L) : ∃ ao cap, v = .slice ao L.length cap ∧ (0 < L.length → ∃ g, ao = some ⟨g, 0, none⟩) := by
  rcases own_shape h.row with ⟨rfl, h0⟩ | ⟨g, cap, rfl, _⟩
  · exact ⟨none, 0, by rw [h0], fun hp => by omega⟩
  · exact ⟨_, cap, rfl, fun _ => ⟨g, rfl⟩⟩
theorem Rw.cells {e : TypeId} {w W : World} {g cap : Nat} {L : List Wd} (h : Rw e w W (.slice (some ⟨g, 0, none⟩) L.length cap) L) (i : Nat) (hi : i < L.length) :
    W.cell? ⟨g, i * 3, none⟩ = some (.int .i64 (L[i].1 : Int)) ∧ W.cell? ⟨g, i * 3 + 1, none⟩ = some (.string (tx L[i].2.1)) ∧ W.cell? ⟨g, i * 3 + 2, none⟩ = some (.int .i64 (L[i].2.2 : Int)) := by
  have hc := cellsW_get L i hi
  exact ⟨(h.row.cellAt _ (by omega)).trans hc.1, (h.row.cellAt _ (by omega)).trans hc.2.1, (h.row.cellAt _ (by omega)).trans hc.2.2⟩

theorem grown_below {w w' : World} {B : Nat} {row : Option Nat} (h : w.grownBy w' row) (hB : B ≤ w.heap.size) (hr : ∀ k, row = some k → B ≤ k) : Below B w w' :=
  ⟨h.os, h.tape, h.output, h.size, fun k hk => h.block k (by omega) (fun e => by have := hr k e.symm; omega)⟩

theorem push_any (t e : TypeId) (ht : Tryd.prog.underlying t = some (.slice e)) (hi : (Tryd.prog.info? e).map (fun i => (i.zero, i.size, i.bytes)) = some (some (.agg #[.int .i64 0, .string ⟨#[]⟩, .int .i64 0]), 3, 32))
    {w W : World} {v : Value} {L : List Wd} (h : Rw e w W v L) (x : Wd) (hl : L.length ≤ 1000000) :
    ∃ g cap w3, (∀ ty, (Builtin.append_ #[t, t] ty #[v, .slice (some ⟨W.heap.size, 0, none⟩) 1 1]).run Tryd.prog (W.alloc (.cells #[.int .i64 (x.1 : Int), .string (tx x.2.1), .int .i64 (x.2.2 : Int)] e)) = .ok (.slice (some ⟨g, 0, none⟩) (L.length + 1) cap) w3) ∧
      Hid (Rw e w w3 (.slice (some ⟨g, 0, none⟩) (L.length + 1) cap) (L ++ [x])) := by
  obtain ⟨i, hi, hz, hsize, hby⟩ := info_parts hi
  have ha := h.keep (below_box W (.cells #[.int .i64 (x.1 : Int), .string (tx x.2.1), .int .i64 (x.2.2 : Int)] e))
  have hsa : (W.alloc (.cells #[.int .i64 (x.1 : Int), .string (tx x.2.1), .int .i64 (x.2.2 : Int)] e)).heap.size = W.heap.size + 1 := by simp
  have hbs := h.below.size
  have H := fun ty => run_append_own_at (P := Tryd.prog) _ w.heap.size t ty e i _ 3 32 ht hi hz hsize hby rfl (by decide) v L.length (cellsW L) ha.row ⟨W.heap.size, 0, none⟩ 1 1 (cellsW [x]) rfl (fun j u hj => by
    rw [Addr.add_lit, Nat.zero_add, cell_of_row _ _ j _ _ _ (heap_alloc_new _ _)]
    simpa [cellsW] using hj) (cellsW_one [x]) (by simp only [maxLen]; omega) (by omega) (by omega)
  obtain ⟨v', w', hr, g1, g2, _, g4⟩ := H 0
  rw [← cellsW_append] at g1
  rcases own_shape g1 with ⟨_, h0⟩ | ⟨g', cap, rfl, _⟩
  · omega
  · refine ⟨g', cap, w', fun ty => hr, ⟨by rw [List.length_append]; exact g1, ?_⟩⟩
    refine ha.below.trans (grown_below g2 (by omega) fun k hk => ?_)
    rcases own_shape h.row with ⟨rfl, _⟩ | ⟨g0, cap0, rfl, _, _, _, hb⟩
    · simp [Value.ownBlock] at hk
    · simp [Value.ownBlock] at hk
      omega

theorem Tryd.info32 : (Tryd.prog.info? 32).map (fun i => (i.zero, i.size, i.bytes)) = some (some (.agg #[.int .i64 0, .string ⟨#[]⟩, .int .i64 0]), 3, 32) := by kernel_rfl
theorem Tryd.info33 : (Tryd.prog.info? 33).map (fun i => (i.zero, i.size, i.bytes)) = some (some (.agg #[.int .i64 0, .string ⟨#[]⟩, .int .i64 0]), 3, 32) := by kernel_rfl

theorem clone_any (s : ByteArray) (w : World) (hs : s.size ≤ 281474976710656) : Calls Tryd.prog 12 #[.string s] w fun e w' => e = .returned (.string s) ∧ Below w.heap.size w w' := by
  go_enter Tryd.func12, Tryd.ntmps12
  go_wp2_with (go_at_call 24; refine (Tryd.stringslite_Clone s _ hs).mono ?_; rintro e w' ⟨rfl, hb⟩)
  go_ret
  exact ⟨rfl, hb⟩

end Go.Proofs.YtpbfimjfplemhaaDoor
namespace Go.Proofs.YtpbfimjfplemhaaDoor
open Go.RowKit

theorem kindN_pos (n : Nat) : 1 ≤ kindN n ∧ kindN n ≤ 4 := by
  unfold kindN
  repeat' split
  all_goals omega

/-- What first says of the rest of a text, for the words from there on. -/
theorem first_says (S : List UInt8) (a : Nat) (h : a < S.length) (hb : blankN (S.getD a 0).toNat = false) (hn : (S.getD a 0).toNat ≠ 37) :
    (firstK (S.drop a) = 0 ∧ scanAt S a = none) ∨ (1 ≤ firstK (S.drop a) ∧ 1 ≤ firstN (S.drop a) ∧ firstN (S.drop a) ≤ 16 ∧ a + firstN (S.drop a) ≤ S.length ∧
      scanAt S a = (scanAt S (a + firstN (S.drop a))).map (fun r => (firstK (S.drop a), (S.drop a).take (firstN (S.drop a)), a) :: r)) := by
  by_cases hs : sizeL (S.drop a) = 0 ∨ 16 < sizeL (S.drop a)
  · left
    exact ⟨if_pos hs, scanAt_bad S a h hb hn hs⟩
  · right
    have e1 : firstK (S.drop a) = kindL (S.drop a) := if_neg hs
    have e2 : firstN (S.drop a) = sizeL (S.drop a) := if_neg hs
    have hl := sizeL_le (S.drop a)
    rw [List.length_drop] at hl
    rw [e1, e2]
    exact ⟨(kindN_pos _).1, by omega, by omega, by omega, scanAt_word S a h hb hn (by omega) (by omega)⟩

/-- What Scan gives: an error, or a row of the words. -/
def Sc (e : TypeId) (s : ByteArray) (w : World) (r : Ending) (w' : World) : Prop :=
  (∃ v L, scanAt (bs s) 0 = some L ∧ r = .returned (.tuple #[v, .int .i64 0]) ∧ Rw e w w' v L) ∨ (scanAt (bs s) 0 = none ∧ r = .returned (.tuple #[.slice none 0 0, .int .i64 4]) ∧ Below w.heap.size w w')

theorem map_snoc {α : Type} (o : Option (List α)) (L : List α) (x : α) : (o.map (fun r => x :: r)).map (fun r => L ++ r) = o.map (fun r => (L ++ [x]) ++ r) := by
  cases o <;> simp

theorem scan_long (s : ByteArray) (w : World) (h : 4000 < s.size) :
    Calls Tryd.prog 8 #[.string s] w fun e w' => e = .returned (.tuple #[.slice none 0 0, .int .i64 8]) ∧ w' = w := by
  go_enter Tryd.func8, Tryd.ntmps8
  go_wp2
  go_ret2
  exact ⟨rfl, rfl⟩

set_option maxHeartbeats 2000000 in
theorem scan_any (s : ByteArray) (w : World) (h : Sg w) (hs : s.size ≤ 4000) :
    Calls Tryd.prog 8 #[.string s] w fun e w' => Sc 32 s w e w' := by
  have HS : Hid (Sg w) := h
  clear h
  go_enter Tryd.func8, Tryd.ntmps8
  go_wp2_with fail
  refine (skip_any s 0 w (Nat.zero_le _) (by omega)).mono ?_
  rintro e w' ⟨⟨b, rfl, hb1, _, hb2, hb3⟩, hw⟩
  have hw' := hw.symm
  subst hw'
  clear hw
  have HB2 : Hid _ := hb2
  have HB3 : Hid _ := hb3
  clear hb2 hb3
  go_wp2_with fail
  go_loopw [4, 5] (fun v i wr => ∃ (k : Nat) (L : List Wd), i = .int .i64 k ∧ k ≤ s.size ∧ Hid (scanAt (bs s) 0 = (scanAt (bs s) k).map (fun r => L ++ r)) ∧ Hid (k < s.size → blankN (bt s k) = false ∧ bt s k ≠ 37) ∧ L.length ≤ k ∧ Hid (Rw 32 w wr v L)) (fun _ i _ => s.size - (intOf i).toNat)
  case atStart => exact ⟨b, [], rfl, hb1, by rw [HB2.out]; show _ = _; cases scanAt (bs s) b <;> simp, HB3, Nat.zero_le _, Rw.nil _ _⟩
  case round =>
    obtain ⟨k, L, rfl, hk, H1, H2, hLk, HR⟩ := hrel
    clear HB2 HB3
    by_cases hlt : k < s.size
    · have hF := first_says (bs s) k hlt (H2.out hlt).1 (H2.out hlt).2
      have HSr : Hid (Sg wr) := HS.out.below HR.out.below
      obtain ⟨kk, hkk⟩ : ∃ kk, Hid (firstK ((bs s).drop k) = kk) := ⟨_, rfl⟩
      obtain ⟨nn, hnn⟩ : ∃ nn, Hid (firstN ((bs s).drop k) = nn) := ⟨_, rfl⟩
      rw [hkk.out, hnn.out] at hF
      go_wp2_with fail
      refine (first_any _ _ HSr.out (by rw [size_from]; omega) (by rw [size_from]; omega)).mono ?_
      rintro e w' ⟨rfl, hw⟩
      have hw' := hw.symm
      subst hw'
      clear hw
      rw [bs_from, hkk.out, hnn.out]
      rcases hF with ⟨h0, hnone⟩ | ⟨h1, h2, h3, h4, h5⟩
      · subst h0
        have HN : Hid _ := hnone
        clear hnone
        go_wp2_with fail
        go_ret2
        exact Or.inr ⟨by rw [H1.out, HN.out]; rfl, rfl, HR.out.below⟩
      · have g0 : ((kk : Int) == 0) = false := by simp; omega
        have H5 : Hid _ := h5
        have h4' : k + nn ≤ s.size := h4
        clear h5 h4
        obtain ⟨X, hX⟩ : ∃ X, Hid (((bs s).drop k).take nn = X) := ⟨_, rfl⟩
        have hex : s.extract k (k + nn) = tx X := by rw [extract_tx, Nat.add_sub_cancel_left, hX.out]
        have hsz : (tx X).size ≤ 281474976710656 := by rw [← hex]; simp; omega
        rw [hX.out] at H5
        have HX : Hid _ := hex
        have HZ : Hid _ := hsz
        clear hex hsz
        go_wp2_with fail
        rw [HX.out]
        refine (clone_any _ _ HZ.out).mono ?_
        rintro e w1 ⟨rfl, hb⟩
        have HR1 : Hid (Rw 32 w w1 u4 L) := HR.out.keep hb
        obtain ⟨g, cap, w3, hap, HR3⟩ := push_any 24 32 Tryd.underlying24 Tryd.info32 HR1.out (kk, X, k) (by omega)
        clear HR HR1 hb HZ HX HSr
        go_wp2_with (at_builtin; refine wpList_append_run _ rfl (.tmp 26) (.tmp 37) 24 24 rfl _ _ rfl rfl (hap _) ?_)
        refine (skip_any s (k + nn) w3 (by omega) (by omega)).mono ?_
        rintro e w' ⟨⟨b2, rfl, hc1, hc4, hc2, hc3⟩, hw⟩
        have hw' := hw.symm
        subst hw'
        clear hw
        have HC2 : Hid _ := hc2
        have HC3 : Hid _ := hc3
        clear hc2 hc3 hap
        go_wp2_with fail
        go_roundw
        case rel => exact ⟨b2, L ++ [(kk, X, k)], rfl, hc1, by rw [H1.out, H5.out, map_snoc, HC2.out]; rfl, HC3, by simp; omega, HR3⟩
        case measure => simp [intOf]; omega
    · have hke : k = s.size := by omega
      subst hke
      go_wp2_with fail
      go_ret2
      exact Or.inl ⟨_, L, by rw [H1.out, scanAt_end (bs s) s.size (Nat.le_refl _)]; simp, rfl, HR.out⟩

end Go.Proofs.YtpbfimjfplemhaaDoor

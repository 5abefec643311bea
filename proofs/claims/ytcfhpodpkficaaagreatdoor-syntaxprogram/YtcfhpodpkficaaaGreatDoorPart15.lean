/- The law of any text, a program or none: its walk. -/
import Derived.Test.YtcfhpodpkficaaaGreatDoorPart14
import Derived.Test.YtcfhpodpkficaaaGreatDoorPart10
namespace Go.Proofs.YtcfhpodpkficaaaGreatDoor.Rp
open Go.RowKit
open Lx (Wd tx bs scanAt)
open Vl (Tm Fr)
open Sy

theorem eqRules_nil (w : World) : Calls Tryz.prog 11 #[.slice none 0 0, .slice none 0 0] w fun e w' => e = .returned (.bool true) ∧ Below w.heap.size w w' :=
  eqRules_same (ls := []) ⟨[], rfl, ⟨by simp [cellsRz], .inl ⟨rfl, rfl⟩⟩, by simp⟩ ⟨[], rfl, ⟨by simp [cellsRz], .inl ⟨rfl, rfl⟩⟩, by simp⟩

set_option maxRecDepth 10000 in
set_option maxHeartbeats 4000000 in
theorem program_law (s : ByteArray) (w : World) (h : Tabs w) :
    Calls Tryz.prog 3 #[.string s] w fun e w' => e = .returned (.bool true) ∧ Below w.heap.size w w' := by
  have HBg := hide (begun_any w h)
  have H := hide h
  have hcs := Lx.cutS_size s 1500
  have HC := hide (Lx.cutS_any s 1500)
  clear h
  go_enter Tryz.func3, Tryz.ntmps3
  go_wp2_with fail
  refine Calls.mono HBg.out ?_
  rintro e w1 ⟨rfl, hb1⟩
  have HB1 := hide hb1
  clear HBg hb1
  go_wp2_with fail
  refine Calls.mono (HC.out w1) ?_
  rintro e w2 ⟨rfl, hw2⟩
  have hw2' := hw2.symm
  subst hw2'
  clear hw2
  generalize Lx.cutS s 1500 = t at *
  have HA := hide (program_any t w1 (H.out.below HB1.out).lex (H.out.below HB1.out).syn (by omega))
  obtain ⟨R, hR⟩ : ∃ R, Hid (progL 30 (wordsL (bs t)) = R) := ⟨_, rfl⟩
  have HD : Hid (∀ W, Calls Tryz.prog 10 #[.string t] W fun e w' => Pg (progL 30 (wordsL (bs t))) W e w') := fun W => rprogram_any t W (by omega)
  rw [hR.out] at HA HD
  clear hR HC
  go_wp2_with fail
  refine Calls.mono HA.out ?_
  rintro e w3 ⟨hz, hb3⟩
  have HB3 := hide (HB1.out.trans (hb3.mono HB1.out.size))
  have HDD := hide (HD.out w3)
  cases R with
  | error c =>
    obtain rfl := hz
    have HE := hide eqRules_nil
    clear HA hb3
    cases c
    all_goals simp only [Bool.false_eq_true, if_false, if_true] at HDD ⊢
    all_goals go_wp2_with fail
    all_goals refine Calls.mono HDD.out ?_
    all_goals rintro e w4 ⟨he4, hb4⟩
    all_goals simp only [Bool.false_eq_true, if_false, if_true] at he4
    all_goals subst he4
    all_goals have HB4 := hide (HB3.out.trans (hb4.mono HB3.out.size))
    all_goals clear hb4
    all_goals go_wp2_with fail
    all_goals refine Calls.mono (HE.out w4) ?_
    all_goals rintro e w5 ⟨rfl, hb5⟩
    all_goals have HB5 := hide (HB4.out.trans (hb5.mono HB4.out.size))
    all_goals go_wp2_with fail
    all_goals go_ret
    all_goals exact ⟨rfl, HB5.out⟩
  | ok l =>
    obtain ⟨y, rfl, hy⟩ := hz
    obtain ⟨ao, cap, rfl⟩ := isRs_shape hy
    have HY := hide hy
    clear hy HA hb3
    go_wp2_with fail
    refine Calls.mono HDD.out ?_
    rintro e w4 ⟨⟨y', rfl, hy'⟩, hb4⟩
    obtain ⟨ao', cap', rfl⟩ := isRs_shape hy'
    have HB4 := hide (HB3.out.trans (hb4.mono HB3.out.size))
    have HE := hide (eqRules_same (isRs_below HY.out hb4) hy')
    clear hy' hb4
    go_wp2_with fail
    refine Calls.mono HE.out ?_
    rintro e w5 ⟨rfl, hb5⟩
    have HB5 := hide (HB4.out.trans (hb5.mono HB4.out.size))
    go_wp2_with fail
    go_ret
    exact ⟨rfl, HB5.out⟩
end Go.Proofs.YtcfhpodpkficaaaGreatDoor.Rp

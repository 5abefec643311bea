/- No set: the walks of its methods, and of RelationNone. -/
import Derived.Test.YtfjcadkihnecdaaPart07
namespace Go.Proofs.Ytfjcadkihnecdaa
open Go.RowKit Go.Shelf

theorem add_nil (w : World) : Calls Try.prog 9 #[.pointer none, .slice none 0 0] w fun e w' => e = .returned (.bool false) ∧ w' = w := by
  have HF := hide (fits_nil none 0 0 w)
  go_enter Try.func9, Try.ntmps9
  go_wp2_with (go_at_call 18; refine Calls.mono HF.out ?_; rintro e w' ⟨rfl, hw⟩; have hw' := hw.symm; subst hw'; clear hw)
  go_ret
  exact ⟨rfl, rfl⟩
theorem rmv_nil (w : World) : Calls Try.prog 10 #[.pointer none, .slice none 0 0] w fun e w' => e = .returned (.bool false) ∧ w' = w := by
  have HF := hide (fits_nil none 0 0 w)
  go_enter Try.func10, Try.ntmps10
  go_wp2_with (go_at_call 18; refine Calls.mono HF.out ?_; rintro e w' ⟨rfl, hw⟩; have hw' := hw.symm; subst hw'; clear hw)
  go_ret
  exact ⟨rfl, rfl⟩
theorem has_nil (w : World) : Calls Try.prog 11 #[.pointer none, .slice none 0 0] w fun e w' => e = .returned (.bool false) ∧ w' = w := by
  have HF := hide (fits_nil none 0 0 w)
  go_enter Try.func11, Try.ntmps11
  go_wp2_with (go_at_call 18; refine Calls.mono HF.out ?_; rintro e w' ⟨rfl, hw⟩; have hw' := hw.symm; subst hw'; clear hw)
  go_ret
  exact ⟨rfl, rfl⟩
theorem all_nil (w : World) : Calls Try.prog 15 #[.pointer none] w fun e w' => e = .returned (.slice none 0 0) ∧ w' = w := by
  go_enter Try.func15, Try.ntmps15
  go_wp2
  go_ret
  exact ⟨rfl, rfl⟩
theorem copy_nil (w : World) : Calls Try.prog 14 #[.pointer none] w fun e w' => e = .returned (.pointer none) ∧ w' = w := by
  go_enter Try.func14, Try.ntmps14
  go_wp2
  go_ret
  exact ⟨rfl, rfl⟩
theorem match_nil (w : World) : Calls Try.prog 13 #[.pointer none, .slice none 0 0] w fun e w' => e = .returned (.slice none 0 0) ∧ Below w.heap.size w w' := by
  have HF := hide (fits_nil none 0 0 (w.alloc (.cells #[.pointer none] 24)))
  have HB := hide (below_box w (.cells #[.pointer none] 24))
  refine (callsIn_wide (n := 3)).1 ?_
  refine callsIn_of_wp Try.func13 rfl trivial ?_ rfl
  simp only [Try.ntmps13, List.size_toArray, List.length_cons, List.length_nil, Nat.reduceAdd, Nat.reduceSub, Array.replicate_succ, Array.replicate_zero, List.push_toArray, List.append_toArray, List.nil_append, List.cons_append]
  gi_wp2
  refine ⟨trivial, ?_⟩
  refine (callsIn_wide.2 HF.out).mono ?_
  rintro e w' ⟨rfl, hw⟩
  have hw' := hw.symm
  subst hw'
  clear hw
  gi_wp2
  go_ret
  exact ⟨rfl, HB.out⟩

set_option maxHeartbeats 3200000 in
theorem none_any (w : World) : Calls Try.prog 4 #[] w fun e w' => e = .returned (.bool true) ∧ Below w.heap.size w w' := by
  have HB := hide (begun_any w)
  go_enter Try.func4, Try.ntmps4
  go_wp2_with fail
  refine Calls.mono HB.out ?_
  rintro e w1 ⟨rfl, hb1⟩
  have HW1 := hide hb1
  clear hb1 HB
  go_wp2_with (first
    | (go_at_call 9; refine Calls.mono (add_nil _) ?_; rintro e w' ⟨rfl, hw⟩; have hw' := hw.symm; subst hw'; clear hw)
    | (go_at_call 10; refine Calls.mono (rmv_nil _) ?_; rintro e w' ⟨rfl, hw⟩; have hw' := hw.symm; subst hw'; clear hw)
    | (go_at_call 11; refine Calls.mono (has_nil _) ?_; rintro e w' ⟨rfl, hw⟩; have hw' := hw.symm; subst hw'; clear hw)
    | (go_at_call 16; refine Calls.mono (len_nil _) ?_; rintro e w' ⟨rfl, hw⟩; have hw' := hw.symm; subst hw'; clear hw)
    | (go_at_call 15; refine Calls.mono (all_nil _) ?_; rintro e w' ⟨rfl, hw⟩; have hw' := hw.symm; subst hw'; clear hw)
    | (go_at_call 13; refine Calls.mono (match_nil _) ?_; rintro e w2 ⟨rfl, hb2⟩; have HW2 := hide (HW1.out.trans (hb2.mono HW1.out.size)); clear hb2)
    | (go_at_call 14; refine Calls.mono (copy_nil _) ?_; rintro e w' ⟨rfl, hw⟩; have hw' := hw.symm; subst hw'; clear hw))
  go_ret
  exact ⟨rfl, HW2.out⟩
end Go.Proofs.Ytfjcadkihnecdaa

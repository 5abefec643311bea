/- RelationMany at any two numbers. -/
import Derived.Test.YtfjcadkihnecdaaPart09
namespace Go.Proofs.Ytfjcadkihnecdaa
open Go.RowKit Go.Shelf

set_option maxRecDepth 20000 in
set_option maxHeartbeats 1600000 in
theorem many_out (n step : Int) (w : World) (hout : n < 1 ∨ 300 < n ∨ step < 1 ∨ 300 < step) :
    Calls Try.prog 5 #[.int .i64 n, .int .i64 step] w fun e w' => e = .returned (.bool true) ∧ Below w.heap.size w w' := by
  have HB := hide (begun_any w)
  have HO := hide hout
  have hor : ((n < 1 ∨ 300 < n) ∨ step < 1) ∨ 300 < step := by omega
  clear hout
  go_enter Try.func5, Try.ntmps5
  go_wp2_with fail
  refine Calls.mono HB.out ?_
  rintro e w1 ⟨rfl, hb1⟩
  have HW1 := hide hb1
  clear hb1 HB
  by_cases h1 : n < 1
  · go_wp2_with fail
    go_ret
    exact ⟨rfl, HW1.out⟩
  · by_cases h2 : 300 < n
    · go_wp2_with fail
      go_ret
      exact ⟨rfl, HW1.out⟩
    · by_cases h3 : step < 1
      · go_wp2_with fail
        go_ret
        exact ⟨rfl, HW1.out⟩
      · have h4 : 300 < step := by omega
        go_wp2_with fail
        go_ret
        exact ⟨rfl, HW1.out⟩

theorem many_law (n step : Int) (w : World) :
    Calls Try.prog 5 #[.int .i64 n, .int .i64 step] w fun e w' => e = .returned (.bool true) ∧ Below w.heap.size w w' := by
  by_cases h : n < 1 ∨ 300 < n ∨ step < 1 ∨ 300 < step
  · exact many_out n step w h
  · obtain ⟨N, rfl⟩ := Int.eq_ofNat_of_zero_le (show 0 ≤ n by omega)
    obtain ⟨S, rfl⟩ := Int.eq_ofNat_of_zero_le (show 0 ≤ step by omega)
    exact many_any N S w (by omega) (by omega) (by omega) (by omega)
end Go.Proofs.Ytfjcadkihnecdaa

/- The law's Cut and Short. -/
import Derived.Test.YtnbdkojdddplkaaDoorWlForge2
namespace Go.Proofs.YtnbdkojdddplkaaDoor.Wl
open Go.RowKit Dk

set_option maxHeartbeats 400000 in
theorem cutS_any (a : ByteArray) (w : World) (ha : a.size ≤ maxLen) :
    Calls Tryd.prog 21 #[.string a, .int .i64 12] w fun e w' => ∃ a', e = .returned (.string a') ∧ Hid (a'.size ≤ 12) ∧ w' = w := by
  unfold maxLen at ha
  by_cases h : 12 < a.size
  · have h' : (12 : Int) < (a.size : Int) := by omega
    go_enter Tryd.func21, Tryd.ntmps21
    go_wp2
    go_ret
    refine ⟨_, rfl, ?_, rfl⟩
    show _ ≤ _
    simp
    omega
  · have h' : ¬ (12 : Int) < (a.size : Int) := by omega
    go_enter Tryd.func21, Tryd.ntmps21
    go_wp2
    go_ret
    exact ⟨_, rfl, (by show _ ≤ _; omega), rfl⟩
set_option maxHeartbeats 400000 in
theorem short_any (v : Value) (bs : List UInt8) (w : World) (h : Sl w v bs) :
    Calls Tryd.prog 22 #[v, .int .i64 200] w fun e w' => ∃ ao L cap b, e = .returned (.slice ao L cap) ∧ Hid (Sl w (.slice ao L cap) b ∧ b.length ≤ 200) ∧ w' = w := by
  obtain ⟨ao, cap, rfl, h1, h2⟩ := h.shape
  have h2' : cap ≤ 9223372036854775807 := h2
  have HS : Hid (Sl w (.slice ao bs.length cap) bs) := h
  clear h
  by_cases hl : 200 < bs.length
  · have hl' : (200 : Int) < (bs.length : Int) := by omega
    have hc : (200 : Int) ≤ (cap : Int) := by omega
    go_enter Tryd.func22, Tryd.ntmps22
    go_wp2
    all_goals go_ret
    all_goals exact ⟨_, _, _, bs.take 200, rfl, ⟨HS.out.take 200 (by omega), by rw [List.length_take]; omega⟩, rfl⟩
  · have hl' : ¬ (200 : Int) < (bs.length : Int) := by omega
    go_enter Tryd.func22, Tryd.ntmps22
    go_wp2
    go_ret
    first | exact ⟨_, _, _, bs, rfl, ⟨HS.out, by omega⟩, rfl⟩ | exact ⟨_, _, _, rfl, ⟨bs, HS.out, by omega⟩, rfl⟩ | exact ⟨_, _, _, rfl, ⟨bs, HS.out, by omega⟩⟩
end Go.Proofs.YtnbdkojdddplkaaDoor.Wl

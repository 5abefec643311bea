/- What a name may be; rooms. -/
import Derived.Test.YtnbdkojdddplkaaDoorDkMem
import Derived.Test.YtnbdkojdddplkaaDoorRows
import Derived.WalkKit
import Derived.BigQuiet
namespace Go.Proofs.YtnbdkojdddplkaaDoor.Dk
open Go.RowKit

def okB (c : Int) : Bool := (decide (97 ≤ c) && decide (c ≤ 122)) || (decide (65 ≤ c) && decide (c ≤ 90)) || (decide (48 ≤ c) && decide (c ≤ 57)) || decide (c = 46)
def okN (a : ByteArray) : Bool := decide (1 ≤ a.size) && decide (a.size ≤ 16) && a.data.toList.all fun c => okB c.toNat
def roomN (n : Int) : Int := min (max n 0) 4194304

set_option maxHeartbeats 400000 in
theorem okB_any (c : Int) (w : World) (h0 : 0 ≤ c) (h1 : c ≤ 255) :
    Calls Tryd.prog 66 #[.int .u8 c] w fun e w' => e = .returned (.bool (okB c)) ∧ w' = w := by
  go_enter Tryd.func66, Tryd.ntmps66
  go_wp2
  all_goals (go_ret; refine ⟨congrArg (fun b => Ending.returned (Value.bool b)) ?_, rfl⟩; unfold okB; rw [Bool.eq_iff_iff]; simp; try omega)

set_option maxHeartbeats 400000 in
theorem room_any (n : Int) (w : World) :
    Calls Tryd.prog 27 #[.int .i64 n] w fun e w' => e = .returned (.int .i64 (roomN n)) ∧ w' = w := by
  go_enter Tryd.func27, Tryd.ntmps27
  go_wp2
  all_goals (go_ret; refine ⟨congrArg (fun b => Ending.returned (Value.int .i64 b)) ?_, rfl⟩; unfold roomN; try omega)

set_option maxHeartbeats 1000000 in
theorem name_any (a : ByteArray) (w : World) :
    Calls Tryd.prog 44 #[.string a] w fun e w' => e = .returned (.bool (okN a)) ∧ w' = w := by
  by_cases h1 : a.size < 1
  · have h1' : (a.size : Int) < 1 := by omega
    have e : okN a = false := by simp [okN]; omega
    rw [e]
    clear e
    go_enter Tryd.func44, Tryd.ntmps44
    go_wp2
    go_ret
    exact ⟨rfl, rfl⟩
  · by_cases h2 : 16 < a.size
    · have h1' : ¬ (a.size : Int) < 1 := by omega
      have h2' : 16 < (a.size : Int) := by omega
      have e : okN a = false := by simp [okN]; omega
      rw [e]
      clear e
      go_enter Tryd.func44, Tryd.ntmps44
      go_wp2
      go_ret
      exact ⟨rfl, rfl⟩
    · have h1' : ¬ (a.size : Int) < 1 := by omega
      have h2' : ¬ 16 < (a.size : Int) := by omega
      go_enter Tryd.func44, Tryd.ntmps44
      go_wp2
      go_loopw [14] (fun vi wr => ∃ k : Nat, k ≤ a.size ∧ vi = .int .i64 k ∧ Hid ((a.data.toList.take k).all (fun c => okB c.toNat) = true) ∧ wr = w) (fun vi _ => a.size - (intOf vi).toNat)
      case atStart => exact ⟨0, Nat.zero_le _, rfl, rfl, rfl⟩
      case round =>
        obtain ⟨k, hk, rfl, HA, hw⟩ := hrel
        have hw' := hw.symm
        subst hw'
        by_cases hlt : k < a.size
        · have hlt' : (k : Int) < (a.size : Int) := by omega
          have hk2 : k < a.data.toList.length := hlt
          have hak : a.data.toList[k]? = some a[k] := by rw [List.getElem?_eq_getElem hk2]; rfl
          have h0 : (0 : Int) ≤ (a[k].toNat : Int) := by omega
          have h255 : (a[k].toNat : Int) ≤ 255 := by have := a[k].toNat_lt; omega
          have HC : Hid (_) := okB_any (a[k].toNat : Int) w h0 h255
          have HT : Hid (a.data.toList.take (k + 1) = a.data.toList.take k ++ [a[k]]) := take_succ_snoc _ k _ hak
          cases hc : okB (a[k].toNat : Int) with
          | true =>
            rw [hc] at HC
            have HA' : Hid ((a.data.toList.take (k + 1)).all (fun c => okB c.toNat) = true) := by
              show _ = _
              rw [HT.out, List.all_append, HA.out]
              simp [hc]
            clear hc h0 h255
            go_wp2_with (go_at_call 66; refine Calls.mono HC.out ?_; rintro e w' ⟨rfl, hw⟩; have hw' := hw.symm; subst hw')
            go_roundw
            case rel => exact ⟨k + 1, by omega, by go_num, HA', trivial⟩
            case measure => simp [intOf]; omega
          | false =>
            rw [hc] at HC
            have HF : Hid (okN a = false) := by
              show _ = _
              have : a.data.toList.all (fun c => okB c.toNat) = false := by
                rw [List.all_eq_false]
                exact ⟨a[k], List.mem_of_getElem? hak, by simp [hc]⟩
              unfold okN
              rw [this, Bool.and_false]
            clear hc h0 h255
            go_wp2_with (go_at_call 66; refine Calls.mono HC.out ?_; rintro e w' ⟨rfl, hw⟩; have hw' := hw.symm; subst hw')
            go_ret
            exact ⟨by rw [HF.out]; rfl, rfl⟩
        · have e : k = a.size := by omega
          subst e
          have hlt' : ¬ (a.size : Int) < (a.size : Int) := by omega
          have HF : Hid (okN a = true) := by
            show _ = _
            have h := HA.out
            rw [List.take_of_length_le (by show a.data.toList.length ≤ _; exact Nat.le_refl _)] at h
            unfold okN
            rw [h]
            simp
            omega
          go_wp2
          go_ret
          exact ⟨by rw [HF.out]; rfl, rfl⟩
end Go.Proofs.YtnbdkojdddplkaaDoor.Dk

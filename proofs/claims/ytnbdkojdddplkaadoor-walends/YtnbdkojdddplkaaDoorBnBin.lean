/- The walks of package bin: small functions, OK, Left, fail: what each call answers and what it leaves in memory. -/
import Derived.Test.YtnbdkojdddplkaaDoorRows
import Derived.Test.YtnbdkojdddplkaaDoorBnMem
import Derived.WalkSpells
import Derived.WalkLawsBesides
namespace Go.Proofs.YtnbdkojdddplkaaDoor.Bn
open Go.RowKit

set_option maxHeartbeats 400000 in
theorem fold_any (n : Int) (w : World) (h0 : -9223372036854775808 ≤ n) (h1 : n ≤ 9223372036854775807) :
    Calls Tryd.prog 74 #[.int .i64 n] w fun e w' => e = .returned (.int .u64 (zig n)) ∧ w' = w := by
  by_cases h : n < 0
  · have hz : ((zig n : Nat) : Int) = (-1 - n) * 2 + 1 := by unfold zig; rw [if_pos h]; omega
    rw [hz]
    clear hz
    go_enter Tryd.func74, Tryd.ntmps74
    go_wp2
    go_ret
    exact ⟨rfl, rfl⟩
  · have hz : ((zig n : Nat) : Int) = n * 2 := by unfold zig; rw [if_neg h]; omega
    rw [hz]
    clear hz
    have h' : 0 ≤ n := by omega
    go_enter Tryd.func74, Tryd.ntmps74
    go_wp2
    go_ret
    exact ⟨rfl, rfl⟩

set_option maxHeartbeats 400000 in
theorem unfold_any (u : Nat) (w : World) (h1 : (u : Int) < 18446744073709551616) :
    Calls Tryd.prog 86 #[.int .u64 u] w fun e w' => e = .returned (.int .i64 (zag u)) ∧ w' = w := by
  have h0 : 0 ≤ (u : Int) := by omega
  by_cases h : u % 2 = 1
  · have hz : zag u = -1 - (u : Int) / 2 := by unfold zag; rw [if_pos h]; omega
    rw [hz]
    have hb : ((u : Int) % 2 == 1) = true := by rw [beq_iff_eq]; omega
    clear hz h
    go_enter Tryd.func86, Tryd.ntmps86
    go_wp2
    go_ret
    exact ⟨rfl, rfl⟩
  · have hz : zag u = (u : Int) / 2 := by unfold zag; rw [if_neg h]; omega
    rw [hz]
    have hb : ((u : Int) % 2 == 1) = false := by rw [beq_eq_false_iff_ne]; omega
    clear hz h
    go_enter Tryd.func86, Tryd.ntmps86
    go_wp2
    go_ret
    exact ⟨rfl, rfl⟩

set_option maxHeartbeats 400000 in
theorem fail_any (B : Nat) (st : Option (List UInt8)) (w : World) (h : Rd w 127 B st) :
    Calls Tryd.prog 85 #[.pointer (some ⟨B, 0, none⟩)] w fun e w' => e = .returned (.tuple #[]) ∧ Rd w' 127 B none ∧ w.grownBy w' (some B) := by
  obtain ⟨v, hB, hv, _⟩ := h
  obtain ⟨c0, c1, f0, f1⟩ := two_cells hB
  have hfin : Rd ((w.setCell ⟨B, 0, none⟩ (.slice none 0 0)).setCell ⟨B, 1, none⟩ (.bool true)) 127 B none ∧ w.grownBy ((w.setCell ⟨B, 0, none⟩ (.slice none 0 0)).setCell ⟨B, 1, none⟩ (.bool true)) (some B) :=
    ⟨⟨_, set_second (set_first hB), Sl.nil _, Or.inl rfl, by simp⟩, grown_set (grown_set (grown_refl _ _))⟩
  clear hB hv
  go_enter Tryd.func85, Tryd.ntmps85
  go_wp2
  go_end0
  exact ⟨rfl, hfin⟩

set_option maxHeartbeats 400000 in
theorem ok_any (B : Nat) (st : Option (List UInt8)) (w : World) (h : Rd w 127 B st) :
    Calls Tryd.prog 72 #[.pointer (some ⟨B, 0, none⟩)] w fun e w' => e = .returned (.bool st.isSome) ∧ w' = w := by
  obtain ⟨v, hB, hv, _⟩ := h
  obtain ⟨c0, c1, f0, f1⟩ := two_cells hB
  clear hB hv
  go_enter Tryd.func72, Tryd.ntmps72
  go_wp2
  go_ret
  exact ⟨by simp, rfl⟩

set_option maxHeartbeats 400000 in
theorem ok_nil (w : World) :
    Calls Tryd.prog 72 #[.pointer none] w fun e w' => e = .returned (.bool false) ∧ w' = w := by
  go_enter Tryd.func72, Tryd.ntmps72
  go_wp2
  go_ret
  exact ⟨rfl, rfl⟩

set_option maxHeartbeats 400000 in
theorem left_any (B : Nat) (st : Option (List UInt8)) (w : World) (h : Rd w 127 B st) :
    Calls Tryd.prog 73 #[.pointer (some ⟨B, 0, none⟩)] w fun e w' => e = .returned (.int .i64 (st.getD []).length) ∧ w' = w := by
  obtain ⟨v, hB, hv, _⟩ := h
  obtain ⟨ao, cap, rfl, _⟩ := hv.shape
  obtain ⟨c0, c1, f0, f1⟩ := two_cells hB
  clear hB hv
  go_enter Tryd.func73, Tryd.ntmps73
  go_wp2
  go_ret
  exact ⟨rfl, rfl⟩

set_option maxHeartbeats 400000 in
theorem left_nil (w : World) :
    Calls Tryd.prog 73 #[.pointer none] w fun e w' => e = .returned (.int .i64 0) ∧ w' = w := by
  go_enter Tryd.func73, Tryd.ntmps73
  go_wp2
  go_ret
  exact ⟨rfl, rfl⟩

end Go.Proofs.YtnbdkojdddplkaaDoor.Bn

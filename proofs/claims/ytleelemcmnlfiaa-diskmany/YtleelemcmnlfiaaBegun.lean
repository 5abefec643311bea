/- The walks of begun and of the law DiskNone. -/
import Derived.Test.YtleelemcmnlfiaaCallsB
import Derived.Test.YtleelemcmnlfiaaNamesOf
import Derived.Test.YtleelemcmnlfiaaCrash2
import Derived.Lib.SlBytesConst
namespace Go.Proofs.Ytleelemcmnlfiaa
open Go.RowKit

def nmA : ByteArray := ⟨#[97]⟩
def nmB : ByteArray := ⟨#[98]⟩
def sA : St := ⟨100, [], [.app nmA [120, 121, 122]]⟩
theorem sA_now : sA.now = [⟨nmA, [120, 121, 122]⟩] := rfl
theorem sA_left : leftOf sA ((0 : Nat) : Int) 2 = [⟨nmA, [120, 121]⟩] := by first | rfl | simp [leftOf, sA, torn, ap, look, del, ins, run]
theorem look_A : look nmA (⟨100, [⟨nmA, [120, 121]⟩], []⟩ : St).now = some ⟨nmA, [120, 121]⟩ := by first | rfl | simp [St.now, look, run]
theorem look_B : look nmB sA.now = none := by first | rfl | decide +kernel | simp [St.now, look, run, sA]

set_option maxHeartbeats 2000000 in
set_option maxRecDepth 20000 in
theorem begun_any (w : World) : Calls Try.prog 8 #[] w fun e w' => e = .returned (.bool true) ∧ Below w.heap.size w w' := by
  have HN : Hid (_) := new_any 100 w
  go_enter Try.func8, Try.ntmps8
  go_wp2_with fail
  refine Calls.mono HN.out ?_
  rintro e w1 ⟨rfl, hD1, hb1⟩
  have hcv := Lib.run_convert_bytes_const (P := Try.prog) w1 32 5 #[.int .u8 120, .int .u8 121, .int .u8 122] 3 3 Try.underlying32 Try.underlying5
  have hba : Below w1.heap.size w1 (w1.alloc (.cells #[.int .u8 120, .int .u8 121, .int .u8 122] 5 (3, 4))) := (Below.refl _ _).alloc (Nat.le_refl _) _
  have hSa : Sl (w1.alloc (.cells #[.int .u8 120, .int .u8 121, .int .u8 122] 5 (3, 4))) _ [120, 121, 122] := sl_new w1 #[.int .u8 120, .int .u8 121, .int .u8 122] [120, 121, 122] 5 (3, 4) rfl (by decide)
  have hDa := hD1.below hba
  have HA : Hid (Calls Try.prog 13 #[.pointer (some ⟨w.heap.size, 0, none⟩), .string nmA, .slice (some ⟨w1.heap.size, 0, none⟩) 3 3] (w1.alloc (.cells #[.int .u8 120, .int .u8 121, .int .u8 122] 5 (3, 4))) fun e w2 => e = .returned (.int .i64 0) ∧ (∃ F2, Hid (Dk w2 w.heap.size sA F2)) ∧ Hid (Below w.heap.size w w2)) := by
    refine (append_ok w.heap.size ⟨roomN 100, [], []⟩ _ nmA _ [120, 121, 122] _ hDa hSa (by decide +kernel) (by decide +kernel) (Or.inr (by decide)) (by decide)).mono ?_
    rintro e w2 ⟨rfl, k1, k2⟩
    refine ⟨rfl, ⟨_, k1⟩, ?_⟩
    have hbb : Below w.heap.size w (w1.alloc (.cells #[.int .u8 120, .int .u8 121, .int .u8 122] 5 (3, 4))) := hb1.trans (hba.mono hb1.size)
    refine hbb.trans (k2.below (fun k hk => ?_) hbb.size)
    rcases hk with hk | hk
    · exact hk.elim
    · exact hk.1
  have HB : Hid (_) := hb1
  clear hD1 hDa hSa hba hb1
  simp only [nmA] at HA
  go_wp2_with fail
  clear hcv
  refine Calls.mono HA.out ?_
  rintro e w2 ⟨rfl, ⟨F2, HD2⟩, HB2⟩
  clear HA
  have HC : Hid (_) := crash_nat w.heap.size sA _ 0 2 w2 HD2.out (by decide)
  rw [sA_left] at HC
  go_wp2_with fail
  refine Calls.mono HC.out ?_
  rintro e w3 ⟨q, rfl, hq, hD3, hb3⟩
  have HB3 : Hid (Below w.heap.size w w3) := HB2.out.trans (hb3.mono HB2.out.size)
  have HD3 : Hid (_) := hD3
  have HP3 : Hid (Dk w3 w.heap.size sA F2) := Dk.below HD2.out hb3
  have HR : Hid (_) := read_hit q _ _ nmA ⟨nmA, [120, 121]⟩ w3 hD3 look_A (by decide)
  simp only [nmA] at HR
  clear HC hD3 hb3 hq
  go_wp2_with fail
  refine Calls.mono HR.out ?_
  rintro e w4 ⟨v4, rfl, hO4, hb4⟩
  have hst := str_of_sl (P := Try.prog) (Sl.of_own (bs := [120, 121]) hO4) 32 5 9 Try.underlying32 Try.underlying5 Try.underlying9
  obtain ⟨ao4, L4, cap4, rfl⟩ := own_slice hO4
  have HB4 : Hid (Below w.heap.size w w4) := HB3.out.trans (hb4.mono HB3.out.size)
  have HP4 : Hid (Dk w4 w.heap.size sA F2) := Dk.below HP3.out hb4
  have HU : Hid (_) := used_any w.heap.size sA _ w4 HP4.out (by decide)
  clear HR hO4 hb4
  go_wp2_with fail
  refine Calls.mono HU.out ?_
  rintro e w5 ⟨rfl, hb5⟩
  have HB5 : Hid (Below w.heap.size w w5) := HB4.out.trans (hb5.mono HB4.out.size)
  have HP5 : Hid (Dk w5 w.heap.size sA F2) := Dk.below HP4.out hb5
  have hu3 : ((used sA.now : Nat) : Int) = 3 := rfl
  rw [hu3]
  have HW : Hid (_) := waiting_any w.heap.size sA _ w5 HP5.out
  clear HU hb5 hu3
  go_wp2_with fail
  refine Calls.mono HW.out ?_
  rintro e w6 ⟨rfl, hw⟩
  have hw' := hw.symm
  subst hw'
  have hw1 : ((sA.wait.length : Nat) : Int) = 1 := rfl
  rw [hw1]
  have HM : Hid (_) := remove_none w.heap.size sA _ nmB w5 HP5.out look_B (by decide)
  simp only [nmB] at HM
  clear HW hw hw1
  go_wp2_with fail
  refine Calls.mono HM.out ?_
  rintro e w7 ⟨rfl, hb7⟩
  have HB7 : Hid (Below w.heap.size w w7) := HB5.out.trans (hb7.mono HB5.out.size)
  have HP7 : Hid (Dk w7 w.heap.size sA F2) := Dk.below HP5.out hb7
  have HL : Hid (_) := names_any w.heap.size sA _ w7 HP7.out (by decide)
  clear HM hb7
  go_wp2_with fail
  refine Calls.mono HL.out ?_
  rintro e w8 ⟨v8, rfl, hO8, hb8⟩
  have HB8 : Hid (Below w.heap.size w w8) := HB7.out.trans (hb8.mono HB7.out.size)
  rcases own_shape hO8 with ⟨_, h0⟩ | ⟨g8, cap8, rfl, _⟩
  · exact absurd h0 (by decide)
  have hl1 : sA.now.length = 1 := rfl
  rw [hl1]
  clear HL hO8 hb8 hl1
  go_wp2
  go_ret
  exact ⟨rfl, HB8.out⟩

set_option maxHeartbeats 400000 in
theorem none17 (w : World) : Calls Try.prog 17 #[.pointer none] w fun e w' => e = .returned (.tuple #[]) ∧ w' = w := by
  go_enter Try.func17, Try.ntmps17
  go_wp2
  exact bodyPost_ret (results_none rfl _ _ _) rfl ⟨rfl, rfl⟩
set_option maxHeartbeats 400000 in
theorem none19 (w : World) : Calls Try.prog 19 #[.pointer none, .int .i64 5] w fun e w' => e = .returned (.tuple #[]) ∧ w' = w := by
  go_enter Try.func19, Try.ntmps19
  go_wp2
  exact bodyPost_ret (results_none rfl _ _ _) rfl ⟨rfl, rfl⟩
set_option maxHeartbeats 400000 in
theorem none24 (w : World) : Calls Try.prog 24 #[.pointer none, .string ⟨#[97]⟩] w fun e w' => e = .returned (.tuple #[.slice none 0 0, .bool false]) ∧ w' = w := by
  go_enter Try.func24, Try.ntmps24
  go_wp2
  go_ret2
  exact ⟨rfl, rfl⟩
set_option maxHeartbeats 400000 in
theorem none13 (w : World) : Calls Try.prog 13 #[.pointer none, .string ⟨#[97]⟩, .slice none 0 0] w fun e w' => e = .returned (.int .i64 1) ∧ w' = w := by
  go_enter Try.func13, Try.ntmps13
  go_wp2
  go_ret
  exact ⟨rfl, rfl⟩
set_option maxHeartbeats 400000 in
theorem none14 (w : World) : Calls Try.prog 14 #[.pointer none, .string ⟨#[97]⟩, .int .i64 0] w fun e w' => e = .returned (.int .i64 1) ∧ w' = w := by
  go_enter Try.func14, Try.ntmps14
  go_wp2
  go_ret
  exact ⟨rfl, rfl⟩
set_option maxHeartbeats 400000 in
theorem none15 (w : World) : Calls Try.prog 15 #[.pointer none, .string ⟨#[97]⟩] w fun e w' => e = .returned (.int .i64 1) ∧ w' = w := by
  go_enter Try.func15, Try.ntmps15
  go_wp2
  go_ret
  exact ⟨rfl, rfl⟩
set_option maxHeartbeats 400000 in
theorem none16 (w : World) : Calls Try.prog 16 #[.pointer none, .string ⟨#[97]⟩, .string ⟨#[98]⟩] w fun e w' => e = .returned (.int .i64 1) ∧ w' = w := by
  go_enter Try.func16, Try.ntmps16
  go_wp2
  go_ret
  exact ⟨rfl, rfl⟩
set_option maxHeartbeats 400000 in
theorem none26 (w : World) : Calls Try.prog 26 #[.pointer none] w fun e w' => e = .returned (.slice none 0 0) ∧ w' = w := by
  go_enter Try.func26, Try.ntmps26
  go_wp2
  go_ret
  exact ⟨rfl, rfl⟩
set_option maxHeartbeats 400000 in
theorem none27 (w : World) : Calls Try.prog 27 #[.pointer none] w fun e w' => e = .returned (.int .i64 0) ∧ w' = w := by
  go_enter Try.func27, Try.ntmps27
  go_wp2
  go_ret
  exact ⟨rfl, rfl⟩
set_option maxHeartbeats 400000 in
theorem none28 (w : World) : Calls Try.prog 28 #[.pointer none] w fun e w' => e = .returned (.int .i64 0) ∧ w' = w := by
  go_enter Try.func28, Try.ntmps28
  go_wp2
  go_ret
  exact ⟨rfl, rfl⟩
set_option maxHeartbeats 400000 in
theorem none20 (w : World) : Calls Try.prog 20 #[.pointer none, .int .i64 0, .int .i64 0] w fun e w' => e = .returned (.pointer none) ∧ w' = w := by
  go_enter Try.func20, Try.ntmps20
  go_wp2
  go_ret
  exact ⟨rfl, rfl⟩

set_option maxHeartbeats 2000000 in
set_option maxRecDepth 20000 in
theorem diskNone_any (w : World) : Calls Try.prog 5 #[] w fun e w' => e = .returned (.bool true) ∧ Below w.heap.size w w' := by
  have HB : Hid (_) := begun_any w
  go_enter Try.func5, Try.ntmps5
  go_wp2_with (first
    | (go_at_call 8; refine Calls.mono HB.out ?_; rintro e w1 ⟨rfl, hb1⟩)
    | (go_at_call 17; refine (none17 _).mono ?_; rintro e w' ⟨rfl, hw⟩; have hw' := hw.symm; subst hw'; clear hw)
    | (go_at_call 19; refine (none19 _).mono ?_; rintro e w' ⟨rfl, hw⟩; have hw' := hw.symm; subst hw'; clear hw)
    | (go_at_call 24; refine (none24 _).mono ?_; rintro e w' ⟨rfl, hw⟩; have hw' := hw.symm; subst hw'; clear hw)
    | (go_at_call 13; refine (none13 _).mono ?_; rintro e w' ⟨rfl, hw⟩; have hw' := hw.symm; subst hw'; clear hw)
    | (go_at_call 14; refine (none14 _).mono ?_; rintro e w' ⟨rfl, hw⟩; have hw' := hw.symm; subst hw'; clear hw)
    | (go_at_call 15; refine (none15 _).mono ?_; rintro e w' ⟨rfl, hw⟩; have hw' := hw.symm; subst hw'; clear hw)
    | (go_at_call 16; refine (none16 _).mono ?_; rintro e w' ⟨rfl, hw⟩; have hw' := hw.symm; subst hw'; clear hw)
    | (go_at_call 26; refine (none26 _).mono ?_; rintro e w' ⟨rfl, hw⟩; have hw' := hw.symm; subst hw'; clear hw)
    | (go_at_call 27; refine (none27 _).mono ?_; rintro e w' ⟨rfl, hw⟩; have hw' := hw.symm; subst hw'; clear hw)
    | (go_at_call 28; refine (none28 _).mono ?_; rintro e w' ⟨rfl, hw⟩; have hw' := hw.symm; subst hw'; clear hw)
    | (go_at_call 20; refine (none20 _).mono ?_; rintro e w' ⟨rfl, hw⟩; have hw' := hw.symm; subst hw'; clear hw))
  go_ret
  exact ⟨rfl, hb1⟩
end Go.Proofs.Ytleelemcmnlfiaa

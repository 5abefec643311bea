/- The walks of a disk's Append that is refused. -/
import Derived.Test.YtnbdkojdddplkaaDoorDkCallsB
namespace Go.Proofs.YtnbdkojdddplkaaDoor.Dk
open Go.RowKit

set_option maxHeartbeats 1000000 in
theorem append_form (p : Nat) (n : ByteArray) (ao : Option Addr) (L cap : Nat) (w : World) (hn : okN n = false) :
    Calls Tryd.prog 20 #[.pointer (some ⟨p, 0, none⟩), .string n, .slice ao L cap] w fun e w' => e = .returned (.int .i64 3) ∧ w' = w := by
  have HN : Hid (_) := name_any n w
  rw [hn] at HN
  clear hn
  go_enter Tryd.func20, Tryd.ntmps20
  go_wp2_with (go_at_call 44; refine Calls.mono HN.out ?_; rintro e w' ⟨rfl, hw⟩; have hw' := hw.symm; subst hw')
  go_ret
  exact ⟨rfl, rfl⟩

set_option maxHeartbeats 1000000 in
set_option maxRecDepth 20000 in
theorem append_room (p : Nat) (s : St) (F : Nat → Prop) (n : ByteArray) (ao0 : Option Addr) (L cap0 : Nat) (w : World) (h : Dk w p s F) (hn : okN n = true) (hr : s.room < (used s.now : Int) + L) (hL : L ≤ 1000000000) (hm : s.mass ≤ 1000000000) :
    Calls Tryd.prog 20 #[.pointer (some ⟨p, 0, none⟩), .string n, .slice ao0 L cap0] w fun e w' => e = .returned (.int .i64 2) ∧ Below w.heap.size w w' := by
  obtain ⟨ao, N, cap, c2, hN, hhas, hsize⟩ := h.has hm
  have c0 := h.cell0
  have HN : Hid (_) := name_any n w
  rw [hn] at HN
  have HZ : Hid (_) := hsize
  have hr0 := h.good.r0
  have hr1 := h.good.r1
  have hum := used_mass s.now
  have hnm := St.now_mass h.good
  obtain ⟨U, HU⟩ : ∃ U : Nat, Hid (U = used s.now) := ⟨used s.now, (rfl : _ = _)⟩
  rw [← HU.out] at HZ hr hum
  obtain ⟨R, HR⟩ : ∃ R : Int, Hid (R = s.room) := ⟨s.room, (rfl : _ = _)⟩
  rw [← HR.out] at c0 hr hr0 hr1
  have hW : IntKind.i64.wrap (R - (U : Int)) = R - (U : Int) := by rw [IntKind.wrap_i64]; omega
  have hcmp : R - (U : Int) < (L : Int) := by omega
  clear h hn hhas hsize hN hm hr hum hnm hL hr0 hr1
  go_enter Tryd.func20, Tryd.ntmps20
  go_wp2_with (go_at_call 44; refine Calls.mono HN.out ?_; rintro e w' ⟨rfl, hw⟩; have hw' := hw.symm; subst hw')
  go_region_held (fun w' => w'.cell? ⟨p, 0, none⟩ = some (.int .i64 R) ∧ w'.cell? ⟨p, 2, none⟩ = some (.slice ao N cap))
    (first | exact ⟨c0, c2⟩ | exact ⟨c01, c21⟩)
    (first | (go_at_call 45; refine (HZ.out w.drew (Below.refl _ _).drew).mono ?_; rintro e w1 ⟨rfl, hb1⟩; have hb1' : Below w.heap.size w w1 := (Below.refl _ w).drew.trans hb1; have c01 := below_cell hb1' c0; have c21 := below_cell hb1' c2; have HB1 : Hid (Below w.heap.size w w1) := hb1'; clear hb1 hb1'))
  clear hW
  go_wp2
  go_ret
  exact ⟨rfl, HB1.out⟩

set_option maxHeartbeats 1000000 in
set_option maxRecDepth 20000 in
theorem append_many (p : Nat) (s : St) (F : Nat → Prop) (n : ByteArray) (ao0 : Option Addr) (L cap0 : Nat) (w : World) (h : Dk w p s F) (hn : okN n = true) (hr : (used s.now : Int) + L ≤ s.room) (hl : look n s.now = none) (h64 : 64 ≤ s.now.length) (hm : s.mass ≤ 1000000000) :
    Calls Tryd.prog 20 #[.pointer (some ⟨p, 0, none⟩), .string n, .slice ao0 L cap0] w fun e w' => e = .returned (.int .i64 2) ∧ Below w.heap.size w w' := by
  obtain ⟨ao, N, cap, c2, hN, hhas, hsize⟩ := h.has hm
  have c0 := h.cell0
  have HN : Hid (_) := name_any n w
  rw [hn] at HN
  have HH : Hid (_) := hhas n
  rw [hl] at HH
  simp only [Option.isSome_none] at HH
  have HZ : Hid (_) := hsize
  have hr0 := h.good.r0
  have hr1 := h.good.r1
  have hum := used_mass s.now
  have hnm := St.now_mass h.good
  obtain ⟨U, HU⟩ : ∃ U : Nat, Hid (U = used s.now) := ⟨used s.now, (rfl : _ = _)⟩
  rw [← HU.out] at HZ hr hum
  obtain ⟨R, HR⟩ : ∃ R : Int, Hid (R = s.room) := ⟨s.room, (rfl : _ = _)⟩
  rw [← HR.out] at c0 hr hr0 hr1
  have hW : IntKind.i64.wrap (R - (U : Int)) = R - (U : Int) := by rw [IntKind.wrap_i64]; omega
  have hcmp : ¬ (R - (U : Int) < (L : Int)) := by omega
  have hN64 : (64 : Int) ≤ (N : Int) := by rw [hN]; omega
  clear h hn hhas hsize hN hm hr hum hnm hl h64 hr0 hr1
  go_enter Tryd.func20, Tryd.ntmps20
  go_wp2_with (go_at_call 44; refine Calls.mono HN.out ?_; rintro e w' ⟨rfl, hw⟩; have hw' := hw.symm; subst hw')
  go_region_held (fun w' => w'.cell? ⟨p, 0, none⟩ = some (.int .i64 R) ∧ w'.cell? ⟨p, 2, none⟩ = some (.slice ao N cap))
    (first | exact ⟨c0, c2⟩ | exact ⟨c01, c21⟩)
    (first | (go_at_call 45; refine (HZ.out w.drew (Below.refl _ _).drew).mono ?_; rintro e w1 ⟨rfl, hb1⟩; have hb1' : Below w.heap.size w w1 := (Below.refl _ w).drew.trans hb1; have c01 := below_cell hb1' c0; have c21 := below_cell hb1' c2; have HB1 : Hid (Below w.heap.size w w1) := hb1'; clear hb1 hb1'))
  clear hW
  go_wp2_with (go_at_call 46; refine (HH.out w1 HB1.out).mono ?_; rintro e w2 ⟨rfl, hb2'⟩; have hb3 := HB1.out.trans (hb2'.mono HB1.out.size); have c22 := below_cell hb2' c21)
  go_ret
  exact ⟨rfl, hb3⟩
end Go.Proofs.YtnbdkojdddplkaaDoor.Dk

/- The walk of Get; First and Last of an open log. -/
import Derived.Test.YtnbdkojdddplkaaDoorWlApp
import Derived.Deep.RegionHeld
namespace Go.Proofs.YtnbdkojdddplkaaDoor.Wl
open Go.RowKit Dk

/-- The last number. -/
def lastL (first : Int) (ds : List (List UInt8)) : Int := if ds.length = 0 then 0 else first + ds.length - 1
theorem LW.first {w : World} {B p pd : Nat} {s : St} {F : Nat → Prop} {first : Int} {ds : List (List UInt8)} (h : LW w B p pd s F first ds) :
    Calls Tryd.prog 26 #[.pointer (some ⟨p, 0, none⟩)] w fun e w' => e = .returned (.int .i64 first) ∧ w' = w := by
  obtain ⟨_, ⟨vr, rs, G, h1, rfl, _⟩, _, _⟩ := h
  exact first_any p pd first vr rs G w h1
theorem LW.last {w : World} {B p pd : Nat} {s : St} {F : Nat → Prop} {first : Int} {ds : List (List UInt8)} (h : LW w B p pd s F first ds) :
    Calls Tryd.prog 24 #[.pointer (some ⟨p, 0, none⟩)] w fun e w' => e = .returned (.int .i64 (lastL first ds)) ∧ ∃ m, w' = w.drewN m := by
  obtain ⟨_, ⟨vr, rs, G, h1, rfl, _⟩, _, _⟩ := h
  have := last_any p pd first vr rs G w h1
  unfold lastN at this
  unfold lastL
  rw [List.length_map]
  exact this

set_option maxHeartbeats 2000000 in
set_option maxRecDepth 20000 in
theorem get_hit (B p pd : Nat) (s : St) (F : Nat → Prop) (first : Int) (ds : List (List UInt8)) (i : Nat) (w : World) (h : LW w B p pd s F first ds) (hi : i < ds.length) (h1 : 1 ≤ first) (hl : ds.length ≤ 1000000000) (hfi : first + ds.length ≤ 9223372036854775807) (hb : ds[i].length ≤ 1000000000) :
    Calls Tryd.prog 25 #[.pointer (some ⟨p, 0, none⟩), .int .i64 (first + i)] w fun e w' => ∃ v', e = .returned (.tuple #[v', .bool true]) ∧ w'.ownsRow w.heap.size 5 1 v' ds[i].length (cells8 ds[i]) ∧ Below w.heap.size w w' := by
  have HF : Hid (_) := h.first
  have HL : Hid (_) := h.last
  obtain ⟨_, ⟨vr, rs, G, hL, rfl, _⟩, _, _⟩ := h
  have hi' : i < rs.length := by simpa using hi
  have hlast : lastL first (rs.map Re.data) = first + rs.length - 1 := by unfold lastL; rw [if_neg (by omega), List.length_map]
  rw [hlast] at HL
  obtain ⟨X, HX⟩ : ∃ X, Hid (X = (rs.map Re.data)[i]) := ⟨(rs.map Re.data)[i], (rfl : _ = (rs.map Re.data)[i])⟩
  rw [← HX.out] at hb ⊢
  have hXd : rs[i].data = X := by rw [HX.out]; simp
  rw [List.length_map] at hl hfi
  obtain ⟨c0, c1, c2, _⟩ := hL.cells
  obtain ⟨ao, cap, rfl, hao⟩ := hL.shape
  obtain ⟨g, rfl⟩ := hao (by omega)
  have cd := (hL.cell i hi').1
  have hS := (hL.data rs[i] (List.getElem_mem hi')).sl
  rw [hXd] at hS
  obtain ⟨aod, capd, hdv, _, _⟩ := hS.shape
  rw [hdv] at cd hS
  obtain ⟨XL, HXL⟩ : ∃ XL, Hid (XL = X.length) := ⟨_, (rfl : _ = _)⟩
  have HC : Hid (∀ w1, Below w.heap.size w w1 → Calls Tryd.prog 34 #[.slice aod XL capd] w1 fun e w' => ∃ ao' L' cap', e = .returned (.slice ao' L' cap') ∧ Hid (w'.ownsRow w.heap.size 5 1 (.slice ao' L' cap') X.length (cells8 X) ∧ Below w.heap.size w w')) := by
    intro w1 hb1
    rw [HXL.out]
    refine (clone_any _ X w1 (hS.below hb1) (by omega)).mono ?_
    rintro e w' ⟨v', rfl, hO, hb'⟩
    obtain ⟨ao', L', cap', rfl⟩ := own_slice hO
    exact ⟨ao', L', cap', rfl, own_base hO (fun k hk => by have := (hO.lt k hk).1; have := hb1.size; omega), hb1.trans (hb'.mono hb1.size)⟩
  rw [← HXL.out] at cd
  have HC' : Hid (∀ m, Calls Tryd.prog 34 #[.slice aod XL capd] (w.drewN m).drew fun e w' => ∃ ao' L' cap', e = .returned (.slice ao' L' cap') ∧ Hid (w'.cell? ⟨p, 1, none⟩ = some (.int .i64 first) ∧ w'.cell? ⟨p, 2, none⟩ = some (.slice (some ⟨g, 0, none⟩) rs.length cap) ∧ w'.cell? ⟨g, i * 2, none⟩ = some (.slice aod XL capd)) ∧ Hid (w'.ownsRow w.heap.size 5 1 (.slice ao' L' cap') X.length (cells8 X) ∧ Below w.heap.size w w')) := fun m => by
    refine (HC.out (w.drewN m).drew ⟨rfl, rfl, rfl, Nat.le_refl _, fun _ _ => rfl⟩).mono ?_
    rintro e w' ⟨ao', L', cap', rfl, hX⟩
    have hbw := hX.out.2
    exact ⟨ao', L', cap', rfl, ⟨below_cell hbw c1, below_cell hbw c2, below_cell hbw cd⟩, hX⟩
  obtain ⟨N, HN⟩ : ∃ N, Hid (N = rs.length) := ⟨_, (rfl : _ = _)⟩
  rw [← HN.out] at c2 HL hi' hl hfi HC'
  have hlt : (i : Int) < (N : Int) := by omega
  have n1 : ¬ first + (i : Int) < 1 := by omega
  have n2 : ¬ first + (i : Int) < first := by omega
  have n3 : ¬ first + (N : Int) - 1 < first + (i : Int) := by omega
  have hsub : IntKind.i64.wrap (first + (i : Int) - first) = (i : Int) := by rw [IntKind.wrap_i64]; omega
  have HD : Hid (∀ m, (w.drewN m).drew.cell? ⟨p, 1, none⟩ = some (.int .i64 first) ∧ (w.drewN m).drew.cell? ⟨p, 2, none⟩ = some (.slice (some ⟨g, 0, none⟩) N cap) ∧ (w.drewN m).drew.cell? ⟨g, i * 2, none⟩ = some (.slice aod XL capd)) := fun m => ⟨c1, c2, cd⟩
  clear hL hS hao hXd hlast hdv HC HX hl hfi hb h1 c0 c1 c2 cd
  clear hi
  go_enter Tryd.func25, Tryd.ntmps25
  go_wp2_with (first
    | (go_at_call 26; refine Calls.mono HF.out ?_; rintro e w' ⟨rfl, hw⟩; have hw' := hw.symm; subst hw')
    | (go_at_call 24; refine Calls.mono HL.out ?_; rintro e w' ⟨rfl, m, rfl⟩; have HCm : Hid (_) := HC'.out m; have HDm : Hid (_) := HD.out m; clear HC' HD))
  go_region_held (fun u => u.cell? ⟨p, 1, none⟩ = some (.int .i64 first) ∧ u.cell? ⟨p, 2, none⟩ = some (.slice (some ⟨g, 0, none⟩) N cap) ∧ u.cell? ⟨g, i * 2, none⟩ = some (.slice aod XL capd))
    (first | exact HDm.out | exact HD5.out)
    (first | (go_at_call 34; refine Calls.mono HCm.out ?_; rintro e w5 ⟨ao5, L5, cap5, rfl, HD5, HX5⟩))
  all_goals go_wp2
  all_goals go_ret2
  all_goals exact ⟨_, rfl, HX5.out⟩
end Go.Proofs.YtnbdkojdddplkaaDoor.Wl

/- The walk of the law FrameSeal. -/
import Derived.Test.YtoekpfopmgcbnaaDoorRef
import Derived.Deep.RegionHeld
namespace Go.Proofs.YtoekpfopmgcbnaaDoor
open Go.RowKit

set_option maxHeartbeats 2000000 in
theorem frameSeal_walk (vb : Value) (bs : List UInt8) (w : World) (hS : Sl w vb bs) (ht : Tab w) :
    Calls Tryd.prog 3 #[vb] w fun e w' => e = .returned (.bool true) ∧ Below w.heap.size w w' := by
  obtain ⟨ao, cap, rfl, h1, h2⟩ := hS.shape
  go_enter Tryd.func3, Tryd.ntmps3
  go_wp2_with (go_at_call 8; refine (begun_any _ ht).mono ?_; rintro e w1 ⟨rfl, hb1⟩)
  refine (short_any _ bs 300 _ (hS.below hb1) (by omega)).mono ?_
  rintro e w' ⟨vs, rfl, hSs, hw⟩
  have hw' := hw.symm
  subst hw'
  have hlim : (bs.take 300).length ≤ 300 := by rw [List.length_take]; omega
  generalize bs.take 300 = cs at *
  obtain ⟨aos, caps, rfl, _, _⟩ := hSs.shape
  have hT1 := ht.below hb1
  have hC := seal_any _ _ _ hSs hT1 (by omega)
  obtain ⟨X, HX⟩ : ∃ X, Hid (X = sealL cs) := ⟨_, rfl⟩
  rw [← HX.out] at hC
  clear hw
  go_wp2_with fail
  refine hC.mono ?_
  rintro e w2 ⟨v2, rfl, hO2, hb2⟩
  have hS2 := Sl.of_own hO2
  have hbw2 := hb1.trans (hb2.mono hb1.size)
  have hSb2 := hSs.below hb2
  have hT2 := ht.below hbw2
  obtain ⟨ao2, cap2, rfl, _, _⟩ := hS2.shape
  clear hC hO2 hb2 hb1 hSs hT1
  have hC := open_is _ X (some cs) true cs _ hS2 hT2 (by rw [HX.out]; exact open_seal cs (by omega)) rfl rfl
  go_wp2_with fail
  refine hC.mono ?_
  rintro e w3 ⟨v3, rfl, hO3, hb3⟩
  have hS3 := Sl.of_own hO3
  have hbw3 := hbw2.trans (hb3.mono hbw2.size)
  have hSb3 := hSb2.below hb3
  have hSX3 := hS2.below hb3
  have hT3 := ht.below hbw3
  obtain ⟨ao3, cap3, rfl, _, _⟩ := hS3.shape
  clear hC hO3 hb3 hbw2 hSb2 hS2 hT2
  have hdb : Sl w3.drew _ cs := hSb3
  have hdX : Sl w3.drew _ X := hSX3
  have hdx : Sl w3.drew _ cs := hS3
  have hTd : Tab w3.drew := hT3
  have hbd : Below w.heap.size w w3.drew := hbw3.drew
  have C : ∀ {v bs}, Sl w3.drew v bs → _ := fun h => str_of_sl (P := Tryd.prog) h 22 5 9 Tryd.underlying22 Tryd.underlying5 Tryd.underlying9
  have cX := C hdX
  have cx := C hdx
  have cb := C hdb
  clear C
  have HC12 : Hid (_) := sum_any _ _ _ hdb hTd
  have HC13 : Hid (_) := rsum_any _ _ _ hdb
  have hC14 := rseal_any _ _ _ hdb (by omega)
  rw [← HX.out] at hC14
  have HC14 : Hid (_) := hC14
  have HP : Hid (∀ w5 v5, w5.ownsRow w3.drew.heap.size 5 1 v5 X.length (cells8 X) → Below w3.drew.heap.size w3.drew w5 → ∃ ao5 cap5, v5 = .slice ao5 X.length cap5 ∧
      (convert 22 9 (.slice ao5 X.length cap5)).run Tryd.prog w5 = .ok (.string ⟨X.toArray⟩) w5 ∧ (convert 22 9 (.slice ao2 X.length cap2)).run Tryd.prog w5 = .ok (.string ⟨X.toArray⟩) w5 ∧
      (convert 22 9 (.slice ao3 cs.length cap3)).run Tryd.prog w5 = .ok (.string ⟨cs.toArray⟩) w5 ∧ (convert 22 9 (.slice aos cs.length caps)).run Tryd.prog w5 = .ok (.string ⟨cs.toArray⟩) w5 ∧ Hid (Below w.heap.size w w5)) := by
    intro w5 v5 hO hb
    obtain ⟨ao5, cap5, e, _, _⟩ := (Sl.of_own hO).shape
    subst e
    have C : ∀ {v bs}, Sl w5 v bs → _ := fun h => str_of_sl (P := Tryd.prog) h 22 5 9 Tryd.underlying22 Tryd.underlying5 Tryd.underlying9
    exact ⟨ao5, cap5, rfl, C (Sl.of_own hO), C (hdX.below hb), C (hdx.below hb), C (hdb.below hb), hbd.trans (hb.mono hbd.size)⟩
  clear hdb hdX hdx hTd hbd hC14 hSb3 hSX3 hS3 hT3 hbw3 hS ht
  go_wp2_with fail
  go_region_held (fun w' => (convert 22 9 (.slice ao2 X.length cap2)).run Tryd.prog w' = .ok (.string ⟨X.toArray⟩) w' ∧ (convert 22 9 (.slice ao3 cs.length cap3)).run Tryd.prog w' = .ok (.string ⟨cs.toArray⟩) w' ∧ (convert 22 9 (.slice aos cs.length caps)).run Tryd.prog w' = .ok (.string ⟨cs.toArray⟩) w')
    (first
    | exact ⟨cX, cx, cb⟩
    | exact ⟨c2, c3, c4⟩)
    (first
    | (go_at_call 12; refine Calls.mono HC12.out ?_; rintro e w' ⟨rfl, hw⟩; have hw' := hw.symm; subst hw'; clear hw)
    | (go_at_call 13; refine Calls.mono HC13.out ?_; rintro e w' ⟨rfl, hw⟩; have hw' := hw.symm; subst hw'; clear hw)
    | (go_at_call 14; refine Calls.mono HC14.out ?_; rintro e w5 ⟨v5, rfl, hO5, hb5⟩; obtain ⟨ao5, cap5, rfl, c1, c2, c3, c4, HB⟩ := HP.out w5 v5 hO5 hb5; clear hO5 hb5))
  go_wp2_with fail
  go_ret
  exact ⟨rfl, HB.out⟩
end Go.Proofs.YtoekpfopmgcbnaaDoor

/- The walks of begun and of the law FrameBig. -/
import Derived.Test.YtoekpfopmgcbnaaDoorOpen
import Derived.Lib.SlBytesConst
import Derived.Laws.OwnMore
namespace Go.Proofs.YtoekpfopmgcbnaaDoor
open Go.RowKit

theorem crc_nine : crc [49, 50, 51, 52, 53, 54, 55, 56, 57] = 3421780262 := by decide +kernel
theorem seal_x : (sealL [120]).length = 9 := rfl
theorem open_x : openL (sealL [120]) = some [120] := open_seal _ (by decide)

theorem open_is (v : Value) (bs : List UInt8) (x : Option (List UInt8)) (b : Bool) (t : List UInt8) (w : World) (h : Sl w v bs) (ht : Tab w) (hx : openL bs = x) (hb : x.isSome = b) (hy : x.getD [] = t) :
    Calls Tryd.prog 11 #[v] w fun e w' => ∃ v', e = .returned (.tuple #[v', .bool b]) ∧ w'.ownsRow w.heap.size 5 1 v' t.length (cells8 t) ∧ Below w.heap.size w w' := by
  subst hx hb hy
  exact open_any v bs w h ht

set_option maxHeartbeats 1000000 in
theorem begun_any (w : World) (ht : Tab w) : Calls Tryd.prog 8 #[] w fun e w' => e = .returned (.bool true) ∧ Below w.heap.size w w' := by
  have hcv := Lib.run_convert_bytes_const (P := Tryd.prog) w 22 5 #[.int .u8 120] 1 1 Tryd.underlying22 Tryd.underlying5
  have hb0 : Below w.heap.size w (w.alloc (.cells #[.int .u8 120] 5 (1, 2))) := (Below.refl _ _).alloc (Nat.le_refl _) _
  have hS0 : Sl (w.alloc (.cells #[.int .u8 120] 5 (1, 2))) _ [120] := sl_new w #[.int .u8 120] [120] 5 (1, 2) rfl (by decide)
  have hT0 := ht.below hb0
  go_enter Tryd.func8, Tryd.ntmps8
  go_wp2_with fail
  clear hcv
  refine (seal_any _ [120] _ hS0 hT0 (by decide)).mono ?_
  rintro e w1 ⟨v1, rfl, hO1, hb1⟩
  have hbw1 := hb0.trans (hb1.mono (by simp))
  have hT1 := ht.below hbw1
  have hS1 := Sl.of_own hO1
  clear hb1 hb0 hS0 hT0
  obtain ⟨ao1, cap1, e1, _, _⟩ := hS1.shape
  rw [seal_x] at e1
  subst e1
  go_wp2_with fail
  refine (open_is _ _ _ true [120] _ hS1 hT1 open_x rfl rfl).mono ?_
  rintro e w2 ⟨v2, rfl, hO2, hb2⟩
  have hbw2 := hbw1.trans (hb2.mono hbw1.size)
  clear hb2
  obtain ⟨ao2, cap2, rfl, _, _⟩ := (Sl.of_own hO2).shape
  have hcv := Lib.run_convert_bytes_const (P := Tryd.prog) w2 22 5 #[.int .u8 49, .int .u8 50, .int .u8 51, .int .u8 52, .int .u8 53, .int .u8 54, .int .u8 55, .int .u8 56, .int .u8 57] 9 9 Tryd.underlying22 Tryd.underlying5
  have hb3 : Below w.heap.size w (w2.alloc (.cells #[.int .u8 49, .int .u8 50, .int .u8 51, .int .u8 52, .int .u8 53, .int .u8 54, .int .u8 55, .int .u8 56, .int .u8 57] 5 (9, 10))) := hbw2.alloc hbw2.size _
  have hS3 : Sl (w2.alloc (.cells #[.int .u8 49, .int .u8 50, .int .u8 51, .int .u8 52, .int .u8 53, .int .u8 54, .int .u8 55, .int .u8 56, .int .u8 57] 5 (9, 10))) _ [49, 50, 51, 52, 53, 54, 55, 56, 57] := sl_new w2 #[.int .u8 49, .int .u8 50, .int .u8 51, .int .u8 52, .int .u8 53, .int .u8 54, .int .u8 55, .int .u8 56, .int .u8 57] [49, 50, 51, 52, 53, 54, 55, 56, 57] 5 (9, 10) rfl (by decide)
  have hT3 := ht.below hb3
  have hst : (convert 22 9 (.slice ao2 1 cap2)).run Tryd.prog (w2.alloc (.cells #[.int .u8 49, .int .u8 50, .int .u8 51, .int .u8 52, .int .u8 53, .int .u8 54, .int .u8 55, .int .u8 56, .int .u8 57] 5 (9, 10))) = .ok (.string ⟨#[120]⟩) _ := str_of_sl (P := Tryd.prog) ((Sl.of_own hO2).alloc (.cells #[.int .u8 49, .int .u8 50, .int .u8 51, .int .u8 52, .int .u8 53, .int .u8 54, .int .u8 55, .int .u8 56, .int .u8 57] 5 (9, 10))) 22 5 9 Tryd.underlying22 Tryd.underlying5 Tryd.underlying9
  go_wp2_with (go_at_call 12; refine (sum_any _ _ _ hS3 hT3).mono ?_; rintro e w' ⟨rfl, hw⟩; have hw' := hw.symm; subst hw'; clear hw; rw [crc_nine])
  go_ret
  exact ⟨rfl, hb3⟩

theorem made_zeros (n : Nat) : (madeCells (Value.int .u8 0).cells (n * 1)).toList = cells8 (List.replicate n 0) := by
  have hz : ∀ j : Nat, (Value.int .u8 0).cells[j % (Value.int .u8 0).cells.size]! = .int .u8 0 := by
    intro j
    have e : (Value.int .u8 0).cells = #[.int .u8 0] := rfl
    rw [e, show (#[Value.int .u8 0] : Array Value).size = 1 from rfl, Nat.mod_one]
    rfl
  unfold madeCells
  rw [show (fun x => (Value.int .u8 0).cells[x % (Value.int .u8 0).cells.size]!) = fun _ => Value.int .u8 0 from funext hz]
  simp [cells8, List.map_const']

set_option maxHeartbeats 1000000 in
theorem frameBig_walk (w : World) (ht : Tab w) : Calls Tryd.prog 5 #[] w fun e w' => e = .returned (.bool true) ∧ Below w.heap.size w w' := by
  obtain ⟨i, hi, hz0, hz1, hz2⟩ := info_parts Tryd.info5
  go_enter Tryd.func5, Tryd.ntmps5
  go_wp2_with fail
  refine (begun_any _ ht).mono ?_
  rintro e w1 ⟨rfl, hb1⟩
  obtain ⟨w2, hm2, hO2, hg2⟩ := run_make_full (P := Tryd.prog) w1 w.heap.size 22 5 i (.int .u8 0) 1 Tryd.underlying22 hi hz0 hz1 .i64 .i64 65537 (by rw [hz2]; omega) (by simp [maxLen]) hb1.size
  have hb2 := hb1.grown hg2 hb1.size (fun k hk => by cases hk)
  rw [made_zeros] at hO2
  have hS2 : Sl w2 (.slice (some ⟨w1.heap.size, 0, none⟩) 65537 65537) (List.replicate 65537 0) := Sl.of_own (by rw [List.length_replicate]; exact hO2)
  clear hO2 hg2
  have hB := seal_big _ _ _ hS2 (by rw [List.length_replicate]; omega)
  clear hS2
  have hm2' : (Instr.makeSlice 22 (.int .i64 65537) (.int .i64 65537)).run Tryd.prog w1 = .ok (.slice (some ⟨w1.heap.size, 0, none⟩) 65537 65537) w2 := hm2
  clear hm2
  go_wp2_with fail
  refine hB.mono ?_
  rintro e w' ⟨rfl, hw⟩
  have hw' := hw.symm
  subst hw'
  clear hw hm2' hB
  obtain ⟨w3, hm3, hO3, hg3⟩ := run_make_full (P := Tryd.prog) w2 w.heap.size 22 5 i (.int .u8 0) 1 Tryd.underlying22 hi hz0 hz1 .i64 .i64 65536 (by rw [hz2]; omega) (by simp [maxLen]) hb2.size
  have hb3 := hb2.grown hg3 hb2.size (fun k hk => by cases hk)
  rw [made_zeros] at hO3
  have hS3 : Sl w3 (.slice (some ⟨w2.heap.size, 0, none⟩) 65536 65536) (List.replicate 65536 0) := Sl.of_own (by rw [List.length_replicate]; exact hO3)
  clear hO3 hg3
  have hB := seal_any _ _ _ hS3 (ht.below hb3) (by rw [List.length_replicate]; omega)
  rw [seal_len, List.length_replicate] at hB
  clear hS3
  have hm3' : (Instr.makeSlice 22 (.int .i64 65536) (.int .i64 65536)).run Tryd.prog w2 = .ok (.slice (some ⟨w2.heap.size, 0, none⟩) 65536 65536) w3 := hm3
  clear hm3
  go_wp2_with fail
  refine hB.mono ?_
  rintro e w4 ⟨v4, rfl, hO4, hb4⟩
  have hb4' := hb3.trans (hb4.mono hb3.size)
  obtain ⟨ao4, cap4, e4⟩ : ∃ ao cap, v4 = .slice ao 65544 cap := by
    rcases hO4.2 with ⟨_, h⟩ | ⟨g, cap, _, e, _⟩
    · omega
    · exact ⟨_, cap, e⟩
  subst e4
  clear hO4 hb4 hB hm3'
  go_wp2
  go_ret
  exact ⟨rfl, hb4'⟩
end Go.Proofs.YtoekpfopmgcbnaaDoor

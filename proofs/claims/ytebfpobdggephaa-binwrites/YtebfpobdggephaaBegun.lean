/- The walk of begun, and of the law BinNone. -/
import Derived.Test.YtebfpobdggephaaWriter
import Derived.Lib.SlBytesConst
namespace Go.Proofs.Ytebfpobdggephaa
open Go.RowKit

theorem wr_new (w : World) : Wr (w.alloc (.cells #[.slice none 0 0] 27)) 27 w.heap.size w.heap.size (.slice none 0 0) [] :=
  ⟨heap_alloc_new _ _, World.ownsRow_nil _ _ _ _⟩

theorem enc_m3 : enc (-3) = [5] := by decide
theorem enc_2 : enc 2 = [4] := by decide
theorem step1 : rNum (some [5, 4, 97, 98, 1]) = (-3, some [4, 97, 98, 1]) := by decide
theorem step2 : rText (some [4, 97, 98, 1]) = ([97, 98], some [1]) := by decide
theorem step3 : rFlag (some [1]) = (true, some []) := by decide
theorem step4 : rNum (some []) = (0, none) := by decide

theorem rtext_is (B : Nat) (st st1 : Option (List UInt8)) (t : List UInt8) (w : World) (h : Rd w 54 B st) (hn : rText st = (t, st1)) :
    Calls Try.prog 18 #[.pointer (some ⟨B, 0, none⟩)] w fun e w' => ∃ v, e = .returned v ∧ Sl w' v t ∧ Rd w' 54 B st1 ∧ w.grownBy w' (some B) := by
  have := rtext_any B st w h
  rw [hn] at this
  exact this
theorem rflag_is (B : Nat) (st st1 : Option (List UInt8)) (b : Bool) (w : World) (h : Rd w 54 B st) (hn : rFlag st = (b, st1)) :
    Calls Try.prog 19 #[.pointer (some ⟨B, 0, none⟩)] w fun e w' => e = .returned (.bool b) ∧ Rd w' 54 B st1 ∧ w.grownBy w' (some B) := by
  have := rflag_any B st w h
  rw [hn] at this
  exact this

set_option maxHeartbeats 1000000 in
theorem begun_any (w : World) : Calls Try.prog 8 #[] w fun e w' => e = .returned (.bool true) ∧ Below w.heap.size w w' := by
  have hW0 := wr_new w
  have hb0 : Below w.heap.size w (w.alloc (.cells #[.slice none 0 0] 27)) := (Below.refl _ _).alloc (Nat.le_refl _) _
  go_enter Try.func8, Try.ntmps8
  go_wp2_with fail
  refine (wnum_any _ _ _ _ _ _ hW0 (by simp) (by omega) (by omega) (by simp)).mono ?_
  rintro e w1 ⟨rfl, v1, hW1, hw1, hm1⟩
  rw [List.nil_append, enc_m3] at hW1
  have hb1 : Below w.heap.size w w1 := hb0.trans (hw1.below (by simp) (Nat.le_refl _) (fun k hk => by simp [Value.ownBlock] at hk))
  clear hw1 hm1 hb0 hW0
  have hcv := Lib.run_convert_bytes_const (P := Try.prog) w1 25 5 #[.int .u8 97, .int .u8 98] 2 2 Try.underlying25 Try.underlying5
  go_wp2_with fail
  clear hcv
  -- w.Text([]byte("ab"))
  have hW1a : Wr (w1.alloc (.cells #[.int .u8 97, .int .u8 98] 5 (2, 3))) 27 w.heap.size w.heap.size v1 [5] :=
    ⟨by rw [Below.heap_alloc _ _ _ hW1.lt]; exact hW1.1, hW1.2.alloc _⟩
  have hS : Sl (w1.alloc (.cells #[.int .u8 97, .int .u8 98] 5 (2, 3))) (.slice (some ⟨w1.heap.size, 0, none⟩) 2 2) [97, 98] :=
    ⟨_, 2, rfl, Nat.le_refl _, by simp [maxLen], fun e => by simp at e, fun _ => ⟨w1.heap.size, 0, rfl, fun j hj => by
      rw [cell_of_row _ _ _ _ _ _ (heap_alloc_new _ _)]
      match j, hj with
      | 0, _ => rfl
      | 1, _ => rfl⟩⟩
  have hne : ∀ k, v1.ownBlock = some k → k < w1.heap.size := fun k hk => (hW1.2.lt k hk).2
  refine (wtext_any _ _ _ _ _ [97, 98] _ hW1a (by have := hb1.size; simp; omega) hS (fun w' hw' => ?_) (by simp)).mono ?_
  · have e := hw'.block w1.heap.size (by simp) (by have := hW1.lt; omega) (fun e => by have := hne _ e.symm; omega)
    obtain ⟨_, _, e1, e2, e3, e4, e5⟩ := hS
    refine ⟨_, _, e1, e2, e3, e4, fun hp => ?_⟩
    obtain ⟨g, off, ha, hc⟩ := e5 hp
    simp only [Value.slice.injEq] at e1
    have hgg : g = w1.heap.size := by
      have := e1.1.trans ha
      simp at this
      exact this.1.symm
    subst hgg
    exact ⟨_, _, ha, fun j hj => (World.cell?_of_block (a := ⟨w1.heap.size, off + j, none⟩) e).trans (hc j hj)⟩
  rintro e w2 ⟨rfl, v2, hW2, hw2, hm2⟩
  rw [show ((([97, 98] : List UInt8).length : Nat) : Int) = 2 from rfl, enc_2] at hW2
  have hb2 : Below w.heap.size w w2 := (hb1.alloc (hb1.size) _).trans (hw2.below (by have := hb1.size; simp; omega) (Nat.le_refl _) (fun k hk => (hW1.2.lt k hk).1))
  clear hS hne hW1a hw2 hm2 hW1 hb1
  go_wp2_with fail
  refine (wflag_any _ _ _ _ true _ hW2 hb2.size (by simp)).mono ?_
  rintro e w3 ⟨rfl, v3, hW3, hw3, hm3⟩
  have hb3 : Below w.heap.size w w3 := hb2.trans (hw3.below hb2.size (Nat.le_refl _) (fun k hk => (hW2.2.lt k hk).1))
  clear hW2 hb2 hw3 hm3
  have hW3' : Wr w3 27 w.heap.size w.heap.size v3 [5, 4, 97, 98, 1] := hW3
  clear hW3
  go_wp2_with fail
  refine (wbytes_any _ _ _ _ _ hW3' (by simp)).mono ?_
  rintro e w4 ⟨v4, rfl, hO4, hb4⟩
  have hb4' : Below w.heap.size w w4 := hb3.trans (hb4.mono hb3.size)
  have hS4 := Sl.of_own hO4
  clear hW3' hb3 hb4 hO4
  obtain ⟨ao4, cap4, rfl, _, _⟩ := hS4.shape
  go_wp2_with fail
  refine (read_any _ _ _ hS4 (by simp)).mono ?_
  rintro e w5 ⟨B, rfl, hB, hR5, hb5⟩
  have hb5' : Below w.heap.size w w5 := hb4'.trans (hb5.mono hb4'.size)
  have hBw : w.heap.size ≤ B := Nat.le_trans hb4'.size hB
  have hS5 := hS4.below hb5
  have hconv : Sem.run Try.prog (convert 25 9 (.slice ao4 5 cap4)) w5 = .ok (.string ⟨#[5, 4, 97, 98, 1]⟩) w5 := str_of_sl (P := Try.prog) hS5 25 5 9 Try.underlying25 Try.underlying5 Try.underlying9
  clear hS4 hS5 hb4' hb5 hB
  go_wp2_with fail
  refine (rnum_is B _ _ _ _ hR5 step1).mono ?_
  rintro e w6 ⟨rfl, hR6, hg6⟩
  have hb6 := hb5'.trans (Below.of_grown hg6 hb5'.size hBw)
  clear hconv hR5 hb5' hg6
  go_wp2_with fail
  refine (rtext_is B _ _ _ _ hR6 step2).mono ?_
  rintro e w7 ⟨v7, rfl, hS7, hR7, hg7⟩
  have hb7 := hb6.trans (Below.of_grown hg7 hb6.size hBw)
  obtain ⟨ao7, cap7, rfl, _, _⟩ := hS7.shape
  have hconv : Sem.run Try.prog (convert 25 9 (.slice ao7 2 cap7)) w7 = .ok (.string ⟨#[97, 98]⟩) w7 := str_of_sl (P := Try.prog) hS7 25 5 9 Try.underlying25 Try.underlying5 Try.underlying9
  clear hR6 hb6 hg7 hS7
  go_wp2_with fail
  refine (rflag_is B _ _ _ _ hR7 step3).mono ?_
  rintro e w8 ⟨rfl, hR8, hg8⟩
  have hb8 := hb7.trans (Below.of_grown hg8 hb7.size hBw)
  clear hR7 hb7 hg8 hconv
  go_wp2_with fail
  refine (ok_any B _ _ hR8).mono ?_
  rintro e w8' ⟨rfl, hw⟩
  have hw' := hw.symm
  subst hw'
  go_wp2_with fail
  refine (left_any B _ _ hR8).mono ?_
  rintro e w8' ⟨rfl, hw⟩
  have hw' := hw.symm
  subst hw'
  go_wp2_with fail
  refine (rnum_is B _ _ _ _ hR8 step4).mono ?_
  rintro e w9 ⟨rfl, hR9, hg9⟩
  have hb9 := hb8.trans (Below.of_grown hg9 hb8.size hBw)
  clear hR8 hb8 hg9
  go_wp2_with fail
  refine (ok_any B _ _ hR9).mono ?_
  rintro e w9' ⟨rfl, hw⟩
  have hw' := hw.symm
  subst hw'
  go_wp2
  go_ret
  exact ⟨rfl, hb9⟩

set_option maxHeartbeats 1000000 in
theorem binNone_any (w : World) : Calls Try.prog 5 #[] w fun e w' => e = .returned (.bool true) ∧ Below w.heap.size w w' := by
  go_enter Try.func5, Try.ntmps5
  go_wp2_with (first
    | (go_at_call 10; refine (wnum_nil _ _).mono ?_; rintro e w' ⟨rfl, hw⟩; have hw' := hw.symm; subst hw')
    | (go_at_call 12; refine (wtext_nil _ _).mono ?_; rintro e w' ⟨rfl, hw⟩; have hw' := hw.symm; subst hw')
    | (go_at_call 14; refine (wflag_nil _ _).mono ?_; rintro e w' ⟨rfl, hw⟩; have hw' := hw.symm; subst hw')
    | (go_at_call 8; refine (begun_any _).mono ?_; rintro e w1 ⟨rfl, hb⟩)
    | (go_at_call 15; refine (wbytes_nil _).mono ?_; rintro e w' ⟨rfl, hw⟩; have hw' := hw.symm; subst hw')
    | (go_at_call 17; refine (rnum_nil _).mono ?_; rintro e w' ⟨rfl, hw⟩; have hw' := hw.symm; subst hw')
    | (go_at_call 18; refine (rtext_nil _).mono ?_; rintro e w' ⟨rfl, hw⟩; have hw' := hw.symm; subst hw')
    | (go_at_call 19; refine (rflag_nil _).mono ?_; rintro e w' ⟨rfl, hw⟩; have hw' := hw.symm; subst hw')
    | (go_at_call 20; refine (ok_nil _).mono ?_; rintro e w' ⟨rfl, hw⟩; have hw' := hw.symm; subst hw')
    | (go_at_call 21; refine (left_nil _).mono ?_; rintro e w' ⟨rfl, hw⟩; have hw' := hw.symm; subst hw'))
  go_ret
  exact ⟨rfl, hb⟩
end Go.Proofs.Ytebfpobdggephaa

/- The walks of the document's Sum, four and Seal. -/
import Derived.Test.YtoekpfopmgcbnaaDoorBegun
namespace Go.Proofs.YtoekpfopmgcbnaaDoor
open Go.RowKit

def iterB : Nat → Nat → Nat
  | 0, c => c
  | n + 1, c => iterB n (bit1 c)
theorem step_iter (c : Nat) (b : UInt8) : step c b = iterB 8 (c ^^^ b.toNat) := by
  unfold step
  rw [nib_bits, nib_bits]
  rfl
theorem bit1_odd (c : Nat) (h : c < 4294967296) (h1 : c % 2 = 1) : bits .xor .u32 ((c : Int) / 2) 3988292384 = (bit1 c : Int) := by
  unfold bit1
  rw [if_pos h1]
  have := u32_xor_nat (c / 2) 3988292384 (by omega) (by omega)
  rw [Int.natCast_ediv] at this
  exact this
theorem bit1_ev (c : Nat) (h1 : ¬ c % 2 = 1) : (c : Int) / 2 = (bit1 c : Int) := by
  unfold bit1
  rw [if_neg h1]
  omega
theorem xor_walk (cc : Nat) (bs : List UInt8) (k : Nat) (hc : cc < 4294967296) : bits .xor .u32 (cc : Int) (at8 bs k % 4294967296) = ((cc ^^^ (bs.getD k 0).toNat : Nat) : Int) := by
  have hb := byte_lt (bs.getD k 0)
  have e : at8 bs k % 4294967296 = ((bs.getD k 0).toNat : Int) := by unfold at8; omega
  rw [e]
  exact u32_xor_nat _ _ hc (by omega)

set_option maxHeartbeats 1000000 in
theorem rsum_any (v : Value) (bs : List UInt8) (w : World) (h : Sl w v bs) :
    Calls Tryd.prog 13 #[v] w fun e w' => e = .returned (.int .u32 (crc bs : Int)) ∧ w' = w := by
  obtain ⟨ao, cap, rfl, h1, h2⟩ := h.shape
  have h2' : cap ≤ 9223372036854775807 := h2
  have HS : Hid (Sl w (.slice ao bs.length cap) bs) := h
  clear h
  go_enter Tryd.func13, Tryd.ntmps13
  go_wp2
  go_loopw [3, 4] (fun c i wr => ∃ (k cc : Nat), k ≤ bs.length ∧ i = .int .i64 k ∧ c = .int .u32 (cc : Int) ∧ Hid (cc < 4294967296) ∧ Hid (crcF cc (bs.drop k) = crcF (inv 0) bs) ∧ wr = w) (fun _ i _ => bs.length - (intOf i).toNat)
  case atStart => exact ⟨0, 4294967295, Nat.zero_le _, rfl, rfl, by show _ < _; omega, rfl, rfl⟩
  case round =>
    obtain ⟨k, cc, hk, rfl, rfl, HC, HF, hw⟩ := hrel
    have hw' := hw.symm
    subst hw'
    by_cases hlt : k < bs.length
    · obtain ⟨g, off, rfl, hc⟩ := HS.out.cell (by omega)
      have hcx := hc k hlt
      clear hc
      have hX := xor_walk cc bs k HC.out
      have HX : Hid (cc ^^^ (bs.getD k 0).toNat < 4294967296) := xor_lt _ _ HC.out (by have := byte_lt (bs.getD k 0); omega)
      have HI : Hid (iterB 8 (cc ^^^ (bs.getD k 0).toNat) = step cc (bs.getD k 0)) := (step_iter _ _).symm
      generalize cc ^^^ (bs.getD k 0).toNat = x at hX HX HI
      go_wp2_with fail
      go_loopw [3, 5] (fun c j wr => ∃ (n y : Nat), n ≤ 8 ∧ j = .int .i64 n ∧ c = .int .u32 (y : Int) ∧ Hid (y < 4294967296) ∧ Hid (iterB (8 - n) y = step cc (bs.getD k 0)) ∧ wr = w) (fun _ j _ => 8 - (intOf j).toNat)
      case atStart => exact ⟨0, x, Nat.zero_le _, rfl, rfl, HX, HI, rfl⟩
      case round =>
        clear hX HX HI hcx
        obtain ⟨n, y, hn, rfl, rfl, HY, HJ, hw⟩ := hrel
        have hw' := hw.symm
        subst hw'
        by_cases hn8 : n < 8
        · by_cases hy : y % 2 = 1
          · have hyb : ((y : Int) % 2 == 1) = true := by rw [beq_iff_eq]; omega
            have hB := bit1_odd y HY.out hy
            clear hy
            go_wp2
            go_roundw
            case rel =>
              refine ⟨n + 1, bit1 y, by omega, rfl, rfl, bit1_lt _ HY.out, ?_, trivial⟩
              have := HJ.out
              rw [show 8 - n = (8 - (n + 1)) + 1 by omega] at this
              exact this
            case measure => simp [intOf]; omega
          · have hyb : ((y : Int) % 2 == 1) = false := by rw [beq_eq_false_iff_ne]; omega
            have hB := bit1_ev y hy
            clear hy
            go_wp2
            go_roundw
            case rel =>
              refine ⟨n + 1, bit1 y, by omega, rfl, rfl, bit1_lt _ HY.out, ?_, trivial⟩
              have := HJ.out
              rw [show 8 - n = (8 - (n + 1)) + 1 by omega] at this
              exact this
            case measure => simp [intOf]; omega
        · have hn8' : ¬ (n : Int) < 8 := by omega
          obtain rfl : n = 8 := by omega
          go_wp2
          go_roundw
          case rel =>
            refine ⟨k + 1, y, by omega, rfl, rfl, HY.out, ?_, trivial⟩
            show _ = _
            have hy := HJ.out
            simp only [Nat.sub_self, iterB] at hy
            rw [← HF.out, drop_at bs k hlt, hy]
          case measure => simp [intOf]; omega
    · have hlt' : ¬ (k : Int) < (bs.length : Int) := by omega
      go_wp2
      go_ret
      refine ⟨?_, rfl⟩
      rw [inv_walk _ HC.out, crc, sumOn, ← HF.out, List.drop_eq_nil_of_le (by omega)]
      rfl

set_option maxHeartbeats 400000 in
theorem four_any (n : Nat) (w : World) :
    Calls Tryd.prog 21 #[.int .u32 n] w fun e w' => e = .returned (.slice (some ⟨w.heap.size, 0, none⟩) 4 4) ∧ w'.ownsRow w.heap.size 5 1 (.slice (some ⟨w.heap.size, 0, none⟩) 4 4) (le4 n).length (cells8 (le4 n)) ∧ Below w.heap.size w w' := by
  have HO : Hid ((w.alloc (.cells #[.int .u8 ((n : Int) % 256), .int .u8 ((n : Int) / 256 % 256), .int .u8 ((n : Int) / 65536 % 256), .int .u8 ((n : Int) / 16777216 % 256)] 5)).ownsRow w.heap.size 5 1 (.slice (some ⟨w.heap.size, 0, none⟩) 4 4) (le4 n).length (cells8 (le4 n))) := by
    have := World.ownsRow_lit (base := w.heap.size) (e := 5) (size := 1) w #[.int .u8 ((n : Int) % 256), .int .u8 ((n : Int) / 256 % 256), .int .u8 ((n : Int) / 65536 % 256), .int .u8 ((n : Int) / 16777216 % 256)] 4 (Nat.le_refl _) (by simp [maxLen]) rfl
    rw [le4_cells]
    exact this
  have hn0 : (0 : Int) ≤ (n : Int) := by omega
  generalize ((n : Nat) : Int) = z at *
  go_enter Tryd.func21, Tryd.ntmps21
  go_wp2
  go_ret
  exact ⟨rfl, HO.out, (Below.refl _ _).alloc (Nat.le_refl _) _⟩

theorem own_below {w w' : World} {base e : Nat} {v : Value} {n : Nat} {xs : List Value} (h : w.ownsRow base e 1 v n xs) (hb : Below w.heap.size w w') : w'.ownsRow base e 1 v n xs := by
  obtain ⟨h1, h2⟩ := h
  refine ⟨h1, ?_⟩
  rcases h2 with h2 | ⟨g, cap, cur, e1, e2, e3, e4⟩
  · exact Or.inl h2
  · exact Or.inr ⟨g, cap, cur, e1, e2, by rw [hb.block g (lt_of_block e3)]; exact e3, e4⟩

set_option maxHeartbeats 1000000 in
theorem rseal_any (v : Value) (bs : List UInt8) (w : World) (h : Sl w v bs) (hl : bs.length ≤ 65536) :
    Calls Tryd.prog 14 #[v] w fun e w' => ∃ v', e = .returned v' ∧ w'.ownsRow w.heap.size 5 1 v' (sealL bs).length (cells8 (sealL bs)) ∧ Below w.heap.size w w' := by
  obtain ⟨i, hi, hz0, hz1, hz2⟩ := info_parts Tryd.info5
  obtain ⟨ao, cap, rfl, h1, h2⟩ := h.shape
  have hl' : ¬ (65536 : Int) < (bs.length : Int) := by omega
  go_enter Tryd.func14, Tryd.ntmps14
  go_wp2_with fail
  refine (four_any bs.length w).mono ?_
  rintro e w1 ⟨rfl, hO1, hb1⟩
  have hS1 := Sl.of_own hO1
  have hs1 := hb1.size
  clear hl'
  go_wp2_with (at_builtin; refine wpList_append_sl _ rfl (.const (.slice none 0 0)) (.tmp 12) 22 rfl w1.heap.size i Tryd.underlying22 hi hz0 hz1 hz2 _ _ [] (le4 bs.length) rfl (World.ownsRow_nil _ _ _ _) rfl hS1 (by rw [le4_len, List.length_nil]; omega) (Nat.le_refl _) ?_)
  intro v2 w2 hO2 hg2 _
  have hb2 : Below w1.heap.size w1 w2 := (Below.refl _ _).grown hg2 (Nat.le_refl _) (fun k hk => by simp [Value.ownBlock] at hk)
  have hS2 := h.below (hb1.trans (hb2.mono hs1))
  have hO2' : w2.ownsRow w1.heap.size 5 1 v2 (le4 bs.length).length (cells8 (le4 bs.length)) := by simpa using hO2
  obtain ⟨ao2, cap2, rfl, _, _⟩ := (Sl.of_own hO2').shape
  clear hg2 hO2 hS1
  go_wp2_with (at_builtin; refine wpList_append_sl _ rfl (.tmp 13) (.tmp 14) 22 rfl w1.heap.size i Tryd.underlying22 hi hz0 hz1 hz2 _ _ (le4 bs.length) bs rfl hO2' rfl hS2 (by rw [le4_len]; omega) hb2.size ?_)
  intro v3 w3 hO3 hg3 _
  have hb3 := hb2.grown hg3 hb2.size (fun k hk => (hO2'.lt k hk).1)
  have hO3' : w3.ownsRow w1.heap.size 5 1 v3 (le4 bs.length ++ bs).length (cells8 (le4 bs.length ++ bs)) := by rw [List.length_append]; exact hO3
  obtain ⟨X, HX⟩ : ∃ X, Hid (X = le4 bs.length ++ bs) := ⟨_, rfl⟩
  rw [← HX.out] at hO3'
  have hS3 := Sl.of_own hO3'
  obtain ⟨ao3, cap3, rfl, _, _⟩ := hS3.shape
  clear hg3 hO3 hO2' hS2 hb2 hO3'
  go_wp2_with fail
  refine (rsum_any _ _ _ hS3).mono ?_
  rintro e w' ⟨rfl, hw⟩
  have hw' := hw.symm
  subst hw'
  have hO4 := own_below hO1 hb3
  have hbw3 := hb1.trans (hb3.mono hs1)
  clear hw hS3 hO1 hb1 hb3 hs1
  go_wp2_with fail
  refine (four_any (crc X) _).mono ?_
  rintro e w4 ⟨rfl, hO5, hb4⟩
  have hO6 := own_below hO4 hb4
  have hbw4 := hbw3.trans (hb4.mono hbw3.size)
  have hS5 := Sl.of_own hO5
  have hs4 := hbw4.size
  clear hO4 hO5 hb4 hbw3
  go_wp2_with (at_builtin; refine wpList_append_sl _ rfl (.tmp 17) (.tmp 19) 22 rfl w.heap.size i Tryd.underlying22 hi hz0 hz1 hz2 _ _ (le4 bs.length) (le4 (crc X)) rfl hO6 rfl hS5 (by rw [le4_len, le4_len]; omega) hs4 ?_)
  intro v6 w6 hO7 hg6 _
  have hbw6 := hbw4.grown hg6 hs4 (fun k hk => (hO6.lt k hk).1)
  have hO7' : w6.ownsRow w.heap.size 5 1 v6 (le4 bs.length ++ le4 (crc X)).length (cells8 (le4 bs.length ++ le4 (crc X))) := by rw [List.length_append]; exact hO7
  obtain ⟨Y, HY⟩ : ∃ Y, Hid (Y = le4 bs.length ++ le4 (crc X)) := ⟨_, rfl⟩
  rw [← HY.out] at hO7'
  have hYl : Y.length = 8 := by rw [HY.out, List.length_append, le4_len, le4_len]
  obtain ⟨ao6, cap6, rfl, _, _⟩ := (Sl.of_own hO7').shape
  have HYl : Hid (Y.length = 8) := hYl
  clear hYl
  have hS6 := h.below hbw6
  have hs6 := hbw6.size
  clear hg6 hO7 hO6 hS5 hbw4 hs4
  go_wp2_with (at_builtin; refine wpList_append_sl _ rfl (.tmp 20) (.tmp 21) 22 rfl w.heap.size i Tryd.underlying22 hi hz0 hz1 hz2 _ _ Y bs rfl hO7' rfl hS6 (by rw [HYl.out]; omega) hs6 ?_)
  intro v' w7 hO8 hg7 _
  have hO8' : w7.ownsRow w.heap.size 5 1 v' (sealL bs).length (cells8 (sealL bs)) := by
    unfold sealL
    rw [← HX.out, ← List.append_assoc, ← HY.out, List.length_append]
    exact hO8
  have HO : Hid (w7.ownsRow w.heap.size 5 1 v' (sealL bs).length (cells8 (sealL bs))) := hO8'
  have HB : Hid (Below w.heap.size w w7) := hbw6.grown hg7 hs6 (fun k hk => (hO7'.lt k hk).1)
  clear hO8 hO8' hg7 hO7' hS6 hbw6
  go_wp2
  go_ret
  exact ⟨_, rfl, HO.out, HB.out⟩
end Go.Proofs.YtoekpfopmgcbnaaDoor

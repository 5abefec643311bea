/- The walks of sumOn and Sum: the table of sixteen words does what the sum's mathematics says. -/
import Derived.Test.YtnbdkojdddplkaaDoorRows
import Derived.Test.YtnbdkojdddplkaaDoorFrMem
import Derived.WalkSpells
import Derived.WalkLawsBesides
import Derived.Laws.BitsAllLaws
namespace Go.Proofs.YtnbdkojdddplkaaDoor.Fr
open Go.RowKit

/-- What the package's table holds. -/
def Tab (w : World) : Prop := ∀ i, i < 16 → w.cell? ⟨0, i, none⟩ = some (.int .u32 (tab i : Int))
theorem Tab.below {w w' : World} (h : Tab w) (hb : Below w.heap.size w w') : Tab w' := fun i hi =>
  (World.cell?_of_block (w := w) (a := ⟨0, i, none⟩) (hb.block 0 (cell_lt (h i hi)))).trans (h i hi)

theorem and15 (x : Nat) (h : x < 4294967296) : bits .and .u32 (x : Int) 15 = ((x % 16 : Nat) : Int) := by
  have := u32_and_nat x 15 h (by omega)
  rw [show x &&& 15 = x % 16 from Nat.and_two_pow_sub_one_eq_mod x 4] at this
  exact this
theorem nib_walk (x : Nat) (h : x < 4294967296) : bits .xor .u32 (tab (x % 16) : Int) ((x : Int) / 16) = (nib x : Int) := by
  have := u32_xor_nat (tab (x % 16)) (x / 16) (tab_lt _) (by omega)
  rw [Int.natCast_ediv] at this
  exact this
/-- One byte's step, as the walk writes it. -/
theorem step_walk (cc : Nat) (bs : List UInt8) (k : Nat) (hc : cc < 4294967296) : ∃ x i y j z : Nat, bits .xor .u32 (cc : Int) (at8 bs k % 4294967296) = (x : Int) ∧ bits .and .u32 (x : Int) 15 = (i : Int) ∧ i < 16 ∧
    bits .xor .u32 (tab i : Int) ((x : Int) / 16) = (y : Int) ∧ bits .and .u32 (y : Int) 15 = (j : Int) ∧ j < 16 ∧ bits .xor .u32 (tab j : Int) ((y : Int) / 16) = (z : Int) ∧ Hid (z = step cc (bs.getD k 0)) := by
  have hb := byte_lt (bs.getD k 0)
  have hx := xor_lt cc (bs.getD k 0).toNat hc (by omega)
  refine ⟨cc ^^^ (bs.getD k 0).toNat, _, nib (cc ^^^ (bs.getD k 0).toNat), _, _, ?_, and15 _ hx, Nat.mod_lt _ (by omega), nib_walk _ hx, and15 _ (nib_lt _ hx), Nat.mod_lt _ (by omega), nib_walk _ (nib_lt _ hx), rfl⟩
  have e : at8 bs k % 4294967296 = ((bs.getD k 0).toNat : Int) := by unfold at8; omega
  rw [e]
  exact u32_xor_nat _ _ hc (by omega)
theorem inv_walk (c : Nat) (h : c < 4294967296) : bits .xor .u32 IntKind.u32.max (c : Int) = (inv c : Int) := by
  have := u32_xor_nat 4294967295 c (by omega) h
  refine this.trans (congrArg _ ?_)
  have h2 : (2 ^ 32 - 1) ^^^ c = 2 ^ 32 - 1 - c := by
    apply Nat.eq_of_testBit_eq
    intro j
    rw [Nat.testBit_xor, Nat.testBit_two_pow_sub_one]
    have := Nat.testBit_two_pow_sub_succ (n := 32) (x := c) (by omega) j
    rw [show 2 ^ 32 - 1 - c = 2 ^ 32 - (c + 1) by omega, this]
    by_cases hj : j < 32
    · simp [hj]
    · have : c.testBit j = false := Nat.testBit_lt_two_pow (Nat.lt_of_lt_of_le h (Nat.pow_le_pow_right (n := 2) (i := 32) (by omega) (by omega)))
      simp [hj, this]
  exact h2
theorem drop_at (bs : List UInt8) (k : Nat) (h : k < bs.length) (c : Nat) : crcF c (bs.drop k) = crcF (step c (bs.getD k 0)) (bs.drop (k + 1)) := by
  rw [List.drop_eq_getElem_cons h, List.getD, List.getElem?_eq_getElem h]
  rfl

set_option maxHeartbeats 400000 in
theorem sumOn_any (s : Nat) (v : Value) (bs : List UInt8) (w : World) (hs : s < 4294967296) (h : Sl w v bs) (ht : Tab w) :
    Calls Tryd.prog 76 #[.int .u32 s, v] w fun e w' => e = .returned (.int .u32 (sumOn s bs : Int)) ∧ w' = w := by
  obtain ⟨ao, cap, rfl, h1, h2⟩ := h.shape
  have h2' : cap ≤ 9223372036854775807 := h2
  have HS : Hid (Sl w (.slice ao bs.length cap) bs) := h
  have HT : Hid (Tab w) := ht
  clear h ht
  go_enter Tryd.func76, Tryd.ntmps76
  go_wp2
  go_loopw [0, 11] (fun c i wr => ∃ (k cc : Nat), k ≤ bs.length ∧ i = .int .i64 k ∧ c = .int .u32 (cc : Int) ∧ Hid (cc < 4294967296) ∧ Hid (crcF cc (bs.drop k) = crcF (inv s) bs) ∧ wr = w) (fun _ i _ => bs.length - (intOf i).toNat)
  case atStart => exact ⟨0, inv s, Nat.zero_le _, rfl, congrArg _ (inv_walk s hs), inv_lt _, rfl, rfl⟩
  case round =>
    obtain ⟨k, cc, hk, rfl, rfl, HC, HF, hw⟩ := hrel
    have hw' := hw.symm
    subst hw'
    by_cases hlt : k < bs.length
    · obtain ⟨g, off, rfl, hc⟩ := HS.out.cell (by omega)
      have hcx := hc k hlt
      clear hc
      obtain ⟨x, i, y, j, z, hX, hI, hi, hY, hJ, hj, hZ, HZ⟩ := step_walk cc bs k HC.out
      have hci := HT.out i hi
      have hcj := HT.out j hj
      go_wp2
      go_roundw
      case rel =>
        have hz := HZ.out
        subst hz
        refine ⟨k + 1, _, by omega, rfl, rfl, step_lt _ _ HC.out, ?_, trivial⟩
        show _ = _
        rw [← HF.out, drop_at bs k hlt]
      case measure => simp [intOf]; omega
    · have hlt' : ¬ (k : Int) < (bs.length : Int) := by omega
      go_wp2
      go_ret
      refine ⟨?_, rfl⟩
      rw [inv_walk _ HC.out, sumOn, ← HF.out, List.drop_eq_nil_of_le (by omega)]
      rfl

set_option maxHeartbeats 400000 in
theorem sum_any (v : Value) (bs : List UInt8) (w : World) (h : Sl w v bs) (ht : Tab w) :
    Calls Tryd.prog 77 #[v] w fun e w' => e = .returned (.int .u32 (crc bs : Int)) ∧ w' = w := by
  obtain ⟨ao, cap, rfl, h1, h2⟩ := h.shape
  go_enter Tryd.func77, Tryd.ntmps77
  go_wp2_with (go_at_call 76; refine (sumOn_any 0 _ bs _ (by omega) h ht).mono ?_; rintro e w' ⟨rfl, hw⟩; have hw' := hw.symm; subst hw')
  go_ret
  exact ⟨rfl, rfl⟩
end Go.Proofs.YtnbdkojdddplkaaDoor.Fr

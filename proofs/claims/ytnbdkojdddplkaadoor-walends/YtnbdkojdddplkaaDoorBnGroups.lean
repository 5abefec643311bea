/- The walk of groups: the number at the beginning of bytes, and how many bytes it has. -/
import Derived.Test.YtnbdkojdddplkaaDoorBnBin
namespace Go.Proofs.YtnbdkojdddplkaaDoor.Bn
open Go.RowKit

theorem and127 (x : Int) (h : 0 ≤ x ∧ x ≤ 255) : bits .and .u8 x 127 = x % 128 := by
  rw [u8_and x 127 h.1 (by omega) (by omega) (by omega)]
  have : (127 : Int).toNat = 127 := rfl
  rw [this, nat_mask7]; omega
theorem and128 (x : Int) (h : 0 ≤ x ∧ x ≤ 255) : bits .and .u8 x 128 = if 128 ≤ x then 128 else 0 := by
  rw [u8_and x 128 h.1 (by omega) (by omega) (by omega)]
  have : (128 : Int).toNat = 2 ^ 7 := rfl
  rw [this, nat_bit]
  split <;> omega
theorem and128_t (x : Int) (h : 0 ≤ x ∧ x ≤ 255) (hx : 128 ≤ x) : (bits .and .u8 x 128 != 0) = true := by rw [and128 x h, if_pos hx]; rfl
theorem and128_f (x : Int) (h : 0 ≤ x ∧ x ≤ 255) (hx : x < 128) : (bits .and .u8 x 128 != 0) = false := by rw [and128 x h, if_neg (by omega)]; rfl
theorem pow7 (k : Nat) : (2 : Int) ^ (7 * k) = (128 : Int) ^ k := by rw [Int.pow_mul]; rfl
theorem or_step (a k : Nat) (x : Int) (h : 0 ≤ x ∧ x ≤ 255) (ha : a < 128 ^ k) (hs : (x % 128) * 128 ^ k < 18446744073709551616) (ha2 : a < 18446744073709551616) :
    bits .or .u64 (a : Int) (IntKind.u64.wrap (IntKind.u64.wrap (bits .and .u8 x 127) * 2 ^ (7 * k))) = a + (x % 128) * 128 ^ k := by
  have hin : IntKind.u64.wrap (bits .and .u8 x 127) = x % 128 := by rw [and127 x h, IntKind.wrap_u64]; omega
  rw [hin, pow7, IntKind.wrap_u64]
  obtain ⟨c, hc⟩ := Int.eq_ofNat_of_zero_le (show 0 ≤ x % 128 by omega)
  rw [hc] at hs ⊢
  have e : ((c : Nat) : Int) * 128 ^ k = ((c * 128 ^ k : Nat) : Int) := by push_cast; rfl
  rw [e] at hs ⊢
  rw [Int.emod_eq_of_lt (by omega) hs, u64_or_nat a _ ha2 (by omega), Nat.or_comm, nat_join (7 * k) _ _ (by rw [Nat.pow_mul]; exact Nat.mul_mod_left _ _) (by rw [Nat.pow_mul]; exact ha)]
  omega

theorem pow_le9 {k : Nat} (h : k < 10) : 128 ^ k ≤ 9223372036854775808 := by
  have := Nat.pow_le_pow_right (show 0 < 128 by omega) (show k ≤ 9 by omega)
  simpa using this
theorem pow_le8 {k : Nat} (h : k < 9) : 128 ^ k ≤ 72057594037927936 := by
  have := Nat.pow_le_pow_right (show 0 < 128 by omega) (show k ≤ 8 by omega)
  simpa using this

theorem acc_step (bs : List UInt8) (k : Nat) (h10 : k < 10) (hlt : k < bs.length) (hx : k < 9 ∨ at8 bs k % 128 ≤ 1) :
    bits .or .u64 (acc (bs.take k) : Int) (IntKind.u64.wrap (IntKind.u64.wrap (bits .and .u8 (at8 bs k) 127) * 2 ^ (7 * k))) = acc (bs.take (k + 1)) := by
  have hb := at8_bd bs k
  have ha := acc_take_lt bs k
  have h9 := pow_le9 h10
  have hs : (at8 bs k % 128) * 128 ^ k < 18446744073709551616 := by
    have e : (128 : Int) ^ k = ((128 ^ k : Nat) : Int) := by push_cast; rfl
    rw [e]
    rcases hx with hx | hx
    · have h8 := pow_le8 hx
      have h1 : at8 bs k % 128 ≤ 127 := by omega
      have h2 : (at8 bs k % 128) * ((128 ^ k : Nat) : Int) ≤ 127 * ((128 ^ k : Nat) : Int) := Int.mul_le_mul_of_nonneg_right h1 (by omega)
      omega
    · have h2 : (at8 bs k % 128) * ((128 ^ k : Nat) : Int) ≤ 1 * ((128 ^ k : Nat) : Int) := Int.mul_le_mul_of_nonneg_right hx (by omega)
      omega
  rw [or_step _ _ _ hb ha hs (by omega), acc_take bs k hlt]

theorem ret2_int {a b c d : Int} {k l : IntKind} (h : a = b) (h' : c = d) : Ending.returned (.tuple #[.int k a, .int l c]) = .returned (.tuple #[.int k b, .int l d]) := by rw [h, h']

def numV (bs : List UInt8) : Nat := ((num bs).getD (0, 0)).1
def numK (bs : List UInt8) : Nat := ((num bs).getD (0, 0)).2
theorem numVK_none {bs : List UInt8} (h : num bs = none) : ((numV bs : Nat) : Int) = 0 ∧ ((numK bs : Nat) : Int) = 0 := by simp [numV, numK, h]
theorem numVK_at {bs : List UInt8} {k : Nat} (HJ : ∀ j, j < k → 128 ≤ at8 bs j) (hk : k < 10) (hl : k < bs.length) (hx : at8 bs k < 128) (h1 : 0 < k → at8 bs k ≠ 0) (h2 : k = 9 → at8 bs k ≤ 1) :
    numV bs = acc (bs.take (k + 1)) ∧ numK bs = k + 1 := by
  have e := len7_at k 10 bs HJ hl hx hk
  have hn : ¬ bad bs := by
    unfold bad
    rw [e]
    rintro (h | ⟨h, h'⟩ | ⟨h, h'⟩)
    · omega
    · exact h1 (by omega) h'
    · have : k = 9 := by omega
      subst this
      have := h2 rfl
      omega
  simp [numV, numK, num_ok hn, e]
theorem num_pad {bs : List UInt8} {k : Nat} (HJ : ∀ j, j < k → 128 ≤ at8 bs j) (hk : k < 10) (hl : k < bs.length) (h0 : 0 < k) (hx : at8 bs k = 0) : num bs = none := by
  have e := len7_at k 10 bs HJ hl (by omega) hk
  refine num_bad (Or.inr (Or.inl ?_))
  rw [e]
  exact ⟨by omega, hx⟩
theorem num_beyond {bs : List UInt8} (HJ : ∀ j, j < 9 → 128 ≤ at8 bs j) (hl : 9 < bs.length) (hx : at8 bs 9 < 128) (h1 : 1 < at8 bs 9) : num bs = none := by
  have e := len7_at 9 10 bs HJ hl hx (by omega)
  exact num_bad (Or.inr (Or.inr ⟨e, h1⟩))
theorem num_end {bs : List UInt8} {k : Nat} (HJ : ∀ j, j < k → 128 ≤ at8 bs j) (h : k = 10 ∨ bs.length ≤ k) : num bs = none :=
  num_bad (Or.inl (len7_none _ _ fun j h1 h2 => HJ j (by omega)))

set_option maxHeartbeats 2000000 in
theorem groups_some (g off cap : Nat) (bs : List UInt8) (w : World) (hl : bs.length ≤ maxLen)
   (hcell : ∀ j, j < bs.length → w.cell? ⟨g, off + j, none⟩ = some (.int .u8 (at8 bs j))) :
    Calls Tryd.prog 84 #[.slice (some ⟨g, off, none⟩) bs.length cap] w fun e w' => e = .returned (.tuple #[.int .u64 (numV bs), .int .i64 (numK bs)]) ∧ w' = w := by
  unfold maxLen at hl
  go_enter Tryd.func84, Tryd.ntmps84
  go_wp2
  go_loop [4, 5] (fun u i => ∃ (k : Nat) (uu : Int), k ≤ bs.length ∧ k ≤ 10 ∧ i = .int .i64 k ∧ u = .int .u64 uu ∧ Hid (k < 10 → uu = acc (bs.take k)) ∧ Hid (∀ j, j < k → 128 ≤ at8 bs j)) (fun _ i => 11 - (intOf i).toNat)
  case atStart => exact ⟨0, 0, Nat.zero_le _, by omega, rfl, rfl, fun _ => by simp [acc], fun j hj => by omega⟩
  case round =>
    obtain ⟨k, uu, hk, hk10, rfl, rfl, HU, HJ⟩ := hrel
    by_cases hlt : k < bs.length
    · by_cases h10 : k < 10
      · have hb := at8_bd bs k
        have hcx := hcell k hlt
        have hu := HU.out h10
        subst hu
        by_cases hx : 128 ≤ at8 bs k
        · have ht := and128_t _ hb hx
          clear hcell hb
          go_wp2
          go_round
          case rel => exact ⟨k + 1, _, by omega, by omega, by go_num, rfl, fun h => acc_step bs k h10 hlt (by omega), fun j hj => by
            by_cases e : j < k
            · exact HJ.out j e
            · have : j = k := by omega
              rw [this]; exact hx⟩
          case measure => simp [intOf]; omega
        · have ht := and128_f _ hb (by omega)
          by_cases h9 : k = 9
          · subst h9
            have h00 : (0 : Int) < 9 := by omega
            clear hcell
            by_cases hz : at8 bs 9 = 0
            · have HN := numVK_none (num_pad HJ.out h10 hlt (by omega) hz)
              have HN' : Hid ((numV bs : Int) = 0 ∧ (numK bs : Int) = 0) := HN
              have hz' : (at8 bs 9 == 0) = true := by rw [beq_iff_eq]; exact hz
              have hng : ¬ (1 : Int) < at8 bs 9 := by omega
              clear HN hz hx hb
              go_wp2
              all_goals go_ret2
              all_goals exact ⟨ret2_int HN'.out.1.symm HN'.out.2.symm, rfl⟩
            · have hz' : (at8 bs 9 == 0) = false := by rw [beq_eq_false_iff_ne]; exact hz
              by_cases h1 : 1 < at8 bs 9
              · have HN' : Hid ((numV bs : Int) = 0 ∧ (numK bs : Int) = 0) := numVK_none (num_beyond HJ.out hlt (by omega) h1)
                clear hz hb
                go_wp2
                all_goals go_ret2
                all_goals exact ⟨ret2_int HN'.out.1.symm HN'.out.2.symm, rfl⟩
              · have HN' : Hid (numV bs = acc (bs.take (9 + 1)) ∧ numK bs = 9 + 1) := numVK_at HJ.out h10 hlt (by omega) (fun _ => hz) (fun _ => by omega)
                have HS : Hid (_) := acc_step bs 9 h10 hlt (Or.inr (by omega))
                clear hz hb
                go_wp2
                all_goals go_ret2
                all_goals exact ⟨ret2_int (by rw [HN'.out.1]; exact HS.out) (by rw [HN'.out.2]; rfl), rfl⟩
          · have h9' : ((k : Int) == 9) = false := by rw [beq_eq_false_iff_ne]; omega
            clear hcell
            by_cases h0 : 0 < k
            · by_cases hz : at8 bs k = 0
              · have HN' : Hid ((numV bs : Int) = 0 ∧ (numK bs : Int) = 0) := numVK_none (num_pad HJ.out h10 hlt (by omega) hz)
                have hz' : (at8 bs k == 0) = true := by rw [beq_iff_eq]; exact hz
                clear hz hx hb
                go_wp2
                all_goals go_ret2
                all_goals exact ⟨ret2_int HN'.out.1.symm HN'.out.2.symm, rfl⟩
              · have hz' : (at8 bs k == 0) = false := by rw [beq_eq_false_iff_ne]; exact hz
                have HN' : Hid (numV bs = acc (bs.take (k + 1)) ∧ numK bs = k + 1) := numVK_at HJ.out h10 hlt (by omega) (fun _ => hz) (fun _ => by omega)
                have HS : Hid (_) := acc_step bs k h10 hlt (Or.inl (by omega))
                clear hz hb
                go_wp2
                all_goals go_ret2
                all_goals exact ⟨ret2_int (by rw [HN'.out.1]; exact HS.out) (by rw [HN'.out.2]; push_cast; rfl), rfl⟩
            · have HN' : Hid (numV bs = acc (bs.take (k + 1)) ∧ numK bs = k + 1) := numVK_at HJ.out h10 hlt (by omega) (fun h => absurd h h0) (fun _ => by omega)
              have HS : Hid (_) := acc_step bs k h10 hlt (Or.inl (by omega))
              clear hb
              go_wp2
              all_goals go_ret2
              all_goals exact ⟨ret2_int (by rw [HN'.out.1]; exact HS.out) (by rw [HN'.out.2]; push_cast; rfl), rfl⟩
      · have HN' : Hid ((numV bs : Int) = 0 ∧ (numK bs : Int) = 0) := numVK_none (num_end HJ.out (Or.inl (by omega)))
        go_wp2
        all_goals go_ret2
        all_goals exact ⟨ret2_int HN'.out.1.symm HN'.out.2.symm, rfl⟩
    · have HN' : Hid ((numV bs : Int) = 0 ∧ (numK bs : Int) = 0) := numVK_none (num_end HJ.out (Or.inr (by omega)))
      go_wp2
      all_goals go_ret2
      all_goals exact ⟨ret2_int HN'.out.1.symm HN'.out.2.symm, rfl⟩

set_option maxHeartbeats 400000 in
theorem groups_empty (ao : Option Addr) (cap : Nat) (w : World) :
    Calls Tryd.prog 84 #[.slice ao 0 cap] w fun e w' => e = .returned (.tuple #[.int .u64 0, .int .i64 0]) ∧ w' = w := by
  go_enter Tryd.func84, Tryd.ntmps84
  go_wp2
  refine wp_loop_rounds 1 ?_
  rw [rounds_succ]
  go_wp2
  go_ret2
  exact ⟨rfl, rfl⟩

theorem groups_any (v : Value) (bs : List UInt8) (w : World) (h : Sl w v bs) :
    Calls Tryd.prog 84 #[v] w fun e w' => e = .returned (.tuple #[.int .u64 (numV bs), .int .i64 (numK bs)]) ∧ w' = w := by
  obtain ⟨ao, cap, rfl, h1, h2, h3, h4⟩ := h
  by_cases hp : 0 < bs.length
  · obtain ⟨g, off, rfl, hc⟩ := h4 hp
    exact groups_some g off cap bs w (by omega) hc
  · have e : bs = [] := List.eq_nil_of_length_eq_zero (by omega)
    subst e
    exact groups_empty ao cap w

theorem groups_none (v : Value) (bs : List UInt8) (w : World) (h : Sl w v bs) (hn : num bs = none) :
    Calls Tryd.prog 84 #[v] w fun e w' => e = .returned (.tuple #[.int .u64 0, .int .i64 0]) ∧ w' = w :=
  (groups_any v bs w h).mono fun _ _ ⟨he, hw⟩ => ⟨he.trans (ret2_int (numVK_none hn).1 (numVK_none hn).2), hw⟩
theorem groups_ok (v : Value) (bs : List UInt8) (w : World) (h : Sl w v bs) (u k : Nat) (hn : num bs = some (u, k)) :
    Calls Tryd.prog 84 #[v] w fun e w' => e = .returned (.tuple #[.int .u64 u, .int .i64 k]) ∧ w' = w :=
  (groups_any v bs w h).mono fun _ _ ⟨he, hw⟩ => ⟨he.trans (ret2_int (by simp [numV, hn]) (by simp [numK, hn])), hw⟩
theorem num_bds {bs : List UInt8} {u k : Nat} (h : num bs = some (u, k)) : u < 18446744073709551616 ∧ 0 < k ∧ k ≤ bs.length ∧ k ≤ 10 := by
  by_cases hb : bad bs
  · rw [num_bad hb] at h; cases h
  · rw [num_ok hb] at h
    simp only [Option.some.injEq, Prod.mk.injEq] at h
    obtain ⟨rfl, rfl⟩ := h
    have hl := len7_le 10 bs
    have h0 : len7 10 bs ≠ 0 := fun e => hb (Or.inl e)
    refine ⟨?_, by omega, hl.2, hl.1⟩
    by_cases h10 : len7 10 bs = 10
    · have h1 : ¬ 1 < at8 bs 9 := fun e => hb (Or.inr (Or.inr ⟨h10, e⟩))
      have hbd := at8_bd bs 9
      rw [h10]
      have ha := acc_take bs 9 (by omega)
      have hlt := acc_take_lt bs 9
      have e9 : (128 : Int) ^ 9 = 9223372036854775808 := by decide
      have e9' : (128 : Nat) ^ 9 = 9223372036854775808 := by decide
      rw [e9] at ha
      rw [e9'] at hlt
      have : at8 bs 9 % 128 ≤ 1 := by omega
      have h2 : (0 : Int) ≤ at8 bs 9 % 128 := by omega
      have ha' : ((acc (bs.take (9 + 1)) : Nat) : Int) = acc (bs.take 9) + at8 bs 9 % 128 * 9223372036854775808 := ha
      show acc (bs.take (9 + 1)) < _
      omega
    · have hlt := acc_take_lt bs (len7 10 bs)
      have := pow_le9 (k := len7 10 bs) (by omega)
      omega

end Go.Proofs.YtnbdkojdddplkaaDoor.Bn

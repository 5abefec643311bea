/- The walk of the document's Num. -/
import Derived.Test.YtebfpobdggephaaBegun
namespace Go.Proofs.Ytebfpobdggephaa
open Go.RowKit

theorem or_one (m : Int) (h0 : 0 ≤ m) (h1 : m ≤ 9223372036854775807) : bits .or .u64 (m * 2) 1 = m * 2 + 1 := by
  obtain ⟨k, rfl⟩ := Int.eq_ofNat_of_zero_le h0
  have := u64_or_nat (k * 2) 1 (by omega) (by omega)
  rw [nat_join 1 (k * 2) 1 (by omega) (by omega)] at this
  simpa using this
theorem byte_more' (uu : Nat) : (uu : Int) % 128 + 128 = ((UInt8.ofNat (uu % 128 + 128)).toNat : Int) := by
  rw [toNat_lo (by omega)]; omega

/-- Behind the append of one byte to a slice of the call's own. -/
theorem own_one {wr w1 : World} {base : Nat} {vv v' x : Value} {cur : List UInt8} {b : UInt8} {w : World} {o : Obj} (hx : x = .int .u8 (b.toNat : Int)) (hvv : wr.ownsRow base 5 1 vv cur.length (cells8 cur)) (hbel : Below base w wr) (hbase : base ≤ wr.heap.size)
    (hown : w1.ownsRow base 5 1 v' (cur.length + 1) (cells8 cur ++ [x])) (hgrow : (wr.alloc o).grownBy w1 vv.ownBlock) :
    (∃ g cap, v' = .slice (some ⟨g, 0, none⟩) (cur.length + 1) cap) ∧ Hid (w1.ownsRow base 5 1 v' (cur ++ [b]).length (cells8 (cur ++ [b])) ∧ Below base w w1) := by
  refine ⟨?_, by rw [List.length_append, cells8_append]; rw [hx] at hown; exact hown, (hbel.alloc hbase o).grown hgrow (by simp; omega) (fun k hk => (hvv.lt k hk).1)⟩
  rcases hown.2 with ⟨_, e⟩ | ⟨g, cap, _, e, _⟩
  · omega
  · exact ⟨g, cap, e⟩

set_option maxHeartbeats 2000000 in
theorem refnum_any (n : Int) (w : World) (h0 : -9223372036854775808 ≤ n) (h1 : n ≤ 9223372036854775807) :
    Calls Try.prog 11 #[.int .i64 n] w fun e w' => ∃ v, e = .returned v ∧ w'.ownsRow w.heap.size 5 1 v (enc n).length (cells8 (enc n)) ∧ Below w.heap.size w w' := by
  obtain ⟨i, hi, hz0, hz1, hz2⟩ := info_parts Try.info5
  have HZ : Hid ((n < 0 → (-1 - n) * 2 + 1 = ((zig n : Nat) : Int)) ∧ (¬ n < 0 → n * 2 = ((zig n : Nat) : Int)) ∧ zig n < 2 * 128 ^ 9) := by
    refine ⟨fun h => ?_, fun h => ?_, by have := zig_lt n h0 h1; omega⟩
    · unfold zig; rw [if_pos h]; omega
    · unfold zig; rw [if_neg h]; omega
  by_cases hn : n < 0
  · have ho := or_one (-1 - n) (by omega) (by omega)
    go_enter Try.func11, Try.ntmps11
    go_wp2
    clear ho
    go_loopw [3, 4] (fun u b wr => ∃ (f uu : Nat) (cur : List UInt8), u = .int .u64 (uu : Int) ∧ Hid (uu < 2 * 128 ^ f) ∧ f ≤ 9 ∧ wr.ownsRow w.heap.size 5 1 b cur.length (cells8 cur) ∧ Hid (cur ++ encF f uu = enc n) ∧ cur.length + f ≤ 9 ∧ Below w.heap.size w wr) (fun u _ _ => (intOf u).toNat)
    case atStart => exact ⟨9, zig n, [], congrArg (Value.int .u64) (HZ.out.1 hn), HZ.out.2.2, Nat.le_refl _, World.ownsRow_nil _ _ _ _, rfl, Nat.le_refl _, Below.refl _ _⟩
    case round =>
      obtain ⟨f, uu, cur, rfl, HU, hf, hown, HC, hlen, hb⟩ := hrel
      have hsz := hb.size
      have hu64 : (uu : Int) < 18446744073709551616 := by
        have h2 := HU.out
        have := Nat.mul_le_mul_left 2 (Nat.pow_le_pow_right (show 0 < 128 by omega) hf)
        omega
      by_cases hx : 128 ≤ uu
      · have hx' : (128 : Int) ≤ (uu : Int) := by omega
        go_wp2_with (at_builtin; refine wpList_append_own_at _ rfl (.tmp 17) (.tmp 22) 25 rfl w.heap.size 5 i (.int .u8 0) 1 1 Try.underlying25 hi hz0 hz1 hz2 rfl (by decide) u4 cur.length (cells8 cur) rfl (hown.alloc _) ⟨wr.heap.size, 0, none⟩ 1 1 [_] rfl rfl (cell_one_new _ _ _) (fun u hu => by simp at hu; subst hu; rfl) (by simp only [maxLen]; omega) (by omega) (by simp; omega) ?_)
        intro v' w1 hown' hgrow _ _
        obtain ⟨⟨g', cap', rfl⟩, HW⟩ := own_one (congrArg (Value.int .u8) (byte_more' uu)) hown hb hsz hown' hgrow
        clear hown' hgrow hown
        go_wp2
        go_roundw
        case rel =>
          obtain ⟨f', rfl⟩ : ∃ f', f = f' + 1 := by
            cases f with
            | zero => have := HU.out; omega
            | succ f' => exact ⟨f', rfl⟩
          refine ⟨f', uu / 128, cur ++ [UInt8.ofNat (uu % 128 + 128)], congrArg (Value.int .u64) (Int.natCast_ediv uu 128).symm, div_lt HU.out, by omega, HW.out.1, ?_, by simp; omega, HW.out.2⟩
          show _ = _
          rw [← HC.out, encF_more _ _ hx]; simp
        case measure => simp [intOf]; omega
      · have hx' : ¬ (128 : Int) ≤ (uu : Int) := by omega
        have hx2 : (uu : Int) < 128 := by omega
        go_wp2_with (at_builtin; refine wpList_append_own_at _ rfl (.tmp 26) (.tmp 29) 25 rfl w.heap.size 5 i (.int .u8 0) 1 1 Try.underlying25 hi hz0 hz1 hz2 rfl (by decide) u4 cur.length (cells8 cur) rfl (hown.alloc _) ⟨wr.heap.size, 0, none⟩ 1 1 [_] rfl rfl (cell_one_new _ _ _) (fun u hu => by simp at hu; subst hu; rfl) (by simp only [maxLen]; omega) (by omega) (by simp; omega) ?_)
        intro v' w1 hown' hgrow _ _
        obtain ⟨⟨g', cap', rfl⟩, HW⟩ := own_one (congrArg (Value.int .u8) (byte_last uu (by omega))) hown hb hsz hown' hgrow
        clear hown' hgrow hown
        go_wp2
        go_ret
        refine ⟨_, rfl, ?_⟩
        rw [← HC.out, encF_last _ _ (by omega)]
        exact HW.out
  · have hn' : 0 ≤ n := by omega
    go_enter Try.func11, Try.ntmps11
    go_wp2
    go_loopw [3, 4] (fun u b wr => ∃ (f uu : Nat) (cur : List UInt8), u = .int .u64 (uu : Int) ∧ Hid (uu < 2 * 128 ^ f) ∧ f ≤ 9 ∧ wr.ownsRow w.heap.size 5 1 b cur.length (cells8 cur) ∧ Hid (cur ++ encF f uu = enc n) ∧ cur.length + f ≤ 9 ∧ Below w.heap.size w wr) (fun u _ _ => (intOf u).toNat)
    case atStart => exact ⟨9, zig n, [], congrArg (Value.int .u64) (HZ.out.2.1 hn), HZ.out.2.2, Nat.le_refl _, World.ownsRow_nil _ _ _ _, rfl, Nat.le_refl _, Below.refl _ _⟩
    case round =>
      obtain ⟨f, uu, cur, rfl, HU, hf, hown, HC, hlen, hb⟩ := hrel
      have hsz := hb.size
      have hu64 : (uu : Int) < 18446744073709551616 := by
        have h2 := HU.out
        have := Nat.mul_le_mul_left 2 (Nat.pow_le_pow_right (show 0 < 128 by omega) hf)
        omega
      by_cases hx : 128 ≤ uu
      · have hx' : (128 : Int) ≤ (uu : Int) := by omega
        go_wp2_with (at_builtin; refine wpList_append_own_at _ rfl (.tmp 17) (.tmp 22) 25 rfl w.heap.size 5 i (.int .u8 0) 1 1 Try.underlying25 hi hz0 hz1 hz2 rfl (by decide) u4 cur.length (cells8 cur) rfl (hown.alloc _) ⟨wr.heap.size, 0, none⟩ 1 1 [_] rfl rfl (cell_one_new _ _ _) (fun u hu => by simp at hu; subst hu; rfl) (by simp only [maxLen]; omega) (by omega) (by simp; omega) ?_)
        intro v' w1 hown' hgrow _ _
        obtain ⟨⟨g', cap', rfl⟩, HW⟩ := own_one (congrArg (Value.int .u8) (byte_more' uu)) hown hb hsz hown' hgrow
        clear hown' hgrow hown
        go_wp2
        go_roundw
        case rel =>
          obtain ⟨f', rfl⟩ : ∃ f', f = f' + 1 := by
            cases f with
            | zero => have := HU.out; omega
            | succ f' => exact ⟨f', rfl⟩
          refine ⟨f', uu / 128, cur ++ [UInt8.ofNat (uu % 128 + 128)], congrArg (Value.int .u64) (Int.natCast_ediv uu 128).symm, div_lt HU.out, by omega, HW.out.1, ?_, by simp; omega, HW.out.2⟩
          show _ = _
          rw [← HC.out, encF_more _ _ hx]; simp
        case measure => simp [intOf]; omega
      · have hx' : ¬ (128 : Int) ≤ (uu : Int) := by omega
        have hx2 : (uu : Int) < 128 := by omega
        go_wp2_with (at_builtin; refine wpList_append_own_at _ rfl (.tmp 26) (.tmp 29) 25 rfl w.heap.size 5 i (.int .u8 0) 1 1 Try.underlying25 hi hz0 hz1 hz2 rfl (by decide) u4 cur.length (cells8 cur) rfl (hown.alloc _) ⟨wr.heap.size, 0, none⟩ 1 1 [_] rfl rfl (cell_one_new _ _ _) (fun u hu => by simp at hu; subst hu; rfl) (by simp only [maxLen]; omega) (by omega) (by simp; omega) ?_)
        intro v' w1 hown' hgrow _ _
        obtain ⟨⟨g', cap', rfl⟩, HW⟩ := own_one (congrArg (Value.int .u8) (byte_last uu (by omega))) hown hb hsz hown' hgrow
        clear hown' hgrow hown
        go_wp2
        go_ret
        refine ⟨_, rfl, ?_⟩
        rw [← HC.out, encF_last _ _ (by omega)]
        exact HW.out
end Go.Proofs.Ytebfpobdggephaa

/- The walk of the law BinTight. -/
import Derived.Test.YtebfpobdggephaaRefNum
namespace Go.Proofs.Ytebfpobdggephaa
open Go.RowKit

theorem own_mono {w : World} {base base' : Nat} {e : TypeId} {size : Nat} {v : Value} {n : Nat} {xs : List Value} (h : w.ownsRow base e size v n xs) (hb : base' ≤ base) : w.ownsRow base' e size v n xs := by
  obtain ⟨h1, h2⟩ := h
  refine ⟨h1, ?_⟩
  rcases h2 with h2 | ⟨g, cap, cur, e1, e2, e3⟩
  · exact Or.inl h2
  · exact Or.inr ⟨g, cap, cur, e1, by omega, e3⟩
theorem own_shape {w : World} {base n : Nat} {v : Value} {xs : List Value} (h : w.ownsRow base 5 1 v n xs) (hp : 0 < n) : ∃ g cap, v = .slice (some ⟨g, 0, none⟩) n cap ∧ base ≤ g ∧ n ≤ cap ∧ cap ≤ maxLen := by
  rcases h.2 with ⟨_, e⟩ | ⟨g, cap, cur, e1, e2, e3, e4, e5, _⟩
  · omega
  · exact ⟨g, cap, e1, e2, e4, e5⟩

/-- The bytes so far: all but the last bear the mark. -/
def Tight (n : Int) (k : Nat) (pre : List UInt8) (x : UInt8) : Prop :=
  (∀ j, j < pre.length → 128 ≤ at8 pre j) ∧ x.toNat < 128 ∧ (k = 0 → pre ++ [x] = enc n) ∧ (0 < k → x = 0 ∧ pre ≠ []) ∧ pre.length + 1 ≤ 10 + k

theorem tight_start (n : Int) (h0 : -9223372036854775808 ≤ n) (h1 : n ≤ 9223372036854775807) : ∃ pre x, enc n = pre ++ [x] ∧ Tight n 0 pre x := by
  have hu : zig n < 2 * 128 ^ 9 := by have := zig_lt n h0 h1; omega
  obtain ⟨b1, _, b3, _⟩ := encF_bytes 9 (zig n) hu
  have hp := enc_pos n
  have hle := enc_le n
  have he : enc n = encF 9 (zig n) := rfl
  rw [← he] at b1 b3
  have hne : enc n ≠ [] := List.length_pos_iff.1 hp
  have hsp : enc n = (enc n).dropLast ++ [(enc n).getLast hne] := (List.dropLast_concat_getLast hne).symm
  have hdl : (enc n).dropLast.length = (enc n).length - 1 := by simp
  refine ⟨_, _, hsp, fun j hj => ?_, ?_, fun _ => hsp.symm, fun h => absurd h (by omega), by omega⟩
  · have := b1 j (by omega)
    rw [hsp, at8_append_left _ _ _ hj] at this
    exact this
  · have hb := b3
    rw [hsp] at hb
    have e : ((enc n).dropLast ++ [(enc n).getLast hne]).length - 1 = (enc n).dropLast.length := by simp
    rw [e] at hb
    simp [at8, List.getD] at hb
    omega

theorem or128 (x : UInt8) (h : x.toNat < 128) : bits .or .u8 (x.toNat : Int) 128 = ((UInt8.ofNat (x.toNat + 128)).toNat : Int) := by
  rw [u8_or128_right _ (by omega) (by omega), toNat_lo (by omega)]; omega
theorem tight_step {n : Int} {k : Nat} {pre : List UInt8} {x : UInt8} (h : Tight n k pre x) : Tight n (k + 1) (pre ++ [UInt8.ofNat (x.toNat + 128)]) 0 := by
  obtain ⟨h1, h2, h3, h4, h5⟩ := h
  refine ⟨fun j hj => ?_, by decide, fun e => by omega, fun _ => ⟨rfl, by simp⟩, by simp; omega⟩
  rw [List.length_append, List.length_singleton] at hj
  by_cases e : j < pre.length
  · rw [at8_append_left _ _ _ e]; exact h1 j e
  · have ej : j = pre.length := by omega
    subst ej
    have hx : (UInt8.ofNat (x.toNat + 128)).toNat = x.toNat + 128 := toNat_lo (by omega)
    have : at8 (pre ++ [UInt8.ofNat (x.toNat + 128)]) pre.length = ((UInt8.ofNat (x.toNat + 128)).toNat : Int) := by simp [at8, List.getD]
    rw [this, hx]; omega

theorem cells8_last (pre : List UInt8) (x : UInt8) : (cells8 (pre ++ [x]))[pre.length]? = some (.int .u8 (x.toNat : Int)) := by
  simp [cells8]
theorem cells8_set_last (pre : List UInt8) (x y : UInt8) : (cells8 (pre ++ [x])).set pre.length (.int .u8 (y.toNat : Int)) = cells8 (pre ++ [y]) := by
  simp [cells8]

set_option maxHeartbeats 2000000 in
theorem binTight_loop (n : Int) (m : Nat) (w : World) (h0 : -9223372036854775808 ≤ n) (h1 : n ≤ 9223372036854775807) (hm : m ≤ 12) :
    Calls Try.prog 6 #[.int .i64 n, .int .i64 m] w fun e w' => e = .returned (.bool true) ∧ Below w.heap.size w w' := by
  obtain ⟨i, hi, hz0, hz1, hz2⟩ := info_parts Try.info5
  go_enter Try.func6, Try.ntmps6
  go_wp2_with (first
    | (go_at_call 8; refine (begun_any _).mono ?_; rintro e wa ⟨rfl, hba⟩)
    | (go_at_call 11; refine (refnum_any n _ h0 h1).mono ?_; rintro e wb ⟨vb, rfl, hOb, hbb⟩))
  obtain ⟨pre0, x0, he0, ht0⟩ := tight_start n h0 h1
  rw [he0] at hOb
  have hOb' := own_mono hOb hba.size
  have hbb' := hba.trans (hbb.mono hba.size)
  have HT0 : Hid (Tight n 0 pre0 x0) := ht0
  clear hOb hbb hba he0 ht0
  go_loopw [6, 7] (fun b i wr => ∃ (k : Nat) (pre : List UInt8) (x : UInt8), k ≤ m ∧ i = .int .i64 k ∧ wr.ownsRow w.heap.size 5 1 b (pre ++ [x]).length (cells8 (pre ++ [x])) ∧ Below w.heap.size w wr ∧ Hid (Tight n k pre x)) (fun _ i _ => m - (intOf i).toNat)
  case atStart => exact ⟨0, pre0, x0, Nat.zero_le _, rfl, hOb', hbb', HT0⟩
  case round =>
    clear hOb' hbb' HT0
    obtain ⟨k, pre, x, hk, rfl, hown, hb, HT⟩ := hrel
    rw [List.length_append, List.length_singleton] at hown
    obtain ⟨g, cap, rfl, hg, hc1, hc2⟩ := own_shape hown (by omega)
    have hlen := HT.out.2.2.2.2
    have hsz := hb.size
    have hx := hown.cellAt pre.length (by simp)
    rw [cells8_last] at hx
    have hfx := hown.frozenAt pre.length
    have hst := hown.stored pre.length (.int .u8 (bits .or .u8 (x.toNat : Int) 128))
    rw [show (cells8 (pre ++ [x])).set pre.length (.int .u8 (bits .or .u8 (x.toNat : Int) 128)) = cells8 (pre ++ [UInt8.ofNat (x.toNat + 128)]) from by rw [or128 x HT.out.2.1]; exact cells8_set_last _ _ _] at hst
    have hbl := hb.trans (Below.of_grown hst.2 hsz hg)
    have HST : Hid (_) := hst
    have hbs := hbl.size
    have HNW : Hid (∀ j u, [Value.int .u8 0][j]? = some u → ((wr.setCell ⟨g, pre.length, none⟩ (.int .u8 (bits .or .u8 (x.toNat : Int) 128))).alloc (.cells #[.int .u8 0] 5)).cell? ((⟨wr.heap.size, 0, none⟩ : Addr).add j) = some u) := by
      have := cell_one_new (wr.setCell ⟨g, pre.length, none⟩ (.int .u8 (bits .or .u8 (x.toNat : Int) 128))) (.int .u8 0) 5
      rw [show (wr.setCell ⟨g, pre.length, none⟩ (.int .u8 (bits .or .u8 (x.toNat : Int) 128))).heap.size = wr.heap.size from by simp [World.setCell]] at this
      exact this
    clear hst
    by_cases hlt : k < m
    · go_wp2_with (at_builtin; refine wpList_append_own_at _ rfl (.tmp 34) (.tmp 35) 25 rfl w.heap.size 5 i (.int .u8 0) 1 1 Try.underlying25 hi hz0 hz1 hz2 rfl (by decide) (.slice (some ⟨g, 0, none⟩) (pre.length + 1) cap) (pre.length + 1) _ rfl (HST.out.1.alloc _) ⟨wr.heap.size, 0, none⟩ 1 1 [.int .u8 0] rfl rfl HNW.out (fun u hu => by simp at hu; subst hu; rfl) (by simp only [maxLen]; omega) (by omega) (by simp; omega) ?_)
      intro v' w1 hown' hgrow _ _
      have hO1 : (wr.setCell ⟨g, pre.length, none⟩ (.int .u8 (bits .or .u8 (x.toNat : Int) 128))).ownsRow w.heap.size 5 1 (.slice (some ⟨g, 0, none⟩) (pre.length + 1) cap) (pre ++ [UInt8.ofNat (x.toNat + 128)]).length (cells8 (pre ++ [UInt8.ofNat (x.toNat + 128)])) := by
        rw [List.length_append, List.length_singleton]; exact HST.out.1
      obtain ⟨⟨g', cap', rfl⟩, HW⟩ := own_one (b := 0) rfl hO1 hbl hbs (by rw [List.length_append, List.length_singleton]; exact hown') hgrow
      clear hown' hgrow hown hO1
      go_wp2
      go_roundw
      case rel => exact ⟨k + 1, _, 0, by omega, by go_num, HW.out.1, HW.out.2, tight_step HT.out⟩
      case measure => simp [intOf]; omega
    · have hkm : k = m := by omega
      have hS : Sl wr (.slice (some ⟨g, 0, none⟩) (pre.length + 1) cap) (pre ++ [x]) := Sl.of_own (base := w.heap.size) (by rw [List.length_append, List.length_singleton]; exact hown)
      clear HST HNW hx hfx hbl hbs hown hc1 hc2
      have hml : (m : Int) ≤ 12 := by omega
      have HL : Hid ((pre ++ [x]).length ≤ 140737488355328) := by
        show _ ≤ _
        rw [List.length_append, List.length_singleton]; omega
      by_cases hm0 : m = 0
      · have HN : Hid (rNum (some (pre ++ [x])) = (n, some [])) := by
          have := rNum_enc n [] h0 h1
          rw [List.append_nil, ← HT.out.2.2.1 (by omega)] at this
          exact this
        have hmb : ((m : Int) == 0) = true := by rw [beq_iff_eq]; omega
        have hnn : (n == n) = true := by simp
        clear HT hlen
        subst hkm
        clear hm0
        go_wp2_with (first
          | (go_at_call 16; refine (read_any _ _ _ hS HL.out).mono ?_; rintro e w2 ⟨B, rfl, hB, hR, hb2⟩; have hb2' := hb.trans (hb2.mono hsz); have hBw : w.heap.size ≤ B := Nat.le_trans hsz hB)
          | (go_at_call 17; refine (rnum_is B _ _ _ _ hR HN.out).mono ?_; rintro e w3 ⟨rfl, hR3, hg3⟩; have hb3 := hb2'.trans (Below.of_grown hg3 hb2'.size hBw))
          | (go_at_call 20; refine (ok_any B _ _ hR3).mono ?_; rintro e w' ⟨rfl, hw⟩; have hw' := hw.symm; subst hw')
          | (go_at_call 21; refine (left_any B _ _ hR3).mono ?_; rintro e w' ⟨rfl, hw⟩; have hw' := hw.symm; subst hw'))
        go_ret
        exact ⟨rfl, hb3⟩
      · have HN : Hid (rNum (some (pre ++ [x])) = (0, none)) := by
          obtain ⟨t1, _, _, t4, _⟩ := HT.out
          obtain ⟨rfl, hp⟩ := t4 (by omega)
          show _ = _
          simp [rNum, num_wide pre hp t1]
        have hmb : ((m : Int) == 0) = false := by rw [beq_eq_false_iff_ne]; omega
        clear HT hlen
        subst hkm
        clear hm0
        go_wp2_with (first
          | (go_at_call 16; refine (read_any _ _ _ hS HL.out).mono ?_; rintro e w2 ⟨B, rfl, hB, hR, hb2⟩; have hb2' := hb.trans (hb2.mono hsz); have hBw : w.heap.size ≤ B := Nat.le_trans hsz hB)
          | (go_at_call 17; refine (rnum_is B _ _ _ _ hR HN.out).mono ?_; rintro e w3 ⟨rfl, hR3, hg3⟩; have hb3 := hb2'.trans (Below.of_grown hg3 hb2'.size hBw))
          | (go_at_call 20; refine (ok_any B _ _ hR3).mono ?_; rintro e w' ⟨rfl, hw⟩; have hw' := hw.symm; subst hw')
          | (go_at_call 21; refine (left_any B _ _ hR3).mono ?_; rintro e w' ⟨rfl, hw⟩; have hw' := hw.symm; subst hw')
          | (go_at_call 19; refine (rflag_none B _ hR3).mono ?_; rintro e w4 ⟨rfl, hR4, hg4⟩; have hb4 := hb3.trans (Below.of_grown hg4 hb3.size hBw))
          | (go_at_call 18; refine (rtext_none B none 0 _ hR4 rfl).mono ?_; rintro e w5 ⟨v5, rfl, hS5, hR5, hg5⟩; have hb5 := hb4.trans (Below.of_grown hg5 hb4.size hBw); obtain ⟨ao5, cap5, rfl, _, _⟩ := hS5.shape))
        go_ret
        exact ⟨rfl, hb5⟩

set_option maxHeartbeats 1000000 in
theorem binTight_out (n m : Int) (w : World) (hm : m < 0 ∨ 12 < m) :
    Calls Try.prog 6 #[.int .i64 n, .int .i64 m] w fun e w' => e = .returned (.bool true) ∧ Below w.heap.size w w' := by
  by_cases h0 : m < 0
  · clear hm
    go_enter Try.func6, Try.ntmps6
    go_wp2_with (first
      | (go_at_call 8; refine (begun_any _).mono ?_; rintro e wa ⟨rfl, hba⟩))
    go_ret
    exact ⟨rfl, hba⟩
  · have h1 : 12 < m := by omega
    clear hm
    go_enter Try.func6, Try.ntmps6
    go_wp2_with (first
      | (go_at_call 8; refine (begun_any _).mono ?_; rintro e wa ⟨rfl, hba⟩))
    go_ret
    exact ⟨rfl, hba⟩

theorem binTight_any (n m : Int) (w : World) (h0 : -9223372036854775808 ≤ n) (h1 : n ≤ 9223372036854775807) :
    Calls Try.prog 6 #[.int .i64 n, .int .i64 m] w fun e w' => e = .returned (.bool true) ∧ Below w.heap.size w w' := by
  by_cases hm : 0 ≤ m ∧ m ≤ 12
  · obtain ⟨k, rfl⟩ := Int.eq_ofNat_of_zero_le hm.1
    exact binTight_loop n k w h0 h1 (by omega)
  · exact binTight_out n m w (by omega)

end Go.Proofs.Ytebfpobdggephaa

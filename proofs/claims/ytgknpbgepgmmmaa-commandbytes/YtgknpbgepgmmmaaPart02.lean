/- The walks of a reader: Text and Flag. The walks of a writer: Num, Text, Flag, Bytes. The walk of the document's Num. The walk of the law BinTight. The walk of the law BinCut. -/
import Derived.Test.YtgknpbgepgmmmaaPart01
namespace Go.Proofs.Ytgknpbgepgmmmaa.Bn
open Go.RowKit

theorem rnum_is (B : Nat) (st st1 : Option (List UInt8)) (n : Int) (w : World) (h : Rd w 108 B st) (hn : rNum st = (n, st1)) :
    Calls Try.prog 35 #[.pointer (some ⟨B, 0, none⟩)] w fun e w' => e = .returned (.int .i64 n) ∧ Rd w' 108 B st1 ∧ w.grownBy w' (some B) := by
  have := rnum_any B st w h
  rw [hn] at this
  exact this

theorem grown_trans {a b c : World} {row : Option Nat} (h : a.grownBy b row) (k : b.grownBy c row) : a.grownBy c row := h.trans k
theorem grown_below {a b c : World} {row : Option Nat} (h : a.grownBy b row) (k : Below b.heap.size b c) : a.grownBy c row :=
  ⟨k.os.trans h.os, k.tape.trans h.tape, k.output.trans h.output, Nat.le_trans h.size k.size, fun i hi hne => (k.block i (Nat.lt_of_lt_of_le hi h.size)).trans (h.block i hi hne)⟩

set_option maxHeartbeats 400000 in
theorem rtext_none (B : Nat) (st : Option (List UInt8)) (n : Int) (w : World) (h : Rd w 108 B st) (hn : rNum st = (n, none)) :
    Calls Try.prog 36 #[.pointer (some ⟨B, 0, none⟩)] w fun e w' => ∃ v, e = .returned v ∧ Sl w' v [] ∧ Rd w' 108 B none ∧ w.grownBy w' (some B) := by
  have HN : Hid (rNum st = (n, none)) := hn
  clear hn
  go_enter Try.func36, Try.ntmps36
  go_wp2_with (first
    | (go_at_call 35; refine (rnum_is B st none n _ h HN.out).mono ?_; rintro e w1 ⟨rfl, hr1, hg1⟩)
    | (go_at_call 63; refine (ok_any B none _ hr1).mono ?_; rintro e w' ⟨rfl, rfl⟩))
  go_ret
  exact ⟨_, rfl, Sl.nil _, hr1, hg1⟩

set_option maxHeartbeats 400000 in
theorem rtext_bad (B : Nat) (st : Option (List UInt8)) (bs : List UInt8) (n : Int) (w : World) (h : Rd w 108 B st) (hn : rNum st = (n, some bs)) (hb : ¬ (0 ≤ n ∧ n ≤ bs.length)) :
    Calls Try.prog 36 #[.pointer (some ⟨B, 0, none⟩)] w fun e w' => ∃ v, e = .returned v ∧ Sl w' v [] ∧ Rd w' 108 B none ∧ w.grownBy w' (some B) := by
  have HN : Hid (rNum st = (n, some bs)) := hn
  clear hn
  by_cases h0 : n < 0
  · clear hb
    go_enter Try.func36, Try.ntmps36
    go_wp2_with (first
      | (go_at_call 35; refine (rnum_is B st (some bs) n _ h HN.out).mono ?_; rintro e w1 ⟨rfl, hr1, hg1⟩)
      | (go_at_call 63; refine (ok_any B (some bs) _ hr1).mono ?_; rintro e w' ⟨rfl, rfl⟩)
      | (go_at_call 65; refine (fail_any B (some bs) _ hr1).mono ?_; rintro e w2 ⟨rfl, hr2, hg2⟩))
    go_ret
    exact ⟨_, rfl, Sl.nil _, hr2, hg1.trans hg2⟩
  · have h1 : (bs.length : Int) < n := by omega
    clear hb
    go_enter Try.func36, Try.ntmps36
    go_wp2_with (first
      | (go_at_call 35; refine (rnum_is B st (some bs) n _ h HN.out).mono ?_; rintro e w1 ⟨rfl, hr1, hg1⟩)
      | (go_at_call 63; refine (ok_any B (some bs) _ hr1).mono ?_; rintro e w' ⟨rfl, rfl⟩; have H1 := hr1; obtain ⟨v, hB, hv, _, _⟩ := hr1; obtain ⟨ao, cap, rfl, _, _⟩ := hv.shape; obtain ⟨c0, _, _, _⟩ := two_cells hB; clear hB hv)
      | (go_at_call 65; refine (fail_any B (some bs) _ H1).mono ?_; rintro e w2 ⟨rfl, hr2, hg2⟩))
    go_ret
    exact ⟨_, rfl, Sl.nil _, hr2, hg1.trans hg2⟩

set_option maxHeartbeats 400000 in
theorem rtext_ok (B : Nat) (st : Option (List UInt8)) (bs : List UInt8) (m : Nat) (w : World) (h : Rd w 108 B st) (hn : rNum st = ((m : Int), some bs)) (hb : m ≤ bs.length) :
    Calls Try.prog 36 #[.pointer (some ⟨B, 0, none⟩)] w fun e w' => ∃ v, e = .returned v ∧ Sl w' v (bs.take m) ∧ Rd w' 108 B (some (bs.drop m)) ∧ w.grownBy w' (some B) := by
  have HN : Hid (rNum st = ((m : Int), some bs)) := hn
  clear hn
  have hb' : (m : Int) ≤ bs.length := by omega
  go_enter Try.func36, Try.ntmps36
  go_wp2_with fail
  refine (rnum_is B st (some bs) m _ h HN.out).mono ?_
  rintro e w1 ⟨rfl, hr1, hg1⟩
  have H1 := hr1
  obtain ⟨v, hB, hv, hp, hlim⟩ := hr1
  have hlim' : bs.length ≤ 140737488355328 := hlim
  rcases hp with rfl | ⟨g, off, n', cap, rfl⟩
  · have e0 := hv.len
    simp only [Option.getD_some] at e0
    have e1 : bs = [] := List.eq_nil_of_length_eq_zero e0.symm
    subst e1
    have e2 : m = 0 := by simpa using hb
    subst e2
    obtain ⟨c0, c1, f0, f1⟩ := two_cells hB
    have HP : Hid (_) := Rd.put hB hv (Sl.nil _) (Or.inl rfl) (by simp)
    clear hv hlim hlim' hB e0 hb hb'
    go_wp2_with (first
      | (go_at_call 63; refine (ok_any B (some []) _ H1).mono ?_; rintro e w' ⟨rfl, rfl⟩)
      | (go_at_call 61; refine (clone_nil _).mono ?_; rintro e w2 ⟨rfl, rfl⟩))
    go_ret
    exact ⟨_, rfl, Sl.nil _, HP.out.1, hg1.trans HP.out.2⟩
  · have e0 := hv.len
    simp only [Option.getD_some] at e0
    subst e0
    have hcap : bs.length ≤ cap := by obtain ⟨_, _, e, h1, _⟩ := hv; simp only [Value.slice.injEq] at e; rw [e.2.2]; exact h1
    obtain ⟨c0, c1, f0, f1⟩ := two_cells hB
    have hBl := lt_of_block hB
    have HV : Hid (Sl w1 (.slice (some ⟨g, off, none⟩) bs.length cap) bs) := hv
    have HB : Hid (_) := hB
    clear hv hlim hB
    go_wp2_with (first
      | (go_at_call 63; refine (ok_any B (some bs) _ H1).mono ?_; rintro e w' ⟨rfl, rfl⟩)
      | (go_at_call 61; refine (clone_any _ (bs.take m) _ (HV.out.take m hb) (by rw [List.length_take]; omega)).mono ?_; rintro e w2 ⟨v', rfl, hown, hb2⟩; have c0' := (hb2.cell (p := ⟨B, 0, none⟩) hBl).trans c0; have f0' := (hb2.frozen (p := ⟨B, 0, none⟩) hBl).trans f0; obtain ⟨ao', cap', rfl, _, _⟩ := (Sl.of_own hown).shape))
    all_goals go_ret
    all_goals
      have hB2 := (hb2.block B hBl).trans HB.out
      have hv2 := HV.out.below hb2
      have HP := Rd.put hB2 hv2 (sl_rest hv2 m hb).1 (sl_rest hv2 m hb).2 (by rw [List.length_drop]; omega)
      have hlm : (bs.take m).length = m := by rw [List.length_take]; omega
      have HS := (Sl.of_own hown).rd (st := some bs) ⟨_, hB2, hv2, Or.inr ⟨_, _, _, _, rfl⟩, hlim'⟩ HP.2
    · rw [if_pos (by assumption), show cap - m = 0 by omega] at HP HS
      rw [hlm] at HS
      exact ⟨_, rfl, HS, HP.1, (grown_below hg1 hb2).trans HP.2⟩
    · rw [if_neg (by assumption)] at HP HS
      rw [hlm] at HS
      exact ⟨_, rfl, HS, HP.1, (grown_below hg1 hb2).trans HP.2⟩

theorem rtext_any (B : Nat) (st : Option (List UInt8)) (w : World) (h : Rd w 108 B st) :
    Calls Try.prog 36 #[.pointer (some ⟨B, 0, none⟩)] w fun e w' => ∃ v, e = .returned v ∧ Sl w' v (rText st).1 ∧ Rd w' 108 B (rText st).2 ∧ w.grownBy w' (some B) := by
  unfold rText
  cases hn : rNum st with
  | mk n st1 =>
    cases st1 with
    | none => exact rtext_none B st n w h hn
    | some bs =>
      simp only [rCut]
      by_cases hb : 0 ≤ n ∧ n ≤ bs.length
      · rw [if_pos hb]
        obtain ⟨m, rfl⟩ := Int.eq_ofNat_of_zero_le hb.1
        exact rtext_ok B st bs m w h hn (by omega)
      · rw [if_neg hb]
        exact rtext_bad B st bs n w h hn hb

set_option maxHeartbeats 400000 in
theorem rtext_nil (w : World) :
    Calls Try.prog 36 #[.pointer none] w fun e w' => e = .returned (.slice none 0 0) ∧ w' = w := by
  go_enter Try.func36, Try.ntmps36
  go_wp2_with (first
    | (go_at_call 35; refine (rnum_nil _).mono ?_; rintro e w' ⟨rfl, rfl⟩)
    | (go_at_call 63; refine (ok_nil _).mono ?_; rintro e w' ⟨rfl, rfl⟩))
  go_ret
  exact ⟨rfl, rfl⟩

set_option maxHeartbeats 400000 in
theorem rflag_none (B : Nat) (w : World) (h : Rd w 108 B none) :
    Calls Try.prog 43 #[.pointer (some ⟨B, 0, none⟩)] w fun e w' => e = .returned (.bool false) ∧ Rd w' 108 B none ∧ w.grownBy w' (some B) := by
  go_enter Try.func43, Try.ntmps43
  go_wp2_with (go_at_call 63; refine (ok_any B none _ h).mono ?_; rintro e w' ⟨rfl, rfl⟩)
  go_ret
  exact ⟨rfl, h, grown_refl _ _⟩

set_option maxHeartbeats 400000 in
theorem rflag_empty (B : Nat) (w : World) (h : Rd w 108 B (some [])) :
    Calls Try.prog 43 #[.pointer (some ⟨B, 0, none⟩)] w fun e w' => e = .returned (.bool false) ∧ Rd w' 108 B none ∧ w.grownBy w' (some B) := by
  have H := h
  obtain ⟨v, hB, hv, _, _⟩ := h
  obtain ⟨ao, cap, rfl, _, _⟩ := hv.shape
  obtain ⟨c0, c1, f0, f1⟩ := two_cells hB
  clear hB hv
  go_enter Try.func43, Try.ntmps43
  go_wp2_with (first
    | (go_at_call 63; refine (ok_any B (some []) _ H).mono ?_; rintro e w' ⟨rfl, rfl⟩)
    | (go_at_call 65; refine (fail_any B (some []) _ H).mono ?_; rintro e w' ⟨rfl, hr', hg'⟩))
  go_ret
  exact ⟨rfl, hr', hg'⟩

set_option maxHeartbeats 400000 in
theorem rflag_cons (B : Nat) (b : UInt8) (r : List UInt8) (w : World) (h : Rd w 108 B (some (b :: r))) :
    Calls Try.prog 43 #[.pointer (some ⟨B, 0, none⟩)] w fun e w' => e = .returned (.bool (rFlag (some (b :: r))).1) ∧ Rd w' 108 B (rFlag (some (b :: r))).2 ∧ w.grownBy w' (some B) := by
  have H := h
  obtain ⟨v, hB, hv, hp, hlim⟩ := h
  have hlim' : (b :: r).length ≤ 140737488355328 := hlim
  obtain ⟨ao, cap, rfl, hc1, _⟩ := hv.shape
  obtain ⟨c0, c1, f0, f1⟩ := two_cells hB
  obtain ⟨g, off, rfl, hcell⟩ := hv.cell (by simp)
  have hx := hcell 0 (by simp)
  rw [Nat.add_zero, show at8 ((some (b :: r)).getD []) 0 = (b.toNat : Int) from rfl] at hx
  have hb2 : (b.toNat : Int) ≤ 255 := by have := UInt8.toNat_lt b; omega
  have hb0 : 0 ≤ (b.toNat : Int) := by omega
  have hcap : r.length + 1 ≤ cap := hc1
  have hne : (((r.length : Int) + 1) == 0) = false := by rw [beq_eq_false_iff_ne]; omega
  have HP : Hid (_) := Rd.put hB hv (sl_rest hv 1 (by simp)).1 (sl_rest hv 1 (by simp)).2 (by rw [List.length_drop]; omega)
  clear hB hv hcell hp hlim
  simp only [rFlag]
  by_cases h1 : 1 < b.toNat
  · rw [if_pos h1]
    have h1' : (1 : Int) < (b.toNat : Int) := by omega
    go_enter Try.func43, Try.ntmps43
    go_wp2_with (first
      | (go_at_call 63; refine (ok_any B (some (b :: r)) _ H).mono ?_; rintro e w' ⟨rfl, rfl⟩)
      | (go_at_call 65; refine (fail_any B (some (b :: r)) _ H).mono ?_; rintro e w' ⟨rfl, hr', hg'⟩))
    go_ret
    exact ⟨rfl, hr', hg'⟩
  · rw [if_neg h1]
    have h1' : ¬ (1 : Int) < (b.toNat : Int) := by omega
    have HE : Hid (((b.toNat : Int) == 1) = (b == 1)) := by
      show _ = _
      rw [Bool.eq_iff_iff, beq_iff_eq, beq_iff_eq, ← UInt8.toNat_inj]
      show _ ↔ b.toNat = 1
      omega
    go_enter Try.func43, Try.ntmps43
    go_wp2_with (first
      | (go_at_call 63; refine (ok_any B (some (b :: r)) _ H).mono ?_; rintro e w' ⟨rfl, rfl⟩))
    all_goals go_ret
    · have hp := HP.out
      rw [if_pos (by assumption), show cap - 1 = 0 by omega] at hp
      exact ⟨congrArg (fun x => Ending.returned (.bool x)) HE.out, hp⟩
    · have hp := HP.out
      rw [if_neg (by assumption)] at hp
      exact ⟨congrArg (fun x => Ending.returned (.bool x)) HE.out, hp⟩

theorem rflag_any (B : Nat) (st : Option (List UInt8)) (w : World) (h : Rd w 108 B st) :
    Calls Try.prog 43 #[.pointer (some ⟨B, 0, none⟩)] w fun e w' => e = .returned (.bool (rFlag st).1) ∧ Rd w' 108 B (rFlag st).2 ∧ w.grownBy w' (some B) := by
  match st, h with
  | none, h => exact rflag_none B w h
  | some [], h => exact rflag_empty B w h
  | some (b :: r), h => exact rflag_cons B b r w h

set_option maxHeartbeats 400000 in
theorem rflag_nil (w : World) :
    Calls Try.prog 43 #[.pointer none] w fun e w' => e = .returned (.bool false) ∧ w' = w := by
  go_enter Try.func43, Try.ntmps43
  go_wp2_with (go_at_call 63; refine (ok_nil _).mono ?_; rintro e w' ⟨rfl, rfl⟩)
  go_ret
  exact ⟨rfl, rfl⟩
end Go.Proofs.Ytgknpbgepgmmmaa.Bn
namespace Go.Proofs.Ytgknpbgepgmmmaa.Bn
open Go.RowKit

theorem one_cell {w : World} {B T : Nat} {v : Value} (h : w.heap[B]? = some (.cells #[v] T (0, 0))) : w.cell? ⟨B, 0, none⟩ = some v ∧ w.frozen? ⟨B, 0, none⟩ = false := ⟨cell_of_one h, free_of_one h⟩

theorem byte_more (uu : Nat) (h : uu < 18446744073709551616) : bits .or .u8 (bits .and .u64 (uu : Int) 127 % 256) 128 = ((UInt8.ofNat (uu % 128 + 128)).toNat : Int) := by
  have h1 : bits .and .u64 (uu : Int) 127 = ((uu % 128 : Nat) : Int) := by
    have := u64_and_nat uu 127 h (by omega)
    rw [nat_mask7] at this
    exact this
  rw [h1, toNat_lo (by omega), Int.emod_eq_of_lt (by omega) (by omega), u8_or128_right _ (by omega) (by omega)]
  omega
theorem byte_last (uu : Nat) (h : uu < 128) : (uu : Int) = ((UInt8.ofNat uu).toNat : Int) := by
  rw [toNat_lo (by omega)]

/-- Behind the append of one byte: the row and the field. -/
theorem put_one {wr w1 : World} {T base B : Nat} {vv v' x : Value} {cur : List UInt8} {b : UInt8} (h : Wr wr T base B vv cur) (hT : T ≠ 5) (hx : x = .int .u8 (b.toNat : Int)) (o : Obj)
    (hown : w1.ownsRow base 5 1 v' (cur.length + 1) (cells8 cur ++ [x])) (hgrow : (wr.alloc o).grownBy w1 vv.ownBlock) (hat : v'.ownBlock = vv.ownBlock ∨ v'.ownBlock = some (wr.heap.size + 1)) :
    (∃ g cap, v' = .slice (some ⟨g, 0, none⟩) (cur.length + 1) cap) ∧ w1.cell? ⟨B, 0, none⟩ = some vv ∧ w1.frozen? ⟨B, 0, none⟩ = false ∧
    Hid (Wr (w1.setCell ⟨B, 0, none⟩ v') T base B v' (cur ++ [b]) ∧ Wrote wr (w1.setCell ⟨B, 0, none⟩ v') B vv.ownBlock ∧ Moved wr vv v') := by
  have hg : wr.grownBy w1 vv.ownBlock := (World.grownBy_alloc wr o vv.ownBlock).trans hgrow
  have hB1 : w1.heap[B]? = some (.cells #[vv] T (0, 0)) := by rw [hg.block B h.lt (h.ne hT)]; exact h.1
  have hm : Moved wr vv v' := by
    rcases hat with e | e
    · exact Or.inl e
    · exact Or.inr ⟨_, e, by omega⟩
  refine ⟨?_, cell_of_one hB1, free_of_one hB1, Wr.put h hT (news := [b]) (by rw [hx] at hown; exact hown) hg hm⟩
  rcases hown.2 with ⟨_, e⟩ | ⟨g, cap, _, e, _⟩
  · omega
  · exact ⟨g, cap, e⟩

set_option maxHeartbeats 1000000 in
theorem wnum_any (base B : Nat) (v : Value) (bs : List UInt8) (n : Int) (w : World) (h : Wr w 71 base B v bs) (hbase : base ≤ w.heap.size) (h0 : -9223372036854775808 ≤ n) (h1 : n ≤ 9223372036854775807) (hl : bs.length + 10 ≤ 140737488355328) :
    Calls Try.prog 31 #[.pointer (some ⟨B, 0, none⟩), .int .i64 n] w fun e w' => e = .returned (.tuple #[]) ∧ ∃ v', Wr w' 71 base B v' (bs ++ enc n) ∧ Wrote w w' B v.ownBlock ∧ Moved w v v' := by
  obtain ⟨i, hi, hz0, hz1, hz2⟩ := info_parts Try.info5
  go_enter Try.func31, Try.ntmps31
  go_wp2_with (go_at_call 60; refine (fold_any n _ h0 h1).mono ?_; rintro e w' ⟨rfl, hw⟩; have hw' := hw.symm; subst hw')
  go_loopw [4] (fun u wr => ∃ (f uu : Nat) (vv : Value) (cur : List UInt8), u = .int .u64 (uu : Int) ∧ Hid (uu < 2 * 128 ^ f) ∧ f ≤ 9 ∧ Wr wr 71 base B vv cur ∧ Hid (cur ++ encF f uu = bs ++ enc n) ∧ cur.length + f ≤ bs.length + 9 ∧ Wrote w wr B v.ownBlock ∧ Moved w v vv) (fun u _ => (intOf u).toNat)
  case atStart => exact ⟨9, zig n, v, bs, rfl, by have := zig_lt n h0 h1; show _ < _; omega, Nat.le_refl _, h, rfl, Nat.le_refl _, Wrote.refl _ _ _, Moved.refl _ _⟩
  case round =>
    obtain ⟨f, uu, vv, cur, rfl, HU, hf, hWr, HC, hlen, hwro, hmov⟩ := hrel
    obtain ⟨c0, f0⟩ := one_cell hWr.1
    have hsz := hwro.size
    have hBl := hWr.lt
    by_cases hx : 128 ≤ uu
    · have hx' : (127 : Int) < (uu : Int) := by omega
      go_wp2_with (at_builtin; refine wpList_append_own_at _ rfl (.tmp 15) (.tmp 20) 24 rfl base 5 i (.int .u8 0) 1 1 Try.underlying24 hi hz0 hz1 hz2 rfl (by decide) vv cur.length (cells8 cur) rfl (hWr.2.alloc _) ⟨wr.heap.size, 0, none⟩ 1 1 [_] rfl rfl (cell_one_new _ _ _) (fun u hu => by simp at hu; subst hu; rfl) (by simp only [maxLen]; omega) (by omega) (by simp; omega) ?_)
      intro v' w1 hown' hgrow _ hat
      have hu64 : uu < 18446744073709551616 := by
        have h2 := HU.out
        have := Nat.mul_le_mul_left 2 (Nat.pow_le_pow_right (show 0 < 128 by omega) hf)
        omega
      obtain ⟨⟨g', cap', rfl⟩, c0', f0', HW⟩ := put_one hWr (by decide) (congrArg (Value.int .u8) (byte_more uu hu64)) _ hown' hgrow hat
      clear hown' hgrow hat c0 f0
      go_wp2
      go_roundw
      case rel =>
        obtain ⟨f', rfl⟩ : ∃ f', f = f' + 1 := by
          cases f with
          | zero => have := HU.out; omega
          | succ f' => exact ⟨f', rfl⟩
        refine ⟨f', uu / 128, _, cur ++ [UInt8.ofNat (uu % 128 + 128)], ?_, div_lt HU.out, by omega, HW.out.1, ?_, by simp; omega, hwro.trans hmov HW.out.2.1, hmov.trans HW.out.2.2 hwro.size⟩
        · exact congrArg (Value.int .u64) (Int.natCast_ediv uu 128).symm
        · show _ = _
          rw [← HC.out, encF_more _ _ hx]; simp
      case measure => simp [intOf]; omega
    · have hx' : ¬ (127 : Int) < (uu : Int) := by omega
      go_wp2_with (at_builtin; refine wpList_append_own_at _ rfl (.tmp 30) (.tmp 33) 24 rfl base 5 i (.int .u8 0) 1 1 Try.underlying24 hi hz0 hz1 hz2 rfl (by decide) vv cur.length (cells8 cur) rfl (hWr.2.alloc _) ⟨wr.heap.size, 0, none⟩ 1 1 [_] rfl rfl (cell_one_new _ _ _) (fun u hu => by simp at hu; subst hu; rfl) (by simp only [maxLen]; omega) (by omega) (by simp; omega) ?_)
      intro v' w1 hown' hgrow _ hat
      obtain ⟨⟨g', cap', rfl⟩, c0', f0', HW⟩ := put_one hWr (by decide) (congrArg (Value.int .u8) (byte_last uu (by omega))) _ hown' hgrow hat
      clear hown' hgrow hat c0 f0
      go_wp2
      go_end0
      refine ⟨rfl, _, ?_, hwro.trans hmov HW.out.2.1, hmov.trans HW.out.2.2 hwro.size⟩
      have := HW.out.1
      rw [← HC.out, encF_last _ _ (by omega)]
      exact this

set_option maxHeartbeats 400000 in
theorem wnum_nil (n : Int) (w : World) :
    Calls Try.prog 31 #[.pointer none, .int .i64 n] w fun e w' => e = .returned (.tuple #[]) ∧ w' = w := by
  go_enter Try.func31, Try.ntmps31
  go_wp2
  try simp only [Exit.inBlock, Exit.then]
  exact bodyPost_ret (results_none rfl _ _ _) rfl ⟨rfl, rfl⟩

set_option maxRecDepth 4000 in
set_option maxHeartbeats 1000000 in
theorem wflag_any (base B : Nat) (v : Value) (bs : List UInt8) (b : Bool) (w : World) (h : Wr w 71 base B v bs) (hbase : base ≤ w.heap.size) (hl : bs.length + 1 ≤ 140737488355328) :
    Calls Try.prog 40 #[.pointer (some ⟨B, 0, none⟩), .bool b] w fun e w' => e = .returned (.tuple #[]) ∧ ∃ v', Wr w' 71 base B v' (bs ++ [if b then 1 else 0]) ∧ Wrote w w' B v.ownBlock ∧ Moved w v v' := by
  obtain ⟨i, hi, hz0, hz1, hz2⟩ := info_parts Try.info5
  obtain ⟨c0, f0⟩ := one_cell h.1
  have hBl := h.lt
  cases b
  · go_enter Try.func40, Try.ntmps40
    go_wp2_with (at_builtin; refine wpList_append_own_at _ rfl _ _ 24 rfl base 5 i (.int .u8 0) 1 1 Try.underlying24 hi hz0 hz1 hz2 rfl (by decide) v bs.length (cells8 bs) rfl (h.2.alloc _) ⟨w.heap.size, 0, none⟩ 1 1 [_] rfl rfl (cell_one_new _ _ _) (fun u hu => by simp at hu; subst hu; rfl) (by simp only [maxLen]; omega) (by omega) (by simp; omega) ?_)
    intro v' w1 hown' hgrow _ hat
    obtain ⟨⟨g', cap', rfl⟩, c0', f0', HW⟩ := put_one (b := 0) h (by decide) rfl _ hown' hgrow hat
    clear hown' hgrow hat c0 f0
    go_wp2
    go_end0
    exact ⟨rfl, _, HW.out⟩
  · go_enter Try.func40, Try.ntmps40
    go_wp2_with (at_builtin; refine wpList_append_own_at _ rfl _ _ 24 rfl base 5 i (.int .u8 0) 1 1 Try.underlying24 hi hz0 hz1 hz2 rfl (by decide) v bs.length (cells8 bs) rfl (h.2.alloc _) ⟨w.heap.size, 0, none⟩ 1 1 [_] rfl rfl (cell_one_new _ _ _) (fun u hu => by simp at hu; subst hu; rfl) (by simp only [maxLen]; omega) (by omega) (by simp; omega) ?_)
    intro v' w1 hown' hgrow _ hat
    obtain ⟨⟨g', cap', rfl⟩, c0', f0', HW⟩ := put_one (b := 1) h (by decide) rfl _ hown' hgrow hat
    clear hown' hgrow hat c0 f0
    go_wp2
    go_end0
    exact ⟨rfl, _, HW.out⟩

set_option maxHeartbeats 400000 in
theorem wflag_nil (b : Bool) (w : World) :
    Calls Try.prog 40 #[.pointer none, .bool b] w fun e w' => e = .returned (.tuple #[]) ∧ w' = w := by
  go_enter Try.func40, Try.ntmps40
  go_wp2
  try simp only [Exit.inBlock, Exit.then]
  exact bodyPost_ret (results_none rfl _ _ _) rfl ⟨rfl, rfl⟩

set_option maxHeartbeats 400000 in
theorem wtext_nil (v : Value) (w : World) :
    Calls Try.prog 32 #[.pointer none, v] w fun e w' => e = .returned (.tuple #[]) ∧ w' = w := by
  go_enter Try.func32, Try.ntmps32
  go_wp2
  try simp only [Exit.inBlock, Exit.then]
  exact bodyPost_ret (results_none rfl _ _ _) rfl ⟨rfl, rfl⟩

set_option maxHeartbeats 400000 in
theorem wbytes_nil (w : World) :
    Calls Try.prog 33 #[.pointer none] w fun e w' => e = .returned (.slice none 0 0) ∧ w' = w := by
  go_enter Try.func33, Try.ntmps33
  go_wp2
  go_ret
  exact ⟨rfl, rfl⟩

set_option maxHeartbeats 400000 in
theorem wbytes_any (base B : Nat) (v : Value) (bs : List UInt8) (w : World) (h : Wr w 71 base B v bs) (hl : bs.length ≤ 140737488355328) :
    Calls Try.prog 33 #[.pointer (some ⟨B, 0, none⟩)] w fun e w' => ∃ v', e = .returned v' ∧ w'.ownsRow w.heap.size 5 1 v' bs.length (cells8 bs) ∧ Below w.heap.size w w' := by
  obtain ⟨c0, f0⟩ := one_cell h.1
  obtain ⟨ao, cap, rfl, _, _⟩ := h.sl.shape
  go_enter Try.func33, Try.ntmps33
  go_wp2_with (go_at_call 61; refine (clone_any _ bs _ h.sl hl).mono ?_; rintro e w' ⟨v', rfl, hown, hb⟩)
  go_ret
  exact ⟨_, rfl, hown, hb⟩

/-- Behind the append of bytes: the row and the field. -/
theorem put_many {wr w1 : World} {T base B : Nat} {vv v' : Value} {cur news : List UInt8} (h : Wr wr T base B vv cur) (hT : T ≠ 5)
    (hown : w1.ownsRow base 5 1 v' (cur.length + news.length) (cells8 cur ++ cells8 news)) (hg : wr.grownBy w1 vv.ownBlock) (hat : v'.ownBlock = vv.ownBlock ∨ v'.ownBlock = some wr.heap.size) :
    (∃ ao cap, v' = .slice ao (cur.length + news.length) cap) ∧ w1.cell? ⟨B, 0, none⟩ = some vv ∧ w1.frozen? ⟨B, 0, none⟩ = false ∧
    Hid (Wr (w1.setCell ⟨B, 0, none⟩ v') T base B v' (cur ++ news) ∧ Wrote wr (w1.setCell ⟨B, 0, none⟩ v') B vv.ownBlock ∧ Moved wr vv v') := by
  have hB1 : w1.heap[B]? = some (.cells #[vv] T (0, 0)) := by rw [hg.block B h.lt (h.ne hT)]; exact h.1
  have hm : Moved wr vv v' := by
    rcases hat with e | e
    · exact Or.inl e
    · exact Or.inr ⟨_, e, by omega⟩
  refine ⟨?_, cell_of_one hB1, free_of_one hB1, Wr.put h hT hown hg hm⟩
  rcases hown.2 with ⟨e, e0⟩ | ⟨g, cap, _, e, _⟩
  · exact ⟨none, 0, by rw [e, e0]⟩
  · exact ⟨_, cap, e⟩

theorem sl_news {w : World} {a : Addr} {cap : Nat} {bs : List UInt8} (h : Sl w (.slice (some a) bs.length cap) bs) : ∀ j u, (cells8 bs)[j]? = some u → w.cell? (a.add j) = some u := by
  intro j u hj
  have hjl : j < bs.length := by have := (List.getElem?_eq_some_iff.1 hj).1; simpa [cells8_len] using this
  obtain ⟨g, off, ha, hc⟩ := h.cell (by omega)
  simp only [Option.some.injEq] at ha
  subst ha
  rw [Addr.add_lit, hc j hjl, ← hj, cells8_at _ _ hjl]

set_option maxHeartbeats 1000000 in
theorem wtext_some (base B : Nat) (v : Value) (a : Addr) (cap : Nat) (bs t : List UInt8) (w : World) (h : Wr w 71 base B v bs) (hbase : base ≤ w.heap.size) (hsep : ∀ w', Wrote w w' B v.ownBlock → Sl w' (.slice (some a) t.length cap) t) (hl : bs.length + 10 + t.length ≤ 140737488355328) :
    Calls Try.prog 32 #[.pointer (some ⟨B, 0, none⟩), .slice (some a) t.length cap] w fun e w' => e = .returned (.tuple #[]) ∧ ∃ v', Wr w' 71 base B v' (bs ++ (enc t.length ++ t)) ∧ Wrote w w' B v.ownBlock ∧ Moved w v v' := by
  obtain ⟨i, hi, hz0, hz1, hz2⟩ := info_parts Try.info5
  go_enter Try.func32, Try.ntmps32
  go_wp2_with fail
  refine (wnum_any base B v bs t.length w h hbase (by omega) (by omega) (by omega)).mono ?_
  rintro e w1 ⟨rfl, v1, hW1, hw1, hm1⟩
  have ht1 := hsep w1 hw1
  obtain ⟨c0, f0⟩ := one_cell hW1.1
  have hb1 : base ≤ w1.heap.size := Nat.le_trans hbase hw1.size
  have hle := enc_le t.length
  have hlen1 : (bs ++ enc t.length).length ≤ bs.length + 10 := by rw [List.length_append]; omega
  go_wp2_with (at_builtin; refine wpList_append_own_at _ rfl _ _ 24 rfl base 5 i (.int .u8 0) 1 1 Try.underlying24 hi hz0 hz1 hz2 rfl (by decide) v1 _ _ rfl hW1.2 a t.length cap (cells8 t) rfl (by rw [cells8_len, Nat.mul_one]) (sl_news ht1) (cells8_one t) (by simp only [maxLen]; omega) (by omega) hb1 ?_)
  intro v' w2 hown' hgrow _ hat
  obtain ⟨⟨ao', cap', rfl⟩, c0', f0', HW⟩ := put_many (news := t) hW1 (by decide) (by rw [List.length_append]; exact hown') hgrow hat
  rw [List.length_append] at HW
  clear hown' hgrow hat c0 f0
  go_wp2
  go_end0
  refine ⟨rfl, _, ?_, hw1.trans hm1 HW.out.2.1, hm1.trans HW.out.2.2 hw1.size⟩
  rw [← List.append_assoc]
  exact HW.out.1

set_option maxHeartbeats 1000000 in
theorem wtext_none (base B : Nat) (v : Value) (bs : List UInt8) (w : World) (h : Wr w 71 base B v bs) (hbase : base ≤ w.heap.size) (hl : bs.length + 10 ≤ 140737488355328) :
    Calls Try.prog 32 #[.pointer (some ⟨B, 0, none⟩), .slice none 0 0] w fun e w' => e = .returned (.tuple #[]) ∧ ∃ v', Wr w' 71 base B v' (bs ++ enc 0) ∧ Wrote w w' B v.ownBlock ∧ Moved w v v' := by
  obtain ⟨i, hi, hz0, hz1, hz2⟩ := info_parts Try.info5
  go_enter Try.func32, Try.ntmps32
  go_wp2_with fail
  refine (wnum_any base B v bs 0 w h hbase (by omega) (by omega) (by omega)).mono ?_
  rintro e w1 ⟨rfl, v1, hW1, hw1, hm1⟩
  obtain ⟨c0, f0⟩ := one_cell hW1.1
  have HW : Hid (_) := Wr.put (news := []) hW1 (by decide) (by rw [List.length_nil, Nat.add_zero, show cells8 [] = [] from rfl, List.append_nil]; exact hW1.2) (grown_refl _ _) (Moved.refl _ _)
  rw [List.append_nil] at HW
  generalize hE : bs ++ enc 0 = E at hW1 HW c0
  have HE : Hid (bs ++ enc 0 = E) := hE
  clear hE
  obtain ⟨ao1, cap1, rfl, _, _⟩ := hW1.sl.shape
  go_wp2_with (at_builtin; refine wpList_append_own_none rfl _ _ 24 rfl base 5 i 1 Try.underlying24 hi _ _ _ rfl hW1.2 rfl ?_)
  go_end0
  exact ⟨rfl, _, by rw [HE.out]; exact HW.out.1, hw1.trans hm1 HW.out.2.1, hm1.trans HW.out.2.2 hw1.size⟩

theorem wtext_any (base B : Nat) (v vt : Value) (bs t : List UInt8) (w : World) (h : Wr w 71 base B v bs) (hbase : base ≤ w.heap.size) (ht : Sl w vt t) (hsep : ∀ w', Wrote w w' B v.ownBlock → Sl w' vt t) (hl : bs.length + 10 + t.length ≤ 140737488355328) :
    Calls Try.prog 32 #[.pointer (some ⟨B, 0, none⟩), vt] w fun e w' => e = .returned (.tuple #[]) ∧ ∃ v', Wr w' 71 base B v' (bs ++ (enc t.length ++ t)) ∧ Wrote w w' B v.ownBlock ∧ Moved w v v' := by
  obtain ⟨ao, cap, rfl, h1, h2, h3, h4⟩ := ht
  cases ao with
  | some a => exact wtext_some base B v a cap bs t w h hbase hsep hl
  | none =>
    have hc := h3 rfl
    have e : t = [] := List.eq_nil_of_length_eq_zero (by omega)
    subst e hc
    have := wtext_none base B v bs w h hbase (by omega)
    simpa using this
end Go.Proofs.Ytgknpbgepgmmmaa.Bn
namespace Go.Proofs.Ytgknpbgepgmmmaa.Bn
open Go.RowKit

theorem or_one (m : Int) (h0 : 0 ≤ m) (h1 : m ≤ 9223372036854775807) : bits .or .u64 (m * 2) 1 = m * 2 + 1 := by
  obtain ⟨k, rfl⟩ := Int.eq_ofNat_of_zero_le h0
  have := u64_or_nat (k * 2) 1 (by omega) (by omega)
  rw [nat_join 1 (k * 2) 1 (by omega) (by omega)] at this
  simpa using this
theorem byte_more' (uu : Nat) : (uu : Int) % 128 + 128 = ((UInt8.ofNat (uu % 128 + 128)).toNat : Int) := by
  rw [toNat_lo (by omega)]; omega

/-- Behind the append of one byte to a slice of the call's own. -/
theorem own_one {wr w1 : World} {base : Nat} {vv v' x : Value} {cur : List UInt8} {b : UInt8} {w : World} {o : Obj} (hx : x = .int .u8 (b.toNat : Int)) (hvv : wr.ownsRow base 5 1 vv cur.length (cells8 cur)) (hbel : Below base w wr) (hbase : base ≤ wr.heap.size)
    (hown : w1.ownsRow base 5 1 v' (cur.length + 1) (cells8 cur ++ [x])) (hgrow : (wr.alloc o).grownBy w1 vv.ownBlock) :
    (∃ g cap, v' = .slice (some ⟨g, 0, none⟩) (cur.length + 1) cap) ∧ Hid (w1.ownsRow base 5 1 v' (cur ++ [b]).length (cells8 (cur ++ [b])) ∧ Below base w w1) := by
  refine ⟨?_, by rw [List.length_append, cells8_append]; rw [hx] at hown; exact hown, (hbel.alloc hbase o).grown hgrow (by simp; omega) (fun k hk => (hvv.lt k hk).1)⟩
  rcases hown.2 with ⟨_, e⟩ | ⟨g, cap, _, e, _⟩
  · omega
  · exact ⟨g, cap, e⟩

set_option maxHeartbeats 2000000 in
theorem refnum_any (n : Int) (w : World) (h0 : -9223372036854775808 ≤ n) (h1 : n ≤ 9223372036854775807) :
    Calls Try.prog 12 #[.int .i64 n] w fun e w' => ∃ v, e = .returned v ∧ w'.ownsRow w.heap.size 5 1 v (enc n).length (cells8 (enc n)) ∧ Below w.heap.size w w' := by
  obtain ⟨i, hi, hz0, hz1, hz2⟩ := info_parts Try.info5
  have HZ : Hid ((n < 0 → (-1 - n) * 2 + 1 = ((zig n : Nat) : Int)) ∧ (¬ n < 0 → n * 2 = ((zig n : Nat) : Int)) ∧ zig n < 2 * 128 ^ 9) := by
    refine ⟨fun h => ?_, fun h => ?_, by have := zig_lt n h0 h1; omega⟩
    · unfold zig; rw [if_pos h]; omega
    · unfold zig; rw [if_neg h]; omega
  by_cases hn : n < 0
  · have ho := or_one (-1 - n) (by omega) (by omega)
    go_enter Try.func12, Try.ntmps12
    go_wp2
    clear ho
    go_loopw [3, 4] (fun u b wr => ∃ (f uu : Nat) (cur : List UInt8), u = .int .u64 (uu : Int) ∧ Hid (uu < 2 * 128 ^ f) ∧ f ≤ 9 ∧ wr.ownsRow w.heap.size 5 1 b cur.length (cells8 cur) ∧ Hid (cur ++ encF f uu = enc n) ∧ cur.length + f ≤ 9 ∧ Below w.heap.size w wr) (fun u _ _ => (intOf u).toNat)
    case atStart => exact ⟨9, zig n, [], congrArg (Value.int .u64) (HZ.out.1 hn), HZ.out.2.2, Nat.le_refl _, World.ownsRow_nil _ _ _ _, rfl, Nat.le_refl _, Below.refl _ _⟩
    case round =>
      obtain ⟨f, uu, cur, rfl, HU, hf, hown, HC, hlen, hb⟩ := hrel
      have hsz := hb.size
      have hu64 : (uu : Int) < 18446744073709551616 := by
        have h2 := HU.out
        have := Nat.mul_le_mul_left 2 (Nat.pow_le_pow_right (show 0 < 128 by omega) hf)
        omega
      by_cases hx : 128 ≤ uu
      · have hx' : (128 : Int) ≤ (uu : Int) := by omega
        go_wp2_with (at_builtin; refine wpList_append_own_at _ rfl (.tmp 17) (.tmp 22) 24 rfl w.heap.size 5 i (.int .u8 0) 1 1 Try.underlying24 hi hz0 hz1 hz2 rfl (by decide) u4 cur.length (cells8 cur) rfl (hown.alloc _) ⟨wr.heap.size, 0, none⟩ 1 1 [_] rfl rfl (cell_one_new _ _ _) (fun u hu => by simp at hu; subst hu; rfl) (by simp only [maxLen]; omega) (by omega) (by simp; omega) ?_)
        intro v' w1 hown' hgrow _ _
        obtain ⟨⟨g', cap', rfl⟩, HW⟩ := own_one (congrArg (Value.int .u8) (byte_more' uu)) hown hb hsz hown' hgrow
        clear hown' hgrow hown
        go_wp2
        go_roundw
        case rel =>
          obtain ⟨f', rfl⟩ : ∃ f', f = f' + 1 := by
            cases f with
            | zero => have := HU.out; omega
            | succ f' => exact ⟨f', rfl⟩
          refine ⟨f', uu / 128, cur ++ [UInt8.ofNat (uu % 128 + 128)], congrArg (Value.int .u64) (Int.natCast_ediv uu 128).symm, div_lt HU.out, by omega, HW.out.1, ?_, by simp; omega, HW.out.2⟩
          show _ = _
          rw [← HC.out, encF_more _ _ hx]; simp
        case measure => simp [intOf]; omega
      · have hx' : ¬ (128 : Int) ≤ (uu : Int) := by omega
        have hx2 : (uu : Int) < 128 := by omega
        go_wp2_with (at_builtin; refine wpList_append_own_at _ rfl (.tmp 26) (.tmp 29) 24 rfl w.heap.size 5 i (.int .u8 0) 1 1 Try.underlying24 hi hz0 hz1 hz2 rfl (by decide) u4 cur.length (cells8 cur) rfl (hown.alloc _) ⟨wr.heap.size, 0, none⟩ 1 1 [_] rfl rfl (cell_one_new _ _ _) (fun u hu => by simp at hu; subst hu; rfl) (by simp only [maxLen]; omega) (by omega) (by simp; omega) ?_)
        intro v' w1 hown' hgrow _ _
        obtain ⟨⟨g', cap', rfl⟩, HW⟩ := own_one (congrArg (Value.int .u8) (byte_last uu (by omega))) hown hb hsz hown' hgrow
        clear hown' hgrow hown
        go_wp2
        go_ret
        refine ⟨_, rfl, ?_⟩
        rw [← HC.out, encF_last _ _ (by omega)]
        exact HW.out
  · have hn' : 0 ≤ n := by omega
    go_enter Try.func12, Try.ntmps12
    go_wp2
    go_loopw [3, 4] (fun u b wr => ∃ (f uu : Nat) (cur : List UInt8), u = .int .u64 (uu : Int) ∧ Hid (uu < 2 * 128 ^ f) ∧ f ≤ 9 ∧ wr.ownsRow w.heap.size 5 1 b cur.length (cells8 cur) ∧ Hid (cur ++ encF f uu = enc n) ∧ cur.length + f ≤ 9 ∧ Below w.heap.size w wr) (fun u _ _ => (intOf u).toNat)
    case atStart => exact ⟨9, zig n, [], congrArg (Value.int .u64) (HZ.out.2.1 hn), HZ.out.2.2, Nat.le_refl _, World.ownsRow_nil _ _ _ _, rfl, Nat.le_refl _, Below.refl _ _⟩
    case round =>
      obtain ⟨f, uu, cur, rfl, HU, hf, hown, HC, hlen, hb⟩ := hrel
      have hsz := hb.size
      have hu64 : (uu : Int) < 18446744073709551616 := by
        have h2 := HU.out
        have := Nat.mul_le_mul_left 2 (Nat.pow_le_pow_right (show 0 < 128 by omega) hf)
        omega
      by_cases hx : 128 ≤ uu
      · have hx' : (128 : Int) ≤ (uu : Int) := by omega
        go_wp2_with (at_builtin; refine wpList_append_own_at _ rfl (.tmp 17) (.tmp 22) 24 rfl w.heap.size 5 i (.int .u8 0) 1 1 Try.underlying24 hi hz0 hz1 hz2 rfl (by decide) u4 cur.length (cells8 cur) rfl (hown.alloc _) ⟨wr.heap.size, 0, none⟩ 1 1 [_] rfl rfl (cell_one_new _ _ _) (fun u hu => by simp at hu; subst hu; rfl) (by simp only [maxLen]; omega) (by omega) (by simp; omega) ?_)
        intro v' w1 hown' hgrow _ _
        obtain ⟨⟨g', cap', rfl⟩, HW⟩ := own_one (congrArg (Value.int .u8) (byte_more' uu)) hown hb hsz hown' hgrow
        clear hown' hgrow hown
        go_wp2
        go_roundw
        case rel =>
          obtain ⟨f', rfl⟩ : ∃ f', f = f' + 1 := by
            cases f with
            | zero => have := HU.out; omega
            | succ f' => exact ⟨f', rfl⟩
          refine ⟨f', uu / 128, cur ++ [UInt8.ofNat (uu % 128 + 128)], congrArg (Value.int .u64) (Int.natCast_ediv uu 128).symm, div_lt HU.out, by omega, HW.out.1, ?_, by simp; omega, HW.out.2⟩
          show _ = _
          rw [← HC.out, encF_more _ _ hx]; simp
        case measure => simp [intOf]; omega
      · have hx' : ¬ (128 : Int) ≤ (uu : Int) := by omega
        have hx2 : (uu : Int) < 128 := by omega
        go_wp2_with (at_builtin; refine wpList_append_own_at _ rfl (.tmp 26) (.tmp 29) 24 rfl w.heap.size 5 i (.int .u8 0) 1 1 Try.underlying24 hi hz0 hz1 hz2 rfl (by decide) u4 cur.length (cells8 cur) rfl (hown.alloc _) ⟨wr.heap.size, 0, none⟩ 1 1 [_] rfl rfl (cell_one_new _ _ _) (fun u hu => by simp at hu; subst hu; rfl) (by simp only [maxLen]; omega) (by omega) (by simp; omega) ?_)
        intro v' w1 hown' hgrow _ _
        obtain ⟨⟨g', cap', rfl⟩, HW⟩ := own_one (congrArg (Value.int .u8) (byte_last uu (by omega))) hown hb hsz hown' hgrow
        clear hown' hgrow hown
        go_wp2
        go_ret
        refine ⟨_, rfl, ?_⟩
        rw [← HC.out, encF_last _ _ (by omega)]
        exact HW.out
end Go.Proofs.Ytgknpbgepgmmmaa.Bn
namespace Go.Proofs.Ytgknpbgepgmmmaa.Bn
open Go.RowKit

theorem own_mono {w : World} {base base' : Nat} {e : TypeId} {size : Nat} {v : Value} {n : Nat} {xs : List Value} (h : w.ownsRow base e size v n xs) (hb : base' ≤ base) : w.ownsRow base' e size v n xs := by
  obtain ⟨h1, h2⟩ := h
  refine ⟨h1, ?_⟩
  rcases h2 with h2 | ⟨g, cap, cur, e1, e2, e3⟩
  · exact Or.inl h2
  · exact Or.inr ⟨g, cap, cur, e1, by omega, e3⟩
theorem own_shape {w : World} {base n : Nat} {v : Value} {xs : List Value} (h : w.ownsRow base 5 1 v n xs) (hp : 0 < n) : ∃ g cap, v = .slice (some ⟨g, 0, none⟩) n cap ∧ base ≤ g ∧ n ≤ cap ∧ cap ≤ maxLen := by
  rcases h.2 with ⟨_, e⟩ | ⟨g, cap, cur, e1, e2, e3, e4, e5, _⟩
  · omega
  · exact ⟨g, cap, e1, e2, e4, e5⟩

/-- The bytes so far: all but the last bear the mark. -/
def Tight (n : Int) (k : Nat) (pre : List UInt8) (x : UInt8) : Prop :=
  (∀ j, j < pre.length → 128 ≤ at8 pre j) ∧ x.toNat < 128 ∧ (k = 0 → pre ++ [x] = enc n) ∧ (0 < k → x = 0 ∧ pre ≠ []) ∧ pre.length + 1 ≤ 10 + k

theorem tight_start (n : Int) (h0 : -9223372036854775808 ≤ n) (h1 : n ≤ 9223372036854775807) : ∃ pre x, enc n = pre ++ [x] ∧ Tight n 0 pre x := by
  have hu : zig n < 2 * 128 ^ 9 := by have := zig_lt n h0 h1; omega
  obtain ⟨b1, _, b3, _⟩ := encF_bytes 9 (zig n) hu
  have hp := enc_pos n
  have hle := enc_le n
  have he : enc n = encF 9 (zig n) := rfl
  rw [← he] at b1 b3
  have hne : enc n ≠ [] := List.length_pos_iff.1 hp
  have hsp : enc n = (enc n).dropLast ++ [(enc n).getLast hne] := (List.dropLast_concat_getLast hne).symm
  have hdl : (enc n).dropLast.length = (enc n).length - 1 := by simp
  refine ⟨_, _, hsp, fun j hj => ?_, ?_, fun _ => hsp.symm, fun h => absurd h (by omega), by omega⟩
  · have := b1 j (by omega)
    rw [hsp, at8_append_left _ _ _ hj] at this
    exact this
  · have hb := b3
    rw [hsp] at hb
    have e : ((enc n).dropLast ++ [(enc n).getLast hne]).length - 1 = (enc n).dropLast.length := by simp
    rw [e] at hb
    simp [at8, List.getD] at hb
    omega

theorem or128 (x : UInt8) (h : x.toNat < 128) : bits .or .u8 (x.toNat : Int) 128 = ((UInt8.ofNat (x.toNat + 128)).toNat : Int) := by
  rw [u8_or128_right _ (by omega) (by omega), toNat_lo (by omega)]; omega
theorem tight_step {n : Int} {k : Nat} {pre : List UInt8} {x : UInt8} (h : Tight n k pre x) : Tight n (k + 1) (pre ++ [UInt8.ofNat (x.toNat + 128)]) 0 := by
  obtain ⟨h1, h2, h3, h4, h5⟩ := h
  refine ⟨fun j hj => ?_, by decide, fun e => by omega, fun _ => ⟨rfl, by simp⟩, by simp; omega⟩
  rw [List.length_append, List.length_singleton] at hj
  by_cases e : j < pre.length
  · rw [at8_append_left _ _ _ e]; exact h1 j e
  · have ej : j = pre.length := by omega
    subst ej
    have hx : (UInt8.ofNat (x.toNat + 128)).toNat = x.toNat + 128 := toNat_lo (by omega)
    have : at8 (pre ++ [UInt8.ofNat (x.toNat + 128)]) pre.length = ((UInt8.ofNat (x.toNat + 128)).toNat : Int) := by simp [at8, List.getD]
    rw [this, hx]; omega

theorem cells8_last (pre : List UInt8) (x : UInt8) : (cells8 (pre ++ [x]))[pre.length]? = some (.int .u8 (x.toNat : Int)) := by
  simp [cells8]
theorem cells8_set_last (pre : List UInt8) (x y : UInt8) : (cells8 (pre ++ [x])).set pre.length (.int .u8 (y.toNat : Int)) = cells8 (pre ++ [y]) := by
  simp [cells8]

end Go.Proofs.Ytgknpbgepgmmmaa.Bn
namespace Go.Proofs.Ytgknpbgepgmmmaa.Bn
open Go.RowKit

/- the plain side: numbers one behind the other, cut -/
def ati (z : List Int) (j : Nat) : Int := z.getD j 0
def encs (z : List Int) : Nat → List UInt8
  | 0 => []
  | k + 1 => encs z k ++ enc (ati z k)
theorem encs_le (z : List Int) : ∀ k, (encs z k).length ≤ 10 * k
  | 0 => by simp [encs]
  | k + 1 => by have := encs_le z k; have := enc_le (ati z k); simp only [encs, List.length_append]; omega
theorem encs_pre (z : List Int) (i : Nat) : ∀ d, ∃ r, encs z (i + d) = encs z i ++ r
  | 0 => ⟨[], by simp⟩
  | d + 1 => by
    obtain ⟨r, hr⟩ := encs_pre z i d
    exact ⟨r ++ enc (ati z (i + d)), by show encs z (i + d) ++ enc (ati z (i + d)) = _; rw [hr, List.append_assoc]⟩
def cutSt (z : List Int) (m cut i : Nat) : Option (List UInt8) := if (encs z i).length ≤ cut then some (((encs z m).take cut).drop (encs z i).length) else none
theorem cut_step (z : List Int) (m cut i : Nat) (hz : -9223372036854775808 ≤ ati z i ∧ ati z i ≤ 9223372036854775807) (hi : i < m) :
    rNum (cutSt z m cut i) = (if (encs z (i + 1)).length ≤ cut then ati z i else 0, cutSt z m cut (i + 1)) := by
  obtain ⟨r, hr⟩ := encs_pre z (i + 1) (m - (i + 1))
  rw [show i + 1 + (m - (i + 1)) = m by omega] at hr
  have he : encs z (i + 1) = encs z i ++ enc (ati z i) := rfl
  unfold cutSt
  by_cases h1 : (encs z (i + 1)).length ≤ cut
  · have h0 : (encs z i).length ≤ cut := by rw [he, List.length_append] at h1; omega
    rw [if_pos h0, if_pos h1, if_pos h1]
    have e : ((encs z m).take cut).drop (encs z i).length = enc (ati z i) ++ ((encs z m).take cut).drop (encs z (i + 1)).length := by
      rw [hr, List.take_append, List.take_of_length_le h1]
      rw [List.drop_left, he, List.append_assoc, List.drop_left]
    rw [e, rNum_enc _ _ hz.1 hz.2]
  · rw [if_neg h1, if_neg h1]
    by_cases h0 : (encs z i).length ≤ cut
    · rw [if_pos h0]
      have e : ((encs z m).take cut).drop (encs z i).length = (enc (ati z i)).take (cut - (encs z i).length) := by
        rw [hr, List.take_append, Nat.sub_eq_zero_of_le (by omega), List.take_zero, List.append_nil, he, List.take_append, List.take_of_length_le h0, List.drop_left]
      rw [e]
      have hn := num_cut (ati z i) (cut - (encs z i).length) hz.1 hz.2 (by rw [he, List.length_append] at h1; omega)
      simp [rNum, hn]
    · rw [if_neg h0]; rfl
theorem cut_some (z : List Int) (m cut i : Nat) (h : (encs z (i + 1)).length ≤ cut) : (cutSt z m cut (i + 1)).isSome = true := by unfold cutSt; rw [if_pos h]; rfl
theorem cut_none (z : List Int) (m cut i : Nat) (h : ¬ (encs z (i + 1)).length ≤ cut) : (cutSt z m cut (i + 1)).isSome = false := by unfold cutSt; rw [if_neg h]; rfl
theorem cut_start (z : List Int) (m cut : Nat) : cutSt z m cut 0 = some ((encs z m).take cut) := by
  unfold cutSt
  rw [if_pos (by simp [encs])]
  simp [encs]

def endsV (z : List Int) (k : Nat) : List Value := (List.range k).map fun j => .int .i64 ((encs z (j + 1)).length : Int)
theorem endsV_succ (z : List Int) (k : Nat) : endsV z (k + 1) = endsV z k ++ [.int .i64 ((encs z (k + 1)).length : Int)] := by
  simp [endsV, List.range_succ]
theorem endsV_len (z : List Int) (k : Nat) : (endsV z k).length = k := by simp [endsV]
theorem endsV_at (z : List Int) (k j : Nat) (h : j < k) : (endsV z k)[j]? = some (.int .i64 ((encs z (j + 1)).length : Int)) := by
  simp [endsV, h]

/- memory: a row of another type beside a writer -/
theorem own_wrote {w w' : World} {base b B e : Nat} {v vv : Value} {n : Nat} {xs : List Value} {bs : List UInt8} (h : w.ownsRow base e 1 v n xs) (hW : Wr w 71 b B vv bs) (hw : Wrote w w' B vv.ownBlock) (h27 : e ≠ 71) (h5 : e ≠ 5) : w'.ownsRow base e 1 v n xs := by
  obtain ⟨h1, h2⟩ := h
  refine ⟨h1, ?_⟩
  rcases h2 with h2 | ⟨g, cap, cur, e1, e2, e3, e4⟩
  · exact Or.inl h2
  · refine Or.inr ⟨g, cap, cur, e1, e2, ?_, e4⟩
    rw [hw.block g (lt_of_block e3) (fun e' => ?_) (fun e' => ?_)]
    · exact e3
    · subst e'
      have := hW.1
      rw [e3] at this
      simp at this
      exact h27 this.2
    · rcases hW.2.2 with ⟨rfl, _⟩ | ⟨g', cap', cur', rfl, _, e3', _⟩
      · simp [Value.ownBlock] at e'
      · simp [Value.ownBlock] at e'
        subst e'
        rw [e3] at e3'
        simp at e3'
        exact h5 e3'.2
theorem wr_grown {w w' : World} {base b B e : Nat} {v vv : Value} {n : Nat} {xs : List Value} {bs : List UInt8} (hW : Wr w 71 b B vv bs) (h : w.ownsRow base e 1 v n xs) (hg : w.grownBy w' v.ownBlock) (h27 : e ≠ 71) (h5 : e ≠ 5) : Wr w' 71 b B vv bs := by
  have hne : ∀ k o, w.heap[k]? = some o → (∀ cur, o ≠ .cells cur e (0, 0)) → some k ≠ v.ownBlock := by
    intro k o hk ho e'
    rcases h.2 with ⟨rfl, _⟩ | ⟨g, cap, cur, rfl, _, e3, _⟩
    · simp [Value.ownBlock] at e'
    · simp [Value.ownBlock] at e'
      subst e'
      rw [hk] at e3
      exact ho cur (by simpa using e3)
  refine ⟨?_, hW.2.1, ?_⟩
  · rw [hg.block B hW.lt (hne B _ hW.1 (fun cur e' => by simp at e'; exact h27 e'.2.symm))]
    exact hW.1
  · rcases hW.2.2 with h2 | ⟨g, cap, cur, e1, e2, e3, e4⟩
    · exact Or.inl h2
    · refine Or.inr ⟨g, cap, cur, e1, e2, ?_, e4⟩
      rw [hg.block g (lt_of_block e3) (hne g _ e3 (fun cur e' => by simp at e'; exact h5 e'.2.symm))]
      exact e3
theorem wr_below {w w' : World} {b B : Nat} {vv : Value} {bs : List UInt8} (hW : Wr w 71 b B vv bs) (hb : Below w.heap.size w w') : Wr w' 71 b B vv bs := by
  refine ⟨by rw [hb.block B hW.lt]; exact hW.1, hW.2.1, ?_⟩
  rcases hW.2.2 with h2 | ⟨g, cap, cur, e1, e2, e3, e4⟩
  · exact Or.inl h2
  · exact Or.inr ⟨g, cap, cur, e1, e2, by rw [hb.block g (lt_of_block e3)]; exact e3, e4⟩
theorem own_below {w w' : World} {base e : Nat} {v : Value} {n : Nat} {xs : List Value} (h : w.ownsRow base e 1 v n xs) (hb : Below w.heap.size w w') : w'.ownsRow base e 1 v n xs := by
  obtain ⟨h1, h2⟩ := h
  refine ⟨h1, ?_⟩
  rcases h2 with h2 | ⟨g, cap, cur, e1, e2, e3, e4⟩
  · exact Or.inl h2
  · exact Or.inr ⟨g, cap, cur, e1, e2, by rw [hb.block g (lt_of_block e3)]; exact e3, e4⟩

theorem own_shape3 {w : World} {base n e : Nat} {v : Value} {xs : List Value} (h : w.ownsRow base e 1 v n xs) (hp : 0 < n) : ∃ g cap, v = .slice (some ⟨g, 0, none⟩) n cap ∧ base ≤ g ∧ n ≤ cap ∧ cap ≤ maxLen := by
  rcases h.2 with ⟨_, e⟩ | ⟨g, cap, cur, e1, e2, e3, e4, e5, _⟩
  · omega
  · exact ⟨g, cap, e1, e2, e4, e5⟩

theorem own_len {w : World} {base n e : Nat} {v : Value} {xs : List Value} (h : w.ownsRow base e 1 v n xs) : ∃ ao cap, v = .slice ao n cap := by
  rcases h.2 with ⟨e1, e2⟩ | ⟨g, cap, cur, e1, _⟩
  · exact ⟨none, 0, by rw [e1, e2]⟩
  · exact ⟨_, _, e1⟩
theorem own_rd {w w' : World} {base e B T : Nat} {v : Value} {n : Nat} {xs : List Value} {st : Option (List UInt8)} (h : w.ownsRow base e 1 v n xs) (hR : Rd w T B st) (hg : w.grownBy w' (some B)) (hT : e ≠ T) : w'.ownsRow base e 1 v n xs := by
  obtain ⟨h1, h2⟩ := h
  refine ⟨h1, ?_⟩
  rcases h2 with h2 | ⟨g, cap, cur, e1, e2, e3, e4⟩
  · exact Or.inl h2
  · refine Or.inr ⟨g, cap, cur, e1, e2, ?_, e4⟩
    rw [hg.block g (lt_of_block e3) (fun e' => ?_)]
    · exact e3
    · simp at e'
      subst e'
      obtain ⟨u, hB, _⟩ := hR
      rw [e3] at hB
      simp at hB
      exact hT hB.2

theorem Try.info3 : (Try.prog.info? 3).map (fun i => (i.zero, i.size, i.bytes)) = some (some (.int .i64 0), 1, 8) := by kernel_rfl

end Go.Proofs.Ytgknpbgepgmmmaa.Bn

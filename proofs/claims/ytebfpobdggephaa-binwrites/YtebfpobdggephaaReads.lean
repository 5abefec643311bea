/- The walk of the law BinReads. -/
import Derived.Test.YtebfpobdggephaaCut
import Derived.Test.YtebfpobdggephaaRefMore
import Derived.Deep.RegionWith
import Derived.BigQuiet
namespace Go.Proofs.Ytebfpobdggephaa
open Go.RowKit

set_option maxHeartbeats 400000 in
theorem short_any (v : Value) (bs : List UInt8) (m : Nat) (w : World) (h : Sl w v bs) (hm : m ≤ 1000) :
    Calls Try.prog 9 #[v, .int .i64 m] w fun e w' => ∃ v', e = .returned v' ∧ Sl w' v' (bs.take m) ∧ w' = w := by
  obtain ⟨ao, cap, rfl, h1, h2⟩ := h.shape
  have h2' : cap ≤ 9223372036854775807 := h2
  have HS : Hid (Sl w (.slice ao bs.length cap) bs) := h
  clear h
  by_cases hl : m < bs.length
  · have hl' : (m : Int) < (bs.length : Int) := by omega
    have hc : (m : Int) ≤ (cap : Int) := by omega
    go_enter Try.func9, Try.ntmps9
    go_wp2
    all_goals go_ret
    all_goals exact ⟨_, rfl, HS.out.take m (by omega), rfl⟩
  · have hl' : ¬ (m : Int) < (bs.length : Int) := by omega
    go_enter Try.func9, Try.ntmps9
    go_wp2
    go_ret
    exact ⟨_, rfl, by rw [List.take_of_length_le (by omega)]; exact HS.out, rfl⟩

/-- 'append' of bytes onto a slice of the call's own, whatever slice the bytes come from. -/
theorem wpList_append_sl {P : Program} (w : World) {ops : Array Oper} {rest : List Oper} {o : Oper} {a : Act} {Q : Exit → Act → World → Prop} (hgd : o.guard = none) (s x : Operand) (t : TypeId)
    (ho : o.op = .call { callee := .builtin .append, args := #[s, x], argTypes := #[t, t] }) (base : Nat) (i : TypeInfo) (ht : P.underlying t = some (.slice 5)) (hi : P.info? 5 = some i) (hz : i.zero = some (.int .u8 0)) (hsize : i.size = 1) (hby : i.bytes = 1)
    (v vx : Value) (bs tx : List UInt8) (hs : a.eval s = v) (hown : w.ownsRow base 5 1 v bs.length (cells8 bs)) (hx : a.eval x = vx) (hS : Sl w vx tx) (hl : bs.length + tx.length ≤ 140737488355328) (hbase : base ≤ w.heap.size)
    (h : ∀ v' w', w'.ownsRow base 5 1 v' (bs ++ tx).length (cells8 (bs ++ tx)) → w.grownBy w' v.ownBlock → (v'.ownBlock = v.ownBlock ∨ v'.ownBlock = some w.heap.size) → wpList P ops Q rest (a.put o.dst v') w') :
    wpList P ops Q (o :: rest) a w := by
  obtain ⟨ao, cap, rfl, h1, h2, h3, h4⟩ := id hS
  cases ao with
  | some ad =>
    refine wpList_append_own_at w hgd s x t ho base 5 i (.int .u8 0) 1 1 ht hi hz hsize hby rfl (by decide) v bs.length (cells8 bs) hs hown ad tx.length cap (cells8 tx) hx (by rw [cells8_len, Nat.mul_one]) (sl_news hS) (cells8_one tx) (by simp only [maxLen]; omega) (by omega) hbase ?_
    intro v' w' g1 g2 _ g4
    exact h v' w' (by rw [List.length_append, cells8_append]; exact g1) g2 g4
  | none =>
    have hc := h3 rfl
    have e : tx = [] := List.eq_nil_of_length_eq_zero (by omega)
    subst e hc
    refine wpList_append_own_none hgd s x t ho base 5 i 1 ht hi v bs.length (cells8 bs) hs hown hx ?_
    exact h v w (by rw [List.append_nil]; exact hown) (grown_refl _ _) (Or.inl rfl)

theorem Rd.drew {w : World} {T B : Nat} {st : Option (List UInt8)} (h : Rd w T B st) (n : Nat) : Rd (w.drewN n) T B st := h
theorem some_none (st : Option (List UInt8)) : (st.isSome == st.isNone) = false := by cases st <;> rfl

set_option maxHeartbeats 2000000 in
theorem binReads_any (vb : Value) (bs : List UInt8) (ao : Option Addr) (len cap : Nat) (z : List Int) (w : World) (hS : Sl w vb bs) (hrow : 0 < len → ∃ b off, ao = some ⟨b, off, none⟩ ∧ ∀ j, j < len → w.cell? ⟨b, off + j, none⟩ = some (.int .i64 (ati z j))) (hlen : len ≤ maxLen) :
    Calls Try.prog 4 #[vb, .slice ao len cap] w fun e w' => e = .returned (.bool true) ∧ Below w.heap.size w w' := by
  unfold maxLen at hlen
  obtain ⟨i5, hi, hz0, hz1, hz2⟩ := info_parts Try.info5
  have HR : Hid (0 < len → ∃ b off, ao = some ⟨b, off, none⟩ ∧ ∀ j, j < len → w.cell? ⟨b, off + j, none⟩ = some (.int .i64 (ati z j))) := hrow
  clear hrow
  go_enter Try.func4, Try.ntmps4
  go_wp2_with (first
    | (go_at_call 8; refine (begun_any _).mono ?_; rintro e wa ⟨rfl, hba⟩))
  refine (short_any _ bs 100 _ (hS.below hba) (by omega)).mono ?_
  rintro e w' ⟨vs, rfl, hSs, hw⟩
  have hw' := hw.symm
  subst hw'
  have hlim : (bs.take 100).length ≤ 100 := by rw [List.length_take]; omega
  generalize bs.take 100 = cs at *
  obtain ⟨aos, caps, rfl, _, _⟩ := hSs.shape
  go_wp2_with fail
  refine (read_any _ _ _ hSs (by omega)).mono ?_
  rintro e w1 ⟨R, rfl, hRB, hR1, hb1⟩
  have hbb1 := hba.trans (hb1.mono hba.size)
  have hS1 := hSs.below hb1
  have hRw : w.heap.size ≤ R := Nat.le_trans hba.size hRB
  have hsz1 := hbb1.size
  clear hSs hba hb1 hRB hS hw
  go_wp2_with (at_builtin; refine wpList_append_sl _ rfl (.const (.slice none 0 0)) (.tmp 16) 25 rfl w.heap.size i5 Try.underlying25 hi hz0 hz1 hz2 _ _ [] cs rfl (World.ownsRow_nil _ _ _ _) rfl hS1 (by simp; omega) hsz1 ?_)
  intro v' w2 hO2 hg2 _
  have hb2 : Below w.heap.size w w2 := hbb1.grown hg2 hsz1 (fun k hk => by simp [Value.ownBlock] at hk)
  have hbw : Below w1.heap.size w1 w2 := (Below.refl _ _).grown hg2 (Nat.le_refl _) (fun k hk => by simp [Value.ownBlock] at hk)
  have hR2 := hR1.below hbw
  obtain ⟨ao2, cap2, rfl, _, _⟩ := (Sl.of_own hO2).shape
  have hsz2 := hb2.size
  have hQ2 : Rd (w2.alloc (.cells #[.slice ao2 cs.length cap2, .bool false] 45)) 45 w2.heap.size (some cs) := ⟨_, heap_alloc_new _ _, (Sl.of_own hO2).alloc _, Pl.of_own hO2, by simp only [Option.getD_some]; omega⟩
  have hR3 := hR2.below ((Below.refl _ _).alloc (Nat.le_refl _) (.cells #[.slice ao2 cs.length cap2, .bool false] 45))
  have hb3 := hb2.alloc hsz2 (.cells #[.slice ao2 cs.length cap2, .bool false] 45)
  have hne : R ≠ w2.heap.size := by have := hR2.lt; omega
  clear hO2 hg2 hR1 hbb1 hS1 hb2 hbw hR2
  go_wp2_with fail
  go_loopw [8] (fun i wr => ∃ (k : Nat) (st : Option (List UInt8)), k ≤ len ∧ k ≤ 40 ∧ i = .int .i64 k ∧ Rd wr 54 R st ∧ Rd wr 45 w2.heap.size st ∧ Below w.heap.size w wr) (fun i _ => 40 - (intOf i).toNat)
  case atStart => exact ⟨0, some cs, Nat.zero_le _, Nat.zero_le _, rfl, hR3, hQ2, hb3⟩
  case round =>
    clear hR3 hQ2 hb3
    obtain ⟨k, st, hkl, hk40, rfl, hRd, hQd, hb⟩ := hrel
    have hsz := hb.size
    by_cases hlt : k < len ∧ k < 40
    · obtain ⟨hlt, hlt2⟩ := hlt
      obtain ⟨b, off, rfl, hc⟩ := HR.out (by omega)
      have hcx := (hb.cell (p := ⟨b, off + k, none⟩) (cell_lt (hc k hlt))).trans (hc k hlt)
      clear HR hc
      by_cases hk0 : ati z k = 0
      · have hk0' : (ati z k == 0) = true := by rw [beq_iff_eq]; exact hk0
        clear hk0
        have hnn : ((rNum st).1 != (rNum st).1) = false := by simp
        go_wp2_with (first
          | (go_at_call 17; refine (rnum_any R st _ hRd).mono ?_; rintro e w4 ⟨rfl, hR4, hg4⟩; have hQ4 := hQd.rd hRd (Ne.symm hne) hg4; have hb4 := hb.trans (Below.of_grown hg4 hsz hRw); have hsz4 := hb4.size)
          | (go_at_call 22; refine (rfnum_any _ st _ hQ4).mono ?_; rintro e w5 ⟨rfl, hQ5, hg5⟩; have hR5 := hR4.rd hQ4 hne hg5; have hb5 := hb4.trans (Below.of_grown hg5 hsz4 hsz2)))
        generalize (rNum st).2 = st' at hR5 hQ5
        have HR5 := hR5
        have HQ5 := hQ5
        obtain ⟨vq, hBq, hSq, _, _⟩ := hQ5
        obtain ⟨aoq, capq, rfl, _, _⟩ := hSq.shape
        obtain ⟨c0q, c1q, _, _⟩ := two_cells hBq
        have hll : (((st'.getD []).length : Int) != ((st'.getD []).length : Int)) = false := by simp
        have hsn := some_none st'
        clear hBq hSq hR5 hnn
        go_quiet (first
          | (go_at_call 20; exact Calls.quiet_of_same (ok_any R st' _ (Rd.drew HR5 _)))
          | (go_at_call 21; exact Calls.quiet_of_same (left_any R st' _ (Rd.drew HR5 _))))
        go_wp2
        go_roundw
        case rel => exact ⟨k + 1, st', by omega, by omega, by go_num, Rd.drew HR5 _, Rd.drew HQ5 _, below_drewN hb5 _⟩
        case measure => simp [intOf]; omega
      · have hk0' : (ati z k == 0) = false := by rw [beq_eq_false_iff_ne]; exact hk0
        clear hk0
        by_cases hk1 : ati z k = 1
        · have hk1' : (ati z k == 1) = true := by rw [beq_iff_eq]; exact hk1
          clear hk1
          go_wp2_with fail
          have hRx := hRd.drew 1
          have hQx := hQd.drew 1
          have hbx := below_drewN hb 1
          go_region_with (first
            | (go_at_call 18; refine (rtext_any R st _ ?_).mono ?_; exact hRx; rintro e w4 ⟨v4, rfl, hS4, hR4, hg4⟩; have hQ4 := hQx.rd hRx (Ne.symm hne) hg4; have hb4 := hbx.trans (Below.of_grown hg4 hbx.size hRw); obtain ⟨ao4, cap4, rfl, _, _⟩ := hS4.shape; have hcv4 := str_of_sl (P := Try.prog) hS4 25 5 9 Try.underlying25 Try.underlying5 Try.underlying9)
            | (go_at_call 23; refine (rftext_any _ st _ ?_).mono ?_; exact hQ4; rintro e w5 ⟨v5, rfl, hS5, hQ5, hg5⟩; have hR5 := hR4.rd hQ4 hne hg5; have hb5 := hb4.trans (Below.of_grown hg5 hb4.size hsz2); obtain ⟨ao5, cap5, rfl, _, _⟩ := hS5.shape; have hcv5 := str_of_sl (P := Try.prog) hS5 25 5 9 Try.underlying25 Try.underlying5 Try.underlying9; have hcv45 := str_of_sl (P := Try.prog) (hS4.rd hQ4 hg5) 25 5 9 Try.underlying25 Try.underlying5 Try.underlying9))
          all_goals clear hcv4 hcv5 hcv45
          all_goals
            go_wp2_with fail
            generalize (rText st).2 = st' at hR5 hQ5
            have HR5 := hR5
            have HQ5 := hQ5
            obtain ⟨vq, hBq, hSq, _, _⟩ := hQ5
            obtain ⟨aoq, capq, rfl, _, _⟩ := hSq.shape
            obtain ⟨c0q, c1q, _, _⟩ := two_cells hBq
            have hll : (((st'.getD []).length : Int) != ((st'.getD []).length : Int)) = false := by simp
            have hsn := some_none st'
            clear hBq hSq hR5
            go_quiet (first
              | (go_at_call 20; exact Calls.quiet_of_same (ok_any R st' _ (Rd.drew HR5 _)))
              | (go_at_call 21; exact Calls.quiet_of_same (left_any R st' _ (Rd.drew HR5 _))))
            go_wp2
            go_roundw
            case rel => exact ⟨k + 1, st', by omega, by omega, by go_num, Rd.drew HR5 _, Rd.drew HQ5 _, below_drewN hb5 _⟩
            case measure => simp [intOf]; omega
        · have hk1' : (ati z k == 1) = false := by rw [beq_eq_false_iff_ne]; exact hk1
          clear hk1
          have hnn : ((rFlag st).1 != (rFlag st).1) = false := by simp
          go_wp2_with (first
            | (go_at_call 19; refine (rflag_any R st _ hRd).mono ?_; rintro e w4 ⟨rfl, hR4, hg4⟩; have hQ4 := hQd.rd hRd (Ne.symm hne) hg4; have hb4 := hb.trans (Below.of_grown hg4 hsz hRw); have hsz4 := hb4.size)
            | (go_at_call 24; refine (rfflag_any _ st _ hQ4).mono ?_; rintro e w5 ⟨rfl, hQ5, hg5⟩; have hR5 := hR4.rd hQ4 hne hg5; have hb5 := hb4.trans (Below.of_grown hg5 hsz4 hsz2)))
          generalize (rFlag st).2 = st' at hR5 hQ5
          have HR5 := hR5
          have HQ5 := hQ5
          obtain ⟨vq, hBq, hSq, _, _⟩ := hQ5
          obtain ⟨aoq, capq, rfl, _, _⟩ := hSq.shape
          obtain ⟨c0q, c1q, _, _⟩ := two_cells hBq
          have hll : (((st'.getD []).length : Int) != ((st'.getD []).length : Int)) = false := by simp
          have hsn := some_none st'
          clear hBq hSq hR5 hnn
          go_quiet (first
            | (go_at_call 20; exact Calls.quiet_of_same (ok_any R st' _ (Rd.drew HR5 _)))
            | (go_at_call 21; exact Calls.quiet_of_same (left_any R st' _ (Rd.drew HR5 _))))
          go_wp2
          go_roundw
          case rel => exact ⟨k + 1, st', by omega, by omega, by go_num, Rd.drew HR5 _, Rd.drew HQ5 _, below_drewN hb5 _⟩
          case measure => simp [intOf]; omega
    · rcases (show ¬ k < len ∨ (k < len ∧ ¬ k < 40) by omega) with h1 | ⟨h1, h2⟩
      all_goals
        clear hlt
        go_wp2
        go_ret
        exact ⟨rfl, hb⟩
end Go.Proofs.Ytebfpobdggephaa

/- The walk of the law BinWrites. -/
import Derived.Test.YtebfpobdggephaaPlain
import Derived.Deep.CutRange
namespace Go.Proofs.Ytebfpobdggephaa
open Go.RowKit

/-- The row of ops that came in. -/
def OpRow (w : World) (ao : Option Addr) (len : Nat) (kd nn : Nat → Int) (vB : Nat → Value) (bb : Nat → List UInt8) (ff : Nat → Bool) : Prop :=
  0 < len → ∃ b off, ao = some ⟨b, off, none⟩ ∧ ∀ j, j < len → w.cell? ⟨b, off + j * 4, none⟩ = some (.int .i64 (kd j)) ∧ w.cell? ⟨b, off + j * 4 + 1, none⟩ = some (.int .i64 (nn j)) ∧ w.cell? ⟨b, off + j * 4 + 2, none⟩ = some (vB j) ∧
    w.cell? ⟨b, off + j * 4 + 3, none⟩ = some (.bool (ff j)) ∧ Sl w (vB j) (bb j) ∧ -9223372036854775808 ≤ nn j ∧ nn j ≤ 9223372036854775807

theorem rFlag_enc (b : Bool) (r : List UInt8) : rFlag (some ([if b then 1 else 0] ++ r)) = (b, some r) := by cases b <;> rfl
theorem Rd.drew1 {w : World} {T B : Nat} {st : Option (List UInt8)} (h : Rd w T B st) : Rd w.drew T B st := h

set_option maxHeartbeats 400000 in
theorem short_all (v : Value) (bs : List UInt8) (m : Nat) (w : World) (h : Sl w v bs) (hm : m ≤ 1000) :
    Calls Try.prog 9 #[v, .int .i64 m] w fun e w' => ∃ v', e = .returned v' ∧ (∀ W, Sl W v bs → Sl W v' (bs.take m)) ∧ w' = w := by
  obtain ⟨ao, cap, rfl, h1, h2⟩ := h.shape
  have h2' : cap ≤ 9223372036854775807 := h2
  clear h
  by_cases hl : m < bs.length
  · have hl' : (m : Int) < (bs.length : Int) := by omega
    have hc : (m : Int) ≤ (cap : Int) := by omega
    go_enter Try.func9, Try.ntmps9
    go_wp2
    all_goals go_ret
    all_goals exact ⟨_, rfl, fun W hW => hW.take m (by omega), rfl⟩
  · have hl' : ¬ (m : Int) < (bs.length : Int) := by omega
    go_enter Try.func9, Try.ntmps9
    go_wp2
    go_ret
    exact ⟨_, rfl, fun W hW => by rw [List.take_of_length_le (by omega)]; exact hW, rfl⟩

set_option maxRecDepth 100000 in
set_option maxHeartbeats 4000000 in
theorem binWrites_any (ao : Option Addr) (len cap : Nat) (kd nn : Nat → Int) (vB : Nat → Value) (bb : Nat → List UInt8) (ff : Nat → Bool) (w : World) (hrow : OpRow w ao len kd nn vB bb ff) (hlen : len ≤ maxLen) :
    Calls Try.prog 3 #[.slice ao len cap] w fun e w' => e = .returned (.bool true) ∧ Below w.heap.size w w' := by
  unfold maxLen at hlen
  obtain ⟨i5, hi, hz0, hz1, hz2⟩ := info_parts Try.info5
  go_enter Try.func3, Try.ntmps3
  go_wp2_with (first
    | (go_at_call 8; refine (begun_any _).mono ?_; rintro e wa ⟨rfl, hba⟩))
  have hW0 := wr_new wa
  have hb0 : Below w.heap.size w (wa.alloc (.cells #[.slice none 0 0] 27)) := hba.alloc hba.size _
  have hBw := hba.size
  have hW0' : Wr (wa.alloc (.cells #[.slice none 0 0] 27)) 27 w.heap.size wa.heap.size (.slice none 0 0) [] := ⟨hW0.1, own_mono hW0.2 hBw⟩
  clear hW0 hba
  go_loopw [5, 6] (fun vw i wr => ∃ (k : Nat) (vv : Value), k ≤ len ∧ k ≤ 30 ∧ i = .int .i64 k ∧ Wr wr 27 w.heap.size wa.heap.size vv (encOps kd nn bb ff k) ∧ wr.ownsRow w.heap.size 5 1 vw (encOps kd nn bb ff k).length (cells8 (encOps kd nn bb ff k)) ∧ Apart vv vw ∧ Below w.heap.size w wr) (fun _ i _ => 30 - (intOf i).toNat)
  case atStart => exact ⟨0, _, Nat.zero_le _, Nat.zero_le _, rfl, hW0', World.ownsRow_nil _ _ _ _, fun g hg => by simp [Value.ownBlock] at hg, hb0⟩
  case round =>
    clear hW0' hb0
    obtain ⟨k, vv, hkl, hk30, rfl, hWr, hO, hA, hb⟩ := hrel
    have hsz := hb.size
    by_cases hlt : k < len ∧ k < 30
    · obtain ⟨hlt, hlt2⟩ := hlt
      obtain ⟨b, off, rfl, hc⟩ := hrow (by omega)
      obtain ⟨ck, cn, cb, cf, hS, hn1, hn2⟩ := hc k hlt
      have hbl : b < w.heap.size := cell_lt ck
      have ck' := (hb.cell (p := ⟨b, off + k * 4, none⟩) hbl).trans ck
      have cn' := (hb.cell (p := ⟨b, off + k * 4 + 1, none⟩) hbl).trans cn
      have cb' := (hb.cell (p := ⟨b, off + k * 4 + 2, none⟩) hbl).trans cb
      have cf' := (hb.cell (p := ⟨b, off + k * 4 + 3, none⟩) hbl).trans cf
      have hel := encOps_le kd nn bb ff k
      have HN : Hid (w.cell? ⟨b, off + k * 4 + 1, none⟩ = some (.int .i64 (nn k))) := cn
      have HF : Hid (w.cell? ⟨b, off + k * 4 + 3, none⟩ = some (.bool (ff k))) := cf
      clear hc ck cn cb cf
      obtain ⟨aoB, capB, hvB, _, _⟩ := hS.shape
      rw [hvB] at cb' hS
      clear hvB
      go_wp2_with fail
      refine (short_all _ _ 60 _ (hS.kept fun g o n hc => hb.block g (cell_lt hc)) (by omega)).mono ?_
      rintro e w' ⟨vs, rfl, hSh, hw⟩
      have hw' := hw.symm
      subst hw'
      have hSs := hSh _ hS
      have HS : Hid (Sl w vs ((bb k).take 60)) := hSs
      obtain ⟨aos, caps, rfl, _, _⟩ := hSs.shape
      have HE : Hid (encOps kd nn bb ff (k + 1) = encOps kd nn bb ff k ++ encOp kd nn bb ff k) := rfl
      clear hSs hSh hS hw cb'
      by_cases hk0 : kd k = 0
      · have hk0' : (kd k == 0) = true := by rw [beq_iff_eq]; exact hk0
        have HO : Hid (encOp kd nn bb ff k = enc (nn k)) := by show _ = _; unfold encOp; rw [if_pos hk0]
        clear hk0
        go_wp2_with fail
        refine (wnum_any _ _ _ _ _ _ hWr hsz hn1 hn2 (by omega)).mono ?_
        rintro e w1 ⟨rfl, v1, hW1, hw1, hm1⟩
        have hO1 := own5_wrote hO hWr hw1 hA
        have hA1 := hA.moved hm1 hO
        have hb1 := hb.trans (hw1.below hsz hBw (fun k hk => (hWr.2.lt k hk).1))
        have cn1 := (hb1.cell (p := ⟨b, off + k * 4 + 1, none⟩) hbl).trans HN.out
        clear hWr hO hA hb hw1 hm1 ck' cn' cf'
        go_wp2_with fail
        refine (refnum_any (nn k) _ hn1 hn2).mono ?_
        rintro e w2 ⟨v2, rfl, hO2, hb2⟩
        have hS2 := Sl.of_own hO2
        have hW2 := wr_below hW1 hb2
        have hOw2 := own_below hO1 hb2
        have hbb2 := hb1.trans (hb2.mono hb1.size)
        have hsz2 := hbb2.size
        have hle := enc_le (nn k)
        clear hW1 hO1 hO2 hb2 hb1 cn1
        go_wp2_with (at_builtin; refine wpList_append_sl _ rfl (.tmp 63) (.tmp 69) 25 rfl w.heap.size i5 Try.underlying25 hi hz0 hz1 hz2 _ _ (encOps kd nn bb ff k) (enc (nn k)) rfl hOw2 rfl hS2 (by omega) hsz2 ?_)
        intro v' w3 hO3 hg3 hat
        have hW3 := wr_grown5 hW2 hOw2 hg3 hA1
        have hA3 := hA1.moved' hW2 (Nat.le_refl _) hat
        have hb3 : Below w.heap.size w w3 := hbb2.grown hg3 hsz2 (fun k hk => (hOw2.lt k hk).1)
        rw [← List.length_append, ← HO.out, ← HE.out] at hO3
        rw [← HO.out, ← HE.out] at hW3
        clear hg3 hat hW2 hOw2 hA1 hbb2 hS2
        obtain ⟨ao3, cap3, hv3⟩ := own_len hO3
        subst hv3
        go_wp2
        go_roundw
        case rel => exact ⟨k + 1, v1, by omega, by omega, by go_num, hW3, hO3, hA3, hb3⟩
        case measure => simp [intOf]; omega
      · have hk0' : (kd k == 0) = false := by rw [beq_eq_false_iff_ne]; exact hk0
        by_cases hk1 : kd k = 1
        · have hk1' : (kd k == 1) = true := by rw [beq_iff_eq]; exact hk1
          have HO : Hid (encOp kd nn bb ff k = enc ((bb k).take 60).length ++ (bb k).take 60) := by show _ = _; unfold encOp; rw [if_neg hk0, if_pos hk1]
          have ht : ((bb k).take 60).length ≤ 60 := List.length_take_le _ _
          clear hk0 hk1
          generalize (bb k).take 60 = t at *
          go_wp2_with fail
          refine (wtext_any _ _ _ _ _ t _ hWr hsz (HS.out.kept fun g o n hc => hb.block g (cell_lt hc)) (fun w' hw' => ?_) (by omega)).mono ?_
          · have hb' := hb.trans (hw'.below hsz hBw (fun k hk => (hWr.2.lt k hk).1))
            exact HS.out.kept fun g o n hc => hb'.block g (cell_lt hc)
          rintro e w1 ⟨rfl, v1, hW1, hw1, hm1⟩
          have hO1 := own5_wrote hO hWr hw1 hA
          have hA1 := hA.moved hm1 hO
          have hb1 := hb.trans (hw1.below hsz hBw (fun k hk => (hWr.2.lt k hk).1))
          have hS1 : Sl w1 (.slice aos t.length caps) t := HS.out.kept fun g o n hc => hb1.block g (cell_lt hc)
          clear hWr hO hA hb hw1 hm1 ck' cn' cf'
          go_wp2_with fail
          refine (reftext_any _ t _ hS1 (by omega)).mono ?_
          rintro e w2 ⟨v2, rfl, hO2, hb2⟩
          have hS2 := Sl.of_own hO2
          have hW2 := wr_below hW1 hb2
          have hOw2 := own_below hO1 hb2
          have hbb2 := hb1.trans (hb2.mono hb1.size)
          have hsz2 := hbb2.size
          have hle := enc_le t.length
          have hl2 : (enc t.length ++ t).length ≤ 70 := by rw [List.length_append]; omega
          rw [← HO.out] at hS2 hW2 hl2
          clear hW1 hO1 hO2 hb2 hb1 hS1
          go_wp2_with (at_builtin; refine wpList_append_sl _ rfl (.tmp 76) (.tmp 78) 25 rfl w.heap.size i5 Try.underlying25 hi hz0 hz1 hz2 _ _ (encOps kd nn bb ff k) (encOp kd nn bb ff k) rfl hOw2 rfl hS2 (by omega) hsz2 ?_)
          intro v' w3 hO3 hg3 hat
          have hW3 := wr_grown5 hW2 hOw2 hg3 hA1
          have hA3 := hA1.moved' hW2 (Nat.le_refl _) hat
          have hb3 : Below w.heap.size w w3 := hbb2.grown hg3 hsz2 (fun k hk => (hOw2.lt k hk).1)
          rw [← List.length_append, ← HE.out] at hO3
          rw [← HE.out] at hW3
          clear hg3 hat hW2 hOw2 hA1 hbb2 hS2
          obtain ⟨ao3, cap3, hv3⟩ := own_len hO3
          subst hv3
          go_wp2
          go_roundw
          case rel => exact ⟨k + 1, v1, by omega, by omega, by go_num, hW3, hO3, hA3, hb3⟩
          case measure => simp [intOf]; omega
        · have hk1' : (kd k == 1) = false := by rw [beq_eq_false_iff_ne]; exact hk1
          have HO : Hid (encOp kd nn bb ff k = [if ff k then 1 else 0]) := by show _ = _; unfold encOp; rw [if_neg hk0, if_neg hk1]
          clear hk0 hk1
          go_wp2_with fail
          refine (wflag_any _ _ _ _ (ff k) _ hWr hsz (by omega)).mono ?_
          rintro e w1 ⟨rfl, v1, hW1, hw1, hm1⟩
          have hO1 := own5_wrote hO hWr hw1 hA
          have hA1 := hA.moved hm1 hO
          have hb1 := hb.trans (hw1.below hsz hBw (fun k hk => (hWr.2.lt k hk).1))
          have cf1 := (hb1.cell (p := ⟨b, off + k * 4 + 3, none⟩) hbl).trans HF.out
          have hsz1 := hb1.size
          clear hWr hO hA hb hw1 hm1 ck' cn' cf'
          cases hff : ff k
          · rw [hff] at cf1 HO hW1
            clear hff
            go_wp2_with (at_builtin; refine wpList_append_own_at _ rfl _ _ 25 rfl w.heap.size 5 i5 (.int .u8 0) 1 1 Try.underlying25 hi hz0 hz1 hz2 rfl (by decide) u5 (encOps kd nn bb ff k).length (cells8 (encOps kd nn bb ff k)) rfl (hO1.alloc _) ⟨w1.heap.size, 0, none⟩ 1 1 [_] rfl rfl (cell_one_new _ _ _) (fun u hu => by simp at hu; subst hu; rfl) (by simp only [maxLen]; omega) (by omega) (by simp; omega) ?_)
            intro v' w2 hown' hgrow _ hat
            obtain ⟨⟨g', cap', rfl⟩, HW⟩ := own_one (b := 0) rfl hO1 hb1 hsz1 hown' hgrow
            have hW2 := wr_grown5 (wr_below hW1 ((Below.refl _ _).alloc (Nat.le_refl _) _)) (hO1.alloc _) hgrow hA1
            have hA2 := hA1.moved' hW1 (Nat.le_succ _) hat
            have HO' : Hid (encOp kd nn bb ff k = [0]) := HO.out
            have hO2 := HW.out.1
            have hb2 := HW.out.2
            have hW2' : Wr w2 27 w.heap.size wa.heap.size v1 (encOps kd nn bb ff k ++ [0]) := hW2
            rw [← HO'.out, ← HE.out] at hO2 hW2'
            clear hown' hgrow hat HW hW2 hW1 hO1 hA1 hb1 cf1
            go_wp2
            go_roundw
            case rel => exact ⟨k + 1, v1, by omega, by omega, by go_num, hW2', hO2, hA2, hb2⟩
            case measure => simp [intOf]; omega
          · rw [hff] at cf1 HO hW1
            clear hff
            go_wp2_with (at_builtin; refine wpList_append_own_at _ rfl _ _ 25 rfl w.heap.size 5 i5 (.int .u8 0) 1 1 Try.underlying25 hi hz0 hz1 hz2 rfl (by decide) u5 (encOps kd nn bb ff k).length (cells8 (encOps kd nn bb ff k)) rfl (hO1.alloc _) ⟨w1.heap.size, 0, none⟩ 1 1 [_] rfl rfl (cell_one_new _ _ _) (fun u hu => by simp at hu; subst hu; rfl) (by simp only [maxLen]; omega) (by omega) (by simp; omega) ?_)
            intro v' w2 hown' hgrow _ hat
            obtain ⟨⟨g', cap', rfl⟩, HW⟩ := own_one (b := 1) rfl hO1 hb1 hsz1 hown' hgrow
            have hW2 := wr_grown5 (wr_below hW1 ((Below.refl _ _).alloc (Nat.le_refl _) _)) (hO1.alloc _) hgrow hA1
            have hA2 := hA1.moved' hW1 (Nat.le_succ _) hat
            have HO' : Hid (encOp kd nn bb ff k = [1]) := HO.out
            have hO2 := HW.out.1
            have hb2 := HW.out.2
            have hW2' : Wr w2 27 w.heap.size wa.heap.size v1 (encOps kd nn bb ff k ++ [1]) := hW2
            rw [← HO'.out, ← HE.out] at hO2 hW2'
            clear hown' hgrow hat HW hW2 hW1 hO1 hA1 hb1 cf1
            go_wp2
            go_roundw
            case rel => exact ⟨k + 1, v1, by omega, by omega, by go_num, hW2', hO2, hA2, hb2⟩
            case measure => simp [intOf]; omega
    · have hel := encOps_le kd nn bb ff k
      obtain ⟨ao5, cap5, hv5⟩ := own_len hO
      subst hv5
      have hSd : Sl wr.drew (.slice ao5 (encOps kd nn bb ff k).length cap5) (encOps kd nn bb ff k) := Sl.of_own hO
      have hcv0 := str_of_sl (P := Try.prog) hSd 25 5 9 Try.underlying25 Try.underlying5 Try.underlying9
      have hWx : Wr wr.drew 27 w.heap.size wa.heap.size vv (encOps kd nn bb ff k) := hWr
      have hbx : Below w.heap.size w wr.drew := hb.drew
      have hC := wbytes_any w.heap.size wa.heap.size vv (encOps kd nn bb ff k) wr.drew hWx (by omega)
      have HC : Hid (_) := hC
      clear hWr hO hA hb hC
      rcases (show ¬ k < len ∨ (k < len ∧ ¬ k < 30) by omega) with h1 | ⟨h1, h2⟩
      all_goals
        clear hlt
        go_upto_region 21 with fail
        go_cut [85] from 15 to 85 (fun s wc => s = .bool false ∧ Sl wc (.slice ao5 (encOps kd nn bb ff k).length cap5) (encOps kd nn bb ff k) ∧ Below w.heap.size w wc)
        case first =>
          go_region_with (first
            | (go_at_call 15; refine Calls.mono HC.out ?_; rintro e w1 ⟨v1, rfl, hO1, hb1⟩; have hS1 := Sl.of_own hO1; obtain ⟨ao1, cap1, rfl, _, _⟩ := hS1.shape; have hcv1 := str_of_sl (P := Try.prog) hS1 25 5 9 Try.underlying25 Try.underlying5 Try.underlying9; have hSw1 := hSd.below hb1; have hcvW := str_of_sl (P := Try.prog) hSw1 25 5 9 Try.underlying25 Try.underlying5 Try.underlying9; have hbb1 := hbx.trans (hb1.mono hbx.size)))
          all_goals (go_wp2_with fail; go_meet)
          all_goals exact ⟨rfl, hSw1, hbb1⟩
        case rest =>
          obtain ⟨rfl, hSc, hbc⟩ := hcut
          have hszc := hbc.size
          have hC16 := read_any _ _ _ hSc (by omega)
          have HC16 : Hid (_) := hC16
          clear hC16 HC hcv0 hSd hbx hWx
          go_wp2_with fail
          refine Calls.mono HC16.out ?_
          rintro e w2 ⟨R, rfl, hRB, hR2, hb2⟩
          have hbb2 := hbc.trans (hb2.mono hszc)
          have hRw : w.heap.size ≤ R := Nat.le_trans hszc hRB
          rw [← restOps_zero kd nn bb ff k] at hR2
          clear hSc hbc hb2 hRB HC16
          go_wp2_with fail
          go_loopw [9] (fun i wr => ∃ j : Nat, j ≤ k ∧ i = .int .i64 j ∧ Rd wr 54 R (some (restOps kd nn bb ff k j)) ∧ Below w.heap.size w wr) (fun i _ => k - (intOf i).toNat)
          case atStart => exact ⟨0, Nat.zero_le _, rfl, hR2, hbb2⟩
          case round =>
            clear hR2 hbb2
            obtain ⟨j, hjk, rfl, hRd, hb⟩ := hrel
            have hsz := hb.size
            by_cases hj : j < k
            · have hjl : j < len := by omega
              have hj30 : j < 30 := by omega
              obtain ⟨b, off, rfl, hc⟩ := hrow (by omega)
              obtain ⟨ck, cn, cb, cf, hS, hn1, hn2⟩ := hc j hjl
              have hbl : b < w.heap.size := cell_lt ck
              have ck' := (hb.cell (p := ⟨b, off + j * 4, none⟩) hbl).trans ck
              have cn' := (hb.cell (p := ⟨b, off + j * 4 + 1, none⟩) hbl).trans cn
              have cb' := (hb.cell (p := ⟨b, off + j * 4 + 2, none⟩) hbl).trans cb
              have cf' := (hb.cell (p := ⟨b, off + j * 4 + 3, none⟩) hbl).trans cf
              have HN : Hid (w.cell? ⟨b, off + j * 4 + 1, none⟩ = some (.int .i64 (nn j))) := cn
              have HF : Hid (w.cell? ⟨b, off + j * 4 + 3, none⟩ = some (.bool (ff j))) := cf
              have HB : Hid (w.cell? ⟨b, off + j * 4 + 2, none⟩ = some (vB j)) := cb
              have hbd : Below w.heap.size w _ := hb.drew
              have hRx := hRd.drew1
              rw [restOps_step kd nn bb ff k j hj] at hRx
              clear hc ck cn cb cf
              by_cases hk0 : kd j = 0
              · have hk0' : (kd j == 0) = true := by rw [beq_iff_eq]; exact hk0
                have e0 : encOp kd nn bb ff j = enc (nn j) := by unfold encOp; rw [if_pos hk0]
                rw [e0] at hRx
                have HC : Hid (_) := rnum_is R _ _ _ _ hRx (rNum_enc (nn j) _ hn1 hn2)
                have hnn : (nn j != nn j) = false := by simp
                clear hk0 e0 cb' cf' HB HF hS
                go_upto_region 31 with fail
                go_cut [120] from 88 to 133 (fun s wc => s = .bool false ∧ Rd wc 54 R (some (restOps kd nn bb ff k (j + 1))) ∧ Below w.heap.size w wc)
                case first =>
                  go_region_with (first
                    | (go_at_call 17; refine Calls.mono HC.out ?_; rintro e w4 ⟨rfl, hR4, hg4⟩; have hb4 := hbd.trans (Below.of_grown hg4 hbd.size hRw); have cn4 := (hb4.cell (p := ⟨b, off + j * 4 + 1, none⟩) hbl).trans HN.out))
                  all_goals (go_wp2_with fail; go_meet)
                  all_goals exact ⟨rfl, hR4, hb4⟩
                case rest =>
                  obtain ⟨rfl, hR5, hb5⟩ := hcut
                  go_wp2
                  go_roundw
                  case rel => exact ⟨j + 1, by omega, by go_num, hR5, hb5⟩
                  case measure => simp [intOf]; omega
              · have hk0' : (kd j == 0) = false := by rw [beq_eq_false_iff_ne]; exact hk0
                by_cases hk1 : kd j = 1
                · have hk1' : (kd j == 1) = true := by rw [beq_iff_eq]; exact hk1
                  have e0 : encOp kd nn bb ff j = enc ((bb j).take 60).length ++ (bb j).take 60 := by unfold encOp; rw [if_neg hk0, if_pos hk1]
                  rw [e0, List.append_assoc] at hRx
                  have htl : ((bb j).take 60).length ≤ 60 := List.length_take_le _ _
                  clear e0
                  generalize htt : (bb j).take 60 = tt at hRx htl
                  have HT : Hid ((bb j).take 60 = tt) := htt
                  clear htt
                  have HC : Hid (_) := rtext_is R _ _ _ _ hRx (rText_enc tt _ (by omega))
                  obtain ⟨aoB, capB, hvB, _, _⟩ := hS.shape
                  rw [hvB] at cb' HB hS
                  have HS : Hid (Sl w (.slice aoB (bb j).length capB) (bb j)) := hS
                  clear hk0 hk1 cn' cf' HN HF hS hvB
                  go_upto_region 34 with fail
                  go_cut [133] from 88 to 133 (fun s wc => s = .bool false ∧ Rd wc 54 R (some (restOps kd nn bb ff k (j + 1))) ∧ Below w.heap.size w wc)
                  case first =>
                    go_region_with (first
                      | (go_at_call 18; refine Calls.mono HC.out ?_; rintro e w4 ⟨v4, rfl, hS4, hR4, hg4⟩; have hb4 := hbd.trans (Below.of_grown hg4 hbd.size hRw); have cb4 := (hb4.cell (p := ⟨b, off + j * 4 + 2, none⟩) hbl).trans HB.out; obtain ⟨ao4, cap4, rfl, _, _⟩ := hS4.shape; have hcv4 := str_of_sl (P := Try.prog) hS4 25 5 9 Try.underlying25 Try.underlying5 Try.underlying9; have hSb4 : Sl w4 (.slice aoB (bb j).length capB) (bb j) := HS.out.kept fun g o n hc => hb4.block g (cell_lt hc))
                      | (go_at_call 9; refine Calls.mono (short_all _ (bb j) 60 _ hSb4 (by omega)) ?_; rintro e w' ⟨v5, rfl, hSh, hw⟩; have hw' := hw.symm; subst hw'; have hS5 := hSh _ hSb4; rw [HT.out] at hS5; obtain ⟨ao5', cap5', rfl, _, _⟩ := hS5.shape; have hcv5 := str_of_sl (P := Try.prog) hS5 25 5 9 Try.underlying25 Try.underlying5 Try.underlying9))
                    all_goals (go_wp2_with fail; go_meet)
                    all_goals exact ⟨rfl, hR4, hb4⟩
                  case rest =>
                    obtain ⟨rfl, hR5, hb5⟩ := hcut
                    go_wp2
                    go_roundw
                    case rel => exact ⟨j + 1, by omega, by go_num, hR5, hb5⟩
                    case measure => simp [intOf]; omega
                · have hk1' : (kd j == 1) = false := by rw [beq_eq_false_iff_ne]; exact hk1
                  have e0 : encOp kd nn bb ff j = [if ff j then 1 else 0] := by unfold encOp; rw [if_neg hk0, if_neg hk1]
                  rw [e0] at hRx
                  have HC : Hid (_) := rflag_is R _ _ _ _ hRx (rFlag_enc (ff j) _)
                  have hnn : (ff j != ff j) = false := by simp
                  clear hk0 hk1 e0 cn' cb' HN HB hS
                  go_upto_region 28 with fail
                  go_cut [110] from 88 to 133 (fun s wc => s = .bool false ∧ Rd wc 54 R (some (restOps kd nn bb ff k (j + 1))) ∧ Below w.heap.size w wc)
                  case first =>
                    go_region_with (first
                      | (go_at_call 19; refine Calls.mono HC.out ?_; rintro e w4 ⟨rfl, hR4, hg4⟩; have hb4 := hbd.trans (Below.of_grown hg4 hbd.size hRw); have cf4 := (hb4.cell (p := ⟨b, off + j * 4 + 3, none⟩) hbl).trans HF.out))
                    all_goals (go_wp2_with fail; go_meet)
                    all_goals exact ⟨rfl, hR4, hb4⟩
                  case rest =>
                    obtain ⟨rfl, hR5, hb5⟩ := hcut
                    go_wp2
                    go_roundw
                    case rel => exact ⟨j + 1, by omega, by go_num, hR5, hb5⟩
                    case measure => simp [intOf]; omega
            · have hjk' : j = k := by omega
              subst hjk'
              rw [restOps_end] at hRd
              go_wp2_with (first
                | (go_at_call 20; refine (ok_any R _ _ hRd).mono ?_; rintro e w' ⟨rfl, hw⟩; have hw' := hw.symm; subst hw')
                | (go_at_call 21; refine (left_any R _ _ hRd).mono ?_; rintro e w' ⟨rfl, hw⟩; have hw' := hw.symm; subst hw'))
              go_ret
              exact ⟨rfl, hb⟩
end Go.Proofs.Ytebfpobdggephaa

/- The walk of the document's reader: Num. The walks of the document's reader: Text and Flag. The walk of the law BinReads. What BinWrites writes and reads, as lists; two rows beside each other; the walk of the document's Text. Four small laws on rows of one's own that the reader's and the writer's walks use. -/
import Derived.Test.YtgknpbgepgmmmaaPart02
import Derived.Deep.RegionWith
import Derived.BigQuiet
import Derived.Deep.RegionLaw
import Derived.Deep.RegionHeld3
import Derived.StillTailTactics
namespace Go.Proofs.Ytgknpbgepgmmmaa.Bn
open Go.RowKit

/-- The number that the bytes from t to k make. -/
def accD (bs : List UInt8) (k t : Nat) : Nat := acc ((bs.take k).drop t)
theorem accD_end (bs : List UInt8) (k t : Nat) (h : k ≤ t) : accD bs k t = 0 := by
  unfold accD
  rw [List.drop_eq_nil_of_le (by simp; omega)]; rfl
theorem accD_step (bs : List UInt8) (k t : Nat) (ht : t < k) (hk : k ≤ bs.length) : (accD bs k t : Int) = at8 bs t % 128 + 128 * accD bs k (t + 1) := by
  unfold accD
  have hl : t < (bs.take k).length := by simp; omega
  rw [List.drop_eq_getElem_cons hl, acc]
  have e : ((bs.take k)[t]).toNat = (bs.getD t 0).toNat := by simp [List.getD, List.getElem?_eq_getElem (show t < bs.length by omega)]
  rw [e]
  unfold at8
  push_cast
  rfl
theorem accD_zero (bs : List UInt8) (k : Nat) : accD bs k 0 = acc (bs.take k) := by simp [accD]
theorem accD_mono (bs : List UInt8) (k t : Nat) (hk : k ≤ bs.length) : accD bs k (t + 1) ≤ accD bs k t := by
  by_cases ht : t < k
  · have := accD_step bs k t ht hk
    have := at8_bd bs t
    omega
  · rw [accD_end bs k (t + 1) (by omega)]; omega
theorem accD_fit (bs : List UInt8) (k : Nat) (hk : k ≤ bs.length) (h1 : 1 ≤ k) (h10 : k ≤ 10) (hx : at8 bs (k - 1) < 128) : accD bs k 1 < 144115188075855872 ↔ ¬ (k = 10 ∧ 1 < at8 bs 9) := by
  have hlt : ∀ m, m ≤ bs.length → 1 ≤ m → accD bs m 1 < 128 ^ (m - 1) := by
    intro m hm h1
    have h := acc_lt ((bs.take m).drop 1)
    have hl : ((bs.take m).drop 1).length = m - 1 := by simp; omega
    rw [hl] at h
    exact h
  by_cases h : k = 10
  · subst h
    have h9 := hlt 9 (by omega) (by omega)
    have hs : accD bs 10 1 = accD bs 9 1 + ((bs.getD 9 0).toNat % 128) * 128 ^ 8 := by
      unfold accD
      have e : bs.take 10 = bs.take 9 ++ [bs[9]] := List.take_succ_eq_append_getElem (by omega)
      have e2 : bs.getD 9 0 = bs[9] := by simp [List.getD, List.getElem?_eq_getElem (show 9 < bs.length by omega)]
      rw [e, List.drop_append_of_le_length (by simp; omega), acc_snoc, e2]
      have hl : ((bs.take 9).drop 1).length = 8 := by simp; omega
      rw [hl]
    have e8 : (128 : Nat) ^ (9 - 1) = 72057594037927936 := by decide
    have e8' : (128 : Nat) ^ 8 = 72057594037927936 := by decide
    rw [e8] at h9
    rw [e8'] at hs
    have hx' : at8 bs 9 = ((bs.getD 9 0).toNat : Int) := rfl
    have hx2 : (bs.getD 9 0).toNat < 128 := by have : at8 bs (10 - 1) < 128 := hx; rw [show 10 - 1 = 9 from rfl, hx'] at this; omega
    rw [hx']
    rw [Nat.mod_eq_of_lt hx2] at hs
    omega
  · have h9 := hlt k hk h1
    have : 128 ^ (k - 1) ≤ 128 ^ 8 := Nat.pow_le_pow_right (by omega) (by omega)
    have e8 : (128 : Nat) ^ 8 = 72057594037927936 := by decide
    rw [e8] at this
    constructor
    · intro _ ⟨h', _⟩; exact h h'
    · intro _; omega

theorem ret_i64 {a b : Int} (h : a = b) : Ending.returned (.int .i64 a) = .returned (.int .i64 b) := by rw [h]
theorem wrap_half (U : Nat) (h : U < 18446744073709551616) : wrap64 ((U : Int) / 2) = (U : Int) / 2 := by
  unfold wrap64; omega
theorem wrap_odd (U : Nat) (h : U < 18446744073709551616) (ho : U % 2 = 1) : wrap64 (-1 - wrap64 ((U : Int) / 2)) = zag U := by
  rw [wrap_half U h]
  unfold zag
  rw [if_pos ho]
  unfold wrap64; omega
theorem wrap_even (U : Nat) (h : U < 18446744073709551616) (ho : ¬ U % 2 = 1) : wrap64 ((U : Int) / 2) = zag U := by
  rw [wrap_half U h]
  unfold zag
  rw [if_neg ho]
  omega
theorem decide_cast (a b : Nat) : Value.bool (decide ((a : Int) < (b : Int))) = Value.bool (decide (a < b)) := by
  congr 1
  simp

set_option maxHeartbeats 400000 in
theorem rffail_any (B : Nat) (st : Option (List UInt8)) (w : World) (h : Rd w 38 B st) :
    Calls Try.prog 39 #[.pointer (some ⟨B, 0, none⟩)] w fun e w' => e = .returned (.tuple #[]) ∧ Rd w' 38 B none ∧ w.grownBy w' (some B) := by
  obtain ⟨v, hB, hv, _⟩ := h
  obtain ⟨c0, c1, f0, f1⟩ := two_cells hB
  have hfin : Rd ((w.setCell ⟨B, 1, none⟩ (.bool true)).setCell ⟨B, 0, none⟩ (.slice none 0 0)) 38 B none ∧ w.grownBy ((w.setCell ⟨B, 1, none⟩ (.bool true)).setCell ⟨B, 0, none⟩ (.slice none 0 0)) (some B) :=
    ⟨⟨_, set_first (set_second hB), Sl.nil _, Or.inl rfl, by simp⟩, grown_set (grown_set (grown_refl _ _))⟩
  clear hB hv
  go_enter Try.func39, Try.ntmps39
  go_wp2
  go_end0
  exact ⟨rfl, hfin⟩

set_option maxRecDepth 100000 in
set_option maxHeartbeats 2000000 in
theorem rfnum_some (B : Nat) (bs : List UInt8) (f : Bool) (g off cap : Nat) (w : World) (hB : w.heap[B]? = some (.cells #[.slice (some ⟨g, off, none⟩) bs.length cap, .bool f] 38 (0, 0))) (hS : Sl w (.slice (some ⟨g, off, none⟩) bs.length cap) bs)
    (st : Option (List UInt8)) (hst : Rd w 38 B st) (hf : 0 < bs.length → f = false) (hlim : bs.length ≤ 140737488355328) :
    Calls Try.prog 16 #[.pointer (some ⟨B, 0, none⟩)] w fun e w' => e = .returned (.int .i64 (rNum (some bs)).1) ∧ Rd w' 38 B (rNum (some bs)).2 ∧ w.grownBy w' (some B) := by
  obtain ⟨c0, c1, f0, f1⟩ := two_cells hB
  have hcap : bs.length ≤ cap := by obtain ⟨_, _, e, h1, _⟩ := hS; simp only [Value.slice.injEq] at e; rw [e.2.2]; exact h1
  have HC : Hid (∀ j, j < bs.length → w.cell? ⟨g, off + j, none⟩ = some (.int .u8 (at8 bs j))) := by
    intro j hj
    obtain ⟨g', off', e, hc⟩ := hS.cell (by omega)
    simp only [Option.some.injEq, Addr.mk.injEq] at e
    obtain ⟨rfl, rfl, _⟩ := e
    exact hc j hj
  have HB : Hid (_) := hB
  have HS : Hid (_) := hS
  have HF : Hid (0 < bs.length → f = false) := hf
  clear hB hS hf
  go_enter Try.func16, Try.ntmps16
  go_wp2
  go_loop [3] (fun kk => ∃ q : Nat, q ≤ 10 ∧ q ≤ bs.length ∧ kk = .int .i64 ((q : Int) + 1) ∧ Hid (∀ j, j < q → 128 ≤ at8 bs j)) (fun kk => 12 - (intOf kk).toNat)
  case atStart => exact ⟨0, by omega, by omega, rfl, fun j hj => by omega⟩
  case round =>
    obtain ⟨q, hq10, hql, rfl, HJ⟩ := hrel
    by_cases hin : q < 10 ∧ q < bs.length
    · obtain ⟨hk10, hkle⟩ := hin
      have hx := HC.out q (by omega)
      have hb := at8_bd bs q
      by_cases hge : 128 ≤ at8 bs q
      · go_wp2
        go_round
        case rel => exact ⟨q + 1, by omega, by omega, by go_num, fun j hj => by
          by_cases e : j < q
          · exact HJ.out j e
          · have : j = q := by omega
            rw [this]; exact hge⟩
        case measure => simp [intOf]; omega
      · have hlt : ¬ (128 : Int) ≤ at8 bs q := by omega
        go_wp2
        go_loop [4, 5, 6] (fun u ok i => ∃ (t : Nat) (uu : Int), t ≤ q + 1 ∧ i = .int .i64 ((t : Int) - 1) ∧ u = .int .u64 uu ∧ ok = .bool (decide (accD bs (q + 1) (t + 1) < 144115188075855872)) ∧ Hid (accD bs (q + 1) (t + 1) < 144115188075855872 → uu = accD bs (q + 1) t)) (fun _ _ i => (intOf i + 1).toNat)
        case atStart => 
          refine ⟨q + 1, 0, Nat.le_refl _, by go_num, rfl, ?_, fun _ => ?_⟩
          · rw [accD_end _ _ _ (by omega)]; rfl
          · rw [accD_end _ _ _ (by omega)]; rfl
        case round =>
          obtain ⟨t, uu, ht, rfl, rfl, rfl, HU⟩ := hrel
          by_cases ht0 : 0 < t
          · obtain ⟨s, rfl⟩ : ∃ s, t = s + 1 := ⟨t - 1, by omega⟩
            have hxs := HC.out s (by omega)
            have hbs := at8_bd bs s
            have hm1 := accD_mono bs (q + 1) (s + 1) (by omega)
            have HST : Hid (_) := accD_step bs (q + 1) s (by omega) (by omega)
            by_cases ho : accD bs (q + 1) (s + 1 + 1) < 144115188075855872
            · have hu := HU.out ho
              subst hu
              by_cases ho2 : accD bs (q + 1) (s + 1) < 144115188075855872
              · go_wp2
                go_round
                case rel => exact ⟨s, _, by omega, rfl, rfl, decide_cast _ _, fun _ => by have := HST.out; omega⟩
                case measure => simp [intOf]
              · go_wp2
                go_round
                case rel => exact ⟨s, _, by omega, rfl, rfl, decide_cast _ _, fun h => absurd h ho2⟩
                case measure => simp [intOf]
            · have ho2 : ¬ accD bs (q + 1) (s + 1) < 144115188075855872 := by omega
              go_wp2
              go_round
              case rel => exact ⟨s, _, by omega, rfl, rfl, (congrArg Value.bool (decide_eq_false ho2)).symm, fun h => absurd h ho2⟩
              case measure => simp [intOf]
          · have hz : t = 0 := by omega
            subst hz
            have hfit := accD_fit bs (q + 1) (by omega) (by omega) (by omega) (by simpa using (show at8 bs q < 128 by omega))
            have HN : Hid (len7 10 bs = q + 1) := len7_at q 10 bs HJ.out hkle (by omega) hk10
            by_cases ho : accD bs (q + 1) (0 + 1) < 144115188075855872
            · have hu := HU.out ho
              subst hu
              have hq9 : ¬ (q + 1 = 10 ∧ 1 < at8 bs 9) := hfit.1 ho
              have HA : Hid (accD bs (q + 1) 0 = acc (bs.take (q + 1))) := accD_zero _ _
              by_cases hp : 0 < q ∧ at8 bs q = 0
              · have HR : Hid (num bs = none) := num_pad HJ.out hk10 hkle hp.1 hp.2
                have hp1 : 0 < q := hp.1
                have hp2 : (at8 bs q == 0) = true := by rw [beq_iff_eq]; exact hp.2
                clear hp hq9 hfit
                go_wp2_with (go_at_call 39; refine (rffail_any B st _ hst).mono ?_; rintro e w1 ⟨rfl, hR1, hg1⟩)
                go_ret
                rw [show rNum (some bs) = (0, none) from by simp [rNum, HR.out]]
                exact ⟨rfl, hR1, hg1⟩
              · have hnum : num bs = some (accD bs (q + 1) 0, q + 1) := by
                  rw [HA.out, num_ok, HN.out]
                  unfold bad
                  rw [HN.out]
                  rintro (h | ⟨h, h'⟩ | ⟨h, h'⟩)
                  · omega
                  · exact hp ⟨by omega, by simpa using h'⟩
                  · exact hq9 ⟨h, h'⟩
                have hU := (num_bds hnum).1
                have HR : Hid (rNum (some bs) = (zag (accD bs (q + 1) 0), some (bs.drop (q + 1)))) := by
                  show _ = _
                  simp [rNum, hnum]
                clear hnum hq9 hfit
                generalize accD bs (q + 1) 0 = U at *
                have hf' := HF.out (by omega)
                subst hf'
                have HP : Hid (_) := Rd.put HB.out HS.out (sl_rest HS.out (q + 1) (by omega)).1 (sl_rest HS.out (q + 1) (by omega)).2 (by rw [List.length_drop]; omega)
                have HZ1 : Hid (U % 2 = 1 → wrap64 (-1 - wrap64 ((U : Int) / 2)) = zag U) := fun h => wrap_odd U hU h
                have HZ2 : Hid (¬ U % 2 = 1 → wrap64 ((U : Int) / 2) = zag U) := fun h => wrap_even U hU h
                have hkc : (q : Int) + 1 ≤ cap := by omega
                clear hU
                by_cases hpar : U % 2 = 1
                · have hpb : ((U : Int) % 2 == 1) = true := by rw [beq_iff_eq]; omega
                  have HZ : Hid (_) := HZ1.out hpar
                  clear hpar HZ1 HZ2
                  rcases (show ¬ 0 < q ∨ (0 < q ∧ ¬ at8 bs q = 0) by omega) with h1 | ⟨h1, h2⟩
                  · clear hp
                    go_wp2
                    all_goals go_ret
                    all_goals rw [HR.out]
                    · have hP := HP.out
                      rw [if_pos (by assumption), show cap - (q + 1) = 0 by omega] at hP
                      exact ⟨ret_i64 HZ.out, hP⟩
                    · have hP := HP.out
                      rw [if_neg (by assumption)] at hP
                      exact ⟨ret_i64 HZ.out, hP⟩
                  · have hp2 : (at8 bs q == 0) = false := by rw [beq_eq_false_iff_ne]; exact h2
                    clear hp h2
                    go_wp2
                    all_goals go_ret
                    all_goals rw [HR.out]
                    · have hP := HP.out
                      rw [if_pos (by assumption), show cap - (q + 1) = 0 by omega] at hP
                      exact ⟨ret_i64 HZ.out, hP⟩
                    · have hP := HP.out
                      rw [if_neg (by assumption)] at hP
                      exact ⟨ret_i64 HZ.out, hP⟩
                · have hpb : ((U : Int) % 2 == 1) = false := by rw [beq_eq_false_iff_ne]; omega
                  have HZ : Hid (_) := HZ2.out hpar
                  clear hpar HZ1 HZ2
                  rcases (show ¬ 0 < q ∨ (0 < q ∧ ¬ at8 bs q = 0) by omega) with h1 | ⟨h1, h2⟩
                  · clear hp
                    go_wp2
                    all_goals go_ret
                    all_goals rw [HR.out]
                    · have hP := HP.out
                      rw [if_pos (by assumption), show cap - (q + 1) = 0 by omega] at hP
                      exact ⟨ret_i64 HZ.out, hP⟩
                    · have hP := HP.out
                      rw [if_neg (by assumption)] at hP
                      exact ⟨ret_i64 HZ.out, hP⟩
                  · have hp2 : (at8 bs q == 0) = false := by rw [beq_eq_false_iff_ne]; exact h2
                    clear hp h2
                    go_wp2
                    all_goals go_ret
                    all_goals rw [HR.out]
                    · have hP := HP.out
                      rw [if_pos (by assumption), show cap - (q + 1) = 0 by omega] at hP
                      exact ⟨ret_i64 HZ.out, hP⟩
                    · have hP := HP.out
                      rw [if_neg (by assumption)] at hP
                      exact ⟨ret_i64 HZ.out, hP⟩
            · have hq9 : q + 1 = 10 ∧ 1 < at8 bs 9 := by
                by_cases h : q + 1 = 10 ∧ 1 < at8 bs 9
                · exact h
                · exact absurd (hfit.2 h) ho
              have HR : Hid (num bs = none) := num_bad (Or.inr (Or.inr ⟨HN.out.trans hq9.1, hq9.2⟩))
              clear hq9 hfit
              go_wp2_with (go_at_call 39; refine (rffail_any B st _ hst).mono ?_; rintro e w1 ⟨rfl, hR1, hg1⟩)
              go_ret
              rw [show rNum (some bs) = (0, none) from by simp [rNum, HR.out]]
              exact ⟨rfl, hR1, hg1⟩
    · have HR : Hid (num bs = none) := num_end HJ.out (by omega)
      rcases (show ¬ q < 10 ∨ (q < 10 ∧ ¬ q < bs.length) by omega) with h1 | ⟨h1, h2⟩
      all_goals
        clear hin
        go_wp2_with (go_at_call 39; refine (rffail_any B st _ hst).mono ?_; rintro e w1 ⟨rfl, hR1, hg1⟩)
        go_ret
        rw [show rNum (some bs) = (0, none) from by simp [rNum, HR.out]]
        exact ⟨rfl, hR1, hg1⟩

set_option maxHeartbeats 400000 in
theorem rfnum_nil (B : Nat) (st : Option (List UInt8)) (f : Bool) (w : World) (hB : w.heap[B]? = some (.cells #[.slice none 0 0, .bool f] 38 (0, 0))) (hst : Rd w 38 B st) :
    Calls Try.prog 16 #[.pointer (some ⟨B, 0, none⟩)] w fun e w' => e = .returned (.int .i64 0) ∧ Rd w' 38 B none ∧ w.grownBy w' (some B) := by
  obtain ⟨c0, c1, f0, f1⟩ := two_cells hB
  clear hB
  go_enter Try.func16, Try.ntmps16
  go_wp2
  refine wp_loop_rounds 1 ?_
  rw [rounds_succ]
  go_wp2_with (go_at_call 39; refine (rffail_any B st _ hst).mono ?_; rintro e w1 ⟨rfl, hR1, hg1⟩)
  go_ret
  exact ⟨rfl, hR1, hg1⟩

theorem rfnum_any (B : Nat) (st : Option (List UInt8)) (w : World) (h : Rd w 38 B st) :
    Calls Try.prog 16 #[.pointer (some ⟨B, 0, none⟩)] w fun e w' => e = .returned (.int .i64 (rNum st).1) ∧ Rd w' 38 B (rNum st).2 ∧ w.grownBy w' (some B) := by
  obtain ⟨v, hB, hv, hp, hl⟩ := id h
  have h0 : ∀ bs, num bs = none → rNum (some bs) = (0, none) := fun bs hn => by simp [rNum, hn]
  have he : num [] = none := by decide
  rcases hp with rfl | ⟨g, off, n', cap, rfl⟩
  · have e0 : (st.getD []) = [] := List.eq_nil_of_length_eq_zero hv.len.symm
    have e1 : rNum st = (0, none) := by
      cases st with
      | none => rfl
      | some bs => simp only [Option.getD_some] at e0; subst e0; exact h0 _ he
    rw [e1]
    exact rfnum_nil B st _ w hB h
  · have e0 := hv.len
    subst e0
    have := rfnum_some B (st.getD []) st.isNone g off cap w hB hv st h (fun hp => by cases st with | none => simp at hp | some bs => rfl) hl
    cases st with
    | none =>
      simp only [Option.getD_none] at this
      rw [h0 _ he] at this
      exact this
    | some bs => exact this

end Go.Proofs.Ytgknpbgepgmmmaa.Bn
namespace Go.Proofs.Ytgknpbgepgmmmaa.Bn
open Go.RowKit

theorem rfnum_is (B : Nat) (st st1 : Option (List UInt8)) (n : Int) (w : World) (h : Rd w 38 B st) (hn : rNum st = (n, st1)) :
    Calls Try.prog 16 #[.pointer (some ⟨B, 0, none⟩)] w fun e w' => e = .returned (.int .i64 n) ∧ Rd w' 38 B st1 ∧ w.grownBy w' (some B) := by
  have := rfnum_any B st w h
  rw [hn] at this
  exact this

set_option maxHeartbeats 400000 in
theorem rftext_none (B : Nat) (st : Option (List UInt8)) (n : Int) (w : World) (h : Rd w 38 B st) (hn : rNum st = (n, none)) :
    Calls Try.prog 17 #[.pointer (some ⟨B, 0, none⟩)] w fun e w' => ∃ v, e = .returned v ∧ Sl w' v [] ∧ Rd w' 38 B none ∧ w.grownBy w' (some B) := by
  have HN : Hid (rNum st = (n, none)) := hn
  clear hn
  go_enter Try.func17, Try.ntmps17
  go_wp2_with fail
  refine (rfnum_is B st none n _ h HN.out).mono ?_
  rintro e w1 ⟨rfl, hr1, hg1⟩
  have H1 := hr1
  obtain ⟨v, hB, hv, _, _⟩ := hr1
  obtain ⟨ao, cap, rfl, _, _⟩ := hv.shape
  obtain ⟨c0, c1, f0, f1⟩ := two_cells hB
  clear hB hv
  go_wp2_with (go_at_call 39; refine (rffail_any B none _ H1).mono ?_; rintro e w2 ⟨rfl, hr2, hg2⟩)
  go_ret
  exact ⟨_, rfl, Sl.nil _, hr2, hg1.trans hg2⟩

set_option maxHeartbeats 400000 in
theorem rftext_bad (B : Nat) (st : Option (List UInt8)) (bs : List UInt8) (n : Int) (w : World) (h : Rd w 38 B st) (hn : rNum st = (n, some bs)) (hb : ¬ (0 ≤ n ∧ n ≤ bs.length)) :
    Calls Try.prog 17 #[.pointer (some ⟨B, 0, none⟩)] w fun e w' => ∃ v, e = .returned v ∧ Sl w' v [] ∧ Rd w' 38 B none ∧ w.grownBy w' (some B) := by
  have HN : Hid (rNum st = (n, some bs)) := hn
  clear hn
  go_enter Try.func17, Try.ntmps17
  go_wp2_with fail
  refine (rfnum_is B st (some bs) n _ h HN.out).mono ?_
  rintro e w1 ⟨rfl, hr1, hg1⟩
  have H1 := hr1
  obtain ⟨v, hB, hv, _, _⟩ := hr1
  obtain ⟨ao, cap, rfl, _, _⟩ := hv.shape
  obtain ⟨c0, c1, f0, f1⟩ := two_cells hB
  clear hB hv
  by_cases h0 : n < 0
  · clear hb
    go_wp2_with (go_at_call 39; refine (rffail_any B (some bs) _ H1).mono ?_; rintro e w2 ⟨rfl, hr2, hg2⟩)
    go_ret
    exact ⟨_, rfl, Sl.nil _, hr2, hg1.trans hg2⟩
  · have h1 : (bs.length : Int) < n := by omega
    clear hb
    go_wp2_with (go_at_call 39; refine (rffail_any B (some bs) _ H1).mono ?_; rintro e w2 ⟨rfl, hr2, hg2⟩)
    go_ret
    exact ⟨_, rfl, Sl.nil _, hr2, hg1.trans hg2⟩

set_option maxHeartbeats 400000 in
theorem rftext_ok (B : Nat) (st : Option (List UInt8)) (bs : List UInt8) (m : Nat) (w : World) (h : Rd w 38 B st) (hn : rNum st = ((m : Int), some bs)) (hb : m ≤ bs.length) :
    Calls Try.prog 17 #[.pointer (some ⟨B, 0, none⟩)] w fun e w' => ∃ v, e = .returned v ∧ Sl w' v (bs.take m) ∧ Rd w' 38 B (some (bs.drop m)) ∧ w.grownBy w' (some B) := by
  have HN : Hid (rNum st = ((m : Int), some bs)) := hn
  clear hn
  have hb' : (m : Int) ≤ bs.length := by omega
  go_enter Try.func17, Try.ntmps17
  go_wp2_with fail
  refine (rfnum_is B st (some bs) m _ h HN.out).mono ?_
  rintro e w1 ⟨rfl, hr1, hg1⟩
  obtain ⟨v, hB, hv, hp, hlim⟩ := hr1
  have hlim' : bs.length ≤ 140737488355328 := hlim
  rcases hp with rfl | ⟨g, off, n', cap, rfl⟩
  · have e0 := hv.len
    simp only [Option.getD_some] at e0
    have e1 : bs = [] := List.eq_nil_of_length_eq_zero e0.symm
    subst e1
    have e2 : m = 0 := by simpa using hb
    subst e2
    obtain ⟨c0, c1, f0, f1⟩ := two_cells hB
    have HP : Hid (_) := Rd.put hB hv (Sl.nil _) (Or.inl rfl) (by simp)
    clear hv hlim hlim' hB e0 hb hb'
    go_wp2
    go_ret
    exact ⟨_, rfl, Sl.nil _, HP.out.1, hg1.trans HP.out.2⟩
  · have e0 := hv.len
    simp only [Option.getD_some] at e0
    subst e0
    have hcap : bs.length ≤ cap := by obtain ⟨_, _, e, h1, _⟩ := hv; simp only [Value.slice.injEq] at e; rw [e.2.2]; exact h1
    obtain ⟨c0, c1, f0, f1⟩ := two_cells hB
    have HV : Hid (Sl w1 (.slice (some ⟨g, off, none⟩) bs.length cap) bs) := hv
    have HB : Hid (_) := hB
    clear hv hlim hB
    go_wp2
    all_goals go_ret
    all_goals
      have HP := Rd.put HB.out HV.out (sl_rest HV.out m hb).1 (sl_rest HV.out m hb).2 (by rw [List.length_drop]; omega)
      have HS := (HV.out.take m hb).rd (st := some bs) ⟨_, HB.out, HV.out, Or.inr ⟨_, _, _, _, rfl⟩, hlim'⟩ HP.2
    · have hcm : cap = m := by assumption
      subst hcm
      rw [if_pos rfl, Nat.sub_self] at HP HS
      exact ⟨_, rfl, HS, HP.1, hg1.trans HP.2⟩
    · rw [if_neg (by assumption)] at HP HS
      exact ⟨_, rfl, HS, HP.1, hg1.trans HP.2⟩

theorem rftext_any (B : Nat) (st : Option (List UInt8)) (w : World) (h : Rd w 38 B st) :
    Calls Try.prog 17 #[.pointer (some ⟨B, 0, none⟩)] w fun e w' => ∃ v, e = .returned v ∧ Sl w' v (rText st).1 ∧ Rd w' 38 B (rText st).2 ∧ w.grownBy w' (some B) := by
  unfold rText
  cases hn : rNum st with
  | mk n st1 =>
    cases st1 with
    | none => exact rftext_none B st n w h hn
    | some bs =>
      simp only [rCut]
      by_cases hb : 0 ≤ n ∧ n ≤ bs.length
      · rw [if_pos hb]
        obtain ⟨m, rfl⟩ := Int.eq_ofNat_of_zero_le hb.1
        exact rftext_ok B st bs m w h hn (by omega)
      · rw [if_neg hb]
        exact rftext_bad B st bs n w h hn hb

end Go.Proofs.Ytgknpbgepgmmmaa.Bn
namespace Go.Proofs.Ytgknpbgepgmmmaa.Bn
open Go.RowKit

set_option maxHeartbeats 400000 in
theorem short_any (v : Value) (bs : List UInt8) (m : Nat) (w : World) (h : Sl w v bs) (hm : m ≤ 1000) :
    Calls Try.prog 14 #[v, .int .i64 m] w fun e w' => ∃ v', e = .returned v' ∧ Sl w' v' (bs.take m) ∧ w' = w := by
  obtain ⟨ao, cap, rfl, h1, h2⟩ := h.shape
  have h2' : cap ≤ 9223372036854775807 := h2
  have HS : Hid (Sl w (.slice ao bs.length cap) bs) := h
  clear h
  by_cases hl : m < bs.length
  · have hl' : (m : Int) < (bs.length : Int) := by omega
    have hc : (m : Int) ≤ (cap : Int) := by omega
    go_enter Try.func14, Try.ntmps14
    go_wp2
    all_goals go_ret
    all_goals exact ⟨_, rfl, HS.out.take m (by omega), rfl⟩
  · have hl' : ¬ (m : Int) < (bs.length : Int) := by omega
    go_enter Try.func14, Try.ntmps14
    go_wp2
    go_ret
    exact ⟨_, rfl, by rw [List.take_of_length_le (by omega)]; exact HS.out, rfl⟩

/-- 'append' of bytes onto a slice of the call's own, whatever slice the bytes come from. -/
theorem wpList_append_sl {P : Program} (w : World) {ops : Array Oper} {rest : List Oper} {o : Oper} {a : Act} {Q : Exit → Act → World → Prop} (hgd : o.guard = none) (s x : Operand) (t : TypeId)
    (ho : o.op = .call { callee := .builtin .append, args := #[s, x], argTypes := #[t, t] }) (base : Nat) (i : TypeInfo) (ht : P.underlying t = some (.slice 5)) (hi : P.info? 5 = some i) (hz : i.zero = some (.int .u8 0)) (hsize : i.size = 1) (hby : i.bytes = 1)
    (v vx : Value) (bs tx : List UInt8) (hs : a.eval s = v) (hown : w.ownsRow base 5 1 v bs.length (cells8 bs)) (hx : a.eval x = vx) (hS : Sl w vx tx) (hl : bs.length + tx.length ≤ 140737488355328) (hbase : base ≤ w.heap.size)
    (h : ∀ v' w', w'.ownsRow base 5 1 v' (bs ++ tx).length (cells8 (bs ++ tx)) → w.grownBy w' v.ownBlock → (v'.ownBlock = v.ownBlock ∨ v'.ownBlock = some w.heap.size) → wpList P ops Q rest (a.put o.dst v') w') :
    wpList P ops Q (o :: rest) a w := by
  obtain ⟨ao, cap, rfl, h1, h2, h3, h4⟩ := id hS
  cases ao with
  | some ad =>
    refine wpList_append_own_at w hgd s x t ho base 5 i (.int .u8 0) 1 1 ht hi hz hsize hby rfl (by decide) v bs.length (cells8 bs) hs hown ad tx.length cap (cells8 tx) hx (by rw [cells8_len, Nat.mul_one]) (sl_news hS) (cells8_one tx) (by simp only [maxLen]; omega) (by omega) hbase ?_
    intro v' w' g1 g2 _ g4
    exact h v' w' (by rw [List.length_append, cells8_append]; exact g1) g2 g4
  | none =>
    have hc := h3 rfl
    have e : tx = [] := List.eq_nil_of_length_eq_zero (by omega)
    subst e hc
    refine wpList_append_own_none hgd s x t ho base 5 i 1 ht hi v bs.length (cells8 bs) hs hown hx ?_
    exact h v w (by rw [List.append_nil]; exact hown) (grown_refl _ _) (Or.inl rfl)

theorem Rd.drew {w : World} {T B : Nat} {st : Option (List UInt8)} (h : Rd w T B st) (n : Nat) : Rd (w.drewN n) T B st := h
theorem some_none (st : Option (List UInt8)) : (st.isSome == st.isNone) = false := by cases st <;> rfl

end Go.Proofs.Ytgknpbgepgmmmaa.Bn
namespace Go.Proofs.Ytgknpbgepgmmmaa.Bn
open Go.RowKit

/- memory: two rows of bytes beside each other -/
def Apart (u v : Value) : Prop := ∀ g, u.ownBlock = some g → v.ownBlock ≠ some g
theorem own5_wrote {w w' : World} {base b B : Nat} {u vv : Value} {n : Nat} {xs : List Value} {bs : List UInt8} (h : w.ownsRow base 5 1 u n xs) (hW : Wr w 71 b B vv bs) (hw : Wrote w w' B vv.ownBlock) (ha : Apart vv u) : w'.ownsRow base 5 1 u n xs := by
  obtain ⟨h1, h2⟩ := h
  refine ⟨h1, ?_⟩
  rcases h2 with h2 | ⟨g, cap, cur, e1, e2, e3, e4⟩
  · exact Or.inl h2
  · refine Or.inr ⟨g, cap, cur, e1, e2, ?_, e4⟩
    rw [hw.block g (lt_of_block e3) (fun e' => ?_) (fun e' => ?_)]
    · exact e3
    · subst e'
      have := hW.1
      rw [e3] at this
      simp at this
    · exact ha g e'.symm (by rw [e1]; rfl)
theorem wr_grown5 {w w' : World} {base b B : Nat} {u vv : Value} {n : Nat} {xs : List Value} {bs : List UInt8} (hW : Wr w 71 b B vv bs) (h : w.ownsRow base 5 1 u n xs) (hg : w.grownBy w' u.ownBlock) (ha : Apart vv u) : Wr w' 71 b B vv bs := by
  refine ⟨?_, hW.2.1, ?_⟩
  · rw [hg.block B hW.lt (fun e' => ?_)]
    · exact hW.1
    · rcases h.2 with ⟨rfl, _⟩ | ⟨g, cap, cur, rfl, _, e3, _⟩
      · simp [Value.ownBlock] at e'
      · simp [Value.ownBlock] at e'
        subst e'
        have := hW.1
        rw [e3] at this
        simp at this
  · rcases hW.2.2 with h2 | ⟨g, cap, cur, e1, e2, e3, e4⟩
    · exact Or.inl h2
    · refine Or.inr ⟨g, cap, cur, e1, e2, ?_, e4⟩
      rw [hg.block g (lt_of_block e3) (fun e' => ha g (by rw [e1]; rfl) e'.symm)]
      exact e3
theorem Apart.moved {w : World} {base : Nat} {u vv v' : Value} {n : Nat} {xs : List Value} (ha : Apart vv u) (hm : Moved w vv v') (h : w.ownsRow base 5 1 u n xs) : Apart v' u := by
  intro g hg e
  rcases hm with hm | ⟨k, h1, h2⟩
  · exact ha g (hm ▸ hg) e
  · rw [h1] at hg
    have := (h.lt g e).2
    simp at hg
    omega
theorem Apart.moved' {w : World} {b B : Nat} {u u' vv : Value} {bs : List UInt8} (ha : Apart vv u) (hW : Wr w 71 b B vv bs) {k : Nat} (hk : w.heap.size ≤ k) (hat : u'.ownBlock = u.ownBlock ∨ u'.ownBlock = some k) : Apart vv u' := by
  intro g hg e
  rcases hat with hat | hat
  · exact ha g hg (hat ▸ e)
  · rw [hat] at e
    have := (hW.2.lt g hg).2
    simp at e
    omega

/- the plain side: what is written, what is read -/
def encOp (kd nn : Nat → Int) (bb : Nat → List UInt8) (ff : Nat → Bool) (j : Nat) : List UInt8 :=
  if kd j = 0 then enc (nn j) else if kd j = 1 then enc ((bb j).take 60).length ++ (bb j).take 60 else [if ff j then 1 else 0]
def encOps (kd nn : Nat → Int) (bb : Nat → List UInt8) (ff : Nat → Bool) : Nat → List UInt8
  | 0 => []
  | k + 1 => encOps kd nn bb ff k ++ encOp kd nn bb ff k
section
variable (kd nn : Nat → Int) (bb : Nat → List UInt8) (ff : Nat → Bool)
theorem encOp_le (j : Nat) : (encOp kd nn bb ff j).length ≤ 70 := by
  unfold encOp
  split
  · have := enc_le (nn j); omega
  · split
    · have := enc_le ((bb j).take 60).length
      have h2 : ((bb j).take 60).length ≤ 60 := List.length_take_le _ _
      rw [List.length_append]; omega
    · simp
theorem encOps_le : ∀ k, (encOps kd nn bb ff k).length ≤ 70 * k
  | 0 => by simp [encOps]
  | k + 1 => by have := encOps_le k; have := encOp_le kd nn bb ff k; simp only [encOps, List.length_append]; omega
theorem encOps_pre (i : Nat) : ∀ d, ∃ r, encOps kd nn bb ff (i + d) = encOps kd nn bb ff i ++ r
  | 0 => ⟨[], by simp⟩
  | d + 1 => by
    obtain ⟨r, hr⟩ := encOps_pre i d
    exact ⟨r ++ encOp kd nn bb ff (i + d), by show encOps kd nn bb ff (i + d) ++ encOp kd nn bb ff (i + d) = _; rw [hr, List.append_assoc]⟩
def restOps (m j : Nat) : List UInt8 := (encOps kd nn bb ff m).drop (encOps kd nn bb ff j).length
theorem restOps_step (m j : Nat) (h : j < m) : restOps kd nn bb ff m j = encOp kd nn bb ff j ++ restOps kd nn bb ff m (j + 1) := by
  obtain ⟨r, hr⟩ := encOps_pre kd nn bb ff (j + 1) (m - (j + 1))
  rw [show j + 1 + (m - (j + 1)) = m by omega] at hr
  unfold restOps
  rw [hr, List.drop_left]
  show (encOps kd nn bb ff j ++ encOp kd nn bb ff j ++ r).drop _ = _
  rw [List.append_assoc, List.drop_left]
theorem restOps_zero (m : Nat) : restOps kd nn bb ff m 0 = encOps kd nn bb ff m := by simp [restOps, encOps]
theorem restOps_end (m : Nat) : restOps kd nn bb ff m m = [] := by simp [restOps]
end

set_option maxHeartbeats 400000 in
theorem reftext_any (v : Value) (t : List UInt8) (w : World) (h : Sl w v t) (hl : t.length ≤ 1000) :
    Calls Try.prog 13 #[v] w fun e w' => ∃ v', e = .returned v' ∧ w'.ownsRow w.heap.size 5 1 v' (enc t.length ++ t).length (cells8 (enc t.length ++ t)) ∧ Below w.heap.size w w' := by
  obtain ⟨i, hi, hz0, hz1, hz2⟩ := info_parts Try.info5
  obtain ⟨ao, cap, rfl, h1, h2⟩ := h.shape
  go_enter Try.func13, Try.ntmps13
  go_wp2_with fail
  refine (refnum_any t.length w (by omega) (by omega)).mono ?_
  rintro e w1 ⟨v1, rfl, hO1, hb1⟩
  have hS1 := h.below hb1
  have hle := enc_le t.length
  go_wp2_with (at_builtin; refine wpList_append_sl _ rfl (.tmp 5) (.tmp 6) 24 rfl w.heap.size i Try.underlying24 hi hz0 hz1 hz2 _ _ (enc t.length) t rfl hO1 rfl hS1 (by omega) hb1.size ?_)
  intro v' w2 hO2 hg2 _
  have hb2 : Below w.heap.size w w2 := hb1.grown hg2 hb1.size (fun k hk => (hO1.lt k hk).1)
  have HO : Hid (w2.ownsRow w.heap.size 5 1 v' (enc t.length ++ t).length (cells8 (enc t.length ++ t))) := by show World.ownsRow _ _ _ _ _ _ _; rw [List.length_append]; exact hO2
  obtain ⟨ao2, cap2, rfl, _, _⟩ := (Sl.of_own HO.out).shape
  clear hO2 hg2 hO1
  go_wp2
  go_ret
  exact ⟨_, rfl, HO.out, hb2⟩
end Go.Proofs.Ytgknpbgepgmmmaa.Bn
namespace Go.Proofs.Ytgknpbgepgmmmaa.Kp
open Go.RowKit Bn
theorem own_shape {w : World} {b e s n : Nat} {v : Value} {xs : List Value} (h : w.ownsRow b e s v n xs) : (v = .slice none 0 0 ∧ n = 0) ∨ ∃ g cap, v = .slice (some ⟨g, 0, none⟩) n cap ∧ n ≤ cap ∧ cap ≤ maxLen ∧ g < w.heap.size := by
  rcases h.2 with h | ⟨g, cap, cur, rfl, _, hg, h1, h2, _⟩
  · exact .inl h
  · exact .inr ⟨g, cap, rfl, h1, h2, (Array.getElem?_eq_some_iff.1 hg).1⟩
theorem own_slice {w : World} {b e s n : Nat} {v : Value} {xs : List Value} (h : w.ownsRow b e s v n xs) : ∃ ao L cap, v = .slice ao L cap := by
  rcases own_shape h with ⟨rfl, _⟩ | ⟨g, cap, rfl, _⟩ <;> exact ⟨_, _, _, rfl⟩
theorem own_lower {w : World} {base base' : Nat} {T : TypeId} {v : Value} {n : Nat} {xs : List Value} (h : w.ownsRow base T 1 v n xs) (hb : base' ≤ base) : w.ownsRow base' T 1 v n xs :=
  ⟨h.1, h.2.imp id fun ⟨g, cap, cur, e1, e2, e3⟩ => ⟨g, cap, cur, e1, Nat.le_trans hb e2, e3⟩⟩
theorem wrote_below {w w' : World} {B base : Nat} {row : Option Nat} (h : Bn.Wrote w w' B row) (hB : base ≤ B) (hr : ∀ k, row = some k → base ≤ k) (hs : base ≤ w.heap.size) : Below base w w' :=
  ⟨h.os, h.tape, h.output, h.size, fun k hk => h.block k (by omega) (by omega) (fun e => by have := hr k e.symm; omega)⟩
end Go.Proofs.Ytgknpbgepgmmmaa.Kp

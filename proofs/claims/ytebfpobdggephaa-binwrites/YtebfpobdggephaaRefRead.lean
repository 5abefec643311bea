/- The walk of the document's reader: Num. -/
import Derived.Test.YtebfpobdggephaaRefNum
namespace Go.Proofs.Ytebfpobdggephaa
open Go.RowKit

/-- The number that the bytes from t to k make. -/
def accD (bs : List UInt8) (k t : Nat) : Nat := acc ((bs.take k).drop t)
theorem accD_end (bs : List UInt8) (k t : Nat) (h : k ≤ t) : accD bs k t = 0 := by
  unfold accD
  rw [List.drop_eq_nil_of_le (by simp; omega)]; rfl
theorem accD_step (bs : List UInt8) (k t : Nat) (ht : t < k) (hk : k ≤ bs.length) : (accD bs k t : Int) = at8 bs t % 128 + 128 * accD bs k (t + 1) := by
  unfold accD
  have hl : t < (bs.take k).length := by simp; omega
  rw [List.drop_eq_getElem_cons hl, acc]
  have e : ((bs.take k)[t]).toNat = (bs.getD t 0).toNat := by simp [List.getD, List.getElem?_eq_getElem (show t < bs.length by omega)]
  rw [e]
  unfold at8
  push_cast
  rfl
theorem accD_zero (bs : List UInt8) (k : Nat) : accD bs k 0 = acc (bs.take k) := by simp [accD]
theorem accD_mono (bs : List UInt8) (k t : Nat) (hk : k ≤ bs.length) : accD bs k (t + 1) ≤ accD bs k t := by
  by_cases ht : t < k
  · have := accD_step bs k t ht hk
    have := at8_bd bs t
    omega
  · rw [accD_end bs k (t + 1) (by omega)]; omega
theorem accD_fit (bs : List UInt8) (k : Nat) (hk : k ≤ bs.length) (h1 : 1 ≤ k) (h10 : k ≤ 10) (hx : at8 bs (k - 1) < 128) : accD bs k 1 < 144115188075855872 ↔ ¬ (k = 10 ∧ 1 < at8 bs 9) := by
  have hlt : ∀ m, m ≤ bs.length → 1 ≤ m → accD bs m 1 < 128 ^ (m - 1) := by
    intro m hm h1
    have h := acc_lt ((bs.take m).drop 1)
    have hl : ((bs.take m).drop 1).length = m - 1 := by simp; omega
    rw [hl] at h
    exact h
  by_cases h : k = 10
  · subst h
    have h9 := hlt 9 (by omega) (by omega)
    have hs : accD bs 10 1 = accD bs 9 1 + ((bs.getD 9 0).toNat % 128) * 128 ^ 8 := by
      unfold accD
      have e : bs.take 10 = bs.take 9 ++ [bs[9]] := List.take_succ_eq_append_getElem (by omega)
      have e2 : bs.getD 9 0 = bs[9] := by simp [List.getD, List.getElem?_eq_getElem (show 9 < bs.length by omega)]
      rw [e, List.drop_append_of_le_length (by simp; omega), acc_snoc, e2]
      have hl : ((bs.take 9).drop 1).length = 8 := by simp; omega
      rw [hl]
    have e8 : (128 : Nat) ^ (9 - 1) = 72057594037927936 := by decide
    have e8' : (128 : Nat) ^ 8 = 72057594037927936 := by decide
    rw [e8] at h9
    rw [e8'] at hs
    have hx' : at8 bs 9 = ((bs.getD 9 0).toNat : Int) := rfl
    have hx2 : (bs.getD 9 0).toNat < 128 := by have : at8 bs (10 - 1) < 128 := hx; rw [show 10 - 1 = 9 from rfl, hx'] at this; omega
    rw [hx']
    rw [Nat.mod_eq_of_lt hx2] at hs
    omega
  · have h9 := hlt k hk h1
    have : 128 ^ (k - 1) ≤ 128 ^ 8 := Nat.pow_le_pow_right (by omega) (by omega)
    have e8 : (128 : Nat) ^ 8 = 72057594037927936 := by decide
    rw [e8] at this
    constructor
    · intro _ ⟨h', _⟩; exact h h'
    · intro _; omega

theorem ret_i64 {a b : Int} (h : a = b) : Ending.returned (.int .i64 a) = .returned (.int .i64 b) := by rw [h]
theorem wrap_half (U : Nat) (h : U < 18446744073709551616) : wrap64 ((U : Int) / 2) = (U : Int) / 2 := by
  unfold wrap64; omega
theorem wrap_odd (U : Nat) (h : U < 18446744073709551616) (ho : U % 2 = 1) : wrap64 (-1 - wrap64 ((U : Int) / 2)) = zag U := by
  rw [wrap_half U h]
  unfold zag
  rw [if_pos ho]
  unfold wrap64; omega
theorem wrap_even (U : Nat) (h : U < 18446744073709551616) (ho : ¬ U % 2 = 1) : wrap64 ((U : Int) / 2) = zag U := by
  rw [wrap_half U h]
  unfold zag
  rw [if_neg ho]
  omega
theorem decide_cast (a b : Nat) : Value.bool (decide ((a : Int) < (b : Int))) = Value.bool (decide (a < b)) := by
  congr 1
  simp

set_option maxHeartbeats 400000 in
theorem rffail_any (B : Nat) (st : Option (List UInt8)) (w : World) (h : Rd w 45 B st) :
    Calls Try.prog 30 #[.pointer (some ⟨B, 0, none⟩)] w fun e w' => e = .returned (.tuple #[]) ∧ Rd w' 45 B none ∧ w.grownBy w' (some B) := by
  obtain ⟨v, hB, hv, _⟩ := h
  obtain ⟨c0, c1, f0, f1⟩ := two_cells hB
  have hfin : Rd ((w.setCell ⟨B, 1, none⟩ (.bool true)).setCell ⟨B, 0, none⟩ (.slice none 0 0)) 45 B none ∧ w.grownBy ((w.setCell ⟨B, 1, none⟩ (.bool true)).setCell ⟨B, 0, none⟩ (.slice none 0 0)) (some B) :=
    ⟨⟨_, set_first (set_second hB), Sl.nil _, Or.inl rfl, by simp⟩, grown_set (grown_set (grown_refl _ _))⟩
  clear hB hv
  go_enter Try.func30, Try.ntmps30
  go_wp2
  go_end0
  exact ⟨rfl, hfin⟩

set_option maxRecDepth 100000 in
set_option maxHeartbeats 2000000 in
theorem rfnum_some (B : Nat) (bs : List UInt8) (f : Bool) (g off cap : Nat) (w : World) (hB : w.heap[B]? = some (.cells #[.slice (some ⟨g, off, none⟩) bs.length cap, .bool f] 45 (0, 0))) (hS : Sl w (.slice (some ⟨g, off, none⟩) bs.length cap) bs)
    (st : Option (List UInt8)) (hst : Rd w 45 B st) (hf : 0 < bs.length → f = false) (hlim : bs.length ≤ 140737488355328) :
    Calls Try.prog 22 #[.pointer (some ⟨B, 0, none⟩)] w fun e w' => e = .returned (.int .i64 (rNum (some bs)).1) ∧ Rd w' 45 B (rNum (some bs)).2 ∧ w.grownBy w' (some B) := by
  obtain ⟨c0, c1, f0, f1⟩ := two_cells hB
  have hcap : bs.length ≤ cap := by obtain ⟨_, _, e, h1, _⟩ := hS; simp only [Value.slice.injEq] at e; rw [e.2.2]; exact h1
  have HC : Hid (∀ j, j < bs.length → w.cell? ⟨g, off + j, none⟩ = some (.int .u8 (at8 bs j))) := by
    intro j hj
    obtain ⟨g', off', e, hc⟩ := hS.cell (by omega)
    simp only [Option.some.injEq, Addr.mk.injEq] at e
    obtain ⟨rfl, rfl, _⟩ := e
    exact hc j hj
  have HB : Hid (_) := hB
  have HS : Hid (_) := hS
  have HF : Hid (0 < bs.length → f = false) := hf
  clear hB hS hf
  go_enter Try.func22, Try.ntmps22
  go_wp2
  go_loop [3] (fun kk => ∃ q : Nat, q ≤ 10 ∧ q ≤ bs.length ∧ kk = .int .i64 ((q : Int) + 1) ∧ Hid (∀ j, j < q → 128 ≤ at8 bs j)) (fun kk => 12 - (intOf kk).toNat)
  case atStart => exact ⟨0, by omega, by omega, rfl, fun j hj => by omega⟩
  case round =>
    obtain ⟨q, hq10, hql, rfl, HJ⟩ := hrel
    by_cases hin : q < 10 ∧ q < bs.length
    · obtain ⟨hk10, hkle⟩ := hin
      have hx := HC.out q (by omega)
      have hb := at8_bd bs q
      by_cases hge : 128 ≤ at8 bs q
      · go_wp2
        go_round
        case rel => exact ⟨q + 1, by omega, by omega, by go_num, fun j hj => by
          by_cases e : j < q
          · exact HJ.out j e
          · have : j = q := by omega
            rw [this]; exact hge⟩
        case measure => simp [intOf]; omega
      · have hlt : ¬ (128 : Int) ≤ at8 bs q := by omega
        go_wp2
        go_loop [4, 5, 6] (fun u ok i => ∃ (t : Nat) (uu : Int), t ≤ q + 1 ∧ i = .int .i64 ((t : Int) - 1) ∧ u = .int .u64 uu ∧ ok = .bool (decide (accD bs (q + 1) (t + 1) < 144115188075855872)) ∧ Hid (accD bs (q + 1) (t + 1) < 144115188075855872 → uu = accD bs (q + 1) t)) (fun _ _ i => (intOf i + 1).toNat)
        case atStart => 
          refine ⟨q + 1, 0, Nat.le_refl _, by go_num, rfl, ?_, fun _ => ?_⟩
          · rw [accD_end _ _ _ (by omega)]; rfl
          · rw [accD_end _ _ _ (by omega)]; rfl
        case round =>
          obtain ⟨t, uu, ht, rfl, rfl, rfl, HU⟩ := hrel
          by_cases ht0 : 0 < t
          · obtain ⟨s, rfl⟩ : ∃ s, t = s + 1 := ⟨t - 1, by omega⟩
            have hxs := HC.out s (by omega)
            have hbs := at8_bd bs s
            have hm1 := accD_mono bs (q + 1) (s + 1) (by omega)
            have HST : Hid (_) := accD_step bs (q + 1) s (by omega) (by omega)
            by_cases ho : accD bs (q + 1) (s + 1 + 1) < 144115188075855872
            · have hu := HU.out ho
              subst hu
              by_cases ho2 : accD bs (q + 1) (s + 1) < 144115188075855872
              · go_wp2
                go_round
                case rel => exact ⟨s, _, by omega, rfl, rfl, decide_cast _ _, fun _ => by have := HST.out; omega⟩
                case measure => simp [intOf]
              · go_wp2
                go_round
                case rel => exact ⟨s, _, by omega, rfl, rfl, decide_cast _ _, fun h => absurd h ho2⟩
                case measure => simp [intOf]
            · have ho2 : ¬ accD bs (q + 1) (s + 1) < 144115188075855872 := by omega
              go_wp2
              go_round
              case rel => exact ⟨s, _, by omega, rfl, rfl, (congrArg Value.bool (decide_eq_false ho2)).symm, fun h => absurd h ho2⟩
              case measure => simp [intOf]
          · have hz : t = 0 := by omega
            subst hz
            have hfit := accD_fit bs (q + 1) (by omega) (by omega) (by omega) (by simpa using (show at8 bs q < 128 by omega))
            have HN : Hid (len7 10 bs = q + 1) := len7_at q 10 bs HJ.out hkle (by omega) hk10
            by_cases ho : accD bs (q + 1) (0 + 1) < 144115188075855872
            · have hu := HU.out ho
              subst hu
              have hq9 : ¬ (q + 1 = 10 ∧ 1 < at8 bs 9) := hfit.1 ho
              have HA : Hid (accD bs (q + 1) 0 = acc (bs.take (q + 1))) := accD_zero _ _
              by_cases hp : 0 < q ∧ at8 bs q = 0
              · have HR : Hid (num bs = none) := num_pad HJ.out hk10 hkle hp.1 hp.2
                have hp1 : 0 < q := hp.1
                have hp2 : (at8 bs q == 0) = true := by rw [beq_iff_eq]; exact hp.2
                clear hp hq9 hfit
                go_wp2_with (go_at_call 30; refine (rffail_any B st _ hst).mono ?_; rintro e w1 ⟨rfl, hR1, hg1⟩)
                go_ret
                rw [show rNum (some bs) = (0, none) from by simp [rNum, HR.out]]
                exact ⟨rfl, hR1, hg1⟩
              · have hnum : num bs = some (accD bs (q + 1) 0, q + 1) := by
                  rw [HA.out, num_ok, HN.out]
                  unfold bad
                  rw [HN.out]
                  rintro (h | ⟨h, h'⟩ | ⟨h, h'⟩)
                  · omega
                  · exact hp ⟨by omega, by simpa using h'⟩
                  · exact hq9 ⟨h, h'⟩
                have hU := (num_bds hnum).1
                have HR : Hid (rNum (some bs) = (zag (accD bs (q + 1) 0), some (bs.drop (q + 1)))) := by
                  show _ = _
                  simp [rNum, hnum]
                clear hnum hq9 hfit
                generalize accD bs (q + 1) 0 = U at *
                have hf' := HF.out (by omega)
                subst hf'
                have HP : Hid (_) := Rd.put HB.out HS.out (sl_rest HS.out (q + 1) (by omega)).1 (sl_rest HS.out (q + 1) (by omega)).2 (by rw [List.length_drop]; omega)
                have HZ1 : Hid (U % 2 = 1 → wrap64 (-1 - wrap64 ((U : Int) / 2)) = zag U) := fun h => wrap_odd U hU h
                have HZ2 : Hid (¬ U % 2 = 1 → wrap64 ((U : Int) / 2) = zag U) := fun h => wrap_even U hU h
                have hkc : (q : Int) + 1 ≤ cap := by omega
                clear hU
                by_cases hpar : U % 2 = 1
                · have hpb : ((U : Int) % 2 == 1) = true := by rw [beq_iff_eq]; omega
                  have HZ : Hid (_) := HZ1.out hpar
                  clear hpar HZ1 HZ2
                  rcases (show ¬ 0 < q ∨ (0 < q ∧ ¬ at8 bs q = 0) by omega) with h1 | ⟨h1, h2⟩
                  · clear hp
                    go_wp2
                    all_goals go_ret
                    all_goals rw [HR.out]
                    · have hP := HP.out
                      rw [if_pos (by assumption), show cap - (q + 1) = 0 by omega] at hP
                      exact ⟨ret_i64 HZ.out, hP⟩
                    · have hP := HP.out
                      rw [if_neg (by assumption)] at hP
                      exact ⟨ret_i64 HZ.out, hP⟩
                  · have hp2 : (at8 bs q == 0) = false := by rw [beq_eq_false_iff_ne]; exact h2
                    clear hp h2
                    go_wp2
                    all_goals go_ret
                    all_goals rw [HR.out]
                    · have hP := HP.out
                      rw [if_pos (by assumption), show cap - (q + 1) = 0 by omega] at hP
                      exact ⟨ret_i64 HZ.out, hP⟩
                    · have hP := HP.out
                      rw [if_neg (by assumption)] at hP
                      exact ⟨ret_i64 HZ.out, hP⟩
                · have hpb : ((U : Int) % 2 == 1) = false := by rw [beq_eq_false_iff_ne]; omega
                  have HZ : Hid (_) := HZ2.out hpar
                  clear hpar HZ1 HZ2
                  rcases (show ¬ 0 < q ∨ (0 < q ∧ ¬ at8 bs q = 0) by omega) with h1 | ⟨h1, h2⟩
                  · clear hp
                    go_wp2
                    all_goals go_ret
                    all_goals rw [HR.out]
                    · have hP := HP.out
                      rw [if_pos (by assumption), show cap - (q + 1) = 0 by omega] at hP
                      exact ⟨ret_i64 HZ.out, hP⟩
                    · have hP := HP.out
                      rw [if_neg (by assumption)] at hP
                      exact ⟨ret_i64 HZ.out, hP⟩
                  · have hp2 : (at8 bs q == 0) = false := by rw [beq_eq_false_iff_ne]; exact h2
                    clear hp h2
                    go_wp2
                    all_goals go_ret
                    all_goals rw [HR.out]
                    · have hP := HP.out
                      rw [if_pos (by assumption), show cap - (q + 1) = 0 by omega] at hP
                      exact ⟨ret_i64 HZ.out, hP⟩
                    · have hP := HP.out
                      rw [if_neg (by assumption)] at hP
                      exact ⟨ret_i64 HZ.out, hP⟩
            · have hq9 : q + 1 = 10 ∧ 1 < at8 bs 9 := by
                by_cases h : q + 1 = 10 ∧ 1 < at8 bs 9
                · exact h
                · exact absurd (hfit.2 h) ho
              have HR : Hid (num bs = none) := num_bad (Or.inr (Or.inr ⟨HN.out.trans hq9.1, hq9.2⟩))
              clear hq9 hfit
              go_wp2_with (go_at_call 30; refine (rffail_any B st _ hst).mono ?_; rintro e w1 ⟨rfl, hR1, hg1⟩)
              go_ret
              rw [show rNum (some bs) = (0, none) from by simp [rNum, HR.out]]
              exact ⟨rfl, hR1, hg1⟩
    · have HR : Hid (num bs = none) := num_end HJ.out (by omega)
      rcases (show ¬ q < 10 ∨ (q < 10 ∧ ¬ q < bs.length) by omega) with h1 | ⟨h1, h2⟩
      all_goals
        clear hin
        go_wp2_with (go_at_call 30; refine (rffail_any B st _ hst).mono ?_; rintro e w1 ⟨rfl, hR1, hg1⟩)
        go_ret
        rw [show rNum (some bs) = (0, none) from by simp [rNum, HR.out]]
        exact ⟨rfl, hR1, hg1⟩

set_option maxHeartbeats 400000 in
theorem rfnum_nil (B : Nat) (st : Option (List UInt8)) (f : Bool) (w : World) (hB : w.heap[B]? = some (.cells #[.slice none 0 0, .bool f] 45 (0, 0))) (hst : Rd w 45 B st) :
    Calls Try.prog 22 #[.pointer (some ⟨B, 0, none⟩)] w fun e w' => e = .returned (.int .i64 0) ∧ Rd w' 45 B none ∧ w.grownBy w' (some B) := by
  obtain ⟨c0, c1, f0, f1⟩ := two_cells hB
  clear hB
  go_enter Try.func22, Try.ntmps22
  go_wp2
  refine wp_loop_rounds 1 ?_
  rw [rounds_succ]
  go_wp2_with (go_at_call 30; refine (rffail_any B st _ hst).mono ?_; rintro e w1 ⟨rfl, hR1, hg1⟩)
  go_ret
  exact ⟨rfl, hR1, hg1⟩

theorem rfnum_any (B : Nat) (st : Option (List UInt8)) (w : World) (h : Rd w 45 B st) :
    Calls Try.prog 22 #[.pointer (some ⟨B, 0, none⟩)] w fun e w' => e = .returned (.int .i64 (rNum st).1) ∧ Rd w' 45 B (rNum st).2 ∧ w.grownBy w' (some B) := by
  obtain ⟨v, hB, hv, hp, hl⟩ := id h
  have h0 : ∀ bs, num bs = none → rNum (some bs) = (0, none) := fun bs hn => by simp [rNum, hn]
  have he : num [] = none := by decide
  rcases hp with rfl | ⟨g, off, n', cap, rfl⟩
  · have e0 : (st.getD []) = [] := List.eq_nil_of_length_eq_zero hv.len.symm
    have e1 : rNum st = (0, none) := by
      cases st with
      | none => rfl
      | some bs => simp only [Option.getD_some] at e0; subst e0; exact h0 _ he
    rw [e1]
    exact rfnum_nil B st _ w hB h
  · have e0 := hv.len
    subst e0
    have := rfnum_some B (st.getD []) st.isNone g off cap w hB hv st h (fun hp => by cases st with | none => simp at hp | some bs => rfl) hl
    cases st with
    | none =>
      simp only [Option.getD_none] at this
      rw [h0 _ he] at this
      exact this
    | some bs => exact this

end Go.Proofs.Ytebfpobdggephaa

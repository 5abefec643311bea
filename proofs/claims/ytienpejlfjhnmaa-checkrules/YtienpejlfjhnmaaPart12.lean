/- The walk of the reference's literal, where it does not begin with '!'. The walks of the reference's EqLiteral, EqRule and EqRules, at two values that read the same. The iterator over the places where predicates stand: its contract. The walk of boundBy. -/
import Derived.Test.YtienpejlfjhnmaaPart11
import Derived.Test.YtienpejlfjhnmaaPart09
import Derived.Test.YtienpejlfjhnmaaPart10
import Derived.Lib.QuietBelow
import Derived.Maps.OwnSet
import Derived.StringKeys
namespace Go.Proofs.Ytienpejlfjhnmaa.Rp
open Go.RowKit
open Lx (Wd tx cellsW wpList_append_run)
open Vl (Tm Fr)
open Sy

theorem Pd.shape2 {w : World} {r : Nat} {ao : Option Addr} {cap : Nat} {L : List Wd} {a e : Nat} (h : Pd w r (.slice ao L.length cap) L a e) : 0 < L.length → ∃ g, ao = some ⟨g, 0, none⟩ ∧ ∀ i (hi : i < L.length), w.cell? ⟨g, i * 3, none⟩ = some (.int .i64 (L[i].1 : Int)) ∧ w.cell? ⟨g, i * 3 + 1, none⟩ = some (.string (tx L[i].2.1)) ∧ w.cell? ⟨g, i * 3 + 2, none⟩ = some (.int .i64 (L[i].2.2 : Int)) := by
  obtain ⟨ao', cap', he, hc⟩ := h.shape
  cases he
  exact hc
/-- Is it an atom that begins here? -/
def isAt (L : List Wd) (a : Nat) : Bool := decide ((nextW (L.drop a)).1 = 1) && decide (kindOf (nextW (L.drop (a + 1))).2.1 = 0)
theorem kind4 {x : Wd} (h : OkW x) (hk : ¬ kindOf x.2.1 = 0) : x.1 = 4 := by
  rw [h.kind]
  unfold kindOf at hk
  by_cases h0 : x.2.1 = [61]
  · rw [h0]; rfl
  by_cases h1 : x.2.1 = [33, 61]
  · rw [h1]; rfl
  by_cases h2 : x.2.1 = [60]
  · rw [h2]; rfl
  by_cases h3 : x.2.1 = [60, 61]
  · rw [h3]; rfl
  · rw [if_neg h0, if_neg h1, if_neg h2, if_neg h3] at hk
    exact absurd rfl hk
theorem litL_rest (L : List Wd) (a : Nat) (hL : ∀ x ∈ L, OkW x) (hs : signB [33] (L.drop a) = false) : litL (L.drop a) = if isAt L a = true then atomL termW (L.drop a) else cmpL (L.drop a) := by
  rw [sign_take hL a [33] (by decide) rfl] at hs
  rw [litL, if_neg (by rw [hs]; decide), drop_tail]
  unfold isAt
  by_cases h1 : (nextW (L.drop a)).1 = 1 <;> by_cases h2 : kindOf (nextW (L.drop (a + 1))).2.1 = 0 <;> simp [h1, h2]
theorem cmpL_at (L : List Wd) (a : Nat) : cmpL (L.drop a) = (match oneL termW (L.drop a) with
  | .error e => .error e
  | .ok (s, _) => if kindOf (nextW (L.drop (a + 1))).2.1 = 0 then .error false else (match oneL termW (L.drop (a + 2)) with
    | .error e => .error e
    | .ok (b, _) => .ok (((kindOf (nextW (L.drop (a + 1))).2.1 : Nat), ⟨#[]⟩, [s, b]), L.drop (a + 3)))) := by
  unfold cmpL termL
  cases h : oneL termW (L.drop a) with
  | error e => rfl
  | ok p =>
    obtain ⟨s, t⟩ := p
    have ht := one_rest h
    subst ht
    simp only []
    by_cases hk : kindOf (nextW (L.drop (a + 1))).2.1 = 0
    · rw [if_pos hk, if_pos hk]
    · rw [if_neg hk, if_neg hk, drop_tail]
      cases h2 : oneL termW (L.drop (a + 1 + 1)) with
      | error e => rfl
      | ok q =>
        obtain ⟨b, t⟩ := q
        have ht := one_rest h2
        subst ht
        rfl
theorem one_err {ws : List Wd} {c : Bool} (h : oneL termW ws = .error c) : c = false := by
  unfold oneL at h
  split at h
  · cases h; rfl
  · cases h

set_option maxRecDepth 10000 in
set_option maxHeartbeats 8000000 in
theorem literal_rest {w : World} {r : Nat} {v : Value} {L : List Wd} {a : Nat} (h : Pd w r v L a 0) (hL : ∀ x ∈ L, OkW x) (ha : a ≤ L.length) (hs : signB [33] (L.drop a) = false) :
    Calls Try.prog 27 #[.pointer (some ⟨r, 0, none⟩)] w fun x w' => Lr (litL (L.drop a)) r v L a w x w' := by
  have hrlt := h.lt
  have hlen := h.len
  have H := hide h
  have HA := hide (litL_rest L a hL hs)
  have HL := hide hL
  have P1 := hide (Pw.refl h |>.alloc (.cells #[.int .i64 0, .string ⟨#[]⟩, .slice none 0 0] 29))
  have B1 := hide (Bx.new w #[.int .i64 0, .string ⟨#[]⟩, .slice none 0 0] 29)
  have HS := hide (sign_any P1.out.pd [33])
  clear h hL
  go_enter Try.func27, Try.ntmps27
  go_wp2_with fail
  refine Calls.mono HS.out ?_
  rintro z1 w1 ⟨rfl, n1, hw1⟩
  rw [hs]
  have P2 : Hid (Pw w r v L a 0 w1) := by rw [hw1]; exact P1.out.below (Sy.below_drewN _ n1)
  have B2 : Hid (Bx w1 w.heap.size 29 #[.int .i64 0, .string ⟨#[]⟩, .slice none 0 0]) := by rw [hw1]; exact B1.out.below (Sy.below_drewN _ n1)
  clear hw1 HS P1 B1
  obtain ⟨⟨c0, c1, c2⟩, f0, f1, f2⟩ := P2.out.pd.box.three
  obtain ⟨ao, cap, rfl, hc⟩ := P2.out.pd.shape
  have HC := hide hc
  clear hc
  obtain ⟨b, hb⟩ : ∃ b : Nat, b = a + 1 := ⟨_, rfl⟩
  have hbI : (a : Int) + 1 = (b : Int) := by omega
  have HB := hide hb
  clear hb
  have HQ : Hid (isAt L a = (decide ((nextW (L.drop a)).1 = 1) && decide (kindOf (nextW (L.drop b)).2.1 = 0))) := by show _ = _; rw [HB.out]; rfl
  go_wp2_with fail
  go_cut [88] from 20 to 88 (fun s wc => s = .bool (isAt L a) ∧ ∃ n, wc = w1.drewN n)
  case first =>
    by_cases hl : a < L.length
    · obtain ⟨g, rfl, hc2⟩ := HC.out (by omega)
      obtain ⟨k0, k1, k2⟩ := hc2 a hl
      have hnx := drop_next L a hl
      rw [hnx] at HQ
      have HX := hide (HL.out _ (List.getElem_mem hl))
      have hlI : (a : Int) < (L.length : Int) := by omega
      generalize L[a] = x at *
      by_cases h1 : x.1 = 1
      · have g1 : ((x.1 : Int) == 1) = true := by simp; omega
        by_cases hl2 : b < L.length
        · obtain ⟨m0, m1, m2⟩ := hc2 b hl2
          rw [drop_next L b hl2] at HQ
          have HY := hide (HL.out _ (List.getElem_mem hl2))
          have hlI2 : (b : Int) < (L.length : Int) := by omega
          clear hc2 hnx HC
          generalize L[b] = y at *
          by_cases h4 : y.1 = 4
          · have g4 : ((y.1 : Int) == 4) = true := by simp; omega
            have HQ2 : Hid (isAt L a = !decide (0 < ((kindOf y.2.1 : Nat) : Int))) := by
              show _ = _
              rw [HQ.out]
              by_cases hk : kindOf y.2.1 = 0
              · simp [h1, hk]
              · have hk2 : 0 < kindOf y.2.1 := by omega
                simp [h1, hk, hk2]
            have HK := hide (compare_any y.2.1)
            clear HQ h1 h4
            generalize kindOf y.2.1 = K at *
            refine wp_region_quiet_lit (by kernel_rfl) (by kernel_rfl) ?_
            simp only [List.append]
            repeat (go_big_quiet_step (first | (go_at_call 36; exact Calls.quiet_of_same (HK.out _))))
            refine wpQuiet_nil ?_
            intro _ hw'
            obtain ⟨nq, hw''⟩ := hw'
            subst hw''
            go_wp2_with fail
            go_meet
            exact ⟨by rw [HQ2.out]; simp [Int.natCast_pos], _, rfl⟩
          · have g4 : ((y.1 : Int) == 4) = false := by simp; omega
            have HQ2 : Hid (isAt L a = true) := by
              show _ = _
              rw [HQ.out]
              have hk : kindOf y.2.1 = 0 := by
                by_cases hk : kindOf y.2.1 = 0
                · exact hk
                · exact absurd (kind4 HY.out hk) h4
              simp [h1, hk]
            clear HQ h1 h4
            refine wp_region_quiet_lit (by kernel_rfl) (by kernel_rfl) ?_
            simp only [List.append]
            repeat (go_big_quiet_step (fail))
            refine wpQuiet_nil ?_
            intro _ hw'
            obtain ⟨nq, hw''⟩ := hw'
            subst hw''
            go_wp2_with fail
            go_meet
            exact ⟨by rw [HQ2.out], _, rfl⟩
        · have hlI2 : decide ((b : Int) < (L.length : Int)) = false := by simp; omega
          have HQ2 : Hid (isAt L a = true) := by
            show _ = _
            rw [HQ.out, drop_end L b (by omega)]
            simp [h1, nextW, kindOf]
          clear HQ h1 hc2 HC hnx
          refine wp_region_quiet_lit (by kernel_rfl) (by kernel_rfl) ?_
          simp only [List.append]
          repeat (go_big_quiet_step (fail))
          refine wpQuiet_nil ?_
          intro _ hw'
          obtain ⟨nq, hw''⟩ := hw'
          subst hw''
          go_wp2_with fail
          go_meet
          exact ⟨by rw [HQ2.out], _, rfl⟩
      · have g1 : ((x.1 : Int) == 1) = false := by simp; omega
        have HQ2 : Hid (isAt L a = false) := by
          show _ = _
          rw [HQ.out]
          simp [h1]
        clear HQ h1 hc2 HC hnx
        refine wp_region_quiet_lit (by kernel_rfl) (by kernel_rfl) ?_
        simp only [List.append]
        repeat (go_big_quiet_step (fail))
        refine wpQuiet_nil ?_
        intro _ hw'
        obtain ⟨nq, hw''⟩ := hw'
        subst hw''
        go_wp2_with fail
        go_meet
        exact ⟨by rw [HQ2.out], _, rfl⟩
    · have hlI : decide ((a : Int) < (L.length : Int)) = false := by simp; omega
      have HQ2 : Hid (isAt L a = false) := by
        show _ = _
        rw [HQ.out, drop_end L a (by omega)]
        simp [nextW]
      clear HQ HC
      refine wp_region_quiet_lit (by kernel_rfl) (by kernel_rfl) ?_
      simp only [List.append]
      repeat (go_big_quiet_step (fail))
      refine wpQuiet_nil ?_
      intro _ hw'
      obtain ⟨nq, hw''⟩ := hw'
      subst hw''
      go_wp2_with fail
      go_meet
      exact ⟨by rw [HQ2.out], _, rfl⟩
  case rest =>
    obtain ⟨rfl, n2, hw2⟩ := hcut
    have P3 : Hid (Pw w r (.slice ao L.length cap) L a 0 wc) := by rw [hw2]; exact P2.out.below (Sy.below_drewN _ n2)
    have B3 : Hid (Bx wc w.heap.size 29 #[.int .i64 0, .string ⟨#[]⟩, .slice none 0 0]) := by rw [hw2]; exact B2.out.below (Sy.below_drewN _ n2)
    clear hw2 P2 B2 c0 c1 c2 f0 f1 f2 HQ
    cases hat : isAt L a
    · rw [if_neg (by rw [hat]; decide)] at HA
      have HT := hide (rterm_any P3.out.pd HL.out)
      obtain ⟨R, hR⟩ : ∃ R, Hid (oneL termW (L.drop a) = R) := ⟨_, rfl⟩
      have HE := hide (cmpL_at L a)
      rw [hR.out] at HT HE
      clear hat
      go_wp2_with fail
      refine Calls.mono HT.out ?_
      rintro z4 w4 ⟨hz, hf4⟩
      have B4 := hide (B3.out.fr hf4 (by omega))
      cases R with
      | error c =>
        have hcf := one_err hR.out
        subst hcf
        obtain ⟨t, a4, rfl, hp4, ha4⟩ := hz
        have P4 := hide (P3.out.then hp4 hf4)
        have P5 := hide (P4.out.alloc (.cells #[.int .i64 t.1, .string t.2.1, .int .i64 t.2.2] 46))
        have B5 := hide (B4.out.below (Lx.below_box w4 (.cells #[.int .i64 t.1, .string t.2.1, .int .i64 t.2.2] 46)))
        obtain ⟨⟨c0, c1, c2⟩, f0, f1, f2⟩ := P5.out.pd.box.three
        simp only [Vl.tv]
        clear HT hp4 hf4 P3 B3 P4 B4 HC
        have hsz5 : w4.heap.size < (w4.alloc (.cells #[.int .i64 t.1, .string t.2.1, .int .i64 t.2.2] 46)).heap.size := by simp
        go_wp2_with fail
        generalize w4.alloc (.cells #[.int .i64 t.1, .string t.2.1, .int .i64 t.2.2] 46) = W5 at *
        have gE : decide ((4 : Int) = 0) = false := rfl
        go_big_quiet (fail)
        have HBd := hide (bad_any (P5.out.below (Sy.below_drewN W5 nq)).pd 4)
        have P6 := hide (P5.out.below (Sy.below_drewN W5 nq))
        have B6 := hide (B5.out.below (Sy.below_drewN W5 nq))
        clear P5 B5 c0 c1 c2 f0 f1 f2
        generalize W5.drewN nq = W6 at *
        go_wp2_with fail
        refine Calls.mono HBd.out ?_
        rintro z7 w7 ⟨rfl, hp7, hf7⟩
        have P7 := hide (P6.out.then hp7 hf7)
        have B7 := hide (B6.out.fr hf7 (by omega))
        obtain ⟨⟨d0, d1, d2⟩, g0, g1, g2⟩ := B7.out.three
        clear HBd hp7 hf7 P6 B6
        go_wp2_with fail
        refine bodyPost_ret (results_cell_row rfl _ _ w.heap.size 29 _ (0, 0) _ rfl (((B7.out.set 0 _).set 1 _).set 2 _) Try.underlying29 rfl sz33) rfl ?_
        have q1 := P7.out.put3 H.out w.heap.size (Nat.le_refl _) (.int .i64 0) (.string ⟨#[]⟩) (.slice none 0 0)
        rw [HA.out, HE.out]
        exact ⟨⟨_, a4, rfl, ⟨_, _, _, _, _, rfl⟩, q1.pd, by omega⟩, q1.fr⟩
      | ok p =>
        obtain ⟨t, rest⟩ := p
        obtain ⟨rfl, hp4, hlt4⟩ := hz
        have P4 := hide (P3.out.then hp4 hf4)
        have P5 := hide (P4.out.alloc (.cells #[.int .i64 t.1, .string t.2.1, .int .i64 t.2.2] 46))
        have B5 := hide (B4.out.below (Lx.below_box w4 (.cells #[.int .i64 t.1, .string t.2.1, .int .i64 t.2.2] 46)))
        have T5 := hide (Bx.new w4 #[.int .i64 t.1, .string t.2.1, .int .i64 t.2.2] 46)
        obtain ⟨⟨c0, c1, c2⟩, f0, f1, f2⟩ := P5.out.pd.box.three
        have hbb := HB.out
        rw [← hbb] at c1
        simp only [Vl.tv]
        have HC5 := hide P5.out.pd.shape2
        have hsz4 := P4.out.fr.size
        simp only [] at HE
        rw [← hbb] at HE
        clear hbb
        clear HT hp4 hf4 P3 B3 P4 B4 HC
        have hsz5 : w4.heap.size < (w4.alloc (.cells #[.int .i64 t.1, .string t.2.1, .int .i64 t.2.2] 46)).heap.size := by simp
        go_wp2_with fail
        generalize w4.alloc (.cells #[.int .i64 t.1, .string t.2.1, .int .i64 t.2.2] 46) = W5 at *
        obtain ⟨bq, hbq⟩ : ∃ bq, Hid (bq = decide (kindOf (nextW (L.drop b)).2.1 = 0)) := ⟨_, rfl⟩
        go_cut [138] from 93 to 138 (fun s wd => s = .bool bq ∧ ∃ n, wd = W5.drewN n)
        case first =>
          by_cases hl2 : b < L.length
          · obtain ⟨g, rfl, hc2⟩ := HC5.out (by omega)
            obtain ⟨m0, m1, m2⟩ := hc2 b hl2
            rw [drop_next L b hl2] at hbq
            have HY := hide (HL.out _ (List.getElem_mem hl2))
            have hlI2 : decide (L.length ≤ b) = false := by simp; omega
            have hlI3 : (b : Int) < (L.length : Int) := by omega
            clear hc2 HC5
            generalize L[b] = y at *
            by_cases h4 : y.1 = 4
            · have g4 : ((y.1 : Int) != 4) = false := by simp; omega
              have HQ2 : Hid (bq = (((kindOf y.2.1 : Nat) : Int) == 0)) := by
                show _ = _
                rw [hbq.out, Bool.eq_iff_iff]
                simp
              have HK := hide (compare_any y.2.1)
              clear h4 hbq
              generalize kindOf y.2.1 = K at *
              go_big_quiet (first | (go_at_call 36; exact Calls.quiet_of_same (HK.out _)))
              go_wp2_with fail
              go_meet
              exact ⟨by rw [HQ2.out], _, rfl⟩
            · have g4 : ((y.1 : Int) != 4) = true := by simp; omega
              have HQ2 : Hid (bq = true) := by
                show _ = _
                rw [hbq.out]
                by_cases hk : kindOf y.2.1 = 0
                · simp [hk]
                · exact absurd (kind4 HY.out hk) h4
              clear h4 hbq
              go_big_quiet (fail)
              go_wp2_with fail
              go_meet
              exact ⟨by rw [HQ2.out], _, rfl⟩
          · have hlI2 : decide (L.length ≤ b) = true := by simp; omega
            have HQ2 : Hid (bq = true) := by
              show _ = _
              rw [hbq.out, drop_end L b (by omega)]
              rfl
            clear HC5 hbq
            go_big_quiet (fail)
            go_wp2_with fail
            go_meet
            exact ⟨by rw [HQ2.out], _, rfl⟩
        case rest =>
          obtain ⟨rfl, n6, hw6⟩ := hcut
          have P6 : Hid (Pw w r (.slice ao L.length cap) L (a + 1) 0 wc) := by rw [hw6]; exact P5.out.below (Sy.below_drewN _ n6)
          have B6 : Hid (Bx wc w.heap.size 29 #[.int .i64 0, .string ⟨#[]⟩, .slice none 0 0]) := by rw [hw6]; exact B5.out.below (Sy.below_drewN _ n6)
          have T6 : Hid (Bx wc w4.heap.size 46 #[.int .i64 t.1, .string t.2.1, .int .i64 t.2.2]) := by rw [hw6]; exact T5.out.below (Sy.below_drewN _ n6)
          have HC6 := hide P6.out.pd.shape2
          rw [← HB.out] at P6
          clear hw6 P5 B5 T5 HC5 c0 c1 c2 f0 f1 f2
          by_cases hk : kindOf (nextW (L.drop b)).2.1 = 0
          · rw [show bq = true by rw [hbq.out]; exact decide_eq_true hk]
            rw [if_pos hk] at HE
            have HBd := hide (bad_any P6.out.pd 4)
            clear hk
            go_wp2_with fail
            refine Calls.mono HBd.out ?_
            rintro z7 w7 ⟨rfl, hp7, hf7⟩
            have P7 := hide (P6.out.then hp7 hf7)
            have B7 := hide (B6.out.fr hf7 (by omega))
            obtain ⟨⟨d0, d1, d2⟩, g0, g1, g2⟩ := B7.out.three
            clear HBd hp7 hf7 P6 B6
            go_wp2_with fail
            refine bodyPost_ret (results_cell_row rfl _ _ w.heap.size 29 _ (0, 0) _ rfl (((B7.out.set 0 _).set 1 _).set 2 _) Try.underlying29 rfl sz33) rfl ?_
            have q1 := P7.out.put3 H.out w.heap.size (Nat.le_refl _) (.int .i64 0) (.string ⟨#[]⟩) (.slice none 0 0)
            rw [HA.out, HE.out]
            exact ⟨⟨_, b, rfl, ⟨_, _, _, _, _, rfl⟩, q1.pd, by omega⟩, q1.fr⟩
          · rw [show bq = false by rw [hbq.out]; exact decide_eq_false hk]
            rw [if_neg hk] at HE
            have hl2 : b < L.length := by
              by_cases hl : b < L.length
              · exact hl
              · exact absurd (by rw [drop_end L b (by omega)]; rfl) hk
            obtain ⟨g, rfl, hc2⟩ := HC6.out (by omega)
            obtain ⟨m0, m1, m2⟩ := hc2 b hl2
            rw [drop_next L b hl2] at HE
            have hlI3 : (b : Int) < (L.length : Int) := by omega
            have HK := hide (compare_any L[b].2.1)
            have hst := P6.out.pd.stepI (by omega)
            clear hc2 HC6 hk
            generalize L[b] = y at *
            obtain ⟨K, hK⟩ : ∃ K, Hid (kindOf y.2.1 = K) := ⟨_, rfl⟩
            rw [hK.out] at HE HK
            obtain ⟨⟨c0, c1, c2⟩, f0, f1, f2⟩ := P6.out.pd.box.three
            clear hst
            go_wp2_with fail
            go_big_quiet (first | (go_at_call 36; exact Calls.quiet_of_same (HK.out _)))
            have P7 := hide (P6.out.below (Sy.below_drewN wc nq))
            have B7 := hide (B6.out.below (Sy.below_drewN wc nq))
            have T7 := hide (T6.out.below (Sy.below_drewN wc nq))
            clear P6 B6 T6 c0 c1 c2 f0 f1 f2 m0 m1 m2
            generalize wc.drewN nq = W7 at *
            obtain ⟨⟨c0, c1, c2⟩, f0, f1, f2⟩ := P7.out.pd.box.three
            have hst := P7.out.pd.stepI (by omega)
            have P8 := hide (P7.out.then hst.1 hst.2)
            have B8 := hide (B7.out.fr hst.2 (by omega))
            have T8 := hide (T7.out.fr hst.2 (by omega))
            have HT := hide (rterm_any P8.out.pd HL.out)
            have e2 : b + 1 = a + 2 := by omega
            obtain ⟨R2, hR2⟩ : ∃ R2, Hid (oneL termW (L.drop (a + 2)) = R2) := ⟨_, rfl⟩
            rw [e2, hR2.out] at HT
            rw [hR2.out] at HE
            clear hst P7 B7 T7 e2
            go_wp2_with fail
            refine Calls.mono HT.out ?_
            rintro z9 w9 ⟨hz, hf9⟩
            have B9 := hide (B8.out.fr hf9 (by omega))
            have T9 := hide (T8.out.fr hf9 (by omega))
            clear c0 c1 c2 f0 f1 f2
            cases R2 with
            | error c =>
              have hcf := one_err hR2.out
              subst hcf
              obtain ⟨t2, a9, rfl, hp9, ha9⟩ := hz
              have P9 := hide (P8.out.then hp9 hf9)
              have B10 := hide fun o p => (B9.out.below (Lx.below_box w9 o)).below (Lx.below_box _ p)
              have P10 := hide fun o p => (P9.out.alloc o).alloc p
              have s0 := fun o => (T9.out.below (Lx.below_box w9 o)).three.1.1
              have s1 := fun o => (T9.out.below (Lx.below_box w9 o)).three.1.2.1
              have s2 := fun o => (T9.out.below (Lx.below_box w9 o)).three.1.2.2
              have c0 := fun o p => (B10.out o p).three.1.1
              have c1 := fun o p => (B10.out o p).three.1.2.1
              have c2 := fun o p => (B10.out o p).three.1.2.2
              have f0 := fun o p => (B10.out o p).three.2.1
              have f1 := fun o p => (B10.out o p).three.2.2.1
              have f2 := fun o p => (B10.out o p).three.2.2.2
              simp only [Vl.tv]
              clear HT hp9 hf9 B8 T8 P8
              go_wp2_with fail
              refine bodyPost_ret (results_cell_row rfl _ _ w.heap.size 29 _ (0, 0) _ rfl ((((B10.out _ _).set 0 _).set 1 _).set 2 _) Try.underlying29 rfl sz33) rfl ?_
              have q1 := (P10.out (.cells #[.int .i64 t2.1, .string t2.2.1, .int .i64 t2.2.2] 46) (.cells #[.int .i64 t.1, .string t.2.1, .int .i64 t.2.2, .int .i64 t2.1, .string t2.2.1, .int .i64 t2.2.2] 46)).put3 H.out w.heap.size (Nat.le_refl _) (.int .i64 (K : Int)) (.string ⟨#[]⟩) (.slice (some ⟨w9.heap.size + 1, 0, none⟩) 2 2)
              rw [HA.out, HE.out]
              exact ⟨⟨_, a9, rfl, ⟨_, _, _, _, _, rfl⟩, q1.pd, by omega⟩, q1.fr⟩
            | ok p =>
              obtain ⟨t2, rest2⟩ := p
              obtain ⟨rfl, hp9, hlt9⟩ := hz
              have P9 := hide (P8.out.then hp9 hf9)
              have B10 := hide fun o p => (B9.out.below (Lx.below_box w9 o)).below (Lx.below_box _ p)
              have P10 := hide fun o p => (P9.out.alloc o).alloc p
              have s0 := fun o => (T9.out.below (Lx.below_box w9 o)).three.1.1
              have s1 := fun o => (T9.out.below (Lx.below_box w9 o)).three.1.2.1
              have s2 := fun o => (T9.out.below (Lx.below_box w9 o)).three.1.2.2
              have c0 := fun o p => (B10.out o p).three.1.1
              have c1 := fun o p => (B10.out o p).three.1.2.1
              have c2 := fun o p => (B10.out o p).three.1.2.2
              have f0 := fun o p => (B10.out o p).three.2.1
              have f1 := fun o p => (B10.out o p).three.2.2.1
              have f2 := fun o p => (B10.out o p).three.2.2.2
              simp only [Vl.tv]
              clear HT hp9 hf9 B8 T8 P8
              go_wp2_with fail
              refine bodyPost_ret (results_cell_row rfl _ _ w.heap.size 29 _ (0, 0) _ rfl ((((B10.out _ _).set 0 _).set 1 _).set 2 _) Try.underlying29 rfl sz33) rfl ?_
              have q1 := (P10.out (.cells #[.int .i64 t2.1, .string t2.2.1, .int .i64 t2.2.2] 46) (.cells #[.int .i64 t.1, .string t.2.1, .int .i64 t.2.2, .int .i64 t2.1, .string t2.2.1, .int .i64 t2.2.2] 46)).put3 H.out w.heap.size (Nat.le_refl _) (.int .i64 (K : Int)) (.string ⟨#[]⟩) (.slice (some ⟨w9.heap.size + 1, 0, none⟩) 2 2)
              have q2 := isTs_put3 (two_terms (w9.alloc (.cells #[.int .i64 t2.1, .string t2.2.1, .int .i64 t2.2.2] 46)) t t2) (B10.out _ _) (by decide) (.int .i64 (K : Int)) (.string ⟨#[]⟩) (.slice (some ⟨w9.heap.size + 1, 0, none⟩) 2 2)
              rw [show (w9.alloc (.cells #[.int .i64 t2.1, .string t2.2.1, .int .i64 t2.2.2] 46)).heap.size = w9.heap.size + 1 by simp] at q2
              rw [HA.out, HE.out]
              exact ⟨⟨_, a + 2 + 1, rfl, ⟨_, rfl, q2⟩, q1.pd, rfl, by omega, by omega⟩, q1.fr⟩
    · rw [if_pos hat] at HA
      have HT := hide (atom_any P3.out.pd HL.out ha)
      obtain ⟨R, hR⟩ : ∃ R, Hid (atomL termW (L.drop a) = R) := ⟨_, rfl⟩
      rw [hR.out] at HT HA
      clear hat HC
      go_wp2_with fail
      refine Calls.mono HT.out ?_
      rintro z4 w4 ⟨hz, hf4⟩
      have B4 := hide (B3.out.fr hf4 (by omega))
      obtain ⟨⟨d0, d1, d2⟩, g0, g1, g2⟩ := B4.out.three
      cases R with
      | error c =>
        obtain ⟨y, a4, rfl, ⟨k, s, ao4, n4, cap4, rfl⟩, hp4, ha4⟩ := hz
        have P4 := hide (P3.out.then hp4 hf4)
        clear HT hp4 hf4 P3 B3
        go_wp2_with fail
        refine bodyPost_ret (results_cell_row rfl _ _ w.heap.size 29 _ (0, 0) _ rfl (((B4.out.set 0 _).set 1 _).set 2 _) Try.underlying29 rfl sz33) rfl ?_
        have q1 := P4.out.put3 H.out w.heap.size (Nat.le_refl _) (.int .i64 k) (.string s) (.slice ao4 n4 cap4)
        rw [HA.out]
        exact ⟨⟨_, a4, rfl, ⟨_, _, _, _, _, rfl⟩, q1.pd, ha4⟩, q1.fr⟩
      | ok p =>
        obtain ⟨⟨lk, ln, lt⟩, rest⟩ := p
        obtain ⟨y, a4, rfl, ⟨va, rfl, hts⟩, hp4, hd4, ha4, hb4⟩ := hz
        have P4 := hide (P3.out.then hp4 hf4)
        have HTS := hide hts
        clear HT hp4 hf4 P3 B3
        obtain ⟨_, ao4, cap4, rfl⟩ := own_len hts
        clear hts
        have HD := hide hd4
        clear hd4
        go_wp2_with fail
        refine bodyPost_ret (results_cell_row rfl _ _ w.heap.size 29 _ (0, 0) _ rfl (((B4.out.set 0 _).set 1 _).set 2 _) Try.underlying29 rfl sz33) rfl ?_
        have q1 := P4.out.put3 H.out w.heap.size (Nat.le_refl _) (.int .i64 lk) (.string ln) (.slice ao4 lt.length cap4)
        have q2 := own_put (own_put (own_put HTS.out B4.out (by decide) 0 (.int .i64 lk)) (B4.out.set 0 _) (by decide) 1 (.string ln)) ((B4.out.set 0 _).set 1 _) (by decide) 2 (.slice ao4 lt.length cap4)
        rw [HA.out]
        exact ⟨⟨_, a4, rfl, ⟨_, rfl, q2⟩, q1.pd, HD.out, ha4, hb4⟩, q1.fr⟩

theorem literal_any {w : World} {r : Nat} {v : Value} {L : List Wd} {a : Nat} (h : Pd w r v L a 0) (hL : ∀ x ∈ L, OkW x) (ha : a ≤ L.length) :
    Calls Try.prog 27 #[.pointer (some ⟨r, 0, none⟩)] w fun x w' => Lr (litL (L.drop a)) r v L a w x w' := by
  cases hs : signB [33] (L.drop a) with
  | true => exact literal_not h hL hs
  | false => exact literal_rest h hL ha hs
end Go.Proofs.Ytienpejlfjhnmaa.Rp
namespace Go.Proofs.Ytienpejlfjhnmaa.Rp
open Go.RowKit
open Lx (Wd tx cellsW wpList_append_run)
open Vl (Tm Fr)
open Sy

theorem eqT_self (k x : Int) (s : ByteArray) : Vl.eqT k s x k s x = true := by simp [Vl.eqT]

theorem Bx.four' {w : World} {b : Nat} {T : TypeId} {x y z u : Value} (h : Bx w b T #[x, y, z, u]) : w.cell? ⟨b, 0, none⟩ = some x ∧ w.cell? ⟨b, 1, none⟩ = some y ∧ w.cell? ⟨b, 2, none⟩ = some z ∧ w.cell? ⟨b, 3, none⟩ = some u := h.four.1

/-- A row of rules, cell by cell. -/
theorem isRs_cells {w : World} {ls : List Rul} {ao : Option Addr} {n cap : Nat} (h : isRs w ls (.slice ao n cap)) : n = ls.length ∧ (0 < ls.length → ∃ g, ao = some ⟨g, 0, none⟩ ∧ ∀ i (hi : i < ls.length), ∃ va vb, isTs w ls[i].1.2.2 va ∧ isLs w ls[i].2 vb ∧ w.cell? ⟨g, i * 4, none⟩ = some (.int .i64 ls[i].1.1) ∧ w.cell? ⟨g, i * 4 + 1, none⟩ = some (.string ls[i].1.2.1) ∧ w.cell? ⟨g, i * 4 + 2, none⟩ = some va ∧ w.cell? ⟨g, i * 4 + 3, none⟩ = some vb) := by
  obtain ⟨zs, rfl, h2, h3⟩ := h
  have hlm : (zs.map (·.1)).length = zs.length := List.length_map _
  refine ⟨by rw [hlm]; exact (own_len h2).1, fun hp => ?_⟩
  rcases Lx.own_shape h2 with ⟨e, h0⟩ | ⟨g, cap', e, _⟩
  · omega
  · simp only [Value.slice.injEq] at e
    obtain ⟨rfl, rfl, rfl⟩ := e
    refine ⟨g, rfl, fun i hi0 => ?_⟩
    have hi : i < zs.length := by omega
    refine ⟨zs[i].2.1, zs[i].2.2, ?_⟩
    have e : zs = zs.take i ++ zs[i] :: zs.drop (i + 1) := by simp
    have hl : (cellsRz (zs.take i)).length = i * 4 := by
      have : ∀ q : List (Rul × Value × Value), (cellsRz q).length = q.length * 4 := fun q => by
        induction q with
        | nil => rfl
        | cons z q ih => simp [cellsRz] at ih ⊢; omega
      rw [this]; simp; omega
    have e2 : cellsRz zs = cellsRz (zs.take i) ++ (.int .i64 zs[i].1.1.1 :: .string zs[i].1.1.2.1 :: zs[i].2.1 :: zs[i].2.2 :: cellsRz (zs.drop (i + 1))) := by
      conv => lhs; rw [e]
      unfold cellsRz
      rw [List.flatMap_append, List.flatMap_cons]
      rfl
    have hc : ∀ j, j < 4 → w.cell? ⟨g, i * 4 + j, none⟩ = [.int .i64 zs[i].1.1.1, .string zs[i].1.1.2.1, zs[i].2.1, zs[i].2.2][j]? := fun j hj => by
      rw [h2.cellAt _ (by omega), e2, List.getElem?_append_right (by omega), hl, Nat.add_sub_cancel_left]
      match j, hj with
      | 0, _ => rfl
      | 1, _ => rfl
      | 2, _ => rfl
      | 3, _ => rfl
    have hz := h3 zs[i] (List.getElem_mem _)
    simp only [List.getElem_map]
    exact ⟨hz.1, hz.2, hc 0 (by decide), hc 1 (by decide), hc 2 (by decide), hc 3 (by decide)⟩
theorem isRs_shape {w : World} {ls : List Rul} {y : Value} (h : isRs w ls y) : ∃ ao cap, y = .slice ao ls.length cap := by
  obtain ⟨zs, rfl, h2, _⟩ := h
  rw [List.length_map]
  exact (own_len h2).2

end Go.Proofs.Ytienpejlfjhnmaa.Rp
namespace Go.Proofs.Ytienpejlfjhnmaa.Ck
open Go.RowKit Go.Shelf
open Vl (Tm Ts Fr)
open Sy

theorem hasPred_any (k : Int) (w : World) : Calls Try.prog 32 #[.int .i64 k] w fun e w' => e = .returned (.bool (decide (k = 1) || decide (k = 2))) ∧ w' = w := by
  by_cases h1 : k = 1
  · subst h1
    go_enter Try.func32, Try.ntmps32
    go_wp2
    go_ret
    exact ⟨rfl, rfl⟩
  by_cases h2 : k = 2
  · subst h2
    go_enter Try.func32, Try.ntmps32
    go_wp2
    go_ret
    exact ⟨rfl, rfl⟩
  · have g1 : (k == 1) = false := by simpa using h1
    have g2 : (k == 2) = false := by simpa using h2
    have e : (decide (k = 1) || decide (k = 2)) = false := by simp [h1, h2]
    rw [e]
    go_enter Try.func32, Try.ntmps32
    go_wp2
    go_ret
    exact ⟨rfl, rfl⟩

abbrev Raw := ByteArray × Nat
def okP (x : Raw) : Prop := x.1.size ≤ 281474976710656 ∧ x.2 ≤ maxLen
/-- A predicate's name that may be a key, with a width that may be. -/
abbrev Pr := { x : Raw // okP x }
instance (x : Raw) : Decidable (okP x) := inferInstanceAs (Decidable (_ ∧ _))
def mkP (x : Raw) : Option Pr := if h : okP x then some ⟨x, h⟩ else none
def castP (l : List Raw) : List Pr := l.filterMap mkP
theorem castP_snoc (l : List Raw) (x : Pr) : castP (l ++ [x.1]) = castP l ++ [x] := by
  have h : mkP x.1 = some x := by simp [mkP, x.2]
  simp [castP, h]
theorem castP_pre {a b : List Raw} (h : a <+: b) : castP a <+: castP b := by
  obtain ⟨c, rfl⟩ := h
  exact ⟨castP c, by simp [castP]⟩
theorem castP_lt {a b : List Raw} {x : Pr} (h : a ++ [x.1] <+: b) : (castP a).length < (castP b).length := by
  have := (castP_pre h).length_le
  rw [castP_snoc, List.length_append] at this
  simp at this
  omega

def rawL (l : Sy.Lit) : List Raw := if l.1 = 1 ∨ l.1 = 2 then [(l.2.1, l.2.2.length)] else []
def rawB (ls : List Sy.Lit) : List Raw := ls.flatMap rawL
def rawR (q : Rul) : List Raw := (q.1.2.1, q.1.2.2.length) :: rawB q.2
def rawRs (rs : List Rul) : List Raw := rs.flatMap rawR
theorem rawB_take {ls : List Sy.Lit} {k : Nat} (h : k < ls.length) : rawB (ls.take (k + 1)) = rawB (ls.take k) ++ rawL ls[k] := by
  unfold rawB
  rw [List.take_succ_eq_append_getElem h, List.flatMap_append]
  simp
theorem rawB_pre (ls : List Sy.Lit) (k : Nat) : rawB (ls.take k) <+: rawB ls := by
  have h : ls = ls.take k ++ ls.drop k := (List.take_append_drop k ls).symm
  exact ⟨rawB (ls.drop k), by rw [rawB, rawB, ← List.flatMap_append, ← h]; rfl⟩
theorem rawRs_take {rs : List Rul} {k : Nat} (h : k < rs.length) : rawRs (rs.take (k + 1)) = rawRs (rs.take k) ++ rawR rs[k] := by
  unfold rawRs
  rw [List.take_succ_eq_append_getElem h, List.flatMap_append]
  simp
theorem rawRs_pre (rs : List Rul) (k : Nat) : rawRs (rs.take k) <+: rawRs rs := by
  have h : rs = rs.take k ++ rs.drop k := (List.take_append_drop k rs).symm
  exact ⟨rawRs (rs.drop k), by rw [rawRs, rawRs, ← List.flatMap_append, ← h]; rfl⟩
theorem pre_left {α : Type} (a : List α) {b c : List α} (h : b <+: c) : a ++ b <+: a ++ c := (List.prefix_append_right_inj a).2 h

/-- All cells that were there are as they were. -/
def Kc (W W' : World) : Prop := ∀ (k : Nat) (cs : Array Value) (t : TypeId) (f : Nat × Nat), W.heap[k]? = some (Obj.cells cs t f) → W'.heap[k]? = some (Obj.cells cs t f)
theorem Kc.refl (W : World) : Kc W W := fun _ _ _ _ h => h
theorem Kc.trans {A B C : World} (h : Kc A B) (k : Kc B C) : Kc A C := fun i _ _ _ hi => k i _ _ _ (h i _ _ _ hi)
theorem Kc.of_below {W W' : World} (h : Below W.heap.size W W') : Kc W W' := fun k _ _ _ hk => (h.block k (Array.getElem?_eq_some_iff.1 hk).1).trans hk
theorem Kc.alloc {A W : World} (h : Kc A W) (o : Obj) : Kc A (W.alloc o) := h.trans (Kc.of_below (Lx.below_box W o))
theorem Kc.put (W : World) (l : Nat) (o o' : Obj) (h : W.heap[l]? = some o) (ho : o.isCells = false) : Kc W (W.putObj l o') := fun k cs t f hk => by
  have : k ≠ l := by
    rintro rfl
    rw [h] at hk
    cases hk
    cases ho
  rw [World.putObj_heap_other this]
  exact hk
theorem Kc.grown {W W' : World} {row : Option Nat} (h : W.grownBy W' row) (hr : ∀ r, row = some r → ∃ o : Obj, W.heap[r]? = some o ∧ o.isCells = false) : Kc W W' := fun k cs t f hk => by
  refine (h.block k (Array.getElem?_eq_some_iff.1 hk).1 (fun e => ?_)).trans hk
  obtain ⟨o, ho, hc⟩ := hr k e.symm
  rw [ho] at hk
  cases hk
  cases hc
theorem Kc.cell {W W' : World} (h : Kc W W') {g o : Nat} {x : Value} (hc : W.cell? ⟨g, o, none⟩ = some x) : W'.cell? ⟨g, o, none⟩ = some x := by
  cases hg : W.heap[g]? with
  | none => simp [World.cell?, hg] at hc
  | some ob =>
    cases ob with
    | cells cs t f => exact (World.cell?_of_block ((h g cs t f hg).trans hg.symm)).trans hc
    | _ => simp [World.cell?, hg] at hc

/-- Facts in memory: their names, and how many terms they have. -/
def FsB (w : World) (v : Value) (L : List Raw) : Prop :=
  ∃ ao cap, v = .slice ao L.length cap ∧ L.length ≤ 1000000 ∧ (0 < L.length → ∃ g off, ao = some ⟨g, off, none⟩ ∧ ∀ i (h : i < L.length), w.cell? ⟨g, off + i * 2, none⟩ = some (.string L[i].1) ∧ ∃ aa ca, w.cell? ⟨g, off + i * 2 + 1, none⟩ = some (.slice aa L[i].2 ca))
theorem FsB.kept {w w' : World} {v : Value} {L : List Raw} (h : FsB w v L) (hb : Kc w w') : FsB w' v L := by
  obtain ⟨ao, cap, rfl, h1, h2⟩ := h
  refine ⟨ao, cap, rfl, h1, fun hp => ?_⟩
  obtain ⟨g, off, rfl, hc⟩ := h2 hp
  refine ⟨g, off, rfl, fun i hi => ⟨hb.cell (hc i hi).1, ?_⟩⟩
  obtain ⟨aa, ca, hx⟩ := (hc i hi).2
  exact ⟨aa, ca, hb.cell hx⟩
/-- Rules in memory. -/
def RsB (w : World) (v : Value) (rs : List Rul) : Prop :=
  ∃ ao cap, v = .slice ao rs.length cap ∧ rs.length ≤ 1000000 ∧ (0 < rs.length → ∃ g, ao = some ⟨g, 0, none⟩ ∧ ∀ i (h : i < rs.length), w.cell? ⟨g, i * 4, none⟩ = some (.int .i64 rs[i].1.1) ∧ w.cell? ⟨g, i * 4 + 1, none⟩ = some (.string rs[i].1.2.1) ∧ (∃ aa ca, w.cell? ⟨g, i * 4 + 2, none⟩ = some (.slice aa rs[i].1.2.2.length ca)) ∧
    (rs[i].2.length ≤ 1000000 ∧ ∃ ab cb, w.cell? ⟨g, i * 4 + 3, none⟩ = some (.slice ab rs[i].2.length cb) ∧ (0 < rs[i].2.length → ∃ gb, ab = some ⟨gb, 0, none⟩ ∧ ∀ j (hj : j < rs[i].2.length), w.cell? ⟨gb, j * 3, none⟩ = some (.int .i64 rs[i].2[j].1) ∧ w.cell? ⟨gb, j * 3 + 1, none⟩ = some (.string rs[i].2[j].2.1) ∧ ∃ ac cc, w.cell? ⟨gb, j * 3 + 2, none⟩ = some (.slice ac rs[i].2[j].2.2.length cc))))
theorem RsB.kept {w w' : World} {v : Value} {rs : List Rul} (h : RsB w v rs) (hb : Kc w w') : RsB w' v rs := by
  obtain ⟨ao, cap, rfl, h1, h2⟩ := h
  refine ⟨ao, cap, rfl, h1, fun hp => ?_⟩
  obtain ⟨g, rfl, hc⟩ := h2 hp
  refine ⟨g, rfl, fun i hi => ?_⟩
  obtain ⟨a, b, ⟨aa, ca, c⟩, hl, ab, cb, d, e⟩ := hc i hi
  refine ⟨hb.cell a, hb.cell b, ⟨aa, ca, hb.cell c⟩, hl, ab, cb, hb.cell d, fun hp => ?_⟩
  obtain ⟨gb, rfl, hj⟩ := e hp
  refine ⟨gb, rfl, fun j hjl => ?_⟩
  obtain ⟨a, b, ac, cc, c⟩ := hj j hjl
  exact ⟨hb.cell a, hb.cell b, ac, cc, hb.cell c⟩
theorem RsB.of {w : World} {v : Value} {rs : List Rul} (h : isRs w rs v) (hl : rs.length ≤ 1000000) (hb : ∀ q ∈ rs, q.2.length ≤ 1000000) : RsB w v rs := by
  obtain ⟨ao, cap, rfl⟩ := Rp.isRs_shape h
  refine ⟨ao, cap, rfl, hl, fun hp => ?_⟩
  obtain ⟨g, rfl, hc⟩ := (Rp.isRs_cells h).2 hp
  refine ⟨g, rfl, fun i hi => ?_⟩
  obtain ⟨va, vb, hva, hvb, c0, c1, c2, c3⟩ := hc i hi
  obtain ⟨_, aa, ca, rfl⟩ := own_len hva
  obtain ⟨ab, cb, rfl⟩ := isLs_shape hvb
  refine ⟨c0, c1, ⟨aa, ca, c2⟩, hb _ (List.getElem_mem hi), ab, cb, c3, fun hp2 => ?_⟩
  obtain ⟨gb, rfl, hj⟩ := (isLs_cells hvb).2 hp2
  refine ⟨gb, rfl, fun j hjl => ?_⟩
  obtain ⟨vc, hvc, d0, d1, d2⟩ := hj j hjl
  obtain ⟨_, ac, cc, rfl⟩ := own_len hvc
  exact ⟨d0, d1, ac, cc, d2⟩

set_option maxRecDepth 100000 in
set_option maxHeartbeats 8000000 in
theorem preds1_in (n : Nat) (hn : 1 ≤ n) (l Br Bf : Nat) (vr vf : Value) (rs : List Rul) (fs : List Raw) (hok : ∀ x ∈ rawRs rs ++ fs, okP x) (J Jx : List Pr → World → Prop) (W : World) (hJ : AbidesFrom W.heap.size J)
    (hY : ∀ pre x W1, J pre W1 → pre.length < (castP (rawRs rs ++ fs)).length → YieldAt Fence.wide (n - 1) Try.prog l #[.string x.1.1, .int .i64 (x.1.2 : Int)] W1 fun e W' =>
      (e = .returned (.bool true) ∧ J (pre ++ [x]) W' ∧ Kc W1 W') ∨ (e = .returned (.bool false) ∧ Jx (pre ++ [x]) W'))
    (hBr : W.cell? ⟨Br, 0, none⟩ = some vr) (hBf : W.cell? ⟨Bf, 0, none⟩ = some vf) (hR : RsB W vr rs) (hF : FsB W vf fs) (h0 : J [] W) :
    CallsIn Fence.wide n Try.prog 31 #[.func (.yield l) #[] #[], .pointer (some ⟨Br, 0, none⟩), .pointer (some ⟨Bf, 0, none⟩)] W fun e W' => (∃ v, e = .returned v) ∧
      ((∃ ys, ys = castP (rawRs rs ++ fs) ∧ J ys W') ∨ (∃ pre, pre <+: castP (rawRs rs ++ fs) ∧ Jx pre W')) := by
  obtain ⟨aor, capr, rfl, hlr, hcr⟩ := hR
  obtain ⟨aof, capf, rfl, hlf, hcf⟩ := hF
  have HCR := hide hcr
  have HCF := hide hcf
  have HBf := hide hBf
  have HOK : Hid (∀ x : Raw, ∀ done, done ++ [x] <+: rawRs rs ++ fs → okP x) := fun x done hd => hok x (hd.subset (by simp))
  have HYY : Hid (∀ (done : List Raw) (x : Raw) W1, J (castP done) W1 → done ++ [x] <+: rawRs rs ++ fs → YieldAt Fence.wide (n - 1) Try.prog l #[.string x.1, .int .i64 (x.2 : Int)] W1 fun e W' =>
      (e = .returned (.bool true) ∧ J (castP (done ++ [x])) W' ∧ Kc W1 W') ∨ (e = .returned (.bool false) ∧ Jx (castP (done ++ [x])) W')) := fun done x W1 hj hp => by
    have hx := HOK.out x done hp
    have := hY (castP done) ⟨x, hx⟩ W1 hj (castP_lt (x := ⟨x, hx⟩) hp)
    rw [← castP_snoc done ⟨x, hx⟩] at this
    exact this
  have HPre : Hid (∀ done : List Raw, done <+: rawRs rs ++ fs → castP done <+: castP (rawRs rs ++ fs)) := fun done h => castP_pre h
  have HJA : Hid (∀ s wr o, J s wr → J s (wr.alloc o)) := fun s wr o h => hJ s wr (wr.alloc o) none h (World.grownBy_alloc wr o none) (fun r e => by cases e)
  clear hcr hcf hY hok hBf hJ
  refine callsIn_of_wp Try.func31 rfl trivial ?_ rfl
  simp only [Try.ntmps31, List.size_toArray, List.length_cons, List.length_nil, Nat.reduceAdd, Nat.reduceSub, Array.replicate_succ, Array.replicate_zero, List.push_toArray, List.append_toArray, List.nil_append, List.cons_append]
  gi_wp2
  gi_loopw [12] (fun i wr => ∃ k : Nat, k ≤ rs.length ∧ i = .int .i64 k ∧ Hid (J (castP (rawRs (rs.take k))) wr) ∧ Hid (Kc W wr)) (fun i _ => rs.length - (intOf i).toNat)
  case atStart => exact ⟨0, Nat.zero_le _, rfl, h0, Kc.refl _⟩
  case round =>
    obtain ⟨k, hk, rfl, HJ, HB⟩ := hrel
    by_cases hlt : k < rs.length
    · have hltI : (k : Int) < (rs.length : Int) := by omega
      obtain ⟨g, rfl, hcs⟩ := HCR.out (by omega)
      obtain ⟨k0, k1, ⟨aa, ca, k2⟩, hlb, ab, cb, k3, hj⟩ := hcs k hlt
      have k0 := HB.out.cell k0
      have k1 := HB.out.cell k1
      have k2 := HB.out.cell k2
      have k3 := HB.out.cell k3
      have HJB := hide hj
      have HRT := hide (rawRs_take hlt)
      have HR1 : Hid (rawRs (rs.take k) ++ rawR rs[k] <+: rawRs rs ++ fs) := by rw [← HRT.out]; exact (rawRs_pre rs (k + 1)).trans (List.prefix_append _ _)
      generalize rs[k] = q at *
      obtain ⟨⟨qk, qn, qt⟩, qb⟩ := q
      have HYk := hide (HYY.out (rawRs (rs.take k)) (qn, qt.length) (wr.alloc (.cells #[.int .i64 qk, .string qn, .slice aa qt.length ca, .slice ab qb.length cb] 32)) (HJA.out _ _ _ HJ.out) ((pre_left _ (by show [(qn, qt.length)] <+: (qn, qt.length) :: rawB qb; exact ⟨_, rfl⟩)).trans HR1.out))
      have HX := hide (Bx.new wr #[.int .i64 qk, .string qn, .slice aa qt.length ca, .slice ab qb.length cb] 32)
      have HB1 := hide (HB.out.alloc (.cells #[.int .i64 qk, .string qn, .slice aa qt.length ca, .slice ab qb.length cb] 32))
      obtain ⟨fn, tmps, assign, body, hy, hR⟩ := HYk.out
      have HR := hide hR
      simp only at hlb HJB k0 k1 k2 k3
      clear hR HYk hcs hj HJ
      gi_wp2
      refine RoundIn.mono HR.out ?_
      rintro e W3 (⟨rfl, hJ3, hk3⟩ | ⟨rfl, hJx3⟩)
      · have HJ3 := hide hJ3
        have X3 := hide (hk3 _ _ _ _ HX.out)
        have HB3 := hide (HB1.out.trans hk3)
        have c3 : W3.cell? ⟨wr.heap.size, 3, none⟩ = some (.slice ab qb.length cb) := Bx.c (w := W3) X3.out 3
        clear hJ3 hk3 HR hy k0 k1 k2 k3 HX HB1 HB
        gi_wp2
        gi_loopw [29] (fun i wx => ∃ j : Nat, j ≤ qb.length ∧ i = .int .i64 j ∧ Hid (J (castP (rawRs (rs.take k) ++ ((qn, qt.length) :: rawB (qb.take j)))) wx) ∧ Hid (Kc W wx)) (fun i _ => qb.length - (intOf i).toNat)
        case atStart => exact ⟨0, Nat.zero_le _, rfl, HJ3, HB3⟩
        case round =>
          obtain ⟨j, hj, rfl, HJ4, HB4⟩ := hrel
          clear c3 HJ3 HB3
          by_cases hltj : j < qb.length
          · have hltjI : (j : Int) < (qb.length : Int) := by omega
            obtain ⟨gb, rfl, hcb⟩ := HJB.out (by omega)
            obtain ⟨d0, d1, ac, cc, d2⟩ := hcb j hltj
            have d0 := HB4.out.cell d0
            have d1 := HB4.out.cell d1
            have d2 := HB4.out.cell d2
            have HBT := hide (rawB_take hltj)
            have HR2 : Hid (rawRs (rs.take k) ++ ((qn, qt.length) :: (rawB (qb.take j) ++ rawL qb[j])) <+: rawRs rs ++ fs) := by
              rw [← HBT.out]
              exact (pre_left _ (by show (qn, qt.length) :: rawB (qb.take (j + 1)) <+: (qn, qt.length) :: rawB qb; exact (List.prefix_cons_inj _).2 (rawB_pre qb (j + 1)))).trans HR1.out
            have HP := hide (hasPred_any qb[j].1)
            generalize qb[j] = t at *
            obtain ⟨tk, tn, tt⟩ := t
            simp only at d0 d1 d2 HP
            have HJ5 := hide (HJA.out _ _ (.cells #[.int .i64 tk, .string tn, .slice ac tt.length cc] 29) HJ4.out)
            have HB5 := hide (HB4.out.alloc (.cells #[.int .i64 tk, .string tn, .slice ac tt.length cc] 29))
            clear hcb
            by_cases hkk : tk = 1 ∨ tk = 2
            · have hq : (decide (tk = 1) || decide (tk = 2)) = true := by simpa using hkk
              have hrl : rawL (tk, tn, tt) = [(tn, tt.length)] := by simp only [rawL]; rw [if_pos hkk]
              rw [hq] at HP
              rw [hrl] at HBT HR2
              clear hq hrl hkk
              rw [← List.cons_append, ← List.append_assoc] at HR2
              have HYk := hide (HYY.out _ (tn, tt.length) _ HJ5.out HR2.out)
              obtain ⟨fn, tmps, assign, body, hy, hR⟩ := HYk.out
              have HR := hide hR
              clear hR HYk
              gi_wp2
              refine ⟨trivial, ?_⟩
              refine (callsIn_wide.2 (HP.out _)).mono ?_
              rintro e w5 ⟨rfl, hw5⟩
              have hw5' := hw5.symm
              subst hw5'
              clear hw5
              gi_wp2
              refine RoundIn.mono HR.out ?_
              rintro e W6 (⟨rfl, hJ6, hk6⟩ | ⟨rfl, hJx6⟩)
              · have HJ6 := hide hJ6
                have HB6 := hide (HB5.out.trans hk6)
                clear hJ6 hk6
                gi_wp2
                go_roundw
                case rel => exact ⟨j + 1, by omega, by simp, by rw [HBT.out, ← List.cons_append, ← List.append_assoc]; exact HJ6, HB6⟩
                case measure => simp [intOf]; omega
              · have HJ6 := hide hJx6
                clear hJx6
                gi_wp2
                refine bodyPost_ret (results_none rfl _ _ _) rfl ?_
                exact ⟨⟨_, rfl⟩, .inr ⟨_, HPre.out _ HR2.out, HJ6.out⟩⟩
            · have hq : (decide (tk = 1) || decide (tk = 2)) = false := by simpa using hkk
              have hrl : rawL (tk, tn, tt) = [] := by simp only [rawL]; rw [if_neg hkk]
              rw [hq] at HP
              rw [hrl, List.append_nil] at HBT
              clear hq hrl hkk
              gi_wp2
              refine ⟨trivial, ?_⟩
              refine (callsIn_wide.2 (HP.out _)).mono ?_
              rintro e w5 ⟨rfl, hw5⟩
              have hw5' := hw5.symm
              subst hw5'
              clear hw5
              gi_wp2
              refine ⟨fun _ h => (by cases h), ?_⟩
              gi_wp2
              go_roundw
              case rel => exact ⟨j + 1, by omega, by simp, by rw [HBT.out]; exact HJ5, HB5⟩
              case measure => simp [intOf]; omega
          · have hje : qb.take j = qb := by rw [show j = qb.length by omega, List.take_length]
            have hjI : ¬ (j : Int) < (qb.length : Int) := by omega
            rw [hje] at HJ4
            have HJ7 : Hid (J (castP (rawRs (rs.take (k + 1)))) wr) := by rw [HRT.out]; exact HJ4
            clear hje
            gi_wp2
            go_roundw
            case rel => exact ⟨k + 1, by omega, by simp, HJ7, HB4⟩
            case measure => simp [intOf]; omega
      · have HJ3 := hide hJx3
        clear hJx3
        gi_wp2
        refine bodyPost_ret (results_none rfl _ _ _) rfl ?_
        exact ⟨⟨_, rfl⟩, .inr ⟨_, HPre.out _ ((pre_left _ (by show [(qn, qt.length)] <+: (qn, qt.length) :: rawB qb; exact ⟨_, rfl⟩)).trans HR1.out), HJ3.out⟩⟩
    · have hke : rs.take k = rs := by rw [show k = rs.length by omega, List.take_length]
      have hkI : ¬ (k : Int) < (rs.length : Int) := by omega
      rw [hke] at HJ
      clear hke
      have cf := HB.out.cell HBf.out
      gi_wp2
      gi_loopw [50] (fun i wx => ∃ j : Nat, j ≤ fs.length ∧ i = .int .i64 j ∧ Hid (J (castP (rawRs rs ++ fs.take j)) wx) ∧ Hid (Kc W wx)) (fun i _ => fs.length - (intOf i).toNat)
      case atStart => exact ⟨0, Nat.zero_le _, rfl, by rw [List.take_zero, List.append_nil]; exact HJ, HB⟩
      case round =>
        obtain ⟨j, hj, rfl, HJ4, HB4⟩ := hrel
        clear cf HJ HB
        by_cases hltj : j < fs.length
        · have hltjI : (j : Int) < (fs.length : Int) := by omega
          obtain ⟨gb, off, rfl, hcb⟩ := HCF.out (by omega)
          obtain ⟨d0, ac, cc, d1⟩ := hcb j hltj
          have d0 := HB4.out.cell d0
          have d1 := HB4.out.cell d1
          have HFT := hide (List.take_succ_eq_append_getElem hltj)
          have HR2 : Hid (rawRs rs ++ fs.take j ++ [fs[j]] <+: rawRs rs ++ fs) := by
            rw [List.append_assoc, ← HFT.out]
            exact pre_left _ (List.take_prefix _ _)
          generalize fs[j] = t at *
          obtain ⟨tn, tt⟩ := t
          simp only at d0 d1
          have HJ5 := hide (HJA.out _ _ (.cells #[.string tn, .slice ac tt cc] 64) HJ4.out)
          have HB5 := hide (HB4.out.alloc (.cells #[.string tn, .slice ac tt cc] 64))
          have HYk := hide (HYY.out _ (tn, tt) _ HJ5.out HR2.out)
          obtain ⟨fn, tmps, assign, body, hy, hR⟩ := HYk.out
          have HR := hide hR
          clear hR HYk hcb
          gi_wp2
          refine RoundIn.mono HR.out ?_
          rintro e W6 (⟨rfl, hJ6, hk6⟩ | ⟨rfl, hJx6⟩)
          · have HJ6 := hide hJ6
            have HB6 := hide (HB5.out.trans hk6)
            clear hJ6 hk6
            gi_wp2
            go_roundw
            case rel => exact ⟨j + 1, by omega, by simp, by rw [HFT.out, ← List.append_assoc]; exact HJ6, HB6⟩
            case measure => simp [intOf]; omega
          · have HJ6 := hide hJx6
            clear hJx6
            gi_wp2
            refine bodyPost_ret (results_none rfl _ _ _) rfl ?_
            exact ⟨⟨_, rfl⟩, .inr ⟨_, HPre.out _ HR2.out, HJ6.out⟩⟩
        · have hje : fs.take j = fs := by rw [show j = fs.length by omega, List.take_length]
          have hjI : ¬ (j : Int) < (fs.length : Int) := by omega
          rw [hje] at HJ4
          clear hje
          gi_wp2
          go_end0
          exact ⟨⟨_, rfl⟩, .inl HJ4.out⟩

/-- predicates(rules, facts): both are boxed; the function value captures the boxes. -/
theorem preds_in (n : Nat) (ar af : Option Addr) (mr mf cr cf : Nat) (w : World) :
    CallsIn Fence.wide n Try.prog 21 #[.slice ar mr cr, .slice af mf cf] w fun e w' => e = .returned (.func (.func 31) #[] #[.pointer (some ⟨w.heap.size, 0, none⟩), .pointer (some ⟨w.heap.size + 1, 0, none⟩)]) ∧ w' = (w.alloc (.cells #[.slice ar mr cr] 24)).alloc (.cells #[.slice af mf cf] 22) := by
  refine callsIn_of_wp Try.func21 rfl trivial ?_ rfl
  simp only [Try.ntmps21, List.size_toArray, List.length_cons, List.length_nil, Nat.reduceAdd, Nat.reduceSub, Array.replicate_succ, Array.replicate_zero, List.push_toArray, List.append_toArray, List.nil_append, List.cons_append]
  gi_wp2
  go_ret
  exact ⟨rfl, rfl⟩

theorem preds_stops (n : Nat) (hn : 1 ≤ n) (Br Bf : Nat) (vr vf : Value) (rs : List Rul) (fs : List Raw) (hok : ∀ x ∈ rawRs rs ++ fs, okP x) (w : World) (hBr : w.cell? ⟨Br, 0, none⟩ = some vr) (hBf : w.cell? ⟨Bf, 0, none⟩ = some vf) (hR : RsB w vr rs) (hF : FsB w vf fs) :
    SeqStopsK Fence.wide n Try.prog 31 #[.pointer (some ⟨Br, 0, none⟩), .pointer (some ⟨Bf, 0, none⟩)] (fun x : Pr => #[Value.string x.1.1, .int .i64 (x.1.2 : Int)]) Kc (fun ys => ys = castP (rawRs rs ++ fs)) (fun pre => pre <+: castP (rawRs rs ++ fs)) (castP (rawRs rs ++ fs)).length w := fun l J Jx W hW hJ _ hY h0 =>
  preds1_in n hn l Br Bf vr vf rs fs hok J Jx W hJ hY ((Kc.of_below hW).cell hBr) ((Kc.of_below hW).cell hBf) (hR.kept (Kc.of_below hW)) (hF.kept (Kc.of_below hW)) h0
end Go.Proofs.Ytienpejlfjhnmaa.Ck
namespace Go.Proofs.Ytienpejlfjhnmaa.Ck
open Go.RowKit Go.Shelf
open Vl (Tm Ts Fr)
open Sy

/-- The marks that loops over functions leave. -/
def marks (dl : List Nat) : List Deferred := dl.map fun D => { target := .collected D, args := #[] }

/-- A frame that leaves with marks alone. -/
theorem leaves_marks {F : Fence} {n : Nat} {P : Program} {fn : Func} {tmps : Array Value} {R : Ending → World → Prop} : ∀ (dl : List Nat) (W : World), (∀ D ∈ dl, W.heap[D]? = some (.deferred (some []))) → dl.Nodup →
    (∀ W', Fr (fun k => k ∈ dl) W W' → LeavesIn F n P fn tmps R [] .returning W') → LeavesInM F n P fn tmps R (marks dl) .returning W := by
  intro dl
  induction dl with
  | nil => intro W _ _ h; exact h W (Fr.refl _ _)
  | cons D dl ih =>
    intro W hd hn h
    have hK := hd D (by simp)
    have hlt : D < W.heap.size := (Array.getElem?_eq_some_iff.1 hK).1
    obtain ⟨hD, hn⟩ := List.nodup_cons.1 hn
    have hF : Fr (fun k => k = D) W (W.putObj D (.deferred none)) := ⟨rfl, rfl, rfl, by simp [World.putObj], fun k hk hne => World.putObj_heap_other hne⟩
    refine ⟨by simp, .inl ⟨D, _, rfl, run_takeDeferred hK, ?_⟩⟩
    refine ih _ (fun E hE => ?_) hn (fun W' hW' => ?_)
    · rw [World.putObj_heap_other (fun e : E = D => hD (e ▸ hE))]
      exact hd E (by simp [hE])
    · refine h W' ((hF.mono (G := fun k => k ∈ D :: dl) (fun x _ e => by simp [e])).trans hW' (fun x _ e => by simp [e]))

theorem ownsMap_fr {F : Nat → Prop} {W W' : World} {k : TypeId} {R : Value → Option (DataW Unit × List MemPlace)} {b n : Nat} {D : DataW Unit} (h : W.ownsMap Try.prog k R b n D) (hf : Fr F W W') (hb : ¬ F b) : W'.ownsMap Try.prog k R b n D := by
  have hlt := h.lt
  obtain ⟨es, ck, hh, rest⟩ := h
  exact ⟨es, ck, (hf.block b hlt hb).trans hh, rest⟩

/-- A set of names, as it is read. -/
def inS (S : List Nm) (x : Nm) : Bool := S.any fun y => y.1.data.toList == x.1.data.toList
def SetOf (D : DataW Unit) (S : List Nm) : Prop := Maps.IsMap D ∧ ∀ x : Nm, Maps.has D (.string x.1.data.toList) = inS S x
theorem SetOf.nil : SetOf (.map []) [] := ⟨⟨[], rfl⟩, fun x => by simp [Maps.has, inS]⟩
theorem nm_ext {x y : Nm} (h : x.1.data.toList = y.1.data.toList) : x = y := Subtype.ext (Vl.bytes_ext h)
theorem key_str {x : List UInt8} : WideAt.IsKeyLit (.string x) := by first | trivial | exact ⟨_, rfl⟩ | simp [WideAt.IsKeyLit]
theorem SetOf.put {D : DataW Unit} {S : List Nm} (h : SetOf D S) (x : Nm) (d : DataW Unit) : SetOf (D.put (.string x.1.data.toList) d) (S ++ [x]) := by
  have hm : Maps.IsMap (D.put (.string x.1.data.toList) d) := by
    obtain ⟨es, rfl⟩ := h.1
    exact ⟨_, rfl⟩
  refine ⟨hm, fun y => ?_⟩
  by_cases hy : y = x
  · subst hy
    rw [Maps.has_put_same h.1 key_str]
    simp [inS]
  · have hne : ¬ x.1.data.toList = y.1.data.toList := fun e => hy (nm_ext e.symm)
    rw [Maps.has_put_other (fun e => hy (nm_ext (by simpa using e))), h.2]
    have hb : (x.1.data.toList == y.1.data.toList) = false := by rw [beq_eq_false_iff_ne]; exact hne
    rw [inS, inS, List.any_append, List.any_cons, List.any_nil, hb, Bool.or_false, Bool.or_false]

/-- What boundBy has in memory: its map, the map's box, the marks. -/
structure Bb (w W : World) (S : List Nm) (dl : List Nat) : Prop where
  box : Bx W (w.heap.size + 1) 54 #[.map (some w.heap.size)]
  map : ∃ D, W.ownsMap Try.prog 9 (unitElem (H := Unit)) w.heap.size S.length D ∧ SetOf D S
  below : Below w.heap.size w W
  ds : ∀ D ∈ dl, w.heap.size ≤ D ∧ W.heap[D]? = some (.deferred (some []))
  nd : dl.Nodup
theorem Bb.fr {w W W' : World} {S : List Nm} {dl : List Nat} (h : Bb w W S dl) {F : Nat → Prop} (hf : Fr F W W') (hF : ∀ k, k < W.heap.size → F k → False) : Bb w W' S dl := by
  obtain ⟨D, h1, h2⟩ := h.map
  refine ⟨h.box.fr hf (hF _ h.box.lt), ⟨D, ownsMap_fr h1 hf (hF _ h1.lt), h2⟩, h.below.trans (hf.below (fun k hk => by
    by_cases hl : k < W.heap.size
    · exact (hF k hl hk).elim
    · have := h.below.size; omega) h.below.size), fun D hD => ⟨(h.ds D hD).1, ?_⟩, h.nd⟩
  have hl : D < W.heap.size := (Array.getElem?_eq_some_iff.1 (h.ds D hD).2).1
  rw [hf.block D hl (hF D hl)]
  exact (h.ds D hD).2
theorem Bb.alloc {w W : World} {S : List Nm} {dl : List Nat} (h : Bb w W S dl) (o : Obj) : Bb w (W.alloc o) S dl := h.fr (F := fun _ => False) ((Fr.refl _ _).alloc o) (fun _ _ e => e)
theorem Bb.grown {w A B : World} {S : List Nm} {dl : List Nat} (h : Bb w A S dl) {row : Option Nat} (hg : A.grownBy B row) {z : Nat} (hz : w.heap.size + 2 ≤ z) (hd : ∀ D ∈ dl, D < z) (hr : ∀ r, row = some r → z ≤ r) : Bb w B S dl := by
  obtain ⟨D, h1, h2⟩ := h.map
  have hblk : ∀ k, k < z → k < A.heap.size → B.heap[k]? = A.heap[k]? := fun k hk hl => hg.block k hl (fun e => by have := hr k e.symm; omega)
  refine ⟨?_, ⟨D, ?_, h2⟩, ⟨hg.os.trans h.below.os, hg.tape.trans h.below.tape, hg.output.trans h.below.output, Nat.le_trans h.below.size hg.size, fun k hk => (hblk k (by omega) (Nat.lt_of_lt_of_le hk h.below.size)).trans (h.below.block k hk)⟩, fun D hD => ⟨(h.ds D hD).1, ?_⟩, h.nd⟩
  · exact (hblk _ (by omega) h.box.lt).trans h.box
  · have hlt := h1.lt
    obtain ⟨es, ck, hh, rest⟩ := h1
    exact ⟨es, ck, (hblk _ (by omega) hlt).trans hh, rest⟩
  · have hl : D < A.heap.size := (Array.getElem?_eq_some_iff.1 (h.ds D hD).2).1
    exact (hblk D (hd D hD) hl).trans (h.ds D hD).2

theorem cell_two (W : World) (o : Obj) (v : Value) (t : TypeId) : ((W.alloc o).alloc (.cells #[v] t)).cell? ⟨W.heap.size + 1, 0, none⟩ = some v := by
  have h := (Bx.new (W.alloc o) #[v] t).c 0
  rw [World.size_alloc] at h
  exact h
/-- The variables that a body's atoms bind. -/
def boundL (ls : List Sy.Lit) : List Nm := ls.flatMap fun l => if l.1 = 1 then varsT l.2.2 else []
theorem boundL_take {ls : List Sy.Lit} {k : Nat} (h : k < ls.length) : boundL (ls.take (k + 1)) = boundL (ls.take k) ++ (if ls[k].1 = 1 then varsT ls[k].2.2 else []) := by
  unfold boundL
  rw [List.take_succ_eq_append_getElem h, List.flatMap_append]
  simp
theorem boundL_pre (ls : List Sy.Lit) (k : Nat) : (boundL (ls.take k)).length ≤ (boundL ls).length := by
  have h : ls = ls.take k ++ ls.drop k := (List.take_append_drop k ls).symm
  conv => rhs; rw [h]
  unfold boundL
  rw [List.flatMap_append, List.length_append]
  omega
/-- Names and lists of a size that may be. -/
structure Few (ls : List Sy.Lit) : Prop where
  len : ls.length ≤ 1000000
  args : ∀ l ∈ ls, l.2.2.length ≤ 1000000 ∧ ∀ t ∈ l.2.2, t.2.1.size ≤ maxLen
  all : (boundL ls).length ≤ 1000000000

set_option maxRecDepth 100000 in
set_option maxHeartbeats 8000000 in
theorem boundBy_in (n : Nat) (hn : 3 ≤ n) (ls : List Sy.Lit) (v : Value) (w : World) (hv : isLs w ls v) (hf : Few ls) :
    CallsIn Fence.wide n Try.prog 17 #[v] w fun e W' => e = .returned (.map (some w.heap.size)) ∧ (∃ D, W'.ownsMap Try.prog 9 (unitElem (H := Unit)) w.heap.size (boundL ls).length D ∧ SetOf D (boundL ls)) ∧ Below w.heap.size w W' := by
  obtain ⟨ao, cap, rfl⟩ := isLs_shape hv
  have HC := hide (isLs_cells hv).2
  have HF := hide hf
  have hlen := hf.len
  clear hv hf
  have h1 : 1 ≤ n := by omega
  have hmm := @run_makeMap Try.prog
  have B0 : Hid (Bb w ((w.alloc (.map #[] 0)).alloc (.cells #[.map (some w.heap.size)] 54)) [] []) := by
    refine ⟨?_, ⟨_, (World.ownsMap_made w _ _ _).alloc _, SetOf.nil⟩, ((Below.refl _ w).alloc (Nat.le_refl _) _).alloc (by simp) _, by simp, by simp⟩
    have := Bx.new (w.alloc (.map #[] 0)) #[.map (some w.heap.size)] 54
    simpa using this
  refine callsIn_of_wp_marks Try.func17 rfl trivial ?_ rfl
  simp only [Try.ntmps17, List.size_toArray, List.length_cons, List.length_nil, Nat.reduceAdd, Nat.reduceSub, Array.replicate_succ, Array.replicate_zero, List.push_toArray, List.append_toArray, List.nil_append, List.cons_append]
  gi_wp2
  clear hmm
  refine wpIn_loop (fun a W => ∃ (k : Nat) (u5 u6 u11 u12 u13 u14 u15 u16 u17 u18 u19 u20 u21 u22 u23 u24 : Value) (dl : List Nat), k ≤ ls.length ∧ a = { tmps := #[.slice ao ls.length cap, undef, .map none, .pointer (some ⟨w.heap.size + 1, 0, none⟩), undef, u5, u6, .map (some w.heap.size), .slice ao ls.length cap, .int .i64 (ls.length : Int), .int .i64 (k : Int), u11, u12, u13, u14, u15, u16, u17, u18, u19, u20, u21, u22, u23, u24, undef], defers := marks dl } ∧ Hid (Bb w W (boundL (ls.take k)) dl)) (fun a _ => ls.length - (intOf (a.tmps.getD 10 undef)).toNat) ?start ?round
  case start => exact ⟨0, _, _, _, _, _, _, _, _, _, _, _, _, _, _, _, _, [], Nat.zero_le _, rfl, B0⟩
  case round =>
    rintro a W ⟨k, u5, u6, u11, u12, u13, u14, u15, u16, u17, u18, u19, u20, u21, u22, u23, u24, dl, hk, rfl, HB⟩
    clear B0
    by_cases hlt : k < ls.length
    · have hltI : (k : Int) < (ls.length : Int) := by omega
      obtain ⟨g, rfl, hc⟩ := HC.out (by omega)
      obtain ⟨va, hva, k0, k1, k2⟩ := hc k hlt
      have k0 := cell_below' k0 HB.out.below
      have k1 := cell_below' k1 HB.out.below
      have k2 := cell_below' k2 HB.out.below
      have HFa := HF.out.args _ (List.getElem_mem hlt)
      have HT := hide (TsB.of hva HFa.1)
      have HT2 := hide HFa.2
      have HBT := hide (boundL_take hlt)
      have HBL : Hid ((boundL (ls.take (k + 1))).length ≤ 1000000000) := Nat.le_trans (boundL_pre ls (k + 1)) HF.out.all
      obtain ⟨_, aov, capv, rfl⟩ := own_len hva
      clear hc hva HFa
      generalize ls[k] = l at *
      by_cases h1k : l.1 = 1
      · rw [h1k] at k0
        rw [if_pos h1k] at HBT
        clear h1k
        have HB2 := hide ((HB.out.alloc (.cells #[.int .i64 1, .string l.2.1, .slice aov l.2.2.length capv] 29)).alloc (.cells #[.slice aov l.2.2.length capv] 27))
        gi_wp2
        refine ⟨trivial, ?_⟩
        refine (vars_in (n - 1) _ _ _ _).mono ?_
        rintro e w' ⟨rfl, rfl⟩
        have cB : (((W.alloc (.cells #[.int .i64 1, .string l.2.1, .slice aov l.2.2.length capv] 29)).alloc (.cells #[.slice aov l.2.2.length capv] 27))).cell? ⟨W.heap.size + 1, 0, none⟩ = some (.slice aov l.2.2.length capv) := by
          exact cell_two W _ _ _
        have hsz : (((W.alloc (.cells #[.int .i64 1, .string l.2.1, .slice aov l.2.2.length capv] 29)).alloc (.cells #[.slice aov l.2.2.length capv] 27))).heap.size = W.heap.size + 2 := by simp
        have hWs := HB.out.below.size
        have hWb := HB.out.box.lt
        have hdl : Hid (∀ D ∈ dl, D < W.heap.size) := fun D hD => (Array.getElem?_eq_some_iff.1 (HB.out.ds D hD).2).1
        clear HB k0 k1 k2
        gi_wp2
        generalize ((W.alloc (.cells #[.int .i64 1, .string l.2.1, .slice aov l.2.2.length capv] 29)).alloc (.cells #[.slice aov l.2.2.length capv] 27)) = W1 at *
        refine wpIn_rangeFunc_ownG rfl h1 (gf := 37) (lb := #[.pointer (some ⟨W.heap.size + 1, 0, none⟩)]) rfl trivial (enters_of Try.func37 (by kernel_rfl) rfl)
          (vars_stops (n - 1) (by omega) (W.heap.size + 1) w.heap.size _ l.2.2 HT2.out W1 (by omega) (by omega) cB (HT.out.below HB2.out.below)) belowK_t (belowK_b (by omega)) (Below.refl _ _) (fun _ => rfl)
          (fun pre X => Hid (Bb w X (boundL (ls.take k) ++ pre) dl)) (fun _ _ _ => False)
          (fun s A B row hs hg hr => hs.out.grown hg (z := W1.heap.size) (by omega) (fun D hD => by have := hdl.out D hD; omega) (fun r e => (hr r e).1))
          (fun _ _ _ _ _ hs _ _ => hs)
          (by rw [List.append_nil]; exact HB2)
          (fun x => { tmps := #[.slice (some ⟨g, 0, none⟩) ls.length cap, undef, .map none, .pointer (some ⟨w.heap.size + 1, 0, none⟩), undef, .pointer (some ⟨W.heap.size, 0, none⟩), .string x.1, .map (some w.heap.size), .slice (some ⟨g, 0, none⟩) ls.length cap, .int .i64 (ls.length : Int), .int .i64 (k : Int), .bool true, .pointer (some ⟨g, k * 3, none⟩), .agg #[.int .i64 1, .string l.2.1, .slice aov l.2.2.length capv], .pointer (some ⟨W.heap.size, 0, none⟩), .int .i64 1, .bool false, .pointer (some ⟨W.heap.size, 2, none⟩), .slice aov l.2.2.length capv, .func (.func 37) #[] #[.pointer (some ⟨W.heap.size + 1, 0, none⟩)], .string x.1, u21, u22, u23, u24, undef], defers := [] }) ?assign ?body ?done ?stop
        case assign =>
          intro l' x X K hK
          have hsem := @Oper.semAt_some
          gi_wp2
          exact hK
        case body =>
          rintro l' pre x X HI hlt2
          have hsem := @Oper.semAt_some
          obtain ⟨D, hown, hset⟩ := HI.out.map
          have c3 := HI.out.box.c 0
          have hN : (boundL (ls.take k) ++ pre).length < maxLen := by
            have h1 := HBL.out
            rw [HBT.out, List.length_append] at h1
            rw [List.length_append]
            simp only [maxLen]
            omega
          have HS := hide hset
          have HI2 := hide HI.out
          have HOWN := hide hown
          clear hset HI
          gi_wp2_with (gi_at_mapUpdate; refine wpListIn_mapUpdate_own _ rfl _ _ _ 54 rfl 9 78 (Maps.string_keyed Try.underlying9) Try.underlying54 _ w.heap.size _ D rfl HOWN.out hN _ _ _ rfl rfl (WideMaps.keyOf_string_mk Try.underlying9 x.2) (.agg []) [] unitElem_mk ?_; intro w1 hown1 hgrow1)
          obtain ⟨es, ck, hh, _⟩ := HOWN.out
          have hB1 : Below w.heap.size w w1 := HI2.out.below.grown hgrow1 HI2.out.below.size (fun k e => by cases e; exact Nat.le_refl _)
          refine ⟨KeepsFrom.of_grownBy hgrow1 (fun j e => by cases e; omega), (Below.refl _ X).grown hgrow1 HI2.out.below.size (fun k e => by cases e; exact Nat.le_refl _), ?_⟩
          have hblk : ∀ j, j < X.heap.size → j ≠ w.heap.size → w1.heap[j]? = X.heap[j]? := fun j hj hne => hgrow1.block j hj (fun e => by cases e; exact hne rfl)
          refine ⟨(hblk _ HI2.out.box.lt (by omega)).trans HI2.out.box, ⟨D.put (.string x.1.data.toList) (.agg []), ?_, by rw [← List.append_assoc]; exact HS.out.put x (.agg [])⟩, hB1, fun E hE => ⟨(HI2.out.ds E hE).1, ?_⟩, HI2.out.nd⟩
          · rw [← List.append_assoc, List.length_append]
            exact hown1
          · have hE2 := (HI2.out.ds E hE).2
            have hl : E < X.heap.size := (Array.getElem?_eq_some_iff.1 hE2).1
            refine (hblk E hl (fun e => ?_)).trans hE2
            subst e
            rw [hE2] at hh
            cases hh
        case done =>
          rintro D ys X hD rfl HI hK
          gi_wp2
          refine ⟨⟨k + 1, _, _, _, _, _, _, _, _, _, _, _, _, _, _, _, _, D :: dl, by omega, rfl, ?_⟩, by simp [intOf]; omega⟩
          rw [HBT.out]
          refine ⟨HI.out.box, HI.out.map, HI.out.below, ?_, ?_⟩
          · intro E hE
            rcases List.mem_cons.1 hE with rfl | hE
            · exact ⟨by omega, hK⟩
            · exact HI.out.ds E hE
          · refine List.nodup_cons.2 ⟨fun hE => ?_, HI.out.nd⟩
            have := hdl.out D hE
            omega
        case stop =>
          rintro D c pre X _ _ h _
          exact h.elim
      · have g1 : (l.1 != 1) = true := by simpa using h1k
        rw [if_neg h1k, List.append_nil] at HBT
        have HB2 := hide (HB.out.alloc (.cells #[.int .i64 l.1, .string l.2.1, .slice aov l.2.2.length capv] 29))
        clear h1k HB
        gi_wp2
        refine ⟨⟨k + 1, _, _, _, _, _, _, _, _, _, _, _, _, _, _, _, _, dl, by omega, rfl, ?_⟩, by simp [intOf]; omega⟩
        rw [HBT.out]
        exact HB2
    · have hke : k = ls.length := by omega
      have hkI : ¬ (k : Int) < (ls.length : Int) := by omega
      have c3 := HB.out.box.c 0
      have hta : ls.take k = ls := by rw [hke, List.take_length]
      rw [hta] at HB
      clear hta hke
      gi_wp2
      refine leaves_marks dl W (fun D hD => (HB.out.ds D hD).2) HB.out.nd (fun W' hW' => ?_)
      refine ⟨_, results_tmp rfl _ _ _, ?_⟩
      obtain ⟨D, h1, h2⟩ := HB.out.map
      have hnd : ¬ w.heap.size ∈ dl := fun hE => by
        have h3 := (HB.out.ds _ hE).2
        obtain ⟨es, ck, hh, _⟩ := h1
        rw [hh] at h3
        cases h3
      exact ⟨rfl, ⟨D, ownsMap_fr h1 hW' hnd, h2⟩, HB.out.below.trans (hW'.below (fun k hk => (HB.out.ds k hk).1) HB.out.below.size)⟩
end Go.Proofs.Ytienpejlfjhnmaa.Ck

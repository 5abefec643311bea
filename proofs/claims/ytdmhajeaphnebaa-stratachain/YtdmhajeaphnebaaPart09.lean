/- The walk of the reference's atom, where it begins with a name (the walk). The walk of the reference's compare. The walk of the reference's literal, where it begins with '!'. The walk of the reference's literal, where it does not begin with '!'. The walks of the reference's EqLiteral, EqRule and EqRules, at two values that read the same. -/
import Derived.Test.YtdmhajeaphnebaaPart08
import Derived.Test.YtdmhajeaphnebaaPart07
import Derived.Lib.QuietBelow
namespace Go.Proofs.Ytdmhajeaphnebaa.Rp
open Go.RowKit
open Lx (Wd tx cellsW wpList_append_run)
open Vl (Tm Fr)
open Sy

theorem one_rest {L : List Wd} {a : Nat} {t : Tm} {rest : List Wd} (h : oneL termW (L.drop a) = .ok (t, rest)) : rest = L.drop (a + 1) := by
  unfold oneL at h
  split at h
  · cases h
  · cases h
    rw [drop_tail]

set_option maxRecDepth 10000 in
set_option maxHeartbeats 8000000 in
theorem atom_some {w : World} {r : Nat} {v : Value} {L : List Wd} {a : Nat} (h : Pd w r v L a 0) (hL : ∀ x ∈ L, OkW x) (hl : a < L.length) (h1 : L[a].1 = 1) :
    Calls Try.prog 26 #[.pointer (some ⟨r, 0, none⟩)] w fun x w' => Lr (atomL termW (L.drop a)) r v L a w x w' := by
  have hrlt := h.lt
  have H := hide h
  have hlen := h.len
  have HA := hide (atomL_name hL hl h1)
  have HL := hide hL
  have h1' : Pd (w.alloc (.cells #[.int .i64 0, .string ⟨#[]⟩, .slice none 0 0] 57)) r v L a 0 := h.below (Lx.below_box w _)
  have b1 : Bx (w.alloc (.cells #[.int .i64 0, .string ⟨#[]⟩, .slice none 0 0] 57)) w.heap.size 57 #[.int .i64 0, .string ⟨#[]⟩, .slice none 0 0] := Bx.new w _ _
  have f1 : Fr (fun k => k = r) w (w.alloc (.cells #[.int .i64 0, .string ⟨#[]⟩, .slice none 0 0] 57)) := Fr.of_below (Lx.below_box w _)
  go_enter Try.func26, Try.ntmps26
  go_wp2_with fail
  have hsW : w.heap.size < (w.alloc (.cells #[.int .i64 0, .string ⟨#[]⟩, .slice none 0 0] 57)).heap.size := by simp
  generalize w.alloc (.cells #[.int .i64 0, .string ⟨#[]⟩, .slice none 0 0] 57) = W at *
  obtain ⟨⟨c0, c1, c2⟩, _, _, _⟩ := h1'.box.three
  have P1 := hide (⟨h1', f1⟩ : Pw w r v L a 0 W)
  have B1 := hide b1
  clear b1 f1
  obtain ⟨ao, cap, rfl, hc⟩ := h1'.shape
  obtain ⟨g, rfl, hc2⟩ := hc (by omega)
  obtain ⟨k0, k1, k2⟩ := hc2 a hl
  have hlI : decide (L.length ≤ a) = false := by simp; omega
  have hlI2 : (a : Int) < (L.length : Int) := by omega
  rw [h1] at k0
  clear hc hc2 h h1' hL h1
  generalize L[a] = x at *
  go_big_quiet (fail)
  obtain ⟨W2, hW2⟩ : ∃ W2, W.drewN nq = W2 := ⟨_, rfl⟩
  have hb2 : Below W.heap.size W W2 := by rw [← hW2]; exact Sy.below_drewN W nq
  rw [hW2]
  clear hW2
  have P2 := hide (P1.out.below hb2)
  have B2 := hide (B1.out.below hb2)
  have e0 := cell_below' c0 hb2
  have e1 := cell_below' c1 hb2
  have q1 := cell_below' k1 hb2
  have l0 := fun o => cell_below' e0 (Lx.below_box W2 o)
  have l1 := fun o => cell_below' e1 (Lx.below_box W2 o)
  have m1 := fun o => cell_below' q1 (Lx.below_box W2 o)
  have hs2 : w.heap.size < W2.heap.size := Nat.lt_of_lt_of_le hsW hb2.size
  clear c0 c1 c2 k0 k1 k2 P1 B1 hb2 hsW
  go_wp2_with fail
  go_cut [3] from 39 to 50 (fun p wc => p = .pointer (some ⟨W2.heap.size, 0, none⟩) ∧ wc = (W2.alloc (.cells #[.int .i64 1, .string (tx x.2.1), .slice none 0 0] 57)).drew)
  case first =>
    go_region_with (fail)
    all_goals go_wp2_with fail
    all_goals go_meet
    all_goals exact ⟨rfl, rfl⟩
  case rest =>
    obtain ⟨rfl, hw3⟩ := hcut
    have P3 : Hid (Pw w r (.slice (some ⟨g, 0, none⟩) L.length cap) L a 0 wc) := by rw [hw3]; exact (P2.out.alloc _).below ((Below.refl _ _).drew)
    have B3 : Hid (Bx wc w.heap.size 57 #[.int .i64 0, .string ⟨#[]⟩, .slice none 0 0]) := by rw [hw3]; exact (B2.out.below (Lx.below_box W2 _)).below ((Below.refl _ _).drew)
    have T3 : Hid (Bx wc W2.heap.size 57 #[.int .i64 1, .string (tx x.2.1), .slice none 0 0]) := by rw [hw3]; exact (Bx.new W2 _ _).below ((Below.refl _ _).drew)
    clear hw3 l0 l1 m1 e0 e1 q1 P2 B2
    obtain ⟨⟨c0, c1, c2⟩, f0, f1, f2⟩ := P3.out.pd.box.three
    have hst := P3.out.pd.stepI (by omega)
    have P4 := hide (P3.out.then hst.1 hst.2)
    have B4 := hide (B3.out.fr hst.2 (by omega))
    have T4 := hide (T3.out.fr hst.2 (by omega))
    have HS := hide (sign_any P4.out.pd [40])
    clear hst P3 B3 T3
    go_wp2_with fail
    refine Calls.mono HS.out ?_
    rintro y w5 ⟨rfl, n5, hw5⟩
    have P5 : Hid (Pw w r (.slice (some ⟨g, 0, none⟩) L.length cap) L (a + 1) 0 w5) := by rw [hw5]; exact P4.out.below (Sy.below_drewN _ n5)
    have B5 : Hid (Bx w5 w.heap.size 57 #[.int .i64 0, .string ⟨#[]⟩, .slice none 0 0]) := by rw [hw5]; exact B4.out.below (Sy.below_drewN _ n5)
    have T5 : Hid (Bx w5 W2.heap.size 57 #[.int .i64 1, .string (tx x.2.1), .slice none 0 0]) := by rw [hw5]; exact T4.out.below (Sy.below_drewN _ n5)
    clear hw5 HS P4 B4 T4 c0 c1 c2 f0 f1 f2
    obtain ⟨⟨c0, c1, c2⟩, f0, f1, f2⟩ := P5.out.pd.box.three
    obtain ⟨⟨d0, d1, d2⟩, g0, g1, g2⟩ := B5.out.three
    obtain ⟨⟨t0, t1, t2⟩, i0, i1, i2⟩ := T5.out.three
    cases hsg : signB [40] (L.drop (a + 1))
    · rw [if_neg (by rw [hsg]; decide)] at HA
      go_wp2_with fail
      refine bodyPost_ret (results_cell_row rfl _ _ w.heap.size 57 _ (0, 0) _ rfl (((B5.out.set 0 _).set 1 _).set 2 _) Try.underlying57 rfl sz33) rfl ?_
      have q1 := P5.out.put3 H.out w.heap.size (Nat.le_refl _) (.int .i64 1) (.string (tx x.2.1)) (.slice none 0 0)
      rw [HA.out]
      exact ⟨⟨_, a + 1, rfl, ⟨_, rfl, isTs_nil _⟩, q1.pd, rfl, by omega, by omega⟩, q1.fr⟩
    · rw [if_pos hsg] at HA
      have hlt2 : a + 1 < L.length := by
        by_cases hl2 : a + 1 < L.length
        · exact hl2
        · rw [drop_end L (a + 1) (by omega)] at hsg
          cases hsg
      have hst := P5.out.pd.stepI (by omega)
      have P6 := hide (P5.out.then hst.1 hst.2)
      have B6 := hide (B5.out.fr hst.2 (by omega))
      have T6 := hide (T5.out.fr hst.2 (by omega))
      have LO : Hid (Lo w r (.slice (some ⟨g, 0, none⟩) L.length cap) L a w.heap.size W2.heap.size (tx x.2.1) (atomL termW (L.drop a)) (w5.setCell ⟨r, 1, none⟩ (.int .i64 (((a + 1 : Nat) : Int) + 1))) (a + 1 + 1) 0 (.slice none 0 0) 0 []) :=
        ⟨P6.out, B6.out, T6.out, ⟨by simp, .inl ⟨rfl, rfl⟩⟩, by omega, by omega, Or.inl ⟨rfl, by omega, by omega, by omega, [], rfl, rfl, (joinR_nil _).symm⟩⟩
      clear hst P5 B5 T5 hsg P6 B6 T6
      go_wp2_with fail
      go_loopw [] (fun wr => ∃ a' e y n xs, Hid (Lo w r (.slice (some ⟨g, 0, none⟩) L.length cap) L a w.heap.size W2.heap.size (tx x.2.1) (atomL termW (L.drop a)) wr a' e y n xs)) (fun wr => ms r L.length wr)
      case atStart => exact ⟨_, _, _, _, _, LO⟩
      case round =>
        obtain ⟨a', e, y, n, xs, HO⟩ := hrel
        clear LO c0 c1 c2 f0 f1 f2 d0 d1 d2 g0 g1 g2 t0 t1 t2 i0 i1 i2
        obtain ⟨⟨c0, c1, c2⟩, f0, f1, f2⟩ := HO.out.pw.pd.box.three
        obtain ⟨⟨d0, d1, d2⟩, g0, g1, g2⟩ := HO.out.box.three
        obtain ⟨⟨t0, t1, t2⟩, i0, i1, i2⟩ := HO.out.lit.three
        obtain ⟨hyl, aoy, capy, rfl⟩ := own_len HO.out.row
        rcases HO.out.st with ⟨rfl, ha2, haL, hn4, ts, hts, hxs, hjo⟩ | ⟨c, he, hRc⟩
        · have HT := hide (rterm_any HO.out.pw.pd HL.out)
          obtain ⟨R, hR⟩ : ∃ R, Hid (oneL termW (L.drop a') = R) := ⟨_, rfl⟩
          rw [hR.out] at HT
          go_wp2_with fail
          refine Calls.mono HT.out ?_
          rintro z w6 ⟨hz, hf6⟩
          have B6 := hide (HO.out.box.fr hf6 (by omega))
          have T6 := hide (HO.out.lit.fr hf6 (by omega))
          have O6 := hide (HO.out.pw.pd.kept hf6 HO.out.row (by decide))
          have HTS := hide hts
          have HXS := hide hxs
          have HJO := hide hjo
          clear hts hxs hjo
          cases R with
          | error c =>
            obtain ⟨t, a6, rfl, hp6, ha6⟩ := hz
            have P6 := hide (HO.out.pw.then hp6 hf6)
            have HRe : Hid (atomL termW (L.drop a) = .error false) := by
              have hcf : c = false := by
                have := hR.out
                unfold oneL at this
                split at this
                · cases this; rfl
                · cases this
              rw [HA.out, HJO.out, listL_err hR.out, hcf]
              rfl
            obtain ⟨g7, cap7, w7, hap, hst7, HL7⟩ := Lo_push (b0 := w.heap.size) (lb := W2.heap.size) H.out (by omega) (by omega) (P6.out.alloc (.cells #[.int .i64 t.1, .string t.2.1, .int .i64 t.2.2] 88)) (B6.out.below (Lx.below_box _ _)) (T6.out.below (Lx.below_box _ _)) (O6.out.alloc _) hn4 t
            have l2 := fun o => (T6.out.below (Lx.below_box w6 o)).three.1.2.2
            have p2 := fun o => (P6.out.alloc o).pd.box.three.1.2.2
            obtain ⟨s7, s8⟩ := hst7
            simp only [Vl.tv]
            clear HT hp6 hf6 HJO HXS c0 c1 c2 f0 f1 f2 d0 d1 d2 g0 g1 g2 t0 t1 t2 i0 i1 i2 O6 T6 B6
            have hap' : ∀ ty, (Builtin.append_ #[55, 55] ty #[.slice aoy n capy, .slice (some ⟨w6.heap.size + 1, 0, none⟩) 1 1]).run Try.prog ((w6.alloc (.cells #[.int .i64 t.1, .string t.2.1, .int .i64 t.2.2] 88)).alloc (.cells #[.int .i64 t.1, .string t.2.1, .int .i64 t.2.2] 88)) = .ok (.slice (some ⟨g7, 0, none⟩) (n + 1) cap7) w7 := fun ty => by
              have := hap ty
              simpa using this
            go_wp2_with (at_builtin; refine wpList_append_run _ rfl (.tmp 90) (.tmp 92) 55 55 rfl _ _ rfl rfl (hap' _) ?_)
            have HS := hide (sign_any HL7.out.1.pd [44])
            clear hap hap' l2 p2 s7 s8
            refine Calls.mono HS.out ?_
            rintro z8 w8 ⟨rfl, n8, hw8⟩
            have LO8 : Hid (Lo w r (.slice (some ⟨g, 0, none⟩) L.length cap) L a w.heap.size W2.heap.size (tx x.2.1) (atomL termW (L.drop a)) w8 a6 4 (.slice (some ⟨g7, 0, none⟩) (n + 1) cap7) (n + 1) (xs ++ [.int .i64 t.1, .string t.2.1, .int .i64 t.2.2])) := by
              rw [hw8]
              have hb := Sy.below_drewN (w7.setCell ⟨W2.heap.size, 2, none⟩ (.slice (some ⟨g7, 0, none⟩) (n + 1) cap7)) n8
              exact ⟨HL7.out.1.below hb, HL7.out.2.1.below hb, HL7.out.2.2.1.below hb, HL7.out.1.pd.kept (Fr.of_below hb) HL7.out.2.2.2 (by decide), by omega, by omega, Or.inr ⟨false, rfl, HRe.out⟩⟩
            clear HL7 HS hw8
            obtain ⟨⟨c0, c1, c2⟩, f0, f1, f2⟩ := LO8.out.pw.pd.box.three
            obtain ⟨⟨d0, d1, d2⟩, g0, g1, g2⟩ := LO8.out.box.three
            obtain ⟨⟨t0, t1, t2⟩, i0, i1, i2⟩ := LO8.out.lit.three
            cases hsg : signB [44] (L.drop (a6))
            · have HEa := hide (eat_err LO8.out.pw.pd (by decide) [41])
              go_wp2_with fail
              refine Calls.mono HEa.out ?_
              rintro z w9 ⟨rfl, hw9⟩
              have hw9' := hw9.symm
              subst hw9'
              clear hw9
              go_wp2_with fail
              refine bodyPost_ret (results_cell_row rfl _ _ w.heap.size 57 _ (0, 0) _ rfl (((LO8.out.box.set 0 _).set 1 _).set 2 _) Try.underlying57 rfl sz33) rfl ?_
              have q1 := LO8.out.pw.put3 H.out w.heap.size (Nat.le_refl _) (.int .i64 1) (.string (tx x.2.1)) (.slice (some ⟨g7, 0, none⟩) (n + 1) cap7)
              rw [HRe.out]
              exact ⟨⟨_, a6, rfl, ⟨_, _, _, _, _, rfl⟩, q1.pd, LO8.out.le⟩, q1.fr⟩
            · have hl9 := sign_lt hsg
              have hst := LO8.out.pw.pd.stepI (by omega)
              have LO9 : Hid (Lo w r (.slice (some ⟨g, 0, none⟩) L.length cap) L a w.heap.size W2.heap.size (tx x.2.1) (atomL termW (L.drop a)) (w8.setCell ⟨r, 1, none⟩ (.int .i64 (((a6 : Nat) : Int) + 1))) (a6 + 1) 4 (.slice (some ⟨g7, 0, none⟩) (n + 1) cap7) (n + 1) (xs ++ [.int .i64 t.1, .string t.2.1, .int .i64 t.2.2])) :=
                ⟨LO8.out.pw.then hst.1 hst.2, LO8.out.box.fr hst.2 (by omega), LO8.out.lit.fr hst.2 (by omega), LO8.out.pw.pd.kept hst.2 LO8.out.row (by decide), by omega, by omega, Or.inr ⟨false, rfl, HRe.out⟩⟩
              clear hst
              go_wp2_with fail
              go_roundw
              case rel => exact ⟨_, _, _, _, _, LO9⟩
              case measure =>
                rw [ms_err LO9.out.pw.pd (by decide), ms_ok HO.out.pw.pd]
                omega
          | ok p =>
            obtain ⟨t, rest⟩ := p
            obtain ⟨rfl, hp6, hlt6⟩ := hz
            have P6 := hide (HO.out.pw.then hp6 hf6)
            by_cases hfull : n = 4
            · have gf : ((n : Int) == 4) = true := by simp; omega
              have HRe : Hid (atomL termW (L.drop a) = .error true) := by
                have h0 : 4 - ts.length = 0 := by have := HTS.out; omega
                rw [HA.out, HJO.out, h0, listL_zero hR.out]
                rfl
              have hsz6 := P6.out.fr.size
              have TB : Hid (Bx (w6.alloc (.cells #[.int .i64 t.1, .string t.2.1, .int .i64 t.2.2] 88)) w6.heap.size 88 #[.int .i64 t.1, .string t.2.1, .int .i64 t.2.2]) := Bx.new w6 _ _
              have HB := hide (bad_any (P6.out.alloc (.cells #[.int .i64 t.1, .string t.2.1, .int .i64 t.2.2] 88)).pd 8)
              have l2 := fun o => (T6.out.below (Lx.below_box w6 o)).three.1.2.2
              have p2 := fun o => (P6.out.alloc o).pd.box.three.1.2.2
              have B6' := hide (B6.out.below (Lx.below_box w6 (.cells #[.int .i64 t.1, .string t.2.1, .int .i64 t.2.2] 88)))
              have T6' := hide (T6.out.below (Lx.below_box w6 (.cells #[.int .i64 t.1, .string t.2.1, .int .i64 t.2.2] 88)))
              have O6' := hide (O6.out.alloc (.cells #[.int .i64 t.1, .string t.2.1, .int .i64 t.2.2] 88))
              simp only [Vl.tv]
              clear HT hp6 hf6 HJO HXS c0 c1 c2 f0 f1 f2 d0 d1 d2 g0 g1 g2 t0 t1 t2 i0 i1 i2 O6 T6 B6 hfull
              go_wp2_with fail
              refine Calls.mono HB.out ?_
              rintro zb wb ⟨rfl, hpb, hfb⟩
              simp only [if_true] at hpb
              have Pb := hide ((P6.out.alloc (.cells #[.int .i64 t.1, .string t.2.1, .int .i64 t.2.2] 88)).then hpb hfb)
              have Bb := hide (B6'.out.fr hfb (by omega))
              have Tb := hide (T6'.out.fr hfb (by omega))
              have Ob := hide ((P6.out.alloc (.cells #[.int .i64 t.1, .string t.2.1, .int .i64 t.2.2] 88)).pd.kept hfb O6'.out (by decide))
              obtain ⟨⟨v0, v1, v2⟩, _, _, _⟩ := (TB.out.fr hfb (by omega)).three
              obtain ⟨g7, cap7, w7, hap, hst7, HL7⟩ := Lo_push (b0 := w.heap.size) (lb := W2.heap.size) H.out (by omega) (by omega) Pb.out Bb.out Tb.out Ob.out hn4 t
              obtain ⟨s7, s8⟩ := hst7
              have lb2 := Tb.out.three.1.2.2
              clear hpb hfb HB TB Bb Tb Ob B6' T6' O6' l2 p2
              go_wp2_with (at_builtin; refine wpList_append_run _ rfl (.tmp 90) (.tmp 92) 55 55 rfl _ _ rfl rfl (hap _) ?_)
              have HS := hide (sign_any HL7.out.1.pd [44])
              clear hap s7 s8 lb2 v0 v1 v2
              refine Calls.mono HS.out ?_
              rintro z8 w8 ⟨rfl, n8, hw8⟩
              have LO8 : Hid (Lo w r (.slice (some ⟨g, 0, none⟩) L.length cap) L a w.heap.size W2.heap.size (tx x.2.1) (atomL termW (L.drop a)) w8 (a' + 1) 8 (.slice (some ⟨g7, 0, none⟩) (n + 1) cap7) (n + 1) (xs ++ [.int .i64 t.1, .string t.2.1, .int .i64 t.2.2])) := by
                rw [hw8]
                have hb := Sy.below_drewN (w7.setCell ⟨W2.heap.size, 2, none⟩ (.slice (some ⟨g7, 0, none⟩) (n + 1) cap7)) n8
                exact ⟨HL7.out.1.below hb, HL7.out.2.1.below hb, HL7.out.2.2.1.below hb, HL7.out.1.pd.kept (Fr.of_below hb) HL7.out.2.2.2 (by decide), by omega, by omega, Or.inr ⟨true, rfl, HRe.out⟩⟩
              clear HL7 HS hw8
              obtain ⟨⟨c0, c1, c2⟩, f0, f1, f2⟩ := LO8.out.pw.pd.box.three
              obtain ⟨⟨d0, d1, d2⟩, g0, g1, g2⟩ := LO8.out.box.three
              obtain ⟨⟨t0, t1, t2⟩, i0, i1, i2⟩ := LO8.out.lit.three
              cases hsg : signB [44] (L.drop (a' + 1))
              · have HEa := hide (eat_err LO8.out.pw.pd (by decide) [41])
                go_wp2_with fail
                refine Calls.mono HEa.out ?_
                rintro z w9 ⟨rfl, hw9⟩
                have hw9' := hw9.symm
                subst hw9'
                clear hw9
                go_wp2_with fail
                refine bodyPost_ret (results_cell_row rfl _ _ w.heap.size 57 _ (0, 0) _ rfl (((LO8.out.box.set 0 _).set 1 _).set 2 _) Try.underlying57 rfl sz33) rfl ?_
                have q1 := LO8.out.pw.put3 H.out w.heap.size (Nat.le_refl _) (.int .i64 1) (.string (tx x.2.1)) (.slice (some ⟨g7, 0, none⟩) (n + 1) cap7)
                rw [HRe.out]
                exact ⟨⟨_, a' + 1, rfl, ⟨_, _, _, _, _, rfl⟩, q1.pd, LO8.out.le⟩, q1.fr⟩
              · have hl9 := sign_lt hsg
                have hst := LO8.out.pw.pd.stepI (by omega)
                have LO9 : Hid (Lo w r (.slice (some ⟨g, 0, none⟩) L.length cap) L a w.heap.size W2.heap.size (tx x.2.1) (atomL termW (L.drop a)) (w8.setCell ⟨r, 1, none⟩ (.int .i64 (((a' + 1 : Nat) : Int) + 1))) (a' + 1 + 1) 8 (.slice (some ⟨g7, 0, none⟩) (n + 1) cap7) (n + 1) (xs ++ [.int .i64 t.1, .string t.2.1, .int .i64 t.2.2])) :=
                  ⟨LO8.out.pw.then hst.1 hst.2, LO8.out.box.fr hst.2 (by omega), LO8.out.lit.fr hst.2 (by omega), LO8.out.pw.pd.kept hst.2 LO8.out.row (by decide), by omega, by omega, Or.inr ⟨true, rfl, HRe.out⟩⟩
                clear hst
                go_wp2_with fail
                go_roundw
                case rel => exact ⟨_, _, _, _, _, LO9⟩
                case measure =>
                  refine Nat.lt_of_le_of_lt (Nat.le_of_eq (ms_err LO9.out.pw.pd (by decide))) ?_
                  rw [ms_ok HO.out.pw.pd]
                  omega
            · have gf : ((n : Int) == 4) = false := by simp; omega
              have hrest := one_rest hR.out
              subst hrest
              obtain ⟨g7, cap7, w7, hap, hst7, HL7⟩ := Lo_push (b0 := w.heap.size) (lb := W2.heap.size) H.out (by omega) (by omega) (P6.out.alloc (.cells #[.int .i64 t.1, .string t.2.1, .int .i64 t.2.2] 88)) (B6.out.below (Lx.below_box _ _)) (T6.out.below (Lx.below_box _ _)) (O6.out.alloc _) hn4 t
              have l2 := fun o => (T6.out.below (Lx.below_box w6 o)).three.1.2.2
              have p2 := fun o => (P6.out.alloc o).pd.box.three.1.2.2
              obtain ⟨s7, s8⟩ := hst7
              simp only [Vl.tv]
              clear HT hp6 hf6 c0 c1 c2 f0 f1 f2 d0 d1 d2 g0 g1 g2 t0 t1 t2 i0 i1 i2 O6 T6 B6
              have hap' : ∀ ty, (Builtin.append_ #[55, 55] ty #[.slice aoy n capy, .slice (some ⟨w6.heap.size + 1, 0, none⟩) 1 1]).run Try.prog ((w6.alloc (.cells #[.int .i64 t.1, .string t.2.1, .int .i64 t.2.2] 88)).alloc (.cells #[.int .i64 t.1, .string t.2.1, .int .i64 t.2.2] 88)) = .ok (.slice (some ⟨g7, 0, none⟩) (n + 1) cap7) w7 := fun ty => by
                have := hap ty
                simpa using this
              go_wp2_with (at_builtin; refine wpList_append_run _ rfl (.tmp 90) (.tmp 92) 55 55 rfl _ _ rfl rfl (hap' _) ?_)
              have HS := hide (sign_any HL7.out.1.pd [44])
              clear hap hap' l2 p2 s7 s8
              refine Calls.mono HS.out ?_
              rintro z8 w8 ⟨rfl, n8, hw8⟩
              obtain ⟨P8, B8, T8, O8⟩ : Hid (Pw w r (.slice (some ⟨g, 0, none⟩) L.length cap) L (a' + 1) 0 w8) ∧ Hid (Bx w8 w.heap.size 57 #[.int .i64 0, .string ⟨#[]⟩, .slice none 0 0]) ∧ Hid (Bx w8 W2.heap.size 57 #[.int .i64 1, .string (tx x.2.1), .slice (some ⟨g7, 0, none⟩) (n + 1) cap7]) ∧ Hid (w8.ownsRow w.heap.size 88 3 (.slice (some ⟨g7, 0, none⟩) (n + 1) cap7) (n + 1) (xs ++ [.int .i64 t.1, .string t.2.1, .int .i64 t.2.2])) := by
                rw [hw8]
                have hb := Sy.below_drewN (w7.setCell ⟨W2.heap.size, 2, none⟩ (.slice (some ⟨g7, 0, none⟩) (n + 1) cap7)) n8
                exact ⟨HL7.out.1.below hb, HL7.out.2.1.below hb, HL7.out.2.2.1.below hb, HL7.out.1.pd.kept (Fr.of_below hb) HL7.out.2.2.2 (by decide)⟩
              clear HL7 HS hw8
              obtain ⟨⟨c0, c1, c2⟩, f0, f1, f2⟩ := P8.out.pd.box.three
              obtain ⟨⟨d0, d1, d2⟩, g0, g1, g2⟩ := B8.out.three
              obtain ⟨⟨t0, t1, t2⟩, i0, i1, i2⟩ := T8.out.three
              obtain ⟨m, hm⟩ : ∃ m, 4 - ts.length = m + 1 := ⟨4 - ts.length - 1, by have := HTS.out; omega⟩
              have hsk := sign_take HL.out (a' + 1) [44] (by decide) rfl
              cases hsg : signB [44] (L.drop (a' + 1))
              · rw [hsg] at hsk
                have HRe : Hid (atomL termW (L.drop a) = if signB [41] (L.drop (a' + 1)) = true then .ok ((1, tx x.2.1, ts ++ [t]), L.drop (a' + 2)) else .error false) := by
                  show _ = _
                  rw [HA.out, HJO.out, hm, listL_last hR.out hsk.symm, sign_take HL.out (a' + 1) [41] (by decide) rfl]
                  simp only [joinR, drop_tail]
                have HEa := hide (eat_any P8.out.pd [41] (by omega))
                clear HA HJO hsk hm
                go_wp2_with fail
                refine Calls.mono HEa.out ?_
                rintro z w9 ⟨rfl, ⟨a9, hp9, ha9, hb9⟩, hf9⟩
                have P9 := hide (P8.out.then hp9 hf9)
                have B9 := hide (B8.out.fr hf9 (by omega))
                have T9 := hide (T8.out.fr hf9 (by omega))
                have O9 := hide (P8.out.pd.kept hf9 O8.out (by decide))
                clear hp9 hf9 c0 c1 c2 f0 f1 f2 d0 d1 d2 g0 g1 g2 t0 t1 t2 i0 i1 i2 HEa
                obtain ⟨⟨d0, d1, d2⟩, g0, g1, g2⟩ := B9.out.three
                obtain ⟨⟨t0, t1, t2⟩, i0, i1, i2⟩ := T9.out.three
                go_wp2_with fail
                refine bodyPost_ret (results_cell_row rfl _ _ w.heap.size 57 _ (0, 0) _ rfl (((B9.out.set 0 _).set 1 _).set 2 _) Try.underlying57 rfl sz33) rfl ?_
                have q1 := P9.out.put3 H.out w.heap.size (Nat.le_refl _) (.int .i64 1) (.string (tx x.2.1)) (.slice (some ⟨g7, 0, none⟩) (n + 1) cap7)
                have q2 := own_put (own_put (own_put O9.out B9.out (by decide) 0 (.int .i64 1)) (B9.out.set 0 _) (by decide) 1 (.string (tx x.2.1))) ((B9.out.set 0 _).set 1 _) (by decide) 2 (.slice (some ⟨g7, 0, none⟩) (n + 1) cap7)
                rw [HRe.out]
                cases hsh : signB [41] (L.drop (a' + 1))
                · rw [if_neg (by decide)]
                  have q3 := q1.pd
                  rw [hsh, if_neg (by decide)] at q3
                  exact ⟨⟨_, a9, rfl, ⟨_, _, _, _, _, rfl⟩, q3, by omega⟩, q1.fr⟩
                · rw [if_pos rfl]
                  have q3 := q1.pd
                  rw [hsh, if_pos rfl] at q3
                  have h9 := ha9 hsh
                  have hl9 := sign_lt hsh
                  subst h9
                  refine ⟨⟨_, a' + 1 + 1, rfl, ⟨_, rfl, ?_⟩, q3, rfl, by omega, by omega⟩, q1.fr⟩
                  have e1 : Vl.cellsT (ts ++ [t]) = Vl.cellsT ts ++ [.int .i64 t.1, .string t.2.1, .int .i64 t.2.2] := by rw [Vl.cellsT_append]; rfl
                  show World.ownsRow _ _ _ _ _ _ _
                  rw [e1, List.length_append, ← HXS.out, ← HTS.out]
                  exact Vl.own_zero q2
              · rw [hsg] at hsk
                have hl9 := sign_lt hsg
                have hst := P8.out.pd.stepI (by omega)
                have LO9 : Hid (Lo w r (.slice (some ⟨g, 0, none⟩) L.length cap) L a w.heap.size W2.heap.size (tx x.2.1) (atomL termW (L.drop a)) (w8.setCell ⟨r, 1, none⟩ (.int .i64 (((a' + 1 : Nat) : Int) + 1))) (a' + 1 + 1) 0 (.slice (some ⟨g7, 0, none⟩) (n + 1) cap7) (n + 1) (xs ++ [.int .i64 t.1, .string t.2.1, .int .i64 t.2.2])) := by
                  refine ⟨P8.out.then hst.1 hst.2, B8.out.fr hst.2 (by omega), T8.out.fr hst.2 (by omega), P8.out.pd.kept hst.2 O8.out (by decide), by omega, by omega, Or.inl ⟨rfl, by omega, by omega, by omega, ts ++ [t], ?_, ?_, ?_⟩⟩
                  · rw [List.length_append, ← HTS.out]; rfl
                  · rw [Vl.cellsT_append, HXS.out]; rfl
                  · have hm2 : 4 - (ts ++ [t]).length = m := by simp; omega
                    rw [HJO.out, hm, hm2, listL_more hR.out hsk.symm, joinR_joinR, takeR, if_pos hsk.symm, drop_tail]
                clear hst hsk hm HA HJO hR HXS HTS
                go_wp2_with fail
                go_roundw
                case rel => exact ⟨_, _, _, _, _, LO9⟩
                case measure =>
                  refine Nat.lt_of_le_of_lt (Nat.le_of_eq (ms_ok LO9.out.pw.pd)) ?_
                  rw [ms_ok HO.out.pw.pd]
                  omega
        · have he0 : ((e : Int) == 0) = false := by rw [he]; cases c <;> rfl
          have HEa := hide (eat_err HO.out.pw.pd (by rw [he]; cases c <;> decide) [41])
          have HRc := hide hRc
          clear hRc
          go_wp2_with fail
          refine Calls.mono HEa.out ?_
          rintro z w7 ⟨rfl, hw7⟩
          have hw7' := hw7.symm
          subst hw7'
          clear hw7
          go_wp2_with fail
          refine bodyPost_ret (results_cell_row rfl _ _ w.heap.size 57 _ (0, 0) _ rfl (((HO.out.box.set 0 _).set 1 _).set 2 _) Try.underlying57 rfl sz33) rfl ?_
          have q1 := HO.out.pw.put3 H.out w.heap.size (Nat.le_refl _) (.int .i64 1) (.string (tx x.2.1)) (.slice aoy n capy)
          rw [HRc.out]
          have q2 := q1.pd
          rw [he] at q2
          exact ⟨⟨_, a', rfl, ⟨_, _, _, _, _, rfl⟩, q2, HO.out.le⟩, q1.fr⟩

theorem atom_any {w : World} {r : Nat} {v : Value} {L : List Wd} {a : Nat} (h : Pd w r v L a 0) (hL : ∀ x ∈ L, OkW x) (ha : a ≤ L.length) :
    Calls Try.prog 26 #[.pointer (some ⟨r, 0, none⟩)] w fun x w' => Lr (atomL termW (L.drop a)) r v L a w x w' := by
  by_cases hl : a < L.length
  · by_cases h1 : L[a].1 = 1
    · exact atom_some h hL hl h1
    · have e : atomL termW (L.drop a) = .error false := by rw [atomL, drop_next L a hl, if_neg h1]
      rw [e]
      exact atom_none h ha (.inr ⟨hl, h1⟩)
  · have e : atomL termW (L.drop a) = .error false := by rw [atomL, drop_end L a (by omega)]; rfl
    rw [e]
    exact atom_none h ha (.inl (by omega))
end Go.Proofs.Ytdmhajeaphnebaa.Rp
namespace Go.Proofs.Ytdmhajeaphnebaa.Rp
open Go.RowKit
open Lx (Wd tx cellsW wpList_append_run)
open Vl (Tm Fr)
open Sy

theorem eqr (s x : List UInt8) : ((tx x).toList == s) = decide (x = s) := by
  rw [Bool.eq_iff_iff]
  simp [Lib.toList_data, tx]

set_option maxRecDepth 10000 in
set_option maxHeartbeats 2000000 in
theorem compare_any (x : List UInt8) (w : World) :
    Calls Try.prog 39 #[.string (tx x)] w fun e w' => e = .returned (.int .i64 ((kindOf x : Nat) : Int)) ∧ w' = w := by
  have r0 := eqr [61] x
  have r1 := eqr [33, 61] x
  have r2 := eqr [60] x
  have r3 := eqr [60, 61] x
  obtain ⟨k, hk⟩ : ∃ k, Hid (kindOf x = k) := ⟨_, rfl⟩
  rw [hk.out]
  have hk2 := hk.out
  clear hk
  unfold kindOf at hk2
  by_cases h0 : x = [61]
  · rw [if_pos h0] at hk2
    rw [decide_eq_true h0] at r0
    have HK := hide hk2
    clear hk2 h0
    go_enter Try.func39, Try.ntmps39
    go_wp2_with fail
    go_ret
    rw [← HK.out]
    exact ⟨rfl, rfl⟩
  by_cases h1 : x = [33, 61]
  · rw [if_neg h0, if_pos h1] at hk2
    rw [decide_eq_false h0] at r0
    rw [decide_eq_true h1] at r1
    have HK := hide hk2
    clear hk2 h0 h1
    go_enter Try.func39, Try.ntmps39
    go_wp2_with fail
    go_ret
    rw [← HK.out]
    exact ⟨rfl, rfl⟩
  by_cases h2 : x = [60]
  · rw [if_neg h0, if_neg h1, if_pos h2] at hk2
    rw [decide_eq_false h0] at r0
    rw [decide_eq_false h1] at r1
    rw [decide_eq_true h2] at r2
    have HK := hide hk2
    clear hk2 h0 h1 h2
    go_enter Try.func39, Try.ntmps39
    go_wp2_with fail
    go_ret
    rw [← HK.out]
    exact ⟨rfl, rfl⟩
  by_cases h3 : x = [60, 61]
  · rw [if_neg h0, if_neg h1, if_neg h2, if_pos h3] at hk2
    rw [decide_eq_false h0] at r0
    rw [decide_eq_false h1] at r1
    rw [decide_eq_false h2] at r2
    rw [decide_eq_true h3] at r3
    have HK := hide hk2
    clear hk2 h0 h1 h2 h3
    go_enter Try.func39, Try.ntmps39
    go_wp2_with fail
    go_ret
    rw [← HK.out]
    exact ⟨rfl, rfl⟩
  · rw [if_neg h0, if_neg h1, if_neg h2, if_neg h3] at hk2
    rw [decide_eq_false h0] at r0
    rw [decide_eq_false h1] at r1
    rw [decide_eq_false h2] at r2
    rw [decide_eq_false h3] at r3
    have HK := hide hk2
    clear hk2 h0 h1 h2 h3
    go_enter Try.func39, Try.ntmps39
    go_wp2_with fail
    go_ret
    rw [← HK.out]
    exact ⟨rfl, rfl⟩
end Go.Proofs.Ytdmhajeaphnebaa.Rp
namespace Go.Proofs.Ytdmhajeaphnebaa.Rp
open Go.RowKit
open Lx (Wd tx cellsW wpList_append_run)
open Vl (Tm Fr)
open Sy

set_option maxRecDepth 10000 in
set_option maxHeartbeats 4000000 in
theorem literal_not {w : World} {r : Nat} {v : Value} {L : List Wd} {a : Nat} (h : Pd w r v L a 0) (hL : ∀ x ∈ L, OkW x) (hs : signB [33] (L.drop a) = true) :
    Calls Try.prog 28 #[.pointer (some ⟨r, 0, none⟩)] w fun x w' => Lr (litL (L.drop a)) r v L a w x w' := by
  have hrlt := h.lt
  have hlt := sign_lt hs
  have hlen := h.len
  have H := hide h
  have HA : Hid (litL (L.drop a) = match atomL termW (L.drop (a + 1)) with
    | .error e => .error e
    | .ok (l, r) => .ok ((2, l.2), r)) := by
    show _ = _
    rw [sign_take hL a [33] (by decide) rfl] at hs
    rw [litL, if_pos hs, drop_tail]
    cases atomL termW (L.drop (a + 1)) <;> rfl
  have HL := hide hL
  have P1 := hide (Pw.refl h |>.alloc (.cells #[.int .i64 0, .string ⟨#[]⟩, .slice none 0 0] 57))
  have B1 := hide (Bx.new w #[.int .i64 0, .string ⟨#[]⟩, .slice none 0 0] 57)
  have HS := hide (sign_any P1.out.pd [33])
  clear h hL
  go_enter Try.func28, Try.ntmps28
  go_wp2_with fail
  refine Calls.mono HS.out ?_
  rintro z1 w1 ⟨rfl, n1, hw1⟩
  rw [hs]
  have P2 : Hid (Pw w r v L a 0 w1) := by rw [hw1]; exact P1.out.below (Sy.below_drewN _ n1)
  have B2 : Hid (Bx w1 w.heap.size 57 #[.int .i64 0, .string ⟨#[]⟩, .slice none 0 0]) := by rw [hw1]; exact B1.out.below (Sy.below_drewN _ n1)
  clear hw1 HS P1 B1
  obtain ⟨⟨c0, c1, c2⟩, f0, f1, f2⟩ := P2.out.pd.box.three
  have hst := P2.out.pd.stepI (by omega)
  have P3 := hide (P2.out.then hst.1 hst.2)
  have B3 := hide (B2.out.fr hst.2 (by omega))
  have HT := hide (atom_any P3.out.pd HL.out (by omega))
  clear hst P2 B2
  obtain ⟨R, hR⟩ : ∃ R, Hid (atomL termW (L.drop (a + 1)) = R) := ⟨_, rfl⟩
  rw [hR.out] at HT HA
  go_wp2_with fail
  refine Calls.mono HT.out ?_
  rintro z4 w4 ⟨hz, hf4⟩
  have B4 := hide (B3.out.fr hf4 (by omega))
  cases R with
  | error c =>
    obtain ⟨y, a4, rfl, ⟨k, s, ao, n, cap, rfl⟩, hp4, ha4⟩ := hz
    have P4 := hide (P3.out.then hp4 hf4)
    clear HT hp4 hf4 c0 c1 c2 f0 f1 f2 P3 B3
    have P5 := hide (P4.out.alloc (.cells #[.int .i64 2, .string s, .slice ao n cap] 57))
    have B5 := hide (B4.out.below (Lx.below_box w4 (.cells #[.int .i64 2, .string s, .slice ao n cap] 57)))
    obtain ⟨⟨d0, d1, d2⟩, g0, g1, g2⟩ := B5.out.three
    go_wp2_with fail
    refine bodyPost_ret (results_cell_row rfl _ _ w.heap.size 57 _ (0, 0) _ rfl (((B5.out.set 0 _).set 1 _).set 2 _) Try.underlying57 rfl sz33) rfl ?_
    have q1 := P5.out.put3 H.out w.heap.size (Nat.le_refl _) (.int .i64 2) (.string s) (.slice ao n cap)
    rw [HA.out]
    exact ⟨⟨_, a4, rfl, ⟨_, _, _, _, _, rfl⟩, q1.pd, ha4⟩, q1.fr⟩
  | ok p =>
    obtain ⟨⟨lk, ln, lt⟩, rest⟩ := p
    obtain ⟨y, a4, rfl, ⟨va, rfl, hts⟩, hp4, hd4, ha4, hb4⟩ := hz
    have P4 := hide (P3.out.then hp4 hf4)
    have HTS := hide hts
    clear HT hp4 hf4 c0 c1 c2 f0 f1 f2 P3 B3
    obtain ⟨_, ao, cap, rfl⟩ := own_len hts
    clear hts
    have P5 := hide (P4.out.alloc (.cells #[.int .i64 2, .string ln, .slice ao lt.length cap] 57))
    have B5 := hide (B4.out.below (Lx.below_box w4 (.cells #[.int .i64 2, .string ln, .slice ao lt.length cap] 57)))
    have O5 := hide (HTS.out.alloc (.cells #[.int .i64 2, .string ln, .slice ao lt.length cap] 57))
    obtain ⟨⟨d0, d1, d2⟩, g0, g1, g2⟩ := B5.out.three
    have HD := hide hd4
    clear hd4
    go_wp2_with fail
    refine bodyPost_ret (results_cell_row rfl _ _ w.heap.size 57 _ (0, 0) _ rfl (((B5.out.set 0 _).set 1 _).set 2 _) Try.underlying57 rfl sz33) rfl ?_
    have q1 := P5.out.put3 H.out w.heap.size (Nat.le_refl _) (.int .i64 2) (.string ln) (.slice ao lt.length cap)
    have q2 := own_put (own_put (own_put O5.out B5.out (by decide) 0 (.int .i64 2)) (B5.out.set 0 _) (by decide) 1 (.string ln)) ((B5.out.set 0 _).set 1 _) (by decide) 2 (.slice ao lt.length cap)
    rw [HA.out]
    exact ⟨⟨_, a4, rfl, ⟨_, rfl, q2⟩, q1.pd, HD.out, by omega, hb4⟩, q1.fr⟩
end Go.Proofs.Ytdmhajeaphnebaa.Rp
namespace Go.Proofs.Ytdmhajeaphnebaa.Rp
open Go.RowKit
open Lx (Wd tx cellsW wpList_append_run)
open Vl (Tm Fr)
open Sy

theorem Pd.shape2 {w : World} {r : Nat} {ao : Option Addr} {cap : Nat} {L : List Wd} {a e : Nat} (h : Pd w r (.slice ao L.length cap) L a e) : 0 < L.length → ∃ g, ao = some ⟨g, 0, none⟩ ∧ ∀ i (hi : i < L.length), w.cell? ⟨g, i * 3, none⟩ = some (.int .i64 (L[i].1 : Int)) ∧ w.cell? ⟨g, i * 3 + 1, none⟩ = some (.string (tx L[i].2.1)) ∧ w.cell? ⟨g, i * 3 + 2, none⟩ = some (.int .i64 (L[i].2.2 : Int)) := by
  obtain ⟨ao', cap', he, hc⟩ := h.shape
  cases he
  exact hc
/-- Is it an atom that begins here? -/
def isAt (L : List Wd) (a : Nat) : Bool := decide ((nextW (L.drop a)).1 = 1) && decide (kindOf (nextW (L.drop (a + 1))).2.1 = 0)
theorem kind4 {x : Wd} (h : OkW x) (hk : ¬ kindOf x.2.1 = 0) : x.1 = 4 := by
  rw [h.kind]
  unfold kindOf at hk
  by_cases h0 : x.2.1 = [61]
  · rw [h0]; rfl
  by_cases h1 : x.2.1 = [33, 61]
  · rw [h1]; rfl
  by_cases h2 : x.2.1 = [60]
  · rw [h2]; rfl
  by_cases h3 : x.2.1 = [60, 61]
  · rw [h3]; rfl
  · rw [if_neg h0, if_neg h1, if_neg h2, if_neg h3] at hk
    exact absurd rfl hk
theorem litL_rest (L : List Wd) (a : Nat) (hL : ∀ x ∈ L, OkW x) (hs : signB [33] (L.drop a) = false) : litL (L.drop a) = if isAt L a = true then atomL termW (L.drop a) else cmpL (L.drop a) := by
  rw [sign_take hL a [33] (by decide) rfl] at hs
  rw [litL, if_neg (by rw [hs]; decide), drop_tail]
  unfold isAt
  by_cases h1 : (nextW (L.drop a)).1 = 1 <;> by_cases h2 : kindOf (nextW (L.drop (a + 1))).2.1 = 0 <;> simp [h1, h2]
theorem cmpL_at (L : List Wd) (a : Nat) : cmpL (L.drop a) = (match oneL termW (L.drop a) with
  | .error e => .error e
  | .ok (s, _) => if kindOf (nextW (L.drop (a + 1))).2.1 = 0 then .error false else (match oneL termW (L.drop (a + 2)) with
    | .error e => .error e
    | .ok (b, _) => .ok (((kindOf (nextW (L.drop (a + 1))).2.1 : Nat), ⟨#[]⟩, [s, b]), L.drop (a + 3)))) := by
  unfold cmpL termL
  cases h : oneL termW (L.drop a) with
  | error e => rfl
  | ok p =>
    obtain ⟨s, t⟩ := p
    have ht := one_rest h
    subst ht
    simp only []
    by_cases hk : kindOf (nextW (L.drop (a + 1))).2.1 = 0
    · rw [if_pos hk, if_pos hk]
    · rw [if_neg hk, if_neg hk, drop_tail]
      cases h2 : oneL termW (L.drop (a + 1 + 1)) with
      | error e => rfl
      | ok q =>
        obtain ⟨b, t⟩ := q
        have ht := one_rest h2
        subst ht
        rfl
theorem one_err {ws : List Wd} {c : Bool} (h : oneL termW ws = .error c) : c = false := by
  unfold oneL at h
  split at h
  · cases h; rfl
  · cases h

set_option maxRecDepth 10000 in
set_option maxHeartbeats 8000000 in
theorem literal_rest {w : World} {r : Nat} {v : Value} {L : List Wd} {a : Nat} (h : Pd w r v L a 0) (hL : ∀ x ∈ L, OkW x) (ha : a ≤ L.length) (hs : signB [33] (L.drop a) = false) :
    Calls Try.prog 28 #[.pointer (some ⟨r, 0, none⟩)] w fun x w' => Lr (litL (L.drop a)) r v L a w x w' := by
  have hrlt := h.lt
  have hlen := h.len
  have H := hide h
  have HA := hide (litL_rest L a hL hs)
  have HL := hide hL
  have P1 := hide (Pw.refl h |>.alloc (.cells #[.int .i64 0, .string ⟨#[]⟩, .slice none 0 0] 57))
  have B1 := hide (Bx.new w #[.int .i64 0, .string ⟨#[]⟩, .slice none 0 0] 57)
  have HS := hide (sign_any P1.out.pd [33])
  clear h hL
  go_enter Try.func28, Try.ntmps28
  go_wp2_with fail
  refine Calls.mono HS.out ?_
  rintro z1 w1 ⟨rfl, n1, hw1⟩
  rw [hs]
  have P2 : Hid (Pw w r v L a 0 w1) := by rw [hw1]; exact P1.out.below (Sy.below_drewN _ n1)
  have B2 : Hid (Bx w1 w.heap.size 57 #[.int .i64 0, .string ⟨#[]⟩, .slice none 0 0]) := by rw [hw1]; exact B1.out.below (Sy.below_drewN _ n1)
  clear hw1 HS P1 B1
  obtain ⟨⟨c0, c1, c2⟩, f0, f1, f2⟩ := P2.out.pd.box.three
  obtain ⟨ao, cap, rfl, hc⟩ := P2.out.pd.shape
  have HC := hide hc
  clear hc
  obtain ⟨b, hb⟩ : ∃ b : Nat, b = a + 1 := ⟨_, rfl⟩
  have hbI : (a : Int) + 1 = (b : Int) := by omega
  have HB := hide hb
  clear hb
  have HQ : Hid (isAt L a = (decide ((nextW (L.drop a)).1 = 1) && decide (kindOf (nextW (L.drop b)).2.1 = 0))) := by show _ = _; rw [HB.out]; rfl
  go_wp2_with fail
  go_cut [88] from 20 to 88 (fun s wc => s = .bool (isAt L a) ∧ ∃ n, wc = w1.drewN n)
  case first =>
    by_cases hl : a < L.length
    · obtain ⟨g, rfl, hc2⟩ := HC.out (by omega)
      obtain ⟨k0, k1, k2⟩ := hc2 a hl
      have hnx := drop_next L a hl
      rw [hnx] at HQ
      have HX := hide (HL.out _ (List.getElem_mem hl))
      have hlI : (a : Int) < (L.length : Int) := by omega
      generalize L[a] = x at *
      by_cases h1 : x.1 = 1
      · have g1 : ((x.1 : Int) == 1) = true := by simp; omega
        by_cases hl2 : b < L.length
        · obtain ⟨m0, m1, m2⟩ := hc2 b hl2
          rw [drop_next L b hl2] at HQ
          have HY := hide (HL.out _ (List.getElem_mem hl2))
          have hlI2 : (b : Int) < (L.length : Int) := by omega
          clear hc2 hnx HC
          generalize L[b] = y at *
          by_cases h4 : y.1 = 4
          · have g4 : ((y.1 : Int) == 4) = true := by simp; omega
            have HQ2 : Hid (isAt L a = !decide (0 < ((kindOf y.2.1 : Nat) : Int))) := by
              show _ = _
              rw [HQ.out]
              by_cases hk : kindOf y.2.1 = 0
              · simp [h1, hk]
              · have hk2 : 0 < kindOf y.2.1 := by omega
                simp [h1, hk, hk2]
            have HK := hide (compare_any y.2.1)
            clear HQ h1 h4
            generalize kindOf y.2.1 = K at *
            refine wp_region_quiet_lit (by kernel_rfl) (by kernel_rfl) ?_
            simp only [List.append]
            repeat (go_big_quiet_step (first | (go_at_call 39; exact Calls.quiet_of_same (HK.out _))))
            refine wpQuiet_nil ?_
            intro _ hw'
            obtain ⟨nq, hw''⟩ := hw'
            subst hw''
            go_wp2_with fail
            go_meet
            exact ⟨by rw [HQ2.out]; simp [Int.natCast_pos], _, rfl⟩
          · have g4 : ((y.1 : Int) == 4) = false := by simp; omega
            have HQ2 : Hid (isAt L a = true) := by
              show _ = _
              rw [HQ.out]
              have hk : kindOf y.2.1 = 0 := by
                by_cases hk : kindOf y.2.1 = 0
                · exact hk
                · exact absurd (kind4 HY.out hk) h4
              simp [h1, hk]
            clear HQ h1 h4
            refine wp_region_quiet_lit (by kernel_rfl) (by kernel_rfl) ?_
            simp only [List.append]
            repeat (go_big_quiet_step (fail))
            refine wpQuiet_nil ?_
            intro _ hw'
            obtain ⟨nq, hw''⟩ := hw'
            subst hw''
            go_wp2_with fail
            go_meet
            exact ⟨by rw [HQ2.out], _, rfl⟩
        · have hlI2 : decide ((b : Int) < (L.length : Int)) = false := by simp; omega
          have HQ2 : Hid (isAt L a = true) := by
            show _ = _
            rw [HQ.out, drop_end L b (by omega)]
            simp [h1, nextW, kindOf]
          clear HQ h1 hc2 HC hnx
          refine wp_region_quiet_lit (by kernel_rfl) (by kernel_rfl) ?_
          simp only [List.append]
          repeat (go_big_quiet_step (fail))
          refine wpQuiet_nil ?_
          intro _ hw'
          obtain ⟨nq, hw''⟩ := hw'
          subst hw''
          go_wp2_with fail
          go_meet
          exact ⟨by rw [HQ2.out], _, rfl⟩
      · have g1 : ((x.1 : Int) == 1) = false := by simp; omega
        have HQ2 : Hid (isAt L a = false) := by
          show _ = _
          rw [HQ.out]
          simp [h1]
        clear HQ h1 hc2 HC hnx
        refine wp_region_quiet_lit (by kernel_rfl) (by kernel_rfl) ?_
        simp only [List.append]
        repeat (go_big_quiet_step (fail))
        refine wpQuiet_nil ?_
        intro _ hw'
        obtain ⟨nq, hw''⟩ := hw'
        subst hw''
        go_wp2_with fail
        go_meet
        exact ⟨by rw [HQ2.out], _, rfl⟩
    · have hlI : decide ((a : Int) < (L.length : Int)) = false := by simp; omega
      have HQ2 : Hid (isAt L a = false) := by
        show _ = _
        rw [HQ.out, drop_end L a (by omega)]
        simp [nextW]
      clear HQ HC
      refine wp_region_quiet_lit (by kernel_rfl) (by kernel_rfl) ?_
      simp only [List.append]
      repeat (go_big_quiet_step (fail))
      refine wpQuiet_nil ?_
      intro _ hw'
      obtain ⟨nq, hw''⟩ := hw'
      subst hw''
      go_wp2_with fail
      go_meet
      exact ⟨by rw [HQ2.out], _, rfl⟩
  case rest =>
    obtain ⟨rfl, n2, hw2⟩ := hcut
    have P3 : Hid (Pw w r (.slice ao L.length cap) L a 0 wc) := by rw [hw2]; exact P2.out.below (Sy.below_drewN _ n2)
    have B3 : Hid (Bx wc w.heap.size 57 #[.int .i64 0, .string ⟨#[]⟩, .slice none 0 0]) := by rw [hw2]; exact B2.out.below (Sy.below_drewN _ n2)
    clear hw2 P2 B2 c0 c1 c2 f0 f1 f2 HQ
    cases hat : isAt L a
    · rw [if_neg (by rw [hat]; decide)] at HA
      have HT := hide (rterm_any P3.out.pd HL.out)
      obtain ⟨R, hR⟩ : ∃ R, Hid (oneL termW (L.drop a) = R) := ⟨_, rfl⟩
      have HE := hide (cmpL_at L a)
      rw [hR.out] at HT HE
      clear hat
      go_wp2_with fail
      refine Calls.mono HT.out ?_
      rintro z4 w4 ⟨hz, hf4⟩
      have B4 := hide (B3.out.fr hf4 (by omega))
      cases R with
      | error c =>
        have hcf := one_err hR.out
        subst hcf
        obtain ⟨t, a4, rfl, hp4, ha4⟩ := hz
        have P4 := hide (P3.out.then hp4 hf4)
        have P5 := hide (P4.out.alloc (.cells #[.int .i64 t.1, .string t.2.1, .int .i64 t.2.2] 88))
        have B5 := hide (B4.out.below (Lx.below_box w4 (.cells #[.int .i64 t.1, .string t.2.1, .int .i64 t.2.2] 88)))
        obtain ⟨⟨c0, c1, c2⟩, f0, f1, f2⟩ := P5.out.pd.box.three
        simp only [Vl.tv]
        clear HT hp4 hf4 P3 B3 P4 B4 HC
        have hsz5 : w4.heap.size < (w4.alloc (.cells #[.int .i64 t.1, .string t.2.1, .int .i64 t.2.2] 88)).heap.size := by simp
        go_wp2_with fail
        generalize w4.alloc (.cells #[.int .i64 t.1, .string t.2.1, .int .i64 t.2.2] 88) = W5 at *
        have gE : decide ((4 : Int) = 0) = false := rfl
        go_big_quiet (fail)
        have HBd := hide (bad_any (P5.out.below (Sy.below_drewN W5 nq)).pd 4)
        have P6 := hide (P5.out.below (Sy.below_drewN W5 nq))
        have B6 := hide (B5.out.below (Sy.below_drewN W5 nq))
        clear P5 B5 c0 c1 c2 f0 f1 f2
        generalize W5.drewN nq = W6 at *
        go_wp2_with fail
        refine Calls.mono HBd.out ?_
        rintro z7 w7 ⟨rfl, hp7, hf7⟩
        have P7 := hide (P6.out.then hp7 hf7)
        have B7 := hide (B6.out.fr hf7 (by omega))
        obtain ⟨⟨d0, d1, d2⟩, g0, g1, g2⟩ := B7.out.three
        clear HBd hp7 hf7 P6 B6
        go_wp2_with fail
        refine bodyPost_ret (results_cell_row rfl _ _ w.heap.size 57 _ (0, 0) _ rfl (((B7.out.set 0 _).set 1 _).set 2 _) Try.underlying57 rfl sz33) rfl ?_
        have q1 := P7.out.put3 H.out w.heap.size (Nat.le_refl _) (.int .i64 0) (.string ⟨#[]⟩) (.slice none 0 0)
        rw [HA.out, HE.out]
        exact ⟨⟨_, a4, rfl, ⟨_, _, _, _, _, rfl⟩, q1.pd, by omega⟩, q1.fr⟩
      | ok p =>
        obtain ⟨t, rest⟩ := p
        obtain ⟨rfl, hp4, hlt4⟩ := hz
        have P4 := hide (P3.out.then hp4 hf4)
        have P5 := hide (P4.out.alloc (.cells #[.int .i64 t.1, .string t.2.1, .int .i64 t.2.2] 88))
        have B5 := hide (B4.out.below (Lx.below_box w4 (.cells #[.int .i64 t.1, .string t.2.1, .int .i64 t.2.2] 88)))
        have T5 := hide (Bx.new w4 #[.int .i64 t.1, .string t.2.1, .int .i64 t.2.2] 88)
        obtain ⟨⟨c0, c1, c2⟩, f0, f1, f2⟩ := P5.out.pd.box.three
        have hbb := HB.out
        rw [← hbb] at c1
        simp only [Vl.tv]
        have HC5 := hide P5.out.pd.shape2
        have hsz4 := P4.out.fr.size
        simp only [] at HE
        rw [← hbb] at HE
        clear hbb
        clear HT hp4 hf4 P3 B3 P4 B4 HC
        have hsz5 : w4.heap.size < (w4.alloc (.cells #[.int .i64 t.1, .string t.2.1, .int .i64 t.2.2] 88)).heap.size := by simp
        go_wp2_with fail
        generalize w4.alloc (.cells #[.int .i64 t.1, .string t.2.1, .int .i64 t.2.2] 88) = W5 at *
        obtain ⟨bq, hbq⟩ : ∃ bq, Hid (bq = decide (kindOf (nextW (L.drop b)).2.1 = 0)) := ⟨_, rfl⟩
        go_cut [138] from 93 to 138 (fun s wd => s = .bool bq ∧ ∃ n, wd = W5.drewN n)
        case first =>
          by_cases hl2 : b < L.length
          · obtain ⟨g, rfl, hc2⟩ := HC5.out (by omega)
            obtain ⟨m0, m1, m2⟩ := hc2 b hl2
            rw [drop_next L b hl2] at hbq
            have HY := hide (HL.out _ (List.getElem_mem hl2))
            have hlI2 : decide (L.length ≤ b) = false := by simp; omega
            have hlI3 : (b : Int) < (L.length : Int) := by omega
            clear hc2 HC5
            generalize L[b] = y at *
            by_cases h4 : y.1 = 4
            · have g4 : ((y.1 : Int) != 4) = false := by simp; omega
              have HQ2 : Hid (bq = (((kindOf y.2.1 : Nat) : Int) == 0)) := by
                show _ = _
                rw [hbq.out, Bool.eq_iff_iff]
                simp
              have HK := hide (compare_any y.2.1)
              clear h4 hbq
              generalize kindOf y.2.1 = K at *
              go_big_quiet (first | (go_at_call 39; exact Calls.quiet_of_same (HK.out _)))
              go_wp2_with fail
              go_meet
              exact ⟨by rw [HQ2.out], _, rfl⟩
            · have g4 : ((y.1 : Int) != 4) = true := by simp; omega
              have HQ2 : Hid (bq = true) := by
                show _ = _
                rw [hbq.out]
                by_cases hk : kindOf y.2.1 = 0
                · simp [hk]
                · exact absurd (kind4 HY.out hk) h4
              clear h4 hbq
              go_big_quiet (fail)
              go_wp2_with fail
              go_meet
              exact ⟨by rw [HQ2.out], _, rfl⟩
          · have hlI2 : decide (L.length ≤ b) = true := by simp; omega
            have HQ2 : Hid (bq = true) := by
              show _ = _
              rw [hbq.out, drop_end L b (by omega)]
              rfl
            clear HC5 hbq
            go_big_quiet (fail)
            go_wp2_with fail
            go_meet
            exact ⟨by rw [HQ2.out], _, rfl⟩
        case rest =>
          obtain ⟨rfl, n6, hw6⟩ := hcut
          have P6 : Hid (Pw w r (.slice ao L.length cap) L (a + 1) 0 wc) := by rw [hw6]; exact P5.out.below (Sy.below_drewN _ n6)
          have B6 : Hid (Bx wc w.heap.size 57 #[.int .i64 0, .string ⟨#[]⟩, .slice none 0 0]) := by rw [hw6]; exact B5.out.below (Sy.below_drewN _ n6)
          have T6 : Hid (Bx wc w4.heap.size 88 #[.int .i64 t.1, .string t.2.1, .int .i64 t.2.2]) := by rw [hw6]; exact T5.out.below (Sy.below_drewN _ n6)
          have HC6 := hide P6.out.pd.shape2
          rw [← HB.out] at P6
          clear hw6 P5 B5 T5 HC5 c0 c1 c2 f0 f1 f2
          by_cases hk : kindOf (nextW (L.drop b)).2.1 = 0
          · rw [show bq = true by rw [hbq.out]; exact decide_eq_true hk]
            rw [if_pos hk] at HE
            have HBd := hide (bad_any P6.out.pd 4)
            clear hk
            go_wp2_with fail
            refine Calls.mono HBd.out ?_
            rintro z7 w7 ⟨rfl, hp7, hf7⟩
            have P7 := hide (P6.out.then hp7 hf7)
            have B7 := hide (B6.out.fr hf7 (by omega))
            obtain ⟨⟨d0, d1, d2⟩, g0, g1, g2⟩ := B7.out.three
            clear HBd hp7 hf7 P6 B6
            go_wp2_with fail
            refine bodyPost_ret (results_cell_row rfl _ _ w.heap.size 57 _ (0, 0) _ rfl (((B7.out.set 0 _).set 1 _).set 2 _) Try.underlying57 rfl sz33) rfl ?_
            have q1 := P7.out.put3 H.out w.heap.size (Nat.le_refl _) (.int .i64 0) (.string ⟨#[]⟩) (.slice none 0 0)
            rw [HA.out, HE.out]
            exact ⟨⟨_, b, rfl, ⟨_, _, _, _, _, rfl⟩, q1.pd, by omega⟩, q1.fr⟩
          · rw [show bq = false by rw [hbq.out]; exact decide_eq_false hk]
            rw [if_neg hk] at HE
            have hl2 : b < L.length := by
              by_cases hl : b < L.length
              · exact hl
              · exact absurd (by rw [drop_end L b (by omega)]; rfl) hk
            obtain ⟨g, rfl, hc2⟩ := HC6.out (by omega)
            obtain ⟨m0, m1, m2⟩ := hc2 b hl2
            rw [drop_next L b hl2] at HE
            have hlI3 : (b : Int) < (L.length : Int) := by omega
            have HK := hide (compare_any L[b].2.1)
            have hst := P6.out.pd.stepI (by omega)
            clear hc2 HC6 hk
            generalize L[b] = y at *
            obtain ⟨K, hK⟩ : ∃ K, Hid (kindOf y.2.1 = K) := ⟨_, rfl⟩
            rw [hK.out] at HE HK
            obtain ⟨⟨c0, c1, c2⟩, f0, f1, f2⟩ := P6.out.pd.box.three
            clear hst
            go_wp2_with fail
            go_big_quiet (first | (go_at_call 39; exact Calls.quiet_of_same (HK.out _)))
            have P7 := hide (P6.out.below (Sy.below_drewN wc nq))
            have B7 := hide (B6.out.below (Sy.below_drewN wc nq))
            have T7 := hide (T6.out.below (Sy.below_drewN wc nq))
            clear P6 B6 T6 c0 c1 c2 f0 f1 f2 m0 m1 m2
            generalize wc.drewN nq = W7 at *
            obtain ⟨⟨c0, c1, c2⟩, f0, f1, f2⟩ := P7.out.pd.box.three
            have hst := P7.out.pd.stepI (by omega)
            have P8 := hide (P7.out.then hst.1 hst.2)
            have B8 := hide (B7.out.fr hst.2 (by omega))
            have T8 := hide (T7.out.fr hst.2 (by omega))
            have HT := hide (rterm_any P8.out.pd HL.out)
            have e2 : b + 1 = a + 2 := by omega
            obtain ⟨R2, hR2⟩ : ∃ R2, Hid (oneL termW (L.drop (a + 2)) = R2) := ⟨_, rfl⟩
            rw [e2, hR2.out] at HT
            rw [hR2.out] at HE
            clear hst P7 B7 T7 e2
            go_wp2_with fail
            refine Calls.mono HT.out ?_
            rintro z9 w9 ⟨hz, hf9⟩
            have B9 := hide (B8.out.fr hf9 (by omega))
            have T9 := hide (T8.out.fr hf9 (by omega))
            clear c0 c1 c2 f0 f1 f2
            cases R2 with
            | error c =>
              have hcf := one_err hR2.out
              subst hcf
              obtain ⟨t2, a9, rfl, hp9, ha9⟩ := hz
              have P9 := hide (P8.out.then hp9 hf9)
              have B10 := hide fun o p => (B9.out.below (Lx.below_box w9 o)).below (Lx.below_box _ p)
              have P10 := hide fun o p => (P9.out.alloc o).alloc p
              have s0 := fun o => (T9.out.below (Lx.below_box w9 o)).three.1.1
              have s1 := fun o => (T9.out.below (Lx.below_box w9 o)).three.1.2.1
              have s2 := fun o => (T9.out.below (Lx.below_box w9 o)).three.1.2.2
              have c0 := fun o p => (B10.out o p).three.1.1
              have c1 := fun o p => (B10.out o p).three.1.2.1
              have c2 := fun o p => (B10.out o p).three.1.2.2
              have f0 := fun o p => (B10.out o p).three.2.1
              have f1 := fun o p => (B10.out o p).three.2.2.1
              have f2 := fun o p => (B10.out o p).three.2.2.2
              simp only [Vl.tv]
              clear HT hp9 hf9 B8 T8 P8
              go_wp2_with fail
              refine bodyPost_ret (results_cell_row rfl _ _ w.heap.size 57 _ (0, 0) _ rfl ((((B10.out _ _).set 0 _).set 1 _).set 2 _) Try.underlying57 rfl sz33) rfl ?_
              have q1 := (P10.out (.cells #[.int .i64 t2.1, .string t2.2.1, .int .i64 t2.2.2] 88) (.cells #[.int .i64 t.1, .string t.2.1, .int .i64 t.2.2, .int .i64 t2.1, .string t2.2.1, .int .i64 t2.2.2] 88)).put3 H.out w.heap.size (Nat.le_refl _) (.int .i64 (K : Int)) (.string ⟨#[]⟩) (.slice (some ⟨w9.heap.size + 1, 0, none⟩) 2 2)
              rw [HA.out, HE.out]
              exact ⟨⟨_, a9, rfl, ⟨_, _, _, _, _, rfl⟩, q1.pd, by omega⟩, q1.fr⟩
            | ok p =>
              obtain ⟨t2, rest2⟩ := p
              obtain ⟨rfl, hp9, hlt9⟩ := hz
              have P9 := hide (P8.out.then hp9 hf9)
              have B10 := hide fun o p => (B9.out.below (Lx.below_box w9 o)).below (Lx.below_box _ p)
              have P10 := hide fun o p => (P9.out.alloc o).alloc p
              have s0 := fun o => (T9.out.below (Lx.below_box w9 o)).three.1.1
              have s1 := fun o => (T9.out.below (Lx.below_box w9 o)).three.1.2.1
              have s2 := fun o => (T9.out.below (Lx.below_box w9 o)).three.1.2.2
              have c0 := fun o p => (B10.out o p).three.1.1
              have c1 := fun o p => (B10.out o p).three.1.2.1
              have c2 := fun o p => (B10.out o p).three.1.2.2
              have f0 := fun o p => (B10.out o p).three.2.1
              have f1 := fun o p => (B10.out o p).three.2.2.1
              have f2 := fun o p => (B10.out o p).three.2.2.2
              simp only [Vl.tv]
              clear HT hp9 hf9 B8 T8 P8
              go_wp2_with fail
              refine bodyPost_ret (results_cell_row rfl _ _ w.heap.size 57 _ (0, 0) _ rfl ((((B10.out _ _).set 0 _).set 1 _).set 2 _) Try.underlying57 rfl sz33) rfl ?_
              have q1 := (P10.out (.cells #[.int .i64 t2.1, .string t2.2.1, .int .i64 t2.2.2] 88) (.cells #[.int .i64 t.1, .string t.2.1, .int .i64 t.2.2, .int .i64 t2.1, .string t2.2.1, .int .i64 t2.2.2] 88)).put3 H.out w.heap.size (Nat.le_refl _) (.int .i64 (K : Int)) (.string ⟨#[]⟩) (.slice (some ⟨w9.heap.size + 1, 0, none⟩) 2 2)
              have q2 := isTs_put3 (two_terms (w9.alloc (.cells #[.int .i64 t2.1, .string t2.2.1, .int .i64 t2.2.2] 88)) t t2) (B10.out _ _) (by decide) (.int .i64 (K : Int)) (.string ⟨#[]⟩) (.slice (some ⟨w9.heap.size + 1, 0, none⟩) 2 2)
              rw [show (w9.alloc (.cells #[.int .i64 t2.1, .string t2.2.1, .int .i64 t2.2.2] 88)).heap.size = w9.heap.size + 1 by simp] at q2
              rw [HA.out, HE.out]
              exact ⟨⟨_, a + 2 + 1, rfl, ⟨_, rfl, q2⟩, q1.pd, rfl, by omega, by omega⟩, q1.fr⟩
    · rw [if_pos hat] at HA
      have HT := hide (atom_any P3.out.pd HL.out ha)
      obtain ⟨R, hR⟩ : ∃ R, Hid (atomL termW (L.drop a) = R) := ⟨_, rfl⟩
      rw [hR.out] at HT HA
      clear hat HC
      go_wp2_with fail
      refine Calls.mono HT.out ?_
      rintro z4 w4 ⟨hz, hf4⟩
      have B4 := hide (B3.out.fr hf4 (by omega))
      obtain ⟨⟨d0, d1, d2⟩, g0, g1, g2⟩ := B4.out.three
      cases R with
      | error c =>
        obtain ⟨y, a4, rfl, ⟨k, s, ao4, n4, cap4, rfl⟩, hp4, ha4⟩ := hz
        have P4 := hide (P3.out.then hp4 hf4)
        clear HT hp4 hf4 P3 B3
        go_wp2_with fail
        refine bodyPost_ret (results_cell_row rfl _ _ w.heap.size 57 _ (0, 0) _ rfl (((B4.out.set 0 _).set 1 _).set 2 _) Try.underlying57 rfl sz33) rfl ?_
        have q1 := P4.out.put3 H.out w.heap.size (Nat.le_refl _) (.int .i64 k) (.string s) (.slice ao4 n4 cap4)
        rw [HA.out]
        exact ⟨⟨_, a4, rfl, ⟨_, _, _, _, _, rfl⟩, q1.pd, ha4⟩, q1.fr⟩
      | ok p =>
        obtain ⟨⟨lk, ln, lt⟩, rest⟩ := p
        obtain ⟨y, a4, rfl, ⟨va, rfl, hts⟩, hp4, hd4, ha4, hb4⟩ := hz
        have P4 := hide (P3.out.then hp4 hf4)
        have HTS := hide hts
        clear HT hp4 hf4 P3 B3
        obtain ⟨_, ao4, cap4, rfl⟩ := own_len hts
        clear hts
        have HD := hide hd4
        clear hd4
        go_wp2_with fail
        refine bodyPost_ret (results_cell_row rfl _ _ w.heap.size 57 _ (0, 0) _ rfl (((B4.out.set 0 _).set 1 _).set 2 _) Try.underlying57 rfl sz33) rfl ?_
        have q1 := P4.out.put3 H.out w.heap.size (Nat.le_refl _) (.int .i64 lk) (.string ln) (.slice ao4 lt.length cap4)
        have q2 := own_put (own_put (own_put HTS.out B4.out (by decide) 0 (.int .i64 lk)) (B4.out.set 0 _) (by decide) 1 (.string ln)) ((B4.out.set 0 _).set 1 _) (by decide) 2 (.slice ao4 lt.length cap4)
        rw [HA.out]
        exact ⟨⟨_, a4, rfl, ⟨_, rfl, q2⟩, q1.pd, HD.out, ha4, hb4⟩, q1.fr⟩

theorem literal_any {w : World} {r : Nat} {v : Value} {L : List Wd} {a : Nat} (h : Pd w r v L a 0) (hL : ∀ x ∈ L, OkW x) (ha : a ≤ L.length) :
    Calls Try.prog 28 #[.pointer (some ⟨r, 0, none⟩)] w fun x w' => Lr (litL (L.drop a)) r v L a w x w' := by
  cases hs : signB [33] (L.drop a) with
  | true => exact literal_not h hL hs
  | false => exact literal_rest h hL ha hs
end Go.Proofs.Ytdmhajeaphnebaa.Rp
namespace Go.Proofs.Ytdmhajeaphnebaa.Rp
open Go.RowKit
open Lx (Wd tx cellsW wpList_append_run)
open Vl (Tm Fr)
open Sy

theorem eqT_self (k x : Int) (s : ByteArray) : Vl.eqT k s x k s x = true := by simp [Vl.eqT]

theorem Bx.four' {w : World} {b : Nat} {T : TypeId} {x y z u : Value} (h : Bx w b T #[x, y, z, u]) : w.cell? ⟨b, 0, none⟩ = some x ∧ w.cell? ⟨b, 1, none⟩ = some y ∧ w.cell? ⟨b, 2, none⟩ = some z ∧ w.cell? ⟨b, 3, none⟩ = some u := h.four.1

/-- A row of rules, cell by cell. -/
theorem isRs_cells {w : World} {ls : List Rul} {ao : Option Addr} {n cap : Nat} (h : isRs w ls (.slice ao n cap)) : n = ls.length ∧ (0 < ls.length → ∃ g, ao = some ⟨g, 0, none⟩ ∧ ∀ i (hi : i < ls.length), ∃ va vb, isTs w ls[i].1.2.2 va ∧ isLs w ls[i].2 vb ∧ w.cell? ⟨g, i * 4, none⟩ = some (.int .i64 ls[i].1.1) ∧ w.cell? ⟨g, i * 4 + 1, none⟩ = some (.string ls[i].1.2.1) ∧ w.cell? ⟨g, i * 4 + 2, none⟩ = some va ∧ w.cell? ⟨g, i * 4 + 3, none⟩ = some vb) := by
  obtain ⟨zs, rfl, h2, h3⟩ := h
  have hlm : (zs.map (·.1)).length = zs.length := List.length_map _
  refine ⟨by rw [hlm]; exact (own_len h2).1, fun hp => ?_⟩
  rcases Lx.own_shape h2 with ⟨e, h0⟩ | ⟨g, cap', e, _⟩
  · omega
  · simp only [Value.slice.injEq] at e
    obtain ⟨rfl, rfl, rfl⟩ := e
    refine ⟨g, rfl, fun i hi0 => ?_⟩
    have hi : i < zs.length := by omega
    refine ⟨zs[i].2.1, zs[i].2.2, ?_⟩
    have e : zs = zs.take i ++ zs[i] :: zs.drop (i + 1) := by simp
    have hl : (cellsRz (zs.take i)).length = i * 4 := by
      have : ∀ q : List (Rul × Value × Value), (cellsRz q).length = q.length * 4 := fun q => by
        induction q with
        | nil => rfl
        | cons z q ih => simp [cellsRz] at ih ⊢; omega
      rw [this]; simp; omega
    have e2 : cellsRz zs = cellsRz (zs.take i) ++ (.int .i64 zs[i].1.1.1 :: .string zs[i].1.1.2.1 :: zs[i].2.1 :: zs[i].2.2 :: cellsRz (zs.drop (i + 1))) := by
      conv => lhs; rw [e]
      unfold cellsRz
      rw [List.flatMap_append, List.flatMap_cons]
      rfl
    have hc : ∀ j, j < 4 → w.cell? ⟨g, i * 4 + j, none⟩ = [.int .i64 zs[i].1.1.1, .string zs[i].1.1.2.1, zs[i].2.1, zs[i].2.2][j]? := fun j hj => by
      rw [h2.cellAt _ (by omega), e2, List.getElem?_append_right (by omega), hl, Nat.add_sub_cancel_left]
      match j, hj with
      | 0, _ => rfl
      | 1, _ => rfl
      | 2, _ => rfl
      | 3, _ => rfl
    have hz := h3 zs[i] (List.getElem_mem _)
    simp only [List.getElem_map]
    exact ⟨hz.1, hz.2, hc 0 (by decide), hc 1 (by decide), hc 2 (by decide), hc 3 (by decide)⟩
theorem isRs_shape {w : World} {ls : List Rul} {y : Value} (h : isRs w ls y) : ∃ ao cap, y = .slice ao ls.length cap := by
  obtain ⟨zs, rfl, h2, _⟩ := h
  rw [List.length_map]
  exact (own_len h2).2

end Go.Proofs.Ytdmhajeaphnebaa.Rp

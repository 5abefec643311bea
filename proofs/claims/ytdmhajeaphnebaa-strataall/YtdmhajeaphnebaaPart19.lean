/- The reference's Recursive: its walk. begun's walk. StrataAll: mathematics of levels. No walk. StrataAll: the law's walk. -/
import Derived.Test.YtdmhajeaphnebaaPart18
import Derived.Deep.LoopGhost
import Derived.Deep.CutRange
import Derived.Test.YtdmhajeaphnebaaPart17
import Derived.BigQuiet
namespace Go.Proofs.Ytdmhajeaphnebaa.Gr
open Go.RowKit
open Vl (Fr)
open Sy (isRs isRs_below isLs isLs_cells Rul OkR)
open Rp (isRs_cells isRs_shape)
open Tj (memB memB_iff ixN ixN_lt hdN isP idsOf idsOf_len heads_ids BackN)
variable {w : World} {rs : List Rul}
theorem Rq.start (w : World) (x : ByteArray) : Rq w ((w.alloc (.cells #[] 9)).alloc (.cells #[.string x] 9)) (.slice (some ⟨w.heap.size, 0, none⟩) 0 0) (.slice (some ⟨w.heap.size + 1, 0, none⟩) 1 1) [] [x] (w.heap.size + 1) := by
  have hb : Below w.heap.size w ((w.alloc (.cells #[] 9)).alloc (.cells #[.string x] 9)) := ((Below.refl _ w).alloc (Nat.le_refl _) _).alloc (by simp) _
  refine ⟨?_, ?_, ?_, hb, fun k hk => ?_, by omega⟩
  · have h1 : ((w.alloc (.cells #[] 9)).alloc (.cells #[.string x] 9)).heap[w.heap.size]? = some (.cells #[] 9 (0, 0)) := by
      show ((w.heap.push _).push _)[w.heap.size]? = _
      rw [Array.getElem?_push_lt (by simp), Array.getElem_push_eq]
    exact ⟨rfl, .inr ⟨_, 0, _, rfl, Nat.zero_le _, h1, Nat.le_refl _, by decide, rfl, rfl⟩⟩
  · have := Qe.new (w.alloc (.cells #[] 9)) x
    simpa using this
  · simp [Value.ownBlock]
  · simp [Value.ownBlock] at hk
    omega
set_option maxHeartbeats 8000000 in
set_option maxRecDepth 4000 in
theorem rrec_any {y : Value} (hR : isRs w rs y) (hok : OkRs rs) (nm : ByteArray) : Calls Try.prog 12 #[y, .string nm] w fun x w2 => ∃ b, x = .returned (.bool b) ∧ (b = true ↔ BackN rs nm) ∧ Below w.heap.size w w2 := by
  obtain ⟨ao, cap, hy⟩ := isRs_shape hR
  have HR := hide hR
  have HO := hide hok
  have hrI : (rs.length : Int) ≤ 30 := by have := hok.1; omega
  have HS := hide (Rq.start w nm)
  subst hy
  have HRW : Hid (∀ W, Below w.heap.size w W → isRs W rs (.slice ao rs.length cap)) := fun W hb => isRs_below HR.out hb
  have hid30 : (idsOf rs).length ≤ 30 := Nat.le_trans (idsOf_len rs) hok.1
  obtain ⟨W0, hW0⟩ : ∃ W0, W0 = ((w.alloc (.cells #[] 9)).alloc (.cells #[.string nm] 9)) := ⟨_, rfl⟩
  rw [← hW0] at HS
  have EW := hide hW0
  clear hR hok hW0
  go_enter Try.func12, Try.ntmps12
  go_wp2_with fail
  rw [← EW.out]
  obtain ⟨qb, hqb⟩ : ∃ qb, qb = w.heap.size + 1 := ⟨_, rfl⟩
  obtain ⟨sb, hsb⟩ : ∃ sb, sb = w.heap.size := ⟨_, rfl⟩
  rw [← hqb, ← hsb] at HS
  rw [← hqb, ← hsb]
  clear hqb hsb EW
  go_loopg [5, 6] (1 + (idsOf rs).length) (fun k sv qv wr => ∃ (seen wait : List ByteArray) (g : Nat), Hid (Rq w wr sv qv seen wait g ∧ Sx rs nm seen wait (fun _ _ => False) ∧ wait.length + ((idsOf rs).length - seen.length) ≤ k ∧ k ≤ 40))
  case atStart => exact ⟨[], [nm], qb, HS.out, Sx.start rs nm, by simp, by omega⟩
  case round =>
    obtain ⟨seen, wait, g, HV⟩ := hrel
    clear HS
    cases wait with
    | nil =>
      obtain ⟨o, c, cur, hqv, _⟩ := HV.out.1.q
      subst hqv
      have HE : Hid (¬ BackN rs nm ∧ Below w.heap.size w wr) := ⟨fun h => HV.out.2.1.none (bkn_iff.2 h), HV.out.1.z⟩
      clear HV
      go_wp2_with fail
      go_ret
      exact ⟨false, rfl, ⟨(fun e => by cases e), (fun e => absurd e HE.out.1)⟩, HE.out.2⟩
    | cons x0 wait =>
      obtain ⟨o, c, v', hqv, hx0, hsl, hq', ⟨qa', qc', hv'⟩, hc1⟩ := HV.out.1.q.pop
      have hP := HV.out.2.1.pop
      have hwl : wait.length + 1 ≤ 40 := by have h1 := HV.out.2.2; simp at h1; omega
      obtain ⟨sa, sc, hsv⟩ := own_sl HV.out.1.s
      rw [hqv] at hsl
      have hms : wait.length + ((idsOf rs).length - seen.length) + 1 ≤ gk ∧ gk ≤ 40 := by have h1 := HV.out.2.2; simp at h1; omega
      have HI : Hid (Rq w wr u5 v' seen wait g ∧ Sx rs nm seen wait (pend rs 0 0 x0) ∧ wait.length + ((idsOf rs).length - seen.length) + 1 ≤ gk ∧ (x0 = nm ∨ x0 ∈ seen)) := ⟨⟨HV.out.1.s, hq', HV.out.1.ap, HV.out.1.z, HV.out.1.zs, HV.out.1.zg⟩, hP.1, hms.1, hP.2⟩
      have hgk := hms.2
      subst hqv
      subst hv'
      have HQl := hide hq'
      clear HV hP hms hq'
      go_wp2_with fail
      clear hx0 hsl
      go_loopw [5, 6, 8] (fun sv qv iv wq => ∃ (i : Nat) (seen wait : List ByteArray) (g : Nat), iv = .int .i64 (i : Int) ∧ i ≤ rs.length ∧ Hid (Rq w wq sv qv seen wait g ∧ Sx rs nm seen wait (pend rs i 0 x0) ∧ wait.length + ((idsOf rs).length - seen.length) + 1 ≤ gk ∧ (x0 = nm ∨ x0 ∈ seen))) (fun _ _ iv _ => rs.length - (intOf iv).toNat)
      case atStart => exact ⟨0, seen, wait, g, rfl, Nat.zero_le _, HI.out⟩
      case round =>
        obtain ⟨i, seen, wait, g, rfl, hi, HJ⟩ := hrel
        clear HI HQl
        have HME : Hid (i < rs.length → rs.length - (intOf (.int .i64 ((i : Int) + 1))).toNat < rs.length - (intOf (.int .i64 (i : Int))).toNat) := fun h => by
          simp [intOf]; omega
        by_cases hlt : i < rs.length
        · have hltI : (i : Int) < (rs.length : Int) := by omega
          obtain ⟨rg, hao, _⟩ := (isRs_cells HR.out).2 (by omega)
          subst hao
          have HRC : Hid (∀ W, Below w.heap.size w W → ∃ va vb, isLs W rs[i].2 vb ∧ W.cell? ⟨rg, i * 4 + 1, none⟩ = some (.string rs[i].1.2.1) ∧ W.cell? ⟨rg, i * 4 + 2, none⟩ = some va ∧ W.cell? ⟨rg, i * 4 + 3, none⟩ = some vb) := fun W hb => by
            obtain ⟨g', e', hc'⟩ := (isRs_cells (HRW.out W hb)).2 (by omega)
            simp only [Option.some.injEq, Addr.mk.injEq, and_true] at e'
            subst e'
            obtain ⟨va, vb, _, h1, _, h2, h3, h4⟩ := hc' i hlt
            exact ⟨va, vb, h1, h2, h3, h4⟩
          have hb6 := (HO.out.2 rs[i] (List.getElem_mem hlt)).few
          go_wp2_with fail
          go_loopw [5, 6, 9] (fun sv qv jv wz => ∃ (j : Nat) (seen wait : List ByteArray) (g : Nat), jv = .int .i64 (j : Int) ∧ j ≤ rs[i].2.length ∧ Hid (Rq w wz sv qv seen wait g ∧ Sx rs nm seen wait (pend rs i j x0) ∧ wait.length + ((idsOf rs).length - seen.length) + 1 ≤ gk ∧ (x0 = nm ∨ x0 ∈ seen))) (fun _ _ jv _ => rs[i].2.length - (intOf jv).toNat)
          case atStart => exact ⟨0, seen, wait, g, rfl, Nat.zero_le _, HJ.out⟩
          case round =>
            obtain ⟨j, seen, wait, g, rfl, hj, HK⟩ := hrel
            clear HJ
            have HMJ : Hid (j < rs[i].2.length → rs[i].2.length - (intOf (.int .i64 ((j : Int) + 1))).toNat < rs[i].2.length - (intOf (.int .i64 (j : Int))).toNat) := fun h => by
              simp [intOf]; omega
            obtain ⟨va, vb, hls, y1, y2, y3⟩ := HRC.out wr HK.out.1.z
            have hbl : ∃ ba bc, vb = .slice ba rs[i].2.length bc := by
              obtain ⟨zs, h1, h2, _⟩ := hls
              obtain ⟨ao', cap', rfl⟩ := own_sl h2
              exact ⟨ao', cap', by rw [← h1, List.length_map]⟩
            obtain ⟨ba, bc, rfl⟩ := hbl
            have HNR : Hid ((rs[i].2.length ≤ j ∨ hdN rs[i] ≠ x0) → Sx rs nm seen wait (pend rs (i + 1) 0 x0)) := fun hh => HK.out.2.1.imp (fun x b hb => .inl (pend_rule hlt hh hb))
            obtain ⟨hdn, Hhd⟩ : ∃ hdn : ByteArray, Hid (hdn = rs[i].1.2.1) := ⟨rs[i].1.2.1, rfl⟩
            rw [← Hhd.out] at y1
            cases hb : (hdn.toList == x0.toList) with
            | false =>
              have HN : Hid (Sx rs nm seen wait (pend rs (i + 1) 0 x0)) := HNR.out (.inr (fun e => by
                have e2 : hdn = x0 := Hhd.out.trans e
                rw [ba_eq.2 e2] at hb
                cases hb))
              clear hls
              go_wp2_with fail
              exact ⟨⟨i + 1, seen, wait, g, by simp, by omega, HK.out.1, HN.out, HK.out.2.2⟩, HME.out hlt⟩
            | true =>
              have hhx : rs[i].1.2.1 = x0 := Hhd.out.symm.trans (ba_eq.1 hb)
              by_cases hjl : j < rs[i].2.length
              · have hjI : (j : Int) < (rs[i].2.length : Int) := by omega
                obtain ⟨lg, rfl, hlc⟩ := (isLs_cells hls).2 (by omega)
                obtain ⟨ta, hta, z0, z1, z2⟩ := hlc j hjl
                obtain ⟨tg, tc, rfl⟩ := own_sl hta
                have HPN : Hid (∀ x b, pend rs i j x0 x b → pend rs i (j + 1) x0 x b ∨ (isP rs[i].2[j] ∧ rs[i].2[j].2.1 = b ∧ b ∈ idsOf rs ∧ x = x0)) := fun x b h => pend_next hlt hjl h
                have HED : Hid (isP rs[i].2[j] → rs[i].2[j].2.1 ∈ idsOf rs → Edg rs x0 rs[i].2[j].2.1) := fun h1 h2 => ⟨rs[i], List.getElem_mem hlt, hhx, rs[i].2[j], List.getElem_mem hjl, h1, rfl, h2⟩
                clear hta hlc hls hhx HNR
                generalize rs[i].2[j].2.2.length = tn at z2
                generalize hl0 : rs[i].2[j] = l at *
                clear hl0
                obtain ⟨lk, ln, lt⟩ := l
                simp only at z0 z1
                obtain ⟨U, hU⟩ : ∃ U, U = wr.alloc (.cells #[.int .i64 lk, .string ln, .slice tg tn tc] 57) := ⟨_, rfl⟩
                have hUB : Below wr.heap.size wr U := by rw [hU]; exact (Below.refl _ _).alloc (Nat.le_refl _) _
                have hUL : U.heap[wr.heap.size]? = some (.cells #[.int .i64 lk, .string ln, .slice tg tn tc] 57 (0, 0)) := by rw [hU]; exact heap_alloc_new _ _
                have HU := hide (HK.out.1.below hUB)
                have u0 : U.cell? ⟨wr.heap.size, 0, none⟩ = some (.int .i64 lk) := by rw [cell_of_row _ _ 0 _ _ _ hUL]; rfl
                have u1 : U.cell? ⟨wr.heap.size, 1, none⟩ = some (.string ln) := by rw [cell_of_row _ _ 1 _ _ _ hUL]; rfl
                have HDf := hide (Ck.rdefined_any ln (HRW.out U HU.out.z) (by have := HO.out.1; omega))
                have HSK : Hid ((∀ b, isP ((lk, ln, lt) : Sy.Lit) → ln = b → b ∈ idsOf rs → b ≠ nm ∧ b ∈ seen) → Rq w U u5 u6 seen wait g ∧ Sx rs nm seen wait (pend rs i (j + 1) x0) ∧ wait.length + ((idsOf rs).length - seen.length) + 1 ≤ gk ∧ (x0 = nm ∨ x0 ∈ seen)) := fun hh => ⟨HU.out, HK.out.2.1.imp (fun x b hb => (HPN.out x b hb).elim .inl (fun k => .inr (hh b k.1 k.2.1 k.2.2.1))), HK.out.2.2⟩
                have EU := hide hU
                clear hU hUB
                go_upto_region 13 with fail
                rw [← EU.out]
                clear y1 y2 y3 z0 z1 z2
                by_cases hp : lk = 1 ∨ lk = 2
                · go_cut [70] from 56 to 69 (fun v wc => v = .bool (!(Ck.defR rs ln)) ∧ wc = U)
                  case first =>
                    clear HSK HU HK HPN HED
                    rcases hp with rfl | rfl
                    · go_wp2_with fail
                      refine Calls.mono HDf.out ?_
                      rintro e w6 ⟨rfl, hw6⟩
                      have hw6' := hw6.symm
                      subst hw6'
                      clear hw6
                      go_wp2_with fail
                      go_meet
                      exact ⟨rfl, rfl⟩
                    · go_wp2_with fail
                      refine Calls.mono HDf.out ?_
                      rintro e w6 ⟨rfl, hw6⟩
                      have hw6' := hw6.symm
                      subst hw6'
                      clear hw6
                      go_wp2_with fail
                      go_meet
                      exact ⟨rfl, rfl⟩
                  case rest =>
                    obtain ⟨rfl, hcw⟩ := hcut
                    rw [hcw]
                    clear hcw
                    cases hd : Ck.defR rs ln with
                    | false =>
                      have HN2 := hide (HSK.out (fun b _ e hm => by rw [← e] at hm; rw [defR_iff.2 hm] at hd; cases hd))
                      clear HSK HU HK HPN HED hUL
                      go_wp2_with fail
                      exact ⟨⟨j + 1, seen, wait, g, by simp, by omega, HN2.out⟩, HMJ.out hjl⟩
                    | true =>
                      have hm := defR_iff.1 hd
                      have hed := HED.out hp hm
                      cases hq : (ln.toList == nm.toList) with
                      | true =>
                        have e : ln = nm := ba_eq.1 hq
                        have HE : Hid (BackN rs nm ∧ Below w.heap.size w U) := ⟨bkn_iff.1 (HK.out.2.1.found HK.out.2.2.2 (by rw [← e]; exact hed)), HU.out.z⟩
                        clear HSK HU HK HPN HED hUL e hed hm
                        go_wp2_with fail
                        go_ret
                        exact ⟨true, rfl, ⟨(fun _ => HE.out.1), (fun _ => rfl)⟩, HE.out.2⟩
                      | false =>
                        have hne : ln ≠ nm := fun e => by rw [ba_eq.2 e] at hq; cases hq
                        obtain ⟨sa', sc', hsv'⟩ := own_sl HU.out.s
                        have hsl30 : seen.length ≤ 30 := Nat.le_trans (Tj.nodup_len HK.out.2.1.s.nd HK.out.2.1.s.sm) hid30
                        have HPl := hide (place_any HU.out.s (by omega) ln)
                        by_cases hms : memB seen ln = true
                        · have hpl : plc seen ln = (ixN seen ln : Int) := if_pos hms
                          have hp0 : ¬ ((ixN seen ln : Int) < 0) := by omega
                          rw [hpl] at HPl
                          have HN2 := hide (HSK.out (fun b _ e _ => by rw [← e]; exact ⟨hne, memB_iff.1 hms⟩))
                          clear HSK HU HK HPN HED hUL hed hm hne hms hpl
                          generalize ixN seen ln = ix at *
                          subst hsv'
                          go_wp2_with fail
                          refine Calls.mono HPl.out ?_
                          rintro e w6 ⟨rfl, hw6⟩
                          have hw6' := hw6.symm
                          subst hw6'
                          clear hw6 HPl
                          go_wp2_with fail
                          exact ⟨⟨j + 1, seen, wait, g, by simp, by omega, HN2.out⟩, HMJ.out hjl⟩
                        · have hpl : plc seen ln = -1 := if_neg hms
                          rw [hpl] at HPl
                          have hns : ln ∉ seen := fun h => hms (memB_iff.2 h)
                          have hwl2 : wait.length ≤ 40 := by have := HK.out.2.2.1; omega
                          obtain ⟨sg, sc2, w3, g', qa, qc, w5, hr1, hr2, HR5, HF3⟩ := HU.out.push2 ln (by omega) (by omega)
                          have u13 : w3.cell? ⟨wr.heap.size, 1, none⟩ = some (.string ln) := HF3.out.cell u1 (own_ty HU.out.s hUL (by decide))
                          obtain ⟨M, HMM⟩ : ∃ M, Hid (M = seen.length + 1) := ⟨_, rfl⟩
                          obtain ⟨N, HNN⟩ : ∃ N, Hid (N = wait.length + 1) := ⟨_, rfl⟩
                          rw [← HMM.out] at hr1 HR5
                          rw [← HNN.out] at hr2 HR5
                          have HN2 : Hid (Rq w w5 (.slice (some ⟨sg, 0, none⟩) M sc2) (.slice qa N qc) (seen ++ [ln]) (wait ++ [ln]) g' ∧ Sx rs nm (seen ++ [ln]) (wait ++ [ln]) (pend rs i (j + 1) x0) ∧ (wait ++ [ln]).length + ((idsOf rs).length - (seen ++ [ln]).length) + 1 ≤ gk ∧ (x0 = nm ∨ x0 ∈ seen ++ [ln])) := by
                            have hS := HK.out.2.1.push (Q := pend rs i (j + 1) x0) HK.out.2.2.2 hed hne hns (fun x b hb => (HPN.out x b hb).imp id (fun k => k.2.1.symm))
                            refine ⟨HR5.out, hS, ?_, HK.out.2.2.2.imp id (fun k => List.mem_append_left _ k)⟩
                            have h1 := Tj.nodup_len hS.s.nd hS.s.sm
                            have h2 := HK.out.2.2.1
                            simp only [List.length_append, List.length_singleton] at h1 ⊢
                            omega
                          have hUQ := HU.out.q
                          obtain ⟨qo, qcp, qcur, hqv', _⟩ := hUQ
                          clear HSK HK HPN HED hed hm hne hms hpl HR5 HMM HNN hns HF3
                          subst hsv'
                          subst hqv'
                          clear HU
                          go_wp2_with fail
                          refine Calls.mono HPl.out ?_
                          rintro e w6 ⟨rfl, hw6⟩
                          have hw6' := hw6.symm
                          subst hw6'
                          clear hw6 HPl
                          go_upto_region 18 with (at_builtin; refine Lx.wpList_append_run _ rfl (.tmp 80) (.tmp 83) 32 32 rfl _ _ rfl rfl (hr1 _) ?_)
                          clear hr1
                          go_wp2_with (at_builtin; refine Lx.wpList_append_run _ rfl (.tmp 85) (.tmp 88) 32 32 rfl _ _ rfl rfl (hr2 _) ?_)
                          exact ⟨⟨j + 1, seen ++ [ln], wait ++ [ln], g', by simp, by omega, HN2.out⟩, HMJ.out hjl⟩
                · have g1 : (lk != 1) = true := by simp; exact fun e => hp (.inl e)
                  have g2 : (lk != 2) = true := by simp; exact fun e => hp (.inr e)
                  have HN2 := hide (HSK.out (fun b h _ _ => absurd h hp))
                  clear HSK hp HK HU HPN HED hUL
                  go_wp2_with fail
                  exact ⟨⟨j + 1, seen, wait, g, by simp, by omega, HN2.out⟩, HMJ.out hjl⟩
              · have hge : ¬ ((j : Int) < (rs[i].2.length : Int)) := by omega
                have HN : Hid (Sx rs nm seen wait (pend rs (i + 1) 0 x0)) := HNR.out (.inl (by omega))
                clear hls hhx
                go_wp2_with fail
                exact ⟨⟨i + 1, seen, wait, g, by simp, by omega, HK.out.1, HN.out, HK.out.2.2⟩, HME.out hlt⟩
        · have hge : ¬ ((i : Int) < (rs.length : Int)) := by omega
          have HN : Hid (Sx rs nm seen wait (fun _ _ => False)) := HJ.out.2.1.imp (fun x b hb => absurd hb (fun h => pend_end (by omega) h))
          have hms := HJ.out.2.2.1
          have HQ := hide HJ.out.1
          clear HJ
          go_wp2_with fail
          go_roundg (wait.length + ((idsOf rs).length - seen.length))
          case measure => omega
          case rel => exact ⟨seen, wait, g, HQ.out, HN.out, Nat.le_refl _, by omega⟩
end Go.Proofs.Ytdmhajeaphnebaa.Gr
namespace Go.Proofs.Ytdmhajeaphnebaa.Gr
open Go.RowKit
open Vl (Fr)
open Lx (tx)
open Sy (isRs isRs_below Rul OkR)
open Ck (begR1 begR2 begT1 begT2 rules_any beg_rules1 beg_rules2 read_ok)
open Tj (NSol NLeast hdN idsOf heads_ids BackN)
variable {w : World}
theorem ok_read (s : ByteArray) : OkRs (Ck.rulesS s) := read_ok s
theorem sorted_one {S T : List ByteArray} (h1 : S.Pairwise (fun a b => bsL a ≤ bsL b)) (h2 : T.Pairwise (fun a b => bsL a ≤ bsL b)) (hp : S.Perm T) : S = T :=
  List.Perm.eq_of_pairwise (le := fun a b => bsL a ≤ bsL b) (fun _ _ _ _ h k => bsL_inj (List.le_antisymm h k)) h1 h2 hp
theorem of_yes {rs : List Rul} {w w2 : World} {x : Ending} (h : OfR rs w x w2) {t : ByteArray → Int} (ht : NSol rs t) : Below w.heap.size w w2 ∧ ∃ ob L s, x = .returned (.tuple #[.map (some ob), .int .i64 0]) ∧ Mp w2 ob L s ∧ L.Perm (idsOf rs) ∧ NLeast rs s := by
  rcases h.2 with ⟨ob, L, s, h1, h2, h3, h4, _⟩ | ⟨_, hn⟩
  · exact ⟨h.1, ob, L, s, h1, h2, h3, h4⟩
  · exact absurd ht (hn t)
theorem of_no {rs : List Rul} {w w2 : World} {x : Ending} (h : OfR rs w x w2) (ht : ∀ t, ¬ NSol rs t) : Below w.heap.size w w2 ∧ x = .returned (.tuple #[.map none, .int .i64 7]) := by
  rcases h.2 with ⟨_, _, s, _, _, _, h4, _⟩ | ⟨h1, _⟩
  · exact absurd h4.sol (ht s)
  · exact ⟨h.1, h1⟩
theorem ord_yes {rs : List Rul} {w w2 : World} {x : Ending} (h : OrdR rs w x w2) {t : ByteArray → Int} (ht : NSol rs t) : Below w.heap.size w w2 ∧ ∃ go co h V S s, x = .returned (.tuple #[.slice (some ⟨go, 0, none⟩) h co, .int .i64 0]) ∧ (w2.ownsRow 0 32 1 (.slice (some ⟨go, 0, none⟩) h co) h ((List.range h).map V) ∧ ∀ k, k < h → w2.ownsRow 0 9 1 (V k) (lev s S k).length (nmRow (lev s S k))) ∧ S.Perm (idsOf rs) ∧ S.Pairwise (fun a b => bsL a ≤ bsL b) ∧ NLeast rs s ∧ (∀ x ∈ S, s x < (h : Int)) ∧ (h = 0 ∨ ∃ x ∈ S, s x + 1 = (h : Int)) := by
  rcases h.2 with h1 | ⟨_, hn⟩
  · exact ⟨h.1, h1⟩
  · exact absurd ht (hn t)
theorem ord_no {rs : List Rul} {w w2 : World} {x : Ending} (h : OrdR rs w x w2) (ht : ∀ t, ¬ NSol rs t) : Below w.heap.size w w2 ∧ x = .returned (.tuple #[.slice none 0 0, .int .i64 7]) := by
  rcases h.2 with ⟨_, _, _, _, _, s, _, _, _, _, h4, _⟩ | ⟨h1, _⟩
  · exact absurd h4.sol (ht s)
  · exact ⟨h.1, h1⟩
set_option maxHeartbeats 8000000 in
set_option maxRecDepth 4000 in
theorem begun_any : Calls Try.prog 5 #[] w fun x w2 => x = .returned (.bool true) ∧ Below w.heap.size w w2 := by
  have HR1 : Hid (Calls Try.prog 6 #[.string ⟨#[112, 32, 58, 45, 32, 33, 113, 46, 32, 113, 32, 58, 45, 32, 114, 46, 32, 115, 32, 58, 45, 32, 115, 46]⟩] w fun e w' => (∃ y, e = .returned y ∧ isRs w' begR1 y) ∧ Below w.heap.size w w') := by
    have h := rules_any begT1 w
    rw [beg_rules1] at h
    exact h
  have HR2 : Hid (∀ W, Calls Try.prog 6 #[.string ⟨#[112, 32, 58, 45, 32, 33, 112, 46]⟩] W fun e w' => (∃ y, e = .returned y ∧ isRs w' begR2 y) ∧ Below W.heap.size W w') := fun W => by
    have h := rules_any begT2 W
    rw [beg_rules2] at h
    exact h
  have HO1 : Hid (OkRs begR1) := by
    have h := ok_read begT1
    rw [beg_rules1] at h
    exact h
  have HO2 : Hid (OkRs begR2) := by
    have h := ok_read begT2
    rw [beg_rules2] at h
    exact h
  go_enter Try.func5, Try.ntmps5
  go_wp2_with fail
  refine Calls.mono HR1.out ?_
  rintro x w1 ⟨⟨y1, rfl, hi1⟩, hb1⟩
  obtain ⟨ya, yc, hy1⟩ := Rp.isRs_shape hi1
  have HI1 := hide hi1
  have HB1 := hide hb1
  have HOf := hide (of_any HI1.out HO1.out)
  subst hy1
  clear hi1 hb1 HR1
  go_wp2_with fail
  refine Calls.mono HOf.out ?_
  intro x w2 hof
  obtain ⟨hb2, ob, L, s, rfl, hmp, hperm, hleast⟩ := of_yes hof nsol1
  have HB2 : Hid (Below w.heap.size w w2) := HB1.out.trans (hb2.mono HB1.out.size)
  have HI2 := hide (isRs_below HI1.out hb2)
  have HMp := hide hmp
  have hl1 := least1 hleast
  rw [ids1] at hperm
  have HPe := hide hperm
  have HLe := hide hl1
  have HOr := hide (order_any HI2.out HO1.out)
  clear hof hb2 hmp hperm hleast hl1 HOf HI1
  go_wp2_with fail
  refine Calls.mono HOr.out ?_
  intro x w3 hor
  obtain ⟨hb3, go, co, h, V, S, s3, rfl, ⟨hrow, hrows⟩, hSp, hSs, hl3, hlt, hex⟩ := ord_yes hor nsol1
  have hl1 := least1 hl3
  rw [ids1] at hSp
  have hS : S = [tx [112], tx [113], tx [115]] := sorted_one hSs (by decide) hSp
  subst hS
  have hh : h = 2 := by
    have h1 := hlt (tx [112]) (by simp)
    rw [hl1.1] at h1
    rcases hex with h2 | ⟨x, hx, h2⟩
    · omega
    · simp only [List.mem_cons, List.not_mem_nil, or_false] at hx
      rcases hx with rfl | rfl | rfl
      · rw [hl1.1] at h2; omega
      · rw [hl1.2.1] at h2; omega
      · rw [hl1.2.2] at h2; omega
  subst hh
  have hlev : lev s3 [tx [112], tx [113], tx [115]] 0 = [tx [113], tx [115]] := by
    simp [lev, hl1.1, hl1.2.1, hl1.2.2]
  have hr0 := hrows 0 (by omega)
  rw [hlev] at hr0
  have HB3 : Hid (Below w.heap.size w w3) := HB2.out.trans (hb3.mono HB2.out.size)
  have HM3 := hide (HMp.out.below hb3)
  have HI3 := hide (isRs_below HI2.out hb3)
  have HRo := hide hrow
  have HR0 := hide hr0
  clear hb3 hrow hrows hSp hSs hl3 hlt hex hl1 hlev hr0 HOr HI2 HMp hor
  go_wp2_with fail
  refine Calls.mono (HR2.out _) ?_
  rintro x w4 ⟨⟨y2, rfl, hi4⟩, hb4⟩
  obtain ⟨za, zc, hy2⟩ := Rp.isRs_shape hi4
  have HOf2 := hide (of_any hi4 HO2.out)
  subst hy2
  have HB4 := hide hb4
  clear hi4 hb4 HR2
  go_wp2_with fail
  refine Calls.mono HOf2.out ?_
  intro x w5 hof2
  obtain ⟨hb5, rfl⟩ := of_no hof2 nsol2
  have hb35 : Below w3.heap.size w3 w5 := HB4.out.trans (hb5.mono HB4.out.size)
  have hM5 := HM3.out.below hb35
  have HI5 := hide (isRs_below HI3.out hb35)
  have hRo5 := own_of_cell HRo.out (Fr.of_below (F := fun _ => False) hb35) (fun _ hk => hk.elim)
  have hR05 := own_of_cell HR0.out (Fr.of_below (F := fun _ => False) hb35) (fun _ hk => hk.elim)
  have HB5 : Hid (Below w.heap.size w w5) := HB3.out.trans (hb35.mono HB3.out.size)
  have gp : (Instr.lookup 25 (.map (some ob)) (.string ⟨#[112]⟩) false).run Try.prog w5 = .ok (.int .i64 1) w5 := by
    have h1 := hM5.get (x := tx [112]) (HPe.out.mem_iff.2 (by simp))
    rw [HLe.out.1] at h1
    exact h1
  have gq : (Instr.lookup 25 (.map (some ob)) (.string ⟨#[113]⟩) false).run Try.prog w5 = .ok (.int .i64 0) w5 := by
    have h1 := hM5.get (x := tx [113]) (HPe.out.mem_iff.2 (by simp))
    rw [HLe.out.2.1] at h1
    exact h1
  obtain ⟨_, _, ee, -, -, hoc, -⟩ := own_open hRo5 (by omega)
  simp only [Value.slice.injEq, Option.some.injEq, Addr.mk.injEq, and_true, true_and] at ee
  obtain ⟨rfl, rfl⟩ := ee
  have o0 : w5.cell? ⟨go, 0, none⟩ = some (V 0) := (hoc 0 (by omega)).trans (by simp)
  obtain ⟨v0g, v0c, hv0, -, -, hvc, -⟩ := own_open hR05 (by simp)
  have o1 : w5.cell? ⟨v0g, 1, none⟩ = some (.string ⟨#[115]⟩) := (hvc 1 (by simp)).trans rfl
  rw [hv0] at o0
  simp only [List.length_cons, List.length_nil, Nat.zero_add, Nat.reduceAdd] at o0
  have HRs := hide (recursive_any HI5.out HO1.out (tx [115]))
  have HRp : Hid (∀ W, Below w5.heap.size w5 W → Calls Try.prog 11 #[.slice ya begR1.length yc, .string (tx [112])] W fun x w2 => ∃ b, x = .returned (.bool b) ∧ (b = true ↔ BackN begR1 (tx [112])) ∧ Below W.heap.size W w2) := fun W hb => recursive_any (isRs_below HI5.out hb) HO1.out (tx [112])
  clear hof2 hb5 hb35 hM5 hRo5 hR05 hoc hvc hv0 HOf2 HM3 HI3 HRo HR0
  go_wp2_with fail
  refine Calls.mono HRs.out ?_
  rintro x w6 ⟨b6, rfl, hb6, hB6⟩
  have e6 : b6 = true := hb6.2 back_s
  subst e6
  have HB6 := hide hB6
  clear hb6 hB6 gp gq o0 o1 HRs
  go_wp2_with fail
  refine Calls.mono (HRp.out _ HB6.out) ?_
  rintro x w7 ⟨b7, rfl, hb7, hB7⟩
  have e7 : b7 = false := by
    cases b7 with
    | false => rfl
    | true => exact absurd (hb7.1 rfl) back_p
  subst e7
  have HB7 : Hid (Below w.heap.size w w7) := (HB5.out.trans (HB6.out.mono HB5.out.size)).trans (hB7.mono (HB5.out.trans (HB6.out.mono HB5.out.size)).size)
  clear hb7 hB7 HRp
  go_wp2_with fail
  go_ret
  exact ⟨rfl, HB7.out⟩
end Go.Proofs.Ytdmhajeaphnebaa.Gr
namespace Go.Proofs.Ytdmhajeaphnebaa.Gr
open Go.RowKit
open Vl (Fr)
open Sy (isRs isRs_below Rul OkR)
open Tj (NSol NLeast hdN idsOf heads_ids BackN ixN ixN_at memB memB_iff)
variable {f : ByteArray → Int} {Hs : List ByteArray} {rs : List Rul}
theorem Hq.perm (h : Hq Hs rs) : Hs.Perm (idsOf rs) := (List.perm_ext_iff_of_nodup h.asc.nodup (heads_ids rs).nd).2 fun x => by rw [h.mem, (heads_ids rs).mem]
theorem Asc.le (h : Asc Hs) : Hs.Pairwise (fun a b => bsL a ≤ bsL b) := h.imp fun {a b} hab => show ¬ bsL b < bsL a from fun k => List.lt_irrefl _ (List.lt_trans hab k)
theorem Hq.one {T : List ByteArray} (h : Hq Hs rs) (k : Hq T rs) : Hs = T := sorted_one h.asc.le k.asc.le (h.perm.trans k.perm.symm)
theorem Hq.sorted {S : List ByteArray} (h : Hq Hs rs) (hp : S.Perm (idsOf rs)) (hs : S.Pairwise (fun a b => bsL a ≤ bsL b)) : S = Hs := sorted_one hs h.asc.le (hp.trans h.perm.symm)
/-- How many stand below a level. -/
def cnt (f : ByteArray → Int) (Hs : List ByteArray) (k : Int) : Nat := Hs.countP fun x => decide (f x < k)
theorem cnt_zero (h : ∀ x ∈ Hs, 0 ≤ f x) : cnt f Hs 0 = 0 := by
  unfold cnt
  rw [List.countP_eq_zero]
  intro x hx
  have := h x hx
  simp; omega
theorem cnt_all {k : Int} (h : ∀ x ∈ Hs, f x < k) : cnt f Hs k = Hs.length := by
  unfold cnt
  rw [List.countP_eq_length]
  intro x hx
  simpa using h x hx
theorem cnt_next (k : Nat) : cnt f Hs ((k : Int) + 1) = cnt f Hs (k : Int) + (lev f Hs k).length := by
  unfold cnt lev
  induction Hs with
  | nil => rfl
  | cons x r ih =>
    rw [List.countP_cons, List.countP_cons, List.filter_cons, ih]
    by_cases e : f x = (k : Int)
    · have h1 : decide (f x < (k : Int) + 1) = true := by simp; omega
      have h2 : decide (f x < (k : Int)) = false := by simp; omega
      have h3 : decide (f x = (k : Int)) = true := by simp [e]
      rw [h1, h2, h3]
      simp
      omega
    · have h3 : decide (f x = (k : Int)) = false := by simp [e]
      have h4 : decide (f x < (k : Int) + 1) = decide (f x < (k : Int)) := by
        apply Bool.eq_iff_iff.2
        simp
        omega
      rw [h3, h4]
      simp
      omega
theorem lev_take {i k : Nat} (hi : i < Hs.length) (he : f Hs[i] = (k : Int)) : (lev f Hs k)[(lev f (Hs.take i) k).length]? = some Hs[i] ∧ (lev f (Hs.take (i + 1)) k).length = (lev f (Hs.take i) k).length + 1 ∧ (lev f (Hs.take i) k).length < (lev f Hs k).length := by
  have h1 : Hs = Hs.take i ++ Hs[i] :: Hs.drop (i + 1) := by rw [List.getElem_cons_drop, List.take_append_drop]
  have h2 : lev f Hs k = lev f (Hs.take i) k ++ Hs[i] :: lev f (Hs.drop (i + 1)) k := by
    conv => lhs; rw [h1]
    simp only [lev, List.filter_append, List.filter_cons, he, decide_true, if_true]
  refine ⟨by rw [h2]; simp, ?_, by rw [h2]; simp⟩
  rw [List.take_succ_eq_append_getElem hi]
  simp only [lev, List.filter_append, List.filter_cons, List.filter_nil, he, decide_true, if_true, List.length_append, List.length_singleton]
theorem lev_skip {i k : Nat} (hi : i < Hs.length) (he : f Hs[i] ≠ (k : Int)) : lev f (Hs.take (i + 1)) k = lev f (Hs.take i) k := by
  rw [List.take_succ_eq_append_getElem hi]
  have e : decide (f Hs[i] = (k : Int)) = false := by simp [he]
  simp only [lev, List.filter_append, List.filter_cons, List.filter_nil, e, Bool.false_eq_true, if_false, List.append_nil]
theorem lev_congr {g : ByteArray → Int} (h : ∀ x ∈ Hs, f x = g x) (k : Nat) : lev f Hs k = lev g Hs k := List.filter_congr fun x hx => by rw [h x hx]
theorem lev_pos (hq : Hq Hs rs) (hl : NLeast rs f) {h k : Nat} (hk : k < h) (hx : h = 0 ∨ ∃ x ∈ Hs, f x + 1 = (h : Int)) : 0 < (lev f Hs k).length := by
  rcases hx with h0 | ⟨x, hx, e⟩
  · omega
  · obtain ⟨q, hqm, eq⟩ := (hq.mem x).1 hx
    have hex : ∃ r ∈ rs, f (hdN r) = (k : Int) := by
      by_cases e2 : f x = (k : Int)
      · exact ⟨q, hqm, by rw [eq]; exact e2⟩
      · exact level_some hl (by omega) hqm (by rw [eq]; omega)
    obtain ⟨r, hr, e3⟩ := hex
    have : hdN r ∈ lev f Hs k := by
      unfold lev
      rw [List.mem_filter]
      exact ⟨(hq.mem _).2 ⟨r, hr, rfl⟩, by simpa using e3⟩
    exact List.length_pos_of_mem this
end Go.Proofs.Ytdmhajeaphnebaa.Gr
namespace Go.Proofs.Ytdmhajeaphnebaa.Gr
open Go.RowKit
open Vl (Fr)
open Sy (isRs isRs_below Rul OkR)
open Ck (rules_any rulesS)
open Tj (NSol NLeast hdN idsOf heads_ids BackN ixN ixN_at memB memB_iff)
variable {w : World}
theorem bel_drewN {B : Nat} {a w : World} (h : Below B a w) (n : Nat) : Below B a (w.drewN n) := h.trans ⟨rfl, rfl, rfl, Nat.le_refl _, fun _ _ => rfl⟩
theorem both {P : Prop} {a b : Bool} (h : a = true ↔ P) (k : b = true ↔ P) : a = b := Bool.eq_iff_iff.2 (h.trans k.symm)
set_option maxHeartbeats 16000000 in
set_option maxRecDepth 4000 in
theorem all_any (s nm : ByteArray) : Calls Try.prog 3 #[.string s, .string nm] w fun x w2 => x = .returned (.bool true) ∧ Below w.heap.size w w2 := by
  have HB := hide (begun_any (w := w))
  have HRu : Hid (∀ W, Calls Try.prog 6 #[.string s] W fun e w' => (∃ y, e = .returned y ∧ isRs w' (rulesS s) y) ∧ Below W.heap.size W w') := fun W => rules_any s W
  have HO : Hid (OkRs (rulesS s)) := ok_read s
  generalize rulesS s = rs at *
  go_enter Try.func3, Try.ntmps3
  go_wp2_with fail
  refine Calls.mono HB.out ?_
  rintro x w1 ⟨rfl, hb1⟩
  have HB1 := hide hb1
  clear hb1 HB
  go_wp2_with fail
  refine Calls.mono (HRu.out _) ?_
  rintro x w2 ⟨⟨y, rfl, hi2⟩, hb2⟩
  obtain ⟨ya, yc, hy⟩ := Rp.isRs_shape hi2
  have HI2 := hide hi2
  have HB2 : Hid (Below w.heap.size w w2) := HB1.out.trans (hb2.mono HB1.out.size)
  have HOf := hide (of_any HI2.out HO.out)
  subst hy
  clear hi2 hb2 HRu HB1
  go_wp2_with fail
  refine Calls.mono HOf.out ?_
  intro x w3 hof
  have HB3 : Hid (Below w.heap.size w w3) := HB2.out.trans (hof.1.mono HB2.out.size)
  have HI3 := hide (isRs_below HI2.out hof.1)
  have HF := hide hof
  have HOr := hide (order_any HI3.out HO.out)
  have hx3 : ∃ mo e3, x = .returned (.tuple #[.map mo, .int .i64 e3]) := by
    rcases hof.2 with ⟨ob, _, _, h, _⟩ | ⟨h, _⟩
    · exact ⟨_, _, h⟩
    · exact ⟨_, _, h⟩
  obtain ⟨mo, e3, rfl⟩ := hx3
  clear hof HOf HI2
  go_wp2_with fail
  refine Calls.mono HOr.out ?_
  intro x w4 hor
  have HB4 : Hid (Below w.heap.size w w4) := HB3.out.trans (hor.1.mono HB3.out.size)
  have HI4 := hide (isRs_below HI3.out hor.1)
  have HR := hide hor
  have HHd := hide (heads_any HI4.out HO.out.1)
  have hx4 : ∃ oa oh oc e4, x = .returned (.tuple #[.slice oa oh oc, .int .i64 e4]) := by
    rcases hor.2 with ⟨_, _, _, _, _, _, h, _⟩ | ⟨h, _⟩
    · exact ⟨_, _, _, _, h⟩
    · exact ⟨_, _, _, _, h⟩
  obtain ⟨oa, oh, oc, e4, rfl⟩ := hx4
  clear hor HOr HI3
  go_wp2_with fail
  refine Calls.mono HHd.out ?_
  rintro x w5 ⟨hv, rfl, Hs, hrow, hq, hb5⟩
  have HB5 : Hid (Below w.heap.size w w5) := HB4.out.trans (hb5.mono HB4.out.size)
  have HI5 := hide (isRs_below HI4.out hb5)
  have HQ := hide hq
  have HSt := hide (rstrata_any HI5.out HO.out)
  have HW5 := hide hrow
  have Hb5 := hide hb5
  obtain ⟨ha, hc, hhv⟩ := own_sl hrow
  subst hhv
  have hn30 : Hs.length ≤ 30 := by
    rw [hq.perm.length_eq]
    exact Nat.le_trans (Tj.idsOf_len rs) HO.out.1
  clear hrow hq hb5 HHd HI4
  go_wp2_with fail
  refine Calls.mono HSt.out ?_
  intro x W hst
  have HBW : Hid (Below w.heap.size w W) := HB5.out.trans (hst.1.mono HB5.out.size)
  have HIW := hide (isRs_below HI5.out hst.1)
  have HWh : Hid (W.ownsRow 0 9 1 (.slice ha Hs.length hc) Hs.length (nmRow Hs)) := own_of_cell HW5.out (Fr.of_below (F := fun _ => False) hst.1) (fun _ hk => hk.elim)
  have HA : Hid (∀ V x, Below W.heap.size W V → Calls Try.prog 11 #[.slice ya rs.length yc, .string x] V fun e w2 => ∃ b, e = .returned (.bool b) ∧ (b = true ↔ BackN rs x) ∧ Below V.heap.size V w2) := fun V x hb => recursive_any (isRs_below HIW.out hb) HO.out x
  have HC : Hid (∀ V x, Below W.heap.size W V → Calls Try.prog 12 #[.slice ya rs.length yc, .string x] V fun e w2 => ∃ b, e = .returned (.bool b) ∧ (b = true ↔ BackN rs x) ∧ Below V.heap.size V w2) := fun V x hb => rrec_any (isRs_below HIW.out hb) HO.out x
  have HWn : Hid (∀ V, Below W.heap.size W V → ∀ i (hi : i < Hs.length), ∃ g, ha = some ⟨g, 0, none⟩ ∧ V.cell? ⟨g, i, none⟩ = some (.string Hs[i])) := fun V hb i hi => by
    obtain ⟨g, c, e, _, _, hcc, _⟩ := own_open HWh.out (by omega)
    simp only [Value.slice.injEq] at e
    exact ⟨g, e.1, cell_bel ((hcc i (by omega)).trans (by simp [nmRow, hi])) hb⟩
  clear HSt HI5 HW5
  rcases hst.2 with ⟨sv, Hs', st, rfl, hsr, hq', hl⟩ | ⟨rfl, hno⟩
  · obtain ⟨_, ob, L, s3, h3, hmp, hperm, hl3⟩ := of_yes HF.out hl.sol
    obtain ⟨_, go, co, hh, V, S, s4, h4, ⟨hrow, hrows⟩, hSp, hSs, hl4, hlt4, hex4⟩ := ord_yes HR.out hl.sol
    simp only [Ending.returned.injEq, Value.tuple.injEq, Array.mk.injEq, List.cons.injEq, Value.map.injEq, Value.int.injEq, true_and, and_true, Value.slice.injEq] at h3 h4
    obtain ⟨rfl, rfl⟩ := h3
    obtain ⟨⟨rfl, rfl, rfl⟩, rfl⟩ := h4
    have hHs := HQ.out.one hq'
    subst hHs
    have hS := HQ.out.sorted hSp hSs
    subst hS
    obtain ⟨f, hf⟩ : ∃ f : ByteArray → Int, f = fun x => st (ixN S x) := ⟨_, rfl⟩
    rw [← hf] at hl
    have hw4 : Below w4.heap.size w4 W := Hb5.out.trans (hst.1.mono Hb5.out.size)
    have hw3 : Below w3.heap.size w3 W := HR.out.1.trans (hw4.mono HR.out.1.size)
    have hof3 : ∀ x ∈ S, s3 x = f x := fun x hx => by
      obtain ⟨r, hr, e⟩ := (HQ.out.mem x).1 hx
      rw [← e]; exact hl3.one hl r hr
    have hof4 : ∀ x ∈ S, s4 x = f x := fun x hx => by
      obtain ⟨r, hr, e⟩ := (HQ.out.mem x).1 hx
      rw [← e]; exact hl4.one hl r hr
    have hf0 : ∀ x ∈ S, 0 ≤ f x := fun x hx => by
      obtain ⟨r, hr, e⟩ := (HQ.out.mem x).1 hx
      rw [← e]; exact hl.sol.nn r hr
    have HMp : Hid (Mp W ob L f) := (hmp.below hw3).congr (fun x hx => hof3 x (HQ.out.perm.mem_iff.2 (hperm.mem_iff.1 hx)))
    have HLm : Hid (∀ x ∈ S, x ∈ L) := fun x hx => hperm.mem_iff.2 (HQ.out.perm.mem_iff.1 hx)
    have hLl : L.length = S.length := hperm.length_eq.trans HQ.out.perm.length_eq.symm
    have HRow : Hid (W.ownsRow 0 32 1 (.slice (some ⟨go, 0, none⟩) oh oc) oh ((List.range oh).map V)) := own_of_cell hrow (Fr.of_below (F := fun _ => False) hw4) (fun _ hk => hk.elim)
    have HRows : Hid (∀ k, k < oh → W.ownsRow 0 9 1 (V k) (lev f S k).length (nmRow (lev f S k))) := fun k hk => by
      have h1 := own_of_cell (hrows k hk) (Fr.of_below (F := fun _ => False) hw4) (fun _ hk => hk.elim)
      rw [lev_congr hof4] at h1
      exact h1
    have HLt : Hid (∀ x ∈ S, f x < (oh : Int)) := fun x hx => by rw [← hof4 x hx]; exact hlt4 x hx
    have HPos : Hid (∀ k, k < oh → 0 < (lev f S k).length) := fun k hk => lev_pos HQ.out hl hk (hex4.imp id (fun ⟨x, hx, e⟩ => ⟨x, hx, by rw [← hof4 x hx]; exact e⟩))
    have hh30 : oh ≤ 31 := by
      rcases hex4 with h0 | ⟨x, hx, e⟩
      · omega
      · obtain ⟨r, hr, e2⟩ := (HQ.out.mem x).1 hx
        have h1 := hl4.small r hr
        rw [e2] at h1
        have := Tj.idsOf_len rs
        have := HO.out.1
        omega
    have HSt : Hid (∀ i (hi : i < S.length), f S[i] = st i) := fun i hi => by
      rw [hf]
      show st (ixN S S[i]) = st i
      rw [ixN_at HQ.out.asc.nodup (List.getElem?_eq_getElem hi)]
    have HSr := hide hsr
    have HF0 := hide hf0
    obtain ⟨sa, sc, hsv⟩ := own_sl hsr
    subst hsv
    have hnI : (S.length : Int) ≤ 30 := by omega
    have hhI : (oh : Int) ≤ 31 := by omega
    clear hst hq' hmp hperm hl3 hrow hrows hSp hSs hl4 hlt4 hex4 hw4 hw3 hof3 hof4 hf0 hsr hf hl HF HR
    go_wp2_with fail
    go_loopw [14] (fun iv wr => ∃ i : Nat, iv = .int .i64 (i : Int) ∧ i ≤ S.length ∧ Hid (Below W.heap.size W wr)) (fun iv _ => S.length - (intOf iv).toNat)
    case atStart => exact ⟨0, rfl, Nat.zero_le _, Below.refl _ _⟩
    case round =>
      obtain ⟨i, rfl, hi, HBi⟩ := hrel
      by_cases hlt : i < S.length
      · have hltI : (i : Int) < (S.length : Int) := by omega
        have HWi : Hid (∀ V, Below W.heap.size W V → ∃ g, ha = some ⟨g, 0, none⟩ ∧ V.cell? ⟨g, i, none⟩ = some (.string S[i])) := fun V hb => HWn.out V hb i hlt
        have HME : Hid (S.length - (intOf (.int .i64 ((i : Int) + 1))).toNat < S.length - (intOf (.int .i64 (i : Int))).toNat) := by
          show _ < _
          simp [intOf]; omega
        obtain ⟨g, hha, x0⟩ := HWi.out wr HBi.out
        generalize S[i] = x at *
        subst hha
        go_upto_region 12 with fail
        go_cut [59] from 47 to 58 (fun v wc => v = .bool false ∧ Hid (Below W.heap.size W wc))
        case first =>
          refine wp_region_noPanic ?_
          go_region_with (first
            | (go_at_call 11; refine Calls.mono (HA.out _ x (by first | exact HBi.out.drew | exact HB12.out)) ?_; rintro e v5 ⟨b5, rfl, hb5, hB5⟩; have HB11 : Hid (Below W.heap.size W v5) := (by first | exact HBi.out.drew.trans (hB5.mono HBi.out.drew.size) | exact HB12.out.trans (hB5.mono HB12.out.size)); have xA := HWi.out v5 HB11.out; obtain ⟨gA, eA, xA⟩ := xA; simp only [Option.some.injEq, Addr.mk.injEq, and_true] at eA; subst eA)
            | (go_at_call 12; refine Calls.mono (HC.out _ x (by first | exact HBi.out.drew | exact HB11.out)) ?_; rintro e v6 ⟨b6, rfl, hb6, hB6⟩; have HB12 : Hid (Below W.heap.size W v6) := (by first | exact HBi.out.drew.trans (hB6.mono HBi.out.drew.size) | exact HB11.out.trans (hB6.mono HB11.out.size)); have xC := HWi.out v6 HB12.out; obtain ⟨gC, eC, xC⟩ := xC; simp only [Option.some.injEq, Addr.mk.injEq, and_true] at eC; subst eC))
          all_goals refine NoPanic.normal ?_
          all_goals have hne := hide (both hb5 hb6)
          all_goals clear HA HC HWi
          all_goals go_wp2_with fail
          all_goals go_meet
          all_goals first | exact ⟨by rw [hne.out]; simp, HB12⟩ | exact ⟨by rw [hne.out]; simp, HB11⟩
        case rest =>
          obtain ⟨rfl, HBc⟩ := hcut
          clear x0
          go_wp2_with fail
          exact ⟨⟨i + 1, by simp, by omega, HBc⟩, HME.out⟩
      · have hge : ¬ ((i : Int) < (S.length : Int)) := by omega
        have hlen := (HMp.out.below HBi.out).len
        rw [hLl] at hlen
        have HBx := hide HBi.out
        clear HBi
        go_wp2_with fail
        have HZ : Hid (cnt f S 0 = 0) := cnt_zero HF0.out
        go_loopw [15, 16] (fun av bv wr => ∃ lv : Nat, av = .int .i64 ((cnt f S (lv : Int) : Nat) : Int) ∧ bv = .int .i64 (lv : Int) ∧ lv ≤ oh ∧ Hid (Below W.heap.size W wr)) (fun _ bv _ => oh - (intOf bv).toNat)
        case atStart => exact ⟨0, by rw [show ((0 : Nat) : Int) = 0 from rfl, HZ.out]; rfl, rfl, Nat.zero_le _, HBx⟩
        case round =>
          obtain ⟨lv, rfl, rfl, hlv, HBl⟩ := hrel
          by_cases hlo : lv < oh
          · have hloI : (lv : Int) < (oh : Int) := by omega
            have HME : Hid (oh - (intOf (.int .i64 ((lv : Int) + 1))).toNat < oh - (intOf (.int .i64 (lv : Int))).toNat) := by
              show _ < _
              simp [intOf]; omega
            obtain ⟨c0, HC0⟩ : ∃ c0 : Nat, Hid (cnt f S (lv : Int) = c0) := ⟨_, rfl⟩
            have HC1 : Hid (cnt f S ((lv : Int) + 1) = c0 + (lev f S lv).length) := by
              have h1 := cnt_next (f := f) (Hs := S) lv
              rw [HC0.out] at h1
              exact h1
            have HP := hide (HPos.out lv hlo)
            have HT0 : Hid ((lev f (S.take 0) lv).length = 0) := rfl
            have HcS : Hid (c0 + (lev f S lv).length ≤ S.length) := by
              have h1 := HC1.out
              have h2 : cnt f S ((lv : Int) + 1) ≤ S.length := List.countP_le_length
              show _ ≤ _
              omega
            rw [HC0.out]
            have hOv : ∀ V', Below W.heap.size W V' → V'.cell? ⟨go, lv, none⟩ = some (V lv) := fun V' hb => by
              obtain ⟨g, c, e, _, _, hcc, _⟩ := own_open HRow.out (by omega)
              simp only [Value.slice.injEq, Option.some.injEq, Addr.mk.injEq, and_true] at e
              obtain ⟨rfl, _⟩ := e
              exact cell_bel ((hcc lv (by omega)).trans (by simp [hlo])) hb
            have HOv := hide hOv
            obtain ⟨g2, c2, hV, _, _, hcell, _⟩ := own_open (HRows.out lv hlo) HP.out
            have HV : Hid (∀ V', Below W.heap.size W V' → ∀ k x, (lev f S lv)[k]? = some x → V'.cell? ⟨g2, k, none⟩ = some (.string x)) := fun V' hb k x hk => by
              have hk2 := (List.getElem?_eq_some_iff.1 hk).1
              exact cell_bel ((hcell k (by omega)).trans (by simp [nmRow, hk])) hb
            rw [hV] at HOv
            clear hOv hV hcell
            go_wp2_with fail
            go_loopw [15, 17, 18] (fun av kv iv wr => ∃ i : Nat, av = .int .i64 ((c0 + (lev f (S.take i) lv).length : Nat) : Int) ∧ kv = .int .i64 (((lev f (S.take i) lv).length : Nat) : Int) ∧ iv = .int .i64 (i : Int) ∧ i ≤ S.length ∧ Hid (Below W.heap.size W wr)) (fun _ _ iv _ => S.length - (intOf iv).toNat)
            case atStart => exact ⟨0, by rw [HT0.out]; rfl, by rw [HT0.out]; rfl, rfl, Nat.zero_le _, HBl⟩
            case round =>
              obtain ⟨i, rfl, rfl, rfl, hi, HBi⟩ := hrel
              by_cases hlt : i < S.length
              · have hltI : (i : Int) < (S.length : Int) := by omega
                have HM3 : Hid (S.length - (intOf (.int .i64 ((i : Int) + 1))).toNat < S.length - (intOf (.int .i64 (i : Int))).toNat) := by
                  show _ < _
                  simp [intOf]; omega
                obtain ⟨gs, cs, hse, _, _, hscell, _⟩ := own_open HSr.out (by omega)
                simp only [Value.slice.injEq] at hse
                have hsa := hse.1
                have s0 : wr.cell? ⟨gs, i, none⟩ = some (.int .i64 (f S[i])) := by
                  rw [HSt.out i hlt]
                  exact cell_bel ((hscell i (by omega)).trans (by simp [rowI, hlt])) HBi.out
                clear hse hscell
                subst hsa
                by_cases hfe : f S[i] = (lv : Int)
                · obtain ⟨t1, t2, t3⟩ := lev_take hlt hfe
                  obtain ⟨g, hha, x0⟩ := HWn.out wr HBi.out i hlt
                  have o0 := HOv.out wr HBi.out
                  have p0 := HV.out wr HBi.out _ _ t1
                  have M0 : Hid (∀ n, (Instr.lookup 25 (.map (some ob)) (.string S[i]) false).run Try.prog (wr.drewN n) = .ok (.int .i64 (lv : Int)) (wr.drewN n)) := fun n => by
                    rw [← hfe]
                    exact (HMp.out.below (bel_drewN HBi.out n)).get (HLm.out _ (List.getElem_mem hlt))
                  rw [hfe] at s0
                  have T2 := hide t2
                  have hcS := HcS.out
                  clear t1 t2 hfe
                  generalize S[i] = x at *
                  subst hha
                  obtain ⟨k, HK⟩ : ∃ k, Hid ((lev f (S.take i) lv).length = k) := ⟨_, rfl⟩
                  rw [HK.out] at t3 p0 T2
                  rw [HK.out]
                  obtain ⟨m, Hm⟩ : ∃ m, Hid ((lev f S lv).length = m) := ⟨_, rfl⟩
                  rw [Hm.out] at t3 o0 hcS
                  obtain ⟨a0, HA0⟩ : ∃ a0, Hid (c0 + k = a0) := ⟨_, rfl⟩
                  have ha0 : (a0 : Int) ≤ 30 := by have := HA0.out; omega
                  rw [HA0.out]
                  have hk30 : (k : Int) ≤ 30 := by omega
                  have hkm : ¬ ((m : Int) ≤ (k : Int)) := by omega
                  have hkd : decide ((m : Int) ≤ (k : Int)) = false := by simpa using hkm
                  have hkI : (k : Int) < (m : Int) := by omega
                  clear hcS
                  go_upto_region 27 with fail
                  refine wp_region_quiet_lit (by kernel_rfl) (by kernel_rfl) ?_
                  repeat (go_big_quiet_step ((rw [M0.out]; exact ⟨rfl, rfl⟩)))
                  refine wpQuiet_nil ?_
                  intro _ hw'
                  obtain ⟨nq, hw''⟩ := hw'
                  subst hw''
                  have HBn : Hid (Below W.heap.size W (wr.drewN nq)) := bel_drewN HBi.out nq
                  clear M0 s0 x0 o0 p0
                  go_wp2_with fail
                  exact ⟨⟨i + 1, congrArg (Value.int .i64) (by have := HA0.out; have := T2.out; omega), congrArg (Value.int .i64) (by have := T2.out; omega), congrArg (Value.int .i64) (by omega), by omega, HBn⟩, HM3.out⟩
                · have T2 : Hid (lev f (S.take (i + 1)) lv = lev f (S.take i) lv) := lev_skip hlt hfe
                  generalize f S[i] = z at *
                  obtain ⟨k, HK⟩ : ∃ k, Hid ((lev f (S.take i) lv).length = k) := ⟨_, rfl⟩
                  rw [HK.out]
                  obtain ⟨a0, HA0⟩ : ∃ a0, Hid (c0 + k = a0) := ⟨_, rfl⟩
                  rw [HA0.out]
                  go_wp2_with fail
                  exact ⟨⟨i + 1, congrArg (Value.int .i64) (by rw [T2.out]; have := HA0.out; have := HK.out; omega), congrArg (Value.int .i64) (by rw [T2.out]; have := HK.out; omega), congrArg (Value.int .i64) (by omega), by omega, HBi⟩, HM3.out⟩
              · have hge3 : ¬ ((i : Int) < (S.length : Int)) := by omega
                have hie : i = S.length := by omega
                have hta : S.take i = S := by rw [hie]; exact List.take_length
                rw [hta]
                have o0 := HOv.out wr HBi.out
                have hP := HP.out
                obtain ⟨m, Hm⟩ : ∃ m, Hid ((lev f S lv).length = m) := ⟨_, rfl⟩
                rw [Hm.out] at hP o0
                rw [Hm.out]
                obtain ⟨a0, HA0⟩ : ∃ a0, Hid (c0 + m = a0) := ⟨_, rfl⟩
                rw [HA0.out]
                have hm0 : ¬ ((m : Int) = 0) := by omega
                have HC2 : Hid (cnt f S ((lv : Int) + 1) = a0) := HC1.out.trans (by rw [Hm.out, HA0.out])
                clear hta hie
                go_wp2_with fail
                exact ⟨⟨lv + 1, by rw [show ((lv + 1 : Nat) : Int) = (lv : Int) + 1 from by omega, HC2.out], congrArg (Value.int .i64) (by omega), by omega, HBi⟩, HME.out⟩
          · have hgl : ¬ ((lv : Int) < (oh : Int)) := by omega
            have HCA : Hid (cnt f S (lv : Int) = S.length) := cnt_all fun x hx => by
              have := HLt.out x hx
              omega
            rw [HCA.out]
            go_wp2_with fail
            refine Calls.mono (HA.out _ nm HBl.out) ?_
            rintro e v5 ⟨b5, rfl, hb5, hB5⟩
            have HB11 : Hid (Below W.heap.size W v5) := HBl.out.trans (hB5.mono HBl.out.size)
            have hb5' := hide hb5
            clear hB5 HA hb5
            go_wp2_with fail
            refine Calls.mono (HC.out _ nm HB11.out) ?_
            rintro e v6 ⟨b6, rfl, hb6, hB6⟩
            have HB12 : Hid (Below W.heap.size W v6) := HB11.out.trans (hB6.mono HB11.out.size)
            have hne : b5 = b6 := both hb5'.out hb6
            subst hne
            have HE : Hid (Below w.heap.size w v6) := HBW.out.trans (HB12.out.mono HBW.out.size)
            clear hB6 HC hb6 hb5' HB12 HB11
            go_wp2_with fail
            go_ret
            first | exact ⟨rfl, HE.out⟩ | exact ⟨by simp, HE.out⟩
  · obtain ⟨_, h3⟩ := of_no HF.out hno
    obtain ⟨_, h4⟩ := ord_no HR.out hno
    simp only [Ending.returned.injEq, Value.tuple.injEq, Array.mk.injEq, List.cons.injEq, Value.map.injEq, Value.int.injEq, true_and, and_true, Value.slice.injEq] at h3 h4
    obtain ⟨rfl, rfl⟩ := h3
    obtain ⟨⟨rfl, rfl, rfl⟩, rfl⟩ := h4
    have hln : ∀ V ty, (Builtin.len_ #[25] ty #[.map none]).run Try.prog V = .ok (.int .i64 0) V := fun V ty => Maps.len_nil Try.underlying25 ty
    clear hst hno HF HR
    go_wp2_with fail
    go_loopw [14] (fun iv wr => ∃ i : Nat, iv = .int .i64 (i : Int) ∧ i ≤ Hs.length ∧ Hid (Below W.heap.size W wr)) (fun iv _ => Hs.length - (intOf iv).toNat)
    case atStart => exact ⟨0, rfl, Nat.zero_le _, Below.refl _ _⟩
    case round =>
      obtain ⟨i, rfl, hi, HBi⟩ := hrel
      by_cases hlt : i < Hs.length
      · have hltI : (i : Int) < (Hs.length : Int) := by omega
        have HWi : Hid (∀ V, Below W.heap.size W V → ∃ g, ha = some ⟨g, 0, none⟩ ∧ V.cell? ⟨g, i, none⟩ = some (.string Hs[i])) := fun V hb => HWn.out V hb i hlt
        have HME : Hid (Hs.length - (intOf (.int .i64 ((i : Int) + 1))).toNat < Hs.length - (intOf (.int .i64 (i : Int))).toNat) := by
          show _ < _
          simp [intOf]; omega
        obtain ⟨g, hha, x0⟩ := HWi.out wr HBi.out
        generalize Hs[i] = x at *
        subst hha
        go_upto_region 12 with fail
        go_cut [59] from 47 to 58 (fun v wc => v = .bool false ∧ Hid (Below W.heap.size W wc))
        case first =>
          refine wp_region_noPanic ?_
          go_region_with (first
            | (go_at_call 11; refine Calls.mono (HA.out _ x (by first | exact HBi.out.drew | exact HB12.out)) ?_; rintro e v5 ⟨b5, rfl, hb5, hB5⟩; have HB11 : Hid (Below W.heap.size W v5) := (by first | exact HBi.out.drew.trans (hB5.mono HBi.out.drew.size) | exact HB12.out.trans (hB5.mono HB12.out.size)); have xA := HWi.out v5 HB11.out; obtain ⟨gA, eA, xA⟩ := xA; simp only [Option.some.injEq, Addr.mk.injEq, and_true] at eA; subst eA)
            | (go_at_call 12; refine Calls.mono (HC.out _ x (by first | exact HBi.out.drew | exact HB11.out)) ?_; rintro e v6 ⟨b6, rfl, hb6, hB6⟩; have HB12 : Hid (Below W.heap.size W v6) := (by first | exact HBi.out.drew.trans (hB6.mono HBi.out.drew.size) | exact HB11.out.trans (hB6.mono HB11.out.size)); have xC := HWi.out v6 HB12.out; obtain ⟨gC, eC, xC⟩ := xC; simp only [Option.some.injEq, Addr.mk.injEq, and_true] at eC; subst eC))
          all_goals refine NoPanic.normal ?_
          all_goals have hne := hide (both hb5 hb6)
          all_goals clear HA HC HWi
          all_goals go_wp2_with fail
          all_goals go_meet
          all_goals first | exact ⟨by rw [hne.out]; simp, HB12⟩ | exact ⟨by rw [hne.out]; simp, HB11⟩
        case rest =>
          obtain ⟨rfl, HBc⟩ := hcut
          clear x0
          go_wp2_with fail
          exact ⟨⟨i + 1, by simp, by omega, HBc⟩, HME.out⟩
      · have hge : ¬ ((i : Int) < (Hs.length : Int)) := by omega
        have HE : Hid (Below w.heap.size w wr) := HBW.out.trans (HBi.out.mono HBW.out.size)
        clear HA HC HWn
        go_wp2_with fail
        go_ret
        exact ⟨rfl, HE.out⟩
end Go.Proofs.Ytdmhajeaphnebaa.Gr

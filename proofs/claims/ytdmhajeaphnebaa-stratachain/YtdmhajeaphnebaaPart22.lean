/- StrataChain: the law's walk. -/
import Derived.Test.YtdmhajeaphnebaaPart21
import Derived.BigQuiet
namespace Go.Proofs.Ytdmhajeaphnebaa.Gr
open Go.RowKit
open Vl (Fr)
open Lx (tx)
open Sy (isRs isRs_below Rul OkR)
open Ck (rules_any rulesS)
open Tj (NSol NLeast hdN idsOf heads_ids BackN ixN ixN_at memB memB_iff)
open Ps (nmS sgc texT chainT chainR Bls name_any)
variable {w : World}
theorem own_new {w : World} {v v' : Value} (h : ∀ k, v.ownBlock = some k → w.heap.size ≤ k) {W : World} (hs : w.heap.size ≤ W.heap.size) (hg : Gw W v v') : ∀ k, v'.ownBlock = some k → w.heap.size ≤ k := fun k hk => by
  rcases hg k hk with h1 | h1
  · exact h k h1
  · omega
theorem rowI_snoc (f : Nat → Int) (n : Nat) : rowI f n ++ [.int .i64 (f n)] = rowI f (n + 1) := by simp [rowI, List.range_succ]
theorem bls_at {w W : World} {L : List Bool} {v : Value} (h : Bls w v L) (hb : Below w.heap.size w W) {i : Nat} (hi : i < L.length) : ∃ g off cap, v = .slice (some ⟨g, off, none⟩) L.length cap ∧ W.cell? ⟨g, off + i, none⟩ = some (.bool L[i]) := by
  obtain ⟨ao, cap, rfl, _, h2⟩ := h
  obtain ⟨g, off, rfl, hc⟩ := h2 (by omega)
  exact ⟨g, off, cap, rfl, cell_bel (hc i hi) hb⟩
theorem neq_back {rs : List Rul} {x : ByteArray} {b k : Bool} (h : b = true ↔ BackN rs x) (h2 : BackN rs x ↔ k = true) : b = k := Bool.eq_iff_iff.2 (h.trans h2)
set_option maxHeartbeats 16000000 in
set_option maxRecDepth 4000 in
theorem chain_any (L : List Bool) (v : Value) (k : Bool) (hv : Bls w v L) : Calls Try.prog 4 #[v, .bool k] w fun x w2 => x = .returned (.bool true) ∧ Below w.heap.size w w2 := by
  have HB := hide (begun_any (w := w))
  have HN : Hid (∀ (W : World) (i : Nat), i ≤ 20 → Calls Try.prog 13 #[.int .i64 (i : Int)] W fun x w2 => x = .returned (.string (nmS i)) ∧ Below W.heap.size W w2) := fun W i hi => name_any hi
  have HN0 : Hid (∀ (W : World), Calls Try.prog 13 #[.int .i64 0] W fun x w2 => x = .returned (.string (nmS 0)) ∧ Below W.heap.size W w2) := fun W => name_any (i := 0) (by omega)
  have HV := hide hv
  obtain ⟨ao, cap, rfl, hml, _⟩ := hv
  obtain ⟨n, hn⟩ : ∃ n, n = min L.length 20 := ⟨_, rfl⟩
  have hn20 : n ≤ 20 := by omega
  have hnL : n ≤ L.length := by omega
  have hmin : ∀ W, (Builtin.min_ #[3, 3] 3 #[.int .i64 (L.length : Int), .int .i64 20]).run Try.prog W = .ok (.int .i64 (n : Int)) W := fun W => Ps.run_min20 _ _ hn _ _
  obtain ⟨M, HM⟩ : ∃ M, Hid (M = L.take n) := ⟨_, rfl⟩
  have HMl : Hid (M.length = n) := by
    show _ = _
    rw [HM.out, List.length_take]; omega
  have HMg : Hid (∀ i (h : i < n), ∃ h2 : i < L.length, ∃ h3 : i < M.length, M[i] = L[i]) := fun i h => ⟨by omega, by rw [HMl.out]; exact h, by
    have h4 := HM.out
    subst h4
    simp⟩
  have hsz0 : (nmS 0).size = 3 := Ps.nm_size 0
  have HT0 := hide (Ps.tex_zero M)
  clear hn
  go_enter Try.func4, Try.ntmps4
  go_wp2_with fail
  refine Calls.mono HB.out ?_
  rintro x w1 ⟨rfl, hb1⟩
  have HB1 := hide hb1
  clear hb1 HB
  go_wp2_with fail
  refine Calls.mono (HN0.out _) ?_
  rintro x w2 ⟨rfl, hb2⟩
  have HB2 : Hid (Below w.heap.size w w2) := HB1.out.trans (hb2.mono HB1.out.size)
  have HB3 : Hid (Below w.heap.size w (w2.alloc (.cells #[.int .i64 0] 3))) := HB2.out.alloc HB2.out.size _
  have HR3 : Hid ((w2.alloc (.cells #[.int .i64 0] 3)).ownsRow 0 3 1 (.slice (some ⟨w2.heap.size, 0, none⟩) 1 1) 1 (rowI (fun m => ((sgc M m : Nat) : Int)) 1)) := by
    show World.ownsRow _ _ _ _ _ _ _
    rw [show rowI (fun m => ((sgc M m : Nat) : Int)) 1 = [.int .i64 0] from by simp [rowI, Ps.sgc_zero]]
    exact ⟨rfl, .inr ⟨_, 1, _, rfl, Nat.zero_le _, heap_alloc_new _ _, Nat.le_refl _, by simp [maxLen], rfl, rfl⟩⟩
  have hsz2 := HB2.out.size
  have HF0 : Hid (false = decide (0 < sgc M 0)) := by show _ = _; rw [Ps.sgc_zero]; rfl
  clear hb2 HB1
  go_wp2_with fail
  go_loopw [7, 8, 9, 10] (fun sv lv bv iv wr => ∃ (i : Nat) (S : ByteArray) (g c : Nat) (fb : Bool), sv = .string S ∧ lv = .slice (some ⟨g, 0, none⟩) (i + 1) c ∧ bv = .bool fb ∧ iv = .int .i64 ((i : Int) + 1) ∧ i ≤ n ∧ S.size ≤ 300 ∧ Hid (fb = decide (0 < sgc M i)) ∧ Hid (S = tx (texT M i)) ∧ Hid (wr.ownsRow 0 3 1 (.slice (some ⟨g, 0, none⟩) (i + 1) c) (i + 1) (rowI (fun m => ((sgc M m : Nat) : Int)) (i + 1))) ∧ Hid (w.heap.size ≤ g) ∧ Hid (Below w.heap.size w wr)) (fun _ _ _ iv _ => n + 1 - (intOf iv).toNat)
  case atStart => exact ⟨0, _, _, _, _, rfl, rfl, rfl, rfl, Nat.zero_le _, (by rw [HT0.out]; exact Ps.tex_len (by omega)), HF0, HT0, HR3, hsz2, HB3⟩
  case round =>
    obtain ⟨i, S, g, c, fb, rfl, rfl, rfl, rfl, hi, hS3, HFb, HS, HR, HG, HBi⟩ := hrel
    have hiI : (i : Int) ≤ 20 := by omega
    by_cases hlt : i < n
    · have hltI : (i : Int) + 1 ≤ (n : Int) := by omega
      have HME : Hid (n + 1 - (intOf (.int .i64 ((i : Int) + 1 + 1))).toNat < n + 1 - (intOf (.int .i64 ((i : Int) + 1))).toNat) := by
        show _ < _
        simp [intOf]; omega
      obtain ⟨h2, h3, hMi⟩ := HMg.out i hlt
      obtain ⟨gv, off, cv, hvv, hb0⟩ := bls_at HV.out HBi.out h2
      simp only [Value.slice.injEq, true_and] at hvv
      obtain ⟨rfl, rfl⟩ := hvv
      rw [← hMi] at hb0
      have h2I : (i : Int) < (L.length : Int) := by omega
      have c0 : wr.cell? ⟨g, i, none⟩ = some (.int .i64 ((sgc M i : Nat) : Int)) := by
        obtain ⟨_, _, e, _, _, hcc, _⟩ := own_open HR.out (by omega)
        simp only [Value.slice.injEq, Option.some.injEq, Addr.mk.injEq, and_true, true_and] at e
        obtain ⟨rfl, rfl⟩ := e
        exact (hcc i (by omega)).trans (rowI_get _ (by omega))
      have hsg : sgc M i ≤ 20 := Nat.le_trans (Ps.sgc_le (by rw [HMl.out]; exact hi)) (by omega)
      have HSn := hide (Ps.sgc_next (List.getElem?_eq_getElem h3))
      obtain ⟨q, HQ⟩ : ∃ q : Nat, Hid (q = sgc M i) := ⟨_, rfl⟩
      rw [← HQ.out] at hsg c0
      have hsgI : (q : Int) ≤ 20 := by omega
      have HN1 : Hid (∀ (W : World), Calls Try.prog 13 #[.int .i64 ((i : Int) + 1)] W fun x w2 => x = .returned (.string (nmS (i + 1))) ∧ Below W.heap.size W w2) := fun W => by
        have h := HN.out W (i + 1) (by omega)
        rw [Int.natCast_succ] at h
        exact h
      have HNi : Hid (∀ (W : World), Calls Try.prog 13 #[.int .i64 (i : Int)] W fun x w2 => x = .returned (.string (nmS i)) ∧ Below W.heap.size W w2) := fun W => HN.out W i (by omega)
      have hz1 : (nmS (i + 1)).size = 3 := Ps.nm_size _
      have hz2 : (nmS i).size = 3 := Ps.nm_size _
      have HTf := hide (fun hb => Ps.tex_false h3 hb HS.out)
      have HTt := hide (fun hb => Ps.tex_true h3 hb HS.out)
      have HLen : Hid ((tx (texT M (i + 1))).size ≤ 300) := Ps.tex_len (by omega)
      generalize nmS (i + 1) = x1 at *
      generalize nmS i = x0 at *
      generalize M[i] = bb at *
      clear h3 hMi HV
      go_wp2_with fail
      refine Calls.mono (HN1.out _) ?_
      rintro x w3 ⟨rfl, hb3⟩
      have HB3 : Hid (Below w.heap.size w w3) := HBi.out.trans (hb3.mono HBi.out.size)
      have hb1 := cell_bel hb0 hb3
      have HR3 := hide (own_of_cell HR.out (Fr.of_below (F := fun _ => False) hb3) (fun _ hk => hk.elim))
      clear hb3 HR HBi hb0 c0
      cases bb with
      | false =>
        go_wp2_with fail
        refine Calls.mono (HNi.out _) ?_
        rintro x w4 ⟨rfl, hb4⟩
        have HB4 : Hid (Below w.heap.size w w4) := HB3.out.trans (hb4.mono HB3.out.size)
        have HR4 := hide (own_of_cell HR3.out (Fr.of_below (F := fun _ => False) hb4) (fun _ hk => hk.elim))
        clear hb4
        obtain ⟨g', c', w5, hr, k1, k2, k3⟩ := push_row 34 3 1 8 _ Try.underlying34 Try.info3 rfl (by decide) (by decide) HR4.out [.int .i64 ((q : Int))] rfl (by simp [Value.oneCell']) (by omega)
        have HRE : Hid (w5.ownsRow 0 3 1 (.slice (some ⟨g', 0, none⟩) (i + 1 + 1) c') (i + 1 + 1) (rowI (fun m => ((sgc M m : Nat) : Int)) (i + 1 + 1))) := by
          have h1 := k1.out
          have h2 : (q : Int) = ((sgc M (i + 1) : Nat) : Int) := by rw [HSn.out, ← HQ.out]; simp
          rw [h2, rowI_snoc (fun m => ((sgc M m : Nat) : Int))] at h1
          exact h1
        have HGE : Hid (w.heap.size ≤ g') := by
          rcases k3.out g' rfl with h1 | h1
          · simp [Value.ownBlock] at h1
            rw [← h1]
            exact HG.out
          · exact Nat.le_trans HB4.out.size h1
        have HBE : Hid (Below w.heap.size w w5) := HB4.out.trans (k2.out.below (fun k hk => by
          simp [Value.ownBlock] at hk
          rw [← hk]
          exact HG.out) HB4.out.size)
        have HFE : Hid (fb = decide (0 < sgc M (i + 1))) := by
          show _ = _
          rw [HSn.out]
          simpa using HFb.out
        go_wp2_with (at_builtin; refine Lx.wpList_append_run _ rfl (.tmp 57) (.tmp 59) 34 34 rfl _ _ rfl rfl (hr _) ?_)
        exact ⟨⟨i + 1, _, g', c', _, rfl, by simp, rfl, by simp, by omega, (by rw [HTf.out (by trivial)]; exact HLen.out), HFE, HTf.out (by trivial), HRE, HGE, HBE⟩, HME.out⟩
      | true =>
        go_wp2_with fail
        refine Calls.mono (HNi.out _) ?_
        rintro x w4 ⟨rfl, hb4⟩
        have HB4 : Hid (Below w.heap.size w w4) := HB3.out.trans (hb4.mono HB3.out.size)
        have HR4 := hide (own_of_cell HR3.out (Fr.of_below (F := fun _ => False) hb4) (fun _ hk => hk.elim))
        clear hb4
        obtain ⟨g', c', w5, hr, k1, k2, k3⟩ := push_row 34 3 1 8 _ Try.underlying34 Try.info3 rfl (by decide) (by decide) HR4.out [.int .i64 ((q : Int) + 1)] rfl (by simp [Value.oneCell']) (by omega)
        have HRE : Hid (w5.ownsRow 0 3 1 (.slice (some ⟨g', 0, none⟩) (i + 1 + 1) c') (i + 1 + 1) (rowI (fun m => ((sgc M m : Nat) : Int)) (i + 1 + 1))) := by
          have h1 := k1.out
          have h2 : ((q : Int) + 1 : Int) = ((sgc M (i + 1) : Nat) : Int) := by rw [HSn.out, ← HQ.out]; simp
          rw [h2, rowI_snoc (fun m => ((sgc M m : Nat) : Int))] at h1
          exact h1
        have HGE : Hid (w.heap.size ≤ g') := by
          rcases k3.out g' rfl with h1 | h1
          · simp [Value.ownBlock] at h1
            rw [← h1]
            exact HG.out
          · exact Nat.le_trans HB4.out.size h1
        have HBE : Hid (Below w.heap.size w w5) := HB4.out.trans (k2.out.below (fun k hk => by
          simp [Value.ownBlock] at hk
          rw [← hk]
          exact HG.out) HB4.out.size)
        have HFE : Hid (true = decide (0 < sgc M (i + 1))) := by
          show _ = _
          rw [HSn.out]
          simp
        go_wp2_with (at_builtin; refine Lx.wpList_append_run _ rfl (.tmp 57) (.tmp 59) 34 34 rfl _ _ rfl rfl (hr _) ?_)
        exact ⟨⟨i + 1, _, g', c', _, rfl, by simp, rfl, by simp, by omega, (by rw [HTt.out (by trivial)]; exact HLen.out), HFE, HTt.out (by trivial), HRE, HGE, HBE⟩, HME.out⟩
    · have hge : ¬ ((i : Int) + 1 ≤ (n : Int)) := by omega
      obtain rfl : n = i := by omega
      have HSe : Hid (S = tx (texT M M.length)) := by
        show _ = _
        rw [HMl.out]
        exact HS.out
      have HNn : Hid (∀ (W : World), Calls Try.prog 13 #[.int .i64 (n : Int)] W fun x w2 => x = .returned (.string (nmS M.length)) ∧ Below W.heap.size W w2) := fun W => by
        rw [HMl.out]
        exact HN.out W n hn20
      have hzn : (nmS M.length).size = 3 := Ps.nm_size _
      have HEf := hide (Ps.tex_end HSe.out)
      have HEt := hide (Ps.tex_close HSe.out)
      clear HMg HT0 HB3 HR3 HF0 HV hmin
      go_upto_if 61 with fail
      go_cut [7] from 61 to 69 (fun sv wc => ∃ S', sv = .string S' ∧ Hid (S' = tx (chainT M k)) ∧ Hid (wc.ownsRow 0 3 1 (.slice (some ⟨g, 0, none⟩) (n + 1) c) (n + 1) (rowI (fun m => ((sgc M m : Nat) : Int)) (n + 1))) ∧ Hid (Below w.heap.size w wc))
      case first =>
        cases k with
        | false =>
          go_wp2_with fail
          go_meet
          exact ⟨S, rfl, HEf, HR, HBi⟩
        | true =>
          go_wp2_with fail
          refine Calls.mono (HN0.out _) ?_
          rintro x w3 ⟨rfl, hb3⟩
          have HB3 : Hid (Below w.heap.size w w3) := HBi.out.trans (hb3.mono HBi.out.size)
          have HR3 := hide (own_of_cell HR.out (Fr.of_below (F := fun _ => False) hb3) (fun _ hk => hk.elim))
          clear hb3
          go_wp2_with fail
          refine Calls.mono (HNn.out _) ?_
          rintro x w4 ⟨rfl, hb4⟩
          have HB4 : Hid (Below w.heap.size w w4) := HB3.out.trans (hb4.mono HB3.out.size)
          have HR4 := hide (own_of_cell HR3.out (Fr.of_below (F := fun _ => False) hb4) (fun _ hk => hk.elim))
          clear hb4
          go_wp2_with fail
          go_meet
          exact ⟨_, rfl, HEt, HR4, HB4⟩
      case rest =>
        obtain ⟨S', rfl, HS', HRc, HBc⟩ := hcut
        clear HEf HEt HNn HSe HS HR HBi hzn hsz0 hS3
        have HRu : Hid (∀ W, Calls Try.prog 6 #[.string S'] W fun e w' => (∃ y, e = .returned y ∧ isRs w' (chainR M k) y) ∧ Below W.heap.size W w') := fun W => by
          have h1 := rules_any S' W
          rw [HS'.out, Ps.chain_rules k (by rw [HMl.out]; exact hn20)] at h1
          rw [HS'.out]
          exact h1
        have HO : Hid (OkRs (chainR M k)) := by
          have h1 := ok_read S'
          rw [HS'.out, Ps.chain_rules k (by rw [HMl.out]; exact hn20)] at h1
          exact h1
        have hM20 : M.length ≤ 20 := by rw [HMl.out]; exact hn20
        have HM20 := hide hM20
        clear hM20
        obtain ⟨rs, hrs⟩ : ∃ rs, rs = chainR M k := ⟨_, rfl⟩
        have HRS := hide hrs
        rw [← hrs] at HRu HO
        clear hrs
        go_wp2_with fail
        refine Calls.mono (HRu.out _) ?_
        rintro x w2' ⟨⟨y, rfl, hi2⟩, hb2⟩
        obtain ⟨ya, yc, hy⟩ := Rp.isRs_shape hi2
        have HI2 := hide hi2
        have HB2' : Hid (Below w.heap.size w w2') := HBc.out.trans (hb2.mono HBc.out.size)
        have HR2 := hide (own_of_cell HRc.out (Fr.of_below (F := fun _ => False) hb2) (fun _ hk => hk.elim))
        have HOf := hide (of_any HI2.out HO.out)
        subst hy
        clear hi2 hb2 HRu HBc HRc
        go_wp2_with fail
        refine Calls.mono HOf.out ?_
        intro x w3 hof
        have HB3 : Hid (Below w.heap.size w w3) := HB2'.out.trans (hof.1.mono HB2'.out.size)
        have HI3 := hide (isRs_below HI2.out hof.1)
        have HR3 := hide (own_of_cell HR2.out (Fr.of_below (F := fun _ => False) hof.1) (fun _ hk => hk.elim))
        have HF := hide hof
        have HOr := hide (order_any HI3.out HO.out)
        have hx3 : ∃ mo e3, x = .returned (.tuple #[.map mo, .int .i64 e3]) := by
          rcases hof.2 with ⟨ob, _, _, h, _⟩ | ⟨h, _⟩
          · exact ⟨_, _, h⟩
          · exact ⟨_, _, h⟩
        obtain ⟨mo, e3, rfl⟩ := hx3
        clear hof HOf HI2 HR2
        go_wp2_with fail
        refine Calls.mono HOr.out ?_
        intro x W hor
        have HBW : Hid (Below w.heap.size w W) := HB3.out.trans (hor.1.mono HB3.out.size)
        have HIW := hide (isRs_below HI3.out hor.1)
        have HRW := hide (own_of_cell HR3.out (Fr.of_below (F := fun _ => False) hor.1) (fun _ hk => hk.elim))
        have HR := hide hor
        have hx4 : ∃ oa oh oc e4, x = .returned (.tuple #[.slice oa oh oc, .int .i64 e4]) := by
          rcases hor.2 with ⟨_, _, _, _, _, _, h, _⟩ | ⟨h, _⟩
          · exact ⟨_, _, _, _, h⟩
          · exact ⟨_, _, _, _, h⟩
        obtain ⟨oa, oh, oc, e4, rfl⟩ := hx4
        clear hor HOr HI3 HR3
        by_cases hring : k = true ∧ 0 < sgc M M.length
        · have hno : ∀ t, ¬ NSol rs t := by
            rw [HRS.out, hring.1]
            exact Ps.chain_no hring.2
          obtain ⟨_, h3⟩ := of_no HF.out hno
          obtain ⟨_, h4⟩ := ord_no HR.out hno
          simp only [Ending.returned.injEq, Value.tuple.injEq, Array.mk.injEq, List.cons.injEq, Value.map.injEq, Value.int.injEq, true_and, and_true, Value.slice.injEq] at h3 h4
          obtain ⟨rfl, rfl⟩ := h3
          obtain ⟨⟨rfl, rfl, rfl⟩, rfl⟩ := h4
          have hfb : fb = true := by
            have h1 := HFb.out
            have h2 := hring.2
            rw [HMl.out] at h2
            rw [h1]
            simpa using h2
          obtain ⟨hk, _⟩ := hring
          subst hk hfb
          clear hno HF HR HIW
          go_wp2_with fail
          go_ret
          exact ⟨by simp, HBW.out⟩
        · have hk0 : k = true → sgc M M.length = 0 := fun h => Nat.eq_zero_of_not_pos (fun h2 => hring ⟨h, h2⟩)
          have hL0 : NLeast rs (Ps.chF M) := by
            rw [HRS.out]
            exact Ps.chain_least HM20.out hk0
          obtain ⟨_, ob, L', s3, h3, hmp, hperm, hl3⟩ := of_yes HF.out hL0.sol
          obtain ⟨_, go, co, hh, V', S4, s4, h4, ⟨hrow, hrows⟩, hSp, hSs, hl4, hlt4, hex4⟩ := ord_yes HR.out hL0.sol
          simp only [Ending.returned.injEq, Value.tuple.injEq, Array.mk.injEq, List.cons.injEq, Value.map.injEq, Value.int.injEq, true_and, and_true, Value.slice.injEq] at h3 h4
          obtain ⟨rfl, rfl⟩ := h3
          obtain ⟨⟨rfl, rfl, rfl⟩, rfl⟩ := h4
          rw [HRS.out] at hperm hl3 hSp hl4
          have hoh := Ps.chain_high HM20.out hk0 hSp hl4 hlt4 hex4
          rw [HMl.out] at hoh
          have hLl : L'.length = n + 1 := by
            rw [hperm.length_eq, Ps.ids_count HM20.out, HMl.out]
          have HMp : Hid (Mp W ob L' s3) := hmp.below HR.out.1
          have HLv : Hid (∀ V, Below W.heap.size W V → ∀ i, i ≤ n → V.cell? ⟨g, i, none⟩ = some (.int .i64 ((sgc M i : Nat) : Int))) := fun V hb i hi => by
            obtain ⟨_, _, e, _, _, hcc, _⟩ := own_open HRW.out (by omega)
            simp only [Value.slice.injEq, Option.some.injEq, Addr.mk.injEq, and_true, true_and] at e
            obtain ⟨rfl, rfl⟩ := e
            exact cell_bel ((hcc i (by omega)).trans (rowI_get _ (by omega))) hb
          have HGt : Hid (∀ V, Below W.heap.size W V → ∀ i, i ≤ n → (Instr.lookup 25 (.map (some ob)) (.string (nmS i)) false).run Try.prog V = .ok (.int .i64 ((sgc M i : Nat) : Int)) V) := fun V hb i hi => by
            have h1 := (HMp.out.below hb).get (hperm.mem_iff.2 (Ps.nm_ids (by rw [HMl.out]; exact hi)))
            rw [Ps.chain_at HM20.out hk0 hl3 (by rw [HMl.out]; exact hi)] at h1
            exact h1
          have HA : Hid (∀ V i, Below W.heap.size W V → i ≤ n → Calls Try.prog 11 #[.slice ya rs.length yc, .string (nmS i)] V fun e w2 => e = .returned (.bool k) ∧ Below V.heap.size V w2) := fun V i hb hi => by
            refine (recursive_any (isRs_below HIW.out hb) HO.out (nmS i)).mono ?_
            rintro e w2 ⟨b, rfl, hb2, hB2⟩
            refine ⟨?_, hB2⟩
            rw [HRS.out] at hb2
            rw [neq_back hb2 (Ps.back_iff HM20.out k (by rw [HMl.out]; exact hi))]
          have l9 := HLv.out W (Below.refl _ _) n (Nat.le_refl _)
          have hnI : (n : Int) ≤ 20 := by omega
          have hq9 : sgc M n ≤ 20 := Nat.le_trans (Ps.sgc_le (by rw [HMl.out]; exact Nat.le_refl _)) hn20
          have HFk : Hid (k = false ∨ fb = false) := by
            cases k with
            | false => exact Or.inl rfl
            | true =>
              have h1 := HFb.out
              have h2 := hk0 rfl
              rw [HMl.out] at h2
              rw [h2] at h1
              exact Or.inr (by simpa using h1)
          subst hoh
          generalize sgc M n = q9 at *
          have hq9I : (q9 : Int) ≤ 20 := by omega
          clear hmp hperm hl3 hrow hrows hSp hSs hl4 hlt4 hex4 hring hk0 hL0 HF HR HIW HFb HRS HO HRW HM20 HB3 HB2' HS'
          rcases HFk.out with rfl | rfl
          · go_wp2_with fail
            go_loopw [17] (fun iv wr => ∃ i : Nat, iv = .int .i64 (i : Int) ∧ i ≤ n + 1 ∧ Hid (Below W.heap.size W wr)) (fun iv _ => n + 1 - (intOf iv).toNat)
            case atStart => exact ⟨0, rfl, Nat.zero_le _, Below.refl _ _⟩
            case round =>
              obtain ⟨i, rfl, hi, HBi⟩ := hrel
              have hiI : (i : Int) ≤ 21 := by omega
              by_cases hlt : i ≤ n
              · have hltI : (i : Int) ≤ (n : Int) := by omega
                have HME : Hid (n + 1 - (intOf (.int .i64 ((i : Int) + 1))).toNat < n + 1 - (intOf (.int .i64 (i : Int))).toNat) := by
                  show _ < _
                  simp [intOf]; omega
                have HCi : Hid (∀ V, Below W.heap.size W V → V.cell? ⟨g, i, none⟩ = some (.int .i64 ((sgc M i : Nat) : Int)) ∧ (Instr.lookup 25 (.map (some ob)) (.string (nmS i)) false).run Try.prog V = .ok (.int .i64 ((sgc M i : Nat) : Int)) V) := fun V hb => ⟨HLv.out V hb i hlt, HGt.out V hb i hlt⟩
                have HNi : Hid (∀ (W : World), Calls Try.prog 13 #[.int .i64 (i : Int)] W fun x w2 => x = .returned (.string (nmS i)) ∧ Below W.heap.size W w2) := fun W => HN.out W i (by omega)
                have HAi : Hid (∀ V, Below W.heap.size W V → Calls Try.prog 11 #[.slice ya rs.length yc, .string (nmS i)] V fun e w2 => e = .returned (.bool false) ∧ Below V.heap.size V w2) := fun V hb => HA.out V i hb hlt
                generalize nmS i = x at *
                generalize sgc M i = q at *
                obtain ⟨l0, l1⟩ := HCi.out wr HBi.out
                have hli : (i : Int) < (n : Int) + 1 := by omega
                go_upto_region 31 with fail
                go_cut [133] from 117 to 132 (fun v wc => v = .bool false ∧ Hid (Below W.heap.size W wc))
                case first =>
                  refine wp_region_noPanic ?_
                  go_region_with (first
                    | (go_at_call 13; refine Calls.mono (HNi.out _) ?_; rintro e v5 ⟨rfl, hB5⟩; have HB5 : Hid (Below W.heap.size W v5) := (by first | exact HBi.out.drew.trans (hB5.mono HBi.out.drew.size) | exact HB5.out.trans (hB5.mono HB5.out.size)); have hc5 := HCi.out v5 HB5.out; have lc5 := hc5.1; have lg5 := hc5.2; clear hc5 hB5)
                    | (go_at_call 11; refine Calls.mono (HAi.out _ HB5.out) ?_; rintro e v6 ⟨rfl, hB6⟩; have HB6 : Hid (Below W.heap.size W v6) := HB5.out.trans (hB6.mono HB5.out.size); clear hB6))
                  all_goals refine NoPanic.normal ?_
                  all_goals clear HCi HNi HAi
                  all_goals go_wp2_with fail
                  all_goals go_meet
                  all_goals exact ⟨by simp, HB6⟩
                case rest =>
                  obtain ⟨rfl, HBc⟩ := hcut
                  clear l0 l1
                  go_wp2_with fail
                  exact ⟨⟨i + 1, by simp, by omega, HBc⟩, HME.out⟩
              · have hge2 : ¬ ((i : Int) ≤ (n : Int)) := by omega
                have hlen := (HMp.out.below HBi.out).len
                rw [hLl] at hlen
                have HE : Hid (Below w.heap.size w wr) := HBW.out.trans (HBi.out.mono HBW.out.size)
                clear HBi HMp
                go_wp2_with fail
                go_ret
                exact ⟨by simp, HE.out⟩
          · cases k with
            | false =>
              go_wp2_with fail
              go_loopw [17] (fun iv wr => ∃ i : Nat, iv = .int .i64 (i : Int) ∧ i ≤ n + 1 ∧ Hid (Below W.heap.size W wr)) (fun iv _ => n + 1 - (intOf iv).toNat)
              case atStart => exact ⟨0, rfl, Nat.zero_le _, Below.refl _ _⟩
              case round =>
                obtain ⟨i, rfl, hi, HBi⟩ := hrel
                have hiI : (i : Int) ≤ 21 := by omega
                by_cases hlt : i ≤ n
                · have hltI : (i : Int) ≤ (n : Int) := by omega
                  have HME : Hid (n + 1 - (intOf (.int .i64 ((i : Int) + 1))).toNat < n + 1 - (intOf (.int .i64 (i : Int))).toNat) := by
                    show _ < _
                    simp [intOf]; omega
                  have HCi : Hid (∀ V, Below W.heap.size W V → V.cell? ⟨g, i, none⟩ = some (.int .i64 ((sgc M i : Nat) : Int)) ∧ (Instr.lookup 25 (.map (some ob)) (.string (nmS i)) false).run Try.prog V = .ok (.int .i64 ((sgc M i : Nat) : Int)) V) := fun V hb => ⟨HLv.out V hb i hlt, HGt.out V hb i hlt⟩
                  have HNi : Hid (∀ (W : World), Calls Try.prog 13 #[.int .i64 (i : Int)] W fun x w2 => x = .returned (.string (nmS i)) ∧ Below W.heap.size W w2) := fun W => HN.out W i (by omega)
                  have HAi : Hid (∀ V, Below W.heap.size W V → Calls Try.prog 11 #[.slice ya rs.length yc, .string (nmS i)] V fun e w2 => e = .returned (.bool false) ∧ Below V.heap.size V w2) := fun V hb => HA.out V i hb hlt
                  generalize nmS i = x at *
                  generalize sgc M i = q at *
                  obtain ⟨l0, l1⟩ := HCi.out wr HBi.out
                  have hli : (i : Int) < (n : Int) + 1 := by omega
                  go_upto_region 31 with fail
                  go_cut [133] from 117 to 132 (fun v wc => v = .bool false ∧ Hid (Below W.heap.size W wc))
                  case first =>
                    refine wp_region_noPanic ?_
                    go_region_with (first
                      | (go_at_call 13; refine Calls.mono (HNi.out _) ?_; rintro e v5 ⟨rfl, hB5⟩; have HB5 : Hid (Below W.heap.size W v5) := (by first | exact HBi.out.drew.trans (hB5.mono HBi.out.drew.size) | exact HB5.out.trans (hB5.mono HB5.out.size)); have hc5 := HCi.out v5 HB5.out; have lc5 := hc5.1; have lg5 := hc5.2; clear hc5 hB5)
                      | (go_at_call 11; refine Calls.mono (HAi.out _ HB5.out) ?_; rintro e v6 ⟨rfl, hB6⟩; have HB6 : Hid (Below W.heap.size W v6) := HB5.out.trans (hB6.mono HB5.out.size); clear hB6))
                    all_goals refine NoPanic.normal ?_
                    all_goals clear HCi HNi HAi
                    all_goals go_wp2_with fail
                    all_goals go_meet
                    all_goals exact ⟨by simp, HB6⟩
                  case rest =>
                    obtain ⟨rfl, HBc⟩ := hcut
                    clear l0 l1
                    go_wp2_with fail
                    exact ⟨⟨i + 1, by simp, by omega, HBc⟩, HME.out⟩
                · have hge2 : ¬ ((i : Int) ≤ (n : Int)) := by omega
                  have hlen := (HMp.out.below HBi.out).len
                  rw [hLl] at hlen
                  have HE : Hid (Below w.heap.size w wr) := HBW.out.trans (HBi.out.mono HBW.out.size)
                  clear HBi HMp
                  go_wp2_with fail
                  go_ret
                  exact ⟨by simp, HE.out⟩
            | true =>
              go_wp2_with fail
              go_loopw [17] (fun iv wr => ∃ i : Nat, iv = .int .i64 (i : Int) ∧ i ≤ n + 1 ∧ Hid (Below W.heap.size W wr)) (fun iv _ => n + 1 - (intOf iv).toNat)
              case atStart => exact ⟨0, rfl, Nat.zero_le _, Below.refl _ _⟩
              case round =>
                obtain ⟨i, rfl, hi, HBi⟩ := hrel
                have hiI : (i : Int) ≤ 21 := by omega
                by_cases hlt : i ≤ n
                · have hltI : (i : Int) ≤ (n : Int) := by omega
                  have HME : Hid (n + 1 - (intOf (.int .i64 ((i : Int) + 1))).toNat < n + 1 - (intOf (.int .i64 (i : Int))).toNat) := by
                    show _ < _
                    simp [intOf]; omega
                  have HCi : Hid (∀ V, Below W.heap.size W V → V.cell? ⟨g, i, none⟩ = some (.int .i64 ((sgc M i : Nat) : Int)) ∧ (Instr.lookup 25 (.map (some ob)) (.string (nmS i)) false).run Try.prog V = .ok (.int .i64 ((sgc M i : Nat) : Int)) V) := fun V hb => ⟨HLv.out V hb i hlt, HGt.out V hb i hlt⟩
                  have HNi : Hid (∀ (W : World), Calls Try.prog 13 #[.int .i64 (i : Int)] W fun x w2 => x = .returned (.string (nmS i)) ∧ Below W.heap.size W w2) := fun W => HN.out W i (by omega)
                  have HAi : Hid (∀ V, Below W.heap.size W V → Calls Try.prog 11 #[.slice ya rs.length yc, .string (nmS i)] V fun e w2 => e = .returned (.bool true) ∧ Below V.heap.size V w2) := fun V hb => HA.out V i hb hlt
                  generalize nmS i = x at *
                  generalize sgc M i = q at *
                  obtain ⟨l0, l1⟩ := HCi.out wr HBi.out
                  have hli : (i : Int) < (n : Int) + 1 := by omega
                  go_upto_region 31 with fail
                  go_cut [133] from 117 to 132 (fun v wc => v = .bool false ∧ Hid (Below W.heap.size W wc))
                  case first =>
                    refine wp_region_noPanic ?_
                    go_region_with (first
                      | (go_at_call 13; refine Calls.mono (HNi.out _) ?_; rintro e v5 ⟨rfl, hB5⟩; have HB5 : Hid (Below W.heap.size W v5) := (by first | exact HBi.out.drew.trans (hB5.mono HBi.out.drew.size) | exact HB5.out.trans (hB5.mono HB5.out.size)); have hc5 := HCi.out v5 HB5.out; have lc5 := hc5.1; have lg5 := hc5.2; clear hc5 hB5)
                      | (go_at_call 11; refine Calls.mono (HAi.out _ HB5.out) ?_; rintro e v6 ⟨rfl, hB6⟩; have HB6 : Hid (Below W.heap.size W v6) := HB5.out.trans (hB6.mono HB5.out.size); clear hB6))
                    all_goals refine NoPanic.normal ?_
                    all_goals clear HCi HNi HAi
                    all_goals go_wp2_with fail
                    all_goals go_meet
                    all_goals exact ⟨by simp, HB6⟩
                  case rest =>
                    obtain ⟨rfl, HBc⟩ := hcut
                    clear l0 l1
                    go_wp2_with fail
                    exact ⟨⟨i + 1, by simp, by omega, HBc⟩, HME.out⟩
                · have hge2 : ¬ ((i : Int) ≤ (n : Int)) := by omega
                  have hlen := (HMp.out.below HBi.out).len
                  rw [hLl] at hlen
                  have HE : Hid (Below w.heap.size w wr) := HBW.out.trans (HBi.out.mono HBW.out.size)
                  clear HBi HMp
                  go_wp2_with fail
                  go_ret
                  exact ⟨by simp, HE.out⟩
end Go.Proofs.Ytdmhajeaphnebaa.Gr

/- The walk of the document's Scan. -/
import Derived.Test.YtoekpfopmgcbnaaDoorFlipWalk
import Derived.Deep.RegionHeld
namespace Go.Proofs.YtoekpfopmgcbnaaDoor
open Go.RowKit

/-- A piece of a slice, and how the program comes to it. -/
theorem slice_mid {w : World} {v : Value} {bs : List UInt8} (hS : Sl w v bs) (lo hi : Nat) (lz hz : Int) (el : lz = lo) (eh : hz = hi) (h1 : lo ≤ hi) (h2 : hi ≤ bs.length) : ∃ cs ao cap, Hid (cs = (bs.drop lo).take (hi - lo)) ∧ Sl w (.slice ao cs.length cap) cs ∧
    ∀ w', (Instr.slice 22 v (some (.int .i64 lz)) (some (.int .i64 hz)) none).run Tryd.prog w' = .ok (.slice ao cs.length cap) w' ∧ (Instr.sliceAt 22 v (some (.int .i64 lz)) (some (.int .i64 hz)) none).run Tryd.prog w' = .ok (.slice ao cs.length cap) w' := by
  subst el eh
  obtain ⟨ao, cap, rfl, hc1, hc2⟩ := hS.shape
  have hl : ((bs.drop lo).take (hi - lo)).length = hi - lo := by rw [List.length_take, List.length_drop]; omega
  have hd := (hS.drop lo (by omega) (if cap = lo then ao else ao.map (·.add (lo * 1))) (fun h => by rw [if_neg h, Nat.mul_one]) (fun h => by rw [if_pos h])).take (hi - lo) (by omega)
  refine ⟨_, _, _, rfl, by rw [hl]; exact hd, fun w' => ?_⟩
  have e : (Instr.slice 22 (.slice ao bs.length cap) (some (.int .i64 (lo : Int))) (some (.int .i64 (hi : Int))) none).run Tryd.prog w' = .ok (.slice (if cap = lo then ao else ao.map (·.add (lo * 1))) ((bs.drop lo).take (hi - lo)).length (cap - lo)) w' := by
    rw [run_slice_lh w' 22 ao bs.length cap elem22 .i64 .i64 lo hi (by omega) (by omega) (by omega), size22, hl]
    simp [Result.andThen, sliced]
  exact ⟨e, by rw [run_sliceAt_slice (P := Tryd.prog) w' 22 _ _ _ _ elem22]; exact e⟩

theorem wrap_small (z : Int) (h0 : 0 ≤ z) (h1 : z ≤ 1000000) : IntKind.i64.wrap z = z := by
  rw [IntKind.wrap_i64]
  omega
theorem word_at (bs : List UInt8) (k : Nat) : at8 bs k + at8 bs (k + 1) * 256 + at8 bs (k + 2) * 65536 + at8 bs (k + 3) * 16777216 = (wordN (bs.drop k) : Int) := by
  unfold at8 wordN
  simp only [List.getD, List.getElem?_drop, Nat.add_zero]
  omega
/-- One more element, E said of it whatever is done. -/
theorem Sls.more {E : Value → List UInt8 → Prop} {w3 : World} {base : Nat} {v' u : Value} {done : List (List UInt8)} {b : List UInt8} {vals : List Value} (hl : vals.length = done.length)
    (he : ∀ (j : Nat) (b : List UInt8), done[j]? = some b → ∃ u, vals[j]? = some u ∧ E u b) (hc : E u b)
    (hO : w3.ownsRow base 22 1 v' (done.length + 1) (vals ++ [u])) : Sls E w3 base v' (done ++ [b]) := by
  refine ⟨vals ++ [u], by simp [hl], by rw [List.length_append]; exact hO, fun j x hj => ?_⟩
  by_cases h : j < done.length
  · rw [List.getElem?_append_left h] at hj
    obtain ⟨u, h1, h2⟩ := he j x hj
    exact ⟨u, by rw [List.getElem?_append_left (by omega)]; exact h1, h2⟩
  · rw [List.getElem?_append_right (by omega)] at hj ⊢
    have hj0 : j - done.length = 0 := by
      have := (List.getElem?_eq_some_iff.1 hj).1
      simp at this
      omega
    rw [hj0] at hj
    rw [hl, hj0]
    simp at hj
    subst hj
    exact ⟨u, rfl, hc⟩

theorem Sls.kept {E : Value → List UInt8 → Prop} {w w' : World} {base : Nat} {v : Value} {bss : List (List UInt8)} (h : Sls E w base v bss) (hb : Below w.heap.size w w') : Sls E w' base v bss := by
  obtain ⟨vals, hl, ho, he⟩ := h
  exact ⟨vals, hl, own_below ho hb, he⟩

set_option maxRecDepth 20000 in
set_option maxHeartbeats 4000000 in
theorem rscan_any (v : Value) (bs : List UInt8) (w : World) (hS : Sl w v bs) (hlim : bs.length ≤ 100000) :
    Calls Tryd.prog 16 #[v] w fun e w' => ∃ vl, e = .returned (.tuple #[vl, .int .i64 ((scanL bs).2 : Int)]) ∧ Sls (Sl w) w' w.heap.size vl (scanL bs).1 ∧ Below w.heap.size w w' := by
  obtain ⟨i, hi, hz0, hz1, hz2⟩ := info_parts Tryd.info22
  obtain ⟨ao, cap, rfl, h1, h2⟩ := hS.shape
  have HS : Hid (Sl w (.slice ao bs.length cap) bs) := hS
  clear hS
  go_enter Tryd.func16, Tryd.ntmps16
  go_wp2_with fail
  go_loopw [4, 5] (fun vb sz wr => ∃ (k : Nat) (done : List (List UInt8)), k ≤ bs.length ∧ done.length ≤ k ∧ sz = .int .i64 k ∧ Sls (Sl w) wr w.heap.size vb done ∧ Hid (done ++ (scanL (bs.drop k)).1 = (scanL bs).1) ∧ Hid (k + (scanL (bs.drop k)).2 = (scanL bs).2) ∧ Below w.heap.size w wr) (fun _ sz _ => bs.length - (intOf sz).toNat)
  case atStart => exact ⟨0, [], Nat.zero_le _, Nat.zero_le _, rfl, Sls.nil _ _ _, rfl, Nat.zero_add _, Below.refl _ _⟩
  case round =>
    obtain ⟨k, done, hk, hdk, rfl, hL, HD, HK, hb⟩ := hrel
    obtain ⟨aov, capv, hvv, _⟩ := hL.shape
    subst hvv
    have hszr := hb.size
    by_cases h8 : k + 8 ≤ bs.length
    · obtain ⟨g, off, rfl, hc⟩ := (HS.out.below hb).cell (by omega)
      have c0 := hc k (by omega)
      have c1 := hc (k + 1) (by omega)
      have c2 := hc (k + 2) (by omega)
      have c3 := hc (k + 3) (by omega)
      have b0 : (k : Int) < (bs.length : Int) := by omega
      have b1 : (k : Int) + 1 < (bs.length : Int) := by omega
      have b2 : (k : Int) + 2 < (bs.length : Int) := by omega
      have b3 : (k : Int) + 3 < (bs.length : Int) := by omega
      have h8' : (k : Int) + 8 ≤ (bs.length : Int) := by omega
      clear hc
      obtain ⟨l0, u0⟩ := at8_bd bs k
      obtain ⟨l1, u1⟩ := at8_bd bs (k + 1)
      obtain ⟨l2, u2⟩ := at8_bd bs (k + 2)
      obtain ⟨l3, u3⟩ := at8_bd bs (k + 3)
      obtain ⟨n, hN, HN⟩ : ∃ n : Nat, at8 bs k + at8 bs (k + 1) * 256 + at8 bs (k + 2) * 65536 + at8 bs (k + 3) * 16777216 = (n : Int) ∧ Hid (n = wordN (bs.drop k)) := ⟨_, word_at bs k, rfl⟩
      go_wp2_with fail
      go_quiet (fail)
      have hL' : Sls (Sl w) (wr.drewN nq) w.heap.size (.slice aov done.length capv) done := hL
      have hb4 : Below w.heap.size w (wr.drewN nq) := below_drewN hb _
      clear c0 c1 c2 c3 b0 b1 b2 b3 l0 l1 l2 l3 u0 u1 u2 u3 hN hL hb hszr
      generalize wr.drewN nq = w4 at *
      have hsz4 := hb4.size
      have hnl : n < 4294967296 := by rw [HN.out]; exact wordN_lt _
      have hdl : (bs.drop k).length = bs.length - k := List.length_drop
      have hkI : (k : Int) ≤ 100000 := by omega
      have hkn : k ≤ 100000 := by omega
      by_cases hA : 65536 < n
      · have hx : firstB (bs.drop k) = none := first_far (Or.inl (by rw [← HN.out]; exact hA))
        have HE1 : Hid ((scanL bs).1 = done) := by show _ = _; rw [← HD.out, scan_none hx, List.append_nil]
        have HE2 : Hid ((scanL bs).2 = k) := by show _ = _; rw [← HK.out, scan_none hx, Nat.add_zero]
        have hA' : (65536 : Int) < (n : Int) := by omega
        clear hx hA
        go_wp2_with fail
        go_quiet (fail)
        go_wp2_with fail
        go_ret2
        rw [HE1.out, HE2.out]
        exact ⟨_, rfl, hL', below_drewN hb4 _⟩
      · by_cases hB : bs.length < k + 8 + n
        · have hx : firstB (bs.drop k) = none := first_far (Or.inr (by rw [← HN.out, hdl]; omega))
          have HE1 : Hid ((scanL bs).1 = done) := by show _ = _; rw [← HD.out, scan_none hx, List.append_nil]
          have HE2 : Hid ((scanL bs).2 = k) := by show _ = _; rw [← HK.out, scan_none hx, Nat.add_zero]
          have hA' : ¬ (65536 : Int) < (n : Int) := by omega
          have hB' : (bs.length : Int) < (k : Int) + 8 + (n : Int) := by omega
          have hnI : n ≤ 65536 := by omega
          clear hx hA hB hnl hdl
          go_wp2_with fail
          have hA1 : decide ((65536 : Int) < (n : Int)) = false := by simp; omega
          have hB1 : decide ((bs.length : Int) < (k : Int) + 8 + (n : Int)) = true := by simp; omega
          have hn0 : (0 : Int) ≤ (n : Int) := by omega
          have hn1 : (n : Int) ≤ 65536 := by omega
          have hk0 : (0 : Int) ≤ (k : Int) := by omega
          go_big_quiet (fail)
          go_wp2_with fail
          go_ret2
          rw [HE1.out, HE2.out]
          exact ⟨_, rfl, hL', below_drewN hb4 _⟩
        · obtain ⟨M, aoM, capM, HM, hSM, hrM⟩ := slice_mid HS.out (k + 8) (k + 8 + n) ((k : Int) + 8) ((k : Int) + 8 + (n : Int)) (by omega) (by omega) (by omega) (by omega)
          obtain ⟨F, aoF, capF, HF, hSF, hrF⟩ := slice_mid HS.out k (k + 8 + n) (k : Int) ((k : Int) + 8 + (n : Int)) (by omega) (by omega) (by omega) (by omega)
          have hM : M = bodyL (bs.drop k) := by
            rw [HM.out, bodyL, List.drop_drop, ← HN.out, Nat.add_sub_cancel_left]
          have hF : F = (bs.drop k).take (8 + wordN (bs.drop k)) := by
            rw [HF.out, ← HN.out, show k + 8 + n - k = 8 + n by omega]
          have hfm := first_made (bs := bs.drop k) (by rw [hdl]; omega) (by rw [hdl, ← HN.out]; omega)
          rw [← hM, ← hF] at hfm
          have hMl : M.length = n := by rw [hM, body_len (by rw [hdl, ← HN.out]; omega), ← HN.out]
          have HMl : Hid (M.length = n) := hMl
          have hMs : M.length ≤ 65536 := by omega
          obtain ⟨A, HA⟩ : ∃ A, Hid (A = sealL M) := ⟨_, rfl⟩
          have hbd : Below w.heap.size w w4.drew := hb4.drew
          have hC14 := rseal_any _ M w4.drew (hSM.below hbd) hMs
          rw [← HA.out] at hC14
          rw [← HA.out] at hfm
          have kF := str_of_sl (P := Tryd.prog) (hSF.below hbd) 22 5 9 Tryd.underlying22 Tryd.underlying5 Tryd.underlying9
          have HP : Hid (∀ w5 v5, w5.ownsRow w4.drew.heap.size 5 1 v5 A.length (cells8 A) → Below w4.drew.heap.size w4.drew w5 → ∃ ao5 cap5, v5 = .slice ao5 A.length cap5 ∧
              (convert 22 9 (.slice ao5 A.length cap5)).run Tryd.prog w5 = .ok (.string ⟨A.toArray⟩) w5 ∧ (convert 22 9 (.slice aoF F.length capF)).run Tryd.prog w5 = .ok (.string ⟨F.toArray⟩) w5 ∧ Hid (Below w4.drew.heap.size w4.drew w5)) := by
            intro w5 v5 hO hb
            obtain ⟨ao5, cap5, e, _, _⟩ := (Sl.of_own hO).shape
            subst e
            exact ⟨ao5, cap5, rfl, str_of_sl (P := Tryd.prog) (Sl.of_own hO) 22 5 9 Tryd.underlying22 Tryd.underlying5 Tryd.underlying9, str_of_sl (P := Tryd.prog) ((hSF.below hbd).below hb) 22 5 9 Tryd.underlying22 Tryd.underlying5 Tryd.underlying9, hb⟩
          have HC14 : Hid (_) := hC14
          have HSM : Hid (Sl w (.slice aoM M.length capM) M) := hSM
          have hA1 : decide ((65536 : Int) < (n : Int)) = false := by simp; omega
          have hB1 : decide ((bs.length : Int) < (k : Int) + 8 + (n : Int)) = false := by simp; omega
          have hn0 : (0 : Int) ≤ (n : Int) := by omega
          have hn1 : (n : Int) ≤ 65536 := by omega
          have hk0 : (0 : Int) ≤ (k : Int) := by omega
          have HBD : Hid (k + 8 + n ≤ bs.length ∧ bs.length ≤ 100000 ∧ done.length ≤ k ∧ n ≤ 65536) := ⟨by omega, hlim, hdk, by omega⟩
          clear hC14 hM hF hMl hnl hdl hSM hSF hA hB
          by_cases hEq : A = F
          · rw [if_pos hEq] at hfm
            have hE' : (A == F) = true := by simp [hEq]
            have hsc := scan_some hfm
            rw [List.drop_drop, HMl.out] at hsc
            have HD' : Hid ((done ++ [M]) ++ (scanL (bs.drop (k + (8 + n)))).1 = (scanL bs).1) := by
              show _ = _
              rw [← HD.out, hsc, List.append_assoc]
              rfl
            have HK' : Hid (k + (8 + n) + (scanL (bs.drop (k + (8 + n)))).2 = (scanL bs).2) := by
              show _ = _
              rw [← HK.out, hsc]
              omega
            obtain ⟨vals, hvl, hO, hEl⟩ := hL'
            have HO : Hid (w4.drew.ownsRow w.heap.size 22 1 (.slice aov done.length capv) done.length vals) := hO
            have HEl : Hid (∀ (j : Nat) (b : List UInt8), done[j]? = some b → ∃ u, vals[j]? = some u ∧ Sl w u b) := hEl
            have HV : Hid (vals.length = done.length) := hvl
            clear hfm hEq hsc hO hEl hvl HD HK
            go_wp2_with fail
            have hW1 : IntKind.i64.wrap ((k : Int) + 8) = (k : Int) + 8 := wrap_small _ (by omega) (by omega)
            have hW2 : IntKind.i64.wrap ((k : Int) + 8 + (n : Int)) = (k : Int) + 8 + (n : Int) := wrap_small _ (by omega) (by omega)
            clear hn0 hn1 hk0 hkI hkn h8' hk hdk hlim h1 h2 h8 hsz4 hMs
            go_region_held (fun w' => (Instr.slice 22 (.slice (some ⟨g, off, none⟩) bs.length cap) (some (.int .i64 ((k : Int) + 8))) (some (.int .i64 ((k : Int) + 8 + (n : Int)))) none).run Tryd.prog w' = .ok (.slice aoM M.length capM) w' ∧ (Instr.sliceAt 22 (.slice (some ⟨g, off, none⟩) bs.length cap) (some (.int .i64 ((k : Int) + 8))) (some (.int .i64 ((k : Int) + 8 + (n : Int)))) none).run Tryd.prog w' = .ok (.slice aoM M.length capM) w' ∧
                (Instr.slice 22 (.slice (some ⟨g, off, none⟩) bs.length cap) (some (.int .i64 (k : Int))) (some (.int .i64 ((k : Int) + 8 + (n : Int)))) none).run Tryd.prog w' = .ok (.slice aoF F.length capF) w' ∧ (Instr.sliceAt 22 (.slice (some ⟨g, off, none⟩) bs.length cap) (some (.int .i64 (k : Int))) (some (.int .i64 ((k : Int) + 8 + (n : Int)))) none).run Tryd.prog w' = .ok (.slice aoF F.length capF) w' ∧
                (convert 22 9 (.slice aoF F.length capF)).run Tryd.prog w' = .ok (.string ⟨F.toArray⟩) w')
              (first
              | exact ⟨(hrM _).1, (hrM _).2, (hrF _).1, (hrF _).2, kF⟩
              | exact ⟨(hrM _).1, (hrM _).2, (hrF _).1, (hrF _).2, kF5⟩)
              (first
              | (go_at_call 14; refine Calls.mono HC14.out ?_; rintro e w5 ⟨v5, rfl, hO5, hb5⟩; obtain ⟨ao5, cap5, rfl, kA5, kF5, HB5⟩ := HP.out w5 v5 hO5 hb5; clear hO5 hb5))
            clear hW1 hW2
            obtain ⟨hq1, hq2, hq3, hq4⟩ := HBD.out
            have hq5 : (k : Int) + 8 + (n : Int) ≤ (bs.length : Int) := by omega
            obtain ⟨r1, r2⟩ := hrM w5
            have hs5 : w.heap.size ≤ w5.heap.size := Nat.le_trans hbd.size HB5.out.size
            have HA5 : Hid (w5.ownsRow w.heap.size 22 1 (.slice aov done.length capv) done.length vals) := own_below HO.out HB5.out
            clear kA5 kF5 kF hA1 hB1 hE' HP HC14 hrF
            go_wp2_with (at_builtin; refine wpList_append_own_at _ rfl (.tmp 73) (.tmp 82) 31 rfl w.heap.size 22 i (.slice none 0 0) 1 24 Tryd.underlying31 hi hz0 hz1 hz2 rfl (by decide) (.slice aov done.length capv) done.length vals rfl (World.ownsRow.alloc HA5.out _) ⟨w5.heap.size, 0, none⟩ 1 1 [_] rfl rfl (cell_one_new _ _ _) (fun u hu => by simp at hu; subst hu; rfl) (by simp only [maxLen]; omega) (by omega) (by simp; omega) ?_)
            intro v' w6 hO6 hg6 _ _
            have hL6 := Sls.more (E := Sl w) HV.out HEl.out HSM.out hO6
            have hb6 : Below w.heap.size w w6 := ((hbd.trans (HB5.out.mono hbd.size)).alloc hs5 _).grown hg6 (by simp; omega) (fun g hg => (HO.out.lt g hg).1)
            clear hO6 hg6 r1 r2
            obtain ⟨ao6, cap6, e6, _⟩ := hL6.shape
            subst e6
            clear hi hz0 hz1 hz2 HO HEl HV HBD HA5 HB5 HSM HM HF HA HMl hrM hs5 hbd hb4
            go_wp2_with fail
            go_roundw
            case rel => exact ⟨k + (8 + n), done ++ [M], by omega, by simp; omega, by go_num, hL6, HD', HK', hb6⟩
            case measure => simp [intOf]; omega
          · rw [if_neg hEq] at hfm
            have hE' : (A == F) = false := by simp [hEq]
            have HE1 : Hid ((scanL bs).1 = done) := by show _ = _; rw [← HD.out, scan_none hfm, List.append_nil]
            have HE2 : Hid ((scanL bs).2 = k) := by show _ = _; rw [← HK.out, scan_none hfm, Nat.add_zero]
            have HL : Hid (Sls (Sl w) w4.drew w.heap.size (.slice aov done.length capv) done) := hL'
            clear hfm hEq hL'
            go_wp2_with fail
            have hW1 : IntKind.i64.wrap ((k : Int) + 8) = (k : Int) + 8 := wrap_small _ (by omega) (by omega)
            have hW2 : IntKind.i64.wrap ((k : Int) + 8 + (n : Int)) = (k : Int) + 8 + (n : Int) := wrap_small _ (by omega) (by omega)
            clear hn0 hn1 hk0 hkI hkn h8' hk hdk hlim h1 h2 h8 hsz4 hMs
            go_region_held (fun w' => (Instr.slice 22 (.slice (some ⟨g, off, none⟩) bs.length cap) (some (.int .i64 ((k : Int) + 8))) (some (.int .i64 ((k : Int) + 8 + (n : Int)))) none).run Tryd.prog w' = .ok (.slice aoM M.length capM) w' ∧ (Instr.sliceAt 22 (.slice (some ⟨g, off, none⟩) bs.length cap) (some (.int .i64 ((k : Int) + 8))) (some (.int .i64 ((k : Int) + 8 + (n : Int)))) none).run Tryd.prog w' = .ok (.slice aoM M.length capM) w' ∧
                (Instr.slice 22 (.slice (some ⟨g, off, none⟩) bs.length cap) (some (.int .i64 (k : Int))) (some (.int .i64 ((k : Int) + 8 + (n : Int)))) none).run Tryd.prog w' = .ok (.slice aoF F.length capF) w' ∧ (Instr.sliceAt 22 (.slice (some ⟨g, off, none⟩) bs.length cap) (some (.int .i64 (k : Int))) (some (.int .i64 ((k : Int) + 8 + (n : Int)))) none).run Tryd.prog w' = .ok (.slice aoF F.length capF) w' ∧
                (convert 22 9 (.slice aoF F.length capF)).run Tryd.prog w' = .ok (.string ⟨F.toArray⟩) w')
              (first
              | exact ⟨(hrM _).1, (hrM _).2, (hrF _).1, (hrF _).2, kF⟩
              | exact ⟨(hrM _).1, (hrM _).2, (hrF _).1, (hrF _).2, kF5⟩)
              (first
              | (go_at_call 14; refine Calls.mono HC14.out ?_; rintro e w5 ⟨v5, rfl, hO5, hb5⟩; obtain ⟨ao5, cap5, rfl, kA5, kF5, HB5⟩ := HP.out w5 v5 hO5 hb5; clear hO5 hb5))
            clear hW1 hW2
            go_wp2_with fail
            go_ret2
            rw [HE1.out, HE2.out]
            exact ⟨_, rfl, Sls.kept HL.out HB5.out, hbd.trans (HB5.out.mono hbd.size)⟩
    · have h8' : ¬ (k : Int) + 8 ≤ (bs.length : Int) := by omega
      have hx : firstB (bs.drop k) = none := first_short (by rw [List.length_drop]; omega)
      have HE1 : Hid ((scanL bs).1 = done) := by show _ = _; rw [← HD.out, scan_none hx, List.append_nil]
      have HE2 : Hid ((scanL bs).2 = k) := by show _ = _; rw [← HK.out, scan_none hx, Nat.add_zero]
      clear hx h8
      go_wp2_with fail
      go_ret2
      rw [HE1.out, HE2.out]
      exact ⟨_, rfl, hL, hb⟩
end Go.Proofs.YtoekpfopmgcbnaaDoor

/- The walk of the law WalForged, whole. -/
import Derived.Test.YtnbdkojdddplkaaDoorWlForge3
import Derived.Deep.RegionHeld
import Derived.Lib.SlBytesConst
namespace Go.Proofs.YtnbdkojdddplkaaDoor.Wl
open Go.RowKit Dk

set_option linter.unusedVariables false in
set_option maxHeartbeats 8000000 in
set_option maxRecDepth 20000 in
theorem walForged_any (a0 a1 : Option Addr) (l0 c0 l1 c1 : Nat) (w : World) (ht : Fr.Tab w) (hl0 : l0 ≤ maxLen) (hl1 : l1 ≤ maxLen)
    (hN : ∀ i, i < l0 → ∃ g off s, a0 = some ⟨g, off, none⟩ ∧ w.cell? ⟨g, off + i, none⟩ = some (.string s) ∧ s.size ≤ maxLen)
    (hB : 0 < l1 → ∃ g off, a1 = some ⟨g, off, none⟩ ∧ ∀ j, j < l1 → ∃ u bs, w.cell? ⟨g, off + j, none⟩ = some u ∧ Sl w u bs) :
    Calls Tryd.prog 5 #[.slice a0 l0 c0, .slice a1 l1 c1] w fun e w' => e = .returned (.bool true) ∧ Below w.heap.size w w' := by
  unfold maxLen at hl0 hl1
  have hw0 : 0 < w.heap.size := cell_lt (ht 0 (by omega))
  have HBg : Hid (_) := begun_any w ht
  have HT : Hid (∀ u, Below w.heap.size w u → Fr.Tab u) := fun u hb => ht.below hb
  have HNw : Hid (∀ w1, Below w.heap.size w w1 → Calls Tryd.prog 10 #[.int .i64 1048576] w1 fun e w2 => ∃ pd, e = .returned (.pointer (some ⟨pd, 0, none⟩)) ∧ Hid (GS w w2 pd 0)) := by
    intro w1 hb1
    refine (new_any 1048576 w1).mono ?_
    rintro e w2 ⟨rfl, hD2, hb2⟩
    rw [sZ_room] at hD2
    have hs1 := hb1.size
    exact ⟨_, rfl, sZ, _, hD2, rfl, by decide, by decide, fun f hf => by simp [sZ, St.now, Dk.run] at hf, by decide, fun j hj => by
      rcases hj with hh | hh
      · exact hh.elim
      · omega, hb1.trans (hb2.mono hs1)⟩
  have HAr : Hid (∀ k, k < l0 → k < l1 → ∃ g off s g' off' ao L cap, a0 = some ⟨g, off, none⟩ ∧ a1 = some ⟨g', off', none⟩ ∧ (∀ u, Below w.heap.size w u → u.cell? ⟨g, off + k, none⟩ = some (.string s) ∧ u.cell? ⟨g', off' + k, none⟩ = some (.slice ao L cap)) ∧ Hid (∀ u, Calls Tryd.prog 21 #[.string s, .int .i64 12] u fun e w' => ∃ a', e = .returned (.string a') ∧ Hid (a'.size ≤ 12) ∧ w' = u) ∧ Hid (∀ u, Below w.heap.size w u → Calls Tryd.prog 22 #[.slice ao L cap, .int .i64 200] u fun e w' => ∃ ao L cap b, e = .returned (.slice ao L cap) ∧ Hid (Sl u (.slice ao L cap) b ∧ b.length ≤ 200) ∧ w' = u)) := by
    intro k h0 h1
    obtain ⟨g, off, s, e0, hc, hsz⟩ := hN k h0
    obtain ⟨g', off', e1, hj⟩ := hB (by omega)
    obtain ⟨u, bs, hcu, hS⟩ := hj k h1
    obtain ⟨ao, cap, rfl, _, _⟩ := hS.shape
    exact ⟨g, off, s, g', off', ao, _, cap, e0, e1, fun u hb => ⟨below_cell hb hc, below_cell hb hcu⟩, fun u => cutS_any s u hsz, fun u hb => short_any _ bs u (hS.below hb)⟩
  clear hN hB ht
  go_enter Tryd.func5, Tryd.ntmps5
  go_wp2_with (first
    | (go_at_call 9; refine Calls.mono HBg.out ?_; rintro e w1 ⟨rfl, hb1⟩; have HN1 : Hid (_) := HNw.out w1 hb1; clear HNw hb1)
    | (go_at_call 10; refine Calls.mono HN1.out ?_; rintro e w2 ⟨pd, rfl, HN2⟩; clear HN1))
  go_loopw [7] (fun v7 wr => ∃ k : Nat, k ≤ 8 ∧ v7 = .int .i64 (k : Int) ∧ Hid (GS w wr pd k)) (fun v7 _ => 8 - (intOf v7).toNat)
  case atStart => exact ⟨0, Nat.zero_le _, rfl, HN2.out⟩
  case round =>
    obtain ⟨k, hk, rfl, HK⟩ := hrel
    have HEnd : Hid (_) := GS.tail HK.out HT.out hw0 hk
    by_cases hin : k < l0 ∧ k < l1 ∧ k < 8
    · obtain ⟨i0, i1, i8⟩ := hin
      have i0' : (k : Int) < (l0 : Int) := by omega
      have i1' : (k : Int) < (l1 : Int) := by omega
      have i8' : (k : Int) < 8 := by omega
      obtain ⟨g, off, s, g', off', ao, L, cap, rfl, rfl, hcs, HC1, HC2⟩ := HAr.out k i0 i1
      have hbr : Below w.heap.size w wr := by obtain ⟨s, F, _, _, _, _, _, _, _, h⟩ := HK.out; exact h
      have HD : Hid (_) := hcs wr.drew hbr.drew
      have HC2' : Hid (_) := HC2.out wr.drew hbr.drew
      have HC1' : Hid (_) := HC1.out wr.drew
      have HAp : Hid (∀ a' ao5 L5 cap5 b5, a'.size ≤ 12 → Sl wr.drew (.slice ao5 L5 cap5) b5 → b5.length ≤ 200 → Calls Tryd.prog 20 #[.pointer (some ⟨pd, 0, none⟩), .string (nmW ++ a'), .slice ao5 L5 cap5] wr.drew fun e w' => ∃ c, e = .returned (.int .i64 c) ∧ Hid (w'.cell? ⟨g, off + k, none⟩ = some (.string s) ∧ w'.cell? ⟨g', off' + k, none⟩ = some (.slice ao L cap)) ∧ Hid (GS w w' pd (k + 1))) := by
        intro a' ao5 L5 cap5 b5 ha hS hb
        refine ((HK.out.below (Below.refl _ _).drew).step i8 (nmW ++ a') (by rw [ByteArray.size_append]; have : nmW.size = 1 := rfl; omega) ao5 L5 cap5 b5 hS hb).mono ?_
        rintro e w' ⟨c, rfl, HG⟩
        have hbw : Below w.heap.size w w' := by obtain ⟨s, F, _, _, _, _, _, _, _, h⟩ := HG.out; exact h
        exact ⟨c, rfl, hcs w' hbw, HG⟩
      clear hcs HEnd HAr HC1 HC2 HN2 HBg hbr
      simp only [nmW] at HAp
      go_wp2_with fail
      go_region_held (fun u => u.cell? ⟨g, off + k, none⟩ = some (.string s) ∧ u.cell? ⟨g', off' + k, none⟩ = some (.slice ao L cap))
        (first | exact HD.out | exact HD9.out)
        (first
          | (go_at_call 21; refine Calls.mono HC1'.out ?_; rintro e w' ⟨a5, rfl, Ha5, hw⟩; have hw' := hw.symm; subst hw'; clear hw; have ha5 : a5.size ≤ 12 := Ha5.out)
          | (go_at_call 22; refine Calls.mono HC2'.out ?_; rintro e w' ⟨ao5, L5, cap5, b5, rfl, Hb5, hw⟩; have hw' := hw.symm; subst hw'; clear hw)
          | (go_at_call 20; refine Calls.mono (HAp.out a5 ao5 L5 cap5 b5 Ha5.out Hb5.out.1 Hb5.out.2) ?_; rintro e w9 ⟨c9, rfl, HD9, HG9⟩))
      all_goals go_wp2
      all_goals exact ⟨⟨k + 1, by omega, by go_num, HG9.out⟩, by simp [intOf]; omega⟩
    · have hcs : (¬ (k : Int) < (l0 : Int)) ∨ ((k : Int) < (l0 : Int) ∧ ¬ (k : Int) < (l1 : Int)) ∨ ((k : Int) < (l0 : Int) ∧ (k : Int) < (l1 : Int) ∧ ¬ (k : Int) < 8) := by omega
      clear hin HAr HN2 HBg HK
      rcases hcs with q1 | ⟨q1, q2⟩ | ⟨q1, q2, q3⟩
      all_goals
        go_wp2_with fail
        refine Calls.mono HEnd.out ?_
        rintro e w3 ⟨rfl, HE3⟩
        go_wp2_with (go_at_call 11; refine Calls.mono HE3.out ?_; rintro e w4 ⟨p, rfl, HE4⟩)
        obtain ⟨sd, Fd, g, ds, hG, hl, hm, hsm⟩ := HE4.out
        obtain ⟨z, Hz⟩ : ∃ z, Hid (z = lastL g ds) := ⟨_, (rfl : _ = _)⟩
        have hz0 : 0 ≤ z := by
          rw [Hz.out]
          unfold lastL
          split
          · omega
          · rename_i hd
            have := hG.g0 (fun e => hd (by rw [e]; rfl))
            omega
        have HL : Hid (∀ u, Below w4.heap.size w4 u → Calls Tryd.prog 24 #[.pointer (some ⟨p, 0, none⟩)] u fun e u' => e = .returned (.int .i64 z) ∧ Hid (Below w4.heap.size w4 u')) := fun u hb => by rw [Hz.out]; exact hG.last u hb
        have HGd : Hid (FG w w4 p pd sd Fd g ds ∧ sd.now.length ≤ 19 ∧ sd.mass ≤ 8000 ∧ (fileB g ds).length ≤ 4900) := ⟨hG, hl, hm, hsm⟩
        clear hG hl hm hsm HE4 HE3 HEnd
        refine Calls.mono (HL.out w4 (Below.refl _ _)) ?_
        rintro e w5 ⟨rfl, HB5⟩
        by_cases hz1 : 1099511627776 < z
        · go_wp2_with (go_at_call 24; refine Calls.mono (HL.out w5 HB5.out) ?_; rintro e w6 ⟨rfl, HB6⟩)
          go_ret
          exact ⟨rfl, HGd.out.1.bel.trans (HB6.out.mono HGd.out.1.bel.size)⟩
        · go_wp2_with fail
          refine Calls.mono (HL.out w5 HB5.out) ?_
          rintro e w6 ⟨rfl, HB6⟩
          clear HB5
          go_wp2_with fail
          refine Calls.mono (HL.out w6 HB6.out) ?_
          rintro e w7 ⟨rfl, HB7⟩
          clear HB6
          by_cases hz2 : 1099511627776 < z + 1
          · go_wp2
            go_ret
            exact ⟨rfl, HGd.out.1.bel.trans (HB7.out.mono HGd.out.1.bel.size)⟩
          · have hcv := Lib.run_convert_bytes_const (P := Tryd.prog) w7 33 5 #[.int .u8 104, .int .u8 101, .int .u8 114, .int .u8 101] 4 4 Tryd.underlying33 Tryd.underlying5
            have HA : Hid (_) := FG.tail (HGd.out.1.below (HB7.out.trans (((Below.refl _ _).alloc (Nat.le_refl _) (.cells #[.int .u8 104, .int .u8 101, .int .u8 114, .int .u8 101] 5 (4, 5))).mono HB7.out.size))) HT.out hw0 (.slice (some ⟨w7.heap.size, 0, none⟩) 4 4)
              ⟨sl_new w7 #[.int .u8 104, .int .u8 101, .int .u8 114, .int .u8 101] here 5 (4, 5) rfl (by decide), fun a n c e hF => by
                simp only [Value.slice.injEq, Option.some.injEq] at e
                have h1 := HGd.out.1.lw.dk.lt _ hF
                have h2 := HB7.out.size
                rw [← e.1] at h1
                simp at h1
                omega⟩ (z + 1) (by rw [Hz.out]) (by omega) (by omega) HGd.out.2.1 HGd.out.2.2.1 HGd.out.2.2.2
            clear HGd HL
            go_wp2_with fail
            clear hcv
            refine Calls.mono HA.out ?_
            rintro e w8 ⟨rfl, HA8⟩
            go_wp2_with (first
              | (go_at_call 17; refine Calls.mono HA8.out ?_; rintro e w9 ⟨rfl, HA9⟩; clear HA8)
              | (go_at_call 18; refine Calls.mono HA9.out ?_; rintro e w10 ⟨q, rfl, HA10⟩; clear HA9)
              | (go_at_call 11; refine Calls.mono HA10.out ?_; rintro e w11 ⟨r, rfl, HA11⟩; clear HA10)
              | (go_at_call 25; refine Calls.mono HA11.out ?_; rintro e w12 ⟨ao12, L12, cap12, rfl, hst, HA12⟩; clear HA11))
            go_ret
            exact ⟨rfl, HA12.out⟩
end Go.Proofs.YtnbdkojdddplkaaDoor.Wl

/- The walks of begun and of the law WalNone. -/
import Derived.Test.YtnbdkojdddplkaaDoorPart14
import Derived.Lib.SlBytesConst
namespace Go.Proofs.YtnbdkojdddplkaaDoor.Wl
open Go.RowKit Dk

def sev : List UInt8 := [115, 101, 118, 101, 110]
def sZ : St := ⟨1048576, [], []⟩
def sR (X : List UInt8) : St := ⟨1048576, [⟨nmW, X⟩], []⟩
theorem sZ_room : (⟨roomN 1048576, [], []⟩ : St) = sZ := by
  have h : roomN 1048576 = 1048576 := by decide +kernel
  rw [h]
  rfl
theorem sZ_file : fileOf sZ nmW = [] := rfl
theorem load_nil : loadR (Fr.scanL (fileOf sZ nmW)).1 0 [] = (0, []) := by rw [sZ_file, Fr.scan_nil]; rfl
theorem sZ_open : openS sZ = sZ := by
  unfold openS
  rw [load_nil, sZ_file]
  rfl
theorem look_one (X : List UInt8) : Dk.look nmW [⟨nmW, X⟩] = some ⟨nmW, X⟩ := by simp [Dk.look]
theorem sZ_now (X : List UInt8) : (sZ.push (.app nmW X)).now = [⟨nmW, X⟩] := by
  show Dk.run [] [.app nmW X] = _
  simp [Dk.run, Dk.ap, Dk.look, Dk.del, Dk.ins]
theorem sR_now (X : List UInt8) : (sR X).now = [⟨nmW, X⟩] := rfl
theorem sR_file (X : List UInt8) : fileOf (sR X) nmW = X := by
  unfold fileOf
  rw [sR_now, look_one]
  rfl
theorem scan_one (b : List UInt8) (h : b.length ≤ 65536) : (Fr.scanL (Fr.sealL b)).1 = [b] := by
  have h1 := Fr.first_seal b [] h
  rw [List.append_nil] at h1
  rw [Fr.scan_some h1]
  have hd : (Fr.sealL b).drop (8 + b.length) = [] := List.drop_of_length_le (by rw [Fr.seal_len]; omega)
  rw [hd, Fr.scan_nil]
theorem load_one (n : Int) (d : List UInt8) (h0 : 1 ≤ n) (h1 : n ≤ 9223372036854775807) (hl : d.length ≤ 32768) : loadR (Fr.scanL (fileOf (sR (recB n d)) nmW)).1 0 [] = (n, [d]) := by
  rw [sR_file]
  unfold recB
  have e1 := enc_le n
  have e2 := enc_le (d.length : Int)
  rw [scan_one _ (by simp only [List.length_append]; omega)]
  unfold loadR
  rw [unseal_rec n d (by omega) h1 hl]
  have hm : mayL 0 [] n = true := by simp [mayL]; exact h0
  simp only [hm, if_true]
  unfold loadR
  rfl

set_option maxHeartbeats 2000000 in
set_option maxRecDepth 20000 in
theorem begun_any (w : World) (ht : Fr.Tab w) : Calls Tryd.prog 9 #[] w fun e w' => e = .returned (.bool true) ∧ Below w.heap.size w w' := by
  have hw0 : 0 < w.heap.size := cell_lt (ht 0 (by omega))
  have HN : Hid (_) := new_any 1048576 w
  rw [sZ_room] at HN
  have HT : Hid (∀ u, Below w.heap.size w u → Fr.Tab u) := fun u hb => ht.below hb
  obtain ⟨X, HX⟩ : ∃ X, Hid (X = recB 7 sev) := ⟨recB 7 sev, (rfl : _ = recB 7 sev)⟩
  have HXl : Hid (X.length ≤ 33) := by
    have := recB_size 7 sev (by decide) (by decide)
    rw [← HX.out] at this
    exact this
  go_enter Tryd.func9, Tryd.ntmps9
  go_wp2_with fail
  refine Calls.mono HN.out ?_
  rintro e w1 ⟨rfl, hD1, hb1⟩
  have HB1 : Hid (Below w.heap.size w w1) := hb1
  have HO : Hid (Calls Tryd.prog 11 #[.pointer (some ⟨w.heap.size, 0, none⟩)] w1 fun e w2 => ∃ p, e = .returned (.tuple #[.pointer (some ⟨p, 0, none⟩), .int .i64 0]) ∧ ∃ F2, Hid (LW w2 w.heap.size p w.heap.size sZ F2 0 [] ∧ (∀ k, F2 k → w.heap.size ≤ k) ∧ Below w.heap.size w w2)) := by
    have hs1 := hb1.size
    refine (open_any w.heap.size sZ _ w1 hD1 (HT.out w1 hb1) ?_ (by decide +kernel) (fun f hf => by simp [sZ, St.now, Dk.run] at hf) (by rw [sZ_file]; decide) 0 [] load_nil).mono ?_
    · rintro (hh | hh)
      · exact hh
      · omega
    · rintro e w2 ⟨p, rfl, ⟨F', hL, hF'⟩, hf⟩
      rw [sZ_open] at hL
      have hF2 : ∀ k, F' k → w.heap.size ≤ k := fun k hk => by
        rcases hF' k hk with (hh | hh) | hh
        · exact hh.elim
        · exact hh.1
        · omega
      refine ⟨p, rfl, F', ⟨hL.dk, ?_, hL.np, by have := hL.new; omega⟩, hF2, hb1.trans (hf.below (fun k hk => ?_) hs1)⟩
      · obtain ⟨vr, rs, G, a1, a2, a3⟩ := hL.lg
        exact ⟨vr, rs, G, a1, a2, fun k hk => ⟨(a3 k hk).1, by have := (a3 k hk).2; omega⟩⟩
      · rcases hk with hh | hh
        · exact hh.elim
        · exact hh.1
  clear hD1 hb1 HN
  go_wp2_with fail
  refine Calls.mono HO.out ?_
  rintro e w2 ⟨p, rfl, F2, HX2⟩
  clear HO
  have hcv := Lib.run_convert_bytes_const (P := Tryd.prog) w2 33 5 #[.int .u8 115, .int .u8 101, .int .u8 118, .int .u8 101, .int .u8 110] 5 5 Tryd.underlying33 Tryd.underlying5
  have HA : Hid (Calls Tryd.prog 14 #[.pointer (some ⟨p, 0, none⟩), .int .i64 7, .slice (some ⟨w2.heap.size, 0, none⟩) 5 5] (w2.alloc (.cells #[.int .u8 115, .int .u8 101, .int .u8 118, .int .u8 101, .int .u8 110] 5 (5, 6))) fun e w3 => e = .returned (.int .i64 0) ∧ ∃ F3, Hid (LW w3 w.heap.size p w.heap.size (sZ.push (.app nmW X)) F3 7 [sev] ∧ (∀ k, F3 k → w.heap.size ≤ k) ∧ Below w.heap.size w w3)) := by
    obtain ⟨hL, hF, hb⟩ := HX2.out
    have hs := hb.size
    have hba : Below w2.heap.size w2 (w2.alloc (.cells #[.int .u8 115, .int .u8 101, .int .u8 118, .int .u8 101, .int .u8 110] 5 (5, 6))) := (Below.refl _ _).alloc (Nat.le_refl _) _
    have hSa : Sl (w2.alloc (.cells #[.int .u8 115, .int .u8 101, .int .u8 118, .int .u8 101, .int .u8 110] 5 (5, 6))) _ sev := sl_new w2 #[.int .u8 115, .int .u8 101, .int .u8 118, .int .u8 101, .int .u8 110] sev 5 (5, 6) rfl (by decide)
    have hbb := hb.trans (hba.mono hs)
    have hXl := HXl.out
    have hFlt := hL.dk.lt
    have hu : used sZ.now = 0 := rfl
    refine (app_ok w.heap.size p w.heap.size sZ F2 0 [] 7 _ sev _ (hL.below hba) ⟨hSa, fun a n c e hF' => ?_⟩ (HT.out _ hbb) (by decide) (by decide) (by decide) (by rw [← HX.out, hu]; show ((0 : Nat) : Int) + (X.length : Int) ≤ 1048576; omega) (Or.inr (by decide)) (by decide) (by decide) (by decide)).mono ?_
    · simp only [Value.slice.injEq, Option.some.injEq] at e
      have := hFlt _ hF'
      rw [← e.1] at this
      simp at this
    · rintro e w3 ⟨rfl, F', hL3, hF3, hf3⟩
      rw [← HX.out] at hL3
      refine ⟨rfl, F', hL3, fun k hk => ?_, hbb.trans (hf3.below (fun k hk => ?_) hbb.size)⟩
      · rcases hF3 k hk with hh | hh
        · exact hF k hh
        · have := hbb.size; omega
      · rcases hk with hh | hh
        · exact hF k hh
        · exact hh
  clear HX2
  go_wp2_with fail
  clear hcv
  refine Calls.mono HA.out ?_
  rintro e w3 ⟨rfl, F3, HX3⟩
  clear HA
  have HSy : Hid (Calls Tryd.prog 17 #[.pointer (some ⟨p, 0, none⟩)] w3 fun e w4 => e = .returned (.tuple #[]) ∧ ∃ F4, Hid (LW w4 w.heap.size p w.heap.size (sR X) F4 7 [sev] ∧ Below w.heap.size w w4)) := by
    obtain ⟨hL, hF, hb⟩ := HX3.out
    have hm : (sZ.push (.app nmW X)).mass ≤ 100 := by
      have := HXl.out
      rw [St.push_mass]
      simp only [Ch.mass, sZ, St.mass, Dk.mass, wmass]
      simp
      omega
    refine (sync_log w.heap.size p w.heap.size _ F3 7 [sev] w3 hL (by omega)).mono ?_
    rintro e w4 ⟨rfl, h1, h2⟩
    rw [sZ_now] at h1
    exact ⟨rfl, _, h1, hb.trans (h2.below hF hb.size)⟩
  clear HX3
  go_wp2_with fail
  refine Calls.mono HSy.out ?_
  rintro e w4 ⟨rfl, F4, HX4⟩
  clear HSy
  have hmR : (sR X).mass ≤ 100 := by
    have := HXl.out
    simp only [sR, St.mass, Dk.mass, wmass]
    simp
    omega
  have HCr : Hid (Calls Tryd.prog 18 #[.pointer (some ⟨w.heap.size, 0, none⟩), .int .i64 (-1), .int .i64 0] w4 fun e w5 => ∃ q, e = .returned (.pointer (some ⟨q, 0, none⟩)) ∧ Hid (Calls Tryd.prog 11 #[.pointer (some ⟨q, 0, none⟩)] w5 fun e w6 => ∃ r, e = .returned (.tuple #[.pointer (some ⟨r, 0, none⟩), .int .i64 0]) ∧ ∃ F6, Hid (LW w6 w5.heap.size r q (openS (sR X)) F6 7 [sev] ∧ Below w.heap.size w w6))) := by
    obtain ⟨hL, hb⟩ := HX4.out
    refine (crash_any w.heap.size (sR X) F4 (-1) 0 w4 hL.dk (by omega)).mono ?_
    rintro e w5 ⟨q, rfl, hq, hD5, hb5⟩
    refine ⟨q, rfl, ?_⟩
    have hlf : (⟨(sR X).room, Dk.leftOf (sR X) (-1) 0, []⟩ : St) = sR X := rfl
    rw [hlf] at hD5
    have hb5' : Below w.heap.size w w5 := hb.trans (hb5.mono hb.size)
    have hs4 := hb.size
    have hs5 := hb5.size
    have hXl := HXl.out
    refine (open_any q (sR X) _ w5 hD5 (HT.out w5 hb5') ?_ (by rw [sR_now]; simp only [List.length_cons, List.length_nil]; omega) (fun f hf => ?_) (by rw [sR_file]; omega) 7 [sev] (by rw [HX.out]; exact load_one 7 sev (by decide) (by decide) (by decide))).mono ?_
    · rintro (hh | hh)
      · exact hh
      · omega
    · rw [sR_now, List.mem_singleton] at hf
      rw [hf]
      exact (show nmW.size ≤ maxLen by decide)
    · rintro e w6 ⟨r, rfl, ⟨F', hL6, hF'⟩, hf6⟩
      refine ⟨r, rfl, F', hL6, hb5'.trans (hf6.below (fun k hk => ?_) hb5'.size)⟩
      rcases hk with hh | hh
      · exact hh.elim
      · omega
  clear HX4 hmR
  go_wp2_with fail
  refine Calls.mono HCr.out ?_
  rintro e w5 ⟨q, rfl, HO5⟩
  clear HCr
  go_wp2_with fail
  refine Calls.mono HO5.out ?_
  rintro e w6 ⟨r, rfl, F6, HX6⟩
  clear HO5
  have HG : Hid (_) := get_hit w5.heap.size r q (openS (sR X)) F6 7 [sev] 0 w6 HX6.out.1 (by decide) (by decide) (by decide) (by decide) (by decide)
  have HG2 : Hid (Calls Tryd.prog 25 #[.pointer (some ⟨r, 0, none⟩), .int .i64 7] w6 fun e w7 => ∃ ao L cap, e = .returned (.tuple #[.slice ao L cap, .bool true]) ∧ (convert 33 9 (.slice ao L cap)).run Tryd.prog w7 = .ok (.string ⟨#[115, 101, 118, 101, 110]⟩) w7 ∧ Hid (LW w7 w5.heap.size r q (openS (sR X)) F6 7 [sev] ∧ Below w.heap.size w w7)) := by
    refine Calls.mono HG.out ?_
    rintro e w7 ⟨v7, rfl, hO7, hb7⟩
    have hst := str_of_sl (P := Tryd.prog) (Sl.of_own (bs := sev) hO7) 33 5 9 Tryd.underlying33 Tryd.underlying5 Tryd.underlying9
    obtain ⟨ao7, L7, cap7, rfl⟩ := own_slice hO7
    exact ⟨ao7, L7, cap7, rfl, hst, HX6.out.1.below hb7, HX6.out.2.trans (hb7.mono HX6.out.2.size)⟩
  clear HG HX6
  go_wp2_with fail
  refine Calls.mono HG2.out ?_
  rintro e w7 ⟨ao7, L7, cap7, rfl, hst, HX7⟩
  clear HG2
  have HFi : Hid (_) := HX7.out.1.first
  go_wp2_with fail
  refine Calls.mono HFi.out ?_
  rintro e w8 ⟨rfl, hw⟩
  have hw' := hw.symm
  subst hw'
  clear hw
  have HLa : Hid (Calls Tryd.prog 24 #[.pointer (some ⟨r, 0, none⟩)] w7 fun e w' => e = .returned (.int .i64 7) ∧ ∃ m, w' = w7.drewN m) := HX7.out.1.last
  go_wp2_with fail
  refine Calls.mono HLa.out ?_
  rintro e w8 ⟨rfl, m, rfl⟩
  have HAp : Hid (_) := app_no w5.heap.size r q (openS (sR X)) F6 7 [sev] 9 none 0 0 (w7.drewN m) (HX7.out.1.drew m) (by decide) (by decide)
  clear HLa HFi
  go_wp2_with fail
  refine Calls.mono HAp.out ?_
  rintro e w9 ⟨rfl, m9, rfl⟩
  go_wp2
  go_ret
  exact ⟨rfl, HX7.out.2.trans ⟨rfl, rfl, rfl, Nat.le_refl _, fun _ _ => rfl⟩⟩

set_option maxHeartbeats 2000000 in
set_option maxRecDepth 20000 in
theorem walNone_any (w : World) (ht : Fr.Tab w) : Calls Tryd.prog 7 #[] w fun e w' => e = .returned (.bool true) ∧ Below w.heap.size w w' := by
  have HB : Hid (_) := begun_any w ht
  go_enter Tryd.func7, Tryd.ntmps7
  go_wp2_with (first
    | (go_at_call 9; refine Calls.mono HB.out ?_; rintro e w1 ⟨rfl, hb1⟩)
    | (go_at_call 11; refine (open_nil _).mono ?_; rintro e w' ⟨rfl, hw⟩; have hw' := hw.symm; subst hw'; clear hw)
    | (go_at_call 17; refine (sync_nil _).mono ?_; rintro e w' ⟨rfl, hw⟩; have hw' := hw.symm; subst hw'; clear hw)
    | (go_at_call 25; refine (get_nil _).mono ?_; rintro e w' ⟨rfl, hw⟩; have hw' := hw.symm; subst hw'; clear hw)
    | (go_at_call 14; refine (app_nil _ _ _ _ _).mono ?_; rintro e w' ⟨rfl, hw⟩; have hw' := hw.symm; subst hw'; clear hw)
    | (go_at_call 15; refine (from_nil _ _).mono ?_; rintro e w' ⟨rfl, hw⟩; have hw' := hw.symm; subst hw'; clear hw)
    | (go_at_call 16; refine (until_nil _ _).mono ?_; rintro e w' ⟨rfl, hw⟩; have hw' := hw.symm; subst hw'; clear hw)
    | (go_at_call 26; refine (first_nil _).mono ?_; rintro e w' ⟨rfl, hw⟩; have hw' := hw.symm; subst hw'; clear hw)
    | (go_at_call 24; refine (last_nil _).mono ?_; rintro e w' ⟨rfl, hw⟩; have hw' := hw.symm; subst hw'; clear hw))
  go_ret
  exact ⟨rfl, hb1⟩
end Go.Proofs.YtnbdkojdddplkaaDoor.Wl

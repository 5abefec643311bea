/- The law WalForged: its loop's relation. The walk of the law WalForged, whole. What slices of bytes, of such slices and of strings that came in read as. -/
import Derived.Test.YtnbdkojdddplkaaDoorPart16
import Derived.Deep.RegionHeld
import Derived.Lib.SlBytesConst
import Derived.Test.YtnbdkojdddplkaaDoorPart02
import Derived.Deep.Matrix
import Derived.SliceStrings
namespace Go.Proofs.YtnbdkojdddplkaaDoor.Wl
open Go.RowKit Dk

theorem look_ins_ne {f : Fl} {m : ByteArray} (h : f.name ≠ m) : ∀ fs : List Fl, Dk.look m (Dk.ins f fs) = Dk.look m fs
  | [] => by simp [Dk.look, Dk.ins, h]
  | x :: r => by
    have ih := look_ins_ne h r
    unfold Dk.ins
    split
    · unfold Dk.look
      rw [List.find?_cons_of_neg (by simpa using h)]
    · unfold Dk.look at ih ⊢
      rw [List.find?_cons, List.find?_cons, ih]

/-- So many files were laid. -/
def GS (w0 w : World) (pd k : Nat) : Prop := ∃ s F, Dk w pd s F ∧ s.room = 1048576 ∧ s.now.length ≤ k ∧ s.mass ≤ 202 * k ∧ Nm s.now ∧ (fileOf s nmW).length ≤ 200 * k ∧ (∀ j, F j → w0.heap.size ≤ j) ∧ Below w0.heap.size w0 w
theorem GS.below {w0 w w' : World} {pd k : Nat} (h : GS w0 w pd k) (hb : Below w.heap.size w w') : GS w0 w' pd k := by
  obtain ⟨s, F, h1, h2, h3, h4, h5, h6, h7, h8⟩ := h
  exact ⟨s, F, h1.below hb, h2, h3, h4, h5, h6, h7, h8.trans (hb.mono h8.size)⟩
theorem GS.step {w0 w : World} {pd k : Nat} (h : GS w0 w pd k) (hk : k < 8) (nn : ByteArray) (hnn : nn.size ≤ 13) (ao : Option Addr) (L cap : Nat) (b : List UInt8) (hS : Sl w (.slice ao L cap) b) (hb : b.length ≤ 200) :
    Calls Tryd.prog 20 #[.pointer (some ⟨pd, 0, none⟩), .string nn, .slice ao L cap] w fun e w' => ∃ c, e = .returned (.int .i64 c) ∧ Hid (GS w0 w' pd (k + 1)) := by
  obtain ⟨s, F, h1, h2, h3, h4, h5, h6, h7, h8⟩ := h
  have hnm : nn.size ≤ maxLen := Nat.le_trans hnn (by decide)
  cases hok : okN nn with
  | false =>
    refine (append_form pd nn ao L cap w hok).mono ?_
    rintro e w' ⟨rfl, rfl⟩
    exact ⟨3, rfl, s, F, h1, h2, by omega, by omega, h5, by omega, h7, h8⟩
  | true =>
    obtain ⟨hgood, _⟩ := id h1
    have hmm := St.now_mass hgood
    have hum := used_mass s.now
    refine (append_ok pd s F nn _ b w h1 hS hok (by rw [h2]; omega) (Or.inr (by omega)) (by omega)).mono ?_
    rintro e w' ⟨rfl, hD, hf⟩
    have hs := h8.size
    refine ⟨0, rfl, s.push (.app nn b), ext F w w', hD, h2, ?_, ?_, ?_, ?_, fun j hj => ?_, h8.trans (hf.below h7 hs)⟩
    · rw [St.push_now]
      unfold Dk.ap
      simp only
      rw [ins_len]
      have := del_len nn s.now
      omega
    · rw [St.push_mass]
      simp only [Ch.mass]
      omega
    · rw [St.push_now]
      exact ins_nm _ hnm _ (del_nm _ _ h5)
    · by_cases hw : nn = nmW
      · subst hw
        unfold fileOf
        rw [St.push_now, app_file, List.length_append]
        unfold fileOf at h6
        omega
      · unfold fileOf
        rw [St.push_now]
        unfold Dk.ap
        simp only
        rw [look_ins_ne (by exact hw), look_del_ne hw]
        unfold fileOf at h6
        omega
    · rcases hj with hh | hh
      · exact h7 j hh
      · omega
theorem GS.tail {w0 w : World} {pd k : Nat} (h : GS w0 w pd k) (hT : ∀ u, Below w0.heap.size w0 u → Fr.Tab u) (hw0 : 0 < w0.heap.size) (hk : k ≤ 8) :
    Calls Tryd.prog 23 #[.pointer (some ⟨pd, 0, none⟩)] w fun e w2 => e = .returned (.tuple #[]) ∧ Hid (Calls Tryd.prog 11 #[.pointer (some ⟨pd, 0, none⟩)] w2 fun e w3 => ∃ p, e = .returned (.tuple #[.pointer (some ⟨p, 0, none⟩), .int .i64 0]) ∧ Hid (∃ s F g ds, FG w0 w3 p pd s F g ds ∧ s.now.length ≤ 19 ∧ s.mass ≤ 8000 ∧ (fileB g ds).length ≤ 4900)) := by
  obtain ⟨s, F, h1, h2, h3, h4, h5, h6, h7, h8⟩ := h
  obtain ⟨hgood, _⟩ := id h1
  have hmm := St.now_mass hgood
  refine (sync_any pd s F w h1 (by omega)).mono ?_
  rintro e w2 ⟨rfl, hD, hf⟩
  refine ⟨rfl, ?_⟩
  have hs := h8.size
  have hb2 : Below w0.heap.size w0 w2 := h8.trans (hf.below h7 hs)
  have hnow : (⟨s.room, s.now, []⟩ : St).now = s.now := rfl
  have hmass : (⟨s.room, s.now, []⟩ : St).mass = Dk.mass s.now := by simp [St.mass, wmass]
  have hfo : fileOf ⟨s.room, s.now, []⟩ nmW = fileOf s nmW := rfl
  cases hR : loadR (Fr.scanL (fileOf ⟨s.room, s.now, []⟩ nmW)).1 0 [] with
  | mk g ds =>
    have hpre := (load_any _ g ds hR).1.length_le
    refine (FG.open (w0 := w0) hD hT hw0 h2 (by rw [hnow]; omega) (by rw [hmass]; omega) h5 (fun j hj => ?_) hb2 (by rw [hfo]; omega) g ds hR).mono ?_
    · rcases hj with hh | hh
      · exact h7 j hh
      · omega
    · rintro e w3 ⟨p, rfl, F', hG, _⟩
      have hl := openS_len ⟨s.room, s.now, []⟩
      have hms := openS_mass ⟨s.room, s.now, []⟩
      rw [hmass, hnow] at hms
      rw [hnow] at hl
      rw [hfo] at hpre
      exact ⟨p, rfl, _, F', g, ds, hG, by omega, by omega, by omega⟩
theorem FG.last {w0 w : World} {p pd : Nat} {s : St} {F : Nat → Prop} {g : Int} {ds : List (List UInt8)} (h : FG w0 w p pd s F g ds) (u : World) (hb : Below w.heap.size w u) :
    Calls Tryd.prog 24 #[.pointer (some ⟨p, 0, none⟩)] u fun e u' => e = .returned (.int .i64 (lastL g ds)) ∧ Hid (Below w.heap.size w u') := by
  refine ((h.below hb).lw.last).mono ?_
  rintro e u' ⟨rfl, m, rfl⟩
  exact ⟨rfl, hb.trans ⟨rfl, rfl, rfl, Nat.le_refl _, fun _ _ => rfl⟩⟩
end Go.Proofs.YtnbdkojdddplkaaDoor.Wl
namespace Go.Proofs.YtnbdkojdddplkaaDoor.Wl
open Go.RowKit Dk

set_option linter.unusedVariables false in
set_option maxHeartbeats 8000000 in
set_option maxRecDepth 20000 in
theorem walForged_any (a0 a1 : Option Addr) (l0 c0 l1 c1 : Nat) (w : World) (ht : Fr.Tab w) (hl0 : l0 ≤ maxLen) (hl1 : l1 ≤ maxLen)
    (hN : ∀ i, i < l0 → ∃ g off s, a0 = some ⟨g, off, none⟩ ∧ w.cell? ⟨g, off + i, none⟩ = some (.string s) ∧ s.size ≤ maxLen)
    (hB : 0 < l1 → ∃ g off, a1 = some ⟨g, off, none⟩ ∧ ∀ j, j < l1 → ∃ u bs, w.cell? ⟨g, off + j, none⟩ = some u ∧ Sl w u bs) :
    Calls Tryd.prog 5 #[.slice a0 l0 c0, .slice a1 l1 c1] w fun e w' => e = .returned (.bool true) ∧ Below w.heap.size w w' := by
  unfold maxLen at hl0 hl1
  have hw0 : 0 < w.heap.size := cell_lt (ht 0 (by omega))
  have HBg : Hid (_) := begun_any w ht
  have HT : Hid (∀ u, Below w.heap.size w u → Fr.Tab u) := fun u hb => ht.below hb
  have HNw : Hid (∀ w1, Below w.heap.size w w1 → Calls Tryd.prog 10 #[.int .i64 1048576] w1 fun e w2 => ∃ pd, e = .returned (.pointer (some ⟨pd, 0, none⟩)) ∧ Hid (GS w w2 pd 0)) := by
    intro w1 hb1
    refine (new_any 1048576 w1).mono ?_
    rintro e w2 ⟨rfl, hD2, hb2⟩
    rw [sZ_room] at hD2
    have hs1 := hb1.size
    exact ⟨_, rfl, sZ, _, hD2, rfl, by decide, by decide, fun f hf => by simp [sZ, St.now, Dk.run] at hf, by decide, fun j hj => by
      rcases hj with hh | hh
      · exact hh.elim
      · omega, hb1.trans (hb2.mono hs1)⟩
  have HAr : Hid (∀ k, k < l0 → k < l1 → ∃ g off s g' off' ao L cap, a0 = some ⟨g, off, none⟩ ∧ a1 = some ⟨g', off', none⟩ ∧ (∀ u, Below w.heap.size w u → u.cell? ⟨g, off + k, none⟩ = some (.string s) ∧ u.cell? ⟨g', off' + k, none⟩ = some (.slice ao L cap)) ∧ Hid (∀ u, Calls Tryd.prog 21 #[.string s, .int .i64 12] u fun e w' => ∃ a', e = .returned (.string a') ∧ Hid (a'.size ≤ 12) ∧ w' = u) ∧ Hid (∀ u, Below w.heap.size w u → Calls Tryd.prog 22 #[.slice ao L cap, .int .i64 200] u fun e w' => ∃ ao L cap b, e = .returned (.slice ao L cap) ∧ Hid (Sl u (.slice ao L cap) b ∧ b.length ≤ 200) ∧ w' = u)) := by
    intro k h0 h1
    obtain ⟨g, off, s, e0, hc, hsz⟩ := hN k h0
    obtain ⟨g', off', e1, hj⟩ := hB (by omega)
    obtain ⟨u, bs, hcu, hS⟩ := hj k h1
    obtain ⟨ao, cap, rfl, _, _⟩ := hS.shape
    exact ⟨g, off, s, g', off', ao, _, cap, e0, e1, fun u hb => ⟨below_cell hb hc, below_cell hb hcu⟩, fun u => cutS_any s u hsz, fun u hb => short_any _ bs u (hS.below hb)⟩
  clear hN hB ht
  go_enter Tryd.func5, Tryd.ntmps5
  go_wp2_with (first
    | (go_at_call 9; refine Calls.mono HBg.out ?_; rintro e w1 ⟨rfl, hb1⟩; have HN1 : Hid (_) := HNw.out w1 hb1; clear HNw hb1)
    | (go_at_call 10; refine Calls.mono HN1.out ?_; rintro e w2 ⟨pd, rfl, HN2⟩; clear HN1))
  go_loopw [7] (fun v7 wr => ∃ k : Nat, k ≤ 8 ∧ v7 = .int .i64 (k : Int) ∧ Hid (GS w wr pd k)) (fun v7 _ => 8 - (intOf v7).toNat)
  case atStart => exact ⟨0, Nat.zero_le _, rfl, HN2.out⟩
  case round =>
    obtain ⟨k, hk, rfl, HK⟩ := hrel
    have HEnd : Hid (_) := GS.tail HK.out HT.out hw0 hk
    by_cases hin : k < l0 ∧ k < l1 ∧ k < 8
    · obtain ⟨i0, i1, i8⟩ := hin
      have i0' : (k : Int) < (l0 : Int) := by omega
      have i1' : (k : Int) < (l1 : Int) := by omega
      have i8' : (k : Int) < 8 := by omega
      obtain ⟨g, off, s, g', off', ao, L, cap, rfl, rfl, hcs, HC1, HC2⟩ := HAr.out k i0 i1
      have hbr : Below w.heap.size w wr := by obtain ⟨s, F, _, _, _, _, _, _, _, h⟩ := HK.out; exact h
      have HD : Hid (_) := hcs wr.drew hbr.drew
      have HC2' : Hid (_) := HC2.out wr.drew hbr.drew
      have HC1' : Hid (_) := HC1.out wr.drew
      have HAp : Hid (∀ a' ao5 L5 cap5 b5, a'.size ≤ 12 → Sl wr.drew (.slice ao5 L5 cap5) b5 → b5.length ≤ 200 → Calls Tryd.prog 20 #[.pointer (some ⟨pd, 0, none⟩), .string (nmW ++ a'), .slice ao5 L5 cap5] wr.drew fun e w' => ∃ c, e = .returned (.int .i64 c) ∧ Hid (w'.cell? ⟨g, off + k, none⟩ = some (.string s) ∧ w'.cell? ⟨g', off' + k, none⟩ = some (.slice ao L cap)) ∧ Hid (GS w w' pd (k + 1))) := by
        intro a' ao5 L5 cap5 b5 ha hS hb
        refine ((HK.out.below (Below.refl _ _).drew).step i8 (nmW ++ a') (by rw [ByteArray.size_append]; have : nmW.size = 1 := rfl; omega) ao5 L5 cap5 b5 hS hb).mono ?_
        rintro e w' ⟨c, rfl, HG⟩
        have hbw : Below w.heap.size w w' := by obtain ⟨s, F, _, _, _, _, _, _, _, h⟩ := HG.out; exact h
        exact ⟨c, rfl, hcs w' hbw, HG⟩
      clear hcs HEnd HAr HC1 HC2 HN2 HBg hbr
      simp only [nmW] at HAp
      go_wp2_with fail
      go_region_held (fun u => u.cell? ⟨g, off + k, none⟩ = some (.string s) ∧ u.cell? ⟨g', off' + k, none⟩ = some (.slice ao L cap))
        (first | exact HD.out | exact HD9.out)
        (first
          | (go_at_call 21; refine Calls.mono HC1'.out ?_; rintro e w' ⟨a5, rfl, Ha5, hw⟩; have hw' := hw.symm; subst hw'; clear hw; have ha5 : a5.size ≤ 12 := Ha5.out)
          | (go_at_call 22; refine Calls.mono HC2'.out ?_; rintro e w' ⟨ao5, L5, cap5, b5, rfl, Hb5, hw⟩; have hw' := hw.symm; subst hw'; clear hw)
          | (go_at_call 20; refine Calls.mono (HAp.out a5 ao5 L5 cap5 b5 Ha5.out Hb5.out.1 Hb5.out.2) ?_; rintro e w9 ⟨c9, rfl, HD9, HG9⟩))
      all_goals go_wp2
      all_goals exact ⟨⟨k + 1, by omega, by go_num, HG9.out⟩, by simp [intOf]; omega⟩
    · have hcs : (¬ (k : Int) < (l0 : Int)) ∨ ((k : Int) < (l0 : Int) ∧ ¬ (k : Int) < (l1 : Int)) ∨ ((k : Int) < (l0 : Int) ∧ (k : Int) < (l1 : Int) ∧ ¬ (k : Int) < 8) := by omega
      clear hin HAr HN2 HBg HK
      rcases hcs with q1 | ⟨q1, q2⟩ | ⟨q1, q2, q3⟩
      all_goals
        go_wp2_with fail
        refine Calls.mono HEnd.out ?_
        rintro e w3 ⟨rfl, HE3⟩
        go_wp2_with (go_at_call 11; refine Calls.mono HE3.out ?_; rintro e w4 ⟨p, rfl, HE4⟩)
        obtain ⟨sd, Fd, g, ds, hG, hl, hm, hsm⟩ := HE4.out
        obtain ⟨z, Hz⟩ : ∃ z, Hid (z = lastL g ds) := ⟨_, (rfl : _ = _)⟩
        have hz0 : 0 ≤ z := by
          rw [Hz.out]
          unfold lastL
          split
          · omega
          · rename_i hd
            have := hG.g0 (fun e => hd (by rw [e]; rfl))
            omega
        have HL : Hid (∀ u, Below w4.heap.size w4 u → Calls Tryd.prog 24 #[.pointer (some ⟨p, 0, none⟩)] u fun e u' => e = .returned (.int .i64 z) ∧ Hid (Below w4.heap.size w4 u')) := fun u hb => by rw [Hz.out]; exact hG.last u hb
        have HGd : Hid (FG w w4 p pd sd Fd g ds ∧ sd.now.length ≤ 19 ∧ sd.mass ≤ 8000 ∧ (fileB g ds).length ≤ 4900) := ⟨hG, hl, hm, hsm⟩
        clear hG hl hm hsm HE4 HE3 HEnd
        refine Calls.mono (HL.out w4 (Below.refl _ _)) ?_
        rintro e w5 ⟨rfl, HB5⟩
        by_cases hz1 : 1099511627776 < z
        · go_wp2_with (go_at_call 24; refine Calls.mono (HL.out w5 HB5.out) ?_; rintro e w6 ⟨rfl, HB6⟩)
          go_ret
          exact ⟨rfl, HGd.out.1.bel.trans (HB6.out.mono HGd.out.1.bel.size)⟩
        · go_wp2_with fail
          refine Calls.mono (HL.out w5 HB5.out) ?_
          rintro e w6 ⟨rfl, HB6⟩
          clear HB5
          go_wp2_with fail
          refine Calls.mono (HL.out w6 HB6.out) ?_
          rintro e w7 ⟨rfl, HB7⟩
          clear HB6
          by_cases hz2 : 1099511627776 < z + 1
          · go_wp2
            go_ret
            exact ⟨rfl, HGd.out.1.bel.trans (HB7.out.mono HGd.out.1.bel.size)⟩
          · have hcv := Lib.run_convert_bytes_const (P := Tryd.prog) w7 33 5 #[.int .u8 104, .int .u8 101, .int .u8 114, .int .u8 101] 4 4 Tryd.underlying33 Tryd.underlying5
            have HA : Hid (_) := FG.tail (HGd.out.1.below (HB7.out.trans (((Below.refl _ _).alloc (Nat.le_refl _) (.cells #[.int .u8 104, .int .u8 101, .int .u8 114, .int .u8 101] 5 (4, 5))).mono HB7.out.size))) HT.out hw0 (.slice (some ⟨w7.heap.size, 0, none⟩) 4 4)
              ⟨sl_new w7 #[.int .u8 104, .int .u8 101, .int .u8 114, .int .u8 101] here 5 (4, 5) rfl (by decide), fun a n c e hF => by
                simp only [Value.slice.injEq, Option.some.injEq] at e
                have h1 := HGd.out.1.lw.dk.lt _ hF
                have h2 := HB7.out.size
                rw [← e.1] at h1
                simp at h1
                omega⟩ (z + 1) (by rw [Hz.out]) (by omega) (by omega) HGd.out.2.1 HGd.out.2.2.1 HGd.out.2.2.2
            clear HGd HL
            go_wp2_with fail
            clear hcv
            refine Calls.mono HA.out ?_
            rintro e w8 ⟨rfl, HA8⟩
            go_wp2_with (first
              | (go_at_call 17; refine Calls.mono HA8.out ?_; rintro e w9 ⟨rfl, HA9⟩; clear HA8)
              | (go_at_call 18; refine Calls.mono HA9.out ?_; rintro e w10 ⟨q, rfl, HA10⟩; clear HA9)
              | (go_at_call 11; refine Calls.mono HA10.out ?_; rintro e w11 ⟨r, rfl, HA11⟩; clear HA10)
              | (go_at_call 25; refine Calls.mono HA11.out ?_; rintro e w12 ⟨ao12, L12, cap12, rfl, hst, HA12⟩; clear HA11))
            go_ret
            exact ⟨rfl, HA12.out⟩
end Go.Proofs.YtnbdkojdddplkaaDoor.Wl
namespace Go.Proofs.YtnbdkojdddplkaaDoor.Wl
open Go.ChangeShapes Go.WideShapes Go.ChangeAt Go.RowKit Dk

theorem toNat_lo {u : Nat} (h : u < 256) : (UInt8.ofNat u).toNat = u := by rw [UInt8.toNat_ofNat']; exact Nat.mod_eq_of_lt h

/-- WHAT THE WALK IS TOLD OF A SLICE OF INTEGERS THAT CAME IN: it is nil; or it leads to a row of 'cap' cells, the numbers 'zs' (the first 'len' are its elements, the rest its spare room), each fitting its kind. -/
def IsRow (k : IntKind) (w : World) (a : Option Addr) (len cap : Nat) (zs : List Int) : Prop :=
  (a = none ∧ len = 0 ∧ cap = 0 ∧ zs = []) ∨
  ∃ x, a = some x ∧ len ≤ cap ∧ cap ≤ maxLen ∧ zs.length = cap ∧ (∀ i, i < zs.length → w.cell? (x.add i) = some (.int k (zs.getD i 0))) ∧ ∀ n ∈ zs, (Lit.int k n).wf = true

/-- The bytes of the row of bytes. -/
theorem told8 {w : World} {a : Option Addr} {len cap : Nat} {zs : List Int} (h : IsRow .u8 w a len cap zs) : ∃ bs, Sl w (.slice a len cap) bs := by
  rcases h with ⟨rfl, rfl, rfl, rfl⟩ | ⟨x, rfl, h1, h2, h3, h4, h5⟩
  · exact ⟨[], Sl.nil w⟩
  · have hl : ((zs.take len).map fun n => UInt8.ofNat n.toNat).length = len := by simp; omega
    refine ⟨(zs.take len).map fun n => UInt8.ofNat n.toNat, some x, cap, by rw [hl], by omega, h2, fun e => by simp at e, fun hp => ?_⟩
    rw [hl] at hp ⊢
    obtain ⟨b, off, rfl, hc⟩ := ints_at h4 (by omega)
    refine ⟨b, off, rfl, fun j hj => ?_⟩
    rw [hc j (by omega)]
    have hjz : j < zs.length := by omega
    have hb := bounds_u8 (h5 _ (List.getElem_mem hjz))
    have e1 : zs.getD j 0 = zs[j] := by simp [List.getD, List.getElem?_eq_getElem hjz]
    have e2 : ((zs.take len).map fun n => UInt8.ofNat n.toNat).getD j 0 = UInt8.ofNat (zs[j]).toNat := by
      simp [List.getD, hj, List.getElem?_eq_getElem hjz]
    unfold at8
    rw [e1, e2, toNat_lo (by omega)]
    congr 2
    omega

theorem rows_told {H : Type} {enc : TypeId × Value → H} {w : World} {ao : Option Addr} {len cap : Nat} {y : DataW H × List MemPlace}
    (h : ∃ fuel, DataW.trod enc Tryd.prog w 0 (fun _ => true) true fuel 30 [.slice ao len cap] = some y) :
    (0 < len → ∃ g off, ao = some ⟨g, off, none⟩ ∧ ∀ j, j < len → ∃ u bs, w.cell? ⟨g, off + j, none⟩ = some u ∧ Sl w u bs) ∧ len ≤ maxLen := by
  obtain ⟨fuel, hf⟩ := h
  rcases Deep.open_int_rows Tryd.underlying30 Tryd.underlying33 Tryd.underlying5 (by kernel_rfl) (by kernel_rfl) hf with ⟨hcs, _⟩ | ⟨a, len', cap', A, L, C, Z, hcs, _, hl, hm, _, hr⟩
  · simp at hcs
    obtain ⟨rfl, rfl, rfl⟩ := hcs
    exact ⟨fun h => by omega, by simp [maxLen]⟩
  · simp at hcs
    obtain ⟨rfl, rfl, rfl⟩ := hcs
    refine ⟨fun hp => ?_, by omega⟩
    have h00 := (hr 0 (by omega)).1
    obtain ⟨b, off, spot⟩ := a
    have hspot : spot = none := by
      have := World.cell?_spot h00
      simpa [Addr.add] using this
    subst hspot
    refine ⟨b, off, rfl, fun j hj => ?_⟩
    obtain ⟨hc, h1, h2, h3, h4, h5, h6⟩ := hr j (by omega)
    rw [Addr.add_lit] at hc
    have hrow : IsRow .u8 w (A j) (L j) (C j) (Z j) := by
      cases hA : A j with
      | none =>
        have hC := h5 hA
        refine Or.inl ⟨rfl, by omega, hC, List.eq_nil_of_length_eq_zero (by omega)⟩
      | some x => exact Or.inr ⟨x, rfl, h1, h2, h3, fun i hi => (h6 x hA).2 i (by omega), h4⟩
    obtain ⟨bs, hS⟩ := told8 hrow
    exact ⟨_, bs, hc, hS⟩

theorem strs_told {H : Type} {enc : TypeId × Value → H} {w : World} {ao : Option Addr} {len cap : Nat} {y : DataW H × List MemPlace}
    (h : ∃ fuel, DataW.trod enc Tryd.prog w 0 (fun _ => true) true fuel 46 [.slice ao len cap] = some y) :
    (∀ i, i < len → ∃ g off s, ao = some ⟨g, off, none⟩ ∧ w.cell? ⟨g, off + i, none⟩ = some (.string s) ∧ s.size ≤ maxLen) ∧ len ≤ maxLen := by
  obtain ⟨fuel, hf⟩ := h
  rcases open_strings Tryd.underlying46 Tryd.underlying9 (by kernel_rfl) hf with ⟨hcs, _⟩ | ⟨a, len', cap', ss, hcs, _, hl, hm, hss, _, hc, hz⟩
  · simp at hcs
    obtain ⟨rfl, rfl, rfl⟩ := hcs
    exact ⟨fun i h => by omega, by simp [maxLen]⟩
  · simp at hcs
    obtain ⟨rfl, rfl, rfl⟩ := hcs
    refine ⟨fun i hi => ?_, by omega⟩
    have hsl : ss.length = cap := by simpa using hss
    have h0 := hc i (by omega)
    have h00 := hc 0 (by omega)
    obtain ⟨b, off, spot⟩ := a
    have hspot : spot = none := by
      have := World.cell?_spot h00
      simpa [Addr.add] using this
    subst hspot
    rw [Addr.add_lit] at h0
    refine ⟨b, off, _, rfl, h0, ?_⟩
    have hi' : i < ss.length := by omega
    have e : ss.getD i ByteArray.empty = ss[i] := by simp [List.getD, List.getElem?_eq_getElem hi']
    rw [e]
    exact hz _ (List.getElem_mem hi')
end Go.Proofs.YtnbdkojdddplkaaDoor.Wl

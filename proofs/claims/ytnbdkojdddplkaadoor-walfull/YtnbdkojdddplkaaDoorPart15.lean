/- The walks of begun and of the law WalNone. A log's own file is read as the log; Append on a disk without room. The walk of the law WalFull. The walk of the law WalFull, whole. -/
import Derived.Test.YtnbdkojdddplkaaDoorPart14
import Derived.Lib.SlBytesConst
namespace Go.Proofs.YtnbdkojdddplkaaDoor.Wl
open Go.RowKit Dk

def sev : List UInt8 := [115, 101, 118, 101, 110]
def sZ : St := ⟨1048576, [], []⟩
def sR (X : List UInt8) : St := ⟨1048576, [⟨nmW, X⟩], []⟩
theorem sZ_room : (⟨roomN 1048576, [], []⟩ : St) = sZ := by
  have h : roomN 1048576 = 1048576 := by decide +kernel
  rw [h]
  rfl
theorem sZ_file : fileOf sZ nmW = [] := rfl
theorem load_nil : loadR (Fr.scanL (fileOf sZ nmW)).1 0 [] = (0, []) := by rw [sZ_file, Fr.scan_nil]; rfl
theorem sZ_open : openS sZ = sZ := by
  unfold openS
  rw [load_nil, sZ_file]
  rfl
theorem look_one (X : List UInt8) : Dk.look nmW [⟨nmW, X⟩] = some ⟨nmW, X⟩ := by simp [Dk.look]
theorem sZ_now (X : List UInt8) : (sZ.push (.app nmW X)).now = [⟨nmW, X⟩] := by
  show Dk.run [] [.app nmW X] = _
  simp [Dk.run, Dk.ap, Dk.look, Dk.del, Dk.ins]
theorem sR_now (X : List UInt8) : (sR X).now = [⟨nmW, X⟩] := rfl
theorem sR_file (X : List UInt8) : fileOf (sR X) nmW = X := by
  unfold fileOf
  rw [sR_now, look_one]
  rfl
theorem scan_one (b : List UInt8) (h : b.length ≤ 65536) : (Fr.scanL (Fr.sealL b)).1 = [b] := by
  have h1 := Fr.first_seal b [] h
  rw [List.append_nil] at h1
  rw [Fr.scan_some h1]
  have hd : (Fr.sealL b).drop (8 + b.length) = [] := List.drop_of_length_le (by rw [Fr.seal_len]; omega)
  rw [hd, Fr.scan_nil]
theorem load_one (n : Int) (d : List UInt8) (h0 : 1 ≤ n) (h1 : n ≤ 9223372036854775807) (hl : d.length ≤ 32768) : loadR (Fr.scanL (fileOf (sR (recB n d)) nmW)).1 0 [] = (n, [d]) := by
  rw [sR_file]
  unfold recB
  have e1 := enc_le n
  have e2 := enc_le (d.length : Int)
  rw [scan_one _ (by simp only [List.length_append]; omega)]
  unfold loadR
  rw [unseal_rec n d (by omega) h1 hl]
  have hm : mayL 0 [] n = true := by simp [mayL]; exact h0
  simp only [hm, if_true]
  unfold loadR
  rfl

set_option maxHeartbeats 2000000 in
set_option maxRecDepth 20000 in
theorem begun_any (w : World) (ht : Fr.Tab w) : Calls Tryd.prog 9 #[] w fun e w' => e = .returned (.bool true) ∧ Below w.heap.size w w' := by
  have hw0 : 0 < w.heap.size := cell_lt (ht 0 (by omega))
  have HN : Hid (_) := new_any 1048576 w
  rw [sZ_room] at HN
  have HT : Hid (∀ u, Below w.heap.size w u → Fr.Tab u) := fun u hb => ht.below hb
  obtain ⟨X, HX⟩ : ∃ X, Hid (X = recB 7 sev) := ⟨recB 7 sev, (rfl : _ = recB 7 sev)⟩
  have HXl : Hid (X.length ≤ 33) := by
    have := recB_size 7 sev (by decide) (by decide)
    rw [← HX.out] at this
    exact this
  go_enter Tryd.func9, Tryd.ntmps9
  go_wp2_with fail
  refine Calls.mono HN.out ?_
  rintro e w1 ⟨rfl, hD1, hb1⟩
  have HB1 : Hid (Below w.heap.size w w1) := hb1
  have HO : Hid (Calls Tryd.prog 11 #[.pointer (some ⟨w.heap.size, 0, none⟩)] w1 fun e w2 => ∃ p, e = .returned (.tuple #[.pointer (some ⟨p, 0, none⟩), .int .i64 0]) ∧ ∃ F2, Hid (LW w2 w.heap.size p w.heap.size sZ F2 0 [] ∧ (∀ k, F2 k → w.heap.size ≤ k) ∧ Below w.heap.size w w2)) := by
    have hs1 := hb1.size
    refine (open_any w.heap.size sZ _ w1 hD1 (HT.out w1 hb1) ?_ (by decide +kernel) (fun f hf => by simp [sZ, St.now, Dk.run] at hf) (by rw [sZ_file]; decide) 0 [] load_nil).mono ?_
    · rintro (hh | hh)
      · exact hh
      · omega
    · rintro e w2 ⟨p, rfl, ⟨F', hL, hF'⟩, hf⟩
      rw [sZ_open] at hL
      have hF2 : ∀ k, F' k → w.heap.size ≤ k := fun k hk => by
        rcases hF' k hk with (hh | hh) | hh
        · exact hh.elim
        · exact hh.1
        · omega
      refine ⟨p, rfl, F', ⟨hL.dk, ?_, hL.np, by have := hL.new; omega⟩, hF2, hb1.trans (hf.below (fun k hk => ?_) hs1)⟩
      · obtain ⟨vr, rs, G, a1, a2, a3⟩ := hL.lg
        exact ⟨vr, rs, G, a1, a2, fun k hk => ⟨(a3 k hk).1, by have := (a3 k hk).2; omega⟩⟩
      · rcases hk with hh | hh
        · exact hh.elim
        · exact hh.1
  clear hD1 hb1 HN
  go_wp2_with fail
  refine Calls.mono HO.out ?_
  rintro e w2 ⟨p, rfl, F2, HX2⟩
  clear HO
  have hcv := Lib.run_convert_bytes_const (P := Tryd.prog) w2 33 5 #[.int .u8 115, .int .u8 101, .int .u8 118, .int .u8 101, .int .u8 110] 5 5 Tryd.underlying33 Tryd.underlying5
  have HA : Hid (Calls Tryd.prog 14 #[.pointer (some ⟨p, 0, none⟩), .int .i64 7, .slice (some ⟨w2.heap.size, 0, none⟩) 5 5] (w2.alloc (.cells #[.int .u8 115, .int .u8 101, .int .u8 118, .int .u8 101, .int .u8 110] 5 (5, 6))) fun e w3 => e = .returned (.int .i64 0) ∧ ∃ F3, Hid (LW w3 w.heap.size p w.heap.size (sZ.push (.app nmW X)) F3 7 [sev] ∧ (∀ k, F3 k → w.heap.size ≤ k) ∧ Below w.heap.size w w3)) := by
    obtain ⟨hL, hF, hb⟩ := HX2.out
    have hs := hb.size
    have hba : Below w2.heap.size w2 (w2.alloc (.cells #[.int .u8 115, .int .u8 101, .int .u8 118, .int .u8 101, .int .u8 110] 5 (5, 6))) := (Below.refl _ _).alloc (Nat.le_refl _) _
    have hSa : Sl (w2.alloc (.cells #[.int .u8 115, .int .u8 101, .int .u8 118, .int .u8 101, .int .u8 110] 5 (5, 6))) _ sev := sl_new w2 #[.int .u8 115, .int .u8 101, .int .u8 118, .int .u8 101, .int .u8 110] sev 5 (5, 6) rfl (by decide)
    have hbb := hb.trans (hba.mono hs)
    have hXl := HXl.out
    have hFlt := hL.dk.lt
    have hu : used sZ.now = 0 := rfl
    refine (app_ok w.heap.size p w.heap.size sZ F2 0 [] 7 _ sev _ (hL.below hba) ⟨hSa, fun a n c e hF' => ?_⟩ (HT.out _ hbb) (by decide) (by decide) (by decide) (by rw [← HX.out, hu]; show ((0 : Nat) : Int) + (X.length : Int) ≤ 1048576; omega) (Or.inr (by decide)) (by decide) (by decide) (by decide)).mono ?_
    · simp only [Value.slice.injEq, Option.some.injEq] at e
      have := hFlt _ hF'
      rw [← e.1] at this
      simp at this
    · rintro e w3 ⟨rfl, F', hL3, hF3, hf3⟩
      rw [← HX.out] at hL3
      refine ⟨rfl, F', hL3, fun k hk => ?_, hbb.trans (hf3.below (fun k hk => ?_) hbb.size)⟩
      · rcases hF3 k hk with hh | hh
        · exact hF k hh
        · have := hbb.size; omega
      · rcases hk with hh | hh
        · exact hF k hh
        · exact hh
  clear HX2
  go_wp2_with fail
  clear hcv
  refine Calls.mono HA.out ?_
  rintro e w3 ⟨rfl, F3, HX3⟩
  clear HA
  have HSy : Hid (Calls Tryd.prog 17 #[.pointer (some ⟨p, 0, none⟩)] w3 fun e w4 => e = .returned (.tuple #[]) ∧ ∃ F4, Hid (LW w4 w.heap.size p w.heap.size (sR X) F4 7 [sev] ∧ Below w.heap.size w w4)) := by
    obtain ⟨hL, hF, hb⟩ := HX3.out
    have hm : (sZ.push (.app nmW X)).mass ≤ 100 := by
      have := HXl.out
      rw [St.push_mass]
      simp only [Ch.mass, sZ, St.mass, Dk.mass, wmass]
      simp
      omega
    refine (sync_log w.heap.size p w.heap.size _ F3 7 [sev] w3 hL (by omega)).mono ?_
    rintro e w4 ⟨rfl, h1, h2⟩
    rw [sZ_now] at h1
    exact ⟨rfl, _, h1, hb.trans (h2.below hF hb.size)⟩
  clear HX3
  go_wp2_with fail
  refine Calls.mono HSy.out ?_
  rintro e w4 ⟨rfl, F4, HX4⟩
  clear HSy
  have hmR : (sR X).mass ≤ 100 := by
    have := HXl.out
    simp only [sR, St.mass, Dk.mass, wmass]
    simp
    omega
  have HCr : Hid (Calls Tryd.prog 18 #[.pointer (some ⟨w.heap.size, 0, none⟩), .int .i64 (-1), .int .i64 0] w4 fun e w5 => ∃ q, e = .returned (.pointer (some ⟨q, 0, none⟩)) ∧ Hid (Calls Tryd.prog 11 #[.pointer (some ⟨q, 0, none⟩)] w5 fun e w6 => ∃ r, e = .returned (.tuple #[.pointer (some ⟨r, 0, none⟩), .int .i64 0]) ∧ ∃ F6, Hid (LW w6 w5.heap.size r q (openS (sR X)) F6 7 [sev] ∧ Below w.heap.size w w6))) := by
    obtain ⟨hL, hb⟩ := HX4.out
    refine (crash_any w.heap.size (sR X) F4 (-1) 0 w4 hL.dk (by omega)).mono ?_
    rintro e w5 ⟨q, rfl, hq, hD5, hb5⟩
    refine ⟨q, rfl, ?_⟩
    have hlf : (⟨(sR X).room, Dk.leftOf (sR X) (-1) 0, []⟩ : St) = sR X := rfl
    rw [hlf] at hD5
    have hb5' : Below w.heap.size w w5 := hb.trans (hb5.mono hb.size)
    have hs4 := hb.size
    have hs5 := hb5.size
    have hXl := HXl.out
    refine (open_any q (sR X) _ w5 hD5 (HT.out w5 hb5') ?_ (by rw [sR_now]; simp only [List.length_cons, List.length_nil]; omega) (fun f hf => ?_) (by rw [sR_file]; omega) 7 [sev] (by rw [HX.out]; exact load_one 7 sev (by decide) (by decide) (by decide))).mono ?_
    · rintro (hh | hh)
      · exact hh
      · omega
    · rw [sR_now, List.mem_singleton] at hf
      rw [hf]
      exact (show nmW.size ≤ maxLen by decide)
    · rintro e w6 ⟨r, rfl, ⟨F', hL6, hF'⟩, hf6⟩
      refine ⟨r, rfl, F', hL6, hb5'.trans (hf6.below (fun k hk => ?_) hb5'.size)⟩
      rcases hk with hh | hh
      · exact hh.elim
      · omega
  clear HX4 hmR
  go_wp2_with fail
  refine Calls.mono HCr.out ?_
  rintro e w5 ⟨q, rfl, HO5⟩
  clear HCr
  go_wp2_with fail
  refine Calls.mono HO5.out ?_
  rintro e w6 ⟨r, rfl, F6, HX6⟩
  clear HO5
  have HG : Hid (_) := get_hit w5.heap.size r q (openS (sR X)) F6 7 [sev] 0 w6 HX6.out.1 (by decide) (by decide) (by decide) (by decide) (by decide)
  have HG2 : Hid (Calls Tryd.prog 25 #[.pointer (some ⟨r, 0, none⟩), .int .i64 7] w6 fun e w7 => ∃ ao L cap, e = .returned (.tuple #[.slice ao L cap, .bool true]) ∧ (convert 33 9 (.slice ao L cap)).run Tryd.prog w7 = .ok (.string ⟨#[115, 101, 118, 101, 110]⟩) w7 ∧ Hid (LW w7 w5.heap.size r q (openS (sR X)) F6 7 [sev] ∧ Below w.heap.size w w7)) := by
    refine Calls.mono HG.out ?_
    rintro e w7 ⟨v7, rfl, hO7, hb7⟩
    have hst := str_of_sl (P := Tryd.prog) (Sl.of_own (bs := sev) hO7) 33 5 9 Tryd.underlying33 Tryd.underlying5 Tryd.underlying9
    obtain ⟨ao7, L7, cap7, rfl⟩ := own_slice hO7
    exact ⟨ao7, L7, cap7, rfl, hst, HX6.out.1.below hb7, HX6.out.2.trans (hb7.mono HX6.out.2.size)⟩
  clear HG HX6
  go_wp2_with fail
  refine Calls.mono HG2.out ?_
  rintro e w7 ⟨ao7, L7, cap7, rfl, hst, HX7⟩
  clear HG2
  have HFi : Hid (_) := HX7.out.1.first
  go_wp2_with fail
  refine Calls.mono HFi.out ?_
  rintro e w8 ⟨rfl, hw⟩
  have hw' := hw.symm
  subst hw'
  clear hw
  have HLa : Hid (Calls Tryd.prog 24 #[.pointer (some ⟨r, 0, none⟩)] w7 fun e w' => e = .returned (.int .i64 7) ∧ ∃ m, w' = w7.drewN m) := HX7.out.1.last
  go_wp2_with fail
  refine Calls.mono HLa.out ?_
  rintro e w8 ⟨rfl, m, rfl⟩
  have HAp : Hid (_) := app_no w5.heap.size r q (openS (sR X)) F6 7 [sev] 9 none 0 0 (w7.drewN m) (HX7.out.1.drew m) (by decide) (by decide)
  clear HLa HFi
  go_wp2_with fail
  refine Calls.mono HAp.out ?_
  rintro e w9 ⟨rfl, m9, rfl⟩
  go_wp2
  go_ret
  exact ⟨rfl, HX7.out.2.trans ⟨rfl, rfl, rfl, Nat.le_refl _, fun _ _ => rfl⟩⟩

set_option maxHeartbeats 2000000 in
set_option maxRecDepth 20000 in
theorem walNone_any (w : World) (ht : Fr.Tab w) : Calls Tryd.prog 7 #[] w fun e w' => e = .returned (.bool true) ∧ Below w.heap.size w w' := by
  have HB : Hid (_) := begun_any w ht
  go_enter Tryd.func7, Tryd.ntmps7
  go_wp2_with (first
    | (go_at_call 9; refine Calls.mono HB.out ?_; rintro e w1 ⟨rfl, hb1⟩)
    | (go_at_call 11; refine (open_nil _).mono ?_; rintro e w' ⟨rfl, hw⟩; have hw' := hw.symm; subst hw'; clear hw)
    | (go_at_call 17; refine (sync_nil _).mono ?_; rintro e w' ⟨rfl, hw⟩; have hw' := hw.symm; subst hw'; clear hw)
    | (go_at_call 25; refine (get_nil _).mono ?_; rintro e w' ⟨rfl, hw⟩; have hw' := hw.symm; subst hw'; clear hw)
    | (go_at_call 14; refine (app_nil _ _ _ _ _).mono ?_; rintro e w' ⟨rfl, hw⟩; have hw' := hw.symm; subst hw'; clear hw)
    | (go_at_call 15; refine (from_nil _ _).mono ?_; rintro e w' ⟨rfl, hw⟩; have hw' := hw.symm; subst hw'; clear hw)
    | (go_at_call 16; refine (until_nil _ _).mono ?_; rintro e w' ⟨rfl, hw⟩; have hw' := hw.symm; subst hw'; clear hw)
    | (go_at_call 26; refine (first_nil _).mono ?_; rintro e w' ⟨rfl, hw⟩; have hw' := hw.symm; subst hw'; clear hw)
    | (go_at_call 24; refine (last_nil _).mono ?_; rintro e w' ⟨rfl, hw⟩; have hw' := hw.symm; subst hw'; clear hw))
  go_ret
  exact ⟨rfl, hb1⟩
end Go.Proofs.YtnbdkojdddplkaaDoor.Wl
namespace Go.Proofs.YtnbdkojdddplkaaDoor.Wl
open Go.RowKit Dk

/-- What a log's seals hold. -/
def bodies (n : Int) : List (List UInt8) → List (List UInt8)
  | [] => []
  | b :: r => (Bn.enc n ++ (Bn.enc (b.length : Int) ++ b)) :: bodies (n + 1) r
theorem scan_file : ∀ (ds : List (List UInt8)) (n : Int), (∀ d ∈ ds, d.length ≤ 32768) → (Fr.scanL (fileB n ds)).1 = bodies n ds
  | [], n, _ => by rw [fileB, Fr.scan_nil]; rfl
  | d :: ds, n, h => by
    have hd := h d List.mem_cons_self
    have e1 := enc_le n
    have e2 := enc_le (d.length : Int)
    have h1 := Fr.first_seal (Bn.enc n ++ (Bn.enc (d.length : Int) ++ d)) (fileB (n + 1) ds) (by simp only [List.length_append]; omega)
    have hf : fileB n (d :: ds) = Fr.sealL (Bn.enc n ++ (Bn.enc (d.length : Int) ++ d)) ++ fileB (n + 1) ds := rfl
    rw [hf, Fr.scan_some h1, ← Fr.seal_len, List.drop_left, bodies, scan_file ds (n + 1) (fun x hx => h x (List.mem_cons_of_mem _ hx))]
theorem load_more : ∀ (ds : List (List UInt8)) (n f : Int) (acc : List (List UInt8)), (∀ d ∈ ds, d.length ≤ 32768) → 1 ≤ f → acc ≠ [] → n = f + acc.length → n + ds.length ≤ 9223372036854775808 → loadR (bodies n ds) f acc = (f, acc ++ ds)
  | [], n, f, acc, _, _, _, _, _ => by rw [bodies, loadR, List.append_nil]
  | d :: ds, n, f, acc, h, hf, ha, hn, hb => by
    have hal : acc.length ≠ 0 := fun e => ha (List.eq_nil_of_length_eq_zero e)
    rw [List.length_cons] at hb
    rw [bodies, loadR, unseal_rec n d (by omega) (by omega) (h d List.mem_cons_self)]
    have hm : mayL f acc n = true := by
      unfold mayL
      rw [if_neg hal]
      simp only [Bool.and_eq_true, decide_eq_true_eq, Bool.or_eq_true]
      exact ⟨by omega, Or.inr (by omega)⟩
    simp only [hm, if_true, if_neg hal]
    rw [load_more ds (n + 1) f (acc ++ [d]) (fun x hx => h x (List.mem_cons_of_mem _ hx)) hf (by simp) (by rw [List.length_append]; simp; omega) (by omega), List.append_assoc]
    rfl
theorem load_file (ds : List (List UInt8)) (n : Int) (h : ∀ d ∈ ds, d.length ≤ 32768) (h1 : 1 ≤ n) (hb : n + ds.length ≤ 9223372036854775808) : loadR (Fr.scanL (fileB n ds)).1 0 [] = (if ds.length = 0 then 0 else n, ds) := by
  rw [scan_file ds n h]
  cases ds with
  | nil => rfl
  | cons d ds =>
    rw [List.length_cons] at hb
    rw [bodies, loadR, unseal_rec n d (by omega) (by omega) (h d List.mem_cons_self)]
    have hm : mayL 0 [] n = true := by simp [mayL]; exact h1
    simp only [hm, if_true, List.length_nil]
    have := load_more ds (n + 1) n ([] ++ [d]) (fun x hx => h x (List.mem_cons_of_mem _ hx)) h1 (by simp) (by simp) (by omega)
    rw [this]
    simp

set_option maxHeartbeats 2000000 in
theorem app_full (B p pd : Nat) (s : St) (F : Nat → Prop) (first : Int) (ds : List (List UInt8)) (n : Int) (bv : Value) (b : List UInt8) (w : World) (h : LW w B p pd s F first ds) (hS : Sl w bv b) (ht : Fr.Tab w) (hn : n ≤ 9223372036854775807) (hm : mayL first ds n = true) (hl : b.length ≤ 32768)
    (hr : s.room < (used s.now : Int) + (recB n b).length) (hms : s.mass + 40000 ≤ 1000000000) :
    Calls Tryd.prog 14 #[.pointer (some ⟨p, 0, none⟩), .int .i64 n, bv] w fun e w' => e = .returned (.int .i64 2) ∧ Hid (Below w.heap.size w w') := by
  obtain ⟨aob, capb, rfl, _, _⟩ := hS.shape
  have HM : Hid (_) := h.may n hn
  rw [hm] at HM
  have m1 : 1 ≤ n := by
    unfold mayL at hm
    simp only [Bool.and_eq_true, decide_eq_true_eq] at hm
    exact hm.1
  have hrs := recB_size n b ⟨by omega, hn⟩ hl
  obtain ⟨X, HX⟩ : ∃ X, Hid (X = recB n b) := ⟨recB n b, (rfl : _ = recB n b)⟩
  rw [← HX.out] at hr hrs
  have HC : Hid (∀ m, Calls Tryd.prog 32 #[.int .i64 n, .slice aob b.length capb] (w.drewN m) fun e w2 => ∃ ao cap, e = .returned (.slice ao X.length cap) ∧ w2.cell? ⟨p, 0, none⟩ = some (.pointer (some ⟨pd, 0, none⟩)) ∧ Hid (Calls Tryd.prog 20 #[.pointer (some ⟨pd, 0, none⟩), .string nmW, .slice ao X.length cap] w2 fun e w3 => e = .returned (.int .i64 2) ∧ Hid (Below w.heap.size w w3))) := by
    intro m
    have hb1 : Below w.heap.size w (w.drewN m) := ⟨rfl, rfl, rfl, Nat.le_refl _, fun _ _ => rfl⟩
    refine (seal_any n (.slice aob b.length capb) b (w.drewN m) (hS.below hb1) (ht.drew m) ⟨by omega, hn⟩ hl).mono ?_
    rintro e w2 ⟨ao, L, cap, rfl, hO, hb2⟩
    have hb2' : Below w.heap.size w w2 := hb1.trans hb2
    have hSX := Sl.of_own hO
    obtain ⟨ao', cap', e2, _, _⟩ := hSX.shape
    simp only [Value.slice.injEq] at e2
    obtain ⟨rfl, rfl, rfl⟩ := e2
    rw [← HX.out]
    have hW2 := h.below hb2'
    refine ⟨ao, cap, rfl, hW2.cell0, ?_⟩
    refine (append_room pd s F nmW ao X.length cap w2 hW2.dk (by decide) hr (by omega) (by omega)).mono ?_
    rintro e w3 ⟨rfl, hb3⟩
    exact ⟨rfl, hb2'.trans (hb3.mono hb2'.size)⟩
  clear h hS ht hn hm hr hms m1 hrs
  have hl' : ¬ (32768 : Int) < (b.length : Int) := by omega
  simp only [nmW] at HC
  go_enter Tryd.func14, Tryd.ntmps14
  go_wp2_with (first
    | (go_at_call 31; refine Calls.mono HM.out ?_; rintro e w1 ⟨rfl, m, rfl⟩; have HC1 : Hid (_) := HC.out m; clear HC)
    | (go_at_call 32; refine Calls.mono HC1.out ?_; rintro e w2 ⟨ao2, cap2, rfl, c2, HC2⟩; clear HC1)
    | (go_at_call 20; refine Calls.mono HC2.out ?_; rintro e w3 ⟨rfl, HC3⟩; clear HC2))
  go_ret
  exact ⟨rfl, HC3.out⟩
end Go.Proofs.YtnbdkojdddplkaaDoor.Wl
namespace Go.Proofs.YtnbdkojdddplkaaDoor.Wl
open Go.RowKit Dk

def zz (n : Nat) : List UInt8 := List.replicate n 0
theorem zz_len (n : Nat) : (zz n).length = n := by simp [zz]
theorem made_zz (n : Nat) : (madeCells (Value.int .u8 0).cells (n * 1)).toList = cells8 (zz n) := by
  have hz : ∀ j : Nat, (Value.int .u8 0).cells[j % (Value.int .u8 0).cells.size]! = .int .u8 0 := by
    intro j
    have e : (Value.int .u8 0).cells = #[.int .u8 0] := rfl
    rw [e, show (#[Value.int .u8 0] : Array Value).size = 1 from rfl, Nat.mod_one]
    rfl
  unfold madeCells
  rw [show (fun x => (Value.int .u8 0).cells[x % (Value.int .u8 0).cells.size]!) = fun _ => Value.int .u8 0 from funext hz]
  simp [cells8, zz, List.map_const']

def dK (m k : Nat) : List (List UInt8) := List.replicate k (zz m)
theorem dK_len (m k : Nat) : (dK m k).length = k := by simp [dK]
theorem dK_succ (m k : Nat) : dK m (k + 1) = dK m k ++ [zz m] := by simp [dK, List.replicate_succ']
def fK (m k : Nat) : List UInt8 := fileB 1 (dK m k)
theorem fK_succ (m k : Nat) : fK m (k + 1) = fK m k ++ recB ((k : Int) + 1) (zz m) := by
  unfold fK
  rw [dK_succ, fileB_append, dK_len]
  simp only [fileB, List.append_nil]
  rw [Int.add_comm]
def nowK (m k : Nat) : List Fl := if k = 0 then [] else [⟨nmW, fK m k⟩]
theorem now_succ (m k : Nat) : ap (nowK m k) (.app nmW (recB ((k : Int) + 1) (zz m))) = nowK m (k + 1) := by
  have hn : nowK m (k + 1) = [⟨nmW, fK m k ++ recB ((k : Int) + 1) (zz m)⟩] := by unfold nowK; rw [if_neg (Nat.succ_ne_zero k), fK_succ]
  rw [hn]
  unfold nowK
  by_cases h : k = 0
  · subst h
    rw [if_pos rfl]
    have : fK m 0 = [] := rfl
    rw [this]
    simp [ap, Dk.look, Dk.del, Dk.ins]
  · rw [if_neg h]
    simp [ap, Dk.look, Dk.del, Dk.ins]
theorem now_used (m k : Nat) : used (nowK m k) = (fK m k).length := by
  unfold nowK
  split
  · rename_i h; subst h; rfl
  · simp [used]
theorem fK_le (m : Nat) (hm : m ≤ 300) : ∀ k, k ≤ 300 → (fK m k).length ≤ k * (m + 28)
  | 0, _ => by simp [fK, dK, fileB]
  | k + 1, h => by
    have h1 := fK_le m hm k (by omega)
    have h2 := recB_size ((k : Int) + 1) (zz m) ⟨by omega, by omega⟩ (by rw [zz_len]; omega)
    rw [zz_len] at h2
    rw [fK_succ, List.length_append, Nat.add_mul]
    omega

/-- k records of m bytes are there. -/
def FR (w0 w : World) (p pd R m k : Nat) : Prop := ∃ s F, LW w w0.heap.size p pd s F (if k = 0 then 0 else 1) (dK m k) ∧ s.room = (R : Int) ∧ s.now = nowK m k ∧ s.mass ≤ 400 * k ∧ (∀ j, F j → w0.heap.size ≤ j) ∧ Below w0.heap.size w0 w ∧ (fK m k).length ≤ 3000
theorem may_next (m k : Nat) : mayL (if k = 0 then 0 else 1) (dK m k) ((k : Int) + 1) = true := by
  unfold mayL
  rw [dK_len]
  by_cases h : k = 0
  · subst h; simp
  · simp only [h, if_false]
    simp
    omega

theorem FR.step {w0 w : World} {p pd R m k : Nat} (h : FR w0 w p pd R m k) (hT : ∀ u, Below w0.heap.size w0 u → Fr.Tab u) (hR : R ≤ 3000) (hm : m ≤ 300) (hk : k < 300) :
    ∃ w2 a L c, (Instr.makeSlice 33 (.int .i64 m) (.int .i64 m)).run Tryd.prog w = .ok (.slice a L c) w2 ∧ Hid (Calls Tryd.prog 14 #[.pointer (some ⟨p, 0, none⟩), .int .i64 ((k : Int) + 1), .slice a L c] w2 fun e w3 => ∃ E : Int, e = .returned (.int .i64 E) ∧ ((E = 0 ∧ Hid (FR w0 w3 p pd R m (k + 1))) ∨ (E = 2 ∧ Hid (FR w0 w3 p pd R m k ∧ R < (k + 1) * (m + 28))))) := by
  obtain ⟨s, F, hL, hr, hnow, hms, hF, hb, hf3⟩ := h
  obtain ⟨i, hi, hz0, hz1, hz2⟩ := info_parts Tryd.info5
  obtain ⟨w2, hm2, hO2, hg2⟩ := run_make_full (P := Tryd.prog) w w.heap.size 33 5 i (.int .u8 0) 1 Tryd.underlying33 hi hz0 hz1 .i64 .i64 m (by rw [hz2]; omega) (by simp [maxLen]; omega) (Nat.le_refl _)
  have hb2 : Below w.heap.size w w2 := (Below.refl _ _).grown hg2 (Nat.le_refl _) (fun k hk => by cases hk)
  rw [made_zz] at hO2
  have hO2' : w2.ownsRow w.heap.size 5 1 (.slice (some ⟨w.heap.size, 0, none⟩) m m) (zz m).length (cells8 (zz m)) := by rw [zz_len]; exact hO2
  have hS2 := Sl.of_own hO2'
  have hbw2 : Below w0.heap.size w0 w2 := hb.trans (hb2.mono hb.size)
  have hFlt := hL.dk.lt
  refine ⟨w2, _, _, _, hm2, ?_⟩
  have hrec := recB_size ((k : Int) + 1) (zz m) ⟨by omega, by omega⟩ (by rw [zz_len]; omega)
  rw [zz_len] at hrec
  by_cases hfit : (fK m k).length + (recB ((k : Int) + 1) (zz m)).length ≤ R
  · refine (app_ok w0.heap.size p pd s F _ (dK m k) ((k : Int) + 1) _ (zz m) w2 (hL.below hb2) ⟨hS2, fun a n c e hF' => ?_⟩ (hT w2 hbw2) (by omega) (may_next m k) (by rw [zz_len]; omega) (by rw [hnow, now_used, hr]; omega) (Or.inr (by rw [hnow]; unfold nowK; split <;> simp)) (by omega) (by rw [dK_len]; omega) ?_).mono ?_
    · have h1 := hFlt _ hF'
      have h2 := (hO2'.lt a.block (by rw [e]; rfl)).1
      omega
    · by_cases hk0 : k = 0
      · subst hk0; simp [dK, fileB]
      · rw [if_neg hk0]
        have : (fileB 1 (dK m k)).length = (fK m k).length := rfl
        omega
    · rintro e w3 ⟨rfl, F', hL3, hF3, hf⟩
      have hs2 := hbw2.size
      refine ⟨0, rfl, Or.inl ⟨rfl, s.push (.app nmW (recB ((k : Int) + 1) (zz m))), F', ?_, hr, ?_, ?_, fun j hj => ?_, hbw2.trans (hf.below (fun j hj => ?_) hs2), ?_⟩⟩
      · rw [dK_succ, if_neg (by omega)]
        rw [dK_len] at hL3
        by_cases hk0 : k = 0
        · subst hk0; exact hL3
        · rw [if_neg hk0, if_neg hk0] at hL3; exact hL3
      · rw [St.push_now, hnow, now_succ]
      · rw [St.push_mass]
        simp only [Ch.mass]
        omega
      · rcases hF3 j hj with hh | hh
        · exact hF j hh
        · omega
      · rcases hj with hh | hh
        · exact hF j hh
        · exact hh
      · rw [fK_succ, List.length_append]
        omega
  · have hkl := fK_le m hm k (by omega)
    refine (app_full w0.heap.size p pd s F _ (dK m k) ((k : Int) + 1) _ (zz m) w2 (hL.below hb2) hS2 (hT w2 hbw2) (by omega) (may_next m k) (by rw [zz_len]; omega) (by rw [hnow, now_used, hr]; omega) (by omega)).mono ?_
    rintro e w3 ⟨rfl, hb3⟩
    have hs2 := hb2.size
    have hb23 : Below w.heap.size w w3 := hb2.trans (hb3.out.mono hs2)
    refine ⟨2, rfl, Or.inr ⟨rfl, ⟨s, F, hL.below hb23, hr, hnow, hms, hF, hb.trans (hb23.mono hb.size), hf3⟩, ?_⟩⟩
    rw [Nat.add_mul]
    omega

theorem last_K (m k : Nat) : lastL (if k = 0 then 0 else 1) (dK m k) = (k : Int) := by
  unfold lastL
  rw [dK_len]
  by_cases h : k = 0
  · subst h; rfl
  · rw [if_neg h, if_neg h]
    omega
/-- The law's end. -/
theorem FR.tail {w0 w : World} {p pd R m k : Nat} (h : FR w0 w p pd R m k) (hT : ∀ u, Below w0.heap.size w0 u → Fr.Tab u) (hw0 : 0 < w0.heap.size) (hm : m ≤ 300) (hk : k ≤ 300) :
    Calls Tryd.prog 17 #[.pointer (some ⟨p, 0, none⟩)] w fun e w4 => e = .returned (.tuple #[]) ∧ Hid (Calls Tryd.prog 18 #[.pointer (some ⟨pd, 0, none⟩), .int .i64 (-1), .int .i64 0] w4 fun e w5 => ∃ q, e = .returned (.pointer (some ⟨q, 0, none⟩)) ∧ Hid (Calls Tryd.prog 11 #[.pointer (some ⟨q, 0, none⟩)] w5 fun e w6 => ∃ r, e = .returned (.tuple #[.pointer (some ⟨r, 0, none⟩), .int .i64 0]) ∧ Hid (Calls Tryd.prog 24 #[.pointer (some ⟨p, 0, none⟩)] w6 fun e w7 => e = .returned (.int .i64 (k : Int)) ∧ Hid (Calls Tryd.prog 24 #[.pointer (some ⟨r, 0, none⟩)] w7 fun e w8 => e = .returned (.int .i64 (k : Int)) ∧ Hid (Below w0.heap.size w0 w8))))) := by
  obtain ⟨s, F, hL, hr, hnow, hms, hF, hb, hf3⟩ := h
  refine (sync_log w0.heap.size p pd s F _ (dK m k) w hL (by omega)).mono ?_
  rintro e w4 ⟨rfl, hL4, hf4⟩
  refine ⟨rfl, ?_⟩
  have hb4 : Below w0.heap.size w0 w4 := hb.trans (hf4.below hF hb.size)
  rw [hr, hnow] at hL4
  have hmass : (⟨(R : Int), nowK m k, []⟩ : St).mass ≤ 4000 := by
    simp only [St.mass, Dk.mass, wmass, nowK]
    split <;> simp <;> omega
  refine (crash_any pd _ _ (-1) 0 w4 hL4.dk (by omega)).mono ?_
  rintro e w5 ⟨q, rfl, hq, hD5, hb5⟩
  refine ⟨q, rfl, ?_⟩
  have hlf : (⟨(⟨(R : Int), nowK m k, []⟩ : St).room, Dk.leftOf ⟨(R : Int), nowK m k, []⟩ (-1) 0, []⟩ : St) = ⟨(R : Int), nowK m k, []⟩ := rfl
  rw [hlf] at hD5
  have hb5' : Below w0.heap.size w0 w5 := hb4.trans (hb5.mono hb4.size)
  have hs4 := hb4.size
  have hs5 := hb5.size
  have hnw : (⟨(R : Int), nowK m k, []⟩ : St).now = nowK m k := rfl
  have hfo : fileOf ⟨(R : Int), nowK m k, []⟩ nmW = fK m k := by
    unfold fileOf
    rw [hnw]
    unfold nowK
    split
    · rename_i h0; subst h0; rfl
    · rw [look_one]; rfl
  have hlen : (nowK m k).length ≤ 1 := by unfold nowK; split <;> simp
  refine (open_any q ⟨(R : Int), nowK m k, []⟩ _ w5 hD5 (hT w5 hb5') ?_ (by rw [hnw]; omega) (fun f hf => ?_) (by rw [hfo]; omega) (if k = 0 then 0 else 1) (dK m k) ?_).mono ?_
  · rintro (hh | hh)
    · exact hh
    · omega
  · rw [hnw] at hf
    unfold nowK at hf
    split at hf
    · simp at hf
    · rw [List.mem_singleton] at hf
      rw [hf]
      exact (show nmW.size ≤ maxLen by decide)
  · rw [hfo]
    unfold fK
    rw [load_file (dK m k) 1 (fun d hd => by rw [(List.mem_replicate.1 hd).2, zz_len]; omega) (by decide) (by rw [dK_len]; omega), dK_len]
  · rintro e w6 ⟨r, rfl, ⟨F6, hL6, _⟩, hf6⟩
    refine ⟨r, rfl, ?_⟩
    have hb6 : Below w4.heap.size w5 w6 := hf6.below (fun j hj => by
      rcases hj with hh | hh
      · exact hh.elim
      · exact hh.1) hs5
    have hb46 : Below w4.heap.size w4 w6 := hb5.trans hb6
    have hL46 := hL4.below hb46
    have h1 := hL46.last
    rw [last_K] at h1
    refine h1.mono ?_
    rintro e w7 ⟨rfl, n7, rfl⟩
    refine ⟨rfl, ?_⟩
    have h2 := (hL6.drew n7).last
    rw [last_K] at h2
    refine h2.mono ?_
    rintro e w8 ⟨rfl, n8, rfl⟩
    exact ⟨rfl, (hb4.trans (hb46.mono hs4)).trans ⟨rfl, rfl, rfl, Nat.le_refl _, fun _ _ => rfl⟩⟩
end Go.Proofs.YtnbdkojdddplkaaDoor.Wl
namespace Go.Proofs.YtnbdkojdddplkaaDoor.Wl
open Go.RowKit Dk

theorem sK_open (R : Int) : openS ⟨R, [], []⟩ = ⟨R, [], []⟩ := by
  have hf : fileOf (⟨R, [], []⟩ : St) nmW = [] := rfl
  unfold openS
  rw [hf, Fr.scan_nil]
  rfl
theorem room_id (R : Int) (h0 : 0 ≤ R) (h1 : R ≤ 3000) : roomN R = R := by unfold roomN; omega

set_option maxHeartbeats 4000000 in
set_option maxRecDepth 20000 in
theorem walFull_any (room size : Int) (w : World) (ht : Fr.Tab w) : Calls Tryd.prog 6 #[.int .i64 room, .int .i64 size] w fun e w' => e = .returned (.bool true) ∧ Below w.heap.size w w' := by
  have hw0 : 0 < w.heap.size := cell_lt (ht 0 (by omega))
  have HB : Hid (_) := begun_any w ht
  have HT : Hid (∀ u, Below w.heap.size w u → Fr.Tab u) := fun u hb => ht.below hb
  by_cases hr0 : room < 0
  · go_enter Tryd.func6, Tryd.ntmps6
    go_wp2_with (go_at_call 9; refine Calls.mono HB.out ?_; rintro e w1 ⟨rfl, hb1⟩)
    go_ret
    exact ⟨rfl, hb1⟩
  by_cases hr1 : 3000 < room
  · go_enter Tryd.func6, Tryd.ntmps6
    go_wp2_with (go_at_call 9; refine Calls.mono HB.out ?_; rintro e w1 ⟨rfl, hb1⟩)
    go_ret
    exact ⟨rfl, hb1⟩
  by_cases hs0 : size < 0
  · go_enter Tryd.func6, Tryd.ntmps6
    go_wp2_with (go_at_call 9; refine Calls.mono HB.out ?_; rintro e w1 ⟨rfl, hb1⟩)
    go_ret
    exact ⟨rfl, hb1⟩
  by_cases hs1 : 300 < size
  · go_enter Tryd.func6, Tryd.ntmps6
    go_wp2_with (go_at_call 9; refine Calls.mono HB.out ?_; rintro e w1 ⟨rfl, hb1⟩)
    go_ret
    exact ⟨rfl, hb1⟩
  obtain ⟨R, rfl⟩ : ∃ R : Nat, room = (R : Int) := ⟨room.toNat, by omega⟩
  obtain ⟨m, rfl⟩ : ∃ m : Nat, size = (m : Int) := ⟨size.toNat, by omega⟩
  have hR : R ≤ 3000 := by omega
  have hm : m ≤ 300 := by omega
  have HN : Hid (∀ w1, Below w.heap.size w w1 → Calls Tryd.prog 10 #[.int .i64 (R : Int)] w1 fun e w2 => ∃ pd, e = .returned (.pointer (some ⟨pd, 0, none⟩)) ∧ Hid (Calls Tryd.prog 11 #[.pointer (some ⟨pd, 0, none⟩)] w2 fun e w3 => ∃ p, e = .returned (.tuple #[.pointer (some ⟨p, 0, none⟩), .int .i64 0]) ∧ Hid (FR w w3 p pd R m 0))) := by
    intro w1 hb1
    refine (new_any (R : Int) w1).mono ?_
    rintro e w2 ⟨rfl, hD2, hb2⟩
    rw [room_id (R : Int) (by omega) (by omega)] at hD2
    refine ⟨_, rfl, ?_⟩
    have hs1 := hb1.size
    have hs2 := hb2.size
    have hb2' : Below w.heap.size w w2 := hb1.trans (hb2.mono hs1)
    have hf : fileOf (⟨(R : Int), [], []⟩ : St) nmW = [] := rfl
    refine (open_any w1.heap.size ⟨(R : Int), [], []⟩ _ w2 hD2 (HT.out w2 hb2') ?_ (by simp [St.mass, St.now, Dk.mass, wmass, Dk.run]) (fun f hf => by simp [St.now, Dk.run] at hf) (by rw [hf]; decide) 0 [] (by rw [hf, Fr.scan_nil]; rfl)).mono ?_
    · rintro (hh | hh)
      · exact hh
      · omega
    · rintro e w3 ⟨p, rfl, ⟨F', hL, hF'⟩, hf3⟩
      rw [sK_open] at hL
      refine ⟨p, rfl, ⟨(R : Int), [], []⟩, F', ⟨hL.dk, ?_, hL.np, by have := hL.new; omega⟩, rfl, rfl, by simp [St.mass, Dk.mass, wmass], fun k hk => ?_, hb2'.trans (hf3.below (fun k hk => ?_) hb2'.size), by simp [fK, dK, fileB]⟩
      · obtain ⟨vr, rs, G, a1, a2, a3⟩ := hL.lg
        exact ⟨vr, rs, G, a1, a2, fun k hk => ⟨(a3 k hk).1, by have := (a3 k hk).2; omega⟩⟩
      · rcases hF' k hk with (hh | hh) | hh
        · exact hh.elim
        · omega
        · omega
      · rcases hk with hh | hh
        · exact hh.elim
        · omega
  go_enter Tryd.func6, Tryd.ntmps6
  go_wp2_with (first
    | (go_at_call 9; refine Calls.mono HB.out ?_; rintro e w1 ⟨rfl, hb1⟩; have HN1 : Hid (_) := HN.out w1 hb1; clear HN hb1)
    | (go_at_call 10; refine Calls.mono HN1.out ?_; rintro e w2 ⟨pd, rfl, HN2⟩; clear HN1)
    | (go_at_call 11; refine Calls.mono HN2.out ?_; rintro e w3 ⟨p, rfl, HN3⟩; clear HN2))
  go_loopw [8, 9] (fun v8 v9 wr => ∃ k : Nat, k ≤ 300 ∧ v8 = .int .i64 0 ∧ v9 = .int .i64 (k : Int) ∧ Hid (FR w wr p pd R m k)) (fun _ v9 _ => 300 - (intOf v9).toNat)
  case atStart => exact ⟨0, Nat.zero_le _, rfl, rfl, HN3.out⟩
  case round =>
    obtain ⟨k, hk, rfl, rfl, HK⟩ := hrel
    have hmulb : ((m : Int) + 40) * ((k : Int) + 1) ≤ 340 * 301 := Int.mul_le_mul (by omega) (by omega) (by omega) (by omega)
    have hmul0 : 40 * ((k : Int) + 1) ≤ ((m : Int) + 40) * ((k : Int) + 1) := Int.mul_le_mul_of_nonneg_right (by omega) (by omega)
    obtain ⟨P, HP⟩ : ∃ P, ((m : Int) + 40) * ((k : Int) + 1) = P := ⟨_, rfl⟩
    rw [HP] at hmulb hmul0
    have hP0 : 0 ≤ P := by omega
    have hP1 : P ≤ 102340 := by omega
    have HP40 : Hid (40 * ((k : Int) + 1) ≤ P) := hmul0
    clear hmulb hmul0
    have HPn : Hid (((((k + 1) * (m + 40) : Nat)) : Int) = P) := by
      show _ = _
      rw [← HP, Int.mul_comm, Int.natCast_mul]
      rfl
    by_cases hlt : k < 300
    · have hlt' : (k : Int) < 300 := by omega
      have hne : ((k : Int) == 300) = false := by rw [beq_eq_false_iff_ne]; omega
      obtain ⟨w4, a4, L4, c4, hmk, HC4⟩ := FR.step HK.out HT.out hR hm hlt
      clear HN3
      go_wp2_with (go_at_call 14; refine Calls.mono HC4.out ?_; rintro e w5 ⟨E, rfl, ⟨rfl, HX5⟩ | ⟨rfl, HX5⟩⟩)
      · go_roundw
        case rel => exact ⟨k + 1, by omega, rfl, by go_num, HX5.out⟩
        case measure => simp [intOf]; omega
      · have hfin : (R : Int) - ((m : Int) + 40) - 200 < P + 64 := by
          have h1 := HX5.out.2
          have h2 : (k + 1) * (m + 28) ≤ (k + 1) * (m + 40) := Nat.mul_le_mul_left _ (by omega)
          have h3 := HPn.out
          omega
        have HE : Hid (_) := FR.tail HX5.out.1 HT.out hw0 hm hk
        clear HX5 hmk HC4 HK HPn HP40
        refine Calls.mono HE.out ?_
        rintro e w6 ⟨rfl, HE6⟩
        go_wp2_with (first
          | (go_at_call 18; refine Calls.mono HE6.out ?_; rintro e w7 ⟨q, rfl, HE7⟩; clear HE6)
          | (go_at_call 11; refine Calls.mono HE7.out ?_; rintro e w8 ⟨r, rfl, HE8⟩; clear HE7)
          | (go_at_call 24; refine Calls.mono HE8.out ?_; rintro e w9 ⟨rfl, HE9⟩; clear HE8)
          | (go_at_call 24; refine Calls.mono HE9.out ?_; rintro e w10 ⟨rfl, HE10⟩; clear HE9))
        go_ret
        exact ⟨rfl, HE10.out⟩
    · obtain rfl : k = 300 := by omega
      have hfin : (R : Int) - ((m : Int) + 40) - 200 < P + 64 := by
        have h1 := HP40.out
        omega
      have HE : Hid (_) := FR.tail HK.out HT.out hw0 hm hk
      clear HK HPn HP40 HN3
      go_wp2_with fail
      refine Calls.mono HE.out ?_
      rintro e w6 ⟨rfl, HE6⟩
      go_wp2_with (first
        | (go_at_call 18; refine Calls.mono HE6.out ?_; rintro e w7 ⟨q, rfl, HE7⟩; clear HE6)
        | (go_at_call 11; refine Calls.mono HE7.out ?_; rintro e w8 ⟨r, rfl, HE8⟩; clear HE7)
        | (go_at_call 24; refine Calls.mono HE8.out ?_; rintro e w9 ⟨rfl, HE9⟩; clear HE8)
        | (go_at_call 24; refine Calls.mono HE9.out ?_; rintro e w10 ⟨rfl, HE10⟩; clear HE9))
      go_ret
      exact ⟨congrArg (fun b => Ending.returned (Value.bool b)) (decide_eq_true (show (R : Int) - ((m : Int) + 40) - 200 < ((m : Int) + 40) * 301 + 64 by omega)), HE10.out⟩
end Go.Proofs.YtnbdkojdddplkaaDoor.Wl

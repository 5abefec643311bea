/- The walks of begun and of the law WalNone. A log's own file is read as the log; Append on a disk without room. What is read off any file is a front of it; the file that an open log leaves is the log's own. The walk of countUpTo. -/
import Derived.Test.YtnbdkojdddplkaaDoorPart14
import Derived.Lib.SlBytesConst
namespace Go.Proofs.YtnbdkojdddplkaaDoor.Wl
open Go.RowKit Dk

def sev : List UInt8 := [115, 101, 118, 101, 110]
def sZ : St := ⟨1048576, [], []⟩
def sR (X : List UInt8) : St := ⟨1048576, [⟨nmW, X⟩], []⟩
theorem sZ_room : (⟨roomN 1048576, [], []⟩ : St) = sZ := by
  have h : roomN 1048576 = 1048576 := by decide +kernel
  rw [h]
  rfl
theorem sZ_file : fileOf sZ nmW = [] := rfl
theorem load_nil : loadR (Fr.scanL (fileOf sZ nmW)).1 0 [] = (0, []) := by rw [sZ_file, Fr.scan_nil]; rfl
theorem sZ_open : openS sZ = sZ := by
  unfold openS
  rw [load_nil, sZ_file]
  rfl
theorem look_one (X : List UInt8) : Dk.look nmW [⟨nmW, X⟩] = some ⟨nmW, X⟩ := by simp [Dk.look]
theorem sZ_now (X : List UInt8) : (sZ.push (.app nmW X)).now = [⟨nmW, X⟩] := by
  show Dk.run [] [.app nmW X] = _
  simp [Dk.run, Dk.ap, Dk.look, Dk.del, Dk.ins]
theorem sR_now (X : List UInt8) : (sR X).now = [⟨nmW, X⟩] := rfl
theorem sR_file (X : List UInt8) : fileOf (sR X) nmW = X := by
  unfold fileOf
  rw [sR_now, look_one]
  rfl
theorem scan_one (b : List UInt8) (h : b.length ≤ 65536) : (Fr.scanL (Fr.sealL b)).1 = [b] := by
  have h1 := Fr.first_seal b [] h
  rw [List.append_nil] at h1
  rw [Fr.scan_some h1]
  have hd : (Fr.sealL b).drop (8 + b.length) = [] := List.drop_of_length_le (by rw [Fr.seal_len]; omega)
  rw [hd, Fr.scan_nil]
theorem load_one (n : Int) (d : List UInt8) (h0 : 1 ≤ n) (h1 : n ≤ 9223372036854775807) (hl : d.length ≤ 32768) : loadR (Fr.scanL (fileOf (sR (recB n d)) nmW)).1 0 [] = (n, [d]) := by
  rw [sR_file]
  unfold recB
  have e1 := enc_le n
  have e2 := enc_le (d.length : Int)
  rw [scan_one _ (by simp only [List.length_append]; omega)]
  unfold loadR
  rw [unseal_rec n d (by omega) h1 hl]
  have hm : mayL 0 [] n = true := by simp [mayL]; exact h0
  simp only [hm, if_true]
  unfold loadR
  rfl

set_option maxHeartbeats 2000000 in
set_option maxRecDepth 20000 in
theorem begun_any (w : World) (ht : Fr.Tab w) : Calls Tryd.prog 9 #[] w fun e w' => e = .returned (.bool true) ∧ Below w.heap.size w w' := by
  have hw0 : 0 < w.heap.size := cell_lt (ht 0 (by omega))
  have HN : Hid (_) := new_any 1048576 w
  rw [sZ_room] at HN
  have HT : Hid (∀ u, Below w.heap.size w u → Fr.Tab u) := fun u hb => ht.below hb
  obtain ⟨X, HX⟩ : ∃ X, Hid (X = recB 7 sev) := ⟨recB 7 sev, (rfl : _ = recB 7 sev)⟩
  have HXl : Hid (X.length ≤ 33) := by
    have := recB_size 7 sev (by decide) (by decide)
    rw [← HX.out] at this
    exact this
  go_enter Tryd.func9, Tryd.ntmps9
  go_wp2_with fail
  refine Calls.mono HN.out ?_
  rintro e w1 ⟨rfl, hD1, hb1⟩
  have HB1 : Hid (Below w.heap.size w w1) := hb1
  have HO : Hid (Calls Tryd.prog 11 #[.pointer (some ⟨w.heap.size, 0, none⟩)] w1 fun e w2 => ∃ p, e = .returned (.tuple #[.pointer (some ⟨p, 0, none⟩), .int .i64 0]) ∧ ∃ F2, Hid (LW w2 w.heap.size p w.heap.size sZ F2 0 [] ∧ (∀ k, F2 k → w.heap.size ≤ k) ∧ Below w.heap.size w w2)) := by
    have hs1 := hb1.size
    refine (open_any w.heap.size sZ _ w1 hD1 (HT.out w1 hb1) ?_ (by decide +kernel) (fun f hf => by simp [sZ, St.now, Dk.run] at hf) (by rw [sZ_file]; decide) 0 [] load_nil).mono ?_
    · rintro (hh | hh)
      · exact hh
      · omega
    · rintro e w2 ⟨p, rfl, ⟨F', hL, hF'⟩, hf⟩
      rw [sZ_open] at hL
      have hF2 : ∀ k, F' k → w.heap.size ≤ k := fun k hk => by
        rcases hF' k hk with (hh | hh) | hh
        · exact hh.elim
        · exact hh.1
        · omega
      refine ⟨p, rfl, F', ⟨hL.dk, ?_, hL.np, by have := hL.new; omega⟩, hF2, hb1.trans (hf.below (fun k hk => ?_) hs1)⟩
      · obtain ⟨vr, rs, G, a1, a2, a3⟩ := hL.lg
        exact ⟨vr, rs, G, a1, a2, fun k hk => ⟨(a3 k hk).1, by have := (a3 k hk).2; omega⟩⟩
      · rcases hk with hh | hh
        · exact hh.elim
        · exact hh.1
  clear hD1 hb1 HN
  go_wp2_with fail
  refine Calls.mono HO.out ?_
  rintro e w2 ⟨p, rfl, F2, HX2⟩
  clear HO
  have hcv := Lib.run_convert_bytes_const (P := Tryd.prog) w2 33 5 #[.int .u8 115, .int .u8 101, .int .u8 118, .int .u8 101, .int .u8 110] 5 5 Tryd.underlying33 Tryd.underlying5
  have HA : Hid (Calls Tryd.prog 14 #[.pointer (some ⟨p, 0, none⟩), .int .i64 7, .slice (some ⟨w2.heap.size, 0, none⟩) 5 5] (w2.alloc (.cells #[.int .u8 115, .int .u8 101, .int .u8 118, .int .u8 101, .int .u8 110] 5 (5, 6))) fun e w3 => e = .returned (.int .i64 0) ∧ ∃ F3, Hid (LW w3 w.heap.size p w.heap.size (sZ.push (.app nmW X)) F3 7 [sev] ∧ (∀ k, F3 k → w.heap.size ≤ k) ∧ Below w.heap.size w w3)) := by
    obtain ⟨hL, hF, hb⟩ := HX2.out
    have hs := hb.size
    have hba : Below w2.heap.size w2 (w2.alloc (.cells #[.int .u8 115, .int .u8 101, .int .u8 118, .int .u8 101, .int .u8 110] 5 (5, 6))) := (Below.refl _ _).alloc (Nat.le_refl _) _
    have hSa : Sl (w2.alloc (.cells #[.int .u8 115, .int .u8 101, .int .u8 118, .int .u8 101, .int .u8 110] 5 (5, 6))) _ sev := sl_new w2 #[.int .u8 115, .int .u8 101, .int .u8 118, .int .u8 101, .int .u8 110] sev 5 (5, 6) rfl (by decide)
    have hbb := hb.trans (hba.mono hs)
    have hXl := HXl.out
    have hFlt := hL.dk.lt
    have hu : used sZ.now = 0 := rfl
    refine (app_ok w.heap.size p w.heap.size sZ F2 0 [] 7 _ sev _ (hL.below hba) ⟨hSa, fun a n c e hF' => ?_⟩ (HT.out _ hbb) (by decide) (by decide) (by decide) (by rw [← HX.out, hu]; show ((0 : Nat) : Int) + (X.length : Int) ≤ 1048576; omega) (Or.inr (by decide)) (by decide) (by decide) (by decide)).mono ?_
    · simp only [Value.slice.injEq, Option.some.injEq] at e
      have := hFlt _ hF'
      rw [← e.1] at this
      simp at this
    · rintro e w3 ⟨rfl, F', hL3, hF3, hf3⟩
      rw [← HX.out] at hL3
      refine ⟨rfl, F', hL3, fun k hk => ?_, hbb.trans (hf3.below (fun k hk => ?_) hbb.size)⟩
      · rcases hF3 k hk with hh | hh
        · exact hF k hh
        · have := hbb.size; omega
      · rcases hk with hh | hh
        · exact hF k hh
        · exact hh
  clear HX2
  go_wp2_with fail
  clear hcv
  refine Calls.mono HA.out ?_
  rintro e w3 ⟨rfl, F3, HX3⟩
  clear HA
  have HSy : Hid (Calls Tryd.prog 17 #[.pointer (some ⟨p, 0, none⟩)] w3 fun e w4 => e = .returned (.tuple #[]) ∧ ∃ F4, Hid (LW w4 w.heap.size p w.heap.size (sR X) F4 7 [sev] ∧ Below w.heap.size w w4)) := by
    obtain ⟨hL, hF, hb⟩ := HX3.out
    have hm : (sZ.push (.app nmW X)).mass ≤ 100 := by
      have := HXl.out
      rw [St.push_mass]
      simp only [Ch.mass, sZ, St.mass, Dk.mass, wmass]
      simp
      omega
    refine (sync_log w.heap.size p w.heap.size _ F3 7 [sev] w3 hL (by omega)).mono ?_
    rintro e w4 ⟨rfl, h1, h2⟩
    rw [sZ_now] at h1
    exact ⟨rfl, _, h1, hb.trans (h2.below hF hb.size)⟩
  clear HX3
  go_wp2_with fail
  refine Calls.mono HSy.out ?_
  rintro e w4 ⟨rfl, F4, HX4⟩
  clear HSy
  have hmR : (sR X).mass ≤ 100 := by
    have := HXl.out
    simp only [sR, St.mass, Dk.mass, wmass]
    simp
    omega
  have HCr : Hid (Calls Tryd.prog 18 #[.pointer (some ⟨w.heap.size, 0, none⟩), .int .i64 (-1), .int .i64 0] w4 fun e w5 => ∃ q, e = .returned (.pointer (some ⟨q, 0, none⟩)) ∧ Hid (Calls Tryd.prog 11 #[.pointer (some ⟨q, 0, none⟩)] w5 fun e w6 => ∃ r, e = .returned (.tuple #[.pointer (some ⟨r, 0, none⟩), .int .i64 0]) ∧ ∃ F6, Hid (LW w6 w5.heap.size r q (openS (sR X)) F6 7 [sev] ∧ Below w.heap.size w w6))) := by
    obtain ⟨hL, hb⟩ := HX4.out
    refine (crash_any w.heap.size (sR X) F4 (-1) 0 w4 hL.dk (by omega)).mono ?_
    rintro e w5 ⟨q, rfl, hq, hD5, hb5⟩
    refine ⟨q, rfl, ?_⟩
    have hlf : (⟨(sR X).room, Dk.leftOf (sR X) (-1) 0, []⟩ : St) = sR X := rfl
    rw [hlf] at hD5
    have hb5' : Below w.heap.size w w5 := hb.trans (hb5.mono hb.size)
    have hs4 := hb.size
    have hs5 := hb5.size
    have hXl := HXl.out
    refine (open_any q (sR X) _ w5 hD5 (HT.out w5 hb5') ?_ (by rw [sR_now]; simp only [List.length_cons, List.length_nil]; omega) (fun f hf => ?_) (by rw [sR_file]; omega) 7 [sev] (by rw [HX.out]; exact load_one 7 sev (by decide) (by decide) (by decide))).mono ?_
    · rintro (hh | hh)
      · exact hh
      · omega
    · rw [sR_now, List.mem_singleton] at hf
      rw [hf]
      exact (show nmW.size ≤ maxLen by decide)
    · rintro e w6 ⟨r, rfl, ⟨F', hL6, hF'⟩, hf6⟩
      refine ⟨r, rfl, F', hL6, hb5'.trans (hf6.below (fun k hk => ?_) hb5'.size)⟩
      rcases hk with hh | hh
      · exact hh.elim
      · omega
  clear HX4 hmR
  go_wp2_with fail
  refine Calls.mono HCr.out ?_
  rintro e w5 ⟨q, rfl, HO5⟩
  clear HCr
  go_wp2_with fail
  refine Calls.mono HO5.out ?_
  rintro e w6 ⟨r, rfl, F6, HX6⟩
  clear HO5
  have HG : Hid (_) := get_hit w5.heap.size r q (openS (sR X)) F6 7 [sev] 0 w6 HX6.out.1 (by decide) (by decide) (by decide) (by decide) (by decide)
  have HG2 : Hid (Calls Tryd.prog 25 #[.pointer (some ⟨r, 0, none⟩), .int .i64 7] w6 fun e w7 => ∃ ao L cap, e = .returned (.tuple #[.slice ao L cap, .bool true]) ∧ (convert 33 9 (.slice ao L cap)).run Tryd.prog w7 = .ok (.string ⟨#[115, 101, 118, 101, 110]⟩) w7 ∧ Hid (LW w7 w5.heap.size r q (openS (sR X)) F6 7 [sev] ∧ Below w.heap.size w w7)) := by
    refine Calls.mono HG.out ?_
    rintro e w7 ⟨v7, rfl, hO7, hb7⟩
    have hst := str_of_sl (P := Tryd.prog) (Sl.of_own (bs := sev) hO7) 33 5 9 Tryd.underlying33 Tryd.underlying5 Tryd.underlying9
    obtain ⟨ao7, L7, cap7, rfl⟩ := own_slice hO7
    exact ⟨ao7, L7, cap7, rfl, hst, HX6.out.1.below hb7, HX6.out.2.trans (hb7.mono HX6.out.2.size)⟩
  clear HG HX6
  go_wp2_with fail
  refine Calls.mono HG2.out ?_
  rintro e w7 ⟨ao7, L7, cap7, rfl, hst, HX7⟩
  clear HG2
  have HFi : Hid (_) := HX7.out.1.first
  go_wp2_with fail
  refine Calls.mono HFi.out ?_
  rintro e w8 ⟨rfl, hw⟩
  have hw' := hw.symm
  subst hw'
  clear hw
  have HLa : Hid (Calls Tryd.prog 24 #[.pointer (some ⟨r, 0, none⟩)] w7 fun e w' => e = .returned (.int .i64 7) ∧ ∃ m, w' = w7.drewN m) := HX7.out.1.last
  go_wp2_with fail
  refine Calls.mono HLa.out ?_
  rintro e w8 ⟨rfl, m, rfl⟩
  have HAp : Hid (_) := app_no w5.heap.size r q (openS (sR X)) F6 7 [sev] 9 none 0 0 (w7.drewN m) (HX7.out.1.drew m) (by decide) (by decide)
  clear HLa HFi
  go_wp2_with fail
  refine Calls.mono HAp.out ?_
  rintro e w9 ⟨rfl, m9, rfl⟩
  go_wp2
  go_ret
  exact ⟨rfl, HX7.out.2.trans ⟨rfl, rfl, rfl, Nat.le_refl _, fun _ _ => rfl⟩⟩

set_option maxHeartbeats 2000000 in
set_option maxRecDepth 20000 in
theorem walNone_any (w : World) (ht : Fr.Tab w) : Calls Tryd.prog 7 #[] w fun e w' => e = .returned (.bool true) ∧ Below w.heap.size w w' := by
  have HB : Hid (_) := begun_any w ht
  go_enter Tryd.func7, Tryd.ntmps7
  go_wp2_with (first
    | (go_at_call 9; refine Calls.mono HB.out ?_; rintro e w1 ⟨rfl, hb1⟩)
    | (go_at_call 11; refine (open_nil _).mono ?_; rintro e w' ⟨rfl, hw⟩; have hw' := hw.symm; subst hw'; clear hw)
    | (go_at_call 17; refine (sync_nil _).mono ?_; rintro e w' ⟨rfl, hw⟩; have hw' := hw.symm; subst hw'; clear hw)
    | (go_at_call 25; refine (get_nil _).mono ?_; rintro e w' ⟨rfl, hw⟩; have hw' := hw.symm; subst hw'; clear hw)
    | (go_at_call 14; refine (app_nil _ _ _ _ _).mono ?_; rintro e w' ⟨rfl, hw⟩; have hw' := hw.symm; subst hw'; clear hw)
    | (go_at_call 15; refine (from_nil _ _).mono ?_; rintro e w' ⟨rfl, hw⟩; have hw' := hw.symm; subst hw'; clear hw)
    | (go_at_call 16; refine (until_nil _ _).mono ?_; rintro e w' ⟨rfl, hw⟩; have hw' := hw.symm; subst hw'; clear hw)
    | (go_at_call 26; refine (first_nil _).mono ?_; rintro e w' ⟨rfl, hw⟩; have hw' := hw.symm; subst hw'; clear hw)
    | (go_at_call 24; refine (last_nil _).mono ?_; rintro e w' ⟨rfl, hw⟩; have hw' := hw.symm; subst hw'; clear hw))
  go_ret
  exact ⟨rfl, hb1⟩
end Go.Proofs.YtnbdkojdddplkaaDoor.Wl
namespace Go.Proofs.YtnbdkojdddplkaaDoor.Wl
open Go.RowKit Dk

/-- What a log's seals hold. -/
def bodies (n : Int) : List (List UInt8) → List (List UInt8)
  | [] => []
  | b :: r => (Bn.enc n ++ (Bn.enc (b.length : Int) ++ b)) :: bodies (n + 1) r
theorem scan_file : ∀ (ds : List (List UInt8)) (n : Int), (∀ d ∈ ds, d.length ≤ 32768) → (Fr.scanL (fileB n ds)).1 = bodies n ds
  | [], n, _ => by rw [fileB, Fr.scan_nil]; rfl
  | d :: ds, n, h => by
    have hd := h d List.mem_cons_self
    have e1 := enc_le n
    have e2 := enc_le (d.length : Int)
    have h1 := Fr.first_seal (Bn.enc n ++ (Bn.enc (d.length : Int) ++ d)) (fileB (n + 1) ds) (by simp only [List.length_append]; omega)
    have hf : fileB n (d :: ds) = Fr.sealL (Bn.enc n ++ (Bn.enc (d.length : Int) ++ d)) ++ fileB (n + 1) ds := rfl
    rw [hf, Fr.scan_some h1, ← Fr.seal_len, List.drop_left, bodies, scan_file ds (n + 1) (fun x hx => h x (List.mem_cons_of_mem _ hx))]
theorem load_more : ∀ (ds : List (List UInt8)) (n f : Int) (acc : List (List UInt8)), (∀ d ∈ ds, d.length ≤ 32768) → 1 ≤ f → acc ≠ [] → n = f + acc.length → n + ds.length ≤ 9223372036854775808 → loadR (bodies n ds) f acc = (f, acc ++ ds)
  | [], n, f, acc, _, _, _, _, _ => by rw [bodies, loadR, List.append_nil]
  | d :: ds, n, f, acc, h, hf, ha, hn, hb => by
    have hal : acc.length ≠ 0 := fun e => ha (List.eq_nil_of_length_eq_zero e)
    rw [List.length_cons] at hb
    rw [bodies, loadR, unseal_rec n d (by omega) (by omega) (h d List.mem_cons_self)]
    have hm : mayL f acc n = true := by
      unfold mayL
      rw [if_neg hal]
      simp only [Bool.and_eq_true, decide_eq_true_eq, Bool.or_eq_true]
      exact ⟨by omega, Or.inr (by omega)⟩
    simp only [hm, if_true, if_neg hal]
    rw [load_more ds (n + 1) f (acc ++ [d]) (fun x hx => h x (List.mem_cons_of_mem _ hx)) hf (by simp) (by rw [List.length_append]; simp; omega) (by omega), List.append_assoc]
    rfl
theorem load_file (ds : List (List UInt8)) (n : Int) (h : ∀ d ∈ ds, d.length ≤ 32768) (h1 : 1 ≤ n) (hb : n + ds.length ≤ 9223372036854775808) : loadR (Fr.scanL (fileB n ds)).1 0 [] = (if ds.length = 0 then 0 else n, ds) := by
  rw [scan_file ds n h]
  cases ds with
  | nil => rfl
  | cons d ds =>
    rw [List.length_cons] at hb
    rw [bodies, loadR, unseal_rec n d (by omega) (by omega) (h d List.mem_cons_self)]
    have hm : mayL 0 [] n = true := by simp [mayL]; exact h1
    simp only [hm, if_true, List.length_nil]
    have := load_more ds (n + 1) n ([] ++ [d]) (fun x hx => h x (List.mem_cons_of_mem _ hx)) h1 (by simp) (by simp) (by omega)
    rw [this]
    simp

set_option maxHeartbeats 2000000 in
theorem app_full (B p pd : Nat) (s : St) (F : Nat → Prop) (first : Int) (ds : List (List UInt8)) (n : Int) (bv : Value) (b : List UInt8) (w : World) (h : LW w B p pd s F first ds) (hS : Sl w bv b) (ht : Fr.Tab w) (hn : n ≤ 9223372036854775807) (hm : mayL first ds n = true) (hl : b.length ≤ 32768)
    (hr : s.room < (used s.now : Int) + (recB n b).length) (hms : s.mass + 40000 ≤ 1000000000) :
    Calls Tryd.prog 14 #[.pointer (some ⟨p, 0, none⟩), .int .i64 n, bv] w fun e w' => e = .returned (.int .i64 2) ∧ Hid (Below w.heap.size w w') := by
  obtain ⟨aob, capb, rfl, _, _⟩ := hS.shape
  have HM : Hid (_) := h.may n hn
  rw [hm] at HM
  have m1 : 1 ≤ n := by
    unfold mayL at hm
    simp only [Bool.and_eq_true, decide_eq_true_eq] at hm
    exact hm.1
  have hrs := recB_size n b ⟨by omega, hn⟩ hl
  obtain ⟨X, HX⟩ : ∃ X, Hid (X = recB n b) := ⟨recB n b, (rfl : _ = recB n b)⟩
  rw [← HX.out] at hr hrs
  have HC : Hid (∀ m, Calls Tryd.prog 32 #[.int .i64 n, .slice aob b.length capb] (w.drewN m) fun e w2 => ∃ ao cap, e = .returned (.slice ao X.length cap) ∧ w2.cell? ⟨p, 0, none⟩ = some (.pointer (some ⟨pd, 0, none⟩)) ∧ Hid (Calls Tryd.prog 20 #[.pointer (some ⟨pd, 0, none⟩), .string nmW, .slice ao X.length cap] w2 fun e w3 => e = .returned (.int .i64 2) ∧ Hid (Below w.heap.size w w3))) := by
    intro m
    have hb1 : Below w.heap.size w (w.drewN m) := ⟨rfl, rfl, rfl, Nat.le_refl _, fun _ _ => rfl⟩
    refine (seal_any n (.slice aob b.length capb) b (w.drewN m) (hS.below hb1) (ht.drew m) ⟨by omega, hn⟩ hl).mono ?_
    rintro e w2 ⟨ao, L, cap, rfl, hO, hb2⟩
    have hb2' : Below w.heap.size w w2 := hb1.trans hb2
    have hSX := Sl.of_own hO
    obtain ⟨ao', cap', e2, _, _⟩ := hSX.shape
    simp only [Value.slice.injEq] at e2
    obtain ⟨rfl, rfl, rfl⟩ := e2
    rw [← HX.out]
    have hW2 := h.below hb2'
    refine ⟨ao, cap, rfl, hW2.cell0, ?_⟩
    refine (append_room pd s F nmW ao X.length cap w2 hW2.dk (by decide) hr (by omega) (by omega)).mono ?_
    rintro e w3 ⟨rfl, hb3⟩
    exact ⟨rfl, hb2'.trans (hb3.mono hb2'.size)⟩
  clear h hS ht hn hm hr hms m1 hrs
  have hl' : ¬ (32768 : Int) < (b.length : Int) := by omega
  simp only [nmW] at HC
  go_enter Tryd.func14, Tryd.ntmps14
  go_wp2_with (first
    | (go_at_call 31; refine Calls.mono HM.out ?_; rintro e w1 ⟨rfl, m, rfl⟩; have HC1 : Hid (_) := HC.out m; clear HC)
    | (go_at_call 32; refine Calls.mono HC1.out ?_; rintro e w2 ⟨ao2, cap2, rfl, c2, HC2⟩; clear HC1)
    | (go_at_call 20; refine Calls.mono HC2.out ?_; rintro e w3 ⟨rfl, HC3⟩; clear HC2))
  go_ret
  exact ⟨rfl, HC3.out⟩
end Go.Proofs.YtnbdkojdddplkaaDoor.Wl
namespace Go.Proofs.YtnbdkojdddplkaaDoor.Wl
open Go.RowKit Dk

theorem scan_front : ∀ (m : Nat) (bs : List UInt8), bs.length ≤ m → ((Fr.scanL bs).1.flatMap Fr.sealL) <+: bs
  | 0, bs, h => by
    have : bs = [] := List.eq_nil_of_length_eq_zero (by omega)
    subst this
    rw [Fr.scan_nil]
    exact List.prefix_refl _
  | m + 1, bs, h => by
    cases hf : Fr.firstB bs with
    | none => rw [Fr.scan_none hf]; exact List.nil_prefix
    | some b =>
      have hs := Fr.first_some hf
      rw [Fr.scan_some hf]
      have ih := scan_front m (bs.drop (8 + b.length)) (by rw [List.length_drop]; have := hs.2.2; omega)
      rw [List.flatMap_cons]
      obtain ⟨r, hr⟩ := ih
      refine ⟨r, ?_⟩
      rw [List.append_assoc, hr]
      exact hs.2.1.symm
theorem load_front : ∀ (bs : List (List UInt8)) (f : Int) (acc : List (List UInt8)) (g : Int) (ds : List (List UInt8)), loadR bs f acc = (g, ds) → ∃ more, ds = acc ++ more ∧ (more = [] → g = f) ∧ (acc ≠ [] → g = f) ∧ fileB (if acc.length = 0 then g else f + acc.length) more <+: bs.flatMap Fr.sealL ∧ (∀ d ∈ more, d.length ≤ 32768) ∧ (more ≠ [] → 1 ≤ (if acc.length = 0 then g else f + acc.length) ∧ (if acc.length = 0 then g else f + acc.length) + more.length ≤ 9223372036854775808)
  | [], f, acc, g, ds, h => by
    rw [loadR, Prod.mk.injEq] at h
    obtain ⟨rfl, rfl⟩ := h
    exact ⟨[], by simp, fun _ => rfl, fun _ => rfl, List.nil_prefix, by simp, fun h => absurd rfl h⟩
  | body :: r, f, acc, g, ds, h => by
    rw [loadR] at h
    cases hu : unsealL body with
    | none =>
      rw [hu] at h
      simp only [Prod.mk.injEq] at h
      obtain ⟨rfl, rfl⟩ := h
      exact ⟨[], by simp, fun _ => rfl, fun _ => rfl, List.nil_prefix, by simp, fun h => absurd rfl h⟩
    | some nd =>
      obtain ⟨n, d⟩ := nd
      rw [hu] at h
      simp only at h
      by_cases hm : mayL f acc n = true
      · rw [if_pos hm] at h
        have hb := unseal_back hu
        obtain ⟨m1, m2⟩ : 1 ≤ n ∧ (acc.length = 0 ∨ n - 1 = (if acc.length = 0 then 0 else f + acc.length - 1)) := by simpa [mayL] using hm
        obtain ⟨more, h1, h2, h3, h4, h5, h6⟩ := load_front r _ _ g ds h
        have hg : g = if acc.length = 0 then n else f := h3 (by simp)
        have hnum : (if acc.length = 0 then g else f + acc.length) = n := by
          by_cases ha : acc.length = 0
          · rw [if_pos ha, hg, if_pos ha]
          · rw [if_neg ha] at m2 ⊢
            omega
        have hnext : (if (acc ++ [d]).length = 0 then g else (if acc.length = 0 then n else f) + ((acc ++ [d]).length : Int)) = n + 1 := by
          rw [if_neg (by simp), List.length_append]
          by_cases ha : acc.length = 0
          · rw [if_pos ha]; simp [ha]
          · rw [if_neg ha]
            rw [if_neg ha] at hnum
            simp
            omega
        rw [hnext] at h4 h6
        refine ⟨d :: more, by rw [h1]; simp, fun e => by simp at e, fun ha => ?_, ?_, fun x hx => ?_, ?_⟩
        · rw [hg, if_neg (fun e => ha (List.eq_nil_of_length_eq_zero e))]
        · rw [hnum, fileB, List.flatMap_cons]
          unfold recB
          rw [← hb.1]
          exact (List.prefix_append_right_inj _).2 h4
        · rcases List.mem_cons.1 hx with rfl | hx
          · exact hb.2.2.2
          · exact h5 x hx
        · intro _
          rw [hnum, List.length_cons]
          refine ⟨m1, ?_⟩
          by_cases hmo : more = []
          · subst hmo
            simp
            omega
          · have := (h6 hmo).2
            omega
      · rw [if_neg hm, Prod.mk.injEq] at h
        obtain ⟨rfl, rfl⟩ := h
        exact ⟨[], by simp, fun _ => rfl, fun _ => rfl, List.nil_prefix, by simp, fun h => absurd rfl h⟩
/-- What is read off a file: its own file is a front of that file, and is read as it. -/
theorem load_any (fb : List UInt8) (g : Int) (ds : List (List UInt8)) (h : loadR (Fr.scanL fb).1 0 [] = (g, ds)) : fileB g ds <+: fb ∧ (ds = [] → g = 0) ∧ (∀ d ∈ ds, d.length ≤ 32768) ∧ (ds ≠ [] → 1 ≤ g ∧ g + ds.length ≤ 9223372036854775808) ∧ loadR (Fr.scanL (fileB g ds)).1 0 [] = (g, ds) := by
  obtain ⟨more, h1, h2, _, h4, h5, h6⟩ := load_front _ 0 [] g ds h
  simp only [List.nil_append] at h1
  subst h1
  simp only [List.length_nil, if_true] at h4 h6
  refine ⟨h4.trans (scan_front _ fb (Nat.le_refl _)), h2, h5, h6, ?_⟩
  cases ds with
  | nil => rw [h2 rfl, fileB, Fr.scan_nil]; rfl
  | cons d r =>
    have h7 := h6 (by simp)
    rw [load_file (d :: r) g h5 h7.1 h7.2, if_neg (by simp)]
end Go.Proofs.YtnbdkojdddplkaaDoor.Wl
namespace Go.Proofs.YtnbdkojdddplkaaDoor.Wl
open Go.RowKit Dk

/-- How many records have numbers up to n. -/
def cnt (first : Int) (ds : List (List UInt8)) (n : Int) : Nat := if lastL first ds ≤ n then ds.length else (n - first + 1).toNat

set_option maxHeartbeats 1000000 in
theorem count_any (B p pd : Nat) (s : St) (F : Nat → Prop) (first : Int) (ds : List (List UInt8)) (n : Int) (w : World) (h : LW w B p pd s F first ds) (h0 : 0 ≤ n) (h1 : n ≤ 9223372036854775806) :
    Calls Tryd.prog 35 #[.pointer (some ⟨p, 0, none⟩), .int .i64 n] w fun e w' => e = .returned (.int .i64 (cnt first ds n : Nat)) ∧ ∃ m, w' = w.drewN m := by
  have HL : Hid (_) := h.last
  obtain ⟨_, ⟨vr, rs, G, hL, rfl, _⟩, _, _⟩ := h
  obtain ⟨c0, c1, c2, _⟩ := hL.cells
  obtain ⟨ao, cap, rfl, _⟩ := hL.shape
  have hfit := hL.fit
  have HD : Hid (∀ m, (w.drewN m).cell? ⟨p, 1, none⟩ = some (.int .i64 first) ∧ (w.drewN m).cell? ⟨p, 2, none⟩ = some (.slice ao rs.length cap)) := fun m => ⟨c1, c2⟩
  unfold cnt
  rw [List.length_map]
  obtain ⟨l, Hl⟩ : ∃ l, Hid (l = lastL first (rs.map Re.data)) := ⟨_, (rfl : _ = _)⟩
  rw [← Hl.out] at HL ⊢
  obtain ⟨N, HN⟩ : ∃ N, Hid (N = rs.length) := ⟨_, (rfl : _ = _)⟩
  rw [← HN.out] at HD hfit ⊢
  clear hL c0 c1 c2
  by_cases hc : l ≤ n
  · rw [if_pos hc]
    go_enter Tryd.func35, Tryd.ntmps35
    go_wp2_with (go_at_call 24; refine Calls.mono HL.out ?_; rintro e w1 ⟨rfl, m, rfl⟩; obtain ⟨d1, d2⟩ := HD.out m; clear HD)
    go_ret
    exact ⟨rfl, m, rfl⟩
  · rw [if_neg hc]
    by_cases hz : n - first + 1 < 0
    · have hT : ((n - first + 1).toNat : Int) = 0 := by omega
      rw [hT]
      go_enter Tryd.func35, Tryd.ntmps35
      go_wp2_with (go_at_call 24; refine Calls.mono HL.out ?_; rintro e w1 ⟨rfl, m, rfl⟩; obtain ⟨d1, d2⟩ := HD.out m; clear HD)
      go_ret
      exact ⟨rfl, m, rfl⟩
    · have hT : ((n - first + 1).toNat : Int) = n - first + 1 := by omega
      rw [hT]
      go_enter Tryd.func35, Tryd.ntmps35
      go_wp2_with (go_at_call 24; refine Calls.mono HL.out ?_; rintro e w1 ⟨rfl, m, rfl⟩; obtain ⟨d1, d2⟩ := HD.out m; clear HD)
      go_ret
      exact ⟨rfl, m, rfl⟩
end Go.Proofs.YtnbdkojdddplkaaDoor.Wl

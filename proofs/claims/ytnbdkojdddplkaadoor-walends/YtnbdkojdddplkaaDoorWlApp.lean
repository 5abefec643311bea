/- The walks of Append and Sync. -/
import Derived.Test.YtnbdkojdddplkaaDoorWlOpen
import Derived.Test.YtnbdkojdddplkaaDoorWlBack
namespace Go.Proofs.YtnbdkojdddplkaaDoor.Wl
open Go.RowKit Dk

theorem app_nil (n : Int) (ao : Option Addr) (L cap : Nat) (w : World) : Calls Tryd.prog 14 #[.pointer none, .int .i64 n, .slice ao L cap] w fun e w' => e = .returned (.int .i64 1) ∧ w' = w := by
  go_enter Tryd.func14, Tryd.ntmps14
  go_wp2
  go_ret
  exact ⟨rfl, rfl⟩
theorem sync_nil (w : World) : Calls Tryd.prog 17 #[.pointer none] w fun e w' => e = .returned (.tuple #[]) ∧ w' = w := by
  go_enter Tryd.func17, Tryd.ntmps17
  go_wp2
  exact bodyPost_ret (v := .tuple #[]) (by simp [results, Tryd.results17, go_sem]) rfl ⟨rfl, rfl⟩
theorem from_nil (n : Int) (w : World) : Calls Tryd.prog 15 #[.pointer none, .int .i64 n] w fun e w' => e = .returned (.int .i64 1) ∧ w' = w := by
  go_enter Tryd.func15, Tryd.ntmps15
  go_wp2
  go_ret
  exact ⟨rfl, rfl⟩
theorem until_nil (n : Int) (w : World) : Calls Tryd.prog 16 #[.pointer none, .int .i64 n] w fun e w' => e = .returned (.int .i64 1) ∧ w' = w := by
  go_enter Tryd.func16, Tryd.ntmps16
  go_wp2
  go_ret
  exact ⟨rfl, rfl⟩
theorem get_nil (w : World) : Calls Tryd.prog 25 #[.pointer none, .int .i64 1] w fun e w' => e = .returned (.tuple #[.slice none 0 0, .bool false]) ∧ w' = w := by
  have H1 : Hid (_) := first_nil w
  have H2 : Hid (_) := last_nil w
  go_enter Tryd.func25, Tryd.ntmps25
  go_wp2_with (first
    | (go_at_call 26; refine Calls.mono H1.out ?_; rintro e w' ⟨rfl, hw⟩; have hw' := hw.symm; subst hw')
    | (go_at_call 24; refine Calls.mono H2.out ?_; rintro e w' ⟨rfl, hw⟩; have hw' := hw.symm; subst hw'))
  go_ret2
  exact ⟨rfl, rfl⟩

theorem LW.may {w : World} {B p pd : Nat} {s : St} {F : Nat → Prop} {first : Int} {ds : List (List UInt8)} (h : LW w B p pd s F first ds) (n : Int) (hn : n ≤ 9223372036854775807) :
    Calls Tryd.prog 31 #[.pointer (some ⟨p, 0, none⟩), .int .i64 n] w fun e w' => e = .returned (.bool (mayL first ds n)) ∧ ∃ m, w' = w.drewN m := by
  obtain ⟨_, ⟨vr, rs, G, h1, rfl, _⟩, _, _⟩ := h
  rw [← mayB_L]
  exact may_any p pd first vr rs G n w h1 hn
theorem LW.cell0 {w : World} {B p pd : Nat} {s : St} {F : Nat → Prop} {first : Int} {ds : List (List UInt8)} (h : LW w B p pd s F first ds) : w.cell? ⟨p, 0, none⟩ = some (.pointer (some ⟨pd, 0, none⟩)) := by
  obtain ⟨_, ⟨vr, rs, G, h1, rfl, _⟩, _, _⟩ := h
  exact h1.cells.1
theorem LW.drew {w : World} {B p pd : Nat} {s : St} {F : Nat → Prop} {first : Int} {ds : List (List UInt8)} (h : LW w B p pd s F first ds) (m : Nat) : LW (w.drewN m) B p pd s F first ds := h.below ⟨rfl, rfl, rfl, Nat.le_refl _, fun _ _ => rfl⟩
/-- The disk goes on. -/
theorem LW.disk {w w' : World} {B p pd : Nat} {s s' : St} {F : Nat → Prop} {first : Int} {ds : List (List UInt8)} (h : LW w B p pd s F first ds) (hD : Dk w' pd s' (ext F w w')) (hf : Dk.Fr F w w') : LW w' B p pd s' (ext F w w') first ds := by
  obtain ⟨_, ⟨vr, rs, G, h1, h2, h3⟩, h4, h5⟩ := h
  refine ⟨hD, ⟨vr, rs, G, h1.kept hf (fun k hk => (h3 k hk).1) h4, h2, fun k hk => ⟨?_, (h3 k hk).2⟩⟩, ?_, h5⟩
  · rintro (hh | hh)
    · exact (h3 k hk).1 hh
    · have := h1.lt k hk; omega
  · rintro (hh | hh)
    · exact h4 hh
    · have := h1.plt; omega

theorem recB_size (n : Int) (b : List UInt8) (hn : -9223372036854775808 ≤ n ∧ n ≤ 9223372036854775807) (hl : b.length ≤ 32768) : (recB n b).length ≤ b.length + 28 := by
  rw [recB_len (unseal_rec n b hn.1 hn.2 hl)]
  have h1 := enc_le n
  have h2 := enc_le (b.length : Int)
  simp only [List.length_append]
  omega

set_option maxHeartbeats 1000000 in
theorem sync_log (B p pd : Nat) (s : St) (F : Nat → Prop) (first : Int) (ds : List (List UInt8)) (w : World) (h : LW w B p pd s F first ds) (hm : s.mass ≤ 1000000000) :
    Calls Tryd.prog 17 #[.pointer (some ⟨p, 0, none⟩)] w fun e w' => e = .returned (.tuple #[]) ∧ Hid (LW w' B p pd ⟨s.room, s.now, []⟩ (ext F w w') first ds ∧ Dk.Fr F w w') := by
  have c0 := h.cell0
  have H : Hid (_) := sync_any pd s F w h.dk hm
  have HW : Hid (_) := h
  clear h
  go_enter Tryd.func17, Tryd.ntmps17
  go_wp2_with (go_at_call 23; refine Calls.mono H.out ?_; rintro e w1 ⟨rfl, h1, h2⟩; have HF : Hid (_) := And.intro (HW.out.disk h1 h2) h2; clear h1 h2)
  go_end0
  exact ⟨rfl, HF.out⟩

set_option maxHeartbeats 1000000 in
theorem app_no (B p pd : Nat) (s : St) (F : Nat → Prop) (first : Int) (ds : List (List UInt8)) (n : Int) (ao : Option Addr) (L cap : Nat) (w : World) (h : LW w B p pd s F first ds) (hn : n ≤ 9223372036854775807) (hm : mayL first ds n = false) :
    Calls Tryd.prog 14 #[.pointer (some ⟨p, 0, none⟩), .int .i64 n, .slice ao L cap] w fun e w' => e = .returned (.int .i64 1) ∧ ∃ m, w' = w.drewN m := by
  have H : Hid (_) := h.may n hn
  rw [hm] at H
  clear h hm
  go_enter Tryd.func14, Tryd.ntmps14
  go_wp2_with (go_at_call 31; refine Calls.mono H.out ?_; rintro e w1 ⟨rfl, m, rfl⟩)
  go_ret
  exact ⟨rfl, m, rfl⟩

set_option maxHeartbeats 2000000 in
theorem app_ok (B p pd : Nat) (s : St) (F : Nat → Prop) (first : Int) (ds : List (List UInt8)) (n : Int) (bv : Value) (b : List UInt8) (w : World) (h : LW w B p pd s F first ds) (hS : SlA w bv b F) (ht : Fr.Tab w) (hn : n ≤ 9223372036854775807) (hm : mayL first ds n = true) (hl : b.length ≤ 32768)
    (hr : (used s.now : Int) + (recB n b).length ≤ s.room) (hf : (Dk.look nmW s.now).isSome = true ∨ s.now.length < 64) (hms : s.mass + 40000 ≤ 1000000000) (hdl : ds.length ≤ 100000) (hfl : (fileB first ds).length ≤ 900000000) :
    Calls Tryd.prog 14 #[.pointer (some ⟨p, 0, none⟩), .int .i64 n, bv] w fun e w' => e = .returned (.int .i64 0) ∧ Hid (∃ F', LW w' B p pd (s.push (.app nmW (recB n b))) F' (if ds.length = 0 then n else first) (ds ++ [b]) ∧ (∀ k, F' k → F k ∨ w.heap.size ≤ k) ∧ Dk.Fr (fun k => F k ∨ B ≤ k) w w') := by
  obtain ⟨aob, capb, rfl, _, _⟩ := hS.sl.shape
  have HM : Hid (_) := h.may n hn
  rw [hm] at HM
  obtain ⟨m1, m2⟩ : 1 ≤ n ∧ (ds.length = 0 ∨ n - 1 = (if ds.length = 0 then 0 else first + ds.length - 1)) := by simpa [mayL] using hm
  have hrs := recB_size n b ⟨by omega, hn⟩ hl
  obtain ⟨X, HX⟩ : ∃ X, Hid (X = recB n b) := ⟨_, (rfl : _ = _)⟩
  rw [← HX.out] at hr hrs ⊢
  have HC : Hid (∀ m, Calls Tryd.prog 32 #[.int .i64 n, .slice aob b.length capb] (w.drewN m) fun e w2 => ∃ ao cap, e = .returned (.slice ao X.length cap) ∧ w2.cell? ⟨p, 0, none⟩ = some (.pointer (some ⟨pd, 0, none⟩)) ∧ Hid (Calls Tryd.prog 20 #[.pointer (some ⟨pd, 0, none⟩), .string nmW, .slice ao X.length cap] w2 fun e w3 => e = .returned (.int .i64 0) ∧ Hid (Calls Tryd.prog 34 #[.slice aob b.length capb] w3 fun e w4 => ∃ ao4 cap4, e = .returned (.slice ao4 b.length cap4) ∧ Hid (Calls Tryd.prog 33 #[.pointer (some ⟨p, 0, none⟩), .int .i64 n, .slice ao4 b.length cap4, .int .i64 (X.length : Int)] w4 fun e w5 => e = .returned (.tuple #[]) ∧ Hid (∃ F', LW w5 B p pd (s.push (.app nmW X)) F' (if ds.length = 0 then n else first) (ds ++ [b]) ∧ (∀ k, F' k → F k ∨ w.heap.size ≤ k) ∧ Dk.Fr (fun k => F k ∨ B ≤ k) w w5))))) := by
    intro m
    have hb1 : Below w.heap.size w (w.drewN m) := ⟨rfl, rfl, rfl, Nat.le_refl _, fun _ _ => rfl⟩
    refine (seal_any n (.slice aob b.length capb) b (w.drewN m) (hS.sl.below hb1) (ht.drew m) ⟨by omega, hn⟩ hl).mono ?_
    rintro e w2 ⟨ao, L, cap, rfl, hO, hb2⟩
    have hb2' : Below w.heap.size w w2 := hb1.trans hb2
    have hSX := Sl.of_own hO
    obtain ⟨ao', cap', e2, _, _⟩ := hSX.shape
    simp only [Value.slice.injEq] at e2
    obtain ⟨rfl, rfl, rfl⟩ := e2
    rw [← HX.out] at hSX ⊢
    have hW2 := h.below hb2'
    refine ⟨ao, cap, rfl, hW2.cell0, ?_⟩
    refine (append_ok pd s F nmW _ X w2 hW2.dk hSX (by decide) hr hf (by omega)).mono ?_
    rintro e w3 ⟨rfl, hD3, hf3⟩
    have hW3 := hW2.disk hD3 hf3
    refine ⟨rfl, ?_⟩
    have hs2 := hb2'.size
    have hs3 := hf3.size
    refine (clone_any _ b w3 (SlA.kept (SlA.kept hS (Fr.of_below hb2')) hf3).sl (by omega)).mono ?_
    rintro e w4 ⟨v4, rfl, hO4, hb4⟩
    have hS4 := Sl.of_own hO4
    obtain ⟨ao4, cap4, rfl, _, _⟩ := hS4.shape
    refine ⟨ao4, cap4, rfl, ?_⟩
    obtain ⟨hD3', ⟨vr, rs, G, hL3, hdsE, hG⟩, hnp, hnew⟩ := id hW3
    have hL := hL3.below hb4
    have hD4 := hD3'.below hb4
    have hLG := hL3.lt
    have hp3 := hL3.plt
    subst hdsE
    have hF3 := hW3.dk.lt
    have hs4 := hb4.size
    have hNew : Bn.New w3 w4 (.slice ao4 b.length cap4) := Bn.New.of_own hO4 (Nat.le_refl _)
    have hGlt : ∀ k, G k → k < w3.heap.size := hLG
    have hsize : sizeK first rs rs.length = (fileB first (rs.map Re.data)).length := by
      unfold sizeK
      rw [List.take_of_length_le (by simp)]
    rw [List.length_map] at hdl m2
    refine (add_any p pd first vr rs G (fun k => ∃ a m c, Value.slice ao4 b.length cap4 = .slice (some a) m c ∧ k = a.block) n (.slice ao4 b.length cap4) b X.length w4 hL ⟨hS4, fun a m c e hn => hn ⟨a, m, c, e, rfl⟩⟩ ?_ (by rw [HX.out]) ⟨m1, hn⟩ ?_ (by omega) (by rw [hsize]; omega)).mono ?_
    · rintro k ⟨a, m, c, e, rfl⟩
      have hk := hNew a m c e
      refine ⟨fun hG' => ?_, ?_, hk.2⟩
      · have := hGlt _ hG'
        omega
      · have := hp3
        omega
    · intro hne
      have hz : rs.length ≠ 0 := fun e => hne (List.eq_nil_of_length_eq_zero e)
      rcases m2 with m2 | m2
      · exact absurd m2 hz
      · rw [if_neg hz] at m2
        omega
    · rintro e w5 ⟨rfl, ⟨vr', fin, hL5⟩, hf5⟩
      refine ⟨rfl, ext F w2 w3, ⟨hD4.kept hf5 (fun k hk hG' => ?_), ⟨vr', rs ++ [⟨_, b, fin⟩], _, by rw [List.length_map]; exact hL5, by simp, fun k hk => ?_⟩, hnp, hnew⟩, fun k hk => ?_, ?_⟩
      · rcases hG' with hG' | rfl
        · exact (hG k hG').1 hk
        · exact hnp hk
      · rcases hk with (hk | ⟨a, m, c, e, rfl⟩) | hk
        · exact hG k hk
        · have := (hNew a m c e).1
          exact ⟨fun hF => by have := hF3 _ hF; omega, by omega⟩
        · exact ⟨fun hF => by have := hF3 _ hF; omega, by omega⟩
      · rcases hk with hk | hk
        · exact Or.inl hk
        · exact Or.inr (by omega)
      · refine (((Fr.of_below hb2').trans (hf3.mono (G := fun k => F k ∨ B ≤ k) (fun _ _ h => Or.inl h)) (fun _ _ h => h)).trans (Fr.of_below hb4) (fun _ _ h => h)).trans hf5 (fun k _ hG' => ?_)
        rcases hG' with hG' | rfl
        · exact Or.inr (hG k hG').2
        · exact Or.inr hnew
  clear h hS ht hn hm hr hf hms hdl hfl m1 m2 hrs
  have hl' : ¬ (32768 : Int) < (b.length : Int) := by omega
  obtain ⟨f', Hf'⟩ : ∃ f', Hid (f' = if ds.length = 0 then n else first) := ⟨_, (rfl : _ = _)⟩
  rw [← Hf'.out] at HC ⊢
  simp only [nmW] at HC
  go_enter Tryd.func14, Tryd.ntmps14
  go_wp2_with (first
    | (go_at_call 31; refine Calls.mono HM.out ?_; rintro e w1 ⟨rfl, m, rfl⟩; have HC1 : Hid (_) := HC.out m; clear HC)
    | (go_at_call 32; refine Calls.mono HC1.out ?_; rintro e w2 ⟨ao2, cap2, rfl, c2, HC2⟩; clear HC1)
    | (go_at_call 20; refine Calls.mono HC2.out ?_; rintro e w3 ⟨rfl, HC3⟩; clear HC2)
    | (go_at_call 34; refine Calls.mono HC3.out ?_; rintro e w4 ⟨ao4, cap4, rfl, HC4⟩; clear HC3)
    | (go_at_call 33; refine Calls.mono HC4.out ?_; rintro e w5 ⟨rfl, HC5⟩; clear HC4))
  go_ret
  exact ⟨rfl, HC5.out⟩
end Go.Proofs.YtnbdkojdddplkaaDoor.Wl

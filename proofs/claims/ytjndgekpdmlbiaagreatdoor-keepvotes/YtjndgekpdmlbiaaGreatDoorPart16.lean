/- The walk of Open; a log over its disk. The walks of Append and Sync. The walk of Get; First and Last of an open log. The walks of begun and of the law WalNone. A log's own file is read as the log; Append on a disk without room. -/
import Derived.Test.YtjndgekpdmlbiaaGreatDoorPart15
import Derived.Deep.RegionHeld
import Derived.Lib.SlBytesConst
namespace Go.Proofs.YtjndgekpdmlbiaaGreatDoor.Wl
open Go.RowKit Dk

/-- A log over its disk, its memory's blocks from B on. -/
structure LW (w : World) (B p pd : Nat) (s : St) (F : Nat → Prop) (first : Int) (ds : List (List UInt8)) : Prop where
  dk : Dk w pd s F
  lg : ∃ vr rs G, Lg w p pd first vr rs G ∧ rs.map Re.data = ds ∧ (∀ k, G k → ¬ F k ∧ B ≤ k)
  np : ¬ F p
  new : B ≤ p
theorem LW.below {w w' : World} {B p pd : Nat} {s : St} {F : Nat → Prop} {first : Int} {ds : List (List UInt8)} (h : LW w B p pd s F first ds) (hb : Below w.heap.size w w') : LW w' B p pd s F first ds := by
  obtain ⟨h1, ⟨vr, rs, G, h2, h3, h4⟩, h5, h6⟩ := h
  exact ⟨h1.below hb, ⟨vr, rs, G, h2.below hb, h3, h4⟩, h5, h6⟩
theorem tab_kept {w w' : World} {F : Nat → Prop} (h : Fr.Tab w) (hf : Dk.Fr F w w') (h0 : ¬ F 0) : Fr.Tab w' := fun i hi => hf.cell (h i hi) h0

/-- What opening a log leaves of its disk. -/
def openS (s : St) : St :=
  if (fileB (loadR (Fr.scanL (fileOf s nmW)).1 0 []).1 (loadR (Fr.scanL (fileOf s nmW)).1 0 []).2).length < (fileOf s nmW).length then
    (strays s (s.now.map Fl.name)).push (.cut nmW (fileB (loadR (Fr.scanL (fileOf s nmW)).1 0 []).1 (loadR (Fr.scanL (fileOf s nmW)).1 0 []).2).length)
  else strays s (s.now.map Fl.name)

theorem open_nil (w : World) : Calls Tryz.prog 25 #[.pointer none] w fun e w' => e = .returned (.tuple #[.pointer none, .int .i64 1]) ∧ w' = w := by
  go_enter Tryz.func25, Tryz.ntmps25
  go_wp2
  go_ret2
  exact ⟨rfl, rfl⟩

set_option maxHeartbeats 1000000 in
theorem open_any (pd : Nat) (s : St) (F : Nat → Prop) (w : World) (h : Dk w pd s F) (ht : Fr.Tab w) (h0 : ¬ F 0) (hm : s.mass + s.now.length + 2 ≤ 100000000) (hsz : ∀ f ∈ s.now, f.name.size ≤ maxLen) (hl : (fileOf s nmW).length ≤ 30000) (first : Int) (ds : List (List UInt8)) (hR : loadR (Fr.scanL (fileOf s nmW)).1 0 [] = (first, ds)) :
    Calls Tryz.prog 25 #[.pointer (some ⟨pd, 0, none⟩)] w fun e w' => ∃ p, e = .returned (.tuple #[.pointer (some ⟨p, 0, none⟩), .int .i64 0]) ∧ Hid ((∃ F', LW w' w.heap.size p pd (openS s) F' first ds ∧ ∀ k, F' k → F k ∨ w.heap.size ≤ k) ∧ Dk.Fr F w w') := by
  have hFlt := h.lt
  have HA : Hid (_) := strays_any pd s F w h (by omega) hsz
  have hms := strays_mass (s.now.map Fl.name) s
  rw [List.length_map] at hms
  have hlk := strays_look (s.now.map Fl.name) s
  have HB : Hid (∀ w1 F1, Dk w1 pd (strays s (s.now.map Fl.name)) F1 → (∀ k, F1 k → F k ∨ w.heap.size ≤ k) → Dk.Fr F w w1 → Calls Tryz.prog 47 #[.pointer (some ⟨w1.heap.size, 0, none⟩)] (w1.alloc (.cells #[.pointer (some ⟨pd, 0, none⟩), .int .i64 0, .slice none 0 0] 104)) fun e w' => e = .returned (.tuple #[]) ∧ Hid ((∃ F', LW w' w.heap.size w1.heap.size pd (openS s) F' first ds ∧ ∀ k, F' k → F k ∨ w.heap.size ≤ k) ∧ Dk.Fr F w w')) := by
    intro w1 F1 hD hF1 hf
    have h1lt := hD.lt
    have hb1 : Below w1.heap.size w1 (w1.alloc (.cells #[.pointer (some ⟨pd, 0, none⟩), .int .i64 0, .slice none 0 0] 104)) := (Below.refl _ _).alloc (Nat.le_refl _) _
    have hfo : fileOf (strays s (s.now.map Fl.name)) nmW = fileOf s nmW := by unfold fileOf; rw [hlk]
    have hsz1 := hf.size
    refine (load_walk w1.heap.size pd _ F1 _ (heap_alloc_new _ _) (hD.below hb1) (fun hk => by have := h1lt _ hk; omega) ((tab_kept ht hf h0).below hb1) (by rw [hfo]; exact hl) (by omega) first ds (by rw [hfo]; exact hR)).mono ?_
    rintro e w' ⟨rfl, wS, wr, hbS, ⟨vr, rs, G, hL, hds, hG, hfS⟩, hDr, hc⟩
    refine ⟨rfl, ?_⟩
    have hsa : w1.heap.size ≤ (w1.alloc (.cells #[.pointer (some ⟨pd, 0, none⟩), .int .i64 0, .slice none 0 0] 104)).heap.size := hb1.size
    have hsS := hbS.size
    have hsr := hfS.size
    have hfr : Dk.Fr F w wr := ((hf.trans (G := F) (Fr.of_below hb1) (fun _ _ h => h)).trans (G := F) (Fr.of_below hbS) (fun _ _ h => h)).trans hfS (fun x hx e => by omega)
    have hGF : ∀ k, G k → ¬ F1 k ∧ w.heap.size ≤ k := fun k hk => ⟨fun hF => by have := hG k hk; have := h1lt k hF; omega, by have := hG k hk; omega⟩
    have hnp : ¬ F1 w1.heap.size := fun hk => by have := h1lt _ hk; omega
    rw [hfo] at hc
    unfold openS
    rw [hR]
    rcases hc with ⟨hlt, hDk, hfc⟩ | ⟨hlt, rfl⟩
    · rw [if_pos hlt]
      refine ⟨⟨_, ⟨hDk, ⟨vr, rs, G, hL.kept hfc (fun k hk => (hGF k hk).1) hnp, hds, fun k hk => ⟨?_, (hGF k hk).2⟩⟩, ?_, hsz1⟩, fun k hk => ?_⟩, hfr.trans hfc (fun x hx hF => ?_)⟩
      · rintro (hh | hh)
        · exact (hGF k hk).1 hh
        · have := hL.lt k hk; omega
      · rintro (hh | hh)
        · exact hnp hh
        · have := hL.plt; omega
      · rcases hk with hh | hh
        · exact hF1 k hh
        · exact Or.inr (by omega)
      · rcases hF1 x hF with hh | hh
        · exact hh
        · omega
    · rw [if_neg hlt]
      exact ⟨⟨F1, ⟨hDr, ⟨vr, rs, G, hL, hds, hGF⟩, hnp, hsz1⟩, hF1⟩, hfr⟩
  clear h ht h0 hm hsz hl hR hms hlk hFlt
  go_enter Tryz.func25, Tryz.ntmps25
  go_wp2_with (first
    | (go_at_call 46; refine Calls.mono HA.out ?_; rintro e w1 ⟨rfl, ⟨F1, hD1, hF1⟩, hf1⟩; have HB1 : Hid (_) := HB.out w1 F1 hD1 hF1 hf1; clear hD1 hF1 hf1 HB)
    | (go_at_call 47; refine Calls.mono HB1.out ?_; rintro e w2 ⟨rfl, HX2⟩))
  go_ret2
  exact ⟨_, rfl, HX2.out⟩
end Go.Proofs.YtjndgekpdmlbiaaGreatDoor.Wl
namespace Go.Proofs.YtjndgekpdmlbiaaGreatDoor.Wl
open Go.RowKit Dk

theorem app_nil (n : Int) (ao : Option Addr) (L cap : Nat) (w : World) : Calls Tryz.prog 121 #[.pointer none, .int .i64 n, .slice ao L cap] w fun e w' => e = .returned (.int .i64 1) ∧ w' = w := by
  go_enter Tryz.func121, Tryz.ntmps121
  go_wp2
  go_ret
  exact ⟨rfl, rfl⟩
theorem sync_nil (w : World) : Calls Tryz.prog 57 #[.pointer none] w fun e w' => e = .returned (.tuple #[]) ∧ w' = w := by
  go_enter Tryz.func57, Tryz.ntmps57
  go_wp2
  exact bodyPost_ret (v := .tuple #[]) (by simp [results, Tryz.results57, go_sem]) rfl ⟨rfl, rfl⟩
theorem from_nil (n : Int) (w : World) : Calls Tryz.prog 49 #[.pointer none, .int .i64 n] w fun e w' => e = .returned (.int .i64 1) ∧ w' = w := by
  go_enter Tryz.func49, Tryz.ntmps49
  go_wp2
  go_ret
  exact ⟨rfl, rfl⟩
theorem until_nil (n : Int) (w : World) : Calls Tryz.prog 87 #[.pointer none, .int .i64 n] w fun e w' => e = .returned (.int .i64 1) ∧ w' = w := by
  go_enter Tryz.func87, Tryz.ntmps87
  go_wp2
  go_ret
  exact ⟨rfl, rfl⟩
theorem get_nil (w : World) : Calls Tryz.prog 81 #[.pointer none, .int .i64 1] w fun e w' => e = .returned (.tuple #[.slice none 0 0, .bool false]) ∧ w' = w := by
  have H1 : Hid (_) := first_nil w
  have H2 : Hid (_) := last_nil w
  go_enter Tryz.func81, Tryz.ntmps81
  go_wp2_with (first
    | (go_at_call 50; refine Calls.mono H1.out ?_; rintro e w' ⟨rfl, hw⟩; have hw' := hw.symm; subst hw')
    | (go_at_call 48; refine Calls.mono H2.out ?_; rintro e w' ⟨rfl, hw⟩; have hw' := hw.symm; subst hw'))
  go_ret2
  exact ⟨rfl, rfl⟩

theorem LW.may {w : World} {B p pd : Nat} {s : St} {F : Nat → Prop} {first : Int} {ds : List (List UInt8)} (h : LW w B p pd s F first ds) (n : Int) (hn : n ≤ 9223372036854775807) :
    Calls Tryz.prog 75 #[.pointer (some ⟨p, 0, none⟩), .int .i64 n] w fun e w' => e = .returned (.bool (mayL first ds n)) ∧ ∃ m, w' = w.drewN m := by
  obtain ⟨_, ⟨vr, rs, G, h1, rfl, _⟩, _, _⟩ := h
  rw [← mayB_L]
  exact may_any p pd first vr rs G n w h1 hn
theorem LW.cell0 {w : World} {B p pd : Nat} {s : St} {F : Nat → Prop} {first : Int} {ds : List (List UInt8)} (h : LW w B p pd s F first ds) : w.cell? ⟨p, 0, none⟩ = some (.pointer (some ⟨pd, 0, none⟩)) := by
  obtain ⟨_, ⟨vr, rs, G, h1, rfl, _⟩, _, _⟩ := h
  exact h1.cells.1
theorem LW.drew {w : World} {B p pd : Nat} {s : St} {F : Nat → Prop} {first : Int} {ds : List (List UInt8)} (h : LW w B p pd s F first ds) (m : Nat) : LW (w.drewN m) B p pd s F first ds := h.below ⟨rfl, rfl, rfl, Nat.le_refl _, fun _ _ => rfl⟩
/-- The disk goes on. -/
theorem LW.disk {w w' : World} {B p pd : Nat} {s s' : St} {F : Nat → Prop} {first : Int} {ds : List (List UInt8)} (h : LW w B p pd s F first ds) (hD : Dk w' pd s' (ext F w w')) (hf : Dk.Fr F w w') : LW w' B p pd s' (ext F w w') first ds := by
  obtain ⟨_, ⟨vr, rs, G, h1, h2, h3⟩, h4, h5⟩ := h
  refine ⟨hD, ⟨vr, rs, G, h1.kept hf (fun k hk => (h3 k hk).1) h4, h2, fun k hk => ⟨?_, (h3 k hk).2⟩⟩, ?_, h5⟩
  · rintro (hh | hh)
    · exact (h3 k hk).1 hh
    · have := h1.lt k hk; omega
  · rintro (hh | hh)
    · exact h4 hh
    · have := h1.plt; omega

theorem recB_size (n : Int) (b : List UInt8) (hn : -9223372036854775808 ≤ n ∧ n ≤ 9223372036854775807) (hl : b.length ≤ 32768) : (recB n b).length ≤ b.length + 28 := by
  rw [recB_len (unseal_rec n b hn.1 hn.2 hl)]
  have h1 := enc_le n
  have h2 := enc_le (b.length : Int)
  simp only [List.length_append]
  omega

set_option maxHeartbeats 1000000 in
theorem sync_log (B p pd : Nat) (s : St) (F : Nat → Prop) (first : Int) (ds : List (List UInt8)) (w : World) (h : LW w B p pd s F first ds) (hm : s.mass ≤ 1000000000) :
    Calls Tryz.prog 57 #[.pointer (some ⟨p, 0, none⟩)] w fun e w' => e = .returned (.tuple #[]) ∧ Hid (LW w' B p pd ⟨s.room, s.now, []⟩ (ext F w w') first ds ∧ Dk.Fr F w w') := by
  have c0 := h.cell0
  have H : Hid (_) := sync_any pd s F w h.dk hm
  have HW : Hid (_) := h
  clear h
  go_enter Tryz.func57, Tryz.ntmps57
  go_wp2_with (go_at_call 96; refine Calls.mono H.out ?_; rintro e w1 ⟨rfl, h1, h2⟩; have HF : Hid (_) := And.intro (HW.out.disk h1 h2) h2; clear h1 h2)
  go_end0
  exact ⟨rfl, HF.out⟩

set_option maxHeartbeats 1000000 in
theorem app_no (B p pd : Nat) (s : St) (F : Nat → Prop) (first : Int) (ds : List (List UInt8)) (n : Int) (ao : Option Addr) (L cap : Nat) (w : World) (h : LW w B p pd s F first ds) (hn : n ≤ 9223372036854775807) (hm : mayL first ds n = false) :
    Calls Tryz.prog 121 #[.pointer (some ⟨p, 0, none⟩), .int .i64 n, .slice ao L cap] w fun e w' => e = .returned (.int .i64 1) ∧ ∃ m, w' = w.drewN m := by
  have H : Hid (_) := h.may n hn
  rw [hm] at H
  clear h hm
  go_enter Tryz.func121, Tryz.ntmps121
  go_wp2_with (go_at_call 75; refine Calls.mono H.out ?_; rintro e w1 ⟨rfl, m, rfl⟩)
  go_ret
  exact ⟨rfl, m, rfl⟩

set_option maxHeartbeats 2000000 in
theorem app_ok (B p pd : Nat) (s : St) (F : Nat → Prop) (first : Int) (ds : List (List UInt8)) (n : Int) (bv : Value) (b : List UInt8) (w : World) (h : LW w B p pd s F first ds) (hS : SlA w bv b F) (ht : Fr.Tab w) (hn : n ≤ 9223372036854775807) (hm : mayL first ds n = true) (hl : b.length ≤ 32768)
    (hr : (used s.now : Int) + (recB n b).length ≤ s.room) (hf : (Dk.look nmW s.now).isSome = true ∨ s.now.length < 64) (hms : s.mass + 40000 ≤ 1000000000) (hdl : ds.length ≤ 100000) (hfl : (fileB first ds).length ≤ 900000000) :
    Calls Tryz.prog 121 #[.pointer (some ⟨p, 0, none⟩), .int .i64 n, bv] w fun e w' => e = .returned (.int .i64 0) ∧ Hid (∃ F', LW w' B p pd (s.push (.app nmW (recB n b))) F' (if ds.length = 0 then n else first) (ds ++ [b]) ∧ (∀ k, F' k → F k ∨ w.heap.size ≤ k) ∧ Dk.Fr (fun k => F k ∨ B ≤ k) w w') := by
  obtain ⟨aob, capb, rfl, _, _⟩ := hS.sl.shape
  have HM : Hid (_) := h.may n hn
  rw [hm] at HM
  obtain ⟨m1, m2⟩ : 1 ≤ n ∧ (ds.length = 0 ∨ n - 1 = (if ds.length = 0 then 0 else first + ds.length - 1)) := by simpa [mayL] using hm
  have hrs := recB_size n b ⟨by omega, hn⟩ hl
  obtain ⟨X, HX⟩ : ∃ X, Hid (X = recB n b) := ⟨_, (rfl : _ = _)⟩
  rw [← HX.out] at hr hrs ⊢
  have HC : Hid (∀ m, Calls Tryz.prog 137 #[.int .i64 n, .slice aob b.length capb] (w.drewN m) fun e w2 => ∃ ao cap, e = .returned (.slice ao X.length cap) ∧ w2.cell? ⟨p, 0, none⟩ = some (.pointer (some ⟨pd, 0, none⟩)) ∧ Hid (Calls Tryz.prog 132 #[.pointer (some ⟨pd, 0, none⟩), .string nmW, .slice ao X.length cap] w2 fun e w3 => e = .returned (.int .i64 0) ∧ Hid (Calls Tryz.prog 58 #[.slice aob b.length capb] w3 fun e w4 => ∃ ao4 cap4, e = .returned (.slice ao4 b.length cap4) ∧ Hid (Calls Tryz.prog 76 #[.pointer (some ⟨p, 0, none⟩), .int .i64 n, .slice ao4 b.length cap4, .int .i64 (X.length : Int)] w4 fun e w5 => e = .returned (.tuple #[]) ∧ Hid (∃ F', LW w5 B p pd (s.push (.app nmW X)) F' (if ds.length = 0 then n else first) (ds ++ [b]) ∧ (∀ k, F' k → F k ∨ w.heap.size ≤ k) ∧ Dk.Fr (fun k => F k ∨ B ≤ k) w w5))))) := by
    intro m
    have hb1 : Below w.heap.size w (w.drewN m) := ⟨rfl, rfl, rfl, Nat.le_refl _, fun _ _ => rfl⟩
    refine (seal_any n (.slice aob b.length capb) b (w.drewN m) (hS.sl.below hb1) (ht.drew m) ⟨by omega, hn⟩ hl).mono ?_
    rintro e w2 ⟨ao, L, cap, rfl, hO, hb2⟩
    have hb2' : Below w.heap.size w w2 := hb1.trans hb2
    have hSX := Sl.of_own hO
    obtain ⟨ao', cap', e2, _, _⟩ := hSX.shape
    simp only [Value.slice.injEq] at e2
    obtain ⟨rfl, rfl, rfl⟩ := e2
    rw [← HX.out] at hSX ⊢
    have hW2 := h.below hb2'
    refine ⟨ao, cap, rfl, hW2.cell0, ?_⟩
    refine (append_ok pd s F nmW _ X w2 hW2.dk hSX (by decide) hr hf (by omega)).mono ?_
    rintro e w3 ⟨rfl, hD3, hf3⟩
    have hW3 := hW2.disk hD3 hf3
    refine ⟨rfl, ?_⟩
    have hs2 := hb2'.size
    have hs3 := hf3.size
    refine (clone_any _ b w3 (SlA.kept (SlA.kept hS (Fr.of_below hb2')) hf3).sl (by omega)).mono ?_
    rintro e w4 ⟨v4, rfl, hO4, hb4⟩
    have hS4 := Sl.of_own hO4
    obtain ⟨ao4, cap4, rfl, _, _⟩ := hS4.shape
    refine ⟨ao4, cap4, rfl, ?_⟩
    obtain ⟨hD3', ⟨vr, rs, G, hL3, hdsE, hG⟩, hnp, hnew⟩ := id hW3
    have hL := hL3.below hb4
    have hD4 := hD3'.below hb4
    have hLG := hL3.lt
    have hp3 := hL3.plt
    subst hdsE
    have hF3 := hW3.dk.lt
    have hs4 := hb4.size
    have hNew : Bn.New w3 w4 (.slice ao4 b.length cap4) := Bn.New.of_own hO4 (Nat.le_refl _)
    have hGlt : ∀ k, G k → k < w3.heap.size := hLG
    have hsize : sizeK first rs rs.length = (fileB first (rs.map Re.data)).length := by
      unfold sizeK
      rw [List.take_of_length_le (by simp)]
    rw [List.length_map] at hdl m2
    refine (add_any p pd first vr rs G (fun k => ∃ a m c, Value.slice ao4 b.length cap4 = .slice (some a) m c ∧ k = a.block) n (.slice ao4 b.length cap4) b X.length w4 hL ⟨hS4, fun a m c e hn => hn ⟨a, m, c, e, rfl⟩⟩ ?_ (by rw [HX.out]) ⟨m1, hn⟩ ?_ (by omega) (by rw [hsize]; omega)).mono ?_
    · rintro k ⟨a, m, c, e, rfl⟩
      have hk := hNew a m c e
      refine ⟨fun hG' => ?_, ?_, hk.2⟩
      · have := hGlt _ hG'
        omega
      · have := hp3
        omega
    · intro hne
      have hz : rs.length ≠ 0 := fun e => hne (List.eq_nil_of_length_eq_zero e)
      rcases m2 with m2 | m2
      · exact absurd m2 hz
      · rw [if_neg hz] at m2
        omega
    · rintro e w5 ⟨rfl, ⟨vr', fin, hL5⟩, hf5⟩
      refine ⟨rfl, ext F w2 w3, ⟨hD4.kept hf5 (fun k hk hG' => ?_), ⟨vr', rs ++ [⟨_, b, fin⟩], _, by rw [List.length_map]; exact hL5, by simp, fun k hk => ?_⟩, hnp, hnew⟩, fun k hk => ?_, ?_⟩
      · rcases hG' with hG' | rfl
        · exact (hG k hG').1 hk
        · exact hnp hk
      · rcases hk with (hk | ⟨a, m, c, e, rfl⟩) | hk
        · exact hG k hk
        · have := (hNew a m c e).1
          exact ⟨fun hF => by have := hF3 _ hF; omega, by omega⟩
        · exact ⟨fun hF => by have := hF3 _ hF; omega, by omega⟩
      · rcases hk with hk | hk
        · exact Or.inl hk
        · exact Or.inr (by omega)
      · refine (((Fr.of_below hb2').trans (hf3.mono (G := fun k => F k ∨ B ≤ k) (fun _ _ h => Or.inl h)) (fun _ _ h => h)).trans (Fr.of_below hb4) (fun _ _ h => h)).trans hf5 (fun k _ hG' => ?_)
        rcases hG' with hG' | rfl
        · exact Or.inr (hG k hG').2
        · exact Or.inr hnew
  clear h hS ht hn hm hr hf hms hdl hfl m1 m2 hrs
  have hl' : ¬ (32768 : Int) < (b.length : Int) := by omega
  obtain ⟨f', Hf'⟩ : ∃ f', Hid (f' = if ds.length = 0 then n else first) := ⟨_, (rfl : _ = _)⟩
  rw [← Hf'.out] at HC ⊢
  simp only [nmW] at HC
  go_enter Tryz.func121, Tryz.ntmps121
  go_wp2_with (first
    | (go_at_call 75; refine Calls.mono HM.out ?_; rintro e w1 ⟨rfl, m, rfl⟩; have HC1 : Hid (_) := HC.out m; clear HC)
    | (go_at_call 137; refine Calls.mono HC1.out ?_; rintro e w2 ⟨ao2, cap2, rfl, c2, HC2⟩; clear HC1)
    | (go_at_call 132; refine Calls.mono HC2.out ?_; rintro e w3 ⟨rfl, HC3⟩; clear HC2)
    | (go_at_call 58; refine Calls.mono HC3.out ?_; rintro e w4 ⟨ao4, cap4, rfl, HC4⟩; clear HC3)
    | (go_at_call 76; refine Calls.mono HC4.out ?_; rintro e w5 ⟨rfl, HC5⟩; clear HC4))
  go_ret
  exact ⟨rfl, HC5.out⟩
end Go.Proofs.YtjndgekpdmlbiaaGreatDoor.Wl
namespace Go.Proofs.YtjndgekpdmlbiaaGreatDoor.Wl
open Go.RowKit Dk

/-- The last number. -/
def lastL (first : Int) (ds : List (List UInt8)) : Int := if ds.length = 0 then 0 else first + ds.length - 1
theorem LW.first {w : World} {B p pd : Nat} {s : St} {F : Nat → Prop} {first : Int} {ds : List (List UInt8)} (h : LW w B p pd s F first ds) :
    Calls Tryz.prog 50 #[.pointer (some ⟨p, 0, none⟩)] w fun e w' => e = .returned (.int .i64 first) ∧ w' = w := by
  obtain ⟨_, ⟨vr, rs, G, h1, rfl, _⟩, _, _⟩ := h
  exact first_any p pd first vr rs G w h1
theorem LW.last {w : World} {B p pd : Nat} {s : St} {F : Nat → Prop} {first : Int} {ds : List (List UInt8)} (h : LW w B p pd s F first ds) :
    Calls Tryz.prog 48 #[.pointer (some ⟨p, 0, none⟩)] w fun e w' => e = .returned (.int .i64 (lastL first ds)) ∧ ∃ m, w' = w.drewN m := by
  obtain ⟨_, ⟨vr, rs, G, h1, rfl, _⟩, _, _⟩ := h
  have := last_any p pd first vr rs G w h1
  unfold lastN at this
  unfold lastL
  rw [List.length_map]
  exact this

set_option maxHeartbeats 2000000 in
set_option maxRecDepth 20000 in
theorem get_hit (B p pd : Nat) (s : St) (F : Nat → Prop) (first : Int) (ds : List (List UInt8)) (i : Nat) (w : World) (h : LW w B p pd s F first ds) (hi : i < ds.length) (h1 : 1 ≤ first) (hl : ds.length ≤ 1000000000) (hfi : first + ds.length ≤ 9223372036854775807) (hb : ds[i].length ≤ 1000000000) :
    Calls Tryz.prog 81 #[.pointer (some ⟨p, 0, none⟩), .int .i64 (first + i)] w fun e w' => ∃ v', e = .returned (.tuple #[v', .bool true]) ∧ w'.ownsRow w.heap.size 5 1 v' ds[i].length (cells8 ds[i]) ∧ Below w.heap.size w w' := by
  have HF : Hid (_) := h.first
  have HL : Hid (_) := h.last
  obtain ⟨_, ⟨vr, rs, G, hL, rfl, _⟩, _, _⟩ := h
  have hi' : i < rs.length := by simpa using hi
  have hlast : lastL first (rs.map Re.data) = first + rs.length - 1 := by unfold lastL; rw [if_neg (by omega), List.length_map]
  rw [hlast] at HL
  obtain ⟨X, HX⟩ : ∃ X, Hid (X = (rs.map Re.data)[i]) := ⟨(rs.map Re.data)[i], (rfl : _ = (rs.map Re.data)[i])⟩
  rw [← HX.out] at hb ⊢
  have hXd : rs[i].data = X := by rw [HX.out]; simp
  rw [List.length_map] at hl hfi
  obtain ⟨c0, c1, c2, _⟩ := hL.cells
  obtain ⟨ao, cap, rfl, hao⟩ := hL.shape
  obtain ⟨g, rfl⟩ := hao (by omega)
  have cd := (hL.cell i hi').1
  have hS := (hL.data rs[i] (List.getElem_mem hi')).sl
  rw [hXd] at hS
  obtain ⟨aod, capd, hdv, _, _⟩ := hS.shape
  rw [hdv] at cd hS
  obtain ⟨XL, HXL⟩ : ∃ XL, Hid (XL = X.length) := ⟨_, (rfl : _ = _)⟩
  have HC : Hid (∀ w1, Below w.heap.size w w1 → Calls Tryz.prog 58 #[.slice aod XL capd] w1 fun e w' => ∃ ao' L' cap', e = .returned (.slice ao' L' cap') ∧ Hid (w'.ownsRow w.heap.size 5 1 (.slice ao' L' cap') X.length (cells8 X) ∧ Below w.heap.size w w')) := by
    intro w1 hb1
    rw [HXL.out]
    refine (clone_any _ X w1 (hS.below hb1) (by omega)).mono ?_
    rintro e w' ⟨v', rfl, hO, hb'⟩
    obtain ⟨ao', L', cap', rfl⟩ := own_slice hO
    exact ⟨ao', L', cap', rfl, own_base hO (fun k hk => by have := (hO.lt k hk).1; have := hb1.size; omega), hb1.trans (hb'.mono hb1.size)⟩
  rw [← HXL.out] at cd
  have HC' : Hid (∀ m, Calls Tryz.prog 58 #[.slice aod XL capd] (w.drewN m).drew fun e w' => ∃ ao' L' cap', e = .returned (.slice ao' L' cap') ∧ Hid (w'.cell? ⟨p, 1, none⟩ = some (.int .i64 first) ∧ w'.cell? ⟨p, 2, none⟩ = some (.slice (some ⟨g, 0, none⟩) rs.length cap) ∧ w'.cell? ⟨g, i * 2, none⟩ = some (.slice aod XL capd)) ∧ Hid (w'.ownsRow w.heap.size 5 1 (.slice ao' L' cap') X.length (cells8 X) ∧ Below w.heap.size w w')) := fun m => by
    refine (HC.out (w.drewN m).drew ⟨rfl, rfl, rfl, Nat.le_refl _, fun _ _ => rfl⟩).mono ?_
    rintro e w' ⟨ao', L', cap', rfl, hX⟩
    have hbw := hX.out.2
    exact ⟨ao', L', cap', rfl, ⟨below_cell hbw c1, below_cell hbw c2, below_cell hbw cd⟩, hX⟩
  obtain ⟨N, HN⟩ : ∃ N, Hid (N = rs.length) := ⟨_, (rfl : _ = _)⟩
  rw [← HN.out] at c2 HL hi' hl hfi HC'
  have hlt : (i : Int) < (N : Int) := by omega
  have n1 : ¬ first + (i : Int) < 1 := by omega
  have n2 : ¬ first + (i : Int) < first := by omega
  have n3 : ¬ first + (N : Int) - 1 < first + (i : Int) := by omega
  have hsub : IntKind.i64.wrap (first + (i : Int) - first) = (i : Int) := by rw [IntKind.wrap_i64]; omega
  have HD : Hid (∀ m, (w.drewN m).drew.cell? ⟨p, 1, none⟩ = some (.int .i64 first) ∧ (w.drewN m).drew.cell? ⟨p, 2, none⟩ = some (.slice (some ⟨g, 0, none⟩) N cap) ∧ (w.drewN m).drew.cell? ⟨g, i * 2, none⟩ = some (.slice aod XL capd)) := fun m => ⟨c1, c2, cd⟩
  clear hL hS hao hXd hlast hdv HC HX hl hfi hb h1 c0 c1 c2 cd
  clear hi
  go_enter Tryz.func81, Tryz.ntmps81
  go_wp2_with (first
    | (go_at_call 50; refine Calls.mono HF.out ?_; rintro e w' ⟨rfl, hw⟩; have hw' := hw.symm; subst hw')
    | (go_at_call 48; refine Calls.mono HL.out ?_; rintro e w' ⟨rfl, m, rfl⟩; have HCm : Hid (_) := HC'.out m; have HDm : Hid (_) := HD.out m; clear HC' HD))
  go_region_held (fun u => u.cell? ⟨p, 1, none⟩ = some (.int .i64 first) ∧ u.cell? ⟨p, 2, none⟩ = some (.slice (some ⟨g, 0, none⟩) N cap) ∧ u.cell? ⟨g, i * 2, none⟩ = some (.slice aod XL capd))
    (first | exact HDm.out | exact HD5.out)
    (first | (go_at_call 58; refine Calls.mono HCm.out ?_; rintro e w5 ⟨ao5, L5, cap5, rfl, HD5, HX5⟩))
  all_goals go_wp2
  all_goals go_ret2
  all_goals exact ⟨_, rfl, HX5.out⟩
end Go.Proofs.YtjndgekpdmlbiaaGreatDoor.Wl
namespace Go.Proofs.YtjndgekpdmlbiaaGreatDoor.Wl
open Go.RowKit Dk

def sev : List UInt8 := [115, 101, 118, 101, 110]
def sZ : St := ⟨1048576, [], []⟩
def sR (X : List UInt8) : St := ⟨1048576, [⟨nmW, X⟩], []⟩
theorem sZ_room : (⟨roomN 1048576, [], []⟩ : St) = sZ := by
  have h : roomN 1048576 = 1048576 := by decide +kernel
  rw [h]
  rfl
theorem sZ_file : fileOf sZ nmW = [] := rfl
theorem load_nil : loadR (Fr.scanL (fileOf sZ nmW)).1 0 [] = (0, []) := by rw [sZ_file, Fr.scan_nil]; rfl
theorem sZ_open : openS sZ = sZ := by
  unfold openS
  rw [load_nil, sZ_file]
  rfl
theorem look_one (X : List UInt8) : Dk.look nmW [⟨nmW, X⟩] = some ⟨nmW, X⟩ := by simp [Dk.look]
theorem sZ_now (X : List UInt8) : (sZ.push (.app nmW X)).now = [⟨nmW, X⟩] := by
  show Dk.run [] [.app nmW X] = _
  simp [Dk.run, Dk.ap, Dk.look, Dk.del, Dk.ins]
theorem sR_now (X : List UInt8) : (sR X).now = [⟨nmW, X⟩] := rfl
theorem sR_file (X : List UInt8) : fileOf (sR X) nmW = X := by
  unfold fileOf
  rw [sR_now, look_one]
  rfl
theorem scan_one (b : List UInt8) (h : b.length ≤ 65536) : (Fr.scanL (Fr.sealL b)).1 = [b] := by
  have h1 := Fr.first_seal b [] h
  rw [List.append_nil] at h1
  rw [Fr.scan_some h1]
  have hd : (Fr.sealL b).drop (8 + b.length) = [] := List.drop_of_length_le (by rw [Fr.seal_len]; omega)
  rw [hd, Fr.scan_nil]
theorem load_one (n : Int) (d : List UInt8) (h0 : 1 ≤ n) (h1 : n ≤ 9223372036854775807) (hl : d.length ≤ 32768) : loadR (Fr.scanL (fileOf (sR (recB n d)) nmW)).1 0 [] = (n, [d]) := by
  rw [sR_file]
  unfold recB
  have e1 := enc_le n
  have e2 := enc_le (d.length : Int)
  rw [scan_one _ (by simp only [List.length_append]; omega)]
  unfold loadR
  rw [unseal_rec n d (by omega) h1 hl]
  have hm : mayL 0 [] n = true := by simp [mayL]; exact h0
  simp only [hm, if_true]
  unfold loadR
  rfl

end Go.Proofs.YtjndgekpdmlbiaaGreatDoor.Wl
namespace Go.Proofs.YtjndgekpdmlbiaaGreatDoor.Wl
open Go.RowKit Dk

/-- What a log's seals hold. -/
def bodies (n : Int) : List (List UInt8) → List (List UInt8)
  | [] => []
  | b :: r => (Bn.enc n ++ (Bn.enc (b.length : Int) ++ b)) :: bodies (n + 1) r
theorem scan_file : ∀ (ds : List (List UInt8)) (n : Int), (∀ d ∈ ds, d.length ≤ 32768) → (Fr.scanL (fileB n ds)).1 = bodies n ds
  | [], n, _ => by rw [fileB, Fr.scan_nil]; rfl
  | d :: ds, n, h => by
    have hd := h d List.mem_cons_self
    have e1 := enc_le n
    have e2 := enc_le (d.length : Int)
    have h1 := Fr.first_seal (Bn.enc n ++ (Bn.enc (d.length : Int) ++ d)) (fileB (n + 1) ds) (by simp only [List.length_append]; omega)
    have hf : fileB n (d :: ds) = Fr.sealL (Bn.enc n ++ (Bn.enc (d.length : Int) ++ d)) ++ fileB (n + 1) ds := rfl
    rw [hf, Fr.scan_some h1, ← Fr.seal_len, List.drop_left, bodies, scan_file ds (n + 1) (fun x hx => h x (List.mem_cons_of_mem _ hx))]
theorem load_more : ∀ (ds : List (List UInt8)) (n f : Int) (acc : List (List UInt8)), (∀ d ∈ ds, d.length ≤ 32768) → 1 ≤ f → acc ≠ [] → n = f + acc.length → n + ds.length ≤ 9223372036854775808 → loadR (bodies n ds) f acc = (f, acc ++ ds)
  | [], n, f, acc, _, _, _, _, _ => by rw [bodies, loadR, List.append_nil]
  | d :: ds, n, f, acc, h, hf, ha, hn, hb => by
    have hal : acc.length ≠ 0 := fun e => ha (List.eq_nil_of_length_eq_zero e)
    rw [List.length_cons] at hb
    rw [bodies, loadR, unseal_rec n d (by omega) (by omega) (h d List.mem_cons_self)]
    have hm : mayL f acc n = true := by
      unfold mayL
      rw [if_neg hal]
      simp only [Bool.and_eq_true, decide_eq_true_eq, Bool.or_eq_true]
      exact ⟨by omega, Or.inr (by omega)⟩
    simp only [hm, if_true, if_neg hal]
    rw [load_more ds (n + 1) f (acc ++ [d]) (fun x hx => h x (List.mem_cons_of_mem _ hx)) hf (by simp) (by rw [List.length_append]; simp; omega) (by omega), List.append_assoc]
    rfl
theorem load_file (ds : List (List UInt8)) (n : Int) (h : ∀ d ∈ ds, d.length ≤ 32768) (h1 : 1 ≤ n) (hb : n + ds.length ≤ 9223372036854775808) : loadR (Fr.scanL (fileB n ds)).1 0 [] = (if ds.length = 0 then 0 else n, ds) := by
  rw [scan_file ds n h]
  cases ds with
  | nil => rfl
  | cons d ds =>
    rw [List.length_cons] at hb
    rw [bodies, loadR, unseal_rec n d (by omega) (by omega) (h d List.mem_cons_self)]
    have hm : mayL 0 [] n = true := by simp [mayL]; exact h1
    simp only [hm, if_true, List.length_nil]
    have := load_more ds (n + 1) n ([] ++ [d]) (fun x hx => h x (List.mem_cons_of_mem _ hx)) h1 (by simp) (by simp) (by omega)
    rw [this]
    simp

set_option maxHeartbeats 2000000 in
theorem app_full (B p pd : Nat) (s : St) (F : Nat → Prop) (first : Int) (ds : List (List UInt8)) (n : Int) (bv : Value) (b : List UInt8) (w : World) (h : LW w B p pd s F first ds) (hS : Sl w bv b) (ht : Fr.Tab w) (hn : n ≤ 9223372036854775807) (hm : mayL first ds n = true) (hl : b.length ≤ 32768)
    (hr : s.room < (used s.now : Int) + (recB n b).length) (hms : s.mass + 40000 ≤ 1000000000) :
    Calls Tryz.prog 121 #[.pointer (some ⟨p, 0, none⟩), .int .i64 n, bv] w fun e w' => e = .returned (.int .i64 2) ∧ Hid (Below w.heap.size w w') := by
  obtain ⟨aob, capb, rfl, _, _⟩ := hS.shape
  have HM : Hid (_) := h.may n hn
  rw [hm] at HM
  have m1 : 1 ≤ n := by
    unfold mayL at hm
    simp only [Bool.and_eq_true, decide_eq_true_eq] at hm
    exact hm.1
  have hrs := recB_size n b ⟨by omega, hn⟩ hl
  obtain ⟨X, HX⟩ : ∃ X, Hid (X = recB n b) := ⟨recB n b, (rfl : _ = recB n b)⟩
  rw [← HX.out] at hr hrs
  have HC : Hid (∀ m, Calls Tryz.prog 137 #[.int .i64 n, .slice aob b.length capb] (w.drewN m) fun e w2 => ∃ ao cap, e = .returned (.slice ao X.length cap) ∧ w2.cell? ⟨p, 0, none⟩ = some (.pointer (some ⟨pd, 0, none⟩)) ∧ Hid (Calls Tryz.prog 132 #[.pointer (some ⟨pd, 0, none⟩), .string nmW, .slice ao X.length cap] w2 fun e w3 => e = .returned (.int .i64 2) ∧ Hid (Below w.heap.size w w3))) := by
    intro m
    have hb1 : Below w.heap.size w (w.drewN m) := ⟨rfl, rfl, rfl, Nat.le_refl _, fun _ _ => rfl⟩
    refine (seal_any n (.slice aob b.length capb) b (w.drewN m) (hS.below hb1) (ht.drew m) ⟨by omega, hn⟩ hl).mono ?_
    rintro e w2 ⟨ao, L, cap, rfl, hO, hb2⟩
    have hb2' : Below w.heap.size w w2 := hb1.trans hb2
    have hSX := Sl.of_own hO
    obtain ⟨ao', cap', e2, _, _⟩ := hSX.shape
    simp only [Value.slice.injEq] at e2
    obtain ⟨rfl, rfl, rfl⟩ := e2
    rw [← HX.out]
    have hW2 := h.below hb2'
    refine ⟨ao, cap, rfl, hW2.cell0, ?_⟩
    refine (append_room pd s F nmW ao X.length cap w2 hW2.dk (by decide) hr (by omega) (by omega)).mono ?_
    rintro e w3 ⟨rfl, hb3⟩
    exact ⟨rfl, hb2'.trans (hb3.mono hb2'.size)⟩
  clear h hS ht hn hm hr hms m1 hrs
  have hl' : ¬ (32768 : Int) < (b.length : Int) := by omega
  simp only [nmW] at HC
  go_enter Tryz.func121, Tryz.ntmps121
  go_wp2_with (first
    | (go_at_call 75; refine Calls.mono HM.out ?_; rintro e w1 ⟨rfl, m, rfl⟩; have HC1 : Hid (_) := HC.out m; clear HC)
    | (go_at_call 137; refine Calls.mono HC1.out ?_; rintro e w2 ⟨ao2, cap2, rfl, c2, HC2⟩; clear HC1)
    | (go_at_call 132; refine Calls.mono HC2.out ?_; rintro e w3 ⟨rfl, HC3⟩; clear HC2))
  go_ret
  exact ⟨rfl, HC3.out⟩
end Go.Proofs.YtjndgekpdmlbiaaGreatDoor.Wl

/- The walk of Until. -/
import Derived.Test.YtnbdkojdddplkaaDoorWlFrom
import Derived.Test.YtnbdkojdddplkaaDoorWlOwn
namespace Go.Proofs.YtnbdkojdddplkaaDoor.Wl
open Go.RowKit Dk

theorem look_app_some (n : ByteArray) (b : List UInt8) (fs : List Fl) : (Dk.look n (Dk.ap fs (.app n b))).isSome = true := by
  simp only [Dk.ap]
  rw [look_ins ⟨n, _⟩ (Dk.del n fs) (del_ne n fs)]
  rfl

set_option maxHeartbeats 1000000 in
theorem until_same (B p pd : Nat) (s : St) (F : Nat → Prop) (first : Int) (ds : List (List UInt8)) (n : Int) (w : World) (h : LW w B p pd s F first ds) (h1 : 1 ≤ n) (hn : n ≤ 9223372036854775806) (hk : cnt first ds n = 0) :
    Calls Tryd.prog 16 #[.pointer (some ⟨p, 0, none⟩), .int .i64 n] w fun e w' => e = .returned (.int .i64 0) ∧ ∃ m, w' = w.drewN m := by
  have HC : Hid (_) := count_any B p pd s F first ds n w h (by omega) (by omega)
  rw [hk] at HC
  clear h hk
  go_enter Tryd.func16, Tryd.ntmps16
  go_wp2_with (go_at_call 35; refine Calls.mono HC.out ?_; rintro e w1 ⟨rfl, m, rfl⟩)
  go_ret
  exact ⟨rfl, m, rfl⟩

set_option maxHeartbeats 1000000 in
theorem cutFront_all (B p pd : Nat) (s : St) (F : Nat → Prop) (first : Int) (ds : List (List UInt8)) (f : Fl) (w : World) (h : LW w B p pd s F first ds) (hlook : Dk.look nmW s.now = some f) (hm : s.mass + 1 ≤ 1000000000) :
    Calls Tryd.prog 39 #[.pointer (some ⟨p, 0, none⟩), .int .i64 (ds.length : Int)] w fun e w' => e = .returned (.int .i64 0) ∧ Hid (∃ F', LW w' B p pd (s.push (.cut nmW 0)) F' first ds ∧ (∀ j, F' j → F j ∨ w.heap.size ≤ j) ∧ Dk.Fr F w w') := by
  obtain ⟨ao, cap, c2⟩ := h.cell2
  have c0 := h.cell0
  have HX : Hid (Calls Tryd.prog 36 #[.pointer (some ⟨pd, 0, none⟩), .string nmW, .int .i64 ((0 : Nat) : Int)] w fun e w3 => e = .returned (.int .i64 0) ∧ Hid (∃ F', LW w3 B p pd (s.push (.cut nmW 0)) F' first ds ∧ (∀ j, F' j → F j ∨ w.heap.size ≤ j) ∧ Dk.Fr F w w3)) := by
    refine (cut_ok pd s F nmW 0 f w h.dk hlook (Nat.zero_le _) hm).mono ?_
    rintro e w3 ⟨rfl, hD3, hf3⟩
    exact ⟨rfl, _, h.disk hD3 hf3, fun j hj => by rcases hj with hj | hj; exact Or.inl hj; exact Or.inr hj.1, hf3⟩
  obtain ⟨PP, HPP⟩ : ∃ PP : World → Prop, Hid (PP = fun w3 => ∃ F', LW w3 B p pd (s.push (.cut nmW 0)) F' first ds ∧ (∀ j, F' j → F j ∨ w.heap.size ≤ j) ∧ Dk.Fr F w w3) := ⟨_, (rfl : _ = _)⟩
  have HP := HPP.out
  rw [funext_iff] at HP
  simp only [← HP] at HX ⊢
  simp only [nmW] at HX
  clear h hlook hm HP HPP
  generalize ds.length = N at *
  go_enter Tryd.func39, Tryd.ntmps39
  go_wp2_with (go_at_call 36; refine Calls.mono HX.out ?_; rintro e w3 ⟨rfl, HY⟩)
  go_ret
  exact ⟨rfl, HY⟩

set_option maxHeartbeats 2000000 in
set_option maxRecDepth 20000 in
theorem cutFront_some (B p pd : Nat) (s : St) (F : Nat → Prop) (first : Int) (ds : List (List UInt8)) (k : Nat) (w : World) (h : LW w B p pd s F first ds) (ht : Fr.Tab w) (hk : k < ds.length) (hl : ds.length ≤ 1000000) (hd : ∀ d ∈ ds, d.length ≤ 32768) (hfl : (fileB first ds).length ≤ 900000) (hfit : first + ds.length ≤ 9223372036854775807)
    (hr : (used s.now : Int) + (fileB (first + k) (ds.drop k)).length ≤ s.room) (hf64 : (Dk.look nmC s.now).isSome = true ∨ s.now.length < 64) (hm : s.mass + 1000000 ≤ 1000000000) :
    Calls Tryd.prog 39 #[.pointer (some ⟨p, 0, none⟩), .int .i64 (k : Int)] w fun e w' => e = .returned (.int .i64 0) ∧ Hid (∃ F', LW w' B p pd ((s.push (.app nmC (fileB (first + k) (ds.drop k)))).push (.mov nmC nmW)) F' first ds ∧ (∀ j, F' j → F j ∨ w.heap.size ≤ j) ∧ Dk.Fr F w w') := by
  obtain ⟨ao, cap, c2⟩ := h.cell2
  have c0 := h.cell0
  have c0d : w.drew.cell? ⟨p, 0, none⟩ = some (.pointer (some ⟨pd, 0, none⟩)) := c0
  have hsp := congrArg List.length (fileB_split first ds k (by omega))
  rw [List.length_append] at hsp
  have HS0 : Hid (_) := (h.drew 1).seals (ht.drew 1) k (by omega) hl hd (by omega) hfit
  obtain ⟨Y, HY⟩ : ∃ Y, Hid (Y = fileB (first + k) (ds.drop k)) := ⟨_, (rfl : _ = _)⟩
  rw [← HY.out] at hr HS0 hsp ⊢
  have HS : Hid (Calls Tryd.prog 60 #[.pointer (some ⟨p, 0, none⟩), .int .i64 (k : Int)] w.drew fun e w2 => ∃ ao L cap, e = .returned (.slice ao L cap) ∧ w2.cell? ⟨p, 0, none⟩ = some (.pointer (some ⟨pd, 0, none⟩)) ∧ Hid (Calls Tryd.prog 20 #[.pointer (some ⟨pd, 0, none⟩), .string nmC, .slice ao L cap] w2 fun e w3 => e = .returned (.int .i64 0) ∧ w3.cell? ⟨p, 0, none⟩ = some (.pointer (some ⟨pd, 0, none⟩)) ∧ Hid (Calls Tryd.prog 61 #[.pointer (some ⟨pd, 0, none⟩), .string nmC, .string nmW] w3 fun e w4 => e = .returned (.int .i64 0) ∧ Hid (∃ F', LW w4 B p pd ((s.push (.app nmC Y)).push (.mov nmC nmW)) F' first ds ∧ (∀ j, F' j → F j ∨ w.heap.size ≤ j) ∧ Dk.Fr F w w4)))) := by
    refine Calls.mono HS0.out ?_
    rintro e w2 ⟨ao2, L2, cap2, rfl, hO2, hb2⟩
    have hbd : Below w.heap.size w (w.drewN 1) := ⟨rfl, rfl, rfl, Nat.le_refl _, fun _ _ => rfl⟩
    have hb2' : Below w.heap.size w w2 := hbd.trans hb2
    have hW2 := h.below hb2'
    refine ⟨ao2, L2, cap2, rfl, hW2.cell0, ?_⟩
    refine (append_ok pd s F nmC _ Y w2 hW2.dk (Sl.of_own hO2) (by decide) hr hf64 (by omega)).mono ?_
    rintro e w3 ⟨rfl, hD3, hf3⟩
    have hW3 := hW2.disk hD3 hf3
    refine ⟨rfl, hW3.cell0, ?_⟩
    refine (move_some pd (s.push (.app nmC Y)) _ nmC nmW w3 hW3.dk ?_ (by decide) (by rw [St.push_mass]; simp only [Ch.mass]; omega)).mono ?_
    · rw [St.push_now]
      exact look_app_some _ _ _
    · rintro e w4 ⟨rfl, hD4, hf4⟩
      have hW4 := hW3.disk hD4 hf4
      have hs2 := hb2'.size
      have hs3 := hf3.size
      refine ⟨rfl, _, hW4, fun j hj => ?_, ((Fr.of_below hb2').trans hf3 (fun _ _ h => h)).trans hf4 (fun j hj hF => ?_)⟩
      · rcases hj with (hj | hj) | hj
        · exact Or.inl hj
        · exact Or.inr (by omega)
        · exact Or.inr (by omega)
      · rcases hF with hF | hF
        · exact hF
        · omega
  have hne : ((k : Int) == (ds.length : Int)) = false := by rw [beq_eq_false_iff_ne]; omega
  obtain ⟨PP, HPP⟩ : ∃ PP : World → Prop, Hid (PP = fun w4 => ∃ F', LW w4 B p pd ((s.push (.app nmC Y)).push (.mov nmC nmW)) F' first ds ∧ (∀ j, F' j → F j ∨ w.heap.size ≤ j) ∧ Dk.Fr F w w4) := ⟨_, (rfl : _ = _)⟩
  have HP := HPP.out
  rw [funext_iff] at HP
  simp only [← HP] at HS ⊢
  simp only [nmW, nmC] at HS
  clear h ht hk hl hd hfl hfit hr hf64 hm HP HPP HS0 hsp HY c0
  generalize ds.length = N at *
  go_enter Tryd.func39, Tryd.ntmps39
  go_wp2_with fail
  go_region_held (fun u => u.cell? ⟨p, 0, none⟩ = some (.pointer (some ⟨pd, 0, none⟩)))
    (first | exact c0d | exact d2 | exact d3)
    (first
      | (go_at_call 60; refine Calls.mono HS.out ?_; rintro e w2 ⟨ao2, L2, cap2, rfl, d2, HT⟩)
      | (go_at_call 20; refine Calls.mono HT.out ?_; rintro e w3 ⟨rfl, d3, HU⟩))
  go_wp2_with (go_at_call 61; refine Calls.mono HU.out ?_; rintro e w4 ⟨rfl, HZ⟩)
  go_ret
  exact ⟨rfl, HZ⟩

set_option maxHeartbeats 1000000 in
/-- Until, whichever way the file's front is cut: cutFront's contract handed in. -/
theorem until_with (B p pd : Nat) (s s' : St) (F : Nat → Prop) (first : Int) (ds : List (List UInt8)) (n : Int) (k : Nat) (w : World) (h : LW w B p pd s F first ds) (h1 : 1 ≤ n) (hn : n ≤ 9223372036854775806) (hk : cnt first ds n = k) (h0 : 0 < k) (hkl : k ≤ ds.length) (hl : ds.length ≤ 1000000) (hfl : (fileB first ds).length ≤ 900000) (hfit : first + ds.length ≤ 9223372036854775807)
    (hc : ∀ m, Calls Tryd.prog 39 #[.pointer (some ⟨p, 0, none⟩), .int .i64 (k : Int)] (w.drewN m) fun e w' => e = .returned (.int .i64 0) ∧ Hid (∃ F', LW w' B p pd s' F' first ds ∧ (∀ j, F' j → F j ∨ (w.drewN m).heap.size ≤ j) ∧ Dk.Fr F (w.drewN m) w')) :
    Calls Tryd.prog 16 #[.pointer (some ⟨p, 0, none⟩), .int .i64 n] w fun e w' => e = .returned (.int .i64 0) ∧ Hid (∃ F', LW w' B p pd s' F' (if k = ds.length then 0 else first + k) (ds.drop k) ∧ (∀ j, F' j → F j ∨ w.heap.size ≤ j) ∧ Dk.Fr (fun j => F j ∨ B ≤ j) w w') := by
  have HC : Hid (_) := count_any B p pd s F first ds n w h (by omega) (by omega)
  rw [hk] at HC
  obtain ⟨f', Hf'⟩ : ∃ f', Hid (f' = if k = ds.length then 0 else first + k) := ⟨if k = ds.length then 0 else first + k, (rfl : _ = _)⟩
  rw [← Hf'.out]
  have HX : Hid (∀ m, Calls Tryd.prog 39 #[.pointer (some ⟨p, 0, none⟩), .int .i64 (k : Int)] (w.drewN m) fun e w3 => e = .returned (.int .i64 0) ∧ Hid (Calls Tryd.prog 40 #[.pointer (some ⟨p, 0, none⟩), .int .i64 (k : Int)] w3 fun e w' => e = .returned (.tuple #[]) ∧ Hid (∃ F', LW w' B p pd s' F' f' (ds.drop k) ∧ (∀ j, F' j → F j ∨ w.heap.size ≤ j) ∧ Dk.Fr (fun j => F j ∨ B ≤ j) w w'))) := by
    intro m
    have hbd : Below w.heap.size w (w.drewN m) := ⟨rfl, rfl, rfl, Nat.le_refl _, fun _ _ => rfl⟩
    refine (hc m).mono ?_
    rintro e w3 ⟨rfl, F3, hW3, hF3, hf3⟩
    refine ⟨rfl, ?_⟩
    refine (hW3.dropFront k h0 hkl (by omega) (by omega) hfit).mono ?_
    rintro e w' ⟨rfl, hL, hf⟩
    rw [← Hf'.out] at hL
    refine ⟨rfl, F3, hL, hF3, ((Fr.of_below hbd).trans (hf3.mono (G := fun j => F j ∨ B ≤ j) (fun _ _ h => Or.inl h)) (fun _ _ h => h)).trans hf (fun j hj hF => ?_)⟩
    rcases hF with hF | hF
    · rcases hF3 j hF with hh | hh
      · exact Or.inl hh
      · have : w.heap.size ≤ j := hh
        omega
    · exact Or.inr hF
  obtain ⟨PP, HPP⟩ : ∃ PP : World → Prop, Hid (PP = fun w' => ∃ F', LW w' B p pd s' F' f' (ds.drop k) ∧ (∀ j, F' j → F j ∨ w.heap.size ≤ j) ∧ Dk.Fr (fun j => F j ∨ B ≤ j) w w') := ⟨_, (rfl : _ = _)⟩
  have HP := HPP.out
  rw [funext_iff] at HP
  simp only [← HP] at HX ⊢
  have hne : ((k : Int) == 0) = false := by rw [beq_eq_false_iff_ne]; omega
  clear h hk hc hkl hl hfl hfit HP HPP Hf' h0
  go_enter Tryd.func16, Tryd.ntmps16
  go_wp2_with (first
    | (go_at_call 35; refine Calls.mono HC.out ?_; rintro e w1 ⟨rfl, m, rfl⟩; have HXm : Hid (_) := HX.out m; clear HX)
    | (go_at_call 39; refine Calls.mono HXm.out ?_; rintro e w3 ⟨rfl, HY⟩)
    | (go_at_call 40; refine Calls.mono HY.out ?_; rintro e w4 ⟨rfl, HZ⟩))
  go_ret
  exact ⟨rfl, HZ⟩

theorem until_all (B p pd : Nat) (s : St) (F : Nat → Prop) (first : Int) (ds : List (List UInt8)) (n : Int) (f : Fl) (w : World) (h : LW w B p pd s F first ds) (h1 : 1 ≤ n) (hn : n ≤ 9223372036854775806) (hk : cnt first ds n = ds.length) (h0 : 0 < ds.length) (hl : ds.length ≤ 1000000) (hfl : (fileB first ds).length ≤ 900000) (hfit : first + ds.length ≤ 9223372036854775807)
    (hlook : Dk.look nmW s.now = some f) (hm : s.mass + 1 ≤ 1000000000) :
    Calls Tryd.prog 16 #[.pointer (some ⟨p, 0, none⟩), .int .i64 n] w fun e w' => e = .returned (.int .i64 0) ∧ Hid (∃ F', LW w' B p pd (s.push (.cut nmW 0)) F' 0 [] ∧ (∀ j, F' j → F j ∨ w.heap.size ≤ j) ∧ Dk.Fr (fun j => F j ∨ B ≤ j) w w') := by
  have := until_with B p pd s (s.push (.cut nmW 0)) F first ds n ds.length w h h1 hn hk h0 (Nat.le_refl _) hl hfl hfit (fun m => cutFront_all B p pd s F first ds f _ (h.drew m) hlook hm)
  rw [if_pos rfl, List.drop_length] at this
  exact this
theorem until_some (B p pd : Nat) (s : St) (F : Nat → Prop) (first : Int) (ds : List (List UInt8)) (n : Int) (k : Nat) (w : World) (h : LW w B p pd s F first ds) (ht : Fr.Tab w) (h1 : 1 ≤ n) (hn : n ≤ 9223372036854775806) (hk : cnt first ds n = k) (h0 : 0 < k) (hkl : k < ds.length) (hl : ds.length ≤ 1000000) (hd : ∀ d ∈ ds, d.length ≤ 32768) (hfl : (fileB first ds).length ≤ 900000) (hfit : first + ds.length ≤ 9223372036854775807)
    (hr : (used s.now : Int) + (fileB (first + k) (ds.drop k)).length ≤ s.room) (hf64 : (Dk.look nmC s.now).isSome = true ∨ s.now.length < 64) (hm : s.mass + 1000000 ≤ 1000000000) :
    Calls Tryd.prog 16 #[.pointer (some ⟨p, 0, none⟩), .int .i64 n] w fun e w' => e = .returned (.int .i64 0) ∧ Hid (∃ F', LW w' B p pd ((s.push (.app nmC (fileB (first + k) (ds.drop k)))).push (.mov nmC nmW)) F' (first + k) (ds.drop k) ∧ (∀ j, F' j → F j ∨ w.heap.size ≤ j) ∧ Dk.Fr (fun j => F j ∨ B ≤ j) w w') := by
  have := until_with B p pd s _ F first ds n k w h h1 hn hk h0 (by omega) hl hfl hfit (fun m => cutFront_some B p pd s F first ds k _ (h.drew m) (ht.drew m) hkl hl hd hfl hfit hr hf64 hm)
  rw [if_neg (by omega)] at this
  exact this
end Go.Proofs.YtnbdkojdddplkaaDoor.Wl

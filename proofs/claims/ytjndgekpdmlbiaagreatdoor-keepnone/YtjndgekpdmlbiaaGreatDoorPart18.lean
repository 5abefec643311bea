/- The file that an open log leaves is the log's own, whatever stood there. The walk of Until. Opening a log makes no file and adds little. The law WalForged, behind its loop: a log opened on any files goes on. A log whose disk holds its file and nothing else, and what each call makes of it. -/
import Derived.Test.YtjndgekpdmlbiaaGreatDoorPart16
import Derived.Test.YtjndgekpdmlbiaaGreatDoorPart17
namespace Go.Proofs.YtjndgekpdmlbiaaGreatDoor.Wl
open Go.RowKit Dk

theorem look_ins (f : Fl) : ∀ fs : List Fl, (∀ x ∈ fs, x.name ≠ f.name) → Dk.look f.name (Dk.ins f fs) = some f
  | [], _ => by simp [Dk.look, Dk.ins]
  | x :: r, h => by
    have hx : x.name ≠ f.name := h x List.mem_cons_self
    have ih := look_ins f r (fun y hy => h y (List.mem_cons_of_mem _ hy))
    unfold Dk.ins
    split
    · simp [Dk.look]
    · unfold Dk.look at ih ⊢
      rw [List.find?_cons_of_neg (by simpa using hx)]
      exact ih
theorem del_ne (n : ByteArray) (fs : List Fl) : ∀ x ∈ Dk.del n fs, x.name ≠ n := by
  intro x hx
  unfold Dk.del at hx
  simpa using (List.mem_filter.1 hx).2
theorem open_file (s : St) (g : Int) (ds : List (List UInt8)) (h : loadR (Fr.scanL (fileOf s nmW)).1 0 [] = (g, ds)) : fileOf (openS s) nmW = fileB g ds := by
  have hp := (load_any _ g ds h).1
  have hfo : fileOf (strays s (s.now.map Fl.name)) nmW = fileOf s nmW := by unfold fileOf; rw [strays_look]
  unfold openS
  rw [h]
  simp only
  by_cases hlt : (fileB g ds).length < (fileOf s nmW).length
  · rw [if_pos hlt]
    have hl : ∃ f, Dk.look nmW (strays s (s.now.map Fl.name)).now = some f ∧ f.bs = fileOf s nmW := by
      rw [← hfo]
      rw [← hfo] at hlt
      unfold fileOf at hlt ⊢
      cases hk : Dk.look nmW (strays s (s.now.map Fl.name)).now with
      | none => rw [hk] at hlt; simp at hlt
      | some f => exact ⟨f, rfl, rfl⟩
    obtain ⟨f, hf, hfb⟩ := hl
    have hnow : ((strays s (s.now.map Fl.name)).push (.cut nmW (fileB g ds).length)).now = Dk.ins ⟨nmW, f.bs.take (fileB g ds).length⟩ (Dk.del nmW (strays s (s.now.map Fl.name)).now) := by
      rw [St.push_now]
      unfold Dk.ap
      simp only [hf]
    unfold fileOf
    rw [hnow, look_ins ⟨nmW, f.bs.take (fileB g ds).length⟩ _ (del_ne nmW _)]
    show f.bs.take (fileB g ds).length = _
    rw [hfb]
    obtain ⟨t, ht⟩ := hp
    rw [← ht, List.take_left]
  · rw [if_neg hlt, hfo]
    obtain ⟨t, ht⟩ := hp
    rw [← ht, List.length_append] at hlt
    have : t = [] := List.eq_nil_of_length_eq_zero (by omega)
    rw [← ht, this, List.append_nil]
end Go.Proofs.YtjndgekpdmlbiaaGreatDoor.Wl
namespace Go.Proofs.YtjndgekpdmlbiaaGreatDoor.Wl
open Go.RowKit Dk

theorem look_app_some (n : ByteArray) (b : List UInt8) (fs : List Fl) : (Dk.look n (Dk.ap fs (.app n b))).isSome = true := by
  simp only [Dk.ap]
  rw [look_ins ⟨n, _⟩ (Dk.del n fs) (del_ne n fs)]
  rfl

set_option maxHeartbeats 1000000 in
theorem until_same (B p pd : Nat) (s : St) (F : Nat → Prop) (first : Int) (ds : List (List UInt8)) (n : Int) (w : World) (h : LW w B p pd s F first ds) (h1 : 1 ≤ n) (hn : n ≤ 9223372036854775806) (hk : cnt first ds n = 0) :
    Calls Tryz.prog 87 #[.pointer (some ⟨p, 0, none⟩), .int .i64 n] w fun e w' => e = .returned (.int .i64 0) ∧ ∃ m, w' = w.drewN m := by
  have HC : Hid (_) := count_any B p pd s F first ds n w h (by omega) (by omega)
  rw [hk] at HC
  clear h hk
  go_enter Tryz.func87, Tryz.ntmps87
  go_wp2_with (go_at_call 79; refine Calls.mono HC.out ?_; rintro e w1 ⟨rfl, m, rfl⟩)
  go_ret
  exact ⟨rfl, m, rfl⟩

set_option maxHeartbeats 1000000 in
theorem cutFront_all (B p pd : Nat) (s : St) (F : Nat → Prop) (first : Int) (ds : List (List UInt8)) (f : Fl) (w : World) (h : LW w B p pd s F first ds) (hlook : Dk.look nmW s.now = some f) (hm : s.mass + 1 ≤ 1000000000) :
    Calls Tryz.prog 111 #[.pointer (some ⟨p, 0, none⟩), .int .i64 (ds.length : Int)] w fun e w' => e = .returned (.int .i64 0) ∧ Hid (∃ F', LW w' B p pd (s.push (.cut nmW 0)) F' first ds ∧ (∀ j, F' j → F j ∨ w.heap.size ≤ j) ∧ Dk.Fr F w w') := by
  obtain ⟨ao, cap, c2⟩ := h.cell2
  have c0 := h.cell0
  have HX : Hid (Calls Tryz.prog 78 #[.pointer (some ⟨pd, 0, none⟩), .string nmW, .int .i64 ((0 : Nat) : Int)] w fun e w3 => e = .returned (.int .i64 0) ∧ Hid (∃ F', LW w3 B p pd (s.push (.cut nmW 0)) F' first ds ∧ (∀ j, F' j → F j ∨ w.heap.size ≤ j) ∧ Dk.Fr F w w3)) := by
    refine (cut_ok pd s F nmW 0 f w h.dk hlook (Nat.zero_le _) hm).mono ?_
    rintro e w3 ⟨rfl, hD3, hf3⟩
    exact ⟨rfl, _, h.disk hD3 hf3, fun j hj => by rcases hj with hj | hj; exact Or.inl hj; exact Or.inr hj.1, hf3⟩
  obtain ⟨PP, HPP⟩ : ∃ PP : World → Prop, Hid (PP = fun w3 => ∃ F', LW w3 B p pd (s.push (.cut nmW 0)) F' first ds ∧ (∀ j, F' j → F j ∨ w.heap.size ≤ j) ∧ Dk.Fr F w w3) := ⟨_, (rfl : _ = _)⟩
  have HP := HPP.out
  rw [funext_iff] at HP
  simp only [← HP] at HX ⊢
  simp only [nmW] at HX
  clear h hlook hm HP HPP
  generalize ds.length = N at *
  go_enter Tryz.func111, Tryz.ntmps111
  go_wp2_with (go_at_call 78; refine Calls.mono HX.out ?_; rintro e w3 ⟨rfl, HY⟩)
  go_ret
  exact ⟨rfl, HY⟩

set_option maxHeartbeats 2000000 in
set_option maxRecDepth 20000 in
theorem cutFront_some (B p pd : Nat) (s : St) (F : Nat → Prop) (first : Int) (ds : List (List UInt8)) (k : Nat) (w : World) (h : LW w B p pd s F first ds) (ht : Fr.Tab w) (hk : k < ds.length) (hl : ds.length ≤ 1000000) (hd : ∀ d ∈ ds, d.length ≤ 32768) (hfl : (fileB first ds).length ≤ 900000) (hfit : first + ds.length ≤ 9223372036854775807)
    (hr : (used s.now : Int) + (fileB (first + k) (ds.drop k)).length ≤ s.room) (hf64 : (Dk.look nmC s.now).isSome = true ∨ s.now.length < 64) (hm : s.mass + 1000000 ≤ 1000000000) :
    Calls Tryz.prog 111 #[.pointer (some ⟨p, 0, none⟩), .int .i64 (k : Int)] w fun e w' => e = .returned (.int .i64 0) ∧ Hid (∃ F', LW w' B p pd ((s.push (.app nmC (fileB (first + k) (ds.drop k)))).push (.mov nmC nmW)) F' first ds ∧ (∀ j, F' j → F j ∨ w.heap.size ≤ j) ∧ Dk.Fr F w w') := by
  obtain ⟨ao, cap, c2⟩ := h.cell2
  have c0 := h.cell0
  have c0d : w.drew.cell? ⟨p, 0, none⟩ = some (.pointer (some ⟨pd, 0, none⟩)) := c0
  have hsp := congrArg List.length (fileB_split first ds k (by omega))
  rw [List.length_append] at hsp
  have HS0 : Hid (_) := (h.drew 1).seals (ht.drew 1) k (by omega) hl hd (by omega) hfit
  obtain ⟨Y, HY⟩ : ∃ Y, Hid (Y = fileB (first + k) (ds.drop k)) := ⟨_, (rfl : _ = _)⟩
  rw [← HY.out] at hr HS0 hsp ⊢
  have HS : Hid (Calls Tryz.prog 133 #[.pointer (some ⟨p, 0, none⟩), .int .i64 (k : Int)] w.drew fun e w2 => ∃ ao L cap, e = .returned (.slice ao L cap) ∧ w2.cell? ⟨p, 0, none⟩ = some (.pointer (some ⟨pd, 0, none⟩)) ∧ Hid (Calls Tryz.prog 132 #[.pointer (some ⟨pd, 0, none⟩), .string nmC, .slice ao L cap] w2 fun e w3 => e = .returned (.int .i64 0) ∧ w3.cell? ⟨p, 0, none⟩ = some (.pointer (some ⟨pd, 0, none⟩)) ∧ Hid (Calls Tryz.prog 134 #[.pointer (some ⟨pd, 0, none⟩), .string nmC, .string nmW] w3 fun e w4 => e = .returned (.int .i64 0) ∧ Hid (∃ F', LW w4 B p pd ((s.push (.app nmC Y)).push (.mov nmC nmW)) F' first ds ∧ (∀ j, F' j → F j ∨ w.heap.size ≤ j) ∧ Dk.Fr F w w4)))) := by
    refine Calls.mono HS0.out ?_
    rintro e w2 ⟨ao2, L2, cap2, rfl, hO2, hb2⟩
    have hbd : Below w.heap.size w (w.drewN 1) := ⟨rfl, rfl, rfl, Nat.le_refl _, fun _ _ => rfl⟩
    have hb2' : Below w.heap.size w w2 := hbd.trans hb2
    have hW2 := h.below hb2'
    refine ⟨ao2, L2, cap2, rfl, hW2.cell0, ?_⟩
    refine (append_ok pd s F nmC _ Y w2 hW2.dk (Sl.of_own hO2) (by decide) hr hf64 (by omega)).mono ?_
    rintro e w3 ⟨rfl, hD3, hf3⟩
    have hW3 := hW2.disk hD3 hf3
    refine ⟨rfl, hW3.cell0, ?_⟩
    refine (move_some pd (s.push (.app nmC Y)) _ nmC nmW w3 hW3.dk ?_ (by decide) (by rw [St.push_mass]; simp only [Ch.mass]; omega)).mono ?_
    · rw [St.push_now]
      exact look_app_some _ _ _
    · rintro e w4 ⟨rfl, hD4, hf4⟩
      have hW4 := hW3.disk hD4 hf4
      have hs2 := hb2'.size
      have hs3 := hf3.size
      refine ⟨rfl, _, hW4, fun j hj => ?_, ((Fr.of_below hb2').trans hf3 (fun _ _ h => h)).trans hf4 (fun j hj hF => ?_)⟩
      · rcases hj with (hj | hj) | hj
        · exact Or.inl hj
        · exact Or.inr (by omega)
        · exact Or.inr (by omega)
      · rcases hF with hF | hF
        · exact hF
        · omega
  have hne : ((k : Int) == (ds.length : Int)) = false := by rw [beq_eq_false_iff_ne]; omega
  obtain ⟨PP, HPP⟩ : ∃ PP : World → Prop, Hid (PP = fun w4 => ∃ F', LW w4 B p pd ((s.push (.app nmC Y)).push (.mov nmC nmW)) F' first ds ∧ (∀ j, F' j → F j ∨ w.heap.size ≤ j) ∧ Dk.Fr F w w4) := ⟨_, (rfl : _ = _)⟩
  have HP := HPP.out
  rw [funext_iff] at HP
  simp only [← HP] at HS ⊢
  simp only [nmW, nmC] at HS
  clear h ht hk hl hd hfl hfit hr hf64 hm HP HPP HS0 hsp HY c0
  generalize ds.length = N at *
  go_enter Tryz.func111, Tryz.ntmps111
  go_wp2_with fail
  go_region_held (fun u => u.cell? ⟨p, 0, none⟩ = some (.pointer (some ⟨pd, 0, none⟩)))
    (first | exact c0d | exact d2 | exact d3)
    (first
      | (go_at_call 133; refine Calls.mono HS.out ?_; rintro e w2 ⟨ao2, L2, cap2, rfl, d2, HT⟩)
      | (go_at_call 132; refine Calls.mono HT.out ?_; rintro e w3 ⟨rfl, d3, HU⟩))
  go_wp2_with (go_at_call 134; refine Calls.mono HU.out ?_; rintro e w4 ⟨rfl, HZ⟩)
  go_ret
  exact ⟨rfl, HZ⟩

set_option maxHeartbeats 1000000 in
/-- Until, whichever way the file's front is cut: cutFront's contract handed in. -/
theorem until_with (B p pd : Nat) (s s' : St) (F : Nat → Prop) (first : Int) (ds : List (List UInt8)) (n : Int) (k : Nat) (w : World) (h : LW w B p pd s F first ds) (h1 : 1 ≤ n) (hn : n ≤ 9223372036854775806) (hk : cnt first ds n = k) (h0 : 0 < k) (hkl : k ≤ ds.length) (hl : ds.length ≤ 1000000) (hfl : (fileB first ds).length ≤ 900000) (hfit : first + ds.length ≤ 9223372036854775807)
    (hc : ∀ m, Calls Tryz.prog 111 #[.pointer (some ⟨p, 0, none⟩), .int .i64 (k : Int)] (w.drewN m) fun e w' => e = .returned (.int .i64 0) ∧ Hid (∃ F', LW w' B p pd s' F' first ds ∧ (∀ j, F' j → F j ∨ (w.drewN m).heap.size ≤ j) ∧ Dk.Fr F (w.drewN m) w')) :
    Calls Tryz.prog 87 #[.pointer (some ⟨p, 0, none⟩), .int .i64 n] w fun e w' => e = .returned (.int .i64 0) ∧ Hid (∃ F', LW w' B p pd s' F' (if k = ds.length then 0 else first + k) (ds.drop k) ∧ (∀ j, F' j → F j ∨ w.heap.size ≤ j) ∧ Dk.Fr (fun j => F j ∨ B ≤ j) w w') := by
  have HC : Hid (_) := count_any B p pd s F first ds n w h (by omega) (by omega)
  rw [hk] at HC
  obtain ⟨f', Hf'⟩ : ∃ f', Hid (f' = if k = ds.length then 0 else first + k) := ⟨if k = ds.length then 0 else first + k, (rfl : _ = _)⟩
  rw [← Hf'.out]
  have HX : Hid (∀ m, Calls Tryz.prog 111 #[.pointer (some ⟨p, 0, none⟩), .int .i64 (k : Int)] (w.drewN m) fun e w3 => e = .returned (.int .i64 0) ∧ Hid (Calls Tryz.prog 112 #[.pointer (some ⟨p, 0, none⟩), .int .i64 (k : Int)] w3 fun e w' => e = .returned (.tuple #[]) ∧ Hid (∃ F', LW w' B p pd s' F' f' (ds.drop k) ∧ (∀ j, F' j → F j ∨ w.heap.size ≤ j) ∧ Dk.Fr (fun j => F j ∨ B ≤ j) w w'))) := by
    intro m
    have hbd : Below w.heap.size w (w.drewN m) := ⟨rfl, rfl, rfl, Nat.le_refl _, fun _ _ => rfl⟩
    refine (hc m).mono ?_
    rintro e w3 ⟨rfl, F3, hW3, hF3, hf3⟩
    refine ⟨rfl, ?_⟩
    refine (hW3.dropFront k h0 hkl (by omega) (by omega) hfit).mono ?_
    rintro e w' ⟨rfl, hL, hf⟩
    rw [← Hf'.out] at hL
    refine ⟨rfl, F3, hL, hF3, ((Fr.of_below hbd).trans (hf3.mono (G := fun j => F j ∨ B ≤ j) (fun _ _ h => Or.inl h)) (fun _ _ h => h)).trans hf (fun j hj hF => ?_)⟩
    rcases hF with hF | hF
    · rcases hF3 j hF with hh | hh
      · exact Or.inl hh
      · have : w.heap.size ≤ j := hh
        omega
    · exact Or.inr hF
  obtain ⟨PP, HPP⟩ : ∃ PP : World → Prop, Hid (PP = fun w' => ∃ F', LW w' B p pd s' F' f' (ds.drop k) ∧ (∀ j, F' j → F j ∨ w.heap.size ≤ j) ∧ Dk.Fr (fun j => F j ∨ B ≤ j) w w') := ⟨_, (rfl : _ = _)⟩
  have HP := HPP.out
  rw [funext_iff] at HP
  simp only [← HP] at HX ⊢
  have hne : ((k : Int) == 0) = false := by rw [beq_eq_false_iff_ne]; omega
  clear h hk hc hkl hl hfl hfit HP HPP Hf' h0
  go_enter Tryz.func87, Tryz.ntmps87
  go_wp2_with (first
    | (go_at_call 79; refine Calls.mono HC.out ?_; rintro e w1 ⟨rfl, m, rfl⟩; have HXm : Hid (_) := HX.out m; clear HX)
    | (go_at_call 111; refine Calls.mono HXm.out ?_; rintro e w3 ⟨rfl, HY⟩)
    | (go_at_call 112; refine Calls.mono HY.out ?_; rintro e w4 ⟨rfl, HZ⟩))
  go_ret
  exact ⟨rfl, HZ⟩

theorem until_all (B p pd : Nat) (s : St) (F : Nat → Prop) (first : Int) (ds : List (List UInt8)) (n : Int) (f : Fl) (w : World) (h : LW w B p pd s F first ds) (h1 : 1 ≤ n) (hn : n ≤ 9223372036854775806) (hk : cnt first ds n = ds.length) (h0 : 0 < ds.length) (hl : ds.length ≤ 1000000) (hfl : (fileB first ds).length ≤ 900000) (hfit : first + ds.length ≤ 9223372036854775807)
    (hlook : Dk.look nmW s.now = some f) (hm : s.mass + 1 ≤ 1000000000) :
    Calls Tryz.prog 87 #[.pointer (some ⟨p, 0, none⟩), .int .i64 n] w fun e w' => e = .returned (.int .i64 0) ∧ Hid (∃ F', LW w' B p pd (s.push (.cut nmW 0)) F' 0 [] ∧ (∀ j, F' j → F j ∨ w.heap.size ≤ j) ∧ Dk.Fr (fun j => F j ∨ B ≤ j) w w') := by
  have := until_with B p pd s (s.push (.cut nmW 0)) F first ds n ds.length w h h1 hn hk h0 (Nat.le_refl _) hl hfl hfit (fun m => cutFront_all B p pd s F first ds f _ (h.drew m) hlook hm)
  rw [if_pos rfl, List.drop_length] at this
  exact this
theorem until_some (B p pd : Nat) (s : St) (F : Nat → Prop) (first : Int) (ds : List (List UInt8)) (n : Int) (k : Nat) (w : World) (h : LW w B p pd s F first ds) (ht : Fr.Tab w) (h1 : 1 ≤ n) (hn : n ≤ 9223372036854775806) (hk : cnt first ds n = k) (h0 : 0 < k) (hkl : k < ds.length) (hl : ds.length ≤ 1000000) (hd : ∀ d ∈ ds, d.length ≤ 32768) (hfl : (fileB first ds).length ≤ 900000) (hfit : first + ds.length ≤ 9223372036854775807)
    (hr : (used s.now : Int) + (fileB (first + k) (ds.drop k)).length ≤ s.room) (hf64 : (Dk.look nmC s.now).isSome = true ∨ s.now.length < 64) (hm : s.mass + 1000000 ≤ 1000000000) :
    Calls Tryz.prog 87 #[.pointer (some ⟨p, 0, none⟩), .int .i64 n] w fun e w' => e = .returned (.int .i64 0) ∧ Hid (∃ F', LW w' B p pd ((s.push (.app nmC (fileB (first + k) (ds.drop k)))).push (.mov nmC nmW)) F' (first + k) (ds.drop k) ∧ (∀ j, F' j → F j ∨ w.heap.size ≤ j) ∧ Dk.Fr (fun j => F j ∨ B ≤ j) w w') := by
  have := until_with B p pd s _ F first ds n k w h h1 hn hk h0 (by omega) hl hfl hfit (fun m => cutFront_some B p pd s F first ds k _ (h.drew m) (ht.drew m) hkl hl hd hfl hfit hr hf64 hm)
  rw [if_neg (by omega)] at this
  exact this
end Go.Proofs.YtjndgekpdmlbiaaGreatDoor.Wl
namespace Go.Proofs.YtjndgekpdmlbiaaGreatDoor.Wl
open Go.RowKit Dk

theorem ins_len (f : Fl) : ∀ fs : List Fl, (Dk.ins f fs).length = fs.length + 1
  | [] => rfl
  | x :: r => by
    unfold Dk.ins
    split
    · rfl
    · rw [List.length_cons, ins_len f r, List.length_cons]
theorem del_len (n : ByteArray) (fs : List Fl) : (Dk.del n fs).length ≤ fs.length := List.length_filter_le _ _
theorem del_len_lt {n : ByteArray} {f : Fl} : ∀ {fs : List Fl}, Dk.look n fs = some f → (Dk.del n fs).length + 1 ≤ fs.length
  | [], h => by simp [Dk.look] at h
  | x :: r, h => by
    unfold Dk.del
    by_cases hx : x.name = n
    · rw [List.filter_cons_of_neg (by simpa using hx), List.length_cons]
      have := del_len n r
      unfold Dk.del at this
      omega
    · have hr : Dk.look n r = some f := by
        unfold Dk.look at h ⊢
        rw [List.find?_cons_of_neg (by simpa using hx)] at h
        exact h
      have ih := del_len_lt hr
      rw [List.filter_cons_of_pos (by simpa using hx), List.length_cons, List.length_cons]
      unfold Dk.del at ih
      omega
theorem stray_len (s : St) (n : ByteArray) : (strayStep s n).now.length ≤ s.now.length := by
  unfold strayStep rmStep
  split
  · split
    · rw [St.push_now]
      exact del_len n _
    · exact Nat.le_refl _
  · exact Nat.le_refl _
theorem strays_len : ∀ (ns : List ByteArray) (s : St), (strays s ns).now.length ≤ s.now.length
  | [], s => Nat.le_refl _
  | n :: ns, s => by
    have h1 := strays_len ns (strayStep s n)
    have h2 := stray_len s n
    unfold strays at h1 ⊢
    rw [List.foldl_cons]
    omega
theorem cut_len (n : ByteArray) (k : Nat) (fs : List Fl) : (Dk.ap fs (.cut n k)).length ≤ fs.length := by
  unfold Dk.ap
  cases h : Dk.look n fs with
  | none => simp only [h]; exact Nat.le_refl _
  | some f =>
    have := del_len_lt h
    simp only [h]
    rw [ins_len]
    omega
theorem openS_len (s : St) : (openS s).now.length ≤ s.now.length := by
  have h := strays_len (s.now.map Fl.name) s
  unfold openS
  split
  · rw [St.push_now]
    exact Nat.le_trans (cut_len _ _ _) h
  · exact h
theorem openS_mass (s : St) : (openS s).mass ≤ s.mass + s.now.length + 1 := by
  have h := strays_mass (s.now.map Fl.name) s
  rw [List.length_map] at h
  unfold openS
  split
  · rw [St.push_mass]
    simp only [Ch.mass]
    omega
  · omega
theorem strays_room : ∀ (ns : List ByteArray) (s : St), (strays s ns).room = s.room
  | [], s => rfl
  | n :: ns, s => by
    have h1 := strays_room ns (strayStep s n)
    have h2 : (strayStep s n).room = s.room := by
      unfold strayStep rmStep
      split
      · split <;> rfl
      · rfl
    unfold strays at h1 ⊢
    rw [List.foldl_cons, h1, h2]
theorem openS_room (s : St) : (openS s).room = s.room := by
  unfold openS
  split
  · exact strays_room _ s
  · exact strays_room _ s
end Go.Proofs.YtjndgekpdmlbiaaGreatDoor.Wl
namespace Go.Proofs.YtjndgekpdmlbiaaGreatDoor.Wl
open Go.RowKit Dk

def Nm (fs : List Fl) : Prop := ∀ f ∈ fs, f.name.size ≤ maxLen
theorem nmW_size : nmW.size ≤ maxLen := by decide
theorem ins_nm (f : Fl) (hf : f.name.size ≤ maxLen) : ∀ fs : List Fl, Nm fs → Nm (Dk.ins f fs)
  | [], _ => fun x hx => by simp [Dk.ins] at hx; rw [hx]; exact hf
  | x :: r, h => by
    have ih := ins_nm f hf r (fun y hy => h y (List.mem_cons_of_mem _ hy))
    unfold Dk.ins
    split
    · intro y hy
      rcases List.mem_cons.1 hy with rfl | hy
      · exact hf
      · exact h y hy
    · intro y hy
      rcases List.mem_cons.1 hy with rfl | hy
      · exact h y List.mem_cons_self
      · exact ih y hy
theorem del_nm (n : ByteArray) (fs : List Fl) (h : Nm fs) : Nm (Dk.del n fs) := fun x hx => h x (List.mem_filter.1 hx).1
theorem strays_nm : ∀ (ns : List ByteArray) (s : St), Nm s.now → Nm (strays s ns).now
  | [], s, h => h
  | n :: ns, s, h => by
    have h2 : Nm (strayStep s n).now := by
      unfold strayStep rmStep
      split
      · split
        · rw [St.push_now]; exact del_nm n _ h
        · exact h
      · exact h
    have h1 := strays_nm ns (strayStep s n) h2
    unfold strays at h1 ⊢
    rw [List.foldl_cons]
    exact h1
theorem openS_nm (s : St) (h : Nm s.now) : Nm (openS s).now := by
  have h1 := strays_nm (s.now.map Fl.name) s h
  unfold openS
  split
  · rw [St.push_now]
    unfold Dk.ap
    simp only
    split
    · exact ins_nm _ nmW_size _ (del_nm _ _ h1)
    · exact h1
  · exact h1
theorem app_nm (fs : List Fl) (X : List UInt8) (h : Nm fs) : Nm (Dk.ap fs (.app nmW X)) := ins_nm _ nmW_size _ (del_nm _ _ h)
theorem fileB_long : ∀ (ds : List (List UInt8)) (n : Int), ds.length ≤ (fileB n ds).length
  | [], n => by simp [fileB]
  | d :: r, n => by
    have h1 := fileB_long r (n + 1)
    have h2 : 8 ≤ (recB n d).length := by unfold recB; rw [Fr.seal_len]; omega
    rw [fileB, List.length_cons, List.length_append]
    omega
theorem app_file (fs : List Fl) (X : List UInt8) : ((Dk.look nmW (Dk.ap fs (.app nmW X))).map Fl.bs).getD [] = ((Dk.look nmW fs).map Fl.bs).getD [] ++ X := by
  unfold Dk.ap
  simp only
  rw [look_ins ⟨nmW, _⟩ _ (del_ne nmW _)]
  rfl
theorem fileB_snoc (g : Int) (ds : List (List UInt8)) (d : List UInt8) (n : Int) (h : n = lastL g ds + 1) : fileB g ds ++ recB n d = fileB (if ds.length = 0 then n else g) (ds ++ [d]) := by
  unfold lastL at h
  rw [fileB_append]
  by_cases hd : ds.length = 0
  · have : ds = [] := List.eq_nil_of_length_eq_zero hd
    subst this
    simp [fileB]
  · rw [if_neg hd] at h ⊢
    have e : g + (ds.length : Int) = n := by omega
    rw [e]
    simp [fileB]

/-- A log that was opened on any files. -/
structure FG (w0 w : World) (p pd : Nat) (s : St) (F : Nat → Prop) (g : Int) (ds : List (List UInt8)) : Prop where
  lw : LW w w0.heap.size p pd s F g ds
  own : fileOf s nmW = fileB g ds
  room : s.room = 1048576
  len : s.now.length ≤ 20
  mass : s.mass ≤ 10000
  nm : Nm s.now
  inF : ∀ k, F k → w0.heap.size ≤ k
  bel : Below w0.heap.size w0 w
  small : (fileB g ds).length ≤ 5000
  d : ∀ d ∈ ds, d.length ≤ 32768
  g0 : ds ≠ [] → 1 ≤ g ∧ g + ds.length ≤ 9223372036854775808
theorem FG.below {w0 w w' : World} {p pd : Nat} {s : St} {F : Nat → Prop} {g : Int} {ds : List (List UInt8)} (h : FG w0 w p pd s F g ds) (hb : Below w.heap.size w w') : FG w0 w' p pd s F g ds :=
  ⟨h.lw.below hb, h.own, h.room, h.len, h.mass, h.nm, h.inF, h.bel.trans (hb.mono h.bel.size), h.small, h.d, h.g0⟩
theorem FG.open {w0 w : World} {pd : Nat} {s : St} {F : Nat → Prop} (hD : Dk w pd s F) (hT : ∀ u, Below w0.heap.size w0 u → Fr.Tab u) (hw0 : 0 < w0.heap.size) (hr : s.room = 1048576) (hl : s.now.length ≤ 20) (hm : s.mass ≤ 9000) (hn : Nm s.now) (hF : ∀ k, F k → w0.heap.size ≤ k) (hb : Below w0.heap.size w0 w) (hf : (fileOf s nmW).length ≤ 5000) (g : Int) (ds : List (List UInt8)) (hR : loadR (Fr.scanL (fileOf s nmW)).1 0 [] = (g, ds)) :
    Calls Tryz.prog 25 #[.pointer (some ⟨pd, 0, none⟩)] w fun e w' => ∃ p, e = .returned (.tuple #[.pointer (some ⟨p, 0, none⟩), .int .i64 0]) ∧ Hid (∃ F', FG w0 w' p pd (openS s) F' g ds ∧ ∀ k, F' k → F k ∨ w.heap.size ≤ k) := by
  have hs := hb.size
  refine (open_any pd s F w hD (hT w hb) (fun h0 => by have := hF 0 h0; omega) (by omega) hn (by omega) g ds hR).mono ?_
  rintro e w' ⟨p, rfl, ⟨F', hL, hF'⟩, hfr⟩
  obtain ⟨l1, l2, l3, l4, l5⟩ := load_any _ g ds hR
  have hml := openS_mass s
  have hll := openS_len s
  refine ⟨p, rfl, F', ⟨⟨hL.dk, ?_, hL.np, by have := hL.new; omega⟩, open_file s g ds hR, (openS_room s).trans hr, by omega, by omega, openS_nm s hn, fun k hk => ?_, hb.trans (hfr.below hF hs), Nat.le_trans l1.length_le hf, l3, l4⟩, hF'⟩
  · obtain ⟨vr, rs, G, a1, a2, a3⟩ := hL.lg
    exact ⟨vr, rs, G, a1, a2, fun k hk => ⟨(a3 k hk).1, by have := (a3 k hk).2; omega⟩⟩
  · rcases hF' k hk with hh | hh
    · exact hF k hh
    · omega
end Go.Proofs.YtjndgekpdmlbiaaGreatDoor.Wl
namespace Go.Proofs.YtjndgekpdmlbiaaGreatDoor.Wl
open Go.RowKit Dk

/-- The files are the log's own alone. -/
def nowF (fs : List Fl) (first : Int) (ds : List (List UInt8)) : Prop := (fs = [] ∧ ds = []) ∨ fs = [⟨nmW, fileB first ds⟩]
theorem nowF.len {fs : List Fl} {first : Int} {ds : List (List UInt8)} (h : nowF fs first ds) : fs.length ≤ 1 := by
  rcases h with ⟨rfl, _⟩ | rfl <;> simp
theorem nowF.used {fs : List Fl} {first : Int} {ds : List (List UInt8)} (h : nowF fs first ds) : Dk.used fs = (fileB first ds).length := by
  rcases h with ⟨rfl, rfl⟩ | rfl <;> simp [Dk.used, fileB]
theorem nowF.mass {fs : List Fl} {first : Int} {ds : List (List UInt8)} (h : nowF fs first ds) : Dk.mass fs ≤ (fileB first ds).length + 1 := by
  rcases h with ⟨rfl, rfl⟩ | rfl <;> simp [Dk.mass]
theorem nowF.nm {fs : List Fl} {first : Int} {ds : List (List UInt8)} (h : nowF fs first ds) : Nm fs := by
  intro f hf
  rcases h with ⟨rfl, rfl⟩ | rfl
  · simp at hf
  · rw [List.mem_singleton] at hf
    rw [hf]
    exact nmW_size
theorem nowF.look {fs : List Fl} {first : Int} {ds : List (List UInt8)} (h : nowF fs first ds) (hd : ds ≠ []) : Dk.look nmW fs = some ⟨nmW, fileB first ds⟩ := by
  rcases h with ⟨_, e⟩ | rfl
  · exact absurd e hd
  · exact look_one _
theorem nowF.file {fs : List Fl} {first : Int} {ds : List (List UInt8)} (h : nowF fs first ds) : ((Dk.look nmW fs).map Fl.bs).getD [] = fileB first ds := by
  rcases h with ⟨rfl, rfl⟩ | rfl
  · rfl
  · rw [look_one]; rfl
theorem nowF.app {fs : List Fl} {first : Int} {ds : List (List UInt8)} (h : nowF fs first ds) (n : Int) (b : List UInt8) (hm : mayL first ds n = true) : nowF (Dk.ap fs (.app nmW (recB n b))) (if ds.length = 0 then n else first) (ds ++ [b]) := by
  right
  obtain ⟨m1, m2⟩ : 1 ≤ n ∧ (ds.length = 0 ∨ n - 1 = (if ds.length = 0 then 0 else first + ds.length - 1)) := by simpa [mayL] using hm
  have hf : fileB first ds ++ recB n b = fileB (if ds.length = 0 then n else first) (ds ++ [b]) := by
    by_cases hz : ds.length = 0
    · rw [List.eq_nil_of_length_eq_zero hz]
      simp [fileB]
    · rw [if_neg hz, fileB_append]
      rw [if_neg hz] at m2
      have : n = first + ds.length := by
        rcases m2 with m2 | m2
        · exact absurd m2 hz
        · omega
      rw [this]
      simp [fileB]
  rcases h with ⟨rfl, rfl⟩ | rfl
  · rw [← hf]
    simp [ap, Dk.look, Dk.del, Dk.ins, fileB]
  · rw [← hf]
    simp [ap, Dk.look, Dk.del, Dk.ins]
theorem fileB_front (first : Int) (ds : List (List UInt8)) (k : Nat) (hk : k ≤ ds.length) : (fileB first ds).take (fileB first (ds.take k)).length = fileB first (ds.take k) := by
  rw [fileB_split first ds k hk, List.take_left]
theorem fileB_nil (a : Int) : fileB a [] = [] := rfl
theorem nowF.cut {fs : List Fl} {first : Int} {ds : List (List UInt8)} (h : nowF fs first ds) (k : Nat) (hk : k < ds.length) : nowF (Dk.ap fs (.cut nmW (fileB first (ds.take k)).length)) (if k = 0 then 0 else first) (ds.take k) := by
  right
  have hb : fileB (if k = 0 then 0 else first) (ds.take k) = fileB first (ds.take k) := by
    by_cases hz : k = 0
    · rw [hz]; rfl
    · rw [if_neg hz]
  rcases h with ⟨rfl, rfl⟩ | rfl
  · simp at hk
  · rw [hb]
    simp [ap, Dk.look, Dk.del, Dk.ins, fileB_front first ds k (by omega)]
theorem nowF.cut0 {fs : List Fl} {first : Int} {ds : List (List UInt8)} (h : nowF fs first ds) (hd : ds ≠ []) : nowF (Dk.ap fs (.cut nmW 0)) 0 [] := by
  right
  rcases h with ⟨rfl, rfl⟩ | rfl
  · simp at hd
  · simp [ap, Dk.look, Dk.del, Dk.ins, fileB]
theorem nmC_ne : nmC ≠ nmW := by decide
theorem nmW_ne : nmW ≠ nmC := by decide
theorem nlt_CW : Dk.nlt nmC nmW = False := by
  apply eq_false
  decide
/-- The copy beside the file. -/
theorem ap_copy (X Y : List UInt8) : Dk.ap [⟨nmW, X⟩] (.app nmC Y) = [⟨nmW, X⟩, ⟨nmC, Y⟩] := by
  simp [ap, Dk.look, Dk.del, Dk.ins, nmW_ne, nlt_CW]
theorem ap_move (X Y : List UInt8) : Dk.ap [⟨nmW, X⟩, ⟨nmC, Y⟩] (.mov nmC nmW) = [⟨nmW, Y⟩] := by
  simp [ap, Dk.look, Dk.del, Dk.ins, nmW_ne, nmC_ne]

theorem fileB_small : ∀ (ds : List (List UInt8)) (n : Int) (m : Nat), (∀ d ∈ ds, d.length ≤ m) → m ≤ 32768 → 0 ≤ n → n + ds.length ≤ 9223372036854775807 → (fileB n ds).length ≤ ds.length * (m + 28)
  | [], n, m, _, _, _, _ => by simp [fileB]
  | d :: ds, n, m, h, hm, h0, hb => by
    rw [List.length_cons] at hb
    have h1 := fileB_small ds (n + 1) m (fun x hx => h x (List.mem_cons_of_mem _ hx)) hm (by omega) (by omega)
    have hd := h d List.mem_cons_self
    have h2 := recB_size n d ⟨by omega, by omega⟩ (by omega)
    rw [fileB, List.length_append, List.length_cons, Nat.add_mul]
    omega

/-- A log that is open, all its memory and its disk's from w0 on. -/
def GD (w0 w : World) (p pd : Nat) (s : St) (first : Int) (ds : List (List UInt8)) : Prop := ∃ F, LW w w0.heap.size p pd s F first ds ∧ (∀ j, F j → w0.heap.size ≤ j) ∧ Below w0.heap.size w0 w
/-- What is asked of it besides. -/
structure Gs (s : St) (first : Int) (ds : List (List UInt8)) (N M : Nat) : Prop where
  room : s.room = 1048576
  now : nowF s.now first ds
  mass : s.mass ≤ M
  small : ∀ d ∈ ds, d.length ≤ 300
  len : ds.length ≤ N
  fit : 0 ≤ first ∧ first + ds.length ≤ 4611686018427387904
theorem Gs.file {s : St} {first : Int} {ds : List (List UInt8)} {N M : Nat} (h : Gs s first ds N M) : (fileB first ds).length ≤ ds.length * 328 := fileB_small ds first 300 h.small (by omega) h.fit.1 (by have := h.fit; omega)

theorem GD.below {w0 w w' : World} {p pd : Nat} {s : St} {first : Int} {ds : List (List UInt8)} (h : GD w0 w p pd s first ds) (hb : Below w.heap.size w w') : GD w0 w' p pd s first ds := by
  obtain ⟨F, h1, h2, h3⟩ := h
  exact ⟨F, h1.below hb, h2, h3.trans (hb.mono h3.size)⟩
theorem GD.next {w0 w w' : World} {p pd : Nat} {s' : St} {first' : Int} {ds' : List (List UInt8)} {F : Nat → Prop} (hF : ∀ j, F j → w0.heap.size ≤ j) (hb : Below w0.heap.size w0 w)
    (h : ∃ F', LW w' w0.heap.size p pd s' F' first' ds' ∧ (∀ k, F' k → F k ∨ w.heap.size ≤ k) ∧ Dk.Fr (fun k => F k ∨ w0.heap.size ≤ k) w w') : GD w0 w' p pd s' first' ds' := by
  obtain ⟨F', h1, h2, h3⟩ := h
  have hs := hb.size
  refine ⟨F', h1, fun j hj => ?_, hb.trans (h3.below (fun j hj => ?_) hs)⟩
  · rcases h2 j hj with hh | hh
    · exact hF j hh
    · omega
  · rcases hj with hh | hh
    · exact hF j hh
    · exact hh

/-- Append. -/
theorem GD.app {w0 w w2 : World} {p pd : Nat} {s : St} {first : Int} {ds : List (List UInt8)} {N M : Nat} (h : GD w0 w p pd s first ds) (hG : Gs s first ds N M) (hT : ∀ u, Below w0.heap.size w0 u → Fr.Tab u) (hN : N ≤ 80) (hM : M ≤ 100000) (n : Int) (bv : Value) (b : List UInt8) (hb : Below w.heap.size w w2) (hS : Sl w2 bv b) (haw : ∀ a m c, bv = .slice (some a) m c → a.block < w0.heap.size ∨ w.heap.size ≤ a.block)
    (hm : mayL first ds n = true) (hn : n ≤ 4611686018427387904) (hl : b.length ≤ 300) :
    Calls Tryz.prog 121 #[.pointer (some ⟨p, 0, none⟩), .int .i64 n, bv] w2 fun e w' => e = .returned (.int .i64 0) ∧ Hid (GD w0 w' p pd (s.push (.app nmW (recB n b))) (if ds.length = 0 then n else first) (ds ++ [b])) := by
  obtain ⟨F, hL, hF, hbw⟩ := h
  have hb2 : Below w0.heap.size w0 w2 := hbw.trans (hb.mono hbw.size)
  have hlt := hL.dk.lt
  have hfl := hG.file
  have hdl := hG.len
  have hms := hG.mass
  have m1 : 1 ≤ n := by
    unfold mayL at hm
    simp only [Bool.and_eq_true, decide_eq_true_eq] at hm
    exact hm.1
  have hrs := recB_size n b ⟨by omega, by omega⟩ (by omega)
  have hu := hG.now.used
  have hnl := hG.now.len
  refine (app_ok w0.heap.size p pd s F first ds n bv b w2 (hL.below hb) ⟨hS, fun a m c e hFa => ?_⟩ (hT w2 hb2) (by omega) hm (by omega) (by rw [hu, hG.room]; omega) (Or.inr (by omega)) (by omega) (by omega) (by omega)).mono ?_
  · rcases haw a m c e with hh | hh
    · have := hF _ hFa; omega
    · have := hlt _ hFa; omega
  · rintro e w' ⟨rfl, hX⟩
    refine ⟨rfl, GD.next (w := w2) hF hb2 ?_⟩
    exact hX
theorem Gs.app {s : St} {first : Int} {ds : List (List UInt8)} {N M : Nat} (h : Gs s first ds N M) (n : Int) (b : List UInt8) (hm : mayL first ds n = true) (hn : n ≤ 4611686018427387000) (hl : b.length ≤ 300) : Gs (s.push (.app nmW (recB n b))) (if ds.length = 0 then n else first) (ds ++ [b]) (N + 1) (M + 330) := by
  obtain ⟨m1, m2⟩ : 1 ≤ n ∧ (ds.length = 0 ∨ n - 1 = (if ds.length = 0 then 0 else first + ds.length - 1)) := by simpa [mayL] using hm
  have hrs := recB_size n b ⟨by omega, by omega⟩ (by omega)
  have h1 := h.mass
  have h2 := h.len
  have h3 := h.fit
  refine ⟨h.room, by rw [St.push_now]; exact h.now.app n b hm, by rw [St.push_mass]; simp only [Ch.mass]; omega, fun d hd => ?_, by rw [List.length_append, List.length_singleton]; omega, ?_⟩
  · rcases List.mem_append.1 hd with hd | hd
    · exact h.small d hd
    · rw [List.mem_singleton] at hd
      rw [hd]
      exact hl
  · rw [List.length_append, List.length_singleton]
    split
    · rename_i hz
      rw [hz]
      exact ⟨by omega, by omega⟩
    · rename_i hz
      rw [if_neg hz] at m2
      rcases m2 with m2 | m2
      · exact absurd m2 hz
      · exact ⟨h3.1, by omega⟩

/-- What From makes of the disk. -/
def fromS (s : St) (first : Int) (ds : List (List UInt8)) (k : Nat) : St := if k = ds.length then s else s.push (.cut nmW (fileB first (ds.take k)).length)
theorem cnt_le (first : Int) (ds : List (List UInt8)) (n : Int) (h0 : 0 ≤ n) : cnt first ds n ≤ ds.length := by
  unfold cnt
  by_cases h : lastL first ds ≤ n
  · rw [if_pos h]
    exact Nat.le_refl _
  · rw [if_neg h]
    unfold lastL at h
    by_cases hz : ds.length = 0
    · rw [if_pos hz] at h
      rw [hz]
      omega
    · rw [if_neg hz] at h
      omega
theorem GD.from {w0 w : World} {p pd : Nat} {s : St} {first : Int} {ds : List (List UInt8)} {N M : Nat} (h : GD w0 w p pd s first ds) (hG : Gs s first ds N M) (hN : N ≤ 80) (hM : M ≤ 100000) (n : Int) (k : Nat) (h1 : 1 ≤ n) (hn : n ≤ 9223372036854775807) (hk : cnt first ds (n - 1) = k) :
    Calls Tryz.prog 49 #[.pointer (some ⟨p, 0, none⟩), .int .i64 n] w fun e w' => e = .returned (.int .i64 0) ∧ Hid (GD w0 w' p pd (fromS s first ds k) (if k = 0 then 0 else first) (ds.take k)) := by
  obtain ⟨F, hL, hF, hbw⟩ := h
  have hkl := cnt_le first ds (n - 1) (by omega)
  have hdl := hG.len
  have hms := hG.mass
  rw [hk] at hkl
  by_cases he : k = ds.length
  · refine (from_same _ p pd s F first ds n w hL h1 hn (by rw [hk, he])).mono ?_
    rintro e w' ⟨rfl, m, rfl⟩
    refine ⟨rfl, F, ?_, hF, hbw.trans ⟨rfl, rfl, rfl, Nat.le_refl _, fun _ _ => rfl⟩⟩
    have hz := hL.fit.2.2
    have hf : (if k = 0 then 0 else first) = first := by
      split
      · exact (hz (List.eq_nil_of_length_eq_zero (by omega))).symm
      · rfl
    rw [hf, List.take_of_length_le (by omega), fromS, if_pos he]
    exact hL.drew m
  · have hne : ds ≠ [] := fun e => by rw [e] at hkl he; simp at hkl he; omega
    refine (from_ok _ p pd s F first ds n k ⟨nmW, fileB first ds⟩ w hL h1 hn hk (by omega) (by omega) (hG.now.look hne) rfl (by omega)).mono ?_
    rintro e w' ⟨rfl, hX⟩
    refine ⟨rfl, GD.next hF hbw ?_⟩
    rw [fromS, if_neg he]
    exact hX
theorem Gs.from {s : St} {first : Int} {ds : List (List UInt8)} {N M : Nat} (h : Gs s first ds N M) (k : Nat) (hk : k ≤ ds.length) (hz : ds = [] → first = 0) : Gs (fromS s first ds k) (if k = 0 then 0 else first) (ds.take k) N (M + 1) := by
  have h1 := h.mass
  have h2 := h.len
  have h3 := h.fit
  have hlen : (ds.take k).length ≤ N := by rw [List.length_take]; omega
  have hsm : ∀ d ∈ ds.take k, d.length ≤ 300 := fun d hd => h.small d (List.mem_of_mem_take hd)
  have hfit : 0 ≤ (if k = 0 then 0 else first) ∧ (if k = 0 then 0 else first) + (ds.take k).length ≤ 4611686018427387904 := by
    rw [List.length_take]
    split <;> constructor <;> omega
  unfold fromS
  by_cases he : k = ds.length
  · rw [if_pos he]
    have hf : (if k = 0 then 0 else first) = first := by
      split
      · exact (hz (List.eq_nil_of_length_eq_zero (by omega))).symm
      · rfl
    rw [hf] at hfit ⊢
    exact ⟨h.room, by rw [List.take_of_length_le (by omega)]; exact h.now, by omega, hsm, hlen, hfit⟩
  · rw [if_neg he]
    exact ⟨h.room, by rw [St.push_now]; exact h.now.cut k (by omega), by rw [St.push_mass]; simp only [Ch.mass]; omega, hsm, hlen, hfit⟩

/-- What Until makes of the disk. -/
def untilS (s : St) (first : Int) (ds : List (List UInt8)) (k : Nat) : St := if k = 0 then s else if k = ds.length then s.push (.cut nmW 0) else (s.push (.app nmC (fileB (first + k) (ds.drop k)))).push (.mov nmC nmW)
theorem GD.until {w0 w : World} {p pd : Nat} {s : St} {first : Int} {ds : List (List UInt8)} {N M : Nat} (h : GD w0 w p pd s first ds) (hG : Gs s first ds N M) (hT : ∀ u, Below w0.heap.size w0 u → Fr.Tab u) (hN : N ≤ 80) (hM : M ≤ 100000) (n : Int) (k : Nat) (h1 : 1 ≤ n) (hn : n ≤ 9223372036854775806) (hk : cnt first ds n = k) :
    Calls Tryz.prog 87 #[.pointer (some ⟨p, 0, none⟩), .int .i64 n] w fun e w' => e = .returned (.int .i64 0) ∧ Hid (GD w0 w' p pd (untilS s first ds k) (if k = ds.length then 0 else first + k) (ds.drop k)) := by
  obtain ⟨F, hL, hF, hbw⟩ := h
  have hkl := cnt_le first ds n (by omega)
  have hdl := hG.len
  have hms := hG.mass
  have hfl := hG.file
  have hfi := hG.fit
  rw [hk] at hkl
  by_cases h0 : k = 0
  · refine (until_same _ p pd s F first ds n w hL h1 hn (by rw [hk, h0])).mono ?_
    rintro e w' ⟨rfl, m, rfl⟩
    refine ⟨rfl, F, ?_, hF, hbw.trans ⟨rfl, rfl, rfl, Nat.le_refl _, fun _ _ => rfl⟩⟩
    have hz := hL.fit.2.2
    have hf : (if k = ds.length then 0 else first + k) = first := by
      split
      · exact (hz (List.eq_nil_of_length_eq_zero (by omega))).symm
      · rw [h0]; simp
    rw [hf, h0, List.drop_zero, untilS, if_pos rfl]
    exact hL.drew m
  · by_cases he : k = ds.length
    · have hne : ds ≠ [] := fun e => by rw [e] at he; simp at he; omega
      refine (until_all _ p pd s F first ds n ⟨nmW, fileB first ds⟩ w hL h1 hn (by rw [hk, he]) (by omega) (by omega) (by omega) (by omega) (hG.now.look hne) (by omega)).mono ?_
      rintro e w' ⟨rfl, hX⟩
      refine ⟨rfl, GD.next hF hbw ?_⟩
      rw [untilS, if_neg h0, if_pos he, if_pos he, List.drop_of_length_le (by omega)]
      exact hX
    · have hsp := congrArg List.length (fileB_split first ds k hkl)
      rw [List.length_append] at hsp
      have hnl := hG.now.len
      have hu := hG.now.used
      refine (until_some _ p pd s F first ds n k w hL (hT w hbw) h1 hn hk (by omega) (by omega) (by omega) (fun d hd => by have := hG.small d hd; omega) (by omega) (by omega) (by rw [hu, hG.room]; omega) (Or.inr (by omega)) (by omega)).mono ?_
      rintro e w' ⟨rfl, hX⟩
      refine ⟨rfl, GD.next hF hbw ?_⟩
      rw [untilS, if_neg h0, if_neg he, if_neg he]
      exact hX
theorem Gs.until {s : St} {first : Int} {ds : List (List UInt8)} {N M : Nat} (h : Gs s first ds N M) (k : Nat) (hk : k ≤ ds.length) (hz : ds = [] → first = 0) : Gs (untilS s first ds k) (if k = ds.length then 0 else first + k) (ds.drop k) N (M + (N * 328 + 3)) := by
  have h1 := h.mass
  have h2 := h.len
  have h3 := h.fit
  have hlen : (ds.drop k).length ≤ N := by rw [List.length_drop]; omega
  have hsm : ∀ d ∈ ds.drop k, d.length ≤ 300 := fun d hd => h.small d (List.mem_of_mem_drop hd)
  have hfit : 0 ≤ (if k = ds.length then 0 else first + k) ∧ (if k = ds.length then 0 else first + k) + (ds.drop k).length ≤ 4611686018427387904 := by
    rw [List.length_drop]
    split <;> constructor <;> omega
  unfold untilS
  by_cases h0 : k = 0
  · rw [if_pos h0]
    have hf : (if k = ds.length then 0 else first + k) = first := by
      split
      · exact (hz (List.eq_nil_of_length_eq_zero (by omega))).symm
      · rw [h0]; simp
    rw [hf] at hfit ⊢
    exact ⟨h.room, by rw [h0, List.drop_zero]; exact h.now, by omega, hsm, hlen, hfit⟩
  · rw [if_neg h0]
    have hne : ds ≠ [] := fun e => by rw [e] at hk; simp at hk; omega
    by_cases he : k = ds.length
    · rw [if_pos he, if_pos he]
      rw [if_pos he] at hfit
      refine ⟨h.room, ?_, by rw [St.push_mass]; simp only [Ch.mass]; omega, hsm, hlen, hfit⟩
      rw [St.push_now, List.drop_of_length_le (by omega)]
      exact h.now.cut0 hne
    · rw [if_neg he, if_neg he]
      rw [if_neg he] at hfit
      have hfl := h.file
      have hsp := congrArg List.length (fileB_split first ds k hk)
      rw [List.length_append] at hsp
      have hN2 : ds.length * 328 ≤ N * 328 := Nat.mul_le_mul_right _ h2
      refine ⟨h.room, ?_, by rw [St.push_mass, St.push_mass]; simp only [Ch.mass]; omega, hsm, hlen, hfit⟩
      right
      rw [St.push_now, St.push_now]
      rcases h.now with ⟨_, e⟩ | e
      · exact absurd e hne
      · rw [e, ap_copy, ap_move]

/-- Sync. -/
theorem GD.sync {w0 w : World} {p pd : Nat} {s : St} {first : Int} {ds : List (List UInt8)} (h : GD w0 w p pd s first ds) (hM : s.mass ≤ 1000000) :
    Calls Tryz.prog 57 #[.pointer (some ⟨p, 0, none⟩)] w fun e w' => e = .returned (.tuple #[]) ∧ Hid (GD w0 w' p pd ⟨s.room, s.now, []⟩ first ds) := by
  obtain ⟨F, hL, hF, hbw⟩ := h
  refine (sync_log _ p pd s F first ds w hL (by omega)).mono ?_
  rintro e w' ⟨rfl, hX, hf⟩
  have hs := hbw.size
  refine ⟨rfl, _, hX, fun j hj => ?_, hbw.trans (hf.below hF hs)⟩
  rcases hj with hh | hh
  · exact hF j hh
  · omega
theorem Gs.sync {s : St} {first : Int} {ds : List (List UInt8)} {N M : Nat} (h : Gs s first ds N M) : Gs ⟨s.room, s.now, []⟩ first ds N (N * 328 + 1) := by
  have h1 := h.now.mass
  have h2 := h.file
  have h3 : ds.length * 328 ≤ N * 328 := Nat.mul_le_mul_right _ h.len
  refine ⟨h.room, h.now, ?_, h.small, h.len, h.fit⟩
  simp only [St.mass, wmass]
  simp
  omega

/-- Crash of its disk: what is left stands on a disk of its own. -/
theorem GD.crash {w0 w : World} {p pd : Nat} {s : St} {first : Int} {ds : List (List UInt8)} (h : GD w0 w p pd s first ds) (hM : s.mass ≤ 1000000) (n t : Int) :
    Calls Tryz.prog 16 #[.pointer (some ⟨pd, 0, none⟩), .int .i64 n, .int .i64 t] w fun e w' => ∃ q, e = .returned (.pointer (some ⟨q, 0, none⟩)) ∧ Hid ((∃ F, Dk w' q ⟨s.room, Dk.leftOf s n t, []⟩ F ∧ (∀ j, F j → w0.heap.size ≤ j) ∧ Below w0.heap.size w0 w') ∧ GD w0 w' p pd s first ds) := by
  obtain ⟨F, hL, hF, hbw⟩ := id h
  refine (crash_any pd s F n t w hL.dk (by omega)).mono ?_
  rintro e w' ⟨q, rfl, hq, hD, hb⟩
  have hs := hbw.size
  refine ⟨q, rfl, ⟨_, hD, fun j hj => ?_, hbw.trans (hb.mono hs)⟩, h.below hb⟩
  rcases hj with hh | hh
  · exact hh.elim
  · omega

/-- Open of a disk. -/
theorem GD.open {w0 w : World} {q : Nat} {s : St} (hD : ∃ F, Dk w q s F ∧ (∀ j, F j → w0.heap.size ≤ j) ∧ Below w0.heap.size w0 w) (hT : ∀ u, Below w0.heap.size w0 u → Fr.Tab u) (hw0 : 0 < w0.heap.size) (hm : s.mass ≤ 1000000) (hn : Nm s.now) (hf : (fileOf s nmW).length ≤ 30000) (hlen : s.now.length ≤ 100) (first : Int) (ds : List (List UInt8)) (hR : loadR (Fr.scanL (fileOf s nmW)).1 0 [] = (first, ds)) :
    Calls Tryz.prog 25 #[.pointer (some ⟨q, 0, none⟩)] w fun e w' => ∃ p, e = .returned (.tuple #[.pointer (some ⟨p, 0, none⟩), .int .i64 0]) ∧ Hid (GD w0 w' p q (openS s) first ds ∧ Below w0.heap.size w w') := by
  obtain ⟨F, hD, hF, hb⟩ := hD
  have hs := hb.size
  refine (open_any q s F w hD (hT w hb) (fun h0 => by have := hF _ h0; omega) (by omega) hn hf first ds hR).mono ?_
  rintro e w' ⟨p, rfl, ⟨F', hL, hF'⟩, hf'⟩
  have hbb : Below w0.heap.size w w' := hf'.below hF hs
  refine ⟨p, rfl, ⟨F', ⟨hL.dk, ?_, hL.np, by have := hL.new; omega⟩, fun j hj => ?_, hb.trans hbb⟩, hbb⟩
  · obtain ⟨vr, rs, G, a1, a2, a3⟩ := hL.lg
    exact ⟨vr, rs, G, a1, a2, fun k hk => ⟨(a3 k hk).1, by have := (a3 k hk).2; omega⟩⟩
  · rcases hF' j hj with hh | hh
    · exact hF j hh
    · omega
end Go.Proofs.YtjndgekpdmlbiaaGreatDoor.Wl

/- The walks of a disk's Append, Remove, Move, Cut. -/
import Derived.Test.YtnbdkojdddplkaaDoorDkCallsA
import Derived.Test.YtnbdkojdddplkaaDoorDkDdo
namespace Go.Proofs.YtnbdkojdddplkaaDoor.Dk
open Go.RowKit

/-- What a change of a disk leaves, from the call's first world. -/
theorem Dk.from {w w1 w' : World} {p : Nat} {s : St} {F D : Nat → Prop} (h : Dk w' p s (ext (fun k => F k ∨ D k) w1 w')) (hf : Fr F w1 w') (hb : Below w.heap.size w w1) (hF : ∀ k, F k → k < w.heap.size) (hD : ∀ k, D k → w.heap.size ≤ k ∧ k < w1.heap.size) : Dk w' p s (ext F w w') ∧ Fr F w w' := by
  refine ⟨h.mono (fun k hk => ?_) (ext_lt hF (Nat.le_trans hb.size hf.size)), (Fr.of_below hb).trans hf (fun _ _ h => h)⟩
  have h1 := hb.size
  have h2 := hf.size
  rcases hk with (hk | hk) | hk
  · exact Or.inl hk
  · exact Or.inr ⟨(hD k hk).1, by have := (hD k hk).2; omega⟩
  · exact Or.inr ⟨by omega, hk.2⟩

theorem Dk.has {w : World} {p : Nat} {s : St} {F : Nat → Prop} (h : Dk w p s F) (hm : s.mass ≤ 1000000000) : ∃ ao N cap, w.cell? ⟨p, 2, none⟩ = some (.slice ao N cap) ∧ N = s.now.length ∧ (∀ n w1, Below w.heap.size w w1 → Calls Tryd.prog 46 #[.slice ao N cap, .string n] w1 fun e w' => e = .returned (.bool (look n s.now).isSome) ∧ Below w1.heap.size w1 w') ∧
    (∀ w1, Below w.heap.size w w1 → Calls Tryd.prog 45 #[.slice ao N cap] w1 fun e w' => e = .returned (.int .i64 (used s.now)) ∧ Below w1.heap.size w1 w') := by
  obtain ⟨hgood, hFlt, vl, vn, vw, zl, zn, ws, Fa, Fn, Fw, hC, g1, g2, g3, g4⟩ := h
  have hnm := St.now_mass hgood
  have hum := used_mass (zn.map Ent.fl)
  rw [List.length_map] at hum
  rw [g2] at hum
  obtain ⟨ao, cap, e⟩ : ∃ ao cap, vn = .slice ao zn.length cap := by
    rcases hC.fn.shape with ⟨rfl, e⟩ | ⟨g, cap, rfl, _⟩
    · exact ⟨none, 0, by rw [e]⟩
    · exact ⟨_, _, rfl⟩
  subst e
  refine ⟨ao, zn.length, cap, hC.cells.2.2.1, by rw [← g2, List.length_map], fun n w1 hb => ?_, fun w1 hb => ?_⟩
  · have := has_any _ zn Fn n w1 (hC.fn.below hb) (by rw [g2]; exact St.now_srt hgood) (by omega)
    rw [g2] at this
    exact this
  · have := size_any _ zn Fn w1 (hC.fn.below hb) (by rw [g2]; omega)
    rw [g2] at this
    exact this
theorem Dk.cell0 {w : World} {p : Nat} {s : St} {F : Nat → Prop} (h : Dk w p s F) : w.cell? ⟨p, 0, none⟩ = some (.int .i64 s.room) := by
  obtain ⟨hgood, hFlt, vl, vn, vw, zl, zn, ws, Fa, Fn, Fw, hC, g1, g2, g3, g4⟩ := h
  exact hC.cells.1

set_option maxHeartbeats 1000000 in
set_option maxRecDepth 20000 in
theorem append_ok (p : Nat) (s : St) (F : Nat → Prop) (n : ByteArray) (bv : Value) (b : List UInt8) (w : World) (h : Dk w p s F) (hS : Sl w bv b) (hn : okN n = true) (hr : (used s.now : Int) + b.length ≤ s.room) (hl : (look n s.now).isSome = true ∨ s.now.length < 64) (hm : s.mass + b.length + 2 ≤ 1000000000) :
    Calls Tryd.prog 20 #[.pointer (some ⟨p, 0, none⟩), .string n, bv] w fun e w' => e = .returned (.int .i64 0) ∧ Dk w' p (s.push (.app n b)) (ext F w w') ∧ Fr F w w' := by
  obtain ⟨ao, N, cap, c2, hN, hhas, hsize⟩ := h.has (by omega)
  have c0 := h.cell0
  have HN : Hid (_) := name_any n w
  rw [hn] at HN
  have HH : Hid (_) := hhas n
  have HZ : Hid (_) := hsize
  obtain ⟨aob, capb, rfl, hb1, hb2⟩ := hS.shape
  have HCl : Hid (∀ w1, Below w.heap.size w w1 → Calls Tryd.prog 34 #[.slice aob b.length capb] w1 fun e w' => ∃ ao' L' cap', e = .returned (.slice ao' L' cap') ∧ Hid (Below w.heap.size w w') ∧ Hid (Calls Tryd.prog 47 #[.pointer (some ⟨p, 0, none⟩), .agg #[.int .i64 1, .string n, .slice ao' L' cap', .int .i64 0, .string ⟨#[]⟩]] w' fun e w2 => e = .returned (.tuple #[]) ∧ Hid (Dk w2 p (s.push (.app n b)) (ext F w w2) ∧ Fr F w w2))) := by
    intro w1 hb
    refine (clone_any _ b w1 (hS.below hb) (by omega)).mono ?_
    rintro e w' ⟨v', rfl, hO, hb'⟩
    obtain ⟨ao', L', cap', rfl⟩ := own_slice hO
    have hbw : Below w.heap.size w w' := hb.trans (hb'.mono hb.size)
    refine ⟨ao', L', cap', rfl, hbw, ?_⟩
    have hD : ∀ k, (Value.slice ao' L' cap').ownBlock = some k → w.heap.size ≤ k ∧ k < w'.heap.size := fun k hk => ⟨by have := (hO.lt k hk).1; have := hb.size; omega, (hO.lt k hk).2⟩
    refine (ddo_any p s F (fun k => (Value.slice ao' L' cap').ownBlock = some k) ⟨1, n, .slice ao' L' cap', 0, ⟨#[]⟩⟩ (.app n b) w' (h.below hbw) ⟨1, n, ao', L', cap', 0, ⟨#[]⟩, rfl, rfl, rfl, SlA.of_own hO (fun k hk hk' => hk' hk)⟩ (fun k hk => ⟨fun hF => by have := h.lt k hF; have := (hD k hk).1; omega, (hD k hk).2⟩) trivial (by simp only [Ch.mass]; omega)).mono ?_
    rintro e w2 ⟨rfl, hX, hf⟩
    exact ⟨rfl, hX.from hf hbw h.lt hD⟩
  have hr0 := h.good.r0
  have hr1 := h.good.r1
  obtain ⟨U, HU⟩ : ∃ U : Nat, Hid (U = used s.now) := ⟨used s.now, (rfl : _ = _)⟩
  rw [← HU.out] at HZ hr
  obtain ⟨R, HR⟩ : ∃ R : Int, Hid (R = s.room) := ⟨s.room, (rfl : _ = _)⟩
  rw [← HR.out] at c0 hr hr0 hr1
  have hW : IntKind.i64.wrap (R - (U : Int)) = R - (U : Int) := by rw [IntKind.wrap_i64]; omega
  have hcmp : ¬ (R - (U : Int) < (b.length : Int)) := by omega
  have hcmp2 : (b.length : Int) ≤ R - (U : Int) := by omega
  rw [← hN] at hl
  obtain ⟨B, HB⟩ : ∃ B : Bool, Hid (B = (look n s.now).isSome) := ⟨(look n s.now).isSome, (rfl : _ = _)⟩
  rw [← HB.out] at HH hl
  have HL : Hid (B = true ∨ N < 64) := hl
  have hb2i : (capb : Int) ≤ 9223372036854775807 := by have : capb ≤ 9223372036854775807 := hb2; omega
  clear h hS hn hhas hsize hl hb1 hm hr hN hb2 hb2i
  go_enter Tryd.func20, Tryd.ntmps20
  go_wp2_with (go_at_call 44; refine Calls.mono HN.out ?_; rintro e w' ⟨rfl, hw⟩; have hw' := hw.symm; subst hw')
  go_region_held (fun w' => w'.cell? ⟨p, 0, none⟩ = some (.int .i64 R) ∧ w'.cell? ⟨p, 2, none⟩ = some (.slice ao N cap))
    (first | exact ⟨c0, c2⟩ | exact ⟨c01, c21⟩)
    (first | (go_at_call 45; refine (HZ.out w.drew (Below.refl _ _).drew).mono ?_; rintro e w1 ⟨rfl, hb1⟩; have hb1' : Below w.heap.size w w1 := (Below.refl _ w).drew.trans hb1; have c01 := below_cell hb1' c0; have c21 := below_cell hb1' c2; have HB1 : Hid (Below w.heap.size w w1) := hb1'; clear hb1 hb1'))
  clear hW
  cases B with
  | true =>
    go_wp2_with (first
      | (go_at_call 46; refine (HH.out w1 HB1.out).mono ?_; rintro e w2 ⟨rfl, hb2'⟩; have hb3 := HB1.out.trans (hb2'.mono HB1.out.size); have c22 := below_cell hb2' c21)
      | (go_at_call 34; refine (HCl.out w2 hb3).mono ?_; rintro e w4 ⟨ao', L', cap', rfl, HB4, HD4⟩)
      | (go_at_call 47; refine HD4.out.mono ?_; rintro e w5 ⟨rfl, HX⟩))
    go_ret
    exact ⟨rfl, HX.out.1, HX.out.2⟩
  | false =>
    have hN64 : ¬ (64 : Int) ≤ (N : Int) := by
      rcases HL.out with h | h
      · simp at h
      · omega
    go_wp2_with (first
      | (go_at_call 46; refine (HH.out w1 HB1.out).mono ?_; rintro e w2 ⟨rfl, hb2'⟩; have hb3 := HB1.out.trans (hb2'.mono HB1.out.size); have c22 := below_cell hb2' c21)
      | (go_at_call 34; refine (HCl.out w2 hb3).mono ?_; rintro e w4 ⟨ao', L', cap', rfl, HB4, HD4⟩)
      | (go_at_call 47; refine HD4.out.mono ?_; rintro e w5 ⟨rfl, HX⟩))
    go_ret
    exact ⟨rfl, HX.out.1, HX.out.2⟩

set_option maxHeartbeats 1000000 in
set_option maxRecDepth 20000 in
theorem remove_none (p : Nat) (s : St) (F : Nat → Prop) (n : ByteArray) (w : World) (h : Dk w p s F) (hl : look n s.now = none) (hm : s.mass ≤ 1000000000) :
    Calls Tryd.prog 50 #[.pointer (some ⟨p, 0, none⟩), .string n] w fun e w' => e = .returned (.int .i64 14) ∧ Below w.heap.size w w' := by
  obtain ⟨ao, N, cap, c2, hN, hhas, hsize⟩ := h.has hm
  have HH : Hid (_) := hhas n
  rw [hl] at HH
  simp only [Option.isSome_none] at HH
  clear h hhas hsize hN hl
  go_enter Tryd.func50, Tryd.ntmps50
  go_wp2_with (go_at_call 46; refine (HH.out w (Below.refl _ _)).mono ?_; rintro e w2 ⟨rfl, hb2⟩)
  go_ret
  exact ⟨rfl, hb2⟩

/-- A change that takes no bytes along. -/
theorem ddo_bare (p : Nat) (s : St) (F : Nat → Prop) (y : Cv) (c : Ch) (w w1 : World) (h : Dk w p s F) (hb : Below w.heap.size w w1) (hy : ∀ w', ChV w' y.val c (fun _ => True)) (hok : Okc s.now c) (hm : s.mass + c.mass + 1 ≤ 1000000000) :
    Calls Tryd.prog 47 #[.pointer (some ⟨p, 0, none⟩), y.val] w1 fun e w' => e = .returned (.tuple #[]) ∧ Hid (Dk w' p (s.push c) (ext F w w') ∧ Fr F w w') := by
  refine (ddo_any p s F (fun _ => False) y c w1 (h.below hb) ((hy w1).mono (fun _ _ => trivial)) (fun _ h => h.elim) hok hm).mono ?_
  rintro e w2 ⟨rfl, hX, hf⟩
  exact ⟨rfl, hX.from hf hb h.lt (fun _ h => h.elim)⟩

set_option maxHeartbeats 1000000 in
set_option maxRecDepth 20000 in
theorem remove_some (p : Nat) (s : St) (F : Nat → Prop) (n : ByteArray) (w : World) (h : Dk w p s F) (hl : (look n s.now).isSome = true) (hm : s.mass + 1 ≤ 1000000000) :
    Calls Tryd.prog 50 #[.pointer (some ⟨p, 0, none⟩), .string n] w fun e w' => e = .returned (.int .i64 0) ∧ Dk w' p (s.push (.rem n)) (ext F w w') ∧ Fr F w w' := by
  obtain ⟨ao, N, cap, c2, hN, hhas, hsize⟩ := h.has (by omega)
  have HH : Hid (_) := hhas n
  rw [hl] at HH
  have HD : Hid (∀ w1, Below w.heap.size w w1 → Calls Tryd.prog 47 #[.pointer (some ⟨p, 0, none⟩), .agg #[.int .i64 3, .string n, .slice none 0 0, .int .i64 0, .string ⟨#[]⟩]] w1 fun e w' => e = .returned (.tuple #[]) ∧ Hid (Dk w' p (s.push (.rem n)) (ext F w w') ∧ Fr F w w')) :=
    fun w1 hb => ddo_bare p s F ⟨3, n, .slice none 0 0, 0, ⟨#[]⟩⟩ (.rem n) w w1 h hb (fun w' => ⟨3, n, none, 0, 0, 0, ⟨#[]⟩, rfl, rfl, rfl⟩) trivial (by simp only [Ch.mass]; omega)
  clear h hhas hsize hN hl
  go_enter Tryd.func50, Tryd.ntmps50
  go_wp2_with (first
    | (go_at_call 46; refine (HH.out w (Below.refl _ _)).mono ?_; rintro e w2 ⟨rfl, hb2⟩)
    | (go_at_call 47; refine (HD.out w2 hb2).mono ?_; rintro e w3 ⟨rfl, HX⟩))
  go_ret
  exact ⟨rfl, HX.out.1, HX.out.2⟩

set_option maxHeartbeats 1000000 in
set_option maxRecDepth 20000 in
theorem move_some (p : Nat) (s : St) (F : Nat → Prop) (n t : ByteArray) (w : World) (h : Dk w p s F) (hl : (look n s.now).isSome = true) (ht : okN t = true) (hm : s.mass + 1 ≤ 1000000000) :
    Calls Tryd.prog 61 #[.pointer (some ⟨p, 0, none⟩), .string n, .string t] w fun e w' => e = .returned (.int .i64 0) ∧ Dk w' p (s.push (.mov n t)) (ext F w w') ∧ Fr F w w' := by
  obtain ⟨ao, N, cap, c2, hN, hhas, hsize⟩ := h.has (by omega)
  have HH : Hid (_) := hhas n
  rw [hl] at HH
  have HN : Hid (∀ w1, Calls Tryd.prog 44 #[.string t] w1 fun e w' => e = .returned (.bool true) ∧ w' = w1) := fun w1 => by
    have := name_any t w1
    rw [ht] at this
    exact this
  have HD : Hid (∀ w1, Below w.heap.size w w1 → Calls Tryd.prog 47 #[.pointer (some ⟨p, 0, none⟩), .agg #[.int .i64 4, .string n, .slice none 0 0, .int .i64 0, .string t]] w1 fun e w' => e = .returned (.tuple #[]) ∧ Hid (Dk w' p (s.push (.mov n t)) (ext F w w') ∧ Fr F w w')) :=
    fun w1 hb => ddo_bare p s F ⟨4, n, .slice none 0 0, 0, t⟩ (.mov n t) w w1 h hb (fun w' => ⟨4, n, none, 0, 0, 0, t, rfl, rfl, rfl, rfl⟩) trivial (by simp only [Ch.mass]; omega)
  clear h hhas hsize hN hl ht
  go_enter Tryd.func61, Tryd.ntmps61
  go_wp2_with (first
    | (go_at_call 46; refine (HH.out w (Below.refl _ _)).mono ?_; rintro e w2 ⟨rfl, hb2⟩)
    | (go_at_call 44; refine (HN.out w2).mono ?_; rintro e w' ⟨rfl, hw⟩; have hw' := hw.symm; subst hw')
    | (go_at_call 47; refine (HD.out w2 hb2).mono ?_; rintro e w3 ⟨rfl, HX⟩))
  go_ret
  exact ⟨rfl, HX.out.1, HX.out.2⟩
end Go.Proofs.YtnbdkojdddplkaaDoor.Dk

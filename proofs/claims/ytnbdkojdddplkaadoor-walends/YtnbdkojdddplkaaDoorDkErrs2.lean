/- The walks of a disk's Cut, and of a Cut and a Move that are refused. -/
import Derived.Test.YtnbdkojdddplkaaDoorDkCallsB
namespace Go.Proofs.YtnbdkojdddplkaaDoor.Dk
open Go.RowKit

set_option maxHeartbeats 1000000 in
theorem cut_none (p : Nat) (s : St) (F : Nat → Prop) (n : ByteArray) (k : Int) (w : World) (h : Dk w p s F) (hl : look n s.now = none) (hm : s.mass ≤ 1000000000) :
    Calls Tryd.prog 36 #[.pointer (some ⟨p, 0, none⟩), .string n, .int .i64 k] w fun e w' => e = .returned (.int .i64 14) ∧ Below w.heap.size w w' := by
  obtain ⟨hgood, hFlt, vl, vn, vw, zl, zn, ws, Fa, Fn, Fw, hC, g1, g2, g3, g4⟩ := h
  have hnm := St.now_mass hgood
  have hum := used_mass (zn.map Ent.fl)
  rw [List.length_map] at hum
  rw [← g2] at hl hnm
  rcases splitE n zn (by rw [g2]; exact St.now_srt hgood) with ⟨ul, z, ur, hh⟩ | ⟨ul, ur, hh⟩
  · rw [hh.hit.lookE] at hl
    simp at hl
  · have HF : Hid (_) := find_miss vn zn Fn n ul ur w hC.fn hh (by omega)
    have c2 := hC.cells.2.2.1
    obtain ⟨ao, N, cap, rfl⟩ := own_slice hC.fn.row
    clear hC hgood g1 g2 g3 g4 hh hl hum hnm
    go_enter Tryd.func36, Tryd.ntmps36
    go_wp2_with (go_at_call 58; refine Calls.mono HF.out ?_; rintro e w1 ⟨rfl, hb1⟩)
    go_ret
    exact ⟨rfl, hb1⟩

/-- What Cut meets where the file is there. -/
theorem Dk.there {w : World} {p : Nat} {s : St} {F : Nat → Prop} {n : ByteArray} {f : Fl} (h : Dk w p s F) (hl : look n s.now = some f) (hm : s.mass ≤ 1000000000) :
    ∃ (g N cap i : Nat) (aod : Option Addr) (capd : Nat), w.cell? ⟨p, 2, none⟩ = some (.slice (some ⟨g, 0, none⟩) N cap) ∧ (i : Int) < (N : Int) ∧ w.cell? ⟨g, i * 2 + 1, none⟩ = some (.slice aod f.bs.length capd) ∧ f.bs.length ≤ 1000000000 ∧
      Calls Tryd.prog 58 #[.slice (some ⟨g, 0, none⟩) N cap, .string n] w fun e w' => e = .returned (.tuple #[.int .i64 i, .bool true]) ∧ Below w.heap.size w w' := by
  obtain ⟨hgood, hFlt, vl, vn, vw, zl, zn, ws, Fa, Fn, Fw, hC, g1, g2, g3, g4⟩ := h
  have hnm := St.now_mass hgood
  have hum := used_mass (zn.map Ent.fl)
  rw [List.length_map] at hum
  rw [← g2] at hl hnm
  rcases splitE n zn (by rw [g2]; exact St.now_srt hgood) with ⟨ul, z, ur, hh⟩ | ⟨ul, ur, hh⟩
  · have hz := hh.hit.lookE
    rw [hl] at hz
    simp only [Option.some.injEq] at hz
    have hzb : z.bs = f.bs := by rw [hz]; rfl
    have HF := find_hit vn zn Fn n ul z ur w hC.fn hh (by omega)
    have c2 := hC.cells.2.2.1
    have hzm : z ∈ zn := by rw [hh.1]; simp
    have hdat := hC.fn.data z hzm
    have hzl : z.bs.length ≤ 1000000000 := by
      have : z.bs.length ≤ mass (zn.map Ent.fl) := by
        rw [hh.1, List.map_append, mass_append, List.map_cons, mass_cons]
        simp only [Ent.fl]
        omega
      omega
    have hmid : Fol w vn (ul ++ z :: ur) Fn := hh.1 ▸ hC.fn
    obtain ⟨g, N, cap, rfl, k1, k2, k3, k4, k5, k6⟩ := shape_mid hmid
    have hsl := Sl.of_own hdat
    obtain ⟨aod, capd, hd, _, _⟩ := hsl.shape
    rw [hd, hzb] at k6
    exact ⟨g, N, cap, ul.length, aod, capd, c2, by omega, k6, by rw [← hzb]; exact hzl, HF⟩
  · rw [hh.miss.lookE] at hl
    simp at hl

set_option maxHeartbeats 1000000 in
set_option maxRecDepth 20000 in
theorem cut_range (p : Nat) (s : St) (F : Nat → Prop) (n : ByteArray) (k : Int) (f : Fl) (w : World) (h : Dk w p s F) (hl : look n s.now = some f) (hk : k < 0 ∨ (f.bs.length : Int) < k) (hm : s.mass ≤ 1000000000) :
    Calls Tryd.prog 36 #[.pointer (some ⟨p, 0, none⟩), .string n, .int .i64 k] w fun e w' => e = .returned (.int .i64 1) ∧ Below w.heap.size w w' := by
  obtain ⟨g, N, cap, i, aod, capd, c2, hi, k6, hfl, HF'⟩ := h.there hl hm
  have HF : Hid (_) := HF'
  clear h hl HF'
  have hi0 : (0 : Int) ≤ (i : Int) := by omega
  generalize f.bs.length = L at *
  by_cases hk0 : k < 0
  · clear hk
    go_enter Tryd.func36, Tryd.ntmps36
    go_wp2_with (go_at_call 58; refine Calls.mono HF.out ?_; rintro e w1 ⟨rfl, hb1⟩; have c21 := below_cell hb1 c2; have k61 := below_cell hb1 k6)
    go_ret
    exact ⟨rfl, hb1⟩
  · have hkL : (L : Int) < k := by omega
    clear hk
    go_enter Tryd.func36, Tryd.ntmps36
    go_wp2_with (go_at_call 58; refine Calls.mono HF.out ?_; rintro e w1 ⟨rfl, hb1⟩; have c21 := below_cell hb1 c2; have k61 := below_cell hb1 k6)
    go_ret
    exact ⟨rfl, hb1⟩

set_option maxHeartbeats 1000000 in
set_option maxRecDepth 20000 in
theorem cut_ok (p : Nat) (s : St) (F : Nat → Prop) (n : ByteArray) (k : Nat) (f : Fl) (w : World) (h : Dk w p s F) (hl : look n s.now = some f) (hk : k ≤ f.bs.length) (hm : s.mass + 1 ≤ 1000000000) :
    Calls Tryd.prog 36 #[.pointer (some ⟨p, 0, none⟩), .string n, .int .i64 (k : Int)] w fun e w' => e = .returned (.int .i64 0) ∧ Dk w' p (s.push (.cut n k)) (ext F w w') ∧ Fr F w w' := by
  obtain ⟨g, N, cap, i, aod, capd, c2, hi, k6, hfl, HF'⟩ := h.there hl (by omega)
  have HF : Hid (_) := HF'
  have HD : Hid (∀ w1, Below w.heap.size w w1 → Calls Tryd.prog 47 #[.pointer (some ⟨p, 0, none⟩), .agg #[.int .i64 2, .string n, .slice none 0 0, .int .i64 (k : Int), .string ⟨#[]⟩]] w1 fun e w' => e = .returned (.tuple #[]) ∧ Hid (Dk w' p (s.push (.cut n k)) (ext F w w') ∧ Fr F w w')) :=
    fun w1 hb => ddo_bare p s F ⟨2, n, .slice none 0 0, (k : Int), ⟨#[]⟩⟩ (.cut n k) w w1 h hb (fun w' => ⟨2, n, none, 0, 0, (k : Int), ⟨#[]⟩, rfl, rfl, rfl, rfl⟩) (fun f' hf' => by rw [hl] at hf'; cases hf'; exact hk) (by simp only [Ch.mass]; omega)
  clear h hl HF'
  have hi0 : (0 : Int) ≤ (i : Int) := by omega
  have hk0 : ¬ (k : Int) < 0 := by omega
  have hkL : ¬ (f.bs.length : Int) < (k : Int) := by omega
  generalize f.bs.length = L at *
  clear hk
  go_enter Tryd.func36, Tryd.ntmps36
  go_wp2_with (first
    | (go_at_call 58; refine Calls.mono HF.out ?_; rintro e w1 ⟨rfl, hb1⟩; have c21 := below_cell hb1 c2; have k61 := below_cell hb1 k6)
    | (go_at_call 47; refine (HD.out w1 hb1).mono ?_; rintro e w3 ⟨rfl, HX⟩))
  go_ret
  exact ⟨rfl, HX.out.1, HX.out.2⟩

set_option maxHeartbeats 1000000 in
theorem move_none (p : Nat) (s : St) (F : Nat → Prop) (n t : ByteArray) (w : World) (h : Dk w p s F) (hl : look n s.now = none) (hm : s.mass ≤ 1000000000) :
    Calls Tryd.prog 61 #[.pointer (some ⟨p, 0, none⟩), .string n, .string t] w fun e w' => e = .returned (.int .i64 14) ∧ Below w.heap.size w w' := by
  obtain ⟨ao, N, cap, c2, hN, hhas, hsize⟩ := h.has hm
  have HH : Hid (_) := hhas n
  rw [hl] at HH
  simp only [Option.isSome_none] at HH
  clear h hhas hsize hN hl
  go_enter Tryd.func61, Tryd.ntmps61
  go_wp2_with (go_at_call 46; refine (HH.out w (Below.refl _ _)).mono ?_; rintro e w2 ⟨rfl, hb2⟩)
  go_ret
  exact ⟨rfl, hb2⟩

set_option maxHeartbeats 1000000 in
theorem move_form (p : Nat) (s : St) (F : Nat → Prop) (n t : ByteArray) (w : World) (h : Dk w p s F) (hl : (look n s.now).isSome = true) (ht : okN t = false) (hm : s.mass ≤ 1000000000) :
    Calls Tryd.prog 61 #[.pointer (some ⟨p, 0, none⟩), .string n, .string t] w fun e w' => e = .returned (.int .i64 3) ∧ Below w.heap.size w w' := by
  obtain ⟨ao, N, cap, c2, hN, hhas, hsize⟩ := h.has hm
  have HH : Hid (_) := hhas n
  rw [hl] at HH
  have HN : Hid (∀ w1, Calls Tryd.prog 44 #[.string t] w1 fun e w' => e = .returned (.bool false) ∧ w' = w1) := fun w1 => by
    have := name_any t w1
    rw [ht] at this
    exact this
  clear h hhas hsize hN hl ht
  go_enter Tryd.func61, Tryd.ntmps61
  go_wp2_with (first
    | (go_at_call 46; refine (HH.out w (Below.refl _ _)).mono ?_; rintro e w2 ⟨rfl, hb2⟩)
    | (go_at_call 44; refine (HN.out w2).mono ?_; rintro e w' ⟨rfl, hw⟩; have hw' := hw.symm; subst hw'))
  go_ret
  exact ⟨rfl, hb2⟩
end Go.Proofs.YtnbdkojdddplkaaDoor.Dk

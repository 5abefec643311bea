/- The walks of a disk's New, Used, Waiting, Read, Names, Room. -/
import Derived.Test.YtnbdkojdddplkaaDoorDkDisk
import Derived.Test.YtnbdkojdddplkaaDoorDkNames
namespace Go.Proofs.YtnbdkojdddplkaaDoor.Dk
open Go.RowKit

theorem Dk.lt {w : World} {p : Nat} {s : St} {F : Nat → Prop} (h : Dk w p s F) : ∀ k, F k → k < w.heap.size := h.2.1
theorem Dk.good {w : World} {p : Nat} {s : St} {F : Nat → Prop} (h : Dk w p s F) : s.good := h.1
theorem roomN_bd (n : Int) : 0 ≤ roomN n ∧ roomN n ≤ 4194304 := by unfold roomN; omega

set_option maxHeartbeats 400000 in
theorem new_any (n : Int) (w : World) :
    Calls Tryd.prog 10 #[.int .i64 n] w fun e w' => e = .returned (.pointer (some ⟨w.heap.size, 0, none⟩)) ∧ Dk w' w.heap.size ⟨roomN n, [], []⟩ (ext (fun _ => False) w w') ∧ Below w.heap.size w w' := by
  have HR : Hid (_) := room_any n w
  go_enter Tryd.func10, Tryd.ntmps10
  go_wp2_with (go_at_call 27; refine Calls.mono HR.out ?_; rintro e w' ⟨rfl, hw⟩; have hw' := hw.symm; subst hw')
  go_ret
  have hb : Below w.heap.size w (w.alloc (.cells #[.int .i64 (roomN n), .slice none 0 0, .slice none 0 0, .slice none 0 0] 61)) := (Below.refl _ _).alloc (Nat.le_refl _) _
  have hno : ∀ k : Nat, (fun _ : Nat => False) k → k < (w.alloc (.cells #[.int .i64 (roomN n), .slice none 0 0, .slice none 0 0, .slice none 0 0] 61)).heap.size := fun _ h => h.elim
  refine ⟨rfl, ⟨⟨List.Pairwise.nil, trivial, (roomN_bd n).1, (roomN_bd n).2⟩, ext_lt (fun _ h => h.elim) hb.size, .slice none 0 0, .slice none 0 0, .slice none 0 0, [], [], [], fun _ => False, fun _ => False, fun _ => False, ⟨heap_alloc_new _ _, Fol.nil _ _ hno, Fol.nil _ _ hno, Wt.nil _ _ hno, fun _ h => h.elim, fun _ h => h.elim, fun _ h => h.elim, id, id, id⟩, rfl, rfl, rfl, fun k hk => ?_⟩, hb⟩
  rcases hk with hk | hk | hk | hk
  · exact hk.elim
  · exact hk.elim
  · exact hk.elim
  · exact Or.inr ⟨by omega, by simp; omega⟩

set_option maxHeartbeats 1000000 in
set_option maxRecDepth 20000 in
theorem read_hit (p : Nat) (s : St) (F : Nat → Prop) (n : ByteArray) (f : Fl) (w : World) (h : Dk w p s F) (hl : look n s.now = some f) (hm : s.mass ≤ 1000000000) :
    Calls Tryd.prog 51 #[.pointer (some ⟨p, 0, none⟩), .string n] w fun e w' => ∃ v', e = .returned (.tuple #[v', .bool true]) ∧ w'.ownsRow w.heap.size 5 1 v' f.bs.length (cells8 f.bs) ∧ Below w.heap.size w w' := by
  obtain ⟨hgood, hFlt, vl, vn, vw, zl, zn, ws, Fa, Fn, Fw, hC, g1, g2, g3, g4⟩ := h
  have hnm := St.now_mass hgood
  have hum := used_mass (zn.map Ent.fl)
  rw [List.length_map] at hum
  rw [← g2] at hl hnm
  rcases splitE n zn (by rw [g2]; exact St.now_srt hgood) with ⟨ul, z, ur, hh⟩ | ⟨ul, ur, hh⟩
  · have hz := hh.hit.lookE
    rw [hl] at hz
    simp only [Option.some.injEq] at hz
    have hzb : z.bs = f.bs := by rw [hz]; rfl
    have HF : Hid (_) := find_hit vn zn Fn n ul z ur w hC.fn hh (by omega)
    have c2 := hC.cells.2.2.1
    have hzm : z ∈ zn := by rw [hh.1]; simp
    have hdat := hC.fn.data z hzm
    have hzl : z.bs.length ≤ 1000000000 := by
      have : z.bs.length ≤ mass (zn.map Ent.fl) := by
        rw [hh.1, List.map_append, mass_append, List.map_cons, mass_cons]
        simp only [Ent.fl]
        omega
      omega
    have hmid : Fol w vn (ul ++ z :: ur) Fn := hh.1 ▸ hC.fn
    obtain ⟨g, N, cap, rfl, k1, k2, k3, k4, k5, k6⟩ := shape_mid hmid
    obtain ⟨aod, Ld, capd, hd⟩ := own_slice hdat
    have HCl : Hid (∀ w1, Below w.heap.size w w1 → Calls Tryd.prog 34 #[.slice aod Ld capd] w1 fun e w' => ∃ ao' L' cap', e = .returned (.slice ao' L' cap') ∧ Hid (w'.ownsRow w.heap.size 5 1 (.slice ao' L' cap') f.bs.length (cells8 f.bs) ∧ Below w.heap.size w w')) := by
      intro w1 hb
      have hsl := (Sl.of_own hdat).below hb
      rw [hd, hzb] at hsl
      refine (clone_any _ f.bs w1 hsl (by rw [← hzb]; omega)).mono ?_
      rintro e w' ⟨v', rfl, hO, hb'⟩
      obtain ⟨ao', L', cap', rfl⟩ := own_slice hO
      exact ⟨ao', L', cap', rfl, own_base hO (fun k hk => by have := (hO.lt k hk).1; have := hb.size; omega), hb.trans (hb'.mono hb.size)⟩
    rw [hd] at k6
    clear hC hgood g1 g2 g3 g4 hdat hd hmid hh hl hz hum hnm
    go_enter Tryd.func51, Tryd.ntmps51
    go_wp2_with (first
      | (go_at_call 58; refine Calls.mono HF.out ?_; rintro e w1 ⟨rfl, hb1⟩; have c21 := below_cell hb1 c2; have k61 := below_cell hb1 k6)
      | (go_at_call 34; refine (HCl.out w1 hb1).mono ?_; rintro e w2 ⟨ao', L', cap', rfl, HX⟩))
    go_ret2
    exact ⟨_, rfl, HX.out⟩
  · rw [hh.miss.lookE] at hl
    simp at hl

set_option maxHeartbeats 400000 in
theorem read_miss (p : Nat) (s : St) (F : Nat → Prop) (n : ByteArray) (w : World) (h : Dk w p s F) (hl : look n s.now = none) (hm : s.mass ≤ 1000000000) :
    Calls Tryd.prog 51 #[.pointer (some ⟨p, 0, none⟩), .string n] w fun e w' => e = .returned (.tuple #[.slice none 0 0, .bool false]) ∧ Below w.heap.size w w' := by
  obtain ⟨hgood, hFlt, vl, vn, vw, zl, zn, ws, Fa, Fn, Fw, hC, g1, g2, g3, g4⟩ := h
  have hnm := St.now_mass hgood
  have hum := used_mass (zn.map Ent.fl)
  rw [List.length_map] at hum
  rw [← g2] at hl hnm
  rcases splitE n zn (by rw [g2]; exact St.now_srt hgood) with ⟨ul, z, ur, hh⟩ | ⟨ul, ur, hh⟩
  · rw [hh.hit.lookE] at hl
    simp at hl
  · have HF : Hid (_) := find_miss vn zn Fn n ul ur w hC.fn hh (by omega)
    have c2 := hC.cells.2.2.1
    obtain ⟨ao, N, cap, rfl⟩ := own_slice hC.fn.row
    clear hC hgood g1 g2 g3 g4 hh hl hum hnm
    go_enter Tryd.func51, Tryd.ntmps51
    go_wp2_with (go_at_call 58; refine Calls.mono HF.out ?_; rintro e w1 ⟨rfl, hb1⟩)
    go_ret2
    exact ⟨rfl, hb1⟩

end Go.Proofs.YtnbdkojdddplkaaDoor.Dk

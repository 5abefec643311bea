/- The walk of a disk's Names. -/
import Derived.Test.YtnbdkojdddplkaaDoorDkCallsA
namespace Go.Proofs.YtnbdkojdddplkaaDoor.Dk
open Go.RowKit

theorem Tryd.info9 : (Tryd.prog.info? 9).map (fun i => (i.zero, i.size, i.bytes)) = some (some (.string ⟨#[]⟩), 1, 16) := by kernel_rfl

set_option maxHeartbeats 2000000 in
set_option maxRecDepth 20000 in
theorem names_any (p : Nat) (s : St) (F : Nat → Prop) (w : World) (h : Dk w p s F) (hm : s.mass ≤ 1000000000) :
    Calls Tryd.prog 48 #[.pointer (some ⟨p, 0, none⟩)] w fun e w' => ∃ v', e = .returned v' ∧ w'.ownsRow w.heap.size 9 1 v' s.now.length (s.now.map fun f => .string f.name) ∧ Below w.heap.size w w' := by
  obtain ⟨I, hI, hz0, hz1, hz2⟩ := info_parts Tryd.info9
  obtain ⟨hgood, hFlt, vl, vn, vw, zl, zn, ws, Fa, Fn, Fw, hC, g1, g2, g3, g4⟩ := h
  have hnm := St.now_mass hgood
  have hum := used_mass s.now
  have hzn : zn.length = s.now.length := by rw [← g2, List.length_map]
  have hzl : zn.length ≤ 1000000000 := by omega
  obtain ⟨w0, hmk, hO0, hg0⟩ := run_make_full (P := Tryd.prog) w w.heap.size 46 9 I _ 1 Tryd.underlying46 hI hz0 hz1 .i64 .i64 zn.length (by rw [hz2]; omega) (by unfold maxLen; omega) (Nat.le_refl _)
  have hb0 : Below w.heap.size w w0 := (Below.refl _ _).grown hg0 (Nat.le_refl _) (by simp)
  have hlt0 : w.heap.size < w0.heap.size := (hO0.lt _ rfl).2
  have hrep : (madeCells (Value.string ⟨#[]⟩).cells (zn.length * 1)).toList = List.replicate zn.length (Value.string ⟨#[]⟩) := by
    rw [Nat.mul_one]
    exact toList_madeCells_one _ _
  rw [hrep] at hO0
  have c2 := hC.cells.2.2.1
  have HF : Hid (_) := hC.fn
  have HO0 : Hid (_) := hO0
  have HB0 : Hid (_) := hb0
  obtain ⟨ao, N, cap, rfl⟩ := own_slice hC.fn.row
  have hN : N = zn.length := by
    rcases hC.fn.shape with ⟨e, e2⟩ | ⟨_, _, e, _⟩ <;> (simp only [Value.slice.injEq] at e; omega)
  subst hN
  have HE : Hid (s.now.map (fun f => Value.string f.name) = zn.map fun z => .string z.name) := by
    show _ = _
    rw [← g2, List.map_map]
    rfl
  have HZ : Hid (zn.length = s.now.length) := hzn
  have c20 := below_cell hb0 c2
  clear hC hgood g1 g2 g3 g4 hum hnm hzn hO0 hg0 hb0 hI hz0 hz1 hz2 hrep hm
  go_enter Tryd.func48, Tryd.ntmps48
  go_wp2
  go_loopw [19] (fun vi wr => ∃ k : Nat, k ≤ zn.length ∧ vi = .int .i64 k ∧ Hid (wr.ownsRow w.heap.size 9 1 (.slice (some ⟨w.heap.size, 0, none⟩) zn.length zn.length) zn.length (((zn.take k).map fun z => .string z.name) ++ List.replicate (zn.length - k) (Value.string ⟨#[]⟩)) ∧ Below w.heap.size w wr ∧ w.heap.size < wr.heap.size)) (fun vi _ => zn.length - (intOf vi).toNat)
  case atStart => exact ⟨0, Nat.zero_le _, rfl, by have h := HO0.out; simp only [List.take_zero, List.map_nil, List.nil_append, Nat.sub_zero]; exact h, HB0.out, hlt0⟩
  case round =>
    obtain ⟨k, hk, rfl, HK⟩ := hrel
    by_cases hlt : k < zn.length
    · have hlt' : (k : Int) < (zn.length : Int) := by omega
      obtain ⟨g, rfl⟩ : ∃ g, ao = some ⟨g, 0, none⟩ := by
        rcases HF.out.shape with ⟨_, e⟩ | ⟨g, cap', e, _⟩
        · omega
        · simp at e; exact ⟨g, e.1⟩
      obtain ⟨c0, c1⟩ := (HF.out.below HK.out.2.1).cell k hlt
      obtain ⟨aod, Ld, capd, hd⟩ := own_slice ((HF.out.below HK.out.2.1).data zn[k] (List.getElem_mem hlt))
      rw [hd] at c1
      have hst : ∀ ob : Obj, Hid (((wr.alloc ob).setCell ⟨w.heap.size, k, none⟩ (.string zn[k].name)).ownsRow w.heap.size 9 1 (.slice (some ⟨w.heap.size, 0, none⟩) zn.length zn.length) zn.length (((zn.take (k + 1)).map fun z => .string z.name) ++ List.replicate (zn.length - (k + 1)) (Value.string ⟨#[]⟩)) ∧ Below w.heap.size w ((wr.alloc ob).setCell ⟨w.heap.size, k, none⟩ (.string zn[k].name)) ∧ w.heap.size < ((wr.alloc ob).setCell ⟨w.heap.size, k, none⟩ (.string zn[k].name)).heap.size) := fun ob => by
        obtain ⟨x1, x2, x3⟩ := HK.out
        have h1 := ((x1.alloc ob).stored k (.string zn[k].name)).1
        have e : ((((zn.take k).map fun z => Value.string z.name) ++ List.replicate (zn.length - k) (Value.string ⟨#[]⟩)).set k (.string zn[k].name)) = ((zn.take (k + 1)).map fun z => .string z.name) ++ List.replicate (zn.length - (k + 1)) (Value.string ⟨#[]⟩) := by
          have hl : ((zn.take k).map fun z => Value.string z.name).length = k := by simp; omega
          rw [List.set_append_right _ _ (by omega), hl, Nat.sub_self, show zn.length - k = (zn.length - (k + 1)) + 1 by omega, List.replicate_succ, List.set_cons_zero, take_succ_snoc zn k zn[k] (List.getElem?_eq_getElem hlt), List.map_append, List.append_assoc]
          rfl
        rw [e] at h1
        exact ⟨h1, ((x2.alloc x2.size ob).setCell (Nat.le_refl _) _), by rw [setCell_size]; simp; omega⟩
      have HST : Hid (_) := hst
      have hcw : ∀ ob, ∃ u, (wr.alloc ob).cell? ⟨w.heap.size, k, none⟩ = some u := fun ob => by
        have h1 := (HK.out.1.alloc ob).cellAt k (by omega)
        rw [h1]
        exact ⟨_, List.getElem?_eq_getElem (by simp; omega)⟩
      obtain ⟨u, hu⟩ := hcw (.cells #[.string zn[k].name, .slice aod Ld capd] 99)
      have hfz := (HK.out.1.alloc (.cells #[.string zn[k].name, .slice aod Ld capd] 99)).frozenAt k
      have hne : w.heap.size ≠ wr.heap.size := by have := HK.out.2.2; omega
      clear hst hcw hd
      go_wp2
      go_roundw
      case rel => exact ⟨k + 1, by omega, by go_num, HST.out _⟩
      case measure => simp [intOf]; omega
    · have e : k = zn.length := by omega
      subst e
      go_wp2
      go_ret
      obtain ⟨x1, x2, x3⟩ := HK.out
      refine ⟨_, rfl, ?_, x2⟩
      rw [HE.out, ← HZ.out]
      simp only [List.take_length, Nat.sub_self, List.replicate_zero, List.append_nil] at x1
      exact x1
end Go.Proofs.YtnbdkojdddplkaaDoor.Dk

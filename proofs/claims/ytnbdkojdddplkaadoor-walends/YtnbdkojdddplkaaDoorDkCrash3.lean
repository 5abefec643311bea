/- The walk of a disk's Crash at a number below 0. -/
import Derived.Test.YtnbdkojdddplkaaDoorDkCrash2
namespace Go.Proofs.YtnbdkojdddplkaaDoor.Dk
open Go.RowKit

set_option maxHeartbeats 2000000 in
set_option maxRecDepth 20000 in
theorem crash_neg (p : Nat) (s : St) (F : Nat → Prop) (n t : Int) (w : World) (h : Dk w p s F) (hm : s.mass ≤ 1000000000) (hn : n < 0) :
    Calls Tryd.prog 18 #[.pointer (some ⟨p, 0, none⟩), .int .i64 n, .int .i64 t] w fun e w' => ∃ q, e = .returned (.pointer (some ⟨q, 0, none⟩)) ∧ w.heap.size ≤ q ∧ Dk w' q ⟨s.room, leftOf s n t, []⟩ (ext (fun _ => False) w w') ∧ Below w.heap.size w w' := by
  obtain ⟨hgood, hFlt, vl, vn, vw, zl, zn, ws, Fa, Fn, Fw, hC, g1, g2, g3, g4⟩ := h
  have hcs := hC.cells
  have c0 := hcs.1
  have c1 := hcs.2.1
  have c3 := hcs.2.2.2.1
  have hWT := hC.wt
  have hwl : ws.length = s.wait.length := by rw [← g3, List.length_map]
  have hwb : ws.length ≤ 1000000000 := by unfold St.mass at hm; omega
  obtain ⟨aow, capw, hvw, hcw⟩ : ∃ ao cap, vw = .slice ao ws.length cap ∧ ws.length ≤ cap := by
    rcases own_shape hC.wt.row with ⟨rfl, e⟩ | ⟨g, cap, rfl, hc, _⟩
    · exact ⟨none, 0, by rw [e], by omega⟩
    · exact ⟨_, _, rfl, hc⟩
  subst hvw
  obtain ⟨aol, Nl, capl, rfl⟩ := own_slice hC.fl.row
  have hml : s.mass ≤ 1000000000 → mass (zl.map Ent.fl) ≤ 1000000000 := fun h => by rw [g1]; unfold St.mass at h; omega
  have hM0 : 0 ≤ ws.length := Nat.zero_le _
  have hmx : ∀ w' : World, (Builtin.max_ #[3, 3] 3 #[.int .i64 n, .int .i64 0]).run Tryd.prog w' = .ok (.int .i64 0) w' := fun w' => by
    rw [run_max_int2, if_pos (by omega)]
  have hmn : ∀ w' : World, (Builtin.min_ #[3, 3] 3 #[.int .i64 0, .int .i64 (ws.length : Int)]).run Tryd.prog w' = .ok (.int .i64 0) w' := fun w' => by
    rw [run_min_int2, if_neg (by omega)]
  have hsl := fun w' => slice_front61 aow ws.length capw 0 hM0 hcw w'
  have HCl : Hid (Calls Tryd.prog 41 #[.slice aol Nl capl] w fun e w1 => ∃ ao1 N1 cap1, e = .returned (.slice ao1 N1 cap1) ∧ w1.cell? ⟨p, 3, none⟩ = some (.slice aow ws.length capw) ∧ Hid (Lf w (w1.alloc (.cells #[.slice ao1 N1 cap1] 58)) w1.heap.size (run s.last (s.wait.take 0))) ∧ Hid (Below w.heap.size w w1)) := by
    refine (fclone_any _ zl Fa w hC.fl (hml hm)).mono ?_
    rintro e w1 ⟨v', zs', rfl, k1, k2, k3⟩
    obtain ⟨ao1, N1, cap1, rfl⟩ := own_slice k1.row
    have hb : Below w1.heap.size w1 (w1.alloc (.cells #[.slice ao1 N1 cap1] 58)) := (Below.refl _ _).alloc (Nat.le_refl _) _
    refine ⟨ao1, N1, cap1, rfl, below_cell k3 c3, ⟨ao1, N1, cap1, zs', _, ?_, ?_, k1.below hb, by rw [k2, g1]; rfl, fun hk => ?_, fun j hj => ?_, k3.trans (hb.mono k3.size), k3.size, by simp⟩, k3⟩
    · rw [cell_of_row _ _ 0 _ _ _ (heap_alloc_new _ _)]; rfl
    · exact frozen_of_heap (heap_alloc_new _ _) 0
    · rcases hk with hk | hk
      · exact hk.elim
      · omega
    · rcases hj with hj | hj
      · exact hj.elim
      · exact hj.1
  have HSt : Hid (_) := fun (L k : Nat) (hk : k < ws.length) (wr wr1 : World) => Lf.step hWT g3 hgood hm L k hk wr wr1
  have HTo : Hid (_) := fun (L k : Nat) (hk : k < ws.length) (wr1 : World) => Lf.torn hWT g3 hgood hm L k t hk wr1
  have HWT : Hid (_) := hWT
  have HG : Hid (s.good) := hgood
  have HMs : Hid (s.mass ≤ 1000000000) := hm
  have HG3 : Hid (ws.map Prod.snd = s.wait) := g3
  clear hC hcs hFlt g1 g2 g3 g4 hwl hml hWT hgood hm hcw
  go_enter Tryd.func18, Tryd.ntmps18
  go_wp2_with (go_at_call 41; refine Calls.mono HCl.out ?_; rintro e w1 ⟨ao1, N1, cap1, rfl, c31, HL1, HB1⟩)
  have c31a : (w1.alloc (.cells #[.slice ao1 N1 cap1] 58)).cell? ⟨p, 3, none⟩ = some (.slice aow ws.length capw) := below_cell ((Below.refl _ _).alloc (Nat.le_refl _) _) c31
  have hsl0 : ∀ w' : World, (Instr.slice 59 (.slice aow ws.length capw) none (some (.int .i64 0)) none).run Tryd.prog w' = .ok (.slice aow 0 capw) w' ∧ (Instr.sliceAt 59 (.slice aow ws.length capw) none (some (.int .i64 0)) none).run Tryd.prog w' = .ok (.slice aow 0 capw) w' := hsl
  clear hsl
  go_region_held (fun w' => w'.cell? ⟨p, 3, none⟩ = some (.slice aow ws.length capw) ∧ (Instr.slice 59 (.slice aow ws.length capw) none (some (.int .i64 0)) none).run Tryd.prog w' = .ok (.slice aow 0 capw) w' ∧ (Instr.sliceAt 59 (.slice aow ws.length capw) none (some (.int .i64 0)) none).run Tryd.prog w' = .ok (.slice aow 0 capw) w' ∧ (Builtin.max_ #[3, 3] 3 #[.int .i64 n, .int .i64 0]).run Tryd.prog w' = .ok (.int .i64 0) w' ∧ (Builtin.min_ #[3, 3] 3 #[.int .i64 0, .int .i64 (ws.length : Int)]).run Tryd.prog w' = .ok (.int .i64 0) w')
    (first | exact ⟨c31a, (hsl0 _).1, (hsl0 _).2, hmx _, hmn _⟩)
    (fail)
  have HEnd : Hid (∀ (w4 : World) (fs : List Fl), Srt fs → mass fs ≤ 1000000000 → Lf w w4 w1.heap.size fs → ∃ ao N cap, w4.cell? ⟨p, 0, none⟩ = some (.int .i64 s.room) ∧ w4.cell? ⟨w1.heap.size, 0, none⟩ = some (.slice ao N cap) ∧
      Hid (Calls Tryd.prog 41 #[.slice ao N cap] w4.drew fun e w5 => ∃ ao5 N5 cap5, e = .returned (.slice ao5 N5 cap5) ∧ w5.cell? ⟨p, 0, none⟩ = some (.int .i64 s.room) ∧ w5.cell? ⟨w1.heap.size, 0, none⟩ = some (.slice ao N cap) ∧ Hid (w.heap.size ≤ w5.heap.size ∧ Dk (w5.alloc (.cells #[.int .i64 s.room, .slice ao N cap, .slice ao5 N5 cap5, .slice none 0 0] 61)) w5.heap.size ⟨s.room, fs, []⟩ (ext (fun _ => False) w (w5.alloc (.cells #[.int .i64 s.room, .slice ao N cap, .slice ao5 N5 cap5, .slice none 0 0] 61))) ∧ Below w.heap.size w (w5.alloc (.cells #[.int .i64 s.room, .slice ao N cap, .slice ao5 N5 cap5, .slice none 0 0] 61))))) := by
    intro w4 fs hs hms hL
    have hLd : Lf w w4.drew w1.heap.size fs := hL.below (Below.refl _ _).drew
    obtain ⟨ao, N, cap, zk, Fk, q1, q2, q3, q4, q5, q6, q7, q8, q9⟩ := hLd
    have c04 := below_cell q7 c0
    refine ⟨ao, N, cap, c04, q1, ?_⟩
    refine (fclone_any _ zk Fk w4.drew q3 (by rw [q4]; exact hms)).mono ?_
    rintro e w5 ⟨v', zs', rfl, k1, k2, k3⟩
    obtain ⟨ao5, N5, cap5, rfl⟩ := own_slice k1.row
    have hbx := Lf.boxed (room := s.room) q3 q4 q6 q7 hs ⟨HG.out.r0, HG.out.r1⟩ k1 (by rw [k2, q4]) k3
    exact ⟨ao5, N5, cap5, rfl, below_cell k3 c04, below_cell k3 q1, Nat.le_trans q7.size k3.size, hbx.1, hbx.2⟩
  have hLn : ∀ k, k ≤ ws.length → Hid (Srt (run s.last (s.wait.take k)) ∧ mass (run s.last (s.wait.take k)) ≤ 1000000000) := fun k hk => by
    have e1 := run_mass (s.wait.take k) s.last HG.out.srt
    have e2 := wmass_take s.wait k
    have e3 := HMs.out
    unfold St.mass at e3
    exact ⟨run_srt _ _ HG.out.srt, by omega⟩
  have HLn : Hid (_) := hLn
  clear hmx hmn hsl0 c31a c31 hLn c1 c3 HSt HTo
  go_wp2_with fail
  go_loopw [31] (fun vi wr => vi = .int .i64 0 ∧ Hid (Lf w wr w1.heap.size (run s.last (s.wait.take 0)))) (fun _ _ => 0)
  case atStart => exact ⟨rfl, HL1.out.below (Below.refl _ _).drew⟩
  case round =>
    obtain ⟨rfl, HK⟩ := hrel
    have hn0 : ¬ (0 : Int) ≤ n := by omega
    have hSM := HLn.out 0 (Nat.zero_le _)
    obtain ⟨ao4, N4, cap4, e0, eL, HC4⟩ := HEnd.out wr _ hSM.out.1 hSM.out.2 HK.out
    have HFS : Hid (run s.last (s.wait.take 0) = leftOf s n t) := by
      show _ = _
      simp only [leftOf, if_neg hn0]
      rfl
    clear hSM HLn HEnd
    go_wp2_with fail
    go_region_held (fun w' => w'.cell? ⟨p, 0, none⟩ = some (.int .i64 s.room) ∧ w'.cell? ⟨w1.heap.size, 0, none⟩ = some (.slice ao4 N4 cap4))
      (first | exact ⟨e0, eL⟩ | exact ⟨f0, fL⟩ | go_keep)
      (first | (go_at_call 41; refine Calls.mono HC4.out ?_; rintro e w5 ⟨ao5, N5, cap5, rfl, f0, fL, HX⟩))
    all_goals go_wp2
    all_goals go_ret
    all_goals exact ⟨_, rfl, HX.out.1, by rw [← HFS.out]; exact HX.out.2.1, HX.out.2.2⟩

/-- Crash, at whatever numbers. -/
theorem crash_any (p : Nat) (s : St) (F : Nat → Prop) (n t : Int) (w : World) (h : Dk w p s F) (hm : s.mass ≤ 1000000000) :
    Calls Tryd.prog 18 #[.pointer (some ⟨p, 0, none⟩), .int .i64 n, .int .i64 t] w fun e w' => ∃ q, e = .returned (.pointer (some ⟨q, 0, none⟩)) ∧ w.heap.size ≤ q ∧ Dk w' q ⟨s.room, leftOf s n t, []⟩ (ext (fun _ => False) w w') ∧ Below w.heap.size w w' := by
  by_cases hn : n < 0
  · exact crash_neg p s F n t w h hm hn
  · obtain ⟨m, rfl⟩ : ∃ m : Nat, n = (m : Int) := ⟨n.toNat, by omega⟩
    exact crash_nat p s F m t w h hm
end Go.Proofs.YtnbdkojdddplkaaDoor.Dk

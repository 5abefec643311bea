/- The walk of a disk's Crash. -/
import Derived.Test.YtnbdkojdddplkaaDoorDkCrash
namespace Go.Proofs.YtnbdkojdddplkaaDoor.Dk
open Go.RowKit

set_option maxHeartbeats 2000000 in
set_option maxRecDepth 20000 in
theorem crash_nat (p : Nat) (s : St) (F : Nat → Prop) (n : Nat) (t : Int) (w : World) (h : Dk w p s F) (hm : s.mass ≤ 1000000000) :
    Calls Tryd.prog 18 #[.pointer (some ⟨p, 0, none⟩), .int .i64 (n : Int), .int .i64 t] w fun e w' => ∃ q, e = .returned (.pointer (some ⟨q, 0, none⟩)) ∧ w.heap.size ≤ q ∧ Dk w' q ⟨s.room, leftOf s n t, []⟩ (ext (fun _ => False) w w') ∧ Below w.heap.size w w' := by
  obtain ⟨hgood, hFlt, vl, vn, vw, zl, zn, ws, Fa, Fn, Fw, hC, g1, g2, g3, g4⟩ := h
  have hcs := hC.cells
  have c0 := hcs.1
  have c1 := hcs.2.1
  have c3 := hcs.2.2.2.1
  have hWT := hC.wt
  have hwl : ws.length = s.wait.length := by rw [← g3, List.length_map]
  have hwb : ws.length ≤ 1000000000 := by unfold St.mass at hm; omega
  obtain ⟨aow, capw, hvw, hcw⟩ : ∃ ao cap, vw = .slice ao ws.length cap ∧ ws.length ≤ cap := by
    rcases own_shape hC.wt.row with ⟨rfl, e⟩ | ⟨g, cap, rfl, hc, _⟩
    · exact ⟨none, 0, by rw [e], by omega⟩
    · exact ⟨_, _, rfl, hc⟩
  subst hvw
  obtain ⟨aol, Nl, capl, rfl⟩ := own_slice hC.fl.row
  have hml : s.mass ≤ 1000000000 → mass (zl.map Ent.fl) ≤ 1000000000 := fun h => by rw [g1]; unfold St.mass at h; omega
  obtain ⟨M, hM0, HM⟩ : ∃ M : Nat, M ≤ ws.length ∧ Hid (M = min n ws.length) := ⟨min n ws.length, by omega, rfl⟩
  have hx1 : ¬ ((n : Int) < 0) := by omega
  have hy1 : (if (ws.length : Int) < (n : Int) then (ws.length : Int) else (n : Int)) = (M : Int) := by have := HM.out; split <;> omega
  have hy2 : (if ws.length < n then (ws.length : Int) else (n : Int)) = (M : Int) := by have := HM.out; split <;> omega
  have hmx : ∀ w' : World, (Builtin.max_ #[3, 3] 3 #[.int .i64 (n : Int), .int .i64 0]).run Tryd.prog w' = .ok (.int .i64 (n : Int)) w' := fun w' => by
    rw [run_max_int2, if_neg (by omega)]
  have hmn : ∀ w' : World, (Builtin.min_ #[3, 3] 3 #[.int .i64 (n : Int), .int .i64 (ws.length : Int)]).run Tryd.prog w' = .ok (.int .i64 (M : Int)) w' := fun w' => by
    rw [run_min_int2, hy1]
  have hsl := fun w' => slice_front61 aow ws.length capw M hM0 hcw w'
  have HCl : Hid (Calls Tryd.prog 41 #[.slice aol Nl capl] w fun e w1 => ∃ ao1 N1 cap1, e = .returned (.slice ao1 N1 cap1) ∧ w1.cell? ⟨p, 3, none⟩ = some (.slice aow ws.length capw) ∧ Hid (Lf w (w1.alloc (.cells #[.slice ao1 N1 cap1] 58)) w1.heap.size (run s.last (s.wait.take 0))) ∧ Hid (Below w.heap.size w w1)) := by
    refine (fclone_any _ zl Fa w hC.fl (hml hm)).mono ?_
    rintro e w1 ⟨v', zs', rfl, k1, k2, k3⟩
    obtain ⟨ao1, N1, cap1, rfl⟩ := own_slice k1.row
    have hb : Below w1.heap.size w1 (w1.alloc (.cells #[.slice ao1 N1 cap1] 58)) := (Below.refl _ _).alloc (Nat.le_refl _) _
    refine ⟨ao1, N1, cap1, rfl, below_cell k3 c3, ⟨ao1, N1, cap1, zs', _, ?_, ?_, k1.below hb, by rw [k2, g1]; rfl, fun hk => ?_, fun j hj => ?_, k3.trans (hb.mono k3.size), k3.size, by simp⟩, k3⟩
    · rw [cell_of_row _ _ 0 _ _ _ (heap_alloc_new _ _)]; rfl
    · exact frozen_of_heap (heap_alloc_new _ _) 0
    · rcases hk with hk | hk
      · exact hk.elim
      · omega
    · rcases hj with hj | hj
      · exact hj.elim
      · exact hj.1
  have HSt : Hid (_) := fun (L k : Nat) (hk : k < ws.length) (wr wr1 : World) => Lf.step hWT g3 hgood hm L k hk wr wr1
  have HTo : Hid (_) := fun (L k : Nat) (hk : k < ws.length) (wr1 : World) => Lf.torn hWT g3 hgood hm L k t hk wr1
  have HWT : Hid (_) := hWT
  have HG : Hid (s.good) := hgood
  have HMs : Hid (s.mass ≤ 1000000000) := hm
  have HG3 : Hid (ws.map Prod.snd = s.wait) := g3
  clear hC hcs hFlt g1 g2 g3 g4 hwl hml hWT hgood hm hcw
  go_enter Tryd.func18, Tryd.ntmps18
  go_wp2_with (go_at_call 41; refine Calls.mono HCl.out ?_; rintro e w1 ⟨ao1, N1, cap1, rfl, c31, HL1, HB1⟩)
  have c31a : (w1.alloc (.cells #[.slice ao1 N1 cap1] 58)).cell? ⟨p, 3, none⟩ = some (.slice aow ws.length capw) := below_cell ((Below.refl _ _).alloc (Nat.le_refl _) _) c31
  go_region_held (fun w' => w'.cell? ⟨p, 3, none⟩ = some (.slice aow ws.length capw) ∧ (Instr.slice 59 (.slice aow ws.length capw) none (some (.int .i64 (M : Int))) none).run Tryd.prog w' = .ok (.slice aow M capw) w' ∧ (Instr.sliceAt 59 (.slice aow ws.length capw) none (some (.int .i64 (M : Int))) none).run Tryd.prog w' = .ok (.slice aow M capw) w' ∧ (Builtin.max_ #[3, 3] 3 #[.int .i64 (n : Int), .int .i64 0]).run Tryd.prog w' = .ok (.int .i64 (n : Int)) w' ∧ (Builtin.min_ #[3, 3] 3 #[.int .i64 (n : Int), .int .i64 (ws.length : Int)]).run Tryd.prog w' = .ok (.int .i64 (M : Int)) w')
    (first | exact ⟨c31a, (hsl _).1, (hsl _).2, hmx _, hmn _⟩)
    (fail)
  have HEnd : Hid (∀ (w4 : World) (fs : List Fl), Srt fs → mass fs ≤ 1000000000 → Lf w w4 w1.heap.size fs → ∃ ao N cap, w4.cell? ⟨p, 0, none⟩ = some (.int .i64 s.room) ∧ w4.cell? ⟨w1.heap.size, 0, none⟩ = some (.slice ao N cap) ∧
      Hid (Calls Tryd.prog 41 #[.slice ao N cap] w4.drew fun e w5 => ∃ ao5 N5 cap5, e = .returned (.slice ao5 N5 cap5) ∧ w5.cell? ⟨p, 0, none⟩ = some (.int .i64 s.room) ∧ w5.cell? ⟨w1.heap.size, 0, none⟩ = some (.slice ao N cap) ∧ Hid (w.heap.size ≤ w5.heap.size ∧ Dk (w5.alloc (.cells #[.int .i64 s.room, .slice ao N cap, .slice ao5 N5 cap5, .slice none 0 0] 61)) w5.heap.size ⟨s.room, fs, []⟩ (ext (fun _ => False) w (w5.alloc (.cells #[.int .i64 s.room, .slice ao N cap, .slice ao5 N5 cap5, .slice none 0 0] 61))) ∧ Below w.heap.size w (w5.alloc (.cells #[.int .i64 s.room, .slice ao N cap, .slice ao5 N5 cap5, .slice none 0 0] 61))))) := by
    intro w4 fs hs hms hL
    have hLd : Lf w w4.drew w1.heap.size fs := hL.below (Below.refl _ _).drew
    obtain ⟨ao, N, cap, zk, Fk, q1, q2, q3, q4, q5, q6, q7, q8, q9⟩ := hLd
    have c04 := below_cell q7 c0
    refine ⟨ao, N, cap, c04, q1, ?_⟩
    refine (fclone_any _ zk Fk w4.drew q3 (by rw [q4]; exact hms)).mono ?_
    rintro e w5 ⟨v', zs', rfl, k1, k2, k3⟩
    obtain ⟨ao5, N5, cap5, rfl⟩ := own_slice k1.row
    have hbx := Lf.boxed (room := s.room) q3 q4 q6 q7 hs ⟨HG.out.r0, HG.out.r1⟩ k1 (by rw [k2, q4]) k3
    exact ⟨ao5, N5, cap5, rfl, below_cell k3 c04, below_cell k3 q1, Nat.le_trans q7.size k3.size, hbx.1, hbx.2⟩
  have hLn : ∀ k, k ≤ ws.length → Hid (Srt (run s.last (s.wait.take k)) ∧ mass (run s.last (s.wait.take k)) ≤ 1000000000) := fun k hk => by
    have e1 := run_mass (s.wait.take k) s.last HG.out.srt
    have e2 := wmass_take s.wait k
    have e3 := HMs.out
    unfold St.mass at e3
    exact ⟨run_srt _ _ HG.out.srt, by omega⟩
  have HLn : Hid (_) := hLn
  have HC3 : Hid (_) := c3
  clear hmx hmn hsl c31a c31 hy1 hy2 hx1 hLn c1 c3
  go_wp2_with fail
  go_loopw [31] (fun vi wr => ∃ k : Nat, k ≤ M ∧ vi = .int .i64 k ∧ Hid (Lf w wr w1.heap.size (run s.last (s.wait.take k)))) (fun vi _ => M - (intOf vi).toNat)
  case atStart => exact ⟨0, Nat.zero_le _, rfl, HL1.out.below (Below.refl _ _).drew⟩
  case round =>
    obtain ⟨k, hk, rfl, HK⟩ := hrel
    by_cases hlt : k < M
    · have hlt' : (k : Int) < (M : Int) := by omega
      have hkw : k < ws.length := by omega
      obtain ⟨g, rfl⟩ : ∃ g, aow = some ⟨g, 0, none⟩ := by
        rcases own_shape HWT.out.row with ⟨_, e⟩ | ⟨g, cap', e, _⟩
        · omega
        · simp at e; exact ⟨g, e.1⟩
      have hbw : Below w.heap.size w wr := by
        obtain ⟨_, _, _, _, _, _, _, _, _, _, _, q7, _⟩ := HK.out
        exact q7
      have hW2 := HWT.out.kept (G := fun _ => False) (Fr.of_below hbw) (fun _ _ => id)
      obtain ⟨m0, m1, m2, m3, m4⟩ := hW2.cell k hkw
      obtain ⟨aod, Ld, capd, hd⟩ := Cv.slice (hW2.away (G := fun _ => False) (fun _ _ => id) ws[k] (List.getElem_mem hkw))
      have hst := HSt.out w1.heap.size k hkw wr (wr.alloc (.cells #[.int .i64 ws[k].1.kd, .string ws[k].1.nm, .slice aod Ld capd, .int .i64 ws[k].1.sz, .string ws[k].1.t] 76)) HK.out ((Below.refl _ _).alloc (Nat.le_refl _) _)
      simp only [Cv.val] at hst
      rw [hd] at hst m2
      have HS2 : Hid (_) := hst
      clear hst hW2 hd hbw HEnd HTo HLn
      go_wp2_with (go_at_call 42; refine Calls.mono HS2.out ?_; rintro e w' ⟨rfl, hX⟩)
      go_roundw
      case rel => exact ⟨k + 1, by omega, by go_num, hX⟩
      case measure => simp [intOf]; omega
    · have hkM : k = M := by omega
      subst hkM
      have hlt' : ¬ (k : Int) < (k : Int) := by omega
      have hbw : Below w.heap.size w wr := by
        obtain ⟨_, _, _, _, _, _, _, _, _, _, _, q7, _⟩ := HK.out
        exact q7
      have c3r := below_cell hbw HC3.out
      by_cases hnl : n < ws.length
      · have hnl' : (n : Int) < (ws.length : Int) := by omega
        have hkn : k = n := by have := HM.out; omega
        subst hkn
        obtain ⟨g, rfl⟩ : ∃ g, aow = some ⟨g, 0, none⟩ := by
          rcases own_shape HWT.out.row with ⟨_, e⟩ | ⟨g, cap', e, _⟩
          · omega
          · simp at e; exact ⟨g, e.1⟩
        have hW2 := HWT.out.kept (G := fun _ => False) (Fr.of_below hbw) (fun _ _ => id)
        obtain ⟨m0, m1, m2, m3, m4⟩ := hW2.cell k hnl
        obtain ⟨aod, Ld, capd, hd⟩ := Cv.slice (hW2.away (G := fun _ => False) (fun _ _ => id) ws[k] (List.getElem_mem hnl))
        have hst := HTo.out w1.heap.size k hnl wr HK.out
        simp only [Cv.val] at hst
        rw [hd] at hst m2
        have HS2 : Hid (_) := hst
        have hget : s.wait[k]? = some ws[k].2 := by rw [← HG3.out, List.getElem?_map, List.getElem?_eq_getElem hnl]; rfl
        obtain ⟨fs, HFS⟩ : ∃ fs, Hid (fs = leftOf s (k : Int) t) := ⟨leftOf s (k : Int) t, (rfl : _ = _)⟩
        have hfs : torn (run s.last (s.wait.take k)) ws[k].2 t = fs := by
          rw [HFS.out]
          simp [leftOf, hget]
        have HSM : Hid (Srt fs ∧ mass fs ≤ 1000000000) := by
          have e := HLn.out (k + 1) (by omega)
          have e1 := run_mass (s.wait.take k) s.last HG.out.srt
          have e2 := wmass_take s.wait (k + 1)
          rw [take_succ_snoc _ _ _ hget] at e2
          have e3 : wmass (s.wait.take k ++ [ws[k].2]) = wmass (s.wait.take k) + (ws[k].2).mass := by simp [wmass]
          have e4 := HMs.out
          unfold St.mass at e4
          have hsr := run_srt (s.wait.take k) _ HG.out.srt
          rw [← hfs]
          cases hc : ws[k].2 with
          | app nn bb =>
            rw [hc] at e2 e3
            simp only [Ch.mass] at e3
            simp only [torn]
            split
            · exact ⟨hsr, by omega⟩
            · have e5 := ap_mass (.app nn (bb.take t.toNat)) hsr
              simp only [Ch.mass, List.length_take] at e5
              exact ⟨ap_srt _ hsr, by omega⟩
          | cut nn kk => exact ⟨hsr, by show mass (run s.last (s.wait.take k)) ≤ _; omega⟩
          | rem nn => exact ⟨hsr, by show mass (run s.last (s.wait.take k)) ≤ _; omega⟩
          | mov nn kk => exact ⟨hsr, by show mass (run s.last (s.wait.take k)) ≤ _; omega⟩
        rw [hfs] at HS2
        clear hst hW2 hd hbw HSt HTo HLn hfs hget
        go_wp2_with (go_at_call 43; refine Calls.mono HS2.out ?_; rintro e w4 ⟨rfl, hX⟩; obtain ⟨ao4, N4, cap4, e0, eL, HC4⟩ := HEnd.out w4 fs HSM.out.1 HSM.out.2 hX; clear hX)
        go_region_held (fun w' => w'.cell? ⟨p, 0, none⟩ = some (.int .i64 s.room) ∧ w'.cell? ⟨w1.heap.size, 0, none⟩ = some (.slice ao4 N4 cap4))
          (first | exact ⟨e0, eL⟩ | exact ⟨f0, fL⟩ | go_keep)
          (first | (go_at_call 41; refine Calls.mono HC4.out ?_; rintro e w5 ⟨ao5, N5, cap5, rfl, f0, fL, HX⟩))
        all_goals go_wp2
        all_goals go_ret
        all_goals exact ⟨_, rfl, HX.out.1, by rw [← HFS.out]; exact HX.out.2.1, HX.out.2.2⟩
      · have hnl' : ¬ (n : Int) < (ws.length : Int) := by omega
        have hkn : k = ws.length := by have := HM.out; omega
        obtain ⟨fs, HFS⟩ : ∃ fs, Hid (fs = leftOf s (n : Int) t) := ⟨leftOf s (n : Int) t, (rfl : _ = _)⟩
        have hwl : ws.length = s.wait.length := by rw [← HG3.out, List.length_map]
        have hfs : run s.last (s.wait.take k) = fs := by
          rw [HFS.out]
          have h1 : s.wait[n]? = none := List.getElem?_eq_none (by omega)
          simp only [leftOf, Int.toNat_natCast, h1]
          rw [if_pos (by omega), List.take_of_length_le (by omega), List.take_of_length_le (by omega)]
        have hSM := HLn.out k (by omega)
        rw [hfs] at hSM
        have hK := HK.out
        rw [hfs] at hK
        obtain ⟨ao4, N4, cap4, e0, eL, HC4⟩ := HEnd.out wr fs hSM.out.1 hSM.out.2 hK
        clear hK hSM hfs hwl hkn HSt HTo HLn hbw
        go_wp2_with fail
        go_region_held (fun w' => w'.cell? ⟨p, 0, none⟩ = some (.int .i64 s.room) ∧ w'.cell? ⟨w1.heap.size, 0, none⟩ = some (.slice ao4 N4 cap4))
          (first | exact ⟨e0, eL⟩ | exact ⟨f0, fL⟩ | go_keep)
          (first | (go_at_call 41; refine Calls.mono HC4.out ?_; rintro e w5 ⟨ao5, N5, cap5, rfl, f0, fL, HX⟩))
        all_goals go_wp2
        all_goals go_ret
        all_goals exact ⟨_, rfl, HX.out.1, by rw [← HFS.out]; exact HX.out.2.1, HX.out.2.2⟩
end Go.Proofs.YtnbdkojdddplkaaDoor.Dk

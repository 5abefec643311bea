/- The walk of a disk's do. -/
import Derived.Test.YtnbdkojdddplkaaDoorDkDisk
import Derived.Test.YtnbdkojdddplkaaDoorDkDelete
namespace Go.Proofs.YtnbdkojdddplkaaDoor.Dk
open Go.RowKit

theorem Tryd.info76 : (Tryd.prog.info? 76).map (fun i => (i.zero, i.size, i.bytes)) = some (some (.agg #[.int .i64 0, .string ⟨#[]⟩, .slice none 0 0, .int .i64 0, .string ⟨#[]⟩]), 5, 72) := by kernel_rfl

set_option maxHeartbeats 2000000 in
set_option maxRecDepth 20000 in
theorem ddo_any (p : Nat) (s : St) (F D : Nat → Prop) (y : Cv) (c : Ch) (w : World) (h : Dk w p s F) (hy : ChV w y.val c (fun k => ¬ D k)) (hD : ∀ k, D k → ¬ F k ∧ k < w.heap.size) (hok : Okc s.now c) (hm : s.mass + c.mass + 1 ≤ 1000000000) :
    Calls Tryd.prog 47 #[.pointer (some ⟨p, 0, none⟩), y.val] w fun e w' => e = .returned (.tuple #[]) ∧ Dk w' p (s.push c) (ext (fun k => F k ∨ D k) w w') ∧ Fr F w w' := by
  obtain ⟨i, hi, hz0, hz1, hz2⟩ := info_parts Tryd.info76
  obtain ⟨hgood, hFlt, vl, vn, vw, zl, zn, ws, Fa, Fn, Fw, hC, g1, g2, g3, g4⟩ := h
  have hnm := St.now_mass hgood
  obtain ⟨aod, Ld, capd, hdv⟩ := Cv.slice hy
  obtain ⟨kd, nm, dv, sz, t⟩ := y
  simp only at hdv
  subst hdv
  have hplt := hC.plt
  have hwl : ws.length = s.wait.length := by rw [← g3, List.length_map]
  have hFp : F p := g4 p (Or.inr (Or.inr (Or.inr rfl)))
  obtain ⟨aow, Nw, capw, rfl⟩ := own_slice hC.wt.row
  have HA : Hid (Calls Tryd.prog 42 #[.pointer (some ⟨p, 2, none⟩), .agg #[.int .i64 kd, .string nm, .slice aod Ld capd, .int .i64 sz, .string t]] (w.alloc (.cells #[.int .i64 kd, .string nm, .slice aod Ld capd, .int .i64 sz, .string t] 76)).drew fun e w2 => e = .returned (.tuple #[]) ∧ w2.cell? ⟨p, 3, none⟩ = some (.slice aow Nw capw) ∧
      (w2.cell? ⟨w.heap.size, 0, none⟩ = some (.int .i64 kd) ∧ w2.cell? ⟨w.heap.size, 1, none⟩ = some (.string nm) ∧ w2.cell? ⟨w.heap.size, 2, none⟩ = some (.slice aod Ld capd) ∧ w2.cell? ⟨w.heap.size, 3, none⟩ = some (.int .i64 sz) ∧ w2.cell? ⟨w.heap.size, 4, none⟩ = some (.string t)) ∧
      ∃ ao3 N3 cap3 w3, (∀ ty, (Builtin.append_ #[59, 59] ty #[.slice aow Nw capw, .slice (some ⟨w2.heap.size, 0, none⟩) 1 1]).run Tryd.prog (w2.drew.alloc (.cells #[.int .i64 kd, .string nm, .slice aod Ld capd, .int .i64 sz, .string t] 76)) = .ok (.slice ao3 N3 cap3) w3) ∧ w3.cell? ⟨p, 3, none⟩ = some (.slice aow Nw capw) ∧ w3.frozen? ⟨p, 3, none⟩ = false ∧
        Hid (Dk (w3.setCell ⟨p, 3, none⟩ (.slice ao3 N3 cap3)) p (s.push c) (ext (fun k => F k ∨ D k) w (w3.setCell ⟨p, 3, none⟩ (.slice ao3 N3 cap3))) ∧ Fr F w (w3.setCell ⟨p, 3, none⟩ (.slice ao3 N3 cap3)))) := by
    have hb1 : Below w.heap.size w (w.alloc (.cells #[.int .i64 kd, .string nm, .slice aod Ld capd, .int .i64 sz, .string t] 76)).drew := ((Below.refl _ _).alloc (Nat.le_refl _) _).drew
    have hC1 := hC.kept (G := fun _ => False) (Fr.of_below hb1) (fun _ _ => id) (fun _ _ => id) (fun _ _ => id) id
    have hcs := hC1.cells
    have hy1 : ChV (w.alloc (.cells #[.int .i64 kd, .string nm, .slice aod Ld capd, .int .i64 sz, .string t] 76)).drew (Cv.val ⟨kd, nm, .slice aod Ld capd, sz, t⟩) c (fun k => ¬ D k) := hy.kept (Fr.of_below hb1)
    refine (do_any p 2 vn zn Fn (Cv.val ⟨kd, nm, .slice aod Ld capd, sz, t⟩) c _ hcs.2.2.1 (hcs.2.2.2.2 2) hC1.fn hC.p2 (by rw [g2]; exact St.now_srt hgood) (hy1.mono (fun k hk hDk => ?_)) (by rw [g2]; exact hok) (by rw [g2]; omega)).mono ?_
    · rcases hk with hk | hk
      · exact (hD k hDk).1 (g4 k (Or.inr (Or.inl hk)))
      · exact (hD k hDk).1 (hk ▸ hFp)
    · rintro e w2 ⟨rfl, vn', zn', hF2, hm2, hfr2⟩
      have hC2 := hC1.now hF2 hfr2
      have hs1 := hb1.size
      have hs2 := hfr2.size
      rw [setCell_size] at hs2
      have hlk : w.heap.size < (w.alloc (.cells #[.int .i64 kd, .string nm, .slice aod Ld capd, .int .i64 sz, .string t] 76)).drew.heap.size := by show _ < (w.alloc _).heap.size; simp
      have hmF : ¬ Fn w.heap.size := fun hk => by have := hC.fn.lt _ hk; omega
      have hm0 : w2.heap[w.heap.size]? = some (.cells #[.int .i64 kd, .string nm, .slice aod Ld capd, .int .i64 sz, .string t] 76 (0, 0)) := by
        rw [hfr2.block w.heap.size (by rw [setCell_size]; exact hlk) hmF, Below.heap_setCell _ _ _ _ (by show w.heap.size ≠ p; omega)]
        exact heap_alloc_new w _
      have hC3 := hC2.kept (w' := w2.drew.alloc (.cells #[.int .i64 kd, .string nm, .slice aod Ld capd, .int .i64 sz, .string t] 76)) (G := fun _ => False) ((Fr.refl _ w2).drew.alloc _) (fun _ _ => id) (fun _ _ => id) (fun _ _ => id) id
      have hx0 : (w2.drew.alloc (.cells #[.int .i64 kd, .string nm, .slice aod Ld capd, .int .i64 sz, .string t] 76)).heap[w2.heap.size]? = some (.cells #[.int .i64 kd, .string nm, .slice aod Ld capd, .int .i64 sz, .string t] 76 (0, 0)) := heap_alloc_new w2.drew _
      have hnews : ∀ j u, (Cv.cells ⟨kd, nm, .slice aod Ld capd, sz, t⟩)[j]? = some u → (w2.drew.alloc (.cells #[.int .i64 kd, .string nm, .slice aod Ld capd, .int .i64 sz, .string t] 76)).cell? ((⟨w2.heap.size, 0, none⟩ : Addr).add j) = some u := by
        intro j u hj
        rw [Addr.add_lit, Nat.zero_add, cell_of_row _ _ j _ 76 _ hx0]
        simpa [Cv.cells] using hj
      obtain ⟨v3, w3, hr, hO3, hg3, _, hat3⟩ := run_append_own_at (P := Tryd.prog) _ 0 59 59 76 i _ 5 72 Tryd.underlying59 hi hz0 hz1 hz2 rfl (by decide) _ _ _ hC3.wt.row ⟨w2.heap.size, 0, none⟩ 1 1 (Cv.cells ⟨kd, nm, .slice aod Ld capd, sz, t⟩) rfl hnews (by simp [Cv.cells]; exact ⟨rfl, rfl, rfl, rfl, rfl⟩) (by simp only [maxLen]; omega) (by omega) (Nat.zero_le _)
      obtain ⟨ao3, N3, cap3, rfl⟩ := own_slice hO3
      have hyx : ChV (w2.drew.alloc (.cells #[.int .i64 kd, .string nm, .slice aod Ld capd, .int .i64 sz, .string t] 76)) (Cv.val ⟨kd, nm, .slice aod Ld capd, sz, t⟩) c (fun k => ¬ D k) := by
        refine ((hy1.kept ((Fr.one _ p 2 vn').mono (fun k _ e hDk => (hD k hDk).1 (e ▸ hFp)))).kept (hfr2.mono (fun k _ hk hDk => (hD k hDk).1 (g4 k (Or.inr (Or.inl hk)))))).kept ((Fr.refl _ w2).drew.alloc _)
      have hDx : ∀ k, D k → ¬ Fa k ∧ ¬ ext Fn (w.alloc (.cells #[.int .i64 kd, .string nm, .slice aod Ld capd, .int .i64 sz, .string t] 76)).drew w2 k ∧ ¬ Fw k ∧ k ≠ p ∧ k < (w2.drew.alloc (.cells #[.int .i64 kd, .string nm, .slice aod Ld capd, .int .i64 sz, .string t] 76)).heap.size := fun k hk => by
        obtain ⟨q1, q2⟩ := hD k hk
        refine ⟨fun h => q1 (g4 k (Or.inl h)), fun h => ?_, fun h => q1 (g4 k (Or.inr (Or.inr (Or.inl h)))), fun h => q1 (h ▸ hFp), ?_⟩
        · rcases h with h | h
          · exact q1 (g4 k (Or.inr (Or.inl h)))
          · omega
        · show k < (w2.alloc _).heap.size
          simp
          omega
      obtain ⟨hP, hP3, hPf⟩ := hC3.push (D := D) (vw' := .slice ao3 N3 cap3) (⟨kd, nm, .slice aod Ld capd, sz, t⟩, c) hO3 hg3 (by rcases hat3 with h | h; exact Or.inl h; exact Or.inr ⟨_, h, Nat.le_refl _⟩) hyx hDx
      have hP' : DkC (w3.setCell ⟨p, 3, none⟩ (.slice ao3 N3 cap3)) p (s.push c).room vl vn' (.slice ao3 N3 cap3) zl zn' (ws ++ [(⟨kd, nm, .slice aod Ld capd, sz, t⟩, c)]) Fa _ _ := hP
      have hs3 := hg3.size
      have hs3' : w2.heap.size + 1 ≤ w3.heap.size := by
        have : (w2.drew.alloc (.cells #[.int .i64 kd, .string nm, .slice aod Ld capd, .int .i64 sz, .string t] 76)).heap.size = w2.heap.size + 1 := by show (w2.alloc _).heap.size = _; simp
        omega
      refine ⟨rfl, hC2.cells.2.2.2.1, ⟨by rw [cell_of_row w2 _ 0 _ _ _ hm0]; rfl, by rw [cell_of_row w2 _ 1 _ _ _ hm0]; rfl, by rw [cell_of_row w2 _ 2 _ _ _ hm0]; rfl, by rw [cell_of_row w2 _ 3 _ _ _ hm0]; rfl, by rw [cell_of_row w2 _ 4 _ _ _ hm0]; rfl⟩, ao3, N3, cap3, w3, fun ty => ?_, hP3, hPf, ⟨St.push_good hgood hok, ?_, vl, vn', .slice ao3 N3 cap3, zl, zn', ws ++ [(⟨kd, nm, .slice aod Ld capd, sz, t⟩, c)], Fa, _, _, hP', g1, by rw [St.push_now, ← g2]; exact hm2, by rw [List.map_append, g3]; rfl, ?_⟩, ?_⟩
      · exact hr
      · exact ext_lt (fun k hk => by rcases hk with hk | hk; exact hFlt k hk; exact (hD k hk).2) (by rw [setCell_size]; omega)
      · intro k hk
        rcases hk with hk | hk | hk | hk
        · exact Or.inl (Or.inl (g4 k (Or.inl hk)))
        · rcases hk with hk | hk
          · exact Or.inl (Or.inl (g4 k (Or.inr (Or.inl hk))))
          · exact Or.inr ⟨by omega, by rw [setCell_size]; omega⟩
        · rcases hk with (hk | hk) | hk
          · exact Or.inl (Or.inl (g4 k (Or.inr (Or.inr (Or.inl hk)))))
          · exact Or.inl (Or.inr hk)
          · refine Or.inr ⟨?_, by rw [setCell_size]; exact hk.2⟩
            have : (w2.drew.alloc (.cells #[.int .i64 kd, .string nm, .slice aod Ld capd, .int .i64 sz, .string t] 76)).heap.size = w2.heap.size + 1 := by show (w2.alloc _).heap.size = _; simp
            omega
        · exact Or.inl (Or.inl (hk ▸ hFp))
      · have f1 : Fr F w w2 := ((Fr.of_below (F := F) hb1).trans (Fr.one _ p 2 vn') (fun k _ e => e ▸ hFp)).trans hfr2 (fun k _ hk => g4 k (Or.inr (Or.inl hk)))
        have f2 := f1.trans (G := F) ((Fr.refl _ w2).drew.alloc (.cells #[.int .i64 kd, .string nm, .slice aod Ld capd, .int .i64 sz, .string t] 76)) (fun _ _ h => h)
        have f3 := f2.trans (Fr.of_grown (F := F) hg3 (fun k hk => g4 k (Or.inr (Or.inr (Or.inl (hC.wt.rowIn k hk)))))) (fun _ _ h => h)
        exact f3.trans (Fr.one w3 p 3 _) (fun k _ e => e ▸ hFp)
  clear hC hy hD hok hm hnm hi hz0 hz1 hz2 g4 hwl hFp
  show Calls Tryd.prog 47 #[.pointer (some ⟨p, 0, none⟩), .agg #[.int .i64 kd, .string nm, .slice aod Ld capd, .int .i64 sz, .string t]] w _
  go_enter Tryd.func47, Tryd.ntmps47
  go_wp2_with fail
  go_region_held (fun w' => w'.cell? ⟨w.heap.size, 0, none⟩ = some (.int .i64 kd) ∧ w'.cell? ⟨w.heap.size, 1, none⟩ = some (.string nm) ∧ w'.cell? ⟨w.heap.size, 2, none⟩ = some (.slice aod Ld capd) ∧ w'.cell? ⟨w.heap.size, 3, none⟩ = some (.int .i64 sz) ∧ w'.cell? ⟨w.heap.size, 4, none⟩ = some (.string t))
    (first | exact ⟨by simp, by simp, by simp, by simp, by simp⟩ | exact ⟨m0, m1, m2, m3, m4⟩)
    (first | (go_at_call 42; refine Calls.mono HA.out ?_; rintro e w2 ⟨rfl, c3, ⟨m0, m1, m2, m3, m4⟩, ao3, N3, cap3, w3, hap, e3, ef3, HX⟩))
  have hca1 : ∀ ob, (w2.alloc ob).cell? ⟨p, 3, none⟩ = some (.slice aow Nw capw) := fun ob => below_cell ((Below.refl _ _).alloc (Nat.le_refl _) ob) c3
  have hca2 : ∀ ob, (w2.drew.alloc ob).cell? ⟨p, 3, none⟩ = some (.slice aow Nw capw) := hca1
  clear HA
  go_wp2_with fail
  go_region_law (refine step_append_run rfl (.tmp 13) (.tmp 15) 59 59 rfl (.slice aow Nw capw) (.slice (some ⟨w2.heap.size, 0, none⟩) 1 1) (by simp [Act.eval]) (by simp [Act.eval]) (hap _) ?_)
  all_goals go_wp2
  all_goals go_end0
  all_goals exact ⟨rfl, HX.out.1, HX.out.2⟩
end Go.Proofs.YtnbdkojdddplkaaDoor.Dk

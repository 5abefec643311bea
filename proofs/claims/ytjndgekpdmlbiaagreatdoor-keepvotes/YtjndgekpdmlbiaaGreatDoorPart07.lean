/- The walk of a disk's do. The walks of a disk's Append, Remove, Move, Cut. The walks of a disk's Append that is refused. The walks of a disk's Cut, and of a Cut and a Move that are refused. The walks of a folder's tear and clone. -/
import Derived.Test.YtjndgekpdmlbiaaGreatDoorPart06
import Derived.Test.YtjndgekpdmlbiaaGreatDoorPart05
namespace Go.Proofs.YtjndgekpdmlbiaaGreatDoor.Dk
open Go.RowKit

theorem Tryz.info93 : (Tryz.prog.info? 93).map (fun i => (i.zero, i.size, i.bytes)) = some (some (.agg #[.int .i64 0, .string ⟨#[]⟩, .slice none 0 0, .int .i64 0, .string ⟨#[]⟩]), 5, 72) := by kernel_rfl

set_option maxHeartbeats 2000000 in
set_option maxRecDepth 20000 in
theorem ddo_any (p : Nat) (s : St) (F D : Nat → Prop) (y : Cv) (c : Ch) (w : World) (h : Dk w p s F) (hy : ChV w y.val c (fun k => ¬ D k)) (hD : ∀ k, D k → ¬ F k ∧ k < w.heap.size) (hok : Okc s.now c) (hm : s.mass + c.mass + 1 ≤ 1000000000) :
    Calls Tryz.prog 102 #[.pointer (some ⟨p, 0, none⟩), y.val] w fun e w' => e = .returned (.tuple #[]) ∧ Dk w' p (s.push c) (ext (fun k => F k ∨ D k) w w') ∧ Fr F w w' := by
  obtain ⟨i, hi, hz0, hz1, hz2⟩ := info_parts Tryz.info93
  obtain ⟨hgood, hFlt, vl, vn, vw, zl, zn, ws, Fa, Fn, Fw, hC, g1, g2, g3, g4⟩ := h
  have hnm := St.now_mass hgood
  obtain ⟨aod, Ld, capd, hdv⟩ := Cv.slice hy
  obtain ⟨kd, nm, dv, sz, t⟩ := y
  simp only at hdv
  subst hdv
  have hplt := hC.plt
  have hwl : ws.length = s.wait.length := by rw [← g3, List.length_map]
  have hFp : F p := g4 p (Or.inr (Or.inr (Or.inr rfl)))
  obtain ⟨aow, Nw, capw, rfl⟩ := own_slice hC.wt.row
  have HA : Hid (Calls Tryz.prog 38 #[.pointer (some ⟨p, 2, none⟩), .agg #[.int .i64 kd, .string nm, .slice aod Ld capd, .int .i64 sz, .string t]] (w.alloc (.cells #[.int .i64 kd, .string nm, .slice aod Ld capd, .int .i64 sz, .string t] 93)).drew fun e w2 => e = .returned (.tuple #[]) ∧ w2.cell? ⟨p, 3, none⟩ = some (.slice aow Nw capw) ∧
      (w2.cell? ⟨w.heap.size, 0, none⟩ = some (.int .i64 kd) ∧ w2.cell? ⟨w.heap.size, 1, none⟩ = some (.string nm) ∧ w2.cell? ⟨w.heap.size, 2, none⟩ = some (.slice aod Ld capd) ∧ w2.cell? ⟨w.heap.size, 3, none⟩ = some (.int .i64 sz) ∧ w2.cell? ⟨w.heap.size, 4, none⟩ = some (.string t)) ∧
      ∃ ao3 N3 cap3 w3, (∀ ty, (Builtin.append_ #[71, 71] ty #[.slice aow Nw capw, .slice (some ⟨w2.heap.size, 0, none⟩) 1 1]).run Tryz.prog (w2.drew.alloc (.cells #[.int .i64 kd, .string nm, .slice aod Ld capd, .int .i64 sz, .string t] 93)) = .ok (.slice ao3 N3 cap3) w3) ∧ w3.cell? ⟨p, 3, none⟩ = some (.slice aow Nw capw) ∧ w3.frozen? ⟨p, 3, none⟩ = false ∧
        Hid (Dk (w3.setCell ⟨p, 3, none⟩ (.slice ao3 N3 cap3)) p (s.push c) (ext (fun k => F k ∨ D k) w (w3.setCell ⟨p, 3, none⟩ (.slice ao3 N3 cap3))) ∧ Fr F w (w3.setCell ⟨p, 3, none⟩ (.slice ao3 N3 cap3)))) := by
    have hb1 : Below w.heap.size w (w.alloc (.cells #[.int .i64 kd, .string nm, .slice aod Ld capd, .int .i64 sz, .string t] 93)).drew := ((Below.refl _ _).alloc (Nat.le_refl _) _).drew
    have hC1 := hC.kept (G := fun _ => False) (Fr.of_below hb1) (fun _ _ => id) (fun _ _ => id) (fun _ _ => id) id
    have hcs := hC1.cells
    have hy1 : ChV (w.alloc (.cells #[.int .i64 kd, .string nm, .slice aod Ld capd, .int .i64 sz, .string t] 93)).drew (Cv.val ⟨kd, nm, .slice aod Ld capd, sz, t⟩) c (fun k => ¬ D k) := hy.kept (Fr.of_below hb1)
    refine (do_any p 2 vn zn Fn (Cv.val ⟨kd, nm, .slice aod Ld capd, sz, t⟩) c _ hcs.2.2.1 (hcs.2.2.2.2 2) hC1.fn hC.p2 (by rw [g2]; exact St.now_srt hgood) (hy1.mono (fun k hk hDk => ?_)) (by rw [g2]; exact hok) (by rw [g2]; omega)).mono ?_
    · rcases hk with hk | hk
      · exact (hD k hDk).1 (g4 k (Or.inr (Or.inl hk)))
      · exact (hD k hDk).1 (hk ▸ hFp)
    · rintro e w2 ⟨rfl, vn', zn', hF2, hm2, hfr2⟩
      have hC2 := hC1.now hF2 hfr2
      have hs1 := hb1.size
      have hs2 := hfr2.size
      rw [setCell_size] at hs2
      have hlk : w.heap.size < (w.alloc (.cells #[.int .i64 kd, .string nm, .slice aod Ld capd, .int .i64 sz, .string t] 93)).drew.heap.size := by show _ < (w.alloc _).heap.size; simp
      have hmF : ¬ Fn w.heap.size := fun hk => by have := hC.fn.lt _ hk; omega
      have hm0 : w2.heap[w.heap.size]? = some (.cells #[.int .i64 kd, .string nm, .slice aod Ld capd, .int .i64 sz, .string t] 93 (0, 0)) := by
        rw [hfr2.block w.heap.size (by rw [setCell_size]; exact hlk) hmF, Below.heap_setCell _ _ _ _ (by show w.heap.size ≠ p; omega)]
        exact heap_alloc_new w _
      have hC3 := hC2.kept (w' := w2.drew.alloc (.cells #[.int .i64 kd, .string nm, .slice aod Ld capd, .int .i64 sz, .string t] 93)) (G := fun _ => False) ((Fr.refl _ w2).drew.alloc _) (fun _ _ => id) (fun _ _ => id) (fun _ _ => id) id
      have hx0 : (w2.drew.alloc (.cells #[.int .i64 kd, .string nm, .slice aod Ld capd, .int .i64 sz, .string t] 93)).heap[w2.heap.size]? = some (.cells #[.int .i64 kd, .string nm, .slice aod Ld capd, .int .i64 sz, .string t] 93 (0, 0)) := heap_alloc_new w2.drew _
      have hnews : ∀ j u, (Cv.cells ⟨kd, nm, .slice aod Ld capd, sz, t⟩)[j]? = some u → (w2.drew.alloc (.cells #[.int .i64 kd, .string nm, .slice aod Ld capd, .int .i64 sz, .string t] 93)).cell? ((⟨w2.heap.size, 0, none⟩ : Addr).add j) = some u := by
        intro j u hj
        rw [Addr.add_lit, Nat.zero_add, cell_of_row _ _ j _ 93 _ hx0]
        simpa [Cv.cells] using hj
      obtain ⟨v3, w3, hr, hO3, hg3, _, hat3⟩ := run_append_own_at (P := Tryz.prog) _ 0 71 71 93 i _ 5 72 Tryz.underlying71 hi hz0 hz1 hz2 rfl (by decide) _ _ _ hC3.wt.row ⟨w2.heap.size, 0, none⟩ 1 1 (Cv.cells ⟨kd, nm, .slice aod Ld capd, sz, t⟩) rfl hnews (by simp [Cv.cells]; exact ⟨rfl, rfl, rfl, rfl, rfl⟩) (by simp only [maxLen]; omega) (by omega) (Nat.zero_le _)
      obtain ⟨ao3, N3, cap3, rfl⟩ := own_slice hO3
      have hyx : ChV (w2.drew.alloc (.cells #[.int .i64 kd, .string nm, .slice aod Ld capd, .int .i64 sz, .string t] 93)) (Cv.val ⟨kd, nm, .slice aod Ld capd, sz, t⟩) c (fun k => ¬ D k) := by
        refine ((hy1.kept ((Fr.one _ p 2 vn').mono (fun k _ e hDk => (hD k hDk).1 (e ▸ hFp)))).kept (hfr2.mono (fun k _ hk hDk => (hD k hDk).1 (g4 k (Or.inr (Or.inl hk)))))).kept ((Fr.refl _ w2).drew.alloc _)
      have hDx : ∀ k, D k → ¬ Fa k ∧ ¬ ext Fn (w.alloc (.cells #[.int .i64 kd, .string nm, .slice aod Ld capd, .int .i64 sz, .string t] 93)).drew w2 k ∧ ¬ Fw k ∧ k ≠ p ∧ k < (w2.drew.alloc (.cells #[.int .i64 kd, .string nm, .slice aod Ld capd, .int .i64 sz, .string t] 93)).heap.size := fun k hk => by
        obtain ⟨q1, q2⟩ := hD k hk
        refine ⟨fun h => q1 (g4 k (Or.inl h)), fun h => ?_, fun h => q1 (g4 k (Or.inr (Or.inr (Or.inl h)))), fun h => q1 (h ▸ hFp), ?_⟩
        · rcases h with h | h
          · exact q1 (g4 k (Or.inr (Or.inl h)))
          · omega
        · show k < (w2.alloc _).heap.size
          simp
          omega
      obtain ⟨hP, hP3, hPf⟩ := hC3.push (D := D) (vw' := .slice ao3 N3 cap3) (⟨kd, nm, .slice aod Ld capd, sz, t⟩, c) hO3 hg3 (by rcases hat3 with h | h; exact Or.inl h; exact Or.inr ⟨_, h, Nat.le_refl _⟩) hyx hDx
      have hP' : DkC (w3.setCell ⟨p, 3, none⟩ (.slice ao3 N3 cap3)) p (s.push c).room vl vn' (.slice ao3 N3 cap3) zl zn' (ws ++ [(⟨kd, nm, .slice aod Ld capd, sz, t⟩, c)]) Fa _ _ := hP
      have hs3 := hg3.size
      have hs3' : w2.heap.size + 1 ≤ w3.heap.size := by
        have : (w2.drew.alloc (.cells #[.int .i64 kd, .string nm, .slice aod Ld capd, .int .i64 sz, .string t] 93)).heap.size = w2.heap.size + 1 := by show (w2.alloc _).heap.size = _; simp
        omega
      refine ⟨rfl, hC2.cells.2.2.2.1, ⟨by rw [cell_of_row w2 _ 0 _ _ _ hm0]; rfl, by rw [cell_of_row w2 _ 1 _ _ _ hm0]; rfl, by rw [cell_of_row w2 _ 2 _ _ _ hm0]; rfl, by rw [cell_of_row w2 _ 3 _ _ _ hm0]; rfl, by rw [cell_of_row w2 _ 4 _ _ _ hm0]; rfl⟩, ao3, N3, cap3, w3, fun ty => ?_, hP3, hPf, ⟨St.push_good hgood hok, ?_, vl, vn', .slice ao3 N3 cap3, zl, zn', ws ++ [(⟨kd, nm, .slice aod Ld capd, sz, t⟩, c)], Fa, _, _, hP', g1, by rw [St.push_now, ← g2]; exact hm2, by rw [List.map_append, g3]; rfl, ?_⟩, ?_⟩
      · exact hr
      · exact ext_lt (fun k hk => by rcases hk with hk | hk; exact hFlt k hk; exact (hD k hk).2) (by rw [setCell_size]; omega)
      · intro k hk
        rcases hk with hk | hk | hk | hk
        · exact Or.inl (Or.inl (g4 k (Or.inl hk)))
        · rcases hk with hk | hk
          · exact Or.inl (Or.inl (g4 k (Or.inr (Or.inl hk))))
          · exact Or.inr ⟨by omega, by rw [setCell_size]; omega⟩
        · rcases hk with (hk | hk) | hk
          · exact Or.inl (Or.inl (g4 k (Or.inr (Or.inr (Or.inl hk)))))
          · exact Or.inl (Or.inr hk)
          · refine Or.inr ⟨?_, by rw [setCell_size]; exact hk.2⟩
            have : (w2.drew.alloc (.cells #[.int .i64 kd, .string nm, .slice aod Ld capd, .int .i64 sz, .string t] 93)).heap.size = w2.heap.size + 1 := by show (w2.alloc _).heap.size = _; simp
            omega
        · exact Or.inl (Or.inl (hk ▸ hFp))
      · have f1 : Fr F w w2 := ((Fr.of_below (F := F) hb1).trans (Fr.one _ p 2 vn') (fun k _ e => e ▸ hFp)).trans hfr2 (fun k _ hk => g4 k (Or.inr (Or.inl hk)))
        have f2 := f1.trans (G := F) ((Fr.refl _ w2).drew.alloc (.cells #[.int .i64 kd, .string nm, .slice aod Ld capd, .int .i64 sz, .string t] 93)) (fun _ _ h => h)
        have f3 := f2.trans (Fr.of_grown (F := F) hg3 (fun k hk => g4 k (Or.inr (Or.inr (Or.inl (hC.wt.rowIn k hk)))))) (fun _ _ h => h)
        exact f3.trans (Fr.one w3 p 3 _) (fun k _ e => e ▸ hFp)
  clear hC hy hD hok hm hnm hi hz0 hz1 hz2 g4 hwl hFp
  show Calls Tryz.prog 102 #[.pointer (some ⟨p, 0, none⟩), .agg #[.int .i64 kd, .string nm, .slice aod Ld capd, .int .i64 sz, .string t]] w _
  go_enter Tryz.func102, Tryz.ntmps102
  go_wp2_with fail
  go_region_held (fun w' => w'.cell? ⟨w.heap.size, 0, none⟩ = some (.int .i64 kd) ∧ w'.cell? ⟨w.heap.size, 1, none⟩ = some (.string nm) ∧ w'.cell? ⟨w.heap.size, 2, none⟩ = some (.slice aod Ld capd) ∧ w'.cell? ⟨w.heap.size, 3, none⟩ = some (.int .i64 sz) ∧ w'.cell? ⟨w.heap.size, 4, none⟩ = some (.string t))
    (first | exact ⟨by simp, by simp, by simp, by simp, by simp⟩ | exact ⟨m0, m1, m2, m3, m4⟩)
    (first | (go_at_call 38; refine Calls.mono HA.out ?_; rintro e w2 ⟨rfl, c3, ⟨m0, m1, m2, m3, m4⟩, ao3, N3, cap3, w3, hap, e3, ef3, HX⟩))
  have hca1 : ∀ ob, (w2.alloc ob).cell? ⟨p, 3, none⟩ = some (.slice aow Nw capw) := fun ob => below_cell ((Below.refl _ _).alloc (Nat.le_refl _) ob) c3
  have hca2 : ∀ ob, (w2.drew.alloc ob).cell? ⟨p, 3, none⟩ = some (.slice aow Nw capw) := hca1
  clear HA
  go_wp2_with fail
  go_region_law (refine step_append_run rfl (.tmp 13) (.tmp 15) 71 71 rfl (.slice aow Nw capw) (.slice (some ⟨w2.heap.size, 0, none⟩) 1 1) (by simp [Act.eval]) (by simp [Act.eval]) (hap _) ?_)
  all_goals go_wp2
  all_goals go_end0
  all_goals exact ⟨rfl, HX.out.1, HX.out.2⟩
end Go.Proofs.YtjndgekpdmlbiaaGreatDoor.Dk
namespace Go.Proofs.YtjndgekpdmlbiaaGreatDoor.Dk
open Go.RowKit

/-- What a change of a disk leaves, from the call's first world. -/
theorem Dk.from {w w1 w' : World} {p : Nat} {s : St} {F D : Nat → Prop} (h : Dk w' p s (ext (fun k => F k ∨ D k) w1 w')) (hf : Fr F w1 w') (hb : Below w.heap.size w w1) (hF : ∀ k, F k → k < w.heap.size) (hD : ∀ k, D k → w.heap.size ≤ k ∧ k < w1.heap.size) : Dk w' p s (ext F w w') ∧ Fr F w w' := by
  refine ⟨h.mono (fun k hk => ?_) (ext_lt hF (Nat.le_trans hb.size hf.size)), (Fr.of_below hb).trans hf (fun _ _ h => h)⟩
  have h1 := hb.size
  have h2 := hf.size
  rcases hk with (hk | hk) | hk
  · exact Or.inl hk
  · exact Or.inr ⟨(hD k hk).1, by have := (hD k hk).2; omega⟩
  · exact Or.inr ⟨by omega, hk.2⟩

theorem Dk.has {w : World} {p : Nat} {s : St} {F : Nat → Prop} (h : Dk w p s F) (hm : s.mass ≤ 1000000000) : ∃ ao N cap, w.cell? ⟨p, 2, none⟩ = some (.slice ao N cap) ∧ N = s.now.length ∧ (∀ n w1, Below w.heap.size w w1 → Calls Tryz.prog 101 #[.slice ao N cap, .string n] w1 fun e w' => e = .returned (.bool (look n s.now).isSome) ∧ Below w1.heap.size w1 w') ∧
    (∀ w1, Below w.heap.size w w1 → Calls Tryz.prog 65 #[.slice ao N cap] w1 fun e w' => e = .returned (.int .i64 (used s.now)) ∧ Below w1.heap.size w1 w') := by
  obtain ⟨hgood, hFlt, vl, vn, vw, zl, zn, ws, Fa, Fn, Fw, hC, g1, g2, g3, g4⟩ := h
  have hnm := St.now_mass hgood
  have hum := used_mass (zn.map Ent.fl)
  rw [List.length_map] at hum
  rw [g2] at hum
  obtain ⟨ao, cap, e⟩ : ∃ ao cap, vn = .slice ao zn.length cap := by
    rcases hC.fn.shape with ⟨rfl, e⟩ | ⟨g, cap, rfl, _⟩
    · exact ⟨none, 0, by rw [e]⟩
    · exact ⟨_, _, rfl⟩
  subst e
  refine ⟨ao, zn.length, cap, hC.cells.2.2.1, by rw [← g2, List.length_map], fun n w1 hb => ?_, fun w1 hb => ?_⟩
  · have := has_any _ zn Fn n w1 (hC.fn.below hb) (by rw [g2]; exact St.now_srt hgood) (by omega)
    rw [g2] at this
    exact this
  · have := size_any _ zn Fn w1 (hC.fn.below hb) (by rw [g2]; omega)
    rw [g2] at this
    exact this
theorem Dk.cell0 {w : World} {p : Nat} {s : St} {F : Nat → Prop} (h : Dk w p s F) : w.cell? ⟨p, 0, none⟩ = some (.int .i64 s.room) := by
  obtain ⟨hgood, hFlt, vl, vn, vw, zl, zn, ws, Fa, Fn, Fw, hC, g1, g2, g3, g4⟩ := h
  exact hC.cells.1

set_option maxHeartbeats 1000000 in
set_option maxRecDepth 20000 in
theorem append_ok (p : Nat) (s : St) (F : Nat → Prop) (n : ByteArray) (bv : Value) (b : List UInt8) (w : World) (h : Dk w p s F) (hS : Sl w bv b) (hn : okN n = true) (hr : (used s.now : Int) + b.length ≤ s.room) (hl : (look n s.now).isSome = true ∨ s.now.length < 64) (hm : s.mass + b.length + 2 ≤ 1000000000) :
    Calls Tryz.prog 132 #[.pointer (some ⟨p, 0, none⟩), .string n, bv] w fun e w' => e = .returned (.int .i64 0) ∧ Dk w' p (s.push (.app n b)) (ext F w w') ∧ Fr F w w' := by
  obtain ⟨ao, N, cap, c2, hN, hhas, hsize⟩ := h.has (by omega)
  have c0 := h.cell0
  have HN : Hid (_) := name_any n w
  rw [hn] at HN
  have HH : Hid (_) := hhas n
  have HZ : Hid (_) := hsize
  obtain ⟨aob, capb, rfl, hb1, hb2⟩ := hS.shape
  have HCl : Hid (∀ w1, Below w.heap.size w w1 → Calls Tryz.prog 58 #[.slice aob b.length capb] w1 fun e w' => ∃ ao' L' cap', e = .returned (.slice ao' L' cap') ∧ Hid (Below w.heap.size w w') ∧ Hid (Calls Tryz.prog 102 #[.pointer (some ⟨p, 0, none⟩), .agg #[.int .i64 1, .string n, .slice ao' L' cap', .int .i64 0, .string ⟨#[]⟩]] w' fun e w2 => e = .returned (.tuple #[]) ∧ Hid (Dk w2 p (s.push (.app n b)) (ext F w w2) ∧ Fr F w w2))) := by
    intro w1 hb
    refine (clone_any _ b w1 (hS.below hb) (by omega)).mono ?_
    rintro e w' ⟨v', rfl, hO, hb'⟩
    obtain ⟨ao', L', cap', rfl⟩ := own_slice hO
    have hbw : Below w.heap.size w w' := hb.trans (hb'.mono hb.size)
    refine ⟨ao', L', cap', rfl, hbw, ?_⟩
    have hD : ∀ k, (Value.slice ao' L' cap').ownBlock = some k → w.heap.size ≤ k ∧ k < w'.heap.size := fun k hk => ⟨by have := (hO.lt k hk).1; have := hb.size; omega, (hO.lt k hk).2⟩
    refine (ddo_any p s F (fun k => (Value.slice ao' L' cap').ownBlock = some k) ⟨1, n, .slice ao' L' cap', 0, ⟨#[]⟩⟩ (.app n b) w' (h.below hbw) ⟨1, n, ao', L', cap', 0, ⟨#[]⟩, rfl, rfl, rfl, SlA.of_own hO (fun k hk hk' => hk' hk)⟩ (fun k hk => ⟨fun hF => by have := h.lt k hF; have := (hD k hk).1; omega, (hD k hk).2⟩) trivial (by simp only [Ch.mass]; omega)).mono ?_
    rintro e w2 ⟨rfl, hX, hf⟩
    exact ⟨rfl, hX.from hf hbw h.lt hD⟩
  have hr0 := h.good.r0
  have hr1 := h.good.r1
  obtain ⟨U, HU⟩ : ∃ U : Nat, Hid (U = used s.now) := ⟨used s.now, (rfl : _ = _)⟩
  rw [← HU.out] at HZ hr
  obtain ⟨R, HR⟩ : ∃ R : Int, Hid (R = s.room) := ⟨s.room, (rfl : _ = _)⟩
  rw [← HR.out] at c0 hr hr0 hr1
  have hW : IntKind.i64.wrap (R - (U : Int)) = R - (U : Int) := by rw [IntKind.wrap_i64]; omega
  have hcmp : ¬ (R - (U : Int) < (b.length : Int)) := by omega
  have hcmp2 : (b.length : Int) ≤ R - (U : Int) := by omega
  rw [← hN] at hl
  obtain ⟨B, HB⟩ : ∃ B : Bool, Hid (B = (look n s.now).isSome) := ⟨(look n s.now).isSome, (rfl : _ = _)⟩
  rw [← HB.out] at HH hl
  have HL : Hid (B = true ∨ N < 64) := hl
  have hb2i : (capb : Int) ≤ 9223372036854775807 := by have : capb ≤ 9223372036854775807 := hb2; omega
  clear h hS hn hhas hsize hl hb1 hm hr hN hb2 hb2i
  go_enter Tryz.func132, Tryz.ntmps132
  go_wp2_with (go_at_call 140; refine Calls.mono HN.out ?_; rintro e w' ⟨rfl, hw⟩; have hw' := hw.symm; subst hw')
  go_region_held (fun w' => w'.cell? ⟨p, 0, none⟩ = some (.int .i64 R) ∧ w'.cell? ⟨p, 2, none⟩ = some (.slice ao N cap))
    (first | exact ⟨c0, c2⟩ | exact ⟨c01, c21⟩)
    (first | (go_at_call 65; refine (HZ.out w.drew (Below.refl _ _).drew).mono ?_; rintro e w1 ⟨rfl, hb1⟩; have hb1' : Below w.heap.size w w1 := (Below.refl _ w).drew.trans hb1; have c01 := below_cell hb1' c0; have c21 := below_cell hb1' c2; have HB1 : Hid (Below w.heap.size w w1) := hb1'; clear hb1 hb1'))
  clear hW
  cases B with
  | true =>
    go_wp2_with (first
      | (go_at_call 101; refine (HH.out w1 HB1.out).mono ?_; rintro e w2 ⟨rfl, hb2'⟩; have hb3 := HB1.out.trans (hb2'.mono HB1.out.size); have c22 := below_cell hb2' c21)
      | (go_at_call 58; refine (HCl.out w2 hb3).mono ?_; rintro e w4 ⟨ao', L', cap', rfl, HB4, HD4⟩)
      | (go_at_call 102; refine HD4.out.mono ?_; rintro e w5 ⟨rfl, HX⟩))
    go_ret
    exact ⟨rfl, HX.out.1, HX.out.2⟩
  | false =>
    have hN64 : ¬ (64 : Int) ≤ (N : Int) := by
      rcases HL.out with h | h
      · simp at h
      · omega
    go_wp2_with (first
      | (go_at_call 101; refine (HH.out w1 HB1.out).mono ?_; rintro e w2 ⟨rfl, hb2'⟩; have hb3 := HB1.out.trans (hb2'.mono HB1.out.size); have c22 := below_cell hb2' c21)
      | (go_at_call 58; refine (HCl.out w2 hb3).mono ?_; rintro e w4 ⟨ao', L', cap', rfl, HB4, HD4⟩)
      | (go_at_call 102; refine HD4.out.mono ?_; rintro e w5 ⟨rfl, HX⟩))
    go_ret
    exact ⟨rfl, HX.out.1, HX.out.2⟩

set_option maxHeartbeats 1000000 in
set_option maxRecDepth 20000 in
theorem remove_none (p : Nat) (s : St) (F : Nat → Prop) (n : ByteArray) (w : World) (h : Dk w p s F) (hl : look n s.now = none) (hm : s.mass ≤ 1000000000) :
    Calls Tryz.prog 71 #[.pointer (some ⟨p, 0, none⟩), .string n] w fun e w' => e = .returned (.int .i64 14) ∧ Below w.heap.size w w' := by
  obtain ⟨ao, N, cap, c2, hN, hhas, hsize⟩ := h.has hm
  have HH : Hid (_) := hhas n
  rw [hl] at HH
  simp only [Option.isSome_none] at HH
  clear h hhas hsize hN hl
  go_enter Tryz.func71, Tryz.ntmps71
  go_wp2_with (go_at_call 101; refine (HH.out w (Below.refl _ _)).mono ?_; rintro e w2 ⟨rfl, hb2⟩)
  go_ret
  exact ⟨rfl, hb2⟩

/-- A change that takes no bytes along. -/
theorem ddo_bare (p : Nat) (s : St) (F : Nat → Prop) (y : Cv) (c : Ch) (w w1 : World) (h : Dk w p s F) (hb : Below w.heap.size w w1) (hy : ∀ w', ChV w' y.val c (fun _ => True)) (hok : Okc s.now c) (hm : s.mass + c.mass + 1 ≤ 1000000000) :
    Calls Tryz.prog 102 #[.pointer (some ⟨p, 0, none⟩), y.val] w1 fun e w' => e = .returned (.tuple #[]) ∧ Hid (Dk w' p (s.push c) (ext F w w') ∧ Fr F w w') := by
  refine (ddo_any p s F (fun _ => False) y c w1 (h.below hb) ((hy w1).mono (fun _ _ => trivial)) (fun _ h => h.elim) hok hm).mono ?_
  rintro e w2 ⟨rfl, hX, hf⟩
  exact ⟨rfl, hX.from hf hb h.lt (fun _ h => h.elim)⟩

set_option maxHeartbeats 1000000 in
set_option maxRecDepth 20000 in
theorem remove_some (p : Nat) (s : St) (F : Nat → Prop) (n : ByteArray) (w : World) (h : Dk w p s F) (hl : (look n s.now).isSome = true) (hm : s.mass + 1 ≤ 1000000000) :
    Calls Tryz.prog 71 #[.pointer (some ⟨p, 0, none⟩), .string n] w fun e w' => e = .returned (.int .i64 0) ∧ Dk w' p (s.push (.rem n)) (ext F w w') ∧ Fr F w w' := by
  obtain ⟨ao, N, cap, c2, hN, hhas, hsize⟩ := h.has (by omega)
  have HH : Hid (_) := hhas n
  rw [hl] at HH
  have HD : Hid (∀ w1, Below w.heap.size w w1 → Calls Tryz.prog 102 #[.pointer (some ⟨p, 0, none⟩), .agg #[.int .i64 3, .string n, .slice none 0 0, .int .i64 0, .string ⟨#[]⟩]] w1 fun e w' => e = .returned (.tuple #[]) ∧ Hid (Dk w' p (s.push (.rem n)) (ext F w w') ∧ Fr F w w')) :=
    fun w1 hb => ddo_bare p s F ⟨3, n, .slice none 0 0, 0, ⟨#[]⟩⟩ (.rem n) w w1 h hb (fun w' => ⟨3, n, none, 0, 0, 0, ⟨#[]⟩, rfl, rfl, rfl⟩) trivial (by simp only [Ch.mass]; omega)
  clear h hhas hsize hN hl
  go_enter Tryz.func71, Tryz.ntmps71
  go_wp2_with (first
    | (go_at_call 101; refine (HH.out w (Below.refl _ _)).mono ?_; rintro e w2 ⟨rfl, hb2⟩)
    | (go_at_call 102; refine (HD.out w2 hb2).mono ?_; rintro e w3 ⟨rfl, HX⟩))
  go_ret
  exact ⟨rfl, HX.out.1, HX.out.2⟩

set_option maxHeartbeats 1000000 in
set_option maxRecDepth 20000 in
theorem move_some (p : Nat) (s : St) (F : Nat → Prop) (n t : ByteArray) (w : World) (h : Dk w p s F) (hl : (look n s.now).isSome = true) (ht : okN t = true) (hm : s.mass + 1 ≤ 1000000000) :
    Calls Tryz.prog 134 #[.pointer (some ⟨p, 0, none⟩), .string n, .string t] w fun e w' => e = .returned (.int .i64 0) ∧ Dk w' p (s.push (.mov n t)) (ext F w w') ∧ Fr F w w' := by
  obtain ⟨ao, N, cap, c2, hN, hhas, hsize⟩ := h.has (by omega)
  have HH : Hid (_) := hhas n
  rw [hl] at HH
  have HN : Hid (∀ w1, Calls Tryz.prog 140 #[.string t] w1 fun e w' => e = .returned (.bool true) ∧ w' = w1) := fun w1 => by
    have := name_any t w1
    rw [ht] at this
    exact this
  have HD : Hid (∀ w1, Below w.heap.size w w1 → Calls Tryz.prog 102 #[.pointer (some ⟨p, 0, none⟩), .agg #[.int .i64 4, .string n, .slice none 0 0, .int .i64 0, .string t]] w1 fun e w' => e = .returned (.tuple #[]) ∧ Hid (Dk w' p (s.push (.mov n t)) (ext F w w') ∧ Fr F w w')) :=
    fun w1 hb => ddo_bare p s F ⟨4, n, .slice none 0 0, 0, t⟩ (.mov n t) w w1 h hb (fun w' => ⟨4, n, none, 0, 0, 0, t, rfl, rfl, rfl, rfl⟩) trivial (by simp only [Ch.mass]; omega)
  clear h hhas hsize hN hl ht
  go_enter Tryz.func134, Tryz.ntmps134
  go_wp2_with (first
    | (go_at_call 101; refine (HH.out w (Below.refl _ _)).mono ?_; rintro e w2 ⟨rfl, hb2⟩)
    | (go_at_call 140; refine (HN.out w2).mono ?_; rintro e w' ⟨rfl, hw⟩; have hw' := hw.symm; subst hw')
    | (go_at_call 102; refine (HD.out w2 hb2).mono ?_; rintro e w3 ⟨rfl, HX⟩))
  go_ret
  exact ⟨rfl, HX.out.1, HX.out.2⟩
end Go.Proofs.YtjndgekpdmlbiaaGreatDoor.Dk
namespace Go.Proofs.YtjndgekpdmlbiaaGreatDoor.Dk
open Go.RowKit

set_option maxHeartbeats 1000000 in
theorem append_form (p : Nat) (n : ByteArray) (ao : Option Addr) (L cap : Nat) (w : World) (hn : okN n = false) :
    Calls Tryz.prog 132 #[.pointer (some ⟨p, 0, none⟩), .string n, .slice ao L cap] w fun e w' => e = .returned (.int .i64 3) ∧ w' = w := by
  have HN : Hid (_) := name_any n w
  rw [hn] at HN
  clear hn
  go_enter Tryz.func132, Tryz.ntmps132
  go_wp2_with (go_at_call 140; refine Calls.mono HN.out ?_; rintro e w' ⟨rfl, hw⟩; have hw' := hw.symm; subst hw')
  go_ret
  exact ⟨rfl, rfl⟩

set_option maxHeartbeats 1000000 in
set_option maxRecDepth 20000 in
theorem append_room (p : Nat) (s : St) (F : Nat → Prop) (n : ByteArray) (ao0 : Option Addr) (L cap0 : Nat) (w : World) (h : Dk w p s F) (hn : okN n = true) (hr : s.room < (used s.now : Int) + L) (hL : L ≤ 1000000000) (hm : s.mass ≤ 1000000000) :
    Calls Tryz.prog 132 #[.pointer (some ⟨p, 0, none⟩), .string n, .slice ao0 L cap0] w fun e w' => e = .returned (.int .i64 2) ∧ Below w.heap.size w w' := by
  obtain ⟨ao, N, cap, c2, hN, hhas, hsize⟩ := h.has hm
  have c0 := h.cell0
  have HN : Hid (_) := name_any n w
  rw [hn] at HN
  have HZ : Hid (_) := hsize
  have hr0 := h.good.r0
  have hr1 := h.good.r1
  have hum := used_mass s.now
  have hnm := St.now_mass h.good
  obtain ⟨U, HU⟩ : ∃ U : Nat, Hid (U = used s.now) := ⟨used s.now, (rfl : _ = _)⟩
  rw [← HU.out] at HZ hr hum
  obtain ⟨R, HR⟩ : ∃ R : Int, Hid (R = s.room) := ⟨s.room, (rfl : _ = _)⟩
  rw [← HR.out] at c0 hr hr0 hr1
  have hW : IntKind.i64.wrap (R - (U : Int)) = R - (U : Int) := by rw [IntKind.wrap_i64]; omega
  have hcmp : R - (U : Int) < (L : Int) := by omega
  clear h hn hhas hsize hN hm hr hum hnm hL hr0 hr1
  go_enter Tryz.func132, Tryz.ntmps132
  go_wp2_with (go_at_call 140; refine Calls.mono HN.out ?_; rintro e w' ⟨rfl, hw⟩; have hw' := hw.symm; subst hw')
  go_region_held (fun w' => w'.cell? ⟨p, 0, none⟩ = some (.int .i64 R) ∧ w'.cell? ⟨p, 2, none⟩ = some (.slice ao N cap))
    (first | exact ⟨c0, c2⟩ | exact ⟨c01, c21⟩)
    (first | (go_at_call 65; refine (HZ.out w.drew (Below.refl _ _).drew).mono ?_; rintro e w1 ⟨rfl, hb1⟩; have hb1' : Below w.heap.size w w1 := (Below.refl _ w).drew.trans hb1; have c01 := below_cell hb1' c0; have c21 := below_cell hb1' c2; have HB1 : Hid (Below w.heap.size w w1) := hb1'; clear hb1 hb1'))
  clear hW
  go_wp2
  go_ret
  exact ⟨rfl, HB1.out⟩

set_option maxHeartbeats 1000000 in
set_option maxRecDepth 20000 in
theorem append_many (p : Nat) (s : St) (F : Nat → Prop) (n : ByteArray) (ao0 : Option Addr) (L cap0 : Nat) (w : World) (h : Dk w p s F) (hn : okN n = true) (hr : (used s.now : Int) + L ≤ s.room) (hl : look n s.now = none) (h64 : 64 ≤ s.now.length) (hm : s.mass ≤ 1000000000) :
    Calls Tryz.prog 132 #[.pointer (some ⟨p, 0, none⟩), .string n, .slice ao0 L cap0] w fun e w' => e = .returned (.int .i64 2) ∧ Below w.heap.size w w' := by
  obtain ⟨ao, N, cap, c2, hN, hhas, hsize⟩ := h.has hm
  have c0 := h.cell0
  have HN : Hid (_) := name_any n w
  rw [hn] at HN
  have HH : Hid (_) := hhas n
  rw [hl] at HH
  simp only [Option.isSome_none] at HH
  have HZ : Hid (_) := hsize
  have hr0 := h.good.r0
  have hr1 := h.good.r1
  have hum := used_mass s.now
  have hnm := St.now_mass h.good
  obtain ⟨U, HU⟩ : ∃ U : Nat, Hid (U = used s.now) := ⟨used s.now, (rfl : _ = _)⟩
  rw [← HU.out] at HZ hr hum
  obtain ⟨R, HR⟩ : ∃ R : Int, Hid (R = s.room) := ⟨s.room, (rfl : _ = _)⟩
  rw [← HR.out] at c0 hr hr0 hr1
  have hW : IntKind.i64.wrap (R - (U : Int)) = R - (U : Int) := by rw [IntKind.wrap_i64]; omega
  have hcmp : ¬ (R - (U : Int) < (L : Int)) := by omega
  have hN64 : (64 : Int) ≤ (N : Int) := by rw [hN]; omega
  clear h hn hhas hsize hN hm hr hum hnm hl h64 hr0 hr1
  go_enter Tryz.func132, Tryz.ntmps132
  go_wp2_with (go_at_call 140; refine Calls.mono HN.out ?_; rintro e w' ⟨rfl, hw⟩; have hw' := hw.symm; subst hw')
  go_region_held (fun w' => w'.cell? ⟨p, 0, none⟩ = some (.int .i64 R) ∧ w'.cell? ⟨p, 2, none⟩ = some (.slice ao N cap))
    (first | exact ⟨c0, c2⟩ | exact ⟨c01, c21⟩)
    (first | (go_at_call 65; refine (HZ.out w.drew (Below.refl _ _).drew).mono ?_; rintro e w1 ⟨rfl, hb1⟩; have hb1' : Below w.heap.size w w1 := (Below.refl _ w).drew.trans hb1; have c01 := below_cell hb1' c0; have c21 := below_cell hb1' c2; have HB1 : Hid (Below w.heap.size w w1) := hb1'; clear hb1 hb1'))
  clear hW
  go_wp2_with (go_at_call 101; refine (HH.out w1 HB1.out).mono ?_; rintro e w2 ⟨rfl, hb2'⟩; have hb3 := HB1.out.trans (hb2'.mono HB1.out.size); have c22 := below_cell hb2' c21)
  go_ret
  exact ⟨rfl, hb3⟩
end Go.Proofs.YtjndgekpdmlbiaaGreatDoor.Dk
namespace Go.Proofs.YtjndgekpdmlbiaaGreatDoor.Dk
open Go.RowKit

set_option maxHeartbeats 1000000 in
theorem cut_none (p : Nat) (s : St) (F : Nat → Prop) (n : ByteArray) (k : Int) (w : World) (h : Dk w p s F) (hl : look n s.now = none) (hm : s.mass ≤ 1000000000) :
    Calls Tryz.prog 78 #[.pointer (some ⟨p, 0, none⟩), .string n, .int .i64 k] w fun e w' => e = .returned (.int .i64 14) ∧ Below w.heap.size w w' := by
  obtain ⟨hgood, hFlt, vl, vn, vw, zl, zn, ws, Fa, Fn, Fw, hC, g1, g2, g3, g4⟩ := h
  have hnm := St.now_mass hgood
  have hum := used_mass (zn.map Ent.fl)
  rw [List.length_map] at hum
  rw [← g2] at hl hnm
  rcases splitE n zn (by rw [g2]; exact St.now_srt hgood) with ⟨ul, z, ur, hh⟩ | ⟨ul, ur, hh⟩
  · rw [hh.hit.lookE] at hl
    simp at hl
  · have HF : Hid (_) := find_miss vn zn Fn n ul ur w hC.fn hh (by omega)
    have c2 := hC.cells.2.2.1
    obtain ⟨ao, N, cap, rfl⟩ := own_slice hC.fn.row
    clear hC hgood g1 g2 g3 g4 hh hl hum hnm
    go_enter Tryz.func78, Tryz.ntmps78
    go_wp2_with (go_at_call 97; refine Calls.mono HF.out ?_; rintro e w1 ⟨rfl, hb1⟩)
    go_ret
    exact ⟨rfl, hb1⟩

/-- What Cut meets where the file is there. -/
theorem Dk.there {w : World} {p : Nat} {s : St} {F : Nat → Prop} {n : ByteArray} {f : Fl} (h : Dk w p s F) (hl : look n s.now = some f) (hm : s.mass ≤ 1000000000) :
    ∃ (g N cap i : Nat) (aod : Option Addr) (capd : Nat), w.cell? ⟨p, 2, none⟩ = some (.slice (some ⟨g, 0, none⟩) N cap) ∧ (i : Int) < (N : Int) ∧ w.cell? ⟨g, i * 2 + 1, none⟩ = some (.slice aod f.bs.length capd) ∧ f.bs.length ≤ 1000000000 ∧
      Calls Tryz.prog 97 #[.slice (some ⟨g, 0, none⟩) N cap, .string n] w fun e w' => e = .returned (.tuple #[.int .i64 i, .bool true]) ∧ Below w.heap.size w w' := by
  obtain ⟨hgood, hFlt, vl, vn, vw, zl, zn, ws, Fa, Fn, Fw, hC, g1, g2, g3, g4⟩ := h
  have hnm := St.now_mass hgood
  have hum := used_mass (zn.map Ent.fl)
  rw [List.length_map] at hum
  rw [← g2] at hl hnm
  rcases splitE n zn (by rw [g2]; exact St.now_srt hgood) with ⟨ul, z, ur, hh⟩ | ⟨ul, ur, hh⟩
  · have hz := hh.hit.lookE
    rw [hl] at hz
    simp only [Option.some.injEq] at hz
    have hzb : z.bs = f.bs := by rw [hz]; rfl
    have HF := find_hit vn zn Fn n ul z ur w hC.fn hh (by omega)
    have c2 := hC.cells.2.2.1
    have hzm : z ∈ zn := by rw [hh.1]; simp
    have hdat := hC.fn.data z hzm
    have hzl : z.bs.length ≤ 1000000000 := by
      have : z.bs.length ≤ mass (zn.map Ent.fl) := by
        rw [hh.1, List.map_append, mass_append, List.map_cons, mass_cons]
        simp only [Ent.fl]
        omega
      omega
    have hmid : Fol w vn (ul ++ z :: ur) Fn := hh.1 ▸ hC.fn
    obtain ⟨g, N, cap, rfl, k1, k2, k3, k4, k5, k6⟩ := shape_mid hmid
    have hsl := Sl.of_own hdat
    obtain ⟨aod, capd, hd, _, _⟩ := hsl.shape
    rw [hd, hzb] at k6
    exact ⟨g, N, cap, ul.length, aod, capd, c2, by omega, k6, by rw [← hzb]; exact hzl, HF⟩
  · rw [hh.miss.lookE] at hl
    simp at hl

set_option maxHeartbeats 1000000 in
set_option maxRecDepth 20000 in
theorem cut_range (p : Nat) (s : St) (F : Nat → Prop) (n : ByteArray) (k : Int) (f : Fl) (w : World) (h : Dk w p s F) (hl : look n s.now = some f) (hk : k < 0 ∨ (f.bs.length : Int) < k) (hm : s.mass ≤ 1000000000) :
    Calls Tryz.prog 78 #[.pointer (some ⟨p, 0, none⟩), .string n, .int .i64 k] w fun e w' => e = .returned (.int .i64 1) ∧ Below w.heap.size w w' := by
  obtain ⟨g, N, cap, i, aod, capd, c2, hi, k6, hfl, HF'⟩ := h.there hl hm
  have HF : Hid (_) := HF'
  clear h hl HF'
  have hi0 : (0 : Int) ≤ (i : Int) := by omega
  generalize f.bs.length = L at *
  by_cases hk0 : k < 0
  · clear hk
    go_enter Tryz.func78, Tryz.ntmps78
    go_wp2_with (go_at_call 97; refine Calls.mono HF.out ?_; rintro e w1 ⟨rfl, hb1⟩; have c21 := below_cell hb1 c2; have k61 := below_cell hb1 k6)
    go_ret
    exact ⟨rfl, hb1⟩
  · have hkL : (L : Int) < k := by omega
    clear hk
    go_enter Tryz.func78, Tryz.ntmps78
    go_wp2_with (go_at_call 97; refine Calls.mono HF.out ?_; rintro e w1 ⟨rfl, hb1⟩; have c21 := below_cell hb1 c2; have k61 := below_cell hb1 k6)
    go_ret
    exact ⟨rfl, hb1⟩

set_option maxHeartbeats 1000000 in
set_option maxRecDepth 20000 in
theorem cut_ok (p : Nat) (s : St) (F : Nat → Prop) (n : ByteArray) (k : Nat) (f : Fl) (w : World) (h : Dk w p s F) (hl : look n s.now = some f) (hk : k ≤ f.bs.length) (hm : s.mass + 1 ≤ 1000000000) :
    Calls Tryz.prog 78 #[.pointer (some ⟨p, 0, none⟩), .string n, .int .i64 (k : Int)] w fun e w' => e = .returned (.int .i64 0) ∧ Dk w' p (s.push (.cut n k)) (ext F w w') ∧ Fr F w w' := by
  obtain ⟨g, N, cap, i, aod, capd, c2, hi, k6, hfl, HF'⟩ := h.there hl (by omega)
  have HF : Hid (_) := HF'
  have HD : Hid (∀ w1, Below w.heap.size w w1 → Calls Tryz.prog 102 #[.pointer (some ⟨p, 0, none⟩), .agg #[.int .i64 2, .string n, .slice none 0 0, .int .i64 (k : Int), .string ⟨#[]⟩]] w1 fun e w' => e = .returned (.tuple #[]) ∧ Hid (Dk w' p (s.push (.cut n k)) (ext F w w') ∧ Fr F w w')) :=
    fun w1 hb => ddo_bare p s F ⟨2, n, .slice none 0 0, (k : Int), ⟨#[]⟩⟩ (.cut n k) w w1 h hb (fun w' => ⟨2, n, none, 0, 0, (k : Int), ⟨#[]⟩, rfl, rfl, rfl, rfl⟩) (fun f' hf' => by rw [hl] at hf'; cases hf'; exact hk) (by simp only [Ch.mass]; omega)
  clear h hl HF'
  have hi0 : (0 : Int) ≤ (i : Int) := by omega
  have hk0 : ¬ (k : Int) < 0 := by omega
  have hkL : ¬ (f.bs.length : Int) < (k : Int) := by omega
  generalize f.bs.length = L at *
  clear hk
  go_enter Tryz.func78, Tryz.ntmps78
  go_wp2_with (first
    | (go_at_call 97; refine Calls.mono HF.out ?_; rintro e w1 ⟨rfl, hb1⟩; have c21 := below_cell hb1 c2; have k61 := below_cell hb1 k6)
    | (go_at_call 102; refine (HD.out w1 hb1).mono ?_; rintro e w3 ⟨rfl, HX⟩))
  go_ret
  exact ⟨rfl, HX.out.1, HX.out.2⟩

set_option maxHeartbeats 1000000 in
theorem move_none (p : Nat) (s : St) (F : Nat → Prop) (n t : ByteArray) (w : World) (h : Dk w p s F) (hl : look n s.now = none) (hm : s.mass ≤ 1000000000) :
    Calls Tryz.prog 134 #[.pointer (some ⟨p, 0, none⟩), .string n, .string t] w fun e w' => e = .returned (.int .i64 14) ∧ Below w.heap.size w w' := by
  obtain ⟨ao, N, cap, c2, hN, hhas, hsize⟩ := h.has hm
  have HH : Hid (_) := hhas n
  rw [hl] at HH
  simp only [Option.isSome_none] at HH
  clear h hhas hsize hN hl
  go_enter Tryz.func134, Tryz.ntmps134
  go_wp2_with (go_at_call 101; refine (HH.out w (Below.refl _ _)).mono ?_; rintro e w2 ⟨rfl, hb2⟩)
  go_ret
  exact ⟨rfl, hb2⟩

set_option maxHeartbeats 1000000 in
theorem move_form (p : Nat) (s : St) (F : Nat → Prop) (n t : ByteArray) (w : World) (h : Dk w p s F) (hl : (look n s.now).isSome = true) (ht : okN t = false) (hm : s.mass ≤ 1000000000) :
    Calls Tryz.prog 134 #[.pointer (some ⟨p, 0, none⟩), .string n, .string t] w fun e w' => e = .returned (.int .i64 3) ∧ Below w.heap.size w w' := by
  obtain ⟨ao, N, cap, c2, hN, hhas, hsize⟩ := h.has hm
  have HH : Hid (_) := hhas n
  rw [hl] at HH
  have HN : Hid (∀ w1, Calls Tryz.prog 140 #[.string t] w1 fun e w' => e = .returned (.bool false) ∧ w' = w1) := fun w1 => by
    have := name_any t w1
    rw [ht] at this
    exact this
  clear h hhas hsize hN hl ht
  go_enter Tryz.func134, Tryz.ntmps134
  go_wp2_with (first
    | (go_at_call 101; refine (HH.out w (Below.refl _ _)).mono ?_; rintro e w2 ⟨rfl, hb2⟩)
    | (go_at_call 140; refine (HN.out w2).mono ?_; rintro e w' ⟨rfl, hw⟩; have hw' := hw.symm; subst hw'))
  go_ret
  exact ⟨rfl, hb2⟩
end Go.Proofs.YtjndgekpdmlbiaaGreatDoor.Dk
namespace Go.Proofs.YtjndgekpdmlbiaaGreatDoor.Dk
open Go.RowKit

theorem elem32 : Tryz.prog.underlying 33 = some (.slice (Tryz.prog.elem 33)) := by kernel_rfl
theorem size32 (w : World) : (sizeOf (Tryz.prog.elem 33)).run Tryz.prog w = .ok 1 w := by kernel_rfl
/-- The front of a slice of bytes, its place kept. -/
theorem slice_front (ao : Option Addr) (L cap k : Nat) (hk : k ≤ L) (hc : L ≤ cap) (w' : World) : (Instr.slice 33 (.slice ao L cap) none (some (.int .i64 (k : Int))) none).run Tryz.prog w' = .ok (.slice ao k cap) w' ∧ (Instr.sliceAt 33 (.slice ao L cap) none (some (.int .i64 (k : Int))) none).run Tryz.prog w' = .ok (.slice ao k cap) w' := by
  have e : (Instr.slice 33 (.slice ao L cap) none (some (.int .i64 (k : Int))) none).run Tryz.prog w' = .ok (.slice ao k cap) w' := by
    rw [run_slice_h w' 33 ao L cap elem32 .i64 k (by omega) (by omega), size32]
    simp [Result.andThen, sliced]
    cases ao <;> simp [Addr.add]
  exact ⟨e, by rw [run_sliceAt_slice (P := Tryz.prog) w' 33 _ _ _ _ elem32]; exact e⟩

set_option maxHeartbeats 1000000 in
set_option maxRecDepth 20000 in
theorem tear_go (b o : Nat) (v : Value) (zs : List Ent) (F : Nat → Prop) (cv : Value) (n : ByteArray) (bs : List UInt8) (k : Nat) (w : World) (hc : w.cell? ⟨b, o, none⟩ = some v) (hfz : w.frozen? ⟨b, o, none⟩ = false) (hF : Fol w v zs F) (hbF : ¬ F b) (hs : Srt (zs.map Ent.fl))
    (hV : ChV w cv (.app n bs) (fun k => F k ∨ k = b)) (hm : mass (zs.map Ent.fl) + bs.length ≤ 1000000000) :
    Calls Tryz.prog 39 #[.pointer (some ⟨b, o, none⟩), cv, .int .i64 (k : Int)] w fun e w' => e = .returned (.tuple #[]) ∧ Chg w w' b o F (ap (zs.map Ent.fl) (.app n (bs.take k))) := by
  obtain ⟨kd, nm, ao, L, cap, sz, t, rfl, rfl, rfl, hS⟩ := hV
  have hbw := cell_lt hc
  have hL : L = bs.length := hS.sl.len
  have hcap : L ≤ cap ∧ cap ≤ 9223372036854775807 := by
    obtain ⟨_, _, e, h1, h2⟩ := hS.sl.shape
    simp only [Value.slice.injEq] at e
    obtain ⟨_, e2, rfl⟩ := e
    exact ⟨by omega, h2⟩
  have hb1 : Below w.heap.size w (w.alloc (.cells #[.int .i64 1, .string nm, .slice ao L cap, .int .i64 sz, .string t] 93)) := (Below.refl _ _).alloc (Nat.le_refl _) _
  obtain ⟨m, hmin, HM⟩ : ∃ m : Nat, min (k : Int) (L : Int) = (m : Int) ∧ Hid (m = min k L) := ⟨min k L, by omega, rfl⟩
  have hmin2 : (if (L : Int) < (k : Int) then (L : Int) else (k : Int)) = (m : Int) := by rw [← hmin]; split <;> omega
  have hmin3 : (if L < k then (L : Int) else (k : Int)) = (m : Int) := by rw [← hmin]; split <;> omega
  have hmL : m ≤ L := by have := HM.out; omega
  have hS' : SlA w (.slice ao m cap) (bs.take k) (fun k => F k ∨ k = b) := by
    refine ⟨?_, fun a n' c' e => hS.away a L cap (by simp only [Value.slice.injEq] at e; rw [e.1])⟩
    have h1 := hS.sl.take m (by omega)
    have e : bs.take m = bs.take k := by
      rw [HM.out, hL]
      rcases Nat.le_total k bs.length with h | h
      · rw [Nat.min_eq_left h]
      · rw [Nat.min_eq_right h, List.take_of_length_le (Nat.le_refl _), List.take_of_length_le h]
    rw [e] at h1
    exact h1
  have HA : Hid (∀ w1, Below w.heap.size w w1 → Calls Tryz.prog 59 #[.pointer (some ⟨b, o, none⟩), .string nm, .slice ao m cap] w1 fun e w' => e = .returned (.tuple #[]) ∧ Hid (Chg w w' b o F (ap (zs.map Ent.fl) (.app nm (bs.take k)))) ∧ Hid (∀ p u, w1.cell? p = some u → p.block ≠ b → ¬ F p.block → w'.cell? p = some u)) := by
    intro w1 hb
    refine (add_any b o v zs F nm _ (bs.take k) w1 (below_cell hb hc) ((below_frozen hb hc).trans hfz) (hF.below hb) hbF hs (hS'.kept (Fr.of_below hb)) (by rw [List.length_take]; omega)).mono ?_
    rintro e w' ⟨rfl, hX⟩
    refine ⟨rfl, hX.from hb hF.lt, fun p u hp hpb hpF => ?_⟩
    obtain ⟨v', _, _, _, hfr⟩ := hX
    exact hfr.cell (by rw [World.cell?_setCell_other _ _ _ _ (fun e => hpb (by rw [← e]))]; exact hp) hpF
  have hsl := fun w' => slice_front ao L cap m hmL hcap.1 w'
  have hmF : ¬ F w.heap.size := fun h => by have := hF.lt _ h; omega
  have hmb : w.heap.size ≠ b := fun e => by omega
  have HB : Hid (_) := hb1
  have hk0 : ¬ ((k : Int) < 0) := by omega
  clear hF hS hS' hs hm HM hb1 hc hfz hmL hL
  go_enter Tryz.func39, Tryz.ntmps39
  go_wp2_with fail
  go_region_held (fun w' => w'.cell? ⟨w.heap.size, 1, none⟩ = some (.string nm) ∧ w'.cell? ⟨w.heap.size, 2, none⟩ = some (.slice ao L cap) ∧ (Instr.slice 33 (.slice ao L cap) none (some (.int .i64 (m : Int))) none).run Tryz.prog w' = .ok (.slice ao m cap) w' ∧ (Instr.sliceAt 33 (.slice ao L cap) none (some (.int .i64 (m : Int))) none).run Tryz.prog w' = .ok (.slice ao m cap) w')
    (first | exact ⟨by simp, by simp, (hsl _).1, (hsl _).2⟩ | exact ⟨MM.out _ _ (by simp) hmb hmF, MM.out _ _ (by simp) hmb hmF, (hsl _).1, (hsl _).2⟩)
    (first | (go_at_call 59; refine (HA.out _ HB.out.drew).mono ?_; rintro e w6 ⟨rfl, HX, MM⟩))
  go_wp2
  go_end0
  exact ⟨rfl, HX.out⟩

theorem tear_any (b o : Nat) (v : Value) (zs : List Ent) (F : Nat → Prop) (cv : Value) (c : Ch) (k : Int) (w : World) (hc : w.cell? ⟨b, o, none⟩ = some v) (hfz : w.frozen? ⟨b, o, none⟩ = false) (hF : Fol w v zs F) (hbF : ¬ F b) (hs : Srt (zs.map Ent.fl))
    (hV : ChV w cv c (fun k => F k ∨ k = b)) (hm : mass (zs.map Ent.fl) + c.mass ≤ 1000000000) :
    Calls Tryz.prog 39 #[.pointer (some ⟨b, o, none⟩), cv, .int .i64 k] w fun e w' => e = .returned (.tuple #[]) ∧ Chg w w' b o F (torn (zs.map Ent.fl) c k) := by
  by_cases hk : k < 0
  · exact tear_not b o v zs F cv c k w hc hF hV (Or.inr hk)
  · cases c with
    | app n bs =>
      obtain ⟨q, rfl⟩ : ∃ q : Nat, k = (q : Int) := ⟨k.toNat, by omega⟩
      have e : torn (zs.map Ent.fl) (.app n bs) (q : Int) = ap (zs.map Ent.fl) (.app n (bs.take q)) := by
        simp only [torn, if_neg hk, Int.toNat_natCast]
      rw [e]
      exact tear_go b o v zs F cv n bs q w hc hfz hF hbF hs hV (by simp only [Ch.mass] at hm; omega)
    | cut n q => exact tear_not b o v zs F cv _ k w hc hF hV (Or.inl rfl)
    | rem n => exact tear_not b o v zs F cv _ k w hc hF hV (Or.inl rfl)
    | mov n q => exact tear_not b o v zs F cv _ k w hc hF hV (Or.inl rfl)
end Go.Proofs.YtjndgekpdmlbiaaGreatDoor.Dk

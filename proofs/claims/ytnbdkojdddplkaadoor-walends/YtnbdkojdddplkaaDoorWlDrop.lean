/- The walks of dropBack and dropFront. -/
import Derived.Test.YtnbdkojdddplkaaDoorWlDel
namespace Go.Proofs.YtnbdkojdddplkaaDoor.Wl
open Go.RowKit Dk

theorem cellsK_take (rs : List Re) (k : Nat) : (cellsK rs).take (k * 2) = cellsK (rs.take k) := by
  by_cases h : k ≤ rs.length
  · have e : rs = rs.take k ++ rs.drop k := by simp
    have hl : (cellsK (rs.take k)).length = k * 2 := by rw [cellsK_len, List.length_take, Nat.min_eq_left h]
    conv => lhs; rw [e, cellsK_append]
    rw [← hl, List.take_left]
  · rw [List.take_of_length_le (by rw [cellsK_len]; omega), List.take_of_length_le (by omega)]
theorem cellsK_drop (rs : List Re) (k : Nat) : (cellsK rs).drop (k * 2) = cellsK (rs.drop k) := by
  by_cases h : k ≤ rs.length
  · have e : rs = rs.take k ++ rs.drop k := by simp
    have hl : (cellsK (rs.take k)).length = k * 2 := by rw [cellsK_len, List.length_take, Nat.min_eq_left h]
    conv => lhs; rw [e, cellsK_append]
    rw [← hl, List.drop_left]
  · rw [List.drop_eq_nil_of_le (by rw [cellsK_len]; omega), List.drop_eq_nil_of_le (by omega)]
    rfl
theorem Lg.ones {w : World} {p pd : Nat} {first : Int} {vr : Value} {rs : List Re} {G : Nat → Prop} (h : Lg w p pd first vr rs G) : ∀ u ∈ cellsK rs, u.oneCell' = true := by
  intro u hu
  simp only [cellsK, List.mem_flatMap, Re.cells, List.mem_cons, List.not_mem_nil, or_false] at hu
  obtain ⟨r, hr, rfl | rfl⟩ := hu
  · obtain ⟨ao, cap, e, _, _⟩ := (h.data r hr).sl.shape
    rw [e]
    rfl
  · rfl

/-- A log whose row has been written anew in its place. -/
theorem Lg.redo2 {w wz : World} {p pd : Nat} {first first' : Int} {vr vr' : Value} {rs rs' : List Re} {G : Nat → Prop} (h : Lg w p pd first vr rs G) (hF : Dk.Fr (fun k => k = p ∨ vr.ownBlock = some k) w wz) (hO : wz.ownsRow 0 82 2 vr' rs'.length (cellsK rs')) (hob : vr'.ownBlock = vr.ownBlock)
    (hp : wz.heap[p]? = some (.cells #[.pointer (some ⟨pd, 0, none⟩), .int .i64 first', vr'] 65 (0, 0))) (hsub : ∀ r ∈ rs', ∃ r0 ∈ rs, r.dv = r0.dv ∧ r.data = r0.data)
    (hfins : ∀ i (hi : i < rs'.length), rs'[i].fin = (fileB first' ((rs'.map Re.data).take (i + 1))).length) (hzero : rs' = [] → first' = 0) (hfit : 0 ≤ first' ∧ first' + rs'.length ≤ 9223372036854775808) :
    Lg wz p pd first' vr' rs' G ∧ Dk.Fr (fun k => G k ∨ k = p) w wz := by
  refine ⟨⟨hp, hO, fun r hr => ?_, fun r hr a m c e => ?_, fun k hk => h.rowIn k (hob ▸ hk), fun k hk => Nat.lt_of_lt_of_le (h.lt k hk) hF.size, h.np, hfins, hzero, hfit⟩, hF.mono (fun k _ hk => ?_)⟩
  · obtain ⟨r0, hr0, e1, e2⟩ := hsub r hr
    rw [e1, e2]
    have hv := h.data r0 hr0
    have h1 : SlA w r0.dv r0.data (fun k => k = p ∨ vr.ownBlock = some k) := ⟨hv.sl, fun a n c e hH => by
      rcases hH with hH | hH
      · exact hv.away a n c e (fun hEa => h.np (hH ▸ hEa))
      · exact h.away r0 hr0 a n c e hH⟩
    exact ⟨(h1.kept hF).sl, hv.away⟩
  · obtain ⟨r0, hr0, e1, e2⟩ := hsub r hr
    rw [hob]
    exact h.away r0 hr0 a m c (e1 ▸ e)
  · rcases hk with rfl | hk
    · exact Or.inr rfl
    · exact Or.inl (h.rowIn k hk)
theorem Lg.redo {w w1 wz : World} {p pd : Nat} {first first' : Int} {vr vr' : Value} {rs rs' : List Re} {G : Nat → Prop} (h : Lg w p pd first vr rs G) (hg : w.grownBy w1 vr.ownBlock) (hO : w1.ownsRow 0 82 2 vr' rs'.length (cellsK rs')) (hob : vr'.ownBlock = vr.ownBlock)
    (hp : wz.heap[p]? = some (.cells #[.pointer (some ⟨pd, 0, none⟩), .int .i64 first', vr'] 65 (0, 0))) (hfz : Dk.Fr (fun k => k = p) w1 wz) (hsub : ∀ r ∈ rs', ∃ r0 ∈ rs, r.dv = r0.dv ∧ r.data = r0.data)
    (hfins : ∀ i (hi : i < rs'.length), rs'[i].fin = (fileB first' ((rs'.map Re.data).take (i + 1))).length) (hzero : rs' = [] → first' = 0) (hfit : 0 ≤ first' ∧ first' + rs'.length ≤ 9223372036854775808) :
    Lg wz p pd first' vr' rs' G ∧ Dk.Fr (fun k => G k ∨ k = p) w wz :=
  h.redo2 ((Fr.of_grown hg (fun _ hk => Or.inr hk)).trans hfz (fun _ _ e => Or.inl e)) (own_kept hO hfz (fun k hk e => h.np (e ▸ h.rowIn k (hob ▸ hk)))) hob hp hsub hfins hzero hfit

set_option maxHeartbeats 2000000 in
set_option maxRecDepth 20000 in
theorem dropBack_any (p pd : Nat) (first : Int) (vr : Value) (rs : List Re) (G : Nat → Prop) (k : Nat) (w : World) (h : Lg w p pd first vr rs G) (hk : k < rs.length) (hl : rs.length ≤ 1000000000) :
    Calls Tryd.prog 38 #[.pointer (some ⟨p, 0, none⟩), .int .i64 (k : Int)] w fun e w' => e = .returned (.tuple #[]) ∧ Hid ((∃ vr', Lg w' p pd (if k = 0 then 0 else first) vr' (rs.take k) G) ∧ Dk.Fr (fun k => G k ∨ k = p) w w') := by
  have hones := h.ones
  obtain ⟨f', Hf'⟩ : ∃ f', Hid (f' = if k = 0 then 0 else first) := ⟨if k = 0 then 0 else first, (rfl : _ = _)⟩
  rw [← Hf'.out]
  have HK : Hid (∀ m, Calls Tryd.prog 59 #[vr, .int .i64 (k : Int), .int .i64 (rs.length : Int)] (w.drewN m).drew fun e w1 => ∃ ao L cap, e = .returned (.slice ao L cap) ∧ (∃ u, w1.cell? ⟨p, 2, none⟩ = some u) ∧ (∃ u, (w1.setCell ⟨p, 2, none⟩ (.slice ao L cap)).cell? ⟨p, 1, none⟩ = some u) ∧ w1.frozen? ⟨p, 2, none⟩ = false ∧ (w1.setCell ⟨p, 2, none⟩ (.slice ao L cap)).frozen? ⟨p, 1, none⟩ = false ∧ Hid (∀ wz, wz = (if k = 0 then (w1.setCell ⟨p, 2, none⟩ (.slice ao L cap)).setCell ⟨p, 1, none⟩ (.int .i64 0) else w1.setCell ⟨p, 2, none⟩ (.slice ao L cap)) → (∃ vr', Lg wz p pd f' vr' (rs.take k) G) ∧ Dk.Fr (fun k => G k ∨ k = p) w wz)) := by
    intro m
    have hbd : Below w.heap.size w (w.drewN m).drew := ⟨rfl, rfl, rfl, Nat.le_refl _, fun _ _ => rfl⟩
    have hd := h.below hbd
    refine (delete_recs vr rs.length k rs.length (cellsK rs) (w.drewN m).drew hd.row hk (Nat.le_refl _) hl hones).mono ?_
    rintro e w1 ⟨v', rfl, hO, hg, hob⟩
    obtain ⟨ao, L, cap, rfl⟩ := own_slice hO
    have hcs : (cellsK rs).take (k * 2) ++ (cellsK rs).drop (rs.length * 2) = cellsK (rs.take k) := by
      rw [cellsK_take, List.drop_eq_nil_of_le (by rw [cellsK_len]; omega), List.append_nil]
    rw [hcs] at hO
    have hln : rs.length - (rs.length - k) = (rs.take k).length := by rw [List.length_take]; omega
    rw [hln] at hO
    have hp1 : w1.heap[p]? = some (.cells #[.pointer (some ⟨pd, 0, none⟩), .int .i64 first, vr] 65 (0, 0)) := by
      rw [hg.block p h.plt (fun e => h.np (h.rowIn p e.symm))]
      exact h.heap
    have hp2 : (w1.setCell ⟨p, 2, none⟩ (.slice ao L cap)).heap[p]? = some (.cells #[.pointer (some ⟨pd, 0, none⟩), .int .i64 first, .slice ao L cap] 65 (0, 0)) := by
      rw [heap_set hp1]; rfl
    refine ⟨ao, L, cap, rfl, ⟨_, by rw [cell_of_row w1 p 2 _ _ _ hp1]; rfl⟩, ⟨_, by rw [cell_of_row _ p 1 _ _ _ hp2]; rfl⟩, by simp [World.frozen?, hp1], by simp [World.frozen?, hp2], ?_⟩
    rintro wz rfl
    have hf' := Hf'.out
    have hfits := h.fit
    have hsub : ∀ r ∈ rs.take k, ∃ r0 ∈ rs, r.dv = r0.dv ∧ r.data = r0.data := fun r hr => ⟨r, List.mem_of_mem_take hr, rfl, rfl⟩
    have hfinsT : ∀ i (hi : i < (rs.take k).length), (rs.take k)[i].fin = (fileB first (((rs.take k).map Re.data).take (i + 1))).length := by
      intro i hi
      have hik : i < k := by rw [List.length_take] at hi; omega
      rw [List.getElem_take, h.fins i (by omega), List.map_take, List.take_take, Nat.min_eq_left (by omega)]
    have hgw : w.grownBy w1 vr.ownBlock := ⟨hg.os, hg.tape, hg.output, hg.size, hg.block⟩
    by_cases hk0 : k = 0
    · rw [if_pos hk0] at hf' ⊢
      subst hf'
      obtain ⟨a1, a2⟩ := h.redo (wz := (w1.setCell ⟨p, 2, none⟩ (.slice ao L cap)).setCell ⟨p, 1, none⟩ (.int .i64 0)) (first' := 0) hgw hO hob (by rw [heap_set hp2]; rfl) ((Fr.one _ _ _ _).trans (Fr.one _ _ _ _) (fun _ _ e => e)) hsub (by subst hk0; intro i hi; simp at hi) (fun _ => rfl) ⟨Int.le_refl _, by rw [hk0]; simp⟩
      exact ⟨⟨_, a1⟩, a2⟩
    · rw [if_neg hk0] at hf' ⊢
      subst hf'
      obtain ⟨a1, a2⟩ := h.redo (wz := w1.setCell ⟨p, 2, none⟩ (.slice ao L cap)) (first' := f') hgw hO hob hp2 (Fr.one _ _ _ _) hsub hfinsT (fun e => by have hz := congrArg List.length e; rw [List.length_take, List.length_nil] at hz; omega) ⟨hfits.1, by rw [List.length_take]; omega⟩
      exact ⟨⟨_, a1⟩, a2⟩
  obtain ⟨c0, c1, c2, cz⟩ := h.cells
  obtain ⟨ao0, cap0, rfl, _⟩ := h.shape
  clear hones h
  have HD : Hid (∀ m, (w.drewN m).drew.cell? ⟨p, 2, none⟩ = some (.slice ao0 rs.length cap0)) := fun m => c2
  have HKm : Hid (_) := HK.out 0
  have HDm := HD.out 0
  change w.drew.cell? _ = _ at HDm
  generalize rs.length = N at *
  by_cases hk0 : k = 0
  · subst hk0
    go_enter Tryd.func38, Tryd.ntmps38
    go_wp2_with fail
    go_region_with (go_at_call 59; refine Calls.mono HKm.out ?_; rintro e w1 ⟨ao, L, cap, rfl, ⟨u1, d1⟩, ⟨u2, d2⟩, d3, d4, HX⟩)
    all_goals go_wp2
    all_goals go_end0
    all_goals exact ⟨rfl, HX.out _ (by simp)⟩
  · have hne : ((k : Int) == 0) = false := by rw [beq_eq_false_iff_ne]; omega
    go_enter Tryd.func38, Tryd.ntmps38
    go_wp2_with fail
    go_region_with (go_at_call 59; refine Calls.mono HKm.out ?_; rintro e w1 ⟨ao, L, cap, rfl, ⟨u1, d1⟩, ⟨u2, d2⟩, d3, d4, HX⟩)
    all_goals go_wp2
    all_goals go_end0
    all_goals exact ⟨rfl, HX.out _ (by simp [hk0])⟩
end Go.Proofs.YtnbdkojdddplkaaDoor.Wl

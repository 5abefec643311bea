/- The walk of dropFront. -/
import Derived.Test.YtnbdkojdddplkaaDoorWlDrop
namespace Go.Proofs.YtnbdkojdddplkaaDoor.Wl
open Go.RowKit Dk

def shiftR (b : Nat) (r : Re) : Re := ⟨r.dv, r.data, r.fin - b⟩
def sh (b k : Nat) (xs : List Re) : List Re := (xs.take k).map (shiftR b) ++ xs.drop k
theorem sh_zero (b : Nat) (xs : List Re) : sh b 0 xs = xs := by simp [sh]
theorem sh_all (b : Nat) (xs : List Re) : sh b xs.length xs = xs.map (shiftR b) := by simp [sh]
theorem sh_len (b k : Nat) (xs : List Re) : (sh b k xs).length = xs.length := by simp [sh]; omega
theorem sh_at (b k : Nat) (xs : List Re) (hk : k < xs.length) : (cellsK (sh b k xs))[k * 2 + 1]? = some (.int .i64 (xs[k].fin : Int)) := by
  have e : xs.drop k = xs[k] :: xs.drop (k + 1) := List.drop_eq_getElem_cons hk
  have hl : ((xs.take k).map (shiftR b)).length = k := by simp; omega
  have := (cellsK_at ((xs.take k).map (shiftR b)) xs[k] (xs.drop (k + 1))).2
  rw [hl] at this
  unfold sh
  rw [e]
  exact this
theorem sh_succ (b k : Nat) (xs : List Re) (hk : k < xs.length) : (cellsK (sh b k xs)).set (k * 2 + 1) (.int .i64 ((xs[k].fin - b : Nat) : Int)) = cellsK (sh b (k + 1) xs) := by
  have e : xs.drop k = xs[k] :: xs.drop (k + 1) := List.drop_eq_getElem_cons hk
  have hl : (cellsK ((xs.take k).map (shiftR b))).length = k * 2 := by rw [cellsK_len]; simp; omega
  unfold sh
  rw [e, cellsK_append, cellsK_cons, List.set_append_right _ _ (by omega), hl, Nat.add_sub_cancel_left, take_succ_snoc xs k xs[k] (List.getElem?_eq_getElem hk), List.map_append, List.append_assoc, cellsK_append]
  rfl

theorem fileB_split (first : Int) (ds : List (List UInt8)) (g : Nat) (hg : g ≤ ds.length) : fileB first ds = fileB first (ds.take g) ++ fileB (first + g) (ds.drop g) := by
  conv => lhs; rw [← List.take_append_drop g ds]
  rw [fileB_append, List.length_take, Nat.min_eq_left hg]

theorem fins_drop {first : Int} {rs : List Re} (h : ∀ i (hi : i < rs.length), rs[i].fin = (fileB first ((rs.map Re.data).take (i + 1))).length) (g : Nat) (hg : g ≤ rs.length) :
    ∀ i (hi : i < ((rs.drop g).map (shiftR (sizeK first rs g))).length), (((rs.drop g).map (shiftR (sizeK first rs g))))[i].fin = (fileB (first + g) ((((rs.drop g).map (shiftR (sizeK first rs g))).map Re.data).take (i + 1))).length := by
  intro i hi
  have hi' : g + i < rs.length := by simp at hi; omega
  have hd : ((rs.drop g).map (shiftR (sizeK first rs g))).map Re.data = (rs.map Re.data).drop g := by
    rw [List.map_map, List.map_drop]
    rfl
  rw [hd, List.getElem_map, List.getElem_drop]
  simp only [shiftR]
  rw [h (g + i) hi']
  unfold sizeK
  have hs := fileB_split first ((rs.map Re.data).take (g + i + 1)) g (by rw [List.length_take, List.length_map]; omega)
  rw [hs, List.length_append, List.take_take, Nat.min_eq_left (by omega), Nat.add_sub_cancel_left, List.drop_take]
  rw [show g + i + 1 - g = i + 1 by omega]

/-- The row while the ends are made less. -/
def DF (w wr : World) (p pd : Nat) (first : Int) (v' : Value) (ob : Option Nat) (xs : List Re) (b k : Nat) : Prop :=
  wr.heap[p]? = some (.cells #[.pointer (some ⟨pd, 0, none⟩), .int .i64 first, v'] 65 (0, 0)) ∧ wr.ownsRow 0 82 2 v' xs.length (cellsK (sh b k xs)) ∧ Dk.Fr (fun k => k = p ∨ ob = some k) w wr

set_option maxHeartbeats 4000000 in
set_option maxRecDepth 20000 in
theorem dropFront_any (p pd : Nat) (first : Int) (vr : Value) (rs : List Re) (G : Nat → Prop) (k : Nat) (w : World) (h : Lg w p pd first vr rs G) (h0 : 0 < k) (hk : k ≤ rs.length) (hl : rs.length ≤ 1000000000) (hfl : (fileB first (rs.map Re.data)).length ≤ 1000000000) (hfit : first + rs.length ≤ 9223372036854775807) :
    Calls Tryd.prog 40 #[.pointer (some ⟨p, 0, none⟩), .int .i64 (k : Int)] w fun e w' => e = .returned (.tuple #[]) ∧ Hid ((∃ vr' rs', Lg w' p pd (if k = rs.length then 0 else first + k) vr' rs' G ∧ rs'.map Re.data = (rs.map Re.data).drop k) ∧ Dk.Fr (fun k => G k ∨ k = p) w w') := by
  have hones := h.ones
  have hf0 := h.fit.1
  have HE : Hid (_) := endOf_any p pd first vr rs G k w h hk hl
  obtain ⟨b, Hb⟩ : ∃ b, Hid (b = sizeK first rs k) := ⟨sizeK first rs k, (rfl : _ = _)⟩
  rw [← Hb.out] at HE
  have hbb : b ≤ 1000000000 := by
    rw [Hb.out]
    unfold sizeK
    have := fileB_split first (rs.map Re.data) k (by rw [List.length_map]; exact hk)
    have h2 := congrArg List.length this
    rw [List.length_append] at h2
    omega
  obtain ⟨xs, HX⟩ : ∃ xs, Hid (xs = rs.drop k) := ⟨rs.drop k, (rfl : _ = _)⟩
  have hxl : xs.length = rs.length - k := by rw [HX.out, List.length_drop]
  have HFin : Hid (∀ i (hi : i < xs.length), b ≤ xs[i].fin ∧ xs[i].fin ≤ 1000000000) := by
    intro i hi
    have e0 := HX.out
    subst e0
    rw [List.length_drop] at hi
    rw [List.getElem_drop, h.fins (k + i) (by omega), Hb.out]
    unfold sizeK
    have h1 := congrArg List.length (fileB_split first ((rs.map Re.data).take (k + i + 1)) k (by rw [List.length_take, List.length_map]; omega))
    rw [List.length_append, List.take_take, Nat.min_eq_left (by omega)] at h1
    have h2 := congrArg List.length (fileB_split first (rs.map Re.data) (k + i + 1) (by rw [List.length_map]; omega))
    rw [List.length_append] at h2
    omega
  have HEnd : Hid (∀ wr v' wz f', DF w wr p pd first v' vr.ownBlock xs b xs.length → v'.ownBlock = vr.ownBlock → wz = wr.setCell ⟨p, 1, none⟩ (.int .i64 f') → f' = (if k = rs.length then 0 else first + k) → (∃ vr' rs', Lg wz p pd (if k = rs.length then 0 else first + k) vr' rs' G ∧ rs'.map Re.data = (rs.map Re.data).drop k) ∧ Dk.Fr (fun k => G k ∨ k = p) w wz) := by
    rintro wr v' wz f' ⟨d1, d2, d3⟩ hob rfl hf'
    rw [← hf']
    have hone := Fr.one wr p 1 (.int .i64 f')
    have hnp : ∀ k, v'.ownBlock = some k → ¬ k = p := fun k hk e => h.np (e ▸ h.rowIn k (hob ▸ hk))
    rw [sh_all] at d2
    have d2' : (wr.setCell ⟨p, 1, none⟩ (.int .i64 f')).ownsRow 0 82 2 v' (xs.map (shiftR b)).length (cellsK (xs.map (shiftR b))) := by
      rw [List.length_map]
      exact own_kept d2 hone hnp
    have hdm : (xs.map (shiftR b)).map Re.data = (rs.map Re.data).drop k := by
      rw [HX.out, List.map_map, List.map_drop]
      rfl
    obtain ⟨a1, a2⟩ := h.redo2 (wz := wr.setCell ⟨p, 1, none⟩ (.int .i64 f')) (first' := f') (rs' := xs.map (shiftR b)) (d3.trans hone (fun k _ e => Or.inl e)) d2' hob (by rw [heap_set d1]; rfl) (fun r hr => by
        obtain ⟨r0, hr0, rfl⟩ := List.mem_map.1 hr
        rw [HX.out] at hr0
        exact ⟨r0, List.mem_of_mem_drop hr0, rfl, rfl⟩) (by
        by_cases hkl : k = rs.length
        · intro i hi
          rw [List.length_map, hxl] at hi
          omega
        · rw [if_neg hkl] at hf'
          subst hf'
          have hh := fins_drop h.fins k hk
          rw [← Hb.out, ← HX.out] at hh
          exact hh) (fun e => by
        have hz := congrArg List.length e
        rw [List.length_map, hxl, List.length_nil] at hz
        rw [hf', if_pos (by omega)]) (by
        rw [List.length_map, hxl, hf']
        split
        · exact ⟨Int.le_refl _, by omega⟩
        · exact ⟨by omega, by omega⟩)
    exact ⟨⟨_, _, a1, hdm⟩, a2⟩
  have HK : Hid (Calls Tryd.prog 59 #[vr, .int .i64 0, .int .i64 (k : Int)] w fun e w1 => ∃ ao cap, e = .returned (.slice ao xs.length cap) ∧ (∃ u, w1.cell? ⟨p, 2, none⟩ = some u) ∧ w1.frozen? ⟨p, 2, none⟩ = false ∧ (w1.setCell ⟨p, 2, none⟩ (.slice ao xs.length cap)).cell? ⟨p, 2, none⟩ = some (.slice ao xs.length cap) ∧ Hid (DF w (w1.setCell ⟨p, 2, none⟩ (.slice ao xs.length cap)) p pd first (.slice ao xs.length cap) vr.ownBlock xs b 0 ∧ (Value.slice ao xs.length cap).ownBlock = vr.ownBlock)) := by
    refine (delete_recs vr rs.length 0 k (cellsK rs) w h.row h0 hk hl hones).mono ?_
    rintro e w1 ⟨v', rfl, hO, hg, hob⟩
    rw [Nat.zero_mul, List.take_zero, List.nil_append, cellsK_drop, ← HX.out, Nat.sub_zero, ← hxl] at hO
    obtain ⟨ao, cap, rfl⟩ : ∃ ao cap, v' = .slice ao xs.length cap := by
      rcases own_shape hO with ⟨rfl, e⟩ | ⟨g, cap, rfl, _⟩
      · exact ⟨none, 0, by rw [e]⟩
      · exact ⟨_, _, rfl⟩
    have hp1 : w1.heap[p]? = some (.cells #[.pointer (some ⟨pd, 0, none⟩), .int .i64 first, vr] 65 (0, 0)) := by
      rw [hg.block p h.plt (fun e => h.np (h.rowIn p e.symm))]
      exact h.heap
    have hp2 : (w1.setCell ⟨p, 2, none⟩ (.slice ao xs.length cap)).heap[p]? = some (.cells #[.pointer (some ⟨pd, 0, none⟩), .int .i64 first, .slice ao xs.length cap] 65 (0, 0)) := by
      rw [heap_set hp1]; rfl
    have hone := Fr.one w1 p 2 (.slice ao xs.length cap)
    refine ⟨ao, cap, rfl, ⟨_, by rw [cell_of_row w1 p 2 _ _ _ hp1]; rfl⟩, by simp [World.frozen?, hp1], by rw [cell_of_row _ p 2 _ _ _ hp2]; rfl, ⟨hp2, ?_, (Fr.of_grown hg (fun k hk => Or.inr hk)).trans hone (fun k _ e => Or.inl e)⟩, hob⟩
    rw [sh_zero]
    exact own_kept hO hone (fun k hk e => h.np (e ▸ h.rowIn k (hob ▸ hk)))
  obtain ⟨c0, c1, c2, cz⟩ := h.cells
  obtain ⟨ob, Hob⟩ : ∃ ob, Hid (ob = vr.ownBlock) := ⟨vr.ownBlock, (rfl : _ = _)⟩
  rw [← Hob.out] at HEnd HK
  obtain ⟨ao0, cap0, rfl, _⟩ := h.shape
  have hkM : (k = rs.length) ↔ xs.length = 0 := by omega
  simp only [hkM] at HEnd ⊢
  have hkb : (k : Int) ≤ 1000000000 := by omega
  have hMl : xs.length ≤ 1000000000 := by omega
  have hnp : ∀ g, ob = some g → g ≠ p := fun g hg e => h.np (e ▸ h.rowIn g (by rw [← Hob.out]; exact hg))
  have hfk : first + (k : Int) ≤ 9223372036854775807 := by omega
  obtain ⟨PP, HPP⟩ : ∃ PP : World → Prop, Hid (PP = fun wz => (∃ vr' rs', Lg wz p pd (if xs.length = 0 then 0 else first + k) vr' rs' G ∧ rs'.map Re.data = (rs.map Re.data).drop k) ∧ Dk.Fr (fun k => G k ∨ k = p) w wz) := ⟨_, (rfl : _ = _)⟩
  suffices HS : Calls Tryd.prog 40 #[.pointer (some ⟨p, 0, none⟩), .int .i64 (k : Int)] w fun e w' => e = .returned (.tuple #[]) ∧ Hid (PP w') by
    refine HS.mono ?_
    rintro e w' ⟨h1, h2⟩
    refine ⟨h1, ?_⟩
    have h3 := h2.out
    rw [HPP.out] at h3
    exact h3
  have HEnd' : Hid (∀ wr v' wz f', DF w wr p pd first v' ob xs b xs.length → v'.ownBlock = ob → wz = wr.setCell ⟨p, 1, none⟩ (.int .i64 f') → f' = (if xs.length = 0 then 0 else first + k) → PP wz) := by
    have h1 := HEnd.out
    rw [HPP.out]
    exact h1
  clear HEnd HPP hkM hones h hfl hfit HX hxl hk hl h0 Hb cz c0 Hob
  go_enter Tryd.func40, Tryd.ntmps40
  go_wp2_with (first
    | (go_at_call 37; refine Calls.mono HE.out ?_; rintro e w' ⟨rfl, hw⟩; have hw' := hw.symm; subst hw')
    | (go_at_call 59; refine Calls.mono HK.out ?_; rintro e w1 ⟨ao, cap, rfl, ⟨u1, d1⟩, d2, d3, HD⟩; clear HK))
  go_loopw [23] (fun vi wr => ∃ j : Nat, j ≤ xs.length ∧ vi = .int .i64 j ∧ Hid (DF w wr p pd first (.slice ao xs.length cap) ob xs b j)) (fun vi _ => xs.length - (intOf vi).toNat)
  case atStart => exact ⟨0, Nat.zero_le _, rfl, HD.out.1⟩
  case round =>
    obtain ⟨j, hj, rfl, HJ⟩ := hrel
    by_cases hlt : j < xs.length
    · have hlt' : (j : Int) < (xs.length : Int) := by omega
      obtain ⟨hb1, hb2⟩ := HFin.out j hlt
      obtain ⟨q1, q2, q3⟩ := HJ.out
      obtain ⟨g, rfl⟩ : ∃ g, ao = some ⟨g, 0, none⟩ := by
        rcases own_shape q2 with ⟨_, e⟩ | ⟨g, cap', e, _⟩
        · omega
        · simp at e; exact ⟨g, e.1⟩
      have e2 : wr.cell? ⟨p, 2, none⟩ = some (.slice (some ⟨g, 0, none⟩) xs.length cap) := by rw [cell_of_row _ p 2 _ _ _ q1]; rfl
      have e3 : wr.cell? ⟨g, j * 2 + 1, none⟩ = some (.int .i64 (xs[j].fin : Int)) := by rw [q2.cellAt _ (by omega)]; exact sh_at b j xs hlt
      have e4 := q2.frozenAt (j * 2 + 1)
      have hgp : g ≠ p := hnp g HD.out.2.symm
      have HN : Hid (DF w (wr.setCell ⟨g, j * 2 + 1, none⟩ (.int .i64 ((xs[j].fin - b : Nat) : Int))) p pd first (.slice (some ⟨g, 0, none⟩) xs.length cap) ob xs b (j + 1)) := by
        have hone := Fr.one wr g (j * 2 + 1) (.int .i64 ((xs[j].fin - b : Nat) : Int))
        refine ⟨?_, ?_, q3.trans hone (fun k _ e => Or.inr (by rw [e]; exact HD.out.2.symm))⟩
        · rw [hone.block p (Array.getElem?_eq_some_iff.1 q1).1 (fun e => hgp e.symm)]
          exact q1
        · have h1 := (q2.stored (j * 2 + 1) (.int .i64 ((xs[j].fin - b : Nat) : Int))).1
          rw [sh_succ b j xs hlt] at h1
          exact h1
      have hsub : ((xs[j].fin - b : Nat) : Int) = (xs[j].fin : Int) - (b : Int) := by omega
      rw [hsub] at HN
      generalize xs[j].fin = fn at *
      clear q1 q2 q3 HJ hsub HEnd'
      go_wp2
      go_roundw
      case rel => exact ⟨j + 1, by omega, by go_num, HN.out⟩
      case measure => simp [intOf]; omega
    · obtain rfl : j = xs.length := by omega
      have q1 := HJ.out.1
      have e1 : wr.cell? ⟨p, 1, none⟩ = some (.int .i64 first) := by rw [cell_of_row _ p 1 _ _ _ q1]; rfl
      have e2 : wr.cell? ⟨p, 2, none⟩ = some (.slice ao xs.length cap) := by rw [cell_of_row _ p 2 _ _ _ q1]; rfl
      have e4 : wr.frozen? ⟨p, 1, none⟩ = false := by simp [World.frozen?, q1]
      have HZ : Hid (∀ wz f', wz = wr.setCell ⟨p, 1, none⟩ (.int .i64 f') → f' = (if xs.length = 0 then 0 else first + k) → PP wz) := fun wz f' => HEnd'.out wr _ wz f' HJ.out HD.out.2
      clear HJ HD HEnd' HFin q1
      by_cases hz : xs.length = 0
      · simp only [hz] at HZ e2 ⊢
        go_wp2
        exact bodyPost_ret (v := .tuple #[]) (by simp [results, Tryd.results40, go_sem]) rfl ⟨rfl, HZ.out _ _ rfl rfl⟩
      · have hne : ((xs.length : Int) == 0) = false := by rw [beq_eq_false_iff_ne]; omega
        go_wp2
        go_end0
        exact ⟨rfl, HZ.out _ _ rfl (by rw [if_neg hz])⟩
end Go.Proofs.YtnbdkojdddplkaaDoor.Wl

/- The walks of slices.Insert in the middle, and slices.Delete, at files. The walk of slices.Insert in the middle without room; slices.Insert whole. The walk of slices.Delete of one file. -/
import Derived.Test.YtleelemcmnlfiaaPart02
namespace Go.Proofs.Ytleelemcmnlfiaa
open Go.RowKit

/-- 'copy' whose run is known, for the walk. -/
theorem wpList_copy_run {P : Program} (w : World) {ops : Array Oper} {rest : List Oper} {o : Oper} {a : Act} {Q : Exit → Act → World → Prop} (hgd : o.guard = none) (d s : Operand) (t t' : TypeId)
    (ho : o.op = .call { callee := .builtin .copy, args := #[d, s], argTypes := #[t, t'] }) (v u : Value) (hd : a.eval d = v) (hs : a.eval s = u) {v' : Value} {w' : World}
    (hr : (Builtin.copy_ #[t, t'] o.type #[v, u]).run P w = .ok v' w') (h : wpList P ops Q rest (a.put o.dst v') w') : wpList P ops Q (o :: rest) a w := by
  refine wpList_plain hgd fun _ hK => ?_
  unfold Oper.wp execOp
  simp only [ho, resolve, invoke, builtin, Sem.run_bind, Sem.run_pure, Result.andThen_ok, List.map_toArray, List.map_cons, List.map_nil, hd, hs, hr]
  exact hK _ _ h
theorem step_copy_run {P : Program} {ops : Array Oper} {o : Oper} {a : Act} {w : World} {K : Act → World → Prop} {Q : Exit → Act → World → Prop} {E : Prop}
    (hg : o.guard = none) (d x : Operand) (dT sT : TypeId) (hop : o.op = Op.call { callee := Callee.builtin Builtin.copy, args := #[d, x], argTypes := #[dT, sT] })
    (v u : Value) (hd : a.eval d = v) (hx : a.eval x = u) {v' : Value} {w' : World} (hr : (Builtin.copy_ #[dT, sT] o.type #[v, u]).run P w = .ok v' w') (hK : K (a.put o.dst v') w') :
    if Region.wanted o (yielded ops a.tmps) = true then Oper.wp P o a w K Q else E := by
  have hw : Region.wanted o (yielded ops a.tmps) = true := by simp [Region.wanted, hg]
  rw [if_pos hw]
  unfold Oper.wp
  simp [execOp, hop, resolve, invoke, builtin, hd, hx, hr, Result.andThen]
  exact hK

theorem shape_of_heap {w : World} {b : Nat} {cs : Array Value} {T : TypeId} {fr : Nat × Nat} (h : w.heap[b]? = some (.cells cs T fr)) : w.shape? b = some (T, cs.size) := by simp [World.shape?, h]
theorem frozen_of_heap {w : World} {b : Nat} {cs : Array Value} {T : TypeId} (h : w.heap[b]? = some (.cells cs T (0, 0))) (j : Nat) : w.frozen? ⟨b, j, none⟩ = false := by simp [World.frozen?, h]
theorem some_of_heap {w : World} {b : Nat} {cs : Array Value} {T : TypeId} {fr : Nat × Nat} (h : w.heap[b]? = some (.cells cs T fr)) (j : Nat) (hj : j < cs.size) : (w.cell? ⟨b, j, none⟩).isSome = true := by
  rw [cell_of_row w b j _ T _ h, Array.getElem?_eq_getElem hj]; rfl

set_option maxHeartbeats 2000000 in
set_option maxRecDepth 20000 in
theorem insert_shift (g n cap i vb : Nat) (xs : List Value) (s d : Value) (w : World) (h : w.ownsRow 0 72 2 (.slice (some ⟨g, 0, none⟩) n cap) n xs) (hi : i < n) (hn : n ≤ 1000000000) (hroom : n + 1 ≤ cap) (hvb : w.heap[vb]? = some (.cells #[s, d] 72 (0, 0))) (hne : vb ≠ g) (hs : s.oneCell' = true) (hd : d.oneCell' = true) (h1 : ∀ u ∈ xs, u.oneCell' = true) :
    Calls Try.prog 54 #[.slice (some ⟨g, 0, none⟩) n cap, .int .i64 i, .slice (some ⟨vb, 0, none⟩) 1 1] w fun e w' => ∃ v', e = .returned v' ∧ w'.ownsRow 0 72 2 v' (n + 1) (xs.take (i * 2) ++ [s, d] ++ xs.drop (i * 2)) ∧ w.grownBy w' (some g) ∧ v'.ownBlock = some g := by
  obtain ⟨I, hI, hz0, hz1, hz2⟩ := info_parts Try.info72
  obtain ⟨cur, hg, hcm, hcs, htk⟩ : ∃ cur : Array Value, w.heap[g]? = some (.cells cur 72 (0, 0)) ∧ cap ≤ maxLen ∧ cur.size = cap * 2 ∧ cur.toList.take (n * 2) = xs := by
    rcases h.2 with ⟨hv, _⟩ | ⟨g', cap', cur, e, _, hg, _, hc, hs, ht⟩
    · simp at hv
    · simp only [Value.slice.injEq, Option.some.injEq, Addr.mk.injEq, and_true, true_and] at e
      obtain ⟨rfl, rfl⟩ := e
      exact ⟨cur, hg, hc, hs, ht⟩
  have hxl : xs.length = n * 2 := h.1
  have hcap : cap ≤ 9223372036854775807 := hcm
  have hgd : w.drew.heap[g]? = some (.cells cur 72 (0, 0)) := hg
  have hov : ∀ lb cb, (callFunc 57 #[.slice (some ⟨vb, 0, none⟩) 1 1, .slice (some ⟨g, (i + 1) * 2, none⟩) lb cb]).run Try.prog w = .ok (.value (.bool false)) w := fun lb cb => by
    rw [run_callFunc_extern Try.func57 (by kernel_rfl) (by kernel_rfl) (by kernel_rfl) (e := Extern.SlicesOverlaps.overlaps #[59, 59] #[4]) (by kernel_rfl),
      Lib.run_overlaps_apart w 59 4 72 Try.underlying59 2 (fun w => by simp [sizeOf, typeInfo, hI, hz1]) ⟨vb, 0, none⟩ ⟨g, (i + 1) * 2, none⟩ 1 1 lb cb hne 72 72 2 (cap * 2) (by rw [shape_of_heap hvb]; rfl) (by rw [shape_of_heap hg, hcs]) (by omega) (frozen_of_heap hvb 0) (frozen_of_heap hvb 2)]
    rfl
  have hdl : (xs.drop (i * 2)).length = (n - i) * 2 := by rw [List.length_drop, hxl]; omega
  have hcp1 : ∀ ty dc sc, (Builtin.copy_ #[60, 60] ty #[.slice (some ⟨g, (i + 1) * 2, none⟩) (n - i) dc, .slice (some ⟨g, i * 2, none⟩) (n + 1 - i) sc]).run Try.prog w.drew = .ok (goInt (Nat.min (n + 1 - i) (n - i))) (w.drew.setCells g ((i + 1) * 2) (xs.drop (i * 2))) := fun ty dc sc =>
    run_copy_two w.drew _ _ ty 72 I g ((i + 1) * 2) _ dc ⟨g, i * 2, none⟩ _ sc (xs.drop (i * 2)) Try.underlying60 hI hz1 (by rw [hdl]; congr 1; simp only [Nat.min_def]; split <;> omega)
      (fun j v hj => by
        rw [Addr.add_lit, cell_of_row _ _ _ _ _ _ hgd]
        rw [← htk, List.getElem?_drop, List.getElem?_take] at hj
        split at hj
        · simpa using hj
        · simp at hj)
      (fun j hj => some_of_heap hgd _ (by omega)) (fun j hj => frozen_of_heap hgd _) (fun v hv => h1 v (List.mem_of_mem_drop hv))
  obtain ⟨W1, HW1⟩ : ∃ W1, Hid (W1 = w.drew.setCells g ((i + 1) * 2) (xs.drop (i * 2))) := ⟨w.drew.setCells g ((i + 1) * 2) (xs.drop (i * 2)), (rfl : _ = _)⟩
  have hH1 : W1.heap[g]? = some (.cells (put cur.toList ((i + 1) * 2) (xs.drop (i * 2))).toArray 72 (0, 0)) := by
    rw [HW1.out]; exact heap_setCells _ _ _ _ hgd (by rw [hdl]; omega)
  have hcl : cur.toList.length = cap * 2 := by rw [Array.length_toList, hcs]
  have hpl := put_len cur.toList ((i + 1) * 2) (xs.drop (i * 2)) (by rw [hdl, hcl]; omega)
  have hvb1 : W1.heap[vb]? = some (.cells #[s, d] 72 (0, 0)) := by rw [HW1.out, setCells_other _ _ _ _ hne]; exact hvb
  have hcp2 : ∀ ty dc, (Builtin.copy_ #[60, 59] ty #[.slice (some ⟨g, i * 2, none⟩) (n + 1 - i) dc, .slice (some ⟨vb, 0, none⟩) 1 1]).run Try.prog W1 = .ok (goInt (Nat.min 1 (n + 1 - i))) (W1.setCells g (i * 2) [s, d]) := fun ty dc =>
    run_copy_two W1 _ _ ty 72 I g (i * 2) _ dc ⟨vb, 0, none⟩ _ 1 [s, d] Try.underlying60 hI hz1 (by rw [show Nat.min 1 (n + 1 - i) = 1 by simp only [Nat.min_def]; split <;> omega]; rfl)
      (fun j v hj => by
        rw [Addr.add_lit, Nat.zero_add, cell_of_row _ _ _ _ _ _ hvb1]
        simpa using hj)
      (fun j hj => some_of_heap hH1 _ (by simp at hj; rw [List.size_toArray, hpl, hcl]; omega)) (fun j hj => frozen_of_heap hH1 _) (by simp [hs, hd])
  have HE : Hid ((W1.setCells g (i * 2) [s, d]).ownsRow 0 72 2 (.slice (some ⟨g, 0, none⟩) (n + 1) cap) (n + 1) (xs.take (i * 2) ++ [s, d] ++ xs.drop (i * 2)) ∧ w.grownBy (W1.setCells g (i * 2) [s, d]) (some g)) := by
    refine ⟨own_of_heap (heap_setCells _ _ _ _ hH1 (by rw [List.size_toArray, hpl, hcl]; simp; omega)) hroom hcm ?_ ?_, ?_⟩
    · rw [List.size_toArray, put_len _ _ _ (by simp only [hpl, hcl]; simp; omega)]
      simp only [hpl, hcl]
    · apply List.ext_getElem?
      intro j
      have e1 : (xs.take (i * 2)).length = i * 2 := by simp; omega
      simp only
      rw [List.getElem?_take]
      split
      · rw [put_get _ _ _ (by rw [hpl, hcl]; simp; omega)]
        by_cases c1 : j < i * 2
        · rw [if_neg (by omega), put_get _ _ _ (by rw [hdl, hcl]; omega), if_neg (by omega), List.append_assoc, List.getElem?_append_left (by omega), List.getElem?_take, if_pos c1, ← htk, List.getElem?_take, if_pos (by omega)]
        · by_cases c2 : j < i * 2 + 2
          · rw [if_pos (by simp; omega), List.append_assoc, List.getElem?_append_right (by omega), e1, List.getElem?_append_left (by simp; omega)]
          · rw [if_neg (by simp; omega), put_get _ _ _ (by rw [hdl, hcl]; omega), if_pos (by rw [hdl]; omega), List.getElem?_append_right (by simp; omega)]
            simp only [List.length_append, e1, List.length_cons, List.length_nil]
            congr 1
            omega
      · rw [List.getElem?_eq_none (by simp; omega)]
    · have hgr := grown_drew_left (grown_setCells g (xs.drop (i * 2)) ((i + 1) * 2) w.drew)
      rw [← HW1.out] at hgr
      exact hgr.trans (grown_setCells g [s, d] (i * 2) W1)
  rw [← HW1.out] at hcp1
  have hz2' : ¬ ((i : Int) = (n : Int)) := by omega
  have hb2 : ¬ (cap = i + 1) := by omega
  have hb3 : (i : Int) ≤ (n : Int) + 1 := by omega
  have hb4 : ¬ (cap = i) := by omega
  have hb5 : ¬ (cap : Int) < (n : Int) + 1 := by omega
  have hb6 : (i : Int) < (n : Int) := by omega
  have hnr : (n : Int) + 1 ≤ (cap : Int) := by omega
  have hw1 : IntKind.i64.wrap ((i : Int) + 1) = (i : Int) + 1 := by rw [IntKind.wrap_i64]; omega
  have hb1 : (0 : Int) ≤ (i : Int) + 1 := by omega
  have htn : ((i : Int) + 1).toNat = i + 1 := by omega
  have hin : i ≤ n := by omega
  clear hcs htk hdl hgd hH1 hpl hvb1 hcl h hxl hcm h1 hg hvb hI hz0 hz1 hz2
  go_enter Try.func54, Try.ntmps54
  go_wp2_with (simp only [hov])
  go_region_law (refine step_copy_run rfl (.tmp 73) (.tmp 76) 60 60 rfl _ _ (by simp [Act.eval, Act.put]; rfl) (by simp [Act.eval, Act.put]; rfl) (hcp1 _ _ _) ?_)
  go_wp2_with (at_builtin; refine wpList_copy_run _ rfl _ _ 60 59 rfl _ _ rfl rfl (hcp2 _ _) ?_)
  go_ret
  exact ⟨_, rfl, HE.out.1, HE.out.2, rfl⟩
end Go.Proofs.Ytleelemcmnlfiaa
namespace Go.Proofs.Ytleelemcmnlfiaa
open Go.RowKit

set_option maxHeartbeats 2000000 in
set_option maxRecDepth 20000 in
theorem insert_grow (g n cap i vb : Nat) (xs : List Value) (s d : Value) (w : World) (h : w.ownsRow 0 72 2 (.slice (some ⟨g, 0, none⟩) n cap) n xs) (hi : i < n) (hn : n ≤ 1000000000) (hroom : ¬ n + 1 ≤ cap) (hvb : w.heap[vb]? = some (.cells #[s, d] 72 (0, 0))) (hs : s.oneCell' = true) (hd : d.oneCell' = true) (h1 : ∀ u ∈ xs, u.oneCell' = true) :
    Calls Try.prog 54 #[.slice (some ⟨g, 0, none⟩) n cap, .int .i64 i, .slice (some ⟨vb, 0, none⟩) 1 1] w fun e w' => ∃ v', e = .returned v' ∧ w'.ownsRow 0 72 2 v' (n + 1) (xs.take (i * 2) ++ [s, d] ++ xs.drop (i * 2)) ∧ w.grownBy w' (some g) ∧ v'.ownBlock = some w.heap.size := by
  obtain ⟨I, hI, hz0, hz1, hz2⟩ := info_parts Try.info72
  obtain ⟨cur, hg, hnc, hcm, hcs, htk⟩ : ∃ cur : Array Value, w.heap[g]? = some (.cells cur 72 (0, 0)) ∧ n ≤ cap ∧ cap ≤ maxLen ∧ cur.size = cap * 2 ∧ cur.toList.take (n * 2) = xs := by
    rcases h.2 with ⟨hv, _⟩ | ⟨g', cap', cur, e, _, hg, hn, hc, hs, ht⟩
    · simp at hv
    · simp only [Value.slice.injEq, Option.some.injEq, Addr.mk.injEq, and_true, true_and] at e
      obtain ⟨rfl, rfl⟩ := e
      exact ⟨cur, hg, hn, hc, hs, ht⟩
  have hcn : cap = n := by omega
  subst hcn
  have hxl : xs.length = cap * 2 := h.1
  have hgl : g < w.heap.size := (Array.getElem?_eq_some_iff.1 hg).1
  have hvl : vb < w.heap.size := (Array.getElem?_eq_some_iff.1 hvb).1
  have htl : (xs.take (i * 2)).length = i * 2 := by rw [List.length_take, hxl]; omega
  have hold : (Builtin.firstCells I.size i (.slice (some ⟨g, 0, none⟩) i cap)).run Try.prog w.drew = .ok (xs.take (i * 2)).toArray w.drew := by
    rw [hz1]
    exact run_firstCells_some w.drew 2 i ⟨g, 0, none⟩ i cap (xs.take (i * 2)) htl (fun j v hj => by
      rw [Addr.add_lit, Nat.zero_add, cell_of_row w.drew _ _ _ _ _ hg]
      rw [← htk, List.getElem?_take] at hj
      split at hj
      · rw [List.getElem?_take] at hj
        split at hj
        · simpa using hj
        · simp at hj
      · simp at hj)
  obtain ⟨G, HG⟩ : ∃ G, Hid (G = grownCap w (cap + 1) cap 72) := ⟨grownCap w (cap + 1) cap 72, (rfl : _ = _)⟩
  have hGn : cap + 1 ≤ G := by rw [HG.out]; exact grownCap_ge w _ _ _
  have hGm : G ≤ maxLen := by rw [HG.out]; exact grownCap_le_maxLen w (cap + 1) cap 72 (by unfold maxLen; omega)
  obtain ⟨ROW, HROW⟩ : ∃ ROW : Array Value, Hid (ROW = (xs.take (i * 2)).toArray ++ Builtin.zeroCells (Value.agg #[.string ⟨#[]⟩, .slice none 0 0]).cells (cap + 1 - i) ++ Builtin.zeroCells (Value.agg #[.string ⟨#[]⟩, .slice none 0 0]).cells (G - (cap + 1))) := ⟨_, (rfl : _ = _)⟩
  obtain ⟨W1, HW1⟩ : ∃ W1, Hid (W1 = w.drew.alloc (.cells ROW 72)) := ⟨w.drew.alloc (.cells ROW 72), (rfl : _ = _)⟩
  have hik : i + (cap + 1 - i) = cap + 1 := by omega
  have hrz : ∀ ty, (Builtin.append_ #[60, 3] ty #[.slice (some ⟨g, 0, none⟩) i cap, .int .i64 ((cap : Int) + 1 - (i : Int))]).run Try.prog w = .ok (.slice (some ⟨w.heap.size, 0, none⟩) (cap + 1) G) W1 := fun ty => by
    have h := Lib.run_append_grow_zeros w 60 3 ty 72 I _ .i64 .i64 Try.underlying60 Try.underlying3 hI hz0 (some ⟨g, 0, none⟩) i cap (xs.take (i * 2)) hold (cap + 1 - i) (by omega) (by omega) (by omega) (by omega) (by rw [hz2]; omega) (by rw [hz2, hik]; exact growslice_fits (by omega) (by omega))
    rw [hik] at h
    rw [show (cap : Int) + 1 - (i : Int) = ((cap + 1 - i : Nat) : Int) by omega, h, HW1.out, HROW.out, HG.out]
  have hRs : ROW.size = G * 2 := by
    have e1 : (Value.agg #[.string ⟨#[]⟩, .slice none 0 0]).cells.size = 2 := rfl
    rw [HROW.out, Array.size_append, Array.size_append, size_zeroCells, size_zeroCells, List.size_toArray, htl, e1]
    omega
  have hRt : ROW.toList.take (i * 2) = xs.take (i * 2) := by
    rw [HROW.out, Array.toList_append, Array.toList_append, List.append_assoc]
    have := List.take_left (l₁ := xs.take (i * 2)) (l₂ := (Builtin.zeroCells (Value.agg #[.string ⟨#[]⟩, .slice none 0 0]).cells (cap + 1 - i)).toList ++ (Builtin.zeroCells (Value.agg #[.string ⟨#[]⟩, .slice none 0 0]).cells (G - (cap + 1))).toList)
    rw [htl] at this
    exact this
  have hN : W1.heap[w.heap.size]? = some (.cells ROW 72 (0, 0)) := by rw [HW1.out]; exact heap_alloc_new w.drew _
  have hO1 : ∀ k, k < w.heap.size → W1.heap[k]? = w.heap[k]? := fun k hk => by rw [HW1.out]; exact Below.heap_alloc w.drew _ k hk
  have hS1 : w.grownBy W1 (some g) := by rw [HW1.out]; exact grown_drew_left (World.grownBy_alloc w.drew _ _)
  have hrl : ROW.toList.length = G * 2 := by rw [Array.length_toList, hRs]
  have hcpA : ∀ ty dc, (Builtin.copy_ #[60, 59] ty #[.slice (some ⟨w.heap.size, i * 2, none⟩) (cap + 1 - i) dc, .slice (some ⟨vb, 0, none⟩) 1 1]).run Try.prog W1 = .ok (goInt (Nat.min 1 (cap + 1 - i))) (W1.setCells w.heap.size (i * 2) [s, d]) := fun ty dc =>
    run_copy_two W1 _ _ ty 72 I w.heap.size (i * 2) _ dc ⟨vb, 0, none⟩ _ 1 [s, d] Try.underlying60 hI hz1 (by rw [show Nat.min 1 (cap + 1 - i) = 1 by simp only [Nat.min_def]; split <;> omega]; rfl)
      (fun j v hj => by
        rw [Addr.add_lit, Nat.zero_add, cell_of_row _ _ _ _ _ _ ((hO1 vb hvl).trans hvb)]
        simpa using hj)
      (fun j hj => some_of_heap hN _ (by simp at hj; omega)) (fun j hj => frozen_of_heap hN _) (by simp [hs, hd])
  obtain ⟨W2, HW2⟩ : ∃ W2, Hid (W2 = W1.setCells w.heap.size (i * 2) [s, d]) := ⟨W1.setCells w.heap.size (i * 2) [s, d], (rfl : _ = _)⟩
  have hN2 : W2.heap[w.heap.size]? = some (.cells (put ROW.toList (i * 2) [s, d]).toArray 72 (0, 0)) := by
    rw [HW2.out]; exact heap_setCells _ _ _ _ hN (by simp; omega)
  have hpl := put_len ROW.toList (i * 2) [s, d] (by rw [hrl]; simp; omega)
  have hO2 : ∀ k, k < w.heap.size → W2.heap[k]? = w.heap[k]? := fun k hk => by rw [HW2.out, setCells_other _ _ _ _ (by omega)]; exact hO1 k hk
  have hdl : (xs.drop (i * 2)).length = (cap - i) * 2 := by rw [List.length_drop, hxl]; omega
  have hcpB : ∀ ty dc sc, (Builtin.copy_ #[60, 60] ty #[.slice (some ⟨w.heap.size, (i + 1) * 2, none⟩) (cap - i) dc, .slice (some ⟨g, i * 2, none⟩) (cap - i) sc]).run Try.prog W2.drew = .ok (goInt (Nat.min (cap - i) (cap - i))) (W2.drew.setCells w.heap.size ((i + 1) * 2) (xs.drop (i * 2))) := fun ty dc sc =>
    run_copy_two W2.drew _ _ ty 72 I w.heap.size ((i + 1) * 2) _ dc ⟨g, i * 2, none⟩ _ sc (xs.drop (i * 2)) Try.underlying60 hI hz1 (by rw [hdl]; congr 1; simp only [Nat.min_def]; split <;> omega)
      (fun j v hj => by
        rw [Addr.add_lit, cell_of_row W2.drew _ _ _ _ _ ((hO2 g hgl).trans hg)]
        rw [← htk, List.getElem?_drop, List.getElem?_take] at hj
        split at hj
        · simpa using hj
        · simp at hj)
      (fun j hj => some_of_heap (w := W2.drew) hN2 _ (by rw [List.size_toArray, hpl, hrl]; omega)) (fun j hj => frozen_of_heap (w := W2.drew) hN2 _) (fun v hv => h1 v (List.mem_of_mem_drop hv))
  obtain ⟨W3, HW3⟩ : ∃ W3, Hid (W3 = W2.drew.setCells w.heap.size ((i + 1) * 2) (xs.drop (i * 2))) := ⟨W2.drew.setCells w.heap.size ((i + 1) * 2) (xs.drop (i * 2)), (rfl : _ = _)⟩
  have hN3 : W3.heap[w.heap.size]? = some (.cells (put (put ROW.toList (i * 2) [s, d]) ((i + 1) * 2) (xs.drop (i * 2))).toArray 72 (0, 0)) := by
    rw [HW3.out]; exact heap_setCells _ _ W2.drew (put ROW.toList (i * 2) [s, d]).toArray hN2 (by rw [List.size_toArray, hpl, hrl, hdl]; omega)
  have HE : Hid (W3.ownsRow 0 72 2 (.slice (some ⟨w.heap.size, 0, none⟩) (cap + 1) G) (cap + 1) (xs.take (i * 2) ++ [s, d] ++ xs.drop (i * 2)) ∧ w.grownBy W3 (some g)) := by
    refine ⟨own_of_heap hN3 hGn hGm ?_ ?_, ?_⟩
    · rw [List.size_toArray, put_len _ _ _ (by rw [hpl, hrl, hdl]; omega), hpl, hrl]
    · apply List.ext_getElem?
      intro j
      simp only
      rw [List.getElem?_take]
      split
      · rw [put_get _ _ _ (by rw [hpl, hrl, hdl]; omega), put_get _ _ _ (by rw [hrl]; simp; omega), hdl]
        by_cases c1 : j < i * 2
        · have e := congrArg (fun l => l[j]?) hRt
          simp only [List.getElem?_take, if_pos c1] at e
          rw [if_neg (by omega), if_neg (by omega), e, List.append_assoc, List.getElem?_append_left (by omega), List.getElem?_take, if_pos c1]
        · by_cases c2 : j < i * 2 + 2
          · rw [if_neg (by omega), if_pos (by simp; omega), List.append_assoc, List.getElem?_append_right (by omega), htl, List.getElem?_append_left (by simp; omega)]
          · rw [if_pos (by omega), List.getElem?_append_right (by simp; omega)]
            simp only [List.length_append, htl, List.length_cons, List.length_nil]
            congr 1
            omega
      · rw [List.getElem?_eq_none (by simp; omega)]
    · obtain ⟨a1, a2, a3, a4⟩ := setCells_same (b := w.heap.size) [s, d] (i * 2) W1
      obtain ⟨b1, b2, b3, b4⟩ := setCells_same (b := w.heap.size) (xs.drop (i * 2)) ((i + 1) * 2) W2.drew
      rw [← HW2.out] at a1 a2 a3 a4
      rw [← HW3.out] at b1 b2 b3 b4
      refine ⟨b1.trans (a1.trans hS1.os), b2.trans (a2.trans hS1.tape), b3.trans (a3.trans hS1.output), ?_, fun k hk _ => ?_⟩
      · have e : W2.drew.heap.size = W2.heap.size := rfl
        have := hS1.size
        omega
      · rw [HW3.out, setCells_other _ _ W2.drew _ (by omega)]
        exact hO2 k hk
  rw [← HW2.out] at hcpA
  rw [← HW3.out] at hcpB
  have hG63 : G ≤ 9223372036854775807 := hGm
  have hcap : cap ≤ 9223372036854775807 := by omega
  have hz2' : ¬ ((i : Int) = (cap : Int)) := by omega
  have hb2 : ¬ (G = i + 1) := by omega
  have hb4 : ¬ (cap = i) := by omega
  have hb7 : ¬ (G = i) := by omega
  have hb5 : (cap : Int) < (cap : Int) + 1 := by omega
  have hb6 : (i : Int) ≤ (cap : Int) := by omega
  have hw1 : IntKind.i64.wrap ((i : Int) + 1) = (i : Int) + 1 := by rw [IntKind.wrap_i64]; omega
  have hb1 : (0 : Int) ≤ (i : Int) + 1 := by omega
  have htn : ((i : Int) + 1).toNat = i + 1 := by omega
  have hin : i ≤ cap := by omega
  clear hroom hnc hcm hcs htk hxl hgl hvl htl hold hRs hRt hN hO1 hS1 hrl hN2 hpl hO2 hdl hN3 h h1 hg hvb hI hz0 hz1 hz2 hik hGm
  go_enter Try.func54, Try.ntmps54
  go_wp2_with (first
    | (at_builtin; refine Lib.wpList_append_run _ rfl _ _ _ _ rfl _ _ rfl rfl _ _ (hrz _) ?_)
    | (at_builtin; refine wpList_copy_run _ rfl _ _ 60 59 rfl _ _ rfl rfl (hcpA _ _) ?_))
  go_region_law (refine step_copy_run rfl (.tmp 50) (.tmp 53) 60 60 rfl _ _ (by simp [Act.eval, Act.put]; rfl) (by simp [Act.eval, Act.put]; rfl) (hcpB _ _ _) ?_)
  go_wp2
  go_ret
  exact ⟨_, rfl, HE.out.1, HE.out.2, rfl⟩

/-- slices.Insert of one file. -/
theorem insert_any (v : Value) (n i vb : Nat) (xs : List Value) (s d : Value) (w : World) (h : w.ownsRow 0 72 2 v n xs) (hi : i ≤ n) (hn : n ≤ 1000000000) (hvb : w.heap[vb]? = some (.cells #[s, d] 72 (0, 0))) (hne : v.ownBlock ≠ some vb) (hs : s.oneCell' = true) (hd : d.oneCell' = true) (h1 : ∀ u ∈ xs, u.oneCell' = true) :
    Calls Try.prog 54 #[v, .int .i64 i, .slice (some ⟨vb, 0, none⟩) 1 1] w fun e w' => ∃ v', e = .returned v' ∧ w'.ownsRow 0 72 2 v' (n + 1) (xs.take (i * 2) ++ [s, d] ++ xs.drop (i * 2)) ∧ w.grownBy w' v.ownBlock ∧ (v'.ownBlock = v.ownBlock ∨ v'.ownBlock = some w.heap.size) := by
  by_cases he : i = n
  · subst he
    have hxl : xs.length = i * 2 := h.1
    rw [List.take_of_length_le (by omega), List.drop_eq_nil_of_le (by omega), List.append_nil]
    exact insert_end v i vb xs s d w h hn hvb hs hd
  · rcases own_shape h with ⟨_, h0⟩ | ⟨g, cap, rfl, hc1, hc2, hc3⟩
    · omega
    · by_cases hr : n + 1 ≤ cap
      · refine (insert_shift g n cap i vb xs s d w h (by omega) hn hr hvb (fun e => hne (by rw [e]; rfl)) hs hd h1).mono ?_
        rintro e w' ⟨v', rfl, h2, h3, h4⟩
        exact ⟨v', rfl, h2, h3, Or.inl h4⟩
      · refine (insert_grow g n cap i vb xs s d w h (by omega) hn hr hvb hs hd h1).mono ?_
        rintro e w' ⟨v', rfl, h2, h3, h4⟩
        exact ⟨v', rfl, h2, h3, Or.inr h4⟩
end Go.Proofs.Ytleelemcmnlfiaa
namespace Go.Proofs.Ytleelemcmnlfiaa
open Go.RowKit

theorem step_append_run {P : Program} {ops : Array Oper} {o : Oper} {a : Act} {w : World} {K : Act → World → Prop} {Q : Exit → Act → World → Prop} {E : Prop}
    (hg : o.guard = none) (d x : Operand) (dT sT : TypeId) (hop : o.op = Op.call { callee := Callee.builtin Builtin.append, args := #[d, x], argTypes := #[dT, sT] })
    (v u : Value) (hd : a.eval d = v) (hx : a.eval x = u) {v' : Value} {w' : World} (hr : (Builtin.append_ #[dT, sT] o.type #[v, u]).run P w = .ok v' w') (hK : K (a.put o.dst v') w') :
    if Region.wanted o (yielded ops a.tmps) = true then Oper.wp P o a w K Q else E := by
  have hw : Region.wanted o (yielded ops a.tmps) = true := by simp [Region.wanted, hg]
  rw [if_pos hw]
  unfold Oper.wp
  simp [execOp, hop, resolve, invoke, builtin, hd, hx, hr, Result.andThen]
  exact hK
theorem wpList_clear_run {P : Program} (w : World) {ops : Array Oper} {rest : List Oper} {o : Oper} {a : Act} {Q : Exit → Act → World → Prop} (hgd : o.guard = none) (d : Operand) (t : TypeId)
    (ho : o.op = .call { callee := .builtin .clear, args := #[d], argTypes := #[t] }) (v : Value) (hd : a.eval d = v) {v' : Value} {w' : World}
    (hr : (Builtin.clear_ #[t] o.type #[v]).run P w = .ok v' w') (h : wpList P ops Q rest (a.put o.dst v') w') : wpList P ops Q (o :: rest) a w := by
  refine wpList_plain hgd fun _ hK => ?_
  unfold Oper.wp execOp
  simp only [ho, resolve, invoke, builtin, Sem.run_bind, Sem.run_pure, Result.andThen_ok, List.map_toArray, List.map_cons, List.map_nil, hd, hr]
  exact hK _ _ h

set_option maxHeartbeats 2000000 in
set_option maxRecDepth 20000 in
theorem delete_any (v : Value) (n i : Nat) (xs : List Value) (w : World) (h : w.ownsRow 0 72 2 v n xs) (hi : i < n) (hn : n ≤ 1000000000) (h1 : ∀ u ∈ xs, u.oneCell' = true) :
    Calls Try.prog 55 #[v, .int .i64 i, .int .i64 ((i : Int) + 1)] w fun e w' => ∃ v', e = .returned v' ∧ w'.ownsRow 0 72 2 v' (n - 1) (xs.take (i * 2) ++ xs.drop ((i + 1) * 2)) ∧ w.grownBy w' v.ownBlock ∧ v'.ownBlock = v.ownBlock := by
  obtain ⟨I, hI, hz0, hz1, hz2⟩ := info_parts Try.info72
  obtain ⟨g, cap, cur, rfl, hg, hnc, hcm, hcs, htk⟩ : ∃ (g cap : Nat) (cur : Array Value), v = .slice (some ⟨g, 0, none⟩) n cap ∧ w.heap[g]? = some (.cells cur 72 (0, 0)) ∧ n ≤ cap ∧ cap ≤ maxLen ∧ cur.size = cap * 2 ∧ cur.toList.take (n * 2) = xs := by
    rcases h.2 with ⟨_, h0⟩ | ⟨g', cap', cur, e, _, hg, hn, hc, hs, ht⟩
    · omega
    · exact ⟨g', cap', cur, e, hg, hn, hc, hs, ht⟩
  have hxl : xs.length = n * 2 := h.1
  have hcl : cur.toList.length = cap * 2 := by rw [Array.length_toList, hcs]
  have hdl : (xs.drop ((i + 1) * 2)).length = (n - (i + 1)) * 2 := by rw [List.length_drop, hxl]; omega
  obtain ⟨A, hA, HA⟩ : ∃ A : Addr, (if cap = i + 1 then some (⟨g, 0, none⟩ : Addr) else some ⟨g, (i + 1) * 2, none⟩) = some A ∧ Hid (∀ j u, (xs.drop ((i + 1) * 2))[j]? = some u → w.drew.cell? (A.add j) = some u) := by
    by_cases hc : cap = i + 1
    · refine ⟨⟨g, 0, none⟩, by simp [hc], fun j u hu => ?_⟩
      rw [List.drop_eq_nil_of_le (by omega)] at hu
      simp at hu
    · refine ⟨⟨g, (i + 1) * 2, none⟩, by simp [hc], fun j u hu => ?_⟩
      rw [Addr.add_lit, cell_of_row w.drew _ _ _ _ _ hg]
      rw [← htk, List.getElem?_drop, List.getElem?_take] at hu
      split at hu
      · simpa using hu
      · simp at hu
  obtain ⟨W1, HW1⟩ : ∃ W1, Hid (W1 = w.drew.setCells g (i * 2) (xs.drop ((i + 1) * 2))) := ⟨w.drew.setCells g (i * 2) (xs.drop ((i + 1) * 2)), (rfl : _ = _)⟩
  have hap : ∀ ty c, (Builtin.append_ #[60, 60] ty #[.slice (some ⟨g, 0, none⟩) i cap, .slice (some A) (n - (i + 1)) c]).run Try.prog w.drew = .ok (.slice (some ⟨g, 0, none⟩) (n - 1) cap) W1 := fun ty c => by
    have := run_append_room_src (P := Try.prog) w.drew 60 60 ty 72 I Try.underlying60 hI g 0 i cap (.slice (some A) (n - (i + 1)) c) (n - (i + 1)) (xs.drop ((i + 1) * 2)) (by rw [hz1]; exact Src.ofSlice w.drew Try.underlying60 A _ c _ hdl HA.out (fun u hu => h1 u (List.mem_of_mem_drop hu))) (by omega) (fun j hj => some_of_heap (w := w.drew) hg _ (by rw [hz1]; omega)) (fun j hj => frozen_of_heap (w := w.drew) hg _)
    rw [this, hz1, HW1.out, Nat.zero_add, show i + (n - (i + 1)) = n - 1 by omega]
  have hH1 : W1.heap[g]? = some (.cells (put cur.toList (i * 2) (xs.drop ((i + 1) * 2))).toArray 72 (0, 0)) := by
    rw [HW1.out]; exact heap_setCells _ _ w.drew _ hg (by rw [hdl]; omega)
  have hpl := put_len cur.toList (i * 2) (xs.drop ((i + 1) * 2)) (by rw [hdl, hcl]; omega)
  obtain ⟨W2, HW2⟩ : ∃ W2, Hid (W2 = W1.setCells g ((n - 1) * 2) [.string ⟨#[]⟩, .slice none 0 0]) := ⟨W1.setCells g ((n - 1) * 2) [.string ⟨#[]⟩, .slice none 0 0], (rfl : _ = _)⟩
  have hclr : ∀ ty c, (Builtin.clear_ #[60] ty #[.slice (some ⟨g, (n - 1) * 2, none⟩) 1 c]).run Try.prog W1 = .ok (.tuple #[]) W2 := fun ty c => by
    rw [HW2.out]
    exact run_clear_two W1 60 72 ty _ _ _ Try.underlying60 (fun w => by simp only [zeroValue, typeInfo, Sem.run_bind]; simp [hI, hz0]; rfl) rfl rfl rfl g _ c (fun j hj => some_of_heap hH1 _ (by rw [List.size_toArray, hpl, hcl]; omega)) (fun j hj => frozen_of_heap hH1 _)
  have hH2 : W2.heap[g]? = some (.cells (put (put cur.toList (i * 2) (xs.drop ((i + 1) * 2))) ((n - 1) * 2) [.string ⟨#[]⟩, .slice none 0 0]).toArray 72 (0, 0)) := by
    rw [HW2.out]; exact heap_setCells _ _ W1 (put cur.toList (i * 2) (xs.drop ((i + 1) * 2))).toArray hH1 (by rw [List.size_toArray, hpl, hcl]; simp; omega)
  have HE : Hid (W2.ownsRow 0 72 2 (.slice (some ⟨g, 0, none⟩) (n - 1) cap) (n - 1) (xs.take (i * 2) ++ xs.drop ((i + 1) * 2)) ∧ w.grownBy W2 (some g)) := by
    refine ⟨own_of_heap hH2 (by omega) hcm ?_ ?_, ?_⟩
    · rw [List.size_toArray, put_len _ _ _ (by rw [hpl, hcl]; simp; omega), hpl, hcl]
    · apply List.ext_getElem?
      intro j
      have e1 : (xs.take (i * 2)).length = i * 2 := by rw [List.length_take, hxl]; omega
      simp only
      rw [List.getElem?_take]
      split
      · rw [put_get _ _ _ (by rw [hpl, hcl]; simp; omega), if_neg (by omega), put_get _ _ _ (by rw [hdl, hcl]; omega), hdl]
        by_cases c1 : j < i * 2
        · rw [if_neg (by omega), List.getElem?_append_left (by omega), List.getElem?_take, if_pos c1, ← htk, List.getElem?_take, if_pos (by omega)]
        · rw [if_pos (by omega), List.getElem?_append_right (by omega), e1]
      · rw [List.getElem?_eq_none (by simp; omega)]
    · have hgr := grown_drew_left (grown_setCells g (xs.drop ((i + 1) * 2)) (i * 2) w.drew)
      rw [← HW1.out] at hgr
      have hg2 := grown_setCells g [.string ⟨#[]⟩, .slice none 0 0] ((n - 1) * 2) W1
      rw [← HW2.out] at hg2
      exact hgr.trans hg2
  have hcap : cap ≤ 9223372036854775807 := hcm
  have hb1 : (0 : Int) ≤ (i : Int) + 1 := by omega
  have hb2 : (i : Int) + 1 ≤ (n : Int) := by omega
  have hb3 : (i : Int) ≤ (i : Int) + 1 := by omega
  have hb4 : ¬ ((i : Int) = (i : Int) + 1) := by omega
  have hb5 : (i : Int) ≤ (cap : Int) := by omega
  have hb6 : (i : Int) ≤ (n : Int) := by omega
  have htn : ((i : Int) + 1).toNat = i + 1 := by omega
  have hic : i + 1 ≤ n := by omega
  have hb8 : ¬ (cap = n - 1) := by omega
  have hb9 : (n : Int) ≤ (cap : Int) := by omega
  have hb10 : n - (n - 1) = 1 := by omega
  have hb11 : ((n - 1 : Nat) : Int) ≤ (n : Int) := by omega
  have hib : i < n := hi
  clear hcm hcs htk hdl hH1 hpl hcl h hxl h1 hg hI hz0 hz1 hz2 hH2
  go_enter Try.func55, Try.ntmps55
  go_wp2_with fail
  go_region_law (refine step_append_run rfl (.tmp 22) (.tmp 25) 60 60 rfl (.slice (some ⟨g, 0, none⟩) i cap) (.slice (some A) (n - (i + 1)) (cap - (i + 1))) (by simp [Act.eval, Act.put]) (by simp [Act.eval, Act.put]) (hap _ _) ?_)
  go_wp2_with (at_builtin; refine wpList_clear_run _ rfl (.tmp 31) 60 rfl _ rfl (hclr _ _) ?_)
  go_ret
  exact ⟨_, rfl, HE.out.1, HE.out.2, rfl⟩
end Go.Proofs.Ytleelemcmnlfiaa

/- The walks of slices.Insert in the middle, and slices.Delete, at files. The walk of slices.Insert in the middle without room; slices.Insert whole. The walk of slices.Delete of one file. The walks of bytes.Clone and of a folder's add. The walks of a folder's cut, remove and move. -/
import Derived.Test.YtjndgekpdmlbiaaGreatDoorPart04
namespace Go.Proofs.YtjndgekpdmlbiaaGreatDoor.Dk
open Go.RowKit

/-- 'copy' whose run is known, for the walk. -/
theorem wpList_copy_run {P : Program} (w : World) {ops : Array Oper} {rest : List Oper} {o : Oper} {a : Act} {Q : Exit → Act → World → Prop} (hgd : o.guard = none) (d s : Operand) (t t' : TypeId)
    (ho : o.op = .call { callee := .builtin .copy, args := #[d, s], argTypes := #[t, t'] }) (v u : Value) (hd : a.eval d = v) (hs : a.eval s = u) {v' : Value} {w' : World}
    (hr : (Builtin.copy_ #[t, t'] o.type #[v, u]).run P w = .ok v' w') (h : wpList P ops Q rest (a.put o.dst v') w') : wpList P ops Q (o :: rest) a w := by
  refine wpList_plain hgd fun _ hK => ?_
  unfold Oper.wp execOp
  simp only [ho, resolve, invoke, builtin, Sem.run_bind, Sem.run_pure, Result.andThen_ok, List.map_toArray, List.map_cons, List.map_nil, hd, hs, hr]
  exact hK _ _ h
theorem step_copy_run {P : Program} {ops : Array Oper} {o : Oper} {a : Act} {w : World} {K : Act → World → Prop} {Q : Exit → Act → World → Prop} {E : Prop}
    (hg : o.guard = none) (d x : Operand) (dT sT : TypeId) (hop : o.op = Op.call { callee := Callee.builtin Builtin.copy, args := #[d, x], argTypes := #[dT, sT] })
    (v u : Value) (hd : a.eval d = v) (hx : a.eval x = u) {v' : Value} {w' : World} (hr : (Builtin.copy_ #[dT, sT] o.type #[v, u]).run P w = .ok v' w') (hK : K (a.put o.dst v') w') :
    if Region.wanted o (yielded ops a.tmps) = true then Oper.wp P o a w K Q else E := by
  have hw : Region.wanted o (yielded ops a.tmps) = true := by simp [Region.wanted, hg]
  rw [if_pos hw]
  unfold Oper.wp
  simp [execOp, hop, resolve, invoke, builtin, hd, hx, hr, Result.andThen]
  exact hK

theorem shape_of_heap {w : World} {b : Nat} {cs : Array Value} {T : TypeId} {fr : Nat × Nat} (h : w.heap[b]? = some (.cells cs T fr)) : w.shape? b = some (T, cs.size) := by simp [World.shape?, h]
theorem frozen_of_heap {w : World} {b : Nat} {cs : Array Value} {T : TypeId} (h : w.heap[b]? = some (.cells cs T (0, 0))) (j : Nat) : w.frozen? ⟨b, j, none⟩ = false := by simp [World.frozen?, h]
theorem some_of_heap {w : World} {b : Nat} {cs : Array Value} {T : TypeId} {fr : Nat × Nat} (h : w.heap[b]? = some (.cells cs T fr)) (j : Nat) (hj : j < cs.size) : (w.cell? ⟨b, j, none⟩).isSome = true := by
  rw [cell_of_row w b j _ T _ h, Array.getElem?_eq_getElem hj]; rfl

set_option maxHeartbeats 2000000 in
set_option maxRecDepth 20000 in
theorem insert_shift (g n cap i vb : Nat) (xs : List Value) (s d : Value) (w : World) (h : w.ownsRow 0 113 2 (.slice (some ⟨g, 0, none⟩) n cap) n xs) (hi : i < n) (hn : n ≤ 1000000000) (hroom : n + 1 ≤ cap) (hvb : w.heap[vb]? = some (.cells #[s, d] 113 (0, 0))) (hne : vb ≠ g) (hs : s.oneCell' = true) (hd : d.oneCell' = true) (h1 : ∀ u ∈ xs, u.oneCell' = true) :
    Calls Tryz.prog 98 #[.slice (some ⟨g, 0, none⟩) n cap, .int .i64 i, .slice (some ⟨vb, 0, none⟩) 1 1] w fun e w' => ∃ v', e = .returned v' ∧ w'.ownsRow 0 113 2 v' (n + 1) (xs.take (i * 2) ++ [s, d] ++ xs.drop (i * 2)) ∧ w.grownBy w' (some g) ∧ v'.ownBlock = some g := by
  obtain ⟨I, hI, hz0, hz1, hz2⟩ := info_parts Tryz.info113
  obtain ⟨cur, hg, hcm, hcs, htk⟩ : ∃ cur : Array Value, w.heap[g]? = some (.cells cur 113 (0, 0)) ∧ cap ≤ maxLen ∧ cur.size = cap * 2 ∧ cur.toList.take (n * 2) = xs := by
    rcases h.2 with ⟨hv, _⟩ | ⟨g', cap', cur, e, _, hg, _, hc, hs, ht⟩
    · simp at hv
    · simp only [Value.slice.injEq, Option.some.injEq, Addr.mk.injEq, and_true, true_and] at e
      obtain ⟨rfl, rfl⟩ := e
      exact ⟨cur, hg, hc, hs, ht⟩
  have hxl : xs.length = n * 2 := h.1
  have hcap : cap ≤ 9223372036854775807 := hcm
  have hgd : w.drew.heap[g]? = some (.cells cur 113 (0, 0)) := hg
  have hov : ∀ lb cb, (callFunc 125 #[.slice (some ⟨vb, 0, none⟩) 1 1, .slice (some ⟨g, (i + 1) * 2, none⟩) lb cb]).run Tryz.prog w = .ok (.value (.bool false)) w := fun lb cb => by
    rw [run_callFunc_extern Tryz.func125 (by kernel_rfl) (by kernel_rfl) (by kernel_rfl) (e := Extern.SlicesOverlaps.overlaps #[69, 69] #[4]) (by kernel_rfl),
      Lib.run_overlaps_apart w 69 4 113 Tryz.underlying69 2 (fun w => by simp [sizeOf, typeInfo, hI, hz1]) ⟨vb, 0, none⟩ ⟨g, (i + 1) * 2, none⟩ 1 1 lb cb hne 113 113 2 (cap * 2) (by rw [shape_of_heap hvb]; rfl) (by rw [shape_of_heap hg, hcs]) (by omega) (frozen_of_heap hvb 0) (frozen_of_heap hvb 2)]
    rfl
  have hdl : (xs.drop (i * 2)).length = (n - i) * 2 := by rw [List.length_drop, hxl]; omega
  have hcp1 : ∀ ty dc sc, (Builtin.copy_ #[70, 70] ty #[.slice (some ⟨g, (i + 1) * 2, none⟩) (n - i) dc, .slice (some ⟨g, i * 2, none⟩) (n + 1 - i) sc]).run Tryz.prog w.drew = .ok (goInt (Nat.min (n + 1 - i) (n - i))) (w.drew.setCells g ((i + 1) * 2) (xs.drop (i * 2))) := fun ty dc sc =>
    run_copy_two w.drew _ _ ty 113 I g ((i + 1) * 2) _ dc ⟨g, i * 2, none⟩ _ sc (xs.drop (i * 2)) Tryz.underlying70 hI hz1 (by rw [hdl]; congr 1; simp only [Nat.min_def]; split <;> omega)
      (fun j v hj => by
        rw [Addr.add_lit, cell_of_row _ _ _ _ _ _ hgd]
        rw [← htk, List.getElem?_drop, List.getElem?_take] at hj
        split at hj
        · simpa using hj
        · simp at hj)
      (fun j hj => some_of_heap hgd _ (by omega)) (fun j hj => frozen_of_heap hgd _) (fun v hv => h1 v (List.mem_of_mem_drop hv))
  obtain ⟨W1, HW1⟩ : ∃ W1, Hid (W1 = w.drew.setCells g ((i + 1) * 2) (xs.drop (i * 2))) := ⟨w.drew.setCells g ((i + 1) * 2) (xs.drop (i * 2)), (rfl : _ = _)⟩
  have hH1 : W1.heap[g]? = some (.cells (put cur.toList ((i + 1) * 2) (xs.drop (i * 2))).toArray 113 (0, 0)) := by
    rw [HW1.out]; exact heap_setCells _ _ _ _ hgd (by rw [hdl]; omega)
  have hcl : cur.toList.length = cap * 2 := by rw [Array.length_toList, hcs]
  have hpl := put_len cur.toList ((i + 1) * 2) (xs.drop (i * 2)) (by rw [hdl, hcl]; omega)
  have hvb1 : W1.heap[vb]? = some (.cells #[s, d] 113 (0, 0)) := by rw [HW1.out, setCells_other _ _ _ _ hne]; exact hvb
  have hcp2 : ∀ ty dc, (Builtin.copy_ #[70, 69] ty #[.slice (some ⟨g, i * 2, none⟩) (n + 1 - i) dc, .slice (some ⟨vb, 0, none⟩) 1 1]).run Tryz.prog W1 = .ok (goInt (Nat.min 1 (n + 1 - i))) (W1.setCells g (i * 2) [s, d]) := fun ty dc =>
    run_copy_two W1 _ _ ty 113 I g (i * 2) _ dc ⟨vb, 0, none⟩ _ 1 [s, d] Tryz.underlying70 hI hz1 (by rw [show Nat.min 1 (n + 1 - i) = 1 by simp only [Nat.min_def]; split <;> omega]; rfl)
      (fun j v hj => by
        rw [Addr.add_lit, Nat.zero_add, cell_of_row _ _ _ _ _ _ hvb1]
        simpa using hj)
      (fun j hj => some_of_heap hH1 _ (by simp at hj; rw [List.size_toArray, hpl, hcl]; omega)) (fun j hj => frozen_of_heap hH1 _) (by simp [hs, hd])
  have HE : Hid ((W1.setCells g (i * 2) [s, d]).ownsRow 0 113 2 (.slice (some ⟨g, 0, none⟩) (n + 1) cap) (n + 1) (xs.take (i * 2) ++ [s, d] ++ xs.drop (i * 2)) ∧ w.grownBy (W1.setCells g (i * 2) [s, d]) (some g)) := by
    refine ⟨own_of_heap (heap_setCells _ _ _ _ hH1 (by rw [List.size_toArray, hpl, hcl]; simp; omega)) hroom hcm ?_ ?_, ?_⟩
    · rw [List.size_toArray, put_len _ _ _ (by simp only [hpl, hcl]; simp; omega)]
      simp only [hpl, hcl]
    · apply List.ext_getElem?
      intro j
      have e1 : (xs.take (i * 2)).length = i * 2 := by simp; omega
      simp only
      rw [List.getElem?_take]
      split
      · rw [put_get _ _ _ (by rw [hpl, hcl]; simp; omega)]
        by_cases c1 : j < i * 2
        · rw [if_neg (by omega), put_get _ _ _ (by rw [hdl, hcl]; omega), if_neg (by omega), List.append_assoc, List.getElem?_append_left (by omega), List.getElem?_take, if_pos c1, ← htk, List.getElem?_take, if_pos (by omega)]
        · by_cases c2 : j < i * 2 + 2
          · rw [if_pos (by simp; omega), List.append_assoc, List.getElem?_append_right (by omega), e1, List.getElem?_append_left (by simp; omega)]
          · rw [if_neg (by simp; omega), put_get _ _ _ (by rw [hdl, hcl]; omega), if_pos (by rw [hdl]; omega), List.getElem?_append_right (by simp; omega)]
            simp only [List.length_append, e1, List.length_cons, List.length_nil]
            congr 1
            omega
      · rw [List.getElem?_eq_none (by simp; omega)]
    · have hgr := grown_drew_left (grown_setCells g (xs.drop (i * 2)) ((i + 1) * 2) w.drew)
      rw [← HW1.out] at hgr
      exact hgr.trans (grown_setCells g [s, d] (i * 2) W1)
  rw [← HW1.out] at hcp1
  have hz2' : ¬ ((i : Int) = (n : Int)) := by omega
  have hb2 : ¬ (cap = i + 1) := by omega
  have hb3 : (i : Int) ≤ (n : Int) + 1 := by omega
  have hb4 : ¬ (cap = i) := by omega
  have hb5 : ¬ (cap : Int) < (n : Int) + 1 := by omega
  have hb6 : (i : Int) < (n : Int) := by omega
  have hnr : (n : Int) + 1 ≤ (cap : Int) := by omega
  have hw1 : IntKind.i64.wrap ((i : Int) + 1) = (i : Int) + 1 := by rw [IntKind.wrap_i64]; omega
  have hb1 : (0 : Int) ≤ (i : Int) + 1 := by omega
  have htn : ((i : Int) + 1).toNat = i + 1 := by omega
  have hin : i ≤ n := by omega
  clear hcs htk hdl hgd hH1 hpl hvb1 hcl h hxl hcm h1 hg hvb hI hz0 hz1 hz2
  go_enter Tryz.func98, Tryz.ntmps98
  go_wp2_with (simp only [hov])
  go_region_law (refine step_copy_run rfl (.tmp 73) (.tmp 76) 70 70 rfl _ _ (by simp [Act.eval, Act.put]; rfl) (by simp [Act.eval, Act.put]; rfl) (hcp1 _ _ _) ?_)
  go_wp2_with (at_builtin; refine wpList_copy_run _ rfl _ _ 70 69 rfl _ _ rfl rfl (hcp2 _ _) ?_)
  go_ret
  exact ⟨_, rfl, HE.out.1, HE.out.2, rfl⟩
end Go.Proofs.YtjndgekpdmlbiaaGreatDoor.Dk
namespace Go.Proofs.YtjndgekpdmlbiaaGreatDoor.Dk
open Go.RowKit

set_option maxHeartbeats 2000000 in
set_option maxRecDepth 20000 in
theorem insert_grow (g n cap i vb : Nat) (xs : List Value) (s d : Value) (w : World) (h : w.ownsRow 0 113 2 (.slice (some ⟨g, 0, none⟩) n cap) n xs) (hi : i < n) (hn : n ≤ 1000000000) (hroom : ¬ n + 1 ≤ cap) (hvb : w.heap[vb]? = some (.cells #[s, d] 113 (0, 0))) (hs : s.oneCell' = true) (hd : d.oneCell' = true) (h1 : ∀ u ∈ xs, u.oneCell' = true) :
    Calls Tryz.prog 98 #[.slice (some ⟨g, 0, none⟩) n cap, .int .i64 i, .slice (some ⟨vb, 0, none⟩) 1 1] w fun e w' => ∃ v', e = .returned v' ∧ w'.ownsRow 0 113 2 v' (n + 1) (xs.take (i * 2) ++ [s, d] ++ xs.drop (i * 2)) ∧ w.grownBy w' (some g) ∧ v'.ownBlock = some w.heap.size := by
  obtain ⟨I, hI, hz0, hz1, hz2⟩ := info_parts Tryz.info113
  obtain ⟨cur, hg, hnc, hcm, hcs, htk⟩ : ∃ cur : Array Value, w.heap[g]? = some (.cells cur 113 (0, 0)) ∧ n ≤ cap ∧ cap ≤ maxLen ∧ cur.size = cap * 2 ∧ cur.toList.take (n * 2) = xs := by
    rcases h.2 with ⟨hv, _⟩ | ⟨g', cap', cur, e, _, hg, hn, hc, hs, ht⟩
    · simp at hv
    · simp only [Value.slice.injEq, Option.some.injEq, Addr.mk.injEq, and_true, true_and] at e
      obtain ⟨rfl, rfl⟩ := e
      exact ⟨cur, hg, hn, hc, hs, ht⟩
  have hcn : cap = n := by omega
  subst hcn
  have hxl : xs.length = cap * 2 := h.1
  have hgl : g < w.heap.size := (Array.getElem?_eq_some_iff.1 hg).1
  have hvl : vb < w.heap.size := (Array.getElem?_eq_some_iff.1 hvb).1
  have htl : (xs.take (i * 2)).length = i * 2 := by rw [List.length_take, hxl]; omega
  have hold : (Builtin.firstCells I.size i (.slice (some ⟨g, 0, none⟩) i cap)).run Tryz.prog w.drew = .ok (xs.take (i * 2)).toArray w.drew := by
    rw [hz1]
    exact run_firstCells_some w.drew 2 i ⟨g, 0, none⟩ i cap (xs.take (i * 2)) htl (fun j v hj => by
      rw [Addr.add_lit, Nat.zero_add, cell_of_row w.drew _ _ _ _ _ hg]
      rw [← htk, List.getElem?_take] at hj
      split at hj
      · rw [List.getElem?_take] at hj
        split at hj
        · simpa using hj
        · simp at hj
      · simp at hj)
  obtain ⟨G, HG⟩ : ∃ G, Hid (G = grownCap w (cap + 1) cap 113) := ⟨grownCap w (cap + 1) cap 113, (rfl : _ = _)⟩
  have hGn : cap + 1 ≤ G := by rw [HG.out]; exact grownCap_ge w _ _ _
  have hGm : G ≤ maxLen := by rw [HG.out]; exact grownCap_le_maxLen w (cap + 1) cap 113 (by unfold maxLen; omega)
  obtain ⟨ROW, HROW⟩ : ∃ ROW : Array Value, Hid (ROW = (xs.take (i * 2)).toArray ++ Builtin.zeroCells (Value.agg #[.string ⟨#[]⟩, .slice none 0 0]).cells (cap + 1 - i) ++ Builtin.zeroCells (Value.agg #[.string ⟨#[]⟩, .slice none 0 0]).cells (G - (cap + 1))) := ⟨_, (rfl : _ = _)⟩
  obtain ⟨W1, HW1⟩ : ∃ W1, Hid (W1 = w.drew.alloc (.cells ROW 113)) := ⟨w.drew.alloc (.cells ROW 113), (rfl : _ = _)⟩
  have hik : i + (cap + 1 - i) = cap + 1 := by omega
  have hrz : ∀ ty, (Builtin.append_ #[70, 3] ty #[.slice (some ⟨g, 0, none⟩) i cap, .int .i64 ((cap : Int) + 1 - (i : Int))]).run Tryz.prog w = .ok (.slice (some ⟨w.heap.size, 0, none⟩) (cap + 1) G) W1 := fun ty => by
    have h := Lib.run_append_grow_zeros w 70 3 ty 113 I _ .i64 .i64 Tryz.underlying70 Tryz.underlying3 hI hz0 (some ⟨g, 0, none⟩) i cap (xs.take (i * 2)) hold (cap + 1 - i) (by omega) (by omega) (by omega) (by omega) (by rw [hz2]; omega) (by rw [hz2, hik]; exact growslice_fits (by omega) (by omega))
    rw [hik] at h
    rw [show (cap : Int) + 1 - (i : Int) = ((cap + 1 - i : Nat) : Int) by omega, h, HW1.out, HROW.out, HG.out]
  have hRs : ROW.size = G * 2 := by
    have e1 : (Value.agg #[.string ⟨#[]⟩, .slice none 0 0]).cells.size = 2 := rfl
    rw [HROW.out, Array.size_append, Array.size_append, size_zeroCells, size_zeroCells, List.size_toArray, htl, e1]
    omega
  have hRt : ROW.toList.take (i * 2) = xs.take (i * 2) := by
    rw [HROW.out, Array.toList_append, Array.toList_append, List.append_assoc]
    have := List.take_left (l₁ := xs.take (i * 2)) (l₂ := (Builtin.zeroCells (Value.agg #[.string ⟨#[]⟩, .slice none 0 0]).cells (cap + 1 - i)).toList ++ (Builtin.zeroCells (Value.agg #[.string ⟨#[]⟩, .slice none 0 0]).cells (G - (cap + 1))).toList)
    rw [htl] at this
    exact this
  have hN : W1.heap[w.heap.size]? = some (.cells ROW 113 (0, 0)) := by rw [HW1.out]; exact heap_alloc_new w.drew _
  have hO1 : ∀ k, k < w.heap.size → W1.heap[k]? = w.heap[k]? := fun k hk => by rw [HW1.out]; exact Below.heap_alloc w.drew _ k hk
  have hS1 : w.grownBy W1 (some g) := by rw [HW1.out]; exact grown_drew_left (World.grownBy_alloc w.drew _ _)
  have hrl : ROW.toList.length = G * 2 := by rw [Array.length_toList, hRs]
  have hcpA : ∀ ty dc, (Builtin.copy_ #[70, 69] ty #[.slice (some ⟨w.heap.size, i * 2, none⟩) (cap + 1 - i) dc, .slice (some ⟨vb, 0, none⟩) 1 1]).run Tryz.prog W1 = .ok (goInt (Nat.min 1 (cap + 1 - i))) (W1.setCells w.heap.size (i * 2) [s, d]) := fun ty dc =>
    run_copy_two W1 _ _ ty 113 I w.heap.size (i * 2) _ dc ⟨vb, 0, none⟩ _ 1 [s, d] Tryz.underlying70 hI hz1 (by rw [show Nat.min 1 (cap + 1 - i) = 1 by simp only [Nat.min_def]; split <;> omega]; rfl)
      (fun j v hj => by
        rw [Addr.add_lit, Nat.zero_add, cell_of_row _ _ _ _ _ _ ((hO1 vb hvl).trans hvb)]
        simpa using hj)
      (fun j hj => some_of_heap hN _ (by simp at hj; omega)) (fun j hj => frozen_of_heap hN _) (by simp [hs, hd])
  obtain ⟨W2, HW2⟩ : ∃ W2, Hid (W2 = W1.setCells w.heap.size (i * 2) [s, d]) := ⟨W1.setCells w.heap.size (i * 2) [s, d], (rfl : _ = _)⟩
  have hN2 : W2.heap[w.heap.size]? = some (.cells (put ROW.toList (i * 2) [s, d]).toArray 113 (0, 0)) := by
    rw [HW2.out]; exact heap_setCells _ _ _ _ hN (by simp; omega)
  have hpl := put_len ROW.toList (i * 2) [s, d] (by rw [hrl]; simp; omega)
  have hO2 : ∀ k, k < w.heap.size → W2.heap[k]? = w.heap[k]? := fun k hk => by rw [HW2.out, setCells_other _ _ _ _ (by omega)]; exact hO1 k hk
  have hdl : (xs.drop (i * 2)).length = (cap - i) * 2 := by rw [List.length_drop, hxl]; omega
  have hcpB : ∀ ty dc sc, (Builtin.copy_ #[70, 70] ty #[.slice (some ⟨w.heap.size, (i + 1) * 2, none⟩) (cap - i) dc, .slice (some ⟨g, i * 2, none⟩) (cap - i) sc]).run Tryz.prog W2.drew = .ok (goInt (Nat.min (cap - i) (cap - i))) (W2.drew.setCells w.heap.size ((i + 1) * 2) (xs.drop (i * 2))) := fun ty dc sc =>
    run_copy_two W2.drew _ _ ty 113 I w.heap.size ((i + 1) * 2) _ dc ⟨g, i * 2, none⟩ _ sc (xs.drop (i * 2)) Tryz.underlying70 hI hz1 (by rw [hdl]; congr 1; simp only [Nat.min_def]; split <;> omega)
      (fun j v hj => by
        rw [Addr.add_lit, cell_of_row W2.drew _ _ _ _ _ ((hO2 g hgl).trans hg)]
        rw [← htk, List.getElem?_drop, List.getElem?_take] at hj
        split at hj
        · simpa using hj
        · simp at hj)
      (fun j hj => some_of_heap (w := W2.drew) hN2 _ (by rw [List.size_toArray, hpl, hrl]; omega)) (fun j hj => frozen_of_heap (w := W2.drew) hN2 _) (fun v hv => h1 v (List.mem_of_mem_drop hv))
  obtain ⟨W3, HW3⟩ : ∃ W3, Hid (W3 = W2.drew.setCells w.heap.size ((i + 1) * 2) (xs.drop (i * 2))) := ⟨W2.drew.setCells w.heap.size ((i + 1) * 2) (xs.drop (i * 2)), (rfl : _ = _)⟩
  have hN3 : W3.heap[w.heap.size]? = some (.cells (put (put ROW.toList (i * 2) [s, d]) ((i + 1) * 2) (xs.drop (i * 2))).toArray 113 (0, 0)) := by
    rw [HW3.out]; exact heap_setCells _ _ W2.drew (put ROW.toList (i * 2) [s, d]).toArray hN2 (by rw [List.size_toArray, hpl, hrl, hdl]; omega)
  have HE : Hid (W3.ownsRow 0 113 2 (.slice (some ⟨w.heap.size, 0, none⟩) (cap + 1) G) (cap + 1) (xs.take (i * 2) ++ [s, d] ++ xs.drop (i * 2)) ∧ w.grownBy W3 (some g)) := by
    refine ⟨own_of_heap hN3 hGn hGm ?_ ?_, ?_⟩
    · rw [List.size_toArray, put_len _ _ _ (by rw [hpl, hrl, hdl]; omega), hpl, hrl]
    · apply List.ext_getElem?
      intro j
      simp only
      rw [List.getElem?_take]
      split
      · rw [put_get _ _ _ (by rw [hpl, hrl, hdl]; omega), put_get _ _ _ (by rw [hrl]; simp; omega), hdl]
        by_cases c1 : j < i * 2
        · have e := congrArg (fun l => l[j]?) hRt
          simp only [List.getElem?_take, if_pos c1] at e
          rw [if_neg (by omega), if_neg (by omega), e, List.append_assoc, List.getElem?_append_left (by omega), List.getElem?_take, if_pos c1]
        · by_cases c2 : j < i * 2 + 2
          · rw [if_neg (by omega), if_pos (by simp; omega), List.append_assoc, List.getElem?_append_right (by omega), htl, List.getElem?_append_left (by simp; omega)]
          · rw [if_pos (by omega), List.getElem?_append_right (by simp; omega)]
            simp only [List.length_append, htl, List.length_cons, List.length_nil]
            congr 1
            omega
      · rw [List.getElem?_eq_none (by simp; omega)]
    · obtain ⟨a1, a2, a3, a4⟩ := setCells_same (b := w.heap.size) [s, d] (i * 2) W1
      obtain ⟨b1, b2, b3, b4⟩ := setCells_same (b := w.heap.size) (xs.drop (i * 2)) ((i + 1) * 2) W2.drew
      rw [← HW2.out] at a1 a2 a3 a4
      rw [← HW3.out] at b1 b2 b3 b4
      refine ⟨b1.trans (a1.trans hS1.os), b2.trans (a2.trans hS1.tape), b3.trans (a3.trans hS1.output), ?_, fun k hk _ => ?_⟩
      · have e : W2.drew.heap.size = W2.heap.size := rfl
        have := hS1.size
        omega
      · rw [HW3.out, setCells_other _ _ W2.drew _ (by omega)]
        exact hO2 k hk
  rw [← HW2.out] at hcpA
  rw [← HW3.out] at hcpB
  have hG63 : G ≤ 9223372036854775807 := hGm
  have hcap : cap ≤ 9223372036854775807 := by omega
  have hz2' : ¬ ((i : Int) = (cap : Int)) := by omega
  have hb2 : ¬ (G = i + 1) := by omega
  have hb4 : ¬ (cap = i) := by omega
  have hb7 : ¬ (G = i) := by omega
  have hb5 : (cap : Int) < (cap : Int) + 1 := by omega
  have hb6 : (i : Int) ≤ (cap : Int) := by omega
  have hw1 : IntKind.i64.wrap ((i : Int) + 1) = (i : Int) + 1 := by rw [IntKind.wrap_i64]; omega
  have hb1 : (0 : Int) ≤ (i : Int) + 1 := by omega
  have htn : ((i : Int) + 1).toNat = i + 1 := by omega
  have hin : i ≤ cap := by omega
  clear hroom hnc hcm hcs htk hxl hgl hvl htl hold hRs hRt hN hO1 hS1 hrl hN2 hpl hO2 hdl hN3 h h1 hg hvb hI hz0 hz1 hz2 hik hGm
  go_enter Tryz.func98, Tryz.ntmps98
  go_wp2_with (first
    | (at_builtin; refine Lib.wpList_append_run _ rfl _ _ _ _ rfl _ _ rfl rfl _ _ (hrz _) ?_)
    | (at_builtin; refine wpList_copy_run _ rfl _ _ 70 69 rfl _ _ rfl rfl (hcpA _ _) ?_))
  go_region_law (refine step_copy_run rfl (.tmp 50) (.tmp 53) 70 70 rfl _ _ (by simp [Act.eval, Act.put]; rfl) (by simp [Act.eval, Act.put]; rfl) (hcpB _ _ _) ?_)
  go_wp2
  go_ret
  exact ⟨_, rfl, HE.out.1, HE.out.2, rfl⟩

/-- slices.Insert of one file. -/
theorem insert_any (v : Value) (n i vb : Nat) (xs : List Value) (s d : Value) (w : World) (h : w.ownsRow 0 113 2 v n xs) (hi : i ≤ n) (hn : n ≤ 1000000000) (hvb : w.heap[vb]? = some (.cells #[s, d] 113 (0, 0))) (hne : v.ownBlock ≠ some vb) (hs : s.oneCell' = true) (hd : d.oneCell' = true) (h1 : ∀ u ∈ xs, u.oneCell' = true) :
    Calls Tryz.prog 98 #[v, .int .i64 i, .slice (some ⟨vb, 0, none⟩) 1 1] w fun e w' => ∃ v', e = .returned v' ∧ w'.ownsRow 0 113 2 v' (n + 1) (xs.take (i * 2) ++ [s, d] ++ xs.drop (i * 2)) ∧ w.grownBy w' v.ownBlock ∧ (v'.ownBlock = v.ownBlock ∨ v'.ownBlock = some w.heap.size) := by
  by_cases he : i = n
  · subst he
    have hxl : xs.length = i * 2 := h.1
    rw [List.take_of_length_le (by omega), List.drop_eq_nil_of_le (by omega), List.append_nil]
    exact insert_end v i vb xs s d w h hn hvb hs hd
  · rcases own_shape h with ⟨_, h0⟩ | ⟨g, cap, rfl, hc1, hc2, hc3⟩
    · omega
    · by_cases hr : n + 1 ≤ cap
      · refine (insert_shift g n cap i vb xs s d w h (by omega) hn hr hvb (fun e => hne (by rw [e]; rfl)) hs hd h1).mono ?_
        rintro e w' ⟨v', rfl, h2, h3, h4⟩
        exact ⟨v', rfl, h2, h3, Or.inl h4⟩
      · refine (insert_grow g n cap i vb xs s d w h (by omega) hn hr hvb hs hd h1).mono ?_
        rintro e w' ⟨v', rfl, h2, h3, h4⟩
        exact ⟨v', rfl, h2, h3, Or.inr h4⟩
end Go.Proofs.YtjndgekpdmlbiaaGreatDoor.Dk
namespace Go.Proofs.YtjndgekpdmlbiaaGreatDoor.Dk
open Go.RowKit

theorem step_append_run {P : Program} {ops : Array Oper} {o : Oper} {a : Act} {w : World} {K : Act → World → Prop} {Q : Exit → Act → World → Prop} {E : Prop}
    (hg : o.guard = none) (d x : Operand) (dT sT : TypeId) (hop : o.op = Op.call { callee := Callee.builtin Builtin.append, args := #[d, x], argTypes := #[dT, sT] })
    (v u : Value) (hd : a.eval d = v) (hx : a.eval x = u) {v' : Value} {w' : World} (hr : (Builtin.append_ #[dT, sT] o.type #[v, u]).run P w = .ok v' w') (hK : K (a.put o.dst v') w') :
    if Region.wanted o (yielded ops a.tmps) = true then Oper.wp P o a w K Q else E := by
  have hw : Region.wanted o (yielded ops a.tmps) = true := by simp [Region.wanted, hg]
  rw [if_pos hw]
  unfold Oper.wp
  simp [execOp, hop, resolve, invoke, builtin, hd, hx, hr, Result.andThen]
  exact hK
theorem wpList_clear_run {P : Program} (w : World) {ops : Array Oper} {rest : List Oper} {o : Oper} {a : Act} {Q : Exit → Act → World → Prop} (hgd : o.guard = none) (d : Operand) (t : TypeId)
    (ho : o.op = .call { callee := .builtin .clear, args := #[d], argTypes := #[t] }) (v : Value) (hd : a.eval d = v) {v' : Value} {w' : World}
    (hr : (Builtin.clear_ #[t] o.type #[v]).run P w = .ok v' w') (h : wpList P ops Q rest (a.put o.dst v') w') : wpList P ops Q (o :: rest) a w := by
  refine wpList_plain hgd fun _ hK => ?_
  unfold Oper.wp execOp
  simp only [ho, resolve, invoke, builtin, Sem.run_bind, Sem.run_pure, Result.andThen_ok, List.map_toArray, List.map_cons, List.map_nil, hd, hr]
  exact hK _ _ h

set_option maxHeartbeats 2000000 in
set_option maxRecDepth 20000 in
theorem delete_any (v : Value) (n i : Nat) (xs : List Value) (w : World) (h : w.ownsRow 0 113 2 v n xs) (hi : i < n) (hn : n ≤ 1000000000) (h1 : ∀ u ∈ xs, u.oneCell' = true) :
    Calls Tryz.prog 99 #[v, .int .i64 i, .int .i64 ((i : Int) + 1)] w fun e w' => ∃ v', e = .returned v' ∧ w'.ownsRow 0 113 2 v' (n - 1) (xs.take (i * 2) ++ xs.drop ((i + 1) * 2)) ∧ w.grownBy w' v.ownBlock ∧ v'.ownBlock = v.ownBlock := by
  obtain ⟨I, hI, hz0, hz1, hz2⟩ := info_parts Tryz.info113
  obtain ⟨g, cap, cur, rfl, hg, hnc, hcm, hcs, htk⟩ : ∃ (g cap : Nat) (cur : Array Value), v = .slice (some ⟨g, 0, none⟩) n cap ∧ w.heap[g]? = some (.cells cur 113 (0, 0)) ∧ n ≤ cap ∧ cap ≤ maxLen ∧ cur.size = cap * 2 ∧ cur.toList.take (n * 2) = xs := by
    rcases h.2 with ⟨_, h0⟩ | ⟨g', cap', cur, e, _, hg, hn, hc, hs, ht⟩
    · omega
    · exact ⟨g', cap', cur, e, hg, hn, hc, hs, ht⟩
  have hxl : xs.length = n * 2 := h.1
  have hcl : cur.toList.length = cap * 2 := by rw [Array.length_toList, hcs]
  have hdl : (xs.drop ((i + 1) * 2)).length = (n - (i + 1)) * 2 := by rw [List.length_drop, hxl]; omega
  obtain ⟨A, hA, HA⟩ : ∃ A : Addr, (if cap = i + 1 then some (⟨g, 0, none⟩ : Addr) else some ⟨g, (i + 1) * 2, none⟩) = some A ∧ Hid (∀ j u, (xs.drop ((i + 1) * 2))[j]? = some u → w.drew.cell? (A.add j) = some u) := by
    by_cases hc : cap = i + 1
    · refine ⟨⟨g, 0, none⟩, by simp [hc], fun j u hu => ?_⟩
      rw [List.drop_eq_nil_of_le (by omega)] at hu
      simp at hu
    · refine ⟨⟨g, (i + 1) * 2, none⟩, by simp [hc], fun j u hu => ?_⟩
      rw [Addr.add_lit, cell_of_row w.drew _ _ _ _ _ hg]
      rw [← htk, List.getElem?_drop, List.getElem?_take] at hu
      split at hu
      · simpa using hu
      · simp at hu
  obtain ⟨W1, HW1⟩ : ∃ W1, Hid (W1 = w.drew.setCells g (i * 2) (xs.drop ((i + 1) * 2))) := ⟨w.drew.setCells g (i * 2) (xs.drop ((i + 1) * 2)), (rfl : _ = _)⟩
  have hap : ∀ ty c, (Builtin.append_ #[70, 70] ty #[.slice (some ⟨g, 0, none⟩) i cap, .slice (some A) (n - (i + 1)) c]).run Tryz.prog w.drew = .ok (.slice (some ⟨g, 0, none⟩) (n - 1) cap) W1 := fun ty c => by
    have := run_append_room_src (P := Tryz.prog) w.drew 70 70 ty 113 I Tryz.underlying70 hI g 0 i cap (.slice (some A) (n - (i + 1)) c) (n - (i + 1)) (xs.drop ((i + 1) * 2)) (by rw [hz1]; exact Src.ofSlice w.drew Tryz.underlying70 A _ c _ hdl HA.out (fun u hu => h1 u (List.mem_of_mem_drop hu))) (by omega) (fun j hj => some_of_heap (w := w.drew) hg _ (by rw [hz1]; omega)) (fun j hj => frozen_of_heap (w := w.drew) hg _)
    rw [this, hz1, HW1.out, Nat.zero_add, show i + (n - (i + 1)) = n - 1 by omega]
  have hH1 : W1.heap[g]? = some (.cells (put cur.toList (i * 2) (xs.drop ((i + 1) * 2))).toArray 113 (0, 0)) := by
    rw [HW1.out]; exact heap_setCells _ _ w.drew _ hg (by rw [hdl]; omega)
  have hpl := put_len cur.toList (i * 2) (xs.drop ((i + 1) * 2)) (by rw [hdl, hcl]; omega)
  obtain ⟨W2, HW2⟩ : ∃ W2, Hid (W2 = W1.setCells g ((n - 1) * 2) [.string ⟨#[]⟩, .slice none 0 0]) := ⟨W1.setCells g ((n - 1) * 2) [.string ⟨#[]⟩, .slice none 0 0], (rfl : _ = _)⟩
  have hclr : ∀ ty c, (Builtin.clear_ #[70] ty #[.slice (some ⟨g, (n - 1) * 2, none⟩) 1 c]).run Tryz.prog W1 = .ok (.tuple #[]) W2 := fun ty c => by
    rw [HW2.out]
    exact run_clear_two W1 70 113 ty _ _ _ Tryz.underlying70 (fun w => by simp only [zeroValue, typeInfo, Sem.run_bind]; simp [hI, hz0]; rfl) rfl rfl rfl g _ c (fun j hj => some_of_heap hH1 _ (by rw [List.size_toArray, hpl, hcl]; omega)) (fun j hj => frozen_of_heap hH1 _)
  have hH2 : W2.heap[g]? = some (.cells (put (put cur.toList (i * 2) (xs.drop ((i + 1) * 2))) ((n - 1) * 2) [.string ⟨#[]⟩, .slice none 0 0]).toArray 113 (0, 0)) := by
    rw [HW2.out]; exact heap_setCells _ _ W1 (put cur.toList (i * 2) (xs.drop ((i + 1) * 2))).toArray hH1 (by rw [List.size_toArray, hpl, hcl]; simp; omega)
  have HE : Hid (W2.ownsRow 0 113 2 (.slice (some ⟨g, 0, none⟩) (n - 1) cap) (n - 1) (xs.take (i * 2) ++ xs.drop ((i + 1) * 2)) ∧ w.grownBy W2 (some g)) := by
    refine ⟨own_of_heap hH2 (by omega) hcm ?_ ?_, ?_⟩
    · rw [List.size_toArray, put_len _ _ _ (by rw [hpl, hcl]; simp; omega), hpl, hcl]
    · apply List.ext_getElem?
      intro j
      have e1 : (xs.take (i * 2)).length = i * 2 := by rw [List.length_take, hxl]; omega
      simp only
      rw [List.getElem?_take]
      split
      · rw [put_get _ _ _ (by rw [hpl, hcl]; simp; omega), if_neg (by omega), put_get _ _ _ (by rw [hdl, hcl]; omega), hdl]
        by_cases c1 : j < i * 2
        · rw [if_neg (by omega), List.getElem?_append_left (by omega), List.getElem?_take, if_pos c1, ← htk, List.getElem?_take, if_pos (by omega)]
        · rw [if_pos (by omega), List.getElem?_append_right (by omega), e1]
      · rw [List.getElem?_eq_none (by simp; omega)]
    · have hgr := grown_drew_left (grown_setCells g (xs.drop ((i + 1) * 2)) (i * 2) w.drew)
      rw [← HW1.out] at hgr
      have hg2 := grown_setCells g [.string ⟨#[]⟩, .slice none 0 0] ((n - 1) * 2) W1
      rw [← HW2.out] at hg2
      exact hgr.trans hg2
  have hcap : cap ≤ 9223372036854775807 := hcm
  have hb1 : (0 : Int) ≤ (i : Int) + 1 := by omega
  have hb2 : (i : Int) + 1 ≤ (n : Int) := by omega
  have hb3 : (i : Int) ≤ (i : Int) + 1 := by omega
  have hb4 : ¬ ((i : Int) = (i : Int) + 1) := by omega
  have hb5 : (i : Int) ≤ (cap : Int) := by omega
  have hb6 : (i : Int) ≤ (n : Int) := by omega
  have htn : ((i : Int) + 1).toNat = i + 1 := by omega
  have hic : i + 1 ≤ n := by omega
  have hb8 : ¬ (cap = n - 1) := by omega
  have hb9 : (n : Int) ≤ (cap : Int) := by omega
  have hb10 : n - (n - 1) = 1 := by omega
  have hb11 : ((n - 1 : Nat) : Int) ≤ (n : Int) := by omega
  have hib : i < n := hi
  clear hcm hcs htk hdl hH1 hpl hcl h hxl h1 hg hI hz0 hz1 hz2 hH2
  go_enter Tryz.func99, Tryz.ntmps99
  go_wp2_with fail
  go_region_law (refine step_append_run rfl (.tmp 22) (.tmp 25) 70 70 rfl (.slice (some ⟨g, 0, none⟩) i cap) (.slice (some A) (n - (i + 1)) (cap - (i + 1))) (by simp [Act.eval, Act.put]) (by simp [Act.eval, Act.put]) (hap _ _) ?_)
  go_wp2_with (at_builtin; refine wpList_clear_run _ rfl (.tmp 31) 70 rfl _ rfl (hclr _ _) ?_)
  go_ret
  exact ⟨_, rfl, HE.out.1, HE.out.2, rfl⟩
end Go.Proofs.YtjndgekpdmlbiaaGreatDoor.Dk
namespace Go.Proofs.YtjndgekpdmlbiaaGreatDoor.Dk
open Go.RowKit

/- bytes.Clone -/
theorem Tryz.info5 : (Tryz.prog.info? 5).map (fun i => (i.zero, i.size, i.bytes)) = some (some (.int .u8 0), 1, 1) := by kernel_rfl

set_option maxHeartbeats 400000 in
theorem clone_nil (w : World) :
    Calls Tryz.prog 58 #[.slice none 0 0] w fun e w' => e = .returned (.slice none 0 0) ∧ w' = w := by
  have he := fun w => Lib.run_eql_slice_nil (P := Tryz.prog) w 33 5 none 0 0 0 0 Tryz.underlying33
  go_enter Tryz.func58, Tryz.ntmps58
  go_wp2
  go_ret
  exact ⟨rfl, rfl⟩

set_option maxHeartbeats 400000 in
theorem clone_some (a : Addr) (cap : Nat) (bs : List UInt8) (w : World) (h : Sl w (.slice (some a) bs.length cap) bs) (hl : bs.length ≤ 140737488355328) :
    Calls Tryz.prog 58 #[.slice (some a) bs.length cap] w fun e w' => ∃ v', e = .returned v' ∧ w'.ownsRow w.heap.size 5 1 v' bs.length (cells8 bs) ∧ Below w.heap.size w w' := by
  obtain ⟨i, hi, hz0, hz1, hz2⟩ := info_parts Tryz.info5
  have hnews : ∀ (o : Obj), ∀ j u, (cells8 bs)[j]? = some u → (w.alloc o).cell? (a.add j) = some u := by
    intro o j u hj
    have hjl : j < bs.length := by have := (List.getElem?_eq_some_iff.1 hj).1; simpa [cells8_len] using this
    obtain ⟨g, off, ha, hc⟩ := (h.alloc o).cell (by omega)
    simp only [Option.some.injEq] at ha
    subst ha
    rw [Addr.add_lit, hc j hjl, ← hj, cells8_at _ _ hjl]
  have he := fun w => Lib.run_eql_slice_nil (P := Tryz.prog) w 33 5 (some a) bs.length cap 0 0 Tryz.underlying33
  go_enter Tryz.func58, Tryz.ntmps58
  go_wp2_with (at_builtin; refine wpList_append_own_at _ rfl (.tmp 5) (.tmp 6) 33 rfl w.heap.size 5 i (.int .u8 0) 1 1 Tryz.underlying33 hi hz0 hz1 hz2 rfl (by decide) _ 0 [] rfl (World.ownsRow_made w #[] 0 (Nat.le_refl _) (by simp [maxLen]) rfl) a bs.length cap (cells8 bs) rfl (by rw [cells8_len, Nat.mul_one]) (hnews _) (cells8_one bs) (by simp only [maxLen]; omega) (by omega) (by simp) ?_)
  intro v' w1 hown hgrow _ hat
  clear hnews he
  have hfin : w1.ownsRow w.heap.size 5 1 v' bs.length (cells8 bs) ∧ Below w.heap.size w w1 :=
    ⟨by simpa using hown, ((Below.refl _ _).alloc (Nat.le_refl _) _).grown hgrow (by simp) (fun k hk => by simp [Value.ownBlock] at hk; omega)⟩
  clear hown hgrow hat
  go_wp2
  go_ret
  exact ⟨_, rfl, hfin⟩

/-- A copy: nil of nil, else a row of its own. -/
theorem clone_any (v : Value) (bs : List UInt8) (w : World) (h : Sl w v bs) (hl : bs.length ≤ 140737488355328) :
    Calls Tryz.prog 58 #[v] w fun e w' => ∃ v', e = .returned v' ∧ w'.ownsRow w.heap.size 5 1 v' bs.length (cells8 bs) ∧ Below w.heap.size w w' := by
  obtain ⟨ao, cap, rfl, h1, h2, h3, h4⟩ := id h
  cases ao with
  | none =>
    have hc := h3 rfl
    have e : bs = [] := List.eq_nil_of_length_eq_zero (by omega)
    subst e
    subst hc
    exact (clone_nil w).mono fun _ _ ⟨he, hw⟩ => ⟨_, he, by subst hw; exact World.ownsRow_nil _ _ _ _, by subst hw; exact Below.refl _ _⟩
  | some a => exact clone_some a cap bs w h hl

theorem sl_news {w : World} {a : Addr} {cap : Nat} {bs : List UInt8} (h : Sl w (.slice (some a) bs.length cap) bs) : ∀ j u, (cells8 bs)[j]? = some u → w.cell? (a.add j) = some u := by
  intro j u hj
  have hjl : j < bs.length := by have := (List.getElem?_eq_some_iff.1 hj).1; simpa [cells8_len] using this
  obtain ⟨g, off, ha, hc⟩ := h.cell (by omega)
  simp only [Option.some.injEq] at ha
  subst ha
  rw [Addr.add_lit, hc j hjl, ← hj, cells8_at _ _ hjl]

/-- 'append' of bytes onto a slice of the call's own, whatever slice the bytes come from. -/
theorem wpList_append_sl {P : Program} (w : World) {ops : Array Oper} {rest : List Oper} {o : Oper} {a : Act} {Q : Exit → Act → World → Prop} (hgd : o.guard = none) (s x : Operand) (t : TypeId)
    (ho : o.op = .call { callee := .builtin .append, args := #[s, x], argTypes := #[t, t] }) (base : Nat) (i : TypeInfo) (ht : P.underlying t = some (.slice 5)) (hi : P.info? 5 = some i) (hz : i.zero = some (.int .u8 0)) (hsize : i.size = 1) (hby : i.bytes = 1)
    (v vx : Value) (bs tx : List UInt8) (hs : a.eval s = v) (hown : w.ownsRow base 5 1 v bs.length (cells8 bs)) (hx : a.eval x = vx) (hS : Sl w vx tx) (hl : bs.length + tx.length ≤ 140737488355328) (hbase : base ≤ w.heap.size)
    (h : ∀ v' w', w'.ownsRow base 5 1 v' (bs ++ tx).length (cells8 (bs ++ tx)) → w.grownBy w' v.ownBlock → (v'.ownBlock = v.ownBlock ∨ v'.ownBlock = some w.heap.size) → wpList P ops Q rest (a.put o.dst v') w') :
    wpList P ops Q (o :: rest) a w := by
  obtain ⟨ao, cap, rfl, h1, h2, h3, h4⟩ := id hS
  cases ao with
  | some ad =>
    refine wpList_append_own_at w hgd s x t ho base 5 i (.int .u8 0) 1 1 ht hi hz hsize hby rfl (by decide) v bs.length (cells8 bs) hs hown ad tx.length cap (cells8 tx) hx (by rw [cells8_len, Nat.mul_one]) (sl_news hS) (cells8_one tx) (by simp only [maxLen]; omega) (by omega) hbase ?_
    intro v' w' g1 g2 _ g4
    exact h v' w' (by rw [List.length_append, cells8_append]; exact g1) g2 g4
  | none =>
    have hc := h3 rfl
    have e : tx = [] := List.eq_nil_of_length_eq_zero (by omega)
    subst e hc
    refine wpList_append_own_none hgd s x t ho base 5 i 1 ht hi v bs.length (cells8 bs) hs hown hx ?_
    exact h v w (by rw [List.append_nil]; exact hown) (grown_refl _ _) (Or.inl rfl)


/-- New cells read as their bytes. -/
theorem sl_new (w : World) (C : Array Value) (bs : List UInt8) (T : TypeId) (f : Nat × Nat) (hC : C.toList = cells8 bs) (hl : bs.length ≤ 1000) : Sl (w.alloc (.cells C T f)) (.slice (some ⟨w.heap.size, 0, none⟩) bs.length bs.length) bs :=
  ⟨_, _, rfl, Nat.le_refl _, by simp [maxLen]; omega, fun e => by simp at e, fun _ => ⟨_, _, rfl, fun j hj => by
    rw [cell_of_row _ _ _ _ _ _ (heap_alloc_new _ _), Nat.zero_add, ← cells8_at bs j hj, ← hC]; simp⟩⟩


set_option maxHeartbeats 1000000 in
set_option maxRecDepth 20000 in
theorem add_hit (b o : Nat) (v : Value) (zs : List Ent) (F : Nat → Prop) (n : ByteArray) (dv : Value) (data : List UInt8) (zl : List Ent) (z : Ent) (zr : List Ent) (w : World) (hc : w.cell? ⟨b, o, none⟩ = some v) (hF : Fol w v zs F) (hh : HitE n zs zl z zr)
    (hS : SlA w dv data (fun k => F k ∨ k = b)) (hm : mass (zs.map Ent.fl) + data.length ≤ 1000000000) :
    Calls Tryz.prog 59 #[.pointer (some ⟨b, o, none⟩), .string n, dv] w fun e w' => e = .returned (.tuple #[]) ∧ ∃ d', Fol w' v (zl ++ ⟨z.name, d', z.bs ++ data⟩ :: zr) (ext F w w') ∧ Fr F w w' := by
  obtain ⟨i, hi, hz0, hz1, hz2⟩ := info_parts Tryz.info5
  obtain ⟨aod, capd, rfl, _, _⟩ := hS.sl.shape
  have hum := used_mass (zs.map Ent.fl)
  rw [List.length_map] at hum
  have HC : Hid (_) := find_hit v zs F n zl z zr w hF hh (by omega)
  obtain ⟨rfl, hn, hl, hr⟩ := hh
  have hzb : z.bs.length ≤ mass ((zl ++ z :: zr).map Ent.fl) := by
    rw [List.map_append, mass_append, List.map_cons, mass_cons]
    simp only [Ent.fl]
    omega
  rcases hF.shape with ⟨_, e0⟩ | ⟨g, cap, rfl, hc1, hc2, hc3⟩
  · simp at e0
  have HF : Hid (_) := hF
  have HS : Hid (_) := hS
  have hlen : zl.length < (zl ++ z :: zr).length := by simp
  have hlen' : (zl.length : Int) < ((zl ++ z :: zr).length : Int) := by omega
  have hget : (zl ++ z :: zr)[zl.length] = z := by simp
  have hdat := hF.data z (by simp)
  obtain ⟨N, HN⟩ : ∃ N, Hid (N = (zl ++ z :: zr).length) := ⟨(zl ++ z :: zr).length, (rfl : _ = _)⟩
  rw [← HN.out] at hc hlen' HC HF hc1 hF ⊢
  have hc2' : cap ≤ 9223372036854775807 := hc2
  clear hum hl hr hS hF
  go_enter Tryz.func59, Tryz.ntmps59
  go_wp2_with (first
    | (go_at_call 97; refine Calls.mono HC.out ?_; rintro e w1 ⟨rfl, hb1⟩; have hcw := (Fr.of_below (F := fun _ => False) hb1).cell hc id; obtain ⟨c0, c1⟩ := (HF.out.below hb1).cell zl.length hlen; rw [hget] at c0 c1)
    | (at_builtin; refine wpList_append_sl _ rfl (.tmp 38) (.tmp 39) 33 rfl 0 i Tryz.underlying33 hi hz0 hz1 hz2 z.dv _ z.bs data rfl (own_kept hdat (Fr.of_below (F := fun _ => False) hb1) (fun _ _ => id)) rfl (HS.out.kept (Fr.of_below hb1)).sl (by omega) (Nat.zero_le _) ?_))
  intro d' w2 hO hg hat
  rw [← List.length_append] at hO
  obtain ⟨hP1, hP2, hP3, hP4⟩ := (HF.out.below hb1).put (w2 := w2) d' (z.bs ++ data) hO hg (by rcases hat with h | h; exact Or.inl h; exact Or.inr ⟨_, h, Nat.le_refl _⟩)
  have HP1 : Hid (_) := hP1
  have HP2 : Hid (_) := hP2
  obtain ⟨ao2, L2, cap2, rfl⟩ := own_slice hO
  clear hP1 hP2 hO hg hat HC c0 c1 hcw
  go_wp2
  go_end0
  refine ⟨rfl, .slice ao2 L2 cap2, ?_, ?_⟩
  · exact HP1.out.mono (ext_from hb1.size) (ext_lt (fun k hk => HF.out.lt k hk) (Nat.le_trans hb1.size HP2.out.size))
  · exact (Fr.of_below hb1).trans HP2.out (fun _ _ h => h)

theorem shape_mid {w : World} {v : Value} {zl : List Ent} {z : Ent} {zr : List Ent} {F : Nat → Prop} (h : Fol w v (zl ++ z :: zr) F) : ∃ g N cap, v = .slice (some ⟨g, 0, none⟩) N cap ∧ (zl.length : Int) < (N : Int) ∧ cap ≤ 9223372036854775807 ∧ N ≤ cap ∧ F g ∧ w.cell? ⟨g, zl.length * 2, none⟩ = some (.string z.name) ∧ w.cell? ⟨g, zl.length * 2 + 1, none⟩ = some z.dv := by
  rcases h.shape with ⟨_, e0⟩ | ⟨g, cap, e, hc1, hc2, hc3⟩
  · simp at e0
  · subst e
    have hc := h.cell zl.length (by simp)
    have hget : (zl ++ z :: zr)[zl.length]'(by simp) = z := by simp
    rw [hget] at hc
    exact ⟨g, _, cap, rfl, by simp; omega, hc2, hc1, h.rowIn g rfl, hc⟩

set_option maxHeartbeats 1000000 in
set_option maxRecDepth 20000 in
theorem add_miss (b o : Nat) (v : Value) (zs : List Ent) (F : Nat → Prop) (n : ByteArray) (dv : Value) (data : List UInt8) (zl zr : List Ent) (w : World) (hc : w.cell? ⟨b, o, none⟩ = some v) (hfz : w.frozen? ⟨b, o, none⟩ = false) (hF : Fol w v zs F) (hbF : ¬ F b) (hh : MissE n zs zl zr)
    (hS : SlA w dv data (fun k => F k ∨ k = b)) (hm : mass (zs.map Ent.fl) + data.length ≤ 1000000000) :
    Calls Tryz.prog 59 #[.pointer (some ⟨b, o, none⟩), .string n, dv] w fun e w' => e = .returned (.tuple #[]) ∧ ∃ v' d', Fol w' v' (zl ++ ⟨n, d', data⟩ :: zr) (ext F w w') ∧ Fr F (w.setCell ⟨b, o, none⟩ v') w' := by
  obtain ⟨i, hi, hz0, hz1, hz2⟩ := info_parts Tryz.info5
  obtain ⟨aod, capd, rfl, _, _⟩ := hS.sl.shape
  have hum := used_mass (zs.map Ent.fl)
  rw [List.length_map] at hum
  have hbw : b < w.heap.size := cell_lt hc
  have HC : Hid (_) := find_miss v zs F n zl zr w hF hh (by omega)
  obtain ⟨rfl, hl, hr⟩ := hh
  have HI : Hid (∀ w1, Below w.heap.size w w1 → Calls Tryz.prog 98 #[v, .int .i64 zl.length, .slice (some ⟨w1.heap.size, 0, none⟩) 1 1] (w1.alloc (.cells #[.string n, .slice none 0 0] 113)) fun e w2 => ∃ v', e = .returned v' ∧ Fol w2 v' (zl ++ ⟨n, .slice none 0 0, []⟩ :: zr) (ext F w w2) ∧ Fr F w w2) := by
    intro w1 hb1
    have hF1 := (hF.below hb1).below ((Below.refl _ _).alloc (Nat.le_refl _) (.cells #[.string n, .slice none 0 0] 113))
    have hne : v.ownBlock ≠ some w1.heap.size := fun e => by have := hF.lt _ (hF.rowIn _ e); have := hb1.size; omega
    refine (insert_any v _ zl.length w1.heap.size _ (.string n) (.slice none 0 0) _ hF1.row (by simp) (by omega) (heap_alloc_new _ _) hne rfl rfl hF1.ones).mono ?_
    rintro e w2 ⟨v', rfl, hrow, hg, hat⟩
    refine ⟨v', rfl, ?_, ?_⟩
    · refine (hF1.inserted n (.slice none 0 0) [] hrow hg (by rcases hat with h | h; exact Or.inl h; exact Or.inr ⟨_, h, Nat.le_refl _⟩) (World.ownsRow_nil _ _ _ _) (by simp [Value.ownBlock]) (fun x _ k _ h => by simp [Value.ownBlock] at h)).mono (ext_from (by have := hb1.size; simp; omega)) ?_
      exact ext_lt hF.lt (by have h1 := hg.size; have h2 := hb1.size; rw [World.size_alloc] at h1; omega)
    · exact ((Fr.of_below (F := F) hb1).alloc _).trans (Fr.of_grown (F := F) hg (fun k hk => hF.rowIn k hk)) (fun _ _ h => h)
  have HF : Hid (_) := hF
  have HS : Hid (_) := hS
  have hshape : ∃ ao N cap, v = .slice ao N cap := by
    rcases hF.shape with ⟨rfl, _⟩ | ⟨g, cap, rfl, _⟩
    · exact ⟨_, _, _, rfl⟩
    · exact ⟨_, _, _, rfl⟩
  obtain ⟨ao, N, cap, rfl⟩ := hshape
  have hdl : data.length ≤ 1000000000 := by omega
  clear hum hl hr hS hF hm
  go_enter Tryz.func59, Tryz.ntmps59
  go_wp2_with (go_at_call 97; refine Calls.mono HC.out ?_; rintro e w1 ⟨rfl, hb1⟩; have hcw := (Fr.of_below (F := fun _ => False) hb1).cell hc id)
  (go_at_call 98; refine (HI.out w1 hb1).mono ?_; rintro e w2 ⟨v', rfl, hF2, hfr2⟩; obtain ⟨g2, N2, cap2, rfl, hk1, hk2, hk3, hk4, hk5, hk6⟩ := shape_mid hF2; have hcw2 := hfr2.cell hc hbF; have hfz2 := (hfr2.frozen hc hbF).trans hfz; have hgb : ¬ (g2 = b) := (fun e => by rcases hk4 with h | h; exact hbF (e ▸ h); omega); have HF2 : Hid (_) := hF2; have HR2 : Hid (_) := hfr2; have HS3 : Hid (SlA (w2.setCell ⟨b, o, none⟩ (.slice (some ⟨g2, 0, none⟩) N2 cap2)) (.slice aod data.length capd) data (fun k => F k ∨ k = b)) := HS.out.kept (Fr.setCell (p := ⟨b, o, none⟩) (hfr2.mono (G := fun k => F k ∨ k = b) (fun _ _ h => Or.inl h)) (fun _ => Or.inr rfl) _); clear hF2 hfr2 hk4)
  go_wp2_with (at_builtin; refine wpList_append_sl _ rfl (.tmp 38) (.tmp 39) 33 rfl 0 i Tryz.underlying33 hi hz0 hz1 hz2 (.slice none 0 0) _ [] data rfl (World.ownsRow_nil _ _ _ _) rfl HS3.out.sl (by simp; omega) (Nat.zero_le _) ?_)
  intro d' w4 hO hg hat
  have hF3 : Fol (w2.setCell ⟨b, o, none⟩ (.slice (some ⟨g2, 0, none⟩) N2 cap2)) (.slice (some ⟨g2, 0, none⟩) N2 cap2) (zl ++ ⟨n, .slice none 0 0, []⟩ :: zr) (ext F w w2) := by
    refine HF2.out.kept (Fr.one w2 b o _) (fun k hk e => ?_)
    rcases hk with hk | hk
    · exact hbF (e ▸ hk)
    · omega
  obtain ⟨hP1, hP2, hP3, hP4⟩ := hF3.put (w2 := w4) d' data (by simpa using hO) hg (by rcases hat with h | h; exact Or.inl h; exact Or.inr ⟨_, h, by rw [setCell_size]; exact Nat.le_refl _⟩)
  have HP1 : Hid (_) := hP1
  have HP2 : Hid (_) := hP2
  obtain ⟨ao4, L4, cap4, rfl⟩ := own_slice hO
  clear hP1 hP2 hO hg hat HC hcw hF3 hcw2 hfz2 hk5 hk6
  go_wp2
  go_end0
  have hs2 := HR2.out.size
  have hs3 : (w2.setCell ⟨b, o, none⟩ (.slice (some ⟨g2, 0, none⟩) N2 cap2)).heap.size = w2.heap.size := setCell_size _ _ _
  have hs4 := HP2.out.size
  refine ⟨rfl, .slice (some ⟨g2, 0, none⟩) N2 cap2, ⟨.slice ao4 L4 cap4, HP1.out.mono (fun k hk => ?_) (ext_lt HF.out.lt (by omega))⟩, ?_⟩
  · rcases hk with (hk | hk) | hk
    · exact Or.inl hk
    · exact Or.inr ⟨hk.1, by omega⟩
    · exact Or.inr ⟨by omega, hk.2⟩
  · refine (HR2.out.set_both ⟨b, o, none⟩ _).trans HP2.out (fun k hk hE => ?_)
    rcases hE with h | h
    · exact h
    · rw [setCell_size] at hk
      omega

/-- A folder's add. -/
theorem add_any (b o : Nat) (v : Value) (zs : List Ent) (F : Nat → Prop) (n : ByteArray) (dv : Value) (data : List UInt8) (w : World) (hc : w.cell? ⟨b, o, none⟩ = some v) (hfz : w.frozen? ⟨b, o, none⟩ = false) (hF : Fol w v zs F) (hbF : ¬ F b) (hs : Srt (zs.map Ent.fl))
    (hS : SlA w dv data (fun k => F k ∨ k = b)) (hm : mass (zs.map Ent.fl) + data.length ≤ 1000000000) :
    Calls Tryz.prog 59 #[.pointer (some ⟨b, o, none⟩), .string n, dv] w fun e w' => e = .returned (.tuple #[]) ∧ Chg w w' b o F (ap (zs.map Ent.fl) (.app n data)) := by
  rcases splitE n zs hs with ⟨zl, z, zr, hh⟩ | ⟨zl, zr, hh⟩
  · refine (add_hit b o v zs F n dv data zl z zr w hc hF hh hS hm).mono ?_
    rintro e w' ⟨rfl, d', h1, h2⟩
    refine ⟨rfl, v, _, h1, ?_, Fr.of_self hc h2⟩
    simp only [ap]
    rw [hh.hit.lookE, hh.hit.insE, ← hh.2.1]
    simp [Ent.fl]
  · refine (add_miss b o v zs F n dv data zl zr w hc hfz hF hbF hh hS hm).mono ?_
    rintro e w' ⟨rfl, v', d', h1, h2⟩
    refine ⟨rfl, v', _, h1, ?_, h2⟩
    simp only [ap]
    rw [hh.miss.lookE, hh.miss.delE, hh.miss.insE]
    simp [Ent.fl]
end Go.Proofs.YtjndgekpdmlbiaaGreatDoor.Dk
namespace Go.Proofs.YtjndgekpdmlbiaaGreatDoor.Dk
open Go.RowKit

theorem below_cell {w w1 : World} {p : Addr} {u : Value} (hb : Below w.heap.size w w1) (hc : w.cell? p = some u) : w1.cell? p = some u := (Fr.of_below (F := fun _ => False) hb).cell hc id
theorem below_frozen {w w1 : World} {p : Addr} {u : Value} (hb : Below w.heap.size w w1) (hc : w.cell? p = some u) : w1.frozen? p = w.frozen? p := (Fr.of_below (F := fun _ => False) hb).frozen hc id
theorem own_cut {w : World} {d : Value} {bs : List UInt8} (h : w.ownsRow 0 5 1 d bs.length (cells8 bs)) (k : Nat) (hk : k ≤ bs.length) :
    (d = .slice none 0 0 ∧ k = 0 ∧ bs = []) ∨ ∃ g cap, d = .slice (some ⟨g, 0, none⟩) bs.length cap ∧ (k : Int) ≤ (cap : Int) ∧ w.ownsRow 0 5 1 (.slice (some ⟨g, 0, none⟩) k cap) (bs.take k).length (cells8 (bs.take k)) := by
  rcases h.2 with ⟨rfl, h0⟩ | ⟨g, cap, cur, rfl, hb, hg, hn, hm, hs, ht⟩
  · exact Or.inl ⟨rfl, by omega, List.eq_nil_of_length_eq_zero h0⟩
  · refine Or.inr ⟨g, cap, rfl, by omega, ?_⟩
    have hl : (bs.take k).length = k := by simp; omega
    rw [hl]
    refine ⟨by rw [cells8_len, hl, Nat.mul_one], Or.inr ⟨g, cap, cur, rfl, hb, hg, by omega, hm, hs, ?_⟩⟩
    rw [Nat.mul_one] at ht ⊢
    have := congrArg (List.take k) ht
    rw [List.take_take, Nat.min_eq_left hk] at this
    rw [this]
    simp [cells8, List.map_take]

set_option maxHeartbeats 1000000 in
set_option maxRecDepth 20000 in
theorem cut_hit (b o : Nat) (v : Value) (zs : List Ent) (F : Nat → Prop) (n : ByteArray) (k : Nat) (zl : List Ent) (z : Ent) (zr : List Ent) (w : World) (hc : w.cell? ⟨b, o, none⟩ = some v) (hF : Fol w v zs F) (hh : HitE n zs zl z zr) (hk : k ≤ z.bs.length) (hm : mass (zs.map Ent.fl) ≤ 1000000000) :
    Calls Tryz.prog 60 #[.pointer (some ⟨b, o, none⟩), .string n, .int .i64 k] w fun e w' => e = .returned (.tuple #[]) ∧ ∃ d', Fol w' v (zl ++ ⟨z.name, d', z.bs.take k⟩ :: zr) (ext F w w') ∧ Fr F w w' := by
  have hum := used_mass (zs.map Ent.fl)
  rw [List.length_map] at hum
  have HC : Hid (_) := find_hit v zs F n zl z zr w hF hh (by omega)
  obtain ⟨rfl, hn, hl, hr⟩ := hh
  have hzb : z.bs.length ≤ mass ((zl ++ z :: zr).map Ent.fl) := by
    rw [List.map_append, mass_append, List.map_cons, mass_cons]
    simp only [Ent.fl]
    omega
  have hk63 : z.bs.length ≤ 1000000000 := by omega
  have HF : Hid (_) := hF
  have hdat := hF.data z (by simp)
  have hput : ∀ (w1 : World) (d' : Value), Below w.heap.size w w1 → w1.ownsRow 0 5 1 d' (z.bs.take k).length (cells8 (z.bs.take k)) → d'.ownBlock = z.dv.ownBlock → ∀ g N cap, v = .slice (some ⟨g, 0, none⟩) N cap →
      Hid (Fol (w1.setCell ⟨g, zl.length * 2 + 1, none⟩ d') v (zl ++ ⟨z.name, d', z.bs.take k⟩ :: zr) (ext F w (w1.setCell ⟨g, zl.length * 2 + 1, none⟩ d')) ∧ Fr F w (w1.setCell ⟨g, zl.length * 2 + 1, none⟩ d')) ∧ w1.frozen? ⟨g, zl.length * 2 + 1, none⟩ = false := by
    intro w1 d' hb1 hO hat g N cap hv
    subst hv
    obtain ⟨hP1, hP2, hP3, hP4⟩ := (hF.below hb1).put (w2 := w1) d' (z.bs.take k) hO (grown_refl _ _) (Or.inl hat)
    exact ⟨⟨hP1.mono (ext_from hb1.size) (ext_lt hF.lt (Nat.le_trans hb1.size hP2.size)), (Fr.of_below hb1).trans hP2 (fun _ _ h => h)⟩, hP4⟩
  have HP : Hid (_) := hput
  clear hput
  obtain ⟨g, N, cap, rfl, hk1, hk2, hk3, hk4, hk5, hk6⟩ := shape_mid hF
  rcases own_cut hdat k hk with ⟨hd, h0, hbs⟩ | ⟨gd, capd, hd, hkc, hcut⟩
  · subst h0
    rw [hd] at hk6
    have HQ : Hid (∀ w1, Below w.heap.size w w1 → w1.ownsRow 0 5 1 (.slice none 0 0) (z.bs.take 0).length (cells8 (z.bs.take 0))) := fun w1 _ => by rw [List.take_zero]; exact World.ownsRow_nil _ _ _ _
    have HE : Hid ((Value.slice none 0 0).ownBlock = z.dv.ownBlock) := by show _ = _; rw [hd]
    clear hum hl hr hF hdat hd hbs
    go_enter Tryz.func60, Tryz.ntmps60
    go_wp2_with (go_at_call 97; refine Calls.mono HC.out ?_; rintro e w1 ⟨rfl, hb1⟩; have hcw := below_cell hb1 hc; have c1 := below_cell hb1 hk6; obtain ⟨HX, hfz1⟩ := HP.out w1 (.slice none 0 0) hb1 (HQ.out w1 hb1) HE.out g N cap rfl)
    go_end0
    exact ⟨rfl, _, HX.out.1, HX.out.2⟩
  · rw [hd] at hk6
    have HQ : Hid (∀ w1, Below w.heap.size w w1 → w1.ownsRow 0 5 1 (.slice (some ⟨gd, 0, none⟩) k capd) (z.bs.take k).length (cells8 (z.bs.take k))) := fun w1 hb => own_kept hcut (Fr.of_below (F := fun _ => False) hb) (fun _ _ => id)
    have HE : Hid ((Value.slice (some ⟨gd, 0, none⟩) k capd).ownBlock = z.dv.ownBlock) := by show _ = _; rw [hd]; rfl
    generalize hzL : z.bs.length = zL at *
    clear hum hl hr hF hdat hd hcut
    go_enter Tryz.func60, Tryz.ntmps60
    go_wp2_with (go_at_call 97; refine Calls.mono HC.out ?_; rintro e w1 ⟨rfl, hb1⟩; have hcw := below_cell hb1 hc; have c1 := below_cell hb1 hk6; obtain ⟨HX, hfz1⟩ := HP.out w1 (.slice (some ⟨gd, 0, none⟩) k capd) hb1 (HQ.out w1 hb1) HE.out g N cap rfl)
    go_end0
    exact ⟨rfl, _, HX.out.1, HX.out.2⟩

set_option maxHeartbeats 1000000 in
theorem cut_miss (b o : Nat) (v : Value) (zs : List Ent) (F : Nat → Prop) (n : ByteArray) (k : Nat) (zl zr : List Ent) (w : World) (hc : w.cell? ⟨b, o, none⟩ = some v) (hF : Fol w v zs F) (hh : MissE n zs zl zr) (hm : zs.length ≤ 1000000000) :
    Calls Tryz.prog 60 #[.pointer (some ⟨b, o, none⟩), .string n, .int .i64 k] w fun e w' => e = .returned (.tuple #[]) ∧ Below w.heap.size w w' := by
  have HC : Hid (_) := find_miss v zs F n zl zr w hF hh hm
  obtain ⟨ao, N, cap, rfl⟩ := own_slice hF.row
  clear hF hh
  go_enter Tryz.func60, Tryz.ntmps60
  go_wp2_with (go_at_call 97; refine Calls.mono HC.out ?_; rintro e w1 ⟨rfl, hb1⟩)
  go_end0
  exact ⟨rfl, hb1⟩

theorem cut_any (b o : Nat) (v : Value) (zs : List Ent) (F : Nat → Prop) (n : ByteArray) (k : Nat) (w : World) (hc : w.cell? ⟨b, o, none⟩ = some v) (hF : Fol w v zs F) (hs : Srt (zs.map Ent.fl)) (hk : Okc (zs.map Ent.fl) (.cut n k)) (hm : mass (zs.map Ent.fl) ≤ 1000000000) :
    Calls Tryz.prog 60 #[.pointer (some ⟨b, o, none⟩), .string n, .int .i64 k] w fun e w' => e = .returned (.tuple #[]) ∧ Chg w w' b o F (ap (zs.map Ent.fl) (.cut n k)) := by
  have hum := used_mass (zs.map Ent.fl)
  rw [List.length_map] at hum
  rcases splitE n zs hs with ⟨zl, z, zr, hh⟩ | ⟨zl, zr, hh⟩
  · refine (cut_hit b o v zs F n k zl z zr w hc hF hh (hk _ hh.hit.lookE) hm).mono ?_
    rintro e w' ⟨rfl, d', h1, h2⟩
    refine ⟨rfl, v, _, h1, ?_, Fr.of_self hc h2⟩
    simp only [ap]
    rw [hh.hit.lookE]
    simp only
    rw [hh.hit.insE, ← hh.2.1]
    simp [Ent.fl]
  · refine (cut_miss b o v zs F n k zl zr w hc hF hh (by omega)).mono ?_
    rintro e w' ⟨rfl, h1⟩
    refine ⟨rfl, v, zs, (hF.below h1).mono (fun _ h => Or.inl h) (ext_lt hF.lt h1.size), ?_, Fr.of_self hc (Fr.of_below h1)⟩
    simp only [ap]
    rw [hh.miss.lookE]

set_option maxHeartbeats 1000000 in
set_option maxRecDepth 20000 in
theorem remove_hit (b o : Nat) (v : Value) (zs : List Ent) (F : Nat → Prop) (n : ByteArray) (zl : List Ent) (z : Ent) (zr : List Ent) (w : World) (hc : w.cell? ⟨b, o, none⟩ = some v) (hfz : w.frozen? ⟨b, o, none⟩ = false) (hF : Fol w v zs F) (hbF : ¬ F b) (hh : HitE n zs zl z zr) (hm : zs.length ≤ 1000000000) :
    Calls Tryz.prog 61 #[.pointer (some ⟨b, o, none⟩), .string n] w fun e w' => e = .returned (.tuple #[]) ∧ ∃ v', Fol w' v' (zl ++ zr) F ∧ v'.ownBlock = v.ownBlock ∧ Fr (fun k => v.ownBlock = some k) (w.setCell ⟨b, o, none⟩ v') w' := by
  have HC : Hid (_) := find_hit v zs F n zl z zr w hF hh hm
  obtain ⟨rfl, hn, hl, hr⟩ := hh
  have HD : Hid (∀ w1, Below w.heap.size w w1 → Calls Tryz.prog 99 #[v, .int .i64 zl.length, .int .i64 ((zl.length : Int) + 1)] w1 fun e w2 => ∃ v', e = .returned v' ∧ Fol w2 v' (zl ++ zr) F ∧ v'.ownBlock = v.ownBlock ∧ Fr (fun k => v.ownBlock = some k) w w2) := by
    intro w1 hb1
    have hF1 := hF.below hb1
    refine (delete_any v _ zl.length _ w1 hF1.row (by simp) hm hF1.ones).mono ?_
    rintro e w2 ⟨v', rfl, hrow, hg, hat⟩
    exact ⟨v', rfl, hF1.deleted hrow hg hat, hat, (Fr.of_below hb1).trans (Fr.of_grown hg (fun k hk => hk)) (fun _ _ h => h)⟩
  have hbv : ¬ v.ownBlock = some b := fun e => hbF (hF.rowIn b e)
  have HV : Hid (¬ v.ownBlock = some b) := hbv
  have hzl : zl.length ≤ 1000000000 := by simp at hm; omega
  obtain ⟨ao, N, cap, rfl⟩ := own_slice hF.row
  have HF : Hid (_) := hF
  clear hl hr hF hm hbv
  go_enter Tryz.func61, Tryz.ntmps61
  go_wp2_with (go_at_call 97; refine Calls.mono HC.out ?_; rintro e w1 ⟨rfl, hb1⟩; have hcw := below_cell hb1 hc)
  (go_at_call 99; refine (HD.out w1 hb1).mono ?_; rintro e w2 ⟨v', rfl, hF2, hat2, hfr2⟩; obtain ⟨ao2, N2, cap2, rfl⟩ := own_slice hF2.row; have hcw2 := hfr2.cell hc HV.out; have hfz2 := (hfr2.frozen hc HV.out).trans hfz; have HF2 : Hid (_) := hF2; have HR2 : Hid (_) := hfr2; have HA2 : Hid (_) := hat2; clear hF2 hfr2 hat2)
  go_wp2
  go_end0
  refine ⟨rfl, .slice ao2 N2 cap2, HF2.out.kept (Fr.one w2 b o _) (fun k hk e => hbF (e ▸ hk)), HA2.out, HR2.out.set_both _ _⟩

set_option maxHeartbeats 1000000 in
theorem remove_miss (b o : Nat) (v : Value) (zs : List Ent) (F : Nat → Prop) (n : ByteArray) (zl zr : List Ent) (w : World) (hc : w.cell? ⟨b, o, none⟩ = some v) (hF : Fol w v zs F) (hh : MissE n zs zl zr) (hm : zs.length ≤ 1000000000) :
    Calls Tryz.prog 61 #[.pointer (some ⟨b, o, none⟩), .string n] w fun e w' => e = .returned (.tuple #[]) ∧ Below w.heap.size w w' := by
  have HC : Hid (_) := find_miss v zs F n zl zr w hF hh hm
  obtain ⟨ao, N, cap, rfl⟩ := own_slice hF.row
  clear hF hh
  go_enter Tryz.func61, Tryz.ntmps61
  go_wp2_with (go_at_call 97; refine Calls.mono HC.out ?_; rintro e w1 ⟨rfl, hb1⟩)
  go_end0
  exact ⟨rfl, hb1⟩

/-- A folder's remove: the name is not there any more, and the other files are as they were. -/
theorem remove_all (b o : Nat) (v : Value) (zs : List Ent) (F : Nat → Prop) (n : ByteArray) (w : World) (hc : w.cell? ⟨b, o, none⟩ = some v) (hfz : w.frozen? ⟨b, o, none⟩ = false) (hF : Fol w v zs F) (hbF : ¬ F b) (hs : Srt (zs.map Ent.fl)) (hm : zs.length ≤ 1000000000) :
    Calls Tryz.prog 61 #[.pointer (some ⟨b, o, none⟩), .string n] w fun e w' => e = .returned (.tuple #[]) ∧ ∃ v' zl zr, MissE n (zl ++ zr) zl zr ∧ (∀ x ∈ zl ++ zr, x ∈ zs) ∧ (zl ++ zr).length ≤ zs.length ∧ (zl ++ zr).map Ent.fl = del n (zs.map Ent.fl) ∧ Fol w' v' (zl ++ zr) F ∧ v'.ownBlock = v.ownBlock ∧ Fr (fun k => v.ownBlock = some k) (w.setCell ⟨b, o, none⟩ v') w' ∧ (∀ z ∈ zs, z.name = n → ∀ x ∈ zl ++ zr, Apart x z) := by
  rcases splitE n zs hs with ⟨zl, z, zr, hh⟩ | ⟨zl, zr, hh⟩
  · refine (remove_hit b o v zs F n zl z zr w hc hfz hF hbF hh hm).mono ?_
    rintro e w' ⟨rfl, v', h1, h2, h3⟩
    have hd := hh.hit.delE
    obtain ⟨rfl, hn, hl, hr⟩ := hh
    have hap := List.pairwise_append.1 hF.apart
    have hap2 := List.pairwise_cons.1 hap.2.1
    refine ⟨rfl, v', zl, zr, ⟨rfl, hl, hr⟩, fun x hx => ?_, by simp, by rw [hd]; simp, h1, h2, h3, fun y hy hyn x hx => ?_⟩
    · rcases List.mem_append.1 hx with hx | hx <;> simp [hx]
    · have hyz : y = z := by
        rcases List.mem_append.1 hy with hy | hy
        · exact absurd hyn (nlt_ne (hl y hy))
        · rcases List.mem_cons.1 hy with rfl | hy
          · rfl
          · exact absurd hyn (nlt_ne (hr y hy)).symm
      subst hyz
      rcases List.mem_append.1 hx with hx | hx
      · exact hap.2.2 x hx y (by simp)
      · exact (hap2.1 x hx).symm
  · refine (remove_miss b o v zs F n zl zr w hc hF hh hm).mono ?_
    rintro e w' ⟨rfl, h1⟩
    have hd := hh.miss.delE
    have hh' := hh
    obtain ⟨rfl, hl, hr⟩ := hh
    refine ⟨rfl, v, zl, zr, hh', fun _ h => h, Nat.le_refl _, hd.symm, hF.below h1, rfl, Fr.of_self hc (Fr.of_below h1), fun y hy hyn x hx => ?_⟩
    exfalso
    rcases List.mem_append.1 hy with hy | hy
    · exact absurd hyn (nlt_ne (hl y hy))
    · exact absurd hyn (nlt_ne (hr y hy)).symm
theorem remove_any (b o : Nat) (v : Value) (zs : List Ent) (F : Nat → Prop) (n : ByteArray) (w : World) (hc : w.cell? ⟨b, o, none⟩ = some v) (hfz : w.frozen? ⟨b, o, none⟩ = false) (hF : Fol w v zs F) (hbF : ¬ F b) (hs : Srt (zs.map Ent.fl)) (hm : zs.length ≤ 1000000000) :
    Calls Tryz.prog 61 #[.pointer (some ⟨b, o, none⟩), .string n] w fun e w' => e = .returned (.tuple #[]) ∧ Chg w w' b o F (ap (zs.map Ent.fl) (.rem n)) := by
  refine (remove_all b o v zs F n w hc hfz hF hbF hs hm).mono ?_
  rintro e w' ⟨rfl, v', zl, zr, h1, h2, h3, h4, h5, h6, h7, h8⟩
  exact ⟨rfl, v', _, h5.mono (fun _ h => Or.inl h) (ext_lt hF.lt (by have := h7.size; rwa [setCell_size] at this)), h4, h7.mono (fun k _ hk => hF.rowIn k hk)⟩
end Go.Proofs.YtjndgekpdmlbiaaGreatDoor.Dk

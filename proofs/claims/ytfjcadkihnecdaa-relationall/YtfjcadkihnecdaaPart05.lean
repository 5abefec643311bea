/- The walk of slices.Delete of one file. The walk of slices.Insert in the middle without room; slices.Insert whole. The walk of slices.Delete of one file. What a set's pages are behind a change: laws on worlds alone. -/
import Derived.Test.YtfjcadkihnecdaaPart04
import Derived.Test.YtfjcadkihnecdaaPart02
import Derived.Test.YtfjcadkihnecdaaPart03
namespace Go.Proofs.Ytfjcadkihnecdaa.K
open Go.RowKit

theorem step_append_run {P : Program} {ops : Array Oper} {o : Oper} {a : Act} {w : World} {K : Act → World → Prop} {Q : Exit → Act → World → Prop} {E : Prop}
    (hg : o.guard = none) (d x : Operand) (dT sT : TypeId) (hop : o.op = Op.call { callee := Callee.builtin Builtin.append, args := #[d, x], argTypes := #[dT, sT] })
    (v u : Value) (hd : a.eval d = v) (hx : a.eval x = u) {v' : Value} {w' : World} (hr : (Builtin.append_ #[dT, sT] o.type #[v, u]).run P w = .ok v' w') (hK : K (a.put o.dst v') w') :
    if Region.wanted o (yielded ops a.tmps) = true then Oper.wp P o a w K Q else E := by
  have hw : Region.wanted o (yielded ops a.tmps) = true := by simp [Region.wanted, hg]
  rw [if_pos hw]
  unfold Oper.wp
  simp [execOp, hop, resolve, invoke, builtin, hd, hx, hr, Result.andThen]
  exact hK
theorem wpList_clear_run {P : Program} (w : World) {ops : Array Oper} {rest : List Oper} {o : Oper} {a : Act} {Q : Exit → Act → World → Prop} (hgd : o.guard = none) (d : Operand) (t : TypeId)
    (ho : o.op = .call { callee := .builtin .clear, args := #[d], argTypes := #[t] }) (v : Value) (hd : a.eval d = v) {v' : Value} {w' : World}
    (hr : (Builtin.clear_ #[t] o.type #[v]).run P w = .ok v' w') (h : wpList P ops Q rest (a.put o.dst v') w') : wpList P ops Q (o :: rest) a w := by
  refine wpList_plain hgd fun _ hK => ?_
  unfold Oper.wp execOp
  simp only [ho, resolve, invoke, builtin, Sem.run_bind, Sem.run_pure, Result.andThen_ok, List.map_toArray, List.map_cons, List.map_nil, hd, hr]
  exact hK _ _ h

theorem zc : (Builtin.zeroCells (Value.agg #[.int .i64 0, .int .i64 0, .int .i64 0, .int .i64 0]).cells 1).toList = [.int .i64 0, .int .i64 0, .int .i64 0, .int .i64 0] := by
  apply List.ext_getElem
  · simp [Builtin.zeroCells, Value.cells]
  · intro i h1 h2
    match i, h2 with
    | 0, _ => simp [Builtin.zeroCells, Value.cells]
    | 1, _ => simp [Builtin.zeroCells, Value.cells]
    | 2, _ => simp [Builtin.zeroCells, Value.cells]
    | 3, _ => simp [Builtin.zeroCells, Value.cells]

set_option maxHeartbeats 2000000 in
set_option maxRecDepth 20000 in
theorem delete_any (v : Value) (n i : Nat) (xs : List Value) (w : World) (h : w.ownsRow 0 47 4 v n xs) (hi : i < n) (hn : n ≤ 1000000000) (h1 : ∀ u ∈ xs, u.oneCell' = true) :
    Calls Try.prog 38 #[v, .int .i64 i, .int .i64 ((i : Int) + 1)] w fun e w' => ∃ v', e = .returned v' ∧ w'.ownsRow 0 47 4 v' (n - 1) (xs.take (i * 4) ++ xs.drop ((i + 1) * 4)) ∧ w.grownBy w' v.ownBlock ∧ v'.ownBlock = v.ownBlock := by
  obtain ⟨I, hI, hz0, hz1, hz2⟩ := info_parts Try.info47
  obtain ⟨g, cap, cur, rfl, hg, hnc, hcm, hcs, htk⟩ : ∃ (g cap : Nat) (cur : Array Value), v = .slice (some ⟨g, 0, none⟩) n cap ∧ w.heap[g]? = some (.cells cur 47 (0, 0)) ∧ n ≤ cap ∧ cap ≤ maxLen ∧ cur.size = cap * 4 ∧ cur.toList.take (n * 4) = xs := by
    rcases h.2 with ⟨_, h0⟩ | ⟨g', cap', cur, e, _, hg, hn, hc, hs, ht⟩
    · omega
    · exact ⟨g', cap', cur, e, hg, hn, hc, hs, ht⟩
  have hxl : xs.length = n * 4 := h.1
  have hcl : cur.toList.length = cap * 4 := by rw [Array.length_toList, hcs]
  have hdl : (xs.drop ((i + 1) * 4)).length = (n - (i + 1)) * 4 := by rw [List.length_drop, hxl]; omega
  obtain ⟨A, hA, HA⟩ : ∃ A : Addr, (if cap = i + 1 then some (⟨g, 0, none⟩ : Addr) else some ⟨g, (i + 1) * 4, none⟩) = some A ∧ Hid (∀ j u, (xs.drop ((i + 1) * 4))[j]? = some u → w.drew.cell? (A.add j) = some u) := by
    by_cases hc : cap = i + 1
    · refine ⟨⟨g, 0, none⟩, by simp [hc], fun j u hu => ?_⟩
      rw [List.drop_eq_nil_of_le (by omega)] at hu
      simp at hu
    · refine ⟨⟨g, (i + 1) * 4, none⟩, by simp [hc], fun j u hu => ?_⟩
      rw [Addr.add_lit, cell_of_row w.drew _ _ _ _ _ hg]
      rw [← htk, List.getElem?_drop, List.getElem?_take] at hu
      split at hu
      · simpa using hu
      · simp at hu
  obtain ⟨W1, HW1⟩ : ∃ W1, Hid (W1 = w.drew.setCells g (i * 4) (xs.drop ((i + 1) * 4))) := ⟨w.drew.setCells g (i * 4) (xs.drop ((i + 1) * 4)), (rfl : _ = _)⟩
  have hap : ∀ ty c, (Builtin.append_ #[65, 65] ty #[.slice (some ⟨g, 0, none⟩) i cap, .slice (some A) (n - (i + 1)) c]).run Try.prog w.drew = .ok (.slice (some ⟨g, 0, none⟩) (n - 1) cap) W1 := fun ty c => by
    have := run_append_room_src (P := Try.prog) w.drew 65 65 ty 47 I Try.underlying65 hI g 0 i cap (.slice (some A) (n - (i + 1)) c) (n - (i + 1)) (xs.drop ((i + 1) * 4)) (by rw [hz1]; exact Src.ofSlice w.drew Try.underlying65 A _ c _ hdl HA.out (fun u hu => h1 u (List.mem_of_mem_drop hu))) (by omega) (fun j hj => some_of_heap (w := w.drew) hg _ (by rw [hz1]; omega)) (fun j hj => frozen_of_heap (w := w.drew) hg _)
    rw [this, hz1, HW1.out, Nat.zero_add, show i + (n - (i + 1)) = n - 1 by omega]
  have hH1 : W1.heap[g]? = some (.cells (put cur.toList (i * 4) (xs.drop ((i + 1) * 4))).toArray 47 (0, 0)) := by
    rw [HW1.out]; exact heap_setCells _ _ w.drew _ hg (by rw [hdl]; omega)
  have hpl := put_len cur.toList (i * 4) (xs.drop ((i + 1) * 4)) (by rw [hdl, hcl]; omega)
  obtain ⟨W2, HW2⟩ : ∃ W2, Hid (W2 = W1.setCells g ((n - 1) * 4) [.int .i64 0, .int .i64 0, .int .i64 0, .int .i64 0]) := ⟨W1.setCells g ((n - 1) * 4) [.int .i64 0, .int .i64 0, .int .i64 0, .int .i64 0], (rfl : _ = _)⟩
  have hclr : ∀ ty c, (Builtin.clear_ #[65] ty #[.slice (some ⟨g, (n - 1) * 4, none⟩) 1 c]).run Try.prog W1 = .ok (.tuple #[]) W2 := fun ty c => by
    rw [HW2.out]
    exact run_clear_sz W1 65 47 ty _ _ Try.underlying65 (fun w => by simp only [zeroValue, typeInfo, Sem.run_bind]; simp [hI, hz0]) zc (by intro u hu; simp at hu; subst hu; rfl) g _ c (fun j hj => some_of_heap hH1 _ (by simp at hj; rw [List.size_toArray, hpl, hcl]; omega)) (fun j hj => frozen_of_heap hH1 _)
  have hH2 : W2.heap[g]? = some (.cells (put (put cur.toList (i * 4) (xs.drop ((i + 1) * 4))) ((n - 1) * 4) [.int .i64 0, .int .i64 0, .int .i64 0, .int .i64 0]).toArray 47 (0, 0)) := by
    rw [HW2.out]; exact heap_setCells _ _ W1 (put cur.toList (i * 4) (xs.drop ((i + 1) * 4))).toArray hH1 (by rw [List.size_toArray, hpl, hcl]; simp; omega)
  have HE : Hid (W2.ownsRow 0 47 4 (.slice (some ⟨g, 0, none⟩) (n - 1) cap) (n - 1) (xs.take (i * 4) ++ xs.drop ((i + 1) * 4)) ∧ w.grownBy W2 (some g)) := by
    refine ⟨own_of_heap hH2 (by omega) hcm ?_ ?_, ?_⟩
    · rw [List.size_toArray, put_len _ _ _ (by rw [hpl, hcl]; simp; omega), hpl, hcl]
    · apply List.ext_getElem?
      intro j
      have e1 : (xs.take (i * 4)).length = i * 4 := by rw [List.length_take, hxl]; omega
      simp only
      rw [List.getElem?_take]
      split
      · rw [put_get _ _ _ (by rw [hpl, hcl]; simp; omega), if_neg (by omega), put_get _ _ _ (by rw [hdl, hcl]; omega), hdl]
        by_cases c1 : j < i * 4
        · rw [if_neg (by omega), List.getElem?_append_left (by omega), List.getElem?_take, if_pos c1, ← htk, List.getElem?_take, if_pos (by omega)]
        · rw [if_pos (by omega), List.getElem?_append_right (by omega), e1]
      · rw [List.getElem?_eq_none (by simp; omega)]
    · have hgr := grown_drew_left (grown_setCells g (xs.drop ((i + 1) * 4)) (i * 4) w.drew)
      rw [← HW1.out] at hgr
      have hg2 := grown_setCells g [.int .i64 0, .int .i64 0, .int .i64 0, .int .i64 0] ((n - 1) * 4) W1
      rw [← HW2.out] at hg2
      exact hgr.trans hg2
  have hcap : cap ≤ 9223372036854775807 := hcm
  have hb1 : (0 : Int) ≤ (i : Int) + 1 := by omega
  have hb2 : (i : Int) + 1 ≤ (n : Int) := by omega
  have hb3 : (i : Int) ≤ (i : Int) + 1 := by omega
  have hb4 : ¬ ((i : Int) = (i : Int) + 1) := by omega
  have hb5 : (i : Int) ≤ (cap : Int) := by omega
  have hb6 : (i : Int) ≤ (n : Int) := by omega
  have htn : ((i : Int) + 1).toNat = i + 1 := by omega
  have hic : i + 1 ≤ n := by omega
  have hb8 : ¬ (cap = n - 1) := by omega
  have hb9 : (n : Int) ≤ (cap : Int) := by omega
  have hb10 : n - (n - 1) = 1 := by omega
  have hb11 : ((n - 1 : Nat) : Int) ≤ (n : Int) := by omega
  have hib : i < n := hi
  clear hcm hcs htk hdl hH1 hpl hcl h hxl h1 hg hI hz0 hz1 hz2 hH2
  go_enter Try.func38, Try.ntmps38
  go_wp2_with fail
  go_region_law (refine step_append_run rfl (.tmp 22) (.tmp 25) 65 65 rfl (.slice (some ⟨g, 0, none⟩) i cap) (.slice (some A) (n - (i + 1)) (cap - (i + 1))) (by simp [Act.eval, Act.put]) (by simp [Act.eval, Act.put]) (hap _ _) ?_)
  go_wp2_with (at_builtin; refine wpList_clear_run _ rfl (.tmp 31) 65 rfl _ rfl (hclr _ _) ?_)
  go_ret
  exact ⟨_, rfl, HE.out.1, HE.out.2, rfl⟩
end Go.Proofs.Ytfjcadkihnecdaa.K
namespace Go.Proofs.Ytfjcadkihnecdaa.K
open Go.RowKit

set_option maxHeartbeats 2000000 in
set_option maxRecDepth 20000 in
theorem insert_grow (g n cap i vb : Nat) (xs : List Value) (s d s2 d2 : Value) (w : World) (h : w.ownsRow 0 47 4 (.slice (some ⟨g, 0, none⟩) n cap) n xs) (hi : i < n) (hn : n ≤ 1000000000) (hroom : ¬ n + 1 ≤ cap) (hvb : w.heap[vb]? = some (.cells #[s, d, s2, d2] 47 (0, 0))) (hs : s.oneCell' = true) (hd : d.oneCell' = true) (hs2 : s2.oneCell' = true) (hd2 : d2.oneCell' = true) (h1 : ∀ u ∈ xs, u.oneCell' = true) :
    Calls Try.prog 36 #[.slice (some ⟨g, 0, none⟩) n cap, .int .i64 i, .slice (some ⟨vb, 0, none⟩) 1 1] w fun e w' => ∃ v', e = .returned v' ∧ w'.ownsRow 0 47 4 v' (n + 1) (xs.take (i * 4) ++ [s, d, s2, d2] ++ xs.drop (i * 4)) ∧ w.grownBy w' (some g) ∧ v'.ownBlock = some w.heap.size := by
  obtain ⟨I, hI, hz0, hz1, hz2⟩ := info_parts Try.info47
  obtain ⟨cur, hg, hnc, hcm, hcs, htk⟩ : ∃ cur : Array Value, w.heap[g]? = some (.cells cur 47 (0, 0)) ∧ n ≤ cap ∧ cap ≤ maxLen ∧ cur.size = cap * 4 ∧ cur.toList.take (n * 4) = xs := by
    rcases h.2 with ⟨hv, _⟩ | ⟨g', cap', cur, e, _, hg, hn, hc, hs, ht⟩
    · simp at hv
    · simp only [Value.slice.injEq, Option.some.injEq, Addr.mk.injEq, and_true, true_and] at e
      obtain ⟨rfl, rfl⟩ := e
      exact ⟨cur, hg, hn, hc, hs, ht⟩
  have hcn : cap = n := by omega
  subst hcn
  have hxl : xs.length = cap * 4 := h.1
  have hgl : g < w.heap.size := (Array.getElem?_eq_some_iff.1 hg).1
  have hvl : vb < w.heap.size := (Array.getElem?_eq_some_iff.1 hvb).1
  have htl : (xs.take (i * 4)).length = i * 4 := by rw [List.length_take, hxl]; omega
  have hold : (Builtin.firstCells I.size i (.slice (some ⟨g, 0, none⟩) i cap)).run Try.prog w.drew = .ok (xs.take (i * 4)).toArray w.drew := by
    rw [hz1]
    exact run_firstCells_some w.drew 4 i ⟨g, 0, none⟩ i cap (xs.take (i * 4)) htl (fun j v hj => by
      rw [Addr.add_lit, Nat.zero_add, cell_of_row w.drew _ _ _ _ _ hg]
      rw [← htk, List.getElem?_take] at hj
      split at hj
      · rw [List.getElem?_take] at hj
        split at hj
        · simpa using hj
        · simp at hj
      · simp at hj)
  obtain ⟨G, HG⟩ : ∃ G, Hid (G = grownCap w (cap + 1) cap 47) := ⟨grownCap w (cap + 1) cap 47, (rfl : _ = _)⟩
  have hGn : cap + 1 ≤ G := by rw [HG.out]; exact grownCap_ge w _ _ _
  have hGm : G ≤ maxLen := by rw [HG.out]; exact grownCap_le_maxLen w (cap + 1) cap 47 (by unfold maxLen; omega)
  obtain ⟨ROW, HROW⟩ : ∃ ROW : Array Value, Hid (ROW = (xs.take (i * 4)).toArray ++ Builtin.zeroCells (Value.agg #[.int .i64 0, .int .i64 0, .int .i64 0, .int .i64 0]).cells (cap + 1 - i) ++ Builtin.zeroCells (Value.agg #[.int .i64 0, .int .i64 0, .int .i64 0, .int .i64 0]).cells (G - (cap + 1))) := ⟨_, (rfl : _ = _)⟩
  obtain ⟨W1, HW1⟩ : ∃ W1, Hid (W1 = w.drew.alloc (.cells ROW 47)) := ⟨w.drew.alloc (.cells ROW 47), (rfl : _ = _)⟩
  have hik : i + (cap + 1 - i) = cap + 1 := by omega
  have hrz : ∀ ty, (Builtin.append_ #[65, 3] ty #[.slice (some ⟨g, 0, none⟩) i cap, .int .i64 ((cap : Int) + 1 - (i : Int))]).run Try.prog w = .ok (.slice (some ⟨w.heap.size, 0, none⟩) (cap + 1) G) W1 := fun ty => by
    have h := Lib.run_append_grow_zeros w 65 3 ty 47 I _ .i64 .i64 Try.underlying65 Try.underlying3 hI hz0 (some ⟨g, 0, none⟩) i cap (xs.take (i * 4)) hold (cap + 1 - i) (by omega) (by omega) (by omega) (by omega) (by rw [hz2]; omega) (by rw [hz2, hik]; exact growslice_fits (by omega) (by omega))
    rw [hik] at h
    rw [show (cap : Int) + 1 - (i : Int) = ((cap + 1 - i : Nat) : Int) by omega, h, HW1.out, HROW.out, HG.out]
  have hRs : ROW.size = G * 4 := by
    have e1 : (Value.agg #[.int .i64 0, .int .i64 0, .int .i64 0, .int .i64 0]).cells.size = 4 := rfl
    rw [HROW.out, Array.size_append, Array.size_append, size_zeroCells, size_zeroCells, List.size_toArray, htl, e1]
    omega
  have hRt : ROW.toList.take (i * 4) = xs.take (i * 4) := by
    rw [HROW.out, Array.toList_append, Array.toList_append, List.append_assoc]
    have := List.take_left (l₁ := xs.take (i * 4)) (l₂ := (Builtin.zeroCells (Value.agg #[.int .i64 0, .int .i64 0, .int .i64 0, .int .i64 0]).cells (cap + 1 - i)).toList ++ (Builtin.zeroCells (Value.agg #[.int .i64 0, .int .i64 0, .int .i64 0, .int .i64 0]).cells (G - (cap + 1))).toList)
    rw [htl] at this
    exact this
  have hN : W1.heap[w.heap.size]? = some (.cells ROW 47 (0, 0)) := by rw [HW1.out]; exact heap_alloc_new w.drew _
  have hO1 : ∀ k, k < w.heap.size → W1.heap[k]? = w.heap[k]? := fun k hk => by rw [HW1.out]; exact Below.heap_alloc w.drew _ k hk
  have hS1 : w.grownBy W1 (some g) := by rw [HW1.out]; exact grown_drew_left (World.grownBy_alloc w.drew _ _)
  have hrl : ROW.toList.length = G * 4 := by rw [Array.length_toList, hRs]
  have hcpA : ∀ ty dc, (Builtin.copy_ #[65, 65] ty #[.slice (some ⟨w.heap.size, i * 4, none⟩) (cap + 1 - i) dc, .slice (some ⟨vb, 0, none⟩) 1 1]).run Try.prog W1 = .ok (goInt (Nat.min 1 (cap + 1 - i))) (W1.setCells w.heap.size (i * 4) [s, d, s2, d2]) := fun ty dc =>
    run_copy_sz W1 _ _ ty 47 I w.heap.size (i * 4) _ dc ⟨vb, 0, none⟩ _ 1 [s, d, s2, d2] Try.underlying65 hI hz1 (by rw [show Nat.min 1 (cap + 1 - i) = 1 by simp only [Nat.min_def]; split <;> omega]; rfl)
      (fun j v hj => by
        rw [Addr.add_lit, Nat.zero_add, cell_of_row _ _ _ _ _ _ ((hO1 vb hvl).trans hvb)]
        simpa using hj)
      (fun j hj => some_of_heap hN _ (by simp at hj; omega)) (fun j hj => frozen_of_heap hN _) (by simp [hs, hd, hs2, hd2])
  obtain ⟨W2, HW2⟩ : ∃ W2, Hid (W2 = W1.setCells w.heap.size (i * 4) [s, d, s2, d2]) := ⟨W1.setCells w.heap.size (i * 4) [s, d, s2, d2], (rfl : _ = _)⟩
  have hN2 : W2.heap[w.heap.size]? = some (.cells (put ROW.toList (i * 4) [s, d, s2, d2]).toArray 47 (0, 0)) := by
    rw [HW2.out]; exact heap_setCells _ _ _ _ hN (by simp; omega)
  have hpl := put_len ROW.toList (i * 4) [s, d, s2, d2] (by rw [hrl]; simp; omega)
  have hO2 : ∀ k, k < w.heap.size → W2.heap[k]? = w.heap[k]? := fun k hk => by rw [HW2.out, setCells_other _ _ _ _ (by omega)]; exact hO1 k hk
  have hdl : (xs.drop (i * 4)).length = (cap - i) * 4 := by rw [List.length_drop, hxl]; omega
  have hcpB : ∀ ty dc sc, (Builtin.copy_ #[65, 65] ty #[.slice (some ⟨w.heap.size, (i + 1) * 4, none⟩) (cap - i) dc, .slice (some ⟨g, i * 4, none⟩) (cap - i) sc]).run Try.prog W2.drew = .ok (goInt (Nat.min (cap - i) (cap - i))) (W2.drew.setCells w.heap.size ((i + 1) * 4) (xs.drop (i * 4))) := fun ty dc sc =>
    run_copy_sz W2.drew _ _ ty 47 I w.heap.size ((i + 1) * 4) _ dc ⟨g, i * 4, none⟩ _ sc (xs.drop (i * 4)) Try.underlying65 hI hz1 (by rw [hdl]; congr 1; simp only [Nat.min_def]; split <;> omega)
      (fun j v hj => by
        rw [Addr.add_lit, cell_of_row W2.drew _ _ _ _ _ ((hO2 g hgl).trans hg)]
        rw [← htk, List.getElem?_drop, List.getElem?_take] at hj
        split at hj
        · simpa using hj
        · simp at hj)
      (fun j hj => some_of_heap (w := W2.drew) hN2 _ (by rw [List.size_toArray, hpl, hrl]; omega)) (fun j hj => frozen_of_heap (w := W2.drew) hN2 _) (fun v hv => h1 v (List.mem_of_mem_drop hv))
  obtain ⟨W3, HW3⟩ : ∃ W3, Hid (W3 = W2.drew.setCells w.heap.size ((i + 1) * 4) (xs.drop (i * 4))) := ⟨W2.drew.setCells w.heap.size ((i + 1) * 4) (xs.drop (i * 4)), (rfl : _ = _)⟩
  have hN3 : W3.heap[w.heap.size]? = some (.cells (put (put ROW.toList (i * 4) [s, d, s2, d2]) ((i + 1) * 4) (xs.drop (i * 4))).toArray 47 (0, 0)) := by
    rw [HW3.out]; exact heap_setCells _ _ W2.drew (put ROW.toList (i * 4) [s, d, s2, d2]).toArray hN2 (by rw [List.size_toArray, hpl, hrl, hdl]; omega)
  have HE : Hid (W3.ownsRow 0 47 4 (.slice (some ⟨w.heap.size, 0, none⟩) (cap + 1) G) (cap + 1) (xs.take (i * 4) ++ [s, d, s2, d2] ++ xs.drop (i * 4)) ∧ w.grownBy W3 (some g)) := by
    refine ⟨own_of_heap hN3 hGn hGm ?_ ?_, ?_⟩
    · rw [List.size_toArray, put_len _ _ _ (by rw [hpl, hrl, hdl]; omega), hpl, hrl]
    · apply List.ext_getElem?
      intro j
      simp only
      rw [List.getElem?_take]
      split
      · rw [put_get _ _ _ (by rw [hpl, hrl, hdl]; omega), put_get _ _ _ (by rw [hrl]; simp; omega), hdl]
        by_cases c1 : j < i * 4
        · have e := congrArg (fun l => l[j]?) hRt
          simp only [List.getElem?_take, if_pos c1] at e
          rw [if_neg (by omega), if_neg (by omega), e, List.append_assoc, List.getElem?_append_left (by omega), List.getElem?_take, if_pos c1]
        · by_cases c2 : j < i * 4 + 4
          · rw [if_neg (by omega), if_pos (by simp; omega), List.append_assoc, List.getElem?_append_right (by omega), htl, List.getElem?_append_left (by simp; omega)]
          · rw [if_pos (by omega), List.getElem?_append_right (by simp; omega)]
            simp only [List.length_append, htl, List.length_cons, List.length_nil]
            congr 1
            omega
      · rw [List.getElem?_eq_none (by simp; omega)]
    · obtain ⟨a1, a2, a3, a4⟩ := setCells_same (b := w.heap.size) [s, d, s2, d2] (i * 4) W1
      obtain ⟨b1, b2, b3, b4⟩ := setCells_same (b := w.heap.size) (xs.drop (i * 4)) ((i + 1) * 4) W2.drew
      rw [← HW2.out] at a1 a2 a3 a4
      rw [← HW3.out] at b1 b2 b3 b4
      refine ⟨b1.trans (a1.trans hS1.os), b2.trans (a2.trans hS1.tape), b3.trans (a3.trans hS1.output), ?_, fun k hk _ => ?_⟩
      · have e : W2.drew.heap.size = W2.heap.size := rfl
        have := hS1.size
        omega
      · rw [HW3.out, setCells_other _ _ W2.drew _ (by omega)]
        exact hO2 k hk
  rw [← HW2.out] at hcpA
  rw [← HW3.out] at hcpB
  have hG63 : G ≤ 9223372036854775807 := hGm
  have hcap : cap ≤ 9223372036854775807 := by omega
  have hz2' : ¬ ((i : Int) = (cap : Int)) := by omega
  have hb2 : ¬ (G = i + 1) := by omega
  have hb4 : ¬ (cap = i) := by omega
  have hb7 : ¬ (G = i) := by omega
  have hb5 : (cap : Int) < (cap : Int) + 1 := by omega
  have hb6 : (i : Int) ≤ (cap : Int) := by omega
  have hw1 : IntKind.i64.wrap ((i : Int) + 1) = (i : Int) + 1 := by rw [IntKind.wrap_i64]; omega
  have hb1 : (0 : Int) ≤ (i : Int) + 1 := by omega
  have htn : ((i : Int) + 1).toNat = i + 1 := by omega
  have hin : i ≤ cap := by omega
  clear hroom hnc hcm hcs htk hxl hgl hvl htl hold hRs hRt hN hO1 hS1 hrl hN2 hpl hO2 hdl hN3 h h1 hg hvb hI hz0 hz1 hz2 hik hGm
  go_enter Try.func36, Try.ntmps36
  go_wp2_with (first
    | (at_builtin; refine Lib.wpList_append_run _ rfl _ _ _ _ rfl _ _ rfl rfl _ _ (hrz _) ?_)
    | (at_builtin; refine wpList_copy_run _ rfl _ _ 65 65 rfl _ _ rfl rfl (hcpA _ _) ?_))
  go_region_law (refine step_copy_run rfl (.tmp 50) (.tmp 53) 65 65 rfl _ _ (by simp [Act.eval, Act.put]; rfl) (by simp [Act.eval, Act.put]; rfl) (hcpB _ _ _) ?_)
  go_wp2
  go_ret
  exact ⟨_, rfl, HE.out.1, HE.out.2, rfl⟩

/-- slices.Insert of one file. -/
theorem insert_any (v : Value) (n i vb : Nat) (xs : List Value) (s d s2 d2 : Value) (w : World) (h : w.ownsRow 0 47 4 v n xs) (hi : i ≤ n) (hn : n ≤ 1000000000) (hvb : w.heap[vb]? = some (.cells #[s, d, s2, d2] 47 (0, 0))) (hne : v.ownBlock ≠ some vb) (hs : s.oneCell' = true) (hd : d.oneCell' = true) (hs2 : s2.oneCell' = true) (hd2 : d2.oneCell' = true) (h1 : ∀ u ∈ xs, u.oneCell' = true) :
    Calls Try.prog 36 #[v, .int .i64 i, .slice (some ⟨vb, 0, none⟩) 1 1] w fun e w' => ∃ v', e = .returned v' ∧ w'.ownsRow 0 47 4 v' (n + 1) (xs.take (i * 4) ++ [s, d, s2, d2] ++ xs.drop (i * 4)) ∧ w.grownBy w' v.ownBlock ∧ (v'.ownBlock = v.ownBlock ∨ v'.ownBlock = some w.heap.size) := by
  by_cases he : i = n
  · subst he
    have hxl : xs.length = i * 4 := h.1
    rw [List.take_of_length_le (by omega), List.drop_eq_nil_of_le (by omega), List.append_nil]
    exact insert_end v i vb xs s d s2 d2 w h hn hvb hs hd hs2 hd2
  · rcases own_shape h with ⟨_, h0⟩ | ⟨g, cap, rfl, hc1, hc2, hc3⟩
    · omega
    · by_cases hr : n + 1 ≤ cap
      · refine (insert_shift g n cap i vb xs s d s2 d2 w h (by omega) hn hr hvb (fun e => hne (by rw [e]; rfl)) hs hd hs2 hd2 h1).mono ?_
        rintro e w' ⟨v', rfl, h2, h3, h4⟩
        exact ⟨v', rfl, h2, h3, Or.inl h4⟩
      · refine (insert_grow g n cap i vb xs s d s2 d2 w h (by omega) hn hr hvb hs hd hs2 hd2 h1).mono ?_
        rintro e w' ⟨v', rfl, h2, h3, h4⟩
        exact ⟨v', rfl, h2, h3, Or.inr h4⟩
end Go.Proofs.Ytfjcadkihnecdaa.K
namespace Go.Proofs.Ytfjcadkihnecdaa.P
open Go.RowKit

open K (step_append_run wpList_clear_run some_of_heap frozen_of_heap shape_of_heap)

theorem Try.info65 : (Try.prog.info? 65).map (fun i => (i.zero, i.size, i.bytes)) = some (some (.slice none 0 0), 1, 24) := by kernel_rfl

theorem zc : (Builtin.zeroCells (Value.slice none 0 0).cells 1).toList = [.slice none 0 0] := by
  apply List.ext_getElem
  · simp [Builtin.zeroCells, Value.cells]
  · intro i h1 h2
    match i, h2 with
    | 0, _ => simp [Builtin.zeroCells, Value.cells]

set_option maxHeartbeats 2000000 in
set_option maxRecDepth 20000 in
theorem delete_any (v : Value) (n i : Nat) (xs : List Value) (w : World) (h : w.ownsRow 0 65 1 v n xs) (hi : i < n) (hn : n ≤ 1000000000) (h1 : ∀ u ∈ xs, u.oneCell' = true) :
    Calls Try.prog 39 #[v, .int .i64 i, .int .i64 ((i : Int) + 1)] w fun e w' => ∃ v', e = .returned v' ∧ w'.ownsRow 0 65 1 v' (n - 1) (xs.take (i) ++ xs.drop ((i + 1))) ∧ w.grownBy w' v.ownBlock ∧ v'.ownBlock = v.ownBlock := by
  obtain ⟨I, hI, hz0, hz1, hz2⟩ := info_parts Try.info65
  obtain ⟨g, cap, cur, rfl, hg, hnc, hcm, hcs, htk⟩ : ∃ (g cap : Nat) (cur : Array Value), v = .slice (some ⟨g, 0, none⟩) n cap ∧ w.heap[g]? = some (.cells cur 65 (0, 0)) ∧ n ≤ cap ∧ cap ≤ maxLen ∧ cur.size = cap ∧ cur.toList.take (n) = xs := by
    rcases h.2 with ⟨_, h0⟩ | ⟨g', cap', cur, e, _, hg, hn, hc, hs, ht⟩
    · omega
    · exact ⟨g', cap', cur, e, hg, hn, hc, by simpa using hs, by simpa using ht⟩
  have hxl : xs.length = n := by simpa using h.1
  have hcl : cur.toList.length = cap := by rw [Array.length_toList, hcs]
  have hdl : (xs.drop ((i + 1))).length = (n - (i + 1)) := by rw [List.length_drop, hxl]
  obtain ⟨A, hA, HA⟩ : ∃ A : Addr, (if cap = i + 1 then some (⟨g, 0, none⟩ : Addr) else some ⟨g, (i + 1), none⟩) = some A ∧ Hid (∀ j u, (xs.drop ((i + 1)))[j]? = some u → w.drew.cell? (A.add j) = some u) := by
    by_cases hc : cap = i + 1
    · refine ⟨⟨g, 0, none⟩, by simp [hc], fun j u hu => ?_⟩
      rw [List.drop_eq_nil_of_le (by omega)] at hu
      simp at hu
    · refine ⟨⟨g, (i + 1), none⟩, by simp [hc], fun j u hu => ?_⟩
      rw [Addr.add_lit, cell_of_row w.drew _ _ _ _ _ hg]
      rw [← htk, List.getElem?_drop, List.getElem?_take] at hu
      split at hu
      · simpa using hu
      · simp at hu
  obtain ⟨W1, HW1⟩ : ∃ W1, Hid (W1 = w.drew.setCells g (i) (xs.drop ((i + 1)))) := ⟨w.drew.setCells g (i) (xs.drop ((i + 1))), (rfl : _ = _)⟩
  have hap : ∀ ty c, (Builtin.append_ #[43, 43] ty #[.slice (some ⟨g, 0, none⟩) i cap, .slice (some A) (n - (i + 1)) c]).run Try.prog w.drew = .ok (.slice (some ⟨g, 0, none⟩) (n - 1) cap) W1 := fun ty c => by
    have := run_append_room_src (P := Try.prog) w.drew 43 43 ty 65 I Try.underlying43 hI g 0 i cap (.slice (some A) (n - (i + 1)) c) (n - (i + 1)) (xs.drop ((i + 1))) (by rw [hz1]; exact Src.ofSlice w.drew Try.underlying43 A _ c _ (by rw [hdl, Nat.mul_one]) HA.out (fun u hu => h1 u (List.mem_of_mem_drop hu))) (by omega) (fun j hj => some_of_heap (w := w.drew) hg _ (by rw [hz1]; omega)) (fun j hj => frozen_of_heap (w := w.drew) hg _)
    rw [this, hz1, HW1.out, Nat.zero_add, Nat.mul_one, show i + (n - (i + 1)) = n - 1 by omega]
  have hH1 : W1.heap[g]? = some (.cells (put cur.toList (i) (xs.drop ((i + 1)))).toArray 65 (0, 0)) := by
    rw [HW1.out]; exact heap_setCells _ _ w.drew _ hg (by rw [hdl]; omega)
  have hpl := put_len cur.toList (i) (xs.drop ((i + 1))) (by rw [hdl, hcl]; omega)
  obtain ⟨W2, HW2⟩ : ∃ W2, Hid (W2 = W1.setCells g ((n - 1)) [.slice none 0 0]) := ⟨W1.setCells g ((n - 1)) [.slice none 0 0], (rfl : _ = _)⟩
  have hclr : ∀ ty c, (Builtin.clear_ #[43] ty #[.slice (some ⟨g, (n - 1), none⟩) 1 c]).run Try.prog W1 = .ok (.tuple #[]) W2 := fun ty c => by
    rw [HW2.out]
    exact run_clear_sz W1 43 65 ty _ _ Try.underlying43 (fun w => by simp only [zeroValue, typeInfo, Sem.run_bind]; simp [hI, hz0]) zc (by intro u hu; simp at hu; subst hu; rfl) g _ c (fun j hj => some_of_heap hH1 _ (by simp at hj; rw [List.size_toArray, hpl, hcl]; omega)) (fun j hj => frozen_of_heap hH1 _)
  have hH2 : W2.heap[g]? = some (.cells (put (put cur.toList (i) (xs.drop ((i + 1)))) ((n - 1)) [.slice none 0 0]).toArray 65 (0, 0)) := by
    rw [HW2.out]; exact heap_setCells _ _ W1 (put cur.toList (i) (xs.drop ((i + 1)))).toArray hH1 (by rw [List.size_toArray, hpl, hcl]; simp; omega)
  have HE : Hid (W2.ownsRow 0 65 1 (.slice (some ⟨g, 0, none⟩) (n - 1) cap) (n - 1) (xs.take (i) ++ xs.drop ((i + 1))) ∧ w.grownBy W2 (some g)) := by
    refine ⟨own_of_heap hH2 (by omega) hcm ?_ ?_, ?_⟩
    · rw [List.size_toArray, put_len _ _ _ (by rw [hpl, hcl]; simp; omega), hpl, hcl, Nat.mul_one]
    · apply List.ext_getElem?
      intro j
      have e1 : (xs.take (i)).length = i := by rw [List.length_take, hxl]; omega
      simp only
      rw [List.getElem?_take]
      split
      · rw [put_get _ _ _ (by rw [hpl, hcl]; simp; omega), if_neg (by omega), put_get _ _ _ (by rw [hdl, hcl]; omega), hdl]
        by_cases c1 : j < i
        · rw [if_neg (by omega), List.getElem?_append_left (by omega), List.getElem?_take, if_pos c1, ← htk, List.getElem?_take, if_pos (by omega)]
        · rw [if_pos (by omega), List.getElem?_append_right (by omega), e1]
      · rw [List.getElem?_eq_none (by simp; omega)]
    · have hgr := grown_drew_left (grown_setCells g (xs.drop ((i + 1))) (i) w.drew)
      rw [← HW1.out] at hgr
      have hg2 := grown_setCells g [.slice none 0 0] ((n - 1)) W1
      rw [← HW2.out] at hg2
      exact hgr.trans hg2
  have hcap : cap ≤ 9223372036854775807 := hcm
  have hb1 : (0 : Int) ≤ (i : Int) + 1 := by omega
  have hb2 : (i : Int) + 1 ≤ (n : Int) := by omega
  have hb3 : (i : Int) ≤ (i : Int) + 1 := by omega
  have hb4 : ¬ ((i : Int) = (i : Int) + 1) := by omega
  have hb5 : (i : Int) ≤ (cap : Int) := by omega
  have hb6 : (i : Int) ≤ (n : Int) := by omega
  have htn : ((i : Int) + 1).toNat = i + 1 := by omega
  have hic : i + 1 ≤ n := by omega
  have hb8 : ¬ (cap = n - 1) := by omega
  have hb9 : (n : Int) ≤ (cap : Int) := by omega
  have hb10 : n - (n - 1) = 1 := by omega
  have hb11 : ((n - 1 : Nat) : Int) ≤ (n : Int) := by omega
  have hib : i < n := hi
  clear hcm hcs htk hdl hH1 hpl hcl h hxl h1 hg hI hz0 hz1 hz2 hH2
  go_enter Try.func39, Try.ntmps39
  go_wp2_with fail
  go_region_law (refine step_append_run rfl (.tmp 22) (.tmp 25) 43 43 rfl (.slice (some ⟨g, 0, none⟩) i cap) (.slice (some A) (n - (i + 1)) (cap - (i + 1))) (by simp [Act.eval, Act.put]) (by simp [Act.eval, Act.put]) (hap _ _) ?_)
  go_wp2_with (at_builtin; refine wpList_clear_run _ rfl (.tmp 31) 43 rfl _ rfl (hclr _ _) ?_)
  go_ret
  exact ⟨_, rfl, HE.out.1, HE.out.2, rfl⟩
end Go.Proofs.Ytfjcadkihnecdaa.P
namespace Go.Proofs.Ytfjcadkihnecdaa
open Go.RowKit

/-- The pages of a set have changed: these keys now. -/
def Chg (w W : World) (p wd : Nat) (v : Value) (zs : List Pg) (L : List Ky) : Prop :=
  ∃ v' zs', Bx W p 45 #[.int .i64 (wd : Int), v'] ∧ Pgs W v' zs' ∧ keys zs' = L ∧ (∀ z ∈ zs', z.ks ≠ []) ∧ Fr (ft p v zs) w W ∧ (∀ k, foot v' zs' k → foot v zs k ∨ w.heap.size ≤ k)
theorem foot_ne {w : World} {p : Nat} {v : Value} {zs : List Pg} {cs : Array Value} (h : Pgs w v zs) (hB : Bx w p 45 cs) : ¬ foot v zs p := fun hk => by
  obtain ⟨t, cs', hb, ht⟩ := h.typ hk
  unfold Bx at hb hB
  rw [hB] at hb
  simp at hb
  rcases ht with rfl | rfl <;> simp at hb
theorem Chg.below {w W W' : World} {p wd : Nat} {v : Value} {zs : List Pg} {L : List Ky} (h : Chg w W p wd v zs L) (hb : Below W.heap.size W W') : Chg w W' p wd v zs L := by
  obtain ⟨v', zs', h1, h2, h3, h4, h5, h6⟩ := h
  exact ⟨v', zs', h1.below hb, h2.below hb, h3, h4, h5.trans (G := ft p v zs) (Fr.of_below hb) (fun _ _ h => h), h6⟩
/-- One page's keys have changed, and there are some. -/
theorem Chg.put {w w2 : World} {p wd g N cap : Nat} {zl : List Pg} {z : Pg} {zr : List Pg} (hB : Bx w p 45 #[.int .i64 (wd : Int), .slice (some ⟨g, 0, none⟩) N cap]) (h : Pgs w (.slice (some ⟨g, 0, none⟩) N cap) (zl ++ z :: zr)) (hne : ∀ x ∈ zl ++ z :: zr, x.ks ≠ []) (d : Value) (ks : List Ky) (hks : ks ≠ [])
    (hd : w2.ownsRow 0 47 4 d ks.length (cellsK ks)) (hg : w.grownBy w2 z.dv.ownBlock) (hb : d.ownBlock = z.dv.ownBlock ∨ (∃ k, d.ownBlock = some k ∧ w.heap.size ≤ k)) :
    Chg w (w2.setCell ⟨g, zl.length, none⟩ d) p wd (.slice (some ⟨g, 0, none⟩) N cap) (zl ++ z :: zr) (keys zl ++ ks ++ keys zr) := by
  obtain ⟨h1, h2, _, _⟩ := h.put d ks hd hg hb
  refine ⟨_, _, hB.fr h2 (foot_ne h hB), h1, by rw [keys_append, keys_cons, List.append_assoc], fun x hx => ?_, h2.mono (fun x _ hx => .inr hx), fun k hk => ?_⟩
  · rcases List.mem_append.1 hx with hx | hx
    · exact hne x (by simp [hx])
    · rcases List.mem_cons.1 hx with rfl | hx
      · exact hks
      · exact hne x (by simp [hx])
  · rcases hk with hk | ⟨x, hx, hk⟩
    · exact .inl (.inl hk)
    · rcases List.mem_append.1 hx with hx | hx
      · exact .inl (.inr ⟨x, by simp [hx], hk⟩)
      · rcases List.mem_cons.1 hx with rfl | hx
        · rcases hb with hb | ⟨k2, hk2, hge⟩
          · exact .inl (.inr ⟨z, by simp, by rw [← hb]; exact hk⟩)
          · simp only at hk
            rw [hk] at hk2
            cases hk2
            exact .inr hge
        · exact .inl (.inr ⟨x, by simp [hx], hk⟩)
/-- The pages' slice is another one, and is stored. -/
theorem Chg.store {w W : World} {p wd : Nat} {v v' : Value} {zs zs' : List Pg} {L : List Ky} (hB : Bx w p 45 #[.int .i64 (wd : Int), v]) (h : Pgs w v zs) (hf : Fr (foot v zs) w W) (h' : Pgs W v' zs') (hL : keys zs' = L) (hne : ∀ z ∈ zs', z.ks ≠ [])
    (hft : ∀ k, foot v' zs' k → foot v zs k ∨ w.heap.size ≤ k) : Chg w (W.setCell ⟨p, 1, none⟩ v') p wd v zs L := by
  have hB' := hB.fr hf (foot_ne h hB)
  refine ⟨v', zs', hB'.set 1 v', h'.kept (Fr.one W p 1 v') (fun k hk e => foot_ne h' hB' (by rw [← e]; exact hk)), hL, hne, ?_, hft⟩
  exact Fr.setCell (p := ⟨p, 1, none⟩) (hf.mono (fun x _ hx => .inr hx)) (fun _ => .inl rfl) v'

theorem inf65 : (Try.prog.info? 65).map (fun i => (i.zero, i.size, i.bytes)) = some (some (.slice none 0 0), 1, 24) := by kernel_rfl
theorem inf47' : (Try.prog.info? 47).map (fun i => (i.zero, i.size, i.bytes)) = some (some (.agg #[.int .i64 0, .int .i64 0, .int .i64 0, .int .i64 0]), 4, 32) := by kernel_rfl
theorem grown_of_below {w W : World} (h : Below w.heap.size w W) : w.grownBy W none := ⟨h.os, h.tape, h.output, h.size, fun k hk _ => h.block k hk⟩

/-- A new page with one key is laid behind all others. -/
theorem push_new {w W1 : World} {p wd : Nat} {v : Value} {zs : List Pg} (hB : Bx w p 45 #[.int .i64 (wd : Int), v]) (h : Pgs w v zs) (hne : ∀ x ∈ zs, x.ks ≠ []) (hl : zs.length ≤ 1000000000) (k : Ky) (hb : Below w.heap.size w W1) :
    ∃ v' W3, (∀ ty, (Builtin.append_ #[43, 43] ty #[v, .slice (some ⟨W1.heap.size + 1, 0, none⟩) 1 1]).run Try.prog ((W1.alloc (.cells k.cs 47)).alloc (.cells #[.slice (some ⟨W1.heap.size, 0, none⟩) 1 1] 65)) = .ok v' W3) ∧
      (∃ ao N cap, v' = .slice ao N cap) ∧ Bx W3 p 45 #[.int .i64 (wd : Int), v] ∧ Chg w (W3.setCell ⟨p, 1, none⟩ v') p wd v zs (keys zs ++ [k]) := by
  obtain ⟨i, hi, hz, hs, hby⟩ := info_parts inf65
  have hb2 : Below w.heap.size w ((W1.alloc (.cells k.cs 47)).alloc (.cells #[.slice (some ⟨W1.heap.size, 0, none⟩) 1 1] 65)) := hb.trans ((below_box2 W1 _ _).mono hb.size)
  have hk1 : Bx ((W1.alloc (.cells k.cs 47)).alloc (.cells #[.slice (some ⟨W1.heap.size, 0, none⟩) 1 1] 65)) W1.heap.size 47 k.cs := (Bx.new W1 k.cs 47).below (below_box _ _)
  have hk2 := Bx.new (W1.alloc (.cells k.cs 47)) #[.slice (some ⟨W1.heap.size, 0, none⟩) 1 1] 65
  rw [World.size_alloc] at hk2
  generalize (W1.alloc (.cells k.cs 47)).alloc (.cells #[.slice (some ⟨W1.heap.size, 0, none⟩) 1 1] 65) = W2 at *
  have h2 := h.below hb2
  have hs1 := hb.size
  obtain ⟨v', W3, hr, hO, hg, _, hat⟩ := run_append_own_at (P := Try.prog) W2 0 43 43 65 i _ 1 24 Try.underlying43 hi hz hs hby rfl (by decide) v zs.length (dvs zs) h2.row ⟨W1.heap.size + 1, 0, none⟩ 1 1 [.slice (some ⟨W1.heap.size, 0, none⟩) 1 1] rfl (fun j u hj => by
    rw [Addr.add_lit, Nat.zero_add, hk2.c]
    simpa using hj) (by simp [Value.oneCell']) (by simp only [maxLen]; omega) (by omega) (Nat.zero_le _)
  have hd : W2.ownsRow 0 47 4 (.slice (some ⟨W1.heap.size, 0, none⟩) 1 1) 1 (cellsK [k]) := own_of_heap hk1 (Nat.le_refl _) (by simp [maxLen]) (by simp [Ky.cs]) (by simp [cellsK, Ky.cs])
  have hfW : Fr (foot v zs) w W3 := (Fr.of_below (F := foot v zs) hb2).trans (G := foot v zs) (Fr.of_grown hg (fun k e => .inl e)) (fun _ _ h => h)
  have hins := Pgs.inserted (zl := zs) (zr := []) (by rw [List.append_nil]; exact h2) (.slice (some ⟨W1.heap.size, 0, none⟩) 1 1) [k] (v' := v') (w' := W3) (by
    have e1 : (dvs zs).take zs.length = dvs zs := List.take_of_length_le (by rw [dvs_len]; omega)
    have e2 : (dvs zs).drop zs.length = [] := List.drop_eq_nil_of_le (by rw [dvs_len]; omega)
    rw [List.append_nil, e1, e2, List.append_nil]
    exact hO) hg hd (fun x hx j hj => by
    rw [List.append_nil] at hx
    have := h.lt (.inr ⟨x, hx, hj⟩)
    simp only [Value.ownBlock]
    intro e
    cases e
    omega)
  refine ⟨v', W3, fun ty => hr, own_slice hO, hB.fr hfW (foot_ne h hB), Chg.store hB h hfW hins (by rw [keys_append]; simp [keys]) (fun x hx => ?_) (fun j hj => ?_)⟩
  · rcases List.mem_append.1 hx with hx | hx
    · exact hne x hx
    · simp at hx
      subst hx
      simp
  · rcases hj with hj | ⟨x, hx, hj⟩
    · rcases hat with hat | hat
      · exact .inl (.inl (by rw [← hat]; exact hj))
      · rw [hj] at hat
        cases hat
        have := hb2.size
        exact .inr (by omega)
    · rcases List.mem_append.1 hx with hx | hx
      · exact .inl (.inr ⟨x, hx, hj⟩)
      · simp at hx
        subst hx
        simp [Value.ownBlock] at hj
        exact .inr (by omega)
/-- A key is laid at the end of the last page. -/
theorem push_old {w W1 : World} {p wd g N cap : Nat} {zl : List Pg} {z : Pg} (hB : Bx w p 45 #[.int .i64 (wd : Int), .slice (some ⟨g, 0, none⟩) N cap]) (h : Pgs w (.slice (some ⟨g, 0, none⟩) N cap) (zl ++ [z])) (hne : ∀ x ∈ zl ++ [z], x.ks ≠ []) (hl : z.ks.length ≤ 1000000000) (k : Ky) (hb : Below w.heap.size w W1) :
    ∃ d W3, (∀ ty, (Builtin.append_ #[65, 65] ty #[z.dv, .slice (some ⟨W1.heap.size, 0, none⟩) 1 1]).run Try.prog (W1.alloc (.cells k.cs 47)) = .ok d W3) ∧
      (∃ ao N cap, d = .slice ao N cap) ∧ Bx W3 p 45 #[.int .i64 (wd : Int), .slice (some ⟨g, 0, none⟩) N cap] ∧ W3.cell? ⟨g, zl.length, none⟩ = some z.dv ∧ W3.frozen? ⟨g, zl.length, none⟩ = false ∧ Chg w (W3.setCell ⟨g, zl.length, none⟩ d) p wd (.slice (some ⟨g, 0, none⟩) N cap) (zl ++ [z]) (keys (zl ++ [z]) ++ [k]) := by
  obtain ⟨i, hi, hz, hs, hby⟩ := info_parts inf47'
  have hb2 : Below w.heap.size w (W1.alloc (.cells k.cs 47)) := hb.trans ((below_box W1 _).mono hb.size)
  have hk2 := Bx.new W1 k.cs 47
  have hsz2 : (W1.alloc (.cells k.cs 47)).heap.size = W1.heap.size + 1 := by simp
  generalize W1.alloc (.cells k.cs 47) = W2 at *
  have h2 := h.below hb2
  have hs1 := hb.size
  obtain ⟨d, W3, hr, hO, hg, _, hat⟩ := run_append_own_at (P := Try.prog) W2 0 65 65 47 i _ 4 32 Try.underlying65 hi hz hs hby rfl (by decide) z.dv z.ks.length (cellsK z.ks) (h2.data z (by simp)) ⟨W1.heap.size, 0, none⟩ 1 1 k.cs.toList rfl (fun j u hj => by
    rw [Addr.add_lit, Nat.zero_add, hk2.c]
    simpa using hj) (by simp [Ky.cs, Value.oneCell']) (by simp only [maxLen]; omega) (by omega) (Nat.zero_le _)
  have hgw : w.grownBy W3 z.dv.ownBlock := (show w.grownBy W2 z.dv.ownBlock from ⟨hb2.os, hb2.tape, hb2.output, hb2.size, fun j hj _ => hb2.block j hj⟩).trans hg
  have hd : W3.ownsRow 0 47 4 d (z.ks ++ [k]).length (cellsK (z.ks ++ [k])) := by
    rw [cellsK_append, List.length_append]
    have e : cellsK [k] = k.cs.toList := by simp [cellsK]
    rw [e]
    exact hO
  have hbb : d.ownBlock = z.dv.ownBlock ∨ (∃ j, d.ownBlock = some j ∧ w.heap.size ≤ j) := by
    rcases hat with hat | hat
    · exact .inl hat
    · exact .inr ⟨_, hat, hb2.size⟩
  obtain ⟨_, hfr, hc, hfz⟩ := h.put d (z.ks ++ [k]) hd hgw hbb
  have hfW : Fr (foot (.slice (some ⟨g, 0, none⟩) N cap) (zl ++ [z])) w W3 := Fr.of_grown hgw (fun j e => .inr ⟨z, by simp, e⟩)
  have := Chg.put hB h hne d (z.ks ++ [k]) (by simp) hd hgw hbb
  refine ⟨d, W3, fun ty => hr, own_slice hO, hB.fr hfW (foot_ne h hB), hc, hfz, ?_⟩
  have e : keys zl ++ (z.ks ++ [k]) ++ keys [] = keys (zl ++ [z]) ++ [k] := by simp [keys]
  rw [← e]
  exact this
end Go.Proofs.Ytfjcadkihnecdaa

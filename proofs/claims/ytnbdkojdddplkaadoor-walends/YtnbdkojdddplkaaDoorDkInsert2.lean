/- The walks of slices.Insert in the middle, and slices.Delete, at files. -/
import Derived.Test.YtnbdkojdddplkaaDoorDkInsert
namespace Go.Proofs.YtnbdkojdddplkaaDoor.Dk
open Go.RowKit

/-- 'copy' whose run is known, for the walk. -/
theorem wpList_copy_run {P : Program} (w : World) {ops : Array Oper} {rest : List Oper} {o : Oper} {a : Act} {Q : Exit → Act → World → Prop} (hgd : o.guard = none) (d s : Operand) (t t' : TypeId)
    (ho : o.op = .call { callee := .builtin .copy, args := #[d, s], argTypes := #[t, t'] }) (v u : Value) (hd : a.eval d = v) (hs : a.eval s = u) {v' : Value} {w' : World}
    (hr : (Builtin.copy_ #[t, t'] o.type #[v, u]).run P w = .ok v' w') (h : wpList P ops Q rest (a.put o.dst v') w') : wpList P ops Q (o :: rest) a w := by
  refine wpList_plain hgd fun _ hK => ?_
  unfold Oper.wp execOp
  simp only [ho, resolve, invoke, builtin, Sem.run_bind, Sem.run_pure, Result.andThen_ok, List.map_toArray, List.map_cons, List.map_nil, hd, hs, hr]
  exact hK _ _ h
theorem step_copy_run {P : Program} {ops : Array Oper} {o : Oper} {a : Act} {w : World} {K : Act → World → Prop} {Q : Exit → Act → World → Prop} {E : Prop}
    (hg : o.guard = none) (d x : Operand) (dT sT : TypeId) (hop : o.op = Op.call { callee := Callee.builtin Builtin.copy, args := #[d, x], argTypes := #[dT, sT] })
    (v u : Value) (hd : a.eval d = v) (hx : a.eval x = u) {v' : Value} {w' : World} (hr : (Builtin.copy_ #[dT, sT] o.type #[v, u]).run P w = .ok v' w') (hK : K (a.put o.dst v') w') :
    if Region.wanted o (yielded ops a.tmps) = true then Oper.wp P o a w K Q else E := by
  have hw : Region.wanted o (yielded ops a.tmps) = true := by simp [Region.wanted, hg]
  rw [if_pos hw]
  unfold Oper.wp
  simp [execOp, hop, resolve, invoke, builtin, hd, hx, hr, Result.andThen]
  exact hK

theorem shape_of_heap {w : World} {b : Nat} {cs : Array Value} {T : TypeId} {fr : Nat × Nat} (h : w.heap[b]? = some (.cells cs T fr)) : w.shape? b = some (T, cs.size) := by simp [World.shape?, h]
theorem frozen_of_heap {w : World} {b : Nat} {cs : Array Value} {T : TypeId} (h : w.heap[b]? = some (.cells cs T (0, 0))) (j : Nat) : w.frozen? ⟨b, j, none⟩ = false := by simp [World.frozen?, h]
theorem some_of_heap {w : World} {b : Nat} {cs : Array Value} {T : TypeId} {fr : Nat × Nat} (h : w.heap[b]? = some (.cells cs T fr)) (j : Nat) (hj : j < cs.size) : (w.cell? ⟨b, j, none⟩).isSome = true := by
  rw [cell_of_row w b j _ T _ h, Array.getElem?_eq_getElem hj]; rfl

set_option maxHeartbeats 2000000 in
set_option maxRecDepth 20000 in
theorem insert_shift (g n cap i vb : Nat) (xs : List Value) (s d : Value) (w : World) (h : w.ownsRow 0 99 2 (.slice (some ⟨g, 0, none⟩) n cap) n xs) (hi : i < n) (hn : n ≤ 1000000000) (hroom : n + 1 ≤ cap) (hvb : w.heap[vb]? = some (.cells #[s, d] 99 (0, 0))) (hne : vb ≠ g) (hs : s.oneCell' = true) (hd : d.oneCell' = true) (h1 : ∀ u ∈ xs, u.oneCell' = true) :
    Calls Tryd.prog 81 #[.slice (some ⟨g, 0, none⟩) n cap, .int .i64 i, .slice (some ⟨vb, 0, none⟩) 1 1] w fun e w' => ∃ v', e = .returned v' ∧ w'.ownsRow 0 99 2 v' (n + 1) (xs.take (i * 2) ++ [s, d] ++ xs.drop (i * 2)) ∧ w.grownBy w' (some g) ∧ v'.ownBlock = some g := by
  obtain ⟨I, hI, hz0, hz1, hz2⟩ := info_parts Tryd.info99
  obtain ⟨cur, hg, hcm, hcs, htk⟩ : ∃ cur : Array Value, w.heap[g]? = some (.cells cur 99 (0, 0)) ∧ cap ≤ maxLen ∧ cur.size = cap * 2 ∧ cur.toList.take (n * 2) = xs := by
    rcases h.2 with ⟨hv, _⟩ | ⟨g', cap', cur, e, _, hg, _, hc, hs, ht⟩
    · simp at hv
    · simp only [Value.slice.injEq, Option.some.injEq, Addr.mk.injEq, and_true, true_and] at e
      obtain ⟨rfl, rfl⟩ := e
      exact ⟨cur, hg, hc, hs, ht⟩
  have hxl : xs.length = n * 2 := h.1
  have hcap : cap ≤ 9223372036854775807 := hcm
  have hgd : w.drew.heap[g]? = some (.cells cur 99 (0, 0)) := hg
  have hov : ∀ lb cb, (callFunc 88 #[.slice (some ⟨vb, 0, none⟩) 1 1, .slice (some ⟨g, (i + 1) * 2, none⟩) lb cb]).run Tryd.prog w = .ok (.value (.bool false)) w := fun lb cb => by
    rw [run_callFunc_extern Tryd.func88 (by kernel_rfl) (by kernel_rfl) (by kernel_rfl) (e := Extern.SlicesOverlaps.overlaps #[57, 57] #[4]) (by kernel_rfl),
      Lib.run_overlaps_apart w 57 4 99 Tryd.underlying57 2 (fun w => by simp [sizeOf, typeInfo, hI, hz1]) ⟨vb, 0, none⟩ ⟨g, (i + 1) * 2, none⟩ 1 1 lb cb hne 99 99 2 (cap * 2) (by rw [shape_of_heap hvb]; rfl) (by rw [shape_of_heap hg, hcs]) (by omega) (frozen_of_heap hvb 0) (frozen_of_heap hvb 2)]
    rfl
  have hdl : (xs.drop (i * 2)).length = (n - i) * 2 := by rw [List.length_drop, hxl]; omega
  have hcp1 : ∀ ty dc sc, (Builtin.copy_ #[58, 58] ty #[.slice (some ⟨g, (i + 1) * 2, none⟩) (n - i) dc, .slice (some ⟨g, i * 2, none⟩) (n + 1 - i) sc]).run Tryd.prog w.drew = .ok (goInt (Nat.min (n + 1 - i) (n - i))) (w.drew.setCells g ((i + 1) * 2) (xs.drop (i * 2))) := fun ty dc sc =>
    run_copy_two w.drew _ _ ty 99 I g ((i + 1) * 2) _ dc ⟨g, i * 2, none⟩ _ sc (xs.drop (i * 2)) Tryd.underlying58 hI hz1 (by rw [hdl]; congr 1; simp only [Nat.min_def]; split <;> omega)
      (fun j v hj => by
        rw [Addr.add_lit, cell_of_row _ _ _ _ _ _ hgd]
        rw [← htk, List.getElem?_drop, List.getElem?_take] at hj
        split at hj
        · simpa using hj
        · simp at hj)
      (fun j hj => some_of_heap hgd _ (by omega)) (fun j hj => frozen_of_heap hgd _) (fun v hv => h1 v (List.mem_of_mem_drop hv))
  obtain ⟨W1, HW1⟩ : ∃ W1, Hid (W1 = w.drew.setCells g ((i + 1) * 2) (xs.drop (i * 2))) := ⟨w.drew.setCells g ((i + 1) * 2) (xs.drop (i * 2)), (rfl : _ = _)⟩
  have hH1 : W1.heap[g]? = some (.cells (put cur.toList ((i + 1) * 2) (xs.drop (i * 2))).toArray 99 (0, 0)) := by
    rw [HW1.out]; exact heap_setCells _ _ _ _ hgd (by rw [hdl]; omega)
  have hcl : cur.toList.length = cap * 2 := by rw [Array.length_toList, hcs]
  have hpl := put_len cur.toList ((i + 1) * 2) (xs.drop (i * 2)) (by rw [hdl, hcl]; omega)
  have hvb1 : W1.heap[vb]? = some (.cells #[s, d] 99 (0, 0)) := by rw [HW1.out, setCells_other _ _ _ _ hne]; exact hvb
  have hcp2 : ∀ ty dc, (Builtin.copy_ #[58, 57] ty #[.slice (some ⟨g, i * 2, none⟩) (n + 1 - i) dc, .slice (some ⟨vb, 0, none⟩) 1 1]).run Tryd.prog W1 = .ok (goInt (Nat.min 1 (n + 1 - i))) (W1.setCells g (i * 2) [s, d]) := fun ty dc =>
    run_copy_two W1 _ _ ty 99 I g (i * 2) _ dc ⟨vb, 0, none⟩ _ 1 [s, d] Tryd.underlying58 hI hz1 (by rw [show Nat.min 1 (n + 1 - i) = 1 by simp only [Nat.min_def]; split <;> omega]; rfl)
      (fun j v hj => by
        rw [Addr.add_lit, Nat.zero_add, cell_of_row _ _ _ _ _ _ hvb1]
        simpa using hj)
      (fun j hj => some_of_heap hH1 _ (by simp at hj; rw [List.size_toArray, hpl, hcl]; omega)) (fun j hj => frozen_of_heap hH1 _) (by simp [hs, hd])
  have HE : Hid ((W1.setCells g (i * 2) [s, d]).ownsRow 0 99 2 (.slice (some ⟨g, 0, none⟩) (n + 1) cap) (n + 1) (xs.take (i * 2) ++ [s, d] ++ xs.drop (i * 2)) ∧ w.grownBy (W1.setCells g (i * 2) [s, d]) (some g)) := by
    refine ⟨own_of_heap (heap_setCells _ _ _ _ hH1 (by rw [List.size_toArray, hpl, hcl]; simp; omega)) hroom hcm ?_ ?_, ?_⟩
    · rw [List.size_toArray, put_len _ _ _ (by simp only [hpl, hcl]; simp; omega)]
      simp only [hpl, hcl]
    · apply List.ext_getElem?
      intro j
      have e1 : (xs.take (i * 2)).length = i * 2 := by simp; omega
      simp only
      rw [List.getElem?_take]
      split
      · rw [put_get _ _ _ (by rw [hpl, hcl]; simp; omega)]
        by_cases c1 : j < i * 2
        · rw [if_neg (by omega), put_get _ _ _ (by rw [hdl, hcl]; omega), if_neg (by omega), List.append_assoc, List.getElem?_append_left (by omega), List.getElem?_take, if_pos c1, ← htk, List.getElem?_take, if_pos (by omega)]
        · by_cases c2 : j < i * 2 + 2
          · rw [if_pos (by simp; omega), List.append_assoc, List.getElem?_append_right (by omega), e1, List.getElem?_append_left (by simp; omega)]
          · rw [if_neg (by simp; omega), put_get _ _ _ (by rw [hdl, hcl]; omega), if_pos (by rw [hdl]; omega), List.getElem?_append_right (by simp; omega)]
            simp only [List.length_append, e1, List.length_cons, List.length_nil]
            congr 1
            omega
      · rw [List.getElem?_eq_none (by simp; omega)]
    · have hgr := grown_drew_left (grown_setCells g (xs.drop (i * 2)) ((i + 1) * 2) w.drew)
      rw [← HW1.out] at hgr
      exact hgr.trans (grown_setCells g [s, d] (i * 2) W1)
  rw [← HW1.out] at hcp1
  have hz2' : ¬ ((i : Int) = (n : Int)) := by omega
  have hb2 : ¬ (cap = i + 1) := by omega
  have hb3 : (i : Int) ≤ (n : Int) + 1 := by omega
  have hb4 : ¬ (cap = i) := by omega
  have hb5 : ¬ (cap : Int) < (n : Int) + 1 := by omega
  have hb6 : (i : Int) < (n : Int) := by omega
  have hnr : (n : Int) + 1 ≤ (cap : Int) := by omega
  have hw1 : IntKind.i64.wrap ((i : Int) + 1) = (i : Int) + 1 := by rw [IntKind.wrap_i64]; omega
  have hb1 : (0 : Int) ≤ (i : Int) + 1 := by omega
  have htn : ((i : Int) + 1).toNat = i + 1 := by omega
  have hin : i ≤ n := by omega
  clear hcs htk hdl hgd hH1 hpl hvb1 hcl h hxl hcm h1 hg hvb hI hz0 hz1 hz2
  go_enter Tryd.func81, Tryd.ntmps81
  go_wp2_with (simp only [hov])
  go_region_law (refine step_copy_run rfl (.tmp 73) (.tmp 76) 58 58 rfl _ _ (by simp [Act.eval, Act.put]; rfl) (by simp [Act.eval, Act.put]; rfl) (hcp1 _ _ _) ?_)
  go_wp2_with (at_builtin; refine wpList_copy_run _ rfl _ _ 58 57 rfl _ _ rfl rfl (hcp2 _ _) ?_)
  go_ret
  exact ⟨_, rfl, HE.out.1, HE.out.2, rfl⟩
end Go.Proofs.YtnbdkojdddplkaaDoor.Dk

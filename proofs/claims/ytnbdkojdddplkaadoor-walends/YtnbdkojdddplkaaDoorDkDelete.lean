/- The walk of slices.Delete of one file. -/
import Derived.Test.YtnbdkojdddplkaaDoorDkInsert2
namespace Go.Proofs.YtnbdkojdddplkaaDoor.Dk
open Go.RowKit

theorem step_append_run {P : Program} {ops : Array Oper} {o : Oper} {a : Act} {w : World} {K : Act → World → Prop} {Q : Exit → Act → World → Prop} {E : Prop}
    (hg : o.guard = none) (d x : Operand) (dT sT : TypeId) (hop : o.op = Op.call { callee := Callee.builtin Builtin.append, args := #[d, x], argTypes := #[dT, sT] })
    (v u : Value) (hd : a.eval d = v) (hx : a.eval x = u) {v' : Value} {w' : World} (hr : (Builtin.append_ #[dT, sT] o.type #[v, u]).run P w = .ok v' w') (hK : K (a.put o.dst v') w') :
    if Region.wanted o (yielded ops a.tmps) = true then Oper.wp P o a w K Q else E := by
  have hw : Region.wanted o (yielded ops a.tmps) = true := by simp [Region.wanted, hg]
  rw [if_pos hw]
  unfold Oper.wp
  simp [execOp, hop, resolve, invoke, builtin, hd, hx, hr, Result.andThen]
  exact hK
theorem wpList_clear_run {P : Program} (w : World) {ops : Array Oper} {rest : List Oper} {o : Oper} {a : Act} {Q : Exit → Act → World → Prop} (hgd : o.guard = none) (d : Operand) (t : TypeId)
    (ho : o.op = .call { callee := .builtin .clear, args := #[d], argTypes := #[t] }) (v : Value) (hd : a.eval d = v) {v' : Value} {w' : World}
    (hr : (Builtin.clear_ #[t] o.type #[v]).run P w = .ok v' w') (h : wpList P ops Q rest (a.put o.dst v') w') : wpList P ops Q (o :: rest) a w := by
  refine wpList_plain hgd fun _ hK => ?_
  unfold Oper.wp execOp
  simp only [ho, resolve, invoke, builtin, Sem.run_bind, Sem.run_pure, Result.andThen_ok, List.map_toArray, List.map_cons, List.map_nil, hd, hr]
  exact hK _ _ h

set_option maxHeartbeats 2000000 in
set_option maxRecDepth 20000 in
theorem delete_any (v : Value) (n i : Nat) (xs : List Value) (w : World) (h : w.ownsRow 0 99 2 v n xs) (hi : i < n) (hn : n ≤ 1000000000) (h1 : ∀ u ∈ xs, u.oneCell' = true) :
    Calls Tryd.prog 82 #[v, .int .i64 i, .int .i64 ((i : Int) + 1)] w fun e w' => ∃ v', e = .returned v' ∧ w'.ownsRow 0 99 2 v' (n - 1) (xs.take (i * 2) ++ xs.drop ((i + 1) * 2)) ∧ w.grownBy w' v.ownBlock ∧ v'.ownBlock = v.ownBlock := by
  obtain ⟨I, hI, hz0, hz1, hz2⟩ := info_parts Tryd.info99
  obtain ⟨g, cap, cur, rfl, hg, hnc, hcm, hcs, htk⟩ : ∃ (g cap : Nat) (cur : Array Value), v = .slice (some ⟨g, 0, none⟩) n cap ∧ w.heap[g]? = some (.cells cur 99 (0, 0)) ∧ n ≤ cap ∧ cap ≤ maxLen ∧ cur.size = cap * 2 ∧ cur.toList.take (n * 2) = xs := by
    rcases h.2 with ⟨_, h0⟩ | ⟨g', cap', cur, e, _, hg, hn, hc, hs, ht⟩
    · omega
    · exact ⟨g', cap', cur, e, hg, hn, hc, hs, ht⟩
  have hxl : xs.length = n * 2 := h.1
  have hcl : cur.toList.length = cap * 2 := by rw [Array.length_toList, hcs]
  have hdl : (xs.drop ((i + 1) * 2)).length = (n - (i + 1)) * 2 := by rw [List.length_drop, hxl]; omega
  obtain ⟨A, hA, HA⟩ : ∃ A : Addr, (if cap = i + 1 then some (⟨g, 0, none⟩ : Addr) else some ⟨g, (i + 1) * 2, none⟩) = some A ∧ Hid (∀ j u, (xs.drop ((i + 1) * 2))[j]? = some u → w.drew.cell? (A.add j) = some u) := by
    by_cases hc : cap = i + 1
    · refine ⟨⟨g, 0, none⟩, by simp [hc], fun j u hu => ?_⟩
      rw [List.drop_eq_nil_of_le (by omega)] at hu
      simp at hu
    · refine ⟨⟨g, (i + 1) * 2, none⟩, by simp [hc], fun j u hu => ?_⟩
      rw [Addr.add_lit, cell_of_row w.drew _ _ _ _ _ hg]
      rw [← htk, List.getElem?_drop, List.getElem?_take] at hu
      split at hu
      · simpa using hu
      · simp at hu
  obtain ⟨W1, HW1⟩ : ∃ W1, Hid (W1 = w.drew.setCells g (i * 2) (xs.drop ((i + 1) * 2))) := ⟨w.drew.setCells g (i * 2) (xs.drop ((i + 1) * 2)), (rfl : _ = _)⟩
  have hap : ∀ ty c, (Builtin.append_ #[58, 58] ty #[.slice (some ⟨g, 0, none⟩) i cap, .slice (some A) (n - (i + 1)) c]).run Tryd.prog w.drew = .ok (.slice (some ⟨g, 0, none⟩) (n - 1) cap) W1 := fun ty c => by
    have := run_append_room_src (P := Tryd.prog) w.drew 58 58 ty 99 I Tryd.underlying58 hI g 0 i cap (.slice (some A) (n - (i + 1)) c) (n - (i + 1)) (xs.drop ((i + 1) * 2)) (by rw [hz1]; exact Src.ofSlice w.drew Tryd.underlying58 A _ c _ hdl HA.out (fun u hu => h1 u (List.mem_of_mem_drop hu))) (by omega) (fun j hj => some_of_heap (w := w.drew) hg _ (by rw [hz1]; omega)) (fun j hj => frozen_of_heap (w := w.drew) hg _)
    rw [this, hz1, HW1.out, Nat.zero_add, show i + (n - (i + 1)) = n - 1 by omega]
  have hH1 : W1.heap[g]? = some (.cells (put cur.toList (i * 2) (xs.drop ((i + 1) * 2))).toArray 99 (0, 0)) := by
    rw [HW1.out]; exact heap_setCells _ _ w.drew _ hg (by rw [hdl]; omega)
  have hpl := put_len cur.toList (i * 2) (xs.drop ((i + 1) * 2)) (by rw [hdl, hcl]; omega)
  obtain ⟨W2, HW2⟩ : ∃ W2, Hid (W2 = W1.setCells g ((n - 1) * 2) [.string ⟨#[]⟩, .slice none 0 0]) := ⟨W1.setCells g ((n - 1) * 2) [.string ⟨#[]⟩, .slice none 0 0], (rfl : _ = _)⟩
  have hclr : ∀ ty c, (Builtin.clear_ #[58] ty #[.slice (some ⟨g, (n - 1) * 2, none⟩) 1 c]).run Tryd.prog W1 = .ok (.tuple #[]) W2 := fun ty c => by
    rw [HW2.out]
    exact run_clear_two W1 58 99 ty _ _ _ Tryd.underlying58 (fun w => by simp only [zeroValue, typeInfo, Sem.run_bind]; simp [hI, hz0]; rfl) rfl rfl rfl g _ c (fun j hj => some_of_heap hH1 _ (by rw [List.size_toArray, hpl, hcl]; omega)) (fun j hj => frozen_of_heap hH1 _)
  have hH2 : W2.heap[g]? = some (.cells (put (put cur.toList (i * 2) (xs.drop ((i + 1) * 2))) ((n - 1) * 2) [.string ⟨#[]⟩, .slice none 0 0]).toArray 99 (0, 0)) := by
    rw [HW2.out]; exact heap_setCells _ _ W1 (put cur.toList (i * 2) (xs.drop ((i + 1) * 2))).toArray hH1 (by rw [List.size_toArray, hpl, hcl]; simp; omega)
  have HE : Hid (W2.ownsRow 0 99 2 (.slice (some ⟨g, 0, none⟩) (n - 1) cap) (n - 1) (xs.take (i * 2) ++ xs.drop ((i + 1) * 2)) ∧ w.grownBy W2 (some g)) := by
    refine ⟨own_of_heap hH2 (by omega) hcm ?_ ?_, ?_⟩
    · rw [List.size_toArray, put_len _ _ _ (by rw [hpl, hcl]; simp; omega), hpl, hcl]
    · apply List.ext_getElem?
      intro j
      have e1 : (xs.take (i * 2)).length = i * 2 := by rw [List.length_take, hxl]; omega
      simp only
      rw [List.getElem?_take]
      split
      · rw [put_get _ _ _ (by rw [hpl, hcl]; simp; omega), if_neg (by omega), put_get _ _ _ (by rw [hdl, hcl]; omega), hdl]
        by_cases c1 : j < i * 2
        · rw [if_neg (by omega), List.getElem?_append_left (by omega), List.getElem?_take, if_pos c1, ← htk, List.getElem?_take, if_pos (by omega)]
        · rw [if_pos (by omega), List.getElem?_append_right (by omega), e1]
      · rw [List.getElem?_eq_none (by simp; omega)]
    · have hgr := grown_drew_left (grown_setCells g (xs.drop ((i + 1) * 2)) (i * 2) w.drew)
      rw [← HW1.out] at hgr
      have hg2 := grown_setCells g [.string ⟨#[]⟩, .slice none 0 0] ((n - 1) * 2) W1
      rw [← HW2.out] at hg2
      exact hgr.trans hg2
  have hcap : cap ≤ 9223372036854775807 := hcm
  have hb1 : (0 : Int) ≤ (i : Int) + 1 := by omega
  have hb2 : (i : Int) + 1 ≤ (n : Int) := by omega
  have hb3 : (i : Int) ≤ (i : Int) + 1 := by omega
  have hb4 : ¬ ((i : Int) = (i : Int) + 1) := by omega
  have hb5 : (i : Int) ≤ (cap : Int) := by omega
  have hb6 : (i : Int) ≤ (n : Int) := by omega
  have htn : ((i : Int) + 1).toNat = i + 1 := by omega
  have hic : i + 1 ≤ n := by omega
  have hb8 : ¬ (cap = n - 1) := by omega
  have hb9 : (n : Int) ≤ (cap : Int) := by omega
  have hb10 : n - (n - 1) = 1 := by omega
  have hb11 : ((n - 1 : Nat) : Int) ≤ (n : Int) := by omega
  have hib : i < n := hi
  clear hcm hcs htk hdl hH1 hpl hcl h hxl h1 hg hI hz0 hz1 hz2 hH2
  go_enter Tryd.func82, Tryd.ntmps82
  go_wp2_with fail
  go_region_law (refine step_append_run rfl (.tmp 22) (.tmp 25) 58 58 rfl (.slice (some ⟨g, 0, none⟩) i cap) (.slice (some A) (n - (i + 1)) (cap - (i + 1))) (by simp [Act.eval, Act.put]) (by simp [Act.eval, Act.put]) (hap _ _) ?_)
  go_wp2_with (at_builtin; refine wpList_clear_run _ rfl (.tmp 31) 58 rfl _ rfl (hclr _ _) ?_)
  go_ret
  exact ⟨_, rfl, HE.out.1, HE.out.2, rfl⟩
end Go.Proofs.YtnbdkojdddplkaaDoor.Dk

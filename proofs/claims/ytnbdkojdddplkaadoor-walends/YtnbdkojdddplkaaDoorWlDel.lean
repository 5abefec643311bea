/- The walk of slices.Delete of records. -/
import Derived.Test.YtnbdkojdddplkaaDoorWlCount
import Derived.Test.YtnbdkojdddplkaaDoorDkDelete
namespace Go.Proofs.YtnbdkojdddplkaaDoor.Wl
open Go.RowKit Dk

/-- Cells of so many zero records. -/
def zc (k : Nat) : List Value := (Builtin.zeroCells #[.slice none 0 0, .int .i64 0] k).toList
theorem zc_len (k : Nat) : (zc k).length = k * 2 := by simp [zc, Builtin.zeroCells]
theorem zc_one (k : Nat) : ∀ u ∈ zc k, u.oneCell' = true := by
  intro u hu
  simp only [zc, Builtin.zeroCells, Array.toList_map, List.mem_map, Array.toList_range, List.mem_range] at hu
  obtain ⟨j, _, rfl⟩ := hu
  have h2 : j % 2 = 0 ∨ j % 2 = 1 := by omega
  simp only [show (#[Value.slice none 0 0, Value.int .i64 0] : Array Value).size = 2 from rfl]
  rcases h2 with h | h <;> rw [h] <;> rfl

theorem run_clear_recs {P : Program} (w : World) (t e ty : TypeId) (z : Value) (ht : P.underlying t = some (.slice e)) (hv : ∀ w, (zeroValue e).run P w = .ok z w) (hz : z.cells = #[.slice none 0 0, .int .i64 0]) (g o k c : Nat) (hk : 0 < k)
    (hc : ∀ j, j < k * 2 → (w.cell? ⟨g, o + j, none⟩).isSome = true) (hf : ∀ j, j < k * 2 → w.frozen? ⟨g, o + j, none⟩ = false) :
    (Builtin.clear_ #[t] ty #[.slice (some ⟨g, o, none⟩) k c]).run P w = .ok (.tuple #[]) (w.setCells g o (zc k)) := by
  have hst := run_storeCells_cells (P := P) g o (zc k) 0 w (by rw [zc_len]; simpa using hc) (by rw [zc_len]; simpa using hf) (zc_one k)
  simp only [Nat.add_zero] at hst
  obtain ⟨m, rfl⟩ : ∃ m, k = m + 1 := ⟨k - 1, by omega⟩
  unfold zc at hst ⊢
  simp [Builtin.clear_, run_underlying ht, hv, hz, hst]

set_option maxHeartbeats 2000000 in
set_option maxRecDepth 20000 in
theorem delete_recs (v : Value) (n i j : Nat) (xs : List Value) (w : World) (h : w.ownsRow 0 82 2 v n xs) (hij : i < j) (hj : j ≤ n) (hn : n ≤ 1000000000) (h1 : ∀ u ∈ xs, u.oneCell' = true) :
    Calls Tryd.prog 59 #[v, .int .i64 (i : Int), .int .i64 (j : Int)] w fun e w' => ∃ v', e = .returned v' ∧ w'.ownsRow 0 82 2 v' (n - (j - i)) (xs.take (i * 2) ++ xs.drop (j * 2)) ∧ w.grownBy w' v.ownBlock ∧ v'.ownBlock = v.ownBlock := by
  obtain ⟨I, hI, hz0, hz1, hz2⟩ := info_parts Tryd.info82
  obtain ⟨g, cap, cur, rfl, hg, hnc, hcm, hcs, htk⟩ : ∃ (g cap : Nat) (cur : Array Value), v = .slice (some ⟨g, 0, none⟩) n cap ∧ w.heap[g]? = some (.cells cur 82 (0, 0)) ∧ n ≤ cap ∧ cap ≤ maxLen ∧ cur.size = cap * 2 ∧ cur.toList.take (n * 2) = xs := by
    rcases h.2 with ⟨_, h0⟩ | ⟨g', cap', cur, e, _, hg, hn, hc, hs, ht⟩
    · omega
    · exact ⟨g', cap', cur, e, hg, hn, hc, hs, ht⟩
  have hxl : xs.length = n * 2 := h.1
  have hcl : cur.toList.length = cap * 2 := by rw [Array.length_toList, hcs]
  have hdl : (xs.drop (j * 2)).length = (n - j) * 2 := by rw [List.length_drop, hxl]; omega
  obtain ⟨A, hA, HA⟩ : ∃ A : Addr, (if cap = j then some (⟨g, 0, none⟩ : Addr) else some ⟨g, j * 2, none⟩) = some A ∧ Hid (∀ t u, (xs.drop (j * 2))[t]? = some u → w.drew.cell? (A.add t) = some u) := by
    by_cases hc : cap = j
    · refine ⟨⟨g, 0, none⟩, by simp [hc], fun t u hu => ?_⟩
      rw [List.drop_eq_nil_of_le (by omega)] at hu
      simp at hu
    · refine ⟨⟨g, j * 2, none⟩, by simp [hc], fun t u hu => ?_⟩
      rw [Addr.add_lit, cell_of_row w.drew _ _ _ _ _ hg]
      rw [← htk, List.getElem?_drop, List.getElem?_take] at hu
      split at hu
      · simpa using hu
      · simp at hu
  obtain ⟨L, HL⟩ : ∃ L, L = n - (j - i) := ⟨_, rfl⟩
  obtain ⟨K, HK⟩ : ∃ K, K = j - i := ⟨_, rfl⟩
  rw [← HL]
  obtain ⟨W1, HW1⟩ : ∃ W1, Hid (W1 = w.drew.setCells g (i * 2) (xs.drop (j * 2))) := ⟨w.drew.setCells g (i * 2) (xs.drop (j * 2)), (rfl : _ = _)⟩
  have hap : ∀ ty c, (Builtin.append_ #[63, 63] ty #[.slice (some ⟨g, 0, none⟩) i cap, .slice (some A) (n - j) c]).run Tryd.prog w.drew = .ok (.slice (some ⟨g, 0, none⟩) L cap) W1 := fun ty c => by
    have := run_append_room_src (P := Tryd.prog) w.drew 63 63 ty 82 I Tryd.underlying63 hI g 0 i cap (.slice (some A) (n - j) c) (n - j) (xs.drop (j * 2)) (by rw [hz1]; exact Src.ofSlice w.drew Tryd.underlying63 A _ c _ hdl HA.out (fun u hu => h1 u (List.mem_of_mem_drop hu))) (by omega) (fun t ht => some_of_heap (w := w.drew) hg _ (by rw [hz1]; omega)) (fun t ht => frozen_of_heap (w := w.drew) hg _)
    rw [this, hz1, HW1.out, Nat.zero_add, show i + (n - j) = L by omega]
  have hH1 : W1.heap[g]? = some (.cells (put cur.toList (i * 2) (xs.drop (j * 2))).toArray 82 (0, 0)) := by
    rw [HW1.out]; exact heap_setCells _ _ w.drew _ hg (by rw [hdl]; omega)
  have hpl := put_len cur.toList (i * 2) (xs.drop (j * 2)) (by rw [hdl, hcl]; omega)
  obtain ⟨W2, HW2⟩ : ∃ W2, Hid (W2 = W1.setCells g (L * 2) (zc K)) := ⟨W1.setCells g (L * 2) (zc K), (rfl : _ = _)⟩
  have hclr : ∀ ty c, (Builtin.clear_ #[63] ty #[.slice (some ⟨g, L * 2, none⟩) K c]).run Tryd.prog W1 = .ok (.tuple #[]) W2 := fun ty c => by
    rw [HW2.out]
    exact run_clear_recs W1 63 82 ty _ Tryd.underlying63 (fun w => by simp only [zeroValue, typeInfo, Sem.run_bind]; simp [hI, hz0]; rfl) rfl g _ K c (by omega) (fun t ht => some_of_heap hH1 _ (by rw [List.size_toArray, hpl, hcl]; omega)) (fun t ht => frozen_of_heap hH1 _)
  have hH2 : W2.heap[g]? = some (.cells (put (put cur.toList (i * 2) (xs.drop (j * 2))) (L * 2) (zc K)).toArray 82 (0, 0)) := by
    rw [HW2.out]; exact heap_setCells _ _ W1 (put cur.toList (i * 2) (xs.drop (j * 2))).toArray hH1 (by rw [List.size_toArray, hpl, hcl, zc_len]; omega)
  have HE : Hid (W2.ownsRow 0 82 2 (.slice (some ⟨g, 0, none⟩) L cap) L (xs.take (i * 2) ++ xs.drop (j * 2)) ∧ w.grownBy W2 (some g)) := by
    refine ⟨own_of_heap hH2 (by omega) hcm ?_ ?_, ?_⟩
    · rw [List.size_toArray, put_len _ _ _ (by rw [hpl, hcl, zc_len]; omega), hpl, hcl]
    · apply List.ext_getElem?
      intro t
      have e1 : (xs.take (i * 2)).length = i * 2 := by rw [List.length_take, hxl]; omega
      simp only
      rw [List.getElem?_take]
      split
      · rw [put_get _ _ _ (by rw [hpl, hcl, zc_len]; omega), if_neg (by omega), put_get _ _ _ (by rw [hdl, hcl]; omega), hdl]
        by_cases c1 : t < i * 2
        · rw [if_neg (by omega), List.getElem?_append_left (by omega), List.getElem?_take, if_pos c1, ← htk, List.getElem?_take, if_pos (by omega)]
        · rw [if_pos (by omega), List.getElem?_append_right (by omega), e1]
      · rw [List.getElem?_eq_none (by simp; omega)]
    · have hgr := grown_drew_left (grown_setCells g (xs.drop (j * 2)) (i * 2) w.drew)
      rw [← HW1.out] at hgr
      have hg2 := grown_setCells g (zc K) (L * 2) W1
      rw [← HW2.out] at hg2
      exact hgr.trans hg2
  have hcap : cap ≤ 9223372036854775807 := hcm
  have hb1 : (0 : Int) ≤ (j : Int) := by omega
  have hb2 : (j : Int) ≤ (n : Int) := by omega
  have hb3 : (i : Int) ≤ (j : Int) := by omega
  have hb4 : ¬ ((i : Int) = (j : Int)) := by omega
  have hb5 : (i : Int) ≤ (cap : Int) := by omega
  have hb6 : (i : Int) ≤ (n : Int) := by omega
  have hb8 : ¬ (cap = L) := by omega
  have hb9 : (n : Int) ≤ (cap : Int) := by omega
  have hb10 : n - L = K := by omega
  have hb11 : (L : Int) ≤ (n : Int) := by omega
  clear hcm hcs htk hdl hH1 hpl hcl h hxl h1 hg hI hz0 hz1 hz2 hH2 HL HK
  go_enter Tryd.func59, Tryd.ntmps59
  go_wp2_with fail
  go_region_law (refine step_append_run rfl (.tmp 22) (.tmp 25) 63 63 rfl (.slice (some ⟨g, 0, none⟩) i cap) (.slice (some A) (n - j) (cap - j)) (by simp [Act.eval, Act.put]) (by simp [Act.eval, Act.put]) (hap _ _) ?_)
  go_wp2_with (at_builtin; refine wpList_clear_run _ rfl (.tmp 31) 63 rfl _ rfl (hclr _ _) ?_)
  go_ret
  exact ⟨_, rfl, HE.out.1, HE.out.2, rfl⟩
end Go.Proofs.YtnbdkojdddplkaaDoor.Wl

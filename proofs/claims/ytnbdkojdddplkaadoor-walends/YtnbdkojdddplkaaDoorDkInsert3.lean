/- The walk of slices.Insert in the middle without room; slices.Insert whole. -/
import Derived.Test.YtnbdkojdddplkaaDoorDkInsert2
namespace Go.Proofs.YtnbdkojdddplkaaDoor.Dk
open Go.RowKit

set_option maxHeartbeats 2000000 in
set_option maxRecDepth 20000 in
theorem insert_grow (g n cap i vb : Nat) (xs : List Value) (s d : Value) (w : World) (h : w.ownsRow 0 99 2 (.slice (some ⟨g, 0, none⟩) n cap) n xs) (hi : i < n) (hn : n ≤ 1000000000) (hroom : ¬ n + 1 ≤ cap) (hvb : w.heap[vb]? = some (.cells #[s, d] 99 (0, 0))) (hs : s.oneCell' = true) (hd : d.oneCell' = true) (h1 : ∀ u ∈ xs, u.oneCell' = true) :
    Calls Tryd.prog 81 #[.slice (some ⟨g, 0, none⟩) n cap, .int .i64 i, .slice (some ⟨vb, 0, none⟩) 1 1] w fun e w' => ∃ v', e = .returned v' ∧ w'.ownsRow 0 99 2 v' (n + 1) (xs.take (i * 2) ++ [s, d] ++ xs.drop (i * 2)) ∧ w.grownBy w' (some g) ∧ v'.ownBlock = some w.heap.size := by
  obtain ⟨I, hI, hz0, hz1, hz2⟩ := info_parts Tryd.info99
  obtain ⟨cur, hg, hnc, hcm, hcs, htk⟩ : ∃ cur : Array Value, w.heap[g]? = some (.cells cur 99 (0, 0)) ∧ n ≤ cap ∧ cap ≤ maxLen ∧ cur.size = cap * 2 ∧ cur.toList.take (n * 2) = xs := by
    rcases h.2 with ⟨hv, _⟩ | ⟨g', cap', cur, e, _, hg, hn, hc, hs, ht⟩
    · simp at hv
    · simp only [Value.slice.injEq, Option.some.injEq, Addr.mk.injEq, and_true, true_and] at e
      obtain ⟨rfl, rfl⟩ := e
      exact ⟨cur, hg, hn, hc, hs, ht⟩
  have hcn : cap = n := by omega
  subst hcn
  have hxl : xs.length = cap * 2 := h.1
  have hgl : g < w.heap.size := (Array.getElem?_eq_some_iff.1 hg).1
  have hvl : vb < w.heap.size := (Array.getElem?_eq_some_iff.1 hvb).1
  have htl : (xs.take (i * 2)).length = i * 2 := by rw [List.length_take, hxl]; omega
  have hold : (Builtin.firstCells I.size i (.slice (some ⟨g, 0, none⟩) i cap)).run Tryd.prog w.drew = .ok (xs.take (i * 2)).toArray w.drew := by
    rw [hz1]
    exact run_firstCells_some w.drew 2 i ⟨g, 0, none⟩ i cap (xs.take (i * 2)) htl (fun j v hj => by
      rw [Addr.add_lit, Nat.zero_add, cell_of_row w.drew _ _ _ _ _ hg]
      rw [← htk, List.getElem?_take] at hj
      split at hj
      · rw [List.getElem?_take] at hj
        split at hj
        · simpa using hj
        · simp at hj
      · simp at hj)
  obtain ⟨G, HG⟩ : ∃ G, Hid (G = grownCap w (cap + 1) cap 99) := ⟨grownCap w (cap + 1) cap 99, (rfl : _ = _)⟩
  have hGn : cap + 1 ≤ G := by rw [HG.out]; exact grownCap_ge w _ _ _
  have hGm : G ≤ maxLen := by rw [HG.out]; exact grownCap_le_maxLen w (cap + 1) cap 99 (by unfold maxLen; omega)
  obtain ⟨ROW, HROW⟩ : ∃ ROW : Array Value, Hid (ROW = (xs.take (i * 2)).toArray ++ Builtin.zeroCells (Value.agg #[.string ⟨#[]⟩, .slice none 0 0]).cells (cap + 1 - i) ++ Builtin.zeroCells (Value.agg #[.string ⟨#[]⟩, .slice none 0 0]).cells (G - (cap + 1))) := ⟨_, (rfl : _ = _)⟩
  obtain ⟨W1, HW1⟩ : ∃ W1, Hid (W1 = w.drew.alloc (.cells ROW 99)) := ⟨w.drew.alloc (.cells ROW 99), (rfl : _ = _)⟩
  have hik : i + (cap + 1 - i) = cap + 1 := by omega
  have hrz : ∀ ty, (Builtin.append_ #[58, 3] ty #[.slice (some ⟨g, 0, none⟩) i cap, .int .i64 ((cap : Int) + 1 - (i : Int))]).run Tryd.prog w = .ok (.slice (some ⟨w.heap.size, 0, none⟩) (cap + 1) G) W1 := fun ty => by
    have h := Lib.run_append_grow_zeros w 58 3 ty 99 I _ .i64 .i64 Tryd.underlying58 Tryd.underlying3 hI hz0 (some ⟨g, 0, none⟩) i cap (xs.take (i * 2)) hold (cap + 1 - i) (by omega) (by omega) (by omega) (by omega) (by rw [hz2]; omega) (by rw [hz2, hik]; exact growslice_fits (by omega) (by omega))
    rw [hik] at h
    rw [show (cap : Int) + 1 - (i : Int) = ((cap + 1 - i : Nat) : Int) by omega, h, HW1.out, HROW.out, HG.out]
  have hRs : ROW.size = G * 2 := by
    have e1 : (Value.agg #[.string ⟨#[]⟩, .slice none 0 0]).cells.size = 2 := rfl
    rw [HROW.out, Array.size_append, Array.size_append, size_zeroCells, size_zeroCells, List.size_toArray, htl, e1]
    omega
  have hRt : ROW.toList.take (i * 2) = xs.take (i * 2) := by
    rw [HROW.out, Array.toList_append, Array.toList_append, List.append_assoc]
    have := List.take_left (l₁ := xs.take (i * 2)) (l₂ := (Builtin.zeroCells (Value.agg #[.string ⟨#[]⟩, .slice none 0 0]).cells (cap + 1 - i)).toList ++ (Builtin.zeroCells (Value.agg #[.string ⟨#[]⟩, .slice none 0 0]).cells (G - (cap + 1))).toList)
    rw [htl] at this
    exact this
  have hN : W1.heap[w.heap.size]? = some (.cells ROW 99 (0, 0)) := by rw [HW1.out]; exact heap_alloc_new w.drew _
  have hO1 : ∀ k, k < w.heap.size → W1.heap[k]? = w.heap[k]? := fun k hk => by rw [HW1.out]; exact Below.heap_alloc w.drew _ k hk
  have hS1 : w.grownBy W1 (some g) := by rw [HW1.out]; exact grown_drew_left (World.grownBy_alloc w.drew _ _)
  have hrl : ROW.toList.length = G * 2 := by rw [Array.length_toList, hRs]
  have hcpA : ∀ ty dc, (Builtin.copy_ #[58, 57] ty #[.slice (some ⟨w.heap.size, i * 2, none⟩) (cap + 1 - i) dc, .slice (some ⟨vb, 0, none⟩) 1 1]).run Tryd.prog W1 = .ok (goInt (Nat.min 1 (cap + 1 - i))) (W1.setCells w.heap.size (i * 2) [s, d]) := fun ty dc =>
    run_copy_two W1 _ _ ty 99 I w.heap.size (i * 2) _ dc ⟨vb, 0, none⟩ _ 1 [s, d] Tryd.underlying58 hI hz1 (by rw [show Nat.min 1 (cap + 1 - i) = 1 by simp only [Nat.min_def]; split <;> omega]; rfl)
      (fun j v hj => by
        rw [Addr.add_lit, Nat.zero_add, cell_of_row _ _ _ _ _ _ ((hO1 vb hvl).trans hvb)]
        simpa using hj)
      (fun j hj => some_of_heap hN _ (by simp at hj; omega)) (fun j hj => frozen_of_heap hN _) (by simp [hs, hd])
  obtain ⟨W2, HW2⟩ : ∃ W2, Hid (W2 = W1.setCells w.heap.size (i * 2) [s, d]) := ⟨W1.setCells w.heap.size (i * 2) [s, d], (rfl : _ = _)⟩
  have hN2 : W2.heap[w.heap.size]? = some (.cells (put ROW.toList (i * 2) [s, d]).toArray 99 (0, 0)) := by
    rw [HW2.out]; exact heap_setCells _ _ _ _ hN (by simp; omega)
  have hpl := put_len ROW.toList (i * 2) [s, d] (by rw [hrl]; simp; omega)
  have hO2 : ∀ k, k < w.heap.size → W2.heap[k]? = w.heap[k]? := fun k hk => by rw [HW2.out, setCells_other _ _ _ _ (by omega)]; exact hO1 k hk
  have hdl : (xs.drop (i * 2)).length = (cap - i) * 2 := by rw [List.length_drop, hxl]; omega
  have hcpB : ∀ ty dc sc, (Builtin.copy_ #[58, 58] ty #[.slice (some ⟨w.heap.size, (i + 1) * 2, none⟩) (cap - i) dc, .slice (some ⟨g, i * 2, none⟩) (cap - i) sc]).run Tryd.prog W2.drew = .ok (goInt (Nat.min (cap - i) (cap - i))) (W2.drew.setCells w.heap.size ((i + 1) * 2) (xs.drop (i * 2))) := fun ty dc sc =>
    run_copy_two W2.drew _ _ ty 99 I w.heap.size ((i + 1) * 2) _ dc ⟨g, i * 2, none⟩ _ sc (xs.drop (i * 2)) Tryd.underlying58 hI hz1 (by rw [hdl]; congr 1; simp only [Nat.min_def]; split <;> omega)
      (fun j v hj => by
        rw [Addr.add_lit, cell_of_row W2.drew _ _ _ _ _ ((hO2 g hgl).trans hg)]
        rw [← htk, List.getElem?_drop, List.getElem?_take] at hj
        split at hj
        · simpa using hj
        · simp at hj)
      (fun j hj => some_of_heap (w := W2.drew) hN2 _ (by rw [List.size_toArray, hpl, hrl]; omega)) (fun j hj => frozen_of_heap (w := W2.drew) hN2 _) (fun v hv => h1 v (List.mem_of_mem_drop hv))
  obtain ⟨W3, HW3⟩ : ∃ W3, Hid (W3 = W2.drew.setCells w.heap.size ((i + 1) * 2) (xs.drop (i * 2))) := ⟨W2.drew.setCells w.heap.size ((i + 1) * 2) (xs.drop (i * 2)), (rfl : _ = _)⟩
  have hN3 : W3.heap[w.heap.size]? = some (.cells (put (put ROW.toList (i * 2) [s, d]) ((i + 1) * 2) (xs.drop (i * 2))).toArray 99 (0, 0)) := by
    rw [HW3.out]; exact heap_setCells _ _ W2.drew (put ROW.toList (i * 2) [s, d]).toArray hN2 (by rw [List.size_toArray, hpl, hrl, hdl]; omega)
  have HE : Hid (W3.ownsRow 0 99 2 (.slice (some ⟨w.heap.size, 0, none⟩) (cap + 1) G) (cap + 1) (xs.take (i * 2) ++ [s, d] ++ xs.drop (i * 2)) ∧ w.grownBy W3 (some g)) := by
    refine ⟨own_of_heap hN3 hGn hGm ?_ ?_, ?_⟩
    · rw [List.size_toArray, put_len _ _ _ (by rw [hpl, hrl, hdl]; omega), hpl, hrl]
    · apply List.ext_getElem?
      intro j
      simp only
      rw [List.getElem?_take]
      split
      · rw [put_get _ _ _ (by rw [hpl, hrl, hdl]; omega), put_get _ _ _ (by rw [hrl]; simp; omega), hdl]
        by_cases c1 : j < i * 2
        · have e := congrArg (fun l => l[j]?) hRt
          simp only [List.getElem?_take, if_pos c1] at e
          rw [if_neg (by omega), if_neg (by omega), e, List.append_assoc, List.getElem?_append_left (by omega), List.getElem?_take, if_pos c1]
        · by_cases c2 : j < i * 2 + 2
          · rw [if_neg (by omega), if_pos (by simp; omega), List.append_assoc, List.getElem?_append_right (by omega), htl, List.getElem?_append_left (by simp; omega)]
          · rw [if_pos (by omega), List.getElem?_append_right (by simp; omega)]
            simp only [List.length_append, htl, List.length_cons, List.length_nil]
            congr 1
            omega
      · rw [List.getElem?_eq_none (by simp; omega)]
    · obtain ⟨a1, a2, a3, a4⟩ := setCells_same (b := w.heap.size) [s, d] (i * 2) W1
      obtain ⟨b1, b2, b3, b4⟩ := setCells_same (b := w.heap.size) (xs.drop (i * 2)) ((i + 1) * 2) W2.drew
      rw [← HW2.out] at a1 a2 a3 a4
      rw [← HW3.out] at b1 b2 b3 b4
      refine ⟨b1.trans (a1.trans hS1.os), b2.trans (a2.trans hS1.tape), b3.trans (a3.trans hS1.output), ?_, fun k hk _ => ?_⟩
      · have e : W2.drew.heap.size = W2.heap.size := rfl
        have := hS1.size
        omega
      · rw [HW3.out, setCells_other _ _ W2.drew _ (by omega)]
        exact hO2 k hk
  rw [← HW2.out] at hcpA
  rw [← HW3.out] at hcpB
  have hG63 : G ≤ 9223372036854775807 := hGm
  have hcap : cap ≤ 9223372036854775807 := by omega
  have hz2' : ¬ ((i : Int) = (cap : Int)) := by omega
  have hb2 : ¬ (G = i + 1) := by omega
  have hb4 : ¬ (cap = i) := by omega
  have hb7 : ¬ (G = i) := by omega
  have hb5 : (cap : Int) < (cap : Int) + 1 := by omega
  have hb6 : (i : Int) ≤ (cap : Int) := by omega
  have hw1 : IntKind.i64.wrap ((i : Int) + 1) = (i : Int) + 1 := by rw [IntKind.wrap_i64]; omega
  have hb1 : (0 : Int) ≤ (i : Int) + 1 := by omega
  have htn : ((i : Int) + 1).toNat = i + 1 := by omega
  have hin : i ≤ cap := by omega
  clear hroom hnc hcm hcs htk hxl hgl hvl htl hold hRs hRt hN hO1 hS1 hrl hN2 hpl hO2 hdl hN3 h h1 hg hvb hI hz0 hz1 hz2 hik hGm
  go_enter Tryd.func81, Tryd.ntmps81
  go_wp2_with (first
    | (at_builtin; refine Lib.wpList_append_run _ rfl _ _ _ _ rfl _ _ rfl rfl _ _ (hrz _) ?_)
    | (at_builtin; refine wpList_copy_run _ rfl _ _ 58 57 rfl _ _ rfl rfl (hcpA _ _) ?_))
  go_region_law (refine step_copy_run rfl (.tmp 50) (.tmp 53) 58 58 rfl _ _ (by simp [Act.eval, Act.put]; rfl) (by simp [Act.eval, Act.put]; rfl) (hcpB _ _ _) ?_)
  go_wp2
  go_ret
  exact ⟨_, rfl, HE.out.1, HE.out.2, rfl⟩

/-- slices.Insert of one file. -/
theorem insert_any (v : Value) (n i vb : Nat) (xs : List Value) (s d : Value) (w : World) (h : w.ownsRow 0 99 2 v n xs) (hi : i ≤ n) (hn : n ≤ 1000000000) (hvb : w.heap[vb]? = some (.cells #[s, d] 99 (0, 0))) (hne : v.ownBlock ≠ some vb) (hs : s.oneCell' = true) (hd : d.oneCell' = true) (h1 : ∀ u ∈ xs, u.oneCell' = true) :
    Calls Tryd.prog 81 #[v, .int .i64 i, .slice (some ⟨vb, 0, none⟩) 1 1] w fun e w' => ∃ v', e = .returned v' ∧ w'.ownsRow 0 99 2 v' (n + 1) (xs.take (i * 2) ++ [s, d] ++ xs.drop (i * 2)) ∧ w.grownBy w' v.ownBlock ∧ (v'.ownBlock = v.ownBlock ∨ v'.ownBlock = some w.heap.size) := by
  by_cases he : i = n
  · subst he
    have hxl : xs.length = i * 2 := h.1
    rw [List.take_of_length_le (by omega), List.drop_eq_nil_of_le (by omega), List.append_nil]
    exact insert_end v i vb xs s d w h hn hvb hs hd
  · rcases own_shape h with ⟨_, h0⟩ | ⟨g, cap, rfl, hc1, hc2, hc3⟩
    · omega
    · by_cases hr : n + 1 ≤ cap
      · refine (insert_shift g n cap i vb xs s d w h (by omega) hn hr hvb (fun e => hne (by rw [e]; rfl)) hs hd h1).mono ?_
        rintro e w' ⟨v', rfl, h2, h3, h4⟩
        exact ⟨v', rfl, h2, h3, Or.inl h4⟩
      · refine (insert_grow g n cap i vb xs s d w h (by omega) hn hr hvb hs hd h1).mono ?_
        rintro e w' ⟨v', rfl, h2, h3, h4⟩
        exact ⟨v', rfl, h2, h3, Or.inr h4⟩
end Go.Proofs.YtnbdkojdddplkaaDoor.Dk

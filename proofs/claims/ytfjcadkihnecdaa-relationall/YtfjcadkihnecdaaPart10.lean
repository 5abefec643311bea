/- The walks of slices.Insert and slices.Delete at files. The walks of slices.Insert in the middle, and slices.Delete, at files. The walk of slices.Insert in the middle without room; slices.Insert whole. The walk of split. -/
import Derived.Test.YtfjcadkihnecdaaPart01
import Derived.Test.YtfjcadkihnecdaaRows
import Derived.WalkKit
import Derived.BigQuiet
import Derived.Deep.RegionLaw
import Derived.Laws.Externs
import Derived.Lib.SliceRun
import Derived.Test.YtfjcadkihnecdaaPart02
import Derived.Test.YtfjcadkihnecdaaPart09
import Derived.Test.YtfjcadkihnecdaaPart06
namespace Go.Proofs.Ytfjcadkihnecdaa.P
open Go.RowKit

theorem Try.info65I : (Try.prog.info? 65).map (fun i => (i.zero, i.size, i.bytes)) = some (some (.slice none 0 0), 1, 24) := by kernel_rfl

set_option maxHeartbeats 1000000 in
theorem insert_end (v : Value) (n vb : Nat) (xs : List Value) (s : Value) (w : World) (h : w.ownsRow 0 65 1 v n xs) (hn : n ≤ 1000000000) (hvb : w.heap[vb]? = some (.cells #[s] 65 (0, 0))) (hs : s.oneCell' = true) :
    Calls Try.prog 46 #[v, .int .i64 n, .slice (some ⟨vb, 0, none⟩) 1 1] w fun e w' => ∃ v', e = .returned v' ∧ w'.ownsRow 0 65 1 v' (n + 1) (xs ++ [s]) ∧ w.grownBy w' v.ownBlock ∧ (v'.ownBlock = v.ownBlock ∨ v'.ownBlock = some w.heap.size) := by
  obtain ⟨i, hi, hz0, hz1, hz2⟩ := info_parts Try.info65I
  have hcell : ∀ j u, [s][j]? = some u → w.cell? ((⟨vb, 0, none⟩ : Addr).add j) = some u := by
    intro j u hj
    rw [Addr.add_lit, Nat.zero_add, cell_of_row w vb j _ 65 _ hvb]
    simpa using hj
  obtain ⟨v', w', hr, hO, hg, _, hat⟩ := run_append_own_at (P := Try.prog) w 0 43 43 65 i _ 1 24 Try.underlying43 hi hz0 hz1 hz2 rfl (by decide) v n xs h ⟨vb, 0, none⟩ 1 1 [s] rfl hcell (by simp [hs]) (by simp only [maxLen]; omega) (by omega) (Nat.zero_le _)
  have HX : Hid (w'.ownsRow 0 65 1 v' (n + 1) (xs ++ [s]) ∧ w.grownBy w' v.ownBlock ∧ (v'.ownBlock = v.ownBlock ∨ v'.ownBlock = some w.heap.size)) := ⟨hO, hg, hat⟩
  clear hO hg hat hcell
  rcases own_shape h with ⟨rfl, rfl⟩ | ⟨g, cap, rfl, hc1, hc2, hc3⟩
  · have hr' : ∀ ty, (Builtin.append_ #[43, 42] ty #[.slice none 0 0, .slice (some ⟨vb, 0, none⟩) 1 1]).run Try.prog w = .ok v' w' := fun ty => by
      rw [append_types w 43 65 ty 42 43 65 65 i _ _ _ _ Try.underlying43 hi Try.underlying42 Try.underlying43]
      exact hr
    clear h hr hi hz0 hz1 hz2
    go_enter Try.func46, Try.ntmps46
    go_wp2_with (at_builtin; refine Lib.wpList_append_run _ rfl _ _ _ _ rfl _ _ rfl rfl _ _ (hr' _) ?_)
    go_ret
    exact ⟨_, rfl, HX.out⟩
  · have hr' : ∀ ty, (Builtin.append_ #[43, 42] ty #[.slice (some ⟨g, 0, none⟩) n cap, .slice (some ⟨vb, 0, none⟩) 1 1]).run Try.prog w = .ok v' w' := fun ty => by
      rw [append_types w 43 65 ty 42 43 65 65 i _ _ _ _ Try.underlying43 hi Try.underlying42 Try.underlying43]
      exact hr
    have hc2' : cap ≤ 9223372036854775807 := hc2
    clear h hr hi hz0 hz1 hz2 hc2
    go_enter Try.func46, Try.ntmps46
    go_wp2_with (at_builtin; refine Lib.wpList_append_run _ rfl _ _ _ _ rfl _ _ rfl rfl _ _ (hr' _) ?_)
    all_goals go_ret
    all_goals exact ⟨_, rfl, HX.out⟩
end Go.Proofs.Ytfjcadkihnecdaa.P
namespace Go.Proofs.Ytfjcadkihnecdaa.P
open Go.RowKit

open K (wpList_copy_run step_copy_run shape_of_heap frozen_of_heap some_of_heap)

set_option maxHeartbeats 2000000 in
set_option maxRecDepth 20000 in
theorem insert_shift (g n cap i vb : Nat) (xs : List Value) (s : Value) (w : World) (h : w.ownsRow 0 65 1 (.slice (some ⟨g, 0, none⟩) n cap) n xs) (hi : i < n) (hn : n ≤ 1000000000) (hroom : n + 1 ≤ cap) (hvb : w.heap[vb]? = some (.cells #[s] 65 (0, 0))) (hne : vb ≠ g) (hs : s.oneCell' = true) (h1 : ∀ u ∈ xs, u.oneCell' = true) :
    Calls Try.prog 46 #[.slice (some ⟨g, 0, none⟩) n cap, .int .i64 i, .slice (some ⟨vb, 0, none⟩) 1 1] w fun e w' => ∃ v', e = .returned v' ∧ w'.ownsRow 0 65 1 v' (n + 1) (xs.take (i) ++ [s] ++ xs.drop (i)) ∧ w.grownBy w' (some g) ∧ v'.ownBlock = some g := by
  obtain ⟨I, hI, hz0, hz1, hz2⟩ := info_parts Try.info65I
  obtain ⟨cur, hg, hcm, hcs, htk⟩ : ∃ cur : Array Value, w.heap[g]? = some (.cells cur 65 (0, 0)) ∧ cap ≤ maxLen ∧ cur.size = cap ∧ cur.toList.take (n) = xs := by
    rcases h.2 with ⟨hv, _⟩ | ⟨g', cap', cur, e, _, hg, _, hc, hs, ht⟩
    · simp at hv
    · simp only [Value.slice.injEq, Option.some.injEq, Addr.mk.injEq, and_true, true_and] at e
      obtain ⟨rfl, rfl⟩ := e
      exact ⟨cur, hg, hc, by simpa using hs, by simpa using ht⟩
  have hxl : xs.length = n := by simpa using h.1
  have hcap : cap ≤ 9223372036854775807 := hcm
  have hgd : w.drew.heap[g]? = some (.cells cur 65 (0, 0)) := hg
  have hov : ∀ lb cb, (callFunc 49 #[.slice (some ⟨vb, 0, none⟩) 1 1, .slice (some ⟨g, (i + 1), none⟩) lb cb]).run Try.prog w = .ok (.value (.bool false)) w := fun lb cb => by
    rw [run_callFunc_extern Try.func49 (by kernel_rfl) (by kernel_rfl) (by kernel_rfl) (e := Extern.SlicesOverlaps.overlaps #[42, 42] #[4]) (by kernel_rfl),
      Lib.run_overlaps_apart w 42 4 65 Try.underlying42 1 (fun w => by simp [sizeOf, typeInfo, hI, hz1]) ⟨vb, 0, none⟩ ⟨g, (i + 1), none⟩ 1 1 lb cb hne 65 65 1 (cap) (by rw [shape_of_heap hvb]; rfl) (by rw [shape_of_heap hg, hcs]) (by omega) (frozen_of_heap hvb 0) (frozen_of_heap hvb 1)]
    rfl
  have hdl : (xs.drop (i)).length = (n - i) := by rw [List.length_drop, hxl]
  have hcp1 : ∀ ty dc sc, (Builtin.copy_ #[43, 43] ty #[.slice (some ⟨g, (i + 1), none⟩) (n - i) dc, .slice (some ⟨g, i, none⟩) (n + 1 - i) sc]).run Try.prog w.drew = .ok (goInt (Nat.min (n + 1 - i) (n - i))) (w.drew.setCells g ((i + 1)) (xs.drop (i))) := fun ty dc sc =>
    run_copy_sz w.drew _ _ ty 65 I g ((i + 1)) _ dc ⟨g, i, none⟩ _ sc (xs.drop (i)) Try.underlying43 hI hz1 (by rw [hdl]; congr 1; simp only [Nat.min_def]; split <;> omega)
      (fun j v hj => by
        rw [Addr.add_lit, cell_of_row _ _ _ _ _ _ hgd]
        rw [← htk, List.getElem?_drop, List.getElem?_take] at hj
        split at hj
        · simpa using hj
        · simp at hj)
      (fun j hj => some_of_heap hgd _ (by omega)) (fun j hj => frozen_of_heap hgd _) (fun v hv => h1 v (List.mem_of_mem_drop hv))
  obtain ⟨W1, HW1⟩ : ∃ W1, Hid (W1 = w.drew.setCells g ((i + 1)) (xs.drop (i))) := ⟨w.drew.setCells g ((i + 1)) (xs.drop (i)), (rfl : _ = _)⟩
  have hH1 : W1.heap[g]? = some (.cells (put cur.toList ((i + 1)) (xs.drop (i))).toArray 65 (0, 0)) := by
    rw [HW1.out]; exact heap_setCells _ _ _ _ hgd (by rw [hdl]; omega)
  have hcl : cur.toList.length = cap := by rw [Array.length_toList, hcs]
  have hpl := put_len cur.toList ((i + 1)) (xs.drop (i)) (by rw [hdl, hcl]; omega)
  have hvb1 : W1.heap[vb]? = some (.cells #[s] 65 (0, 0)) := by rw [HW1.out, setCells_other _ _ _ _ hne]; exact hvb
  have hcp2 : ∀ ty dc, (Builtin.copy_ #[43, 42] ty #[.slice (some ⟨g, i, none⟩) (n + 1 - i) dc, .slice (some ⟨vb, 0, none⟩) 1 1]).run Try.prog W1 = .ok (goInt (Nat.min 1 (n + 1 - i))) (W1.setCells g (i) [s]) := fun ty dc =>
    run_copy_sz W1 _ _ ty 65 I g (i) _ dc ⟨vb, 0, none⟩ _ 1 [s] Try.underlying43 hI hz1 (by rw [show Nat.min 1 (n + 1 - i) = 1 by simp only [Nat.min_def]; split <;> omega]; rfl)
      (fun j v hj => by
        rw [Addr.add_lit, Nat.zero_add, cell_of_row _ _ _ _ _ _ hvb1]
        simpa using hj)
      (fun j hj => some_of_heap hH1 _ (by simp at hj; rw [List.size_toArray, hpl, hcl]; omega)) (fun j hj => frozen_of_heap hH1 _) (by simp [hs])
  have HE : Hid ((W1.setCells g (i) [s]).ownsRow 0 65 1 (.slice (some ⟨g, 0, none⟩) (n + 1) cap) (n + 1) (xs.take (i) ++ [s] ++ xs.drop (i)) ∧ w.grownBy (W1.setCells g (i) [s]) (some g)) := by
    refine ⟨own_of_heap (heap_setCells _ _ _ _ hH1 (by rw [List.size_toArray, hpl, hcl]; simp; omega)) hroom hcm ?_ ?_, ?_⟩
    · rw [List.size_toArray, put_len _ _ _ (by simp only [hpl, hcl]; simp; omega)]
      simp only [hpl, hcl, Nat.mul_one]
    · apply List.ext_getElem?
      intro j
      have e1 : (xs.take (i)).length = i := by simp; omega
      simp only
      rw [List.getElem?_take]
      split
      · rw [put_get _ _ _ (by rw [hpl, hcl]; simp; omega)]
        by_cases c1 : j < i
        · rw [if_neg (by omega), put_get _ _ _ (by rw [hdl, hcl]; omega), if_neg (by omega), List.append_assoc, List.getElem?_append_left (by omega), List.getElem?_take, if_pos c1, ← htk, List.getElem?_take, if_pos (by omega)]
        · by_cases c2 : j < i + 1
          · rw [if_pos (by simp; omega), List.append_assoc, List.getElem?_append_right (by omega), e1, List.getElem?_append_left (by simp; omega)]
          · rw [if_neg (by simp; omega), put_get _ _ _ (by rw [hdl, hcl]; omega), if_pos (by rw [hdl]; omega), List.getElem?_append_right (by simp; omega)]
            simp only [List.length_append, e1, List.length_cons, List.length_nil]
      · rw [List.getElem?_eq_none (by simp; omega)]
    · have hgr := grown_drew_left (grown_setCells g (xs.drop (i)) ((i + 1)) w.drew)
      rw [← HW1.out] at hgr
      exact hgr.trans (grown_setCells g [s] (i) W1)
  rw [← HW1.out] at hcp1
  have hz2' : ¬ ((i : Int) = (n : Int)) := by omega
  have hb2 : ¬ (cap = i + 1) := by omega
  have hb3 : (i : Int) ≤ (n : Int) + 1 := by omega
  have hb4 : ¬ (cap = i) := by omega
  have hb5 : ¬ (cap : Int) < (n : Int) + 1 := by omega
  have hb6 : (i : Int) < (n : Int) := by omega
  have hnr : (n : Int) + 1 ≤ (cap : Int) := by omega
  have hw1 : IntKind.i64.wrap ((i : Int) + 1) = (i : Int) + 1 := by rw [IntKind.wrap_i64]; omega
  have hb1 : (0 : Int) ≤ (i : Int) + 1 := by omega
  have htn : ((i : Int) + 1).toNat = i + 1 := by omega
  have hin : i ≤ n := by omega
  clear hcs htk hdl hgd hH1 hpl hvb1 hcl h hxl hcm h1 hg hvb hI hz0 hz1 hz2
  go_enter Try.func46, Try.ntmps46
  go_wp2_with (simp only [hov])
  go_region_law (refine step_copy_run rfl (.tmp 73) (.tmp 76) 43 43 rfl _ _ (by simp [Act.eval, Act.put]; rfl) (by simp [Act.eval, Act.put]; rfl) (hcp1 _ _ _) ?_)
  go_wp2_with (at_builtin; refine wpList_copy_run _ rfl _ _ 43 42 rfl _ _ rfl rfl (hcp2 _ _) ?_)
  go_ret
  exact ⟨_, rfl, HE.out.1, HE.out.2, rfl⟩
end Go.Proofs.Ytfjcadkihnecdaa.P
namespace Go.Proofs.Ytfjcadkihnecdaa.P
open Go.RowKit
open K (wpList_copy_run step_copy_run shape_of_heap frozen_of_heap some_of_heap)

set_option maxHeartbeats 2000000 in
set_option maxRecDepth 20000 in
theorem insert_grow (g n cap i vb : Nat) (xs : List Value) (s : Value) (w : World) (h : w.ownsRow 0 65 1 (.slice (some ⟨g, 0, none⟩) n cap) n xs) (hi : i < n) (hn : n ≤ 1000000000) (hroom : ¬ n + 1 ≤ cap) (hvb : w.heap[vb]? = some (.cells #[s] 65 (0, 0))) (hs : s.oneCell' = true) (h1 : ∀ u ∈ xs, u.oneCell' = true) :
    Calls Try.prog 46 #[.slice (some ⟨g, 0, none⟩) n cap, .int .i64 i, .slice (some ⟨vb, 0, none⟩) 1 1] w fun e w' => ∃ v', e = .returned v' ∧ w'.ownsRow 0 65 1 v' (n + 1) (xs.take (i) ++ [s] ++ xs.drop (i)) ∧ w.grownBy w' (some g) ∧ v'.ownBlock = some w.heap.size := by
  obtain ⟨I, hI, hz0, hz1, hz2⟩ := info_parts Try.info65I
  obtain ⟨cur, hg, hnc, hcm, hcs, htk⟩ : ∃ cur : Array Value, w.heap[g]? = some (.cells cur 65 (0, 0)) ∧ n ≤ cap ∧ cap ≤ maxLen ∧ cur.size = cap ∧ cur.toList.take (n) = xs := by
    rcases h.2 with ⟨hv, _⟩ | ⟨g', cap', cur, e, _, hg, hn, hc, hs, ht⟩
    · simp at hv
    · simp only [Value.slice.injEq, Option.some.injEq, Addr.mk.injEq, and_true, true_and] at e
      obtain ⟨rfl, rfl⟩ := e
      exact ⟨cur, hg, hn, hc, by simpa using hs, by simpa using ht⟩
  have hcn : cap = n := by omega
  subst hcn
  have hxl : xs.length = cap := by simpa using h.1
  have hgl : g < w.heap.size := (Array.getElem?_eq_some_iff.1 hg).1
  have hvl : vb < w.heap.size := (Array.getElem?_eq_some_iff.1 hvb).1
  have htl : (xs.take (i)).length = i := by rw [List.length_take, hxl]; omega
  have hold : (Builtin.firstCells I.size i (.slice (some ⟨g, 0, none⟩) i cap)).run Try.prog w.drew = .ok (xs.take (i)).toArray w.drew := by
    rw [hz1]
    exact run_firstCells_some w.drew 1 i ⟨g, 0, none⟩ i cap (xs.take (i)) (by rw [htl, Nat.mul_one]) (fun j v hj => by
      rw [Addr.add_lit, Nat.zero_add, cell_of_row w.drew _ _ _ _ _ hg]
      rw [← htk, List.getElem?_take] at hj
      split at hj
      · rw [List.getElem?_take] at hj
        split at hj
        · simpa using hj
        · simp at hj
      · simp at hj)
  obtain ⟨G, HG⟩ : ∃ G, Hid (G = grownCap w (cap + 1) cap 65) := ⟨grownCap w (cap + 1) cap 65, (rfl : _ = _)⟩
  have hGn : cap + 1 ≤ G := by rw [HG.out]; exact grownCap_ge w _ _ _
  have hGm : G ≤ maxLen := by rw [HG.out]; exact grownCap_le_maxLen w (cap + 1) cap 65 (by unfold maxLen; omega)
  obtain ⟨ROW, HROW⟩ : ∃ ROW : Array Value, Hid (ROW = (xs.take (i)).toArray ++ Builtin.zeroCells (Value.slice none 0 0).cells (cap + 1 - i) ++ Builtin.zeroCells (Value.slice none 0 0).cells (G - (cap + 1))) := ⟨_, (rfl : _ = _)⟩
  obtain ⟨W1, HW1⟩ : ∃ W1, Hid (W1 = w.drew.alloc (.cells ROW 65)) := ⟨w.drew.alloc (.cells ROW 65), (rfl : _ = _)⟩
  have hik : i + (cap + 1 - i) = cap + 1 := by omega
  have hrz : ∀ ty, (Builtin.append_ #[43, 3] ty #[.slice (some ⟨g, 0, none⟩) i cap, .int .i64 ((cap : Int) + 1 - (i : Int))]).run Try.prog w = .ok (.slice (some ⟨w.heap.size, 0, none⟩) (cap + 1) G) W1 := fun ty => by
    have h := Lib.run_append_grow_zeros w 43 3 ty 65 I _ .i64 .i64 Try.underlying43 Try.underlying3 hI hz0 (some ⟨g, 0, none⟩) i cap (xs.take (i)) hold (cap + 1 - i) (by omega) (by omega) (by omega) (by omega) (by rw [hz2]; omega) (by rw [hz2, hik]; exact growslice_fits (by omega) (by omega))
    rw [hik] at h
    rw [show (cap : Int) + 1 - (i : Int) = ((cap + 1 - i : Nat) : Int) by omega, h, HW1.out, HROW.out, HG.out]
  have hRs : ROW.size = G := by
    have e1 : (Value.slice none 0 0).cells.size = 1 := rfl
    rw [HROW.out, Array.size_append, Array.size_append, size_zeroCells, size_zeroCells, List.size_toArray, htl, e1]
    omega
  have hRt : ROW.toList.take (i) = xs.take (i) := by
    rw [HROW.out, Array.toList_append, Array.toList_append, List.append_assoc]
    have := List.take_left (l₁ := xs.take (i)) (l₂ := (Builtin.zeroCells (Value.slice none 0 0).cells (cap + 1 - i)).toList ++ (Builtin.zeroCells (Value.slice none 0 0).cells (G - (cap + 1))).toList)
    rw [htl] at this
    exact this
  have hN : W1.heap[w.heap.size]? = some (.cells ROW 65 (0, 0)) := by rw [HW1.out]; exact heap_alloc_new w.drew _
  have hO1 : ∀ k, k < w.heap.size → W1.heap[k]? = w.heap[k]? := fun k hk => by rw [HW1.out]; exact Below.heap_alloc w.drew _ k hk
  have hS1 : w.grownBy W1 (some g) := by rw [HW1.out]; exact grown_drew_left (World.grownBy_alloc w.drew _ _)
  have hrl : ROW.toList.length = G := by rw [Array.length_toList, hRs]
  have hcpA : ∀ ty dc, (Builtin.copy_ #[43, 42] ty #[.slice (some ⟨w.heap.size, i, none⟩) (cap + 1 - i) dc, .slice (some ⟨vb, 0, none⟩) 1 1]).run Try.prog W1 = .ok (goInt (Nat.min 1 (cap + 1 - i))) (W1.setCells w.heap.size (i) [s]) := fun ty dc =>
    run_copy_sz W1 _ _ ty 65 I w.heap.size (i) _ dc ⟨vb, 0, none⟩ _ 1 [s] Try.underlying43 hI hz1 (by rw [show Nat.min 1 (cap + 1 - i) = 1 by simp only [Nat.min_def]; split <;> omega]; rfl)
      (fun j v hj => by
        rw [Addr.add_lit, Nat.zero_add, cell_of_row _ _ _ _ _ _ ((hO1 vb hvl).trans hvb)]
        simpa using hj)
      (fun j hj => some_of_heap hN _ (by simp at hj; omega)) (fun j hj => frozen_of_heap hN _) (by simp [hs])
  obtain ⟨W2, HW2⟩ : ∃ W2, Hid (W2 = W1.setCells w.heap.size (i) [s]) := ⟨W1.setCells w.heap.size (i) [s], (rfl : _ = _)⟩
  have hN2 : W2.heap[w.heap.size]? = some (.cells (put ROW.toList (i) [s]).toArray 65 (0, 0)) := by
    rw [HW2.out]; exact heap_setCells _ _ _ _ hN (by simp; omega)
  have hpl := put_len ROW.toList (i) [s] (by rw [hrl]; simp; omega)
  have hO2 : ∀ k, k < w.heap.size → W2.heap[k]? = w.heap[k]? := fun k hk => by rw [HW2.out, setCells_other _ _ _ _ (by omega)]; exact hO1 k hk
  have hdl : (xs.drop (i)).length = (cap - i) := by rw [List.length_drop, hxl]
  have hcpB : ∀ ty dc sc, (Builtin.copy_ #[43, 43] ty #[.slice (some ⟨w.heap.size, (i + 1), none⟩) (cap - i) dc, .slice (some ⟨g, i, none⟩) (cap - i) sc]).run Try.prog W2.drew = .ok (goInt (Nat.min (cap - i) (cap - i))) (W2.drew.setCells w.heap.size ((i + 1)) (xs.drop (i))) := fun ty dc sc =>
    run_copy_sz W2.drew _ _ ty 65 I w.heap.size ((i + 1)) _ dc ⟨g, i, none⟩ _ sc (xs.drop (i)) Try.underlying43 hI hz1 (by rw [hdl]; congr 1; simp only [Nat.min_def]; split <;> omega)
      (fun j v hj => by
        rw [Addr.add_lit, cell_of_row W2.drew _ _ _ _ _ ((hO2 g hgl).trans hg)]
        rw [← htk, List.getElem?_drop, List.getElem?_take] at hj
        split at hj
        · simpa using hj
        · simp at hj)
      (fun j hj => some_of_heap (w := W2.drew) hN2 _ (by rw [List.size_toArray, hpl, hrl]; omega)) (fun j hj => frozen_of_heap (w := W2.drew) hN2 _) (fun v hv => h1 v (List.mem_of_mem_drop hv))
  obtain ⟨W3, HW3⟩ : ∃ W3, Hid (W3 = W2.drew.setCells w.heap.size ((i + 1)) (xs.drop (i))) := ⟨W2.drew.setCells w.heap.size ((i + 1)) (xs.drop (i)), (rfl : _ = _)⟩
  have hN3 : W3.heap[w.heap.size]? = some (.cells (put (put ROW.toList (i) [s]) ((i + 1)) (xs.drop (i))).toArray 65 (0, 0)) := by
    rw [HW3.out]; exact heap_setCells _ _ W2.drew (put ROW.toList (i) [s]).toArray hN2 (by rw [List.size_toArray, hpl, hrl, hdl]; omega)
  have HE : Hid (W3.ownsRow 0 65 1 (.slice (some ⟨w.heap.size, 0, none⟩) (cap + 1) G) (cap + 1) (xs.take (i) ++ [s] ++ xs.drop (i)) ∧ w.grownBy W3 (some g)) := by
    refine ⟨own_of_heap hN3 hGn hGm ?_ ?_, ?_⟩
    · rw [List.size_toArray, put_len _ _ _ (by rw [hpl, hrl, hdl]; omega), hpl, hrl, Nat.mul_one]
    · apply List.ext_getElem?
      intro j
      simp only
      rw [List.getElem?_take]
      split
      · rw [put_get _ _ _ (by rw [hpl, hrl, hdl]; omega), put_get _ _ _ (by rw [hrl]; simp; omega), hdl]
        by_cases c1 : j < i
        · have e := congrArg (fun l => l[j]?) hRt
          simp only [List.getElem?_take, if_pos c1] at e
          rw [if_neg (by omega), if_neg (by omega), e, List.append_assoc, List.getElem?_append_left (by omega), List.getElem?_take, if_pos c1]
        · by_cases c2 : j < i + 1
          · rw [if_neg (by omega), if_pos (by simp; omega), List.append_assoc, List.getElem?_append_right (by omega), htl, List.getElem?_append_left (by simp; omega)]
          · rw [if_pos (by omega), List.getElem?_append_right (by simp; omega)]
            simp only [List.length_append, htl, List.length_cons, List.length_nil]
      · rw [List.getElem?_eq_none (by simp; omega)]
    · obtain ⟨a1, a2, a3, a4⟩ := setCells_same (b := w.heap.size) [s] (i) W1
      obtain ⟨b1, b2, b3, b4⟩ := setCells_same (b := w.heap.size) (xs.drop (i)) ((i + 1)) W2.drew
      rw [← HW2.out] at a1 a2 a3 a4
      rw [← HW3.out] at b1 b2 b3 b4
      refine ⟨b1.trans (a1.trans hS1.os), b2.trans (a2.trans hS1.tape), b3.trans (a3.trans hS1.output), ?_, fun k hk _ => ?_⟩
      · have e : W2.drew.heap.size = W2.heap.size := rfl
        have := hS1.size
        omega
      · rw [HW3.out, setCells_other _ _ W2.drew _ (by omega)]
        exact hO2 k hk
  rw [← HW2.out] at hcpA
  rw [← HW3.out] at hcpB
  have hG63 : G ≤ 9223372036854775807 := hGm
  have hcap : cap ≤ 9223372036854775807 := by omega
  have hz2' : ¬ ((i : Int) = (cap : Int)) := by omega
  have hb2 : ¬ (G = i + 1) := by omega
  have hb4 : ¬ (cap = i) := by omega
  have hb7 : ¬ (G = i) := by omega
  have hb5 : (cap : Int) < (cap : Int) + 1 := by omega
  have hb6 : (i : Int) ≤ (cap : Int) := by omega
  have hw1 : IntKind.i64.wrap ((i : Int) + 1) = (i : Int) + 1 := by rw [IntKind.wrap_i64]; omega
  have hb1 : (0 : Int) ≤ (i : Int) + 1 := by omega
  have htn : ((i : Int) + 1).toNat = i + 1 := by omega
  have hin : i ≤ cap := by omega
  clear hroom hnc hcm hcs htk hxl hgl hvl htl hold hRs hRt hN hO1 hS1 hrl hN2 hpl hO2 hdl hN3 h h1 hg hvb hI hz0 hz1 hz2 hik hGm
  go_enter Try.func46, Try.ntmps46
  go_wp2_with (first
    | (at_builtin; refine Lib.wpList_append_run _ rfl _ _ _ _ rfl _ _ rfl rfl _ _ (hrz _) ?_)
    | (at_builtin; refine wpList_copy_run _ rfl _ _ 43 42 rfl _ _ rfl rfl (hcpA _ _) ?_))
  go_region_law (refine step_copy_run rfl (.tmp 50) (.tmp 53) 43 43 rfl _ _ (by simp [Act.eval, Act.put]; rfl) (by simp [Act.eval, Act.put]; rfl) (hcpB _ _ _) ?_)
  go_wp2
  go_ret
  exact ⟨_, rfl, HE.out.1, HE.out.2, rfl⟩

/-- slices.Insert of one file. -/
theorem insert_any (v : Value) (n i vb : Nat) (xs : List Value) (s : Value) (w : World) (h : w.ownsRow 0 65 1 v n xs) (hi : i ≤ n) (hn : n ≤ 1000000000) (hvb : w.heap[vb]? = some (.cells #[s] 65 (0, 0))) (hne : v.ownBlock ≠ some vb) (hs : s.oneCell' = true) (h1 : ∀ u ∈ xs, u.oneCell' = true) :
    Calls Try.prog 46 #[v, .int .i64 i, .slice (some ⟨vb, 0, none⟩) 1 1] w fun e w' => ∃ v', e = .returned v' ∧ w'.ownsRow 0 65 1 v' (n + 1) (xs.take (i) ++ [s] ++ xs.drop (i)) ∧ w.grownBy w' v.ownBlock ∧ (v'.ownBlock = v.ownBlock ∨ v'.ownBlock = some w.heap.size) := by
  by_cases he : i = n
  · subst he
    have hxl : xs.length = i := by simpa using h.1
    rw [List.take_of_length_le (by omega), List.drop_eq_nil_of_le (by omega), List.append_nil]
    exact insert_end v i vb xs s w h hn hvb hs
  · rcases own_shape h with ⟨_, h0⟩ | ⟨g, cap, rfl, hc1, hc2, hc3⟩
    · omega
    · by_cases hr : n + 1 ≤ cap
      · refine (insert_shift g n cap i vb xs s w h (by omega) hn hr hvb (fun e => hne (by rw [e]; rfl)) hs h1).mono ?_
        rintro e w' ⟨v', rfl, h2, h3, h4⟩
        exact ⟨v', rfl, h2, h3, Or.inl h4⟩
      · refine (insert_grow g n cap i vb xs s w h (by omega) hn hr hvb hs h1).mono ?_
        rintro e w' ⟨v', rfl, h2, h3, h4⟩
        exact ⟨v', rfl, h2, h3, Or.inr h4⟩
end Go.Proofs.Ytfjcadkihnecdaa.P
namespace Go.Proofs.Ytfjcadkihnecdaa
open Go.RowKit

theorem own_front {w : World} {b g n cap h : Nat} {ks : List Ky} (ho : w.ownsRow b 47 4 (.slice (some ⟨g, 0, none⟩) n cap) n (cellsK ks)) (hn : n = ks.length) (hh : h ≤ n) : w.ownsRow b 47 4 (.slice (some ⟨g, 0, none⟩) h cap) (ks.take h).length (cellsK (ks.take h)) := by
  have hl : (ks.take h).length = h := by rw [List.length_take]; omega
  rw [hl]
  rcases ho.2 with ⟨hv, _⟩ | ⟨g', cap', cur, e, hb, hg, h1, h2, h3, h4⟩
  · simp at hv
  · simp only [Value.slice.injEq, Option.some.injEq, Addr.mk.injEq, and_true, true_and] at e
    obtain ⟨rfl, rfl⟩ := e
    refine ⟨by rw [cellsK_len, hl], .inr ⟨g, cap, cur, rfl, hb, hg, by omega, h2, h3, ?_⟩⟩
    have e1 : cellsK (ks.take h) = (cellsK ks).take (h * 4) := by
      have := cellsK_take (ks.take h) (ks.drop h)
      rw [List.take_append_drop, hl] at this
      exact this.symm
    rw [e1, ← h4, List.take_take, Nat.min_eq_left (by omega)]
theorem ks_behind {w : World} {g n cap h : Nat} {ks : List Ky} (hk : Ks w (.slice (some ⟨g, 0, none⟩) n cap) ks) (hh : h < n) : Ks w (.slice (some ⟨g, h * 4, none⟩) (n - h) (cap - h)) (ks.drop h) := by
  obtain ⟨ao, cap', e, h1, h2, h4⟩ := hk
  simp only [Value.slice.injEq] at e
  obtain ⟨rfl, rfl, rfl⟩ := e
  have hl : (ks.drop h).length = ks.length - h := by simp
  refine ⟨_, cap - h, by rw [hl], by omega, by omega, fun _ => ⟨g, h * 4, rfl, fun j hj => ?_⟩⟩
  obtain ⟨g', off, e, hc⟩ := h4 (by omega)
  simp only [Option.some.injEq, Addr.mk.injEq, and_true] at e
  obtain ⟨rfl, rfl⟩ := e
  have hj2 : h + j < ks.length := by omega
  have := hc (h + j) hj2
  rw [Nat.zero_add, Nat.add_mul] at this
  rw [List.getElem_drop]
  exact this

/-- The second half comes in behind the first. -/
theorem split_end {w W2 w6 : World} {p wd : Nat} {v : Value} {A : List Pg} {z : Pg} {T : List Pg} {d1 : Value} {k1 k2 : List Ky} (hB : Bx w p 45 #[.int .i64 (wd : Int), v]) (h : Pgs w v (A ++ z :: T)) (hne : ∀ x ∈ A ++ z :: T, x.ks ≠ []) (hl : (A ++ z :: T).length ≤ 1000000000) (hks : z.ks = k1 ++ k2) (h1 : k1 ≠ []) (h2 : k2 ≠ []) (hd1 : d1.ownBlock = z.dv.ownBlock)
    (hP2 : Pgs W2 v (A ++ ⟨d1, k1⟩ :: T)) (hf2 : Fr (foot v (A ++ z :: T)) w W2) (hb6 : Below W2.heap.size W2 w6) {g6 n6 c6 : Nat} (hge : W2.heap.size ≤ g6) (hO : w6.ownsRow W2.heap.size 47 4 (.slice (some ⟨g6, 0, none⟩) n6 c6) k2.length (cellsK k2)) :
    Calls Try.prog 46 #[v, .int .i64 ((A.length : Int) + 1), .slice (some ⟨w6.heap.size, 0, none⟩) 1 1] (w6.alloc (.cells #[.slice (some ⟨g6, 0, none⟩) n6 c6] 65)) fun e w' => ∃ v', e = .returned v' ∧ (∃ ao L cap, v' = .slice ao L cap) ∧ Bx w' p 45 #[.int .i64 (wd : Int), v] ∧ Chg w (w'.setCell ⟨p, 1, none⟩ v') p wd v (A ++ z :: T) (keys (A ++ z :: T)) := by
  have hs2 := hf2.size
  have hs6 := hb6.size
  have hbA : Below W2.heap.size W2 (w6.alloc (.cells #[.slice (some ⟨g6, 0, none⟩) n6 c6] 65)) := hb6.trans ((below_box w6 _).mono hb6.size)
  have hvb := Bx.new w6 #[.slice (some ⟨g6, 0, none⟩) n6 c6] 65
  have hOA : (w6.alloc (.cells #[.slice (some ⟨g6, 0, none⟩) n6 c6] 65)).ownsRow W2.heap.size 47 4 (.slice (some ⟨g6, 0, none⟩) n6 c6) k2.length (cellsK k2) := own_kept (F := fun _ => False) hO (Fr.of_below (below_box w6 _)) (fun _ _ => id)
  have hPA := hP2.below hbA
  generalize w6.alloc (.cells #[.slice (some ⟨g6, 0, none⟩) n6 c6] 65) = WA at *
  have hlen : (A ++ (⟨d1, k1⟩ : Pg) :: T).length = (A ++ z :: T).length := by simp
  have hne2 : v.ownBlock ≠ some w6.heap.size := fun e => by
    have := hP2.lt (.inl e)
    omega
  have key := P.insert_any v (A ++ (⟨d1, k1⟩ : Pg) :: T).length (A.length + 1) w6.heap.size (dvs (A ++ ⟨d1, k1⟩ :: T)) (.slice (some ⟨g6, 0, none⟩) n6 c6) WA hPA.row (by simp) (by rw [hlen]; omega) hvb hne2 rfl (fun u hu => by
    obtain ⟨x, hx, rfl⟩ := List.mem_map.1 hu
    exact own_one (hPA.data x hx))
  rw [show ((A.length + 1 : Nat) : Int) = (A.length : Int) + 1 by omega] at key
  refine key.mono ?_
  rintro e w' ⟨v', rfl, hR, hg, hat⟩
  have hap : ∀ x ∈ A ++ (⟨d1, k1⟩ : Pg) :: T, Apart x ⟨.slice (some ⟨g6, 0, none⟩) n6 c6, k2⟩ := fun x hx k hk => by
    have := hP2.lt (.inr ⟨x, hx, hk⟩)
    simp only [Value.ownBlock]
    intro e
    cases e
    omega
  have e1 : A ++ (⟨d1, k1⟩ : Pg) :: T = (A ++ [⟨d1, k1⟩]) ++ T := by simp
  have hl1 : (A ++ [(⟨d1, k1⟩ : Pg)]).length = A.length + 1 := by simp
  rw [e1] at hPA hR hap
  rw [← hl1] at hR
  have hins := Pgs.inserted hPA (.slice (some ⟨g6, 0, none⟩) n6 c6) k2 hR hg (own_zero hOA) hap
  have hfW : Fr (foot v (A ++ z :: T)) w w' := (hf2.trans (G := fun _ => False) (Fr.of_below hbA) (fun _ _ h => h.elim)).trans (G := fun k => v.ownBlock = some k) (Fr.of_grown hg (fun k e => e)) (fun x _ e => .inl e)
  refine ⟨v', rfl, own_slice hR, hB.fr hfW (foot_ne h hB), Chg.store hB h hfW hins ?_ (fun x hx => ?_) (fun k hk => ?_)⟩
  · simp [keys, hks]
  · rcases List.mem_append.1 hx with hx | hx
    · rcases List.mem_append.1 hx with hx | hx
      · exact hne x (by simp [hx])
      · simp at hx; subst hx; exact h1
    · rcases List.mem_cons.1 hx with rfl | hx
      · exact h2
      · exact hne x (by simp [hx])
  · rcases hk with hk | ⟨x, hx, hk⟩
    · rcases hat with hat | hat
      · exact .inl (.inl (by rw [← hat]; exact hk))
      · rw [hk] at hat
        cases hat
        have := hbA.size
        exact .inr (by omega)
    · rcases List.mem_append.1 hx with hx | hx
      · rcases List.mem_append.1 hx with hx | hx
        · exact .inl (.inr ⟨x, by simp [hx], hk⟩)
        · simp at hx; subst hx; exact .inl (.inr ⟨z, by simp, by rw [← hd1]; exact hk⟩)
      · rcases List.mem_cons.1 hx with rfl | hx
        · simp [Value.ownBlock] at hk
          exact .inr (by omega)
        · exact .inl (.inr ⟨x, by simp [hx], hk⟩)

set_option maxHeartbeats 3200000 in
theorem split_any : Spl := by
  intro W p wd v A z T hB h hne hl h2 hkl
  have hzin : z ∈ A ++ z :: T := by simp
  obtain ⟨g, cap, rfl, cz⟩ := h.at_cell (Below.refl _ W)
  obtain ⟨g2, cap2, hzv⟩ : ∃ g2 cap2, z.dv = .slice (some ⟨g2, 0, none⟩) z.ks.length cap2 := by
    rcases own_shape (h.data z hzin) with ⟨_, h0⟩ | ⟨g2, cap2, e, _⟩
    · omega
    · exact ⟨g2, cap2, e⟩
  have hk := Ks.of_own (h.data z hzin)
  have hown := h.data z hzin
  rw [hzv] at cz hk hown
  obtain ⟨hf, hhf⟩ : ∃ hf, hf = z.ks.length / 2 := ⟨_, rfl⟩
  have hf1 : 1 ≤ hf := by omega
  have hf2 : hf < z.ks.length := by omega
  have hd := own_front (h := hf) hown rfl (by omega)
  have hkb : ∀ X, Ks X (.slice (some ⟨g2, 0, none⟩) z.ks.length cap2) z.ks → Ks X (.slice (some ⟨g2, hf * 4, none⟩) (z.ks.length - hf) (cap2 - hf)) (z.ks.drop hf) := fun X hX => ks_behind hX hf2
  obtain ⟨hP2, hfr2, _, hfz⟩ := h.put (.slice (some ⟨g2, 0, none⟩) hf cap2) (z.ks.take hf) hd (grown_refl _ _) (.inl (by rw [hzv]; rfl))
  have hB2 := hB.fr hfr2 (foot_ne h hB)
  have hz2 : Ks (W.setCell ⟨g, A.length, none⟩ (.slice (some ⟨g2, 0, none⟩) hf cap2)) (.slice (some ⟨g2, 0, none⟩) z.ks.length cap2) z.ks := by
    have hgg : g2 ≠ g := fun e => own_ne h.row (h.data z hzin) (by decide) rfl (by rw [hzv, e]; rfl)
    exact Ks.of_own (own_kept hown (Fr.one W g A.length _) (fun k hk e => hgg (by simp [Value.ownBlock] at hk; omega)))
  have hln : 0 < (z.ks.drop hf).length := by rw [List.length_drop]; omega
  have hcap2 : hf ≠ cap2 ∧ cap2 ≤ maxLen ∧ z.ks.length ≤ cap2 := by
    rcases own_shape hown with ⟨e, _⟩ | ⟨_, _, e, a1, a2, _⟩
    · simp at e
    · simp only [Value.slice.injEq] at e
      obtain ⟨_, _, rfl⟩ := e
      exact ⟨by omega, a2, a1⟩
  have HCL : Hid (∀ X, Below (W.setCell ⟨g, A.length, none⟩ (.slice (some ⟨g2, 0, none⟩) hf cap2)).heap.size (W.setCell ⟨g, A.length, none⟩ (.slice (some ⟨g2, 0, none⟩) hf cap2)) X → _) := fun X hX => cloneK ⟨g2, hf * 4, none⟩ (z.ks.length - hf) (cap2 - hf) (z.ks.drop hf) X (hkb X (hz2.below hX)) hln (by rw [List.length_drop]; omega)
  have HEND : Hid (∀ (w6 : World) (X : World) (g6 c6 : Nat), Below (W.setCell ⟨g, A.length, none⟩ (.slice (some ⟨g2, 0, none⟩) hf cap2)).heap.size (W.setCell ⟨g, A.length, none⟩ (.slice (some ⟨g2, 0, none⟩) hf cap2)) X → Below X.heap.size X w6 → X.heap.size ≤ g6 → w6.ownsRow X.heap.size 47 4 (.slice (some ⟨g6, 0, none⟩) (z.ks.drop hf).length c6) (z.ks.drop hf).length (cellsK (z.ks.drop hf)) → _) := fun w6 X g6 c6 hX hb6 hge hO =>
    split_end (W2 := X) (d1 := .slice (some ⟨g2, 0, none⟩) hf cap2) (k1 := z.ks.take hf) (k2 := z.ks.drop hf) (n6 := (z.ks.drop hf).length) (c6 := c6) hB h hne hl (List.take_append_drop hf z.ks).symm (fun e => by have := congrArg List.length e; rw [List.length_take, List.length_nil] at this; omega) (fun e => by rw [e] at hln; simp at hln) (by rw [hzv]; rfl) (hP2.below hX) (hfr2.trans (G := fun _ => False) (Fr.of_below hX) (fun _ _ h => h.elim)) hb6 hge hO
  have hgp : g ≠ p := fun e => own_type_ne h.row hB (by decide) (by rw [← e]; rfl)
  have c1 := hB.c 1
  have HB2 := hide hB2
  simp at c1
  obtain ⟨zv, zk⟩ := z
  simp only at hzv
  subst hzv
  simp only at hf1 hf2 hkl hcap2 HCL HEND hhf
  have hkd0 : (zk.drop hf).length = zk.length - hf := by simp
  generalize zk.drop hf = kd at *
  clear hk hown hd hkb hP2 hfr2 hz2 hB2 hB h hne hln
  have hA : A.length + (T.length + 1) ≤ 1000000000 := by simpa using hl
  generalize keys (A ++ ⟨.slice (some ⟨g2, 0, none⟩) zk.length cap2, zk⟩ :: T) = LK at *
  generalize zk.length = m at *
  rw [hkd0] at HCL HEND
  have HHF : Hid (hf = m / 2) := hhf
  have hqI : (m : Int).tdiv 2 = (hf : Int) := by rw [Int.tdiv_eq_ediv_of_nonneg (by omega)]; omega
  have hqI2 : (m : Int) / 2 = (hf : Int) := by omega
  generalize A.length = n at *
  obtain ⟨N, hN⟩ : ∃ N, n + (T.length + 1) = N := ⟨_, rfl⟩
  rw [hN] at HEND HB2 c1 hA ⊢
  have hnN : n < N := by omega
  have hnNI : (n : Int) < (N : Int) := by omega
  have hfI : (hf : Int) ≤ (m : Int) := by omega
  have hmcI : (m : Int) ≤ (cap2 : Int) := by omega
  have hfcI : (hf : Int) ≤ (cap2 : Int) := by omega
  have hfc : ¬ cap2 = hf := by omega
  have hc63 : cap2 ≤ 9223372036854775807 := hcap2.2.1
  have hwn : IntKind.i64.wrap ((n : Int) + 1) = (n : Int) + 1 := by rw [IntKind.wrap_i64]; omega
  clear hN hhf hkd0 hl hcap2
  have HM : Hid (W.drew.cell? ⟨p, 1, none⟩ = some (.slice (some ⟨g, 0, none⟩) N cap)) := c1
  have HM2 : Hid ((W.setCell ⟨g, n, none⟩ (.slice (some ⟨g2, 0, none⟩) hf cap2)).drew.cell? ⟨p, 1, none⟩ = some (.slice (some ⟨g, 0, none⟩) N cap)) := cell_set_ne c1 (fun e => hgp e.symm)
  go_enter Try.func37, Try.ntmps37
  go_wp2_with fail
  refine wp_region_noPanic ?_
  go_region_held (fun w' => w'.cell? ⟨p, 1, none⟩ = some (.slice (some ⟨g, 0, none⟩) N cap)) (first | with_reducible exact HM.out | with_reducible exact HM2.out) (fail)
  refine NoPanic.normal ?_
  have HW3 : Hid (Below (W.setCell ⟨g, n, none⟩ (.slice (some ⟨g2, 0, none⟩) hf cap2)).heap.size (W.setCell ⟨g, n, none⟩ (.slice (some ⟨g2, 0, none⟩) hf cap2)) (W.setCell ⟨g, n, none⟩ (.slice (some ⟨g2, 0, none⟩) hf cap2)).drew) := (Below.refl _ _).drew
  have c3 := HM2.out
  clear c1 cz hfz
  generalize (W.setCell ⟨g, n, none⟩ (.slice (some ⟨g2, 0, none⟩) hf cap2)).drew = W3 at *
  have HCL3 := hide (HCL.out W3.drew HW3.out.drew)
  have HE3 := hide (fun w6 g6 c6 => HEND.out w6 W3.drew g6 c6 HW3.out.drew)
  go_wp2_with fail
  refine wp_region_noPanic ?_
  go_region_law (first
    | (have m6 := HE6; go_simp; go_at_call 46; (refine Calls.mono m6.out ?_); rintro e w8 ⟨v8, rfl, ⟨ao8, L8, cap8, rfl⟩, hb8, hch⟩; have HCH := hide hch; have y1 := hb8.c 1; have f1 := hb8.f 1; simp at y1; clear hb8 hch)
    | (go_simp; go_at_call 42; (refine Calls.mono HCL3.out ?_); rintro e w6 ⟨g6, c6, rfl, hge6, hO6, hb6⟩; have HE6 := hide (HE3.out w6 g6 c6 hb6 hge6 hO6); have b6 : Below W3.heap.size W3 w6 := (Below.refl _ W3).drew.trans hb6; have c6' := cell_below' c3 b6; have c6a : ∀ o, (w6.alloc o).cell? ⟨p, 1, none⟩ = some _ := fun o => cell_below' c6' (below_box _ o); clear hge6 hO6 hb6 b6))
  all_goals refine NoPanic.normal ?_
  all_goals go_wp2_with fail
  all_goals go_end0
  all_goals exact ⟨⟨_, rfl⟩, HCH.out⟩
end Go.Proofs.Ytfjcadkihnecdaa

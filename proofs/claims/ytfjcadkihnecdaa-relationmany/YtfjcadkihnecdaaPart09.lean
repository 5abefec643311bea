/- The walk of slices.Insert in the middle without room; slices.Insert whole. The walk of split. What RelationMany has behind its copy. The walk of RelationMany. -/
import Derived.Test.YtfjcadkihnecdaaPart08
import Derived.Test.YtfjcadkihnecdaaPart06
import Derived.Test.YtfjcadkihnecdaaPart07
namespace Go.Proofs.Ytfjcadkihnecdaa.P
open Go.RowKit
open K (wpList_copy_run step_copy_run shape_of_heap frozen_of_heap some_of_heap)

set_option maxHeartbeats 2000000 in
set_option maxRecDepth 20000 in
theorem insert_grow (g n cap i vb : Nat) (xs : List Value) (s : Value) (w : World) (h : w.ownsRow 0 65 1 (.slice (some ⟨g, 0, none⟩) n cap) n xs) (hi : i < n) (hn : n ≤ 1000000000) (hroom : ¬ n + 1 ≤ cap) (hvb : w.heap[vb]? = some (.cells #[s] 65 (0, 0))) (hs : s.oneCell' = true) (h1 : ∀ u ∈ xs, u.oneCell' = true) :
    Calls Try.prog 46 #[.slice (some ⟨g, 0, none⟩) n cap, .int .i64 i, .slice (some ⟨vb, 0, none⟩) 1 1] w fun e w' => ∃ v', e = .returned v' ∧ w'.ownsRow 0 65 1 v' (n + 1) (xs.take (i) ++ [s] ++ xs.drop (i)) ∧ w.grownBy w' (some g) ∧ v'.ownBlock = some w.heap.size := by
  obtain ⟨I, hI, hz0, hz1, hz2⟩ := info_parts Try.info65I
  obtain ⟨cur, hg, hnc, hcm, hcs, htk⟩ : ∃ cur : Array Value, w.heap[g]? = some (.cells cur 65 (0, 0)) ∧ n ≤ cap ∧ cap ≤ maxLen ∧ cur.size = cap ∧ cur.toList.take (n) = xs := by
    rcases h.2 with ⟨hv, _⟩ | ⟨g', cap', cur, e, _, hg, hn, hc, hs, ht⟩
    · simp at hv
    · simp only [Value.slice.injEq, Option.some.injEq, Addr.mk.injEq, and_true, true_and] at e
      obtain ⟨rfl, rfl⟩ := e
      exact ⟨cur, hg, hn, hc, by simpa using hs, by simpa using ht⟩
  have hcn : cap = n := by omega
  subst hcn
  have hxl : xs.length = cap := by simpa using h.1
  have hgl : g < w.heap.size := (Array.getElem?_eq_some_iff.1 hg).1
  have hvl : vb < w.heap.size := (Array.getElem?_eq_some_iff.1 hvb).1
  have htl : (xs.take (i)).length = i := by rw [List.length_take, hxl]; omega
  have hold : (Builtin.firstCells I.size i (.slice (some ⟨g, 0, none⟩) i cap)).run Try.prog w.drew = .ok (xs.take (i)).toArray w.drew := by
    rw [hz1]
    exact run_firstCells_some w.drew 1 i ⟨g, 0, none⟩ i cap (xs.take (i)) (by rw [htl, Nat.mul_one]) (fun j v hj => by
      rw [Addr.add_lit, Nat.zero_add, cell_of_row w.drew _ _ _ _ _ hg]
      rw [← htk, List.getElem?_take] at hj
      split at hj
      · rw [List.getElem?_take] at hj
        split at hj
        · simpa using hj
        · simp at hj
      · simp at hj)
  obtain ⟨G, HG⟩ : ∃ G, Hid (G = grownCap w (cap + 1) cap 65) := ⟨grownCap w (cap + 1) cap 65, (rfl : _ = _)⟩
  have hGn : cap + 1 ≤ G := by rw [HG.out]; exact grownCap_ge w _ _ _
  have hGm : G ≤ maxLen := by rw [HG.out]; exact grownCap_le_maxLen w (cap + 1) cap 65 (by unfold maxLen; omega)
  obtain ⟨ROW, HROW⟩ : ∃ ROW : Array Value, Hid (ROW = (xs.take (i)).toArray ++ Builtin.zeroCells (Value.slice none 0 0).cells (cap + 1 - i) ++ Builtin.zeroCells (Value.slice none 0 0).cells (G - (cap + 1))) := ⟨_, (rfl : _ = _)⟩
  obtain ⟨W1, HW1⟩ : ∃ W1, Hid (W1 = w.drew.alloc (.cells ROW 65)) := ⟨w.drew.alloc (.cells ROW 65), (rfl : _ = _)⟩
  have hik : i + (cap + 1 - i) = cap + 1 := by omega
  have hrz : ∀ ty, (Builtin.append_ #[43, 3] ty #[.slice (some ⟨g, 0, none⟩) i cap, .int .i64 ((cap : Int) + 1 - (i : Int))]).run Try.prog w = .ok (.slice (some ⟨w.heap.size, 0, none⟩) (cap + 1) G) W1 := fun ty => by
    have h := Lib.run_append_grow_zeros w 43 3 ty 65 I _ .i64 .i64 Try.underlying43 Try.underlying3 hI hz0 (some ⟨g, 0, none⟩) i cap (xs.take (i)) hold (cap + 1 - i) (by omega) (by omega) (by omega) (by omega) (by rw [hz2]; omega) (by rw [hz2, hik]; exact growslice_fits (by omega) (by omega))
    rw [hik] at h
    rw [show (cap : Int) + 1 - (i : Int) = ((cap + 1 - i : Nat) : Int) by omega, h, HW1.out, HROW.out, HG.out]
  have hRs : ROW.size = G := by
    have e1 : (Value.slice none 0 0).cells.size = 1 := rfl
    rw [HROW.out, Array.size_append, Array.size_append, size_zeroCells, size_zeroCells, List.size_toArray, htl, e1]
    omega
  have hRt : ROW.toList.take (i) = xs.take (i) := by
    rw [HROW.out, Array.toList_append, Array.toList_append, List.append_assoc]
    have := List.take_left (l₁ := xs.take (i)) (l₂ := (Builtin.zeroCells (Value.slice none 0 0).cells (cap + 1 - i)).toList ++ (Builtin.zeroCells (Value.slice none 0 0).cells (G - (cap + 1))).toList)
    rw [htl] at this
    exact this
  have hN : W1.heap[w.heap.size]? = some (.cells ROW 65 (0, 0)) := by rw [HW1.out]; exact heap_alloc_new w.drew _
  have hO1 : ∀ k, k < w.heap.size → W1.heap[k]? = w.heap[k]? := fun k hk => by rw [HW1.out]; exact Below.heap_alloc w.drew _ k hk
  have hS1 : w.grownBy W1 (some g) := by rw [HW1.out]; exact grown_drew_left (World.grownBy_alloc w.drew _ _)
  have hrl : ROW.toList.length = G := by rw [Array.length_toList, hRs]
  have hcpA : ∀ ty dc, (Builtin.copy_ #[43, 42] ty #[.slice (some ⟨w.heap.size, i, none⟩) (cap + 1 - i) dc, .slice (some ⟨vb, 0, none⟩) 1 1]).run Try.prog W1 = .ok (goInt (Nat.min 1 (cap + 1 - i))) (W1.setCells w.heap.size (i) [s]) := fun ty dc =>
    run_copy_sz W1 _ _ ty 65 I w.heap.size (i) _ dc ⟨vb, 0, none⟩ _ 1 [s] Try.underlying43 hI hz1 (by rw [show Nat.min 1 (cap + 1 - i) = 1 by simp only [Nat.min_def]; split <;> omega]; rfl)
      (fun j v hj => by
        rw [Addr.add_lit, Nat.zero_add, cell_of_row _ _ _ _ _ _ ((hO1 vb hvl).trans hvb)]
        simpa using hj)
      (fun j hj => some_of_heap hN _ (by simp at hj; omega)) (fun j hj => frozen_of_heap hN _) (by simp [hs])
  obtain ⟨W2, HW2⟩ : ∃ W2, Hid (W2 = W1.setCells w.heap.size (i) [s]) := ⟨W1.setCells w.heap.size (i) [s], (rfl : _ = _)⟩
  have hN2 : W2.heap[w.heap.size]? = some (.cells (put ROW.toList (i) [s]).toArray 65 (0, 0)) := by
    rw [HW2.out]; exact heap_setCells _ _ _ _ hN (by simp; omega)
  have hpl := put_len ROW.toList (i) [s] (by rw [hrl]; simp; omega)
  have hO2 : ∀ k, k < w.heap.size → W2.heap[k]? = w.heap[k]? := fun k hk => by rw [HW2.out, setCells_other _ _ _ _ (by omega)]; exact hO1 k hk
  have hdl : (xs.drop (i)).length = (cap - i) := by rw [List.length_drop, hxl]
  have hcpB : ∀ ty dc sc, (Builtin.copy_ #[43, 43] ty #[.slice (some ⟨w.heap.size, (i + 1), none⟩) (cap - i) dc, .slice (some ⟨g, i, none⟩) (cap - i) sc]).run Try.prog W2.drew = .ok (goInt (Nat.min (cap - i) (cap - i))) (W2.drew.setCells w.heap.size ((i + 1)) (xs.drop (i))) := fun ty dc sc =>
    run_copy_sz W2.drew _ _ ty 65 I w.heap.size ((i + 1)) _ dc ⟨g, i, none⟩ _ sc (xs.drop (i)) Try.underlying43 hI hz1 (by rw [hdl]; congr 1; simp only [Nat.min_def]; split <;> omega)
      (fun j v hj => by
        rw [Addr.add_lit, cell_of_row W2.drew _ _ _ _ _ ((hO2 g hgl).trans hg)]
        rw [← htk, List.getElem?_drop, List.getElem?_take] at hj
        split at hj
        · simpa using hj
        · simp at hj)
      (fun j hj => some_of_heap (w := W2.drew) hN2 _ (by rw [List.size_toArray, hpl, hrl]; omega)) (fun j hj => frozen_of_heap (w := W2.drew) hN2 _) (fun v hv => h1 v (List.mem_of_mem_drop hv))
  obtain ⟨W3, HW3⟩ : ∃ W3, Hid (W3 = W2.drew.setCells w.heap.size ((i + 1)) (xs.drop (i))) := ⟨W2.drew.setCells w.heap.size ((i + 1)) (xs.drop (i)), (rfl : _ = _)⟩
  have hN3 : W3.heap[w.heap.size]? = some (.cells (put (put ROW.toList (i) [s]) ((i + 1)) (xs.drop (i))).toArray 65 (0, 0)) := by
    rw [HW3.out]; exact heap_setCells _ _ W2.drew (put ROW.toList (i) [s]).toArray hN2 (by rw [List.size_toArray, hpl, hrl, hdl]; omega)
  have HE : Hid (W3.ownsRow 0 65 1 (.slice (some ⟨w.heap.size, 0, none⟩) (cap + 1) G) (cap + 1) (xs.take (i) ++ [s] ++ xs.drop (i)) ∧ w.grownBy W3 (some g)) := by
    refine ⟨own_of_heap hN3 hGn hGm ?_ ?_, ?_⟩
    · rw [List.size_toArray, put_len _ _ _ (by rw [hpl, hrl, hdl]; omega), hpl, hrl, Nat.mul_one]
    · apply List.ext_getElem?
      intro j
      simp only
      rw [List.getElem?_take]
      split
      · rw [put_get _ _ _ (by rw [hpl, hrl, hdl]; omega), put_get _ _ _ (by rw [hrl]; simp; omega), hdl]
        by_cases c1 : j < i
        · have e := congrArg (fun l => l[j]?) hRt
          simp only [List.getElem?_take, if_pos c1] at e
          rw [if_neg (by omega), if_neg (by omega), e, List.append_assoc, List.getElem?_append_left (by omega), List.getElem?_take, if_pos c1]
        · by_cases c2 : j < i + 1
          · rw [if_neg (by omega), if_pos (by simp; omega), List.append_assoc, List.getElem?_append_right (by omega), htl, List.getElem?_append_left (by simp; omega)]
          · rw [if_pos (by omega), List.getElem?_append_right (by simp; omega)]
            simp only [List.length_append, htl, List.length_cons, List.length_nil]
      · rw [List.getElem?_eq_none (by simp; omega)]
    · obtain ⟨a1, a2, a3, a4⟩ := setCells_same (b := w.heap.size) [s] (i) W1
      obtain ⟨b1, b2, b3, b4⟩ := setCells_same (b := w.heap.size) (xs.drop (i)) ((i + 1)) W2.drew
      rw [← HW2.out] at a1 a2 a3 a4
      rw [← HW3.out] at b1 b2 b3 b4
      refine ⟨b1.trans (a1.trans hS1.os), b2.trans (a2.trans hS1.tape), b3.trans (a3.trans hS1.output), ?_, fun k hk _ => ?_⟩
      · have e : W2.drew.heap.size = W2.heap.size := rfl
        have := hS1.size
        omega
      · rw [HW3.out, setCells_other _ _ W2.drew _ (by omega)]
        exact hO2 k hk
  rw [← HW2.out] at hcpA
  rw [← HW3.out] at hcpB
  have hG63 : G ≤ 9223372036854775807 := hGm
  have hcap : cap ≤ 9223372036854775807 := by omega
  have hz2' : ¬ ((i : Int) = (cap : Int)) := by omega
  have hb2 : ¬ (G = i + 1) := by omega
  have hb4 : ¬ (cap = i) := by omega
  have hb7 : ¬ (G = i) := by omega
  have hb5 : (cap : Int) < (cap : Int) + 1 := by omega
  have hb6 : (i : Int) ≤ (cap : Int) := by omega
  have hw1 : IntKind.i64.wrap ((i : Int) + 1) = (i : Int) + 1 := by rw [IntKind.wrap_i64]; omega
  have hb1 : (0 : Int) ≤ (i : Int) + 1 := by omega
  have htn : ((i : Int) + 1).toNat = i + 1 := by omega
  have hin : i ≤ cap := by omega
  clear hroom hnc hcm hcs htk hxl hgl hvl htl hold hRs hRt hN hO1 hS1 hrl hN2 hpl hO2 hdl hN3 h h1 hg hvb hI hz0 hz1 hz2 hik hGm
  go_enter Try.func46, Try.ntmps46
  go_wp2_with (first
    | (at_builtin; refine Lib.wpList_append_run _ rfl _ _ _ _ rfl _ _ rfl rfl _ _ (hrz _) ?_)
    | (at_builtin; refine wpList_copy_run _ rfl _ _ 43 42 rfl _ _ rfl rfl (hcpA _ _) ?_))
  go_region_law (refine step_copy_run rfl (.tmp 50) (.tmp 53) 43 43 rfl _ _ (by simp [Act.eval, Act.put]; rfl) (by simp [Act.eval, Act.put]; rfl) (hcpB _ _ _) ?_)
  go_wp2
  go_ret
  exact ⟨_, rfl, HE.out.1, HE.out.2, rfl⟩

/-- slices.Insert of one file. -/
theorem insert_any (v : Value) (n i vb : Nat) (xs : List Value) (s : Value) (w : World) (h : w.ownsRow 0 65 1 v n xs) (hi : i ≤ n) (hn : n ≤ 1000000000) (hvb : w.heap[vb]? = some (.cells #[s] 65 (0, 0))) (hne : v.ownBlock ≠ some vb) (hs : s.oneCell' = true) (h1 : ∀ u ∈ xs, u.oneCell' = true) :
    Calls Try.prog 46 #[v, .int .i64 i, .slice (some ⟨vb, 0, none⟩) 1 1] w fun e w' => ∃ v', e = .returned v' ∧ w'.ownsRow 0 65 1 v' (n + 1) (xs.take (i) ++ [s] ++ xs.drop (i)) ∧ w.grownBy w' v.ownBlock ∧ (v'.ownBlock = v.ownBlock ∨ v'.ownBlock = some w.heap.size) := by
  by_cases he : i = n
  · subst he
    have hxl : xs.length = i := by simpa using h.1
    rw [List.take_of_length_le (by omega), List.drop_eq_nil_of_le (by omega), List.append_nil]
    exact insert_end v i vb xs s w h hn hvb hs
  · rcases own_shape h with ⟨_, h0⟩ | ⟨g, cap, rfl, hc1, hc2, hc3⟩
    · omega
    · by_cases hr : n + 1 ≤ cap
      · refine (insert_shift g n cap i vb xs s w h (by omega) hn hr hvb (fun e => hne (by rw [e]; rfl)) hs h1).mono ?_
        rintro e w' ⟨v', rfl, h2, h3, h4⟩
        exact ⟨v', rfl, h2, h3, Or.inl h4⟩
      · refine (insert_grow g n cap i vb xs s w h (by omega) hn hr hvb hs h1).mono ?_
        rintro e w' ⟨v', rfl, h2, h3, h4⟩
        exact ⟨v', rfl, h2, h3, Or.inr h4⟩
end Go.Proofs.Ytfjcadkihnecdaa.P
namespace Go.Proofs.Ytfjcadkihnecdaa
open Go.RowKit

theorem own_front {w : World} {b g n cap h : Nat} {ks : List Ky} (ho : w.ownsRow b 47 4 (.slice (some ⟨g, 0, none⟩) n cap) n (cellsK ks)) (hn : n = ks.length) (hh : h ≤ n) : w.ownsRow b 47 4 (.slice (some ⟨g, 0, none⟩) h cap) (ks.take h).length (cellsK (ks.take h)) := by
  have hl : (ks.take h).length = h := by rw [List.length_take]; omega
  rw [hl]
  rcases ho.2 with ⟨hv, _⟩ | ⟨g', cap', cur, e, hb, hg, h1, h2, h3, h4⟩
  · simp at hv
  · simp only [Value.slice.injEq, Option.some.injEq, Addr.mk.injEq, and_true, true_and] at e
    obtain ⟨rfl, rfl⟩ := e
    refine ⟨by rw [cellsK_len, hl], .inr ⟨g, cap, cur, rfl, hb, hg, by omega, h2, h3, ?_⟩⟩
    have e1 : cellsK (ks.take h) = (cellsK ks).take (h * 4) := by
      have := cellsK_take (ks.take h) (ks.drop h)
      rw [List.take_append_drop, hl] at this
      exact this.symm
    rw [e1, ← h4, List.take_take, Nat.min_eq_left (by omega)]
theorem ks_behind {w : World} {g n cap h : Nat} {ks : List Ky} (hk : Ks w (.slice (some ⟨g, 0, none⟩) n cap) ks) (hh : h < n) : Ks w (.slice (some ⟨g, h * 4, none⟩) (n - h) (cap - h)) (ks.drop h) := by
  obtain ⟨ao, cap', e, h1, h2, h4⟩ := hk
  simp only [Value.slice.injEq] at e
  obtain ⟨rfl, rfl, rfl⟩ := e
  have hl : (ks.drop h).length = ks.length - h := by simp
  refine ⟨_, cap - h, by rw [hl], by omega, by omega, fun _ => ⟨g, h * 4, rfl, fun j hj => ?_⟩⟩
  obtain ⟨g', off, e, hc⟩ := h4 (by omega)
  simp only [Option.some.injEq, Addr.mk.injEq, and_true] at e
  obtain ⟨rfl, rfl⟩ := e
  have hj2 : h + j < ks.length := by omega
  have := hc (h + j) hj2
  rw [Nat.zero_add, Nat.add_mul] at this
  rw [List.getElem_drop]
  exact this

/-- The second half comes in behind the first. -/
theorem split_end {w W2 w6 : World} {p wd : Nat} {v : Value} {A : List Pg} {z : Pg} {T : List Pg} {d1 : Value} {k1 k2 : List Ky} (hB : Bx w p 45 #[.int .i64 (wd : Int), v]) (h : Pgs w v (A ++ z :: T)) (hne : ∀ x ∈ A ++ z :: T, x.ks ≠ []) (hl : (A ++ z :: T).length ≤ 1000000000) (hks : z.ks = k1 ++ k2) (h1 : k1 ≠ []) (h2 : k2 ≠ []) (hd1 : d1.ownBlock = z.dv.ownBlock)
    (hP2 : Pgs W2 v (A ++ ⟨d1, k1⟩ :: T)) (hf2 : Fr (foot v (A ++ z :: T)) w W2) (hb6 : Below W2.heap.size W2 w6) {g6 n6 c6 : Nat} (hge : W2.heap.size ≤ g6) (hO : w6.ownsRow W2.heap.size 47 4 (.slice (some ⟨g6, 0, none⟩) n6 c6) k2.length (cellsK k2)) :
    Calls Try.prog 46 #[v, .int .i64 ((A.length : Int) + 1), .slice (some ⟨w6.heap.size, 0, none⟩) 1 1] (w6.alloc (.cells #[.slice (some ⟨g6, 0, none⟩) n6 c6] 65)) fun e w' => ∃ v', e = .returned v' ∧ (∃ ao L cap, v' = .slice ao L cap) ∧ Bx w' p 45 #[.int .i64 (wd : Int), v] ∧ Chg w (w'.setCell ⟨p, 1, none⟩ v') p wd v (A ++ z :: T) (keys (A ++ z :: T)) := by
  have hs2 := hf2.size
  have hs6 := hb6.size
  have hbA : Below W2.heap.size W2 (w6.alloc (.cells #[.slice (some ⟨g6, 0, none⟩) n6 c6] 65)) := hb6.trans ((below_box w6 _).mono hb6.size)
  have hvb := Bx.new w6 #[.slice (some ⟨g6, 0, none⟩) n6 c6] 65
  have hOA : (w6.alloc (.cells #[.slice (some ⟨g6, 0, none⟩) n6 c6] 65)).ownsRow W2.heap.size 47 4 (.slice (some ⟨g6, 0, none⟩) n6 c6) k2.length (cellsK k2) := own_kept (F := fun _ => False) hO (Fr.of_below (below_box w6 _)) (fun _ _ => id)
  have hPA := hP2.below hbA
  generalize w6.alloc (.cells #[.slice (some ⟨g6, 0, none⟩) n6 c6] 65) = WA at *
  have hlen : (A ++ (⟨d1, k1⟩ : Pg) :: T).length = (A ++ z :: T).length := by simp
  have hne2 : v.ownBlock ≠ some w6.heap.size := fun e => by
    have := hP2.lt (.inl e)
    omega
  have key := P.insert_any v (A ++ (⟨d1, k1⟩ : Pg) :: T).length (A.length + 1) w6.heap.size (dvs (A ++ ⟨d1, k1⟩ :: T)) (.slice (some ⟨g6, 0, none⟩) n6 c6) WA hPA.row (by simp) (by rw [hlen]; omega) hvb hne2 rfl (fun u hu => by
    obtain ⟨x, hx, rfl⟩ := List.mem_map.1 hu
    exact own_one (hPA.data x hx))
  rw [show ((A.length + 1 : Nat) : Int) = (A.length : Int) + 1 by omega] at key
  refine key.mono ?_
  rintro e w' ⟨v', rfl, hR, hg, hat⟩
  have hap : ∀ x ∈ A ++ (⟨d1, k1⟩ : Pg) :: T, Apart x ⟨.slice (some ⟨g6, 0, none⟩) n6 c6, k2⟩ := fun x hx k hk => by
    have := hP2.lt (.inr ⟨x, hx, hk⟩)
    simp only [Value.ownBlock]
    intro e
    cases e
    omega
  have e1 : A ++ (⟨d1, k1⟩ : Pg) :: T = (A ++ [⟨d1, k1⟩]) ++ T := by simp
  have hl1 : (A ++ [(⟨d1, k1⟩ : Pg)]).length = A.length + 1 := by simp
  rw [e1] at hPA hR hap
  rw [← hl1] at hR
  have hins := Pgs.inserted hPA (.slice (some ⟨g6, 0, none⟩) n6 c6) k2 hR hg (own_zero hOA) hap
  have hfW : Fr (foot v (A ++ z :: T)) w w' := (hf2.trans (G := fun _ => False) (Fr.of_below hbA) (fun _ _ h => h.elim)).trans (G := fun k => v.ownBlock = some k) (Fr.of_grown hg (fun k e => e)) (fun x _ e => .inl e)
  refine ⟨v', rfl, own_slice hR, hB.fr hfW (foot_ne h hB), Chg.store hB h hfW hins ?_ (fun x hx => ?_) (fun k hk => ?_)⟩
  · simp [keys, hks]
  · rcases List.mem_append.1 hx with hx | hx
    · rcases List.mem_append.1 hx with hx | hx
      · exact hne x (by simp [hx])
      · simp at hx; subst hx; exact h1
    · rcases List.mem_cons.1 hx with rfl | hx
      · exact h2
      · exact hne x (by simp [hx])
  · rcases hk with hk | ⟨x, hx, hk⟩
    · rcases hat with hat | hat
      · exact .inl (.inl (by rw [← hat]; exact hk))
      · rw [hk] at hat
        cases hat
        have := hbA.size
        exact .inr (by omega)
    · rcases List.mem_append.1 hx with hx | hx
      · rcases List.mem_append.1 hx with hx | hx
        · exact .inl (.inr ⟨x, by simp [hx], hk⟩)
        · simp at hx; subst hx; exact .inl (.inr ⟨z, by simp, by rw [← hd1]; exact hk⟩)
      · rcases List.mem_cons.1 hx with rfl | hx
        · simp [Value.ownBlock] at hk
          exact .inr (by omega)
        · exact .inl (.inr ⟨x, by simp [hx], hk⟩)

set_option maxHeartbeats 3200000 in
theorem split_any : Spl := by
  intro W p wd v A z T hB h hne hl h2 hkl
  have hzin : z ∈ A ++ z :: T := by simp
  obtain ⟨g, cap, rfl, cz⟩ := h.at_cell (Below.refl _ W)
  obtain ⟨g2, cap2, hzv⟩ : ∃ g2 cap2, z.dv = .slice (some ⟨g2, 0, none⟩) z.ks.length cap2 := by
    rcases own_shape (h.data z hzin) with ⟨_, h0⟩ | ⟨g2, cap2, e, _⟩
    · omega
    · exact ⟨g2, cap2, e⟩
  have hk := Ks.of_own (h.data z hzin)
  have hown := h.data z hzin
  rw [hzv] at cz hk hown
  obtain ⟨hf, hhf⟩ : ∃ hf, hf = z.ks.length / 2 := ⟨_, rfl⟩
  have hf1 : 1 ≤ hf := by omega
  have hf2 : hf < z.ks.length := by omega
  have hd := own_front (h := hf) hown rfl (by omega)
  have hkb : ∀ X, Ks X (.slice (some ⟨g2, 0, none⟩) z.ks.length cap2) z.ks → Ks X (.slice (some ⟨g2, hf * 4, none⟩) (z.ks.length - hf) (cap2 - hf)) (z.ks.drop hf) := fun X hX => ks_behind hX hf2
  obtain ⟨hP2, hfr2, _, hfz⟩ := h.put (.slice (some ⟨g2, 0, none⟩) hf cap2) (z.ks.take hf) hd (grown_refl _ _) (.inl (by rw [hzv]; rfl))
  have hB2 := hB.fr hfr2 (foot_ne h hB)
  have hz2 : Ks (W.setCell ⟨g, A.length, none⟩ (.slice (some ⟨g2, 0, none⟩) hf cap2)) (.slice (some ⟨g2, 0, none⟩) z.ks.length cap2) z.ks := by
    have hgg : g2 ≠ g := fun e => own_ne h.row (h.data z hzin) (by decide) rfl (by rw [hzv, e]; rfl)
    exact Ks.of_own (own_kept hown (Fr.one W g A.length _) (fun k hk e => hgg (by simp [Value.ownBlock] at hk; omega)))
  have hln : 0 < (z.ks.drop hf).length := by rw [List.length_drop]; omega
  have hcap2 : hf ≠ cap2 ∧ cap2 ≤ maxLen ∧ z.ks.length ≤ cap2 := by
    rcases own_shape hown with ⟨e, _⟩ | ⟨_, _, e, a1, a2, _⟩
    · simp at e
    · simp only [Value.slice.injEq] at e
      obtain ⟨_, _, rfl⟩ := e
      exact ⟨by omega, a2, a1⟩
  have HCL : Hid (∀ X, Below (W.setCell ⟨g, A.length, none⟩ (.slice (some ⟨g2, 0, none⟩) hf cap2)).heap.size (W.setCell ⟨g, A.length, none⟩ (.slice (some ⟨g2, 0, none⟩) hf cap2)) X → _) := fun X hX => cloneK ⟨g2, hf * 4, none⟩ (z.ks.length - hf) (cap2 - hf) (z.ks.drop hf) X (hkb X (hz2.below hX)) hln (by rw [List.length_drop]; omega)
  have HEND : Hid (∀ (w6 : World) (X : World) (g6 c6 : Nat), Below (W.setCell ⟨g, A.length, none⟩ (.slice (some ⟨g2, 0, none⟩) hf cap2)).heap.size (W.setCell ⟨g, A.length, none⟩ (.slice (some ⟨g2, 0, none⟩) hf cap2)) X → Below X.heap.size X w6 → X.heap.size ≤ g6 → w6.ownsRow X.heap.size 47 4 (.slice (some ⟨g6, 0, none⟩) (z.ks.drop hf).length c6) (z.ks.drop hf).length (cellsK (z.ks.drop hf)) → _) := fun w6 X g6 c6 hX hb6 hge hO =>
    split_end (W2 := X) (d1 := .slice (some ⟨g2, 0, none⟩) hf cap2) (k1 := z.ks.take hf) (k2 := z.ks.drop hf) (n6 := (z.ks.drop hf).length) (c6 := c6) hB h hne hl (List.take_append_drop hf z.ks).symm (fun e => by have := congrArg List.length e; rw [List.length_take, List.length_nil] at this; omega) (fun e => by rw [e] at hln; simp at hln) (by rw [hzv]; rfl) (hP2.below hX) (hfr2.trans (G := fun _ => False) (Fr.of_below hX) (fun _ _ h => h.elim)) hb6 hge hO
  have hgp : g ≠ p := fun e => own_type_ne h.row hB (by decide) (by rw [← e]; rfl)
  have c1 := hB.c 1
  have HB2 := hide hB2
  simp at c1
  obtain ⟨zv, zk⟩ := z
  simp only at hzv
  subst hzv
  simp only at hf1 hf2 hkl hcap2 HCL HEND hhf
  have hkd0 : (zk.drop hf).length = zk.length - hf := by simp
  generalize zk.drop hf = kd at *
  clear hk hown hd hkb hP2 hfr2 hz2 hB2 hB h hne hln
  have hA : A.length + (T.length + 1) ≤ 1000000000 := by simpa using hl
  generalize keys (A ++ ⟨.slice (some ⟨g2, 0, none⟩) zk.length cap2, zk⟩ :: T) = LK at *
  generalize zk.length = m at *
  rw [hkd0] at HCL HEND
  have HHF : Hid (hf = m / 2) := hhf
  have hqI : (m : Int).tdiv 2 = (hf : Int) := by rw [Int.tdiv_eq_ediv_of_nonneg (by omega)]; omega
  have hqI2 : (m : Int) / 2 = (hf : Int) := by omega
  generalize A.length = n at *
  obtain ⟨N, hN⟩ : ∃ N, n + (T.length + 1) = N := ⟨_, rfl⟩
  rw [hN] at HEND HB2 c1 hA ⊢
  have hnN : n < N := by omega
  have hnNI : (n : Int) < (N : Int) := by omega
  have hfI : (hf : Int) ≤ (m : Int) := by omega
  have hmcI : (m : Int) ≤ (cap2 : Int) := by omega
  have hfcI : (hf : Int) ≤ (cap2 : Int) := by omega
  have hfc : ¬ cap2 = hf := by omega
  have hc63 : cap2 ≤ 9223372036854775807 := hcap2.2.1
  have hwn : IntKind.i64.wrap ((n : Int) + 1) = (n : Int) + 1 := by rw [IntKind.wrap_i64]; omega
  clear hN hhf hkd0 hl hcap2
  have HM : Hid (W.drew.cell? ⟨p, 1, none⟩ = some (.slice (some ⟨g, 0, none⟩) N cap)) := c1
  have HM2 : Hid ((W.setCell ⟨g, n, none⟩ (.slice (some ⟨g2, 0, none⟩) hf cap2)).drew.cell? ⟨p, 1, none⟩ = some (.slice (some ⟨g, 0, none⟩) N cap)) := cell_set_ne c1 (fun e => hgp e.symm)
  go_enter Try.func37, Try.ntmps37
  go_wp2_with fail
  refine wp_region_noPanic ?_
  go_region_held (fun w' => w'.cell? ⟨p, 1, none⟩ = some (.slice (some ⟨g, 0, none⟩) N cap)) (first | with_reducible exact HM.out | with_reducible exact HM2.out) (fail)
  refine NoPanic.normal ?_
  have HW3 : Hid (Below (W.setCell ⟨g, n, none⟩ (.slice (some ⟨g2, 0, none⟩) hf cap2)).heap.size (W.setCell ⟨g, n, none⟩ (.slice (some ⟨g2, 0, none⟩) hf cap2)) (W.setCell ⟨g, n, none⟩ (.slice (some ⟨g2, 0, none⟩) hf cap2)).drew) := (Below.refl _ _).drew
  have c3 := HM2.out
  clear c1 cz hfz
  generalize (W.setCell ⟨g, n, none⟩ (.slice (some ⟨g2, 0, none⟩) hf cap2)).drew = W3 at *
  have HCL3 := hide (HCL.out W3.drew HW3.out.drew)
  have HE3 := hide (fun w6 g6 c6 => HEND.out w6 W3.drew g6 c6 HW3.out.drew)
  go_wp2_with fail
  refine wp_region_noPanic ?_
  go_region_law (first
    | (have m6 := HE6; go_simp; go_at_call 46; (refine Calls.mono m6.out ?_); rintro e w8 ⟨v8, rfl, ⟨ao8, L8, cap8, rfl⟩, hb8, hch⟩; have HCH := hide hch; have y1 := hb8.c 1; have f1 := hb8.f 1; simp at y1; clear hb8 hch)
    | (go_simp; go_at_call 42; (refine Calls.mono HCL3.out ?_); rintro e w6 ⟨g6, c6, rfl, hge6, hO6, hb6⟩; have HE6 := hide (HE3.out w6 g6 c6 hb6 hge6 hO6); have b6 : Below W3.heap.size W3 w6 := (Below.refl _ W3).drew.trans hb6; have c6' := cell_below' c3 b6; have c6a : ∀ o, (w6.alloc o).cell? ⟨p, 1, none⟩ = some _ := fun o => cell_below' c6' (below_box _ o); clear hge6 hO6 hb6 b6))
  all_goals refine NoPanic.normal ?_
  all_goals go_wp2_with fail
  all_goals go_end0
  all_goals exact ⟨⟨_, rfl⟩, HCH.out⟩
end Go.Proofs.Ytfjcadkihnecdaa
namespace Go.Proofs.Ytfjcadkihnecdaa
open Go.RowKit Go.Shelf

def sec (x : List Int) : Int := x.getD 1 0
theorem ans_sec {x : List Int} (hx : x.length = 2) {d : Int} (hd : 1 ≤ d) : ansB [0, d] x = decide (sec x = d) := by
  match x, hx with
  | [a, b], _ =>
    simp only [ansB, sec, List.zip_cons_cons, List.zip_nil_left, List.all_cons, List.all_nil]
    have : ¬ d ≤ 0 := by omega
    simp [this]
    by_cases h : d = b
    · simp [h]
    · simp [h]; omega
def cnt (R : List (List Int)) (d : Int) : Nat := (R.filter fun x => decide (sec x < d)).length
theorem cnt_le (R : List (List Int)) (d : Int) : cnt R d ≤ R.length := List.length_filter_le _ _
theorem cnt_succ : ∀ (R : List (List Int)), (∀ x ∈ R, x.length = 2) → ∀ (d : Int), 1 ≤ d → cnt R (d + 1) = cnt R d + (R.filter (ansB [0, d])).length
  | [], _, _, _ => rfl
  | x :: R, h, d, hd => by
    have ih := cnt_succ R (fun y hy => h y (by simp [hy])) d hd
    have hx := ans_sec (h x (by simp)) hd
    unfold cnt at ih ⊢
    rw [List.filter_cons, List.filter_cons, List.filter_cons, hx]
    by_cases h1 : sec x = d
    · have h2 : sec x < d + 1 := by omega
      have h3 : ¬ sec x < d := by omega
      have h4 : d < d + 1 := by omega
      simp [h1, h4, ih]
      omega
    · by_cases h2 : sec x < d
      · have h3 : sec x < d + 1 := by omega
        simp [h1, h2, h3, ih]
        omega
      · have h3 : ¬ sec x < d + 1 := by omega
        simp [h1, h2, h3, ih]
theorem cnt_all (R : List (List Int)) (d : Int) (h : ∀ x ∈ R, sec x < d) : cnt R d = R.length := by
  unfold cnt
  rw [List.filter_eq_self.2 fun x hx => by simp [h x hx]]
theorem cnt_none (R : List (List Int)) (d : Int) (h : ∀ x ∈ R, ¬ sec x < d) : cnt R d = 0 := by
  unfold cnt
  rw [List.filter_eq_nil_iff.2 fun x hx => by simp; have := h x hx; omega]
  rfl

/-- The set and its copy: the copy still has the rows that are so. -/
structure Mt (w X : World) (p q B : Nat) (F : Nat → Prop) (R : List (List Int)) (T : List Int → Prop) : Prop where
  s : St X p 2 F R
  lt : ∀ k, F k → k < B
  c : ∃ F2 R2, St X q 2 F2 R2 ∧ (∀ k, F2 k → B ≤ k) ∧ (∀ x, x ∈ R2 ↔ x ∈ R ∧ T x) ∧ R2.length ≤ R.length
  wB : w.heap.size ≤ B
  below : Below w.heap.size w X
theorem Mt.bel {w X Y : World} {p q B : Nat} {F : Nat → Prop} {R : List (List Int)} {T : List Int → Prop} (h : Mt w X p q B F R T) (hb : Below X.heap.size X Y) : Mt w Y p q B F R T := by
  obtain ⟨F2, R2, a, b, c, d⟩ := h.c
  exact ⟨h.s.below hb, h.lt, ⟨F2, R2, a.below hb, b, c, d⟩, h.wB, h.below.trans (hb.mono h.below.size)⟩
theorem Mt.congr {w X : World} {p q B : Nat} {F : Nat → Prop} {R : List (List Int)} {T T' : List Int → Prop} (h : Mt w X p q B F R T) (ht : ∀ x ∈ R, T x ↔ T' x) : Mt w X p q B F R T' := by
  obtain ⟨F2, R2, a, b, c, d⟩ := h.c
  exact ⟨h.s, h.lt, ⟨F2, R2, a, b, fun x => by rw [c]; exact ⟨fun h => ⟨h.1, (ht x h.1).1 h.2⟩, fun h => ⟨h.1, (ht x h.1).2 h.2⟩⟩, d⟩, h.wB, h.below⟩
theorem St.up {w : World} {p wd : Nat} {F : Nat → Prop} {R : List (List Int)} (h : St w p wd F R) : Up R := by
  obtain ⟨_, _, _, h⟩ := h
  exact h.up
theorem St.wid {w : World} {p wd : Nat} {F : Nat → Prop} {R : List (List Int)} (h : St w p wd F R) : ∀ x ∈ R, x.length = wd := by
  obtain ⟨_, _, _, h⟩ := h
  exact h.wid
theorem Up.nodup {R : List (List Int)} (h : Up R) : R.Nodup := h.imp fun hl e => by subst e; exact Lt.irr _ hl
theorem Mt.remove {w X : World} {p q B : Nat} {F : Nat → Prop} {R : List (List Int)} {T : List Int → Prop} (h : Mt w X p q B F R T) (hl : R.length < 1000000000) {vr : Value} {r : List Int} (hr : Is X vr r) (hin : r ∈ R) (hT : T r) :
    Calls Try.prog 10 #[.pointer (some ⟨q, 0, none⟩), vr] X fun e Y => e = .returned (.bool true) ∧ Mt w Y p q B F R (fun x => T x ∧ x ≠ r) ∧ ∀ b v L, Rw b X v L → Rw b Y v L := by
  obtain ⟨F2, R2, a, b, c, d⟩ := h.c
  have hm : r ∈ R2 := (c r).2 ⟨hin, hT⟩
  refine (rmv_any a vr r hr (by omega)).mono ?_
  rintro e Y ⟨rfl, F3, R3, hS, hf, hF, hR⟩
  rw [if_pos hm] at hR
  obtain ⟨A, C, e1, e2⟩ := hR
  have hnd := a.up.nodup
  rw [e1] at hnd
  refine ⟨by rw [decide_eq_true hm], ⟨h.s.kept hf (fun k hk hk2 => by have := h.lt k hk; have := b k hk2; omega), h.lt, ⟨F3, R3, hS, fun k hk => ?_, fun x => ?_, ?_⟩, h.wB, ?_⟩, fun b' v L hw => ?_⟩
  · rcases hF k hk with hk | hk
    · exact b k hk
    · obtain ⟨k2, hk2⟩ : ∃ k2, F2 k2 := by
        obtain ⟨v, zs, rfl, _⟩ := a
        exact ⟨q, .inl rfl⟩
      have := a.lt hk2
      have := b k2 hk2
      omega
  · rw [e2]
    have hc := c x
    rw [e1] at hc
    have hnr : x ∈ A ++ C → x ≠ r := fun hx e => by
      subst e
      have := (List.nodup_append.1 hnd)
      rcases List.mem_append.1 hx with hx | hx
      · exact this.2.2 x hx x (by simp) rfl
      · exact (List.nodup_cons.1 this.2.1).1 hx
    constructor
    · intro hx
      have := hc.1 (by simp at hx ⊢; rcases hx with hx | hx <;> simp [hx])
      exact ⟨this.1, this.2, hnr hx⟩
    · rintro ⟨h1, h2, h3⟩
      have := hc.2 ⟨h1, h2⟩
      simp at this ⊢
      rcases this with h | h | h
      · exact .inl h
      · exact absurd h h3
      · exact .inr h
  · rw [e2]
    rw [e1] at d
    simp at d ⊢
    omega
  · exact Below.of_fr h.below hf (fun k hk => Nat.le_trans h.wB (b k hk))
  · refine hw.fr hf (fun k hk t cs hb => ?_)
    obtain ⟨t', cs', hb', ht⟩ := a.typ hk
    unfold Bx at hb hb'
    rw [hb] at hb'
    simp at hb'
    have := hb'.2
    rcases ht with rfl | rfl | rfl <;> simp_all
/-- Nothing is left in the copy. -/
theorem Mt.none {w X : World} {p q B : Nat} {F : Nat → Prop} {R : List (List Int)} {T : List Int → Prop} (h : Mt w X p q B F R T) (hT : ∀ x ∈ R, ¬ T x) :
    Calls Try.prog 16 #[.pointer (some ⟨q, 0, none⟩)] X fun e w' => e = .returned (.int .i64 0) ∧ w' = X := by
  obtain ⟨F2, R2, a, b, c, d⟩ := h.c
  have e : R2 = [] := List.eq_nil_iff_forall_not_mem.2 fun x hx => hT x ((c x).1 hx).1 ((c x).1 hx).2
  subst e
  exact len_any a (by simp)
end Go.Proofs.Ytfjcadkihnecdaa
namespace Go.Proofs.Ytfjcadkihnecdaa
open Go.RowKit Go.Shelf

theorem inf40 : (Try.prog.info? 40).map (fun i => i.zero) = some (some (.agg (Array.replicate 300 (.bool false)))) := by kernel_rfl
theorem on_new : ∃ Z : Array Value, (∀ w, (zeroValue 40).run Try.prog w = .ok (.agg Z) w) ∧ Z.size = 300 ∧ ∀ i, i < 300 → Z[i]? = some (.bool false) := by
  refine ⟨Array.replicate 300 (.bool false), fun w => ?_, by simp, fun i hi => by simp [hi]⟩
  have h := inf40
  cases hq : Try.prog.info? 40 with
  | none => rw [hq] at h; cases h
  | some i =>
    rw [hq] at h
    simp only [Option.map_some, Option.some.injEq] at h
    simp only [zeroValue, typeInfo, Sem.run_bind]
    simp [hq, h]

def rwk (i : Nat) : List Int := [((i / 10 + 1 : Nat) : Int), ((i % 10 + 1 : Nat) : Int)]
theorem rwk_len (i : Nat) : (rwk i).length = 2 := rfl
theorem rwk_inj {i j : Nat} (h : rwk i = rwk j) : i = j := by
  simp [rwk] at h
  omega
/-- What RelationMany has in memory behind some rounds. -/
structure Mn (w X : World) (p b : Nat) (F : Nat → Prop) (R : List (List Int)) (Z : Array Value) (on : Nat → Bool) : Prop where
  st : St X p 2 F R
  bx : Bx X b 40 Z
  sz : Z.size = 300
  at' : ∀ i, i < 300 → Z[i]? = some (.bool (on i))
  below : Below w.heap.size w X
  ge : ∀ k, F k → w.heap.size ≤ k
  bge : w.heap.size ≤ b
  on : ∀ i, i < 300 → on i = decide (rwk i ∈ R)
  rows : ∀ x ∈ R, ∃ i, i < 300 ∧ x = rwk i
theorem Mn.bel {w X Y : World} {p b : Nat} {F : Nat → Prop} {R : List (List Int)} {Z : Array Value} {on : Nat → Bool} (h : Mn w X p b F R Z on) (hb : Below X.heap.size X Y) : Mn w Y p b F R Z on :=
  ⟨h.st.below hb, h.bx.below hb, h.sz, h.at', h.below.trans (hb.mono h.below.size), h.ge, h.bge, h.on, h.rows⟩
theorem Mn.nF {w X : World} {p b : Nat} {F : Nat → Prop} {R : List (List Int)} {Z : Array Value} {on : Nat → Bool} (h : Mn w X p b F R Z on) : ¬ F b := fun hF => by
  obtain ⟨t, cs, hb, ht⟩ := h.st.typ hF
  have h2 := h.bx
  unfold Bx at hb h2
  rw [h2] at hb
  rcases ht with rfl | rfl | rfl <;> simp at hb
theorem Mn.grew {w X Y : World} {p b : Nat} {F F' : Nat → Prop} {R : List (List Int)} {Z : Array Value} {on : Nat → Bool} (h : Mn w X p b F R Z on) (hf : Fr F X Y) (hF : ∀ k, F' k → F k ∨ X.heap.size ≤ k) :
    Bx Y b 40 Z ∧ Below w.heap.size w Y ∧ (∀ k, F' k → w.heap.size ≤ k) :=
  ⟨h.bx.fr hf h.nF, Below.of_fr h.below hf h.ge, fun k hk => by
    rcases hF k hk with hk | hk
    · exact h.ge k hk
    · exact Nat.le_trans h.below.size hk⟩
/-- A row that was there: nothing has changed. -/
theorem Mn.same {w X Y : World} {p b : Nat} {F : Nat → Prop} {R : List (List Int)} {Z : Array Value} {on : Nat → Bool} (h : Mn w X p b F R Z on) {k : Nat} (hk : k < 300) (ho : on k = true) (hr : AddR X Y p 2 F R (rwk k)) : ∃ F', Mn w Y p b F' R Z on := by
  obtain ⟨F', R', hS, hf, hF, hR⟩ := hr
  have hm : rwk k ∈ R := by have := h.on k hk; rw [ho] at this; exact of_decide_eq_true this.symm
  rw [if_neg (fun hh => hh.2 hm)] at hR
  subst hR
  obtain ⟨a, b', c⟩ := h.grew hf hF
  exact ⟨F', hS, a, h.sz, h.at', b', c, h.bge, h.on, h.rows⟩
/-- A row that was not there: it has come, and its mark is set. -/
theorem Mn.new {w X Y : World} {p b : Nat} {F : Nat → Prop} {R : List (List Int)} {Z : Array Value} {on : Nat → Bool} (h : Mn w X p b F R Z on) {k : Nat} (hk : k < 300) (ho : on k = false) (hr : AddR X Y p 2 F R (rwk k)) :
    Y.cell? ⟨b, k, none⟩ = some (.bool false) ∧ Y.frozen? ⟨b, k, none⟩ = false ∧ ∃ F' R', R'.length = R.length + 1 ∧ Mn w (Y.setCell ⟨b, k, none⟩ (.bool true)) p b F' R' (Z.setIfInBounds k (.bool true)) (fun i => if i = k then true else on i) := by
  obtain ⟨F', R', hS, hf, hF, hR⟩ := hr
  have hm : rwk k ∉ R := by have := h.on k hk; rw [ho] at this; exact of_decide_eq_false this.symm
  rw [if_pos ⟨rfl, hm⟩] at hR
  obtain ⟨R1, R2, e1, e2⟩ := hR
  obtain ⟨a, b', c⟩ := h.grew hf hF
  have hmem : ∀ x, x ∈ R' ↔ x = rwk k ∨ x ∈ R := fun x => by rw [e1, e2]; simp; constructor <;> intro h <;> rcases h with h | h | h <;> simp [h]
  have hnb : ¬ F' b := fun hFb => by
    obtain ⟨t, cs, hb, ht⟩ := hS.typ hFb
    unfold Bx at hb a
    rw [a] at hb
    rcases ht with rfl | rfl | rfl <;> simp at hb
  refine ⟨(a.c k).trans (by rw [h.at' k hk, ho]), a.f k, F', R', by rw [e1, e2]; simp; omega, hS.kept (Fr.one Y b k _) (fun x hx e => hnb (by rw [← e]; exact hx)), a.set k _, by simp [h.sz], fun i hi => ?_, b'.setCell (p := ⟨b, k, none⟩) h.bge _, c, h.bge, fun i hi => ?_, fun x hx => ?_⟩
  · rw [Array.getElem?_setIfInBounds]
    by_cases e : k = i
    · subst e; simp [h.sz, hk]
    · rw [if_neg e, if_neg (fun e' => e e'.symm)]; exact h.at' i hi
  · by_cases e : i = k
    · subst e; simp [hmem]
    · rw [if_neg e, h.on i hi]
      have : (rwk i ∈ R') ↔ (rwk i ∈ R) := by
        rw [hmem]
        exact ⟨fun h => h.resolve_left (fun h => e (rwk_inj h)), .inr⟩
      simp [this]
  · rcases (hmem x).1 hx with rfl | hx
    · exact ⟨k, hk, rfl⟩
    · exact h.rows x hx


theorem Mn.zero {w W : World} (hW : Below w.heap.size w W) {p b : Nat} {F : Nat → Prop} (hS : St W p 2 F []) (hF : ∀ k, F k → w.heap.size ≤ k) (hbW : w.heap.size ≤ b) {Z : Array Value} (hB : Bx W b 40 Z) (hz : Z.size = 300) (ha : ∀ i, i < 300 → Z[i]? = some (.bool false)) : Mn w W p b F [] Z (fun _ => false) :=
  ⟨hS, hB, hz, ha, hW, hF, hbW, fun i _ => by simp, fun x hx => by simp at hx⟩

set_option maxRecDepth 20000 in
set_option maxHeartbeats 3200000 in
theorem many_any (N S : Nat) (w : World) (hn1 : 1 ≤ N) (hn2 : N ≤ 300) (hs1 : 1 ≤ S) (hs2 : S ≤ 300) :
    Calls Try.prog 5 #[.int .i64 (N : Int), .int .i64 (S : Int)] w fun e w' => e = .returned (.bool true) ∧ Below w.heap.size w w' := by
  have g1 : ¬ (N : Int) < 1 := by omega
  have g2 : ¬ 300 < (N : Int) := by omega
  have g3 : ¬ (S : Int) < 1 := by omega
  have g4 : ¬ 300 < (S : Int) := by omega
  obtain ⟨Z0, hZ, hZs, hZa⟩ := on_new
  have HZs := hide hZs
  have HZa := hide hZa
  have HB := hide (begun_any w)
  clear hZs hZa
  go_enter Try.func5, Try.ntmps5
  go_wp2_with fail
  refine Calls.mono HB.out ?_
  rintro e w1 ⟨rfl, hb1⟩
  have HW1 := hide hb1
  clear hb1 HB
  go_wp2_with fail
  refine Calls.mono (new_any 2 (by decide) w1) ?_
  rintro e w2 ⟨rfl, rfl⟩
  obtain ⟨F0, hS0, hF0⟩ := St.new 2 (by decide) w1
  have HS0 := hide hS0
  have HF0 := hide hF0
  have HW2 := hide (HW1.out.trans ((below_box w1 (.cells #[.int .i64 (2 : Nat), .slice none 0 0] 45)).mono HW1.out.size))
  clear hS0 hF0
  generalize hW0 : w1.alloc (.cells #[.int .i64 (2 : Nat), .slice none 0 0] 45) = W0 at *
  go_wp2_with fail
  have HM0 : Hid (∃ F R Z on, Mn w (W0.alloc (.cells Z0 40)) w1.heap.size W0.heap.size F R Z on ∧ 0 = R.length) :=
    ⟨F0, [], Z0, _, Mn.zero (HW2.out.alloc HW2.out.size _) (HS0.out.below (below_box _ _)) (fun k hk => Nat.le_trans HW1.out.size (HF0.out k hk)) HW2.out.size (Bx.new W0 Z0 40) HZs.out HZa.out, rfl⟩
  clear HZs HZa HS0 HF0 hZ HW2 HW1 hW0
  generalize W0.alloc (.cells Z0 40) = W1 at *
  generalize W0.heap.size = b at *
  generalize w1.heap.size = p at *
  go_loopw [7, 8, 10] (fun kv mv iv wr => ∃ k m i : Nat, k < N ∧ i ≤ N ∧ m ≤ i ∧ kv = .int .i64 (k : Nat) ∧ mv = .int .i64 (m : Nat) ∧ iv = .int .i64 (i : Nat) ∧ Hid (∃ F R Z on, Mn w wr p b F R Z on ∧ m = R.length)) (fun _ _ iv _ => N - (intOf iv).toNat)
  case atStart => exact ⟨0, 0, 0, by omega, by omega, by omega, rfl, rfl, rfl, HM0⟩
  case round =>
    obtain ⟨k, m, i, hk, hi, hmi, rfl, rfl, rfl, HM⟩ := hrel
    clear HM0
    by_cases hlt : i < N
    · have hltI : (i : Int) < (N : Int) := by omega
      obtain ⟨F, R, Z, on, hM, hmR⟩ := HM.out
      obtain ⟨q, hq⟩ : ∃ q, (k + S) % N = q := ⟨_, rfl⟩
      have hqN : q < N := by rw [← hq]; exact Nat.mod_lt _ (by omega)
      have hq300 : q < 300 := by omega
      have hqI : Int.tmod ((k : Int) + (S : Int)) (N : Int) = (q : Int) := by
        rw [Int.tmod_eq_emod_of_nonneg (by omega), ← hq]; simp
      have hN0 : ¬ (N : Int) = 0 := by omega
      have hdI : Int.tdiv (q : Int) 10 = ((q / 10 : Nat) : Int) := by rw [Int.tdiv_eq_ediv_of_nonneg (by omega)]; omega
      have hrI : Int.tmod (q : Int) 10 = ((q % 10 : Nat) : Int) := by rw [Int.tmod_eq_emod_of_nonneg (by omega)]; omega
      have hw0 : IntKind.i64.wrap ((k : Int) + (S : Int)) = (k : Int) + (S : Int) := by rw [IntKind.wrap_i64]; omega
      have hw1 : IntKind.i64.wrap (((q / 10 : Nat) : Int) + 1) = ((q / 10 : Nat) : Int) + 1 := by rw [IntKind.wrap_i64]; omega
      have hw2 : IntKind.i64.wrap (((q % 10 : Nat) : Int) + 1) = ((q % 10 : Nat) : Int) + 1 := by rw [IntKind.wrap_i64]; omega
      have hwi : IntKind.i64.wrap ((i : Int) + 1) = (i : Int) + 1 := by rw [IntKind.wrap_i64]; omega
      have hwm : IntKind.i64.wrap ((m : Int) + 1) = (m : Int) + 1 := by rw [IntKind.wrap_i64]; omega
      have hcl := (hM.bx.c q).trans (hM.at' q hq300)
      obtain ⟨o, ho⟩ : ∃ o, on q = o := ⟨_, rfl⟩
      rw [ho] at hcl
      have hdec : decide ((rwk q).length = 2 ∧ rwk q ∉ R) = !o := by
        have := hM.on q hq300
        rw [← ho, this]
        by_cases h : rwk q ∈ R <;> simp [h, rwk_len]
      have hM2 : Mn w (wr.alloc (.cells #[.int .i64 (((q / 10 : Nat) : Int) + 1), .int .i64 (((q % 10 : Nat) : Int) + 1)] 3)).drew p b F R Z on := hM.bel ((Below.refl _ wr).alloc (Nat.le_refl _) _).drew
      have HA := hide (add_any hM2.st (.slice (some ⟨wr.heap.size, 0, none⟩) 2 2) (rwk q) (Is.lit2 wr (((q / 10 : Nat) : Int) + 1) (((q % 10 : Nat) : Int) + 1)) (fun x hx => by simp [rwk] at hx; omega) (by omega) (.inr split_any))
      rw [hdec] at HA
      have HR1 : Hid (o = true → ∀ w', AddR (wr.alloc (.cells #[.int .i64 (((q / 10 : Nat) : Int) + 1), .int .i64 (((q % 10 : Nat) : Int) + 1)] 3)).drew w' p 2 F R (rwk q) → w'.cell? ⟨b, q, none⟩ = some (.bool o) ∧ ∃ F R Z on, Mn w w' p b F R Z on ∧ m = R.length) := fun e w' hr => by
        obtain ⟨F', hN⟩ := hM2.same hq300 (ho.trans e) hr
        exact ⟨by rw [← ho]; exact (hN.bx.c q).trans (hN.at' q hq300), F', R, Z, on, hN, hmR⟩
      have HR2 : Hid (o = false → ∀ w', AddR (wr.alloc (.cells #[.int .i64 (((q / 10 : Nat) : Int) + 1), .int .i64 (((q % 10 : Nat) : Int) + 1)] 3)).drew w' p 2 F R (rwk q) → w'.cell? ⟨b, q, none⟩ = some (.bool o) ∧ w'.frozen? ⟨b, q, none⟩ = false ∧ ∃ F R Z on, Mn w (w'.setCell ⟨b, q, none⟩ (.bool true)) p b F R Z on ∧ m + 1 = R.length) := fun e w' hr => by
        obtain ⟨h1, h2, F', R', h3, h4⟩ := hM2.new hq300 (ho.trans e) hr
        exact ⟨by rw [e]; exact h1, h2, F', R', _, _, h4, by rw [h3, hmR]⟩
      have M1 : Hid (wr.drew.cell? ⟨b, q, none⟩ = some (.bool o)) := hcl
      have M2 : Hid (∀ x, (wr.alloc x).drew.cell? ⟨b, q, none⟩ = some (.bool o)) := fun x => cell_below' hcl ((Below.refl _ wr).alloc (Nat.le_refl _) x).drew
      have M3 : Hid (∀ x, (wr.drew.alloc x).cell? ⟨b, q, none⟩ = some (.bool o)) := fun x => cell_below' hcl ((Below.refl _ wr).drew.alloc (Nat.le_refl _) x)
      have hwa : IntKind.i64.wrap ((q / 10 : Nat) : Int) = ((q / 10 : Nat) : Int) := by rw [IntKind.wrap_i64]; omega
      have hqi : (q : Int) < 300 := by omega
      clear hM2 hM hdec ho hq hmR HM
      generalize q / 10 = a at *
      generalize q % 10 = c at *
      have h10 : ¬ (10 : Int) = 0 := by decide
      clear hcl
      go_wp2_with fail
      refine wp_region_noPanic ?_
      cases o with
      | true =>
        go_region_held (fun w' => w'.cell? ⟨b, q, none⟩ = some (.bool true)) (first | with_reducible exact M1.out | with_reducible exact M2.out _ | with_reducible exact M3.out _ | with_reducible exact m6.out)
          (first | (skip; (with_reducible refine Calls.mono HA.out ?_); rintro e w6 ⟨rfl, hr6⟩; have HN6 := hide (HR1.out rfl w6 hr6).2; have m6 := hide (HR1.out rfl w6 hr6).1; clear hr6))
        refine NoPanic.normal ?_
        have m7 := m6.out
        go_wp2_with fail
        go_roundw
        case rel => exact ⟨q, m, i + 1, hqN, by omega, by omega, rfl, rfl, by simp, HN6⟩
        case measure => simp [intOf]; omega
      | false =>
        go_region_held (fun w' => w'.cell? ⟨b, q, none⟩ = some (.bool false)) (first | with_reducible exact M1.out | with_reducible exact M2.out _ | with_reducible exact M3.out _ | with_reducible exact m6.out)
          (first | (skip; (with_reducible refine Calls.mono HA.out ?_); rintro e w6 ⟨rfl, hr6⟩; have HN6 := hide (HR2.out rfl w6 hr6).2.2; have m6 := hide (HR2.out rfl w6 hr6).1; have f6 := (HR2.out rfl w6 hr6).2.1; clear hr6))
        refine NoPanic.normal ?_
        have m7 := m6.out
        go_wp2_with fail
        go_roundw
        case rel => exact ⟨q, m + 1, i + 1, hqN, by omega, by omega, rfl, by simp, by simp, HN6⟩
        case measure => simp [intOf]; omega
    · have hltI : ¬ (i : Int) < (N : Int) := by omega
      obtain ⟨F, R, Z, on, hM, hmR⟩ := HM.out
      have hm3 : m ≤ 300 := by omega
      have HMM := hide hM
      have HmR := hide hmR
      have HAL := hide (all_any hM.st (by omega))
      have HLN : Hid (∀ W, Below wr.heap.size wr W → Calls Try.prog 16 #[.pointer (some ⟨p, 0, none⟩)] W fun e w' => e = .returned (.int .i64 (m : Int)) ∧ w' = W) := fun W hW => by
        rw [hmR]
        exact len_any (hM.st.below hW) (by omega)
      clear hM hmR HM hk hi hmi
      go_wp2_with fail
      refine Calls.mono HAL.out ?_
      rintro e w3 ⟨v3, rfl, hR3, hb3⟩
      obtain ⟨ao3, cap3, hv3⟩ := hR3.len
      rw [← HmR.out] at hv3
      subst hv3
      have HR3 := hide hR3.rs
      have HB3 := hide hb3
      have HL3 := hide (HLN.out w3 hb3)
      clear hR3 hb3 HAL
      go_wp2_with fail
      refine Calls.mono HL3.out ?_
      rintro e w4 ⟨rfl, rfl⟩
      go_wp2_with fail
      have HM4 := hide (HMM.out.bel HB3.out)
      clear HMM HB3 HLN
      go_loopw [12] (fun iv wr => ∃ j : Nat, j ≤ m ∧ iv = .int .i64 ((j : Int) + 1) ∧ Hid (Below w4.heap.size w4 wr)) (fun iv _ => m + 1 - (intOf iv).toNat)
      case atStart => exact ⟨0, by omega, rfl, Below.refl _ _⟩
      case round =>
        obtain ⟨j, hj, rfl, HBl⟩ := hrel
        by_cases hlt2 : j + 1 < m
        · have hltI2 : (j : Int) + 1 < (m : Int) := by omega
          have hltJ2 : (j : Int) < (m : Int) := by omega
          have hwj : IntKind.i64.wrap (j : Int) = (j : Int) := by rw [IntKind.wrap_i64]; omega
          have hwj2 : IntKind.i64.wrap ((j : Int) + 1 + 1) = (j : Int) + 1 + 1 := by rw [IntKind.wrap_i64]; omega
          have hj1 : j + 1 < R.length := by rw [← HmR.out]; exact hlt2
          obtain ⟨ao', cap', e, h1, h2, h4⟩ := HR3.out.below HBl.out
          simp only [Value.slice.injEq] at e
          obtain ⟨rfl, -, rfl⟩ := e
          obtain ⟨g3, off3, rfl, hc⟩ := h4 (by omega)
          obtain ⟨u1, c1, i1⟩ := hc j (by omega)
          obtain ⟨u2, c2, i2⟩ := hc (j + 1) hj1
          have hup := HM4.out.st.up
          have hwid := HM4.out.st.wid
          have hlt3 : Lt R[j] R[j + 1] := List.pairwise_iff_getElem.1 hup j (j + 1) (by omega) hj1 (by omega)
          have HLS : Hid (Calls Try.prog 17 #[u1, u2] wr.drew fun e w' => e = .returned (.bool true) ∧ Below wr.heap.size wr w') := (less_any u1 u2 R[j] R[j + 1] wr.drew (i1.below (Below.refl _ wr).drew) (i2.below (Below.refl _ wr).drew) (by rw [hwid _ (List.getElem_mem _), hwid _ (List.getElem_mem _)]) hlt3).mono fun e w' h => ⟨h.1, (Below.refl _ wr).drew.trans h.2⟩
          obtain ⟨a1, n1, k1, rfl⟩ : ∃ a n k, u1 = .slice a n k := by obtain ⟨a, k, e, _⟩ := i1; exact ⟨a, _, k, e⟩
          obtain ⟨a2, n2, k2, rfl⟩ : ∃ a n k, u2 = .slice a n k := by obtain ⟨a, k, e, _⟩ := i2; exact ⟨a, _, k, e⟩
          have HS : Hid (wr.drew.cell? ⟨g3, off3 + j, none⟩ = some (.slice a1 n1 k1) ∧ wr.drew.cell? ⟨g3, off3 + (j + 1), none⟩ = some (.slice a2 n2 k2)) := ⟨c1, c2⟩
          clear h4 hc i1 i2 hup hwid hlt3 h1 h2 hj1
          go_wp2_with fail
          refine wp_region_noPanic ?_
          go_region_held (fun w' => w'.cell? ⟨g3, off3 + j, none⟩ = some (.slice a1 n1 k1) ∧ w'.cell? ⟨g3, off3 + (j + 1), none⟩ = some (.slice a2 n2 k2)) (first | with_reducible exact HS.out | with_reducible exact m6.out)
            (first | (skip; (with_reducible refine Calls.mono HLS.out ?_); rintro e w6 ⟨rfl, hb6⟩; have HB6 := hide hb6; have m6 : Hid (w6.cell? ⟨g3, off3 + j, none⟩ = some (.slice a1 n1 k1) ∧ w6.cell? ⟨g3, off3 + (j + 1), none⟩ = some (.slice a2 n2 k2)) := ⟨cell_below' c1 hb6, cell_below' c2 hb6⟩; clear hb6))
          refine NoPanic.normal ?_
          go_wp2_with fail
          go_roundw
          case rel => exact ⟨j + 1, by omega, by simp, HBl.out.trans (HB6.out.mono HBl.out.size)⟩
          case measure => simp [intOf]; omega
        · have hltI2 : ¬ (j : Int) + 1 < (m : Int) := by omega
          have hM5 := HM4.out.bel HBl.out
          have HCP := hide (copy_any hM5.st (by have := HmR.out; omega))
          have HM5 := hide hM5
          clear hM5 HR3 HM4 hj hlt2 hltI
          go_wp2_with fail
          refine Calls.mono HCP.out ?_
          rintro e w5 ⟨q, rfl, ⟨F5, hS5, hF5⟩, hb5⟩
          have HT0 : Hid (Mt w w5 p q wr.heap.size F R (fun x => (1 : Int) ≤ sec x)) :=
            Mt.congr (T := fun _ => True) ⟨HM5.out.st.below hb5, fun k hk => HM5.out.st.lt hk, ⟨F5, R, hS5, hF5, fun x => by simp, Nat.le_refl _⟩, HM5.out.below.size, HM5.out.below.trans (hb5.mono HM5.out.below.size)⟩ (fun x hx => by
              obtain ⟨i, _, rfl⟩ := HM5.out.rows x hx
              simp [sec, rwk]
              omega)
          have HLO : Hid (∀ x ∈ R, 1 ≤ sec x ∧ sec x ≤ 10) := fun x hx => by
            obtain ⟨i, _, rfl⟩ := HM5.out.rows x hx
            simp [sec, rwk]
            omega
          clear hS5 hF5 hb5 HCP HM5 HBl
          generalize wr.heap.size = B at *
          go_wp2_with fail
          have HWD := hide HT0.out.s.wid
          have HUP := hide HT0.out.s.up
          have HC0 : Hid (0 = cnt R ((1 : Nat) : Int)) := (cnt_none R 1 fun x hx => by have := (HLO.out x hx).1; omega).symm
          go_loopw [14, 15] (fun rv dv wr => ∃ d c : Nat, 1 ≤ d ∧ d ≤ 11 ∧ c ≤ 300 ∧ rv = .int .i64 (c : Nat) ∧ dv = .int .i64 (d : Nat) ∧ Hid (c = cnt R (d : Int)) ∧ Hid (Mt w wr p q B F R (fun x => (d : Int) ≤ sec x))) (fun _ dv _ => 11 - (intOf dv).toNat)
          case atStart => exact ⟨1, 0, by omega, by omega, by omega, rfl, rfl, HC0, HT0⟩
          case round =>
            obtain ⟨d, c, hd1, hd2, hc3, rfl, rfl, HC, HT⟩ := hrel
            by_cases hd : d ≤ 10
            · have hdI : (d : Int) ≤ 10 := by omega
              have hL2 : R.filter (ansB [0, (d : Int)]) = R.filter (ansB [0, (d : Int)]) := rfl
              have HMT : Hid (Calls Try.prog 13 #[.pointer (some ⟨p, 0, none⟩), .slice (some ⟨wr.heap.size, 0, none⟩) 2 2] (wr.alloc (.cells #[.int .i64 0, .int .i64 (d : Int)] 3)) fun e W' => ∃ v', e = .returned v' ∧ Rw wr.heap.size W' v' (R.filter (ansB [0, (d : Int)])) ∧ Below wr.heap.size wr W') :=
                (match_any (HT.out.s.below (below_box wr _)) _ [0, (d : Int)] (Is.lit2 wr 0 d) rfl (by have := HmR.out; omega)).mono (by
                  rintro e W' ⟨v', h1, ⟨vs, r1, r2, r3⟩, h3⟩
                  have hs2 : wr.heap.size ≤ (wr.alloc (.cells #[.int .i64 0, .int .i64 (d : Int)] 3)).heap.size := by simp
                  exact ⟨v', h1, ⟨vs, own_base r1 (fun k hk => Nat.le_trans hs2 (r1.lt k hk).1), r2, fun j hj => by obtain ⟨u, hu, ho⟩ := r3 j hj; exact ⟨u, hu, own_base ho (fun k hk => Nat.le_trans hs2 (ho.lt k hk).1)⟩⟩, (below_box wr _).trans (h3.mono hs2)⟩)
              have HSUC : Hid (cnt R ((d : Int) + 1) = cnt R d + (R.filter (ansB [0, (d : Int)])).length) := cnt_succ R HWD.out d (by omega)
              have HIN : Hid (∀ x, x ∈ R.filter (ansB [0, (d : Int)]) ↔ x ∈ R ∧ sec x = (d : Int)) := fun x => by
                rw [List.mem_filter]
                constructor
                · rintro ⟨h1, h2⟩
                  rw [ans_sec (HWD.out x h1) (by omega)] at h2
                  exact ⟨h1, of_decide_eq_true h2⟩
                · rintro ⟨h1, h2⟩
                  exact ⟨h1, by rw [ans_sec (HWD.out x h1) (by omega)]; exact decide_eq_true h2⟩
              have HND : Hid (R.filter (ansB [0, (d : Int)])).Nodup := (HUP.out.nodup).filter _
              have hn3 : (R.filter (ansB [0, (d : Int)])).length ≤ 300 := Nat.le_trans (List.length_filter_le _ _) (by have := HmR.out; omega)
              have hc4 : c + (R.filter (ansB [0, (d : Int)])).length ≤ 300 := by
                have h1 := HSUC.out
                have h2 := HC.out
                have h3 := cnt_le R ((d : Int) + 1)
                have h4 := HmR.out
                omega
              clear hL2
              generalize R.filter (ansB [0, (d : Int)]) = L at *
              obtain ⟨n, hn⟩ : ∃ n, L.length = n := ⟨_, rfl⟩
              have HN := hide hn
              rw [hn] at hn3 hc4
              clear hn
              have hwc : IntKind.i64.wrap ((c : Int) + (n : Int)) = (c : Int) + (n : Int) := by rw [IntKind.wrap_i64]; omega
              have hwd : IntKind.i64.wrap ((d : Int) + 1) = (d : Int) + 1 := by rw [IntKind.wrap_i64]; omega
              go_wp2_with fail
              refine Calls.mono HMT.out ?_
              rintro e w6 ⟨v6, rfl, hR6, hb6⟩
              have HT6 : Hid (Mt w w6 p q B F R (fun x => (d : Int) ≤ sec x ∧ x ∉ L.take 0)) := (HT.out.bel hb6).congr (fun x _ => by simp)
              obtain ⟨ao6, cap6, hv6⟩ := hR6.len
              rw [HN.out] at hv6
              subst hv6
              have HR6 := hide hR6
              generalize wr.heap.size = lo at HR6
              clear hR6 hb6 HMT HT HT0
              go_wp2_with fail
              go_loopw [17] (fun iv wr => ∃ j : Nat, j ≤ n ∧ iv = .int .i64 (j : Nat) ∧ Hid (Mt w wr p q B F R (fun x => (d : Int) ≤ sec x ∧ x ∉ L.take j)) ∧ Hid (Rw lo wr (.slice ao6 n cap6) L)) (fun iv _ => n - (intOf iv).toNat)
              case atStart => exact ⟨0, by omega, rfl, HT6, HR6⟩
              case round =>
                obtain ⟨j, hj, rfl, HTj, HRj⟩ := hrel
                clear HT6 HR6
                by_cases hjn : j < n
                · have hjI : (j : Int) < (n : Int) := by omega
                  have hwj : IntKind.i64.wrap ((j : Int) + 1) = (j : Int) + 1 := by rw [IntKind.wrap_i64]; omega
                  have hjL : j < L.length := by rw [HN.out]; exact hjn
                  obtain ⟨ao', cap', e, h1, h2, h4⟩ := HRj.out.rs
                  simp only [Value.slice.injEq] at e
                  obtain ⟨rfl, -, rfl⟩ := e
                  obtain ⟨g7, off7, rfl, hcs⟩ := h4 (by omega)
                  obtain ⟨u, cu, iu⟩ := hcs j hjL
                  have hinL : L[j] ∈ L := List.getElem_mem hjL
                  obtain ⟨hinR, hsec⟩ := (HIN.out _).1 hinL
                  have hlen2 := HWD.out _ hinR
                  have hnot : L[j] ∉ L.take j := fun hh => by
                    obtain ⟨k, hk, e⟩ := List.mem_take_iff_getElem.1 hh
                    have := (List.getElem_inj HND.out).1 e
                    omega
                  have HRM := hide (HTj.out.remove (by have := HmR.out; omega) iu hinR ⟨by omega, hnot⟩)
                  obtain ⟨aou, capu, rfl, _, hcm, hu4⟩ := iu
                  obtain ⟨gu, ou, rfl, hcell⟩ := hu4 (by omega)
                  have c1 := hcell 1 (by omega)
                  rw [show atI L[j] 1 = (d : Int) from hsec] at c1
                  rw [hlen2] at cu HRM
                  have HTK : Hid (∀ x, x ∉ L.take (j + 1) ↔ x ∉ L.take j ∧ x ≠ L[j]) := fun x => by
                    rw [List.take_succ_eq_append_getElem hjL]
                    simp only [List.mem_append, List.mem_singleton, not_or, ne_eq]
                  generalize L[j] = lj at *
                  clear hcell hu4 hnot hinL hcs h4 h1 h2 hjL
                  go_wp2_with fail
                  refine Calls.mono HRM.out ?_
                  rintro e w8 ⟨rfl, hT8, hR8⟩
                  have HT8 : Hid (Mt w w8 p q B F R (fun x => (d : Int) ≤ sec x ∧ x ∉ L.take (j + 1))) := hT8.congr (fun x _ => by rw [HTK.out x, and_assoc])
                  have HR8 := hide (hR8 _ _ _ HRj.out)
                  clear hT8 hR8 HTj HRj HRM
                  go_wp2_with fail
                  go_roundw
                  case rel => exact ⟨j + 1, by omega, by simp, HT8, HR8⟩
                  case measure => simp [intOf]; omega
                · have hjI : ¬ (j : Int) < (n : Int) := by omega
                  have e : j = n := by omega
                  subst e
                  have HT9 : Hid (Mt w wr p q B F R (fun x => ((d + 1 : Nat) : Int) ≤ sec x)) := HTj.out.congr (fun x hx => by
                    rw [List.take_of_length_le (by rw [HN.out]; omega), HIN.out x]
                    constructor
                    · rintro ⟨h1, h2⟩
                      have : ¬ sec x = (d : Int) := fun e => h2 ⟨hx, e⟩
                      omega
                    · intro h
                      exact ⟨by omega, fun hh => by have := hh.2; omega⟩)
                  have HC9 : Hid (c + j = cnt R ((d + 1 : Nat) : Int)) := by
                    have h1 := HSUC.out
                    have h2 := HC.out
                    have h3 := HN.out
                    have h4 : ((d + 1 : Nat) : Int) = (d : Int) + 1 := by omega
                    show _ = _
                    rw [h4, h1, h3, ← h2]
                  clear HTj HRj HIN HND HN HSUC HC
                  go_wp2_with fail
                  go_roundw
                  case rel => exact ⟨d + 1, c + j, by omega, by omega, by omega, by simp, by simp, HC9, HT9⟩
                  case measure => simp [intOf]; omega
            · have hdI : ¬ (d : Int) ≤ 10 := by omega
              have e : d = 11 := by omega
              subst e
              have e2 : c = m := by rw [HC.out, HmR.out]; exact cnt_all R _ fun x hx => by have := (HLO.out x hx).2; omega
              subst e2
              have HNN := hide (HT.out.none fun x hx h => by have := (HLO.out x hx).2; omega)
              have HLE := hide (len_any HT.out.s (by have := HmR.out; omega))
              rw [← HmR.out] at HLE
              have HBE := hide HT.out.below
              clear HT HT0 HC HC0 HLO HWD HUP
              go_wp2_with fail
              refine Calls.mono HNN.out ?_
              rintro e w8 ⟨rfl, rfl⟩
              go_wp2_with fail
              refine Calls.mono HLE.out ?_
              rintro e w9 ⟨rfl, rfl⟩
              go_wp2_with fail
              go_ret
              exact ⟨by simp, HBE.out⟩
end Go.Proofs.Ytfjcadkihnecdaa

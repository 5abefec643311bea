/- The walks of slices.Insert in the middle, and slices.Delete, at files. The walks of compare, keyOf, lead, low, begins, answers and row. The walks of low, answers and row. Rows of keys in memory; the walk of slices.BinarySearchFunc at keys. -/
import Derived.Test.YtfjcadkihnecdaaPart01
import Derived.Laws.Rows
import Derived.Laws.ResultCell
import Derived.Laws.MakeOwn
namespace Go.Proofs.Ytfjcadkihnecdaa.K
open Go.RowKit

/-- 'copy' whose run is known, for the walk. -/
theorem wpList_copy_run {P : Program} (w : World) {ops : Array Oper} {rest : List Oper} {o : Oper} {a : Act} {Q : Exit → Act → World → Prop} (hgd : o.guard = none) (d s : Operand) (t t' : TypeId)
    (ho : o.op = .call { callee := .builtin .copy, args := #[d, s], argTypes := #[t, t'] }) (v u : Value) (hd : a.eval d = v) (hs : a.eval s = u) {v' : Value} {w' : World}
    (hr : (Builtin.copy_ #[t, t'] o.type #[v, u]).run P w = .ok v' w') (h : wpList P ops Q rest (a.put o.dst v') w') : wpList P ops Q (o :: rest) a w := by
  refine wpList_plain hgd fun _ hK => ?_
  unfold Oper.wp execOp
  simp only [ho, resolve, invoke, builtin, Sem.run_bind, Sem.run_pure, Result.andThen_ok, List.map_toArray, List.map_cons, List.map_nil, hd, hs, hr]
  exact hK _ _ h
theorem step_copy_run {P : Program} {ops : Array Oper} {o : Oper} {a : Act} {w : World} {K : Act → World → Prop} {Q : Exit → Act → World → Prop} {E : Prop}
    (hg : o.guard = none) (d x : Operand) (dT sT : TypeId) (hop : o.op = Op.call { callee := Callee.builtin Builtin.copy, args := #[d, x], argTypes := #[dT, sT] })
    (v u : Value) (hd : a.eval d = v) (hx : a.eval x = u) {v' : Value} {w' : World} (hr : (Builtin.copy_ #[dT, sT] o.type #[v, u]).run P w = .ok v' w') (hK : K (a.put o.dst v') w') :
    if Region.wanted o (yielded ops a.tmps) = true then Oper.wp P o a w K Q else E := by
  have hw : Region.wanted o (yielded ops a.tmps) = true := by simp [Region.wanted, hg]
  rw [if_pos hw]
  unfold Oper.wp
  simp [execOp, hop, resolve, invoke, builtin, hd, hx, hr, Result.andThen]
  exact hK

theorem shape_of_heap {w : World} {b : Nat} {cs : Array Value} {T : TypeId} {fr : Nat × Nat} (h : w.heap[b]? = some (.cells cs T fr)) : w.shape? b = some (T, cs.size) := by simp [World.shape?, h]
theorem frozen_of_heap {w : World} {b : Nat} {cs : Array Value} {T : TypeId} (h : w.heap[b]? = some (.cells cs T (0, 0))) (j : Nat) : w.frozen? ⟨b, j, none⟩ = false := by simp [World.frozen?, h]
theorem some_of_heap {w : World} {b : Nat} {cs : Array Value} {T : TypeId} {fr : Nat × Nat} (h : w.heap[b]? = some (.cells cs T fr)) (j : Nat) (hj : j < cs.size) : (w.cell? ⟨b, j, none⟩).isSome = true := by
  rw [cell_of_row w b j _ T _ h, Array.getElem?_eq_getElem hj]; rfl

set_option maxHeartbeats 2000000 in
set_option maxRecDepth 20000 in
theorem insert_shift (g n cap i vb : Nat) (xs : List Value) (s d s2 d2 : Value) (w : World) (h : w.ownsRow 0 47 4 (.slice (some ⟨g, 0, none⟩) n cap) n xs) (hi : i < n) (hn : n ≤ 1000000000) (hroom : n + 1 ≤ cap) (hvb : w.heap[vb]? = some (.cells #[s, d, s2, d2] 47 (0, 0))) (hne : vb ≠ g) (hs : s.oneCell' = true) (hd : d.oneCell' = true) (hs2 : s2.oneCell' = true) (hd2 : d2.oneCell' = true) (h1 : ∀ u ∈ xs, u.oneCell' = true) :
    Calls Try.prog 36 #[.slice (some ⟨g, 0, none⟩) n cap, .int .i64 i, .slice (some ⟨vb, 0, none⟩) 1 1] w fun e w' => ∃ v', e = .returned v' ∧ w'.ownsRow 0 47 4 v' (n + 1) (xs.take (i * 4) ++ [s, d, s2, d2] ++ xs.drop (i * 4)) ∧ w.grownBy w' (some g) ∧ v'.ownBlock = some g := by
  obtain ⟨I, hI, hz0, hz1, hz2⟩ := info_parts Try.info47
  obtain ⟨cur, hg, hcm, hcs, htk⟩ : ∃ cur : Array Value, w.heap[g]? = some (.cells cur 47 (0, 0)) ∧ cap ≤ maxLen ∧ cur.size = cap * 4 ∧ cur.toList.take (n * 4) = xs := by
    rcases h.2 with ⟨hv, _⟩ | ⟨g', cap', cur, e, _, hg, _, hc, hs, ht⟩
    · simp at hv
    · simp only [Value.slice.injEq, Option.some.injEq, Addr.mk.injEq, and_true, true_and] at e
      obtain ⟨rfl, rfl⟩ := e
      exact ⟨cur, hg, hc, hs, ht⟩
  have hxl : xs.length = n * 4 := h.1
  have hcap : cap ≤ 9223372036854775807 := hcm
  have hgd : w.drew.heap[g]? = some (.cells cur 47 (0, 0)) := hg
  have hov : ∀ lb cb, (callFunc 44 #[.slice (some ⟨vb, 0, none⟩) 1 1, .slice (some ⟨g, (i + 1) * 4, none⟩) lb cb]).run Try.prog w = .ok (.value (.bool false)) w := fun lb cb => by
    rw [run_callFunc_extern Try.func44 (by kernel_rfl) (by kernel_rfl) (by kernel_rfl) (e := Extern.SlicesOverlaps.overlaps #[65, 65] #[4]) (by kernel_rfl),
      Lib.run_overlaps_apart w 65 4 47 Try.underlying65 4 (fun w => by simp [sizeOf, typeInfo, hI, hz1]) ⟨vb, 0, none⟩ ⟨g, (i + 1) * 4, none⟩ 1 1 lb cb hne 47 47 4 (cap * 4) (by rw [shape_of_heap hvb]; rfl) (by rw [shape_of_heap hg, hcs]) (by omega) (frozen_of_heap hvb 0) (frozen_of_heap hvb 4)]
    rfl
  have hdl : (xs.drop (i * 4)).length = (n - i) * 4 := by rw [List.length_drop, hxl]; omega
  have hcp1 : ∀ ty dc sc, (Builtin.copy_ #[65, 65] ty #[.slice (some ⟨g, (i + 1) * 4, none⟩) (n - i) dc, .slice (some ⟨g, i * 4, none⟩) (n + 1 - i) sc]).run Try.prog w.drew = .ok (goInt (Nat.min (n + 1 - i) (n - i))) (w.drew.setCells g ((i + 1) * 4) (xs.drop (i * 4))) := fun ty dc sc =>
    run_copy_sz w.drew _ _ ty 47 I g ((i + 1) * 4) _ dc ⟨g, i * 4, none⟩ _ sc (xs.drop (i * 4)) Try.underlying65 hI hz1 (by rw [hdl]; congr 1; simp only [Nat.min_def]; split <;> omega)
      (fun j v hj => by
        rw [Addr.add_lit, cell_of_row _ _ _ _ _ _ hgd]
        rw [← htk, List.getElem?_drop, List.getElem?_take] at hj
        split at hj
        · simpa using hj
        · simp at hj)
      (fun j hj => some_of_heap hgd _ (by omega)) (fun j hj => frozen_of_heap hgd _) (fun v hv => h1 v (List.mem_of_mem_drop hv))
  obtain ⟨W1, HW1⟩ : ∃ W1, Hid (W1 = w.drew.setCells g ((i + 1) * 4) (xs.drop (i * 4))) := ⟨w.drew.setCells g ((i + 1) * 4) (xs.drop (i * 4)), (rfl : _ = _)⟩
  have hH1 : W1.heap[g]? = some (.cells (put cur.toList ((i + 1) * 4) (xs.drop (i * 4))).toArray 47 (0, 0)) := by
    rw [HW1.out]; exact heap_setCells _ _ _ _ hgd (by rw [hdl]; omega)
  have hcl : cur.toList.length = cap * 4 := by rw [Array.length_toList, hcs]
  have hpl := put_len cur.toList ((i + 1) * 4) (xs.drop (i * 4)) (by rw [hdl, hcl]; omega)
  have hvb1 : W1.heap[vb]? = some (.cells #[s, d, s2, d2] 47 (0, 0)) := by rw [HW1.out, setCells_other _ _ _ _ hne]; exact hvb
  have hcp2 : ∀ ty dc, (Builtin.copy_ #[65, 65] ty #[.slice (some ⟨g, i * 4, none⟩) (n + 1 - i) dc, .slice (some ⟨vb, 0, none⟩) 1 1]).run Try.prog W1 = .ok (goInt (Nat.min 1 (n + 1 - i))) (W1.setCells g (i * 4) [s, d, s2, d2]) := fun ty dc =>
    run_copy_sz W1 _ _ ty 47 I g (i * 4) _ dc ⟨vb, 0, none⟩ _ 1 [s, d, s2, d2] Try.underlying65 hI hz1 (by rw [show Nat.min 1 (n + 1 - i) = 1 by simp only [Nat.min_def]; split <;> omega]; rfl)
      (fun j v hj => by
        rw [Addr.add_lit, Nat.zero_add, cell_of_row _ _ _ _ _ _ hvb1]
        simpa using hj)
      (fun j hj => some_of_heap hH1 _ (by simp at hj; rw [List.size_toArray, hpl, hcl]; omega)) (fun j hj => frozen_of_heap hH1 _) (by simp [hs, hd, hs2, hd2])
  have HE : Hid ((W1.setCells g (i * 4) [s, d, s2, d2]).ownsRow 0 47 4 (.slice (some ⟨g, 0, none⟩) (n + 1) cap) (n + 1) (xs.take (i * 4) ++ [s, d, s2, d2] ++ xs.drop (i * 4)) ∧ w.grownBy (W1.setCells g (i * 4) [s, d, s2, d2]) (some g)) := by
    refine ⟨own_of_heap (heap_setCells _ _ _ _ hH1 (by rw [List.size_toArray, hpl, hcl]; simp; omega)) hroom hcm ?_ ?_, ?_⟩
    · rw [List.size_toArray, put_len _ _ _ (by simp only [hpl, hcl]; simp; omega)]
      simp only [hpl, hcl]
    · apply List.ext_getElem?
      intro j
      have e1 : (xs.take (i * 4)).length = i * 4 := by simp; omega
      simp only
      rw [List.getElem?_take]
      split
      · rw [put_get _ _ _ (by rw [hpl, hcl]; simp; omega)]
        by_cases c1 : j < i * 4
        · rw [if_neg (by omega), put_get _ _ _ (by rw [hdl, hcl]; omega), if_neg (by omega), List.append_assoc, List.getElem?_append_left (by omega), List.getElem?_take, if_pos c1, ← htk, List.getElem?_take, if_pos (by omega)]
        · by_cases c2 : j < i * 4 + 4
          · rw [if_pos (by simp; omega), List.append_assoc, List.getElem?_append_right (by omega), e1, List.getElem?_append_left (by simp; omega)]
          · rw [if_neg (by simp; omega), put_get _ _ _ (by rw [hdl, hcl]; omega), if_pos (by rw [hdl]; omega), List.getElem?_append_right (by simp; omega)]
            simp only [List.length_append, e1, List.length_cons, List.length_nil]
            congr 1
            omega
      · rw [List.getElem?_eq_none (by simp; omega)]
    · have hgr := grown_drew_left (grown_setCells g (xs.drop (i * 4)) ((i + 1) * 4) w.drew)
      rw [← HW1.out] at hgr
      exact hgr.trans (grown_setCells g [s, d, s2, d2] (i * 4) W1)
  rw [← HW1.out] at hcp1
  have hz2' : ¬ ((i : Int) = (n : Int)) := by omega
  have hb2 : ¬ (cap = i + 1) := by omega
  have hb3 : (i : Int) ≤ (n : Int) + 1 := by omega
  have hb4 : ¬ (cap = i) := by omega
  have hb5 : ¬ (cap : Int) < (n : Int) + 1 := by omega
  have hb6 : (i : Int) < (n : Int) := by omega
  have hnr : (n : Int) + 1 ≤ (cap : Int) := by omega
  have hw1 : IntKind.i64.wrap ((i : Int) + 1) = (i : Int) + 1 := by rw [IntKind.wrap_i64]; omega
  have hb1 : (0 : Int) ≤ (i : Int) + 1 := by omega
  have htn : ((i : Int) + 1).toNat = i + 1 := by omega
  have hin : i ≤ n := by omega
  clear hcs htk hdl hgd hH1 hpl hvb1 hcl h hxl hcm h1 hg hvb hI hz0 hz1 hz2
  go_enter Try.func36, Try.ntmps36
  go_wp2_with (simp only [hov])
  go_region_law (refine step_copy_run rfl (.tmp 73) (.tmp 76) 65 65 rfl _ _ (by simp [Act.eval, Act.put]; rfl) (by simp [Act.eval, Act.put]; rfl) (hcp1 _ _ _) ?_)
  go_wp2_with (at_builtin; refine wpList_copy_run _ rfl _ _ 65 65 rfl _ _ rfl rfl (hcp2 _ _) ?_)
  go_ret
  exact ⟨_, rfl, HE.out.1, HE.out.2, rfl⟩
end Go.Proofs.Ytfjcadkihnecdaa.K
namespace Go.Proofs.Ytfjcadkihnecdaa
open Go.RowKit

/-- A block of cells in memory. -/
def Bx (w : World) (b : Nat) (T : TypeId) (cs : Array Value) : Prop := w.heap[b]? = some (.cells cs T (0, 0))
theorem Bx.lt {w : World} {b : Nat} {T : TypeId} {cs : Array Value} (h : Bx w b T cs) : b < w.heap.size := (Array.getElem?_eq_some_iff.1 h).1
theorem Bx.c {w : World} {b : Nat} {T : TypeId} {cs : Array Value} (h : Bx w b T cs) (i : Nat) : w.cell? ⟨b, i, none⟩ = cs[i]? := cell_of_row w b i _ _ _ h
theorem Bx.f {w : World} {b : Nat} {T : TypeId} {cs : Array Value} (h : Bx w b T cs) (i : Nat) : w.frozen? ⟨b, i, none⟩ = false := frozen_of_row w b i _ _ h
theorem Bx.fr {w w' : World} {b : Nat} {T : TypeId} {cs : Array Value} (h : Bx w b T cs) {F : Nat → Prop} (hf : Fr F w w') (hb : ¬ F b) : Bx w' b T cs := by
  unfold Bx
  rw [hf.block b h.lt hb]
  exact h
theorem Bx.below {w w' : World} {b : Nat} {T : TypeId} {cs : Array Value} (h : Bx w b T cs) (hf : Below w.heap.size w w') : Bx w' b T cs := h.fr (F := fun _ => False) (Fr.of_below hf) id
theorem Bx.new (w : World) (cs : Array Value) (T : TypeId) : Bx (w.alloc (.cells cs T)) w.heap.size T cs := heap_alloc_new _ _
theorem Bx.set {w : World} {b : Nat} {T : TypeId} {cs : Array Value} (h : Bx w b T cs) (i : Nat) (v : Value) : Bx (w.setCell ⟨b, i, none⟩ v) b T (cs.setIfInBounds i v) := heap_set h v
theorem below_box (w : World) (o : Obj) : Below w.heap.size w (w.alloc o) := (Below.refl _ _).alloc (Nat.le_refl _) o
theorem below_box2 (w : World) (o o' : Obj) : Below w.heap.size w ((w.alloc o).alloc o') := (below_box w o).alloc (by simp) o'

def Ky.cs (k : Ky) : Array Value := #[.int .i64 k.a, .int .i64 k.b, .int .i64 k.c, .int .i64 k.d]
theorem Ky.at4 (k : Ky) (j : Nat) (h : j < 4) : k.cs[j]? = some (.int .i64 (atI k.l j)) := by
  match j, h with
  | 0, _ => rfl
  | 1, _ => rfl
  | 2, _ => rfl
  | 3, _ => rfl
theorem Is.box {w : World} {b : Nat} {k : Ky} (h : Bx w b 47 k.cs) (n : Nat) (hn : n ≤ 4) : Is w (.slice (some ⟨b, 0, none⟩) n 4) (k.l.take n) := by
  have hl : (k.l.take n).length = n := by rw [List.length_take, Ky.len]; omega
  refine ⟨some ⟨b, 0, none⟩, 4, by rw [hl], by omega, by simp [maxLen], fun _ => ⟨b, 0, rfl, fun j hj => ?_⟩⟩
  rw [hl] at hj
  rw [Nat.zero_add, h.c, k.at4 j (by omega)]
  simp [atI, hj]
theorem Is.box4 {w : World} {b : Nat} {k : Ky} (h : Bx w b 47 k.cs) : Is w (.slice (some ⟨b, 0, none⟩) 4 4) k.l := by
  have := Is.box h 4 (Nat.le_refl _)
  rwa [List.take_of_length_le (by rw [Ky.len]; omega)] at this

set_option maxHeartbeats 800000 in
theorem cmp_any (p q : Ky) (w : World) : Calls Try.prog 34 #[.agg #[.int .i64 p.a, .int .i64 p.b, .int .i64 p.c, .int .i64 p.d], .agg #[.int .i64 q.a, .int .i64 q.b, .int .i64 q.c, .int .i64 q.d]] w fun e w' => e = .returned (.int .i64 (cmpL p.l q.l)) ∧ Below w.heap.size w w' := by
  have HB := hide (below_box2 w (.cells p.cs 47) (.cells q.cs 47))
  have HP := hide ((Bx.new w p.cs 47).below (below_box _ (.cells q.cs 47)))
  have HQ := hide (Bx.new (w.alloc (.cells p.cs 47)) q.cs 47)
  rw [World.size_alloc] at HQ
  simp only [Ky.cs] at HB HP HQ
  go_enter Try.func34, Try.ntmps34
  go_wp2_with fail
  generalize (w.alloc (.cells #[.int .i64 p.a, .int .i64 p.b, .int .i64 p.c, .int .i64 p.d] 47)).alloc (.cells #[.int .i64 q.a, .int .i64 q.b, .int .i64 q.c, .int .i64 q.d] 47) = W at *
  have HC : Hid (∀ n, Calls Try.prog 43 #[.slice (some ⟨w.heap.size, 0, none⟩) 4 4, .slice (some ⟨w.heap.size + 1, 0, none⟩) 4 4] (W.drewN n) fun e w' => e = .returned (.int .i64 (cmpL p.l q.l)) ∧ w' = W.drewN n) := fun n =>
    compareS_any _ _ p.l q.l _ ((Is.box4 HP.out).below (below_drewN W n)) ((Is.box4 HQ.out).below (below_drewN W n))
  go_big_quiet (first | (go_at_call 43; exact Calls.quiet_of_same (HC.out _)))
  have HBz := hide (HB.out.trans ((below_drewN W nq).mono HB.out.size))
  go_wp2_with fail
  go_ret
  exact ⟨rfl, HBz.out⟩

set_option maxHeartbeats 800000 in
theorem begins_any (p q : Ky) (n : Nat) (hn : n ≤ 4) (w : World) : Calls Try.prog 26 #[.agg #[.int .i64 p.a, .int .i64 p.b, .int .i64 p.c, .int .i64 p.d], .agg #[.int .i64 q.a, .int .i64 q.b, .int .i64 q.c, .int .i64 q.d], .int .i64 (n : Int)] w fun e w' => e = .returned (.bool (decide (p.l.take n = q.l.take n))) ∧ Below w.heap.size w w' := by
  have HB := hide (below_box2 w (.cells p.cs 47) (.cells q.cs 47))
  have HP := hide ((Bx.new w p.cs 47).below (below_box _ (.cells q.cs 47)))
  have HQ := hide (Bx.new (w.alloc (.cells p.cs 47)) q.cs 47)
  rw [World.size_alloc] at HQ
  simp only [Ky.cs] at HB HP HQ
  have hnI : (n : Int) ≤ 4 := by omega
  go_enter Try.func26, Try.ntmps26
  go_wp2_with fail
  generalize (w.alloc (.cells #[.int .i64 p.a, .int .i64 p.b, .int .i64 p.c, .int .i64 p.d] 47)).alloc (.cells #[.int .i64 q.a, .int .i64 q.b, .int .i64 q.c, .int .i64 q.d] 47) = W at *
  have cE : ∀ d os, Calls Try.prog 41 #[.slice (some ⟨w.heap.size, 0, none⟩) n 4, .slice (some ⟨w.heap.size + 1, 0, none⟩) n 4] (Sort.grow (redrawn W d) os) fun e w'' => e = .returned (.bool (decide (p.l.take n = q.l.take n))) ∧ ∃ p : Regrown, w'' = Sort.grow (redrawn W p.d) p.os := fun d os => Calls.regrown_of
    (equalS_any _ _ (p.l.take n) (q.l.take n) _ ((Is.box HP.out n hn).below (below_regrown W d os)) ((Is.box HQ.out n hn).below (below_regrown W d os)) (by simp [Ky.len]))
  refine wp_region_quiet_below (by kernel_rfl) (by kernel_rfl) ?_
  repeat (go_big_quiet_step (first | exact cE _ _))
  refine wpQuiet_nil ?_
  intro wz hw'
  obtain ⟨⟨dq, osq⟩, hw''⟩ := hw'
  have hbq := below_regrown W dq osq
  rw [← hw''] at hbq
  have HBz := hide (HB.out.trans (hbq.mono HB.out.size))
  clear hw'' hbq cE
  go_wp2_with fail
  go_ret
  exact ⟨rfl, HBz.out⟩

theorem inf47 : (Try.prog.info? 47).map (·.size) = some 4 := by kernel_rfl

/-- The zero key with a front of numbers laid into it. -/
theorem put_key (r : List Int) (h : r.length ≤ 4) : (put [.int .i64 0, .int .i64 0, .int .i64 0, .int .i64 0] 0 (r.map fun n => Value.int .i64 n)).toArray = (kyOf r).cs := by
  match r, h with
  | [], _ => rfl
  | [_], _ => rfl
  | [_, _], _ => rfl
  | [_, _, _], _ => rfl
  | [_, _, _, _], _ => rfl
  | _ :: _ :: _ :: _ :: _ :: _, h => simp at h

theorem copyK (W : World) (b : Nat) (v : Value) (r : List Int) (h : r.length ≤ 4) (hB : Bx W b 47 #[.int .i64 0, .int .i64 0, .int .i64 0, .int .i64 0]) (hr : Is W v r) :
    ∃ W', (∀ ty, ∃ u, (Builtin.copy_ #[27, 32] ty #[.slice (some ⟨b, 0, none⟩) 4 4, v]).run Try.prog W = .ok u W') ∧ Bx W' b 47 (kyOf r).cs ∧ W.grownBy W' (some b) := by
  obtain ⟨ao, cap, rfl, h1, h2, h3⟩ := hr
  have hi : ∃ i, Try.prog.info? 3 = some i ∧ i.size = 1 := by
    have : (Try.prog.info? 3).map (·.size) = some 1 := by kernel_rfl
    cases hq : Try.prog.info? 3 with
    | none => simp [hq] at this
    | some i => exact ⟨i, rfl, by simpa [hq] using this⟩
  obtain ⟨i, hi, hs⟩ := hi
  have hm : Nat.min r.length 4 = r.length := Nat.min_eq_left h
  refine ⟨W.setCells b 0 (r.map fun n => Value.int .i64 n), fun ty => ⟨goInt (Nat.min r.length 4), ?_⟩, ?_, grown_setCells _ _ _ _⟩
  · cases ao with
    | none =>
      have h0 : r = [] := by
        cases r with
        | nil => rfl
        | cons e r => obtain ⟨g, off, hg, _⟩ := h3 (by simp); cases hg
      subst h0
      simp [Builtin.copy_, run_underlying Try.underlying27, Builtin.lenOf, Builtin.firstCells, sizeOf, typeInfo, hi, World.setCells]
      rfl
    | some a =>
      refine run_copy_sz W 27 32 ty 3 i b 0 4 4 a r.length cap _ Try.underlying27 hi hs (by rw [hm, List.length_map, Nat.mul_one]) (fun j u hu => ?_) (fun j hj => ?_) (fun j _ => ?_) (fun u hu => ?_)
      · have hjl : j < r.length := by
          have := (List.getElem?_eq_some_iff.1 hu).1
          simpa using this
        obtain ⟨g, off, hg, hc⟩ := h3 (by omega)
        cases hg
        rw [Addr.add_lit, hc j hjl]
        simp only [List.getElem?_map, List.getElem?_eq_getElem hjl, Option.map_some] at hu
        rw [← hu]
        simp [atI, hjl]
      · rw [Nat.zero_add, hB.c]
        rw [List.length_map] at hj
        match j, (show j < 4 by omega) with
        | 0, _ => rfl
        | 1, _ => rfl
        | 2, _ => rfl
        | 3, _ => rfl
      · exact hB.f _
      · obtain ⟨n, _, rfl⟩ := List.mem_map.1 hu
        rfl
  · have := heap_setCells (r.map fun n => Value.int .i64 n) 0 W _ hB (by simp; omega)
    rw [put_key r h] at this
    exact this

set_option maxHeartbeats 800000 in
theorem keyOf_any (v : Value) (r : List Int) (w : World) (hr : Is w v r) (h : r.length ≤ 4) :
    Calls Try.prog 19 #[v] w fun e w' => e = .returned (.agg #[.int .i64 (kyOf r).a, .int .i64 (kyOf r).b, .int .i64 (kyOf r).c, .int .i64 (kyOf r).d]) ∧ Below w.heap.size w w' := by
  have hB := below_box2 w (.cells #[.int .i64 0, .int .i64 0, .int .i64 0, .int .i64 0] 47) (.cells #[.int .i64 0, .int .i64 0, .int .i64 0, .int .i64 0] 47)
  have h0 := (Bx.new w #[.int .i64 0, .int .i64 0, .int .i64 0, .int .i64 0] 47).below (below_box _ (.cells #[.int .i64 0, .int .i64 0, .int .i64 0, .int .i64 0] 47))
  have h1 := Bx.new (w.alloc (.cells #[.int .i64 0, .int .i64 0, .int .i64 0, .int .i64 0] 47)) #[.int .i64 0, .int .i64 0, .int .i64 0, .int .i64 0] 47
  rw [World.size_alloc] at h1
  obtain ⟨W', hc, hK, hg⟩ := copyK _ _ v r h h1 (hr.below hB)
  obtain ⟨ao, cap, rfl, _⟩ := id hr
  have hfr : Fr (fun k => k = w.heap.size + 1) _ W' := Fr.of_grown hg (fun k e => by cases e; rfl)
  have h2 := h0.fr hfr (by omega)
  have hW : Below w.heap.size w W' := hB.trans (hfr.below (fun k hk => by omega) hB.size)
  simp only [Ky.cs] at hK
  have c0 := hK.c 0
  have c1 := hK.c 1
  have c2 := hK.c 2
  have c3 := hK.c 3
  have d0 := h2.c 0
  have d1 := h2.c 1
  have d2 := h2.c 2
  have d3 := h2.c 3
  have f0 := h2.f 0
  have f1 := h2.f 1
  have f2 := h2.f 2
  have f3 := h2.f 3
  simp at c0 c1 c2 c3 d0 d1 d2 d3
  have HR : Hid (Bx ((((W'.setCell ⟨w.heap.size, 0, none⟩ (.int .i64 (kyOf r).a)).setCell ⟨w.heap.size, 1, none⟩ (.int .i64 (kyOf r).b)).setCell ⟨w.heap.size, 2, none⟩ (.int .i64 (kyOf r).c)).setCell ⟨w.heap.size, 3, none⟩ (.int .i64 (kyOf r).d)) w.heap.size 47 #[.int .i64 (kyOf r).a, .int .i64 (kyOf r).b, .int .i64 (kyOf r).c, .int .i64 (kyOf r).d]) :=
    (((h2.set 0 _).set 1 _).set 2 _).set 3 _
  have HW := hide ((((hW.setCell (p := ⟨w.heap.size, 0, none⟩) (Nat.le_refl _) (.int .i64 (kyOf r).a)).setCell (p := ⟨w.heap.size, 1, none⟩) (Nat.le_refl _) (.int .i64 (kyOf r).b)).setCell (p := ⟨w.heap.size, 2, none⟩) (Nat.le_refl _) (.int .i64 (kyOf r).c)).setCell (p := ⟨w.heap.size, 3, none⟩) (Nat.le_refl _) (.int .i64 (kyOf r).d))
  obtain ⟨u, hcu⟩ := hc 3
  clear hB h0 h1 hc hK hg hr hfr h2 hW h
  go_enter Try.func19, Try.ntmps19
  go_wp2_with (at_builtin; refine K.wpList_copy_run _ rfl _ _ 27 32 rfl _ _ rfl rfl hcu ?_)
  refine bodyPost_ret (results_cell_row rfl _ _ w.heap.size 47 _ (0, 0) _ rfl HR.out Try.underlying47 rfl inf47) rfl ?_
  exact ⟨rfl, HW.out⟩

theorem lead_at (l : List Int) (k : Nat) (h : k < l.length) (hp : ∀ j, j < k → 0 < atI l j) (hk : atI l k ≤ 0) : leadN l = k := by
  induction l generalizing k with
  | nil => simp at h
  | cons x xs ih =>
    unfold leadN
    cases k with
    | zero =>
      have : ¬ 0 < x := by simpa [atI] using hk
      rw [List.takeWhile_cons_of_neg (by simpa using this)]
      rfl
    | succ k =>
      have : 0 < x := by simpa [atI] using hp 0 (by omega)
      rw [List.takeWhile_cons_of_pos (by simpa using this)]
      have h2 := ih k (by simpa using h) (fun j hj => by simpa [atI] using hp (j + 1) (by omega)) (by simpa [atI] using hk)
      unfold leadN at h2
      rw [List.length_cons, h2]
theorem lead_all (l : List Int) (hp : ∀ j, j < l.length → 0 < atI l j) : leadN l = l.length := by
  induction l with
  | nil => rfl
  | cons x xs ih =>
    unfold leadN
    have : 0 < x := by simpa [atI] using hp 0 (by simp)
    rw [List.takeWhile_cons_of_pos (by simpa using this)]
    have h2 := ih (fun j hj => by simpa [atI] using hp (j + 1) (by simpa using hj))
    unfold leadN at h2
    rw [List.length_cons, h2, List.length_cons]

set_option maxHeartbeats 800000 in
theorem lead_any (p : Ky) (w : World) : Calls Try.prog 23 #[.agg #[.int .i64 p.a, .int .i64 p.b, .int .i64 p.c, .int .i64 p.d]] w fun e w' => e = .returned (.int .i64 (leadN p.l : Int)) ∧ Below w.heap.size w w' := by
  have HB := hide (below_box w (.cells p.cs 47))
  have HP := hide (Bx.new w p.cs 47)
  simp only [Ky.cs] at HB HP
  go_enter Try.func23, Try.ntmps23
  go_wp2_with fail
  generalize w.alloc (.cells #[.int .i64 p.a, .int .i64 p.b, .int .i64 p.c, .int .i64 p.d] 47) = W at *
  go_loopw [3] (fun i wr => ∃ k : Nat, k ≤ 4 ∧ i = .int .i64 k ∧ Hid (∀ j, j < k → 0 < atI p.l j) ∧ wr = W) (fun i _ => 4 - (intOf i).toNat)
  case atStart => exact ⟨0, by omega, rfl, fun j h => absurd h (Nat.not_lt_zero _), rfl⟩
  case round =>
    obtain ⟨k, hk, rfl, HM, hw⟩ := hrel
    have hw' := hw.symm
    subst hw'
    clear hw
    by_cases hlt : k < 4
    · have hltI : (k : Int) < 4 := by omega
      have c0 : W.cell? ⟨w.heap.size, k, none⟩ = some (.int .i64 (atI p.l k)) := (Bx.c (cs := p.cs) HP.out k).trans (p.at4 k hlt)
      by_cases hp : 0 < atI p.l k
      · have HM2 : Hid (∀ j, j < k + 1 → 0 < atI p.l j) := fun j hj => by
          by_cases e : j = k
          · rw [e]; exact hp
          · exact HM.out j (by omega)
        generalize atI p.l k = x at *
        clear HM
        go_wp2_with fail
        go_roundw
        case rel => exact ⟨k + 1, by omega, by simp, HM2, trivial⟩
        case measure => simp [intOf]; omega
      · have HE : Hid (leadN p.l = k) := lead_at p.l k hlt HM.out (by omega)
        generalize atI p.l k = x at *
        clear HM
        go_wp2_with fail
        go_ret
        exact ⟨by rw [HE.out]; rfl, HB.out⟩
    · have hltI : ¬ (k : Int) < 4 := by omega
      have HE : Hid (leadN p.l = k) := by
        have e : k = 4 := by omega
        subst e
        exact lead_all p.l HM.out
      clear HM
      go_wp2_with fail
      go_ret
      exact ⟨by rw [HE.out]; rfl, HB.out⟩
end Go.Proofs.Ytfjcadkihnecdaa
namespace Go.Proofs.Ytfjcadkihnecdaa
open Go.RowKit

theorem four (l : List Int) (h : l.length = 4) : ∃ a b c d, l = [a, b, c, d] := by
  match l, h with
  | [a, b, c, d], _ => exact ⟨a, b, c, d, rfl⟩
theorem upto4 {P : Nat → Prop} (h0 : P 0) (h1 : P 1) (h2 : P 2) (h3 : P 3) : ∀ k, k < 4 → P k := fun k h => by
  match k, h with
  | 0, _ => exact h0
  | 1, _ => exact h1
  | 2, _ => exact h2
  | 3, _ => exact h3
theorem kyOf_set (l : List Int) (h : l.length = 4) (x : Int) : ∀ k, k < 4 → (kyOf l).cs.setIfInBounds k (.int .i64 x) = (kyOf (l.set k x)).cs := by
  obtain ⟨a, b, c, d, rfl⟩ := four l h
  exact upto4 rfl rfl rfl rfl
def lowAt (l : List Int) (n k : Nat) : List Int := l.take n ++ List.replicate (k - n) (-9223372036854775808) ++ l.drop k
theorem lowAt_len (l : List Int) (n k : Nat) (hn : n ≤ k) (hk : k ≤ l.length) : (lowAt l n k).length = l.length := by simp [lowAt]; omega
theorem lowAt_set (l : List Int) (n k : Nat) (hn : n ≤ k) (hk : k < l.length) : (lowAt l n k).set k (-9223372036854775808) = lowAt l n (k + 1) := by
  unfold lowAt
  have e : (l.take n ++ List.replicate (k - n) (-9223372036854775808)).length = k := by simp; omega
  rw [List.set_append_right _ _ (by omega), e, Nat.sub_self, List.drop_eq_getElem_cons hk, List.set_cons_zero, show k + 1 - n = (k - n) + 1 by omega, List.replicate_succ']
  simp
theorem lowAt_end (l : List Int) (n : Nat) (h : l.length = 4) : lowAt l n 4 = lowL l n := by
  unfold lowAt lowL
  rw [h, List.drop_eq_nil_of_le (by omega), List.append_nil]
theorem lowAt_start (l : List Int) (n : Nat) : lowAt l n n = l := by simp [lowAt]

set_option maxHeartbeats 800000 in
theorem low_any (p : Ky) (n : Nat) (hn : n ≤ 4) (w : World) : Calls Try.prog 24 #[.agg #[.int .i64 p.a, .int .i64 p.b, .int .i64 p.c, .int .i64 p.d], .int .i64 (n : Int)] w fun e w' => ∃ q : Ky, q.l = lowL p.l n ∧ e = .returned (.agg #[.int .i64 q.a, .int .i64 q.b, .int .i64 q.c, .int .i64 q.d]) ∧ Below w.heap.size w w' := by
  have HB := hide (below_box2 w (.cells p.cs 47) (.cells #[.int .i64 0, .int .i64 0, .int .i64 0, .int .i64 0] 47))
  have HP := hide ((Bx.new w p.cs 47).below (below_box _ (.cells #[.int .i64 0, .int .i64 0, .int .i64 0, .int .i64 0] 47)))
  have HQ := hide (Bx.new (w.alloc (.cells p.cs 47)) #[.int .i64 0, .int .i64 0, .int .i64 0, .int .i64 0] 47)
  rw [World.size_alloc] at HQ
  simp only [Ky.cs] at HB HP HQ
  go_enter Try.func24, Try.ntmps24
  go_wp2_with fail
  generalize (w.alloc (.cells #[.int .i64 p.a, .int .i64 p.b, .int .i64 p.c, .int .i64 p.d] 47)).alloc (.cells #[.int .i64 0, .int .i64 0, .int .i64 0, .int .i64 0] 47) = W at *
  go_loopw [5] (fun i wr => ∃ k : Nat, n ≤ k ∧ k ≤ 4 ∧ i = .int .i64 k ∧ Hid (Bx wr w.heap.size 47 (kyOf (lowAt p.l n k)).cs) ∧ Hid (Bx wr (w.heap.size + 1) 47 #[.int .i64 0, .int .i64 0, .int .i64 0, .int .i64 0]) ∧ Hid (Below w.heap.size w wr)) (fun i _ => 4 - (intOf i).toNat)
  case atStart => exact ⟨n, Nat.le_refl _, hn, rfl, by rw [lowAt_start]; exact HP, HQ, HB⟩
  case round =>
    obtain ⟨k, hnk, hk, rfl, H1, H2, H3⟩ := hrel
    by_cases hlt : k < 4
    · have hltI : (k : Int) < 4 := by omega
      have hl := lowAt_len p.l n k hnk (by rw [Ky.len]; omega)
      have c0 : wr.cell? ⟨w.heap.size, k, none⟩ = some (.int .i64 (atI (kyOf (lowAt p.l n k)).l k)) := (Bx.c H1.out k).trans (Ky.at4 _ k hlt)
      have f0 := Bx.f H1.out k
      have h1 := Bx.set H1.out k (.int .i64 (-9223372036854775808))
      rw [kyOf_set _ hl _ k hlt, lowAt_set p.l n k hnk (by rw [Ky.len]; omega)] at h1
      have K1 := hide h1
      have K2 := hide (Bx.fr H2.out (Fr.one wr w.heap.size k (.int .i64 (-9223372036854775808))) (by omega))
      have K3 := hide (H3.out.setCell (p := ⟨w.heap.size, k, none⟩) (Nat.le_refl _) (.int .i64 (-9223372036854775808)))
      generalize atI (kyOf (lowAt p.l n k)).l k = x at *
      clear h1 H1 H2 H3 hl HP HQ
      go_wp2_with fail
      go_roundw
      case rel => exact ⟨k + 1, by omega, by omega, by simp, K1, K2, K3⟩
      case measure => simp [intOf]; omega
    · have hltI : ¬ (k : Int) < 4 := by omega
      have e4 : k = 4 := by omega
      subst e4
      rw [lowAt_end _ _ (Ky.len p)] at H1
      have HL : Hid ((kyOf (lowL p.l n)).l = lowL p.l n) := by
        have hl := low_len p.l n (by rw [Ky.len]; omega)
        rw [Ky.len] at hl
        show _ = _
        rw [kyOf_l _ (by omega), hl]
        simp
      generalize kyOf (lowL p.l n) = q at *
      have hK := H1.out
      simp only [Ky.cs] at hK
      have h2 := H2.out
      have c0 := hK.c 0
      have c1 := hK.c 1
      have c2 := hK.c 2
      have c3 := hK.c 3
      have d0 := h2.c 0
      have d1 := h2.c 1
      have d2 := h2.c 2
      have d3 := h2.c 3
      have f0 := h2.f 0
      have f1 := h2.f 1
      have f2 := h2.f 2
      have f3 := h2.f 3
      simp at c0 c1 c2 c3 d0 d1 d2 d3
      have HR : Hid (Bx ((((wr.setCell ⟨w.heap.size + 1, 0, none⟩ (.int .i64 q.a)).setCell ⟨w.heap.size + 1, 1, none⟩ (.int .i64 q.b)).setCell ⟨w.heap.size + 1, 2, none⟩ (.int .i64 q.c)).setCell ⟨w.heap.size + 1, 3, none⟩ (.int .i64 q.d)) (w.heap.size + 1) 47 #[.int .i64 q.a, .int .i64 q.b, .int .i64 q.c, .int .i64 q.d]) :=
        (((h2.set 0 _).set 1 _).set 2 _).set 3 _
      have hle : w.heap.size ≤ w.heap.size + 1 := by omega
      have HW := hide ((((H3.out.setCell (p := ⟨w.heap.size + 1, 0, none⟩) hle (.int .i64 q.a)).setCell (p := ⟨w.heap.size + 1, 1, none⟩) hle (.int .i64 q.b)).setCell (p := ⟨w.heap.size + 1, 2, none⟩) hle (.int .i64 q.c)).setCell (p := ⟨w.heap.size + 1, 3, none⟩) hle (.int .i64 q.d))
      clear H1 H2 H3 HP HQ HB hK h2
      go_wp2_with fail
      refine bodyPost_ret (results_cell_row rfl _ _ (w.heap.size + 1) 47 _ (0, 0) _ rfl HR.out Try.underlying47 rfl inf47) rfl ?_
      exact ⟨q, HL.out, rfl, HW.out⟩

theorem ans_at (a r : List Int) (h : a.length = r.length) : ansB a r = true ↔ ∀ j, j < a.length → atI a j ≤ 0 ∨ atI a j = atI r j := by
  induction a generalizing r with
  | nil => simp [ansB]
  | cons x xs ih =>
    cases r with
    | nil => simp at h
    | cons y ys =>
      have ih' := ih ys (by simpa using h)
      simp only [ansB, List.zip_cons_cons, List.all_cons, Bool.and_eq_true, Bool.or_eq_true, decide_eq_true_eq] at ih' ⊢
      rw [ih']
      constructor
      · rintro ⟨h1, h2⟩ j hj
        cases j with
        | zero => simpa [atI] using h1
        | succ j => simpa [atI] using h2 j (by simpa using hj)
      · intro h1
        exact ⟨by simpa [atI] using h1 0 (by simp), fun j hj => by simpa [atI] using h1 (j + 1) (by simpa using hj)⟩

set_option maxHeartbeats 1600000 in
theorem answers_any (p q : Ky) (w : World) : Calls Try.prog 27 #[.agg #[.int .i64 p.a, .int .i64 p.b, .int .i64 p.c, .int .i64 p.d], .agg #[.int .i64 q.a, .int .i64 q.b, .int .i64 q.c, .int .i64 q.d]] w fun e w' => e = .returned (.bool (ansB q.l p.l)) ∧ Below w.heap.size w w' := by
  have HB := hide (below_box2 w (.cells p.cs 47) (.cells q.cs 47))
  have HP := hide ((Bx.new w p.cs 47).below (below_box _ (.cells q.cs 47)))
  have hq := Bx.new (w.alloc (.cells p.cs 47)) q.cs 47
  rw [World.size_alloc] at hq
  have c0 := hq.c 0
  have c1 := hq.c 1
  have c2 := hq.c 2
  have c3 := hq.c 3
  simp only [Ky.cs] at HB HP c0 c1 c2 c3
  have HA := hide (ans_at q.l p.l rfl)
  clear hq
  go_enter Try.func27, Try.ntmps27
  go_wp2_with fail
  clear c0 c1 c2 c3
  generalize (w.alloc (.cells #[.int .i64 p.a, .int .i64 p.b, .int .i64 p.c, .int .i64 p.d] 47)).alloc (.cells #[.int .i64 q.a, .int .i64 q.b, .int .i64 q.c, .int .i64 q.d] 47) = W at *
  go_loopw [8] (fun i wr => ∃ k : Nat, k ≤ 4 ∧ i = .int .i64 k ∧ Hid (∀ j, j < k → atI q.l j ≤ 0 ∨ atI q.l j = atI p.l j) ∧ wr = W) (fun i _ => 4 - (intOf i).toNat)
  case atStart => exact ⟨0, by omega, rfl, fun j h => absurd h (Nat.not_lt_zero _), rfl⟩
  case round =>
    obtain ⟨k, hk, rfl, HM, hw⟩ := hrel
    have hw' := hw.symm
    subst hw'
    clear hw
    by_cases hlt : k < 4
    · have hk4 : k = 0 ∨ k = 1 ∨ k = 2 ∨ k = 3 := by omega
      rcases hk4 with rfl | rfl | rfl | rfl
      · have hix : (Instr.index 47 (.agg #[.int .i64 q.a, .int .i64 q.b, .int .i64 q.c, .int .i64 q.d]) (.int .i64 ((0 : Nat) : Int))).run Try.prog W = .ok (.int .i64 q.a) W := by kernel_rfl
        have hix2 : (Instr.index 47 (.agg #[.int .i64 q.a, .int .i64 q.b, .int .i64 q.c, .int .i64 q.d]) (.int .i64 0)).run Try.prog W = .ok (.int .i64 q.a) W := by kernel_rfl
        have c0 : W.cell? ⟨w.heap.size, 0, none⟩ = some (.int .i64 p.a) := (Bx.c (cs := p.cs) HP.out 0).trans (p.at4 0 (by omega))
        have HS : Hid (q.a ≤ 0 ∨ q.a = p.a → ∀ j, j < 1 → atI q.l j ≤ 0 ∨ atI q.l j = atI p.l j) := fun h j hj => by
          by_cases e : j = 0
          · subst e; exact h
          · exact HM.out j (by omega)
        have HF : Hid (¬ (q.a ≤ 0 ∨ q.a = p.a) → ansB q.l p.l = false) := fun h => by
          rw [Bool.eq_false_iff]
          intro ha
          exact h (HA.out.1 ha 0 (by rw [Ky.len]; omega))
        clear HM
        by_cases h1 : 0 < q.a
        · have g1 : decide (0 < q.a) = true := by simpa using h1
          by_cases h2 : p.a = q.a
          · have HS1 := hide (HS.out (.inr h2.symm))
            have g2 : (p.a != q.a) = false := by simp [h2]
            have g3 : (q.a != q.a) = false := by simp
            go_wp2_with fail
            go_roundw
            case rel => exact ⟨1, by omega, by simp, HS1, trivial⟩
            case measure => simp [intOf]
          · have HF1 := hide (HF.out (by omega))
            have g2 : (p.a != q.a) = true := by simp [h2]
            go_wp2_with fail
            go_ret
            exact ⟨by rw [HF1.out]; rfl, HB.out⟩
        · have HS1 := hide (HS.out (.inl (by omega)))
          have g1 : decide (0 < q.a) = false := by simpa using h1
          go_wp2_with fail
          go_roundw
          case rel => exact ⟨1, by omega, by simp, HS1, trivial⟩
          case measure => simp [intOf]
      · have hix : (Instr.index 47 (.agg #[.int .i64 q.a, .int .i64 q.b, .int .i64 q.c, .int .i64 q.d]) (.int .i64 ((1 : Nat) : Int))).run Try.prog W = .ok (.int .i64 q.b) W := by kernel_rfl
        have hix2 : (Instr.index 47 (.agg #[.int .i64 q.a, .int .i64 q.b, .int .i64 q.c, .int .i64 q.d]) (.int .i64 1)).run Try.prog W = .ok (.int .i64 q.b) W := by kernel_rfl
        have c0 : W.cell? ⟨w.heap.size, 1, none⟩ = some (.int .i64 p.b) := (Bx.c (cs := p.cs) HP.out 1).trans (p.at4 1 (by omega))
        have HS : Hid (q.b ≤ 0 ∨ q.b = p.b → ∀ j, j < 2 → atI q.l j ≤ 0 ∨ atI q.l j = atI p.l j) := fun h j hj => by
          by_cases e : j = 1
          · subst e; exact h
          · exact HM.out j (by omega)
        have HF : Hid (¬ (q.b ≤ 0 ∨ q.b = p.b) → ansB q.l p.l = false) := fun h => by
          rw [Bool.eq_false_iff]
          intro ha
          exact h (HA.out.1 ha 1 (by rw [Ky.len]; omega))
        clear HM
        by_cases h1 : 0 < q.b
        · have g1 : decide (0 < q.b) = true := by simpa using h1
          by_cases h2 : p.b = q.b
          · have HS1 := hide (HS.out (.inr h2.symm))
            have g2 : (p.b != q.b) = false := by simp [h2]
            have g3 : (q.b != q.b) = false := by simp
            go_wp2_with fail
            go_roundw
            case rel => exact ⟨2, by omega, by simp, HS1, trivial⟩
            case measure => simp [intOf]
          · have HF1 := hide (HF.out (by omega))
            have g2 : (p.b != q.b) = true := by simp [h2]
            go_wp2_with fail
            go_ret
            exact ⟨by rw [HF1.out]; rfl, HB.out⟩
        · have HS1 := hide (HS.out (.inl (by omega)))
          have g1 : decide (0 < q.b) = false := by simpa using h1
          go_wp2_with fail
          go_roundw
          case rel => exact ⟨2, by omega, by simp, HS1, trivial⟩
          case measure => simp [intOf]
      · have hix : (Instr.index 47 (.agg #[.int .i64 q.a, .int .i64 q.b, .int .i64 q.c, .int .i64 q.d]) (.int .i64 ((2 : Nat) : Int))).run Try.prog W = .ok (.int .i64 q.c) W := by kernel_rfl
        have hix2 : (Instr.index 47 (.agg #[.int .i64 q.a, .int .i64 q.b, .int .i64 q.c, .int .i64 q.d]) (.int .i64 2)).run Try.prog W = .ok (.int .i64 q.c) W := by kernel_rfl
        have c0 : W.cell? ⟨w.heap.size, 2, none⟩ = some (.int .i64 p.c) := (Bx.c (cs := p.cs) HP.out 2).trans (p.at4 2 (by omega))
        have HS : Hid (q.c ≤ 0 ∨ q.c = p.c → ∀ j, j < 3 → atI q.l j ≤ 0 ∨ atI q.l j = atI p.l j) := fun h j hj => by
          by_cases e : j = 2
          · subst e; exact h
          · exact HM.out j (by omega)
        have HF : Hid (¬ (q.c ≤ 0 ∨ q.c = p.c) → ansB q.l p.l = false) := fun h => by
          rw [Bool.eq_false_iff]
          intro ha
          exact h (HA.out.1 ha 2 (by rw [Ky.len]; omega))
        clear HM
        by_cases h1 : 0 < q.c
        · have g1 : decide (0 < q.c) = true := by simpa using h1
          by_cases h2 : p.c = q.c
          · have HS1 := hide (HS.out (.inr h2.symm))
            have g2 : (p.c != q.c) = false := by simp [h2]
            have g3 : (q.c != q.c) = false := by simp
            go_wp2_with fail
            go_roundw
            case rel => exact ⟨3, by omega, by simp, HS1, trivial⟩
            case measure => simp [intOf]
          · have HF1 := hide (HF.out (by omega))
            have g2 : (p.c != q.c) = true := by simp [h2]
            go_wp2_with fail
            go_ret
            exact ⟨by rw [HF1.out]; rfl, HB.out⟩
        · have HS1 := hide (HS.out (.inl (by omega)))
          have g1 : decide (0 < q.c) = false := by simpa using h1
          go_wp2_with fail
          go_roundw
          case rel => exact ⟨3, by omega, by simp, HS1, trivial⟩
          case measure => simp [intOf]
      · have hix : (Instr.index 47 (.agg #[.int .i64 q.a, .int .i64 q.b, .int .i64 q.c, .int .i64 q.d]) (.int .i64 ((3 : Nat) : Int))).run Try.prog W = .ok (.int .i64 q.d) W := by kernel_rfl
        have hix2 : (Instr.index 47 (.agg #[.int .i64 q.a, .int .i64 q.b, .int .i64 q.c, .int .i64 q.d]) (.int .i64 3)).run Try.prog W = .ok (.int .i64 q.d) W := by kernel_rfl
        have c0 : W.cell? ⟨w.heap.size, 3, none⟩ = some (.int .i64 p.d) := (Bx.c (cs := p.cs) HP.out 3).trans (p.at4 3 (by omega))
        have HS : Hid (q.d ≤ 0 ∨ q.d = p.d → ∀ j, j < 4 → atI q.l j ≤ 0 ∨ atI q.l j = atI p.l j) := fun h j hj => by
          by_cases e : j = 3
          · subst e; exact h
          · exact HM.out j (by omega)
        have HF : Hid (¬ (q.d ≤ 0 ∨ q.d = p.d) → ansB q.l p.l = false) := fun h => by
          rw [Bool.eq_false_iff]
          intro ha
          exact h (HA.out.1 ha 3 (by rw [Ky.len]; omega))
        clear HM
        by_cases h1 : 0 < q.d
        · have g1 : decide (0 < q.d) = true := by simpa using h1
          by_cases h2 : p.d = q.d
          · have HS1 := hide (HS.out (.inr h2.symm))
            have g2 : (p.d != q.d) = false := by simp [h2]
            have g3 : (q.d != q.d) = false := by simp
            go_wp2_with fail
            go_roundw
            case rel => exact ⟨4, by omega, by simp, HS1, trivial⟩
            case measure => simp [intOf]
          · have HF1 := hide (HF.out (by omega))
            have g2 : (p.d != q.d) = true := by simp [h2]
            go_wp2_with fail
            go_ret
            exact ⟨by rw [HF1.out]; rfl, HB.out⟩
        · have HS1 := hide (HS.out (.inl (by omega)))
          have g1 : decide (0 < q.d) = false := by simpa using h1
          go_wp2_with fail
          go_roundw
          case rel => exact ⟨4, by omega, by simp, HS1, trivial⟩
          case measure => simp [intOf]
    · have hltI : ¬ (k : Int) < 4 := by omega
      have HE : Hid (ansB q.l p.l = true) := HA.out.2 (fun j hj => HM.out j (by rw [Ky.len] at hj; omega))
      clear HM
      go_wp2_with fail
      go_ret
      exact ⟨by rw [HE.out]; rfl, HB.out⟩

def cI (ns : List Int) : List Value := ns.map fun n => Value.int .i64 n
theorem cI_len (ns : List Int) : (cI ns).length = ns.length := by simp [cI]
theorem cI_at {ns : List Int} {j : Nat} (h : j < ns.length) : (cI ns)[j]? = some (.int .i64 (atI ns j)) := by simp [cI, atI, h]
theorem cI_one (ns : List Int) : ∀ u ∈ cI ns, u.oneCell' = true := by
  intro u hu
  obtain ⟨n, _, rfl⟩ := List.mem_map.1 hu
  rfl
theorem Is.of_own {w : World} {base : Nat} {v : Value} {ns : List Int} (h : w.ownsRow base 3 1 v ns.length (cI ns)) : Is w v ns := by
  rcases h.2 with ⟨rfl, h0⟩ | ⟨g, cap, cur, rfl, _, hg, hn, hc, hs, ht⟩
  · have : ns = [] := List.eq_nil_of_length_eq_zero h0
    subst this
    exact ⟨none, 0, rfl, Nat.le_refl _, by simp [maxLen], fun h => by simp at h⟩
  · refine ⟨_, cap, rfl, hn, hc, fun _ => ⟨g, 0, rfl, fun j hj => ?_⟩⟩
    rw [Nat.zero_add, h.cellAt j (by omega), cI_at hj]

theorem Try.inf3 : (Try.prog.info? 3).map (fun i => (i.zero, i.size, i.bytes)) = some (some (.int .i64 0), 1, 8) := by kernel_rfl

/-- A whole row is written over. -/
theorem own_fill {w : World} {base g n : Nat} {xs : List Value} (h : w.ownsRow base 3 1 (.slice (some ⟨g, 0, none⟩) n n) n xs) (l : List Int) (hl : l.length = n) :
    (w.setCells g 0 (cI l)).ownsRow base 3 1 (.slice (some ⟨g, 0, none⟩) n n) n (cI l) ∧ (∀ j, j < n → (w.cell? ⟨g, 0 + j, none⟩).isSome = true) ∧ (∀ j, w.frozen? ⟨g, j, none⟩ = false) ∧ base ≤ g ∧ g < w.heap.size := by
  rcases h.2 with ⟨hv, _⟩ | ⟨g', cap, cur, e, hb, hg, hn, hc, hs, ht⟩
  · simp at hv
  · simp only [Value.slice.injEq, Option.some.injEq, Addr.mk.injEq, and_true, true_and] at e
    obtain ⟨rfl, rfl⟩ := e
    have hsz : cur.size = n := by simpa using hs
    have hcl : cur.toList.length = n := by rw [Array.length_toList]; exact hsz
    have hh := heap_setCells (cI l) 0 w cur hg (by rw [cI_len]; omega)
    refine ⟨own_base (own_of_heap hh (Nat.le_refl _) hc ?_ ?_) (fun k hk => by simp [Value.ownBlock] at hk; omega), fun j hj => ?_, fun j => K.frozen_of_heap hg j, hb, (Array.getElem?_eq_some_iff.1 hg).1⟩
    · rw [List.size_toArray, put_len cur.toList 0 (cI l) (by rw [cI_len]; omega), hcl, Nat.mul_one]
    · simp only [put, List.take_zero, List.nil_append, Nat.zero_add, Nat.mul_one]
      rw [List.drop_eq_nil_of_le (by rw [cI_len]; omega), List.append_nil, List.take_of_length_le (by rw [cI_len]; omega)]
    · rw [Nat.zero_add]
      exact K.some_of_heap hg j (by omega)

set_option maxHeartbeats 800000 in
theorem row_any (p : Ky) (n : Nat) (hn : n ≤ 4) (w : World) : Calls Try.prog 28 #[.agg #[.int .i64 p.a, .int .i64 p.b, .int .i64 p.c, .int .i64 p.d], .int .i64 (n : Int)] w fun e w' => ∃ v, e = .returned v ∧ w'.ownsRow w.heap.size 3 1 v n (cI (p.l.take n)) ∧ Below w.heap.size w w' := by
  have hnI : (n : Int) ≤ 4 := by omega
  obtain ⟨i, hi, hz, hs, hby⟩ := info_parts Try.inf3
  have hB := below_box w (.cells p.cs 47)
  have hP := Bx.new w p.cs 47
  obtain ⟨W2, hmk, hown, hgr⟩ := run_makeSlice_full (P := Try.prog) (w.alloc (.cells p.cs 47)) w.heap.size 32 3 i _ 1 Try.underlying32 hi hz hs .i64 .i64 n (by omega) (by rw [hby]; omega) (by simp only [maxLen]; omega) (by simp)
  rw [World.size_alloc] at hmk hown
  have hl : (p.l.take n).length = n := by rw [List.length_take, Ky.len]; omega
  obtain ⟨hf, hc, hfz, hge, hlt⟩ := own_fill hown (p.l.take n) hl
  have hfr : Fr (fun _ => False) _ W2 := Fr.of_grown hgr (by simp)
  have hP2 := hP.fr hfr id
  have hB2 : Below w.heap.size w W2 := hB.trans (hfr.below (fun _ h => h.elim) hB.size)
  have hcp : ∀ ty, (Builtin.copy_ #[32, 27] ty #[.slice (some ⟨w.heap.size + 1, 0, none⟩) n n, .slice (some ⟨w.heap.size, 0, none⟩) 4 4]).run Try.prog W2 = .ok (goInt (Nat.min 4 n)) (W2.setCells (w.heap.size + 1) 0 (cI (p.l.take n))) := fun ty => by
    refine run_copy_sz W2 32 27 ty 3 i (w.heap.size + 1) 0 n n ⟨w.heap.size, 0, none⟩ 4 4 _ Try.underlying32 hi hs (by rw [cI_len, hl, Nat.mul_one]; exact (Nat.min_eq_right hn).symm) (fun j u hu => ?_) (fun j hj => ?_) (fun j _ => hfz _) (cI_one _)
    · have hjl : j < n := by
        have := (List.getElem?_eq_some_iff.1 hu).1
        rwa [cI_len, hl] at this
      rw [Addr.add_lit, Nat.zero_add, hP2.c, p.at4 j (by omega), ← hu, cI_at (by omega)]
      simp [atI, hjl]
    · rw [cI_len, hl] at hj
      exact hc j hj
  have HF := hide hf
  have HB3 : Hid (Below w.heap.size w (W2.setCells (w.heap.size + 1) 0 (cI (p.l.take n)))) := hB2.trans ((Fr.of_grown (F := fun k => k = w.heap.size + 1) (grown_setCells (w.heap.size + 1) (cI (p.l.take n)) 0 W2) (fun k e => by cases e; rfl)).below (fun k hk => by omega) hB2.size)
  simp only [Ky.cs] at hmk
  clear hf hc hfz hge hlt hfr hP2 hB2 hP hB hown hgr hi hz hs hby hl
  go_enter Try.func28, Try.ntmps28
  go_wp2_with (at_builtin; refine K.wpList_copy_run _ rfl _ _ 32 27 rfl _ _ rfl rfl (hcp _) ?_)
  go_ret
  exact ⟨_, rfl, HF.out, HB3.out⟩
end Go.Proofs.Ytfjcadkihnecdaa
namespace Go.Proofs.Ytfjcadkihnecdaa
open Go.RowKit

def cellsK (ks : List Ky) : List Value := ks.flatMap fun k => k.cs.toList
theorem cellsK_len : ∀ ks : List Ky, (cellsK ks).length = ks.length * 4
  | [] => rfl
  | z :: r => by
    have := cellsK_len r
    simp [cellsK, Ky.cs] at this ⊢
    omega
theorem cellsK_append (a b : List Ky) : cellsK (a ++ b) = cellsK a ++ cellsK b := by simp [cellsK]
theorem cellsK_cons (z : Ky) (b : List Ky) : cellsK (z :: b) = .int .i64 z.a :: .int .i64 z.b :: .int .i64 z.c :: .int .i64 z.d :: cellsK b := by simp [cellsK, Ky.cs]
theorem cellsK_one (ks : List Ky) : ∀ u ∈ cellsK ks, u.oneCell' = true := by
  intro u hu
  obtain ⟨k, _, hk⟩ := List.mem_flatMap.1 hu
  simp [Ky.cs] at hk
  rcases hk with rfl | rfl | rfl | rfl <;> rfl
theorem cellsK_get (ks : List Ky) (i : Nat) (h : i < ks.length) : (cellsK ks)[i * 4]? = some (.int .i64 ks[i].a) ∧ (cellsK ks)[i * 4 + 1]? = some (.int .i64 ks[i].b) ∧ (cellsK ks)[i * 4 + 2]? = some (.int .i64 ks[i].c) ∧ (cellsK ks)[i * 4 + 3]? = some (.int .i64 ks[i].d) := by
  have e : ks = ks.take i ++ ks[i] :: ks.drop (i + 1) := by simp
  have hl : (cellsK (ks.take i)).length = i * 4 := by rw [cellsK_len, List.length_take]; congr 1; omega
  have e2 : cellsK ks = cellsK (ks.take i) ++ (.int .i64 ks[i].a :: .int .i64 ks[i].b :: .int .i64 ks[i].c :: .int .i64 ks[i].d :: cellsK (ks.drop (i + 1))) := by
    rw [← cellsK_cons, ← cellsK_append, ← e]
  rw [e2]
  refine ⟨?_, ?_, ?_, ?_⟩ <;> rw [List.getElem?_append_right (by omega), hl]
  · simp
  · rw [Nat.add_sub_cancel_left]; rfl
  · rw [Nat.add_sub_cancel_left]; rfl
  · rw [Nat.add_sub_cancel_left]; rfl

/-- Four cells that hold a key. -/
def K4 (w : World) (g o : Nat) (k : Ky) : Prop := w.cell? ⟨g, o, none⟩ = some (.int .i64 k.a) ∧ w.cell? ⟨g, o + 1, none⟩ = some (.int .i64 k.b) ∧ w.cell? ⟨g, o + 2, none⟩ = some (.int .i64 k.c) ∧ w.cell? ⟨g, o + 3, none⟩ = some (.int .i64 k.d)
/-- A slice value that reads as these keys. -/
def Ks (w : World) (v : Value) (ks : List Ky) : Prop :=
  ∃ ao cap, v = .slice ao ks.length cap ∧ ks.length ≤ cap ∧ cap ≤ maxLen ∧ (0 < ks.length → ∃ g off, ao = some ⟨g, off, none⟩ ∧ ∀ j (h : j < ks.length), K4 w g (off + j * 4) ks[j])
theorem Ks.below {w w' : World} {v : Value} {ks : List Ky} (h : Ks w v ks) (hb : Below w.heap.size w w') : Ks w' v ks := by
  obtain ⟨ao, cap, hv, h1, h2, h4⟩ := h
  refine ⟨ao, cap, hv, h1, h2, fun hp => ?_⟩
  obtain ⟨g, off, ha, hc⟩ := h4 hp
  exact ⟨g, off, ha, fun j hj => ⟨cell_below' (hc j hj).1 hb, cell_below' (hc j hj).2.1 hb, cell_below' (hc j hj).2.2.1 hb, cell_below' (hc j hj).2.2.2 hb⟩⟩
theorem Ks.of_own {w : World} {base : Nat} {v : Value} {ks : List Ky} (h : w.ownsRow base 47 4 v ks.length (cellsK ks)) : Ks w v ks := by
  rcases h.2 with ⟨rfl, h0⟩ | ⟨g, cap, cur, rfl, _, hg, hn, hc, hs, ht⟩
  · have : ks = [] := List.eq_nil_of_length_eq_zero h0
    subst this
    exact ⟨none, 0, rfl, Nat.le_refl _, by simp [maxLen], fun h => by simp at h⟩
  · refine ⟨_, cap, rfl, hn, hc, fun _ => ⟨g, 0, rfl, fun j hj => ?_⟩⟩
    obtain ⟨k0, k1, k2, k3⟩ := cellsK_get ks j hj
    rw [Nat.zero_add]
    refine ⟨?_, ?_, ?_, ?_⟩ <;> rw [h.cellAt _ (by omega)] <;> assumption

def fnd (B : List Ky) (k : Ky) : Bool := match B with
  | [] => false
  | x :: _ => decide (cmpL x.l k.l = 0)

set_option maxHeartbeats 1600000 in
theorem bsK_any (v : Value) (A B : List Ky) (k : Ky) (w : World) (hv : Ks w v (A ++ B)) (hl : (A ++ B).length ≤ 1000000000) (hA : ∀ x ∈ A, cmpL x.l k.l < 0) (hB : ∀ x ∈ B, ¬ cmpL x.l k.l < 0) :
    Calls Try.prog 33 #[v, .agg #[.int .i64 k.a, .int .i64 k.b, .int .i64 k.c, .int .i64 k.d], .func (.func 34) #[] #[]] w fun e w' => e = .returned (.tuple #[.int .i64 (A.length : Int), .bool (fnd B k)]) ∧ Below w.heap.size w w' := by
  have HBW := hide (below_box w (.cells k.cs 47))
  have HK := hide (Bx.new w k.cs 47)
  simp only [Ky.cs] at HBW HK
  obtain ⟨ao, cap, rfl, h1, h2, h4⟩ := hv
  obtain ⟨N, hN⟩ : ∃ N, (A ++ B).length = N := ⟨_, rfl⟩
  have HC : Hid (0 < N → ∃ g off, ao = some ⟨g, off, none⟩ ∧ ∀ j (h : j < (A ++ B).length), K4 w g (off + j * 4) (A ++ B)[j]) := fun hp => h4 (by omega)
  obtain ⟨q, hq⟩ : ∃ q, A.length = q := ⟨_, rfl⟩
  have hqN : q ≤ N := by rw [← hN, ← hq]; simp
  have HL : Hid (∀ i (h : i < (A ++ B).length), i < q → cmpL (A ++ B)[i].l k.l < 0) := fun i h hi => by
    rw [List.getElem_append_left (by omega)]
    exact hA _ (List.getElem_mem _)
  have HH : Hid (∀ i (h : i < (A ++ B).length), q ≤ i → ¬ cmpL (A ++ B)[i].l k.l < 0) := fun i h hi => by
    rw [List.getElem_append_right (by omega)]
    exact hB _ (List.getElem_mem _)
  have HF : Hid (∀ (h : q < (A ++ B).length), fnd B k = decide (cmpL (A ++ B)[q].l k.l = 0)) := fun h => by
    rw [List.getElem_append_right (by omega)]
    cases B with
    | nil => simp at h; omega
    | cons x r => simp [fnd, hq]
  have HF0 : Hid (¬ q < N → fnd B k = false) := fun h => by
    cases B with
    | nil => rfl
    | cons x r => simp at hN; omega
  have HNN := hide hN
  rw [hN, hq]
  rw [hN] at hl
  clear h4 h1 h2 hA hB hN hq
  generalize A ++ B = ks at *
  generalize fnd B k = fb at *
  clear A B
  go_enter Try.func33, Try.ntmps33
  go_wp2_with fail
  generalize w.alloc (.cells #[.int .i64 k.a, .int .i64 k.b, .int .i64 k.c, .int .i64 k.d] 47) = W at *
  have HCW : Hid (0 < N → ∃ g off, ao = some ⟨g, off, none⟩ ∧ ∀ j (h : j < ks.length), K4 W g (off + j * 4) ks[j]) := fun hp => by
    obtain ⟨g, off, e, h⟩ := HC.out hp
    exact ⟨g, off, e, fun j hj => ⟨cell_below' (h j hj).1 HBW.out, cell_below' (h j hj).2.1 HBW.out, cell_below' (h j hj).2.2.1 HBW.out, cell_below' (h j hj).2.2.2 HBW.out⟩⟩
  clear HC
  go_loopw [9, 10] (fun x y wr => ∃ i j : Nat, x = .int .i64 i ∧ y = .int .i64 j ∧ i ≤ q ∧ q ≤ j ∧ j ≤ N ∧ Hid (Below W.heap.size W wr)) (fun x y _ => (intOf y).toNat - (intOf x).toNat)
  case atStart => exact ⟨0, N, rfl, rfl, Nat.zero_le _, hqN, Nat.le_refl _, Below.refl _ _⟩
  case round =>
    obtain ⟨i, j, rfl, rfl, hi, hj, hjN, HB⟩ := hrel
    have hX := Bx.below HK.out HB.out
    have x0 := hX.c 0
    have x1 := hX.c 1
    have x2 := hX.c 2
    have x3 := hX.c 3
    simp at x0 x1 x2 x3
    clear hX
    by_cases hlt : i < j
    · have hltI : (i : Int) < (j : Int) := by omega
      obtain ⟨m, hm⟩ : ∃ m : Nat, m = (i + j) / 2 := ⟨_, rfl⟩
      have hm1 : i ≤ m := by omega
      have hm2 : m < j := by omega
      have HMe := hide hm
      clear hm
      obtain ⟨g, off, rfl, hc⟩ := HCW.out (by omega)
      have hmk : m < ks.length := by rw [HNN.out]; omega
      obtain ⟨k0, k1, k2, k3⟩ := hc m hmk
      have k0 := cell_below' k0 HB.out
      have k1 := cell_below' k1 HB.out
      have k2 := cell_below' k2 HB.out
      have k3 := cell_below' k3 HB.out
      have HLm := hide (HL.out m hmk)
      have HHm := hide (HH.out m hmk)
      have hmI : (m : Int) < (N : Int) := by omega
      generalize ks[m] = z at *
      have cE : ∀ d os, Calls Try.prog 34 #[.agg #[.int .i64 z.a, .int .i64 z.b, .int .i64 z.c, .int .i64 z.d], .agg #[.int .i64 k.a, .int .i64 k.b, .int .i64 k.c, .int .i64 k.d]] (Sort.grow (redrawn wr d) os) fun e w'' => e = .returned (.int .i64 (cmpL z.l k.l)) ∧ ∃ p : Regrown, w'' = Sort.grow (redrawn wr p.d) p.os := fun d os => Calls.regrown_of (cmp_any z k _)
      obtain ⟨cv, hcv⟩ : ∃ cv, cmpL z.l k.l = cv := ⟨_, rfl⟩
      rw [hcv] at cE HLm HHm
      clear hc hcv
      by_cases hneg : cv < 0
      · have hmq : m < q := by
          by_cases h : m < q
          · exact h
          · exact absurd hneg (by have := HHm.out (by omega); omega)
        have g1 : decide (cv < 0) = true := by simpa using hneg
        go_wp2_with fail
        rw [show ((i : Int) + (j : Int)) / 2 = (m : Int) by have := HMe.out; omega]
        have x0 := cell_regrown x0
        have x1 := cell_regrown x1
        have x2 := cell_regrown x2
        have x3 := cell_regrown x3
        have k0 := cell_regrown k0
        have k1 := cell_regrown k1
        have k2 := cell_regrown k2
        have k3 := cell_regrown k3
        refine wp_region_quiet_below (by kernel_rfl) (by kernel_rfl) ?_
        repeat (go_big_quiet_step (first | exact cE _ _))
        refine wpQuiet_nil ?_
        intro wz hw'
        obtain ⟨⟨dq, osq⟩, hw''⟩ := hw'
        have hbq := below_regrown wr dq osq
        rw [← hw''] at hbq
        have HBz := hide (HB.out.trans (hbq.mono HB.out.size))
        clear hw'' hbq cE x0 x1 x2 x3 k0 k1 k2 k3
        go_wp2_with fail
        go_roundw
        case rel => exact ⟨m + 1, j, by go_num, rfl, by omega, hj, hjN, HBz⟩
        case measure => simp [intOf]; omega
      · have hmq : q ≤ m := by
          by_cases h : q ≤ m
          · exact h
          · exact absurd (HLm.out (by omega)) hneg
        have g1 : decide (cv < 0) = false := by simpa using hneg
        go_wp2_with fail
        rw [show ((i : Int) + (j : Int)) / 2 = (m : Int) by have := HMe.out; omega]
        have x0 := cell_regrown x0
        have x1 := cell_regrown x1
        have x2 := cell_regrown x2
        have x3 := cell_regrown x3
        have k0 := cell_regrown k0
        have k1 := cell_regrown k1
        have k2 := cell_regrown k2
        have k3 := cell_regrown k3
        refine wp_region_quiet_below (by kernel_rfl) (by kernel_rfl) ?_
        repeat (go_big_quiet_step (first | exact cE _ _))
        refine wpQuiet_nil ?_
        intro wz hw'
        obtain ⟨⟨dq, osq⟩, hw''⟩ := hw'
        have hbq := below_regrown wr dq osq
        rw [← hw''] at hbq
        have HBz := hide (HB.out.trans (hbq.mono HB.out.size))
        clear hw'' hbq cE x0 x1 x2 x3 k0 k1 k2 k3
        go_wp2_with fail
        go_roundw
        case rel => exact ⟨i, m, rfl, rfl, hi, hmq, by omega, HBz⟩
        case measure => simp [intOf]; omega
    · have hiq : i = q := by omega
      subst hiq
      have hltI : ¬ (i : Int) < (j : Int) := by omega
      by_cases hin : i < N
      · have hinI : (i : Int) < (N : Int) := by omega
        obtain ⟨g, off, rfl, hc⟩ := HCW.out (by omega)
        have hmk : i < ks.length := by rw [HNN.out]; omega
        obtain ⟨k0, k1, k2, k3⟩ := hc i hmk
        have k0 := cell_below' k0 HB.out
        have k1 := cell_below' k1 HB.out
        have k2 := cell_below' k2 HB.out
        have k3 := cell_below' k3 HB.out
        have HFm := hide (HF.out hmk)
        generalize ks[i] = z at *
        have cE : ∀ d os, Calls Try.prog 34 #[.agg #[.int .i64 z.a, .int .i64 z.b, .int .i64 z.c, .int .i64 z.d], .agg #[.int .i64 k.a, .int .i64 k.b, .int .i64 k.c, .int .i64 k.d]] (Sort.grow (redrawn wr d) os) fun e w'' => e = .returned (.int .i64 (cmpL z.l k.l)) ∧ ∃ p : Regrown, w'' = Sort.grow (redrawn wr p.d) p.os := fun d os => Calls.regrown_of (cmp_any z k _)
        obtain ⟨cv, hcv⟩ : ∃ cv, cmpL z.l k.l = cv := ⟨_, rfl⟩
        rw [hcv] at cE HFm
        obtain ⟨bz, hbz⟩ : ∃ bz, (cv == 0) = bz := ⟨_, rfl⟩
        have HR : Hid (fb = bz) := by
          show _ = _
          rw [HFm.out, ← hbz]
          rfl
        clear hc hcv
        go_wp2_with fail
        have x0 := cell_regrown x0
        have x1 := cell_regrown x1
        have x2 := cell_regrown x2
        have x3 := cell_regrown x3
        have k0 := cell_regrown k0
        have k1 := cell_regrown k1
        have k2 := cell_regrown k2
        have k3 := cell_regrown k3
        have g1 : decide ((i : Int) < (N : Int)) = true := by simpa using hin
        refine wp_region_quiet_below (by kernel_rfl) (by kernel_rfl) ?_
        repeat (go_big_quiet_step (first | exact cE _ _))
        refine wpQuiet_nil ?_
        intro wz hw'
        obtain ⟨⟨dq, osq⟩, hw''⟩ := hw'
        have hbq := below_regrown wr dq osq
        rw [← hw''] at hbq
        have HBz := hide (HBW.out.trans ((HB.out.trans (hbq.mono HB.out.size)).mono HBW.out.size))
        clear hw'' hbq cE x0 x1 x2 x3 k0 k1 k2 k3
        go_wp2_with fail
        go_ret2
        exact ⟨by rw [HR.out]; rfl, HBz.out⟩
      · have hinI : ¬ (i : Int) < (N : Int) := by omega
        have HR := hide (HF0.out hin)
        have g1 : decide ((i : Int) < (N : Int)) = false := by simpa using hin
        clear x0 x1 x2 x3
        go_wp2_with fail
        refine wp_region_quiet_below (by kernel_rfl) (by kernel_rfl) ?_
        repeat (go_big_quiet_step (fail))
        refine wpQuiet_nil ?_
        intro wz hw'
        obtain ⟨⟨dq, osq⟩, hw''⟩ := hw'
        have hbq := below_regrown wr dq osq
        rw [← hw''] at hbq
        have HBz := hide (HBW.out.trans ((HB.out.trans (hbq.mono HB.out.size)).mono HBW.out.size))
        clear hw'' hbq
        go_wp2_with fail
        go_ret2
        exact ⟨by rw [HR.out]; rfl, HBz.out⟩
end Go.Proofs.Ytfjcadkihnecdaa

/- CommandBytes: what it calls: a command cut short, what may be, the first bytes. A region that draws its order, told by states: one proof for each step, not one for each order. CommandBytes: the region that writes the document's bytes: its states. CommandBytes: steps. CommandBytes: steps. -/
import Derived.Test.YtgknpbgepgmmmaaPart07
import Derived.Test.YtgknpbgepgmmmaaPart08
import Derived.Test.YtgknpbgepgmmmaaPart06
import Derived.Deep.RegionHeld
namespace Go.Proofs.Ytgknpbgepgmmmaa.Cm
open Go.RowKit Bn Kp

theorem cutS200 (t : List UInt8) (W : World) (hl : t.length ≤ 9223372036854775807) :
    Calls Try.prog 29 #[tx t, .int .i64 200] W fun e w' => e = .returned (tx (t.take 200)) ∧ w' = W := by
  have hs := tx_size t
  obtain ⟨T, hT⟩ : ∃ T : ByteArray, Hid (⟨t.toArray⟩ = T) := ⟨_, (rfl : _ = _)⟩
  obtain ⟨U, hU⟩ : ∃ U : ByteArray, Hid (⟨(t.take 200).toArray⟩ = U) := ⟨_, (rfl : _ = _)⟩
  rw [tx, tx, hT.out, hU.out]
  rw [hT.out] at hs
  by_cases h : 200 < t.length
  · have hI : (200 : Int) < ((T.size : Nat) : Int) := by omega
    have he : Hid (T.extract 0 200 = U) := by
      show _ = _
      rw [← hT.out, ← hU.out]
      apply ByteArray.ext
      simp [ByteArray.extract, ByteArray.copySlice]
    clear hs h
    go_enter Try.func29, Try.ntmps29
    go_wp2_with fail
    go_ret
    rw [he.out]
    exact ⟨rfl, rfl⟩
  · have hI : ¬ (200 : Int) < ((T.size : Nat) : Int) := by omega
    have he : Hid (T = U) := by
      show _ = _
      rw [← hT.out, ← hU.out, List.take_of_length_le (by omega)]
    clear hs h
    rw [← he.out]
    go_enter Try.func29, Try.ntmps29
    go_wp2_with fail
    go_ret
    exact ⟨rfl, rfl⟩

set_option maxRecDepth 4000 in
set_option maxHeartbeats 2000000 in
theorem mayRef_any (k c q : Int) (t : ByteArray) (w : World) :
    Calls Try.prog 11 #[.agg #[.int .i64 k, .int .i64 c, .int .i64 q, .string t]] w fun e w' => e = .returned (.bool (mayB k c q t.size)) ∧ Hid (Below w.heap.size w w') := by
  have HB := hide ((Below.refl _ w).alloc (Nat.le_refl _) (.cells #[.int .i64 k, .int .i64 c, .int .i64 q, .string t] 23))
  obtain ⟨m, hm⟩ : ∃ m, Hid (mayB k c q t.size = m) := ⟨_, (rfl : _ = _)⟩
  rw [hm.out]
  have hc : (m = false ∧ (¬ 1 ≤ k ∨ (1 ≤ k ∧ ¬ k ≤ 4) ∨ (1 ≤ k ∧ k ≤ 4 ∧ ¬ 1 ≤ c) ∨ (1 ≤ k ∧ k ≤ 4 ∧ 1 ≤ c ∧ ¬ c ≤ 8) ∨ (1 ≤ k ∧ k ≤ 4 ∧ 1 ≤ c ∧ c ≤ 8 ∧ ¬ 1 ≤ q) ∨ (1 ≤ k ∧ k ≤ 4 ∧ 1 ≤ c ∧ c ≤ 8 ∧ 1 ≤ q ∧ ¬ q ≤ 1099511627776) ∨ (1 ≤ k ∧ k ≤ 4 ∧ 1 ≤ c ∧ c ≤ 8 ∧ 1 ≤ q ∧ q ≤ 1099511627776 ∧ ¬ (t.size : Int) ≤ 4000))) ∨ (m = true ∧ (1 ≤ k ∧ k ≤ 4 ∧ 1 ≤ c ∧ c ≤ 8 ∧ 1 ≤ q ∧ q ≤ 1099511627776 ∧ (t.size : Int) ≤ 4000)) := by
    have h := mayB_iff k c q t.size
    rw [hm.out] at h
    cases m
    · left
      refine ⟨rfl, ?_⟩
      have h' : ¬ (1 ≤ k ∧ k ≤ 4 ∧ 1 ≤ c ∧ c ≤ 8 ∧ 1 ≤ q ∧ q ≤ 1099511627776 ∧ (t.size : Int) ≤ 4000) := fun x => Bool.false_ne_true (h.2 x)
      clear h
      omega
    · exact Or.inr ⟨rfl, h.1 rfl⟩
  rcases hc with ⟨rfl, h1 | ⟨h1, h2⟩ | ⟨h1, h2, h3⟩ | ⟨h1, h2, h3, h4⟩ | ⟨h1, h2, h3, h4, h5⟩ | ⟨h1, h2, h3, h4, h5, h6⟩ | ⟨h1, h2, h3, h4, h5, h6, h7⟩⟩ | ⟨rfl, h1, h2, h3, h4, h5, h6, h7⟩
  all_goals
    go_enter Try.func11, Try.ntmps11
    go_wp2_with fail
    go_ret
    exact ⟨rfl, HB.out⟩


set_option maxRecDepth 4000 in
/-- The first bytes of a slice. -/
theorem first_any {w : World} {v : Value} {bs : List UInt8} (h : Sl w v bs) (hl : bs.length ≤ 9223372036854775807) :
    Calls Try.prog 14 #[v, .int .i64 5] w fun e w' => ∃ v', e = .returned v' ∧ w' = w ∧ Hid (Sl w v' (bs.take 5)) := by
  obtain ⟨ao, cap, rfl, h1, h2⟩ := h.shape
  by_cases hx : 5 < bs.length
  · have hI : (5 : Int) < ((bs.length : Nat) : Int) := by omega
    have hT := hide (h.take 5 (by omega))
    obtain ⟨N, hN⟩ : ∃ N, Hid (bs.length = N) := ⟨_, (rfl : _ = _)⟩
    rw [hN.out] at hI h1 ⊢
    have hc : (5 : Int) ≤ (cap : Int) := by omega
    clear hx h hl
    go_enter Try.func14, Try.ntmps14
    go_wp2_with fail
    go_ret
    exact ⟨_, rfl, rfl, hT⟩
  · have hI : ¬ (5 : Int) < ((bs.length : Nat) : Int) := by omega
    have hT : Hid (Sl w (.slice ao bs.length cap) (bs.take 5)) := by
      have e : bs.take 5 = bs := List.take_of_length_le (by omega)
      show Sl _ _ _
      rw [e]; exact h
    obtain ⟨N, hN⟩ : ∃ N, Hid (bs.length = N) := ⟨_, (rfl : _ = _)⟩
    rw [hN.out] at hI hT ⊢
    clear hx h hl
    go_enter Try.func14, Try.ntmps14
    go_wp2_with fail
    go_ret
    exact ⟨_, rfl, rfl, hT⟩

set_option maxRecDepth 4000 in
set_option maxHeartbeats 4000000 in
/-- A command cut short. -/
theorem cutC (k c q : Int) (t : List UInt8) (w : World) (hl : t.length ≤ 9223372036854775807) :
    Calls Try.prog 9 #[.agg #[.int .i64 k, .int .i64 c, .int .i64 q, tx t]] w fun e w' => e = .returned (.agg #[.int .i64 k, .int .i64 c, .int .i64 q, tx (t.take 200)]) ∧ Hid (Below w.heap.size w w') := by
  obtain ⟨W, hW⟩ : ∃ W, Hid (W = (w.alloc (.cells #[.int .i64 k, .int .i64 c, .int .i64 q, tx t] 23)).alloc (.cells #[.int .i64 0, .int .i64 0, .int .i64 0, .string ⟨#[]⟩] 23)) := ⟨_, (rfl : _ = _)⟩
  have HB : Hid (Below w.heap.size w W) := by rw [hW.out]; exact ((Below.refl _ w).alloc (Nat.le_refl _) _).alloc (by simp) _
  have h1 : W.heap[w.heap.size]? = some (.cells #[.int .i64 k, .int .i64 c, .int .i64 q, tx t] 23 (0, 0)) := by
    rw [hW.out]
    exact (((Below.refl _ _).alloc (Nat.le_refl _) _).block w.heap.size (by simp)).trans (heap_alloc_new _ _)
  have h2 : W.heap[w.heap.size + 1]? = some (.cells #[.int .i64 0, .int .i64 0, .int .i64 0, .string ⟨#[]⟩] 23 (0, 0)) := by rw [hW.out]; exact heap_alloc2_new _ _ _
  obtain ⟨x0, x1, x2, x3⟩ := cells_Cmd h1
  have fx := fun i => frozen_of_row W _ i _ _ h1
  obtain ⟨z0, z1, z2, z3⟩ := cells_Cmd h2
  have zz := fun i => frozen_of_row W _ i _ _ h2
  have HCS := hide (cutS200 t W hl)
  have HBX := hide (fun v => (Below.heap_setCell W ⟨w.heap.size, 3, none⟩ v (w.heap.size + 1) (show w.heap.size + 1 ≠ w.heap.size by omega)).trans h2)
  obtain ⟨A, hA⟩ : ∃ A, Hid (tx t = A) := ⟨_, (rfl : _ = _)⟩
  obtain ⟨s, hs⟩ : ∃ s : ByteArray, Hid ((⟨(t.take 200).toArray⟩ : ByteArray) = s) := ⟨_, (rfl : _ = _)⟩
  clear h1 h2
  go_enter Try.func9, Try.ntmps9
  go_upto_region 1 with fail
  rw [← hW.out]
  go_wp2_with fail
  refine Calls.mono HCS.out ?_
  rintro e w5 ⟨rfl, hw5⟩
  have hw5' := hw5.symm
  subst hw5'
  clear hw5
  go_wp2_with fail
  refine bodyPost_ret (results_cell_row rfl _ _ (w.heap.size + 1) 23 _ (0, 0) _ rfl (set_Cmd (b := w.heap.size) _ _ _ _ (HBX.out _) (by omega)).1 Try.underlying23 rfl sz_Cmd) rfl ?_
  exact ⟨rfl, (HB.out.setCell (p := ⟨w.heap.size, 3, none⟩) (Nat.le_refl _) _).trans (set_Cmd (b := w.heap.size) _ _ _ _ (HBX.out _) (by omega)).2⟩

end Go.Proofs.Ytgknpbgepgmmmaa.Cm
namespace Go.Proofs.Ytgknpbgepgmmmaa.Cm
open Go.RowKit Bn Kp

/-- What has come up, as the region's own list. -/
def listedOf (n : Nat) (l : List Nat) : Array Bool := l.foldl (fun a i => a.setIfInBounds i true) (Array.replicate n false)
/-- The table of states: what has come up in each, and where each operation that may come up next leads. -/
def tableOk (md : Region.Mode) (ops : Array Oper) (m : Nat) (tab : List (List Nat × List (Nat × Nat))) : Bool :=
  tab.all fun r => decide (Region.ready md ops (listedOf ops.size r.1) = r.2.map (·.1)) && (r.2.isEmpty || decide (r.1.length < m)) &&
    r.2.all fun p => match tab[p.2]? with | none => false | some q => decide (listedOf ops.size q.1 = (listedOf ops.size r.1).setIfInBounds p.1 true) && decide (q.1.length = r.1.length + 1)

theorem held_states {P : Program} {ops : Array Oper} {Q : Exit → Act → World → Prop} {md : Region.Mode} {S : World → Prop} (m : Nat) (tab : List (List Nat × List (Nat × Nat))) (T : Nat → Act → World → Prop)
    (ht : tableOk md ops m tab = true)
    (hend : ∀ s l, tab[s]? = some (l, []) → ∀ a w, T s a w → Q .normal a w)
    (hstep : ∀ s l nx, tab[s]? = some (l, nx) → ∀ p ∈ nx, ∀ a w, T s a w → wpOp P ops Q p.1 (fun a' w' => S w' ∧ T p.2 a' w') a w) :
    ∀ f s l nx, tab[s]? = some (l, nx) → f + l.length = m → ∀ a w, T s a w → wpAnyH P md ops Q S f (listedOf ops.size l) a w := by
  have row : ∀ (s : Nat) (l : List Nat) (nx : List (Nat × Nat)), tab[s]? = some (l, nx) → Region.ready md ops (listedOf ops.size l) = nx.map (·.1) ∧ (nx = [] ∨ l.length < m) ∧ ∀ p ∈ nx, ∃ l' nx', tab[p.2]? = some (l', nx') ∧ listedOf ops.size l' = (listedOf ops.size l).setIfInBounds p.1 true ∧ l'.length = l.length + 1 := by
    intro s l nx hs
    have h := List.all_eq_true.1 ht _ (List.mem_of_getElem? hs)
    simp only [Bool.and_eq_true, Bool.or_eq_true, decide_eq_true_eq, List.isEmpty_iff] at h
    obtain ⟨⟨h1, h2⟩, h3⟩ := h
    refine ⟨h1, h2, fun p hp => ?_⟩
    have h4 := List.all_eq_true.1 h3 p hp
    cases hq : tab[p.2]? with
    | none => simp [hq] at h4
    | some q =>
      simp only [hq, Bool.and_eq_true, decide_eq_true_eq] at h4
      exact ⟨q.1, q.2, rfl, h4.1, h4.2⟩
  intro f
  induction f with
  | zero =>
    intro s l nx hs hf a w hT
    obtain ⟨h1, h2, _⟩ := row s l nx hs
    have hn : nx = [] := h2.resolve_right (by omega)
    subst hn
    exact ⟨h1, hend s l hs a w hT⟩
  | succ f ih =>
    intro s l nx hs hf a w hT
    obtain ⟨h1, h2, h3⟩ := row s l nx hs
    refine ⟨fun h0 => ?_, fun i hi => ?_⟩
    · rw [h1] at h0
      have hn : nx = [] := List.map_eq_nil_iff.1 h0
      subst hn
      exact hend s l hs a w hT
    · rw [h1] at hi
      obtain ⟨p, hp, rfl⟩ := List.mem_map.1 hi
      obtain ⟨l', nx', hs', hl', hlen⟩ := h3 p hp
      refine wpOp_mono (fun a' w' h => ⟨h.1, ?_⟩) (hstep s l nx hs p hp a w hT)
      rw [← hl']
      exact ih p.2 l' nx' hs' (by omega) a' w' h.2

/-- The table's steps: from which state, which operation, to which state; its ends. -/
def tabEdges (tab : List (List Nat × List (Nat × Nat))) : List (Nat × Nat × Nat) := (List.range tab.length).flatMap fun s => ((tab[s]?).getD ([], [])).2.map fun p => (s, p.1, p.2)
def tabEnds (tab : List (List Nat × List (Nat × Nat))) : List Nat := (List.range tab.length).filter fun s => ((tab[s]?).getD ([], [])).2.isEmpty

theorem held_steps {P : Program} {ops : Array Oper} {Q : Exit → Act → World → Prop} {md : Region.Mode} {S : World → Prop} (m : Nat) (tab : List (List Nat × List (Nat × Nat))) (es : List (Nat × Nat × Nat)) (en : List Nat) (T : Nat → Act → World → Prop)
    (ht : tableOk md ops m tab = true) (he : tabEdges tab = es) (hn : tabEnds tab = en) {f s : Nat} {l0 : Array Bool} {a : Act} {w : World} (hf : ((tab[s]?).map fun r => (decide (listedOf ops.size r.1 = l0) && decide (f + r.1.length = m))) = some true) (h0 : T s a w)
    (hend : ∀ s ∈ en, ∀ a w, T s a w → Q .normal a w)
    (hstep : ∀ e ∈ es, ∀ a w, T e.1 a w → wpOp P ops Q e.2.1 (fun a' w' => S w' ∧ T e.2.2 a' w') a w) : wpAnyH P md ops Q S f l0 a w := by
  cases hs : tab[s]? with
  | none => simp [hs] at hf
  | some r =>
    obtain ⟨l, nx⟩ := r
    simp only [hs, Option.map_some, Option.some.injEq, Bool.and_eq_true, decide_eq_true_eq] at hf
    obtain ⟨rfl, hm⟩ := hf
    refine held_states m tab T ht ?_ ?_ f s l nx hs hm a w h0
    · intro s l hs a w hT
      refine hend s ?_ a w hT
      rw [← hn]
      simp only [tabEnds, List.mem_filter, List.mem_range]
      exact ⟨(List.getElem?_eq_some_iff.1 hs).1, by rw [hs]; rfl⟩
    · intro s l nx hs p hp a w hT
      refine hstep (s, p.1, p.2) ?_ a w hT
      rw [← he]
      simp only [tabEdges, List.mem_flatMap, List.mem_range]
      exact ⟨s, (List.getElem?_eq_some_iff.1 hs).1, by rw [hs]; exact List.mem_map.2 ⟨p, hp, rfl⟩⟩

theorem Qs.imp {b A B : Nat} {X : World} {st : R} {wr : Bool} {F G : World → Prop} {W : World} (h : Qs b A B X st wr F W) (hi : ∀ W, F W → G W) : Qs b A B X st wr G W :=
  ⟨h.cr, h.fr, h.le, fun W' hk => hi _ (h.keep W' hk)⟩

end Go.Proofs.Ytgknpbgepgmmmaa.Cm
namespace Go.Proofs.Ytgknpbgepgmmmaa.Cm
open Go.RowKit Bn Kp

/-- A text as bytes: a new row; the room it takes. -/
theorem conv_sl9 (W : World) (t : List UInt8) (hl : t.length ≤ 140737488355328) :
    ∃ cap w', (convert 9 24 (tx t)).run Try.prog W = .ok (.slice (some ⟨W.heap.size, 0, none⟩) t.length cap) w' ∧ Hid (Sl w' (.slice (some ⟨W.heap.size, 0, none⟩) t.length cap) t ∧ Below W.heap.size W w' ∧ W.heap.size < w'.heap.size) := by
  have hr := Lib.run_convert_string_bytes (P := Try.prog) W 9 24 5 ⟨t.toArray⟩ Try.underlying9 Try.underlying24 Try.underlying5
  rw [tx_data] at hr
  have hg := grownCap_ge W t.length 0 5
  have hm := grownCap_le_maxLen W t.length 0 5 (by simp only [maxLen]; omega)
  refine ⟨_, _, hr, ⟨some ⟨W.heap.size, 0, none⟩, _, rfl, hg, hm, fun e => by simp at e, fun _ => ⟨W.heap.size, 0, rfl, fun j hj => ?_⟩⟩, ?_, ?_⟩
  · have := Lib.bytesWorld_cell W 5 ⟨t.toArray⟩ j (by rw [tx_data]; exact hj)
    rw [Nat.zero_add, this]
    simp [at8]
  · exact ⟨rfl, rfl, rfl, by rw [Lib.bytesWorld_size]; omega, fun k hk => Lib.bytesWorld_at_old W 5 _ k hk⟩
  · rw [Lib.bytesWorld_size]; omega
/-- 'append' of bytes onto a slice of the call's own, at a step. -/
theorem step_append9 (w : World) {ops : Array Oper} {o : Oper} {a : Act} {K : Act → World → Prop} {Q : Exit → Act → World → Prop} {E : Prop} (hgd : o.guard = none) (s x : Operand)
    (ho : o.op = .call { callee := .builtin .append, args := #[s, x], argTypes := #[24, 24] }) (base : Nat) {v vx : Value} {bs tx : List UInt8} (hs : a.eval s = v) (hown : w.ownsRow base 5 1 v bs.length (cells8 bs)) (hx : a.eval x = vx) (hS : Sl w vx tx) (hne : 0 < tx.length) (hl : bs.length + tx.length ≤ 140737488355328) (hbase : base ≤ w.heap.size)
    (h : ∀ v' w', w'.ownsRow base 5 1 v' (bs ++ tx).length (cells8 (bs ++ tx)) → w.grownBy w' v.ownBlock → (v'.ownBlock = v.ownBlock ∨ v'.ownBlock = some w.heap.size) → K (a.put o.dst v') w') :
    if Region.wanted o (yielded ops a.tmps) = true then Oper.wp Try.prog o a w K Q else E := by
  obtain ⟨i, hi, hz, hsize, hby⟩ := info_parts Try.info5
  obtain ⟨ao, cap, rfl, h1, h2, h3, h4⟩ := id hS
  obtain ⟨g0, o0, rfl, _⟩ := h4 hne
  have hw : Region.wanted o (yielded ops a.tmps) = true := by simp [Region.wanted, hgd]
  rw [if_pos hw]
  obtain ⟨v', w', hr, k2, k3, _, k5⟩ := run_append_own_at (P := Try.prog) w base 24 o.type 5 i (.int .u8 0) 1 1 Try.underlying24 hi hz hsize hby rfl (by decide) v bs.length (cells8 bs) hown ⟨g0, o0, none⟩ tx.length cap (cells8 tx) (by rw [cells8_len, Nat.mul_one]) (sl_news hS) (cells8_one tx) (by simp only [maxLen]; omega) (by omega) hbase
  unfold Oper.wp execOp
  simp only [ho, resolve, invoke, builtin, Sem.run_bind, Sem.run_pure, Result.andThen_ok, List.map_toArray, List.map_cons, List.map_nil, hs, hx, hr]
  exact h v' w' (by rw [List.length_append, cells8_append]; exact k2) k3 k5
/-- The text's bytes, aside from the row that grows. -/
def Vt (W : World) (wv vt : Value) (t : List UInt8) : Prop := ∃ g cap, vt = .slice (some ⟨g, 0, none⟩) t.length cap ∧ Sl W vt t ∧ g < W.heap.size ∧ wv.ownBlock ≠ some g
theorem Vt.below {W W' : World} {wv vt : Value} {t : List UInt8} (h : Vt W wv vt t) (hb : Below W.heap.size W W') : Vt W' wv vt t := by
  obtain ⟨g, cap, h1, h2, h3, h4⟩ := h
  exact ⟨g, cap, h1, h2.below hb, by have := hb.size; omega, h4⟩
theorem Vt.grown {W W' : World} {wv v' vt : Value} {t : List UInt8} (h : Vt W wv vt t) (hg : W.grownBy W' wv.ownBlock) (ha : v'.ownBlock = wv.ownBlock ∨ v'.ownBlock = some W.heap.size) : Vt W' v' vt t := by
  obtain ⟨g, cap, rfl, h2, h3, h4⟩ := h
  refine ⟨g, cap, rfl, sl_at h2 (hg.block g h3 (fun e => h4 e.symm)), by have := hg.size; omega, ?_⟩
  rcases ha with ha | ha
  · rw [ha]; exact h4
  · rw [ha]; intro e; simp at e; omega
theorem sl_text {W : World} {wv vt : Value} {t : List UInt8} (h : Vt W wv vt t) : Sl W vt t := h.choose_spec.choose_spec.2.1
theorem grown9 {W0 W W' : World} {v : Value} {l : List UInt8} (hb : Below W0.heap.size W0 W) (hO : W.ownsRow W0.heap.size 5 1 v l.length (cells8 l)) (hg : W.grownBy W' v.ownBlock) : Below W0.heap.size W0 W' := hb.grown hg hb.size (fun k hk => (hO.lt k hk).1)
theorem enc_nil_own (W : World) (b : Nat) : W.ownsRow b 5 1 (.slice none 0 0) ([] : List UInt8).length (cells8 []) := World.ownsRow_nil _ _ _ _
/-- What the command's block reads as. -/
abbrev Sb (P : Nat) (k c q : Int) (T : ByteArray) (u : World) : Prop := u.cell? ⟨P, 0, none⟩ = some (.int .i64 k) ∧ u.cell? ⟨P, 1, none⟩ = some (.int .i64 c) ∧ u.cell? ⟨P, 2, none⟩ = some (.int .i64 q) ∧ u.cell? ⟨P, 3, none⟩ = some (.string T)
set_option maxRecDepth 4000 in
/-- The region's operations. -/
abbrev ops9 : Array Oper := #[
  { dst := some 38, op := Op.move (Operand.tmp 12), type := 24, pos := "law.go:71", after := #[], guard := none },
  { dst := some 39, op := Op.fieldAddr 23 (Operand.tmp 4) 0, type := 0, pos := "law.go:71", after := #[], guard := none },
  { dst := some 40, op := Op.load 3 (Operand.tmp 39), type := 3, pos := "law.go:71", after := #[{ on := 1, ground := Ground.data }], guard := none },
  { dst := some 41, op := Op.call { callee := Callee.value (Operand.func 12), args := #[Operand.tmp 40], argTypes := #[2] }, type := 24, pos := "law.go:71", after := #[{ on := 2, ground := Ground.data }], guard := none },
  { dst := some 42, op := Op.call { callee := Callee.builtin Builtin.append, args := #[Operand.tmp 38, Operand.tmp 41], argTypes := #[24, 24] }, type := 24, pos := "law.go:71", after := #[{ on := 0, ground := Ground.data }, { on := 3, ground := Ground.data }, { on := 3, ground := Ground.chain }], guard := none },
  { dst := some 43, op := Op.fieldAddr 23 (Operand.tmp 4) 1, type := 0, pos := "law.go:71", after := #[], guard := none },
  { dst := some 44, op := Op.load 3 (Operand.tmp 43), type := 3, pos := "law.go:71", after := #[{ on := 5, ground := Ground.data }], guard := none },
  { dst := some 45, op := Op.call { callee := Callee.value (Operand.func 12), args := #[Operand.tmp 44], argTypes := #[2] }, type := 24, pos := "law.go:71", after := #[{ on := 6, ground := Ground.data }, { on := 4, ground := Ground.chain }], guard := none },
  { dst := some 46, op := Op.call { callee := Callee.builtin Builtin.append, args := #[Operand.tmp 42, Operand.tmp 45], argTypes := #[24, 24] }, type := 24, pos := "law.go:71", after := #[{ on := 4, ground := Ground.data }, { on := 7, ground := Ground.data }, { on := 7, ground := Ground.chain }], guard := none },
  { dst := some 47, op := Op.fieldAddr 23 (Operand.tmp 4) 2, type := 0, pos := "law.go:71", after := #[], guard := none },
  { dst := some 48, op := Op.load 2 (Operand.tmp 47), type := 2, pos := "law.go:71", after := #[{ on := 9, ground := Ground.data }], guard := none },
  { dst := some 49, op := Op.call { callee := Callee.value (Operand.func 12), args := #[Operand.tmp 48], argTypes := #[2] }, type := 24, pos := "law.go:71", after := #[{ on := 10, ground := Ground.data }, { on := 8, ground := Ground.chain }], guard := none },
  { dst := some 50, op := Op.call { callee := Callee.builtin Builtin.append, args := #[Operand.tmp 46, Operand.tmp 49], argTypes := #[24, 24] }, type := 24, pos := "law.go:71", after := #[{ on := 8, ground := Ground.data }, { on := 11, ground := Ground.data }, { on := 11, ground := Ground.chain }], guard := none },
  { dst := some 51, op := Op.fieldAddr 23 (Operand.tmp 4) 3, type := 0, pos := "law.go:71", after := #[], guard := none },
  { dst := some 52, op := Op.load 9 (Operand.tmp 51), type := 9, pos := "law.go:71", after := #[{ on := 13, ground := Ground.data }], guard := none },
  { dst := some 53, op := Op.convert 9 24 (Operand.tmp 52), type := 24, pos := "law.go:71", after := #[{ on := 14, ground := Ground.data }], guard := none },
  { dst := some 54, op := Op.call { callee := Callee.value (Operand.func 13), args := #[Operand.tmp 53], argTypes := #[24] }, type := 24, pos := "law.go:71", after := #[{ on := 15, ground := Ground.data }, { on := 12, ground := Ground.chain }], guard := none },
  { dst := some 55, op := Op.call { callee := Callee.builtin Builtin.append, args := #[Operand.tmp 50, Operand.tmp 54], argTypes := #[24, 24] }, type := 24, pos := "law.go:71", after := #[{ on := 12, ground := Ground.data }, { on := 16, ground := Ground.data }, { on := 16, ground := Ground.chain }], guard := none },
  { dst := some 12, op := Op.assign (Operand.tmp 55), type := 24, pos := "law.go:71", after := #[{ on := 17, ground := Ground.data }, { on := 17, ground := Ground.chain }, { on := 0, ground := Ground.phase }, { on := 1, ground := Ground.phase }, { on := 2, ground := Ground.phase }, { on := 3, ground := Ground.phase }, { on := 4, ground := Ground.phase }, { on := 5, ground := Ground.phase }, { on := 6, ground := Ground.phase }, { on := 7, ground := Ground.phase }, { on := 8, ground := Ground.phase }, { on := 9, ground := Ground.phase }, { on := 10, ground := Ground.phase }, { on := 11, ground := Ground.phase }, { on := 12, ground := Ground.phase }, { on := 13, ground := Ground.phase }, { on := 14, ground := Ground.phase }, { on := 15, ground := Ground.phase }, { on := 16, ground := Ground.phase }, { on := 17, ground := Ground.phase }], guard := none }]
set_option maxRecDepth 4000 in
structure C9 where
  W0 : World
  P : Nat
  (k c q : Int)
  T : ByteArray
  t : List UInt8
  hT : (⟨t.toArray⟩ : ByteArray) = T
  hk : I64 k
  hc : I64 c
  hq : I64 q
  ht : t.length ≤ 1000
  hS : ∀ u, Below W0.heap.size W0 u → Sb P k c q T u
  (x0 x1 x2 x3 x5 x6 x7 x8 x9 x10 x11 x13 x14 x15 x16 x17 x18 x19 x20 x21 x22 x23 x24 x25 x26 x27 x28 x29 x30 x31 x32 x33 x34 x35 x36 x37 x38 x39 x40 x41 x42 x43 x44 x45 x46 x47 x48 x49 x50 x51 x52 x53 x54 x55 x56 x57 x58 x59 x60 x61 x62 x63 x64 x65 x66 x67 x68 x69 x70 x71 x72 x73 x74 x75 x76 x77 x78 x79 x80 x81 x82 x83 x84 x85 x86 x87 x88 x89 x90 x91 x92 x93 x94 x95 x96 x97 x98 x99 x100 x101 x102 x103 x104 x105 x106 x107 x108 x109 x110 x111 x112 x113 x114 x115 x116 x117 x118 x119 x120 x121 x122 x123 x124 x125 x126 x127 x128 x129 x130 x131 x132 x133 x134 x135 x136 x137 x138 x139 x140 x141 x142 x143 x144 x145 x146 x147 x148 x149 x150 x151 x152 x153 x154 x155 x156 x157 x158 : Value)
set_option maxRecDepth 4000 in
abbrev fr9 (c : C9) (p12 p41 p42 p45 p46 p49 p50 p53 p54 p55 : Value) : Act := ⟨#[c.x0, c.x1, c.x2, c.x3, .pointer (some ⟨c.P, 0, none⟩), c.x5, c.x6, c.x7, c.x8, c.x9, c.x10, c.x11, p12, c.x13, c.x14, c.x15, c.x16, c.x17, c.x18, c.x19, c.x20, c.x21, c.x22, c.x23, c.x24, c.x25, c.x26, c.x27, c.x28, c.x29, c.x30, c.x31, c.x32, c.x33, c.x34, c.x35, c.x36, c.x37, .slice none 0 0, .pointer (some ⟨c.P, 0, none⟩), .int .i64 c.k, p41, p42, .pointer (some ⟨c.P, 1, none⟩), .int .i64 c.c, p45, p46, .pointer (some ⟨c.P, 2, none⟩), .int .i64 c.q, p49, p50, .pointer (some ⟨c.P, 3, none⟩), .string c.T, p53, p54, p55, c.x56, c.x57, c.x58, c.x59, c.x60, c.x61, c.x62, c.x63, c.x64, c.x65, c.x66, c.x67, c.x68, c.x69, c.x70, c.x71, c.x72, c.x73, c.x74, c.x75, c.x76, c.x77, c.x78, c.x79, c.x80, c.x81, c.x82, c.x83, c.x84, c.x85, c.x86, c.x87, c.x88, c.x89, c.x90, c.x91, c.x92, c.x93, c.x94, c.x95, c.x96, c.x97, c.x98, c.x99, c.x100, c.x101, c.x102, c.x103, c.x104, c.x105, c.x106, c.x107, c.x108, c.x109, c.x110, c.x111, c.x112, c.x113, c.x114, c.x115, c.x116, c.x117, c.x118, c.x119, c.x120, c.x121, c.x122, c.x123, c.x124, c.x125, c.x126, c.x127, c.x128, c.x129, c.x130, c.x131, c.x132, c.x133, c.x134, c.x135, c.x136, c.x137, c.x138, c.x139, c.x140, c.x141, c.x142, c.x143, c.x144, c.x145, c.x146, c.x147, c.x148, c.x149, c.x150, c.x151, c.x152, c.x153, c.x154, c.x155, c.x156, c.x157, c.x158], []⟩
set_option maxRecDepth 4000 in
abbrev fr9z (c : C9) : Act := ⟨#[c.x0, c.x1, c.x2, c.x3, .pointer (some ⟨c.P, 0, none⟩), c.x5, c.x6, c.x7, c.x8, c.x9, c.x10, c.x11, .slice none 0 0, c.x13, c.x14, c.x15, c.x16, c.x17, c.x18, c.x19, c.x20, c.x21, c.x22, c.x23, c.x24, c.x25, c.x26, c.x27, c.x28, c.x29, c.x30, c.x31, c.x32, c.x33, c.x34, c.x35, c.x36, c.x37, c.x38, c.x39, c.x40, c.x41, c.x42, c.x43, c.x44, c.x45, c.x46, c.x47, c.x48, c.x49, c.x50, c.x51, c.x52, c.x53, c.x54, c.x55, c.x56, c.x57, c.x58, c.x59, c.x60, c.x61, c.x62, c.x63, c.x64, c.x65, c.x66, c.x67, c.x68, c.x69, c.x70, c.x71, c.x72, c.x73, c.x74, c.x75, c.x76, c.x77, c.x78, c.x79, c.x80, c.x81, c.x82, c.x83, c.x84, c.x85, c.x86, c.x87, c.x88, c.x89, c.x90, c.x91, c.x92, c.x93, c.x94, c.x95, c.x96, c.x97, c.x98, c.x99, c.x100, c.x101, c.x102, c.x103, c.x104, c.x105, c.x106, c.x107, c.x108, c.x109, c.x110, c.x111, c.x112, c.x113, c.x114, c.x115, c.x116, c.x117, c.x118, c.x119, c.x120, c.x121, c.x122, c.x123, c.x124, c.x125, c.x126, c.x127, c.x128, c.x129, c.x130, c.x131, c.x132, c.x133, c.x134, c.x135, c.x136, c.x137, c.x138, c.x139, c.x140, c.x141, c.x142, c.x143, c.x144, c.x145, c.x146, c.x147, c.x148, c.x149, c.x150, c.x151, c.x152, c.x153, c.x154, c.x155, c.x156, c.x157, c.x158], []⟩
set_option maxRecDepth 4000 in
/-- The states. -/
abbrev T9 (c : C9) (s : Nat) (a : Act) (W : World) : Prop := match s with
  | 0 => a = fr9 c (.slice none 0 0) c.x41 c.x42 c.x45 c.x46 c.x49 c.x50 c.x53 c.x54 c.x55 ∧ Below c.W0.heap.size c.W0 W ∧ W.ownsRow c.W0.heap.size 5 1 (.slice none 0 0) ([] : List UInt8).length (cells8 ([] : List UInt8))
  | 1 => ∃ vt : Value, a = fr9 c (.slice none 0 0) c.x41 c.x42 c.x45 c.x46 c.x49 c.x50 vt c.x54 c.x55 ∧ Below c.W0.heap.size c.W0 W ∧ W.ownsRow c.W0.heap.size 5 1 (.slice none 0 0) ([] : List UInt8).length (cells8 ([] : List UInt8)) ∧ Vt W (.slice none 0 0) vt c.t
  | 2 => ∃ v1 : Value, a = fr9 c (.slice none 0 0) v1 c.x42 c.x45 c.x46 c.x49 c.x50 c.x53 c.x54 c.x55 ∧ Below c.W0.heap.size c.W0 W ∧ W.ownsRow c.W0.heap.size 5 1 (.slice none 0 0) ([] : List UInt8).length (cells8 ([] : List UInt8)) ∧ Sl W v1 (enc c.k)
  | 3 => ∃ v1 vt : Value, a = fr9 c (.slice none 0 0) v1 c.x42 c.x45 c.x46 c.x49 c.x50 vt c.x54 c.x55 ∧ Below c.W0.heap.size c.W0 W ∧ W.ownsRow c.W0.heap.size 5 1 (.slice none 0 0) ([] : List UInt8).length (cells8 ([] : List UInt8)) ∧ Sl W v1 (enc c.k) ∧ Vt W (.slice none 0 0) vt c.t
  | 4 => ∃ v1 u1 : Value, a = fr9 c (.slice none 0 0) v1 u1 c.x45 c.x46 c.x49 c.x50 c.x53 c.x54 c.x55 ∧ Below c.W0.heap.size c.W0 W ∧ W.ownsRow c.W0.heap.size 5 1 u1 (enc c.k).length (cells8 (enc c.k))
  | 5 => ∃ v1 u1 vt : Value, a = fr9 c (.slice none 0 0) v1 u1 c.x45 c.x46 c.x49 c.x50 vt c.x54 c.x55 ∧ Below c.W0.heap.size c.W0 W ∧ W.ownsRow c.W0.heap.size 5 1 u1 (enc c.k).length (cells8 (enc c.k)) ∧ Vt W u1 vt c.t
  | 6 => ∃ v1 u1 v2 : Value, a = fr9 c (.slice none 0 0) v1 u1 v2 c.x46 c.x49 c.x50 c.x53 c.x54 c.x55 ∧ Below c.W0.heap.size c.W0 W ∧ W.ownsRow c.W0.heap.size 5 1 u1 (enc c.k).length (cells8 (enc c.k)) ∧ Sl W v2 (enc c.c)
  | 7 => ∃ v1 u1 v2 vt : Value, a = fr9 c (.slice none 0 0) v1 u1 v2 c.x46 c.x49 c.x50 vt c.x54 c.x55 ∧ Below c.W0.heap.size c.W0 W ∧ W.ownsRow c.W0.heap.size 5 1 u1 (enc c.k).length (cells8 (enc c.k)) ∧ Sl W v2 (enc c.c) ∧ Vt W u1 vt c.t
  | 8 => ∃ v1 u1 v2 u2 : Value, a = fr9 c (.slice none 0 0) v1 u1 v2 u2 c.x49 c.x50 c.x53 c.x54 c.x55 ∧ Below c.W0.heap.size c.W0 W ∧ W.ownsRow c.W0.heap.size 5 1 u2 (enc c.k ++ enc c.c).length (cells8 (enc c.k ++ enc c.c))
  | 9 => ∃ v1 u1 v2 u2 vt : Value, a = fr9 c (.slice none 0 0) v1 u1 v2 u2 c.x49 c.x50 vt c.x54 c.x55 ∧ Below c.W0.heap.size c.W0 W ∧ W.ownsRow c.W0.heap.size 5 1 u2 (enc c.k ++ enc c.c).length (cells8 (enc c.k ++ enc c.c)) ∧ Vt W u2 vt c.t
  | 10 => ∃ v1 u1 v2 u2 v3 : Value, a = fr9 c (.slice none 0 0) v1 u1 v2 u2 v3 c.x50 c.x53 c.x54 c.x55 ∧ Below c.W0.heap.size c.W0 W ∧ W.ownsRow c.W0.heap.size 5 1 u2 (enc c.k ++ enc c.c).length (cells8 (enc c.k ++ enc c.c)) ∧ Sl W v3 (enc c.q)
  | 11 => ∃ v1 u1 v2 u2 v3 vt : Value, a = fr9 c (.slice none 0 0) v1 u1 v2 u2 v3 c.x50 vt c.x54 c.x55 ∧ Below c.W0.heap.size c.W0 W ∧ W.ownsRow c.W0.heap.size 5 1 u2 (enc c.k ++ enc c.c).length (cells8 (enc c.k ++ enc c.c)) ∧ Sl W v3 (enc c.q) ∧ Vt W u2 vt c.t
  | 12 => ∃ v1 u1 v2 u2 v3 u3 : Value, a = fr9 c (.slice none 0 0) v1 u1 v2 u2 v3 u3 c.x53 c.x54 c.x55 ∧ Below c.W0.heap.size c.W0 W ∧ W.ownsRow c.W0.heap.size 5 1 u3 ((enc c.k ++ enc c.c) ++ enc c.q).length (cells8 ((enc c.k ++ enc c.c) ++ enc c.q))
  | 13 => ∃ v1 u1 v2 u2 v3 u3 vt : Value, a = fr9 c (.slice none 0 0) v1 u1 v2 u2 v3 u3 vt c.x54 c.x55 ∧ Below c.W0.heap.size c.W0 W ∧ W.ownsRow c.W0.heap.size 5 1 u3 ((enc c.k ++ enc c.c) ++ enc c.q).length (cells8 ((enc c.k ++ enc c.c) ++ enc c.q)) ∧ Vt W u3 vt c.t
  | 14 => ∃ v1 u1 v2 u2 v3 u3 v4 vt : Value, a = fr9 c (.slice none 0 0) v1 u1 v2 u2 v3 u3 vt v4 c.x55 ∧ Below c.W0.heap.size c.W0 W ∧ W.ownsRow c.W0.heap.size 5 1 u3 ((enc c.k ++ enc c.c) ++ enc c.q).length (cells8 ((enc c.k ++ enc c.c) ++ enc c.q)) ∧ Sl W v4 (enc c.t.length ++ c.t)
  | 15 => ∃ v1 u1 v2 u2 v3 u3 v4 u4 vt : Value, a = fr9 c (.slice none 0 0) v1 u1 v2 u2 v3 u3 vt v4 u4 ∧ Below c.W0.heap.size c.W0 W ∧ W.ownsRow c.W0.heap.size 5 1 u4 (((enc c.k ++ enc c.c) ++ enc c.q) ++ (enc c.t.length ++ c.t)).length (cells8 (((enc c.k ++ enc c.c) ++ enc c.q) ++ (enc c.t.length ++ c.t)))
  | 16 => ∃ v1 u1 v2 u2 v3 u3 v4 u4 vt : Value, a = fr9 c u4 v1 u1 v2 u2 v3 u3 vt v4 u4 ∧ Below c.W0.heap.size c.W0 W ∧ W.ownsRow c.W0.heap.size 5 1 u4 (((enc c.k ++ enc c.c) ++ enc c.q) ++ (enc c.t.length ++ c.t)).length (cells8 (((enc c.k ++ enc c.c) ++ enc c.q) ++ (enc c.t.length ++ c.t)))
  | _ => False
abbrev tab9 : List (List Nat × List (Nat × Nat)) := [([0, 1, 2, 5, 6, 9, 10, 13, 14], [(3, 2), (15, 1)]),
  ([0, 1, 2, 5, 6, 9, 10, 13, 14, 15], [(3, 3)]),
  ([0, 1, 2, 5, 6, 9, 10, 13, 14, 3], [(4, 4), (15, 3)]),
  ([0, 1, 2, 5, 6, 9, 10, 13, 14, 3, 15], [(4, 5)]),
  ([0, 1, 2, 5, 6, 9, 10, 13, 14, 3, 4], [(7, 6), (15, 5)]),
  ([0, 1, 2, 5, 6, 9, 10, 13, 14, 3, 4, 15], [(7, 7)]),
  ([0, 1, 2, 5, 6, 9, 10, 13, 14, 3, 4, 7], [(8, 8), (15, 7)]),
  ([0, 1, 2, 5, 6, 9, 10, 13, 14, 3, 4, 7, 15], [(8, 9)]),
  ([0, 1, 2, 5, 6, 9, 10, 13, 14, 3, 4, 7, 8], [(11, 10), (15, 9)]),
  ([0, 1, 2, 5, 6, 9, 10, 13, 14, 3, 4, 7, 8, 15], [(11, 11)]),
  ([0, 1, 2, 5, 6, 9, 10, 13, 14, 3, 4, 7, 8, 11], [(12, 12), (15, 11)]),
  ([0, 1, 2, 5, 6, 9, 10, 13, 14, 3, 4, 7, 8, 11, 15], [(12, 13)]),
  ([0, 1, 2, 5, 6, 9, 10, 13, 14, 3, 4, 7, 8, 11, 12], [(15, 13)]),
  ([0, 1, 2, 5, 6, 9, 10, 13, 14, 3, 4, 7, 8, 11, 12, 15], [(16, 14)]),
  ([0, 1, 2, 5, 6, 9, 10, 13, 14, 3, 4, 7, 8, 11, 12, 16, 15], [(17, 15)]),
  ([0, 1, 2, 5, 6, 9, 10, 13, 14, 3, 4, 7, 8, 11, 12, 16, 17, 15], [(18, 16)]),
  ([0, 1, 2, 5, 6, 9, 10, 13, 14, 3, 4, 7, 8, 11, 12, 16, 17, 18, 15], [])]
abbrev es9 : List (Nat × Nat × Nat) := [(0, 3, 2), (0, 15, 1), (1, 3, 3), (2, 4, 4), (2, 15, 3), (3, 4, 5), (4, 7, 6), (4, 15, 5), (5, 7, 7), (6, 8, 8), (6, 15, 7), (7, 8, 9), (8, 11, 10), (8, 15, 9), (9, 11, 11), (10, 12, 12), (10, 15, 11), (11, 12, 13), (12, 15, 13), (13, 16, 14), (14, 17, 15), (15, 18, 16)]
set_option maxRecDepth 100000 in
theorem tab9_ok : tableOk .any ops9 19 tab9 = true := by kernel_rfl
set_option maxRecDepth 100000 in
theorem tab9_es : tabEdges tab9 = es9 := by kernel_rfl
set_option maxRecDepth 100000 in
theorem tab9_en : tabEnds tab9 = [16] := by kernel_rfl

end Go.Proofs.Ytgknpbgepgmmmaa.Cm
namespace Go.Proofs.Ytgknpbgepgmmmaa.Cm
open Go.RowKit Bn Kp

set_option linter.unusedSimpArgs false in
set_option maxRecDepth 8000 in
set_option maxHeartbeats 4000000 in
theorem step9_0_3 (c : C9) (Q : Exit → Act → World → Prop) : ∀ a W, T9 c 0 a W → wpOp Try.prog ops9 Q 3 (fun a2 w2 => Sb c.P c.k c.c c.q c.T w2 ∧ T9 c 2 a2 w2) a W := by
  rintro a w9 ⟨rfl, hb, hO⟩
  refine wpOp_step (o := { dst := some 41, op := Op.call { callee := Callee.value (Operand.func 12), args := #[Operand.tmp 40], argTypes := #[2] }, type := 24, pos := "law.go:71", after := #[{ on := 2, ground := Ground.data }], guard := none }) rfl (fun K hK => ?_)
  replace hK := hide hK
  go_simp
  go_wp2_with fail
  refine Calls.mono (refnum_any c.k w9 c.hk.1 c.hk.2) ?_
  rintro e w10 ⟨v1, rfl, hN, hbN⟩
  have hb2 := hb.trans (hbN.mono hb.size)
  have hO2 := own_below4 hO hbN
  have hP2 := Sl.of_own hN
  go_wp2_with fail
  exact hK.out _ _ ⟨c.hS _ hb2, v1, rfl, hb2, hO2, hP2⟩

set_option linter.unusedSimpArgs false in
set_option maxRecDepth 8000 in
set_option maxHeartbeats 4000000 in
theorem step9_2_4 (c : C9) (Q : Exit → Act → World → Prop) : ∀ a W, T9 c 2 a W → wpOp Try.prog ops9 Q 4 (fun a2 w2 => Sb c.P c.k c.c c.q c.T w2 ∧ T9 c 4 a2 w2) a W := by
  rintro a w9 ⟨v1, rfl, hb, hO, hP⟩
  refine wpOp_step (o := { dst := some 42, op := Op.call { callee := Callee.builtin Builtin.append, args := #[Operand.tmp 38, Operand.tmp 41], argTypes := #[24, 24] }, type := 24, pos := "law.go:71", after := #[{ on := 0, ground := Ground.data }, { on := 3, ground := Ground.data }, { on := 3, ground := Ground.chain }], guard := none }) rfl (fun K hK => ?_)
  replace hK := hide hK
  refine step_append9 w9 rfl (.tmp 38) (.tmp 41) rfl c.W0.heap.size (bs := ([] : List UInt8)) rfl hO rfl hP (enc_pos _) (by have := enc_le c.k; have e : ([] : List UInt8).length = 0 := rfl; omega) hb.size ?_
  intro u1 w10 hO2 hg ha
  have hb2 := grown9 hb hO hg
  exact hK.out _ _ ⟨c.hS _ hb2, v1, u1, rfl, hb2, hO2⟩

set_option linter.unusedSimpArgs false in
set_option maxRecDepth 8000 in
set_option maxHeartbeats 4000000 in
theorem step9_4_7 (c : C9) (Q : Exit → Act → World → Prop) : ∀ a W, T9 c 4 a W → wpOp Try.prog ops9 Q 7 (fun a2 w2 => Sb c.P c.k c.c c.q c.T w2 ∧ T9 c 6 a2 w2) a W := by
  rintro a w9 ⟨v1, u1, rfl, hb, hO⟩
  refine wpOp_step (o := { dst := some 45, op := Op.call { callee := Callee.value (Operand.func 12), args := #[Operand.tmp 44], argTypes := #[2] }, type := 24, pos := "law.go:71", after := #[{ on := 6, ground := Ground.data }, { on := 4, ground := Ground.chain }], guard := none }) rfl (fun K hK => ?_)
  replace hK := hide hK
  go_simp
  go_wp2_with fail
  refine Calls.mono (refnum_any c.c w9 c.hc.1 c.hc.2) ?_
  rintro e w10 ⟨v2, rfl, hN, hbN⟩
  have hb2 := hb.trans (hbN.mono hb.size)
  have hO2 := own_below4 hO hbN
  have hP2 := Sl.of_own hN
  go_wp2_with fail
  exact hK.out _ _ ⟨c.hS _ hb2, v1, u1, v2, rfl, hb2, hO2, hP2⟩

set_option linter.unusedSimpArgs false in
set_option maxRecDepth 8000 in
set_option maxHeartbeats 4000000 in
theorem step9_6_8 (c : C9) (Q : Exit → Act → World → Prop) : ∀ a W, T9 c 6 a W → wpOp Try.prog ops9 Q 8 (fun a2 w2 => Sb c.P c.k c.c c.q c.T w2 ∧ T9 c 8 a2 w2) a W := by
  rintro a w9 ⟨v1, u1, v2, rfl, hb, hO, hP⟩
  refine wpOp_step (o := { dst := some 46, op := Op.call { callee := Callee.builtin Builtin.append, args := #[Operand.tmp 42, Operand.tmp 45], argTypes := #[24, 24] }, type := 24, pos := "law.go:71", after := #[{ on := 4, ground := Ground.data }, { on := 7, ground := Ground.data }, { on := 7, ground := Ground.chain }], guard := none }) rfl (fun K hK => ?_)
  replace hK := hide hK
  refine step_append9 w9 rfl (.tmp 42) (.tmp 45) rfl c.W0.heap.size (bs := enc c.k) rfl hO rfl hP (enc_pos _) (by have := enc_le c.k; have := enc_le c.c; omega) hb.size ?_
  intro u2 w10 hO2 hg ha
  have hb2 := grown9 hb hO hg
  exact hK.out _ _ ⟨c.hS _ hb2, v1, u1, v2, u2, rfl, hb2, hO2⟩

set_option linter.unusedSimpArgs false in
set_option maxRecDepth 8000 in
set_option maxHeartbeats 4000000 in
theorem step9_8_11 (c : C9) (Q : Exit → Act → World → Prop) : ∀ a W, T9 c 8 a W → wpOp Try.prog ops9 Q 11 (fun a2 w2 => Sb c.P c.k c.c c.q c.T w2 ∧ T9 c 10 a2 w2) a W := by
  rintro a w9 ⟨v1, u1, v2, u2, rfl, hb, hO⟩
  refine wpOp_step (o := { dst := some 49, op := Op.call { callee := Callee.value (Operand.func 12), args := #[Operand.tmp 48], argTypes := #[2] }, type := 24, pos := "law.go:71", after := #[{ on := 10, ground := Ground.data }, { on := 8, ground := Ground.chain }], guard := none }) rfl (fun K hK => ?_)
  replace hK := hide hK
  go_simp
  go_wp2_with fail
  refine Calls.mono (refnum_any c.q w9 c.hq.1 c.hq.2) ?_
  rintro e w10 ⟨v3, rfl, hN, hbN⟩
  have hb2 := hb.trans (hbN.mono hb.size)
  have hO2 := own_below4 hO hbN
  have hP2 := Sl.of_own hN
  go_wp2_with fail
  exact hK.out _ _ ⟨c.hS _ hb2, v1, u1, v2, u2, v3, rfl, hb2, hO2, hP2⟩

set_option linter.unusedSimpArgs false in
set_option maxRecDepth 8000 in
set_option maxHeartbeats 4000000 in
theorem step9_10_12 (c : C9) (Q : Exit → Act → World → Prop) : ∀ a W, T9 c 10 a W → wpOp Try.prog ops9 Q 12 (fun a2 w2 => Sb c.P c.k c.c c.q c.T w2 ∧ T9 c 12 a2 w2) a W := by
  rintro a w9 ⟨v1, u1, v2, u2, v3, rfl, hb, hO, hP⟩
  refine wpOp_step (o := { dst := some 50, op := Op.call { callee := Callee.builtin Builtin.append, args := #[Operand.tmp 46, Operand.tmp 49], argTypes := #[24, 24] }, type := 24, pos := "law.go:71", after := #[{ on := 8, ground := Ground.data }, { on := 11, ground := Ground.data }, { on := 11, ground := Ground.chain }], guard := none }) rfl (fun K hK => ?_)
  replace hK := hide hK
  refine step_append9 w9 rfl (.tmp 46) (.tmp 49) rfl c.W0.heap.size (bs := (enc c.k ++ enc c.c)) rfl hO rfl hP (enc_pos _) (by have := enc_le c.k; have := enc_le c.c; have := enc_le c.q; simp only [List.length_append]; omega) hb.size ?_
  intro u3 w10 hO2 hg ha
  have hb2 := grown9 hb hO hg
  exact hK.out _ _ ⟨c.hS _ hb2, v1, u1, v2, u2, v3, u3, rfl, hb2, hO2⟩

set_option linter.unusedSimpArgs false in
set_option maxRecDepth 8000 in
set_option maxHeartbeats 4000000 in
theorem step9_12_15 (c : C9) (Q : Exit → Act → World → Prop) : ∀ a W, T9 c 12 a W → wpOp Try.prog ops9 Q 15 (fun a2 w2 => Sb c.P c.k c.c c.q c.T w2 ∧ T9 c 13 a2 w2) a W := by
  rintro a w9 ⟨v1, u1, v2, u2, v3, u3, rfl, hb, hO⟩
  refine wpOp_step (o := { dst := some 53, op := Op.convert 9 24 (Operand.tmp 52), type := 24, pos := "law.go:71", after := #[{ on := 14, ground := Ground.data }], guard := none }) rfl (fun K hK => ?_)
  replace hK := hide hK
  obtain ⟨cap, w10, hr, hp⟩ := conv_sl9 w9 c.t (by have := c.ht; omega)
  rw [tx, c.hT] at hr
  have hb2 := hb.trans (hp.out.2.1.mono hb.size)
  have hO2 := own_below4 hO hp.out.2.1
  have hV2 : Vt w10 u3 (.slice (some ⟨w9.heap.size, 0, none⟩) c.t.length cap) c.t := ⟨_, _, rfl, hp.out.1, hp.out.2.2, fun e => by have := (hO.lt _ e).2; omega⟩
  go_simp
  exact hK.out _ _ ⟨c.hS _ hb2, v1, u1, v2, u2, v3, u3, _, rfl, hb2, hO2, hV2⟩

set_option linter.unusedSimpArgs false in
set_option maxRecDepth 8000 in
set_option maxHeartbeats 4000000 in
theorem step9_15_18 (c : C9) (Q : Exit → Act → World → Prop) : ∀ a W, T9 c 15 a W → wpOp Try.prog ops9 Q 18 (fun a2 w2 => Sb c.P c.k c.c c.q c.T w2 ∧ T9 c 16 a2 w2) a W := by
  rintro a w9 ⟨v1, u1, v2, u2, v3, u3, v4, u4, vt, rfl, hb, hO⟩
  refine wpOp_step (o := { dst := some 12, op := Op.assign (Operand.tmp 55), type := 24, pos := "law.go:71", after := #[{ on := 17, ground := Ground.data }, { on := 17, ground := Ground.chain }, { on := 0, ground := Ground.phase }, { on := 1, ground := Ground.phase }, { on := 2, ground := Ground.phase }, { on := 3, ground := Ground.phase }, { on := 4, ground := Ground.phase }, { on := 5, ground := Ground.phase }, { on := 6, ground := Ground.phase }, { on := 7, ground := Ground.phase }, { on := 8, ground := Ground.phase }, { on := 9, ground := Ground.phase }, { on := 10, ground := Ground.phase }, { on := 11, ground := Ground.phase }, { on := 12, ground := Ground.phase }, { on := 13, ground := Ground.phase }, { on := 14, ground := Ground.phase }, { on := 15, ground := Ground.phase }, { on := 16, ground := Ground.phase }, { on := 17, ground := Ground.phase }], guard := none }) rfl (fun K hK => ?_)
  replace hK := hide hK
  go_simp
  exact hK.out _ _ ⟨c.hS _ hb, v1, u1, v2, u2, v3, u3, v4, u4, vt, rfl, hb, hO⟩

end Go.Proofs.Ytgknpbgepgmmmaa.Cm
namespace Go.Proofs.Ytgknpbgepgmmmaa.Cm
open Go.RowKit Bn Kp

set_option linter.unusedSimpArgs false in
set_option maxRecDepth 8000 in
set_option maxHeartbeats 4000000 in
theorem step9_0_15 (c : C9) (Q : Exit → Act → World → Prop) : ∀ a W, T9 c 0 a W → wpOp Try.prog ops9 Q 15 (fun a2 w2 => Sb c.P c.k c.c c.q c.T w2 ∧ T9 c 1 a2 w2) a W := by
  rintro a w9 ⟨rfl, hb, hO⟩
  refine wpOp_step (o := { dst := some 53, op := Op.convert 9 24 (Operand.tmp 52), type := 24, pos := "law.go:71", after := #[{ on := 14, ground := Ground.data }], guard := none }) rfl (fun K hK => ?_)
  replace hK := hide hK
  obtain ⟨cap, w10, hr, hp⟩ := conv_sl9 w9 c.t (by have := c.ht; omega)
  rw [tx, c.hT] at hr
  have hb2 := hb.trans (hp.out.2.1.mono hb.size)
  have hO2 := own_below4 hO hp.out.2.1
  have hV2 : Vt w10 (.slice none 0 0) (.slice (some ⟨w9.heap.size, 0, none⟩) c.t.length cap) c.t := ⟨_, _, rfl, hp.out.1, hp.out.2.2, fun e => by have := (hO.lt _ e).2; omega⟩
  go_simp
  exact hK.out _ _ ⟨c.hS _ hb2, _, rfl, hb2, hO2, hV2⟩

set_option linter.unusedSimpArgs false in
set_option maxRecDepth 8000 in
set_option maxHeartbeats 4000000 in
theorem step9_2_15 (c : C9) (Q : Exit → Act → World → Prop) : ∀ a W, T9 c 2 a W → wpOp Try.prog ops9 Q 15 (fun a2 w2 => Sb c.P c.k c.c c.q c.T w2 ∧ T9 c 3 a2 w2) a W := by
  rintro a w9 ⟨v1, rfl, hb, hO, hP⟩
  refine wpOp_step (o := { dst := some 53, op := Op.convert 9 24 (Operand.tmp 52), type := 24, pos := "law.go:71", after := #[{ on := 14, ground := Ground.data }], guard := none }) rfl (fun K hK => ?_)
  replace hK := hide hK
  obtain ⟨cap, w10, hr, hp⟩ := conv_sl9 w9 c.t (by have := c.ht; omega)
  rw [tx, c.hT] at hr
  have hb2 := hb.trans (hp.out.2.1.mono hb.size)
  have hO2 := own_below4 hO hp.out.2.1
  have hP2 := hP.below hp.out.2.1
  have hV2 : Vt w10 (.slice none 0 0) (.slice (some ⟨w9.heap.size, 0, none⟩) c.t.length cap) c.t := ⟨_, _, rfl, hp.out.1, hp.out.2.2, fun e => by have := (hO.lt _ e).2; omega⟩
  go_simp
  exact hK.out _ _ ⟨c.hS _ hb2, v1, _, rfl, hb2, hO2, hP2, hV2⟩

set_option linter.unusedSimpArgs false in
set_option maxRecDepth 8000 in
set_option maxHeartbeats 4000000 in
theorem step9_4_15 (c : C9) (Q : Exit → Act → World → Prop) : ∀ a W, T9 c 4 a W → wpOp Try.prog ops9 Q 15 (fun a2 w2 => Sb c.P c.k c.c c.q c.T w2 ∧ T9 c 5 a2 w2) a W := by
  rintro a w9 ⟨v1, u1, rfl, hb, hO⟩
  refine wpOp_step (o := { dst := some 53, op := Op.convert 9 24 (Operand.tmp 52), type := 24, pos := "law.go:71", after := #[{ on := 14, ground := Ground.data }], guard := none }) rfl (fun K hK => ?_)
  replace hK := hide hK
  obtain ⟨cap, w10, hr, hp⟩ := conv_sl9 w9 c.t (by have := c.ht; omega)
  rw [tx, c.hT] at hr
  have hb2 := hb.trans (hp.out.2.1.mono hb.size)
  have hO2 := own_below4 hO hp.out.2.1
  have hV2 : Vt w10 u1 (.slice (some ⟨w9.heap.size, 0, none⟩) c.t.length cap) c.t := ⟨_, _, rfl, hp.out.1, hp.out.2.2, fun e => by have := (hO.lt _ e).2; omega⟩
  go_simp
  exact hK.out _ _ ⟨c.hS _ hb2, v1, u1, _, rfl, hb2, hO2, hV2⟩

set_option linter.unusedSimpArgs false in
set_option maxRecDepth 8000 in
set_option maxHeartbeats 4000000 in
theorem step9_6_15 (c : C9) (Q : Exit → Act → World → Prop) : ∀ a W, T9 c 6 a W → wpOp Try.prog ops9 Q 15 (fun a2 w2 => Sb c.P c.k c.c c.q c.T w2 ∧ T9 c 7 a2 w2) a W := by
  rintro a w9 ⟨v1, u1, v2, rfl, hb, hO, hP⟩
  refine wpOp_step (o := { dst := some 53, op := Op.convert 9 24 (Operand.tmp 52), type := 24, pos := "law.go:71", after := #[{ on := 14, ground := Ground.data }], guard := none }) rfl (fun K hK => ?_)
  replace hK := hide hK
  obtain ⟨cap, w10, hr, hp⟩ := conv_sl9 w9 c.t (by have := c.ht; omega)
  rw [tx, c.hT] at hr
  have hb2 := hb.trans (hp.out.2.1.mono hb.size)
  have hO2 := own_below4 hO hp.out.2.1
  have hP2 := hP.below hp.out.2.1
  have hV2 : Vt w10 u1 (.slice (some ⟨w9.heap.size, 0, none⟩) c.t.length cap) c.t := ⟨_, _, rfl, hp.out.1, hp.out.2.2, fun e => by have := (hO.lt _ e).2; omega⟩
  go_simp
  exact hK.out _ _ ⟨c.hS _ hb2, v1, u1, v2, _, rfl, hb2, hO2, hP2, hV2⟩

set_option linter.unusedSimpArgs false in
set_option maxRecDepth 8000 in
set_option maxHeartbeats 4000000 in
theorem step9_8_15 (c : C9) (Q : Exit → Act → World → Prop) : ∀ a W, T9 c 8 a W → wpOp Try.prog ops9 Q 15 (fun a2 w2 => Sb c.P c.k c.c c.q c.T w2 ∧ T9 c 9 a2 w2) a W := by
  rintro a w9 ⟨v1, u1, v2, u2, rfl, hb, hO⟩
  refine wpOp_step (o := { dst := some 53, op := Op.convert 9 24 (Operand.tmp 52), type := 24, pos := "law.go:71", after := #[{ on := 14, ground := Ground.data }], guard := none }) rfl (fun K hK => ?_)
  replace hK := hide hK
  obtain ⟨cap, w10, hr, hp⟩ := conv_sl9 w9 c.t (by have := c.ht; omega)
  rw [tx, c.hT] at hr
  have hb2 := hb.trans (hp.out.2.1.mono hb.size)
  have hO2 := own_below4 hO hp.out.2.1
  have hV2 : Vt w10 u2 (.slice (some ⟨w9.heap.size, 0, none⟩) c.t.length cap) c.t := ⟨_, _, rfl, hp.out.1, hp.out.2.2, fun e => by have := (hO.lt _ e).2; omega⟩
  go_simp
  exact hK.out _ _ ⟨c.hS _ hb2, v1, u1, v2, u2, _, rfl, hb2, hO2, hV2⟩

set_option linter.unusedSimpArgs false in
set_option maxRecDepth 8000 in
set_option maxHeartbeats 4000000 in
theorem step9_10_15 (c : C9) (Q : Exit → Act → World → Prop) : ∀ a W, T9 c 10 a W → wpOp Try.prog ops9 Q 15 (fun a2 w2 => Sb c.P c.k c.c c.q c.T w2 ∧ T9 c 11 a2 w2) a W := by
  rintro a w9 ⟨v1, u1, v2, u2, v3, rfl, hb, hO, hP⟩
  refine wpOp_step (o := { dst := some 53, op := Op.convert 9 24 (Operand.tmp 52), type := 24, pos := "law.go:71", after := #[{ on := 14, ground := Ground.data }], guard := none }) rfl (fun K hK => ?_)
  replace hK := hide hK
  obtain ⟨cap, w10, hr, hp⟩ := conv_sl9 w9 c.t (by have := c.ht; omega)
  rw [tx, c.hT] at hr
  have hb2 := hb.trans (hp.out.2.1.mono hb.size)
  have hO2 := own_below4 hO hp.out.2.1
  have hP2 := hP.below hp.out.2.1
  have hV2 : Vt w10 u2 (.slice (some ⟨w9.heap.size, 0, none⟩) c.t.length cap) c.t := ⟨_, _, rfl, hp.out.1, hp.out.2.2, fun e => by have := (hO.lt _ e).2; omega⟩
  go_simp
  exact hK.out _ _ ⟨c.hS _ hb2, v1, u1, v2, u2, v3, _, rfl, hb2, hO2, hP2, hV2⟩

set_option linter.unusedSimpArgs false in
set_option maxRecDepth 8000 in
set_option maxHeartbeats 4000000 in
theorem step9_13_16 (c : C9) (Q : Exit → Act → World → Prop) : ∀ a W, T9 c 13 a W → wpOp Try.prog ops9 Q 16 (fun a2 w2 => Sb c.P c.k c.c c.q c.T w2 ∧ T9 c 14 a2 w2) a W := by
  rintro a w9 ⟨v1, u1, v2, u2, v3, u3, vt, rfl, hb, hO, hV⟩
  refine wpOp_step (o := { dst := some 54, op := Op.call { callee := Callee.value (Operand.func 13), args := #[Operand.tmp 53], argTypes := #[24] }, type := 24, pos := "law.go:71", after := #[{ on := 15, ground := Ground.data }, { on := 12, ground := Ground.chain }], guard := none }) rfl (fun K hK => ?_)
  replace hK := hide hK
  go_simp
  go_wp2_with fail
  refine Calls.mono (reftext_any vt c.t w9 (sl_text hV) c.ht) ?_
  rintro e w10 ⟨v4, rfl, hN, hbN⟩
  have hb2 := hb.trans (hbN.mono hb.size)
  have hO2 := own_below4 hO hbN
  have hP2 := Sl.of_own hN
  go_wp2_with fail
  exact hK.out _ _ ⟨c.hS _ hb2, v1, u1, v2, u2, v3, u3, v4, vt, rfl, hb2, hO2, hP2⟩

end Go.Proofs.Ytgknpbgepgmmmaa.Cm

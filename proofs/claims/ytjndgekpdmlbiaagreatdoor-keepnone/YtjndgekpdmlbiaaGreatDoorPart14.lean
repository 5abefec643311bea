/- copyOf, copyEntries. slices.Clone of entries; ahead. behind. What Text answers is new memory; the walk of unseal. The walk of a log's load. -/
import Derived.Test.YtjndgekpdmlbiaaGreatDoorPart13
import Derived.Test.YtjndgekpdmlbiaaGreatDoorPart05
import Derived.Laws.OwnMore
import Derived.Deep.Slices
import Derived.Test.YtjndgekpdmlbiaaGreatDoorPart12
import Derived.Test.YtjndgekpdmlbiaaGreatDoorPart10
namespace Go.Proofs.YtjndgekpdmlbiaaGreatDoor.Kp
open Go.RowKit Bn

theorem sl_dk {w : World} {v : Value} {bs : List UInt8} (h : Sl w v bs) : Dk.Sl w v bs := h
theorem Tryz.inf5 : (Tryz.prog.info? 5).map (fun i => (i.zero, i.size, i.bytes)) = some (some (.int .u8 0), 1, 1) := by kernel_rfl

theorem copyB_any (v : Value) (bs : List UInt8) (w : World) (h : Sl w v bs) (hl : bs.length ≤ 140737488355328) :
    Calls Tryz.prog 67 #[v] w fun e w' => ∃ v', e = .returned v' ∧ w'.ownsRow w.heap.size 5 1 v' bs.length (cells8 bs) ∧ Below w.heap.size w w' := by
  obtain ⟨i, hi, hz, hsize, hby⟩ := info_parts Tryz.inf5
  have HD := hide (sl_dk h)
  have HL := hide hl
  obtain ⟨ao, cap, rfl, _⟩ := h.shape
  have HN := hide (World.ownsRow_nil w w.heap.size 5 1)
  clear h hl
  go_enter Tryz.func67, Tryz.ntmps67
  go_wp2_with (at_builtin; refine Dk.wpList_append_sl _ rfl _ _ 33 rfl w.heap.size i Tryz.underlying33 hi hz hsize hby _ _ [] bs rfl HN.out rfl HD.out (by have := HL.out; simpa using this) (Nat.le_refl _) ?_)
  intro v' w' ho hg _
  have hb : Below w.heap.size w w' := ⟨hg.os, hg.tape, hg.output, hg.size, fun k hk => hg.block k hk (by simp [Value.ownBlock])⟩
  obtain ⟨ao', L', cap', rfl⟩ := Dk.own_slice ho
  have HO := hide ho
  have HB := hide hb
  clear ho hg hb
  go_wp2_with fail
  go_ret
  exact ⟨_, rfl, HO.out, HB.out⟩

theorem cellsE_inv : ∀ (es : List Ent) (us : List Value) (m : Nat) (u : Value), (cellsE es us)[m]? = some u → ∃ j k e x, m = j * 4 + k ∧ k < 4 ∧ es[j]? = some e ∧ us[j]? = some x ∧ [Value.int .i64 e.idx, .int .i64 e.term, .int .i64 e.kind, x][k]? = some u
  | [], us, m, u, h => by simp [cellsE] at h
  | e :: r, [], m, u, h => by simp [cellsE] at h
  | e :: r, x :: s, m, u, h => by
    have e0 : cellsE (e :: r) (x :: s) = [Value.int .i64 e.idx, .int .i64 e.term, .int .i64 e.kind, x] ++ cellsE r s := by simp [cellsE]
    rw [e0] at h
    by_cases hm : m < 4
    · rw [List.getElem?_append_left (by simpa using hm)] at h
      exact ⟨0, m, e, x, by omega, hm, rfl, rfl, h⟩
    · rw [List.getElem?_append_right (by simp; omega)] at h
      obtain ⟨j, k, e', x', h1, h2, h3, h4, h5⟩ := cellsE_inv r s _ u h
      simp only [List.length_cons, List.length_nil] at h1
      exact ⟨j + 1, k, e', x', by omega, h2, h3, h4, h5⟩
theorem cellsE_get : ∀ (es : List Ent) (us : List Value) (j k : Nat) (e : Ent) (x : Value), es[j]? = some e → us[j]? = some x → k < 4 → (cellsE es us)[j * 4 + k]? = [Value.int .i64 e.idx, .int .i64 e.term, .int .i64 e.kind, x][k]?
  | [], us, j, k, e, x, h, _, _ => by simp at h
  | e0 :: r, [], j, k, e, x, _, h, _ => by simp at h
  | e0 :: r, x0 :: s, j, k, e, x, h1, h2, hk => by
    have e1 : cellsE (e0 :: r) (x0 :: s) = [Value.int .i64 e0.idx, .int .i64 e0.term, .int .i64 e0.kind, x0] ++ cellsE r s := by simp [cellsE]
    rw [e1]
    cases j with
    | zero =>
      simp at h1 h2
      subst h1 h2
      rw [Nat.zero_mul, Nat.zero_add, List.getElem?_append_left (by simpa using hk)]
    | succ j =>
      rw [List.getElem?_append_right (by simp; omega)]
      have := cellsE_get r s j k e x (by simpa using h1) (by simpa using h2) hk
      rw [← this]
      congr 1
      simp only [List.length_cons, List.length_nil]
      omega
theorem cellsE_len (es : List Ent) (us : List Value) (h : us.length = es.length) : (cellsE es us).length = es.length * 4 := by
  induction es generalizing us with
  | nil => simp [cellsE]
  | cons e r ih =>
    cases us with
    | nil => simp at h
    | cons x s =>
      have e1 : cellsE (e :: r) (x :: s) = [Value.int .i64 e.idx, .int .i64 e.term, .int .i64 e.kind, x] ++ cellsE r s := by simp [cellsE]
      rw [e1, List.length_append, ih s (by simpa using h)]
      simp
      omega
theorem cellsE_set (es : List Ent) (us : List Value) (h : us.length = es.length) (j : Nat) (hj : j < es.length) (x : Value) : (cellsE es us).set (j * 4 + 3) x = cellsE es (us.set j x) := by
  apply List.ext_getElem?
  intro m
  by_cases hm : m < es.length * 4
  · obtain ⟨q, k, hq, hk⟩ : ∃ q k, m = q * 4 + k ∧ k < 4 := ⟨m / 4, m % 4, by omega, by omega⟩
    have hql : q < es.length := by omega
    have he : es[q]? = some es[q] := List.getElem?_eq_getElem hql
    have hu : us[q]? = some (us[q]'(by omega)) := List.getElem?_eq_getElem (by omega)
    rw [List.getElem?_set]
    by_cases hqj : q = j
    · subst hqj
      have hu2 : (us.set q x)[q]? = some x := List.getElem?_set_self (by omega)
      subst hq
      rw [cellsE_get es (us.set q x) q k _ _ he hu2 hk]
      by_cases h3 : k = 3
      · subst h3
        rw [if_pos rfl, if_pos (by rw [cellsE_len es us h]; omega)]
        rfl
      · rw [if_neg (by omega), cellsE_get es us q k _ _ he hu hk]
        rcases (show k = 0 ∨ k = 1 ∨ k = 2 by omega) with rfl | rfl | rfl <;> rfl
    · have hu2 : (us.set j x)[q]? = some (us[q]'(by omega)) := by rw [List.getElem?_set_ne (fun e => hqj e.symm)]; exact hu
      subst hq
      rw [if_neg (by omega), cellsE_get es us q k _ _ he hu hk, cellsE_get es (us.set j x) q k _ _ he hu2 hk]
  · rw [List.getElem?_eq_none (by rw [List.length_set, cellsE_len es us h]; omega), List.getElem?_eq_none (by rw [cellsE_len es _ (by simpa using h)]; omega)]
/-- A cell of a row of one's own is written. -/
theorem own_set {W : World} {b e s n g cap m : Nat} {xs : List Value} (h : W.ownsRow b e s (.slice (some ⟨g, 0, none⟩) n cap) n xs) (hm : m < n * s) (x : Value) : (W.setCell ⟨g, m, none⟩ x).ownsRow b e s (.slice (some ⟨g, 0, none⟩) n cap) n (xs.set m x) := by
  refine ⟨by rw [List.length_set]; exact h.1, ?_⟩
  rcases h.2 with ⟨e1, _⟩ | ⟨g', cap', cur, e1, hb, hg, h1, h2, h3, h4⟩
  · simp at e1
  · simp only [Value.slice.injEq, Option.some.injEq, Addr.mk.injEq, and_true, true_and] at e1
    obtain ⟨rfl, rfl⟩ := e1
    refine .inr ⟨g, cap, cur.setIfInBounds m x, rfl, hb, heap_setCell_same W g m cur e x hg, h1, h2, by simpa using h3, ?_⟩
    rw [← h4]
    apply List.ext_getElem?
    intro k
    simp only [List.getElem?_take, List.getElem?_set, Array.toList_setIfInBounds, List.length_take]
    by_cases hk : k < n * s
    · simp only [hk, if_true]
      by_cases hkm : m = k
      · subst hkm
        have : n * s ≤ cur.toList.length := by
          have : n * s ≤ cap * s := Nat.mul_le_mul_right s h1
          simp; omega
        simp only [if_true]
        rw [if_pos (by omega), if_pos (by omega)]
      · simp [hkm]
    · have hkm : ¬ m = k := by omega
      simp [hk, hkm]

theorem wpList_append_go {P : Program} (w : World) {ops : Array Oper} {rest : List Oper} {o : Oper} {a : Act} {Q : Exit → Act → World → Prop} (hgd : o.guard = none) (d x : Operand) (dT sT : TypeId) (hop : o.op = Op.call { callee := Callee.builtin Builtin.append, args := #[d, x], argTypes := #[dT, sT] })
    (v u : Value) (hd : a.eval d = v) (hx : a.eval x = u) {v' : Value} {w' : World} (hr : (Builtin.append_ #[dT, sT] o.type #[v, u]).run P w = .ok v' w') (hK : wpList P ops Q rest (a.put o.dst v') w') : wpList P ops Q (o :: rest) a w := by
  refine wpList_plain hgd fun K' hK' => ?_
  unfold Oper.wp
  simp [execOp, hop, resolve, invoke, builtin, hd, hx, hr, Result.andThen]
  exact hK' _ _ hK
/-- A new row of entries whose data are still the others'. -/
def Ec (b : Nat) (w W : World) (i : Nat) (v : Value) (es : List Ent) : Prop :=
  ∃ us : List Value, us.length = es.length ∧ W.ownsRow b 65 4 v es.length (cellsE es us) ∧
    (∀ (j : Nat) (e : Ent), j < i → es[j]? = some e → ∃ u, us[j]? = some u ∧ W.ownsRow b 5 1 u e.data.length (cells8 e.data)) ∧
    (∀ (j : Nat) (e : Ent), i ≤ j → es[j]? = some e → ∃ ad ld cd, us[j]? = some (.slice ad ld cd) ∧ Sl w (.slice ad ld cd) e.data)
theorem Ec.er {b : Nat} {w W : World} {v : Value} {es : List Ent} (h : Ec b w W es.length v es) : Er b W v es := by
  obtain ⟨us, h1, h2, h3, _⟩ := h
  exact ⟨us, h1, h2, fun j e hj => h3 j e (List.getElem?_eq_some_iff.1 hj).1 hj⟩

theorem copyE_any (v : Value) (es : List Ent) (w : World) (h : Es w v es) (hl : es.length ≤ 1000000000000) :
    Calls Tryz.prog 66 #[v] w fun x w' => ∃ v', x = .returned v' ∧ Hid (Ec w.heap.size w w' 0 v' es ∧ Below w.heap.size w w') := by
  obtain ⟨i, hi, hz, hsize, hby⟩ := info_parts Tryz.info65
  obtain ⟨ao, cap, rfl, h1, h2, h3⟩ := h
  have hn := World.ownsRow_nil w w.heap.size 65 4
  have key : ∃ v' w', (∀ ty, (Builtin.append_ #[36, 36] ty #[.slice none 0 0, .slice ao es.length cap]).run Tryz.prog w = .ok v' w') ∧ Ec w.heap.size w w' 0 v' es ∧ Below w.heap.size w w' := by
    cases ao with
    | none =>
      have h0 : es = [] := by
        cases es with
        | nil => rfl
        | cons e r => obtain ⟨g, off, hg, _⟩ := h3 (by simp); cases hg
      subst h0
      refine ⟨.slice none 0 0, w, fun ty => ?_, ⟨[], rfl, hn, by simp, by simp⟩, Below.refl _ _⟩
      simp [Builtin.append_, run_underlying Tryz.underlying36, sizeOf, typeInfo, hi, Builtin.lenOf, Builtin.firstCells]
    | some a =>
      have hcs : ∃ us : List Value, us.length = es.length ∧ (∀ j u, (cellsE es us)[j]? = some u → w.cell? (a.add j) = some u) ∧ ∀ (j : Nat) (e : Ent), es[j]? = some e → ∃ ad ld cd, us[j]? = some (.slice ad ld cd) ∧ Sl w (.slice ad ld cd) e.data := by
        by_cases hp : 0 < es.length
        · obtain ⟨g, off, hg, hc⟩ := h3 hp
          cases hg
          have each : ∀ j, j < es.length → ∃ u : Value, ∀ e, es[j]? = some e → ∃ ad ld cd, u = .slice ad ld cd ∧ w.cell? ⟨g, off + j * 4, none⟩ = some (.int .i64 e.idx) ∧ w.cell? ⟨g, off + j * 4 + 1, none⟩ = some (.int .i64 e.term) ∧ w.cell? ⟨g, off + j * 4 + 2, none⟩ = some (.int .i64 e.kind) ∧ w.cell? ⟨g, off + j * 4 + 3, none⟩ = some (.slice ad ld cd) ∧ Sl w (.slice ad ld cd) e.data := by
            intro j hj
            obtain ⟨ad, ld, cd, k0, k1, k2, k3, k4⟩ := hc j es[j] (List.getElem?_eq_getElem hj)
            refine ⟨.slice ad ld cd, fun e he => ?_⟩
            rw [List.getElem?_eq_getElem hj] at he
            cases he
            exact ⟨ad, ld, cd, rfl, k0, k1, k2, k3, k4⟩
          obtain ⟨f, hf⟩ := Go.Deep.choose_lt each
          have hget : ∀ j, j < es.length → ((List.range es.length).map f)[j]? = some (f j) := fun j hj => by simp [hj]
          refine ⟨(List.range es.length).map f, by simp, fun m u hm => ?_, fun j e he => ?_⟩
          · obtain ⟨j, k, e, x, rfl, hk, he, hx, hu⟩ := cellsE_inv _ _ _ _ hm
            have hj := (List.getElem?_eq_some_iff.1 he).1
            obtain ⟨ad, ld, cd, e1, k0, k1, k2, k3, k4⟩ := hf j hj e he
            rw [hget j hj] at hx
            cases hx
            rw [Addr.add_lit]
            rcases (show k = 0 ∨ k = 1 ∨ k = 2 ∨ k = 3 by omega) with rfl | rfl | rfl | rfl
            · simp at hu; subst hu; rw [Nat.add_zero]; exact k0
            · simp at hu; subst hu; rw [← Nat.add_assoc]; exact k1
            · simp at hu; subst hu; rw [← Nat.add_assoc]; exact k2
            · simp at hu; subst hu; rw [← Nat.add_assoc, k3, e1]
          · have hj := (List.getElem?_eq_some_iff.1 he).1
            obtain ⟨ad, ld, cd, e1, k0, k1, k2, k3, k4⟩ := hf j hj e he
            exact ⟨ad, ld, cd, by rw [hget j hj, e1], k4⟩
        · have h0 : es = [] := List.eq_nil_of_length_eq_zero (by omega)
          subst h0
          exact ⟨[], rfl, by simp [cellsE], by simp⟩
      obtain ⟨us, hul, hcell, hsl⟩ := hcs
      have H := fun ty => run_append_own_at (P := Tryz.prog) w w.heap.size 36 ty 65 i _ 4 48 Tryz.underlying36 hi hz hsize hby rfl (by decide) (.slice none 0 0) 0 [] hn a es.length cap (cellsE es us) (by rw [cellsE_len es us hul]) hcell (by
        intro u hu
        obtain ⟨m, hm⟩ := List.getElem?_of_mem hu
        obtain ⟨j, k, e, x, rfl, hk, he, hx, hu2⟩ := cellsE_inv _ _ _ _ hm
        obtain ⟨ad, ld, cd, e1, _⟩ := hsl j e he
        rw [e1] at hx
        cases hx
        rcases (show k = 0 ∨ k = 1 ∨ k = 2 ∨ k = 3 by omega) with rfl | rfl | rfl | rfl <;> (simp at hu2; subst hu2; rfl)) (by simp only [maxLen]; omega) (by omega) (Nat.le_refl _)
      obtain ⟨v', w', hr, g1, g2, _, _⟩ := H 0
      refine ⟨v', w', fun ty => hr, ⟨us, hul, by simpa using g1, by simp, fun j e _ he => hsl j e he⟩, ⟨g2.os, g2.tape, g2.output, g2.size, fun k hk => g2.block k hk (by simp [Value.ownBlock])⟩⟩
  obtain ⟨v', w', hap, hE⟩ := key
  obtain ⟨us, _, ho, _⟩ := hE.1
  obtain ⟨ao', L', cap', rfl⟩ := Dk.own_slice ho
  have HE := hide hE
  clear hE ho h1 h2 h3 hn
  go_enter Tryz.func66, Tryz.ntmps66
  go_wp2_with (at_builtin; refine wpList_append_go _ rfl _ _ 36 36 rfl _ _ rfl rfl (hap _) ?_)
  go_ret
  exact ⟨_, rfl, HE.out⟩

theorem own_bel {W W' : World} {b e s n : Nat} {v : Value} {xs : List Value} (h : W.ownsRow b e s v n xs) (hb : Below W.heap.size W W') : W'.ownsRow b e s v n xs := by
  refine ⟨h.1, ?_⟩
  rcases h.2 with h2 | ⟨g, cap, cur, e1, e2, e3, e4⟩
  · exact Or.inl h2
  · refine Or.inr ⟨g, cap, cur, e1, e2, ?_, e4⟩
    rw [hb.block g (lt_of_block e3)]
    exact e3
theorem own_apart {W : World} {b b' e e' s s' n n' : Nat} {v v' : Value} {xs xs' : List Value} (h : W.ownsRow b e s v n xs) (h' : W.ownsRow b' e' s' v' n' xs') (he : e ≠ e') {k : Nat} (hk : v.ownBlock = some k) : v'.ownBlock ≠ some k := by
  intro hk'
  rcases h.2 with ⟨rfl, _⟩ | ⟨g, cap, cur, rfl, _, hg, _⟩
  · simp [Value.ownBlock] at hk
  · rcases h'.2 with ⟨rfl, _⟩ | ⟨g', cap', cur', rfl, _, hg', _⟩
    · simp [Value.ownBlock] at hk'
    · simp [Value.ownBlock] at hk hk'
      subst hk hk'
      rw [hg] at hg'
      injection hg' with hg'
      injection hg' with _ h3 _
      exact he h3
theorem Ec.shape {b : Nat} {w W : World} {i : Nat} {v : Value} {es : List Ent} (h : Ec b w W i v es) (hi : i < es.length) : ∃ g cap, v = .slice (some ⟨g, 0, none⟩) es.length cap := by
  obtain ⟨us, _, h2, _⟩ := h
  rcases Dk.own_shape h2 with ⟨_, h0⟩ | ⟨g, cap, e, _⟩
  · omega
  · exact ⟨g, cap, e⟩
theorem Ec.at {b g cap : Nat} {w W : World} {i : Nat} {es : List Ent} (h : Ec b w W i (.slice (some ⟨g, 0, none⟩) es.length cap) es) (hi : i < es.length) :
    ∃ ad ld cd, W.cell? ⟨g, i * 4, none⟩ = some (.int .i64 es[i].idx) ∧ W.cell? ⟨g, i * 4 + 1, none⟩ = some (.int .i64 es[i].term) ∧ W.cell? ⟨g, i * 4 + 2, none⟩ = some (.int .i64 es[i].kind) ∧ W.cell? ⟨g, i * 4 + 3, none⟩ = some (.slice ad ld cd) ∧ Sl w (.slice ad ld cd) es[i].data ∧
      ∀ W', Below W.heap.size W W' → ∀ u, W'.ownsRow W.heap.size 5 1 u es[i].data.length (cells8 es[i].data) → W'.cell? ⟨g, i * 4 + 3, none⟩ = some (.slice ad ld cd) ∧ W'.frozen? ⟨g, i * 4 + 3, none⟩ = false ∧ (b ≤ W.heap.size → Ec b w (W'.setCell ⟨g, i * 4 + 3, none⟩ u) (i + 1) (.slice (some ⟨g, 0, none⟩) es.length cap) es) := by
  obtain ⟨us, h1, h2, h3, h4⟩ := h
  have he : es[i]? = some es[i] := List.getElem?_eq_getElem hi
  obtain ⟨ad, ld, cd, hu, hsl⟩ := h4 i es[i] (Nat.le_refl _) he
  have hc : ∀ k, k < 4 → W.cell? ⟨g, i * 4 + k, none⟩ = [Value.int .i64 es[i].idx, .int .i64 es[i].term, .int .i64 es[i].kind, .slice ad ld cd][k]? := fun k hk => by
    rw [h2.cellAt _ (by omega), cellsE_get es us i k _ _ he hu hk]
  refine ⟨ad, ld, cd, hc 0 (by decide), hc 1 (by decide), hc 2 (by decide), hc 3 (by decide), hsl, fun W' hb u hou => ?_⟩
  have h2' := own_bel h2 hb
  have hrow : ∃ cur, W'.heap[g]? = some (Obj.cells cur 65 (0, 0)) := by
    rcases h2'.2 with ⟨e1, _⟩ | ⟨g', cap', cur, e1, _, hg, _⟩
    · simp at e1
    · simp only [Value.slice.injEq, Option.some.injEq, Addr.mk.injEq, and_true, true_and] at e1
      obtain ⟨rfl, rfl⟩ := e1
      exact ⟨cur, hg⟩
  obtain ⟨cur, hg⟩ := hrow
  have hlt : g < W.heap.size := cell_lt (hc 0 (by decide))
  refine ⟨?_, frozen_of_row W' g _ cur 65 hg, fun hbb => ⟨us.set i u, by simpa using h1, ?_, fun j e hj hej => ?_, fun j e hj hej => ?_⟩⟩
  · exact (hb.cell (p := ⟨g, i * 4 + 3, none⟩) hlt).trans (hc 3 (by decide))
  · rw [← cellsE_set es us h1 i hi u]
    exact own_set h2' (by omega) u
  · by_cases hji : j = i
    · subst hji
      rw [he] at hej
      cases hej
      refine ⟨u, List.getElem?_set_self (by omega), ?_⟩
      refine ownsRow_setCell_other (a := ⟨g, _ * 4 + 3, none⟩) (own_low hou hbb) (fun e => ?_) u
      have := own_ge hou _ e
      simp at this
      omega
    · obtain ⟨x, hx, hox⟩ := h3 j e (by omega) hej
      refine ⟨x, by rw [List.getElem?_set_ne (fun e => hji e.symm)]; exact hx, ?_⟩
      exact ownsRow_setCell_other (a := ⟨g, i * 4 + 3, none⟩) (own_bel hox hb) (fun e => own_apart h2' (own_bel hox hb) (by decide) rfl e) u
  · obtain ⟨ad', ld', cd', hx, hs⟩ := h4 j e (by omega) hej
    exact ⟨ad', ld', cd', by rw [List.getElem?_set_ne (by omega)]; exact hx, hs⟩

set_option maxRecDepth 8000 in
set_option maxHeartbeats 4000000 in
theorem copyEntries_any (v : Value) (es : List Ent) (w : World) (h : Es w v es) (hl : es.length ≤ 1000000000000) (hd : ∀ e ∈ es, e.data.length ≤ 140737488355328) :
    Calls Tryz.prog 44 #[v] w fun x w' => ∃ v', x = .returned v' ∧ Hid (Er w.heap.size w' v' es ∧ Below w.heap.size w w') := by
  have HC := hide (copyE_any v es w h hl)
  have HDL := hide hd
  have hv : ∃ ao cap, v = .slice ao es.length cap := by obtain ⟨ao, cap, e, _⟩ := h; exact ⟨ao, cap, e⟩
  obtain ⟨ao, cap, rfl⟩ := hv
  clear h hd
  go_enter Tryz.func44, Tryz.ntmps44
  go_wp2_with fail
  refine Calls.mono HC.out ?_
  rintro x w1 ⟨v', rfl, hz⟩
  have hsh : ∃ ao' cap', v' = .slice ao' es.length cap' := by
    obtain ⟨us, _, h2, _⟩ := hz.out.1
    rcases Dk.own_shape h2 with ⟨e, h0⟩ | ⟨g, c, e, _⟩
    · rw [e, h0]; exact ⟨_, _, rfl⟩
    · rw [e]; exact ⟨_, _, rfl⟩
  obtain ⟨ao', cap', rfl⟩ := hsh
  have HE1 := hide hz.out.1
  have HB1 := hide hz.out.2
  clear hz HC
  go_wp2_with fail
  go_loopw [4, 5, 10] (fun _ _ iv wr => ∃ i : Nat, iv = .int .i64 i ∧ i ≤ es.length ∧ Hid (Ec w.heap.size w wr i (.slice ao' es.length cap') es) ∧ Hid (Below w.heap.size w wr)) (fun _ _ iv _ => es.length - (intOf iv).toNat)
  case atStart => exact ⟨0, rfl, Nat.zero_le _, HE1, HB1⟩
  case round =>
    obtain ⟨i, rfl, hi, HE, HB⟩ := hrel
    by_cases hlt : i < es.length
    · have hltI : (i : Int) < (es.length : Int) := by omega
      obtain ⟨g, cap2, hvv⟩ := HE.out.shape hlt
      simp only [Value.slice.injEq, true_and] at hvv
      obtain ⟨rfl, rfl⟩ := hvv
      obtain ⟨ad, ld, cd, k0, k1, k2, k3, hsl, hst⟩ := HE.out.at hlt
      have HST := hide hst
      have hdl := HDL.out es[i] (List.getElem_mem hlt)
      have hxb : Hid (∀ o, Below wr.heap.size wr (wr.alloc o)) := fun o => (Below.refl _ wr).alloc (Nat.le_refl _) o
      have HCB : Hid (∀ o, Calls Tryz.prog 67 #[.slice ad ld cd] (wr.alloc o) fun e w' => ∃ v', e = .returned v' ∧ w'.ownsRow (wr.alloc o).heap.size 5 1 v' es[i].data.length (cells8 es[i].data) ∧ Below (wr.alloc o).heap.size (wr.alloc o) w') := fun o =>
        copyB_any _ _ _ ((hsl.below HB.out).below (hxb.out o)) hdl
      have HSZ := hide HB.out.size
      generalize es[i] = e at *
      clear hst hsl hdl
      go_wp2_with fail
      refine Calls.mono (HCB.out _) ?_
      rintro x w5 ⟨u, rfl, hou, hb5⟩
      have hb5' := (hxb.out _).trans (hb5.mono (hxb.out _).size)
      have h6 := HST.out w5 hb5' u (own_low hou (hxb.out _).size)
      obtain ⟨c3, f3, hE6⟩ := h6
      obtain ⟨adu, ldu, cdu, rfl⟩ := Dk.own_slice hou
      have HE6 := hide (hE6 HSZ.out)
      have HB6 := hide ((HB.out.trans (hb5'.mono HB.out.size)).setCell (p := ⟨g, i * 4 + 3, none⟩) (by have := own_ge HE6.out.choose_spec.2.1 g rfl; exact this) (.slice adu ldu cdu))
      clear hou hb5 hb5' hE6 HCB HST
      go_wp2_with fail
      go_roundw
      case rel => exact ⟨i + 1, by go_num, by omega, HE6, HB6⟩
      case measure => simp [intOf]; omega
    · have hltI : ¬ (i : Int) < (es.length : Int) := by omega
      have hie : i = es.length := by omega
      rw [hie] at HE
      clear hie
      go_wp2_with fail
      go_ret
      exact ⟨_, rfl, HE.out.er, HB.out⟩
end Go.Proofs.YtjndgekpdmlbiaaGreatDoor.Kp
namespace Go.Proofs.YtjndgekpdmlbiaaGreatDoor.Kp
open Go.RowKit Bn

/-- A slice of entries whose data are rows of one's own. -/
def Eg (b : Nat) (W : World) (ao : Option Addr) (es : List Ent) : Prop :=
  ∃ us : List Value, us.length = es.length ∧ (ao = none → es = []) ∧ (∀ a, ao = some a → ∀ j u, (cellsE es us)[j]? = some u → W.cell? (a.add j) = some u) ∧
    ∀ (j : Nat) (e : Ent), es[j]? = some e → ∃ u, us[j]? = some u ∧ W.ownsRow b 5 1 u e.data.length (cells8 e.data)
theorem cellsE_take (es : List Ent) (us : List Value) (h : us.length = es.length) (k : Nat) : cellsE (es.take k) (us.take k) = (cellsE es us).take (k * 4) := by
  induction es generalizing us k with
  | nil => simp [cellsE]
  | cons e r ih =>
    cases us with
    | nil => simp at h
    | cons x s =>
      cases k with
      | zero => simp [cellsE]
      | succ k =>
        have e1 : ∀ r s, cellsE (e :: r) (x :: s) = [Value.int .i64 e.idx, .int .i64 e.term, .int .i64 e.kind, x] ++ cellsE r s := fun r s => by simp [cellsE]
        rw [List.take_succ_cons, List.take_succ_cons, e1, e1, ih s (by simpa using h), show (k + 1) * 4 = 4 + k * 4 by omega, List.take_append]
        simp [List.take_of_length_le]
theorem Er.front {b : Nat} {W : World} {ao : Option Addr} {n cap : Nat} {es : List Ent} (h : Er b W (.slice ao n cap) es) (k : Nat) : Eg b W ao (es.take k) := by
  obtain ⟨us, h1, h2, h3⟩ := h
  refine ⟨us.take k, by simp [h1], fun e => ?_, fun a ha j u hj => ?_, fun j e hj => ?_⟩
  · rcases h2.2 with ⟨_, h0⟩ | ⟨g, c, cur, e1, _⟩
    · rw [List.eq_nil_of_length_eq_zero h0]; simp
    · rw [e] at e1; cases e1
  · rw [cellsE_take es us h1] at hj
    have hj2 : (cellsE es us)[j]? = some u := by
      by_cases hlt : j < k * 4
      · rw [List.getElem?_take, if_pos hlt] at hj; exact hj
      · rw [List.getElem?_take, if_neg hlt] at hj; cases hj
    rcases h2.2 with ⟨e0, _⟩ | ⟨g, c, cur, e1, _⟩
    · rw [ha] at e0; cases e0
    · rw [ha] at e1
      simp only [Value.slice.injEq, Option.some.injEq] at e1
      obtain ⟨rfl, _, _⟩ := e1
      exact h2.cells (by rw [ha]; rfl) j u hj2
  · have hj2 : es[j]? = some e := by
      by_cases hlt : j < k
      · rw [List.getElem?_take, if_pos hlt] at hj; exact hj
      · rw [List.getElem?_take, if_neg hlt] at hj; cases hj
    have hlt : j < k := by
      by_cases hlt : j < k
      · exact hlt
      · rw [List.getElem?_take, if_neg hlt] at hj; cases hj
    obtain ⟨u, h4, h5⟩ := h3 j e hj2
    exact ⟨u, by rw [List.getElem?_take, if_pos hlt]; exact h4, h5⟩
theorem own_oneE {es : List Ent} {us : List Value} (hs : ∀ (j : Nat) (e : Ent), es[j]? = some e → ∃ u, us[j]? = some u ∧ u.oneCell' = true) : ∀ u ∈ cellsE es us, u.oneCell' = true := by
  intro u hu
  obtain ⟨m, hm⟩ := List.getElem?_of_mem hu
  obtain ⟨j, k, e, x, rfl, hk, he, hx, hu2⟩ := cellsE_inv _ _ _ _ hm
  obtain ⟨y, e1, h1⟩ := hs j e he
  rw [e1] at hx
  cases hx
  rcases (show k = 0 ∨ k = 1 ∨ k = 2 ∨ k = 3 by omega) with rfl | rfl | rfl | rfl
  · simp at hu2; subst hu2; rfl
  · simp at hu2; subst hu2; rfl
  · simp at hu2; subst hu2; rfl
  · simp at hu2; subst hu2; exact h1
/-- Entries at the end of a row of entries. -/
theorem append_ents {b : Nat} {W : World} {v : Value} {es : List Ent} (h : Er b W v es) {a : Addr} {ns : List Ent} {cap : Nat} (hn : Eg b W (some a) ns) (hl : es.length + ns.length ≤ 1000000000000) (hb : b ≤ W.heap.size) :
    ∃ v' w', (∀ ty, (Builtin.append_ #[36, 36] ty #[v, .slice (some a) ns.length cap]).run Tryz.prog W = .ok v' w') ∧ Er b w' v' (es ++ ns) ∧ W.grownBy w' v.ownBlock ∧ (v'.ownBlock = v.ownBlock ∨ v'.ownBlock = some W.heap.size) := by
  obtain ⟨i, hi, hz, hsize, hby⟩ := info_parts Tryz.info65
  obtain ⟨us, h1, h2, h3⟩ := h
  obtain ⟨xs, n1, _, n3, n4⟩ := hn
  have H := fun ty => run_append_own_at (P := Tryz.prog) W b 36 ty 65 i _ 4 48 Tryz.underlying36 hi hz hsize hby rfl (by decide) v es.length (cellsE es us) h2 a ns.length cap (cellsE ns xs) (cellsE_len ns xs n1) (n3 a rfl) (own_oneE fun j e he => by
    obtain ⟨u, hu, ho⟩ := n4 j e he
    obtain ⟨ad, ld, cd, rfl⟩ := Dk.own_slice ho
    exact ⟨_, hu, rfl⟩) (by simp only [maxLen]; omega) (by omega) hb
  obtain ⟨v', w', hr, g1, g2, _, g4⟩ := H 0
  refine ⟨v', w', fun ty => hr, ⟨us ++ xs, by simp [h1, n1], ?_, fun j e hj => ?_⟩, g2, g4⟩
  · have e1 : cellsE (es ++ ns) (us ++ xs) = cellsE es us ++ cellsE ns xs := by
      rw [cellsE, List.zip_append h1.symm, List.flatMap_append]; rfl
    rw [e1, List.length_append]
    exact g1
  · by_cases hlt : j < es.length
    · rw [List.getElem?_append_left hlt] at hj
      obtain ⟨u, h4, h5⟩ := h3 j e hj
      exact ⟨u, by rw [List.getElem?_append_left (by omega)]; exact h4, own_type h5 h2 g2⟩
    · rw [List.getElem?_append_right (by omega)] at hj
      obtain ⟨u, h4, h5⟩ := n4 _ e hj
      exact ⟨u, by rw [List.getElem?_append_right (by omega), h1]; exact h4, own_type h5 h2 g2⟩
theorem Eg.below {b : Nat} {W W' : World} {ao : Option Addr} {es : List Ent} (h : Eg b W ao es) (hb : Below W.heap.size W W') : Eg b W' ao es := by
  obtain ⟨us, h1, h2, h3, h4⟩ := h
  refine ⟨us, h1, h2, fun a ha j u hj => ?_, fun j e hj => ?_⟩
  · have := h3 a ha j u hj
    exact (hb.cell (p := a.add j) (World.block_lt_of_cell? W _ this)).trans this
  · obtain ⟨u, h5, h6⟩ := h4 j e hj
    exact ⟨u, h5, own_bel h6 hb⟩
theorem Er.below {b : Nat} {W W' : World} {v : Value} {es : List Ent} (h : Er b W v es) (hb : Below W.heap.size W W') : Er b W' v es := by
  obtain ⟨us, h1, h2, h3⟩ := h
  refine ⟨us, h1, own_bel h2 hb, fun j e hj => ?_⟩
  obtain ⟨u, h5, h6⟩ := h3 j e hj
  exact ⟨u, h5, own_bel h6 hb⟩
theorem Er.new (b : Nat) (W : World) (hb : b ≤ W.heap.size) : Er b (W.alloc (.cells #[] 65)) (.slice (some ⟨W.heap.size, 0, none⟩) 0 0) [] :=
  ⟨[], rfl, ⟨rfl, Or.inr ⟨W.heap.size, 0, #[], rfl, hb, heap_alloc_new _ _, Nat.le_refl _, by simp [maxLen], rfl, rfl⟩⟩, fun j e h => by simp at h⟩

theorem eqlN (w : World) : (binOp .eql 36 (.slice none 0 0) (.slice none 0 0)).run Tryz.prog w = .ok (.bool true) w := by kernel_rfl
theorem eqlS (a : Addr) (n c : Nat) (w : World) : (binOp .eql 36 (.slice (some a) n c) (.slice none 0 0)).run Tryz.prog w = .ok (.bool false) w := by kernel_rfl
set_option maxRecDepth 4000 in
theorem cloneE_any {b : Nat} {W : World} {ao : Option Addr} {es : List Ent} (cap : Nat) (h : Eg b W ao es) (hc : ao = none → cap = 0) (hl : es.length ≤ 1000000000000) (hb : b ≤ W.heap.size) :
    Calls Tryz.prog 113 #[.slice ao es.length cap] W fun x w' => ∃ v', x = .returned v' ∧ Hid (Er b w' v' es ∧ Below W.heap.size W w' ∧ ∀ k, v'.ownBlock = some k → W.heap.size ≤ k) := by
  cases ao with
  | none =>
    have h0 : es = [] := by obtain ⟨us, _, h2, _⟩ := h; exact h2 rfl
    subst h0
    have hc0 := hc rfl
    subst hc0
    clear h hc hl hb
    have hq0 := eqlN
    go_enter Tryz.func113, Tryz.ntmps113
    go_wp2_with fail
    go_ret
    exact ⟨_, rfl, Er.nil _ _, Below.refl _ _, fun k hk => by simp [Value.ownBlock] at hk⟩
  | some a =>
    have ha : Below W.heap.size W (W.alloc (.cells #[] 65)) := (Below.refl _ _).alloc (Nat.le_refl _) _
    obtain ⟨v', w', hap, hE, hg, hq⟩ := append_ents (Er.new b W hb) (cap := cap) (h.below ha) (by simpa using hl) (Nat.le_trans hb ha.size)
    have hsh : ∃ ao' cap', v' = .slice ao' es.length cap' := by
      obtain ⟨us, _, h2, _⟩ := hE
      rcases Dk.own_shape h2 with ⟨e, h0⟩ | ⟨g, c, e, _⟩
      · simp at h0; rw [e, h0]; exact ⟨_, _, rfl⟩
      · exact ⟨some ⟨g, 0, none⟩, c, by rw [e]; simp⟩
    obtain ⟨ao', cap', rfl⟩ := hsh
    have hB : Below W.heap.size W w' := ha.trans ⟨hg.os, hg.tape, hg.output, hg.size, fun k hk => hg.block k (by simp; omega) (by simp [Value.ownBlock]; omega)⟩
    have hnew : ∀ k, (Value.slice ao' es.length cap').ownBlock = some k → W.heap.size ≤ k := by
      intro k hk
      rcases hq with e | e
      · rw [e] at hk
        simp [Value.ownBlock] at hk
        omega
      · rw [e] at hk
        simp at hk
        omega
    have HF : Hid (Er b w' (.slice ao' es.length cap') es ∧ Below W.heap.size W w' ∧ ∀ k, (Value.slice ao' es.length cap').ownBlock = some k → W.heap.size ≤ k) := ⟨by simpa using hE, hB, hnew⟩
    clear h hc hE hg hB hnew ha hq hl hb
    have hq0 := eqlS
    go_enter Tryz.func113, Tryz.ntmps113
    go_wp2_with (at_builtin; refine wpList_append_go _ rfl _ _ 36 36 rfl _ _ rfl rfl (hap _) ?_)
    go_ret
    exact ⟨_, rfl, HF.out⟩

set_option maxRecDepth 4000 in
set_option maxHeartbeats 1000000 in
theorem ahead_any {b : Nat} {W : World} (x0 x1 x3 x4 x5 : Value) (idx first : Int) (v : Value) (es : List Ent) (h : Er b W v es) (k : Nat) (hk : first - 1 - idx = (k : Int)) (hkl : k ≤ es.length) (hi : 0 ≤ idx) (hf : first ≤ 9223372036854775807) (hl : es.length ≤ 1000000000000) (hb : b ≤ W.heap.size) :
    Calls Tryz.prog 90 #[.agg #[x0, x1, .int .i64 idx, x3, x4, x5, v], .int .i64 first] W fun x w' => ∃ v', x = .returned v' ∧ Hid (Er b w' v' (es.take k) ∧ Below W.heap.size W w' ∧ (v' = v ∧ k = es.length ∨ ∀ j, v'.ownBlock = some j → W.heap.size ≤ j)) := by
  have hx : Hid (∀ o, Below W.heap.size W (W.alloc o)) := fun o => (Below.refl _ W).alloc (Nat.le_refl _) o
  have HE := hide h
  have hown : ∃ us, W.ownsRow b 65 4 v es.length (cellsE es us) := by obtain ⟨us, _, h2, _⟩ := h; exact ⟨us, h2⟩
  obtain ⟨us, hown⟩ := hown
  have hk1 : -9223372036854775808 ≤ first - 1 := by omega
  rcases Dk.own_shape hown with ⟨rfl, h0⟩ | ⟨g, cap, rfl, h1, h2, _⟩
  · have hk0 : k = 0 := by omega
    subst hk0
    have hes : es = [] := List.eq_nil_of_length_eq_zero h0
    subst hes
    clear h hown hl hb HE h0
    go_enter Tryz.func90, Tryz.ntmps90
    go_wp2_with fail
    go_ret
    exact ⟨_, rfl, Er.nil _ _, hx.out _, Or.inl ⟨rfl, by first | rfl | trivial⟩⟩
  · have hcm : cap ≤ 9223372036854775807 := h2
    have hkc : k ≤ cap := by omega
    by_cases hlt : k < es.length
    · have HCl : Hid (∀ o, Calls Tryz.prog 113 #[.slice (some ⟨g, 0, none⟩) k cap] (W.alloc o) fun x w' => ∃ v', x = .returned v' ∧ Hid (Er b w' v' (es.take k) ∧ Below (W.alloc o).heap.size (W.alloc o) w' ∧ ∀ j, v'.ownBlock = some j → (W.alloc o).heap.size ≤ j)) := fun o => by
        have hlen : (es.take k).length = k := by rw [List.length_take]; omega
        have := cloneE_any cap ((HE.out.front k).below (hx.out o)) (fun e => by cases e) (by omega) (Nat.le_trans hb (hx.out o).size)
        rw [hlen] at this
        exact this
      have hltI : (k : Int) < (es.length : Int) := by omega
      clear h hown hl hb h2
      go_enter Tryz.func90, Tryz.ntmps90
      go_wp2_with fail
      refine Calls.mono (HCl.out _) ?_
      rintro x w4 ⟨v', rfl, hz⟩
      have HF : Hid (Er b w4 v' (es.take k) ∧ Below W.heap.size W w4 ∧ ∀ j, v'.ownBlock = some j → W.heap.size ≤ j) := ⟨hz.out.1, (hx.out _).trans (hz.out.2.1.mono (hx.out _).size), fun j hj => Nat.le_trans (hx.out _).size (hz.out.2.2 j hj)⟩
      have hsh : ∃ ao' L' cap', v' = .slice ao' L' cap' := by
        obtain ⟨us', _, h2', _⟩ := hz.out.1
        exact Dk.own_slice h2'
      obtain ⟨ao', L', cap', rfl⟩ := hsh
      clear hz HCl
      go_wp2_with fail
      go_ret
      exact ⟨_, rfl, HF.out.1, HF.out.2.1, Or.inr HF.out.2.2⟩
    · have hke : k = es.length := by omega
      subst hke
      clear h hown hl hb h2
      go_enter Tryz.func90, Tryz.ntmps90
      go_wp2_with fail
      go_ret
      refine ⟨_, rfl, ?_, hx.out _, Or.inl ⟨rfl, by first | rfl | trivial⟩⟩
      rw [List.take_length]
      exact HE.out.below (hx.out _)
end Go.Proofs.YtjndgekpdmlbiaaGreatDoor.Kp
namespace Go.Proofs.YtjndgekpdmlbiaaGreatDoor.Kp
open Go.RowKit Bn

theorem Er.es {b : Nat} {W : World} {v : Value} {es : List Ent} (h : Er b W v es) : Es W v es := by
  obtain ⟨us, h1, h2, h3⟩ := h
  rcases Dk.own_shape h2 with ⟨rfl, h0⟩ | ⟨g, cap, rfl, k1, k2, _⟩
  · have : es = [] := List.eq_nil_of_length_eq_zero h0
    subst this
    exact ⟨none, 0, rfl, Nat.le_refl _, by simp [maxLen], fun h => by simp at h⟩
  · refine ⟨some ⟨g, 0, none⟩, cap, rfl, k1, k2, fun _ => ⟨g, 0, rfl, fun j e hj => ?_⟩⟩
    obtain ⟨u, h4, h5⟩ := h3 j e hj
    obtain ⟨ad, ld, cd, rfl⟩ := Dk.own_slice h5
    have hjl := (List.getElem?_eq_some_iff.1 hj).1
    have hc : ∀ k, k < 4 → W.cell? ⟨g, 0 + j * 4 + k, none⟩ = [Value.int .i64 e.idx, .int .i64 e.term, .int .i64 e.kind, .slice ad ld cd][k]? := fun k hk => by
      rw [Nat.zero_add, h2.cellAt _ (by omega), cellsE_get es us j k _ _ hj h4 hk]
    exact ⟨ad, ld, cd, hc 0 (by decide), hc 1 (by decide), hc 2 (by decide), hc 3 (by decide), Sl.of_own h5⟩
theorem cellsE_drop (es : List Ent) (us : List Value) (h : us.length = es.length) (k : Nat) : cellsE (es.drop k) (us.drop k) = (cellsE es us).drop (k * 4) := by
  induction es generalizing us k with
  | nil => simp [cellsE]
  | cons e r ih =>
    cases us with
    | nil => simp at h
    | cons x s =>
      cases k with
      | zero => simp
      | succ k =>
        have e1 : cellsE (e :: r) (x :: s) = [Value.int .i64 e.idx, .int .i64 e.term, .int .i64 e.kind, x] ++ cellsE r s := by simp [cellsE]
        rw [List.drop_succ_cons, List.drop_succ_cons, ih s (by simpa using h), e1, show (k + 1) * 4 = 4 + k * 4 by omega, List.drop_append]
        simp
/-- The end of a row of entries; at nothing, wherever it lies. -/
theorem Er.back {b : Nat} {W : World} {g n cap : Nat} {es : List Ent} (h : Er b W (.slice (some ⟨g, 0, none⟩) n cap) es) (k : Nat) (a : Addr) (ha : k < es.length → a = ⟨g, k * 4, none⟩) : Eg b W (some a) (es.drop k) := by
  obtain ⟨us, h1, h2, h3⟩ := h
  refine ⟨us.drop k, by simp [h1], (fun e => by cases e), fun a' ha' j u hj => ?_, fun j e hj => ?_⟩
  · cases ha'
    rw [cellsE_drop es us h1, List.getElem?_drop] at hj
    by_cases hk : k < es.length
    · rw [ha hk, Addr.add_lit, ← Nat.zero_add (k * 4 + j)]
      have := h2.cells rfl (k * 4 + j) u hj
      rw [Addr.add_lit] at this
      exact this
    · have := (List.getElem?_eq_some_iff.1 hj).1
      rw [cellsE_len es us h1] at this
      omega
  · rw [List.getElem?_drop] at hj
    obtain ⟨u, h4, h5⟩ := h3 _ e hj
    exact ⟨u, by rw [List.getElem?_drop]; exact h4, h5⟩

theorem Bs0 (W : World) (x0 x1 x2 x3 x4 x5 x6 : Value) : ∀ w4, Below (W.alloc (.cells #[x0, x1, x2, x3, x4, x5, x6] 78)).heap.size (W.alloc (.cells #[x0, x1, x2, x3, x4, x5, x6] 78)) w4 → w4.cell? ⟨W.heap.size, 2, none⟩ = some x2 ∧ w4.cell? ⟨W.heap.size, 6, none⟩ = some x6 := fun w4 hb => by
  have h : w4.heap[W.heap.size]? = some (Obj.cells #[x0, x1, x2, x3, x4, x5, x6] 78 (0, 0)) := by
    rw [hb.block _ (by simp)]
    exact heap_alloc_new _ _
  exact ⟨by rw [cell_of_row w4 _ 2 _ 78 (0, 0) h]; rfl, by rw [cell_of_row w4 _ 6 _ 78 (0, 0) h]; rfl⟩
set_option maxRecDepth 4000 in
set_option maxHeartbeats 2000000 in
theorem behind_any {b : Nat} {W : World} (s : St) (x0 x1 x3 x4 x5 : Value) (v : Value) (i t : Int) (h : Er b W v s.ents) (hs : 0 ≤ s.snap.idx) (hi : i ≤ 9223372036854775807) (hl : s.ents.length ≤ 1000000000000) (hb : b ≤ W.heap.size) :
    Calls Tryz.prog 88 #[.agg #[x0, x1, .int .i64 s.snap.idx, x3, x4, x5, v], .int .i64 i, .int .i64 t] W fun x w' => ∃ v', x = .returned v' ∧ Hid (Er b w' v' (s.behind i t) ∧ Below W.heap.size W w') := by
  have hx : Hid (∀ o, Below W.heap.size W (W.alloc o)) := fun o => (Below.refl _ W).alloc (Nat.le_refl _) o
  have HE := hide h
  have HH : Hid (∀ o, Calls Tryz.prog 36 #[.agg #[x0, x1, .int .i64 s.snap.idx, x3, x4, x5, v], .int .i64 i, .int .i64 t] (W.alloc o) fun x w' => x = .returned (.bool (s.has i t)) ∧ Below (W.alloc o).heap.size (W.alloc o) w') := fun o => has_any s x0 x1 x3 x4 x5 v i t _ (h.below (hx.out o)).es hs hi
  obtain ⟨us, hown⟩ : ∃ us, W.ownsRow b 65 4 v s.ents.length (cellsE s.ents us) := by obtain ⟨us, _, h2, _⟩ := h; exact ⟨us, h2⟩
  obtain ⟨m, hm⟩ : ∃ m, s.snap.idx = m := ⟨_, rfl⟩
  cases hh : s.has i t with
  | false =>
    have HBh : Hid (s.behind i t = []) := by show _ = _; unfold St.behind; rw [hh]; rfl
    rw [hh] at HH
    have hsh : ∃ ao n c, v = .slice ao n c := Dk.own_slice hown
    obtain ⟨ao, n, c, rfl⟩ := hsh
    clear h hown hl hb hh hm
    go_enter Tryz.func88, Tryz.ntmps88
    go_wp2_with fail
    refine Calls.mono (HH.out _) ?_
    rintro x w4 ⟨rfl, hb4⟩
    have HB4 := hide ((hx.out _).trans (hb4.mono (hx.out _).size))
    clear hb4 HH
    go_wp2_with fail
    go_ret
    refine ⟨_, rfl, ?_, HB4.out⟩
    rw [HBh.out]
    exact Er.nil _ _
  | true =>
    have hlt : m < i ∧ (i - m - 1).toNat < s.ents.length := by
      unfold St.has at hh
      rw [hm] at hh
      simp only [Bool.and_eq_true, decide_eq_true_eq] at hh
      refine ⟨hh.1, ?_⟩
      cases hq : s.ents[(i - m - 1).toNat]? with
      | none => rw [hq] at hh; simp at hh
      | some e => exact (List.getElem?_eq_some_iff.1 hq).1
    obtain ⟨k, hk⟩ : ∃ k : Nat, i - m = (k : Int) := ⟨(i - m).toNat, by omega⟩
    have hkl : k ≤ s.ents.length := by omega
    have HBh : Hid (s.behind i t = s.ents.drop k) := by
      show _ = _
      unfold St.behind
      rw [hh, hm, hk]
      rfl
    rw [hh] at HH
    rcases Dk.own_shape hown with ⟨_, h0⟩ | ⟨g, cap, rfl, h1, h2, _⟩
    · omega
    · have hcm : cap ≤ 9223372036854775807 := h2
      rw [hm] at HH hs ⊢
      have hB0 := Bs0 W x0 x1 (.int .i64 m) x3 x4 x5 (.slice (some ⟨g, 0, none⟩) s.ents.length cap)
      have HB0 := hide hB0
      have HL := hide hl
      have HBb := hide hb
      clear h hown hl hh hm h2 hB0 hb
      go_enter Tryz.func88, Tryz.ntmps88
      go_wp2_with fail
      refine Calls.mono (HH.out _) ?_
      rintro x w4 ⟨rfl, hb4⟩
      have HB4 := hide ((hx.out _).trans (hb4.mono (hx.out _).size))
      have s2 : w4.cell? ⟨W.heap.size, 2, none⟩ = some (.int .i64 m) := (HB0.out w4 hb4).1
      have s6 : w4.cell? ⟨W.heap.size, 6, none⟩ = some (.slice (some ⟨g, 0, none⟩) s.ents.length cap) := (HB0.out w4 hb4).2
      have hkI : (k : Int) ≤ (s.ents.length : Int) := by omega
      have hlI : (s.ents.length : Int) ≤ (cap : Int) := by omega
      have HCl : Hid (∀ (a : Addr) (c : Nat), (k < s.ents.length → a = ⟨g, k * 4, none⟩) → Calls Tryz.prog 113 #[.slice (some a) (s.ents.length - k) c] w4 fun x w' => ∃ v', x = .returned v' ∧ Hid (Er b w' v' (s.ents.drop k) ∧ Below w4.heap.size w4 w' ∧ ∀ j, v'.ownBlock = some j → w4.heap.size ≤ j)) := fun a c ha => by
        have hlen : (s.ents.drop k).length = s.ents.length - k := List.length_drop
        have := cloneE_any c ((HE.out.below HB4.out).back k a ha) (fun e => by cases e) (by have := HL.out; omega) (Nat.le_trans HBb.out HB4.out.size)
        rw [hlen] at this
        exact this
      have HFin : Hid (∀ w6 v', Hid (Er b w6 v' (s.ents.drop k) ∧ Below w4.heap.size w4 w6 ∧ ∀ j, v'.ownBlock = some j → w4.heap.size ≤ j) → Er b w6 v' (s.behind i t) ∧ Below W.heap.size W w6) := fun w6 v' hz => ⟨by rw [HBh.out]; exact hz.out.1, HB4.out.trans (hz.out.2.1.mono HB4.out.size)⟩
      by_cases hck : cap = k
      · have hnk : ¬ k < s.ents.length := by omega
        have HC0 := hide (HCl.out ⟨g, 0, none⟩ 0 (fun h => absurd h hnk))
        rw [show s.ents.length - k = 0 by omega] at HC0
        subst hck
        clear hb4 HH HBh
        go_wp2_with fail
        refine Calls.mono HC0.out ?_
        rintro x w6 ⟨v', rfl, hz⟩
        have HZ := hide (HFin.out w6 v' hz)
        obtain ⟨us', _, o', _⟩ := id hz.out.1
        obtain ⟨ao', L', cap', rfl⟩ := Dk.own_slice o'
        clear hz o' HCl HFin
        go_wp2_with fail
        go_ret
        exact ⟨_, rfl, HZ.out⟩
      · clear hb4 HH HBh
        go_wp2_with fail
        refine Calls.mono (HCl.out _ _ (fun _ => rfl)) ?_
        rintro x w6 ⟨v', rfl, hz⟩
        have HZ := hide (HFin.out w6 v' hz)
        obtain ⟨us', _, o', _⟩ := id hz.out.1
        obtain ⟨ao', L', cap', rfl⟩ := Dk.own_slice o'
        clear hz o' HCl HFin
        go_wp2_with fail
        go_ret
        exact ⟨_, rfl, HZ.out⟩
end Go.Proofs.YtjndgekpdmlbiaaGreatDoor.Kp
namespace Go.Proofs.YtjndgekpdmlbiaaGreatDoor.Bn
open Go.RowKit

/-- A slice that was made behind w. -/
def New (w w' : World) (v : Value) : Prop := ∀ a n c, v = .slice (some a) n c → w.heap.size ≤ a.block ∧ a.block < w'.heap.size
theorem New.nil (w w' : World) : New w w' (.slice none 0 0) := fun a n c e => by simp at e
theorem New.of_own {w w1 w2 : World} {v : Value} {n : Nat} {xs : List Value} (h : w2.ownsRow w1.heap.size 5 1 v n xs) (hs : w.heap.size ≤ w1.heap.size) : New w w2 v := fun a m c e => by
  subst e
  rcases h.2 with ⟨e, _⟩ | ⟨g, cap, cur, e, hb, hg, _⟩
  · simp at e
  · simp at e
    obtain ⟨rfl, _⟩ := e
    exact ⟨Nat.le_trans hs hb, (Array.getElem?_eq_some_iff.1 hg).1⟩
theorem New.up {w w2 w3 : World} {v : Value} (h : New w w2 v) (hs : w2.heap.size ≤ w3.heap.size) : New w w3 v := fun a m c e => ⟨(h a m c e).1, Nat.lt_of_lt_of_le (h a m c e).2 hs⟩

set_option maxHeartbeats 400000 in
theorem rtext2_none (B : Nat) (st : Option (List UInt8)) (n : Int) (w : World) (h : Rd w 164 B st) (hn : rNum st = (n, none)) :
    Calls Tryz.prog 105 #[.pointer (some ⟨B, 0, none⟩)] w fun e w' => ∃ v, e = .returned v ∧ Sl w' v [] ∧ New w w' v ∧ Rd w' 164 B none ∧ w.grownBy w' (some B) := by
  have HN : Hid (rNum st = (n, none)) := hn
  clear hn
  go_enter Tryz.func105, Tryz.ntmps105
  go_wp2_with (first
    | (go_at_call 104; refine (rnum_is B st none n _ h HN.out).mono ?_; rintro e w1 ⟨rfl, hr1, hg1⟩)
    | (go_at_call 84; refine (ok_any B none _ hr1).mono ?_; rintro e w' ⟨rfl, rfl⟩))
  go_ret
  exact ⟨_, rfl, Sl.nil _, New.nil _ _, hr1, hg1⟩

set_option maxHeartbeats 400000 in
theorem rtext2_bad (B : Nat) (st : Option (List UInt8)) (bs : List UInt8) (n : Int) (w : World) (h : Rd w 164 B st) (hn : rNum st = (n, some bs)) (hb : ¬ (0 ≤ n ∧ n ≤ bs.length)) :
    Calls Tryz.prog 105 #[.pointer (some ⟨B, 0, none⟩)] w fun e w' => ∃ v, e = .returned v ∧ Sl w' v [] ∧ New w w' v ∧ Rd w' 164 B none ∧ w.grownBy w' (some B) := by
  have HN : Hid (rNum st = (n, some bs)) := hn
  clear hn
  by_cases h0 : n < 0
  · clear hb
    go_enter Tryz.func105, Tryz.ntmps105
    go_wp2_with (first
      | (go_at_call 104; refine (rnum_is B st (some bs) n _ h HN.out).mono ?_; rintro e w1 ⟨rfl, hr1, hg1⟩)
      | (go_at_call 84; refine (ok_any B (some bs) _ hr1).mono ?_; rintro e w' ⟨rfl, rfl⟩)
      | (go_at_call 108; refine (fail_any B (some bs) _ hr1).mono ?_; rintro e w2 ⟨rfl, hr2, hg2⟩))
    go_ret
    exact ⟨_, rfl, Sl.nil _, New.nil _ _, hr2, hg1.trans hg2⟩
  · have h1 : (bs.length : Int) < n := by omega
    clear hb
    go_enter Tryz.func105, Tryz.ntmps105
    go_wp2_with (first
      | (go_at_call 104; refine (rnum_is B st (some bs) n _ h HN.out).mono ?_; rintro e w1 ⟨rfl, hr1, hg1⟩)
      | (go_at_call 84; refine (ok_any B (some bs) _ hr1).mono ?_; rintro e w' ⟨rfl, rfl⟩; have H1 := hr1; obtain ⟨v, hB, hv, _, _⟩ := hr1; obtain ⟨ao, cap, rfl, _, _⟩ := hv.shape; obtain ⟨c0, _, _, _⟩ := two_cells hB; clear hB hv)
      | (go_at_call 108; refine (fail_any B (some bs) _ H1).mono ?_; rintro e w2 ⟨rfl, hr2, hg2⟩))
    go_ret
    exact ⟨_, rfl, Sl.nil _, New.nil _ _, hr2, hg1.trans hg2⟩

set_option maxHeartbeats 400000 in
theorem rtext2_ok (B : Nat) (st : Option (List UInt8)) (bs : List UInt8) (m : Nat) (w : World) (h : Rd w 164 B st) (hn : rNum st = ((m : Int), some bs)) (hb : m ≤ bs.length) :
    Calls Tryz.prog 105 #[.pointer (some ⟨B, 0, none⟩)] w fun e w' => ∃ v, e = .returned v ∧ Sl w' v (bs.take m) ∧ New w w' v ∧ Rd w' 164 B (some (bs.drop m)) ∧ w.grownBy w' (some B) := by
  have HN : Hid (rNum st = ((m : Int), some bs)) := hn
  clear hn
  have hb' : (m : Int) ≤ bs.length := by omega
  go_enter Tryz.func105, Tryz.ntmps105
  go_wp2_with fail
  refine (rnum_is B st (some bs) m _ h HN.out).mono ?_
  rintro e w1 ⟨rfl, hr1, hg1⟩
  have H1 := hr1
  obtain ⟨v, hB, hv, hp, hlim⟩ := hr1
  have hlim' : bs.length ≤ 140737488355328 := hlim
  rcases hp with rfl | ⟨g, off, n', cap, rfl⟩
  · have e0 := hv.len
    simp only [Option.getD_some] at e0
    have e1 : bs = [] := List.eq_nil_of_length_eq_zero e0.symm
    subst e1
    have e2 : m = 0 := by simpa using hb
    subst e2
    obtain ⟨c0, c1, f0, f1⟩ := two_cells hB
    have HP : Hid (_) := Rd.put hB hv (Sl.nil _) (Or.inl rfl) (by simp)
    clear hv hlim hlim' hB e0 hb hb'
    go_wp2_with (first
      | (go_at_call 84; refine (ok_any B (some []) _ H1).mono ?_; rintro e w' ⟨rfl, rfl⟩)
      | (go_at_call 58; refine (clone_nil _).mono ?_; rintro e w2 ⟨rfl, rfl⟩))
    go_ret
    exact ⟨_, rfl, Sl.nil _, New.nil _ _, HP.out.1, hg1.trans HP.out.2⟩
  · have e0 := hv.len
    simp only [Option.getD_some] at e0
    subst e0
    have hcap : bs.length ≤ cap := by obtain ⟨_, _, e, h1, _⟩ := hv; simp only [Value.slice.injEq] at e; rw [e.2.2]; exact h1
    obtain ⟨c0, c1, f0, f1⟩ := two_cells hB
    have hBl := lt_of_block hB
    have HV : Hid (Sl w1 (.slice (some ⟨g, off, none⟩) bs.length cap) bs) := hv
    have HB : Hid (_) := hB
    clear hv hlim hB
    go_wp2_with (first
      | (go_at_call 84; refine (ok_any B (some bs) _ H1).mono ?_; rintro e w' ⟨rfl, rfl⟩)
      | (go_at_call 58; refine (clone_any _ (bs.take m) _ (HV.out.take m hb) (by rw [List.length_take]; omega)).mono ?_; rintro e w2 ⟨v', rfl, hown, hb2⟩; have hnw : Hid (New w w2 v') := New.of_own hown hg1.size; have c0' := (hb2.cell (p := ⟨B, 0, none⟩) hBl).trans c0; have f0' := (hb2.frozen (p := ⟨B, 0, none⟩) hBl).trans f0; obtain ⟨ao', cap', rfl, _, _⟩ := (Sl.of_own hown).shape))
    all_goals go_ret
    all_goals
      have hB2 := (hb2.block B hBl).trans HB.out
      have hv2 := HV.out.below hb2
      have HP := Rd.put hB2 hv2 (sl_rest hv2 m hb).1 (sl_rest hv2 m hb).2 (by rw [List.length_drop]; omega)
      have hlm : (bs.take m).length = m := by rw [List.length_take]; omega
      have HS := (Sl.of_own hown).rd (st := some bs) ⟨_, hB2, hv2, Or.inr ⟨_, _, _, _, rfl⟩, hlim'⟩ HP.2
    · rw [if_pos (by assumption), show cap - m = 0 by omega] at HP HS
      rw [hlm] at HS
      have hnw2 := hnw.out.up HP.2.size
      rw [hlm] at hnw2
      exact ⟨_, rfl, HS, hnw2, HP.1, (grown_below hg1 hb2).trans HP.2⟩
    · rw [if_neg (by assumption)] at HP HS
      rw [hlm] at HS
      have hnw2 := hnw.out.up HP.2.size
      rw [hlm] at hnw2
      exact ⟨_, rfl, HS, hnw2, HP.1, (grown_below hg1 hb2).trans HP.2⟩

theorem rtext2_any (B : Nat) (st : Option (List UInt8)) (w : World) (h : Rd w 164 B st) :
    Calls Tryz.prog 105 #[.pointer (some ⟨B, 0, none⟩)] w fun e w' => ∃ v, e = .returned v ∧ Sl w' v (rText st).1 ∧ New w w' v ∧ Rd w' 164 B (rText st).2 ∧ w.grownBy w' (some B) := by
  unfold rText
  cases hn : rNum st with
  | mk n st1 =>
    cases st1 with
    | none => exact rtext2_none B st n w h hn
    | some bs =>
      simp only [rCut]
      by_cases hb : 0 ≤ n ∧ n ≤ bs.length
      · rw [if_pos hb]
        obtain ⟨m, rfl⟩ := Int.eq_ofNat_of_zero_le hb.1
        exact rtext2_ok B st bs m w h hn (by omega)
      · rw [if_neg hb]
        exact rtext2_bad B st bs n w h hn hb

end Go.Proofs.YtjndgekpdmlbiaaGreatDoor.Bn

namespace Go.Proofs.YtjndgekpdmlbiaaGreatDoor.Wl
open Go.RowKit Dk

set_option maxHeartbeats 2000000 in
set_option maxRecDepth 20000 in
theorem unseal_any (v : Value) (body : List UInt8) (w : World) (hS : Sl w v body) (hl : body.length ≤ 1000000) :
    Calls Tryz.prog 74 #[v] w fun e w' => ∃ (n : Int) (ao : Option Addr) (L cap : Nat) (ok : Bool), e = .returned (.tuple #[.int .i64 n, .slice ao L cap, .bool ok]) ∧ Hid (Below w.heap.size w w' ∧ (match unsealL body with | none => ok = false | some (m, data) => ok = true ∧ n = m ∧ Sl w' (.slice ao L cap) data ∧ Bn.New w w' (.slice ao L cap))) := by
  obtain ⟨ao0, cap0, rfl, _, _⟩ := hS.shape
  have H1 : Hid (Calls Tryz.prog 82 #[.slice ao0 body.length cap0] w fun e w1 => ∃ B, e = .returned (.pointer (some ⟨B, 0, none⟩)) ∧ Hid (
      Calls Tryz.prog 104 #[.pointer (some ⟨B, 0, none⟩)] w1 fun e w2 => e = .returned (.int .i64 (Bn.rNum (some body)).1) ∧ Hid (
      Calls Tryz.prog 105 #[.pointer (some ⟨B, 0, none⟩)] w2 fun e w3 => ∃ ao cap, e = .returned (.slice ao (Bn.rText (Bn.rNum (some body)).2).1.length cap) ∧ Hid (Sl w3 (.slice ao (Bn.rText (Bn.rNum (some body)).2).1.length cap) (Bn.rText (Bn.rNum (some body)).2).1 ∧ Bn.New w w3 (.slice ao (Bn.rText (Bn.rNum (some body)).2).1.length cap) ∧ Below w.heap.size w w3) ∧
        Hid (Calls Tryz.prog 84 #[.pointer (some ⟨B, 0, none⟩)] w3 fun e w' => e = .returned (.bool (Bn.rText (Bn.rNum (some body)).2).2.isSome) ∧ w' = w3) ∧ Hid (Calls Tryz.prog 106 #[.pointer (some ⟨B, 0, none⟩)] w3 fun e w' => e = .returned (.int .i64 ((Bn.rText (Bn.rNum (some body)).2).2.getD []).length) ∧ w' = w3)))) := by
    refine (Bn.read_any _ body w hS (by omega)).mono ?_
    rintro e w1 ⟨B, rfl, hB, hR1, hb1⟩
    refine ⟨B, rfl, (Bn.rnum_any B (some body) w1 hR1).mono ?_⟩
    rintro e w2 ⟨rfl, hR2, hg2⟩
    have hb2 : Below w.heap.size w w2 := hb1.grown hg2 hb1.size (fun k hk => by simp at hk; omega)
    refine ⟨rfl, (Bn.rtext2_any B _ w2 hR2).mono ?_⟩
    rintro e w3 ⟨v3, rfl, hS3, hN3, hR3, hg3⟩
    have hb3 : Below w.heap.size w w3 := hb2.grown hg3 hb2.size (fun k hk => by simp at hk; omega)
    obtain ⟨ao, cap, rfl, _, _⟩ := Bn.Sl.shape hS3
    exact ⟨ao, cap, rfl, ⟨hS3, fun a n c e => ⟨Nat.le_trans hb2.size (hN3 a n c e).1, (hN3 a n c e).2⟩, hb3⟩, Bn.ok_any B _ w3 hR3, Bn.left_any B _ w3 hR3⟩
  unfold unsealL
  generalize (Bn.rNum (some body)).1 = n at *
  generalize (Bn.rText (Bn.rNum (some body)).2).1 = data at *
  generalize (Bn.rText (Bn.rNum (some body)).2).2 = st at *
  clear hS
  cases st with
  | none =>
    simp only [Option.isSome_none, Option.getD_none] at H1
    go_enter Tryz.func74, Tryz.ntmps74
    go_wp2_with (first
      | (go_at_call 82; refine Calls.mono H1.out ?_; rintro e w1 ⟨B, rfl, H2⟩)
      | (go_at_call 104; refine Calls.mono H2.out ?_; rintro e w2 ⟨rfl, H3⟩)
      | (go_at_call 105; refine Calls.mono H3.out ?_; rintro e w3 ⟨ao, cap, rfl, HX, H4, H5⟩)
      | (go_at_call 84; refine Calls.mono H4.out ?_; rintro e w' ⟨rfl, hw⟩; have hw' := hw.symm; subst hw'))
    refine bodyPost_ret (v := .tuple #[.int .i64 0, .slice none 0 0, .bool false]) (by simp [results, Tryz.results74, go_sem]) rfl ⟨0, none, 0, 0, false, rfl, HX.out.2.2, ?_⟩
    rfl
  | some rest =>
    simp only [Option.isSome_some, Option.getD_some] at H1 ⊢
    by_cases hr : rest.length = 0
    · by_cases hd : data.length ≤ 32768
      · rw [if_pos ⟨hr, hd⟩]
        have hr' : ¬ (0 : Int) < (rest.length : Int) := by omega
        have hd' : ¬ (32768 : Int) < (data.length : Int) := by omega
        clear hr hd
        generalize rest.length = rl at *
        go_enter Tryz.func74, Tryz.ntmps74
        go_wp2_with (first
          | (go_at_call 82; refine Calls.mono H1.out ?_; rintro e w1 ⟨B, rfl, H2⟩)
          | (go_at_call 104; refine Calls.mono H2.out ?_; rintro e w2 ⟨rfl, H3⟩)
          | (go_at_call 105; refine Calls.mono H3.out ?_; rintro e w3 ⟨ao, cap, rfl, HX, H4, H5⟩)
          | (go_at_call 84; refine Calls.mono H4.out ?_; rintro e w' ⟨rfl, hw⟩; have hw' := hw.symm; subst hw')
          | (go_at_call 106; refine Calls.mono H5.out ?_; rintro e w' ⟨rfl, hw⟩; have hw' := hw.symm; subst hw'))
        refine bodyPost_ret (v := .tuple #[.int .i64 n, .slice ao data.length cap, .bool true]) (by simp [results, Tryz.results74, go_sem]) rfl ⟨n, ao, data.length, cap, true, rfl, HX.out.2.2, ?_⟩
        exact ⟨rfl, rfl, HX.out.1, HX.out.2.1⟩
      · rw [if_neg (fun h => hd h.2)]
        have hr' : ¬ (0 : Int) < (rest.length : Int) := by omega
        have hd' : (32768 : Int) < (data.length : Int) := by omega
        clear hr hd
        generalize rest.length = rl at *
        go_enter Tryz.func74, Tryz.ntmps74
        go_wp2_with (first
          | (go_at_call 82; refine Calls.mono H1.out ?_; rintro e w1 ⟨B, rfl, H2⟩)
          | (go_at_call 104; refine Calls.mono H2.out ?_; rintro e w2 ⟨rfl, H3⟩)
          | (go_at_call 105; refine Calls.mono H3.out ?_; rintro e w3 ⟨ao, cap, rfl, HX, H4, H5⟩)
          | (go_at_call 84; refine Calls.mono H4.out ?_; rintro e w' ⟨rfl, hw⟩; have hw' := hw.symm; subst hw')
          | (go_at_call 106; refine Calls.mono H5.out ?_; rintro e w' ⟨rfl, hw⟩; have hw' := hw.symm; subst hw'))
        refine bodyPost_ret (v := .tuple #[.int .i64 0, .slice none 0 0, .bool false]) (by simp [results, Tryz.results74, go_sem]) rfl ⟨0, none, 0, 0, false, rfl, HX.out.2.2, ?_⟩
        rfl
    · rw [if_neg (fun h => hr h.1)]
      have hr' : (0 : Int) < (rest.length : Int) := by omega
      clear hr
      generalize rest.length = rl at *
      go_enter Tryz.func74, Tryz.ntmps74
      go_wp2_with (first
        | (go_at_call 82; refine Calls.mono H1.out ?_; rintro e w1 ⟨B, rfl, H2⟩)
        | (go_at_call 104; refine Calls.mono H2.out ?_; rintro e w2 ⟨rfl, H3⟩)
        | (go_at_call 105; refine Calls.mono H3.out ?_; rintro e w3 ⟨ao, cap, rfl, HX, H4, H5⟩)
        | (go_at_call 84; refine Calls.mono H4.out ?_; rintro e w' ⟨rfl, hw⟩; have hw' := hw.symm; subst hw')
        | (go_at_call 106; refine Calls.mono H5.out ?_; rintro e w' ⟨rfl, hw⟩; have hw' := hw.symm; subst hw'))
      refine bodyPost_ret (v := .tuple #[.int .i64 0, .slice none 0 0, .bool false]) (by simp [results, Tryz.results74, go_sem]) rfl ⟨0, none, 0, 0, false, rfl, HX.out.2.2, ?_⟩
      rfl
end Go.Proofs.YtjndgekpdmlbiaaGreatDoor.Wl
namespace Go.Proofs.YtjndgekpdmlbiaaGreatDoor.Wl
open Go.RowKit Dk

def nmW : ByteArray := ⟨#[119]⟩
/-- May a number follow? -/
def mayL (first : Int) (ds : List (List UInt8)) (n : Int) : Bool := decide (1 ≤ n) && (decide (ds.length = 0) || decide (n - 1 = (if ds.length = 0 then 0 else first + ds.length - 1)))
theorem mayB_L (first : Int) (rs : List Re) (n : Int) : mayB first rs n = mayL first (rs.map Re.data) n := by simp [mayB, mayL, lastN]
/-- The records that are read off bodies, so far as they are in order. -/
def loadR : List (List UInt8) → Int → List (List UInt8) → Int × List (List UInt8)
  | [], f, ds => (f, ds)
  | body :: r, f, ds => match unsealL body with
    | none => (f, ds)
    | some (n, d) => if mayL f ds n = true then loadR r (if ds.length = 0 then n else f) (ds ++ [d]) else (f, ds)

/-- A log whose records are these, made behind wS, but for its own block. -/
def LD (wS w : World) (p pd : Nat) (first : Int) (ds : List (List UInt8)) : Prop := ∃ vr rs G, Lg w p pd first vr rs G ∧ rs.map Re.data = ds ∧ (∀ k, G k → wS.heap.size ≤ k) ∧ Fr (fun k => k = p) wS w
theorem LD.below {wS w w' : World} {p pd : Nat} {first : Int} {ds : List (List UInt8)} (h : LD wS w p pd first ds) (hb : Below w.heap.size w w') : LD wS w' p pd first ds := by
  obtain ⟨vr, rs, G, h1, h2, h3, h4⟩ := h
  exact ⟨vr, rs, G, h1.below hb, h2, h3, h4.trans (G := fun _ => False) (Fr.of_below hb) (fun _ _ => False.elim)⟩
theorem LD.fr {wS w : World} {p pd : Nat} {first : Int} {ds : List (List UInt8)} (h : LD wS w p pd first ds) : Fr (fun k => k = p) wS w := by
  obtain ⟨vr, rs, G, h1, h2, h3, h4⟩ := h
  exact h4
theorem LD.may {wS w : World} {p pd : Nat} {first : Int} {ds : List (List UInt8)} (h : LD wS w p pd first ds) (n : Int) (hn : n ≤ 9223372036854775807) :
    Calls Tryz.prog 75 #[.pointer (some ⟨p, 0, none⟩), .int .i64 n] w fun e w' => e = .returned (.bool (mayL first ds n)) ∧ ∃ m, w' = w.drewN m := by
  obtain ⟨vr, rs, G, h1, rfl, h3, h4⟩ := h
  rw [← mayB_L]
  exact may_any p pd first vr rs G n w h1 hn
theorem LD.add {wS w wr : World} {p pd : Nat} {first : Int} {ds : List (List UInt8)} (h : LD wS w p pd first ds) (hp : p < wS.heap.size) (hwr : LD wS wr p pd first ds) (hb : Below wr.heap.size wr w) (n : Int) (dv : Value) (data : List UInt8) (size : Nat) (hd : Sl w dv data) (hN : Bn.New wr w dv) (hm : mayL first ds n = true) (hn : n ≤ 9223372036854775807)
    (hsz : size = (recB n data).length) (hl : ds.length ≤ 100000) (hlen : (fileB first ds).length + size ≤ 1000000000) :
    Calls Tryz.prog 76 #[.pointer (some ⟨p, 0, none⟩), .int .i64 n, dv, .int .i64 (size : Int)] w fun e w' => e = .returned (.tuple #[]) ∧ Hid (LD wS w' p pd (if ds.length = 0 then n else first) (ds ++ [data])) := by
  obtain ⟨vr, rs, G, h1, rfl, h3, h4⟩ := hwr
  have h1' := h1.below hb
  have hs4 := h4.size
  have hsb := hb.size
  obtain ⟨m1, m2⟩ : 1 ≤ n ∧ (rs.length = 0 ∨ n - 1 = (if rs.length = 0 then 0 else first + rs.length - 1)) := by simpa [mayL] using hm
  have hsize : sizeK first rs rs.length = (fileB first (rs.map Re.data)).length := by
    unfold sizeK
    rw [List.take_of_length_le (by simp)]
  rw [List.length_map] at hl
  refine (add_any p pd first vr rs G (fun k => ∃ a m c, dv = .slice (some a) m c ∧ k = a.block) n dv data size w h1' ⟨hd, fun a m c e hn => hn ⟨a, m, c, e, rfl⟩⟩ ?_ hsz ⟨m1, hn⟩ ?_ (by omega) (by rw [hsize]; exact hlen)).mono ?_
  · rintro k ⟨a, m, c, e, rfl⟩
    have hk := hN a m c e
    refine ⟨fun hG => ?_, ?_, hk.2⟩
    · have := h1.lt _ hG
      omega
    · omega
  · intro hne
    have hz : rs.length ≠ 0 := fun e => hne (List.eq_nil_of_length_eq_zero e)
    rcases m2 with m2 | m2
    · exact absurd m2 hz
    · rw [if_neg hz] at m2
      omega
  · rintro e w' ⟨rfl, ⟨vr', fin, hL⟩, hf⟩
    refine ⟨rfl, vr', rs ++ [⟨dv, data, fin⟩], ext (fun k => G k ∨ ∃ a m c, dv = .slice (some a) m c ∧ k = a.block) w w', ?_, by simp, fun k hk => ?_, ?_⟩
    · rw [List.length_map]
      exact hL
    · rcases hk with (hk | ⟨a, m, c, e, rfl⟩) | hk
      · exact h3 k hk
      · have := (hN a m c e).1
        omega
      · omega
    · exact (h4.trans (G := fun _ => False) (Fr.of_below hb) (fun _ _ => False.elim)).trans hf (fun k hk hG => by
        rcases hG with hG | hG
        · have := h3 k hG
          omega
        · exact hG)
theorem LD.size {wS w : World} {p pd : Nat} {first : Int} {ds : List (List UInt8)} (h : LD wS w p pd first ds) (hl : ds.length ≤ 100000) :
    ∃ ao cap, w.cell? ⟨p, 2, none⟩ = some (.slice ao ds.length cap) ∧ w.cell? ⟨p, 0, none⟩ = some (.pointer (some ⟨pd, 0, none⟩)) ∧ Hid (Calls Tryz.prog 77 #[.pointer (some ⟨p, 0, none⟩), .int .i64 (ds.length : Int)] w fun e w' => e = .returned (.int .i64 (fileB first ds).length) ∧ w' = w) := by
  obtain ⟨vr, rs, G, h1, rfl, h3, h4⟩ := h
  obtain ⟨ao, cap, rfl, _⟩ := h1.shape
  rw [List.length_map] at hl ⊢
  refine ⟨ao, cap, h1.cells.2.2.1, h1.cells.1, ?_⟩
  have h2 := endOf_any p pd first _ rs G rs.length w h1 (Nat.le_refl _) (by omega)
  unfold sizeK at h2
  rw [List.take_of_length_le (by simp)] at h2
  exact h2
end Go.Proofs.YtjndgekpdmlbiaaGreatDoor.Wl

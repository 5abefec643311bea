/- copyOf, copyEntries. slices.Clone of entries; ahead. append of entries leaves the elder row as it was; after, of a call without a snapshot. after, of a call without a snapshot: its walk. behind. -/
import Derived.Test.YtjndgekpdmlbiaaGreatDoorPart13
import Derived.Test.YtjndgekpdmlbiaaGreatDoorPart05
import Derived.Laws.OwnMore
import Derived.Deep.Slices
import Derived.Test.YtjndgekpdmlbiaaGreatDoorPart12
import Derived.Laws.Append
import Derived.Laws.Tables
import Derived.Laws.ResultCell
namespace Go.Proofs.YtjndgekpdmlbiaaGreatDoor.Kp
open Go.RowKit Bn

theorem sl_dk {w : World} {v : Value} {bs : List UInt8} (h : Sl w v bs) : Dk.Sl w v bs := h
theorem Tryz.inf5 : (Tryz.prog.info? 5).map (fun i => (i.zero, i.size, i.bytes)) = some (some (.int .u8 0), 1, 1) := by kernel_rfl

theorem copyB_any (v : Value) (bs : List UInt8) (w : World) (h : Sl w v bs) (hl : bs.length ≤ 140737488355328) :
    Calls Tryz.prog 67 #[v] w fun e w' => ∃ v', e = .returned v' ∧ w'.ownsRow w.heap.size 5 1 v' bs.length (cells8 bs) ∧ Below w.heap.size w w' := by
  obtain ⟨i, hi, hz, hsize, hby⟩ := info_parts Tryz.inf5
  have HD := hide (sl_dk h)
  have HL := hide hl
  obtain ⟨ao, cap, rfl, _⟩ := h.shape
  have HN := hide (World.ownsRow_nil w w.heap.size 5 1)
  clear h hl
  go_enter Tryz.func67, Tryz.ntmps67
  go_wp2_with (at_builtin; refine Dk.wpList_append_sl _ rfl _ _ 33 rfl w.heap.size i Tryz.underlying33 hi hz hsize hby _ _ [] bs rfl HN.out rfl HD.out (by have := HL.out; simpa using this) (Nat.le_refl _) ?_)
  intro v' w' ho hg _
  have hb : Below w.heap.size w w' := ⟨hg.os, hg.tape, hg.output, hg.size, fun k hk => hg.block k hk (by simp [Value.ownBlock])⟩
  obtain ⟨ao', L', cap', rfl⟩ := Dk.own_slice ho
  have HO := hide ho
  have HB := hide hb
  clear ho hg hb
  go_wp2_with fail
  go_ret
  exact ⟨_, rfl, HO.out, HB.out⟩

theorem cellsE_inv : ∀ (es : List Ent) (us : List Value) (m : Nat) (u : Value), (cellsE es us)[m]? = some u → ∃ j k e x, m = j * 4 + k ∧ k < 4 ∧ es[j]? = some e ∧ us[j]? = some x ∧ [Value.int .i64 e.idx, .int .i64 e.term, .int .i64 e.kind, x][k]? = some u
  | [], us, m, u, h => by simp [cellsE] at h
  | e :: r, [], m, u, h => by simp [cellsE] at h
  | e :: r, x :: s, m, u, h => by
    have e0 : cellsE (e :: r) (x :: s) = [Value.int .i64 e.idx, .int .i64 e.term, .int .i64 e.kind, x] ++ cellsE r s := by simp [cellsE]
    rw [e0] at h
    by_cases hm : m < 4
    · rw [List.getElem?_append_left (by simpa using hm)] at h
      exact ⟨0, m, e, x, by omega, hm, rfl, rfl, h⟩
    · rw [List.getElem?_append_right (by simp; omega)] at h
      obtain ⟨j, k, e', x', h1, h2, h3, h4, h5⟩ := cellsE_inv r s _ u h
      simp only [List.length_cons, List.length_nil] at h1
      exact ⟨j + 1, k, e', x', by omega, h2, h3, h4, h5⟩
theorem cellsE_get : ∀ (es : List Ent) (us : List Value) (j k : Nat) (e : Ent) (x : Value), es[j]? = some e → us[j]? = some x → k < 4 → (cellsE es us)[j * 4 + k]? = [Value.int .i64 e.idx, .int .i64 e.term, .int .i64 e.kind, x][k]?
  | [], us, j, k, e, x, h, _, _ => by simp at h
  | e0 :: r, [], j, k, e, x, _, h, _ => by simp at h
  | e0 :: r, x0 :: s, j, k, e, x, h1, h2, hk => by
    have e1 : cellsE (e0 :: r) (x0 :: s) = [Value.int .i64 e0.idx, .int .i64 e0.term, .int .i64 e0.kind, x0] ++ cellsE r s := by simp [cellsE]
    rw [e1]
    cases j with
    | zero =>
      simp at h1 h2
      subst h1 h2
      rw [Nat.zero_mul, Nat.zero_add, List.getElem?_append_left (by simpa using hk)]
    | succ j =>
      rw [List.getElem?_append_right (by simp; omega)]
      have := cellsE_get r s j k e x (by simpa using h1) (by simpa using h2) hk
      rw [← this]
      congr 1
      simp only [List.length_cons, List.length_nil]
      omega
theorem cellsE_len (es : List Ent) (us : List Value) (h : us.length = es.length) : (cellsE es us).length = es.length * 4 := by
  induction es generalizing us with
  | nil => simp [cellsE]
  | cons e r ih =>
    cases us with
    | nil => simp at h
    | cons x s =>
      have e1 : cellsE (e :: r) (x :: s) = [Value.int .i64 e.idx, .int .i64 e.term, .int .i64 e.kind, x] ++ cellsE r s := by simp [cellsE]
      rw [e1, List.length_append, ih s (by simpa using h)]
      simp
      omega
theorem cellsE_set (es : List Ent) (us : List Value) (h : us.length = es.length) (j : Nat) (hj : j < es.length) (x : Value) : (cellsE es us).set (j * 4 + 3) x = cellsE es (us.set j x) := by
  apply List.ext_getElem?
  intro m
  by_cases hm : m < es.length * 4
  · obtain ⟨q, k, hq, hk⟩ : ∃ q k, m = q * 4 + k ∧ k < 4 := ⟨m / 4, m % 4, by omega, by omega⟩
    have hql : q < es.length := by omega
    have he : es[q]? = some es[q] := List.getElem?_eq_getElem hql
    have hu : us[q]? = some (us[q]'(by omega)) := List.getElem?_eq_getElem (by omega)
    rw [List.getElem?_set]
    by_cases hqj : q = j
    · subst hqj
      have hu2 : (us.set q x)[q]? = some x := List.getElem?_set_self (by omega)
      subst hq
      rw [cellsE_get es (us.set q x) q k _ _ he hu2 hk]
      by_cases h3 : k = 3
      · subst h3
        rw [if_pos rfl, if_pos (by rw [cellsE_len es us h]; omega)]
        rfl
      · rw [if_neg (by omega), cellsE_get es us q k _ _ he hu hk]
        rcases (show k = 0 ∨ k = 1 ∨ k = 2 by omega) with rfl | rfl | rfl <;> rfl
    · have hu2 : (us.set j x)[q]? = some (us[q]'(by omega)) := by rw [List.getElem?_set_ne (fun e => hqj e.symm)]; exact hu
      subst hq
      rw [if_neg (by omega), cellsE_get es us q k _ _ he hu hk, cellsE_get es (us.set j x) q k _ _ he hu2 hk]
  · rw [List.getElem?_eq_none (by rw [List.length_set, cellsE_len es us h]; omega), List.getElem?_eq_none (by rw [cellsE_len es _ (by simpa using h)]; omega)]
/-- A cell of a row of one's own is written. -/
theorem own_set {W : World} {b e s n g cap m : Nat} {xs : List Value} (h : W.ownsRow b e s (.slice (some ⟨g, 0, none⟩) n cap) n xs) (hm : m < n * s) (x : Value) : (W.setCell ⟨g, m, none⟩ x).ownsRow b e s (.slice (some ⟨g, 0, none⟩) n cap) n (xs.set m x) := by
  refine ⟨by rw [List.length_set]; exact h.1, ?_⟩
  rcases h.2 with ⟨e1, _⟩ | ⟨g', cap', cur, e1, hb, hg, h1, h2, h3, h4⟩
  · simp at e1
  · simp only [Value.slice.injEq, Option.some.injEq, Addr.mk.injEq, and_true, true_and] at e1
    obtain ⟨rfl, rfl⟩ := e1
    refine .inr ⟨g, cap, cur.setIfInBounds m x, rfl, hb, heap_setCell_same W g m cur e x hg, h1, h2, by simpa using h3, ?_⟩
    rw [← h4]
    apply List.ext_getElem?
    intro k
    simp only [List.getElem?_take, List.getElem?_set, Array.toList_setIfInBounds, List.length_take]
    by_cases hk : k < n * s
    · simp only [hk, if_true]
      by_cases hkm : m = k
      · subst hkm
        have : n * s ≤ cur.toList.length := by
          have : n * s ≤ cap * s := Nat.mul_le_mul_right s h1
          simp; omega
        simp only [if_true]
        rw [if_pos (by omega), if_pos (by omega)]
      · simp [hkm]
    · have hkm : ¬ m = k := by omega
      simp [hk, hkm]

theorem wpList_append_go {P : Program} (w : World) {ops : Array Oper} {rest : List Oper} {o : Oper} {a : Act} {Q : Exit → Act → World → Prop} (hgd : o.guard = none) (d x : Operand) (dT sT : TypeId) (hop : o.op = Op.call { callee := Callee.builtin Builtin.append, args := #[d, x], argTypes := #[dT, sT] })
    (v u : Value) (hd : a.eval d = v) (hx : a.eval x = u) {v' : Value} {w' : World} (hr : (Builtin.append_ #[dT, sT] o.type #[v, u]).run P w = .ok v' w') (hK : wpList P ops Q rest (a.put o.dst v') w') : wpList P ops Q (o :: rest) a w := by
  refine wpList_plain hgd fun K' hK' => ?_
  unfold Oper.wp
  simp [execOp, hop, resolve, invoke, builtin, hd, hx, hr, Result.andThen]
  exact hK' _ _ hK
/-- A new row of entries whose data are still the others'. -/
def Ec (b : Nat) (w W : World) (i : Nat) (v : Value) (es : List Ent) : Prop :=
  ∃ us : List Value, us.length = es.length ∧ W.ownsRow b 65 4 v es.length (cellsE es us) ∧
    (∀ (j : Nat) (e : Ent), j < i → es[j]? = some e → ∃ u, us[j]? = some u ∧ W.ownsRow b 5 1 u e.data.length (cells8 e.data)) ∧
    (∀ (j : Nat) (e : Ent), i ≤ j → es[j]? = some e → ∃ ad ld cd, us[j]? = some (.slice ad ld cd) ∧ Sl w (.slice ad ld cd) e.data)
theorem Ec.er {b : Nat} {w W : World} {v : Value} {es : List Ent} (h : Ec b w W es.length v es) : Er b W v es := by
  obtain ⟨us, h1, h2, h3, _⟩ := h
  exact ⟨us, h1, h2, fun j e hj => h3 j e (List.getElem?_eq_some_iff.1 hj).1 hj⟩

theorem copyE_any (v : Value) (es : List Ent) (w : World) (h : Es w v es) (hl : es.length ≤ 1000000000000) :
    Calls Tryz.prog 66 #[v] w fun x w' => ∃ v', x = .returned v' ∧ Hid (Ec w.heap.size w w' 0 v' es ∧ Below w.heap.size w w') := by
  obtain ⟨i, hi, hz, hsize, hby⟩ := info_parts Tryz.info65
  obtain ⟨ao, cap, rfl, h1, h2, h3⟩ := h
  have hn := World.ownsRow_nil w w.heap.size 65 4
  have key : ∃ v' w', (∀ ty, (Builtin.append_ #[36, 36] ty #[.slice none 0 0, .slice ao es.length cap]).run Tryz.prog w = .ok v' w') ∧ Ec w.heap.size w w' 0 v' es ∧ Below w.heap.size w w' := by
    cases ao with
    | none =>
      have h0 : es = [] := by
        cases es with
        | nil => rfl
        | cons e r => obtain ⟨g, off, hg, _⟩ := h3 (by simp); cases hg
      subst h0
      refine ⟨.slice none 0 0, w, fun ty => ?_, ⟨[], rfl, hn, by simp, by simp⟩, Below.refl _ _⟩
      simp [Builtin.append_, run_underlying Tryz.underlying36, sizeOf, typeInfo, hi, Builtin.lenOf, Builtin.firstCells]
    | some a =>
      have hcs : ∃ us : List Value, us.length = es.length ∧ (∀ j u, (cellsE es us)[j]? = some u → w.cell? (a.add j) = some u) ∧ ∀ (j : Nat) (e : Ent), es[j]? = some e → ∃ ad ld cd, us[j]? = some (.slice ad ld cd) ∧ Sl w (.slice ad ld cd) e.data := by
        by_cases hp : 0 < es.length
        · obtain ⟨g, off, hg, hc⟩ := h3 hp
          cases hg
          have each : ∀ j, j < es.length → ∃ u : Value, ∀ e, es[j]? = some e → ∃ ad ld cd, u = .slice ad ld cd ∧ w.cell? ⟨g, off + j * 4, none⟩ = some (.int .i64 e.idx) ∧ w.cell? ⟨g, off + j * 4 + 1, none⟩ = some (.int .i64 e.term) ∧ w.cell? ⟨g, off + j * 4 + 2, none⟩ = some (.int .i64 e.kind) ∧ w.cell? ⟨g, off + j * 4 + 3, none⟩ = some (.slice ad ld cd) ∧ Sl w (.slice ad ld cd) e.data := by
            intro j hj
            obtain ⟨ad, ld, cd, k0, k1, k2, k3, k4⟩ := hc j es[j] (List.getElem?_eq_getElem hj)
            refine ⟨.slice ad ld cd, fun e he => ?_⟩
            rw [List.getElem?_eq_getElem hj] at he
            cases he
            exact ⟨ad, ld, cd, rfl, k0, k1, k2, k3, k4⟩
          obtain ⟨f, hf⟩ := Go.Deep.choose_lt each
          have hget : ∀ j, j < es.length → ((List.range es.length).map f)[j]? = some (f j) := fun j hj => by simp [hj]
          refine ⟨(List.range es.length).map f, by simp, fun m u hm => ?_, fun j e he => ?_⟩
          · obtain ⟨j, k, e, x, rfl, hk, he, hx, hu⟩ := cellsE_inv _ _ _ _ hm
            have hj := (List.getElem?_eq_some_iff.1 he).1
            obtain ⟨ad, ld, cd, e1, k0, k1, k2, k3, k4⟩ := hf j hj e he
            rw [hget j hj] at hx
            cases hx
            rw [Addr.add_lit]
            rcases (show k = 0 ∨ k = 1 ∨ k = 2 ∨ k = 3 by omega) with rfl | rfl | rfl | rfl
            · simp at hu; subst hu; rw [Nat.add_zero]; exact k0
            · simp at hu; subst hu; rw [← Nat.add_assoc]; exact k1
            · simp at hu; subst hu; rw [← Nat.add_assoc]; exact k2
            · simp at hu; subst hu; rw [← Nat.add_assoc, k3, e1]
          · have hj := (List.getElem?_eq_some_iff.1 he).1
            obtain ⟨ad, ld, cd, e1, k0, k1, k2, k3, k4⟩ := hf j hj e he
            exact ⟨ad, ld, cd, by rw [hget j hj, e1], k4⟩
        · have h0 : es = [] := List.eq_nil_of_length_eq_zero (by omega)
          subst h0
          exact ⟨[], rfl, by simp [cellsE], by simp⟩
      obtain ⟨us, hul, hcell, hsl⟩ := hcs
      have H := fun ty => run_append_own_at (P := Tryz.prog) w w.heap.size 36 ty 65 i _ 4 48 Tryz.underlying36 hi hz hsize hby rfl (by decide) (.slice none 0 0) 0 [] hn a es.length cap (cellsE es us) (by rw [cellsE_len es us hul]) hcell (by
        intro u hu
        obtain ⟨m, hm⟩ := List.getElem?_of_mem hu
        obtain ⟨j, k, e, x, rfl, hk, he, hx, hu2⟩ := cellsE_inv _ _ _ _ hm
        obtain ⟨ad, ld, cd, e1, _⟩ := hsl j e he
        rw [e1] at hx
        cases hx
        rcases (show k = 0 ∨ k = 1 ∨ k = 2 ∨ k = 3 by omega) with rfl | rfl | rfl | rfl <;> (simp at hu2; subst hu2; rfl)) (by simp only [maxLen]; omega) (by omega) (Nat.le_refl _)
      obtain ⟨v', w', hr, g1, g2, _, _⟩ := H 0
      refine ⟨v', w', fun ty => hr, ⟨us, hul, by simpa using g1, by simp, fun j e _ he => hsl j e he⟩, ⟨g2.os, g2.tape, g2.output, g2.size, fun k hk => g2.block k hk (by simp [Value.ownBlock])⟩⟩
  obtain ⟨v', w', hap, hE⟩ := key
  obtain ⟨us, _, ho, _⟩ := hE.1
  obtain ⟨ao', L', cap', rfl⟩ := Dk.own_slice ho
  have HE := hide hE
  clear hE ho h1 h2 h3 hn
  go_enter Tryz.func66, Tryz.ntmps66
  go_wp2_with (at_builtin; refine wpList_append_go _ rfl _ _ 36 36 rfl _ _ rfl rfl (hap _) ?_)
  go_ret
  exact ⟨_, rfl, HE.out⟩

theorem own_bel {W W' : World} {b e s n : Nat} {v : Value} {xs : List Value} (h : W.ownsRow b e s v n xs) (hb : Below W.heap.size W W') : W'.ownsRow b e s v n xs := by
  refine ⟨h.1, ?_⟩
  rcases h.2 with h2 | ⟨g, cap, cur, e1, e2, e3, e4⟩
  · exact Or.inl h2
  · refine Or.inr ⟨g, cap, cur, e1, e2, ?_, e4⟩
    rw [hb.block g (lt_of_block e3)]
    exact e3
theorem own_apart {W : World} {b b' e e' s s' n n' : Nat} {v v' : Value} {xs xs' : List Value} (h : W.ownsRow b e s v n xs) (h' : W.ownsRow b' e' s' v' n' xs') (he : e ≠ e') {k : Nat} (hk : v.ownBlock = some k) : v'.ownBlock ≠ some k := by
  intro hk'
  rcases h.2 with ⟨rfl, _⟩ | ⟨g, cap, cur, rfl, _, hg, _⟩
  · simp [Value.ownBlock] at hk
  · rcases h'.2 with ⟨rfl, _⟩ | ⟨g', cap', cur', rfl, _, hg', _⟩
    · simp [Value.ownBlock] at hk'
    · simp [Value.ownBlock] at hk hk'
      subst hk hk'
      rw [hg] at hg'
      injection hg' with hg'
      injection hg' with _ h3 _
      exact he h3
theorem Ec.shape {b : Nat} {w W : World} {i : Nat} {v : Value} {es : List Ent} (h : Ec b w W i v es) (hi : i < es.length) : ∃ g cap, v = .slice (some ⟨g, 0, none⟩) es.length cap := by
  obtain ⟨us, _, h2, _⟩ := h
  rcases Dk.own_shape h2 with ⟨_, h0⟩ | ⟨g, cap, e, _⟩
  · omega
  · exact ⟨g, cap, e⟩
theorem Ec.at {b g cap : Nat} {w W : World} {i : Nat} {es : List Ent} (h : Ec b w W i (.slice (some ⟨g, 0, none⟩) es.length cap) es) (hi : i < es.length) :
    ∃ ad ld cd, W.cell? ⟨g, i * 4, none⟩ = some (.int .i64 es[i].idx) ∧ W.cell? ⟨g, i * 4 + 1, none⟩ = some (.int .i64 es[i].term) ∧ W.cell? ⟨g, i * 4 + 2, none⟩ = some (.int .i64 es[i].kind) ∧ W.cell? ⟨g, i * 4 + 3, none⟩ = some (.slice ad ld cd) ∧ Sl w (.slice ad ld cd) es[i].data ∧
      ∀ W', Below W.heap.size W W' → ∀ u, W'.ownsRow W.heap.size 5 1 u es[i].data.length (cells8 es[i].data) → W'.cell? ⟨g, i * 4 + 3, none⟩ = some (.slice ad ld cd) ∧ W'.frozen? ⟨g, i * 4 + 3, none⟩ = false ∧ (b ≤ W.heap.size → Ec b w (W'.setCell ⟨g, i * 4 + 3, none⟩ u) (i + 1) (.slice (some ⟨g, 0, none⟩) es.length cap) es) := by
  obtain ⟨us, h1, h2, h3, h4⟩ := h
  have he : es[i]? = some es[i] := List.getElem?_eq_getElem hi
  obtain ⟨ad, ld, cd, hu, hsl⟩ := h4 i es[i] (Nat.le_refl _) he
  have hc : ∀ k, k < 4 → W.cell? ⟨g, i * 4 + k, none⟩ = [Value.int .i64 es[i].idx, .int .i64 es[i].term, .int .i64 es[i].kind, .slice ad ld cd][k]? := fun k hk => by
    rw [h2.cellAt _ (by omega), cellsE_get es us i k _ _ he hu hk]
  refine ⟨ad, ld, cd, hc 0 (by decide), hc 1 (by decide), hc 2 (by decide), hc 3 (by decide), hsl, fun W' hb u hou => ?_⟩
  have h2' := own_bel h2 hb
  have hrow : ∃ cur, W'.heap[g]? = some (Obj.cells cur 65 (0, 0)) := by
    rcases h2'.2 with ⟨e1, _⟩ | ⟨g', cap', cur, e1, _, hg, _⟩
    · simp at e1
    · simp only [Value.slice.injEq, Option.some.injEq, Addr.mk.injEq, and_true, true_and] at e1
      obtain ⟨rfl, rfl⟩ := e1
      exact ⟨cur, hg⟩
  obtain ⟨cur, hg⟩ := hrow
  have hlt : g < W.heap.size := cell_lt (hc 0 (by decide))
  refine ⟨?_, frozen_of_row W' g _ cur 65 hg, fun hbb => ⟨us.set i u, by simpa using h1, ?_, fun j e hj hej => ?_, fun j e hj hej => ?_⟩⟩
  · exact (hb.cell (p := ⟨g, i * 4 + 3, none⟩) hlt).trans (hc 3 (by decide))
  · rw [← cellsE_set es us h1 i hi u]
    exact own_set h2' (by omega) u
  · by_cases hji : j = i
    · subst hji
      rw [he] at hej
      cases hej
      refine ⟨u, List.getElem?_set_self (by omega), ?_⟩
      refine ownsRow_setCell_other (a := ⟨g, _ * 4 + 3, none⟩) (own_low hou hbb) (fun e => ?_) u
      have := own_ge hou _ e
      simp at this
      omega
    · obtain ⟨x, hx, hox⟩ := h3 j e (by omega) hej
      refine ⟨x, by rw [List.getElem?_set_ne (fun e => hji e.symm)]; exact hx, ?_⟩
      exact ownsRow_setCell_other (a := ⟨g, i * 4 + 3, none⟩) (own_bel hox hb) (fun e => own_apart h2' (own_bel hox hb) (by decide) rfl e) u
  · obtain ⟨ad', ld', cd', hx, hs⟩ := h4 j e (by omega) hej
    exact ⟨ad', ld', cd', by rw [List.getElem?_set_ne (by omega)]; exact hx, hs⟩

set_option maxRecDepth 8000 in
set_option maxHeartbeats 4000000 in
theorem copyEntries_any (v : Value) (es : List Ent) (w : World) (h : Es w v es) (hl : es.length ≤ 1000000000000) (hd : ∀ e ∈ es, e.data.length ≤ 140737488355328) :
    Calls Tryz.prog 44 #[v] w fun x w' => ∃ v', x = .returned v' ∧ Hid (Er w.heap.size w' v' es ∧ Below w.heap.size w w') := by
  have HC := hide (copyE_any v es w h hl)
  have HDL := hide hd
  have hv : ∃ ao cap, v = .slice ao es.length cap := by obtain ⟨ao, cap, e, _⟩ := h; exact ⟨ao, cap, e⟩
  obtain ⟨ao, cap, rfl⟩ := hv
  clear h hd
  go_enter Tryz.func44, Tryz.ntmps44
  go_wp2_with fail
  refine Calls.mono HC.out ?_
  rintro x w1 ⟨v', rfl, hz⟩
  have hsh : ∃ ao' cap', v' = .slice ao' es.length cap' := by
    obtain ⟨us, _, h2, _⟩ := hz.out.1
    rcases Dk.own_shape h2 with ⟨e, h0⟩ | ⟨g, c, e, _⟩
    · rw [e, h0]; exact ⟨_, _, rfl⟩
    · rw [e]; exact ⟨_, _, rfl⟩
  obtain ⟨ao', cap', rfl⟩ := hsh
  have HE1 := hide hz.out.1
  have HB1 := hide hz.out.2
  clear hz HC
  go_wp2_with fail
  go_loopw [4, 5, 10] (fun _ _ iv wr => ∃ i : Nat, iv = .int .i64 i ∧ i ≤ es.length ∧ Hid (Ec w.heap.size w wr i (.slice ao' es.length cap') es) ∧ Hid (Below w.heap.size w wr)) (fun _ _ iv _ => es.length - (intOf iv).toNat)
  case atStart => exact ⟨0, rfl, Nat.zero_le _, HE1, HB1⟩
  case round =>
    obtain ⟨i, rfl, hi, HE, HB⟩ := hrel
    by_cases hlt : i < es.length
    · have hltI : (i : Int) < (es.length : Int) := by omega
      obtain ⟨g, cap2, hvv⟩ := HE.out.shape hlt
      simp only [Value.slice.injEq, true_and] at hvv
      obtain ⟨rfl, rfl⟩ := hvv
      obtain ⟨ad, ld, cd, k0, k1, k2, k3, hsl, hst⟩ := HE.out.at hlt
      have HST := hide hst
      have hdl := HDL.out es[i] (List.getElem_mem hlt)
      have hxb : Hid (∀ o, Below wr.heap.size wr (wr.alloc o)) := fun o => (Below.refl _ wr).alloc (Nat.le_refl _) o
      have HCB : Hid (∀ o, Calls Tryz.prog 67 #[.slice ad ld cd] (wr.alloc o) fun e w' => ∃ v', e = .returned v' ∧ w'.ownsRow (wr.alloc o).heap.size 5 1 v' es[i].data.length (cells8 es[i].data) ∧ Below (wr.alloc o).heap.size (wr.alloc o) w') := fun o =>
        copyB_any _ _ _ ((hsl.below HB.out).below (hxb.out o)) hdl
      have HSZ := hide HB.out.size
      generalize es[i] = e at *
      clear hst hsl hdl
      go_wp2_with fail
      refine Calls.mono (HCB.out _) ?_
      rintro x w5 ⟨u, rfl, hou, hb5⟩
      have hb5' := (hxb.out _).trans (hb5.mono (hxb.out _).size)
      have h6 := HST.out w5 hb5' u (own_low hou (hxb.out _).size)
      obtain ⟨c3, f3, hE6⟩ := h6
      obtain ⟨adu, ldu, cdu, rfl⟩ := Dk.own_slice hou
      have HE6 := hide (hE6 HSZ.out)
      have HB6 := hide ((HB.out.trans (hb5'.mono HB.out.size)).setCell (p := ⟨g, i * 4 + 3, none⟩) (by have := own_ge HE6.out.choose_spec.2.1 g rfl; exact this) (.slice adu ldu cdu))
      clear hou hb5 hb5' hE6 HCB HST
      go_wp2_with fail
      go_roundw
      case rel => exact ⟨i + 1, by go_num, by omega, HE6, HB6⟩
      case measure => simp [intOf]; omega
    · have hltI : ¬ (i : Int) < (es.length : Int) := by omega
      have hie : i = es.length := by omega
      rw [hie] at HE
      clear hie
      go_wp2_with fail
      go_ret
      exact ⟨_, rfl, HE.out.er, HB.out⟩
end Go.Proofs.YtjndgekpdmlbiaaGreatDoor.Kp
namespace Go.Proofs.YtjndgekpdmlbiaaGreatDoor.Kp
open Go.RowKit Bn

/-- A slice of entries whose data are rows of one's own. -/
def Eg (b : Nat) (W : World) (ao : Option Addr) (es : List Ent) : Prop :=
  ∃ us : List Value, us.length = es.length ∧ (ao = none → es = []) ∧ (∀ a, ao = some a → ∀ j u, (cellsE es us)[j]? = some u → W.cell? (a.add j) = some u) ∧
    ∀ (j : Nat) (e : Ent), es[j]? = some e → ∃ u, us[j]? = some u ∧ W.ownsRow b 5 1 u e.data.length (cells8 e.data)
theorem cellsE_take (es : List Ent) (us : List Value) (h : us.length = es.length) (k : Nat) : cellsE (es.take k) (us.take k) = (cellsE es us).take (k * 4) := by
  induction es generalizing us k with
  | nil => simp [cellsE]
  | cons e r ih =>
    cases us with
    | nil => simp at h
    | cons x s =>
      cases k with
      | zero => simp [cellsE]
      | succ k =>
        have e1 : ∀ r s, cellsE (e :: r) (x :: s) = [Value.int .i64 e.idx, .int .i64 e.term, .int .i64 e.kind, x] ++ cellsE r s := fun r s => by simp [cellsE]
        rw [List.take_succ_cons, List.take_succ_cons, e1, e1, ih s (by simpa using h), show (k + 1) * 4 = 4 + k * 4 by omega, List.take_append]
        simp [List.take_of_length_le]
theorem Er.front {b : Nat} {W : World} {ao : Option Addr} {n cap : Nat} {es : List Ent} (h : Er b W (.slice ao n cap) es) (k : Nat) : Eg b W ao (es.take k) := by
  obtain ⟨us, h1, h2, h3⟩ := h
  refine ⟨us.take k, by simp [h1], fun e => ?_, fun a ha j u hj => ?_, fun j e hj => ?_⟩
  · rcases h2.2 with ⟨_, h0⟩ | ⟨g, c, cur, e1, _⟩
    · rw [List.eq_nil_of_length_eq_zero h0]; simp
    · rw [e] at e1; cases e1
  · rw [cellsE_take es us h1] at hj
    have hj2 : (cellsE es us)[j]? = some u := by
      by_cases hlt : j < k * 4
      · rw [List.getElem?_take, if_pos hlt] at hj; exact hj
      · rw [List.getElem?_take, if_neg hlt] at hj; cases hj
    rcases h2.2 with ⟨e0, _⟩ | ⟨g, c, cur, e1, _⟩
    · rw [ha] at e0; cases e0
    · rw [ha] at e1
      simp only [Value.slice.injEq, Option.some.injEq] at e1
      obtain ⟨rfl, _, _⟩ := e1
      exact h2.cells (by rw [ha]; rfl) j u hj2
  · have hj2 : es[j]? = some e := by
      by_cases hlt : j < k
      · rw [List.getElem?_take, if_pos hlt] at hj; exact hj
      · rw [List.getElem?_take, if_neg hlt] at hj; cases hj
    have hlt : j < k := by
      by_cases hlt : j < k
      · exact hlt
      · rw [List.getElem?_take, if_neg hlt] at hj; cases hj
    obtain ⟨u, h4, h5⟩ := h3 j e hj2
    exact ⟨u, by rw [List.getElem?_take, if_pos hlt]; exact h4, h5⟩
theorem own_oneE {es : List Ent} {us : List Value} (hs : ∀ (j : Nat) (e : Ent), es[j]? = some e → ∃ u, us[j]? = some u ∧ u.oneCell' = true) : ∀ u ∈ cellsE es us, u.oneCell' = true := by
  intro u hu
  obtain ⟨m, hm⟩ := List.getElem?_of_mem hu
  obtain ⟨j, k, e, x, rfl, hk, he, hx, hu2⟩ := cellsE_inv _ _ _ _ hm
  obtain ⟨y, e1, h1⟩ := hs j e he
  rw [e1] at hx
  cases hx
  rcases (show k = 0 ∨ k = 1 ∨ k = 2 ∨ k = 3 by omega) with rfl | rfl | rfl | rfl
  · simp at hu2; subst hu2; rfl
  · simp at hu2; subst hu2; rfl
  · simp at hu2; subst hu2; rfl
  · simp at hu2; subst hu2; exact h1
/-- Entries at the end of a row of entries. -/
theorem append_ents {b : Nat} {W : World} {v : Value} {es : List Ent} (h : Er b W v es) {a : Addr} {ns : List Ent} {cap : Nat} (hn : Eg b W (some a) ns) (hl : es.length + ns.length ≤ 1000000000000) (hb : b ≤ W.heap.size) :
    ∃ v' w', (∀ ty, (Builtin.append_ #[36, 36] ty #[v, .slice (some a) ns.length cap]).run Tryz.prog W = .ok v' w') ∧ Er b w' v' (es ++ ns) ∧ W.grownBy w' v.ownBlock ∧ (v'.ownBlock = v.ownBlock ∨ v'.ownBlock = some W.heap.size) := by
  obtain ⟨i, hi, hz, hsize, hby⟩ := info_parts Tryz.info65
  obtain ⟨us, h1, h2, h3⟩ := h
  obtain ⟨xs, n1, _, n3, n4⟩ := hn
  have H := fun ty => run_append_own_at (P := Tryz.prog) W b 36 ty 65 i _ 4 48 Tryz.underlying36 hi hz hsize hby rfl (by decide) v es.length (cellsE es us) h2 a ns.length cap (cellsE ns xs) (cellsE_len ns xs n1) (n3 a rfl) (own_oneE fun j e he => by
    obtain ⟨u, hu, ho⟩ := n4 j e he
    obtain ⟨ad, ld, cd, rfl⟩ := Dk.own_slice ho
    exact ⟨_, hu, rfl⟩) (by simp only [maxLen]; omega) (by omega) hb
  obtain ⟨v', w', hr, g1, g2, _, g4⟩ := H 0
  refine ⟨v', w', fun ty => hr, ⟨us ++ xs, by simp [h1, n1], ?_, fun j e hj => ?_⟩, g2, g4⟩
  · have e1 : cellsE (es ++ ns) (us ++ xs) = cellsE es us ++ cellsE ns xs := by
      rw [cellsE, List.zip_append h1.symm, List.flatMap_append]; rfl
    rw [e1, List.length_append]
    exact g1
  · by_cases hlt : j < es.length
    · rw [List.getElem?_append_left hlt] at hj
      obtain ⟨u, h4, h5⟩ := h3 j e hj
      exact ⟨u, by rw [List.getElem?_append_left (by omega)]; exact h4, own_type h5 h2 g2⟩
    · rw [List.getElem?_append_right (by omega)] at hj
      obtain ⟨u, h4, h5⟩ := n4 _ e hj
      exact ⟨u, by rw [List.getElem?_append_right (by omega), h1]; exact h4, own_type h5 h2 g2⟩
theorem Eg.below {b : Nat} {W W' : World} {ao : Option Addr} {es : List Ent} (h : Eg b W ao es) (hb : Below W.heap.size W W') : Eg b W' ao es := by
  obtain ⟨us, h1, h2, h3, h4⟩ := h
  refine ⟨us, h1, h2, fun a ha j u hj => ?_, fun j e hj => ?_⟩
  · have := h3 a ha j u hj
    exact (hb.cell (p := a.add j) (World.block_lt_of_cell? W _ this)).trans this
  · obtain ⟨u, h5, h6⟩ := h4 j e hj
    exact ⟨u, h5, own_bel h6 hb⟩
theorem Er.below {b : Nat} {W W' : World} {v : Value} {es : List Ent} (h : Er b W v es) (hb : Below W.heap.size W W') : Er b W' v es := by
  obtain ⟨us, h1, h2, h3⟩ := h
  refine ⟨us, h1, own_bel h2 hb, fun j e hj => ?_⟩
  obtain ⟨u, h5, h6⟩ := h3 j e hj
  exact ⟨u, h5, own_bel h6 hb⟩
theorem Er.new (b : Nat) (W : World) (hb : b ≤ W.heap.size) : Er b (W.alloc (.cells #[] 65)) (.slice (some ⟨W.heap.size, 0, none⟩) 0 0) [] :=
  ⟨[], rfl, ⟨rfl, Or.inr ⟨W.heap.size, 0, #[], rfl, hb, heap_alloc_new _ _, Nat.le_refl _, by simp [maxLen], rfl, rfl⟩⟩, fun j e h => by simp at h⟩

theorem eqlN (w : World) : (binOp .eql 36 (.slice none 0 0) (.slice none 0 0)).run Tryz.prog w = .ok (.bool true) w := by kernel_rfl
theorem eqlS (a : Addr) (n c : Nat) (w : World) : (binOp .eql 36 (.slice (some a) n c) (.slice none 0 0)).run Tryz.prog w = .ok (.bool false) w := by kernel_rfl
set_option maxRecDepth 4000 in
theorem cloneE_any {b : Nat} {W : World} {ao : Option Addr} {es : List Ent} (cap : Nat) (h : Eg b W ao es) (hc : ao = none → cap = 0) (hl : es.length ≤ 1000000000000) (hb : b ≤ W.heap.size) :
    Calls Tryz.prog 113 #[.slice ao es.length cap] W fun x w' => ∃ v', x = .returned v' ∧ Hid (Er b w' v' es ∧ Below W.heap.size W w' ∧ ∀ k, v'.ownBlock = some k → W.heap.size ≤ k) := by
  cases ao with
  | none =>
    have h0 : es = [] := by obtain ⟨us, _, h2, _⟩ := h; exact h2 rfl
    subst h0
    have hc0 := hc rfl
    subst hc0
    clear h hc hl hb
    have hq0 := eqlN
    go_enter Tryz.func113, Tryz.ntmps113
    go_wp2_with fail
    go_ret
    exact ⟨_, rfl, Er.nil _ _, Below.refl _ _, fun k hk => by simp [Value.ownBlock] at hk⟩
  | some a =>
    have ha : Below W.heap.size W (W.alloc (.cells #[] 65)) := (Below.refl _ _).alloc (Nat.le_refl _) _
    obtain ⟨v', w', hap, hE, hg, hq⟩ := append_ents (Er.new b W hb) (cap := cap) (h.below ha) (by simpa using hl) (Nat.le_trans hb ha.size)
    have hsh : ∃ ao' cap', v' = .slice ao' es.length cap' := by
      obtain ⟨us, _, h2, _⟩ := hE
      rcases Dk.own_shape h2 with ⟨e, h0⟩ | ⟨g, c, e, _⟩
      · simp at h0; rw [e, h0]; exact ⟨_, _, rfl⟩
      · exact ⟨some ⟨g, 0, none⟩, c, by rw [e]; simp⟩
    obtain ⟨ao', cap', rfl⟩ := hsh
    have hB : Below W.heap.size W w' := ha.trans ⟨hg.os, hg.tape, hg.output, hg.size, fun k hk => hg.block k (by simp; omega) (by simp [Value.ownBlock]; omega)⟩
    have hnew : ∀ k, (Value.slice ao' es.length cap').ownBlock = some k → W.heap.size ≤ k := by
      intro k hk
      rcases hq with e | e
      · rw [e] at hk
        simp [Value.ownBlock] at hk
        omega
      · rw [e] at hk
        simp at hk
        omega
    have HF : Hid (Er b w' (.slice ao' es.length cap') es ∧ Below W.heap.size W w' ∧ ∀ k, (Value.slice ao' es.length cap').ownBlock = some k → W.heap.size ≤ k) := ⟨by simpa using hE, hB, hnew⟩
    clear h hc hE hg hB hnew ha hq hl hb
    have hq0 := eqlS
    go_enter Tryz.func113, Tryz.ntmps113
    go_wp2_with (at_builtin; refine wpList_append_go _ rfl _ _ 36 36 rfl _ _ rfl rfl (hap _) ?_)
    go_ret
    exact ⟨_, rfl, HF.out⟩

set_option maxRecDepth 4000 in
set_option maxHeartbeats 1000000 in
theorem ahead_any {b : Nat} {W : World} (x0 x1 x3 x4 x5 : Value) (idx first : Int) (v : Value) (es : List Ent) (h : Er b W v es) (k : Nat) (hk : first - 1 - idx = (k : Int)) (hkl : k ≤ es.length) (hi : 0 ≤ idx) (hf : first ≤ 9223372036854775807) (hl : es.length ≤ 1000000000000) (hb : b ≤ W.heap.size) :
    Calls Tryz.prog 90 #[.agg #[x0, x1, .int .i64 idx, x3, x4, x5, v], .int .i64 first] W fun x w' => ∃ v', x = .returned v' ∧ Hid (Er b w' v' (es.take k) ∧ Below W.heap.size W w' ∧ (v' = v ∧ k = es.length ∨ ∀ j, v'.ownBlock = some j → W.heap.size ≤ j)) := by
  have hx : Hid (∀ o, Below W.heap.size W (W.alloc o)) := fun o => (Below.refl _ W).alloc (Nat.le_refl _) o
  have HE := hide h
  have hown : ∃ us, W.ownsRow b 65 4 v es.length (cellsE es us) := by obtain ⟨us, _, h2, _⟩ := h; exact ⟨us, h2⟩
  obtain ⟨us, hown⟩ := hown
  have hk1 : -9223372036854775808 ≤ first - 1 := by omega
  rcases Dk.own_shape hown with ⟨rfl, h0⟩ | ⟨g, cap, rfl, h1, h2, _⟩
  · have hk0 : k = 0 := by omega
    subst hk0
    have hes : es = [] := List.eq_nil_of_length_eq_zero h0
    subst hes
    clear h hown hl hb HE h0
    go_enter Tryz.func90, Tryz.ntmps90
    go_wp2_with fail
    go_ret
    exact ⟨_, rfl, Er.nil _ _, hx.out _, Or.inl ⟨rfl, by first | rfl | trivial⟩⟩
  · have hcm : cap ≤ 9223372036854775807 := h2
    have hkc : k ≤ cap := by omega
    by_cases hlt : k < es.length
    · have HCl : Hid (∀ o, Calls Tryz.prog 113 #[.slice (some ⟨g, 0, none⟩) k cap] (W.alloc o) fun x w' => ∃ v', x = .returned v' ∧ Hid (Er b w' v' (es.take k) ∧ Below (W.alloc o).heap.size (W.alloc o) w' ∧ ∀ j, v'.ownBlock = some j → (W.alloc o).heap.size ≤ j)) := fun o => by
        have hlen : (es.take k).length = k := by rw [List.length_take]; omega
        have := cloneE_any cap ((HE.out.front k).below (hx.out o)) (fun e => by cases e) (by omega) (Nat.le_trans hb (hx.out o).size)
        rw [hlen] at this
        exact this
      have hltI : (k : Int) < (es.length : Int) := by omega
      clear h hown hl hb h2
      go_enter Tryz.func90, Tryz.ntmps90
      go_wp2_with fail
      refine Calls.mono (HCl.out _) ?_
      rintro x w4 ⟨v', rfl, hz⟩
      have HF : Hid (Er b w4 v' (es.take k) ∧ Below W.heap.size W w4 ∧ ∀ j, v'.ownBlock = some j → W.heap.size ≤ j) := ⟨hz.out.1, (hx.out _).trans (hz.out.2.1.mono (hx.out _).size), fun j hj => Nat.le_trans (hx.out _).size (hz.out.2.2 j hj)⟩
      have hsh : ∃ ao' L' cap', v' = .slice ao' L' cap' := by
        obtain ⟨us', _, h2', _⟩ := hz.out.1
        exact Dk.own_slice h2'
      obtain ⟨ao', L', cap', rfl⟩ := hsh
      clear hz HCl
      go_wp2_with fail
      go_ret
      exact ⟨_, rfl, HF.out.1, HF.out.2.1, Or.inr HF.out.2.2⟩
    · have hke : k = es.length := by omega
      subst hke
      clear h hown hl hb h2
      go_enter Tryz.func90, Tryz.ntmps90
      go_wp2_with fail
      go_ret
      refine ⟨_, rfl, ?_, hx.out _, Or.inl ⟨rfl, by first | rfl | trivial⟩⟩
      rw [List.take_length]
      exact HE.out.below (hx.out _)
end Go.Proofs.YtjndgekpdmlbiaaGreatDoor.Kp
namespace Go.Proofs.YtjndgekpdmlbiaaGreatDoor.Kp
open Go.RowKit Bn

theorem append_keeps {b n : Nat} {W w' : World} {v v' : Value} {xs : List Value} (h : W.ownsRow b 65 4 v n xs) {a : Addr} {m cap : Nat} {news : List Value} (hl : news.length = m * 4) (hnews : ∀ j u, news[j]? = some u → W.cell? (a.add j) = some u) (h1 : ∀ u ∈ news, u.oneCell' = true) (hs : n + m ≤ 1000000000000)
    (hr : (Builtin.append_ #[36, 36] 0 #[v, .slice (some a) m cap]).run Tryz.prog W = .ok v' w') : w'.ownsRow b 65 4 v n xs := by
  obtain ⟨i, hi, hz, hsize, hby⟩ := info_parts Tryz.info65
  refine ⟨h.1, ?_⟩
  rcases h.2 with h2 | ⟨g, c, cur, e1, e2, e3, e4, e5, e6, e7⟩
  · exact Or.inl h2
  · subst e1
    by_cases hroom : n + m ≤ c
    · have hR := run_append_room (P := Tryz.prog) W 36 0 65 i Tryz.underlying36 hi g n c cur e3 a m cap news (by rw [hsize]; exact hl) hnews h1 hroom (by rw [hsize, hl, e6, ← Nat.add_mul]; exact Nat.mul_le_mul_right 4 hroom)
      rw [hr] at hR
      injection hR with _ hw
      rw [hsize] at hw
      refine Or.inr ⟨g, c, _, rfl, e2, by rw [hw]; exact setRow_heap W g cur _ 65 (0, 0) e3, e4, e5, ?_, ?_⟩
      · have hle : (n + m) * 4 ≤ c * 4 := Nat.mul_le_mul_right 4 hroom
        simp only [List.size_toArray, List.length_append, List.length_take, List.length_drop, Array.length_toList]
        omega
      · have hlen : (cur.toList.take (n * 4)).length = n * 4 := by
          have : n * 4 ≤ c * 4 := Nat.mul_le_mul_right 4 e4
          rw [List.length_take, Array.length_toList]
          omega
        show (cur.toList.take (n * 4) ++ news ++ cur.toList.drop (n * 4 + news.length)).take (n * 4) = xs
        rw [List.append_assoc, List.take_append_of_le_length (by omega), List.take_of_length_le (by omega)]
        exact e7
    · have hR := run_append_grow (P := Tryz.prog) W 36 0 65 i _ Tryz.underlying36 hi hz ⟨g, 0, none⟩ n c xs (by rw [hsize]; exact h.1) (fun j u hj => h.cells rfl j u hj) a m cap news (by rw [hsize]; exact hl) hnews (by omega) (by omega) (by
        have : (n + m) * 48 ≤ 140737488355328 := by omega
        exact growslice_fits (by omega) (by rw [hby]; exact this))
      rw [hr] at hR
      injection hR with _ hw
      refine Or.inr ⟨g, c, cur, rfl, e2, ?_, e4, e5, e6, e7⟩
      rw [hw]
      have hlt := lt_of_block e3
      rw [Below.heap_alloc _ _ _ (show g < W.drew.heap.size from hlt)]
      exact e3
/-- .. with the elder row. -/
theorem append_both {b : Nat} {W : World} {v : Value} {es : List Ent} (h : Er b W v es) {a : Addr} {ns : List Ent} {cap : Nat} (hn : Eg b W (some a) ns) (hl : es.length + ns.length ≤ 1000000000000) (hb : b ≤ W.heap.size) :
    ∃ v' w', (∀ ty, (Builtin.append_ #[36, 36] ty #[v, .slice (some a) ns.length cap]).run Tryz.prog W = .ok v' w') ∧ Er b w' v' (es ++ ns) ∧ Er b w' v es ∧ W.grownBy w' v.ownBlock := by
  obtain ⟨v', w', hap, hE, hg, _⟩ := append_ents h (cap := cap) hn hl hb
  refine ⟨v', w', hap, hE, ?_, hg⟩
  obtain ⟨us, h1, h2, h3⟩ := h
  obtain ⟨xs, n1, _, n3, n4⟩ := hn
  refine ⟨us, h1, append_keeps h2 (cellsE_len ns xs n1) (n3 a rfl) (own_oneE fun j e he => by
    obtain ⟨u, hu, ho⟩ := n4 j e he
    obtain ⟨ad, ld, cd, rfl⟩ := Dk.own_slice ho
    exact ⟨_, hu, rfl⟩) hl (hap 0), fun j e hj => ?_⟩
  obtain ⟨u, h4, h5⟩ := h3 j e hj
  exact ⟨u, h4, own_type h5 h2 hg⟩
end Go.Proofs.YtjndgekpdmlbiaaGreatDoor.Kp
namespace Go.Proofs.YtjndgekpdmlbiaaGreatDoor.Kp
open Go.RowKit Bn

/-- The three blocks of after: the state, the call, the answer. -/
structure Ab (D : Nat) (W : World) (s7 r9 z7 : Array Value) : Prop where
  s : W.heap[D]? = some (Obj.cells s7 78 (0, 0))
  r : W.heap[D + 1]? = some (Obj.cells r9 43 (0, 0))
  z : W.heap[D + 2]? = some (Obj.cells z7 78 (0, 0))
theorem Ab.below {D : Nat} {W W' : World} {s7 r9 z7 : Array Value} (h : Ab D W s7 r9 z7) (hb : Below W.heap.size W W') : Ab D W' s7 r9 z7 :=
  ⟨(hb.block _ (lt_of_block h.s)).trans h.s, (hb.block _ (lt_of_block h.r)).trans h.r, (hb.block _ (lt_of_block h.z)).trans h.z⟩
theorem Ab.setS {D : Nat} {W : World} {s7 r9 z7 : Array Value} (h : Ab D W s7 r9 z7) (i : Nat) (x : Value) : Ab D (W.setCell ⟨D, i, none⟩ x) (s7.setIfInBounds i x) r9 z7 :=
  ⟨heap_setCell_same W D i s7 78 x h.s, by rw [Below.heap_setCell _ _ _ _ (by simp)]; exact h.r, by rw [Below.heap_setCell _ _ _ _ (by simp)]; exact h.z⟩
theorem Ab.cs {D : Nat} {W : World} {s7 r9 z7 : Array Value} (h : Ab D W s7 r9 z7) (i : Nat) : W.cell? ⟨D, i, none⟩ = s7[i]? := cell_of_row W D i s7 78 (0, 0) h.s
theorem Ab.cr {D : Nat} {W : World} {s7 r9 z7 : Array Value} (h : Ab D W s7 r9 z7) (i : Nat) : W.cell? ⟨D + 1, i, none⟩ = r9[i]? := cell_of_row W (D + 1) i r9 43 (0, 0) h.r
theorem Ab.cz {D : Nat} {W : World} {s7 r9 z7 : Array Value} (h : Ab D W s7 r9 z7) (i : Nat) : W.cell? ⟨D + 2, i, none⟩ = z7[i]? := cell_of_row W (D + 2) i z7 78 (0, 0) h.z
theorem Ab.fs {D : Nat} {W : World} {s7 r9 z7 : Array Value} (h : Ab D W s7 r9 z7) (i : Nat) : W.frozen? ⟨D, i, none⟩ = false := frozen_of_row W D i s7 78 h.s
theorem Ab.fz {D : Nat} {W : World} {s7 r9 z7 : Array Value} (h : Ab D W s7 r9 z7) (i : Nat) : W.frozen? ⟨D + 2, i, none⟩ = false := frozen_of_row W (D + 2) i z7 78 h.z
def zero7 : Array Value := #[.int .i64 0, .int .i64 0, .int .i64 0, .int .i64 0, .slice none 0 0, .slice none 0 0, .slice none 0 0]
theorem Ab.new (W : World) (s7 r9 : Array Value) : Ab W.heap.size (((W.alloc (.cells s7 78)).alloc (.cells r9 43)).alloc (.cells zero7 78)) s7 r9 zero7 := by
  have h1 : (W.alloc (.cells s7 78)).heap[W.heap.size]? = some (Obj.cells s7 78 (0, 0)) := heap_alloc_new _ _
  have h2 : ((W.alloc (.cells s7 78)).alloc (.cells r9 43)).heap[W.heap.size + 1]? = some (Obj.cells r9 43 (0, 0)) := by
    have := heap_alloc_new (W.alloc (.cells s7 78)) (.cells r9 43)
    simpa using this
  have h3 : (((W.alloc (.cells s7 78)).alloc (.cells r9 43)).alloc (.cells zero7 78)).heap[W.heap.size + 2]? = some (Obj.cells zero7 78 (0, 0)) := by
    have := heap_alloc_new ((W.alloc (.cells s7 78)).alloc (.cells r9 43)) (.cells zero7 78)
    simpa using this
  refine ⟨?_, ?_, h3⟩
  · rw [Below.heap_alloc _ _ _ (by simp; omega), Below.heap_alloc _ _ _ (by simp)]; exact h1
  · rw [Below.heap_alloc _ _ _ (by simp)]; exact h2

theorem ret_ct {fn : Func} {p u : Tmp} {ty : TypeId} (h : fn.results = #[.cell p ty, .tmp u]) (tmps : Array Value) (w : World) (g : Nat) (T : TypeId) (cs : Array Value) {d}
    (hp : tmps.getD p undef = .pointer (some ⟨g, 0, none⟩)) (hg : w.heap[g]? = some (.cells cs T (0, 0)))
    (hu : Tryz.prog.underlying ty = some (.struct d)) (hi : (Tryz.prog.info? ty).map (·.size) = some cs.size) :
    (results fn tmps).run Tryz.prog w = .ok (.tuple #[.agg cs, tmps.getD u undef]) w := by
  rw [results_cell_tmp h, hp]
  have hl := run_loadVar_row (P := Tryz.prog) w g T ty cs (0, 0) _ hg hu rfl hi
  have ha : (asAddr (.pointer (some ⟨g, 0, none⟩))).run Tryz.prog w = .ok ⟨g, 0, none⟩ w := rfl
  rw [ha]
  simp only [Result.andThen, hl]
theorem sz78 : (Tryz.prog.info? 78).map (·.size) = some 7 := by kernel_rfl
/-- Seven cells are written. -/
theorem fill7 {W : World} {D : Nat} {z0 z1 z2 z3 z4 z5 z6 : Value} (h : W.heap[D]? = some (Obj.cells #[z0, z1, z2, z3, z4, z5, z6] 78 (0, 0))) (a b c d e f g : Value) :
    (((((((W.setCell ⟨D, 0, none⟩ a).setCell ⟨D, 1, none⟩ b).setCell ⟨D, 2, none⟩ c).setCell ⟨D, 3, none⟩ d).setCell ⟨D, 4, none⟩ e).setCell ⟨D, 5, none⟩ f).setCell ⟨D, 6, none⟩ g).heap[D]? = some (Obj.cells #[a, b, c, d, e, f, g] 78 (0, 0)) ∧ ∀ B, B ≤ D → Below B W (((((((W.setCell ⟨D, 0, none⟩ a).setCell ⟨D, 1, none⟩ b).setCell ⟨D, 2, none⟩ c).setCell ⟨D, 3, none⟩ d).setCell ⟨D, 4, none⟩ e).setCell ⟨D, 5, none⟩ f).setCell ⟨D, 6, none⟩ g) := by
  refine ⟨?_, fun B hB => ((((((((Below.refl _ W).setCell (p := ⟨D, 0, none⟩) hB _).setCell (p := ⟨D, 1, none⟩) hB _).setCell (p := ⟨D, 2, none⟩) hB _).setCell (p := ⟨D, 3, none⟩) hB _).setCell (p := ⟨D, 4, none⟩) hB _).setCell (p := ⟨D, 5, none⟩) hB _).setCell (p := ⟨D, 6, none⟩) hB _)⟩
  have k0 : (W.setCell ⟨D, 0, none⟩ a).heap[D]? = some (Obj.cells #[a, z1, z2, z3, z4, z5, z6] 78 (0, 0)) := heap_setCell_same W D 0 _ 78 a h
  have k1 : ((W.setCell ⟨D, 0, none⟩ a).setCell ⟨D, 1, none⟩ b).heap[D]? = some (Obj.cells #[a, b, z2, z3, z4, z5, z6] 78 (0, 0)) := heap_setCell_same (W.setCell ⟨D, 0, none⟩ a) D 1 _ 78 b k0
  have k2 : (((W.setCell ⟨D, 0, none⟩ a).setCell ⟨D, 1, none⟩ b).setCell ⟨D, 2, none⟩ c).heap[D]? = some (Obj.cells #[a, b, c, z3, z4, z5, z6] 78 (0, 0)) := heap_setCell_same ((W.setCell ⟨D, 0, none⟩ a).setCell ⟨D, 1, none⟩ b) D 2 _ 78 c k1
  have k3 : ((((W.setCell ⟨D, 0, none⟩ a).setCell ⟨D, 1, none⟩ b).setCell ⟨D, 2, none⟩ c).setCell ⟨D, 3, none⟩ d).heap[D]? = some (Obj.cells #[a, b, c, d, z4, z5, z6] 78 (0, 0)) := heap_setCell_same (((W.setCell ⟨D, 0, none⟩ a).setCell ⟨D, 1, none⟩ b).setCell ⟨D, 2, none⟩ c) D 3 _ 78 d k2
  have k4 : (((((W.setCell ⟨D, 0, none⟩ a).setCell ⟨D, 1, none⟩ b).setCell ⟨D, 2, none⟩ c).setCell ⟨D, 3, none⟩ d).setCell ⟨D, 4, none⟩ e).heap[D]? = some (Obj.cells #[a, b, c, d, e, z5, z6] 78 (0, 0)) := heap_setCell_same ((((W.setCell ⟨D, 0, none⟩ a).setCell ⟨D, 1, none⟩ b).setCell ⟨D, 2, none⟩ c).setCell ⟨D, 3, none⟩ d) D 4 _ 78 e k3
  have k5 : ((((((W.setCell ⟨D, 0, none⟩ a).setCell ⟨D, 1, none⟩ b).setCell ⟨D, 2, none⟩ c).setCell ⟨D, 3, none⟩ d).setCell ⟨D, 4, none⟩ e).setCell ⟨D, 5, none⟩ f).heap[D]? = some (Obj.cells #[a, b, c, d, e, f, z6] 78 (0, 0)) := heap_setCell_same (((((W.setCell ⟨D, 0, none⟩ a).setCell ⟨D, 1, none⟩ b).setCell ⟨D, 2, none⟩ c).setCell ⟨D, 3, none⟩ d).setCell ⟨D, 4, none⟩ e) D 5 _ 78 f k4
  have k6 : (((((((W.setCell ⟨D, 0, none⟩ a).setCell ⟨D, 1, none⟩ b).setCell ⟨D, 2, none⟩ c).setCell ⟨D, 3, none⟩ d).setCell ⟨D, 4, none⟩ e).setCell ⟨D, 5, none⟩ f).setCell ⟨D, 6, none⟩ g).heap[D]? = some (Obj.cells #[a, b, c, d, e, f, g] 78 (0, 0)) := heap_setCell_same ((((((W.setCell ⟨D, 0, none⟩ a).setCell ⟨D, 1, none⟩ b).setCell ⟨D, 2, none⟩ c).setCell ⟨D, 3, none⟩ d).setCell ⟨D, 4, none⟩ e).setCell ⟨D, 5, none⟩ f) D 6 _ 78 g k5
  exact k6

theorem hard_snap (s : St) (r : Rdy) : (s.hard r).snap = s.snap := by unfold St.hard; split <;> rfl
theorem hard_ents (s : St) (r : Rdy) : (s.hard r).ents = s.ents := by unfold St.hard; split <;> rfl
theorem hard_may (s : St) (r : Rdy) (f : Int) (es : List Ent) : (s.hard r).mayGoOn f es = s.mayGoOn f es := by unfold St.mayGoOn; rw [hard_snap, hard_ents]
theorem Er.len {b : Nat} {W : World} {ao : Option Addr} {n c : Nat} {es : List Ent} (h : Er b W (.slice ao n c) es) : n = es.length := by
  obtain ⟨us, _, h2, _⟩ := h
  rcases Dk.own_shape h2 with ⟨e, h0⟩ | ⟨g, c', e, _⟩
  · simp only [Value.slice.injEq] at e
    omega
  · simp only [Value.slice.injEq] at e
    exact e.2.1

/-- The append of after, whatever came between. -/
theorem tail_append {b : Nat} {Y : World} {v1 v2 ve : Value} {es1 es2 es0 : List Ent} (h1 : Er b Y v1 es1) (h2 : Er b Y v2 es2) (h0 : Er b Y ve es0) (hl : es1.length + es2.length ≤ 1000000000000) (hb : b ≤ Y.heap.size) (hq : v1 = ve ∧ es1 = es0 ∨ ∀ j, v1.ownBlock = some j → ve.ownBlock ≠ some j) :
    ∃ av nv cv w', (∀ ty, (Builtin.append_ #[36, 36] ty #[v1, v2]).run Tryz.prog Y = .ok (.slice av nv cv) w') ∧ Er b w' (.slice av nv cv) (es1 ++ es2) ∧ Er b w' ve es0 ∧ Y.grownBy w' v1.ownBlock := by
  obtain ⟨us2, _, o2, _⟩ := id h2
  obtain ⟨us1, _, o1, _⟩ := id h1
  rcases Dk.own_shape o2 with ⟨rfl, hz⟩ | ⟨g2, c2, rfl, _⟩
  · have he : es2 = [] := List.eq_nil_of_length_eq_zero hz
    subst he
    obtain ⟨i, hi, hzz, hsize, hby⟩ := info_parts Tryz.info65
    obtain ⟨av, nv, cv, rfl⟩ := Dk.own_slice o1
    exact ⟨av, nv, cv, Y, fun ty => run_append_owned_none Y b 36 ty 65 i 4 Tryz.underlying36 hi _ _ _ o1, by rw [List.append_nil]; exact h1, h0, World.grownBy.refl _ _⟩
  · have hg := h2.front es2.length
    rw [List.take_length] at hg
    obtain ⟨v', w', hap, hE, hO, hgr⟩ := append_both h1 (cap := c2) hg hl hb
    have hsl : ∃ av nv cv, v' = .slice av nv cv := by obtain ⟨us, _, o, _⟩ := hE; exact Dk.own_slice o
    obtain ⟨av, nv, cv, rfl⟩ := hsl
    refine ⟨av, nv, cv, w', hap, hE, ?_, hgr⟩
    rcases hq with ⟨rfl, rfl⟩ | hq
    · exact hO
    · obtain ⟨us, a1, a2, a3⟩ := h0
      refine ⟨us, a1, ?_, fun j e hj => ?_⟩
      · refine ⟨a2.1, ?_⟩
        rcases a2.2 with a | ⟨g, c, cur, e1, e2, e3, e4⟩
        · exact Or.inl a
        · refine Or.inr ⟨g, c, cur, e1, e2, ?_, e4⟩
          rw [hgr.block g (lt_of_block e3) (fun e => hq g e.symm (by rw [e1]; rfl))]
          exact e3
      · obtain ⟨u, a4, a5⟩ := a3 j e hj
        exact ⟨u, a4, own_type a5 o1 hgr⟩

theorem own_type_ne {W : World} {b s n S T : Nat} {v : Value} {xs : List Value} {cs : Array Value} (h : W.ownsRow b 65 s v n xs) (hS : W.heap[S]? = some (Obj.cells cs T (0, 0))) (hT : T ≠ 65) : some S ≠ v.ownBlock := by
  intro e
  rcases h.2 with ⟨rfl, _⟩ | ⟨g, cap, cur, rfl, _, hg, _⟩
  · simp [Value.ownBlock] at e
  · simp [Value.ownBlock] at e
    subst e
    rw [hg] at hS
    injection hS with hS
    injection hS with _ h3 _
    exact hT h3.symm
theorem after_tail {b k : Nat} {W w4 Y : World} {s7 r9 z7 : Array Value} {v1 v2 ve : Value} {es0 ns : List Ent} (hW4 : Below W.heap.size W w4) (hB4 : Ab W.heap.size w4 s7 r9 z7) (hY : Below w4.heap.size w4 Y) (h0 : Er b W ve es0) (h1 : Er b Y v1 (es0.take k)) (h2 : Er b Y v2 ns)
    (hc : v1 = ve ∧ k = es0.length ∨ ∀ j, v1.ownBlock = some j → w4.heap.size ≤ j) (hl : es0.length + ns.length ≤ 1000000000000) (hb : b ≤ W.heap.size) :
    ∃ aw nw cw w7, (∀ ty, (Builtin.append_ #[36, 36] ty #[v1, v2]).run Tryz.prog Y = .ok (.slice aw nw cw) w7) ∧ w7.cell? ⟨W.heap.size, 6, none⟩ = s7[6]? ∧ w7.frozen? ⟨W.heap.size, 6, none⟩ = false ∧
      Hid (Ab W.heap.size w7 s7 r9 z7 ∧ Er b w7 (.slice aw nw cw) (es0.take k ++ ns) ∧ Er b w7 ve es0 ∧ W.grownBy w7 ve.ownBlock) := by
  have hbY := hW4.trans (hY.mono hW4.size)
  have h0Y := h0.below hbY
  have hve : ∀ j, ve.ownBlock = some j → j < W.heap.size := by
    obtain ⟨us, _, o, _⟩ := h0
    intro j hj
    rcases o.2 with ⟨rfl, _⟩ | ⟨g, c, cur, rfl, _, hg, _⟩
    · simp [Value.ownBlock] at hj
    · simp [Value.ownBlock] at hj
      subst hj
      exact lt_of_block hg
  obtain ⟨aw, nw, cw, w7, hap, hE, hO, hg⟩ := tail_append h1 h2 h0Y (by rw [List.length_take]; omega) (Nat.le_trans hb hbY.size) (by
    rcases hc with ⟨e1, e2⟩ | hc
    · exact Or.inl ⟨e1, by rw [e2, List.take_length]⟩
    · exact Or.inr fun j hj hj' => by
        have h3 := hc j hj
        have h4 := hve j hj'
        have h5 := hW4.size
        omega)
  obtain ⟨us1, _, o1, _⟩ := id h1
  have hBY := hB4.below hY
  have hB7 : Ab W.heap.size w7 s7 r9 z7 := ⟨(hg.block _ (lt_of_block hBY.s) (own_type_ne o1 hBY.s (by decide))).trans hBY.s, (hg.block _ (lt_of_block hBY.r) (own_type_ne o1 hBY.r (by decide))).trans hBY.r, (hg.block _ (lt_of_block hBY.z) (own_type_ne o1 hBY.z (by decide))).trans hBY.z⟩
  refine ⟨aw, nw, cw, w7, hap, hB7.cs 6, hB7.fs 6, hB7, hE, hO, ⟨hg.os.trans hbY.os, hg.tape.trans hbY.tape, hg.output.trans hbY.output, Nat.le_trans hbY.size hg.size, fun j hj hne => ?_⟩⟩
  rw [hg.block j (Nat.lt_of_lt_of_le hj hbY.size) (fun e => ?_)]
  · exact hbY.block j hj
  · rcases hc with ⟨e1, _⟩ | hc
    · rw [e1] at e
      exact hne e
    · have h3 := hc j e.symm
      have h5 := hW4.size
      omega

theorem fill7g {W : World} {D : Nat} {cs : Array Value} (_h : W.heap[D]? = some (Obj.cells cs 78 (0, 0))) (a b c d e f g : Value) : W.grownBy (((((((W.setCell ⟨D, 0, none⟩ a).setCell ⟨D, 1, none⟩ b).setCell ⟨D, 2, none⟩ c).setCell ⟨D, 3, none⟩ d).setCell ⟨D, 4, none⟩ e).setCell ⟨D, 5, none⟩ f).setCell ⟨D, 6, none⟩ g) (some D) :=
  grown_set (grown_set (grown_set (grown_set (grown_set (grown_set (grown_set (grown_refl _ _)))))))
theorem grown_more {W w7 w8 : World} {o : Option Nat} {D : Nat} (h : W.grownBy w7 o) (hg : w7.grownBy w8 (some D)) (hD : W.heap.size ≤ D) : W.grownBy w8 o :=
  ⟨hg.os.trans h.os, hg.tape.trans h.tape, hg.output.trans h.output, Nat.le_trans h.size hg.size, fun k hk hne => by rw [hg.block k (Nat.lt_of_lt_of_le hk h.size) (by simp; omega)]; exact h.block k hk hne⟩
theorem grown_off {W w7 : World} {o : Option Nat} {D : Nat} (h : W.grownBy w7 o) (hD : W.heap.size ≤ D) (i : Nat) (x : Value) : W.grownBy (w7.setCell ⟨D, i, none⟩ x) o :=
  ⟨h.os, h.tape, h.output, by simpa [World.setCell] using h.size, fun k hk hne => by rw [Below.heap_setCell _ _ _ _ (show k ≠ D by omega)]; exact h.block k hk hne⟩
theorem own_keepT {W W' : World} {b e s n S T : Nat} {v : Value} {xs : List Value} {cs : Array Value} (h : W.ownsRow b e s v n xs) (hS : W.heap[S]? = some (Obj.cells cs T (0, 0))) (hT : T ≠ e) (hg : W.grownBy W' (some S)) : W'.ownsRow b e s v n xs := by
  refine ⟨h.1, ?_⟩
  rcases h.2 with h2 | ⟨g, c, cur, e1, e2, e3, e4⟩
  · exact Or.inl h2
  · refine Or.inr ⟨g, c, cur, e1, e2, ?_, e4⟩
    rw [hg.block g (lt_of_block e3) (fun e => ?_)]
    · exact e3
    · simp at e
      subst e
      rw [e3] at hS
      injection hS with hS
      injection hS with _ h3 _
      exact hT h3.symm
theorem Er.keepT {b S T : Nat} {W W' : World} {v : Value} {es : List Ent} {cs : Array Value} (h : Er b W v es) (hS : W.heap[S]? = some (Obj.cells cs T (0, 0))) (h1 : T ≠ 65) (h2 : T ≠ 5) (hg : W.grownBy W' (some S)) : Er b W' v es := by
  obtain ⟨us, a1, a2, a3⟩ := h
  refine ⟨us, a1, own_keepT a2 hS h1 hg, fun j e hj => ?_⟩
  obtain ⟨u, a4, a5⟩ := a3 j e hj
  exact ⟨u, a4, own_keepT a5 hS h2 hg⟩

set_option maxRecDepth 8000 in
set_option maxHeartbeats 8000000 in
theorem after_plain {b : Nat} {W : World} (s : St) (r : Rdy) (a4 a5 : Option Addr) (n4 c4 n5 c5 : Nat) (y6 y7 y8 : Value) (ae : Option Addr) (ne ce : Nat) (ar : Option Addr) (nr cr : Nat)
    (hE : Er b W (.slice ae ne ce) s.ents) (hR : Es W (.slice ar nr cr) r.ents) (hsn : r.snap = none) (ho : r.ok) (hs : 0 ≤ s.snap.idx) (hl : s.ents.length + r.ents.length ≤ 1000000000000) (hd : ∀ e ∈ r.ents, e.data.length ≤ 140737488355328) (hb : b ≤ W.heap.size) :
    Calls Tryz.prog 54 #[.agg #[.int .i64 s.term, .int .i64 s.vote, .int .i64 s.snap.idx, .int .i64 s.snap.term, .slice a4 n4 c4, .slice a5 n5 c5, .slice ae ne ce], .agg #[.int .i64 r.term, .int .i64 r.vote, .bool r.saved, .int .i64 r.first, .slice ar nr cr, .pointer none, y6, y7, y8]] W fun x w' =>
      (s.after r = none ∧ x = .returned (.tuple #[.agg zero7, .bool false]) ∧ Hid (Er b w' (.slice ae ne ce) s.ents ∧ Below W.heap.size W w')) ∨
      ∃ s' av nv cv, s.after r = some s' ∧ x = .returned (.tuple #[.agg #[.int .i64 s'.term, .int .i64 s'.vote, .int .i64 s.snap.idx, .int .i64 s.snap.term, .slice a4 n4 c4, .slice a5 n5 c5, .slice av nv cv], .bool true]) ∧ s'.snap = s.snap ∧ Hid (Er b w' (.slice av nv cv) s'.ents ∧ Er b w' (.slice ae ne ce) s.ents ∧ W.grownBy w' (Value.slice ae ne ce).ownBlock) := by
  obtain ⟨sv, hsv⟩ : ∃ sv, r.saved = sv := ⟨_, rfl⟩
  obtain ⟨t1, ht1⟩ : ∃ t1, (s.hard r).term = t1 := ⟨_, rfl⟩
  obtain ⟨v1, hv1⟩ : ∃ v1, (s.hard r).vote = v1 := ⟨_, rfl⟩
  rw [hsv]
  have HSV := hide hsv
  have HT1 := hide ht1
  have HV1 := hide hv1
  clear hsv ht1 hv1
  have HB0 : Hid (Ab W.heap.size (((W.alloc (.cells #[.int .i64 s.term, .int .i64 s.vote, .int .i64 s.snap.idx, .int .i64 s.snap.term, .slice a4 n4 c4, .slice a5 n5 c5, .slice ae ne ce] 78)).alloc (.cells #[.int .i64 r.term, .int .i64 r.vote, .bool sv, .int .i64 r.first, .slice ar nr cr, .pointer none, y6, y7, y8] 43)).alloc (.cells #[.int .i64 0, .int .i64 0, .int .i64 0, .int .i64 0, .slice none 0 0, .slice none 0 0, .slice none 0 0] 78)) #[.int .i64 s.term, .int .i64 s.vote, .int .i64 s.snap.idx, .int .i64 s.snap.term, .slice a4 n4 c4, .slice a5 n5 c5, .slice ae ne ce] #[.int .i64 r.term, .int .i64 r.vote, .bool sv, .int .i64 r.first, .slice ar nr cr, .pointer none, y6, y7, y8] #[.int .i64 0, .int .i64 0, .int .i64 0, .int .i64 0, .slice none 0 0, .slice none 0 0, .slice none 0 0]) := Ab.new W _ _
  have HW0 : Hid (Below W.heap.size W (((W.alloc (.cells #[.int .i64 s.term, .int .i64 s.vote, .int .i64 s.snap.idx, .int .i64 s.snap.term, .slice a4 n4 c4, .slice a5 n5 c5, .slice ae ne ce] 78)).alloc (.cells #[.int .i64 r.term, .int .i64 r.vote, .bool sv, .int .i64 r.first, .slice ar nr cr, .pointer none, y6, y7, y8] 43)).alloc (.cells #[.int .i64 0, .int .i64 0, .int .i64 0, .int .i64 0, .slice none 0 0, .slice none 0 0, .slice none 0 0] 78))) := (((Below.refl _ W).alloc (Nat.le_refl _) _).alloc (by simp) _).alloc (by simp; omega) _
  have HE := hide hE
  have HR := hide hR
  have HO := hide ho
  have HD := hide hd
  have HL := hide hl
  clear hE hR ho hd hl
  go_enter Tryz.func54, Tryz.ntmps54
  go_upto_if 7 with fail
  generalize (((W.alloc (.cells #[.int .i64 s.term, .int .i64 s.vote, .int .i64 s.snap.idx, .int .i64 s.snap.term, .slice a4 n4 c4, .slice a5 n5 c5, .slice ae ne ce] 78)).alloc (.cells #[.int .i64 r.term, .int .i64 r.vote, .bool sv, .int .i64 r.first, .slice ar nr cr, .pointer none, y6, y7, y8] 43)).alloc (.cells #[.int .i64 0, .int .i64 0, .int .i64 0, .int .i64 0, .slice none 0 0, .slice none 0 0, .slice none 0 0] 78)) = W0 at *
  have r0 : W0.cell? ⟨W.heap.size + 1, 0, none⟩ = some (.int .i64 r.term) := HB0.out.cr 0
  have r1 : W0.cell? ⟨W.heap.size + 1, 1, none⟩ = some (.int .i64 r.vote) := HB0.out.cr 1
  have s0 : W0.cell? ⟨W.heap.size, 0, none⟩ = some (.int .i64 s.term) := HB0.out.cs 0
  have s1 : W0.cell? ⟨W.heap.size, 1, none⟩ = some (.int .i64 s.vote) := HB0.out.cs 1
  have f0 := HB0.out.fs 0
  have f1 := HB0.out.fs 1
  go_cut [] from 8 to 10 (fun wc => Hid (Ab W.heap.size wc #[.int .i64 t1, .int .i64 v1, .int .i64 s.snap.idx, .int .i64 s.snap.term, .slice a4 n4 c4, .slice a5 n5 c5, .slice ae ne ce] #[.int .i64 r.term, .int .i64 r.vote, .bool sv, .int .i64 r.first, .slice ar nr cr, .pointer none, y6, y7, y8] #[.int .i64 0, .int .i64 0, .int .i64 0, .int .i64 0, .slice none 0 0, .slice none 0 0, .slice none 0 0] ∧ Below W.heap.size W wc))
  case first =>
    cases sv with
    | false =>
      have hh : s.hard r = s := by unfold St.hard; rw [HSV.out]; rfl
      have e1 : s.term = t1 := by rw [← HT1.out, hh]
      have e2 : s.vote = v1 := by rw [← HV1.out, hh]
      subst e1 e2
      go_wp2_with fail
      go_meet
      exact ⟨HB0.out, HW0.out⟩
    | true =>
      have hh : s.hard r = { s with term := r.term, vote := r.vote } := by unfold St.hard; rw [HSV.out]; rfl
      have e1 : r.term = t1 := by rw [← HT1.out, hh]
      have e2 : r.vote = v1 := by rw [← HV1.out, hh]
      have HB1 := hide ((HB0.out.setS 0 (.int .i64 r.term)).setS 1 (.int .i64 r.vote))
      have HW1 := hide ((HW0.out.setCell (p := ⟨W.heap.size, 0, none⟩) (Nat.le_refl _) (.int .i64 r.term)).setCell (p := ⟨W.heap.size, 1, none⟩) (Nat.le_refl _) (.int .i64 r.vote))
      subst e1 e2
      clear hh
      go_wp2_with fail
      go_meet
      exact ⟨HB1.out, HW1.out⟩
  case rest =>
    have HB2 := hide hcut.out.1
    have HW2 := hide hcut.out.2
    clear hcut HB0 HW0 r0 r1 s0 s1 f0 f1 HSV
    have r3 : wc.cell? ⟨W.heap.size + 1, 3, none⟩ = some (.int .i64 r.first) := HB2.out.cr 3
    have r4 : wc.cell? ⟨W.heap.size + 1, 4, none⟩ = some (.slice ar nr cr) := HB2.out.cr 4
    have r5 : wc.cell? ⟨W.heap.size + 1, 5, none⟩ = some (.pointer none) := HB2.out.cr 5
    have s0 : wc.cell? ⟨W.heap.size, 0, none⟩ = some (.int .i64 t1) := HB2.out.cs 0
    have s1 : wc.cell? ⟨W.heap.size, 1, none⟩ = some (.int .i64 v1) := HB2.out.cs 1
    have s2 : wc.cell? ⟨W.heap.size, 2, none⟩ = some (.int .i64 s.snap.idx) := HB2.out.cs 2
    have s3 : wc.cell? ⟨W.heap.size, 3, none⟩ = some (.int .i64 s.snap.term) := HB2.out.cs 3
    have s4 : wc.cell? ⟨W.heap.size, 4, none⟩ = some (.slice a4 n4 c4) := HB2.out.cs 4
    have s5 : wc.cell? ⟨W.heap.size, 5, none⟩ = some (.slice a5 n5 c5) := HB2.out.cs 5
    have s6 : wc.cell? ⟨W.heap.size, 6, none⟩ = some (.slice ae ne ce) := HB2.out.cs 6
    have z0 : wc.cell? ⟨W.heap.size + 1 + 1, 0, none⟩ = some ((.int .i64 0)) := HB2.out.cz 0
    have g0 : wc.frozen? ⟨W.heap.size + 1 + 1, 0, none⟩ = false := HB2.out.fz 0
    have z1 : wc.cell? ⟨W.heap.size + 1 + 1, 1, none⟩ = some ((.int .i64 0)) := HB2.out.cz 1
    have g1 : wc.frozen? ⟨W.heap.size + 1 + 1, 1, none⟩ = false := HB2.out.fz 1
    have z2 : wc.cell? ⟨W.heap.size + 1 + 1, 2, none⟩ = some ((.int .i64 0)) := HB2.out.cz 2
    have g2 : wc.frozen? ⟨W.heap.size + 1 + 1, 2, none⟩ = false := HB2.out.fz 2
    have z3 : wc.cell? ⟨W.heap.size + 1 + 1, 3, none⟩ = some ((.int .i64 0)) := HB2.out.cz 3
    have g3 : wc.frozen? ⟨W.heap.size + 1 + 1, 3, none⟩ = false := HB2.out.fz 3
    have z4 : wc.cell? ⟨W.heap.size + 1 + 1, 4, none⟩ = some ((.slice none 0 0)) := HB2.out.cz 4
    have g4 : wc.frozen? ⟨W.heap.size + 1 + 1, 4, none⟩ = false := HB2.out.fz 4
    have z5 : wc.cell? ⟨W.heap.size + 1 + 1, 5, none⟩ = some ((.slice none 0 0)) := HB2.out.cz 5
    have g5 : wc.frozen? ⟨W.heap.size + 1 + 1, 5, none⟩ = false := HB2.out.fz 5
    have z6 : wc.cell? ⟨W.heap.size + 1 + 1, 6, none⟩ = some ((.slice none 0 0)) := HB2.out.cz 6
    have g6 : wc.frozen? ⟨W.heap.size + 1 + 1, 6, none⟩ = false := HB2.out.fz 6
    by_cases hf : 0 < r.first
    · have hne := HE.out.len
      have hf2 := HO.out.2.2.1.2
      have HM := hide (mayGoOn_any s (.int .i64 t1) (.int .i64 v1) (.int .i64 s.snap.term) (.slice a4 n4 c4) (.slice a5 n5 c5) ae ce r.first r.ents (.slice ar nr cr) wc (HR.out.below HW2.out) (fun e he => (HO.out.2.2.2.1 e he).1) hs hf hf2 (by have := HL.out; omega))
      rw [← hne] at HM
      have HMay : Hid (∀ m, s.mayGoOn r.first r.ents = m → s.after r = if m = true then some { s.hard r with ents := s.ahead r.first ++ r.ents } else none) := fun m hm => by
        unfold St.after St.shot
        rw [hsn]
        show (s.hard r).put r = _
        unfold St.put
        rw [if_pos hf, hard_may, hm]
        unfold St.ahead
        rw [hard_ents]
        simp only [hard_snap]
      have HK : Hid (s.mayGoOn r.first r.ents = true → ∃ k : Nat, r.first - 1 - s.snap.idx = (k : Int) ∧ k ≤ s.ents.length ∧ s.ahead r.first = s.ents.take k) := fun hm => by
        unfold St.mayGoOn at hm
        simp only [Bool.and_eq_true, decide_eq_true_eq] at hm
        exact ⟨(r.first - 1 - s.snap.idx).toNat, by omega, by omega, rfl⟩
      obtain ⟨may, hmay⟩ : ∃ may, s.mayGoOn r.first r.ents = may := ⟨_, rfl⟩
      have HMa := hide (HMay.out may hmay)
      have HKa : Hid (may = true → ∃ k : Nat, r.first - 1 - s.snap.idx = (k : Int) ∧ k ≤ s.ents.length ∧ s.ahead r.first = s.ents.take k) := fun e => HK.out (hmay.trans e)
      rw [hmay] at HM
      clear HMay HK hmay hne
      go_wp2_with fail
      refine Calls.mono HM.out ?_
      rintro x w4 ⟨rfl, hb4⟩
      have HB4 := hide (HB2.out.below hb4)
      have HW4 := hide (HW2.out.trans (hb4.mono HW2.out.size))
      clear r3 r4 r5 s0 s1 s2 s3 s4 s5 s6 z0 z1 z2 z3 z4 z5 z6 g0 g1 g2 g3 g4 g5 g6 hb4 HM HB2 HW2
      have r3 : w4.cell? ⟨W.heap.size + 1, 3, none⟩ = some (.int .i64 r.first) := HB4.out.cr 3
      have r4 : w4.cell? ⟨W.heap.size + 1, 4, none⟩ = some (.slice ar nr cr) := HB4.out.cr 4
      have s0 : w4.cell? ⟨W.heap.size, 0, none⟩ = some (.int .i64 t1) := HB4.out.cs 0
      have s1 : w4.cell? ⟨W.heap.size, 1, none⟩ = some (.int .i64 v1) := HB4.out.cs 1
      have s2 : w4.cell? ⟨W.heap.size, 2, none⟩ = some (.int .i64 s.snap.idx) := HB4.out.cs 2
      have s3 : w4.cell? ⟨W.heap.size, 3, none⟩ = some (.int .i64 s.snap.term) := HB4.out.cs 3
      have s4 : w4.cell? ⟨W.heap.size, 4, none⟩ = some (.slice a4 n4 c4) := HB4.out.cs 4
      have s5 : w4.cell? ⟨W.heap.size, 5, none⟩ = some (.slice a5 n5 c5) := HB4.out.cs 5
      have s6 : w4.cell? ⟨W.heap.size, 6, none⟩ = some (.slice ae ne ce) := HB4.out.cs 6
      have z0 : w4.cell? ⟨W.heap.size + 1 + 1, 0, none⟩ = some ((.int .i64 0)) := HB4.out.cz 0
      have g0 : w4.frozen? ⟨W.heap.size + 1 + 1, 0, none⟩ = false := HB4.out.fz 0
      have z1 : w4.cell? ⟨W.heap.size + 1 + 1, 1, none⟩ = some ((.int .i64 0)) := HB4.out.cz 1
      have g1 : w4.frozen? ⟨W.heap.size + 1 + 1, 1, none⟩ = false := HB4.out.fz 1
      have z2 : w4.cell? ⟨W.heap.size + 1 + 1, 2, none⟩ = some ((.int .i64 0)) := HB4.out.cz 2
      have g2 : w4.frozen? ⟨W.heap.size + 1 + 1, 2, none⟩ = false := HB4.out.fz 2
      have z3 : w4.cell? ⟨W.heap.size + 1 + 1, 3, none⟩ = some ((.int .i64 0)) := HB4.out.cz 3
      have g3 : w4.frozen? ⟨W.heap.size + 1 + 1, 3, none⟩ = false := HB4.out.fz 3
      have z4 : w4.cell? ⟨W.heap.size + 1 + 1, 4, none⟩ = some ((.slice none 0 0)) := HB4.out.cz 4
      have g4 : w4.frozen? ⟨W.heap.size + 1 + 1, 4, none⟩ = false := HB4.out.fz 4
      have z5 : w4.cell? ⟨W.heap.size + 1 + 1, 5, none⟩ = some ((.slice none 0 0)) := HB4.out.cz 5
      have g5 : w4.frozen? ⟨W.heap.size + 1 + 1, 5, none⟩ = false := HB4.out.fz 5
      have z6 : w4.cell? ⟨W.heap.size + 1 + 1, 6, none⟩ = some ((.slice none 0 0)) := HB4.out.cz 6
      have g6 : w4.frozen? ⟨W.heap.size + 1 + 1, 6, none⟩ = false := HB4.out.fz 6
      cases may with
      | false =>
        have HN := hide (fill7 HB4.out.z (.int .i64 0) (.int .i64 0) (.int .i64 0) (.int .i64 0) (.slice none 0 0) (.slice none 0 0) (.slice none 0 0))
        go_wp2_with fail
        refine bodyPost_ret (ret_ct rfl _ _ (W.heap.size + 2) 78 zero7 rfl HN.out.1 Tryz.underlying78 sz78) rfl ?_
        have hbf := HW4.out.trans (HN.out.2 W.heap.size (by omega))
        exact Or.inl ⟨HMa.out, rfl, HE.out.below hbf, hbf⟩
      | true =>
        obtain ⟨k, hk1, hk2, hk3⟩ := HKa.out rfl
        have C90 : Hid (∀ X, Below w4.heap.size w4 X → Calls Tryz.prog 90 #[.agg #[.int .i64 t1, .int .i64 v1, .int .i64 s.snap.idx, .int .i64 s.snap.term, .slice a4 n4 c4, .slice a5 n5 c5, .slice ae ne ce], .int .i64 r.first] X fun x w' => ∃ av nv cv, x = .returned (.slice av nv cv) ∧ Hid (Below X.heap.size X w' ∧ Below w4.heap.size w4 w' ∧ Er b w' (.slice av nv cv) (s.ents.take k) ∧ (Value.slice av nv cv = Value.slice ae ne ce ∧ k = s.ents.length ∨ ∀ j, (Value.slice av nv cv).ownBlock = some j → w4.heap.size ≤ j))) := fun X hX => by
          have hbX := HW4.out.trans (hX.mono HW4.out.size)
          refine (ahead_any (.int .i64 t1) (.int .i64 v1) (.int .i64 s.snap.term) (.slice a4 n4 c4) (.slice a5 n5 c5) s.snap.idx r.first (.slice ae ne ce) s.ents (HE.out.below hbX) k hk1 hk2 hs hf2 (by have := HL.out; omega) (Nat.le_trans hb hbX.size)).mono ?_
          rintro x w' ⟨v', rfl, hz⟩
          obtain ⟨us', _, o', _⟩ := id hz.out.1
          obtain ⟨av, nv, cv, rfl⟩ := Dk.own_slice o'
          exact ⟨av, nv, cv, rfl, hz.out.2.1, hX.trans (hz.out.2.1.mono hX.size), hz.out.1, hz.out.2.2.imp id (fun h j hj => Nat.le_trans hX.size (h j hj))⟩
        have C44 : Hid (∀ X, Below w4.heap.size w4 X → Calls Tryz.prog 44 #[.slice ar nr cr] X fun x w' => ∃ an nn cn, x = .returned (.slice an nn cn) ∧ Hid (Below X.heap.size X w' ∧ Below w4.heap.size w4 w' ∧ Er b w' (.slice an nn cn) r.ents)) := fun X hX => by
          have hbX := HW4.out.trans (hX.mono HW4.out.size)
          refine (copyEntries_any (.slice ar nr cr) r.ents X (HR.out.below hbX) (by have := HL.out; omega) HD.out).mono ?_
          rintro x w' ⟨v', rfl, hz⟩
          obtain ⟨us', _, o', _⟩ := id hz.out.1
          obtain ⟨an, nn, cn, rfl⟩ := Dk.own_slice o'
          exact ⟨an, nn, cn, rfl, hz.out.2, hX.trans (hz.out.2.mono hX.size), hz.out.1.low (Nat.le_trans hb hbX.size)⟩
        have hdr : Below w4.heap.size w4 w4.drew := (Below.refl _ w4).drew
        have HT : Hid (∀ Y av nv cv an nn cn, Below w4.heap.size w4 Y → Er b Y (.slice av nv cv) (s.ents.take k) → Er b Y (.slice an nn cn) r.ents → (Value.slice av nv cv = Value.slice ae ne ce ∧ k = s.ents.length ∨ ∀ j, (Value.slice av nv cv).ownBlock = some j → w4.heap.size ≤ j) → ∃ aw nw cw w7, (∀ ty, (Builtin.append_ #[36, 36] ty #[.slice av nv cv, .slice an nn cn]).run Tryz.prog Y = .ok (.slice aw nw cw) w7) ∧ w7.cell? ⟨W.heap.size, 6, none⟩ = some (.slice ae ne ce) ∧ w7.frozen? ⟨W.heap.size, 6, none⟩ = false ∧ Hid (Ab W.heap.size w7 #[.int .i64 t1, .int .i64 v1, .int .i64 s.snap.idx, .int .i64 s.snap.term, .slice a4 n4 c4, .slice a5 n5 c5, .slice ae ne ce] #[.int .i64 r.term, .int .i64 r.vote, .bool sv, .int .i64 r.first, .slice ar nr cr, .pointer none, y6, y7, y8] #[.int .i64 0, .int .i64 0, .int .i64 0, .int .i64 0, .slice none 0 0, .slice none 0 0, .slice none 0 0] ∧ Er b w7 (.slice aw nw cw) (s.ents.take k ++ r.ents) ∧ Er b w7 (.slice ae ne ce) s.ents ∧ W.grownBy w7 (Value.slice ae ne ce).ownBlock)) :=
          fun Y av nv cv an nn cn hY h1 h2 hc => after_tail HW4.out HB4.out hY HE.out h1 h2 hc HL.out hb
        clear z0 z1 z2 z3 z4 z5 z6 g0 g1 g2 g3 g4 g5 g6 hk1 hk2
        go_wp2_with fail
        refine wp_region_noPanic ?_
        go_region_law (first
            | (have m5 := HA5; go_simp; go_at_call 44; (with_reducible refine Calls.mono (C44.out _ m5.out.2.1) ?_); rintro e w6 ⟨an, nn, cn, rfl, H6⟩; have hpp := HT.out w6 _ _ _ _ _ _ H6.out.2.1 (m5.out.2.2.1.below H6.out.1) H6.out.2.2 m5.out.2.2.2; obtain ⟨aw, nw, cw, w7, hap, c7, f7, HF⟩ := hpp)
            | (have m5 := HC5; go_simp; go_at_call 90; (with_reducible refine Calls.mono (C90.out _ m5.out.2.1) ?_); rintro e w6 ⟨av, nv, cv, rfl, H6⟩; have hpp := HT.out w6 _ _ _ _ _ _ H6.out.2.1 H6.out.2.2.1 (m5.out.2.2.below H6.out.1) H6.out.2.2.2; obtain ⟨aw, nw, cw, w7, hap, c7, f7, HF⟩ := hpp)
            | (go_simp; go_at_call 90; (with_reducible refine Calls.mono (C90.out w4.drew hdr) ?_); rintro e w5 ⟨av, nv, cv, rfl, HA5⟩; have HB5 := hide (HB4.out.below HA5.out.2.1); have b4 : w5.cell? ⟨W.heap.size + 1, 4, none⟩ = some (.slice ar nr cr) := HB5.out.cr 4)
            | (go_simp; go_at_call 44; (with_reducible refine Calls.mono (C44.out w4.drew hdr) ?_); rintro e w5 ⟨an, nn, cn, rfl, HC5⟩; have HB5 := hide (HB4.out.below HC5.out.2.1); have b7 : w5.cell? ⟨W.heap.size + 1, 3, none⟩ = some (.int .i64 r.first) := HB5.out.cr 3; have b0 : w5.cell? ⟨W.heap.size, 0, none⟩ = some (.int .i64 t1) := HB5.out.cs 0; have b1 : w5.cell? ⟨W.heap.size, 1, none⟩ = some (.int .i64 v1) := HB5.out.cs 1; have b2 : w5.cell? ⟨W.heap.size, 2, none⟩ = some (.int .i64 s.snap.idx) := HB5.out.cs 2; have b3 : w5.cell? ⟨W.heap.size, 3, none⟩ = some (.int .i64 s.snap.term) := HB5.out.cs 3; have b4 : w5.cell? ⟨W.heap.size, 4, none⟩ = some (.slice a4 n4 c4) := HB5.out.cs 4; have b5 : w5.cell? ⟨W.heap.size, 5, none⟩ = some (.slice a5 n5 c5) := HB5.out.cs 5; have b6 : w5.cell? ⟨W.heap.size, 6, none⟩ = some (.slice ae ne ce) := HB5.out.cs 6)
            | (refine step_append_run (by rfl) (.tmp 57) (.tmp 60) 36 36 (by rfl) _ _ (by rfl) (by rfl) (hap _) ?_))
        all_goals refine NoPanic.normal ?_
        all_goals have HB8 := hide (HF.out.1.setS 6 (.slice aw nw cw))
        all_goals have HX8 : Hid (Er b (w7.setCell ⟨W.heap.size, 6, none⟩ (.slice aw nw cw)) (.slice aw nw cw) (s.ents.take k ++ r.ents) ∧ Er b (w7.setCell ⟨W.heap.size, 6, none⟩ (.slice aw nw cw)) (.slice ae ne ce) s.ents ∧ W.grownBy (w7.setCell ⟨W.heap.size, 6, none⟩ (.slice aw nw cw)) (Value.slice ae ne ce).ownBlock) := ⟨HF.out.2.1.keepT HF.out.1.s (by decide) (by decide) (grown_set (grown_refl _ _)), HF.out.2.2.1.keepT HF.out.1.s (by decide) (by decide) (grown_set (grown_refl _ _)), grown_off HF.out.2.2.2 (Nat.le_refl _) 6 _⟩
        all_goals clear hap c7 f7 HF
        all_goals generalize w7.setCell ⟨W.heap.size, 6, none⟩ (.slice aw nw cw) = W8 at *
        all_goals clear s0 s1 s2 s3 s4 s5 s6 r3 r4
        all_goals have s0 : W8.cell? ⟨W.heap.size, 0, none⟩ = some (.int .i64 t1) := HB8.out.cs 0
        all_goals have s1 : W8.cell? ⟨W.heap.size, 1, none⟩ = some (.int .i64 v1) := HB8.out.cs 1
        all_goals have s2 : W8.cell? ⟨W.heap.size, 2, none⟩ = some (.int .i64 s.snap.idx) := HB8.out.cs 2
        all_goals have s3 : W8.cell? ⟨W.heap.size, 3, none⟩ = some (.int .i64 s.snap.term) := HB8.out.cs 3
        all_goals have s4 : W8.cell? ⟨W.heap.size, 4, none⟩ = some (.slice a4 n4 c4) := HB8.out.cs 4
        all_goals have s5 : W8.cell? ⟨W.heap.size, 5, none⟩ = some (.slice a5 n5 c5) := HB8.out.cs 5
        all_goals have s6 : W8.cell? ⟨W.heap.size, 6, none⟩ = some (.slice aw nw cw) := HB8.out.cs 6
        all_goals have z0 : W8.cell? ⟨W.heap.size + 1 + 1, 0, none⟩ = some ((.int .i64 0)) := HB8.out.cz 0
        all_goals have g0 : W8.frozen? ⟨W.heap.size + 1 + 1, 0, none⟩ = false := HB8.out.fz 0
        all_goals have z1 : W8.cell? ⟨W.heap.size + 1 + 1, 1, none⟩ = some ((.int .i64 0)) := HB8.out.cz 1
        all_goals have g1 : W8.frozen? ⟨W.heap.size + 1 + 1, 1, none⟩ = false := HB8.out.fz 1
        all_goals have z2 : W8.cell? ⟨W.heap.size + 1 + 1, 2, none⟩ = some ((.int .i64 0)) := HB8.out.cz 2
        all_goals have g2 : W8.frozen? ⟨W.heap.size + 1 + 1, 2, none⟩ = false := HB8.out.fz 2
        all_goals have z3 : W8.cell? ⟨W.heap.size + 1 + 1, 3, none⟩ = some ((.int .i64 0)) := HB8.out.cz 3
        all_goals have g3 : W8.frozen? ⟨W.heap.size + 1 + 1, 3, none⟩ = false := HB8.out.fz 3
        all_goals have z4 : W8.cell? ⟨W.heap.size + 1 + 1, 4, none⟩ = some ((.slice none 0 0)) := HB8.out.cz 4
        all_goals have g4 : W8.frozen? ⟨W.heap.size + 1 + 1, 4, none⟩ = false := HB8.out.fz 4
        all_goals have z5 : W8.cell? ⟨W.heap.size + 1 + 1, 5, none⟩ = some ((.slice none 0 0)) := HB8.out.cz 5
        all_goals have g5 : W8.frozen? ⟨W.heap.size + 1 + 1, 5, none⟩ = false := HB8.out.fz 5
        all_goals have z6 : W8.cell? ⟨W.heap.size + 1 + 1, 6, none⟩ = some ((.slice none 0 0)) := HB8.out.cz 6
        all_goals have g6 : W8.frozen? ⟨W.heap.size + 1 + 1, 6, none⟩ = false := HB8.out.fz 6
        all_goals have HN := hide (fill7 HB8.out.z (.int .i64 t1) (.int .i64 v1) (.int .i64 s.snap.idx) (.int .i64 s.snap.term) (.slice a4 n4 c4) (.slice a5 n5 c5) (.slice aw nw cw))
        all_goals have HG := hide (fill7g HB8.out.z (.int .i64 t1) (.int .i64 v1) (.int .i64 s.snap.idx) (.int .i64 s.snap.term) (.slice a4 n4 c4) (.slice a5 n5 c5) (.slice aw nw cw))
        all_goals go_wp2_with fail
        all_goals refine bodyPost_ret (ret_ct rfl _ _ (W.heap.size + 2) 78 #[.int .i64 t1, .int .i64 v1, .int .i64 s.snap.idx, .int .i64 s.snap.term, .slice a4 n4 c4, .slice a5 n5 c5, .slice aw nw cw] rfl HN.out.1 Tryz.underlying78 sz78) rfl ?_
        all_goals refine Or.inr ⟨{ s.hard r with ents := s.ahead r.first ++ r.ents }, aw, nw, cw, HMa.out.trans (by first | exact if_pos trivial | exact if_pos rfl | simp), ?_, hard_snap s r, ?_⟩
        all_goals first
          | (show _ = Ending.returned (.tuple #[.agg #[.int .i64 (s.hard r).term, .int .i64 (s.hard r).vote, .int .i64 s.snap.idx, .int .i64 s.snap.term, .slice a4 n4 c4, .slice a5 n5 c5, .slice aw nw cw], .bool true]); rw [HT1.out, HV1.out]; rfl)
          | (rw [hk3]; exact ⟨HX8.out.1.keepT HB8.out.z (by decide) (by decide) HG.out, HX8.out.2.1.keepT HB8.out.z (by decide) (by decide) HG.out, grown_more HX8.out.2.2 HG.out (by omega)⟩)
    · have HA : Hid (s.after r = some (s.hard r)) := by
        show _ = _
        unfold St.after St.shot
        rw [hsn]
        simp [St.put, hf]
      have HN := hide (fill7 HB2.out.z (.int .i64 t1) (.int .i64 v1) (.int .i64 s.snap.idx) (.int .i64 s.snap.term) (.slice a4 n4 c4) (.slice a5 n5 c5) (.slice ae ne ce))
      go_wp2_with fail
      refine bodyPost_ret (ret_ct rfl _ _ (W.heap.size + 2) 78 #[.int .i64 t1, .int .i64 v1, .int .i64 s.snap.idx, .int .i64 s.snap.term, .slice a4 n4 c4, .slice a5 n5 c5, .slice ae ne ce] rfl HN.out.1 Tryz.underlying78 sz78) rfl ?_
      have hbf := HW2.out.trans (HN.out.2 W.heap.size (by omega))
      refine Or.inr ⟨s.hard r, HA.out, ae, ne, ce, ?_, hard_snap s r, ?_⟩
      · rw [HT1.out, HV1.out]
        rfl
      · rw [hard_ents s r]
        exact ⟨HE.out.below hbf, HE.out.below hbf, ⟨hbf.os, hbf.tape, hbf.output, hbf.size, fun k hk _ => hbf.block k hk⟩⟩
end Go.Proofs.YtjndgekpdmlbiaaGreatDoor.Kp
namespace Go.Proofs.YtjndgekpdmlbiaaGreatDoor.Kp
open Go.RowKit Bn

theorem Er.es {b : Nat} {W : World} {v : Value} {es : List Ent} (h : Er b W v es) : Es W v es := by
  obtain ⟨us, h1, h2, h3⟩ := h
  rcases Dk.own_shape h2 with ⟨rfl, h0⟩ | ⟨g, cap, rfl, k1, k2, _⟩
  · have : es = [] := List.eq_nil_of_length_eq_zero h0
    subst this
    exact ⟨none, 0, rfl, Nat.le_refl _, by simp [maxLen], fun h => by simp at h⟩
  · refine ⟨some ⟨g, 0, none⟩, cap, rfl, k1, k2, fun _ => ⟨g, 0, rfl, fun j e hj => ?_⟩⟩
    obtain ⟨u, h4, h5⟩ := h3 j e hj
    obtain ⟨ad, ld, cd, rfl⟩ := Dk.own_slice h5
    have hjl := (List.getElem?_eq_some_iff.1 hj).1
    have hc : ∀ k, k < 4 → W.cell? ⟨g, 0 + j * 4 + k, none⟩ = [Value.int .i64 e.idx, .int .i64 e.term, .int .i64 e.kind, .slice ad ld cd][k]? := fun k hk => by
      rw [Nat.zero_add, h2.cellAt _ (by omega), cellsE_get es us j k _ _ hj h4 hk]
    exact ⟨ad, ld, cd, hc 0 (by decide), hc 1 (by decide), hc 2 (by decide), hc 3 (by decide), Sl.of_own h5⟩
theorem cellsE_drop (es : List Ent) (us : List Value) (h : us.length = es.length) (k : Nat) : cellsE (es.drop k) (us.drop k) = (cellsE es us).drop (k * 4) := by
  induction es generalizing us k with
  | nil => simp [cellsE]
  | cons e r ih =>
    cases us with
    | nil => simp at h
    | cons x s =>
      cases k with
      | zero => simp
      | succ k =>
        have e1 : cellsE (e :: r) (x :: s) = [Value.int .i64 e.idx, .int .i64 e.term, .int .i64 e.kind, x] ++ cellsE r s := by simp [cellsE]
        rw [List.drop_succ_cons, List.drop_succ_cons, ih s (by simpa using h), e1, show (k + 1) * 4 = 4 + k * 4 by omega, List.drop_append]
        simp
/-- The end of a row of entries; at nothing, wherever it lies. -/
theorem Er.back {b : Nat} {W : World} {g n cap : Nat} {es : List Ent} (h : Er b W (.slice (some ⟨g, 0, none⟩) n cap) es) (k : Nat) (a : Addr) (ha : k < es.length → a = ⟨g, k * 4, none⟩) : Eg b W (some a) (es.drop k) := by
  obtain ⟨us, h1, h2, h3⟩ := h
  refine ⟨us.drop k, by simp [h1], (fun e => by cases e), fun a' ha' j u hj => ?_, fun j e hj => ?_⟩
  · cases ha'
    rw [cellsE_drop es us h1, List.getElem?_drop] at hj
    by_cases hk : k < es.length
    · rw [ha hk, Addr.add_lit, ← Nat.zero_add (k * 4 + j)]
      have := h2.cells rfl (k * 4 + j) u hj
      rw [Addr.add_lit] at this
      exact this
    · have := (List.getElem?_eq_some_iff.1 hj).1
      rw [cellsE_len es us h1] at this
      omega
  · rw [List.getElem?_drop] at hj
    obtain ⟨u, h4, h5⟩ := h3 _ e hj
    exact ⟨u, by rw [List.getElem?_drop]; exact h4, h5⟩

theorem Bs0 (W : World) (x0 x1 x2 x3 x4 x5 x6 : Value) : ∀ w4, Below (W.alloc (.cells #[x0, x1, x2, x3, x4, x5, x6] 78)).heap.size (W.alloc (.cells #[x0, x1, x2, x3, x4, x5, x6] 78)) w4 → w4.cell? ⟨W.heap.size, 2, none⟩ = some x2 ∧ w4.cell? ⟨W.heap.size, 6, none⟩ = some x6 := fun w4 hb => by
  have h : w4.heap[W.heap.size]? = some (Obj.cells #[x0, x1, x2, x3, x4, x5, x6] 78 (0, 0)) := by
    rw [hb.block _ (by simp)]
    exact heap_alloc_new _ _
  exact ⟨by rw [cell_of_row w4 _ 2 _ 78 (0, 0) h]; rfl, by rw [cell_of_row w4 _ 6 _ 78 (0, 0) h]; rfl⟩
set_option maxRecDepth 4000 in
set_option maxHeartbeats 2000000 in
theorem behind_any {b : Nat} {W : World} (s : St) (x0 x1 x3 x4 x5 : Value) (v : Value) (i t : Int) (h : Er b W v s.ents) (hs : 0 ≤ s.snap.idx) (hi : i ≤ 9223372036854775807) (hl : s.ents.length ≤ 1000000000000) (hb : b ≤ W.heap.size) :
    Calls Tryz.prog 88 #[.agg #[x0, x1, .int .i64 s.snap.idx, x3, x4, x5, v], .int .i64 i, .int .i64 t] W fun x w' => ∃ v', x = .returned v' ∧ Hid (Er b w' v' (s.behind i t) ∧ Below W.heap.size W w') := by
  have hx : Hid (∀ o, Below W.heap.size W (W.alloc o)) := fun o => (Below.refl _ W).alloc (Nat.le_refl _) o
  have HE := hide h
  have HH : Hid (∀ o, Calls Tryz.prog 36 #[.agg #[x0, x1, .int .i64 s.snap.idx, x3, x4, x5, v], .int .i64 i, .int .i64 t] (W.alloc o) fun x w' => x = .returned (.bool (s.has i t)) ∧ Below (W.alloc o).heap.size (W.alloc o) w') := fun o => has_any s x0 x1 x3 x4 x5 v i t _ (h.below (hx.out o)).es hs hi
  obtain ⟨us, hown⟩ : ∃ us, W.ownsRow b 65 4 v s.ents.length (cellsE s.ents us) := by obtain ⟨us, _, h2, _⟩ := h; exact ⟨us, h2⟩
  obtain ⟨m, hm⟩ : ∃ m, s.snap.idx = m := ⟨_, rfl⟩
  cases hh : s.has i t with
  | false =>
    have HBh : Hid (s.behind i t = []) := by show _ = _; unfold St.behind; rw [hh]; rfl
    rw [hh] at HH
    have hsh : ∃ ao n c, v = .slice ao n c := Dk.own_slice hown
    obtain ⟨ao, n, c, rfl⟩ := hsh
    clear h hown hl hb hh hm
    go_enter Tryz.func88, Tryz.ntmps88
    go_wp2_with fail
    refine Calls.mono (HH.out _) ?_
    rintro x w4 ⟨rfl, hb4⟩
    have HB4 := hide ((hx.out _).trans (hb4.mono (hx.out _).size))
    clear hb4 HH
    go_wp2_with fail
    go_ret
    refine ⟨_, rfl, ?_, HB4.out⟩
    rw [HBh.out]
    exact Er.nil _ _
  | true =>
    have hlt : m < i ∧ (i - m - 1).toNat < s.ents.length := by
      unfold St.has at hh
      rw [hm] at hh
      simp only [Bool.and_eq_true, decide_eq_true_eq] at hh
      refine ⟨hh.1, ?_⟩
      cases hq : s.ents[(i - m - 1).toNat]? with
      | none => rw [hq] at hh; simp at hh
      | some e => exact (List.getElem?_eq_some_iff.1 hq).1
    obtain ⟨k, hk⟩ : ∃ k : Nat, i - m = (k : Int) := ⟨(i - m).toNat, by omega⟩
    have hkl : k ≤ s.ents.length := by omega
    have HBh : Hid (s.behind i t = s.ents.drop k) := by
      show _ = _
      unfold St.behind
      rw [hh, hm, hk]
      rfl
    rw [hh] at HH
    rcases Dk.own_shape hown with ⟨_, h0⟩ | ⟨g, cap, rfl, h1, h2, _⟩
    · omega
    · have hcm : cap ≤ 9223372036854775807 := h2
      rw [hm] at HH hs ⊢
      have hB0 := Bs0 W x0 x1 (.int .i64 m) x3 x4 x5 (.slice (some ⟨g, 0, none⟩) s.ents.length cap)
      have HB0 := hide hB0
      have HL := hide hl
      have HBb := hide hb
      clear h hown hl hh hm h2 hB0 hb
      go_enter Tryz.func88, Tryz.ntmps88
      go_wp2_with fail
      refine Calls.mono (HH.out _) ?_
      rintro x w4 ⟨rfl, hb4⟩
      have HB4 := hide ((hx.out _).trans (hb4.mono (hx.out _).size))
      have s2 : w4.cell? ⟨W.heap.size, 2, none⟩ = some (.int .i64 m) := (HB0.out w4 hb4).1
      have s6 : w4.cell? ⟨W.heap.size, 6, none⟩ = some (.slice (some ⟨g, 0, none⟩) s.ents.length cap) := (HB0.out w4 hb4).2
      have hkI : (k : Int) ≤ (s.ents.length : Int) := by omega
      have hlI : (s.ents.length : Int) ≤ (cap : Int) := by omega
      have HCl : Hid (∀ (a : Addr) (c : Nat), (k < s.ents.length → a = ⟨g, k * 4, none⟩) → Calls Tryz.prog 113 #[.slice (some a) (s.ents.length - k) c] w4 fun x w' => ∃ v', x = .returned v' ∧ Hid (Er b w' v' (s.ents.drop k) ∧ Below w4.heap.size w4 w' ∧ ∀ j, v'.ownBlock = some j → w4.heap.size ≤ j)) := fun a c ha => by
        have hlen : (s.ents.drop k).length = s.ents.length - k := List.length_drop
        have := cloneE_any c ((HE.out.below HB4.out).back k a ha) (fun e => by cases e) (by have := HL.out; omega) (Nat.le_trans HBb.out HB4.out.size)
        rw [hlen] at this
        exact this
      have HFin : Hid (∀ w6 v', Hid (Er b w6 v' (s.ents.drop k) ∧ Below w4.heap.size w4 w6 ∧ ∀ j, v'.ownBlock = some j → w4.heap.size ≤ j) → Er b w6 v' (s.behind i t) ∧ Below W.heap.size W w6) := fun w6 v' hz => ⟨by rw [HBh.out]; exact hz.out.1, HB4.out.trans (hz.out.2.1.mono HB4.out.size)⟩
      by_cases hck : cap = k
      · have hnk : ¬ k < s.ents.length := by omega
        have HC0 := hide (HCl.out ⟨g, 0, none⟩ 0 (fun h => absurd h hnk))
        rw [show s.ents.length - k = 0 by omega] at HC0
        subst hck
        clear hb4 HH HBh
        go_wp2_with fail
        refine Calls.mono HC0.out ?_
        rintro x w6 ⟨v', rfl, hz⟩
        have HZ := hide (HFin.out w6 v' hz)
        obtain ⟨us', _, o', _⟩ := id hz.out.1
        obtain ⟨ao', L', cap', rfl⟩ := Dk.own_slice o'
        clear hz o' HCl HFin
        go_wp2_with fail
        go_ret
        exact ⟨_, rfl, HZ.out⟩
      · clear hb4 HH HBh
        go_wp2_with fail
        refine Calls.mono (HCl.out _ _ (fun _ => rfl)) ?_
        rintro x w6 ⟨v', rfl, hz⟩
        have HZ := hide (HFin.out w6 v' hz)
        obtain ⟨us', _, o', _⟩ := id hz.out.1
        obtain ⟨ao', L', cap', rfl⟩ := Dk.own_slice o'
        clear hz o' HCl HFin
        go_wp2_with fail
        go_ret
        exact ⟨_, rfl, HZ.out⟩
end Go.Proofs.YtjndgekpdmlbiaaGreatDoor.Kp

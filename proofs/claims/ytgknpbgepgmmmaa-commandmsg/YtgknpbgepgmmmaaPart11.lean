/- EqEntries 57: two rows of entries told apart. CommandMsg: the first hundred bytes; a row of entries cut short. CommandMsg: CutMsg 22. EqMsg 25: when two messages are the same. CommandMsg: bytes of messages: lengths; what is read is in bounds; one text for each. -/
import Derived.Test.YtgknpbgepgmmmaaPart10
import Derived.Test.YtgknpbgepgmmmaaPart07
import Derived.Test.YtgknpbgepgmmmaaPart09
import Derived.Test.YtgknpbgepgmmmaaPart08
namespace Go.Proofs.Ytgknpbgepgmmmaa.Cm
open Go.RowKit Bn Kp

instance : DecidableEq Ent := fun a b => decidable_of_iff _ (eqE_iff a b)

/-- The eight cells of two entries. -/
abbrev S8 (ga oa gb ob : Nat) (e f : Ent) (u v : Value) (W : World) : Prop :=
  (W.cell? ⟨ga, oa, none⟩ = some (.int .i64 e.idx) ∧ W.cell? ⟨ga, oa + 1, none⟩ = some (.int .i64 e.term) ∧ W.cell? ⟨ga, oa + 2, none⟩ = some (.int .i64 e.kind) ∧ W.cell? ⟨ga, oa + 3, none⟩ = some u) ∧
  (W.cell? ⟨gb, ob, none⟩ = some (.int .i64 f.idx) ∧ W.cell? ⟨gb, ob + 1, none⟩ = some (.int .i64 f.term) ∧ W.cell? ⟨gb, ob + 2, none⟩ = some (.int .i64 f.kind) ∧ W.cell? ⟨gb, ob + 3, none⟩ = some v)

set_option maxRecDepth 4000 in
set_option maxHeartbeats 4000000 in
theorem eqEnts_any (va vb : Value) (xs ys : List Ent) (w : World) (ha : Es w va xs) (hb : Es w vb ys) :
    Calls Try.prog 57 #[va, vb] w fun e w' => e = .returned (.bool (decide (xs = ys))) ∧ Hid (Below w.heap.size w w') := by
  obtain ⟨res, hres⟩ : ∃ r, Hid (decide (xs = ys) = r) := ⟨_, (rfl : _ = _)⟩
  rw [hres.out]
  obtain ⟨ao, cap, rfl, a1, a2, a4⟩ := ha
  obtain ⟨bo, bap, rfl, b1, b2, b4⟩ := hb
  have a2' : cap ≤ 9223372036854775807 := a2
  have b2' : bap ≤ 9223372036854775807 := b2
  have A4 := hide a4
  have B4 := hide b4
  obtain ⟨N, hN⟩ : ∃ N, Hid (xs.length = N) := ⟨_, (rfl : _ = _)⟩
  obtain ⟨M, hM⟩ : ∃ M, Hid (ys.length = M) := ⟨_, (rfl : _ = _)⟩
  rw [hN.out] at a1 A4 ⊢
  rw [hM.out] at b1 B4 ⊢
  clear a4 b4 a2 b2
  by_cases h : N = M
  · subst h
    have hne : (((N : Int) != N)) = false := by simp
    go_enter Try.func57, Try.ntmps57
    go_wp2_with fail
    go_loopw [5] (fun i wr => ∃ k : Nat, k ≤ N ∧ i = .int .i64 k ∧ Hid (xs.take k = ys.take k ∧ Below w.heap.size w wr)) (fun i _ => N - (intOf i).toNat)
    case atStart => exact ⟨0, Nat.zero_le _, rfl, (rfl : _ = _), Below.refl _ _⟩
    case round =>
      obtain ⟨k, hk, rfl, HT⟩ := hrel
      by_cases hx : k < N
      · obtain ⟨ga, oa, rfl, hca⟩ := A4.out (by omega)
        obtain ⟨gb, ob, rfl, hcb⟩ := B4.out (by omega)
        obtain ⟨x, hx1⟩ : ∃ e, xs[k]? = some e := ⟨_, List.getElem?_eq_getElem (by rw [hN.out]; exact hx)⟩
        obtain ⟨y, hy1⟩ : ∃ e, ys[k]? = some e := ⟨_, List.getElem?_eq_getElem (by rw [hM.out]; exact hx)⟩
        obtain ⟨ad, ld, cd, c0, c1, c2, c3, HSa⟩ := (hca k x hx1).below HT.out.2
        obtain ⟨bd, me, de, e0, e1, e2, e3, HSb⟩ := (hcb k y hy1).below HT.out.2
        have d0 : S8 ga (oa + k * 4) gb (ob + k * 4) x y (.slice ad ld cd) (.slice bd me de) wr := ⟨⟨c0, c1, c2, c3⟩, e0, e1, e2, e3⟩
        have d1 : S8 ga (oa + k * 4) gb (ob + k * 4) x y (.slice ad ld cd) (.slice bd me de) wr.drew := ⟨⟨c0, c1, c2, c3⟩, e0, e1, e2, e3⟩
        have HD : Hid (∀ u, Below wr.heap.size wr u → S8 ga (oa + k * 4) gb (ob + k * 4) x y (.slice ad ld cd) (.slice bd me de) u) := fun u hu => by
          have K : ∀ g o v, wr.cell? ⟨g, o, none⟩ = some v → u.cell? ⟨g, o, none⟩ = some v := fun g o v hc => (World.cell?_of_block (w := wr) (a := ⟨g, o, none⟩) (hu.block g (cell_lt hc))).trans hc
          exact ⟨⟨K _ _ _ c0, K _ _ _ c1, K _ _ _ c2, K _ _ _ c3⟩, K _ _ _ e0, K _ _ _ e1, K _ _ _ e2, K _ _ _ e3⟩
        obtain ⟨r, hr⟩ : ∃ r, Hid (eqE x y = r) := ⟨_, (rfl : _ = _)⟩
        have HC : Hid (Calls Try.prog 69 #[.agg #[.int .i64 x.idx, .int .i64 x.term, .int .i64 x.kind, .slice ad ld cd], .agg #[.int .i64 y.idx, .int .i64 y.term, .int .i64 y.kind, .slice bd me de]] wr.drew fun en w' => en = .returned (.bool r) ∧ Hid (Below wr.heap.size wr w')) := by
          refine (eqEnt_any x y (HSa.below (Below.refl _ _).drew) (HSb.below (Below.refl _ _).drew)).mono ?_
          rintro en w2 ⟨rfl, hp⟩
          exact ⟨by rw [hr.out], (Below.refl _ _).drew.trans hp.out⟩
        have HX := hide hx1
        have HY := hide hy1
        clear hca hcb hx1 hy1 c0 c1 c2 c3 e0 e1 e2 e3 HSa HSb
        cases r
        · go_upto_region 6 with fail
          refine wp_region_noPanic ?_
          go_region_held (fun u => S8 ga (oa + k * 4) gb (ob + k * 4) x y (.slice ad ld cd) (.slice bd me de) u) (first | with_reducible exact d0 | with_reducible exact d1 | with_reducible exact d2)
            (first
              | (go_at_call 69; (with_reducible refine Calls.mono HC.out ?_); rintro e w2 ⟨rfl, H2⟩; have d2 := HD.out w2 H2.out))
          refine NoPanic.normal ?_
          go_wp2_with fail
          go_ret
          refine ⟨?_, HT.out.2.trans (H2.out.mono HT.out.2.size)⟩
          suffices hne : res = false by rw [hne]; rfl
          rw [← hres.out, decide_eq_false_iff_not]
          intro e
          subst e
          have e := HX.out.symm.trans HY.out
          simp only [Option.some.injEq] at e
          have := hr.out
          rw [(eqE_iff x y).2 e] at this
          cases this
        · go_upto_region 6 with fail
          refine wp_region_noPanic ?_
          go_region_held (fun u => S8 ga (oa + k * 4) gb (ob + k * 4) x y (.slice ad ld cd) (.slice bd me de) u) (first | with_reducible exact d0 | with_reducible exact d1 | with_reducible exact d2)
            (first
              | (go_at_call 69; (with_reducible refine Calls.mono HC.out ?_); rintro e w2 ⟨rfl, H2⟩; have d2 := HD.out w2 H2.out))
          refine NoPanic.normal ?_
          go_wp2_with fail
          go_roundw
          case rel =>
            refine ⟨k + 1, by omega, rfl, ?_, HT.out.2.trans (H2.out.mono HT.out.2.size)⟩
            rw [List.take_add_one, List.take_add_one, HX.out, HY.out, HT.out.1, (eqE_iff x y).1 hr.out]
          case measure => simp [intOf]; omega
      · have hlt' : ¬ (k : Int) < (N : Int) := by omega
        go_wp2_with fail
        go_ret
        refine ⟨?_, HT.out.2⟩
        suffices heq : res = true by rw [heq]; rfl
        rw [← hres.out, decide_eq_true_iff]
        have h1 := HT.out.1
        rw [List.take_of_length_le (by rw [hN.out]; omega), List.take_of_length_le (by rw [hM.out]; omega)] at h1
        exact h1
  · have hne : (((N : Int) != M)) = true := by simp; omega
    go_enter Try.func57, Try.ntmps57
    go_wp2_with fail
    go_ret
    refine ⟨?_, Below.refl _ _⟩
    suffices hne : res = false by rw [hne]; rfl
    rw [← hres.out, decide_eq_false_iff_not]
    intro e
    subst e
    exact absurd (hN.out.symm.trans hM.out) h

end Go.Proofs.Ytgknpbgepgmmmaa.Cm
namespace Go.Proofs.Ytgknpbgepgmmmaa.Cm
open Go.RowKit Bn Kp

set_option maxRecDepth 4000 in
/-- The first bytes of a slice. -/
theorem first100_any {w : World} {v : Value} {bs : List UInt8} (h : Sl w v bs) (hl : bs.length ≤ 9223372036854775807) :
    Calls Try.prog 14 #[v, .int .i64 100] w fun e w' => ∃ v', e = .returned v' ∧ w' = w ∧ Hid (Sl w v' (bs.take 100)) := by
  obtain ⟨ao, cap, rfl, h1, h2⟩ := h.shape
  by_cases hx : 100 < bs.length
  · have hI : (100 : Int) < ((bs.length : Nat) : Int) := by omega
    have hT := hide (h.take 100 (by omega))
    obtain ⟨N, hN⟩ : ∃ N, Hid (bs.length = N) := ⟨_, (rfl : _ = _)⟩
    rw [hN.out] at hI h1 ⊢
    have hc : (100 : Int) ≤ (cap : Int) := by omega
    clear hx h hl
    go_enter Try.func14, Try.ntmps14
    go_wp2_with fail
    go_ret
    exact ⟨_, rfl, rfl, hT⟩
  · have hI : ¬ (100 : Int) < ((bs.length : Nat) : Int) := by omega
    have hT : Hid (Sl w (.slice ao bs.length cap) (bs.take 100)) := by
      have e : bs.take 100 = bs := List.take_of_length_le (by omega)
      show Sl _ _ _
      rw [e]; exact h
    obtain ⟨N, hN⟩ : ∃ N, Hid (bs.length = N) := ⟨_, (rfl : _ = _)⟩
    rw [hN.out] at hI hT ⊢
    clear hx h hl
    go_enter Try.func14, Try.ntmps14
    go_wp2_with fail
    go_ret
    exact ⟨_, rfl, rfl, hT⟩


theorem es_take {w : World} {ao : Option Addr} {l c : Nat} {es : List Ent} (h : Es w (.slice ao l c) es) (k : Nat) (hk : k ≤ l) : Es w (.slice ao k c) (es.take k) := by
  obtain ⟨ao', c', e, h1, h2, h4⟩ := h
  simp only [Value.slice.injEq] at e
  obtain ⟨rfl, rfl, rfl⟩ := e
  have hl : (es.take k).length = k := by rw [List.length_take]; omega
  refine ⟨ao, c, by rw [hl], by omega, h2, fun hp => ?_⟩
  rw [hl] at hp
  obtain ⟨g, off, ha, hc⟩ := h4 (by omega)
  refine ⟨g, off, ha, fun j u hj => hc j u ?_⟩
  rw [List.getElem?_take] at hj
  split at hj
  · exact hj
  · simp at hj

end Go.Proofs.Ytgknpbgepgmmmaa.Cm
namespace Go.Proofs.Ytgknpbgepgmmmaa.Cm
open Go.RowKit Bn Kp

theorem cellsE_at : ∀ (es : List Ent) (us : List Value) (j : Nat) (e : Ent) (u : Value), es[j]? = some e → us[j]? = some u → (cellsE es us)[j * 4 + 0]? = some (.int .i64 e.idx) ∧ (cellsE es us)[j * 4 + 1]? = some (.int .i64 e.term) ∧ (cellsE es us)[j * 4 + 2]? = some (.int .i64 e.kind) ∧ (cellsE es us)[j * 4 + 3]? = some u
  | [], _, _, _, _, h, _ => by simp at h
  | _ :: _, [], _, _, _, _, h => by simp at h
  | x :: es, y :: us, 0, e, u, h1, h2 => by
    simp only [List.getElem?_cons_zero, Option.some.injEq] at h1 h2
    subst h1 h2
    simp [cellsE]
  | x :: es, y :: us, j + 1, e, u, h1, h2 => by
    have h := cellsE_at es us j e u (by simpa using h1) (by simpa using h2)
    have e0 : cellsE (x :: es) (y :: us) = [.int .i64 x.idx, .int .i64 x.term, .int .i64 x.kind, y] ++ cellsE es us := by simp [cellsE]
    have K : ∀ i, (cellsE (x :: es) (y :: us))[(j + 1) * 4 + i]? = (cellsE es us)[j * 4 + i]? := fun i => by
      rw [e0, List.getElem?_append_right (by simp; omega)]
      congr 1
      simp
      omega
    exact ⟨(K 0).trans h.1, (K 1).trans h.2.1, (K 2).trans h.2.2.1, (K 3).trans h.2.2.2⟩
theorem Es.of_row {W : World} {b : Nat} {v : Value} {es : List Ent} {us : List Value} (h2 : W.ownsRow b 90 4 v es.length (cellsE es us)) (h3 : ∀ (j : Nat) (e : Ent), es[j]? = some e → ∃ u, us[j]? = some u ∧ Sl W u e.data) : Es W v es := by
  rcases h2.2 with ⟨rfl, h0⟩ | ⟨g, cap, cur, rfl, _, hg, hn, hc, hs, ht⟩
  · exact ⟨none, 0, by rw [h0], by omega, by simp [maxLen], fun hp => by omega⟩
  · refine ⟨_, cap, rfl, hn, hc, fun _ => ⟨g, 0, rfl, fun j e hj => ?_⟩⟩
    obtain ⟨u, hu, hs2⟩ := h3 j e hj
    obtain ⟨ao, c, rfl, _, _⟩ := hs2.shape
    obtain ⟨k0, k1, k2, k3⟩ := cellsE_at es us j e _ hj hu
    have hjl : j < es.length := (List.getElem?_eq_some_iff.1 hj).1
    have K : ∀ i x, i < 4 → (cellsE es us)[j * 4 + i]? = some x → W.cell? ⟨g, 0 + j * 4 + i, none⟩ = some x := fun i x hi hx => by
      rw [cell_of_row W g _ _ 90 (0, 0) hg]
      rw [← ht, List.getElem?_take] at hx
      split at hx
      · rw [Nat.zero_add, ← Array.getElem?_toList]
        exact hx
      · omega
    exact ⟨ao, _, c, K 0 _ (by omega) k0, K 1 _ (by omega) k1, K 2 _ (by omega) k2, K 3 _ (by omega) k3, hs2⟩
theorem Es.of_er {W : World} {b : Nat} {v : Value} {es : List Ent} (h : Er b W v es) : Es W v es := by
  obtain ⟨us, _, h2, h3⟩ := h
  refine Es.of_row h2 fun j e hj => ?_
  obtain ⟨u, h4, h5⟩ := h3 j e hj
  exact ⟨u, h4, Sl.of_own h5⟩
theorem es_caps {w : World} {ao : Option Addr} {l c : Nat} {es : List Ent} (h : Es w (.slice ao l c) es) : l = es.length ∧ l ≤ c ∧ c ≤ maxLen := by
  obtain ⟨_, _, e, h1, h2, _⟩ := h
  simp only [Value.slice.injEq] at e
  obtain ⟨rfl, rfl, rfl⟩ := e
  exact ⟨rfl, h1, h2⟩

/-- An entry whose data is cut to a hundred bytes. -/
def cutE (e : Ent) : Ent := ⟨e.idx, e.term, e.kind, e.data.take 100⟩
/-- The message that is left: eight entries, nine members, a hundred bytes. -/
def cutM (m : Mg) : Mg := ⟨m.kind, m.frm, m.dst, m.term, m.idx, m.lterm, m.commit, (m.ents.take 8).map cutE, m.ok, m.hint, m.conf.take 9, m.data.take 100, m.off, m.size, m.ctx⟩
/-- The rows of a message, as they are read. -/
structure MgV (w : World) (ae : Option Addr) (le ce : Nat) (ac : Option Addr) (lc cc : Nat) (ad : Option Addr) (ld cd : Nat) (m : Mg) : Prop where
  ents : Es w (.slice ae le ce) m.ents
  conf : IsR w (.slice ac lc cc) (cI m.conf)
  data : Sl w (.slice ad ld cd) m.data
theorem MgV.below {w w' : World} {ae ac ad : Option Addr} {le ce lc cc ld cd : Nat} {m : Mg} (h : MgV w ae le ce ac lc cc ad ld cd m) (hb : Below w.heap.size w w') : MgV w' ae le ce ac lc cc ad ld cd m := ⟨h.ents.below hb, h.conf.below hb, h.data.below hb⟩
/-- A row of entries of one's own whose data is read in w. -/
def Ec (b : Nat) (w W : World) (v : Value) (es : List Ent) : Prop :=
  ∃ us : List Value, us.length = es.length ∧ W.ownsRow b 90 4 v es.length (cellsE es us) ∧ ∀ (j : Nat) (e : Ent), es[j]? = some e → ∃ u, us[j]? = some u ∧ Sl w u e.data
theorem Ec.nil (b : Nat) (w W : World) : Ec b w W (.slice none 0 0) [] := ⟨[], rfl, World.ownsRow_nil _ _ _ _, fun j e h => by simp at h⟩
theorem Ec.es {b : Nat} {w W : World} {v : Value} {es : List Ent} (h : Ec b w W v es) (hb : Below w.heap.size w W) : Es W v es := by
  obtain ⟨us, _, h2, h3⟩ := h
  refine Es.of_row h2 fun j e hj => ?_
  obtain ⟨u, h4, h5⟩ := h3 j e hj
  exact ⟨u, h4, h5.below hb⟩
theorem Ec.snoc {b : Nat} {w W' : World} {v' u : Value} {es : List Ent} {us : List Value} {e : Ent} (h1 : us.length = es.length) (h3 : ∀ (j : Nat) (e : Ent), es[j]? = some e → ∃ u, us[j]? = some u ∧ Sl w u e.data)
    (hu : Sl w u e.data) (hO : W'.ownsRow b 90 4 v' (es.length + 1) (cellsE es us ++ [.int .i64 e.idx, .int .i64 e.term, .int .i64 e.kind, u])) : Ec b w W' v' (es ++ [e]) := by
  refine ⟨us ++ [u], by simp [h1], by rw [cellsE_snoc es us e u h1, List.length_append]; exact hO, fun j x hj => ?_⟩
  by_cases hlt : j < es.length
  · rw [List.getElem?_append_left hlt] at hj
    obtain ⟨y, h4, h5⟩ := h3 j x hj
    exact ⟨y, by rw [List.getElem?_append_left (by omega)]; exact h4, h5⟩
  · rw [List.getElem?_append_right (by omega)] at hj
    have hj0 : j - es.length = 0 := by
      by_cases h0 : j - es.length = 0
      · exact h0
      · rw [List.getElem?_eq_none (by simp; omega)] at hj; simp at hj
    rw [hj0] at hj
    simp at hj
    subst hj
    exact ⟨u, by rw [List.getElem?_append_right (by omega), h1, hj0]; rfl, hu⟩
theorem Ec.low {b b' : Nat} {w W : World} {v : Value} {es : List Ent} (h : Ec b w W v es) (hb : b' ≤ b) : Ec b' w W v es := by
  obtain ⟨us, h1, h2, h3⟩ := h
  exact ⟨us, h1, own_low h2 hb, h3⟩
theorem Ec.off {b : Nat} {w W W' : World} {v : Value} {es : List Ent} (h : Ec b w W v es) (hk : ∀ k, b ≤ k → W'.heap[k]? = W.heap[k]?) : Ec b w W' v es := by
  obtain ⟨us, h1, h2, h3⟩ := h
  refine ⟨us, h1, ⟨h2.1, ?_⟩, h3⟩
  rcases h2.2 with hn' | ⟨g', cap', cur, e1, hb', hgg, rest⟩
  · exact .inl hn'
  · exact .inr ⟨g', cap', cur, e1, hb', (hk g' hb').trans hgg, rest⟩

set_option maxRecDepth 8000 in
set_option maxHeartbeats 8000000 in
theorem cutMsg_any {w0 w : World} (hw0 : Below w0.heap.size w0 w) (m : Mg) {ae ac ad : Option Addr} {le ce lc cc ld cd : Nat} (h : MgV w0 ae le ce ac lc cc ad ld cd m) (hle : ∀ e ∈ m.ents, e.data.length ≤ 9223372036854775807) (hld : m.data.length ≤ 9223372036854775807) :
    Calls Try.prog 22 #[.agg #[.int .i64 m.kind, .int .i64 m.frm, .int .i64 m.dst, .int .i64 m.term, .int .i64 m.idx, .int .i64 m.lterm, .int .i64 m.commit, .slice ae le ce, .bool m.ok, .int .i64 m.hint, .slice ac lc cc, .slice ad ld cd, .int .i64 m.off, .int .i64 m.size, .int .i64 m.ctx]] w fun e w' => ∃ be me de bc mc dc bd md dd, e = .returned (.agg #[.int .i64 m.kind, .int .i64 m.frm, .int .i64 m.dst, .int .i64 m.term, .int .i64 m.idx, .int .i64 m.lterm, .int .i64 m.commit, .slice be me de, .bool m.ok, .int .i64 m.hint, .slice bc mc dc, .slice bd md dd, .int .i64 m.off, .int .i64 m.size, .int .i64 m.ctx]) ∧ Hid (Ec w.heap.size w0 w' (.slice be me de) (cutM m).ents ∧ IsR w0 (.slice bc mc dc) (cI (cutM m).conf) ∧ Sl w0 (.slice bd md dd) (cutM m).data ∧ Below w.heap.size w w') := by
  have HW0 := hide hw0
  obtain ⟨W, hW⟩ : ∃ W, Hid (W = (w.alloc (.cells #[.int .i64 m.kind, .int .i64 m.frm, .int .i64 m.dst, .int .i64 m.term, .int .i64 m.idx, .int .i64 m.lterm, .int .i64 m.commit, .slice ae le ce, .bool m.ok, .int .i64 m.hint, .slice ac lc cc, .slice ad ld cd, .int .i64 m.off, .int .i64 m.size, .int .i64 m.ctx] 54)).alloc (.cells #[.int .i64 0, .int .i64 0, .int .i64 0, .int .i64 0, .int .i64 0, .int .i64 0, .int .i64 0, .slice none 0 0, .bool false, .int .i64 0, .slice none 0 0, .slice none 0 0, .int .i64 0, .int .i64 0, .int .i64 0] 54)) := ⟨_, (rfl : _ = _)⟩
  have HB : Hid (Below w.heap.size w W) := by rw [hW.out]; exact ((Below.refl _ w).alloc (Nat.le_refl _) _).alloc (by simp) _
  have h1 : W.heap[w.heap.size]? = some (.cells #[.int .i64 m.kind, .int .i64 m.frm, .int .i64 m.dst, .int .i64 m.term, .int .i64 m.idx, .int .i64 m.lterm, .int .i64 m.commit, .slice ae le ce, .bool m.ok, .int .i64 m.hint, .slice ac lc cc, .slice ad ld cd, .int .i64 m.off, .int .i64 m.size, .int .i64 m.ctx] 54 (0, 0)) := by
    rw [hW.out]
    exact (((Below.refl _ _).alloc (Nat.le_refl _) _).block w.heap.size (by simp)).trans (heap_alloc_new _ _)
  have h2 : W.heap[w.heap.size + 1]? = some (.cells #[.int .i64 0, .int .i64 0, .int .i64 0, .int .i64 0, .int .i64 0, .int .i64 0, .int .i64 0, .slice none 0 0, .bool false, .int .i64 0, .slice none 0 0, .slice none 0 0, .int .i64 0, .int .i64 0, .int .i64 0] 54 (0, 0)) := by rw [hW.out]; exact heap_alloc2_new _ _ _
  obtain ⟨x0, x1, x2, x3, x4, x5, x6, x7, x8, x9, x10, x11, x12, x13, x14⟩ := cells_Msg h1
  have fx := fun i => frozen_of_row W _ i _ _ h1
  have H1 := hide h1
  have H2 := hide h2
  obtain ⟨el, l1, l2⟩ := es_caps h.ents
  have EL := hide el
  have HE := hide h.ents
  have HCN := hide h.conf
  have HDT := hide h.data
  have HLE := hide hle
  have HLD := hide hld
  have l2' : ce ≤ 9223372036854775807 := l2
  clear h1 h2 h hle hld el l2 hw0
  go_enter Try.func22, Try.ntmps22
  go_upto_region 1 with fail
  rw [← hW.out]
  go_upto_if 9 with fail
  go_cut [] from 9 to 14 (fun wc => ∃ nr, wc.heap[w.heap.size]? = some (.cells #[.int .i64 m.kind, .int .i64 m.frm, .int .i64 m.dst, .int .i64 m.term, .int .i64 m.idx, .int .i64 m.lterm, .int .i64 m.commit, .slice ae nr ce, .bool m.ok, .int .i64 m.hint, .slice ac lc cc, .slice ad ld cd, .int .i64 m.off, .int .i64 m.size, .int .i64 m.ctx] 54 (0, 0)) ∧ wc.heap[w.heap.size + 1]? = some (.cells #[.int .i64 0, .int .i64 0, .int .i64 0, .int .i64 0, .int .i64 0, .int .i64 0, .int .i64 0, .slice none 0 0, .bool false, .int .i64 0, .slice none 0 0, .slice none 0 0, .int .i64 0, .int .i64 0, .int .i64 0] 54 (0, 0)) ∧ Hid (Below w.heap.size w wc) ∧ Hid (Es w0 (.slice ae nr ce) (m.ents.take 8)))
  case first =>
    by_cases hl : 8 < le
    · have hlI : (8 : Int) < (le : Int) := by omega
      have hcI : (8 : Int) ≤ (ce : Int) := by omega
      have hq : Hid ((W.setCell ⟨w.heap.size, 7, none⟩ (.slice ae 8 ce)).heap[w.heap.size]? = some (.cells #[.int .i64 m.kind, .int .i64 m.frm, .int .i64 m.dst, .int .i64 m.term, .int .i64 m.idx, .int .i64 m.lterm, .int .i64 m.commit, .slice ae 8 ce, .bool m.ok, .int .i64 m.hint, .slice ac lc cc, .slice ad ld cd, .int .i64 m.off, .int .i64 m.size, .int .i64 m.ctx] 54 (0, 0)) ∧ (W.setCell ⟨w.heap.size, 7, none⟩ (.slice ae 8 ce)).heap[w.heap.size + 1]? = some (.cells #[.int .i64 0, .int .i64 0, .int .i64 0, .int .i64 0, .int .i64 0, .int .i64 0, .int .i64 0, .slice none 0 0, .bool false, .int .i64 0, .slice none 0 0, .slice none 0 0, .int .i64 0, .int .i64 0, .int .i64 0] 54 (0, 0)) ∧ Hid (Below w.heap.size w (W.setCell ⟨w.heap.size, 7, none⟩ (.slice ae 8 ce))) ∧ Hid (Es w0 (.slice ae 8 ce) (m.ents.take 8))) :=
        ⟨heap_setCell_same W _ 7 _ 54 _ H1.out, (Below.heap_setCell _ _ _ _ (show w.heap.size + 1 ≠ w.heap.size by omega)).trans H2.out, HB.out.setCell (p := ⟨w.heap.size, 7, none⟩) (Nat.le_refl _) _, es_take HE.out 8 (by omega)⟩
      clear hl
      go_wp2_with fail
      go_meet
      exact ⟨8, hq.out⟩
    · have hlI : ¬ (8 : Int) < (le : Int) := by omega
      have hq : Hid (Es w0 (.slice ae le ce) (m.ents.take 8)) := by
        have h9 := EL.out
        rw [List.take_of_length_le (by omega)]
        exact HE.out
      clear hl
      go_wp2_with fail
      go_meet
      exact ⟨le, H1.out, H2.out, HB, hq⟩
  case rest =>
    obtain ⟨nr, h1, h2, HB1, HN⟩ := hcut
    clear x0 x1 x2 x3 x4 x5 x6 x7 x8 x9 x10 x11 x12 x13 x14 fx H1 H2 HE EL
    obtain ⟨w1, hw1⟩ : ∃ x, x = wc := ⟨_, rfl⟩
    subst hw1
    have H1 := hide h1
    have H2 := hide h2
    obtain ⟨ts, hts⟩ : ∃ ts, Hid (m.ents.take 8 = ts) := ⟨_, (rfl : _ = _)⟩
    rw [hts.out] at HN
    obtain ⟨en, n1, n2⟩ := es_caps HN.out
    have EN := hide en
    have n2' : ce ≤ 9223372036854775807 := n2
    have hn8 : nr ≤ 8 := by
      have h9 := EN.out
      have h8 : ts.length ≤ 8 := by rw [← hts.out]; simp only [List.length_take]; omega
      omega
    have HLT2 : Hid (∀ e ∈ ts, e.data.length ≤ 9223372036854775807) := fun t ht => HLE.out t (by rw [← hts.out] at ht; exact List.mem_of_mem_take ht)
    have HCU : Hid ((cutM m).ents = ts.map cutE) := by show _ = _; rw [cutM, hts.out]
    obtain ⟨_, _, ee, -, -, hrow⟩ := HN.out
    simp only [Value.slice.injEq] at ee
    obtain ⟨rfl, -, rfl⟩ := ee
    have HROW := hide hrow
    have hs1 : w.heap.size + 2 ≤ w1.heap.size := by have := lt_of_block h2; omega
    clear h1 h2 en n2 hrow HLE hts HN
    go_wp2_with fail
    go_loopw [3, 4] (fun lv i wr => ∃ k : Nat, k ≤ nr ∧ i = .int .i64 k ∧ Hid (Ec (w.heap.size + 2) w0 wr lv ((ts.take k).map cutE) ∧ Below (w.heap.size + 2) w1 wr)) (fun _ i _ => nr - (intOf i).toNat)
    case atStart => exact ⟨0, Nat.zero_le _, rfl, Ec.nil _ _ _, Below.refl _ _⟩
    case round =>
      obtain ⟨k, hk, rfl, HO⟩ := hrel
      have hb1 := (HO.out.2.block w.heap.size (by omega)).trans H1.out
      obtain ⟨x0, x1, x2, x3, x4, x5, x6, x7, x8, x9, x10, x11, x12, x13, x14⟩ := cells_Msg hb1
      have fx := fun i => frozen_of_row wr _ i _ _ hb1
      have HQ1 := hide hb1
      have HQ2 := hide ((HO.out.2.block (w.heap.size + 1) (by omega)).trans H2.out)
      have hbw : Hid (Below w.heap.size w wr) := HB1.out.trans (HO.out.2.mono (by omega))
      have hsz := HO.out.2.size
      clear hb1
      by_cases hx : k < nr
      · obtain ⟨g, off, rfl, hc⟩ := HROW.out (by have := EN.out; omega)
        obtain ⟨t, ht⟩ : ∃ e, ts[k]? = some e := ⟨_, List.getElem?_eq_getElem (by have := EN.out; omega)⟩
        obtain ⟨td, tl, tc, c0, c1, c2, c3, hsd⟩ := hc k t ht
        have hb0 := HW0.out.trans (hbw.out.mono HW0.out.size)
        have K : ∀ o u, w0.cell? ⟨g, o, none⟩ = some u → wr.cell? ⟨g, o, none⟩ = some u := fun o u hc => (World.cell?_of_block (w := w0) (a := ⟨g, o, none⟩) (hb0.block g (cell_lt hc))).trans hc
        replace c0 := K _ _ c0
        replace c1 := K _ _ c1
        replace c2 := K _ _ c2
        replace c3 := K _ _ c3
        have HSD := hide hsd
        have HT := hide ht
        clear hc ht hsd K hb0
        obtain ⟨us, hu1, hu2, hu3⟩ := HO.out.1
        have hek : ((ts.take k).map cutE).length = k := by have := EN.out; simp only [List.length_map, List.length_take]; omega
        obtain ⟨es, hes⟩ : ∃ es, Hid ((ts.take k).map cutE = es) := ⟨_, (rfl : _ = _)⟩
        rw [hes.out] at hu1 hu2 hu3 hek
        rw [hek] at hu1 hu2
        obtain ⟨ao, L, cap, rfl⟩ := Kp.own_slice hu2
        have hL : L = k := by
          rcases Kp.own_shape hu2 with ⟨e, h0⟩ | ⟨g, c, e, _⟩
          · simp only [Value.slice.injEq] at e; omega
          · simp only [Value.slice.injEq] at e; exact e.2.1
        subst hL
        obtain ⟨s1, s2⟩ := sl_caps HSD.out
        have HU1 := hide (hu1.trans hek.symm)
        have HU2 := hide hu2
        have HU3 := hide hu3
        have HEK := hide hek
        obtain ⟨nd, hnd⟩ : ∃ n, Hid (min tl 100 = n) := ⟨_, (rfl : _ = _)⟩
        have HD2 : Hid (Sl w0 (.slice td nd tc) (t.data.take 100)) := by rw [← hnd.out]; exact sl_take_min HSD.out
        clear hu1 hu2 hu3 hek
        go_upto_region 8 with fail
        obtain ⟨W3, hW3⟩ : ∃ x, Hid (x = wr.alloc (.cells #[.int .i64 t.idx, .int .i64 t.term, .int .i64 t.kind, .slice td tl tc] 90)) := ⟨_, (rfl : _ = _)⟩
        rw [← hW3.out]
        have hb3 : Hid (Below wr.heap.size wr W3) := by rw [hW3.out]; exact (Below.refl _ _).alloc (Nat.le_refl _) _
        have h3 : W3.heap[wr.heap.size]? = some (.cells #[.int .i64 t.idx, .int .i64 t.term, .int .i64 t.kind, .slice td tl tc] 90 (0, 0)) := by rw [hW3.out]; exact heap_alloc_new _ _
        obtain ⟨y0, y1, y2, y3⟩ := cells_E h3
        have fy := fun i => frozen_of_row W3 _ i _ _ h3
        have H3 := hide h3
        have HSH := hide (short_v td tl tc W3 s1 s2)
        rw [hnd.out] at HSH
        clear h3 c0 c1 c2 c3 hnd HSD x0 x1 x2 x3 x4 x5 x6 x7 x8 x9 x10 x11 x12 x13 x14 fx
        go_upto_region 9 with (refine Calls.mono HSH.out ?_; rintro e w5 ⟨rfl, hw5⟩; have hw5' := hw5.symm; subst hw5'; clear hw5)
        obtain ⟨W4, hW4⟩ : ∃ x, Hid (x = W3.setCell ⟨wr.heap.size, 3, none⟩ (.slice td nd tc)) := ⟨_, (rfl : _ = _)⟩
        rw [← hW4.out]
        have hb4 : Hid (Below wr.heap.size wr W4) := by rw [hW4.out]; exact hb3.out.setCell (p := ⟨wr.heap.size, 3, none⟩) (Nat.le_refl _) _
        have h4 : W4.heap[wr.heap.size]? = some (.cells #[.int .i64 t.idx, .int .i64 t.term, .int .i64 t.kind, .slice td nd tc] 90 (0, 0)) := by rw [hW4.out]; exact heap_setCell_same W3 _ 3 _ 90 _ H3.out
        have hO4 := own_below4 HU2.out hb4.out
        have hpp := push_row 51 90 4 48 _ Try.underlying51 Try.info90 rfl (by decide) (by decide) hO4 [.int .i64 t.idx, .int .i64 t.term, .int .i64 t.kind, .slice td nd tc] rfl (four_one _ _ _ _ _ _) (by omega) (by have := hb4.out.size; omega)
        obtain ⟨g6, cap6, w6, hr, HO6, HG6⟩ := hpp
        have hb6 := hide (HO.out.2.trans ((hb4.out.mono (show w.heap.size + 2 ≤ wr.heap.size by omega)).trans (grown_below_row HG6.out hO4 (by have := hb4.out.size; omega))))
        clear y0 y1 y2 y3 fy HSH hO4
        obtain ⟨y0, y1, y2, y3⟩ := cells_E h4
        clear h4
        go_wp2_with (at_builtin; refine wpList_append_run _ rfl (.tmp 30) (.tmp 32) 51 51 rfl _ _ rfl rfl (hr _) ?_)
        go_roundw
        case rel =>
          refine ⟨L + 1, by omega, rfl, ?_, hb6.out⟩
          have e : (ts.take (L + 1)).map cutE = es ++ [cutE t] := by
            rw [List.take_add_one, HT.out, ← hes.out]
            simp
          rw [e]
          refine Ec.snoc HU1.out HU3.out HD2.out ?_
          rw [HEK.out]
          exact HO6.out
        case measure => simp [intOf]; omega
      · have hlt' : ¬ (k : Int) < (nr : Int) := by omega
        have hkn : k = nr := by omega
        subst hkn
        obtain ⟨us, hu1, hu2, hu3⟩ := HO.out.1
        obtain ⟨bo, bl, bc, rfl⟩ := Kp.own_slice hu2
        clear hu1 hu2 hu3
        obtain ⟨es, hes⟩ : ∃ es, Hid ((ts.take k).map cutE = es) := ⟨_, (rfl : _ = _)⟩
        have HES : Hid ((cutM m).ents = es) := by
          show _ = _
          rw [HCU.out, ← hes.out, List.take_of_length_le (by have := EN.out; omega)]
        rw [hes.out] at HO
        obtain ⟨cl, k1, k2⟩ := isR_caps HCN.out
        rw [cI_len] at cl
        have CL := hide cl
        have k2' : cc ≤ 9223372036854775807 := k2
        obtain ⟨W5, hW5⟩ : ∃ x, Hid (x = wr.setCell ⟨w.heap.size, 7, none⟩ (.slice bo bl bc)) := ⟨_, (rfl : _ = _)⟩
        have HB5 : Hid (Below w.heap.size w W5) := by rw [hW5.out]; exact hbw.out.setCell (p := ⟨w.heap.size, 7, none⟩) (Nat.le_refl _) _
        have h5 : W5.heap[w.heap.size]? = some (.cells #[.int .i64 m.kind, .int .i64 m.frm, .int .i64 m.dst, .int .i64 m.term, .int .i64 m.idx, .int .i64 m.lterm, .int .i64 m.commit, .slice bo bl bc, .bool m.ok, .int .i64 m.hint, .slice ac lc cc, .slice ad ld cd, .int .i64 m.off, .int .i64 m.size, .int .i64 m.ctx] 54 (0, 0)) := by rw [hW5.out]; exact heap_setCell_same wr _ 7 _ 54 _ HQ1.out
        have h6 : W5.heap[w.heap.size + 1]? = some (.cells #[.int .i64 0, .int .i64 0, .int .i64 0, .int .i64 0, .int .i64 0, .int .i64 0, .int .i64 0, .slice none 0 0, .bool false, .int .i64 0, .slice none 0 0, .slice none 0 0, .int .i64 0, .int .i64 0, .int .i64 0] 54 (0, 0)) := by rw [hW5.out]; exact (Below.heap_setCell _ _ _ _ (show w.heap.size + 1 ≠ w.heap.size by omega)).trans HQ2.out
        have HE5 : Hid (Ec (w.heap.size + 2) w0 W5 (.slice bo bl bc) es) := HO.out.1.off fun k hk => by rw [hW5.out]; exact Below.heap_setCell _ _ _ _ (show k ≠ w.heap.size by omega)
        go_upto_region 11 with fail
        rw [← hW5.out]
        clear x0 x1 x2 x3 x4 x5 x6 x7 x8 x9 x10 x11 x12 x13 x14 fx HQ1 HQ2 hbw HO cl k2
        obtain ⟨x0, x1, x2, x3, x4, x5, x6, x7, x8, x9, x10, x11, x12, x13, x14⟩ := cells_Msg h5
        have fx := fun i => frozen_of_row W5 _ i _ _ h5
        have H5 := hide h5
        have H6 := hide h6
        clear h5 h6
        go_upto_if 39 with fail
        go_cut [] from 39 to 44 (fun wc => ∃ nc, wc.heap[w.heap.size]? = some (.cells #[.int .i64 m.kind, .int .i64 m.frm, .int .i64 m.dst, .int .i64 m.term, .int .i64 m.idx, .int .i64 m.lterm, .int .i64 m.commit, .slice bo bl bc, .bool m.ok, .int .i64 m.hint, .slice ac nc cc, .slice ad ld cd, .int .i64 m.off, .int .i64 m.size, .int .i64 m.ctx] 54 (0, 0)) ∧ wc.heap[w.heap.size + 1]? = some (.cells #[.int .i64 0, .int .i64 0, .int .i64 0, .int .i64 0, .int .i64 0, .int .i64 0, .int .i64 0, .slice none 0 0, .bool false, .int .i64 0, .slice none 0 0, .slice none 0 0, .int .i64 0, .int .i64 0, .int .i64 0] 54 (0, 0)) ∧ Hid (Below w.heap.size w wc ∧ Ec (w.heap.size + 2) w0 wc (.slice bo bl bc) es ∧ IsR w0 (.slice ac nc cc) (cI (m.conf.take 9))))
        case first =>
          by_cases hl : 9 < lc
          · have hlI : (9 : Int) < (lc : Int) := by omega
            have hcI : (9 : Int) ≤ (cc : Int) := by omega
            have hq : Hid ((W5.setCell ⟨w.heap.size, 10, none⟩ (.slice ac 9 cc)).heap[w.heap.size]? = some (.cells #[.int .i64 m.kind, .int .i64 m.frm, .int .i64 m.dst, .int .i64 m.term, .int .i64 m.idx, .int .i64 m.lterm, .int .i64 m.commit, .slice bo bl bc, .bool m.ok, .int .i64 m.hint, .slice ac 9 cc, .slice ad ld cd, .int .i64 m.off, .int .i64 m.size, .int .i64 m.ctx] 54 (0, 0)) ∧ (W5.setCell ⟨w.heap.size, 10, none⟩ (.slice ac 9 cc)).heap[w.heap.size + 1]? = some (.cells #[.int .i64 0, .int .i64 0, .int .i64 0, .int .i64 0, .int .i64 0, .int .i64 0, .int .i64 0, .slice none 0 0, .bool false, .int .i64 0, .slice none 0 0, .slice none 0 0, .int .i64 0, .int .i64 0, .int .i64 0] 54 (0, 0)) ∧ Hid (Below w.heap.size w (W5.setCell ⟨w.heap.size, 10, none⟩ (.slice ac 9 cc)) ∧ Ec (w.heap.size + 2) w0 (W5.setCell ⟨w.heap.size, 10, none⟩ (.slice ac 9 cc)) (.slice bo bl bc) es ∧ IsR w0 (.slice ac 9 cc) (cI (m.conf.take 9)))) :=
              ⟨heap_setCell_same W5 _ 10 _ 54 _ H5.out, (Below.heap_setCell _ _ _ _ (show w.heap.size + 1 ≠ w.heap.size by omega)).trans H6.out, HB5.out.setCell (p := ⟨w.heap.size, 10, none⟩) (Nat.le_refl _) _, HE5.out.off fun k hk => Below.heap_setCell _ _ _ _ (show k ≠ w.heap.size by omega), isR_take HCN.out 9 (by omega)⟩
            clear hl
            go_wp2_with fail
            go_meet
            exact ⟨9, hq.out⟩
          · have hlI : ¬ (9 : Int) < (lc : Int) := by omega
            have hq : Hid (IsR w0 (.slice ac lc cc) (cI (m.conf.take 9))) := by
              have h9 := CL.out
              rw [List.take_of_length_le (by omega)]
              exact HCN.out
            clear hl
            go_wp2_with fail
            go_meet
            exact ⟨lc, H5.out, H6.out, HB5.out, HE5.out, hq.out⟩
        case rest =>
          obtain ⟨nc, h7, h8, HQ7⟩ := hcut
          clear x0 x1 x2 x3 x4 x5 x6 x7 x8 x9 x10 x11 x12 x13 x14 fx H5 H6 HB5 HE5 hW5 W5
          obtain ⟨W7, hw7⟩ : ∃ x, x = wc := ⟨_, rfl⟩
          subst hw7
          obtain ⟨x0, x1, x2, x3, x4, x5, x6, x7, x8, x9, x10, x11, x12, x13, x14⟩ := cells_Msg h7
          have fx := fun i => frozen_of_row W7 _ i _ _ h7
          obtain ⟨s1, s2⟩ := sl_caps HDT.out
          obtain ⟨nd, hnd⟩ : ∃ n, Hid (min ld 100 = n) := ⟨_, (rfl : _ = _)⟩
          have HD2 : Hid (Sl w0 (.slice ad nd cd) (m.data.take 100)) := by rw [← hnd.out]; exact sl_take_min HDT.out
          have HSH := hide (short_v ad ld cd W7 s1 s2)
          rw [hnd.out] at HSH
          have H7 := hide h7
          have H8 := hide h8
          clear h7 h8 hnd
          go_upto_region 14 with (refine Calls.mono HSH.out ?_; rintro e w5 ⟨rfl, hw5⟩; have hw5' := hw5.symm; subst hw5'; clear hw5)
          obtain ⟨W8, hW8⟩ : ∃ x, Hid (x = W7.setCell ⟨w.heap.size, 11, none⟩ (.slice ad nd cd)) := ⟨_, (rfl : _ = _)⟩
          rw [← hW8.out]
          have h9 : W8.heap[w.heap.size]? = some (.cells #[.int .i64 m.kind, .int .i64 m.frm, .int .i64 m.dst, .int .i64 m.term, .int .i64 m.idx, .int .i64 m.lterm, .int .i64 m.commit, .slice bo bl bc, .bool m.ok, .int .i64 m.hint, .slice ac nc cc, .slice ad nd cd, .int .i64 m.off, .int .i64 m.size, .int .i64 m.ctx] 54 (0, 0)) := by rw [hW8.out]; exact heap_setCell_same W7 _ 11 _ 54 _ H7.out
          have h10 : W8.heap[w.heap.size + 1]? = some (.cells #[.int .i64 0, .int .i64 0, .int .i64 0, .int .i64 0, .int .i64 0, .int .i64 0, .int .i64 0, .slice none 0 0, .bool false, .int .i64 0, .slice none 0 0, .slice none 0 0, .int .i64 0, .int .i64 0, .int .i64 0] 54 (0, 0)) := by rw [hW8.out]; exact (Below.heap_setCell _ _ _ _ (show w.heap.size + 1 ≠ w.heap.size by omega)).trans H8.out
          have HB8 : Hid (Below w.heap.size w W8) := by rw [hW8.out]; exact HQ7.out.1.setCell (p := ⟨w.heap.size, 11, none⟩) (Nat.le_refl _) _
          have HE8 : Hid (Ec (w.heap.size + 2) w0 W8 (.slice bo bl bc) es) := HQ7.out.2.1.off fun k hk => by rw [hW8.out]; exact Below.heap_setCell _ _ _ _ (show k ≠ w.heap.size by omega)
          clear x0 x1 x2 x3 x4 x5 x6 x7 x8 x9 x10 x11 x12 x13 x14 fx HSH
          obtain ⟨x0, x1, x2, x3, x4, x5, x6, x7, x8, x9, x10, x11, x12, x13, x14⟩ := cells_Msg h9
          obtain ⟨z0, z1, z2, z3, z4, z5, z6, z7, z8, z9, z10, z11, z12, z13, z14⟩ := cells_Msg h10
          have fz := fun i => frozen_of_row W8 _ i _ _ h10
          have H10 := hide h10
          clear h9 h10
          go_wp2_with fail
          refine bodyPost_ret (results_cell_row rfl _ _ (w.heap.size + 1) 54 _ (0, 0) _ rfl (set_Msg (b := w.heap.size) _ _ _ _ _ _ _ _ _ _ _ _ _ _ _ H10.out (by omega)).1 Try.underlying54 rfl sz_Msg) rfl ?_
          have hbe := fun y0 y1 y2 y3 y4 y5 y6 y7 y8 y9 y10 y11 y12 y13 y14 => (set_Msg (b := w.heap.size + 1) y0 y1 y2 y3 y4 y5 y6 y7 y8 y9 y10 y11 y12 y13 y14 H10.out (Nat.le_refl _)).2
          have hke : ∀ (y0 y1 y2 y3 y4 y5 y6 y7 y8 y9 y10 y11 y12 y13 y14 : Value) (k : Nat), w.heap.size + 2 ≤ k → (((((((((((((((W8.setCell ⟨w.heap.size + 1, 0, none⟩ y0).setCell ⟨w.heap.size + 1, 1, none⟩ y1).setCell ⟨w.heap.size + 1, 2, none⟩ y2).setCell ⟨w.heap.size + 1, 3, none⟩ y3).setCell ⟨w.heap.size + 1, 4, none⟩ y4).setCell ⟨w.heap.size + 1, 5, none⟩ y5).setCell ⟨w.heap.size + 1, 6, none⟩ y6).setCell ⟨w.heap.size + 1, 7, none⟩ y7).setCell ⟨w.heap.size + 1, 8, none⟩ y8).setCell ⟨w.heap.size + 1, 9, none⟩ y9).setCell ⟨w.heap.size + 1, 10, none⟩ y10).setCell ⟨w.heap.size + 1, 11, none⟩ y11).setCell ⟨w.heap.size + 1, 12, none⟩ y12).setCell ⟨w.heap.size + 1, 13, none⟩ y13).setCell ⟨w.heap.size + 1, 14, none⟩ y14).heap[k]? = W8.heap[k]? := fun y0 y1 y2 y3 y4 y5 y6 y7 y8 y9 y10 y11 y12 y13 y14 k hk => by
            have hk' : k ≠ w.heap.size + 1 := by omega
            rw [Below.heap_setCell _ _ _ _ hk', Below.heap_setCell _ _ _ _ hk', Below.heap_setCell _ _ _ _ hk', Below.heap_setCell _ _ _ _ hk', Below.heap_setCell _ _ _ _ hk', Below.heap_setCell _ _ _ _ hk', Below.heap_setCell _ _ _ _ hk', Below.heap_setCell _ _ _ _ hk', Below.heap_setCell _ _ _ _ hk', Below.heap_setCell _ _ _ _ hk', Below.heap_setCell _ _ _ _ hk', Below.heap_setCell _ _ _ _ hk', Below.heap_setCell _ _ _ _ hk', Below.heap_setCell _ _ _ _ hk', Below.heap_setCell _ _ _ _ hk']
          have hB := HB8.out.trans ((hbe (.int .i64 m.kind) (.int .i64 m.frm) (.int .i64 m.dst) (.int .i64 m.term) (.int .i64 m.idx) (.int .i64 m.lterm) (.int .i64 m.commit) (.slice bo bl bc) (.bool m.ok) (.int .i64 m.hint) (.slice ac nc cc) (.slice ad nd cd) (.int .i64 m.off) (.int .i64 m.size) (.int .i64 m.ctx)).mono (by omega))
          refine ⟨bo, bl, bc, ac, nc, cc, ad, nd, cd, rfl, ?_, HQ7.out.2.2, HD2.out, hB⟩
          rw [HES.out]
          exact (HE8.out.off (hke (.int .i64 m.kind) (.int .i64 m.frm) (.int .i64 m.dst) (.int .i64 m.term) (.int .i64 m.idx) (.int .i64 m.lterm) (.int .i64 m.commit) (.slice bo bl bc) (.bool m.ok) (.int .i64 m.hint) (.slice ac nc cc) (.slice ad nd cd) (.int .i64 m.off) (.int .i64 m.size) (.int .i64 m.ctx))).low (by omega)
end Go.Proofs.Ytgknpbgepgmmmaa.Cm
namespace Go.Proofs.Ytgknpbgepgmmmaa.Cm
open Go.RowKit Bn Kp

/-- Two messages that are the same. -/
def eqM (s t : Mg) : Bool := decide (s.kind = t.kind ∧ s.frm = t.frm ∧ s.dst = t.dst ∧ s.term = t.term ∧ s.idx = t.idx ∧ s.lterm = t.lterm ∧ s.commit = t.commit ∧ s.ents = t.ents ∧ s.ok = t.ok ∧ s.hint = t.hint ∧ s.conf = t.conf ∧ s.data = t.data ∧ s.off = t.off ∧ s.size = t.size ∧ s.ctx = t.ctx)
theorem eqM_iff (s t : Mg) : eqM s t = true ↔ s = t := by
  cases s; cases t; simp [eqM]

end Go.Proofs.Ytgknpbgepgmmmaa.Cm
namespace Go.Proofs.Ytgknpbgepgmmmaa.Cm
open Go.RowKit Bn Kp

theorem esz_le (D : Nat) : ∀ es : List Ent, (∀ e ∈ es, e.data.length ≤ D) → esz es ≤ es.length * (40 + D)
  | [], _ => by simp [esz]
  | e :: es, h => by
    have h1 := esz_le D es (fun x hx => h x (List.mem_cons_of_mem _ hx))
    have h2 := h e (List.mem_cons_self ..)
    have e1 : esz (e :: es) = (40 + e.data.length) + esz es := by simp [esz]
    rw [e1, List.length_cons, Nat.succ_mul]
    omega
theorem encE_ge (e : Ent) : 1 + e.data.length ≤ (encE e).length := by
  have h1 := enc_pos e.idx
  simp only [encE, encT, List.length_append]
  omega
theorem esz_ge : ∀ es : List Ent, esz es ≤ 40 * (es.flatMap encE).length
  | [] => by simp [esz]
  | e :: es => by
    have h1 := esz_ge es
    have h2 := encE_ge e
    have e1 : esz (e :: es) = (40 + e.data.length) + esz es := by simp [esz]
    rw [e1, List.flatMap_cons, List.length_append]
    omega
theorem mem_flat_le : ∀ (es : List Ent) (e : Ent), e ∈ es → e.data.length ≤ (es.flatMap encE).length
  | x :: es, e, h => by
    rw [List.flatMap_cons, List.length_append]
    rcases List.mem_cons.1 h with rfl | h
    · have := encE_ge e; omega
    · have := mem_flat_le es e h; omega
/-- What the law leaves of a message. -/
structure CutOk (m : Mg) : Prop where
  ok : m.Ok
  ents : m.ents.length ≤ 8
  datas : ∀ e ∈ m.ents, e.data.length ≤ 100
  conf : m.conf.length ≤ 9
  data : m.data.length ≤ 100
theorem cutM_ok {m : Mg} (h : m.Ok) : CutOk (cutM m) where
  ok := ⟨h.kind, h.frm, h.dst, h.term, h.idx, h.lterm, h.commit, fun e he => by
    obtain ⟨x, hx, rfl⟩ := List.mem_map.1 he
    obtain ⟨h1, h2, h3, h4⟩ := h.ents x (List.mem_of_mem_take hx)
    exact ⟨h1, h2, h3, by simp only [cutE, List.length_take]; omega⟩, h.hint, fun n hn => h.conf n (List.mem_of_mem_take hn), h.off, h.size, h.ctx⟩
  ents := by simp only [cutM, List.length_map, List.length_take]; omega
  datas := fun e he => by
    obtain ⟨x, hx, rfl⟩ := List.mem_map.1 he
    simp only [cutE, List.length_take]; omega
  conf := by simp only [cutM, List.length_take]; omega
  data := by simp only [cutM, List.length_take]; omega
set_option maxHeartbeats 2000000 in
theorem encM_len {m : Mg} (h : CutOk m) : (encM m).length ≤ 900000 := by
  have h0 := enc_le m.kind
  have h1 := enc_le m.frm
  have h2 := enc_le m.dst
  have h3 := enc_le m.term
  have h4 := enc_le m.idx
  have h5 := enc_le m.lterm
  have h6 := enc_le m.commit
  have h7 := enc_le m.ents.length
  have h8 := flat_le m.ents
  have h9 := esz_le 100 m.ents h.datas
  have h10 : m.ents.length * (40 + 100) ≤ 8 * 140 := Nat.mul_le_mul h.ents (Nat.le_refl _)
  have h11 := enc_le m.hint
  have h12 := enc_le m.conf.length
  have h13 := enc_len_le m.conf
  have h14 := h.conf
  have h15 := h.data
  have h16 := enc_le m.off
  have h17 := enc_le m.size
  have h18 := enc_le m.ctx
  have h19 := enc_le m.data.length
  have h20 : (fl m.ok).length = 1 := by cases m.ok <;> rfl
  simp only [encM, encT, List.length_append]
  omega
theorem encM_pos (m : Mg) : 0 < (encM m).length := by
  have h1 := enc_pos m.kind
  simp only [encM, List.length_append]
  omega
theorem encM_inj {s t : Mg} (hs : CutOk s) (ht : CutOk t) : decide (encM s = encM t) = eqM s t := by
  rw [Bool.eq_iff_iff, decide_eq_true_iff, eqM_iff]
  refine ⟨fun h => ?_, fun h => by rw [h]⟩
  have h1 := rMg_enc s hs.ok (by have := hs.ents; omega) (by have := hs.conf; omega) (by have := hs.data; omega)
  rw [h, rMg_enc t ht.ok (by have := ht.ents; omega) (by have := ht.conf; omega) (by have := ht.data; omega)] at h1
  simp only [Prod.mk.injEq] at h1
  exact h1.1.1.symm
theorem rdL_okE (wr : Bool) : ∀ (n : Nat) (st : R), ∀ x ∈ (rdL rEnt wr n st).1, I64 x.idx ∧ I64 x.term ∧ I64 x.kind
  | 0, st, x, h => by simp [rdL] at h
  | n + 1, none, x, h => by simp [rdL] at h
  | n + 1, some l, x, h => by
    cases wr
    · have h' : x ∈ (rEnt (some l)).1 :: (rdL rEnt false n (rEnt (some l)).2).1 := h
      rcases List.mem_cons.1 h' with rfl | h2
      · exact ⟨rNum_ok _, rNum_ok _, rNum_ok _⟩
      · exact rdL_okE false n _ x h2
    · rw [rdL_true] at h
      simp at h
/-- What is read is in bounds. -/
theorem rMg_ok (bs : List UInt8) (hl : bs.length ≤ 900000) (h : okB (rMg (some bs)).1.2 (rMg (some bs)).2 = true) : (rMg (some bs)).1.1.Ok ∧ esz (rMg (some bs)).1.1.ents ≤ 10000000000 ∧ (rMg (some bs)).1.1.conf.length ≤ 10000000000 ∧ (rMg (some bs)).1.1.data.length ≤ 10000000000 ∧ (rMg (some bs)).1.1.ents.length ≤ 10000000000 := by
  have hb := rMg_back bs h
  have hlen := congrArg List.length hb
  simp only [encM, encT, List.length_append] at hlen
  have h1 : ∀ ns : List Int, ns.length ≤ (ns.flatMap enc).length := fun ns => by
    induction ns with
    | nil => simp
    | cons a l ih => have := enc_pos a; simp only [List.flatMap_cons, List.length_append, List.length_cons]; omega
  have h2 := h1 (rMg (some bs)).1.1.conf
  have h3 := esz_ge (rMg (some bs)).1.1.ents
  have h4 := mem_flat_le (rMg (some bs)).1.1.ents
  have h5 : (rMg (some bs)).1.1.ents.length ≤ esz (rMg (some bs)).1.1.ents := by
    have : ∀ es : List Ent, es.length ≤ esz es := fun es => by
      induction es with
      | nil => simp
      | cons a l ih =>
        have e1 : esz (a :: l) = (40 + a.data.length) + esz l := by simp [esz]
        rw [e1, List.length_cons]; omega
    exact this _
  refine ⟨⟨rNum_ok _, rNum_ok _, rNum_ok _, rNum_ok _, rNum_ok _, rNum_ok _, rNum_ok _, fun e he => ?_, rNum_ok _, rdL_ok _ _ _, rNum_ok _, rNum_ok _, rNum_ok _⟩, by omega, by omega, by omega, by omega⟩
  obtain ⟨g1, g2, g3⟩ := rdL_okE _ _ _ e he
  exact ⟨g1, g2, g3, by have := h4 e he; omega⟩
/-- A message's bytes. -/
theorem mg_enc {W : World} (m : Mg) {ae ac ad : Option Addr} {le ce lc cc ld cd : Nat} (h : MgV W ae le ce ac lc cc ad ld cd m) (ho : m.Ok) (hl : esz m.ents ≤ 10000000000) (hl2 : m.conf.length ≤ 10000000000) (hl3 : m.data.length ≤ 10000000000) :
    Calls Try.prog 23 #[.agg #[.int .i64 m.kind, .int .i64 m.frm, .int .i64 m.dst, .int .i64 m.term, .int .i64 m.idx, .int .i64 m.lterm, .int .i64 m.commit, .slice ae le ce, .bool m.ok, .int .i64 m.hint, .slice ac lc cc, .slice ad ld cd, .int .i64 m.off, .int .i64 m.size, .int .i64 m.ctx]] W fun e w' => ∃ ao L cap, e = .returned (.slice ao L cap) ∧ Hid (Own8 W w' (.slice ao L cap) (encM m)) :=
  msg_any m ae ac ad le ce lc cc ld cd h.ents h.conf h.data ho hl hl2 hl3
theorem mg_enc9 {W : World} {m : Mg} {ae ac ad : Option Addr} {le ce lc cc ld cd : Nat} (h : MgV W ae le ce ac lc cc ad ld cd m) (ho : CutOk m) :
    Calls Try.prog 23 #[.agg #[.int .i64 m.kind, .int .i64 m.frm, .int .i64 m.dst, .int .i64 m.term, .int .i64 m.idx, .int .i64 m.lterm, .int .i64 m.commit, .slice ae le ce, .bool m.ok, .int .i64 m.hint, .slice ac lc cc, .slice ad ld cd, .int .i64 m.off, .int .i64 m.size, .int .i64 m.ctx]] W fun e w' => ∃ ao L cap, e = .returned (.slice ao L cap) ∧ Hid (Own8 W w' (.slice ao L cap) (encM m)) :=
  mg_enc m h ho.ok (by
    have h9 := esz_le 100 m.ents ho.datas
    have h10 : m.ents.length * (40 + 100) ≤ 8 * 140 := Nat.mul_le_mul ho.ents (Nat.le_refl _)
    omega) (by have := ho.conf; omega) (by have := ho.data; omega)

end Go.Proofs.Ytgknpbgepgmmmaa.Cm

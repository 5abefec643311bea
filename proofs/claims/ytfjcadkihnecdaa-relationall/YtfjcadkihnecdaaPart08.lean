/- Match where the width is another. The walks of All, eq, less and rows. The walk of rows. What RelationAll's own list has in memory. -/
import Derived.Test.YtfjcadkihnecdaaPart07
import Derived.Laws.OwnMore
namespace Go.Proofs.Ytfjcadkihnecdaa
open Go.RowKit Go.Shelf

set_option maxRecDepth 100000 in
set_option maxHeartbeats 1600000 in
theorem match_not_in (n : Nat) (hn : 3 ≤ n) {w : World} {p wd : Nat} {F : Nat → Prop} {R : List (List Int)} (h : St w p wd F R) (vr : Value) (r : List Int) (hr : Is w vr r) (hrw : ¬ r.length = wd) :
    CallsIn Fence.wide n Try.prog 13 #[.pointer (some ⟨p, 0, none⟩), vr] w fun e W' => e = .returned (.slice none 0 0) ∧ Below w.heap.size w W' := by
  obtain ⟨v, zs, rfl, h⟩ := h
  have hB0 := below_box w (.cells #[.pointer (some ⟨p, 0, none⟩)] 24)
  have HF := hide (fits_some p wd v vr r _ (h.box.below hB0) (hr.below hB0))
  rw [decide_eq_false hrw] at HF
  have HB0 := hide hB0
  have h1 : 1 ≤ n := by omega
  obtain ⟨ao, cap, rfl, -⟩ := hr
  clear hrw h hB0
  refine callsIn_of_wp_marks Try.func13 rfl trivial ?_ rfl
  simp only [Try.ntmps13, List.size_toArray, List.length_cons, List.length_nil, Nat.reduceAdd, Nat.reduceSub, Array.replicate_succ, Array.replicate_zero, List.push_toArray, List.append_toArray, List.nil_append, List.cons_append]
  gi_wp2
  refine ⟨trivial, ?_⟩
  refine (callsIn_wide.2 HF.out).mono ?_
  rintro e w' ⟨rfl, hw'⟩
  subst hw'
  gi_wp2
  refine leaves_marks [] _ (fun e he => by simp at he) (by simp) (fun W' hW' => ?_)
  exact ⟨.slice none 0 0, by simp [results, Try.f13, go_sem], rfl, Below.of_fr HB0.out hW' (fun k hk => by simp at hk)⟩
theorem match_not {w : World} {p wd : Nat} {F : Nat → Prop} {R : List (List Int)} (h : St w p wd F R) (vr : Value) (r : List Int) (hr : Is w vr r) (hrw : ¬ r.length = wd) :
    Calls Try.prog 13 #[.pointer (some ⟨p, 0, none⟩), vr] w fun e W' => e = .returned (.slice none 0 0) ∧ Below w.heap.size w W' :=
  callsIn_wide.1 (match_not_in 3 (Nat.le_refl _) h vr r hr hrw)
end Go.Proofs.Ytfjcadkihnecdaa
namespace Go.Proofs.Ytfjcadkihnecdaa
open Go.RowKit Go.Shelf

theorem made0 (n : Nat) : (madeCells (Value.int .i64 0).cells (n * 1)).toList = cI (List.replicate n 0) := by
  apply List.ext_getElem
  · simp [madeCells, cI]
  · intro i h1 h2
    simp [madeCells, cI, Value.cells, Nat.mod_one]
theorem ans_zero : ∀ (x : List Int) (n : Nat), ansB (List.replicate n 0) x = true
  | [], n => by simp [ansB]
  | x :: xs, 0 => rfl
  | x :: xs, n + 1 => by
    have := ans_zero xs n
    simp only [ansB, List.replicate_succ, List.zip_cons_cons, List.all_cons] at this ⊢
    rw [this]
    rfl

set_option maxHeartbeats 800000 in
theorem all_any {w : World} {p wd : Nat} {F : Nat → Prop} {R : List (List Int)} (h : St w p wd F R) (hl : R.length ≤ 1000000000) :
    Calls Try.prog 15 #[.pointer (some ⟨p, 0, none⟩)] w fun e W' => ∃ v', e = .returned v' ∧ Rw w.heap.size W' v' R ∧ Below w.heap.size w W' := by
  have h4 : wd ≤ 4 := by obtain ⟨_, _, _, h⟩ := h; exact h.le
  obtain ⟨i, hi, hz, hs, hby⟩ := info_parts Try.inf3
  obtain ⟨W2, hmk, hown, hgr⟩ := run_makeSlice_full (P := Try.prog) w w.heap.size 32 3 i _ 1 Try.underlying32 hi hz hs .i64 .i64 wd (by omega) (by rw [hby]; omega) (by simp only [maxLen]; omega) (Nat.le_refl _)
  rw [made0 wd] at hown
  have hW2 : Below w.heap.size w W2 := ⟨hgr.os, hgr.tape, hgr.output, hgr.size, fun k hk => hgr.block k hk (by simp)⟩
  have hI : Is W2 (.slice (some ⟨w.heap.size, 0, none⟩) wd wd) (List.replicate wd 0) := Is.of_own (by rw [List.length_replicate]; exact hown)
  have HM := hide (match_any (h.below hW2) _ _ hI (by simp) hl)
  have hf : R.filter (ansB (List.replicate wd 0)) = R := List.filter_eq_self.2 fun x _ => ans_zero x wd
  rw [hf] at HM
  have HW2 := hide hW2
  have c0 : w.cell? ⟨p, 0, none⟩ = some (.int .i64 (wd : Int)) := by
    obtain ⟨_, _, _, h⟩ := h
    exact h.box.c 0
  clear hf hI hown hgr hW2 hi hz hs hby h
  have hwI : (wd : Int) ≤ 4 := by omega
  go_enter Try.func15, Try.ntmps15
  go_wp2_with (go_at_call 13; refine Calls.mono HM.out ?_; rintro e W3 ⟨v', rfl, hR, hb⟩; have HR := hide hR; have HB := hide (HW2.out.trans (hb.mono HW2.out.size)); obtain ⟨ao3, cap3, hv3⟩ := hR.len; subst hv3; clear hR hb)
  go_ret
  refine ⟨_, rfl, ?_, HB.out⟩
  obtain ⟨vs, r1, r2, r3⟩ := HR.out
  have hs2 := HW2.out.size
  exact ⟨vs, own_base r1 (fun k hk => Nat.le_trans hs2 (r1.lt k hk).1), r2, fun j hj => by obtain ⟨u, hu, ho⟩ := r3 j hj; exact ⟨u, hu, own_base ho (fun k hk => Nat.le_trans hs2 (ho.lt k hk).1)⟩⟩

set_option maxHeartbeats 800000 in
theorem eq_any (va vb : Value) (xs ys : List Int) (w : World) (hx : Is w va xs) (hy : Is w vb ys) :
    Calls Try.prog 8 #[va, vb] w fun e w' => e = .returned (.bool (decide (xs = ys))) ∧ Below w.heap.size w w' := by
  obtain ⟨ao, cap, rfl, h1, h2, h4⟩ := hx
  obtain ⟨bo, bcap, rfl, k1, k2, k4⟩ := hy
  have HX := hide h4
  have HY := hide k4
  have hl1 : xs.length ≤ 9223372036854775807 := by simp only [maxLen] at h2; omega
  have hl2 : ys.length ≤ 9223372036854775807 := by simp only [maxLen] at k2; omega
  clear h4 k4 h1 h2 k1 k2
  by_cases hl : xs.length = ys.length
  · obtain ⟨N, hN⟩ : ∃ N, ys.length = N := ⟨_, rfl⟩
    rw [hN] at hl HY ⊢
    rw [hl] at HX hl1 ⊢
    have HlX := hide hl
    have HlY := hide hN
    clear hl hN hl2
    go_enter Try.func8, Try.ntmps8
    go_wp2
    go_loopw [5] (fun i wr => ∃ k : Nat, k ≤ N ∧ i = .int .i64 k ∧ Hid (xs.take k = ys.take k) ∧ Hid (Below w.heap.size w wr)) (fun i _ => N - (intOf i).toNat)
    case atStart => exact ⟨0, Nat.zero_le _, rfl, rfl, Below.refl _ _⟩
    case round =>
      obtain ⟨k, hk, rfl, HM, HB⟩ := hrel
      by_cases hlt : k < N
      · obtain ⟨g, off, rfl, hc⟩ := HX.out (by omega)
        obtain ⟨g', off', rfl, hd⟩ := HY.out (by omega)
        have c0 := cell_below' (hc k hlt) HB.out
        have d0 := cell_below' (hd k hlt) HB.out
        have hltI : (k : Int) < (N : Int) := by omega
        have hx1 : xs.take (k + 1) = xs.take k ++ [atI xs k] := by
          have := HlX.out
          rw [List.take_succ_eq_append_getElem (by omega), atI, List.getD, List.getElem?_eq_getElem (by omega)]
          rfl
        have hy1 : ys.take (k + 1) = ys.take k ++ [atI ys k] := by
          have := HlY.out
          rw [List.take_succ_eq_append_getElem (by omega), atI, List.getD, List.getElem?_eq_getElem (by omega)]
          rfl
        have HE : Hid (atI xs k = atI ys k → xs.take (k + 1) = ys.take (k + 1)) := fun e => by rw [hx1, hy1, e, HM.out]
        have HNE : Hid (atI xs k ≠ atI ys k → decide (xs = ys) = false) := fun e => by
          rw [decide_eq_false]
          rintro rfl
          exact e rfl
        generalize atI xs k = x at *
        generalize atI ys k = y at *
        clear hc hd HM hx1 hy1
        by_cases e : x = y
        · have HE1 := hide (HE.out e)
          subst e
          have g1 : (x != x) = false := by simp
          go_wp2_with fail
          go_big_quiet (fail)
          have HBz := hide (HB.out.trans ((below_drewN wr nq).mono HB.out.size))
          go_wp2_with fail
          go_roundw
          case rel => exact ⟨k + 1, by omega, by simp, HE1, by assumption⟩
          case measure => simp [intOf]; omega
        · have HE1 := hide (HNE.out e)
          have g1 : (x != y) = true := by simpa using e
          go_wp2_with fail
          go_big_quiet (fail)
          have HBz := hide (HB.out.trans ((below_drewN wr nq).mono HB.out.size))
          go_wp2_with fail
          go_ret
          exact ⟨by rw [HE1.out]; rfl, HBz.out⟩
      · have hltI : ¬ (k : Int) < (N : Int) := by omega
        have HE1 : Hid (decide (xs = ys) = true) := by
          have := HM.out
          have e1 := HlX.out
          have e2 := HlY.out
          rw [List.take_of_length_le (by omega), List.take_of_length_le (by omega)] at this
          exact decide_eq_true this
        clear HM
        go_wp2_with fail
        go_ret
        exact ⟨by rw [HE1.out]; rfl, HB.out⟩
  · have HE1 : Hid (decide (xs = ys) = false) := by
      show _ = _
      rw [decide_eq_false]
      rintro rfl
      exact hl rfl
    have hg : ((xs.length : Int) != (ys.length : Int)) = true := by simp; omega
    have HL := hide hl
    clear hl
    go_enter Try.func8, Try.ntmps8
    go_wp2
    go_ret
    exact ⟨by rw [HE1.out]; rfl, Below.refl _ _⟩

set_option maxHeartbeats 800000 in
theorem less_any (va vb : Value) (xs ys : List Int) (w : World) (hx : Is w va xs) (hy : Is w vb ys) (hl : xs.length = ys.length) (hlt : Lt xs ys) :
    Calls Try.prog 17 #[va, vb] w fun e w' => e = .returned (.bool true) ∧ Below w.heap.size w w' := by
  obtain ⟨ao, cap, rfl, h1, h2, h4⟩ := hx
  obtain ⟨bo, bcap, rfl, k1, k2, k4⟩ := hy
  have HX := hide h4
  have HY := hide k4
  have hl1 : xs.length ≤ 9223372036854775807 := by simp only [maxLen] at h2; omega
  clear h4 k4 h1 h2 k1 k2
  obtain ⟨N, hN⟩ : ∃ N, ys.length = N := ⟨_, rfl⟩
  rw [hN] at hl HY ⊢
  rw [hl] at HX hl1 ⊢
  have HlX := hide hl
  have HlY := hide hN
  have HLT : Hid (cmpL xs ys < 0) := hlt
  clear hl hN hlt
  go_enter Try.func17, Try.ntmps17
  go_wp2
  go_loopw [5] (fun i wr => ∃ k : Nat, k ≤ N ∧ i = .int .i64 k ∧ Hid (cmpL (xs.drop k) (ys.drop k) < 0) ∧ Hid (Below w.heap.size w wr)) (fun i _ => N - (intOf i).toNat)
  case atStart => exact ⟨0, Nat.zero_le _, rfl, HLT, Below.refl _ _⟩
  case round =>
    obtain ⟨k, hk, rfl, HM, HB⟩ := hrel
    by_cases hlt : k < N
    · obtain ⟨g, off, rfl, hc⟩ := HX.out (by omega)
      obtain ⟨g', off', rfl, hd⟩ := HY.out (by omega)
      have c0 := cell_below' (hc k hlt) HB.out
      have d0 := cell_below' (hd k hlt) HB.out
      have hltI : (k : Int) < (N : Int) := by omega
      have HM2 : Hid ((if atI xs k < atI ys k then (-1 : Int) else if atI ys k < atI xs k then 1 else cmpL (xs.drop (k + 1)) (ys.drop (k + 1))) < 0) := by
        have := HM.out
        rw [atI_at (ns := xs) (by rw [HlX.out]; exact hlt), atI_at (ns := ys) (by rw [HlY.out]; exact hlt)] at this
        exact this
      generalize atI xs k = x at *
      generalize atI ys k = y at *
      clear hc hd HM
      by_cases e : x = y
      · have HE1 : Hid (cmpL (xs.drop (k + 1)) (ys.drop (k + 1)) < 0) := by
          have := HM2.out
          rw [if_neg (by omega), if_neg (by omega)] at this
          exact this
        subst e
        have g1 : (x != x) = false := by simp
        clear HM2
        go_wp2_with fail
        go_big_quiet (fail)
        have HBz := hide (HB.out.trans ((below_drewN wr nq).mono HB.out.size))
        go_wp2_with fail
        go_roundw
        case rel => exact ⟨k + 1, by omega, by simp, HE1, by assumption⟩
        case measure => simp [intOf]; omega
      · have hxy : x < y := by
          have := HM2.out
          by_cases h : x < y
          · exact h
          · rw [if_neg h, if_pos (by omega)] at this
            omega
        have g1 : (x != y) = true := by simpa using e
        have g2 : decide (x < y) = true := by simpa using hxy
        clear HM2
        go_wp2_with fail
        go_big_quiet (fail)
        have HBz := hide (HB.out.trans ((below_drewN wr nq).mono HB.out.size))
        have c0 : (wr.drewN nq).cell? ⟨g, off + k, none⟩ = some (.int .i64 x) := c0
        have d0 : (wr.drewN nq).cell? ⟨g', off' + k, none⟩ = some (.int .i64 y) := d0
        generalize wr.drewN nq = W4 at *
        go_wp2_with fail
        go_big_quiet (fail)
        have HBy := hide (HBz.out.trans ((below_drewN W4 nq).mono HBz.out.size))
        go_wp2_with fail
        go_ret
        exact ⟨rfl, by first | exact HBy.out | assumption⟩
    · exfalso
      have := HM.out
      have e1 := HlX.out
      have e2 := HlY.out
      rw [drop_nil xs (by omega), drop_nil ys (by omega)] at this
      simp [cmpL] at this

/-- A slice value that reads as these rows. -/
def Rs (w : World) (v : Value) (L : List (List Int)) : Prop :=
  ∃ ao cap, v = .slice ao L.length cap ∧ L.length ≤ cap ∧ cap ≤ maxLen ∧ (0 < L.length → ∃ g off, ao = some ⟨g, off, none⟩ ∧ ∀ i (h : i < L.length), ∃ u, w.cell? ⟨g, off + i, none⟩ = some u ∧ Is w u L[i])
theorem Rs.below {w w' : World} {v : Value} {L : List (List Int)} (h : Rs w v L) (hb : Below w.heap.size w w') : Rs w' v L := by
  obtain ⟨ao, cap, hv, h1, h2, h4⟩ := h
  refine ⟨ao, cap, hv, h1, h2, fun hp => ?_⟩
  obtain ⟨g, off, ha, hc⟩ := h4 hp
  exact ⟨g, off, ha, fun j hj => by obtain ⟨u, hu, hi⟩ := hc j hj; exact ⟨u, cell_below' hu hb, hi.below hb⟩⟩
theorem Rw.rs {b : Nat} {w : World} {v : Value} {L : List (List Int)} (h : Rw b w v L) : Rs w v L := by
  obtain ⟨vs, h1, h2, h3⟩ := h
  rcases own_shape h1 with ⟨rfl, h0⟩ | ⟨g, cap, e, hc, hm, _⟩
  · have : L = [] := List.eq_nil_of_length_eq_zero h0
    subst this
    exact ⟨none, 0, rfl, Nat.le_refl _, by simp [maxLen], fun h => by simp at h⟩
  · subst e
    refine ⟨_, cap, rfl, hc, hm, fun _ => ⟨g, 0, rfl, fun i hi => ?_⟩⟩
    obtain ⟨u, hu, ho⟩ := h3 i hi
    exact ⟨u, by rw [Nat.zero_add, h1.cellAt i (by omega)]; exact hu, Is.of_own ho⟩
end Go.Proofs.Ytfjcadkihnecdaa
namespace Go.Proofs.Ytfjcadkihnecdaa
open Go.RowKit Go.Shelf

theorem mem_take (M : List (List Int)) (x : List Int) (k : Nat) (h : k < M.length) : decide (x ∈ M.take (k + 1)) = (decide (x ∈ M.take k) || decide (x = M[k])) := by
  rw [List.take_succ_eq_append_getElem h, Bool.eq_iff_iff]
  simp only [List.mem_append, List.mem_singleton, decide_eq_true_eq, Bool.or_eq_true]

set_option maxHeartbeats 3200000 in
theorem rows_any (va vb : Value) (L M : List (List Int)) (w : World) (ha : Rs w va L) (hb : Rs w vb M) (hup : ∀ i (h : i + 1 < L.length), Lt L[i] L[i + 1] ∧ L[i].length = L[i + 1].length) (hlm : L.length = M.length) (hs : L.length ≤ 1000000000) (hin : ∀ x ∈ L, x ∈ M) :
    Calls Try.prog 12 #[va, vb] w fun e w' => e = .returned (.bool true) ∧ Below w.heap.size w w' := by
  obtain ⟨ao, cap, rfl, h1, h2, h4⟩ := ha
  obtain ⟨bo, bcap, rfl, k1, k2, k4⟩ := hb
  have HX := hide h4
  have HY := hide k4
  have HUP := hide hup
  have HIN := hide hin
  obtain ⟨N, hN⟩ : ∃ N, L.length = N := ⟨_, rfl⟩
  have HLN := hide hN
  have HMN : Hid (M.length = N) := hlm.symm.trans hN
  rw [← hlm, hN]
  rw [hN] at hs
  clear h4 k4 h1 h2 k1 k2 hup hin hlm hN
  go_enter Try.func12, Try.ntmps12
  go_wp2
  go_loopw [5] (fun i wr => ∃ k : Nat, k ≤ N ∧ i = .int .i64 k ∧ Hid (Below w.heap.size w wr)) (fun i _ => N - (intOf i).toNat)
  case atStart => exact ⟨0, Nat.zero_le _, rfl, Below.refl _ _⟩
  case round =>
    obtain ⟨i, hi, rfl, HB⟩ := hrel
    by_cases hlt : i < N
    · have hltI : (i : Int) < (N : Int) := by omega
      have hiL : i < L.length := by rw [HLN.out]; exact hlt
      obtain ⟨g, off, rfl, hc⟩ := HX.out (by rw [HLN.out]; omega)
      obtain ⟨u, cu, hu⟩ := hc i hiL
      have HU := hide hu
      have HCU := hide cu
      obtain ⟨aou, capu, rfl, -⟩ := id hu
      have HPREV : Hid (0 < i → ∃ u0, w.cell? ⟨g, off + (i - 1), none⟩ = some u0 ∧ Is w u0 L[i - 1] ∧ (∀ W, Below w.heap.size w W → Calls Try.prog 17 #[u0, .slice aou L[i].length capu] W fun e w' => e = .returned (.bool true) ∧ Below W.heap.size W w')) := fun hp => by
        obtain ⟨u0, cu0, hu0⟩ := hc (i - 1) (by omega)
        refine ⟨u0, cu0, hu0, fun W hW => ?_⟩
        have e := HUP.out (i - 1) (by omega)
        simp only [show i - 1 + 1 = i by omega] at e
        exact less_any _ _ _ _ W (hu0.below hW) (hu.below hW) e.2 e.1
      have HMEM := hide (HIN.out L[i] (List.getElem_mem hiL))
      clear hc cu hu
      generalize L[i] = x at *
      go_wp2_with fail
      go_cut [33] from 19 to 33 (fun b wc => b = .bool false ∧ Hid (Below w.heap.size w wc))
      case first =>
        have cu := cell_below' HCU.out HB.out
        by_cases hp : 0 < i
        · obtain ⟨u0, cu0, hu0, hcl⟩ := HPREV.out hp
          obtain ⟨m, rfl⟩ : ∃ m, i = m + 1 := ⟨i - 1, by omega⟩
          rw [Nat.add_sub_cancel] at cu0
          have cu0 := cell_below' cu0 HB.out
          obtain ⟨ao0, cap0, rfl, -⟩ := hu0
          have cE : ∀ d os, Calls Try.prog 17 #[.slice ao0 _ cap0, .slice aou x.length capu] (Sort.grow (redrawn wr d) os) fun e w'' => e = .returned (.bool true) ∧ ∃ p : Regrown, w'' = Sort.grow (redrawn wr p.d) p.os := fun d os => Calls.regrown_of (hcl _ (HB.out.trans ((below_regrown wr d os).mono HB.out.size)))
          generalize L[m + 1 - 1].length = m0 at *
          have hpI : (0 : Int) < ((m + 1 : Nat) : Int) := by omega
          have g1 : decide ((0 : Int) < (m : Int) + 1) = true := decide_eq_true (by omega)
          have g3 : ((m : Int) + 1) - 1 = (m : Int) := by omega
          have hmN : (m : Int) < (N : Int) := by omega
          have hmN1 : (m : Int) + 1 < (N : Int) := by omega
          have cu := cell_regrown cu
          have cu0 := cell_regrown cu0
          clear hcl HPREV
          refine wp_region_quiet_below (by kernel_rfl) (by kernel_rfl) ?_
          repeat (go_big_quiet_step (first | exact cE _ _))
          refine wpQuiet_nil ?_
          intro wz hw'
          obtain ⟨⟨dq, osq⟩, hw''⟩ := hw'
          have hbq := below_regrown wr dq osq
          rw [← hw''] at hbq
          have HBz := hide (HB.out.trans (hbq.mono HB.out.size))
          clear hw'' hbq cE cu cu0
          go_wp2_with fail
          go_meet
          exact ⟨rfl, HBz⟩
        · have e0 : i = 0 := by omega
          subst e0
          refine wp_region_quiet_below (by kernel_rfl) (by kernel_rfl) ?_
          repeat (go_big_quiet_step (fail))
          refine wpQuiet_nil ?_
          intro wz hw'
          obtain ⟨⟨dq, osq⟩, hw''⟩ := hw'
          have hbq := below_regrown wr dq osq
          rw [← hw''] at hbq
          have HBz := hide (HB.out.trans (hbq.mono HB.out.size))
          clear hw'' hbq
          go_wp2_with fail
          go_meet
          exact ⟨rfl, HBz⟩
      case rest =>
        obtain ⟨rfl, HBc⟩ := hcut
        go_wp2_with fail
        go_loopw [6, 7] (fun b k wq => ∃ k' : Nat, k' ≤ N ∧ k = .int .i64 k' ∧ b = .bool (decide (x ∈ M.take k')) ∧ Hid (Below w.heap.size w wq)) (fun _ k _ => N - (intOf k).toNat)
        case atStart => exact ⟨0, Nat.zero_le _, rfl, by simp, HBc⟩
        case round =>
          obtain ⟨k, hk, rfl, rfl, HBq⟩ := hrel
          by_cases hlk : k < N
          · have hlkI : (k : Int) < (N : Int) := by omega
            have hkM : k < M.length := by rw [HMN.out]; exact hlk
            obtain ⟨g2, off2, rfl, hd⟩ := HY.out (by rw [HMN.out]; omega)
            obtain ⟨y, cy, hy⟩ := hd k hkM
            have HMT := hide (mem_take M x k hkM)
            have HEQ : Hid (∀ W, Below w.heap.size w W → Calls Try.prog 8 #[.slice aou x.length capu, y] W fun e w' => e = .returned (.bool (decide (x = M[k]))) ∧ Below W.heap.size W w') := fun W hW => eq_any _ _ _ _ W (HU.out.below hW) (hy.below hW)
            obtain ⟨aoy, capy, rfl, -⟩ := hy
            have cy := cell_below' cy HBq.out
            have cu := cell_below' HCU.out HBq.out
            clear hd
            generalize M[k] = z at *
            obtain ⟨bt, hbt⟩ : ∃ bt, decide (x ∈ M.take k) = bt := ⟨_, rfl⟩
            obtain ⟨be, hbe⟩ : ∃ be, decide (x = z) = be := ⟨_, rfl⟩
            rw [hbt] at HMT ⊢
            rw [hbe] at HMT HEQ
            clear hbt hbe
            have cE : ∀ d os, Calls Try.prog 8 #[.slice aou x.length capu, .slice aoy z.length capy] (Sort.grow (redrawn wr d) os) fun e w'' => e = .returned (.bool be) ∧ ∃ p : Regrown, w'' = Sort.grow (redrawn wr p.d) p.os := fun d os => Calls.regrown_of (HEQ.out _ (HBq.out.trans ((below_regrown wr d os).mono HBq.out.size)))
            have cu := cell_regrown cu
            have cy := cell_regrown cy
            cases bt with
            | true =>
              go_wp2_with fail
              refine wp_region_quiet_below (by kernel_rfl) (by kernel_rfl) ?_
              repeat (go_big_quiet_step (fail))
              refine wpQuiet_nil ?_
              intro wz hw'
              obtain ⟨⟨dq, osq⟩, hw''⟩ := hw'
              have hbq := below_regrown wr dq osq
              rw [← hw''] at hbq
              have HBz := hide (HBq.out.trans (hbq.mono HBq.out.size))
              clear hw'' hbq cE cu cy
              go_wp2_with fail
              go_roundw
              case rel => exact ⟨k + 1, by omega, by simp, by rw [HMT.out]; rfl, HBz⟩
              case measure => simp [intOf]; omega
            | false =>
              go_wp2_with fail
              refine wp_region_quiet_below (by kernel_rfl) (by kernel_rfl) ?_
              repeat (go_big_quiet_step (first | exact cE _ _))
              refine wpQuiet_nil ?_
              intro wz hw'
              obtain ⟨⟨dq, osq⟩, hw''⟩ := hw'
              have hbq := below_regrown wr dq osq
              rw [← hw''] at hbq
              have HBz := hide (HBq.out.trans (hbq.mono HBq.out.size))
              clear hw'' hbq cE cu cy
              go_wp2_with fail
              go_roundw
              case rel => exact ⟨k + 1, by omega, by simp, by rw [HMT.out]; rfl, HBz⟩
              case measure => simp [intOf]; omega
          · have hlkI : ¬ (k : Int) < (N : Int) := by omega
            have e : decide (x ∈ M.take k) = true := by
              rw [List.take_of_length_le (by rw [HMN.out]; omega)]
              exact decide_eq_true HMEM.out
            rw [e]
            clear e
            go_wp2_with fail
            go_roundw
            case rel => exact ⟨i + 1, by omega, by simp, HBq⟩
            case measure => simp [intOf]; omega
    · have hltI : ¬ (i : Int) < (N : Int) := by omega
      go_wp2_with fail
      go_ret
      exact ⟨rfl, HB.out⟩
end Go.Proofs.Ytfjcadkihnecdaa
namespace Go.Proofs.Ytfjcadkihnecdaa
open Go.RowKit Go.Shelf

/-- append([]int(nil), r...): a row of one's own. -/
theorem copy_row (W : World) (ao : Option Addr) (n cap : Nat) (r : List Int) (h : Is W (.slice ao n cap) r) (hn : ao = none → cap = 0) (hl : r.length ≤ 1000000000) :
    ∃ u W', (∀ ty, (Builtin.append_ #[27, 27] ty #[.slice none 0 0, .slice ao n cap]).run Try.prog W = .ok u W') ∧ W'.ownsRow W.heap.size 3 1 u r.length (cI r) ∧ Below W.heap.size W W' := by
  obtain ⟨i, hi, hz, hs, hby⟩ := info_parts Try.inf3
  obtain ⟨ao', cap', e, h1, h2, h4⟩ := h
  simp only [Value.slice.injEq] at e
  obtain ⟨rfl, rfl, rfl⟩ := e
  cases ao with
  | none =>
    have h0 : r = [] := by
      by_cases hp : 0 < r.length
      · obtain ⟨_, _, e, _⟩ := h4 hp
        cases e
      · exact List.eq_nil_of_length_eq_zero (by omega)
    subst h0
    have hc := hn rfl
    subst hc
    exact ⟨.slice none 0 0, W, fun ty => run_append_owned_none W W.heap.size 27 ty 3 i 1 Try.underlying27 hi _ 0 [] (World.ownsRow_nil _ _ _ _), World.ownsRow_nil _ _ _ _, Below.refl _ _⟩
  | some a =>
    have hc : ∀ j u, (cI r)[j]? = some u → W.cell? (a.add j) = some u := fun j u hj => by
      have hjl : j < r.length := by
        have := (List.getElem?_eq_some_iff.1 hj).1
        simpa [cI] using this
      obtain ⟨g, off, e, hc⟩ := h4 (by omega)
      cases e
      rw [Addr.add_lit, hc j hjl, ← hj]
      simp [cI, atI, hjl, List.getD]
    have key := run_append_own_at (P := Try.prog) W W.heap.size 27 27 3 i _ 1 8 Try.underlying27 hi hz hs hby rfl (by decide) (.slice none 0 0) 0 [] (World.ownsRow_nil _ _ _ _) a r.length cap (cI r) (by simp [cI]) hc (cI_one r) (by simp only [maxLen]; omega) (by omega) (Nat.le_refl _)
    obtain ⟨d, W', hr, hO, hg, _, _⟩ := key
    refine ⟨d, W', fun ty => hr, by simpa using hO, ⟨hg.os, hg.tape, hg.output, hg.size, fun k hk => hg.block k hk (by simp [Value.ownBlock])⟩⟩

/-- The document's rows: each in memory of its own. -/
def Mw (b : Nat) (W : World) (v : Value) (M : List (List Int)) : Prop :=
  ∃ vs : List Value, W.ownsRow b 27 1 v M.length vs ∧ vs.length = M.length ∧ ∀ i (h : i < M.length), ∃ u, vs[i]? = some u ∧ W.ownsRow b 3 1 u M[i].length (cI M[i])
theorem Mw.nil (b : Nat) (W : World) : Mw b W (.slice none 0 0) [] := ⟨[], World.ownsRow_nil _ _ _ _, rfl, fun i h => by simp at h⟩
theorem Mw.fr {b : Nat} {A B : World} {v : Value} {L : List (List Int)} {F : Nat → Prop} (h : Mw b A v L) (hf : Fr F A B) (hF : ∀ k, F k → ∀ t cs, Bx A k t cs → t ≠ 27 ∧ t ≠ 3) : Mw b B v L := by
  obtain ⟨vs, h1, h2, h3⟩ := h
  refine ⟨vs, own_kept h1 hf (fun k hk hFk => ?_), h2, fun i hi => ?_⟩
  · obtain ⟨cs, hc⟩ := own_at h1 hk
    exact (hF k hFk 27 cs hc).1 rfl
  · obtain ⟨u, hu, ho⟩ := h3 i hi
    refine ⟨u, hu, own_kept ho hf (fun k hk hFk => ?_)⟩
    obtain ⟨cs, hc⟩ := own_at ho hk
    exact (hF k hFk 3 cs hc).2 rfl
theorem Mw.below {b : Nat} {A B : World} {v : Value} {L : List (List Int)} (h : Mw b A v L) (hb : Below A.heap.size A B) : Mw b B v L := h.fr (F := fun _ => False) (Fr.of_below hb) (fun _ h => h.elim)
theorem Mw.rs {b : Nat} {w : World} {v : Value} {L : List (List Int)} (h : Mw b w v L) : Rs w v L := by
  obtain ⟨vs, h1, h2, h3⟩ := h
  rcases own_shape h1 with ⟨rfl, h0⟩ | ⟨g, cap, e, hc, hm, _⟩
  · have : L = [] := List.eq_nil_of_length_eq_zero h0
    subst this
    exact ⟨none, 0, rfl, Nat.le_refl _, by simp [maxLen], fun h => by simp at h⟩
  · subst e
    refine ⟨_, cap, rfl, hc, hm, fun _ => ⟨g, 0, rfl, fun i hi => ?_⟩⟩
    obtain ⟨u, hu, ho⟩ := h3 i hi
    exact ⟨u, by rw [Nat.zero_add, h1.cellAt i (by omega)]; exact hu, Is.of_own ho⟩
theorem Try.inf27 : (Try.prog.info? 27).map (fun i => (i.zero, i.size, i.bytes)) = some (some (.slice none 0 0), 1, 24) := by kernel_rfl
/-- A row is appended. -/
theorem Mw.push {b : Nat} {W : World} {v : Value} {M : List (List Int)} (h : Mw b W v M) (hl : M.length ≤ 1000000000) (hb : b ≤ W.heap.size) {u : Value} {r : List Int} (hu : W.ownsRow b 3 1 u r.length (cI r)) :
    ∃ g cap W9, (∀ ty, (Builtin.append_ #[26, 26] ty #[v, .slice (some ⟨W.heap.size, 0, none⟩) 1 1]).run Try.prog (W.alloc (.cells #[u] 27)) = .ok (.slice (some ⟨g, 0, none⟩) (M.length + 1) cap) W9) ∧ Mw b W9 (.slice (some ⟨g, 0, none⟩) (M.length + 1) cap) (M ++ [r]) ∧ Fr (fun k => v.ownBlock = some k) W W9 := by
  obtain ⟨i, hi, hz, hs, hby⟩ := info_parts Try.inf27
  have h9 := h.below (below_box W (.cells #[u] 27))
  have hnew := Bx.new W #[u] 27
  have hu9 : (W.alloc (.cells #[u] 27)).ownsRow b 3 1 u r.length (cI r) := own_kept (F := fun _ => False) hu (Fr.of_below (below_box W _)) (fun _ _ => id)
  have hfA : Fr (fun k => v.ownBlock = some k) W (W.alloc (.cells #[u] 27)) := Fr.of_below (below_box W _)
  have hbA : b ≤ (W.alloc (.cells #[u] 27)).heap.size := by simp; omega
  generalize W.alloc (.cells #[u] 27) = WA at *
  obtain ⟨vs, hr1, hr2, hr3⟩ := h9
  obtain ⟨v2, W9, hrun, hO, hg, _, hat⟩ := run_append_own_at (P := Try.prog) WA b 26 26 27 i _ 1 24 Try.underlying26 hi hz hs hby rfl (by decide) v M.length vs hr1 ⟨W.heap.size, 0, none⟩ 1 1 [u] rfl (fun j x hj => by
    rw [Addr.add_lit, Nat.zero_add, hnew.c]
    simpa using hj) (by intro x hx; simp at hx; subst hx; exact own_one hu9) (by simp only [maxLen]; omega) (by omega) hbA
  obtain ⟨g, cap, rfl⟩ : ∃ g cap, v2 = .slice (some ⟨g, 0, none⟩) (M.length + 1) cap := by
    rcases own_shape hO with ⟨_, h0⟩ | ⟨g, cap, e, _⟩
    · omega
    · exact ⟨g, cap, e⟩
  have hfr : Fr (fun k => v.ownBlock = some k) WA W9 := Fr.of_grown hg (fun k e => e)
  have hkeep3 : ∀ {n' : Nat} {x : Value} {ys : List Value}, WA.ownsRow b 3 1 x n' ys → W9.ownsRow b 3 1 x n' ys := fun ho => own_kept ho hfr (fun k hk e => own_ne ho hr1 (by decide) hk e)
  refine ⟨g, cap, W9, fun ty => hrun, ⟨vs ++ [u], by rw [List.length_append]; exact hO, by simp [hr2], fun j hj => ?_⟩, hfA.trans hfr (fun x _ hx => hx)⟩
  by_cases hjl : j < M.length
  · obtain ⟨x, hx, ho⟩ := hr3 j hjl
    refine ⟨x, by rw [List.getElem?_append_left (by omega)]; exact hx, ?_⟩
    rw [List.getElem_append_left hjl]
    exact hkeep3 ho
  · have hjl2 : j = M.length := by simp at hj; omega
    subst hjl2
    refine ⟨u, by rw [← hr2]; simp, ?_⟩
    simp only [List.getElem_append_right (Nat.le_refl _), Nat.sub_self, List.getElem_cons_zero]
    exact hkeep3 hu9
/-- A row goes: two appends into a new list. -/
theorem Mw.cut {b : Nat} {W : World} {g n cap : Nat} {M : List (List Int)} (h : Mw b W (.slice (some ⟨g, 0, none⟩) n cap) M) (hb : b ≤ W.heap.size) (hl : M.length ≤ 1000000000) {i : Nat} (hi : i < M.length) :
    ∃ v1 W1 v2 W2, (∀ ty, (Builtin.append_ #[26, 26] ty #[.slice none 0 0, .slice (some ⟨g, 0, none⟩) i cap]).run Try.prog W = .ok v1 W1) ∧
      (∀ ty, (Builtin.append_ #[26, 26] ty #[v1, .slice (some ⟨g, i + 1, none⟩) (M.length - (i + 1)) (cap - (i + 1))]).run Try.prog W1 = .ok v2 W2) ∧ (∃ ao m c, v1 = .slice ao m c) ∧ (∃ ao c, v2 = .slice ao (M.length - 1) c) ∧ Mw b W2 v2 (M.eraseIdx i) ∧ Below W.heap.size W W1 ∧ Below W.heap.size W W2 := by
  obtain ⟨I, hI, hz, hs, hby⟩ := info_parts Try.inf27
  obtain ⟨vs, hr1, hr2, hr3⟩ := h
  have hn : n = M.length := by
    rcases own_shape hr1 with ⟨_, h0⟩ | ⟨_, _, e, _⟩
    · omega
    · simp only [Value.slice.injEq] at e
      exact e.2.1
  subst hn
  have hone : ∀ u ∈ vs, u.oneCell' = true := fun u hu => by
    obtain ⟨j, hj, rfl⟩ := List.getElem_of_mem hu
    obtain ⟨x, hx, ho⟩ := hr3 j (by omega)
    rw [List.getElem?_eq_getElem hj] at hx
    cases hx
    exact own_one ho
  obtain ⟨v1, W1, hrun1, hO1, hg1, _, _⟩ := run_append_own_at (P := Try.prog) W W.heap.size 26 26 27 I _ 1 24 Try.underlying26 hI hz hs hby rfl (by decide) (.slice none 0 0) 0 [] (World.ownsRow_nil _ _ _ _) ⟨g, 0, none⟩ i cap (vs.take i) (by simp; omega) (fun j x hj => by
    have hj2 := (List.getElem?_eq_some_iff.1 hj).1
    simp at hj2
    rw [Addr.add_lit, Nat.zero_add, hr1.cellAt j (by omega), ← hj, List.getElem?_take_of_lt (by omega)]) (fun u hu => hone u (List.mem_of_mem_take hu)) (by simp only [maxLen]; omega) (by omega) (Nat.le_refl _)
  have hB1 : Below W.heap.size W W1 := ⟨hg1.os, hg1.tape, hg1.output, hg1.size, fun k hk => hg1.block k hk (by simp [Value.ownBlock])⟩
  rw [Nat.zero_add, List.nil_append] at hO1
  have hr1' := own_kept (F := fun _ => False) hr1 (Fr.of_below hB1) (fun _ _ => id)
  have key2 := run_append_own_at (P := Try.prog) W1 W.heap.size 26 26 27 I _ 1 24 Try.underlying26 hI hz hs hby rfl (by decide) v1 i (vs.take i) hO1 ⟨g, i + 1, none⟩ (M.length - (i + 1)) (cap - (i + 1)) (vs.drop (i + 1)) (by simp; omega) (fun j x hj => by
    have hj2 := (List.getElem?_eq_some_iff.1 hj).1
    simp at hj2
    rw [Addr.add_lit, hr1'.cellAt (i + 1 + j) (by omega), ← hj, List.getElem?_drop]) (fun u hu => hone u (List.mem_of_mem_drop hu)) (by simp only [maxLen]; omega) (by omega) hB1.size
  obtain ⟨v2, W2, hrun2, hO2, hg2, _, _⟩ := key2
  have hB2 : Below W.heap.size W W2 := hB1.grown hg2 hB1.size (fun k hk => (hO1.lt k hk).1)
  have hlen : (M.eraseIdx i).length = M.length - 1 := by rw [List.length_eraseIdx]; simp [hi]
  have hO2' : W2.ownsRow b 27 1 v2 (M.eraseIdx i).length (vs.eraseIdx i) := by
    rw [hlen, List.eraseIdx_eq_take_drop_succ, show M.length - 1 = i + (M.length - (i + 1)) by omega]
    exact own_base hO2 (fun k hk => Nat.le_trans hb (hO2.lt k hk).1)
  have hkeep3 : ∀ {n' : Nat} {x : Value} {ys : List Value}, W.ownsRow b 3 1 x n' ys → W2.ownsRow b 3 1 x n' ys := fun ho => own_kept (F := fun _ => False) ho (Fr.of_below hB2) (fun _ _ => id)
  refine ⟨v1, W1, v2, W2, fun ty => hrun1, fun ty => hrun2, own_slice hO1, ?_, ⟨vs.eraseIdx i, hO2', by rw [List.length_eraseIdx, List.length_eraseIdx, hr2], fun j hj => ?_⟩, hB1, hB2⟩
  · rcases own_shape hO2' with ⟨e, h0⟩ | ⟨g', c', e, _⟩
    · rw [hlen] at h0
      exact ⟨none, 0, by rw [e, h0]⟩
    · exact ⟨_, c', by rw [e, hlen]⟩
  · rw [hlen] at hj
    by_cases hji : j < i
    · obtain ⟨u, hu, ho⟩ := hr3 j (by omega)
      refine ⟨u, by rw [List.getElem?_eraseIdx_of_lt hji]; exact hu, ?_⟩
      rw [List.getElem_eraseIdx_of_lt (by omega) hji]
      exact hkeep3 ho
    · obtain ⟨u, hu, ho⟩ := hr3 (j + 1) (by omega)
      refine ⟨u, by rw [List.getElem?_eraseIdx_of_ge (by omega)]; exact hu, ?_⟩
      rw [List.getElem_eraseIdx_of_ge (by omega) (by omega)]
      exact hkeep3 ho
end Go.Proofs.Ytfjcadkihnecdaa

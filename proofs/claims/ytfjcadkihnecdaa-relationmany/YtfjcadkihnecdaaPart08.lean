/- The walks of All, eq, less and rows. The walks of slices.Clone at keys, of copied and of Copy. The walks of slices.Insert and slices.Delete at files. The walks of slices.Insert in the middle, and slices.Delete, at files. -/
import Derived.Test.YtfjcadkihnecdaaPart07
import Derived.Laws.OwnMore
import Derived.Test.YtfjcadkihnecdaaPart05
import Derived.Test.YtfjcadkihnecdaaPart03
import Derived.Test.YtfjcadkihnecdaaPart01
import Derived.Test.YtfjcadkihnecdaaRows
import Derived.WalkKit
import Derived.BigQuiet
import Derived.Deep.RegionLaw
import Derived.Laws.Externs
import Derived.Lib.SliceRun
import Derived.Test.YtfjcadkihnecdaaPart02
namespace Go.Proofs.Ytfjcadkihnecdaa
open Go.RowKit Go.Shelf

theorem made0 (n : Nat) : (madeCells (Value.int .i64 0).cells (n * 1)).toList = cI (List.replicate n 0) := by
  apply List.ext_getElem
  · simp [madeCells, cI]
  · intro i h1 h2
    simp [madeCells, cI, Value.cells, Nat.mod_one]
theorem ans_zero : ∀ (x : List Int) (n : Nat), ansB (List.replicate n 0) x = true
  | [], n => by simp [ansB]
  | x :: xs, 0 => rfl
  | x :: xs, n + 1 => by
    have := ans_zero xs n
    simp only [ansB, List.replicate_succ, List.zip_cons_cons, List.all_cons] at this ⊢
    rw [this]
    rfl

set_option maxHeartbeats 800000 in
theorem all_any {w : World} {p wd : Nat} {F : Nat → Prop} {R : List (List Int)} (h : St w p wd F R) (hl : R.length ≤ 1000000000) :
    Calls Try.prog 15 #[.pointer (some ⟨p, 0, none⟩)] w fun e W' => ∃ v', e = .returned v' ∧ Rw w.heap.size W' v' R ∧ Below w.heap.size w W' := by
  have h4 : wd ≤ 4 := by obtain ⟨_, _, _, h⟩ := h; exact h.le
  obtain ⟨i, hi, hz, hs, hby⟩ := info_parts Try.inf3
  obtain ⟨W2, hmk, hown, hgr⟩ := run_makeSlice_full (P := Try.prog) w w.heap.size 32 3 i _ 1 Try.underlying32 hi hz hs .i64 .i64 wd (by omega) (by rw [hby]; omega) (by simp only [maxLen]; omega) (Nat.le_refl _)
  rw [made0 wd] at hown
  have hW2 : Below w.heap.size w W2 := ⟨hgr.os, hgr.tape, hgr.output, hgr.size, fun k hk => hgr.block k hk (by simp)⟩
  have hI : Is W2 (.slice (some ⟨w.heap.size, 0, none⟩) wd wd) (List.replicate wd 0) := Is.of_own (by rw [List.length_replicate]; exact hown)
  have HM := hide (match_any (h.below hW2) _ _ hI (by simp) hl)
  have hf : R.filter (ansB (List.replicate wd 0)) = R := List.filter_eq_self.2 fun x _ => ans_zero x wd
  rw [hf] at HM
  have HW2 := hide hW2
  have c0 : w.cell? ⟨p, 0, none⟩ = some (.int .i64 (wd : Int)) := by
    obtain ⟨_, _, _, h⟩ := h
    exact h.box.c 0
  clear hf hI hown hgr hW2 hi hz hs hby h
  have hwI : (wd : Int) ≤ 4 := by omega
  go_enter Try.func15, Try.ntmps15
  go_wp2_with (go_at_call 13; refine Calls.mono HM.out ?_; rintro e W3 ⟨v', rfl, hR, hb⟩; have HR := hide hR; have HB := hide (HW2.out.trans (hb.mono HW2.out.size)); obtain ⟨ao3, cap3, hv3⟩ := hR.len; subst hv3; clear hR hb)
  go_ret
  refine ⟨_, rfl, ?_, HB.out⟩
  obtain ⟨vs, r1, r2, r3⟩ := HR.out
  have hs2 := HW2.out.size
  exact ⟨vs, own_base r1 (fun k hk => Nat.le_trans hs2 (r1.lt k hk).1), r2, fun j hj => by obtain ⟨u, hu, ho⟩ := r3 j hj; exact ⟨u, hu, own_base ho (fun k hk => Nat.le_trans hs2 (ho.lt k hk).1)⟩⟩

set_option maxHeartbeats 800000 in
theorem eq_any (va vb : Value) (xs ys : List Int) (w : World) (hx : Is w va xs) (hy : Is w vb ys) :
    Calls Try.prog 8 #[va, vb] w fun e w' => e = .returned (.bool (decide (xs = ys))) ∧ Below w.heap.size w w' := by
  obtain ⟨ao, cap, rfl, h1, h2, h4⟩ := hx
  obtain ⟨bo, bcap, rfl, k1, k2, k4⟩ := hy
  have HX := hide h4
  have HY := hide k4
  have hl1 : xs.length ≤ 9223372036854775807 := by simp only [maxLen] at h2; omega
  have hl2 : ys.length ≤ 9223372036854775807 := by simp only [maxLen] at k2; omega
  clear h4 k4 h1 h2 k1 k2
  by_cases hl : xs.length = ys.length
  · obtain ⟨N, hN⟩ : ∃ N, ys.length = N := ⟨_, rfl⟩
    rw [hN] at hl HY ⊢
    rw [hl] at HX hl1 ⊢
    have HlX := hide hl
    have HlY := hide hN
    clear hl hN hl2
    go_enter Try.func8, Try.ntmps8
    go_wp2
    go_loopw [5] (fun i wr => ∃ k : Nat, k ≤ N ∧ i = .int .i64 k ∧ Hid (xs.take k = ys.take k) ∧ Hid (Below w.heap.size w wr)) (fun i _ => N - (intOf i).toNat)
    case atStart => exact ⟨0, Nat.zero_le _, rfl, rfl, Below.refl _ _⟩
    case round =>
      obtain ⟨k, hk, rfl, HM, HB⟩ := hrel
      by_cases hlt : k < N
      · obtain ⟨g, off, rfl, hc⟩ := HX.out (by omega)
        obtain ⟨g', off', rfl, hd⟩ := HY.out (by omega)
        have c0 := cell_below' (hc k hlt) HB.out
        have d0 := cell_below' (hd k hlt) HB.out
        have hltI : (k : Int) < (N : Int) := by omega
        have hx1 : xs.take (k + 1) = xs.take k ++ [atI xs k] := by
          have := HlX.out
          rw [List.take_succ_eq_append_getElem (by omega), atI, List.getD, List.getElem?_eq_getElem (by omega)]
          rfl
        have hy1 : ys.take (k + 1) = ys.take k ++ [atI ys k] := by
          have := HlY.out
          rw [List.take_succ_eq_append_getElem (by omega), atI, List.getD, List.getElem?_eq_getElem (by omega)]
          rfl
        have HE : Hid (atI xs k = atI ys k → xs.take (k + 1) = ys.take (k + 1)) := fun e => by rw [hx1, hy1, e, HM.out]
        have HNE : Hid (atI xs k ≠ atI ys k → decide (xs = ys) = false) := fun e => by
          rw [decide_eq_false]
          rintro rfl
          exact e rfl
        generalize atI xs k = x at *
        generalize atI ys k = y at *
        clear hc hd HM hx1 hy1
        by_cases e : x = y
        · have HE1 := hide (HE.out e)
          subst e
          have g1 : (x != x) = false := by simp
          go_wp2_with fail
          go_big_quiet (fail)
          have HBz := hide (HB.out.trans ((below_drewN wr nq).mono HB.out.size))
          go_wp2_with fail
          go_roundw
          case rel => exact ⟨k + 1, by omega, by simp, HE1, by assumption⟩
          case measure => simp [intOf]; omega
        · have HE1 := hide (HNE.out e)
          have g1 : (x != y) = true := by simpa using e
          go_wp2_with fail
          go_big_quiet (fail)
          have HBz := hide (HB.out.trans ((below_drewN wr nq).mono HB.out.size))
          go_wp2_with fail
          go_ret
          exact ⟨by rw [HE1.out]; rfl, HBz.out⟩
      · have hltI : ¬ (k : Int) < (N : Int) := by omega
        have HE1 : Hid (decide (xs = ys) = true) := by
          have := HM.out
          have e1 := HlX.out
          have e2 := HlY.out
          rw [List.take_of_length_le (by omega), List.take_of_length_le (by omega)] at this
          exact decide_eq_true this
        clear HM
        go_wp2_with fail
        go_ret
        exact ⟨by rw [HE1.out]; rfl, HB.out⟩
  · have HE1 : Hid (decide (xs = ys) = false) := by
      show _ = _
      rw [decide_eq_false]
      rintro rfl
      exact hl rfl
    have hg : ((xs.length : Int) != (ys.length : Int)) = true := by simp; omega
    have HL := hide hl
    clear hl
    go_enter Try.func8, Try.ntmps8
    go_wp2
    go_ret
    exact ⟨by rw [HE1.out]; rfl, Below.refl _ _⟩

set_option maxHeartbeats 800000 in
theorem less_any (va vb : Value) (xs ys : List Int) (w : World) (hx : Is w va xs) (hy : Is w vb ys) (hl : xs.length = ys.length) (hlt : Lt xs ys) :
    Calls Try.prog 17 #[va, vb] w fun e w' => e = .returned (.bool true) ∧ Below w.heap.size w w' := by
  obtain ⟨ao, cap, rfl, h1, h2, h4⟩ := hx
  obtain ⟨bo, bcap, rfl, k1, k2, k4⟩ := hy
  have HX := hide h4
  have HY := hide k4
  have hl1 : xs.length ≤ 9223372036854775807 := by simp only [maxLen] at h2; omega
  clear h4 k4 h1 h2 k1 k2
  obtain ⟨N, hN⟩ : ∃ N, ys.length = N := ⟨_, rfl⟩
  rw [hN] at hl HY ⊢
  rw [hl] at HX hl1 ⊢
  have HlX := hide hl
  have HlY := hide hN
  have HLT : Hid (cmpL xs ys < 0) := hlt
  clear hl hN hlt
  go_enter Try.func17, Try.ntmps17
  go_wp2
  go_loopw [5] (fun i wr => ∃ k : Nat, k ≤ N ∧ i = .int .i64 k ∧ Hid (cmpL (xs.drop k) (ys.drop k) < 0) ∧ Hid (Below w.heap.size w wr)) (fun i _ => N - (intOf i).toNat)
  case atStart => exact ⟨0, Nat.zero_le _, rfl, HLT, Below.refl _ _⟩
  case round =>
    obtain ⟨k, hk, rfl, HM, HB⟩ := hrel
    by_cases hlt : k < N
    · obtain ⟨g, off, rfl, hc⟩ := HX.out (by omega)
      obtain ⟨g', off', rfl, hd⟩ := HY.out (by omega)
      have c0 := cell_below' (hc k hlt) HB.out
      have d0 := cell_below' (hd k hlt) HB.out
      have hltI : (k : Int) < (N : Int) := by omega
      have HM2 : Hid ((if atI xs k < atI ys k then (-1 : Int) else if atI ys k < atI xs k then 1 else cmpL (xs.drop (k + 1)) (ys.drop (k + 1))) < 0) := by
        have := HM.out
        rw [atI_at (ns := xs) (by rw [HlX.out]; exact hlt), atI_at (ns := ys) (by rw [HlY.out]; exact hlt)] at this
        exact this
      generalize atI xs k = x at *
      generalize atI ys k = y at *
      clear hc hd HM
      by_cases e : x = y
      · have HE1 : Hid (cmpL (xs.drop (k + 1)) (ys.drop (k + 1)) < 0) := by
          have := HM2.out
          rw [if_neg (by omega), if_neg (by omega)] at this
          exact this
        subst e
        have g1 : (x != x) = false := by simp
        clear HM2
        go_wp2_with fail
        go_big_quiet (fail)
        have HBz := hide (HB.out.trans ((below_drewN wr nq).mono HB.out.size))
        go_wp2_with fail
        go_roundw
        case rel => exact ⟨k + 1, by omega, by simp, HE1, by assumption⟩
        case measure => simp [intOf]; omega
      · have hxy : x < y := by
          have := HM2.out
          by_cases h : x < y
          · exact h
          · rw [if_neg h, if_pos (by omega)] at this
            omega
        have g1 : (x != y) = true := by simpa using e
        have g2 : decide (x < y) = true := by simpa using hxy
        clear HM2
        go_wp2_with fail
        go_big_quiet (fail)
        have HBz := hide (HB.out.trans ((below_drewN wr nq).mono HB.out.size))
        have c0 : (wr.drewN nq).cell? ⟨g, off + k, none⟩ = some (.int .i64 x) := c0
        have d0 : (wr.drewN nq).cell? ⟨g', off' + k, none⟩ = some (.int .i64 y) := d0
        generalize wr.drewN nq = W4 at *
        go_wp2_with fail
        go_big_quiet (fail)
        have HBy := hide (HBz.out.trans ((below_drewN W4 nq).mono HBz.out.size))
        go_wp2_with fail
        go_ret
        exact ⟨rfl, by first | exact HBy.out | assumption⟩
    · exfalso
      have := HM.out
      have e1 := HlX.out
      have e2 := HlY.out
      rw [drop_nil xs (by omega), drop_nil ys (by omega)] at this
      simp [cmpL] at this

/-- A slice value that reads as these rows. -/
def Rs (w : World) (v : Value) (L : List (List Int)) : Prop :=
  ∃ ao cap, v = .slice ao L.length cap ∧ L.length ≤ cap ∧ cap ≤ maxLen ∧ (0 < L.length → ∃ g off, ao = some ⟨g, off, none⟩ ∧ ∀ i (h : i < L.length), ∃ u, w.cell? ⟨g, off + i, none⟩ = some u ∧ Is w u L[i])
theorem Rs.below {w w' : World} {v : Value} {L : List (List Int)} (h : Rs w v L) (hb : Below w.heap.size w w') : Rs w' v L := by
  obtain ⟨ao, cap, hv, h1, h2, h4⟩ := h
  refine ⟨ao, cap, hv, h1, h2, fun hp => ?_⟩
  obtain ⟨g, off, ha, hc⟩ := h4 hp
  exact ⟨g, off, ha, fun j hj => by obtain ⟨u, hu, hi⟩ := hc j hj; exact ⟨u, cell_below' hu hb, hi.below hb⟩⟩
theorem Rw.rs {b : Nat} {w : World} {v : Value} {L : List (List Int)} (h : Rw b w v L) : Rs w v L := by
  obtain ⟨vs, h1, h2, h3⟩ := h
  rcases own_shape h1 with ⟨rfl, h0⟩ | ⟨g, cap, e, hc, hm, _⟩
  · have : L = [] := List.eq_nil_of_length_eq_zero h0
    subst this
    exact ⟨none, 0, rfl, Nat.le_refl _, by simp [maxLen], fun h => by simp at h⟩
  · subst e
    refine ⟨_, cap, rfl, hc, hm, fun _ => ⟨g, 0, rfl, fun i hi => ?_⟩⟩
    obtain ⟨u, hu, ho⟩ := h3 i hi
    exact ⟨u, by rw [Nat.zero_add, h1.cellAt i (by omega)]; exact hu, Is.of_own ho⟩
end Go.Proofs.Ytfjcadkihnecdaa
namespace Go.Proofs.Ytfjcadkihnecdaa
open Go.RowKit

theorem Ks.cells {W : World} {a : Addr} {n cap : Nat} {ks : List Ky} (h : Ks W (.slice (some a) n cap) ks) : n = ks.length ∧ ∀ j u, (cellsK ks)[j]? = some u → W.cell? (a.add j) = some u := by
  obtain ⟨ao, cap', e, h1, h2, h4⟩ := h
  simp only [Value.slice.injEq] at e
  obtain ⟨rfl, rfl, rfl⟩ := e
  refine ⟨rfl, fun j u hj => ?_⟩
  have hjl : j < (cellsK ks).length := (List.getElem?_eq_some_iff.1 hj).1
  rw [cellsK_len] at hjl
  obtain ⟨g, off, e, hc⟩ := h4 (by omega)
  cases e
  have hq : j / 4 < ks.length := by omega
  obtain ⟨k0, k1, k2, k3⟩ := hc (j / 4) hq
  obtain ⟨c0, c1, c2, c3⟩ := cellsK_get ks (j / 4) hq
  rw [Addr.add_lit]
  have hm : j % 4 = 0 ∨ j % 4 = 1 ∨ j % 4 = 2 ∨ j % 4 = 3 := by omega
  rcases hm with hm | hm | hm | hm
  · rw [show j = j / 4 * 4 by omega] at hj ⊢
    rw [c0] at hj; rw [k0]; exact hj
  · rw [show j = j / 4 * 4 + 1 by omega] at hj ⊢
    rw [c1] at hj; rw [← Nat.add_assoc, k1]; exact hj
  · rw [show j = j / 4 * 4 + 2 by omega] at hj ⊢
    rw [c2] at hj; rw [← Nat.add_assoc, k2]; exact hj
  · rw [show j = j / 4 * 4 + 3 by omega] at hj ⊢
    rw [c3] at hj; rw [← Nat.add_assoc, k3]; exact hj

set_option maxHeartbeats 800000 in
theorem cloneK (a : Addr) (n cap : Nat) (ks : List Ky) (W : World) (h : Ks W (.slice (some a) n cap) ks) (hpos : 0 < ks.length) (hl : ks.length ≤ 1000000000) :
    Calls Try.prog 42 #[.slice (some a) n cap] W fun e W' => ∃ g cap', e = .returned (.slice (some ⟨g, 0, none⟩) ks.length cap') ∧ W.heap.size ≤ g ∧ W'.ownsRow W.heap.size 47 4 (.slice (some ⟨g, 0, none⟩) ks.length cap') ks.length (cellsK ks) ∧ Below W.heap.size W W' := by
  obtain ⟨rfl, _⟩ := h.cells
  obtain ⟨i, hi, hz, hs, hby⟩ := info_parts inf47'
  have hb := below_box W (.cells #[] 47)
  obtain ⟨_, hc⟩ := (h.below hb).cells
  have he := fun w => Lib.run_eql_slice_nil (P := Try.prog) w 65 47 (some a) ks.length cap 0 0 Try.underlying65
  obtain ⟨d, W', hr, hO, hg, _, hat⟩ := run_append_own_at (P := Try.prog) (W.alloc (.cells #[] 47)) W.heap.size 65 65 47 i _ 4 32 Try.underlying65 hi hz hs hby rfl (by decide) (.slice (some ⟨W.heap.size, 0, none⟩) 0 0) 0 [] (World.ownsRow_made W #[] 0 (Nat.le_refl _) (by simp [maxLen]) rfl) a ks.length cap (cellsK ks) (cellsK_len ks) hc (cellsK_one ks) (by simp only [maxLen]; omega) (by omega) (by simp)
  have hO' : W'.ownsRow W.heap.size 47 4 d ks.length (cellsK ks) := by simpa using hO
  have hB' : Below W.heap.size W W' := ((Below.refl _ _).alloc (Nat.le_refl _) _).grown hg (by simp) (fun k hk => by simp [Value.ownBlock] at hk; omega)
  obtain ⟨g, cap', rfl⟩ : ∃ g cap', d = .slice (some ⟨g, 0, none⟩) ks.length cap' := by
    rcases own_shape hO' with ⟨_, h0⟩ | ⟨g, cap', e, _⟩
    · omega
    · exact ⟨g, cap', e⟩
  have HE : Hid (W.heap.size ≤ g ∧ W'.ownsRow W.heap.size 47 4 (.slice (some ⟨g, 0, none⟩) ks.length cap') ks.length (cellsK ks) ∧ Below W.heap.size W W') := ⟨(hO'.lt g rfl).1, hO', hB'⟩
  have hap : ∀ ty, (Builtin.append_ #[65, 65] ty #[.slice (some ⟨W.heap.size, 0, none⟩) 0 0, .slice (some a) ks.length cap]).run Try.prog (W.alloc (.cells #[] 47)) = .ok (.slice (some ⟨g, 0, none⟩) ks.length cap') W' := fun ty => hr
  clear hO hg hat hr hc hO' hB' h hi hz hs hby hb
  go_enter Try.func42, Try.ntmps42
  go_wp2_with (at_builtin; refine Lib.wpList_append_run _ rfl _ _ _ _ rfl _ _ rfl rfl _ _ (hap _) ?_)
  go_ret
  exact ⟨g, cap', rfl, HE.out⟩

theorem Try.inf65' : (Try.prog.info? 65).map (fun i => (i.zero, i.size, i.bytes)) = some (some (.slice none 0 0), 1, 24) := by kernel_rfl
theorem madeN (n : Nat) : (madeCells (Value.slice none 0 0).cells (n * 1)).toList = List.replicate n (.slice none 0 0) := by
  apply List.ext_getElem
  · simp [madeCells]
  · intro i h1 h2
    simp [madeCells, Value.cells, Nat.mod_one]

/-- The pages that have been copied so far. -/
structure Cp (w W : World) (g n i : Nat) (zs ys : List Pg) : Prop where
  row : W.ownsRow w.heap.size 65 1 (.slice (some ⟨g, 0, none⟩) n n) n (dvs ys ++ List.replicate (n - i) (.slice none 0 0))
  len : ys.length = i
  ks : ys.map Pg.ks = (zs.take i).map Pg.ks
  data : ∀ y ∈ ys, W.ownsRow w.heap.size 47 4 y.dv y.ks.length (cellsK y.ks)
  apart : ys.Pairwise Apart
  below : Below w.heap.size w W
  ge : w.heap.size ≤ g

/-- What copied gives. -/
def CpR (w : World) (zs : List Pg) (e : Ending) (W' : World) : Prop := ∃ v' ys, e = .returned v' ∧ (∃ ao N cap, v' = .slice ao N cap) ∧ Pgs W' v' ys ∧ ys.map Pg.ks = zs.map Pg.ks ∧ (∀ k, foot v' ys k → w.heap.size ≤ k) ∧ Below w.heap.size w W'

set_option maxHeartbeats 1600000 in
theorem copied_any (v : Value) (zs : List Pg) (w : World) (hv : Ps w v zs) (hne : ∀ z ∈ zs, z.ks ≠ []) (hsz : ∀ z ∈ zs, z.ks.length ≤ 1000000000) (hl : zs.length ≤ 1000000000) :
    Calls Try.prog 29 #[v] w fun e W' => CpR w zs e W' := by
  obtain ⟨i, hi, hz, hs, hby⟩ := info_parts Try.inf65'
  obtain ⟨W2, hmk, hown, hgr⟩ := run_make_full (P := Try.prog) w w.heap.size 43 65 i _ 1 Try.underlying43 hi hz hs .i64 .i64 zs.length (by rw [hby]; omega) (by simp only [maxLen]; omega) (Nat.le_refl _)
  rw [madeN] at hown
  have hW2 : Below w.heap.size w W2 := ⟨hgr.os, hgr.tape, hgr.output, hgr.size, fun k hk => hgr.block k hk (by simp)⟩
  have HC0 : Hid (Cp w W2 w.heap.size zs.length 0 zs []) := ⟨by simpa [dvs] using hown, rfl, rfl, by simp, List.Pairwise.nil, hW2, Nat.le_refl _⟩
  have HV := hide hv
  have HNE := hide hne
  have HSZ := hide hsz
  obtain ⟨ao, cap, rfl, -⟩ := hv
  obtain ⟨N, hN⟩ : ∃ N, zs.length = N := ⟨_, rfl⟩
  have HN := hide hN
  rw [hN] at hmk HC0 hl ⊢
  clear hown hgr hW2 hi hz hs hby hne hsz hN
  go_enter Try.func29, Try.ntmps29
  go_wp2_with fail
  go_loopw [11] (fun iv wr => ∃ j ys, j ≤ N ∧ iv = .int .i64 (j : Nat) ∧ Hid (Cp w wr w.heap.size N j zs ys)) (fun iv _ => N - (intOf iv).toNat)
  case atStart => exact ⟨0, [], Nat.zero_le _, rfl, HC0⟩
  case round =>
    obtain ⟨j, ys, hj, rfl, HC⟩ := hrel
    by_cases hlt : j < N
    · have hltI : (j : Int) < (N : Int) := by omega
      have hjz : j < zs.length := by rw [HN.out]; exact hlt
      obtain ⟨ao', cap', e, h1, h2, h4⟩ := HV.out.below HC.out.below
      simp only [Value.slice.injEq] at e
      obtain ⟨rfl, -, rfl⟩ := e
      obtain ⟨g1, off1, rfl, hc⟩ := h4 (by omega)
      obtain ⟨cz, kz⟩ := hc j hjz
      have hzne := HNE.out zs[j] (List.getElem_mem hjz)
      have hzl := HSZ.out zs[j] (List.getElem_mem hjz)
      have hpos := List.length_pos_iff.2 hzne
      obtain ⟨a2, n2, cap2, hzv⟩ : ∃ a2 n2 cap2, zs[j].dv = .slice (some a2) n2 cap2 := by
        obtain ⟨ao2, cap2, e, _, _, h5⟩ := kz
        obtain ⟨g5, off5, e5, _⟩ := h5 hpos
        exact ⟨_, _, cap2, by rw [e, e5]⟩
      rw [hzv] at cz kz
      have HCL := hide (cloneK a2 n2 cap2 zs[j].ks wr kz hpos hzl)
      have HTK : Hid ((zs.take (j + 1)).map Pg.ks = (zs.take j).map Pg.ks ++ [zs[j].ks]) := by
        show _ = _
        rw [List.take_succ_eq_append_getElem hjz]
        simp only [List.map_append, List.map_cons, List.map_nil]
      generalize zs[j].ks = ks at *
      have hrowc := HC.out.row
      have hst1 := hrowc.cellAt j (by omega)
      clear hc h4 h1 h2 hzv hzne hrowc
      have HCc : Hid (∀ W', Below wr.heap.size wr W' → Cp w W' w.heap.size N j zs ys) := fun W' hb => ⟨own_kept (F := fun _ => False) HC.out.row (Fr.of_below hb) (fun _ _ => id), HC.out.len, HC.out.ks, fun y hy => own_kept (F := fun _ => False) (HC.out.data y hy) (Fr.of_below hb) (fun _ _ => id), HC.out.apart, HC.out.below.trans (hb.mono HC.out.below.size), HC.out.ge⟩
      have HYL : Hid (∀ y ∈ ys, ∀ k, y.dv.ownBlock = some k → k < wr.heap.size) := fun y hy k hk => ((HC.out.data y hy).lt k hk).2
      clear hst1
      go_wp2_with fail
      refine Calls.mono HCL.out ?_
      rintro e w6 ⟨g6, cap6, rfl, hge6, hO6, hb6⟩
      have hcp := HCc.out w6 hb6
      have hr6 := hcp.row
      have hlen6 : ys.length = j := hcp.len
      have hcell : w6.cell? ⟨w.heap.size, j, none⟩ = some (.slice none 0 0) := by
        rw [hr6.cellAt j (by omega), List.getElem?_append_right (by rw [dvs_len]; omega), dvs_len, hlen6, Nat.sub_self]
        rw [show N - j = (N - j - 1) + 1 by omega, List.replicate_succ]
        rfl
      have hfz := hr6.frozenAt j
      have HC7 : Hid (Cp w (w6.setCell ⟨w.heap.size, j, none⟩ (.slice (some ⟨g6, 0, none⟩) ks.length cap6)) w.heap.size N (j + 1) zs (ys ++ [⟨.slice (some ⟨g6, 0, none⟩) ks.length cap6, ks⟩])) := by
        have hst := hr6.stored j (.slice (some ⟨g6, 0, none⟩) ks.length cap6)
        have hs6 := hcp.below.size
        have hO6' : w6.ownsRow w.heap.size 47 4 (.slice (some ⟨g6, 0, none⟩) ks.length cap6) ks.length (cellsK ks) := own_base hO6 (fun k hk => by simp [Value.ownBlock] at hk; have := HC.out.below.size; omega)
        have hk47 : ∀ {x : Value} {m : Nat} {cs : List Value}, w6.ownsRow w.heap.size 47 4 x m cs → (w6.setCell ⟨w.heap.size, j, none⟩ (.slice (some ⟨g6, 0, none⟩) ks.length cap6)).ownsRow w.heap.size 47 4 x m cs := fun ho => grown_keep ho hst.2 (fun k e e2 => own_ne hr6 ho (by decide) rfl (by rw [e2, ← e]))
        refine ⟨?_, by simp [hlen6], ?_, fun y hy => ?_, ?_, ?_, Nat.le_refl _⟩
        · have e2 : (dvs ys ++ List.replicate (N - j) (Value.slice none 0 0)).set j (.slice (some ⟨g6, 0, none⟩) ks.length cap6) = dvs (ys ++ [⟨.slice (some ⟨g6, 0, none⟩) ks.length cap6, ks⟩]) ++ List.replicate (N - (j + 1)) (.slice none 0 0) := by
            rw [List.set_append_right _ _ (by rw [dvs_len]; omega), dvs_len, hlen6, Nat.sub_self, show N - j = (N - (j + 1)) + 1 by omega, List.replicate_succ, List.set_cons_zero]
            simp [dvs]
          rw [← e2]
          exact hst.1
        · rw [HTK.out, List.map_append, hcp.ks]; rfl
        · rcases List.mem_append.1 hy with hy | hy
          · exact hk47 (hcp.data y hy)
          · simp at hy
            subst hy
            exact hk47 hO6'
        · refine List.pairwise_append.2 ⟨hcp.apart, List.pairwise_singleton _ _, fun y hy z hz k hk => ?_⟩
          simp at hz
          subst hz
          have := HYL.out y hy k hk
          simp only [Value.ownBlock]
          intro e
          cases e
          omega
        · exact hcp.below.setCell (p := ⟨w.heap.size, j, none⟩) (Nat.le_refl _) _
      clear HCL HCc hcp hr6 hO6 hb6 hge6 HYL
      go_wp2_with fail
      go_roundw
      case rel => exact ⟨j + 1, _, by omega, by simp, HC7⟩
      case measure => simp [intOf]; omega
    · have hltI : ¬ (j : Int) < (N : Int) := by omega
      have e : j = N := by omega
      subst e
      have HE : Hid (Pgs wr (.slice (some ⟨w.heap.size, 0, none⟩) j j) ys ∧ ys.map Pg.ks = zs.map Pg.ks ∧ (∀ k, foot (.slice (some ⟨w.heap.size, 0, none⟩) j j) ys k → w.heap.size ≤ k) ∧ Below w.heap.size w wr) := by
        have hC := HC.out
        refine ⟨⟨?_, fun y hy => own_zero (hC.data y hy), hC.apart⟩, ?_, fun k hk => ?_, hC.below⟩
        · have := hC.row
          rw [Nat.sub_self, List.replicate_zero, List.append_nil] at this
          rw [hC.len]
          exact own_zero this
        · rw [hC.ks, List.take_of_length_le (by rw [HN.out]; omega)]
        · rcases hk with hk | ⟨y, hy, hk⟩
          · simp [Value.ownBlock] at hk; omega
          · exact ((hC.data y hy).lt k hk).1
      clear HC
      go_wp2_with fail
      go_ret
      exact ⟨_, ys, rfl, ⟨_, _, _, rfl⟩, HE.out⟩

set_option maxHeartbeats 1600000 in
theorem copy_any {w : World} {p wd : Nat} {F : Nat → Prop} {R : List (List Int)} (h : St w p wd F R) (hl : R.length ≤ 1000000000) :
    Calls Try.prog 14 #[.pointer (some ⟨p, 0, none⟩)] w fun e W' => ∃ q, e = .returned (.pointer (some ⟨q, 0, none⟩)) ∧ (∃ F', St W' q wd F' R ∧ ∀ k, F' k → w.heap.size ≤ k) ∧ Below w.heap.size w W' := by
  obtain ⟨v, zs, -, h⟩ := h
  have hsz := h.size
  have HC : Hid (∀ W, Below w.heap.size w W → Calls Try.prog 29 #[v] W fun e W' => CpR W zs e W') := fun W hW => copied_any v zs W (h.pgs.below hW).ps h.ne (fun z hz => by have := hsz.1 z hz; omega) (by omega)
  have HSV := hide h
  have c0 := h.box.c 0
  have c1 := h.box.c 1
  simp at c0 c1
  obtain ⟨ao, N, cap, rfl⟩ := own_slice h.pgs.row
  have HEND : Hid (∀ W3 ao' N' cap' ys, Below w.heap.size w W3 → Pgs W3 (.slice ao' N' cap') ys → ys.map Pg.ks = zs.map Pg.ks → (∀ k, foot (.slice ao' N' cap') ys k → w.heap.size ≤ k) → (∃ F', St (W3.alloc (.cells #[.int .i64 (wd : Int), .slice ao' N' cap'] 45)) W3.heap.size wd F' R ∧ ∀ k, F' k → w.heap.size ≤ k) ∧ Below w.heap.size w (W3.alloc (.cells #[.int .i64 (wd : Int), .slice ao' N' cap'] 45))) := fun W3 ao' N' cap' ys hb hP hk hf => by
    have h := HSV.out
    have hkk : keys ys = keys zs := by
      have e1 : keys ys = (ys.map Pg.ks).flatten := by simp [keys, List.flatMap]
      have e2 : keys zs = (zs.map Pg.ks).flatten := by simp [keys, List.flatMap]
      rw [e1, e2, hk]
    refine ⟨⟨_, ⟨_, ys, rfl, Bx.new W3 _ 45, hP.below (below_box _ _), hkk.trans h.ks, fun y hy => ?_, h.up, h.wid, h.le, h.min⟩, fun k hk' => ?_⟩, hb.trans ((below_box W3 _).mono hb.size)⟩
    · have : y.ks ∈ zs.map Pg.ks := by rw [← hk]; exact List.mem_map_of_mem hy
      obtain ⟨z, hz, e⟩ := List.mem_map.1 this
      rw [← e]
      exact h.ne z hz
    · rcases hk' with rfl | hk'
      · exact hb.size
      · exact hf k hk'
  clear h hsz
  have HS0 : Hid (w.drew.cell? ⟨p, 0, none⟩ = some (.int .i64 (wd : Int)) ∧ w.drew.cell? ⟨p, 1, none⟩ = some (.slice ao N cap)) := ⟨c0, c1⟩
  have HCW := hide (HC.out w.drew (Below.refl _ _).drew)
  go_enter Try.func14, Try.ntmps14
  go_wp2_with fail
  refine wp_region_noPanic ?_
  go_region_held (fun w' => w'.cell? ⟨p, 0, none⟩ = some (.int .i64 (wd : Int)) ∧ w'.cell? ⟨p, 1, none⟩ = some (.slice ao N cap))
    (first | with_reducible exact HS0.out | with_reducible exact m6.out | with_reducible exact m7.out _)
    (first | (go_at_call 29; (refine Calls.mono HCW.out ?_); rintro e w6 ⟨v6, ys, rfl, ⟨ao6, N6, cap6, rfl⟩, hP6, hk6, hf6, hb6⟩; have hbw : Below w.heap.size w w6 := (Below.refl _ w).drew.trans hb6; have m6 : Hid (w6.cell? ⟨p, 0, none⟩ = some (.int .i64 (wd : Int)) ∧ w6.cell? ⟨p, 1, none⟩ = some (.slice ao N cap)) := ⟨cell_below' c0 hbw, cell_below' c1 hbw⟩; have m7 : Hid (∀ o, (w6.alloc o).cell? ⟨p, 0, none⟩ = some (.int .i64 (wd : Int)) ∧ (w6.alloc o).cell? ⟨p, 1, none⟩ = some (.slice ao N cap)) := fun o => ⟨cell_below' m6.out.1 (below_box _ o), cell_below' m6.out.2 (below_box _ o)⟩; have HE6 := hide (HEND.out w6 ao6 N6 cap6 ys hbw hP6 hk6 hf6); clear hP6 hk6 hf6 hb6 hbw))
  all_goals refine NoPanic.normal ?_
  all_goals go_wp2_with fail
  all_goals go_ret
  all_goals exact ⟨_, rfl, HE6.out⟩
end Go.Proofs.Ytfjcadkihnecdaa
namespace Go.Proofs.Ytfjcadkihnecdaa.P
open Go.RowKit

theorem Try.info65I : (Try.prog.info? 65).map (fun i => (i.zero, i.size, i.bytes)) = some (some (.slice none 0 0), 1, 24) := by kernel_rfl

set_option maxHeartbeats 1000000 in
theorem insert_end (v : Value) (n vb : Nat) (xs : List Value) (s : Value) (w : World) (h : w.ownsRow 0 65 1 v n xs) (hn : n ≤ 1000000000) (hvb : w.heap[vb]? = some (.cells #[s] 65 (0, 0))) (hs : s.oneCell' = true) :
    Calls Try.prog 46 #[v, .int .i64 n, .slice (some ⟨vb, 0, none⟩) 1 1] w fun e w' => ∃ v', e = .returned v' ∧ w'.ownsRow 0 65 1 v' (n + 1) (xs ++ [s]) ∧ w.grownBy w' v.ownBlock ∧ (v'.ownBlock = v.ownBlock ∨ v'.ownBlock = some w.heap.size) := by
  obtain ⟨i, hi, hz0, hz1, hz2⟩ := info_parts Try.info65I
  have hcell : ∀ j u, [s][j]? = some u → w.cell? ((⟨vb, 0, none⟩ : Addr).add j) = some u := by
    intro j u hj
    rw [Addr.add_lit, Nat.zero_add, cell_of_row w vb j _ 65 _ hvb]
    simpa using hj
  obtain ⟨v', w', hr, hO, hg, _, hat⟩ := run_append_own_at (P := Try.prog) w 0 43 43 65 i _ 1 24 Try.underlying43 hi hz0 hz1 hz2 rfl (by decide) v n xs h ⟨vb, 0, none⟩ 1 1 [s] rfl hcell (by simp [hs]) (by simp only [maxLen]; omega) (by omega) (Nat.zero_le _)
  have HX : Hid (w'.ownsRow 0 65 1 v' (n + 1) (xs ++ [s]) ∧ w.grownBy w' v.ownBlock ∧ (v'.ownBlock = v.ownBlock ∨ v'.ownBlock = some w.heap.size)) := ⟨hO, hg, hat⟩
  clear hO hg hat hcell
  rcases own_shape h with ⟨rfl, rfl⟩ | ⟨g, cap, rfl, hc1, hc2, hc3⟩
  · have hr' : ∀ ty, (Builtin.append_ #[43, 42] ty #[.slice none 0 0, .slice (some ⟨vb, 0, none⟩) 1 1]).run Try.prog w = .ok v' w' := fun ty => by
      rw [append_types w 43 65 ty 42 43 65 65 i _ _ _ _ Try.underlying43 hi Try.underlying42 Try.underlying43]
      exact hr
    clear h hr hi hz0 hz1 hz2
    go_enter Try.func46, Try.ntmps46
    go_wp2_with (at_builtin; refine Lib.wpList_append_run _ rfl _ _ _ _ rfl _ _ rfl rfl _ _ (hr' _) ?_)
    go_ret
    exact ⟨_, rfl, HX.out⟩
  · have hr' : ∀ ty, (Builtin.append_ #[43, 42] ty #[.slice (some ⟨g, 0, none⟩) n cap, .slice (some ⟨vb, 0, none⟩) 1 1]).run Try.prog w = .ok v' w' := fun ty => by
      rw [append_types w 43 65 ty 42 43 65 65 i _ _ _ _ Try.underlying43 hi Try.underlying42 Try.underlying43]
      exact hr
    have hc2' : cap ≤ 9223372036854775807 := hc2
    clear h hr hi hz0 hz1 hz2 hc2
    go_enter Try.func46, Try.ntmps46
    go_wp2_with (at_builtin; refine Lib.wpList_append_run _ rfl _ _ _ _ rfl _ _ rfl rfl _ _ (hr' _) ?_)
    all_goals go_ret
    all_goals exact ⟨_, rfl, HX.out⟩
end Go.Proofs.Ytfjcadkihnecdaa.P
namespace Go.Proofs.Ytfjcadkihnecdaa.P
open Go.RowKit

open K (wpList_copy_run step_copy_run shape_of_heap frozen_of_heap some_of_heap)

set_option maxHeartbeats 2000000 in
set_option maxRecDepth 20000 in
theorem insert_shift (g n cap i vb : Nat) (xs : List Value) (s : Value) (w : World) (h : w.ownsRow 0 65 1 (.slice (some ⟨g, 0, none⟩) n cap) n xs) (hi : i < n) (hn : n ≤ 1000000000) (hroom : n + 1 ≤ cap) (hvb : w.heap[vb]? = some (.cells #[s] 65 (0, 0))) (hne : vb ≠ g) (hs : s.oneCell' = true) (h1 : ∀ u ∈ xs, u.oneCell' = true) :
    Calls Try.prog 46 #[.slice (some ⟨g, 0, none⟩) n cap, .int .i64 i, .slice (some ⟨vb, 0, none⟩) 1 1] w fun e w' => ∃ v', e = .returned v' ∧ w'.ownsRow 0 65 1 v' (n + 1) (xs.take (i) ++ [s] ++ xs.drop (i)) ∧ w.grownBy w' (some g) ∧ v'.ownBlock = some g := by
  obtain ⟨I, hI, hz0, hz1, hz2⟩ := info_parts Try.info65I
  obtain ⟨cur, hg, hcm, hcs, htk⟩ : ∃ cur : Array Value, w.heap[g]? = some (.cells cur 65 (0, 0)) ∧ cap ≤ maxLen ∧ cur.size = cap ∧ cur.toList.take (n) = xs := by
    rcases h.2 with ⟨hv, _⟩ | ⟨g', cap', cur, e, _, hg, _, hc, hs, ht⟩
    · simp at hv
    · simp only [Value.slice.injEq, Option.some.injEq, Addr.mk.injEq, and_true, true_and] at e
      obtain ⟨rfl, rfl⟩ := e
      exact ⟨cur, hg, hc, by simpa using hs, by simpa using ht⟩
  have hxl : xs.length = n := by simpa using h.1
  have hcap : cap ≤ 9223372036854775807 := hcm
  have hgd : w.drew.heap[g]? = some (.cells cur 65 (0, 0)) := hg
  have hov : ∀ lb cb, (callFunc 49 #[.slice (some ⟨vb, 0, none⟩) 1 1, .slice (some ⟨g, (i + 1), none⟩) lb cb]).run Try.prog w = .ok (.value (.bool false)) w := fun lb cb => by
    rw [run_callFunc_extern Try.func49 (by kernel_rfl) (by kernel_rfl) (by kernel_rfl) (e := Extern.SlicesOverlaps.overlaps #[42, 42] #[4]) (by kernel_rfl),
      Lib.run_overlaps_apart w 42 4 65 Try.underlying42 1 (fun w => by simp [sizeOf, typeInfo, hI, hz1]) ⟨vb, 0, none⟩ ⟨g, (i + 1), none⟩ 1 1 lb cb hne 65 65 1 (cap) (by rw [shape_of_heap hvb]; rfl) (by rw [shape_of_heap hg, hcs]) (by omega) (frozen_of_heap hvb 0) (frozen_of_heap hvb 1)]
    rfl
  have hdl : (xs.drop (i)).length = (n - i) := by rw [List.length_drop, hxl]
  have hcp1 : ∀ ty dc sc, (Builtin.copy_ #[43, 43] ty #[.slice (some ⟨g, (i + 1), none⟩) (n - i) dc, .slice (some ⟨g, i, none⟩) (n + 1 - i) sc]).run Try.prog w.drew = .ok (goInt (Nat.min (n + 1 - i) (n - i))) (w.drew.setCells g ((i + 1)) (xs.drop (i))) := fun ty dc sc =>
    run_copy_sz w.drew _ _ ty 65 I g ((i + 1)) _ dc ⟨g, i, none⟩ _ sc (xs.drop (i)) Try.underlying43 hI hz1 (by rw [hdl]; congr 1; simp only [Nat.min_def]; split <;> omega)
      (fun j v hj => by
        rw [Addr.add_lit, cell_of_row _ _ _ _ _ _ hgd]
        rw [← htk, List.getElem?_drop, List.getElem?_take] at hj
        split at hj
        · simpa using hj
        · simp at hj)
      (fun j hj => some_of_heap hgd _ (by omega)) (fun j hj => frozen_of_heap hgd _) (fun v hv => h1 v (List.mem_of_mem_drop hv))
  obtain ⟨W1, HW1⟩ : ∃ W1, Hid (W1 = w.drew.setCells g ((i + 1)) (xs.drop (i))) := ⟨w.drew.setCells g ((i + 1)) (xs.drop (i)), (rfl : _ = _)⟩
  have hH1 : W1.heap[g]? = some (.cells (put cur.toList ((i + 1)) (xs.drop (i))).toArray 65 (0, 0)) := by
    rw [HW1.out]; exact heap_setCells _ _ _ _ hgd (by rw [hdl]; omega)
  have hcl : cur.toList.length = cap := by rw [Array.length_toList, hcs]
  have hpl := put_len cur.toList ((i + 1)) (xs.drop (i)) (by rw [hdl, hcl]; omega)
  have hvb1 : W1.heap[vb]? = some (.cells #[s] 65 (0, 0)) := by rw [HW1.out, setCells_other _ _ _ _ hne]; exact hvb
  have hcp2 : ∀ ty dc, (Builtin.copy_ #[43, 42] ty #[.slice (some ⟨g, i, none⟩) (n + 1 - i) dc, .slice (some ⟨vb, 0, none⟩) 1 1]).run Try.prog W1 = .ok (goInt (Nat.min 1 (n + 1 - i))) (W1.setCells g (i) [s]) := fun ty dc =>
    run_copy_sz W1 _ _ ty 65 I g (i) _ dc ⟨vb, 0, none⟩ _ 1 [s] Try.underlying43 hI hz1 (by rw [show Nat.min 1 (n + 1 - i) = 1 by simp only [Nat.min_def]; split <;> omega]; rfl)
      (fun j v hj => by
        rw [Addr.add_lit, Nat.zero_add, cell_of_row _ _ _ _ _ _ hvb1]
        simpa using hj)
      (fun j hj => some_of_heap hH1 _ (by simp at hj; rw [List.size_toArray, hpl, hcl]; omega)) (fun j hj => frozen_of_heap hH1 _) (by simp [hs])
  have HE : Hid ((W1.setCells g (i) [s]).ownsRow 0 65 1 (.slice (some ⟨g, 0, none⟩) (n + 1) cap) (n + 1) (xs.take (i) ++ [s] ++ xs.drop (i)) ∧ w.grownBy (W1.setCells g (i) [s]) (some g)) := by
    refine ⟨own_of_heap (heap_setCells _ _ _ _ hH1 (by rw [List.size_toArray, hpl, hcl]; simp; omega)) hroom hcm ?_ ?_, ?_⟩
    · rw [List.size_toArray, put_len _ _ _ (by simp only [hpl, hcl]; simp; omega)]
      simp only [hpl, hcl, Nat.mul_one]
    · apply List.ext_getElem?
      intro j
      have e1 : (xs.take (i)).length = i := by simp; omega
      simp only
      rw [List.getElem?_take]
      split
      · rw [put_get _ _ _ (by rw [hpl, hcl]; simp; omega)]
        by_cases c1 : j < i
        · rw [if_neg (by omega), put_get _ _ _ (by rw [hdl, hcl]; omega), if_neg (by omega), List.append_assoc, List.getElem?_append_left (by omega), List.getElem?_take, if_pos c1, ← htk, List.getElem?_take, if_pos (by omega)]
        · by_cases c2 : j < i + 1
          · rw [if_pos (by simp; omega), List.append_assoc, List.getElem?_append_right (by omega), e1, List.getElem?_append_left (by simp; omega)]
          · rw [if_neg (by simp; omega), put_get _ _ _ (by rw [hdl, hcl]; omega), if_pos (by rw [hdl]; omega), List.getElem?_append_right (by simp; omega)]
            simp only [List.length_append, e1, List.length_cons, List.length_nil]
      · rw [List.getElem?_eq_none (by simp; omega)]
    · have hgr := grown_drew_left (grown_setCells g (xs.drop (i)) ((i + 1)) w.drew)
      rw [← HW1.out] at hgr
      exact hgr.trans (grown_setCells g [s] (i) W1)
  rw [← HW1.out] at hcp1
  have hz2' : ¬ ((i : Int) = (n : Int)) := by omega
  have hb2 : ¬ (cap = i + 1) := by omega
  have hb3 : (i : Int) ≤ (n : Int) + 1 := by omega
  have hb4 : ¬ (cap = i) := by omega
  have hb5 : ¬ (cap : Int) < (n : Int) + 1 := by omega
  have hb6 : (i : Int) < (n : Int) := by omega
  have hnr : (n : Int) + 1 ≤ (cap : Int) := by omega
  have hw1 : IntKind.i64.wrap ((i : Int) + 1) = (i : Int) + 1 := by rw [IntKind.wrap_i64]; omega
  have hb1 : (0 : Int) ≤ (i : Int) + 1 := by omega
  have htn : ((i : Int) + 1).toNat = i + 1 := by omega
  have hin : i ≤ n := by omega
  clear hcs htk hdl hgd hH1 hpl hvb1 hcl h hxl hcm h1 hg hvb hI hz0 hz1 hz2
  go_enter Try.func46, Try.ntmps46
  go_wp2_with (simp only [hov])
  go_region_law (refine step_copy_run rfl (.tmp 73) (.tmp 76) 43 43 rfl _ _ (by simp [Act.eval, Act.put]; rfl) (by simp [Act.eval, Act.put]; rfl) (hcp1 _ _ _) ?_)
  go_wp2_with (at_builtin; refine wpList_copy_run _ rfl _ _ 43 42 rfl _ _ rfl rfl (hcp2 _ _) ?_)
  go_ret
  exact ⟨_, rfl, HE.out.1, HE.out.2, rfl⟩
end Go.Proofs.Ytfjcadkihnecdaa.P

/- The walk of RelationAll. -/
import Derived.Test.YtfjcadkihnecdaaPart09
import Derived.Test.YtfjcadkihnecdaaPart07
import Derived.Deep.RegionLaw
import Derived.Test.YtfjcadkihnecdaaPart10
import Derived.Test.YtfjcadkihnecdaaPart03
import Derived.Deep.CutBlock
namespace Go.Proofs.Ytfjcadkihnecdaa
open Go.RowKit Go.Shelf

/-- The calls that are asked for, as they lie in memory. -/
def Os (w : World) (v : Value) (ops : List (Int × List Int)) : Prop :=
  ∃ ao cap, v = .slice ao ops.length cap ∧ ops.length ≤ 9223372036854775807 ∧ (0 < ops.length → ∃ g off, ao = some ⟨g, off, none⟩ ∧ ∀ i (h : i < ops.length), w.cell? ⟨g, off + i * 2, none⟩ = some (.int .i64 ops[i].1) ∧ ∃ ro rn rc, w.cell? ⟨g, off + i * 2 + 1, none⟩ = some (.slice ro rn rc) ∧ Is w (.slice ro rn rc) ops[i].2 ∧ (ro = none → rc = 0) ∧ ∀ x ∈ ops[i].2, -9223372036854775808 ≤ x)
theorem rem_five (x : Int) : ∃ (r : Int) (q : Nat), Int.tmod x 5 = r ∧ -4 ≤ r ∧ r ≤ 4 ∧ Int.tmod (r + 5) 5 = (q : Int) ∧ q < 5 := by
  have h1 := Int.tmod_lt_of_pos x (show (0 : Int) < 5 by decide)
  have h2 := Int.lt_tmod_of_pos x (show (0 : Int) < 5 by decide)
  have h3 := Int.tmod_lt_of_pos (Int.tmod x 5 + 5) (show (0 : Int) < 5 by decide)
  have h4 := Int.tmod_nonneg 5 (show 0 ≤ Int.tmod x 5 + 5 by omega)
  refine ⟨_, (Int.tmod (Int.tmod x 5 + 5) 5).toNat, rfl, ?_, ?_, ?_, ?_⟩ <;> omega

theorem Is.cut {w : World} {ao : Option Addr} {n cap : Nat} {r : List Int} (h : Is w (.slice ao n cap) r) (h6 : 6 ≤ r.length) : Is w (.slice ao 6 cap) (r.take 6) := by
  obtain ⟨ao', cap', e, h1, h2, h4⟩ := h
  simp only [Value.slice.injEq] at e
  obtain ⟨rfl, rfl, rfl⟩ := e
  have hl : (r.take 6).length = 6 := by simp; omega
  refine ⟨ao, cap, by rw [hl], by omega, h2, fun _ => ?_⟩
  obtain ⟨g, off, ha, hc⟩ := h4 (by omega)
  refine ⟨g, off, ha, fun j hj => ?_⟩
  rw [hl] at hj
  rw [hc j (by omega)]
  simp [atI, List.getD, List.getElem?_take_of_lt hj]

set_option maxRecDepth 20000 in
set_option maxHeartbeats 25600000 in
theorem all_law (x : Int) (v : Value) (ops : List (Int × List Int)) (w : World) (hv : Os w v ops) :
    Calls Try.prog 3 #[.int .i64 x, v] w fun e w' => e = .returned (.bool true) ∧ Below w.heap.size w w' := by
  obtain ⟨r5, wd, hr5, hra, hrb, hq5, hwd⟩ := rem_five x
  have hwr5 : IntKind.i64.wrap (r5 + 5) = r5 + 5 := by rw [IntKind.wrap_i64]; omega
  have h50 : ¬ (5 : Int) = 0 := by decide
  have HV := hide hv
  have HB := hide (begun_any w)
  obtain ⟨ao, cap, rfl, hol, -⟩ := hv
  obtain ⟨N, hN⟩ : ∃ N, ops.length = N := ⟨_, rfl⟩
  have HN := hide hN
  rw [hN] at hol ⊢
  rw [hN] at HV
  clear hN
  go_enter Try.func3, Try.ntmps3
  go_wp2_with fail
  refine Calls.mono HB.out ?_
  rintro e w1 ⟨rfl, hb1⟩
  have HW1 := hide hb1
  clear hb1 HB
  go_wp2_with fail
  refine Calls.mono (new_any wd (by omega) w1) ?_
  rintro e w2 ⟨rfl, rfl⟩
  obtain ⟨F0, hS0, hF0⟩ := St.new wd (by omega) w1
  have HA0 : Hid (∃ F R M, Al w (w1.alloc (.cells #[.int .i64 (wd : Int), .slice none 0 0] 45)) w1.heap.size wd (.slice none 0 0) F R M ∧ M.Perm R ∧ M.length = 0) :=
    ⟨F0, [], [], ⟨hS0, Mw.nil _ _, HW1.out.alloc HW1.out.size _, fun k hk => Nat.le_trans HW1.out.size (hF0 k hk)⟩, List.Perm.refl _, rfl⟩
  clear hS0 hF0 HW1
  generalize w1.alloc (.cells #[.int .i64 (wd : Int), .slice none 0 0] 45) = W0 at *
  generalize w1.heap.size = p at *
  go_wp2_with fail
  go_loopw [7, 8] (fun mv iv wr => ∃ (i n : Nat) (mo : Option Addr) (mc : Nat), i ≤ N ∧ i ≤ 60 ∧ n ≤ i ∧ mv = .slice mo n mc ∧ iv = .int .i64 (i : Nat) ∧ Hid (∃ F R M, Al w wr p wd (.slice mo n mc) F R M ∧ M.Perm R ∧ M.length = n)) (fun _ iv _ => 60 - (intOf iv).toNat)
  case atStart => exact ⟨0, 0, none, 0, by omega, by omega, by omega, rfl, rfl, HA0⟩
  case round =>
    obtain ⟨i, n, mo, mc, hiN, hi60, hni, rfl, rfl, HA⟩ := hrel
    clear HA0
    by_cases hlt : i < N ∧ i < 60
    · obtain ⟨hlt1, hlt2⟩ := hlt
      have hltI1 : (i : Int) < (N : Int) := by omega
      have hltI2 : (i : Int) < 60 := by omega
      have hwi : IntKind.i64.wrap ((i : Int) + 1) = (i : Int) + 1 := by rw [IntKind.wrap_i64]; omega
      obtain ⟨F, R, M, hA, hP, hMn⟩ := HA.out
      obtain ⟨ao', cap', e, -, h4⟩ := HV.out
      simp only [Value.slice.injEq] at e
      obtain ⟨rfl, -, rfl⟩ := e
      have hio : i < ops.length := by rw [HN.out]; exact hlt1
      obtain ⟨g, off, rfl, hc⟩ := h4 (by omega)
      obtain ⟨ck, ro, rn, rc, cr, ir, hrn, hmn⟩ := hc i hio
      have HMN0 := hide hmn
      clear hmn
      have ck := cell_below' ck hA.below
      have cr := cell_below' cr hA.below
      have IR := hide (ir.below hA.below)
      have HRN := hide hrn
      obtain ⟨hrl, hrcm⟩ : rn = ops[i].2.length ∧ rn ≤ rc := by
        obtain ⟨_, _, e, h, _⟩ := ir
        simp only [Value.slice.injEq] at e
        obtain ⟨-, rfl, rfl⟩ := e
        exact ⟨rfl, h⟩
      have HRL := hide hrl
      have HAM := hide (⟨hA, hP, hMn⟩ : Al w wr p wd (.slice mo n mc) F R M ∧ M.Perm R ∧ M.length = n)
      generalize ops[i].2 = r0 at *
      generalize ops[i].1 = kd at *
      clear hA hP hMn h4 hc ir hrn hrl HA hio
      have hrcI : (6 : Int) ≤ (rc : Int) ∨ ¬ 6 < rn := by omega
      go_upto_if 48 with fail
      go_cut [9] from 48 to 50 (fun rv wc => ∃ n6 r6, rv = .slice ro n6 rc ∧ wc = wr ∧ Hid (Is wr (.slice ro n6 rc) r6 ∧ r6.length ≤ 6 ∧ ∀ x ∈ r6, -9223372036854775808 ≤ x))
      case first =>
        by_cases h6 : 6 < rn
        · have h6I : (6 : Int) < (rn : Int) := by omega
          have h6c : (6 : Int) ≤ (rc : Int) := by omega
          have HI : Hid (Is wr (.slice ro 6 rc) (r0.take 6) ∧ (r0.take 6).length ≤ 6 ∧ ∀ x ∈ r0.take 6, -9223372036854775808 ≤ x) := ⟨IR.out.cut (by rw [← HRL.out]; omega), by simp; omega, fun x hx => HMN0.out x (List.mem_of_mem_take hx)⟩
          go_wp2_with fail
          all_goals go_meet
          all_goals first
            | exact ⟨6, r0.take 6, rfl, rfl, HI⟩
            | (exfalso; omega)
            | trace_state
        · have h6I : ¬ (6 : Int) < (rn : Int) := by omega
          have HI : Hid (Is wr (.slice ro rn rc) r0 ∧ r0.length ≤ 6 ∧ ∀ x ∈ r0, -9223372036854775808 ≤ x) := ⟨IR.out, by rw [← HRL.out]; omega, HMN0.out⟩
          go_wp2_with fail
          go_meet
          exact ⟨rn, r0, rfl, rfl, HI⟩
      case rest =>
        obtain ⟨n6, r6, rfl, rfl, HI⟩ := hcut
        have hn6 : n6 = r6.length ∧ n6 ≤ 6 := by
          obtain ⟨⟨_, _, e, _⟩, h⟩ := HI.out
          simp only [Value.slice.injEq] at e
          exact ⟨e.2.1, by omega⟩
        have HMN := hide HI.out.2.2
        obtain ⟨u, W3, hap, hO3, hB3⟩ := copy_row wc ro n6 rc r6 HI.out.1 HRN.out (by omega)
        obtain ⟨ao3, L3, cap3, rfl⟩ := own_slice hO3
        have HO3 := hide hO3
        have HB3 := hide hB3
        clear hO3 hB3
        go_upto_region 14 with (at_builtin; refine Lib.wpList_append_run _ rfl _ _ _ _ rfl _ _ rfl rfl _ _ (hap _) ?_)
        have hL3 : L3 = n6 := by
          rcases own_shape HO3.out with ⟨e, h0⟩ | ⟨_, _, e, _⟩
          · simp only [Value.slice.injEq] at e
            omega
          · simp only [Value.slice.injEq] at e
            omega
        subst hL3
        have HA3 := hide (⟨HAM.out.1.bel HB3.out, HAM.out.2⟩ : Al w W3 p wd (.slice mo n mc) F R M ∧ M.Perm R ∧ M.length = n)
        have ck3 := cell_below' ck HB3.out
        have HI3 := hide (Is.of_own HO3.out)
        have HN6 := hide hn6
        have HMH3 := hide ((HAM.out.1.m.mh (H := fun k => (Value.slice ao3 L3 cap3).ownBlock = some k) (fun k hk => (HO3.out.lt k hk).1)).below HB3.out)
        have hBw := HAM.out.1.below.size
        have hn60 : (n : Int) ≤ 60 := by omega
        clear HAM ck cr IR HI hap HRL hrcI hrcm HRN hn6
        go_wp2_with fail
        go_loopw [10, 11] (fun av kv wr => ∃ k : Nat, k ≤ n ∧ av = .int .i64 (lastIx M r6 k) ∧ kv = .int .i64 (k : Nat) ∧ Hid (Below W3.heap.size W3 wr)) (fun _ kv _ => n - (intOf kv).toNat)
        case atStart => exact ⟨0, by omega, rfl, rfl, Below.refl _ _⟩
        case round =>
          obtain ⟨k, hk, rfl, rfl, HBk⟩ := hrel
          by_cases hkn : k < n
          · have hkI : (k : Int) < (n : Int) := by omega
            have hwk : IntKind.i64.wrap ((k : Int) + 1) = (k : Int) + 1 := by rw [IntKind.wrap_i64]; omega
            have hkM : k < M.length := by rw [HA3.out.2.2]; exact hkn
            obtain ⟨mo', mc', e, h1, h2, h4⟩ := HA3.out.1.m.rs.below HBk.out
            simp only [Value.slice.injEq] at e
            obtain ⟨rfl, -, rfl⟩ := e
            obtain ⟨gm, offm, rfl, hcm⟩ := h4 (by omega)
            obtain ⟨um, cm, im⟩ := hcm k hkM
            have HEQ := hide (eq_any um _ M[k] r6 wr im (HI3.out.below HBk.out))
            obtain ⟨am, lm, km, rfl⟩ : ∃ a l c, um = .slice a l c := by obtain ⟨a, c, e, _⟩ := im; exact ⟨a, _, c, e⟩
            have HLX : Hid (lastIx M r6 (k + 1) = if M[k] = r6 then (k : Int) else lastIx M r6 k) := by
              show _ = _
              rw [show lastIx M r6 (k + 1) = if M[k]? = some r6 then (k : Int) else lastIx M r6 k from rfl, List.getElem?_eq_getElem hkM]
              simp
            generalize M[k] = mk at *
            clear h4 hcm h1 h2 hkM im
            by_cases hmk : mk = r6
            · have HLX2 : Hid (lastIx M r6 (k + 1) = (k : Int)) := by rw [HLX.out, if_pos hmk]; exact rfl
              rw [decide_eq_true hmk] at HEQ
              go_wp2_with fail
              refine Calls.mono HEQ.out ?_
              rintro e w7 ⟨rfl, hb7⟩
              have HB7 := hide (HBk.out.trans (hb7.mono HBk.out.size))
              clear hb7 HEQ
              go_wp2_with fail
              go_roundw
              case rel => exact ⟨k + 1, by omega, by rw [HLX2.out], by simp, HB7⟩
              case measure => simp [intOf]; omega
            · have HLX2 : Hid (lastIx M r6 (k + 1) = lastIx M r6 k) := by rw [HLX.out, if_neg hmk]; exact rfl
              rw [decide_eq_false hmk] at HEQ
              go_wp2_with fail
              refine Calls.mono HEQ.out ?_
              rintro e w7 ⟨rfl, hb7⟩
              have HB7 := hide (HBk.out.trans (hb7.mono HBk.out.size))
              clear hb7 HEQ
              go_wp2_with fail
              go_roundw
              case rel => exact ⟨k + 1, by omega, by rw [HLX2.out], by simp, HB7⟩
              case measure => simp [intOf]; omega
          · have hkI : ¬ (k : Int) < (n : Int) := by omega
            have e : k = n := by omega
            subst e
            have HA7 := hide (⟨HA3.out.1.bel HBk.out, HA3.out.2⟩ : Al w wr p wd (.slice mo k mc) F R M ∧ M.Perm R ∧ M.length = k)
            have ck7 := cell_below' ck3 HBk.out
            have HO7 := hide (own_kept (F := fun _ => False) HO3.out (Fr.of_below HBk.out) (fun _ _ => id))
            have HI7 := hide (Is.of_own HO7.out)
            have HMH7 := hide (HMH3.out.below HBk.out)
            have HC3 : Hid (ao3 = none → cap3 = 0) := fun e => by
              rcases own_shape HO7.out with ⟨e', _⟩ | ⟨_, _, e', _⟩
              · simp only [Value.slice.injEq] at e'
                exact e'.2.2
              · simp only [Value.slice.injEq] at e'
                rw [e] at e'
                cases e'.1
            clear HA3 ck3 HI3 HO3 HMH3
            obtain ⟨at', hat⟩ : ∃ at', lastIx M r6 k = at' := ⟨_, rfl⟩
            have HAT := hide hat
            rw [hat]
            clear hat
            go_upto_block 4 with fail
            obtain ⟨fb, hfb⟩ : ∃ fb, ((L3 : Int) == (wd : Int)) = fb := ⟨_, rfl⟩
            rw [hfb]
            have HFB := hide hfb
            clear hfb
            go_cut [7, 13, 14, 15, 16, 17, 18] from 75 to 193 (fun mv v13 v14 v15 v16 v17 v18 wc => ∃ (n' : Nat) (mo' : Option Addr) (mc' : Nat), n' ≤ i + 1 ∧ mv = .slice mo' n' mc' ∧ Hid (∃ F R M, Al w wc p wd (.slice mo' n' mc') F R M ∧ M.Perm R ∧ M.length = n'))
            case first =>
              by_cases hk0 : kd = 0
              · as_aux_lemma =>
                  subst hk0
                  have hlR : R.length = k := by have h1 := HA7.out.2.1.length_eq; have h2 := HA7.out.2.2; omega
                  have HADD := hide (add_any HA7.out.1.s _ r6 HI7.out HMN.out (by omega) (.inl (by omega)))
                  have H1 : Hid (fb = true ↔ L3 = wd) := by have h := HFB.out; subst h; show _ ↔ _; simp; omega
                  by_cases hc : fb = true ∧ at' < 0
                  · obtain ⟨hft, hneg⟩ := hc
                    subst hft
                    have hfit : L3 = wd := H1.out.1 rfl
                    have hnM : r6 ∉ M := by
                      have h1 := (lastIx_neg (M := M) (r := r6) k).1 (by rw [HAT.out]; exact hneg)
                      rwa [List.take_of_length_le (by rw [HA7.out.2.2]; omega)] at h1
                    have hnm : r6 ∉ R := fun h => hnM (HA7.out.2.1.mem_iff.2 h)
                    have hfr6 : r6.length = wd := by rw [← HN6.out.1]; exact hfit
                    rw [decide_eq_true (⟨hfr6, hnm⟩ : r6.length = wd ∧ r6 ∉ R)] at HADD
                    have HFIT := hide hfr6
                    clear hlR hfr6 hfit
                    go_wp2_with fail
                    refine Calls.mono HADD.out ?_
                    rintro e w8 ⟨rfl, hR8⟩
                    obtain ⟨F8, R8, hAl8, hP8⟩ := HA7.out.1.add hR8 HA7.out.2.1
                    rw [if_pos ⟨HFIT.out, hnM⟩] at hP8
                    obtain ⟨_, _, _, hfr8, _⟩ := hR8
                    have hty := HA7.out.1.s.types
                    have hO8 := own_kept HO7.out hfr8 (fun j hj hF => by obtain ⟨cs, hc⟩ := own_at HO7.out hj; exact (hty j hF 3 cs hc).2.1 rfl)
                    have hM8 := HMH7.out.fr hfr8 (fun j hj => ⟨fun t cs hb => (hty j hj t cs hb).1, .inr fun t cs hb => (hty j hj t cs hb).2.1⟩)
                    obtain ⟨u9, W9, hap9, hO9, hB9⟩ := copy_row w8 ao3 L3 cap3 r6 (Is.of_own hO8) HC3.out (by have := HN6.out; omega)
                    have hAl9 := hAl8.bel hB9
                    have hM9 := hM8.below hB9
                    have hO89 := own_kept (F := fun _ => False) hO8 (Fr.of_below hB9) (fun _ _ => id)
                    have hlt8 := fun j hj => (hO8.lt j hj).2
                    obtain ⟨g10, cap10, W10, hrun10, hAl10, hM10, hF10⟩ := hAl9.pushH hM9 (by have := HA7.out.2.2; omega) (own_base hO9 (fun j hj => Nat.le_trans hAl8.below.size (hO9.lt j hj).1)) (fun j hj hj2 => by have h1 := (hO9.lt j hj).1; have h2 := hlt8 j hj2; omega)
                    have hO10 := own_kept hO89 hF10 (fun j hj e => by
                      obtain ⟨vs, o1, _⟩ := hAl9.m
                      exact own_ne o1 hO89 (by decide) e hj)
                    have hlen10 : (M ++ [r6]).length = k + 1 := by rw [List.length_append, HA7.out.2.2]; rfl
                    have hlM := HA7.out.2.2
                    rw [hlM] at hrun10 hAl10 hM10
                    obtain ⟨a9, n9, c9, rfl⟩ := own_slice hO9
                    have HAX := hide (⟨hAl10, hP8, hlen10⟩ : Al w W10 p wd (.slice (some ⟨g10, 0, none⟩) (k + 1) cap10) F8 R8 (M ++ [r6]) ∧ (M ++ [r6]).Perm R8 ∧ (M ++ [r6]).length = k + 1)
                    have HMX := hide hM10
                    have HOX := hide hO10
                    clear hAl10 hP8 hlen10 hM10 hO10 hF10 hlt8 hO89 hM9 hAl9 hB9 hM8 hO8 hty hfr8 hAl8 HA7 HO7 HMH7 HI7 HADD HFIT hnM hnm hlM hO9
                    go_upto_region 30 with (first
                      | (at_builtin; refine Lib.wpList_append_run _ rfl _ _ _ _ rfl _ _ rfl rfl _ _ (hap9 _) ?_)
                      | (at_builtin; refine Lib.wpList_append_run _ rfl _ _ _ _ rfl _ _ rfl rfl _ _ (hrun10 _) ?_))
                    clear hap9 hrun10
                    have hL6 : L3 ≤ 6 := HN6.out.2
                    go_wp2_with fail
                    go_loopw [13] (fun jv wr => ∃ j : Nat, j ≤ L3 ∧ jv = .int .i64 (j : Nat) ∧ Hid (Own wc.heap.size wr (.slice ao3 L3 cap3) L3 ∧ Fr (fun k => (Value.slice ao3 L3 cap3).ownBlock = some k) W10 wr)) (fun jv _ => L3 - (intOf jv).toNat)
                    case atStart => exact ⟨0, Nat.zero_le _, rfl, ⟨r6, HN6.out.1.symm, by have h1 := HOX.out; rw [← HN6.out.1] at h1; exact h1⟩, Fr.refl _ _⟩
                    case round =>
                      obtain ⟨j, hj, rfl, HJ⟩ := hrel
                      by_cases hjl : j < L3
                      · have hjI : (j : Int) < (L3 : Int) := by omega
                        have hwj : IntKind.i64.wrap ((j : Int) + 1) = (j : Int) + 1 := by rw [IntKind.wrap_i64]; omega
                        obtain ⟨g3, rfl⟩ : ∃ g, ao3 = some ⟨g, 0, none⟩ := by
                          obtain ⟨rr, _, ho⟩ := HJ.out.1
                          rcases own_shape ho with ⟨e, h0⟩ | ⟨g, c, e, _⟩
                          · omega
                          · simp only [Value.slice.injEq] at e
                            exact ⟨g, e.1⟩
                        obtain ⟨x3, hx3, hfz3, hput⟩ := HJ.out.1.put j hjl
                        obtain ⟨y3, hy3⟩ : ∃ y, IntKind.i64.wrap (x3 + 1) = y := ⟨_, rfl⟩
                        have HJ2 := hide (⟨(hput y3).1, HJ.out.2.trans (hput y3).2 (fun _ _ h => h)⟩ : Own wc.heap.size (wr.setCell ⟨g3, j, none⟩ (.int .i64 y3)) (.slice (some ⟨g3, 0, none⟩) L3 cap3) L3 ∧ Fr (fun k => (Value.slice (some ⟨g3, 0, none⟩) L3 cap3).ownBlock = some k) W10 (wr.setCell ⟨g3, j, none⟩ (.int .i64 y3)))
                        clear hput HJ HN6
                        go_wp2_with fail
                        go_roundw
                        case rel => exact ⟨j + 1, by omega, by simp, HJ2⟩
                        case measure => simp [intOf]; omega
                      · have hjI : ¬ (j : Int) < (L3 : Int) := by omega
                        have HE : Hid (∃ F R M, Al w wr p wd (.slice (some ⟨g10, 0, none⟩) (k + 1) cap10) F R M ∧ M.Perm R ∧ M.length = (k + 1)) := ⟨_, _, _, HAX.out.1.wrote HOX.out hBw HMX.out HJ.out.2, HAX.out.2⟩
                        clear HAX HMX HOX HJ HN6
                        go_wp2_with fail
                        go_meet
                        exact ⟨(k + 1), (some ⟨g10, 0, none⟩), cap10, by omega, rfl, HE⟩
                  · have hnc : ¬ (r6.length = wd ∧ r6 ∉ R) := fun hh => hc ⟨H1.out.2 (by rw [HN6.out.1]; exact hh.1), by
                      have h1 := (lastIx_neg (M := M) (r := r6) k).2 (fun h => hh.2 (HA7.out.2.1.mem_iff.1 (List.mem_of_mem_take h)))
                      rwa [HAT.out] at h1⟩
                    rw [decide_eq_false hnc] at HADD
                    have HNC := hide hnc
                    cases fb
                    case' true => have hneg : ¬ at' < 0 := fun h => hc ⟨rfl, h⟩
                    all_goals
                      clear hc hnc hlR
                      go_wp2_with fail
                      refine Calls.mono HADD.out ?_
                      rintro e w8 ⟨rfl, hR8⟩
                      obtain ⟨F8, R8, hAl8, hP8⟩ := HA7.out.1.add hR8 HA7.out.2.1
                      rw [if_neg (fun hh => HNC.out ⟨hh.1, fun h => hh.2 (HA7.out.2.1.mem_iff.2 h)⟩)] at hP8
                      obtain ⟨_, _, _, hfr8, _⟩ := hR8
                      have hty := HA7.out.1.s.types
                      have hO8 := own_kept HO7.out hfr8 (fun j hj hF => by obtain ⟨cs, hc⟩ := own_at HO7.out hj; exact (hty j hF 3 cs hc).2.1 rfl)
                      have hM8 := HMH7.out.fr hfr8 (fun j hj => ⟨fun t cs hb => (hty j hj t cs hb).1, .inr fun t cs hb => (hty j hj t cs hb).2.1⟩)
                      have HAX := hide (⟨hAl8, hP8, HA7.out.2.2⟩ : Al w w8 p wd (.slice mo k mc) F8 R8 M ∧ M.Perm R8 ∧ M.length = k)
                      have HMX := hide hM8
                      have HOX := hide hO8
                      clear hAl8 hP8 hM8 hO8 hty hfr8 HA7 HO7 HMH7 HI7 HADD HNC
                      have hL6 : L3 ≤ 6 := HN6.out.2
                      go_wp2_with fail
                      go_loopw [13] (fun jv wr => ∃ j : Nat, j ≤ L3 ∧ jv = .int .i64 (j : Nat) ∧ Hid (Own wc.heap.size wr (.slice ao3 L3 cap3) L3 ∧ Fr (fun k => (Value.slice ao3 L3 cap3).ownBlock = some k) w8 wr)) (fun jv _ => L3 - (intOf jv).toNat)
                      case atStart => exact ⟨0, Nat.zero_le _, rfl, ⟨r6, HN6.out.1.symm, by have h1 := HOX.out; rw [← HN6.out.1] at h1; exact h1⟩, Fr.refl _ _⟩
                      case round =>
                        obtain ⟨j, hj, rfl, HJ⟩ := hrel
                        by_cases hjl : j < L3
                        · have hjI : (j : Int) < (L3 : Int) := by omega
                          have hwj : IntKind.i64.wrap ((j : Int) + 1) = (j : Int) + 1 := by rw [IntKind.wrap_i64]; omega
                          obtain ⟨g3, rfl⟩ : ∃ g, ao3 = some ⟨g, 0, none⟩ := by
                            obtain ⟨rr, _, ho⟩ := HJ.out.1
                            rcases own_shape ho with ⟨e, h0⟩ | ⟨g, c, e, _⟩
                            · omega
                            · simp only [Value.slice.injEq] at e
                              exact ⟨g, e.1⟩
                          obtain ⟨x3, hx3, hfz3, hput⟩ := HJ.out.1.put j hjl
                          obtain ⟨y3, hy3⟩ : ∃ y, IntKind.i64.wrap (x3 + 1) = y := ⟨_, rfl⟩
                          have HJ2 := hide (⟨(hput y3).1, HJ.out.2.trans (hput y3).2 (fun _ _ h => h)⟩ : Own wc.heap.size (wr.setCell ⟨g3, j, none⟩ (.int .i64 y3)) (.slice (some ⟨g3, 0, none⟩) L3 cap3) L3 ∧ Fr (fun k => (Value.slice (some ⟨g3, 0, none⟩) L3 cap3).ownBlock = some k) w8 (wr.setCell ⟨g3, j, none⟩ (.int .i64 y3)))
                          clear hput HJ HN6
                          go_wp2_with fail
                          go_roundw
                          case rel => exact ⟨j + 1, by omega, by simp, HJ2⟩
                          case measure => simp [intOf]; omega
                        · have hjI : ¬ (j : Int) < (L3 : Int) := by omega
                          have HE : Hid (∃ F R M, Al w wr p wd (.slice mo k mc) F R M ∧ M.Perm R ∧ M.length = k) := ⟨_, _, _, HAX.out.1.wrote HOX.out hBw HMX.out HJ.out.2, HAX.out.2⟩
                          clear HAX HMX HOX HJ HN6
                          go_wp2_with fail
                          go_meet
                          exact ⟨k, mo, mc, by omega, rfl, HE⟩
              by_cases hk1 : kd = 1
              · subst hk1
                have hlR : R.length = k := by have h1 := HA7.out.2.1.length_eq; have h2 := HA7.out.2.2; omega
                have HRM := hide (rmv_any HA7.out.1.s _ r6 HI7.out (by omega))
                clear hlR
                by_cases hneg : at' < 0
                · have hnM : r6 ∉ M := by
                    have h1 := (lastIx_neg (M := M) (r := r6) k).1 (by rw [HAT.out]; exact hneg)
                    rwa [List.take_of_length_le (by rw [HA7.out.2.2]; omega)] at h1
                  have hnm : r6 ∉ R := fun h => hnM (HA7.out.2.1.mem_iff.2 h)
                  rw [decide_eq_false hnm] at HRM
                  go_wp2_with fail
                  refine Calls.mono HRM.out ?_
                  rintro e w8 ⟨rfl, hR8⟩
                  have HA8 : Hid (∃ F R M, Al w w8 p wd (.slice mo k mc) F R M ∧ M.Perm R ∧ M.length = k) := by
                    obtain ⟨F', h⟩ := HA7.out.1.rem_none hR8 HA7.out.2.1 hnM
                    exact ⟨F', R, M, h, HA7.out.2⟩
                  clear hR8 HRM HA7 HI7 HO7 HMH7
                  go_wp2_with fail
                  go_meet
                  exact ⟨k, mo, mc, by omega, rfl, HA8⟩
                · obtain ⟨j, hj1, hj2, hj3⟩ := lastIx_at (M := M) (r := r6) k (by rw [HAT.out]; exact hneg)
                  have hnm : r6 ∈ R := by
                    obtain ⟨hj, e⟩ := List.getElem?_eq_some_iff.1 hj3
                    exact HA7.out.2.1.mem_iff.1 (by rw [← e]; exact List.getElem_mem hj)
                  rw [HAT.out] at hj1
                  subst hj1
                  rw [decide_eq_true hnm] at HRM
                  have HJ3 := hide hj3
                  clear hj3
                  go_wp2_with fail
                  refine Calls.mono HRM.out ?_
                  rintro e w8 ⟨rfl, hR8⟩
                  obtain ⟨F8, R8, hAl8, hP8⟩ := HA7.out.1.rem hR8 HA7.out.2.1
                  have hP8 := hP8 j HJ3.out
                  have hMk := HA7.out.2.2
                  obtain ⟨gm, rfl⟩ : ∃ g, mo = some ⟨g, 0, none⟩ := by
                    obtain ⟨vs, o1, _⟩ := hAl8.m
                    rcases own_shape o1 with ⟨_, h0⟩ | ⟨g, c, e, _⟩
                    · omega
                    · simp only [Value.slice.injEq] at e
                      exact ⟨g, e.1⟩
                  have hmc : k ≤ mc := by
                    obtain ⟨vs, o1, _⟩ := hAl8.m
                    rcases own_shape o1 with ⟨_, h0⟩ | ⟨g, c, e, hc, _⟩
                    · omega
                    · simp only [Value.slice.injEq] at e
                      omega
                  have HCUT := hide (fun A hA => (hAl8.bel (Below.refl _ w8).drew).cutA (i := j) (by omega) (by omega) A hA)
                  have hwj1 : IntKind.i64.wrap ((j : Int) + 1) = (j : Int) + 1 := by rw [IntKind.wrap_i64]; omega
                  have hjk : (j : Int) ≤ (mc : Int) := by omega
                  have hjk2 : (j : Int) + 1 ≤ (k : Int) := by omega
                  have hjk3 : (0 : Int) ≤ (j : Int) + 1 := by omega
                  have hjk4 : ((j : Int) + 1).toNat = j + 1 := by omega
                  have HK := hide hmc
                  have HMk := hide hMk
                  have HP8 := hide hP8
                  clear hR8 HRM HA7 HI7 HO7 HMH7 hP8 hAl8 HJ3 hMk
                  by_cases hmj : mc = j + 1
                  · subst hmj
                    have hjj : (j : Int) ≤ (j : Int) + 1 := by omega
                    obtain ⟨v1, W1, v2, W2, hc1, hc2, ⟨a1, m1, c1, rfl⟩, ⟨a2, c2, rfl⟩, hAl9⟩ := HCUT.out ⟨gm, 0, none⟩ (fun h => by have := HMk.out; omega)
                    rw [HMk.out] at hc2 hAl9
                    have HA8 : Hid (∃ F R M, Al w W2 p wd (.slice a2 (k - 1) c2) F R M ∧ M.Perm R ∧ M.length = k - 1) := ⟨F8, R8, _, hAl9, HP8.out, by rw [List.length_eraseIdx, HMk.out]; simp [hj2]⟩
                    clear hAl9 HCUT HP8 HMk hmc
                    go_wp2_with fail
                    go_region_law (first
                      | (refine K.step_append_run rfl (.const (.slice none 0 0)) (.tmp 127) 26 26 rfl _ _ rfl (by simp [Act.eval, Act.put]) (hc1 _) ?_)
                      | (refine K.step_append_run rfl (.tmp 128) (.tmp 132) 26 26 rfl _ _ (by simp [Act.eval]) (by simp [Act.eval]) (hc2 _) ?_))
                    all_goals
                      go_wp2_with fail
                      go_meet
                      exact ⟨k - 1, a2, c2, by omega, rfl, HA8⟩
                  · obtain ⟨v1, W1, v2, W2, hc1, hc2, ⟨a1, m1, c1, rfl⟩, ⟨a2, c2, rfl⟩, hAl9⟩ := HCUT.out ⟨gm, j + 1, none⟩ (fun h => rfl)
                    rw [HMk.out] at hc2 hAl9
                    have HA8 : Hid (∃ F R M, Al w W2 p wd (.slice a2 (k - 1) c2) F R M ∧ M.Perm R ∧ M.length = k - 1) := ⟨F8, R8, _, hAl9, HP8.out, by rw [List.length_eraseIdx, HMk.out]; simp [hj2]⟩
                    clear hAl9 HCUT HP8 HMk hmc
                    go_wp2_with fail
                    go_region_law (first
                      | (refine K.step_append_run rfl (.const (.slice none 0 0)) (.tmp 127) 26 26 rfl _ _ rfl (by simp [Act.eval, Act.put]) (hc1 _) ?_)
                      | (refine K.step_append_run rfl (.tmp 128) (.tmp 132) 26 26 rfl _ _ (by simp [Act.eval]) (by simp [Act.eval]) (hc2 _) ?_))
                    all_goals
                      go_wp2_with fail
                      go_meet
                      exact ⟨k - 1, a2, c2, by omega, rfl, HA8⟩
              by_cases hk2 : kd = 2
              · have HHS := hide (has_any HA7.out.1.s _ r6 HI7.out (by have h1 := HA7.out.2.1.length_eq; have h2 := HA7.out.2.2; omega))
                by_cases hneg : at' < 0
                · have hnm : r6 ∉ R := by
                    have h1 := (lastIx_neg (M := M) (r := r6) k).1 (by rw [HAT.out]; exact hneg)
                    rw [List.take_of_length_le (by rw [HA7.out.2.2]; omega)] at h1
                    exact fun h => h1 (HA7.out.2.1.mem_iff.2 h)
                  rw [decide_eq_false hnm] at HHS
                  subst hk2
                  go_wp2_with fail
                  refine Calls.mono HHS.out ?_
                  rintro e w8 ⟨rfl, hb8⟩
                  have HA8 : Hid (∃ F R M, Al w w8 p wd (.slice mo k mc) F R M ∧ M.Perm R ∧ M.length = k) := ⟨F, R, M, HA7.out.1.bel hb8, HA7.out.2⟩
                  clear hb8 HHS HA7 HI7 HO7
                  go_wp2_with fail
                  go_meet
                  exact ⟨k, mo, mc, by omega, rfl, HA8⟩
                · have hnm : r6 ∈ R := by
                    obtain ⟨j, _, _, h3⟩ := lastIx_at (M := M) (r := r6) k (by rw [HAT.out]; exact hneg)
                    obtain ⟨hj, e⟩ := List.getElem?_eq_some_iff.1 h3
                    exact HA7.out.2.1.mem_iff.1 (by rw [← e]; exact List.getElem_mem hj)
                  rw [decide_eq_true hnm] at HHS
                  subst hk2
                  go_wp2_with fail
                  refine Calls.mono HHS.out ?_
                  rintro e w8 ⟨rfl, hb8⟩
                  have HA8 : Hid (∃ F R M, Al w w8 p wd (.slice mo k mc) F R M ∧ M.Perm R ∧ M.length = k) := ⟨F, R, M, HA7.out.1.bel hb8, HA7.out.2⟩
                  clear hb8 HHS HA7 HI7 HO7
                  go_wp2_with fail
                  go_meet
                  exact ⟨k, mo, mc, by omega, rfl, HA8⟩
              · by_cases hk3 : kd = 3
                · as_aux_lemma =>
                    subst hk3
                    have HWT : Hid (Wt wr wr (.slice none 0 0) []) := Wt.nil wr
                    obtain ⟨WA, hWA⟩ : ∃ W, W = wr := ⟨_, rfl⟩
                    subst hWA
                    have HFI : Hid (L3 = wd ↔ r6.length = wd) := by rw [← HN6.out.1]; exact Iff.rfl
                    have HWD : Hid (∀ x ∈ M, x.length = wd) := fun x hx => by
                      obtain ⟨_, _, _, hsv⟩ := HA7.out.1.s
                      exact hsv.wid x (HA7.out.2.1.mem_iff.1 hx)
                    have hwdI : (wd : Int) ≤ 4 := by omega
                    have H1 : Hid (fb = true ↔ L3 = wd) := by have h := HFB.out; subst h; show _ ↔ _; simp; omega
                    cases fb
                    case true =>
                     have HFT : Hid (L3 = wd) := H1.out.1 rfl
                     go_wp2_with fail
                     go_loopw [14, 15, 16, 17] (fun av kv ov jv wr => ∃ (q z : Nat) (zo : Option Addr) (zc : Nat), q ≤ k ∧ z ≤ q ∧ av = .slice zo z zc ∧ kv = .int .i64 (q : Nat) ∧ Hid (∃ L, Wt WA wr (.slice zo z zc) L ∧ L.length = z ∧ L = (M.take q).filter (ansB r6))) (fun _ kv _ _ _ => k - (intOf kv).toNat)
                     case atStart => exact ⟨0, 0, none, 0, Nat.zero_le _, Nat.le_refl _, rfl, rfl, [], HWT.out, rfl, by simp⟩
                     case round =>
                       obtain ⟨q, z, zo, zc, hq, hz, rfl, rfl, HQ⟩ := hrel
                       by_cases hqk : q < k
                       · skip
                         have hqI : (q : Int) < (k : Int) := by omega
                         have hwq : IntKind.i64.wrap ((q : Int) + 1) = (q : Int) + 1 := by rw [IntKind.wrap_i64]; omega
                         obtain ⟨L, hW, hLz, hLe⟩ := HQ.out
                         have hbq := hW.1
                         have hqM : q < M.length := by rw [HA7.out.2.2]; exact hqk
                         obtain ⟨mo', mc', e, -, -, h4⟩ := HA7.out.1.m.rs
                         simp only [Value.slice.injEq] at e
                         obtain ⟨rfl, -, rfl⟩ := e
                         obtain ⟨gm, offm, rfl, hcm⟩ := h4 (by omega)
                         obtain ⟨um, cm0, im⟩ := hcm q hqM
                         have cm := cell_below' cm0 hbq
                         have hxl : M[q].length = wd := HWD.out _ (List.getElem_mem hqM)
                         have HIM := hide im
                         have HTK : Hid ((M.take (q + 1)).filter (ansB r6) = (M.take q).filter (ansB r6) ++ if ansB r6 M[q] = true then [M[q]] else []) := by
                           show _ = _
                           rw [List.take_succ_eq_append_getElem hqM, List.filter_append]
                           simp [List.filter_cons]
                         have HIX := hide (im.below hbq)
                         have HIR := hide (HI7.out.below hbq)
                         obtain ⟨xo, xl, xc, rfl⟩ : ∃ a l c, um = .slice a l c := by obtain ⟨a, c, e, _⟩ := im; exact ⟨a, _, c, e⟩
                         have HXL := hide hxl
                         have hRL := hide (HFI.out.1 HFT.out)
                         have HWW := hide (⟨hW, hLz, hLe⟩ : Wt WA wr (.slice zo z zc) L ∧ L.length = z ∧ L = (M.take q).filter (ansB r6))
                         generalize M[q] = mq at *
                         clear hW hLz hLe hbq hqM h4 hcm cm0 im hxl HQ
                         obtain ⟨WQ, hWQ⟩ : ∃ W, W = wr := ⟨_, rfl⟩
                         subst hWQ
                         go_wp2_with fail
                         go_loopw [16, 17] (fun ov jv wr => ∃ j : Nat, j ≤ wd ∧ ov = .bool (ansB (r6.take j) mq) ∧ jv = .int .i64 (j : Nat) ∧ Hid (Below WQ.heap.size WQ wr)) (fun _ jv _ => wd - (intOf jv).toNat)
                         case atStart => exact ⟨0, Nat.zero_le _, by simp [ansB], rfl, Below.refl _ _⟩
                         case round =>
                           obtain ⟨j, hj, rfl, rfl, HBJ⟩ := hrel
                           have cm := cell_below' cm HBJ.out
                           by_cases hjd : j < wd
                           · have hjI : (j : Int) < (wd : Int) := by omega
                             have hjL : (j : Int) < (L3 : Int) := by have := HFT.out; omega
                             have hwj : IntKind.i64.wrap ((j : Int) + 1) = (j : Int) + 1 := by rw [IntKind.wrap_i64]; omega
                             have hjr : j < r6.length := by rw [hRL.out]; exact hjd
                             have hjx : j < mq.length := by rw [HXL.out]; exact hjd
                             have HST := hide (ans_step j r6 mq hjr hjx)
                             obtain ⟨ro', rc', e, -, -, hr4⟩ := HIR.out.below HBJ.out
                             simp only [Value.slice.injEq] at e
                             obtain ⟨rfl, -, rfl⟩ := e
                             obtain ⟨gr, offr, rfl, hcr⟩ := hr4 (by omega)
                             have cr := hcr j hjr
                             obtain ⟨xo', xc', e, -, -, hx4⟩ := HIX.out.below HBJ.out
                             simp only [Value.slice.injEq] at e
                             obtain ⟨rfl, hxl2, rfl⟩ := e
                             obtain ⟨gx, offx, rfl, hcx⟩ := hx4 (by omega)
                             have cx := hcx j hjx
                             have hjX : (j : Int) < (xl : Int) := by rw [hxl2]; omega
                             obtain ⟨ok, hok⟩ : ∃ ok, ansB (r6.take j) mq = ok := ⟨_, rfl⟩
                             rw [hok] at HST ⊢
                             generalize atI r6 j = ra at *
                             generalize atI mq j = xa at *
                             clear hr4 hcr hx4 hcx hok hjr hjx hxl2
                             cases ok with
                             | false =>
                               have HS2 : Hid (ansB (r6.take (j + 1)) mq = false) := by rw [HST.out]; rfl
                               clear HST
                               go_wp2_with fail
                               go_big_quiet (fail)
                               have HBz := hide (HBJ.out.trans ((below_drewN wr nq).mono HBJ.out.size))
                               go_wp2_with fail
                               go_roundw
                               case rel => exact ⟨j + 1, by omega, by rw [HS2.out], by simp, by assumption⟩
                               case measure => simp [intOf]; omega
                             | true =>
                               by_cases ha : ra ≤ 0
                               · have HS2 : Hid (ansB (r6.take (j + 1)) mq = true) := by rw [HST.out, decide_eq_true ha]; exact rfl
                                 clear HST
                                 have ga : decide (ra ≤ 0) = true := decide_eq_true (by omega)
                                 go_wp2_with fail
                                 have ga : decide (ra ≤ 0) = true := decide_eq_true (by omega)
                                 go_big_quiet (fail)
                                 have HBz := hide (HBJ.out.trans ((below_drewN wr nq).mono HBJ.out.size))
                                 go_wp2_with fail
                                 go_roundw
                                 case rel => exact ⟨j + 1, by omega, by rw [HS2.out], by simp, by assumption⟩
                                 case measure => simp [intOf]; omega
                               · obtain ⟨eqb, heq⟩ : ∃ b, (ra == xa) = b := ⟨_, rfl⟩
                                 have HS2 : Hid (ansB (r6.take (j + 1)) mq = eqb) := by rw [HST.out, decide_eq_false ha, ← heq]; exact rfl
                                 clear HST
                                 go_wp2_with fail
                                 have ga : decide (ra ≤ 0) = false := decide_eq_false (by omega)
                                 go_big_quiet (fail)
                                 have HBz := hide (HBJ.out.trans ((below_drewN wr nq).mono HBJ.out.size))
                                 go_wp2_with fail
                                 go_roundw
                                 case rel => exact ⟨j + 1, by omega, by rw [HS2.out, ← heq], by simp, by assumption⟩
                                 case measure => simp [intOf]; omega
                           · have hjI : ¬ (j : Int) < (wd : Int) := by omega
                             have hje : j = wd := by omega
                             rw [List.take_of_length_le (by rw [hRL.out]; omega)]
                             obtain ⟨ok, hok⟩ : ∃ ok, ansB r6 mq = ok := ⟨_, rfl⟩
                             rw [hok] at HTK ⊢
                             clear hok hje
                             cases ok with
                             | true =>
                               obtain ⟨gz, cz, WZ, hrun, hWt⟩ := (HWW.out.1.below HBJ.out).push (by have := HWW.out.2.1; omega) HIM.out
                               have hlz := HWW.out.2.1
                               rw [hlz] at hrun hWt
                               have HW2 : Hid (∃ L, Wt WA WZ (.slice (some ⟨gz, 0, none⟩) (z + 1) cz) L ∧ L.length = z + 1 ∧ L = (M.take (q + 1)).filter (ansB r6)) := ⟨_, hWt, by rw [List.length_append, hlz]; rfl, by rw [HTK.out, ← HWW.out.2.2]; rfl⟩
                               clear hWt hlz HWW HTK HIM HIX HIR
                               go_wp2_with (at_builtin; refine Lib.wpList_append_run _ rfl _ _ _ _ rfl _ _ rfl rfl _ _ (hrun _) ?_)
                               go_roundw
                               case rel => exact ⟨q + 1, z + 1, _, cz, by omega, by omega, rfl, by simp, HW2⟩
                               case measure => simp [intOf]; omega
                             | false =>
                               have HW2 : Hid (∃ L, Wt WA wr (.slice zo z zc) L ∧ L.length = z ∧ L = (M.take (q + 1)).filter (ansB r6)) := ⟨L, HWW.out.1.below HBJ.out, HWW.out.2.1, by rw [HTK.out, ← HWW.out.2.2]; simp⟩
                               clear HWW HTK HIM HIX HIR
                               go_wp2_with fail
                               go_roundw
                               case rel => exact ⟨q + 1, z, _, zc, by omega, by omega, rfl, by simp, HW2⟩
                               case measure => simp [intOf]; omega
                       · obtain ⟨L, hW, hLz, hLe⟩ := HQ.out
                         have hAq := HA7.out.1.bel hW.1
                         have hIq := HI7.out.below hW.1
                         have hPQ := HA7.out.2
                         have hlR : R.length = k := by have h1 := hPQ.1.length_eq; have h2 := hPQ.2; omega
                         have hRs := hW.rs
                         have HLE := hide hLe
                         have hqe : q = k := by omega
                         have hqI : ¬ (q : Int) < (k : Int) := by omega
                         have HMT := hide (match_any hAq.s _ r6 hIq (HFI.out.1 HFT.out) (by omega))
                         have HRR : Hid (L = M.filter (ansB r6)) := by rw [HLE.out, List.take_of_length_le (by rw [hPQ.2]; omega)]; exact rfl
                         have HAQ := hide hAq
                         have HPQ := hide hPQ
                         have HRS := hide hRs
                         have HLR := hide hlR
                         clear hW hLz hLe hAq hIq hPQ hRs HQ HA7 HI7 HO7 HMH7 hlR hqe
                         go_wp2_with fail
                         refine Calls.mono HMT.out ?_
                         rintro e w8 ⟨v8, rfl, hRw8, hb8⟩
                         have HRW := hide (rows_any v8 _ _ L w8 hRw8.rs (HRS.out.below hb8) (by
                           obtain ⟨_, _, _, hsv⟩ := HAQ.out.s
                           exact up_step (List.Pairwise.filter _ hsv.up) (fun x hx => hsv.wid x (List.mem_filter.1 hx).1)) (by rw [HRR.out]; exact (HPQ.out.1.symm.filter _).length_eq) (by have h1 := List.length_filter_le (ansB r6) R; have h2 := HLR.out; omega) (fun x hx => by rw [HRR.out]; exact (HPQ.out.1.symm.filter _).mem_iff.1 hx))
                         have HB8 := hide hb8
                         clear hRw8 hb8 HMT
                         go_wp2_with fail
                         refine Calls.mono HRW.out ?_
                         rintro e w9 ⟨rfl, hb9⟩
                         have HA8 : Hid (∃ F R M, Al w w9 p wd (.slice mo k mc) F R M ∧ M.Perm R ∧ M.length = k) := ⟨F, R, M, (HAQ.out.bel HB8.out).bel hb9, HPQ.out⟩
                         clear hb9 HRW HAQ HB8 HPQ HRS HRR HLE
                         go_wp2_with fail
                         go_meet
                         exact ⟨k, mo, mc, by omega, rfl, HA8⟩
                    case false =>
                     have hfit : ¬ L3 = wd := fun h => by have := H1.out.2 h; cases this
                     have HMT := hide (match_not HA7.out.1.s _ r6 HI7.out (fun h => hfit (HFI.out.2 h)))
                     go_wp2_with fail
                     go_loopw [14, 15, 16, 17] (fun av kv ov jv wr => av = .slice none 0 0 ∧ kv = .int .i64 0 ∧ wr = WA) (fun _ kv _ _ _ => k - (intOf kv).toNat)
                     case atStart => exact ⟨rfl, rfl, rfl⟩
                     case round =>
                       obtain ⟨rfl, rfl, hwr⟩ := hrel
                       have hwr' := hwr.symm
                       subst hwr'
                       by_cases hqI : (0 : Int) < (k : Int)
                       all_goals
                         go_wp2_with fail
                         refine Calls.mono HMT.out ?_
                         rintro e w8 ⟨rfl, hb8⟩
                         have HRW := hide (rows_any (.slice none 0 0) (.slice none 0 0) [] [] w8 ⟨none, 0, rfl, Nat.le_refl _, by simp [maxLen], fun h => by simp at h⟩ ⟨none, 0, rfl, Nat.le_refl _, by simp [maxLen], fun h => by simp at h⟩ (fun i h => by simp at h) rfl (by simp) (fun x hx => hx))
                         have HB8 := hide hb8
                         clear hb8
                         go_wp2_with fail
                         refine Calls.mono HRW.out ?_
                         rintro e w9 ⟨rfl, hb9⟩
                         have HA8 : Hid (∃ F R M, Al w w9 p wd (.slice mo k mc) F R M ∧ M.Perm R ∧ M.length = k) := ⟨F, R, M, (HA7.out.1.bel HB8.out).bel hb9, HA7.out.2⟩
                         clear hb9 HRW HB8 HA7 HI7 HO7 HMH7
                         go_wp2_with fail
                         go_meet
                         exact ⟨k, mo, mc, by omega, rfl, HA8⟩
                · as_aux_lemma =>
                    have HCP := hide (copy_any HA7.out.1.s (by have h1 := HA7.out.2.1.length_eq; have h2 := HA7.out.2.2; omega))
                    cases fb
                    case true =>
                      go_wp2_with fail
                      refine Calls.mono HCP.out ?_
                      rintro e w8 ⟨qp, rfl, ⟨F', hS8, hF8⟩, hb8⟩
                      obtain ⟨u9, W9, hap9, hO9, hB9⟩ := copy_row w8 ao3 L3 cap3 r6 (HI7.out.below hb8) HC3.out (by have := HN6.out; omega)
                      obtain ⟨a9, n9, c9, rfl⟩ := own_slice hO9
                      have HADD := hide (add_any (hS8.below hB9) _ r6 (Is.of_own hO9) HMN.out (by have h1 := HA7.out.2.1.length_eq; have h2 := HA7.out.2.2; omega) (.inl (by have h1 := HA7.out.2.1.length_eq; have h2 := HA7.out.2.2; omega)))
                      have HFIN : Hid (∀ W', AddR W9 W' qp wd F' R r6 → ∃ F R M, Al w W' p wd (.slice mo k mc) F R M ∧ M.Perm R ∧ M.length = k) := fun W' h => by
                        obtain ⟨_, _, _, hf, _⟩ := h
                        exact ⟨F, R, M, HA7.out.1.bel ((hb8.trans (hB9.mono hb8.size)).trans (hf.below hF8 (Nat.le_trans hb8.size hB9.size))), HA7.out.2⟩
                      clear hS8 hF8 hb8 hO9 hB9 HA7 HI7 HO7 HMH7 HCP
                      go_wp2_with (at_builtin; refine Lib.wpList_append_run _ rfl _ _ _ _ rfl _ _ rfl rfl _ _ (hap9 _) ?_)
                      refine Calls.mono HADD.out ?_
                      rintro e w10 ⟨rfl, hR10⟩
                      have HA8 : Hid (∃ F R M, Al w w10 p wd (.slice mo k mc) F R M ∧ M.Perm R ∧ M.length = k) := HFIN.out _ hR10
                      clear hR10 HADD HFIN hap9
                      go_wp2_with fail
                      go_meet
                      exact ⟨k, mo, mc, by omega, rfl, HA8⟩
                    case false =>
                      go_wp2_with fail
                      refine Calls.mono HCP.out ?_
                      rintro e w8 ⟨qp, rfl, -, hb8⟩
                      have HA8 : Hid (∃ F R M, Al w w8 p wd (.slice mo k mc) F R M ∧ M.Perm R ∧ M.length = k) := ⟨F, R, M, HA7.out.1.bel hb8, HA7.out.2⟩
                      clear hb8 HCP HA7 HI7 HO7 HMH7
                      go_wp2_with fail
                      go_meet
                      exact ⟨k, mo, mc, by omega, rfl, HA8⟩
            case rest =>
              obtain ⟨n', mo', mc', hn', rfl, HA8⟩ := hcut
              as_aux_lemma =>
                obtain ⟨F, R, M, hA, hP, hMn⟩ := HA8.out
                have hlR : R.length = n' := by rw [← hP.length_eq]; exact hMn
                have HALL := hide (all_any hA.s (by omega))
                obtain ⟨WC, hWC⟩ : ∃ W, W = wc := ⟨_, rfl⟩
                subst hWC
                have HAC := hide (⟨hA, hP, hMn⟩ : Al w WC p wd (.slice mo' n' mc') F R M ∧ M.Perm R ∧ M.length = n')
                have HLR := hide hlR
                clear hA hP hMn hlR HA8 HA7 HI7 HO7 HMH7 HAT HC3 HMN HN6
                go_wp2_with fail
                refine Calls.mono HALL.out ?_
                rintro e w9 ⟨v9, rfl, hRw9, hb9⟩
                have hA9 := HAC.out.1.bel hb9
                have HLEN := hide (len_any hA9.s (by have := HLR.out; omega))
                rw [HLR.out] at HLEN
                have HROWS := hide (rows_any v9 _ R M w9 hRw9.rs hA9.m.rs (by
                  obtain ⟨_, _, _, hsv⟩ := hA9.s
                  exact up_step hsv.up hsv.wid) (by rw [HLR.out, HAC.out.2.2]) (by have := HLR.out; omega) (fun x hx => HAC.out.2.1.mem_iff.2 hx))
                have HWO : Hid (∃ vs, Wo WC.heap.size w9 v9 n' vs) := by
                  have h1 := hRw9.wo (fun x hx => by
                    obtain ⟨_, _, _, hsv⟩ := hA9.s
                    rw [hsv.wid x hx]; omega)
                  rwa [HLR.out] at h1
                obtain ⟨a9, c9, rfl⟩ := hRw9.len
                rw [HLR.out] at HWO HROWS ⊢
                have HB9 := hide hb9
                clear hRw9 hb9 hA9 HALL
                go_wp2_with fail
                refine Calls.mono HLEN.out ?_
                rintro e w10 ⟨rfl, hw10⟩
                have hw10' := hw10.symm
                subst hw10'
                clear HLEN
                go_wp2_with fail
                refine Calls.mono HROWS.out ?_
                rintro e w11 ⟨rfl, hb11⟩
                obtain ⟨vs, hwo⟩ := HWO.out
                have HWO11 := hide (hwo.below hb11)
                have HB11 := hide (HB9.out.trans (hb11.mono HB9.out.size))
                clear hwo hb11 HWO HB9 HROWS
                go_wp2_with fail
                go_loopw [20, 21] (fun kv jv wr => ∃ q : Nat, q ≤ n' ∧ kv = .int .i64 (q : Nat) ∧ Hid (Wo WC.heap.size wr (.slice a9 n' c9) n' vs ∧ Below WC.heap.size WC wr)) (fun kv _ _ => n' - (intOf kv).toNat)
                case atStart => exact ⟨0, Nat.zero_le _, rfl, HWO11.out, HB11.out⟩
                case round =>
                  obtain ⟨q, hq, rfl, HQ⟩ := hrel
                  by_cases hqn : q < n'
                  · have hqI : (q : Int) < (n' : Int) := by omega
                    have hwq : IntKind.i64.wrap ((q : Int) + 1) = (q : Int) + 1 := by rw [IntKind.wrap_i64]; omega
                    obtain ⟨g9, rfl⟩ : ∃ g, a9 = some ⟨g, 0, none⟩ := by
                      rcases own_shape HQ.out.1.1 with ⟨_, h0⟩ | ⟨g, c, e, _⟩
                      · omega
                      · simp only [Value.slice.injEq] at e
                        exact ⟨g, e.1⟩
                    obtain ⟨ro, m, rc, hvs, hm, -⟩ := HQ.out.1.2.2 q hqn
                    have HVS := hide hvs
                    clear hvs
                    go_wp2_with fail
                    go_loopw [21] (fun jv wr => ∃ j : Nat, j ≤ m ∧ jv = .int .i64 (j : Nat) ∧ Hid (Wo WC.heap.size wr (.slice (some ⟨g9, 0, none⟩) n' c9) n' vs ∧ Below WC.heap.size WC wr)) (fun jv _ => m - (intOf jv).toNat)
                    case atStart => exact ⟨0, Nat.zero_le _, rfl, HQ⟩
                    case round =>
                      obtain ⟨j, hj, rfl, HJ⟩ := hrel
                      have c9' : wr.cell? ⟨g9, q, none⟩ = some (.slice ro m rc) := by rw [HJ.out.1.1.cellAt q (by omega)]; exact HVS.out
                      by_cases hjm : j < m
                      · have hjI : (j : Int) < (m : Int) := by omega
                        have hwj : IntKind.i64.wrap ((j : Int) + 1) = (j : Int) + 1 := by rw [IntKind.wrap_i64]; omega
                        obtain ⟨ro', m', rc', hvs', -, hh⟩ := HJ.out.1.2.2 q hqn
                        rw [HVS.out] at hvs'
                        simp only [Option.some.injEq, Value.slice.injEq] at hvs'
                        obtain ⟨rfl, rfl, rfl⟩ := hvs'
                        obtain ⟨gr, cs, rfl, hgb, hBx, hms⟩ := hh (by omega)
                        have hce := hBx.c j
                        rw [Array.getElem?_eq_getElem (by omega)] at hce
                        have hfz := hBx.f j
                        have HJ2 := hide (⟨HJ.out.1.put (k := j) hBx (.int .i64 (-7)), HJ.out.2.setCell (p := ⟨gr, j, none⟩) hgb _⟩ : Wo WC.heap.size (wr.setCell ⟨gr, j, none⟩ (.int .i64 (-7))) (.slice (some ⟨g9, 0, none⟩) n' c9) n' vs ∧ Below WC.heap.size WC (wr.setCell ⟨gr, j, none⟩ (.int .i64 (-7))))
                        generalize cs[j] = xx at *
                        clear hBx hms hh HJ HQ
                        go_wp2_with fail
                        go_roundw
                        case rel => exact ⟨j + 1, by omega, by simp, HJ2⟩
                        case measure => simp [intOf]; omega
                      · have hjI : ¬ (j : Int) < (m : Int) := by omega
                        go_wp2_with fail
                        go_roundw
                        case rel => exact ⟨q + 1, by omega, by simp, HJ⟩
                        case measure => simp [intOf]; omega
                  · have hqI : ¬ (q : Int) < (n' : Int) := by omega
                    have HE : Hid (∃ F R M, Al w wr p wd (.slice mo' n' mc') F R M ∧ M.Perm R ∧ M.length = n') := ⟨F, R, M, HAC.out.1.bel HQ.out.2, HAC.out.2⟩
                    clear HQ HAC HLR HWO11 HB11
                    go_wp2_with fail
                    go_roundw
                    case rel => exact ⟨i + 1, n', mo', mc', by omega, by omega, by omega, rfl, by simp, HE⟩
                    case measure => simp [intOf]; omega
    · have hex : ¬ ((i : Int) < (N : Int) ∧ (i : Int) < 60) := by omega
      have HE : Hid (Below w.heap.size w wr) := by obtain ⟨F, R, M, hA, _⟩ := HA.out; exact hA.below
      clear HA
      by_cases h1 : (i : Int) < (N : Int)
      · have h2 : ¬ (i : Int) < 60 := by omega
        go_wp2_with fail
        go_ret
        exact ⟨rfl, HE.out⟩
      · go_wp2_with fail
        go_ret
        exact ⟨rfl, HE.out⟩
end Go.Proofs.Ytfjcadkihnecdaa

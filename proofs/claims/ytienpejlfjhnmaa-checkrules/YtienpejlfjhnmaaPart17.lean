/- The reference's Safe: its contract. The reference's Defined: its contract. The law of rules: its walk. -/
import Derived.Test.YtienpejlfjhnmaaPart15
import Derived.Lib.QuietBelow
import Derived.BigQuiet
import Derived.Test.YtienpejlfjhnmaaPart14
import Derived.Test.YtienpejlfjhnmaaPart16
import Derived.Maps.OwnOps
namespace Go.Proofs.Ytienpejlfjhnmaa.Ck
open Go.RowKit
open Lx (tx wpList_append_run)
open Vl (Tm Ts Fr)
open Sy

set_option maxRecDepth 10000 in
set_option maxHeartbeats 16000000 in
theorem rsafe_any {w : World} {q : Rul} {y : Value} (h : isRul w q y) (hf : FewR q) :
    Calls Try.prog 8 #[y] w fun e w' => e = .returned (.bool (refSafe q)) ∧ Below w.heap.size w w' := by
  have HR := hide h
  have HF := hide hf
  have hlen : q.2.length ≤ 1000000 := hf.body.len
  obtain ⟨va, vb, rfl, hva, hvb⟩ := h
  obtain ⟨_, aoa, capa, rfl⟩ := own_len hva
  obtain ⟨aob, capb, rfl⟩ := isLs_shape hvb
  have hx0 := Lx.below_box w (.cells #[.int .i64 q.1.1, .string q.1.2.1, .slice aoa q.1.2.2.length capa, .slice aob q.2.length capb] 32)
  have B0 := Bx.new w #[.int .i64 q.1.1, .string q.1.2.1, .slice aoa q.1.2.2.length capa, .slice aob q.2.length capb] 32
  obtain ⟨ao, cap, w3, hap, HL, HB3⟩ := head_body (hl := q.1) (isTs_below hva hx0) (isLs_below hvb hx0) hlen
  have B3 := hide (B0.below HB3.out)
  have HB := hide (hx0.trans (HB3.out.mono hx0.size))
  have hap' : ∀ ty, (Builtin.append_ #[30, 30] ty #[.slice (some ⟨w.heap.size + 1, 0, none⟩) 1 1, .slice aob q.2.length capb]).run Try.prog ((w.alloc (.cells #[.int .i64 q.1.1, .string q.1.2.1, .slice aoa q.1.2.2.length capa, .slice aob q.2.length capb] 32)).alloc (.cells #[.int .i64 q.1.1, .string q.1.2.1, .slice aoa q.1.2.2.length capa] 29)) = .ok (.slice ao (q.2.length + 1) cap) w3 := fun ty => by
    have := hap ty
    rw [World.size_alloc] at this
    exact this
  clear hap hva hvb hf hx0 B0 HB3
  obtain ⟨A, hA⟩ : ∃ A, q.1 :: q.2 = A := ⟨_, rfl⟩
  obtain ⟨N, hN⟩ : ∃ N, q.2.length + 1 = N := ⟨_, rfl⟩
  have hAN : A.length = N := by rw [← hA, ← hN]; rfl
  have HT : Hid ((∀ j (hj : j < A.length), okL q.2 j A[j] = true) → refSafe q = true) := by subst hA; exact refSafe_true
  have HFa : Hid (∀ j (hj : j < A.length), okL q.2 j A[j] = false → refSafe q = false) := by subst hA; exact fun j hj => refSafe_false hj
  have HFw : Hid (∀ l ∈ A, l.2.2.length ≤ 1000000) := by
    subst hA
    intro l hl
    rcases List.mem_cons.1 hl with rfl | hl
    · exact HF.out.head.1
    · exact (HF.out.body.args l hl).1
  rw [hA, hN] at HL
  rw [hN] at hap'
  have hNm : N ≤ 1000001 := by omega
  have HC := hide (isLs_cells HL.out).2
  clear hA hN HL
  have HAN := hide hAN
  clear hAN
  go_enter Try.func8, Try.ntmps8
  go_wp2_with (at_builtin; refine wpList_append_run _ rfl (.tmp 8) (.tmp 10) 30 30 rfl _ _ rfl rfl (hap' _) ?_)
  clear hap'
  go_loopw [4, 5] (fun iv _ wr => ∃ i : Nat, iv = .int .i64 i ∧ i ≤ N ∧ Hid (∀ j (hj : j < A.length), j < i → okL q.2 j A[j] = true) ∧ Hid (Below w3.heap.size w3 wr)) (fun iv _ _ => N - (intOf iv).toNat)
  case atStart => exact ⟨0, rfl, Nat.zero_le _, fun j _ h => absurd h (Nat.not_lt_zero _), Below.refl _ _⟩
  case round =>
    obtain ⟨i, rfl, hi, HI, HBw⟩ := hrel
    obtain ⟨W0, hW0⟩ : ∃ W0, W0 = wr := ⟨_, rfl⟩
    subst hW0
    by_cases hlt : i < N
    · have hltI : (i : Int) < (N : Int) := by omega
      have hltA : i < A.length := by rw [HAN.out]; exact hlt
      obtain ⟨g, rfl, hc⟩ := HC.out (by omega)
      obtain ⟨u, hu, k0, k1, k2⟩ := hc i hltA
      have hts := (TsB.of hu (HFw.out _ (List.getElem_mem hltA))).below HBw.out
      have k0 := cell_below' k0 HBw.out
      have k2 := cell_below' k2 HBw.out
      have HFi := hide (HFa.out i hltA)
      have HIs : Hid (okL q.2 i A[i] = true → ∀ j (hj : j < A.length), j < i + 1 → okL q.2 j A[j] = true) := fun h j hj hji => by
        by_cases e : j = i
        · subst e
          exact h
        · exact HI.out j hj (by omega)
      clear hc hu k1
      generalize A[i] = l at *
      obtain ⟨lk, ln, ts⟩ := l
      simp only at k0 k2 hts
      obtain ⟨aot, capt, rfl, htl, hct⟩ := hts
      have HCT := hide hct
      clear hct
      obtain ⟨bi, hbi⟩ : ∃ bi, ((i : Int) == 0) = bi := ⟨_, rfl⟩
      obtain ⟨bl, hbl⟩ : ∃ bl, (lk != 1) = bl := ⟨_, rfl⟩
      have HOK : Hid (okL q.2 i (lk, ln, ts) = ((!bi && !bl) || ts.all (okT q.2))) := by
        show _ = _
        have e1 : decide (i = 0) = bi := by rw [← hbi]; by_cases h : i = 0 <;> simp [h]
        have e2 : decide (lk = 1) = !bl := by rw [← hbl]; by_cases h : lk = 1 <;> simp [h]
        simp only [okL, e1, e2]
      have HK0 := hide k0
      have HK2 := hide k2
      have Hbi := hide hbi
      have Hbl := hide hbl
      clear hbi hbl
      go_wp2_with fail
      go_loopw [5] (fun jv wq => ∃ j : Nat, jv = .int .i64 j ∧ j ≤ ts.length ∧ Hid (((!bi && !bl) || (ts.take j).all (okT q.2)) = true) ∧ Hid (Below W0.heap.size W0 wq)) (fun jv _ => ts.length - (intOf jv).toNat)
      case atStart => exact ⟨0, rfl, Nat.zero_le _, by show _ = _; simp, Below.refl _ _⟩
      case round =>
        obtain ⟨j, rfl, hj, HJ, HBq⟩ := hrel
        have hB3 := HBw.out.trans (HBq.out.mono HBw.out.size)
        have HB4 := hide (HB.out.trans (hB3.mono HB.out.size))
        have k0 := cell_below' HK0.out HBq.out
        have k2 := cell_below' HK2.out HBq.out
        obtain ⟨⟨c0, c1, c2, c3⟩, _, _, _, _⟩ := (B3.out.below hB3).four
        have HB3 := hide hB3
        clear hB3
        by_cases hjl : j < ts.length
        · have hjlI : (j : Int) < (ts.length : Int) := by omega
          obtain ⟨gt, offt, rfl, hgt, hc⟩ := HCT.out (by omega)
          obtain ⟨t0, t1, _⟩ := hc j hjl
          have t0 := cell_below' t0 HBq.out
          have t1 := cell_below' t1 HBq.out
          have HBT := hide (all_take (p := okT q.2) hjl)
          have HBF : Hid (okT q.2 ts[j] = false → ts.all (okT q.2) = false) := fun hp => all_false hjl hp
          clear hc
          generalize ts[j] = t at *
          obtain ⟨tk, tn, tz⟩ := t
          simp only at t0 t1
          obtain ⟨bb, hbb⟩ : ∃ bb, bindsB q.2 tn = bb := ⟨_, rfl⟩
          have cE : ∀ d os, Calls Try.prog 20 #[.agg #[.int .i64 q.1.1, .string q.1.2.1, .slice aoa q.1.2.2.length capa, .slice aob q.2.length capb], .string tn] (Sort.grow (redrawn wr d) os) fun e w'' => e = .returned (.bool bb) ∧ ∃ p : Regrown, w'' = Sort.grow (redrawn wr p.d) p.os := fun d os => Calls.regrown_of (by
            have := binds_any (isRul_bel HR.out (HB4.out.trans ((below_regrown wr d os).mono HB4.out.size))) HF.out tn
            rw [hbb] at this
            exact this)
          obtain ⟨bt, hbt⟩ : ∃ bt, (tk == 1) = bt := ⟨_, rfl⟩
          have HT0 : Hid (okT q.2 (tk, tn, tz) = (!bt || bb)) := by
            show _ = _
            have e1 : decide (tk = 1) = bt := by rw [← hbt]; by_cases h : tk = 1 <;> simp [h]
            simp only [okT, e1, hbb]
          have hbi := Hbi.out
          have hbl := Hbl.out
          clear hbb
          have HRD : Hid (∀ (R : Bool) (wz : World), Below wr.heap.size wr wz → Below W0.heap.size W0 wz) := fun _ wz hz => HBq.out.trans (hz.mono HBq.out.size)
          cases bt with
          | false =>
            have HJ2 : Hid (((!bi && !bl) || (ts.take (j + 1)).all (okT q.2)) = true) := by
              show _ = _
              have h1 := HJ.out
              rw [HBT.out, HT0.out]
              simpa using h1
            go_wp2_with fail
            go_big_quiet (fail)
            have HBz := hide (HRD.out true _ (Sy.below_drewN wr nq))
            go_wp2_with fail
            go_roundw
            case rel => exact ⟨j + 1, by go_num, by omega, HJ2, by assumption⟩
            case measure => simp [intOf]; omega
          | true =>
            cases bi with
            | true =>
              cases bb with
              | true =>
                have HJ2 : Hid (((!true && !bl) || (ts.take (j + 1)).all (okT q.2)) = true) := by
                  show _ = _
                  have h1 := HJ.out
                  rw [HBT.out, HT0.out]
                  simpa using h1
                go_wp2_with fail
                have c0 := cell_regrown c0
                have c1 := cell_regrown c1
                have c2 := cell_regrown c2
                have c3 := cell_regrown c3
                have k0 := cell_regrown k0
                have k2 := cell_regrown k2
                have t0 := cell_regrown t0
                have t1 := cell_regrown t1
                refine wp_region_quiet_below (by kernel_rfl) (by kernel_rfl) ?_
                repeat (go_big_quiet_step (first | exact cE _ _))
                refine wpQuiet_nil ?_
                intro wz hw'
                obtain ⟨⟨dq, osq⟩, hw''⟩ := hw'
                have hbq := below_regrown wr dq osq
                rw [← hw''] at hbq
                have HBz := hide (HRD.out true _ hbq)
                clear hw'' hbq cE c0 c1 c2 c3 k0 k2 t0 t1
                go_wp2_with fail
                go_roundw
                case rel => exact ⟨j + 1, by go_num, by omega, HJ2, HBz⟩
                case measure => simp [intOf]; omega
              | false =>
                have HR2 : Hid (refSafe q = false) := by
                  show _ = _
                  refine HFi.out ?_
                  rw [HOK.out, HBF.out HT0.out]
                  rfl
                go_wp2_with fail
                have c0 := cell_regrown c0
                have c1 := cell_regrown c1
                have c2 := cell_regrown c2
                have c3 := cell_regrown c3
                have k0 := cell_regrown k0
                have k2 := cell_regrown k2
                have t0 := cell_regrown t0
                have t1 := cell_regrown t1
                refine wp_region_quiet_below (by kernel_rfl) (by kernel_rfl) ?_
                repeat (go_big_quiet_step (first | exact cE _ _))
                refine wpQuiet_nil ?_
                intro wz hw'
                obtain ⟨⟨dq, osq⟩, hw''⟩ := hw'
                have hbq := below_regrown wr dq osq
                rw [← hw''] at hbq
                have HBz := hide (HRD.out true _ hbq)
                clear hw'' hbq cE c0 c1 c2 c3 k0 k2 t0 t1
                go_wp2_with fail
                go_ret
                refine ⟨?_, HB.out.trans ((HBw.out.trans (HBz.out.mono HBw.out.size)).mono HB.out.size)⟩
                rw [HR2.out]
                rfl
            | false =>
              cases bl with
              | true =>
                cases bb with
                | true =>
                  have HJ2 : Hid (((!false && !true) || (ts.take (j + 1)).all (okT q.2)) = true) := by
                    show _ = _
                    have h1 := HJ.out
                    rw [HBT.out, HT0.out]
                    simpa using h1
                  go_wp2_with fail
                  have c0 := cell_regrown c0
                  have c1 := cell_regrown c1
                  have c2 := cell_regrown c2
                  have c3 := cell_regrown c3
                  have k0 := cell_regrown k0
                  have k2 := cell_regrown k2
                  have t0 := cell_regrown t0
                  have t1 := cell_regrown t1
                  refine wp_region_quiet_below (by kernel_rfl) (by kernel_rfl) ?_
                  repeat (go_big_quiet_step (first | exact cE _ _))
                  refine wpQuiet_nil ?_
                  intro wz hw'
                  obtain ⟨⟨dq, osq⟩, hw''⟩ := hw'
                  have hbq := below_regrown wr dq osq
                  rw [← hw''] at hbq
                  have HBz := hide (HRD.out true _ hbq)
                  clear hw'' hbq cE c0 c1 c2 c3 k0 k2 t0 t1
                  go_wp2_with fail
                  go_roundw
                  case rel => exact ⟨j + 1, by go_num, by omega, HJ2, HBz⟩
                  case measure => simp [intOf]; omega
                | false =>
                  have HR2 : Hid (refSafe q = false) := by
                    show _ = _
                    refine HFi.out ?_
                    rw [HOK.out, HBF.out HT0.out]
                    rfl
                  go_wp2_with fail
                  have c0 := cell_regrown c0
                  have c1 := cell_regrown c1
                  have c2 := cell_regrown c2
                  have c3 := cell_regrown c3
                  have k0 := cell_regrown k0
                  have k2 := cell_regrown k2
                  have t0 := cell_regrown t0
                  have t1 := cell_regrown t1
                  refine wp_region_quiet_below (by kernel_rfl) (by kernel_rfl) ?_
                  repeat (go_big_quiet_step (first | exact cE _ _))
                  refine wpQuiet_nil ?_
                  intro wz hw'
                  obtain ⟨⟨dq, osq⟩, hw''⟩ := hw'
                  have hbq := below_regrown wr dq osq
                  rw [← hw''] at hbq
                  have HBz := hide (HRD.out true _ hbq)
                  clear hw'' hbq cE c0 c1 c2 c3 k0 k2 t0 t1
                  go_wp2_with fail
                  go_ret
                  refine ⟨?_, HB.out.trans ((HBw.out.trans (HBz.out.mono HBw.out.size)).mono HB.out.size)⟩
                  rw [HR2.out]
                  rfl
              | false =>
                have HJ2 : Hid (((!false && !false) || (ts.take (j + 1)).all (okT q.2)) = true) := rfl
                go_wp2_with fail
                go_big_quiet (fail)
                have HBz := hide (HRD.out true _ (Sy.below_drewN wr nq))
                go_wp2_with fail
                go_roundw
                case rel => exact ⟨j + 1, by go_num, by omega, HJ2, by assumption⟩
                case measure => simp [intOf]; omega
        · have hjlI : ¬ (j : Int) < (ts.length : Int) := by omega
          have hje : ts.take j = ts := by rw [show j = ts.length by omega, List.take_length]
          rw [hje] at HJ
          clear hje
          go_wp2_with fail
          go_roundw
          case rel => exact ⟨i + 1, by go_num, by omega, HIs.out (HOK.out.trans HJ.out), HB3⟩
          case measure => simp [intOf]; omega
    · have hltI : ¬ (i : Int) < (N : Int) := by omega
      go_wp2_with fail
      go_ret
      refine ⟨?_, HB.out.trans (HBw.out.mono HB.out.size)⟩
      rw [HT.out fun j hj => HI.out j hj (by have := HAN.out; omega)]
      rfl
end Go.Proofs.Ytienpejlfjhnmaa.Ck
namespace Go.Proofs.Ytienpejlfjhnmaa.Ck
open Go.RowKit
open Vl (Tm Ts Fr)
open Sy

set_option maxRecDepth 10000 in
set_option maxHeartbeats 2000000 in
theorem rdefined_any (nm : ByteArray) {rs : List Rul} {v : Value} {w : World} (h : isRs w rs v) (hl : rs.length ≤ 1000000) :
    Calls Try.prog 12 #[v, .string nm] w fun e w' => e = .returned (.bool (defR rs nm)) ∧ w' = w := by
  obtain ⟨ao, cap, rfl⟩ := Rp.isRs_shape h
  have HC := hide (Rp.isRs_cells h).2
  clear h
  obtain ⟨p, hp⟩ : ∃ p : Rul → Bool, p = fun q => q.1.2.1.toList == nm.toList := ⟨_, rfl⟩
  have HD : Hid (defR rs nm = rs.any p) := by rw [hp]; rfl
  have HP := hide hp
  clear hp
  go_enter Try.func12, Try.ntmps12
  go_wp2_with fail
  go_loopw [5] (fun iv wr => ∃ i : Nat, iv = .int .i64 i ∧ i ≤ rs.length ∧ Hid ((rs.take i).any p = false) ∧ wr = w) (fun iv _ => rs.length - (intOf iv).toNat)
  case atStart => exact ⟨0, rfl, Nat.zero_le _, rfl, rfl⟩
  case round =>
    obtain ⟨i, rfl, hi, HI, hwr⟩ := hrel
    have hwr' := hwr.symm
    subst hwr'
    clear hwr
    by_cases hlt : i < rs.length
    · have hltI : (i : Int) < (rs.length : Int) := by omega
      obtain ⟨g, rfl, hc⟩ := HC.out (by omega)
      obtain ⟨u, x, hu, hx, k0, k1, k2, k3⟩ := hc i hlt
      have HAT := hide (any_take (p := p) hlt)
      have HAF : Hid (p rs[i] = true → rs.any p = true) := fun hp => any_true hlt hp
      have HPP : Hid (p rs[i] = (rs[i].1.2.1.toList == nm.toList)) := by show _ = _; rw [HP.out]
      clear hc hu hx k0 k2 k3
      generalize rs[i] = q at *
      obtain ⟨⟨qk, qn, qt⟩, qb⟩ := q
      simp only at k1 HPP
      cases hq : (qn.toList == nm.toList)
      · rw [hq] at HPP
        go_wp2_with fail
        go_roundw
        case rel => exact ⟨i + 1, by go_num, by omega, by show _ = _; rw [HAT.out, HI.out, HPP.out]; rfl, by first | rfl | trivial⟩
        case measure => simp [intOf]; omega
      · rw [hq] at HPP
        go_wp2_with fail
        go_ret
        rw [HD.out, HAF.out HPP.out]
        exact ⟨rfl, rfl⟩
    · have hltI : ¬ (i : Int) < (rs.length : Int) := by omega
      have hie : rs.take i = rs := by rw [show i = rs.length by omega, List.take_length]
      rw [hie] at HI
      clear hie
      go_wp2_with fail
      go_ret
      rw [HD.out, HI.out]
      exact ⟨rfl, rfl⟩
end Go.Proofs.Ytienpejlfjhnmaa.Ck
namespace Go.Proofs.Ytienpejlfjhnmaa.Ck
open Go.RowKit Go.Shelf
open Lx (tx bs)
open Vl (Tm Ts Fr)
open Sy

/-- Facts that are handed in: their names, and how many terms they have. -/
def FsG (w : World) (v : Value) (L : List Raw) : Prop :=
  ∃ ao cap, v = .slice ao L.length cap ∧ L.length ≤ cap ∧ cap ≤ maxLen ∧ (0 < L.length → ∃ g off, ao = some ⟨g, off, none⟩ ∧ ∀ i (h : i < L.length), w.cell? ⟨g, off + i * 2, none⟩ = some (.string L[i].1) ∧ ∃ aa ca, w.cell? ⟨g, off + i * 2 + 1, none⟩ = some (.slice aa L[i].2 ca))

theorem fsB_of {w : World} {ao : Option Addr} {cap : Nat} {L : List Raw} {k : Nat} (hk : k ≤ L.length) (hk1 : k ≤ 10) (h : 0 < L.length → ∃ g off, ao = some ⟨g, off, none⟩ ∧ ∀ i (h : i < L.length), w.cell? ⟨g, off + i * 2, none⟩ = some (.string L[i].1) ∧ ∃ aa ca, w.cell? ⟨g, off + i * 2 + 1, none⟩ = some (.slice aa L[i].2 ca)) :
    FsB w (.slice ao k cap) (L.take k) := by
  have hl : (L.take k).length = k := by rw [List.length_take]; omega
  refine ⟨ao, cap, by rw [hl], by omega, fun hp => ?_⟩
  obtain ⟨g, off, rfl, hc⟩ := h (by omega)
  refine ⟨g, off, rfl, fun i hi => ?_⟩
  have := hc i (by omega)
  simpa using this

theorem foldN_mem (l : List Raw) : ∀ x ∈ (foldN l).1, x ∈ l := by
  have key : ∀ (l : List Raw) (st : List Raw × Bool) (x : Raw), x ∈ (l.foldl stepN st).1 → x ∈ st.1 ∨ x ∈ l := fun l => by
    induction l with
    | nil => exact fun st x h => Or.inl h
    | cons y l ih =>
      intro st x h
      rcases ih (stepN st y) x h with h | h
      · have h2 : x ∈ addN st.1 y := h
        unfold addN at h2
        split at h2
        · exact Or.inl h2
        · rcases List.mem_append.1 h2 with h3 | h3
          · exact Or.inl h3
          · exact Or.inr (by rw [List.mem_singleton.1 h3]; simp)
      · exact Or.inr (by simp [h])
  intro x hx
  rcases key l ([], true) x hx with h | h
  · simp at h
  · exact h

set_option maxRecDepth 10000 in
set_option maxHeartbeats 32000000 in
theorem rules_law (s name : ByteArray) (vf : Value) (L : List Raw) (w : World) (hf : FsG w vf L) (hF : ∀ x ∈ L, okP x) :
    Calls Try.prog 3 #[.string s, vf, .string name] w fun e w' => e = .returned (.bool true) ∧ Below w.heap.size w w' := by
  obtain ⟨aof, capf, rfl, hlc, hcm, hcf⟩ := hf
  have HCF := hide hcf
  have HFK := hide hF
  clear hcf hF
  obtain ⟨hl30, hokR⟩ := read_ok s
  have HOK := hide hokR
  clear hokR
  have HBeg := hide (begun_any w)
  have hcap : L.length ≤ capf := hlc
  have hmax : capf ≤ 9223372036854775807 := hcm
  clear hcm
  go_enter Try.func3, Try.ntmps3
  go_wp2_with fail
  refine Calls.mono HBeg.out ?_
  rintro e w1 ⟨rfl, hb1⟩
  have HB1 := hide hb1
  have HRu := hide (rules_any s w1)
  clear hb1 HBeg
  go_wp2_with fail
  refine Calls.mono HRu.out ?_
  rintro e w2 ⟨⟨y, rfl, hy⟩, hb2⟩
  have HB2 := hide (HB1.out.trans (hb2.mono HB1.out.size))
  obtain ⟨ao, cap, rfl⟩ := Rp.isRs_shape hy
  have HY := hide hy
  generalize rulesS s = rs at *
  clear hy hb2 HRu
  obtain ⟨bg, hbg⟩ : ∃ bg, decide ((L.length : Int) > 10) = bg := ⟨_, rfl⟩
  go_upto_if 25 with fail
  go_cut [1] from 23 to 27 (fun v wc => (∃ k : Nat, v = .slice aof k capf ∧ k ≤ 10 ∧ k ≤ L.length) ∧ wc = w2)
  case first =>
    cases bg with
    | true =>
      have hgt : 10 < L.length := by have := of_decide_eq_true hbg; omega
      obtain ⟨g, off, rfl, _⟩ := HCF.out (by omega)
      go_wp2_with fail
      go_meet
      exact ⟨⟨10, rfl, by omega, by omega⟩, rfl⟩
    | false =>
      have hgt : L.length ≤ 10 := by have := of_decide_eq_false hbg; omega
      go_wp2_with fail
      go_meet
      exact ⟨⟨L.length, rfl, by omega, by omega⟩, rfl⟩
  case rest =>
    obtain ⟨⟨k, rfl, hk10, hkL⟩, hwc⟩ := hcut
    have hwc' := hwc.symm
    subst hwc'
    clear hwc hbg
    have HFS0 := hide (fsB_of (w := w) (cap := capf) hkL hk10 HCF.out)
    obtain ⟨fs, hfsd⟩ : ∃ fs, L.take k = fs := ⟨_, rfl⟩
    have HFO : Hid (∀ x ∈ fs, okP x) := fun x hx => HFK.out x (by rw [← hfsd] at hx; exact List.mem_of_mem_take hx)
    have hfl : fs.length ≤ 10 := by rw [← hfsd, List.length_take]; omega
    rw [hfsd] at HFS0
    have HFS : Hid (∀ W, Below w2.heap.size w2 W → FsB W (.slice aof k capf) fs) := fun W hW => HFS0.out.kept (Kc.of_below (HB2.out.trans (hW.mono HB2.out.size)))
    clear hfsd HFS0 HCF HFK hlc hcap hmax hkL
    have HBo : Hid (∀ q ∈ rs, q.2.length ≤ 1000000) := fun q hq => by have := (HOK.out q hq).few; omega
    have HRW : Hid ((∀ x ∈ rawRs rs ++ fs, okP x) ∧ (rawRs rs ++ fs).length ≤ 100000) := by
      obtain ⟨h1, h2⟩ := rawRs_ok HOK.out
      refine ⟨fun x hx => ?_, by rw [List.length_append]; omega⟩
      rcases List.mem_append.1 hx with hx | hx
      · exact h1 x hx
      · exact HFO.out x hx
    go_wp2_with fail
    go_loopw [9] (fun iv wr => ∃ i : Nat, iv = .int .i64 i ∧ i ≤ rs.length ∧ Hid (Below w2.heap.size w2 wr)) (fun iv _ => rs.length - (intOf iv).toNat)
    case atStart => exact ⟨0, rfl, Nat.zero_le _, Below.refl _ _⟩
    case round =>
      obtain ⟨i, rfl, hi, HBw⟩ := hrel
      by_cases hlt : i < rs.length
      · have hltI : (i : Int) < (rs.length : Int) := by omega
        obtain ⟨g, rfl, hc⟩ := (Rp.isRs_cells HY.out).2 (by omega)
        obtain ⟨va, vb, hva, hvb, k0, k1, k2, k3⟩ := hc i hlt
        have hq := HOK.out _ (List.getElem_mem hlt)
        have HRu : Hid (isRul wr rs[i] (.agg #[.int .i64 rs[i].1.1, .string rs[i].1.2.1, va, vb])) := ⟨va, vb, rfl, isTs_below hva HBw.out, isLs_below hvb HBw.out⟩
        have k0 := cell_below' k0 HBw.out
        have k1 := cell_below' k1 HBw.out
        have k2 := cell_below' k2 HBw.out
        have k3 := cell_below' k3 HBw.out
        have HFq := hide (okR_few hq)
        have hsm := okR_same hq
        obtain ⟨_, aoa, capa, rfl⟩ := own_len hva
        obtain ⟨aob, capb, rfl⟩ := isLs_shape hvb
        clear hc hva hvb hq
        generalize rs[i] = q at *
        obtain ⟨sb, hsb⟩ : ∃ sb, refSafe q = sb := ⟨_, rfl⟩
        have c7 : ∀ d os, Calls Try.prog 7 #[.agg #[.int .i64 q.1.1, .string q.1.2.1, .slice aoa q.1.2.2.length capa, .slice aob q.2.length capb]] (Sort.grow (redrawn wr d) os) fun e w'' => e = .returned (.bool sb) ∧ ∃ p : Regrown, w'' = Sort.grow (redrawn wr p.d) p.os := fun d os => Calls.regrown_of (by
          have := safe_any (isRul_bel HRu.out (below_regrown wr d os)) HFq.out
          rw [hsm, hsb] at this
          exact this)
        have c8 : ∀ d os, Calls Try.prog 8 #[.agg #[.int .i64 q.1.1, .string q.1.2.1, .slice aoa q.1.2.2.length capa, .slice aob q.2.length capb]] (Sort.grow (redrawn wr d) os) fun e w'' => e = .returned (.bool sb) ∧ ∃ p : Regrown, w'' = Sort.grow (redrawn wr p.d) p.os := fun d os => Calls.regrown_of (by
          have := rsafe_any (isRul_bel HRu.out (below_regrown wr d os)) HFq.out
          rw [hsb] at this
          exact this)
        clear hsm hsb
        have k0 := cell_regrown k0
        have k1 := cell_regrown k1
        have k2 := cell_regrown k2
        have k3 := cell_regrown k3
        have HRD : Hid (∀ wz : World, Below wr.heap.size wr wz → Below w2.heap.size w2 wz) := fun wz hz => HBw.out.trans (hz.mono HBw.out.size)
        cases sb
        all_goals go_wp2_with fail
        all_goals refine wp_region_quiet_below (by kernel_rfl) (by kernel_rfl) ?_
        all_goals repeat (go_big_quiet_step (first | exact c7 _ _ | exact c8 _ _))
        all_goals refine wpQuiet_nil ?_
        all_goals intro wz hw'
        all_goals obtain ⟨⟨dq, osq⟩, hw''⟩ := hw'
        all_goals have hbq := below_regrown wr dq osq
        all_goals rw [← hw''] at hbq
        all_goals have HBz := hide (HRD.out _ hbq)
        all_goals clear hw'' hbq c7 c8 k0 k1 k2 k3
        all_goals go_wp2_with fail
        all_goals go_roundw
        all_goals first
          | exact ⟨i + 1, by go_num, by omega, HBz⟩
          | (simp [intOf]; omega)
      · have hltI : ¬ (i : Int) < (rs.length : Int) := by omega
        have HA : Hid (Calls Try.prog 9 #[.slice ao rs.length cap, .slice aof k capf] wr fun e W' => (if (foldN (rawRs rs ++ fs)).2 = true then e = .returned (.tuple #[.map (some (wr.heap.size + 2)), .int .i64 0]) ∧ ∃ N D, W'.ownsMap Try.prog 9 (plainElem (H := Unit) Try.prog 3) (wr.heap.size + 2) N D ∧ MapOf D (foldN (rawRs rs ++ fs)).1 else e = .returned (.tuple #[.map none, .int .i64 6])) ∧ Below wr.heap.size wr W') := (callsIn_wide.1 (arities_in 3 (Nat.le_refl _) rs fs _ (.slice aof k capf) wr (isRs_below HY.out HBw.out) (HFS.out _ HBw.out) (by omega) HBo.out HRW.out.1 (by have := HRW.out.2; omega)))
        have HWN := hide (wid_nodup (rawRs rs ++ fs))
        have HNM : Hid (∀ x ∈ (foldN (rawRs rs ++ fs)).1, x.1.size ≤ maxLen) := fun x hx => by
          have := HRW.out.1 x (foldN_mem _ x hx)
          have h1 := this.1
          simp only [maxLen]
          omega
        have HPP : Hid (∀ W, Below w2.heap.size w2 W → Calls Try.prog 10 #[.slice ao rs.length cap, .slice aof k capf] W fun e w' => ∃ vn vw, e = .returned (.tuple #[vn, vw, .bool (foldN (rawRs rs ++ fs)).2]) ∧ Nw W.heap.size w' (foldN (rawRs rs ++ fs)).1 vn vw ∧ Below W.heap.size W w') := fun W hW =>
          rpreds_any (isRs_below HY.out hW) (HFS.out _ hW) (by omega) HBo.out HRW.out.2
        have HD1 : Hid (∀ W, Below w2.heap.size w2 W → Calls Try.prog 11 #[.slice ao rs.length cap, .string name] W fun e w' => e = .returned (.bool (defR rs name)) ∧ Below W.heap.size W w') := fun W hW => defined_any name (isRs_below HY.out hW) (by omega)
        have HD2 : Hid (∀ W, Below w2.heap.size w2 W → Calls Try.prog 12 #[.slice ao rs.length cap, .string name] W fun e w' => e = .returned (.bool (defR rs name)) ∧ w' = W) := fun W hW => rdefined_any name (isRs_below HY.out hW) (by omega)
        have hmL := Nat.le_trans (foldN_len (rawRs rs ++ fs)) HRW.out.2
        generalize foldN (rawRs rs ++ fs) = F at *
        obtain ⟨m, okf⟩ := F
        simp only at HPP HWN HNM HA hmL
        clear HRW HBo HFO HOK
        go_wp2_with fail
        refine Calls.mono HA.out ?_
        rintro e w3 ⟨hz, hb3⟩
        have HB3 := hide (HBw.out.trans (hb3.mono HBw.out.size))
        clear HA
        cases okf with
        | false =>
          rw [if_neg (by decide)] at hz
          subst hz
          clear hb3
          go_wp2_with fail
          refine Calls.mono (HPP.out w3 HB3.out) ?_
          rintro e w4 ⟨vn, vw, rfl, hn4, hb4⟩
          have HB4 := hide (HB2.out.trans ((HB3.out.trans (hb4.mono HB3.out.size)).mono HB2.out.size))
          clear hb4 hn4
          go_wp2_with fail
          go_ret
          exact ⟨rfl, HB4.out⟩
        | true =>
          rw [if_pos rfl] at hz
          obtain ⟨rfl, N, D, hown, hM⟩ := hz
          have HOWN := hide hown
          have HM := hide hM
          clear hown hM hb3
          go_wp2_with fail
          refine Calls.mono (HPP.out w3 HB3.out) ?_
          rintro e w4 ⟨vn, vw, rfl, hn4, hb4⟩
          have HB4 := hide (HB3.out.trans (hb4.mono HB3.out.size))
          have hown4 := ownsMap_fr HOWN.out (Fr.of_below (F := fun _ => False) hb4) id
          have HOW4 := hide hown4
          have hlen3 := fun ty => hown4.len Try.underlying33 ty
          rw [HM.out.size] at hlen3
          have HN4 := hide hn4
          obtain ⟨an, cn, aw, cw, rfl, rfl, _⟩ := hn4.cells
          have hD4 := hide (HD1.out w4 HB4.out)
          obtain ⟨bd, hbd⟩ : ∃ bd, defR rs name = bd := ⟨_, rfl⟩
          rw [hbd] at hD4 HD1 HD2
          clear hbd hb4 hown4 hn4 HOWN
          go_wp2_with fail
          refine Calls.mono hD4.out ?_
          rintro e w5 ⟨rfl, hb5⟩
          have HB5 := hide (HB4.out.trans (hb5.mono HB4.out.size))
          have hD5 := hide (HD2.out w5 HB5.out)
          have HN5 := hide (HN4.out.below hb5)
          have HOW5 := hide (ownsMap_fr HOW4.out (Fr.of_below (F := fun _ => False) hb5) id)
          clear hb5 hlen3
          cases bd with
          | true =>
            go_wp2_with fail
            refine Calls.mono hD5.out ?_
            rintro e w6 ⟨rfl, hw6⟩
            have hw6' := hw6.symm
            subst hw6'
            clear hw6
            go_wp2_with fail
            go_loopw [15, 16, 17] (fun iv _ _ wr => ∃ i : Nat, iv = .int .i64 i ∧ i ≤ m.length ∧ wr = w5) (fun iv _ _ _ => m.length - (intOf iv).toNat)
            case atStart => exact ⟨0, rfl, Nat.zero_le _, rfl⟩
            case round =>
              obtain ⟨i, rfl, hi, hwr⟩ := hrel
              have hwr' := hwr.symm
              subst hwr'
              clear hwr
              by_cases hlt : i < m.length
              · have hltI : (i : Int) < (m.length : Int) := by omega
                obtain ⟨an', cn', aw', cw', e1, e2, hc⟩ := HN5.out.cells
                simp only [Value.slice.injEq, true_and] at e1 e2
                obtain ⟨rfl, rfl⟩ := e1
                obtain ⟨rfl, rfl⟩ := e2
                obtain ⟨gn, gw, rfl, rfl, hc2⟩ := hc (by omega)
                obtain ⟨k0, k1⟩ := hc2 i hlt
                have hwd := HWN.out i hlt
                have hhas := HM.out.has m[i].1
                have hat' := HM.out.at' m[i].1
                rw [wid_has, hwd] at hhas
                rw [hwd] at hat'
                have hx1 := HNM.out m[i] (List.getElem_mem hlt)
                clear hwd hc hc2
                generalize m[i] = x at *
                obtain ⟨xn, xk⟩ := x
                simp only at k0 k1 hhas hat' hx1
                have hxk : ((xk : Int) != (xk : Int)) = false := by simp
                go_wp2_with (at_lookup; refine wpList_lookup_own_ok_int _ rfl _ _ 33 rfl 9 3 .i64 (Maps.string_keyed Try.underlying9) Try.underlying33 Try.underlying3 (Try.zeroValue3 _) _ _ D rfl HOW5.out _ _ rfl (WideMaps.keyOf_string_mk Try.underlying9 hx1) ?_; intro c hat hwc; rw [hhas]; have hcc := hat'.symm.trans hat; simp at hcc; subst hcc; clear hat hwc)
                go_roundw
                case rel => exact ⟨i + 1, by go_num, by omega, by first | rfl | trivial⟩
                case measure => simp [intOf]; omega
              · have hltI : ¬ (i : Int) < (m.length : Int) := by omega
                go_wp2_with fail
                go_ret
                exact ⟨rfl, HB2.out.trans (HB5.out.mono HB2.out.size)⟩
          | false =>
            go_wp2_with fail
            refine Calls.mono hD5.out ?_
            rintro e w6 ⟨rfl, hw6⟩
            have hw6' := hw6.symm
            subst hw6'
            clear hw6
            go_wp2_with fail
            go_loopw [15, 16, 17] (fun iv _ _ wr => ∃ i : Nat, iv = .int .i64 i ∧ i ≤ m.length ∧ wr = w5) (fun iv _ _ _ => m.length - (intOf iv).toNat)
            case atStart => exact ⟨0, rfl, Nat.zero_le _, rfl⟩
            case round =>
              obtain ⟨i, rfl, hi, hwr⟩ := hrel
              have hwr' := hwr.symm
              subst hwr'
              clear hwr
              by_cases hlt : i < m.length
              · have hltI : (i : Int) < (m.length : Int) := by omega
                obtain ⟨an', cn', aw', cw', e1, e2, hc⟩ := HN5.out.cells
                simp only [Value.slice.injEq, true_and] at e1 e2
                obtain ⟨rfl, rfl⟩ := e1
                obtain ⟨rfl, rfl⟩ := e2
                obtain ⟨gn, gw, rfl, rfl, hc2⟩ := hc (by omega)
                obtain ⟨k0, k1⟩ := hc2 i hlt
                have hwd := HWN.out i hlt
                have hhas := HM.out.has m[i].1
                have hat' := HM.out.at' m[i].1
                rw [wid_has, hwd] at hhas
                rw [hwd] at hat'
                have hx1 := HNM.out m[i] (List.getElem_mem hlt)
                clear hwd hc hc2
                generalize m[i] = x at *
                obtain ⟨xn, xk⟩ := x
                simp only at k0 k1 hhas hat' hx1
                have hxk : ((xk : Int) != (xk : Int)) = false := by simp
                go_wp2_with (at_lookup; refine wpList_lookup_own_ok_int _ rfl _ _ 33 rfl 9 3 .i64 (Maps.string_keyed Try.underlying9) Try.underlying33 Try.underlying3 (Try.zeroValue3 _) _ _ D rfl HOW5.out _ _ rfl (WideMaps.keyOf_string_mk Try.underlying9 hx1) ?_; intro c hat hwc; rw [hhas]; have hcc := hat'.symm.trans hat; simp at hcc; subst hcc; clear hat hwc)
                go_roundw
                case rel => exact ⟨i + 1, by go_num, by omega, by first | rfl | trivial⟩
                case measure => simp [intOf]; omega
              · have hltI : ¬ (i : Int) < (m.length : Int) := by omega
                go_wp2_with fail
                go_ret
                exact ⟨rfl, HB2.out.trans (HB5.out.mono HB2.out.size)⟩
end Go.Proofs.Ytienpejlfjhnmaa.Ck

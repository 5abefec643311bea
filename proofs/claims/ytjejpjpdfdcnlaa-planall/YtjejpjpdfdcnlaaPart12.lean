/- The reference's Safe, in plain mathematics. The reference's Safe: its contract. The law of rules: the document's answers and the program's are the same, in plain mathematics. The law's first steps: one rule. Plain mathematics of heaps: what going up and going down do to a row that is a heap but for one place. No walk. -/
import Derived.Test.YtjejpjpdfdcnlaaPart11
import Derived.Lib.QuietBelow
import Derived.BigQuiet
import Derived.Test.YtjejpjpdfdcnlaaProg
namespace Go.Proofs.Ytjejpjpdfdcnlaa.Ck
open Go.RowKit
open Lx (tx)
open Vl (Tm Ts Fr)
open Sy

/-- What the reference asks of a term, of a literal at its place, of a rule. -/
def okT (ls : List Sy.Lit) (t : Tm) : Bool := !decide (t.1 = 1) || bindsB ls t.2.1
def okL (ls : List Sy.Lit) (k : Nat) (l : Sy.Lit) : Bool := (!decide (k = 0) && decide (l.1 = 1)) || l.2.2.all (okT ls)
def refSafe (q : Rul) : Bool := okL q.2 0 q.1 && q.2.all (okL q.2 1)
theorem refSafe_false {q : Rul} {j : Nat} (hj : j < (q.1 :: q.2).length) (h : okL q.2 j (q.1 :: q.2)[j] = false) : refSafe q = false := by
  unfold refSafe
  cases j with
  | zero =>
    have h : okL q.2 0 q.1 = false := h
    rw [h]
    rfl
  | succ j =>
    have hj' : j < q.2.length := by simpa using hj
    have h' : okL q.2 1 q.2[j] = false := by simpa [okL] using h
    have : q.2.all (okL q.2 1) = false := List.all_eq_false.2 ⟨_, List.getElem_mem hj', by simp [h']⟩
    rw [this, Bool.and_false]
theorem refSafe_true {q : Rul} (h : ∀ j (hj : j < (q.1 :: q.2).length), okL q.2 j (q.1 :: q.2)[j] = true) : refSafe q = true := by
  unfold refSafe
  have h0 : okL q.2 0 q.1 = true := h 0 (by simp)
  rw [h0, Bool.true_and]
  refine List.all_eq_true.2 fun l hl => ?_
  obtain ⟨j, hj, rfl⟩ := List.getElem_of_mem hl
  have := h (j + 1) (by simpa using hj)
  simpa [okL] using this
theorem isRul_bel {w w' : World} {q : Rul} {y : Value} (h : isRul w q y) (hb : Below w.heap.size w w') : isRul w' q y := by
  obtain ⟨va, vb, rfl, h1, h2⟩ := h
  exact ⟨va, vb, rfl, isTs_below h1 hb, isLs_below h2 hb⟩
end Go.Proofs.Ytjejpjpdfdcnlaa.Ck
namespace Go.Proofs.Ytjejpjpdfdcnlaa.Ck
open Go.RowKit
open Lx (tx wpList_append_run)
open Vl (Tm Ts Fr)
open Sy

set_option maxRecDepth 10000 in
set_option maxHeartbeats 16000000 in
theorem rsafe_any {w : World} {q : Rul} {y : Value} (h : isRul w q y) (hf : FewR q) :
    Calls Try.prog 17 #[y] w fun e w' => e = .returned (.bool (refSafe q)) ∧ Below w.heap.size w w' := by
  have HR := hide h
  have HF := hide hf
  have hlen : q.2.length ≤ 1000000 := hf.body.len
  obtain ⟨va, vb, rfl, hva, hvb⟩ := h
  obtain ⟨_, aoa, capa, rfl⟩ := own_len hva
  obtain ⟨aob, capb, rfl⟩ := isLs_shape hvb
  have hx0 := Lx.below_box w (.cells #[.int .i64 q.1.1, .string q.1.2.1, .slice aoa q.1.2.2.length capa, .slice aob q.2.length capb] 30)
  have B0 := Bx.new w #[.int .i64 q.1.1, .string q.1.2.1, .slice aoa q.1.2.2.length capa, .slice aob q.2.length capb] 30
  obtain ⟨ao, cap, w3, hap, HL, HB3⟩ := head_body (hl := q.1) (isTs_below hva hx0) (isLs_below hvb hx0) hlen
  have B3 := hide (B0.below HB3.out)
  have HB := hide (hx0.trans (HB3.out.mono hx0.size))
  have hap' : ∀ ty, (Builtin.append_ #[28, 28] ty #[.slice (some ⟨w.heap.size + 1, 0, none⟩) 1 1, .slice aob q.2.length capb]).run Try.prog ((w.alloc (.cells #[.int .i64 q.1.1, .string q.1.2.1, .slice aoa q.1.2.2.length capa, .slice aob q.2.length capb] 30)).alloc (.cells #[.int .i64 q.1.1, .string q.1.2.1, .slice aoa q.1.2.2.length capa] 27)) = .ok (.slice ao (q.2.length + 1) cap) w3 := fun ty => by
    have := hap ty
    rw [World.size_alloc] at this
    exact this
  clear hap hva hvb hf hx0 B0 HB3
  obtain ⟨A, hA⟩ : ∃ A, q.1 :: q.2 = A := ⟨_, rfl⟩
  obtain ⟨N, hN⟩ : ∃ N, q.2.length + 1 = N := ⟨_, rfl⟩
  have hAN : A.length = N := by rw [← hA, ← hN]; rfl
  have HT : Hid ((∀ j (hj : j < A.length), okL q.2 j A[j] = true) → refSafe q = true) := by subst hA; exact refSafe_true
  have HFa : Hid (∀ j (hj : j < A.length), okL q.2 j A[j] = false → refSafe q = false) := by subst hA; exact fun j hj => refSafe_false hj
  have HFw : Hid (∀ l ∈ A, l.2.2.length ≤ 1000000) := by
    subst hA
    intro l hl
    rcases List.mem_cons.1 hl with rfl | hl
    · exact HF.out.head.1
    · exact (HF.out.body.args l hl).1
  rw [hA, hN] at HL
  rw [hN] at hap'
  have hNm : N ≤ 1000001 := by omega
  have HC := hide (isLs_cells HL.out).2
  clear hA hN HL
  have HAN := hide hAN
  clear hAN
  go_enter Try.func17, Try.ntmps17
  go_wp2_with (at_builtin; refine wpList_append_run _ rfl (.tmp 8) (.tmp 10) 28 28 rfl _ _ rfl rfl (hap' _) ?_)
  clear hap'
  go_loopw [4, 5] (fun iv _ wr => ∃ i : Nat, iv = .int .i64 i ∧ i ≤ N ∧ Hid (∀ j (hj : j < A.length), j < i → okL q.2 j A[j] = true) ∧ Hid (Below w3.heap.size w3 wr)) (fun iv _ _ => N - (intOf iv).toNat)
  case atStart => exact ⟨0, rfl, Nat.zero_le _, fun j _ h => absurd h (Nat.not_lt_zero _), Below.refl _ _⟩
  case round =>
    obtain ⟨i, rfl, hi, HI, HBw⟩ := hrel
    obtain ⟨W0, hW0⟩ : ∃ W0, W0 = wr := ⟨_, rfl⟩
    subst hW0
    by_cases hlt : i < N
    · have hltI : (i : Int) < (N : Int) := by omega
      have hltA : i < A.length := by rw [HAN.out]; exact hlt
      obtain ⟨g, rfl, hc⟩ := HC.out (by omega)
      obtain ⟨u, hu, k0, k1, k2⟩ := hc i hltA
      have hts := (TsB.of hu (HFw.out _ (List.getElem_mem hltA))).below HBw.out
      have k0 := cell_below' k0 HBw.out
      have k2 := cell_below' k2 HBw.out
      have HFi := hide (HFa.out i hltA)
      have HIs : Hid (okL q.2 i A[i] = true → ∀ j (hj : j < A.length), j < i + 1 → okL q.2 j A[j] = true) := fun h j hj hji => by
        by_cases e : j = i
        · subst e
          exact h
        · exact HI.out j hj (by omega)
      clear hc hu k1
      generalize A[i] = l at *
      obtain ⟨lk, ln, ts⟩ := l
      simp only at k0 k2 hts
      obtain ⟨aot, capt, rfl, htl, hct⟩ := hts
      have HCT := hide hct
      clear hct
      obtain ⟨bi, hbi⟩ : ∃ bi, ((i : Int) == 0) = bi := ⟨_, rfl⟩
      obtain ⟨bl, hbl⟩ : ∃ bl, (lk != 1) = bl := ⟨_, rfl⟩
      have HOK : Hid (okL q.2 i (lk, ln, ts) = ((!bi && !bl) || ts.all (okT q.2))) := by
        show _ = _
        have e1 : decide (i = 0) = bi := by rw [← hbi]; by_cases h : i = 0 <;> simp [h]
        have e2 : decide (lk = 1) = !bl := by rw [← hbl]; by_cases h : lk = 1 <;> simp [h]
        simp only [okL, e1, e2]
      have HK0 := hide k0
      have HK2 := hide k2
      have Hbi := hide hbi
      have Hbl := hide hbl
      clear hbi hbl
      go_wp2_with fail
      go_loopw [5] (fun jv wq => ∃ j : Nat, jv = .int .i64 j ∧ j ≤ ts.length ∧ Hid (((!bi && !bl) || (ts.take j).all (okT q.2)) = true) ∧ Hid (Below W0.heap.size W0 wq)) (fun jv _ => ts.length - (intOf jv).toNat)
      case atStart => exact ⟨0, rfl, Nat.zero_le _, by show _ = _; simp, Below.refl _ _⟩
      case round =>
        obtain ⟨j, rfl, hj, HJ, HBq⟩ := hrel
        have hB3 := HBw.out.trans (HBq.out.mono HBw.out.size)
        have HB4 := hide (HB.out.trans (hB3.mono HB.out.size))
        have k0 := cell_below' HK0.out HBq.out
        have k2 := cell_below' HK2.out HBq.out
        obtain ⟨⟨c0, c1, c2, c3⟩, _, _, _, _⟩ := (B3.out.below hB3).four
        have HB3 := hide hB3
        clear hB3
        by_cases hjl : j < ts.length
        · have hjlI : (j : Int) < (ts.length : Int) := by omega
          obtain ⟨gt, offt, rfl, hgt, hc⟩ := HCT.out (by omega)
          obtain ⟨t0, t1, _⟩ := hc j hjl
          have t0 := cell_below' t0 HBq.out
          have t1 := cell_below' t1 HBq.out
          have HBT := hide (all_take (p := okT q.2) hjl)
          have HBF : Hid (okT q.2 ts[j] = false → ts.all (okT q.2) = false) := fun hp => all_false hjl hp
          clear hc
          generalize ts[j] = t at *
          obtain ⟨tk, tn, tz⟩ := t
          simp only at t0 t1
          obtain ⟨bb, hbb⟩ : ∃ bb, bindsB q.2 tn = bb := ⟨_, rfl⟩
          have cE : ∀ d os, Calls Try.prog 34 #[.agg #[.int .i64 q.1.1, .string q.1.2.1, .slice aoa q.1.2.2.length capa, .slice aob q.2.length capb], .string tn] (Sort.grow (redrawn wr d) os) fun e w'' => e = .returned (.bool bb) ∧ ∃ p : Regrown, w'' = Sort.grow (redrawn wr p.d) p.os := fun d os => Calls.regrown_of (by
            have := binds_any (isRul_bel HR.out (HB4.out.trans ((below_regrown wr d os).mono HB4.out.size))) HF.out tn
            rw [hbb] at this
            exact this)
          obtain ⟨bt, hbt⟩ : ∃ bt, (tk == 1) = bt := ⟨_, rfl⟩
          have HT0 : Hid (okT q.2 (tk, tn, tz) = (!bt || bb)) := by
            show _ = _
            have e1 : decide (tk = 1) = bt := by rw [← hbt]; by_cases h : tk = 1 <;> simp [h]
            simp only [okT, e1, hbb]
          have hbi := Hbi.out
          have hbl := Hbl.out
          clear hbb
          have HRD : Hid (∀ (R : Bool) (wz : World), Below wr.heap.size wr wz → Below W0.heap.size W0 wz) := fun _ wz hz => HBq.out.trans (hz.mono HBq.out.size)
          cases bt with
          | false =>
            have HJ2 : Hid (((!bi && !bl) || (ts.take (j + 1)).all (okT q.2)) = true) := by
              show _ = _
              have h1 := HJ.out
              rw [HBT.out, HT0.out]
              simpa using h1
            go_wp2_with fail
            go_big_quiet (fail)
            have HBz := hide (HRD.out true _ (Sy.below_drewN wr nq))
            go_wp2_with fail
            go_roundw
            case rel => exact ⟨j + 1, by go_num, by omega, HJ2, by assumption⟩
            case measure => simp [intOf]; omega
          | true =>
            cases bi with
            | true =>
              cases bb with
              | true =>
                have HJ2 : Hid (((!true && !bl) || (ts.take (j + 1)).all (okT q.2)) = true) := by
                  show _ = _
                  have h1 := HJ.out
                  rw [HBT.out, HT0.out]
                  simpa using h1
                go_wp2_with fail
                have c0 := cell_regrown c0
                have c1 := cell_regrown c1
                have c2 := cell_regrown c2
                have c3 := cell_regrown c3
                have k0 := cell_regrown k0
                have k2 := cell_regrown k2
                have t0 := cell_regrown t0
                have t1 := cell_regrown t1
                refine wp_region_quiet_below (by kernel_rfl) (by kernel_rfl) ?_
                repeat (go_big_quiet_step (first | exact cE _ _))
                refine wpQuiet_nil ?_
                intro wz hw'
                obtain ⟨⟨dq, osq⟩, hw''⟩ := hw'
                have hbq := below_regrown wr dq osq
                rw [← hw''] at hbq
                have HBz := hide (HRD.out true _ hbq)
                clear hw'' hbq cE c0 c1 c2 c3 k0 k2 t0 t1
                go_wp2_with fail
                go_roundw
                case rel => exact ⟨j + 1, by go_num, by omega, HJ2, HBz⟩
                case measure => simp [intOf]; omega
              | false =>
                have HR2 : Hid (refSafe q = false) := by
                  show _ = _
                  refine HFi.out ?_
                  rw [HOK.out, HBF.out HT0.out]
                  rfl
                go_wp2_with fail
                have c0 := cell_regrown c0
                have c1 := cell_regrown c1
                have c2 := cell_regrown c2
                have c3 := cell_regrown c3
                have k0 := cell_regrown k0
                have k2 := cell_regrown k2
                have t0 := cell_regrown t0
                have t1 := cell_regrown t1
                refine wp_region_quiet_below (by kernel_rfl) (by kernel_rfl) ?_
                repeat (go_big_quiet_step (first | exact cE _ _))
                refine wpQuiet_nil ?_
                intro wz hw'
                obtain ⟨⟨dq, osq⟩, hw''⟩ := hw'
                have hbq := below_regrown wr dq osq
                rw [← hw''] at hbq
                have HBz := hide (HRD.out true _ hbq)
                clear hw'' hbq cE c0 c1 c2 c3 k0 k2 t0 t1
                go_wp2_with fail
                go_ret
                refine ⟨?_, HB.out.trans ((HBw.out.trans (HBz.out.mono HBw.out.size)).mono HB.out.size)⟩
                rw [HR2.out]
                rfl
            | false =>
              cases bl with
              | true =>
                cases bb with
                | true =>
                  have HJ2 : Hid (((!false && !true) || (ts.take (j + 1)).all (okT q.2)) = true) := by
                    show _ = _
                    have h1 := HJ.out
                    rw [HBT.out, HT0.out]
                    simpa using h1
                  go_wp2_with fail
                  have c0 := cell_regrown c0
                  have c1 := cell_regrown c1
                  have c2 := cell_regrown c2
                  have c3 := cell_regrown c3
                  have k0 := cell_regrown k0
                  have k2 := cell_regrown k2
                  have t0 := cell_regrown t0
                  have t1 := cell_regrown t1
                  refine wp_region_quiet_below (by kernel_rfl) (by kernel_rfl) ?_
                  repeat (go_big_quiet_step (first | exact cE _ _))
                  refine wpQuiet_nil ?_
                  intro wz hw'
                  obtain ⟨⟨dq, osq⟩, hw''⟩ := hw'
                  have hbq := below_regrown wr dq osq
                  rw [← hw''] at hbq
                  have HBz := hide (HRD.out true _ hbq)
                  clear hw'' hbq cE c0 c1 c2 c3 k0 k2 t0 t1
                  go_wp2_with fail
                  go_roundw
                  case rel => exact ⟨j + 1, by go_num, by omega, HJ2, HBz⟩
                  case measure => simp [intOf]; omega
                | false =>
                  have HR2 : Hid (refSafe q = false) := by
                    show _ = _
                    refine HFi.out ?_
                    rw [HOK.out, HBF.out HT0.out]
                    rfl
                  go_wp2_with fail
                  have c0 := cell_regrown c0
                  have c1 := cell_regrown c1
                  have c2 := cell_regrown c2
                  have c3 := cell_regrown c3
                  have k0 := cell_regrown k0
                  have k2 := cell_regrown k2
                  have t0 := cell_regrown t0
                  have t1 := cell_regrown t1
                  refine wp_region_quiet_below (by kernel_rfl) (by kernel_rfl) ?_
                  repeat (go_big_quiet_step (first | exact cE _ _))
                  refine wpQuiet_nil ?_
                  intro wz hw'
                  obtain ⟨⟨dq, osq⟩, hw''⟩ := hw'
                  have hbq := below_regrown wr dq osq
                  rw [← hw''] at hbq
                  have HBz := hide (HRD.out true _ hbq)
                  clear hw'' hbq cE c0 c1 c2 c3 k0 k2 t0 t1
                  go_wp2_with fail
                  go_ret
                  refine ⟨?_, HB.out.trans ((HBw.out.trans (HBz.out.mono HBw.out.size)).mono HB.out.size)⟩
                  rw [HR2.out]
                  rfl
              | false =>
                have HJ2 : Hid (((!false && !false) || (ts.take (j + 1)).all (okT q.2)) = true) := rfl
                go_wp2_with fail
                go_big_quiet (fail)
                have HBz := hide (HRD.out true _ (Sy.below_drewN wr nq))
                go_wp2_with fail
                go_roundw
                case rel => exact ⟨j + 1, by go_num, by omega, HJ2, by assumption⟩
                case measure => simp [intOf]; omega
        · have hjlI : ¬ (j : Int) < (ts.length : Int) := by omega
          have hje : ts.take j = ts := by rw [show j = ts.length by omega, List.take_length]
          rw [hje] at HJ
          clear hje
          go_wp2_with fail
          go_roundw
          case rel => exact ⟨i + 1, by go_num, by omega, HIs.out (HOK.out.trans HJ.out), HB3⟩
          case measure => simp [intOf]; omega
    · have hltI : ¬ (i : Int) < (N : Int) := by omega
      go_wp2_with fail
      go_ret
      refine ⟨?_, HB.out.trans (HBw.out.mono HB.out.size)⟩
      rw [HT.out fun j hj => HI.out j hj (by have := HAN.out; omega)]
      rfl
end Go.Proofs.Ytjejpjpdfdcnlaa.Ck
namespace Go.Proofs.Ytjejpjpdfdcnlaa.Ck
open Go.RowKit
open Lx (tx bs)
open Vl (Tm Ts Fr)
open Sy

theorem toL (s : ByteArray) : s.toList = s.data.toList := Lib.toList_data s
/-- All terms' names are short. -/
def ShT (ts : List Tm) : Prop := ∀ t ∈ ts, t.2.1.size ≤ maxLen
theorem any_vars {ts : List Tm} (h : ShT ts) (x : Nm) : inS (varsT ts) x = ts.any (bindT x.1) := by
  induction ts with
  | nil => rfl
  | cons t r ih =>
    have hr : ShT r := fun u hu => h u (by simp [hu])
    have ht := h t (by simp)
    unfold varsT inS
    rw [List.any_cons, ← ih hr]
    by_cases h1 : t.1 = 1
    · have hv : varN t = some ⟨t.2.1, ht⟩ := by unfold varN; rw [dif_pos ⟨h1, ht⟩]
      rw [List.filterMap_cons, hv]
      simp only [List.any_cons]
      congr 1
      simp [bindT, h1, toL]
    · have hv : varN t = none := by unfold varN; rw [dif_neg (fun e => h1 e.1)]
      rw [List.filterMap_cons, hv]
      have hb : bindT x.1 t = false := by simp [bindT, h1]
      rw [hb, Bool.false_or]
      rfl
theorem any_bound {ls : List Sy.Lit} (h : ∀ l ∈ ls, ShT l.2.2) (x : Nm) : inS (boundL ls) x = bindsB ls x.1 := by
  induction ls with
  | nil => rfl
  | cons l r ih =>
    have hr := ih (fun u hu => h u (by simp [hu]))
    have hl := any_vars (h l (by simp)) x
    have e : boundL (l :: r) = (if l.1 = 1 then varsT l.2.2 else []) ++ boundL r := by simp [boundL]
    have e2 : bindsB (l :: r) x.1 = (bindL x.1 l || bindsB r x.1) := by simp [bindsB]
    rw [e, e2, ← hr]
    unfold inS
    rw [List.any_append]
    congr 1
    unfold bindL
    by_cases h1 : l.1 = 1
    · rw [if_pos h1]
      simp only [h1, decide_true, Bool.true_and]
      exact hl
    · rw [if_neg h1]
      simp [h1]
theorem all_vars {ts : List Tm} (h : ShT ts) {ls : List Sy.Lit} (hl : ∀ l ∈ ls, ShT l.2.2) : (varsT ts).all (inS (boundL ls)) = ts.all (okT ls) := by
  induction ts with
  | nil => rfl
  | cons t r ih =>
    have hr : ShT r := fun u hu => h u (by simp [hu])
    have ht := h t (by simp)
    rw [List.all_cons, ← ih hr]
    unfold varsT
    by_cases h1 : t.1 = 1
    · have hv : varN t = some ⟨t.2.1, ht⟩ := by unfold varN; rw [dif_pos ⟨h1, ht⟩]
      rw [List.filterMap_cons, hv]
      simp only [List.all_cons]
      congr 1
      rw [any_bound hl]
      simp [okT, h1]
    · have hv : varN t = none := by unfold varN; rw [dif_neg (fun e => h1 e.1)]
      rw [List.filterMap_cons, hv]
      have hb : okT ls t = true := by simp [okT, h1]
      rw [hb, Bool.true_and]
theorem safe_same {q : Rul} (h0 : ShT q.1.2.2) (hl : ∀ l ∈ q.2, ShT l.2.2) (hk : ∀ l ∈ q.2, 1 ≤ l.1 ∧ l.1 ≤ 6) : safeR q = refSafe q := by
  unfold safeR refSafe
  rw [all_vars h0 hl]
  have e0 : okL q.2 0 q.1 = q.1.2.2.all (okT q.2) := by simp [okL]
  rw [e0]
  congr 1
  refine Bool.eq_iff_iff.2 ?_
  rw [List.all_eq_true, List.all_eq_true]
  have key : ∀ l ∈ q.2, (!needK l.1 || (varsT l.2.2).all (inS (boundL q.2))) = okL q.2 1 l := fun l hm => by
    rw [all_vars (hl l hm) hl]
    have := hk l hm
    unfold okL needK
    by_cases h1 : l.1 = 1
    · simp [h1]
    · have h2 : 2 ≤ l.1 := by omega
      simp [h1, h2, this.2]
  exact ⟨fun h l hm => by rw [← key l hm]; exact h l hm, fun h l hm => by rw [key l hm]; exact h l hm⟩

/-- What holds of rules that were read. -/
theorem read_ok (s : ByteArray) : (rulesS s).length ≤ 30 ∧ ∀ q ∈ rulesS s, OkR q := by
  unfold rulesS
  have hw := Sh.of (words_ok (bs (Lx.cutS s 1200))).1
  cases h : progL 30 (wordsL (bs (Lx.cutS s 1200))) with
  | error e => exact ⟨by simp [okRs], by simp [okRs]⟩
  | ok l =>
    obtain ⟨h1, h2⟩ := progL_ok 30 _ l hw h
    exact ⟨h1, fun q hq => (h2 q hq).1⟩
theorem okT_le {t : Tm} (h : OkT t) : t.2.1.size ≤ maxLen := by
  have := h.2
  simp only [maxLen]
  omega
theorem bound_len (ls : List Sy.Lit) (h : ∀ l ∈ ls, l.2.2.length ≤ 4) : (boundL ls).length ≤ 4 * ls.length := by
  induction ls with
  | nil => simp [boundL]
  | cons l r ih =>
    have e : boundL (l :: r) = (if l.1 = 1 then varsT l.2.2 else []) ++ boundL r := by simp [boundL]
    have h1 := ih (fun u hu => h u (by simp [hu]))
    have h2 := h l (by simp)
    have h3 : (if l.1 = 1 then varsT l.2.2 else []).length ≤ 4 := by
      split
      · exact Nat.le_trans (List.length_filterMap_le _ _) h2
      · simp
    rw [e, List.length_append, List.length_cons]
    omega
theorem okR_few {q : Rul} (h : OkR q) : FewR q := by
  have hb := bound_len q.2 (fun l hl => (h.body l hl).few)
  have hf := h.few
  exact ⟨⟨by have := h.head.few; omega, fun t ht => okT_le (h.head.terms t ht)⟩, ⟨by omega, fun l hl => ⟨by have := (h.body l hl).few; omega, fun t ht => okT_le ((h.body l hl).terms t ht)⟩, by omega⟩⟩
theorem okR_same {q : Rul} (h : OkR q) : safeR q = refSafe q :=
  safe_same (fun t ht => okT_le (h.head.terms t ht)) (fun l hl t ht => okT_le ((h.body l hl).terms t ht)) (fun l hl => (h.body l hl).kind)
end Go.Proofs.Ytjejpjpdfdcnlaa.Ck
namespace Go.Proofs.Ytjejpjpdfdcnlaa.Ck
open Go.RowKit
open Lx (Wd tx bs scanL scanL_nil scanL_cons blankN sizeL kindL scanAt)
open Vl (Tm Fr)
open Sy

theorem begB : scanL [112, 40, 88, 41, 32, 58, 45, 32, 88, 32, 60, 32, 89, 44, 32, 113, 40, 88, 41, 44, 32, 114, 40, 88, 44, 32, 89, 41, 46] 0 = some [(1, [112], 0), (4, [40], 1), (2, [88], 2), (4, [41], 3), (4, [58, 45], 5), (2, [88], 8), (4, [60], 10), (2, [89], 12), (4, [44], 13), (1, [113], 15), (4, [40], 16), (2, [88], 17), (4, [41], 18), (4, [44], 19), (1, [114], 21), (4, [40], 22), (2, [88], 23), (4, [44], 24), (2, [89], 26), (4, [41], 27), (4, [46], 28)] := by
  have s28 := step_word 46 [] 28 1 4 [46] _ _ (by decide) (by decide) (by decide) (by decide) rfl (by decide) rfl (scanL_nil 29)
  have s27 := step_word 41 [46] 27 1 4 [41] _ _ (by decide) (by decide) (by decide) (by decide) rfl (by decide) rfl s28
  have s26 := step_word 89 [41, 46] 26 1 2 [89] _ _ (by decide) (by decide) (by decide) (by decide) rfl (by decide) rfl s27
  have s25 := step_blank 32 [89, 41, 46] 25 _ (by decide) s26
  have s24 := step_word 44 [32, 89, 41, 46] 24 1 4 [44] _ _ (by decide) (by decide) (by decide) (by decide) rfl (by decide) rfl s25
  have s23 := step_word 88 [44, 32, 89, 41, 46] 23 1 2 [88] _ _ (by decide) (by decide) (by decide) (by decide) rfl (by decide) rfl s24
  have s22 := step_word 40 [88, 44, 32, 89, 41, 46] 22 1 4 [40] _ _ (by decide) (by decide) (by decide) (by decide) rfl (by decide) rfl s23
  have s21 := step_word 114 [40, 88, 44, 32, 89, 41, 46] 21 1 1 [114] _ _ (by decide) (by decide) (by decide) (by decide) rfl (by decide) rfl s22
  have s20 := step_blank 32 [114, 40, 88, 44, 32, 89, 41, 46] 20 _ (by decide) s21
  have s19 := step_word 44 [32, 114, 40, 88, 44, 32, 89, 41, 46] 19 1 4 [44] _ _ (by decide) (by decide) (by decide) (by decide) rfl (by decide) rfl s20
  have s18 := step_word 41 [44, 32, 114, 40, 88, 44, 32, 89, 41, 46] 18 1 4 [41] _ _ (by decide) (by decide) (by decide) (by decide) rfl (by decide) rfl s19
  have s17 := step_word 88 [41, 44, 32, 114, 40, 88, 44, 32, 89, 41, 46] 17 1 2 [88] _ _ (by decide) (by decide) (by decide) (by decide) rfl (by decide) rfl s18
  have s16 := step_word 40 [88, 41, 44, 32, 114, 40, 88, 44, 32, 89, 41, 46] 16 1 4 [40] _ _ (by decide) (by decide) (by decide) (by decide) rfl (by decide) rfl s17
  have s15 := step_word 113 [40, 88, 41, 44, 32, 114, 40, 88, 44, 32, 89, 41, 46] 15 1 1 [113] _ _ (by decide) (by decide) (by decide) (by decide) rfl (by decide) rfl s16
  have s14 := step_blank 32 [113, 40, 88, 41, 44, 32, 114, 40, 88, 44, 32, 89, 41, 46] 14 _ (by decide) s15
  have s13 := step_word 44 [32, 113, 40, 88, 41, 44, 32, 114, 40, 88, 44, 32, 89, 41, 46] 13 1 4 [44] _ _ (by decide) (by decide) (by decide) (by decide) rfl (by decide) rfl s14
  have s12 := step_word 89 [44, 32, 113, 40, 88, 41, 44, 32, 114, 40, 88, 44, 32, 89, 41, 46] 12 1 2 [89] _ _ (by decide) (by decide) (by decide) (by decide) rfl (by decide) rfl s13
  have s11 := step_blank 32 [89, 44, 32, 113, 40, 88, 41, 44, 32, 114, 40, 88, 44, 32, 89, 41, 46] 11 _ (by decide) s12
  have s10 := step_word 60 [32, 89, 44, 32, 113, 40, 88, 41, 44, 32, 114, 40, 88, 44, 32, 89, 41, 46] 10 1 4 [60] _ _ (by decide) (by decide) (by decide) (by decide) rfl (by decide) rfl s11
  have s9 := step_blank 32 [60, 32, 89, 44, 32, 113, 40, 88, 41, 44, 32, 114, 40, 88, 44, 32, 89, 41, 46] 9 _ (by decide) s10
  have s8 := step_word 88 [32, 60, 32, 89, 44, 32, 113, 40, 88, 41, 44, 32, 114, 40, 88, 44, 32, 89, 41, 46] 8 1 2 [88] _ _ (by decide) (by decide) (by decide) (by decide) rfl (by decide) rfl s9
  have s7 := step_blank 32 [88, 32, 60, 32, 89, 44, 32, 113, 40, 88, 41, 44, 32, 114, 40, 88, 44, 32, 89, 41, 46] 7 _ (by decide) s8
  have s5 := step_word 58 [45, 32, 88, 32, 60, 32, 89, 44, 32, 113, 40, 88, 41, 44, 32, 114, 40, 88, 44, 32, 89, 41, 46] 5 2 4 [58, 45] _ _ (by decide) (by decide) (by decide) (by decide) rfl (by decide) rfl s7
  have s4 := step_blank 32 [58, 45, 32, 88, 32, 60, 32, 89, 44, 32, 113, 40, 88, 41, 44, 32, 114, 40, 88, 44, 32, 89, 41, 46] 4 _ (by decide) s5
  have s3 := step_word 41 [32, 58, 45, 32, 88, 32, 60, 32, 89, 44, 32, 113, 40, 88, 41, 44, 32, 114, 40, 88, 44, 32, 89, 41, 46] 3 1 4 [41] _ _ (by decide) (by decide) (by decide) (by decide) rfl (by decide) rfl s4
  have s2 := step_word 88 [41, 32, 58, 45, 32, 88, 32, 60, 32, 89, 44, 32, 113, 40, 88, 41, 44, 32, 114, 40, 88, 44, 32, 89, 41, 46] 2 1 2 [88] _ _ (by decide) (by decide) (by decide) (by decide) rfl (by decide) rfl s3
  have s1 := step_word 40 [88, 41, 32, 58, 45, 32, 88, 32, 60, 32, 89, 44, 32, 113, 40, 88, 41, 44, 32, 114, 40, 88, 44, 32, 89, 41, 46] 1 1 4 [40] _ _ (by decide) (by decide) (by decide) (by decide) rfl (by decide) rfl s2
  have s0 := step_word 112 [40, 88, 41, 32, 58, 45, 32, 88, 32, 60, 32, 89, 44, 32, 113, 40, 88, 41, 44, 32, 114, 40, 88, 44, 32, 89, 41, 46] 0 1 1 [112] _ _ (by decide) (by decide) (by decide) (by decide) rfl (by decide) rfl s1
  exact s0

def begT12 : ByteArray := ⟨#[112, 40, 88, 41, 32, 58, 45, 32, 88, 32, 60, 32, 89, 44, 32, 113, 40, 88, 41, 44, 32, 114, 40, 88, 44, 32, 89, 41, 46]⟩
def begQ : Rul := ((1, tx [112], [varT [88]]), [(5, ⟨#[]⟩, [varT [88], varT [89]]), (1, tx [113], [varT [88]]), (1, tx [114], [varT [88], varT [89]])])
theorem parse12 : progL 30 [(1, [112], 0), (4, [40], 1), (2, [88], 2), (4, [41], 3), (4, [58, 45], 5), (2, [88], 8), (4, [60], 10), (2, [89], 12), (4, [44], 13), (1, [113], 15), (4, [40], 16), (2, [88], 17), (4, [41], 18), (4, [44], 19), (1, [114], 21), (4, [40], 22), (2, [88], 23), (4, [44], 24), (2, [89], 26), (4, [41], 27), (4, [46], 28)] = .ok [begQ] := by kernel_rfl
theorem beg_rules12 : rulesS begT12 = [begQ] := by
  have h1 : wordsL (bs begT12) = [(1, [112], 0), (4, [40], 1), (2, [88], 2), (4, [41], 3), (4, [58, 45], 5), (2, [88], 8), (4, [60], 10), (2, [89], 12), (4, [44], 13), (1, [113], 15), (4, [40], 16), (2, [88], 17), (4, [41], 18), (4, [44], 19), (1, [114], 21), (4, [40], 22), (2, [88], 23), (4, [44], 24), (2, [89], 26), (4, [41], 27), (4, [46], 28)] := by
    have h2 : scanAt (bs begT12) 0 = some [(1, [112], 0), (4, [40], 1), (2, [88], 2), (4, [41], 3), (4, [58, 45], 5), (2, [88], 8), (4, [60], 10), (2, [89], 12), (4, [44], 13), (1, [113], 15), (4, [40], 16), (2, [88], 17), (4, [41], 18), (4, [44], 19), (1, [114], 21), (4, [40], 22), (2, [88], 23), (4, [44], 24), (2, [89], 26), (4, [41], 27), (4, [46], 28)] := begB
    rw [wordsL, h2]
  have h3 : Lx.cutS begT12 1200 = begT12 := by kernel_rfl
  rw [rulesS, h3, h1, parse12]
  rfl
end Go.Proofs.Ytjejpjpdfdcnlaa.Ck
namespace Go.Proofs.Ytjejpjpdfdcnlaa.Hp

variable {α : Type}
/-- An order: who is not less goes behind. -/
structure Ord (lt : α → α → Bool) : Prop where
  asym : ∀ a b, lt a b = true → lt b a = false
  ntr : ∀ a b c, lt b a = false → lt c b = false → lt c a = false
def le (lt : α → α → Bool) (a b : α) : Prop := lt b a = false
theorem Ord.trans {lt : α → α → Bool} (h : Ord lt) {a b c : α} (h1 : le lt a b) (h2 : le lt b c) : le lt a c := h.ntr a b c h1 h2
theorem Ord.of_lt {lt : α → α → Bool} (h : Ord lt) {a b : α} (h1 : lt a b = true) : le lt a b := h.asym a b h1
theorem Ord.refl {lt : α → α → Bool} (h : Ord lt) (a : α) : le lt a a := by
  unfold le
  cases e : lt a a with
  | false => rfl
  | true => have := h.asym a a e; rw [e] at this; cases this

/-- Two change places. -/
def sw (f : Nat → α) (i j : Nat) : Nat → α := fun k => if k = i then f j else if k = j then f i else f k
theorem sw_l (f : Nat → α) (i j : Nat) : sw f i j i = f j := by simp [sw]
theorem sw_r (f : Nat → α) (i j : Nat) : sw f i j j = f i := by
  unfold sw
  by_cases h : j = i
  · rw [if_pos h, h]
  · rw [if_neg h, if_pos rfl]
theorem sw_o (f : Nat → α) {i j k : Nat} (h1 : k ≠ i) (h2 : k ≠ j) : sw f i j k = f k := by simp [sw, h1, h2]

def par (c : Nat) : Nat := (c - 1) / 2
theorem par_lt {c : Nat} (h : 0 < c) : par c < c := by unfold par; omega
/-- A heap: nobody goes ahead of the one above it. -/
def Heap (lt : α → α → Bool) (f : Nat → α) (n : Nat) : Prop := ∀ c, 0 < c → c < n → le lt (f (par c)) (f c)
/-- A heap but for the edge above j. -/
structure Up (lt : α → α → Bool) (f : Nat → α) (n j : Nat) : Prop where
  rest : ∀ c, 0 < c → c < n → c ≠ j → le lt (f (par c)) (f c)
  over : ∀ c, 0 < c → c < n → par c = j → 0 < j → le lt (f (par j)) (f c)
/-- A heap but for the edges below i. -/
structure Down (lt : α → α → Bool) (f : Nat → α) (n i : Nat) : Prop where
  rest : ∀ c, 0 < c → c < n → par c ≠ i → le lt (f (par c)) (f c)
  over : ∀ c, 0 < c → c < n → par c = i → 0 < i → le lt (f (par i)) (f c)
/-- A heap but for the edges above and below i. -/
structure Fix (lt : α → α → Bool) (f : Nat → α) (n i : Nat) : Prop where
  rest : ∀ c, 0 < c → c < n → c ≠ i → par c ≠ i → le lt (f (par c)) (f c)
  over : ∀ c, 0 < c → c < n → par c = i → 0 < i → le lt (f (par i)) (f c)

theorem Up.done {lt : α → α → Bool} {f : Nat → α} {n j : Nat} (h : Up lt f n j) (hj : 0 < j → le lt (f (par j)) (f j)) : Heap lt f n := fun c h0 hn => by
  by_cases e : c = j
  · subst e
    exact hj h0
  · exact h.rest c h0 hn e
theorem Up.step {lt : α → α → Bool} (o : Ord lt) {f : Nat → α} {n j : Nat} (h : Up lt f n j) (h0 : 0 < j) (hjn : j < n) (hl : lt (f j) (f (par j)) = true) : Up lt (sw f j (par j)) n (par j) := by
  have hp := par_lt h0
  refine ⟨fun c c0 cn ce => ?_, fun c c0 cn ce p0 => ?_⟩
  · by_cases e1 : c = j
    · subst e1
      rw [sw_r, sw_l]
      exact o.of_lt hl
    · rw [sw_o f e1 ce]
      by_cases e2 : par c = j
      · rw [e2, sw_l]
        exact h.over c c0 cn e2 h0
      · by_cases e3 : par c = par j
        · rw [e3, sw_r]
          exact o.trans (o.of_lt hl) (by rw [← e3]; exact h.rest c c0 cn e1)
        · rw [sw_o f e2 e3]
          exact h.rest c c0 cn e1
  · have hpp := par_lt p0
    have e2 : par (par j) ≠ j := by omega
    have e3 : par (par j) ≠ par j := by omega
    rw [sw_o f e2 e3]
    have hpj := h.rest (par j) p0 (by omega) (by omega)
    by_cases e1 : c = j
    · subst e1
      rw [sw_l]
      exact hpj
    · have e4 : c ≠ par j := by
        have := par_lt c0
        omega
      rw [sw_o f e1 e4]
      exact o.trans hpj (by rw [← ce]; exact h.rest c c0 cn e1)

theorem Down.done {lt : α → α → Bool} {f : Nat → α} {n i : Nat} (h : Down lt f n i) (hi : ∀ c, 0 < c → c < n → par c = i → le lt (f i) (f c)) : Heap lt f n := fun c h0 hn => by
  by_cases e : par c = i
  · rw [e]
    exact hi c h0 hn e
  · exact h.rest c h0 hn e
/-- One step down, to the lesser of the two below. -/
theorem Fix.step {lt : α → α → Bool} (o : Ord lt) {f : Nat → α} {n i j : Nat} (h : Fix lt f n i) (hj0 : 0 < j) (hjn : j < n) (hp : par j = i) (hl : lt (f j) (f i) = true) (hm : ∀ c, 0 < c → c < n → par c = i → le lt (f j) (f c)) : Down lt (sw f i j) n j := by
  have hij : i < j := by have := par_lt hj0; omega
  refine ⟨fun c c0 cn ce => ?_, fun c c0 cn ce p0 => ?_⟩
  · by_cases e1 : c = j
    · subst e1
      rw [hp, sw_l, sw_r]
      exact o.of_lt hl
    · by_cases e2 : c = i
      · subst e2
        have := par_lt c0
        rw [sw_l, sw_o f (by omega) (by omega)]
        exact h.over j hj0 hjn hp c0
      · rw [sw_o f e2 e1]
        by_cases e3 : par c = i
        · rw [e3, sw_l]
          exact hm c c0 cn e3
        · rw [sw_o f e3 ce]
          exact h.rest c c0 cn e2 e3
  · have e1 : c ≠ i := by have := par_lt c0; omega
    have e2 : c ≠ j := by have := par_lt c0; omega
    rw [hp, sw_l, sw_o f e1 e2]
    rw [← ce]
    exact h.rest c c0 cn e1 (by omega)
theorem Down.fix {lt : α → α → Bool} {f : Nat → α} {n i : Nat} (h : Down lt f n i) : Fix lt f n i := ⟨fun c c0 cn _ ce => h.rest c c0 cn ce, h.over⟩
/-- Nobody below goes ahead of it: then it may only go up. -/
theorem Fix.up {lt : α → α → Bool} {f : Nat → α} {n i : Nat} (h : Fix lt f n i) (hi : ∀ c, 0 < c → c < n → par c = i → le lt (f i) (f c)) : Up lt f n i :=
  ⟨fun c c0 cn ce => by
    by_cases e : par c = i
    · rw [e]; exact hi c c0 cn e
    · exact h.rest c c0 cn ce e, h.over⟩
/-- A heap whose place i holds whatever else. -/
theorem Heap.fix {lt : α → α → Bool} (o : Ord lt) {f g : Nat → α} {n i : Nat} (h : Heap lt f n) (hg : ∀ k, k ≠ i → g k = f k) : Fix lt g n i :=
  ⟨fun c c0 cn ce pe => by rw [hg c ce, hg (par c) pe]; exact h c c0 cn, fun c c0 cn ce i0 => by
    have h1 := par_lt c0
    have h2 := par_lt i0
    rw [hg c (by omega), hg (par i) (by omega)]
    have h3 := h c c0 cn
    rw [ce] at h3
    exact o.trans (h i i0 (by omega)) h3⟩
/-- The top goes ahead of all. -/
theorem Heap.top {lt : α → α → Bool} (o : Ord lt) {f : Nat → α} {n : Nat} (h : Heap lt f n) : ∀ c, c < n → le lt (f 0) (f c)
  | 0, _ => o.refl _
  | c + 1, hc => by
    have hp : par (c + 1) < c + 1 := par_lt (Nat.succ_pos c)
    exact o.trans (Heap.top o h (par (c + 1)) (by omega)) (h (c + 1) (Nat.succ_pos c) hc)
termination_by c => c
end Go.Proofs.Ytjejpjpdfdcnlaa.Hp

/- The walks of the reference's sign and PrintRule. The walk of the reference's term. The walk of the reference's atom. The walk of the reference's atom, where it begins with a name. -/
import Derived.Test.YtcfhpodpkficaaaGreatDoorPart10
import Derived.Test.YtcfhpodpkficaaaGreatDoorPart13
import Derived.Lib.QuietBelow
import Derived.BigQuiet
namespace Go.Proofs.YtcfhpodpkficaaaGreatDoor.Ps
open Go.RowKit
open Lx (Wd tx)
open Vl (Tm Fr prt factS bytes_app bytes_ext size_list)
open Sy

set_option maxHeartbeats 1000000 in
theorem psign_any (k : Int) (w : World) (h0 : 3 ≤ k) (h1 : k ≤ 6) : Calls Tryz.prog 34 #[.int .i64 k] w fun e w' => e = .returned (.string (signS k)) ∧ Below w.heap.size w w' := by
  have hc : k = 3 ∨ k = 4 ∨ k = 5 ∨ k = 6 := by omega
  have hb : Hid (∀ o, Below w.heap.size w (w.alloc o)) := fun o => Lx.below_box w o
  clear h0 h1
  rcases hc with rfl | rfl | rfl | rfl
  all_goals go_enter Tryz.func34, Tryz.ntmps34
  all_goals go_wp2_with fail
  all_goals go_ret
  all_goals exact ⟨rfl, hb.out _⟩

/-- What is printed so far. -/
def accL (q : Rul) (k : Nat) : List UInt8 := if k = 0 then litT q.1 else litT q.1 ++ [32, 58, 45, 32] ++ Lib.join ((q.2.take k).map litT) [44, 32]
theorem acc_end (q : Rul) : accL q q.2.length ++ [46] = ruleL q := by
  unfold accL ruleL
  by_cases h : q.2 = []
  · simp [h]
  · have h0 : ¬ q.2.length = 0 := by simpa using h
    rw [if_neg h0, if_neg h, List.take_length]
theorem acc_first {q : Rul} (h : 0 < q.2.length) : accL q 1 = accL q 0 ++ ([32, 58, 45, 32] : List UInt8) ++ litT q.2[0] := by
  have e : q.2.take 1 = [q.2[0]] := by rw [List.take_succ_eq_append_getElem h]; rfl
  unfold accL
  rw [if_neg (by omega), if_pos rfl, e]
  simp [Lib.join_one]
theorem acc_next {q : Rul} {k : Nat} (h : k < q.2.length) (h0 : k ≠ 0) : accL q (k + 1) = accL q k ++ ([44, 32] : List UInt8) ++ litT q.2[k] := by
  unfold accL
  rw [if_neg (by omega), if_neg h0, List.take_succ_eq_append_getElem h, List.map_append, List.map_singleton, Vl.join_snoc, if_neg]
  · simp [List.append_assoc]
  · intro e
    have := congrArg List.length e
    rw [List.length_map, List.length_take] at this
    simp only [List.length_nil] at this
    omega

set_option maxRecDepth 10000 in
set_option maxHeartbeats 16000000 in
theorem printRule_any {w : World} {q : Rul} {y : Value} (h : isRul w q y) (hq : OkR q) (h1 : q.1.1 = 1) :
    Calls Tryz.prog 13 #[y] w fun e w' => e = .returned (.string (ruleS q)) ∧ Below w.heap.size w w' := by
  obtain ⟨va, vb, rfl, hva, hvb⟩ := h
  obtain ⟨_, aoa, capa, rfl⟩ := own_len hva
  obtain ⟨aob, capb, rfl⟩ := isLs_shape hvb
  have hx0 := Lx.below_box w (.cells #[.int .i64 q.1.1, .string q.1.2.1, .slice aoa q.1.2.2.length capa, .slice aob q.2.length capb] 36)
  have HB0 := hide hx0
  have B0 := hide (Bx.new w #[.int .i64 q.1.1, .string q.1.2.1, .slice aoa q.1.2.2.length capa, .slice aob q.2.length capb] 36)
  have HAt : Hid (∀ (l : Sy.Lit) (v : Value) (W : World), isTs W l.2.2 v → OkL l → Calls Tryz.prog 32 #[.string l.2.1, v] W fun e w' => e = .returned (.string (factS l.2.1 l.2.2)) ∧ Below W.heap.size W w') := fun l v W hv hl =>
    Vl.atom_any l.2.1 v l.2.2 W (ts_of hv) (by have := hl.few; omega) (by have := hl.name; omega) (fun t ht => by have := prt_small (hl.terms t ht); omega) (fun t ht => (hl.terms t ht).1)
  have HA0 := hide (HAt.out q.1 _ _ (isTs_below hva hx0) hq.head)
  have HVB := hide hvb
  have hfew := hq.few
  have HQ := hide hq
  have hle0 := fact_small q.1 hq.head
  have HE0 : Hid ((factS q.1.2.1 q.1.2.2).data.toList = accL q 0) := by
    show _ = _
    unfold accL litT litS
    rw [if_pos rfl, if_neg (by omega), if_neg (by omega)]
  have HEnd := hide (acc_end q)
  obtain ⟨w1, hw1⟩ : ∃ w1, w.alloc (.cells #[.int .i64 q.1.1, .string q.1.2.1, .slice aoa q.1.2.2.length capa, .slice aob q.2.length capb] 36) = w1 := ⟨_, rfl⟩
  rw [hw1] at HB0 B0 HA0
  obtain ⟨⟨c0, c1, c2, c3⟩, _, _, _, _⟩ := B0.out.four
  generalize factS q.1.2.1 q.1.2.2 = fs at *
  have HW := hide hw1
  clear hx0 hva hvb hq h1
  go_enter Tryz.func13, Tryz.ntmps13
  go_wp2_with fail
  clear HW hw1
  refine Calls.mono HA0.out ?_
  rintro e w2 ⟨rfl, hb2⟩
  have HB2 := hide (HB0.out.trans (hb2.mono HB0.out.size))
  have B2 := hide (B0.out.below hb2)
  clear c0 c1 c2 c3 hb2 B0 HA0
  go_wp2_with fail
  go_loopw [3, 4, 5] (fun sv iv _ wr => ∃ (sb : ByteArray) (k : Nat), sv = .string sb ∧ iv = .int .i64 k ∧ k ≤ q.2.length ∧ sb.size ≤ 5000 + 5010 * k ∧ Hid (sb.data.toList = accL q k) ∧ Hid (Below w2.heap.size w2 wr)) (fun _ iv _ _ => q.2.length - (intOf iv).toNat)
  case atStart => exact ⟨_, 0, rfl, rfl, Nat.zero_le _, by omega, HE0, Below.refl _ _⟩
  case round =>
    obtain ⟨sb, k, rfl, rfl, hk, hsz, HS, HBw⟩ := hrel
    obtain ⟨⟨c0, c1, c2, c3⟩, _, _, _, _⟩ := (B2.out.below HBw.out).four
    by_cases hlt : k < q.2.length
    · have hltI : (k : Int) < (q.2.length : Int) := by omega
      obtain ⟨g, hg, hc⟩ := (isLs_cells (isLs_below (isLs_below HVB.out HB2.out) HBw.out)).2 (by omega)
      subst hg
      obtain ⟨u, hu, k0, k1, k2⟩ := hc k hlt
      have hL := HQ.out.body _ (List.getElem_mem hlt)
      have HF : Hid (k = 0 → accL q (k + 1) = accL q k ++ ([32, 58, 45, 32] : List UInt8) ++ litT q.2[k]) := by
        rintro rfl
        exact acc_first hlt
      have HN : Hid (k ≠ 0 → accL q (k + 1) = accL q k ++ ([44, 32] : List UInt8) ++ litT q.2[k]) := fun h => acc_next hlt h
      obtain ⟨_, aou, capu, rfl⟩ := own_len hu
      have HX : Hid (∀ o, Below wr.heap.size wr (wr.alloc o)) := fun o => Lx.below_box wr o
      have HU := hide hu
      clear hc hu
      have hls := lit_small hL
      have HL := hide hL
      generalize q.2[k] = l at *
      obtain ⟨lk, ln, lt⟩ := l
      simp only at k0 k1 k2 HU
      have hkk := HL.out.kind
      have HAa : Hid (∀ o, Calls Tryz.prog 32 #[.string ln, .slice aou lt.length capu] (wr.alloc o) fun e w' => e = .returned (.string (factS ln lt)) ∧ Below (wr.alloc o).heap.size (wr.alloc o) w') := fun o =>
        HAt.out (lk, ln, lt) _ _ (isTs_below HU.out (HX.out o)) HL.out
      have HBo : Hid (∀ o W, Below (wr.alloc o).heap.size (wr.alloc o) W → Below w2.heap.size w2 W) := fun o W hW => HBw.out.trans (((HX.out o).trans (hW.mono (HX.out o).size)).mono HBw.out.size)
      have hpre : ∃ (pre : ByteArray), pre.size ≤ 4 ∧ Hid (accL q (k + 1) = accL q k ++ pre.data.toList ++ litT (lk, ln, lt)) ∧ pre = (if k = 0 then ⟨#[32, 58, 45, 32]⟩ else ⟨#[44, 32]⟩) := by
        by_cases k00 : k = 0
        · exact ⟨⟨#[32, 58, 45, 32]⟩, by decide, HF.out k00, by rw [if_pos k00]⟩
        · exact ⟨⟨#[44, 32]⟩, by decide, HN.out k00, by rw [if_neg k00]⟩
      obtain ⟨pre, hps, HPre, hpre⟩ := hpre
      have HPd := hide hpre
      clear hpre HF HN
      have hbx : ∃ bz, ((k : Int) == 0) = bz := ⟨_, rfl⟩
      obtain ⟨bz, hbz⟩ := hbx
      go_upto_if 21 with fail
      go_cut [3] from 22 to 25 (fun s wc => s = .string (sb ++ pre) ∧ wc = wr)
      case first =>
        have hpr := HPd.out
        cases bz with
        | true =>
          have hk0 : k = 0 := by have := beq_iff_eq.1 hbz; omega
          rw [if_pos hk0] at hpr
          subst hpr
          clear hk0 hbz
          go_wp2_with fail
          go_meet
          exact ⟨rfl, rfl⟩
        | false =>
          have hk0 : ¬ k = 0 := by have := beq_eq_false_iff_ne.1 hbz; omega
          rw [if_neg hk0] at hpr
          subst hpr
          clear hk0 hbz
          go_wp2_with fail
          go_meet
          exact ⟨rfl, rfl⟩
      case rest =>
        obtain ⟨rfl, hwc⟩ := hcut
        have hwc' := hwc.symm
        subst hwc'
        clear hwc hbz
        have hsp : (sb ++ pre).size ≤ 5004 + 5010 * k := by rw [ByteArray.size_append]; omega
        have HSP : Hid (accL q (k + 1) = (sb ++ pre).data.toList ++ (litS (lk, ln, lt)).data.toList) := by
          show _ = _
          rw [HPre.out, bytes_app, HS.out]
          rfl
        generalize sb ++ pre = s2 at *
        clear HPre HPd HS hps hsz
        by_cases g1 : lk = 1
        · subst g1
          have HLs : Hid (litS (1, ln, lt) = factS ln lt) := by
            show _ = _
            unfold litS
            rw [if_neg (by simp), if_neg (by simp)]
          rw [HLs.out] at HSP hls
          clear HLs
          generalize factS ln lt = fl at *
          go_wp2_with fail
          refine Calls.mono (HAa.out _) ?_
          rintro e w4 ⟨rfl, hb4⟩
          have HB4 := hide (HBo.out _ _ hb4)
          clear hb4
          go_wp2_with fail
          go_roundw
          case rel => exact ⟨_, k + 1, rfl, by go_num, by omega, by rw [ByteArray.size_append]; omega, by show _ = _; rw [bytes_app]; exact HSP.out.symm, HB4⟩
          case measure => simp [intOf]; omega
        by_cases g2 : lk = 2
        · subst g2
          have HLs : Hid (litS (2, ln, lt) = ⟨#[33]⟩ ++ factS ln lt) := by
            show _ = _
            unfold litS
            rw [if_neg (by simp), if_pos rfl]
          have hfs : (factS ln lt).size ≤ 5000 := fact_small (2, ln, lt) HL.out
          rw [HLs.out] at HSP
          clear HLs hls
          generalize factS ln lt = fl at *
          go_wp2_with fail
          refine Calls.mono (HAa.out _) ?_
          rintro e w4 ⟨rfl, hb4⟩
          have HB4 := hide (HBo.out _ _ hb4)
          clear hb4
          go_wp2_with fail
          go_roundw
          case rel =>
            have hz1 : (ByteArray.mk #[33]).size = 1 := rfl
            exact ⟨_, k + 1, rfl, by go_num, by omega, by rw [ByteArray.size_append, ByteArray.size_append, hz1]; omega, by show _ = _; rw [bytes_app]; exact HSP.out.symm, HB4⟩
          case measure => simp [intOf]; omega
        have g3 : 3 ≤ lk := by omega
        have g1b : (lk == 1) = false := by simpa using g1
        have g2b : (lk == 2) = false := by simpa using g2
        have h2 := HL.out.two g3
        have h2' : lt.length = 2 := h2
        obtain ⟨ta, tb, rfl⟩ : ∃ ta tb, lt = [ta, tb] := by
          match lt, h2' with
          | [ta, tb], _ => exact ⟨ta, tb, rfl⟩
        have oa := HL.out.terms ta (by simp)
        have ob := HL.out.terms tb (by simp)
        have pa := prt_small oa
        have pb := prt_small ob
        have ps := sign_small lk
        have HLs : Hid (litS (lk, ln, [ta, tb]) = prt ta ++ ⟨#[32]⟩ ++ signS lk ++ ⟨#[32]⟩ ++ prt tb) := by
          show _ = _
          unfold litS
          rw [if_pos g3]
          rfl
        have hk6 := hkk.2
        have h2s : ([ta, tb] : List Tm).length = 2 := rfl
        rw [HLs.out] at HSP
        clear HLs hls h2 h2' HAa
        obtain ⟨gt, hgt, t0, t1⟩ : ∃ gt, aou = some ⟨gt, 0, none⟩ ∧ (wr.cell? ⟨gt, 0, none⟩ = some (.int .i64 ta.1) ∧ wr.cell? ⟨gt, 1, none⟩ = some (.string ta.2.1) ∧ wr.cell? ⟨gt, 2, none⟩ = some (.int .i64 ta.2.2)) ∧ (wr.cell? ⟨gt, 3, none⟩ = some (.int .i64 tb.1) ∧ wr.cell? ⟨gt, 4, none⟩ = some (.string tb.2.1) ∧ wr.cell? ⟨gt, 5, none⟩ = some (.int .i64 tb.2.2)) := by
          obtain ⟨ao2, cap2, e, _, hcc⟩ := ts_of HU.out
          simp only [Value.slice.injEq] at e
          obtain ⟨rfl, _, rfl⟩ := e
          rcases Lx.own_shape HU.out with ⟨e, h0⟩ | ⟨gg, c4, e, _⟩
          · simp at h0
          · simp only [Value.slice.injEq] at e
            obtain ⟨rfl, _, rfl⟩ := e
            have hc0 := Vl.cellsT_get [ta, tb] 0 (by simp)
            have hc1 := Vl.cellsT_get [ta, tb] 1 (by simp)
            exact ⟨gg, rfl, ⟨(HU.out.cellAt _ (by simp)).trans hc0.1, (HU.out.cellAt _ (by simp)).trans hc0.2.1, (HU.out.cellAt _ (by simp)).trans hc0.2.2⟩, ⟨(HU.out.cellAt _ (by simp)).trans hc1.1, (HU.out.cellAt _ (by simp)).trans hc1.2.1, (HU.out.cellAt _ (by simp)).trans hc1.2.2⟩⟩
        subst hgt
        obtain ⟨t00, t01, t02⟩ := t0
        obtain ⟨t10, t11, t12⟩ := t1
        have k2 : wr.cell? ⟨g, k * 3 + 2, none⟩ = some (.slice (some ⟨gt, 0, none⟩) 2 capu) := k2
        have BX := Bx.new wr #[.int .i64 lk, .string ln, .slice (some ⟨gt, 0, none⟩) 2 capu] 33
        have hxb := HX.out (.cells #[.int .i64 lk, .string ln, .slice (some ⟨gt, 0, none⟩) 2 capu] 33)
        have HB3 := hide (HBo.out (.cells #[.int .i64 lk, .string ln, .slice (some ⟨gt, 0, none⟩) 2 capu] 33) _ (Below.refl _ _))
        have t00 := cell_below' t00 hxb
        have t01 := cell_below' t01 hxb
        have t02 := cell_below' t02 hxb
        have t10 := cell_below' t10 hxb
        have t11 := cell_below' t11 hxb
        have t12 := cell_below' t12 hxb
        obtain ⟨W3, hW3⟩ : ∃ W3, wr.alloc (.cells #[.int .i64 lk, .string ln, .slice (some ⟨gt, 0, none⟩) 2 capu] 33) = W3 := ⟨_, rfl⟩
        rw [hW3] at BX t00 t01 t02 t10 t11 t12 HB3
        obtain ⟨⟨x0, x1, x2⟩, _, _, _⟩ := BX.three
        have c33a : ∀ d os, Calls Tryz.prog 33 #[.agg #[.int .i64 ta.1, .string ta.2.1, .int .i64 ta.2.2]] (Sort.grow (redrawn W3 d) os) fun e w'' => e = .returned (.string (prt ta)) ∧ ∃ p : Regrown, w'' = Sort.grow (redrawn W3 p.d) p.os := fun d os => Calls.regrown_of (Vl.printRef_any ta _ oa.1)
        have c33b : ∀ d os, Calls Tryz.prog 33 #[.agg #[.int .i64 tb.1, .string tb.2.1, .int .i64 tb.2.2]] (Sort.grow (redrawn W3 d) os) fun e w'' => e = .returned (.string (prt tb)) ∧ ∃ p : Regrown, w'' = Sort.grow (redrawn W3 p.d) p.os := fun d os => Calls.regrown_of (Vl.printRef_any tb _ ob.1)
        have c34 : ∀ d os, Calls Tryz.prog 34 #[.int .i64 lk] (Sort.grow (redrawn W3 d) os) fun e w'' => e = .returned (.string (signS lk)) ∧ ∃ p : Regrown, w'' = Sort.grow (redrawn W3 p.d) p.os := fun d os => Calls.regrown_of (psign_any lk _ g3 hk6)
        clear hxb BX HL HU oa ob hkk h2s HX HBo g1 g2
        go_upto_region 10 with fail
        clear k0 k1 k2 c0 c1 c2 c3
        have x0 := cell_regrown x0
        have x1 := cell_regrown x1
        have x2 := cell_regrown x2
        have t00 := cell_regrown t00
        have t01 := cell_regrown t01
        have t02 := cell_regrown t02
        have t10 := cell_regrown t10
        have t11 := cell_regrown t11
        have t12 := cell_regrown t12
        generalize prt ta = A at *
        generalize prt tb = B at *
        generalize signS lk = G at *
        clear hW3 g3 g1b g2b hk6
        refine wp_region_quiet_below (by kernel_rfl) (by kernel_rfl) ?_
        repeat (go_big_quiet_step (first | with_reducible exact c34 _ _ | with_reducible exact c33a _ _ | with_reducible exact c33b _ _))
        refine wpQuiet_nil ?_
        intro wz hw'
        obtain ⟨⟨dq, osq⟩, hw''⟩ := hw'
        have hbq := below_regrown W3 dq osq
        rw [← hw''] at hbq
        have HBz := hide (HB3.out.trans (hbq.mono HB3.out.size))
        clear hw'' hbq c33a c33b c34 x0 x1 x2 t00 t01 t02 t10 t11 t12
        go_wp2_with fail
        go_roundw
        case rel =>
          have hz1 : (ByteArray.mk #[32]).size = 1 := rfl
          exact ⟨_, k + 1, rfl, by go_num, by omega, by simp only [ByteArray.size_append, hz1]; omega, by show _ = _; rw [bytes_app]; exact HSP.out.symm, HBz⟩
        case measure => simp [intOf]; omega
    · have hltI : ¬ (k : Int) < (q.2.length : Int) := by omega
      have hke : k = q.2.length := by omega
      have HF : Hid ((sb ++ ⟨#[46]⟩ : ByteArray) = ruleS q) := bytes_ext (by
        rw [bytes_app, HS.out, hke]
        show accL q q.2.length ++ [46] = _
        rw [HEnd.out]
        rfl)
      clear hke
      go_wp2_with fail
      go_ret
      exact ⟨Vl.ret_str HF.out, HB2.out.trans (HBw.out.mono HB2.out.size)⟩
end Go.Proofs.YtcfhpodpkficaaaGreatDoor.Ps
namespace Go.Proofs.YtcfhpodpkficaaaGreatDoor.Rp
open Go.RowKit
open Lx (Wd tx cellsW bt bt_at digitN)
open Vl (Tm Fr)
open Sy

/-- The value of a number's bytes, a minus being passed by. -/
def stepD (n : Nat) (c : UInt8) : Nat := if c.toNat = 45 then n else n * 10 + (c.toNat - 48)
def valD (x : List UInt8) : Nat := x.foldl stepD 0
theorem valD_snoc (x : List UInt8) (c : UInt8) : valD (x ++ [c]) = stepD (valD x) c := by simp [valD]
theorem valD_take (x : List UInt8) (i : Nat) (h : i < x.length) : valD (x.take (i + 1)) = stepD (valD (x.take i)) x[i] := by
  rw [List.take_succ_eq_append_getElem h, valD_snoc]
theorem valD_lt (x : List UInt8) (h : ∀ c ∈ x, c.toNat ≤ 57) : valD x < 10 ^ x.length := by
  have key : ∀ (y : List UInt8) (n k : Nat), n < 10 ^ k → (∀ c ∈ y, c.toNat ≤ 57) → y.foldl stepD n < 10 ^ (k + y.length) := by
    intro y
    induction y with
    | nil => intro n k h _; simpa using h
    | cons c t ih =>
      intro n k hn hc
      have hc0 := hc c (by simp)
      have hs : stepD n c < 10 ^ (k + 1) := by
        have : 10 ^ (k + 1) = 10 ^ k * 10 := Nat.pow_succ _ _
        unfold stepD
        split <;> omega
      have := ih (stepD n c) (k + 1) hs (fun d hd => hc d (by simp [hd]))
      rw [List.foldl_cons, List.length_cons, show k + (t.length + 1) = k + 1 + t.length by omega]
      exact this
  have := key x 0 0 (by decide) h
  rw [Nat.zero_add] at this
  exact this
theorem valD_digits (r : List UInt8) (h : ∀ c ∈ r, digitN c.toNat = true) (n : Nat) : r.foldl stepD n = valL n r := by
  induction r generalizing n with
  | nil => rfl
  | cons c t ih =>
    have hc := digit_range (h c (by simp))
    rw [List.foldl_cons, valL_cons, ih (fun d hd => h d (by simp [hd]))]
    congr 1
    unfold stepD
    rw [if_neg (by omega)]
theorem num_valD {x : Wd} (h : OkW x) (h3 : x.1 = 3) : numOf x.2.1 = (if (x.2.1.getD 0 0).toNat = 45 then -((valD x.2.1 : Nat) : Int) else ((valD x.2.1 : Nat) : Int)) ∧ (∀ c ∈ x.2.1, c.toNat = 45 ∨ (48 ≤ c.toNat ∧ c.toNat ≤ 57)) := by
  rcases h.num h3 with hd | ⟨r, hr, hrn, hd⟩
  · refine ⟨?_, fun c hc => Or.inr (digit_range (hd c hc))⟩
    have e : valD x.2.1 = valL 0 x.2.1 := valD_digits _ hd 0
    obtain ⟨c, t, hx⟩ := List.exists_cons_of_ne_nil h.ne
    have hc := digit_range (hd c (by rw [hx]; simp))
    have h45 : ¬ (x.2.1.getD 0 0).toNat = 45 := by
      rw [hx]
      simp
      omega
    rw [numOf, if_neg h45, if_neg h45, e]
  · rw [hr]
    refine ⟨?_, fun c hc => ?_⟩
    · have e : valD (45 :: r) = valL 0 r := by
        show (45 :: r).foldl stepD 0 = _
        rw [List.foldl_cons]
        exact valD_digits r hd 0
      rw [numOf, e]
      rfl
    · rcases List.mem_cons.1 hc with rfl | hc
      · left; rfl
      · right; exact digit_range (hd c hc)

/-- A parser, seen from a world ahead. -/
structure Pw (w : World) (r : Nat) (v : Value) (L : List Wd) (a e : Nat) (W : World) : Prop where
  pd : Pd W r v L a e
  fr : Fr (fun k => k = r) w W
theorem Pw.refl {w : World} {r : Nat} {v : Value} {L : List Wd} {a e : Nat} (h : Pd w r v L a e) : Pw w r v L a e w := ⟨h, Fr.refl _ _⟩
theorem Pw.below {w W W' : World} {r : Nat} {v : Value} {L : List Wd} {a e : Nat} (h : Pw w r v L a e W) (hb : Below W.heap.size W W') : Pw w r v L a e W' :=
  ⟨h.pd.below hb, h.fr.trans (Fr.of_below (F := fun k => k = r) hb) (fun _ _ e => e)⟩
theorem Pw.alloc {w W : World} {r : Nat} {v : Value} {L : List Wd} {a e : Nat} (h : Pw w r v L a e W) (o : Obj) : Pw w r v L a e (W.alloc o) := h.below (Lx.below_box W o)
theorem Pw.then {w W W' : World} {r : Nat} {v : Value} {L : List Wd} {a e b f : Nat} (h : Pw w r v L a e W) (hr : Pd W' r v L b f) (hf : Fr (fun k => k = r) W W') : Pw w r v L b f W' :=
  ⟨hr, h.fr.trans hf (fun _ _ e => e)⟩
theorem Pw.put {w W : World} {r : Nat} {v : Value} {L : List Wd} {a0 e0 a e : Nat} (h : Pw w r v L a e W) (h0 : Pd w r v L a0 e0) (b i : Nat) (hb : w.heap.size ≤ b) (x : Value) : Pw w r v L a e (W.setCell ⟨b, i, none⟩ x) := by
  have hlt := h0.lt
  have hf : Fr (fun k => k = r) w (W.setCell ⟨b, i, none⟩ x) := h.fr.setCell (p := ⟨b, i, none⟩) (fun hp => by
    have : b < w.heap.size := hp
    omega) x
  exact ⟨⟨h.pd.box.fr (F := fun k => k = b) (Vl.Fr.one W b i x) (by omega), h0.kept hf h0.row (by decide), h.pd.len, h.pd.near⟩, hf⟩
theorem Pw.put3 {w W : World} {r : Nat} {v : Value} {L : List Wd} {a0 e0 a e : Nat} (h : Pw w r v L a e W) (h0 : Pd w r v L a0 e0) (b : Nat) (hb : w.heap.size ≤ b) (x y z : Value) : Pw w r v L a e (((W.setCell ⟨b, 0, none⟩ x).setCell ⟨b, 1, none⟩ y).setCell ⟨b, 2, none⟩ z) :=
  (((h.put h0 b 0 hb x).put h0 b 1 hb y).put h0 b 2 hb z)

/-- What the reference's term gives. -/
def Tr (R : Re Tm) (r : Nat) (v : Value) (L : List Wd) (a : Nat) (w : World) (x : Ending) (w' : World) : Prop :=
  (match R with
  | .error _ => ∃ (t : Tm) (a' : Nat), x = .returned (Vl.tv t) ∧ Pd w' r v L a' 4 ∧ a' ≤ a + 1
  | .ok (t, _) => x = .returned (Vl.tv t) ∧ Pd w' r v L (a + 1) 0 ∧ a < L.length) ∧ Fr (fun k => k = r) w w'

set_option maxRecDepth 10000 in
set_option maxHeartbeats 4000000 in
theorem term_none {w : World} {r : Nat} {v : Value} {L : List Wd} {a : Nat} (h : Pd w r v L a 0) (hx : L.length ≤ a ∨ (∃ hl : a < L.length, L[a].1 = 4)) :
    Calls Tryz.prog 46 #[.pointer (some ⟨r, 0, none⟩)] w fun x w' => Tr (.error false) r v L a w x w' := by
  have hrlt := h.lt
  have H := hide h
  have h1 : Pd (w.alloc (.cells #[.int .i64 0, .string ⟨#[]⟩, .int .i64 0] 53)) r v L a 0 := h.below (Lx.below_box w _)
  have b1 : Bx (w.alloc (.cells #[.int .i64 0, .string ⟨#[]⟩, .int .i64 0] 53)) w.heap.size 53 #[.int .i64 0, .string ⟨#[]⟩, .int .i64 0] := Bx.new w _ _
  have f1 : Fr (fun k => k = r) w (w.alloc (.cells #[.int .i64 0, .string ⟨#[]⟩, .int .i64 0] 53)) := Fr.of_below (Lx.below_box w _)
  go_enter Tryz.func46, Tryz.ntmps46
  go_wp2_with fail
  generalize w.alloc (.cells #[.int .i64 0, .string ⟨#[]⟩, .int .i64 0] 53) = W at *
  obtain ⟨⟨c0, c1, c2⟩, _, _, _⟩ := h1.box.three
  have H1 := hide h1
  have B1 := hide b1
  have F1 := hide f1
  clear b1 f1
  obtain ⟨ao, cap, rfl, hc⟩ := h1.shape
  -- behind the test
  have END : Hid (∀ n, Calls Tryz.prog 27 #[.pointer (some ⟨r, 0, none⟩), .int .i64 4] (W.drewN n) fun x w' => x = .returned (.tuple #[]) ∧ Pd w' r (.slice ao L.length cap) L a 4 ∧ Bx w' w.heap.size 53 #[.int .i64 0, .string ⟨#[]⟩, .int .i64 0] ∧ Fr (fun k => k = r) w w') := fun n => by
    refine (bad_any (H1.out.below (Sy.below_drewN W n)) 4).mono ?_
    rintro x w' ⟨rfl, hp, hf⟩
    exact ⟨rfl, hp, (B1.out.below (Sy.below_drewN W n)).fr hf (by omega), (F1.out.trans (Fr.of_below (F := fun k => k = r) (Sy.below_drewN W n)) (fun _ _ e => e)).trans hf (fun _ _ e => e)⟩
  by_cases hl : a < L.length
  · have h4 : L[a].1 = 4 := by
      rcases hx with hx | ⟨_, hx⟩
      · omega
      · exact hx
    obtain ⟨g, rfl, hc2⟩ := hc (by omega)
    have k0 := (hc2 a hl).1
    rw [h4] at k0
    have hlI : decide (L.length ≤ a) = false := by simp; omega
    have hlI2 : (a : Int) < (L.length : Int) := by omega
    clear hc hc2 h h1 hx
    go_big_quiet (fail)
    go_wp2_with fail
    refine Calls.mono (END.out _) ?_
    rintro x w2 ⟨rfl, hp, hb, hf⟩
    obtain ⟨⟨d0, d1, d2⟩, e0, e1, e2⟩ := hb.three
    have HP := hide hp
    have HB := hide hb
    have HF := hide hf
    clear hp hb hf END c0 c1 c2 k0
    go_wp2_with fail
    refine bodyPost_ret (results_cell_row rfl _ _ w.heap.size 53 _ (0, 0) _ rfl (((HB.out.set 0 _).set 1 _).set 2 _) Tryz.underlying53 rfl sz53) rfl ?_
    have q1 := Pw.put3 (⟨HP.out, HF.out⟩ : Pw w r _ L a 4 w2) H.out w.heap.size (Nat.le_refl _) (.int .i64 0) (.string ⟨#[]⟩) (.int .i64 0)
    exact ⟨⟨(0, ⟨#[]⟩, 0), a, rfl, q1.pd, by omega⟩, q1.fr⟩
  · have hlI : decide (L.length ≤ a) = true := by simp; omega
    clear hc h h1 hx
    go_big_quiet (fail)
    go_wp2_with fail
    refine Calls.mono (END.out _) ?_
    rintro x w2 ⟨rfl, hp, hb, hf⟩
    obtain ⟨⟨d0, d1, d2⟩, e0, e1, e2⟩ := hb.three
    have HP := hide hp
    have HB := hide hb
    have HF := hide hf
    clear hp hb hf END c0 c1 c2
    go_wp2_with fail
    refine bodyPost_ret (results_cell_row rfl _ _ w.heap.size 53 _ (0, 0) _ rfl (((HB.out.set 0 _).set 1 _).set 2 _) Tryz.underlying53 rfl sz53) rfl ?_
    have q1 := Pw.put3 (⟨HP.out, HF.out⟩ : Pw w r _ L a 4 w2) H.out w.heap.size (Nat.le_refl _) (.int .i64 0) (.string ⟨#[]⟩) (.int .i64 0)
    exact ⟨⟨(0, ⟨#[]⟩, 0), a, rfl, q1.pd, by omega⟩, q1.fr⟩

set_option maxRecDepth 10000 in
set_option maxHeartbeats 4000000 in
theorem term_some {w : World} {r : Nat} {v : Value} {L : List Wd} {a : Nat} (h : Pd w r v L a 0) (hl : a < L.length) (hx : OkW L[a]) (h4 : ¬ L[a].1 = 4) :
    Calls Tryz.prog 46 #[.pointer (some ⟨r, 0, none⟩)] w fun x w' => Tr (oneL termW (L.drop a)) r v L a w x w' := by
  have hrlt := h.lt
  have H := hide h
  have hlen := h.len
  have h1 : Pd (w.alloc (.cells #[.int .i64 0, .string ⟨#[]⟩, .int .i64 0] 53)) r v L a 0 := h.below (Lx.below_box w _)
  have b1 : Bx (w.alloc (.cells #[.int .i64 0, .string ⟨#[]⟩, .int .i64 0] 53)) w.heap.size 53 #[.int .i64 0, .string ⟨#[]⟩, .int .i64 0] := Bx.new w _ _
  have f1 : Fr (fun k => k = r) w (w.alloc (.cells #[.int .i64 0, .string ⟨#[]⟩, .int .i64 0] 53)) := Fr.of_below (Lx.below_box w _)
  have hnx : nextW (L.drop a) = L[a] := drop_next L a hl
  have HR : Hid (oneL termW (L.drop a) = match termW L[a] with
    | none => .error false
    | some t => .ok (t, L.drop (a + 1))) := by show _ = _; rw [oneL, hnx, drop_tail]; cases termW L[a] <;> rfl
  go_enter Tryz.func46, Tryz.ntmps46
  go_wp2_with fail
  have hsW : w.heap.size < (w.alloc (.cells #[.int .i64 0, .string ⟨#[]⟩, .int .i64 0] 53)).heap.size := by simp
  generalize w.alloc (.cells #[.int .i64 0, .string ⟨#[]⟩, .int .i64 0] 53) = W at *
  obtain ⟨⟨c0, c1, c2⟩, _, _, _⟩ := h1.box.three
  have P1 := hide (⟨h1, f1⟩ : Pw w r v L a 0 W)
  have B1 := hide b1
  clear b1 f1 hnx
  obtain ⟨ao, cap, rfl, hc⟩ := h1.shape
  obtain ⟨g, rfl, hc2⟩ := hc (by omega)
  obtain ⟨k0, k1, k2⟩ := hc2 a hl
  have hlI : decide (L.length ≤ a) = false := by simp; omega
  have hlI2 : (a : Int) < (L.length : Int) := by omega
  have h4b : ((L[a].1 : Int) == 4) = false := by simp; omega
  have HX := hide hx
  clear hc hc2 h h1 hx
  generalize L[a] = x at *
  go_big_quiet (fail)
  obtain ⟨W2, hW2⟩ : ∃ W2, W.drewN nq = W2 := ⟨_, rfl⟩
  have hb2 : Below W.heap.size W W2 := by rw [← hW2]; exact Sy.below_drewN W nq
  rw [hW2]
  clear hW2
  have P2 := hide (P1.out.below hb2)
  have B2 := hide (B1.out.below hb2)
  have e0 := cell_below' c0 hb2
  have e1 := cell_below' c1 hb2
  have q0 := cell_below' k0 hb2
  have q1 := cell_below' k1 hb2
  have q2 := cell_below' k2 hb2
  have l0 := fun o => cell_below' e0 (Lx.below_box W2 o)
  have l1 := fun o => cell_below' e1 (Lx.below_box W2 o)
  have m0 := fun o => cell_below' q0 (Lx.below_box W2 o)
  have m1 := fun o => cell_below' q1 (Lx.below_box W2 o)
  have m2 := fun o => cell_below' q2 (Lx.below_box W2 o)
  have hs2 : w.heap.size < W2.heap.size := Nat.lt_of_lt_of_le hsW hb2.size
  clear c0 c1 c2 k0 k1 k2 P1 B1 hb2 hsW
  go_wp2_with fail
  go_cut [3] from 40 to 49 (fun p wc => p = .pointer (some ⟨W2.heap.size, 0, none⟩) ∧ wc = (W2.alloc (.cells #[.int .i64 (x.1 : Int), .string (tx x.2.1), .int .i64 (x.2.2 : Int)] 50)).drew)
  case first =>
    go_region_with (fail)
    all_goals go_wp2_with fail
    all_goals go_meet
    all_goals exact ⟨rfl, rfl⟩
  case rest =>
    obtain ⟨rfl, hw3⟩ := hcut
    have P3 : Hid (Pw w r (.slice (some ⟨g, 0, none⟩) L.length cap) L a 0 wc) := by rw [hw3]; exact (P2.out.alloc _).below ((Below.refl _ _).drew)
    have B3 : Hid (Bx wc w.heap.size 53 #[.int .i64 0, .string ⟨#[]⟩, .int .i64 0]) := by rw [hw3]; exact (B2.out.below (Lx.below_box W2 _)).below ((Below.refl _ _).drew)
    have T3 : Hid (Bx wc W2.heap.size 50 #[.int .i64 (x.1 : Int), .string (tx x.2.1), .int .i64 (x.2.2 : Int)]) := by rw [hw3]; exact (Bx.new W2 _ _).below ((Below.refl _ _).drew)
    clear hw3 l0 l1 m0 m1 m2 e0 e1 q0 q1 q2 P2 B2
    obtain ⟨⟨c0, c1, c2⟩, f0, f1, f2⟩ := P3.out.pd.box.three
    have hst := P3.out.pd.stepI (by omega)
    have P4 := hide (P3.out.then hst.1 hst.2)
    have B4 := hide (B3.out.fr hst.2 (by omega))
    have T4 := hide (T3.out.fr hst.2 (by omega))
    clear hst P3 B3 T3
    obtain ⟨⟨d0, d1, d2⟩, g0, g1, g2⟩ := B4.out.three
    obtain ⟨⟨t0, t1, t2⟩, _, _, _⟩ := T4.out.three
    by_cases h1 : x.1 = 1
    · have hk1 : ((x.1 : Int) == 1) = true := by simp; omega
      have HR' : Hid (oneL termW (L.drop a) = .ok ((2, tx x.2.1, 0), L.drop (a + 1))) := by show _ = _; rw [HR.out]; simp [termW, constW, h1]
      clear HR
      go_wp2_with fail
      refine bodyPost_ret (results_cell_row rfl _ _ w.heap.size 53 _ (0, 0) _ rfl (((B4.out.set 0 _).set 1 _).set 2 _) Tryz.underlying53 rfl sz53) rfl ?_
      have q1 := P4.out.put3 H.out w.heap.size (Nat.le_refl _) (.int .i64 2) (.string (tx x.2.1)) (.int .i64 0)
      rw [HR'.out]
      exact ⟨⟨rfl, q1.pd, hl⟩, q1.fr⟩
    · have hk1 : ((x.1 : Int) == 1) = false := by simp; omega
      by_cases h2 : x.1 = 2
      · have hk2 : ((x.1 : Int) == 2) = true := by simp; omega
        have HR' : Hid (oneL termW (L.drop a) = .ok ((1, tx x.2.1, 0), L.drop (a + 1))) := by show _ = _; rw [HR.out]; simp [termW, h2]
        clear HR
        go_wp2_with fail
        refine bodyPost_ret (results_cell_row rfl _ _ w.heap.size 53 _ (0, 0) _ rfl (((B4.out.set 0 _).set 1 _).set 2 _) Tryz.underlying53 rfl sz53) rfl ?_
        have q1 := P4.out.put3 H.out w.heap.size (Nat.le_refl _) (.int .i64 1) (.string (tx x.2.1)) (.int .i64 0)
        rw [HR'.out]
        exact ⟨⟨rfl, q1.pd, hl⟩, q1.fr⟩
      · have hk2 : ((x.1 : Int) == 2) = false := by simp; omega
        have h3 : x.1 = 3 := by
          have hk := HX.out.kind
          have : Lx.kindL x.2.1 ≤ 4 := (Lx.kindN_pos _).2
          have : 1 ≤ Lx.kindL x.2.1 := (Lx.kindN_pos _).1
          omega
        obtain ⟨hnum, hby⟩ := num_valD HX.out h3
        have hl16 := HX.out.len
        have hne := List.length_pos_iff.2 HX.out.ne
        have hvb : ∀ k, k ≤ x.2.1.length → valD (x.2.1.take k) < 10000000000000000 := fun k hk => by
          have h1 := valD_lt (x.2.1.take k) (fun c hc => by have := hby c (List.mem_of_mem_take hc); omega)
          have h2 : (10 : Nat) ^ (x.2.1.take k).length ≤ 10 ^ 16 := Nat.pow_le_pow_right (by decide) (by rw [List.length_take]; omega)
          have h3 : (10 : Nat) ^ 16 = 10000000000000000 := by decide
          omega
        have HVB := hide hvb
        have HBY := hide hby
        have HNM := hide hnum
        clear hvb hby hnum
        have hsz : (tx x.2.1).size = x.2.1.length := rfl
        go_wp2_with fail
        go_loopw [4, 5] (fun nv iv wr => ∃ k : Nat, iv = .int .i64 k ∧ k ≤ x.2.1.length ∧ nv = .int .i64 ((valD (x.2.1.take k) : Nat) : Int) ∧ wr = wc.setCell ⟨r, 1, none⟩ (.int .i64 ((a : Int) + 1))) (fun _ iv _ => x.2.1.length - (intOf iv).toNat)
        case atStart => exact ⟨0, rfl, Nat.zero_le _, rfl, rfl⟩
        case round =>
          obtain ⟨k, rfl, hk, rfl, hw⟩ := hrel
          subst hw
          by_cases hlt : k < x.2.1.length
          · have hltI : (k : Int) < ((tx x.2.1).size : Int) := by omega
            have bk := bt_at (tx x.2.1) k hlt
            have hbt : bt (tx x.2.1) k = (x.2.1[k]).toNat := by
              show (x.2.1.getD k 0).toNat = _
              rw [List.getD, List.getElem?_eq_getElem hlt]
              rfl
            have hst := valD_take x.2.1 k hlt
            have hb2 := HBY.out x.2.1[k] (List.getElem_mem hlt)
            have hv1 := HVB.out k hk
            have hv2 := HVB.out (k + 1) hlt
            rw [← hbt] at hb2
            by_cases h45 : bt (tx x.2.1) k = 45
            · have g45 : ((bt (tx x.2.1) k : Int) == 45) = true := by simp; omega
              have hsame : valD (x.2.1.take (k + 1)) = valD (x.2.1.take k) := by rw [hst, stepD, if_pos (by rw [← hbt]; exact h45)]
              have HS := hide hsame
              clear hst hsame hb2 h45 hbt
              go_wp2_with fail
              go_roundw
              case rel => exact ⟨k + 1, by go_num, by omega, by rw [HS.out], trivial⟩
              case measure => simp [intOf]; omega
            · have g45 : ((bt (tx x.2.1) k : Int) == 45) = false := by simp; omega
              have hnext : valD (x.2.1.take (k + 1)) = valD (x.2.1.take k) * 10 + (bt (tx x.2.1) k - 48) := by rw [hst, stepD, if_neg (by rw [← hbt]; exact h45), hbt]
              have HS := hide hnext
              have hlo : 48 ≤ bt (tx x.2.1) k := by omega
              have hhi : bt (tx x.2.1) k ≤ 57 := by omega
              clear hst hnext hb2 h45 hbt hv2
              go_wp2_with fail
              exact ⟨⟨k + 1, by go_num, by omega, congrArg (Value.int .i64) (by rw [HS.out]; have bk' := bt_at (tx x.2.1) k hlt; omega), trivial⟩, by simp [intOf]; omega⟩
          · have hke : k = x.2.1.length := by omega
            have hltI : ¬ (k : Int) < ((tx x.2.1).size : Int) := by omega
            have hvk := HVB.out k hk
            have b0 := bt_at (tx x.2.1) 0 hne
            have hb0 : bt (tx x.2.1) 0 = (x.2.1.getD 0 0).toNat := rfl
            have hvd : valD (x.2.1.take k) = valD x.2.1 := by rw [hke, List.take_length]
            rw [hvd] at hvk ⊢
            have hN := HNM.out
            rw [← hb0] at hN
            by_cases hbig : 2147483648 < valD x.2.1
            · have gb : (2147483648 : Int) < ((valD x.2.1 : Nat) : Int) := by omega
              have HR' : Hid (oneL termW (L.drop a) = .error false) := by
                show _ = _
                rw [HR.out]
                have : ¬ (-2147483648 ≤ numOf x.2.1 ∧ numOf x.2.1 ≤ 2147483648) := by
                  rw [hN]
                  split <;> omega
                simp [termW, constW, h3, this]
              have HBd := hide (bad_any P4.out.pd 4)
              clear HR hN hb0
              go_wp2_with fail
              refine Calls.mono HBd.out ?_
              rintro y w5 ⟨rfl, hp5, hf5⟩
              have P5 := hide (P4.out.then hp5 hf5)
              have B5 := hide (B4.out.fr hf5 (by omega))
              obtain ⟨⟨x0, x1, x2⟩, y0, y1, y2⟩ := B5.out.three
              clear HBd hp5 hf5
              go_wp2_with fail
              refine bodyPost_ret (results_cell_row rfl _ _ w.heap.size 53 _ (0, 0) _ rfl (((B5.out.set 0 _).set 1 _).set 2 _) Tryz.underlying53 rfl sz53) rfl ?_
              have q1 := P5.out.put3 H.out w.heap.size (Nat.le_refl _) (.int .i64 0) (.string ⟨#[]⟩) (.int .i64 0)
              rw [HR'.out]
              exact ⟨⟨(0, ⟨#[]⟩, 0), a + 1, rfl, q1.pd, by omega⟩, q1.fr⟩
            · have gb : ¬ (2147483648 : Int) < ((valD x.2.1 : Nat) : Int) := by omega
              have HR' : Hid (oneL termW (L.drop a) = .ok ((3, ⟨#[]⟩, numOf x.2.1), L.drop (a + 1))) := by
                show _ = _
                rw [HR.out]
                have : -2147483648 ≤ numOf x.2.1 ∧ numOf x.2.1 ≤ 2147483648 := by
                  rw [hN]
                  split <;> omega
                simp [termW, constW, h3, this]
              clear HR
              by_cases h45 : bt (tx x.2.1) 0 = 45
              · have g45 : ((bt (tx x.2.1) 0 : Int) == 45) = true := by simp; omega
                rw [if_pos h45] at hN
                have HN := hide hN
                clear hN hb0 h45
                go_wp2_with fail
                refine bodyPost_ret (results_cell_row rfl _ _ w.heap.size 53 _ (0, 0) _ rfl (((B4.out.set 0 _).set 1 _).set 2 _) Tryz.underlying53 rfl sz53) rfl ?_
                have q1 := P4.out.put3 H.out w.heap.size (Nat.le_refl _) (.int .i64 3) (.string ⟨#[]⟩) (.int .i64 (-((valD x.2.1 : Nat) : Int)))
                rw [HR'.out, HN.out]
                exact ⟨⟨rfl, q1.pd, hl⟩, q1.fr⟩
              · have g45 : ((bt (tx x.2.1) 0 : Int) == 45) = false := by simp; omega
                rw [if_neg h45] at hN
                have HN := hide hN
                clear hN hb0 h45
                go_wp2_with fail
                refine bodyPost_ret (results_cell_row rfl _ _ w.heap.size 53 _ (0, 0) _ rfl (((B4.out.set 0 _).set 1 _).set 2 _) Tryz.underlying53 rfl sz53) rfl ?_
                have q1 := P4.out.put3 H.out w.heap.size (Nat.le_refl _) (.int .i64 3) (.string ⟨#[]⟩) (.int .i64 ((valD x.2.1 : Nat) : Int))
                rw [HR'.out, HN.out]
                exact ⟨⟨rfl, q1.pd, hl⟩, q1.fr⟩

/-- The reference's term. -/
theorem rterm_any {w : World} {r : Nat} {v : Value} {L : List Wd} {a : Nat} (h : Pd w r v L a 0) (hL : ∀ x ∈ L, OkW x) :
    Calls Tryz.prog 46 #[.pointer (some ⟨r, 0, none⟩)] w fun x w' => Tr (oneL termW (L.drop a)) r v L a w x w' := by
  by_cases hl : a < L.length
  · by_cases h4 : L[a].1 = 4
    · have e : oneL termW (L.drop a) = .error false := by rw [oneL, drop_next L a hl]; simp [termW, constW, h4]
      rw [e]
      exact term_none h (Or.inr ⟨hl, h4⟩)
    · exact term_some h hl (hL _ (List.getElem_mem hl)) h4
  · have e : oneL termW (L.drop a) = .error false := by rw [oneL, drop_end L a (by omega)]; rfl
    rw [e]
    exact term_none h (Or.inl (by omega))
end Go.Proofs.YtcfhpodpkficaaaGreatDoor.Rp
namespace Go.Proofs.YtcfhpodpkficaaaGreatDoor.Rp
open Go.RowKit
open Lx (Wd tx cellsW wpList_append_run)
open Vl (Tm Fr)
open Sy

/-- A literal's value, whatever it holds. -/
def anyLit (y : Value) : Prop := ∃ (k : Int) (n : ByteArray) (ao : Option Addr) (m cap : Nat), y = .agg #[.int .i64 k, .string n, .slice ao m cap]
/-- What the reference's methods that read a literal give. -/
def Lr (R : Re Sy.Lit) (r : Nat) (v : Value) (L : List Wd) (a : Nat) (w : World) (x : Ending) (w' : World) : Prop :=
  (match R with
  | .error c => ∃ y a', x = .returned y ∧ anyLit y ∧ Pd w' r v L a' (if c = true then 8 else 4) ∧ a' ≤ L.length + 1
  | .ok (l, rest) => ∃ y a', x = .returned y ∧ isLit w' l y ∧ Pd w' r v L a' 0 ∧ L.drop a' = rest ∧ a < a' ∧ a' ≤ L.length) ∧ Fr (fun k => k = r) w w'

set_option maxRecDepth 10000 in
set_option maxHeartbeats 4000000 in
theorem atom_none {w : World} {r : Nat} {v : Value} {L : List Wd} {a : Nat} (h : Pd w r v L a 0) (ha : a ≤ L.length) (hx : L.length ≤ a ∨ (∃ hl : a < L.length, ¬ L[a].1 = 1)) :
    Calls Tryz.prog 24 #[.pointer (some ⟨r, 0, none⟩)] w fun x w' => Lr (.error false) r v L a w x w' := by
  have hrlt := h.lt
  have H := hide h
  have h1 : Pd (w.alloc (.cells #[.int .i64 0, .string ⟨#[]⟩, .slice none 0 0] 33)) r v L a 0 := h.below (Lx.below_box w _)
  have b1 : Bx (w.alloc (.cells #[.int .i64 0, .string ⟨#[]⟩, .slice none 0 0] 33)) w.heap.size 33 #[.int .i64 0, .string ⟨#[]⟩, .slice none 0 0] := Bx.new w _ _
  have f1 : Fr (fun k => k = r) w (w.alloc (.cells #[.int .i64 0, .string ⟨#[]⟩, .slice none 0 0] 33)) := Fr.of_below (Lx.below_box w _)
  go_enter Tryz.func24, Tryz.ntmps24
  go_wp2_with fail
  generalize w.alloc (.cells #[.int .i64 0, .string ⟨#[]⟩, .slice none 0 0] 33) = W at *
  obtain ⟨⟨c0, c1, c2⟩, _, _, _⟩ := h1.box.three
  have H1 := hide h1
  have B1 := hide b1
  have F1 := hide f1
  clear b1 f1
  obtain ⟨ao, cap, rfl, hc⟩ := h1.shape
  have END : Hid (∀ n, Calls Tryz.prog 27 #[.pointer (some ⟨r, 0, none⟩), .int .i64 4] (W.drewN n) fun x w' => x = .returned (.tuple #[]) ∧ Pd w' r (.slice ao L.length cap) L a 4 ∧ Bx w' w.heap.size 33 #[.int .i64 0, .string ⟨#[]⟩, .slice none 0 0] ∧ Fr (fun k => k = r) w w') := fun n => by
    refine (bad_any (H1.out.below (Sy.below_drewN W n)) 4).mono ?_
    rintro x w' ⟨rfl, hp, hf⟩
    exact ⟨rfl, hp, (B1.out.below (Sy.below_drewN W n)).fr hf (by omega), (F1.out.trans (Fr.of_below (F := fun k => k = r) (Sy.below_drewN W n)) (fun _ _ e => e)).trans hf (fun _ _ e => e)⟩
  by_cases hl : a < L.length
  · have h4 : ¬ L[a].1 = 1 := by
      rcases hx with hx | ⟨_, hx⟩
      · omega
      · exact hx
    obtain ⟨g, rfl, hc2⟩ := hc (by omega)
    have k0 := (hc2 a hl).1
    have hlI : decide (L.length ≤ a) = false := by simp; omega
    have hlI2 : (a : Int) < (L.length : Int) := by omega
    have h1b : ((L[a].1 : Int) == 1) = false := by simp; omega
    clear hc hc2 h h1 hx h4
    generalize L[a] = x at *
    go_big_quiet (fail)
    go_wp2_with fail
    refine Calls.mono (END.out _) ?_
    rintro x w2 ⟨rfl, hp, hb, hf⟩
    obtain ⟨⟨d0, d1, d2⟩, e0, e1, e2⟩ := hb.three
    have HP := hide hp
    have HB := hide hb
    have HF := hide hf
    clear hp hb hf END c0 c1 c2 k0
    go_wp2_with fail
    refine bodyPost_ret (results_cell_row rfl _ _ w.heap.size 33 _ (0, 0) _ rfl (((HB.out.set 0 _).set 1 _).set 2 _) Tryz.underlying33 rfl sz33) rfl ?_
    have q1 := Pw.put3 (⟨HP.out, HF.out⟩ : Pw w r _ L a 4 w2) H.out w.heap.size (Nat.le_refl _) (.int .i64 0) (.string ⟨#[]⟩) (.slice none 0 0)
    exact ⟨⟨_, a, rfl, ⟨_, _, _, _, _, rfl⟩, q1.pd, by omega⟩, q1.fr⟩
  · have hlI : decide (L.length ≤ a) = true := by simp; omega
    clear hc h h1 hx
    go_big_quiet (fail)
    go_wp2_with fail
    refine Calls.mono (END.out _) ?_
    rintro x w2 ⟨rfl, hp, hb, hf⟩
    obtain ⟨⟨d0, d1, d2⟩, e0, e1, e2⟩ := hb.three
    have HP := hide hp
    have HB := hide hb
    have HF := hide hf
    clear hp hb hf END c0 c1 c2
    go_wp2_with fail
    refine bodyPost_ret (results_cell_row rfl _ _ w.heap.size 33 _ (0, 0) _ rfl (((HB.out.set 0 _).set 1 _).set 2 _) Tryz.underlying33 rfl sz33) rfl ?_
    have q1 := Pw.put3 (⟨HP.out, HF.out⟩ : Pw w r _ L a 4 w2) H.out w.heap.size (Nat.le_refl _) (.int .i64 0) (.string ⟨#[]⟩) (.slice none 0 0)
    exact ⟨⟨_, a, rfl, ⟨_, _, _, _, _, rfl⟩, q1.pd, by omega⟩, q1.fr⟩

end Go.Proofs.YtcfhpodpkficaaaGreatDoor.Rp
namespace Go.Proofs.YtcfhpodpkficaaaGreatDoor.Rp
open Go.RowKit
open Lx (Wd tx cellsW wpList_append_run)
open Vl (Tm Fr)
open Sy

theorem atomL_name {L : List Wd} {a : Nat} (hL : ∀ x ∈ L, OkW x) (hl : a < L.length) (h1 : L[a].1 = 1) :
    atomL termW (L.drop a) = if signB [40] (L.drop (a + 1)) = true then (match listL (oneL termW) 4 (L.drop (a + 2)) with
      | .error e => .error e
      | .ok (l, r) => if takeB [41] r = true then .ok ((1, tx L[a].2.1, l), r.tail) else .error false) else .ok ((1, tx L[a].2.1, []), L.drop (a + 1)) := by
  rw [sign_take hL (a + 1) [40] (by decide) rfl, atomL, drop_next L a hl, if_pos h1, drop_tail, drop_tail]
  cases takeB [40] (L.drop (a + 1)) with
  | false => rfl
  | true =>
    simp only [if_true]
    cases listL (oneL termW) 4 (L.drop (a + 2)) <;> rfl

def atOf (r : Nat) (w : World) : Nat := match w.cell? ⟨r, 1, none⟩ with
  | some (.int _ a) => a.toNat
  | _ => 0
theorem atOf_eq {w : World} {r : Nat} {v : Value} {L : List Wd} {a e : Nat} (h : Pd w r v L a e) : atOf r w = a := by
  unfold atOf
  rw [h.box.three.1.2.1]
  rfl
def eOf (r : Nat) (w : World) : Nat := match w.cell? ⟨r, 2, none⟩ with
  | some (.int _ a) => a.toNat
  | _ => 0
theorem eOf_eq {w : World} {r : Nat} {v : Value} {L : List Wd} {a e : Nat} (h : Pd w r v L a e) : eOf r w = e := by
  unfold eOf
  rw [h.box.three.1.2.2]
  rfl
/-- The measure of the loop: an error ends it at once. -/
def ms (r n : Nat) (w : World) : Nat := if eOf r w = 0 then n + 3 - atOf r w else 0
theorem ms_err {w : World} {r n : Nat} {v : Value} {L : List Wd} {a e : Nat} (h : Pd w r v L a e) (he : e ≠ 0) : ms r n w = 0 := by
  unfold ms
  rw [eOf_eq h, if_neg he]
theorem ms_ok {w : World} {r n : Nat} {v : Value} {L : List Wd} {a : Nat} (h : Pd w r v L a 0) : ms r n w = n + 3 - a := by
  unfold ms
  rw [eOf_eq h, if_pos rfl, atOf_eq h]
theorem sign_lt {L : List Wd} {a : Nat} {s : List UInt8} (h : signB s (L.drop a) = true) : a < L.length := by
  by_cases hl : a < L.length
  · exact hl
  · rw [drop_end L a (by omega)] at h
    cases h
def codeN (c : Bool) : Nat := if c = true then 8 else 4
/-- The loop over an atom's terms: what holds ahead of each round. -/
structure Lo (w : World) (r : Nat) (v : Value) (L : List Wd) (a b0 lb : Nat) (nm : ByteArray) (R : Re Sy.Lit) (W : World) (a' e : Nat) (y : Value) (n : Nat) (xs : List Value) : Prop where
  pw : Pw w r v L a' e W
  box : Bx W b0 33 #[.int .i64 0, .string ⟨#[]⟩, .slice none 0 0]
  lit : Bx W lb 33 #[.int .i64 1, .string nm, y]
  row : W.ownsRow w.heap.size 53 3 y n xs
  few : n ≤ 5
  le : a' ≤ L.length + 1
  st : (e = 0 ∧ a + 2 ≤ a' ∧ a' ≤ L.length ∧ n ≤ 4 ∧ ∃ ts : List Tm, n = ts.length ∧ xs = Vl.cellsT ts ∧ listL (oneL termW) 4 (L.drop (a + 2)) = joinR ts (listL (oneL termW) (4 - ts.length) (L.drop a'))) ∨ (∃ c, e = codeN c ∧ R = .error c)

/-- One term more: the append, and the store of the row into the literal. -/
theorem Lo_push {w : World} {r : Nat} {v : Value} {L : List Wd} {b0 lb : Nat} {nm : ByteArray} {W : World} {a0 e0 a' e : Nat} {y : Value} {n : Nat} {xs : List Value} (h0 : Pd w r v L a0 e0) (hlb : w.heap.size ≤ lb) (hne : b0 ≠ lb)
    (pw : Pw w r v L a' e W) (box : Bx W b0 33 #[.int .i64 0, .string ⟨#[]⟩, .slice none 0 0]) (lit : Bx W lb 33 #[.int .i64 1, .string nm, y]) (row : W.ownsRow w.heap.size 53 3 y n xs) (hn : n ≤ 4) (t : Tm) :
    ∃ g cap w3, (∀ ty, (Builtin.append_ #[31, 31] ty #[y, .slice (some ⟨W.heap.size, 0, none⟩) 1 1]).run Tryz.prog (W.alloc (.cells #[.int .i64 t.1, .string t.2.1, .int .i64 t.2.2] 53)) = .ok (.slice (some ⟨g, 0, none⟩) (n + 1) cap) w3) ∧
      (w3.cell? ⟨lb, 2, none⟩ = some y ∧ w3.frozen? ⟨lb, 2, none⟩ = false) ∧
      Hid (Pw w r v L a' e (w3.setCell ⟨lb, 2, none⟩ (.slice (some ⟨g, 0, none⟩) (n + 1) cap)) ∧ Bx (w3.setCell ⟨lb, 2, none⟩ (.slice (some ⟨g, 0, none⟩) (n + 1) cap)) b0 33 #[.int .i64 0, .string ⟨#[]⟩, .slice none 0 0] ∧ Bx (w3.setCell ⟨lb, 2, none⟩ (.slice (some ⟨g, 0, none⟩) (n + 1) cap)) lb 33 #[.int .i64 1, .string nm, .slice (some ⟨g, 0, none⟩) (n + 1) cap] ∧ (w3.setCell ⟨lb, 2, none⟩ (.slice (some ⟨g, 0, none⟩) (n + 1) cap)).ownsRow w.heap.size 53 3 (.slice (some ⟨g, 0, none⟩) (n + 1) cap) (n + 1) (xs ++ [.int .i64 t.1, .string t.2.1, .int .i64 t.2.2])) := by
  obtain ⟨g, cap, w3, hap, HO3, HF3⟩ := push_row 31 53 3 32 _ Tryz.underlying31 Sy.Tryz.info53 rfl (by decide) (by decide) row [.int .i64 t.1, .string t.2.1, .int .i64 t.2.2] rfl (by simp [Value.oneCell']) (by omega) pw.fr.size
  have hrow : ∀ k, y.ownBlock = some k → w.heap.size ≤ k := fun k hk => (row.lt k hk).1
  have hnot : ∀ {b : Nat} {T : TypeId} {cs : Array Value}, Bx W b T cs → T ≠ 53 → ¬ y.ownBlock = some b := fun {b T cs} hb hT hk => by
    rcases row.2 with ⟨rfl, _⟩ | ⟨g', cap', cur, rfl, _, hg, _⟩
    · simp [Value.ownBlock] at hk
    · simp [Value.ownBlock] at hk
      subst hk
      have := hb.symm.trans hg
      simp only [Option.some.injEq, Obj.cells.injEq] at this
      exact hT this.2.1
  have box3 := box.fr HF3.out (hnot box (by decide))
  have lit3 := lit.fr HF3.out (hnot lit (by decide))
  have hlt := h0.lt
  have pw3 : Pw w r v L a' e w3 := by
    have hf : Fr (fun k => k = r) w w3 := pw.fr.trans HF3.out (fun x hx hFx => absurd (hrow x hFx) (by omega))
    exact ⟨⟨pw.pd.box.fr HF3.out (fun hk => by have := hrow r hk; omega), h0.kept hf h0.row (by decide), pw.pd.len, pw.pd.near⟩, hf⟩
  refine ⟨g, cap, w3, hap, ⟨lit3.c 2, lit3.f 2⟩, pw3.put h0 lb 2 hlb _, box3.fr (F := fun k => k = lb) (Vl.Fr.one w3 lb 2 _) hne, lit3.set 2 _, own_put HO3.out lit3 (by decide) 2 _⟩

end Go.Proofs.YtcfhpodpkficaaaGreatDoor.Rp

/- The law of printing: its walk. -/
import Derived.Test.YtcfhpodpkficaaaGreatDoorPart11
import Derived.Test.YtcfhpodpkficaaaGreatDoorPart14
import Derived.Test.YtcfhpodpkficaaaGreatDoorPart16
namespace Go.Proofs.YtcfhpodpkficaaaGreatDoor.Ps
open Go.RowKit
open Lx (Wd tx bs scanAt)
open Vl (Tm Fr bytes_app bytes_ext size_list)
open Sy

theorem rule_len {q : Rul} (h : OkR q) : (ruleS q).size ≤ 40000 := by
  have h1 := lit_small h.head
  have h2 := join_len2 q.2 h.body
  have h3 := h.few
  rw [size_list] at h1
  have h4 : (litT q.1).length ≤ 5001 := h1
  rw [size_list]
  show (ruleL q).length ≤ _
  unfold ruleL
  split
  · simp only [List.length_append, List.length_cons, List.length_nil]
    omega
  · simp only [List.length_append, List.length_cons, List.length_nil]
    have : 5003 * q.2.length ≤ 5003 * 6 := Nat.mul_le_mul (Nat.le_refl _) h3
    omega
theorem scanned {S : List UInt8} {rs : List Rul} (h : progL 30 (wordsL S) = .ok rs) : scanAt S 0 ≠ none := by
  intro e
  rw [prog_front, if_pos e] at h
  cases hq : progL 30 (Lx.frontAt S 0) <;> rw [hq] at h <;> cases h
theorem allL_take {rs : List Rul} {k : Nat} (h : k < rs.length) : allL (rs.take (k + 1)) = allL (rs.take k) ++ ((ruleS rs[k]).data.toList ++ [10]) := by
  unfold allL
  rw [List.take_succ_eq_append_getElem h, List.flatMap_append]
  simp [ruleS]

set_option maxRecDepth 10000 in
set_option maxHeartbeats 8000000 in
theorem print_law (s : ByteArray) (w : World) (h : Tabs w) :
    Calls Tryz.prog 4 #[.string s] w fun e w' => e = .returned (.bool true) ∧ Below w.heap.size w w' := by
  have HBg := hide (begun_any w h)
  have H := hide h
  have hcs := Lx.cutS_size s 1500
  have HC := hide (Lx.cutS_any s 1500)
  clear h
  go_enter Tryz.func4, Tryz.ntmps4
  go_wp2_with fail
  refine Calls.mono HBg.out ?_
  rintro e w1 ⟨rfl, hb1⟩
  have HB1 := hide hb1
  clear HBg hb1
  go_wp2_with fail
  refine Calls.mono (HC.out w1) ?_
  rintro e w2 ⟨rfl, hw2⟩
  have hw2' := hw2.symm
  subst hw2'
  clear hw2
  generalize Lx.cutS s 1500 = t at *
  obtain ⟨R, hR⟩ : ∃ R, Hid (progL 30 (wordsL (bs t)) = R) := ⟨_, rfl⟩
  have HD : Hid (Calls Tryz.prog 10 #[.string t] w1 fun e w' => Pg (progL 30 (wordsL (bs t))) w1 e w') := Rp.rprogram_any t w1 (by omega)
  rw [hR.out] at HD
  clear HC
  go_wp2_with fail
  refine Calls.mono HD.out ?_
  rintro e w3 ⟨hz, hb3⟩
  have HB3 := hide (HB1.out.trans (hb3.mono HB1.out.size))
  clear HD hb3 HB1
  cases R with
  | error c =>
    obtain rfl := hz
    cases c
    all_goals simp only [Bool.false_eq_true, if_false, if_true]
    all_goals go_wp2_with fail
    all_goals go_ret
    all_goals exact ⟨rfl, HB3.out⟩
  | ok l =>
    obtain ⟨y, rfl, hy⟩ := hz
    obtain ⟨ao, cap, rfl⟩ := Rp.isRs_shape hy
    have HY := hide hy
    have hag := again hR.out (scanned hR.out)
    have HOK := hide hag.1
    have HAG := hide hag.2
    have hl30 : l.length ≤ 30 := (progL_ok 30 _ _ (Sh.of (words_ok (bs t)).1) hR.out).1
    clear hy hR hag
    go_wp2_with fail
    go_loopw [6, 7, 8] (fun sv iv _ wr => ∃ (sb : ByteArray) (k : Nat), sv = .string sb ∧ iv = .int .i64 k ∧ k ≤ l.length ∧ sb.size ≤ 50000 * k ∧ Hid (sb.data.toList = allL (l.take k)) ∧ Hid (Below w3.heap.size w3 wr)) (fun _ iv _ _ => l.length - (intOf iv).toNat)
    case atStart => exact ⟨⟨#[]⟩, 0, rfl, rfl, Nat.zero_le _, by decide, rfl, Below.refl _ _⟩
    case round =>
      obtain ⟨sb, k, rfl, rfl, hk, hsz, HS, HBw⟩ := hrel
      by_cases hlt : k < l.length
      · have hltI : (k : Int) < (l.length : Int) := by omega
        obtain ⟨g, rfl, hc⟩ := (Rp.isRs_cells HY.out).2 (by omega)
        obtain ⟨va, vb, hva, hvb, k0, k1, k2, k3⟩ := hc k hlt
        obtain ⟨hq, hq1⟩ := HOK.out _ (List.getElem_mem hlt)
        have HRu : Hid (∀ W, Below wr.heap.size wr W → isRul W l[k] (.agg #[.int .i64 l[k].1.1, .string l[k].1.2.1, va, vb])) := fun W hW => ⟨va, vb, rfl, isTs_below (isTs_below hva HBw.out) hW, isLs_below (isLs_below hvb HBw.out) hW⟩
        have k0 := cell_below' k0 HBw.out
        have k1 := cell_below' k1 HBw.out
        have k2 := cell_below' k2 HBw.out
        have k3 := cell_below' k3 HBw.out
        have HAT := hide (allL_take hlt)
        have hrl := rule_len hq
        obtain ⟨_, aoa, capa, rfl⟩ := own_len hva
        obtain ⟨aob, capb, rfl⟩ := isLs_shape hvb
        have HTb := hide ((H.out.below HB3.out).below HBw.out)
        have HP1 := hide (print_rule (HRu.out wr (Below.refl _ _)) hq HTb.out.syn HTb.out.pow)
        have HP2 : Hid (∀ W, Below wr.heap.size wr W → Calls Tryz.prog 13 #[.agg #[.int .i64 l[k].1.1, .string l[k].1.2.1, .slice aoa l[k].1.2.2.length capa, .slice aob l[k].2.length capb]] W fun e w' => e = .returned (.string (ruleS l[k])) ∧ Below W.heap.size W w') := fun W hW => printRule_any (HRu.out W hW) hq hq1
        clear hc hva hvb hq hq1 HRu
        generalize l[k] = q at *
        generalize ruleS q = rt at *
        go_wp2_with fail
        refine Calls.mono HP1.out ?_
        rintro e w4 ⟨rfl, hb4⟩
        have HB4 := hide hb4
        have k0 := cell_below' k0 hb4
        have k1 := cell_below' k1 hb4
        have k2 := cell_below' k2 hb4
        have k3 := cell_below' k3 hb4
        clear hb4 HP1
        have hne : (rt.toList != rt.toList) = false := by simp
        go_wp2_with fail
        refine Calls.mono (HP2.out w4 HB4.out) ?_
        rintro e w5 ⟨rfl, hb5⟩
        have HB5 := hide (HBw.out.trans ((HB4.out.trans (hb5.mono HB4.out.size)).mono HBw.out.size))
        clear hb5 k0 k1 k2 k3 HP2
        go_wp2_with fail
        go_roundw
        case rel =>
          have hz1 : (ByteArray.mk #[10]).size = 1 := rfl
          exact ⟨_, k + 1, rfl, by go_num, by omega, by simp only [ByteArray.size_append, hz1]; omega, by show _ = _; rw [bytes_app, bytes_app, HAT.out, HS.out], HB5⟩
        case measure => simp [intOf]; omega
      · have hltI : ¬ (k : Int) < (l.length : Int) := by omega
        have hke : l.take k = l := by rw [show k = l.length by omega, List.take_length]
        rw [hke] at HS
        clear hke
        obtain ⟨bg, hbg⟩ : ∃ bg, decide ((sb.size : Int) > 4000) = bg := ⟨_, rfl⟩
        have HB6 := hide (HB3.out.trans (HBw.out.mono HB3.out.size))
        cases bg with
        | true =>
          go_wp2_with fail
          go_ret
          exact ⟨rfl, HB6.out⟩
        | false =>
          have hle : sb.size ≤ 4000 := by have := of_decide_eq_false hbg; omega
          have HA := hide (program_any sb wr (H.out.below HB6.out).lex (H.out.below HB6.out).syn hle)
          have e1 : bs sb = allL l := HS.out
          rw [e1, HAG.out] at HA
          clear e1 hle
          go_wp2_with fail
          refine Calls.mono HA.out ?_
          rintro e w7 ⟨⟨y', rfl, hy'⟩, hb7⟩
          obtain ⟨ao', cap', rfl⟩ := Rp.isRs_shape hy'
          have HB7 := hide (HB6.out.trans (hb7.mono HB6.out.size))
          have HE := hide (Rp.eqRules_same hy' (isRs_below (isRs_below HY.out HBw.out) hb7))
          clear hy' hb7 HA
          go_wp2_with fail
          refine Calls.mono HE.out ?_
          rintro e w8 ⟨rfl, hb8⟩
          have HB8 := hide (HB7.out.trans (hb8.mono HB7.out.size))
          go_wp2_with fail
          go_ret
          exact ⟨rfl, HB8.out⟩
end Go.Proofs.YtcfhpodpkficaaaGreatDoor.Ps

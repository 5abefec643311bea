/- The law of blanks and notes between words: its walk. A slice of numbers that came in, as it is read. -/
import Derived.Test.YtcfhpodpkficaaaGreatDoorPart15
import Derived.ProofKit
import Derived.OpenShut
import Derived.Deep.Slices
import Derived.Lib.SmallJoins
namespace Go.Proofs.YtcfhpodpkficaaaGreatDoor.Rp
open Go.RowKit
open Lx (Wd tx bs scanAt frontAt Rw cellsW)
open Vl (Tm Fr)
open Sy

/-- A slice of numbers that is read. -/
def Nums (w : World) (v : Value) : Prop := ∃ ao n cap, v = .slice ao n cap ∧ (0 < n → ∃ g off, ao = some ⟨g, off, none⟩ ∧ ∀ i, i < n → ∃ x : Int, w.cell? ⟨g, off + i, none⟩ = some (.int .i64 x))

theorem tx_app3 (x y : List UInt8) : tx x ++ tx y = tx (x ++ y) := Vl.bytes_ext (by rw [Vl.bytes_app]; rfl)

set_option maxRecDepth 10000 in
set_option maxHeartbeats 8000000 in
theorem blanks_law (s : ByteArray) (v : Value) (w : World) (hv : Nums w v) (h : Tabs w) :
    Calls Tryz.prog 6 #[.string s, v] w fun e w' => e = .returned (.bool true) ∧ Below w.heap.size w w' := by
  obtain ⟨aok, nk, capk, rfl, hk⟩ := hv
  have HK := hide hk
  have HBg := hide (begun_any w h)
  have H := hide h
  have hcs := Lx.cutS_size s 300
  have HC := hide (Lx.cutS_any s 300)
  clear h hk
  go_enter Tryz.func6, Tryz.ntmps6
  go_wp2_with fail
  refine Calls.mono HBg.out ?_
  rintro e w1 ⟨rfl, hb1⟩
  have HB1 := hide hb1
  clear HBg hb1
  go_wp2_with fail
  refine Calls.mono (HC.out w1) ?_
  rintro e w2 ⟨rfl, hw2⟩
  have hw2' := hw2.symm
  subst hw2'
  clear hw2 HC
  generalize Lx.cutS s 300 = t at *
  have HA := hide (rprogram_any t w1 (by omega))
  have HS : Hid (∀ W, _) := fun W => scan2 t W (by omega)
  obtain ⟨R, hR⟩ : ∃ R, Hid (progL 30 (wordsL (bs t)) = R) := ⟨_, rfl⟩
  rw [hR.out] at HA
  go_wp2_with fail
  refine Calls.mono HA.out ?_
  rintro e w3 ⟨hz, hb3⟩
  have HB3 := hide (HB1.out.trans (hb3.mono HB1.out.size))
  -- what the reference has given, in one form
  obtain ⟨y, E, rfl, HY⟩ : ∃ (y : Value) (E : Int), e = .returned (.tuple #[y, .int .i64 E]) ∧ Hid (∃ ao n cap, y = .slice ao n cap ∧ ((∃ c, R = .error c ∧ y = .slice none 0 0 ∧ E = (if c = true then 8 else 4)) ∨ (∃ l, R = .ok l ∧ isRs w3 l y ∧ E = 0))) := by
    cases R with
    | error c => exact ⟨_, _, hz, _, _, _, rfl, Or.inl ⟨c, rfl, rfl, rfl⟩⟩
    | ok l =>
      obtain ⟨y, rfl, hy⟩ := hz
      obtain ⟨ao, cap, rfl⟩ := isRs_shape hy
      exact ⟨_, _, rfl, _, _, _, rfl, Or.inr ⟨l, rfl, hy, rfl⟩⟩
  obtain ⟨aoy, ny, capy, rfl, hy2⟩ := HY.out
  have HY2 := hide hy2
  clear hy2 HY HA hb3 hz
  go_wp2_with fail
  refine Calls.mono (HS.out w3) ?_
  rintro e w4 ⟨u, E4, rfl, hrw, hE⟩
  obtain ⟨aow, capw, rfl, hsh⟩ := hrw.slice
  have HB4 := hide (HB3.out.trans (hrw.below.mono HB3.out.size))
  have HB34 := hide hrw.below
  have HRW := hide hrw
  clear hrw HS
  rcases hE with ⟨rfl, hno⟩ | ⟨rfl, hno⟩
  · obtain ⟨m, hm⟩ : ∃ m, scanAt (bs t) 0 = some m := by
      cases hx : scanAt (bs t) 0 with
      | none => exact absurd hx hno
      | some m => exact ⟨m, rfl⟩
    have HM := hide hm
    have hfm := Lx.frontAt_of_scan hm
    rw [hfm] at HRW hsh ⊢
    have hml : m.length ≤ 300 := by
      have h1 := (scan_B _ (bs t) 0 m (Nat.le_refl _) hm).1
      rw [Lx.bs_length] at h1
      omega
    have HSH := hide hsh
    clear hfm hno hm hsh
    go_wp2_with fail
    go_loopw [10, 11] (fun sv iv wr => ∃ (k : Nat) (q : ByteArray) (bl : List Bool), sv = .string q ∧ iv = .int .i64 k ∧ k ≤ m.length ∧ Hid (bl.length = k ∧ q = tx (txB (m.take k) bl)) ∧ q.size ≤ 25 * k ∧ wr = w4) (fun _ iv _ => m.length - (intOf iv).toNat)
    case atStart => exact ⟨0, _, [], rfl, rfl, Nat.zero_le _, ⟨rfl, by simp [txB]; rfl⟩, by decide, rfl⟩
    case round =>
      obtain ⟨k, q, bl, rfl, rfl, hk, HQ, hqs, hw⟩ := hrel
      have hw' := hw.symm
      subst hw'
      clear hw
      by_cases hlt : k < m.length
      · have hltI : (k : Int) < (m.length : Int) := by omega
        obtain ⟨g, rfl⟩ := HSH.out (by omega)
        have hc := HRW.out.cells k hlt
        obtain ⟨k0, k1, k2⟩ := hc
        have HN : Hid (∀ b : Bool, (bl ++ [b]).length = k + 1 ∧ q ++ tx m[k].2.1 ++ tx (sepB b) = tx (txB (m.take (k + 1)) (bl ++ [b]))) := fun b => by
          refine ⟨by simp [HQ.out.1], ?_⟩
          rw [HQ.out.2, tx_app3, tx_app3, List.take_succ_eq_append_getElem hlt, txB_snoc _ _ _ _ (by rw [HQ.out.1, List.length_take]; omega)]
        have hxs : (tx m[k].2.1).size ≤ 16 := by
          have h1 := (words_ok (bs t)).1
          rw [wordsL, HM.out] at h1
          rcases h1 _ (List.getElem_mem hlt) with hx | hx
          · exact hx.len
          · rw [hx]; decide
        clear HQ
        generalize m[k] = x at *
        by_cases hlk : k < nk
        · have hlkI : (k : Int) < (nk : Int) := by omega
          obtain ⟨gk, off, rfl, hkc⟩ := HK.out (by omega)
          obtain ⟨xk, hxk⟩ := hkc k hlk
          have hxk := cell_below' hxk HB4.out
          by_cases hmod : (xk.tmod 4 == 1) = true
          · go_wp2_with fail
            exact ⟨⟨k + 1, _, bl ++ [true], rfl, by go_num, by omega, HN.out true, by simp only [ByteArray.size_append]; show q.size + (tx x.2.1).size + 9 ≤ _; omega, trivial⟩, by simp [intOf]; omega⟩
          · have hmod2 : (xk.tmod 4 == 1) = false := by simpa using hmod
            clear hmod
            go_wp2_with fail
            exact ⟨⟨k + 1, _, bl ++ [false], rfl, by go_num, by omega, HN.out false, by simp only [ByteArray.size_append]; show q.size + (tx x.2.1).size + 2 ≤ _; omega, trivial⟩, by simp [intOf]; omega⟩
        · have hlkI : ¬ (k : Int) < (nk : Int) := by omega
          go_wp2_with fail
          exact ⟨⟨k + 1, _, bl ++ [false], rfl, by go_num, by omega, HN.out false, by simp only [ByteArray.size_append]; show q.size + (tx x.2.1).size + 2 ≤ _; omega, trivial⟩, by simp [intOf]; omega⟩
      · have hke : k = m.length := by omega
        have hkI : ¬ (k : Int) < (m.length : Int) := by omega
        have hB := prog_B HM.out bl (by rw [HQ.out.1]; exact hke)
        have HP : Hid (Calls Tryz.prog 9 #[.string q] w4 fun e w' => Pg R w4 e w') := by
          have e1 : bs q = txB m bl := by rw [HQ.out.2, hke, List.take_length]; rfl
          have hsz : q.size ≤ 4000 := by
            have h1 := hB.2
            rw [Lx.bs_length] at h1
            have h2 : (bs q).length = q.size := Lx.bs_length q
            rw [e1] at h2
            omega
          have := program_any q w4 (H.out.below HB4.out).lex (H.out.below HB4.out).syn hsz
          rw [e1, hB.1, hR.out] at this
          exact this
        clear hB HQ
        go_wp2_with fail
        refine Calls.mono HP.out ?_
        rintro e w5 ⟨hz, hb5⟩
        have HB5 := hide (HB4.out.trans (hb5.mono HB4.out.size))
        have HB35 := hide (HB34.out.trans (hb5.mono HB34.out.size))
        rcases HY2.out with ⟨c, hc, hy, hE⟩ | ⟨l, hl, hy, hE⟩
        · subst hc
          obtain rfl := hz
          simp only [Value.slice.injEq] at hy
          obtain ⟨rfl, rfl, rfl⟩ := hy
          subst hE
          have HE := hide (eqRules_nil w5)
          clear HP hb5 HY2
          cases c
          all_goals simp only [Bool.false_eq_true, if_false, if_true]
          all_goals go_wp2_with fail
          all_goals refine Calls.mono HE.out ?_
          all_goals rintro e w6 ⟨rfl, hb6⟩
          all_goals have HB6 := hide (HB5.out.trans (hb6.mono HB5.out.size))
          all_goals go_wp2_with fail
          all_goals go_ret
          all_goals exact ⟨rfl, HB6.out⟩
        · subst hl
          obtain ⟨y5, rfl, hy5⟩ := hz
          obtain ⟨ao5, cap5, rfl⟩ := isRs_shape hy5
          have HE := hide (eqRules_same hy5 (isRs_below hy HB35.out))
          subst hE
          clear HP hb5 HY2 hy hy5
          go_wp2_with fail
          refine Calls.mono HE.out ?_
          rintro e w6 ⟨rfl, hb6⟩
          have HB6 := hide (HB5.out.trans (hb6.mono HB5.out.size))
          go_wp2_with fail
          go_ret
          exact ⟨rfl, HB6.out⟩
  · go_wp2_with fail
    go_ret
    exact ⟨rfl, HB4.out⟩
end Go.Proofs.YtcfhpodpkficaaaGreatDoor.Rp
namespace Go.Proofs.YtcfhpodpkficaaaGreatDoor.Rp
open Go.ChangeShapes Go.WideShapes Go.ChangeAt Go.RowKit Go.Joins

theorem nums_told {H : Type} {enc : TypeId × Value → H} {w : World} {fuel : Nat} {c : Value} {y : DataW H × List MemPlace} (h : DataW.trod enc Tryz.prog w 0 (fun _ => true) true fuel 45 [c] = some y) : Nums w c := by
  rcases open_ints Tryz.underlying45 Tryz.underlying3 (by kernel_rfl) h with ⟨hcs, _⟩ | ⟨x, len, cap, zs, hcs, _, h1, h2, h3, _, h4, h5⟩
  · simp at hcs
    subst hcs
    exact ⟨none, 0, 0, rfl, fun h => by omega⟩
  · simp at hcs
    subst hcs
    have h3' : zs.length = cap := by simpa using h3
    refine ⟨some x, len, cap, rfl, fun hp => ?_⟩
    obtain ⟨b, off, rfl, hc⟩ := ints_at h4 (by omega)
    exact ⟨b, off, rfl, fun i hi => ⟨_, hc i (by omega)⟩⟩
end Go.Proofs.YtcfhpodpkficaaaGreatDoor.Rp

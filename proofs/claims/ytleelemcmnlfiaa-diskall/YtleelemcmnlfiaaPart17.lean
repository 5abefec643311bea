/- The walk of the law DiskAll. -/
import Derived.Test.YtleelemcmnlfiaaPart16
import Derived.Deep.CutRange
import Derived.StillTailTactics
namespace Go.Proofs.Ytleelemcmnlfiaa
open Go.RowKit

/-- The Ops that came in. -/
structure Op6 where
  kd : Int
  n : Int
  tn : Int
  nm : ByteArray
  t : ByteArray
  dv : Value
  b : List UInt8
def OpRow (w : World) (ao : Option Addr) (len : Nat) (f : Nat → Op6) : Prop := 0 < len → ∃ bk off, ao = some ⟨bk, off, none⟩ ∧ ∀ j, j < len →
  w.cell? ⟨bk, off + j * 6, none⟩ = some (.int .i64 (f j).kd) ∧ w.cell? ⟨bk, off + j * 6 + 1, none⟩ = some (.int .i64 (f j).n) ∧ w.cell? ⟨bk, off + j * 6 + 2, none⟩ = some (.int .i64 (f j).tn) ∧ w.cell? ⟨bk, off + j * 6 + 3, none⟩ = some (.string (f j).nm) ∧ w.cell? ⟨bk, off + j * 6 + 4, none⟩ = some (.string (f j).t) ∧ w.cell? ⟨bk, off + j * 6 + 5, none⟩ = some (f j).dv ∧
  Sl w (f j).dv (f j).b ∧ (f j).nm.size ≤ maxLen ∧ (f j).t.size ≤ maxLen

/-- What Cut and Short hand back. -/
def cutV (a : ByteArray) : ByteArray := if 20 < a.size then a.extract 0 20 else a
theorem cutV_size (a : ByteArray) : (cutV a).size ≤ 20 := by
  unfold cutV
  split
  · simp; omega
  · omega
theorem cutE_any (a : ByteArray) (w : World) (ha : a.size ≤ maxLen) :
    Calls Try.prog 11 #[.string a, .int .i64 20] w fun e w' => e = .returned (.string (cutV a)) ∧ w' = w := by
  unfold maxLen at ha
  by_cases h : 20 < a.size
  · have h' : (20 : Int) < (a.size : Int) := by omega
    rw [cutV, if_pos h]
    go_enter Try.func11, Try.ntmps11
    go_wp2
    go_ret
    exact ⟨rfl, rfl⟩
  · have h' : ¬ (20 : Int) < (a.size : Int) := by omega
    rw [cutV, if_neg h]
    go_enter Try.func11, Try.ntmps11
    go_wp2
    go_ret
    exact ⟨rfl, rfl⟩
theorem shortE_any (ao : Option Addr) (cap : Nat) (bs : List UInt8) (w : World) (h : Sl w (.slice ao bs.length cap) bs) : ∃ L b, Hid (Sl w (.slice ao L cap) b ∧ b.length ≤ 200) ∧
    ∀ W, Calls Try.prog 12 #[.slice ao bs.length cap, .int .i64 200] W fun e w' => e = .returned (.slice ao L cap) ∧ w' = W := by
  obtain ⟨ao', cap', e, h1, h2⟩ := h.shape
  simp only [Value.slice.injEq] at e
  obtain ⟨rfl, _, rfl⟩ := e
  have h2' : cap ≤ 9223372036854775807 := h2
  by_cases hl : 200 < bs.length
  · have hl' : (200 : Int) < (bs.length : Int) := by omega
    have hc : (200 : Int) ≤ (cap : Int) := by omega
    refine ⟨200, bs.take 200, ⟨h.take 200 (by omega), by rw [List.length_take]; omega⟩, fun W => ?_⟩
    clear h
    go_enter Try.func12, Try.ntmps12
    go_wp2
    all_goals go_ret
    all_goals exact ⟨rfl, rfl⟩
  · have hl' : ¬ (200 : Int) < (bs.length : Int) := by omega
    refine ⟨bs.length, bs, ⟨h, by omega⟩, fun W => ?_⟩
    clear h
    go_enter Try.func12, Try.ntmps12
    go_wp2
    go_ret
    exact ⟨rfl, rfl⟩

end Go.Proofs.Ytleelemcmnlfiaa
namespace Go.Proofs.Ytleelemcmnlfiaa
open Go.RowKit

set_option maxHeartbeats 4000000 in
set_option maxRecDepth 20000 in
theorem diskAll_b (room : Int) (hbig : (1000 : Int) < room) (ao : Option Addr) (len cap : Nat) (f : Nat → Op6) (w : World) (hrow : OpRow w ao len f) (hlen : len ≤ maxLen) :
    Calls Try.prog 3 #[.int .i64 room, .slice ao len cap] w fun e w' => e = .returned (.bool true) ∧ Below w.heap.size w w' := by
  unfold maxLen at hlen
  have HR : Hid (OpRow w ao len f) := hrow
  have HB : Hid (_) := begun_any w
  clear hrow
  obtain ⟨rm, hrm⟩ : ∃ rm, rm = if (1000 : Int) < room then 1000 else room := ⟨_, rfl⟩
  have HN : Hid (∀ u, Below w.heap.size w u → Calls Try.prog 9 #[.int .i64 rm] u fun e w1 => ∃ p, e = .returned (.pointer (some ⟨p, 0, none⟩)) ∧ Hid (Below w.heap.size w w1) ∧ Hid (∀ u2, Below w1.heap.size w1 u2 → LR w (u2.alloc (.cells #[.slice none 0 0, .slice none 0 0, .slice none 0 0, .int .i64 (roomN rm)] 31)) p u2.heap.size ⟨roomN rm, [], []⟩ ⟨roomN rm, [], []⟩)) := by
    intro u hb
    refine (new_any rm u).mono ?_
    rintro e w1 ⟨rfl, hD, hb1⟩
    refine ⟨u.heap.size, rfl, hb.trans (hb1.mono hb.size), fun u2 hb2 => ?_⟩
    have hba := bel_box u2 (.cells #[.slice none 0 0, .slice none 0 0, .slice none 0 0, .int .i64 (roomN rm)] 31)
    have h1u := hb1.size
    have h2u := hb2.size
    have h0u := hb.size
    have hno : ∀ k : Nat, (fun _ : Nat => False) k → k < (u2.alloc (.cells #[.slice none 0 0, .slice none 0 0, .slice none 0 0, .int .i64 (roomN rm)] 31)).heap.size := fun _ h => h.elim
    refine ⟨ext (fun _ => False) u w1, fun _ => False, (hD.below hb2).below hba, ⟨_, _, _, [], [], [], heap_alloc_new _ _, RF.nil _ _ hno, RF.nil _ _ hno, RW.nil _ _, id, rfl, rfl, rfl⟩, fun _ _ => id, fun hk => ?_, fun k hk => ?_, by omega, (hb.trans (hb1.mono h0u)).trans ((hb2.trans (hba.mono h2u)).mono (by omega))⟩
    · rcases hk with hk | hk
      · exact hk.elim
      · omega
    · rcases hk with hk | hk
      · exact hk.elim
      · omega
  have HRm : Hid (∀ u, Calls Try.prog 10 #[.int .i64 rm] u fun e w' => e = .returned (.int .i64 (roomN rm)) ∧ w' = u) := fun u => rroom_any rm u
  rw [if_pos hbig] at hrm
  subst hrm
  go_enter Try.func3, Try.ntmps3
  go_wp2_with (first
    | (go_at_call 8; refine Calls.mono HB.out ?_; rintro e w1 ⟨rfl, hb1⟩)
    | (go_at_call 9; refine (HN.out _ hb1).mono ?_; rintro e w2 ⟨p, rfl, hb2, HL2⟩)
    | (go_at_call 10; refine (HRm.out _).mono ?_; rintro e w' ⟨rfl, hw⟩; have hw' := hw.symm; subst hw'))
  have H3 : Hid (_) := HL2.out w2 (Below.refl _ _)
  clear HL2 HN HRm HB
  go_loopw [6, 7, 8] (fun vd vr vi wr => ∃ (k p q : Nat) (s : St), k ≤ len ∧ k ≤ 40 ∧ vi = .int .i64 k ∧ vd = .pointer (some ⟨p, 0, none⟩) ∧ vr = .pointer (some ⟨q, 0, none⟩) ∧ Hid (LR w wr p q s s ∧ s.mass ≤ 202 * k)) (fun _ _ vi _ => 40 - (intOf vi).toNat)
  case atStart => exact ⟨0, p, w2.heap.size, _, Nat.zero_le _, Nat.zero_le _, rfl, rfl, rfl, H3.out, by simp [St.mass, mass, wmass]⟩
  case round =>
    clear H3 hb1 hb2 hbig
    obtain ⟨k, p, q, s, hkl, hk40, rfl, rfl, rfl, HK⟩ := hrel
    have hbw := HK.out.1.bel
    by_cases hlt : k < len ∧ k < 40
    · obtain ⟨hlt, hlt2⟩ := hlt
      have hlt' : (k : Int) < (len : Int) := by omega
      have hlt2' : (k : Int) < 40 := by omega
      obtain ⟨bk, off, rfl, hcs⟩ := HR.out (by omega)
      obtain ⟨g0, g1, g2, g3, g4, g5, gS, gn, gt⟩ := hcs k hlt
      replace g0 := below_cell hbw g0
      replace g1 := below_cell hbw g1
      replace g2 := below_cell hbw g2
      replace g3 := below_cell hbw g3
      replace g4 := below_cell hbw g4
      replace g5 := below_cell hbw g5
      have gS' := gS.below hbw
      obtain ⟨aob, capb, hdv, _, _⟩ := gS.shape
      rw [hdv] at g5 gS'
      generalize (f k).kd = kd at *
      generalize (f k).n = n at *
      generalize (f k).tn = tn at *
      generalize (f k).nm = nm at *
      generalize (f k).t = t at *
      generalize (f k).b = b at *
      obtain ⟨L1, b1, HS1, HC3⟩ := shortE_any aob capb b w (by rw [← hdv]; exact gS)
      have hz1 := cutV_size nm
      have hz2 := cutV_size t
      have HC : Hid (∀ (x : ByteArray) (u : World), x.size ≤ maxLen → Calls Try.prog 11 #[.string x, .int .i64 20] u fun e w' => e = .returned (.string (cutV x)) ∧ w' = u) := fun x u hx => cutE_any x u hx
      have HC3' : Hid _ := HC3
      have HN : Hid (nm.size ≤ maxLen ∧ t.size ≤ maxLen) := ⟨gn, gt⟩
      have HBx : Hid (LO w (wr.alloc (.cells #[.int .i64 kd, .int .i64 n, .int .i64 tn, .string (cutV nm), .string (cutV t), .slice aob L1 capb] 34)) p q s s wr.heap.size (.cells #[.int .i64 kd, .int .i64 n, .int .i64 tn, .string (cutV nm), .string (cutV t), .slice aob L1 capb] 34 (0, 0))) := HK.out.1.box _
      have HMs : Hid (s.mass ≤ 202 * k) := HK.out.2
      clear hcs gS gS' gn gt hdv hbw HC3 HK
      go_upto_region 12 with fail
      clear HR g0 g1 g2 g3 g4 g5
      go_cut [] from 44 to 55 (fun wc => wc = (wr.alloc (.cells #[.int .i64 kd, .int .i64 n, .int .i64 tn, .string (cutV nm), .string (cutV t), .slice aob L1 capb] 34)).drew)
      case first =>
        clear HBx HMs HS1 hz1 hz2
        have HC1 := fun u => HC.out nm u HN.out.1
        have HC2 := fun u => HC.out t u HN.out.2
        have HC4 := HC3'.out
        refine wp_region_still_tail 10 (by kernel_rfl) (by kernel_rfl) ?_
        change wpStill Try.prog _ (World.drew (wr.alloc (.cells #[.int .i64 kd, .int .i64 n, .int .i64 tn, .string nm, .string t, .slice aob b.length capb] 34))) (fun a' => wpList Try.prog _ _ _ a' (World.drew (wr.alloc (.cells #[.int .i64 kd, .int .i64 n, .int .i64 tn, .string nm, .string t, .slice aob b.length capb] 34)))) _ _
        simp only [List.take_succ_cons, List.take_zero, List.drop_succ_cons, List.drop_zero]
        repeat still_step
        still_call (HC1 _)
        repeat still_step
        still_call (HC2 _)
        repeat still_step
        still_call (HC4 _)
        repeat still_step
        refine wpStill_nil ?_
        go_wp2_with fail
        go_meet
        rfl
      case rest =>
        have HU : Hid (LK w wc p q s s wr.heap.size kd n tn (cutV nm) (cutV t) (.slice aob L1 capb)) := by
          rw [hcut]
          exact LO.below HBx.out ⟨rfl, rfl, rfl, Nat.le_refl _, fun _ _ => rfl⟩
        clear hcut HBx HC HC3' HN
        generalize wr.heap.size = ob at *
        generalize cutV nm = nm1 at *
        generalize cutV t = t1 at *
        have HGd : Hid (s.good) := LK.good HU.out
        have HMm : Hid (s.mass + b1.length + 2 ≤ 50000000) := by
          have h2 := HS1.out.2
          have h3 := HMs.out
          show _ ≤ _
          omega
        obtain ⟨o0, o1, o2, o3, o4, o5⟩ := LK.cells HU.out
        have hk6 : kd = 0 ∨ kd = 1 ∨ kd = 2 ∨ kd = 3 ∨ kd = 4 ∨ kd = 5 ∨ (kd < 0 ∨ 5 < kd) := by omega
        rcases hk6 with hkd | hkd | hkd | hkd | hkd | hkd | hkd
        · subst hkd
          have HA : Hid (Calls Try.prog 13 #[.pointer (some ⟨p, 0, none⟩), .string nm1, .slice aob L1 capb] wc fun e w' => e = .returned (.int .i64 (verdict s 0 nm1 t1 n b1).1) ∧ Oc w' ob 0 n tn nm1 t1 (.slice aob L1 capb) ∧ Hid (LK w w' p q (s.after (verdict s 0 nm1 t1 n b1).2) s ob 0 n tn nm1 t1 (.slice aob L1 capb))) := LK.app HU.out HS1.out.1 HMm.out
          have HR : Hid (∀ W, Hid (LK w W p q (s.after (verdict s 0 nm1 t1 n b1).2) s ob 0 n tn nm1 t1 (.slice aob L1 capb)) → Calls Try.prog 23 #[.pointer (some ⟨q, 0, none⟩), .agg #[.int .i64 0, .string nm1, .string t1, .int .i64 n, .slice aob L1 capb]] W fun e w' => e = .returned (.int .i64 (verdict s 0 nm1 t1 n b1).1) ∧ Oc w' ob 0 n tn nm1 t1 (.slice aob L1 capb) ∧ Hid (LK w w' p q (s.after (verdict s 0 nm1 t1 n b1).2) (s.after (verdict s 0 nm1 t1 n b1).2) ob 0 n tn nm1 t1 (.slice aob L1 capb))) := fun W hW => LK.rdo 0 hW.out HGd.out HS1.out.1 hz1 hz2 HMm.out (by omega)
          have HMs' : Hid ((s.after (verdict s 0 nm1 t1 n b1).2).mass ≤ 202 * (k + 1)) := by
            have h1 := after_mass s 0 nm1 t1 n b1
            have h2 := HS1.out.2
            have h3 := HMs.out
            show _ ≤ _
            omega
          generalize (verdict s 0 nm1 t1 n b1).1 = ve at HA HR
          generalize s.after (verdict s 0 nm1 t1 n b1).2 = s' at HA HR HMs'
          clear HU
          go_wp2_with fail
          refine Calls.mono HA.out ?_
          clear HA o0 o1 o2 o3 o4 o5
          rintro e w2 ⟨rfl, ⟨o0, o1, o2, o3, o4, o5⟩, HL2⟩
          go_wp2_with fail
          refine Calls.mono (HR.out _ HL2) ?_
          clear HR HL2 o0 o1 o2 o3 o4 o5
          rintro e w3 ⟨rfl, ⟨o0, o1, o2, o3, o4, o5⟩, HL3⟩
          have HSm : Hid _ := LK.same HL3.out (by have := HMs'.out; omega)
          clear HL3
          go_wp2_with fail
          refine Calls.mono HSm.out ?_
          clear HSm o0 o1 o2 o3 o4 o5
          rintro e w4 ⟨rfl, ⟨o0, o1, o2, o3, o4, o5⟩, HL4⟩
          have HQ : Hid (LR w w4 p q s' s' ∧ s'.mass ≤ 202 * (k + 1)) := ⟨HL4.out.lr, HMs'.out⟩
          clear HL4
          go_wp2_with fail
          go_roundw
          case rel => exact ⟨k + 1, p, q, s', by omega, by omega, by go_num, rfl, rfl, HQ⟩
          case measure => simp [intOf]; omega
        · subst hkd
          have HA : Hid (Calls Try.prog 14 #[.pointer (some ⟨p, 0, none⟩), .string nm1, .int .i64 n] wc fun e w' => e = .returned (.int .i64 (verdict s 1 nm1 t1 n b1).1) ∧ Oc w' ob 1 n tn nm1 t1 (.slice aob L1 capb) ∧ Hid (LK w w' p q (s.after (verdict s 1 nm1 t1 n b1).2) s ob 1 n tn nm1 t1 (.slice aob L1 capb))) := LK.cut HU.out HMm.out
          have HR : Hid (∀ W, Hid (LK w W p q (s.after (verdict s 1 nm1 t1 n b1).2) s ob 1 n tn nm1 t1 (.slice aob L1 capb)) → Calls Try.prog 23 #[.pointer (some ⟨q, 0, none⟩), .agg #[.int .i64 1, .string nm1, .string t1, .int .i64 n, .slice aob L1 capb]] W fun e w' => e = .returned (.int .i64 (verdict s 1 nm1 t1 n b1).1) ∧ Oc w' ob 1 n tn nm1 t1 (.slice aob L1 capb) ∧ Hid (LK w w' p q (s.after (verdict s 1 nm1 t1 n b1).2) (s.after (verdict s 1 nm1 t1 n b1).2) ob 1 n tn nm1 t1 (.slice aob L1 capb))) := fun W hW => LK.rdo 1 hW.out HGd.out HS1.out.1 hz1 hz2 HMm.out (by omega)
          have HMs' : Hid ((s.after (verdict s 1 nm1 t1 n b1).2).mass ≤ 202 * (k + 1)) := by
            have h1 := after_mass s 1 nm1 t1 n b1
            have h2 := HS1.out.2
            have h3 := HMs.out
            show _ ≤ _
            omega
          generalize (verdict s 1 nm1 t1 n b1).1 = ve at HA HR
          generalize s.after (verdict s 1 nm1 t1 n b1).2 = s' at HA HR HMs'
          clear HU
          go_wp2_with fail
          refine Calls.mono HA.out ?_
          clear HA o0 o1 o2 o3 o4 o5
          rintro e w2 ⟨rfl, ⟨o0, o1, o2, o3, o4, o5⟩, HL2⟩
          go_wp2_with fail
          refine Calls.mono (HR.out _ HL2) ?_
          clear HR HL2 o0 o1 o2 o3 o4 o5
          rintro e w3 ⟨rfl, ⟨o0, o1, o2, o3, o4, o5⟩, HL3⟩
          have HSm : Hid _ := LK.same HL3.out (by have := HMs'.out; omega)
          clear HL3
          go_wp2_with fail
          refine Calls.mono HSm.out ?_
          clear HSm o0 o1 o2 o3 o4 o5
          rintro e w4 ⟨rfl, ⟨o0, o1, o2, o3, o4, o5⟩, HL4⟩
          have HQ : Hid (LR w w4 p q s' s' ∧ s'.mass ≤ 202 * (k + 1)) := ⟨HL4.out.lr, HMs'.out⟩
          clear HL4
          go_wp2_with fail
          go_roundw
          case rel => exact ⟨k + 1, p, q, s', by omega, by omega, by go_num, rfl, rfl, HQ⟩
          case measure => simp [intOf]; omega
        · subst hkd
          have HA : Hid (Calls Try.prog 15 #[.pointer (some ⟨p, 0, none⟩), .string nm1] wc fun e w' => e = .returned (.int .i64 (verdict s 2 nm1 t1 n b1).1) ∧ Oc w' ob 2 n tn nm1 t1 (.slice aob L1 capb) ∧ Hid (LK w w' p q (s.after (verdict s 2 nm1 t1 n b1).2) s ob 2 n tn nm1 t1 (.slice aob L1 capb))) := LK.rem HU.out HMm.out
          have HR : Hid (∀ W, Hid (LK w W p q (s.after (verdict s 2 nm1 t1 n b1).2) s ob 2 n tn nm1 t1 (.slice aob L1 capb)) → Calls Try.prog 23 #[.pointer (some ⟨q, 0, none⟩), .agg #[.int .i64 2, .string nm1, .string t1, .int .i64 n, .slice aob L1 capb]] W fun e w' => e = .returned (.int .i64 (verdict s 2 nm1 t1 n b1).1) ∧ Oc w' ob 2 n tn nm1 t1 (.slice aob L1 capb) ∧ Hid (LK w w' p q (s.after (verdict s 2 nm1 t1 n b1).2) (s.after (verdict s 2 nm1 t1 n b1).2) ob 2 n tn nm1 t1 (.slice aob L1 capb))) := fun W hW => LK.rdo 2 hW.out HGd.out HS1.out.1 hz1 hz2 HMm.out (by omega)
          have HMs' : Hid ((s.after (verdict s 2 nm1 t1 n b1).2).mass ≤ 202 * (k + 1)) := by
            have h1 := after_mass s 2 nm1 t1 n b1
            have h2 := HS1.out.2
            have h3 := HMs.out
            show _ ≤ _
            omega
          generalize (verdict s 2 nm1 t1 n b1).1 = ve at HA HR
          generalize s.after (verdict s 2 nm1 t1 n b1).2 = s' at HA HR HMs'
          clear HU
          go_wp2_with fail
          refine Calls.mono HA.out ?_
          clear HA o0 o1 o2 o3 o4 o5
          rintro e w2 ⟨rfl, ⟨o0, o1, o2, o3, o4, o5⟩, HL2⟩
          go_wp2_with fail
          refine Calls.mono (HR.out _ HL2) ?_
          clear HR HL2 o0 o1 o2 o3 o4 o5
          rintro e w3 ⟨rfl, ⟨o0, o1, o2, o3, o4, o5⟩, HL3⟩
          have HSm : Hid _ := LK.same HL3.out (by have := HMs'.out; omega)
          clear HL3
          go_wp2_with fail
          refine Calls.mono HSm.out ?_
          clear HSm o0 o1 o2 o3 o4 o5
          rintro e w4 ⟨rfl, ⟨o0, o1, o2, o3, o4, o5⟩, HL4⟩
          have HQ : Hid (LR w w4 p q s' s' ∧ s'.mass ≤ 202 * (k + 1)) := ⟨HL4.out.lr, HMs'.out⟩
          clear HL4
          go_wp2_with fail
          go_roundw
          case rel => exact ⟨k + 1, p, q, s', by omega, by omega, by go_num, rfl, rfl, HQ⟩
          case measure => simp [intOf]; omega
        · subst hkd
          have HA : Hid (Calls Try.prog 16 #[.pointer (some ⟨p, 0, none⟩), .string nm1, .string t1] wc fun e w' => e = .returned (.int .i64 (verdict s 3 nm1 t1 n b1).1) ∧ Oc w' ob 3 n tn nm1 t1 (.slice aob L1 capb) ∧ Hid (LK w w' p q (s.after (verdict s 3 nm1 t1 n b1).2) s ob 3 n tn nm1 t1 (.slice aob L1 capb))) := LK.mov HU.out HMm.out
          have HR : Hid (∀ W, Hid (LK w W p q (s.after (verdict s 3 nm1 t1 n b1).2) s ob 3 n tn nm1 t1 (.slice aob L1 capb)) → Calls Try.prog 23 #[.pointer (some ⟨q, 0, none⟩), .agg #[.int .i64 3, .string nm1, .string t1, .int .i64 n, .slice aob L1 capb]] W fun e w' => e = .returned (.int .i64 (verdict s 3 nm1 t1 n b1).1) ∧ Oc w' ob 3 n tn nm1 t1 (.slice aob L1 capb) ∧ Hid (LK w w' p q (s.after (verdict s 3 nm1 t1 n b1).2) (s.after (verdict s 3 nm1 t1 n b1).2) ob 3 n tn nm1 t1 (.slice aob L1 capb))) := fun W hW => LK.rdo 3 hW.out HGd.out HS1.out.1 hz1 hz2 HMm.out (by omega)
          have HMs' : Hid ((s.after (verdict s 3 nm1 t1 n b1).2).mass ≤ 202 * (k + 1)) := by
            have h1 := after_mass s 3 nm1 t1 n b1
            have h2 := HS1.out.2
            have h3 := HMs.out
            show _ ≤ _
            omega
          generalize (verdict s 3 nm1 t1 n b1).1 = ve at HA HR
          generalize s.after (verdict s 3 nm1 t1 n b1).2 = s' at HA HR HMs'
          clear HU
          go_wp2_with fail
          refine Calls.mono HA.out ?_
          clear HA o0 o1 o2 o3 o4 o5
          rintro e w2 ⟨rfl, ⟨o0, o1, o2, o3, o4, o5⟩, HL2⟩
          go_wp2_with fail
          refine Calls.mono (HR.out _ HL2) ?_
          clear HR HL2 o0 o1 o2 o3 o4 o5
          rintro e w3 ⟨rfl, ⟨o0, o1, o2, o3, o4, o5⟩, HL3⟩
          have HSm : Hid _ := LK.same HL3.out (by have := HMs'.out; omega)
          clear HL3
          go_wp2_with fail
          refine Calls.mono HSm.out ?_
          clear HSm o0 o1 o2 o3 o4 o5
          rintro e w4 ⟨rfl, ⟨o0, o1, o2, o3, o4, o5⟩, HL4⟩
          have HQ : Hid (LR w w4 p q s' s' ∧ s'.mass ≤ 202 * (k + 1)) := ⟨HL4.out.lr, HMs'.out⟩
          clear HL4
          go_wp2_with fail
          go_roundw
          case rel => exact ⟨k + 1, p, q, s', by omega, by omega, by go_num, rfl, rfl, HQ⟩
          case measure => simp [intOf]; omega
        · subst hkd
          have HA : Hid _ := LK.sync HU.out (by have := HMm.out; omega)
          have HR : Hid (∀ W, Hid (LK w W p q ⟨s.room, s.now, []⟩ s ob 4 n tn nm1 t1 (.slice aob L1 capb)) → Calls Try.prog 18 #[.pointer (some ⟨q, 0, none⟩)] W fun e w' => e = .returned (.tuple #[]) ∧ Oc w' ob 4 n tn nm1 t1 (.slice aob L1 capb) ∧ Hid (LK w w' p q ⟨s.room, s.now, []⟩ ⟨s.room, s.now, []⟩ ob 4 n tn nm1 t1 (.slice aob L1 capb))) := fun W hW => LK.rsync hW.out
          have HMs' : Hid ((⟨s.room, s.now, []⟩ : St).mass ≤ 202 * (k + 1)) := by
            have h1 := St.now_mass HGd.out
            have h3 := HMs.out
            show _ ≤ _
            simp only [St.mass, wmass, List.length_nil, List.map_nil, List.sum_nil] at h1 h3 ⊢
            omega
          generalize (⟨s.room, s.now, []⟩ : St) = s' at HA HR HMs'
          clear HU
          go_wp2_with fail
          refine Calls.mono HA.out ?_
          clear HA o0 o1 o2 o3 o4 o5
          rintro e w2 ⟨rfl, ⟨o0, o1, o2, o3, o4, o5⟩, HL2⟩
          go_wp2_with fail
          refine Calls.mono (HR.out _ HL2) ?_
          clear HR HL2 o0 o1 o2 o3 o4 o5
          rintro e w3 ⟨rfl, ⟨o0, o1, o2, o3, o4, o5⟩, HL3⟩
          have HSm : Hid _ := LK.same HL3.out (by have := HMs'.out; omega)
          clear HL3
          go_wp2_with fail
          refine Calls.mono HSm.out ?_
          clear HSm o0 o1 o2 o3 o4 o5
          rintro e w4 ⟨rfl, ⟨o0, o1, o2, o3, o4, o5⟩, HL4⟩
          have HQ : Hid (LR w w4 p q s' s' ∧ s'.mass ≤ 202 * (k + 1)) := ⟨HL4.out.lr, HMs'.out⟩
          clear HL4
          go_wp2_with fail
          go_roundw
          case rel => exact ⟨k + 1, p, q, s', by omega, by omega, by go_num, rfl, rfl, HQ⟩
          case measure => simp [intOf]; omega
        · subst hkd
          have HA : Hid _ := LK.droom HU.out n
          have HRm : Hid (∀ u, Calls Try.prog 10 #[.int .i64 n] u fun e w' => e = .returned (.int .i64 (roomN n)) ∧ w' = u) := fun u => rroom_any n u
          have HMs' : Hid ((⟨roomN n, s.last, s.wait⟩ : St).mass ≤ 202 * (k + 1)) := by
            have h3 := HMs.out
            show _ ≤ _
            simp only [St.mass] at h3 ⊢
            omega
          clear HU
          go_wp2_with fail
          refine Calls.mono HA.out ?_
          clear HA o0 o1 o2 o3 o4 o5
          rintro e w2 ⟨rfl, ⟨o0, o1, o2, o3, o4, o5⟩, HL2⟩
          obtain ⟨⟨x, hx⟩, hfz, HX⟩ := LO.room HL2.out (roomN n)
          have HL3 : Hid (LK w (w2.setCell ⟨q, 3, none⟩ (.int .i64 (roomN n))) p q ⟨roomN n, s.last, s.wait⟩ ⟨roomN n, s.last, s.wait⟩ ob 5 n tn nm1 t1 (.slice aob L1 capb)) := HX
          have HSm : Hid _ := LK.same HL3.out (by have := HMs'.out; omega)
          clear HX HL2 HL3
          go_wp2_with (go_at_call 10; refine (HRm.out _).mono ?_; rintro e w' ⟨rfl, hw⟩; have hw' := hw.symm; subst hw'; clear hw)
          refine Calls.mono HSm.out ?_
          clear HSm o0 o1 o2 o3 o4 o5
          rintro e w4 ⟨rfl, ⟨o0, o1, o2, o3, o4, o5⟩, HL4⟩
          have HQ : Hid (LR w w4 p q ⟨roomN n, s.last, s.wait⟩ ⟨roomN n, s.last, s.wait⟩ ∧ (⟨roomN n, s.last, s.wait⟩ : St).mass ≤ 202 * (k + 1)) := ⟨HL4.out.lr, HMs'.out⟩
          clear HL4
          go_wp2_with fail
          go_roundw
          case rel => exact ⟨k + 1, p, q, ⟨roomN n, s.last, s.wait⟩, by omega, by omega, by go_num, rfl, rfl, HQ⟩
          case measure => simp [intOf]; omega
        · have hne0 : (kd == 0) = false := by rw [beq_eq_false_iff_ne]; omega
          have hne1 : (kd == 1) = false := by rw [beq_eq_false_iff_ne]; omega
          have hne2 : (kd == 2) = false := by rw [beq_eq_false_iff_ne]; omega
          have hne3 : (kd == 3) = false := by rw [beq_eq_false_iff_ne]; omega
          have hne4 : (kd == 4) = false := by rw [beq_eq_false_iff_ne]; omega
          have hne5 : (kd == 5) = false := by rw [beq_eq_false_iff_ne]; omega
          have HUd : LK w wc.drew p q s s ob kd n tn nm1 t1 (.slice aob L1 capb) := LK.below HU.out ⟨rfl, rfl, rfl, Nat.le_refl _, fun _ _ => rfl⟩
          have HCr : Hid (Calls Try.prog 20 #[.pointer (some ⟨p, 0, none⟩), .int .i64 n, .int .i64 tn] wc.drew fun e w1 => ∃ p', e = .returned (.pointer (some ⟨p', 0, none⟩)) ∧ Oc w1 ob kd n tn nm1 t1 (.slice aob L1 capb) ∧ Hid (Calls Try.prog 21 #[.pointer (some ⟨q, 0, none⟩), .int .i64 n, .int .i64 tn] w1 fun e w2 => ∃ q', e = .returned (.pointer (some ⟨q', 0, none⟩)) ∧ Oc w2 ob kd n tn nm1 t1 (.slice aob L1 capb) ∧ Hid (LK w w2 p q s s ob kd n tn nm1 t1 (.slice aob L1 capb) ∧ LR w w2 p' q' ⟨s.room, leftOf s n tn, []⟩ ⟨s.room, leftOf s n tn, []⟩))) := by
            refine (LR.crash HUd.lr n tn (by have := HMm.out; omega)).mono ?_
            rintro e w1 ⟨p', rfl, hb1, HX⟩
            refine ⟨p', rfl, (HUd.below hb1.out).cells, ?_⟩
            refine Calls.mono (HX.out w1 (Below.refl _ _)) ?_
            rintro e w2 ⟨q', rfl, hb2, HY⟩
            exact ⟨q', rfl, (HUd.below hb2.out).cells, HUd.below hb2.out, HY.out.2⟩
          have HMl : Hid ((⟨s.room, leftOf s n tn, []⟩ : St).mass ≤ 202 * (k + 1)) := by
            have h1 := left_mass HGd.out n tn
            have h3 := HMs.out
            show _ ≤ _
            simp only [St.mass, wmass, List.length_nil, List.map_nil, List.sum_nil] at h1 h3 ⊢
            omega
          have HMs' : Hid (s.mass ≤ 202 * (k + 1)) := by
            have h3 := HMs.out
            show _ ≤ _
            omega
          generalize (⟨s.room, leftOf s n tn, []⟩ : St) = s2 at HCr HMl
          clear HU HUd
          go_upto_region 15 with fail
          go_cut [12, 13] from 58 to 69 (fun c1 c2 wd => ∃ p' q', c1 = .pointer (some ⟨p', 0, none⟩) ∧ c2 = .pointer (some ⟨q', 0, none⟩) ∧ Hid (LK w wd p q s s ob kd n tn nm1 t1 (.slice aob L1 capb) ∧ LR w wd p' q' s2 s2))
          case first =>
            go_region_held (fun w' => w'.cell? ⟨ob, 1, none⟩ = some (.int .i64 n) ∧ w'.cell? ⟨ob, 2, none⟩ = some (.int .i64 tn))
              (first | exact ⟨o1, o2⟩)
              (first
                | (go_at_call 20; refine Calls.mono HCr.out ?_; rintro e w1 ⟨p', rfl, ⟨o0, o1, o2, o3, o4, o5⟩, HX⟩)
                | (go_at_call 21; refine Calls.mono HX.out ?_; rintro e w2 ⟨q', rfl, ⟨o0, o1, o2, o3, o4, o5⟩, HY⟩))
            all_goals go_wp2_with fail
            all_goals go_meet
            all_goals exact ⟨_, _, rfl, rfl, HY⟩
          case rest =>
            clear HCr o0 o1 o2 o3 o4 o5
            obtain ⟨p', q', rfl, rfl, HY⟩ := hcut
            have HSa : Hid (∀ W, Hid (LK w W p q s s ob kd n tn nm1 t1 (.slice aob L1 capb) ∧ LR w W p' q' s2 s2) → Calls Try.prog 22 #[.pointer (some ⟨p', 0, none⟩), .pointer (some ⟨q', 0, none⟩)] W fun e w' => e = .returned (.bool true) ∧ Oc w' ob kd n tn nm1 t1 (.slice aob L1 capb) ∧ Hid (LK w w' p q s s ob kd n tn nm1 t1 (.slice aob L1 capb) ∧ LR w w' p' q' s2 s2)) := fun W hW => (LR.same hW.out.2 (by have := HMl.out; omega)).mono fun _ _ ⟨he, hb⟩ => ⟨he, (LK.below hW.out.1 hb.out).cells, LK.below hW.out.1 hb.out, LR.below hW.out.2 hb.out⟩
            have HSb : Hid (∀ W, Hid (LK w W p q s s ob kd n tn nm1 t1 (.slice aob L1 capb) ∧ LR w W p' q' s2 s2) → Calls Try.prog 22 #[.pointer (some ⟨p, 0, none⟩), .pointer (some ⟨q, 0, none⟩)] W fun e w' => e = .returned (.bool true) ∧ Oc w' ob kd n tn nm1 t1 (.slice aob L1 capb) ∧ Hid (LK w w' p q s s ob kd n tn nm1 t1 (.slice aob L1 capb) ∧ LR w w' p' q' s2 s2)) := fun W hW => (LR.same hW.out.1.lr (by have := HMs'.out; omega)).mono fun _ _ ⟨he, hb⟩ => ⟨he, (LK.below hW.out.1 hb.out).cells, LK.below hW.out.1 hb.out, LR.below hW.out.2 hb.out⟩
            go_wp2_with fail
            refine Calls.mono (HSa.out _ HY) ?_
            clear HY
            rintro e w5 ⟨rfl, ⟨o0, o1, o2, o3, o4, o5⟩, HY⟩
            go_wp2_with fail
            refine Calls.mono (HSb.out _ HY) ?_
            clear HY o0 o1 o2 o3 o4 o5
            rintro e w6 ⟨rfl, ⟨o0, o1, o2, o3, o4, o5⟩, HY⟩
            by_cases heven : n.tmod 2 = 0
            · have hev : (n.tmod 2 == 0) = true := by simpa using heven
              rcases hkd with hkd | hkd
              · have hg1 : ¬ 0 ≤ kd := by omega
                go_wp2_with fail
                refine Calls.mono (HSa.out _ HY) ?_
                clear HY o0 o1 o2 o3 o4 o5
                rintro e w7 ⟨rfl, ⟨o0, o1, o2, o3, o4, o5⟩, HY⟩
                have HQ : Hid (LR w w7 p' q' s2 s2 ∧ s2.mass ≤ 202 * (k + 1)) := ⟨HY.out.2, HMl.out⟩
                clear HY
                go_wp2_with fail
                go_roundw
                case rel => exact ⟨k + 1, p', q', s2, by omega, by omega, by go_num, rfl, rfl, HQ⟩
                case measure => simp [intOf]; omega
              · have hg1 : 0 ≤ kd := by omega
                have hg2 : ¬ kd ≤ 3 := by omega
                go_wp2_with fail
                refine Calls.mono (HSa.out _ HY) ?_
                clear HY o0 o1 o2 o3 o4 o5
                rintro e w7 ⟨rfl, ⟨o0, o1, o2, o3, o4, o5⟩, HY⟩
                have HQ : Hid (LR w w7 p' q' s2 s2 ∧ s2.mass ≤ 202 * (k + 1)) := ⟨HY.out.2, HMl.out⟩
                clear HY
                go_wp2_with fail
                go_roundw
                case rel => exact ⟨k + 1, p', q', s2, by omega, by omega, by go_num, rfl, rfl, HQ⟩
                case measure => simp [intOf]; omega
            · have hev : (n.tmod 2 == 0) = false := by simpa using heven
              rcases hkd with hkd | hkd
              · have hg1 : ¬ 0 ≤ kd := by omega
                go_wp2_with fail
                refine Calls.mono (HSb.out _ HY) ?_
                clear HY o0 o1 o2 o3 o4 o5
                rintro e w7 ⟨rfl, ⟨o0, o1, o2, o3, o4, o5⟩, HY⟩
                have HQ : Hid (LR w w7 p q s s ∧ s.mass ≤ 202 * (k + 1)) := ⟨HY.out.1.lr, HMs'.out⟩
                clear HY
                go_wp2_with fail
                go_roundw
                case rel => exact ⟨k + 1, p, q, s, by omega, by omega, by go_num, rfl, rfl, HQ⟩
                case measure => simp [intOf]; omega
              · have hg1 : 0 ≤ kd := by omega
                have hg2 : ¬ kd ≤ 3 := by omega
                go_wp2_with fail
                refine Calls.mono (HSb.out _ HY) ?_
                clear HY o0 o1 o2 o3 o4 o5
                rintro e w7 ⟨rfl, ⟨o0, o1, o2, o3, o4, o5⟩, HY⟩
                have HQ : Hid (LR w w7 p q s s ∧ s.mass ≤ 202 * (k + 1)) := ⟨HY.out.1.lr, HMs'.out⟩
                clear HY
                go_wp2_with fail
                go_roundw
                case rel => exact ⟨k + 1, p, q, s, by omega, by omega, by go_num, rfl, rfl, HQ⟩
                case measure => simp [intOf]; omega
    · have hex : (¬ (k : Int) < (len : Int)) ∨ ((k : Int) < (len : Int) ∧ ¬ (k : Int) < 40) := by omega
      obtain ⟨hLR, hms⟩ := HK.out
      have hgd := hLR.good
      obtain ⟨F, R, d1, d2, _, _, _, _, d7⟩ := hLR
      have hnm := St.now_mass hgd
      have hmm : mass s.last + wmass s.wait ≤ s.mass := by simp only [St.mass]; omega
      have hsrt : Srt s.now := run_srt s.wait s.last hgd.srt
      have HRr : Hid (∀ W, Below wr.heap.size wr W → Calls Try.prog 25 #[.pointer (some ⟨q, 0, none⟩), .string ⟨#[110, 111, 110, 101]⟩] W fun e w' => ∃ ao L cap, e = .returned (.tuple #[.slice ao L cap, .bool (look ⟨#[110, 111, 110, 101]⟩ s.now).isSome]) ∧ w' = W) := fun W hb => rread_any q s R _ W (d2.below hb) hsrt (by omega)
      cases hl : look ⟨#[110, 111, 110, 101]⟩ s.now with
      | none =>
        have HRd : Hid _ := read_miss p s F _ wr d1 hl (by omega)
        rw [hl] at HRr
        simp only [Option.isSome_none] at HRr
        clear HK d1 d2 hgd hnm hmm hsrt hms hl HR
        rcases hex with hx | ⟨hx, hx'⟩
        · go_wp2_with fail
          refine Calls.mono HRd.out ?_
          rintro e w5 ⟨rfl, hb5⟩
          have HR5 : Hid _ := HRr.out w5 hb5
          clear HRr HRd
          go_wp2_with fail
          refine Calls.mono HR5.out ?_
          rintro e w' ⟨aor, Lr, capr, rfl, hw⟩
          have hw' := hw.symm
          subst hw'
          clear hw
          go_wp2
          go_ret
          exact ⟨rfl, d7.trans (hb5.mono d7.size)⟩
        · go_wp2_with fail
          refine Calls.mono HRd.out ?_
          rintro e w5 ⟨rfl, hb5⟩
          have HR5 : Hid _ := HRr.out w5 hb5
          clear HRr HRd
          go_wp2_with fail
          refine Calls.mono HR5.out ?_
          rintro e w' ⟨aor, Lr, capr, rfl, hw⟩
          have hw' := hw.symm
          subst hw'
          clear hw
          go_wp2
          go_ret
          exact ⟨rfl, d7.trans (hb5.mono d7.size)⟩
      | some fl =>
        have HRd : Hid _ := read_hit p s F _ fl wr d1 hl (by omega)
        rw [hl] at HRr
        simp only [Option.isSome_some] at HRr
        clear HK d1 d2 hgd hnm hmm hsrt hms hl HR
        rcases hex with hx | ⟨hx, hx'⟩
        · go_wp2_with fail
          refine Calls.mono HRd.out ?_
          rintro e w5 ⟨v', rfl, _, hb5⟩
          have HR5 : Hid _ := HRr.out w5 hb5
          clear HRr HRd
          go_wp2_with fail
          refine Calls.mono HR5.out ?_
          rintro e w' ⟨aor, Lr, capr, rfl, hw⟩
          have hw' := hw.symm
          subst hw'
          clear hw
          go_wp2
          go_ret
          exact ⟨rfl, d7.trans (hb5.mono d7.size)⟩
        · go_wp2_with fail
          refine Calls.mono HRd.out ?_
          rintro e w5 ⟨v', rfl, _, hb5⟩
          have HR5 : Hid _ := HRr.out w5 hb5
          clear HRr HRd
          go_wp2_with fail
          refine Calls.mono HR5.out ?_
          rintro e w' ⟨aor, Lr, capr, rfl, hw⟩
          have hw' := hw.symm
          subst hw'
          clear hw
          go_wp2
          go_ret
          exact ⟨rfl, d7.trans (hb5.mono d7.size)⟩
end Go.Proofs.Ytleelemcmnlfiaa
namespace Go.Proofs.Ytleelemcmnlfiaa
open Go.RowKit

set_option maxHeartbeats 4000000 in
set_option maxRecDepth 20000 in
theorem diskAll_s (room : Int) (hbig : ¬ (1000 : Int) < room) (ao : Option Addr) (len cap : Nat) (f : Nat → Op6) (w : World) (hrow : OpRow w ao len f) (hlen : len ≤ maxLen) :
    Calls Try.prog 3 #[.int .i64 room, .slice ao len cap] w fun e w' => e = .returned (.bool true) ∧ Below w.heap.size w w' := by
  unfold maxLen at hlen
  have HR : Hid (OpRow w ao len f) := hrow
  have HB : Hid (_) := begun_any w
  clear hrow
  obtain ⟨rm, hrm⟩ : ∃ rm, rm = if (1000 : Int) < room then 1000 else room := ⟨_, rfl⟩
  have HN : Hid (∀ u, Below w.heap.size w u → Calls Try.prog 9 #[.int .i64 rm] u fun e w1 => ∃ p, e = .returned (.pointer (some ⟨p, 0, none⟩)) ∧ Hid (Below w.heap.size w w1) ∧ Hid (∀ u2, Below w1.heap.size w1 u2 → LR w (u2.alloc (.cells #[.slice none 0 0, .slice none 0 0, .slice none 0 0, .int .i64 (roomN rm)] 31)) p u2.heap.size ⟨roomN rm, [], []⟩ ⟨roomN rm, [], []⟩)) := by
    intro u hb
    refine (new_any rm u).mono ?_
    rintro e w1 ⟨rfl, hD, hb1⟩
    refine ⟨u.heap.size, rfl, hb.trans (hb1.mono hb.size), fun u2 hb2 => ?_⟩
    have hba := bel_box u2 (.cells #[.slice none 0 0, .slice none 0 0, .slice none 0 0, .int .i64 (roomN rm)] 31)
    have h1u := hb1.size
    have h2u := hb2.size
    have h0u := hb.size
    have hno : ∀ k : Nat, (fun _ : Nat => False) k → k < (u2.alloc (.cells #[.slice none 0 0, .slice none 0 0, .slice none 0 0, .int .i64 (roomN rm)] 31)).heap.size := fun _ h => h.elim
    refine ⟨ext (fun _ => False) u w1, fun _ => False, (hD.below hb2).below hba, ⟨_, _, _, [], [], [], heap_alloc_new _ _, RF.nil _ _ hno, RF.nil _ _ hno, RW.nil _ _, id, rfl, rfl, rfl⟩, fun _ _ => id, fun hk => ?_, fun k hk => ?_, by omega, (hb.trans (hb1.mono h0u)).trans ((hb2.trans (hba.mono h2u)).mono (by omega))⟩
    · rcases hk with hk | hk
      · exact hk.elim
      · omega
    · rcases hk with hk | hk
      · exact hk.elim
      · omega
  have HRm : Hid (∀ u, Calls Try.prog 10 #[.int .i64 rm] u fun e w' => e = .returned (.int .i64 (roomN rm)) ∧ w' = u) := fun u => rroom_any rm u
  rw [if_neg hbig] at hrm
  subst hrm
  go_enter Try.func3, Try.ntmps3
  go_wp2_with (first
    | (go_at_call 8; refine Calls.mono HB.out ?_; rintro e w1 ⟨rfl, hb1⟩)
    | (go_at_call 9; refine (HN.out _ hb1).mono ?_; rintro e w2 ⟨p, rfl, hb2, HL2⟩)
    | (go_at_call 10; refine (HRm.out _).mono ?_; rintro e w' ⟨rfl, hw⟩; have hw' := hw.symm; subst hw'))
  have H3 : Hid (_) := HL2.out w2 (Below.refl _ _)
  clear HL2 HN HRm HB
  go_loopw [6, 7, 8] (fun vd vr vi wr => ∃ (k p q : Nat) (s : St), k ≤ len ∧ k ≤ 40 ∧ vi = .int .i64 k ∧ vd = .pointer (some ⟨p, 0, none⟩) ∧ vr = .pointer (some ⟨q, 0, none⟩) ∧ Hid (LR w wr p q s s ∧ s.mass ≤ 202 * k)) (fun _ _ vi _ => 40 - (intOf vi).toNat)
  case atStart => exact ⟨0, p, w2.heap.size, _, Nat.zero_le _, Nat.zero_le _, rfl, rfl, rfl, H3.out, by simp [St.mass, mass, wmass]⟩
  case round =>
    clear H3 hb1 hb2 hbig
    obtain ⟨k, p, q, s, hkl, hk40, rfl, rfl, rfl, HK⟩ := hrel
    have hbw := HK.out.1.bel
    by_cases hlt : k < len ∧ k < 40
    · obtain ⟨hlt, hlt2⟩ := hlt
      have hlt' : (k : Int) < (len : Int) := by omega
      have hlt2' : (k : Int) < 40 := by omega
      obtain ⟨bk, off, rfl, hcs⟩ := HR.out (by omega)
      obtain ⟨g0, g1, g2, g3, g4, g5, gS, gn, gt⟩ := hcs k hlt
      replace g0 := below_cell hbw g0
      replace g1 := below_cell hbw g1
      replace g2 := below_cell hbw g2
      replace g3 := below_cell hbw g3
      replace g4 := below_cell hbw g4
      replace g5 := below_cell hbw g5
      have gS' := gS.below hbw
      obtain ⟨aob, capb, hdv, _, _⟩ := gS.shape
      rw [hdv] at g5 gS'
      generalize (f k).kd = kd at *
      generalize (f k).n = n at *
      generalize (f k).tn = tn at *
      generalize (f k).nm = nm at *
      generalize (f k).t = t at *
      generalize (f k).b = b at *
      obtain ⟨L1, b1, HS1, HC3⟩ := shortE_any aob capb b w (by rw [← hdv]; exact gS)
      have hz1 := cutV_size nm
      have hz2 := cutV_size t
      have HC : Hid (∀ (x : ByteArray) (u : World), x.size ≤ maxLen → Calls Try.prog 11 #[.string x, .int .i64 20] u fun e w' => e = .returned (.string (cutV x)) ∧ w' = u) := fun x u hx => cutE_any x u hx
      have HC3' : Hid _ := HC3
      have HN : Hid (nm.size ≤ maxLen ∧ t.size ≤ maxLen) := ⟨gn, gt⟩
      have HBx : Hid (LO w (wr.alloc (.cells #[.int .i64 kd, .int .i64 n, .int .i64 tn, .string (cutV nm), .string (cutV t), .slice aob L1 capb] 34)) p q s s wr.heap.size (.cells #[.int .i64 kd, .int .i64 n, .int .i64 tn, .string (cutV nm), .string (cutV t), .slice aob L1 capb] 34 (0, 0))) := HK.out.1.box _
      have HMs : Hid (s.mass ≤ 202 * k) := HK.out.2
      clear hcs gS gS' gn gt hdv hbw HC3 HK
      go_upto_region 12 with fail
      clear HR g0 g1 g2 g3 g4 g5
      go_cut [] from 44 to 55 (fun wc => wc = (wr.alloc (.cells #[.int .i64 kd, .int .i64 n, .int .i64 tn, .string (cutV nm), .string (cutV t), .slice aob L1 capb] 34)).drew)
      case first =>
        clear HBx HMs HS1 hz1 hz2
        have HC1 := fun u => HC.out nm u HN.out.1
        have HC2 := fun u => HC.out t u HN.out.2
        have HC4 := HC3'.out
        refine wp_region_still_tail 10 (by kernel_rfl) (by kernel_rfl) ?_
        change wpStill Try.prog _ (World.drew (wr.alloc (.cells #[.int .i64 kd, .int .i64 n, .int .i64 tn, .string nm, .string t, .slice aob b.length capb] 34))) (fun a' => wpList Try.prog _ _ _ a' (World.drew (wr.alloc (.cells #[.int .i64 kd, .int .i64 n, .int .i64 tn, .string nm, .string t, .slice aob b.length capb] 34)))) _ _
        simp only [List.take_succ_cons, List.take_zero, List.drop_succ_cons, List.drop_zero]
        repeat still_step
        still_call (HC1 _)
        repeat still_step
        still_call (HC2 _)
        repeat still_step
        still_call (HC4 _)
        repeat still_step
        refine wpStill_nil ?_
        go_wp2_with fail
        go_meet
        rfl
      case rest =>
        have HU : Hid (LK w wc p q s s wr.heap.size kd n tn (cutV nm) (cutV t) (.slice aob L1 capb)) := by
          rw [hcut]
          exact LO.below HBx.out ⟨rfl, rfl, rfl, Nat.le_refl _, fun _ _ => rfl⟩
        clear hcut HBx HC HC3' HN
        generalize wr.heap.size = ob at *
        generalize cutV nm = nm1 at *
        generalize cutV t = t1 at *
        have HGd : Hid (s.good) := LK.good HU.out
        have HMm : Hid (s.mass + b1.length + 2 ≤ 50000000) := by
          have h2 := HS1.out.2
          have h3 := HMs.out
          show _ ≤ _
          omega
        obtain ⟨o0, o1, o2, o3, o4, o5⟩ := LK.cells HU.out
        have hk6 : kd = 0 ∨ kd = 1 ∨ kd = 2 ∨ kd = 3 ∨ kd = 4 ∨ kd = 5 ∨ (kd < 0 ∨ 5 < kd) := by omega
        rcases hk6 with hkd | hkd | hkd | hkd | hkd | hkd | hkd
        · subst hkd
          have HA : Hid (Calls Try.prog 13 #[.pointer (some ⟨p, 0, none⟩), .string nm1, .slice aob L1 capb] wc fun e w' => e = .returned (.int .i64 (verdict s 0 nm1 t1 n b1).1) ∧ Oc w' ob 0 n tn nm1 t1 (.slice aob L1 capb) ∧ Hid (LK w w' p q (s.after (verdict s 0 nm1 t1 n b1).2) s ob 0 n tn nm1 t1 (.slice aob L1 capb))) := LK.app HU.out HS1.out.1 HMm.out
          have HR : Hid (∀ W, Hid (LK w W p q (s.after (verdict s 0 nm1 t1 n b1).2) s ob 0 n tn nm1 t1 (.slice aob L1 capb)) → Calls Try.prog 23 #[.pointer (some ⟨q, 0, none⟩), .agg #[.int .i64 0, .string nm1, .string t1, .int .i64 n, .slice aob L1 capb]] W fun e w' => e = .returned (.int .i64 (verdict s 0 nm1 t1 n b1).1) ∧ Oc w' ob 0 n tn nm1 t1 (.slice aob L1 capb) ∧ Hid (LK w w' p q (s.after (verdict s 0 nm1 t1 n b1).2) (s.after (verdict s 0 nm1 t1 n b1).2) ob 0 n tn nm1 t1 (.slice aob L1 capb))) := fun W hW => LK.rdo 0 hW.out HGd.out HS1.out.1 hz1 hz2 HMm.out (by omega)
          have HMs' : Hid ((s.after (verdict s 0 nm1 t1 n b1).2).mass ≤ 202 * (k + 1)) := by
            have h1 := after_mass s 0 nm1 t1 n b1
            have h2 := HS1.out.2
            have h3 := HMs.out
            show _ ≤ _
            omega
          generalize (verdict s 0 nm1 t1 n b1).1 = ve at HA HR
          generalize s.after (verdict s 0 nm1 t1 n b1).2 = s' at HA HR HMs'
          clear HU
          go_wp2_with fail
          refine Calls.mono HA.out ?_
          clear HA o0 o1 o2 o3 o4 o5
          rintro e w2 ⟨rfl, ⟨o0, o1, o2, o3, o4, o5⟩, HL2⟩
          go_wp2_with fail
          refine Calls.mono (HR.out _ HL2) ?_
          clear HR HL2 o0 o1 o2 o3 o4 o5
          rintro e w3 ⟨rfl, ⟨o0, o1, o2, o3, o4, o5⟩, HL3⟩
          have HSm : Hid _ := LK.same HL3.out (by have := HMs'.out; omega)
          clear HL3
          go_wp2_with fail
          refine Calls.mono HSm.out ?_
          clear HSm o0 o1 o2 o3 o4 o5
          rintro e w4 ⟨rfl, ⟨o0, o1, o2, o3, o4, o5⟩, HL4⟩
          have HQ : Hid (LR w w4 p q s' s' ∧ s'.mass ≤ 202 * (k + 1)) := ⟨HL4.out.lr, HMs'.out⟩
          clear HL4
          go_wp2_with fail
          go_roundw
          case rel => exact ⟨k + 1, p, q, s', by omega, by omega, by go_num, rfl, rfl, HQ⟩
          case measure => simp [intOf]; omega
        · subst hkd
          have HA : Hid (Calls Try.prog 14 #[.pointer (some ⟨p, 0, none⟩), .string nm1, .int .i64 n] wc fun e w' => e = .returned (.int .i64 (verdict s 1 nm1 t1 n b1).1) ∧ Oc w' ob 1 n tn nm1 t1 (.slice aob L1 capb) ∧ Hid (LK w w' p q (s.after (verdict s 1 nm1 t1 n b1).2) s ob 1 n tn nm1 t1 (.slice aob L1 capb))) := LK.cut HU.out HMm.out
          have HR : Hid (∀ W, Hid (LK w W p q (s.after (verdict s 1 nm1 t1 n b1).2) s ob 1 n tn nm1 t1 (.slice aob L1 capb)) → Calls Try.prog 23 #[.pointer (some ⟨q, 0, none⟩), .agg #[.int .i64 1, .string nm1, .string t1, .int .i64 n, .slice aob L1 capb]] W fun e w' => e = .returned (.int .i64 (verdict s 1 nm1 t1 n b1).1) ∧ Oc w' ob 1 n tn nm1 t1 (.slice aob L1 capb) ∧ Hid (LK w w' p q (s.after (verdict s 1 nm1 t1 n b1).2) (s.after (verdict s 1 nm1 t1 n b1).2) ob 1 n tn nm1 t1 (.slice aob L1 capb))) := fun W hW => LK.rdo 1 hW.out HGd.out HS1.out.1 hz1 hz2 HMm.out (by omega)
          have HMs' : Hid ((s.after (verdict s 1 nm1 t1 n b1).2).mass ≤ 202 * (k + 1)) := by
            have h1 := after_mass s 1 nm1 t1 n b1
            have h2 := HS1.out.2
            have h3 := HMs.out
            show _ ≤ _
            omega
          generalize (verdict s 1 nm1 t1 n b1).1 = ve at HA HR
          generalize s.after (verdict s 1 nm1 t1 n b1).2 = s' at HA HR HMs'
          clear HU
          go_wp2_with fail
          refine Calls.mono HA.out ?_
          clear HA o0 o1 o2 o3 o4 o5
          rintro e w2 ⟨rfl, ⟨o0, o1, o2, o3, o4, o5⟩, HL2⟩
          go_wp2_with fail
          refine Calls.mono (HR.out _ HL2) ?_
          clear HR HL2 o0 o1 o2 o3 o4 o5
          rintro e w3 ⟨rfl, ⟨o0, o1, o2, o3, o4, o5⟩, HL3⟩
          have HSm : Hid _ := LK.same HL3.out (by have := HMs'.out; omega)
          clear HL3
          go_wp2_with fail
          refine Calls.mono HSm.out ?_
          clear HSm o0 o1 o2 o3 o4 o5
          rintro e w4 ⟨rfl, ⟨o0, o1, o2, o3, o4, o5⟩, HL4⟩
          have HQ : Hid (LR w w4 p q s' s' ∧ s'.mass ≤ 202 * (k + 1)) := ⟨HL4.out.lr, HMs'.out⟩
          clear HL4
          go_wp2_with fail
          go_roundw
          case rel => exact ⟨k + 1, p, q, s', by omega, by omega, by go_num, rfl, rfl, HQ⟩
          case measure => simp [intOf]; omega
        · subst hkd
          have HA : Hid (Calls Try.prog 15 #[.pointer (some ⟨p, 0, none⟩), .string nm1] wc fun e w' => e = .returned (.int .i64 (verdict s 2 nm1 t1 n b1).1) ∧ Oc w' ob 2 n tn nm1 t1 (.slice aob L1 capb) ∧ Hid (LK w w' p q (s.after (verdict s 2 nm1 t1 n b1).2) s ob 2 n tn nm1 t1 (.slice aob L1 capb))) := LK.rem HU.out HMm.out
          have HR : Hid (∀ W, Hid (LK w W p q (s.after (verdict s 2 nm1 t1 n b1).2) s ob 2 n tn nm1 t1 (.slice aob L1 capb)) → Calls Try.prog 23 #[.pointer (some ⟨q, 0, none⟩), .agg #[.int .i64 2, .string nm1, .string t1, .int .i64 n, .slice aob L1 capb]] W fun e w' => e = .returned (.int .i64 (verdict s 2 nm1 t1 n b1).1) ∧ Oc w' ob 2 n tn nm1 t1 (.slice aob L1 capb) ∧ Hid (LK w w' p q (s.after (verdict s 2 nm1 t1 n b1).2) (s.after (verdict s 2 nm1 t1 n b1).2) ob 2 n tn nm1 t1 (.slice aob L1 capb))) := fun W hW => LK.rdo 2 hW.out HGd.out HS1.out.1 hz1 hz2 HMm.out (by omega)
          have HMs' : Hid ((s.after (verdict s 2 nm1 t1 n b1).2).mass ≤ 202 * (k + 1)) := by
            have h1 := after_mass s 2 nm1 t1 n b1
            have h2 := HS1.out.2
            have h3 := HMs.out
            show _ ≤ _
            omega
          generalize (verdict s 2 nm1 t1 n b1).1 = ve at HA HR
          generalize s.after (verdict s 2 nm1 t1 n b1).2 = s' at HA HR HMs'
          clear HU
          go_wp2_with fail
          refine Calls.mono HA.out ?_
          clear HA o0 o1 o2 o3 o4 o5
          rintro e w2 ⟨rfl, ⟨o0, o1, o2, o3, o4, o5⟩, HL2⟩
          go_wp2_with fail
          refine Calls.mono (HR.out _ HL2) ?_
          clear HR HL2 o0 o1 o2 o3 o4 o5
          rintro e w3 ⟨rfl, ⟨o0, o1, o2, o3, o4, o5⟩, HL3⟩
          have HSm : Hid _ := LK.same HL3.out (by have := HMs'.out; omega)
          clear HL3
          go_wp2_with fail
          refine Calls.mono HSm.out ?_
          clear HSm o0 o1 o2 o3 o4 o5
          rintro e w4 ⟨rfl, ⟨o0, o1, o2, o3, o4, o5⟩, HL4⟩
          have HQ : Hid (LR w w4 p q s' s' ∧ s'.mass ≤ 202 * (k + 1)) := ⟨HL4.out.lr, HMs'.out⟩
          clear HL4
          go_wp2_with fail
          go_roundw
          case rel => exact ⟨k + 1, p, q, s', by omega, by omega, by go_num, rfl, rfl, HQ⟩
          case measure => simp [intOf]; omega
        · subst hkd
          have HA : Hid (Calls Try.prog 16 #[.pointer (some ⟨p, 0, none⟩), .string nm1, .string t1] wc fun e w' => e = .returned (.int .i64 (verdict s 3 nm1 t1 n b1).1) ∧ Oc w' ob 3 n tn nm1 t1 (.slice aob L1 capb) ∧ Hid (LK w w' p q (s.after (verdict s 3 nm1 t1 n b1).2) s ob 3 n tn nm1 t1 (.slice aob L1 capb))) := LK.mov HU.out HMm.out
          have HR : Hid (∀ W, Hid (LK w W p q (s.after (verdict s 3 nm1 t1 n b1).2) s ob 3 n tn nm1 t1 (.slice aob L1 capb)) → Calls Try.prog 23 #[.pointer (some ⟨q, 0, none⟩), .agg #[.int .i64 3, .string nm1, .string t1, .int .i64 n, .slice aob L1 capb]] W fun e w' => e = .returned (.int .i64 (verdict s 3 nm1 t1 n b1).1) ∧ Oc w' ob 3 n tn nm1 t1 (.slice aob L1 capb) ∧ Hid (LK w w' p q (s.after (verdict s 3 nm1 t1 n b1).2) (s.after (verdict s 3 nm1 t1 n b1).2) ob 3 n tn nm1 t1 (.slice aob L1 capb))) := fun W hW => LK.rdo 3 hW.out HGd.out HS1.out.1 hz1 hz2 HMm.out (by omega)
          have HMs' : Hid ((s.after (verdict s 3 nm1 t1 n b1).2).mass ≤ 202 * (k + 1)) := by
            have h1 := after_mass s 3 nm1 t1 n b1
            have h2 := HS1.out.2
            have h3 := HMs.out
            show _ ≤ _
            omega
          generalize (verdict s 3 nm1 t1 n b1).1 = ve at HA HR
          generalize s.after (verdict s 3 nm1 t1 n b1).2 = s' at HA HR HMs'
          clear HU
          go_wp2_with fail
          refine Calls.mono HA.out ?_
          clear HA o0 o1 o2 o3 o4 o5
          rintro e w2 ⟨rfl, ⟨o0, o1, o2, o3, o4, o5⟩, HL2⟩
          go_wp2_with fail
          refine Calls.mono (HR.out _ HL2) ?_
          clear HR HL2 o0 o1 o2 o3 o4 o5
          rintro e w3 ⟨rfl, ⟨o0, o1, o2, o3, o4, o5⟩, HL3⟩
          have HSm : Hid _ := LK.same HL3.out (by have := HMs'.out; omega)
          clear HL3
          go_wp2_with fail
          refine Calls.mono HSm.out ?_
          clear HSm o0 o1 o2 o3 o4 o5
          rintro e w4 ⟨rfl, ⟨o0, o1, o2, o3, o4, o5⟩, HL4⟩
          have HQ : Hid (LR w w4 p q s' s' ∧ s'.mass ≤ 202 * (k + 1)) := ⟨HL4.out.lr, HMs'.out⟩
          clear HL4
          go_wp2_with fail
          go_roundw
          case rel => exact ⟨k + 1, p, q, s', by omega, by omega, by go_num, rfl, rfl, HQ⟩
          case measure => simp [intOf]; omega
        · subst hkd
          have HA : Hid _ := LK.sync HU.out (by have := HMm.out; omega)
          have HR : Hid (∀ W, Hid (LK w W p q ⟨s.room, s.now, []⟩ s ob 4 n tn nm1 t1 (.slice aob L1 capb)) → Calls Try.prog 18 #[.pointer (some ⟨q, 0, none⟩)] W fun e w' => e = .returned (.tuple #[]) ∧ Oc w' ob 4 n tn nm1 t1 (.slice aob L1 capb) ∧ Hid (LK w w' p q ⟨s.room, s.now, []⟩ ⟨s.room, s.now, []⟩ ob 4 n tn nm1 t1 (.slice aob L1 capb))) := fun W hW => LK.rsync hW.out
          have HMs' : Hid ((⟨s.room, s.now, []⟩ : St).mass ≤ 202 * (k + 1)) := by
            have h1 := St.now_mass HGd.out
            have h3 := HMs.out
            show _ ≤ _
            simp only [St.mass, wmass, List.length_nil, List.map_nil, List.sum_nil] at h1 h3 ⊢
            omega
          generalize (⟨s.room, s.now, []⟩ : St) = s' at HA HR HMs'
          clear HU
          go_wp2_with fail
          refine Calls.mono HA.out ?_
          clear HA o0 o1 o2 o3 o4 o5
          rintro e w2 ⟨rfl, ⟨o0, o1, o2, o3, o4, o5⟩, HL2⟩
          go_wp2_with fail
          refine Calls.mono (HR.out _ HL2) ?_
          clear HR HL2 o0 o1 o2 o3 o4 o5
          rintro e w3 ⟨rfl, ⟨o0, o1, o2, o3, o4, o5⟩, HL3⟩
          have HSm : Hid _ := LK.same HL3.out (by have := HMs'.out; omega)
          clear HL3
          go_wp2_with fail
          refine Calls.mono HSm.out ?_
          clear HSm o0 o1 o2 o3 o4 o5
          rintro e w4 ⟨rfl, ⟨o0, o1, o2, o3, o4, o5⟩, HL4⟩
          have HQ : Hid (LR w w4 p q s' s' ∧ s'.mass ≤ 202 * (k + 1)) := ⟨HL4.out.lr, HMs'.out⟩
          clear HL4
          go_wp2_with fail
          go_roundw
          case rel => exact ⟨k + 1, p, q, s', by omega, by omega, by go_num, rfl, rfl, HQ⟩
          case measure => simp [intOf]; omega
        · subst hkd
          have HA : Hid _ := LK.droom HU.out n
          have HRm : Hid (∀ u, Calls Try.prog 10 #[.int .i64 n] u fun e w' => e = .returned (.int .i64 (roomN n)) ∧ w' = u) := fun u => rroom_any n u
          have HMs' : Hid ((⟨roomN n, s.last, s.wait⟩ : St).mass ≤ 202 * (k + 1)) := by
            have h3 := HMs.out
            show _ ≤ _
            simp only [St.mass] at h3 ⊢
            omega
          clear HU
          go_wp2_with fail
          refine Calls.mono HA.out ?_
          clear HA o0 o1 o2 o3 o4 o5
          rintro e w2 ⟨rfl, ⟨o0, o1, o2, o3, o4, o5⟩, HL2⟩
          obtain ⟨⟨x, hx⟩, hfz, HX⟩ := LO.room HL2.out (roomN n)
          have HL3 : Hid (LK w (w2.setCell ⟨q, 3, none⟩ (.int .i64 (roomN n))) p q ⟨roomN n, s.last, s.wait⟩ ⟨roomN n, s.last, s.wait⟩ ob 5 n tn nm1 t1 (.slice aob L1 capb)) := HX
          have HSm : Hid _ := LK.same HL3.out (by have := HMs'.out; omega)
          clear HX HL2 HL3
          go_wp2_with (go_at_call 10; refine (HRm.out _).mono ?_; rintro e w' ⟨rfl, hw⟩; have hw' := hw.symm; subst hw'; clear hw)
          refine Calls.mono HSm.out ?_
          clear HSm o0 o1 o2 o3 o4 o5
          rintro e w4 ⟨rfl, ⟨o0, o1, o2, o3, o4, o5⟩, HL4⟩
          have HQ : Hid (LR w w4 p q ⟨roomN n, s.last, s.wait⟩ ⟨roomN n, s.last, s.wait⟩ ∧ (⟨roomN n, s.last, s.wait⟩ : St).mass ≤ 202 * (k + 1)) := ⟨HL4.out.lr, HMs'.out⟩
          clear HL4
          go_wp2_with fail
          go_roundw
          case rel => exact ⟨k + 1, p, q, ⟨roomN n, s.last, s.wait⟩, by omega, by omega, by go_num, rfl, rfl, HQ⟩
          case measure => simp [intOf]; omega
        · have hne0 : (kd == 0) = false := by rw [beq_eq_false_iff_ne]; omega
          have hne1 : (kd == 1) = false := by rw [beq_eq_false_iff_ne]; omega
          have hne2 : (kd == 2) = false := by rw [beq_eq_false_iff_ne]; omega
          have hne3 : (kd == 3) = false := by rw [beq_eq_false_iff_ne]; omega
          have hne4 : (kd == 4) = false := by rw [beq_eq_false_iff_ne]; omega
          have hne5 : (kd == 5) = false := by rw [beq_eq_false_iff_ne]; omega
          have HUd : LK w wc.drew p q s s ob kd n tn nm1 t1 (.slice aob L1 capb) := LK.below HU.out ⟨rfl, rfl, rfl, Nat.le_refl _, fun _ _ => rfl⟩
          have HCr : Hid (Calls Try.prog 20 #[.pointer (some ⟨p, 0, none⟩), .int .i64 n, .int .i64 tn] wc.drew fun e w1 => ∃ p', e = .returned (.pointer (some ⟨p', 0, none⟩)) ∧ Oc w1 ob kd n tn nm1 t1 (.slice aob L1 capb) ∧ Hid (Calls Try.prog 21 #[.pointer (some ⟨q, 0, none⟩), .int .i64 n, .int .i64 tn] w1 fun e w2 => ∃ q', e = .returned (.pointer (some ⟨q', 0, none⟩)) ∧ Oc w2 ob kd n tn nm1 t1 (.slice aob L1 capb) ∧ Hid (LK w w2 p q s s ob kd n tn nm1 t1 (.slice aob L1 capb) ∧ LR w w2 p' q' ⟨s.room, leftOf s n tn, []⟩ ⟨s.room, leftOf s n tn, []⟩))) := by
            refine (LR.crash HUd.lr n tn (by have := HMm.out; omega)).mono ?_
            rintro e w1 ⟨p', rfl, hb1, HX⟩
            refine ⟨p', rfl, (HUd.below hb1.out).cells, ?_⟩
            refine Calls.mono (HX.out w1 (Below.refl _ _)) ?_
            rintro e w2 ⟨q', rfl, hb2, HY⟩
            exact ⟨q', rfl, (HUd.below hb2.out).cells, HUd.below hb2.out, HY.out.2⟩
          have HMl : Hid ((⟨s.room, leftOf s n tn, []⟩ : St).mass ≤ 202 * (k + 1)) := by
            have h1 := left_mass HGd.out n tn
            have h3 := HMs.out
            show _ ≤ _
            simp only [St.mass, wmass, List.length_nil, List.map_nil, List.sum_nil] at h1 h3 ⊢
            omega
          have HMs' : Hid (s.mass ≤ 202 * (k + 1)) := by
            have h3 := HMs.out
            show _ ≤ _
            omega
          generalize (⟨s.room, leftOf s n tn, []⟩ : St) = s2 at HCr HMl
          clear HU HUd
          go_upto_region 15 with fail
          go_cut [12, 13] from 58 to 69 (fun c1 c2 wd => ∃ p' q', c1 = .pointer (some ⟨p', 0, none⟩) ∧ c2 = .pointer (some ⟨q', 0, none⟩) ∧ Hid (LK w wd p q s s ob kd n tn nm1 t1 (.slice aob L1 capb) ∧ LR w wd p' q' s2 s2))
          case first =>
            go_region_held (fun w' => w'.cell? ⟨ob, 1, none⟩ = some (.int .i64 n) ∧ w'.cell? ⟨ob, 2, none⟩ = some (.int .i64 tn))
              (first | exact ⟨o1, o2⟩)
              (first
                | (go_at_call 20; refine Calls.mono HCr.out ?_; rintro e w1 ⟨p', rfl, ⟨o0, o1, o2, o3, o4, o5⟩, HX⟩)
                | (go_at_call 21; refine Calls.mono HX.out ?_; rintro e w2 ⟨q', rfl, ⟨o0, o1, o2, o3, o4, o5⟩, HY⟩))
            all_goals go_wp2_with fail
            all_goals go_meet
            all_goals exact ⟨_, _, rfl, rfl, HY⟩
          case rest =>
            clear HCr o0 o1 o2 o3 o4 o5
            obtain ⟨p', q', rfl, rfl, HY⟩ := hcut
            have HSa : Hid (∀ W, Hid (LK w W p q s s ob kd n tn nm1 t1 (.slice aob L1 capb) ∧ LR w W p' q' s2 s2) → Calls Try.prog 22 #[.pointer (some ⟨p', 0, none⟩), .pointer (some ⟨q', 0, none⟩)] W fun e w' => e = .returned (.bool true) ∧ Oc w' ob kd n tn nm1 t1 (.slice aob L1 capb) ∧ Hid (LK w w' p q s s ob kd n tn nm1 t1 (.slice aob L1 capb) ∧ LR w w' p' q' s2 s2)) := fun W hW => (LR.same hW.out.2 (by have := HMl.out; omega)).mono fun _ _ ⟨he, hb⟩ => ⟨he, (LK.below hW.out.1 hb.out).cells, LK.below hW.out.1 hb.out, LR.below hW.out.2 hb.out⟩
            have HSb : Hid (∀ W, Hid (LK w W p q s s ob kd n tn nm1 t1 (.slice aob L1 capb) ∧ LR w W p' q' s2 s2) → Calls Try.prog 22 #[.pointer (some ⟨p, 0, none⟩), .pointer (some ⟨q, 0, none⟩)] W fun e w' => e = .returned (.bool true) ∧ Oc w' ob kd n tn nm1 t1 (.slice aob L1 capb) ∧ Hid (LK w w' p q s s ob kd n tn nm1 t1 (.slice aob L1 capb) ∧ LR w w' p' q' s2 s2)) := fun W hW => (LR.same hW.out.1.lr (by have := HMs'.out; omega)).mono fun _ _ ⟨he, hb⟩ => ⟨he, (LK.below hW.out.1 hb.out).cells, LK.below hW.out.1 hb.out, LR.below hW.out.2 hb.out⟩
            go_wp2_with fail
            refine Calls.mono (HSa.out _ HY) ?_
            clear HY
            rintro e w5 ⟨rfl, ⟨o0, o1, o2, o3, o4, o5⟩, HY⟩
            go_wp2_with fail
            refine Calls.mono (HSb.out _ HY) ?_
            clear HY o0 o1 o2 o3 o4 o5
            rintro e w6 ⟨rfl, ⟨o0, o1, o2, o3, o4, o5⟩, HY⟩
            by_cases heven : n.tmod 2 = 0
            · have hev : (n.tmod 2 == 0) = true := by simpa using heven
              rcases hkd with hkd | hkd
              · have hg1 : ¬ 0 ≤ kd := by omega
                go_wp2_with fail
                refine Calls.mono (HSa.out _ HY) ?_
                clear HY o0 o1 o2 o3 o4 o5
                rintro e w7 ⟨rfl, ⟨o0, o1, o2, o3, o4, o5⟩, HY⟩
                have HQ : Hid (LR w w7 p' q' s2 s2 ∧ s2.mass ≤ 202 * (k + 1)) := ⟨HY.out.2, HMl.out⟩
                clear HY
                go_wp2_with fail
                go_roundw
                case rel => exact ⟨k + 1, p', q', s2, by omega, by omega, by go_num, rfl, rfl, HQ⟩
                case measure => simp [intOf]; omega
              · have hg1 : 0 ≤ kd := by omega
                have hg2 : ¬ kd ≤ 3 := by omega
                go_wp2_with fail
                refine Calls.mono (HSa.out _ HY) ?_
                clear HY o0 o1 o2 o3 o4 o5
                rintro e w7 ⟨rfl, ⟨o0, o1, o2, o3, o4, o5⟩, HY⟩
                have HQ : Hid (LR w w7 p' q' s2 s2 ∧ s2.mass ≤ 202 * (k + 1)) := ⟨HY.out.2, HMl.out⟩
                clear HY
                go_wp2_with fail
                go_roundw
                case rel => exact ⟨k + 1, p', q', s2, by omega, by omega, by go_num, rfl, rfl, HQ⟩
                case measure => simp [intOf]; omega
            · have hev : (n.tmod 2 == 0) = false := by simpa using heven
              rcases hkd with hkd | hkd
              · have hg1 : ¬ 0 ≤ kd := by omega
                go_wp2_with fail
                refine Calls.mono (HSb.out _ HY) ?_
                clear HY o0 o1 o2 o3 o4 o5
                rintro e w7 ⟨rfl, ⟨o0, o1, o2, o3, o4, o5⟩, HY⟩
                have HQ : Hid (LR w w7 p q s s ∧ s.mass ≤ 202 * (k + 1)) := ⟨HY.out.1.lr, HMs'.out⟩
                clear HY
                go_wp2_with fail
                go_roundw
                case rel => exact ⟨k + 1, p, q, s, by omega, by omega, by go_num, rfl, rfl, HQ⟩
                case measure => simp [intOf]; omega
              · have hg1 : 0 ≤ kd := by omega
                have hg2 : ¬ kd ≤ 3 := by omega
                go_wp2_with fail
                refine Calls.mono (HSb.out _ HY) ?_
                clear HY o0 o1 o2 o3 o4 o5
                rintro e w7 ⟨rfl, ⟨o0, o1, o2, o3, o4, o5⟩, HY⟩
                have HQ : Hid (LR w w7 p q s s ∧ s.mass ≤ 202 * (k + 1)) := ⟨HY.out.1.lr, HMs'.out⟩
                clear HY
                go_wp2_with fail
                go_roundw
                case rel => exact ⟨k + 1, p, q, s, by omega, by omega, by go_num, rfl, rfl, HQ⟩
                case measure => simp [intOf]; omega
    · have hex : (¬ (k : Int) < (len : Int)) ∨ ((k : Int) < (len : Int) ∧ ¬ (k : Int) < 40) := by omega
      obtain ⟨hLR, hms⟩ := HK.out
      have hgd := hLR.good
      obtain ⟨F, R, d1, d2, _, _, _, _, d7⟩ := hLR
      have hnm := St.now_mass hgd
      have hmm : mass s.last + wmass s.wait ≤ s.mass := by simp only [St.mass]; omega
      have hsrt : Srt s.now := run_srt s.wait s.last hgd.srt
      have HRr : Hid (∀ W, Below wr.heap.size wr W → Calls Try.prog 25 #[.pointer (some ⟨q, 0, none⟩), .string ⟨#[110, 111, 110, 101]⟩] W fun e w' => ∃ ao L cap, e = .returned (.tuple #[.slice ao L cap, .bool (look ⟨#[110, 111, 110, 101]⟩ s.now).isSome]) ∧ w' = W) := fun W hb => rread_any q s R _ W (d2.below hb) hsrt (by omega)
      cases hl : look ⟨#[110, 111, 110, 101]⟩ s.now with
      | none =>
        have HRd : Hid _ := read_miss p s F _ wr d1 hl (by omega)
        rw [hl] at HRr
        simp only [Option.isSome_none] at HRr
        clear HK d1 d2 hgd hnm hmm hsrt hms hl HR
        rcases hex with hx | ⟨hx, hx'⟩
        · go_wp2_with fail
          refine Calls.mono HRd.out ?_
          rintro e w5 ⟨rfl, hb5⟩
          have HR5 : Hid _ := HRr.out w5 hb5
          clear HRr HRd
          go_wp2_with fail
          refine Calls.mono HR5.out ?_
          rintro e w' ⟨aor, Lr, capr, rfl, hw⟩
          have hw' := hw.symm
          subst hw'
          clear hw
          go_wp2
          go_ret
          exact ⟨rfl, d7.trans (hb5.mono d7.size)⟩
        · go_wp2_with fail
          refine Calls.mono HRd.out ?_
          rintro e w5 ⟨rfl, hb5⟩
          have HR5 : Hid _ := HRr.out w5 hb5
          clear HRr HRd
          go_wp2_with fail
          refine Calls.mono HR5.out ?_
          rintro e w' ⟨aor, Lr, capr, rfl, hw⟩
          have hw' := hw.symm
          subst hw'
          clear hw
          go_wp2
          go_ret
          exact ⟨rfl, d7.trans (hb5.mono d7.size)⟩
      | some fl =>
        have HRd : Hid _ := read_hit p s F _ fl wr d1 hl (by omega)
        rw [hl] at HRr
        simp only [Option.isSome_some] at HRr
        clear HK d1 d2 hgd hnm hmm hsrt hms hl HR
        rcases hex with hx | ⟨hx, hx'⟩
        · go_wp2_with fail
          refine Calls.mono HRd.out ?_
          rintro e w5 ⟨v', rfl, _, hb5⟩
          have HR5 : Hid _ := HRr.out w5 hb5
          clear HRr HRd
          go_wp2_with fail
          refine Calls.mono HR5.out ?_
          rintro e w' ⟨aor, Lr, capr, rfl, hw⟩
          have hw' := hw.symm
          subst hw'
          clear hw
          go_wp2
          go_ret
          exact ⟨rfl, d7.trans (hb5.mono d7.size)⟩
        · go_wp2_with fail
          refine Calls.mono HRd.out ?_
          rintro e w5 ⟨v', rfl, _, hb5⟩
          have HR5 : Hid _ := HRr.out w5 hb5
          clear HRr HRd
          go_wp2_with fail
          refine Calls.mono HR5.out ?_
          rintro e w' ⟨aor, Lr, capr, rfl, hw⟩
          have hw' := hw.symm
          subst hw'
          clear hw
          go_wp2
          go_ret
          exact ⟨rfl, d7.trans (hb5.mono d7.size)⟩
end Go.Proofs.Ytleelemcmnlfiaa

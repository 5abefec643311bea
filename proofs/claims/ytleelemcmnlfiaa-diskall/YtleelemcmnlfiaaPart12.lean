/- The walk of the document's Do: Append of a new file. The walk of the document's Do: Cut. The walk of the document's Do: Remove. -/
import Derived.Test.YtleelemcmnlfiaaPart11
namespace Go.Proofs.Ytleelemcmnlfiaa
open Go.RowKit
set_option linter.unusedVariables false

set_option maxHeartbeats 4000000 in
set_option maxRecDepth 20000 in
theorem rDo_app_miss (q : Nat) (s : St) (R : Nat → Prop) (nm t : ByteArray) (sz : Int) (dv : Value) (b : List UInt8)  (w : World) (h : RD w q s R) (hg : s.good) (hS : Sl w dv b) (hn : nm.size ≤ 1000000000) (htn : t.size ≤ 1000000000) (hm : s.mass + b.length + 2 ≤ 50000000)
    (hok : okN nm = true) (hr : (used s.now : Int) + b.length ≤ s.room) (hl : look nm s.now = none) (h64 : s.now.length < 64) :
    Calls Try.prog 23 #[.pointer (some ⟨q, 0, none⟩), .agg #[.int .i64 0, .string nm, .string t, .int .i64 sz, dv]] w fun e w' => e = .returned (.int .i64 0) ∧ RD w' q (s.push (.app nm b)) (ext R w w') ∧ Fr (fun k => k = q) w w' := by
  obtain ⟨vl, vn, vw, zl, zn, ys, h⟩ := h
  obtain ⟨aod, capd, rfl, _, _⟩ := hS.shape
  obtain ⟨aon, capn, rfl, hao⟩ := h.fn.shape
  obtain ⟨aow, capw, rfl, _⟩ := h.wt.shape
  have P := doPre h 0 nm t sz b aod capd
  have hnm := St.now_mass hg
  have hum := used_mass s.now
  have hznl : zn.length = s.now.length := by rw [← h.e2, List.length_map]
  rcases splitE nm zn (by rw [h.e2]; exact St.now_srt hg) with ⟨ul, z, ur, hh⟩ | ⟨ul, ur, hh⟩
  case inl => rw [← h.e2, hh.hit.lookE] at hl; simp at hl
  have HT : Hid (_) := fun (u0 : World) (hb0 : Below w.heap.size w u0) hbox => rDo_tail q s R 0 nm t sz aod capd b (.app nm b) w u0 w.heap.size aon zn.length capn aow ys.length capw vl zl zn ys h hg hS hm ⟨rfl, rfl, rfl⟩ trivial hb0 (Nat.le_refl _) hbox
  have hbx := heap_alloc_new w (.cells #[.int .i64 0, .string nm, .string t, .int .i64 sz, .slice aod b.length capd] 48)
  obtain ⟨q0, q1, q2, q3, q4, d1, d3, hb1, fz⟩ := P
  generalize hw1 : w.alloc (.cells #[.int .i64 0, .string nm, .string t, .int .i64 sz, .slice aod b.length capd] 48) = w1 at *
  have HAt : Hid (∀ m, Calls Try.prog 41 #[.slice aon zn.length capn, .string nm] (w1.drewN m) fun e w' => e = .returned (.int .i64 (-1)) ∧ w' = w1.drewN m) := fun m => at_miss _ zn R nm ul ur _ ((h.fn.below hb1).below (bel_drewN w1 m)) hh (by omega)
  have HNm : Hid (∀ u, Calls Try.prog 42 #[.string nm] u fun e w' => e = .returned (.bool true) ∧ w' = u) := fun u => by rw [← hok]; exact rname_any nm _ hn
  have HUs : Hid (∀ u, Below w1.heap.size w1 u → ∀ m, Calls Try.prog 40 #[.pointer (some ⟨q, 0, none⟩)] (u.drewN m) fun e w' => e = .returned (.int .i64 (used s.now : Nat)) ∧ w' = u.drewN m) := fun u hu m => by
    have := rused_any q _ zn R (u.drewN m) (show u.cell? _ = _ from below_cell hu d1) (((h.fn.below hb1).below hu).below (bel_drewN _ m)) (by rw [h.e2]; omega)
    rw [h.e2] at this
    exact this
  have hr0 := hg.r0
  have hr1 := hg.r1
  generalize s.room = room at *
  obtain ⟨U, HU⟩ : ∃ U, Hid (U = used s.now) := ⟨_, (rfl : _ = _)⟩
  rw [← HU.out] at HUs hr hum
  have hUb : U ≤ 50000000 := by omega
  have hbl : b.length ≤ 50000000 := by omega
  have hcmp : ¬ room < (U : Int) + (b.length : Int) := by omega
  have hgd1 : decide (room < (U : Int) + (b.length : Int)) = false := by simpa using hcmp
  have hz64 : decide ((64 : Int) ≤ (zn.length : Int)) = false := by simp; omega
  have hz64' : ¬ (64 : Int) ≤ (zn.length : Int) := by omega
  clear h hum hnm hh hl hS hg hm hznl hok hr hao h64
  go_enter Try.func23, Try.ntmps23
  go_wp2_with fail
  go_quiet ((go_at_call 41; exact Calls.quiet_of_same (HAt.out _)))
  have hbx0 := (bel_drewN w1 nq).block w.heap.size (by have := (Array.getElem?_eq_some_iff.1 hbx).1; exact this)
  have hu := bel_drewN w1 nq
  rw [hbx] at hbx0
  generalize w1.drewN nq = u0 at *
  replace q0 := below_cell hu q0
  replace q1 := below_cell hu q1
  replace q2 := below_cell hu q2
  replace q3 := below_cell hu q3
  replace q4 := below_cell hu q4
  replace d1 := below_cell hu d1
  replace d3 := below_cell hu d3
  go_wp2_with (go_at_call 42; refine Calls.mono (HNm.out _) ?_; rintro e w' ⟨rfl, hw⟩; have hw' := hw.symm; subst hw')
  go_quiet ((go_at_call 40; exact Calls.quiet_of_same (HUs.out u0 hu _)))
  clear HNm HUs
  obtain ⟨ao1, L1, cap1, u1, hr1, e4, ef, u2, hu2, ⟨m0, m1, m2, m3, m4⟩, mq, HD⟩ := HT.out (u0.drewN nq) (hb1.trans ((hu.trans ((bel_drewN u0 nq).mono hu.size)).mono hb1.size)) hbx0
  clear HT hbx HAt hw1 hu fz
  go_wp2_with (at_builtin; refine wpList_append_run _ rfl (.const (.slice none 0 0)) (.tmp 76) 32 32 rfl _ _ rfl rfl (hr1 _) ?_)
  clear hr1 hbx0 q0 q1 q2 q3 q4 d1 d3
  go_wp2_with fail
  rw [← hu2]
  clear hu2 e4 ef
  go_region_with (go_at_call 39; refine Calls.mono HD.out ?_; rintro e u4 ⟨ao4, N4, cap4, rfl, ⟨n0, n1, n2, n3, n4⟩, nq1, nf, u5, hu5, HK5, H5, H6⟩; have HKB : Hid (∀ u, Below u5.heap.size u5 u → u.cell? ⟨w.heap.size, 0, none⟩ = some (.int .i64 0) ∧ u.cell? ⟨w.heap.size, 1, none⟩ = some (.string nm) ∧ u.cell? ⟨w.heap.size, 2, none⟩ = some (.string t) ∧ u.cell? ⟨w.heap.size, 3, none⟩ = some (.int .i64 sz) ∧ u.cell? ⟨w.heap.size, 4, none⟩ = some (.slice ao1 L1 cap1)) := fun u hb => ⟨(HK5.out u hb).1, (HK5.out u hb).2.1, (HK5.out u hb).2.2.1, (HK5.out u hb).2.2.2.1, (HK5.out u hb).2.2.2.2.1⟩)
  all_goals (
    clear m0 m1 m2 m3 m4 mq HD
    go_wp2_with fail
    rw [← hu5]
    clear hu5 n0 n1 n2 n3 n4 nq1 nf
    have hbd : Below u5.heap.size u5 u5.drew := (Below.refl _ _).drew
    have hq2 : u5.cell? ⟨q, 2, none⟩ = some (.slice aow ys.length capw) := (HK5.out _ (Below.refl _ _)).2.2.2.2.2
    have hq2a : ∀ ob, (u5.alloc ob).cell? ⟨q, 2, none⟩ = some (.slice aow ys.length capw) := fun ob => below_cell (bel_box _ ob) hq2
    have hq2b : ∀ ob, (u5.drew.alloc ob).cell? ⟨q, 2, none⟩ = some (.slice aow ys.length capw) := hq2a
    obtain ⟨p0, p1, p2, p3, p4⟩ := HKB.out _ (Below.refl _ _)
    go_region_law (first
      | (obtain ⟨ao6, L6, cap6, u6, hr6, hb6, HO6⟩ := H5.out u5.drew hbd; refine step_append_at (w0 := u5.drew) (by with_reducible rfl) (by rfl) (.const (.slice none 0 0)) (.tmp 92) 29 29 (by rfl) _ _ (by rfl) (by rfl) (hr6 _) ?_; clear hr6; obtain ⟨o0, o1, o2, o3, o4⟩ := HKB.out _ hb6.out)
      | (obtain ⟨ao7, L7, cap7, u7, hr7, hb7, f2, ff, HX⟩ := H6.out (u6.alloc (.cells #[.int .i64 0, .string nm, .string t, .int .i64 sz, .slice ao1 L1 cap1] 48)) u6.heap.size _ _ _ (hb6.out.alloc hb6.out.size _) (World.ownsRow.alloc HO6.out.2 _) (heap_alloc_new _ _); refine step_append_at (w0 := u6.alloc (.cells #[.int .i64 0, .string nm, .string t, .int .i64 sz, .slice ao1 L1 cap1] 48)) (by with_reducible rfl) (by rfl) (.tmp 93) (.tmp 95) 29 29 (by rfl) _ _ (by rfl) (by rfl) (hr7 _) ?_; clear hr7)
      | (obtain ⟨ao6, L6, cap6, u6b, hr6, hb6, HO6⟩ := H5.out (u5.alloc (.cells #[.int .i64 0, .string nm, .string t, .int .i64 sz, .slice ao1 L1 cap1] 48)).drew (bel_box _ _).drew; refine step_append_at (w0 := (u5.alloc (.cells #[.int .i64 0, .string nm, .string t, .int .i64 sz, .slice ao1 L1 cap1] 48)).drew) (by with_reducible rfl) (by rfl) (.const (.slice none 0 0)) (.tmp 92) 29 29 (by rfl) _ _ (by rfl) (by rfl) (hr6 _) ?_; clear hr6)
      | (obtain ⟨ao7, L7, cap7, u7, hr7, hb7, f2, ff, HX⟩ := H6.out u6b u5.heap.size _ _ _ hb6.out HO6.out.2 ((HO6.out.1.block u5.heap.size (by show _ < (u5.alloc _).heap.size; simp)).trans (heap_alloc_new u5 _)); refine step_append_at (w0 := u6b) (by with_reducible rfl) (by rfl) (.tmp 93) (.tmp 95) 29 29 (by rfl) _ _ (by rfl) (by rfl) (hr7 _) ?_; clear hr7)))
  all_goals go_wp2
  all_goals go_ret
  all_goals exact ⟨rfl, HX.out.1, HX.out.2⟩
end Go.Proofs.Ytleelemcmnlfiaa
namespace Go.Proofs.Ytleelemcmnlfiaa
open Go.RowKit
set_option linter.unusedVariables false

set_option maxHeartbeats 4000000 in
set_option maxRecDepth 20000 in
theorem rDo_cut_ok (q : Nat) (s : St) (R : Nat → Prop) (nm t : ByteArray) (k : Nat) (dv : Value) (b : List UInt8) (f : Fl) (w : World) (h : RD w q s R) (hg : s.good) (hS : Sl w dv b) (hn : nm.size ≤ 1000000000) (htn : t.size ≤ 1000000000) (hm : s.mass + b.length + 2 ≤ 50000000)
    (hl : look nm s.now = some f) (hk : k ≤ f.bs.length) :
    Calls Try.prog 23 #[.pointer (some ⟨q, 0, none⟩), .agg #[.int .i64 1, .string nm, .string t, .int .i64 (k : Int), dv]] w fun e w' => e = .returned (.int .i64 0) ∧ RD w' q (s.push (.cut nm k)) (ext R w w') ∧ Fr (fun k => k = q) w w' := by
  obtain ⟨vl, vn, vw, zl, zn, ys, h⟩ := h
  obtain ⟨aod, capd, rfl, _, _⟩ := hS.shape
  obtain ⟨aon, capn, rfl, hao⟩ := h.fn.shape
  obtain ⟨aow, capw, rfl, _⟩ := h.wt.shape
  have P := doPre h 1 nm t (k : Int) b aod capd
  have hnm := St.now_mass hg
  have hum := used_mass s.now
  have hznl : zn.length = s.now.length := by rw [← h.e2, List.length_map]
  rcases splitE nm zn (by rw [h.e2]; exact St.now_srt hg) with ⟨ul, z, ur, hh⟩ | ⟨ul, ur, hh⟩
  case inr => rw [← h.e2, hh.miss.lookE] at hl; simp at hl
  have HT : Hid (_) := fun (u0 : World) (hb0 : Below w.heap.size w u0) hbox => rDo_tail q s R 1 nm t (k : Int) aod capd b (.cut nm k) w u0 w.heap.size aon zn.length capn aow ys.length capw vl zl zn ys h hg hS hm ⟨rfl, rfl, rfl⟩ (fun f' hf' => by rw [hl] at hf'; cases hf'; exact hk) hb0 (Nat.le_refl _) hbox
  have hbx := heap_alloc_new w (.cells #[.int .i64 1, .string nm, .string t, .int .i64 (k : Int), .slice aod b.length capd] 48)
  obtain ⟨q0, q1, q2, q3, q4, d1, d3, hb1, fz⟩ := P
  generalize hw1 : w.alloc (.cells #[.int .i64 1, .string nm, .string t, .int .i64 (k : Int), .slice aod b.length capd] 48) = w1 at *
  have HAt : Hid (∀ m, Calls Try.prog 41 #[.slice aon zn.length capn, .string nm] (w1.drewN m) fun e w' => e = .returned (.int .i64 (ul.length : Int)) ∧ w' = w1.drewN m) := fun m => at_hit _ zn R nm ul z ur _ ((h.fn.below hb1).below (bel_drewN w1 m)) hh (by omega)
  have hlz : ul.length < zn.length := by rw [hh.1]; simp
  have hlt' : (ul.length : Int) < (zn.length : Int) := by omega
  obtain ⟨g, rfl⟩ := hao (by omega)
  obtain ⟨k0, k1⟩ := (h.fn.below hb1).cell ul.length hlz
  have hzz : zn[ul.length] = z := by simp only [hh.1]; simp
  obtain ⟨aoz, capz, hzd, _, _⟩ := (h.fn.data z (by rw [hh.1]; simp)).sl.shape
  rw [hzz, hzd] at k1
  have hzf : z.bs.length = f.bs.length := by
    have := hh.hit.lookE
    rw [h.e2, hl] at this
    simp only [Option.some.injEq] at this
    rw [this]
    rfl
  rw [hzf] at k1
  generalize f.bs.length = fl at *
  clear k0 hzz hzd hzf
  have hk0 : decide ((k : Int) < 0) = false := by simp
  have hkf : decide ((fl : Int) < (k : Int)) = false := by simp; omega
  have hkf' : ¬ (fl : Int) < (k : Int) := by omega
  clear h hum hnm hh hl hS hg hm hznl hao hk hlz
  go_enter Try.func23, Try.ntmps23
  go_wp2_with fail
  go_quiet ((go_at_call 41; exact Calls.quiet_of_same (HAt.out _)))
  have hbx0 := (bel_drewN w1 nq).block w.heap.size (by have := (Array.getElem?_eq_some_iff.1 hbx).1; exact this)
  have hu := bel_drewN w1 nq
  rw [hbx] at hbx0
  generalize w1.drewN nq = u0 at *
  replace q0 := below_cell hu q0
  replace q1 := below_cell hu q1
  replace q2 := below_cell hu q2
  replace q3 := below_cell hu q3
  replace q4 := below_cell hu q4
  replace d1 := below_cell hu d1
  replace d3 := below_cell hu d3
  replace k1 := below_cell hu k1
  go_wp2_with fail
  go_quiet (fail)
  obtain ⟨ao1, L1, cap1, u1, hr1, e4, ef, u2, hu2, ⟨m0, m1, m2, m3, m4⟩, mq, HD⟩ := HT.out (u0.drewN nq) (hb1.trans ((hu.trans ((bel_drewN u0 nq).mono hu.size)).mono hb1.size)) hbx0
  clear HT hbx HAt hw1 hu fz
  go_wp2_with (at_builtin; refine wpList_append_run _ rfl (.const (.slice none 0 0)) (.tmp 76) 32 32 rfl _ _ rfl rfl (hr1 _) ?_)
  clear hr1 hbx0 q0 q1 q2 q3 q4 d1 d3
  go_wp2_with fail
  rw [← hu2]
  clear hu2 e4 ef
  go_region_with (go_at_call 39; refine Calls.mono HD.out ?_; rintro e u4 ⟨ao4, N4, cap4, rfl, ⟨n0, n1, n2, n3, n4⟩, nq1, nf, u5, hu5, HK5, H5, H6⟩; have HKB : Hid (∀ u, Below u5.heap.size u5 u → u.cell? ⟨w.heap.size, 0, none⟩ = some (.int .i64 1) ∧ u.cell? ⟨w.heap.size, 1, none⟩ = some (.string nm) ∧ u.cell? ⟨w.heap.size, 2, none⟩ = some (.string t) ∧ u.cell? ⟨w.heap.size, 3, none⟩ = some (.int .i64 (k : Int)) ∧ u.cell? ⟨w.heap.size, 4, none⟩ = some (.slice ao1 L1 cap1)) := fun u hb => ⟨(HK5.out u hb).1, (HK5.out u hb).2.1, (HK5.out u hb).2.2.1, (HK5.out u hb).2.2.2.1, (HK5.out u hb).2.2.2.2.1⟩)
  all_goals (
    clear m0 m1 m2 m3 m4 mq HD
    go_wp2_with fail
    rw [← hu5]
    clear hu5 n0 n1 n2 n3 n4 nq1 nf
    have hbd : Below u5.heap.size u5 u5.drew := (Below.refl _ _).drew
    have hq2 : u5.cell? ⟨q, 2, none⟩ = some (.slice aow ys.length capw) := (HK5.out _ (Below.refl _ _)).2.2.2.2.2
    have hq2a : ∀ ob, (u5.alloc ob).cell? ⟨q, 2, none⟩ = some (.slice aow ys.length capw) := fun ob => below_cell (bel_box _ ob) hq2
    have hq2b : ∀ ob, (u5.drew.alloc ob).cell? ⟨q, 2, none⟩ = some (.slice aow ys.length capw) := hq2a
    obtain ⟨p0, p1, p2, p3, p4⟩ := HKB.out _ (Below.refl _ _)
    go_region_law (first
      | (obtain ⟨ao6, L6, cap6, u6, hr6, hb6, HO6⟩ := H5.out u5.drew hbd; refine step_append_at (w0 := u5.drew) (by with_reducible rfl) (by rfl) (.const (.slice none 0 0)) (.tmp 92) 29 29 (by rfl) _ _ (by rfl) (by rfl) (hr6 _) ?_; clear hr6; obtain ⟨o0, o1, o2, o3, o4⟩ := HKB.out _ hb6.out)
      | (obtain ⟨ao7, L7, cap7, u7, hr7, hb7, f2, ff, HX⟩ := H6.out (u6.alloc (.cells #[.int .i64 1, .string nm, .string t, .int .i64 (k : Int), .slice ao1 L1 cap1] 48)) u6.heap.size _ _ _ (hb6.out.alloc hb6.out.size _) (World.ownsRow.alloc HO6.out.2 _) (heap_alloc_new _ _); refine step_append_at (w0 := u6.alloc (.cells #[.int .i64 1, .string nm, .string t, .int .i64 (k : Int), .slice ao1 L1 cap1] 48)) (by with_reducible rfl) (by rfl) (.tmp 93) (.tmp 95) 29 29 (by rfl) _ _ (by rfl) (by rfl) (hr7 _) ?_; clear hr7)
      | (obtain ⟨ao6, L6, cap6, u6b, hr6, hb6, HO6⟩ := H5.out (u5.alloc (.cells #[.int .i64 1, .string nm, .string t, .int .i64 (k : Int), .slice ao1 L1 cap1] 48)).drew (bel_box _ _).drew; refine step_append_at (w0 := (u5.alloc (.cells #[.int .i64 1, .string nm, .string t, .int .i64 (k : Int), .slice ao1 L1 cap1] 48)).drew) (by with_reducible rfl) (by rfl) (.const (.slice none 0 0)) (.tmp 92) 29 29 (by rfl) _ _ (by rfl) (by rfl) (hr6 _) ?_; clear hr6)
      | (obtain ⟨ao7, L7, cap7, u7, hr7, hb7, f2, ff, HX⟩ := H6.out u6b u5.heap.size _ _ _ hb6.out HO6.out.2 ((HO6.out.1.block u5.heap.size (by show _ < (u5.alloc _).heap.size; simp)).trans (heap_alloc_new u5 _)); refine step_append_at (w0 := u6b) (by with_reducible rfl) (by rfl) (.tmp 93) (.tmp 95) 29 29 (by rfl) _ _ (by rfl) (by rfl) (hr7 _) ?_; clear hr7)))
  all_goals go_wp2
  all_goals go_ret
  all_goals exact ⟨rfl, HX.out.1, HX.out.2⟩
end Go.Proofs.Ytleelemcmnlfiaa
namespace Go.Proofs.Ytleelemcmnlfiaa
open Go.RowKit
set_option linter.unusedVariables false

set_option maxHeartbeats 4000000 in
set_option maxRecDepth 20000 in
theorem rDo_rem_ok (q : Nat) (s : St) (R : Nat → Prop) (nm t : ByteArray) (sz : Int) (dv : Value) (b : List UInt8) (f : Fl) (w : World) (h : RD w q s R) (hg : s.good) (hS : Sl w dv b) (hn : nm.size ≤ 1000000000) (htn : t.size ≤ 1000000000) (hm : s.mass + b.length + 2 ≤ 50000000)
    (hl : look nm s.now = some f) :
    Calls Try.prog 23 #[.pointer (some ⟨q, 0, none⟩), .agg #[.int .i64 2, .string nm, .string t, .int .i64 sz, dv]] w fun e w' => e = .returned (.int .i64 0) ∧ RD w' q (s.push (.rem nm)) (ext R w w') ∧ Fr (fun k => k = q) w w' := by
  obtain ⟨vl, vn, vw, zl, zn, ys, h⟩ := h
  obtain ⟨aod, capd, rfl, _, _⟩ := hS.shape
  obtain ⟨aon, capn, rfl, hao⟩ := h.fn.shape
  obtain ⟨aow, capw, rfl, _⟩ := h.wt.shape
  have P := doPre h 2 nm t sz b aod capd
  have hnm := St.now_mass hg
  have hum := used_mass s.now
  have hznl : zn.length = s.now.length := by rw [← h.e2, List.length_map]
  rcases splitE nm zn (by rw [h.e2]; exact St.now_srt hg) with ⟨ul, z, ur, hh⟩ | ⟨ul, ur, hh⟩
  case inr => rw [← h.e2, hh.miss.lookE] at hl; simp at hl
  have HT : Hid (_) := fun (u0 : World) (hb0 : Below w.heap.size w u0) hbox => rDo_tail q s R 2 nm t sz aod capd b (.rem nm) w u0 w.heap.size aon zn.length capn aow ys.length capw vl zl zn ys h hg hS hm ⟨rfl, rfl⟩ trivial hb0 (Nat.le_refl _) hbox
  have hbx := heap_alloc_new w (.cells #[.int .i64 2, .string nm, .string t, .int .i64 sz, .slice aod b.length capd] 48)
  obtain ⟨q0, q1, q2, q3, q4, d1, d3, hb1, fz⟩ := P
  generalize hw1 : w.alloc (.cells #[.int .i64 2, .string nm, .string t, .int .i64 sz, .slice aod b.length capd] 48) = w1 at *
  have HAt : Hid (∀ m, Calls Try.prog 41 #[.slice aon zn.length capn, .string nm] (w1.drewN m) fun e w' => e = .returned (.int .i64 (ul.length : Int)) ∧ w' = w1.drewN m) := fun m => at_hit _ zn R nm ul z ur _ ((h.fn.below hb1).below (bel_drewN w1 m)) hh (by omega)
  clear h hum hnm hh hl hS hg hm hznl hao
  go_enter Try.func23, Try.ntmps23
  go_wp2_with fail
  go_quiet ((go_at_call 41; exact Calls.quiet_of_same (HAt.out _)))
  have hbx0 := (bel_drewN w1 nq).block w.heap.size (by have := (Array.getElem?_eq_some_iff.1 hbx).1; exact this)
  have hu := bel_drewN w1 nq
  rw [hbx] at hbx0
  generalize w1.drewN nq = u0 at *
  replace q0 := below_cell hu q0
  replace q1 := below_cell hu q1
  replace q2 := below_cell hu q2
  replace q3 := below_cell hu q3
  replace q4 := below_cell hu q4
  replace d1 := below_cell hu d1
  replace d3 := below_cell hu d3
  obtain ⟨ao1, L1, cap1, u1, hr1, e4, ef, u2, hu2, ⟨m0, m1, m2, m3, m4⟩, mq, HD⟩ := HT.out u0 (hb1.trans (hu.mono hb1.size)) hbx0
  clear HT hbx HAt hw1 hu fz
  go_wp2_with (at_builtin; refine wpList_append_run _ rfl (.const (.slice none 0 0)) (.tmp 76) 32 32 rfl _ _ rfl rfl (hr1 _) ?_)
  clear hr1 hbx0 q0 q1 q2 q3 q4 d1 d3
  go_wp2_with fail
  rw [← hu2]
  clear hu2 e4 ef
  go_region_with (go_at_call 39; refine Calls.mono HD.out ?_; rintro e u4 ⟨ao4, N4, cap4, rfl, ⟨n0, n1, n2, n3, n4⟩, nq1, nf, u5, hu5, HK5, H5, H6⟩; have HKB : Hid (∀ u, Below u5.heap.size u5 u → u.cell? ⟨w.heap.size, 0, none⟩ = some (.int .i64 2) ∧ u.cell? ⟨w.heap.size, 1, none⟩ = some (.string nm) ∧ u.cell? ⟨w.heap.size, 2, none⟩ = some (.string t) ∧ u.cell? ⟨w.heap.size, 3, none⟩ = some (.int .i64 sz) ∧ u.cell? ⟨w.heap.size, 4, none⟩ = some (.slice ao1 L1 cap1)) := fun u hb => ⟨(HK5.out u hb).1, (HK5.out u hb).2.1, (HK5.out u hb).2.2.1, (HK5.out u hb).2.2.2.1, (HK5.out u hb).2.2.2.2.1⟩)
  all_goals (
    clear m0 m1 m2 m3 m4 mq HD
    go_wp2_with fail
    rw [← hu5]
    clear hu5 n0 n1 n2 n3 n4 nq1 nf
    have hbd : Below u5.heap.size u5 u5.drew := (Below.refl _ _).drew
    have hq2 : u5.cell? ⟨q, 2, none⟩ = some (.slice aow ys.length capw) := (HK5.out _ (Below.refl _ _)).2.2.2.2.2
    have hq2a : ∀ ob, (u5.alloc ob).cell? ⟨q, 2, none⟩ = some (.slice aow ys.length capw) := fun ob => below_cell (bel_box _ ob) hq2
    have hq2b : ∀ ob, (u5.drew.alloc ob).cell? ⟨q, 2, none⟩ = some (.slice aow ys.length capw) := hq2a
    obtain ⟨p0, p1, p2, p3, p4⟩ := HKB.out _ (Below.refl _ _)
    go_region_law (first
      | (obtain ⟨ao6, L6, cap6, u6, hr6, hb6, HO6⟩ := H5.out u5.drew hbd; refine step_append_at (w0 := u5.drew) (by with_reducible rfl) (by rfl) (.const (.slice none 0 0)) (.tmp 92) 29 29 (by rfl) _ _ (by rfl) (by rfl) (hr6 _) ?_; clear hr6; obtain ⟨o0, o1, o2, o3, o4⟩ := HKB.out _ hb6.out)
      | (obtain ⟨ao7, L7, cap7, u7, hr7, hb7, f2, ff, HX⟩ := H6.out (u6.alloc (.cells #[.int .i64 2, .string nm, .string t, .int .i64 sz, .slice ao1 L1 cap1] 48)) u6.heap.size _ _ _ (hb6.out.alloc hb6.out.size _) (World.ownsRow.alloc HO6.out.2 _) (heap_alloc_new _ _); refine step_append_at (w0 := u6.alloc (.cells #[.int .i64 2, .string nm, .string t, .int .i64 sz, .slice ao1 L1 cap1] 48)) (by with_reducible rfl) (by rfl) (.tmp 93) (.tmp 95) 29 29 (by rfl) _ _ (by rfl) (by rfl) (hr7 _) ?_; clear hr7)
      | (obtain ⟨ao6, L6, cap6, u6b, hr6, hb6, HO6⟩ := H5.out (u5.alloc (.cells #[.int .i64 2, .string nm, .string t, .int .i64 sz, .slice ao1 L1 cap1] 48)).drew (bel_box _ _).drew; refine step_append_at (w0 := (u5.alloc (.cells #[.int .i64 2, .string nm, .string t, .int .i64 sz, .slice ao1 L1 cap1] 48)).drew) (by with_reducible rfl) (by rfl) (.const (.slice none 0 0)) (.tmp 92) 29 29 (by rfl) _ _ (by rfl) (by rfl) (hr6 _) ?_; clear hr6)
      | (obtain ⟨ao7, L7, cap7, u7, hr7, hb7, f2, ff, HX⟩ := H6.out u6b u5.heap.size _ _ _ hb6.out HO6.out.2 ((HO6.out.1.block u5.heap.size (by show _ < (u5.alloc _).heap.size; simp)).trans (heap_alloc_new u5 _)); refine step_append_at (w0 := u6b) (by with_reducible rfl) (by rfl) (.tmp 93) (.tmp 95) 29 29 (by rfl) _ _ (by rfl) (by rfl) (hr7 _) ?_; clear hr7)))
  all_goals go_wp2
  all_goals go_ret
  all_goals exact ⟨rfl, HX.out.1, HX.out.2⟩
end Go.Proofs.Ytleelemcmnlfiaa

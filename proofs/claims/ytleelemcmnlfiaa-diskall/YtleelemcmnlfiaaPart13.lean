/- The walk of the document's Do: Move. The walks of the document's Do that refuses. The walks of a disk's Append that is refused. -/
import Derived.Test.YtleelemcmnlfiaaPart12
import Derived.Test.YtleelemcmnlfiaaPart11
import Derived.Test.YtleelemcmnlfiaaPart06
namespace Go.Proofs.Ytleelemcmnlfiaa
open Go.RowKit
set_option linter.unusedVariables false

set_option maxHeartbeats 4000000 in
set_option maxRecDepth 20000 in
theorem rDo_mov_ok (q : Nat) (s : St) (R : Nat → Prop) (nm t : ByteArray) (sz : Int) (dv : Value) (b : List UInt8) (f : Fl) (w : World) (h : RD w q s R) (hg : s.good) (hS : Sl w dv b) (hn : nm.size ≤ 1000000000) (htn : t.size ≤ 1000000000) (hm : s.mass + b.length + 2 ≤ 50000000)
    (hok : okN t = true) (hl : look nm s.now = some f) :
    Calls Try.prog 23 #[.pointer (some ⟨q, 0, none⟩), .agg #[.int .i64 3, .string nm, .string t, .int .i64 sz, dv]] w fun e w' => e = .returned (.int .i64 0) ∧ RD w' q (s.push (.mov nm t)) (ext R w w') ∧ Fr (fun k => k = q) w w' := by
  obtain ⟨vl, vn, vw, zl, zn, ys, h⟩ := h
  obtain ⟨aod, capd, rfl, _, _⟩ := hS.shape
  obtain ⟨aon, capn, rfl, hao⟩ := h.fn.shape
  obtain ⟨aow, capw, rfl, _⟩ := h.wt.shape
  have P := doPre h 3 nm t sz b aod capd
  have hnm := St.now_mass hg
  have hum := used_mass s.now
  have hznl : zn.length = s.now.length := by rw [← h.e2, List.length_map]
  rcases splitE nm zn (by rw [h.e2]; exact St.now_srt hg) with ⟨ul, z, ur, hh⟩ | ⟨ul, ur, hh⟩
  case inr => rw [← h.e2, hh.miss.lookE] at hl; simp at hl
  have HT : Hid (_) := fun (u0 : World) (hb0 : Below w.heap.size w u0) hbox => rDo_tail q s R 3 nm t sz aod capd b (.mov nm t) w u0 w.heap.size aon zn.length capn aow ys.length capw vl zl zn ys h hg hS hm ⟨rfl, rfl, rfl⟩ trivial hb0 (Nat.le_refl _) hbox
  have hbx := heap_alloc_new w (.cells #[.int .i64 3, .string nm, .string t, .int .i64 sz, .slice aod b.length capd] 48)
  obtain ⟨q0, q1, q2, q3, q4, d1, d3, hb1, fz⟩ := P
  generalize hw1 : w.alloc (.cells #[.int .i64 3, .string nm, .string t, .int .i64 sz, .slice aod b.length capd] 48) = w1 at *
  have HAt : Hid (∀ m, Calls Try.prog 41 #[.slice aon zn.length capn, .string nm] (w1.drewN m) fun e w' => e = .returned (.int .i64 (ul.length : Int)) ∧ w' = w1.drewN m) := fun m => at_hit _ zn R nm ul z ur _ ((h.fn.below hb1).below (bel_drewN w1 m)) hh (by omega)
  have HNm : Hid (∀ u, Calls Try.prog 42 #[.string t] u fun e w' => e = .returned (.bool true) ∧ w' = u) := fun u => by rw [← hok]; exact rname_any t _ htn
  clear h hum hnm hh hl hS hg hm hznl hao hok
  go_enter Try.func23, Try.ntmps23
  go_wp2_with fail
  go_quiet ((go_at_call 41; exact Calls.quiet_of_same (HAt.out _)))
  have hbx0 := (bel_drewN w1 nq).block w.heap.size (by have := (Array.getElem?_eq_some_iff.1 hbx).1; exact this)
  have hu := bel_drewN w1 nq
  rw [hbx] at hbx0
  generalize w1.drewN nq = u0 at *
  replace q0 := below_cell hu q0
  replace q1 := below_cell hu q1
  replace q2 := below_cell hu q2
  replace q3 := below_cell hu q3
  replace q4 := below_cell hu q4
  replace d1 := below_cell hu d1
  replace d3 := below_cell hu d3
  obtain ⟨ao1, L1, cap1, u1, hr1, e4, ef, u2, hu2, ⟨m0, m1, m2, m3, m4⟩, mq, HD⟩ := HT.out u0 (hb1.trans (hu.mono hb1.size)) hbx0
  clear HT hbx HAt hw1 hu fz
  go_wp2_with (first | (go_at_call 42; refine Calls.mono (HNm.out _) ?_; rintro e w' ⟨rfl, hw⟩; have hw' := hw.symm; subst hw') | (at_builtin; refine wpList_append_run _ rfl (.const (.slice none 0 0)) (.tmp 76) 32 32 rfl _ _ rfl rfl (hr1 _) ?_))
  clear hr1 hbx0 q0 q1 q2 q3 q4 d1 d3
  go_wp2_with fail
  rw [← hu2]
  clear hu2 e4 ef
  go_region_with (go_at_call 39; refine Calls.mono HD.out ?_; rintro e u4 ⟨ao4, N4, cap4, rfl, ⟨n0, n1, n2, n3, n4⟩, nq1, nf, u5, hu5, HK5, H5, H6⟩; have HKB : Hid (∀ u, Below u5.heap.size u5 u → u.cell? ⟨w.heap.size, 0, none⟩ = some (.int .i64 3) ∧ u.cell? ⟨w.heap.size, 1, none⟩ = some (.string nm) ∧ u.cell? ⟨w.heap.size, 2, none⟩ = some (.string t) ∧ u.cell? ⟨w.heap.size, 3, none⟩ = some (.int .i64 sz) ∧ u.cell? ⟨w.heap.size, 4, none⟩ = some (.slice ao1 L1 cap1)) := fun u hb => ⟨(HK5.out u hb).1, (HK5.out u hb).2.1, (HK5.out u hb).2.2.1, (HK5.out u hb).2.2.2.1, (HK5.out u hb).2.2.2.2.1⟩)
  all_goals (
    clear m0 m1 m2 m3 m4 mq HD
    go_wp2_with fail
    rw [← hu5]
    clear hu5 n0 n1 n2 n3 n4 nq1 nf
    have hbd : Below u5.heap.size u5 u5.drew := (Below.refl _ _).drew
    have hq2 : u5.cell? ⟨q, 2, none⟩ = some (.slice aow ys.length capw) := (HK5.out _ (Below.refl _ _)).2.2.2.2.2
    have hq2a : ∀ ob, (u5.alloc ob).cell? ⟨q, 2, none⟩ = some (.slice aow ys.length capw) := fun ob => below_cell (bel_box _ ob) hq2
    have hq2b : ∀ ob, (u5.drew.alloc ob).cell? ⟨q, 2, none⟩ = some (.slice aow ys.length capw) := hq2a
    obtain ⟨p0, p1, p2, p3, p4⟩ := HKB.out _ (Below.refl _ _)
    go_region_law (first
      | (obtain ⟨ao6, L6, cap6, u6, hr6, hb6, HO6⟩ := H5.out u5.drew hbd; refine step_append_at (w0 := u5.drew) (by with_reducible rfl) (by rfl) (.const (.slice none 0 0)) (.tmp 92) 29 29 (by rfl) _ _ (by rfl) (by rfl) (hr6 _) ?_; clear hr6; obtain ⟨o0, o1, o2, o3, o4⟩ := HKB.out _ hb6.out)
      | (obtain ⟨ao7, L7, cap7, u7, hr7, hb7, f2, ff, HX⟩ := H6.out (u6.alloc (.cells #[.int .i64 3, .string nm, .string t, .int .i64 sz, .slice ao1 L1 cap1] 48)) u6.heap.size _ _ _ (hb6.out.alloc hb6.out.size _) (World.ownsRow.alloc HO6.out.2 _) (heap_alloc_new _ _); refine step_append_at (w0 := u6.alloc (.cells #[.int .i64 3, .string nm, .string t, .int .i64 sz, .slice ao1 L1 cap1] 48)) (by with_reducible rfl) (by rfl) (.tmp 93) (.tmp 95) 29 29 (by rfl) _ _ (by rfl) (by rfl) (hr7 _) ?_; clear hr7)
      | (obtain ⟨ao6, L6, cap6, u6b, hr6, hb6, HO6⟩ := H5.out (u5.alloc (.cells #[.int .i64 3, .string nm, .string t, .int .i64 sz, .slice ao1 L1 cap1] 48)).drew (bel_box _ _).drew; refine step_append_at (w0 := (u5.alloc (.cells #[.int .i64 3, .string nm, .string t, .int .i64 sz, .slice ao1 L1 cap1] 48)).drew) (by with_reducible rfl) (by rfl) (.const (.slice none 0 0)) (.tmp 92) 29 29 (by rfl) _ _ (by rfl) (by rfl) (hr6 _) ?_; clear hr6)
      | (obtain ⟨ao7, L7, cap7, u7, hr7, hb7, f2, ff, HX⟩ := H6.out u6b u5.heap.size _ _ _ hb6.out HO6.out.2 ((HO6.out.1.block u5.heap.size (by show _ < (u5.alloc _).heap.size; simp)).trans (heap_alloc_new u5 _)); refine step_append_at (w0 := u6b) (by with_reducible rfl) (by rfl) (.tmp 93) (.tmp 95) 29 29 (by rfl) _ _ (by rfl) (by rfl) (hr7 _) ?_; clear hr7)))
  all_goals go_wp2
  all_goals go_ret
  all_goals exact ⟨rfl, HX.out.1, HX.out.2⟩
end Go.Proofs.Ytleelemcmnlfiaa
namespace Go.Proofs.Ytleelemcmnlfiaa
open Go.RowKit
set_option linter.unusedVariables false

set_option maxHeartbeats 4000000 in
set_option maxRecDepth 20000 in
theorem rDo_app_form_hit (q : Nat) (s : St) (R : Nat → Prop) (nm t : ByteArray) (sz : Int) (dv : Value) (b : List UInt8) (f : Fl) (w : World) (h : RD w q s R) (hg : s.good) (hS : Sl w dv b) (hn : nm.size ≤ 1000000000) (htn : t.size ≤ 1000000000) (hm : s.mass + b.length + 2 ≤ 50000000)
    (hok : okN nm = false) (hl : look nm s.now = some f) :
    Calls Try.prog 23 #[.pointer (some ⟨q, 0, none⟩), .agg #[.int .i64 0, .string nm, .string t, .int .i64 sz, dv]] w fun e w' => e = .returned (.int .i64 3) ∧ Below w.heap.size w w' := by
  obtain ⟨vl, vn, vw, zl, zn, ys, h⟩ := h
  obtain ⟨aod, capd, rfl, _, _⟩ := hS.shape
  obtain ⟨aon, capn, rfl, hao⟩ := h.fn.shape
  obtain ⟨aow, capw, rfl, _⟩ := h.wt.shape
  have P := doPre h 0 nm t sz b aod capd
  have hnm := St.now_mass hg
  have hum := used_mass s.now
  have hznl : zn.length = s.now.length := by rw [← h.e2, List.length_map]
  rcases splitE nm zn (by rw [h.e2]; exact St.now_srt hg) with ⟨ul, z, ur, hh⟩ | ⟨ul, ur, hh⟩
  case inr => rw [← h.e2, hh.miss.lookE] at hl; simp at hl
  have hbx := heap_alloc_new w (.cells #[.int .i64 0, .string nm, .string t, .int .i64 sz, .slice aod b.length capd] 48)
  obtain ⟨q0, q1, q2, q3, q4, d1, d3, hb1, fz⟩ := P
  generalize hw1 : w.alloc (.cells #[.int .i64 0, .string nm, .string t, .int .i64 sz, .slice aod b.length capd] 48) = w1 at *
  have HAt : Hid (∀ m, Calls Try.prog 41 #[.slice aon zn.length capn, .string nm] (w1.drewN m) fun e w' => e = .returned (.int .i64 (ul.length : Int)) ∧ w' = w1.drewN m) := fun m => at_hit _ zn R nm ul z ur _ ((h.fn.below hb1).below (bel_drewN w1 m)) hh (by omega)
  have HNm : Hid (∀ u, Calls Try.prog 42 #[.string nm] u fun e w' => e = .returned (.bool false) ∧ w' = u) := fun u => by rw [← hok]; exact rname_any nm _ hn
  clear h hum hnm hh hl hS hg hm hznl hok hao
  go_enter Try.func23, Try.ntmps23
  go_wp2_with fail
  go_quiet ((go_at_call 41; exact Calls.quiet_of_same (HAt.out _)))
  have hbx0 := (bel_drewN w1 nq).block w.heap.size (by have := (Array.getElem?_eq_some_iff.1 hbx).1; exact this)
  have hu := bel_drewN w1 nq
  rw [hbx] at hbx0
  generalize w1.drewN nq = u0 at *
  replace q0 := below_cell hu q0
  replace q1 := below_cell hu q1
  replace q2 := below_cell hu q2
  replace q3 := below_cell hu q3
  replace q4 := below_cell hu q4
  replace d1 := below_cell hu d1
  replace d3 := below_cell hu d3
  go_wp2_with (go_at_call 42; refine Calls.mono (HNm.out _) ?_; rintro e w' ⟨rfl, hw⟩; have hw' := hw.symm; subst hw')
  go_ret
  exact ⟨rfl, hb1.trans (hu.mono hb1.size)⟩

set_option maxHeartbeats 4000000 in
set_option maxRecDepth 20000 in
theorem rDo_app_form_miss (q : Nat) (s : St) (R : Nat → Prop) (nm t : ByteArray) (sz : Int) (dv : Value) (b : List UInt8)  (w : World) (h : RD w q s R) (hg : s.good) (hS : Sl w dv b) (hn : nm.size ≤ 1000000000) (htn : t.size ≤ 1000000000) (hm : s.mass + b.length + 2 ≤ 50000000)
    (hok : okN nm = false) (hl : look nm s.now = none) :
    Calls Try.prog 23 #[.pointer (some ⟨q, 0, none⟩), .agg #[.int .i64 0, .string nm, .string t, .int .i64 sz, dv]] w fun e w' => e = .returned (.int .i64 3) ∧ Below w.heap.size w w' := by
  obtain ⟨vl, vn, vw, zl, zn, ys, h⟩ := h
  obtain ⟨aod, capd, rfl, _, _⟩ := hS.shape
  obtain ⟨aon, capn, rfl, hao⟩ := h.fn.shape
  obtain ⟨aow, capw, rfl, _⟩ := h.wt.shape
  have P := doPre h 0 nm t sz b aod capd
  have hnm := St.now_mass hg
  have hum := used_mass s.now
  have hznl : zn.length = s.now.length := by rw [← h.e2, List.length_map]
  rcases splitE nm zn (by rw [h.e2]; exact St.now_srt hg) with ⟨ul, z, ur, hh⟩ | ⟨ul, ur, hh⟩
  case inl => rw [← h.e2, hh.hit.lookE] at hl; simp at hl
  have hbx := heap_alloc_new w (.cells #[.int .i64 0, .string nm, .string t, .int .i64 sz, .slice aod b.length capd] 48)
  obtain ⟨q0, q1, q2, q3, q4, d1, d3, hb1, fz⟩ := P
  generalize hw1 : w.alloc (.cells #[.int .i64 0, .string nm, .string t, .int .i64 sz, .slice aod b.length capd] 48) = w1 at *
  have HAt : Hid (∀ m, Calls Try.prog 41 #[.slice aon zn.length capn, .string nm] (w1.drewN m) fun e w' => e = .returned (.int .i64 (-1)) ∧ w' = w1.drewN m) := fun m => at_miss _ zn R nm ul ur _ ((h.fn.below hb1).below (bel_drewN w1 m)) hh (by omega)
  have HNm : Hid (∀ u, Calls Try.prog 42 #[.string nm] u fun e w' => e = .returned (.bool false) ∧ w' = u) := fun u => by rw [← hok]; exact rname_any nm _ hn
  clear h hum hnm hh hl hS hg hm hznl hok hao
  go_enter Try.func23, Try.ntmps23
  go_wp2_with fail
  go_quiet ((go_at_call 41; exact Calls.quiet_of_same (HAt.out _)))
  have hbx0 := (bel_drewN w1 nq).block w.heap.size (by have := (Array.getElem?_eq_some_iff.1 hbx).1; exact this)
  have hu := bel_drewN w1 nq
  rw [hbx] at hbx0
  generalize w1.drewN nq = u0 at *
  replace q0 := below_cell hu q0
  replace q1 := below_cell hu q1
  replace q2 := below_cell hu q2
  replace q3 := below_cell hu q3
  replace q4 := below_cell hu q4
  replace d1 := below_cell hu d1
  replace d3 := below_cell hu d3
  go_wp2_with (go_at_call 42; refine Calls.mono (HNm.out _) ?_; rintro e w' ⟨rfl, hw⟩; have hw' := hw.symm; subst hw')
  go_ret
  exact ⟨rfl, hb1.trans (hu.mono hb1.size)⟩

set_option maxHeartbeats 4000000 in
set_option maxRecDepth 20000 in
theorem rDo_app_room_hit (q : Nat) (s : St) (R : Nat → Prop) (nm t : ByteArray) (sz : Int) (dv : Value) (b : List UInt8) (f : Fl) (w : World) (h : RD w q s R) (hg : s.good) (hS : Sl w dv b) (hn : nm.size ≤ 1000000000) (htn : t.size ≤ 1000000000) (hm : s.mass + b.length + 2 ≤ 50000000)
    (hok : okN nm = true) (hr : s.room < (used s.now : Int) + b.length) (hl : look nm s.now = some f) :
    Calls Try.prog 23 #[.pointer (some ⟨q, 0, none⟩), .agg #[.int .i64 0, .string nm, .string t, .int .i64 sz, dv]] w fun e w' => e = .returned (.int .i64 2) ∧ Below w.heap.size w w' := by
  obtain ⟨vl, vn, vw, zl, zn, ys, h⟩ := h
  obtain ⟨aod, capd, rfl, _, _⟩ := hS.shape
  obtain ⟨aon, capn, rfl, hao⟩ := h.fn.shape
  obtain ⟨aow, capw, rfl, _⟩ := h.wt.shape
  have P := doPre h 0 nm t sz b aod capd
  have hnm := St.now_mass hg
  have hum := used_mass s.now
  have hznl : zn.length = s.now.length := by rw [← h.e2, List.length_map]
  rcases splitE nm zn (by rw [h.e2]; exact St.now_srt hg) with ⟨ul, z, ur, hh⟩ | ⟨ul, ur, hh⟩
  case inr => rw [← h.e2, hh.miss.lookE] at hl; simp at hl
  have hbx := heap_alloc_new w (.cells #[.int .i64 0, .string nm, .string t, .int .i64 sz, .slice aod b.length capd] 48)
  obtain ⟨q0, q1, q2, q3, q4, d1, d3, hb1, fz⟩ := P
  generalize hw1 : w.alloc (.cells #[.int .i64 0, .string nm, .string t, .int .i64 sz, .slice aod b.length capd] 48) = w1 at *
  have HAt : Hid (∀ m, Calls Try.prog 41 #[.slice aon zn.length capn, .string nm] (w1.drewN m) fun e w' => e = .returned (.int .i64 (ul.length : Int)) ∧ w' = w1.drewN m) := fun m => at_hit _ zn R nm ul z ur _ ((h.fn.below hb1).below (bel_drewN w1 m)) hh (by omega)
  have HNm : Hid (∀ u, Calls Try.prog 42 #[.string nm] u fun e w' => e = .returned (.bool true) ∧ w' = u) := fun u => by rw [← hok]; exact rname_any nm _ hn
  have HUs : Hid (∀ u, Below w1.heap.size w1 u → ∀ m, Calls Try.prog 40 #[.pointer (some ⟨q, 0, none⟩)] (u.drewN m) fun e w' => e = .returned (.int .i64 (used s.now : Nat)) ∧ w' = u.drewN m) := fun u hu m => by
    have := rused_any q _ zn R (u.drewN m) (show u.cell? _ = _ from below_cell hu d1) (((h.fn.below hb1).below hu).below (bel_drewN _ m)) (by rw [h.e2]; omega)
    rw [h.e2] at this
    exact this
  have hr0 := hg.r0
  have hr1 := hg.r1
  generalize s.room = room at *
  obtain ⟨U, HU⟩ : ∃ U, Hid (U = used s.now) := ⟨_, (rfl : _ = _)⟩
  rw [← HU.out] at HUs hr hum
  have hUb : U ≤ 50000000 := by omega
  have hbl : b.length ≤ 50000000 := by omega
  have hcmp : room < (U : Int) + (b.length : Int) := by omega
  have hgd1 : decide (room < (U : Int) + (b.length : Int)) = true := by simpa using hcmp
  clear h hum hnm hh hl hS hg hm hznl hok hr hao
  go_enter Try.func23, Try.ntmps23
  go_wp2_with fail
  go_quiet ((go_at_call 41; exact Calls.quiet_of_same (HAt.out _)))
  have hbx0 := (bel_drewN w1 nq).block w.heap.size (by have := (Array.getElem?_eq_some_iff.1 hbx).1; exact this)
  have hu := bel_drewN w1 nq
  rw [hbx] at hbx0
  generalize w1.drewN nq = u0 at *
  replace q0 := below_cell hu q0
  replace q1 := below_cell hu q1
  replace q2 := below_cell hu q2
  replace q3 := below_cell hu q3
  replace q4 := below_cell hu q4
  replace d1 := below_cell hu d1
  replace d3 := below_cell hu d3
  go_wp2_with (go_at_call 42; refine Calls.mono (HNm.out _) ?_; rintro e w' ⟨rfl, hw⟩; have hw' := hw.symm; subst hw')
  go_quiet ((go_at_call 40; exact Calls.quiet_of_same (HUs.out u0 hu _)))
  go_wp2
  go_ret
  exact ⟨rfl, hb1.trans ((hu.trans ((bel_drewN u0 nq).mono hu.size)).mono hb1.size)⟩

set_option maxHeartbeats 4000000 in
set_option maxRecDepth 20000 in
theorem rDo_app_room_miss (q : Nat) (s : St) (R : Nat → Prop) (nm t : ByteArray) (sz : Int) (dv : Value) (b : List UInt8)  (w : World) (h : RD w q s R) (hg : s.good) (hS : Sl w dv b) (hn : nm.size ≤ 1000000000) (htn : t.size ≤ 1000000000) (hm : s.mass + b.length + 2 ≤ 50000000)
    (hok : okN nm = true) (hr : s.room < (used s.now : Int) + b.length) (hl : look nm s.now = none) :
    Calls Try.prog 23 #[.pointer (some ⟨q, 0, none⟩), .agg #[.int .i64 0, .string nm, .string t, .int .i64 sz, dv]] w fun e w' => e = .returned (.int .i64 2) ∧ Below w.heap.size w w' := by
  obtain ⟨vl, vn, vw, zl, zn, ys, h⟩ := h
  obtain ⟨aod, capd, rfl, _, _⟩ := hS.shape
  obtain ⟨aon, capn, rfl, hao⟩ := h.fn.shape
  obtain ⟨aow, capw, rfl, _⟩ := h.wt.shape
  have P := doPre h 0 nm t sz b aod capd
  have hnm := St.now_mass hg
  have hum := used_mass s.now
  have hznl : zn.length = s.now.length := by rw [← h.e2, List.length_map]
  rcases splitE nm zn (by rw [h.e2]; exact St.now_srt hg) with ⟨ul, z, ur, hh⟩ | ⟨ul, ur, hh⟩
  case inl => rw [← h.e2, hh.hit.lookE] at hl; simp at hl
  have hbx := heap_alloc_new w (.cells #[.int .i64 0, .string nm, .string t, .int .i64 sz, .slice aod b.length capd] 48)
  obtain ⟨q0, q1, q2, q3, q4, d1, d3, hb1, fz⟩ := P
  generalize hw1 : w.alloc (.cells #[.int .i64 0, .string nm, .string t, .int .i64 sz, .slice aod b.length capd] 48) = w1 at *
  have HAt : Hid (∀ m, Calls Try.prog 41 #[.slice aon zn.length capn, .string nm] (w1.drewN m) fun e w' => e = .returned (.int .i64 (-1)) ∧ w' = w1.drewN m) := fun m => at_miss _ zn R nm ul ur _ ((h.fn.below hb1).below (bel_drewN w1 m)) hh (by omega)
  have HNm : Hid (∀ u, Calls Try.prog 42 #[.string nm] u fun e w' => e = .returned (.bool true) ∧ w' = u) := fun u => by rw [← hok]; exact rname_any nm _ hn
  have HUs : Hid (∀ u, Below w1.heap.size w1 u → ∀ m, Calls Try.prog 40 #[.pointer (some ⟨q, 0, none⟩)] (u.drewN m) fun e w' => e = .returned (.int .i64 (used s.now : Nat)) ∧ w' = u.drewN m) := fun u hu m => by
    have := rused_any q _ zn R (u.drewN m) (show u.cell? _ = _ from below_cell hu d1) (((h.fn.below hb1).below hu).below (bel_drewN _ m)) (by rw [h.e2]; omega)
    rw [h.e2] at this
    exact this
  have hr0 := hg.r0
  have hr1 := hg.r1
  generalize s.room = room at *
  obtain ⟨U, HU⟩ : ∃ U, Hid (U = used s.now) := ⟨_, (rfl : _ = _)⟩
  rw [← HU.out] at HUs hr hum
  have hUb : U ≤ 50000000 := by omega
  have hbl : b.length ≤ 50000000 := by omega
  have hcmp : room < (U : Int) + (b.length : Int) := by omega
  have hgd1 : decide (room < (U : Int) + (b.length : Int)) = true := by simpa using hcmp
  clear h hum hnm hh hl hS hg hm hznl hok hr hao
  go_enter Try.func23, Try.ntmps23
  go_wp2_with fail
  go_quiet ((go_at_call 41; exact Calls.quiet_of_same (HAt.out _)))
  have hbx0 := (bel_drewN w1 nq).block w.heap.size (by have := (Array.getElem?_eq_some_iff.1 hbx).1; exact this)
  have hu := bel_drewN w1 nq
  rw [hbx] at hbx0
  generalize w1.drewN nq = u0 at *
  replace q0 := below_cell hu q0
  replace q1 := below_cell hu q1
  replace q2 := below_cell hu q2
  replace q3 := below_cell hu q3
  replace q4 := below_cell hu q4
  replace d1 := below_cell hu d1
  replace d3 := below_cell hu d3
  go_wp2_with (go_at_call 42; refine Calls.mono (HNm.out _) ?_; rintro e w' ⟨rfl, hw⟩; have hw' := hw.symm; subst hw')
  go_quiet ((go_at_call 40; exact Calls.quiet_of_same (HUs.out u0 hu _)))
  go_wp2
  go_ret
  exact ⟨rfl, hb1.trans ((hu.trans ((bel_drewN u0 nq).mono hu.size)).mono hb1.size)⟩

set_option maxHeartbeats 4000000 in
set_option maxRecDepth 20000 in
theorem rDo_app_many (q : Nat) (s : St) (R : Nat → Prop) (nm t : ByteArray) (sz : Int) (dv : Value) (b : List UInt8)  (w : World) (h : RD w q s R) (hg : s.good) (hS : Sl w dv b) (hn : nm.size ≤ 1000000000) (htn : t.size ≤ 1000000000) (hm : s.mass + b.length + 2 ≤ 50000000)
    (hok : okN nm = true) (hr : (used s.now : Int) + b.length ≤ s.room) (hl : look nm s.now = none) (h64 : 64 ≤ s.now.length) :
    Calls Try.prog 23 #[.pointer (some ⟨q, 0, none⟩), .agg #[.int .i64 0, .string nm, .string t, .int .i64 sz, dv]] w fun e w' => e = .returned (.int .i64 2) ∧ Below w.heap.size w w' := by
  obtain ⟨vl, vn, vw, zl, zn, ys, h⟩ := h
  obtain ⟨aod, capd, rfl, _, _⟩ := hS.shape
  obtain ⟨aon, capn, rfl, hao⟩ := h.fn.shape
  obtain ⟨aow, capw, rfl, _⟩ := h.wt.shape
  have P := doPre h 0 nm t sz b aod capd
  have hnm := St.now_mass hg
  have hum := used_mass s.now
  have hznl : zn.length = s.now.length := by rw [← h.e2, List.length_map]
  rcases splitE nm zn (by rw [h.e2]; exact St.now_srt hg) with ⟨ul, z, ur, hh⟩ | ⟨ul, ur, hh⟩
  case inl => rw [← h.e2, hh.hit.lookE] at hl; simp at hl
  have hbx := heap_alloc_new w (.cells #[.int .i64 0, .string nm, .string t, .int .i64 sz, .slice aod b.length capd] 48)
  obtain ⟨q0, q1, q2, q3, q4, d1, d3, hb1, fz⟩ := P
  generalize hw1 : w.alloc (.cells #[.int .i64 0, .string nm, .string t, .int .i64 sz, .slice aod b.length capd] 48) = w1 at *
  have HAt : Hid (∀ m, Calls Try.prog 41 #[.slice aon zn.length capn, .string nm] (w1.drewN m) fun e w' => e = .returned (.int .i64 (-1)) ∧ w' = w1.drewN m) := fun m => at_miss _ zn R nm ul ur _ ((h.fn.below hb1).below (bel_drewN w1 m)) hh (by omega)
  have HNm : Hid (∀ u, Calls Try.prog 42 #[.string nm] u fun e w' => e = .returned (.bool true) ∧ w' = u) := fun u => by rw [← hok]; exact rname_any nm _ hn
  have HUs : Hid (∀ u, Below w1.heap.size w1 u → ∀ m, Calls Try.prog 40 #[.pointer (some ⟨q, 0, none⟩)] (u.drewN m) fun e w' => e = .returned (.int .i64 (used s.now : Nat)) ∧ w' = u.drewN m) := fun u hu m => by
    have := rused_any q _ zn R (u.drewN m) (show u.cell? _ = _ from below_cell hu d1) (((h.fn.below hb1).below hu).below (bel_drewN _ m)) (by rw [h.e2]; omega)
    rw [h.e2] at this
    exact this
  have hr0 := hg.r0
  have hr1 := hg.r1
  generalize s.room = room at *
  obtain ⟨U, HU⟩ : ∃ U, Hid (U = used s.now) := ⟨_, (rfl : _ = _)⟩
  rw [← HU.out] at HUs hr hum
  have hUb : U ≤ 50000000 := by omega
  have hbl : b.length ≤ 50000000 := by omega
  have hcmp : ¬ room < (U : Int) + (b.length : Int) := by omega
  have hgd1 : decide (room < (U : Int) + (b.length : Int)) = false := by simpa using hcmp
  have hz64' : (64 : Int) ≤ (zn.length : Int) := by omega
  have hz64 : decide ((64 : Int) ≤ (zn.length : Int)) = true := by simpa using hz64'
  clear h hum hnm hh hl hS hg hm hznl hok hr hao h64
  go_enter Try.func23, Try.ntmps23
  go_wp2_with fail
  go_quiet ((go_at_call 41; exact Calls.quiet_of_same (HAt.out _)))
  have hbx0 := (bel_drewN w1 nq).block w.heap.size (by have := (Array.getElem?_eq_some_iff.1 hbx).1; exact this)
  have hu := bel_drewN w1 nq
  rw [hbx] at hbx0
  generalize w1.drewN nq = u0 at *
  replace q0 := below_cell hu q0
  replace q1 := below_cell hu q1
  replace q2 := below_cell hu q2
  replace q3 := below_cell hu q3
  replace q4 := below_cell hu q4
  replace d1 := below_cell hu d1
  replace d3 := below_cell hu d3
  go_wp2_with (go_at_call 42; refine Calls.mono (HNm.out _) ?_; rintro e w' ⟨rfl, hw⟩; have hw' := hw.symm; subst hw')
  go_quiet ((go_at_call 40; exact Calls.quiet_of_same (HUs.out u0 hu _)))
  go_wp2
  go_ret
  exact ⟨rfl, hb1.trans ((hu.trans ((bel_drewN u0 nq).mono hu.size)).mono hb1.size)⟩

set_option maxHeartbeats 4000000 in
set_option maxRecDepth 20000 in
theorem rDo_cut_none (q : Nat) (s : St) (R : Nat → Prop) (nm t : ByteArray) (sz : Int) (dv : Value) (b : List UInt8)  (w : World) (h : RD w q s R) (hg : s.good) (hS : Sl w dv b) (hn : nm.size ≤ 1000000000) (htn : t.size ≤ 1000000000) (hm : s.mass + b.length + 2 ≤ 50000000)
    (hl : look nm s.now = none) :
    Calls Try.prog 23 #[.pointer (some ⟨q, 0, none⟩), .agg #[.int .i64 1, .string nm, .string t, .int .i64 sz, dv]] w fun e w' => e = .returned (.int .i64 14) ∧ Below w.heap.size w w' := by
  obtain ⟨vl, vn, vw, zl, zn, ys, h⟩ := h
  obtain ⟨aod, capd, rfl, _, _⟩ := hS.shape
  obtain ⟨aon, capn, rfl, hao⟩ := h.fn.shape
  obtain ⟨aow, capw, rfl, _⟩ := h.wt.shape
  have P := doPre h 1 nm t sz b aod capd
  have hnm := St.now_mass hg
  have hum := used_mass s.now
  have hznl : zn.length = s.now.length := by rw [← h.e2, List.length_map]
  rcases splitE nm zn (by rw [h.e2]; exact St.now_srt hg) with ⟨ul, z, ur, hh⟩ | ⟨ul, ur, hh⟩
  case inl => rw [← h.e2, hh.hit.lookE] at hl; simp at hl
  have hbx := heap_alloc_new w (.cells #[.int .i64 1, .string nm, .string t, .int .i64 sz, .slice aod b.length capd] 48)
  obtain ⟨q0, q1, q2, q3, q4, d1, d3, hb1, fz⟩ := P
  generalize hw1 : w.alloc (.cells #[.int .i64 1, .string nm, .string t, .int .i64 sz, .slice aod b.length capd] 48) = w1 at *
  have HAt : Hid (∀ m, Calls Try.prog 41 #[.slice aon zn.length capn, .string nm] (w1.drewN m) fun e w' => e = .returned (.int .i64 (-1)) ∧ w' = w1.drewN m) := fun m => at_miss _ zn R nm ul ur _ ((h.fn.below hb1).below (bel_drewN w1 m)) hh (by omega)
  clear h hum hnm hh hl hS hg hm hznl hao
  go_enter Try.func23, Try.ntmps23
  go_wp2_with fail
  go_quiet ((go_at_call 41; exact Calls.quiet_of_same (HAt.out _)))
  have hbx0 := (bel_drewN w1 nq).block w.heap.size (by have := (Array.getElem?_eq_some_iff.1 hbx).1; exact this)
  have hu := bel_drewN w1 nq
  rw [hbx] at hbx0
  generalize w1.drewN nq = u0 at *
  replace q0 := below_cell hu q0
  replace q1 := below_cell hu q1
  replace q2 := below_cell hu q2
  replace q3 := below_cell hu q3
  replace q4 := below_cell hu q4
  replace d1 := below_cell hu d1
  replace d3 := below_cell hu d3
  go_wp2
  go_ret
  exact ⟨rfl, hb1.trans (hu.mono hb1.size)⟩

set_option maxHeartbeats 4000000 in
set_option maxRecDepth 20000 in
theorem rDo_rem_none (q : Nat) (s : St) (R : Nat → Prop) (nm t : ByteArray) (sz : Int) (dv : Value) (b : List UInt8)  (w : World) (h : RD w q s R) (hg : s.good) (hS : Sl w dv b) (hn : nm.size ≤ 1000000000) (htn : t.size ≤ 1000000000) (hm : s.mass + b.length + 2 ≤ 50000000)
    (hl : look nm s.now = none) :
    Calls Try.prog 23 #[.pointer (some ⟨q, 0, none⟩), .agg #[.int .i64 2, .string nm, .string t, .int .i64 sz, dv]] w fun e w' => e = .returned (.int .i64 14) ∧ Below w.heap.size w w' := by
  obtain ⟨vl, vn, vw, zl, zn, ys, h⟩ := h
  obtain ⟨aod, capd, rfl, _, _⟩ := hS.shape
  obtain ⟨aon, capn, rfl, hao⟩ := h.fn.shape
  obtain ⟨aow, capw, rfl, _⟩ := h.wt.shape
  have P := doPre h 2 nm t sz b aod capd
  have hnm := St.now_mass hg
  have hum := used_mass s.now
  have hznl : zn.length = s.now.length := by rw [← h.e2, List.length_map]
  rcases splitE nm zn (by rw [h.e2]; exact St.now_srt hg) with ⟨ul, z, ur, hh⟩ | ⟨ul, ur, hh⟩
  case inl => rw [← h.e2, hh.hit.lookE] at hl; simp at hl
  have hbx := heap_alloc_new w (.cells #[.int .i64 2, .string nm, .string t, .int .i64 sz, .slice aod b.length capd] 48)
  obtain ⟨q0, q1, q2, q3, q4, d1, d3, hb1, fz⟩ := P
  generalize hw1 : w.alloc (.cells #[.int .i64 2, .string nm, .string t, .int .i64 sz, .slice aod b.length capd] 48) = w1 at *
  have HAt : Hid (∀ m, Calls Try.prog 41 #[.slice aon zn.length capn, .string nm] (w1.drewN m) fun e w' => e = .returned (.int .i64 (-1)) ∧ w' = w1.drewN m) := fun m => at_miss _ zn R nm ul ur _ ((h.fn.below hb1).below (bel_drewN w1 m)) hh (by omega)
  clear h hum hnm hh hl hS hg hm hznl hao
  go_enter Try.func23, Try.ntmps23
  go_wp2_with fail
  go_quiet ((go_at_call 41; exact Calls.quiet_of_same (HAt.out _)))
  have hbx0 := (bel_drewN w1 nq).block w.heap.size (by have := (Array.getElem?_eq_some_iff.1 hbx).1; exact this)
  have hu := bel_drewN w1 nq
  rw [hbx] at hbx0
  generalize w1.drewN nq = u0 at *
  replace q0 := below_cell hu q0
  replace q1 := below_cell hu q1
  replace q2 := below_cell hu q2
  replace q3 := below_cell hu q3
  replace q4 := below_cell hu q4
  replace d1 := below_cell hu d1
  replace d3 := below_cell hu d3
  go_wp2
  go_ret
  exact ⟨rfl, hb1.trans (hu.mono hb1.size)⟩

set_option maxHeartbeats 4000000 in
set_option maxRecDepth 20000 in
theorem rDo_mov_none (q : Nat) (s : St) (R : Nat → Prop) (nm t : ByteArray) (sz : Int) (dv : Value) (b : List UInt8)  (w : World) (h : RD w q s R) (hg : s.good) (hS : Sl w dv b) (hn : nm.size ≤ 1000000000) (htn : t.size ≤ 1000000000) (hm : s.mass + b.length + 2 ≤ 50000000)
    (hl : look nm s.now = none) :
    Calls Try.prog 23 #[.pointer (some ⟨q, 0, none⟩), .agg #[.int .i64 3, .string nm, .string t, .int .i64 sz, dv]] w fun e w' => e = .returned (.int .i64 14) ∧ Below w.heap.size w w' := by
  obtain ⟨vl, vn, vw, zl, zn, ys, h⟩ := h
  obtain ⟨aod, capd, rfl, _, _⟩ := hS.shape
  obtain ⟨aon, capn, rfl, hao⟩ := h.fn.shape
  obtain ⟨aow, capw, rfl, _⟩ := h.wt.shape
  have P := doPre h 3 nm t sz b aod capd
  have hnm := St.now_mass hg
  have hum := used_mass s.now
  have hznl : zn.length = s.now.length := by rw [← h.e2, List.length_map]
  rcases splitE nm zn (by rw [h.e2]; exact St.now_srt hg) with ⟨ul, z, ur, hh⟩ | ⟨ul, ur, hh⟩
  case inl => rw [← h.e2, hh.hit.lookE] at hl; simp at hl
  have hbx := heap_alloc_new w (.cells #[.int .i64 3, .string nm, .string t, .int .i64 sz, .slice aod b.length capd] 48)
  obtain ⟨q0, q1, q2, q3, q4, d1, d3, hb1, fz⟩ := P
  generalize hw1 : w.alloc (.cells #[.int .i64 3, .string nm, .string t, .int .i64 sz, .slice aod b.length capd] 48) = w1 at *
  have HAt : Hid (∀ m, Calls Try.prog 41 #[.slice aon zn.length capn, .string nm] (w1.drewN m) fun e w' => e = .returned (.int .i64 (-1)) ∧ w' = w1.drewN m) := fun m => at_miss _ zn R nm ul ur _ ((h.fn.below hb1).below (bel_drewN w1 m)) hh (by omega)
  clear h hum hnm hh hl hS hg hm hznl hao
  go_enter Try.func23, Try.ntmps23
  go_wp2_with fail
  go_quiet ((go_at_call 41; exact Calls.quiet_of_same (HAt.out _)))
  have hbx0 := (bel_drewN w1 nq).block w.heap.size (by have := (Array.getElem?_eq_some_iff.1 hbx).1; exact this)
  have hu := bel_drewN w1 nq
  rw [hbx] at hbx0
  generalize w1.drewN nq = u0 at *
  replace q0 := below_cell hu q0
  replace q1 := below_cell hu q1
  replace q2 := below_cell hu q2
  replace q3 := below_cell hu q3
  replace q4 := below_cell hu q4
  replace d1 := below_cell hu d1
  replace d3 := below_cell hu d3
  go_wp2
  go_ret
  exact ⟨rfl, hb1.trans (hu.mono hb1.size)⟩

set_option maxHeartbeats 4000000 in
set_option maxRecDepth 20000 in
theorem rDo_cut_low (q : Nat) (s : St) (R : Nat → Prop) (nm t : ByteArray) (sz : Int) (dv : Value) (b : List UInt8) (f : Fl) (w : World) (h : RD w q s R) (hg : s.good) (hS : Sl w dv b) (hn : nm.size ≤ 1000000000) (htn : t.size ≤ 1000000000) (hm : s.mass + b.length + 2 ≤ 50000000)
    (hl : look nm s.now = some f) (hk : sz < 0) :
    Calls Try.prog 23 #[.pointer (some ⟨q, 0, none⟩), .agg #[.int .i64 1, .string nm, .string t, .int .i64 sz, dv]] w fun e w' => e = .returned (.int .i64 1) ∧ Below w.heap.size w w' := by
  obtain ⟨vl, vn, vw, zl, zn, ys, h⟩ := h
  obtain ⟨aod, capd, rfl, _, _⟩ := hS.shape
  obtain ⟨aon, capn, rfl, hao⟩ := h.fn.shape
  obtain ⟨aow, capw, rfl, _⟩ := h.wt.shape
  have P := doPre h 1 nm t sz b aod capd
  have hnm := St.now_mass hg
  have hum := used_mass s.now
  have hznl : zn.length = s.now.length := by rw [← h.e2, List.length_map]
  rcases splitE nm zn (by rw [h.e2]; exact St.now_srt hg) with ⟨ul, z, ur, hh⟩ | ⟨ul, ur, hh⟩
  case inr => rw [← h.e2, hh.miss.lookE] at hl; simp at hl
  have hbx := heap_alloc_new w (.cells #[.int .i64 1, .string nm, .string t, .int .i64 sz, .slice aod b.length capd] 48)
  obtain ⟨q0, q1, q2, q3, q4, d1, d3, hb1, fz⟩ := P
  generalize hw1 : w.alloc (.cells #[.int .i64 1, .string nm, .string t, .int .i64 sz, .slice aod b.length capd] 48) = w1 at *
  have HAt : Hid (∀ m, Calls Try.prog 41 #[.slice aon zn.length capn, .string nm] (w1.drewN m) fun e w' => e = .returned (.int .i64 (ul.length : Int)) ∧ w' = w1.drewN m) := fun m => at_hit _ zn R nm ul z ur _ ((h.fn.below hb1).below (bel_drewN w1 m)) hh (by omega)
  have hlz : ul.length < zn.length := by rw [hh.1]; simp
  have hlt' : (ul.length : Int) < (zn.length : Int) := by omega
  obtain ⟨g, rfl⟩ := hao (by omega)
  obtain ⟨k0, k1⟩ := (h.fn.below hb1).cell ul.length hlz
  have hzz : zn[ul.length] = z := by simp only [hh.1]; simp
  obtain ⟨aoz, capz, hzd, _, _⟩ := (h.fn.data z (by rw [hh.1]; simp)).sl.shape
  rw [hzz, hzd] at k1
  have hzf : z.bs.length = f.bs.length := by
    have := hh.hit.lookE
    rw [h.e2, hl] at this
    simp only [Option.some.injEq] at this
    rw [this]
    rfl
  rw [hzf] at k1
  generalize f.bs.length = fl at *
  clear k0 hzz hzd hzf
  have hk0 : decide (sz < 0) = true := by simpa using hk
  clear h hum hnm hh hl hS hg hm hznl hao hlz
  go_enter Try.func23, Try.ntmps23
  go_wp2_with fail
  go_quiet ((go_at_call 41; exact Calls.quiet_of_same (HAt.out _)))
  have hbx0 := (bel_drewN w1 nq).block w.heap.size (by have := (Array.getElem?_eq_some_iff.1 hbx).1; exact this)
  have hu := bel_drewN w1 nq
  rw [hbx] at hbx0
  generalize w1.drewN nq = u0 at *
  replace q0 := below_cell hu q0
  replace q1 := below_cell hu q1
  replace q2 := below_cell hu q2
  replace q3 := below_cell hu q3
  replace q4 := below_cell hu q4
  replace d1 := below_cell hu d1
  replace d3 := below_cell hu d3
  replace k1 := below_cell hu k1
  go_wp2_with fail
  go_quiet (fail)
  go_wp2
  go_ret
  exact ⟨rfl, hb1.trans ((hu.trans ((bel_drewN u0 nq).mono hu.size)).mono hb1.size)⟩

set_option maxHeartbeats 4000000 in
set_option maxRecDepth 20000 in
theorem rDo_cut_high (q : Nat) (s : St) (R : Nat → Prop) (nm t : ByteArray) (sz : Int) (dv : Value) (b : List UInt8) (f : Fl) (w : World) (h : RD w q s R) (hg : s.good) (hS : Sl w dv b) (hn : nm.size ≤ 1000000000) (htn : t.size ≤ 1000000000) (hm : s.mass + b.length + 2 ≤ 50000000)
    (hl : look nm s.now = some f) (hk : ¬ sz < 0) (hk2 : (f.bs.length : Int) < sz) :
    Calls Try.prog 23 #[.pointer (some ⟨q, 0, none⟩), .agg #[.int .i64 1, .string nm, .string t, .int .i64 sz, dv]] w fun e w' => e = .returned (.int .i64 1) ∧ Below w.heap.size w w' := by
  obtain ⟨vl, vn, vw, zl, zn, ys, h⟩ := h
  obtain ⟨aod, capd, rfl, _, _⟩ := hS.shape
  obtain ⟨aon, capn, rfl, hao⟩ := h.fn.shape
  obtain ⟨aow, capw, rfl, _⟩ := h.wt.shape
  have P := doPre h 1 nm t sz b aod capd
  have hnm := St.now_mass hg
  have hum := used_mass s.now
  have hznl : zn.length = s.now.length := by rw [← h.e2, List.length_map]
  rcases splitE nm zn (by rw [h.e2]; exact St.now_srt hg) with ⟨ul, z, ur, hh⟩ | ⟨ul, ur, hh⟩
  case inr => rw [← h.e2, hh.miss.lookE] at hl; simp at hl
  have hbx := heap_alloc_new w (.cells #[.int .i64 1, .string nm, .string t, .int .i64 sz, .slice aod b.length capd] 48)
  obtain ⟨q0, q1, q2, q3, q4, d1, d3, hb1, fz⟩ := P
  generalize hw1 : w.alloc (.cells #[.int .i64 1, .string nm, .string t, .int .i64 sz, .slice aod b.length capd] 48) = w1 at *
  have HAt : Hid (∀ m, Calls Try.prog 41 #[.slice aon zn.length capn, .string nm] (w1.drewN m) fun e w' => e = .returned (.int .i64 (ul.length : Int)) ∧ w' = w1.drewN m) := fun m => at_hit _ zn R nm ul z ur _ ((h.fn.below hb1).below (bel_drewN w1 m)) hh (by omega)
  have hlz : ul.length < zn.length := by rw [hh.1]; simp
  have hlt' : (ul.length : Int) < (zn.length : Int) := by omega
  obtain ⟨g, rfl⟩ := hao (by omega)
  obtain ⟨k0, k1⟩ := (h.fn.below hb1).cell ul.length hlz
  have hzz : zn[ul.length] = z := by simp only [hh.1]; simp
  obtain ⟨aoz, capz, hzd, _, _⟩ := (h.fn.data z (by rw [hh.1]; simp)).sl.shape
  rw [hzz, hzd] at k1
  have hzf : z.bs.length = f.bs.length := by
    have := hh.hit.lookE
    rw [h.e2, hl] at this
    simp only [Option.some.injEq] at this
    rw [this]
    rfl
  rw [hzf] at k1
  generalize f.bs.length = fl at *
  clear k0 hzz hzd hzf
  have hk0 : decide (sz < 0) = false := by simpa using hk
  have hkf : decide ((fl : Int) < sz) = true := by simpa using hk2
  clear h hum hnm hh hl hS hg hm hznl hao hlz
  go_enter Try.func23, Try.ntmps23
  go_wp2_with fail
  go_quiet ((go_at_call 41; exact Calls.quiet_of_same (HAt.out _)))
  have hbx0 := (bel_drewN w1 nq).block w.heap.size (by have := (Array.getElem?_eq_some_iff.1 hbx).1; exact this)
  have hu := bel_drewN w1 nq
  rw [hbx] at hbx0
  generalize w1.drewN nq = u0 at *
  replace q0 := below_cell hu q0
  replace q1 := below_cell hu q1
  replace q2 := below_cell hu q2
  replace q3 := below_cell hu q3
  replace q4 := below_cell hu q4
  replace d1 := below_cell hu d1
  replace d3 := below_cell hu d3
  replace k1 := below_cell hu k1
  go_wp2_with fail
  go_quiet (fail)
  go_wp2
  go_ret
  exact ⟨rfl, hb1.trans ((hu.trans ((bel_drewN u0 nq).mono hu.size)).mono hb1.size)⟩

set_option maxHeartbeats 4000000 in
set_option maxRecDepth 20000 in
theorem rDo_mov_form (q : Nat) (s : St) (R : Nat → Prop) (nm t : ByteArray) (sz : Int) (dv : Value) (b : List UInt8) (f : Fl) (w : World) (h : RD w q s R) (hg : s.good) (hS : Sl w dv b) (hn : nm.size ≤ 1000000000) (htn : t.size ≤ 1000000000) (hm : s.mass + b.length + 2 ≤ 50000000)
    (hok : okN t = false) (hl : look nm s.now = some f) :
    Calls Try.prog 23 #[.pointer (some ⟨q, 0, none⟩), .agg #[.int .i64 3, .string nm, .string t, .int .i64 sz, dv]] w fun e w' => e = .returned (.int .i64 3) ∧ Below w.heap.size w w' := by
  obtain ⟨vl, vn, vw, zl, zn, ys, h⟩ := h
  obtain ⟨aod, capd, rfl, _, _⟩ := hS.shape
  obtain ⟨aon, capn, rfl, hao⟩ := h.fn.shape
  obtain ⟨aow, capw, rfl, _⟩ := h.wt.shape
  have P := doPre h 3 nm t sz b aod capd
  have hnm := St.now_mass hg
  have hum := used_mass s.now
  have hznl : zn.length = s.now.length := by rw [← h.e2, List.length_map]
  rcases splitE nm zn (by rw [h.e2]; exact St.now_srt hg) with ⟨ul, z, ur, hh⟩ | ⟨ul, ur, hh⟩
  case inr => rw [← h.e2, hh.miss.lookE] at hl; simp at hl
  have hbx := heap_alloc_new w (.cells #[.int .i64 3, .string nm, .string t, .int .i64 sz, .slice aod b.length capd] 48)
  obtain ⟨q0, q1, q2, q3, q4, d1, d3, hb1, fz⟩ := P
  generalize hw1 : w.alloc (.cells #[.int .i64 3, .string nm, .string t, .int .i64 sz, .slice aod b.length capd] 48) = w1 at *
  have HAt : Hid (∀ m, Calls Try.prog 41 #[.slice aon zn.length capn, .string nm] (w1.drewN m) fun e w' => e = .returned (.int .i64 (ul.length : Int)) ∧ w' = w1.drewN m) := fun m => at_hit _ zn R nm ul z ur _ ((h.fn.below hb1).below (bel_drewN w1 m)) hh (by omega)
  have HNm : Hid (∀ u, Calls Try.prog 42 #[.string t] u fun e w' => e = .returned (.bool false) ∧ w' = u) := fun u => by rw [← hok]; exact rname_any t _ htn
  clear h hum hnm hh hl hS hg hm hznl hao hok
  go_enter Try.func23, Try.ntmps23
  go_wp2_with fail
  go_quiet ((go_at_call 41; exact Calls.quiet_of_same (HAt.out _)))
  have hbx0 := (bel_drewN w1 nq).block w.heap.size (by have := (Array.getElem?_eq_some_iff.1 hbx).1; exact this)
  have hu := bel_drewN w1 nq
  rw [hbx] at hbx0
  generalize w1.drewN nq = u0 at *
  replace q0 := below_cell hu q0
  replace q1 := below_cell hu q1
  replace q2 := below_cell hu q2
  replace q3 := below_cell hu q3
  replace q4 := below_cell hu q4
  replace d1 := below_cell hu d1
  replace d3 := below_cell hu d3
  go_wp2_with (go_at_call 42; refine Calls.mono (HNm.out _) ?_; rintro e w' ⟨rfl, hw⟩; have hw' := hw.symm; subst hw')
  go_ret
  exact ⟨rfl, hb1.trans (hu.mono hb1.size)⟩
end Go.Proofs.Ytleelemcmnlfiaa
namespace Go.Proofs.Ytleelemcmnlfiaa
open Go.RowKit

set_option maxHeartbeats 1000000 in
theorem append_form (p : Nat) (n : ByteArray) (ao : Option Addr) (L cap : Nat) (w : World) (hn : okN n = false) :
    Calls Try.prog 13 #[.pointer (some ⟨p, 0, none⟩), .string n, .slice ao L cap] w fun e w' => e = .returned (.int .i64 3) ∧ w' = w := by
  have HN : Hid (_) := name_any n w
  rw [hn] at HN
  clear hn
  go_enter Try.func13, Try.ntmps13
  go_wp2_with (go_at_call 30; refine Calls.mono HN.out ?_; rintro e w' ⟨rfl, hw⟩; have hw' := hw.symm; subst hw')
  go_ret
  exact ⟨rfl, rfl⟩

set_option maxHeartbeats 1000000 in
set_option maxRecDepth 20000 in
theorem append_room (p : Nat) (s : St) (F : Nat → Prop) (n : ByteArray) (ao0 : Option Addr) (L cap0 : Nat) (w : World) (h : Dk w p s F) (hn : okN n = true) (hr : s.room < (used s.now : Int) + L) (hL : L ≤ 1000000000) (hm : s.mass ≤ 1000000000) :
    Calls Try.prog 13 #[.pointer (some ⟨p, 0, none⟩), .string n, .slice ao0 L cap0] w fun e w' => e = .returned (.int .i64 2) ∧ Below w.heap.size w w' := by
  obtain ⟨ao, N, cap, c2, hN, hhas, hsize⟩ := h.has hm
  have c0 := h.cell0
  have HN : Hid (_) := name_any n w
  rw [hn] at HN
  have HZ : Hid (_) := hsize
  have hr0 := h.good.r0
  have hr1 := h.good.r1
  have hum := used_mass s.now
  have hnm := St.now_mass h.good
  obtain ⟨U, HU⟩ : ∃ U : Nat, Hid (U = used s.now) := ⟨used s.now, (rfl : _ = _)⟩
  rw [← HU.out] at HZ hr hum
  obtain ⟨R, HR⟩ : ∃ R : Int, Hid (R = s.room) := ⟨s.room, (rfl : _ = _)⟩
  rw [← HR.out] at c0 hr hr0 hr1
  have hW : IntKind.i64.wrap (R - (U : Int)) = R - (U : Int) := by rw [IntKind.wrap_i64]; omega
  have hcmp : R - (U : Int) < (L : Int) := by omega
  clear h hn hhas hsize hN hm hr hum hnm hL hr0 hr1
  go_enter Try.func13, Try.ntmps13
  go_wp2_with (go_at_call 30; refine Calls.mono HN.out ?_; rintro e w' ⟨rfl, hw⟩; have hw' := hw.symm; subst hw')
  go_region_held (fun w' => w'.cell? ⟨p, 0, none⟩ = some (.int .i64 R) ∧ w'.cell? ⟨p, 2, none⟩ = some (.slice ao N cap))
    (first | exact ⟨c0, c2⟩ | exact ⟨c01, c21⟩)
    (first | (go_at_call 31; refine (HZ.out w.drew (Below.refl _ _).drew).mono ?_; rintro e w1 ⟨rfl, hb1⟩; have hb1' : Below w.heap.size w w1 := (Below.refl _ w).drew.trans hb1; have c01 := below_cell hb1' c0; have c21 := below_cell hb1' c2; have HB1 : Hid (Below w.heap.size w w1) := hb1'; clear hb1 hb1'))
  clear hW
  go_wp2
  go_ret
  exact ⟨rfl, HB1.out⟩

set_option maxHeartbeats 1000000 in
set_option maxRecDepth 20000 in
theorem append_many (p : Nat) (s : St) (F : Nat → Prop) (n : ByteArray) (ao0 : Option Addr) (L cap0 : Nat) (w : World) (h : Dk w p s F) (hn : okN n = true) (hr : (used s.now : Int) + L ≤ s.room) (hl : look n s.now = none) (h64 : 64 ≤ s.now.length) (hm : s.mass ≤ 1000000000) :
    Calls Try.prog 13 #[.pointer (some ⟨p, 0, none⟩), .string n, .slice ao0 L cap0] w fun e w' => e = .returned (.int .i64 2) ∧ Below w.heap.size w w' := by
  obtain ⟨ao, N, cap, c2, hN, hhas, hsize⟩ := h.has hm
  have c0 := h.cell0
  have HN : Hid (_) := name_any n w
  rw [hn] at HN
  have HH : Hid (_) := hhas n
  rw [hl] at HH
  simp only [Option.isSome_none] at HH
  have HZ : Hid (_) := hsize
  have hr0 := h.good.r0
  have hr1 := h.good.r1
  have hum := used_mass s.now
  have hnm := St.now_mass h.good
  obtain ⟨U, HU⟩ : ∃ U : Nat, Hid (U = used s.now) := ⟨used s.now, (rfl : _ = _)⟩
  rw [← HU.out] at HZ hr hum
  obtain ⟨R, HR⟩ : ∃ R : Int, Hid (R = s.room) := ⟨s.room, (rfl : _ = _)⟩
  rw [← HR.out] at c0 hr hr0 hr1
  have hW : IntKind.i64.wrap (R - (U : Int)) = R - (U : Int) := by rw [IntKind.wrap_i64]; omega
  have hcmp : ¬ (R - (U : Int) < (L : Int)) := by omega
  have hN64 : (64 : Int) ≤ (N : Int) := by rw [hN]; omega
  clear h hn hhas hsize hN hm hr hum hnm hl h64 hr0 hr1
  go_enter Try.func13, Try.ntmps13
  go_wp2_with (go_at_call 30; refine Calls.mono HN.out ?_; rintro e w' ⟨rfl, hw⟩; have hw' := hw.symm; subst hw')
  go_region_held (fun w' => w'.cell? ⟨p, 0, none⟩ = some (.int .i64 R) ∧ w'.cell? ⟨p, 2, none⟩ = some (.slice ao N cap))
    (first | exact ⟨c0, c2⟩ | exact ⟨c01, c21⟩)
    (first | (go_at_call 31; refine (HZ.out w.drew (Below.refl _ _).drew).mono ?_; rintro e w1 ⟨rfl, hb1⟩; have hb1' : Below w.heap.size w w1 := (Below.refl _ w).drew.trans hb1; have c01 := below_cell hb1' c0; have c21 := below_cell hb1' c2; have HB1 : Hid (Below w.heap.size w w1) := hb1'; clear hb1 hb1'))
  clear hW
  go_wp2_with (go_at_call 32; refine (HH.out w1 HB1.out).mono ?_; rintro e w2 ⟨rfl, hb2'⟩; have hb3 := HB1.out.trans (hb2'.mono HB1.out.size); have c22 := below_cell hb2' c21)
  go_ret
  exact ⟨rfl, hb3⟩
end Go.Proofs.Ytleelemcmnlfiaa

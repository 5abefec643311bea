/- The document's log: a record that is taken. The document's log: its first record. The document's log: records taken off its front. The law's look at the log: just what the document's holds. -/
import Derived.Test.YtnbdkojdddplkaaDoorPart20
import Derived.Deep.RegionLaw
import Derived.Deep.RegionHeld
namespace Go.Proofs.YtnbdkojdddplkaaDoor.Wl
open Go.RowKit Dk

theorem below_box1 (w : World) (o : Obj) : Below w.heap.size w (w.alloc o) := (Below.refl _ _).alloc (Nat.le_refl _) o

set_option maxHeartbeats 4000000 in
set_option maxRecDepth 20000 in
theorem do_app_more (mf n : Int) (ao0 aob : Option Addr) (cap0 capb : Nat) (b : List UInt8) (ds : List (List UInt8)) (H : Nat → Prop) (w : World) (hM : Ml w ao0 cap0 ds H) (hH : ∀ k, H k → k < w.heap.size) (hS : SlN w (.slice aob b.length capb) b H) (hl : ds.length ≤ 100) (hmf : 0 ≤ mf ∧ mf + ds.length ≤ 2251799813685248) (hn : 1 ≤ n) (hp : 0 < ds.length) (hn2 : n = mf + ds.length) :
    Calls Tryd.prog 13 #[.agg #[.int .i64 mf, .slice ao0 ds.length cap0], .agg #[.int .i64 0, .int .i64 n, .slice aob b.length capb]] w fun e w' => ∃ ao cap, e = .returned (.tuple #[.agg #[.int .i64 mf, .slice ao (ds ++ [b]).length cap], .int .i64 0]) ∧ Hid (Ml w' ao cap (ds ++ [b]) H ∧ Below w.heap.size w w') := by
  obtain ⟨X, HXe⟩ : ∃ X, Hid (X = ((w.alloc (.cells #[.int .i64 mf, .slice ao0 ds.length cap0] 32)).alloc (.cells #[.int .i64 0, .int .i64 n, .slice aob b.length capb] 35)).alloc (.cells #[.int .i64 0, .slice none 0 0] 32)) := ⟨_, (rfl : _ = ((w.alloc (.cells #[.int .i64 mf, .slice ao0 ds.length cap0] 32)).alloc (.cells #[.int .i64 0, .int .i64 n, .slice aob b.length capb] 35)).alloc (.cells #[.int .i64 0, .slice none 0 0] 32))⟩
  have hbX : Below w.heap.size w X := by rw [HXe.out]; exact below3 _ _ _ _
  have hsX : X.heap.size = w.heap.size + 3 := by rw [HXe.out]; simp
  have hBx : Bx X w.heap.size mf (.slice ao0 ds.length cap0) 0 n (.slice aob b.length capb) := by rw [HXe.out]; exact Bx.of _ _ _ _ _ _
  have HEd : Hid (Below X.heap.size X X.drew) := (Below.refl _ _).drew
  obtain ⟨vals, hv, h6, hfirst⟩ := app_first hM hl
  have HF : Hid (∀ u, Below X.heap.size X u → (∀ U, Below u.heap.size u U → ∃ ao6 L6 cap6 u6, (∀ ty, (Builtin.append_ #[30, 30] ty #[.slice none 0 0, .slice ao0 ds.length cap0]).run Tryd.prog U = .ok (.slice ao6 L6 cap6) u6) ∧ Hid (Below u.heap.size u u6) ∧ Hid (Below U.heap.size U u6 ∧ u6.ownsRow u.heap.size 33 1 (.slice ao6 L6 cap6) vals.length vals)) ∧
      (∀ (U : World) (g : Nat) (ao6 : Option Addr) (L6 cap6 : Nat), Below u.heap.size u U → U.ownsRow u.heap.size 33 1 (.slice ao6 L6 cap6) vals.length vals → U.heap[g]? = some (.cells #[.slice aob b.length capb] 33 (0, 0)) →
        ∃ ao7 L7 cap7 u7, (∀ ty, (Builtin.append_ #[30, 30] ty #[.slice ao6 L6 cap6, .slice (some ⟨g, 0, none⟩) 1 1]).run Tryd.prog U = .ok (.slice ao7 L7 cap7) u7) ∧ Bc u7 w.heap.size mf (.slice ao0 ds.length cap0) 0 n (.slice aob b.length capb) ∧
        Hid ((fin3 u7 w.heap.size mf (.slice ao7 L7 cap7)).heap[w.heap.size + 1 + 1]? = some (.cells #[.int .i64 mf, .slice ao7 L7 cap7] 32 (0, 0)) ∧ L7 = (ds ++ [b]).length ∧ Ml (fin3 u7 w.heap.size mf (.slice ao7 L7 cap7)) ao7 cap7 (ds ++ [b]) H ∧ Below w.heap.size w (fin3 u7 w.heap.size mf (.slice ao7 L7 cap7)))) ∧
      (∀ u', Below u.heap.size u u' → Bc u' w.heap.size mf (.slice ao0 ds.length cap0) 0 n (.slice aob b.length capb))) := by
    intro u hu
    have hbu := hbX.trans (hu.mono hbX.size)
    have hus := hu.size
    refine ⟨fun U hU => hfirst u U hbu hU, fun U g ao6 L6 cap6 hU hO hg => ?_, fun u' hu' => (hBx.kept (fun j hj => (hu.trans (hu'.mono hus)).block j (by omega))).cells⟩
    exact app_second hbu (by omega) (hBx.kept (fun j hj => hu.block j (by omega))) hH hS hl hv h6 U g ao6 L6 cap6 hU hO hg
  have HMd : Hid (_) := last_in w.heap.size mf ao0 ds.length cap0 0 n (.slice aob b.length capb) hBx (by rw [hsX]; exact Nat.le_refl _) hmf.1 hmf.2 ⟨hp, by omega⟩
  obtain ⟨c0, c1, c2, c3, c6, c4, c5, z0, z4⟩ := hBx.cells
  have hb0 : (0 : Int) < (ds.length : Int) := by omega
  have hwr : IntKind.i64.wrap (mf + (ds.length : Int) - 1) = mf + (ds.length : Int) - 1 := by rw [IntKind.wrap_i64]; omega
  have hne : n - 1 = mf + (ds.length : Int) - 1 := by omega
  have hz : ¬ n < 1 := by omega
  have hd0 : ((ds.length : Int) == 0) = false := by rw [beq_eq_false_iff_ne]; omega
  clear hBx hbX hsX hM hS h6 hfirst hv hn2
  go_enter Tryd.func13, Tryd.ntmps13
  go_wp2_with fail
  rw [← HXe.out]
  have g1 : decide (n < 1) = false := by simpa using hz
  have g2 : decide (n - 1 = mf + (ds.length : Int) - 1) = true := by simpa using hne
  go_region_held (fun w' => w'.cell? ⟨w.heap.size, 0, none⟩ = some (.int .i64 mf) ∧ w'.cell? ⟨w.heap.size, 1, none⟩ = some (.slice ao0 ds.length cap0) ∧ w'.cell? ⟨w.heap.size + 1, 1, none⟩ = some (.int .i64 n))
    (first | exact ⟨c0, c1, c3⟩)
    (first
      | (go_at_call 30; refine (HMd.out _ HEd).mono ?_; rintro e w6 ⟨rfl, ⟨c0, c1, c2, c3, c6, c4, c5, z0, z4⟩, HEd⟩))
  obtain ⟨h5, h6, h7⟩ := HF.out w6 HEd.out
  have H5 : Hid _ := h5
  have H6 : Hid _ := h6
  have HKB : Hid _ := h7
  have hbd : Below w6.heap.size w6 w6.drew := (Below.refl _ _).drew
  clear h5 h6 h7 HF HMd HEd
  go_wp2_with fail
  have q1 : ∀ ob, (w6.alloc ob).cell? ⟨w.heap.size, 1, none⟩ = some (.slice ao0 ds.length cap0) := fun ob => below_cell (below_box1 _ ob) c1
  have q1b : ∀ ob, (w6.drew.alloc ob).cell? ⟨w.heap.size, 1, none⟩ = some (.slice ao0 ds.length cap0) := q1
  go_region_law (first
    | (obtain ⟨ao6, L6, cap6, u6, hr6, hb6, HO6⟩ := H5.out w6.drew hbd; refine step_append_at (w0 := w6.drew) (by with_reducible rfl) (by rfl) (.const (.slice none 0 0)) (.tmp 38) 30 30 (by rfl) _ _ (by rfl) (by rfl) (hr6 _) ?_; clear hr6; have o2 := (HKB.out _ hb6.out).2.2.2.2.1; have o1 := (HKB.out _ hb6.out).2.1)
    | (obtain ⟨ao7, L7, cap7, u7, hr7, BC, HX⟩ := H6.out (u6.alloc (.cells #[.slice aob b.length capb] 33)) u6.heap.size _ _ _ (hb6.out.alloc hb6.out.size _) (World.ownsRow.alloc HO6.out.2 _) (heap_alloc_new _ _); refine step_append_at (w0 := u6.alloc (.cells #[.slice aob b.length capb] 33)) (by with_reducible rfl) (by rfl) (.tmp 39) (.tmp 42) 30 30 (by rfl) _ _ (by rfl) (by rfl) (hr7 _) ?_; clear hr7; obtain ⟨x0, x1, x2, x3, x6, x4, x5, y0, y4⟩ := BC; have y01 := y0 1)
    | (obtain ⟨ao6, L6, cap6, u6b, hr6, hb6, HO6⟩ := H5.out (w6.alloc (.cells #[.slice aob b.length capb] 33)).drew (below_box1 _ _).drew; refine step_append_at (w0 := (w6.alloc (.cells #[.slice aob b.length capb] 33)).drew) (by with_reducible rfl) (by rfl) (.const (.slice none 0 0)) (.tmp 38) 30 30 (by rfl) _ _ (by rfl) (by rfl) (hr6 _) ?_; clear hr6)
    | (obtain ⟨ao7, L7, cap7, u7, hr7, BC, HX⟩ := H6.out u6b w6.heap.size _ _ _ hb6.out HO6.out.2 ((HO6.out.1.block w6.heap.size (by show _ < (w6.alloc _).heap.size; simp)).trans (heap_alloc_new w6 _)); refine step_append_at (w0 := u6b) (by with_reducible rfl) (by rfl) (.tmp 39) (.tmp 42) 30 30 (by rfl) _ _ (by rfl) (by rfl) (hr7 _) ?_; clear hr7; obtain ⟨x0, x1, x2, x3, x6, x4, x5, y0, y4⟩ := BC; have y01 := y0 1))
  all_goals (clear c0 c1 c2 c3 c4 c5 c6 z0 z4 q1 q1b)
  all_goals (have z40 := y4 0; have z41 := y4 1)
  all_goals go_wp2_with fail
  all_goals exact bodyPost_ret (results_ct rfl _ _ (w.heap.size + 1 + 1) 32 _ (0, 0) _ rfl HX.out.1 Tryd.underlying32 rfl Tryd.sz32) rfl ⟨ao7, cap7, by rw [HX.out.2.1]; rfl, HX.out.2.2.1, HX.out.2.2.2⟩
end Go.Proofs.YtnbdkojdddplkaaDoor.Wl
namespace Go.Proofs.YtnbdkojdddplkaaDoor.Wl
open Go.RowKit Dk

theorem Bx.setF {u : World} {B : Nat} {mf : Int} {v : Value} {kd n : Int} {bv : Value} (h : Bx u B mf v kd n bv) (x : Int) : Bx (u.setCell ⟨B, 0, none⟩ (.int .i64 x)) B x v kd n bv :=
  ⟨set_first h.1, by rw [Below.heap_setCell _ _ _ _ (by show B + 1 ≠ B; omega)]; exact h.2.1, by rw [Below.heap_setCell _ _ _ _ (by show B + 2 ≠ B; omega)]; exact h.2.2⟩

set_option maxHeartbeats 4000000 in
set_option maxRecDepth 20000 in
theorem do_app_first (mf n : Int) (ao0 aob : Option Addr) (cap0 capb : Nat) (b : List UInt8) (H : Nat → Prop) (w : World) (hM : Ml w ao0 cap0 [] H) (hH : ∀ k, H k → k < w.heap.size) (hS : SlN w (.slice aob b.length capb) b H) (hn : 1 ≤ n) :
    Calls Tryd.prog 13 #[.agg #[.int .i64 mf, .slice ao0 0 cap0], .agg #[.int .i64 0, .int .i64 n, .slice aob b.length capb]] w fun e w' => ∃ ao cap, e = .returned (.tuple #[.agg #[.int .i64 n, .slice ao 1 cap], .int .i64 0]) ∧ Hid (Ml w' ao cap [b] H ∧ Below w.heap.size w w') := by
  obtain ⟨X, HXe⟩ : ∃ X, Hid (X = ((w.alloc (.cells #[.int .i64 mf, .slice ao0 0 cap0] 32)).alloc (.cells #[.int .i64 0, .int .i64 n, .slice aob b.length capb] 35)).alloc (.cells #[.int .i64 0, .slice none 0 0] 32)) := ⟨_, (rfl : _ = ((w.alloc (.cells #[.int .i64 mf, .slice ao0 0 cap0] 32)).alloc (.cells #[.int .i64 0, .int .i64 n, .slice aob b.length capb] 35)).alloc (.cells #[.int .i64 0, .slice none 0 0] 32))⟩
  have hbX : Below w.heap.size w X := by rw [HXe.out]; exact below3 _ _ _ _
  have hsX : X.heap.size = w.heap.size + 3 := by rw [HXe.out]; simp
  have hBx : Bx X w.heap.size mf (.slice ao0 0 cap0) 0 n (.slice aob b.length capb) := by rw [HXe.out]; exact Bx.of _ _ _ _ _ _
  obtain ⟨vals, hv, h6, hfirst⟩ := app_first hM (by simp)
  have HF : Hid (∀ u0, Below X.heap.size X u0 → ∃ u, u = u0.setCell ⟨w.heap.size, 0, none⟩ (.int .i64 n) ∧ (∀ U, Below u.heap.size u U → ∃ ao6 L6 cap6 u6, (∀ ty, (Builtin.append_ #[30, 30] ty #[.slice none 0 0, .slice ao0 0 cap0]).run Tryd.prog U = .ok (.slice ao6 L6 cap6) u6) ∧ Hid (Below u.heap.size u u6) ∧ Hid (Below U.heap.size U u6 ∧ u6.ownsRow u.heap.size 33 1 (.slice ao6 L6 cap6) vals.length vals)) ∧
      (∀ (U : World) (g : Nat) (ao6 : Option Addr) (L6 cap6 : Nat), Below u.heap.size u U → U.ownsRow u.heap.size 33 1 (.slice ao6 L6 cap6) vals.length vals → U.heap[g]? = some (.cells #[.slice aob b.length capb] 33 (0, 0)) →
        ∃ ao7 L7 cap7 u7, (∀ ty, (Builtin.append_ #[30, 30] ty #[.slice ao6 L6 cap6, .slice (some ⟨g, 0, none⟩) 1 1]).run Tryd.prog U = .ok (.slice ao7 L7 cap7) u7) ∧ Bc u7 w.heap.size n (.slice ao0 0 cap0) 0 n (.slice aob b.length capb) ∧
        Hid ((fin3 u7 w.heap.size n (.slice ao7 L7 cap7)).heap[w.heap.size + 1 + 1]? = some (.cells #[.int .i64 n, .slice ao7 L7 cap7] 32 (0, 0)) ∧ L7 = 1 ∧ Ml (fin3 u7 w.heap.size n (.slice ao7 L7 cap7)) ao7 cap7 [b] H ∧ Below w.heap.size w (fin3 u7 w.heap.size n (.slice ao7 L7 cap7)))) ∧
      (∀ u', Below u.heap.size u u' → Bc u' w.heap.size n (.slice ao0 0 cap0) 0 n (.slice aob b.length capb))) := by
    intro u0 hu
    have hbu0 := hbX.trans (hu.mono hbX.size)
    have hus := hu.size
    have hbu : Below w.heap.size w (u0.setCell ⟨w.heap.size, 0, none⟩ (.int .i64 n)) := hbu0.setCell (Nat.le_refl _) _
    have hsz : (u0.setCell ⟨w.heap.size, 0, none⟩ (.int .i64 n)).heap.size = u0.heap.size := by simp [World.setCell]
    have hB := (hBx.kept (u' := u0) (fun j hj => hu.block j (by omega))).setF n
    refine ⟨_, rfl, fun U hU => hfirst _ U hbu hU, fun U g ao6 L6 cap6 hU hO hg => ?_, fun u' hu' => (hB.kept (fun j hj => hu'.block j (by omega))).cells⟩
    exact app_second (ds := []) hbu (by omega) hB hH hS (by simp) hv h6 U g ao6 L6 cap6 hU hO hg
  obtain ⟨c0, c1, c2, c3, c6, c4, c5, z0, z4⟩ := hBx.cells
  have HBx : Hid (∀ u, Below X.heap.size X u → Bc u w.heap.size mf (.slice ao0 0 cap0) 0 n (.slice aob b.length capb)) := fun u hu => (hBx.kept (fun j hj => hu.block j (by omega))).cells
  have hz : ¬ n < 1 := by omega
  clear hBx hbX hsX hM hS h6 hfirst hv
  go_enter Tryd.func13, Tryd.ntmps13
  go_wp2_with fail
  rw [← HXe.out]
  have k1 : ∀ d os, (Sort.grow (redrawn X d) os).cell? ⟨w.heap.size, 1, none⟩ = some (.slice ao0 0 cap0) := fun d os => cell_regrown c1 d os
  have k3 : ∀ d os, (Sort.grow (redrawn X d) os).cell? ⟨w.heap.size + 1, 1, none⟩ = some (.int .i64 n) := fun d os => cell_regrown c3 d os
  have g1 : decide (n < 1) = false := by simpa using hz
  refine wp_region_quiet_below (by kernel_rfl) (by kernel_rfl) ?_
  repeat (quiet_step (fail))
  refine wpQuiet_nil ?_
  intro _ hw'
  obtain ⟨⟨dq, osq⟩, hw''⟩ := hw'
  subst hw''
  obtain ⟨c0, c1, c2, c3, c6, c4, c5, z0, z4⟩ := HBx.out _ (below_regrown X dq osq)
  obtain ⟨u, hu, h5, h6, h7⟩ := HF.out _ (below_regrown X dq osq)
  have HU : Hid _ := hu
  have H5 : Hid _ := h5
  have H6 : Hid _ := h6
  have HKB : Hid _ := h7
  have hbd : Below u.heap.size u u.drew := (Below.refl _ _).drew
  obtain ⟨d0, d1, d2, d3, d6, d4, d5, e0, e4⟩ := h7 u (Below.refl _ _)
  have z00 := z0 0
  clear h5 h6 h7 HF HBx k1 k3 hu
  generalize Sort.grow (redrawn X dq) osq = w6 at *
  go_wp2_with fail
  rw [← HU.out]
  clear c0 c1 c2 c3 c4 c5 c6 z0 z4 z00
  have q1 : ∀ ob, (u.alloc ob).cell? ⟨w.heap.size, 1, none⟩ = some (.slice ao0 0 cap0) := fun ob => below_cell (below_box1 _ ob) d1
  have q1b : ∀ ob, (u.drew.alloc ob).cell? ⟨w.heap.size, 1, none⟩ = some (.slice ao0 0 cap0) := q1
  go_region_law (first
    | (obtain ⟨ao6, L6, cap6, u6, hr6, hb6, HO6⟩ := H5.out u.drew hbd; refine step_append_at (w0 := u.drew) (by with_reducible rfl) (by rfl) (.const (.slice none 0 0)) (.tmp 38) 30 30 (by rfl) _ _ (by rfl) (by rfl) (hr6 _) ?_; clear hr6; have o2 := (HKB.out _ hb6.out).2.2.2.2.1; have o1 := (HKB.out _ hb6.out).2.1)
    | (obtain ⟨ao7, L7, cap7, u7, hr7, BC, HX⟩ := H6.out (u6.alloc (.cells #[.slice aob b.length capb] 33)) u6.heap.size _ _ _ (hb6.out.alloc hb6.out.size _) (World.ownsRow.alloc HO6.out.2 _) (heap_alloc_new _ _); refine step_append_at (w0 := u6.alloc (.cells #[.slice aob b.length capb] 33)) (by with_reducible rfl) (by rfl) (.tmp 39) (.tmp 42) 30 30 (by rfl) _ _ (by rfl) (by rfl) (hr7 _) ?_; clear hr7; obtain ⟨x0, x1, x2, x3, x6, x4, x5, y0, y4⟩ := BC; have y01 := y0 1)
    | (obtain ⟨ao6, L6, cap6, u6b, hr6, hb6, HO6⟩ := H5.out (u.alloc (.cells #[.slice aob b.length capb] 33)).drew (below_box1 _ _).drew; refine step_append_at (w0 := (u.alloc (.cells #[.slice aob b.length capb] 33)).drew) (by with_reducible rfl) (by rfl) (.const (.slice none 0 0)) (.tmp 38) 30 30 (by rfl) _ _ (by rfl) (by rfl) (hr6 _) ?_; clear hr6)
    | (obtain ⟨ao7, L7, cap7, u7, hr7, BC, HX⟩ := H6.out u6b u.heap.size _ _ _ hb6.out HO6.out.2 ((HO6.out.1.block u.heap.size (by show _ < (u.alloc _).heap.size; simp)).trans (heap_alloc_new u _)); refine step_append_at (w0 := u6b) (by with_reducible rfl) (by rfl) (.tmp 39) (.tmp 42) 30 30 (by rfl) _ _ (by rfl) (by rfl) (hr7 _) ?_; clear hr7; obtain ⟨x0, x1, x2, x3, x6, x4, x5, y0, y4⟩ := BC; have y01 := y0 1))
  all_goals (clear d0 d1 d2 d3 d4 d5 d6 e0 e4 q1 q1b)
  all_goals (have z40 := y4 0; have z41 := y4 1)
  all_goals go_wp2_with fail
  all_goals exact bodyPost_ret (results_ct rfl _ _ (w.heap.size + 1 + 1) 32 _ (0, 0) _ rfl HX.out.1 Tryd.underlying32 rfl Tryd.sz32) rfl ⟨ao7, cap7, by rw [HX.out.2.1]; rfl, HX.out.2.2.1, HX.out.2.2.2⟩
end Go.Proofs.YtnbdkojdddplkaaDoor.Wl
namespace Go.Proofs.YtnbdkojdddplkaaDoor.Wl
open Go.RowKit Dk

set_option maxHeartbeats 4000000 in
set_option maxRecDepth 20000 in
/-- Until: k records go. -/
theorem do_until_some (mf n : Int) (ao0 aob : Option Addr) (cap0 Lb capb : Nat) (ds : List (List UInt8)) (H : Nat → Prop) (k : Nat) (w : World) (hM : Ml w ao0 cap0 ds H) (hH : ∀ k, H k → k < w.heap.size) (hl : ds.length ≤ 100) (hmf : 0 ≤ mf ∧ mf ≤ 2251799813685248) (hn : 1 ≤ n ∧ n ≤ 2251799813685248) (hk0 : 0 < k)
    (hk : (k < ds.length ∧ n = mf + k - 1) ∨ (k = ds.length ∧ mf + k - 1 ≤ n)) :
    Calls Tryd.prog 13 #[.agg #[.int .i64 mf, .slice ao0 ds.length cap0], .agg #[.int .i64 2, .int .i64 n, .slice aob Lb capb]] w fun e w' => ∃ ao cap, e = .returned (.tuple #[.agg #[.int .i64 (mf + k), .slice ao (ds.drop k).length cap], .int .i64 0]) ∧ Hid (Ml w' ao cap (ds.drop k) H ∧ Below w.heap.size w w') := by
  obtain ⟨m1, m2, m3, vals, m4, m5, m6⟩ := id hM
  have hkd : k ≤ ds.length := by omega
  obtain ⟨g, off, rfl, hgH, hcel⟩ : ∃ g off, ao0 = some ⟨g, off, none⟩ ∧ (0 < ds.length → ¬ H g) ∧ ∀ (j : Nat) u, vals[j]? = some u → w.cell? ⟨g, off + j, none⟩ = some u := by
    cases ao0 with
    | none => have := m3 rfl; omega
    | some a =>
      obtain ⟨g, off, rfl, h1, h2⟩ := m5 a rfl
      exact ⟨g, off, rfl, h1, h2⟩
  obtain ⟨W, HW⟩ : ∃ W, W = ((w.alloc (.cells #[.int .i64 mf, .slice (some ⟨g, off, none⟩) ds.length cap0] 32)).alloc (.cells #[.int .i64 2, .int .i64 n, .slice aob Lb capb] 35)).alloc (.cells #[.int .i64 0, .slice none 0 0] 32) := ⟨_, rfl⟩
  have hbW : Below w.heap.size w W := by rw [HW]; exact below3 _ _ _ _
  obtain ⟨A, hA, HA⟩ : ∃ A : Addr, (if cap0 = k then (⟨g, off, none⟩ : Addr) else ⟨g, off + k, none⟩) = A ∧ Hid (∀ (j : Nat) u, (vals.drop k)[j]? = some u → W.cell? (A.add j) = some u) := by
    by_cases hc : cap0 = k
    · refine ⟨⟨g, off, none⟩, by simp [hc], fun t u hu => ?_⟩
      rw [List.drop_eq_nil_of_le (by omega)] at hu
      simp at hu
    · refine ⟨⟨g, off + k, none⟩, by simp [hc], fun t u hu => ?_⟩
      rw [Addr.add_lit, Nat.add_assoc]
      rw [List.getElem?_drop] at hu
      exact below_cell hbW (hcel _ _ hu)
  have hvl : (vals.drop k).length = ds.length - k := by rw [List.length_drop, m4]
  obtain ⟨ao2, L2, cap2, W2, hap, hO2, hb2⟩ := run_append_vals W A (cap0 - k) (vals.drop k) HA.out (fun u hu => Ml.ones m4 m6 u (List.mem_of_mem_drop hu)) (by omega)
  rw [hvl] at hap
  have hb2w : Below w.heap.size w W2 := hbW.trans (hb2.mono hbW.size)
  have hsW : W.heap.size = w.heap.size + 3 := by rw [HW]; simp
  have hBx : Bx W2 w.heap.size mf (.slice (some ⟨g, off, none⟩) ds.length cap0) 2 n (.slice aob Lb capb) := by
    refine Bx.kept (u := W) ?_ (fun j hj => hb2.block j (by omega))
    rw [HW]
    exact Bx.of _ _ _ _ _ _
  obtain ⟨hL2, hMl⟩ : L2 = (ds.drop k).length ∧ Ml W2 ao2 cap2 (ds.drop k) (fun j => H j ∨ (w.heap.size ≤ j ∧ j < w.heap.size + 3)) := by
    refine Ml.of_own (B := W.heap.size) hO2 (by rw [hvl, List.length_drop]) (fun j hj => ?_) (fun j u d hu hd => ?_)
    · rcases hj with hj | hj
      · have := hH j hj; omega
      · omega
    · rw [List.getElem?_drop] at hu hd
      refine ((m6 _ u d hu hd).more (K := fun j => H j ∨ (w.heap.size ≤ j ∧ j < w.heap.size + 3)) (fun j hj hK => ?_)).kept (Fr.of_below hb2w)
      rcases hK with hK | hK
      · exact hK
      · omega
  subst hL2
  have HFin : Hid (Ml (fin4 W2 w.heap.size (mf + k) (.slice ao2 (ds.drop k).length cap2)) ao2 cap2 (ds.drop k) H ∧ Below w.heap.size w (fin4 W2 w.heap.size (mf + k) (.slice ao2 (ds.drop k).length cap2))) :=
    ⟨hMl.fin (fin4_fr _ _ _ _ _ (fun j h1 h2 => Or.inr ⟨h1, h2⟩)), fin4_below _ _ hb2w⟩
  have HHp : Hid ((fin4 W2 w.heap.size (mf + k) (.slice ao2 (ds.drop k).length cap2)).heap[w.heap.size + 1 + 1]? = some (.cells #[.int .i64 (mf + k), .slice ao2 (ds.drop k).length cap2] 32 (0, 0))) := hBx.fin4 _ _
  obtain ⟨c0, c1, c2, c3, c6, c4, c5, z0, z4⟩ := hBx.cells
  have hb0 : (0 : Int) < (ds.length : Int) := by omega
  have hb1 : mf ≤ n := by omega
  have hb2' : (k : Int) ≤ (ds.length : Int) := by omega
  have hb3 : (ds.length : Int) ≤ (cap0 : Int) := by omega
  have hcm : cap0 ≤ 9223372036854775807 := m2
  rw [HW] at hap
  generalize hL : (ds.drop k).length = L3 at *
  clear hO2 hMl hBx hb2w hb2 hsW hbW hgH c2 c3 c6 hvl hH hL
  rcases hk with ⟨hk1, hk2⟩ | ⟨hk1, hk2⟩
  · have hw1 : n - mf + 1 = (k : Int) := by omega
    have hmin : (k : Int) < (ds.length : Int) := by omega
    have hwr : IntKind.i64.wrap (n - mf) = n - mf := by rw [IntKind.wrap_i64]; omega
    have hc : ¬ cap0 = k := by omega
    rw [if_neg hc] at hA
    subst hA
    clear HA hM m1 m2 m3 m4 m5 m6 hcel HW hk2
    go_enter Tryd.func13, Tryd.ntmps13
    go_wp2_with (at_builtin; refine wpList_append_run _ rfl (.const (.slice none 0 0)) (.tmp 104) 30 30 rfl (.slice none 0 0) (.slice (some ⟨g, off + k, none⟩) (ds.length - k) (cap0 - k)) rfl rfl (hap _) ?_)
    exact bodyPost_ret (results_ct rfl _ _ (w.heap.size + 1 + 1) 32 _ (0, 0) _ rfl HHp.out Tryd.underlying32 rfl Tryd.sz32) rfl ⟨ao2, cap2, rfl, HFin⟩
  · subst hk1
    have hmin : (ds.length : Int) ≤ n - mf + 1 := by omega
    have hwr : IntKind.i64.wrap (n - mf) = n - mf := by rw [IntKind.wrap_i64]; omega
    clear HA hM m1 m2 m3 m4 m5 m6 hcel HW hk2
    by_cases hc : cap0 = ds.length
    · rw [if_pos hc] at hA
      subst hA hc
      simp only [Nat.sub_self] at hap
      go_enter Tryd.func13, Tryd.ntmps13
      go_wp2_with (at_builtin; refine wpList_append_run _ rfl (.const (.slice none 0 0)) (.tmp 104) 30 30 rfl (.slice none 0 0) (.slice (some ⟨g, off, none⟩) 0 0) rfl rfl (hap _) ?_)
      exact bodyPost_ret (results_ct rfl _ _ (w.heap.size + 1 + 1) 32 _ (0, 0) _ rfl HHp.out Tryd.underlying32 rfl Tryd.sz32) rfl ⟨ao2, cap2, rfl, HFin⟩
    · rw [if_neg hc] at hA
      subst hA
      simp only [Nat.sub_self] at hap
      go_enter Tryd.func13, Tryd.ntmps13
      go_wp2_with (at_builtin; refine wpList_append_run _ rfl (.const (.slice none 0 0)) (.tmp 104) 30 30 rfl (.slice none 0 0) (.slice (some ⟨g, off + ds.length, none⟩) 0 (cap0 - ds.length)) rfl rfl (hap _) ?_)
      exact bodyPost_ret (results_ct rfl _ _ (w.heap.size + 1 + 1) 32 _ (0, 0) _ rfl HHp.out Tryd.underlying32 rfl Tryd.sz32) rfl ⟨ao2, cap2, rfl, HFin⟩
end Go.Proofs.YtnbdkojdddplkaaDoor.Wl
namespace Go.Proofs.YtnbdkojdddplkaaDoor.Wl
open Go.RowKit Dk

set_option maxHeartbeats 4000000 in
set_option maxRecDepth 20000 in
theorem same_md (p pd : Nat) (s : St) (H : Nat → Prop) (first : Int) (ds : List (List UInt8)) (mf : Int) (ao : Option Addr) (cap : Nat) (w : World) (hX : LX w p pd s H first ds) (hM : Ml w ao cap ds H) (he : ds ≠ [] → mf = first) (h1 : ds ≠ [] → 1 ≤ first)
    (hmf : 0 ≤ mf ∧ mf + ds.length ≤ 2251799813685248) (hl : ds.length ≤ 100) (hd : ∀ d ∈ ds, d.length ≤ 300) :
    Calls Tryd.prog 19 #[.pointer (some ⟨p, 0, none⟩), .agg #[.int .i64 mf, .slice ao ds.length cap]] w fun e w' => e = .returned (.bool true) ∧ Below w.heap.size w w' := by
  obtain ⟨X, HXe⟩ : ∃ X, Hid (X = w.alloc (.cells #[.int .i64 mf, .slice ao ds.length cap] 32)) := ⟨_, (rfl : _ = w.alloc (.cells #[.int .i64 mf, .slice ao ds.length cap] 32))⟩
  have hbX : Below w.heap.size w X := by rw [HXe.out]; exact (Below.refl _ _).alloc (Nat.le_refl _) _
  have hbl : X.heap[w.heap.size]? = some (.cells #[.int .i64 mf, .slice ao ds.length cap] 32 (0, 0)) := by rw [HXe.out]; exact heap_alloc_new _ _
  have hsX := hbX.size
  have m0 : X.cell? ⟨w.heap.size, 0, none⟩ = some (.int .i64 mf) := by rw [cell_of_row X _ 0 _ _ _ hbl]; rfl
  have m1 : X.cell? ⟨w.heap.size, 1, none⟩ = some (.slice ao ds.length cap) := by rw [cell_of_row X _ 1 _ _ _ hbl]; rfl
  have hLX : ∀ u, Below X.heap.size X u → LX u p pd s H first ds := fun u hb => hX.below (hbX.trans (hb.mono hsX))
  have hML : ∀ u, Below X.heap.size X u → Ml u ao cap ds H := fun u hb => hM.below (hbX.trans (hb.mono hsX))
  have hla : lastL first ds = if ds.length = 0 then 0 else mf + ds.length - 1 := by
    unfold lastL
    by_cases hz : ds.length = 0
    · rw [if_pos hz, if_pos hz]
    · rw [if_neg hz, if_neg hz, he (fun e => hz (by rw [e]; rfl))]
  have HLs : Hid (∀ u, Hid (Below X.heap.size X u) → Calls Tryd.prog 24 #[.pointer (some ⟨p, 0, none⟩)] u fun e w' => e = .returned (.int .i64 (lastL first ds)) ∧ w'.cell? ⟨w.heap.size, 0, none⟩ = some (.int .i64 mf) ∧ w'.cell? ⟨w.heap.size, 1, none⟩ = some (.slice ao ds.length cap) ∧ Hid (Below X.heap.size X w')) := by
    intro u hb
    obtain ⟨F, hW, _⟩ := (hLX u hb.out).lw
    refine hW.last.mono ?_
    rintro e w' ⟨rfl, m, rfl⟩
    have hb2 := hb.out.trans ((below_drew u m).mono hb.out.size)
    exact ⟨rfl, below_cell hb2 m0, below_cell hb2 m1, hb2⟩
  have HMd : Hid (∀ u, Hid (Below X.heap.size X u) → Calls Tryd.prog 30 #[.agg #[.int .i64 mf, .slice ao ds.length cap]] u fun e w' => e = .returned (.int .i64 (lastL first ds)) ∧ w'.cell? ⟨w.heap.size, 0, none⟩ = some (.int .i64 mf) ∧ w'.cell? ⟨w.heap.size, 1, none⟩ = some (.slice ao ds.length cap) ∧ Hid (Below X.heap.size X w')) := by
    intro u hb
    refine (last_md mf ao ds.length cap u (by omega) (by omega) (by omega)).mono ?_
    rintro e w' ⟨rfl, hb'⟩
    have hb2 := hb.out.trans (hb'.mono hb.out.size)
    exact ⟨by rw [hla], below_cell hb2 m0, below_cell hb2 m1, hb2⟩
  have HFi : Hid (∀ u, Hid (Below X.heap.size X u) → Calls Tryd.prog 26 #[.pointer (some ⟨p, 0, none⟩)] u fun e w' => e = .returned (.int .i64 first) ∧ w'.cell? ⟨w.heap.size, 0, none⟩ = some (.int .i64 mf) ∧ w'.cell? ⟨w.heap.size, 1, none⟩ = some (.slice ao ds.length cap) ∧ Hid (Below X.heap.size X w')) := by
    intro u hb
    obtain ⟨F, hW, _⟩ := (hLX u hb.out).lw
    refine hW.first.mono ?_
    rintro e w' ⟨rfl, rfl⟩
    exact ⟨rfl, below_cell hb.out m0, below_cell hb.out m1, hb⟩
  have HGm : Hid (∀ (n : Int) u, (n < 1 ∨ n < first ∨ lastL first ds < n) → Hid (Below X.heap.size X u) → Calls Tryd.prog 25 #[.pointer (some ⟨p, 0, none⟩), .int .i64 n] u fun e w' => e = .returned (.tuple #[.slice none 0 0, .bool false]) ∧ w'.cell? ⟨w.heap.size, 0, none⟩ = some (.int .i64 mf) ∧ w'.cell? ⟨w.heap.size, 1, none⟩ = some (.slice ao ds.length cap) ∧ Hid (Below X.heap.size X w')) := by
    intro n u hn hb
    obtain ⟨F, hW, _⟩ := (hLX u hb.out).lw
    refine (get_miss 0 p pd s F first ds n u hW hn).mono ?_
    rintro e w' ⟨rfl, m, rfl⟩
    have hb2 := hb.out.trans ((below_drew u m).mono hb.out.size)
    exact ⟨rfl, below_cell hb2 m0, below_cell hb2 m1, hb2⟩
  have HEnd : Hid (∀ u, Hid (Below X.heap.size X u) → Below w.heap.size w u) := fun u hb => hbX.trans (hb.out.mono hsX)
  have HEd : Hid (Below X.heap.size X X.drew) := (Below.refl _ _).drew
  by_cases hz : ds.length = 0
  · have hdn : ds = [] := List.eq_nil_of_length_eq_zero hz
    have h0 : first = 0 := hX.zero hdn
    subst h0
    have hl0 : lastL 0 ds = 0 := by unfold lastL; rw [if_pos hz]
    rw [hl0] at HLs HMd
    rw [hz] at HLs HMd HFi m1 HXe ⊢
    clear hX hM he h1 hmf hl hd hLX hML hla HGm hbl hbX
    go_enter Tryd.func19, Tryd.ntmps19
    go_wp2_with fail
    rw [← HXe.out]
    go_region_held (fun w' => w'.cell? ⟨w.heap.size, 0, none⟩ = some (.int .i64 mf) ∧ w'.cell? ⟨w.heap.size, 1, none⟩ = some (.slice ao 0 cap))
      (first | exact ⟨m0, m1⟩)
      (first
        | (go_at_call 24; refine (HLs.out _ HEd).mono ?_; rintro e w6 ⟨rfl, m0, m1, HEd⟩)
        | (go_at_call 30; refine (HMd.out _ HEd).mono ?_; rintro e w6 ⟨rfl, m0, m1, HEd⟩))
    all_goals go_wp2_with (go_at_call 26; refine (HFi.out _ HEd).mono ?_; rintro e w7 ⟨rfl, m0, m1, HEd⟩)
    all_goals go_ret
    all_goals exact ⟨rfl, HEnd.out _ HEd⟩
  · have hne : ds ≠ [] := fun e => hz (by rw [e]; rfl)
    obtain rfl := he hne
    have hf1 := h1 hne
    rw [if_neg hz] at hla
    rw [hla] at HLs HMd HGm
    have HGh : Hid (∀ (k : Nat) (hk : k < ds.length) u, Hid (Below X.heap.size X u) → Calls Tryd.prog 25 #[.pointer (some ⟨p, 0, none⟩), .int .i64 (mf + k)] u fun e w' => ∃ aob capb, e = .returned (.tuple #[.slice aob ds[k].length capb, .bool true]) ∧ Hid (Below X.heap.size X w') ∧ Hid (Sl w' (.slice aob ds[k].length capb) ds[k])) := by
      intro k hk u hb
      obtain ⟨F, hW, _⟩ := (hLX u hb.out).lw
      have hdk := hd ds[k] (List.getElem_mem hk)
      refine (get_hit 0 p pd s F mf ds k u hW hk hf1 (by omega) (by omega) (by omega)).mono ?_
      rintro e w' ⟨v', rfl, hO, hb'⟩
      have hS := Sl.of_own hO
      obtain ⟨aob, capb, rfl, _, _⟩ := hS.shape
      exact ⟨aob, capb, rfl, hb.out.trans (hb'.mono hb.out.size), hS⟩
    have HAt : Hid (∀ (k : Nat) (hk : k < ds.length), ∃ g off aod capd, ao = some ⟨g, off, none⟩ ∧ ∀ u, Hid (Below X.heap.size X u) → u.cell? ⟨g, off + k, none⟩ = some (.slice aod ds[k].length capd) ∧ (convert 33 9 (.slice aod ds[k].length capd)).run Tryd.prog u = .ok (.string ⟨ds[k].toArray⟩) u) := by
      intro k hk
      obtain ⟨g, off, aod, capd, e, hc, hs⟩ := (hML X (Below.refl _ _)).at k hk
      exact ⟨g, off, aod, capd, e, fun u hb => ⟨below_cell hb.out hc, str_of_sl (P := Tryd.prog) (hs.below hb.out) 33 5 9 Tryd.underlying33 Tryd.underlying5 Tryd.underlying9⟩⟩
    have HM : Hid (∀ u, Hid (Below X.heap.size X u) → u.cell? ⟨w.heap.size, 0, none⟩ = some (.int .i64 mf) ∧ u.cell? ⟨w.heap.size, 1, none⟩ = some (.slice ao ds.length cap)) := fun u hb => ⟨below_cell hb.out m0, below_cell hb.out m1⟩
    have hz' : ((ds.length : Int) == 0) = false := by rw [beq_eq_false_iff_ne]; omega
    clear hX hM he h1 hd hLX hML hla hbl hbX hne
    go_enter Tryd.func19, Tryd.ntmps19
    go_wp2_with fail
    rw [← HXe.out]
    go_region_held (fun w' => w'.cell? ⟨w.heap.size, 0, none⟩ = some (.int .i64 mf) ∧ w'.cell? ⟨w.heap.size, 1, none⟩ = some (.slice ao ds.length cap))
      (first | exact ⟨m0, m1⟩)
      (first
        | (go_at_call 24; refine (HLs.out _ HEd).mono ?_; rintro e w6 ⟨rfl, m0, m1, HEd⟩)
        | (go_at_call 30; refine (HMd.out _ HEd).mono ?_; rintro e w6 ⟨rfl, m0, m1, HEd⟩))
    go_wp2_with fail
    have HEd : Hid (Below X.heap.size X w6.drew) := HEd.out.drew
    go_region_held (fun w' => w'.cell? ⟨w.heap.size, 0, none⟩ = some (.int .i64 mf) ∧ w'.cell? ⟨w.heap.size, 1, none⟩ = some (.slice ao ds.length cap))
      (first | exact ⟨m0, m1⟩)
      (first
        | (go_at_call 26; refine (HFi.out _ HEd).mono ?_; rintro e w7 ⟨rfl, m0, m1, HEd⟩))
    have HB7 : Hid (Below X.heap.size X w7) := HEd
    clear HEd m0 m1
    go_wp2_with fail
    go_loopw [5] (fun vi wr => ∃ k : Nat, k ≤ ds.length ∧ vi = .int .i64 (k : Int) ∧ Hid (Below X.heap.size X wr)) (fun vi _ => ds.length - (intOf vi).toNat)
    case atStart => exact ⟨0, Nat.zero_le _, rfl, HB7⟩
    case round =>
      obtain ⟨k, hk, rfl, HK⟩ := hrel
      clear HB7
      obtain ⟨m0, m1⟩ := HM.out wr HK
      by_cases hlt : k < ds.length
      · have hlt' : (k : Int) < (ds.length : Int) := by omega
        have HG : Hid (_) := HGh.out k hlt wr HK
        obtain ⟨g, off, aod, capd, rfl, hat⟩ := HAt.out k hlt
        have HT : Hid (∀ u, Hid (Below X.heap.size X u) → u.cell? ⟨g, off + k, none⟩ = some (.slice aod ds[k].length capd) ∧ (convert 33 9 (.slice aod ds[k].length capd)).run Tryd.prog u = .ok (.string ⟨ds[k].toArray⟩) u) := hat
        clear hat HAt HGh HGm HLs HMd HFi
        generalize ds[k] = X1 at *
        go_wp2_with (go_at_call 25; refine Calls.mono HG.out ?_; rintro e w5 ⟨aob, capb, rfl, HB5, HS5⟩)
        have HB5' : Hid (Below X.heap.size X w5.drew) := HB5.out.drew
        obtain ⟨s0, s1⟩ := HM.out w5.drew HB5'
        obtain ⟨s2, s3⟩ := HT.out w5.drew HB5'
        have s4 := str_of_sl (P := Tryd.prog) (HS5.out.below (Below.refl _ w5).drew) 33 5 9 Tryd.underlying33 Tryd.underlying5 Tryd.underlying9
        clear m0 m1 HT HG HM
        generalize X1.length = L at *
        go_region_held (fun u => u.cell? ⟨w.heap.size, 1, none⟩ = some (.slice (some ⟨g, off, none⟩) ds.length cap) ∧ u.cell? ⟨g, off + k, none⟩ = some (.slice aod L capd) ∧ (convert 33 9 (.slice aod L capd)).run Tryd.prog u = .ok (.string ⟨X1.toArray⟩) u ∧ (convert 33 9 (.slice aob L capb)).run Tryd.prog u = .ok (.string ⟨X1.toArray⟩) u)
          (first | exact ⟨s1, s2, s3, s4⟩)
          (fail)
        clear s0 s1 s2 s3 s4
        go_wp2
        go_roundw
        case rel => exact ⟨k + 1, by omega, by go_num, HB5'⟩
        case measure => simp [intOf]; omega
      · obtain rfl : k = ds.length := by omega
        clear HAt HGh HLs HFi HM
        go_wp2_with fail
        refine Calls.mono (HGm.out _ _ (by omega) HK) ?_
        rintro e w5 ⟨rfl, m0, m1, HE5⟩
        clear HK
        go_wp2_with fail
        refine Calls.mono (HMd.out _ HE5) ?_
        rintro e w6 ⟨rfl, m0, m1, HE6⟩
        clear HE5 HMd
        go_wp2_with fail
        refine Calls.mono (HGm.out _ _ (by omega) HE6) ?_
        rintro e w8 ⟨rfl, m0, m1, HE8⟩
        clear HGm HE6
        go_wp2
        go_ret
        exact ⟨rfl, HEnd.out _ HE8⟩
end Go.Proofs.YtnbdkojdddplkaaDoor.Wl

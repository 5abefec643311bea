/- copySnap: its walk. Hard, Entries, Snap; Open, Save, Compact of none. The walks of begun and of the law KeepNone. The walk of the law KeepNone. -/
import Derived.Test.YtjndgekpdmlbiaaGreatDoorPart21
import Derived.Deep.RegionHeld3
import Derived.Test.YtjndgekpdmlbiaaGreatDoorPart20
import Derived.Test.YtjndgekpdmlbiaaGreatDoorPart14
import Derived.Test.YtjndgekpdmlbiaaGreatDoorPart16
import Derived.Lib.SlBytesConst
namespace Go.Proofs.YtjndgekpdmlbiaaGreatDoor.Kp
open Go.RowKit Bn

/-- The two blocks of copySnap: its own copy, the answer. -/
structure Bs (D : Nat) (W : World) (s4 z4 : Array Value) : Prop where
  s : W.heap[D]? = some (Obj.cells s4 35 (0, 0))
  z : W.heap[D + 1]? = some (Obj.cells z4 35 (0, 0))
theorem Bs.below {D : Nat} {W W' : World} {s4 z4 : Array Value} (h : Bs D W s4 z4) (hb : Below W.heap.size W W') : Bs D W' s4 z4 :=
  ⟨(hb.block _ (lt_of_block h.s)).trans h.s, (hb.block _ (lt_of_block h.z)).trans h.z⟩
theorem Bs.setS {D : Nat} {W : World} {s4 z4 : Array Value} (h : Bs D W s4 z4) (i : Nat) (x : Value) : Bs D (W.setCell ⟨D, i, none⟩ x) (s4.setIfInBounds i x) z4 :=
  ⟨heap_setCell_same W D i s4 35 x h.s, by rw [Below.heap_setCell _ _ _ _ (by simp)]; exact h.z⟩
theorem Bs.cs {D : Nat} {W : World} {s4 z4 : Array Value} (h : Bs D W s4 z4) (i : Nat) : W.cell? ⟨D, i, none⟩ = s4[i]? := cell_of_row W D i s4 35 (0, 0) h.s
theorem Bs.cz {D : Nat} {W : World} {s4 z4 : Array Value} (h : Bs D W s4 z4) (i : Nat) : W.cell? ⟨D + 1, i, none⟩ = z4[i]? := cell_of_row W (D + 1) i z4 35 (0, 0) h.z
theorem Bs.fs {D : Nat} {W : World} {s4 z4 : Array Value} (h : Bs D W s4 z4) (i : Nat) : W.frozen? ⟨D, i, none⟩ = false := frozen_of_row W D i s4 35 h.s
theorem Bs.fz {D : Nat} {W : World} {s4 z4 : Array Value} (h : Bs D W s4 z4) (i : Nat) : W.frozen? ⟨D + 1, i, none⟩ = false := frozen_of_row W (D + 1) i z4 35 h.z
theorem Bs.new (W : World) (s4 z4 : Array Value) : Bs W.heap.size ((W.alloc (.cells s4 35)).alloc (.cells z4 35)) s4 z4 := by
  refine ⟨?_, ?_⟩
  · rw [Below.heap_alloc _ _ _ (by simp)]; exact heap_alloc_new _ _
  · have := heap_alloc_new (W.alloc (.cells s4 35)) (.cells z4 35)
    simpa using this
theorem sz35 : (Tryz.prog.info? 35).map (·.size) = some 4 := by kernel_rfl
theorem fill4 {W : World} {D : Nat} {z0 z1 z2 z3 : Value} (h : W.heap[D]? = some (Obj.cells #[z0, z1, z2, z3] 35 (0, 0))) (a b c d : Value) :
    ((((W.setCell ⟨D, 0, none⟩ a).setCell ⟨D, 1, none⟩ b).setCell ⟨D, 2, none⟩ c).setCell ⟨D, 3, none⟩ d).heap[D]? = some (Obj.cells #[a, b, c, d] 35 (0, 0)) ∧ (W.grownBy ((((W.setCell ⟨D, 0, none⟩ a).setCell ⟨D, 1, none⟩ b).setCell ⟨D, 2, none⟩ c).setCell ⟨D, 3, none⟩ d) (some D)) := by
  refine ⟨?_, grown_set (grown_set (grown_set (grown_set (grown_refl _ _))))⟩
  have k0 : (W.setCell ⟨D, 0, none⟩ a).heap[D]? = some (Obj.cells #[a, z1, z2, z3] 35 (0, 0)) := heap_setCell_same W D 0 _ 35 a h
  have k1 : ((W.setCell ⟨D, 0, none⟩ a).setCell ⟨D, 1, none⟩ b).heap[D]? = some (Obj.cells #[a, b, z2, z3] 35 (0, 0)) := heap_setCell_same _ D 1 _ 35 b k0
  have k2 : (((W.setCell ⟨D, 0, none⟩ a).setCell ⟨D, 1, none⟩ b).setCell ⟨D, 2, none⟩ c).heap[D]? = some (Obj.cells #[a, b, c, z3] 35 (0, 0)) := heap_setCell_same _ D 2 _ 35 c k1
  exact heap_setCell_same _ D 3 _ 35 d k2
theorem own_keepS {W W' : World} {b e s n S T : Nat} {v : Value} {xs : List Value} {cs : Array Value} (h : W.ownsRow b e s v n xs) (hS : W.heap[S]? = some (Obj.cells cs T (0, 0))) (hT : T ≠ e) (hg : W.grownBy W' (some S)) : W'.ownsRow b e s v n xs := by
  refine ⟨h.1, ?_⟩
  rcases h.2 with h2 | ⟨g, c, cur, e1, e2, e3, e4⟩
  · exact Or.inl h2
  · refine Or.inr ⟨g, c, cur, e1, e2, ?_, e4⟩
    rw [hg.block g (lt_of_block e3) (fun e => ?_)]
    · exact e3
    · simp at e
      subst e
      rw [e3] at hS
      injection hS with hS
      injection hS with _ h3 _
      exact hT h3.symm
theorem So.keep {W W' : World} {b S : Nat} {vc vd : Value} {p : Snp} {cs : Array Value} (h : So b W vc vd p) (hS : W.heap[S]? = some (Obj.cells cs 35 (0, 0))) (hg : W.grownBy W' (some S)) : So b W' vc vd p :=
  ⟨own_keepS h.1 hS (by decide) hg, own_keepS h.2 hS (by decide) hg⟩

set_option maxRecDepth 8000 in
set_option maxHeartbeats 4000000 in
theorem copySnap_any (p : Snp) (vc vd : Value) (w : World) (hC : Is w vc p.conf) (hD : Sl w vd p.data) (hlc : p.conf.length ≤ 1000000000000) (hld : p.data.length ≤ 140737488355328) :
    Calls Tryz.prog 45 #[.agg #[.int .i64 p.idx, .int .i64 p.term, vc, vd]] w fun x w' => ∃ ac nc cc ad nd cd, x = .returned (.agg #[.int .i64 p.idx, .int .i64 p.term, .slice ac nc cc, .slice ad nd cd]) ∧ Hid (So w.heap.size w' (.slice ac nc cc) (.slice ad nd cd) p ∧ Below w.heap.size w w') := by
  obtain ⟨a1, n1, c1, rfl⟩ : ∃ a n c, vc = .slice a n c := by obtain ⟨ao, cap, e, _⟩ := hC; exact ⟨_, _, _, e⟩
  obtain ⟨a2, c2, rfl, _⟩ := hD.shape
  have HB0 := hide (Bs.new w #[.int .i64 p.idx, .int .i64 p.term, .slice a1 n1 c1, .slice a2 p.data.length c2] #[.int .i64 0, .int .i64 0, .slice none 0 0, .slice none 0 0])
  have HW0 : Hid (Below w.heap.size w ((w.alloc (.cells #[.int .i64 p.idx, .int .i64 p.term, .slice a1 n1 c1, .slice a2 p.data.length c2] 35)).alloc (.cells #[.int .i64 0, .int .i64 0, .slice none 0 0, .slice none 0 0] 35))) := ((Below.refl _ w).alloc (Nat.le_refl _) _).alloc (by simp) _
  have HC := hide hC
  have HDd := hide hD
  have HLC := hide hlc
  have HLD := hide hld
  clear hC hD hlc hld
  go_enter Tryz.func45, Tryz.ntmps45
  go_wp2_with fail
  generalize ((w.alloc (.cells #[.int .i64 p.idx, .int .i64 p.term, .slice a1 n1 c1, .slice a2 p.data.length c2] 35)).alloc (.cells #[.int .i64 0, .int .i64 0, .slice none 0 0, .slice none 0 0] 35)) = W0 at *
  have s2 : W0.cell? ⟨w.heap.size, 2, none⟩ = some (.slice a1 n1 c1) := HB0.out.cs 2
  have s3 : W0.cell? ⟨w.heap.size, 3, none⟩ = some (.slice a2 p.data.length c2) := HB0.out.cs 3
  have C68 : Hid (∀ X, Below W0.heap.size W0 X → Calls Tryz.prog 68 #[.slice a1 n1 c1] X fun x w' => ∃ an nn cn, x = .returned (.slice an nn cn) ∧ Hid (Below X.heap.size X w' ∧ Below W0.heap.size W0 w' ∧ w'.ownsRow w.heap.size 3 1 (.slice an nn cn) p.conf.length (cI p.conf))) := fun X hX => by
    have hbX := HW0.out.trans (hX.mono HW0.out.size)
    refine (copyI_any _ p.conf X (HC.out.below hbX) HLC.out).mono ?_
    rintro x w' ⟨v', rfl, hz⟩
    obtain ⟨an, nn, cn, rfl⟩ := Dk.own_slice hz.out.1
    exact ⟨an, nn, cn, rfl, hz.out.2, hX.trans (hz.out.2.mono hX.size), own_low hz.out.1 hbX.size⟩
  have C67 : Hid (∀ X, Below W0.heap.size W0 X → Calls Tryz.prog 67 #[.slice a2 p.data.length c2] X fun x w' => ∃ an nn cn, x = .returned (.slice an nn cn) ∧ Hid (Below X.heap.size X w' ∧ Below W0.heap.size W0 w' ∧ w'.ownsRow w.heap.size 5 1 (.slice an nn cn) p.data.length (cells8 p.data))) := fun X hX => by
    have hbX := HW0.out.trans (hX.mono HW0.out.size)
    refine (copyB_any _ p.data X (HDd.out.below hbX) HLD.out).mono ?_
    rintro x w' ⟨v', rfl, ho, hb⟩
    obtain ⟨an, nn, cn, rfl⟩ := Dk.own_slice ho
    exact ⟨an, nn, cn, rfl, hb, hX.trans (hb.mono hX.size), own_low ho hbX.size⟩
  have hdr : Below W0.heap.size W0 W0.drew := (Below.refl _ W0).drew
  refine wp_region_noPanic ?_
  go_region_law (first
      | (have m5 := HA5; go_simp; go_at_call 67; (with_reducible refine Calls.mono (C67.out _ m5.out.2.1) ?_); rintro e w6 ⟨ad, nd, cd, rfl, H6⟩; have HB6 := hide (HB0.out.below H6.out.2.1); have HSo : Hid (So w.heap.size w6 (.slice ac nc cc) (.slice ad nd cd) p) := ⟨own_bel m5.out.2.2 H6.out.1, H6.out.2.2⟩; have HW6 := hide (HW0.out.trans (H6.out.2.1.mono HW0.out.size)); have q2 : w6.cell? ⟨w.heap.size, 2, none⟩ = some (.slice a1 n1 c1) := HB6.out.cs 2; have q3 : w6.cell? ⟨w.heap.size, 3, none⟩ = some (.slice a2 p.data.length c2) := HB6.out.cs 3; have f2 := HB6.out.fs 2; have f3 := HB6.out.fs 3)
      | (have m5 := HC5; go_simp; go_at_call 68; (with_reducible refine Calls.mono (C68.out _ m5.out.2.1) ?_); rintro e w6 ⟨ac, nc, cc, rfl, H6⟩; have HB6 := hide (HB0.out.below H6.out.2.1); have HSo : Hid (So w.heap.size w6 (.slice ac nc cc) (.slice ad nd cd) p) := ⟨H6.out.2.2, own_bel m5.out.2.2 H6.out.1⟩; have HW6 := hide (HW0.out.trans (H6.out.2.1.mono HW0.out.size)); have q2 : w6.cell? ⟨w.heap.size, 2, none⟩ = some (.slice a1 n1 c1) := HB6.out.cs 2; have q3 : w6.cell? ⟨w.heap.size, 3, none⟩ = some (.slice a2 p.data.length c2) := HB6.out.cs 3; have f2 := HB6.out.fs 2; have f3 := HB6.out.fs 3)
      | (go_simp; go_at_call 68; (with_reducible refine Calls.mono (C68.out W0.drew hdr) ?_); rintro e w5 ⟨ac, nc, cc, rfl, HA5⟩; have HB5 := hide (HB0.out.below HA5.out.2.1); have b3 : w5.cell? ⟨w.heap.size, 3, none⟩ = some (.slice a2 p.data.length c2) := HB5.out.cs 3)
      | (go_simp; go_at_call 67; (with_reducible refine Calls.mono (C67.out W0.drew hdr) ?_); rintro e w5 ⟨ad, nd, cd, rfl, HC5⟩; have HB5 := hide (HB0.out.below HC5.out.2.1); have b2 : w5.cell? ⟨w.heap.size, 2, none⟩ = some (.slice a1 n1 c1) := HB5.out.cs 2))
  all_goals refine NoPanic.normal ?_
  all_goals have HB8 := hide ((HB6.out.setS 2 (.slice ac nc cc)).setS 3 (.slice ad nd cd))
  all_goals have HS8 : Hid (So w.heap.size ((w6.setCell ⟨w.heap.size, 2, none⟩ (.slice ac nc cc)).setCell ⟨w.heap.size, 3, none⟩ (.slice ad nd cd)) (.slice ac nc cc) (.slice ad nd cd) p) := HSo.out.keep HB6.out.s (grown_set (grown_set (grown_refl _ _)))
  all_goals have HW8 : Hid (Below w.heap.size w ((w6.setCell ⟨w.heap.size, 2, none⟩ (.slice ac nc cc)).setCell ⟨w.heap.size, 3, none⟩ (.slice ad nd cd))) := (HW6.out.setCell (p := ⟨w.heap.size, 2, none⟩) (Nat.le_refl _) _).setCell (p := ⟨w.heap.size, 3, none⟩) (Nat.le_refl _) _
  all_goals clear q2 q3 f2 f3 s2 s3 HB6 HSo HW6
  all_goals generalize ((w6.setCell ⟨w.heap.size, 2, none⟩ (.slice ac nc cc)).setCell ⟨w.heap.size, 3, none⟩ (.slice ad nd cd)) = W8 at *
  all_goals have s0 : W8.cell? ⟨w.heap.size, 0, none⟩ = some (.int .i64 p.idx) := HB8.out.cs 0
  all_goals have s1 : W8.cell? ⟨w.heap.size, 1, none⟩ = some (.int .i64 p.term) := HB8.out.cs 1
  all_goals have s2 : W8.cell? ⟨w.heap.size, 2, none⟩ = some (.slice ac nc cc) := HB8.out.cs 2
  all_goals have s3 : W8.cell? ⟨w.heap.size, 3, none⟩ = some (.slice ad nd cd) := HB8.out.cs 3
  all_goals have z0 : W8.cell? ⟨w.heap.size + 1, 0, none⟩ = some (.int .i64 0) := HB8.out.cz 0
  all_goals have g0 : W8.frozen? ⟨w.heap.size + 1, 0, none⟩ = false := HB8.out.fz 0
  all_goals have z1 : W8.cell? ⟨w.heap.size + 1, 1, none⟩ = some (.int .i64 0) := HB8.out.cz 1
  all_goals have g1 : W8.frozen? ⟨w.heap.size + 1, 1, none⟩ = false := HB8.out.fz 1
  all_goals have z2 : W8.cell? ⟨w.heap.size + 1, 2, none⟩ = some (.slice none 0 0) := HB8.out.cz 2
  all_goals have g2 : W8.frozen? ⟨w.heap.size + 1, 2, none⟩ = false := HB8.out.fz 2
  all_goals have z3 : W8.cell? ⟨w.heap.size + 1, 3, none⟩ = some (.slice none 0 0) := HB8.out.cz 3
  all_goals have g3 : W8.frozen? ⟨w.heap.size + 1, 3, none⟩ = false := HB8.out.fz 3
  all_goals have HN := hide (fill4 HB8.out.z (.int .i64 p.idx) (.int .i64 p.term) (.slice ac nc cc) (.slice ad nd cd))
  all_goals go_wp2_with fail
  all_goals refine bodyPost_ret (results_cellR rfl _ _ (w.heap.size + 1) 35 #[.int .i64 p.idx, .int .i64 p.term, .slice ac nc cc, .slice ad nd cd] rfl HN.out.1 Tryz.underlying35 sz35) rfl ?_
  all_goals exact ⟨ac, nc, cc, ad, nd, cd, rfl, HS8.out.keep HB8.out.z HN.out.2, HW8.out.trans ⟨HN.out.2.os, HN.out.2.tape, HN.out.2.output, HN.out.2.size, fun k hk => HN.out.2.block k (Nat.lt_of_lt_of_le hk HW8.out.size) (by simp; omega)⟩⟩
end Go.Proofs.YtjndgekpdmlbiaaGreatDoor.Kp
namespace Go.Proofs.YtjndgekpdmlbiaaGreatDoor.Kp
open Go.RowKit Bn

theorem openK_nil (w : World) : Calls Tryz.prog 10 #[.pointer none] w fun e w' => e = .returned (.tuple #[.pointer none, .int .i64 1]) ∧ w' = w := by
  have H := hide (Wl.open_nil w)
  go_enter Tryz.func10, Tryz.ntmps10
  go_wp2_with fail
  refine Calls.mono H.out ?_
  rintro e w1 ⟨rfl, hw⟩
  have hw' := hw.symm
  subst hw'
  go_wp2_with fail
  go_ret2
  exact ⟨rfl, rfl⟩
theorem sz31 : (Tryz.prog.info? 31).map (·.size) = some 2 := by kernel_rfl
theorem hard_nil (w : World) : Calls Tryz.prog 21 #[.pointer none] w fun e w' => e = .returned (.agg #[.int .i64 0, .int .i64 0]) ∧ Below w.heap.size w w' := by
  go_enter Tryz.func21, Tryz.ntmps21
  go_wp2_with fail
  refine bodyPost_ret (results_cellR rfl _ _ w.heap.size 31 #[.int .i64 0, .int .i64 0] rfl (heap_alloc_new _ _) Tryz.underlying31 sz31) rfl ?_
  exact ⟨rfl, (Below.refl _ w).alloc (Nat.le_refl _) _⟩
theorem entries_nil (w : World) : Calls Tryz.prog 22 #[.pointer none] w fun e w' => e = .returned (.slice none 0 0) ∧ w' = w := by
  go_enter Tryz.func22, Tryz.ntmps22
  go_wp2
  go_ret
  exact ⟨rfl, rfl⟩
theorem snap_nil (w : World) : Calls Tryz.prog 23 #[.pointer none] w fun e w' => e = .returned (.agg #[.int .i64 0, .int .i64 0, .slice none 0 0, .slice none 0 0]) ∧ Below w.heap.size w w' := by
  go_enter Tryz.func23, Tryz.ntmps23
  go_wp2_with fail
  refine bodyPost_ret (results_cellR rfl _ _ w.heap.size 35 #[.int .i64 0, .int .i64 0, .slice none 0 0, .slice none 0 0] rfl (heap_alloc_new _ _) Tryz.underlying35 sz35) rfl ?_
  exact ⟨rfl, (Below.refl _ w).alloc (Nat.le_refl _) _⟩
theorem save_nil (a b c d e f g h i : Value) (w : World) : Calls Tryz.prog 13 #[.pointer none, .agg #[a, b, c, d, e, f, g, h, i]] w fun e w' => e = .returned (.int .i64 1) ∧ Below w.heap.size w w' := by
  go_enter Tryz.func13, Tryz.ntmps13
  go_wp2
  go_ret
  exact ⟨rfl, (Below.refl _ w).alloc (Nat.le_refl _) _⟩
theorem compact_nil (a b c d : Value) (w : World) : Calls Tryz.prog 15 #[.pointer none, .agg #[a, b, c, d]] w fun e w' => e = .returned (.int .i64 1) ∧ Below w.heap.size w w' := by
  have hb : Below w.heap.size w (w.alloc (.cells #[a, b, c, d] 35)) := (Below.refl _ w).alloc (Nat.le_refl _) _
  go_enter Tryz.func15, Tryz.ntmps15
  go_upto_region 1 with fail
  generalize w.alloc (.cells #[a, b, c, d] 35) = w1 at *
  go_wp2_with fail
  go_big_quiet (fail)
  go_wp2_with fail
  go_ret
  exact ⟨rfl, hb.trans ((Wl.below_drew w1 nq).mono hb.size)⟩
theorem hard_any {w : World} {kb p : Nat} {t0 v0 : Int} {c2 c3 c4 c5 c6 : Value} {z : Int} (h : KwB w kb p (.int .i64 t0) (.int .i64 v0) c2 c3 c4 c5 c6 z) :
    Calls Tryz.prog 21 #[.pointer (some ⟨kb, 0, none⟩)] w fun e w' => e = .returned (.agg #[.int .i64 t0, .int .i64 v0]) ∧ Below w.heap.size w w' := by
  have hb : Below w.heap.size w (w.alloc (.cells #[.int .i64 0, .int .i64 0] 31)) := (Below.refl _ w).alloc (Nat.le_refl _) _
  have k0 := (h.below hb).c 0
  have k1 := (h.below hb).c 1
  simp at k0 k1
  clear h
  go_enter Tryz.func21, Tryz.ntmps21
  go_wp2_with fail
  refine bodyPost_ret (results_cellR rfl _ _ w.heap.size 31 #[.int .i64 t0, .int .i64 v0] rfl (heap_alloc_new _ _) Tryz.underlying31 sz31) rfl ?_
  exact ⟨rfl, (Below.refl _ w).alloc (Nat.le_refl _) _⟩
theorem entries_any {w : World} {kb p : Nat} {c0 c1 c2 c3 c4 c5 : Value} {z : Int} (ae : Option Addr) (le ce : Nat) (es : List Ent) (h : KwB w kb p c0 c1 c2 c3 c4 c5 (.slice ae le ce) z) (hE : Es w (.slice ae le ce) es) (hl : es.length ≤ 1000000000000) (hd : ∀ e ∈ es, e.data.length ≤ 140737488355328) :
    Calls Tryz.prog 22 #[.pointer (some ⟨kb, 0, none⟩)] w fun x w' => ∃ a c, x = .returned (.slice a es.length c) ∧ Below w.heap.size w w' := by
  have HC := hide (copyEntries_any _ es w hE hl hd)
  have k6 := h.c 6
  simp at k6
  clear h
  go_enter Tryz.func22, Tryz.ntmps22
  go_wp2_with fail
  refine Calls.mono HC.out ?_
  rintro x w1 ⟨v1, rfl, HP⟩
  obtain ⟨hEr, hb⟩ := HP.out
  obtain ⟨a1, c1, rfl⟩ : ∃ a c, v1 = .slice a es.length c := by
    obtain ⟨us, _, h2, _⟩ := hEr
    rcases Dk.own_shape h2 with ⟨e, h0⟩ | ⟨g, c, e, _⟩
    · exact ⟨none, 0, by rw [e, h0]⟩
    · exact ⟨_, c, e⟩
  have HB := hide hb
  clear HP hEr hb HC
  go_wp2_with fail
  go_ret
  exact ⟨a1, c1, rfl, HB.out⟩
theorem snap_any {w : World} {kb p : Nat} {c0 c1 c6 : Value} {z : Int} (h : KwB w kb p c0 c1 (.int .i64 0) (.int .i64 0) (.slice none 0 0) (.slice none 0 0) c6 z) :
    Calls Tryz.prog 23 #[.pointer (some ⟨kb, 0, none⟩)] w fun x w' => (∃ b c d, x = .returned (.agg #[.int .i64 0, b, c, d])) ∧ Below w.heap.size w w' := by
  have hb : Below w.heap.size w (w.alloc (.cells #[.int .i64 0, .int .i64 0, .slice none 0 0, .slice none 0 0] 35)) := (Below.refl _ w).alloc (Nat.le_refl _) _
  have hB : (w.alloc (.cells #[.int .i64 0, .int .i64 0, .slice none 0 0, .slice none 0 0] 35)).heap[w.heap.size]? = some (.cells #[.int .i64 0, .int .i64 0, .slice none 0 0, .slice none 0 0] 35 (0, 0)) := heap_alloc_new _ _
  have k2 := (h.below hb).c 2
  have k3 := (h.below hb).c 3
  have k4 := (h.below hb).c 4
  have k5 := (h.below hb).c 5
  simp at k2 k3 k4 k5
  have HC := hide (copySnap_any ⟨0, 0, [], []⟩ (.slice none 0 0) (.slice none 0 0) (w.alloc (.cells #[.int .i64 0, .int .i64 0, .slice none 0 0, .slice none 0 0] 35)) ⟨none, 0, rfl, Nat.le_refl _, by simp [maxLen], fun h => by simp at h⟩ (Sl.nil _) (by simp) (by simp))
  dsimp only at HC
  have HB1 := hide hb
  have HB2 := hide hB
  clear h hb hB
  go_enter Tryz.func23, Tryz.ntmps23
  go_upto_region 3 with fail
  generalize w.alloc (.cells #[.int .i64 0, .int .i64 0, .slice none 0 0, .slice none 0 0] 35) = w1 at *
  go_wp2_with fail
  refine Calls.mono HC.out ?_
  rintro x w2 ⟨ac, nc, cc, ad, nd, cd, rfl, HP⟩
  have hb2 := HP.out.2
  have h2 := (hb2.block w.heap.size (lt_of_block HB2.out)).trans HB2.out
  have z0 := cell_of_row w2 w.heap.size 0 _ 35 (0, 0) h2
  have z1 := cell_of_row w2 w.heap.size 1 _ 35 (0, 0) h2
  have z2 := cell_of_row w2 w.heap.size 2 _ 35 (0, 0) h2
  have z3 := cell_of_row w2 w.heap.size 3 _ 35 (0, 0) h2
  simp at z0 z1 z2 z3
  have ff := fun i => frozen_of_row w2 w.heap.size i _ 35 h2
  have HN := hide (fill4 h2 (.int .i64 0) (.int .i64 0) (.slice ac nc cc) (.slice ad nd cd))
  have HB3 := hide (HB1.out.trans (hb2.mono HB1.out.size))
  clear HP hb2 h2 HC
  go_wp2_with fail
  refine bodyPost_ret (results_cellR rfl _ _ w.heap.size 35 #[.int .i64 0, .int .i64 0, .slice ac nc cc, .slice ad nd cd] rfl HN.out.1 Tryz.underlying35 sz35) rfl ?_
  exact ⟨⟨_, _, _, rfl⟩, HB3.out.trans ⟨HN.out.2.os, HN.out.2.tape, HN.out.2.output, HN.out.2.size, fun k hk => HN.out.2.block k (Nat.lt_of_lt_of_le hk HB3.out.size) (by simp; omega)⟩⟩
end Go.Proofs.YtjndgekpdmlbiaaGreatDoor.Kp
namespace Go.Proofs.YtjndgekpdmlbiaaGreatDoor.Kp
open Go.RowKit Bn

def e1 : Ent := ⟨1, 3, 2, [120]⟩
def r1 : Rdy := ⟨3, 2, true, 1, [e1], none⟩
def s1 : St := ⟨3, 2, ⟨0, 0, [], []⟩, [e1]⟩
theorem r1_after : st0.after r1 = some s1 := rfl
theorem r1_ok : r1.ok := by
  refine ⟨⟨by decide, by decide⟩, ⟨by decide, by decide⟩, ⟨by decide, by decide⟩, fun e he => ?_, fun s hs => by cases hs⟩
  simp [r1] at he
  subst he
  exact ⟨⟨by decide, by decide⟩, ⟨by decide, by decide⟩, ⟨by decide, by decide⟩, by decide⟩
theorem r1_len : (encR false r1).length ≤ 100 := by decide +kernel
theorem r1_sz : rsz r1 ≤ 1000 := by decide +kernel
theorem r1_long : r1.long = false := by decide +kernel
theorem r1_good : st0.isGood r1 = true := by decide +kernel
theorem r1_rec : (Wl.recB 1 (fl true ++ encR false r1)).length ≤ 200 := by
  have h1 := Wl.recB_size 1 (fl true ++ encR false r1) (by decide) (by have := r1_len; simp [fl]; omega)
  have h2 := r1_len
  have h3 : (fl true ++ encR false r1).length ≤ 101 := by simp [fl]; omega
  omega
theorem sZ_mass : Wl.sZ.mass = 0 := by decide +kernel
theorem sZ_push (X : List UInt8) : (Wl.sZ.push (.app Wl.nmW X)).mass ≤ X.length + 100 := by
  rw [Dk.St.push_mass, sZ_mass]
  simp [Dk.Ch.mass]
theorem sR_mass (X : List UInt8) : (Wl.sR X).mass ≤ X.length + 100 := by
  simp [Wl.sR, Dk.St.mass, Dk.mass, Dk.wmass]

/-- The entry as it lies in memory. -/
theorem es_one (w : World) : Es ((w.alloc (.cells #[.int .u8 120] 5 (1, 2))).alloc (.cells #[.int .i64 1, .int .i64 3, .int .i64 2, .slice (some ⟨w.heap.size, 0, none⟩) 1 1] 65)) (.slice (some ⟨w.heap.size + 1, 0, none⟩) 1 1) [e1] := by
  have hS : Sl (w.alloc (.cells #[.int .u8 120] 5 (1, 2))) (.slice (some ⟨w.heap.size, 0, none⟩) 1 1) [120] := Dk.sl_new w #[.int .u8 120] [120] 5 (1, 2) rfl (by decide)
  have hn : ((w.alloc (.cells #[.int .u8 120] 5 (1, 2))).alloc (.cells #[.int .i64 1, .int .i64 3, .int .i64 2, .slice (some ⟨w.heap.size, 0, none⟩) 1 1] 65)).heap[w.heap.size + 1]? = some (.cells #[.int .i64 1, .int .i64 3, .int .i64 2, .slice (some ⟨w.heap.size, 0, none⟩) 1 1] 65 (0, 0)) := by
    have := heap_alloc_new (w.alloc (.cells #[.int .u8 120] 5 (1, 2))) (.cells #[.int .i64 1, .int .i64 3, .int .i64 2, .slice (some ⟨w.heap.size, 0, none⟩) 1 1] 65)
    simpa using this
  refine ⟨_, 1, rfl, by decide, by decide, fun _ => ⟨w.heap.size + 1, 0, rfl, fun j e hj => ?_⟩⟩
  match j, hj with
  | 0, hj =>
    cases hj
    refine ⟨some ⟨w.heap.size, 0, none⟩, 1, 1, ?_, ?_, ?_, ?_, hS.alloc _⟩ <;> rw [cell_of_row _ _ _ _ _ _ hn] <;> rfl

theorem fld0 (W : World) : (Instr.field 31 (.agg #[.int .i64 3, .int .i64 2]) 0).run Tryz.prog W = .ok (.int .i64 3) W := by kernel_rfl
theorem fld1 (W : World) : (Instr.field 31 (.agg #[.int .i64 3, .int .i64 2]) 1).run Tryz.prog W = .ok (.int .i64 2) W := by kernel_rfl
theorem fld2 (b c d : Value) (W : World) : (Instr.field 35 (.agg #[.int .i64 0, b, c, d]) 0).run Tryz.prog W = .ok (.int .i64 0) W := by kernel_rfl

set_option maxHeartbeats 4000000 in
set_option maxRecDepth 20000 in
theorem begun_any (w : World) (ht : Fr.Tab w) : Calls Tryz.prog 8 #[] w fun e w' => e = .returned (.bool true) ∧ Below w.heap.size w w' := by
  have hw0 : 0 < w.heap.size := cell_lt (ht 0 (by omega))
  have HN : Hid (_) := Dk.new_any 1048576 w
  rw [Wl.sZ_room] at HN
  have HT : Hid (∀ u, Below w.heap.size w u → Fr.Tab u) := fun u hb => ht.below hb
  obtain ⟨t, Ht⟩ : ∃ t, Hid (t = encR false r1) := ⟨encR false r1, (rfl : _ = encR false r1)⟩
  obtain ⟨X, HX⟩ : ∃ X, Hid (X = Wl.recB 1 (fl true ++ t)) := ⟨Wl.recB 1 (fl true ++ t), (rfl : _ = Wl.recB 1 (fl true ++ t))⟩
  have HXl : Hid (X.length ≤ 200) := by
    have := r1_rec
    rw [← Ht.out, ← HX.out] at this
    exact this
  go_enter Tryz.func8, Tryz.ntmps8
  go_wp2_with fail
  refine Calls.mono HN.out ?_
  rintro e w1 ⟨rfl, hD1, hb1⟩
  have HO : Hid (Calls Tryz.prog 10 #[.pointer (some ⟨w.heap.size, 0, none⟩)] w1 fun e w2 => ∃ kb, e = .returned (.tuple #[.pointer (some ⟨kb, 0, none⟩), .int .i64 0]) ∧ Hid (∃ p H, Wl.LX w2 p w.heap.size Wl.sZ H 0 [] ∧ (∀ k, H k → w.heap.size ≤ k) ∧ ¬ H kb ∧ w.heap.size ≤ kb ∧ KwB w2 kb p (.int .i64 0) (.int .i64 0) (.int .i64 0) (.int .i64 0) (.slice none 0 0) (.slice none 0 0) (.slice none 0 0) 0 ∧ Below w.heap.size w w2)) := by
    have hs1 := hb1.size
    refine (open_none hD1 (HT.out w1 hb1) ?_ (by rw [sZ_mass]; omega) (fun f hf => by simp [Wl.sZ, Dk.St.now, Dk.run] at hf) (by rw [Wl.sZ_file]; decide) (by decide) Wl.load_nil).mono ?_
    · rintro (hh | hh)
      · exact hh
      · omega
    · rintro e w2 ⟨kb, rfl, HP⟩
      obtain ⟨p, H, h1, h2, h3, h4, h5, h6⟩ := HP.out
      rw [Wl.sZ_open] at h1
      refine ⟨kb, rfl, p, H, h1, fun k hk => ?_, h3, by omega, h5, hb1.trans (h6.below (fun k hk => ?_) hs1)⟩
      · rcases h2 k hk with (hh | hh) | hh
        · exact hh.elim
        · exact hh.1
        · omega
      · rcases hk with hh | hh
        · exact hh.elim
        · exact hh.1
  clear hD1 hb1 HN
  go_wp2_with fail
  refine Calls.mono HO.out ?_
  rintro e w2 ⟨kb, rfl, HX2⟩
  clear HO
  have hcv := Lib.run_convert_bytes_const (P := Tryz.prog) w2 33 5 #[.int .u8 120] 1 1 Tryz.underlying33 Tryz.underlying5
  have HSV : Hid (Calls Tryz.prog 13 #[.pointer (some ⟨kb, 0, none⟩), .agg #[.int .i64 3, .int .i64 2, .bool true, .int .i64 1, .slice (some ⟨w2.heap.size + 1, 0, none⟩) 1 1, .pointer none, .slice none 0 0, .slice none 0 0, .slice none 0 0]] ((w2.alloc (.cells #[.int .u8 120] 5 (1, 2))).alloc (.cells #[.int .i64 1, .int .i64 3, .int .i64 2, .slice (some ⟨w2.heap.size, 0, none⟩) 1 1] 65)) fun e w3 => e = .returned (.int .i64 0) ∧ Hid (Calls Tryz.prog 16 #[.pointer (some ⟨w.heap.size, 0, none⟩), .int .i64 (-1), .int .i64 0] w3 fun e w5 => ∃ q, e = .returned (.pointer (some ⟨q, 0, none⟩)) ∧ Hid (Calls Tryz.prog 10 #[.pointer (some ⟨q, 0, none⟩)] w5 fun e w6 => ∃ kc, e = .returned (.tuple #[.pointer (some ⟨kc, 0, none⟩), .int .i64 0]) ∧ Hid (∃ p av nv cv z, KwB w6 kc p (.int .i64 3) (.int .i64 2) (.int .i64 0) (.int .i64 0) (.slice none 0 0) (.slice none 0 0) (.slice av nv cv) z ∧ Es w6 (.slice av nv cv) [e1] ∧ Below w.heap.size w w6)))) := by
    obtain ⟨p, H, h1, h2, h3, h4, h5, h6⟩ := HX2.out
    have hba : Below w2.heap.size w2 ((w2.alloc (.cells #[.int .u8 120] 5 (1, 2))).alloc (.cells #[.int .i64 1, .int .i64 3, .int .i64 2, .slice (some ⟨w2.heap.size, 0, none⟩) 1 1] 65)) := ((Below.refl _ _).alloc (Nat.le_refl _) _).alloc (by simp) _
    have hbb := h6.trans (hba.mono h6.size)
    have hXl := HXl.out
    have hlen := r1_len
    have hrr : (Dk.used Wl.sZ.now : Int) + (Wl.recB 1 (fl true ++ encR false r1)).length ≤ Wl.sZ.room := by
      have hu : Dk.used Wl.sZ.now = 0 := rfl
      have := r1_rec
      rw [hu]
      show ((0 : Nat) : Int) + _ ≤ (1048576 : Int)
      omega
    refine (save_first (h1.below hba) (HT.out _ hbb) (h5.below hba) h3 r1 s1 r1_after (.slice none 0 0) (.slice none 0 0) (.slice none 0 0) _ 1 1 (es_one w2) rfl rfl r1_ok (by have := r1_sz; omega) (by omega) (by decide) (fun e he => by simp [r1] at he; subst he; decide) r1_long r1_good hrr (Or.inr (by decide)) (by rw [sZ_mass]; omega) (by have h7 := sZ_push (Wl.recB 1 (fl true ++ encR false r1)); have h8 := r1_rec; omega)).mono ?_
    rintro e w3 ⟨rfl, HD⟩
    obtain ⟨H', g1, g2, g3⟩ := HD.out
    rw [← Ht.out, ← HX.out, Wl.sZ_now] at g1
    have g1' : Wl.LX w3 p w.heap.size (Wl.sR X) H' 1 [fl true ++ t] := g1
    have hb3 : Below w.heap.size w w3 := hbb.trans (g3.below (fun k hk => by
      rcases hk with hk | hk
      · exact h2 k hk
      · omega) hbb.size)
    refine ⟨rfl, ?_⟩
    refine (g1'.crash (by have := sR_mass X; omega) (-1) 0).mono ?_
    rintro e w5 ⟨q, rfl, HQ⟩
    obtain ⟨hD5, hb5⟩ := HQ.out
    refine ⟨q, rfl, ?_⟩
    have hlf : (⟨(Wl.sR X).room, Dk.leftOf (Wl.sR X) (-1) 0, []⟩ : Dk.St) = Wl.sR X := rfl
    rw [hlf] at hD5
    have hb5' : Below w.heap.size w w5 := hb3.trans (hb5.mono hb3.size)
    have hs3 := hb3.size
    have hs5 := hb5.size
    have hlen5 : (encR false ⟨3, 2, true, 1, [e1], none⟩).length ≤ 100000 := by have h9 : (encR false r1).length ≤ 100000 := by omega
                                                                                exact h9
    refine (open_one hD5 (HT.out w5 hb5') ?_ (by have := sR_mass X; omega) (fun f hf => ?_) (by rw [Wl.sR_file]; omega) (by rw [Wl.sR_now]; simp) 3 2 1 [e1] r1_ok (by decide) s1 r1_after (by decide) (fun e he => by simp at he; subst he; decide) hlen5 ?_).mono ?_
    · rintro (hh | hh)
      · exact hh
      · omega
    · rw [Wl.sR_now, List.mem_singleton] at hf
      rw [hf]
      exact (show Wl.nmW.size ≤ maxLen by decide)
    · rw [HX.out, Ht.out]
      exact Wl.load_one 1 _ (by decide) (by decide) (by simp [fl]; omega)
    · rintro e w6 ⟨kc, rfl, HP⟩
      obtain ⟨p6, av, nv, cv, z, f1, f2, f3⟩ := HP.out
      refine ⟨kc, rfl, p6, av, nv, cv, z, f1, f2, hb5'.trans (f3.below (fun k hk => ?_) hb5'.size)⟩
      rcases hk with hh | hh
      · exact hh.elim
      · omega
  clear HX2
  go_wp2_with fail
  clear hcv
  refine Calls.mono HSV.out ?_
  rintro e w3 ⟨rfl, HCR⟩
  clear HSV
  go_wp2_with fail
  refine Calls.mono HCR.out ?_
  rintro e w5 ⟨q, rfl, HOP⟩
  clear HCR
  go_wp2_with fail
  refine Calls.mono HOP.out ?_
  rintro e w6 ⟨kc, rfl, HP6⟩
  clear HOP
  obtain ⟨p6, av, nv, cv, z, f1, f2, f3⟩ := HP6.out
  have HK6 := hide f1
  have HE6 := hide f2
  have HB6 := hide f3
  have HH6 := hide (hard_any f1)
  clear f1 f2 f3 HP6
  go_wp2_with fail
  refine Calls.mono HH6.out ?_
  rintro e w7 ⟨rfl, hb7⟩
  have HB7 := hide (HB6.out.trans (hb7.mono HB6.out.size))
  have HK7 := hide (HK6.out.below hb7)
  have HE7 := hide (HE6.out.below hb7)
  have HH7 := hide (hard_any HK7.out)
  have i7 := fld0 w7
  clear hb7 HH6 HK6 HE6 HB6
  go_wp2_with fail
  refine Calls.mono HH7.out ?_
  rintro e w8 ⟨rfl, hb8⟩
  have i8 := fld1 w8
  have HB8 := hide (HB7.out.trans (hb8.mono HB7.out.size))
  have HK8 := hide (HK7.out.below hb8)
  have HE8 := hide (HE7.out.below hb8)
  have HH8 := hide (entries_any av nv cv [e1] HK8.out HE8.out (by decide) (fun e he => by simp at he; subst he; decide))
  clear hb8 HH7 HK7 HE7 HB7
  go_wp2_with fail
  refine Calls.mono HH8.out ?_
  rintro e w9 ⟨a9, c9, rfl, hb9⟩
  have HB9 := hide (HB8.out.trans (hb9.mono HB8.out.size))
  have HK9 := hide (HK8.out.below hb9)
  have HH9 := hide (snap_any HK9.out)
  clear hb9 HH8 HK8 HE8 HB8
  go_wp2_with fail
  refine Calls.mono HH9.out ?_
  rintro e w10 ⟨⟨b10, c10, d10, rfl⟩, hb10⟩
  have i10 := fld2 b10 c10 d10 w10
  have HB10 := hide (HB9.out.trans (hb10.mono HB9.out.size))
  clear hb10 HH9 HK9 HB9
  go_wp2_with fail
  go_ret
  exact ⟨rfl, HB10.out⟩
end Go.Proofs.YtjndgekpdmlbiaaGreatDoor.Kp
namespace Go.Proofs.YtjndgekpdmlbiaaGreatDoor.Kp
open Go.RowKit Bn

theorem gld0 (W : World) : (Instr.field 31 (.agg #[.int .i64 0, .int .i64 0]) 0).run Tryz.prog W = .ok (.int .i64 0) W := by kernel_rfl
set_option maxHeartbeats 4000000 in
set_option maxRecDepth 20000 in
theorem keepNone_any (w : World) (ht : Fr.Tab w) : Calls Tryz.prog 5 #[] w fun e w' => e = .returned (.bool true) ∧ Below w.heap.size w w' := by
  have HO := hide (openK_nil w)
  have HG := hide (begun_any w ht)
  clear ht
  go_enter Tryz.func5, Tryz.ntmps5
  go_wp2_with fail
  refine Calls.mono HO.out ?_
  rintro e w0 ⟨rfl, hw⟩
  have hw' := hw.symm
  subst hw'
  clear HO
  go_wp2_with fail
  refine Calls.mono HG.out ?_
  rintro e w1 ⟨rfl, hb1⟩
  have HB1 := hide hb1
  clear hb1 HG
  go_wp2_with fail
  refine Calls.mono (save_nil _ _ _ _ _ _ _ _ _ w1) ?_
  rintro e w2 ⟨rfl, hb2⟩
  have HB2 := hide (HB1.out.trans (hb2.mono HB1.out.size))
  clear hb2 HB1
  go_wp2_with fail
  refine Calls.mono (compact_nil _ _ _ _ w2) ?_
  rintro e w3 ⟨rfl, hb3⟩
  have HB3 := hide (HB2.out.trans (hb3.mono HB2.out.size))
  clear hb3 HB2
  go_wp2_with fail
  refine Calls.mono (hard_nil w3) ?_
  rintro e w4 ⟨rfl, hb4⟩
  have HB4 := hide (HB3.out.trans (hb4.mono HB3.out.size))
  have i4 := gld0 w4
  clear hb4 HB3
  go_wp2_with fail
  refine Calls.mono (entries_nil w4) ?_
  rintro e w5 ⟨rfl, hw5⟩
  have hw5' := hw5.symm
  subst hw5'
  go_wp2_with fail
  refine Calls.mono (snap_nil w4) ?_
  rintro e w6 ⟨rfl, hb6⟩
  have HB6 := hide (HB4.out.trans (hb6.mono HB4.out.size))
  have i6 := fld2 (.int .i64 0) (.slice none 0 0) (.slice none 0 0) w6
  clear hb6 HB4
  go_wp2_with fail
  go_ret
  exact ⟨rfl, HB6.out⟩
end Go.Proofs.YtjndgekpdmlbiaaGreatDoor.Kp

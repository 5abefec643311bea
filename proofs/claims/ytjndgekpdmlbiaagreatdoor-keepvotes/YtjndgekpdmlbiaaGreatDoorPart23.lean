/- copyOf of numbers; copySnap. copySnap: its walk. Hard, Entries, Snap; Open, Save, Compact of none. weight, mostBytes; whole, of a state without a snapshot. write, whatever the log holds. -/
import Derived.Test.YtjndgekpdmlbiaaGreatDoorPart14
import Derived.Laws.ResultCell
import Derived.Deep.RegionWith
import Derived.Deep.RegionHeld3
import Derived.Test.YtjndgekpdmlbiaaGreatDoorPart20
import Derived.Test.YtjndgekpdmlbiaaGreatDoorPart21
import Derived.Test.YtjndgekpdmlbiaaGreatDoorPart12
import Derived.Test.YtjndgekpdmlbiaaGreatDoorPart22
import Derived.Deep.CutRange
namespace Go.Proofs.YtjndgekpdmlbiaaGreatDoor.Kp
open Go.RowKit Bn

theorem copyI_any (v : Value) (ns : List Int) (w : World) (h : Is w v ns) (hl : ns.length ≤ 1000000000000) :
    Calls Tryz.prog 68 #[v] w fun x w' => ∃ v', x = .returned v' ∧ Hid (w'.ownsRow w.heap.size 3 1 v' ns.length (cI ns) ∧ Below w.heap.size w w') := by
  obtain ⟨i, hi, hz, hsize, hby⟩ := info_parts Tryz.inf3
  have hn := World.ownsRow_nil w w.heap.size 3 1
  obtain ⟨ao, cap, rfl, h1, h2, h3⟩ := h
  have key : ∃ v' w', (∀ ty, (Builtin.append_ #[32, 32] ty #[.slice none 0 0, .slice ao ns.length cap]).run Tryz.prog w = .ok v' w') ∧ w'.ownsRow w.heap.size 3 1 v' ns.length (cI ns) ∧ Below w.heap.size w w' := by
    cases ao with
    | none =>
      have h0 : ns = [] := by
        cases ns with
        | nil => rfl
        | cons e r => obtain ⟨g, off, hg, _⟩ := h3 (by simp); cases hg
      subst h0
      refine ⟨.slice none 0 0, w, fun ty => ?_, hn, Below.refl _ _⟩
      simp [Builtin.append_, run_underlying Tryz.underlying32, sizeOf, typeInfo, hi, Builtin.lenOf, Builtin.firstCells]
    | some a =>
      have hcell : ∀ j u, (cI ns)[j]? = some u → w.cell? (a.add j) = some u := by
        intro j u hj
        have hjl : j < ns.length := by
          have := (List.getElem?_eq_some_iff.1 hj).1
          simpa [cI] using this
        obtain ⟨g, off, hg, hc⟩ := h3 (by omega)
        cases hg
        rw [Addr.add_lit, hc j hjl]
        have : (cI ns)[j]? = some (.int .i64 (atI ns j)) := by
          simp [cI, atI, hjl]
        rw [this] at hj
        exact hj
      have H := fun ty => run_append_own_at (P := Tryz.prog) w w.heap.size 32 ty 3 i _ 1 8 Tryz.underlying32 hi hz hsize hby rfl (by decide) (.slice none 0 0) 0 [] hn a ns.length cap (cI ns) (by simp [cI]) hcell (by
        intro u hu
        simp only [cI, List.mem_map] at hu
        obtain ⟨n, _, rfl⟩ := hu
        rfl) (by simp only [maxLen]; omega) (by omega) (Nat.le_refl _)
      obtain ⟨v', w', hr, g1, g2, _, _⟩ := H 0
      exact ⟨v', w', fun ty => hr, by simpa using g1, ⟨g2.os, g2.tape, g2.output, g2.size, fun k hk => g2.block k hk (by simp [Value.ownBlock])⟩⟩
  obtain ⟨v', w', hap, hE⟩ := key
  obtain ⟨ao', L', cap', rfl⟩ := Dk.own_slice hE.1
  have HE := hide hE
  clear hE h1 h2 h3 hn hl
  go_enter Tryz.func68, Tryz.ntmps68
  go_wp2_with (at_builtin; refine wpList_append_go _ rfl _ _ 32 32 rfl _ _ rfl rfl (hap _) ?_)
  go_ret
  exact ⟨_, rfl, HE.out⟩

/-- A snapshot's value whose rows are one's own. -/
def So (b : Nat) (W : World) (vc vd : Value) (p : Snp) : Prop := W.ownsRow b 3 1 vc p.conf.length (cI p.conf) ∧ W.ownsRow b 5 1 vd p.data.length (cells8 p.data)
theorem results_cellR {fn : Func} {p : Tmp} {ty : TypeId} (h : fn.results = #[.cell p ty]) (tmps : Array Value) (w : World) (g : Nat) (T : TypeId) (cs : Array Value) {d}
    (hp : tmps.getD p undef = .pointer (some ⟨g, 0, none⟩)) (hg : w.heap[g]? = some (.cells cs T (0, 0)))
    (hu : Tryz.prog.underlying ty = some (.struct d)) (hi : (Tryz.prog.info? ty).map (·.size) = some cs.size) : (results fn tmps).run Tryz.prog w = .ok (.agg cs) w :=
  results_cell_row h tmps w g T cs (0, 0) _ hp hg hu rfl hi
end Go.Proofs.YtjndgekpdmlbiaaGreatDoor.Kp
namespace Go.Proofs.YtjndgekpdmlbiaaGreatDoor.Kp
open Go.RowKit Bn

/-- The two blocks of copySnap: its own copy, the answer. -/
structure Bs (D : Nat) (W : World) (s4 z4 : Array Value) : Prop where
  s : W.heap[D]? = some (Obj.cells s4 35 (0, 0))
  z : W.heap[D + 1]? = some (Obj.cells z4 35 (0, 0))
theorem Bs.below {D : Nat} {W W' : World} {s4 z4 : Array Value} (h : Bs D W s4 z4) (hb : Below W.heap.size W W') : Bs D W' s4 z4 :=
  ⟨(hb.block _ (lt_of_block h.s)).trans h.s, (hb.block _ (lt_of_block h.z)).trans h.z⟩
theorem Bs.setS {D : Nat} {W : World} {s4 z4 : Array Value} (h : Bs D W s4 z4) (i : Nat) (x : Value) : Bs D (W.setCell ⟨D, i, none⟩ x) (s4.setIfInBounds i x) z4 :=
  ⟨heap_setCell_same W D i s4 35 x h.s, by rw [Below.heap_setCell _ _ _ _ (by simp)]; exact h.z⟩
theorem Bs.cs {D : Nat} {W : World} {s4 z4 : Array Value} (h : Bs D W s4 z4) (i : Nat) : W.cell? ⟨D, i, none⟩ = s4[i]? := cell_of_row W D i s4 35 (0, 0) h.s
theorem Bs.cz {D : Nat} {W : World} {s4 z4 : Array Value} (h : Bs D W s4 z4) (i : Nat) : W.cell? ⟨D + 1, i, none⟩ = z4[i]? := cell_of_row W (D + 1) i z4 35 (0, 0) h.z
theorem Bs.fs {D : Nat} {W : World} {s4 z4 : Array Value} (h : Bs D W s4 z4) (i : Nat) : W.frozen? ⟨D, i, none⟩ = false := frozen_of_row W D i s4 35 h.s
theorem Bs.fz {D : Nat} {W : World} {s4 z4 : Array Value} (h : Bs D W s4 z4) (i : Nat) : W.frozen? ⟨D + 1, i, none⟩ = false := frozen_of_row W (D + 1) i z4 35 h.z
theorem Bs.new (W : World) (s4 z4 : Array Value) : Bs W.heap.size ((W.alloc (.cells s4 35)).alloc (.cells z4 35)) s4 z4 := by
  refine ⟨?_, ?_⟩
  · rw [Below.heap_alloc _ _ _ (by simp)]; exact heap_alloc_new _ _
  · have := heap_alloc_new (W.alloc (.cells s4 35)) (.cells z4 35)
    simpa using this
theorem sz35 : (Tryz.prog.info? 35).map (·.size) = some 4 := by kernel_rfl
theorem fill4 {W : World} {D : Nat} {z0 z1 z2 z3 : Value} (h : W.heap[D]? = some (Obj.cells #[z0, z1, z2, z3] 35 (0, 0))) (a b c d : Value) :
    ((((W.setCell ⟨D, 0, none⟩ a).setCell ⟨D, 1, none⟩ b).setCell ⟨D, 2, none⟩ c).setCell ⟨D, 3, none⟩ d).heap[D]? = some (Obj.cells #[a, b, c, d] 35 (0, 0)) ∧ (W.grownBy ((((W.setCell ⟨D, 0, none⟩ a).setCell ⟨D, 1, none⟩ b).setCell ⟨D, 2, none⟩ c).setCell ⟨D, 3, none⟩ d) (some D)) := by
  refine ⟨?_, grown_set (grown_set (grown_set (grown_set (grown_refl _ _))))⟩
  have k0 : (W.setCell ⟨D, 0, none⟩ a).heap[D]? = some (Obj.cells #[a, z1, z2, z3] 35 (0, 0)) := heap_setCell_same W D 0 _ 35 a h
  have k1 : ((W.setCell ⟨D, 0, none⟩ a).setCell ⟨D, 1, none⟩ b).heap[D]? = some (Obj.cells #[a, b, z2, z3] 35 (0, 0)) := heap_setCell_same _ D 1 _ 35 b k0
  have k2 : (((W.setCell ⟨D, 0, none⟩ a).setCell ⟨D, 1, none⟩ b).setCell ⟨D, 2, none⟩ c).heap[D]? = some (Obj.cells #[a, b, c, z3] 35 (0, 0)) := heap_setCell_same _ D 2 _ 35 c k1
  exact heap_setCell_same _ D 3 _ 35 d k2
theorem own_keepS {W W' : World} {b e s n S T : Nat} {v : Value} {xs : List Value} {cs : Array Value} (h : W.ownsRow b e s v n xs) (hS : W.heap[S]? = some (Obj.cells cs T (0, 0))) (hT : T ≠ e) (hg : W.grownBy W' (some S)) : W'.ownsRow b e s v n xs := by
  refine ⟨h.1, ?_⟩
  rcases h.2 with h2 | ⟨g, c, cur, e1, e2, e3, e4⟩
  · exact Or.inl h2
  · refine Or.inr ⟨g, c, cur, e1, e2, ?_, e4⟩
    rw [hg.block g (lt_of_block e3) (fun e => ?_)]
    · exact e3
    · simp at e
      subst e
      rw [e3] at hS
      injection hS with hS
      injection hS with _ h3 _
      exact hT h3.symm
theorem So.keep {W W' : World} {b S : Nat} {vc vd : Value} {p : Snp} {cs : Array Value} (h : So b W vc vd p) (hS : W.heap[S]? = some (Obj.cells cs 35 (0, 0))) (hg : W.grownBy W' (some S)) : So b W' vc vd p :=
  ⟨own_keepS h.1 hS (by decide) hg, own_keepS h.2 hS (by decide) hg⟩

set_option maxRecDepth 8000 in
set_option maxHeartbeats 4000000 in
theorem copySnap_any (p : Snp) (vc vd : Value) (w : World) (hC : Is w vc p.conf) (hD : Sl w vd p.data) (hlc : p.conf.length ≤ 1000000000000) (hld : p.data.length ≤ 140737488355328) :
    Calls Tryz.prog 45 #[.agg #[.int .i64 p.idx, .int .i64 p.term, vc, vd]] w fun x w' => ∃ ac nc cc ad nd cd, x = .returned (.agg #[.int .i64 p.idx, .int .i64 p.term, .slice ac nc cc, .slice ad nd cd]) ∧ Hid (So w.heap.size w' (.slice ac nc cc) (.slice ad nd cd) p ∧ Below w.heap.size w w') := by
  obtain ⟨a1, n1, c1, rfl⟩ : ∃ a n c, vc = .slice a n c := by obtain ⟨ao, cap, e, _⟩ := hC; exact ⟨_, _, _, e⟩
  obtain ⟨a2, c2, rfl, _⟩ := hD.shape
  have HB0 := hide (Bs.new w #[.int .i64 p.idx, .int .i64 p.term, .slice a1 n1 c1, .slice a2 p.data.length c2] #[.int .i64 0, .int .i64 0, .slice none 0 0, .slice none 0 0])
  have HW0 : Hid (Below w.heap.size w ((w.alloc (.cells #[.int .i64 p.idx, .int .i64 p.term, .slice a1 n1 c1, .slice a2 p.data.length c2] 35)).alloc (.cells #[.int .i64 0, .int .i64 0, .slice none 0 0, .slice none 0 0] 35))) := ((Below.refl _ w).alloc (Nat.le_refl _) _).alloc (by simp) _
  have HC := hide hC
  have HDd := hide hD
  have HLC := hide hlc
  have HLD := hide hld
  clear hC hD hlc hld
  go_enter Tryz.func45, Tryz.ntmps45
  go_wp2_with fail
  generalize ((w.alloc (.cells #[.int .i64 p.idx, .int .i64 p.term, .slice a1 n1 c1, .slice a2 p.data.length c2] 35)).alloc (.cells #[.int .i64 0, .int .i64 0, .slice none 0 0, .slice none 0 0] 35)) = W0 at *
  have s2 : W0.cell? ⟨w.heap.size, 2, none⟩ = some (.slice a1 n1 c1) := HB0.out.cs 2
  have s3 : W0.cell? ⟨w.heap.size, 3, none⟩ = some (.slice a2 p.data.length c2) := HB0.out.cs 3
  have C68 : Hid (∀ X, Below W0.heap.size W0 X → Calls Tryz.prog 68 #[.slice a1 n1 c1] X fun x w' => ∃ an nn cn, x = .returned (.slice an nn cn) ∧ Hid (Below X.heap.size X w' ∧ Below W0.heap.size W0 w' ∧ w'.ownsRow w.heap.size 3 1 (.slice an nn cn) p.conf.length (cI p.conf))) := fun X hX => by
    have hbX := HW0.out.trans (hX.mono HW0.out.size)
    refine (copyI_any _ p.conf X (HC.out.below hbX) HLC.out).mono ?_
    rintro x w' ⟨v', rfl, hz⟩
    obtain ⟨an, nn, cn, rfl⟩ := Dk.own_slice hz.out.1
    exact ⟨an, nn, cn, rfl, hz.out.2, hX.trans (hz.out.2.mono hX.size), own_low hz.out.1 hbX.size⟩
  have C67 : Hid (∀ X, Below W0.heap.size W0 X → Calls Tryz.prog 67 #[.slice a2 p.data.length c2] X fun x w' => ∃ an nn cn, x = .returned (.slice an nn cn) ∧ Hid (Below X.heap.size X w' ∧ Below W0.heap.size W0 w' ∧ w'.ownsRow w.heap.size 5 1 (.slice an nn cn) p.data.length (cells8 p.data))) := fun X hX => by
    have hbX := HW0.out.trans (hX.mono HW0.out.size)
    refine (copyB_any _ p.data X (HDd.out.below hbX) HLD.out).mono ?_
    rintro x w' ⟨v', rfl, ho, hb⟩
    obtain ⟨an, nn, cn, rfl⟩ := Dk.own_slice ho
    exact ⟨an, nn, cn, rfl, hb, hX.trans (hb.mono hX.size), own_low ho hbX.size⟩
  have hdr : Below W0.heap.size W0 W0.drew := (Below.refl _ W0).drew
  refine wp_region_noPanic ?_
  go_region_law (first
      | (have m5 := HA5; go_simp; go_at_call 67; (with_reducible refine Calls.mono (C67.out _ m5.out.2.1) ?_); rintro e w6 ⟨ad, nd, cd, rfl, H6⟩; have HB6 := hide (HB0.out.below H6.out.2.1); have HSo : Hid (So w.heap.size w6 (.slice ac nc cc) (.slice ad nd cd) p) := ⟨own_bel m5.out.2.2 H6.out.1, H6.out.2.2⟩; have HW6 := hide (HW0.out.trans (H6.out.2.1.mono HW0.out.size)); have q2 : w6.cell? ⟨w.heap.size, 2, none⟩ = some (.slice a1 n1 c1) := HB6.out.cs 2; have q3 : w6.cell? ⟨w.heap.size, 3, none⟩ = some (.slice a2 p.data.length c2) := HB6.out.cs 3; have f2 := HB6.out.fs 2; have f3 := HB6.out.fs 3)
      | (have m5 := HC5; go_simp; go_at_call 68; (with_reducible refine Calls.mono (C68.out _ m5.out.2.1) ?_); rintro e w6 ⟨ac, nc, cc, rfl, H6⟩; have HB6 := hide (HB0.out.below H6.out.2.1); have HSo : Hid (So w.heap.size w6 (.slice ac nc cc) (.slice ad nd cd) p) := ⟨H6.out.2.2, own_bel m5.out.2.2 H6.out.1⟩; have HW6 := hide (HW0.out.trans (H6.out.2.1.mono HW0.out.size)); have q2 : w6.cell? ⟨w.heap.size, 2, none⟩ = some (.slice a1 n1 c1) := HB6.out.cs 2; have q3 : w6.cell? ⟨w.heap.size, 3, none⟩ = some (.slice a2 p.data.length c2) := HB6.out.cs 3; have f2 := HB6.out.fs 2; have f3 := HB6.out.fs 3)
      | (go_simp; go_at_call 68; (with_reducible refine Calls.mono (C68.out W0.drew hdr) ?_); rintro e w5 ⟨ac, nc, cc, rfl, HA5⟩; have HB5 := hide (HB0.out.below HA5.out.2.1); have b3 : w5.cell? ⟨w.heap.size, 3, none⟩ = some (.slice a2 p.data.length c2) := HB5.out.cs 3)
      | (go_simp; go_at_call 67; (with_reducible refine Calls.mono (C67.out W0.drew hdr) ?_); rintro e w5 ⟨ad, nd, cd, rfl, HC5⟩; have HB5 := hide (HB0.out.below HC5.out.2.1); have b2 : w5.cell? ⟨w.heap.size, 2, none⟩ = some (.slice a1 n1 c1) := HB5.out.cs 2))
  all_goals refine NoPanic.normal ?_
  all_goals have HB8 := hide ((HB6.out.setS 2 (.slice ac nc cc)).setS 3 (.slice ad nd cd))
  all_goals have HS8 : Hid (So w.heap.size ((w6.setCell ⟨w.heap.size, 2, none⟩ (.slice ac nc cc)).setCell ⟨w.heap.size, 3, none⟩ (.slice ad nd cd)) (.slice ac nc cc) (.slice ad nd cd) p) := HSo.out.keep HB6.out.s (grown_set (grown_set (grown_refl _ _)))
  all_goals have HW8 : Hid (Below w.heap.size w ((w6.setCell ⟨w.heap.size, 2, none⟩ (.slice ac nc cc)).setCell ⟨w.heap.size, 3, none⟩ (.slice ad nd cd))) := (HW6.out.setCell (p := ⟨w.heap.size, 2, none⟩) (Nat.le_refl _) _).setCell (p := ⟨w.heap.size, 3, none⟩) (Nat.le_refl _) _
  all_goals clear q2 q3 f2 f3 s2 s3 HB6 HSo HW6
  all_goals generalize ((w6.setCell ⟨w.heap.size, 2, none⟩ (.slice ac nc cc)).setCell ⟨w.heap.size, 3, none⟩ (.slice ad nd cd)) = W8 at *
  all_goals have s0 : W8.cell? ⟨w.heap.size, 0, none⟩ = some (.int .i64 p.idx) := HB8.out.cs 0
  all_goals have s1 : W8.cell? ⟨w.heap.size, 1, none⟩ = some (.int .i64 p.term) := HB8.out.cs 1
  all_goals have s2 : W8.cell? ⟨w.heap.size, 2, none⟩ = some (.slice ac nc cc) := HB8.out.cs 2
  all_goals have s3 : W8.cell? ⟨w.heap.size, 3, none⟩ = some (.slice ad nd cd) := HB8.out.cs 3
  all_goals have z0 : W8.cell? ⟨w.heap.size + 1, 0, none⟩ = some (.int .i64 0) := HB8.out.cz 0
  all_goals have g0 : W8.frozen? ⟨w.heap.size + 1, 0, none⟩ = false := HB8.out.fz 0
  all_goals have z1 : W8.cell? ⟨w.heap.size + 1, 1, none⟩ = some (.int .i64 0) := HB8.out.cz 1
  all_goals have g1 : W8.frozen? ⟨w.heap.size + 1, 1, none⟩ = false := HB8.out.fz 1
  all_goals have z2 : W8.cell? ⟨w.heap.size + 1, 2, none⟩ = some (.slice none 0 0) := HB8.out.cz 2
  all_goals have g2 : W8.frozen? ⟨w.heap.size + 1, 2, none⟩ = false := HB8.out.fz 2
  all_goals have z3 : W8.cell? ⟨w.heap.size + 1, 3, none⟩ = some (.slice none 0 0) := HB8.out.cz 3
  all_goals have g3 : W8.frozen? ⟨w.heap.size + 1, 3, none⟩ = false := HB8.out.fz 3
  all_goals have HN := hide (fill4 HB8.out.z (.int .i64 p.idx) (.int .i64 p.term) (.slice ac nc cc) (.slice ad nd cd))
  all_goals go_wp2_with fail
  all_goals refine bodyPost_ret (results_cellR rfl _ _ (w.heap.size + 1) 35 #[.int .i64 p.idx, .int .i64 p.term, .slice ac nc cc, .slice ad nd cd] rfl HN.out.1 Tryz.underlying35 sz35) rfl ?_
  all_goals exact ⟨ac, nc, cc, ad, nd, cd, rfl, HS8.out.keep HB8.out.z HN.out.2, HW8.out.trans ⟨HN.out.2.os, HN.out.2.tape, HN.out.2.output, HN.out.2.size, fun k hk => HN.out.2.block k (Nat.lt_of_lt_of_le hk HW8.out.size) (by simp; omega)⟩⟩
end Go.Proofs.YtjndgekpdmlbiaaGreatDoor.Kp
namespace Go.Proofs.YtjndgekpdmlbiaaGreatDoor.Kp
open Go.RowKit Bn

theorem openK_nil (w : World) : Calls Tryz.prog 10 #[.pointer none] w fun e w' => e = .returned (.tuple #[.pointer none, .int .i64 1]) ∧ w' = w := by
  have H := hide (Wl.open_nil w)
  go_enter Tryz.func10, Tryz.ntmps10
  go_wp2_with fail
  refine Calls.mono H.out ?_
  rintro e w1 ⟨rfl, hw⟩
  have hw' := hw.symm
  subst hw'
  go_wp2_with fail
  go_ret2
  exact ⟨rfl, rfl⟩
theorem sz31 : (Tryz.prog.info? 31).map (·.size) = some 2 := by kernel_rfl
theorem hard_nil (w : World) : Calls Tryz.prog 21 #[.pointer none] w fun e w' => e = .returned (.agg #[.int .i64 0, .int .i64 0]) ∧ Below w.heap.size w w' := by
  go_enter Tryz.func21, Tryz.ntmps21
  go_wp2_with fail
  refine bodyPost_ret (results_cellR rfl _ _ w.heap.size 31 #[.int .i64 0, .int .i64 0] rfl (heap_alloc_new _ _) Tryz.underlying31 sz31) rfl ?_
  exact ⟨rfl, (Below.refl _ w).alloc (Nat.le_refl _) _⟩
theorem entries_nil (w : World) : Calls Tryz.prog 22 #[.pointer none] w fun e w' => e = .returned (.slice none 0 0) ∧ w' = w := by
  go_enter Tryz.func22, Tryz.ntmps22
  go_wp2
  go_ret
  exact ⟨rfl, rfl⟩
theorem snap_nil (w : World) : Calls Tryz.prog 23 #[.pointer none] w fun e w' => e = .returned (.agg #[.int .i64 0, .int .i64 0, .slice none 0 0, .slice none 0 0]) ∧ Below w.heap.size w w' := by
  go_enter Tryz.func23, Tryz.ntmps23
  go_wp2_with fail
  refine bodyPost_ret (results_cellR rfl _ _ w.heap.size 35 #[.int .i64 0, .int .i64 0, .slice none 0 0, .slice none 0 0] rfl (heap_alloc_new _ _) Tryz.underlying35 sz35) rfl ?_
  exact ⟨rfl, (Below.refl _ w).alloc (Nat.le_refl _) _⟩
theorem save_nil (a b c d e f g h i : Value) (w : World) : Calls Tryz.prog 13 #[.pointer none, .agg #[a, b, c, d, e, f, g, h, i]] w fun e w' => e = .returned (.int .i64 1) ∧ Below w.heap.size w w' := by
  go_enter Tryz.func13, Tryz.ntmps13
  go_wp2
  go_ret
  exact ⟨rfl, (Below.refl _ w).alloc (Nat.le_refl _) _⟩
theorem compact_nil (a b c d : Value) (w : World) : Calls Tryz.prog 15 #[.pointer none, .agg #[a, b, c, d]] w fun e w' => e = .returned (.int .i64 1) ∧ Below w.heap.size w w' := by
  have hb : Below w.heap.size w (w.alloc (.cells #[a, b, c, d] 35)) := (Below.refl _ w).alloc (Nat.le_refl _) _
  go_enter Tryz.func15, Tryz.ntmps15
  go_upto_region 1 with fail
  generalize w.alloc (.cells #[a, b, c, d] 35) = w1 at *
  go_wp2_with fail
  go_big_quiet (fail)
  go_wp2_with fail
  go_ret
  exact ⟨rfl, hb.trans ((Wl.below_drew w1 nq).mono hb.size)⟩
theorem hard_any {w : World} {kb p : Nat} {t0 v0 : Int} {c2 c3 c4 c5 c6 : Value} {z : Int} (h : KwB w kb p (.int .i64 t0) (.int .i64 v0) c2 c3 c4 c5 c6 z) :
    Calls Tryz.prog 21 #[.pointer (some ⟨kb, 0, none⟩)] w fun e w' => e = .returned (.agg #[.int .i64 t0, .int .i64 v0]) ∧ Below w.heap.size w w' := by
  have hb : Below w.heap.size w (w.alloc (.cells #[.int .i64 0, .int .i64 0] 31)) := (Below.refl _ w).alloc (Nat.le_refl _) _
  have k0 := (h.below hb).c 0
  have k1 := (h.below hb).c 1
  simp at k0 k1
  clear h
  go_enter Tryz.func21, Tryz.ntmps21
  go_wp2_with fail
  refine bodyPost_ret (results_cellR rfl _ _ w.heap.size 31 #[.int .i64 t0, .int .i64 v0] rfl (heap_alloc_new _ _) Tryz.underlying31 sz31) rfl ?_
  exact ⟨rfl, (Below.refl _ w).alloc (Nat.le_refl _) _⟩
theorem entries_any {w : World} {kb p : Nat} {c0 c1 c2 c3 c4 c5 : Value} {z : Int} (ae : Option Addr) (le ce : Nat) (es : List Ent) (h : KwB w kb p c0 c1 c2 c3 c4 c5 (.slice ae le ce) z) (hE : Es w (.slice ae le ce) es) (hl : es.length ≤ 1000000000000) (hd : ∀ e ∈ es, e.data.length ≤ 140737488355328) :
    Calls Tryz.prog 22 #[.pointer (some ⟨kb, 0, none⟩)] w fun x w' => ∃ a c, x = .returned (.slice a es.length c) ∧ Below w.heap.size w w' := by
  have HC := hide (copyEntries_any _ es w hE hl hd)
  have k6 := h.c 6
  simp at k6
  clear h
  go_enter Tryz.func22, Tryz.ntmps22
  go_wp2_with fail
  refine Calls.mono HC.out ?_
  rintro x w1 ⟨v1, rfl, HP⟩
  obtain ⟨hEr, hb⟩ := HP.out
  obtain ⟨a1, c1, rfl⟩ : ∃ a c, v1 = .slice a es.length c := by
    obtain ⟨us, _, h2, _⟩ := hEr
    rcases Dk.own_shape h2 with ⟨e, h0⟩ | ⟨g, c, e, _⟩
    · exact ⟨none, 0, by rw [e, h0]⟩
    · exact ⟨_, c, e⟩
  have HB := hide hb
  clear HP hEr hb HC
  go_wp2_with fail
  go_ret
  exact ⟨a1, c1, rfl, HB.out⟩
theorem snap_any {w : World} {kb p : Nat} {c0 c1 c6 : Value} {z : Int} (h : KwB w kb p c0 c1 (.int .i64 0) (.int .i64 0) (.slice none 0 0) (.slice none 0 0) c6 z) :
    Calls Tryz.prog 23 #[.pointer (some ⟨kb, 0, none⟩)] w fun x w' => (∃ b c d, x = .returned (.agg #[.int .i64 0, b, c, d])) ∧ Below w.heap.size w w' := by
  have hb : Below w.heap.size w (w.alloc (.cells #[.int .i64 0, .int .i64 0, .slice none 0 0, .slice none 0 0] 35)) := (Below.refl _ w).alloc (Nat.le_refl _) _
  have hB : (w.alloc (.cells #[.int .i64 0, .int .i64 0, .slice none 0 0, .slice none 0 0] 35)).heap[w.heap.size]? = some (.cells #[.int .i64 0, .int .i64 0, .slice none 0 0, .slice none 0 0] 35 (0, 0)) := heap_alloc_new _ _
  have k2 := (h.below hb).c 2
  have k3 := (h.below hb).c 3
  have k4 := (h.below hb).c 4
  have k5 := (h.below hb).c 5
  simp at k2 k3 k4 k5
  have HC := hide (copySnap_any ⟨0, 0, [], []⟩ (.slice none 0 0) (.slice none 0 0) (w.alloc (.cells #[.int .i64 0, .int .i64 0, .slice none 0 0, .slice none 0 0] 35)) ⟨none, 0, rfl, Nat.le_refl _, by simp [maxLen], fun h => by simp at h⟩ (Sl.nil _) (by simp) (by simp))
  dsimp only at HC
  have HB1 := hide hb
  have HB2 := hide hB
  clear h hb hB
  go_enter Tryz.func23, Tryz.ntmps23
  go_upto_region 3 with fail
  generalize w.alloc (.cells #[.int .i64 0, .int .i64 0, .slice none 0 0, .slice none 0 0] 35) = w1 at *
  go_wp2_with fail
  refine Calls.mono HC.out ?_
  rintro x w2 ⟨ac, nc, cc, ad, nd, cd, rfl, HP⟩
  have hb2 := HP.out.2
  have h2 := (hb2.block w.heap.size (lt_of_block HB2.out)).trans HB2.out
  have z0 := cell_of_row w2 w.heap.size 0 _ 35 (0, 0) h2
  have z1 := cell_of_row w2 w.heap.size 1 _ 35 (0, 0) h2
  have z2 := cell_of_row w2 w.heap.size 2 _ 35 (0, 0) h2
  have z3 := cell_of_row w2 w.heap.size 3 _ 35 (0, 0) h2
  simp at z0 z1 z2 z3
  have ff := fun i => frozen_of_row w2 w.heap.size i _ 35 h2
  have HN := hide (fill4 h2 (.int .i64 0) (.int .i64 0) (.slice ac nc cc) (.slice ad nd cd))
  have HB3 := hide (HB1.out.trans (hb2.mono HB1.out.size))
  clear HP hb2 h2 HC
  go_wp2_with fail
  refine bodyPost_ret (results_cellR rfl _ _ w.heap.size 35 #[.int .i64 0, .int .i64 0, .slice ac nc cc, .slice ad nd cd] rfl HN.out.1 Tryz.underlying35 sz35) rfl ?_
  exact ⟨⟨_, _, _, rfl⟩, HB3.out.trans ⟨HN.out.2.os, HN.out.2.tape, HN.out.2.output, HN.out.2.size, fun k hk => HN.out.2.block k (Nat.lt_of_lt_of_le hk HB3.out.size) (by simp; omega)⟩⟩
end Go.Proofs.YtjndgekpdmlbiaaGreatDoor.Kp
namespace Go.Proofs.YtjndgekpdmlbiaaGreatDoor.Kp
open Go.RowKit Bn

/-- The weight of a state: its snapshot's number and how many bytes that has, its entries. -/
def wtS (idx : Int) (ld : Nat) (es : List Ent) : Nat := (if 0 < idx then 64 + ld else 0) + wtE es
theorem wtE_le (es : List Ent) (k : Nat) : wtE (es.take k) ≤ wtE es := by
  induction es generalizing k with
  | nil => simp
  | cons e es ih =>
    cases k with
    | zero => simp [wtE]
    | succ k => rw [List.take_succ_cons, wtE_cons, wtE_cons]; have := ih k; omega

set_option maxHeartbeats 2000000 in
theorem weight_any (a b c3 c4 : Value) (idx : Int) (ad : Option Addr) (ld cd : Nat) (es : List Ent) (ve : Value) (w : World) (hE : Es w ve es) (hW : ld + wtE es ≤ 1000000000000000) :
    Calls Tryz.prog 119 #[.agg #[a, b, .int .i64 idx, c3, c4, .slice ad ld cd, ve]] w fun x w' => x = .returned (.int .i64 (wtS idx ld es : Nat)) ∧ Below w.heap.size w w' := by
  obtain ⟨ao, cap, rfl, h1, h2, h4⟩ := hE
  have h2' : cap ≤ 9223372036854775807 := h2
  obtain ⟨w0, hw0⟩ : ∃ w0, w0 = w.alloc (.cells #[a, b, .int .i64 idx, c3, c4, .slice ad ld cd, .slice ao es.length cap] 78) := ⟨_, rfl⟩
  have hb0 : Below w.heap.size w w0 := by rw [hw0]; exact (Below.refl _ _).alloc (Nat.le_refl _) _
  have H4 : Hid (0 < es.length → ∃ g off, ao = some ⟨g, off, none⟩ ∧ ∀ j e, es[j]? = some e → EntAt w0 g (off + j * 4) e) := by
    intro hp
    obtain ⟨g, off, ha, hc⟩ := h4 hp
    exact ⟨g, off, ha, fun j e hj => (hc j e hj).below hb0⟩
  have HB0 : Hid (Below w.heap.size w w0) := hb0
  have HWW := hide hW
  obtain ⟨B, hB⟩ : ∃ B : Nat, (if 0 < idx then 64 + ld else 0) = B := ⟨_, rfl⟩
  have HBB := hide hB
  have hBb : (B : Int) ≤ 1000000000000064 := by rw [← hB]; split <;> omega
  have hldI : (ld : Int) ≤ 1000000000000000 := by omega
  have HR : Hid (∀ v : Nat, v = B + wtE es → (Ending.returned (.int .i64 (v : Int))) = .returned (.int .i64 (wtS idx ld es : Nat))) := fun v hv => by rw [hv, ← HBB.out]; rfl
  clear h2 h4 hW hb0 hB
  obtain ⟨W0, HW0⟩ : ∃ W0, Hid (W0 = w0) := ⟨_, rfl⟩
  rw [← HW0.out] at H4 HB0
  have HB1 : Hid (Below W0.heap.size W0 (w.alloc (.cells #[a, b, .int .i64 idx, c3, c4, .slice ad ld cd, .slice ao es.length cap] 78))) := by
    show Below _ _ _
    rw [← hw0, ← HW0.out]
    exact Below.refl _ _
  have HQ : Hid (∀ W, Below W0.heap.size W0 W → Below w.heap.size w W) := fun W hb => HB0.out.trans (hb.mono HB0.out.size)
  clear hw0 HW0 HB0
  go_enter Tryz.func119, Tryz.ntmps119
  go_upto_if 9 with fail
  go_cut [3] from 10 to 14 (fun v3 wc => v3 = .int .i64 (B : Int) ∧ Hid (Below W0.heap.size W0 wc) ∧ wc.cell? ⟨w.heap.size, 6, none⟩ = some (.slice ao es.length cap))
  case first =>
    by_cases hi : 0 < idx
    · have hBv : (64 : Int) + (ld : Int) = (B : Int) := by have := HBB.out; rw [if_pos hi] at this; omega
      go_wp2
      go_meet
      exact ⟨by rw [← hBv], HB1, by first | exact cell_of_row _ _ _ _ _ _ (heap_alloc_new _ _)⟩
    · have hBv : B = 0 := by have := HBB.out; rw [if_neg hi] at this; omega
      go_wp2
      go_meet
      exact ⟨by rw [hBv]; rfl, HB1, by first | exact cell_of_row _ _ _ _ _ _ (heap_alloc_new _ _)⟩
  case rest =>
    obtain ⟨rfl, HBc, k6⟩ := hcut
    go_wp2_with fail
    go_loopw [3, 18] (fun v i wr => ∃ k S : Nat, k ≤ es.length ∧ i = .int .i64 k ∧ v = .int .i64 (S : Int) ∧ Hid (S = B + wtE (es.take k)) ∧ Hid (Below W0.heap.size W0 wr)) (fun _ i _ => es.length - (intOf i).toNat)
    case atStart => exact ⟨0, B, Nat.zero_le _, rfl, rfl, by show _ = _; simp [wtE], HBc⟩
    case round =>
      obtain ⟨k, S, hk, rfl, rfl, HS, HB⟩ := hrel
      have hSb : (S : Int) ≤ 2000000000000064 := by
        have h1 := HS.out
        have h2 := wtE_le es k
        have h3 := HWW.out
        omega
      by_cases hx : k < es.length
      · obtain ⟨g, off, rfl, hc⟩ := H4.out (by omega)
        obtain ⟨e, he⟩ : ∃ e, es[k]? = some e := ⟨_, List.getElem?_eq_getElem hx⟩
        obtain ⟨ae, le, ce, c0, c1, c2, c3', hS⟩ := hc k e he
        have hld := hS.len
        have hee : es[k] = e := by rw [List.getElem?_eq_getElem hx] at he; exact Option.some.inj he
        have hmore := wtE_take es k hx
        rw [hee] at hmore
        have hle2 := wtE_le es (k + 1)
        have h3 := HWW.out
        have hleI : (le : Int) ≤ 1000000000000000 := by omega
        have HM : Hid (S + (64 + le) = B + wtE (es.take (k + 1))) := by have := HS.out; show _ = _; omega
        have K : ∀ o u, W0.cell? ⟨g, o, none⟩ = some u → wr.cell? ⟨g, o, none⟩ = some u := fun o u hc => (World.cell?_of_block (w := W0) (a := ⟨g, o, none⟩) (HB.out.block g (cell_lt hc))).trans hc
        have d0 := K _ _ c0
        have d1 := K _ _ c1
        have d2 := K _ _ c2
        have d3 := K _ _ c3'
        have HA : Hid (∀ o, Below W0.heap.size W0 (wr.alloc o)) := fun o => HB.out.alloc HB.out.size o
        clear hc c0 c1 c2 c3' K hS hld hmore hle2 h3 hee he
        go_wp2
        go_roundw
        case rel => exact ⟨k + 1, S + (64 + le), by omega, rfl, by push_cast; rfl, HM, HA.out _⟩
        case measure => simp [intOf]; omega
      · have hlt' : ¬ (k : Int) < (es.length : Int) := by omega
        have HE : Hid (S = B + wtE es) := by
          have := HS.out
          rw [List.take_of_length_le (by omega)] at this
          exact this
        have HWB := hide (HQ.out _ HB.out)
        go_wp2
        go_ret
        exact ⟨HR.out S HE.out, HWB.out⟩

theorem mostBytes_any (a b c3 c4 : Value) (idx : Int) (ad : Option Addr) (ld cd : Nat) (es : List Ent) (ae : Option Addr) (le ce : Nat) (w : World) (hE : Es w (.slice ae le ce) es) (hW : ld + wtE es ≤ 1000000000000000) :
    Calls Tryz.prog 92 #[.agg #[a, b, .int .i64 idx, c3, c4, .slice ad ld cd, .slice ae le ce]] w fun x w' => x = .returned (.int .i64 (500 + 2 * (wtS idx ld es : Nat))) ∧ Below w.heap.size w w' := by
  have hb : Below w.heap.size w (w.alloc (.cells #[a, b, .int .i64 idx, c3, c4, .slice ad ld cd, .slice ae le ce] 78)) := (Below.refl _ w).alloc (Nat.le_refl _) _
  have HW := hide (weight_any a b c3 c4 idx ad ld cd es (.slice ae le ce) _ (hE.below hb) hW)
  have HB := hide hb
  obtain ⟨T, hT⟩ : ∃ T, wtS idx ld es = T := ⟨_, rfl⟩
  have hTb : (T : Int) ≤ 2000000000000064 := by rw [← hT]; unfold wtS; split <;> omega
  rw [hT] at HW ⊢
  clear hT hb hE hW
  go_enter Tryz.func92, Tryz.ntmps92
  go_wp2_with fail
  refine Calls.mono HW.out ?_
  rintro x w1 ⟨rfl, hb1⟩
  have HB1 := hide (HB.out.trans (hb1.mono HB.out.size))
  clear hb1 HW
  go_wp2_with fail
  go_ret
  exact ⟨rfl, HB1.out⟩

theorem fr_set {F : Nat → Prop} {W W' : World} (h : Dk.Fr F W W') {D i : Nat} {x : Value} (hD : F D) : Dk.Fr F W (W'.setCell ⟨D, i, none⟩ x) := Dk.Fr.setCell (p := ⟨D, i, none⟩) h (fun _ => hD) x
set_option maxHeartbeats 4000000 in
/-- Nine cells are written. -/
theorem fill9 {W : World} {D : Nat} {z0 z1 z2 z3 z4 z5 z6 z7 z8 : Value} (h : W.heap[D]? = some (Obj.cells #[z0, z1, z2, z3, z4, z5, z6, z7, z8] 43 (0, 0))) (a b c d e f g i j : Value) :
    (((((((((W.setCell ⟨D, 0, none⟩ a).setCell ⟨D, 1, none⟩ b).setCell ⟨D, 2, none⟩ c).setCell ⟨D, 3, none⟩ d).setCell ⟨D, 4, none⟩ e).setCell ⟨D, 5, none⟩ f).setCell ⟨D, 6, none⟩ g).setCell ⟨D, 7, none⟩ i).setCell ⟨D, 8, none⟩ j).heap[D]? = some (Obj.cells #[a, b, c, d, e, f, g, i, j] 43 (0, 0)) ∧ ∀ B, B ≤ D → Below B W (((((((((W.setCell ⟨D, 0, none⟩ a).setCell ⟨D, 1, none⟩ b).setCell ⟨D, 2, none⟩ c).setCell ⟨D, 3, none⟩ d).setCell ⟨D, 4, none⟩ e).setCell ⟨D, 5, none⟩ f).setCell ⟨D, 6, none⟩ g).setCell ⟨D, 7, none⟩ i).setCell ⟨D, 8, none⟩ j) := by
  have k0 : (W.setCell ⟨D, 0, none⟩ a).heap[D]? = some (Obj.cells #[a, z1, z2, z3, z4, z5, z6, z7, z8] 43 (0, 0)) := heap_setCell_same W D 0 _ 43 a h
  have k1 : ((W.setCell ⟨D, 0, none⟩ a).setCell ⟨D, 1, none⟩ b).heap[D]? = some (Obj.cells #[a, b, z2, z3, z4, z5, z6, z7, z8] 43 (0, 0)) := heap_setCell_same (W.setCell ⟨D, 0, none⟩ a) D 1 _ 43 b k0
  have k2 : (((W.setCell ⟨D, 0, none⟩ a).setCell ⟨D, 1, none⟩ b).setCell ⟨D, 2, none⟩ c).heap[D]? = some (Obj.cells #[a, b, c, z3, z4, z5, z6, z7, z8] 43 (0, 0)) := heap_setCell_same ((W.setCell ⟨D, 0, none⟩ a).setCell ⟨D, 1, none⟩ b) D 2 _ 43 c k1
  have k3 : ((((W.setCell ⟨D, 0, none⟩ a).setCell ⟨D, 1, none⟩ b).setCell ⟨D, 2, none⟩ c).setCell ⟨D, 3, none⟩ d).heap[D]? = some (Obj.cells #[a, b, c, d, z4, z5, z6, z7, z8] 43 (0, 0)) := heap_setCell_same (((W.setCell ⟨D, 0, none⟩ a).setCell ⟨D, 1, none⟩ b).setCell ⟨D, 2, none⟩ c) D 3 _ 43 d k2
  have k4 : (((((W.setCell ⟨D, 0, none⟩ a).setCell ⟨D, 1, none⟩ b).setCell ⟨D, 2, none⟩ c).setCell ⟨D, 3, none⟩ d).setCell ⟨D, 4, none⟩ e).heap[D]? = some (Obj.cells #[a, b, c, d, e, z5, z6, z7, z8] 43 (0, 0)) := heap_setCell_same ((((W.setCell ⟨D, 0, none⟩ a).setCell ⟨D, 1, none⟩ b).setCell ⟨D, 2, none⟩ c).setCell ⟨D, 3, none⟩ d) D 4 _ 43 e k3
  have k5 : ((((((W.setCell ⟨D, 0, none⟩ a).setCell ⟨D, 1, none⟩ b).setCell ⟨D, 2, none⟩ c).setCell ⟨D, 3, none⟩ d).setCell ⟨D, 4, none⟩ e).setCell ⟨D, 5, none⟩ f).heap[D]? = some (Obj.cells #[a, b, c, d, e, f, z6, z7, z8] 43 (0, 0)) := heap_setCell_same (((((W.setCell ⟨D, 0, none⟩ a).setCell ⟨D, 1, none⟩ b).setCell ⟨D, 2, none⟩ c).setCell ⟨D, 3, none⟩ d).setCell ⟨D, 4, none⟩ e) D 5 _ 43 f k4
  have k6 : (((((((W.setCell ⟨D, 0, none⟩ a).setCell ⟨D, 1, none⟩ b).setCell ⟨D, 2, none⟩ c).setCell ⟨D, 3, none⟩ d).setCell ⟨D, 4, none⟩ e).setCell ⟨D, 5, none⟩ f).setCell ⟨D, 6, none⟩ g).heap[D]? = some (Obj.cells #[a, b, c, d, e, f, g, z7, z8] 43 (0, 0)) := heap_setCell_same ((((((W.setCell ⟨D, 0, none⟩ a).setCell ⟨D, 1, none⟩ b).setCell ⟨D, 2, none⟩ c).setCell ⟨D, 3, none⟩ d).setCell ⟨D, 4, none⟩ e).setCell ⟨D, 5, none⟩ f) D 6 _ 43 g k5
  have k7 : ((((((((W.setCell ⟨D, 0, none⟩ a).setCell ⟨D, 1, none⟩ b).setCell ⟨D, 2, none⟩ c).setCell ⟨D, 3, none⟩ d).setCell ⟨D, 4, none⟩ e).setCell ⟨D, 5, none⟩ f).setCell ⟨D, 6, none⟩ g).setCell ⟨D, 7, none⟩ i).heap[D]? = some (Obj.cells #[a, b, c, d, e, f, g, i, z8] 43 (0, 0)) := heap_setCell_same (((((((W.setCell ⟨D, 0, none⟩ a).setCell ⟨D, 1, none⟩ b).setCell ⟨D, 2, none⟩ c).setCell ⟨D, 3, none⟩ d).setCell ⟨D, 4, none⟩ e).setCell ⟨D, 5, none⟩ f).setCell ⟨D, 6, none⟩ g) D 7 _ 43 i k6
  have k8 : (((((((((W.setCell ⟨D, 0, none⟩ a).setCell ⟨D, 1, none⟩ b).setCell ⟨D, 2, none⟩ c).setCell ⟨D, 3, none⟩ d).setCell ⟨D, 4, none⟩ e).setCell ⟨D, 5, none⟩ f).setCell ⟨D, 6, none⟩ g).setCell ⟨D, 7, none⟩ i).setCell ⟨D, 8, none⟩ j).heap[D]? = some (Obj.cells #[a, b, c, d, e, f, g, i, j] 43 (0, 0)) := heap_setCell_same ((((((((W.setCell ⟨D, 0, none⟩ a).setCell ⟨D, 1, none⟩ b).setCell ⟨D, 2, none⟩ c).setCell ⟨D, 3, none⟩ d).setCell ⟨D, 4, none⟩ e).setCell ⟨D, 5, none⟩ f).setCell ⟨D, 6, none⟩ g).setCell ⟨D, 7, none⟩ i) D 8 _ 43 j k7
  exact ⟨k8, fun B hB => ((((((((((Below.refl B W).setCell (p := ⟨D, 0, none⟩) hB _).setCell (p := ⟨D, 1, none⟩) hB _).setCell (p := ⟨D, 2, none⟩) hB _).setCell (p := ⟨D, 3, none⟩) hB _).setCell (p := ⟨D, 4, none⟩) hB _).setCell (p := ⟨D, 5, none⟩) hB _).setCell (p := ⟨D, 6, none⟩) hB _).setCell (p := ⟨D, 7, none⟩) hB _).setCell (p := ⟨D, 8, none⟩) hB _)⟩
theorem three_new (w : World) (A B C : Array Value) : Below w.heap.size w (((w.alloc (.cells A 78)).alloc (.cells B 43)).alloc (.cells C 43)) ∧ (((w.alloc (.cells A 78)).alloc (.cells B 43)).alloc (.cells C 43)).heap[w.heap.size]? = some (.cells A 78 (0, 0)) ∧ (((w.alloc (.cells A 78)).alloc (.cells B 43)).alloc (.cells C 43)).heap[w.heap.size + 1]? = some (.cells B 43 (0, 0)) ∧ (((w.alloc (.cells A 78)).alloc (.cells B 43)).alloc (.cells C 43)).heap[w.heap.size + 1 + 1]? = some (.cells C 43 (0, 0)) := by
  refine ⟨(((Below.refl _ w).alloc (Nat.le_refl _) _).alloc (by simp) _).alloc (by simp; omega) _, ?_, ?_, ?_⟩
  · rw [Below.heap_alloc _ _ _ (by simp; omega), Below.heap_alloc _ _ _ (by simp)]; exact heap_alloc_new _ _
  · rw [Below.heap_alloc _ _ _ (by simp)]
    have := heap_alloc_new (w.alloc (.cells A 78)) (.cells B 43)
    simpa using this
  · have := heap_alloc_new ((w.alloc (.cells A 78)).alloc (.cells B 43)) (.cells C 43)
    simpa using this
set_option maxRecDepth 4000 in
set_option maxHeartbeats 2000000 in
theorem whole_any (st sv : Int) (c3 c4 c5 : Value) (es : List Ent) (ae : Option Addr) (le ce : Nat) (w : World) (hE : Es w (.slice ae le ce) es) :
    Calls Tryz.prog 93 #[.agg #[.int .i64 st, .int .i64 sv, .int .i64 0, c3, c4, c5, .slice ae le ce]] w fun x w' => x = .returned (.agg #[.int .i64 st, .int .i64 sv, .bool true, .int .i64 (firstOf es), .slice ae le ce, .pointer none, .slice none 0 0, .slice none 0 0, .slice none 0 0]) ∧ Below w.heap.size w w' := by
  obtain ⟨ao, cap, e1, h1, h2, h4⟩ := hE
  simp only [Value.slice.injEq] at e1
  obtain ⟨rfl, hle, rfl⟩ := e1
  have h2' : ce ≤ 9223372036854775807 := h2
  have HLE := hide hle
  have H4 := hide h4
  have hlc : (le : Int) ≤ (ce : Int) := by omega
  have HT := hide (three_new w #[.int .i64 st, .int .i64 sv, .int .i64 0, c3, c4, c5, .slice ae le ce] #[.int .i64 0, .int .i64 0, .bool false, .int .i64 0, .slice none 0 0, .pointer none, .slice none 0 0, .slice none 0 0, .slice none 0 0] #[.int .i64 st, .int .i64 sv, .bool true, .int .i64 0, .slice ae le ce, .pointer none, .slice none 0 0, .slice none 0 0, .slice none 0 0])
  clear hle h4 h1 h2
  go_enter Tryz.func93, Tryz.ntmps93
  go_upto_if 18 with fail
  generalize ((w.alloc (.cells #[.int .i64 st, .int .i64 sv, .int .i64 0, c3, c4, c5, .slice ae le ce] 78)).alloc (.cells #[.int .i64 0, .int .i64 0, .bool false, .int .i64 0, .slice none 0 0, .pointer none, .slice none 0 0, .slice none 0 0, .slice none 0 0] 43)).alloc (.cells #[.int .i64 st, .int .i64 sv, .bool true, .int .i64 0, .slice ae le ce, .pointer none, .slice none 0 0, .slice none 0 0, .slice none 0 0] 43) = W1 at *
  have z6 : W1.cell? ⟨w.heap.size, 6, none⟩ = some (.slice ae le ce) := cell_of_row _ _ _ _ _ _ HT.out.2.1
  have y3 : W1.cell? ⟨w.heap.size + 1 + 1, 3, none⟩ = some (.int .i64 0) := cell_of_row _ _ _ _ _ _ HT.out.2.2.2
  have yf : W1.frozen? ⟨w.heap.size + 1 + 1, 3, none⟩ = false := frozen_of_row _ _ _ _ _ HT.out.2.2.2
  go_cut [] from 18 to 24 (fun wc => Hid (Below w.heap.size w wc ∧ wc.heap[w.heap.size + 1]? = some (.cells #[.int .i64 0, .int .i64 0, .bool false, .int .i64 0, .slice none 0 0, .pointer none, .slice none 0 0, .slice none 0 0, .slice none 0 0] 43 (0, 0)) ∧ wc.heap[w.heap.size + 1 + 1]? = some (.cells #[.int .i64 st, .int .i64 sv, .bool true, .int .i64 (firstOf es), .slice ae le ce, .pointer none, .slice none 0 0, .slice none 0 0, .slice none 0 0] 43 (0, 0))))
  case first =>
    cases es with
    | nil =>
      have h0 : ¬ (0 : Int) < (le : Int) := by have := HLE.out; simp at this; omega
      go_wp2_with fail
      go_meet
      exact ⟨HT.out.1, HT.out.2.2.1, HT.out.2.2.2⟩
    | cons e es =>
      have h0 : (0 : Int) < (le : Int) := by have := HLE.out; simp at this; omega
      obtain ⟨g, off, rfl, hc⟩ := H4.out (by simp)
      obtain ⟨ad, ld, cd, d0, d1, d2, d3, hS⟩ := hc 0 e rfl
      have q0 : W1.cell? ⟨g, off, none⟩ = some (.int .i64 e.idx) := by
        rw [Nat.zero_mul, Nat.add_zero] at d0
        exact (World.cell?_of_block (w := w) (a := ⟨g, off, none⟩) (HT.out.1.block g (cell_lt d0))).trans d0
      have HN : Hid (∀ x, Below w.heap.size w (W1.setCell ⟨w.heap.size + 1 + 1, 3, none⟩ x) ∧ (W1.setCell ⟨w.heap.size + 1 + 1, 3, none⟩ x).heap[w.heap.size + 1]? = some (.cells #[.int .i64 0, .int .i64 0, .bool false, .int .i64 0, .slice none 0 0, .pointer none, .slice none 0 0, .slice none 0 0, .slice none 0 0] 43 (0, 0)) ∧ (W1.setCell ⟨w.heap.size + 1 + 1, 3, none⟩ x).heap[w.heap.size + 1 + 1]? = some (.cells #[.int .i64 st, .int .i64 sv, .bool true, x, .slice (some ⟨g, off, none⟩) le ce, .pointer none, .slice none 0 0, .slice none 0 0, .slice none 0 0] 43 (0, 0))) := fun x => by
        have hF := fr_set (Dk.Fr.refl (fun k => k = w.heap.size + 1 + 1) W1) (D := w.heap.size + 1 + 1) (i := 3) (x := x) rfl
        exact ⟨HT.out.1.trans (hF.below (fun k hk => by omega) HT.out.1.size), by rw [Below.heap_setCell _ _ _ _ (by simp)]; exact HT.out.2.2.1, heap_setCell_same _ _ 3 _ 43 x HT.out.2.2.2⟩
      clear d0 d1 d2 d3 hS hc
      go_wp2_with fail
      go_meet
      exact HN.out _
  case rest =>
    have HQ := hcut
    clear z6 y3 yf HT H4
    obtain ⟨k0, k1, k2, k3, k4, k5, k6, k7, k8⟩ := nine HQ.out.2.1
    obtain ⟨o0, o1, o2, o3, o4, o5, o6, o7, o8⟩ := nine HQ.out.2.2
    have ff := fun i => frozen_of_row wc (w.heap.size + 1) i _ 43 HQ.out.2.1
    have HN := hide (fill9 HQ.out.2.1 (.int .i64 st) (.int .i64 sv) (.bool true) (.int .i64 (firstOf es)) (.slice ae le ce) (.pointer none) (.slice none 0 0) (.slice none 0 0) (.slice none 0 0))
    have HBW := hide HQ.out.1
    clear HQ
    go_wp2_with fail
    refine bodyPost_ret (results_cellR rfl _ _ (w.heap.size + 1) 43 _ rfl HN.out.1 Tryz.underlying43 sz43) rfl ?_
    exact ⟨rfl, HBW.out.trans (HN.out.2 w.heap.size (by omega))⟩
end Go.Proofs.YtjndgekpdmlbiaaGreatDoor.Kp
namespace Go.Proofs.YtjndgekpdmlbiaaGreatDoor.Kp
open Go.RowKit Bn

theorem Tab_fr {F : Nat → Prop} {w w' : World} (h : Fr.Tab w) (hf : Dk.Fr F w w') (h0 : ¬ F 0) : Fr.Tab w' := fun i hi => hf.cell (h i hi) h0
/-- The first number behind write: anew, or behind what is there. -/
def wFirst (an : Bool) (first : Int) (ds : List (List UInt8)) : Int := if an then Wl.lastL first ds + 1 else if ds.length = 0 then Wl.lastL first ds + 1 else first
def wDs (an : Bool) (ds : List (List UInt8)) (t : List UInt8) : List (List UInt8) := if an then [fl true ++ t] else ds ++ [fl true ++ t]
/-- What write leaves: the call behind the log's, or the whole state in their place. -/
def WnR (zm : Int) (w : World) (kb p pd : Nat) (H : Nat → Prop) (first : Int) (ds : List (List UInt8)) (room : Int) (an : Bool) (t : List UInt8) (N B M : Nat) (c0 c1 c2 c3 c4 c5 c6 : Value) (w' : World) : Prop :=
  ∃ s' H' z, Wl.LX w' p pd s' H' (wFirst an first ds) (wDs an ds t) ∧ Wl.Gk s' (wFirst an first ds) (wDs an ds t) (N + 1) (B + 32796) (M + B + 100000) ∧ s'.room = room ∧ (∀ k, H' k → H k ∨ w.heap.size ≤ k) ∧ Dk.Fr (fun k => H k ∨ k = kb) w w' ∧ KwB w' kb p c0 c1 c2 c3 c4 c5 c6 z ∧ (0 ≤ z ∧ z ≤ zm)

theorem untilS_room (s : Dk.St) (first : Int) (ds : List (List UInt8)) (k : Nat) : (Wl.untilS s first ds k).room = s.room := by
  unfold Wl.untilS
  split
  · rfl
  · split <;> rfl

theorem append_then {w : World} {kb p pd : Nat} {s : Dk.St} {H : Nat → Prop} {first : Int} {ds : List (List UInt8)} {N B M : Nat} {c0 c1 c2 c3 c4 c5 c6 : Value} {z : Int} (h : Wl.LX w p pd s H first ds) (hG : Wl.Gk s first ds N B M) (h1f : ds ≠ [] → 1 ≤ first) (hlast : Wl.lastL first ds ≤ 4611686018427386000) (hN : N ≤ 800) (hB : B ≤ 400000) (hM : M ≤ 400000) (hroom : 2 * ((B : Int) + 33000) ≤ s.room) (ht : Fr.Tab w) (h0 : ¬ H 0) (hb : KwB w kb p c0 c1 c2 c3 c4 c5 c6 z) (hk : ¬ H kb) (zm : Int)
    (an : Bool) (W : World) (ao : Option Addr) (L cap : Nat) (t : List UInt8) (hbW : Below w.heap.size w W) (hO : W.ownsRow w.heap.size 5 1 (.slice ao L cap) t.length (cells8 t)) (htp : 0 < t.length) (htl : t.length ≤ 32767) (han : an = true → ds ≠ []) :
    Calls Tryz.prog 94 #[.pointer (some ⟨kb, 0, none⟩), .slice ao L cap] W fun e w' => e = .returned (.int .i64 0) ∧ w'.cell? ⟨kb, 7, none⟩ = some (.pointer (some ⟨p, 0, none⟩)) ∧ w'.cell? ⟨kb, 8, none⟩ = some (.int .i64 z) ∧ w'.frozen? ⟨kb, 8, none⟩ = false ∧ Hid (an = false → ∀ z', (0 ≤ z' ∧ z' ≤ zm) → WnR zm w kb p pd H first ds s.room false t N B M c0 c1 c2 c3 c4 c5 c6 (w'.setCell ⟨kb, 8, none⟩ (.int .i64 z'))) ∧
      Hid (an = true → Calls Tryz.prog 87 #[.pointer (some ⟨p, 0, none⟩), .int .i64 (Wl.lastL first ds)] w' fun e w'' => e = .returned (.int .i64 0) ∧ w''.cell? ⟨kb, 8, none⟩ = some (.int .i64 z) ∧ w''.frozen? ⟨kb, 8, none⟩ = false ∧ Hid (∀ z', (0 ≤ z' ∧ z' ≤ zm) → WnR zm w kb p pd H first ds s.room true t N B M c0 c1 c2 c3 c4 c5 c6 (w''.setCell ⟨kb, 8, none⟩ (.int .i64 z')))) := by
  have hlb := last_bd hG
  have hlt := h.lt
  have hkl := hb.lt
  have hs1 := hbW.size
  have hfit := hG.fit
  refine (pieces_any (h.below hbW) hG h1f (by omega) (by omega) (by omega) (by omega) (ht.below hbW) ((hb.below hbW).c 7) hk ao L cap t w.heap.size hO htp htl).mono ?_
  rintro e w' ⟨rfl, hP⟩
  obtain ⟨hX, hF⟩ := hP.out
  have hK' := (hb.below hbW).fr hF hk
  have hs2 := hF.size
  have hFw : Dk.Fr H w w' := (Dk.Fr.of_below (F := H) hbW).trans hF (fun _ _ h => h)
  have hbl : (fl true ++ t).length = t.length + 1 := by simp [fl]
  have hGa := hG.app (Wl.lastL first ds + 1) (fl true ++ t) (may_last hG h1f) (by omega) (by omega)
  have hkx : ¬ Dk.ext H W w' kb := fun hh => by
    rcases hh with hh | hh
    · exact hk hh
    · omega
  have h0x : ¬ Dk.ext H W w' 0 := fun hh => by
    rcases hh with hh | hh
    · exact h0 hh
    · omega
  refine ⟨rfl, hK'.c 7, hK'.c 8, hK'.f 8, fun e z' hz' => ?_, fun e => ?_⟩
  · refine ⟨s.push (.app Wl.nmW (Wl.recB (Wl.lastL first ds + 1) (fl true ++ t))), Dk.ext H W w', z', ?_, ?_, rfl, fun k hk2 => ?_, ?_, hK'.size z', hz'⟩
    · exact hX.kept (K := fun k => k = kb) (Dk.Fr.one w' kb 8 _) (fun k hk2 e => hkx (by rw [← e]; exact hk2))
    · exact hGa.mono (Nat.le_refl _) (by omega) (by omega)
    · rcases hk2 with hk2 | hk2
      · exact Or.inl hk2
      · exact Or.inr (by omega)
    · exact Dk.Fr.setCell (p := ⟨kb, 8, none⟩) (F := fun k => H k ∨ k = kb) (hFw.mono (fun k _ hk => Or.inl hk)) (fun _ => Or.inr rfl) _
  · have hne := han e
    have hdl : ds.length ≠ 0 := fun e => hne (List.eq_nil_of_length_eq_zero e)
    have hf1 := h1f hne
    have hll : Wl.lastL first ds = first + ds.length - 1 := by unfold Wl.lastL; rw [if_neg hdl]
    have hcnt : Wl.cnt (if ds.length = 0 then Wl.lastL first ds + 1 else first) (ds ++ [fl true ++ t]) (Wl.lastL first ds) = ds.length := by
      rw [if_neg hdl, hll]
      unfold Wl.cnt Wl.lastL
      rw [List.length_append, List.length_singleton, if_neg (by omega)]
      omega
    refine (hX.untilK hGa (Tab_fr (ht.below hbW) hF h0) (by omega) (by omega) (by omega) (by show 2 * _ ≤ s.room; omega) (Wl.lastL first ds) ds.length (by omega) (by omega) hcnt).mono ?_
    rintro e w'' ⟨rfl, HP⟩
    obtain ⟨hX2, hF2⟩ := HP.out
    have hGu := hGa.until ds.length (by simp) (fun e => by simp at e)
    have e1 : (if ds.length = (ds ++ [fl true ++ t]).length then 0 else (if ds.length = 0 then Wl.lastL first ds + 1 else first) + ds.length) = wFirst true first ds := by
      rw [if_neg (by simp), if_neg hdl]
      show _ = Wl.lastL first ds + 1
      omega
    have e2 : (ds ++ [fl true ++ t]).drop ds.length = wDs true ds t := by rw [List.drop_left]; rfl
    rw [e1, e2] at hX2 hGu
    have hK2 := hK'.fr hF2 hkx
    have hs3 := hF2.size
    refine ⟨rfl, hK2.c 8, hK2.f 8, fun z' hz' => ⟨Wl.untilS (s.push (.app Wl.nmW (Wl.recB (Wl.lastL first ds + 1) (fl true ++ t)))) (if ds.length = 0 then Wl.lastL first ds + 1 else first) (ds ++ [fl true ++ t]) ds.length, _, z', hX2.kept (K := fun k => k = kb) (Dk.Fr.one w'' kb 8 _) (fun k hk2 e => ?_), hGu.mono (by omega) (by omega) (by omega), ?_, fun k hk2 => ?_, ?_, hK2.size z', hz'⟩⟩
    · subst e
      rcases hk2 with hh | hh
      · exact hkx hh
      · omega
    · rw [untilS_room]; rfl
    · rcases hk2 with (hh | hh) | hh
      · exact Or.inl hh
      · exact Or.inr (by omega)
      · exact Or.inr (by omega)
    · refine Dk.Fr.setCell (p := ⟨kb, 8, none⟩) (F := fun k => H k ∨ k = kb) ?_ (fun _ => Or.inr rfl) _
      refine (hFw.mono (G := fun k => H k ∨ k = kb) (fun k _ hk => Or.inl hk)).trans hF2 (fun k hk1 hk2 => ?_)
      rcases hk2 with hh | hh
      · exact Or.inl hh
      · omega

set_option maxHeartbeats 4000000 in
theorem write_any {w : World} {kb p pd : Nat} {s : Dk.St} {H : Nat → Prop} {first : Int} {ds : List (List UInt8)} {N B M : Nat} {c0 c1 c2 c3 c4 c5 c6 : Value} {z : Int} (h : Wl.LX w p pd s H first ds) (hG : Wl.Gk s first ds N B M) (h1f : ds ≠ [] → 1 ≤ first) (hlast : Wl.lastL first ds ≤ 4611686018427386000) (hN : N ≤ 800) (hB : B ≤ 400000) (hM : M ≤ 400000) (hroom : 2 * ((B : Int) + 33000) ≤ s.room) (ht : Fr.Tab w) (h0 : ¬ H 0) (hb : KwB w kb p c0 c1 c2 c3 c4 c5 c6 z) (hk : ¬ H kb) (hz : ds = [] → z ≤ 0)
    (rt rv rf : Int) (re : List Ent) (y6 y7 y8 : Value) (ae : Option Addr) (le ce : Nat) (hE : Es w (.slice ae le ce) re) (ho : (⟨rt, rv, true, rf, re, none⟩ : Rdy).ok) (hrz : rsz ⟨rt, rv, true, rf, re, none⟩ ≤ 140737488355328) (hl : (encR false ⟨rt, rv, true, rf, re, none⟩).length ≤ 32767)
    (t1 v1 : Int) (es1 : List Ent) (av : Option Addr) (nv cv : Nat) (hE1 : Es w (.slice av nv cv) es1) (ho1 : (St.whole ⟨t1, v1, ⟨0, 0, [], []⟩, es1⟩).ok) (hrz1 : rsz (St.whole ⟨t1, v1, ⟨0, 0, [], []⟩, es1⟩) ≤ 140737488355328) (hl1 : (encR true (St.whole ⟨t1, v1, ⟨0, 0, [], []⟩, es1⟩)).length ≤ 32767) (hwt : wtE es1 ≤ 1000000000000000) (zm : Int) (hzb : 0 ≤ z ∧ z + 33000 ≤ zm ∧ zm ≤ 1000000000000000) :
    Calls Tryz.prog 56 #[.pointer (some ⟨kb, 0, none⟩), .agg #[.int .i64 rt, .int .i64 rv, .bool true, .int .i64 rf, .slice ae le ce, .pointer none, y6, y7, y8], .agg #[.int .i64 t1, .int .i64 v1, .int .i64 0, .int .i64 0, .slice none 0 0, .slice none 0 0, .slice av nv cv]] w fun e w' =>
      e = .returned (.int .i64 0) ∧ Hid (∃ an, (an = true → ds ≠ []) ∧ WnR zm w kb p pd H first ds s.room an (encR an (if an then St.whole ⟨t1, v1, ⟨0, 0, [], []⟩, es1⟩ else ⟨rt, rv, true, rf, re, none⟩)) N B M c0 c1 c2 c3 c4 c5 c6 w') := by
  obtain ⟨W2, hW2⟩ : ∃ W2, W2 = (w.alloc (.cells #[.int .i64 rt, .int .i64 rv, .bool true, .int .i64 rf, .slice ae le ce, .pointer none, y6, y7, y8] 43)).alloc (.cells #[.int .i64 t1, .int .i64 v1, .int .i64 0, .int .i64 0, .slice none 0 0, .slice none 0 0, .slice av nv cv] 78) := ⟨_, rfl⟩
  have hb2 : Below w.heap.size w W2 := by rw [hW2]; exact ((Below.refl _ w).alloc (Nat.le_refl _) _).alloc (by simp) _
  have H9 : Hid (W2.heap[w.heap.size]? = some (.cells #[.int .i64 rt, .int .i64 rv, .bool true, .int .i64 rf, .slice ae le ce, .pointer none, y6, y7, y8] 43 (0, 0))) := by
    show _ = _
    rw [hW2, Below.heap_alloc _ _ _ (by simp)]
    exact heap_alloc_new _ _
  have H7 : Hid (W2.heap[w.heap.size + 1]? = some (.cells #[.int .i64 t1, .int .i64 v1, .int .i64 0, .int .i64 0, .slice none 0 0, .slice none 0 0, .slice av nv cv] 78 (0, 0))) := by
    have := heap_alloc_new (w.alloc (.cells #[.int .i64 rt, .int .i64 rv, .bool true, .int .i64 rf, .slice ae le ce, .pointer none, y6, y7, y8] 43)) (.cells #[.int .i64 t1, .int .i64 v1, .int .i64 0, .int .i64 0, .slice none 0 0, .slice none 0 0, .slice av nv cv] 78)
    show _ = _
    rw [hW2]
    simpa using this
  have HB2 := hide hb2
  have HKB := hide hb
  have HSE : Hid (∀ W, Below W2.heap.size W2 W → W.cell? ⟨kb, 7, none⟩ = some (.pointer (some ⟨p, 0, none⟩)) ∧ W.cell? ⟨kb, 8, none⟩ = some (.int .i64 z) ∧ W.heap[w.heap.size + 1]? = some (.cells #[.int .i64 t1, .int .i64 v1, .int .i64 0, .int .i64 0, .slice none 0 0, .slice none 0 0, .slice av nv cv] 78 (0, 0)) ∧ Below w.heap.size w W) := fun W hW => by
    have hbW := HB2.out.trans (hW.mono HB2.out.size)
    exact ⟨(HKB.out.below hbW).c 7, (HKB.out.below hbW).c 8, (hW.block _ (lt_of_block H7.out)).trans H7.out, hbW⟩
  have HEN := hide (encode_any false ⟨rt, rv, true, rf, re, none⟩ y6 y7 y8 none ae le ce W2 (hE.below hb2) rfl ho hrz)
  have HXX := hide h
  have HL : Hid (∀ W, Below w.heap.size w W → Calls Tryz.prog 48 #[.pointer (some ⟨p, 0, none⟩)] W fun e w' => e = .returned (.int .i64 (Wl.lastL first ds)) ∧ ∃ m, w' = W.drewN m) := fun W hbW => LXlast (HXX.out.below hbW)
  have HMB : Hid (∀ W, Below w.heap.size w W → Calls Tryz.prog 92 #[.agg #[.int .i64 t1, .int .i64 v1, .int .i64 0, .int .i64 0, .slice none 0 0, .slice none 0 0, .slice av nv cv]] W fun x w' => x = .returned (.int .i64 (500 + 2 * (wtS 0 0 es1 : Nat))) ∧ Below W.heap.size W w') := fun W hbW => mostBytes_any (.int .i64 t1) (.int .i64 v1) (.int .i64 0) (.slice none 0 0) 0 none 0 0 es1 av nv cv W (hE1.below hbW) (by omega)
  have HWH : Hid (∀ W, Below w.heap.size w W → Calls Tryz.prog 93 #[.agg #[.int .i64 t1, .int .i64 v1, .int .i64 0, .int .i64 0, .slice none 0 0, .slice none 0 0, .slice av nv cv]] W fun x w' => x = .returned (.agg #[.int .i64 t1, .int .i64 v1, .bool true, .int .i64 (firstOf es1), .slice av nv cv, .pointer none, .slice none 0 0, .slice none 0 0, .slice none 0 0]) ∧ Below W.heap.size W w') := fun W hbW => whole_any t1 v1 (.int .i64 0) (.slice none 0 0) (.slice none 0 0) es1 av nv cv W (hE1.below hbW)
  have HEW : Hid (∀ W, Below w.heap.size w W → Calls Tryz.prog 91 #[.bool true, .agg #[.int .i64 t1, .int .i64 v1, .bool true, .int .i64 (firstOf es1), .slice av nv cv, .pointer none, .slice none 0 0, .slice none 0 0, .slice none 0 0]] W fun x w' => ∃ ao L cap, x = .returned (.slice ao L cap) ∧ Hid (w'.ownsRow W.heap.size 5 1 (.slice ao L cap) (encR true (St.whole ⟨t1, v1, ⟨0, 0, [], []⟩, es1⟩)).length (cells8 (encR true (St.whole ⟨t1, v1, ⟨0, 0, [], []⟩, es1⟩))) ∧ Below W.heap.size W w')) := fun W hbW => encode_any true (St.whole ⟨t1, v1, ⟨0, 0, [], []⟩, es1⟩) (.slice none 0 0) (.slice none 0 0) (.slice none 0 0) none av nv cv W (hE1.below hbW) rfl ho1 hrz1
  have HAPP : Hid (∀ (an : Bool) (W : World) (ao : Option Addr) (L cap : Nat) (t : List UInt8), Below w.heap.size w W → W.ownsRow w.heap.size 5 1 (.slice ao L cap) t.length (cells8 t) → 0 < t.length → t.length ≤ 32767 → (an = true → ds ≠ []) → Calls Tryz.prog 94 #[.pointer (some ⟨kb, 0, none⟩), .slice ao L cap] W fun e w' => e = .returned (.int .i64 0) ∧ w'.cell? ⟨kb, 7, none⟩ = some (.pointer (some ⟨p, 0, none⟩)) ∧ w'.cell? ⟨kb, 8, none⟩ = some (.int .i64 z) ∧ w'.frozen? ⟨kb, 8, none⟩ = false ∧ Hid (an = false → ∀ z', (0 ≤ z' ∧ z' ≤ zm) → WnR zm w kb p pd H first ds s.room false t N B M c0 c1 c2 c3 c4 c5 c6 (w'.setCell ⟨kb, 8, none⟩ (.int .i64 z'))) ∧
      Hid (an = true → Calls Tryz.prog 87 #[.pointer (some ⟨p, 0, none⟩), .int .i64 (Wl.lastL first ds)] w' fun e w'' => e = .returned (.int .i64 0) ∧ w''.cell? ⟨kb, 8, none⟩ = some (.int .i64 z) ∧ w''.frozen? ⟨kb, 8, none⟩ = false ∧ Hid (∀ z', (0 ≤ z' ∧ z' ≤ zm) → WnR zm w kb p pd H first ds s.room true t N B M c0 c1 c2 c3 c4 c5 c6 (w''.setCell ⟨kb, 8, none⟩ (.int .i64 z'))))) := fun an W ao L cap t hbW hO htp htl han => append_then h hG h1f hlast hN hB hM hroom ht h0 hb hk zm an W ao L cap t hbW hO htp htl han
  obtain ⟨tF, HTF⟩ : ∃ t, Hid (encR false ⟨rt, rv, true, rf, re, none⟩ = t) := ⟨_, (rfl : _ = _)⟩
  obtain ⟨tT, HTT⟩ : ∃ t, Hid (encR true (St.whole ⟨t1, v1, ⟨0, 0, [], []⟩, es1⟩) = t) := ⟨_, (rfl : _ = _)⟩
  have HFP : Hid (0 < tF.length ∧ tF.length ≤ 32767 ∧ 0 < tT.length ∧ tT.length ≤ 32767) := by
    rw [← HTF.out, ← HTT.out]
    exact ⟨by simp [encR, fl], hl, by simp [encR, fl], hl1⟩
  have HEND : Hid (∀ (an : Bool) (w' : World), (an = true → ds ≠ []) → WnR zm w kb p pd H first ds s.room an (if an then tT else tF) N B M c0 c1 c2 c3 c4 c5 c6 w' → ∃ an, (an = true → ds ≠ []) ∧ WnR zm w kb p pd H first ds s.room an (encR an (if an then St.whole ⟨t1, v1, ⟨0, 0, [], []⟩, es1⟩ else ⟨rt, rv, true, rf, re, none⟩)) N B M c0 c1 c2 c3 c4 c5 c6 w') := fun an w' han hW => by
    refine ⟨an, han, ?_⟩
    cases an with
    | false => rw [← HTF.out] at hW; exact hW
    | true => rw [← HTT.out] at hW; exact hW
  rw [HTF.out] at HEN
  rw [HTT.out] at HEW
  obtain ⟨T, hT⟩ : ∃ T, wtS 0 0 es1 = T := ⟨_, rfl⟩
  have hTb : (T : Int) ≤ 1000000000000000 := by rw [← hT]; unfold wtS; simp; omega
  rw [hT] at HMB
  have HZ := hide hz
  obtain ⟨PP, HPP⟩ : ∃ PP : World → Prop, Hid (PP = fun w' => ∃ an, (an = true → ds ≠ []) ∧ WnR zm w kb p pd H first ds s.room an (encR an (if an then St.whole ⟨t1, v1, ⟨0, 0, [], []⟩, es1⟩ else ⟨rt, rv, true, rf, re, none⟩)) N B M c0 c1 c2 c3 c4 c5 c6 w') := ⟨_, (rfl : _ = _)⟩
  have HEND2 : Hid (∀ (an : Bool) (w' : World), (an = true → ds ≠ []) → WnR zm w kb p pd H first ds s.room an (if an then tT else tF) N B M c0 c1 c2 c3 c4 c5 c6 w' → PP w') := by rw [HPP.out]; exact HEND.out
  have hgoal : ∀ w', PP w' = ∃ an, (an = true → ds ≠ []) ∧ WnR zm w kb p pd H first ds s.room an (encR an (if an then St.whole ⟨t1, v1, ⟨0, 0, [], []⟩, es1⟩ else ⟨rt, rv, true, rf, re, none⟩)) N B M c0 c1 c2 c3 c4 c5 c6 w' := fun w' => by rw [HPP.out]
  simp only [← hgoal]
  have hz1 := hzb.1
  have hz2 : z ≤ 1000000000000000 := by omega
  have HZM := hide hzb
  clear h hG h1f hlast hN hB hM hroom ht h0 hb hk hz hE ho hrz hl hE1 ho1 hrz1 hl1 hwt hb2 HEND HPP hgoal HTF HTT hT hzb
  have HW2 := hide hW2
  go_enter Tryz.func56, Tryz.ntmps56
  go_upto_region 1 with fail
  rw [← HW2.out]
  clear hW2
  obtain ⟨n0, n1, n2, n3, n4, n5, n6, n7, n8⟩ := nine H9.out
  go_wp2_with fail
  refine Calls.mono HEN.out ?_
  rintro e w3 ⟨a3, L3, cap3, rfl, hP3⟩
  obtain ⟨hO3, hb3⟩ := hP3.out
  have hL3 : L3 ≤ 32767 := by
    have h1 := HFP.out.2.1
    rcases Dk.own_shape hO3 with ⟨e, h0⟩ | ⟨_, _, e, _⟩
    · simp only [Value.slice.injEq] at e
      omega
    · simp only [Value.slice.injEq] at e
      omega
  have HB3 : Hid (Below W2.heap.size W2 w3) := hb3
  have HO3 : Hid (w3.ownsRow w.heap.size 5 1 (.slice a3 L3 cap3) tF.length (cells8 tF)) := Dk.own_base hO3 (fun k hk => Nat.le_trans HB2.out.size (hO3.lt k hk).1)
  have c7 := (HSE.out w3 HB3.out).1
  have c8 := (HSE.out w3 HB3.out).2.1
  clear hP3 hO3 hb3 HEN n0 n1 n2 n3 n4 n5 n6 n7 n8
  obtain ⟨Z, hZ⟩ : ∃ Z, sizeL L3 = Z := ⟨_, rfl⟩
  have HSZ : Hid (∀ W, Calls Tryz.prog 86 #[.slice a3 L3 cap3] W fun e w' => e = .returned (.int .i64 (Z : Nat)) ∧ w' = W) := fun W => by
    rw [← hZ]
    exact sizeOf_any a3 L3 cap3 W (by omega)
  have HZ1 : Hid (0 ≤ z + (Z : Int) ∧ z + (Z : Int) ≤ zm) := by
    have := HZM.out
    show _ ∧ _
    rw [← hZ]
    unfold sizeL
    omega
  have hZb : (Z : Int) ≤ 1000000000000000 := by
    rw [← hZ]
    unfold sizeL
    omega
  clear hZ hL3
  go_wp2_with fail
  go_big_quiet (first | (go_at_call 86; exact Calls.quiet_of_same (HSZ.out _)))
  have HB4 : Hid (Below W2.heap.size W2 (w3.drewN nq)) := HB3.out.trans ((Wl.below_drew w3 nq).mono HB3.out.size)
  have HO4 : Hid ((w3.drewN nq).ownsRow w.heap.size 5 1 (.slice a3 L3 cap3) tF.length (cells8 tF)) := HO3.out
  generalize w3.drewN nq = w4 at *
  clear HSZ HB3 HO3 c7 c8
  have e8 := (HSE.out w4 HB4.out).2.1
  obtain ⟨o0, o1, o2, o3, o4, o5, o6⟩ := seven (HSE.out w4 HB4.out).2.2.1
  go_upto_region 3 with fail
  go_cut [9] from 21 to 31 (fun v9 wc => ∃ an : Bool, v9 = .bool an ∧ Hid (an = true → ds ≠ []) ∧ Hid (Below W2.heap.size W2 wc ∧ wc.ownsRow w.heap.size 5 1 (.slice a3 L3 cap3) tF.length (cells8 tF)))
  case first =>
    by_cases hzp : 0 < z
    · have HMB4 := hide (HMB.out w4 (HSE.out w4 HB4.out).2.2.2)
      have HNE : Hid (ds ≠ []) := fun e => by have := HZ.out e; omega
      go_wp2_with fail
      refine Calls.mono HMB4.out ?_
      rintro x w5 ⟨rfl, hb5⟩
      have HB5 : Hid (Below W2.heap.size W2 w5 ∧ w5.ownsRow w.heap.size 5 1 (.slice a3 L3 cap3) tF.length (cells8 tF)) := ⟨HB4.out.trans (hb5.mono HB4.out.size), own_bel HO4.out hb5⟩
      clear hb5 HMB4
      go_wp2_with fail
      go_meet
      exact ⟨_, rfl, fun _ => HNE.out, HB5.out⟩
    · have HB5 : Hid (Below W2.heap.size W2 w4 ∧ w4.ownsRow w.heap.size 5 1 (.slice a3 L3 cap3) tF.length (cells8 tF)) := ⟨HB4.out, HO4.out⟩
      have HNO : Hid (false = true → ds ≠ []) := fun e => by cases e
      go_wp2_with fail
      go_meet
      exact ⟨false, rfl, HNO, HB5⟩
  case rest =>
    obtain ⟨an, rfl, HAN, HQ⟩ := hcut
    clear e8 o0 o1 o2 o3 o4 o5 o6 HB4 HO4 HMB HZ
    generalize wc = w5 at *
    obtain ⟨o0, o1, o2, o3, o4, o5, o6⟩ := seven (HSE.out w5 HQ.out.1).2.2.1
    go_upto_if 32 with fail
    go_cut [7, 8] from 32 to 37 (fun v7 v8 wd => ∃ a6 L6 cap6 Z6, v7 = .slice a6 L6 cap6 ∧ v8 = .int .i64 Z6 ∧ Hid (0 ≤ Z6 ∧ Z6 ≤ zm) ∧ Hid (Below W2.heap.size W2 wd ∧ wd.ownsRow w.heap.size 5 1 (.slice a6 L6 cap6) (if an then tT else tF).length (cells8 (if an then tT else tF))))
    case first =>
      cases an with
      | false =>
        go_wp2_with fail
        go_meet
        exact ⟨_, _, _, _, rfl, rfl, HZ1, HQ⟩
      | true =>
        have HB5 := hide (HSE.out w5 HQ.out.1).2.2.2
        have HW5 := hide (HWH.out w5 HB5.out)
        go_wp2_with fail
        refine Calls.mono HW5.out ?_
        rintro x w6 ⟨rfl, hb6⟩
        have HB6 : Hid (Below W2.heap.size W2 w6) := HQ.out.1.trans (hb6.mono HQ.out.1.size)
        have HE6 := hide (HEW.out w6 (HSE.out w6 HB6.out).2.2.2)
        clear HW5 hb6 o0 o1 o2 o3 o4 o5 o6
        go_wp2_with fail
        refine Calls.mono HE6.out ?_
        rintro x w7 ⟨a7, L7, cap7, rfl, HP7⟩
        have hL7 : L7 ≤ 32767 := by
          have h1 := HFP.out.2.2.2
          rcases Dk.own_shape HP7.out.1 with ⟨e, h0⟩ | ⟨_, _, e, _⟩
          · simp only [Value.slice.injEq] at e
            omega
          · simp only [Value.slice.injEq] at e
            omega
        have HS7 := hide (sizeOf_any a7 L7 cap7 w7 (by omega))
        have HZ7 : Hid (0 ≤ ((sizeL L7 : Nat) : Int) ∧ ((sizeL L7 : Nat) : Int) ≤ zm) := by
          have := HZM.out
          show _ ∧ _
          unfold sizeL
          omega
        have HE7 : Hid (Below W2.heap.size W2 w7 ∧ w7.ownsRow w.heap.size 5 1 (.slice a7 L7 cap7) tT.length (cells8 tT)) := ⟨HB6.out.trans (HP7.out.2.mono HB6.out.size), Dk.own_base HP7.out.1 (fun k hk => Nat.le_trans (HSE.out w6 HB6.out).2.2.2.size (HP7.out.1.lt k hk).1)⟩
        clear HE6 HP7 hL7
        go_wp2_with fail
        refine Calls.mono HS7.out ?_
        rintro x w8 ⟨rfl, hw8⟩
        have hw8' := hw8.symm
        subst hw8'
        go_wp2_with fail
        go_meet
        exact ⟨_, _, _, _, rfl, rfl, HZ7, HE7⟩
    case rest =>
      obtain ⟨a6, L6, cap6, Z6, rfl, rfl, HZ6, HR⟩ := hcut
      clear o0 o1 o2 o3 o4 o5 o6 HQ HWH HEW
      generalize wc = w6 at *
      have HTP : Hid (0 < (if an then tT else tF).length ∧ (if an then tT else tF).length ≤ 32767) := by
        cases an
        · exact ⟨HFP.out.1, HFP.out.2.1⟩
        · exact ⟨HFP.out.2.2.1, HFP.out.2.2.2⟩
      have HL6 := hide (HL.out w6 (HSE.out w6 HR.out.1).2.2.2)
      have c7 := (HSE.out w6 HR.out.1).1
      go_wp2_with fail
      refine Calls.mono HL6.out ?_
      rintro e w7 ⟨rfl, m, hw7⟩
      have hb7 : Below w6.heap.size w6 w7 := by rw [hw7]; exact Wl.below_drew w6 m
      have HA7 := hide (HAPP.out an w7 a6 L6 cap6 (if an then tT else tF) ((HSE.out w6 HR.out.1).2.2.2.trans (hb7.mono (HSE.out w6 HR.out.1).2.2.2.size)) (own_bel HR.out.2 hb7) HTP.out.1 HTP.out.2 HAN.out)
      clear hw7 hb7 HL6 c7 HAPP HL
      go_wp2_with fail
      refine Calls.mono HA7.out ?_
      rintro e w8 ⟨rfl, d7, d8, g8, HF, HT⟩
      clear HA7
      cases an with
      | false =>
        have HF8 := hide (HF.out rfl)
        go_wp2_with fail
        go_ret
        exact ⟨rfl, HEND2.out false _ (fun e => by cases e) (HF8.out _ HZ6.out)⟩
      | true =>
        have HT8 := hide (HT.out rfl)
        go_wp2_with fail
        refine Calls.mono HT8.out ?_
        rintro e w9 ⟨rfl, q8, f9, HF9⟩
        clear HT8 d7 d8 g8
        go_wp2_with fail
        go_ret
        exact ⟨rfl, HEND2.out true _ (fun _ => HAN.out (by first | rfl | trivial)) (HF9.out _ HZ6.out)⟩
end Go.Proofs.YtjndgekpdmlbiaaGreatDoor.Kp

/- The walk of push. The walks of insert and remove, where no page is parted. The walk of insert into a page that has room, and of remove. The walk of remove. -/
import Derived.Test.YtfjcadkihnecdaaPart05
import Derived.Test.YtfjcadkihnecdaaPart03
namespace Go.Proofs.Ytfjcadkihnecdaa
open Go.RowKit

theorem Chg.from {w w0 W : World} {p wd : Nat} {v : Value} {zs : List Pg} {L : List Ky} (h : Chg w0 W p wd v zs L) (hb : Below w.heap.size w w0) : Chg w W p wd v zs L := by
  obtain ⟨v', zs', h1, h2, h3, h4, h5, h6⟩ := h
  exact ⟨v', zs', h1, h2, h3, h4, (Fr.of_below (F := ft p v zs) hb).trans h5 (fun _ _ h => h), fun k hk => (h6 k hk).imp id (fun h => Nat.le_trans hb.size h)⟩

set_option maxHeartbeats 3200000 in
theorem push_any {w : World} {p wd : Nat} {v : Value} {zs : List Pg} (hB : Bx w p 45 #[.int .i64 (wd : Int), v]) (h : Pgs w v zs) (hne : ∀ x ∈ zs, x.ks ≠ []) (hl : zs.length ≤ 1000000000) (hlk : ∀ x ∈ zs, x.ks.length ≤ 1000000000) (k : Ky) :
    Calls Try.prog 35 #[.pointer (some ⟨p, 1, none⟩), .agg #[.int .i64 k.a, .int .i64 k.b, .int .i64 k.c, .int .i64 k.d]] w fun e w' => (∃ u, e = .returned u) ∧ Chg w w' p wd v zs (keys zs ++ [k]) := by
  have HB1 := hide (below_box w (.cells k.cs 47))
  have HK1 := hide (Bx.new w k.cs 47)
  have HPN : Hid (∀ W1, Below w.heap.size w W1 → _) := fun W1 hW => push_new hB h hne hl k hW
  have HBX : Hid (∀ W1, Below w.heap.size w W1 → Bx W1 p 45 #[.int .i64 (wd : Int), v]) := fun W1 hW => hB.below hW
  simp only [Ky.cs] at HB1 HK1
  obtain ⟨ao, N, cap, rfl⟩ := own_slice h.row
  have hN : N = zs.length := by
    rcases h.shape with ⟨e, h0⟩ | ⟨_, _, e, _⟩
    · simp only [Value.slice.injEq] at e; omega
    · simp only [Value.slice.injEq] at e; exact e.2.1
  subst hN
  rcases List.eq_nil_or_concat zs with rfl | ⟨zl, z, e⟩
  · clear h hne hB hl hlk
    go_enter Try.func35, Try.ntmps35
    have c1 := (HBX.out _ HB1.out).c 1
    simp only [List.getElem?_toArray, List.getElem?_cons_succ, List.getElem?_cons_zero] at c1
    have HBXd := HBX
    go_wp2_with fail
    generalize w.alloc (.cells #[.int .i64 k.a, .int .i64 k.b, .int .i64 k.c, .int .i64 k.d] 47) = W at *
    have c1a : ∀ o, (W.alloc o).cell? ⟨p, 1, none⟩ = some _ := fun o => cell_below' c1 (below_box _ o)
    have c1b : ∀ o o', ((W.alloc o).alloc o').cell? ⟨p, 1, none⟩ = some _ := fun o o' => cell_below' c1 (below_box2 _ o o')
    have x0 := Bx.c HK1.out 0
    have x1 := Bx.c HK1.out 1
    have x2 := Bx.c HK1.out 2
    have x3 := Bx.c HK1.out 3
    simp at x0 x1 x2 x3
    obtain ⟨v', W3, hap, ⟨ao', N', cap', rfl⟩, hb3, hchg⟩ := HPN.out W.drew HB1.out.drew
    have HCH := hide hchg
    have y1 := hb3.c 1
    have f1 := hb3.f 1
    simp at y1
    simp only [Ky.cs] at hap
    clear HPN HBX hb3 hchg
    refine wp_region_noPanic ?_
    go_region_law (first
      | (refine K.step_append_run rfl (.tmp 25) (.tmp 28) 43 43 rfl _ _ (by first | rfl | simp [Act.eval, Act.put]) (by first | rfl | simp [Act.eval, Act.put]) (hap _) ?_))
    all_goals refine NoPanic.normal ?_
    all_goals go_wp2_with fail
    all_goals refine bodyPost_ret (results_none rfl _ _ _) rfl ?_
    all_goals exact ⟨⟨_, rfl⟩, HCH.out⟩
  · rw [List.concat_eq_append] at e
    subst e
    have hlz := hlk z (by simp)
    have hl2 : zl.length + 1 ≤ 1000000000 := by simpa using hl
    have hlen : (zl ++ [z]).length = zl.length + 1 := by simp
    have HZ : Hid (∀ W, Below w.heap.size w W → ∃ g off, ao = some ⟨g, off, none⟩ ∧ W.cell? ⟨g, off + zl.length, none⟩ = some z.dv ∧ Ks W z.dv z.ks) := fun W hW => by
      obtain ⟨ao', cap', e, h1, h2, h4⟩ := (h.below hW).ps
      simp only [Value.slice.injEq] at e
      obtain ⟨rfl, -, rfl⟩ := e
      obtain ⟨g, off, e2, hc⟩ := h4 (by omega)
      have hj := hc zl.length (by omega)
      rw [List.getElem_append_right (Nat.le_refl _)] at hj
      simp only [Nat.sub_self, List.getElem_cons_zero] at hj
      exact ⟨g, off, e2, hj.1, hj.2⟩
    obtain ⟨g, cap', e, -⟩ : ∃ g cap', (Value.slice ao (zl ++ [z]).length cap) = .slice (some ⟨g, 0, none⟩) (zl ++ [z]).length cap' ∧ True := by
      rcases h.shape with ⟨e, h0⟩ | ⟨g, cap', e, _⟩
      · rw [hlen] at h0; omega
      · exact ⟨g, cap', e, trivial⟩
    simp only [Value.slice.injEq, true_and] at e
    obtain ⟨rfl, rfl⟩ := e
    have HPO : Hid (∀ W1, Below w.heap.size w W1 → _) := fun W1 hW => push_old hB h hne hlz k hW
    rw [hlen] at HPN HBX HPO ⊢
    obtain ⟨zv, zk⟩ := z
    simp only at HZ HPO hlz
    obtain ⟨g', off', e, -, kz⟩ := HZ.out w (Below.refl _ _)
    simp only [Option.some.injEq, Addr.mk.injEq, and_true] at e
    obtain ⟨rfl, rfl⟩ := e
    obtain ⟨ao2, cap2, rfl, -⟩ := kz
    clear h hne hB hl hlk
    have c1 := (HBX.out _ HB1.out).c 1
    simp only [List.getElem?_toArray, List.getElem?_cons_succ, List.getElem?_cons_zero] at c1
    obtain ⟨_, _, e, cz, -⟩ := HZ.out _ HB1.out
    simp only [Option.some.injEq, Addr.mk.injEq, and_true] at e
    obtain ⟨rfl, rfl⟩ := e
    rw [Nat.zero_add] at cz
    generalize zl.length = n at *
    have hnI : ((n : Int) + 1) - 1 = (n : Int) := by omega
    by_cases hfull : zk.length = 256
    · have g1 : ((zk.length : Int) == 256) = true := by simp [hfull]
      go_enter Try.func35, Try.ntmps35
      go_wp2_with fail
      generalize w.alloc (.cells #[.int .i64 k.a, .int .i64 k.b, .int .i64 k.c, .int .i64 k.d] 47) = W at *
      have c1a : ∀ o, (W.alloc o).cell? ⟨p, 1, none⟩ = some _ := fun o => cell_below' c1 (below_box _ o)
      have c1b : ∀ o o', ((W.alloc o).alloc o').cell? ⟨p, 1, none⟩ = some _ := fun o o' => cell_below' c1 (below_box2 _ o o')
      have x0 := Bx.c HK1.out 0
      have x1 := Bx.c HK1.out 1
      have x2 := Bx.c HK1.out 2
      have x3 := Bx.c HK1.out 3
      simp at x0 x1 x2 x3
      obtain ⟨v', W3, hap, ⟨ao', N', cap', rfl⟩, hb3, hchg⟩ := HPN.out W.drew HB1.out.drew
      have HCH := hide hchg
      have y1 := hb3.c 1
      have f1 := hb3.f 1
      simp at y1
      simp only [Ky.cs] at hap
      clear HPN HBX hb3 hchg
      refine wp_region_noPanic ?_
      go_region_law (first
        | (refine K.step_append_run rfl (.tmp 25) (.tmp 28) 43 43 rfl _ _ (by first | rfl | simp [Act.eval, Act.put]) (by first | rfl | simp [Act.eval, Act.put]) (hap _) ?_))
      all_goals refine NoPanic.normal ?_
      all_goals go_wp2_with fail
      all_goals refine bodyPost_ret (results_none rfl _ _ _) rfl ?_
      all_goals exact ⟨⟨_, rfl⟩, HCH.out⟩
    · have g1 : ((zk.length : Int) == 256) = false := by rw [beq_eq_false_iff_ne]; omega
      go_enter Try.func35, Try.ntmps35
      go_wp2_with fail
      generalize w.alloc (.cells #[.int .i64 k.a, .int .i64 k.b, .int .i64 k.c, .int .i64 k.d] 47) = W at *
      have c1a : ∀ o, (W.alloc o).cell? ⟨p, 1, none⟩ = some _ := fun o => cell_below' c1 (below_box _ o)
      have c1b : ∀ o o', ((W.alloc o).alloc o').cell? ⟨p, 1, none⟩ = some _ := fun o o' => cell_below' c1 (below_box2 _ o o')
      have cza : ∀ o, (W.alloc o).cell? ⟨g, n, none⟩ = some _ := fun o => cell_below' cz (below_box _ o)
      have x0 := Bx.c HK1.out 0
      have x1 := Bx.c HK1.out 1
      have x2 := Bx.c HK1.out 2
      have x3 := Bx.c HK1.out 3
      simp at x0 x1 x2 x3
      obtain ⟨d, W3, hap, ⟨ao', N', cap', rfl⟩, hb3, hc3, hfz3, hchg⟩ := HPO.out W.drew HB1.out.drew
      have HCH := hide hchg
      have y1 := hb3.c 1
      simp at y1
      simp only [Ky.cs] at hap
      clear HPN HBX hb3 hchg HPO
      refine wp_region_noPanic ?_
      go_region_law (first
        | (refine K.step_append_run rfl (.tmp 40) (.tmp 42) 65 65 rfl _ _ (by first | rfl | simp [Act.eval, Act.put]) (by first | rfl | simp [Act.eval, Act.put]) (hap _) ?_))
      all_goals refine NoPanic.normal ?_
      all_goals go_wp2_with fail
      all_goals go_end0
      all_goals exact ⟨⟨_, rfl⟩, HCH.out⟩
end Go.Proofs.Ytfjcadkihnecdaa
namespace Go.Proofs.Ytfjcadkihnecdaa
open Go.RowKit

theorem cellsK_take (a b : List Ky) : (cellsK (a ++ b)).take (a.length * 4) = cellsK a := by rw [cellsK_append, ← cellsK_len a, List.take_left]
theorem cellsK_drop (a b : List Ky) : (cellsK (a ++ b)).drop (a.length * 4) = cellsK b := by rw [cellsK_append, ← cellsK_len a, List.drop_left]
theorem cellsK_drop1 (a : List Ky) (z : Ky) (b : List Ky) : (cellsK (a ++ z :: b)).drop ((a.length + 1) * 4) = cellsK b := by
  rw [show a ++ z :: b = (a ++ [z]) ++ b by simp, show a.length + 1 = (a ++ [z]).length by simp, cellsK_drop]

/-- slices.Insert of a key into a page, in any world behind. -/
theorem insK {w W : World} {v : Value} {zs : List Pg} (h : Pgs w v zs) {z : Pg} (hz : z ∈ zs) {C D : List Ky} (hks : z.ks = C ++ D) (hl : z.ks.length ≤ 1000000000) (k : Ky) (hb : Below w.heap.size w W) :
    Calls Try.prog 36 #[z.dv, .int .i64 (C.length : Int), .slice (some ⟨W.heap.size, 0, none⟩) 1 1] (W.alloc (.cells k.cs 47)) fun e w' => ∃ d, e = .returned d ∧ (∃ ao cap, d = .slice ao (z.ks.length + 1) cap) ∧ w'.ownsRow 0 47 4 d (C ++ k :: D).length (cellsK (C ++ k :: D)) ∧ w.grownBy w' z.dv.ownBlock ∧ (d.ownBlock = z.dv.ownBlock ∨ (∃ j, d.ownBlock = some j ∧ w.heap.size ≤ j)) ∧ (W.alloc (.cells k.cs 47)).grownBy w' z.dv.ownBlock := by
  have hs1 := hb.size
  have hb2 : Below w.heap.size w (W.alloc (.cells k.cs 47)) := hb.trans ((below_box W _).mono hb.size)
  have hk2 := Bx.new W k.cs 47
  have hsz2 : (W.alloc (.cells k.cs 47)).heap.size = W.heap.size + 1 := by simp
  generalize W.alloc (.cells k.cs 47) = W2 at *
  have hd := (h.below hb2).data z hz
  have hne : z.dv.ownBlock ≠ some W.heap.size := fun e => by
    have := h.lt (.inr ⟨z, hz, e⟩)
    omega
  refine (K.insert_any z.dv z.ks.length C.length W.heap.size (cellsK z.ks) (.int .i64 k.a) (.int .i64 k.b) (.int .i64 k.c) (.int .i64 k.d) W2 hd (by rw [hks]; simp) hl hk2 hne rfl rfl rfl rfl (cellsK_one _)).mono ?_
  rintro e w' ⟨d, rfl, hO, hg, hat⟩
  have e1 : (cellsK z.ks).take (C.length * 4) ++ [.int .i64 k.a, .int .i64 k.b, .int .i64 k.c, .int .i64 k.d] ++ (cellsK z.ks).drop (C.length * 4) = cellsK (C ++ k :: D) := by
    rw [hks, cellsK_take, cellsK_drop, cellsK_append, cellsK_cons]
    simp
  rw [e1] at hO
  have hll : z.ks.length + 1 = (C ++ k :: D).length := by rw [hks]; simp; omega
  refine ⟨d, rfl, ?_, by rw [← hll]; exact hO, (show w.grownBy W2 z.dv.ownBlock from ⟨hb2.os, hb2.tape, hb2.output, hb2.size, fun j hj _ => hb2.block j hj⟩).trans hg, ?_⟩
  · rcases own_shape hO with ⟨e, h0⟩ | ⟨g, cap, e, _⟩
    · omega
    · exact ⟨_, _, e⟩
  · refine ⟨?_, hg⟩
    rcases hat with hat | hat
    · exact .inl hat
    · exact .inr ⟨_, hat, hb2.size⟩
/-- slices.Delete of a key of a page, in any world behind. -/
theorem delK {w W : World} {v : Value} {zs : List Pg} (h : Pgs w v zs) {z : Pg} (hz : z ∈ zs) {C D : List Ky} {x : Ky} (hks : z.ks = C ++ x :: D) (hl : z.ks.length ≤ 1000000000) (hb : Below w.heap.size w W) :
    Calls Try.prog 38 #[z.dv, .int .i64 (C.length : Int), .int .i64 ((C.length : Int) + 1)] W fun e w' => ∃ d, e = .returned d ∧ (∃ ao cap, d = .slice ao (C ++ D).length cap) ∧ w'.ownsRow 0 47 4 d (C ++ D).length (cellsK (C ++ D)) ∧ w.grownBy w' z.dv.ownBlock ∧ d.ownBlock = z.dv.ownBlock ∧ W.grownBy w' z.dv.ownBlock := by
  have hd := (h.below hb).data z hz
  refine (K.delete_any z.dv z.ks.length C.length (cellsK z.ks) W hd (by rw [hks]; simp) hl (cellsK_one _)).mono ?_
  rintro e w' ⟨d, rfl, hO, hg, hat⟩
  have e1 : (cellsK z.ks).take (C.length * 4) ++ (cellsK z.ks).drop ((C.length + 1) * 4) = cellsK (C ++ D) := by
    rw [hks, cellsK_take, cellsK_drop1, cellsK_append]
  have hll : z.ks.length - 1 = (C ++ D).length := by rw [hks]; simp
  rw [e1, hll] at hO
  refine ⟨d, rfl, ?_, hO, (show w.grownBy W z.dv.ownBlock from ⟨hb.os, hb.tape, hb.output, hb.size, fun j hj _ => hb.block j hj⟩).trans hg, hat, hg⟩
  rcases own_shape hO with ⟨e, h0⟩ | ⟨g, cap, e, _⟩
  · exact ⟨none, 0, by rw [h0]; exact e⟩
  · exact ⟨_, _, e⟩

theorem cell_grown {W w' : World} {row : Option Nat} (h : W.grownBy w' row) {a : Addr} {x : Value} (hc : W.cell? a = some x) (hne : row ≠ some a.block) : w'.cell? a = some x :=
  (World.cell?_of_block (h.block a.block (World.block_lt_of_cell? W a hc) (fun e => hne e.symm))).trans hc
set_option maxHeartbeats 3200000 in
theorem ins_end {w : World} {p wd : Nat} {v : Value} {zs : List Pg} (hB : Bx w p 45 #[.int .i64 (wd : Int), v]) (h : Pgs w v zs) (hne : ∀ x ∈ zs, x.ks ≠ []) (hl : zs.length ≤ 1000000000) (hlk : ∀ x ∈ zs, x.ks.length ≤ 1000000000) (k : Ky) (a : Nat) :
    Calls Try.prog 21 #[.pointer (some ⟨p, 1, none⟩), .agg #[.int .i64 (zs.length : Int), .int .i64 (a : Int)], .agg #[.int .i64 k.a, .int .i64 k.b, .int .i64 k.c, .int .i64 k.d]] w fun e w' => (∃ u, e = .returned u) ∧ Chg w w' p wd v zs (keys zs ++ [k]) := by
  have HB1 := hide (below_box2 w (.cells #[.int .i64 (zs.length : Int), .int .i64 (a : Int)] 50) (.cells k.cs 47))
  have HP1 := hide ((Bx.new w #[.int .i64 (zs.length : Int), .int .i64 (a : Int)] 50).below (below_box _ (.cells k.cs 47)))
  have HK1 := hide (Bx.new (w.alloc (.cells #[.int .i64 (zs.length : Int), .int .i64 (a : Int)] 50)) k.cs 47)
  rw [World.size_alloc] at HK1
  have HPU : Hid (∀ W, Below w.heap.size w W → Calls Try.prog 35 #[.pointer (some ⟨p, 1, none⟩), .agg #[.int .i64 k.a, .int .i64 k.b, .int .i64 k.c, .int .i64 k.d]] W fun e w' => (∃ u, e = .returned u) ∧ Chg w w' p wd v zs (keys zs ++ [k])) := fun W hW =>
    (push_any (hB.below hW) (h.below hW) hne hl hlk k).mono fun e w' ⟨he, hc⟩ => ⟨he, hc.from hW⟩
  have HBX : Hid (∀ W1, Below w.heap.size w W1 → Bx W1 p 45 #[.int .i64 (wd : Int), v]) := fun W1 hW => hB.below hW
  simp only [Ky.cs] at HB1 HK1 HP1
  obtain ⟨ao, N, cap, rfl⟩ := own_slice h.row
  have hN : N = zs.length := by
    rcases h.shape with ⟨e, h0⟩ | ⟨_, _, e, _⟩
    · simp only [Value.slice.injEq] at e; omega
    · simp only [Value.slice.injEq] at e; exact e.2.1
  subst hN
  clear h hne hB hlk
  have c1 := (HBX.out _ HB1.out).c 1
  simp only [List.getElem?_toArray, List.getElem?_cons_succ, List.getElem?_cons_zero] at c1
  go_enter Try.func21, Try.ntmps21
  go_wp2_with fail
  generalize (w.alloc (.cells #[.int .i64 (zs.length : Int), .int .i64 (a : Int)] 50)).alloc (.cells #[.int .i64 k.a, .int .i64 k.b, .int .i64 k.c, .int .i64 k.d] 47) = W at *
  have p0 := HP1.out.c 0
  have x0 := Bx.c HK1.out 0
  have x1 := Bx.c HK1.out 1
  have x2 := Bx.c HK1.out 2
  have x3 := Bx.c HK1.out 3
  simp at p0 x0 x1 x2 x3
  go_big_quiet (fail)
  have HBz := hide (HB1.out.trans ((below_drewN W nq).mono HB1.out.size))
  go_wp2_with fail
  refine Calls.mono (HPU.out _ HBz.out) ?_
  rintro e w6 ⟨⟨u, rfl⟩, hch⟩
  have HCH := hide hch
  clear hch
  go_wp2_with fail
  refine bodyPost_ret (results_none rfl _ _ _) rfl ?_
  exact ⟨⟨_, rfl⟩, HCH.out⟩
end Go.Proofs.Ytfjcadkihnecdaa
namespace Go.Proofs.Ytfjcadkihnecdaa
open Go.RowKit

/-- A page's place in its row, in any world behind. -/
theorem Pgs.at_cell {w W : World} {v : Value} {A : List Pg} {z : Pg} {T : List Pg} (h : Pgs w v (A ++ z :: T)) (hW : Below w.heap.size w W) : ∃ g cap, v = .slice (some ⟨g, 0, none⟩) (A.length + (T.length + 1)) cap ∧ W.cell? ⟨g, A.length, none⟩ = some z.dv := by
  have hlen : (A ++ z :: T).length = A.length + (T.length + 1) := by simp
  rcases h.shape with ⟨e, h0⟩ | ⟨g, cap, e, _⟩
  · omega
  · refine ⟨g, cap, by rw [e, hlen], ?_⟩
    have hr := (h.below hW).row
    rw [e] at hr
    rw [hr.cellAt A.length (by omega)]
    simp [dvs]

/-- What insert reads. -/
abbrev S8 (w' w : World) (p g n N cap : Nat) (ao2 : Option Addr) (L2 cap2 c : Nat) (k : Ky) : Prop :=
  w'.cell? ⟨p, 1, none⟩ = some (.slice (some ⟨g, 0, none⟩) N cap) ∧ w'.cell? ⟨g, n, none⟩ = some (.slice ao2 L2 cap2) ∧ w'.cell? ⟨w.heap.size, 0, none⟩ = some (.int .i64 (n : Int)) ∧ w'.cell? ⟨w.heap.size, 1, none⟩ = some (.int .i64 (c : Int)) ∧ w'.cell? ⟨w.heap.size + 1, 0, none⟩ = some (.int .i64 k.a) ∧ w'.cell? ⟨w.heap.size + 1, 1, none⟩ = some (.int .i64 k.b) ∧ w'.cell? ⟨w.heap.size + 1, 2, none⟩ = some (.int .i64 k.c) ∧ w'.cell? ⟨w.heap.size + 1, 3, none⟩ = some (.int .i64 k.d)

theorem cell_set_ne {w : World} {a b : Addr} {x y : Value} (h : w.cell? a = some x) (hne : a.block ≠ b.block) : (w.setCell b y).cell? a = some x :=
  (World.cell?_of_block (Below.heap_setCell _ _ _ _ hne)).trans h
theorem S8.grown {W w6 w : World} {p g n N cap : Nat} {ao2 : Option Addr} {L2 cap2 c : Nat} {k : Ky} {row : Option Nat} (h : S8 W w p g n N cap ao2 L2 cap2 c k) (hg : W.grownBy w6 row) (hr : ∀ j, row = some j → j < w.heap.size ∧ j ≠ p ∧ j ≠ g) : S8 w6 w p g n N cap ao2 L2 cap2 c k := by
  obtain ⟨a1, a2, a3, a4, a5, a6, a7, a8⟩ := h
  have n1 : row ≠ some p := fun e => (hr _ e).2.1 rfl
  have n2 : row ≠ some g := fun e => (hr _ e).2.2 rfl
  have n3 : row ≠ some w.heap.size := fun e => by have := (hr _ e).1; omega
  have n4 : row ≠ some (w.heap.size + 1) := fun e => by have := (hr _ e).1; omega
  exact ⟨cell_grown hg a1 n1, cell_grown hg a2 n2, cell_grown hg a3 n3, cell_grown hg a4 n3, cell_grown hg a5 n4, cell_grown hg a6 n4, cell_grown hg a7 n4, cell_grown hg a8 n4⟩

/-- What split must do. -/
def Spl : Prop := ∀ (W : World) (p wd : Nat) (v : Value) (A : List Pg) (z : Pg) (T : List Pg), Bx W p 45 #[.int .i64 (wd : Int), v] → Pgs W v (A ++ z :: T) → (∀ x ∈ A ++ z :: T, x.ks ≠ []) → (A ++ z :: T).length ≤ 1000000000 → 2 ≤ z.ks.length → z.ks.length ≤ 1000000000 →
  Calls Try.prog 37 #[.pointer (some ⟨p, 1, none⟩), .int .i64 (A.length : Int)] W fun e w' => (∃ u, e = .returned u) ∧ Chg W w' p wd v (A ++ z :: T) (keys (A ++ z :: T))
theorem Chg.trans {w W1 W2 : World} {p wd : Nat} {v v1 : Value} {zs zs1 : List Pg} {L : List Ky} (hf : Fr (ft p v zs) w W1) (h1 : ∀ k, foot v1 zs1 k → foot v zs k ∨ w.heap.size ≤ k) (h : Chg W1 W2 p wd v1 zs1 L) : Chg w W2 p wd v zs L := by
  obtain ⟨v', zs', a1, a2, a3, a4, a5, a6⟩ := h
  refine ⟨v', zs', a1, a2, a3, a4, hf.trans a5 (fun x hx hG => ?_), fun k hk => ?_⟩
  · rcases hG with rfl | hG
    · exact .inl rfl
    · rcases h1 x hG with h | h
      · exact .inr h
      · omega
  · rcases a6 k hk with h | h
    · exact h1 k h
    · exact .inr (Nat.le_trans hf.size h)

set_option maxHeartbeats 3200000 in
theorem ins_mid {w : World} {p wd : Nat} {v : Value} {A : List Pg} {z : Pg} {T : List Pg} (hB : Bx w p 45 #[.int .i64 (wd : Int), v]) (h : Pgs w v (A ++ z :: T)) (hne : ∀ x ∈ A ++ z :: T, x.ks ≠ []) (hl : (A ++ z :: T).length ≤ 1000000000) {C D : List Ky} (hks : z.ks = C ++ D) (hkl : z.ks.length < 1000000000) (hroom : z.ks.length + 1 ≤ 256 ∨ Spl) (k : Ky) :
    Calls Try.prog 21 #[.pointer (some ⟨p, 1, none⟩), .agg #[.int .i64 (A.length : Int), .int .i64 (C.length : Int)], .agg #[.int .i64 k.a, .int .i64 k.b, .int .i64 k.c, .int .i64 k.d]] w fun e w' => (∃ u, e = .returned u) ∧ Chg w w' p wd v (A ++ z :: T) (keys A ++ (C ++ k :: D) ++ keys T) := by
  have HB1 := hide (below_box2 w (.cells #[.int .i64 (A.length : Int), .int .i64 (C.length : Int)] 50) (.cells k.cs 47))
  have HP1 := hide ((Bx.new w #[.int .i64 (A.length : Int), .int .i64 (C.length : Int)] 50).below (below_box _ (.cells k.cs 47)))
  have HK1 := hide (Bx.new (w.alloc (.cells #[.int .i64 (A.length : Int), .int .i64 (C.length : Int)] 50)) k.cs 47)
  rw [World.size_alloc] at HK1
  have HINS : Hid (∀ W, Below w.heap.size w W → _) := fun W hW => insK h (z := z) (by simp) hks (by omega) k hW
  have HBX : Hid (∀ W1, Below w.heap.size w W1 → W1.cell? ⟨p, 1, none⟩ = some v) := fun W1 hW => (hB.below hW).c 1
  have HAC : Hid (∀ W, Below w.heap.size w W → _) := fun W hW => h.at_cell hW
  obtain ⟨g, cap, rfl, -⟩ := HAC.out w (Below.refl _ _)
  have HCZ : Hid (∀ W, Below w.heap.size w W → W.cell? ⟨g, A.length, none⟩ = some z.dv) := fun W hW => by
    obtain ⟨g', cap', e, hc⟩ := HAC.out W hW
    simp only [Value.slice.injEq, Option.some.injEq, Addr.mk.injEq, and_true] at e
    rw [e.1]
    exact hc
  have HPUT : Hid (∀ (w2 : World) (d : Value), w2.ownsRow 0 47 4 d (C ++ k :: D).length (cellsK (C ++ k :: D)) → w.grownBy w2 z.dv.ownBlock → (d.ownBlock = z.dv.ownBlock ∨ (∃ j, d.ownBlock = some j ∧ w.heap.size ≤ j)) →
      Chg w (w2.setCell ⟨g, A.length, none⟩ d) p wd (.slice (some ⟨g, 0, none⟩) (A.length + (T.length + 1)) cap) (A ++ z :: T) (keys A ++ (C ++ k :: D) ++ keys T) ∧ w2.cell? ⟨g, A.length, none⟩ = some z.dv ∧ w2.frozen? ⟨g, A.length, none⟩ = false ∧ w2.cell? ⟨p, 1, none⟩ = some (.slice (some ⟨g, 0, none⟩) (A.length + (T.length + 1)) cap) ∧
      Hid (∀ W, Below (w2.setCell ⟨g, A.length, none⟩ d).heap.size (w2.setCell ⟨g, A.length, none⟩ d) W → Spl → Calls Try.prog 37 #[.pointer (some ⟨p, 1, none⟩), .int .i64 (A.length : Int)] W fun e w' => (∃ u, e = .returned u) ∧ Chg w w' p wd (.slice (some ⟨g, 0, none⟩) (A.length + (T.length + 1)) cap) (A ++ z :: T) (keys A ++ (C ++ k :: D) ++ keys T))) := fun w2 d hd hg hb => by
    obtain ⟨h1, h2, h3, h4⟩ := h.put d (C ++ k :: D) hd hg hb
    have hll : z.ks.length + 1 = (C ++ k :: D).length := by rw [hks]; simp; omega
    have hzpos := List.length_pos_iff.2 (hne z (by simp))
    have hSPL : ∀ W, Below (w2.setCell ⟨g, A.length, none⟩ d).heap.size (w2.setCell ⟨g, A.length, none⟩ d) W → Spl → Calls Try.prog 37 #[.pointer (some ⟨p, 1, none⟩), .int .i64 (A.length : Int)] W fun e w' => (∃ u, e = .returned u) ∧ Chg w w' p wd (.slice (some ⟨g, 0, none⟩) (A.length + (T.length + 1)) cap) (A ++ z :: T) (keys A ++ (C ++ k :: D) ++ keys T) := fun W hW hsp => by
      refine (hsp W p wd _ A ⟨d, C ++ k :: D⟩ T ((hB.fr h2 (foot_ne h hB)).below hW) (h1.below hW) (fun x hx => ?_) (by simpa using hl) (by show 2 ≤ (C ++ k :: D).length; omega) (by show (C ++ k :: D).length ≤ _; omega)).mono ?_
      · rcases List.mem_append.1 hx with hx | hx
        · exact hne x (by simp [hx])
        · rcases List.mem_cons.1 hx with rfl | hx
          · simp
          · exact hne x (by simp [hx])
      · rintro e w' ⟨he, hc⟩
        refine ⟨he, ?_⟩
        have e2 : keys A ++ (C ++ k :: D) ++ keys T = keys (A ++ ⟨d, C ++ k :: D⟩ :: T) := by rw [keys_append, keys_cons, List.append_assoc]
        rw [e2]
        refine Chg.trans ((h2.mono (fun x _ hx => Or.inr hx)).trans (G := fun _ => False) (Fr.of_below hW) (fun _ _ h => h.elim)) (fun j hj => ?_) hc
        rcases hj with hj | ⟨x, hx, hj⟩
        · exact .inl (.inl hj)
        · rcases List.mem_append.1 hx with hx | hx
          · exact .inl (.inr ⟨x, by simp [hx], hj⟩)
          · rcases List.mem_cons.1 hx with rfl | hx
            · rcases hb with hb | ⟨k2, hk2, hge⟩
              · exact .inl (.inr ⟨z, by simp, by rw [← hb]; exact hj⟩)
              · simp only at hj
                rw [hj] at hk2
                cases hk2
                exact .inr hge
            · exact .inl (.inr ⟨x, by simp [hx], hj⟩)
    exact ⟨Chg.put hB h hne d (C ++ k :: D) (by simp) hd hg hb, h3, h4, (hB.fr (Fr.of_grown (F := foot (.slice (some ⟨g, 0, none⟩) (A.length + (T.length + 1)) cap) (A ++ z :: T)) hg (fun j e => .inr ⟨z, by simp, e⟩)) (foot_ne h hB)).c 1, hSPL⟩
  have HPL : Hid (∀ w2 : World, w.grownBy w2 z.dv.ownBlock → True) := fun _ _ => trivial
  obtain ⟨ao2, L2, cap2, hzv⟩ := own_slice (h.data z (by simp))
  have hzl : ∀ j, z.dv.ownBlock = some j → j < w.heap.size := fun j hj => h.lt (.inr ⟨z, by simp, hj⟩)
  simp only [Ky.cs] at HB1 HK1 HP1 HINS
  have hl2 : A.length + (T.length + 1) ≤ 1000000000 := by simpa using hl
  have HGP : Hid (g ≠ p ∧ g < w.heap.size) := ⟨fun e => own_type_ne h.row hB (by decide) (by rw [← e]; rfl), h.lt (.inl rfl)⟩
  have HZL : Hid (∀ j, z.dv.ownBlock = some j → j < w.heap.size ∧ j ≠ p ∧ j ≠ g) := fun j hj => ⟨hzl j hj, fun e => own_type_ne (h.data z (by simp)) hB (by decide) (by rw [← e]; exact hj), fun e => own_ne h.row (h.data z (by simp)) (by decide) rfl (by rw [← e]; exact hj)⟩
  have HKS : Hid (z.ks.length = (C ++ D).length) := by rw [hks]; exact rfl
  obtain ⟨zv, zk⟩ := z
  simp only at hzv
  subst hzv
  simp only at HINS HCZ HPUT HZL hroom
  clear h hne hB hl hks HAC hzl HPL
  have c1 := HBX.out _ HB1.out
  have cz := HCZ.out _ HB1.out
  generalize hkA : keys A ++ (C ++ k :: D) ++ keys T = L at *
  generalize C.length = c at *
  generalize A.length = n at *
  obtain ⟨N, hN⟩ : ∃ N, n + (T.length + 1) = N := ⟨_, rfl⟩
  rw [hN] at HBX HPUT c1 hl2 ⊢
  have hnN : n < N := by omega
  have hnNI : (n : Int) < (N : Int) := by omega
  clear hN
  generalize zk.length = m at *
  have hneI : ¬ ((n : Int) = (N : Int)) := by omega
  go_enter Try.func21, Try.ntmps21
  go_wp2_with fail
  generalize (w.alloc (.cells #[.int .i64 (n : Int), .int .i64 (c : Int)] 50)).alloc (.cells #[.int .i64 k.a, .int .i64 k.b, .int .i64 k.c, .int .i64 k.d] 47) = W at *
  have p0 := HP1.out.c 0
  have p1 := HP1.out.c 1
  have x0 := Bx.c HK1.out 0
  have x1 := Bx.c HK1.out 1
  have x2 := Bx.c HK1.out 2
  have x3 := Bx.c HK1.out 3
  simp at p0 p1 x0 x1 x2 x3
  go_big_quiet (fail)
  have HBz := hide (HB1.out.trans ((below_drewN W nq).mono HB1.out.size))
  have HPz : Hid (Bx (W.drewN nq) w.heap.size 50 #[.int .i64 (n : Int), .int .i64 (c : Int)]) := HP1.out
  have c1 : (W.drewN nq).cell? ⟨p, 1, none⟩ = some (.slice (some ⟨g, 0, none⟩) N cap) := c1
  have cz : (W.drewN nq).cell? ⟨g, n, none⟩ = some (.slice ao2 L2 cap2) := cz
  have p0 : (W.drewN nq).cell? ⟨w.heap.size, 0, none⟩ = some (.int .i64 (n : Int)) := p0
  have p1 : (W.drewN nq).cell? ⟨w.heap.size, 1, none⟩ = some (.int .i64 (c : Int)) := p1
  have x0 : (W.drewN nq).cell? ⟨w.heap.size + 1, 0, none⟩ = some (.int .i64 k.a) := x0
  have x1 : (W.drewN nq).cell? ⟨w.heap.size + 1, 1, none⟩ = some (.int .i64 k.b) := x1
  have x2 : (W.drewN nq).cell? ⟨w.heap.size + 1, 2, none⟩ = some (.int .i64 k.c) := x2
  have x3 : (W.drewN nq).cell? ⟨w.heap.size + 1, 3, none⟩ = some (.int .i64 k.d) := x3
  have hsz : w.heap.size + 2 ≤ (W.drewN nq).heap.size := by
    have := HK1.out.lt
    show w.heap.size + 2 ≤ W.heap.size
    omega
  generalize W.drewN nq = W1 at *
  clear HB1 HP1 HK1
  go_wp2_with fail
  have HIW := hide (HINS.out W1.drew HBz.out.drew)
  have HSC : ∀ o, S8 (W1.alloc o) w p g n N cap ao2 L2 cap2 c k := fun o => ⟨cell_below' c1 (below_box _ o), cell_below' cz (below_box _ o), cell_below' p0 (below_box _ o), cell_below' p1 (below_box _ o), cell_below' x0 (below_box _ o), cell_below' x1 (below_box _ o), cell_below' x2 (below_box _ o), cell_below' x3 (below_box _ o)⟩
  have HSA : Hid (∀ o, S8 (W1.drew.alloc o) w p g n N cap ao2 L2 cap2 c k) := HSC
  have HSB : Hid (∀ o, S8 (W1.alloc o).drew w p g n N cap ao2 L2 cap2 c k) := HSC
  have HS0 : Hid (S8 W1.drew w p g n N cap ao2 L2 cap2 c k) := ⟨c1, cz, p0, p1, x0, x1, x2, x3⟩
  clear c1 cz p0 p1 x0 x1 x2 x3 HSC
  refine wp_region_noPanic ?_
  go_region_held (fun w' => w'.cell? ⟨p, 1, none⟩ = some (.slice (some ⟨g, 0, none⟩) N cap) ∧ w'.cell? ⟨g, n, none⟩ = some (.slice ao2 L2 cap2) ∧ w'.cell? ⟨w.heap.size, 0, none⟩ = some (.int .i64 (n : Int)) ∧ w'.cell? ⟨w.heap.size, 1, none⟩ = some (.int .i64 (c : Int)) ∧ w'.cell? ⟨w.heap.size + 1, 0, none⟩ = some (.int .i64 k.a) ∧ w'.cell? ⟨w.heap.size + 1, 1, none⟩ = some (.int .i64 k.b) ∧ w'.cell? ⟨w.heap.size + 1, 2, none⟩ = some (.int .i64 k.c) ∧ w'.cell? ⟨w.heap.size + 1, 3, none⟩ = some (.int .i64 k.d)) (first | with_reducible exact HS0.out | with_reducible exact HSA.out _ | with_reducible exact HSB.out _ | with_reducible exact m6.out)
    (first | (go_at_call 36; (refine Calls.mono HIW.out ?_); rintro e w6 ⟨d, rfl, ⟨ao6, cap6, rfl⟩, hO, hg, hbb, hg2⟩; have m6 : Hid (S8 w6 w p g n N cap ao2 L2 cap2 c k) := S8.grown (HSA.out _) hg2 HZL.out; have HO6 := hide hO; have HG6 := hide hg; have HB6 := hide hbb; clear hO hg hbb hg2))
  refine NoPanic.normal ?_
  obtain ⟨hch, q1, q2, q3, HSP⟩ := HPUT.out w6 _ HO6.out HG6.out HB6.out
  have HCH := hide hch
  obtain ⟨_, _, q4, _⟩ := m6.out
  have HGN := hide HGP.out
  have m7 : Hid (w6.drew.cell? ⟨p, 1, none⟩ = some (.slice (some ⟨g, 0, none⟩) N cap) ∧ w6.drew.cell? ⟨w.heap.size, 0, none⟩ = some (.int .i64 (n : Int))) := ⟨q3, q4⟩
  have m8 : Hid ((w6.setCell ⟨g, n, none⟩ (.slice ao6 (m + 1) cap6)).drew.cell? ⟨p, 1, none⟩ = some (.slice (some ⟨g, 0, none⟩) N cap) ∧ (w6.setCell ⟨g, n, none⟩ (.slice ao6 (m + 1) cap6)).drew.cell? ⟨w.heap.size, 0, none⟩ = some (.int .i64 (n : Int))) := ⟨cell_set_ne q3 (fun e => HGN.out.1 e.symm), cell_set_ne q4 (by show w.heap.size ≠ g; have := HGN.out.2; omega)⟩
  clear hch HPUT HINS HCZ HBX q3 q4
  go_wp2_with fail
  refine wp_region_noPanic ?_
  go_region_held (fun w' => w'.cell? ⟨p, 1, none⟩ = some (.slice (some ⟨g, 0, none⟩) N cap) ∧ w'.cell? ⟨w.heap.size, 0, none⟩ = some (.int .i64 (n : Int))) (first | with_reducible exact m7.out | with_reducible exact m8.out) (fail)
  refine NoPanic.normal ?_
  have HWZ : Hid (Below (w6.setCell ⟨g, n, none⟩ (.slice ao6 (m + 1) cap6)).heap.size (w6.setCell ⟨g, n, none⟩ (.slice ao6 (m + 1) cap6)) (w6.setCell ⟨g, n, none⟩ (.slice ao6 (m + 1) cap6)).drew) := (Below.refl _ _).drew
  have HCZ := hide (HCH.out.below HWZ.out)
  have r0 := m8.out.2
  by_cases hm : m + 1 ≤ 256
  · have g1 : ¬ (256 < (m : Int) + 1) := by omega
    go_wp2_with fail
    go_end0
    exact ⟨⟨_, rfl⟩, HCZ.out⟩
  · have g1 : 256 < (m : Int) + 1 := by omega
    have HSW := hide (HSP.out _ HWZ.out (hroom.resolve_left hm))
    go_wp2_with fail
    refine Calls.mono HSW.out ?_
    rintro e w9 ⟨⟨u, rfl⟩, hc9⟩
    have HC9 := hide hc9
    clear hc9
    go_wp2_with fail
    go_end0
    exact ⟨⟨_, rfl⟩, HC9.out⟩
end Go.Proofs.Ytfjcadkihnecdaa
namespace Go.Proofs.Ytfjcadkihnecdaa
open Go.RowKit

/-- What remove reads. -/
abbrev S4 (w' w : World) (p g n N cap : Nat) (ao2 : Option Addr) (L2 cap2 c : Nat) : Prop :=
  w'.cell? ⟨p, 1, none⟩ = some (.slice (some ⟨g, 0, none⟩) N cap) ∧ w'.cell? ⟨g, n, none⟩ = some (.slice ao2 L2 cap2) ∧ w'.cell? ⟨w.heap.size, 0, none⟩ = some (.int .i64 (n : Int)) ∧ w'.cell? ⟨w.heap.size, 1, none⟩ = some (.int .i64 (c : Int))
theorem S4.grown {W w6 w : World} {p g n N cap : Nat} {ao2 : Option Addr} {L2 cap2 c : Nat} {row : Option Nat} (h : S4 W w p g n N cap ao2 L2 cap2 c) (hg : W.grownBy w6 row) (hr : ∀ j, row = some j → j < w.heap.size ∧ j ≠ p ∧ j ≠ g) : S4 w6 w p g n N cap ao2 L2 cap2 c := by
  obtain ⟨a1, a2, a3, a4⟩ := h
  have n1 : row ≠ some p := fun e => (hr _ e).2.1 rfl
  have n2 : row ≠ some g := fun e => (hr _ e).2.2 rfl
  have n3 : row ≠ some w.heap.size := fun e => by have := (hr _ e).1; omega
  exact ⟨cell_grown hg a1 n1, cell_grown hg a2 n2, cell_grown hg a3 n3, cell_grown hg a4 n3⟩

/-- An empty page goes. -/
theorem rem_page {w w2 W : World} {p wd g N cap : Nat} {A : List Pg} {z : Pg} {T : List Pg} (hB : Bx w p 45 #[.int .i64 (wd : Int), .slice (some ⟨g, 0, none⟩) N cap]) (h : Pgs w (.slice (some ⟨g, 0, none⟩) N cap) (A ++ z :: T)) (hne : ∀ x ∈ A ++ z :: T, x.ks ≠ []) (hl : (A ++ z :: T).length ≤ 1000000000) (d : Value)
    (hd : w2.ownsRow 0 47 4 d 0 (cellsK [])) (hg : w.grownBy w2 z.dv.ownBlock) (hb : d.ownBlock = z.dv.ownBlock) (hW : Below (w2.setCell ⟨g, A.length, none⟩ d).heap.size (w2.setCell ⟨g, A.length, none⟩ d) W) :
    Calls Try.prog 39 #[.slice (some ⟨g, 0, none⟩) N cap, .int .i64 (A.length : Int), .int .i64 ((A.length : Int) + 1)] W fun e w' => ∃ v', e = .returned v' ∧ (∃ ao L cap, v' = .slice ao L cap) ∧ Chg w (w'.setCell ⟨p, 1, none⟩ v') p wd (.slice (some ⟨g, 0, none⟩) N cap) (A ++ z :: T) (keys A ++ keys T) ∧ Bx w' p 45 #[.int .i64 (wd : Int), .slice (some ⟨g, 0, none⟩) N cap] ∧ W.grownBy w' (some g) := by
  obtain ⟨h1, h2, _, _⟩ := h.put d [] hd hg (.inl hb)
  have h1W := h1.below hW
  have hN : N = (A ++ (⟨d, []⟩ : Pg) :: T).length := by
    rcases h1.shape with ⟨e, _⟩ | ⟨_, _, e, _⟩
    · simp at e
    · simp only [Value.slice.injEq] at e; exact e.2.1
  have hrow := h1W.row
  rw [← hN] at hrow
  refine (P.delete_any _ N A.length (dvs (A ++ ⟨d, []⟩ :: T)) W hrow (by rw [hN]; simp) (by rw [hN]; simpa using hl) (fun u hu => ?_)).mono ?_
  · obtain ⟨x, hx, rfl⟩ := List.mem_map.1 hu
    exact own_one (h1W.data x hx)
  · rintro e w' ⟨v', rfl, hO, hgr, hat⟩
    have hO' := hO
    rw [hN] at hO
    have hdel := Pgs.deleted h1W hO hgr
    have hfW : Fr (foot (.slice (some ⟨g, 0, none⟩) N cap) (A ++ z :: T)) w w' :=
      (h2.trans (G := fun _ => False) (Fr.of_below hW) (fun _ _ h => h.elim)).trans (G := fun k => k = g) (Fr.of_grown hgr (fun k e => by cases e; rfl)) (fun x _ e => by rw [e]; exact .inl rfl)
    refine ⟨v', rfl, own_slice hO, Chg.store hB h hfW hdel (by rw [keys_append]) (fun x hx => ?_) (fun j hj => ?_), hB.fr hfW (foot_ne h hB), hgr⟩
    · rcases List.mem_append.1 hx with hx | hx <;> exact hne x (by simp [hx])
    · rcases hj with hj | ⟨x, hx, hj⟩
      · exact .inl (.inl (by rw [← hat]; exact hj))
      · rcases List.mem_append.1 hx with hx | hx <;> exact .inl (.inr ⟨x, by simp [hx], hj⟩)

set_option maxHeartbeats 3200000 in
theorem rem_any {w : World} {p wd : Nat} {v : Value} {A : List Pg} {z : Pg} {T : List Pg} (hB : Bx w p 45 #[.int .i64 (wd : Int), v]) (h : Pgs w v (A ++ z :: T)) (hne : ∀ x ∈ A ++ z :: T, x.ks ≠ []) (hl : (A ++ z :: T).length ≤ 1000000000) {C D : List Ky} {x : Ky} (hks : z.ks = C ++ x :: D) (hkl : z.ks.length ≤ 1000000000) :
    Calls Try.prog 22 #[.pointer (some ⟨p, 1, none⟩), .agg #[.int .i64 (A.length : Int), .int .i64 (C.length : Int)]] w fun e w' => (∃ u, e = .returned u) ∧ Chg w w' p wd v (A ++ z :: T) (keys A ++ (C ++ D) ++ keys T) := by
  have HB1 := hide (below_box w (.cells #[.int .i64 (A.length : Int), .int .i64 (C.length : Int)] 50))
  have HP1 := hide (Bx.new w #[.int .i64 (A.length : Int), .int .i64 (C.length : Int)] 50)
  have HDEL : Hid (∀ W, Below w.heap.size w W → _) := fun W hW => delK h (z := z) (by simp) hks hkl hW
  have HBX : Hid (∀ W1, Below w.heap.size w W1 → W1.cell? ⟨p, 1, none⟩ = some v) := fun W1 hW => (hB.below hW).c 1
  have HAC : Hid (∀ W, Below w.heap.size w W → _) := fun W hW => h.at_cell hW
  obtain ⟨g, cap, rfl, -⟩ := HAC.out w (Below.refl _ _)
  have HCZ : Hid (∀ W, Below w.heap.size w W → W.cell? ⟨g, A.length, none⟩ = some z.dv) := fun W hW => by
    obtain ⟨g', cap', e, hc⟩ := HAC.out W hW
    simp only [Value.slice.injEq, Option.some.injEq, Addr.mk.injEq, and_true] at e
    rw [e.1]
    exact hc
  have HPUT : Hid (∀ (w2 : World) (d : Value), w2.ownsRow 0 47 4 d (C ++ D).length (cellsK (C ++ D)) → w.grownBy w2 z.dv.ownBlock → d.ownBlock = z.dv.ownBlock →
      w2.cell? ⟨g, A.length, none⟩ = some z.dv ∧ w2.frozen? ⟨g, A.length, none⟩ = false ∧ w2.cell? ⟨p, 1, none⟩ = some (.slice (some ⟨g, 0, none⟩) (A.length + (T.length + 1)) cap) ∧
      Hid ((C ++ D).length ≠ 0 → Chg w (w2.setCell ⟨g, A.length, none⟩ d) p wd (.slice (some ⟨g, 0, none⟩) (A.length + (T.length + 1)) cap) (A ++ z :: T) (keys A ++ (C ++ D) ++ keys T)) ∧
      Hid ((C ++ D).length = 0 → ∀ W, Below (w2.setCell ⟨g, A.length, none⟩ d).heap.size (w2.setCell ⟨g, A.length, none⟩ d) W → Calls Try.prog 39 #[.slice (some ⟨g, 0, none⟩) (A.length + (T.length + 1)) cap, .int .i64 (A.length : Int), .int .i64 ((A.length : Int) + 1)] W fun e w' => ∃ v', e = .returned v' ∧ (∃ ao L cap, v' = .slice ao L cap) ∧ Chg w (w'.setCell ⟨p, 1, none⟩ v') p wd (.slice (some ⟨g, 0, none⟩) (A.length + (T.length + 1)) cap) (A ++ z :: T) (keys A ++ (C ++ D) ++ keys T) ∧ Bx w' p 45 #[.int .i64 (wd : Int), .slice (some ⟨g, 0, none⟩) (A.length + (T.length + 1)) cap] ∧ W.grownBy w' (some g))) := fun w2 d hd hg hb => by
    obtain ⟨_, _, h3, h4⟩ := h.put d (C ++ D) hd hg (.inl hb)
    refine ⟨h3, h4, (hB.fr (Fr.of_grown (F := foot (.slice (some ⟨g, 0, none⟩) (A.length + (T.length + 1)) cap) (A ++ z :: T)) hg (fun j e => .inr ⟨z, by simp, e⟩)) (foot_ne h hB)).c 1, fun hn => Chg.put hB h hne d (C ++ D) (fun e => hn (by rw [e]; rfl)) hd hg (.inl hb), fun hn W hW => ?_⟩
    have e0 : C ++ D = [] := List.eq_nil_of_length_eq_zero hn
    rw [e0] at hd ⊢
    rw [List.append_nil]
    exact rem_page hB h hne hl d hd hg hb hW
  obtain ⟨ao2, L2, cap2, hzv⟩ := own_slice (h.data z (by simp))
  have HGP : Hid (g ≠ p ∧ g < w.heap.size) := ⟨fun e => own_type_ne h.row hB (by decide) (by rw [← e]; rfl), h.lt (.inl rfl)⟩
  have HZL : Hid (∀ j, z.dv.ownBlock = some j → j < w.heap.size ∧ j ≠ p ∧ j ≠ g) := fun j hj => ⟨h.lt (.inr ⟨z, by simp, hj⟩), fun e => own_type_ne (h.data z (by simp)) hB (by decide) (by rw [← e]; exact hj), fun e => own_ne h.row (h.data z (by simp)) (by decide) rfl (by rw [← e]; exact hj)⟩
  have hl2 : A.length + (T.length + 1) ≤ 1000000000 := by simpa using hl
  have hcl : C.length < 1000000000 := by rw [hks] at hkl; simp at hkl; omega
  obtain ⟨zv, zk⟩ := z
  simp only at hzv
  subst hzv
  simp only at HDEL HCZ HPUT HZL
  clear h hne hB hl hks HAC hkl
  have c1 := HBX.out _ HB1.out
  have cz := HCZ.out _ HB1.out
  generalize hkA : keys A ++ (C ++ D) ++ keys T = L at *
  generalize (C ++ D).length = m at *
  generalize C.length = c at *
  generalize A.length = n at *
  obtain ⟨N, hN⟩ : ∃ N, n + (T.length + 1) = N := ⟨_, rfl⟩
  rw [hN] at HBX HPUT c1 hl2 ⊢
  have hnN : n < N := by omega
  have hnNI : (n : Int) < (N : Int) := by omega
  clear hN
  go_enter Try.func22, Try.ntmps22
  go_wp2_with fail
  generalize w.alloc (.cells #[.int .i64 (n : Int), .int .i64 (c : Int)] 50) = W1 at *
  have p0 := HP1.out.c 0
  have p1 := HP1.out.c 1
  simp at p0 p1
  have HS0 : Hid (S4 W1.drew w p g n N cap ao2 L2 cap2 c) := ⟨c1, cz, p0, p1⟩
  have HIW := hide (HDEL.out W1.drew HB1.out.drew)
  have hwc : IntKind.i64.wrap ((c : Int) + 1) = (c : Int) + 1 := by rw [IntKind.wrap_i64]; omega
  clear c1 cz p0 p1
  refine wp_region_noPanic ?_
  go_region_held (fun w' => w'.cell? ⟨p, 1, none⟩ = some (.slice (some ⟨g, 0, none⟩) N cap) ∧ w'.cell? ⟨g, n, none⟩ = some (.slice ao2 L2 cap2) ∧ w'.cell? ⟨w.heap.size, 0, none⟩ = some (.int .i64 (n : Int)) ∧ w'.cell? ⟨w.heap.size, 1, none⟩ = some (.int .i64 (c : Int))) (first | with_reducible exact HS0.out | with_reducible exact m6.out)
    (first | (go_at_call 38; (refine Calls.mono HIW.out ?_); rintro e w6 ⟨d, rfl, ⟨ao6, cap6, rfl⟩, hO, hg, hbb, hg2⟩; have m6 : Hid (S4 w6 w p g n N cap ao2 L2 cap2 c) := S4.grown HS0.out hg2 HZL.out; have HO6 := hide hO; have HG6 := hide hg; have HB6 := hide hbb; clear hO hg hbb hg2))
  refine NoPanic.normal ?_
  obtain ⟨q1, q2, q3, HC1, HC2⟩ := HPUT.out w6 _ HO6.out HG6.out HB6.out
  obtain ⟨_, _, q4, _⟩ := m6.out
  have m7 : Hid (w6.drew.cell? ⟨p, 1, none⟩ = some (.slice (some ⟨g, 0, none⟩) N cap) ∧ w6.drew.cell? ⟨w.heap.size, 0, none⟩ = some (.int .i64 (n : Int))) := ⟨q3, q4⟩
  have m8 : Hid ((w6.setCell ⟨g, n, none⟩ (.slice ao6 m cap6)).drew.cell? ⟨p, 1, none⟩ = some (.slice (some ⟨g, 0, none⟩) N cap) ∧ (w6.setCell ⟨g, n, none⟩ (.slice ao6 m cap6)).drew.cell? ⟨w.heap.size, 0, none⟩ = some (.int .i64 (n : Int))) := ⟨cell_set_ne q3 (fun e => HGP.out.1 e.symm), cell_set_ne q4 (by show w.heap.size ≠ g; have := HGP.out.2; omega)⟩
  clear HPUT HDEL HCZ HBX q3 q4
  go_wp2_with fail
  refine wp_region_noPanic ?_
  go_region_held (fun w' => w'.cell? ⟨p, 1, none⟩ = some (.slice (some ⟨g, 0, none⟩) N cap) ∧ w'.cell? ⟨w.heap.size, 0, none⟩ = some (.int .i64 (n : Int))) (first | with_reducible exact m7.out | with_reducible exact m8.out) (fail)
  refine NoPanic.normal ?_
  have HWZ : Hid (Below (w6.setCell ⟨g, n, none⟩ (.slice ao6 m cap6)).heap.size (w6.setCell ⟨g, n, none⟩ (.slice ao6 m cap6)) (w6.setCell ⟨g, n, none⟩ (.slice ao6 m cap6)).drew) := (Below.refl _ _).drew
  obtain ⟨r0, r1⟩ := m8.out
  by_cases hm : m = 0
  · have g1 : ((m : Int) == 0) = true := by simp [hm]
    have HDW : Hid (∀ W, Below (w6.setCell ⟨g, n, none⟩ (.slice ao6 m cap6)).heap.size (w6.setCell ⟨g, n, none⟩ (.slice ao6 m cap6)) W → _) := HC2.out hm
    have HmH := hide hm
    clear hm HC1 HC2
    generalize (w6.setCell ⟨g, n, none⟩ (.slice ao6 m cap6)).drew = W7 at *
    have HD7 := hide (HDW.out W7.drew HWZ.out.drew)
    have hwr : IntKind.i64.wrap ((n : Int) + 1) = (n : Int) + 1 := by rw [IntKind.wrap_i64]; omega
    go_wp2_with fail
    refine wp_region_noPanic ?_
    go_region_law (first
      | (go_simp; go_at_call 39; (refine Calls.mono HD7.out ?_); rintro e w8 ⟨v', rfl, ⟨ao8, L8, cap8, rfl⟩, hch, hb8, -⟩; have HCH := hide hch; have y1 := hb8.c 1; have f1 := hb8.f 1; simp at y1; clear hch hb8))
    all_goals refine NoPanic.normal ?_
    all_goals go_wp2_with fail
    all_goals go_end0
    all_goals exact ⟨⟨_, rfl⟩, HCH.out⟩
  · have g1 : ((m : Int) == 0) = false := by rw [beq_eq_false_iff_ne]; omega
    have HCZ := hide ((HC1.out hm).below HWZ.out)
    go_wp2_with fail
    go_end0
    exact ⟨⟨_, rfl⟩, HCZ.out⟩
end Go.Proofs.Ytfjcadkihnecdaa

/- What the document's Do does behind its checks: facts of worlds, no walk. What the document's Do does behind its checks, told as one chain: facts of worlds, no walk. The walk of the document's Do. -/
import Derived.Test.YtleelemcmnlfiaaPart10
import Derived.Deep.QuietTactic
import Derived.BigQuiet
namespace Go.Proofs.Ytleelemcmnlfiaa
open Go.RowKit

theorem Try.info48 : (Try.prog.info? 48).map (fun i => (i.zero, i.size, i.bytes)) = some (some (.agg #[.int .i64 0, .string ⟨#[]⟩, .string ⟨#[]⟩, .int .i64 0, .slice none 0 0]), 5, 72) := by kernel_rfl

theorem RW.ones {w : World} {v : Value} {ys : List (Rc × Ch)} {R : Nat → Prop} (h : RW w v ys R) : ∀ u ∈ cellsR ys, u.oneCell' = true := by
  intro u hu
  obtain ⟨y, hy, hu⟩ := List.mem_flatMap.1 hu
  obtain ⟨⟨ao, L, cap, e⟩, _⟩ := h.each y hy
  simp [Rc.cells] at hu
  rcases hu with rfl | rfl | rfl | rfl | rfl
  · rfl
  · rfl
  · rfl
  · rfl
  · rw [e]; rfl

/-- A copy of the changes that wait. -/
theorem run_copy_wait (w : World) (v : Value) (ys : List (Rc × Ch)) (R : Nat → Prop) (h : RW w v ys R) (hl : ys.length ≤ 50000000) :
    ∃ ao L cap w', (∀ ty, (Builtin.append_ #[29, 29] ty #[.slice none 0 0, v]).run Try.prog w = .ok (.slice ao L cap) w') ∧ w'.ownsRow w.heap.size 48 5 (.slice ao L cap) ys.length (cellsR ys) ∧ Below w.heap.size w w' := by
  obtain ⟨i, hi, hz, hsize, hby⟩ := info_parts Try.info48
  rcases own_shape h.row with ⟨rfl, e⟩ | ⟨g, cap, rfl, hc1, hc2, _⟩
  · refine ⟨none, 0, 0, w, fun ty => run_append_owned_none (P := Try.prog) (w := w) w.heap.size 29 ty 48 i 5 Try.underlying29 hi _ 0 [] (World.ownsRow_nil _ _ _ _), ?_, Below.refl _ _⟩
    have e2 : ys = [] := List.eq_nil_of_length_eq_zero e
    subst e2
    exact World.ownsRow_nil _ _ _ _
  · have H := fun ty => run_append_own_at (P := Try.prog) w w.heap.size 29 ty 48 i _ 5 72 Try.underlying29 hi hz hsize hby rfl (by decide) (.slice none 0 0) 0 [] (World.ownsRow_nil _ _ _ _) ⟨g, 0, none⟩ ys.length cap (cellsR ys) (cellsR_len ys) (fun j u hj => by
      have hjl : j < (cellsR ys).length := by
        by_cases hlt : j < (cellsR ys).length
        · exact hlt
        · rw [List.getElem?_eq_none (by omega)] at hj; simp at hj
      rw [cellsR_len] at hjl
      rw [Addr.add_lit, Nat.zero_add, h.row.cellAt j (by omega)]
      exact hj) h.ones (by simp only [maxLen]; omega) (by omega) (Nat.le_refl _)
    obtain ⟨v', w', hr, g1, g2, _⟩ := H 0
    obtain ⟨ao', L', cap', rfl⟩ := own_slice g1
    refine ⟨ao', L', cap', w', fun ty => hr, by simpa using g1, (Below.refl _ _).grown g2 (Nat.le_refl _) (fun k hk => by simp [Value.ownBlock] at hk)⟩

/-- One more change behind a copy. -/
theorem run_push_wait (w : World) (base : Nat) (v : Value) (ys : List (Rc × Ch)) (y : Rc × Ch) (g : Nat) (hO : w.ownsRow base 48 5 v ys.length (cellsR ys)) (hg : w.heap[g]? = some (.cells y.1.cells.toArray 48 (0, 0))) (hd : y.1.dv.oneCell' = true) (hl : ys.length ≤ 50000000) (hb : base ≤ w.heap.size) :
    ∃ ao L cap w', (∀ ty, (Builtin.append_ #[29, 29] ty #[v, .slice (some ⟨g, 0, none⟩) 1 1]).run Try.prog w = .ok (.slice ao L cap) w') ∧ w'.ownsRow base 48 5 (.slice ao L cap) (ys ++ [y]).length (cellsR (ys ++ [y])) ∧ Below base w w' := by
  obtain ⟨i, hi, hz, hsize, hby⟩ := info_parts Try.info48
  have H := fun ty => run_append_own_at (P := Try.prog) w base 29 ty 48 i _ 5 72 Try.underlying29 hi hz hsize hby rfl (by decide) v ys.length (cellsR ys) hO ⟨g, 0, none⟩ 1 1 y.1.cells rfl (fun j u hj => by
    rw [Addr.add_lit, Nat.zero_add, cell_of_row w g j _ _ _ hg]
    simpa using hj) (by
      intro u hu
      simp [Rc.cells] at hu
      rcases hu with rfl | rfl | rfl | rfl | rfl
      · rfl
      · rfl
      · rfl
      · rfl
      · exact hd) (by simp only [maxLen]; omega) (by omega) hb
  obtain ⟨v', w', hr, g1, g2, _⟩ := H 0
  obtain ⟨ao', L', cap', rfl⟩ := own_slice g1
  have e : cellsR (ys ++ [y]) = cellsR ys ++ y.1.cells := by rw [cellsR_append, cellsR_cons]; simp [cellsR]
  refine ⟨ao', L', cap', w', fun ty => hr, by rw [e, List.length_append]; exact g1, (Below.refl _ _).grown g2 hb (fun k hk => (hO.lt k hk).1)⟩
end Go.Proofs.Ytleelemcmnlfiaa
namespace Go.Proofs.Ytleelemcmnlfiaa
open Go.RowKit

theorem Fr.q_set {w w' : World} {q : Nat} (h : Fr (fun k => k = q) w w') (o : Nat) (v : Value) : Fr (fun k => k = q) w (w'.setCell ⟨q, o, none⟩ v) := h.trans (Fr.one w' q o v) (fun _ _ e => e)
theorem Fr.q_below {w w' w'' : World} {q : Nat} (h : Fr (fun k => k = q) w w') (hb : Below w'.heap.size w' w'') : Fr (fun k => k = q) w w'' := h.trans (G := fun _ => False) (Fr.of_below hb) (fun _ _ => False.elim)

/-- Behind the checks: the copy of the bytes is kept in the box, the files are changed, one more change waits. -/
theorem rDo_tail (q : Nat) (s : St) (R : Nat → Prop) (kd : Int) (nm t : ByteArray) (sz : Int) (aod : Option Addr) (capd : Nat) (b : List UInt8) (c : Ch) (w u0 : World) (bx : Nat) (aon : Option Addr) (Nn capn : Nat) (aow : Option Addr) (Nw capw : Nat) (vl : Value) (zl zn : List Ent) (ys : List (Rc × Ch))
    (h : RDC w q s vl (.slice aon Nn capn) (.slice aow Nw capw) zl zn ys R) (hg : s.good) (hS : Sl w (.slice aod b.length capd) b) (hm : s.mass + b.length + 2 ≤ 50000000)
    (hc : kd = (match c with | .app _ _ => 0 | .cut _ _ => 1 | .rem _ => 2 | .mov _ _ => 3) ∧ (match c with | .app n x => nm = n ∧ x = b | .cut n k => nm = n ∧ sz = (k : Int) | .rem n => nm = n | .mov n m => nm = n ∧ t = m)) (hok : Okc s.now c)
    (hb0 : Below w.heap.size w u0) (hbx : w.heap.size ≤ bx) (hbox : u0.heap[bx]? = some (.cells #[.int .i64 kd, .string nm, .string t, .int .i64 sz, .slice aod b.length capd] 48 (0, 0))) :
    ∃ ao1 L1 cap1 u1, (∀ ty, (Builtin.append_ #[32, 32] ty #[.slice none 0 0, .slice aod b.length capd]).run Try.prog u0 = .ok (.slice ao1 L1 cap1) u1) ∧ u1.cell? ⟨bx, 4, none⟩ = some (.slice aod b.length capd) ∧ u1.frozen? ⟨bx, 4, none⟩ = false ∧ ∃ u2, u2 = u1.setCell ⟨bx, 4, none⟩ (.slice ao1 L1 cap1) ∧
      (u2.cell? ⟨bx, 0, none⟩ = some (.int .i64 kd) ∧ u2.cell? ⟨bx, 1, none⟩ = some (.string nm) ∧ u2.cell? ⟨bx, 2, none⟩ = some (.string t) ∧ u2.cell? ⟨bx, 3, none⟩ = some (.int .i64 sz) ∧ u2.cell? ⟨bx, 4, none⟩ = some (.slice ao1 L1 cap1)) ∧ u2.cell? ⟨q, 1, none⟩ = some (.slice aon Nn capn) ∧
      Hid (Calls Try.prog 39 #[.slice aon Nn capn, .agg #[.int .i64 kd, .string nm, .string t, .int .i64 sz, .slice ao1 L1 cap1]] u2.drew fun e u4 => ∃ ao4 N4 cap4, e = .returned (.slice ao4 N4 cap4) ∧
        (u4.cell? ⟨bx, 0, none⟩ = some (.int .i64 kd) ∧ u4.cell? ⟨bx, 1, none⟩ = some (.string nm) ∧ u4.cell? ⟨bx, 2, none⟩ = some (.string t) ∧ u4.cell? ⟨bx, 3, none⟩ = some (.int .i64 sz) ∧ u4.cell? ⟨bx, 4, none⟩ = some (.slice ao1 L1 cap1)) ∧ u4.cell? ⟨q, 1, none⟩ = some (.slice aon Nn capn) ∧ u4.frozen? ⟨q, 1, none⟩ = false ∧ ∃ u5, u5 = u4.setCell ⟨q, 1, none⟩ (.slice ao4 N4 cap4) ∧
        Hid ((∀ u, Below u5.heap.size u5 u → u.cell? ⟨bx, 0, none⟩ = some (.int .i64 kd) ∧ u.cell? ⟨bx, 1, none⟩ = some (.string nm) ∧ u.cell? ⟨bx, 2, none⟩ = some (.string t) ∧ u.cell? ⟨bx, 3, none⟩ = some (.int .i64 sz) ∧ u.cell? ⟨bx, 4, none⟩ = some (.slice ao1 L1 cap1) ∧ u.cell? ⟨q, 2, none⟩ = some (.slice aow Nw capw))) ∧
        Hid (∀ u, Below u5.heap.size u5 u → ∃ ao6 L6 cap6 u6, (∀ ty, (Builtin.append_ #[29, 29] ty #[.slice none 0 0, .slice aow Nw capw]).run Try.prog u = .ok (.slice ao6 L6 cap6) u6) ∧ Hid (Below u5.heap.size u5 u6) ∧ Hid (Below u.heap.size u u6 ∧ u6.ownsRow u5.heap.size 48 5 (.slice ao6 L6 cap6) ys.length (cellsR ys))) ∧
        Hid (∀ u g ao6 L6 cap6, Below u5.heap.size u5 u → u.ownsRow u5.heap.size 48 5 (.slice ao6 L6 cap6) ys.length (cellsR ys) → u.heap[g]? = some (.cells #[.int .i64 kd, .string nm, .string t, .int .i64 sz, .slice ao1 L1 cap1] 48 (0, 0)) →
          ∃ ao7 L7 cap7 u7, (∀ ty, (Builtin.append_ #[29, 29] ty #[.slice ao6 L6 cap6, .slice (some ⟨g, 0, none⟩) 1 1]).run Try.prog u = .ok (.slice ao7 L7 cap7) u7) ∧ Hid (Below u5.heap.size u5 u7) ∧ u7.cell? ⟨q, 2, none⟩ = some (.slice aow Nw capw) ∧ u7.frozen? ⟨q, 2, none⟩ = false ∧
            Hid (RD (u7.setCell ⟨q, 2, none⟩ (.slice ao7 L7 cap7)) q (s.push c) (ext R w (u7.setCell ⟨q, 2, none⟩ (.slice ao7 L7 cap7))) ∧ Fr (fun k => k = q) w (u7.setCell ⟨q, 2, none⟩ (.slice ao7 L7 cap7))))) := by
  have hRlt := h.fl.lt
  have hqlt := h.plt
  have hnm := St.now_mass hg
  have hyl : ys.length = s.wait.length := by rw [← h.e3, List.length_map]
  have hyb : ys.length ≤ 50000000 := by unfold St.mass at hm; omega
  have hbxlt : bx < u0.heap.size := (Array.getElem?_eq_some_iff.1 hbox).1
  have hbq : bx ≠ q := by omega
  have hcm : c.mass ≤ b.length + 1 := by
    cases c with
    | app n x => obtain ⟨_, _, rfl⟩ := hc; exact Nat.le_refl _
    | cut n k => simp [Ch.mass]
    | rem n => simp [Ch.mass]
    | mov n m => simp [Ch.mass]
  obtain ⟨ao1, L1, cap1, u1, hr1, hO1, hg1⟩ := run_append_any u0 u0.heap.size (.slice none 0 0) _ [] b (World.ownsRow_nil _ _ _ _) (hS.below hb0) (by simp; omega) (Nat.le_refl _)
  rw [List.nil_append] at hO1
  have hb1 : Below u0.heap.size u0 u1 := (Below.refl _ _).grown hg1 (Nat.le_refl _) (fun k hk => by simp [Value.ownBlock] at hk)
  have hbox1 : u1.heap[bx]? = some (.cells #[.int .i64 kd, .string nm, .string t, .int .i64 sz, .slice aod b.length capd] 48 (0, 0)) := (hb1.block bx hbxlt).trans hbox
  have hw1 : Below w.heap.size w u1 := hb0.trans (hb1.mono hb0.size)
  refine ⟨ao1, L1, cap1, u1, hr1, by rw [cell_of_row u1 bx 4 _ _ _ hbox1]; rfl, by simp [World.frozen?, hbox1], ?_⟩
  obtain ⟨u2, hu2⟩ : ∃ u2, u2 = u1.setCell ⟨bx, 4, none⟩ (.slice ao1 L1 cap1) := ⟨_, rfl⟩
  have hs2 : u2.heap.size = u1.heap.size := by rw [hu2, setCell_size]
  have hbox2 : u2.heap[bx]? = some (.cells #[.int .i64 kd, .string nm, .string t, .int .i64 sz, .slice ao1 L1 cap1] 48 (0, 0)) := by rw [hu2, heap_set hbox1]; rfl
  have hw2 : Below w.heap.size w u2 := by rw [hu2]; exact hw1.setCell hbx _
  have hb2 : ∀ k, k < u0.heap.size → k ≠ bx → u2.heap[k]? = u0.heap[k]? := fun k hk hne => by rw [hu2, Below.heap_setCell _ _ _ _ hne]; exact hb1.block k hk
  have hO2 : u2.ownsRow u0.heap.size 5 1 (.slice ao1 L1 cap1) b.length (cells8 b) := by
    rw [hu2]
    refine own_kept hO1 (Fr.one u1 bx 4 _) (fun k hk e => ?_)
    have := (hO1.lt k hk).1
    omega
  have hC2 := h.kept (G := fun _ => False) (Fr.of_below hw2) (fun _ _ => id) id
  have cb2 : u2.cell? ⟨bx, 0, none⟩ = some (.int .i64 kd) ∧ u2.cell? ⟨bx, 1, none⟩ = some (.string nm) ∧ u2.cell? ⟨bx, 2, none⟩ = some (.string t) ∧ u2.cell? ⟨bx, 3, none⟩ = some (.int .i64 sz) ∧ u2.cell? ⟨bx, 4, none⟩ = some (.slice ao1 L1 cap1) :=
    ⟨by rw [cell_of_row u2 bx 0 _ _ _ hbox2]; rfl, by rw [cell_of_row u2 bx 1 _ _ _ hbox2]; rfl, by rw [cell_of_row u2 bx 2 _ _ _ hbox2]; rfl, by rw [cell_of_row u2 bx 3 _ _ _ hbox2]; rfl, by rw [cell_of_row u2 bx 4 _ _ _ hbox2]; rfl⟩
  refine ⟨u2, hu2, cb2, hC2.cells.2.1, ?_⟩
  have hRc2 : RcOk u2 kd nm t sz (.slice ao1 L1 cap1) c (ext R w u2) := by
    refine ⟨⟨_, _, _, rfl⟩, ?_⟩
    obtain ⟨hk, hc⟩ := hc
    cases c with
    | app n x =>
      obtain ⟨e1, e2⟩ := hc
      subst e2
      exact ⟨hk, e1, SlA.made (own_base hO2 (fun j hj => Nat.le_trans hb0.size (hO2.lt j hj).1))⟩
    | cut n k => exact ⟨hk, hc⟩
    | rem n => exact ⟨hk, hc⟩
    | mov n m => exact ⟨hk, hc⟩
  have hbd : Below u2.heap.size u2 u2.drew := (Below.refl _ _).drew
  have hF2 : RF u2.drew (.slice aon Nn capn) zn (ext R w u2) := (hC2.fn.below hbd).mono (fun _ hk => Or.inl hk) (ext_lt hRlt hw2.size)
  refine (rdo_any _ zn (ext R w u2) kd nm t sz _ c u2.drew hF2 (by rw [h.e2]; exact St.now_srt hg) (hRc2.kept (G := fun _ => False) (Fr.of_below hbd) (fun _ _ => id)) (by rw [h.e2]; exact hok) (by rw [h.e2]; omega)).mono ?_
  rintro e u4 ⟨ao4, N4, cap4, zs', rfl, hR4, hm4, hb4d⟩
  have hb4 : Below u2.heap.size u2 u4 := hbd.trans hb4d
  have hbx2 : bx < u2.heap.size := by have := hb1.size; omega
  have hbox4 : u4.heap[bx]? = some (.cells #[.int .i64 kd, .string nm, .string t, .int .i64 sz, .slice ao1 L1 cap1] 48 (0, 0)) := (hb4.block bx hbx2).trans hbox2
  have hw4 : Below w.heap.size w u4 := hw2.trans (hb4.mono hw2.size)
  have hC4 := h.kept (G := fun _ => False) (Fr.of_below hw4) (fun _ _ => id) id
  have cb4 : ∀ u : World, u.heap[bx]? = some (.cells #[.int .i64 kd, .string nm, .string t, .int .i64 sz, .slice ao1 L1 cap1] 48 (0, 0)) → u.cell? ⟨bx, 0, none⟩ = some (.int .i64 kd) ∧ u.cell? ⟨bx, 1, none⟩ = some (.string nm) ∧ u.cell? ⟨bx, 2, none⟩ = some (.string t) ∧ u.cell? ⟨bx, 3, none⟩ = some (.int .i64 sz) ∧ u.cell? ⟨bx, 4, none⟩ = some (.slice ao1 L1 cap1) := fun u hu =>
    ⟨by rw [cell_of_row u bx 0 _ _ _ hu]; rfl, by rw [cell_of_row u bx 1 _ _ _ hu]; rfl, by rw [cell_of_row u bx 2 _ _ _ hu]; rfl, by rw [cell_of_row u bx 3 _ _ _ hu]; rfl, by rw [cell_of_row u bx 4 _ _ _ hu]; rfl⟩
  refine ⟨ao4, N4, cap4, rfl, cb4 u4 hbox4, hC4.cells.2.1, hC4.cells.2.2.2.2 1, u4.setCell ⟨q, 1, none⟩ (.slice ao4 N4 cap4), rfl, ?_⟩
  obtain ⟨u5, hu5⟩ : ∃ u5, u5 = u4.setCell ⟨q, 1, none⟩ (.slice ao4 N4 cap4) := ⟨_, rfl⟩
  rw [← hu5]
  have hs5 : u5.heap.size = u4.heap.size := by rw [hu5, setCell_size]
  have hbox5 : u5.heap[bx]? = some (.cells #[.int .i64 kd, .string nm, .string t, .int .i64 sz, .slice ao1 L1 cap1] 48 (0, 0)) := by rw [hu5, Below.heap_setCell _ _ _ _ hbq]; exact hbox4
  have hq5 : u5.heap[q]? = some (.cells #[vl, .slice ao4 N4 cap4, .slice aow Nw capw, .int .i64 s.room] 31 (0, 0)) := by rw [hu5, heap_set hC4.heap]; rfl
  have hf5 : Fr (fun k => k = q) w u5 := by rw [hu5]; exact (Fr.of_below hw4).q_set 1 _
  have hd : ∀ k, R k → ¬ k = q := fun k hk e => h.nq (e ▸ hk)
  have hRF5 : RF u5 (.slice ao4 N4 cap4) zs' (ext (ext R w u2) u2.drew u4) := by
    rw [hu5]
    refine hR4.kept (Fr.one u4 q 1 _) (fun k hk e => ?_)
    subst e
    rcases hk with (hk | hk) | hk
    · exact h.nq hk
    · omega
    · have := hk.1
      have : u2.heap.size ≤ k := this
      have := hw2.size
      omega
  refine ⟨fun u hb => ?_, fun u hb => ?_, fun u g ao6 L6 cap6 hb hO hgu => ?_⟩
  · have hcb := cb4 u ((hb.block bx (by have := hb4.size; omega)).trans hbox5)
    refine ⟨hcb.1, hcb.2.1, hcb.2.2.1, hcb.2.2.2.1, hcb.2.2.2.2, ?_⟩
    rw [cell_of_row u q 2 _ _ _ ((hb.block q (by have := hw4.size; omega)).trans hq5)]
    rfl
  · have hRW : RW u (.slice aow Nw capw) ys R := (h.wt.kept hf5 hd).kept (G := fun _ => False) (Fr.of_below hb) (fun _ _ => id)
    obtain ⟨ao6, L6, cap6, u6, hr6, hO6, hb6⟩ := run_copy_wait u _ ys R hRW hyb
    exact ⟨ao6, L6, cap6, u6, hr6, hb.trans (hb6.mono hb.size), hb6, own_base hO6 (fun k hk => Nat.le_trans hb.size (hO6.lt k hk).1)⟩
  · obtain ⟨ao7, L7, cap7, u7, hr7, hO7, hb7⟩ := run_push_wait u u5.heap.size _ ys (⟨kd, nm, t, sz, .slice ao1 L1 cap1⟩, c) g hO hgu rfl hyb hb.size
    have hb57 : Below u5.heap.size u5 u7 := hb.trans hb7
    have hqs : q < u5.heap.size := by have := hw4.size; omega
    have hq7 : u7.heap[q]? = some (.cells #[vl, .slice ao4 N4 cap4, .slice aow Nw capw, .int .i64 s.room] 31 (0, 0)) := (hb57.block q hqs).trans hq5
    refine ⟨ao7, L7, cap7, u7, hr7, hb57, by rw [cell_of_row u7 q 2 _ _ _ hq7]; rfl, by simp [World.frozen?, hq7], ?_⟩
    have hf7 : Fr (fun k => k = q) w (u7.setCell ⟨q, 2, none⟩ (.slice ao7 L7 cap7)) := (hf5.q_below hb57).q_set 2 _
    have hone := Fr.one u7 q 2 (.slice ao7 L7 cap7)
    have hss : (u7.setCell ⟨q, 2, none⟩ (.slice ao7 L7 cap7)).heap.size = u7.heap.size := setCell_size _ _ _
    have hlt7 : ∀ k, ext R w (u7.setCell ⟨q, 2, none⟩ (.slice ao7 L7 cap7)) k → k < (u7.setCell ⟨q, 2, none⟩ (.slice ao7 L7 cap7)).heap.size := ext_lt hRlt hf7.size
    have h57 := hb57.size
    have h24 : u2.heap.size ≤ u4.heap.size := hb4.size
    have hww := hw2.size
    refine ⟨⟨vl, .slice ao4 N4 cap4, .slice ao7 L7 cap7, zl, zs', ys ++ [(⟨kd, nm, t, sz, .slice ao1 L1 cap1⟩, c)], ?_, (h.fl.kept hf7 hd).mono (fun _ hk => Or.inl hk) hlt7, ?_, ⟨?_, fun y hy => ?_, fun k hk => ?_⟩, fun hk => ?_, h.e1, ?_, ?_⟩, hf7⟩
    · rw [heap_set hq7]
      rfl
    · refine ((hRF5.below hb57).kept hone (fun k hk e => ?_)).mono (fun k hk => ?_) hlt7
      · subst e
        rcases hk with (hk | hk) | hk
        · exact h.nq hk
        · omega
        · have : u2.heap.size ≤ k := hk.1
          omega
      · rcases hk with (hk | hk) | hk
        · exact Or.inl hk
        · exact Or.inr ⟨hk.1, by rw [hss]; omega⟩
        · have : u2.heap.size ≤ k := hk.1
          exact Or.inr ⟨by omega, by rw [hss]; omega⟩
    · refine own_kept (own_zero hO7) hone (fun k hk e => ?_)
      have := (hO7.lt k hk).1
      omega
    · rcases List.mem_append.1 hy with hy | hy
      · exact ((h.wt.each y hy).kept hf7 hd).mono (fun _ hk => Or.inl hk)
      · simp at hy
        subst hy
        have hf2 : Fr (fun k => k = q) u2 (u7.setCell ⟨q, 2, none⟩ (.slice ao7 L7 cap7)) := by
          have h5 : Fr (fun k => k = q) u2 u5 := by rw [hu5]; exact (Fr.of_below hb4).q_set 1 _
          exact (h5.q_below hb57).q_set 2 _
        refine (hRc2.kept hf2 (fun k hk e => ?_)).mono (fun k hk => ?_)
        · subst e
          rcases hk with hk | hk
          · exact h.nq hk
          · omega
        · rcases hk with hk | hk
          · exact Or.inl hk
          · exact Or.inr ⟨hk.1, by rw [hss]; omega⟩
    · have := hO7.lt k hk
      exact Or.inr ⟨by have := hf5.size; omega, by rw [hss]; exact this.2⟩
    · rcases hk with hk | hk
      · exact h.nq hk
      · omega
    · rw [hm4, h.e2, St.push_now]
    · rw [List.map_append, h.e3]
      rfl
end Go.Proofs.Ytleelemcmnlfiaa
namespace Go.Proofs.Ytleelemcmnlfiaa
open Go.RowKit

/-- The place of a name among files, as at tells it. -/
def posN (n : ByteArray) (zs : List Ent) (x : Int) : Prop := (∃ ul z ur, HitE n zs ul z ur ∧ x = (ul.length : Int)) ∨ (∃ ul ur, MissE n zs ul ur ∧ x = -1)

/-- What Do meets in memory, behind its box. -/
structure DoPre (w : World) (q : Nat) (s : St) (kd : Int) (nm t : ByteArray) (sz : Int) (b : List UInt8) (aod : Option Addr) (capd : Nat) (aon : Option Addr) (capn : Nat) (zn : List Ent) (w1 : World) : Prop where
  q0 : w1.cell? ⟨w.heap.size, 0, none⟩ = some (.int .i64 kd)
  q1 : w1.cell? ⟨w.heap.size, 1, none⟩ = some (.string nm)
  q2 : w1.cell? ⟨w.heap.size, 2, none⟩ = some (.string t)
  q3 : w1.cell? ⟨w.heap.size, 3, none⟩ = some (.int .i64 sz)
  q4 : w1.cell? ⟨w.heap.size, 4, none⟩ = some (.slice aod b.length capd)
  d1 : w1.cell? ⟨q, 1, none⟩ = some (.slice aon zn.length capn)
  d3 : w1.cell? ⟨q, 3, none⟩ = some (.int .i64 s.room)
  hb : Below w.heap.size w w1
  fz : w1.frozen? ⟨w.heap.size, 4, none⟩ = false

theorem doPre {w : World} {q : Nat} {s : St} {R : Nat → Prop} {vl vw : Value} {aon : Option Addr} {capn : Nat} {zl zn : List Ent} {ys : List (Rc × Ch)} (h : RDC w q s vl (.slice aon zn.length capn) vw zl zn ys R) (kd : Int) (nm t : ByteArray) (sz : Int) (b : List UInt8) (aod : Option Addr) (capd : Nat) :
    DoPre w q s kd nm t sz b aod capd aon capn zn (w.alloc (.cells #[.int .i64 kd, .string nm, .string t, .int .i64 sz, .slice aod b.length capd] 48)) := by
  have hb1 := bel_box w (.cells #[.int .i64 kd, .string nm, .string t, .int .i64 sz, .slice aod b.length capd] 48)
  have hh := heap_alloc_new w (.cells #[.int .i64 kd, .string nm, .string t, .int .i64 sz, .slice aod b.length capd] 48)
  have hC := h.cells
  exact ⟨by rw [cell_of_row _ _ 0 _ _ _ hh]; rfl, by rw [cell_of_row _ _ 1 _ _ _ hh]; rfl, by rw [cell_of_row _ _ 2 _ _ _ hh]; rfl, by rw [cell_of_row _ _ 3 _ _ _ hh]; rfl, by rw [cell_of_row _ _ 4 _ _ _ hh]; rfl, below_cell hb1 hC.2.1, below_cell hb1 hC.2.2.2.1, hb1, frozen_of_heap hh 4⟩

theorem wpList_append_run {P : Program} (w : World) {ops : Array Oper} {rest : List Oper} {o : Oper} {a : Act} {Q : Exit → Act → World → Prop} (hgd : o.guard = none) (d x : Operand) (dT sT : TypeId)
    (ho : o.op = .call { callee := .builtin .append, args := #[d, x], argTypes := #[dT, sT] }) (v u : Value) (hd : a.eval d = v) (hx : a.eval x = u) {v' : Value} {w' : World}
    (hr : (Builtin.append_ #[dT, sT] o.type #[v, u]).run P w = .ok v' w') (h : wpList P ops Q rest (a.put o.dst v') w') : wpList P ops Q (o :: rest) a w := by
  refine wpList_plain hgd fun _ hK => ?_
  unfold Oper.wp
  simp [execOp, ho, resolve, invoke, builtin, hd, hx, hr, Result.andThen]
  exact hK _ _ h

theorem step_append_at {P : Program} {ops : Array Oper} {o : Oper} {a : Act} {w w0 : World} {K : Act → World → Prop} {Q : Exit → Act → World → Prop} {E : Prop} (hw : w = w0)
    (hg : o.guard = none) (d x : Operand) (dT sT : TypeId) (hop : o.op = Op.call { callee := Callee.builtin Builtin.append, args := #[d, x], argTypes := #[dT, sT] })
    (v u : Value) (hd : a.eval d = v) (hx : a.eval x = u) {v' : Value} {w' : World} (hr : (Builtin.append_ #[dT, sT] o.type #[v, u]).run P w0 = .ok v' w') (hK : K (a.put o.dst v') w') :
    if Region.wanted o (yielded ops a.tmps) = true then Oper.wp P o a w K Q else E := by
  subst hw
  exact step_append_run hg d x dT sT hop v u hd hx hr hK

theorem bel_drewN (w : World) (m : Nat) : Below w.heap.size w (w.drewN m) := ⟨rfl, rfl, rfl, Nat.le_refl _, fun _ _ => rfl⟩

set_option maxHeartbeats 4000000 in
set_option maxRecDepth 20000 in
theorem rDo_app_hit (q : Nat) (s : St) (R : Nat → Prop) (nm t : ByteArray) (sz : Int) (dv : Value) (b : List UInt8) (f : Fl) (w : World) (h : RD w q s R) (hg : s.good) (hS : Sl w dv b) (hn : nm.size ≤ 1000000000) (hm : s.mass + b.length + 2 ≤ 50000000)
    (hok : okN nm = true) (hr : (used s.now : Int) + b.length ≤ s.room) (hl : look nm s.now = some f) :
    Calls Try.prog 23 #[.pointer (some ⟨q, 0, none⟩), .agg #[.int .i64 0, .string nm, .string t, .int .i64 sz, dv]] w fun e w' => e = .returned (.int .i64 0) ∧ RD w' q (s.push (.app nm b)) (ext R w w') ∧ Fr (fun k => k = q) w w' := by
  obtain ⟨vl, vn, vw, zl, zn, ys, h⟩ := h
  obtain ⟨aod, capd, rfl, _, _⟩ := hS.shape
  obtain ⟨aon, capn, rfl, _⟩ := h.fn.shape
  obtain ⟨aow, capw, rfl, _⟩ := h.wt.shape
  have P := doPre h 0 nm t sz b aod capd
  have hnm := St.now_mass hg
  have hum := used_mass s.now
  rcases splitE nm zn (by rw [h.e2]; exact St.now_srt hg) with ⟨ul, z, ur, hh⟩ | ⟨ul, ur, hh⟩
  case inr => rw [← h.e2, hh.miss.lookE] at hl; simp at hl
  have hznl : zn.length = s.now.length := by rw [← h.e2, List.length_map]
  have HT : Hid (_) := fun (u0 : World) (hb0 : Below w.heap.size w u0) hbox => rDo_tail q s R 0 nm t sz aod capd b (.app nm b) w u0 w.heap.size aon zn.length capn aow ys.length capw vl zl zn ys h hg hS hm ⟨rfl, rfl, rfl⟩ trivial hb0 (Nat.le_refl _) hbox
  have hbx := heap_alloc_new w (.cells #[.int .i64 0, .string nm, .string t, .int .i64 sz, .slice aod b.length capd] 48)
  obtain ⟨q0, q1, q2, q3, q4, d1, d3, hb1, fz⟩ := P
  generalize hw1 : w.alloc (.cells #[.int .i64 0, .string nm, .string t, .int .i64 sz, .slice aod b.length capd] 48) = w1 at *
  have HAt : Hid (∀ m, Calls Try.prog 41 #[.slice aon zn.length capn, .string nm] (w1.drewN m) fun e w' => e = .returned (.int .i64 (ul.length : Int)) ∧ w' = w1.drewN m) := fun m => at_hit _ zn R nm ul z ur _ ((h.fn.below hb1).below (bel_drewN w1 m)) hh (by omega)
  have HNm : Hid (∀ u, Calls Try.prog 42 #[.string nm] u fun e w' => e = .returned (.bool true) ∧ w' = u) := fun u => by rw [← hok]; exact rname_any nm _ hn
  have HUs : Hid (∀ u, Below w1.heap.size w1 u → ∀ m, Calls Try.prog 40 #[.pointer (some ⟨q, 0, none⟩)] (u.drewN m) fun e w' => e = .returned (.int .i64 (used s.now : Nat)) ∧ w' = u.drewN m) := fun u hu m => by
    have := rused_any q _ zn R (u.drewN m) (show u.cell? _ = _ from below_cell hu d1) (((h.fn.below hb1).below hu).below (bel_drewN _ m)) (by rw [h.e2]; omega)
    rw [h.e2] at this
    exact this
  have hr0 := hg.r0
  have hr1 := hg.r1
  generalize s.room = room at *
  obtain ⟨U, HU⟩ : ∃ U, Hid (U = used s.now) := ⟨_, (rfl : _ = _)⟩
  rw [← HU.out] at HUs hr hum
  have hUb : U ≤ 50000000 := by omega
  have hcmp : ¬ room < (U : Int) + (b.length : Int) := by omega
  have hbl : b.length ≤ 50000000 := by omega
  have hgd1 : decide (room < (U : Int) + (b.length : Int)) = false := by simpa using hcmp
  have hgd2 : decide ((ul.length : Int) < 0) = false := by simp
  clear h hum hnm hh hl hS hg hm hznl hok hr
  go_enter Try.func23, Try.ntmps23
  go_wp2_with fail
  go_quiet ((go_at_call 41; exact Calls.quiet_of_same (HAt.out _)))
  have hbx0 := (bel_drewN w1 nq).block w.heap.size (by have := (Array.getElem?_eq_some_iff.1 hbx).1; exact this)
  have hu := bel_drewN w1 nq
  rw [hbx] at hbx0
  generalize w1.drewN nq = u0 at *
  replace q0 := below_cell hu q0
  replace q1 := below_cell hu q1
  replace q2 := below_cell hu q2
  replace q3 := below_cell hu q3
  replace q4 := below_cell hu q4
  replace d1 := below_cell hu d1
  replace d3 := below_cell hu d3
  go_wp2_with (go_at_call 42; refine Calls.mono (HNm.out _) ?_; rintro e w' ⟨rfl, hw⟩; have hw' := hw.symm; subst hw')
  go_quiet ((go_at_call 40; exact Calls.quiet_of_same (HUs.out u0 hu _)))
  clear HNm HUs
  obtain ⟨ao1, L1, cap1, u1, hr1, e4, ef, u2, hu2, ⟨m0, m1, m2, m3, m4⟩, mq, HD⟩ := HT.out (u0.drewN nq) (hb1.trans ((hu.trans ((bel_drewN u0 nq).mono hu.size)).mono hb1.size)) hbx0
  clear HT hbx HAt hw1 hu fz
  go_wp2_with (at_builtin; refine wpList_append_run _ rfl (.const (.slice none 0 0)) (.tmp 76) 32 32 rfl _ _ rfl rfl (hr1 _) ?_)
  clear hr1 hbx0 q0 q1 q2 q3 q4 d1 d3
  go_wp2_with fail
  rw [← hu2]
  clear hu2 e4 ef
  go_region_with (go_at_call 39; refine Calls.mono HD.out ?_; rintro e u4 ⟨ao4, N4, cap4, rfl, ⟨n0, n1, n2, n3, n4⟩, nq1, nf, u5, hu5, HK5, H5, H6⟩; have HKB : Hid (∀ u, Below u5.heap.size u5 u → u.cell? ⟨w.heap.size, 0, none⟩ = some (.int .i64 0) ∧ u.cell? ⟨w.heap.size, 1, none⟩ = some (.string nm) ∧ u.cell? ⟨w.heap.size, 2, none⟩ = some (.string t) ∧ u.cell? ⟨w.heap.size, 3, none⟩ = some (.int .i64 sz) ∧ u.cell? ⟨w.heap.size, 4, none⟩ = some (.slice ao1 L1 cap1)) := fun u hb => ⟨(HK5.out u hb).1, (HK5.out u hb).2.1, (HK5.out u hb).2.2.1, (HK5.out u hb).2.2.2.1, (HK5.out u hb).2.2.2.2.1⟩)
  all_goals (
    clear m0 m1 m2 m3 m4 mq HD
    go_wp2_with fail
    rw [← hu5]
    clear hu5 n0 n1 n2 n3 n4 nq1 nf
    have hbd : Below u5.heap.size u5 u5.drew := (Below.refl _ _).drew
    have hq2 : u5.cell? ⟨q, 2, none⟩ = some (.slice aow ys.length capw) := (HK5.out _ (Below.refl _ _)).2.2.2.2.2
    have hq2a : ∀ ob, (u5.alloc ob).cell? ⟨q, 2, none⟩ = some (.slice aow ys.length capw) := fun ob => below_cell (bel_box _ ob) hq2
    have hq2b : ∀ ob, (u5.drew.alloc ob).cell? ⟨q, 2, none⟩ = some (.slice aow ys.length capw) := hq2a
    obtain ⟨p0, p1, p2, p3, p4⟩ := HKB.out _ (Below.refl _ _)
    go_region_law (first
      | (obtain ⟨ao6, L6, cap6, u6, hr6, hb6, HO6⟩ := H5.out u5.drew hbd; refine step_append_at (w0 := u5.drew) (by with_reducible rfl) (by rfl) (.const (.slice none 0 0)) (.tmp 92) 29 29 (by rfl) _ _ (by rfl) (by rfl) (hr6 _) ?_; clear hr6; obtain ⟨o0, o1, o2, o3, o4⟩ := HKB.out _ hb6.out)
      | (obtain ⟨ao7, L7, cap7, u7, hr7, hb7, f2, ff, HX⟩ := H6.out (u6.alloc (.cells #[.int .i64 0, .string nm, .string t, .int .i64 sz, .slice ao1 L1 cap1] 48)) u6.heap.size _ _ _ (hb6.out.alloc hb6.out.size _) (World.ownsRow.alloc HO6.out.2 _) (heap_alloc_new _ _); refine step_append_at (w0 := u6.alloc (.cells #[.int .i64 0, .string nm, .string t, .int .i64 sz, .slice ao1 L1 cap1] 48)) (by with_reducible rfl) (by rfl) (.tmp 93) (.tmp 95) 29 29 (by rfl) _ _ (by rfl) (by rfl) (hr7 _) ?_; clear hr7)
      | (obtain ⟨ao6, L6, cap6, u6b, hr6, hb6, HO6⟩ := H5.out (u5.alloc (.cells #[.int .i64 0, .string nm, .string t, .int .i64 sz, .slice ao1 L1 cap1] 48)).drew (bel_box _ _).drew; refine step_append_at (w0 := (u5.alloc (.cells #[.int .i64 0, .string nm, .string t, .int .i64 sz, .slice ao1 L1 cap1] 48)).drew) (by with_reducible rfl) (by rfl) (.const (.slice none 0 0)) (.tmp 92) 29 29 (by rfl) _ _ (by rfl) (by rfl) (hr6 _) ?_; clear hr6)
      | (obtain ⟨ao7, L7, cap7, u7, hr7, hb7, f2, ff, HX⟩ := H6.out u6b u5.heap.size _ _ _ hb6.out HO6.out.2 ((HO6.out.1.block u5.heap.size (by show _ < (u5.alloc _).heap.size; simp)).trans (heap_alloc_new u5 _)); refine step_append_at (w0 := u6b) (by with_reducible rfl) (by rfl) (.tmp 93) (.tmp 95) 29 29 (by rfl) _ _ (by rfl) (by rfl) (hr7 _) ?_; clear hr7)))
  all_goals go_wp2
  all_goals go_ret
  all_goals exact ⟨rfl, HX.out.1, HX.out.2⟩
end Go.Proofs.Ytleelemcmnlfiaa

/- The walk of a disk's Crash. The document's disk in memory; the walks of its Sync, Read, Crash. The walk of the document's Crash. -/
import Derived.Test.YtleelemcmnlfiaaPart06
import Derived.Test.YtleelemcmnlfiaaPart08
import Derived.Test.YtleelemcmnlfiaaPart09
namespace Go.Proofs.Ytleelemcmnlfiaa
open Go.RowKit

/-- What a crash leaves. -/
def leftOf (s : St) (n t : Int) : List Fl :=
  if 0 ≤ n then (match s.wait[n.toNat]? with
    | some c => torn (run s.last (s.wait.take n.toNat)) c t
    | none => run s.last (s.wait.take n.toNat))
  else s.last

/-- The files that are left, so far: behind a variable of the call's own. -/
def Lf (w wr : World) (L : Nat) (fs : List Fl) : Prop :=
  ∃ ao N cap zk Fk, wr.cell? ⟨L, 0, none⟩ = some (.slice ao N cap) ∧ wr.frozen? ⟨L, 0, none⟩ = false ∧ Fol wr (.slice ao N cap) zk Fk ∧ zk.map Ent.fl = fs ∧ ¬ Fk L ∧ (∀ j, Fk j → w.heap.size ≤ j) ∧ Below w.heap.size w wr ∧ w.heap.size ≤ L ∧ L < wr.heap.size

theorem Lf.below {w wr w' : World} {L : Nat} {fs : List Fl} (h : Lf w wr L fs) (hb : Below wr.heap.size wr w') : Lf w w' L fs := by
  obtain ⟨ao, N, cap, zk, Fk, h1, h2, h3, h4, h5, h6, h7, h8, h9⟩ := h
  exact ⟨ao, N, cap, zk, Fk, below_cell hb h1, (below_frozen hb h1).trans h2, h3.below hb, h4, h5, h6, h7.trans (hb.mono h7.size), h8, Nat.lt_of_lt_of_le h9 hb.size⟩
/-- One change of them. -/
theorem Lf.chg {w wr w' : World} {L : Nat} {fs : List Fl} {ao : Option Addr} {N cap : Nat} {Fk : Nat → Prop} (hc : wr.cell? ⟨L, 0, none⟩ = some (.slice ao N cap)) (hf : wr.frozen? ⟨L, 0, none⟩ = false) (hL : ¬ Fk L) (h6 : ∀ j, Fk j → w.heap.size ≤ j) (h7 : Below w.heap.size w wr) (h8 : w.heap.size ≤ L) (h9 : L < wr.heap.size) (h : Chg wr w' L 0 Fk fs) : Lf w w' L fs := by
  obtain ⟨v', zs', g1, g2, g3⟩ := h
  obtain ⟨ao', N', cap', rfl⟩ := own_slice g1.row
  have hat := g3.at hc hL
  have hs := g3.size
  rw [setCell_size] at hs
  refine ⟨ao', N', cap', zs', _, hat.1, hat.2.trans hf, g1, g2, fun hk => ?_, fun j hj => ?_, ?_, h8, by omega⟩
  · rcases hk with hk | hk
    · exact hL hk
    · omega
  · rcases hj with hj | hj
    · exact h6 j hj
    · have := h7.size; omega
  · have h10 : Below w.heap.size wr (wr.setCell ⟨L, 0, none⟩ (.slice ao' N' cap')) := (Below.refl _ _).setCell h8 _
    exact (h7.trans h10).trans (g3.below h6 (by rw [setCell_size]; exact h7.size))

theorem slice_front61 (ao : Option Addr) (L cap k : Nat) (hk : k ≤ L) (hc : L ≤ cap) (w' : World) : (Instr.slice 61 (.slice ao L cap) none (some (.int .i64 (k : Int))) none).run Try.prog w' = .ok (.slice ao k cap) w' ∧ (Instr.sliceAt 61 (.slice ao L cap) none (some (.int .i64 (k : Int))) none).run Try.prog w' = .ok (.slice ao k cap) w' := by
  have elem61 : Try.prog.underlying 61 = some (.slice (Try.prog.elem 61)) := by kernel_rfl
  have size61 : ∀ w : World, (sizeOf (Try.prog.elem 61)).run Try.prog w = .ok 5 w := fun w => by kernel_rfl
  have e : (Instr.slice 61 (.slice ao L cap) none (some (.int .i64 (k : Int))) none).run Try.prog w' = .ok (.slice ao k cap) w' := by
    rw [run_slice_h w' 61 ao L cap elem61 .i64 k (by omega) (by omega), size61]
    simp [Result.andThen, sliced]
    cases ao <;> simp [Addr.add]
  exact ⟨e, by rw [run_sliceAt_slice (P := Try.prog) w' 61 _ _ _ _ elem61]; exact e⟩

/-- A disk of what is left. -/
theorem Lf.boxed {w w4 w5 : World} {fs : List Fl} {room : Int} {ao : Option Addr} {N cap : Nat} {zk : List Ent} {Fk : Nat → Prop} (h3 : Fol w4 (.slice ao N cap) zk Fk) (h4 : zk.map Ent.fl = fs) (h6 : ∀ j, Fk j → w.heap.size ≤ j) (h7 : Below w.heap.size w w4) (hs : Srt fs) (hr : 0 ≤ room ∧ room ≤ 4194304)
    {v' : Value} {zs' : List Ent} (g1 : Fol w5 v' zs' (ext (fun _ => False) w4 w5)) (g2 : zs'.map Ent.fl = fs) (g3 : Below w4.heap.size w4 w5) :
    Dk (w5.alloc (.cells #[.int .i64 room, .slice ao N cap, v', .slice none 0 0] 63)) w5.heap.size ⟨room, fs, []⟩ (ext (fun _ => False) w (w5.alloc (.cells #[.int .i64 room, .slice ao N cap, v', .slice none 0 0] 63))) ∧ Below w.heap.size w (w5.alloc (.cells #[.int .i64 room, .slice ao N cap, v', .slice none 0 0] 63)) := by
  have hb5 : Below w5.heap.size w5 (w5.alloc (.cells #[.int .i64 room, .slice ao N cap, v', .slice none 0 0] 63)) := (Below.refl _ _).alloc (Nat.le_refl _) _
  have hb : Below w.heap.size w (w5.alloc (.cells #[.int .i64 room, .slice ao N cap, v', .slice none 0 0] 63)) := (h7.trans (g3.mono h7.size)).trans (hb5.mono (Nat.le_trans h7.size g3.size))
  have hsz : (w5.alloc (.cells #[.int .i64 room, .slice ao N cap, v', .slice none 0 0] 63)).heap.size = w5.heap.size + 1 := by simp
  have e7 := h7.size
  have e3 := g3.size
  refine ⟨⟨⟨hs, trivial, hr.1, hr.2⟩, ext_lt (fun _ h => h.elim) hb.size, .slice ao N cap, v', .slice none 0 0, zk, zs', [], Fk, ext (fun _ => False) w4 w5, fun _ => False, ⟨heap_alloc_new _ _, (h3.below g3).below hb5, g1.below hb5, Wt.nil _ _ (fun _ h => h.elim), fun k hk hE => ?_, fun _ _ => id, fun _ _ => id, fun hk => ?_, fun hk => ?_, id⟩, h4, g2, rfl, fun k hk => ?_⟩, hb⟩
  · rcases hE with hE | hE
    · exact hE.elim
    · have := h3.lt k hk; omega
  · have := h3.lt _ hk; omega
  · rcases hk with hk | hk
    · exact hk.elim
    · omega
  · rcases hk with hk | hk | hk | hk
    · exact Or.inr ⟨h6 k hk, by have := h3.lt k hk; omega⟩
    · rcases hk with hk | hk
      · exact hk.elim
      · exact Or.inr ⟨by omega, by omega⟩
    · exact hk.elim
    · exact Or.inr ⟨by omega, by omega⟩

/-- The next change, done to what is left. -/
theorem Lf.step {w : World} {s : St} {vw : Value} {ws : List (Cv × Ch)} {Fw : Nat → Prop} (hwt : Wt w vw ws Fw) (g3 : ws.map Prod.snd = s.wait) (hg : s.good) (hm : s.mass ≤ 1000000000) (L k : Nat) (hk : k < ws.length) (wr wr1 : World) (h : Lf w wr L (run s.last (s.wait.take k))) (hb : Below wr.heap.size wr wr1) :
    Calls Try.prog 36 #[.pointer (some ⟨L, 0, none⟩), ws[k].1.val] wr1 fun e w' => e = .returned (.tuple #[]) ∧ Lf w w' L (run s.last (s.wait.take (k + 1))) := by
  have h1 := h.below hb
  obtain ⟨ao, N, cap, zk, Fk, c1, c2, c3, c4, c5, c6, c7, c8, c9⟩ := h1
  have hget : s.wait[k]? = some ws[k].2 := by rw [← g3, List.getElem?_map, List.getElem?_eq_getElem hk]; rfl
  have hsrt : Srt (run s.last (s.wait.take k)) := run_srt _ _ hg.srt
  have hms : mass (run s.last (s.wait.take k)) + (ws[k].2).mass ≤ s.mass := by
    have e1 := run_mass (s.wait.take k) s.last hg.srt
    have e2 := wmass_take s.wait (k + 1)
    rw [take_succ_snoc _ _ _ hget] at e2
    have e3 : wmass (s.wait.take k ++ [ws[k].2]) = wmass (s.wait.take k) + (ws[k].2).mass := by simp [wmass]
    unfold St.mass
    omega
  have hcv := ((hwt.kept (G := fun _ => False) (Fr.of_below c7) (fun _ _ => id)).away (G := fun j => Fk j ∨ j = L) (fun j hj hG => by
    have := hwt.lt j hj
    rcases hG with hG | hG
    · have := c6 j hG; omega
    · omega) ws[k] (List.getElem_mem hk))
  refine (do_any L 0 _ zk Fk _ ws[k].2 wr1 c1 c2 c3 c5 (by rw [c4]; exact hsrt) hcv (by rw [c4]; exact okw_take k _ _ hg.ok _ hget) (by rw [c4]; omega)).mono ?_
  rintro e w' ⟨rfl, hX⟩
  refine ⟨rfl, ?_⟩
  rw [take_succ_snoc _ _ _ hget, run_snoc, ← c4]
  exact Lf.chg c1 c2 c5 c6 c7 c8 c9 hX
/-- The next change, torn. -/
theorem Lf.torn {w : World} {s : St} {vw : Value} {ws : List (Cv × Ch)} {Fw : Nat → Prop} (hwt : Wt w vw ws Fw) (g3 : ws.map Prod.snd = s.wait) (hg : s.good) (hm : s.mass ≤ 1000000000) (L k : Nat) (t : Int) (hk : k < ws.length) (wr1 : World) (h : Lf w wr1 L (run s.last (s.wait.take k))) :
    Calls Try.prog 38 #[.pointer (some ⟨L, 0, none⟩), ws[k].1.val, .int .i64 t] wr1 fun e w' => e = .returned (.tuple #[]) ∧ Lf w w' L (torn (run s.last (s.wait.take k)) ws[k].2 t) := by
  obtain ⟨ao, N, cap, zk, Fk, c1, c2, c3, c4, c5, c6, c7, c8, c9⟩ := h
  have hget : s.wait[k]? = some ws[k].2 := by rw [← g3, List.getElem?_map, List.getElem?_eq_getElem hk]; rfl
  have hsrt : Srt (run s.last (s.wait.take k)) := run_srt _ _ hg.srt
  have hms : mass (run s.last (s.wait.take k)) + (ws[k].2).mass ≤ s.mass := by
    have e1 := run_mass (s.wait.take k) s.last hg.srt
    have e2 := wmass_take s.wait (k + 1)
    rw [take_succ_snoc _ _ _ hget] at e2
    have e3 : wmass (s.wait.take k ++ [ws[k].2]) = wmass (s.wait.take k) + (ws[k].2).mass := by simp [wmass]
    unfold St.mass
    omega
  have hcv := ((hwt.kept (G := fun _ => False) (Fr.of_below c7) (fun _ _ => id)).away (G := fun j => Fk j ∨ j = L) (fun j hj hG => by
    have := hwt.lt j hj
    rcases hG with hG | hG
    · have := c6 j hG; omega
    · omega) ws[k] (List.getElem_mem hk))
  refine (tear_any L 0 _ zk Fk _ ws[k].2 t wr1 c1 c2 c3 c5 (by rw [c4]; exact hsrt) hcv (by rw [c4]; omega)).mono ?_
  rintro e w' ⟨rfl, hX⟩
  refine ⟨rfl, ?_⟩
  rw [← c4]
  exact Lf.chg c1 c2 c5 c6 c7 c8 c9 hX
end Go.Proofs.Ytleelemcmnlfiaa
namespace Go.Proofs.Ytleelemcmnlfiaa
open Go.RowKit

theorem RcOk.kept {w w' : World} {kd : Int} {nm t : ByteArray} {sz : Int} {dv : Value} {c : Ch} {R G : Nat → Prop} (h : RcOk w kd nm t sz dv c R) (hf : Fr G w w') (hd : ∀ k, R k → ¬ G k) : RcOk w' kd nm t sz dv c R := by
  refine ⟨h.1, ?_⟩
  have h2 := h.2
  cases c with
  | app n b => exact ⟨h2.1, h2.2.1, h2.2.2.kept (hf.mono fun k _ hG hR => hd k hR hG)⟩
  | cut n k => exact h2
  | rem n => exact h2
  | mov n m => exact h2
theorem RcOk.mono {w : World} {kd : Int} {nm t : ByteArray} {sz : Int} {dv : Value} {c : Ch} {R S : Nat → Prop} (h : RcOk w kd nm t sz dv c R) (hg : ∀ k, R k → S k) : RcOk w kd nm t sz dv c S := by
  refine ⟨h.1, ?_⟩
  have h2 := h.2
  cases c with
  | app n b => exact ⟨h2.1, h2.2.1, h2.2.2.mono fun k hk hR => hk (hg k hR)⟩
  | cut n k => exact h2
  | rem n => exact h2
  | mov n m => exact h2

/-- A change that waits, as the document has it. -/
structure Rc where
  kd : Int
  nm : ByteArray
  t : ByteArray
  sz : Int
  dv : Value
def Rc.cells (c : Rc) : List Value := [.int .i64 c.kd, .string c.nm, .string c.t, .int .i64 c.sz, c.dv]
def cellsR (ys : List (Rc × Ch)) : List Value := ys.flatMap fun y => y.1.cells
theorem cellsR_len : ∀ ws : List (Rc × Ch), (cellsR ws).length = ws.length * 5
  | [] => rfl
  | z :: r => by
    have := cellsR_len r
    simp [cellsR, Rc.cells] at this ⊢
    omega
theorem cellsR_append (a b : List (Rc × Ch)) : cellsR (a ++ b) = cellsR a ++ cellsR b := by simp [cellsR]
theorem cellsR_cons (z : Rc × Ch) (b : List (Rc × Ch)) : cellsR (z :: b) = z.1.cells ++ cellsR b := by simp [cellsR]
theorem cellsR_get (ws : List (Rc × Ch)) (i : Nat) (h : i < ws.length) (j : Nat) (hj : j < 5) : (cellsR ws)[i * 5 + j]? = ws[i].1.cells[j]? := by
  have e : ws = ws.take i ++ ws[i] :: ws.drop (i + 1) := by simp
  have hl : (ws.take i).length = i := by simp; omega
  have h1 : cellsR ws = cellsR (ws.take i) ++ (ws[i].1.cells ++ cellsR (ws.drop (i + 1))) := by
    rw [← cellsR_cons, ← cellsR_append, ← e]
  rw [h1, List.getElem?_append_right (by rw [cellsR_len, hl]; omega), cellsR_len, hl, Nat.add_sub_cancel_left, List.getElem?_append_left (by simp [Rc.cells]; omega)]

structure RW (w : World) (v : Value) (ys : List (Rc × Ch)) (R : Nat → Prop) : Prop where
  row : w.ownsRow 0 48 5 v ys.length (cellsR ys)
  each : ∀ y ∈ ys, RcOk w y.1.kd y.1.nm y.1.t y.1.sz y.1.dv y.2 R
  rowIn : ∀ k, v.ownBlock = some k → R k
theorem RW.kept {w w' : World} {v : Value} {ys : List (Rc × Ch)} {R G : Nat → Prop} (h : RW w v ys R) (hf : Fr G w w') (hd : ∀ k, R k → ¬ G k) : RW w' v ys R :=
  ⟨own_kept h.row hf fun k hk => hd k (h.rowIn k hk), fun y hy => (h.each y hy).kept hf hd, h.rowIn⟩
theorem RW.mono {w : World} {v : Value} {ys : List (Rc × Ch)} {R S : Nat → Prop} (h : RW w v ys R) (hg : ∀ k, R k → S k) : RW w v ys S :=
  ⟨h.row, fun y hy => (h.each y hy).mono hg, fun k hk => hg k (h.rowIn k hk)⟩
theorem RW.nil (w : World) (R : Nat → Prop) : RW w (.slice none 0 0) [] R := ⟨World.ownsRow_nil _ _ _ _, by simp, by simp [Value.ownBlock]⟩
theorem RW.shape {w : World} {v : Value} {ys : List (Rc × Ch)} {R : Nat → Prop} (h : RW w v ys R) : ∃ ao cap, v = .slice ao ys.length cap ∧ (0 < ys.length → ∃ g, ao = some ⟨g, 0, none⟩) := by
  rcases own_shape h.row with ⟨rfl, e⟩ | ⟨g, cap, rfl, _⟩
  · exact ⟨none, 0, by rw [e], fun h => by omega⟩
  · exact ⟨_, _, rfl, fun _ => ⟨g, rfl⟩⟩
theorem RW.cell {w : World} {g cap n : Nat} {ws : List (Rc × Ch)} {R : Nat → Prop} (h : RW w (.slice (some ⟨g, 0, none⟩) n cap) ws R) (i : Nat) (hi : i < ws.length) :
    w.cell? ⟨g, i * 5, none⟩ = some (.int .i64 ws[i].1.kd) ∧ w.cell? ⟨g, i * 5 + 1, none⟩ = some (.string ws[i].1.nm) ∧ w.cell? ⟨g, i * 5 + 2, none⟩ = some (.string ws[i].1.t) ∧ w.cell? ⟨g, i * 5 + 3, none⟩ = some (.int .i64 ws[i].1.sz) ∧ w.cell? ⟨g, i * 5 + 4, none⟩ = some ws[i].1.dv := by
  obtain ⟨hn, _⟩ | ⟨g', cap', e, _⟩ := own_shape h.row
  · simp at hn
  · have hr := h.row
    rw [e] at hr
    simp only [Value.slice.injEq, Option.some.injEq, Addr.mk.injEq, and_true] at e
    obtain ⟨rfl, rfl, rfl⟩ := e
    have hc := fun j (hj : j < 5) => cellsR_get ws i hi j hj
    exact ⟨by rw [hr.cellAt _ (by omega)]; exact hc 0 (by omega), by rw [hr.cellAt _ (by omega)]; exact hc 1 (by omega), by rw [hr.cellAt _ (by omega)]; exact hc 2 (by omega), by rw [hr.cellAt _ (by omega)]; exact hc 3 (by omega), by rw [hr.cellAt _ (by omega)]; exact hc 4 (by omega)⟩

/-- The document's disk, part by part. -/
structure RDC (w : World) (q : Nat) (s : St) (vl vn vw : Value) (zl zn : List Ent) (ys : List (Rc × Ch)) (R : Nat → Prop) : Prop where
  heap : w.heap[q]? = some (.cells #[vl, vn, vw, .int .i64 s.room] 31 (0, 0))
  fl : RF w vl zl R
  fn : RF w vn zn R
  wt : RW w vw ys R
  nq : ¬ R q
  e1 : zl.map Ent.fl = s.last
  e2 : zn.map Ent.fl = s.now
  e3 : ys.map Prod.snd = s.wait
def RD (w : World) (q : Nat) (s : St) (R : Nat → Prop) : Prop := ∃ vl vn vw zl zn ys, RDC w q s vl vn vw zl zn ys R
theorem RDC.plt {w : World} {q : Nat} {s : St} {vl vn vw : Value} {zl zn : List Ent} {ys : List (Rc × Ch)} {R : Nat → Prop} (h : RDC w q s vl vn vw zl zn ys R) : q < w.heap.size := (Array.getElem?_eq_some_iff.1 h.heap).1
theorem RDC.cells {w : World} {q : Nat} {s : St} {vl vn vw : Value} {zl zn : List Ent} {ys : List (Rc × Ch)} {R : Nat → Prop} (h : RDC w q s vl vn vw zl zn ys R) :
    w.cell? ⟨q, 0, none⟩ = some vl ∧ w.cell? ⟨q, 1, none⟩ = some vn ∧ w.cell? ⟨q, 2, none⟩ = some vw ∧ w.cell? ⟨q, 3, none⟩ = some (.int .i64 s.room) ∧ ∀ j, w.frozen? ⟨q, j, none⟩ = false := by
  refine ⟨?_, ?_, ?_, ?_, fun j => by simp [World.frozen?, h.heap]⟩
  · rw [cell_of_row w q 0 _ _ _ h.heap]; rfl
  · rw [cell_of_row w q 1 _ _ _ h.heap]; rfl
  · rw [cell_of_row w q 2 _ _ _ h.heap]; rfl
  · rw [cell_of_row w q 3 _ _ _ h.heap]; rfl
theorem RDC.kept {w w' : World} {q : Nat} {s : St} {vl vn vw : Value} {zl zn : List Ent} {ys : List (Rc × Ch)} {R G : Nat → Prop} (h : RDC w q s vl vn vw zl zn ys R) (hf : Fr G w w') (hd : ∀ k, R k → ¬ G k) (hq : ¬ G q) : RDC w' q s vl vn vw zl zn ys R :=
  ⟨(hf.block q h.plt hq).trans h.heap, h.fl.kept hf hd, h.fn.kept hf hd, h.wt.kept hf hd, h.nq, h.e1, h.e2, h.e3⟩
theorem RD.kept {w w' : World} {q : Nat} {s : St} {R G : Nat → Prop} (h : RD w q s R) (hf : Fr G w w') (hd : ∀ k, R k → ¬ G k) (hq : ¬ G q) : RD w' q s R := by
  obtain ⟨vl, vn, vw, zl, zn, ys, h⟩ := h
  exact ⟨vl, vn, vw, zl, zn, ys, h.kept hf hd hq⟩
theorem RD.below {w w' : World} {q : Nat} {s : St} {R : Nat → Prop} (h : RD w q s R) (hb : Below w.heap.size w w') : RD w' q s R := h.kept (G := fun _ => False) (Fr.of_below hb) (fun _ _ => id) id

set_option maxHeartbeats 1000000 in
theorem rsync_any (q : Nat) (s : St) (R : Nat → Prop) (w : World) (h : RD w q s R) :
    Calls Try.prog 18 #[.pointer (some ⟨q, 0, none⟩)] w fun e w' => e = .returned (.tuple #[]) ∧ RD w' q ⟨s.room, s.now, []⟩ R ∧ Fr (fun k => k = q) w w' := by
  obtain ⟨vl, vn, vw, zl, zn, ys, h⟩ := h
  obtain ⟨c0, c1, c2, c3, cz⟩ := h.cells
  have z0 := cz 0
  have z2 := cz 2
  obtain ⟨aon, capn, hvn, _⟩ := h.fn.shape
  subst hvn
  have HX : Hid (RD ((w.setCell ⟨q, 0, none⟩ (.slice aon zn.length capn)).setCell ⟨q, 2, none⟩ (.slice none 0 0)) q ⟨s.room, s.now, []⟩ R ∧ Fr (fun k => k = q) w ((w.setCell ⟨q, 0, none⟩ (.slice aon zn.length capn)).setCell ⟨q, 2, none⟩ (.slice none 0 0))) := by
    have hf : Fr (fun k => k = q) w ((w.setCell ⟨q, 0, none⟩ (.slice aon zn.length capn)).setCell ⟨q, 2, none⟩ (.slice none 0 0)) := (Fr.one w q 0 _).trans (Fr.one _ q 2 _) (fun _ _ e => e)
    have hd : ∀ k, R k → ¬ k = q := fun k hk e => h.nq (e ▸ hk)
    refine ⟨⟨.slice aon zn.length capn, .slice aon zn.length capn, .slice none 0 0, zn, zn, [], ?_, h.fn.kept hf hd, h.fn.kept hf hd, RW.nil _ _, h.nq, h.e2, h.e2, rfl⟩, hf⟩
    rw [heap_set (heap_set h.heap _)]
    rfl
  clear h cz
  go_enter Try.func18, Try.ntmps18
  go_wp2
  go_end0
  exact ⟨rfl, HX.out.1, HX.out.2⟩

set_option maxHeartbeats 1000000 in
theorem rread_any (q : Nat) (s : St) (R : Nat → Prop) (n : ByteArray) (w : World) (h : RD w q s R) (hs : Srt s.now) (hm : mass s.now ≤ 100000000) :
    Calls Try.prog 25 #[.pointer (some ⟨q, 0, none⟩), .string n] w fun e w' => ∃ ao L cap, e = .returned (.tuple #[.slice ao L cap, .bool (look n s.now).isSome]) ∧ w' = w := by
  obtain ⟨vl, vn, vw, zl, zn, ys, h⟩ := h
  obtain ⟨c0, c1, c2, c3, cz⟩ := h.cells
  have hum := used_mass (zn.map Ent.fl)
  rw [List.length_map] at hum
  rw [← h.e2] at hs hm ⊢
  rcases splitE n zn hs with ⟨ul, z, ur, hh⟩ | ⟨ul, ur, hh⟩
  · have HA : Hid (_) := at_hit vn zn R n ul z ur w h.fn hh (by omega)
    obtain ⟨aon, capn, rfl, hao⟩ := h.fn.shape
    have hlz : ul.length < zn.length := by rw [hh.1]; simp
    have hlt' : (ul.length : Int) < (zn.length : Int) := by omega
    obtain ⟨g, rfl⟩ := hao (by omega)
    have hzz : zn[ul.length] = z := by simp only [hh.1]; simp
    obtain ⟨k0, k1⟩ := h.fn.cell ul.length hlz
    rw [hzz] at k1
    obtain ⟨aoz, capz, hzd, _, _⟩ := (h.fn.data z (by rw [hh.1]; simp)).sl.shape
    rw [hzd] at k1
    rw [hh.hit.lookE]
    simp only [Option.isSome_some]
    clear h cz hum hh hm hs hzd hao hzz
    go_enter Try.func25, Try.ntmps25
    go_wp2_with (go_at_call 41; refine Calls.mono HA.out ?_; rintro e w' ⟨rfl, hw⟩; have hw' := hw.symm; subst hw')
    go_ret2
    exact ⟨_, _, _, rfl, rfl⟩
  · have HA : Hid (_) := at_miss vn zn R n ul ur w h.fn hh (by omega)
    obtain ⟨aon, capn, rfl, hao⟩ := h.fn.shape
    rw [hh.miss.lookE]
    simp only [Option.isSome_none]
    clear h cz hum hh hm hs hao
    go_enter Try.func25, Try.ntmps25
    go_wp2_with (go_at_call 41; refine Calls.mono HA.out ?_; rintro e w' ⟨rfl, hw⟩; have hw' := hw.symm; subst hw')
    go_ret2
    exact ⟨_, _, _, rfl, rfl⟩
end Go.Proofs.Ytleelemcmnlfiaa
namespace Go.Proofs.Ytleelemcmnlfiaa
open Go.RowKit

/-- The files so far, behind the call's first world. -/
def CR (w wr : World) (v : Value) (R : Nat → Prop) (fs : List Fl) : Prop := ∃ zs, RF wr v zs (ext R w wr) ∧ zs.map Ent.fl = fs ∧ Below w.heap.size w wr
theorem CR.below {w wr w' : World} {v : Value} {R : Nat → Prop} {fs : List Fl} (h : CR w wr v R fs) (hb : Below wr.heap.size wr w') : CR w w' v R fs := by
  obtain ⟨zs, h1, h2, h3⟩ := h
  exact ⟨zs, h1.up hb, h2, h3.trans (hb.mono h3.size)⟩
theorem CR.step {w wr : World} {ao : Option Addr} {N cap : Nat} {R : Nat → Prop} {fs : List Fl} (h : CR w wr (.slice ao N cap) R fs) (hR : ∀ k, R k → k < w.heap.size) (hs : Srt fs) (kd : Int) (nm t : ByteArray) (sz : Int) (dv : Value) (c : Ch) (hc : RcOk wr kd nm t sz dv c (ext R w wr)) (hok : Okc fs c) (hm : mass fs + c.mass ≤ 100000000) :
    Calls Try.prog 39 #[.slice ao N cap, .agg #[.int .i64 kd, .string nm, .string t, .int .i64 sz, dv]] wr fun e w' => ∃ ao' N' cap', e = .returned (.slice ao' N' cap') ∧ Hid (Below wr.heap.size wr w') ∧ Hid (CR w w' (.slice ao' N' cap') R (ap fs c)) := by
  obtain ⟨zs, h1, h2, h3⟩ := h
  subst h2
  refine (rdo_any _ zs (ext R w wr) kd nm t sz dv c wr h1 hs hc hok hm).mono ?_
  rintro e w' ⟨ao', N', cap', zs', rfl, g1, g2, g3⟩
  refine ⟨ao', N', cap', rfl, g3, zs', g1.mono (fun k hk => ?_) (ext_lt hR (Nat.le_trans h3.size g3.size)), g2, h3.trans (g3.mono h3.size)⟩
  have := h3.size
  have := g3.size
  rcases hk with (hk | hk) | hk
  · exact Or.inl hk
  · exact Or.inr ⟨hk.1, by omega⟩
  · exact Or.inr ⟨by omega, hk.2⟩
theorem CR.boxed {w wr : World} {v : Value} {R : Nat → Prop} {fs : List Fl} (h : CR w wr v R fs) (room : Int) :
    RD (wr.alloc (.cells #[v, v, .slice none 0 0, .int .i64 room] 31)) wr.heap.size ⟨room, fs, []⟩ (ext R w wr) ∧ Below w.heap.size w (wr.alloc (.cells #[v, v, .slice none 0 0, .int .i64 room] 31)) := by
  obtain ⟨zs, h1, h2, h3⟩ := h
  have hb := bel_box wr (.cells #[v, v, .slice none 0 0, .int .i64 room] 31)
  refine ⟨⟨v, v, .slice none 0 0, zs, zs, [], heap_alloc_new _ _, h1.below hb, h1.below hb, RW.nil _ _, fun hk => ?_, h2, h2, rfl⟩, h3.trans (hb.mono h3.size)⟩
  have := h1.lt _ hk
  omega

set_option maxHeartbeats 4000000 in
set_option maxRecDepth 20000 in
theorem rcrash_any (q : Nat) (s : St) (R : Nat → Prop) (n t : Int) (w : World) (h : RD w q s R) (hg : s.good) (hm : s.mass ≤ 50000000) :
    Calls Try.prog 21 #[.pointer (some ⟨q, 0, none⟩), .int .i64 n, .int .i64 t] w fun e w' => ∃ q' R', e = .returned (.pointer (some ⟨q', 0, none⟩)) ∧ w.heap.size ≤ q' ∧ RD w' q' ⟨s.room, leftOf s n t, []⟩ R' ∧ (∀ k, R' k → R k ∨ w.heap.size ≤ k) ∧ Below w.heap.size w w' := by
  obtain ⟨vl, vn, vw, zl, zn, ys, h⟩ := h
  obtain ⟨c0, c1, c2, c3, cz⟩ := h.cells
  have hRlt := h.fl.lt
  have hyl : ys.length = s.wait.length := by rw [← h.e3, List.length_map]
  have hyb : ys.length ≤ 50000000 := by unfold St.mass at hm; omega
  obtain ⟨aol, capl, hvl, _⟩ := h.fl.shape
  obtain ⟨aow, capw, hvw, haw⟩ := h.wt.shape
  subst hvw
  have h0 : CR w w vl R (run s.last (s.wait.take 0)) := ⟨zl, h.fl.mono (fun _ hk => Or.inl hk) (ext_lt hRlt (Nat.le_refl _)), h.e1, Below.refl _ _⟩
  have hmass : ∀ k (hk : k < ys.length), mass (run s.last (s.wait.take k)) + (ys[k].2).mass ≤ 50000000 ∧ s.wait[k]? = some ys[k].2 := fun k hk => by
    have hget : s.wait[k]? = some ys[k].2 := by rw [← h.e3, List.getElem?_map, List.getElem?_eq_getElem hk]; rfl
    have e1 := run_mass (s.wait.take k) s.last hg.srt
    have e2 := wmass_take s.wait (k + 1)
    rw [take_succ_snoc _ _ _ hget] at e2
    have e3 : wmass (s.wait.take k ++ [ys[k].2]) = wmass (s.wait.take k) + (ys[k].2).mass := by simp [wmass]
    unfold St.mass at hm
    exact ⟨by omega, hget⟩
  have HSt : Hid (∀ (k : Nat) (hk : k < ys.length) (wr : World) (ao : Option Addr) (N cap : Nat), CR w wr (.slice ao N cap) R (run s.last (s.wait.take k)) → Calls Try.prog 39 #[.slice ao N cap, .agg #[.int .i64 ys[k].1.kd, .string ys[k].1.nm, .string ys[k].1.t, .int .i64 ys[k].1.sz, ys[k].1.dv]] wr fun e w' => ∃ ao' N' cap', e = .returned (.slice ao' N' cap') ∧ Hid (Below wr.heap.size wr w') ∧ Hid (CR w w' (.slice ao' N' cap') R (run s.last (s.wait.take (k + 1))))) := by
    intro k hk wr ao N cap hC
    have hget := (hmass k hk).2
    rw [take_succ_snoc _ _ _ hget, run_snoc]
    refine hC.step hRlt (run_srt _ _ hg.srt) _ _ _ _ _ ys[k].2 (((h.wt.each ys[k] (List.getElem_mem hk)).kept (Fr.of_below (F := fun _ => False) hC.choose_spec.2.2) (fun _ _ => id)).mono (fun _ h => Or.inl h)) (okw_take k _ _ hg.ok _ hget) ?_
    have := (hmass k hk).1
    omega
  have HW : Hid (_) := h.wt
  have HEnd : Hid (∀ (wr : World) (v : Value) (fs : List Fl), CR w wr v R fs → RD (wr.alloc (.cells #[v, v, .slice none 0 0, .int .i64 s.room] 31)) wr.heap.size ⟨s.room, fs, []⟩ (ext R w wr) ∧ Below w.heap.size w (wr.alloc (.cells #[v, v, .slice none 0 0, .int .i64 s.room] 31)) ∧ w.heap.size ≤ wr.heap.size) := by
    intro wr v fs hC
    have hb := hC.boxed s.room
    exact ⟨hb.1, hb.2, hC.choose_spec.2.2.size⟩
  have HQ : Hid (w.cell? ⟨q, 2, none⟩ = some (.slice aow ys.length capw) ∧ w.cell? ⟨q, 3, none⟩ = some (.int .i64 s.room)) := ⟨c2, c3⟩
  have HM : Hid (_) := hmass
  have HYL : Hid (_) := hyl
  have HG : Hid (s.good) := hg
  have HRlt : Hid (_) := hRlt
  subst hvl
  have HC0 : Hid (_) := h0
  clear h cz hmass hyl hm hRlt h0 c1 c2 c3 hg
  go_enter Try.func21, Try.ntmps21
  go_wp2
  go_loopw [7, 8] (fun v vi wr => ∃ (k : Nat) (ao : Option Addr) (N cap : Nat), k ≤ ys.length ∧ ((k : Int) ≤ n ∨ k = 0) ∧ vi = .int .i64 k ∧ v = .slice ao N cap ∧ Hid (CR w wr (.slice ao N cap) R (run s.last (s.wait.take k)))) (fun _ vi _ => ys.length - (intOf vi).toNat)
  case atStart => exact ⟨0, _, _, _, Nat.zero_le _, Or.inr rfl, rfl, rfl, HC0.out⟩
  case round =>
    clear HC0
    obtain ⟨k, ao, N, cap, hk, hkn, rfl, rfl, HK⟩ := hrel
    have hbw := HK.out.choose_spec.2.2
    have d2 := below_cell hbw HQ.out.1
    have d3 := below_cell hbw HQ.out.2
    by_cases hlt : k < ys.length ∧ (k : Int) < n
    · obtain ⟨hlt, hln⟩ := hlt
      have hlt' : (k : Int) < (ys.length : Int) := by omega
      obtain ⟨g, rfl⟩ := haw (by omega)
      obtain ⟨m0, m1, m2, m3, m4⟩ := (RW.kept (G := fun _ => False) HW.out (Fr.of_below hbw) (fun _ _ => id)).cell k hlt
      have HS : Hid (_) := HSt.out k hlt wr ao N cap HK.out
      obtain ⟨aod, Ld, capd, hd⟩ := (HW.out.each ys[k] (List.getElem_mem hlt)).1
      rw [hd] at m4 HS
      generalize ys[k].1.kd = kd at *
      generalize ys[k].1.nm = nm at *
      generalize ys[k].1.t = tt at *
      generalize ys[k].1.sz = sz at *
      clear hd hbw HK HSt HEnd
      go_wp2_with (go_at_call 39; refine Calls.mono HS.out ?_; rintro e w5 ⟨ao', N', cap', rfl, hB5, HX⟩)
      go_roundw
      case rel => exact ⟨k + 1, ao', N', cap', by omega, Or.inl (by omega), by go_num, rfl, HX⟩
      case measure => simp [intOf]; omega
    · by_cases hno : (k : Int) < (ys.length : Int) ∧ n = (k : Int)
      · obtain ⟨hlt', rfl⟩ := hno
        have hlt1 : k < ys.length := by omega
        obtain ⟨g, rfl⟩ := haw (by omega)
        obtain ⟨m0, m1, m2, m3, m4⟩ := (RW.kept (G := fun _ => False) HW.out (Fr.of_below hbw) (fun _ _ => id)).cell k hlt1
        have hget := (HM.out k hlt1).2
        have hms := (HM.out k hlt1).1
        have hRc := HW.out.each ys[k] (List.getElem_mem hlt1)
        have hOk := okw_take k _ _ HG.out.ok _ hget
        have hleft : leftOf s (k : Int) t = torn (run s.last (s.wait.take k)) ys[k].2 t := by
          unfold leftOf
          rw [if_pos (by omega)]
          simp only [Int.toNat_natCast, hget]
        obtain ⟨⟨aod, Ld, capd, hd⟩, hRc2⟩ := id hRc
        rw [hd] at m4
        have hk0 : (0 : Int) ≤ (k : Int) := by omega
        by_cases happ : ∃ nn bb, ys[k].2 = .app nn bb
        · obtain ⟨nn, bb, hch⟩ := happ
          rw [hch] at hRc2 hleft hms
          obtain ⟨e1, e2, e3⟩ := hRc2
          rw [e1] at m0
          rw [hd] at e3
          have hbl : Ld = bb.length := e3.sl.len
          subst hbl
          by_cases ht : t < 0
          · simp only [torn, if_pos ht] at hleft
            have HX : Hid (_) := HEnd.out wr _ _ HK.out
            have HL : Hid (_) := hleft
            generalize ys[k].1.nm = nm at *
            generalize ys[k].1.t = tt at *
            generalize ys[k].1.sz = sz at *
            clear hget hRc hOk hleft hd hch e1 e2 e3 hms HK HSt HEnd HM hbw hlt
            go_wp2
            go_ret
            exact ⟨_, _, rfl, HX.out.2.2, by rw [HL.out]; exact HX.out.1, fun j hj => by rcases hj with hj | hj; exact Or.inl hj; exact Or.inr hj.1, HX.out.2.1⟩
          · obtain ⟨tn, rfl⟩ : ∃ tn : Nat, t = (tn : Int) := ⟨t.toNat, by omega⟩
            simp only [torn, if_neg ht, Int.toNat_natCast] at hleft
            obtain ⟨L', hL'⟩ : ∃ L', L' = min bb.length tn := ⟨_, rfl⟩
            have HDo : Hid (∀ u, Below wr.heap.size wr u → Calls Try.prog 39 #[.slice ao N cap, .agg #[.int .i64 0, .string ys[k].1.nm, .string ys[k].1.t, .int .i64 ys[k].1.sz, .slice aod L' capd]] u fun e w5 => ∃ ao' N' cap', e = .returned (.slice ao' N' cap') ∧ w5.cell? ⟨q, 3, none⟩ = some (.int .i64 s.room) ∧ Hid (RD (w5.alloc (.cells #[.slice ao' N' cap', .slice ao' N' cap', .slice none 0 0, .int .i64 s.room] 31)) w5.heap.size ⟨s.room, leftOf s (k : Int) (tn : Int), []⟩ (ext R w w5) ∧ Below w.heap.size w (w5.alloc (.cells #[.slice ao' N' cap', .slice ao' N' cap', .slice none 0 0, .int .i64 s.room] 31)) ∧ w.heap.size ≤ w5.heap.size)) := by
              intro u hbu
              have hbwu : Below w.heap.size w u := hbw.trans (hbu.mono hbw.size)
              have hS := e3.sl.take L' (by omega)
              have hTk : bb.take L' = bb.take tn := by
                rw [hL', List.take_eq_take_iff]
                omega
              rw [hTk] at hS
              refine ((HK.out.below hbu).step HRlt.out (run_srt _ _ HG.out.srt) 0 _ _ _ _ (.app nn (bb.take tn)) ⟨⟨_, _, _, rfl⟩, rfl, e2, hS.below hbwu, fun a n c hv hn => ?_⟩ trivial ?_).mono ?_
              · simp only [Value.slice.injEq] at hv
                obtain ⟨rfl, _, _⟩ := hv
                exact e3.away a _ _ rfl (fun hRk => hn (Or.inl hRk))
              · simp only [Ch.mass, List.length_take] at hms ⊢
                omega
              · rintro e w5 ⟨ao', N', cap', rfl, hB5, HC5⟩
                refine ⟨ao', N', cap', rfl, below_cell hB5.out (below_cell hbu d3), ?_⟩
                rw [hleft]
                exact HEnd.out w5 _ _ HC5.out
            have hlz : L' ≤ 9223372036854775807 := by
              obtain ⟨_, _, ee, h1, h2⟩ := e3.sl.shape
              simp only [Value.slice.injEq] at ee
              simp only [maxLen] at h2
              omega
            by_cases htl : tn < bb.length
            · have hLt : L' = tn := by omega
              subst hLt
              have htl' : (L' : Int) < (bb.length : Int) := by omega
              have hcb : bb.length ≤ capd := by
                obtain ⟨_, _, ee, h1, _⟩ := e3.sl.shape
                simp only [Value.slice.injEq] at ee
                omega
              have hsf := fun w' => slice_front aod bb.length capd L' (by omega) hcb w'
              have HD2 : Hid (_) := HDo.out _ (bel_box wr (.cells #[.int .i64 0, .string ys[k].1.nm, .string ys[k].1.t, .int .i64 ys[k].1.sz, .slice aod L' capd] 48))
              generalize ys[k].1.nm = nm at *
              generalize ys[k].1.t = tt at *
              generalize ys[k].1.sz = sz at *
              clear hget hRc hOk hleft hd hch e1 e2 e3 hms HK HSt HEnd HM hbw hlt HDo hL'
              go_wp2_with (go_at_call 39; refine Calls.mono HD2.out ?_; rintro e w5 ⟨ao', N', cap', rfl, d35, HX⟩)
              go_ret
              exact ⟨_, _, rfl, HX.out.2.2, HX.out.1, fun j hj => by rcases hj with hj | hj; exact Or.inl hj; exact Or.inr hj.1, HX.out.2.1⟩
            · have hLt : L' = bb.length := by omega
              subst hLt
              have htl' : ¬ (tn : Int) < (bb.length : Int) := by omega
              have HD2 : Hid (_) := HDo.out _ (bel_box wr (.cells #[.int .i64 0, .string ys[k].1.nm, .string ys[k].1.t, .int .i64 ys[k].1.sz, .slice aod bb.length capd] 48))
              generalize ys[k].1.nm = nm at *
              generalize ys[k].1.t = tt at *
              generalize ys[k].1.sz = sz at *
              clear hget hRc hOk hleft hd hch e1 e2 e3 hms HK HSt HEnd HM hbw hlt HDo hL' hlz
              go_wp2_with (go_at_call 39; refine Calls.mono HD2.out ?_; rintro e w5 ⟨ao', N', cap', rfl, d35, HX⟩)
              go_ret
              exact ⟨_, _, rfl, HX.out.2.2, HX.out.1, fun j hj => by rcases hj with hj | hj; exact Or.inl hj; exact Or.inr hj.1, HX.out.2.1⟩
        · have hkd : (ys[k].1.kd == 0) = false := by
            rw [beq_eq_false_iff_ne]
            cases hch : ys[k].2 with
            | app nn bb => exact absurd ⟨nn, bb, hch⟩ happ
            | cut nn kk => rw [hch] at hRc2; rw [hRc2.1]; decide
            | rem nn => rw [hch] at hRc2; rw [hRc2.1]; decide
            | mov nn mm => rw [hch] at hRc2; rw [hRc2.1]; decide
          have hleft2 : leftOf s (k : Int) t = run s.last (s.wait.take k) := by
            rw [hleft]
            cases hch : ys[k].2 with
            | app nn bb => exact absurd ⟨nn, bb, hch⟩ happ
            | cut nn kk => rfl
            | rem nn => rfl
            | mov nn mm => rfl
          have HX : Hid (_) := HEnd.out wr _ _ HK.out
          have HL : Hid (_) := hleft2
          generalize ys[k].1.kd = kd at *
          generalize ys[k].1.nm = nm at *
          generalize ys[k].1.t = tt at *
          generalize ys[k].1.sz = sz at *
          clear hget hRc hOk hleft hleft2 hd hms HK HSt HEnd HM hbw hlt hRc2 happ
          go_wp2
          go_ret
          exact ⟨_, _, rfl, HX.out.2.2, by rw [HL.out]; exact HX.out.1, fun j hj => by rcases hj with hj | hj; exact Or.inl hj; exact Or.inr hj.1, HX.out.2.1⟩
      · have hleft2 : leftOf s n t = run s.last (s.wait.take k) := by
          have hyl : ys.length = s.wait.length := HYL.out
          unfold leftOf
          by_cases h0 : 0 ≤ n
          · have hkl : k = ys.length := by omega
            have hnl : ys.length ≤ n.toNat := by omega
            rw [if_pos h0, List.getElem?_eq_none (by omega)]
            simp only
            rw [List.take_of_length_le (by omega), List.take_of_length_le (by omega)]
          · have hk0 : k = 0 := by omega
            subst hk0
            rw [if_neg h0]
            rfl
        have HX : Hid (_) := HEnd.out wr _ _ HK.out
        have HL : Hid (_) := hleft2
        have hc6 : ¬ (0 ≤ n ∧ n < (ys.length : Int)) := by omega
        clear HK HSt HEnd HM hbw hleft2
        by_cases h1 : (k : Int) < (ys.length : Int)
        · have h2 : ¬ (k : Int) < n := by omega
          have h3 : ¬ (0 : Int) ≤ n := by omega
          clear hlt hno hkn hc6
          go_wp2
          go_ret
          exact ⟨_, rfl, HX.out.2.2, _, by rw [HL.out]; exact HX.out.1, fun j hj => by rcases hj with hj | hj; exact Or.inl hj; exact Or.inr hj.1, HX.out.2.1⟩
        · by_cases h3 : (0 : Int) ≤ n
          · have h4 : ¬ n < (ys.length : Int) := by omega
            clear hlt hno hkn hc6
            go_wp2
            go_ret
            exact ⟨_, rfl, HX.out.2.2, _, by rw [HL.out]; exact HX.out.1, fun j hj => by rcases hj with hj | hj; exact Or.inl hj; exact Or.inr hj.1, HX.out.2.1⟩
          · clear hlt hno hkn hc6
            go_wp2
            go_ret
            exact ⟨_, rfl, HX.out.2.2, _, by rw [HL.out]; exact HX.out.1, fun j hj => by rcases hj with hj | hj; exact Or.inl hj; exact Or.inr hj.1, HX.out.2.1⟩
end Go.Proofs.Ytleelemcmnlfiaa

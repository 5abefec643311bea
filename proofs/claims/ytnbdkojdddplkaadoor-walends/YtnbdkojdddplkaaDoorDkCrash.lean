/- The walk of a disk's Crash. -/
import Derived.Test.YtnbdkojdddplkaaDoorDkCallsA
import Derived.Test.YtnbdkojdddplkaaDoorDkTear
import Derived.Test.YtnbdkojdddplkaaDoorDkClone
namespace Go.Proofs.YtnbdkojdddplkaaDoor.Dk
open Go.RowKit

/-- What a crash leaves. -/
def leftOf (s : St) (n t : Int) : List Fl :=
  if 0 ≤ n then (match s.wait[n.toNat]? with
    | some c => torn (run s.last (s.wait.take n.toNat)) c t
    | none => run s.last (s.wait.take n.toNat))
  else s.last

/-- The files that are left, so far: behind a variable of the call's own. -/
def Lf (w wr : World) (L : Nat) (fs : List Fl) : Prop :=
  ∃ ao N cap zk Fk, wr.cell? ⟨L, 0, none⟩ = some (.slice ao N cap) ∧ wr.frozen? ⟨L, 0, none⟩ = false ∧ Fol wr (.slice ao N cap) zk Fk ∧ zk.map Ent.fl = fs ∧ ¬ Fk L ∧ (∀ j, Fk j → w.heap.size ≤ j) ∧ Below w.heap.size w wr ∧ w.heap.size ≤ L ∧ L < wr.heap.size

theorem Lf.below {w wr w' : World} {L : Nat} {fs : List Fl} (h : Lf w wr L fs) (hb : Below wr.heap.size wr w') : Lf w w' L fs := by
  obtain ⟨ao, N, cap, zk, Fk, h1, h2, h3, h4, h5, h6, h7, h8, h9⟩ := h
  exact ⟨ao, N, cap, zk, Fk, below_cell hb h1, (below_frozen hb h1).trans h2, h3.below hb, h4, h5, h6, h7.trans (hb.mono h7.size), h8, Nat.lt_of_lt_of_le h9 hb.size⟩
/-- One change of them. -/
theorem Lf.chg {w wr w' : World} {L : Nat} {fs : List Fl} {ao : Option Addr} {N cap : Nat} {Fk : Nat → Prop} (hc : wr.cell? ⟨L, 0, none⟩ = some (.slice ao N cap)) (hf : wr.frozen? ⟨L, 0, none⟩ = false) (hL : ¬ Fk L) (h6 : ∀ j, Fk j → w.heap.size ≤ j) (h7 : Below w.heap.size w wr) (h8 : w.heap.size ≤ L) (h9 : L < wr.heap.size) (h : Chg wr w' L 0 Fk fs) : Lf w w' L fs := by
  obtain ⟨v', zs', g1, g2, g3⟩ := h
  obtain ⟨ao', N', cap', rfl⟩ := own_slice g1.row
  have hat := g3.at hc hL
  have hs := g3.size
  rw [setCell_size] at hs
  refine ⟨ao', N', cap', zs', _, hat.1, hat.2.trans hf, g1, g2, fun hk => ?_, fun j hj => ?_, ?_, h8, by omega⟩
  · rcases hk with hk | hk
    · exact hL hk
    · omega
  · rcases hj with hj | hj
    · exact h6 j hj
    · have := h7.size; omega
  · have h10 : Below w.heap.size wr (wr.setCell ⟨L, 0, none⟩ (.slice ao' N' cap')) := (Below.refl _ _).setCell h8 _
    exact (h7.trans h10).trans (g3.below h6 (by rw [setCell_size]; exact h7.size))

theorem slice_front61 (ao : Option Addr) (L cap k : Nat) (hk : k ≤ L) (hc : L ≤ cap) (w' : World) : (Instr.slice 59 (.slice ao L cap) none (some (.int .i64 (k : Int))) none).run Tryd.prog w' = .ok (.slice ao k cap) w' ∧ (Instr.sliceAt 59 (.slice ao L cap) none (some (.int .i64 (k : Int))) none).run Tryd.prog w' = .ok (.slice ao k cap) w' := by
  have elem61 : Tryd.prog.underlying 59 = some (.slice (Tryd.prog.elem 59)) := by kernel_rfl
  have size61 : ∀ w : World, (sizeOf (Tryd.prog.elem 59)).run Tryd.prog w = .ok 5 w := fun w => by kernel_rfl
  have e : (Instr.slice 59 (.slice ao L cap) none (some (.int .i64 (k : Int))) none).run Tryd.prog w' = .ok (.slice ao k cap) w' := by
    rw [run_slice_h w' 59 ao L cap elem61 .i64 k (by omega) (by omega), size61]
    simp [Result.andThen, sliced]
    cases ao <;> simp [Addr.add]
  exact ⟨e, by rw [run_sliceAt_slice (P := Tryd.prog) w' 59 _ _ _ _ elem61]; exact e⟩

/-- A disk of what is left. -/
theorem Lf.boxed {w w4 w5 : World} {fs : List Fl} {room : Int} {ao : Option Addr} {N cap : Nat} {zk : List Ent} {Fk : Nat → Prop} (h3 : Fol w4 (.slice ao N cap) zk Fk) (h4 : zk.map Ent.fl = fs) (h6 : ∀ j, Fk j → w.heap.size ≤ j) (h7 : Below w.heap.size w w4) (hs : Srt fs) (hr : 0 ≤ room ∧ room ≤ 4194304)
    {v' : Value} {zs' : List Ent} (g1 : Fol w5 v' zs' (ext (fun _ => False) w4 w5)) (g2 : zs'.map Ent.fl = fs) (g3 : Below w4.heap.size w4 w5) :
    Dk (w5.alloc (.cells #[.int .i64 room, .slice ao N cap, v', .slice none 0 0] 61)) w5.heap.size ⟨room, fs, []⟩ (ext (fun _ => False) w (w5.alloc (.cells #[.int .i64 room, .slice ao N cap, v', .slice none 0 0] 61))) ∧ Below w.heap.size w (w5.alloc (.cells #[.int .i64 room, .slice ao N cap, v', .slice none 0 0] 61)) := by
  have hb5 : Below w5.heap.size w5 (w5.alloc (.cells #[.int .i64 room, .slice ao N cap, v', .slice none 0 0] 61)) := (Below.refl _ _).alloc (Nat.le_refl _) _
  have hb : Below w.heap.size w (w5.alloc (.cells #[.int .i64 room, .slice ao N cap, v', .slice none 0 0] 61)) := (h7.trans (g3.mono h7.size)).trans (hb5.mono (Nat.le_trans h7.size g3.size))
  have hsz : (w5.alloc (.cells #[.int .i64 room, .slice ao N cap, v', .slice none 0 0] 61)).heap.size = w5.heap.size + 1 := by simp
  have e7 := h7.size
  have e3 := g3.size
  refine ⟨⟨⟨hs, trivial, hr.1, hr.2⟩, ext_lt (fun _ h => h.elim) hb.size, .slice ao N cap, v', .slice none 0 0, zk, zs', [], Fk, ext (fun _ => False) w4 w5, fun _ => False, ⟨heap_alloc_new _ _, (h3.below g3).below hb5, g1.below hb5, Wt.nil _ _ (fun _ h => h.elim), fun k hk hE => ?_, fun _ _ => id, fun _ _ => id, fun hk => ?_, fun hk => ?_, id⟩, h4, g2, rfl, fun k hk => ?_⟩, hb⟩
  · rcases hE with hE | hE
    · exact hE.elim
    · have := h3.lt k hk; omega
  · have := h3.lt _ hk; omega
  · rcases hk with hk | hk
    · exact hk.elim
    · omega
  · rcases hk with hk | hk | hk | hk
    · exact Or.inr ⟨h6 k hk, by have := h3.lt k hk; omega⟩
    · rcases hk with hk | hk
      · exact hk.elim
      · exact Or.inr ⟨by omega, by omega⟩
    · exact hk.elim
    · exact Or.inr ⟨by omega, by omega⟩

/-- The next change, done to what is left. -/
theorem Lf.step {w : World} {s : St} {vw : Value} {ws : List (Cv × Ch)} {Fw : Nat → Prop} (hwt : Wt w vw ws Fw) (g3 : ws.map Prod.snd = s.wait) (hg : s.good) (hm : s.mass ≤ 1000000000) (L k : Nat) (hk : k < ws.length) (wr wr1 : World) (h : Lf w wr L (run s.last (s.wait.take k))) (hb : Below wr.heap.size wr wr1) :
    Calls Tryd.prog 42 #[.pointer (some ⟨L, 0, none⟩), ws[k].1.val] wr1 fun e w' => e = .returned (.tuple #[]) ∧ Lf w w' L (run s.last (s.wait.take (k + 1))) := by
  have h1 := h.below hb
  obtain ⟨ao, N, cap, zk, Fk, c1, c2, c3, c4, c5, c6, c7, c8, c9⟩ := h1
  have hget : s.wait[k]? = some ws[k].2 := by rw [← g3, List.getElem?_map, List.getElem?_eq_getElem hk]; rfl
  have hsrt : Srt (run s.last (s.wait.take k)) := run_srt _ _ hg.srt
  have hms : mass (run s.last (s.wait.take k)) + (ws[k].2).mass ≤ s.mass := by
    have e1 := run_mass (s.wait.take k) s.last hg.srt
    have e2 := wmass_take s.wait (k + 1)
    rw [take_succ_snoc _ _ _ hget] at e2
    have e3 : wmass (s.wait.take k ++ [ws[k].2]) = wmass (s.wait.take k) + (ws[k].2).mass := by simp [wmass]
    unfold St.mass
    omega
  have hcv := ((hwt.kept (G := fun _ => False) (Fr.of_below c7) (fun _ _ => id)).away (G := fun j => Fk j ∨ j = L) (fun j hj hG => by
    have := hwt.lt j hj
    rcases hG with hG | hG
    · have := c6 j hG; omega
    · omega) ws[k] (List.getElem_mem hk))
  refine (do_any L 0 _ zk Fk _ ws[k].2 wr1 c1 c2 c3 c5 (by rw [c4]; exact hsrt) hcv (by rw [c4]; exact okw_take k _ _ hg.ok _ hget) (by rw [c4]; omega)).mono ?_
  rintro e w' ⟨rfl, hX⟩
  refine ⟨rfl, ?_⟩
  rw [take_succ_snoc _ _ _ hget, run_snoc, ← c4]
  exact Lf.chg c1 c2 c5 c6 c7 c8 c9 hX
/-- The next change, torn. -/
theorem Lf.torn {w : World} {s : St} {vw : Value} {ws : List (Cv × Ch)} {Fw : Nat → Prop} (hwt : Wt w vw ws Fw) (g3 : ws.map Prod.snd = s.wait) (hg : s.good) (hm : s.mass ≤ 1000000000) (L k : Nat) (t : Int) (hk : k < ws.length) (wr1 : World) (h : Lf w wr1 L (run s.last (s.wait.take k))) :
    Calls Tryd.prog 43 #[.pointer (some ⟨L, 0, none⟩), ws[k].1.val, .int .i64 t] wr1 fun e w' => e = .returned (.tuple #[]) ∧ Lf w w' L (torn (run s.last (s.wait.take k)) ws[k].2 t) := by
  obtain ⟨ao, N, cap, zk, Fk, c1, c2, c3, c4, c5, c6, c7, c8, c9⟩ := h
  have hget : s.wait[k]? = some ws[k].2 := by rw [← g3, List.getElem?_map, List.getElem?_eq_getElem hk]; rfl
  have hsrt : Srt (run s.last (s.wait.take k)) := run_srt _ _ hg.srt
  have hms : mass (run s.last (s.wait.take k)) + (ws[k].2).mass ≤ s.mass := by
    have e1 := run_mass (s.wait.take k) s.last hg.srt
    have e2 := wmass_take s.wait (k + 1)
    rw [take_succ_snoc _ _ _ hget] at e2
    have e3 : wmass (s.wait.take k ++ [ws[k].2]) = wmass (s.wait.take k) + (ws[k].2).mass := by simp [wmass]
    unfold St.mass
    omega
  have hcv := ((hwt.kept (G := fun _ => False) (Fr.of_below c7) (fun _ _ => id)).away (G := fun j => Fk j ∨ j = L) (fun j hj hG => by
    have := hwt.lt j hj
    rcases hG with hG | hG
    · have := c6 j hG; omega
    · omega) ws[k] (List.getElem_mem hk))
  refine (tear_any L 0 _ zk Fk _ ws[k].2 t wr1 c1 c2 c3 c5 (by rw [c4]; exact hsrt) hcv (by rw [c4]; omega)).mono ?_
  rintro e w' ⟨rfl, hX⟩
  refine ⟨rfl, ?_⟩
  rw [← c4]
  exact Lf.chg c1 c2 c5 c6 c7 c8 c9 hX
end Go.Proofs.YtnbdkojdddplkaaDoor.Dk

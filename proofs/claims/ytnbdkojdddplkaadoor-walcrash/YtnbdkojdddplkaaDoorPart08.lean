/- The walk of a disk's Crash. The walk of a disk's Crash. The walk of a disk's Crash at a number below 0. The walk of a disk's Names. -/
import Derived.Test.YtnbdkojdddplkaaDoorPart06
import Derived.Test.YtnbdkojdddplkaaDoorPart07
namespace Go.Proofs.YtnbdkojdddplkaaDoor.Dk
open Go.RowKit

/-- What a crash leaves. -/
def leftOf (s : St) (n t : Int) : List Fl :=
  if 0 ≤ n then (match s.wait[n.toNat]? with
    | some c => torn (run s.last (s.wait.take n.toNat)) c t
    | none => run s.last (s.wait.take n.toNat))
  else s.last

/-- The files that are left, so far: behind a variable of the call's own. -/
def Lf (w wr : World) (L : Nat) (fs : List Fl) : Prop :=
  ∃ ao N cap zk Fk, wr.cell? ⟨L, 0, none⟩ = some (.slice ao N cap) ∧ wr.frozen? ⟨L, 0, none⟩ = false ∧ Fol wr (.slice ao N cap) zk Fk ∧ zk.map Ent.fl = fs ∧ ¬ Fk L ∧ (∀ j, Fk j → w.heap.size ≤ j) ∧ Below w.heap.size w wr ∧ w.heap.size ≤ L ∧ L < wr.heap.size

theorem Lf.below {w wr w' : World} {L : Nat} {fs : List Fl} (h : Lf w wr L fs) (hb : Below wr.heap.size wr w') : Lf w w' L fs := by
  obtain ⟨ao, N, cap, zk, Fk, h1, h2, h3, h4, h5, h6, h7, h8, h9⟩ := h
  exact ⟨ao, N, cap, zk, Fk, below_cell hb h1, (below_frozen hb h1).trans h2, h3.below hb, h4, h5, h6, h7.trans (hb.mono h7.size), h8, Nat.lt_of_lt_of_le h9 hb.size⟩
/-- One change of them. -/
theorem Lf.chg {w wr w' : World} {L : Nat} {fs : List Fl} {ao : Option Addr} {N cap : Nat} {Fk : Nat → Prop} (hc : wr.cell? ⟨L, 0, none⟩ = some (.slice ao N cap)) (hf : wr.frozen? ⟨L, 0, none⟩ = false) (hL : ¬ Fk L) (h6 : ∀ j, Fk j → w.heap.size ≤ j) (h7 : Below w.heap.size w wr) (h8 : w.heap.size ≤ L) (h9 : L < wr.heap.size) (h : Chg wr w' L 0 Fk fs) : Lf w w' L fs := by
  obtain ⟨v', zs', g1, g2, g3⟩ := h
  obtain ⟨ao', N', cap', rfl⟩ := own_slice g1.row
  have hat := g3.at hc hL
  have hs := g3.size
  rw [setCell_size] at hs
  refine ⟨ao', N', cap', zs', _, hat.1, hat.2.trans hf, g1, g2, fun hk => ?_, fun j hj => ?_, ?_, h8, by omega⟩
  · rcases hk with hk | hk
    · exact hL hk
    · omega
  · rcases hj with hj | hj
    · exact h6 j hj
    · have := h7.size; omega
  · have h10 : Below w.heap.size wr (wr.setCell ⟨L, 0, none⟩ (.slice ao' N' cap')) := (Below.refl _ _).setCell h8 _
    exact (h7.trans h10).trans (g3.below h6 (by rw [setCell_size]; exact h7.size))

theorem slice_front61 (ao : Option Addr) (L cap k : Nat) (hk : k ≤ L) (hc : L ≤ cap) (w' : World) : (Instr.slice 59 (.slice ao L cap) none (some (.int .i64 (k : Int))) none).run Tryd.prog w' = .ok (.slice ao k cap) w' ∧ (Instr.sliceAt 59 (.slice ao L cap) none (some (.int .i64 (k : Int))) none).run Tryd.prog w' = .ok (.slice ao k cap) w' := by
  have elem61 : Tryd.prog.underlying 59 = some (.slice (Tryd.prog.elem 59)) := by kernel_rfl
  have size61 : ∀ w : World, (sizeOf (Tryd.prog.elem 59)).run Tryd.prog w = .ok 5 w := fun w => by kernel_rfl
  have e : (Instr.slice 59 (.slice ao L cap) none (some (.int .i64 (k : Int))) none).run Tryd.prog w' = .ok (.slice ao k cap) w' := by
    rw [run_slice_h w' 59 ao L cap elem61 .i64 k (by omega) (by omega), size61]
    simp [Result.andThen, sliced]
    cases ao <;> simp [Addr.add]
  exact ⟨e, by rw [run_sliceAt_slice (P := Tryd.prog) w' 59 _ _ _ _ elem61]; exact e⟩

/-- A disk of what is left. -/
theorem Lf.boxed {w w4 w5 : World} {fs : List Fl} {room : Int} {ao : Option Addr} {N cap : Nat} {zk : List Ent} {Fk : Nat → Prop} (h3 : Fol w4 (.slice ao N cap) zk Fk) (h4 : zk.map Ent.fl = fs) (h6 : ∀ j, Fk j → w.heap.size ≤ j) (h7 : Below w.heap.size w w4) (hs : Srt fs) (hr : 0 ≤ room ∧ room ≤ 4194304)
    {v' : Value} {zs' : List Ent} (g1 : Fol w5 v' zs' (ext (fun _ => False) w4 w5)) (g2 : zs'.map Ent.fl = fs) (g3 : Below w4.heap.size w4 w5) :
    Dk (w5.alloc (.cells #[.int .i64 room, .slice ao N cap, v', .slice none 0 0] 61)) w5.heap.size ⟨room, fs, []⟩ (ext (fun _ => False) w (w5.alloc (.cells #[.int .i64 room, .slice ao N cap, v', .slice none 0 0] 61))) ∧ Below w.heap.size w (w5.alloc (.cells #[.int .i64 room, .slice ao N cap, v', .slice none 0 0] 61)) := by
  have hb5 : Below w5.heap.size w5 (w5.alloc (.cells #[.int .i64 room, .slice ao N cap, v', .slice none 0 0] 61)) := (Below.refl _ _).alloc (Nat.le_refl _) _
  have hb : Below w.heap.size w (w5.alloc (.cells #[.int .i64 room, .slice ao N cap, v', .slice none 0 0] 61)) := (h7.trans (g3.mono h7.size)).trans (hb5.mono (Nat.le_trans h7.size g3.size))
  have hsz : (w5.alloc (.cells #[.int .i64 room, .slice ao N cap, v', .slice none 0 0] 61)).heap.size = w5.heap.size + 1 := by simp
  have e7 := h7.size
  have e3 := g3.size
  refine ⟨⟨⟨hs, trivial, hr.1, hr.2⟩, ext_lt (fun _ h => h.elim) hb.size, .slice ao N cap, v', .slice none 0 0, zk, zs', [], Fk, ext (fun _ => False) w4 w5, fun _ => False, ⟨heap_alloc_new _ _, (h3.below g3).below hb5, g1.below hb5, Wt.nil _ _ (fun _ h => h.elim), fun k hk hE => ?_, fun _ _ => id, fun _ _ => id, fun hk => ?_, fun hk => ?_, id⟩, h4, g2, rfl, fun k hk => ?_⟩, hb⟩
  · rcases hE with hE | hE
    · exact hE.elim
    · have := h3.lt k hk; omega
  · have := h3.lt _ hk; omega
  · rcases hk with hk | hk
    · exact hk.elim
    · omega
  · rcases hk with hk | hk | hk | hk
    · exact Or.inr ⟨h6 k hk, by have := h3.lt k hk; omega⟩
    · rcases hk with hk | hk
      · exact hk.elim
      · exact Or.inr ⟨by omega, by omega⟩
    · exact hk.elim
    · exact Or.inr ⟨by omega, by omega⟩

/-- The next change, done to what is left. -/
theorem Lf.step {w : World} {s : St} {vw : Value} {ws : List (Cv × Ch)} {Fw : Nat → Prop} (hwt : Wt w vw ws Fw) (g3 : ws.map Prod.snd = s.wait) (hg : s.good) (hm : s.mass ≤ 1000000000) (L k : Nat) (hk : k < ws.length) (wr wr1 : World) (h : Lf w wr L (run s.last (s.wait.take k))) (hb : Below wr.heap.size wr wr1) :
    Calls Tryd.prog 42 #[.pointer (some ⟨L, 0, none⟩), ws[k].1.val] wr1 fun e w' => e = .returned (.tuple #[]) ∧ Lf w w' L (run s.last (s.wait.take (k + 1))) := by
  have h1 := h.below hb
  obtain ⟨ao, N, cap, zk, Fk, c1, c2, c3, c4, c5, c6, c7, c8, c9⟩ := h1
  have hget : s.wait[k]? = some ws[k].2 := by rw [← g3, List.getElem?_map, List.getElem?_eq_getElem hk]; rfl
  have hsrt : Srt (run s.last (s.wait.take k)) := run_srt _ _ hg.srt
  have hms : mass (run s.last (s.wait.take k)) + (ws[k].2).mass ≤ s.mass := by
    have e1 := run_mass (s.wait.take k) s.last hg.srt
    have e2 := wmass_take s.wait (k + 1)
    rw [take_succ_snoc _ _ _ hget] at e2
    have e3 : wmass (s.wait.take k ++ [ws[k].2]) = wmass (s.wait.take k) + (ws[k].2).mass := by simp [wmass]
    unfold St.mass
    omega
  have hcv := ((hwt.kept (G := fun _ => False) (Fr.of_below c7) (fun _ _ => id)).away (G := fun j => Fk j ∨ j = L) (fun j hj hG => by
    have := hwt.lt j hj
    rcases hG with hG | hG
    · have := c6 j hG; omega
    · omega) ws[k] (List.getElem_mem hk))
  refine (do_any L 0 _ zk Fk _ ws[k].2 wr1 c1 c2 c3 c5 (by rw [c4]; exact hsrt) hcv (by rw [c4]; exact okw_take k _ _ hg.ok _ hget) (by rw [c4]; omega)).mono ?_
  rintro e w' ⟨rfl, hX⟩
  refine ⟨rfl, ?_⟩
  rw [take_succ_snoc _ _ _ hget, run_snoc, ← c4]
  exact Lf.chg c1 c2 c5 c6 c7 c8 c9 hX
/-- The next change, torn. -/
theorem Lf.torn {w : World} {s : St} {vw : Value} {ws : List (Cv × Ch)} {Fw : Nat → Prop} (hwt : Wt w vw ws Fw) (g3 : ws.map Prod.snd = s.wait) (hg : s.good) (hm : s.mass ≤ 1000000000) (L k : Nat) (t : Int) (hk : k < ws.length) (wr1 : World) (h : Lf w wr1 L (run s.last (s.wait.take k))) :
    Calls Tryd.prog 43 #[.pointer (some ⟨L, 0, none⟩), ws[k].1.val, .int .i64 t] wr1 fun e w' => e = .returned (.tuple #[]) ∧ Lf w w' L (torn (run s.last (s.wait.take k)) ws[k].2 t) := by
  obtain ⟨ao, N, cap, zk, Fk, c1, c2, c3, c4, c5, c6, c7, c8, c9⟩ := h
  have hget : s.wait[k]? = some ws[k].2 := by rw [← g3, List.getElem?_map, List.getElem?_eq_getElem hk]; rfl
  have hsrt : Srt (run s.last (s.wait.take k)) := run_srt _ _ hg.srt
  have hms : mass (run s.last (s.wait.take k)) + (ws[k].2).mass ≤ s.mass := by
    have e1 := run_mass (s.wait.take k) s.last hg.srt
    have e2 := wmass_take s.wait (k + 1)
    rw [take_succ_snoc _ _ _ hget] at e2
    have e3 : wmass (s.wait.take k ++ [ws[k].2]) = wmass (s.wait.take k) + (ws[k].2).mass := by simp [wmass]
    unfold St.mass
    omega
  have hcv := ((hwt.kept (G := fun _ => False) (Fr.of_below c7) (fun _ _ => id)).away (G := fun j => Fk j ∨ j = L) (fun j hj hG => by
    have := hwt.lt j hj
    rcases hG with hG | hG
    · have := c6 j hG; omega
    · omega) ws[k] (List.getElem_mem hk))
  refine (tear_any L 0 _ zk Fk _ ws[k].2 t wr1 c1 c2 c3 c5 (by rw [c4]; exact hsrt) hcv (by rw [c4]; omega)).mono ?_
  rintro e w' ⟨rfl, hX⟩
  refine ⟨rfl, ?_⟩
  rw [← c4]
  exact Lf.chg c1 c2 c5 c6 c7 c8 c9 hX
end Go.Proofs.YtnbdkojdddplkaaDoor.Dk
namespace Go.Proofs.YtnbdkojdddplkaaDoor.Dk
open Go.RowKit

set_option maxHeartbeats 2000000 in
set_option maxRecDepth 20000 in
theorem crash_nat (p : Nat) (s : St) (F : Nat → Prop) (n : Nat) (t : Int) (w : World) (h : Dk w p s F) (hm : s.mass ≤ 1000000000) :
    Calls Tryd.prog 18 #[.pointer (some ⟨p, 0, none⟩), .int .i64 (n : Int), .int .i64 t] w fun e w' => ∃ q, e = .returned (.pointer (some ⟨q, 0, none⟩)) ∧ w.heap.size ≤ q ∧ Dk w' q ⟨s.room, leftOf s n t, []⟩ (ext (fun _ => False) w w') ∧ Below w.heap.size w w' := by
  obtain ⟨hgood, hFlt, vl, vn, vw, zl, zn, ws, Fa, Fn, Fw, hC, g1, g2, g3, g4⟩ := h
  have hcs := hC.cells
  have c0 := hcs.1
  have c1 := hcs.2.1
  have c3 := hcs.2.2.2.1
  have hWT := hC.wt
  have hwl : ws.length = s.wait.length := by rw [← g3, List.length_map]
  have hwb : ws.length ≤ 1000000000 := by unfold St.mass at hm; omega
  obtain ⟨aow, capw, hvw, hcw⟩ : ∃ ao cap, vw = .slice ao ws.length cap ∧ ws.length ≤ cap := by
    rcases own_shape hC.wt.row with ⟨rfl, e⟩ | ⟨g, cap, rfl, hc, _⟩
    · exact ⟨none, 0, by rw [e], by omega⟩
    · exact ⟨_, _, rfl, hc⟩
  subst hvw
  obtain ⟨aol, Nl, capl, rfl⟩ := own_slice hC.fl.row
  have hml : s.mass ≤ 1000000000 → mass (zl.map Ent.fl) ≤ 1000000000 := fun h => by rw [g1]; unfold St.mass at h; omega
  obtain ⟨M, hM0, HM⟩ : ∃ M : Nat, M ≤ ws.length ∧ Hid (M = min n ws.length) := ⟨min n ws.length, by omega, rfl⟩
  have hx1 : ¬ ((n : Int) < 0) := by omega
  have hy1 : (if (ws.length : Int) < (n : Int) then (ws.length : Int) else (n : Int)) = (M : Int) := by have := HM.out; split <;> omega
  have hy2 : (if ws.length < n then (ws.length : Int) else (n : Int)) = (M : Int) := by have := HM.out; split <;> omega
  have hmx : ∀ w' : World, (Builtin.max_ #[3, 3] 3 #[.int .i64 (n : Int), .int .i64 0]).run Tryd.prog w' = .ok (.int .i64 (n : Int)) w' := fun w' => by
    rw [run_max_int2, if_neg (by omega)]
  have hmn : ∀ w' : World, (Builtin.min_ #[3, 3] 3 #[.int .i64 (n : Int), .int .i64 (ws.length : Int)]).run Tryd.prog w' = .ok (.int .i64 (M : Int)) w' := fun w' => by
    rw [run_min_int2, hy1]
  have hsl := fun w' => slice_front61 aow ws.length capw M hM0 hcw w'
  have HCl : Hid (Calls Tryd.prog 41 #[.slice aol Nl capl] w fun e w1 => ∃ ao1 N1 cap1, e = .returned (.slice ao1 N1 cap1) ∧ w1.cell? ⟨p, 3, none⟩ = some (.slice aow ws.length capw) ∧ Hid (Lf w (w1.alloc (.cells #[.slice ao1 N1 cap1] 58)) w1.heap.size (run s.last (s.wait.take 0))) ∧ Hid (Below w.heap.size w w1)) := by
    refine (fclone_any _ zl Fa w hC.fl (hml hm)).mono ?_
    rintro e w1 ⟨v', zs', rfl, k1, k2, k3⟩
    obtain ⟨ao1, N1, cap1, rfl⟩ := own_slice k1.row
    have hb : Below w1.heap.size w1 (w1.alloc (.cells #[.slice ao1 N1 cap1] 58)) := (Below.refl _ _).alloc (Nat.le_refl _) _
    refine ⟨ao1, N1, cap1, rfl, below_cell k3 c3, ⟨ao1, N1, cap1, zs', _, ?_, ?_, k1.below hb, by rw [k2, g1]; rfl, fun hk => ?_, fun j hj => ?_, k3.trans (hb.mono k3.size), k3.size, by simp⟩, k3⟩
    · rw [cell_of_row _ _ 0 _ _ _ (heap_alloc_new _ _)]; rfl
    · exact frozen_of_heap (heap_alloc_new _ _) 0
    · rcases hk with hk | hk
      · exact hk.elim
      · omega
    · rcases hj with hj | hj
      · exact hj.elim
      · exact hj.1
  have HSt : Hid (_) := fun (L k : Nat) (hk : k < ws.length) (wr wr1 : World) => Lf.step hWT g3 hgood hm L k hk wr wr1
  have HTo : Hid (_) := fun (L k : Nat) (hk : k < ws.length) (wr1 : World) => Lf.torn hWT g3 hgood hm L k t hk wr1
  have HWT : Hid (_) := hWT
  have HG : Hid (s.good) := hgood
  have HMs : Hid (s.mass ≤ 1000000000) := hm
  have HG3 : Hid (ws.map Prod.snd = s.wait) := g3
  clear hC hcs hFlt g1 g2 g3 g4 hwl hml hWT hgood hm hcw
  go_enter Tryd.func18, Tryd.ntmps18
  go_wp2_with (go_at_call 41; refine Calls.mono HCl.out ?_; rintro e w1 ⟨ao1, N1, cap1, rfl, c31, HL1, HB1⟩)
  have c31a : (w1.alloc (.cells #[.slice ao1 N1 cap1] 58)).cell? ⟨p, 3, none⟩ = some (.slice aow ws.length capw) := below_cell ((Below.refl _ _).alloc (Nat.le_refl _) _) c31
  go_region_held (fun w' => w'.cell? ⟨p, 3, none⟩ = some (.slice aow ws.length capw) ∧ (Instr.slice 59 (.slice aow ws.length capw) none (some (.int .i64 (M : Int))) none).run Tryd.prog w' = .ok (.slice aow M capw) w' ∧ (Instr.sliceAt 59 (.slice aow ws.length capw) none (some (.int .i64 (M : Int))) none).run Tryd.prog w' = .ok (.slice aow M capw) w' ∧ (Builtin.max_ #[3, 3] 3 #[.int .i64 (n : Int), .int .i64 0]).run Tryd.prog w' = .ok (.int .i64 (n : Int)) w' ∧ (Builtin.min_ #[3, 3] 3 #[.int .i64 (n : Int), .int .i64 (ws.length : Int)]).run Tryd.prog w' = .ok (.int .i64 (M : Int)) w')
    (first | exact ⟨c31a, (hsl _).1, (hsl _).2, hmx _, hmn _⟩)
    (fail)
  have HEnd : Hid (∀ (w4 : World) (fs : List Fl), Srt fs → mass fs ≤ 1000000000 → Lf w w4 w1.heap.size fs → ∃ ao N cap, w4.cell? ⟨p, 0, none⟩ = some (.int .i64 s.room) ∧ w4.cell? ⟨w1.heap.size, 0, none⟩ = some (.slice ao N cap) ∧
      Hid (Calls Tryd.prog 41 #[.slice ao N cap] w4.drew fun e w5 => ∃ ao5 N5 cap5, e = .returned (.slice ao5 N5 cap5) ∧ w5.cell? ⟨p, 0, none⟩ = some (.int .i64 s.room) ∧ w5.cell? ⟨w1.heap.size, 0, none⟩ = some (.slice ao N cap) ∧ Hid (w.heap.size ≤ w5.heap.size ∧ Dk (w5.alloc (.cells #[.int .i64 s.room, .slice ao N cap, .slice ao5 N5 cap5, .slice none 0 0] 61)) w5.heap.size ⟨s.room, fs, []⟩ (ext (fun _ => False) w (w5.alloc (.cells #[.int .i64 s.room, .slice ao N cap, .slice ao5 N5 cap5, .slice none 0 0] 61))) ∧ Below w.heap.size w (w5.alloc (.cells #[.int .i64 s.room, .slice ao N cap, .slice ao5 N5 cap5, .slice none 0 0] 61))))) := by
    intro w4 fs hs hms hL
    have hLd : Lf w w4.drew w1.heap.size fs := hL.below (Below.refl _ _).drew
    obtain ⟨ao, N, cap, zk, Fk, q1, q2, q3, q4, q5, q6, q7, q8, q9⟩ := hLd
    have c04 := below_cell q7 c0
    refine ⟨ao, N, cap, c04, q1, ?_⟩
    refine (fclone_any _ zk Fk w4.drew q3 (by rw [q4]; exact hms)).mono ?_
    rintro e w5 ⟨v', zs', rfl, k1, k2, k3⟩
    obtain ⟨ao5, N5, cap5, rfl⟩ := own_slice k1.row
    have hbx := Lf.boxed (room := s.room) q3 q4 q6 q7 hs ⟨HG.out.r0, HG.out.r1⟩ k1 (by rw [k2, q4]) k3
    exact ⟨ao5, N5, cap5, rfl, below_cell k3 c04, below_cell k3 q1, Nat.le_trans q7.size k3.size, hbx.1, hbx.2⟩
  have hLn : ∀ k, k ≤ ws.length → Hid (Srt (run s.last (s.wait.take k)) ∧ mass (run s.last (s.wait.take k)) ≤ 1000000000) := fun k hk => by
    have e1 := run_mass (s.wait.take k) s.last HG.out.srt
    have e2 := wmass_take s.wait k
    have e3 := HMs.out
    unfold St.mass at e3
    exact ⟨run_srt _ _ HG.out.srt, by omega⟩
  have HLn : Hid (_) := hLn
  have HC3 : Hid (_) := c3
  clear hmx hmn hsl c31a c31 hy1 hy2 hx1 hLn c1 c3
  go_wp2_with fail
  go_loopw [31] (fun vi wr => ∃ k : Nat, k ≤ M ∧ vi = .int .i64 k ∧ Hid (Lf w wr w1.heap.size (run s.last (s.wait.take k)))) (fun vi _ => M - (intOf vi).toNat)
  case atStart => exact ⟨0, Nat.zero_le _, rfl, HL1.out.below (Below.refl _ _).drew⟩
  case round =>
    obtain ⟨k, hk, rfl, HK⟩ := hrel
    by_cases hlt : k < M
    · have hlt' : (k : Int) < (M : Int) := by omega
      have hkw : k < ws.length := by omega
      obtain ⟨g, rfl⟩ : ∃ g, aow = some ⟨g, 0, none⟩ := by
        rcases own_shape HWT.out.row with ⟨_, e⟩ | ⟨g, cap', e, _⟩
        · omega
        · simp at e; exact ⟨g, e.1⟩
      have hbw : Below w.heap.size w wr := by
        obtain ⟨_, _, _, _, _, _, _, _, _, _, _, q7, _⟩ := HK.out
        exact q7
      have hW2 := HWT.out.kept (G := fun _ => False) (Fr.of_below hbw) (fun _ _ => id)
      obtain ⟨m0, m1, m2, m3, m4⟩ := hW2.cell k hkw
      obtain ⟨aod, Ld, capd, hd⟩ := Cv.slice (hW2.away (G := fun _ => False) (fun _ _ => id) ws[k] (List.getElem_mem hkw))
      have hst := HSt.out w1.heap.size k hkw wr (wr.alloc (.cells #[.int .i64 ws[k].1.kd, .string ws[k].1.nm, .slice aod Ld capd, .int .i64 ws[k].1.sz, .string ws[k].1.t] 76)) HK.out ((Below.refl _ _).alloc (Nat.le_refl _) _)
      simp only [Cv.val] at hst
      rw [hd] at hst m2
      have HS2 : Hid (_) := hst
      clear hst hW2 hd hbw HEnd HTo HLn
      go_wp2_with (go_at_call 42; refine Calls.mono HS2.out ?_; rintro e w' ⟨rfl, hX⟩)
      go_roundw
      case rel => exact ⟨k + 1, by omega, by go_num, hX⟩
      case measure => simp [intOf]; omega
    · have hkM : k = M := by omega
      subst hkM
      have hlt' : ¬ (k : Int) < (k : Int) := by omega
      have hbw : Below w.heap.size w wr := by
        obtain ⟨_, _, _, _, _, _, _, _, _, _, _, q7, _⟩ := HK.out
        exact q7
      have c3r := below_cell hbw HC3.out
      by_cases hnl : n < ws.length
      · have hnl' : (n : Int) < (ws.length : Int) := by omega
        have hkn : k = n := by have := HM.out; omega
        subst hkn
        obtain ⟨g, rfl⟩ : ∃ g, aow = some ⟨g, 0, none⟩ := by
          rcases own_shape HWT.out.row with ⟨_, e⟩ | ⟨g, cap', e, _⟩
          · omega
          · simp at e; exact ⟨g, e.1⟩
        have hW2 := HWT.out.kept (G := fun _ => False) (Fr.of_below hbw) (fun _ _ => id)
        obtain ⟨m0, m1, m2, m3, m4⟩ := hW2.cell k hnl
        obtain ⟨aod, Ld, capd, hd⟩ := Cv.slice (hW2.away (G := fun _ => False) (fun _ _ => id) ws[k] (List.getElem_mem hnl))
        have hst := HTo.out w1.heap.size k hnl wr HK.out
        simp only [Cv.val] at hst
        rw [hd] at hst m2
        have HS2 : Hid (_) := hst
        have hget : s.wait[k]? = some ws[k].2 := by rw [← HG3.out, List.getElem?_map, List.getElem?_eq_getElem hnl]; rfl
        obtain ⟨fs, HFS⟩ : ∃ fs, Hid (fs = leftOf s (k : Int) t) := ⟨leftOf s (k : Int) t, (rfl : _ = _)⟩
        have hfs : torn (run s.last (s.wait.take k)) ws[k].2 t = fs := by
          rw [HFS.out]
          simp [leftOf, hget]
        have HSM : Hid (Srt fs ∧ mass fs ≤ 1000000000) := by
          have e := HLn.out (k + 1) (by omega)
          have e1 := run_mass (s.wait.take k) s.last HG.out.srt
          have e2 := wmass_take s.wait (k + 1)
          rw [take_succ_snoc _ _ _ hget] at e2
          have e3 : wmass (s.wait.take k ++ [ws[k].2]) = wmass (s.wait.take k) + (ws[k].2).mass := by simp [wmass]
          have e4 := HMs.out
          unfold St.mass at e4
          have hsr := run_srt (s.wait.take k) _ HG.out.srt
          rw [← hfs]
          cases hc : ws[k].2 with
          | app nn bb =>
            rw [hc] at e2 e3
            simp only [Ch.mass] at e3
            simp only [torn]
            split
            · exact ⟨hsr, by omega⟩
            · have e5 := ap_mass (.app nn (bb.take t.toNat)) hsr
              simp only [Ch.mass, List.length_take] at e5
              exact ⟨ap_srt _ hsr, by omega⟩
          | cut nn kk => exact ⟨hsr, by show mass (run s.last (s.wait.take k)) ≤ _; omega⟩
          | rem nn => exact ⟨hsr, by show mass (run s.last (s.wait.take k)) ≤ _; omega⟩
          | mov nn kk => exact ⟨hsr, by show mass (run s.last (s.wait.take k)) ≤ _; omega⟩
        rw [hfs] at HS2
        clear hst hW2 hd hbw HSt HTo HLn hfs hget
        go_wp2_with (go_at_call 43; refine Calls.mono HS2.out ?_; rintro e w4 ⟨rfl, hX⟩; obtain ⟨ao4, N4, cap4, e0, eL, HC4⟩ := HEnd.out w4 fs HSM.out.1 HSM.out.2 hX; clear hX)
        go_region_held (fun w' => w'.cell? ⟨p, 0, none⟩ = some (.int .i64 s.room) ∧ w'.cell? ⟨w1.heap.size, 0, none⟩ = some (.slice ao4 N4 cap4))
          (first | exact ⟨e0, eL⟩ | exact ⟨f0, fL⟩ | go_keep)
          (first | (go_at_call 41; refine Calls.mono HC4.out ?_; rintro e w5 ⟨ao5, N5, cap5, rfl, f0, fL, HX⟩))
        all_goals go_wp2
        all_goals go_ret
        all_goals exact ⟨_, rfl, HX.out.1, by rw [← HFS.out]; exact HX.out.2.1, HX.out.2.2⟩
      · have hnl' : ¬ (n : Int) < (ws.length : Int) := by omega
        have hkn : k = ws.length := by have := HM.out; omega
        obtain ⟨fs, HFS⟩ : ∃ fs, Hid (fs = leftOf s (n : Int) t) := ⟨leftOf s (n : Int) t, (rfl : _ = _)⟩
        have hwl : ws.length = s.wait.length := by rw [← HG3.out, List.length_map]
        have hfs : run s.last (s.wait.take k) = fs := by
          rw [HFS.out]
          have h1 : s.wait[n]? = none := List.getElem?_eq_none (by omega)
          simp only [leftOf, Int.toNat_natCast, h1]
          rw [if_pos (by omega), List.take_of_length_le (by omega), List.take_of_length_le (by omega)]
        have hSM := HLn.out k (by omega)
        rw [hfs] at hSM
        have hK := HK.out
        rw [hfs] at hK
        obtain ⟨ao4, N4, cap4, e0, eL, HC4⟩ := HEnd.out wr fs hSM.out.1 hSM.out.2 hK
        clear hK hSM hfs hwl hkn HSt HTo HLn hbw
        go_wp2_with fail
        go_region_held (fun w' => w'.cell? ⟨p, 0, none⟩ = some (.int .i64 s.room) ∧ w'.cell? ⟨w1.heap.size, 0, none⟩ = some (.slice ao4 N4 cap4))
          (first | exact ⟨e0, eL⟩ | exact ⟨f0, fL⟩ | go_keep)
          (first | (go_at_call 41; refine Calls.mono HC4.out ?_; rintro e w5 ⟨ao5, N5, cap5, rfl, f0, fL, HX⟩))
        all_goals go_wp2
        all_goals go_ret
        all_goals exact ⟨_, rfl, HX.out.1, by rw [← HFS.out]; exact HX.out.2.1, HX.out.2.2⟩
end Go.Proofs.YtnbdkojdddplkaaDoor.Dk
namespace Go.Proofs.YtnbdkojdddplkaaDoor.Dk
open Go.RowKit

set_option maxHeartbeats 2000000 in
set_option maxRecDepth 20000 in
theorem crash_neg (p : Nat) (s : St) (F : Nat → Prop) (n t : Int) (w : World) (h : Dk w p s F) (hm : s.mass ≤ 1000000000) (hn : n < 0) :
    Calls Tryd.prog 18 #[.pointer (some ⟨p, 0, none⟩), .int .i64 n, .int .i64 t] w fun e w' => ∃ q, e = .returned (.pointer (some ⟨q, 0, none⟩)) ∧ w.heap.size ≤ q ∧ Dk w' q ⟨s.room, leftOf s n t, []⟩ (ext (fun _ => False) w w') ∧ Below w.heap.size w w' := by
  obtain ⟨hgood, hFlt, vl, vn, vw, zl, zn, ws, Fa, Fn, Fw, hC, g1, g2, g3, g4⟩ := h
  have hcs := hC.cells
  have c0 := hcs.1
  have c1 := hcs.2.1
  have c3 := hcs.2.2.2.1
  have hWT := hC.wt
  have hwl : ws.length = s.wait.length := by rw [← g3, List.length_map]
  have hwb : ws.length ≤ 1000000000 := by unfold St.mass at hm; omega
  obtain ⟨aow, capw, hvw, hcw⟩ : ∃ ao cap, vw = .slice ao ws.length cap ∧ ws.length ≤ cap := by
    rcases own_shape hC.wt.row with ⟨rfl, e⟩ | ⟨g, cap, rfl, hc, _⟩
    · exact ⟨none, 0, by rw [e], by omega⟩
    · exact ⟨_, _, rfl, hc⟩
  subst hvw
  obtain ⟨aol, Nl, capl, rfl⟩ := own_slice hC.fl.row
  have hml : s.mass ≤ 1000000000 → mass (zl.map Ent.fl) ≤ 1000000000 := fun h => by rw [g1]; unfold St.mass at h; omega
  have hM0 : 0 ≤ ws.length := Nat.zero_le _
  have hmx : ∀ w' : World, (Builtin.max_ #[3, 3] 3 #[.int .i64 n, .int .i64 0]).run Tryd.prog w' = .ok (.int .i64 0) w' := fun w' => by
    rw [run_max_int2, if_pos (by omega)]
  have hmn : ∀ w' : World, (Builtin.min_ #[3, 3] 3 #[.int .i64 0, .int .i64 (ws.length : Int)]).run Tryd.prog w' = .ok (.int .i64 0) w' := fun w' => by
    rw [run_min_int2, if_neg (by omega)]
  have hsl := fun w' => slice_front61 aow ws.length capw 0 hM0 hcw w'
  have HCl : Hid (Calls Tryd.prog 41 #[.slice aol Nl capl] w fun e w1 => ∃ ao1 N1 cap1, e = .returned (.slice ao1 N1 cap1) ∧ w1.cell? ⟨p, 3, none⟩ = some (.slice aow ws.length capw) ∧ Hid (Lf w (w1.alloc (.cells #[.slice ao1 N1 cap1] 58)) w1.heap.size (run s.last (s.wait.take 0))) ∧ Hid (Below w.heap.size w w1)) := by
    refine (fclone_any _ zl Fa w hC.fl (hml hm)).mono ?_
    rintro e w1 ⟨v', zs', rfl, k1, k2, k3⟩
    obtain ⟨ao1, N1, cap1, rfl⟩ := own_slice k1.row
    have hb : Below w1.heap.size w1 (w1.alloc (.cells #[.slice ao1 N1 cap1] 58)) := (Below.refl _ _).alloc (Nat.le_refl _) _
    refine ⟨ao1, N1, cap1, rfl, below_cell k3 c3, ⟨ao1, N1, cap1, zs', _, ?_, ?_, k1.below hb, by rw [k2, g1]; rfl, fun hk => ?_, fun j hj => ?_, k3.trans (hb.mono k3.size), k3.size, by simp⟩, k3⟩
    · rw [cell_of_row _ _ 0 _ _ _ (heap_alloc_new _ _)]; rfl
    · exact frozen_of_heap (heap_alloc_new _ _) 0
    · rcases hk with hk | hk
      · exact hk.elim
      · omega
    · rcases hj with hj | hj
      · exact hj.elim
      · exact hj.1
  have HSt : Hid (_) := fun (L k : Nat) (hk : k < ws.length) (wr wr1 : World) => Lf.step hWT g3 hgood hm L k hk wr wr1
  have HTo : Hid (_) := fun (L k : Nat) (hk : k < ws.length) (wr1 : World) => Lf.torn hWT g3 hgood hm L k t hk wr1
  have HWT : Hid (_) := hWT
  have HG : Hid (s.good) := hgood
  have HMs : Hid (s.mass ≤ 1000000000) := hm
  have HG3 : Hid (ws.map Prod.snd = s.wait) := g3
  clear hC hcs hFlt g1 g2 g3 g4 hwl hml hWT hgood hm hcw
  go_enter Tryd.func18, Tryd.ntmps18
  go_wp2_with (go_at_call 41; refine Calls.mono HCl.out ?_; rintro e w1 ⟨ao1, N1, cap1, rfl, c31, HL1, HB1⟩)
  have c31a : (w1.alloc (.cells #[.slice ao1 N1 cap1] 58)).cell? ⟨p, 3, none⟩ = some (.slice aow ws.length capw) := below_cell ((Below.refl _ _).alloc (Nat.le_refl _) _) c31
  have hsl0 : ∀ w' : World, (Instr.slice 59 (.slice aow ws.length capw) none (some (.int .i64 0)) none).run Tryd.prog w' = .ok (.slice aow 0 capw) w' ∧ (Instr.sliceAt 59 (.slice aow ws.length capw) none (some (.int .i64 0)) none).run Tryd.prog w' = .ok (.slice aow 0 capw) w' := hsl
  clear hsl
  go_region_held (fun w' => w'.cell? ⟨p, 3, none⟩ = some (.slice aow ws.length capw) ∧ (Instr.slice 59 (.slice aow ws.length capw) none (some (.int .i64 0)) none).run Tryd.prog w' = .ok (.slice aow 0 capw) w' ∧ (Instr.sliceAt 59 (.slice aow ws.length capw) none (some (.int .i64 0)) none).run Tryd.prog w' = .ok (.slice aow 0 capw) w' ∧ (Builtin.max_ #[3, 3] 3 #[.int .i64 n, .int .i64 0]).run Tryd.prog w' = .ok (.int .i64 0) w' ∧ (Builtin.min_ #[3, 3] 3 #[.int .i64 0, .int .i64 (ws.length : Int)]).run Tryd.prog w' = .ok (.int .i64 0) w')
    (first | exact ⟨c31a, (hsl0 _).1, (hsl0 _).2, hmx _, hmn _⟩)
    (fail)
  have HEnd : Hid (∀ (w4 : World) (fs : List Fl), Srt fs → mass fs ≤ 1000000000 → Lf w w4 w1.heap.size fs → ∃ ao N cap, w4.cell? ⟨p, 0, none⟩ = some (.int .i64 s.room) ∧ w4.cell? ⟨w1.heap.size, 0, none⟩ = some (.slice ao N cap) ∧
      Hid (Calls Tryd.prog 41 #[.slice ao N cap] w4.drew fun e w5 => ∃ ao5 N5 cap5, e = .returned (.slice ao5 N5 cap5) ∧ w5.cell? ⟨p, 0, none⟩ = some (.int .i64 s.room) ∧ w5.cell? ⟨w1.heap.size, 0, none⟩ = some (.slice ao N cap) ∧ Hid (w.heap.size ≤ w5.heap.size ∧ Dk (w5.alloc (.cells #[.int .i64 s.room, .slice ao N cap, .slice ao5 N5 cap5, .slice none 0 0] 61)) w5.heap.size ⟨s.room, fs, []⟩ (ext (fun _ => False) w (w5.alloc (.cells #[.int .i64 s.room, .slice ao N cap, .slice ao5 N5 cap5, .slice none 0 0] 61))) ∧ Below w.heap.size w (w5.alloc (.cells #[.int .i64 s.room, .slice ao N cap, .slice ao5 N5 cap5, .slice none 0 0] 61))))) := by
    intro w4 fs hs hms hL
    have hLd : Lf w w4.drew w1.heap.size fs := hL.below (Below.refl _ _).drew
    obtain ⟨ao, N, cap, zk, Fk, q1, q2, q3, q4, q5, q6, q7, q8, q9⟩ := hLd
    have c04 := below_cell q7 c0
    refine ⟨ao, N, cap, c04, q1, ?_⟩
    refine (fclone_any _ zk Fk w4.drew q3 (by rw [q4]; exact hms)).mono ?_
    rintro e w5 ⟨v', zs', rfl, k1, k2, k3⟩
    obtain ⟨ao5, N5, cap5, rfl⟩ := own_slice k1.row
    have hbx := Lf.boxed (room := s.room) q3 q4 q6 q7 hs ⟨HG.out.r0, HG.out.r1⟩ k1 (by rw [k2, q4]) k3
    exact ⟨ao5, N5, cap5, rfl, below_cell k3 c04, below_cell k3 q1, Nat.le_trans q7.size k3.size, hbx.1, hbx.2⟩
  have hLn : ∀ k, k ≤ ws.length → Hid (Srt (run s.last (s.wait.take k)) ∧ mass (run s.last (s.wait.take k)) ≤ 1000000000) := fun k hk => by
    have e1 := run_mass (s.wait.take k) s.last HG.out.srt
    have e2 := wmass_take s.wait k
    have e3 := HMs.out
    unfold St.mass at e3
    exact ⟨run_srt _ _ HG.out.srt, by omega⟩
  have HLn : Hid (_) := hLn
  clear hmx hmn hsl0 c31a c31 hLn c1 c3 HSt HTo
  go_wp2_with fail
  go_loopw [31] (fun vi wr => vi = .int .i64 0 ∧ Hid (Lf w wr w1.heap.size (run s.last (s.wait.take 0)))) (fun _ _ => 0)
  case atStart => exact ⟨rfl, HL1.out.below (Below.refl _ _).drew⟩
  case round =>
    obtain ⟨rfl, HK⟩ := hrel
    have hn0 : ¬ (0 : Int) ≤ n := by omega
    have hSM := HLn.out 0 (Nat.zero_le _)
    obtain ⟨ao4, N4, cap4, e0, eL, HC4⟩ := HEnd.out wr _ hSM.out.1 hSM.out.2 HK.out
    have HFS : Hid (run s.last (s.wait.take 0) = leftOf s n t) := by
      show _ = _
      simp only [leftOf, if_neg hn0]
      rfl
    clear hSM HLn HEnd
    go_wp2_with fail
    go_region_held (fun w' => w'.cell? ⟨p, 0, none⟩ = some (.int .i64 s.room) ∧ w'.cell? ⟨w1.heap.size, 0, none⟩ = some (.slice ao4 N4 cap4))
      (first | exact ⟨e0, eL⟩ | exact ⟨f0, fL⟩ | go_keep)
      (first | (go_at_call 41; refine Calls.mono HC4.out ?_; rintro e w5 ⟨ao5, N5, cap5, rfl, f0, fL, HX⟩))
    all_goals go_wp2
    all_goals go_ret
    all_goals exact ⟨_, rfl, HX.out.1, by rw [← HFS.out]; exact HX.out.2.1, HX.out.2.2⟩

/-- Crash, at whatever numbers. -/
theorem crash_any (p : Nat) (s : St) (F : Nat → Prop) (n t : Int) (w : World) (h : Dk w p s F) (hm : s.mass ≤ 1000000000) :
    Calls Tryd.prog 18 #[.pointer (some ⟨p, 0, none⟩), .int .i64 n, .int .i64 t] w fun e w' => ∃ q, e = .returned (.pointer (some ⟨q, 0, none⟩)) ∧ w.heap.size ≤ q ∧ Dk w' q ⟨s.room, leftOf s n t, []⟩ (ext (fun _ => False) w w') ∧ Below w.heap.size w w' := by
  by_cases hn : n < 0
  · exact crash_neg p s F n t w h hm hn
  · obtain ⟨m, rfl⟩ : ∃ m : Nat, n = (m : Int) := ⟨n.toNat, by omega⟩
    exact crash_nat p s F m t w h hm
end Go.Proofs.YtnbdkojdddplkaaDoor.Dk
namespace Go.Proofs.YtnbdkojdddplkaaDoor.Dk
open Go.RowKit

theorem Tryd.info9 : (Tryd.prog.info? 9).map (fun i => (i.zero, i.size, i.bytes)) = some (some (.string ⟨#[]⟩), 1, 16) := by kernel_rfl

set_option maxHeartbeats 2000000 in
set_option maxRecDepth 20000 in
theorem names_any (p : Nat) (s : St) (F : Nat → Prop) (w : World) (h : Dk w p s F) (hm : s.mass ≤ 1000000000) :
    Calls Tryd.prog 48 #[.pointer (some ⟨p, 0, none⟩)] w fun e w' => ∃ v', e = .returned v' ∧ w'.ownsRow w.heap.size 9 1 v' s.now.length (s.now.map fun f => .string f.name) ∧ Below w.heap.size w w' := by
  obtain ⟨I, hI, hz0, hz1, hz2⟩ := info_parts Tryd.info9
  obtain ⟨hgood, hFlt, vl, vn, vw, zl, zn, ws, Fa, Fn, Fw, hC, g1, g2, g3, g4⟩ := h
  have hnm := St.now_mass hgood
  have hum := used_mass s.now
  have hzn : zn.length = s.now.length := by rw [← g2, List.length_map]
  have hzl : zn.length ≤ 1000000000 := by omega
  obtain ⟨w0, hmk, hO0, hg0⟩ := run_make_full (P := Tryd.prog) w w.heap.size 46 9 I _ 1 Tryd.underlying46 hI hz0 hz1 .i64 .i64 zn.length (by rw [hz2]; omega) (by unfold maxLen; omega) (Nat.le_refl _)
  have hb0 : Below w.heap.size w w0 := (Below.refl _ _).grown hg0 (Nat.le_refl _) (by simp)
  have hlt0 : w.heap.size < w0.heap.size := (hO0.lt _ rfl).2
  have hrep : (madeCells (Value.string ⟨#[]⟩).cells (zn.length * 1)).toList = List.replicate zn.length (Value.string ⟨#[]⟩) := by
    rw [Nat.mul_one]
    exact toList_madeCells_one _ _
  rw [hrep] at hO0
  have c2 := hC.cells.2.2.1
  have HF : Hid (_) := hC.fn
  have HO0 : Hid (_) := hO0
  have HB0 : Hid (_) := hb0
  obtain ⟨ao, N, cap, rfl⟩ := own_slice hC.fn.row
  have hN : N = zn.length := by
    rcases hC.fn.shape with ⟨e, e2⟩ | ⟨_, _, e, _⟩ <;> (simp only [Value.slice.injEq] at e; omega)
  subst hN
  have HE : Hid (s.now.map (fun f => Value.string f.name) = zn.map fun z => .string z.name) := by
    show _ = _
    rw [← g2, List.map_map]
    rfl
  have HZ : Hid (zn.length = s.now.length) := hzn
  have c20 := below_cell hb0 c2
  clear hC hgood g1 g2 g3 g4 hum hnm hzn hO0 hg0 hb0 hI hz0 hz1 hz2 hrep hm
  go_enter Tryd.func48, Tryd.ntmps48
  go_wp2
  go_loopw [19] (fun vi wr => ∃ k : Nat, k ≤ zn.length ∧ vi = .int .i64 k ∧ Hid (wr.ownsRow w.heap.size 9 1 (.slice (some ⟨w.heap.size, 0, none⟩) zn.length zn.length) zn.length (((zn.take k).map fun z => .string z.name) ++ List.replicate (zn.length - k) (Value.string ⟨#[]⟩)) ∧ Below w.heap.size w wr ∧ w.heap.size < wr.heap.size)) (fun vi _ => zn.length - (intOf vi).toNat)
  case atStart => exact ⟨0, Nat.zero_le _, rfl, by have h := HO0.out; simp only [List.take_zero, List.map_nil, List.nil_append, Nat.sub_zero]; exact h, HB0.out, hlt0⟩
  case round =>
    obtain ⟨k, hk, rfl, HK⟩ := hrel
    by_cases hlt : k < zn.length
    · have hlt' : (k : Int) < (zn.length : Int) := by omega
      obtain ⟨g, rfl⟩ : ∃ g, ao = some ⟨g, 0, none⟩ := by
        rcases HF.out.shape with ⟨_, e⟩ | ⟨g, cap', e, _⟩
        · omega
        · simp at e; exact ⟨g, e.1⟩
      obtain ⟨c0, c1⟩ := (HF.out.below HK.out.2.1).cell k hlt
      obtain ⟨aod, Ld, capd, hd⟩ := own_slice ((HF.out.below HK.out.2.1).data zn[k] (List.getElem_mem hlt))
      rw [hd] at c1
      have hst : ∀ ob : Obj, Hid (((wr.alloc ob).setCell ⟨w.heap.size, k, none⟩ (.string zn[k].name)).ownsRow w.heap.size 9 1 (.slice (some ⟨w.heap.size, 0, none⟩) zn.length zn.length) zn.length (((zn.take (k + 1)).map fun z => .string z.name) ++ List.replicate (zn.length - (k + 1)) (Value.string ⟨#[]⟩)) ∧ Below w.heap.size w ((wr.alloc ob).setCell ⟨w.heap.size, k, none⟩ (.string zn[k].name)) ∧ w.heap.size < ((wr.alloc ob).setCell ⟨w.heap.size, k, none⟩ (.string zn[k].name)).heap.size) := fun ob => by
        obtain ⟨x1, x2, x3⟩ := HK.out
        have h1 := ((x1.alloc ob).stored k (.string zn[k].name)).1
        have e : ((((zn.take k).map fun z => Value.string z.name) ++ List.replicate (zn.length - k) (Value.string ⟨#[]⟩)).set k (.string zn[k].name)) = ((zn.take (k + 1)).map fun z => .string z.name) ++ List.replicate (zn.length - (k + 1)) (Value.string ⟨#[]⟩) := by
          have hl : ((zn.take k).map fun z => Value.string z.name).length = k := by simp; omega
          rw [List.set_append_right _ _ (by omega), hl, Nat.sub_self, show zn.length - k = (zn.length - (k + 1)) + 1 by omega, List.replicate_succ, List.set_cons_zero, take_succ_snoc zn k zn[k] (List.getElem?_eq_getElem hlt), List.map_append, List.append_assoc]
          rfl
        rw [e] at h1
        exact ⟨h1, ((x2.alloc x2.size ob).setCell (Nat.le_refl _) _), by rw [setCell_size]; simp; omega⟩
      have HST : Hid (_) := hst
      have hcw : ∀ ob, ∃ u, (wr.alloc ob).cell? ⟨w.heap.size, k, none⟩ = some u := fun ob => by
        have h1 := (HK.out.1.alloc ob).cellAt k (by omega)
        rw [h1]
        exact ⟨_, List.getElem?_eq_getElem (by simp; omega)⟩
      obtain ⟨u, hu⟩ := hcw (.cells #[.string zn[k].name, .slice aod Ld capd] 99)
      have hfz := (HK.out.1.alloc (.cells #[.string zn[k].name, .slice aod Ld capd] 99)).frozenAt k
      have hne : w.heap.size ≠ wr.heap.size := by have := HK.out.2.2; omega
      clear hst hcw hd
      go_wp2
      go_roundw
      case rel => exact ⟨k + 1, by omega, by go_num, HST.out _⟩
      case measure => simp [intOf]; omega
    · have e : k = zn.length := by omega
      subst e
      go_wp2
      go_ret
      obtain ⟨x1, x2, x3⟩ := HK.out
      refine ⟨_, rfl, ?_, x2⟩
      rw [HE.out, ← HZ.out]
      simp only [List.take_length, Nat.sub_self, List.replicate_zero, List.append_nil] at x1
      exact x1
end Go.Proofs.YtnbdkojdddplkaaDoor.Dk

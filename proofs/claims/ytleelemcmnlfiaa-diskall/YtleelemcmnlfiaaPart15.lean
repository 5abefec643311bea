/- The walk of a disk's Sync. The walk of a disk's Crash. The walk of a disk's Crash at a number below 0. -/
import Derived.Test.YtleelemcmnlfiaaPart14
import Derived.Test.YtleelemcmnlfiaaPart06
import Derived.Test.YtleelemcmnlfiaaPart08
import Derived.Test.YtleelemcmnlfiaaPart10
namespace Go.Proofs.Ytleelemcmnlfiaa
open Go.RowKit

/-- A disk some of whose waiting changes last already. -/
def Sy (w wr : World) (p : Nat) (s : St) (F : Nat → Prop) (aow : Option Addr) (capw : Nat) (ws : List (Cv × Ch)) (k : Nat) : Prop :=
  ∃ ao N cap vn zl zn Fa Fn Fw, DkC wr p s.room (.slice ao N cap) vn (.slice aow ws.length capw) zl zn ws Fa Fn Fw ∧ zl.map Ent.fl = run s.last (s.wait.take k) ∧ zn.map Ent.fl = s.now ∧ (∀ j, (Fa j ∨ Fn j ∨ Fw j ∨ j = p) → ext F w wr j) ∧ Fr F w wr

theorem Sy.below {w wr w' : World} {p : Nat} {s : St} {F : Nat → Prop} {aow : Option Addr} {capw : Nat} {ws : List (Cv × Ch)} {k : Nat} (h : Sy w wr p s F aow capw ws k) (hb : Below wr.heap.size wr w') : Sy w w' p s F aow capw ws k := by
  obtain ⟨ao, N, cap, vn, zl, zn, Fa, Fn, Fw, h1, h2, h3, h4, h5⟩ := h
  refine ⟨ao, N, cap, vn, zl, zn, Fa, Fn, Fw, h1.kept (G := fun _ => False) (Fr.of_below hb) (fun _ _ => id) (fun _ _ => id) (fun _ _ => id) id, h2, h3, fun j hj => ?_, h5.trans (Fr.of_below (F := F) hb) (fun _ _ h => h)⟩
  rcases h4 j hj with h | h
  · exact Or.inl h
  · exact Or.inr ⟨h.1, Nat.lt_of_lt_of_le h.2 hb.size⟩

theorem Sy.step {w : World} {p : Nat} {s : St} {F : Nat → Prop} {aow : Option Addr} {capw : Nat} {ws : List (Cv × Ch)} (g3 : ws.map Prod.snd = s.wait) (hg : s.good) (hm : s.mass ≤ 1000000000) (hpF : F p) (k : Nat) (hk : k < ws.length) (wr1 : World) (h1 : Sy w wr1 p s F aow capw ws k) :
    Calls Try.prog 36 #[.pointer (some ⟨p, 1, none⟩), ws[k].1.val] wr1 fun e w' => e = .returned (.tuple #[]) ∧ Sy w w' p s F aow capw ws (k + 1) := by
  obtain ⟨ao, N, cap, vn, zl, zn, Fa, Fn, Fw, hC, c2, c3, c4, c5⟩ := h1
  have hget : s.wait[k]? = some ws[k].2 := by rw [← g3, List.getElem?_map, List.getElem?_eq_getElem hk]; rfl
  have hsrt : Srt (run s.last (s.wait.take k)) := run_srt _ _ hg.srt
  have hms : mass (run s.last (s.wait.take k)) + (ws[k].2).mass ≤ s.mass := by
    have e1 := run_mass (s.wait.take k) s.last hg.srt
    have e2 := wmass_take s.wait (k + 1)
    rw [take_succ_snoc _ _ _ hget] at e2
    have e3 : wmass (s.wait.take k ++ [ws[k].2]) = wmass (s.wait.take k) + (ws[k].2).mass := by simp [wmass]
    unfold St.mass
    omega
  have hcv := hC.wt.away (G := fun j => Fa j ∨ j = p) (fun j hj hG => by
    rcases hG with hG | hG
    · exact hC.d2 j hG hj
    · exact hC.p3 (hG ▸ hj)) ws[k] (List.getElem_mem hk)
  have hcs := hC.cells
  refine (do_any p 1 _ zl Fa _ ws[k].2 wr1 hcs.2.1 (hcs.2.2.2.2 1) hC.fl hC.p1 (by rw [c2]; exact hsrt) hcv (by rw [c2]; exact okw_take k _ _ hg.ok _ hget) (by rw [c2]; omega)).mono ?_
  rintro e w' ⟨rfl, v', zs', q1, q2, q3⟩
  refine ⟨rfl, ?_⟩
  obtain ⟨ao', N', cap', rfl⟩ := own_slice q1.row
  have hs := q3.size
  rw [setCell_size] at hs
  have hs5 := c5.size
  refine ⟨ao', N', cap', vn, zs', zn, _, Fn, Fw, hC.last q1 q3, ?_, c3, fun j hj => ?_, ?_⟩
  · rw [q2, c2, take_succ_snoc _ _ _ hget, run_snoc]
  · have old : ext F w wr1 j → ext F w w' j := fun h => by
      rcases h with h | h
      · exact Or.inl h
      · exact Or.inr ⟨h.1, by omega⟩
    rcases hj with hj | hj | hj | hj
    · rcases hj with hj | hj
      · exact old (c4 j (Or.inl hj))
      · exact Or.inr ⟨by omega, hj.2⟩
    · exact old (c4 j (Or.inr (Or.inl hj)))
    · exact old (c4 j (Or.inr (Or.inr (Or.inl hj))))
    · exact old (c4 j (Or.inr (Or.inr (Or.inr hj))))
  · refine (c5.trans (Fr.one wr1 p 1 _) (fun j _ e => e ▸ hpF)).trans q3 (fun j hj hFa => ?_)
    rcases c4 j (Or.inl hFa) with h | h
    · exact h
    · omega

set_option maxHeartbeats 2000000 in
set_option maxRecDepth 20000 in
theorem sync_any (p : Nat) (s : St) (F : Nat → Prop) (w : World) (h : Dk w p s F) (hm : s.mass ≤ 1000000000) :
    Calls Try.prog 17 #[.pointer (some ⟨p, 0, none⟩)] w fun e w' => e = .returned (.tuple #[]) ∧ Dk w' p ⟨s.room, s.now, []⟩ (ext F w w') ∧ Fr F w w' := by
  obtain ⟨hgood, hFlt, vl, vn, vw, zl, zn, ws, Fa, Fn, Fw, hC, g1, g2, g3, g4⟩ := h
  have c3 := hC.cells.2.2.2.1
  have hpF : F p := g4 p (Or.inr (Or.inr (Or.inr rfl)))
  have hwl : ws.length = s.wait.length := by rw [← g3, List.length_map]
  have hwb : ws.length ≤ 1000000000 := by unfold St.mass at hm; omega
  obtain ⟨aow, capw, hvw⟩ : ∃ ao cap, vw = .slice ao ws.length cap := by
    rcases own_shape hC.wt.row with ⟨rfl, e⟩ | ⟨g, cap, rfl, hc, _⟩
    · exact ⟨none, 0, by rw [e]⟩
    · exact ⟨_, _, rfl⟩
  subst hvw
  obtain ⟨aol, Nl, capl, rfl⟩ := own_slice hC.fl.row
  have HS0 : Hid (Sy w w p s F aow capw ws 0) := ⟨aol, Nl, capl, vn, zl, zn, Fa, Fn, Fw, hC, g1, g2, fun j hj => Or.inl (g4 j hj), Fr.refl _ _⟩
  have HSt : Hid (_) := fun (k : Nat) (hk : k < ws.length) (wr1 : World) => Sy.step (w := w) (aow := aow) (capw := capw) g3 hgood hm hpF k hk wr1
  have HEnd : Hid (∀ wr, Sy w wr p s F aow capw ws ws.length → Dk (wr.setCell ⟨p, 3, none⟩ (.slice none 0 0)) p ⟨s.room, s.now, []⟩ (ext F w (wr.setCell ⟨p, 3, none⟩ (.slice none 0 0))) ∧ Fr F w (wr.setCell ⟨p, 3, none⟩ (.slice none 0 0))) := by
    rintro wr ⟨ao, N, cap, vn', zl', zn', Fa', Fn', Fw', q1, q2, q3, q4, q5⟩
    have hone := Fr.one wr p 3 (.slice none 0 0)
    refine ⟨⟨⟨St.now_srt hgood, trivial, hgood.r0, hgood.r1⟩, ext_lt hFlt (by rw [setCell_size]; exact q5.size), .slice ao N cap, vn', .slice none 0 0, zl', zn', [], Fa', Fn', fun _ => False, ⟨by rw [heap_set q1.heap]; rfl, q1.fl.kept hone (fun k hk e => q1.p1 (e ▸ hk)), q1.fn.kept hone (fun k hk e => q1.p2 (e ▸ hk)), Wt.nil _ _ (fun _ h => h.elim), q1.d1, fun _ _ => id, fun _ _ => id, q1.p1, q1.p2, id⟩, ?_, q3, rfl, fun k hk => ?_⟩, q5.trans hone (fun k _ e => e ▸ hpF)⟩
    · rw [q2, List.take_of_length_le (by omega)]
      rfl
    · have he : ext F w (wr.setCell ⟨p, 3, none⟩ (.slice none 0 0)) k = ext F w wr k := by unfold ext; rw [setCell_size]
      rw [he]
      rcases hk with hk | hk | hk | hk
      · exact q4 k (Or.inl hk)
      · exact q4 k (Or.inr (Or.inl hk))
      · exact hk.elim
      · exact q4 k (Or.inr (Or.inr (Or.inr hk)))
  clear hC hgood hFlt g1 g2 g3 g4 hwl hm hpF
  go_enter Try.func17, Try.ntmps17
  go_wp2_with fail
  go_loopw [11] (fun vi wr => ∃ k : Nat, k ≤ ws.length ∧ vi = .int .i64 k ∧ Hid (Sy w wr p s F aow capw ws k)) (fun vi _ => ws.length - (intOf vi).toNat)
  case atStart => exact ⟨0, Nat.zero_le _, rfl, HS0.out⟩
  case round =>
    obtain ⟨k, hk, rfl, HK⟩ := hrel
    by_cases hlt : k < ws.length
    · have hlt' : (k : Int) < (ws.length : Int) := by omega
      obtain ⟨hW2, hpl⟩ : (∃ Fw', Wt wr (.slice aow ws.length capw) ws Fw') ∧ p < wr.heap.size := by
        obtain ⟨_, _, _, _, _, _, _, _, Fw', q1, _⟩ := HK.out
        exact ⟨⟨Fw', q1.wt⟩, q1.plt⟩
      obtain ⟨Fw', hW2⟩ := hW2
      obtain ⟨g, rfl⟩ : ∃ g, aow = some ⟨g, 0, none⟩ := by
        rcases own_shape hW2.row with ⟨_, e⟩ | ⟨g, cap', e, _⟩
        · omega
        · simp at e; exact ⟨g, e.1⟩
      obtain ⟨m0, m1, m2, m3, m4⟩ := hW2.cell k hlt
      obtain ⟨aod, Ld, capd, hd⟩ := Cv.slice (hW2.away (G := fun _ => False) (fun _ _ => id) ws[k] (List.getElem_mem hlt))
      have hst := HSt.out k hlt (wr.alloc (.cells #[.int .i64 ws[k].1.kd, .string ws[k].1.nm, .slice aod Ld capd, .int .i64 ws[k].1.sz, .string ws[k].1.t] 68)).drew (HK.out.below ((Below.refl _ _).alloc (Nat.le_refl _) _).drew)
      simp only [Cv.val] at hst
      rw [hd] at hst m2
      have hst2 := hst.mono (R' := fun e w' => e = .returned (.tuple #[]) ∧ Hid (Sy w w' p s F (some ⟨g, 0, none⟩) capw ws (k + 1))) (fun _ _ h => h)
      have HS2 : Hid (_) := hst2
      generalize ws[k].1.kd = kd at *
      generalize ws[k].1.nm = nm at *
      generalize ws[k].1.sz = sz at *
      generalize ws[k].1.t = tt at *
      clear hst hst2 hW2 hd HEnd
      go_wp2_with fail
      go_region_with (go_at_call 36; refine Calls.mono HS2.out ?_; rintro e w' ⟨rfl, hX⟩)
      all_goals go_wp2
      all_goals go_roundw
      case rel => exact ⟨k + 1, by omega, by go_num, hX⟩
      case measure => simp [intOf]; omega
    · have hkM : k = ws.length := by omega
      subst hkM
      have hlt' : ¬ (ws.length : Int) < (ws.length : Int) := by omega
      obtain ⟨cp, cf⟩ : (∃ u, wr.cell? ⟨p, 3, none⟩ = some u) ∧ wr.frozen? ⟨p, 3, none⟩ = false := by
        obtain ⟨_, _, _, _, _, _, _, _, Fw', q1, _⟩ := HK.out
        exact ⟨⟨_, q1.cells.2.2.2.1⟩, q1.cells.2.2.2.2 3⟩
      obtain ⟨u, cp⟩ := cp
      have HE2 : Hid (_) := HEnd.out wr HK.out
      clear HEnd HSt
      go_wp2
      go_end0
      exact ⟨rfl, HE2.out.1, HE2.out.2⟩
end Go.Proofs.Ytleelemcmnlfiaa
namespace Go.Proofs.Ytleelemcmnlfiaa
open Go.RowKit

set_option maxHeartbeats 2000000 in
set_option maxRecDepth 20000 in
theorem crash_nat (p : Nat) (s : St) (F : Nat → Prop) (n : Nat) (t : Int) (w : World) (h : Dk w p s F) (hm : s.mass ≤ 1000000000) :
    Calls Try.prog 20 #[.pointer (some ⟨p, 0, none⟩), .int .i64 (n : Int), .int .i64 t] w fun e w' => ∃ q, e = .returned (.pointer (some ⟨q, 0, none⟩)) ∧ w.heap.size ≤ q ∧ Dk w' q ⟨s.room, leftOf s n t, []⟩ (ext (fun _ => False) w w') ∧ Below w.heap.size w w' := by
  obtain ⟨hgood, hFlt, vl, vn, vw, zl, zn, ws, Fa, Fn, Fw, hC, g1, g2, g3, g4⟩ := h
  have hcs := hC.cells
  have c0 := hcs.1
  have c1 := hcs.2.1
  have c3 := hcs.2.2.2.1
  have hWT := hC.wt
  have hwl : ws.length = s.wait.length := by rw [← g3, List.length_map]
  have hwb : ws.length ≤ 1000000000 := by unfold St.mass at hm; omega
  obtain ⟨aow, capw, hvw, hcw⟩ : ∃ ao cap, vw = .slice ao ws.length cap ∧ ws.length ≤ cap := by
    rcases own_shape hC.wt.row with ⟨rfl, e⟩ | ⟨g, cap, rfl, hc, _⟩
    · exact ⟨none, 0, by rw [e], by omega⟩
    · exact ⟨_, _, rfl, hc⟩
  subst hvw
  obtain ⟨aol, Nl, capl, rfl⟩ := own_slice hC.fl.row
  have hml : s.mass ≤ 1000000000 → mass (zl.map Ent.fl) ≤ 1000000000 := fun h => by rw [g1]; unfold St.mass at h; omega
  obtain ⟨M, hM0, HM⟩ : ∃ M : Nat, M ≤ ws.length ∧ Hid (M = min n ws.length) := ⟨min n ws.length, by omega, rfl⟩
  have hx1 : ¬ ((n : Int) < 0) := by omega
  have hy1 : (if (ws.length : Int) < (n : Int) then (ws.length : Int) else (n : Int)) = (M : Int) := by have := HM.out; split <;> omega
  have hy2 : (if ws.length < n then (ws.length : Int) else (n : Int)) = (M : Int) := by have := HM.out; split <;> omega
  have hmx : ∀ w' : World, (Builtin.max_ #[3, 3] 3 #[.int .i64 (n : Int), .int .i64 0]).run Try.prog w' = .ok (.int .i64 (n : Int)) w' := fun w' => by
    rw [run_max_int2, if_neg (by omega)]
  have hmn : ∀ w' : World, (Builtin.min_ #[3, 3] 3 #[.int .i64 (n : Int), .int .i64 (ws.length : Int)]).run Try.prog w' = .ok (.int .i64 (M : Int)) w' := fun w' => by
    rw [run_min_int2, hy1]
  have hsl := fun w' => slice_front61 aow ws.length capw M hM0 hcw w'
  have HCl : Hid (Calls Try.prog 37 #[.slice aol Nl capl] w fun e w1 => ∃ ao1 N1 cap1, e = .returned (.slice ao1 N1 cap1) ∧ w1.cell? ⟨p, 3, none⟩ = some (.slice aow ws.length capw) ∧ Hid (Lf w (w1.alloc (.cells #[.slice ao1 N1 cap1] 60)) w1.heap.size (run s.last (s.wait.take 0))) ∧ Hid (Below w.heap.size w w1)) := by
    refine (fclone_any _ zl Fa w hC.fl (hml hm)).mono ?_
    rintro e w1 ⟨v', zs', rfl, k1, k2, k3⟩
    obtain ⟨ao1, N1, cap1, rfl⟩ := own_slice k1.row
    have hb : Below w1.heap.size w1 (w1.alloc (.cells #[.slice ao1 N1 cap1] 60)) := (Below.refl _ _).alloc (Nat.le_refl _) _
    refine ⟨ao1, N1, cap1, rfl, below_cell k3 c3, ⟨ao1, N1, cap1, zs', _, ?_, ?_, k1.below hb, by rw [k2, g1]; rfl, fun hk => ?_, fun j hj => ?_, k3.trans (hb.mono k3.size), k3.size, by simp⟩, k3⟩
    · rw [cell_of_row _ _ 0 _ _ _ (heap_alloc_new _ _)]; rfl
    · exact frozen_of_heap (heap_alloc_new _ _) 0
    · rcases hk with hk | hk
      · exact hk.elim
      · omega
    · rcases hj with hj | hj
      · exact hj.elim
      · exact hj.1
  have HSt : Hid (_) := fun (L k : Nat) (hk : k < ws.length) (wr wr1 : World) => Lf.step hWT g3 hgood hm L k hk wr wr1
  have HTo : Hid (_) := fun (L k : Nat) (hk : k < ws.length) (wr1 : World) => Lf.torn hWT g3 hgood hm L k t hk wr1
  have HWT : Hid (_) := hWT
  have HG : Hid (s.good) := hgood
  have HMs : Hid (s.mass ≤ 1000000000) := hm
  have HG3 : Hid (ws.map Prod.snd = s.wait) := g3
  clear hC hcs hFlt g1 g2 g3 g4 hwl hml hWT hgood hm hcw
  go_enter Try.func20, Try.ntmps20
  go_wp2_with (go_at_call 37; refine Calls.mono HCl.out ?_; rintro e w1 ⟨ao1, N1, cap1, rfl, c31, HL1, HB1⟩)
  have c31a : (w1.alloc (.cells #[.slice ao1 N1 cap1] 60)).cell? ⟨p, 3, none⟩ = some (.slice aow ws.length capw) := below_cell ((Below.refl _ _).alloc (Nat.le_refl _) _) c31
  go_region_held (fun w' => w'.cell? ⟨p, 3, none⟩ = some (.slice aow ws.length capw) ∧ (Instr.slice 61 (.slice aow ws.length capw) none (some (.int .i64 (M : Int))) none).run Try.prog w' = .ok (.slice aow M capw) w' ∧ (Instr.sliceAt 61 (.slice aow ws.length capw) none (some (.int .i64 (M : Int))) none).run Try.prog w' = .ok (.slice aow M capw) w' ∧ (Builtin.max_ #[3, 3] 3 #[.int .i64 (n : Int), .int .i64 0]).run Try.prog w' = .ok (.int .i64 (n : Int)) w' ∧ (Builtin.min_ #[3, 3] 3 #[.int .i64 (n : Int), .int .i64 (ws.length : Int)]).run Try.prog w' = .ok (.int .i64 (M : Int)) w')
    (first | exact ⟨c31a, (hsl _).1, (hsl _).2, hmx _, hmn _⟩)
    (fail)
  have HEnd : Hid (∀ (w4 : World) (fs : List Fl), Srt fs → mass fs ≤ 1000000000 → Lf w w4 w1.heap.size fs → ∃ ao N cap, w4.cell? ⟨p, 0, none⟩ = some (.int .i64 s.room) ∧ w4.cell? ⟨w1.heap.size, 0, none⟩ = some (.slice ao N cap) ∧
      Hid (Calls Try.prog 37 #[.slice ao N cap] w4.drew fun e w5 => ∃ ao5 N5 cap5, e = .returned (.slice ao5 N5 cap5) ∧ w5.cell? ⟨p, 0, none⟩ = some (.int .i64 s.room) ∧ w5.cell? ⟨w1.heap.size, 0, none⟩ = some (.slice ao N cap) ∧ Hid (w.heap.size ≤ w5.heap.size ∧ Dk (w5.alloc (.cells #[.int .i64 s.room, .slice ao N cap, .slice ao5 N5 cap5, .slice none 0 0] 63)) w5.heap.size ⟨s.room, fs, []⟩ (ext (fun _ => False) w (w5.alloc (.cells #[.int .i64 s.room, .slice ao N cap, .slice ao5 N5 cap5, .slice none 0 0] 63))) ∧ Below w.heap.size w (w5.alloc (.cells #[.int .i64 s.room, .slice ao N cap, .slice ao5 N5 cap5, .slice none 0 0] 63))))) := by
    intro w4 fs hs hms hL
    have hLd : Lf w w4.drew w1.heap.size fs := hL.below (Below.refl _ _).drew
    obtain ⟨ao, N, cap, zk, Fk, q1, q2, q3, q4, q5, q6, q7, q8, q9⟩ := hLd
    have c04 := below_cell q7 c0
    refine ⟨ao, N, cap, c04, q1, ?_⟩
    refine (fclone_any _ zk Fk w4.drew q3 (by rw [q4]; exact hms)).mono ?_
    rintro e w5 ⟨v', zs', rfl, k1, k2, k3⟩
    obtain ⟨ao5, N5, cap5, rfl⟩ := own_slice k1.row
    have hbx := Lf.boxed (room := s.room) q3 q4 q6 q7 hs ⟨HG.out.r0, HG.out.r1⟩ k1 (by rw [k2, q4]) k3
    exact ⟨ao5, N5, cap5, rfl, below_cell k3 c04, below_cell k3 q1, Nat.le_trans q7.size k3.size, hbx.1, hbx.2⟩
  have hLn : ∀ k, k ≤ ws.length → Hid (Srt (run s.last (s.wait.take k)) ∧ mass (run s.last (s.wait.take k)) ≤ 1000000000) := fun k hk => by
    have e1 := run_mass (s.wait.take k) s.last HG.out.srt
    have e2 := wmass_take s.wait k
    have e3 := HMs.out
    unfold St.mass at e3
    exact ⟨run_srt _ _ HG.out.srt, by omega⟩
  have HLn : Hid (_) := hLn
  have HC3 : Hid (_) := c3
  clear hmx hmn hsl c31a c31 hy1 hy2 hx1 hLn c1 c3
  go_wp2_with fail
  go_loopw [31] (fun vi wr => ∃ k : Nat, k ≤ M ∧ vi = .int .i64 k ∧ Hid (Lf w wr w1.heap.size (run s.last (s.wait.take k)))) (fun vi _ => M - (intOf vi).toNat)
  case atStart => exact ⟨0, Nat.zero_le _, rfl, HL1.out.below (Below.refl _ _).drew⟩
  case round =>
    obtain ⟨k, hk, rfl, HK⟩ := hrel
    by_cases hlt : k < M
    · have hlt' : (k : Int) < (M : Int) := by omega
      have hkw : k < ws.length := by omega
      obtain ⟨g, rfl⟩ : ∃ g, aow = some ⟨g, 0, none⟩ := by
        rcases own_shape HWT.out.row with ⟨_, e⟩ | ⟨g, cap', e, _⟩
        · omega
        · simp at e; exact ⟨g, e.1⟩
      have hbw : Below w.heap.size w wr := by
        obtain ⟨_, _, _, _, _, _, _, _, _, _, _, q7, _⟩ := HK.out
        exact q7
      have hW2 := HWT.out.kept (G := fun _ => False) (Fr.of_below hbw) (fun _ _ => id)
      obtain ⟨m0, m1, m2, m3, m4⟩ := hW2.cell k hkw
      obtain ⟨aod, Ld, capd, hd⟩ := Cv.slice (hW2.away (G := fun _ => False) (fun _ _ => id) ws[k] (List.getElem_mem hkw))
      have hst := HSt.out w1.heap.size k hkw wr (wr.alloc (.cells #[.int .i64 ws[k].1.kd, .string ws[k].1.nm, .slice aod Ld capd, .int .i64 ws[k].1.sz, .string ws[k].1.t] 68)) HK.out ((Below.refl _ _).alloc (Nat.le_refl _) _)
      simp only [Cv.val] at hst
      rw [hd] at hst m2
      have HS2 : Hid (_) := hst
      clear hst hW2 hd hbw HEnd HTo HLn
      go_wp2_with (go_at_call 36; refine Calls.mono HS2.out ?_; rintro e w' ⟨rfl, hX⟩)
      go_roundw
      case rel => exact ⟨k + 1, by omega, by go_num, hX⟩
      case measure => simp [intOf]; omega
    · have hkM : k = M := by omega
      subst hkM
      have hlt' : ¬ (k : Int) < (k : Int) := by omega
      have hbw : Below w.heap.size w wr := by
        obtain ⟨_, _, _, _, _, _, _, _, _, _, _, q7, _⟩ := HK.out
        exact q7
      have c3r := below_cell hbw HC3.out
      by_cases hnl : n < ws.length
      · have hnl' : (n : Int) < (ws.length : Int) := by omega
        have hkn : k = n := by have := HM.out; omega
        subst hkn
        obtain ⟨g, rfl⟩ : ∃ g, aow = some ⟨g, 0, none⟩ := by
          rcases own_shape HWT.out.row with ⟨_, e⟩ | ⟨g, cap', e, _⟩
          · omega
          · simp at e; exact ⟨g, e.1⟩
        have hW2 := HWT.out.kept (G := fun _ => False) (Fr.of_below hbw) (fun _ _ => id)
        obtain ⟨m0, m1, m2, m3, m4⟩ := hW2.cell k hnl
        obtain ⟨aod, Ld, capd, hd⟩ := Cv.slice (hW2.away (G := fun _ => False) (fun _ _ => id) ws[k] (List.getElem_mem hnl))
        have hst := HTo.out w1.heap.size k hnl wr HK.out
        simp only [Cv.val] at hst
        rw [hd] at hst m2
        have HS2 : Hid (_) := hst
        have hget : s.wait[k]? = some ws[k].2 := by rw [← HG3.out, List.getElem?_map, List.getElem?_eq_getElem hnl]; rfl
        obtain ⟨fs, HFS⟩ : ∃ fs, Hid (fs = leftOf s (k : Int) t) := ⟨leftOf s (k : Int) t, (rfl : _ = _)⟩
        have hfs : torn (run s.last (s.wait.take k)) ws[k].2 t = fs := by
          rw [HFS.out]
          simp [leftOf, hget]
        have HSM : Hid (Srt fs ∧ mass fs ≤ 1000000000) := by
          have e := HLn.out (k + 1) (by omega)
          have e1 := run_mass (s.wait.take k) s.last HG.out.srt
          have e2 := wmass_take s.wait (k + 1)
          rw [take_succ_snoc _ _ _ hget] at e2
          have e3 : wmass (s.wait.take k ++ [ws[k].2]) = wmass (s.wait.take k) + (ws[k].2).mass := by simp [wmass]
          have e4 := HMs.out
          unfold St.mass at e4
          have hsr := run_srt (s.wait.take k) _ HG.out.srt
          rw [← hfs]
          cases hc : ws[k].2 with
          | app nn bb =>
            rw [hc] at e2 e3
            simp only [Ch.mass] at e3
            simp only [torn]
            split
            · exact ⟨hsr, by omega⟩
            · have e5 := ap_mass (.app nn (bb.take t.toNat)) hsr
              simp only [Ch.mass, List.length_take] at e5
              exact ⟨ap_srt _ hsr, by omega⟩
          | cut nn kk => exact ⟨hsr, by show mass (run s.last (s.wait.take k)) ≤ _; omega⟩
          | rem nn => exact ⟨hsr, by show mass (run s.last (s.wait.take k)) ≤ _; omega⟩
          | mov nn kk => exact ⟨hsr, by show mass (run s.last (s.wait.take k)) ≤ _; omega⟩
        rw [hfs] at HS2
        clear hst hW2 hd hbw HSt HTo HLn hfs hget
        go_wp2_with (go_at_call 38; refine Calls.mono HS2.out ?_; rintro e w4 ⟨rfl, hX⟩; obtain ⟨ao4, N4, cap4, e0, eL, HC4⟩ := HEnd.out w4 fs HSM.out.1 HSM.out.2 hX; clear hX)
        go_region_held (fun w' => w'.cell? ⟨p, 0, none⟩ = some (.int .i64 s.room) ∧ w'.cell? ⟨w1.heap.size, 0, none⟩ = some (.slice ao4 N4 cap4))
          (first | exact ⟨e0, eL⟩ | exact ⟨f0, fL⟩ | go_keep)
          (first | (go_at_call 37; refine Calls.mono HC4.out ?_; rintro e w5 ⟨ao5, N5, cap5, rfl, f0, fL, HX⟩))
        all_goals go_wp2
        all_goals go_ret
        all_goals exact ⟨_, rfl, HX.out.1, by rw [← HFS.out]; exact HX.out.2.1, HX.out.2.2⟩
      · have hnl' : ¬ (n : Int) < (ws.length : Int) := by omega
        have hkn : k = ws.length := by have := HM.out; omega
        obtain ⟨fs, HFS⟩ : ∃ fs, Hid (fs = leftOf s (n : Int) t) := ⟨leftOf s (n : Int) t, (rfl : _ = _)⟩
        have hwl : ws.length = s.wait.length := by rw [← HG3.out, List.length_map]
        have hfs : run s.last (s.wait.take k) = fs := by
          rw [HFS.out]
          have h1 : s.wait[n]? = none := List.getElem?_eq_none (by omega)
          simp only [leftOf, Int.toNat_natCast, h1]
          rw [if_pos (by omega), List.take_of_length_le (by omega), List.take_of_length_le (by omega)]
        have hSM := HLn.out k (by omega)
        rw [hfs] at hSM
        have hK := HK.out
        rw [hfs] at hK
        obtain ⟨ao4, N4, cap4, e0, eL, HC4⟩ := HEnd.out wr fs hSM.out.1 hSM.out.2 hK
        clear hK hSM hfs hwl hkn HSt HTo HLn hbw
        go_wp2_with fail
        go_region_held (fun w' => w'.cell? ⟨p, 0, none⟩ = some (.int .i64 s.room) ∧ w'.cell? ⟨w1.heap.size, 0, none⟩ = some (.slice ao4 N4 cap4))
          (first | exact ⟨e0, eL⟩ | exact ⟨f0, fL⟩ | go_keep)
          (first | (go_at_call 37; refine Calls.mono HC4.out ?_; rintro e w5 ⟨ao5, N5, cap5, rfl, f0, fL, HX⟩))
        all_goals go_wp2
        all_goals go_ret
        all_goals exact ⟨_, rfl, HX.out.1, by rw [← HFS.out]; exact HX.out.2.1, HX.out.2.2⟩
end Go.Proofs.Ytleelemcmnlfiaa
namespace Go.Proofs.Ytleelemcmnlfiaa
open Go.RowKit

set_option maxHeartbeats 2000000 in
set_option maxRecDepth 20000 in
theorem crash_neg (p : Nat) (s : St) (F : Nat → Prop) (n t : Int) (w : World) (h : Dk w p s F) (hm : s.mass ≤ 1000000000) (hn : n < 0) :
    Calls Try.prog 20 #[.pointer (some ⟨p, 0, none⟩), .int .i64 n, .int .i64 t] w fun e w' => ∃ q, e = .returned (.pointer (some ⟨q, 0, none⟩)) ∧ w.heap.size ≤ q ∧ Dk w' q ⟨s.room, leftOf s n t, []⟩ (ext (fun _ => False) w w') ∧ Below w.heap.size w w' := by
  obtain ⟨hgood, hFlt, vl, vn, vw, zl, zn, ws, Fa, Fn, Fw, hC, g1, g2, g3, g4⟩ := h
  have hcs := hC.cells
  have c0 := hcs.1
  have c1 := hcs.2.1
  have c3 := hcs.2.2.2.1
  have hWT := hC.wt
  have hwl : ws.length = s.wait.length := by rw [← g3, List.length_map]
  have hwb : ws.length ≤ 1000000000 := by unfold St.mass at hm; omega
  obtain ⟨aow, capw, hvw, hcw⟩ : ∃ ao cap, vw = .slice ao ws.length cap ∧ ws.length ≤ cap := by
    rcases own_shape hC.wt.row with ⟨rfl, e⟩ | ⟨g, cap, rfl, hc, _⟩
    · exact ⟨none, 0, by rw [e], by omega⟩
    · exact ⟨_, _, rfl, hc⟩
  subst hvw
  obtain ⟨aol, Nl, capl, rfl⟩ := own_slice hC.fl.row
  have hml : s.mass ≤ 1000000000 → mass (zl.map Ent.fl) ≤ 1000000000 := fun h => by rw [g1]; unfold St.mass at h; omega
  have hM0 : 0 ≤ ws.length := Nat.zero_le _
  have hmx : ∀ w' : World, (Builtin.max_ #[3, 3] 3 #[.int .i64 n, .int .i64 0]).run Try.prog w' = .ok (.int .i64 0) w' := fun w' => by
    rw [run_max_int2, if_pos (by omega)]
  have hmn : ∀ w' : World, (Builtin.min_ #[3, 3] 3 #[.int .i64 0, .int .i64 (ws.length : Int)]).run Try.prog w' = .ok (.int .i64 0) w' := fun w' => by
    rw [run_min_int2, if_neg (by omega)]
  have hsl := fun w' => slice_front61 aow ws.length capw 0 hM0 hcw w'
  have HCl : Hid (Calls Try.prog 37 #[.slice aol Nl capl] w fun e w1 => ∃ ao1 N1 cap1, e = .returned (.slice ao1 N1 cap1) ∧ w1.cell? ⟨p, 3, none⟩ = some (.slice aow ws.length capw) ∧ Hid (Lf w (w1.alloc (.cells #[.slice ao1 N1 cap1] 60)) w1.heap.size (run s.last (s.wait.take 0))) ∧ Hid (Below w.heap.size w w1)) := by
    refine (fclone_any _ zl Fa w hC.fl (hml hm)).mono ?_
    rintro e w1 ⟨v', zs', rfl, k1, k2, k3⟩
    obtain ⟨ao1, N1, cap1, rfl⟩ := own_slice k1.row
    have hb : Below w1.heap.size w1 (w1.alloc (.cells #[.slice ao1 N1 cap1] 60)) := (Below.refl _ _).alloc (Nat.le_refl _) _
    refine ⟨ao1, N1, cap1, rfl, below_cell k3 c3, ⟨ao1, N1, cap1, zs', _, ?_, ?_, k1.below hb, by rw [k2, g1]; rfl, fun hk => ?_, fun j hj => ?_, k3.trans (hb.mono k3.size), k3.size, by simp⟩, k3⟩
    · rw [cell_of_row _ _ 0 _ _ _ (heap_alloc_new _ _)]; rfl
    · exact frozen_of_heap (heap_alloc_new _ _) 0
    · rcases hk with hk | hk
      · exact hk.elim
      · omega
    · rcases hj with hj | hj
      · exact hj.elim
      · exact hj.1
  have HSt : Hid (_) := fun (L k : Nat) (hk : k < ws.length) (wr wr1 : World) => Lf.step hWT g3 hgood hm L k hk wr wr1
  have HTo : Hid (_) := fun (L k : Nat) (hk : k < ws.length) (wr1 : World) => Lf.torn hWT g3 hgood hm L k t hk wr1
  have HWT : Hid (_) := hWT
  have HG : Hid (s.good) := hgood
  have HMs : Hid (s.mass ≤ 1000000000) := hm
  have HG3 : Hid (ws.map Prod.snd = s.wait) := g3
  clear hC hcs hFlt g1 g2 g3 g4 hwl hml hWT hgood hm hcw
  go_enter Try.func20, Try.ntmps20
  go_wp2_with (go_at_call 37; refine Calls.mono HCl.out ?_; rintro e w1 ⟨ao1, N1, cap1, rfl, c31, HL1, HB1⟩)
  have c31a : (w1.alloc (.cells #[.slice ao1 N1 cap1] 60)).cell? ⟨p, 3, none⟩ = some (.slice aow ws.length capw) := below_cell ((Below.refl _ _).alloc (Nat.le_refl _) _) c31
  have hsl0 : ∀ w' : World, (Instr.slice 61 (.slice aow ws.length capw) none (some (.int .i64 0)) none).run Try.prog w' = .ok (.slice aow 0 capw) w' ∧ (Instr.sliceAt 61 (.slice aow ws.length capw) none (some (.int .i64 0)) none).run Try.prog w' = .ok (.slice aow 0 capw) w' := hsl
  clear hsl
  go_region_held (fun w' => w'.cell? ⟨p, 3, none⟩ = some (.slice aow ws.length capw) ∧ (Instr.slice 61 (.slice aow ws.length capw) none (some (.int .i64 0)) none).run Try.prog w' = .ok (.slice aow 0 capw) w' ∧ (Instr.sliceAt 61 (.slice aow ws.length capw) none (some (.int .i64 0)) none).run Try.prog w' = .ok (.slice aow 0 capw) w' ∧ (Builtin.max_ #[3, 3] 3 #[.int .i64 n, .int .i64 0]).run Try.prog w' = .ok (.int .i64 0) w' ∧ (Builtin.min_ #[3, 3] 3 #[.int .i64 0, .int .i64 (ws.length : Int)]).run Try.prog w' = .ok (.int .i64 0) w')
    (first | exact ⟨c31a, (hsl0 _).1, (hsl0 _).2, hmx _, hmn _⟩)
    (fail)
  have HEnd : Hid (∀ (w4 : World) (fs : List Fl), Srt fs → mass fs ≤ 1000000000 → Lf w w4 w1.heap.size fs → ∃ ao N cap, w4.cell? ⟨p, 0, none⟩ = some (.int .i64 s.room) ∧ w4.cell? ⟨w1.heap.size, 0, none⟩ = some (.slice ao N cap) ∧
      Hid (Calls Try.prog 37 #[.slice ao N cap] w4.drew fun e w5 => ∃ ao5 N5 cap5, e = .returned (.slice ao5 N5 cap5) ∧ w5.cell? ⟨p, 0, none⟩ = some (.int .i64 s.room) ∧ w5.cell? ⟨w1.heap.size, 0, none⟩ = some (.slice ao N cap) ∧ Hid (w.heap.size ≤ w5.heap.size ∧ Dk (w5.alloc (.cells #[.int .i64 s.room, .slice ao N cap, .slice ao5 N5 cap5, .slice none 0 0] 63)) w5.heap.size ⟨s.room, fs, []⟩ (ext (fun _ => False) w (w5.alloc (.cells #[.int .i64 s.room, .slice ao N cap, .slice ao5 N5 cap5, .slice none 0 0] 63))) ∧ Below w.heap.size w (w5.alloc (.cells #[.int .i64 s.room, .slice ao N cap, .slice ao5 N5 cap5, .slice none 0 0] 63))))) := by
    intro w4 fs hs hms hL
    have hLd : Lf w w4.drew w1.heap.size fs := hL.below (Below.refl _ _).drew
    obtain ⟨ao, N, cap, zk, Fk, q1, q2, q3, q4, q5, q6, q7, q8, q9⟩ := hLd
    have c04 := below_cell q7 c0
    refine ⟨ao, N, cap, c04, q1, ?_⟩
    refine (fclone_any _ zk Fk w4.drew q3 (by rw [q4]; exact hms)).mono ?_
    rintro e w5 ⟨v', zs', rfl, k1, k2, k3⟩
    obtain ⟨ao5, N5, cap5, rfl⟩ := own_slice k1.row
    have hbx := Lf.boxed (room := s.room) q3 q4 q6 q7 hs ⟨HG.out.r0, HG.out.r1⟩ k1 (by rw [k2, q4]) k3
    exact ⟨ao5, N5, cap5, rfl, below_cell k3 c04, below_cell k3 q1, Nat.le_trans q7.size k3.size, hbx.1, hbx.2⟩
  have hLn : ∀ k, k ≤ ws.length → Hid (Srt (run s.last (s.wait.take k)) ∧ mass (run s.last (s.wait.take k)) ≤ 1000000000) := fun k hk => by
    have e1 := run_mass (s.wait.take k) s.last HG.out.srt
    have e2 := wmass_take s.wait k
    have e3 := HMs.out
    unfold St.mass at e3
    exact ⟨run_srt _ _ HG.out.srt, by omega⟩
  have HLn : Hid (_) := hLn
  clear hmx hmn hsl0 c31a c31 hLn c1 c3 HSt HTo
  go_wp2_with fail
  go_loopw [31] (fun vi wr => vi = .int .i64 0 ∧ Hid (Lf w wr w1.heap.size (run s.last (s.wait.take 0)))) (fun _ _ => 0)
  case atStart => exact ⟨rfl, HL1.out.below (Below.refl _ _).drew⟩
  case round =>
    obtain ⟨rfl, HK⟩ := hrel
    have hn0 : ¬ (0 : Int) ≤ n := by omega
    have hSM := HLn.out 0 (Nat.zero_le _)
    obtain ⟨ao4, N4, cap4, e0, eL, HC4⟩ := HEnd.out wr _ hSM.out.1 hSM.out.2 HK.out
    have HFS : Hid (run s.last (s.wait.take 0) = leftOf s n t) := by
      show _ = _
      simp only [leftOf, if_neg hn0]
      rfl
    clear hSM HLn HEnd
    go_wp2_with fail
    go_region_held (fun w' => w'.cell? ⟨p, 0, none⟩ = some (.int .i64 s.room) ∧ w'.cell? ⟨w1.heap.size, 0, none⟩ = some (.slice ao4 N4 cap4))
      (first | exact ⟨e0, eL⟩ | exact ⟨f0, fL⟩ | go_keep)
      (first | (go_at_call 37; refine Calls.mono HC4.out ?_; rintro e w5 ⟨ao5, N5, cap5, rfl, f0, fL, HX⟩))
    all_goals go_wp2
    all_goals go_ret
    all_goals exact ⟨_, rfl, HX.out.1, by rw [← HFS.out]; exact HX.out.2.1, HX.out.2.2⟩

/-- Crash, at whatever numbers. -/
theorem crash_any (p : Nat) (s : St) (F : Nat → Prop) (n t : Int) (w : World) (h : Dk w p s F) (hm : s.mass ≤ 1000000000) :
    Calls Try.prog 20 #[.pointer (some ⟨p, 0, none⟩), .int .i64 n, .int .i64 t] w fun e w' => ∃ q, e = .returned (.pointer (some ⟨q, 0, none⟩)) ∧ w.heap.size ≤ q ∧ Dk w' q ⟨s.room, leftOf s n t, []⟩ (ext (fun _ => False) w w') ∧ Below w.heap.size w w' := by
  by_cases hn : n < 0
  · exact crash_neg p s F n t w h hm hn
  · obtain ⟨m, rfl⟩ : ∃ m : Nat, n = (m : Int) := ⟨n.toNat, by omega⟩
    exact crash_nat p s F m t w h hm
end Go.Proofs.Ytleelemcmnlfiaa

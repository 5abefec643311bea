/- The walk of a disk's Sync. -/
import Derived.Test.YtnbdkojdddplkaaDoorDkCallsA
import Derived.Test.YtnbdkojdddplkaaDoorDkTear
namespace Go.Proofs.YtnbdkojdddplkaaDoor.Dk
open Go.RowKit

/-- A disk some of whose waiting changes last already. -/
def Sy (w wr : World) (p : Nat) (s : St) (F : Nat → Prop) (aow : Option Addr) (capw : Nat) (ws : List (Cv × Ch)) (k : Nat) : Prop :=
  ∃ ao N cap vn zl zn Fa Fn Fw, DkC wr p s.room (.slice ao N cap) vn (.slice aow ws.length capw) zl zn ws Fa Fn Fw ∧ zl.map Ent.fl = run s.last (s.wait.take k) ∧ zn.map Ent.fl = s.now ∧ (∀ j, (Fa j ∨ Fn j ∨ Fw j ∨ j = p) → ext F w wr j) ∧ Fr F w wr

theorem Sy.below {w wr w' : World} {p : Nat} {s : St} {F : Nat → Prop} {aow : Option Addr} {capw : Nat} {ws : List (Cv × Ch)} {k : Nat} (h : Sy w wr p s F aow capw ws k) (hb : Below wr.heap.size wr w') : Sy w w' p s F aow capw ws k := by
  obtain ⟨ao, N, cap, vn, zl, zn, Fa, Fn, Fw, h1, h2, h3, h4, h5⟩ := h
  refine ⟨ao, N, cap, vn, zl, zn, Fa, Fn, Fw, h1.kept (G := fun _ => False) (Fr.of_below hb) (fun _ _ => id) (fun _ _ => id) (fun _ _ => id) id, h2, h3, fun j hj => ?_, h5.trans (Fr.of_below (F := F) hb) (fun _ _ h => h)⟩
  rcases h4 j hj with h | h
  · exact Or.inl h
  · exact Or.inr ⟨h.1, Nat.lt_of_lt_of_le h.2 hb.size⟩

theorem Sy.step {w : World} {p : Nat} {s : St} {F : Nat → Prop} {aow : Option Addr} {capw : Nat} {ws : List (Cv × Ch)} (g3 : ws.map Prod.snd = s.wait) (hg : s.good) (hm : s.mass ≤ 1000000000) (hpF : F p) (k : Nat) (hk : k < ws.length) (wr1 : World) (h1 : Sy w wr1 p s F aow capw ws k) :
    Calls Tryd.prog 42 #[.pointer (some ⟨p, 1, none⟩), ws[k].1.val] wr1 fun e w' => e = .returned (.tuple #[]) ∧ Sy w w' p s F aow capw ws (k + 1) := by
  obtain ⟨ao, N, cap, vn, zl, zn, Fa, Fn, Fw, hC, c2, c3, c4, c5⟩ := h1
  have hget : s.wait[k]? = some ws[k].2 := by rw [← g3, List.getElem?_map, List.getElem?_eq_getElem hk]; rfl
  have hsrt : Srt (run s.last (s.wait.take k)) := run_srt _ _ hg.srt
  have hms : mass (run s.last (s.wait.take k)) + (ws[k].2).mass ≤ s.mass := by
    have e1 := run_mass (s.wait.take k) s.last hg.srt
    have e2 := wmass_take s.wait (k + 1)
    rw [take_succ_snoc _ _ _ hget] at e2
    have e3 : wmass (s.wait.take k ++ [ws[k].2]) = wmass (s.wait.take k) + (ws[k].2).mass := by simp [wmass]
    unfold St.mass
    omega
  have hcv := hC.wt.away (G := fun j => Fa j ∨ j = p) (fun j hj hG => by
    rcases hG with hG | hG
    · exact hC.d2 j hG hj
    · exact hC.p3 (hG ▸ hj)) ws[k] (List.getElem_mem hk)
  have hcs := hC.cells
  refine (do_any p 1 _ zl Fa _ ws[k].2 wr1 hcs.2.1 (hcs.2.2.2.2 1) hC.fl hC.p1 (by rw [c2]; exact hsrt) hcv (by rw [c2]; exact okw_take k _ _ hg.ok _ hget) (by rw [c2]; omega)).mono ?_
  rintro e w' ⟨rfl, v', zs', q1, q2, q3⟩
  refine ⟨rfl, ?_⟩
  obtain ⟨ao', N', cap', rfl⟩ := own_slice q1.row
  have hs := q3.size
  rw [setCell_size] at hs
  have hs5 := c5.size
  refine ⟨ao', N', cap', vn, zs', zn, _, Fn, Fw, hC.last q1 q3, ?_, c3, fun j hj => ?_, ?_⟩
  · rw [q2, c2, take_succ_snoc _ _ _ hget, run_snoc]
  · have old : ext F w wr1 j → ext F w w' j := fun h => by
      rcases h with h | h
      · exact Or.inl h
      · exact Or.inr ⟨h.1, by omega⟩
    rcases hj with hj | hj | hj | hj
    · rcases hj with hj | hj
      · exact old (c4 j (Or.inl hj))
      · exact Or.inr ⟨by omega, hj.2⟩
    · exact old (c4 j (Or.inr (Or.inl hj)))
    · exact old (c4 j (Or.inr (Or.inr (Or.inl hj))))
    · exact old (c4 j (Or.inr (Or.inr (Or.inr hj))))
  · refine (c5.trans (Fr.one wr1 p 1 _) (fun j _ e => e ▸ hpF)).trans q3 (fun j hj hFa => ?_)
    rcases c4 j (Or.inl hFa) with h | h
    · exact h
    · omega

set_option maxHeartbeats 2000000 in
set_option maxRecDepth 20000 in
theorem sync_any (p : Nat) (s : St) (F : Nat → Prop) (w : World) (h : Dk w p s F) (hm : s.mass ≤ 1000000000) :
    Calls Tryd.prog 23 #[.pointer (some ⟨p, 0, none⟩)] w fun e w' => e = .returned (.tuple #[]) ∧ Dk w' p ⟨s.room, s.now, []⟩ (ext F w w') ∧ Fr F w w' := by
  obtain ⟨hgood, hFlt, vl, vn, vw, zl, zn, ws, Fa, Fn, Fw, hC, g1, g2, g3, g4⟩ := h
  have c3 := hC.cells.2.2.2.1
  have hpF : F p := g4 p (Or.inr (Or.inr (Or.inr rfl)))
  have hwl : ws.length = s.wait.length := by rw [← g3, List.length_map]
  have hwb : ws.length ≤ 1000000000 := by unfold St.mass at hm; omega
  obtain ⟨aow, capw, hvw⟩ : ∃ ao cap, vw = .slice ao ws.length cap := by
    rcases own_shape hC.wt.row with ⟨rfl, e⟩ | ⟨g, cap, rfl, hc, _⟩
    · exact ⟨none, 0, by rw [e]⟩
    · exact ⟨_, _, rfl⟩
  subst hvw
  obtain ⟨aol, Nl, capl, rfl⟩ := own_slice hC.fl.row
  have HS0 : Hid (Sy w w p s F aow capw ws 0) := ⟨aol, Nl, capl, vn, zl, zn, Fa, Fn, Fw, hC, g1, g2, fun j hj => Or.inl (g4 j hj), Fr.refl _ _⟩
  have HSt : Hid (_) := fun (k : Nat) (hk : k < ws.length) (wr1 : World) => Sy.step (w := w) (aow := aow) (capw := capw) g3 hgood hm hpF k hk wr1
  have HEnd : Hid (∀ wr, Sy w wr p s F aow capw ws ws.length → Dk (wr.setCell ⟨p, 3, none⟩ (.slice none 0 0)) p ⟨s.room, s.now, []⟩ (ext F w (wr.setCell ⟨p, 3, none⟩ (.slice none 0 0))) ∧ Fr F w (wr.setCell ⟨p, 3, none⟩ (.slice none 0 0))) := by
    rintro wr ⟨ao, N, cap, vn', zl', zn', Fa', Fn', Fw', q1, q2, q3, q4, q5⟩
    have hone := Fr.one wr p 3 (.slice none 0 0)
    refine ⟨⟨⟨St.now_srt hgood, trivial, hgood.r0, hgood.r1⟩, ext_lt hFlt (by rw [setCell_size]; exact q5.size), .slice ao N cap, vn', .slice none 0 0, zl', zn', [], Fa', Fn', fun _ => False, ⟨by rw [heap_set q1.heap]; rfl, q1.fl.kept hone (fun k hk e => q1.p1 (e ▸ hk)), q1.fn.kept hone (fun k hk e => q1.p2 (e ▸ hk)), Wt.nil _ _ (fun _ h => h.elim), q1.d1, fun _ _ => id, fun _ _ => id, q1.p1, q1.p2, id⟩, ?_, q3, rfl, fun k hk => ?_⟩, q5.trans hone (fun k _ e => e ▸ hpF)⟩
    · rw [q2, List.take_of_length_le (by omega)]
      rfl
    · have he : ext F w (wr.setCell ⟨p, 3, none⟩ (.slice none 0 0)) k = ext F w wr k := by unfold ext; rw [setCell_size]
      rw [he]
      rcases hk with hk | hk | hk | hk
      · exact q4 k (Or.inl hk)
      · exact q4 k (Or.inr (Or.inl hk))
      · exact hk.elim
      · exact q4 k (Or.inr (Or.inr (Or.inr hk)))
  clear hC hgood hFlt g1 g2 g3 g4 hwl hm hpF
  go_enter Tryd.func23, Tryd.ntmps23
  go_wp2_with fail
  go_loopw [11] (fun vi wr => ∃ k : Nat, k ≤ ws.length ∧ vi = .int .i64 k ∧ Hid (Sy w wr p s F aow capw ws k)) (fun vi _ => ws.length - (intOf vi).toNat)
  case atStart => exact ⟨0, Nat.zero_le _, rfl, HS0.out⟩
  case round =>
    obtain ⟨k, hk, rfl, HK⟩ := hrel
    by_cases hlt : k < ws.length
    · have hlt' : (k : Int) < (ws.length : Int) := by omega
      obtain ⟨hW2, hpl⟩ : (∃ Fw', Wt wr (.slice aow ws.length capw) ws Fw') ∧ p < wr.heap.size := by
        obtain ⟨_, _, _, _, _, _, _, _, Fw', q1, _⟩ := HK.out
        exact ⟨⟨Fw', q1.wt⟩, q1.plt⟩
      obtain ⟨Fw', hW2⟩ := hW2
      obtain ⟨g, rfl⟩ : ∃ g, aow = some ⟨g, 0, none⟩ := by
        rcases own_shape hW2.row with ⟨_, e⟩ | ⟨g, cap', e, _⟩
        · omega
        · simp at e; exact ⟨g, e.1⟩
      obtain ⟨m0, m1, m2, m3, m4⟩ := hW2.cell k hlt
      obtain ⟨aod, Ld, capd, hd⟩ := Cv.slice (hW2.away (G := fun _ => False) (fun _ _ => id) ws[k] (List.getElem_mem hlt))
      have hst := HSt.out k hlt (wr.alloc (.cells #[.int .i64 ws[k].1.kd, .string ws[k].1.nm, .slice aod Ld capd, .int .i64 ws[k].1.sz, .string ws[k].1.t] 76)).drew (HK.out.below ((Below.refl _ _).alloc (Nat.le_refl _) _).drew)
      simp only [Cv.val] at hst
      rw [hd] at hst m2
      have hst2 := hst.mono (R' := fun e w' => e = .returned (.tuple #[]) ∧ Hid (Sy w w' p s F (some ⟨g, 0, none⟩) capw ws (k + 1))) (fun _ _ h => h)
      have HS2 : Hid (_) := hst2
      generalize ws[k].1.kd = kd at *
      generalize ws[k].1.nm = nm at *
      generalize ws[k].1.sz = sz at *
      generalize ws[k].1.t = tt at *
      clear hst hst2 hW2 hd HEnd
      go_wp2_with fail
      go_region_with (go_at_call 42; refine Calls.mono HS2.out ?_; rintro e w' ⟨rfl, hX⟩)
      all_goals go_wp2
      all_goals go_roundw
      case rel => exact ⟨k + 1, by omega, by go_num, hX⟩
      case measure => simp [intOf]; omega
    · have hkM : k = ws.length := by omega
      subst hkM
      have hlt' : ¬ (ws.length : Int) < (ws.length : Int) := by omega
      obtain ⟨cp, cf⟩ : (∃ u, wr.cell? ⟨p, 3, none⟩ = some u) ∧ wr.frozen? ⟨p, 3, none⟩ = false := by
        obtain ⟨_, _, _, _, _, _, _, _, Fw', q1, _⟩ := HK.out
        exact ⟨⟨_, q1.cells.2.2.2.1⟩, q1.cells.2.2.2.2 3⟩
      obtain ⟨u, cp⟩ := cp
      have HE2 : Hid (_) := HEnd.out wr HK.out
      clear HEnd HSt
      go_wp2
      go_end0
      exact ⟨rfl, HE2.out.1, HE2.out.2⟩
end Go.Proofs.YtnbdkojdddplkaaDoor.Dk

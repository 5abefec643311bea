/- The walk of a disk's Sync. The walk of a folder's clone. The walk of a disk's Crash. The walk of a disk's Crash. The walk of a disk's Crash at a number below 0. -/
import Derived.Test.YtjndgekpdmlbiaaGreatDoorPart06
import Derived.Test.YtjndgekpdmlbiaaGreatDoorPart07
namespace Go.Proofs.YtjndgekpdmlbiaaGreatDoor.Dk
open Go.RowKit

/-- A disk some of whose waiting changes last already. -/
def Sy (w wr : World) (p : Nat) (s : St) (F : Nat → Prop) (aow : Option Addr) (capw : Nat) (ws : List (Cv × Ch)) (k : Nat) : Prop :=
  ∃ ao N cap vn zl zn Fa Fn Fw, DkC wr p s.room (.slice ao N cap) vn (.slice aow ws.length capw) zl zn ws Fa Fn Fw ∧ zl.map Ent.fl = run s.last (s.wait.take k) ∧ zn.map Ent.fl = s.now ∧ (∀ j, (Fa j ∨ Fn j ∨ Fw j ∨ j = p) → ext F w wr j) ∧ Fr F w wr

theorem Sy.below {w wr w' : World} {p : Nat} {s : St} {F : Nat → Prop} {aow : Option Addr} {capw : Nat} {ws : List (Cv × Ch)} {k : Nat} (h : Sy w wr p s F aow capw ws k) (hb : Below wr.heap.size wr w') : Sy w w' p s F aow capw ws k := by
  obtain ⟨ao, N, cap, vn, zl, zn, Fa, Fn, Fw, h1, h2, h3, h4, h5⟩ := h
  refine ⟨ao, N, cap, vn, zl, zn, Fa, Fn, Fw, h1.kept (G := fun _ => False) (Fr.of_below hb) (fun _ _ => id) (fun _ _ => id) (fun _ _ => id) id, h2, h3, fun j hj => ?_, h5.trans (Fr.of_below (F := F) hb) (fun _ _ h => h)⟩
  rcases h4 j hj with h | h
  · exact Or.inl h
  · exact Or.inr ⟨h.1, Nat.lt_of_lt_of_le h.2 hb.size⟩

theorem Sy.step {w : World} {p : Nat} {s : St} {F : Nat → Prop} {aow : Option Addr} {capw : Nat} {ws : List (Cv × Ch)} (g3 : ws.map Prod.snd = s.wait) (hg : s.good) (hm : s.mass ≤ 1000000000) (hpF : F p) (k : Nat) (hk : k < ws.length) (wr1 : World) (h1 : Sy w wr1 p s F aow capw ws k) :
    Calls Tryz.prog 38 #[.pointer (some ⟨p, 1, none⟩), ws[k].1.val] wr1 fun e w' => e = .returned (.tuple #[]) ∧ Sy w w' p s F aow capw ws (k + 1) := by
  obtain ⟨ao, N, cap, vn, zl, zn, Fa, Fn, Fw, hC, c2, c3, c4, c5⟩ := h1
  have hget : s.wait[k]? = some ws[k].2 := by rw [← g3, List.getElem?_map, List.getElem?_eq_getElem hk]; rfl
  have hsrt : Srt (run s.last (s.wait.take k)) := run_srt _ _ hg.srt
  have hms : mass (run s.last (s.wait.take k)) + (ws[k].2).mass ≤ s.mass := by
    have e1 := run_mass (s.wait.take k) s.last hg.srt
    have e2 := wmass_take s.wait (k + 1)
    rw [take_succ_snoc _ _ _ hget] at e2
    have e3 : wmass (s.wait.take k ++ [ws[k].2]) = wmass (s.wait.take k) + (ws[k].2).mass := by simp [wmass]
    unfold St.mass
    omega
  have hcv := hC.wt.away (G := fun j => Fa j ∨ j = p) (fun j hj hG => by
    rcases hG with hG | hG
    · exact hC.d2 j hG hj
    · exact hC.p3 (hG ▸ hj)) ws[k] (List.getElem_mem hk)
  have hcs := hC.cells
  refine (do_any p 1 _ zl Fa _ ws[k].2 wr1 hcs.2.1 (hcs.2.2.2.2 1) hC.fl hC.p1 (by rw [c2]; exact hsrt) hcv (by rw [c2]; exact okw_take k _ _ hg.ok _ hget) (by rw [c2]; omega)).mono ?_
  rintro e w' ⟨rfl, v', zs', q1, q2, q3⟩
  refine ⟨rfl, ?_⟩
  obtain ⟨ao', N', cap', rfl⟩ := own_slice q1.row
  have hs := q3.size
  rw [setCell_size] at hs
  have hs5 := c5.size
  refine ⟨ao', N', cap', vn, zs', zn, _, Fn, Fw, hC.last q1 q3, ?_, c3, fun j hj => ?_, ?_⟩
  · rw [q2, c2, take_succ_snoc _ _ _ hget, run_snoc]
  · have old : ext F w wr1 j → ext F w w' j := fun h => by
      rcases h with h | h
      · exact Or.inl h
      · exact Or.inr ⟨h.1, by omega⟩
    rcases hj with hj | hj | hj | hj
    · rcases hj with hj | hj
      · exact old (c4 j (Or.inl hj))
      · exact Or.inr ⟨by omega, hj.2⟩
    · exact old (c4 j (Or.inr (Or.inl hj)))
    · exact old (c4 j (Or.inr (Or.inr (Or.inl hj))))
    · exact old (c4 j (Or.inr (Or.inr (Or.inr hj))))
  · refine (c5.trans (Fr.one wr1 p 1 _) (fun j _ e => e ▸ hpF)).trans q3 (fun j hj hFa => ?_)
    rcases c4 j (Or.inl hFa) with h | h
    · exact h
    · omega

set_option maxHeartbeats 2000000 in
set_option maxRecDepth 20000 in
theorem sync_any (p : Nat) (s : St) (F : Nat → Prop) (w : World) (h : Dk w p s F) (hm : s.mass ≤ 1000000000) :
    Calls Tryz.prog 96 #[.pointer (some ⟨p, 0, none⟩)] w fun e w' => e = .returned (.tuple #[]) ∧ Dk w' p ⟨s.room, s.now, []⟩ (ext F w w') ∧ Fr F w w' := by
  obtain ⟨hgood, hFlt, vl, vn, vw, zl, zn, ws, Fa, Fn, Fw, hC, g1, g2, g3, g4⟩ := h
  have c3 := hC.cells.2.2.2.1
  have hpF : F p := g4 p (Or.inr (Or.inr (Or.inr rfl)))
  have hwl : ws.length = s.wait.length := by rw [← g3, List.length_map]
  have hwb : ws.length ≤ 1000000000 := by unfold St.mass at hm; omega
  obtain ⟨aow, capw, hvw⟩ : ∃ ao cap, vw = .slice ao ws.length cap := by
    rcases own_shape hC.wt.row with ⟨rfl, e⟩ | ⟨g, cap, rfl, hc, _⟩
    · exact ⟨none, 0, by rw [e]⟩
    · exact ⟨_, _, rfl⟩
  subst hvw
  obtain ⟨aol, Nl, capl, rfl⟩ := own_slice hC.fl.row
  have HS0 : Hid (Sy w w p s F aow capw ws 0) := ⟨aol, Nl, capl, vn, zl, zn, Fa, Fn, Fw, hC, g1, g2, fun j hj => Or.inl (g4 j hj), Fr.refl _ _⟩
  have HSt : Hid (_) := fun (k : Nat) (hk : k < ws.length) (wr1 : World) => Sy.step (w := w) (aow := aow) (capw := capw) g3 hgood hm hpF k hk wr1
  have HEnd : Hid (∀ wr, Sy w wr p s F aow capw ws ws.length → Dk (wr.setCell ⟨p, 3, none⟩ (.slice none 0 0)) p ⟨s.room, s.now, []⟩ (ext F w (wr.setCell ⟨p, 3, none⟩ (.slice none 0 0))) ∧ Fr F w (wr.setCell ⟨p, 3, none⟩ (.slice none 0 0))) := by
    rintro wr ⟨ao, N, cap, vn', zl', zn', Fa', Fn', Fw', q1, q2, q3, q4, q5⟩
    have hone := Fr.one wr p 3 (.slice none 0 0)
    refine ⟨⟨⟨St.now_srt hgood, trivial, hgood.r0, hgood.r1⟩, ext_lt hFlt (by rw [setCell_size]; exact q5.size), .slice ao N cap, vn', .slice none 0 0, zl', zn', [], Fa', Fn', fun _ => False, ⟨by rw [heap_set q1.heap]; rfl, q1.fl.kept hone (fun k hk e => q1.p1 (e ▸ hk)), q1.fn.kept hone (fun k hk e => q1.p2 (e ▸ hk)), Wt.nil _ _ (fun _ h => h.elim), q1.d1, fun _ _ => id, fun _ _ => id, q1.p1, q1.p2, id⟩, ?_, q3, rfl, fun k hk => ?_⟩, q5.trans hone (fun k _ e => e ▸ hpF)⟩
    · rw [q2, List.take_of_length_le (by omega)]
      rfl
    · have he : ext F w (wr.setCell ⟨p, 3, none⟩ (.slice none 0 0)) k = ext F w wr k := by unfold ext; rw [setCell_size]
      rw [he]
      rcases hk with hk | hk | hk | hk
      · exact q4 k (Or.inl hk)
      · exact q4 k (Or.inr (Or.inl hk))
      · exact hk.elim
      · exact q4 k (Or.inr (Or.inr (Or.inr hk)))
  clear hC hgood hFlt g1 g2 g3 g4 hwl hm hpF
  go_enter Tryz.func96, Tryz.ntmps96
  go_wp2_with fail
  go_loopw [11] (fun vi wr => ∃ k : Nat, k ≤ ws.length ∧ vi = .int .i64 k ∧ Hid (Sy w wr p s F aow capw ws k)) (fun vi _ => ws.length - (intOf vi).toNat)
  case atStart => exact ⟨0, Nat.zero_le _, rfl, HS0.out⟩
  case round =>
    obtain ⟨k, hk, rfl, HK⟩ := hrel
    by_cases hlt : k < ws.length
    · have hlt' : (k : Int) < (ws.length : Int) := by omega
      obtain ⟨hW2, hpl⟩ : (∃ Fw', Wt wr (.slice aow ws.length capw) ws Fw') ∧ p < wr.heap.size := by
        obtain ⟨_, _, _, _, _, _, _, _, Fw', q1, _⟩ := HK.out
        exact ⟨⟨Fw', q1.wt⟩, q1.plt⟩
      obtain ⟨Fw', hW2⟩ := hW2
      obtain ⟨g, rfl⟩ : ∃ g, aow = some ⟨g, 0, none⟩ := by
        rcases own_shape hW2.row with ⟨_, e⟩ | ⟨g, cap', e, _⟩
        · omega
        · simp at e; exact ⟨g, e.1⟩
      obtain ⟨m0, m1, m2, m3, m4⟩ := hW2.cell k hlt
      obtain ⟨aod, Ld, capd, hd⟩ := Cv.slice (hW2.away (G := fun _ => False) (fun _ _ => id) ws[k] (List.getElem_mem hlt))
      have hst := HSt.out k hlt (wr.alloc (.cells #[.int .i64 ws[k].1.kd, .string ws[k].1.nm, .slice aod Ld capd, .int .i64 ws[k].1.sz, .string ws[k].1.t] 93)).drew (HK.out.below ((Below.refl _ _).alloc (Nat.le_refl _) _).drew)
      simp only [Cv.val] at hst
      rw [hd] at hst m2
      have hst2 := hst.mono (R' := fun e w' => e = .returned (.tuple #[]) ∧ Hid (Sy w w' p s F (some ⟨g, 0, none⟩) capw ws (k + 1))) (fun _ _ h => h)
      have HS2 : Hid (_) := hst2
      generalize ws[k].1.kd = kd at *
      generalize ws[k].1.nm = nm at *
      generalize ws[k].1.sz = sz at *
      generalize ws[k].1.t = tt at *
      clear hst hst2 hW2 hd HEnd
      go_wp2_with fail
      go_region_with (go_at_call 38; refine Calls.mono HS2.out ?_; rintro e w' ⟨rfl, hX⟩)
      all_goals go_wp2
      all_goals go_roundw
      case rel => exact ⟨k + 1, by omega, by go_num, hX⟩
      case measure => simp [intOf]; omega
    · have hkM : k = ws.length := by omega
      subst hkM
      have hlt' : ¬ (ws.length : Int) < (ws.length : Int) := by omega
      obtain ⟨cp, cf⟩ : (∃ u, wr.cell? ⟨p, 3, none⟩ = some u) ∧ wr.frozen? ⟨p, 3, none⟩ = false := by
        obtain ⟨_, _, _, _, _, _, _, _, Fw', q1, _⟩ := HK.out
        exact ⟨⟨_, q1.cells.2.2.2.1⟩, q1.cells.2.2.2.2 3⟩
      obtain ⟨u, cp⟩ := cp
      have HE2 : Hid (_) := HEnd.out wr HK.out
      clear HEnd HSt
      go_wp2
      go_end0
      exact ⟨rfl, HE2.out.1, HE2.out.2⟩
end Go.Proofs.YtjndgekpdmlbiaaGreatDoor.Dk
namespace Go.Proofs.YtjndgekpdmlbiaaGreatDoor.Dk
open Go.RowKit

def blank : Ent := ⟨⟨#[]⟩, .slice none 0 0, []⟩
theorem made_blank (n : Nat) : (madeCells (Value.agg #[.string ⟨#[]⟩, .slice none 0 0]).cells (n * 2)).toList = cellsF (List.replicate n blank) := by
  apply List.ext_getElem?
  intro j
  have hc : (Value.agg #[.string ⟨#[]⟩, .slice none 0 0]).cells = #[.string ⟨#[]⟩, .slice none 0 0] := rfl
  by_cases hj : j < n * 2
  · obtain ⟨i, hi⟩ : ∃ i, j = i * 2 ∨ j = i * 2 + 1 := ⟨j / 2, by omega⟩
    have hi2 : i < (List.replicate n blank).length := by simp; omega
    have hg := cellsF_get (List.replicate n blank) i hi2
    simp only [List.getElem_replicate] at hg
    rcases hi with rfl | rfl
    · rw [hg.1, hc]
      simp [madeCells, hj, blank]
    · rw [hg.2, hc]
      simp [madeCells, hj, blank]
  · have h1 : (madeCells (Value.agg #[.string ⟨#[]⟩, .slice none 0 0]).cells (n * 2)).toList[j]? = none := List.getElem?_eq_none (by simp [madeCells]; omega)
    have h2 : (cellsF (List.replicate n blank))[j]? = none := List.getElem?_eq_none (by rw [cellsF_len, List.length_replicate]; omega)
    rw [h1, h2]

set_option maxHeartbeats 2000000 in
set_option maxRecDepth 20000 in
theorem fclone_any (v : Value) (zs : List Ent) (F : Nat → Prop) (w : World) (h : Fol w v zs F) (hm : mass (zs.map Ent.fl) ≤ 1000000000) :
    Calls Tryz.prog 37 #[v] w fun e w' => ∃ v' zs', e = .returned v' ∧ Fol w' v' zs' (ext (fun _ => False) w w') ∧ zs'.map Ent.fl = zs.map Ent.fl ∧ Below w.heap.size w w' := by
  obtain ⟨I, hI, hz0, hz1, hz2⟩ := info_parts Tryz.info113
  have hum := used_mass (zs.map Ent.fl)
  rw [List.length_map] at hum
  have hzl : zs.length ≤ 1000000000 := by omega
  have hdl : ∀ z ∈ zs, z.bs.length ≤ 1000000000 := fun z hz => by
    obtain ⟨l, r, rfl⟩ := List.append_of_mem hz
    rw [List.map_append, mass_append, List.map_cons, mass_cons] at hm
    simp only [Ent.fl] at hm
    omega
  obtain ⟨w0, hmk, hO0, hg0⟩ := run_make_full (P := Tryz.prog) w 0 70 113 I _ 2 Tryz.underlying70 hI hz0 hz1 .i64 .i64 zs.length (by rw [hz2]; omega) (by unfold maxLen; omega) (Nat.zero_le _)
  rw [made_blank] at hO0
  have hb0 : Below w.heap.size w w0 := (Below.refl _ _).grown hg0 (Nat.le_refl _) (by simp)
  have hlt0 : w.heap.size < w0.heap.size := (hO0.lt _ rfl).2
  have hF0 : Fol w0 (.slice (some ⟨w.heap.size, 0, none⟩) zs.length zs.length) (List.replicate zs.length blank) (ext (fun _ => False) w w0) := by
    refine ⟨by rw [List.length_replicate]; exact hO0, fun z hz => ?_, ?_, fun k hk => ?_, fun z hz k hk => ?_, ext_lt (fun _ h => h.elim) hb0.size⟩
    · rw [List.eq_of_mem_replicate hz]; exact World.ownsRow_nil _ _ _ _
    · exact List.pairwise_replicate.2 (Or.inr (fun k hk => by simp [blank, Value.ownBlock] at hk))
    · simp [Value.ownBlock] at hk; subst hk; exact Or.inr ⟨Nat.le_refl _, hlt0⟩
    · rw [List.eq_of_mem_replicate hz] at hk; simp [blank, Value.ownBlock] at hk
  have HF : Hid (_) := h
  have HF0 : Hid (_) := hF0
  have HD : Hid (_) := hdl
  have HB0 : Hid (_) := hb0
  obtain ⟨ao, N, cap, rfl⟩ := own_slice h.row
  have hN : N = zs.length := by
    rcases h.shape with ⟨e, e2⟩ | ⟨_, _, e, _⟩ <;> (simp only [Value.slice.injEq] at e; omega)
  subst hN
  clear h hF0 hO0 hg0 hb0 hdl hm hum hI hz0 hz1 hz2
  go_enter Tryz.func37, Tryz.ntmps37
  go_wp2
  go_loopw [11] (fun vi wr => ∃ (k : Nat) (zd : List Ent), k ≤ zs.length ∧ vi = .int .i64 k ∧ Hid (zd.length = k ∧ zd.map Ent.fl = (zs.take k).map Ent.fl ∧ Fol wr (.slice (some ⟨w.heap.size, 0, none⟩) zs.length zs.length) (zd ++ List.replicate (zs.length - k) blank) (ext (fun _ => False) w wr)) ∧ Hid (Below w.heap.size w wr ∧ w.heap.size < wr.heap.size)) (fun vi _ => zs.length - (intOf vi).toNat)
  case atStart => exact ⟨0, [], Nat.zero_le _, rfl, ⟨rfl, by simp, by simpa using HF0.out⟩, HB0.out, hlt0⟩
  case round =>
    obtain ⟨k, zd, hk, rfl, HK, HB⟩ := hrel
    by_cases hlt : k < zs.length
    · have hlt' : (k : Int) < (zs.length : Int) := by omega
      obtain ⟨g, rfl⟩ : ∃ g, ao = some ⟨g, 0, none⟩ := by
        rcases HF.out.shape with ⟨_, e⟩ | ⟨g, cap', e, _⟩
        · omega
        · simp at e; exact ⟨g, e.1⟩
      have hFr := HF.out.below HB.out.1
      obtain ⟨c0, c1⟩ := hFr.cell k hlt
      have hdat := hFr.data zs[k] (List.getElem_mem hlt)
      obtain ⟨aod, Ld, capd, hd⟩ := own_slice hdat
      rw [hd] at c1
      have hw1 : Below wr.heap.size wr (wr.alloc (.cells #[.string zs[k].name, .slice aod Ld capd] 113)).drew := ((Below.refl _ _).alloc (Nat.le_refl _) _).drew
      have hsl : Sl (wr.alloc (.cells #[.string zs[k].name, .slice aod Ld capd] 113)).drew (.slice aod Ld capd) zs[k].bs := by have h := (Sl.of_own hdat).below hw1; rw [hd] at h; exact h
      have hrep : List.replicate (zs.length - k) blank = blank :: List.replicate (zs.length - (k + 1)) blank := by
        rw [show zs.length - k = (zs.length - (k + 1)) + 1 by omega, List.replicate_succ]
      have HC : Hid (Calls Tryz.prog 58 #[.slice aod Ld capd] (wr.alloc (.cells #[.string zs[k].name, .slice aod Ld capd] 113)).drew fun e w2 => ∃ ao2 L2 cap2, e = .returned (.slice ao2 L2 cap2) ∧ w2.cell? ⟨wr.heap.size, 0, none⟩ = some (.string zs[k].name) ∧ w2.cell? ⟨wr.heap.size, 1, none⟩ = some (.slice aod Ld capd) ∧ (∃ u, w2.cell? ⟨w.heap.size, k * 2, none⟩ = some u) ∧ (∃ u, w2.cell? ⟨w.heap.size, k * 2 + 1, none⟩ = some u) ∧ w2.frozen? ⟨w.heap.size, k * 2, none⟩ = false ∧ w2.frozen? ⟨w.heap.size, k * 2 + 1, none⟩ = false ∧
          Hid (Fol ((w2.setCell ⟨w.heap.size, k * 2, none⟩ (.string zs[k].name)).setCell ⟨w.heap.size, k * 2 + 1, none⟩ (.slice ao2 L2 cap2)) (.slice (some ⟨w.heap.size, 0, none⟩) zs.length zs.length) ((zd ++ [⟨zs[k].name, .slice ao2 L2 cap2, zs[k].bs⟩]) ++ List.replicate (zs.length - (k + 1)) blank) (ext (fun _ => False) w ((w2.setCell ⟨w.heap.size, k * 2, none⟩ (.string zs[k].name)).setCell ⟨w.heap.size, k * 2 + 1, none⟩ (.slice ao2 L2 cap2))) ∧
            Below w.heap.size w ((w2.setCell ⟨w.heap.size, k * 2, none⟩ (.string zs[k].name)).setCell ⟨w.heap.size, k * 2 + 1, none⟩ (.slice ao2 L2 cap2)) ∧ w.heap.size < w2.heap.size)) := by
        refine (clone_any _ zs[k].bs _ hsl (by have := HD.out zs[k] (List.getElem_mem hlt); omega)).mono ?_
        rintro e w2 ⟨d', rfl, hO, hb⟩
        obtain ⟨ao2, L2, cap2, rfl⟩ := own_slice hO
        have hb2 : Below wr.heap.size wr w2 := hw1.trans (hb.mono (by have := hw1.size; omega))
        obtain ⟨k1, k2, k3⟩ := HK.out
        rw [hrep] at k3
        have hF2 : Fol w2 (.slice (some ⟨w.heap.size, 0, none⟩) zs.length zs.length) (zd ++ blank :: List.replicate (zs.length - (k + 1)) blank) (ext (fun _ => False) w w2) :=
          (k3.below hb2).mono (fun q hq => by rcases hq with hq | hq; exact Or.inl hq; exact Or.inr ⟨hq.1, by have := hb2.size; omega⟩) (ext_lt (fun _ h => h.elim) (by have := hb2.size; have := HB.out.2; omega))
        have hset := hF2.set zs[k].name (.slice ao2 L2 cap2) zs[k].bs (own_zero hO) (fun q hq => Or.inr ⟨by have := (hO.lt q hq).1; have := HB.out.2; have := hw1.size; omega, (hO.lt q hq).2⟩) (fun x hx q hq hq' => by
          have h1 := (hO.lt q hq').1
          have h2 := k3.lt q (k3.dataIn x (by rcases hx with hx | hx <;> simp [hx]) q hq)
          have h3 := hw1.size
          omega)
        rw [k1] at hset
        have hm0 : (wr.alloc (.cells #[.string zs[k].name, .slice aod Ld capd] 113)).drew.heap[wr.heap.size]? = some (.cells #[.string zs[k].name, .slice aod Ld capd] 113 (0, 0)) := heap_alloc_new wr _
        have hlk : wr.heap.size < (wr.alloc (.cells #[.string zs[k].name, .slice aod Ld capd] 113)).drew.heap.size := by show wr.heap.size < (wr.alloc _).heap.size; simp
        have hm2 : w2.heap[wr.heap.size]? = some (.cells #[.string zs[k].name, .slice aod Ld capd] 113 (0, 0)) := (hb.block _ hlk).trans hm0
        have hcell := hF2.cell k (by simp; omega)
        refine ⟨ao2, L2, cap2, rfl, by rw [cell_of_row w2 _ 0 _ _ _ hm2]; rfl, by rw [cell_of_row w2 _ 1 _ _ _ hm2]; rfl, ⟨_, hcell.1⟩, ⟨_, hcell.2⟩, hF2.frozen _, hF2.frozen _, ?_, ?_, by have := hb2.size; have := HB.out.2; omega⟩
        · have e : (zd ++ [(⟨zs[k].name, .slice ao2 L2 cap2, zs[k].bs⟩ : Ent)]) ++ List.replicate (zs.length - (k + 1)) blank = zd ++ ⟨zs[k].name, .slice ao2 L2 cap2, zs[k].bs⟩ :: List.replicate (zs.length - (k + 1)) blank := by simp
          rw [e]
          refine hset.mono (fun q hq => ?_) (ext_lt (fun _ h => h.elim) ?_)
          · rcases hq with hq | hq
            · exact Or.inl hq
            · exact Or.inr ⟨hq.1, by rw [setCell_size, setCell_size]; exact hq.2⟩
          · rw [setCell_size, setCell_size]; have := hb2.size; have := HB.out.2; omega
        · exact ((HB.out.1.trans (hb2.mono (by have := HB.out.2; omega))).setCell (Nat.le_refl _) _).setCell (Nat.le_refl _) _
      have hne : wr.heap.size ≠ w.heap.size := by have := HB.out.2; omega
      have hne2 : w.heap.size ≠ wr.heap.size := fun e => hne e.symm
      have HL : Hid (zd.length = k ∧ zd.map Ent.fl = (zs.take k).map Ent.fl) := ⟨HK.out.1, HK.out.2.1⟩
      clear hFr hdat hd hw1 hsl hrep HK HD
      obtain ⟨nm, HN⟩ : ∃ nm, Hid (nm = zs[k].name) := ⟨zs[k].name, (rfl : _ = _)⟩
      rw [← HN.out] at c0 HC
      go_wp2_with fail
      go_region_held (fun w' => w'.cell? ⟨wr.heap.size, 0, none⟩ = some (.string nm) ∧ w'.cell? ⟨wr.heap.size, 1, none⟩ = some (.slice aod Ld capd))
        (first | exact ⟨by simp, by simp⟩ | exact ⟨f0, f1⟩ | go_keep)
        (first | (go_at_call 58; refine Calls.mono HC.out ?_; rintro e w2 ⟨ao2, L2, cap2, rfl, f0, f1, ⟨u0, e0⟩, ⟨u1, e1⟩, z0, z1, HX⟩))
      have HF' : Hid ((zd ++ [(⟨nm, .slice ao2 L2 cap2, zs[k].bs⟩ : Ent)]).length = k + 1 ∧ (zd ++ [(⟨nm, .slice ao2 L2 cap2, zs[k].bs⟩ : Ent)]).map Ent.fl = (zs.take (k + 1)).map Ent.fl) := by
        refine ⟨by simp [HL.out.1], ?_⟩
        rw [take_succ_snoc zs k zs[k] (List.getElem?_eq_getElem hlt), List.map_append, List.map_append, HL.out.2, HN.out]
        rfl
      clear f0 f1 e0 e1 z0 z1 c0 c1 HC
      go_wp2
      go_roundw
      case rel => exact ⟨k + 1, _, by omega, by go_num, ⟨HF'.out.1, HF'.out.2, HX.out.1⟩, HX.out.2.1, by rw [setCell_size, setCell_size]; exact HX.out.2.2⟩
      case measure => simp [intOf]; omega
    · have e : k = zs.length := by omega
      subst e
      go_wp2
      go_ret
      obtain ⟨h1, h2, h3⟩ := HK.out
      refine ⟨_, zd, rfl, by simpa using h3, by rw [h2, List.take_length], HB.out.1⟩
end Go.Proofs.YtjndgekpdmlbiaaGreatDoor.Dk
namespace Go.Proofs.YtjndgekpdmlbiaaGreatDoor.Dk
open Go.RowKit

/-- What a crash leaves. -/
def leftOf (s : St) (n t : Int) : List Fl :=
  if 0 ≤ n then (match s.wait[n.toNat]? with
    | some c => torn (run s.last (s.wait.take n.toNat)) c t
    | none => run s.last (s.wait.take n.toNat))
  else s.last

/-- The files that are left, so far: behind a variable of the call's own. -/
def Lf (w wr : World) (L : Nat) (fs : List Fl) : Prop :=
  ∃ ao N cap zk Fk, wr.cell? ⟨L, 0, none⟩ = some (.slice ao N cap) ∧ wr.frozen? ⟨L, 0, none⟩ = false ∧ Fol wr (.slice ao N cap) zk Fk ∧ zk.map Ent.fl = fs ∧ ¬ Fk L ∧ (∀ j, Fk j → w.heap.size ≤ j) ∧ Below w.heap.size w wr ∧ w.heap.size ≤ L ∧ L < wr.heap.size

theorem Lf.below {w wr w' : World} {L : Nat} {fs : List Fl} (h : Lf w wr L fs) (hb : Below wr.heap.size wr w') : Lf w w' L fs := by
  obtain ⟨ao, N, cap, zk, Fk, h1, h2, h3, h4, h5, h6, h7, h8, h9⟩ := h
  exact ⟨ao, N, cap, zk, Fk, below_cell hb h1, (below_frozen hb h1).trans h2, h3.below hb, h4, h5, h6, h7.trans (hb.mono h7.size), h8, Nat.lt_of_lt_of_le h9 hb.size⟩
/-- One change of them. -/
theorem Lf.chg {w wr w' : World} {L : Nat} {fs : List Fl} {ao : Option Addr} {N cap : Nat} {Fk : Nat → Prop} (hc : wr.cell? ⟨L, 0, none⟩ = some (.slice ao N cap)) (hf : wr.frozen? ⟨L, 0, none⟩ = false) (hL : ¬ Fk L) (h6 : ∀ j, Fk j → w.heap.size ≤ j) (h7 : Below w.heap.size w wr) (h8 : w.heap.size ≤ L) (h9 : L < wr.heap.size) (h : Chg wr w' L 0 Fk fs) : Lf w w' L fs := by
  obtain ⟨v', zs', g1, g2, g3⟩ := h
  obtain ⟨ao', N', cap', rfl⟩ := own_slice g1.row
  have hat := g3.at hc hL
  have hs := g3.size
  rw [setCell_size] at hs
  refine ⟨ao', N', cap', zs', _, hat.1, hat.2.trans hf, g1, g2, fun hk => ?_, fun j hj => ?_, ?_, h8, by omega⟩
  · rcases hk with hk | hk
    · exact hL hk
    · omega
  · rcases hj with hj | hj
    · exact h6 j hj
    · have := h7.size; omega
  · have h10 : Below w.heap.size wr (wr.setCell ⟨L, 0, none⟩ (.slice ao' N' cap')) := (Below.refl _ _).setCell h8 _
    exact (h7.trans h10).trans (g3.below h6 (by rw [setCell_size]; exact h7.size))

theorem slice_front61 (ao : Option Addr) (L cap k : Nat) (hk : k ≤ L) (hc : L ≤ cap) (w' : World) : (Instr.slice 71 (.slice ao L cap) none (some (.int .i64 (k : Int))) none).run Tryz.prog w' = .ok (.slice ao k cap) w' ∧ (Instr.sliceAt 71 (.slice ao L cap) none (some (.int .i64 (k : Int))) none).run Tryz.prog w' = .ok (.slice ao k cap) w' := by
  have elem61 : Tryz.prog.underlying 71 = some (.slice (Tryz.prog.elem 71)) := by kernel_rfl
  have size61 : ∀ w : World, (sizeOf (Tryz.prog.elem 71)).run Tryz.prog w = .ok 5 w := fun w => by kernel_rfl
  have e : (Instr.slice 71 (.slice ao L cap) none (some (.int .i64 (k : Int))) none).run Tryz.prog w' = .ok (.slice ao k cap) w' := by
    rw [run_slice_h w' 71 ao L cap elem61 .i64 k (by omega) (by omega), size61]
    simp [Result.andThen, sliced]
    cases ao <;> simp [Addr.add]
  exact ⟨e, by rw [run_sliceAt_slice (P := Tryz.prog) w' 71 _ _ _ _ elem61]; exact e⟩

/-- A disk of what is left. -/
theorem Lf.boxed {w w4 w5 : World} {fs : List Fl} {room : Int} {ao : Option Addr} {N cap : Nat} {zk : List Ent} {Fk : Nat → Prop} (h3 : Fol w4 (.slice ao N cap) zk Fk) (h4 : zk.map Ent.fl = fs) (h6 : ∀ j, Fk j → w.heap.size ≤ j) (h7 : Below w.heap.size w w4) (hs : Srt fs) (hr : 0 ≤ room ∧ room ≤ 4194304)
    {v' : Value} {zs' : List Ent} (g1 : Fol w5 v' zs' (ext (fun _ => False) w4 w5)) (g2 : zs'.map Ent.fl = fs) (g3 : Below w4.heap.size w4 w5) :
    Dk (w5.alloc (.cells #[.int .i64 room, .slice ao N cap, v', .slice none 0 0] 73)) w5.heap.size ⟨room, fs, []⟩ (ext (fun _ => False) w (w5.alloc (.cells #[.int .i64 room, .slice ao N cap, v', .slice none 0 0] 73))) ∧ Below w.heap.size w (w5.alloc (.cells #[.int .i64 room, .slice ao N cap, v', .slice none 0 0] 73)) := by
  have hb5 : Below w5.heap.size w5 (w5.alloc (.cells #[.int .i64 room, .slice ao N cap, v', .slice none 0 0] 73)) := (Below.refl _ _).alloc (Nat.le_refl _) _
  have hb : Below w.heap.size w (w5.alloc (.cells #[.int .i64 room, .slice ao N cap, v', .slice none 0 0] 73)) := (h7.trans (g3.mono h7.size)).trans (hb5.mono (Nat.le_trans h7.size g3.size))
  have hsz : (w5.alloc (.cells #[.int .i64 room, .slice ao N cap, v', .slice none 0 0] 73)).heap.size = w5.heap.size + 1 := by simp
  have e7 := h7.size
  have e3 := g3.size
  refine ⟨⟨⟨hs, trivial, hr.1, hr.2⟩, ext_lt (fun _ h => h.elim) hb.size, .slice ao N cap, v', .slice none 0 0, zk, zs', [], Fk, ext (fun _ => False) w4 w5, fun _ => False, ⟨heap_alloc_new _ _, (h3.below g3).below hb5, g1.below hb5, Wt.nil _ _ (fun _ h => h.elim), fun k hk hE => ?_, fun _ _ => id, fun _ _ => id, fun hk => ?_, fun hk => ?_, id⟩, h4, g2, rfl, fun k hk => ?_⟩, hb⟩
  · rcases hE with hE | hE
    · exact hE.elim
    · have := h3.lt k hk; omega
  · have := h3.lt _ hk; omega
  · rcases hk with hk | hk
    · exact hk.elim
    · omega
  · rcases hk with hk | hk | hk | hk
    · exact Or.inr ⟨h6 k hk, by have := h3.lt k hk; omega⟩
    · rcases hk with hk | hk
      · exact hk.elim
      · exact Or.inr ⟨by omega, by omega⟩
    · exact hk.elim
    · exact Or.inr ⟨by omega, by omega⟩

/-- The next change, done to what is left. -/
theorem Lf.step {w : World} {s : St} {vw : Value} {ws : List (Cv × Ch)} {Fw : Nat → Prop} (hwt : Wt w vw ws Fw) (g3 : ws.map Prod.snd = s.wait) (hg : s.good) (hm : s.mass ≤ 1000000000) (L k : Nat) (hk : k < ws.length) (wr wr1 : World) (h : Lf w wr L (run s.last (s.wait.take k))) (hb : Below wr.heap.size wr wr1) :
    Calls Tryz.prog 38 #[.pointer (some ⟨L, 0, none⟩), ws[k].1.val] wr1 fun e w' => e = .returned (.tuple #[]) ∧ Lf w w' L (run s.last (s.wait.take (k + 1))) := by
  have h1 := h.below hb
  obtain ⟨ao, N, cap, zk, Fk, c1, c2, c3, c4, c5, c6, c7, c8, c9⟩ := h1
  have hget : s.wait[k]? = some ws[k].2 := by rw [← g3, List.getElem?_map, List.getElem?_eq_getElem hk]; rfl
  have hsrt : Srt (run s.last (s.wait.take k)) := run_srt _ _ hg.srt
  have hms : mass (run s.last (s.wait.take k)) + (ws[k].2).mass ≤ s.mass := by
    have e1 := run_mass (s.wait.take k) s.last hg.srt
    have e2 := wmass_take s.wait (k + 1)
    rw [take_succ_snoc _ _ _ hget] at e2
    have e3 : wmass (s.wait.take k ++ [ws[k].2]) = wmass (s.wait.take k) + (ws[k].2).mass := by simp [wmass]
    unfold St.mass
    omega
  have hcv := ((hwt.kept (G := fun _ => False) (Fr.of_below c7) (fun _ _ => id)).away (G := fun j => Fk j ∨ j = L) (fun j hj hG => by
    have := hwt.lt j hj
    rcases hG with hG | hG
    · have := c6 j hG; omega
    · omega) ws[k] (List.getElem_mem hk))
  refine (do_any L 0 _ zk Fk _ ws[k].2 wr1 c1 c2 c3 c5 (by rw [c4]; exact hsrt) hcv (by rw [c4]; exact okw_take k _ _ hg.ok _ hget) (by rw [c4]; omega)).mono ?_
  rintro e w' ⟨rfl, hX⟩
  refine ⟨rfl, ?_⟩
  rw [take_succ_snoc _ _ _ hget, run_snoc, ← c4]
  exact Lf.chg c1 c2 c5 c6 c7 c8 c9 hX
/-- The next change, torn. -/
theorem Lf.torn {w : World} {s : St} {vw : Value} {ws : List (Cv × Ch)} {Fw : Nat → Prop} (hwt : Wt w vw ws Fw) (g3 : ws.map Prod.snd = s.wait) (hg : s.good) (hm : s.mass ≤ 1000000000) (L k : Nat) (t : Int) (hk : k < ws.length) (wr1 : World) (h : Lf w wr1 L (run s.last (s.wait.take k))) :
    Calls Tryz.prog 39 #[.pointer (some ⟨L, 0, none⟩), ws[k].1.val, .int .i64 t] wr1 fun e w' => e = .returned (.tuple #[]) ∧ Lf w w' L (torn (run s.last (s.wait.take k)) ws[k].2 t) := by
  obtain ⟨ao, N, cap, zk, Fk, c1, c2, c3, c4, c5, c6, c7, c8, c9⟩ := h
  have hget : s.wait[k]? = some ws[k].2 := by rw [← g3, List.getElem?_map, List.getElem?_eq_getElem hk]; rfl
  have hsrt : Srt (run s.last (s.wait.take k)) := run_srt _ _ hg.srt
  have hms : mass (run s.last (s.wait.take k)) + (ws[k].2).mass ≤ s.mass := by
    have e1 := run_mass (s.wait.take k) s.last hg.srt
    have e2 := wmass_take s.wait (k + 1)
    rw [take_succ_snoc _ _ _ hget] at e2
    have e3 : wmass (s.wait.take k ++ [ws[k].2]) = wmass (s.wait.take k) + (ws[k].2).mass := by simp [wmass]
    unfold St.mass
    omega
  have hcv := ((hwt.kept (G := fun _ => False) (Fr.of_below c7) (fun _ _ => id)).away (G := fun j => Fk j ∨ j = L) (fun j hj hG => by
    have := hwt.lt j hj
    rcases hG with hG | hG
    · have := c6 j hG; omega
    · omega) ws[k] (List.getElem_mem hk))
  refine (tear_any L 0 _ zk Fk _ ws[k].2 t wr1 c1 c2 c3 c5 (by rw [c4]; exact hsrt) hcv (by rw [c4]; omega)).mono ?_
  rintro e w' ⟨rfl, hX⟩
  refine ⟨rfl, ?_⟩
  rw [← c4]
  exact Lf.chg c1 c2 c5 c6 c7 c8 c9 hX
end Go.Proofs.YtjndgekpdmlbiaaGreatDoor.Dk
namespace Go.Proofs.YtjndgekpdmlbiaaGreatDoor.Dk
open Go.RowKit

set_option maxHeartbeats 2000000 in
set_option maxRecDepth 20000 in
theorem crash_nat (p : Nat) (s : St) (F : Nat → Prop) (n : Nat) (t : Int) (w : World) (h : Dk w p s F) (hm : s.mass ≤ 1000000000) :
    Calls Tryz.prog 16 #[.pointer (some ⟨p, 0, none⟩), .int .i64 (n : Int), .int .i64 t] w fun e w' => ∃ q, e = .returned (.pointer (some ⟨q, 0, none⟩)) ∧ w.heap.size ≤ q ∧ Dk w' q ⟨s.room, leftOf s n t, []⟩ (ext (fun _ => False) w w') ∧ Below w.heap.size w w' := by
  obtain ⟨hgood, hFlt, vl, vn, vw, zl, zn, ws, Fa, Fn, Fw, hC, g1, g2, g3, g4⟩ := h
  have hcs := hC.cells
  have c0 := hcs.1
  have c1 := hcs.2.1
  have c3 := hcs.2.2.2.1
  have hWT := hC.wt
  have hwl : ws.length = s.wait.length := by rw [← g3, List.length_map]
  have hwb : ws.length ≤ 1000000000 := by unfold St.mass at hm; omega
  obtain ⟨aow, capw, hvw, hcw⟩ : ∃ ao cap, vw = .slice ao ws.length cap ∧ ws.length ≤ cap := by
    rcases own_shape hC.wt.row with ⟨rfl, e⟩ | ⟨g, cap, rfl, hc, _⟩
    · exact ⟨none, 0, by rw [e], by omega⟩
    · exact ⟨_, _, rfl, hc⟩
  subst hvw
  obtain ⟨aol, Nl, capl, rfl⟩ := own_slice hC.fl.row
  have hml : s.mass ≤ 1000000000 → mass (zl.map Ent.fl) ≤ 1000000000 := fun h => by rw [g1]; unfold St.mass at h; omega
  obtain ⟨M, hM0, HM⟩ : ∃ M : Nat, M ≤ ws.length ∧ Hid (M = min n ws.length) := ⟨min n ws.length, by omega, rfl⟩
  have hx1 : ¬ ((n : Int) < 0) := by omega
  have hy1 : (if (ws.length : Int) < (n : Int) then (ws.length : Int) else (n : Int)) = (M : Int) := by have := HM.out; split <;> omega
  have hy2 : (if ws.length < n then (ws.length : Int) else (n : Int)) = (M : Int) := by have := HM.out; split <;> omega
  have hmx : ∀ w' : World, (Builtin.max_ #[3, 3] 3 #[.int .i64 (n : Int), .int .i64 0]).run Tryz.prog w' = .ok (.int .i64 (n : Int)) w' := fun w' => by
    rw [run_max_int2, if_neg (by omega)]
  have hmn : ∀ w' : World, (Builtin.min_ #[3, 3] 3 #[.int .i64 (n : Int), .int .i64 (ws.length : Int)]).run Tryz.prog w' = .ok (.int .i64 (M : Int)) w' := fun w' => by
    rw [run_min_int2, hy1]
  have hsl := fun w' => slice_front61 aow ws.length capw M hM0 hcw w'
  have HCl : Hid (Calls Tryz.prog 37 #[.slice aol Nl capl] w fun e w1 => ∃ ao1 N1 cap1, e = .returned (.slice ao1 N1 cap1) ∧ w1.cell? ⟨p, 3, none⟩ = some (.slice aow ws.length capw) ∧ Hid (Lf w (w1.alloc (.cells #[.slice ao1 N1 cap1] 70)) w1.heap.size (run s.last (s.wait.take 0))) ∧ Hid (Below w.heap.size w w1)) := by
    refine (fclone_any _ zl Fa w hC.fl (hml hm)).mono ?_
    rintro e w1 ⟨v', zs', rfl, k1, k2, k3⟩
    obtain ⟨ao1, N1, cap1, rfl⟩ := own_slice k1.row
    have hb : Below w1.heap.size w1 (w1.alloc (.cells #[.slice ao1 N1 cap1] 70)) := (Below.refl _ _).alloc (Nat.le_refl _) _
    refine ⟨ao1, N1, cap1, rfl, below_cell k3 c3, ⟨ao1, N1, cap1, zs', _, ?_, ?_, k1.below hb, by rw [k2, g1]; rfl, fun hk => ?_, fun j hj => ?_, k3.trans (hb.mono k3.size), k3.size, by simp⟩, k3⟩
    · rw [cell_of_row _ _ 0 _ _ _ (heap_alloc_new _ _)]; rfl
    · exact frozen_of_heap (heap_alloc_new _ _) 0
    · rcases hk with hk | hk
      · exact hk.elim
      · omega
    · rcases hj with hj | hj
      · exact hj.elim
      · exact hj.1
  have HSt : Hid (_) := fun (L k : Nat) (hk : k < ws.length) (wr wr1 : World) => Lf.step hWT g3 hgood hm L k hk wr wr1
  have HTo : Hid (_) := fun (L k : Nat) (hk : k < ws.length) (wr1 : World) => Lf.torn hWT g3 hgood hm L k t hk wr1
  have HWT : Hid (_) := hWT
  have HG : Hid (s.good) := hgood
  have HMs : Hid (s.mass ≤ 1000000000) := hm
  have HG3 : Hid (ws.map Prod.snd = s.wait) := g3
  clear hC hcs hFlt g1 g2 g3 g4 hwl hml hWT hgood hm hcw
  go_enter Tryz.func16, Tryz.ntmps16
  go_wp2_with (go_at_call 37; refine Calls.mono HCl.out ?_; rintro e w1 ⟨ao1, N1, cap1, rfl, c31, HL1, HB1⟩)
  have c31a : (w1.alloc (.cells #[.slice ao1 N1 cap1] 70)).cell? ⟨p, 3, none⟩ = some (.slice aow ws.length capw) := below_cell ((Below.refl _ _).alloc (Nat.le_refl _) _) c31
  go_region_held (fun w' => w'.cell? ⟨p, 3, none⟩ = some (.slice aow ws.length capw) ∧ (Instr.slice 71 (.slice aow ws.length capw) none (some (.int .i64 (M : Int))) none).run Tryz.prog w' = .ok (.slice aow M capw) w' ∧ (Instr.sliceAt 71 (.slice aow ws.length capw) none (some (.int .i64 (M : Int))) none).run Tryz.prog w' = .ok (.slice aow M capw) w' ∧ (Builtin.max_ #[3, 3] 3 #[.int .i64 (n : Int), .int .i64 0]).run Tryz.prog w' = .ok (.int .i64 (n : Int)) w' ∧ (Builtin.min_ #[3, 3] 3 #[.int .i64 (n : Int), .int .i64 (ws.length : Int)]).run Tryz.prog w' = .ok (.int .i64 (M : Int)) w')
    (first | exact ⟨c31a, (hsl _).1, (hsl _).2, hmx _, hmn _⟩)
    (fail)
  have HEnd : Hid (∀ (w4 : World) (fs : List Fl), Srt fs → mass fs ≤ 1000000000 → Lf w w4 w1.heap.size fs → ∃ ao N cap, w4.cell? ⟨p, 0, none⟩ = some (.int .i64 s.room) ∧ w4.cell? ⟨w1.heap.size, 0, none⟩ = some (.slice ao N cap) ∧
      Hid (Calls Tryz.prog 37 #[.slice ao N cap] w4.drew fun e w5 => ∃ ao5 N5 cap5, e = .returned (.slice ao5 N5 cap5) ∧ w5.cell? ⟨p, 0, none⟩ = some (.int .i64 s.room) ∧ w5.cell? ⟨w1.heap.size, 0, none⟩ = some (.slice ao N cap) ∧ Hid (w.heap.size ≤ w5.heap.size ∧ Dk (w5.alloc (.cells #[.int .i64 s.room, .slice ao N cap, .slice ao5 N5 cap5, .slice none 0 0] 73)) w5.heap.size ⟨s.room, fs, []⟩ (ext (fun _ => False) w (w5.alloc (.cells #[.int .i64 s.room, .slice ao N cap, .slice ao5 N5 cap5, .slice none 0 0] 73))) ∧ Below w.heap.size w (w5.alloc (.cells #[.int .i64 s.room, .slice ao N cap, .slice ao5 N5 cap5, .slice none 0 0] 73))))) := by
    intro w4 fs hs hms hL
    have hLd : Lf w w4.drew w1.heap.size fs := hL.below (Below.refl _ _).drew
    obtain ⟨ao, N, cap, zk, Fk, q1, q2, q3, q4, q5, q6, q7, q8, q9⟩ := hLd
    have c04 := below_cell q7 c0
    refine ⟨ao, N, cap, c04, q1, ?_⟩
    refine (fclone_any _ zk Fk w4.drew q3 (by rw [q4]; exact hms)).mono ?_
    rintro e w5 ⟨v', zs', rfl, k1, k2, k3⟩
    obtain ⟨ao5, N5, cap5, rfl⟩ := own_slice k1.row
    have hbx := Lf.boxed (room := s.room) q3 q4 q6 q7 hs ⟨HG.out.r0, HG.out.r1⟩ k1 (by rw [k2, q4]) k3
    exact ⟨ao5, N5, cap5, rfl, below_cell k3 c04, below_cell k3 q1, Nat.le_trans q7.size k3.size, hbx.1, hbx.2⟩
  have hLn : ∀ k, k ≤ ws.length → Hid (Srt (run s.last (s.wait.take k)) ∧ mass (run s.last (s.wait.take k)) ≤ 1000000000) := fun k hk => by
    have e1 := run_mass (s.wait.take k) s.last HG.out.srt
    have e2 := wmass_take s.wait k
    have e3 := HMs.out
    unfold St.mass at e3
    exact ⟨run_srt _ _ HG.out.srt, by omega⟩
  have HLn : Hid (_) := hLn
  have HC3 : Hid (_) := c3
  clear hmx hmn hsl c31a c31 hy1 hy2 hx1 hLn c1 c3
  go_wp2_with fail
  go_loopw [31] (fun vi wr => ∃ k : Nat, k ≤ M ∧ vi = .int .i64 k ∧ Hid (Lf w wr w1.heap.size (run s.last (s.wait.take k)))) (fun vi _ => M - (intOf vi).toNat)
  case atStart => exact ⟨0, Nat.zero_le _, rfl, HL1.out.below (Below.refl _ _).drew⟩
  case round =>
    obtain ⟨k, hk, rfl, HK⟩ := hrel
    by_cases hlt : k < M
    · have hlt' : (k : Int) < (M : Int) := by omega
      have hkw : k < ws.length := by omega
      obtain ⟨g, rfl⟩ : ∃ g, aow = some ⟨g, 0, none⟩ := by
        rcases own_shape HWT.out.row with ⟨_, e⟩ | ⟨g, cap', e, _⟩
        · omega
        · simp at e; exact ⟨g, e.1⟩
      have hbw : Below w.heap.size w wr := by
        obtain ⟨_, _, _, _, _, _, _, _, _, _, _, q7, _⟩ := HK.out
        exact q7
      have hW2 := HWT.out.kept (G := fun _ => False) (Fr.of_below hbw) (fun _ _ => id)
      obtain ⟨m0, m1, m2, m3, m4⟩ := hW2.cell k hkw
      obtain ⟨aod, Ld, capd, hd⟩ := Cv.slice (hW2.away (G := fun _ => False) (fun _ _ => id) ws[k] (List.getElem_mem hkw))
      have hst := HSt.out w1.heap.size k hkw wr (wr.alloc (.cells #[.int .i64 ws[k].1.kd, .string ws[k].1.nm, .slice aod Ld capd, .int .i64 ws[k].1.sz, .string ws[k].1.t] 93)) HK.out ((Below.refl _ _).alloc (Nat.le_refl _) _)
      simp only [Cv.val] at hst
      rw [hd] at hst m2
      have HS2 : Hid (_) := hst
      clear hst hW2 hd hbw HEnd HTo HLn
      go_wp2_with (go_at_call 38; refine Calls.mono HS2.out ?_; rintro e w' ⟨rfl, hX⟩)
      go_roundw
      case rel => exact ⟨k + 1, by omega, by go_num, hX⟩
      case measure => simp [intOf]; omega
    · have hkM : k = M := by omega
      subst hkM
      have hlt' : ¬ (k : Int) < (k : Int) := by omega
      have hbw : Below w.heap.size w wr := by
        obtain ⟨_, _, _, _, _, _, _, _, _, _, _, q7, _⟩ := HK.out
        exact q7
      have c3r := below_cell hbw HC3.out
      by_cases hnl : n < ws.length
      · have hnl' : (n : Int) < (ws.length : Int) := by omega
        have hkn : k = n := by have := HM.out; omega
        subst hkn
        obtain ⟨g, rfl⟩ : ∃ g, aow = some ⟨g, 0, none⟩ := by
          rcases own_shape HWT.out.row with ⟨_, e⟩ | ⟨g, cap', e, _⟩
          · omega
          · simp at e; exact ⟨g, e.1⟩
        have hW2 := HWT.out.kept (G := fun _ => False) (Fr.of_below hbw) (fun _ _ => id)
        obtain ⟨m0, m1, m2, m3, m4⟩ := hW2.cell k hnl
        obtain ⟨aod, Ld, capd, hd⟩ := Cv.slice (hW2.away (G := fun _ => False) (fun _ _ => id) ws[k] (List.getElem_mem hnl))
        have hst := HTo.out w1.heap.size k hnl wr HK.out
        simp only [Cv.val] at hst
        rw [hd] at hst m2
        have HS2 : Hid (_) := hst
        have hget : s.wait[k]? = some ws[k].2 := by rw [← HG3.out, List.getElem?_map, List.getElem?_eq_getElem hnl]; rfl
        obtain ⟨fs, HFS⟩ : ∃ fs, Hid (fs = leftOf s (k : Int) t) := ⟨leftOf s (k : Int) t, (rfl : _ = _)⟩
        have hfs : torn (run s.last (s.wait.take k)) ws[k].2 t = fs := by
          rw [HFS.out]
          simp [leftOf, hget]
        have HSM : Hid (Srt fs ∧ mass fs ≤ 1000000000) := by
          have e := HLn.out (k + 1) (by omega)
          have e1 := run_mass (s.wait.take k) s.last HG.out.srt
          have e2 := wmass_take s.wait (k + 1)
          rw [take_succ_snoc _ _ _ hget] at e2
          have e3 : wmass (s.wait.take k ++ [ws[k].2]) = wmass (s.wait.take k) + (ws[k].2).mass := by simp [wmass]
          have e4 := HMs.out
          unfold St.mass at e4
          have hsr := run_srt (s.wait.take k) _ HG.out.srt
          rw [← hfs]
          cases hc : ws[k].2 with
          | app nn bb =>
            rw [hc] at e2 e3
            simp only [Ch.mass] at e3
            simp only [torn]
            split
            · exact ⟨hsr, by omega⟩
            · have e5 := ap_mass (.app nn (bb.take t.toNat)) hsr
              simp only [Ch.mass, List.length_take] at e5
              exact ⟨ap_srt _ hsr, by omega⟩
          | cut nn kk => exact ⟨hsr, by show mass (run s.last (s.wait.take k)) ≤ _; omega⟩
          | rem nn => exact ⟨hsr, by show mass (run s.last (s.wait.take k)) ≤ _; omega⟩
          | mov nn kk => exact ⟨hsr, by show mass (run s.last (s.wait.take k)) ≤ _; omega⟩
        rw [hfs] at HS2
        clear hst hW2 hd hbw HSt HTo HLn hfs hget
        go_wp2_with (go_at_call 39; refine Calls.mono HS2.out ?_; rintro e w4 ⟨rfl, hX⟩; obtain ⟨ao4, N4, cap4, e0, eL, HC4⟩ := HEnd.out w4 fs HSM.out.1 HSM.out.2 hX; clear hX)
        go_region_held (fun w' => w'.cell? ⟨p, 0, none⟩ = some (.int .i64 s.room) ∧ w'.cell? ⟨w1.heap.size, 0, none⟩ = some (.slice ao4 N4 cap4))
          (first | exact ⟨e0, eL⟩ | exact ⟨f0, fL⟩ | go_keep)
          (first | (go_at_call 37; refine Calls.mono HC4.out ?_; rintro e w5 ⟨ao5, N5, cap5, rfl, f0, fL, HX⟩))
        all_goals go_wp2
        all_goals go_ret
        all_goals exact ⟨_, rfl, HX.out.1, by rw [← HFS.out]; exact HX.out.2.1, HX.out.2.2⟩
      · have hnl' : ¬ (n : Int) < (ws.length : Int) := by omega
        have hkn : k = ws.length := by have := HM.out; omega
        obtain ⟨fs, HFS⟩ : ∃ fs, Hid (fs = leftOf s (n : Int) t) := ⟨leftOf s (n : Int) t, (rfl : _ = _)⟩
        have hwl : ws.length = s.wait.length := by rw [← HG3.out, List.length_map]
        have hfs : run s.last (s.wait.take k) = fs := by
          rw [HFS.out]
          have h1 : s.wait[n]? = none := List.getElem?_eq_none (by omega)
          simp only [leftOf, Int.toNat_natCast, h1]
          rw [if_pos (by omega), List.take_of_length_le (by omega), List.take_of_length_le (by omega)]
        have hSM := HLn.out k (by omega)
        rw [hfs] at hSM
        have hK := HK.out
        rw [hfs] at hK
        obtain ⟨ao4, N4, cap4, e0, eL, HC4⟩ := HEnd.out wr fs hSM.out.1 hSM.out.2 hK
        clear hK hSM hfs hwl hkn HSt HTo HLn hbw
        go_wp2_with fail
        go_region_held (fun w' => w'.cell? ⟨p, 0, none⟩ = some (.int .i64 s.room) ∧ w'.cell? ⟨w1.heap.size, 0, none⟩ = some (.slice ao4 N4 cap4))
          (first | exact ⟨e0, eL⟩ | exact ⟨f0, fL⟩ | go_keep)
          (first | (go_at_call 37; refine Calls.mono HC4.out ?_; rintro e w5 ⟨ao5, N5, cap5, rfl, f0, fL, HX⟩))
        all_goals go_wp2
        all_goals go_ret
        all_goals exact ⟨_, rfl, HX.out.1, by rw [← HFS.out]; exact HX.out.2.1, HX.out.2.2⟩
end Go.Proofs.YtjndgekpdmlbiaaGreatDoor.Dk
namespace Go.Proofs.YtjndgekpdmlbiaaGreatDoor.Dk
open Go.RowKit

set_option maxHeartbeats 2000000 in
set_option maxRecDepth 20000 in
theorem crash_neg (p : Nat) (s : St) (F : Nat → Prop) (n t : Int) (w : World) (h : Dk w p s F) (hm : s.mass ≤ 1000000000) (hn : n < 0) :
    Calls Tryz.prog 16 #[.pointer (some ⟨p, 0, none⟩), .int .i64 n, .int .i64 t] w fun e w' => ∃ q, e = .returned (.pointer (some ⟨q, 0, none⟩)) ∧ w.heap.size ≤ q ∧ Dk w' q ⟨s.room, leftOf s n t, []⟩ (ext (fun _ => False) w w') ∧ Below w.heap.size w w' := by
  obtain ⟨hgood, hFlt, vl, vn, vw, zl, zn, ws, Fa, Fn, Fw, hC, g1, g2, g3, g4⟩ := h
  have hcs := hC.cells
  have c0 := hcs.1
  have c1 := hcs.2.1
  have c3 := hcs.2.2.2.1
  have hWT := hC.wt
  have hwl : ws.length = s.wait.length := by rw [← g3, List.length_map]
  have hwb : ws.length ≤ 1000000000 := by unfold St.mass at hm; omega
  obtain ⟨aow, capw, hvw, hcw⟩ : ∃ ao cap, vw = .slice ao ws.length cap ∧ ws.length ≤ cap := by
    rcases own_shape hC.wt.row with ⟨rfl, e⟩ | ⟨g, cap, rfl, hc, _⟩
    · exact ⟨none, 0, by rw [e], by omega⟩
    · exact ⟨_, _, rfl, hc⟩
  subst hvw
  obtain ⟨aol, Nl, capl, rfl⟩ := own_slice hC.fl.row
  have hml : s.mass ≤ 1000000000 → mass (zl.map Ent.fl) ≤ 1000000000 := fun h => by rw [g1]; unfold St.mass at h; omega
  have hM0 : 0 ≤ ws.length := Nat.zero_le _
  have hmx : ∀ w' : World, (Builtin.max_ #[3, 3] 3 #[.int .i64 n, .int .i64 0]).run Tryz.prog w' = .ok (.int .i64 0) w' := fun w' => by
    rw [run_max_int2, if_pos (by omega)]
  have hmn : ∀ w' : World, (Builtin.min_ #[3, 3] 3 #[.int .i64 0, .int .i64 (ws.length : Int)]).run Tryz.prog w' = .ok (.int .i64 0) w' := fun w' => by
    rw [run_min_int2, if_neg (by omega)]
  have hsl := fun w' => slice_front61 aow ws.length capw 0 hM0 hcw w'
  have HCl : Hid (Calls Tryz.prog 37 #[.slice aol Nl capl] w fun e w1 => ∃ ao1 N1 cap1, e = .returned (.slice ao1 N1 cap1) ∧ w1.cell? ⟨p, 3, none⟩ = some (.slice aow ws.length capw) ∧ Hid (Lf w (w1.alloc (.cells #[.slice ao1 N1 cap1] 70)) w1.heap.size (run s.last (s.wait.take 0))) ∧ Hid (Below w.heap.size w w1)) := by
    refine (fclone_any _ zl Fa w hC.fl (hml hm)).mono ?_
    rintro e w1 ⟨v', zs', rfl, k1, k2, k3⟩
    obtain ⟨ao1, N1, cap1, rfl⟩ := own_slice k1.row
    have hb : Below w1.heap.size w1 (w1.alloc (.cells #[.slice ao1 N1 cap1] 70)) := (Below.refl _ _).alloc (Nat.le_refl _) _
    refine ⟨ao1, N1, cap1, rfl, below_cell k3 c3, ⟨ao1, N1, cap1, zs', _, ?_, ?_, k1.below hb, by rw [k2, g1]; rfl, fun hk => ?_, fun j hj => ?_, k3.trans (hb.mono k3.size), k3.size, by simp⟩, k3⟩
    · rw [cell_of_row _ _ 0 _ _ _ (heap_alloc_new _ _)]; rfl
    · exact frozen_of_heap (heap_alloc_new _ _) 0
    · rcases hk with hk | hk
      · exact hk.elim
      · omega
    · rcases hj with hj | hj
      · exact hj.elim
      · exact hj.1
  have HSt : Hid (_) := fun (L k : Nat) (hk : k < ws.length) (wr wr1 : World) => Lf.step hWT g3 hgood hm L k hk wr wr1
  have HTo : Hid (_) := fun (L k : Nat) (hk : k < ws.length) (wr1 : World) => Lf.torn hWT g3 hgood hm L k t hk wr1
  have HWT : Hid (_) := hWT
  have HG : Hid (s.good) := hgood
  have HMs : Hid (s.mass ≤ 1000000000) := hm
  have HG3 : Hid (ws.map Prod.snd = s.wait) := g3
  clear hC hcs hFlt g1 g2 g3 g4 hwl hml hWT hgood hm hcw
  go_enter Tryz.func16, Tryz.ntmps16
  go_wp2_with (go_at_call 37; refine Calls.mono HCl.out ?_; rintro e w1 ⟨ao1, N1, cap1, rfl, c31, HL1, HB1⟩)
  have c31a : (w1.alloc (.cells #[.slice ao1 N1 cap1] 70)).cell? ⟨p, 3, none⟩ = some (.slice aow ws.length capw) := below_cell ((Below.refl _ _).alloc (Nat.le_refl _) _) c31
  have hsl0 : ∀ w' : World, (Instr.slice 71 (.slice aow ws.length capw) none (some (.int .i64 0)) none).run Tryz.prog w' = .ok (.slice aow 0 capw) w' ∧ (Instr.sliceAt 71 (.slice aow ws.length capw) none (some (.int .i64 0)) none).run Tryz.prog w' = .ok (.slice aow 0 capw) w' := hsl
  clear hsl
  go_region_held (fun w' => w'.cell? ⟨p, 3, none⟩ = some (.slice aow ws.length capw) ∧ (Instr.slice 71 (.slice aow ws.length capw) none (some (.int .i64 0)) none).run Tryz.prog w' = .ok (.slice aow 0 capw) w' ∧ (Instr.sliceAt 71 (.slice aow ws.length capw) none (some (.int .i64 0)) none).run Tryz.prog w' = .ok (.slice aow 0 capw) w' ∧ (Builtin.max_ #[3, 3] 3 #[.int .i64 n, .int .i64 0]).run Tryz.prog w' = .ok (.int .i64 0) w' ∧ (Builtin.min_ #[3, 3] 3 #[.int .i64 0, .int .i64 (ws.length : Int)]).run Tryz.prog w' = .ok (.int .i64 0) w')
    (first | exact ⟨c31a, (hsl0 _).1, (hsl0 _).2, hmx _, hmn _⟩)
    (fail)
  have HEnd : Hid (∀ (w4 : World) (fs : List Fl), Srt fs → mass fs ≤ 1000000000 → Lf w w4 w1.heap.size fs → ∃ ao N cap, w4.cell? ⟨p, 0, none⟩ = some (.int .i64 s.room) ∧ w4.cell? ⟨w1.heap.size, 0, none⟩ = some (.slice ao N cap) ∧
      Hid (Calls Tryz.prog 37 #[.slice ao N cap] w4.drew fun e w5 => ∃ ao5 N5 cap5, e = .returned (.slice ao5 N5 cap5) ∧ w5.cell? ⟨p, 0, none⟩ = some (.int .i64 s.room) ∧ w5.cell? ⟨w1.heap.size, 0, none⟩ = some (.slice ao N cap) ∧ Hid (w.heap.size ≤ w5.heap.size ∧ Dk (w5.alloc (.cells #[.int .i64 s.room, .slice ao N cap, .slice ao5 N5 cap5, .slice none 0 0] 73)) w5.heap.size ⟨s.room, fs, []⟩ (ext (fun _ => False) w (w5.alloc (.cells #[.int .i64 s.room, .slice ao N cap, .slice ao5 N5 cap5, .slice none 0 0] 73))) ∧ Below w.heap.size w (w5.alloc (.cells #[.int .i64 s.room, .slice ao N cap, .slice ao5 N5 cap5, .slice none 0 0] 73))))) := by
    intro w4 fs hs hms hL
    have hLd : Lf w w4.drew w1.heap.size fs := hL.below (Below.refl _ _).drew
    obtain ⟨ao, N, cap, zk, Fk, q1, q2, q3, q4, q5, q6, q7, q8, q9⟩ := hLd
    have c04 := below_cell q7 c0
    refine ⟨ao, N, cap, c04, q1, ?_⟩
    refine (fclone_any _ zk Fk w4.drew q3 (by rw [q4]; exact hms)).mono ?_
    rintro e w5 ⟨v', zs', rfl, k1, k2, k3⟩
    obtain ⟨ao5, N5, cap5, rfl⟩ := own_slice k1.row
    have hbx := Lf.boxed (room := s.room) q3 q4 q6 q7 hs ⟨HG.out.r0, HG.out.r1⟩ k1 (by rw [k2, q4]) k3
    exact ⟨ao5, N5, cap5, rfl, below_cell k3 c04, below_cell k3 q1, Nat.le_trans q7.size k3.size, hbx.1, hbx.2⟩
  have hLn : ∀ k, k ≤ ws.length → Hid (Srt (run s.last (s.wait.take k)) ∧ mass (run s.last (s.wait.take k)) ≤ 1000000000) := fun k hk => by
    have e1 := run_mass (s.wait.take k) s.last HG.out.srt
    have e2 := wmass_take s.wait k
    have e3 := HMs.out
    unfold St.mass at e3
    exact ⟨run_srt _ _ HG.out.srt, by omega⟩
  have HLn : Hid (_) := hLn
  clear hmx hmn hsl0 c31a c31 hLn c1 c3 HSt HTo
  go_wp2_with fail
  go_loopw [31] (fun vi wr => vi = .int .i64 0 ∧ Hid (Lf w wr w1.heap.size (run s.last (s.wait.take 0)))) (fun _ _ => 0)
  case atStart => exact ⟨rfl, HL1.out.below (Below.refl _ _).drew⟩
  case round =>
    obtain ⟨rfl, HK⟩ := hrel
    have hn0 : ¬ (0 : Int) ≤ n := by omega
    have hSM := HLn.out 0 (Nat.zero_le _)
    obtain ⟨ao4, N4, cap4, e0, eL, HC4⟩ := HEnd.out wr _ hSM.out.1 hSM.out.2 HK.out
    have HFS : Hid (run s.last (s.wait.take 0) = leftOf s n t) := by
      show _ = _
      simp only [leftOf, if_neg hn0]
      rfl
    clear hSM HLn HEnd
    go_wp2_with fail
    go_region_held (fun w' => w'.cell? ⟨p, 0, none⟩ = some (.int .i64 s.room) ∧ w'.cell? ⟨w1.heap.size, 0, none⟩ = some (.slice ao4 N4 cap4))
      (first | exact ⟨e0, eL⟩ | exact ⟨f0, fL⟩ | go_keep)
      (first | (go_at_call 37; refine Calls.mono HC4.out ?_; rintro e w5 ⟨ao5, N5, cap5, rfl, f0, fL, HX⟩))
    all_goals go_wp2
    all_goals go_ret
    all_goals exact ⟨_, rfl, HX.out.1, by rw [← HFS.out]; exact HX.out.2.1, HX.out.2.2⟩

/-- Crash, at whatever numbers. -/
theorem crash_any (p : Nat) (s : St) (F : Nat → Prop) (n t : Int) (w : World) (h : Dk w p s F) (hm : s.mass ≤ 1000000000) :
    Calls Tryz.prog 16 #[.pointer (some ⟨p, 0, none⟩), .int .i64 n, .int .i64 t] w fun e w' => ∃ q, e = .returned (.pointer (some ⟨q, 0, none⟩)) ∧ w.heap.size ≤ q ∧ Dk w' q ⟨s.room, leftOf s n t, []⟩ (ext (fun _ => False) w w') ∧ Below w.heap.size w w' := by
  by_cases hn : n < 0
  · exact crash_neg p s F n t w h hm hn
  · obtain ⟨m, rfl⟩ : ∃ m : Nat, n = (m : Int) := ⟨n.toNat, by omega⟩
    exact crash_nat p s F m t w h hm
end Go.Proofs.YtjndgekpdmlbiaaGreatDoor.Dk

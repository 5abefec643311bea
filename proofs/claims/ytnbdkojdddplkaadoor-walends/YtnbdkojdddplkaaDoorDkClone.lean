/- The walk of a folder's clone. -/
import Derived.Test.YtnbdkojdddplkaaDoorDkDo
namespace Go.Proofs.YtnbdkojdddplkaaDoor.Dk
open Go.RowKit

def blank : Ent := ⟨⟨#[]⟩, .slice none 0 0, []⟩
theorem made_blank (n : Nat) : (madeCells (Value.agg #[.string ⟨#[]⟩, .slice none 0 0]).cells (n * 2)).toList = cellsF (List.replicate n blank) := by
  apply List.ext_getElem?
  intro j
  have hc : (Value.agg #[.string ⟨#[]⟩, .slice none 0 0]).cells = #[.string ⟨#[]⟩, .slice none 0 0] := rfl
  by_cases hj : j < n * 2
  · obtain ⟨i, hi⟩ : ∃ i, j = i * 2 ∨ j = i * 2 + 1 := ⟨j / 2, by omega⟩
    have hi2 : i < (List.replicate n blank).length := by simp; omega
    have hg := cellsF_get (List.replicate n blank) i hi2
    simp only [List.getElem_replicate] at hg
    rcases hi with rfl | rfl
    · rw [hg.1, hc]
      simp [madeCells, hj, blank]
    · rw [hg.2, hc]
      simp [madeCells, hj, blank]
  · have h1 : (madeCells (Value.agg #[.string ⟨#[]⟩, .slice none 0 0]).cells (n * 2)).toList[j]? = none := List.getElem?_eq_none (by simp [madeCells]; omega)
    have h2 : (cellsF (List.replicate n blank))[j]? = none := List.getElem?_eq_none (by rw [cellsF_len, List.length_replicate]; omega)
    rw [h1, h2]

set_option maxHeartbeats 2000000 in
set_option maxRecDepth 20000 in
theorem fclone_any (v : Value) (zs : List Ent) (F : Nat → Prop) (w : World) (h : Fol w v zs F) (hm : mass (zs.map Ent.fl) ≤ 1000000000) :
    Calls Tryd.prog 41 #[v] w fun e w' => ∃ v' zs', e = .returned v' ∧ Fol w' v' zs' (ext (fun _ => False) w w') ∧ zs'.map Ent.fl = zs.map Ent.fl ∧ Below w.heap.size w w' := by
  obtain ⟨I, hI, hz0, hz1, hz2⟩ := info_parts Tryd.info99
  have hum := used_mass (zs.map Ent.fl)
  rw [List.length_map] at hum
  have hzl : zs.length ≤ 1000000000 := by omega
  have hdl : ∀ z ∈ zs, z.bs.length ≤ 1000000000 := fun z hz => by
    obtain ⟨l, r, rfl⟩ := List.append_of_mem hz
    rw [List.map_append, mass_append, List.map_cons, mass_cons] at hm
    simp only [Ent.fl] at hm
    omega
  obtain ⟨w0, hmk, hO0, hg0⟩ := run_make_full (P := Tryd.prog) w 0 58 99 I _ 2 Tryd.underlying58 hI hz0 hz1 .i64 .i64 zs.length (by rw [hz2]; omega) (by unfold maxLen; omega) (Nat.zero_le _)
  rw [made_blank] at hO0
  have hb0 : Below w.heap.size w w0 := (Below.refl _ _).grown hg0 (Nat.le_refl _) (by simp)
  have hlt0 : w.heap.size < w0.heap.size := (hO0.lt _ rfl).2
  have hF0 : Fol w0 (.slice (some ⟨w.heap.size, 0, none⟩) zs.length zs.length) (List.replicate zs.length blank) (ext (fun _ => False) w w0) := by
    refine ⟨by rw [List.length_replicate]; exact hO0, fun z hz => ?_, ?_, fun k hk => ?_, fun z hz k hk => ?_, ext_lt (fun _ h => h.elim) hb0.size⟩
    · rw [List.eq_of_mem_replicate hz]; exact World.ownsRow_nil _ _ _ _
    · exact List.pairwise_replicate.2 (Or.inr (fun k hk => by simp [blank, Value.ownBlock] at hk))
    · simp [Value.ownBlock] at hk; subst hk; exact Or.inr ⟨Nat.le_refl _, hlt0⟩
    · rw [List.eq_of_mem_replicate hz] at hk; simp [blank, Value.ownBlock] at hk
  have HF : Hid (_) := h
  have HF0 : Hid (_) := hF0
  have HD : Hid (_) := hdl
  have HB0 : Hid (_) := hb0
  obtain ⟨ao, N, cap, rfl⟩ := own_slice h.row
  have hN : N = zs.length := by
    rcases h.shape with ⟨e, e2⟩ | ⟨_, _, e, _⟩ <;> (simp only [Value.slice.injEq] at e; omega)
  subst hN
  clear h hF0 hO0 hg0 hb0 hdl hm hum hI hz0 hz1 hz2
  go_enter Tryd.func41, Tryd.ntmps41
  go_wp2
  go_loopw [11] (fun vi wr => ∃ (k : Nat) (zd : List Ent), k ≤ zs.length ∧ vi = .int .i64 k ∧ Hid (zd.length = k ∧ zd.map Ent.fl = (zs.take k).map Ent.fl ∧ Fol wr (.slice (some ⟨w.heap.size, 0, none⟩) zs.length zs.length) (zd ++ List.replicate (zs.length - k) blank) (ext (fun _ => False) w wr)) ∧ Hid (Below w.heap.size w wr ∧ w.heap.size < wr.heap.size)) (fun vi _ => zs.length - (intOf vi).toNat)
  case atStart => exact ⟨0, [], Nat.zero_le _, rfl, ⟨rfl, by simp, by simpa using HF0.out⟩, HB0.out, hlt0⟩
  case round =>
    obtain ⟨k, zd, hk, rfl, HK, HB⟩ := hrel
    by_cases hlt : k < zs.length
    · have hlt' : (k : Int) < (zs.length : Int) := by omega
      obtain ⟨g, rfl⟩ : ∃ g, ao = some ⟨g, 0, none⟩ := by
        rcases HF.out.shape with ⟨_, e⟩ | ⟨g, cap', e, _⟩
        · omega
        · simp at e; exact ⟨g, e.1⟩
      have hFr := HF.out.below HB.out.1
      obtain ⟨c0, c1⟩ := hFr.cell k hlt
      have hdat := hFr.data zs[k] (List.getElem_mem hlt)
      obtain ⟨aod, Ld, capd, hd⟩ := own_slice hdat
      rw [hd] at c1
      have hw1 : Below wr.heap.size wr (wr.alloc (.cells #[.string zs[k].name, .slice aod Ld capd] 99)).drew := ((Below.refl _ _).alloc (Nat.le_refl _) _).drew
      have hsl : Sl (wr.alloc (.cells #[.string zs[k].name, .slice aod Ld capd] 99)).drew (.slice aod Ld capd) zs[k].bs := by have h := (Sl.of_own hdat).below hw1; rw [hd] at h; exact h
      have hrep : List.replicate (zs.length - k) blank = blank :: List.replicate (zs.length - (k + 1)) blank := by
        rw [show zs.length - k = (zs.length - (k + 1)) + 1 by omega, List.replicate_succ]
      have HC : Hid (Calls Tryd.prog 34 #[.slice aod Ld capd] (wr.alloc (.cells #[.string zs[k].name, .slice aod Ld capd] 99)).drew fun e w2 => ∃ ao2 L2 cap2, e = .returned (.slice ao2 L2 cap2) ∧ w2.cell? ⟨wr.heap.size, 0, none⟩ = some (.string zs[k].name) ∧ w2.cell? ⟨wr.heap.size, 1, none⟩ = some (.slice aod Ld capd) ∧ (∃ u, w2.cell? ⟨w.heap.size, k * 2, none⟩ = some u) ∧ (∃ u, w2.cell? ⟨w.heap.size, k * 2 + 1, none⟩ = some u) ∧ w2.frozen? ⟨w.heap.size, k * 2, none⟩ = false ∧ w2.frozen? ⟨w.heap.size, k * 2 + 1, none⟩ = false ∧
          Hid (Fol ((w2.setCell ⟨w.heap.size, k * 2, none⟩ (.string zs[k].name)).setCell ⟨w.heap.size, k * 2 + 1, none⟩ (.slice ao2 L2 cap2)) (.slice (some ⟨w.heap.size, 0, none⟩) zs.length zs.length) ((zd ++ [⟨zs[k].name, .slice ao2 L2 cap2, zs[k].bs⟩]) ++ List.replicate (zs.length - (k + 1)) blank) (ext (fun _ => False) w ((w2.setCell ⟨w.heap.size, k * 2, none⟩ (.string zs[k].name)).setCell ⟨w.heap.size, k * 2 + 1, none⟩ (.slice ao2 L2 cap2))) ∧
            Below w.heap.size w ((w2.setCell ⟨w.heap.size, k * 2, none⟩ (.string zs[k].name)).setCell ⟨w.heap.size, k * 2 + 1, none⟩ (.slice ao2 L2 cap2)) ∧ w.heap.size < w2.heap.size)) := by
        refine (clone_any _ zs[k].bs _ hsl (by have := HD.out zs[k] (List.getElem_mem hlt); omega)).mono ?_
        rintro e w2 ⟨d', rfl, hO, hb⟩
        obtain ⟨ao2, L2, cap2, rfl⟩ := own_slice hO
        have hb2 : Below wr.heap.size wr w2 := hw1.trans (hb.mono (by have := hw1.size; omega))
        obtain ⟨k1, k2, k3⟩ := HK.out
        rw [hrep] at k3
        have hF2 : Fol w2 (.slice (some ⟨w.heap.size, 0, none⟩) zs.length zs.length) (zd ++ blank :: List.replicate (zs.length - (k + 1)) blank) (ext (fun _ => False) w w2) :=
          (k3.below hb2).mono (fun q hq => by rcases hq with hq | hq; exact Or.inl hq; exact Or.inr ⟨hq.1, by have := hb2.size; omega⟩) (ext_lt (fun _ h => h.elim) (by have := hb2.size; have := HB.out.2; omega))
        have hset := hF2.set zs[k].name (.slice ao2 L2 cap2) zs[k].bs (own_zero hO) (fun q hq => Or.inr ⟨by have := (hO.lt q hq).1; have := HB.out.2; have := hw1.size; omega, (hO.lt q hq).2⟩) (fun x hx q hq hq' => by
          have h1 := (hO.lt q hq').1
          have h2 := k3.lt q (k3.dataIn x (by rcases hx with hx | hx <;> simp [hx]) q hq)
          have h3 := hw1.size
          omega)
        rw [k1] at hset
        have hm0 : (wr.alloc (.cells #[.string zs[k].name, .slice aod Ld capd] 99)).drew.heap[wr.heap.size]? = some (.cells #[.string zs[k].name, .slice aod Ld capd] 99 (0, 0)) := heap_alloc_new wr _
        have hlk : wr.heap.size < (wr.alloc (.cells #[.string zs[k].name, .slice aod Ld capd] 99)).drew.heap.size := by show wr.heap.size < (wr.alloc _).heap.size; simp
        have hm2 : w2.heap[wr.heap.size]? = some (.cells #[.string zs[k].name, .slice aod Ld capd] 99 (0, 0)) := (hb.block _ hlk).trans hm0
        have hcell := hF2.cell k (by simp; omega)
        refine ⟨ao2, L2, cap2, rfl, by rw [cell_of_row w2 _ 0 _ _ _ hm2]; rfl, by rw [cell_of_row w2 _ 1 _ _ _ hm2]; rfl, ⟨_, hcell.1⟩, ⟨_, hcell.2⟩, hF2.frozen _, hF2.frozen _, ?_, ?_, by have := hb2.size; have := HB.out.2; omega⟩
        · have e : (zd ++ [(⟨zs[k].name, .slice ao2 L2 cap2, zs[k].bs⟩ : Ent)]) ++ List.replicate (zs.length - (k + 1)) blank = zd ++ ⟨zs[k].name, .slice ao2 L2 cap2, zs[k].bs⟩ :: List.replicate (zs.length - (k + 1)) blank := by simp
          rw [e]
          refine hset.mono (fun q hq => ?_) (ext_lt (fun _ h => h.elim) ?_)
          · rcases hq with hq | hq
            · exact Or.inl hq
            · exact Or.inr ⟨hq.1, by rw [setCell_size, setCell_size]; exact hq.2⟩
          · rw [setCell_size, setCell_size]; have := hb2.size; have := HB.out.2; omega
        · exact ((HB.out.1.trans (hb2.mono (by have := HB.out.2; omega))).setCell (Nat.le_refl _) _).setCell (Nat.le_refl _) _
      have hne : wr.heap.size ≠ w.heap.size := by have := HB.out.2; omega
      have hne2 : w.heap.size ≠ wr.heap.size := fun e => hne e.symm
      have HL : Hid (zd.length = k ∧ zd.map Ent.fl = (zs.take k).map Ent.fl) := ⟨HK.out.1, HK.out.2.1⟩
      clear hFr hdat hd hw1 hsl hrep HK HD
      obtain ⟨nm, HN⟩ : ∃ nm, Hid (nm = zs[k].name) := ⟨zs[k].name, (rfl : _ = _)⟩
      rw [← HN.out] at c0 HC
      go_wp2_with fail
      go_region_held (fun w' => w'.cell? ⟨wr.heap.size, 0, none⟩ = some (.string nm) ∧ w'.cell? ⟨wr.heap.size, 1, none⟩ = some (.slice aod Ld capd))
        (first | exact ⟨by simp, by simp⟩ | exact ⟨f0, f1⟩ | go_keep)
        (first | (go_at_call 34; refine Calls.mono HC.out ?_; rintro e w2 ⟨ao2, L2, cap2, rfl, f0, f1, ⟨u0, e0⟩, ⟨u1, e1⟩, z0, z1, HX⟩))
      have HF' : Hid ((zd ++ [(⟨nm, .slice ao2 L2 cap2, zs[k].bs⟩ : Ent)]).length = k + 1 ∧ (zd ++ [(⟨nm, .slice ao2 L2 cap2, zs[k].bs⟩ : Ent)]).map Ent.fl = (zs.take (k + 1)).map Ent.fl) := by
        refine ⟨by simp [HL.out.1], ?_⟩
        rw [take_succ_snoc zs k zs[k] (List.getElem?_eq_getElem hlt), List.map_append, List.map_append, HL.out.2, HN.out]
        rfl
      clear f0 f1 e0 e1 z0 z1 c0 c1 HC
      go_wp2
      go_roundw
      case rel => exact ⟨k + 1, _, by omega, by go_num, ⟨HF'.out.1, HF'.out.2, HX.out.1⟩, HX.out.2.1, by rw [setCell_size, setCell_size]; exact HX.out.2.2⟩
      case measure => simp [intOf]; omega
    · have e : k = zs.length := by omega
      subst e
      go_wp2
      go_ret
      obtain ⟨h1, h2, h3⟩ := HK.out
      refine ⟨_, zd, rfl, by simpa using h3, by rw [h2, List.take_length], HB.out.1⟩
end Go.Proofs.YtnbdkojdddplkaaDoor.Dk

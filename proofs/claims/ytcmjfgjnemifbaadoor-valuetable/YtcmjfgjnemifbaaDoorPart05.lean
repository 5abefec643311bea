/- The walks of a table's add and Id. The walk of a table's Id. The law's first steps: two constants, a table, a fact. -/
import Derived.Test.YtcmjfgjnemifbaaDoorPart03
import Derived.Test.YtcmjfgjnemifbaaDoorPart04
namespace Go.Proofs.YtcmjfgjnemifbaaDoor
open Go.RowKit

theorem Tryd.info23 : (Tryd.prog.info? 23).map (fun i => (i.zero, i.size, i.bytes)) = some (some (.agg #[.int .i64 0, .string ⟨#[]⟩, .int .i64 0]), 3, 32) := by kernel_rfl

/-- 'append' of one term onto a row of the table's own, as one run. -/
theorem run_append_tm (w : World) (vr : Value) (L : List Tm) (t : Tm) (g : Nat) (hO : w.ownsRow 0 23 3 vr L.length (cellsT L)) (hg : w.heap[g]? = some (.cells #[.int .i64 t.1, .string t.2.1, .int .i64 t.2.2] 23 (0, 0))) (hl : L.length ≤ 1000000) :
    ∃ g' cap w', (∀ ty, (Builtin.append_ #[29, 29] ty #[vr, .slice (some ⟨g, 0, none⟩) 1 1]).run Tryd.prog w = .ok (.slice (some ⟨g', 0, none⟩) (L.length + 1) cap) w') ∧ w'.ownsRow 0 23 3 (.slice (some ⟨g', 0, none⟩) (L.length + 1) cap) (L ++ [t]).length (cellsT (L ++ [t])) ∧ w.grownBy w' vr.ownBlock ∧ (vr.ownBlock = some g' ∨ g' = w.heap.size) := by
  obtain ⟨i, hi, hz, hsize, hby⟩ := info_parts Tryd.info23
  have H := fun ty => run_append_own_at (P := Tryd.prog) w 0 29 ty 23 i _ 3 32 Tryd.underlying29 hi hz hsize hby rfl (by decide) vr L.length (cellsT L) hO ⟨g, 0, none⟩ 1 1 (cellsT [t]) rfl (fun j u hj => by
    rw [Addr.add_lit, Nat.zero_add, cell_of_row w g j _ _ _ hg]
    simpa [cellsT] using hj) (cellsT_one [t]) (by simp only [maxLen]; omega) (by omega) (Nat.zero_le _)
  obtain ⟨v', w', hr, g1, g2, _, g4⟩ := H 0
  have e : cellsT (L ++ [t]) = cellsT L ++ cellsT [t] := cellsT_append _ _
  rw [← e] at g1
  rcases own_shape g1 with ⟨_, h0⟩ | ⟨g', cap, rfl, _⟩
  · omega
  · refine ⟨g', cap, w', fun ty => hr, by rw [List.length_append]; exact g1, g2, ?_⟩
    rcases g4 with h | h
    · exact .inl (by simpa [Value.ownBlock] using h.symm)
    · exact .inr (by simpa [Value.ownBlock] using h)

theorem setBlock_size (w : World) (m : Nat) (o : Obj) : (ChangeMaps.setBlock w m o).heap.size = w.heap.size := by simp [ChangeMaps.setBlock]
theorem setBlock_other (w : World) (m : Nat) (o : Obj) (k : Nat) (h : k ≠ m) : (ChangeMaps.setBlock w m o).heap[k]? = w.heap[k]? := by
  simp [ChangeMaps.setBlock, Ne.symm h]
theorem setBlock_self (w : World) (m : Nat) (o : Obj) (h : m < w.heap.size) : (ChangeMaps.setBlock w m o).heap[m]? = some o := by
  simp [ChangeMaps.setBlock, h]
theorem Fr.block1 (w : World) (m : Nat) (o : Obj) : Fr (fun k => k = m) w (ChangeMaps.setBlock w m o) :=
  ⟨rfl, rfl, rfl, by rw [setBlock_size]; exact Nat.le_refl _, fun k _ hk => setBlock_other w m o k hk⟩

/-- What the table is behind the append, the store and the map's update. -/
theorem add_key {u : World} {p m b : Nat} {vr : Value} {L : List Tm} {G : Nat → Prop} (t : Tm) (hp : u.heap[p]? = some (.cells #[vr, .map (some m)] 48 (0, 0))) (hrow : u.ownsRow 0 23 3 vr L.length (cellsT L))
    (hm : u.heap[m]? = some (.map (ents 0 L).toArray L.length)) (hGm : G m) (hGp : G p) (hrowIn : ∀ k, vr.ownBlock = some k → G k ∧ k ≠ p ∧ k ≠ m) (hlt : ∀ k, G k → k < u.heap.size)
    (hb : u.heap[b]? = some (.cells #[.int .i64 t.1, .string t.2.1, .int .i64 t.2.2] 23 (0, 0))) (hGb : ¬ G b) (hn : find L t 0 = none) (hl : L.length ≤ 1000000) :
    ∃ g cap w3 w5, (∀ ty, (Builtin.append_ #[29, 29] ty #[vr, .slice (some ⟨u.heap.size, 0, none⟩) 1 1]).run Tryd.prog (u.alloc (.cells #[.int .i64 t.1, .string t.2.1, .int .i64 t.2.2] 23)) = .ok (.slice (some ⟨g, 0, none⟩) (L.length + 1) cap) w3) ∧
      (∃ x, w3.cell? ⟨p, 0, none⟩ = some x) ∧ w3.cell? ⟨p, 1, none⟩ = some (.map (some m)) ∧ w3.frozen? ⟨p, 0, none⟩ = false ∧ w3.cell? ⟨b, 0, none⟩ = some (.int .i64 t.1) ∧ w3.cell? ⟨b, 1, none⟩ = some (.string t.2.1) ∧ w3.cell? ⟨b, 2, none⟩ = some (.int .i64 t.2.2) ∧ p ≠ b ∧
      (Instr.mapUpdate 46 (.map (some m)) (.agg #[.int .i64 t.1, .string t.2.1, .int .i64 t.2.2]) (.int .i64 ((L.length : Int) + 1))).run Tryd.prog (w3.setCell ⟨p, 0, none⟩ (.slice (some ⟨g, 0, none⟩) (L.length + 1) cap)).drew = .ok () w5 ∧
      w5.cell? ⟨p, 0, none⟩ = some (.slice (some ⟨g, 0, none⟩) (L.length + 1) cap) ∧
      Hid ((∃ vr' mv', Tb w5 p vr' mv' (L ++ [t]) (ext G u w5)) ∧ Fr G u w5) := by
  have hba : Below u.heap.size u (u.alloc (.cells #[.int .i64 t.1, .string t.2.1, .int .i64 t.2.2] 23)) := below_box _ _
  obtain ⟨g, cap, w3, hr, hO3, hg3, hat⟩ := run_append_tm (u.alloc (.cells #[.int .i64 t.1, .string t.2.1, .int .i64 t.2.2] 23)) vr L t u.heap.size (hrow.alloc _) (heap_alloc_new _ _) hl
  have hplt := hlt p hGp
  have hmlt := hlt m hGm
  have hblt : b < u.heap.size := (Array.getElem?_eq_some_iff.1 hb).1
  have hsa : (u.alloc (.cells #[.int .i64 t.1, .string t.2.1, .int .i64 t.2.2] 23)).heap.size = u.heap.size + 1 := by simp
  have hs3 := hg3.size
  have hpb : p ≠ b := fun e => hGb (e ▸ hGp)
  have keep : ∀ k o, u.heap[k]? = some o → k < u.heap.size → vr.ownBlock ≠ some k → w3.heap[k]? = some o := fun k o ho hk hne => by
    rw [hg3.block k (by omega) (fun e => hne e.symm), hba.block k hk]; exact ho
  have hp3 := keep p _ hp hplt (fun e => (hrowIn p e).2.1 rfl)
  have hm3 := keep m _ hm hmlt (fun e => (hrowIn m e).2.2 rfl)
  have hb3 := keep b _ hb hblt (fun e => hGb (hrowIn b e).1)
  have hpm : p ≠ m := fun e => by rw [e, hm] at hp; simp at hp
  have hgp : g ≠ p := by
    rcases hat with h | h
    · exact (hrowIn g h).2.1
    · omega
  have hgm : g ≠ m := by
    rcases hat with h | h
    · exact (hrowIn g h).2.2
    · omega
  have hone := (Fr.one w3 p 0 (.slice (some ⟨g, 0, none⟩) (L.length + 1) cap)).drew
  have hm4 : (w3.setCell ⟨p, 0, none⟩ (.slice (some ⟨g, 0, none⟩) (L.length + 1) cap)).drew.heap[m]? = some (.map (ents 0 L).toArray L.length) := by
    rw [hone.block m (by omega) (fun e => hpm e.symm)]; exact hm3
  have hss : (w3.setCell ⟨p, 0, none⟩ (.slice (some ⟨g, 0, none⟩) (L.length + 1) cap)).drew.heap.size = w3.heap.size := setCell_size _ _ _
  have hupd := run_update23 t L m _ hm4 hn
  have hblk := Fr.block1 (w3.setCell ⟨p, 0, none⟩ (.slice (some ⟨g, 0, none⟩) (L.length + 1) cap)).drew m (.map (ents 0 (L ++ [t])).toArray (L ++ [t]).length)
  have hp5 : (ChangeMaps.setBlock (w3.setCell ⟨p, 0, none⟩ (.slice (some ⟨g, 0, none⟩) (L.length + 1) cap)).drew m (.map (ents 0 (L ++ [t])).toArray (L ++ [t]).length)).heap[p]? = some (.cells #[.slice (some ⟨g, 0, none⟩) (L.length + 1) cap, .map (some m)] 48 (0, 0)) := by
    rw [setBlock_other _ _ _ _ hpm]
    show (w3.setCell ⟨p, 0, none⟩ (.slice (some ⟨g, 0, none⟩) (L.length + 1) cap)).heap[p]? = _
    rw [heap_set hp3]
    rfl
  have hF : Fr G u (ChangeMaps.setBlock (w3.setCell ⟨p, 0, none⟩ (.slice (some ⟨g, 0, none⟩) (L.length + 1) cap)).drew m (.map (ents 0 (L ++ [t])).toArray (L ++ [t]).length)) :=
    (((Fr.of_below (F := G) hba).trans (Fr.of_grown (F := G) hg3 (fun k hk => (hrowIn k hk).1)) (fun _ _ h => h)).trans hone (fun k _ e => e ▸ hGp)).trans hblk (fun k _ e => e ▸ hGm)
  refine ⟨g, cap, w3, _, hr, ⟨_, by rw [cell_of_row w3 p 0 _ _ _ hp3]; rfl⟩, by rw [cell_of_row w3 p 1 _ _ _ hp3]; rfl, by simp [World.frozen?, hp3], by rw [cell_of_row w3 b 0 _ _ _ hb3]; rfl, by rw [cell_of_row w3 b 1 _ _ _ hb3]; rfl, by rw [cell_of_row w3 b 2 _ _ _ hb3]; rfl, hpb, hupd, by rw [cell_of_row _ p 0 _ _ _ hp5]; rfl, ⟨_, _, hp5, ?_, .inr ⟨m, rfl, setBlock_self _ _ _ (by omega), Or.inl hGm, by simpa [Value.ownBlock] using hgm, by simp⟩, fun k hk => ?_, Or.inl hGp, ext_lt hlt hF.size⟩, hF⟩
  · refine own_kept (own_kept hO3 hone (fun k hk e => ?_)) hblk (fun k hk e => ?_)
    · simp [Value.ownBlock] at hk; omega
    · simp [Value.ownBlock] at hk; omega
  · simp [Value.ownBlock] at hk
    subst hk
    refine ⟨?_, hgp⟩
    rcases hat with h | h
    · exact Or.inl (hrowIn g h).1
    · refine Or.inr ⟨by omega, ?_⟩
      rw [setBlock_size, hss]
      exact (hO3.lt g rfl).2

theorem eqlSome (bm : Nat) (w : World) : (binOp .eql 46 (.map (some bm)) (.map none)).run Tryd.prog w = .ok (.bool false) w := by kernel_rfl
theorem eqlNil (w : World) : (binOp .eql 46 (.map none) (.map none)).run Tryd.prog w = .ok (.bool true) w := by kernel_rfl

theorem add_tail {w U : World} {p m : Nat} {vr mv : Value} {L : List Tm} {G G' : Nat → Prop} (t : Tm) (h : Tb w p vr mv L G) (hf : Fr G w U) (hG : ∀ k, G k → G' k) (hG2 : ∀ k, G' k → ext G w U k) (hp : U.heap[p]? = some (.cells #[vr, .map (some m)] 48 (0, 0))) (hrow : U.ownsRow 0 23 3 vr L.length (cellsT L))
    (hm : U.heap[m]? = some (.map (ents 0 L).toArray L.length)) (hGm : G' m) (hrm : ∀ k, vr.ownBlock = some k → k ≠ m) (hb : U.heap[w.heap.size]? = some (.cells #[.int .i64 t.1, .string t.2.1, .int .i64 t.2.2] 23 (0, 0))) (hGb : ¬ G' w.heap.size) (hn : find L t 0 = none) (hl : L.length ≤ 1000000) :
    U.cell? ⟨p, 0, none⟩ = some vr ∧ U.cell? ⟨w.heap.size, 0, none⟩ = some (.int .i64 t.1) ∧ U.cell? ⟨w.heap.size, 1, none⟩ = some (.string t.2.1) ∧ U.cell? ⟨w.heap.size, 2, none⟩ = some (.int .i64 t.2.2) ∧
    ∃ g cap w3 w5, (∀ ty, (Builtin.append_ #[29, 29] ty #[vr, .slice (some ⟨U.heap.size, 0, none⟩) 1 1]).run Tryd.prog (U.drew.alloc (.cells #[.int .i64 t.1, .string t.2.1, .int .i64 t.2.2] 23)) = .ok (.slice (some ⟨g, 0, none⟩) (L.length + 1) cap) w3) ∧
      (∃ x, w3.cell? ⟨p, 0, none⟩ = some x) ∧ w3.cell? ⟨p, 1, none⟩ = some (.map (some m)) ∧ w3.frozen? ⟨p, 0, none⟩ = false ∧ w3.cell? ⟨w.heap.size, 0, none⟩ = some (.int .i64 t.1) ∧ w3.cell? ⟨w.heap.size, 1, none⟩ = some (.string t.2.1) ∧ w3.cell? ⟨w.heap.size, 2, none⟩ = some (.int .i64 t.2.2) ∧
      (Instr.mapUpdate 46 (.map (some m)) (.agg #[.int .i64 t.1, .string t.2.1, .int .i64 t.2.2]) (.int .i64 ((L.length : Int) + 1))).run Tryd.prog (w3.setCell ⟨p, 0, none⟩ (.slice (some ⟨g, 0, none⟩) (L.length + 1) cap)).drew = .ok () w5 ∧
      w5.cell? ⟨p, 0, none⟩ = some (.slice (some ⟨g, 0, none⟩) (L.length + 1) cap) ∧
      Hid ((∃ vr' mv', Tb w5 p vr' mv' (L ++ [t]) (ext G w w5)) ∧ Fr G w w5) := by
  have hltU : ∀ k, G' k → k < U.heap.size := fun k hk => ext_lt h.lt hf.size k (hG2 k hk)
  obtain ⟨g, cap, w3, w5, h1, h2, h3, h4, h5, h6, h7, _, h8, h9, ⟨vr', mv', hT⟩, hF⟩ := add_key (u := U.drew) (b := w.heap.size) t hp hrow hm hGm (hG p h.self) (fun k hk => ⟨hG k (h.rowIn k hk).1, (h.rowIn k hk).2, hrm k hk⟩) hltU hb hGb hn hl
  have hF2 : Fr G w w5 := hf.drew.trans hF (fun k hk hk' => by
    rcases hG2 k hk' with h | h
    · exact h
    · omega)
  have hsU : U.heap.size ≤ w5.heap.size := hF.size
  refine ⟨by rw [cell_of_row U p 0 _ _ _ hp]; rfl, by rw [cell_of_row U _ 0 _ _ _ hb]; rfl, by rw [cell_of_row U _ 1 _ _ _ hb]; rfl, by rw [cell_of_row U _ 2 _ _ _ hb]; rfl, g, cap, w3, w5, h1, h2, h3, h4, h5, h6, h7, h8, h9, ⟨vr', mv', hT.more (fun k hk => ?_) (ext_lt h.lt hF2.size)⟩, hF2⟩
  have hsw : w.heap.size ≤ U.heap.size := hf.size
  rcases hk with hk | hk
  · rcases hG2 k hk with h | h
    · exact Or.inl h
    · exact Or.inr ⟨h.1, by omega⟩
  · have : U.heap.size ≤ k := hk.1
    exact Or.inr ⟨by omega, hk.2⟩

set_option maxHeartbeats 2000000 in
theorem add_any {p : Nat} {vr mv : Value} {L : List Tm} {G : Nat → Prop} (t : Tm) {w : World} (h : Tb w p vr mv L G) (hn : find L t 0 = none) (hs : t.2.1.size ≤ 281474976710656) (hl : L.length ≤ 1000000) :
    Calls Tryd.prog 28 #[.pointer (some ⟨p, 0, none⟩), .agg #[.int .i64 t.1, .string t.2.1, .int .i64 t.2.2]] w fun e w' => e = .returned (.int .i64 ((L.length : Int) + 1)) ∧ (∃ vr' mv', Tb w' p vr' mv' (L ++ [t]) (ext G w w')) ∧ Fr G w w' := by
  have hplt := h.lt p h.self
  have hpb : ¬ p = w.heap.size := by omega
  have hpb' : ¬ w.heap.size = p := by omega
  have hmm := @run_makeMap Tryd.prog
  have he1 := eqlSome
  have he2 := eqlNil
  have HB : ∀ w1, Below (w.heap.size + 1) (w.alloc (.cells #[.int .i64 t.1, .string t.2.1, .int .i64 t.2.2] 23)) w1 → w1.cell? ⟨w.heap.size, 0, none⟩ = some (.int .i64 t.1) ∧ w1.cell? ⟨w.heap.size, 1, none⟩ = some (.string t.2.1) ∧ w1.cell? ⟨w.heap.size, 2, none⟩ = some (.int .i64 t.2.2) ∧ w1.frozen? ⟨w.heap.size, 1, none⟩ = false ∧ w1.cell? ⟨p, 0, none⟩ = some vr ∧ w1.cell? ⟨p, 1, none⟩ = some mv ∧ w1.frozen? ⟨p, 1, none⟩ = false ∧ w1.frozen? ⟨p, 0, none⟩ = false := by
    intro w1 hb1
    have hx : w1.heap[w.heap.size]? = some (.cells #[.int .i64 t.1, .string t.2.1, .int .i64 t.2.2] 23 (0, 0)) := by rw [hb1.block _ (by omega)]; exact heap_alloc_new _ _
    have hp1 : w1.heap[p]? = some (.cells #[vr, mv] 48 (0, 0)) := by rw [hb1.block _ (by omega), (below_box w _).block p hplt]; exact h.heap
    exact ⟨by rw [cell_of_row w1 _ 0 _ _ _ hx]; rfl, by rw [cell_of_row w1 _ 1 _ _ _ hx]; rfl, by rw [cell_of_row w1 _ 2 _ _ _ hx]; rfl, by simp [World.frozen?, hx], by rw [cell_of_row w1 _ 0 _ _ _ hp1]; rfl, by rw [cell_of_row w1 _ 1 _ _ _ hp1]; rfl, by simp [World.frozen?, hp1], by simp [World.frozen?, hp1]⟩
  have HB' : Hid _ := HB
  rcases h.ids with ⟨rfl, rfl, rfl⟩ | ⟨m, rfl, hm, hGm, hvm, hL0⟩
  · have H : Hid (_) := h
    clear h HB
    go_enter Tryd.func28, Tryd.ntmps28
    go_wp2_with fail
    refine (clone_any _ _ hs).mono ?_
    rintro e w1 ⟨rfl, hb1⟩
    have hb1' : Hid (Below (w.heap.size + 1) (w.alloc (.cells #[.int .i64 t.1, .string t.2.1, .int .i64 t.2.2] 23)) w1) := by
      show Below _ _ _
      simpa using hb1
    clear hb1
    obtain ⟨d0, d1, d2, d3, d4, d5, d6, d7⟩ := HB'.out _ hb1'.out
    have f1 : ∀ o, ((w1.setCell ⟨w.heap.size, 1, none⟩ (.string t.2.1)).alloc o).cell? ⟨p, 1, none⟩ = some (.map none) := fun o => by
      have hx : (w1.setCell ⟨w.heap.size, 1, none⟩ (.string t.2.1)).cell? ⟨p, 1, none⟩ = some (.map none) := (Fr.one w1 w.heap.size 1 (.string t.2.1)).cell d5 hpb
      exact (World.cell?_of_block ((below_box _ o).block p (World.block_lt_of_cell? _ _ hx))).trans hx
    have f2 : ∀ o, ((w1.setCell ⟨w.heap.size, 1, none⟩ (.string t.2.1)).alloc o).frozen? ⟨p, 1, none⟩ = false := fun o => by
      have hx : (w1.setCell ⟨w.heap.size, 1, none⟩ (.string t.2.1)).cell? ⟨p, 1, none⟩ = some (.map none) := (Fr.one w1 w.heap.size 1 (.string t.2.1)).cell d5 hpb
      rw [Fr.frozen (F := fun _ => False) (Fr.of_below (below_box _ o)) hx (fun h => h), Fr.frozen (Fr.one w1 w.heap.size 1 (.string t.2.1)) d5 hpb]
      exact d6
    have HF1 : Hid (Fr G w w1) := (Fr.of_below (F := G) (below_box w _)).trans (G := fun _ => False) (Fr.of_below (by simpa using hb1'.out)) (fun _ _ h => h.elim)
    have hb0 := hb1'.out
    have hs1 : w.heap.size + 1 ≤ w1.heap.size := by have := hb0.size; simpa using this
    have hX : (w1.setCell ⟨w.heap.size, 1, none⟩ (.string t.2.1)).heap.size = w1.heap.size := setCell_size _ _ _
    have hXa : ((w1.setCell ⟨w.heap.size, 1, none⟩ (.string t.2.1)).alloc (.map #[] 0)).heap.size = w1.heap.size + 1 := by simp
    have hpX : ((w1.setCell ⟨w.heap.size, 1, none⟩ (.string t.2.1)).alloc (.map #[] 0)).heap[p]? = some (.cells #[.slice none 0 0, .map none] 48 (0, 0)) := by
      rw [(below_box _ _).block p (by omega), setCell_self d1, hb0.block p (by omega), (below_box w _).block p hplt]
      exact H.out.heap
    have hfU : Fr G w (((w1.setCell ⟨w.heap.size, 1, none⟩ (.string t.2.1)).alloc (.map #[] 0)).setCell ⟨p, 1, none⟩ (.map (some w1.heap.size))) :=
      ((HF1.out.setCell (p := ⟨w.heap.size, 1, none⟩) (fun hh => absurd hh (Nat.lt_irrefl _)) _).alloc _).setCell (p := ⟨p, 1, none⟩) (fun _ => H.out.self) _
    have HU := add_tail (U := ((w1.setCell ⟨w.heap.size, 1, none⟩ (.string t.2.1)).alloc (.map #[] 0)).setCell ⟨p, 1, none⟩ (.map (some w1.heap.size))) (m := w1.heap.size) (G' := fun k => G k ∨ k = w1.heap.size) t H.out hfU (fun k hk => Or.inl hk) (fun k hk => by
        rcases hk with hk | hk
        · exact Or.inl hk
        · exact Or.inr ⟨by omega, by rw [setCell_size, hXa]; omega⟩) (by rw [heap_set hpX]; rfl) ⟨by simp [cellsT], .inl ⟨rfl, rfl⟩⟩ (by
        rw [(Fr.one _ p 1 _).block _ (by omega) (by omega), ← hX]
        exact heap_alloc_new _ _) (Or.inr rfl) (fun k hk => by simp [Value.ownBlock] at hk) (by
        rw [(Fr.one _ p 1 _).block _ (by omega) hpb', (below_box _ _).block _ (by omega), setCell_self d1, hb0.block _ (by omega)]
        exact heap_alloc_new _ _) (fun hk => by
        rcases hk with hk | hk
        · have := H.out.lt _ hk; omega
        · omega) hn hl
    clear hb0 hX hXa hpX hfU
    go_wp2_with fail
    generalize ((w1.setCell ⟨w.heap.size, 1, none⟩ (.string t.2.1)).alloc (.map #[] 0)).setCell ⟨p, 1, none⟩ (.map (some w1.heap.size)) = U at *
    obtain ⟨u0, u1, u2, u3, g, cap, w3, w5, hap, ⟨x, hx⟩, k1, kf, b0, b1, b2, hupd, k5, HX⟩ := HU
    clear f1 f2 d0 d1 d2 d3 d4 d5 d6 d7 HB' hb1'
    have ua0 : ∀ ob, (U.alloc ob).cell? ⟨p, 0, none⟩ = _ := fun ob => (World.cell?_of_block ((below_box _ ob).block p (World.block_lt_of_cell? _ _ u0))).trans u0
    go_region_law (refine step_append_run rfl (.tmp 22) (.tmp 24) 29 29 rfl (.slice none 0 0) (.slice (some ⟨U.heap.size, 0, none⟩) 1 1) (by simp [Act.eval]) (by simp [Act.eval]) (hap _) ?_)
    all_goals simp only [List.length_nil, Nat.zero_add, Int.ofNat_zero, Int.zero_add] at hupd k5
    all_goals go_wp2_with fail
    all_goals go_region
    all_goals go_wp2
    all_goals go_ret
    all_goals exact ⟨rfl, HX.out.1, HX.out.2⟩
  · have H : Hid (_) := h
    have hsh := h.shape
    clear h HB
    go_enter Tryd.func28, Tryd.ntmps28
    go_wp2_with fail
    refine (clone_any _ _ hs).mono ?_
    rintro e w1 ⟨rfl, hb1⟩
    have hb1' : Hid (Below (w.heap.size + 1) (w.alloc (.cells #[.int .i64 t.1, .string t.2.1, .int .i64 t.2.2] 23)) w1) := by
      show Below _ _ _
      simpa using hb1
    clear hb1
    obtain ⟨d0, d1, d2, d3, d4, d5, d6, d7⟩ := HB'.out _ hb1'.out
    have HF1 : Hid (Fr G w w1) := (Fr.of_below (F := G) (below_box w _)).trans (G := fun _ => False) (Fr.of_below (by simpa using hb1'.out)) (fun _ _ h => h.elim)
    have hb0 := hb1'.out
    have hs1 : w.heap.size + 1 ≤ w1.heap.size := by have := hb0.size; simpa using this
    have kp : ∀ k, k < w.heap.size → (w1.setCell ⟨w.heap.size, 1, none⟩ (.string t.2.1)).heap[k]? = w.heap[k]? := fun k hk => by
      rw [setCell_self d1, hb0.block k (by omega), (below_box w _).block k hk]
    have hfU : Fr G w (w1.setCell ⟨w.heap.size, 1, none⟩ (.string t.2.1)) := HF1.out.setCell (p := ⟨w.heap.size, 1, none⟩) (fun hh => absurd hh (Nat.lt_irrefl _)) _
    have hmlt := H.out.lt m hGm
    have HU := add_tail (U := w1.setCell ⟨w.heap.size, 1, none⟩ (.string t.2.1)) (m := m) (G' := G) t H.out hfU (fun k hk => hk) (fun k hk => Or.inl hk) ((kp p hplt).trans H.out.heap)
      (own_kept (F := fun k => w.heap.size ≤ k) H.out.row ⟨hfU.os, hfU.tape, hfU.output, hfU.size, fun k hk _ => kp k hk⟩ (fun k hk hle => by have := H.out.lt k (H.out.rowIn k hk).1; omega)) ((kp m hmlt).trans hm) hGm (fun k hk e => hvm (e ▸ hk)) (by
        rw [setCell_self d1, hb0.block _ (by omega)]
        exact heap_alloc_new _ _) (fun hk => by have := H.out.lt _ hk; omega) hn hl
    have u1' : (w1.setCell ⟨w.heap.size, 1, none⟩ (.string t.2.1)).cell? ⟨p, 1, none⟩ = some (.map (some m)) := by
      rw [World.cell?_of_block (setCell_self d1 p)]
      exact d5
    clear hb0 hfU kp
    go_wp2_with fail
    generalize w1.setCell ⟨w.heap.size, 1, none⟩ (.string t.2.1) = U at *
    obtain ⟨u0, u1, u2, u3, g, cap, w3, w5, hap, ⟨x, hx⟩, k1, kf, b0, b1, b2, hupd, k5, HX⟩ := HU
    clear d0 d1 d2 d3 d4 d5 d6 d7 HB' hb1'
    rcases hsh with ⟨rfl, hz⟩ | ⟨gr, capr, rfl, _⟩
    · omega
    · have ua0 : ∀ ob, (U.alloc ob).cell? ⟨p, 0, none⟩ = _ := fun ob => (World.cell?_of_block ((below_box _ ob).block p (World.block_lt_of_cell? _ _ u0))).trans u0
      go_region_law (refine step_append_run rfl (.tmp 22) (.tmp 24) 29 29 rfl (.slice (some ⟨gr, 0, none⟩) L.length capr) (.slice (some ⟨U.heap.size, 0, none⟩) 1 1) (by simp [Act.eval]) (by simp [Act.eval]) (hap _) ?_)
      all_goals go_wp2_with fail
      all_goals go_region
      all_goals go_wp2
      all_goals go_ret
      all_goals exact ⟨rfl, HX.out.1, HX.out.2⟩

end Go.Proofs.YtcmjfgjnemifbaaDoor
namespace Go.Proofs.YtcmjfgjnemifbaaDoor
open Go.RowKit

def mayM (t : Tm) : Bool := mayT t.1 t.2.1 t.2.2
/-- What comes back, and the list behind it. -/
def idN (L : List Tm) (t : Tm) : Nat := if mayM t = true then (match find L t 0 with | some q => q + 1 | none => L.length + 1) else 0
def addT (L : List Tm) (t : Tm) : List Tm := if mayM t = true ∧ find L t 0 = none then L ++ [t] else L

theorem id_nil (t : Tm) (w : World) : Calls Tryd.prog 18 #[.pointer none, .agg #[.int .i64 t.1, .string t.2.1, .int .i64 t.2.2]] w fun e w' => e = .returned (.int .i64 0) ∧ Below w.heap.size w w' := by
  go_enter Tryd.func18, Tryd.ntmps18
  go_wp2
  go_ret
  exact ⟨rfl, below_box _ _⟩

set_option maxHeartbeats 2000000 in
theorem id_any {p : Nat} {vr mv : Value} {L : List Tm} {G : Nat → Prop} (t : Tm) {w : World} (h : Tb w p vr mv L G) (hs : t.2.1.size ≤ 281474976710656) (hl : L.length ≤ 1000000) :
    Calls Tryd.prog 18 #[.pointer (some ⟨p, 0, none⟩), .agg #[.int .i64 t.1, .string t.2.1, .int .i64 t.2.2]] w fun e w' => e = .returned (.int .i64 (idN L t : Int)) ∧ (∃ vr' mv', Tb w' p vr' mv' (addT L t) (ext G w w')) ∧ Fr G w w' := by
  have hplt := h.lt p h.self
  have HB : ∀ w1, Below (w.heap.size + 1) (w.alloc (.cells #[.int .i64 t.1, .string t.2.1, .int .i64 t.2.2] 23)) w1 → w1.cell? ⟨w.heap.size, 0, none⟩ = some (.int .i64 t.1) ∧ w1.cell? ⟨w.heap.size, 1, none⟩ = some (.string t.2.1) ∧ w1.cell? ⟨w.heap.size, 2, none⟩ = some (.int .i64 t.2.2) ∧ Tb w1 p vr mv L G ∧ Below w.heap.size w w1 := by
    intro w1 hb1
    have hx : w1.heap[w.heap.size]? = some (.cells #[.int .i64 t.1, .string t.2.1, .int .i64 t.2.2] 23 (0, 0)) := by rw [hb1.block _ (by omega)]; exact heap_alloc_new _ _
    have hbw : Below w.heap.size w w1 := (below_box w _).trans (hb1.mono (by omega))
    exact ⟨by rw [cell_of_row w1 _ 0 _ _ _ hx]; rfl, by rw [cell_of_row w1 _ 1 _ _ _ hx]; rfl, by rw [cell_of_row w1 _ 2 _ _ _ hx]; rfl, h.below hbw, hbw⟩
  have hself : ∀ w', Below w.heap.size w w' → (∃ vr' mv', Tb w' p vr' mv' L (ext G w w')) ∧ Fr G w w' := fun w' hb => ⟨⟨_, _, (h.below hb).more (fun k hk => Or.inl hk) (ext_lt h.lt hb.size)⟩, Fr.of_below hb⟩
  have HB' : Hid _ := HB
  have HS : Hid _ := hself
  clear HB hself
  cases hm : mayM t with
  | false =>
    have e1 : idN L t = 0 := by simp [idN, hm]
    have e2 : addT L t = L := by simp [addT, hm]
    have hm' : mayT t.1 t.2.1 t.2.2 = false := hm
    rw [e1, e2]
    clear h hm e1 e2
    go_enter Tryd.func18, Tryd.ntmps18
    go_wp2_with (go_at_call 9; refine (may_any _ _ _ _).mono ?_; rintro e w1 ⟨rfl, hb1⟩; rw [hm'])
    go_ret
    exact ⟨rfl, HS.out _ (HB'.out _ (by simpa using hb1)).2.2.2.2⟩
  | true =>
    have hm' : mayT t.1 t.2.1 t.2.2 = true := hm
    have HL : ∀ w1, Tb w1 p vr mv L G → (Instr.lookup 46 mv (.agg #[.int .i64 t.1, .string t.2.1, .int .i64 t.2.2]) true).run Tryd.prog w1.drew = .ok (.tuple #[.int .i64 (idOf L t : Int), .bool (find L t 0).isSome]) w1.drew := by
      intro w1 h1
      rcases h1.ids with ⟨rfl, rfl, rfl⟩ | ⟨m, rfl, hmm, _⟩
      · exact run_lookup23_nil t _
      · exact run_lookup23 t L _ m w1.drew hmm
    have HL' : Hid _ := HL
    clear HL
    cases hf : find L t 0 with
    | some q =>
      have e1 : idN L t = q + 1 := by simp [idN, hm, hf]
      have e2 : addT L t = L := by simp [addT, hf]
      have e3 : idOf L t = q + 1 := by simp [idOf, hf]
      rw [e1, e2]
      rw [e3, hf] at HL'
      clear h hm e1 e2 e3
      go_enter Tryd.func18, Tryd.ntmps18
      go_wp2_with fail
      refine (may_any _ _ _ _).mono ?_
      rintro e w1 ⟨rfl, hb1⟩
      rw [hm']
      obtain ⟨d0, d1, d2, hT, hbw⟩ := HB'.out _ (by simpa using hb1)
      have hl1 := HL'.out _ hT
      have HX : Hid _ := HS.out w1.drew ⟨hbw.os, hbw.tape, hbw.output, hbw.size, hbw.block⟩
      obtain ⟨c0, c1, _⟩ := hT.cells
      clear hT hb1 hbw
      simp only [Option.isSome_some] at hl1
      rw [show ((q + 1 : Nat) : Int) = (q : Int) + 1 by omega] at hl1
      go_wp2_with fail
      go_region
      go_wp2
      go_ret
      exact ⟨rfl, HX.out⟩
    | none =>
      have e1 : idN L t = L.length + 1 := by simp [idN, hm, hf]
      have e2 : addT L t = L ++ [t] := by simp [addT, hm, hf]
      have e3 : idOf L t = 0 := by simp [idOf, hf]
      rw [e1, e2]
      rw [e3, hf] at HL'
      have HA : ∀ w1, Below w.heap.size w w1 → Tb w1 p vr mv L G → Calls Tryd.prog 28 #[.pointer (some ⟨p, 0, none⟩), .agg #[.int .i64 t.1, .string t.2.1, .int .i64 t.2.2]] w1.drew fun e w' => e = .returned (.int .i64 ((L.length : Int) + 1)) ∧ (∃ vr' mv', Tb w' p vr' mv' (L ++ [t]) (ext G w w')) ∧ Fr G w w' := by
        intro w1 hbw hT
        have hT' : Tb w1.drew p vr mv L G := hT.kept (F := fun _ => False) (Fr.refl _ _).drew (fun _ _ h => h)
        refine (add_any t hT' hf hs hl).mono ?_
        rintro e w' ⟨rfl, ⟨vr', mv', hT2⟩, hF⟩
        have hs1 : w.heap.size ≤ w1.heap.size := hbw.size
        refine ⟨rfl, ⟨vr', mv', hT2.more (fun k hk => ?_) (ext_lt h.lt (Nat.le_trans hs1 hF.size))⟩, (Fr.of_below (F := G) hbw).drew.trans hF (fun _ _ h => h)⟩
        rcases hk with hk | hk
        · exact Or.inl hk
        · have h1 : w1.heap.size ≤ k := hk.1
          exact Or.inr ⟨by omega, hk.2⟩
      have HA' : Hid _ := HA
      clear HA
      clear h hm e1 e2 e3
      go_enter Tryd.func18, Tryd.ntmps18
      go_wp2_with fail
      refine (may_any _ _ _ _).mono ?_
      rintro e w1 ⟨rfl, hb1⟩
      rw [hm']
      obtain ⟨d0, d1, d2, hT, hbw⟩ := HB'.out _ (by simpa using hb1)
      have hl1 := HL'.out _ hT
      have HX : Hid _ := HA'.out _ hbw hT
      obtain ⟨c0, c1, _⟩ := hT.cells
      clear hT hb1 hbw
      simp only [Option.isSome_none, Int.ofNat_zero] at hl1
      go_wp2_with fail
      go_region
      go_wp2_with (go_at_call 28; refine Calls.mono HX.out ?_; rintro e w2 ⟨rfl, h2, h3⟩)
      go_ret
      exact ⟨rfl, h2, h3⟩

end Go.Proofs.YtcmjfgjnemifbaaDoor
namespace Go.Proofs.YtcmjfgjnemifbaaDoor
open Go.RowKit

def tA : Tm := (3, ⟨#[]⟩, 5)
def tB : Tm := (2, ⟨#[120]⟩, 0)

/-- What the steps go by: the two constants' cells and the table behind them. -/
structure Bg (w W : World) (L : List Tm) : Prop where
  a : W.heap[w.heap.size]? = some (.cells #[.int .i64 3, .string ⟨#[]⟩, .int .i64 5] 23 (0, 0))
  b : W.heap[w.heap.size + 1]? = some (.cells #[.int .i64 2, .string ⟨#[120]⟩, .int .i64 0] 23 (0, 0))
  t : ∃ vr mv G, Tb W (w.heap.size + 2) vr mv L G ∧ ∀ k, G k → w.heap.size + 2 ≤ k
  below : Below w.heap.size w W
theorem Bg.fr {w W W' : World} {L : List Tm} (h : Bg w W L) {G : Nat → Prop} (hG : ∀ k, G k → w.heap.size + 2 ≤ k) (hf : Fr G W W') {L' : List Tm} (ht : ∃ vr mv G, Tb W' (w.heap.size + 2) vr mv L' G ∧ ∀ k, G k → w.heap.size + 2 ≤ k) : Bg w W' L' := by
  have h1 : w.heap.size < W.heap.size := (Array.getElem?_eq_some_iff.1 h.a).1
  have h2 : w.heap.size + 1 < W.heap.size := (Array.getElem?_eq_some_iff.1 h.b).1
  refine ⟨by rw [hf.block _ h1 (fun hg => by have := hG _ hg; omega)]; exact h.a, by rw [hf.block _ h2 (fun hg => by have := hG _ hg; omega)]; exact h.b, ht, h.below.trans (hf.below (fun k hk => by have := hG k hk; omega) (by omega))⟩
theorem Bg.keep {w W W' : World} {L : List Tm} (h : Bg w W L) (hb : Below W.heap.size W W') : Bg w W' L := by
  obtain ⟨vr, mv, G, hT, hG⟩ := h.t
  exact h.fr (G := fun _ => False) (fun _ hk => hk.elim) (Fr.of_below hb) ⟨vr, mv, G, hT.below hb, hG⟩
/-- The cells. -/
def Bc (w W : World) : Prop := (W.cell? ⟨w.heap.size, 0, none⟩ = some (.int .i64 3) ∧ W.cell? ⟨w.heap.size, 1, none⟩ = some (.string ⟨#[]⟩) ∧ W.cell? ⟨w.heap.size, 2, none⟩ = some (.int .i64 5)) ∧ W.cell? ⟨w.heap.size + 1, 0, none⟩ = some (.int .i64 2) ∧ W.cell? ⟨w.heap.size + 1, 1, none⟩ = some (.string ⟨#[120]⟩) ∧ W.cell? ⟨w.heap.size + 1, 2, none⟩ = some (.int .i64 0)
theorem Bg.cells {w W : World} {L : List Tm} (h : Bg w W L) : Bc w W := by
  refine ⟨⟨?_, ?_, ?_⟩, ?_, ?_, ?_⟩
  · rw [cell_of_row W _ 0 _ _ _ h.a]; rfl
  · rw [cell_of_row W _ 1 _ _ _ h.a]; rfl
  · rw [cell_of_row W _ 2 _ _ _ h.a]; rfl
  · rw [cell_of_row W _ 0 _ _ _ h.b]; rfl
  · rw [cell_of_row W _ 1 _ _ _ h.b]; rfl
  · rw [cell_of_row W _ 2 _ _ _ h.b]; rfl

theorem bg_id {w W : World} {L : List Tm} (t : Tm) (h : Bg w W L) (hs : t.2.1.size ≤ 100) (hl : L.length ≤ 1000) :
    Calls Tryd.prog 18 #[.pointer (some ⟨w.heap.size + 2, 0, none⟩), .agg #[.int .i64 t.1, .string t.2.1, .int .i64 t.2.2]] W fun e w' => e = .returned (.int .i64 (idN L t : Int)) ∧ Bc w w' ∧ Hid (Bg w w' (addT L t)) := by
  obtain ⟨vr, mv, G, hT, hG⟩ := h.t
  refine (id_any t hT (by omega) (by omega)).mono ?_
  rintro e w' ⟨rfl, ⟨vr', mv', hT'⟩, hF⟩
  have h1 : w.heap.size + 1 < W.heap.size := (Array.getElem?_eq_some_iff.1 h.b).1
  have hB : Bg w w' (addT L t) := h.fr hG hF ⟨vr', mv', _, hT', fun k hk => by
    rcases hk with hk | hk
    · exact hG k hk
    · omega⟩
  exact ⟨rfl, hB.cells, hB⟩

theorem mayA : mayT 3 ⟨#[]⟩ 5 = true := by simp [mayT, Lib.toList_data]
theorem mayB : mayT 2 ⟨#[120]⟩ 0 = true := by decide
theorem idAB : idN [] tB = 1 ∧ addT [] tB = [tB] ∧ idN [tB] tA = 2 ∧ addT [tB] tA = [tB, tA] ∧ idN [tB, tA] tB = 1 ∧ addT [tB, tA] tB = [tB, tA] := by
  have m1 : mayM tA = true := mayA
  have m2 : mayM tB = true := by decide
  have f1 : find [] tB 0 = none := rfl
  have f2 : find [tB] tA 0 = none := by decide
  have f3 : find [tB, tA] tB 0 = some 0 := by simp [find, eqM, eqT]
  simp [idN, addT, m1, m2, f1, f2, f3]

theorem factAB : factS ⟨#[112]⟩ [tA, tB] = ⟨#[112, 40, 53, 44, 32, 120, 41]⟩ := by
  apply bytes_ext
  have h5 : (prt tA).data.toList = [53] := by
    show (Lib.itoa 5) = _
    rw [show (5 : Int) = ((5 : Nat) : Int) by rfl, Lib.itoa_nonneg, Lib.decDigits_one (by omega)]
    rfl
  have hx : (prt tB).data.toList = [120] := rfl
  simp [factS, factL, prtL, h5, hx, Lib.join_cons, Lib.joinTail]

theorem ts_two (W : World) : Ts (W.alloc (.cells #[.int .i64 3, .string ⟨#[]⟩, .int .i64 5, .int .i64 2, .string ⟨#[120]⟩, .int .i64 0] 23)) (.slice (some ⟨W.heap.size, 0, none⟩) 2 2) [tA, tB] := by
  have hg := heap_alloc_new W (.cells #[.int .i64 3, .string ⟨#[]⟩, .int .i64 5, .int .i64 2, .string ⟨#[120]⟩, .int .i64 0] 23)
  refine ⟨_, 2, rfl, Nat.le_refl _, fun _ => ⟨_, _, rfl, fun i hi => ?_⟩⟩
  have : i = 0 ∨ i = 1 := by simp at hi; omega
  rcases this with rfl | rfl
  · exact ⟨by rw [cell_of_row _ _ _ _ _ _ hg]; rfl, by rw [cell_of_row _ _ _ _ _ _ hg]; rfl, by rw [cell_of_row _ _ _ _ _ _ hg]; rfl⟩
  · exact ⟨by rw [cell_of_row _ _ _ _ _ _ hg]; rfl, by rw [cell_of_row _ _ _ _ _ _ hg]; rfl, by rw [cell_of_row _ _ _ _ _ _ hg]; rfl⟩

theorem bg_fact (W : World) : Calls Tryd.prog 22 #[.agg #[.string ⟨#[112]⟩, .slice (some ⟨W.heap.size, 0, none⟩) 2 2]] (W.alloc (.cells #[.int .i64 3, .string ⟨#[]⟩, .int .i64 5, .int .i64 2, .string ⟨#[120]⟩, .int .i64 0] 23)) fun e w' => e = .returned (.string ⟨#[112, 40, 53, 44, 32, 120, 41]⟩) ∧ Below W.heap.size W w' := by
  refine (fact_any ⟨#[112]⟩ _ [tA, tB] _ (ts_two W) (by simp) (by decide) (fun t ht => ?_) (fun t ht h3 => ?_)).mono ?_
  · simp at ht
    rcases ht with rfl | rfl
    · have h5 : (prt tA).data.toList = [53] := by
        show (Lib.itoa 5) = _
        rw [show (5 : Int) = ((5 : Nat) : Int) by rfl, Lib.itoa_nonneg, Lib.decDigits_one (by omega)]
        rfl
      rw [size_list, h5]
      simp
    · decide
  · simp at ht
    rcases ht with rfl | rfl
    · exact .inl (by decide)
    · exact absurd h3 (by decide)
  · rintro e w' ⟨rfl, hb⟩
    rw [factAB]
    exact ⟨rfl, (below_box _ _).trans (hb.mono (by simp))⟩

theorem fld2 (k n : Int) (s : ByteArray) (W : World) : (Instr.field 23 (.agg #[.int .i64 k, .string s, .int .i64 n]) 2).run Tryd.prog W = .ok (.int .i64 n) W := by kernel_rfl
theorem fld0 (k n : Int) (s : ByteArray) (W : World) : (Instr.field 23 (.agg #[.int .i64 k, .string s, .int .i64 n]) 0).run Tryd.prog W = .ok (.int .i64 k) W := by kernel_rfl

set_option maxHeartbeats 1000000 in
theorem begun_any (w : World) : Calls Tryd.prog 7 #[] w fun e w' => e = .returned (.bool true) ∧ Below w.heap.size w w' := by
  have HN : Hid (∀ W, Calls Tryd.prog 17 #[] W fun e w' => e = .returned (.pointer (some ⟨W.heap.size, 0, none⟩)) ∧ w' = W.alloc (.cells #[.slice none 0 0, .map none] 48)) := new_any
  have H0 : Hid (Bg w (((w.alloc (.cells #[.int .i64 3, .string ⟨#[]⟩, .int .i64 5] 23)).alloc (.cells #[.int .i64 2, .string ⟨#[120]⟩, .int .i64 0] 23)).alloc (.cells #[.slice none 0 0, .map none] 48)) []) := by
    refine ⟨?_, ?_, ⟨.slice none 0 0, .map none, fun k => k = w.heap.size + 2, ?_, fun k hk => ?_⟩, ((below_box2 w _ _)).alloc (by simp; omega) _⟩
    · rw [(below_box _ _).block _ (by simp; omega), (below_box _ _).block _ (by simp)]; exact heap_alloc_new _ _
    · rw [(below_box _ _).block _ (by simp)]
      have := heap_alloc_new (w.alloc (.cells #[.int .i64 3, .string ⟨#[]⟩, .int .i64 5] 23)) (.cells #[.int .i64 2, .string ⟨#[120]⟩, .int .i64 0] 23)
      simpa using this
    · have := tb_new ((w.alloc (.cells #[.int .i64 3, .string ⟨#[]⟩, .int .i64 5] 23)).alloc (.cells #[.int .i64 2, .string ⟨#[120]⟩, .int .i64 0] 23))
      simpa using this
    · have hk' : k = w.heap.size + 2 := hk
      omega
  have HM : Hid (∀ W, Hid (Bg w W []) → Calls Tryd.prog 9 #[.agg #[.int .i64 3, .string ⟨#[]⟩, .int .i64 5]] W fun e w' => e = .returned (.bool true) ∧ Bc w w' ∧ Hid (Bg w w' [])) := fun W hW => (may_any 3 5 ⟨#[]⟩ W).mono fun e w' ⟨he, hb⟩ => ⟨by rw [he, mayA], (hW.out.keep hb).cells, hW.out.keep hb⟩
  have HL : Hid (∀ W, Hid (Bg w W []) → Calls Tryd.prog 11 #[.agg #[.int .i64 3, .string ⟨#[]⟩, .int .i64 5], .agg #[.int .i64 2, .string ⟨#[120]⟩, .int .i64 0]] W fun e w' => e = .returned (.bool true) ∧ Bc w w' ∧ Hid (Bg w w' [])) := fun W hW => (less_any 3 2 5 0 ⟨#[]⟩ ⟨#[120]⟩ W (Or.inr rfl) (Or.inl rfl)).mono fun e w' ⟨he, hb⟩ => ⟨by rw [he]; rfl, (hW.out.keep hb).cells, hW.out.keep hb⟩
  have HP : Hid (∀ W, Hid (Bg w W []) → Calls Tryd.prog 15 #[.agg #[.int .i64 2, .string ⟨#[120]⟩, .int .i64 0]] W fun e w' => e = .returned (.string ⟨#[120]⟩) ∧ Bc w w' ∧ Hid (Bg w w' [])) := fun W hW => (print_any tB W (fun h => absurd h (by decide))).mono fun e w' ⟨he, hb⟩ => ⟨by rw [he]; rfl, (hW.out.keep hb).cells, hW.out.keep hb⟩
  have HI1 : Hid (∀ W, Hid (Bg w W []) → Calls Tryd.prog 18 #[.pointer (some ⟨w.heap.size + 2, 0, none⟩), .agg #[.int .i64 2, .string ⟨#[120]⟩, .int .i64 0]] W fun e w' => e = .returned (.int .i64 1) ∧ Bc w w' ∧ Hid (Bg w w' [tB])) := fun W hW => by
    have h := bg_id tB hW.out (by decide) (by simp)
    rw [idAB.1, idAB.2.1] at h
    exact h
  have HI2 : Hid (∀ W, Hid (Bg w W [tB]) → Calls Tryd.prog 18 #[.pointer (some ⟨w.heap.size + 2, 0, none⟩), .agg #[.int .i64 3, .string ⟨#[]⟩, .int .i64 5]] W fun e w' => e = .returned (.int .i64 2) ∧ Bc w w' ∧ Hid (Bg w w' [tB, tA])) := fun W hW => by
    have h := bg_id tA hW.out (by decide) (by simp)
    rw [idAB.2.2.1, idAB.2.2.2.1] at h
    exact h
  have HI3 : Hid (∀ W, Hid (Bg w W [tB, tA]) → Calls Tryd.prog 18 #[.pointer (some ⟨w.heap.size + 2, 0, none⟩), .agg #[.int .i64 2, .string ⟨#[120]⟩, .int .i64 0]] W fun e w' => e = .returned (.int .i64 1) ∧ Bc w w' ∧ Hid (Bg w w' [tB, tA])) := fun W hW => by
    have h := bg_id tB hW.out (by decide) (by simp)
    rw [idAB.2.2.2.2.1, idAB.2.2.2.2.2] at h
    exact h
  have HT : Hid (∀ W, Hid (Bg w W [tB, tA]) → Calls Tryd.prog 20 #[.pointer (some ⟨w.heap.size + 2, 0, none⟩), .int .i64 2] W fun e w' => e = .returned (.agg #[.int .i64 3, .string ⟨#[]⟩, .int .i64 5]) ∧ Bc w w' ∧ Hid (Bg w w' [tB, tA])) := fun W hW => by
    obtain ⟨vr, mv, G, hT, hG⟩ := hW.out.t
    exact (term_any 2 hT (by simp)).mono fun e w' ⟨he, hb⟩ => ⟨by rw [he]; rfl, (hW.out.keep hb).cells, hW.out.keep hb⟩
  have HLn : Hid (∀ W, Hid (Bg w W [tB, tA]) → Calls Tryd.prog 19 #[.pointer (some ⟨w.heap.size + 2, 0, none⟩)] W fun e w' => e = .returned (.int .i64 2) ∧ Bc w w' ∧ Hid (Bg w w' [tB, tA])) := fun W hW => by
    obtain ⟨vr, mv, G, hT, hG⟩ := hW.out.t
    exact (len_any hT).mono fun e w' ⟨he, hw⟩ => ⟨by rw [he]; rfl, by rw [hw]; exact hW.out.cells, by rw [hw]; exact hW⟩
  have HF : Hid (∀ W, Hid (Bg w W [tB, tA]) → Calls Tryd.prog 22 #[.agg #[.string ⟨#[112]⟩, .slice (some ⟨W.heap.size, 0, none⟩) 2 2]] (W.alloc (.cells #[.int .i64 3, .string ⟨#[]⟩, .int .i64 5, .int .i64 2, .string ⟨#[120]⟩, .int .i64 0] 23)) fun e w' => e = .returned (.string ⟨#[112, 40, 53, 44, 32, 120, 41]⟩) ∧ Below w.heap.size w w') := fun W hW => (bg_fact W).mono fun e w' ⟨he, hb⟩ => ⟨he, hW.out.below.trans (hb.mono hW.out.below.size)⟩
  have hfld := fld2 3 5 ⟨#[]⟩
  go_enter Tryd.func7, Tryd.ntmps7
  go_wp2_with fail
  refine (HN.out _).mono ?_
  rintro e w1 ⟨rfl, rfl⟩
  have HG := H0
  clear H0 HN
  go_wp2_with fail
  refine ((HM.out _ HG)).mono ?_
  clear HG HM
  rintro e w1 ⟨rfl, ⟨⟨a0, a1, a2⟩, b0, b1, b2⟩, HG⟩
  go_wp2_with fail
  refine ((HL.out _ HG)).mono ?_
  clear HG HL
  rintro e w1 ⟨rfl, ⟨⟨a0, a1, a2⟩, b0, b1, b2⟩, HG⟩
  go_wp2_with fail
  refine ((HP.out _ HG)).mono ?_
  clear HG HP
  rintro e w1 ⟨rfl, ⟨⟨a0, a1, a2⟩, b0, b1, b2⟩, HG⟩
  go_wp2_with fail
  refine ((HI1.out _ HG)).mono ?_
  clear HG HI1
  rintro e w1 ⟨rfl, ⟨⟨a0, a1, a2⟩, b0, b1, b2⟩, HG⟩
  go_wp2_with fail
  refine ((HI2.out _ HG)).mono ?_
  clear HG HI2
  rintro e w1 ⟨rfl, ⟨⟨a0, a1, a2⟩, b0, b1, b2⟩, HG⟩
  go_wp2_with fail
  refine ((HI3.out _ HG)).mono ?_
  clear HG HI3
  rintro e w1 ⟨rfl, ⟨⟨a0, a1, a2⟩, b0, b1, b2⟩, HG⟩
  go_wp2_with fail
  refine ((HT.out _ HG)).mono ?_
  clear HG HT
  rintro e w1 ⟨rfl, ⟨⟨a0, a1, a2⟩, b0, b1, b2⟩, HG⟩
  go_wp2_with fail
  refine ((HLn.out _ HG)).mono ?_
  clear HG HLn
  rintro e w1 ⟨rfl, ⟨⟨a0, a1, a2⟩, b0, b1, b2⟩, HG⟩
  go_wp2_with fail
  refine (HF.out _ HG).mono ?_
  clear HG HF
  rintro e w1 ⟨rfl, hb⟩
  go_wp2
  go_ret
  exact ⟨rfl, hb⟩

end Go.Proofs.YtcmjfgjnemifbaaDoor

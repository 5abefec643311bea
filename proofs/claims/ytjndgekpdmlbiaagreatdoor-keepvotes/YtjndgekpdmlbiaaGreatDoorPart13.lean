/- readEntries. The reader's Flag, and Read, with where the bytes lie. readSnap. decode. decode: its walk. -/
import Derived.Test.YtjndgekpdmlbiaaGreatDoorPart12
import Derived.Deep.RegionLaw
import Derived.Deep.RegionHeld3
import Derived.Deep.RegionWith
import Derived.Deep.CutRange
import Derived.Deep.CutBlock
namespace Go.Proofs.YtjndgekpdmlbiaaGreatDoor.Kp
open Go.RowKit Bn

theorem Tryz.info65 : (Tryz.prog.info? 65).map (fun i => (i.zero, i.size, i.bytes)) = some (some (.agg #[.int .i64 0, .int .i64 0, .int .i64 0, .slice none 0 0]), 4, 48) := by kernel_rfl

def cellsE (es : List Ent) (us : List Value) : List Value := (es.zip us).flatMap fun t => [.int .i64 t.1.idx, .int .i64 t.1.term, .int .i64 t.1.kind, t.2]
/-- A row of entries of one's own, from b on. -/
def Er (b : Nat) (W : World) (v : Value) (es : List Ent) : Prop :=
  ∃ us : List Value, us.length = es.length ∧ W.ownsRow b 65 4 v es.length (cellsE es us) ∧ ∀ (j : Nat) (e : Ent), es[j]? = some e → ∃ u, us[j]? = some u ∧ W.ownsRow b 5 1 u e.data.length (cells8 e.data)
theorem Er.nil (b : Nat) (W : World) : Er b W (.slice none 0 0) [] := ⟨[], rfl, World.ownsRow_nil _ _ _ _, fun j e h => by simp at h⟩
theorem Er.rd {b B : Nat} {W W' : World} {v : Value} {es : List Ent} (h : Er b W v es) (hg : W.grownBy W' (some B)) (hB : B < b) : Er b W' v es := by
  obtain ⟨us, h1, h2, h3⟩ := h
  refine ⟨us, h1, own_rd h2 hg hB, fun j e hj => ?_⟩
  obtain ⟨u, h4, h5⟩ := h3 j e hj
  exact ⟨u, h4, own_rd h5 hg hB⟩
theorem own_type {W W' : World} {b n m : Nat} {u v : Value} {xs ys : List Value} (h : W.ownsRow b 5 1 u n xs) (hv : W.ownsRow b 65 4 v m ys) (hg : W.grownBy W' v.ownBlock) : W'.ownsRow b 5 1 u n xs := by
  refine ⟨h.1, ?_⟩
  rcases h.2 with h2 | ⟨g, cap, cur, e1, e2, e3, e4⟩
  · exact Or.inl h2
  · refine Or.inr ⟨g, cap, cur, e1, e2, ?_, e4⟩
    rw [hg.block g (lt_of_block e3) (fun e => ?_)]
    · exact e3
    · rcases hv.2 with ⟨rfl, _⟩ | ⟨g', cap', cur', rfl, _, hg', _⟩
      · simp [Value.ownBlock] at e
      · simp [Value.ownBlock] at e
        subst e
        rw [e3] at hg'
        simp at hg'
theorem cellsE_snoc (es : List Ent) (us : List Value) (e : Ent) (u : Value) (h : us.length = es.length) : cellsE (es ++ [e]) (us ++ [u]) = cellsE es us ++ [.int .i64 e.idx, .int .i64 e.term, .int .i64 e.kind, u] := by
  rw [cellsE, List.zip_append h.symm, List.flatMap_append]
  rfl
theorem Er.push {b : Nat} {W W' : World} {v v' u : Value} {es : List Ent} {us : List Value} {e : Ent} (h1 : us.length = es.length) (h2 : W.ownsRow b 65 4 v es.length (cellsE es us)) (h3 : ∀ (j : Nat) (e : Ent), es[j]? = some e → ∃ u, us[j]? = some u ∧ W.ownsRow b 5 1 u e.data.length (cells8 e.data))
    (hu : W.ownsRow b 5 1 u e.data.length (cells8 e.data)) (hO : W'.ownsRow b 65 4 v' (es.length + 1) (cellsE es us ++ [.int .i64 e.idx, .int .i64 e.term, .int .i64 e.kind, u])) (hg : W.grownBy W' v.ownBlock) : Er b W' v' (es ++ [e]) := by
  refine ⟨us ++ [u], by simp [h1], by rw [cellsE_snoc es us e u h1, List.length_append]; exact hO, fun j x hj => ?_⟩
  by_cases hlt : j < es.length
  · rw [List.getElem?_append_left hlt] at hj
    obtain ⟨y, h4, h5⟩ := h3 j x hj
    exact ⟨y, by rw [List.getElem?_append_left (by omega)]; exact h4, own_type h5 h2 hg⟩
  · rw [List.getElem?_append_right (by omega)] at hj
    have hj0 : j - es.length = 0 := by
      by_cases h0 : j - es.length = 0
      · exact h0
      · rw [List.getElem?_eq_none (by simp; omega)] at hj; simp at hj
    rw [hj0] at hj
    simp at hj
    subst hj
    exact ⟨u, by rw [List.getElem?_append_right (by omega), h1, hj0]; rfl, own_type hu h2 hg⟩

def lenS (st : R) : Nat := (st.getD []).length
theorem rNum_len (st : R) : lenS (rNum st).2 ≤ lenS st - 1 := by
  cases st with
  | none => simp [rNum, lenS]
  | some bs =>
    cases hn : num bs with
    | none => simp [rNum, hn, lenS]
    | some uk =>
      obtain ⟨u, k⟩ := uk
      obtain ⟨_, h2, _, _⟩ := num_bds hn
      simp [rNum, hn, lenS]
      omega
theorem rText_len (st : R) : lenS (rText st).2 ≤ lenS st - 1 := by
  have h := rNum_len st
  unfold rText
  cases hn : (rNum st).2 with
  | none => simp [lenS]
  | some bs =>
    rw [hn] at h
    simp only [rCut]
    split
    · simp [lenS] at h ⊢; omega
    · simp [lenS]

def lenV : Value → Nat
  | .slice _ n _ => n
  | _ => 0
/-- The state of reading entries: what is read, what is left. -/
def Rs (w : World) (B f0 : Nat) (st0 : R) (wr : World) (v : Value) (es : List Ent) (st : R) : Prop :=
  Rq wr w.heap.size B st ∧ Er w.heap.size wr v es ∧ w.grownBy wr (some B) ∧ ∃ f, lenS st ≤ f ∧ es ++ (rdE f st).1 = (rdE f0 st0).1 ∧ (rdE f st).2 = (rdE f0 st0).2

/-- The calls of one round. -/
theorem re_calls {w wr : World} {B f0 : Nat} {st0 st : R} {v : Value} {es : List Ent} (h : Rs w B f0 st0 wr v es st) (hB : B < w.heap.size) (hp : 0 < lenS st) :
    ∃ (e : Ent) (st' : R), lenS st' + 1 ≤ lenS st ∧ Hid (
    Calls Tryz.prog 104 #[.pointer (some ⟨B, 0, none⟩)] wr fun x w1 => x = .returned (.int .i64 e.idx) ∧ Hid (
    Calls Tryz.prog 104 #[.pointer (some ⟨B, 0, none⟩)] w1 fun x w2 => x = .returned (.int .i64 e.term) ∧ Hid (
    Calls Tryz.prog 104 #[.pointer (some ⟨B, 0, none⟩)] w2 fun x w3 => x = .returned (.int .i64 e.kind) ∧ Hid (
    Calls Tryz.prog 105 #[.pointer (some ⟨B, 0, none⟩)] (w3.alloc (.cells #[.int .i64 e.idx, .int .i64 e.term, .int .i64 e.kind, .slice none 0 0] 65)) fun x w5 => ∃ ad ld cd, x = .returned (.slice ad ld cd) ∧
      w5.cell? ⟨w3.heap.size, 0, none⟩ = some (.int .i64 e.idx) ∧ w5.cell? ⟨w3.heap.size, 1, none⟩ = some (.int .i64 e.term) ∧ w5.cell? ⟨w3.heap.size, 2, none⟩ = some (.int .i64 e.kind) ∧ w5.cell? ⟨w3.heap.size, 3, none⟩ = some (.slice none 0 0) ∧ w5.frozen? ⟨w3.heap.size, 3, none⟩ = false ∧ Hid (w.heap.size ≤ w5.heap.size) ∧
      Hid (∃ us, us.length = es.length ∧ ∀ o, ((w5.setCell ⟨w3.heap.size, 3, none⟩ (.slice ad ld cd)).alloc o).ownsRow w.heap.size 65 4 v es.length (cellsE es us) ∧
        ∀ w8 v', ((w5.setCell ⟨w3.heap.size, 3, none⟩ (.slice ad ld cd)).alloc o).grownBy w8 v.ownBlock → w8.ownsRow w.heap.size 65 4 v' (es.length + 1) (cellsE es us ++ [.int .i64 e.idx, .int .i64 e.term, .int .i64 e.kind, .slice ad ld cd]) → Rs w B f0 st0 w8 v' (es ++ [e]) st'))))) := by
  obtain ⟨hq, he, hg, f, hf, hr1, hr2⟩ := h
  obtain ⟨f', rfl⟩ : ∃ f', f = f' + 1 := ⟨f - 1, by omega⟩
  have hne : ¬ (st.getD []).length = 0 := by simp only [lenS] at hp; omega
  rw [rdE, if_neg hne] at hr1 hr2
  have l1 := rNum_len st
  have l2 := rNum_len (rNum st).2
  have l3 := rNum_len (rNum (rNum st).2).2
  have l4 := rText_len (rNum (rNum (rNum st).2).2).2
  refine ⟨⟨(rNum st).1, (rNum (rNum st).2).1, (rNum (rNum (rNum st).2).2).1, (rText (rNum (rNum (rNum st).2).2).2).1⟩, (rText (rNum (rNum (rNum st).2).2).2).2, by omega, ?_⟩
  refine (qnum_any _ B st wr hq).mono ?_
  rintro x w1 ⟨rfl, q1, g1⟩
  refine ⟨rfl, (qnum_any _ B _ w1 q1).mono ?_⟩
  rintro x w2 ⟨rfl, q2, g2⟩
  refine ⟨rfl, (qnum_any _ B _ w2 q2).mono ?_⟩
  rintro x w3 ⟨rfl, q3, g3⟩
  have g03 : wr.grownBy w3 (some B) := (g1.trans g2).trans g3
  have hs3 : w.heap.size ≤ w3.heap.size := Nat.le_trans hg.size g03.size
  obtain ⟨ob, hob⟩ : ∃ ob, ob = Obj.cells #[.int .i64 (rNum st).1, .int .i64 (rNum (rNum st).2).1, .int .i64 (rNum (rNum (rNum st).2).2).1, .slice none 0 0] 65 (0, 0) := ⟨_, rfl⟩
  have ba := (Below.refl w3.heap.size w3).alloc (Nat.le_refl _) ob
  have hsz4 : (w3.alloc ob).heap.size = w3.heap.size + 1 := by simp
  have hE4 : (w3.alloc ob).heap[w3.heap.size]? = some ob := heap_alloc_new _ _
  refine ⟨rfl, ?_⟩
  show Calls _ _ _ (w3.alloc (Obj.cells #[.int .i64 (rNum st).1, .int .i64 (rNum (rNum st).2).1, .int .i64 (rNum (rNum (rNum st).2).2).1, .slice none 0 0] 65 (0, 0))) _
  rw [← hob]
  refine (qtext_any _ B _ (w3.alloc ob) (q3.below ba)).mono ?_
  rintro x w5 ⟨u, rfl, hu, q5, g5⟩
  obtain ⟨ad, ld, cd, rfl⟩ := Dk.own_slice hu
  have hE5 : w5.heap[w3.heap.size]? = some ob := by rw [g5.block _ (by omega) (by simp; omega)]; exact hE4
  have hE5' := hE5
  rw [hob] at hE5'
  obtain ⟨c0, c1, c2, c3⟩ := four_cells hE5'
  have hs5 : w3.heap.size + 1 ≤ w5.heap.size := by have := g5.size; omega
  refine ⟨ad, ld, cd, rfl, c0, c1, c2, c3, frozen_of_row w5 _ 3 _ 65 hE5', (show w.heap.size ≤ w5.heap.size by omega), ?_⟩
  obtain ⟨us, h1, h2, h3⟩ := he
  obtain ⟨w6, hw6⟩ : ∃ w6, w6 = w5.setCell ⟨w3.heap.size, 3, none⟩ (.slice ad ld cd) := ⟨_, rfl⟩
  have g56 : w5.grownBy w6 (some w3.heap.size) := by rw [hw6]; exact grown_set (grown_refl _ _)
  have g06 : wr.grownBy w6 (some B) := by
    refine ⟨g56.os.trans (g5.os.trans (ba.os.trans g03.os)), g56.tape.trans (g5.tape.trans (ba.tape.trans g03.tape)), g56.output.trans (g5.output.trans (ba.output.trans g03.output)), ?_, fun k hk hne => ?_⟩
    · have a1 := g03.size
      have a2 := g56.size
      omega
    · have a1 := g03.size
      rw [g56.block k (by omega) (by simp; omega), g5.block k (by omega) hne, ba.block k (by omega)]
      exact g03.block k hk hne
  have hu6 : w6.ownsRow w.heap.size 5 1 (.slice ad ld cd) (rText (rNum (rNum (rNum st).2).2).2).1.length (cells8 (rText (rNum (rNum (rNum st).2).2).2).1) := Fr.own_lower (own_rd hu g56 (by omega)) (by omega)
  have b56 : Below w.heap.size w5 w6 := ⟨g56.os, g56.tape, g56.output, g56.size, fun k hk => g56.block k (by omega) (by simp; omega)⟩
  show ∃ us, _
  rw [← hw6]
  refine ⟨us, h1, fun o => ?_⟩
  have h2' := (own_rd h2 g06 hB).alloc o
  refine ⟨h2', fun w8 v' hgr hO => ?_⟩
  have b67 : Below w.heap.size w6 (w6.alloc o) := (Below.refl _ _).alloc (by have := b56.size; omega) o
  have b78 : Below w.heap.size (w6.alloc o) w8 := ⟨hgr.os, hgr.tape, hgr.output, hgr.size, fun k hk => hgr.block k (by have := b56.size; have := b67.size; omega) (fun e => by have := (h2'.lt k e.symm).1; omega)⟩
  have b58 := (b56.trans b67).trans b78
  have b68 := b67.trans b78
  refine ⟨q5.above hB b58, Er.push h1 h2' (fun j x hj => ?_) (hu6.alloc o) hO hgr, ?_, f', by omega, ?_, hr2⟩
  · obtain ⟨y, h4, h5⟩ := h3 j x hj
    exact ⟨y, h4, (own_rd h5 g06 hB).alloc o⟩
  · have g6 := hg.trans g06
    exact ⟨b68.os.trans g6.os, b68.tape.trans g6.tape, b68.output.trans g6.output, Nat.le_trans g6.size b68.size, fun k hk hne => (b68.block k hk).trans (g6.block k hk hne)⟩
  · rw [← hr1]
    simp

theorem news_at (W : World) (a b c d : Value) (n : Nat) (hn : n = W.heap.size) : ∀ j u, ([a, b, c, d] : List Value)[j]? = some u → (W.alloc (.cells #[a, b, c, d] 65)).cell? ((⟨n, 0, none⟩ : Addr).add j) = some u := by
  subst hn
  intro j u hj
  rw [Addr.add_lit, Nat.zero_add, cell_of_row _ _ j _ _ _ (heap_alloc_new _ _)]
  simpa using hj
theorem rdE_none (f : Nat) (st : R) (h : lenS st = 0) : rdE f st = ([], st) := by
  cases f with
  | zero => rfl
  | succ f => rw [rdE, if_pos (show (st.getD []).length = 0 from h)]

set_option maxRecDepth 8000 in
set_option maxHeartbeats 2000000 in
theorem readEntries_any (B : Nat) (st0 : R) (w : World) (h : Rq w w.heap.size B st0) (hl : lenS st0 ≤ 1000000000000) :
    Calls Tryz.prog 110 #[.pointer (some ⟨B, 0, none⟩)] w fun x w' => ∃ ao L cap, x = .returned (.slice ao L cap) ∧ Hid (Rq w' w.heap.size B (rdE (lenS st0) st0).2 ∧ Er w.heap.size w' (.slice ao L cap) (rdE (lenS st0) st0).1 ∧ w.grownBy w' (some B)) := by
  obtain ⟨i, hi, hz, hsize, hby⟩ := info_parts Tryz.info65
  have hB : B < w.heap.size := h.rd.lt
  have H0 : Hid (Rs w B (lenS st0) st0 w (.slice none 0 0) [] st0) := ⟨h, Er.nil _ _, grown_refl _ _, _, Nat.le_refl _, rfl, rfl⟩
  have HLL : Hid (lenS st0 ≤ 1000000000000) := hl
  clear h hl
  go_enter Tryz.func110, Tryz.ntmps110
  go_wp2
  go_loopw [3] (fun v wr => ∃ (es : List Ent) (st : R), lenV v = es.length ∧ es.length + lenS st ≤ lenS st0 ∧ Hid (Rs w B (lenS st0) st0 wr v es st)) (fun v _ => lenS st0 - lenV v)
  case atStart => exact ⟨[], st0, rfl, by simp, H0⟩
  case round =>
    obtain ⟨es, st, hv, hlen, HR⟩ := hrel
    obtain ⟨v, hve⟩ : ∃ v, v = u3 := ⟨_, rfl⟩
    subst hve
    have HV : Hid (lenV v = es.length) := hv
    clear hv
    by_cases hp : 0 < lenS st
    · obtain ⟨e, st', hlt, H1⟩ := re_calls HR.out hB hp
      have hp' : (0 : Int) < (((st.getD []).length : Nat) : Int) := by simp only [lenS] at hp; omega
      go_wp2_with (first
        | (at_builtin; refine wpList_append_own_at _ rfl _ _ 36 rfl w.heap.size 65 i _ 4 48 Tryz.underlying36 hi hz hsize hby rfl (by decide) v es.length (cellsE es us) rfl (H6.out _).1 ⟨w5.heap.size, 0, none⟩ 1 1 [.int .i64 e.idx, .int .i64 e.term, .int .i64 e.kind, .slice ad ld cd] rfl rfl (news_at _ _ _ _ _ _ (by simp)) (fun u hu => by simp at hu; rcases hu with rfl | rfl | rfl | rfl <;> rfl) (by have := HLL.out; simp only [maxLen]; omega) (by have := HLL.out; omega) (by have := HSZ.out; simp; omega) ?_)
        | (go_at_call 106; refine (left_any B st _ HR.out.1.rd).mono ?_; rintro x w0 ⟨rfl, hw⟩; have hw' := hw.symm; subst hw'; clear hw)
        | (go_at_call 104; first
            | (refine Calls.mono H1.out ?_; rintro x w1 ⟨rfl, H2⟩; clear H1)
            | (refine Calls.mono H2.out ?_; rintro x w2 ⟨rfl, H3⟩; clear H2)
            | (refine Calls.mono H3.out ?_; rintro x w3 ⟨rfl, H4⟩; clear H3))
        | (go_at_call 105; refine Calls.mono H4.out ?_; rintro x w5 ⟨ad, ld, cd, rfl, c0, c1, c2, c3, f3, HSZ, H5⟩; clear H4; obtain ⟨us, hus, h6⟩ := H5.out; have H6 : Hid _ := h6; clear h6 H5))
      intro v' w8 hO hg _ _
      have HF : Hid (Rs w B (lenS st0) st0 w8 v' (es ++ [e]) st') := (H6.out _).2 w8 v' hg hO
      obtain ⟨g', cap', rfl⟩ : ∃ g cap, v' = .slice (some ⟨g, 0, none⟩) (es.length + 1) cap := by
        rcases hO.2 with ⟨_, e0⟩ | ⟨g, cap, cur, e1, _⟩
        · omega
        · exact ⟨g, cap, e1⟩
      clear hO hg H6 c0 c1 c2 c3 f3
      go_wp2
      go_roundw
      case rel => exact ⟨es ++ [e], st', by simp [lenV], by simp; omega, HF⟩
      case measure =>
        show lenS st0 - (es.length + 1) < lenS st0 - lenV v
        have := HV.out
        omega
    · have hp' : ¬ (0 : Int) < (((st.getD []).length : Nat) : Int) := by simp only [lenS] at hp; omega
      obtain ⟨hq, he, hgr, f, _, hr1, hr2⟩ := HR.out
      have HE : Hid (Er w.heap.size wr v es) := he
      obtain ⟨us, _, hown, _⟩ := he
      obtain ⟨ao, L, cap, rfl⟩ := Dk.own_slice hown
      rw [rdE_none f st (by omega)] at hr1 hr2
      simp only [List.append_nil] at hr1
      have HQ : Hid (Rq wr w.heap.size B (rdE (lenS st0) st0).2 ∧ Er w.heap.size wr (.slice ao L cap) (rdE (lenS st0) st0).1 ∧ w.grownBy wr (some B)) := by
        show _ ∧ _
        rw [← hr1, ← hr2]
        exact ⟨hq, HE.out, hgr⟩
      clear hq hgr hr1 hr2 hown HE
      go_wp2_with (go_at_call 106; refine (left_any B st _ HR.out.1.rd).mono ?_; rintro x w0 ⟨rfl, hw⟩; have hw' := hw.symm; subst hw'; clear hw)
      go_ret
      exact ⟨_, _, _, rfl, HQ⟩

end Go.Proofs.YtjndgekpdmlbiaaGreatDoor.Kp
namespace Go.Proofs.YtjndgekpdmlbiaaGreatDoor.Kp
open Go.RowKit Bn

theorem Rq.mono {w : World} {b b' B : Nat} {st : Option (List UInt8)} (h : Rq w b B st) (hb : b ≤ b') : Rq w b' B st := by
  obtain ⟨v, h1, h2, h3, h4, h5⟩ := h
  exact ⟨v, h1, h2, h3, h4, fun k hk => Nat.lt_of_lt_of_le (h5 k hk) hb⟩

set_option maxHeartbeats 400000 in
theorem qflag_none (b B : Nat) (w : World) (h : Rq w b B none) :
    Calls Tryz.prog 83 #[.pointer (some ⟨B, 0, none⟩)] w fun e w' => e = .returned (.bool false) ∧ Rq w' b B none ∧ w.grownBy w' (some B) := by
  go_enter Tryz.func83, Tryz.ntmps83
  go_wp2_with (go_at_call 84; refine (ok_any B none _ h.rd).mono ?_; rintro e w' ⟨rfl, rfl⟩)
  go_ret
  exact ⟨rfl, h, grown_refl _ _⟩

set_option maxHeartbeats 400000 in
theorem qflag_empty (b B : Nat) (w : World) (h : Rq w b B (some [])) :
    Calls Tryz.prog 83 #[.pointer (some ⟨B, 0, none⟩)] w fun e w' => e = .returned (.bool false) ∧ Rq w' b B none ∧ w.grownBy w' (some B) := by
  have H : Hid (Rq w b B (some [])) := h
  obtain ⟨v, hB, hv, _, _⟩ := h
  obtain ⟨ao, cap, rfl, _, _⟩ := hv.shape
  obtain ⟨c0, c1, f0, f1⟩ := two_cells hB
  clear hB hv
  go_enter Tryz.func83, Tryz.ntmps83
  go_wp2_with (first
    | (go_at_call 84; refine (ok_any B (some []) _ H.out.rd).mono ?_; rintro e w' ⟨rfl, rfl⟩)
    | (go_at_call 108; refine (fail_q b B (some []) _ H.out).mono ?_; rintro e w' ⟨rfl, hr', hg'⟩))
  go_ret
  exact ⟨rfl, hr', hg'⟩

set_option maxHeartbeats 400000 in
theorem qflag_cons (b B : Nat) (c : UInt8) (r : List UInt8) (w : World) (h : Rq w b B (some (c :: r))) :
    Calls Tryz.prog 83 #[.pointer (some ⟨B, 0, none⟩)] w fun e w' => e = .returned (.bool (rFlag (some (c :: r))).1) ∧ Rq w' b B (rFlag (some (c :: r))).2 ∧ w.grownBy w' (some B) := by
  have H : Hid (Rq w b B (some (c :: r))) := h
  obtain ⟨v, hB, hv, hp, hlim, hkk⟩ := h
  have hlim' : (c :: r).length ≤ 140737488355328 := hlim
  obtain ⟨ao, cap, rfl, hc1, _⟩ := hv.shape
  obtain ⟨cc0, cc1, f0, f1⟩ := two_cells hB
  obtain ⟨g, off, rfl, hcell⟩ := hv.cell (by simp)
  have hx := hcell 0 (by simp)
  rw [Nat.add_zero, show at8 ((some (c :: r)).getD []) 0 = (c.toNat : Int) from rfl] at hx
  have hb2 : (c.toNat : Int) ≤ 255 := by have := UInt8.toNat_lt c; omega
  have hb0 : 0 ≤ (c.toNat : Int) := by omega
  have hcap : r.length + 1 ≤ cap := hc1
  have hne : (((r.length : Int) + 1) == 0) = false := by rw [beq_eq_false_iff_ne]; omega
  have HP : Hid (_) := Rq.put (b := b) hB hv (sl_rest hv 1 (by simp)).1 (sl_rest hv 1 (by simp)).2 (by rw [List.length_drop]; omega) (fun k' hk' => by
    have := hkk g rfl
    split at hk' <;> simp [Value.ownBlock] at hk' <;> omega)
  clear hB hv hcell hp hlim hkk
  simp only [rFlag]
  by_cases h1 : 1 < c.toNat
  · rw [if_pos h1]
    have h1' : (1 : Int) < (c.toNat : Int) := by omega
    go_enter Tryz.func83, Tryz.ntmps83
    go_wp2_with (first
      | (go_at_call 84; refine (ok_any B (some (c :: r)) _ H.out.rd).mono ?_; rintro e w' ⟨rfl, rfl⟩)
      | (go_at_call 108; refine (fail_q b B (some (c :: r)) _ H.out).mono ?_; rintro e w' ⟨rfl, hr', hg'⟩))
    go_ret
    exact ⟨rfl, hr', hg'⟩
  · rw [if_neg h1]
    have h1' : ¬ (1 : Int) < (c.toNat : Int) := by omega
    have HE : Hid (((c.toNat : Int) == 1) = (c == 1)) := by
      show _ = _
      rw [Bool.eq_iff_iff, beq_iff_eq, beq_iff_eq, ← UInt8.toNat_inj]
      show _ ↔ c.toNat = 1
      omega
    go_enter Tryz.func83, Tryz.ntmps83
    go_wp2_with (first
      | (go_at_call 84; refine (ok_any B (some (c :: r)) _ H.out.rd).mono ?_; rintro e w' ⟨rfl, rfl⟩))
    all_goals go_ret
    · have hp := HP.out
      rw [if_pos (by assumption), show cap - 1 = 0 by omega] at hp
      exact ⟨congrArg (fun x => Ending.returned (.bool x)) HE.out, hp⟩
    · have hp := HP.out
      rw [if_neg (by assumption)] at hp
      exact ⟨congrArg (fun x => Ending.returned (.bool x)) HE.out, hp⟩

theorem qflag_any (b B : Nat) (st : Option (List UInt8)) (w : World) (h : Rq w b B st) :
    Calls Tryz.prog 83 #[.pointer (some ⟨B, 0, none⟩)] w fun e w' => e = .returned (.bool (rFlag st).1) ∧ Rq w' b B (rFlag st).2 ∧ w.grownBy w' (some B) := by
  match st, h with
  | none, h => exact qflag_none b B w h
  | some [], h => exact qflag_empty b B w h
  | some (c :: r), h => exact qflag_cons b B c r w h

set_option maxHeartbeats 400000 in
theorem read_q (v : Value) (bs : List UInt8) (w : World) (h : Sl w v bs) (hl : bs.length ≤ 140737488355328) :
    Calls Tryz.prog 82 #[v] w fun e w' => ∃ B, e = .returned (.pointer (some ⟨B, 0, none⟩)) ∧ w.heap.size ≤ B ∧ Hid (Rq w' B B (some bs)) ∧ Hid (Below w.heap.size w w') := by
  obtain ⟨ao, cap, rfl, h1, h2⟩ := h.shape
  go_enter Tryz.func82, Tryz.ntmps82
  go_wp2_with (go_at_call 58; refine (clone_any _ bs _ h hl).mono ?_; rintro e w' ⟨v', rfl, hown, hb⟩; obtain ⟨ao', cap', rfl, hc1', hc2'⟩ := (Sl.of_own hown).shape)
  go_ret
  exact ⟨w'.heap.size, rfl, hb.size, ⟨_, heap_alloc_new _ _, (Sl.of_own hown).alloc _, Pl.of_own hown, hl, fun k hk => (hown.lt k hk).2⟩, hb.alloc hb.size _⟩

end Go.Proofs.YtjndgekpdmlbiaaGreatDoor.Kp
namespace Go.Proofs.YtjndgekpdmlbiaaGreatDoor.Kp
open Go.RowKit Bn

theorem hide {p : Prop} (h : p) : Hid p := h
theorem Tryz.inf3 : (Tryz.prog.info? 3).map (fun i => (i.zero, i.size, i.bytes)) = some (some (.int .i64 0), 1, 8) := by kernel_rfl

/-- One more number at the end of a row. -/
theorem push_int {W : World} {base n : Nat} {v : Value} {xs : List Value} (h : W.ownsRow base 3 1 v n xs) (hl : n ≤ 10000000000000) (hbase : base ≤ W.heap.size) (x : Int) :
    ∃ g cap w3, (∀ ty, (Builtin.append_ #[32, 32] ty #[v, .slice (some ⟨W.heap.size, 0, none⟩) 1 1]).run Tryz.prog (W.alloc (.cells #[.int .i64 x] 3)) = .ok (.slice (some ⟨g, 0, none⟩) (n + 1) cap) w3) ∧
      Hid (w3.ownsRow base 3 1 (.slice (some ⟨g, 0, none⟩) (n + 1) cap) (n + 1) (xs ++ [.int .i64 x])) ∧ Hid (W.grownBy w3 v.ownBlock) := by
  obtain ⟨i, hi, hz, hsize, hbyt⟩ := info_parts Tryz.inf3
  have ha : (W.alloc (.cells #[.int .i64 x] 3)).ownsRow base 3 1 v n xs := h.alloc _
  have H := fun ty => run_append_own_at (P := Tryz.prog) (W.alloc (.cells #[.int .i64 x] 3)) base 32 ty 3 i _ 1 8 Tryz.underlying32 hi hz hsize hbyt rfl (by decide) v n xs ha ⟨W.heap.size, 0, none⟩ 1 1 [.int .i64 x] rfl (fun j u hj => by
    rw [Addr.add_lit, Nat.zero_add, cell_of_row _ _ j _ _ _ (heap_alloc_new _ _)]
    simpa using hj) (by intro u hu; rw [List.mem_singleton.1 hu]; rfl) (by simp only [maxLen]; omega) (by omega) (by simp; omega)
  obtain ⟨v', w', hr, g1, g2, _, g4⟩ := H 0
  have hF : W.grownBy w' v.ownBlock := (World.grownBy_alloc W _ _).trans g2
  rcases Dk.own_shape g1 with ⟨_, h0⟩ | ⟨g', cap, rfl, _⟩
  · omega
  · exact ⟨g', cap, w', fun ty => hr, g1, hF⟩

theorem step_append_run {P : Program} {ops : Array Oper} {o : Oper} {a : Act} {w : World} {K : Act → World → Prop} {Q : Exit → Act → World → Prop} {E : Prop}
    (hg : o.guard = none) (d x : Operand) (dT sT : TypeId) (hop : o.op = Op.call { callee := Callee.builtin Builtin.append, args := #[d, x], argTypes := #[dT, sT] })
    (v u : Value) (hd : a.eval d = v) (hx : a.eval x = u) {v' : Value} {w' : World} (hr : (Builtin.append_ #[dT, sT] o.type #[v, u]).run P w = .ok v' w') (hK : K (a.put o.dst v') w') :
    if Region.wanted o (yielded ops a.tmps) = true then Oper.wp P o a w K Q else E := by
  have hw : Region.wanted o (yielded ops a.tmps) = true := by simp [Region.wanted, hg]
  rw [if_pos hw]
  unfold Oper.wp
  simp [execOp, hop, resolve, invoke, builtin, hd, hx, hr, Result.andThen]
  exact hK
def cI (ns : List Int) : List Value := ns.map fun n => .int .i64 n
/-- A snapshot that is being read: its numbers so far; what is left. -/
def Sn (w : World) (B S : Nat) (W : World) (i t : Int) (vc : Value) (cs : List Int) (st : R) : Prop :=
  Rq W w.heap.size B st ∧ W.heap[S]? = some (Obj.cells #[.int .i64 i, .int .i64 t, vc, .slice none 0 0] 35 (0, 0)) ∧ w.heap.size ≤ S ∧ W.ownsRow w.heap.size 3 1 vc cs.length (cI cs) ∧ w.grownBy W (some B) ∧ B < w.heap.size
/-- A snapshot of one's own. -/
def Sr (b : Nat) (W : World) (S : Nat) (p : Snp) : Prop :=
  ∃ vc vd, W.heap[S]? = some (Obj.cells #[.int .i64 p.idx, .int .i64 p.term, vc, vd] 35 (0, 0)) ∧ b ≤ S ∧ W.ownsRow b 3 1 vc p.conf.length (cI p.conf) ∧ W.ownsRow b 5 1 vd p.data.length (cells8 p.data)
theorem Sn.rd {w W W' : World} {B S : Nat} {i t : Int} {vc : Value} {cs : List Int} {st st' : R} (h : Sn w B S W i t vc cs st) (hq : Rq W' w.heap.size B st') (hg : W.grownBy W' (some B)) : Sn w B S W' i t vc cs st' := by
  obtain ⟨h1, h2, h3, h4, h5, h6⟩ := h
  refine ⟨hq, ?_, h3, own_rd h4 hg h6, h5.trans hg, h6⟩
  rw [hg.block S (lt_of_block h2) (by simp; omega)]
  exact h2
theorem Sn.cells {w W : World} {B S : Nat} {i t : Int} {vc : Value} {cs : List Int} {st : R} (h : Sn w B S W i t vc cs st) : W.cell? ⟨S, 2, none⟩ = some vc ∧ W.frozen? ⟨S, 2, none⟩ = false ∧ W.cell? ⟨S, 3, none⟩ = some (.slice none 0 0) ∧ W.frozen? ⟨S, 3, none⟩ = false := by
  obtain ⟨h1, h2, _⟩ := h
  exact ⟨by rw [cell_of_row W S 2 _ 35 (0, 0) h2]; rfl, frozen_of_row W S 2 _ 35 h2, by rw [cell_of_row W S 3 _ 35 (0, 0) h2]; rfl, frozen_of_row W S 3 _ 35 h2⟩
theorem own_row_ne {W : World} {b n S T : Nat} {v : Value} {xs : List Value} {cs : Array Value} (h : W.ownsRow b 3 1 v n xs) (hS : W.heap[S]? = some (Obj.cells cs T (0, 0))) (hT : T ≠ 3) : v.ownBlock ≠ some S := by
  intro e
  rcases h.2 with ⟨rfl, _⟩ | ⟨g, cap, cur, rfl, _, hg, _⟩
  · simp [Value.ownBlock] at e
  · simp [Value.ownBlock] at e
    subst e
    rw [hg] at hS
    injection hS with hS
    injection hS with _ h3 _
    exact hT h3.symm
/-- One number more. -/
theorem Sn.push {w W : World} {B S : Nat} {i t : Int} {vc : Value} {cs : List Int} {st : R} (h : Sn w B S W i t vc cs st) (hl : cs.length ≤ 10000000000000) (x : Int) :
    ∃ g cap w3, (∀ ty, (Builtin.append_ #[32, 32] ty #[vc, .slice (some ⟨W.heap.size, 0, none⟩) 1 1]).run Tryz.prog (W.alloc (.cells #[.int .i64 x] 3)) = .ok (.slice (some ⟨g, 0, none⟩) (cs.length + 1) cap) w3) ∧
      w3.cell? ⟨S, 2, none⟩ = some vc ∧ w3.frozen? ⟨S, 2, none⟩ = false ∧ Hid (Sn w B S (w3.setCell ⟨S, 2, none⟩ (.slice (some ⟨g, 0, none⟩) (cs.length + 1) cap)) i t (.slice (some ⟨g, 0, none⟩) (cs.length + 1) cap) (cs ++ [x]) st) := by
  obtain ⟨h1, h2, h3, h4, h5, h6⟩ := h
  obtain ⟨g, cap, w3, hap, ho, hg⟩ := push_int h4 hl h5.size x
  have hS := lt_of_block h2
  have hne := own_row_ne h4 h2 (by decide)
  have hS3 : w3.heap[S]? = some (Obj.cells #[.int .i64 i, .int .i64 t, vc, .slice none 0 0] 35 (0, 0)) := by
    rw [hg.out.block S hS (fun e => hne e.symm)]
    exact h2
  have hne3 := own_row_ne ho.out hS3 (by decide)
  have hblk : ∀ k, vc.ownBlock = some k → w.heap.size ≤ k := by
    intro k hk
    rcases h4.2 with ⟨rfl, _⟩ | ⟨g', cap', cur, rfl, hb, _⟩
    · simp [Value.ownBlock] at hk
    · simp [Value.ownBlock] at hk; omega
  have hgr : w.grownBy w3 (some B) := ⟨hg.out.os.trans h5.os, hg.out.tape.trans h5.tape, hg.out.output.trans h5.output, Nat.le_trans h5.size hg.out.size, fun k hk hkB => by
    rw [hg.out.block k (Nat.lt_of_lt_of_le hk h5.size) (fun e => by have := hblk k e.symm; omega)]
    exact h5.block k hk hkB⟩
  have hb3 : Below w.heap.size W w3 := ⟨hg.out.os, hg.out.tape, hg.out.output, hg.out.size, fun k hk => hg.out.block k (Nat.lt_of_lt_of_le hk h5.size) (fun e => by have := hblk k e.symm; omega)⟩
  have hbs : Below w.heap.size w3 (w3.setCell ⟨S, 2, none⟩ (.slice (some ⟨g, 0, none⟩) (cs.length + 1) cap)) := (Below.refl _ w3).setCell (p := ⟨S, 2, none⟩) h3 _
  refine ⟨g, cap, w3, hap, by rw [cell_of_row w3 S 2 _ 35 (0, 0) hS3]; rfl, frozen_of_row w3 S 2 _ 35 hS3, ?_, ?_, h3, ?_, ?_, h6⟩
  · exact h1.above h6 (hb3.trans hbs)
  · rw [heap_setCell_same w3 S 2 _ 35 _ hS3]
    rfl
  · rw [List.length_append]
    have e : cI (cs ++ [x]) = cI cs ++ [.int .i64 x] := by simp [cI]
    rw [e]
    refine ⟨ho.out.1, ?_⟩
    rcases ho.out.2 with hn' | ⟨g', cap', cur, e1, hb', hgg, rest⟩
    · exact .inl hn'
    · refine .inr ⟨g', cap', cur, e1, hb', ?_, rest⟩
      rw [Below.heap_setCell _ _ _ _ (fun e : g' = S => hne3 (by rw [e1, ← e]; rfl))]
      exact hgg
  · exact ⟨hgr.os, hgr.tape, hgr.output, by simpa [World.setCell] using hgr.size, fun k hk hkB => by
      rw [Below.heap_setCell _ _ _ _ (show k ≠ S by omega)]
      exact hgr.block k hk hkB⟩
/-- Behind the data. -/
theorem own_aside {W : World} {b e n S o : Nat} {v x : Value} {xs : List Value} (h : W.ownsRow b e 1 v n xs) (hS : v.ownBlock ≠ some S) : (W.setCell ⟨S, o, none⟩ x).ownsRow b e 1 v n xs := by
  refine ⟨h.1, ?_⟩
  rcases h.2 with hn' | ⟨g', cap', cur, e1, hb', hgg, rest⟩
  · exact .inl hn'
  · refine .inr ⟨g', cap', cur, e1, hb', ?_, rest⟩
    rw [Below.heap_setCell _ _ _ _ (fun e : g' = S => hS (by rw [e1, ← e]; rfl))]
    exact hgg
theorem own_low {W : World} {b b' e s n : Nat} {v : Value} {xs : List Value} (h : W.ownsRow b e s v n xs) (hb : b' ≤ b) : W.ownsRow b' e s v n xs := by
  refine ⟨h.1, ?_⟩
  rcases h.2 with hn' | ⟨g', cap', cur, e1, hb', rest⟩
  · exact .inl hn'
  · exact .inr ⟨g', cap', cur, e1, by omega, rest⟩
theorem own_ge {W : World} {b e s n : Nat} {v : Value} {xs : List Value} (h : W.ownsRow b e s v n xs) : ∀ k, v.ownBlock = some k → b ≤ k := by
  intro k hk
  rcases h.2 with ⟨rfl, _⟩ | ⟨g', cap', cur, rfl, hb, _⟩
  · simp [Value.ownBlock] at hk
  · simp [Value.ownBlock] at hk; omega
theorem Sn.done {w W W5 : World} {B S : Nat} {i t : Int} {vc u : Value} {cs : List Int} {st st' : R} {d : List UInt8} (h : Sn w B S W i t vc cs st) (hq : Rq W5 w.heap.size B st') (hg : W.grownBy W5 (some B)) (hu : W5.ownsRow W.heap.size 5 1 u d.length (cells8 d)) :
    W5.cell? ⟨S, 3, none⟩ = some (.slice none 0 0) ∧ W5.frozen? ⟨S, 3, none⟩ = false ∧ Hid (Rq (W5.setCell ⟨S, 3, none⟩ u) w.heap.size B st' ∧ Sr w.heap.size (W5.setCell ⟨S, 3, none⟩ u) S ⟨i, t, cs, d⟩ ∧ w.grownBy (W5.setCell ⟨S, 3, none⟩ u) (some B)) := by
  obtain ⟨h1, h2, h3, h4, h5, h6⟩ := h
  have hS := lt_of_block h2
  have hS5 : W5.heap[S]? = some (Obj.cells #[.int .i64 i, .int .i64 t, vc, .slice none 0 0] 35 (0, 0)) := by
    rw [hg.block S hS (by simp; omega)]
    exact h2
  have h45 := own_rd h4 hg h6
  have hne := own_row_ne h45 hS5 (by decide)
  have hneu : u.ownBlock ≠ some S := fun e => by have := own_ge hu S e; omega
  have hgr := h5.trans hg
  refine ⟨by rw [cell_of_row W5 S 3 _ 35 (0, 0) hS5]; rfl, frozen_of_row W5 S 3 _ 35 hS5, hq.above h6 ((Below.refl _ W5).setCell (p := ⟨S, 3, none⟩) h3 _), ⟨vc, u, ?_, h3, own_aside h45 hne, own_aside (own_low hu h5.size) hneu⟩, ?_⟩
  · rw [heap_setCell_same W5 S 3 _ 35 _ hS5]
    rfl
  · exact ⟨hgr.os, hgr.tape, hgr.output, by simpa [World.setCell] using hgr.size, fun k hk hkB => by
      rw [Below.heap_setCell _ _ _ _ (show k ≠ S by omega)]
      exact hgr.block k hk hkB⟩

theorem rdC_zero (n : Int) (st : R) (h : ¬ 0 < n) : rdC n.toNat st = ([], st) := by
  rw [show n.toNat = 0 by omega]
  rfl
theorem rdC_none (n : Int) : rdC n.toNat none = ([], none) := by
  cases n.toNat <;> rfl
theorem rdC_step (n : Int) (l : List UInt8) (h : 0 < n) : rdC n.toNat (some l) = ((rNum (some l)).1 :: (rdC (n - 1).toNat (rNum (some l)).2).1, (rdC (n - 1).toNat (rNum (some l)).2).2) := by
  rw [show n.toNat = (n - 1).toNat + 1 by omega, rdC]
  rfl
/-- How far a reader may still go. -/
def goS : R → Nat
  | none => 0
  | some l => l.length + 1
theorem goS_num (l : List UInt8) : goS (rNum (some l)).2 + 1 ≤ goS (some l) := by
  have h := rNum_len (some l)
  cases hn : (rNum (some l)).2 with
  | none => simp [goS]
  | some m =>
    rw [hn] at h
    simp only [goS, lenS, Option.getD_some] at h ⊢
    cases l with
    | nil =>
      have e : (rNum (some [])).2 = none := rfl
      rw [e] at hn
      cases hn
    | cons c r => simp only [List.length_cons] at h ⊢; omega

theorem rNum_bds (st : R) : -9223372036854775808 ≤ (rNum st).1 ∧ (rNum st).1 ≤ 9223372036854775807 := by
  cases st with
  | none => simp [rNum]
  | some bs =>
    cases hn : num bs with
    | none =>
      have e : rNum (some bs) = (0, none) := by simp [rNum, hn]
      rw [e]
      simp
    | some uk =>
      obtain ⟨u, k⟩ := uk
      have e : rNum (some bs) = (zag u, some (bs.drop k)) := by simp [rNum, hn]
      have := num_bds hn
      rw [e]
      show -9223372036854775808 ≤ zag u ∧ zag u ≤ 9223372036854775807
      unfold zag
      split <;> omega

set_option maxRecDepth 8000 in
set_option maxHeartbeats 4000000 in
theorem readSnap_any (B : Nat) (st0 : R) (w : World) (h : Rq w w.heap.size B st0) (hl : lenS st0 ≤ 1000000000000) :
    Calls Tryz.prog 109 #[.pointer (some ⟨B, 0, none⟩)] w fun x w' => ∃ S, x = .returned (.pointer (some ⟨S, 0, none⟩)) ∧ Hid (Rq w' w.heap.size B (rdS st0).2 ∧ Sr w.heap.size w' S (rdS st0).1 ∧ w.grownBy w' (some B)) := by
  have hB : B < w.heap.size := h.rd.lt
  obtain ⟨i, st1, e1⟩ : ∃ i st1, rNum st0 = (i, st1) := ⟨_, _, rfl⟩
  obtain ⟨t, st2, e2⟩ : ∃ t st2, rNum st1 = (t, st2) := ⟨_, _, rfl⟩
  obtain ⟨n0, st3, e3⟩ : ∃ n st3, rNum st2 = (n, st3) := ⟨_, _, rfl⟩
  have hl3 : goS st3 ≤ 1000000000001 := by
    have h1 := rNum_len st0
    have h2 := rNum_len st1
    have h3 := rNum_len st2
    rw [e1] at h1
    rw [e2] at h2
    rw [e3] at h3
    cases st3 with
    | none => simp [goS]
    | some m => simp only [lenS, goS, Option.getD_some] at h1 h2 h3 hl ⊢; omega
  have hn0 : -9223372036854775808 ≤ n0 ∧ n0 ≤ 9223372036854775807 := by
    have := rNum_bds st2
    rw [e3] at this
    exact this
  have HRS : Hid (rdS st0 = (⟨i, t, (rdC n0.toNat st3).1, (rText (rdC n0.toNat st3).2).1⟩, (rText (rdC n0.toNat st3).2).2)) := by
    show _ = _
    simp only [rdS, e1, e2, e3]
  have H1 := hide (qnum_is _ B st0 st1 i w h e1)
  have E2 := hide e2
  have E3 := hide e3
  clear e1 e2 e3 h hl
  go_enter Tryz.func109, Tryz.ntmps109
  go_wp2_with fail
  refine Calls.mono H1.out ?_
  rintro x w1 ⟨rfl, q1, g1⟩
  have Q1 := hide q1
  have G1 := hide g1
  clear q1 g1 H1
  go_wp2_with fail
  refine Calls.mono (qnum_is _ B st1 st2 t w1 Q1.out E2.out) ?_
  rintro x w2 ⟨rfl, q2, g2⟩
  have G2 := hide (G1.out.trans g2)
  have HS2 : Hid (Sn w B w2.heap.size (w2.alloc (.cells #[.int .i64 i, .int .i64 t, .slice none 0 0, .slice none 0 0] 35)) i t (.slice none 0 0) [] st2) :=
    ⟨q2.below ((Below.refl _ _).alloc (Nat.le_refl _) _), heap_alloc_new _ _, (G1.out.trans g2).size, World.ownsRow_nil _ _ _ _, (G1.out.trans g2).trans (World.grownBy_alloc _ _ _), hB⟩
  clear q2 g2 Q1 G1 E2
  obtain ⟨S, hS⟩ : ∃ S, w2.heap.size = S := ⟨_, rfl⟩
  rw [hS] at HS2
  go_wp2_with fail
  refine Calls.mono (qnum_is _ B st2 st3 n0 _ HS2.out.1 E3.out) ?_
  rintro x w3 ⟨rfl, q3, g3⟩
  have HS3 := hide (HS2.out.rd q3 g3)
  clear q3 g3 HS2 E3
  go_wp2_with fail
  go_loopw [4] (fun cv wr => ∃ (n : Int) (vc : Value) (cs : List Int) (st : R), cv = .int .i64 n ∧ (-9223372036854775808 ≤ n ∧ n ≤ 9223372036854775807) ∧ cs.length + goS st ≤ 1000000000001 ∧ Hid (Sn w B S wr i t vc cs st) ∧ Hid (cs ++ (rdC n.toNat st).1 = (rdC n0.toNat st3).1 ∧ (rdC n.toNat st).2 = (rdC n0.toNat st3).2)) (fun cv _ => (intOf cv).toNat)
  case atStart => exact ⟨n0, _, [], st3, rfl, hn0, by simpa using hl3, HS3, rfl, rfl⟩
  case round =>
    obtain ⟨n, vc, cs, st, rfl, hn, hlen, HSn, HC⟩ := hrel
    by_cases hp : 0 < n
    · cases st with
      | none =>
        have HC1 : Hid (cs = (rdC n0.toNat st3).1) := by have := HC.out.1; rw [rdC_none, List.append_nil] at this; exact this
        have HC2 : Hid (none = (rdC n0.toNat st3).2) := by have := HC.out.2; rw [rdC_none] at this; exact this
        go_wp2_with fail
        refine Calls.mono (ok_any B none wr HSn.out.1.rd) ?_
        rintro x w4 ⟨rfl, hw4⟩
        have hw4' := hw4.symm
        subst hw4'
        clear hw4
        go_wp2_with fail
        refine Calls.mono (qtext_any _ B _ wr HSn.out.1) ?_
        rintro x w7 ⟨u, rfl, hu, q7, g7⟩
        obtain ⟨c7, f7, HD7⟩ := HSn.out.done q7 g7 hu
        obtain ⟨ad, ld, cd, rfl⟩ := Dk.own_slice hu
        clear hu q7 g7
        go_wp2_with fail
        go_ret
        refine ⟨S, rfl, ?_⟩
        rw [HRS.out, ← HC2.out, ← HC1.out]
        exact HD7.out
      | some l =>
        obtain ⟨k2, f2, _, _⟩ := HSn.out.cells
        have hgo := goS_num l
        have HCs := hide (rdC_step n l hp)
        obtain ⟨y, st4, e4⟩ : ∃ y st4, rNum (some l) = (y, st4) := ⟨_, _, rfl⟩
        rw [e4] at HCs hgo
        have HQ : Hid (Calls Tryz.prog 104 #[.pointer (some ⟨B, 0, none⟩)] wr.drew fun e w' => e = .returned (.int .i64 y) ∧ Rq w' w.heap.size B st4 ∧ wr.drew.grownBy w' (some B)) := qnum_is _ B (some l) st4 y wr.drew (HSn.out.1.below (Below.refl _ wr).drew) e4
        have HOK := hide (ok_any B (some l) wr HSn.out.1.rd)
        have hsv : ∃ ao cap, vc = .slice ao cs.length cap := by
          obtain ⟨ao, L, cap, rfl⟩ := Dk.own_slice HSn.out.2.2.2.1
          rcases Dk.own_shape HSn.out.2.2.2.1 with ⟨e, h0⟩ | ⟨g, c, e, _⟩
          · rw [e, h0]; exact ⟨_, _, rfl⟩
          · rw [e]; exact ⟨_, _, rfl⟩
        obtain ⟨aoc, capc, rfl⟩ := hsv
        have hcl : cs.length ≤ 10000000000000 := by omega
        have HC7 : Hid ((cs ++ [y]) ++ (rdC (n - 1).toNat st4).1 = (rdC n0.toNat st3).1 ∧ (rdC (n - 1).toNat st4).2 = (rdC n0.toNat st3).2) := by
          have := HC.out
          rw [HCs.out] at this
          exact ⟨by rw [List.append_assoc]; exact this.1, this.2⟩
        clear e4
        go_wp2_with fail
        refine Calls.mono HOK.out ?_
        rintro x w4 ⟨rfl, hw4⟩
        have hw4' := hw4.symm
        subst hw4'
        clear hw4 HOK
        go_wp2_with fail
        refine wp_region_noPanic ?_
        go_region_law (first
            | (go_simp; go_at_call 104; refine Calls.mono HQ.out ?_; rintro e w5 ⟨rfl, q5, g5⟩; have HS5 := hide (HSn.out.rd q5 ((⟨rfl, rfl, rfl, Nat.le_refl _, fun _ _ _ => rfl⟩ : wr.grownBy wr.drew (some B)).trans g5)); obtain ⟨m2, mf, _, _⟩ := HS5.out.cells; have m2a : ∀ o, (w5.alloc o).cell? ⟨S, 2, none⟩ = some (.slice aoc cs.length capc) := fun o => (Below.refl _ w5).alloc (Nat.le_refl _) o |>.cell (cell_lt m2) |>.trans m2; have hpp := HS5.out.push hcl y; obtain ⟨g6, cap6, w6, hap, p2, pf, HS6⟩ := hpp; clear q5 g5)
            | (refine step_append_run (by rfl) (.tmp 25) (.tmp 28) 32 32 (by rfl) _ _ (by rfl) (by rfl) (hap _) ?_))
        all_goals refine NoPanic.normal ?_
        all_goals clear hap m2 mf m2a HQ HSn HC HCs
        all_goals go_wp2_with fail
        all_goals go_roundw
        all_goals first
          | exact ⟨n - 1, _, cs ++ [y], st4, by go_num, by omega, by simp; omega, by simpa using HS6, HC7⟩
          | (simp [intOf]; omega)
    · have HC1 : Hid (cs = (rdC n0.toNat st3).1) := by have := HC.out.1; rw [rdC_zero n st hp, List.append_nil] at this; exact this
      have HC2 : Hid (st = (rdC n0.toNat st3).2) := by have := HC.out.2; rw [rdC_zero n st hp] at this; exact this
      go_wp2_with fail
      refine Calls.mono (qtext_any _ B _ wr HSn.out.1) ?_
      rintro x w7 ⟨u, rfl, hu, q7, g7⟩
      obtain ⟨c7, f7, HD7⟩ := HSn.out.done q7 g7 hu
      obtain ⟨ad, ld, cd, rfl⟩ := Dk.own_slice hu
      clear hu q7 g7
      go_wp2_with fail
      go_ret
      refine ⟨S, rfl, ?_⟩
      rw [HRS.out, ← HC2.out, ← HC1.out]
      exact HD7.out
end Go.Proofs.YtjndgekpdmlbiaaGreatDoor.Kp
namespace Go.Proofs.YtjndgekpdmlbiaaGreatDoor.Kp
open Go.RowKit Bn

def NoU8 (x : Value) : Prop := ∀ n, x ≠ .int .u8 n

/-- A reader at B, behind the six cells of a call at D; nothing of w has turned. -/
def Dc (w : World) (D B : Nat) (a b c d e f : Value) (W : World) (st : R) : Prop :=
  Rq W W.heap.size B st ∧ W.heap[D]? = some (Obj.cells #[a, b, c, d, e, f, .slice none 0 0, .slice none 0 0, .slice none 0 0] 43 (0, 0)) ∧ D = w.heap.size ∧ Below D w W ∧ D < B ∧ NoU8 a ∧ NoU8 b ∧ NoU8 c ∧ NoU8 d ∧ NoU8 e ∧ NoU8 f

theorem Rq.kept {w w' : World} {b B : Nat} {st : R} (h : Rq w b B st) (hB : w'.heap[B]? = w.heap[B]?) (hb : ∀ g o n, w.cell? ⟨g, o, none⟩ = some (.int .u8 n) → w'.heap[g]? = w.heap[g]?) : Rq w' b B st := by
  obtain ⟨v, h1, h2, h3, h4, h5⟩ := h
  exact ⟨v, by rw [hB]; exact h1, h2.kept hb, h3, h4, h5⟩
theorem Dc.six {w W : World} {D B : Nat} {a b c d e f : Value} {st : R} (h : Dc w D B a b c d e f W st) :
    (W.cell? ⟨D, 0, none⟩ = some a ∧ W.cell? ⟨D, 1, none⟩ = some b ∧ W.cell? ⟨D, 2, none⟩ = some c ∧ W.cell? ⟨D, 3, none⟩ = some d ∧ W.cell? ⟨D, 4, none⟩ = some e ∧ W.cell? ⟨D, 5, none⟩ = some f) ∧ ∀ k, W.frozen? ⟨D, k, none⟩ = false :=
  ⟨six_cells h.2.1, fun k => frozen_of_row W D k _ 43 h.2.1⟩
/-- Behind a call of the reader. -/
theorem Dc.rd {w W W' : World} {D B : Nat} {a b c d e f : Value} {st st' : R} (h : Dc w D B a b c d e f W st) (hq : Rq W' W.heap.size B st') (hg : W.grownBy W' (some B)) : Dc w D B a b c d e f W' st' := by
  obtain ⟨_, h2, h3, h4, h5, h6⟩ := h
  refine ⟨hq.mono hg.size, ?_, h3, h4.trans ⟨hg.os, hg.tape, hg.output, hg.size, fun k hk => hg.block k (by have := h4.size; omega) (by simp; omega)⟩, h5, h6⟩
  rw [hg.block D (lt_of_block h2) (by simp; omega)]
  exact h2
theorem cells_noU8 {W : World} {D : Nat} {a b c d e f : Value} (h : W.heap[D]? = some (Obj.cells #[a, b, c, d, e, f, .slice none 0 0, .slice none 0 0, .slice none 0 0] 43 (0, 0))) (ha : NoU8 a) (hb : NoU8 b) (hc : NoU8 c) (hd : NoU8 d) (he : NoU8 e) (hf : NoU8 f) (o : Nat) (n : Int) : W.cell? ⟨D, o, none⟩ ≠ some (.int .u8 n) := by
  intro hcell
  rw [cell_of_row W D o _ 43 (0, 0) h] at hcell
  match o, hcell with
  | 0, hc0 => simp at hc0; exact ha n hc0
  | 1, hc0 => simp at hc0; exact hb n hc0
  | 2, hc0 => simp at hc0; exact hc n hc0
  | 3, hc0 => simp at hc0; exact hd n hc0
  | 4, hc0 => simp at hc0; exact he n hc0
  | 5, hc0 => simp at hc0; exact hf n hc0
  | 6, hc0 => simp at hc0
  | 7, hc0 => simp at hc0
  | 8, hc0 => simp at hc0
  | o + 9, hc0 => simp at hc0
/-- Behind a store into the call's cells. -/
theorem Dc.set {w W W' : World} {D B : Nat} {a b c d e f a' b' c' d' e' f' : Value} {st : R} (h : Dc w D B a b c d e f W st) (hD : W'.heap[D]? = some (Obj.cells #[a', b', c', d', e', f', .slice none 0 0, .slice none 0 0, .slice none 0 0] 43 (0, 0))) (hg : W.grownBy W' (some D))
    (ha : NoU8 a') (hb : NoU8 b') (hc : NoU8 c') (hd : NoU8 d') (he : NoU8 e') (hf : NoU8 f') : Dc w D B a' b' c' d' e' f' W' st := by
  obtain ⟨h1, h2, h3, h4, h5, n0, n1, n2, n3, n4, n5⟩ := h
  refine ⟨(h1.kept (hg.block B h1.rd.lt (by simp; omega)) (fun g o n hc' => hg.block g (cell_lt hc') (fun e => ?_))).mono hg.size, hD, h3, h4.trans ⟨hg.os, hg.tape, hg.output, hg.size, fun k hk => hg.block k (by have := h4.size; omega) (by simp; omega)⟩, h5, ha, hb, hc, hd, he, hf⟩
  simp at e
  subst e
  exact cells_noU8 h2 n0 n1 n2 n3 n4 n5 o n hc'

/-- What a call of the reader leaves. -/
def Dl (w : World) (D B : Nat) (a b c d e f : Value) (st : R) (r : Value) : Ending → World → Prop := fun x W =>
  x = .returned r ∧ W.cell? ⟨D, 0, none⟩ = some a ∧ W.cell? ⟨D, 1, none⟩ = some b ∧ W.cell? ⟨D, 2, none⟩ = some c ∧ W.cell? ⟨D, 3, none⟩ = some d ∧ W.cell? ⟨D, 4, none⟩ = some e ∧ W.cell? ⟨D, 5, none⟩ = some f ∧
    W.frozen? ⟨D, 0, none⟩ = false ∧ W.frozen? ⟨D, 1, none⟩ = false ∧ W.frozen? ⟨D, 2, none⟩ = false ∧ W.frozen? ⟨D, 3, none⟩ = false ∧ W.frozen? ⟨D, 4, none⟩ = false ∧ Hid (Dc w D B a b c d e f W st)
theorem Dc.dl {w W : World} {D B : Nat} {a b c d e f : Value} {st : R} (h : Dc w D B a b c d e f W st) (r : Value) : Dl w D B a b c d e f st r (.returned r) W := by
  obtain ⟨⟨h0, h1, h2, h3, h4, h5⟩, hf⟩ := h.six
  exact ⟨rfl, h0, h1, h2, h3, h4, h5, hf _, hf _, hf _, hf _, hf _, h⟩
theorem dc_flag {w W : World} {D B : Nat} {a b c d e f : Value} {st st' : R} (h : Dc w D B a b c d e f W st) (x : Bool) (hx : rFlag st = (x, st')) :
    Calls Tryz.prog 83 #[.pointer (some ⟨B, 0, none⟩)] W (Dl w D B a b c d e f st' (.bool x)) := by
  have := qflag_any _ B st W h.1
  rw [hx] at this
  refine this.mono ?_
  rintro _ W' ⟨rfl, hq, hg⟩
  exact (h.rd hq hg).dl _
theorem dc_num {w W : World} {D B : Nat} {a b c d e f : Value} {st st' : R} (h : Dc w D B a b c d e f W st) (x : Int) (hx : rNum st = (x, st')) :
    Calls Tryz.prog 104 #[.pointer (some ⟨B, 0, none⟩)] W (Dl w D B a b c d e f st' (.int .i64 x)) := by
  refine (qnum_is _ B st st' x W h.1 hx).mono ?_
  rintro _ W' ⟨rfl, hq, hg⟩
  exact (h.rd hq hg).dl _
theorem dc_left {w W : World} {D B : Nat} {a b c d e f : Value} {st : R} (h : Dc w D B a b c d e f W st) :
    Calls Tryz.prog 106 #[.pointer (some ⟨B, 0, none⟩)] W (Dl w D B a b c d e f st (.int .i64 (lenS st : Nat))) := by
  refine (left_any B st W h.1.rd).mono ?_
  rintro _ W' ⟨rfl, rfl⟩
  exact h.dl _
theorem dc_ok {w W : World} {D B : Nat} {a b c d e f : Value} {st : R} (h : Dc w D B a b c d e f W st) :
    Calls Tryz.prog 84 #[.pointer (some ⟨B, 0, none⟩)] W (Dl w D B a b c d e f st (.bool st.isSome)) := by
  refine (ok_any B st W h.1.rd).mono ?_
  rintro _ W' ⟨rfl, rfl⟩
  exact h.dl _

theorem nu_i (n : Int) : NoU8 (.int .i64 n) := fun m h => by simp at h
theorem nu_b (x : Bool) : NoU8 (.bool x) := fun m h => by simp at h
theorem nu_s (a : Option Addr) (n c : Nat) : NoU8 (.slice a n c) := fun m h => by simp at h
theorem nu_p (a : Option Addr) : NoU8 (.pointer a) := fun m h => by simp at h

/-- A snapshot that was read, or none. -/
def PsR (b : Nat) (W : World) (p : Option Addr) : Option Snp → Prop
  | none => p = none
  | some s => ∃ S, p = some ⟨S, 0, none⟩ ∧ Sr b W S s
theorem Sr.low {b b' S : Nat} {W : World} {p : Snp} (h : Sr b W S p) (hb : b' ≤ b) : Sr b' W S p := by
  obtain ⟨vc, vd, h1, h2, h3, h4⟩ := h
  exact ⟨vc, vd, h1, by omega, own_low h3 hb, own_low h4 hb⟩
theorem own_grown {W W' : World} {b e s n B : Nat} {v : Value} {xs : List Value} (h : W.ownsRow b e s v n xs) (hg : W.grownBy W' (some B)) (hB : B < b) : W'.ownsRow b e s v n xs := own_rd h hg hB
theorem Sr.rd {b S B : Nat} {W W' : World} {p : Snp} (h : Sr b W S p) (hg : W.grownBy W' (some B)) (hB : B < b) : Sr b W' S p := by
  obtain ⟨vc, vd, h1, h2, h3, h4⟩ := h
  refine ⟨vc, vd, ?_, h2, own_rd h3 hg hB, own_rd h4 hg hB⟩
  rw [hg.block S (lt_of_block h1) (by simp; omega)]
  exact h1
theorem PsR.rd {b B : Nat} {W W' : World} {p : Option Addr} {o : Option Snp} (h : PsR b W p o) (hg : W.grownBy W' (some B)) (hB : B < b) : PsR b W' p o := by
  cases o with
  | none => exact h
  | some s =>
    obtain ⟨S, e, h1⟩ := h
    exact ⟨S, e, h1.rd hg hB⟩
theorem PsR.low {b b' : Nat} {W : World} {p : Option Addr} {o : Option Snp} (h : PsR b W p o) (hb : b' ≤ b) : PsR b' W p o := by
  cases o with
  | none => exact h
  | some s =>
    obtain ⟨S, e, h1⟩ := h
    exact ⟨S, e, h1.low hb⟩
theorem Er.low {b b' : Nat} {W : World} {v : Value} {es : List Ent} (h : Er b W v es) (hb : b' ≤ b) : Er b' W v es := by
  obtain ⟨us, h1, h2, h3⟩ := h
  refine ⟨us, h1, own_low h2 hb, fun j e hj => ?_⟩
  obtain ⟨u, h4, h5⟩ := h3 j e hj
  exact ⟨u, h4, own_low h5 hb⟩
end Go.Proofs.YtjndgekpdmlbiaaGreatDoor.Kp
namespace Go.Proofs.YtjndgekpdmlbiaaGreatDoor.Kp
open Go.RowKit Bn

theorem rFlag_len (st : R) : lenS (rFlag st).2 ≤ lenS st := by
  cases st with
  | none => simp [rFlag, lenS]
  | some bs =>
    cases bs with
    | nil => simp [rFlag, lenS]
    | cons c r =>
      simp only [rFlag]
      split <;> simp [lenS]
theorem rdC_len : ∀ (n : Nat) (st : R), lenS (rdC n st).2 ≤ lenS st
  | 0, st => Nat.le_refl _
  | n + 1, st => by
    rw [rdC]
    split
    · exact Nat.le_refl _
    · have h1 := rdC_len n (rNum st).2
      have h2 := rNum_len st
      simp only
      omega
theorem rdS_len (st : R) : lenS (rdS st).2 ≤ lenS st := by
  have h1 := rNum_len st
  have h2 := rNum_len (rNum st).2
  have h3 := rNum_len (rNum (rNum st).2).2
  have h4 := rdC_len (rNum (rNum (rNum st).2).2).1.toNat (rNum (rNum (rNum st).2).2).2
  have h5 := rText_len (rdC (rNum (rNum (rNum st).2).2).1.toNat (rNum (rNum (rNum st).2).2).2).2
  simp only [rdS]
  omega
theorem rdH_len (b : Bool) (st : R) : lenS (rdH b st).2 ≤ lenS st := by
  have h1 := rNum_len st
  have h2 := rNum_len (rNum st).2
  unfold rdH
  split
  · simp only; omega
  · exact Nat.le_refl _
theorem rdP_len (st : R) : lenS (rdP st).2 ≤ lenS st := by
  have h1 := rFlag_len st
  have h2 := rdS_len (rFlag st).2
  unfold rdP
  split
  · simp only; omega
  · simp only; omega

/-- Results: a slot, a cell, a slot. -/
theorem ret_tct {fn : Func} {p t u : Tmp} {ty : TypeId} (h : fn.results = #[.tmp t, .cell p ty, .tmp u]) (tmps : Array Value) (w : World) (g : Nat) (T : TypeId) (cs : Array Value) (fr : Nat × Nat) {d}
    (hp : tmps.getD p undef = .pointer (some ⟨g, 0, none⟩)) (hg : w.heap[g]? = some (.cells cs T fr))
    (hu : Tryz.prog.underlying ty = some (.struct d)) (hi : (Tryz.prog.info? ty).map (·.size) = some cs.size) :
    (results fn tmps).run Tryz.prog w = .ok (.tuple #[tmps.getD t undef, .agg cs, tmps.getD u undef]) w := by
  have hl := run_loadVar_row (P := Tryz.prog) w g T ty cs fr _ hg hu rfl hi
  have hp' : tmps[p]?.getD undef = .pointer (some ⟨g, 0, none⟩) := by simpa using hp
  simp [results, h, hp', asAddr, hl, Result.andThen]
theorem sz43 : (Tryz.prog.info? 43).map (·.size) = some 9 := by kernel_rfl
theorem set_same {W : World} {D : Nat} {cs : Array Value} {T : TypeId} (h : W.heap[D]? = some (Obj.cells cs T (0, 0))) (i : Nat) (x : Value) (hx : cs[i]? = some x) : (W.setCell ⟨D, i, none⟩ x).heap[D]? = some (Obj.cells cs T (0, 0)) := by
  rw [heap_setCell_same W D i cs T x h]
  congr 2
  apply Array.ext_getElem?
  intro k
  rw [Array.getElem?_setIfInBounds]
  split
  · rename_i e
    subst e
    obtain ⟨h1, h2⟩ := Array.getElem?_eq_some_iff.1 hx
    simp [h1, h2]
  · rfl

/-- A call's cells written once more with what they hold. -/
theorem Dc.nine {w W : World} {B : Nat} {a b c d e f v : Value} {ps : Option Addr} {es : List Ent} {o : Option Snp} {st : R} (h : Dc w w.heap.size B a b c d e f W st) (he : Er (B + 1) W v es) (hp : PsR (B + 1) W ps o) :
    (((((((((W.setCell ⟨w.heap.size, 0, none⟩ (a)).setCell ⟨w.heap.size, 1, none⟩ (b)).setCell ⟨w.heap.size, 2, none⟩ (c)).setCell ⟨w.heap.size, 3, none⟩ (d)).setCell ⟨w.heap.size, 4, none⟩ (e)).setCell ⟨w.heap.size, 5, none⟩ (f)).setCell ⟨w.heap.size, 6, none⟩ (.slice none 0 0)).setCell ⟨w.heap.size, 7, none⟩ (.slice none 0 0)).setCell ⟨w.heap.size, 8, none⟩ (.slice none 0 0)).drew.heap[w.heap.size]? = some (Obj.cells #[a, b, c, d, e, f, .slice none 0 0, .slice none 0 0, .slice none 0 0] 43 (0, 0)) ∧ Hid (Er w.heap.size (((((((((W.setCell ⟨w.heap.size, 0, none⟩ (a)).setCell ⟨w.heap.size, 1, none⟩ (b)).setCell ⟨w.heap.size, 2, none⟩ (c)).setCell ⟨w.heap.size, 3, none⟩ (d)).setCell ⟨w.heap.size, 4, none⟩ (e)).setCell ⟨w.heap.size, 5, none⟩ (f)).setCell ⟨w.heap.size, 6, none⟩ (.slice none 0 0)).setCell ⟨w.heap.size, 7, none⟩ (.slice none 0 0)).setCell ⟨w.heap.size, 8, none⟩ (.slice none 0 0)).drew v es ∧ PsR w.heap.size (((((((((W.setCell ⟨w.heap.size, 0, none⟩ (a)).setCell ⟨w.heap.size, 1, none⟩ (b)).setCell ⟨w.heap.size, 2, none⟩ (c)).setCell ⟨w.heap.size, 3, none⟩ (d)).setCell ⟨w.heap.size, 4, none⟩ (e)).setCell ⟨w.heap.size, 5, none⟩ (f)).setCell ⟨w.heap.size, 6, none⟩ (.slice none 0 0)).setCell ⟨w.heap.size, 7, none⟩ (.slice none 0 0)).setCell ⟨w.heap.size, 8, none⟩ (.slice none 0 0)).drew ps o ∧ Below w.heap.size w (((((((((W.setCell ⟨w.heap.size, 0, none⟩ (a)).setCell ⟨w.heap.size, 1, none⟩ (b)).setCell ⟨w.heap.size, 2, none⟩ (c)).setCell ⟨w.heap.size, 3, none⟩ (d)).setCell ⟨w.heap.size, 4, none⟩ (e)).setCell ⟨w.heap.size, 5, none⟩ (f)).setCell ⟨w.heap.size, 6, none⟩ (.slice none 0 0)).setCell ⟨w.heap.size, 7, none⟩ (.slice none 0 0)).setCell ⟨w.heap.size, 8, none⟩ (.slice none 0 0)).drew) := by
  have hDB := h.2.2.2.2.1
  have hg0 : W.grownBy (((((((((W.setCell ⟨w.heap.size, 0, none⟩ (a)).setCell ⟨w.heap.size, 1, none⟩ (b)).setCell ⟨w.heap.size, 2, none⟩ (c)).setCell ⟨w.heap.size, 3, none⟩ (d)).setCell ⟨w.heap.size, 4, none⟩ (e)).setCell ⟨w.heap.size, 5, none⟩ (f)).setCell ⟨w.heap.size, 6, none⟩ (.slice none 0 0)).setCell ⟨w.heap.size, 7, none⟩ (.slice none 0 0)).setCell ⟨w.heap.size, 8, none⟩ (.slice none 0 0)) (some w.heap.size) := grown_set (grown_set (grown_set (grown_set (grown_set (grown_set (grown_set (grown_set (grown_set (grown_refl _ _)))))))))
  have hrow : (((((((((W.setCell ⟨w.heap.size, 0, none⟩ (a)).setCell ⟨w.heap.size, 1, none⟩ (b)).setCell ⟨w.heap.size, 2, none⟩ (c)).setCell ⟨w.heap.size, 3, none⟩ (d)).setCell ⟨w.heap.size, 4, none⟩ (e)).setCell ⟨w.heap.size, 5, none⟩ (f)).setCell ⟨w.heap.size, 6, none⟩ (.slice none 0 0)).setCell ⟨w.heap.size, 7, none⟩ (.slice none 0 0)).setCell ⟨w.heap.size, 8, none⟩ (.slice none 0 0)).heap[w.heap.size]? = some (Obj.cells #[a, b, c, d, e, f, .slice none 0 0, .slice none 0 0, .slice none 0 0] 43 (0, 0)) := set_same (set_same (set_same (set_same (set_same (set_same (set_same (set_same (set_same h.2.1 0 _ rfl) 1 _ rfl) 2 _ rfl) 3 _ rfl) 4 _ rfl) 5 _ rfl) 6 _ rfl) 7 _ rfl) 8 _ rfl
  generalize (((((((((W.setCell ⟨w.heap.size, 0, none⟩ (a)).setCell ⟨w.heap.size, 1, none⟩ (b)).setCell ⟨w.heap.size, 2, none⟩ (c)).setCell ⟨w.heap.size, 3, none⟩ (d)).setCell ⟨w.heap.size, 4, none⟩ (e)).setCell ⟨w.heap.size, 5, none⟩ (f)).setCell ⟨w.heap.size, 6, none⟩ (.slice none 0 0)).setCell ⟨w.heap.size, 7, none⟩ (.slice none 0 0)).setCell ⟨w.heap.size, 8, none⟩ (.slice none 0 0)) = X at *
  have hg : W.grownBy X.drew (some w.heap.size) := ⟨hg0.os, hg0.tape, hg0.output, hg0.size, hg0.block⟩
  refine ⟨hrow, (he.rd hg (by omega)).low (by omega), (hp.rd hg (by omega)).low (by omega), h.2.2.2.1.trans ⟨hg.os, hg.tape, hg.output, hg.size, fun k hk => hg.block k (Nat.lt_of_lt_of_le hk h.2.2.2.1.size) (by simp; omega)⟩⟩

set_option maxRecDepth 8000 in
set_option maxHeartbeats 8000000 in
theorem decode_any (v : Value) (bs : List UInt8) (w : World) (h : Sl w v bs) (hl : bs.length ≤ 1000000000000) (an sv : Bool) (s1 s2 : R) (hd : (Int × Int) × R) (p : Option Snp × R) (l : (Int × List Ent) × R) (e1 : rFlag (some bs) = (an, s1)) (e2 : rFlag s1 = (sv, s2)) (e3 : rdH sv s2 = hd) (e4 : rdP hd.2 = p) (e5 : rdL p.2 = l) :
    Calls Tryz.prog 85 #[v] w fun x w' => ∃ ao L cap ps, x = .returned (.tuple #[.bool an, .agg #[.int .i64 hd.1.1, .int .i64 hd.1.2, .bool sv, .int .i64 l.1.1, .slice ao L cap, .pointer ps, .slice none 0 0, .slice none 0 0, .slice none 0 0], .bool l.2.isSome]) ∧ Hid (Er w.heap.size w' (.slice ao L cap) l.1.2 ∧ PsR w.heap.size w' ps p.1 ∧ Below w.heap.size w w') := by
  obtain ⟨ao, cap, rfl, _, _⟩ := h.shape
  have HS := hide h
  have HL := hide hl
  have E1 := hide e1
  have E2 := hide e2
  have E3 := hide e3
  have E4 := hide e4
  have E5 := hide e5
  have L1 : Hid (lenS s2 ≤ 1000000000000) := by
    have h1 := rFlag_len (some bs)
    have h2 := rFlag_len s1
    rw [e1] at h1
    rw [e2] at h2
    simp only [lenS, Option.getD_some] at h1 h2 ⊢
    show _ ≤ _
    omega
  have L2 : Hid (lenS hd.2 ≤ 1000000000000) := by
    have h1 := rdH_len sv s2
    rw [e3] at h1
    exact Nat.le_trans h1 L1.out
  have L3 : Hid (lenS p.2 ≤ 1000000000000) := by
    have h1 := rdP_len hd.2
    rw [e4] at h1
    exact Nat.le_trans h1 L2.out
  have HD : Hid (∀ (B : Nat) (W : World), w.heap.size + 1 ≤ B → Rq W B B (some bs) → Below (w.heap.size + 1) (w.alloc (.cells #[.int .i64 0, .int .i64 0, .bool false, .int .i64 0, .slice none 0 0, .pointer none, .slice none 0 0, .slice none 0 0, .slice none 0 0] 43)) W → Dc w w.heap.size B (.int .i64 0) (.int .i64 0) (.bool false) (.int .i64 0) (.slice none 0 0) (.pointer none) W (some bs)) := by
    intro B W hB hq hb
    refine ⟨hq.mono (Nat.le_of_lt hq.rd.lt), ?_, rfl, ((Below.refl _ _).alloc (Nat.le_refl _) _).trans (hb.mono (by omega)), by omega, nu_i _, nu_i _, nu_b _, nu_i _, nu_s _ _ _, nu_p _⟩
    rw [hb.block _ (by omega)]
    exact heap_alloc_new _ _
  clear h hl e1 e2 e3 e4 e5
  go_enter Tryz.func85, Tryz.ntmps85
  go_wp2_with fail
  refine (read_q _ bs _ (HS.out.alloc _) (by have := HL.out; omega)).mono ?_
  rintro x W1 ⟨B, rfl, hB, hq, hb⟩
  have hB' : w.heap.size + 1 ≤ B := (by simpa using hB)
  have H1 := hide (HD.out B W1 hB' hq.out (by simpa using hb.out))
  clear hB hq hb HD
  go_wp2_with fail
  refine (dc_flag H1.out _ E1.out).mono ?_
  rintro x W2 ⟨rfl, c0, c1, c2, c3, c4, c5, f0, f1, f2, f3, f4, H2⟩
  clear H1
  go_wp2_with fail
  refine (dc_flag H2.out _ E2.out).mono ?_
  clear c0 c1 c2 c3 c4 c5 f0 f1 f2 f3 f4
  rintro x W3 ⟨rfl, c0, c1, c2, c3, c4, c5, f0, f1, f2, f3, f4, H3⟩
  clear H2
  have H3b := hide (Dc.set H3.out (c' := .bool sv) (W' := W3.setCell ⟨w.heap.size, 2, none⟩ (.bool sv)) (by rw [heap_setCell_same _ _ 2 _ 43 _ H3.out.2.1]; rfl) (grown_set (grown_refl _ _)) (nu_i _) (nu_i _) (nu_b _) (nu_i _) (nu_s _ _ _) (nu_p _))
  go_upto_if 14 with fail
  generalize W3.setCell ⟨w.heap.size, 2, none⟩ (.bool sv) = W4 at *
  clear c0 c1 c2 c3 c4 c5 f0 f1 f2 f3 f4 H3
  go_cut [] from 15 to 20 (fun wc => Hid (Dc w w.heap.size B (.int .i64 hd.1.1) (.int .i64 hd.1.2) (.bool sv) (.int .i64 0) (.slice none 0 0) (.pointer none) wc hd.2))
  case first =>
    cases sv with
    | false =>
      have hh : hd = ((0, 0), s2) := E3.out.symm
      subst hh
      go_wp2_with fail
      go_meet
      exact H3b
    | true =>
      obtain ⟨x1, t1, g1⟩ : ∃ x t, rNum s2 = (x, t) := ⟨_, _, rfl⟩
      obtain ⟨x2, t2, g2⟩ : ∃ x t, rNum t1 = (x, t) := ⟨_, _, rfl⟩
      have hh : hd = ((x1, x2), t2) := by rw [← E3.out]; simp [rdH, g1, g2]
      subst hh
      have G1 := hide g1
      have G2 := hide g2
      clear g1 g2
      go_wp2_with fail
      refine (dc_num H3b.out _ G1.out).mono ?_
      rintro x W5 ⟨rfl, c0, c1, c2, c3, c4, c5, f0, f1, f2, f3, f4, H5⟩
      clear H3b
      go_wp2_with fail
      refine (dc_num H5.out _ G2.out).mono ?_
      clear c0 c1 c2 c3 c4 c5 f0 f1 f2 f3 f4
      rintro x W6 ⟨rfl, c0, c1, c2, c3, c4, c5, f0, f1, f2, f3, f4, H6⟩
      clear H5
      have H7 := hide (Dc.set (Dc.set H6.out (a' := .int .i64 x1) (W' := W6.setCell ⟨w.heap.size, 0, none⟩ (.int .i64 x1)) (by rw [heap_setCell_same _ _ 0 _ 43 _ H6.out.2.1]; rfl) (grown_set (grown_refl _ _)) (nu_i _) (nu_i _) (nu_b _) (nu_i _) (nu_s _ _ _) (nu_p _)) (b' := .int .i64 x2) (W' := (W6.setCell ⟨w.heap.size, 0, none⟩ (.int .i64 x1)).setCell ⟨w.heap.size, 1, none⟩ (.int .i64 x2)) (by rw [heap_setCell_same _ _ 1 _ 43 _ (by rw [heap_setCell_same _ _ 0 _ 43 _ H6.out.2.1])]; rfl) (grown_set (grown_refl _ _)) (nu_i _) (nu_i _) (nu_b _) (nu_i _) (nu_s _ _ _) (nu_p _))
      go_wp2_with fail
      go_meet
      exact H7
  case rest =>
    have H8 := hcut
    clear hcut H3b E1 E2 E3
    obtain ⟨fl, t4, g4⟩ : ∃ x t, rFlag hd.2 = (x, t) := ⟨_, _, rfl⟩
    have G4 := hide g4
    have L4 : Hid (lenS t4 ≤ 1000000000000) := by
      have h1 := rFlag_len hd.2
      rw [g4] at h1
      exact Nat.le_trans h1 L2.out
    have HP : Hid (p = if fl = true then (some (rdS t4).1, (rdS t4).2) else (none, t4)) := by
      show _ = _
      rw [← E4.out]
      simp only [rdP, g4]
    clear g4 E4
    go_wp2_with fail
    refine (dc_flag H8.out _ G4.out).mono ?_
    rintro x W9 ⟨rfl, c0, c1, c2, c3, c4, c5, f0, f1, f2, f3, f4, H9⟩
    clear H8 G4
    go_upto_if 22 with fail
    clear c0 c1 c2 c3 c4 c5 f0 f1 f2 f3 f4
    go_cut [] from 23 to 25 (fun wc => ∃ ps, Hid (Dc w w.heap.size B (.int .i64 hd.1.1) (.int .i64 hd.1.2) (.bool sv) (.int .i64 0) (.slice none 0 0) (.pointer ps) wc p.2 ∧ PsR (B + 1) wc ps p.1))
    case first =>
      have hp := HP.out
      cases fl with
      | false =>
        rw [if_neg (by decide)] at hp
        subst hp
        go_wp2_with fail
        go_meet
        exact ⟨none, H9.out, rfl⟩
      | true =>
        rw [if_pos rfl] at hp
        subst hp
        have HR := hide (readSnap_any B t4 W9 H9.out.1 L4.out)
        have hD9 := H9.out.2.2.2.1.size
        go_wp2_with fail
        refine Calls.mono HR.out ?_
        rintro x W10 ⟨S, rfl, hz⟩
        have H10 := hide (H9.out.rd hz.out.1 hz.out.2.2)
        obtain ⟨⟨c0, c1, c2, c3, c4, c5⟩, hf⟩ := H10.out.six
        have f5 := hf 5
        have HS10 := hide hz.out.2.1
        have H11 := hide (Dc.set H10.out (f' := .pointer (some ⟨S, 0, none⟩)) (W' := W10.setCell ⟨w.heap.size, 5, none⟩ (.pointer (some ⟨S, 0, none⟩))) (by rw [heap_setCell_same _ _ 5 _ 43 _ H10.out.2.1]; rfl) (grown_set (grown_refl _ _)) (nu_i _) (nu_i _) (nu_b _) (nu_i _) (nu_s _ _ _) (nu_p _))
        have HS11 : Hid (Sr (B + 1) (W10.setCell ⟨w.heap.size, 5, none⟩ (.pointer (some ⟨S, 0, none⟩))) S (rdS t4).1) := (HS10.out.rd (grown_set (grown_refl _ _)) (by have := H9.out.2.2.2.2.1; have := H9.out.1.rd.lt; omega)).low (by have := H9.out.1.rd.lt; omega)
        clear hz hf HR
        go_wp2_with fail
        go_meet
        exact ⟨_, H11.out, S, rfl, HS11.out⟩
    case rest =>
      obtain ⟨ps, H12⟩ := hcut
      clear HP H9 L4
      have HPs := hide H12.out.2
      have H13 := hide H12.out.1
      clear H12
      have HDB := hide H13.out.2.2.2.2.1
      go_wp2_with fail
      refine (left_any B p.2 _ H13.out.1.rd).mono ?_
      rintro x W14 ⟨rfl, hw14⟩
      have hw14' := hw14.symm
      subst hw14'
      clear hw14
      go_upto_if 28 with fail
      go_cut [] from 28 to 34 (fun wd => ∃ ao L cap, Hid (Dc w w.heap.size B (.int .i64 hd.1.1) (.int .i64 hd.1.2) (.bool sv) (.int .i64 l.1.1) (.slice ao L cap) (.pointer ps) wd l.2 ∧ Er (B + 1) wd (.slice ao L cap) l.1.2 ∧ PsR (B + 1) wd ps p.1))
      case first =>
        by_cases hle : 0 < (p.2.getD []).length
        case neg =>
          have hleI : ¬ (0 : Int) < ((p.2.getD []).length : Int) := by omega
          have hll : l = ((0, []), p.2) := by rw [← E5.out, rdL, if_neg hle]
          subst hll
          clear hle
          go_wp2_with fail
          go_meet
          exact ⟨none, 0, 0, H13.out, Er.nil _ _, HPs.out⟩
        case pos =>
          have hleI : (0 : Int) < ((p.2.getD []).length : Int) := by omega
          obtain ⟨x5, t5, g5⟩ : ∃ x t, rNum p.2 = (x, t) := ⟨_, _, rfl⟩
          have hll : l = ((x5, (rdE (lenS t5) t5).1), (rdE (lenS t5) t5).2) := by
            rw [← E5.out, rdL, if_pos hle, g5]
            rfl
          subst hll
          have G5 := hide g5
          have L5 : Hid (lenS t5 ≤ 1000000000000) := by
            have h1 := rNum_len p.2
            rw [g5] at h1
            have h2 := L3.out
            show _ ≤ _
            simp only at h1
            omega
          clear hle g5 E5
          go_wp2_with fail
          refine (qnum_is _ B p.2 t5 x5 _ H13.out.1 G5.out).mono ?_
          rintro x W15 ⟨rfl, q15, g15⟩
          have H15 := hide (H13.out.rd q15 g15)
          have P15 := hide (HPs.out.rd g15 (Nat.lt_succ_self B))
          obtain ⟨⟨c0, c1, c2, c3, c4, c5⟩, hf⟩ := H15.out.six
          have f3 := hf 3
          have H16 := hide (Dc.set H15.out (d' := .int .i64 x5) (W' := W15.setCell ⟨w.heap.size, 3, none⟩ (.int .i64 x5)) (by rw [heap_setCell_same _ _ 3 _ 43 _ H15.out.2.1]; rfl) (grown_set (grown_refl _ _)) (nu_i _) (nu_i _) (nu_b _) (nu_i _) (nu_s _ _ _) (nu_p _))
          have P16 : Hid (PsR (B + 1) (W15.setCell ⟨w.heap.size, 3, none⟩ (.int .i64 x5)) ps p.1) := P15.out.rd (grown_set (grown_refl _ _)) (by have := HDB.out; omega)
          have HR := hide (readEntries_any B t5 _ H16.out.1 L5.out)
          clear q15 g15 hf H13 HPs H15 P15
          go_wp2_with fail
          refine Calls.mono HR.out ?_
          rintro x W17 ⟨ao, L, cap, rfl, hz⟩
          have H17 := hide (H16.out.rd hz.out.1 hz.out.2.2)
          have P17 := hide (P16.out.rd hz.out.2.2 (Nat.lt_succ_self B))
          clear c0 c1 c2 c3 c4 c5 f3
          obtain ⟨⟨c0, c1, c2, c3, c4, c5⟩, hf⟩ := H17.out.six
          have f4 := hf 4
          have H18 := hide (Dc.set H17.out (e' := .slice ao L cap) (W' := W17.setCell ⟨w.heap.size, 4, none⟩ (.slice ao L cap)) (by rw [heap_setCell_same _ _ 4 _ 43 _ H17.out.2.1]; rfl) (grown_set (grown_refl _ _)) (nu_i _) (nu_i _) (nu_b _) (nu_i _) (nu_s _ _ _) (nu_p _))
          have P18 : Hid (PsR (B + 1) (W17.setCell ⟨w.heap.size, 4, none⟩ (.slice ao L cap)) ps p.1) := P17.out.rd (grown_set (grown_refl _ _)) (by have := HDB.out; omega)
          have R18 : Hid (Er (B + 1) (W17.setCell ⟨w.heap.size, 4, none⟩ (.slice ao L cap)) (.slice ao L cap) (rdE (lenS t5) t5).1) := (hz.out.2.1.rd (grown_set (grown_refl _ _)) (by have := HDB.out; have := H16.out.1.rd.lt; omega)).low (by have := H16.out.1.rd.lt; omega)
          clear hz hf HR
          go_wp2_with fail
          go_meet
          exact ⟨ao, L, cap, H18.out, R18.out, P18.out⟩
      case rest =>
        obtain ⟨ao, L, cap, H20⟩ := hcut
        have H21 := hide H20.out.1
        have R21 := hide H20.out.2.1
        have P21 := hide H20.out.2.2
        clear H20 H13 HPs
        obtain ⟨⟨c0, c1, c2, c3, c4, c5⟩, hf⟩ := H21.out.six
        have hrow := H21.out.2.1
        have c6 : wc.cell? ⟨w.heap.size, 6, none⟩ = some (.slice none 0 0) := by rw [cell_of_row wc _ 6 _ 43 (0, 0) hrow]; rfl
        have c7 : wc.cell? ⟨w.heap.size, 7, none⟩ = some (.slice none 0 0) := by rw [cell_of_row wc _ 7 _ 43 (0, 0) hrow]; rfl
        have c8 : wc.cell? ⟨w.heap.size, 8, none⟩ = some (.slice none 0 0) := by rw [cell_of_row wc _ 8 _ 43 (0, 0) hrow]; rfl
        have f0 := hf 0
        have f1 := hf 1
        have f2 := hf 2
        have f3 := hf 3
        have f4 := hf 4
        have f5 := hf 5
        have f6 := hf 6
        have f7 := hf 7
        have f8 := hf 8
        have HRD : Hid (Calls Tryz.prog 84 #[.pointer (some ⟨B, 0, none⟩)] wc.drew fun e w' => e = .returned (.bool l.2.isSome) ∧ w' = wc.drew) := ok_any B l.2 wc.drew (H21.out.1.below (Below.refl _ wc).drew).rd
        have HN := hide (Dc.nine H21.out R21.out P21.out)
        clear hf hrow H21 R21 P21
        go_wp2_with fail
        go_region_with (go_at_call 84; refine Calls.mono HRD.out ?_; rintro x W6 ⟨rfl, rfl⟩)
        all_goals go_wp2
        all_goals refine bodyPost_ret (ret_tct rfl _ _ w.heap.size 43 #[.int .i64 hd.1.1, .int .i64 hd.1.2, .bool sv, .int .i64 l.1.1, .slice ao L cap, .pointer ps, .slice none 0 0, .slice none 0 0, .slice none 0 0] (0, 0) rfl HN.out.1 Tryz.underlying43 sz43) rfl ?_
        all_goals exact ⟨ao, L, cap, ps, rfl, HN.out.2⟩
end Go.Proofs.YtjndgekpdmlbiaaGreatDoor.Kp

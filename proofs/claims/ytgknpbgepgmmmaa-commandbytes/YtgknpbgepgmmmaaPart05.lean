/- The reader's Flag, and Read, with where the bytes lie. readSnap. A reader of package command: its block beside the reader of bytes; what its small methods do. What a list is that is read, one after the other; readId, readRow; the list of numbers. readEntry; the list of entries; the list of rows. -/
import Derived.Test.YtgknpbgepgmmmaaPart04
import Derived.Deep.RegionLaw
import Derived.Deep.RegionHeld3
import Derived.Deep.CutRange
import Derived.Deep.CutBlock
namespace Go.Proofs.Ytgknpbgepgmmmaa.Kp
open Go.RowKit Bn

theorem Rq.mono {w : World} {b b' B : Nat} {st : Option (List UInt8)} (h : Rq w b B st) (hb : b ≤ b') : Rq w b' B st := by
  obtain ⟨v, h1, h2, h3, h4, h5⟩ := h
  exact ⟨v, h1, h2, h3, h4, fun k hk => Nat.lt_of_lt_of_le (h5 k hk) hb⟩

set_option maxHeartbeats 400000 in
theorem qflag_none (b B : Nat) (w : World) (h : Rq w b B none) :
    Calls Try.prog 43 #[.pointer (some ⟨B, 0, none⟩)] w fun e w' => e = .returned (.bool false) ∧ Rq w' b B none ∧ w.grownBy w' (some B) := by
  go_enter Try.func43, Try.ntmps43
  go_wp2_with (go_at_call 63; refine (ok_any B none _ h.rd).mono ?_; rintro e w' ⟨rfl, rfl⟩)
  go_ret
  exact ⟨rfl, h, grown_refl _ _⟩

set_option maxHeartbeats 400000 in
theorem qflag_empty (b B : Nat) (w : World) (h : Rq w b B (some [])) :
    Calls Try.prog 43 #[.pointer (some ⟨B, 0, none⟩)] w fun e w' => e = .returned (.bool false) ∧ Rq w' b B none ∧ w.grownBy w' (some B) := by
  have H : Hid (Rq w b B (some [])) := h
  obtain ⟨v, hB, hv, _, _⟩ := h
  obtain ⟨ao, cap, rfl, _, _⟩ := hv.shape
  obtain ⟨c0, c1, f0, f1⟩ := two_cells hB
  clear hB hv
  go_enter Try.func43, Try.ntmps43
  go_wp2_with (first
    | (go_at_call 63; refine (ok_any B (some []) _ H.out.rd).mono ?_; rintro e w' ⟨rfl, rfl⟩)
    | (go_at_call 65; refine (fail_q b B (some []) _ H.out).mono ?_; rintro e w' ⟨rfl, hr', hg'⟩))
  go_ret
  exact ⟨rfl, hr', hg'⟩

set_option maxHeartbeats 400000 in
theorem qflag_cons (b B : Nat) (c : UInt8) (r : List UInt8) (w : World) (h : Rq w b B (some (c :: r))) :
    Calls Try.prog 43 #[.pointer (some ⟨B, 0, none⟩)] w fun e w' => e = .returned (.bool (rFlag (some (c :: r))).1) ∧ Rq w' b B (rFlag (some (c :: r))).2 ∧ w.grownBy w' (some B) := by
  have H : Hid (Rq w b B (some (c :: r))) := h
  obtain ⟨v, hB, hv, hp, hlim, hkk⟩ := h
  have hlim' : (c :: r).length ≤ 140737488355328 := hlim
  obtain ⟨ao, cap, rfl, hc1, _⟩ := hv.shape
  obtain ⟨cc0, cc1, f0, f1⟩ := two_cells hB
  obtain ⟨g, off, rfl, hcell⟩ := hv.cell (by simp)
  have hx := hcell 0 (by simp)
  rw [Nat.add_zero, show at8 ((some (c :: r)).getD []) 0 = (c.toNat : Int) from rfl] at hx
  have hb2 : (c.toNat : Int) ≤ 255 := by have := UInt8.toNat_lt c; omega
  have hb0 : 0 ≤ (c.toNat : Int) := by omega
  have hcap : r.length + 1 ≤ cap := hc1
  have hne : (((r.length : Int) + 1) == 0) = false := by rw [beq_eq_false_iff_ne]; omega
  have HP : Hid (_) := Rq.put (b := b) hB hv (sl_rest hv 1 (by simp)).1 (sl_rest hv 1 (by simp)).2 (by rw [List.length_drop]; omega) (fun k' hk' => by
    have := hkk g rfl
    split at hk' <;> simp [Value.ownBlock] at hk' <;> omega)
  clear hB hv hcell hp hlim hkk
  simp only [rFlag]
  by_cases h1 : 1 < c.toNat
  · rw [if_pos h1]
    have h1' : (1 : Int) < (c.toNat : Int) := by omega
    go_enter Try.func43, Try.ntmps43
    go_wp2_with (first
      | (go_at_call 63; refine (ok_any B (some (c :: r)) _ H.out.rd).mono ?_; rintro e w' ⟨rfl, rfl⟩)
      | (go_at_call 65; refine (fail_q b B (some (c :: r)) _ H.out).mono ?_; rintro e w' ⟨rfl, hr', hg'⟩))
    go_ret
    exact ⟨rfl, hr', hg'⟩
  · rw [if_neg h1]
    have h1' : ¬ (1 : Int) < (c.toNat : Int) := by omega
    have HE : Hid (((c.toNat : Int) == 1) = (c == 1)) := by
      show _ = _
      rw [Bool.eq_iff_iff, beq_iff_eq, beq_iff_eq, ← UInt8.toNat_inj]
      show _ ↔ c.toNat = 1
      omega
    go_enter Try.func43, Try.ntmps43
    go_wp2_with (first
      | (go_at_call 63; refine (ok_any B (some (c :: r)) _ H.out.rd).mono ?_; rintro e w' ⟨rfl, rfl⟩))
    all_goals go_ret
    · have hp := HP.out
      rw [if_pos (by assumption), show cap - 1 = 0 by omega] at hp
      exact ⟨congrArg (fun x => Ending.returned (.bool x)) HE.out, hp⟩
    · have hp := HP.out
      rw [if_neg (by assumption)] at hp
      exact ⟨congrArg (fun x => Ending.returned (.bool x)) HE.out, hp⟩

theorem qflag_any (b B : Nat) (st : Option (List UInt8)) (w : World) (h : Rq w b B st) :
    Calls Try.prog 43 #[.pointer (some ⟨B, 0, none⟩)] w fun e w' => e = .returned (.bool (rFlag st).1) ∧ Rq w' b B (rFlag st).2 ∧ w.grownBy w' (some B) := by
  match st, h with
  | none, h => exact qflag_none b B w h
  | some [], h => exact qflag_empty b B w h
  | some (c :: r), h => exact qflag_cons b B c r w h

set_option maxHeartbeats 400000 in
theorem read_q (v : Value) (bs : List UInt8) (w : World) (h : Sl w v bs) (hl : bs.length ≤ 140737488355328) :
    Calls Try.prog 62 #[v] w fun e w' => ∃ B, e = .returned (.pointer (some ⟨B, 0, none⟩)) ∧ w.heap.size ≤ B ∧ Hid (Rq w' B B (some bs)) ∧ Hid (Below w.heap.size w w') := by
  obtain ⟨ao, cap, rfl, h1, h2⟩ := h.shape
  go_enter Try.func62, Try.ntmps62
  go_wp2_with (go_at_call 61; refine (clone_any _ bs _ h hl).mono ?_; rintro e w' ⟨v', rfl, hown, hb⟩; obtain ⟨ao', cap', rfl, hc1', hc2'⟩ := (Sl.of_own hown).shape)
  go_ret
  exact ⟨w'.heap.size, rfl, hb.size, ⟨_, heap_alloc_new _ _, (Sl.of_own hown).alloc _, Pl.of_own hown, hl, fun k hk => (hown.lt k hk).2⟩, hb.alloc hb.size _⟩

end Go.Proofs.Ytgknpbgepgmmmaa.Kp
namespace Go.Proofs.Ytgknpbgepgmmmaa.Kp
open Go.RowKit Bn

theorem hide {p : Prop} (h : p) : Hid p := h
theorem Try.inf3 : (Try.prog.info? 3).map (fun i => (i.zero, i.size, i.bytes)) = some (some (.int .i64 0), 1, 8) := by kernel_rfl

/-- One more number at the end of a row. -/
theorem push_int {W : World} {base n : Nat} {v : Value} {xs : List Value} (h : W.ownsRow base 3 1 v n xs) (hl : n ≤ 10000000000000) (hbase : base ≤ W.heap.size) (x : Int) :
    ∃ g cap w3, (∀ ty, (Builtin.append_ #[52, 52] ty #[v, .slice (some ⟨W.heap.size, 0, none⟩) 1 1]).run Try.prog (W.alloc (.cells #[.int .i64 x] 3)) = .ok (.slice (some ⟨g, 0, none⟩) (n + 1) cap) w3) ∧
      Hid (w3.ownsRow base 3 1 (.slice (some ⟨g, 0, none⟩) (n + 1) cap) (n + 1) (xs ++ [.int .i64 x])) ∧ Hid (W.grownBy w3 v.ownBlock) := by
  obtain ⟨i, hi, hz, hsize, hbyt⟩ := info_parts Try.inf3
  have ha : (W.alloc (.cells #[.int .i64 x] 3)).ownsRow base 3 1 v n xs := h.alloc _
  have H := fun ty => run_append_own_at (P := Try.prog) (W.alloc (.cells #[.int .i64 x] 3)) base 52 ty 3 i _ 1 8 Try.underlying52 hi hz hsize hbyt rfl (by decide) v n xs ha ⟨W.heap.size, 0, none⟩ 1 1 [.int .i64 x] rfl (fun j u hj => by
    rw [Addr.add_lit, Nat.zero_add, cell_of_row _ _ j _ _ _ (heap_alloc_new _ _)]
    simpa using hj) (by intro u hu; rw [List.mem_singleton.1 hu]; rfl) (by simp only [maxLen]; omega) (by omega) (by simp; omega)
  obtain ⟨v', w', hr, g1, g2, _, g4⟩ := H 0
  have hF : W.grownBy w' v.ownBlock := (World.grownBy_alloc W _ _).trans g2
  rcases own_shape g1 with ⟨_, h0⟩ | ⟨g', cap, rfl, _⟩
  · omega
  · exact ⟨g', cap, w', fun ty => hr, g1, hF⟩

theorem step_append_run {P : Program} {ops : Array Oper} {o : Oper} {a : Act} {w : World} {K : Act → World → Prop} {Q : Exit → Act → World → Prop} {E : Prop}
    (hg : o.guard = none) (d x : Operand) (dT sT : TypeId) (hop : o.op = Op.call { callee := Callee.builtin Builtin.append, args := #[d, x], argTypes := #[dT, sT] })
    (v u : Value) (hd : a.eval d = v) (hx : a.eval x = u) {v' : Value} {w' : World} (hr : (Builtin.append_ #[dT, sT] o.type #[v, u]).run P w = .ok v' w') (hK : K (a.put o.dst v') w') :
    if Region.wanted o (yielded ops a.tmps) = true then Oper.wp P o a w K Q else E := by
  have hw : Region.wanted o (yielded ops a.tmps) = true := by simp [Region.wanted, hg]
  rw [if_pos hw]
  unfold Oper.wp
  simp [execOp, hop, resolve, invoke, builtin, hd, hx, hr, Result.andThen]
  exact hK
def cI (ns : List Int) : List Value := ns.map fun n => .int .i64 n
/-- A snapshot that is being read: its numbers so far; what is left. -/
def Sn (w : World) (B S : Nat) (W : World) (i t : Int) (vc : Value) (cs : List Int) (st : R) : Prop :=
  Rq W w.heap.size B st ∧ W.heap[S]? = some (Obj.cells #[.int .i64 i, .int .i64 t, vc, .slice none 0 0] 62 (0, 0)) ∧ w.heap.size ≤ S ∧ W.ownsRow w.heap.size 3 1 vc cs.length (cI cs) ∧ w.grownBy W (some B) ∧ B < w.heap.size
/-- A snapshot of one's own. -/
def Sr (b : Nat) (W : World) (S : Nat) (p : Snp) : Prop :=
  ∃ vc vd, W.heap[S]? = some (Obj.cells #[.int .i64 p.idx, .int .i64 p.term, vc, vd] 62 (0, 0)) ∧ b ≤ S ∧ W.ownsRow b 3 1 vc p.conf.length (cI p.conf) ∧ W.ownsRow b 5 1 vd p.data.length (cells8 p.data)
theorem Sn.rd {w W W' : World} {B S : Nat} {i t : Int} {vc : Value} {cs : List Int} {st st' : R} (h : Sn w B S W i t vc cs st) (hq : Rq W' w.heap.size B st') (hg : W.grownBy W' (some B)) : Sn w B S W' i t vc cs st' := by
  obtain ⟨h1, h2, h3, h4, h5, h6⟩ := h
  refine ⟨hq, ?_, h3, own_rd h4 hg h6, h5.trans hg, h6⟩
  rw [hg.block S (lt_of_block h2) (by simp; omega)]
  exact h2
theorem Sn.cells {w W : World} {B S : Nat} {i t : Int} {vc : Value} {cs : List Int} {st : R} (h : Sn w B S W i t vc cs st) : W.cell? ⟨S, 2, none⟩ = some vc ∧ W.frozen? ⟨S, 2, none⟩ = false ∧ W.cell? ⟨S, 3, none⟩ = some (.slice none 0 0) ∧ W.frozen? ⟨S, 3, none⟩ = false := by
  obtain ⟨h1, h2, _⟩ := h
  exact ⟨by rw [cell_of_row W S 2 _ 62 (0, 0) h2]; rfl, frozen_of_row W S 2 _ 62 h2, by rw [cell_of_row W S 3 _ 62 (0, 0) h2]; rfl, frozen_of_row W S 3 _ 62 h2⟩
theorem own_row_ne {W : World} {b n S T : Nat} {v : Value} {xs : List Value} {cs : Array Value} (h : W.ownsRow b 3 1 v n xs) (hS : W.heap[S]? = some (Obj.cells cs T (0, 0))) (hT : T ≠ 3) : v.ownBlock ≠ some S := by
  intro e
  rcases h.2 with ⟨rfl, _⟩ | ⟨g, cap, cur, rfl, _, hg, _⟩
  · simp [Value.ownBlock] at e
  · simp [Value.ownBlock] at e
    subst e
    rw [hg] at hS
    injection hS with hS
    injection hS with _ h3 _
    exact hT h3.symm
/-- One number more. -/
theorem Sn.push {w W : World} {B S : Nat} {i t : Int} {vc : Value} {cs : List Int} {st : R} (h : Sn w B S W i t vc cs st) (hl : cs.length ≤ 10000000000000) (x : Int) :
    ∃ g cap w3, (∀ ty, (Builtin.append_ #[52, 52] ty #[vc, .slice (some ⟨W.heap.size, 0, none⟩) 1 1]).run Try.prog (W.alloc (.cells #[.int .i64 x] 3)) = .ok (.slice (some ⟨g, 0, none⟩) (cs.length + 1) cap) w3) ∧
      w3.cell? ⟨S, 2, none⟩ = some vc ∧ w3.frozen? ⟨S, 2, none⟩ = false ∧ Hid (Sn w B S (w3.setCell ⟨S, 2, none⟩ (.slice (some ⟨g, 0, none⟩) (cs.length + 1) cap)) i t (.slice (some ⟨g, 0, none⟩) (cs.length + 1) cap) (cs ++ [x]) st) := by
  obtain ⟨h1, h2, h3, h4, h5, h6⟩ := h
  obtain ⟨g, cap, w3, hap, ho, hg⟩ := push_int h4 hl h5.size x
  have hS := lt_of_block h2
  have hne := own_row_ne h4 h2 (by decide)
  have hS3 : w3.heap[S]? = some (Obj.cells #[.int .i64 i, .int .i64 t, vc, .slice none 0 0] 62 (0, 0)) := by
    rw [hg.out.block S hS (fun e => hne e.symm)]
    exact h2
  have hne3 := own_row_ne ho.out hS3 (by decide)
  have hblk : ∀ k, vc.ownBlock = some k → w.heap.size ≤ k := by
    intro k hk
    rcases h4.2 with ⟨rfl, _⟩ | ⟨g', cap', cur, rfl, hb, _⟩
    · simp [Value.ownBlock] at hk
    · simp [Value.ownBlock] at hk; omega
  have hgr : w.grownBy w3 (some B) := ⟨hg.out.os.trans h5.os, hg.out.tape.trans h5.tape, hg.out.output.trans h5.output, Nat.le_trans h5.size hg.out.size, fun k hk hkB => by
    rw [hg.out.block k (Nat.lt_of_lt_of_le hk h5.size) (fun e => by have := hblk k e.symm; omega)]
    exact h5.block k hk hkB⟩
  have hb3 : Below w.heap.size W w3 := ⟨hg.out.os, hg.out.tape, hg.out.output, hg.out.size, fun k hk => hg.out.block k (Nat.lt_of_lt_of_le hk h5.size) (fun e => by have := hblk k e.symm; omega)⟩
  have hbs : Below w.heap.size w3 (w3.setCell ⟨S, 2, none⟩ (.slice (some ⟨g, 0, none⟩) (cs.length + 1) cap)) := (Below.refl _ w3).setCell (p := ⟨S, 2, none⟩) h3 _
  refine ⟨g, cap, w3, hap, by rw [cell_of_row w3 S 2 _ 62 (0, 0) hS3]; rfl, frozen_of_row w3 S 2 _ 62 hS3, ?_, ?_, h3, ?_, ?_, h6⟩
  · exact h1.above h6 (hb3.trans hbs)
  · rw [heap_setCell_same w3 S 2 _ 62 _ hS3]
    rfl
  · rw [List.length_append]
    have e : cI (cs ++ [x]) = cI cs ++ [.int .i64 x] := by simp [cI]
    rw [e]
    refine ⟨ho.out.1, ?_⟩
    rcases ho.out.2 with hn' | ⟨g', cap', cur, e1, hb', hgg, rest⟩
    · exact .inl hn'
    · refine .inr ⟨g', cap', cur, e1, hb', ?_, rest⟩
      rw [Below.heap_setCell _ _ _ _ (fun e : g' = S => hne3 (by rw [e1, ← e]; rfl))]
      exact hgg
  · exact ⟨hgr.os, hgr.tape, hgr.output, by simpa [World.setCell] using hgr.size, fun k hk hkB => by
      rw [Below.heap_setCell _ _ _ _ (show k ≠ S by omega)]
      exact hgr.block k hk hkB⟩
/-- Behind the data. -/
theorem own_aside {W : World} {b e n S o : Nat} {v x : Value} {xs : List Value} (h : W.ownsRow b e 1 v n xs) (hS : v.ownBlock ≠ some S) : (W.setCell ⟨S, o, none⟩ x).ownsRow b e 1 v n xs := by
  refine ⟨h.1, ?_⟩
  rcases h.2 with hn' | ⟨g', cap', cur, e1, hb', hgg, rest⟩
  · exact .inl hn'
  · refine .inr ⟨g', cap', cur, e1, hb', ?_, rest⟩
    rw [Below.heap_setCell _ _ _ _ (fun e : g' = S => hS (by rw [e1, ← e]; rfl))]
    exact hgg
theorem own_low {W : World} {b b' e s n : Nat} {v : Value} {xs : List Value} (h : W.ownsRow b e s v n xs) (hb : b' ≤ b) : W.ownsRow b' e s v n xs := by
  refine ⟨h.1, ?_⟩
  rcases h.2 with hn' | ⟨g', cap', cur, e1, hb', rest⟩
  · exact .inl hn'
  · exact .inr ⟨g', cap', cur, e1, by omega, rest⟩
theorem own_ge {W : World} {b e s n : Nat} {v : Value} {xs : List Value} (h : W.ownsRow b e s v n xs) : ∀ k, v.ownBlock = some k → b ≤ k := by
  intro k hk
  rcases h.2 with ⟨rfl, _⟩ | ⟨g', cap', cur, rfl, hb, _⟩
  · simp [Value.ownBlock] at hk
  · simp [Value.ownBlock] at hk; omega
theorem Sn.done {w W W5 : World} {B S : Nat} {i t : Int} {vc u : Value} {cs : List Int} {st st' : R} {d : List UInt8} (h : Sn w B S W i t vc cs st) (hq : Rq W5 w.heap.size B st') (hg : W.grownBy W5 (some B)) (hu : W5.ownsRow W.heap.size 5 1 u d.length (cells8 d)) :
    W5.cell? ⟨S, 3, none⟩ = some (.slice none 0 0) ∧ W5.frozen? ⟨S, 3, none⟩ = false ∧ Hid (Rq (W5.setCell ⟨S, 3, none⟩ u) w.heap.size B st' ∧ Sr w.heap.size (W5.setCell ⟨S, 3, none⟩ u) S ⟨i, t, cs, d⟩ ∧ w.grownBy (W5.setCell ⟨S, 3, none⟩ u) (some B)) := by
  obtain ⟨h1, h2, h3, h4, h5, h6⟩ := h
  have hS := lt_of_block h2
  have hS5 : W5.heap[S]? = some (Obj.cells #[.int .i64 i, .int .i64 t, vc, .slice none 0 0] 62 (0, 0)) := by
    rw [hg.block S hS (by simp; omega)]
    exact h2
  have h45 := own_rd h4 hg h6
  have hne := own_row_ne h45 hS5 (by decide)
  have hneu : u.ownBlock ≠ some S := fun e => by have := own_ge hu S e; omega
  have hgr := h5.trans hg
  refine ⟨by rw [cell_of_row W5 S 3 _ 62 (0, 0) hS5]; rfl, frozen_of_row W5 S 3 _ 62 hS5, hq.above h6 ((Below.refl _ W5).setCell (p := ⟨S, 3, none⟩) h3 _), ⟨vc, u, ?_, h3, own_aside h45 hne, own_aside (own_low hu h5.size) hneu⟩, ?_⟩
  · rw [heap_setCell_same W5 S 3 _ 62 _ hS5]
    rfl
  · exact ⟨hgr.os, hgr.tape, hgr.output, by simpa [World.setCell] using hgr.size, fun k hk hkB => by
      rw [Below.heap_setCell _ _ _ _ (show k ≠ S by omega)]
      exact hgr.block k hk hkB⟩

theorem rdC_zero (n : Int) (st : R) (h : ¬ 0 < n) : rdC n.toNat st = ([], st) := by
  rw [show n.toNat = 0 by omega]
  rfl
theorem rdC_none (n : Int) : rdC n.toNat none = ([], none) := by
  cases n.toNat <;> rfl
theorem rdC_step (n : Int) (l : List UInt8) (h : 0 < n) : rdC n.toNat (some l) = ((rNum (some l)).1 :: (rdC (n - 1).toNat (rNum (some l)).2).1, (rdC (n - 1).toNat (rNum (some l)).2).2) := by
  rw [show n.toNat = (n - 1).toNat + 1 by omega, rdC]
  rfl
/-- How far a reader may still go. -/
def goS : R → Nat
  | none => 0
  | some l => l.length + 1
theorem goS_num (l : List UInt8) : goS (rNum (some l)).2 + 1 ≤ goS (some l) := by
  have h := rNum_len (some l)
  cases hn : (rNum (some l)).2 with
  | none => simp [goS]
  | some m =>
    rw [hn] at h
    simp only [goS, lenS, Option.getD_some] at h ⊢
    cases l with
    | nil =>
      have e : (rNum (some [])).2 = none := rfl
      rw [e] at hn
      cases hn
    | cons c r => simp only [List.length_cons] at h ⊢; omega

theorem rNum_bds (st : R) : -9223372036854775808 ≤ (rNum st).1 ∧ (rNum st).1 ≤ 9223372036854775807 := by
  cases st with
  | none => simp [rNum]
  | some bs =>
    cases hn : num bs with
    | none =>
      have e : rNum (some bs) = (0, none) := by simp [rNum, hn]
      rw [e]
      simp
    | some uk =>
      obtain ⟨u, k⟩ := uk
      have e : rNum (some bs) = (zag u, some (bs.drop k)) := by simp [rNum, hn]
      have := num_bds hn
      rw [e]
      show -9223372036854775808 ≤ zag u ∧ zag u ≤ 9223372036854775807
      unfold zag
      split <;> omega

end Go.Proofs.Ytgknpbgepgmmmaa.Kp
namespace Go.Proofs.Ytgknpbgepgmmmaa.Cm
open Go.RowKit Bn Kp

/-- All blocks but two are as they were. -/
abbrev Kb (A B : Nat) (w w' : World) : Prop := Wrote w w' B (some A)
theorem Kb.trans {A B : Nat} {a b c : World} (h : Kb A B a b) (k : Kb A B b c) : Kb A B a c :=
  ⟨k.os.trans h.os, k.tape.trans h.tape, k.output.trans h.output, Nat.le_trans h.size k.size, fun i hi hB hr => (k.block i (Nat.lt_of_lt_of_le hi h.size) hB hr).trans (h.block i hi hB hr)⟩
theorem Kb.of_grown {A B : Nat} {w w' : World} (h : w.grownBy w' (some B)) : Kb A B w w' :=
  ⟨h.os, h.tape, h.output, h.size, fun k hk hB _ => h.block k hk (by simpa using hB)⟩
theorem Kb.of_below {A B : Nat} {w w' : World} (h : Below w.heap.size w w') : Kb A B w w' :=
  ⟨h.os, h.tape, h.output, h.size, fun k hk _ _ => h.block k hk⟩
theorem Kb.of_below_at {A B b : Nat} {w w' : World} (h : Below b w w') (hb : w.heap.size ≤ b) : Kb A B w w' := Kb.of_below (h.mono hb)
theorem Kb.setA {A B : Nat} {w w' : World} (h : Kb A B w w') (o : Nat) (v : Value) : Kb A B w (w'.setCell ⟨A, o, none⟩ v) :=
  ⟨h.os, h.tape, h.output, by simpa [World.setCell] using h.size, fun k hk hB hr => by
    rw [Below.heap_setCell _ _ _ _ (show k ≠ A from fun e => hr (by rw [e]))]
    exact h.block k hk hB hr⟩
theorem Kb.below {A B b : Nat} {w w' : World} (h : Kb A B w w') (hb : b ≤ w.heap.size) (hA : b ≤ A) (hB : b ≤ B) : Below b w w' :=
  ⟨h.os, h.tape, h.output, h.size, fun k hk => h.block k (by omega) (by omega) (by simp; omega)⟩
theorem Kb.drew {A B : Nat} {w w' : World} (h : Kb A B w w') : Kb A B w w'.drew := ⟨h.os, h.tape, h.output, h.size, h.block⟩

/-- The command's reader at A, the reader of bytes at B, whose bytes lie below b. -/
structure Cr (w : World) (b A B : Nat) (st : R) (wr : Bool) : Prop where
  at_ : w.heap[A]? = some (.cells #[.pointer (some ⟨B, 0, none⟩), .bool wr] 80 (0, 0))
  q : Rq w b B st
  a_lt : A < b
  b_lt : B < b
  ne : A ≠ B
  le : b ≤ w.heap.size

theorem Cr.cells {w : World} {b A B : Nat} {st : R} {wr : Bool} (h : Cr w b A B st wr) : w.cell? ⟨A, 0, none⟩ = some (.pointer (some ⟨B, 0, none⟩)) ∧ w.cell? ⟨A, 1, none⟩ = some (.bool wr) ∧ w.frozen? ⟨A, 0, none⟩ = false ∧ w.frozen? ⟨A, 1, none⟩ = false :=
  two_cells h.at_
theorem Cr.above {w w' : World} {b A B : Nat} {st : R} {wr : Bool} (h : Cr w b A B st wr) (hb : Below b w w') : Cr w' b A B st wr :=
  ⟨by rw [hb.block A h.a_lt]; exact h.at_, h.q.above h.b_lt hb, h.a_lt, h.b_lt, h.ne, Nat.le_trans h.le hb.size⟩
theorem Cr.kept {w w' : World} {b A B : Nat} {st : R} {wr : Bool} (h : Cr w b A B st wr) (hb : Below w.heap.size w w') : Cr w' b A B st wr := h.above (hb.mono h.le)
theorem Cr.drew {w : World} {b A B : Nat} {st : R} {wr : Bool} (h : Cr w b A B st wr) : Cr w.drew b A B st wr := h.above (Below.refl _ _).drew
theorem Cr.alloc {w : World} {b A B : Nat} {st : R} {wr : Bool} (h : Cr w b A B st wr) (o : Obj) : Cr (w.alloc o) b A B st wr := h.above ((Below.refl _ _).alloc h.le _)
theorem Cr.grown {w w' : World} {b A B : Nat} {st st' : R} {wr : Bool} (h : Cr w b A B st wr) (hq : Rq w' b B st') (hg : w.grownBy w' (some B)) : Cr w' b A B st' wr :=
  ⟨by rw [hg.block A (lt_of_block h.at_) (by simpa using h.ne)]; exact h.at_, hq, h.a_lt, h.b_lt, h.ne, Nat.le_trans h.le hg.size⟩
theorem Cr.wrong {w : World} {b A B : Nat} {st : R} {wr : Bool} (h : Cr w b A B st wr) (x : Bool) : Cr (w.setCell ⟨A, 1, none⟩ (.bool x)) b A B st x := by
  refine ⟨set_second h.at_, ?_, h.a_lt, h.b_lt, h.ne, by simpa [World.setCell] using h.le⟩
  obtain ⟨v, hB, hS, hp, hl, hk⟩ := h.q
  refine ⟨v, by rw [Below.heap_setCell _ _ _ _ (Ne.symm h.ne)]; exact hB, ?_, hp, hl, hk⟩
  refine hS.kept fun g o n hc => ?_
  refine Below.heap_setCell _ _ _ _ (fun e : g = A => ?_)
  subst e
  have := cell_of_row w g o _ 80 (0, 0) h.at_
  rw [hc] at this
  match o with
  | 0 => simp at this
  | 1 => simp at this
  | o + 2 => simp at this

/-- A row of one's own, laid behind b, is kept by what changes the reader alone. -/
theorem own_kb {w w' : World} {b e s n A B : Nat} {v : Value} {xs : List Value} (h : w.ownsRow b e s v n xs) (hk : Kb A B w w') (hA : A < b) (hB : B < b) : w'.ownsRow b e s v n xs := by
  refine ⟨h.1, ?_⟩
  rcases h.2 with h2 | ⟨g, cap, cur, e1, e2, e3, e4⟩
  · exact Or.inl h2
  · refine Or.inr ⟨g, cap, cur, e1, e2, ?_, e4⟩
    rw [hk.block g (lt_of_block e3) (by omega) (by simp; omega)]
    exact e3

set_option maxHeartbeats 400000 in
theorem must_any {w : World} {b A B : Nat} {st : R} {wr : Bool} (h : Cr w b A B st wr) (x : Bool) :
    Calls Try.prog 37 #[.pointer (some ⟨A, 0, none⟩), .bool x] w fun e w' => e = .returned (.tuple #[]) ∧ Hid (Cr w' b A B st (wr || !x) ∧ Kb A B w w') := by
  obtain ⟨c0, c1, f0, f1⟩ := h.cells
  have HP : Hid (∀ y, Cr (w.setCell ⟨A, 1, none⟩ (.bool y)) b A B st y ∧ Kb A B w (w.setCell ⟨A, 1, none⟩ (.bool y))) := fun y => ⟨h.wrong y, Kb.setA (Wrote.refl _ _ _) _ _⟩
  clear h
  cases wr
  · go_enter Try.func37, Try.ntmps37
    go_wp2
    go_end0
    exact ⟨rfl, HP.out _⟩
  · go_enter Try.func37, Try.ntmps37
    go_wp2
    go_end0
    exact ⟨rfl, HP.out _⟩

set_option maxHeartbeats 400000 in
theorem goesOn_any {w : World} {b A B : Nat} {st : R} {wr : Bool} (h : Cr w b A B st wr) :
    Calls Try.prog 67 #[.pointer (some ⟨A, 0, none⟩)] w fun e w' => e = .returned (.bool (st.isSome && !wr)) ∧ w' = w := by
  obtain ⟨c0, c1, f0, f1⟩ := h.cells
  have HO := hide (ok_any B st w h.q.rd)
  clear h
  cases hs : st.isSome
  · rw [hs] at HO
    go_enter Try.func67, Try.ntmps67
    go_wp2_with (go_at_call 63; refine Calls.mono HO.out ?_; rintro e w' ⟨rfl, hw⟩; have hw' := hw.symm; subst hw')
    go_ret
    exact ⟨rfl, rfl⟩
  · rw [hs] at HO
    go_enter Try.func67, Try.ntmps67
    go_wp2_with (go_at_call 63; refine Calls.mono HO.out ?_; rintro e w' ⟨rfl, hw⟩; have hw' := hw.symm; subst hw')
    go_ret
    exact ⟨rfl, rfl⟩

/-- The bytes of data: a row of one's own, or nil where there are none. -/
def Dt (b : Nat) (w : World) (v : Value) (t : List UInt8) : Prop := w.ownsRow b 5 1 v t.length (cells8 t)

set_option maxHeartbeats 400000 in
theorem data_any {w : World} {b A B : Nat} {st : R} {wr : Bool} (h : Cr w b A B st wr) :
    Calls Try.prog 55 #[.pointer (some ⟨A, 0, none⟩)] w fun e w' => ∃ ao L cap, e = .returned (.slice ao L cap) ∧ Hid (Cr w' b A B (rText st).2 wr ∧ Dt w.heap.size w' (.slice ao L cap) (rText st).1 ∧ Kb A B w w') := by
  obtain ⟨c0, c1, f0, f1⟩ := h.cells
  have HQ := hide (qtext_any b B st w h.q)
  have HC := hide h
  obtain ⟨t, ht⟩ : ∃ t, Hid ((rText st).1 = t) := ⟨_, (rfl : _ = _)⟩
  rw [ht.out] at HQ ⊢
  clear h
  go_enter Try.func55, Try.ntmps55
  go_wp2_with fail
  refine Calls.mono HQ.out ?_
  rintro e w1 ⟨v, rfl, hO, hq, hg⟩
  have HP := hide (⟨HC.out.grown hq hg, hO, Kb.of_grown hg⟩ : Cr w1 b A B (rText st).2 wr ∧ Dt w.heap.size w1 v t ∧ Kb A B w w1)
  clear hq hg HQ
  rcases Kp.own_shape hO with ⟨rfl, h0⟩ | ⟨g, cap, rfl, _⟩
  · clear hO
    have h0' := hide h0
    clear h0
    go_wp2_with fail
    go_ret
    exact ⟨_, _, _, rfl, HP.out⟩
  · clear hO
    by_cases h0 : t.length = 0
    · have HT := hide h0
      rw [h0] at HP ⊢
      clear h0
      go_wp2_with fail
      go_ret
      refine ⟨_, _, _, rfl, HP.out.1, ?_, HP.out.2.2⟩
      rw [List.eq_nil_of_length_eq_zero HT.out]
      exact World.ownsRow_nil _ _ _ _
    · have hne : ((t.length : Int) == 0) = false := by rw [beq_eq_false_iff_ne]; omega
      clear h0
      go_wp2_with fail
      go_ret
      exact ⟨_, _, _, rfl, HP.out⟩

set_option maxHeartbeats 400000 in
theorem readC_any (v : Value) (bs : List UInt8) (w : World) (h : Sl w v bs) (hl : bs.length ≤ 140737488355328) :
    Calls Try.prog 34 #[v] w fun e w' => ∃ A, e = .returned (.pointer (some ⟨A, 0, none⟩)) ∧ Hid (∃ b B, Cr w' b A B (some bs) false ∧ w.heap.size ≤ A ∧ w.heap.size ≤ B ∧ b = w'.heap.size ∧ Below w.heap.size w w') := by
  have HR := hide (read_q v bs w h hl)
  obtain ⟨ao, cap, rfl, h1, h2⟩ := h.shape
  clear h h1 h2 hl
  go_enter Try.func34, Try.ntmps34
  go_wp2_with fail
  refine Calls.mono HR.out ?_
  rintro e w1 ⟨B, rfl, hB, hq, hb⟩
  go_wp2_with fail
  go_ret
  have hlt := hq.out.rd.lt
  refine ⟨w1.heap.size, rfl, w1.heap.size + 1, B, ⟨heap_alloc_new _ _, ?_, by omega, by omega, by omega, by simp⟩, hb.out.size, hB, by simp, hb.out.alloc hb.out.size _⟩
  exact (hq.out.mono (by omega)).below ((Below.refl _ _).alloc (Nat.le_refl _) _)

end Go.Proofs.Ytgknpbgepgmmmaa.Cm
namespace Go.Proofs.Ytgknpbgepgmmmaa.Cm
open Go.RowKit Bn Kp

theorem wpList_append_run {P : Program} (w : World) {ops : Array Oper} {rest : List Oper} {o : Oper} {a : Act} {Q : Exit → Act → World → Prop} (hgd : o.guard = none) (d x : Operand) (dT sT : TypeId)
    (ho : o.op = .call { callee := .builtin .append, args := #[d, x], argTypes := #[dT, sT] }) (v u : Value) (hd : a.eval d = v) (hx : a.eval x = u) {v' : Value} {w' : World}
    (hr : (Builtin.append_ #[dT, sT] o.type #[v, u]).run P w = .ok v' w') (h : wpList P ops Q rest (a.put o.dst v') w') : wpList P ops Q (o :: rest) a w := by
  refine wpList_plain hgd fun _ hK => ?_
  unfold Oper.wp
  simp [execOp, ho, resolve, invoke, builtin, hd, hx, hr, Result.andThen]
  exact hK _ _ h

/-- One more element at the end of a row. -/
theorem push_row (t e size bytes : Nat) (z : Value) (ht : Try.prog.underlying t = some (.slice e)) (hi : (Try.prog.info? e).map (fun i => (i.zero, i.size, i.bytes)) = some (some z, size, bytes)) (hzs : z.cells.size = size) (hs0 : 0 < size) (hby : bytes ≤ 1000)
    {W : World} {base n : Nat} {v : Value} {xs : List Value} (h : W.ownsRow base e size v n xs) (cs : List Value) (hc : cs.length = size) (h1 : ∀ u ∈ cs, u.oneCell' = true) (hl : n ≤ 10000000) (hbase : base ≤ W.heap.size) :
    ∃ g cap w3, (∀ ty, (Builtin.append_ #[t, t] ty #[v, .slice (some ⟨W.heap.size, 0, none⟩) 1 1]).run Try.prog (W.alloc (.cells cs.toArray e)) = .ok (.slice (some ⟨g, 0, none⟩) (n + 1) cap) w3) ∧
      Hid (w3.ownsRow base e size (.slice (some ⟨g, 0, none⟩) (n + 1) cap) (n + 1) (xs ++ cs)) ∧ Hid (W.grownBy w3 v.ownBlock) := by
  obtain ⟨i, hi, hz, hsize, hbyt⟩ := info_parts hi
  have ha : (W.alloc (.cells cs.toArray e)).ownsRow base e size v n xs := h.alloc _
  have H := fun ty => run_append_own_at (P := Try.prog) (W.alloc (.cells cs.toArray e)) base t ty e i z size bytes ht hi hz hsize hbyt hzs hs0 v n xs ha ⟨W.heap.size, 0, none⟩ 1 1 cs (by omega) (fun j u hj => by
    rw [Addr.add_lit, Nat.zero_add, cell_of_row _ _ j _ _ _ (heap_alloc_new _ _)]
    simpa using hj) h1 (by simp only [maxLen]; omega) (by
      have : (n + 1) * bytes ≤ 10000001 * 1000 := Nat.mul_le_mul (by omega) hby
      omega) (by simp; omega)
  obtain ⟨v', w', hr, g1, g2, _, g4⟩ := H 0
  have hF : W.grownBy w' v.ownBlock := (World.grownBy_alloc W _ _).trans g2
  rcases Kp.own_shape g1 with ⟨_, h0⟩ | ⟨g', cap, rfl, _⟩
  · omega
  · exact ⟨g', cap, w', fun ty => hr, g1, hF⟩

/-- What an append onto a row that lies behind b leaves. -/
theorem grown_below_row {W W' : World} {b e s n : Nat} {v : Value} {xs : List Value} (hg : W.grownBy W' v.ownBlock) (h : W.ownsRow b e s v n xs) (hb : b ≤ W.heap.size) : Below b W W' :=
  ⟨hg.os, hg.tape, hg.output, hg.size, fun k hk => hg.block k (by omega) (fun e => by have := own_ge h k e.symm; omega)⟩
theorem own_ge' {W : World} {b e s n : Nat} {v : Value} {xs : List Value} (h : W.ownsRow b e s v n xs) : ∀ k, v.ownBlock = some k → b ≤ k := own_ge h

def cntOk (n most : Int) : Bool := decide (0 ≤ n) && decide (n ≤ most)
/-- Elements one after the other, as long as the reader goes on. -/
def rdL {α : Type} (one : R → α × R) (wr : Bool) : Nat → R → List α × R
  | 0, st => ([], st)
  | _ + 1, none => ([], none)
  | f + 1, some l => if wr then ([], some l) else ((one (some l)).1 :: (rdL one wr f (one (some l)).2).1, (rdL one wr f (one (some l)).2).2)
def rdLs {α : Type} (one : R → α × R) (most : Int) (st : R) (wr : Bool) : (List α × R) × Bool :=
  (rdL one (wr || !cntOk (rNum st).1 most) (rNum st).1.toNat (rNum st).2, wr || !cntOk (rNum st).1 most)
theorem rdL_zero {α : Type} (one : R → α × R) (wr : Bool) (n : Int) (st : R) (h : ¬ 0 < n) : rdL one wr n.toNat st = ([], st) := by
  rw [show n.toNat = 0 by omega]; rfl
theorem rdL_off {α : Type} (one : R → α × R) (wr : Bool) (n : Nat) (st : R) (h : (st.isSome && !wr) = false) : rdL one wr n st = ([], st) := by
  cases n with
  | zero => rfl
  | succ n =>
    cases st with
    | none => rfl
    | some l => cases wr <;> simp_all [rdL]
theorem rdL_step {α : Type} (one : R → α × R) (n : Int) (l : List UInt8) (h : 0 < n) : rdL one false n.toNat (some l) = ((one (some l)).1 :: (rdL one false (n - 1).toNat (one (some l)).2).1, (rdL one false (n - 1).toNat (one (some l)).2).2) := by
  rw [show n.toNat = (n - 1).toNat + 1 by omega, rdL]
  rfl

theorem cnum {w : World} {b A B : Nat} {st : R} {wr : Bool} (h : Cr w b A B st wr) :
    Calls Try.prog 35 #[.pointer (some ⟨B, 0, none⟩)] w fun e w' => e = .returned (.int .i64 (rNum st).1) ∧ Hid (Cr w' b A B (rNum st).2 wr ∧ Kb A B w w') := by
  refine (qnum_any b B st w h.q).mono ?_
  rintro e w' ⟨rfl, hq, hg⟩
  exact ⟨rfl, h.grown hq hg, Kb.of_grown hg⟩
theorem cflag {w : World} {b A B : Nat} {st : R} {wr : Bool} (h : Cr w b A B st wr) :
    Calls Try.prog 43 #[.pointer (some ⟨B, 0, none⟩)] w fun e w' => e = .returned (.bool (rFlag st).1) ∧ Hid (Cr w' b A B (rFlag st).2 wr ∧ Kb A B w w') := by
  refine (qflag_any b B st w h.q).mono ?_
  rintro e w' ⟨rfl, hq, hg⟩
  exact ⟨rfl, h.grown hq hg, Kb.of_grown hg⟩
theorem ctext {w : World} {b A B : Nat} {st : R} {wr : Bool} (h : Cr w b A B st wr) :
    Calls Try.prog 36 #[.pointer (some ⟨B, 0, none⟩)] w fun e w' => ∃ ao L cap, e = .returned (.slice ao L cap) ∧ Hid (Cr w' b A B (rText st).2 wr ∧ Dt w.heap.size w' (.slice ao L cap) (rText st).1 ∧ Kb A B w w') := by
  refine (qtext_any b B st w h.q).mono ?_
  rintro e w' ⟨v, rfl, hO, hq, hg⟩
  obtain ⟨ao, L, cap, rfl⟩ := Kp.own_slice hO
  exact ⟨ao, L, cap, rfl, h.grown hq hg, hO, Kb.of_grown hg⟩

set_option maxHeartbeats 400000 in
theorem readId_any {w : World} {b A B : Nat} {st : R} {wr : Bool} (h : Cr w b A B st wr) :
    Calls Try.prog 54 #[.pointer (some ⟨A, 0, none⟩)] w fun e w' => e = .returned (.int .i64 (rNum st).1) ∧ Hid (Cr w' b A B (rNum st).2 wr ∧ Kb A B w w') := by
  obtain ⟨c0, c1, f0, f1⟩ := h.cells
  have HQ := hide (cnum h)
  clear h
  go_enter Try.func54, Try.ntmps54
  go_wp2_with fail
  refine Calls.mono HQ.out ?_
  rintro e w1 ⟨rfl, HP⟩
  go_wp2_with fail
  go_ret
  exact ⟨rfl, HP.out⟩

/-- A text out of its bytes. -/
abbrev tx (bs : List UInt8) : Value := .string ⟨bs.toArray⟩

set_option maxHeartbeats 400000 in
theorem readRow_any {w : World} {b A B : Nat} {st : R} {wr : Bool} (h : Cr w b A B st wr) :
    Calls Try.prog 45 #[.pointer (some ⟨A, 0, none⟩)] w fun e w' => e = .returned (tx (rText st).1) ∧ Hid (Cr w' b A B (rText st).2 wr ∧ Kb A B w w') := by
  obtain ⟨c0, c1, f0, f1⟩ := h.cells
  have HQ := hide (ctext h)
  obtain ⟨t, ht⟩ : ∃ t, Hid ((rText st).1 = t) := ⟨_, (rfl : _ = _)⟩
  rw [ht.out] at HQ ⊢
  clear h
  go_enter Try.func45, Try.ntmps45
  go_wp2_with fail
  refine Calls.mono HQ.out ?_
  rintro e w1 ⟨ao, L, cap, rfl, HP⟩
  have HS := hide (str_of_sl (P := Try.prog) (Sl.of_own HP.out.2.1) 24 5 9 Try.underlying24 Try.underlying5 Try.underlying9)
  have hs := HS.out
  clear HQ
  go_wp2_with fail
  go_ret
  exact ⟨rfl, HP.out.1, HP.out.2.2⟩

/-- A list that is read grows by one. -/
theorem list_push (t e size bytes : Nat) (z : Value) (ht : Try.prog.underlying t = some (.slice e)) (hi : (Try.prog.info? e).map (fun i => (i.zero, i.size, i.bytes)) = some (some z, size, bytes)) (hzs : z.cells.size = size) (hs0 : 0 < size) (hby : bytes ≤ 1000)
    {w W W5 : World} {b A B n : Nat} {st : R} {wr : Bool} {v : Value} {xs : List Value} (hC : Cr W5 b A B st wr) (hk : Kb A B w W) (hk5 : Kb A B W W5) (ho : W.ownsRow w.heap.size e size v n xs) (hbw : b ≤ w.heap.size)
    (cs : List Value) (hc : cs.length = size) (h1 : ∀ u ∈ cs, u.oneCell' = true) (hl : n ≤ 1000000) :
    ∃ g cap w6, (∀ ty, (Builtin.append_ #[t, t] ty #[v, .slice (some ⟨W5.heap.size, 0, none⟩) 1 1]).run Try.prog (W5.alloc (.cells cs.toArray e)) = .ok (.slice (some ⟨g, 0, none⟩) (n + 1) cap) w6) ∧
      Hid (Cr w6 b A B st wr ∧ Kb A B w w6 ∧ w6.ownsRow w.heap.size e size (.slice (some ⟨g, 0, none⟩) (n + 1) cap) (n + 1) (xs ++ cs)) ∧ Hid (W5.grownBy w6 v.ownBlock) := by
  have hA := hC.a_lt
  have hB := hC.b_lt
  have ho5 := own_kb ho hk5 (by omega) (by omega)
  have hsz := (hk.trans hk5).size
  obtain ⟨g, cap, w6, hr, ho6, hg6⟩ := push_row t e size bytes z ht hi hzs hs0 hby ho5 cs hc h1 (by omega) hsz
  have hb6 := grown_below_row hg6.out ho5 hsz
  have hk' := hk.trans hk5
  exact ⟨g, cap, w6, hr, ⟨hC.above (hb6.mono hbw), ⟨hb6.os.trans hk'.os, hb6.tape.trans hk'.tape, hb6.output.trans hk'.output, Nat.le_trans hk'.size hb6.size, fun k hk1 h2 h3 => (hb6.block k hk1).trans (hk'.block k hk1 h2 h3)⟩, ho6.out⟩, hg6⟩

set_option maxHeartbeats 2000000 in
theorem readIds_any {w : World} {b A B : Nat} {st : R} {wr : Bool} (h : Cr w b A B st wr) (most : Int) (hl : goS st ≤ 1000000) :
    Calls Try.prog 53 #[.pointer (some ⟨A, 0, none⟩), .int .i64 most, .func (.func 54) #[] #[]] w fun e w' => ∃ ao L cap, e = .returned (.slice ao L cap) ∧
      Hid (Cr w' b A B (rdLs rNum most st wr).1.2 (rdLs rNum most st wr).2 ∧ w'.ownsRow w.heap.size 3 1 (.slice ao L cap) (rdLs rNum most st wr).1.1.length (cI (rdLs rNum most st wr).1.1) ∧ Kb A B w w') := by
  obtain ⟨c0, c1, f0, f1⟩ := h.cells
  have HQ := hide (cnum h)
  have hbw := hide h.le
  have hAb := hide h.a_lt
  have hBb := hide h.b_lt
  obtain ⟨n0, st1, e1⟩ : ∃ n s, rNum st = (n, s) := ⟨_, _, rfl⟩
  have hn0 := rNum_bds st
  obtain ⟨wr1, HW1⟩ : ∃ x, Hid ((wr || !cntOk n0 most) = x) := ⟨_, (rfl : _ = _)⟩
  have HA : Hid (rdLs rNum most st wr = (rdL rNum wr1 n0.toNat st1, wr1)) := by
    show _ = _
    rw [rdLs, e1]
    simp only [HW1.out]
  have hl1 : Hid (goS st1 ≤ 1000000) := by
    have h1 := rNum_len st
    rw [e1] at h1
    show goS st1 ≤ 1000000
    cases st1 with
    | none => simp [goS]
    | some m =>
      cases st with
      | none => simp [rNum] at e1
      | some l => simp only [lenS, goS, Option.getD_some] at h1 hl ⊢; omega
  rw [e1] at HQ hn0
  clear e1 hl h
  go_enter Try.func53, Try.ntmps53
  go_wp2_with fail
  refine Calls.mono HQ.out ?_
  rintro e w1 ⟨rfl, HP1⟩
  clear HQ
  have HM := fun x => hide (must_any HP1.out.1 x)
  go_upto_region 2 with fail
  go_cut [] from 14 to 23 (fun wc => Hid (Cr wc b A B st1 wr1 ∧ Kb A B w wc))
  case first =>
    by_cases ha : 0 ≤ n0
    · by_cases hb : n0 ≤ most
      · have e : cntOk n0 most = true := by simp [cntOk, ha, hb]
        go_wp2_with (go_at_call 37; refine Calls.mono (HM true).out ?_; rintro e w2 ⟨rfl, HP2⟩)
        go_meet
        have h2 := HW1.out
        rw [e] at h2
        exact ⟨by rw [← h2]; exact HP2.out.1, HP1.out.2.trans HP2.out.2⟩
      · have e : cntOk n0 most = false := by simp [cntOk, hb]
        go_wp2_with (go_at_call 37; refine Calls.mono (HM false).out ?_; rintro e w2 ⟨rfl, HP2⟩)
        go_meet
        have h2 := HW1.out
        rw [e] at h2
        exact ⟨by rw [← h2]; exact HP2.out.1, HP1.out.2.trans HP2.out.2⟩
    · have e : cntOk n0 most = false := by simp [cntOk, ha]
      go_wp2_with (go_at_call 37; refine Calls.mono (HM false).out ?_; rintro e w2 ⟨rfl, HP2⟩)
      go_meet
      have h2 := HW1.out
      rw [e] at h2
      exact ⟨by rw [← h2]; exact HP2.out.1, HP1.out.2.trans HP2.out.2⟩
  case rest =>
    have HC := hcut
    clear hcut HM HP1 HW1 c0 c1 f0 f1
    go_wp2_with fail
    go_loopw [7, 8] (fun cv lv wr => ∃ (n : Int) (cs : List Int) (st : R), cv = .int .i64 n ∧ (-9223372036854775808 ≤ n ∧ n ≤ 9223372036854775807) ∧ cs.length + goS st ≤ 1000000 ∧ Hid (Cr wr b A B st wr1 ∧ Kb A B w wr ∧ wr.ownsRow w.heap.size 3 1 lv cs.length (cI cs)) ∧ Hid (cs ++ (rdL rNum wr1 n.toNat st).1 = (rdL rNum wr1 n0.toNat st1).1 ∧ (rdL rNum wr1 n.toNat st).2 = (rdL rNum wr1 n0.toNat st1).2)) (fun cv _ _ => (intOf cv).toNat)
    case atStart => exact ⟨n0, [], st1, rfl, hn0, by simpa using hl1.out, ⟨HC.out.1, HC.out.2, World.ownsRow_nil _ _ _ _⟩, rfl, rfl⟩
    case round =>
      obtain ⟨n, cs, st, rfl, hn, hlen, HS, HE⟩ := hrel
      obtain ⟨ao, L, cap, rfl⟩ := Kp.own_slice HS.out.2.2
      by_cases hp : 0 < n
      · have HG := hide (goesOn_any HS.out.1)
        cases hg : (st.isSome && !wr1)
        · rw [hg] at HG
          have HOff := hide (rdL_off rNum wr1 n.toNat st hg)
          clear hg
          go_wp2_with fail
          refine Calls.mono HG.out ?_
          rintro e w4 ⟨rfl, hw4⟩
          have hw4' := hw4.symm
          subst hw4'
          clear hw4
          go_wp2_with fail
          go_ret
          refine ⟨ao, L, cap, rfl, ?_⟩
          have h1 := HE.out
          rw [HOff.out, List.append_nil] at h1
          rw [HA.out, ← h1.2, ← h1.1]
          exact ⟨HS.out.1, HS.out.2.2, HS.out.2.1⟩
        · rw [hg] at HG
          obtain ⟨l, rfl, rfl⟩ : ∃ l, st = some l ∧ wr1 = false := by
            cases st with
            | none => simp at hg
            | some l => cases wr1 <;> simp at hg ⊢
          clear hg
          have hgo := goS_num l
          have HCs := hide (rdL_step rNum n l hp)
          obtain ⟨y, st4, e4⟩ : ∃ y st4, rNum (some l) = (y, st4) := ⟨_, _, rfl⟩
          have HI := hide (readId_any HS.out.1)
          rw [e4] at HCs hgo HI
          clear e4
          go_wp2_with fail
          refine Calls.mono HG.out ?_
          rintro e w4 ⟨rfl, hw4⟩
          have hw4' := hw4.symm
          subst hw4'
          clear hw4
          have hlc : cs.length ≤ 1000000 := by omega
          go_wp2_with fail
          refine Calls.mono HI.out ?_
          rintro e w5 ⟨rfl, HP5⟩
          have hpp := list_push 52 3 1 8 (.int .i64 0) Try.underlying52 Try.inf3 rfl (by decide) (by decide) HP5.out.1 HS.out.2.1 HP5.out.2 HS.out.2.2 hbw.out [.int .i64 y] rfl (by intro u hu; rw [List.mem_singleton.1 hu]; rfl) hlc
          obtain ⟨g, cap', w6, hr, HO6, -⟩ := hpp
          clear HI HG
          go_wp2_with (at_builtin; refine wpList_append_run _ rfl (.tmp 31) (.tmp 35) 52 52 rfl _ _ rfl rfl (hr _) ?_)
          go_roundw
          case rel =>
            refine ⟨n - 1, cs ++ [y], st4, by go_num, by omega, by simp; omega, ?_, ?_⟩
            · refine ⟨HO6.out.1, HO6.out.2.1, ?_⟩
              have e : cI (cs ++ [y]) = cI cs ++ [.int .i64 y] := by simp [cI]
              rw [e, List.length_append]
              exact HO6.out.2.2
            · have h1 := HE.out
              rw [HCs.out] at h1
              exact ⟨by rw [List.append_assoc]; exact h1.1, h1.2⟩
          case measure => simp [intOf]; omega
      · have HOff := hide (rdL_zero rNum wr1 n st hp)
        go_wp2_with fail
        go_ret
        refine ⟨ao, L, cap, rfl, ?_⟩
        have h1 := HE.out
        rw [HOff.out, List.append_nil] at h1
        rw [HA.out, ← h1.2, ← h1.1]
        exact ⟨HS.out.1, HS.out.2.2, HS.out.2.1⟩

end Go.Proofs.Ytgknpbgepgmmmaa.Cm
namespace Go.Proofs.Ytgknpbgepgmmmaa.Cm
open Go.RowKit Bn Kp

abbrev Sx (A B : Nat) (u : World) : Prop := u.cell? ⟨A, 0, none⟩ = some (.pointer (some ⟨B, 0, none⟩))
abbrev CNum (A B : Nat) (n : Int) (K : World → Prop) (W : World) : Prop := Calls Try.prog 35 #[.pointer (some ⟨B, 0, none⟩)] W fun e w' => e = .returned (.int .i64 n) ∧ Sx A B w' ∧ Hid (K w')
abbrev CData (A B : Nat) (K : Value → World → Prop) (W : World) : Prop := Calls Try.prog 55 #[.pointer (some ⟨A, 0, none⟩)] W fun e w' => ∃ ao L cap, e = .returned (.slice ao L cap) ∧ Sx A B w' ∧ Hid (K (.slice ao L cap) w')

theorem cnumK {w0 W : World} {b A B : Nat} {st st' : R} {n : Int} {wr : Bool} (e : rNum st = (n, st')) (h : Cr W b A B st wr) (k : Kb A B w0 W) {K : World → Prop} (hK : ∀ W', Cr W' b A B st' wr → Kb A B w0 W' → K W') : CNum A B n K W := by
  have H := cnum h
  rw [e] at H
  refine H.mono ?_
  rintro e w' ⟨rfl, hp⟩
  exact ⟨rfl, hp.out.1.cells.1, hK _ hp.out.1 (k.trans hp.out.2)⟩
theorem cdataK {w0 W : World} {b A B : Nat} {st : R} {wr : Bool} (h : Cr W b A B st wr) (k : Kb A B w0 W) {K : Value → World → Prop} (hK : ∀ v W', Cr W' b A B (rText st).2 wr → Kb A B w0 W' → Dt W.heap.size W' v (rText st).1 → K v W') : CData A B K W := by
  refine (data_any h).mono ?_
  rintro e w' ⟨ao, L, cap, rfl, hp⟩
  exact ⟨ao, L, cap, rfl, hp.out.1.cells.1, hK _ _ hp.out.1 (k.trans hp.out.2.2) hp.out.2.1⟩

/-- How an entry is read. -/
def rEnt (st : R) : Ent × R :=
  (⟨(rNum st).1, (rNum (rNum st).2).1, (rNum (rNum (rNum st).2).2).1, (rText (rNum (rNum (rNum st).2).2).2).1⟩, (rText (rNum (rNum (rNum st).2).2).2).2)

theorem four_set {w : World} {B T : Nat} {a b c d a' b' c' d' : Value} (h : w.heap[B]? = some (.cells #[a, b, c, d] T (0, 0))) :
    ((((w.setCell ⟨B, 0, none⟩ a').setCell ⟨B, 1, none⟩ b').setCell ⟨B, 2, none⟩ c').setCell ⟨B, 3, none⟩ d').heap[B]? = some (.cells #[a', b', c', d'] T (0, 0)) := by
  have h1 := heap_setCell_same w B 0 _ T a' h
  have h2 := heap_setCell_same _ B 1 _ T b' h1
  have h3 := heap_setCell_same _ B 2 _ T c' h2
  have h4 := heap_setCell_same _ B 3 _ T d' h3
  rw [h4]
  rfl

theorem set_aside4 {u : World} {A B P : Nat} (h : Sx A B u) (hne : P ≠ A) (x y z : Int) (v : Value) : Sx A B ((((u.setCell ⟨P, 0, none⟩ (.int .i64 x)).setCell ⟨P, 1, none⟩ (.int .i64 y)).setCell ⟨P, 2, none⟩ (.int .i64 z)).setCell ⟨P, 3, none⟩ v) := by
  refine Eq.trans (World.cell?_of_block (w := u) (a := ⟨A, 0, none⟩) ?_) h
  show (World.setCell _ _ _).heap[A]? = _
  rw [Below.heap_setCell _ _ _ _ (Ne.symm hne), Below.heap_setCell _ _ _ _ (Ne.symm hne), Below.heap_setCell _ _ _ _ (Ne.symm hne), Below.heap_setCell _ _ _ _ (Ne.symm hne)]

theorem sz90 : (Try.prog.info? 90).map (·.size) = some 4 := by kernel_rfl

/-- What readEntry leaves. -/
def EntR (w w' : World) (b A B : Nat) (st : R) (wr : Bool) (v : Value) : Prop :=
  Cr w' b A B (rEnt st).2 wr ∧ Kb A B w w' ∧ Dt w.heap.size w' v (rEnt st).1.data

set_option maxHeartbeats 2000000 in
theorem readEntry_any {w : World} {b A B : Nat} {st : R} {wr : Bool} (h : Cr w b A B st wr) :
    Calls Try.prog 52 #[.pointer (some ⟨A, 0, none⟩)] w fun e w' => ∃ v, e = .returned (.agg #[.int .i64 (rEnt st).1.idx, .int .i64 (rEnt st).1.term, .int .i64 (rEnt st).1.kind, v]) ∧ Hid (EntR w w' b A B st wr v) := by
  obtain ⟨X, hX⟩ : ∃ X, Hid (X = w.alloc (.cells #[.int .i64 0, .int .i64 0, .int .i64 0, .slice none 0 0] 90)) := ⟨_, (rfl : _ = _)⟩
  have hXb : X.heap[w.heap.size]? = some (.cells #[.int .i64 0, .int .i64 0, .int .i64 0, .slice none 0 0] 90 (0, 0)) := by rw [hX.out]; exact heap_alloc_new _ _
  have HXb := hide hXb
  have hk0 : Kb A B w X := by rw [hX.out]; exact Kb.of_below ((Below.refl _ _).alloc (Nat.le_refl _) _)
  have hC0 : Cr X b A B st wr := by rw [hX.out]; exact h.alloc _
  obtain ⟨n1, st1, e1⟩ : ∃ n s, rNum st = (n, s) := ⟨_, _, rfl⟩
  obtain ⟨n2, st2, e2⟩ : ∃ n s, rNum st1 = (n, s) := ⟨_, _, rfl⟩
  obtain ⟨n3, st3, e3⟩ : ∃ n s, rNum st2 = (n, s) := ⟨_, _, rfl⟩
  have HE : Hid (rEnt st = (⟨n1, n2, n3, (rText st3).1⟩, (rText st3).2)) := by show _ = _; simp only [rEnt, e1, e2, e3]
  have hPA : w.heap.size ≠ A := by have := h.a_lt; have := h.le; omega
  have hPB : w.heap.size ≠ B := by have := h.b_lt; have := h.le; omega
  have HC1 : Hid (CNum A B n1 (CNum A B n2 (CNum A B n3 (CData A B fun v W' => W'.heap[w.heap.size]? = some (.cells #[.int .i64 0, .int .i64 0, .int .i64 0, .slice none 0 0] 90 (0, 0)) ∧ ∀ x y z, EntR w ((((W'.setCell ⟨w.heap.size, 0, none⟩ x).setCell ⟨w.heap.size, 1, none⟩ y).setCell ⟨w.heap.size, 2, none⟩ z).setCell ⟨w.heap.size, 3, none⟩ v) b A B st wr v))) X.drew) := by
    refine cnumK (w0 := X) e1 hC0.drew (Kb.drew (Wrote.refl X B (some A))) fun W2 c2 k2 => ?_
    refine cnumK e2 c2 k2 fun W3 c3 k3 => ?_
    refine cnumK e3 c3 k3 fun W4 c4 k4 => ?_
    refine cdataK (w0 := X) c4 k4 fun v W5 c5 k5 hd => ?_
    have hP5 : W5.heap[w.heap.size]? = some (.cells #[.int .i64 0, .int .i64 0, .int .i64 0, .slice none 0 0] 90 (0, 0)) := by
      rw [k5.block w.heap.size (lt_of_block hXb) hPB (by simpa using hPA)]
      exact hXb
    refine ⟨hP5, fun x y z => ?_⟩
    have hle := h.le
    have hbw : b ≤ w.heap.size := by omega
    have hF : Below w.heap.size W5 ((((W5.setCell ⟨w.heap.size, 0, none⟩ x).setCell ⟨w.heap.size, 1, none⟩ y).setCell ⟨w.heap.size, 2, none⟩ z).setCell ⟨w.heap.size, 3, none⟩ v) :=
      ((((Below.refl _ _).setCell (p := ⟨w.heap.size, 0, none⟩) (by show _ ≤ w.heap.size; omega) _).setCell (p := ⟨w.heap.size, 1, none⟩) (by show _ ≤ w.heap.size; omega) _).setCell (p := ⟨w.heap.size, 2, none⟩) (by show _ ≤ w.heap.size; omega) _).setCell (p := ⟨w.heap.size, 3, none⟩) (by show _ ≤ w.heap.size; omega) _
    have hk := hk0.trans k5
    unfold EntR
    rw [HE.out]
    refine ⟨c5.above (hF.mono h.le), ⟨hF.os.trans hk.os, hF.tape.trans hk.tape, hF.output.trans hk.output, Nat.le_trans hk.size hF.size, fun k h1 h2 h3 => (hF.block k h1).trans (hk.block k h1 h2 h3)⟩, ?_⟩
    have hd1 : W5.ownsRow w.heap.size 5 1 v (rText st3).1.length (cells8 (rText st3).1) := own_low hd (Nat.le_trans hk0.size k4.size)
    have hvP : v.ownBlock ≠ some w.heap.size := fun e => by
      have h1 := own_ge hd w.heap.size e
      have h2 := lt_of_block hXb
      have h3 := k4.size
      omega
    exact own_aside (own_aside (own_aside (own_aside hd1 hvP) hvP) hvP) hvP
  have d1 : Sx A B X.drew := hC0.drew.cells.1
  have d0 : Sx A B X := hC0.cells.1
  clear hC0 hk0 e1 e2 e3 h
  rw [HE.out]
  dsimp only
  go_enter Try.func52, Try.ntmps52
  go_upto_region 1 with fail
  rw [← hX.out]
  refine wp_region_noPanic ?_
  go_region_held (Sx A B) (first | with_reducible exact d0 | with_reducible exact d1 | with_reducible exact d2 | with_reducible exact d3 | with_reducible exact d4 | with_reducible exact d5 | with_reducible exact d6)
    (first
      | (go_at_call 55; refine Calls.mono HC4.out ?_; rintro e w5 ⟨ao, L, cap, rfl, d5, HC5⟩; obtain ⟨z0, z1, z2, z3⟩ := four_cells HC5.out.1; have zz := fun i => frozen_of_row w5 w.heap.size i _ _ HC5.out.1; have d6 := set_aside4 d5 hPA n1 n2 n3 (.slice ao L cap))
      | (go_at_call 35; first | (have mm := HC3; refine Calls.mono HC3.out ?_; rintro e w4 ⟨rfl, d4, HC4⟩) | (have mm := HC2; refine Calls.mono HC2.out ?_; rintro e w3 ⟨rfl, d3, HC3⟩) | (refine Calls.mono HC1.out ?_; rintro e w2 ⟨rfl, d2, HC2⟩)))
  refine NoPanic.normal ?_
  go_wp2_with fail
  refine bodyPost_ret (results_cell_row rfl _ _ w.heap.size 90 _ (0, 0) _ rfl (four_set HC5.out.1) Try.underlying90 rfl sz90) rfl ?_
  exact ⟨_, rfl, HC5.out.2 _ _ _⟩

end Go.Proofs.Ytgknpbgepgmmmaa.Cm

/- A table in memory; the walks of New, Len, Term and strings.Clone. The walks of Print, Fact, and of the reference's Print and Atom. What the row's listed variables give the walks: the powers of ten. -/
import Derived.Test.YtcmjfgjnemifbaaDoorPart02
import Derived.Lib.AppendIntMem
import Derived.Laws.MakeOwn
import Derived.Deep.RegionHeld
import Derived.Test.YtcmjfgjnemifbaaDoorTie
import Derived.Test.YtcmjfgjnemifbaaDoorCards
import Derived.ProofKit
import Derived.LaidMore
import Derived.OpenShut
import Derived.ShutString
import Derived.ChangeOld
import Derived.Below
import Derived.Stop.Joined
namespace Go.Proofs.YtcmjfgjnemifbaaDoor
open Go.RowKit

def cellsT (L : List Tm) : List Value := L.flatMap fun t => [.int .i64 t.1, .string t.2.1, .int .i64 t.2.2]
theorem cellsT_len : ∀ L : List Tm, (cellsT L).length = L.length * 3
  | [] => rfl
  | t :: r => by
    have := cellsT_len r
    simp [cellsT] at this ⊢
    omega
theorem cellsT_append (a b : List Tm) : cellsT (a ++ b) = cellsT a ++ cellsT b := by simp [cellsT]
theorem cellsT_cons (t : Tm) (b : List Tm) : cellsT (t :: b) = .int .i64 t.1 :: .string t.2.1 :: .int .i64 t.2.2 :: cellsT b := by simp [cellsT]
theorem cellsT_get (L : List Tm) (i : Nat) (h : i < L.length) : (cellsT L)[i * 3]? = some (.int .i64 L[i].1) ∧ (cellsT L)[i * 3 + 1]? = some (.string L[i].2.1) ∧ (cellsT L)[i * 3 + 2]? = some (.int .i64 L[i].2.2) := by
  have e : L = L.take i ++ L[i] :: L.drop (i + 1) := by simp
  have hl : (cellsT (L.take i)).length = i * 3 := by rw [cellsT_len]; simp; omega
  have e2 : cellsT L = cellsT (L.take i) ++ (.int .i64 L[i].1 :: .string L[i].2.1 :: .int .i64 L[i].2.2 :: cellsT (L.drop (i + 1))) := by
    conv => lhs; rw [e]
    rw [cellsT_append, cellsT_cons]
  rw [e2]
  refine ⟨?_, ?_, ?_⟩
  · rw [List.getElem?_append_right (by omega), hl]; simp
  · rw [List.getElem?_append_right (by omega), hl, Nat.add_sub_cancel_left]; rfl
  · rw [List.getElem?_append_right (by omega), hl, Nat.add_sub_cancel_left]; rfl
theorem cellsT_one (L : List Tm) : ∀ u ∈ cellsT L, u.oneCell' = true := by
  intro u hu
  obtain ⟨t, _, hu⟩ := List.mem_flatMap.1 hu
  simp at hu
  rcases hu with rfl | rfl | rfl <;> rfl

/-- A table at p: its row, its map; its blocks are G's. -/
structure Tb (w : World) (p : Nat) (vr mv : Value) (L : List Tm) (G : Nat → Prop) : Prop where
  heap : w.heap[p]? = some (.cells #[vr, mv] 48 (0, 0))
  row : w.ownsRow 0 23 3 vr L.length (cellsT L)
  ids : (L = [] ∧ mv = .map none ∧ vr = .slice none 0 0) ∨ ∃ m, mv = .map (some m) ∧ w.heap[m]? = some (.map (ents 0 L).toArray L.length) ∧ G m ∧ vr.ownBlock ≠ some m ∧ 0 < L.length
  rowIn : ∀ k, vr.ownBlock = some k → G k ∧ k ≠ p
  self : G p
  lt : ∀ k, G k → k < w.heap.size

section
variable {w w' : World} {p : Nat} {vr mv : Value} {L : List Tm} {G F : Nat → Prop}
theorem Tb.cells (h : Tb w p vr mv L G) : w.cell? ⟨p, 0, none⟩ = some vr ∧ w.cell? ⟨p, 1, none⟩ = some mv ∧ ∀ j, w.frozen? ⟨p, j, none⟩ = false := by
  refine ⟨?_, ?_, fun j => by simp [World.frozen?, h.heap]⟩
  · rw [cell_of_row w p 0 _ _ _ h.heap]; rfl
  · rw [cell_of_row w p 1 _ _ _ h.heap]; rfl
theorem Tb.kept (h : Tb w p vr mv L G) (hf : Fr F w w') (hd : ∀ k, G k → ¬ F k) : Tb w' p vr mv L G := by
  refine ⟨?_, own_kept h.row hf (fun k hk => hd k (h.rowIn k hk).1), ?_, h.rowIn, h.self, fun k hk => Nat.lt_of_lt_of_le (h.lt k hk) hf.size⟩
  · rw [hf.block p (h.lt p h.self) (hd p h.self)]; exact h.heap
  · rcases h.ids with h1 | ⟨m, h1, h2, h3, h4⟩
    · exact .inl h1
    · exact .inr ⟨m, h1, by rw [hf.block m (h.lt m h3) (hd m h3)]; exact h2, h3, h4⟩
theorem Tb.below (h : Tb w p vr mv L G) (hb : Below w.heap.size w w') : Tb w' p vr mv L G := h.kept (F := fun _ => False) (Fr.of_below hb) (fun _ _ hf => hf)
theorem Tb.more (h : Tb w p vr mv L G) {G' : Nat → Prop} (hg : ∀ k, G k → G' k) (hl : ∀ k, G' k → k < w.heap.size) : Tb w p vr mv L G' := by
  refine ⟨h.heap, h.row, ?_, fun k hk => ⟨hg k (h.rowIn k hk).1, (h.rowIn k hk).2⟩, hg p h.self, hl⟩
  rcases h.ids with h1 | ⟨m, h1, h2, h3, h4⟩
  · exact .inl h1
  · exact .inr ⟨m, h1, h2, hg m h3, h4⟩
theorem Tb.shape (h : Tb w p vr mv L G) : (vr = .slice none 0 0 ∧ L.length = 0) ∨ ∃ g cap, vr = .slice (some ⟨g, 0, none⟩) L.length cap ∧ L.length ≤ cap ∧ cap ≤ maxLen ∧ g < w.heap.size := own_shape h.row
end

theorem new_any (w : World) : Calls Tryd.prog 17 #[] w fun e w' => e = .returned (.pointer (some ⟨w.heap.size, 0, none⟩)) ∧ w' = w.alloc (.cells #[.slice none 0 0, .map none] 48) := by
  go_enter Tryd.func17, Tryd.ntmps17
  go_wp2
  go_ret
  exact ⟨rfl, rfl⟩
theorem tb_new (w : World) : Tb (w.alloc (.cells #[.slice none 0 0, .map none] 48)) w.heap.size (.slice none 0 0) (.map none) [] (fun k => k = w.heap.size) where
  heap := heap_alloc_new _ _
  row := ⟨by simp [cellsT], .inl ⟨rfl, rfl⟩⟩
  ids := .inl ⟨rfl, rfl, rfl⟩
  rowIn := fun k hk => by simp [Value.ownBlock] at hk
  self := rfl
  lt := fun k hk => by subst hk; simp

theorem clone_any (s : ByteArray) (w : World) (hs : s.size ≤ 281474976710656) : Calls Tryd.prog 33 #[.string s] w fun e w' => e = .returned (.string s) ∧ Below w.heap.size w w' := by
  go_enter Tryd.func33, Tryd.ntmps33
  go_wp2_with (go_at_call 41; refine (Tryd.stringslite_Clone s _ hs).mono ?_; rintro e w' ⟨rfl, hb⟩)
  go_ret
  exact ⟨rfl, hb⟩

theorem len_nil (w : World) : Calls Tryd.prog 19 #[.pointer none] w fun e w' => e = .returned (.int .i64 0) ∧ w' = w := by
  go_enter Tryd.func19, Tryd.ntmps19
  go_wp2
  go_ret
  exact ⟨rfl, rfl⟩
theorem len_any {p : Nat} {vr mv : Value} {L : List Tm} {G : Nat → Prop} {w : World} (h : Tb w p vr mv L G) : Calls Tryd.prog 19 #[.pointer (some ⟨p, 0, none⟩)] w fun e w' => e = .returned (.int .i64 (L.length : Int)) ∧ w' = w := by
  obtain ⟨c0, c1, cf⟩ := h.cells
  rcases h.shape with ⟨rfl, h0⟩ | ⟨g, cap, rfl, _⟩
  · rw [h0]
    clear h cf
    go_enter Tryd.func19, Tryd.ntmps19
    go_wp2
    go_ret
    exact ⟨rfl, rfl⟩
  · clear h cf
    go_enter Tryd.func19, Tryd.ntmps19
    go_wp2
    go_ret
    exact ⟨rfl, rfl⟩

/-- The constant of a number; a zero one. -/
def termAt (L : List Tm) (i : Int) : Tm := if 1 ≤ i then L.getD (i - 1).toNat (0, ⟨#[]⟩, 0) else (0, ⟨#[]⟩, 0)
theorem termAt_out (L : List Tm) (i : Int) (h : i < 1 ∨ (L.length : Int) < i) : termAt L i = (0, ⟨#[]⟩, 0) := by
  unfold termAt
  split
  · rw [List.getD, List.getElem?_eq_none (by omega)]; rfl
  · rfl
theorem termAt_in (L : List Tm) (k : Nat) (h : k < L.length) : termAt L ((k : Int) + 1) = L[k] := by
  unfold termAt
  rw [if_pos (by omega), show ((k : Int) + 1 - 1).toNat = k by omega, List.getD, List.getElem?_eq_getElem h]
  rfl

set_option maxHeartbeats 1000000 in
theorem term_any {p : Nat} {vr mv : Value} {L : List Tm} {G : Nat → Prop} {w : World} (i : Int) (h : Tb w p vr mv L G) (hl : L.length ≤ 1000000) :
    Calls Tryd.prog 20 #[.pointer (some ⟨p, 0, none⟩), .int .i64 i] w fun e w' => e = .returned (tv (termAt L i)) ∧ Below w.heap.size w w' := by
  by_cases h1 : i < 1
  · rw [termAt_out L i (Or.inl h1)]
    clear h
    go_enter Tryd.func20, Tryd.ntmps20
    go_wp2
    exact bodyPost_ret (v := .agg #[.int .i64 0, .string ⟨#[]⟩, .int .i64 0]) (by simp [results, Tryd.results20, go_sem]) rfl ⟨rfl, below_box _ _⟩
  · have HL : ∀ w', Below w.heap.size w w' → Calls Tryd.prog 19 #[.pointer (some ⟨p, 0, none⟩)] w' fun e w2 => e = .returned (.int .i64 (L.length : Int)) ∧ w2 = w' := fun w' hb => len_any (h.below hb)
    by_cases h2 : (L.length : Int) < i
    · rw [termAt_out L i (Or.inr h2)]
      clear h
      go_enter Tryd.func20, Tryd.ntmps20
      go_wp2_with (go_at_call 19; refine (HL _ (below_box _ _)).mono ?_; rintro e w' ⟨rfl, hw⟩; have hw' := hw.symm; subst hw'; clear hw)
      exact bodyPost_ret (v := .agg #[.int .i64 0, .string ⟨#[]⟩, .int .i64 0]) (by simp [results, Tryd.results20, go_sem]) rfl ⟨rfl, below_box _ _⟩
    · obtain ⟨k, rfl⟩ : ∃ k : Nat, i = (k : Int) + 1 := ⟨(i - 1).toNat, by omega⟩
      have hk : k < L.length := by omega
      rw [termAt_in L k hk]
      obtain ⟨c0, c1, cf⟩ := h.cells
      have hc := cellsT_get L k hk
      rcases h.shape with ⟨rfl, h0⟩ | ⟨g, cap, rfl, _⟩
      · omega
      · have hr := h.row
        have d0 := (hr.cellAt _ (by omega)).trans hc.1
        have d1 := (hr.cellAt _ (by omega)).trans hc.2.1
        have d2 := (hr.cellAt _ (by omega)).trans hc.2.2
        have a0 : ∀ o, (w.alloc o).cell? ⟨g, k * 3, none⟩ = _ := fun o => (World.cell?_of_block ((below_box w o).block g (World.block_lt_of_cell? w _ d0))).trans d0
        have a1 : ∀ o, (w.alloc o).cell? ⟨g, k * 3 + 1, none⟩ = _ := fun o => (World.cell?_of_block ((below_box w o).block g (World.block_lt_of_cell? w _ d0))).trans d1
        have a2 : ∀ o, (w.alloc o).cell? ⟨g, k * 3 + 2, none⟩ = _ := fun o => (World.cell?_of_block ((below_box w o).block g (World.block_lt_of_cell? w _ d0))).trans d2
        have ap : ∀ o, (w.alloc o).cell? ⟨p, 0, none⟩ = _ := fun o => (World.cell?_of_block ((below_box w o).block p (World.block_lt_of_cell? w _ c0))).trans c0
        have hki : (k : Int) < (L.length : Int) := by omega
        generalize L[k] = t at *
        clear h hr hc
        go_enter Tryd.func20, Tryd.ntmps20
        go_wp2_with (go_at_call 19; refine (HL _ (below_box _ _)).mono ?_; rintro e w' ⟨rfl, hw⟩; have hw' := hw.symm; subst hw'; clear hw)
        exact bodyPost_ret (v := .agg #[.int .i64 t.1, .string t.2.1, .int .i64 t.2.2]) (by simp [results, Tryd.results20, go_sem]) rfl ⟨rfl, below_box _ _⟩

end Go.Proofs.YtcmjfgjnemifbaaDoor
namespace Go.Proofs.YtcmjfgjnemifbaaDoor
open Go.RowKit

def Pow10 (w : World) : Prop := Lib.TabIs Tryd.prog w "internal/strconv.uint64pow10" .u64 Lib.pow10Tab
theorem Pow10.below {w w' : World} (h : Pow10 w) (hb : Below w.heap.size w w') : Pow10 w' := Lib.tabBelow_of_tabIs h w' hb
/-- What a number's print asks: it is small, or the powers of ten are laid. -/
def Fm (w : World) (n : Int) : Prop := (0 ≤ n ∧ n < 100) ∨ (Pow10 w ∧ -2147483648 ≤ n ∧ n ≤ 2147483648)
theorem Fm.below {w w' : World} {n : Int} (h : Fm w n) (hb : Below w.heap.size w w') : Fm w' n := by
  rcases h with h | ⟨h, h2⟩
  · exact .inl h
  · exact .inr ⟨h.below hb, h2⟩
theorem format_any (n : Int) (w : World) (h : Fm w n) :
    Calls Tryd.prog 26 #[.int .i64 n, .int .i64 10] w fun e w' => e = .returned (.string ⟨(Lib.itoa n).toArray⟩) ∧ Below w.heap.size w w' := by
  rcases h with ⟨h0, h1⟩ | ⟨h, h0, h1⟩
  · obtain ⟨i, rfl⟩ : ∃ i : Nat, n = i := ⟨n.toNat, by omega⟩
    refine (Tryd.strconv_FormatInt_10_small i (by omega) w).mono ?_
    rintro e w' ⟨rfl, rfl⟩
    rw [Lib.itoa_nonneg]
    exact ⟨rfl, Below.refl _ _⟩
  · refine (Tryd.strconv_FormatInt_10 n (by omega) (by omega) w h).mono ?_
    rintro e w' ⟨rfl, k, os, rfl⟩
    exact ⟨rfl, Lib.below_grow _ _ (Nat.le_refl _) _ _⟩

/-- A constant's text. -/
def prt (t : Tm) : ByteArray := if t.1 = 3 then ⟨(Lib.itoa t.2.2).toArray⟩ else t.2.1

set_option maxHeartbeats 1000000 in
theorem print_any (t : Tm) (w : World) (h : t.1 = 3 → Fm w t.2.2) :
    Calls Tryd.prog 15 #[.agg #[.int .i64 t.1, .string t.2.1, .int .i64 t.2.2]] w fun e w' => e = .returned (.string (prt t)) ∧ Below w.heap.size w w' := by
  by_cases h3 : t.1 = 3
  · have hb3 : (t.1 == 3) = true := by simpa using h3
    have hp : prt t = ⟨(Lib.itoa t.2.2).toArray⟩ := by rw [prt, if_pos h3]
    rw [hp]
    have hf := h h3
    have HF : Hid (∀ o, Calls Tryd.prog 26 #[.int .i64 t.2.2, .int .i64 10] (w.alloc o) fun e w' => e = .returned (.string ⟨(Lib.itoa t.2.2).toArray⟩) ∧ Below (w.alloc o).heap.size (w.alloc o) w') := fun o => format_any _ _ (hf.below (below_box w o))
    clear h hp h3 hf
    generalize t.1 = k at *
    go_enter Tryd.func15, Tryd.ntmps15
    go_wp2_with (go_at_call 26; refine (HF.out _).mono ?_; rintro e w' ⟨rfl, hb⟩)
    go_ret
    exact ⟨rfl, (below_box _ _).trans (hb.mono (by simp))⟩
  · have hb3 : (t.1 == 3) = false := by simpa using h3
    have hp : prt t = t.2.1 := by rw [prt, if_neg h3]
    rw [hp]
    clear h hp h3
    generalize t.1 = k at *
    go_enter Tryd.func15, Tryd.ntmps15
    go_wp2
    go_ret
    exact ⟨rfl, below_box _ _⟩

set_option maxHeartbeats 1000000 in
theorem printRef_any (t : Tm) (w : World) (h : t.1 = 3 → -2147483648 ≤ t.2.2 ∧ t.2.2 ≤ 2147483648) :
    Calls Tryd.prog 16 #[.agg #[.int .i64 t.1, .string t.2.1, .int .i64 t.2.2]] w fun e w' => e = .returned (.string (prt t)) ∧ Below w.heap.size w w' := by
  by_cases h3 : t.1 = 3
  · have hb3 : (t.1 == 3) = true := by simpa using h3
    have hp : prt t = ⟨(Lib.itoa t.2.2).toArray⟩ := by rw [prt, if_pos h3]
    rw [hp]
    have HF : Hid _ := h h3
    clear h hp h3
    generalize t.1 = k at *
    go_enter Tryd.func16, Tryd.ntmps16
    go_wp2_with (go_at_call 27; refine (dec_any _ _ HF.out.1 HF.out.2).mono ?_; rintro e w' ⟨rfl, hb⟩)
    go_ret
    exact ⟨rfl, (below_box _ _).trans (hb.mono (by simp))⟩
  · have hb3 : (t.1 == 3) = false := by simpa using h3
    have hp : prt t = t.2.1 := by rw [prt, if_neg h3]
    rw [hp]
    clear h hp h3
    generalize t.1 = k at *
    go_enter Tryd.func16, Tryd.ntmps16
    go_wp2
    go_ret
    exact ⟨rfl, below_box _ _⟩
end Go.Proofs.YtcmjfgjnemifbaaDoor
namespace Go.Proofs.YtcmjfgjnemifbaaDoor
open Go.ChangeShapes Go.WideShapes Go.ChangeAt Go.RowKit

theorem own : ownKnob Tryd.prog.godebug = none := by kernel_rfl
theorem laidOut : laidOutB Tryd.prog = true := by kernel_rfl
def laid3 : List (String × DataW Unit) := [("math/bits.deBruijn32tab", Rows.laid_math_bits_deBruijn32tab), ("math/bits.deBruijn64tab", Rows.laid_math_bits_deBruijn64tab), ("internal/strconv.uint64pow10", Rows.laid_internal_strconv_uint64pow10)]

theorem door_met (os : Os) (args : Array Value) : laidMetH Tryd.prog laid3 ((World.doorLaid Tryd.prog 400 os).forCall (fun _ _ => 0) ⟨#[], args, []⟩).memory :=
  laidMetH_of_parts3 (fuel := 8) (laidMet_of_run' 8 (by kernel_rfl) (by kernel_rfl)) (by kernel_rfl) (by kernel_rfl)

theorem of_laid {W : World} (h : laidMetH Tryd.prog laid3 W) : Pow10 W := by
  rw [MakeChecks.laidMetH_plain _ _ _ (by kernel_rfl)] at h
  obtain ⟨ps, ⟨g0, t0, cs0, f0, p0, q0, _, _, _, _, ⟨g1, t1, cs1, f1, p1, q1, _, _, _, _, ⟨g2, t2, cs2, f2, p2, q2, hg2, ht2, hv2, hd2, _, _⟩, _⟩, _⟩, _⟩ := h
  have eg : Tryd.prog.globalNamed "internal/strconv.uint64pow10" = some 0 := by kernel_rfl
  have et : (Tryd.prog.globals[0]?).map (·.type) = some 74 := by kernel_rfl
  obtain rfl := Option.some.inj (eg.symm.trans hg2)
  obtain rfl := Option.some.inj (et.symm.trans ht2)
  have eL : (Rows.laid_internal_strconv_uint64pow10 : DataW Unit) = Lib.tabData .u64 Lib.pow10Tab := by rfl
  unfold Pow10 Lib.TabIs
  rw [hv2]
  have hd3 := hd2
  rw [eL] at hd3
  rw [← Lib.cells_of_tab Tryd.underlying74 Tryd.underlying66 (by kernel_rfl) (by kernel_rfl) hd3]
end Go.Proofs.YtcmjfgjnemifbaaDoor

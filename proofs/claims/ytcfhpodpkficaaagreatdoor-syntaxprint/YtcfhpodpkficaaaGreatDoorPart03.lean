/- The walk of the reference's word, where the text begins with a sign or with what begins no word. The walk of the program's Scan. The words of a text that stand ahead of its first fault, in plain mathematics. The walk of the reference's Scan. -/
import Derived.Test.YtcfhpodpkficaaaGreatDoorPart02
import Derived.LoopN
import Derived.Test.YtcfhpodpkficaaaGreatDoorPart01
namespace Go.Proofs.YtcfhpodpkficaaaGreatDoor.Lx
open Go.RowKit

def oneN (n : Nat) : Bool := decide (n = 40) || decide (n = 41) || decide (n = 44) || decide (n = 46) || decide (n = 33) || decide (n = 61) || decide (n = 60)
def twoL (L : List UInt8) : Bool := [58, 45].isPrefixOf L || [33, 61].isPrefixOf L || [60, 61].isPrefixOf L

theorem sign_ref (L : List UInt8) (h : 0 < L.length) : signL L = if twoL L = true then 2 else if oneN (L.getD 0 0).toNat = true then 1 else 0 := by
  have hu : ∀ (c : UInt8) (n : Nat), n < 256 → (c.toNat = n ↔ (UInt8.ofNat n) = c) := fun c n hn => by
    constructor
    · intro e; rw [← e]; simp
    · intro e; rw [← e, UInt8.toNat_ofNat']; omega
  have ho : ∀ c : UInt8, oneN c.toNat = ((40 == c) || (41 == c) || (44 == c) || (46 == c) || (33 == c) || (61 == c) || (60 == c)) := fun c => by
    unfold oneN
    rw [Bool.eq_iff_iff]
    simp only [Bool.or_eq_true, decide_eq_true_eq, beq_iff_eq, hu c 40 (by decide), hu c 41 (by decide), hu c 44 (by decide), hu c 46 (by decide), hu c 33 (by decide), hu c 61 (by decide), hu c 60 (by decide)]
    rfl
  match L with
  | [] => simp at h
  | [c] =>
    simp only [signL, signsL, signIn, isPre1, isPre2', List.length, twoL, List.getD_cons_zero, ho]
    by_cases e1 : 40 = c
    · subst e1; rfl
    by_cases e2 : 41 = c
    · subst e2; rfl
    by_cases e3 : 44 = c
    · subst e3; rfl
    by_cases e4 : 46 = c
    · subst e4; rfl
    by_cases e6 : 61 = c
    · subst e6; rfl
    by_cases e5 : 33 = c
    · subst e5; rfl
    by_cases e7 : 60 = c
    · subst e7; rfl
    simp [e1, e2, e3, e4, e5, e6, e7]
  | c :: d :: t =>
    simp only [signL, signsL, signIn, isPre1, isPre2, List.length, twoL, List.getD_cons_zero, ho]
    by_cases e1 : 40 = c
    · subst e1; rfl
    by_cases e2 : 41 = c
    · subst e2; rfl
    by_cases e3 : 44 = c
    · subst e3; rfl
    by_cases e4 : 46 = c
    · subst e4; rfl
    by_cases e6 : 61 = c
    · subst e6; rfl
    by_cases e5 : 33 = c
    · subst e5; by_cases f : 61 = d
      · subst f; rfl
      · simp [f]
    by_cases e7 : 60 = c
    · subst e7; by_cases f : 61 = d
      · subst f; rfl
      · simp [f]
    by_cases e8 : 58 = c
    · subst e8; by_cases f : 45 = d
      · subst f; rfl
      · simp [f]
    simp [e1, e2, e3, e4, e5, e6, e7, e8]

/-- The table of signs of two bytes, as the call lays it. -/
abbrev tB (w : World) : World := w.alloc (.cells #[.string ⟨#[58, 45]⟩, .string ⟨#[33, 61]⟩, .string ⟨#[60, 61]⟩] 9)

theorem pre_two (s : ByteArray) (x y : UInt8) (h : 2 ≤ s.size) : ((s.extract 0 2).toList == [x, y]) = [x, y].isPrefixOf (bs s) := by
  have e0 := drop_cons (bs s) 0 (by rw [bs_length]; omega)
  have e1 := drop_cons (bs s) 1 (by rw [bs_length]; omega)
  rw [List.drop_zero] at e0
  have : (s.extract 0 2).toList = bs (s.extract 0 2) := Lib.toList_data _
  rw [this, bs_extract, List.drop_zero, e0, e1, isPre2]
  simp only [Nat.sub_zero, List.take_succ_cons, List.take_zero]
  rw [Bool.eq_iff_iff]
  simp only [beq_iff_eq, Bool.and_eq_true, List.cons.injEq, and_true]
  exact ⟨fun h => ⟨h.1.symm, h.2.symm⟩, fun h => ⟨h.1.symm, h.2.symm⟩⟩

theorem kind_sign {s : ByteArray} (h1 : smallN (bt s 0) = false) (h2 : greatN (bt s 0) = false) (h3 : digitN (bt s 0) = false) (hm : bt s 0 ≠ 45) : kindL (bs s) = 4 := by
  have e1 : smallN ((bs s).getD 0 0).toNat = false := h1
  have e2 : greatN ((bs s).getD 0 0).toNat = false := h2
  have e3 : digitN ((bs s).getD 0 0).toNat = false := h3
  have e4 : ¬ ((bs s).getD 0 0).toNat = 45 := hm
  rw [kindL, kindN, if_neg (by rw [e1]; decide), if_neg (by rw [e2]; decide), if_neg (fun h => h.elim (fun x => by rw [e3] at x; cases x) e4)]
theorem size_sign {s : ByteArray} (h : kindL (bs s) = 4) : sizeL (bs s) = signL (bs s) := by
  rw [sizeL, if_neg (by rw [h]; decide), if_neg (by rw [h]; decide), if_neg (by rw [h]; decide)]
theorem two_short (L : List UInt8) (h : L.length = 1) : twoL L = false := by
  match L, h with
  | [c], _ => simp [twoL, isPre2']
theorem below_tB (w : World) (n : Nat) : Below w.heap.size w ((tB w).drewN n) := ⟨rfl, rfl, rfl, by simp [World.drewN], fun k hk => (below_box w _).block k hk⟩
theorem tB_cells (w : World) (n : Nat) : ((tB w).drewN n).cell? ⟨w.heap.size, 0, none⟩ = some (.string ⟨#[58, 45]⟩) ∧ ((tB w).drewN n).cell? ⟨w.heap.size, 1, none⟩ = some (.string ⟨#[33, 61]⟩) ∧ ((tB w).drewN n).cell? ⟨w.heap.size, 2, none⟩ = some (.string ⟨#[60, 61]⟩) := by
  refine ⟨?_, ?_, ?_⟩
  · show (tB w).cell? _ = _
    rw [cell_of_row _ _ _ _ _ _ (heap_alloc_new _ _)]; rfl
  · show (tB w).cell? _ = _
    rw [cell_of_row _ _ _ _ _ _ (heap_alloc_new _ _)]; rfl
  · show (tB w).cell? _ = _
    rw [cell_of_row _ _ _ _ _ _ (heap_alloc_new _ _)]; rfl

theorem one_of {n : Nat} (h : ((n : Int) == 40) = true ∨ ((n : Int) == 41) = true ∨ ((n : Int) == 44) = true ∨ ((n : Int) == 46) = true ∨ ((n : Int) == 33) = true ∨ ((n : Int) == 61) = true ∨ ((n : Int) == 60) = true) : oneN n = true := by
  simp only [beq_iff_eq] at h
  simp [oneN]
  omega
theorem none_of {n : Nat} (h1 : ((n : Int) == 40) = false) (h2 : ((n : Int) == 41) = false) (h3 : ((n : Int) == 44) = false) (h4 : ((n : Int) == 46) = false) (h5 : ((n : Int) == 33) = false) (h6 : ((n : Int) == 61) = false) (h7 : ((n : Int) == 60) = false) : oneN n = false := by
  simp only [beq_eq_false_iff_ne, ne_eq] at h1 h2 h3 h4 h5 h6 h7
  simp [oneN]
  omega
theorem fin_two {s : ByteArray} {w : World} {b : Bool} (hk : kindL (bs s) = 4) (ht : twoL (bs s) = b) (h0 : 0 < s.size) (w' : World) (hb : Below w.heap.size w w') (hB : b = true := by rfl) : Wr s w (.returned (.tuple #[.int .i64 2, .int .i64 4])) w' :=
  wr_of' 2 4 rfl rfl (by rw [size_sign hk, sign_ref (bs s) h0, ht, hB]; rfl) (Or.inr hk) (fun h => by omega) _ hb
theorem fin_one {s : ByteArray} {w : World} {b : Bool} (hk : kindL (bs s) = 4) (ht : twoL (bs s) = b) (h0 : 0 < s.size) (ho : oneN (bt s 0) = true) (w' : World) (hb : Below w.heap.size w w') (hB : b = false := by rfl) : Wr s w (.returned (.tuple #[.int .i64 1, .int .i64 4])) w' :=
  wr_of' 1 4 rfl rfl (by rw [size_sign hk, sign_ref (bs s) h0, ht, hB, show oneN ((bs s).getD 0 0).toNat = true from ho]; rfl) (Or.inr hk) (fun h => by omega) _ hb
theorem fin_none {s : ByteArray} {w : World} {b : Bool} (hk : kindL (bs s) = 4) (ht : twoL (bs s) = b) (h0 : 0 < s.size) (ho : oneN (bt s 0) = false) (w' : World) (hb : Below w.heap.size w w') (hB : b = false := by rfl) : Wr s w (.returned (.tuple #[.int .i64 0, .int .i64 0])) w' :=
  wr_of' 0 0 rfl rfl (by rw [size_sign hk, sign_ref (bs s) h0, ht, hB, show oneN ((bs s).getD 0 0).toNat = false from ho]; rfl) (Or.inl rfl) (fun _ => rfl) _ hb

set_option maxHeartbeats 4000000 in
theorem word_sign (s : ByteArray) (w : World) (h0 : 0 < s.size) (hs : s.size ≤ 4000) (h1 : smallN (bt s 0) = false) (h2 : greatN (bt s 0) = false) (hc : digitN (bt s 0) = false) (hm : bt s 0 ≠ 45) :
    Calls Tryz.prog 40 #[.string s] w fun e w' => Wr s w e w' := by
  have b0 := bt_at s 0 h0
  have t0 : (w.alloc (.cells #[.string ⟨#[58, 45]⟩, .string ⟨#[33, 61]⟩, .string ⟨#[60, 61]⟩] 9)).cell? ⟨w.heap.size, 0, none⟩ = some (.string ⟨#[58, 45]⟩) := (tB_cells w 0).1
  have t1 : (w.alloc (.cells #[.string ⟨#[58, 45]⟩, .string ⟨#[33, 61]⟩, .string ⟨#[60, 61]⟩] 9)).cell? ⟨w.heap.size, 1, none⟩ = some (.string ⟨#[33, 61]⟩) := (tB_cells w 0).2.1
  have t2 : (w.alloc (.cells #[.string ⟨#[58, 45]⟩, .string ⟨#[33, 61]⟩, .string ⟨#[60, 61]⟩] 9)).cell? ⟨w.heap.size, 2, none⟩ = some (.string ⟨#[60, 61]⟩) := (tB_cells w 0).2.2
  have g45 : ((bt s 0 : Int) == 45) = false := by simp; omega
  have HK : Hid (kindL (bs s) = 4) := kind_sign h1 h2 hc hm
  clear hm
  by_cases hl : 2 ≤ s.size
  · have p0 := pre_two s 58 45 hl
    have p1 := pre_two s 33 61 hl
    have p2 := pre_two s 60 61 hl
    have HT : Hid (twoL (bs s) = ([58, 45].isPrefixOf (bs s) || [33, 61].isPrefixOf (bs s) || [60, 61].isPrefixOf (bs s))) := rfl
    generalize List.isPrefixOf [58, 45] (bs s) = q0 at *
    generalize List.isPrefixOf [33, 61] (bs s) = q1 at *
    generalize List.isPrefixOf [60, 61] (bs s) = q2 at *
    cases q0
    · cases q1
      · cases q2
        ·
          go_enter Tryz.func40, Tryz.ntmps40
          go_wp2_with (first
    | (go_at_call 59; refine (rsmall_any _ _).mono ?_; rintro e w' ⟨rfl, hw⟩; have hw' := hw.symm; subst hw'; clear hw; rw [h1])
    | (go_at_call 61; refine (rgreat_any _ _).mono ?_; rintro e w' ⟨rfl, hw⟩; have hw' := hw.symm; subst hw'; clear hw; rw [h2])
    | (go_at_call 60; refine (rdigit_any _ _).mono ?_; rintro e w' ⟨rfl, hw⟩; have hw' := hw.symm; subst hw'; clear hw; rw [hc]))
          have B0 : Hid (Below w.heap.size w (w.alloc (.cells #[.string ⟨#[58, 45]⟩, .string ⟨#[33, 61]⟩, .string ⟨#[60, 61]⟩] 9))) := below_box _ _
          generalize w.alloc (.cells #[.string ⟨#[58, 45]⟩, .string ⟨#[33, 61]⟩, .string ⟨#[60, 61]⟩] 9) = W0 at *
          refine wp_loop_rounds 4 ?_
          rw [rounds_succ]
          go_wp2_with fail
          have gd : (2 : Int) ≤ (s.size : Int) := by omega
          go_quiet (fail)
          clear gd
          have B1 : Hid (Below w.heap.size w (W0.drewN nq)) := ⟨B0.out.os, B0.out.tape, B0.out.output, B0.out.size, B0.out.block⟩
          have T0 : (W0.drewN nq).cell? ⟨w.heap.size, 0, none⟩ = some (.string ⟨#[58, 45]⟩) := t0
          have T1 : (W0.drewN nq).cell? ⟨w.heap.size, 1, none⟩ = some (.string ⟨#[33, 61]⟩) := t1
          have T2 : (W0.drewN nq).cell? ⟨w.heap.size, 2, none⟩ = some (.string ⟨#[60, 61]⟩) := t2
          clear t0 t1 t2
          have t0 := T0; have t1 := T1; have t2 := T2; clear T0 T1 T2
          clear B0
          generalize W0.drewN nq = W1 at *
          go_wp2_with fail
          rw [rounds_succ]
          go_wp2_with fail
          have gd : (2 : Int) ≤ (s.size : Int) := by omega
          go_quiet (fail)
          clear gd
          have B2 : Hid (Below w.heap.size w (W1.drewN nq)) := ⟨B1.out.os, B1.out.tape, B1.out.output, B1.out.size, B1.out.block⟩
          have T0 : (W1.drewN nq).cell? ⟨w.heap.size, 0, none⟩ = some (.string ⟨#[58, 45]⟩) := t0
          have T1 : (W1.drewN nq).cell? ⟨w.heap.size, 1, none⟩ = some (.string ⟨#[33, 61]⟩) := t1
          have T2 : (W1.drewN nq).cell? ⟨w.heap.size, 2, none⟩ = some (.string ⟨#[60, 61]⟩) := t2
          clear t0 t1 t2
          have t0 := T0; have t1 := T1; have t2 := T2; clear T0 T1 T2
          clear B1
          generalize W1.drewN nq = W2 at *
          go_wp2_with fail
          rw [rounds_succ]
          go_wp2_with fail
          have gd : (2 : Int) ≤ (s.size : Int) := by omega
          go_quiet (fail)
          clear gd
          have B3 : Hid (Below w.heap.size w (W2.drewN nq)) := ⟨B2.out.os, B2.out.tape, B2.out.output, B2.out.size, B2.out.block⟩
          have T0 : (W2.drewN nq).cell? ⟨w.heap.size, 0, none⟩ = some (.string ⟨#[58, 45]⟩) := t0
          have T1 : (W2.drewN nq).cell? ⟨w.heap.size, 1, none⟩ = some (.string ⟨#[33, 61]⟩) := t1
          have T2 : (W2.drewN nq).cell? ⟨w.heap.size, 2, none⟩ = some (.string ⟨#[60, 61]⟩) := t2
          clear t0 t1 t2
          have t0 := T0; have t1 := T1; have t2 := T2; clear T0 T1 T2
          clear B2
          generalize W2.drewN nq = W3 at *
          go_wp2_with fail
          rw [rounds_succ]
          go_wp2_with fail
          all_goals go_ret2
          all_goals first | (have ho : oneN (bt s 0) = true := one_of (by first | assumption | (left; assumption) | (right; left; assumption) | (right; right; left; assumption) | (right; right; right; left; assumption) | (right; right; right; right; left; assumption) | (right; right; right; right; right; left; assumption) | (right; right; right; right; right; right; assumption)); exact fin_one HK.out HT.out h0 ho _ B3.out) | (have ho : oneN (bt s 0) = false := none_of (by assumption) (by assumption) (by assumption) (by assumption) (by assumption) (by assumption) (by assumption); exact fin_none HK.out HT.out h0 ho _ B3.out)
        ·
          go_enter Tryz.func40, Tryz.ntmps40
          go_wp2_with (first
    | (go_at_call 59; refine (rsmall_any _ _).mono ?_; rintro e w' ⟨rfl, hw⟩; have hw' := hw.symm; subst hw'; clear hw; rw [h1])
    | (go_at_call 61; refine (rgreat_any _ _).mono ?_; rintro e w' ⟨rfl, hw⟩; have hw' := hw.symm; subst hw'; clear hw; rw [h2])
    | (go_at_call 60; refine (rdigit_any _ _).mono ?_; rintro e w' ⟨rfl, hw⟩; have hw' := hw.symm; subst hw'; clear hw; rw [hc]))
          have B0 : Hid (Below w.heap.size w (w.alloc (.cells #[.string ⟨#[58, 45]⟩, .string ⟨#[33, 61]⟩, .string ⟨#[60, 61]⟩] 9))) := below_box _ _
          generalize w.alloc (.cells #[.string ⟨#[58, 45]⟩, .string ⟨#[33, 61]⟩, .string ⟨#[60, 61]⟩] 9) = W0 at *
          refine wp_loop_rounds 4 ?_
          rw [rounds_succ]
          go_wp2_with fail
          have gd : (2 : Int) ≤ (s.size : Int) := by omega
          go_quiet (fail)
          clear gd
          have B1 : Hid (Below w.heap.size w (W0.drewN nq)) := ⟨B0.out.os, B0.out.tape, B0.out.output, B0.out.size, B0.out.block⟩
          have T0 : (W0.drewN nq).cell? ⟨w.heap.size, 0, none⟩ = some (.string ⟨#[58, 45]⟩) := t0
          have T1 : (W0.drewN nq).cell? ⟨w.heap.size, 1, none⟩ = some (.string ⟨#[33, 61]⟩) := t1
          have T2 : (W0.drewN nq).cell? ⟨w.heap.size, 2, none⟩ = some (.string ⟨#[60, 61]⟩) := t2
          clear t0 t1 t2
          have t0 := T0; have t1 := T1; have t2 := T2; clear T0 T1 T2
          clear B0
          generalize W0.drewN nq = W1 at *
          go_wp2_with fail
          rw [rounds_succ]
          go_wp2_with fail
          have gd : (2 : Int) ≤ (s.size : Int) := by omega
          go_quiet (fail)
          clear gd
          have B2 : Hid (Below w.heap.size w (W1.drewN nq)) := ⟨B1.out.os, B1.out.tape, B1.out.output, B1.out.size, B1.out.block⟩
          have T0 : (W1.drewN nq).cell? ⟨w.heap.size, 0, none⟩ = some (.string ⟨#[58, 45]⟩) := t0
          have T1 : (W1.drewN nq).cell? ⟨w.heap.size, 1, none⟩ = some (.string ⟨#[33, 61]⟩) := t1
          have T2 : (W1.drewN nq).cell? ⟨w.heap.size, 2, none⟩ = some (.string ⟨#[60, 61]⟩) := t2
          clear t0 t1 t2
          have t0 := T0; have t1 := T1; have t2 := T2; clear T0 T1 T2
          clear B1
          generalize W1.drewN nq = W2 at *
          go_wp2_with fail
          rw [rounds_succ]
          go_wp2_with fail
          have gd : (2 : Int) ≤ (s.size : Int) := by omega
          go_quiet (fail)
          clear gd
          have B3 : Hid (Below w.heap.size w (W2.drewN nq)) := ⟨B2.out.os, B2.out.tape, B2.out.output, B2.out.size, B2.out.block⟩
          have T0 : (W2.drewN nq).cell? ⟨w.heap.size, 0, none⟩ = some (.string ⟨#[58, 45]⟩) := t0
          have T1 : (W2.drewN nq).cell? ⟨w.heap.size, 1, none⟩ = some (.string ⟨#[33, 61]⟩) := t1
          have T2 : (W2.drewN nq).cell? ⟨w.heap.size, 2, none⟩ = some (.string ⟨#[60, 61]⟩) := t2
          clear t0 t1 t2
          have t0 := T0; have t1 := T1; have t2 := T2; clear T0 T1 T2
          clear B2
          generalize W2.drewN nq = W3 at *
          go_wp2_with fail
          go_ret2
          exact fin_two HK.out HT.out h0 _ B3.out
      ·
        go_enter Tryz.func40, Tryz.ntmps40
        go_wp2_with (first
    | (go_at_call 59; refine (rsmall_any _ _).mono ?_; rintro e w' ⟨rfl, hw⟩; have hw' := hw.symm; subst hw'; clear hw; rw [h1])
    | (go_at_call 61; refine (rgreat_any _ _).mono ?_; rintro e w' ⟨rfl, hw⟩; have hw' := hw.symm; subst hw'; clear hw; rw [h2])
    | (go_at_call 60; refine (rdigit_any _ _).mono ?_; rintro e w' ⟨rfl, hw⟩; have hw' := hw.symm; subst hw'; clear hw; rw [hc]))
        have B0 : Hid (Below w.heap.size w (w.alloc (.cells #[.string ⟨#[58, 45]⟩, .string ⟨#[33, 61]⟩, .string ⟨#[60, 61]⟩] 9))) := below_box _ _
        generalize w.alloc (.cells #[.string ⟨#[58, 45]⟩, .string ⟨#[33, 61]⟩, .string ⟨#[60, 61]⟩] 9) = W0 at *
        refine wp_loop_rounds 4 ?_
        rw [rounds_succ]
        go_wp2_with fail
        have gd : (2 : Int) ≤ (s.size : Int) := by omega
        go_quiet (fail)
        clear gd
        have B1 : Hid (Below w.heap.size w (W0.drewN nq)) := ⟨B0.out.os, B0.out.tape, B0.out.output, B0.out.size, B0.out.block⟩
        have T0 : (W0.drewN nq).cell? ⟨w.heap.size, 0, none⟩ = some (.string ⟨#[58, 45]⟩) := t0
        have T1 : (W0.drewN nq).cell? ⟨w.heap.size, 1, none⟩ = some (.string ⟨#[33, 61]⟩) := t1
        have T2 : (W0.drewN nq).cell? ⟨w.heap.size, 2, none⟩ = some (.string ⟨#[60, 61]⟩) := t2
        clear t0 t1 t2
        have t0 := T0; have t1 := T1; have t2 := T2; clear T0 T1 T2
        clear B0
        generalize W0.drewN nq = W1 at *
        go_wp2_with fail
        rw [rounds_succ]
        go_wp2_with fail
        have gd : (2 : Int) ≤ (s.size : Int) := by omega
        go_quiet (fail)
        clear gd
        have B2 : Hid (Below w.heap.size w (W1.drewN nq)) := ⟨B1.out.os, B1.out.tape, B1.out.output, B1.out.size, B1.out.block⟩
        have T0 : (W1.drewN nq).cell? ⟨w.heap.size, 0, none⟩ = some (.string ⟨#[58, 45]⟩) := t0
        have T1 : (W1.drewN nq).cell? ⟨w.heap.size, 1, none⟩ = some (.string ⟨#[33, 61]⟩) := t1
        have T2 : (W1.drewN nq).cell? ⟨w.heap.size, 2, none⟩ = some (.string ⟨#[60, 61]⟩) := t2
        clear t0 t1 t2
        have t0 := T0; have t1 := T1; have t2 := T2; clear T0 T1 T2
        clear B1
        generalize W1.drewN nq = W2 at *
        go_wp2_with fail
        go_ret2
        exact fin_two HK.out HT.out h0 _ B2.out
    ·
      go_enter Tryz.func40, Tryz.ntmps40
      go_wp2_with (first
    | (go_at_call 59; refine (rsmall_any _ _).mono ?_; rintro e w' ⟨rfl, hw⟩; have hw' := hw.symm; subst hw'; clear hw; rw [h1])
    | (go_at_call 61; refine (rgreat_any _ _).mono ?_; rintro e w' ⟨rfl, hw⟩; have hw' := hw.symm; subst hw'; clear hw; rw [h2])
    | (go_at_call 60; refine (rdigit_any _ _).mono ?_; rintro e w' ⟨rfl, hw⟩; have hw' := hw.symm; subst hw'; clear hw; rw [hc]))
      have B0 : Hid (Below w.heap.size w (w.alloc (.cells #[.string ⟨#[58, 45]⟩, .string ⟨#[33, 61]⟩, .string ⟨#[60, 61]⟩] 9))) := below_box _ _
      generalize w.alloc (.cells #[.string ⟨#[58, 45]⟩, .string ⟨#[33, 61]⟩, .string ⟨#[60, 61]⟩] 9) = W0 at *
      refine wp_loop_rounds 4 ?_
      rw [rounds_succ]
      go_wp2_with fail
      have gd : (2 : Int) ≤ (s.size : Int) := by omega
      go_quiet (fail)
      clear gd
      have B1 : Hid (Below w.heap.size w (W0.drewN nq)) := ⟨B0.out.os, B0.out.tape, B0.out.output, B0.out.size, B0.out.block⟩
      have T0 : (W0.drewN nq).cell? ⟨w.heap.size, 0, none⟩ = some (.string ⟨#[58, 45]⟩) := t0
      have T1 : (W0.drewN nq).cell? ⟨w.heap.size, 1, none⟩ = some (.string ⟨#[33, 61]⟩) := t1
      have T2 : (W0.drewN nq).cell? ⟨w.heap.size, 2, none⟩ = some (.string ⟨#[60, 61]⟩) := t2
      clear t0 t1 t2
      have t0 := T0; have t1 := T1; have t2 := T2; clear T0 T1 T2
      clear B0
      generalize W0.drewN nq = W1 at *
      go_wp2_with fail
      go_ret2
      exact fin_two HK.out HT.out h0 _ B1.out
  · have HT : Hid (twoL (bs s) = false) := two_short _ (by rw [bs_length]; omega)
    go_enter Tryz.func40, Tryz.ntmps40
    go_wp2_with (first
    | (go_at_call 59; refine (rsmall_any _ _).mono ?_; rintro e w' ⟨rfl, hw⟩; have hw' := hw.symm; subst hw'; clear hw; rw [h1])
    | (go_at_call 61; refine (rgreat_any _ _).mono ?_; rintro e w' ⟨rfl, hw⟩; have hw' := hw.symm; subst hw'; clear hw; rw [h2])
    | (go_at_call 60; refine (rdigit_any _ _).mono ?_; rintro e w' ⟨rfl, hw⟩; have hw' := hw.symm; subst hw'; clear hw; rw [hc]))
    have B0 : Hid (Below w.heap.size w (w.alloc (.cells #[.string ⟨#[58, 45]⟩, .string ⟨#[33, 61]⟩, .string ⟨#[60, 61]⟩] 9))) := below_box _ _
    generalize w.alloc (.cells #[.string ⟨#[58, 45]⟩, .string ⟨#[33, 61]⟩, .string ⟨#[60, 61]⟩] 9) = W0 at *
    refine wp_loop_rounds 4 ?_
    rw [rounds_succ]
    go_wp2_with fail
    have gd : decide ((2 : Int) ≤ (s.size : Int)) = false := by simp; omega
    go_quiet (fail)
    clear gd
    have B1 : Hid (Below w.heap.size w (W0.drewN nq)) := ⟨B0.out.os, B0.out.tape, B0.out.output, B0.out.size, B0.out.block⟩
    have T0 : (W0.drewN nq).cell? ⟨w.heap.size, 0, none⟩ = some (.string ⟨#[58, 45]⟩) := t0
    have T1 : (W0.drewN nq).cell? ⟨w.heap.size, 1, none⟩ = some (.string ⟨#[33, 61]⟩) := t1
    have T2 : (W0.drewN nq).cell? ⟨w.heap.size, 2, none⟩ = some (.string ⟨#[60, 61]⟩) := t2
    clear t0 t1 t2
    have t0 := T0; have t1 := T1; have t2 := T2; clear T0 T1 T2
    clear B0
    generalize W0.drewN nq = W1 at *
    go_wp2_with fail
    rw [rounds_succ]
    go_wp2_with fail
    have gd : decide ((2 : Int) ≤ (s.size : Int)) = false := by simp; omega
    go_quiet (fail)
    clear gd
    have B2 : Hid (Below w.heap.size w (W1.drewN nq)) := ⟨B1.out.os, B1.out.tape, B1.out.output, B1.out.size, B1.out.block⟩
    have T0 : (W1.drewN nq).cell? ⟨w.heap.size, 0, none⟩ = some (.string ⟨#[58, 45]⟩) := t0
    have T1 : (W1.drewN nq).cell? ⟨w.heap.size, 1, none⟩ = some (.string ⟨#[33, 61]⟩) := t1
    have T2 : (W1.drewN nq).cell? ⟨w.heap.size, 2, none⟩ = some (.string ⟨#[60, 61]⟩) := t2
    clear t0 t1 t2
    have t0 := T0; have t1 := T1; have t2 := T2; clear T0 T1 T2
    clear B1
    generalize W1.drewN nq = W2 at *
    go_wp2_with fail
    rw [rounds_succ]
    go_wp2_with fail
    have gd : decide ((2 : Int) ≤ (s.size : Int)) = false := by simp; omega
    go_quiet (fail)
    clear gd
    have B3 : Hid (Below w.heap.size w (W2.drewN nq)) := ⟨B2.out.os, B2.out.tape, B2.out.output, B2.out.size, B2.out.block⟩
    have T0 : (W2.drewN nq).cell? ⟨w.heap.size, 0, none⟩ = some (.string ⟨#[58, 45]⟩) := t0
    have T1 : (W2.drewN nq).cell? ⟨w.heap.size, 1, none⟩ = some (.string ⟨#[33, 61]⟩) := t1
    have T2 : (W2.drewN nq).cell? ⟨w.heap.size, 2, none⟩ = some (.string ⟨#[60, 61]⟩) := t2
    clear t0 t1 t2
    have t0 := T0; have t1 := T1; have t2 := T2; clear T0 T1 T2
    clear B2
    generalize W2.drewN nq = W3 at *
    go_wp2_with fail
    rw [rounds_succ]
    go_wp2_with fail
    all_goals go_ret2
    all_goals first | (have ho : oneN (bt s 0) = true := one_of (by first | assumption | (left; assumption) | (right; left; assumption) | (right; right; left; assumption) | (right; right; right; left; assumption) | (right; right; right; right; left; assumption) | (right; right; right; right; right; left; assumption) | (right; right; right; right; right; right; assumption)); exact fin_one HK.out HT.out h0 ho _ B3.out) | (have ho : oneN (bt s 0) = false := none_of (by assumption) (by assumption) (by assumption) (by assumption) (by assumption) (by assumption) (by assumption); exact fin_none HK.out HT.out h0 ho _ B3.out)

theorem fin_bare {s : ByteArray} {w : World} (hk : kindL (bs s) = 3) (hn : numL (bs s) = 0) (w' : World) (hb : Below w.heap.size w w') : Wr s w (.returned (.tuple #[.int .i64 0, .int .i64 0])) w' :=
  wr_of' 0 0 rfl rfl ((size_num hk).trans hn) (Or.inl rfl) (fun _ => rfl) _ hb
theorem num_bare {s : ByteArray} (h0 : 0 < s.size) (h : bt s 0 = 45) (hd : 1 < s.size → digitN (bt s 1) = false) : numL (bs s) = 0 := by
  have e0 := drop_cons (bs s) 0 (by rw [bs_length]; omega)
  rw [List.drop_zero] at e0
  have g0 : ((bs s).getD 0 0).toNat = 45 := h
  by_cases hl : 1 < s.size
  · have e1 := drop_cons (bs s) 1 (by rw [bs_length]; omega)
    have g2 : digitN ((bs s).getD 1 0).toNat = false := hd hl
    have g1 : ¬ ((bs s).getD 1 0).toNat = 48 := fun e => by rw [e] at g2; exact absurd g2 (by decide)
    rw [e0, e1]
    simp only [numL]
    rw [if_neg (by rw [g0]; decide), if_pos g0, if_neg g1, if_neg (by rw [g2]; decide)]
  · have e1 : (bs s).drop 1 = [] := List.drop_eq_nil_of_le (by rw [bs_length]; omega)
    rw [e0, e1]
    simp only [numL]
    rw [if_neg (by rw [g0]; decide), if_pos g0]
theorem pre_bare {s : ByteArray} (x y : UInt8) (hx : x ≠ 45) (h0 : 0 < s.size) (h : bt s 0 = 45) : [x, y].isPrefixOf (bs s) = false := by
  have e0 := drop_cons (bs s) 0 (by rw [bs_length]; omega)
  rw [List.drop_zero] at e0
  have g0 : (bs s).getD 0 0 = 45 := UInt8.toNat_inj.1 h
  rw [e0, g0]
  have : (x == 45) = false := by simpa using hx
  simp [List.isPrefixOf, this]

set_option maxHeartbeats 4000000 in
theorem word_bare (s : ByteArray) (w : World) (h0 : 0 < s.size) (hs : s.size ≤ 4000) (h1 : smallN (bt s 0) = false) (h2 : greatN (bt s 0) = false) (hc : digitN (bt s 0) = false) (hm : bt s 0 = 45) (hd : 1 < s.size → digitN (bt s 1) = false) :
    Calls Tryz.prog 40 #[.string s] w fun e w' => Wr s w e w' := by
  have b0 := bt_at s 0 h0
  have t0 : (w.alloc (.cells #[.string ⟨#[58, 45]⟩, .string ⟨#[33, 61]⟩, .string ⟨#[60, 61]⟩] 9)).cell? ⟨w.heap.size, 0, none⟩ = some (.string ⟨#[58, 45]⟩) := (tB_cells w 0).1
  have t1 : (w.alloc (.cells #[.string ⟨#[58, 45]⟩, .string ⟨#[33, 61]⟩, .string ⟨#[60, 61]⟩] 9)).cell? ⟨w.heap.size, 1, none⟩ = some (.string ⟨#[33, 61]⟩) := (tB_cells w 0).2.1
  have t2 : (w.alloc (.cells #[.string ⟨#[58, 45]⟩, .string ⟨#[33, 61]⟩, .string ⟨#[60, 61]⟩] 9)).cell? ⟨w.heap.size, 2, none⟩ = some (.string ⟨#[60, 61]⟩) := (tB_cells w 0).2.2
  have g45 : ((bt s 0 : Int) == 45) = true := by rw [hm]; rfl
  have f40 : ((bt s 0 : Int) == 40) = false := by rw [hm]; rfl
  have f41 : ((bt s 0 : Int) == 41) = false := by rw [hm]; rfl
  have f44 : ((bt s 0 : Int) == 44) = false := by rw [hm]; rfl
  have f46 : ((bt s 0 : Int) == 46) = false := by rw [hm]; rfl
  have f33 : ((bt s 0 : Int) == 33) = false := by rw [hm]; rfl
  have f61 : ((bt s 0 : Int) == 61) = false := by rw [hm]; rfl
  have f60 : ((bt s 0 : Int) == 60) = false := by rw [hm]; rfl
  have HK : Hid (kindL (bs s) = 3) := kind_num h1 h2 (Or.inr hm)
  have HN : Hid (numL (bs s) = 0) := num_bare h0 hm hd
  by_cases hl : 2 ≤ s.size
  · have p0 := pre_two s 58 45 hl
    have p1 := pre_two s 33 61 hl
    have p2 := pre_two s 60 61 hl
    rw [pre_bare 58 45 (by decide) h0 hm] at p0
    rw [pre_bare 33 61 (by decide) h0 hm] at p1
    rw [pre_bare 60 61 (by decide) h0 hm] at p2
    have hd1 := hd (by omega)
    have hl1 : 1 < s.size := by omega
    have b1 := bt_at s 1 hl1
    have gl : (1 : Int) < (s.size : Int) := by omega
    clear hm hd
    go_enter Tryz.func40, Tryz.ntmps40
    go_wp2_with fail
    refine (rsmall_any _ _).mono ?_
    rintro e w' ⟨rfl, hw⟩; have hw' := hw.symm; subst hw'; clear hw; rw [h1]
    go_wp2_with fail
    refine (rgreat_any _ _).mono ?_
    rintro e w' ⟨rfl, hw⟩; have hw' := hw.symm; subst hw'; clear hw; rw [h2]
    go_wp2_with fail
    refine (rdigit_any _ _).mono ?_
    rintro e w' ⟨rfl, hw⟩; have hw' := hw.symm; subst hw'; clear hw; rw [hc]
    go_wp2_with fail
    refine (rdigit_any _ _).mono ?_
    rintro e w' ⟨rfl, hw⟩; have hw' := hw.symm; subst hw'; clear hw; rw [hd1]
    go_wp2_with fail
    have B0 : Hid (Below w.heap.size w (w.alloc (.cells #[.string ⟨#[58, 45]⟩, .string ⟨#[33, 61]⟩, .string ⟨#[60, 61]⟩] 9))) := below_box _ _
    generalize w.alloc (.cells #[.string ⟨#[58, 45]⟩, .string ⟨#[33, 61]⟩, .string ⟨#[60, 61]⟩] 9) = W0 at *
    refine wp_loop_rounds 4 ?_
    rw [rounds_succ]
    go_wp2_with fail
    have gd : (2 : Int) ≤ (s.size : Int) := by omega
    go_quiet (fail)
    clear gd
    have B1 : Hid (Below w.heap.size w (W0.drewN nq)) := ⟨B0.out.os, B0.out.tape, B0.out.output, B0.out.size, B0.out.block⟩
    have T0 : (W0.drewN nq).cell? ⟨w.heap.size, 0, none⟩ = some (.string ⟨#[58, 45]⟩) := t0
    have T1 : (W0.drewN nq).cell? ⟨w.heap.size, 1, none⟩ = some (.string ⟨#[33, 61]⟩) := t1
    have T2 : (W0.drewN nq).cell? ⟨w.heap.size, 2, none⟩ = some (.string ⟨#[60, 61]⟩) := t2
    clear t0 t1 t2
    have t0 := T0; have t1 := T1; have t2 := T2; clear T0 T1 T2
    clear B0
    generalize W0.drewN nq = W1 at *
    go_wp2_with fail
    rw [rounds_succ]
    go_wp2_with fail
    have gd : (2 : Int) ≤ (s.size : Int) := by omega
    go_quiet (fail)
    clear gd
    have B2 : Hid (Below w.heap.size w (W1.drewN nq)) := ⟨B1.out.os, B1.out.tape, B1.out.output, B1.out.size, B1.out.block⟩
    have T0 : (W1.drewN nq).cell? ⟨w.heap.size, 0, none⟩ = some (.string ⟨#[58, 45]⟩) := t0
    have T1 : (W1.drewN nq).cell? ⟨w.heap.size, 1, none⟩ = some (.string ⟨#[33, 61]⟩) := t1
    have T2 : (W1.drewN nq).cell? ⟨w.heap.size, 2, none⟩ = some (.string ⟨#[60, 61]⟩) := t2
    clear t0 t1 t2
    have t0 := T0; have t1 := T1; have t2 := T2; clear T0 T1 T2
    clear B1
    generalize W1.drewN nq = W2 at *
    go_wp2_with fail
    rw [rounds_succ]
    go_wp2_with fail
    have gd : (2 : Int) ≤ (s.size : Int) := by omega
    go_quiet (fail)
    clear gd
    have B3 : Hid (Below w.heap.size w (W2.drewN nq)) := ⟨B2.out.os, B2.out.tape, B2.out.output, B2.out.size, B2.out.block⟩
    have T0 : (W2.drewN nq).cell? ⟨w.heap.size, 0, none⟩ = some (.string ⟨#[58, 45]⟩) := t0
    have T1 : (W2.drewN nq).cell? ⟨w.heap.size, 1, none⟩ = some (.string ⟨#[33, 61]⟩) := t1
    have T2 : (W2.drewN nq).cell? ⟨w.heap.size, 2, none⟩ = some (.string ⟨#[60, 61]⟩) := t2
    clear t0 t1 t2
    have t0 := T0; have t1 := T1; have t2 := T2; clear T0 T1 T2
    clear B2
    generalize W2.drewN nq = W3 at *
    go_wp2_with fail
    rw [rounds_succ]
    go_wp2_with fail
    go_ret2
    exact fin_bare HK.out HN.out _ B3.out
  · have gl : decide ((1 : Int) < (s.size : Int)) = false := by simp; omega
    clear hm hd
    go_enter Tryz.func40, Tryz.ntmps40
    go_wp2_with (first
    | (go_at_call 59; refine (rsmall_any _ _).mono ?_; rintro e w' ⟨rfl, hw⟩; have hw' := hw.symm; subst hw'; clear hw; rw [h1])
    | (go_at_call 61; refine (rgreat_any _ _).mono ?_; rintro e w' ⟨rfl, hw⟩; have hw' := hw.symm; subst hw'; clear hw; rw [h2])
    | (go_at_call 60; refine (rdigit_any _ _).mono ?_; rintro e w' ⟨rfl, hw⟩; have hw' := hw.symm; subst hw'; clear hw; rw [hc]))
    have B0 : Hid (Below w.heap.size w (w.alloc (.cells #[.string ⟨#[58, 45]⟩, .string ⟨#[33, 61]⟩, .string ⟨#[60, 61]⟩] 9))) := below_box _ _
    generalize w.alloc (.cells #[.string ⟨#[58, 45]⟩, .string ⟨#[33, 61]⟩, .string ⟨#[60, 61]⟩] 9) = W0 at *
    refine wp_loop_rounds 4 ?_
    rw [rounds_succ]
    go_wp2_with fail
    have gd : decide ((2 : Int) ≤ (s.size : Int)) = false := by simp; omega
    go_quiet (fail)
    clear gd
    have B1 : Hid (Below w.heap.size w (W0.drewN nq)) := ⟨B0.out.os, B0.out.tape, B0.out.output, B0.out.size, B0.out.block⟩
    have T0 : (W0.drewN nq).cell? ⟨w.heap.size, 0, none⟩ = some (.string ⟨#[58, 45]⟩) := t0
    have T1 : (W0.drewN nq).cell? ⟨w.heap.size, 1, none⟩ = some (.string ⟨#[33, 61]⟩) := t1
    have T2 : (W0.drewN nq).cell? ⟨w.heap.size, 2, none⟩ = some (.string ⟨#[60, 61]⟩) := t2
    clear t0 t1 t2
    have t0 := T0; have t1 := T1; have t2 := T2; clear T0 T1 T2
    clear B0
    generalize W0.drewN nq = W1 at *
    go_wp2_with fail
    rw [rounds_succ]
    go_wp2_with fail
    have gd : decide ((2 : Int) ≤ (s.size : Int)) = false := by simp; omega
    go_quiet (fail)
    clear gd
    have B2 : Hid (Below w.heap.size w (W1.drewN nq)) := ⟨B1.out.os, B1.out.tape, B1.out.output, B1.out.size, B1.out.block⟩
    have T0 : (W1.drewN nq).cell? ⟨w.heap.size, 0, none⟩ = some (.string ⟨#[58, 45]⟩) := t0
    have T1 : (W1.drewN nq).cell? ⟨w.heap.size, 1, none⟩ = some (.string ⟨#[33, 61]⟩) := t1
    have T2 : (W1.drewN nq).cell? ⟨w.heap.size, 2, none⟩ = some (.string ⟨#[60, 61]⟩) := t2
    clear t0 t1 t2
    have t0 := T0; have t1 := T1; have t2 := T2; clear T0 T1 T2
    clear B1
    generalize W1.drewN nq = W2 at *
    go_wp2_with fail
    rw [rounds_succ]
    go_wp2_with fail
    have gd : decide ((2 : Int) ≤ (s.size : Int)) = false := by simp; omega
    go_quiet (fail)
    clear gd
    have B3 : Hid (Below w.heap.size w (W2.drewN nq)) := ⟨B2.out.os, B2.out.tape, B2.out.output, B2.out.size, B2.out.block⟩
    have T0 : (W2.drewN nq).cell? ⟨w.heap.size, 0, none⟩ = some (.string ⟨#[58, 45]⟩) := t0
    have T1 : (W2.drewN nq).cell? ⟨w.heap.size, 1, none⟩ = some (.string ⟨#[33, 61]⟩) := t1
    have T2 : (W2.drewN nq).cell? ⟨w.heap.size, 2, none⟩ = some (.string ⟨#[60, 61]⟩) := t2
    clear t0 t1 t2
    have t0 := T0; have t1 := T1; have t2 := T2; clear T0 T1 T2
    clear B2
    generalize W2.drewN nq = W3 at *
    go_wp2_with fail
    rw [rounds_succ]
    go_wp2_with fail
    go_ret2
    exact fin_bare HK.out HN.out _ B3.out

end Go.Proofs.YtcfhpodpkficaaaGreatDoor.Lx
namespace Go.Proofs.YtcfhpodpkficaaaGreatDoor.Lx
open Go.RowKit

theorem kindN_pos (n : Nat) : 1 ≤ kindN n ∧ kindN n ≤ 4 := by
  unfold kindN
  repeat' split
  all_goals omega

/-- What first says of the rest of a text, for the words from there on. -/
theorem first_says (S : List UInt8) (a : Nat) (h : a < S.length) (hb : blankN (S.getD a 0).toNat = false) (hn : (S.getD a 0).toNat ≠ 37) :
    (firstK (S.drop a) = 0 ∧ scanAt S a = none) ∨ (1 ≤ firstK (S.drop a) ∧ 1 ≤ firstN (S.drop a) ∧ firstN (S.drop a) ≤ 16 ∧ a + firstN (S.drop a) ≤ S.length ∧
      scanAt S a = (scanAt S (a + firstN (S.drop a))).map (fun r => (firstK (S.drop a), (S.drop a).take (firstN (S.drop a)), a) :: r)) := by
  by_cases hs : sizeL (S.drop a) = 0 ∨ 16 < sizeL (S.drop a)
  · left
    exact ⟨if_pos hs, scanAt_bad S a h hb hn hs⟩
  · right
    have e1 : firstK (S.drop a) = kindL (S.drop a) := if_neg hs
    have e2 : firstN (S.drop a) = sizeL (S.drop a) := if_neg hs
    have hl := sizeL_le (S.drop a)
    rw [List.length_drop] at hl
    rw [e1, e2]
    exact ⟨(kindN_pos _).1, by omega, by omega, by omega, scanAt_word S a h hb hn (by omega) (by omega)⟩

/-- What Scan gives: an error, or a row of the words. -/
def Sc (e : TypeId) (s : ByteArray) (w : World) (r : Ending) (w' : World) : Prop :=
  (∃ v L, scanAt (bs s) 0 = some L ∧ r = .returned (.tuple #[v, .int .i64 0]) ∧ Rw e w w' v L) ∨ (scanAt (bs s) 0 = none ∧ r = .returned (.tuple #[.slice none 0 0, .int .i64 4]) ∧ Below w.heap.size w w')

theorem map_snoc {α : Type} (o : Option (List α)) (L : List α) (x : α) : (o.map (fun r => x :: r)).map (fun r => L ++ r) = o.map (fun r => (L ++ [x]) ++ r) := by
  cases o <;> simp

theorem scan_long (s : ByteArray) (w : World) (h : 4000 < s.size) :
    Calls Tryz.prog 62 #[.string s] w fun e w' => e = .returned (.tuple #[.slice none 0 0, .int .i64 8]) ∧ w' = w := by
  go_enter Tryz.func62, Tryz.ntmps62
  go_wp2
  go_ret2
  exact ⟨rfl, rfl⟩

set_option maxHeartbeats 2000000 in
theorem scan_any (s : ByteArray) (w : World) (h : Sg w) (hs : s.size ≤ 4000) :
    Calls Tryz.prog 62 #[.string s] w fun e w' => Sc 101 s w e w' := by
  have HS : Hid (Sg w) := h
  clear h
  go_enter Tryz.func62, Tryz.ntmps62
  go_wp2_with fail
  refine (skip_any s 0 w (Nat.zero_le _) (by omega)).mono ?_
  rintro e w' ⟨⟨b, rfl, hb1, _, hb2, hb3⟩, hw⟩
  have hw' := hw.symm
  subst hw'
  clear hw
  have HB2 : Hid _ := hb2
  have HB3 : Hid _ := hb3
  clear hb2 hb3
  go_wp2_with fail
  go_loopw [4, 5] (fun v i wr => ∃ (k : Nat) (L : List Wd), i = .int .i64 k ∧ k ≤ s.size ∧ Hid (scanAt (bs s) 0 = (scanAt (bs s) k).map (fun r => L ++ r)) ∧ Hid (k < s.size → blankN (bt s k) = false ∧ bt s k ≠ 37) ∧ L.length ≤ k ∧ Hid (Rw 101 w wr v L)) (fun _ i _ => s.size - (intOf i).toNat)
  case atStart => exact ⟨b, [], rfl, hb1, by rw [HB2.out]; show _ = _; cases scanAt (bs s) b <;> simp, HB3, Nat.zero_le _, Rw.nil _ _⟩
  case round =>
    obtain ⟨k, L, rfl, hk, H1, H2, hLk, HR⟩ := hrel
    clear HB2 HB3
    by_cases hlt : k < s.size
    · have hF := first_says (bs s) k hlt (H2.out hlt).1 (H2.out hlt).2
      have HSr : Hid (Sg wr) := HS.out.below HR.out.below
      obtain ⟨kk, hkk⟩ : ∃ kk, Hid (firstK ((bs s).drop k) = kk) := ⟨_, rfl⟩
      obtain ⟨nn, hnn⟩ : ∃ nn, Hid (firstN ((bs s).drop k) = nn) := ⟨_, rfl⟩
      rw [hkk.out, hnn.out] at hF
      go_wp2_with fail
      refine (first_any _ _ HSr.out (by rw [size_from]; omega) (by rw [size_from]; omega)).mono ?_
      rintro e w' ⟨rfl, hw⟩
      have hw' := hw.symm
      subst hw'
      clear hw
      rw [bs_from, hkk.out, hnn.out]
      rcases hF with ⟨h0, hnone⟩ | ⟨h1, h2, h3, h4, h5⟩
      · subst h0
        have HN : Hid _ := hnone
        clear hnone
        go_wp2_with fail
        go_ret2
        exact Or.inr ⟨by rw [H1.out, HN.out]; rfl, rfl, HR.out.below⟩
      · have g0 : ((kk : Int) == 0) = false := by simp; omega
        have H5 : Hid _ := h5
        have h4' : k + nn ≤ s.size := h4
        clear h5 h4
        obtain ⟨X, hX⟩ : ∃ X, Hid (((bs s).drop k).take nn = X) := ⟨_, rfl⟩
        have hex : s.extract k (k + nn) = tx X := by rw [extract_tx, Nat.add_sub_cancel_left, hX.out]
        have hsz : (tx X).size ≤ 281474976710656 := by rw [← hex]; simp; omega
        rw [hX.out] at H5
        have HX : Hid _ := hex
        have HZ : Hid _ := hsz
        clear hex hsz
        go_wp2_with fail
        rw [HX.out]
        refine (clone_any _ _ HZ.out).mono ?_
        rintro e w1 ⟨rfl, hb⟩
        have HR1 : Hid (Rw 101 w w1 u4 L) := HR.out.keep hb
        obtain ⟨g, cap, w3, hap, HR3⟩ := push_any 77 101 Tryz.underlying77 Tryz.info101 HR1.out (kk, X, k) (by omega)
        clear HR HR1 hb HZ HX HSr
        go_wp2_with (at_builtin; refine wpList_append_run _ rfl (.tmp 26) (.tmp 37) 77 77 rfl _ _ rfl rfl (hap _) ?_)
        refine (skip_any s (k + nn) w3 (by omega) (by omega)).mono ?_
        rintro e w' ⟨⟨b2, rfl, hc1, hc4, hc2, hc3⟩, hw⟩
        have hw' := hw.symm
        subst hw'
        clear hw
        have HC2 : Hid _ := hc2
        have HC3 : Hid _ := hc3
        clear hc2 hc3 hap
        go_wp2_with fail
        go_roundw
        case rel => exact ⟨b2, L ++ [(kk, X, k)], rfl, hc1, by rw [H1.out, H5.out, map_snoc, HC2.out]; rfl, HC3, by simp; omega, HR3⟩
        case measure => simp [intOf]; omega
    · have hke : k = s.size := by omega
      subst hke
      go_wp2_with fail
      go_ret2
      exact Or.inl ⟨_, L, by rw [H1.out, scanAt_end (bs s) s.size (Nat.le_refl _)]; simp, rfl, HR.out⟩

end Go.Proofs.YtcfhpodpkficaaaGreatDoor.Lx
namespace Go.Proofs.YtcfhpodpkficaaaGreatDoor.Lx

/-- The words ahead of the first fault; all words, if there is none. -/
def frontL (L : List UInt8) (a : Nat) : List Wd :=
  match L with
  | [] => []
  | c :: t =>
    if blankN c.toNat = true then frontL t (a + 1)
    else if c.toNat = 37 then frontL (t.drop (lineL t)) (a + 1 + lineL t)
    else if sizeL (c :: t) = 0 ∨ 16 < sizeL (c :: t) then []
    else (kindL (c :: t), (c :: t).take (sizeL (c :: t)), a) :: frontL (t.drop (sizeL (c :: t) - 1)) (a + sizeL (c :: t))
  termination_by L.length
  decreasing_by all_goals (simp <;> omega)

theorem frontL_nil (a : Nat) : frontL [] a = [] := by rw [frontL]
theorem frontL_cons (c : UInt8) (t : List UInt8) (a : Nat) : frontL (c :: t) a = if blankN c.toNat = true then frontL t (a + 1)
    else if c.toNat = 37 then frontL (t.drop (lineL t)) (a + 1 + lineL t)
    else if sizeL (c :: t) = 0 ∨ 16 < sizeL (c :: t) then []
    else (kindL (c :: t), (c :: t).take (sizeL (c :: t)), a) :: frontL (t.drop (sizeL (c :: t) - 1)) (a + sizeL (c :: t)) := by
  rw [frontL]

theorem front_of_scan (n : Nat) : ∀ (L : List UInt8) (a : Nat) (m : List Wd), L.length ≤ n → scanL L a = some m → frontL L a = m := by
  induction n with
  | zero =>
    intro L a m hl h
    obtain rfl : L = [] := by cases L; rfl; simp at hl
    rw [scanL_nil] at h
    rw [frontL_nil]
    exact Option.some.inj h
  | succ n ih =>
    intro L a m hl h
    match L with
    | [] =>
      rw [scanL_nil] at h
      rw [frontL_nil]
      exact Option.some.inj h
    | c :: t =>
      simp only [List.length_cons] at hl
      rw [scanL_cons] at h
      rw [frontL_cons]
      by_cases hb : blankN c.toNat = true
      · rw [if_pos hb] at h ⊢
        exact ih t _ m (by omega) h
      · rw [if_neg hb] at h ⊢
        by_cases hn : c.toNat = 37
        · rw [if_pos hn] at h ⊢
          exact ih _ _ m (by rw [List.length_drop]; omega) h
        · rw [if_neg hn] at h ⊢
          by_cases hs : sizeL (c :: t) = 0 ∨ 16 < sizeL (c :: t)
          · rw [if_pos hs] at h
            cases h
          · rw [if_neg hs] at h ⊢
            cases hr : scanL (t.drop (sizeL (c :: t) - 1)) (a + sizeL (c :: t)) with
            | none => rw [hr] at h; cases h
            | some r =>
              rw [hr] at h
              obtain rfl := Option.some.inj h
              rw [ih _ _ r (by rw [List.length_drop]; omega) hr]

def frontAt (S : List UInt8) (a : Nat) : List Wd := frontL (S.drop a) a
theorem frontAt_of_scan {S : List UInt8} {a : Nat} {m : List Wd} (h : scanAt S a = some m) : frontAt S a = m := front_of_scan _ _ _ _ (Nat.le_refl _) h

theorem frontAt_end (S : List UInt8) (a : Nat) (h : S.length ≤ a) : frontAt S a = [] := by
  rw [frontAt, List.drop_eq_nil_of_le h, frontL_nil]
theorem frontAt_blank (S : List UInt8) (a : Nat) (h : a < S.length) (hb : blankN (S.getD a 0).toNat = true) : frontAt S a = frontAt S (a + 1) := by
  rw [frontAt, drop_cons S a h, frontL_cons, if_pos hb, frontAt]
theorem frontAt_note (S : List UInt8) (a : Nat) (h : a < S.length) (hb : (S.getD a 0).toNat = 37) : frontAt S a = frontAt S (a + lineL (S.drop a)) := by
  have e := drop_cons S a h
  rw [frontAt, e, frontL_cons, if_neg (by rw [hb]; decide), if_pos hb, frontAt, line_cons _ _ hb, List.drop_drop]
  have e1 : a + 1 + lineL (S.drop (a + 1)) = a + (lineL (S.drop (a + 1)) + 1) := by omega
  rw [e1]
theorem frontAt_bad (S : List UInt8) (a : Nat) (h : a < S.length) (hb : blankN (S.getD a 0).toNat = false) (hn : (S.getD a 0).toNat ≠ 37) (hs : sizeL (S.drop a) = 0 ∨ 16 < sizeL (S.drop a)) : frontAt S a = [] := by
  have e := drop_cons S a h
  rw [frontAt, e, frontL_cons, if_neg (by rw [hb]; decide), if_neg hn, ← e, if_pos hs]
theorem frontAt_word (S : List UInt8) (a : Nat) (h : a < S.length) (hb : blankN (S.getD a 0).toNat = false) (hn : (S.getD a 0).toNat ≠ 37) (h0 : sizeL (S.drop a) ≠ 0) (hs : sizeL (S.drop a) ≤ 16) :
    frontAt S a = (kindL (S.drop a), (S.drop a).take (sizeL (S.drop a)), a) :: frontAt S (a + sizeL (S.drop a)) := by
  have e := drop_cons S a h
  have e2 : (S.drop (a + 1)).drop (sizeL (S.drop a) - 1) = S.drop (a + sizeL (S.drop a)) := by
    rw [List.drop_drop]
    congr 1
    omega
  rw [frontAt, e, frontL_cons, if_neg (by rw [hb]; decide), if_neg hn, ← e, if_neg (by omega), e2, frontAt]

/-- How far a text has been read: the words so far, and what the rest gives. -/
def Sp (S : List UInt8) (k : Nat) (L : List Wd) : Prop := scanAt S 0 = (scanAt S k).map (fun r => L ++ r) ∧ frontAt S 0 = L ++ frontAt S k
theorem Sp.start (S : List UInt8) : Sp S 0 [] := ⟨by cases scanAt S 0 <;> simp, by simp⟩
theorem Sp.same {S : List UInt8} {k j : Nat} {L : List Wd} (h : Sp S k L) (e : scanAt S k = scanAt S j ∧ frontAt S k = frontAt S j) : Sp S j L := ⟨by rw [h.1, e.1], by rw [h.2, e.2]⟩
theorem Sp.more {S : List UInt8} {k j : Nat} {L : List Wd} {x : Wd} (h : Sp S k L) (e : scanAt S k = (scanAt S j).map (fun r => x :: r) ∧ frontAt S k = x :: frontAt S j) : Sp S j (L ++ [x]) :=
  ⟨by rw [h.1, e.1]; cases scanAt S j <;> simp, by rw [h.2, e.2]; simp⟩
theorem Sp.bad {S : List UInt8} {k : Nat} {L : List Wd} (h : Sp S k L) (e : scanAt S k = none ∧ frontAt S k = []) : scanAt S 0 = none ∧ frontAt S 0 = L := ⟨by rw [h.1, e.1]; rfl, by rw [h.2, e.2]; simp⟩
theorem Sp.good {S : List UInt8} {k : Nat} {L : List Wd} (h : Sp S k L) (e : S.length ≤ k) : scanAt S 0 = some L := by rw [h.1, scanAt_end S k e]; simp

end Go.Proofs.YtcfhpodpkficaaaGreatDoor.Lx
namespace Go.Proofs.YtcfhpodpkficaaaGreatDoor.Lx
open Go.RowKit

theorem word_any (s : ByteArray) (w : World) (h0 : 0 < s.size) (hs : s.size ≤ 4000) : Calls Tryz.prog 40 #[.string s] w fun e w' => Wr s w e w' := by
  by_cases h1 : smallN (bt s 0) = true
  · exact word_small s w h0 hs h1
  rw [Bool.not_eq_true] at h1
  by_cases h2 : greatN (bt s 0) = true
  · exact word_great s w h0 hs h1 h2
  rw [Bool.not_eq_true] at h2
  by_cases h3 : digitN (bt s 0) = true
  · exact word_digit s w h0 hs h1 h2 h3
  rw [Bool.not_eq_true] at h3
  by_cases h4 : bt s 0 = 45
  · by_cases hd : 1 < s.size ∧ digitN (bt s 1) = true
    · exact word_minus s w h0 hd.1 hs h1 h2 h3 h4 hd.2
    · exact word_bare s w h0 hs h1 h2 h3 h4 fun hl => by
        cases hx : digitN (bt s 1)
        · rfl
        · exact absurd ⟨hl, hx⟩ hd
  · exact word_sign s w h0 hs h1 h2 h3 h4

/-- What the reference's Scan gives. -/
def Sr (s : ByteArray) (w : World) (r : Ending) (w' : World) : Prop :=
  (∃ v L, scanAt (bs s) 0 = some L ∧ r = .returned (.tuple #[v, .int .i64 0]) ∧ Rw 50 w w' v L) ∨ (scanAt (bs s) 0 = none ∧ ∃ v, r = .returned (.tuple #[v, .int .i64 4]) ∧ Rw 50 w w' v (frontAt (bs s) 0))

theorem blank_not {n : Nat} (h : blankN n = false) : ((n : Int) == 32) = false ∧ ((n : Int) == 9) = false ∧ ((n : Int) == 10) = false ∧ ((n : Int) == 13) = false := by
  simp [blankN] at h
  simp
  omega
theorem blank_is {n : Nat} (h : blankN n = true) : n = 32 ∨ n = 9 ∨ n = 10 ∨ n = 13 := by
  simp [blankN] at h
  omega

theorem kind_four {L : List UInt8} (h : kindL L = 4) : sizeL L ≤ 16 := by
  rw [sizeL, if_neg (by rw [h]; decide), if_neg (by rw [h]; decide), if_neg (by rw [h]; decide)]
  have := signL_two L
  omega

theorem line_eq {s : ByteArray} {k j : Nat} (hkj : k ≤ j) (hj : j ≤ s.size) (h : ∀ x, k ≤ x → x < j → bt s x ≠ 10) (he : j = s.size ∨ bt s j = 10) : lineL ((bs s).drop k) = j - k := by
  refine runP_eq _ _ _ (by rw [List.length_drop, bs_length]; omega) (fun x hx => ?_) ?_
  · have := h (k + x) (by omega) (by omega)
    simpa [bt, List.getD, List.getElem?_drop] using this
  · rcases he with he | he
    · left; rw [List.length_drop, bs_length]; omega
    · right
      have e : k + (j - k) = j := by omega
      simpa [bt, List.getD, List.getElem?_drop, e] using he

/-- What word says of the rest of a text. -/
theorem word_says (S : List UInt8) (a n d : Nat) (h : a < S.length) (hb : blankN (S.getD a 0).toNat = false) (hn : (S.getD a 0).toNat ≠ 37) (e1 : sizeL (S.drop a) = n) (e2 : (if sizeL (S.drop a) = 0 then 0 else kindL (S.drop a)) = d) :
    (n = 0 ∧ scanAt S a = none ∧ frontAt S a = []) ∨ (16 < n ∧ d < 4 ∧ scanAt S a = none ∧ frontAt S a = []) ∨ (1 ≤ n ∧ n ≤ 16 ∧ a + n ≤ S.length ∧ scanAt S a = (scanAt S (a + n)).map (fun r => (d, (S.drop a).take n, a) :: r) ∧ frontAt S a = (d, (S.drop a).take n, a) :: frontAt S (a + n)) := by
  have hl := sizeL_le (S.drop a)
  rw [List.length_drop] at hl
  by_cases h0 : n = 0
  · left
    exact ⟨h0, scanAt_bad S a h hb hn (Or.inl (by rw [e1, h0])), frontAt_bad S a h hb hn (Or.inl (by rw [e1, h0]))⟩
  · right
    rw [e1, if_neg h0] at e2
    by_cases h16 : 16 < n
    · left
      refine ⟨h16, ?_, scanAt_bad S a h hb hn (Or.inr (by rw [e1]; exact h16)), frontAt_bad S a h hb hn (Or.inr (by rw [e1]; exact h16))⟩
      have hk : kindL (S.drop a) ≤ 4 := (kindN_pos _).2
      by_cases h4 : kindL (S.drop a) = 4
      · have := kind_four h4
        omega
      · omega
    · right
      have := scanAt_word S a h hb hn (by rw [e1]; exact h0) (by rw [e1]; omega)
      rw [e1, e2] at this
      have this2 := frontAt_word S a h hb hn (by rw [e1]; exact h0) (by rw [e1]; omega)
      rw [e1, e2] at this2
      exact ⟨by omega, by omega, by omega, this, this2⟩

theorem rscan_long (s : ByteArray) (w : World) (h : 4000 < s.size) :
    Calls Tryz.prog 20 #[.string s] w fun e w' => e = .returned (.tuple #[.slice none 0 0, .int .i64 8]) ∧ w' = w := by
  go_enter Tryz.func20, Tryz.ntmps20
  go_wp2
  go_ret2
  exact ⟨rfl, rfl⟩

set_option maxRecDepth 4000 in
set_option maxHeartbeats 4000000 in
theorem rscan_any (s : ByteArray) (w : World) (hs : s.size ≤ 4000) :
    Calls Tryz.prog 20 #[.string s] w fun e w' => Sr s w e w' := by
  go_enter Tryz.func20, Tryz.ntmps20
  go_wp2_with fail
  go_loopw [4, 5] (fun v i wr => ∃ (k : Nat) (L : List Wd), i = .int .i64 k ∧ k ≤ s.size ∧ Hid (Sp (bs s) k L) ∧ L.length ≤ k ∧ Hid (Rw 50 w wr v L)) (fun _ i _ => s.size - (intOf i).toNat)
  case atStart => exact ⟨0, [], rfl, Nat.zero_le _, Sp.start _, Nat.le_refl _, Rw.nil _ _⟩
  case round =>
    obtain ⟨k, L, rfl, hk, H1, hLk, HR⟩ := hrel
    by_cases hlt : k < s.size
    · have bk := bt_at s k hlt
      have hltI : (k : Int) < (s.size : Int) := by omega
      cases hb : blankN (bt s k)
      · obtain ⟨n1, n2, n3, n4⟩ := blank_not hb
        have HB : Hid _ := hb
        clear hb
        by_cases hp : bt s k = 37
        · have g37 : ((bt s k : Int) == 37) = true := by rw [hp]; rfl
          have HP : Hid _ := hp
          clear hp
          go_wp2_with fail
          go_loopw [5] (fun i wr' => ∃ j : Nat, k ≤ j ∧ j ≤ s.size ∧ i = .int .i64 j ∧ Hid (∀ x, k ≤ x → x < j → bt s x ≠ 10) ∧ wr' = wr) (fun i _ => s.size - (intOf i).toNat)
          case atStart => exact ⟨k, Nat.le_refl _, hk, rfl, fun x h1 h2 => absurd h2 (by omega), rfl⟩
          case round =>
            obtain ⟨j, hkj, hj, rfl, hx, hw⟩ := hrel
            have hw' := hw.symm
            subst hw'
            have dn : (j = s.size ∨ bt s j = 10) → (scanAt (bs s) k = scanAt (bs s) j ∧ frontAt (bs s) k = frontAt (bs s) j) ∧ k < j := fun he => by
              have hn := scanAt_note (bs s) k hlt HP.out
              have hn2 := frontAt_note (bs s) k hlt HP.out
              rw [line_eq hkj hj hx.out he] at hn hn2
              have e : k + (j - k) = j := by omega
              rw [e] at hn hn2
              exact ⟨⟨hn.1, hn2⟩, by omega⟩
            have DN : Hid _ := dn
            clear dn bk
            by_cases hlj : j < s.size
            · have bj := bt_at s j hlj
              have hljI : (j : Int) < (s.size : Int) := by omega
              by_cases h10 : bt s j = 10
              · have g10 : ((bt s j : Int) == 10) = true := by rw [h10]; rfl
                obtain ⟨d1, d2⟩ := DN.out (Or.inr h10)
                have D1 : Hid _ := d1
                clear d1 h10 DN
                go_wp2_with fail
                exact ⟨⟨j, L, rfl, hj, H1.out.same D1.out, by omega, HR⟩, by simp [intOf]; omega⟩
              · have g10 : ((bt s j : Int) == 10) = false := by simp; omega
                have H10 : Hid _ := h10
                clear h10
                go_wp2_with fail
                go_roundw
                case rel => exact ⟨j + 1, by omega, by omega, by go_num, fun x h1 h2 => by
                  by_cases e : x < j
                  · exact hx.out x h1 e
                  · have : x = j := by omega
                    rw [this]; exact H10.out, trivial⟩
                case measure => simp [intOf]; omega
            · have hje : j = s.size := by omega
              subst hje
              obtain ⟨d1, d2⟩ := DN.out (Or.inl rfl)
              have D1 : Hid _ := d1
              clear d1 DN
              go_wp2_with fail
              exact ⟨⟨s.size, L, rfl, Nat.le_refl _, H1.out.same D1.out, by omega, HR⟩, by simp [intOf]; omega⟩
        · have g37 : ((bt s k : Int) == 37) = false := by simp; omega
          have HP : Hid _ := hp
          clear hp
          obtain ⟨n, hn⟩ : ∃ n, Hid (sizeL ((bs s).drop k) = n) := ⟨_, rfl⟩
          obtain ⟨d, hd⟩ : ∃ d, Hid ((if sizeL ((bs s).drop k) = 0 then 0 else kindL ((bs s).drop k)) = d) := ⟨_, rfl⟩
          have HW : Hid _ := word_says (bs s) k n d hlt HB.out HP.out hn.out hd.out
          go_wp2_with fail
          refine (word_any _ _ (by rw [size_from]; omega) (by rw [size_from]; omega)).mono ?_
          rintro e w1 ⟨rfl, hb⟩
          rw [bs_from, hd.out, hn.out]
          have HR1 : Hid (Rw 50 w w1 u4 L) := HR.out.keep hb
          clear hb HR
          rcases HW.out with ⟨h0, hno⟩ | ⟨h16, h4, hno⟩ | ⟨g1, g2, g3, g4⟩
          · subst h0
            have HN : Hid _ := hno
            clear hno HW hn hd
            go_wp2_with fail
            go_ret2
            exact Or.inr ⟨(H1.out.bad HN.out).1, _, rfl, by rw [(H1.out.bad HN.out).2]; exact HR1.out⟩
          · have HN : Hid _ := hno
            clear hno HW hn hd
            have e0 : ((n : Int) == 0) = false := by simp; omega
            have e1 : (d : Int) < 4 := by omega
            have e2 : (16 : Int) < (n : Int) := by omega
            go_wp2_with fail
            go_ret2
            exact Or.inr ⟨(H1.out.bad HN.out).1, _, rfl, by rw [(H1.out.bad HN.out).2]; exact HR1.out⟩
          · have H4 : Hid _ := g4
            clear g4 HW hn hd
            have e0 : ((n : Int) == 0) = false := by simp; omega
            have e2 : ¬ (16 : Int) < (n : Int) := by omega
            have hn3 : k + n ≤ s.size := g3
            obtain ⟨X, hX⟩ : ∃ X, Hid (((bs s).drop k).take n = X) := ⟨_, rfl⟩
            rw [hX.out] at H4
            have HX : Hid (s.extract k (k + n) = tx X) := by rw [extract_tx, Nat.add_sub_cancel_left, hX.out]; rfl
            obtain ⟨g, cap, w3, hap, HR3⟩ := push_any 46 50 Tryz.underlying46 Tryz.info50 HR1.out (d, X, k) (by omega)
            clear HR1 g3
            simp only [] at hap
            rw [← HX.out] at hap
            have hgo : Hid (Sp (bs s) (k + n) (L ++ [(d, X, k)])) := H1.out.more H4.out
            clear H1 H4 HX hX HP HB
            by_cases hd4 : (d : Int) < 4
            all_goals go_wp2_with (at_builtin; refine wpList_append_run _ rfl (.tmp 37) (.tmp 47) 46 46 rfl _ _ rfl rfl (hap _) ?_)
            all_goals clear hap
            all_goals (go_roundw
                       case rel => exact ⟨k + n, L ++ [(d, X, k)], by go_num, hn3, hgo, by simp; omega, HR3⟩
                       case measure => simp [intOf]; omega)
      · have HS : Hid (scanAt (bs s) k = scanAt (bs s) (k + 1) ∧ frontAt (bs s) k = frontAt (bs s) (k + 1)) := ⟨scanAt_blank (bs s) k hlt hb, frontAt_blank (bs s) k hlt hb⟩
        have h4 := blank_is hb
        clear hb
        have hcs : (((bt s k : Int) == 32) = true) ∨ ((((bt s k : Int) == 32) = false) ∧ (((bt s k : Int) == 9) = true)) ∨ ((((bt s k : Int) == 32) = false) ∧ (((bt s k : Int) == 9) = false) ∧ (((bt s k : Int) == 10) = true)) ∨ ((((bt s k : Int) == 32) = false) ∧ (((bt s k : Int) == 9) = false) ∧ (((bt s k : Int) == 10) = false) ∧ (((bt s k : Int) == 13) = true)) := by
          rcases h4 with h4 | h4 | h4 | h4 <;> rw [h4] <;> simp
        clear h4
        rcases hcs with m1 | ⟨m1, m2⟩ | ⟨m1, m2, m3⟩ | ⟨m1, m2, m3, m4⟩
        all_goals go_wp2_with fail
        all_goals (go_roundw
                   case rel => exact ⟨k + 1, L, by go_num, by omega, H1.out.same HS.out, by omega, HR⟩
                   case measure => simp [intOf]; omega)
    · have hke : k = s.size := by omega
      subst hke
      go_wp2_with fail
      go_ret2
      exact Or.inl ⟨_, L, H1.out.good (Nat.le_refl _), rfl, HR.out⟩

/-- A string's first bytes. -/
def cutS (s : ByteArray) (n : Nat) : ByteArray := if n < s.size then s.extract 0 n else s
theorem cutS_size (s : ByteArray) (n : Nat) : (cutS s n).size ≤ n := by
  unfold cutS
  split
  · simp; omega
  · omega
set_option maxHeartbeats 1000000 in
theorem cutS_any (s : ByteArray) (n : Nat) (w : World) :
    Calls Tryz.prog 8 #[.string s, .int .i64 (n : Int)] w fun e w' => e = .returned (.string (cutS s n)) ∧ w' = w := by
  go_enter Tryz.func8, Tryz.ntmps8
  go_wp2
  all_goals go_ret
  · rename_i h
    rw [cutS, if_pos h]
    exact ⟨rfl, rfl⟩
  · rename_i h
    rw [cutS, if_neg h]
    exact ⟨rfl, rfl⟩

end Go.Proofs.YtcfhpodpkficaaaGreatDoor.Lx

/- The law of the order of constants. The law of facts' texts. What the table's law goes by: plain mathematics of places, and laws on worlds. -/
import Derived.Test.YtcmjfgjnemifbaaDoorPart05
import Derived.Deep.CutRange
namespace Go.Proofs.YtcmjfgjnemifbaaDoor
open Go.RowKit

theorem cutS_size (s : ByteArray) (n : Nat) : (cutS s n).size ≤ n := by
  unfold cutS
  split
  · simp
    omega
  · omega

theorem may_facts {t : Tm} (h : mayM t = true) : (t.1 = 2 ∨ t.1 = 3) ∧ (t.1 = 3 → -2147483648 ≤ t.2.2 ∧ t.2.2 ≤ 2147483648) := by
  unfold mayM mayT at h
  by_cases h3 : t.1 = 3
  · rw [if_pos h3] at h
    simp only [Bool.and_eq_true, decide_eq_true_eq] at h
    exact ⟨Or.inr h3, fun _ => ⟨h.1.2, h.2⟩⟩
  · rw [if_neg h3] at h
    by_cases h2 : t.1 = 2
    · exact ⟨Or.inl h2, fun h => absurd h h3⟩
    · rw [if_neg h2] at h
      cases h

/-- Two terms in two blocks of the law's own. -/
structure Bo (w W : World) (a b : Tm) : Prop where
  a : W.heap[w.heap.size]? = some (.cells #[.int .i64 a.1, .string a.2.1, .int .i64 a.2.2] 23 (0, 0))
  b : W.heap[w.heap.size + 1]? = some (.cells #[.int .i64 b.1, .string b.2.1, .int .i64 b.2.2] 23 (0, 0))
  below : Below w.heap.size w W
  pow : Pow10 w
def Co (w W : World) (a b : Tm) : Prop := (W.cell? ⟨w.heap.size, 0, none⟩ = some (.int .i64 a.1) ∧ W.cell? ⟨w.heap.size, 1, none⟩ = some (.string a.2.1) ∧ W.cell? ⟨w.heap.size, 2, none⟩ = some (.int .i64 a.2.2)) ∧ W.cell? ⟨w.heap.size + 1, 0, none⟩ = some (.int .i64 b.1) ∧ W.cell? ⟨w.heap.size + 1, 1, none⟩ = some (.string b.2.1) ∧ W.cell? ⟨w.heap.size + 1, 2, none⟩ = some (.int .i64 b.2.2)
section
variable {w W W' : World} {a b : Tm}
theorem Bo.keep (h : Bo w W a b) (hb : Below W.heap.size W W') : Bo w W' a b := by
  have h1 : w.heap.size < W.heap.size := (Array.getElem?_eq_some_iff.1 h.a).1
  have h2 : w.heap.size + 1 < W.heap.size := (Array.getElem?_eq_some_iff.1 h.b).1
  exact ⟨by rw [hb.block _ h1]; exact h.a, by rw [hb.block _ h2]; exact h.b, h.below.trans (hb.mono (by omega)), h.pow⟩
theorem Bo.cells (h : Bo w W a b) : Co w W a b := by
  refine ⟨⟨?_, ?_, ?_⟩, ?_, ?_, ?_⟩
  · rw [cell_of_row W _ 0 _ _ _ h.a]; rfl
  · rw [cell_of_row W _ 1 _ _ _ h.a]; rfl
  · rw [cell_of_row W _ 2 _ _ _ h.a]; rfl
  · rw [cell_of_row W _ 0 _ _ _ h.b]; rfl
  · rw [cell_of_row W _ 1 _ _ _ h.b]; rfl
  · rw [cell_of_row W _ 2 _ _ _ h.b]; rfl
theorem Bo.drew (h : Bo w W a b) : Bo w W.drew a b := ⟨h.a, h.b, ⟨h.below.os, h.below.tape, h.below.output, h.below.size, h.below.block⟩, h.pow⟩
theorem Bo.frz (h : Bo w W a b) (j : Nat) : W.frozen? ⟨w.heap.size, j, none⟩ = false ∧ W.frozen? ⟨w.heap.size + 1, j, none⟩ = false := ⟨by simp [World.frozen?, h.a], by simp [World.frozen?, h.b]⟩
end

theorem Bo.put {w W : World} {a b : Tm} (h : Bo w W a b) (a' b' : Tm) : Bo w ((((((W.setCell ⟨w.heap.size, 0, none⟩ (.int .i64 a'.1)).setCell ⟨w.heap.size, 1, none⟩ (.string a'.2.1)).setCell ⟨w.heap.size, 2, none⟩ (.int .i64 a'.2.2)).setCell ⟨w.heap.size + 1, 0, none⟩ (.int .i64 b'.1)).setCell ⟨w.heap.size + 1, 1, none⟩ (.string b'.2.1)).setCell ⟨w.heap.size + 1, 2, none⟩ (.int .i64 b'.2.2)) a' b' := by
  have h1 : w.heap.size < W.heap.size := (Array.getElem?_eq_some_iff.1 h.a).1
  have h2 : w.heap.size + 1 < W.heap.size := (Array.getElem?_eq_some_iff.1 h.b).1
  have f1 : Fr (fun k => w.heap.size ≤ k) W ((((((W.setCell ⟨w.heap.size, 0, none⟩ (.int .i64 a'.1)).setCell ⟨w.heap.size, 1, none⟩ (.string a'.2.1)).setCell ⟨w.heap.size, 2, none⟩ (.int .i64 a'.2.2)).setCell ⟨w.heap.size + 1, 0, none⟩ (.int .i64 b'.1)).setCell ⟨w.heap.size + 1, 1, none⟩ (.string b'.2.1)).setCell ⟨w.heap.size + 1, 2, none⟩ (.int .i64 b'.2.2)) :=
    ((((((Fr.refl _ W).setCell (p := ⟨w.heap.size, 0, none⟩) (fun _ => Nat.le_refl _) _).setCell (p := ⟨w.heap.size, 1, none⟩) (fun _ => Nat.le_refl _) _).setCell (p := ⟨w.heap.size, 2, none⟩) (fun _ => Nat.le_refl _) _).setCell (p := ⟨w.heap.size + 1, 0, none⟩) (fun _ => Nat.le_succ _) _).setCell (p := ⟨w.heap.size + 1, 1, none⟩) (fun _ => Nat.le_succ _) _).setCell (p := ⟨w.heap.size + 1, 2, none⟩) (fun _ => Nat.le_succ _) _
  have hbel : Below w.heap.size W _ := f1.below (fun _ hk => hk) (by omega)
  refine ⟨?_, ?_, h.below.trans hbel, ?_⟩
  · have e1 := heap_set (o := 2) (heap_set (o := 1) (heap_set (o := 0) h.a (.int .i64 a'.1)) (.string a'.2.1)) (.int .i64 a'.2.2)
    have s1 : (((W.setCell ⟨w.heap.size, 0, none⟩ (.int .i64 a'.1)).setCell ⟨w.heap.size, 1, none⟩ (.string a'.2.1)).setCell ⟨w.heap.size, 2, none⟩ (.int .i64 a'.2.2)).heap.size = W.heap.size := by rw [setCell_size, setCell_size, setCell_size]
    rw [(Fr.one _ (w.heap.size + 1) 2 _).block _ (by rw [setCell_size, setCell_size, s1]; omega) (by omega), (Fr.one _ (w.heap.size + 1) 1 _).block _ (by rw [setCell_size, s1]; omega) (by omega), (Fr.one _ (w.heap.size + 1) 0 _).block _ (by rw [s1]; omega) (by omega), e1]
    rfl
  · have s1 : (((W.setCell ⟨w.heap.size, 0, none⟩ (.int .i64 a'.1)).setCell ⟨w.heap.size, 1, none⟩ (.string a'.2.1)).setCell ⟨w.heap.size, 2, none⟩ (.int .i64 a'.2.2)).heap[w.heap.size + 1]? = some (.cells #[.int .i64 b.1, .string b.2.1, .int .i64 b.2.2] 23 (0, 0)) := by
      rw [(Fr.one _ w.heap.size 2 _).block _ (by rw [setCell_size, setCell_size]; omega) (by omega), (Fr.one _ w.heap.size 1 _).block _ (by rw [setCell_size]; omega) (by omega), (Fr.one _ w.heap.size 0 _).block _ h2 (by omega)]
      exact h.b
    rw [heap_set (o := 2) (heap_set (o := 1) (heap_set (o := 0) s1 (.int .i64 b'.1)) (.string b'.2.1)) (.int .i64 b'.2.2)]
    rfl
  · exact h.pow

set_option maxHeartbeats 2000000 in
theorem order_any (a b : Tm) (w : World) (hp : Pow10 w) :
    Calls Tryd.prog 3 #[.agg #[.int .i64 a.1, .string a.2.1, .int .i64 a.2.2], .agg #[.int .i64 b.1, .string b.2.1, .int .i64 b.2.2]] w fun e w' => e = .returned (.bool true) ∧ Below w.heap.size w w' := by
  have HG0 : Hid (∀ W, Below (w.heap.size + 2) ((w.alloc (.cells #[.int .i64 a.1, .string a.2.1, .int .i64 a.2.2] 23)).alloc (.cells #[.int .i64 b.1, .string b.2.1, .int .i64 b.2.2] 23)) W → Bo w W a b ∧ Co w W a b ∧ ∀ j, W.frozen? ⟨w.heap.size, j, none⟩ = false ∧ W.frozen? ⟨w.heap.size + 1, j, none⟩ = false) := fun W hb => by
    have hb2 : Below ((w.alloc (.cells #[.int .i64 a.1, .string a.2.1, .int .i64 a.2.2] 23)).alloc (.cells #[.int .i64 b.1, .string b.2.1, .int .i64 b.2.2] 23)).heap.size ((w.alloc (.cells #[.int .i64 a.1, .string a.2.1, .int .i64 a.2.2] 23)).alloc (.cells #[.int .i64 b.1, .string b.2.1, .int .i64 b.2.2] 23)) W := by simpa using hb
    have h0 : Bo w ((w.alloc (.cells #[.int .i64 a.1, .string a.2.1, .int .i64 a.2.2] 23)).alloc (.cells #[.int .i64 b.1, .string b.2.1, .int .i64 b.2.2] 23)) a b := by
      refine ⟨?_, ?_, below_box2 _ _ _, hp⟩
      · rw [(below_box _ _).block _ (by simp)]; exact heap_alloc_new _ _
      · have := heap_alloc_new (w.alloc (.cells #[.int .i64 a.1, .string a.2.1, .int .i64 a.2.2] 23)) (.cells #[.int .i64 b.1, .string b.2.1, .int .i64 b.2.2] 23)
        simpa using this
    have h1 := h0.keep hb2
    exact ⟨h1, h1.cells, h1.frz⟩
  have HC : Hid (∀ W k s x, Bo w W a b → Calls Tryd.prog 8 #[.agg #[.int .i64 k, .string s, .int .i64 x]] W fun e w' => e = .returned (.agg #[.int .i64 k, .string (cutS s 20), .int .i64 x]) ∧ Co w w' a b ∧ (∀ j, w'.frozen? ⟨w.heap.size, j, none⟩ = false ∧ w'.frozen? ⟨w.heap.size + 1, j, none⟩ = false) ∧ Hid (Bo w w' a b)) := fun W k s x hB => (cutT_any k x s W).mono fun e w' ⟨he, hb⟩ => ⟨he, (hB.keep hb).cells, (hB.keep hb).frz, hB.keep hb⟩
  go_enter Tryd.func3, Tryd.ntmps3
  go_upto_region 4 with (go_at_call 7; refine (begun_any _).mono ?_; rintro e w1 ⟨rfl, hb1⟩)
  obtain ⟨hB, ⟨⟨c0, c1, c2⟩, e0, e1, e2⟩, hfz⟩ := HG0.out w1 (by simpa using hb1)
  have HG : Hid (Bo w w1.drew a b) := hB.drew
  clear hb1 hB
  go_cut [] from 9 to 12 (fun wc => Hid (Bo w wc (a.1, cutS a.2.1 20, a.2.2) (b.1, cutS b.2.1 20, b.2.2)))
  case first =>
    go_region_with (first | (go_at_call 8; refine (HC.out _ _ _ _ HG.out).mono ?_; rintro e w2 ⟨rfl, ⟨⟨c0, c1, c2⟩, e0, e1, e2⟩, hfz, HG⟩))
    all_goals go_wp2_with fail
    all_goals go_meet
    all_goals (case rel => exact HG.out.put (a.1, cutS a.2.1 20, a.2.2) (b.1, cutS b.2.1 20, b.2.2))
  case rest =>
    have hsA : (a.1, cutS a.2.1 20, a.2.2).2.1.size ≤ 20 := cutS_size _ _
    have hsB : (b.1, cutS b.2.1 20, b.2.2).2.1.size ≤ 20 := cutS_size _ _
    generalize (a.1, cutS a.2.1 20, a.2.2) = A at hcut hsA
    generalize (b.1, cutS b.2.1 20, b.2.2) = B at hcut hsB
    clear HC HG c0 c1 c2 e0 e1 e2 hfz HG0
    have HM : Hid (∀ W k s x, Bo w W A B → Calls Tryd.prog 9 #[.agg #[.int .i64 k, .string s, .int .i64 x]] W fun e w' => e = .returned (.bool (mayT k s x)) ∧ Co w w' A B ∧ Hid (Bo w w' A B)) := fun W k s x hB => (may_any k x s W).mono fun e w' ⟨he, hb⟩ => ⟨he, (hB.keep hb).cells, hB.keep hb⟩
    have HR : Hid (∀ W k s x, s.size ≤ 20 → Bo w W A B → Calls Tryd.prog 10 #[.agg #[.int .i64 k, .string s, .int .i64 x]] W fun e w' => e = .returned (.bool (mayT k s x)) ∧ Co w w' A B ∧ Hid (Bo w w' A B)) := fun W k s x hs hB => (mayRef_any k x s W (by omega)).mono fun e w' ⟨he, hb⟩ => ⟨he, (hB.keep hb).cells, hB.keep hb⟩
    go_upto_region 5 with fail
    obtain ⟨⟨c0, c1, c2⟩, e0, e1, e2⟩ := hcut.out.cells
    have HG : Hid (Bo w wc.drew A B) := hcut.out.drew
    go_cut [24] from 13 to 24 (fun s wd => s = .bool false ∧ Hid (Bo w wd A B))
    case first =>
      go_region_held (fun w' => (w'.cell? ⟨w.heap.size, 0, none⟩ = some (.int .i64 A.1) ∧ w'.cell? ⟨w.heap.size, 1, none⟩ = some (.string A.2.1) ∧ w'.cell? ⟨w.heap.size, 2, none⟩ = some (.int .i64 A.2.2)) ∧ w'.cell? ⟨w.heap.size + 1, 0, none⟩ = some (.int .i64 B.1) ∧ w'.cell? ⟨w.heap.size + 1, 1, none⟩ = some (.string B.2.1) ∧ w'.cell? ⟨w.heap.size + 1, 2, none⟩ = some (.int .i64 B.2.2))
        (first | exact ⟨⟨c0, c1, c2⟩, e0, e1, e2⟩)
        (first
          | (go_at_call 9; refine (HM.out _ _ _ _ HG.out).mono ?_; rintro e w2 ⟨rfl, ⟨⟨c0, c1, c2⟩, e0, e1, e2⟩, HG⟩)
          | (go_at_call 10; refine (HR.out _ _ _ _ (by first | exact hsA | exact hsB) HG.out).mono ?_; rintro e w2 ⟨rfl, ⟨⟨c0, c1, c2⟩, e0, e1, e2⟩, HG⟩))
      all_goals go_wp2_with fail
      all_goals go_meet
      all_goals exact ⟨rfl, HG⟩
    case rest =>
      obtain ⟨rfl, hcut⟩ := hcut
      clear HM HG c0 c1 c2 e0 e1 e2
      obtain ⟨⟨c0, c1, c2⟩, e0, e1, e2⟩ := hcut.out.cells
      have hbd := hcut.out.below
      have HRA : Hid (∀ W, Bo w W A B → Calls Tryd.prog 10 #[.agg #[.int .i64 A.1, .string A.2.1, .int .i64 A.2.2]] W fun e w' => e = .returned (.bool (mayM A)) ∧ Co w w' A B ∧ Hid (Bo w w' A B)) := fun W hB => HR.out W _ _ _ hsA hB
      have HRB : Hid (∀ W, Bo w W A B → Calls Tryd.prog 10 #[.agg #[.int .i64 B.1, .string B.2.1, .int .i64 B.2.2]] W fun e w' => e = .returned (.bool (mayM B)) ∧ Co w w' A B ∧ Hid (Bo w w' A B)) := fun W hB => HR.out W _ _ _ hsB hB
      clear HR
      cases hA : mayM A with
      | false =>
        rw [hA] at HRA
        go_wp2_with (go_at_call 10; refine (HRA.out _ hcut.out).mono ?_; rintro e w2 ⟨rfl, _, hX⟩)
        go_ret
        exact ⟨rfl, hX.out.below⟩
      | true =>
        rw [hA] at HRA
        go_wp2_with fail
        refine (HRA.out _ hcut.out).mono ?_
        clear c0 c1 c2 e0 e1 e2
        rintro e w2 ⟨rfl, ⟨⟨c0, c1, c2⟩, e0, e1, e2⟩, hX⟩
        cases hB : mayM B with
        | false =>
          rw [hB] at HRB
          go_wp2_with (go_at_call 10; refine (HRB.out _ hX.out).mono ?_; rintro e w3 ⟨rfl, _, hY⟩)
          go_ret
          exact ⟨rfl, hY.out.below⟩
        | true =>
          rw [hB] at HRB
          go_wp2_with fail
          refine (HRB.out _ hX.out).mono ?_
          clear c0 c1 c2 e0 e1 e2
          rintro e w3 ⟨rfl, ⟨⟨c0, c1, c2⟩, e0, e1, e2⟩, hY⟩
          clear hX hcut HRA HRB
          obtain ⟨k1, l1⟩ := may_facts hA
          obtain ⟨k2, l2⟩ := may_facts hB
          have HL1 : Hid (∀ W, Bo w W A B → Calls Tryd.prog 11 #[.agg #[.int .i64 A.1, .string A.2.1, .int .i64 A.2.2], .agg #[.int .i64 B.1, .string B.2.1, .int .i64 B.2.2]] W fun e w' => e = .returned (.bool (lessT A.1 A.2.1 A.2.2 B.1 B.2.1 B.2.2)) ∧ Co w w' A B ∧ Hid (Bo w w' A B)) := fun W hB => (less_any _ _ _ _ _ _ W k1 k2).mono fun e w' ⟨he, hb⟩ => ⟨he, (hB.keep hb).cells, hB.keep hb⟩
          have HL2 : Hid (∀ W, Bo w W A B → Calls Tryd.prog 12 #[.agg #[.int .i64 A.1, .string A.2.1, .int .i64 A.2.2], .agg #[.int .i64 B.1, .string B.2.1, .int .i64 B.2.2]] W fun e w' => e = .returned (.bool (lessT A.1 A.2.1 A.2.2 B.1 B.2.1 B.2.2)) ∧ Co w w' A B ∧ Hid (Bo w w' A B)) := fun W hB => (lessRef_any _ _ _ _ _ _ W k1 k2).mono fun e w' ⟨he, hb⟩ => ⟨he, (hB.keep hb).cells, hB.keep hb⟩
          have HE1 : Hid (∀ W, Bo w W A B → Calls Tryd.prog 13 #[.agg #[.int .i64 A.1, .string A.2.1, .int .i64 A.2.2], .agg #[.int .i64 B.1, .string B.2.1, .int .i64 B.2.2]] W fun e w' => e = .returned (.bool (eqM A B)) ∧ Co w w' A B ∧ Hid (Bo w w' A B)) := fun W hB => (eq_any _ _ _ _ _ _ W).mono fun e w' ⟨he, hb⟩ => ⟨he, (hB.keep hb).cells, hB.keep hb⟩
          have HE2 : Hid (∀ W, Bo w W A B → Calls Tryd.prog 14 #[.agg #[.int .i64 A.1, .string A.2.1, .int .i64 A.2.2], .agg #[.int .i64 B.1, .string B.2.1, .int .i64 B.2.2]] W fun e w' => e = .returned (.bool (eqM A B)) ∧ Co w w' A B ∧ Hid (Bo w w' A B)) := fun W hB => (eqRef_any _ _ _ _ _ _ W).mono fun e w' ⟨he, hb⟩ => ⟨he, (hB.keep hb).cells, hB.keep hb⟩
          have HP1 : Hid (∀ W, Bo w W A B → Calls Tryd.prog 15 #[.agg #[.int .i64 A.1, .string A.2.1, .int .i64 A.2.2]] W fun e w' => e = .returned (.string (prt A)) ∧ Co w w' A B ∧ Hid (Bo w w' A B)) := fun W hB => (print_any A W (fun h3 => .inr ⟨hB.pow.below hB.below, l1 h3⟩)).mono fun e w' ⟨he, hb⟩ => ⟨he, (hB.keep hb).cells, hB.keep hb⟩
          have HP2 : Hid (∀ W, Bo w W A B → Calls Tryd.prog 16 #[.agg #[.int .i64 A.1, .string A.2.1, .int .i64 A.2.2]] W fun e w' => e = .returned (.string (prt A)) ∧ Co w w' A B ∧ Hid (Bo w w' A B)) := fun W hB => (printRef_any A W l1).mono fun e w' ⟨he, hb⟩ => ⟨he, (hB.keep hb).cells, hB.keep hb⟩
          generalize lessT A.1 A.2.1 A.2.2 B.1 B.2.1 B.2.2 = r1 at HL1 HL2
          generalize eqM A B = r2 at HE1 HE2
          generalize prt A = pr at HP1 HP2
          go_upto_region 9 with fail
          have HG : Hid (Bo w w3.drew A B) := hY.out.drew
          clear hY
          go_region_held (fun w' => (w'.cell? ⟨w.heap.size, 0, none⟩ = some (.int .i64 A.1) ∧ w'.cell? ⟨w.heap.size, 1, none⟩ = some (.string A.2.1) ∧ w'.cell? ⟨w.heap.size, 2, none⟩ = some (.int .i64 A.2.2)) ∧ w'.cell? ⟨w.heap.size + 1, 0, none⟩ = some (.int .i64 B.1) ∧ w'.cell? ⟨w.heap.size + 1, 1, none⟩ = some (.string B.2.1) ∧ w'.cell? ⟨w.heap.size + 1, 2, none⟩ = some (.int .i64 B.2.2))
            (first | exact ⟨⟨c0, c1, c2⟩, e0, e1, e2⟩)
            (first
              | (go_at_call 11; refine (HL1.out _ HG.out).mono ?_; rintro e w2 ⟨rfl, ⟨⟨c0, c1, c2⟩, e0, e1, e2⟩, HG⟩)
              | (go_at_call 12; refine (HL2.out _ HG.out).mono ?_; rintro e w2 ⟨rfl, ⟨⟨c0, c1, c2⟩, e0, e1, e2⟩, HG⟩)
              | (go_at_call 13; refine (HE1.out _ HG.out).mono ?_; rintro e w2 ⟨rfl, ⟨⟨c0, c1, c2⟩, e0, e1, e2⟩, HG⟩)
              | (go_at_call 14; refine (HE2.out _ HG.out).mono ?_; rintro e w2 ⟨rfl, ⟨⟨c0, c1, c2⟩, e0, e1, e2⟩, HG⟩)
              | (go_at_call 15; refine (HP1.out _ HG.out).mono ?_; rintro e w2 ⟨rfl, ⟨⟨c0, c1, c2⟩, e0, e1, e2⟩, HG⟩)
              | (go_at_call 16; refine (HP2.out _ HG.out).mono ?_; rintro e w2 ⟨rfl, ⟨⟨c0, c1, c2⟩, e0, e1, e2⟩, HG⟩))
          all_goals go_wp2
          all_goals go_ret
          all_goals exact ⟨rfl, HG.out.below⟩
end Go.Proofs.YtcmjfgjnemifbaaDoor
namespace Go.Proofs.YtcmjfgjnemifbaaDoor
open Go.RowKit

theorem wpList_append_run {P : Program} (w : World) {ops : Array Oper} {rest : List Oper} {o : Oper} {a : Act} {Q : Exit → Act → World → Prop} (hgd : o.guard = none) (d x : Operand) (dT sT : TypeId)
    (ho : o.op = .call { callee := .builtin .append, args := #[d, x], argTypes := #[dT, sT] }) (v u : Value) (hd : a.eval d = v) (hx : a.eval x = u) {v' : Value} {w' : World}
    (hr : (Builtin.append_ #[dT, sT] o.type #[v, u]).run P w = .ok v' w') (h : wpList P ops Q rest (a.put o.dst v') w') : wpList P ops Q (o :: rest) a w := by
  refine wpList_plain hgd fun _ hK => ?_
  unfold Oper.wp
  simp [execOp, ho, resolve, invoke, builtin, hd, hx, hr, Result.andThen]
  exact hK _ _ h

theorem prt_size {t : Tm} (h : mayM t = true) (hs : t.2.1.size ≤ 20) : (prt t).size ≤ 1000 := by
  unfold prt
  split
  · rename_i h3
    have hb := (may_facts h).2 h3
    by_cases hz : t.2.2 = 0
    · rw [hz, size_list]
      simp [Lib.itoa, Lib.decDigits]
    · have hd := dg_len 20 t.2.2.natAbs (by omega)
      rw [size_list]
      show (Lib.itoa t.2.2).length ≤ 1000
      rw [itoa_dg _ hz]
      split
      · rw [List.length_cons]; omega
      · omega
  · omega

theorem ts_of_own {w : World} {v : Value} {D : List Tm} (h : w.ownsRow 0 23 3 v D.length (cellsT D)) : Ts w v D := by
  rcases own_shape h with ⟨rfl, h0⟩ | ⟨g, cap, rfl, h1, _⟩
  · exact ⟨none, 0, by rw [h0], by omega, fun hp => by omega⟩
  · refine ⟨_, cap, rfl, h1, fun hp => ⟨g, 0, rfl, fun i hi => ?_⟩⟩
    have hc := cellsT_get D i hi
    rw [Nat.zero_add]
    exact ⟨(h.cellAt _ (by omega)).trans hc.1, (h.cellAt _ (by omega)).trans hc.2.1, (h.cellAt _ (by omega)).trans hc.2.2⟩

/-- What the loop goes by. -/
structure Lf (w W : World) (nm : ByteArray) (v lv : Value) (D : List Tm) : Prop where
  f : W.heap[w.heap.size]? = some (.cells #[.string nm, v] 37 (0, 0))
  row : W.ownsRow 0 23 3 lv D.length (cellsT D)
  far : ∀ k, lv.ownBlock = some k → w.heap.size < k
  below : Below w.heap.size w W
  may : ∀ t ∈ D, mayM t = true ∧ t.2.1.size ≤ 20
theorem Lf.keep {w W W' : World} {nm : ByteArray} {v lv : Value} {D : List Tm} (h : Lf w W nm v lv D) (hb : Below W.heap.size W W') : Lf w W' nm v lv D := by
  have h1 : w.heap.size < W.heap.size := (Array.getElem?_eq_some_iff.1 h.f).1
  exact ⟨by rw [hb.block _ h1]; exact h.f, own_kept (F := fun _ => False) h.row (Fr.of_below hb) (fun _ _ hf => hf), h.far, h.below.trans (hb.mono (by omega)), h.may⟩
theorem Lf.lt {w W : World} {nm : ByteArray} {v lv : Value} {D : List Tm} (h : Lf w W nm v lv D) : w.heap.size < W.heap.size := (Array.getElem?_eq_some_iff.1 h.f).1
/-- One term more. -/
theorem Lf.push {w W : World} {nm : ByteArray} {v lv : Value} {D : List Tm} (h : Lf w W nm v lv D) (t : Tm) (ht : mayM t = true ∧ t.2.1.size ≤ 20) (hl : D.length ≤ 1000) :
    ∃ g cap w3, (∀ ty, (Builtin.append_ #[29, 29] ty #[lv, .slice (some ⟨W.heap.size, 0, none⟩) 1 1]).run Tryd.prog (W.alloc (.cells #[.int .i64 t.1, .string t.2.1, .int .i64 t.2.2] 23)) = .ok (.slice (some ⟨g, 0, none⟩) (D.length + 1) cap) w3) ∧ Hid (Lf w w3 nm v (.slice (some ⟨g, 0, none⟩) (D.length + 1) cap) (D ++ [t])) := by
  have ha := h.keep (below_box W (.cells #[.int .i64 t.1, .string t.2.1, .int .i64 t.2.2] 23))
  obtain ⟨g, cap, w3, hr, hO3, hg3, hat⟩ := run_append_tm _ lv D t W.heap.size ha.row (heap_alloc_new _ _) (by omega)
  have hlt := h.lt
  have hsa : (W.alloc (.cells #[.int .i64 t.1, .string t.2.1, .int .i64 t.2.2] 23)).heap.size = W.heap.size + 1 := by simp
  refine ⟨g, cap, w3, hr, ⟨?_, hO3, fun k hk => ?_, ?_, fun x hx => ?_⟩⟩
  · rw [hg3.block _ (by omega) (fun e => by have := h.far _ e.symm; omega)]
    exact ha.f
  · simp [Value.ownBlock] at hk
    subst hk
    rcases hat with hh | hh
    · exact h.far _ hh
    · omega
  · refine ha.below.trans ((Fr.of_grown (F := fun k => w.heap.size < k) hg3 (fun k hk => h.far k hk)).below (fun k hk => by omega) ha.below.size)
  · rcases List.mem_append.1 hx with hx | hx
    · exact h.may x hx
    · simp at hx
      rw [hx]; exact ht
theorem Lf.cells {w W : World} {nm : ByteArray} {v lv : Value} {D : List Tm} (h : Lf w W nm v lv D) : W.cell? ⟨w.heap.size, 0, none⟩ = some (.string nm) ∧ W.cell? ⟨w.heap.size, 1, none⟩ = some v ∧ ∀ j, W.frozen? ⟨w.heap.size, j, none⟩ = false := by
  refine ⟨?_, ?_, fun j => by simp [World.frozen?, h.f]⟩
  · rw [cell_of_row W _ 0 _ _ _ h.f]; rfl
  · rw [cell_of_row W _ 1 _ _ _ h.f]; rfl

/-- Behind the loop: the fact holds the list. -/
structure LfEnd (w W : World) (nm : ByteArray) (lv : Value) (D : List Tm) : Prop where
  f : W.heap[w.heap.size]? = some (.cells #[.string nm, lv] 37 (0, 0))
  row : W.ownsRow 0 23 3 lv D.length (cellsT D)
  below : Below w.heap.size w W
  may : ∀ t ∈ D, mayM t = true ∧ t.2.1.size ≤ 20
theorem LfEnd.keep {w W W' : World} {nm : ByteArray} {lv : Value} {D : List Tm} (h : LfEnd w W nm lv D) (hb : Below W.heap.size W W') : LfEnd w W' nm lv D := by
  have h1 : w.heap.size < W.heap.size := (Array.getElem?_eq_some_iff.1 h.f).1
  exact ⟨by rw [hb.block _ h1]; exact h.f, own_kept (F := fun _ => False) h.row (Fr.of_below hb) (fun _ _ hf => hf), h.below.trans (hb.mono (by omega)), h.may⟩
theorem LfEnd.cells {w W : World} {nm : ByteArray} {lv : Value} {D : List Tm} (h : LfEnd w W nm lv D) : W.cell? ⟨w.heap.size, 0, none⟩ = some (.string nm) ∧ W.cell? ⟨w.heap.size, 1, none⟩ = some lv := by
  refine ⟨?_, ?_⟩
  · rw [cell_of_row W _ 0 _ _ _ h.f]; rfl
  · rw [cell_of_row W _ 1 _ _ _ h.f]; rfl
theorem lf_end {w W : World} {nm : ByteArray} {v lv : Value} {D : List Tm} (h : Lf w W nm v lv D) (n : Nat) : LfEnd w ((W.setCell ⟨w.heap.size, 1, none⟩ lv).drewN n) nm lv D := by
  have h0 : LfEnd w (W.setCell ⟨w.heap.size, 1, none⟩ lv) nm lv D := by
    refine ⟨by rw [heap_set h.f]; rfl, own_kept h.row (Fr.one W w.heap.size 1 lv) (fun k hk e => by have := h.far k hk; omega), h.below.setCell (by simp) _, h.may⟩
  exact ⟨h0.f, h0.row, ⟨h0.below.os, h0.below.tape, h0.below.output, h0.below.size, h0.below.block⟩, h0.may⟩
theorem lf_fact {w W : World} {nm : ByteArray} {lv : Value} {D : List Tm} (h : LfEnd w W nm lv D) (hp : Pow10 w) (hnm : nm.size ≤ 20) (hD : D.length ≤ 6) :
    Calls Tryd.prog 22 #[.agg #[.string nm, lv]] W fun e w' => e = .returned (.string (factS nm D)) ∧ w'.cell? ⟨w.heap.size, 0, none⟩ = some (.string nm) ∧ w'.cell? ⟨w.heap.size, 1, none⟩ = some lv ∧ Hid (LfEnd w w' nm lv D) := by
  refine (fact_any nm lv D W (ts_of_own h.row) (by omega) (by omega) (fun t ht => prt_size (h.may t ht).1 (h.may t ht).2) (fun t ht h3 => .inr ⟨hp.below h.below, (may_facts (h.may t ht).1).2 h3⟩)).mono ?_
  rintro e w' ⟨rfl, hb⟩
  have hk := h.keep hb
  exact ⟨rfl, hk.cells.1, hk.cells.2, hk⟩
theorem lf_atom {w W : World} {nm : ByteArray} {lv : Value} {D : List Tm} (h : LfEnd w W nm lv D) (hnm : nm.size ≤ 20) (hD : D.length ≤ 6) :
    Calls Tryd.prog 23 #[.string nm, lv] W fun e w' => e = .returned (.string (factS nm D)) ∧ w'.cell? ⟨w.heap.size, 0, none⟩ = some (.string nm) ∧ w'.cell? ⟨w.heap.size, 1, none⟩ = some lv ∧ Hid (LfEnd w w' nm lv D) := by
  refine (atom_any nm lv D W (ts_of_own h.row) (by omega) (by omega) (fun t ht => prt_size (h.may t ht).1 (h.may t ht).2) (fun t ht h3 => (may_facts (h.may t ht).1).2 h3)).mono ?_
  rintro e w' ⟨rfl, hb⟩
  have hk := h.keep hb
  exact ⟨rfl, hk.cells.1, hk.cells.2, hk⟩

set_option maxHeartbeats 2000000 in
theorem factLaw_any (name : ByteArray) (v : Value) (L : List Tm) (w : World) (h : Ts w v L) (hlen : L.length ≤ maxLen) (hp : Pow10 w) :
    Calls Tryd.prog 5 #[.agg #[.string name, v]] w fun e w' => e = .returned (.bool true) ∧ Below w.heap.size w w' := by
  obtain ⟨ao, cap, rfl, h1, h2⟩ := h
  have hlen : L.length ≤ 9223372036854775807 := hlen
  have H2 : Hid _ := h2
  clear h2
  have HB : Hid (∀ W, Below (w.heap.size + 1) (w.alloc (.cells #[.string name, .slice ao L.length cap] 37)) W → W.cell? ⟨w.heap.size, 0, none⟩ = some (.string name) ∧ W.frozen? ⟨w.heap.size, 0, none⟩ = false ∧ Hid (Lf w (W.setCell ⟨w.heap.size, 0, none⟩ (.string (cutS name 20))) (cutS name 20) (.slice ao L.length cap) (.slice none 0 0) [])) := fun W hb => by
    have hf : W.heap[w.heap.size]? = some (.cells #[.string name, .slice ao L.length cap] 37 (0, 0)) := by rw [hb.block _ (by omega)]; exact heap_alloc_new _ _
    have hbw : Below w.heap.size w W := (below_box w _).trans (hb.mono (by omega))
    refine ⟨by rw [cell_of_row W _ 0 _ _ _ hf]; rfl, by simp [World.frozen?, hf], ⟨by rw [heap_set hf]; rfl, ⟨by simp [cellsT], .inl ⟨rfl, rfl⟩⟩, fun k hk => by simp [Value.ownBlock] at hk, hbw.setCell (by simp) _, fun t ht => by simp at ht⟩⟩
  go_enter Tryd.func5, Tryd.ntmps5
  go_wp2_with fail
  refine (begun_any _).mono ?_
  rintro e w1 ⟨rfl, hb1⟩
  obtain ⟨c0, c1, hF⟩ := HB.out w1 (by simpa using hb1)
  clear hb1 HB
  go_wp2_with (go_at_call 21; refine (cutS_any _ 20 _).mono ?_; rintro e w' ⟨rfl, hw⟩; have hw' := hw.symm; subst hw'; clear hw)
  generalize w1.setCell ⟨w.heap.size, 0, none⟩ (.string (cutS name 20)) = w2 at *
  have hnm := cutS_size name 20
  generalize cutS name 20 = nm at *
  clear c0 c1
  go_loopw [4, 5] (fun l i wr => ∃ (k : Nat) (D : List Tm), i = .int .i64 k ∧ k ≤ 6 ∧ k ≤ L.length ∧ D.length = k ∧ Hid (Lf w wr nm (.slice ao L.length cap) l D)) (fun _ i _ => 7 - (intOf i).toNat)
  case atStart => exact ⟨0, [], rfl, Nat.zero_le _, Nat.zero_le _, rfl, hF⟩
  case round =>
    obtain ⟨k, D, rfl, hk6, hkL, hDk, HL⟩ := hrel
    obtain ⟨ao4, n4, cap4, rfl⟩ := own_slice HL.out.row
    obtain ⟨c0, c1, cf⟩ := HL.out.cells
    have c1f := cf 1
    clear hF
    by_cases hlt : k < L.length
    · by_cases h6 : k < 6
      · obtain ⟨g, off, rfl, hc⟩ := H2.out (by omega)
        have hltI : (k : Int) < (L.length : Int) := by omega
        have h6I : (k : Int) < 6 := by omega
        have c := hc k hlt
        have hbw := HL.out.below
        have d0 := (World.cell?_of_block (hbw.block g (World.block_lt_of_cell? w _ c.1))).trans c.1
        have d1 := (World.cell?_of_block (hbw.block g (World.block_lt_of_cell? w _ c.1))).trans c.2.1
        have d2 := (World.cell?_of_block (hbw.block g (World.block_lt_of_cell? w _ c.1))).trans c.2.2
        generalize L[k] = t at *
        clear c hc hbw H2
        go_wp2_with fail
        refine (cutT_any _ _ _ _).mono ?_
        rintro e w3 ⟨rfl, hb3⟩
        have HL3 : Hid _ := HL.out.keep hb3
        have hsz := cutS_size t.2.1 20
        obtain ⟨T, rT⟩ : ∃ T : Tm, T = (t.1, cutS t.2.1 20, t.2.2) := ⟨_, rfl⟩
        have HM : Hid (∀ o, o = .cells #[.int .i64 t.1, .string (cutS t.2.1 20), .int .i64 t.2.2] 23 (0, 0) → Calls Tryd.prog 10 #[.agg #[.int .i64 t.1, .string (cutS t.2.1 20), .int .i64 t.2.2]] (w3.alloc o) fun e w4 => e = .returned (.bool (mayM (t.1, cutS t.2.1 20, t.2.2))) ∧ (w4.cell? ⟨w3.heap.size, 0, none⟩ = some (.int .i64 t.1) ∧ w4.cell? ⟨w3.heap.size, 1, none⟩ = some (.string (cutS t.2.1 20)) ∧ w4.cell? ⟨w3.heap.size, 2, none⟩ = some (.int .i64 t.2.2)) ∧ Hid (Lf w w4 nm (.slice (some ⟨g, off, none⟩) L.length cap) (.slice ao4 n4 cap4) D)) := fun o ho => by
          refine (mayRef_any _ _ _ _ (by omega)).mono ?_
          rintro e w4 ⟨rfl, hb4⟩
          have hx : w4.heap[w3.heap.size]? = some (.cells #[.int .i64 t.1, .string (cutS t.2.1 20), .int .i64 t.2.2] 23 (0, 0)) := by
            rw [hb4.block _ (by simp), ← ho]
            exact heap_alloc_new _ _
          exact ⟨rfl, ⟨by rw [cell_of_row w4 _ 0 _ _ _ hx]; rfl, by rw [cell_of_row w4 _ 1 _ _ _ hx]; rfl, by rw [cell_of_row w4 _ 2 _ _ _ hx]; rfl⟩, (HL3.out.keep (below_box _ _)).keep hb4⟩
        clear hb3 HL c0 c1 cf c1f d0 d1 d2 rT
        go_wp2_with fail
        refine (HM.out _ rfl).mono ?_
        rintro e w4 ⟨rfl, ⟨b0, b1, b2⟩, HL4⟩
        clear HM HL3
        cases hm : mayM (t.1, cutS t.2.1 20, t.2.2) with
        | false =>
          go_wp2
          go_ret
          exact ⟨rfl, HL4.out.below⟩
        | true =>
          obtain ⟨g5, cap5, w5, hap, HL5⟩ := HL4.out.push (t.1, cutS t.2.1 20, t.2.2) ⟨hm, hsz⟩ (by omega)
          clear HL4
          go_wp2_with (at_builtin; refine wpList_append_run _ rfl (.tmp 34) (.tmp 36) 29 29 rfl _ _ rfl rfl (hap _) ?_)
          go_roundw
          case rel => exact ⟨k + 1, D ++ [(t.1, cutS t.2.1 20, t.2.2)], by go_num, by omega, by omega, by simp [hDk], by rw [hDk] at HL5; exact HL5⟩
          case measure => simp [intOf]; omega
      · have hltI : (k : Int) < (L.length : Int) := by omega
        have h6I : ¬ (k : Int) < 6 := by omega
        have HE : Hid (∀ n, LfEnd w ((wr.setCell ⟨w.heap.size, 1, none⟩ (.slice ao4 n4 cap4)).drewN n) nm (.slice ao4 n4 cap4) D) := fun n => lf_end HL.out n
        have HEd : Hid (LfEnd w (wr.setCell ⟨w.heap.size, 1, none⟩ (.slice ao4 n4 cap4)).drew nm (.slice ao4 n4 cap4) D) := HE.out 1
        obtain ⟨m0, m1⟩ := (HE.out 0).cells
        have HF1 : Hid (∀ W, LfEnd w W nm (.slice ao4 n4 cap4) D → Calls Tryd.prog 22 #[.agg #[.string nm, .slice ao4 n4 cap4]] W fun e w' => e = .returned (.string (factS nm D)) ∧ w'.cell? ⟨w.heap.size, 0, none⟩ = some (.string nm) ∧ w'.cell? ⟨w.heap.size, 1, none⟩ = some (.slice ao4 n4 cap4) ∧ Hid (LfEnd w w' nm (.slice ao4 n4 cap4) D)) := fun W hW => lf_fact hW hp hnm (by omega)
        have HF2 : Hid (∀ W, LfEnd w W nm (.slice ao4 n4 cap4) D → Calls Tryd.prog 23 #[.string nm, .slice ao4 n4 cap4] W fun e w' => e = .returned (.string (factS nm D)) ∧ w'.cell? ⟨w.heap.size, 0, none⟩ = some (.string nm) ∧ w'.cell? ⟨w.heap.size, 1, none⟩ = some (.slice ao4 n4 cap4) ∧ Hid (LfEnd w w' nm (.slice ao4 n4 cap4) D)) := fun W hW => lf_atom hW hnm (by omega)
        generalize factS nm D = fs at HF1 HF2
        clear HE HL
        go_wp2_with fail
        generalize wr.setCell ⟨w.heap.size, 1, none⟩ (.slice ao4 n4 cap4) = X at *
        go_region_held (fun w' => w'.cell? ⟨w.heap.size, 0, none⟩ = some (.string nm) ∧ w'.cell? ⟨w.heap.size, 1, none⟩ = some (.slice ao4 n4 cap4))
          (first | exact ⟨m0, m1⟩)
          (first
            | (go_at_call 22; refine (HF1.out _ HEd.out).mono ?_; rintro e w6 ⟨rfl, m0, m1, HEd⟩)
            | (go_at_call 23; refine (HF2.out _ HEd.out).mono ?_; rintro e w6 ⟨rfl, m0, m1, HEd⟩))
        all_goals go_wp2
        all_goals go_ret
        all_goals exact ⟨rfl, HEd.out.below⟩
    · have hltI : ¬ (k : Int) < (L.length : Int) := by omega
      have HE : Hid (∀ n, LfEnd w ((wr.setCell ⟨w.heap.size, 1, none⟩ (.slice ao4 n4 cap4)).drewN n) nm (.slice ao4 n4 cap4) D) := fun n => lf_end HL.out n
      have HEd : Hid (LfEnd w (wr.setCell ⟨w.heap.size, 1, none⟩ (.slice ao4 n4 cap4)).drew nm (.slice ao4 n4 cap4) D) := HE.out 1
      obtain ⟨m0, m1⟩ := (HE.out 0).cells
      have HF1 : Hid (∀ W, LfEnd w W nm (.slice ao4 n4 cap4) D → Calls Tryd.prog 22 #[.agg #[.string nm, .slice ao4 n4 cap4]] W fun e w' => e = .returned (.string (factS nm D)) ∧ w'.cell? ⟨w.heap.size, 0, none⟩ = some (.string nm) ∧ w'.cell? ⟨w.heap.size, 1, none⟩ = some (.slice ao4 n4 cap4) ∧ Hid (LfEnd w w' nm (.slice ao4 n4 cap4) D)) := fun W hW => lf_fact hW hp hnm (by omega)
      have HF2 : Hid (∀ W, LfEnd w W nm (.slice ao4 n4 cap4) D → Calls Tryd.prog 23 #[.string nm, .slice ao4 n4 cap4] W fun e w' => e = .returned (.string (factS nm D)) ∧ w'.cell? ⟨w.heap.size, 0, none⟩ = some (.string nm) ∧ w'.cell? ⟨w.heap.size, 1, none⟩ = some (.slice ao4 n4 cap4) ∧ Hid (LfEnd w w' nm (.slice ao4 n4 cap4) D)) := fun W hW => lf_atom hW hnm (by omega)
      generalize factS nm D = fs at HF1 HF2
      clear HE HL
      go_wp2_with fail
      generalize wr.setCell ⟨w.heap.size, 1, none⟩ (.slice ao4 n4 cap4) = X at *
      go_region_held (fun w' => w'.cell? ⟨w.heap.size, 0, none⟩ = some (.string nm) ∧ w'.cell? ⟨w.heap.size, 1, none⟩ = some (.slice ao4 n4 cap4))
        (first | exact ⟨m0, m1⟩)
        (first
          | (go_at_call 22; refine (HF1.out _ HEd.out).mono ?_; rintro e w6 ⟨rfl, m0, m1, HEd⟩)
          | (go_at_call 23; refine (HF2.out _ HEd.out).mono ?_; rintro e w6 ⟨rfl, m0, m1, HEd⟩))
      all_goals go_wp2
      all_goals go_ret
      all_goals exact ⟨rfl, HEd.out.below⟩
end Go.Proofs.YtcmjfgjnemifbaaDoor
namespace Go.Proofs.YtcmjfgjnemifbaaDoor
open Go.RowKit

theorem eqM_iff (a b : Tm) : eqM a b = true ↔ a.1 = b.1 ∧ a.2.1.toList = b.2.1.toList ∧ a.2.2 = b.2.2 := by
  simp [eqM, eqT, Bool.and_eq_true, and_assoc]
theorem eqM_same {a b : Tm} (h : eqM a b = true) : a = b := by
  obtain ⟨h1, h2, h3⟩ := (eqM_iff a b).1 h
  rw [Lib.toList_data, Lib.toList_data] at h2
  have h4 := bytes_ext h2
  obtain ⟨x, y, z⟩ := a
  obtain ⟨x', y', z'⟩ := b
  simp_all
theorem eqM_self (a : Tm) : eqM a a = true := (eqM_iff a a).2 ⟨rfl, rfl, rfl⟩
theorem eqM_dec (a b : Tm) : eqM a b = decide (a = b) := by
  rw [Bool.eq_iff_iff]
  simp only [decide_eq_true_eq]
  exact ⟨eqM_same, fun h => h ▸ eqM_self a⟩

/-- The number of the last one among the first j that is c. -/
def lastTo (D : List Tm) (c : Tm) : Nat → Nat
  | 0 => 0
  | j + 1 => if D[j]? = some c then j + 1 else lastTo D c j
theorem lastTo_none (D : List Tm) (c : Tm) (h : c ∉ D) : ∀ j, lastTo D c j = 0
  | 0 => rfl
  | j + 1 => by
    rw [lastTo, if_neg (fun e => h (List.mem_of_getElem? e)), lastTo_none D c h j]
theorem lastTo_le (D : List Tm) (c : Tm) : ∀ j, lastTo D c j ≤ j
  | 0 => Nat.le_refl _
  | j + 1 => by
    rw [lastTo]
    split
    · exact Nat.le_refl _
    · have := lastTo_le D c j; omega
theorem lastTo_at (D : List Tm) (c : Tm) (i : Nat) (hi : D[i]? = some c) (hu : ∀ j, D[j]? = some c → j = i) : ∀ j, i < j → lastTo D c j = i + 1
  | 0, h => by omega
  | j + 1, h => by
    rw [lastTo]
    split
    · rename_i e
      rw [hu j e]
    · rename_i e
      have : i ≠ j := fun e2 => e (e2 ▸ hi)
      exact lastTo_at D c i hi hu j (by omega)
theorem find_none {D : List Tm} {c : Tm} : ∀ {i}, find D c i = none → c ∉ D := by
  induction D with
  | nil => intro i _ h; simp at h
  | cons a r ih =>
    intro i h hc
    rw [find] at h
    split at h
    · cases h
    · rename_i e
      rcases List.mem_cons.1 hc with rfl | hc
      · exact e (eqM_self _)
      · exact ih h hc
theorem find_some {D : List Tm} {c : Tm} : ∀ {i q}, find D c i = some q → i ≤ q ∧ D[q - i]? = some c := by
  induction D with
  | nil => intro i q h; simp [find] at h
  | cons a r ih =>
    intro i q h
    rw [find] at h
    split at h
    · rename_i e
      simp at h
      subst h
      have := eqM_same e
      subst this
      exact ⟨Nat.le_refl _, by simp⟩
    · obtain ⟨h1, h2⟩ := ih h
      refine ⟨by omega, ?_⟩
      rw [show q - i = (q - (i + 1)) + 1 by omega, List.getElem?_cons_succ]
      exact h2
/-- What the reference counts is what the table answers. -/
theorem lastTo_find {D : List Tm} {c : Tm} (hn : D.Nodup) : lastTo D c D.length = match find D c 0 with | some q => q + 1 | none => 0 := by
  cases h : find D c 0 with
  | none => exact lastTo_none D c (find_none h) _
  | some q =>
    obtain ⟨_, h2⟩ := find_some h
    rw [Nat.sub_zero] at h2
    have hq : q < D.length := (List.getElem?_eq_some_iff.1 h2).1
    exact lastTo_at D c q h2 (fun j hj => by
      have hj' : j < D.length := (List.getElem?_eq_some_iff.1 hj).1
      exact (List.getElem?_inj hj' hn).1 (hj.trans h2.symm)) _ hq

/-- The law's list and table. -/
structure Lt (w W : World) (p : Nat) (lv : Value) (D E : List Tm) (G : Nat → Prop) : Prop where
  row : W.ownsRow 0 23 3 lv D.length (cellsT D)
  tab : ∃ vr mv, Tb W p vr mv E G
  gfar : ∀ k, G k → w.heap.size ≤ k
  far : ∀ k, lv.ownBlock = some k → w.heap.size ≤ k ∧ ¬ G k
  below : Below w.heap.size w W
/-- A term in a block beside them. -/
structure Lc (W : World) (cb : Nat) (c : Tm) (G : Nat → Prop) (lv : Value) : Prop where
  c : W.heap[cb]? = some (.cells #[.int .i64 c.1, .string c.2.1, .int .i64 c.2.2] 23 (0, 0))
  ng : ¬ G cb
  nl : lv.ownBlock ≠ some cb
section
variable {w W W' : World} {p cb : Nat} {lv : Value} {D E : List Tm} {G : Nat → Prop} {c : Tm}
theorem Lt.keep (h : Lt w W p lv D E G) (hb : Below W.heap.size W W') : Lt w W' p lv D E G := by
  obtain ⟨vr, mv, hT⟩ := h.tab
  exact ⟨own_kept (F := fun _ => False) h.row (Fr.of_below hb) (fun _ _ hf => hf), ⟨vr, mv, hT.below hb⟩, h.gfar, h.far, h.below.trans (hb.mono h.below.size)⟩
theorem Lc.keep (h : Lc W cb c G lv) (hb : Below W.heap.size W W') : Lc W' cb c G lv :=
  ⟨by rw [hb.block _ (Array.getElem?_eq_some_iff.1 h.c).1]; exact h.c, h.ng, h.nl⟩
theorem Lc.cells (h : Lc W cb c G lv) : W.cell? ⟨cb, 0, none⟩ = some (.int .i64 c.1) ∧ W.cell? ⟨cb, 1, none⟩ = some (.string c.2.1) ∧ W.cell? ⟨cb, 2, none⟩ = some (.int .i64 c.2.2) := by
  refine ⟨?_, ?_, ?_⟩
  · rw [cell_of_row W _ 0 _ _ _ h.c]; rfl
  · rw [cell_of_row W _ 1 _ _ _ h.c]; rfl
  · rw [cell_of_row W _ 2 _ _ _ h.c]; rfl
/-- A new block with a term. -/
theorem Lt.box (h : Lt w W p lv D E G) (c : Tm) (o : Obj) (ho : o = .cells #[.int .i64 c.1, .string c.2.1, .int .i64 c.2.2] 23 (0, 0)) : Lt w (W.alloc o) p lv D E G ∧ Lc (W.alloc o) W.heap.size c G lv := by
  obtain ⟨vr, mv, hT⟩ := h.tab
  refine ⟨h.keep (below_box _ _), by rw [← ho]; exact heap_alloc_new _ _, fun hg => by have := hT.lt _ hg; omega, fun e => by have := (h.row.lt _ e).2; omega⟩
/-- One term more on the list. -/
theorem Lt.push (h : Lt w W p lv D E G) (hc : Lc W cb c G lv) (hl : D.length ≤ 1000) :
    ∃ g cap w3, (∀ ty, (Builtin.append_ #[29, 29] ty #[lv, .slice (some ⟨W.heap.size, 0, none⟩) 1 1]).run Tryd.prog (W.alloc (.cells #[.int .i64 c.1, .string c.2.1, .int .i64 c.2.2] 23)) = .ok (.slice (some ⟨g, 0, none⟩) (D.length + 1) cap) w3) ∧ Hid (Lt w w3 p (.slice (some ⟨g, 0, none⟩) (D.length + 1) cap) (D ++ [c]) E G ∧ Lc w3 cb c G (.slice (some ⟨g, 0, none⟩) (D.length + 1) cap)) := by
  have hb0 := below_box W (.cells #[.int .i64 c.1, .string c.2.1, .int .i64 c.2.2] 23)
  have ha := h.keep hb0
  have hca := hc.keep hb0
  obtain ⟨g, cap, w3, hr, hO3, hg3, hat⟩ := run_append_tm _ lv D c W.heap.size ha.row (heap_alloc_new _ _) (by omega)
  have hsa : (W.alloc (.cells #[.int .i64 c.1, .string c.2.1, .int .i64 c.2.2] 23)).heap.size = W.heap.size + 1 := by simp
  have hws := h.below.size
  obtain ⟨vr, mv, hT⟩ := ha.tab
  have hcl : cb < W.heap.size := (Array.getElem?_eq_some_iff.1 hc.c).1
  have hF : Fr (fun k => lv.ownBlock = some k) (W.alloc (.cells #[.int .i64 c.1, .string c.2.1, .int .i64 c.2.2] 23)) w3 := Fr.of_grown hg3 (fun k hk => hk)
  refine ⟨g, cap, w3, hr, ⟨hO3, ⟨vr, mv, hT.kept hF (fun k hk e => (h.far k e).2 hk)⟩, h.gfar, fun k hk => ?_, ha.below.trans (hF.below (fun k hk => (h.far k hk).1) (by omega))⟩, ?_, hc.ng, fun e => ?_⟩
  · simp [Value.ownBlock] at hk
    subst hk
    rcases hat with hh | hh
    · exact h.far _ hh
    · refine ⟨by omega, fun hg => ?_⟩
      have := hT.lt _ hg
      omega
  · rw [hF.block _ (by omega) hc.nl]
    exact hca.c
  · simp [Value.ownBlock] at e
    subst e
    rcases hat with hh | hh
    · exact hc.nl hh
    · omega
/-- Its number. -/
theorem Lt.id (h : Lt w W p lv D E G) (t : Tm) (hs : t.2.1.size ≤ 1000) (hl : E.length ≤ 1000) :
    Calls Tryd.prog 18 #[.pointer (some ⟨p, 0, none⟩), .agg #[.int .i64 t.1, .string t.2.1, .int .i64 t.2.2]] W fun e w' => e = .returned (.int .i64 (idN E t : Int)) ∧ Hid (∃ G', Lt w w' p lv D (addT E t) G') := by
  obtain ⟨vr, mv, hT⟩ := h.tab
  refine (id_any t hT (by omega) (by omega)).mono ?_
  rintro e w' ⟨rfl, ⟨vr', mv', hT'⟩, hF⟩
  refine ⟨rfl, ext G W w', own_kept h.row hF (fun k hk => (h.far k hk).2), ⟨vr', mv', hT'⟩, fun k hk => ?_, fun k hk => ⟨(h.far k hk).1, fun hx => ?_⟩, h.below.trans (hF.below h.gfar h.below.size)⟩
  · rcases hk with hk | hk
    · exact h.gfar k hk
    · have := h.below.size; omega
  · rcases hx with hx | hx
    · exact (h.far k hk).2 hx
    · have := (h.row.lt k hk).2; omega
theorem Lt.len (h : Lt w W p lv D E G) : Calls Tryd.prog 19 #[.pointer (some ⟨p, 0, none⟩)] W fun e w' => e = .returned (.int .i64 (E.length : Int)) ∧ w' = W := by
  obtain ⟨vr, mv, hT⟩ := h.tab
  exact len_any hT
theorem Lt.term (h : Lt w W p lv D E G) (i : Int) (hl : E.length ≤ 1000) : Calls Tryd.prog 20 #[.pointer (some ⟨p, 0, none⟩), .int .i64 i] W fun e w' => e = .returned (tv (termAt E i)) ∧ Below W.heap.size W w' := by
  obtain ⟨vr, mv, hT⟩ := h.tab
  exact term_any i hT (by omega)
end
end Go.Proofs.YtcmjfgjnemifbaaDoor

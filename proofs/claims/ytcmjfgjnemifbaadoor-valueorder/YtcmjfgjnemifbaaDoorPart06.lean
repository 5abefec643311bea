/- The law of the order of constants. -/
import Derived.Test.YtcmjfgjnemifbaaDoorPart05
import Derived.Deep.CutRange
namespace Go.Proofs.YtcmjfgjnemifbaaDoor
open Go.RowKit

theorem cutS_size (s : ByteArray) (n : Nat) : (cutS s n).size ≤ n := by
  unfold cutS
  split
  · simp
    omega
  · omega

theorem may_facts {t : Tm} (h : mayM t = true) : (t.1 = 2 ∨ t.1 = 3) ∧ (t.1 = 3 → -2147483648 ≤ t.2.2 ∧ t.2.2 ≤ 2147483648) := by
  unfold mayM mayT at h
  by_cases h3 : t.1 = 3
  · rw [if_pos h3] at h
    simp only [Bool.and_eq_true, decide_eq_true_eq] at h
    exact ⟨Or.inr h3, fun _ => ⟨h.1.2, h.2⟩⟩
  · rw [if_neg h3] at h
    by_cases h2 : t.1 = 2
    · exact ⟨Or.inl h2, fun h => absurd h h3⟩
    · rw [if_neg h2] at h
      cases h

/-- Two terms in two blocks of the law's own. -/
structure Bo (w W : World) (a b : Tm) : Prop where
  a : W.heap[w.heap.size]? = some (.cells #[.int .i64 a.1, .string a.2.1, .int .i64 a.2.2] 23 (0, 0))
  b : W.heap[w.heap.size + 1]? = some (.cells #[.int .i64 b.1, .string b.2.1, .int .i64 b.2.2] 23 (0, 0))
  below : Below w.heap.size w W
  pow : Pow10 w
def Co (w W : World) (a b : Tm) : Prop := (W.cell? ⟨w.heap.size, 0, none⟩ = some (.int .i64 a.1) ∧ W.cell? ⟨w.heap.size, 1, none⟩ = some (.string a.2.1) ∧ W.cell? ⟨w.heap.size, 2, none⟩ = some (.int .i64 a.2.2)) ∧ W.cell? ⟨w.heap.size + 1, 0, none⟩ = some (.int .i64 b.1) ∧ W.cell? ⟨w.heap.size + 1, 1, none⟩ = some (.string b.2.1) ∧ W.cell? ⟨w.heap.size + 1, 2, none⟩ = some (.int .i64 b.2.2)
section
variable {w W W' : World} {a b : Tm}
theorem Bo.keep (h : Bo w W a b) (hb : Below W.heap.size W W') : Bo w W' a b := by
  have h1 : w.heap.size < W.heap.size := (Array.getElem?_eq_some_iff.1 h.a).1
  have h2 : w.heap.size + 1 < W.heap.size := (Array.getElem?_eq_some_iff.1 h.b).1
  exact ⟨by rw [hb.block _ h1]; exact h.a, by rw [hb.block _ h2]; exact h.b, h.below.trans (hb.mono (by omega)), h.pow⟩
theorem Bo.cells (h : Bo w W a b) : Co w W a b := by
  refine ⟨⟨?_, ?_, ?_⟩, ?_, ?_, ?_⟩
  · rw [cell_of_row W _ 0 _ _ _ h.a]; rfl
  · rw [cell_of_row W _ 1 _ _ _ h.a]; rfl
  · rw [cell_of_row W _ 2 _ _ _ h.a]; rfl
  · rw [cell_of_row W _ 0 _ _ _ h.b]; rfl
  · rw [cell_of_row W _ 1 _ _ _ h.b]; rfl
  · rw [cell_of_row W _ 2 _ _ _ h.b]; rfl
theorem Bo.drew (h : Bo w W a b) : Bo w W.drew a b := ⟨h.a, h.b, ⟨h.below.os, h.below.tape, h.below.output, h.below.size, h.below.block⟩, h.pow⟩
theorem Bo.frz (h : Bo w W a b) (j : Nat) : W.frozen? ⟨w.heap.size, j, none⟩ = false ∧ W.frozen? ⟨w.heap.size + 1, j, none⟩ = false := ⟨by simp [World.frozen?, h.a], by simp [World.frozen?, h.b]⟩
end

theorem Bo.put {w W : World} {a b : Tm} (h : Bo w W a b) (a' b' : Tm) : Bo w ((((((W.setCell ⟨w.heap.size, 0, none⟩ (.int .i64 a'.1)).setCell ⟨w.heap.size, 1, none⟩ (.string a'.2.1)).setCell ⟨w.heap.size, 2, none⟩ (.int .i64 a'.2.2)).setCell ⟨w.heap.size + 1, 0, none⟩ (.int .i64 b'.1)).setCell ⟨w.heap.size + 1, 1, none⟩ (.string b'.2.1)).setCell ⟨w.heap.size + 1, 2, none⟩ (.int .i64 b'.2.2)) a' b' := by
  have h1 : w.heap.size < W.heap.size := (Array.getElem?_eq_some_iff.1 h.a).1
  have h2 : w.heap.size + 1 < W.heap.size := (Array.getElem?_eq_some_iff.1 h.b).1
  have f1 : Fr (fun k => w.heap.size ≤ k) W ((((((W.setCell ⟨w.heap.size, 0, none⟩ (.int .i64 a'.1)).setCell ⟨w.heap.size, 1, none⟩ (.string a'.2.1)).setCell ⟨w.heap.size, 2, none⟩ (.int .i64 a'.2.2)).setCell ⟨w.heap.size + 1, 0, none⟩ (.int .i64 b'.1)).setCell ⟨w.heap.size + 1, 1, none⟩ (.string b'.2.1)).setCell ⟨w.heap.size + 1, 2, none⟩ (.int .i64 b'.2.2)) :=
    ((((((Fr.refl _ W).setCell (p := ⟨w.heap.size, 0, none⟩) (fun _ => Nat.le_refl _) _).setCell (p := ⟨w.heap.size, 1, none⟩) (fun _ => Nat.le_refl _) _).setCell (p := ⟨w.heap.size, 2, none⟩) (fun _ => Nat.le_refl _) _).setCell (p := ⟨w.heap.size + 1, 0, none⟩) (fun _ => Nat.le_succ _) _).setCell (p := ⟨w.heap.size + 1, 1, none⟩) (fun _ => Nat.le_succ _) _).setCell (p := ⟨w.heap.size + 1, 2, none⟩) (fun _ => Nat.le_succ _) _
  have hbel : Below w.heap.size W _ := f1.below (fun _ hk => hk) (by omega)
  refine ⟨?_, ?_, h.below.trans hbel, ?_⟩
  · have e1 := heap_set (o := 2) (heap_set (o := 1) (heap_set (o := 0) h.a (.int .i64 a'.1)) (.string a'.2.1)) (.int .i64 a'.2.2)
    have s1 : (((W.setCell ⟨w.heap.size, 0, none⟩ (.int .i64 a'.1)).setCell ⟨w.heap.size, 1, none⟩ (.string a'.2.1)).setCell ⟨w.heap.size, 2, none⟩ (.int .i64 a'.2.2)).heap.size = W.heap.size := by rw [setCell_size, setCell_size, setCell_size]
    rw [(Fr.one _ (w.heap.size + 1) 2 _).block _ (by rw [setCell_size, setCell_size, s1]; omega) (by omega), (Fr.one _ (w.heap.size + 1) 1 _).block _ (by rw [setCell_size, s1]; omega) (by omega), (Fr.one _ (w.heap.size + 1) 0 _).block _ (by rw [s1]; omega) (by omega), e1]
    rfl
  · have s1 : (((W.setCell ⟨w.heap.size, 0, none⟩ (.int .i64 a'.1)).setCell ⟨w.heap.size, 1, none⟩ (.string a'.2.1)).setCell ⟨w.heap.size, 2, none⟩ (.int .i64 a'.2.2)).heap[w.heap.size + 1]? = some (.cells #[.int .i64 b.1, .string b.2.1, .int .i64 b.2.2] 23 (0, 0)) := by
      rw [(Fr.one _ w.heap.size 2 _).block _ (by rw [setCell_size, setCell_size]; omega) (by omega), (Fr.one _ w.heap.size 1 _).block _ (by rw [setCell_size]; omega) (by omega), (Fr.one _ w.heap.size 0 _).block _ h2 (by omega)]
      exact h.b
    rw [heap_set (o := 2) (heap_set (o := 1) (heap_set (o := 0) s1 (.int .i64 b'.1)) (.string b'.2.1)) (.int .i64 b'.2.2)]
    rfl
  · exact h.pow

set_option maxHeartbeats 2000000 in
theorem order_any (a b : Tm) (w : World) (hp : Pow10 w) :
    Calls Tryd.prog 3 #[.agg #[.int .i64 a.1, .string a.2.1, .int .i64 a.2.2], .agg #[.int .i64 b.1, .string b.2.1, .int .i64 b.2.2]] w fun e w' => e = .returned (.bool true) ∧ Below w.heap.size w w' := by
  have HG0 : Hid (∀ W, Below (w.heap.size + 2) ((w.alloc (.cells #[.int .i64 a.1, .string a.2.1, .int .i64 a.2.2] 23)).alloc (.cells #[.int .i64 b.1, .string b.2.1, .int .i64 b.2.2] 23)) W → Bo w W a b ∧ Co w W a b ∧ ∀ j, W.frozen? ⟨w.heap.size, j, none⟩ = false ∧ W.frozen? ⟨w.heap.size + 1, j, none⟩ = false) := fun W hb => by
    have hb2 : Below ((w.alloc (.cells #[.int .i64 a.1, .string a.2.1, .int .i64 a.2.2] 23)).alloc (.cells #[.int .i64 b.1, .string b.2.1, .int .i64 b.2.2] 23)).heap.size ((w.alloc (.cells #[.int .i64 a.1, .string a.2.1, .int .i64 a.2.2] 23)).alloc (.cells #[.int .i64 b.1, .string b.2.1, .int .i64 b.2.2] 23)) W := by simpa using hb
    have h0 : Bo w ((w.alloc (.cells #[.int .i64 a.1, .string a.2.1, .int .i64 a.2.2] 23)).alloc (.cells #[.int .i64 b.1, .string b.2.1, .int .i64 b.2.2] 23)) a b := by
      refine ⟨?_, ?_, below_box2 _ _ _, hp⟩
      · rw [(below_box _ _).block _ (by simp)]; exact heap_alloc_new _ _
      · have := heap_alloc_new (w.alloc (.cells #[.int .i64 a.1, .string a.2.1, .int .i64 a.2.2] 23)) (.cells #[.int .i64 b.1, .string b.2.1, .int .i64 b.2.2] 23)
        simpa using this
    have h1 := h0.keep hb2
    exact ⟨h1, h1.cells, h1.frz⟩
  have HC : Hid (∀ W k s x, Bo w W a b → Calls Tryd.prog 8 #[.agg #[.int .i64 k, .string s, .int .i64 x]] W fun e w' => e = .returned (.agg #[.int .i64 k, .string (cutS s 20), .int .i64 x]) ∧ Co w w' a b ∧ (∀ j, w'.frozen? ⟨w.heap.size, j, none⟩ = false ∧ w'.frozen? ⟨w.heap.size + 1, j, none⟩ = false) ∧ Hid (Bo w w' a b)) := fun W k s x hB => (cutT_any k x s W).mono fun e w' ⟨he, hb⟩ => ⟨he, (hB.keep hb).cells, (hB.keep hb).frz, hB.keep hb⟩
  go_enter Tryd.func3, Tryd.ntmps3
  go_upto_region 4 with (go_at_call 7; refine (begun_any _).mono ?_; rintro e w1 ⟨rfl, hb1⟩)
  obtain ⟨hB, ⟨⟨c0, c1, c2⟩, e0, e1, e2⟩, hfz⟩ := HG0.out w1 (by simpa using hb1)
  have HG : Hid (Bo w w1.drew a b) := hB.drew
  clear hb1 hB
  go_cut [] from 9 to 12 (fun wc => Hid (Bo w wc (a.1, cutS a.2.1 20, a.2.2) (b.1, cutS b.2.1 20, b.2.2)))
  case first =>
    go_region_with (first | (go_at_call 8; refine (HC.out _ _ _ _ HG.out).mono ?_; rintro e w2 ⟨rfl, ⟨⟨c0, c1, c2⟩, e0, e1, e2⟩, hfz, HG⟩))
    all_goals go_wp2_with fail
    all_goals go_meet
    all_goals (case rel => exact HG.out.put (a.1, cutS a.2.1 20, a.2.2) (b.1, cutS b.2.1 20, b.2.2))
  case rest =>
    have hsA : (a.1, cutS a.2.1 20, a.2.2).2.1.size ≤ 20 := cutS_size _ _
    have hsB : (b.1, cutS b.2.1 20, b.2.2).2.1.size ≤ 20 := cutS_size _ _
    generalize (a.1, cutS a.2.1 20, a.2.2) = A at hcut hsA
    generalize (b.1, cutS b.2.1 20, b.2.2) = B at hcut hsB
    clear HC HG c0 c1 c2 e0 e1 e2 hfz HG0
    have HM : Hid (∀ W k s x, Bo w W A B → Calls Tryd.prog 9 #[.agg #[.int .i64 k, .string s, .int .i64 x]] W fun e w' => e = .returned (.bool (mayT k s x)) ∧ Co w w' A B ∧ Hid (Bo w w' A B)) := fun W k s x hB => (may_any k x s W).mono fun e w' ⟨he, hb⟩ => ⟨he, (hB.keep hb).cells, hB.keep hb⟩
    have HR : Hid (∀ W k s x, s.size ≤ 20 → Bo w W A B → Calls Tryd.prog 10 #[.agg #[.int .i64 k, .string s, .int .i64 x]] W fun e w' => e = .returned (.bool (mayT k s x)) ∧ Co w w' A B ∧ Hid (Bo w w' A B)) := fun W k s x hs hB => (mayRef_any k x s W (by omega)).mono fun e w' ⟨he, hb⟩ => ⟨he, (hB.keep hb).cells, hB.keep hb⟩
    go_upto_region 5 with fail
    obtain ⟨⟨c0, c1, c2⟩, e0, e1, e2⟩ := hcut.out.cells
    have HG : Hid (Bo w wc.drew A B) := hcut.out.drew
    go_cut [24] from 13 to 24 (fun s wd => s = .bool false ∧ Hid (Bo w wd A B))
    case first =>
      go_region_held (fun w' => (w'.cell? ⟨w.heap.size, 0, none⟩ = some (.int .i64 A.1) ∧ w'.cell? ⟨w.heap.size, 1, none⟩ = some (.string A.2.1) ∧ w'.cell? ⟨w.heap.size, 2, none⟩ = some (.int .i64 A.2.2)) ∧ w'.cell? ⟨w.heap.size + 1, 0, none⟩ = some (.int .i64 B.1) ∧ w'.cell? ⟨w.heap.size + 1, 1, none⟩ = some (.string B.2.1) ∧ w'.cell? ⟨w.heap.size + 1, 2, none⟩ = some (.int .i64 B.2.2))
        (first | exact ⟨⟨c0, c1, c2⟩, e0, e1, e2⟩)
        (first
          | (go_at_call 9; refine (HM.out _ _ _ _ HG.out).mono ?_; rintro e w2 ⟨rfl, ⟨⟨c0, c1, c2⟩, e0, e1, e2⟩, HG⟩)
          | (go_at_call 10; refine (HR.out _ _ _ _ (by first | exact hsA | exact hsB) HG.out).mono ?_; rintro e w2 ⟨rfl, ⟨⟨c0, c1, c2⟩, e0, e1, e2⟩, HG⟩))
      all_goals go_wp2_with fail
      all_goals go_meet
      all_goals exact ⟨rfl, HG⟩
    case rest =>
      obtain ⟨rfl, hcut⟩ := hcut
      clear HM HG c0 c1 c2 e0 e1 e2
      obtain ⟨⟨c0, c1, c2⟩, e0, e1, e2⟩ := hcut.out.cells
      have hbd := hcut.out.below
      have HRA : Hid (∀ W, Bo w W A B → Calls Tryd.prog 10 #[.agg #[.int .i64 A.1, .string A.2.1, .int .i64 A.2.2]] W fun e w' => e = .returned (.bool (mayM A)) ∧ Co w w' A B ∧ Hid (Bo w w' A B)) := fun W hB => HR.out W _ _ _ hsA hB
      have HRB : Hid (∀ W, Bo w W A B → Calls Tryd.prog 10 #[.agg #[.int .i64 B.1, .string B.2.1, .int .i64 B.2.2]] W fun e w' => e = .returned (.bool (mayM B)) ∧ Co w w' A B ∧ Hid (Bo w w' A B)) := fun W hB => HR.out W _ _ _ hsB hB
      clear HR
      cases hA : mayM A with
      | false =>
        rw [hA] at HRA
        go_wp2_with (go_at_call 10; refine (HRA.out _ hcut.out).mono ?_; rintro e w2 ⟨rfl, _, hX⟩)
        go_ret
        exact ⟨rfl, hX.out.below⟩
      | true =>
        rw [hA] at HRA
        go_wp2_with fail
        refine (HRA.out _ hcut.out).mono ?_
        clear c0 c1 c2 e0 e1 e2
        rintro e w2 ⟨rfl, ⟨⟨c0, c1, c2⟩, e0, e1, e2⟩, hX⟩
        cases hB : mayM B with
        | false =>
          rw [hB] at HRB
          go_wp2_with (go_at_call 10; refine (HRB.out _ hX.out).mono ?_; rintro e w3 ⟨rfl, _, hY⟩)
          go_ret
          exact ⟨rfl, hY.out.below⟩
        | true =>
          rw [hB] at HRB
          go_wp2_with fail
          refine (HRB.out _ hX.out).mono ?_
          clear c0 c1 c2 e0 e1 e2
          rintro e w3 ⟨rfl, ⟨⟨c0, c1, c2⟩, e0, e1, e2⟩, hY⟩
          clear hX hcut HRA HRB
          obtain ⟨k1, l1⟩ := may_facts hA
          obtain ⟨k2, l2⟩ := may_facts hB
          have HL1 : Hid (∀ W, Bo w W A B → Calls Tryd.prog 11 #[.agg #[.int .i64 A.1, .string A.2.1, .int .i64 A.2.2], .agg #[.int .i64 B.1, .string B.2.1, .int .i64 B.2.2]] W fun e w' => e = .returned (.bool (lessT A.1 A.2.1 A.2.2 B.1 B.2.1 B.2.2)) ∧ Co w w' A B ∧ Hid (Bo w w' A B)) := fun W hB => (less_any _ _ _ _ _ _ W k1 k2).mono fun e w' ⟨he, hb⟩ => ⟨he, (hB.keep hb).cells, hB.keep hb⟩
          have HL2 : Hid (∀ W, Bo w W A B → Calls Tryd.prog 12 #[.agg #[.int .i64 A.1, .string A.2.1, .int .i64 A.2.2], .agg #[.int .i64 B.1, .string B.2.1, .int .i64 B.2.2]] W fun e w' => e = .returned (.bool (lessT A.1 A.2.1 A.2.2 B.1 B.2.1 B.2.2)) ∧ Co w w' A B ∧ Hid (Bo w w' A B)) := fun W hB => (lessRef_any _ _ _ _ _ _ W k1 k2).mono fun e w' ⟨he, hb⟩ => ⟨he, (hB.keep hb).cells, hB.keep hb⟩
          have HE1 : Hid (∀ W, Bo w W A B → Calls Tryd.prog 13 #[.agg #[.int .i64 A.1, .string A.2.1, .int .i64 A.2.2], .agg #[.int .i64 B.1, .string B.2.1, .int .i64 B.2.2]] W fun e w' => e = .returned (.bool (eqM A B)) ∧ Co w w' A B ∧ Hid (Bo w w' A B)) := fun W hB => (eq_any _ _ _ _ _ _ W).mono fun e w' ⟨he, hb⟩ => ⟨he, (hB.keep hb).cells, hB.keep hb⟩
          have HE2 : Hid (∀ W, Bo w W A B → Calls Tryd.prog 14 #[.agg #[.int .i64 A.1, .string A.2.1, .int .i64 A.2.2], .agg #[.int .i64 B.1, .string B.2.1, .int .i64 B.2.2]] W fun e w' => e = .returned (.bool (eqM A B)) ∧ Co w w' A B ∧ Hid (Bo w w' A B)) := fun W hB => (eqRef_any _ _ _ _ _ _ W).mono fun e w' ⟨he, hb⟩ => ⟨he, (hB.keep hb).cells, hB.keep hb⟩
          have HP1 : Hid (∀ W, Bo w W A B → Calls Tryd.prog 15 #[.agg #[.int .i64 A.1, .string A.2.1, .int .i64 A.2.2]] W fun e w' => e = .returned (.string (prt A)) ∧ Co w w' A B ∧ Hid (Bo w w' A B)) := fun W hB => (print_any A W (fun h3 => .inr ⟨hB.pow.below hB.below, l1 h3⟩)).mono fun e w' ⟨he, hb⟩ => ⟨he, (hB.keep hb).cells, hB.keep hb⟩
          have HP2 : Hid (∀ W, Bo w W A B → Calls Tryd.prog 16 #[.agg #[.int .i64 A.1, .string A.2.1, .int .i64 A.2.2]] W fun e w' => e = .returned (.string (prt A)) ∧ Co w w' A B ∧ Hid (Bo w w' A B)) := fun W hB => (printRef_any A W l1).mono fun e w' ⟨he, hb⟩ => ⟨he, (hB.keep hb).cells, hB.keep hb⟩
          generalize lessT A.1 A.2.1 A.2.2 B.1 B.2.1 B.2.2 = r1 at HL1 HL2
          generalize eqM A B = r2 at HE1 HE2
          generalize prt A = pr at HP1 HP2
          go_upto_region 9 with fail
          have HG : Hid (Bo w w3.drew A B) := hY.out.drew
          clear hY
          go_region_held (fun w' => (w'.cell? ⟨w.heap.size, 0, none⟩ = some (.int .i64 A.1) ∧ w'.cell? ⟨w.heap.size, 1, none⟩ = some (.string A.2.1) ∧ w'.cell? ⟨w.heap.size, 2, none⟩ = some (.int .i64 A.2.2)) ∧ w'.cell? ⟨w.heap.size + 1, 0, none⟩ = some (.int .i64 B.1) ∧ w'.cell? ⟨w.heap.size + 1, 1, none⟩ = some (.string B.2.1) ∧ w'.cell? ⟨w.heap.size + 1, 2, none⟩ = some (.int .i64 B.2.2))
            (first | exact ⟨⟨c0, c1, c2⟩, e0, e1, e2⟩)
            (first
              | (go_at_call 11; refine (HL1.out _ HG.out).mono ?_; rintro e w2 ⟨rfl, ⟨⟨c0, c1, c2⟩, e0, e1, e2⟩, HG⟩)
              | (go_at_call 12; refine (HL2.out _ HG.out).mono ?_; rintro e w2 ⟨rfl, ⟨⟨c0, c1, c2⟩, e0, e1, e2⟩, HG⟩)
              | (go_at_call 13; refine (HE1.out _ HG.out).mono ?_; rintro e w2 ⟨rfl, ⟨⟨c0, c1, c2⟩, e0, e1, e2⟩, HG⟩)
              | (go_at_call 14; refine (HE2.out _ HG.out).mono ?_; rintro e w2 ⟨rfl, ⟨⟨c0, c1, c2⟩, e0, e1, e2⟩, HG⟩)
              | (go_at_call 15; refine (HP1.out _ HG.out).mono ?_; rintro e w2 ⟨rfl, ⟨⟨c0, c1, c2⟩, e0, e1, e2⟩, HG⟩)
              | (go_at_call 16; refine (HP2.out _ HG.out).mono ?_; rintro e w2 ⟨rfl, ⟨⟨c0, c1, c2⟩, e0, e1, e2⟩, HG⟩))
          all_goals go_wp2
          all_goals go_ret
          all_goals exact ⟨rfl, HG.out.below⟩
end Go.Proofs.YtcmjfgjnemifbaaDoor

/- What is read of words with the mark of a fault behind them. The reference's Program: what holds ahead of each round of its two loops. The walk of the reference's Program. The law of any text, a program or none: its walk. -/
import Derived.Test.YtcfhpodpkficaaaGreatDoorPart09
import Derived.Test.YtcfhpodpkficaaaGreatDoorPart15
import Derived.Deep.CutBlock
import Derived.Test.YtcfhpodpkficaaaGreatDoorPart13
import Derived.Test.YtcfhpodpkficaaaGreatDoorPart10
namespace Go.Proofs.YtcfhpodpkficaaaGreatDoor.Sy
open Lx (Wd tx scanL scanAt frontAt)
open Vl (Tm)

def mkW : Wd := (0, [], 0)
def mapM {α : Type} : Re α → Re α
  | .error e => .error e
  | .ok (x, r) => .ok (x, r ++ [mkW])
theorem next_m (ws : List Wd) : nextW (ws ++ [mkW]) = nextW ws := by cases ws <;> rfl
theorem take_m (s : List UInt8) (ws : List Wd) : takeB s (ws ++ [mkW]) = takeB s ws := by unfold takeB; rw [next_m]
theorem tail_m {ws : List Wd} (h : ws ≠ []) : (ws ++ [mkW]).tail = ws.tail ++ [mkW] := by
  cases ws with
  | nil => exact absurd rfl h
  | cons x t => rfl
theorem next_tail_m (ws : List Wd) : nextW (ws ++ [mkW]).tail = nextW ws.tail := by
  cases ws with
  | nil => rfl
  | cons x t => exact next_m t
theorem ne_take {s : List UInt8} {ws : List Wd} (hs : s ≠ []) (h : takeB s ws = true) : ws ≠ [] := by
  rintro rfl
  have : ([] : List UInt8) = s := by simpa [takeB, nextW] using h
  exact hs this.symm
theorem ne_next {k : Nat} {ws : List Wd} (hk : k ≠ 0) (h : (nextW ws).1 = k) : ws ≠ [] := by
  rintro rfl
  exact hk h.symm
theorem one_m (f : Wd → Option Tm) (hf : f mkW = none) (ws : List Wd) : oneL f (ws ++ [mkW]) = mapM (oneL f ws) := by
  unfold oneL
  rw [next_m]
  cases h : f (nextW ws) with
  | none => rfl
  | some t =>
    have hne : ws ≠ [] := by
      rintro rfl
      have : f mkW = some t := h
      rw [hf] at this
      cases this
    simp only [tail_m hne, mapM]
theorem const_m : constW mkW = none := by simp [constW, mkW]
theorem term_m : termW mkW = none := by simp [termW, constW, mkW]
theorem list_m {α : Type} (item : List Wd → Re α) (hi : ∀ ws, item (ws ++ [mkW]) = mapM (item ws)) (n : Nat) : ∀ ws, listL item n (ws ++ [mkW]) = mapM (listL item n ws) := by
  induction n with
  | zero =>
    intro ws
    have h := hi ws
    cases hw : item ws with
    | error e => rw [hw] at h; rw [listL_err hw, listL_err h]; rfl
    | ok p => obtain ⟨x, t⟩ := p; rw [hw] at h; rw [listL_zero hw, listL_zero h]; rfl
  | succ n ih =>
    intro ws
    have h := hi ws
    cases hw : item ws with
    | error e => rw [hw] at h; rw [listL_err hw, listL_err h]; rfl
    | ok p =>
      obtain ⟨x, t⟩ := p
      rw [hw] at h
      cases ht : takeB [44] t with
      | false =>
        rw [listL_last hw ht, listL_last h (by rw [take_m]; exact ht)]
        rfl
      | true =>
        have e : takeR [44] (t ++ [mkW]) = takeR [44] t ++ [mkW] := by rw [takeR, takeR, if_pos ht, if_pos (by rw [take_m]; exact ht), tail_m (ne_take (by decide) ht)]
        rw [listL_more hw ht, listL_more h (by rw [take_m]; exact ht), e, ih]
        cases listL item n (takeR [44] t) <;> rfl
theorem atom_m (f : Wd → Option Tm) (hf : f mkW = none) (ws : List Wd) : atomL f (ws ++ [mkW]) = mapM (atomL f ws) := by
  unfold atomL
  rw [next_m]
  by_cases h1 : (nextW ws).1 = 1
  · rw [if_pos h1, if_pos h1, tail_m (ne_next (by decide) h1), take_m]
    cases ht : takeB [40] ws.tail with
    | false => rfl
    | true =>
      simp only [if_true]
      rw [tail_m (ne_take (by decide) ht), list_m (oneL f) (one_m f hf)]
      cases listL (oneL f) 4 ws.tail.tail with
      | error e => rfl
      | ok p =>
        obtain ⟨l, r⟩ := p
        simp only [mapM]
        rw [take_m]
        cases hr : takeB [41] r with
        | false => rfl
        | true =>
          simp only [if_true]
          rw [tail_m (ne_take (by decide) hr)]
  · rw [if_neg h1, if_neg h1]
    rfl
theorem cmp_m (ws : List Wd) : cmpL (ws ++ [mkW]) = mapM (cmpL ws) := by
  unfold cmpL termL
  rw [one_m termW term_m]
  cases oneL termW ws with
  | error e => rfl
  | ok p =>
    obtain ⟨a, t⟩ := p
    simp only [mapM]
    rw [next_m]
    by_cases hk : kindOf (nextW t).2.1 = 0
    · rw [if_pos hk, if_pos hk]
    · rw [if_neg hk, if_neg hk]
      have hne : t ≠ [] := by
        rintro rfl
        exact hk rfl
      rw [tail_m hne, one_m termW term_m]
      cases oneL termW t.tail with
      | error e => rfl
      | ok q => rfl
theorem lit_m (ws : List Wd) : litL (ws ++ [mkW]) = mapM (litL ws) := by
  unfold litL
  rw [take_m, next_m, next_tail_m, atom_m termW term_m, cmp_m]
  cases ht : takeB [33] ws with
  | true =>
    simp only [if_true]
    rw [tail_m (ne_take (by decide) ht), atom_m termW term_m]
    cases atomL termW ws.tail <;> rfl
  | false =>
    simp only [Bool.false_eq_true, if_false]
    by_cases hk : (nextW ws).1 = 1 ∧ kindOf (nextW ws.tail).2.1 = 0
    · rw [if_pos hk, if_pos hk]
    · rw [if_neg hk, if_neg hk]
theorem end_m (h : Lit) (b : List Lit) (t : List Wd) : endR h b (t ++ [mkW]) = mapM (endR h b t) := by
  unfold endR
  rw [take_m]
  cases ht : takeB [46] t with
  | false => rfl
  | true =>
    simp only [if_true]
    rw [takeR, takeR, if_pos ht, if_pos (by rw [take_m]; exact ht), tail_m (ne_take (by decide) ht)]
    rfl
theorem clause_m (ws : List Wd) : clauseL (ws ++ [mkW]) = mapM (clauseL ws) := by
  rw [clauseL_eq, clauseL_eq, atom_m termW term_m]
  cases atomL termW ws with
  | error e => rfl
  | ok p =>
    obtain ⟨h, t⟩ := p
    simp only [mapM]
    rw [take_m]
    have e : takeR [58, 45] (t ++ [mkW]) = takeR [58, 45] t ++ [mkW] := by
      rw [takeR, takeR, take_m]
      cases ht : takeB [58, 45] t with
      | false => rfl
      | true => simp only [if_true]; exact tail_m (ne_take (by decide) ht)
    rw [e, list_m litL lit_m, end_m]
    cases takeB [58, 45] t with
    | false => rfl
    | true =>
      simp only [if_true]
      cases listL litL 6 (takeR [58, 45] t) with
      | error e => rfl
      | ok q =>
        obtain ⟨b, r⟩ := q
        exact end_m h b r
/-- Behind a program's words a fault. -/
def faultP : Except Bool (List Rul) → Except Bool (List Rul)
  | .error e => .error e
  | .ok _ => .error false
theorem prog_m (n : Nat) : ∀ ws, progL n (ws ++ [mkW]) = faultP (progL n ws) := by
  induction n with
  | zero =>
    intro ws
    have hw' : ws ++ [mkW] ≠ [] := by simp
    by_cases hw : ws = []
    · rw [hw]; rfl
    · have h := clause_m ws
      cases hc : clauseL ws with
      | error e => rw [hc] at h; rw [progL_err hw hc, progL_err hw' h]; rfl
      | ok p => obtain ⟨x, t⟩ := p; rw [hc] at h; rw [progL_zero hw hc, progL_zero hw' h]; rfl
  | succ n ih =>
    intro ws
    have hw' : ws ++ [mkW] ≠ [] := by simp
    by_cases hw : ws = []
    · rw [hw]; rfl
    · have h := clause_m ws
      cases hc : clauseL ws with
      | error e => rw [hc] at h; rw [progL_err hw hc, progL_err hw' h]; rfl
      | ok p =>
        obtain ⟨x, t⟩ := p
        rw [hc] at h
        rw [progL_more hw hc, progL_more hw' h, ih]
        cases progL n t <;> rfl
/-- A text's program, by the words ahead of its first fault. -/
theorem prog_front (S : List UInt8) (n : Nat) : progL n (wordsL S) = if scanAt S 0 = none then faultP (progL n (frontAt S 0)) else progL n (frontAt S 0) := by
  unfold wordsL
  cases hs : scanAt S 0 with
  | some L =>
    rw [if_neg (by simp), Lx.frontAt_of_scan hs]
  | none =>
    rw [if_pos rfl]
    exact prog_m n (frontAt S 0)
end Go.Proofs.YtcfhpodpkficaaaGreatDoor.Sy
namespace Go.Proofs.YtcfhpodpkficaaaGreatDoor.Rp
open Go.RowKit
open Lx (Wd tx cellsW wpList_append_run)
open Vl (Tm Fr)
open Sy

/-- The loop over a body's literals: what holds ahead of each round, seen from the world behind the head. -/
structure Lb (W1 : World) (r : Nat) (v : Value) (L : List Wd) (ab : Nat) (k : Int) (nm : ByteArray) (va : Value) (W : World) (a e : Nat) (yb : Value) (nb : Nat) (xb : List Value) : Prop where
  pw : Pw W1 r v L a e W
  rul : Bx W W1.heap.size 36 #[.int .i64 k, .string nm, va, yb]
  row : W.ownsRow W1.heap.size 33 3 yb nb xb
  few : nb ≤ 7
  le : a ≤ L.length + 1
  st : (e = 0 ∧ ab ≤ a ∧ a ≤ L.length ∧ nb ≤ 6 ∧ ∃ zb : List (Sy.Lit × Value), nb = zb.length ∧ xb = cellsLz zb ∧ (∀ z ∈ zb, isTs W z.1.2.2 z.2) ∧ listL litL 6 (L.drop ab) = joinR (zb.map (·.1)) (listL litL (6 - zb.length) (L.drop a))) ∨ (∃ c, e = codeN c ∧ listL litL 6 (L.drop ab) = .error c)

/-- One literal more: the append, and the store of the row into the rule. -/
theorem Lb_push {W1 : World} {r : Nat} {v : Value} {L : List Wd} {k : Int} {nm : ByteArray} {va : Value} {W : World} {a0 e0 a e : Nat} {y : Value} {n : Nat} {xs : List Value} (h0 : Pd W1 r v L a0 e0)
    (pw : Pw W1 r v L a e W) (rul : Bx W W1.heap.size 36 #[.int .i64 k, .string nm, va, y]) (row : W.ownsRow W1.heap.size 33 3 y n xs) (hn : n ≤ 6) (k' : Int) (nm' : ByteArray) (ao' : Option Addr) (m' cap' : Nat) :
    ∃ g cap w3, (∀ ty, (Builtin.append_ #[34, 34] ty #[y, .slice (some ⟨W.heap.size, 0, none⟩) 1 1]).run Tryz.prog (W.alloc (.cells #[.int .i64 k', .string nm', .slice ao' m' cap'] 33)) = .ok (.slice (some ⟨g, 0, none⟩) (n + 1) cap) w3) ∧
      (w3.cell? ⟨W1.heap.size, 3, none⟩ = some y ∧ w3.frozen? ⟨W1.heap.size, 3, none⟩ = false) ∧
      Hid (Pw W1 r v L a e (w3.setCell ⟨W1.heap.size, 3, none⟩ (.slice (some ⟨g, 0, none⟩) (n + 1) cap)) ∧ Bx (w3.setCell ⟨W1.heap.size, 3, none⟩ (.slice (some ⟨g, 0, none⟩) (n + 1) cap)) W1.heap.size 36 #[.int .i64 k, .string nm, va, .slice (some ⟨g, 0, none⟩) (n + 1) cap] ∧ (w3.setCell ⟨W1.heap.size, 3, none⟩ (.slice (some ⟨g, 0, none⟩) (n + 1) cap)).ownsRow W1.heap.size 33 3 (.slice (some ⟨g, 0, none⟩) (n + 1) cap) (n + 1) (xs ++ [.int .i64 k', .string nm', .slice ao' m' cap']) ∧
        (∀ ts u, isTs W ts u → isTs (w3.setCell ⟨W1.heap.size, 3, none⟩ (.slice (some ⟨g, 0, none⟩) (n + 1) cap)) ts u)) := by
  obtain ⟨g, cap, w3, hap, HO3, HF3⟩ := push_row 34 33 3 48 _ Tryz.underlying34 Sy.Tryz.info33 rfl (by decide) (by decide) row [.int .i64 k', .string nm', .slice ao' m' cap'] rfl (by simp [Value.oneCell']) (by omega) pw.fr.size
  have hrow : ∀ j, y.ownBlock = some j → W1.heap.size ≤ j := fun j hj => (row.lt j hj).1
  have hnot : ∀ {b : Nat} {T : TypeId} {cs : Array Value}, Bx W b T cs → T ≠ 33 → ¬ y.ownBlock = some b := fun {b T cs} hb hT hk => by
    rcases row.2 with ⟨rfl, _⟩ | ⟨g', cap', cur, rfl, _, hg, _⟩
    · simp [Value.ownBlock] at hk
    · simp [Value.ownBlock] at hk
      subst hk
      have := hb.symm.trans hg
      simp only [Option.some.injEq, Obj.cells.injEq] at this
      exact hT this.2.1
  have rul3 := rul.fr HF3.out (hnot rul (by decide))
  have hlt := h0.lt
  have pw3 : Pw W1 r v L a e w3 := by
    have hf : Fr (fun k => k = r) W1 w3 := pw.fr.trans HF3.out (fun x hx hFx => absurd (hrow x hFx) (by omega))
    exact ⟨⟨pw.pd.box.fr HF3.out (fun hk => by have := hrow r hk; omega), h0.kept hf h0.row (by decide), pw.pd.len, pw.pd.near⟩, hf⟩
  refine ⟨g, cap, w3, hap, ⟨rul3.c 3, rul3.f 3⟩, pw3.put h0 W1.heap.size 3 (Nat.le_refl _) _, rul3.set 3 _, own_put HO3.out rul3 (by decide) 3 _, fun ts u hu => ?_⟩
  exact isTs_put (isTs_grow hu row (by decide) HF3.out) rul3 (by decide) 3 _

/-- What Program has behind a rule's head and body, ahead of the stop. -/
structure Lt (W1 : World) (r : Nat) (v : Value) (L : List Wd) (a0 : Nat) (W : World) (a e : Nat) (k : Int) (nm : ByteArray) (aoa : Option Addr) (ma capa : Nat) (aob : Option Addr) (mb capb : Nat) : Prop where
  pw : Pw W1 r v L a e W
  rul : Bx W W1.heap.size 36 #[.int .i64 k, .string nm, .slice aoa ma capa, .slice aob mb capb]
  le : a ≤ L.length + 1
  st : (e = 0 ∧ a0 < a ∧ a ≤ L.length ∧ ∃ (ts : List Tm) (ls : List Sy.Lit), isTs W ts (.slice aoa ma capa) ∧ isLs W ls (.slice aob mb capb) ∧ clauseL (L.drop a0) = endR (k, nm, ts) ls (L.drop a)) ∨ (∃ c, e = codeN c ∧ clauseL (L.drop a0) = .error c)

/-- The loop over the rules. -/
structure Lp (w : World) (r : Nat) (v : Value) (L : List Wd) (W : World) (a e : Nat) (y : Value) (n : Nat) (xs : List Value) : Prop where
  pw : Pw w r v L a e W
  row : W.ownsRow w.heap.size 36 4 y n xs
  few : n ≤ 31
  le : a ≤ L.length + 1
  st : (e = 0 ∧ a ≤ L.length ∧ n ≤ 30 ∧ ∃ zs : List (Rul × Value × Value), n = zs.length ∧ xs = cellsRz zs ∧ (∀ z ∈ zs, isTs W z.1.1.2.2 z.2.1 ∧ isLs W z.1.2 z.2.2) ∧ progL 30 L = joinP (zs.map (·.1)) (progL (30 - zs.length) (L.drop a))) ∨ (∃ c, e = codeN c ∧ progL 30 L = .error c)

theorem Pd.isTs {w w' : World} {r : Nat} {v : Value} {L : List Wd} {a e : Nat} (h : Pd w r v L a e) (hf : Fr (fun k => k = r) w w') {ts : List Tm} {y : Value} (ht : isTs w ts y) : isTs w' ts y := h.kept hf ht (by decide)
theorem Pd.isLs {w w' : World} {r : Nat} {v : Value} {L : List Wd} {a e : Nat} (h : Pd w r v L a e) (hf : Fr (fun k => k = r) w w') {ls : List Sy.Lit} {y : Value} (ht : isLs w ls y) : isLs w' ls y := by
  obtain ⟨zs, h1, h2, h3⟩ := ht
  exact ⟨zs, h1, h.kept hf h2 (by decide), fun z hz => h.isTs hf (h3 z hz)⟩

/-- One rule more. -/
theorem Lp_push {w : World} {r : Nat} {v : Value} {L : List Wd} {W : World} {a0 e0 a e : Nat} {y : Value} {n : Nat} {xs : List Value} (h0 : Pd w r v L a0 e0)
    (pw : Pw w r v L a e W) (row : W.ownsRow w.heap.size 36 4 y n xs) (hn : n ≤ 30) (k : Int) (nm : ByteArray) (aoa : Option Addr) (ma capa : Nat) (aob : Option Addr) (mb capb : Nat) :
    ∃ g cap w3, (∀ ty, (Builtin.append_ #[24, 24] ty #[y, .slice (some ⟨W.heap.size, 0, none⟩) 1 1]).run Tryz.prog (W.alloc (.cells #[.int .i64 k, .string nm, .slice aoa ma capa, .slice aob mb capb] 36)) = .ok (.slice (some ⟨g, 0, none⟩) (n + 1) cap) w3) ∧
      Hid (Pw w r v L a e w3 ∧ w3.ownsRow w.heap.size 36 4 (.slice (some ⟨g, 0, none⟩) (n + 1) cap) (n + 1) (xs ++ [.int .i64 k, .string nm, .slice aoa ma capa, .slice aob mb capb]) ∧
        (∀ ts u, isTs W ts u → isTs w3 ts u) ∧ (∀ ls u, isLs W ls u → isLs w3 ls u)) := by
  obtain ⟨g, cap, w3, hap, HO3, HF3⟩ := push_row 24 36 4 72 _ Tryz.underlying24 Sy.Tryz.info36 rfl (by decide) (by decide) row [.int .i64 k, .string nm, .slice aoa ma capa, .slice aob mb capb] rfl (by simp [Value.oneCell']) (by omega) pw.fr.size
  have hrow : ∀ j, y.ownBlock = some j → w.heap.size ≤ j := fun j hj => (row.lt j hj).1
  have hlt := h0.lt
  have pw3 : Pw w r v L a e w3 := by
    have hf : Fr (fun k => k = r) w w3 := pw.fr.trans HF3.out (fun x hx hFx => absurd (hrow x hFx) (by omega))
    exact ⟨⟨pw.pd.box.fr HF3.out (fun hk => by have := hrow r hk; omega), h0.kept hf h0.row (by decide), pw.pd.len, pw.pd.near⟩, hf⟩
  exact ⟨g, cap, w3, hap, pw3, HO3.out, fun ts u hu => isTs_grow hu row (by decide) HF3.out, fun ls u hu => isLs_grow hu row (by decide) (by decide) HF3.out⟩

theorem litL_lt {L : List Wd} {a : Nat} {x : Sy.Lit} {t : List Wd} (h : litL (L.drop a) = .ok (x, t)) : a < L.length := by
  by_cases hl : a < L.length
  · exact hl
  · rw [drop_end L a (by omega)] at h
    cases h
end Go.Proofs.YtcfhpodpkficaaaGreatDoor.Rp
namespace Go.Proofs.YtcfhpodpkficaaaGreatDoor.Rp
open Go.RowKit
open Lx (Wd tx cellsW wpList_append_run bs scanAt frontAt Rw)
open Vl (Tm Fr)
open Sy

/-- What Scan gives, in one form. -/
theorem scan2 (s : ByteArray) (w : World) (hs : s.size ≤ 4000) :
    Calls Tryz.prog 20 #[.string s] w fun e w' => ∃ (v : Value) (E : Nat), e = .returned (.tuple #[v, .int .i64 (E : Int)]) ∧ Rw 50 w w' v (frontAt (bs s) 0) ∧ ((E = 0 ∧ ¬ scanAt (bs s) 0 = none) ∨ (E = 4 ∧ scanAt (bs s) 0 = none)) := by
  refine (Lx.rscan_any s w hs).mono ?_
  rintro e w' (⟨v, L, h1, rfl, hr⟩ | ⟨h1, v, rfl, hr⟩)
  · refine ⟨v, 0, rfl, ?_, Or.inl ⟨rfl, by rw [h1]; simp⟩⟩
    rw [Lx.frontAt_of_scan h1]
    exact hr
  · exact ⟨v, 4, rfl, hr, Or.inr ⟨rfl, h1⟩⟩

/-- What atom gives, in one form. -/
theorem Lr_one {R : Re Sy.Lit} {r : Nat} {v : Value} {L : List Wd} {a : Nat} {w : World} {x : Ending} {w' : World} (h : Lr R r v L a w x w') :
    ∃ (k : Int) (nm : ByteArray) (ao : Option Addr) (m cap a' e : Nat), x = .returned (.agg #[.int .i64 k, .string nm, .slice ao m cap]) ∧ Pd w' r v L a' e ∧ a' ≤ L.length + 1 ∧
      ((e = 0 ∧ a < a' ∧ a' ≤ L.length ∧ ∃ ts, isTs w' ts (.slice ao m cap) ∧ R = .ok ((k, nm, ts), L.drop a')) ∨ (∃ c, e = codeN c ∧ R = .error c)) ∧ Fr (fun k => k = r) w w' := by
  obtain ⟨h, hf⟩ := h
  cases R with
  | error c =>
    obtain ⟨y, a', rfl, ⟨k, nm, ao, m, cap, rfl⟩, hp, hl⟩ := h
    exact ⟨k, nm, ao, m, cap, a', _, rfl, hp, hl, Or.inr ⟨c, rfl, rfl⟩, hf⟩
  | ok p =>
    obtain ⟨⟨k, nm, ts⟩, rest⟩ := p
    obtain ⟨y, a', rfl, ⟨va, rfl, hts⟩, hp, hd, h1, h2⟩ := h
    obtain ⟨_, ao, cap, rfl⟩ := own_len hts
    exact ⟨k, nm, ao, ts.length, cap, a', 0, rfl, hp, by omega, Or.inl ⟨rfl, h1, h2, ts, hts, by rw [hd]⟩, hf⟩

theorem clause_err {L : List Wd} {a : Nat} {c : Bool} (h : atomL termW (L.drop a) = .error c) : clauseL (L.drop a) = .error c := by rw [clauseL_eq, h]
theorem clause_bare {L : List Wd} {a a' : Nat} {l : Sy.Lit} (hL : ∀ x ∈ L, OkW x) (h : atomL termW (L.drop a) = .ok (l, L.drop a')) (hs : signB [58, 45] (L.drop a') = false) : clauseL (L.drop a) = endR l [] (L.drop a') := by
  rw [sign_take hL a' [58, 45] (by decide) rfl] at hs
  rw [clauseL_eq, h]
  simp only []
  rw [if_neg (by rw [hs]; decide), takeR, if_neg (by rw [hs]; decide)]
theorem clause_body {L : List Wd} {a a' : Nat} {l : Sy.Lit} (hL : ∀ x ∈ L, OkW x) (h : atomL termW (L.drop a) = .ok (l, L.drop a')) (hs : signB [58, 45] (L.drop a') = true) : clauseL (L.drop a) = bodyR l (listL litL 6 (L.drop (a' + 1))) := by
  rw [sign_take hL a' [58, 45] (by decide) rfl] at hs
  rw [clauseL_eq, h]
  simp only []
  rw [if_pos hs, takeR, if_pos hs, drop_tail]

set_option maxRecDepth 10000 in
set_option maxHeartbeats 20000000 in
theorem rprogram_any (s : ByteArray) (w : World) (hs : s.size ≤ 4000) :
    Calls Tryz.prog 10 #[.string s] w fun e w' => Pg (progL 30 (wordsL (bs s))) w e w' := by
  have HSc := hide (scan2 s w hs)
  have hfo := front_ok _ ((bs s).drop 0) 0 (Nat.le_refl _)
  have HL : Hid (∀ x ∈ frontAt (bs s) 0, OkW x) := hfo.1
  have hlen : (frontAt (bs s) 0).length ≤ 4000 := by
    have h1 : (frontAt (bs s) 0).length ≤ ((bs s).drop 0).length := hfo.2
    rw [List.length_drop, Lx.bs_length] at h1
    omega
  have HPF := hide (prog_front (bs s) 30)
  clear hfo
  obtain ⟨R0, hR0⟩ : ∃ R0, progL 30 (wordsL (bs s)) = R0 := ⟨_, rfl⟩
  rw [hR0] at HPF ⊢
  clear hR0
  obtain ⟨L, hL⟩ : ∃ L, frontAt (bs s) 0 = L := ⟨_, rfl⟩
  rw [hL] at HSc HL hlen HPF
  clear hL
  go_enter Tryz.func10, Tryz.ntmps10
  go_wp2_with fail
  refine Calls.mono HSc.out ?_
  rintro e w1 ⟨v, E, rfl, hrw, hE⟩
  obtain ⟨ao, cap, rfl, _⟩ := hrw.slice
  have gE : ((E : Int) == 8) = false := by rcases hE with ⟨h, _⟩ | ⟨h, _⟩ <;> subst h <;> rfl
  have HE := hide hE
  have HB1 := hide hrw.below
  have hsz1 := hrw.below.size
  have hPd : Pd (w1.alloc (.cells #[.slice ao L.length cap, .int .i64 0, .int .i64 0] 61)) w1.heap.size (.slice ao L.length cap) L 0 0 :=
    ⟨Bx.new w1 _ _, Vl.own_zero (hrw.row.alloc _), by omega, by omega⟩
  have HP := hide hPd
  have HBW : Hid (Below w.heap.size w (w1.alloc (.cells #[.slice ao L.length cap, .int .i64 0, .int .i64 0] 61))) := hrw.below.alloc hsz1 _
  clear HSc hrw hE hPd
  go_wp2_with fail
  have hszW : w1.heap.size < (w1.alloc (.cells #[.slice ao L.length cap, .int .i64 0, .int .i64 0] 61)).heap.size := by simp
  generalize w1.alloc (.cells #[.slice ao L.length cap, .int .i64 0, .int .i64 0] 61) = W0 at *
  obtain ⟨r, hr⟩ : ∃ r, w1.heap.size = r := ⟨_, rfl⟩
  rw [hr] at HP hszW ⊢
  have HRr : Hid (w.heap.size ≤ r) := by rw [← hr]; exact hsz1
  clear hr HB1 hsz1
  have LO : Hid (Lp W0 r (.slice ao L.length cap) L W0 0 0 (.slice none 0 0) 0 []) :=
    ⟨Pw.refl HP.out, ⟨by simp, .inl ⟨rfl, rfl⟩⟩, by omega, by omega, Or.inl ⟨rfl, by omega, by omega, [], rfl, rfl, by simp, (joinP_nil _).symm⟩⟩
  go_loopw [7] (fun y wr => ∃ a e n xs, Hid (Lp W0 r (.slice ao L.length cap) L wr a e y n xs)) (fun _ wr => ms r L.length wr)
  case atStart => exact ⟨_, _, _, _, LO⟩
  case round =>
    obtain ⟨a, e, n, xs, HO⟩ := hrel
    clear LO
    obtain ⟨⟨c0, c1, c2⟩, f0, f1, f2⟩ := HO.out.pw.pd.box.three
    obtain ⟨_, aoy, capy, rfl⟩ := own_len HO.out.row
    rcases HO.out.st with ⟨rfl, haL, hn30, HST⟩ | ⟨c, he, hRc⟩
    · have HST := hide HST
      by_cases hlt : a < L.length
      · have hltI : (a : Int) < (L.length : Int) := by omega
        have hms : Hid (ms r L.length wr = L.length + 3 - a) := ms_ok HO.out.pw.pd
        go_wp2_with fail
        go_big_quiet (fail)
        have P6 := hide (HO.out.pw.below (Sy.below_drewN wr nq))
        have O6 := hide (Lx.own_below HO.out.row (Sy.below_drewN wr nq))
        have M6 : Hid (∃ zs : List (Rul × Value × Value), n = zs.length ∧ xs = cellsRz zs ∧ (∀ z ∈ zs, isTs (wr.drewN nq) z.1.1.2.2 z.2.1 ∧ isLs (wr.drewN nq) z.1.2 z.2.2) ∧ progL 30 L = joinP (zs.map (·.1)) (progL (30 - zs.length) (L.drop a))) := by
          obtain ⟨zs, h1, h2, h3, h4⟩ := HST.out
          exact ⟨zs, h1, h2, fun z hz => ⟨isTs_below (h3 z hz).1 (Sy.below_drewN _ _), isLs_below (h3 z hz).2 (Sy.below_drewN _ _)⟩, h4⟩
        clear HO HST c0 c1 c2 f0 f1 f2
        generalize wr.drewN nq = W6 at *
        have HT := hide (atom_any P6.out.pd HL.out haL)
        obtain ⟨R, hR⟩ : ∃ R, Hid (atomL termW (L.drop a) = R) := ⟨_, rfl⟩
        rw [hR.out] at HT
        go_wp2_with fail
        refine Calls.mono HT.out ?_
        intro z w2 hz
        obtain ⟨k, nm, aoa, ma, capa, a2, e2, rfl, hp2, hle2, hst2, hf2⟩ := Lr_one hz
        have P2 := hide (P6.out.then hp2 hf2)
        have O2 := hide (P6.out.pd.kept hf2 O6.out (by decide))
        have M2 : Hid (∃ zs : List (Rul × Value × Value), n = zs.length ∧ xs = cellsRz zs ∧ (∀ z ∈ zs, isTs w2 z.1.1.2.2 z.2.1 ∧ isLs w2 z.1.2 z.2.2) ∧ progL 30 L = joinP (zs.map (·.1)) (progL (30 - zs.length) (L.drop a))) := by
          obtain ⟨zs, h1, h2, h3, h4⟩ := M6.out
          exact ⟨zs, h1, h2, fun z hz => ⟨P6.out.pd.isTs hf2 (h3 z hz).1, P6.out.pd.isLs hf2 (h3 z hz).2⟩, h4⟩
        have H2 := hide hp2
        have HS2 := hide hst2
        have hr2 : r < w2.heap.size := hp2.lt
        clear HT hz hp2 hst2 hf2 P6 O6 M6
        have P3 := hide ((Pw.refl H2.out).alloc (.cells #[.int .i64 k, .string nm, .slice aoa ma capa, .slice none 0 0] 36))
        have B3 := hide (Bx.new w2 #[.int .i64 k, .string nm, .slice aoa ma capa, .slice none 0 0] 36)
        have HS := hide (sign_any P3.out.pd [58, 45])
        have c2 := P3.out.pd.box.three.1.2.2
        go_upto_region 8 with fail
        obtain ⟨b, hb⟩ : ∃ b, Hid (b = (signB [58, 45] (L.drop a2) && decide (e2 = 0))) := ⟨_, rfl⟩
        generalize w2.alloc (.cells #[.int .i64 k, .string nm, .slice aoa ma capa, .slice none 0 0] 36) = W3 at *
        go_cut [49] from 21 to 110 (fun s wc => s = .bool b ∧ ∃ n, wc = W3.drewN n)
        case first =>
          go_wp2_with fail
          refine Calls.mono HS.out ?_
          rintro z3 w3 ⟨rfl, n3, rfl⟩
          cases hsg : signB [58, 45] (L.drop a2)
          · go_wp2_with fail
            go_meet
            exact ⟨by rw [hb.out, hsg]; rfl, _, rfl⟩
          · by_cases he0 : e2 = 0
            · have g0 : ((e2 : Int) == 0) = true := by simp; omega
              have HB0 : Hid (b = true) := by show _ = _; rw [hb.out, hsg]; simp [he0]
              clear he0 hb
              go_wp2_with fail
              go_meet
              exact ⟨by rw [HB0.out], _, rfl⟩
            · have g0 : ((e2 : Int) == 0) = false := by simp; omega
              have HB0 : Hid (b = false) := by show _ = _; rw [hb.out, hsg]; simp [he0]
              clear he0 hb
              go_wp2_with fail
              go_meet
              exact ⟨by rw [HB0.out], _, rfl⟩
        case rest =>
          obtain ⟨rfl, n3, hw3⟩ := hcut
          have P4 : Hid (Pw w2 r (.slice ao L.length cap) L a2 e2 wc) := by rw [hw3]; exact P3.out.below (Sy.below_drewN _ n3)
          have B4 : Hid (Bx wc w2.heap.size 36 #[.int .i64 k, .string nm, .slice aoa ma capa, .slice none 0 0]) := by rw [hw3]; exact B3.out.below (Sy.below_drewN _ n3)
          clear hw3 P3 B3 HS c2
          go_upto_if 49 with fail
          go_cut [9] from 21 to 110 (fun s9 wd => ∃ a5 e5 aob mb capb, Hid (Lt w2 r (.slice ao L.length cap) L a wd a5 e5 k nm aoa ma capa aob mb capb))
          case first =>
            cases b with
            | false =>
              have LT : Hid (Lt w2 r (.slice ao L.length cap) L a wc a2 e2 k nm aoa ma capa none 0 0) := by
                refine ⟨P4.out, B4.out, hle2, ?_⟩
                rcases HS2.out with ⟨he, h1, h2, ts, hts, hR2⟩ | ⟨c, he, hR2⟩
                · refine Or.inl ⟨he, h1, h2, ts, [], H2.out.isTs P4.out.fr hts, isLs_nil _, clause_bare HL.out (hR.out.trans hR2) ?_⟩
                  have := hb.out
                  rw [he] at this
                  simpa using this.symm
                · exact Or.inr ⟨c, he, clause_err (hR.out.trans hR2)⟩
              go_wp2_with fail
              go_meet
              exact ⟨_, _, _, _, _, LT⟩
            | true =>
              obtain ⟨hsg, he0⟩ : signB [58, 45] (L.drop a2) = true ∧ e2 = 0 := by
                have := hb.out.symm
                simpa using this
              subst he0
              obtain ⟨hh1, hh2, ts, hts, hR2⟩ : a < a2 ∧ a2 ≤ L.length ∧ ∃ ts, isTs w2 ts (.slice aoa ma capa) ∧ R = .ok ((k, nm, ts), L.drop a2) := by
                rcases HS2.out with ⟨_, h1, h2, h3⟩ | ⟨c, he, _⟩
                · exact ⟨h1, h2, h3⟩
                · cases c <;> cases he
              have hl3 := sign_lt hsg
              have HCl := hide (clause_body HL.out (hR.out.trans hR2) hsg)
              have HTs := hide hts
              obtain ⟨⟨c0, c1, c2⟩, f0, f1, f2⟩ := P4.out.pd.box.three
              have hst := P4.out.pd.stepI (by omega)
              have P5 := hide (P4.out.then hst.1 hst.2)
              have B5 := hide (B4.out.fr hst.2 (by omega))
              have LB : Hid (Lb w2 r (.slice ao L.length cap) L (a2 + 1) k nm (.slice aoa ma capa) (wc.setCell ⟨r, 1, none⟩ (.int .i64 ((a2 : Int) + 1))) (a2 + 1) 0 (.slice none 0 0) 0 []) :=
                ⟨P5.out, B5.out, ⟨by simp, .inl ⟨rfl, rfl⟩⟩, by omega, by omega, Or.inl ⟨rfl, by omega, by omega, by omega, [], rfl, rfl, by simp, (joinR_nil _).symm⟩⟩
              clear hst P5 B5 P4 B4 hsg hts hR2 hb
              go_wp2_with fail
              go_loopw [] (fun wx => ∃ a' e' yb nb xb, Hid (Lb w2 r (.slice ao L.length cap) L (a2 + 1) k nm (.slice aoa ma capa) wx a' e' yb nb xb)) (fun wx => ms r L.length wx)
              case atStart => exact ⟨_, _, _, _, _, LB⟩
              case round =>
                obtain ⟨a', e', yb, nb, xb, HI⟩ := hrel
                clear LB c0 c1 c2 f0 f1 f2
                obtain ⟨⟨c0, c1, c2⟩, f0, f1, f2⟩ := HI.out.pw.pd.box.three
                obtain ⟨⟨d0, d1, d2, d3⟩, g0, g1, g2, g3⟩ := HI.out.rul.four
                obtain ⟨_, aob, capb, rfl⟩ := own_len HI.out.row
                rcases HI.out.st with ⟨rfl, hab, haL2, hn6, hzb⟩ | ⟨c, he5, hLc⟩
                · have hms2 : Hid (ms r L.length wr = L.length + 3 - a') := ms_ok HI.out.pw.pd
                  have hrb : ¬ w2.heap.size = r := by omega
                  have HT := hide (literal_any HI.out.pw.pd HL.out haL2)
                  obtain ⟨R2, hR3⟩ : ∃ R2, Hid (litL (L.drop a') = R2) := ⟨_, rfl⟩
                  rw [hR3.out] at HT
                  go_wp2_with fail
                  refine Calls.mono HT.out ?_
                  intro z6 w6 hz6
                  obtain ⟨k6, nm6, ao6, m6, cap6, a6, e6, rfl, hp6, hle6, hst6, hf6⟩ := Lr_one hz6
                  have P6 := hide (HI.out.pw.then hp6 hf6)
                  have B6 := hide (HI.out.rul.fr hf6 hrb)
                  have O6 := hide (HI.out.pw.pd.kept hf6 HI.out.row (by decide))
                  have Z6 : Hid (∃ zb : List (Sy.Lit × Value), nb = zb.length ∧ xb = cellsLz zb ∧ (∀ z ∈ zb, isTs w6 z.1.2.2 z.2) ∧ listL litL 6 (L.drop (a2 + 1)) = joinR (zb.map (·.1)) (listL litL (6 - zb.length) (L.drop a'))) := by
                    obtain ⟨zb, h1, h2, h3, h4⟩ := hzb
                    exact ⟨zb, h1, h2, fun z hz => HI.out.pw.pd.isTs hf6 (h3 z hz), h4⟩
                  have p2 := fun o => (P6.out.alloc o).pd.box.three.1.2.2
                  have l3 := fun o => (B6.out.below (Lx.below_box w6 o)).four.1.2.2.2
                  have hsz6 := P6.out.fr.size
                  clear HT hz6 hp6 hf6 HI hzb c0 c1 c2 f0 f1 f2 d0 d1 d2 d3 g0 g1 g2 g3
                  rcases hst6 with ⟨he6, h61, h62, ts6, hts6, hR4⟩ | ⟨c, he6, hR4⟩
                  · subst he6
                    have HT6 := hide hts6
                    have HR4 := hide (hR3.out.trans hR4)
                    clear hts6 hR4 hR3
                    by_cases hfull : nb = 6
                    · have gf : ((nb : Int) == 6) = true := by simp; omega
                      have HRe : Hid (listL litL 6 (L.drop (a2 + 1)) = .error true) := by
                        obtain ⟨zb, h1, h2, h3, h4⟩ := Z6.out
                        show _ = _
                        rw [h4, show 6 - zb.length = 0 by omega, listL_zero HR4.out]
                        rfl
                      have TB : Hid (Bx (w6.alloc (.cells #[.int .i64 k6, .string nm6, .slice ao6 m6 cap6] 33)) w6.heap.size 33 #[.int .i64 k6, .string nm6, .slice ao6 m6 cap6]) := Bx.new w6 _ _
                      have HB := hide (bad_any (P6.out.alloc (.cells #[.int .i64 k6, .string nm6, .slice ao6 m6 cap6] 33)).pd 8)
                      have B6' := hide (B6.out.below (Lx.below_box w6 (.cells #[.int .i64 k6, .string nm6, .slice ao6 m6 cap6] 33)))
                      have O6' := hide (O6.out.alloc (.cells #[.int .i64 k6, .string nm6, .slice ao6 m6 cap6] 33))
                      clear hfull
                      go_wp2_with fail
                      refine Calls.mono HB.out ?_
                      rintro zb wb ⟨rfl, hpb, hfb⟩
                      simp only [if_true] at hpb
                      have Pb := hide ((P6.out.alloc (.cells #[.int .i64 k6, .string nm6, .slice ao6 m6 cap6] 33)).then hpb hfb)
                      have Bb := hide (B6'.out.fr hfb hrb)
                      have Ob := hide ((P6.out.alloc (.cells #[.int .i64 k6, .string nm6, .slice ao6 m6 cap6] 33)).pd.kept hfb O6'.out (by decide))
                      obtain ⟨⟨v0, v1, v2⟩, _, _, _⟩ := (TB.out.fr hfb (by omega)).three
                      obtain ⟨g7, cap7, w7, hap, hst7, HL7⟩ := Lb_push H2.out Pb.out Bb.out Ob.out hn6 k6 nm6 ao6 m6 cap6
                      obtain ⟨s7, s8⟩ := hst7
                      have lb3 := Bb.out.four.1.2.2.2
                      clear hpb hfb HB TB Bb Ob B6' O6' l3 p2 P6 B6 O6
                      go_wp2_with (at_builtin; refine wpList_append_run _ rfl (.tmp 78) (.tmp 80) 34 34 rfl _ _ rfl rfl (hap _) ?_)
                      have HS := hide (sign_any HL7.out.1.pd [44])
                      clear hap s7 s8 lb3 v0 v1 v2
                      refine Calls.mono HS.out ?_
                      rintro z8 w8 ⟨rfl, n8, hw8⟩
                      have LB8 : Hid (Lb w2 r (.slice ao L.length cap) L (a2 + 1) k nm (.slice aoa ma capa) w8 a6 8 (.slice (some ⟨g7, 0, none⟩) (nb + 1) cap7) (nb + 1) (xb ++ [.int .i64 k6, .string nm6, .slice ao6 m6 cap6])) := by
                        rw [hw8]
                        have hb := Sy.below_drewN (w7.setCell ⟨w2.heap.size, 3, none⟩ (.slice (some ⟨g7, 0, none⟩) (nb + 1) cap7)) n8
                        exact ⟨HL7.out.1.below hb, HL7.out.2.1.below hb, Lx.own_below HL7.out.2.2.1 hb, by omega, by omega, Or.inr ⟨true, rfl, HRe.out⟩⟩
                      clear HL7 HS hw8
                      obtain ⟨⟨c0, c1, c2⟩, f0, f1, f2⟩ := LB8.out.pw.pd.box.three
                      cases hsg : signB [44] (L.drop a6)
                      · have LT : Hid (Lt w2 r (.slice ao L.length cap) L a w8 a6 8 k nm aoa ma capa (some ⟨g7, 0, none⟩) (nb + 1) cap7) := ⟨LB8.out.pw, LB8.out.rul, LB8.out.le, Or.inr ⟨true, rfl, by rw [HCl.out, HRe.out]; rfl⟩⟩
                        go_wp2_with fail
                        go_meet
                        exact ⟨_, _, _, _, _, LT⟩
                      · have hl9 := sign_lt hsg
                        have hst := LB8.out.pw.pd.stepI (by omega)
                        have LB9 : Hid (Lb w2 r (.slice ao L.length cap) L (a2 + 1) k nm (.slice aoa ma capa) (w8.setCell ⟨r, 1, none⟩ (.int .i64 (((a6 : Nat) : Int) + 1))) (a6 + 1) 8 (.slice (some ⟨g7, 0, none⟩) (nb + 1) cap7) (nb + 1) (xb ++ [.int .i64 k6, .string nm6, .slice ao6 m6 cap6])) :=
                          ⟨LB8.out.pw.then hst.1 hst.2, LB8.out.rul.fr hst.2 hrb, LB8.out.pw.pd.kept hst.2 LB8.out.row (by decide), by omega, by omega, Or.inr ⟨true, rfl, HRe.out⟩⟩
                        clear hst
                        go_wp2_with fail
                        go_roundw
                        case rel => exact ⟨_, _, _, _, _, LB9⟩
                        case measure =>
                          refine Nat.lt_of_le_of_lt (Nat.le_of_eq (ms_err LB9.out.pw.pd (by decide))) ?_
                          rw [hms2.out]
                          omega
                    · have gf : ((nb : Int) == 6) = false := by simp; omega
                      obtain ⟨g7, cap7, w7, hap, hst7, HL7⟩ := Lb_push H2.out (P6.out.alloc (.cells #[.int .i64 k6, .string nm6, .slice ao6 m6 cap6] 33)) (B6.out.below (Lx.below_box w6 _)) (O6.out.alloc _) hn6 k6 nm6 ao6 m6 cap6
                      obtain ⟨s7, s8⟩ := hst7
                      have hap' : ∀ ty, (Builtin.append_ #[34, 34] ty #[.slice aob nb capb, .slice (some ⟨w6.heap.size + 1, 0, none⟩) 1 1]).run Tryz.prog ((w6.alloc (.cells #[.int .i64 k6, .string nm6, .slice ao6 m6 cap6] 33)).alloc (.cells #[.int .i64 k6, .string nm6, .slice ao6 m6 cap6] 33)) = .ok (.slice (some ⟨g7, 0, none⟩) (nb + 1) cap7) w7 := fun ty => by
                        have := hap ty
                        simpa using this
                      go_wp2_with (at_builtin; refine wpList_append_run _ rfl (.tmp 78) (.tmp 80) 34 34 rfl _ _ rfl rfl (hap' _) ?_)
                      have HS := hide (sign_any HL7.out.1.pd [44])
                      clear hap hap' l3 p2 s7 s8
                      refine Calls.mono HS.out ?_
                      rintro z8 w8 ⟨rfl, n8, hw8⟩
                      obtain ⟨P8, B8, O8, Z8⟩ : Hid (Pw w2 r (.slice ao L.length cap) L a6 0 w8) ∧ Hid (Bx w8 w2.heap.size 36 #[.int .i64 k, .string nm, .slice aoa ma capa, .slice (some ⟨g7, 0, none⟩) (nb + 1) cap7]) ∧ Hid (w8.ownsRow w2.heap.size 33 3 (.slice (some ⟨g7, 0, none⟩) (nb + 1) cap7) (nb + 1) (xb ++ [.int .i64 k6, .string nm6, .slice ao6 m6 cap6])) ∧ Hid (∀ ts u, isTs w6 ts u → isTs w8 ts u) := by
                        rw [hw8]
                        have hb := Sy.below_drewN (w7.setCell ⟨w2.heap.size, 3, none⟩ (.slice (some ⟨g7, 0, none⟩) (nb + 1) cap7)) n8
                        exact ⟨HL7.out.1.below hb, HL7.out.2.1.below hb, Lx.own_below HL7.out.2.2.1 hb, fun ts u hu => isTs_below (HL7.out.2.2.2 ts u (isTs_below hu (Lx.below_box w6 _))) hb⟩
                      clear HL7 HS hw8 P6 B6 O6
                      obtain ⟨⟨c0, c1, c2⟩, f0, f1, f2⟩ := P8.out.pd.box.three
                      have HTK := hide (sign_take HL.out a6 [44] (by decide) rfl)
                      cases hsg : signB [44] (L.drop a6)
                      · rw [hsg] at HTK
                        have LT : Hid (Lt w2 r (.slice ao L.length cap) L a w8 a6 0 k nm aoa ma capa (some ⟨g7, 0, none⟩) (nb + 1) cap7) := by
                          obtain ⟨zb, h1, h2, h3, h4⟩ := Z6.out
                          refine ⟨P8.out, B8.out, by omega, Or.inl ⟨rfl, by omega, by omega, ts, (zb ++ [((k6, nm6, ts6), Value.slice ao6 m6 cap6)]).map (·.1), H2.out.isTs P8.out.fr HTs.out, ⟨_, rfl, ?_, ?_⟩, ?_⟩⟩
                          · have e1 : (zb ++ [(((k6, nm6, ts6) : Sy.Lit), Value.slice ao6 m6 cap6)]).length = nb + 1 := by simp [h1]
                            rw [e1, cellsLz_snoc, ← h2]
                            exact Vl.own_zero O8.out
                          · intro z hz
                            rcases List.mem_append.1 hz with hz | hz
                            · exact Z8.out _ _ (h3 z hz)
                            · obtain rfl : z = ((k6, nm6, ts6), Value.slice ao6 m6 cap6) := by simpa using hz
                              exact Z8.out _ _ HT6.out
                          · obtain ⟨m, hm⟩ : ∃ m, 6 - zb.length = m + 1 := ⟨6 - zb.length - 1, by omega⟩
                            rw [HCl.out, h4, hm, listL_last HR4.out HTK.out.symm, List.map_append]
                            rfl
                        go_wp2_with fail
                        go_meet
                        exact ⟨_, _, _, _, _, LT⟩
                      · rw [hsg] at HTK
                        have hl9 := sign_lt hsg
                        have hst := P8.out.pd.stepI (by omega)
                        have LB9 : Hid (Lb w2 r (.slice ao L.length cap) L (a2 + 1) k nm (.slice aoa ma capa) (w8.setCell ⟨r, 1, none⟩ (.int .i64 (((a6 : Nat) : Int) + 1))) (a6 + 1) 0 (.slice (some ⟨g7, 0, none⟩) (nb + 1) cap7) (nb + 1) (xb ++ [.int .i64 k6, .string nm6, .slice ao6 m6 cap6])) := by
                          obtain ⟨zb, h1, h2, h3, h4⟩ := Z6.out
                          refine ⟨P8.out.then hst.1 hst.2, B8.out.fr hst.2 hrb, P8.out.pd.kept hst.2 O8.out (by decide), by omega, by omega, Or.inl ⟨rfl, by omega, by omega, by omega, zb ++ [((k6, nm6, ts6), Value.slice ao6 m6 cap6)], by simp [h1], ?_, ?_, ?_⟩⟩
                          · rw [cellsLz_snoc, h2]
                          · intro z hz
                            rcases List.mem_append.1 hz with hz | hz
                            · exact P8.out.pd.isTs hst.2 (Z8.out _ _ (h3 z hz))
                            · obtain rfl : z = ((k6, nm6, ts6), Value.slice ao6 m6 cap6) := by simpa using hz
                              exact P8.out.pd.isTs hst.2 (Z8.out _ _ HT6.out)
                          · obtain ⟨m, hm⟩ : ∃ m, 6 - zb.length = m + 1 := ⟨6 - zb.length - 1, by omega⟩
                            have hm2 : 6 - (zb ++ [(((k6, nm6, ts6) : Sy.Lit), Value.slice ao6 m6 cap6)]).length = m := by simp; omega
                            rw [h4, hm, hm2, listL_more HR4.out HTK.out.symm, joinR_joinR, takeR, if_pos HTK.out.symm, drop_tail, List.map_append]
                            rfl
                        clear hst HTK
                        go_wp2_with fail
                        go_roundw
                        case rel => exact ⟨_, _, _, _, _, LB9⟩
                        case measure =>
                          refine Nat.lt_of_le_of_lt (Nat.le_of_eq (ms_ok LB9.out.pw.pd)) ?_
                          rw [hms2.out]
                          omega
                  · have he60 : ((e6 : Int) == 0) = false := by rw [he6]; cases c <;> rfl
                    have HE6 := hide he6
                    have HRe : Hid (listL litL 6 (L.drop (a2 + 1)) = .error c) := by
                      obtain ⟨zb, h1, h2, h3, h4⟩ := Z6.out
                      show _ = _
                      rw [h4, listL_err (hR3.out.trans hR4)]
                      rfl
                    obtain ⟨g7, cap7, w7, hap, hst7, HL7⟩ := Lb_push H2.out (P6.out.alloc (.cells #[.int .i64 k6, .string nm6, .slice ao6 m6 cap6] 33)) (B6.out.below (Lx.below_box w6 _)) (O6.out.alloc _) hn6 k6 nm6 ao6 m6 cap6
                    obtain ⟨s7, s8⟩ := hst7
                    have hap' : ∀ ty, (Builtin.append_ #[34, 34] ty #[.slice aob nb capb, .slice (some ⟨w6.heap.size + 1, 0, none⟩) 1 1]).run Tryz.prog ((w6.alloc (.cells #[.int .i64 k6, .string nm6, .slice ao6 m6 cap6] 33)).alloc (.cells #[.int .i64 k6, .string nm6, .slice ao6 m6 cap6] 33)) = .ok (.slice (some ⟨g7, 0, none⟩) (nb + 1) cap7) w7 := fun ty => by
                      have := hap ty
                      simpa using this
                    clear he6 hR4 hR3
                    go_wp2_with (at_builtin; refine wpList_append_run _ rfl (.tmp 78) (.tmp 80) 34 34 rfl _ _ rfl rfl (hap' _) ?_)
                    have HS := hide (sign_any HL7.out.1.pd [44])
                    clear hap hap' l3 p2 s7 s8 P6 B6 O6
                    refine Calls.mono HS.out ?_
                    rintro z8 w8 ⟨rfl, n8, hw8⟩
                    have LB8 : Hid (Lb w2 r (.slice ao L.length cap) L (a2 + 1) k nm (.slice aoa ma capa) w8 a6 e6 (.slice (some ⟨g7, 0, none⟩) (nb + 1) cap7) (nb + 1) (xb ++ [.int .i64 k6, .string nm6, .slice ao6 m6 cap6])) := by
                      rw [hw8]
                      have hb := Sy.below_drewN (w7.setCell ⟨w2.heap.size, 3, none⟩ (.slice (some ⟨g7, 0, none⟩) (nb + 1) cap7)) n8
                      exact ⟨HL7.out.1.below hb, HL7.out.2.1.below hb, Lx.own_below HL7.out.2.2.1 hb, by omega, by omega, Or.inr ⟨c, HE6.out, HRe.out⟩⟩
                    clear HL7 HS hw8
                    obtain ⟨⟨c0, c1, c2⟩, f0, f1, f2⟩ := LB8.out.pw.pd.box.three
                    cases hsg : signB [44] (L.drop a6)
                    · have LT : Hid (Lt w2 r (.slice ao L.length cap) L a w8 a6 e6 k nm aoa ma capa (some ⟨g7, 0, none⟩) (nb + 1) cap7) := ⟨LB8.out.pw, LB8.out.rul, LB8.out.le, Or.inr ⟨c, HE6.out, by rw [HCl.out, HRe.out]; rfl⟩⟩
                      go_wp2_with fail
                      go_meet
                      exact ⟨_, _, _, _, _, LT⟩
                    · have hl9 := sign_lt hsg
                      have hst := LB8.out.pw.pd.stepI (by omega)
                      have LB9 : Hid (Lb w2 r (.slice ao L.length cap) L (a2 + 1) k nm (.slice aoa ma capa) (w8.setCell ⟨r, 1, none⟩ (.int .i64 (((a6 : Nat) : Int) + 1))) (a6 + 1) e6 (.slice (some ⟨g7, 0, none⟩) (nb + 1) cap7) (nb + 1) (xb ++ [.int .i64 k6, .string nm6, .slice ao6 m6 cap6])) :=
                        ⟨LB8.out.pw.then hst.1 hst.2, LB8.out.rul.fr hst.2 hrb, LB8.out.pw.pd.kept hst.2 LB8.out.row (by decide), by omega, by omega, Or.inr ⟨c, HE6.out, HRe.out⟩⟩
                      clear hst
                      go_wp2_with fail
                      go_roundw
                      case rel => exact ⟨_, _, _, _, _, LB9⟩
                      case measure =>
                        refine Nat.lt_of_le_of_lt (Nat.le_of_eq (ms_err LB9.out.pw.pd (by rw [HE6.out]; cases c <;> decide))) ?_
                        rw [hms2.out]
                        omega
                · have he50 : ((e' : Int) == 0) = false := by rw [he5]; cases c <;> rfl
                  have LT : Hid (Lt w2 r (.slice ao L.length cap) L a wr a' e' k nm aoa ma capa aob nb capb) := ⟨HI.out.pw, HI.out.rul, HI.out.le, Or.inr ⟨c, he5, by rw [HCl.out, hLc]; rfl⟩⟩
                  clear hLc he5
                  go_wp2_with fail
                  go_meet
                  exact ⟨_, _, _, _, _, LT⟩
          case rest =>
            obtain ⟨a5, e5, aob, mb, capb, HLT⟩ := hcut
            have hne : Hid (L.drop a ≠ []) := by
              intro e0
              have := congrArg List.length e0
              rw [List.length_drop] at this
              simp at this
              omega
            have hrb : ¬ w2.heap.size = r := by omega
            clear P4 B4 hb HS2 hR
            rcases HLT.out.st with ⟨rfl, h51, h52, hcl⟩ | ⟨c, he5, hcl⟩
            · have HCL := hide hcl
              have HEa := hide (eat_any HLT.out.pw.pd [46] (by omega))
              clear hcl
              go_wp2_with fail
              refine Calls.mono HEa.out ?_
              rintro z9 w9 ⟨rfl, ⟨a9, hp9, ha9, hb9⟩, hf9⟩
              have F9 := hide (HLT.out.pw.fr.trans hf9 (fun _ _ e => e))
              have B9 := hide (HLT.out.rul.fr hf9 hrb)
              have O9 := hide (H2.out.kept F9.out O2.out (by decide))
              obtain ⟨⟨d0, d1, d2, d3⟩, g0, g1, g2, g3⟩ := B9.out.four
              have HTK := hide (sign_take HL.out a5 [46] (by decide) rfl)
              cases hsg : signB [46] (L.drop a5)
              · rw [hsg, if_neg (by decide)] at hp9
                rw [hsg] at HTK
                have P9 := hide (P2.out.then hp9 F9.out)
                have HRe : Hid (progL 30 L = .error false) := by
                  obtain ⟨zs, h1, h2, h3, h4⟩ := M2.out
                  obtain ⟨ts, ls, _, _, h5⟩ := HCL.out
                  rw [endR, if_neg (by rw [← HTK.out]; decide)] at h5
                  show _ = _
                  rw [h4, progL_err hne.out h5]
                  rfl
                obtain ⟨g7, cap7, w7, hap, HL7⟩ := Lp_push HP.out P9.out O9.out hn30 k nm aoa ma capa aob mb capb
                have LP : Hid (Lp W0 r (.slice ao L.length cap) L w7 a9 4 (.slice (some ⟨g7, 0, none⟩) (n + 1) cap7) (n + 1) (xs ++ [.int .i64 k, .string nm, .slice aoa ma capa, .slice aob mb capb])) :=
                  ⟨HL7.out.1, HL7.out.2.1, by omega, by omega, Or.inr ⟨false, rfl, HRe.out⟩⟩
                obtain ⟨⟨c0, c1, c2⟩, f0, f1, f2⟩ := P9.out.pd.box.three
                clear hp9 hf9 HEa HLT HL7
                go_wp2_with (at_builtin; refine wpList_append_run _ rfl (.tmp 107) (.tmp 109) 24 24 rfl _ _ rfl rfl (hap _) ?_)
                go_roundw
                case rel => exact ⟨_, _, _, _, LP⟩
                case measure =>
                  refine Nat.lt_of_le_of_lt (Nat.le_of_eq (ms_err LP.out.pw.pd (by decide))) ?_
                  rw [hms.out]
                  omega
              · rw [hsg, if_pos rfl] at hp9
                rw [hsg] at HTK
                have h9 := ha9 hsg
                subst h9
                have hl9 := sign_lt hsg
                have P9 := hide (P2.out.then hp9 F9.out)
                obtain ⟨⟨c0, c1, c2⟩, f0, f1, f2⟩ := P9.out.pd.box.three
                have HCR : Hid (∃ (ts : List Tm) (ls : List Sy.Lit), isTs w9 ts (.slice aoa ma capa) ∧ isLs w9 ls (.slice aob mb capb) ∧ clauseL (L.drop a) = .ok (((k, nm, ts), ls), L.drop (a5 + 1))) := by
                  obtain ⟨ts, ls, q1, q2, h5⟩ := HCL.out
                  refine ⟨ts, ls, HLT.out.pw.pd.isTs hf9 q1, HLT.out.pw.pd.isLs hf9 q2, ?_⟩
                  rw [h5, endR, if_pos HTK.out.symm, takeR, if_pos HTK.out.symm, drop_tail]
                clear hp9 hf9 HEa HLT HCL HTK
                by_cases hfull : n = 30
                · have gf : ((n : Int) == 30) = true := by simp; omega
                  have HRe : Hid (progL 30 L = .error true) := by
                    obtain ⟨zs, h1, h2, h3, h4⟩ := M2.out
                    obtain ⟨ts, ls, _, _, h5⟩ := HCR.out
                    show _ = _
                    rw [h4, show 30 - zs.length = 0 by omega, progL_zero hne.out h5]
                    rfl
                  have HB := hide (bad_any P9.out.pd 8)
                  clear hfull
                  go_wp2_with fail
                  refine Calls.mono HB.out ?_
                  rintro zb wb ⟨rfl, hpb, hfb⟩
                  simp only [if_true] at hpb
                  have Pb := hide (P9.out.then hpb hfb)
                  have Ob := hide (P9.out.pd.kept hfb O9.out (by decide))
                  have Bb := hide (B9.out.fr hfb hrb)
                  clear c0 c1 c2 f0 f1 f2 d0 d1 d2 d3 g0 g1 g2 g3 hpb hfb HB
                  obtain ⟨⟨d0, d1, d2, d3⟩, g0, g1, g2, g3⟩ := Bb.out.four
                  obtain ⟨g7, cap7, w7, hap, HL7⟩ := Lp_push HP.out Pb.out Ob.out hn30 k nm aoa ma capa aob mb capb
                  have LP : Hid (Lp W0 r (.slice ao L.length cap) L w7 (a5 + 1) 8 (.slice (some ⟨g7, 0, none⟩) (n + 1) cap7) (n + 1) (xs ++ [.int .i64 k, .string nm, .slice aoa ma capa, .slice aob mb capb])) :=
                    ⟨HL7.out.1, HL7.out.2.1, by omega, by omega, Or.inr ⟨true, rfl, HRe.out⟩⟩
                  clear HL7
                  go_wp2_with (at_builtin; refine wpList_append_run _ rfl (.tmp 107) (.tmp 109) 24 24 rfl _ _ rfl rfl (hap _) ?_)
                  go_roundw
                  case rel => exact ⟨_, _, _, _, LP⟩
                  case measure =>
                    refine Nat.lt_of_le_of_lt (Nat.le_of_eq (ms_err LP.out.pw.pd (by decide))) ?_
                    rw [hms.out]
                    omega
                · have gf : ((n : Int) == 30) = false := by simp; omega
                  obtain ⟨g7, cap7, w7, hap, HL7⟩ := Lp_push HP.out P9.out O9.out hn30 k nm aoa ma capa aob mb capb
                  have LP : Hid (Lp W0 r (.slice ao L.length cap) L w7 (a5 + 1) 0 (.slice (some ⟨g7, 0, none⟩) (n + 1) cap7) (n + 1) (xs ++ [.int .i64 k, .string nm, .slice aoa ma capa, .slice aob mb capb])) := by
                    obtain ⟨zs, h1, h2, h3, h4⟩ := M2.out
                    obtain ⟨ts, ls, q1, q2, h5⟩ := HCR.out
                    refine ⟨HL7.out.1, HL7.out.2.1, by omega, by omega, Or.inl ⟨rfl, by omega, by omega, zs ++ [(((k, nm, ts), ls), .slice aoa ma capa, .slice aob mb capb)], by simp [h1], ?_, ?_, ?_⟩⟩
                    · rw [cellsRz_snoc, h2]
                    · intro z hz
                      rcases List.mem_append.1 hz with hz | hz
                      · exact ⟨HL7.out.2.2.1 _ _ (H2.out.isTs F9.out (h3 z hz).1), HL7.out.2.2.2 _ _ (H2.out.isLs F9.out (h3 z hz).2)⟩
                      · obtain rfl : z = (((k, nm, ts), ls), .slice aoa ma capa, .slice aob mb capb) := by simpa using hz
                        exact ⟨HL7.out.2.2.1 _ _ q1, HL7.out.2.2.2 _ _ q2⟩
                    · obtain ⟨m, hm⟩ : ∃ m, 30 - zs.length = m + 1 := ⟨30 - zs.length - 1, by omega⟩
                      have hm2 : 30 - (zs ++ [((((k, nm, ts), ls) : Rul), Value.slice aoa ma capa, Value.slice aob mb capb)]).length = m := by simp; omega
                      rw [h4, hm, hm2, progL_more hne.out h5, joinP_joinP, List.map_append]
                      rfl
                  clear HL7 hfull
                  go_wp2_with (at_builtin; refine wpList_append_run _ rfl (.tmp 107) (.tmp 109) 24 24 rfl _ _ rfl rfl (hap _) ?_)
                  go_roundw
                  case rel => exact ⟨_, _, _, _, LP⟩
                  case measure =>
                    refine Nat.lt_of_le_of_lt (Nat.le_of_eq (ms_ok LP.out.pw.pd)) ?_
                    rw [hms.out]
                    omega
            · have HEa := hide (eat_err HLT.out.pw.pd (by rw [he5]; cases c <;> decide) [46])
              have he50 : ((e5 : Int) == 0) = false := by rw [he5]; cases c <;> rfl
              have HE5 := hide he5
              have HCL := hide hcl
              clear hcl he5
              go_wp2_with fail
              refine Calls.mono HEa.out ?_
              rintro z9 w9 ⟨rfl, hw9⟩
              have hw9' := hw9.symm
              subst hw9'
              clear hw9 HEa
              have P9 := hide (P2.out.then HLT.out.pw.pd HLT.out.pw.fr)
              have O9 := hide (H2.out.kept HLT.out.pw.fr O2.out (by decide))
              obtain ⟨⟨d0, d1, d2, d3⟩, g0, g1, g2, g3⟩ := HLT.out.rul.four
              obtain ⟨⟨c0, c1, c2⟩, f0, f1, f2⟩ := P9.out.pd.box.three
              have HRe : Hid (progL 30 L = .error c) := by
                obtain ⟨zs, h1, h2, h3, h4⟩ := M2.out
                show _ = _
                rw [h4, progL_err hne.out HCL.out]
                rfl
              obtain ⟨g7, cap7, w7, hap, HL7⟩ := Lp_push HP.out P9.out O9.out hn30 k nm aoa ma capa aob mb capb
              have LP : Hid (Lp W0 r (.slice ao L.length cap) L w7 a5 e5 (.slice (some ⟨g7, 0, none⟩) (n + 1) cap7) (n + 1) (xs ++ [.int .i64 k, .string nm, .slice aoa ma capa, .slice aob mb capb])) :=
                ⟨HL7.out.1, HL7.out.2.1, by omega, HLT.out.le, Or.inr ⟨c, HE5.out, HRe.out⟩⟩
              clear HL7 HLT
              go_wp2_with (at_builtin; refine wpList_append_run _ rfl (.tmp 107) (.tmp 109) 24 24 rfl _ _ rfl rfl (hap _) ?_)
              go_roundw
              case rel => exact ⟨_, _, _, _, LP⟩
              case measure =>
                refine Nat.lt_of_le_of_lt (Nat.le_of_eq (ms_err LP.out.pw.pd (by rw [HE5.out]; cases c <;> decide))) ?_
                rw [hms.out]
                omega
      · have hltI : decide ((a : Int) < (L.length : Int)) = false := by simp; omega
        go_wp2_with fail
        go_big_quiet (fail)
        have P6 := hide (HO.out.pw.below (Sy.below_drewN wr nq))
        have O6 := hide (Lx.own_below HO.out.row (Sy.below_drewN wr nq))
        have M6 : Hid (∃ zs : List (Rul × Value × Value), n = zs.length ∧ xs = cellsRz zs ∧ (∀ z ∈ zs, isTs (wr.drewN nq) z.1.1.2.2 z.2.1 ∧ isLs (wr.drewN nq) z.1.2 z.2.2) ∧ progL 30 L = .ok (zs.map (·.1))) := by
          obtain ⟨zs, h1, h2, h3, h4⟩ := HST.out
          refine ⟨zs, h1, h2, fun z hz => ⟨isTs_below (h3 z hz).1 (Sy.below_drewN _ _), isLs_below (h3 z hz).2 (Sy.below_drewN _ _)⟩, ?_⟩
          rw [h4, drop_end L a (by omega), progL_nil]
          show Except.ok _ = _
          simp
        clear HO HST c0 c1 c2 f0 f1 f2
        generalize wr.drewN nq = W6 at *
        have HBd := hide (bad_any P6.out.pd E)
        go_wp2_with fail
        refine Calls.mono HBd.out ?_
        rintro z7 w7 ⟨rfl, hp7, hf7⟩
        simp only [if_true] at hp7
        have P7 := hide (P6.out.then hp7 hf7)
        have O7 := hide (P6.out.pd.kept hf7 O6.out (by decide))
        have M7 : Hid (∃ zs : List (Rul × Value × Value), n = zs.length ∧ xs = cellsRz zs ∧ (∀ z ∈ zs, isTs w7 z.1.1.2.2 z.2.1 ∧ isLs w7 z.1.2 z.2.2) ∧ progL 30 L = .ok (zs.map (·.1))) := by
          obtain ⟨zs, h1, h2, h3, h4⟩ := M6.out
          exact ⟨zs, h1, h2, fun z hz => ⟨P6.out.pd.isTs hf7 (h3 z hz).1, P6.out.pd.isLs hf7 (h3 z hz).2⟩, h4⟩
        clear HBd hp7 hf7 P6 O6 M6
        obtain ⟨⟨c0, c1, c2⟩, f0, f1, f2⟩ := P7.out.pd.box.three
        have hF : Hid (Below w.heap.size w w7) := HBW.out.trans (P7.out.fr.below (fun k hk => by rw [hk]; exact HRr.out) (by have := HRr.out; omega))
        have hF2 : Hid (w.heap.size ≤ w7.heap.size) := Nat.le_trans (by have := HRr.out; omega) P7.out.fr.size
        rcases HE.out with ⟨hE0, hne⟩ | ⟨hE4, hno⟩
        · subst hE0
          go_wp2_with fail
          go_ret2
          obtain ⟨zs, h1, h2, h3, h4⟩ := M7.out
          rw [HPF.out, if_neg hne, h4]
          refine ⟨⟨_, rfl, zs, rfl, ?_, h3⟩, hF.out⟩
          rw [← h1, ← h2]
          exact Vl.own_zero O7.out
        · subst hE4
          go_wp2_with fail
          go_big_quiet (fail)
          go_wp2_with fail
          go_ret2
          obtain ⟨zs, h1, h2, h3, h4⟩ := M7.out
          rw [HPF.out, if_pos hno, h4]
          exact ⟨rfl, hF.out.trans ((Sy.below_drewN w7 _).mono hF2.out)⟩
    · have he0 : ((e : Int) == 0) = false := by rw [he]; cases c <;> rfl
      have HRc := hide hRc
      have HEc := hide he
      clear hRc he
      go_wp2_with fail
      go_big_quiet (fail)
      have P6 := hide (HO.out.pw.below (Sy.below_drewN wr nq))
      clear HO c0 c1 c2 f0 f1 f2
      generalize wr.drewN nq = W6 at *
      have HBd := hide (bad_any P6.out.pd E)
      go_wp2_with fail
      refine Calls.mono HBd.out ?_
      rintro z7 w7 ⟨rfl, hp7, hf7⟩
      rw [if_neg (by rw [HEc.out]; cases c <;> decide)] at hp7
      have P7 := hide (P6.out.then hp7 hf7)
      clear HBd hp7 hf7 P6
      obtain ⟨⟨c0, c1, c2⟩, f0, f1, f2⟩ := P7.out.pd.box.three
      have he1 : ((e : Int) != 0) = true := by rw [HEc.out]; cases c <;> rfl
      go_wp2_with fail
      go_big_quiet (fail)
      go_wp2_with fail
      go_ret2
      have hR : R0 = .error c := by
        rw [HPF.out, HRc.out]
        split <;> rfl
      rw [hR]
      refine ⟨by rw [HEc.out]; cases c <;> rfl, ?_⟩
      have hF : Below w.heap.size W0 w7 := P7.out.fr.below (fun k hk => by rw [hk]; exact HRr.out) (by have := HRr.out; omega)
      exact (HBW.out.trans hF).trans ((Sy.below_drewN w7 _).mono (Nat.le_trans (by have := HRr.out; omega) P7.out.fr.size))
end Go.Proofs.YtcfhpodpkficaaaGreatDoor.Rp
namespace Go.Proofs.YtcfhpodpkficaaaGreatDoor.Rp
open Go.RowKit
open Lx (Wd tx bs scanAt)
open Vl (Tm Fr)
open Sy

theorem eqRules_nil (w : World) : Calls Tryz.prog 11 #[.slice none 0 0, .slice none 0 0] w fun e w' => e = .returned (.bool true) ∧ Below w.heap.size w w' :=
  eqRules_same (ls := []) ⟨[], rfl, ⟨by simp [cellsRz], .inl ⟨rfl, rfl⟩⟩, by simp⟩ ⟨[], rfl, ⟨by simp [cellsRz], .inl ⟨rfl, rfl⟩⟩, by simp⟩

set_option maxRecDepth 10000 in
set_option maxHeartbeats 4000000 in
theorem program_law (s : ByteArray) (w : World) (h : Tabs w) :
    Calls Tryz.prog 3 #[.string s] w fun e w' => e = .returned (.bool true) ∧ Below w.heap.size w w' := by
  have HBg := hide (begun_any w h)
  have H := hide h
  have hcs := Lx.cutS_size s 1500
  have HC := hide (Lx.cutS_any s 1500)
  clear h
  go_enter Tryz.func3, Tryz.ntmps3
  go_wp2_with fail
  refine Calls.mono HBg.out ?_
  rintro e w1 ⟨rfl, hb1⟩
  have HB1 := hide hb1
  clear HBg hb1
  go_wp2_with fail
  refine Calls.mono (HC.out w1) ?_
  rintro e w2 ⟨rfl, hw2⟩
  have hw2' := hw2.symm
  subst hw2'
  clear hw2
  generalize Lx.cutS s 1500 = t at *
  have HA := hide (program_any t w1 (H.out.below HB1.out).lex (H.out.below HB1.out).syn (by omega))
  obtain ⟨R, hR⟩ : ∃ R, Hid (progL 30 (wordsL (bs t)) = R) := ⟨_, rfl⟩
  have HD : Hid (∀ W, Calls Tryz.prog 10 #[.string t] W fun e w' => Pg (progL 30 (wordsL (bs t))) W e w') := fun W => rprogram_any t W (by omega)
  rw [hR.out] at HA HD
  clear hR HC
  go_wp2_with fail
  refine Calls.mono HA.out ?_
  rintro e w3 ⟨hz, hb3⟩
  have HB3 := hide (HB1.out.trans (hb3.mono HB1.out.size))
  have HDD := hide (HD.out w3)
  cases R with
  | error c =>
    obtain rfl := hz
    have HE := hide eqRules_nil
    clear HA hb3
    cases c
    all_goals simp only [Bool.false_eq_true, if_false, if_true] at HDD ⊢
    all_goals go_wp2_with fail
    all_goals refine Calls.mono HDD.out ?_
    all_goals rintro e w4 ⟨he4, hb4⟩
    all_goals simp only [Bool.false_eq_true, if_false, if_true] at he4
    all_goals subst he4
    all_goals have HB4 := hide (HB3.out.trans (hb4.mono HB3.out.size))
    all_goals clear hb4
    all_goals go_wp2_with fail
    all_goals refine Calls.mono (HE.out w4) ?_
    all_goals rintro e w5 ⟨rfl, hb5⟩
    all_goals have HB5 := hide (HB4.out.trans (hb5.mono HB4.out.size))
    all_goals go_wp2_with fail
    all_goals go_ret
    all_goals exact ⟨rfl, HB5.out⟩
  | ok l =>
    obtain ⟨y, rfl, hy⟩ := hz
    obtain ⟨ao, cap, rfl⟩ := isRs_shape hy
    have HY := hide hy
    clear hy HA hb3
    go_wp2_with fail
    refine Calls.mono HDD.out ?_
    rintro e w4 ⟨⟨y', rfl, hy'⟩, hb4⟩
    obtain ⟨ao', cap', rfl⟩ := isRs_shape hy'
    have HB4 := hide (HB3.out.trans (hb4.mono HB3.out.size))
    have HE := hide (eqRules_same (isRs_below HY.out hb4) hy')
    clear hy' hb4
    go_wp2_with fail
    refine Calls.mono HE.out ?_
    rintro e w5 ⟨rfl, hb5⟩
    have HB5 := hide (HB4.out.trans (hb5.mono HB4.out.size))
    go_wp2_with fail
    go_ret
    exact ⟨rfl, HB5.out⟩
end Go.Proofs.YtcfhpodpkficaaaGreatDoor.Rp

/- The walk of literal. Rows of literals; the walk of the list of literals. The walk of clause. The walks of words (where there is no fault), open and Program. -/
import Derived.Test.YtienpejlfjhnmaaPart07
namespace Go.Proofs.Ytienpejlfjhnmaa.Sy
open Go.RowKit
open Lx (Wd tx cellsW wpList_append_run)
open Vl (Tm Fr)

theorem isTs_below {w w' : World} {ts : List Tm} {y : Value} (h : isTs w ts y) (hb : Below w.heap.size w w') : isTs w' ts y := Lx.own_below h hb
def notR : Re Lit → Re Lit
  | .error e => .error e
  | .ok (l, r) => .ok ((2, l.2), r)
theorem mk_func (fn : Fn) (first cap : Array Value) (w : World) : (Instr.makeFunc fn first cap).run Try.prog w = .ok (.func fn first cap) w := rfl

end Go.Proofs.Ytienpejlfjhnmaa.Sy
namespace Go.Proofs.Ytienpejlfjhnmaa.Sy
open Go.RowKit
open Lx (Wd tx cellsW wpList_append_run)
open Vl (Tm Fr)

def cellsLz (zs : List (Lit × Value)) : List Value := zs.flatMap fun z => [.int .i64 z.1.1, .string z.1.2.1, z.2]
theorem cellsLz_snoc (zs : List (Lit × Value)) (z : Lit × Value) : cellsLz (zs ++ [z]) = cellsLz zs ++ [.int .i64 z.1.1, .string z.1.2.1, z.2] := by simp [cellsLz]
/-- A row of literals. -/
def isLs (w : World) (ls : List Lit) (y : Value) : Prop := ∃ zs : List (Lit × Value), zs.map (·.1) = ls ∧ w.ownsRow 0 29 3 y zs.length (cellsLz zs) ∧ ∀ z ∈ zs, isTs w z.1.2.2 z.2
theorem isLs_nil (w : World) : isLs w [] (.slice none 0 0) := ⟨[], rfl, ⟨by simp [cellsLz], .inl ⟨rfl, rfl⟩⟩, by simp⟩
theorem isLs_below {w w' : World} {ls : List Lit} {y : Value} (ht : isLs w ls y) (hb : Below w.heap.size w w') : isLs w' ls y := by
  obtain ⟨zs, h1, h2, h3⟩ := ht
  exact ⟨zs, h1, Lx.own_below h2 hb, fun z hz => isTs_below (h3 z hz) hb⟩
theorem isTs_grow {W W' : World} {ts : List Tm} {y : Value} (h : isTs W ts y) {b e s n : Nat} {u : Value} {xs : List Value} (ho : W.ownsRow b e s u n xs) (he : e ≠ 46) (hf : Fr (fun k => u.ownBlock = some k) W W') : isTs W' ts y :=
  Vl.own_kept h hf fun _ hk hk2 => Vl.own_ne ho h he hk2 hk
theorem isTs_one {w : World} {ts : List Tm} {y : Value} (h : isTs w ts y) : y.oneCell' = true := Vl.own_one h

end Go.Proofs.Ytienpejlfjhnmaa.Sy
namespace Go.Proofs.Ytienpejlfjhnmaa.Sy
open Go.RowKit
open Lx (Wd tx cellsW wpList_append_run)
open Vl (Tm Fr)

/-- A rule as a value. -/
def isRul (w : World) (q : Rul) (y : Value) : Prop := ∃ va vb, y = .agg #[.int .i64 q.1.1, .string q.1.2.1, va, vb] ∧ isTs w q.1.2.2 va ∧ isLs w q.2 vb
def rulz : Value := .agg #[.int .i64 0, .string ⟨#[]⟩, .slice none 0 0, .slice none 0 0]
theorem sz36 : (Try.prog.info? 32).map (·.size) = some 4 := by kernel_rfl
theorem isLs_shape {w : World} {ls : List Lit} {y : Value} (h : isLs w ls y) : ∃ ao cap, y = .slice ao ls.length cap := by
  obtain ⟨zs, rfl, h2, _⟩ := h
  rw [List.length_map]
  exact (own_len h2).2

theorem Bx.four {w : World} {b : Nat} {T : TypeId} {x y z u : Value} (h : Bx w b T #[x, y, z, u]) : (w.cell? ⟨b, 0, none⟩ = some x ∧ w.cell? ⟨b, 1, none⟩ = some y ∧ w.cell? ⟨b, 2, none⟩ = some z ∧ w.cell? ⟨b, 3, none⟩ = some u) ∧ w.frozen? ⟨b, 0, none⟩ = false ∧ w.frozen? ⟨b, 1, none⟩ = false ∧ w.frozen? ⟨b, 2, none⟩ = false ∧ w.frozen? ⟨b, 3, none⟩ = false :=
  ⟨⟨h.c 0, h.c 1, h.c 2, h.c 3⟩, h.f 0, h.f 1, h.f 2, h.f 3⟩
theorem fr4 {w W : World} {r : Nat} (h : Fr (fun k => k = r) w W) (b : Nat) (hb : w.heap.size ≤ b) (x y z u : Value) : Fr (fun k => k = r) w ((((W.setCell ⟨b, 0, none⟩ x).setCell ⟨b, 1, none⟩ y).setCell ⟨b, 2, none⟩ z).setCell ⟨b, 3, none⟩ u) :=
  (fr3 h b hb x y z).setCell (p := ⟨b, 3, none⟩) (fun h => absurd h (by show ¬ b < _; omega)) u
theorem isTs_put4 {W : World} {ts : List Tm} {y : Value} (h : isTs W ts y) {b : Nat} {T : TypeId} {cs : Array Value} (hb : Bx W b T cs) (hT : T ≠ 46) (x0 x1 x2 x3 : Value) : isTs ((((W.setCell ⟨b, 0, none⟩ x0).setCell ⟨b, 1, none⟩ x1).setCell ⟨b, 2, none⟩ x2).setCell ⟨b, 3, none⟩ x3) ts y :=
  isTs_put (isTs_put3 h hb hT x0 x1 x2) (((hb.set 0 x0).set 1 x1).set 2 x2) hT 3 x3
theorem own_put {W : World} {p e s n : Nat} {y : Value} {xs : List Value} (h : W.ownsRow p e s y n xs) {b : Nat} {T : TypeId} {cs : Array Value} (hb : Bx W b T cs) (hT : T ≠ e) (i : Nat) (x : Value) : (W.setCell ⟨b, i, none⟩ x).ownsRow p e s y n xs := by
  refine Vl.own_kept h (Vl.Fr.one W b i x) ?_
  intro k hk e
  subst e
  rcases h.2 with ⟨rfl, _⟩ | ⟨g, cap, cur, rfl, _, hg, _⟩
  · simp [Value.ownBlock] at hk
  · simp [Value.ownBlock] at hk
    subst hk
    have := hb.symm.trans hg
    simp only [Option.some.injEq, Obj.cells.injEq] at this
    exact hT this.2.1
theorem isLs_put {W : World} {ls : List Lit} {y : Value} (h : isLs W ls y) {b : Nat} {T : TypeId} {cs : Array Value} (hb : Bx W b T cs) (hT : T ≠ 46) (hT2 : T ≠ 29) (i : Nat) (x : Value) : isLs (W.setCell ⟨b, i, none⟩ x) ls y := by
  obtain ⟨zs, h1, h2, h3⟩ := h
  exact ⟨zs, h1, own_put h2 hb hT2 i x, fun z hz => isTs_put (h3 z hz) hb hT i x⟩
theorem isLs_put4 {W : World} {ls : List Lit} {y : Value} (h : isLs W ls y) {b : Nat} {T : TypeId} {cs : Array Value} (hb : Bx W b T cs) (hT : T ≠ 46) (hT2 : T ≠ 29) (x0 x1 x2 x3 : Value) : isLs ((((W.setCell ⟨b, 0, none⟩ x0).setCell ⟨b, 1, none⟩ x1).setCell ⟨b, 2, none⟩ x2).setCell ⟨b, 3, none⟩ x3) ls y :=
  isLs_put (isLs_put (isLs_put (isLs_put h hb hT hT2 0 x0) (hb.set 0 x0) hT hT2 1 x1) ((hb.set 0 x0).set 1 x1) hT hT2 2 x2) (((hb.set 0 x0).set 1 x1).set 2 x2) hT hT2 3 x3

/-- A clause's end, behind its head and its body. -/
def endR (h : Lit) (b : List Lit) (t : List Wd) : Re Rul := if takeB [46] t = true then .ok ((h, b), takeR [46] t) else .error false
def bodyR (h : Lit) : Re (List Lit) → Re Rul
  | .error e => .error e
  | .ok (b, r) => endR h b r
theorem clauseL_eq (ws : List Wd) : clauseL ws = (match atomL termW ws with
    | .error e => .error e
    | .ok (h, t) => if takeB [58, 45] t = true then bodyR h (listL litL 6 (takeR [58, 45] t)) else endR h [] (takeR [58, 45] t)) := by
  rw [clauseL]
  cases atomL termW ws with
  | error e => rfl
  | ok p =>
    obtain ⟨h, t⟩ := p
    simp only []
    cases hb : takeB [58, 45] t
    · simp only [takeR, hb, Bool.false_eq_true, if_false, endR]
      split <;> simp_all
    · simp only [takeR, hb, if_true]
      cases listL litL 6 t.tail with
      | error e => rfl
      | ok q =>
        obtain ⟨b, r⟩ := q
        simp only [bodyR, endR, takeR]
        split <;> simp_all

end Go.Proofs.Ytienpejlfjhnmaa.Sy
namespace Go.Proofs.Ytienpejlfjhnmaa.Sy
open Go.RowKit
open Lx (Wd tx cellsW wpList_append_run bs scanAt Sg)
open Vl (Tm Fr)

def cellsRz (zs : List (Rul × Value × Value)) : List Value := zs.flatMap fun z => [.int .i64 z.1.1.1, .string z.1.1.2.1, z.2.1, z.2.2]
theorem cellsRz_snoc (zs : List (Rul × Value × Value)) (z : Rul × Value × Value) : cellsRz (zs ++ [z]) = cellsRz zs ++ [.int .i64 z.1.1.1, .string z.1.1.2.1, z.2.1, z.2.2] := by simp [cellsRz]
/-- A row of rules. -/
def isRs (w : World) (ls : List Rul) (y : Value) : Prop := ∃ zs : List (Rul × Value × Value), zs.map (·.1) = ls ∧ w.ownsRow 0 32 4 y zs.length (cellsRz zs) ∧ ∀ z ∈ zs, isTs w z.1.1.2.2 z.2.1 ∧ isLs w z.1.2 z.2.2
theorem isRs_below {w w' : World} {ls : List Rul} {y : Value} (ht : isRs w ls y) (hb : Below w.heap.size w w') : isRs w' ls y := by
  obtain ⟨zs, h1, h2, h3⟩ := ht
  exact ⟨zs, h1, Lx.own_below h2 hb, fun z hz => ⟨isTs_below (h3 z hz).1 hb, isLs_below (h3 z hz).2 hb⟩⟩
theorem isLs_grow {W W' : World} {ls : List Lit} {y : Value} (h : isLs W ls y) {b e s n : Nat} {u : Value} {xs : List Value} (ho : W.ownsRow b e s u n xs) (he : e ≠ 46) (he2 : e ≠ 29) (hf : Fr (fun k => u.ownBlock = some k) W W') : isLs W' ls y := by
  obtain ⟨zs, h1, h2, h3⟩ := h
  exact ⟨zs, h1, Vl.own_kept h2 hf fun _ hk hk2 => Vl.own_ne ho h2 he2 hk2 hk, fun z hz => isTs_grow (h3 z hz) ho he hf⟩

def joinP (acc : List Rul) : Except Bool (List Rul) → Except Bool (List Rul)
  | .error e => .error e
  | .ok l => .ok (acc ++ l)
theorem joinP_nil (R : Except Bool (List Rul)) : joinP [] R = R := by cases R <;> rfl
theorem progL_err {n : Nat} {ws : List Wd} {e : Bool} (hw : ws ≠ []) (h : clauseL ws = .error e) : progL n ws = .error e := by
  obtain ⟨x, t, rfl⟩ := List.exists_cons_of_ne_nil hw
  cases n <;> simp [progL, h]
theorem progL_zero {ws : List Wd} {p : Rul × List Wd} (hw : ws ≠ []) (h : clauseL ws = .ok p) : progL 0 ws = .error true := by
  obtain ⟨x, t, rfl⟩ := List.exists_cons_of_ne_nil hw
  simp [progL, h]
theorem progL_more {n : Nat} {ws : List Wd} {c : Rul} {r : List Wd} (hw : ws ≠ []) (h : clauseL ws = .ok (c, r)) : progL (n + 1) ws = joinP [c] (progL n r) := by
  obtain ⟨x, t, rfl⟩ := List.exists_cons_of_ne_nil hw
  simp only [progL, h]
  cases progL n r <;> rfl
theorem progL_nil (n : Nat) : progL n [] = .ok [] := by cases n <;> rfl
theorem joinP_joinP (a b : List Rul) (R : Except Bool (List Rul)) : joinP a (joinP b R) = joinP (a ++ b) R := by
  cases R with
  | error e => rfl
  | ok p => simp [joinP]

/-- What Program gives of words. -/
def Pg (R : Except Bool (List Rul)) (w : World) (e : Ending) (w' : World) : Prop :=
  (match R with
  | .error c => e = .returned (.tuple #[.slice none 0 0, .int .i64 (if c = true then 8 else 4)])
  | .ok l => ∃ y, e = .returned (.tuple #[y, .int .i64 0]) ∧ isRs w' l y) ∧ Below w.heap.size w w'

end Go.Proofs.Ytienpejlfjhnmaa.Sy

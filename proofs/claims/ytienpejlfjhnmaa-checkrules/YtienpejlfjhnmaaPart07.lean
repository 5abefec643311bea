/- The walk of atom. The table of the comparisons' signs; the walks of kindOf and signOf. The walks of comparedNext and comparison. The walk of comparison. -/
import Derived.Test.YtienpejlfjhnmaaPart06
import Derived.LoopN
namespace Go.Proofs.Ytienpejlfjhnmaa.Sy
open Go.RowKit
open Lx (Wd tx cellsW wpList_append_run)
open Vl (Tm Fr)

/-- A literal as a value. -/
def isLit (w : World) (l : Lit) (y : Value) : Prop := ∃ va, y = .agg #[.int .i64 l.1, .string l.2.1, va] ∧ isTs w l.2.2 va
def litz : Value := .agg #[.int .i64 0, .string ⟨#[]⟩, .slice none 0 0]
theorem isTs_nil (w : World) : isTs w [] (.slice none 0 0) := ⟨by simp [Vl.cellsT], .inl ⟨rfl, rfl⟩⟩
theorem fr3 {w W : World} {r : Nat} (h : Fr (fun k => k = r) w W) (b : Nat) (hb : w.heap.size ≤ b) (x y z : Value) : Fr (fun k => k = r) w (((W.setCell ⟨b, 0, none⟩ x).setCell ⟨b, 1, none⟩ y).setCell ⟨b, 2, none⟩ z) :=
  (((h.setCell (p := ⟨b, 0, none⟩) (fun h => absurd h (by show ¬ b < _; omega)) x).setCell (p := ⟨b, 1, none⟩) (fun h => absurd h (by show ¬ b < _; omega)) y).setCell (p := ⟨b, 2, none⟩) (fun h => absurd h (by show ¬ b < _; omega)) z)

/-- A row of another type is not touched by a store. -/
theorem isTs_put {W : World} {ts : List Tm} {y : Value} (h : isTs W ts y) {b : Nat} {T : TypeId} {cs : Array Value} (hb : Bx W b T cs) (hT : T ≠ 46) (i : Nat) (x : Value) : isTs (W.setCell ⟨b, i, none⟩ x) ts y := by
  refine Vl.own_kept h (Vl.Fr.one W b i x) ?_
  intro k hk e
  subst e
  rcases h.2 with ⟨rfl, _⟩ | ⟨g, cap, cur, rfl, _, hg, _⟩
  · simp [Value.ownBlock] at hk
  · simp [Value.ownBlock] at hk
    subst hk
    have := hb.symm.trans hg
    simp only [Option.some.injEq, Obj.cells.injEq] at this
    exact hT this.2.1
theorem isTs_put3 {W : World} {ts : List Tm} {y : Value} (h : isTs W ts y) {b : Nat} {T : TypeId} {cs : Array Value} (hb : Bx W b T cs) (hT : T ≠ 46) (x0 x1 x2 : Value) : isTs (((W.setCell ⟨b, 0, none⟩ x0).setCell ⟨b, 1, none⟩ x1).setCell ⟨b, 2, none⟩ x2) ts y :=
  isTs_put (isTs_put (isTs_put h hb hT 0 x0) (hb.set 0 x0) hT 1 x1) ((hb.set 0 x0).set 1 x1) hT 2 x2

end Go.Proofs.Ytienpejlfjhnmaa.Sy
namespace Go.Proofs.Ytienpejlfjhnmaa.Sy
open Go.RowKit
open Lx (Wd tx)

def sgs : List Value := [.string ⟨#[61]⟩, .int .i64 3, .string ⟨#[33, 61]⟩, .int .i64 4, .string ⟨#[60]⟩, .int .i64 5, .string ⟨#[60, 61]⟩, .int .i64 6]
/-- The table of signs, as it lies in memory. -/
def Tb (w : World) : Prop := ∀ i, i < 8 → w.cell? ⟨0, i, none⟩ = sgs[i]?
theorem Tb.below {w w' : World} (h : Tb w) (hb : Below w.heap.size w w') : Tb w' := fun i hi =>
  (World.cell?_of_block (w := w) (a := ⟨0, i, none⟩) (hb.block 0 (World.block_lt_of_cell? w ⟨0, i, none⟩ (u := sgs[i]) (by rw [h i hi]; exact List.getElem?_eq_getElem (show i < sgs.length from hi))))).trans (h i hi)
theorem Tb.cells {w : World} (h : Tb w) : w.cell? ⟨0, 0, none⟩ = some (.string ⟨#[61]⟩) ∧ w.cell? ⟨0, 1, none⟩ = some (.int .i64 3) ∧ w.cell? ⟨0, 2, none⟩ = some (.string ⟨#[33, 61]⟩) ∧ w.cell? ⟨0, 3, none⟩ = some (.int .i64 4) ∧ w.cell? ⟨0, 4, none⟩ = some (.string ⟨#[60]⟩) ∧ w.cell? ⟨0, 5, none⟩ = some (.int .i64 5) ∧ w.cell? ⟨0, 6, none⟩ = some (.string ⟨#[60, 61]⟩) ∧ w.cell? ⟨0, 7, none⟩ = some (.int .i64 6) :=
  ⟨h 0 (by decide), h 1 (by decide), h 2 (by decide), h 3 (by decide), h 4 (by decide), h 5 (by decide), h 6 (by decide), h 7 (by decide)⟩

theorem eqb (s x : List UInt8) : (s == (tx x).toList) = decide (x = s) := by
  rw [Bool.eq_iff_iff]
  simp [Lib.toList_data, tx]
  exact eq_comm
theorem eqb_t {s x : List UInt8} (h : x = s) : (s == (tx x).toList) = true := by rw [eqb]; simpa using h
theorem eqb_f {s x : List UInt8} (h : ¬ x = s) : (s == (tx x).toList) = false := by rw [eqb]; simpa using h
theorem below1 (w : World) (o : Obj) : Below w.heap.size w (w.alloc o) := Lx.below_box w o
theorem below2 (w : World) (o p : Obj) : Below w.heap.size w ((w.alloc o).alloc p) := (below1 w o).trans ((below1 _ p).mono (by simp))
theorem below3 (w : World) (o p q : Obj) : Below w.heap.size w (((w.alloc o).alloc p).alloc q) := (below2 w o p).trans ((below1 _ q).mono (by simp; omega))
theorem below4 (w : World) (o p q s : Obj) : Below w.heap.size w ((((w.alloc o).alloc p).alloc q).alloc s) := (below3 w o p q).trans ((below1 _ s).mono (by simp; omega))

end Go.Proofs.Ytienpejlfjhnmaa.Sy
namespace Go.Proofs.Ytienpejlfjhnmaa.Sy
open Go.RowKit
open Lx (Wd tx cellsW wpList_append_run)
open Vl (Tm Fr)

end Go.Proofs.Ytienpejlfjhnmaa.Sy
namespace Go.Proofs.Ytienpejlfjhnmaa.Sy
open Go.RowKit
open Lx (Wd tx cellsW wpList_append_run)
open Vl (Tm Fr)

theorem two_terms (W : World) (s t : Tm) : isTs (W.alloc (.cells #[.int .i64 s.1, .string s.2.1, .int .i64 s.2.2, .int .i64 t.1, .string t.2.1, .int .i64 t.2.2] 46)) [s, t] (.slice (some ⟨W.heap.size, 0, none⟩) 2 2) :=
  ⟨by simp [Vl.cellsT], .inr ⟨W.heap.size, 2, _, rfl, Nat.zero_le _, heap_alloc_new _ _, Nat.le_refl _, by decide, rfl, rfl⟩⟩

end Go.Proofs.Ytienpejlfjhnmaa.Sy

/- The table of the comparisons' signs; the walks of kindOf and signOf. The walks of comparedNext and comparison. The walk of comparison. The walk of literal. Rows of literals; the walk of the list of literals. -/
import Derived.Test.YtdmhajeaphnebaaPart05
import Derived.LoopN
namespace Go.Proofs.Ytdmhajeaphnebaa.Sy
open Go.RowKit
open Lx (Wd tx)

def sgs : List Value := [.string ⟨#[61]⟩, .int .i64 3, .string ⟨#[33, 61]⟩, .int .i64 4, .string ⟨#[60]⟩, .int .i64 5, .string ⟨#[60, 61]⟩, .int .i64 6]
/-- The table of signs, as it lies in memory. -/
def Tb (w : World) : Prop := ∀ i, i < 8 → w.cell? ⟨0, i, none⟩ = sgs[i]?
theorem Tb.below {w w' : World} (h : Tb w) (hb : Below w.heap.size w w') : Tb w' := fun i hi =>
  (World.cell?_of_block (w := w) (a := ⟨0, i, none⟩) (hb.block 0 (World.block_lt_of_cell? w ⟨0, i, none⟩ (u := sgs[i]) (by rw [h i hi]; exact List.getElem?_eq_getElem (show i < sgs.length from hi))))).trans (h i hi)
theorem Tb.cells {w : World} (h : Tb w) : w.cell? ⟨0, 0, none⟩ = some (.string ⟨#[61]⟩) ∧ w.cell? ⟨0, 1, none⟩ = some (.int .i64 3) ∧ w.cell? ⟨0, 2, none⟩ = some (.string ⟨#[33, 61]⟩) ∧ w.cell? ⟨0, 3, none⟩ = some (.int .i64 4) ∧ w.cell? ⟨0, 4, none⟩ = some (.string ⟨#[60]⟩) ∧ w.cell? ⟨0, 5, none⟩ = some (.int .i64 5) ∧ w.cell? ⟨0, 6, none⟩ = some (.string ⟨#[60, 61]⟩) ∧ w.cell? ⟨0, 7, none⟩ = some (.int .i64 6) :=
  ⟨h 0 (by decide), h 1 (by decide), h 2 (by decide), h 3 (by decide), h 4 (by decide), h 5 (by decide), h 6 (by decide), h 7 (by decide)⟩

theorem eqb (s x : List UInt8) : (s == (tx x).toList) = decide (x = s) := by
  rw [Bool.eq_iff_iff]
  simp [Lib.toList_data, tx]
  exact eq_comm
theorem eqb_t {s x : List UInt8} (h : x = s) : (s == (tx x).toList) = true := by rw [eqb]; simpa using h
theorem eqb_f {s x : List UInt8} (h : ¬ x = s) : (s == (tx x).toList) = false := by rw [eqb]; simpa using h
theorem below1 (w : World) (o : Obj) : Below w.heap.size w (w.alloc o) := Lx.below_box w o
theorem below2 (w : World) (o p : Obj) : Below w.heap.size w ((w.alloc o).alloc p) := (below1 w o).trans ((below1 _ p).mono (by simp))
theorem below3 (w : World) (o p q : Obj) : Below w.heap.size w (((w.alloc o).alloc p).alloc q) := (below2 w o p).trans ((below1 _ q).mono (by simp; omega))
theorem below4 (w : World) (o p q s : Obj) : Below w.heap.size w ((((w.alloc o).alloc p).alloc q).alloc s) := (below3 w o p q).trans ((below1 _ s).mono (by simp; omega))

end Go.Proofs.Ytdmhajeaphnebaa.Sy
namespace Go.Proofs.Ytdmhajeaphnebaa.Sy
open Go.RowKit
open Lx (Wd tx cellsW wpList_append_run)
open Vl (Tm Fr)

end Go.Proofs.Ytdmhajeaphnebaa.Sy
namespace Go.Proofs.Ytdmhajeaphnebaa.Sy
open Go.RowKit
open Lx (Wd tx cellsW wpList_append_run)
open Vl (Tm Fr)

theorem two_terms (W : World) (s t : Tm) : isTs (W.alloc (.cells #[.int .i64 s.1, .string s.2.1, .int .i64 s.2.2, .int .i64 t.1, .string t.2.1, .int .i64 t.2.2] 88)) [s, t] (.slice (some ⟨W.heap.size, 0, none⟩) 2 2) :=
  ⟨by simp [Vl.cellsT], .inr ⟨W.heap.size, 2, _, rfl, Nat.zero_le _, heap_alloc_new _ _, Nat.le_refl _, by decide, rfl, rfl⟩⟩

end Go.Proofs.Ytdmhajeaphnebaa.Sy
namespace Go.Proofs.Ytdmhajeaphnebaa.Sy
open Go.RowKit
open Lx (Wd tx cellsW wpList_append_run)
open Vl (Tm Fr)

theorem isTs_below {w w' : World} {ts : List Tm} {y : Value} (h : isTs w ts y) (hb : Below w.heap.size w w') : isTs w' ts y := Lx.own_below h hb
def notR : Re Lit → Re Lit
  | .error e => .error e
  | .ok (l, r) => .ok ((2, l.2), r)
theorem mk_func (fn : Fn) (first cap : Array Value) (w : World) : (Instr.makeFunc fn first cap).run Try.prog w = .ok (.func fn first cap) w := rfl

end Go.Proofs.Ytdmhajeaphnebaa.Sy
namespace Go.Proofs.Ytdmhajeaphnebaa.Sy
open Go.RowKit
open Lx (Wd tx cellsW wpList_append_run)
open Vl (Tm Fr)

def cellsLz (zs : List (Lit × Value)) : List Value := zs.flatMap fun z => [.int .i64 z.1.1, .string z.1.2.1, z.2]
theorem cellsLz_snoc (zs : List (Lit × Value)) (z : Lit × Value) : cellsLz (zs ++ [z]) = cellsLz zs ++ [.int .i64 z.1.1, .string z.1.2.1, z.2] := by simp [cellsLz]
/-- A row of literals. -/
def isLs (w : World) (ls : List Lit) (y : Value) : Prop := ∃ zs : List (Lit × Value), zs.map (·.1) = ls ∧ w.ownsRow 0 57 3 y zs.length (cellsLz zs) ∧ ∀ z ∈ zs, isTs w z.1.2.2 z.2
theorem isLs_nil (w : World) : isLs w [] (.slice none 0 0) := ⟨[], rfl, ⟨by simp [cellsLz], .inl ⟨rfl, rfl⟩⟩, by simp⟩
theorem isLs_below {w w' : World} {ls : List Lit} {y : Value} (ht : isLs w ls y) (hb : Below w.heap.size w w') : isLs w' ls y := by
  obtain ⟨zs, h1, h2, h3⟩ := ht
  exact ⟨zs, h1, Lx.own_below h2 hb, fun z hz => isTs_below (h3 z hz) hb⟩
theorem isTs_grow {W W' : World} {ts : List Tm} {y : Value} (h : isTs W ts y) {b e s n : Nat} {u : Value} {xs : List Value} (ho : W.ownsRow b e s u n xs) (he : e ≠ 88) (hf : Fr (fun k => u.ownBlock = some k) W W') : isTs W' ts y :=
  Vl.own_kept h hf fun _ hk hk2 => Vl.own_ne ho h he hk2 hk
theorem isTs_one {w : World} {ts : List Tm} {y : Value} (h : isTs w ts y) : y.oneCell' = true := Vl.own_one h

end Go.Proofs.Ytdmhajeaphnebaa.Sy

/- A log in memory: its records' row, their bytes. -/
import Derived.Test.YtnbdkojdddplkaaDoorDkErrs
import Derived.Test.YtnbdkojdddplkaaDoorDkErrs2
import Derived.Test.YtnbdkojdddplkaaDoorDkSync
import Derived.Test.YtnbdkojdddplkaaDoorDkCrash3
import Derived.Test.YtnbdkojdddplkaaDoorDkNamesOf
import Derived.Test.YtnbdkojdddplkaaDoorBnWriter
import Derived.Test.YtnbdkojdddplkaaDoorFrScan
import Derived.BigQuiet
namespace Go.Proofs.YtnbdkojdddplkaaDoor.Wl
open Go.RowKit Dk

/-- A record's bytes in the file. -/
def recB (n : Int) (b : List UInt8) : List UInt8 := Fr.sealL (Bn.enc n ++ (Bn.enc (b.length : Int) ++ b))
/-- The file of records from a number on. -/
def fileB (n : Int) : List (List UInt8) → List UInt8
  | [] => []
  | b :: r => recB n b ++ fileB (n + 1) r
theorem fileB_append (n : Int) : ∀ (a b : List (List UInt8)), fileB n (a ++ b) = fileB n a ++ fileB (n + a.length) b
  | [], b => by simp [fileB]
  | x :: a, b => by
    rw [List.cons_append, fileB, fileB, fileB_append (n + 1) a b, List.append_assoc]
    congr 3
    simp
    omega

/-- A record in memory. -/
structure Re where
  dv : Value
  data : List UInt8
  fin : Nat
def Re.cells (r : Re) : List Value := [r.dv, .int .i64 (r.fin : Int)]
def cellsK (rs : List Re) : List Value := rs.flatMap Re.cells
theorem cellsK_len : ∀ zs : List Re, (cellsK zs).length = zs.length * 2
  | [] => rfl
  | z :: r => by
    have := cellsK_len r
    simp [cellsK, Re.cells] at this ⊢
    omega
theorem cellsK_append (a b : List Re) : cellsK (a ++ b) = cellsK a ++ cellsK b := by simp [cellsK]
theorem cellsK_cons (z : Re) (b : List Re) : cellsK (z :: b) = z.dv :: .int .i64 (z.fin : Int) :: cellsK b := by simp [cellsK, Re.cells]
theorem cellsK_at (l : List Re) (z : Re) (r : List Re) : (cellsK (l ++ z :: r))[l.length * 2]? = some z.dv ∧ (cellsK (l ++ z :: r))[l.length * 2 + 1]? = some (.int .i64 (z.fin : Int)) := by
  rw [cellsK_append, cellsK_cons]
  have h := cellsK_len l
  constructor
  · rw [List.getElem?_append_right (by omega), h]; simp
  · rw [List.getElem?_append_right (by omega), h, Nat.add_sub_cancel_left]; rfl
theorem cellsK_get (zs : List Re) (i : Nat) (h : i < zs.length) : (cellsK zs)[i * 2]? = some zs[i].dv ∧ (cellsK zs)[i * 2 + 1]? = some (.int .i64 (zs[i].fin : Int)) := by
  have e : zs = zs.take i ++ zs[i] :: zs.drop (i + 1) := by simp
  have hl : (zs.take i).length = i := by simp; omega
  have := cellsK_at (zs.take i) zs[i] (zs.drop (i + 1))
  rw [← e, hl] at this
  exact this

/-- A log in memory: at p, over the disk at pd, its row and its bytes in G. -/
structure Lg (w : World) (p pd : Nat) (first : Int) (vr : Value) (rs : List Re) (G : Nat → Prop) : Prop where
  heap : w.heap[p]? = some (.cells #[.pointer (some ⟨pd, 0, none⟩), .int .i64 first, vr] 65 (0, 0))
  row : w.ownsRow 0 82 2 vr rs.length (cellsK rs)
  data : ∀ r ∈ rs, SlA w r.dv r.data (fun k => ¬ G k)
  away : ∀ r ∈ rs, ∀ a n c, r.dv = .slice (some a) n c → vr.ownBlock ≠ some a.block
  rowIn : ∀ k, vr.ownBlock = some k → G k
  lt : ∀ k, G k → k < w.heap.size
  np : ¬ G p
  fins : ∀ i (hi : i < rs.length), rs[i].fin = (fileB first ((rs.map Re.data).take (i + 1))).length
  zero : rs = [] → first = 0
  fit : 0 ≤ first ∧ first + rs.length ≤ 9223372036854775808
theorem Lg.plt {w : World} {p pd : Nat} {first : Int} {vr : Value} {rs : List Re} {G : Nat → Prop} (h : Lg w p pd first vr rs G) : p < w.heap.size := (Array.getElem?_eq_some_iff.1 h.heap).1
theorem Lg.cells {w : World} {p pd : Nat} {first : Int} {vr : Value} {rs : List Re} {G : Nat → Prop} (h : Lg w p pd first vr rs G) :
    w.cell? ⟨p, 0, none⟩ = some (.pointer (some ⟨pd, 0, none⟩)) ∧ w.cell? ⟨p, 1, none⟩ = some (.int .i64 first) ∧ w.cell? ⟨p, 2, none⟩ = some vr ∧ ∀ j, w.frozen? ⟨p, j, none⟩ = false := by
  refine ⟨?_, ?_, ?_, fun j => by simp [World.frozen?, h.heap]⟩
  · rw [cell_of_row w p 0 _ _ _ h.heap]; rfl
  · rw [cell_of_row w p 1 _ _ _ h.heap]; rfl
  · rw [cell_of_row w p 2 _ _ _ h.heap]; rfl
theorem Lg.kept {w w' : World} {p pd : Nat} {first : Int} {vr : Value} {rs : List Re} {G H : Nat → Prop} (h : Lg w p pd first vr rs G) (hf : Fr H w w') (hd : ∀ k, G k → ¬ H k) (hp : ¬ H p) : Lg w' p pd first vr rs G :=
  ⟨(hf.block p h.plt hp).trans h.heap, own_kept h.row hf fun k hk => hd k (h.rowIn k hk), fun r hr => (h.data r hr).kept (hf.mono fun k _ hH hG => hd k hG hH), h.away, h.rowIn, fun k hk => Nat.lt_of_lt_of_le (h.lt k hk) hf.size, h.np, h.fins, h.zero, h.fit⟩
theorem Lg.below {w w' : World} {p pd : Nat} {first : Int} {vr : Value} {rs : List Re} {G : Nat → Prop} (h : Lg w p pd first vr rs G) (hb : Below w.heap.size w w') : Lg w' p pd first vr rs G := h.kept (H := fun _ => False) (Fr.of_below hb) (fun _ _ => id) id
theorem Lg.shape {w : World} {p pd : Nat} {first : Int} {vr : Value} {rs : List Re} {G : Nat → Prop} (h : Lg w p pd first vr rs G) : ∃ ao cap, vr = .slice ao rs.length cap ∧ (0 < rs.length → ∃ g, ao = some ⟨g, 0, none⟩) := by
  rcases own_shape h.row with ⟨rfl, e⟩ | ⟨g, cap, rfl, _⟩
  · exact ⟨none, 0, by rw [e], fun h => by omega⟩
  · exact ⟨_, _, rfl, fun _ => ⟨g, rfl⟩⟩
theorem Lg.cell {w : World} {p pd g cap n : Nat} {first : Int} {rs : List Re} {G : Nat → Prop} (h : Lg w p pd first (.slice (some ⟨g, 0, none⟩) n cap) rs G) (i : Nat) (hi : i < rs.length) :
    w.cell? ⟨g, i * 2, none⟩ = some rs[i].dv ∧ w.cell? ⟨g, i * 2 + 1, none⟩ = some (.int .i64 (rs[i].fin : Int)) := by
  rcases own_shape h.row with ⟨hn, _⟩ | ⟨g', cap', e, _⟩
  · simp at hn
  · have hr := h.row
    rw [e] at hr
    simp only [Value.slice.injEq, Option.some.injEq, Addr.mk.injEq, and_true] at e
    obtain ⟨rfl, rfl, rfl⟩ := e
    have hc := cellsK_get rs i hi
    exact ⟨by rw [hr.cellAt _ (by omega)]; exact hc.1, by rw [hr.cellAt _ (by omega)]; exact hc.2⟩
/-- The last number. -/
def lastN (first : Int) (rs : List Re) : Int := if rs.length = 0 then 0 else first + rs.length - 1

set_option maxHeartbeats 400000 in
theorem first_any (p pd : Nat) (first : Int) (vr : Value) (rs : List Re) (G : Nat → Prop) (w : World) (h : Lg w p pd first vr rs G) :
    Calls Tryd.prog 26 #[.pointer (some ⟨p, 0, none⟩)] w fun e w' => e = .returned (.int .i64 first) ∧ w' = w := by
  have c1 := h.cells.2.1
  clear h
  go_enter Tryd.func26, Tryd.ntmps26
  go_wp2
  go_ret
  exact ⟨rfl, rfl⟩
set_option maxHeartbeats 1000000 in
theorem last_any (p pd : Nat) (first : Int) (vr : Value) (rs : List Re) (G : Nat → Prop) (w : World) (h : Lg w p pd first vr rs G) :
    Calls Tryd.prog 24 #[.pointer (some ⟨p, 0, none⟩)] w fun e w' => e = .returned (.int .i64 (lastN first rs)) ∧ ∃ m, w' = w.drewN m := by
  have c1 := h.cells.2.1
  have c2 := h.cells.2.2.1
  have hf := h.fit
  obtain ⟨ao, cap, rfl, _⟩ := h.shape
  unfold lastN
  clear h
  generalize rs.length = n at *
  by_cases hn : n = 0
  · subst hn
    go_enter Tryd.func24, Tryd.ntmps24
    go_wp2
    go_ret
    exact ⟨by simp, 0, rfl⟩
  · have hn' : ((n : Int) == 0) = false := by rw [beq_eq_false_iff_ne]; omega
    have hn1 : (1 : Int) ≤ (n : Int) := by omega
    rw [if_neg hn]
    go_enter Tryd.func24, Tryd.ntmps24
    go_wp2_with fail
    go_quiet (fail)
    go_wp2
    go_ret
    refine ⟨congrArg (fun b => Ending.returned (Value.int .i64 b)) ?_, _, rfl⟩
    omega
theorem first_nil (w : World) : Calls Tryd.prog 26 #[.pointer none] w fun e w' => e = .returned (.int .i64 0) ∧ w' = w := by
  go_enter Tryd.func26, Tryd.ntmps26
  go_wp2
  go_ret
  exact ⟨rfl, rfl⟩
theorem last_nil (w : World) : Calls Tryd.prog 24 #[.pointer none] w fun e w' => e = .returned (.int .i64 0) ∧ w' = w := by
  go_enter Tryd.func24, Tryd.ntmps24
  go_wp2
  go_ret
  exact ⟨rfl, rfl⟩
end Go.Proofs.YtnbdkojdddplkaaDoor.Wl

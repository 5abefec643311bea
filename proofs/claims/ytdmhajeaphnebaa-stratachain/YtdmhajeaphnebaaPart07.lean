/- The walk of clause. The walks of words (where there is no fault), open and Program. The walks of signOf, termText and literalText. The walk of Print. The walks of scans, good and its closure, sort.Search. -/
import Derived.Test.YtdmhajeaphnebaaPart06
import Derived.Deep.RegionHeld
namespace Go.Proofs.Ytdmhajeaphnebaa.Sy
open Go.RowKit
open Lx (Wd tx cellsW wpList_append_run)
open Vl (Tm Fr)

/-- A rule as a value. -/
def isRul (w : World) (q : Rul) (y : Value) : Prop := ∃ va vb, y = .agg #[.int .i64 q.1.1, .string q.1.2.1, va, vb] ∧ isTs w q.1.2.2 va ∧ isLs w q.2 vb
def rulz : Value := .agg #[.int .i64 0, .string ⟨#[]⟩, .slice none 0 0, .slice none 0 0]
theorem sz36 : (Try.prog.info? 60).map (·.size) = some 4 := by kernel_rfl
theorem isLs_shape {w : World} {ls : List Lit} {y : Value} (h : isLs w ls y) : ∃ ao cap, y = .slice ao ls.length cap := by
  obtain ⟨zs, rfl, h2, _⟩ := h
  rw [List.length_map]
  exact (own_len h2).2

theorem Bx.four {w : World} {b : Nat} {T : TypeId} {x y z u : Value} (h : Bx w b T #[x, y, z, u]) : (w.cell? ⟨b, 0, none⟩ = some x ∧ w.cell? ⟨b, 1, none⟩ = some y ∧ w.cell? ⟨b, 2, none⟩ = some z ∧ w.cell? ⟨b, 3, none⟩ = some u) ∧ w.frozen? ⟨b, 0, none⟩ = false ∧ w.frozen? ⟨b, 1, none⟩ = false ∧ w.frozen? ⟨b, 2, none⟩ = false ∧ w.frozen? ⟨b, 3, none⟩ = false :=
  ⟨⟨h.c 0, h.c 1, h.c 2, h.c 3⟩, h.f 0, h.f 1, h.f 2, h.f 3⟩
theorem fr4 {w W : World} {r : Nat} (h : Fr (fun k => k = r) w W) (b : Nat) (hb : w.heap.size ≤ b) (x y z u : Value) : Fr (fun k => k = r) w ((((W.setCell ⟨b, 0, none⟩ x).setCell ⟨b, 1, none⟩ y).setCell ⟨b, 2, none⟩ z).setCell ⟨b, 3, none⟩ u) :=
  (fr3 h b hb x y z).setCell (p := ⟨b, 3, none⟩) (fun h => absurd h (by show ¬ b < _; omega)) u
theorem isTs_put4 {W : World} {ts : List Tm} {y : Value} (h : isTs W ts y) {b : Nat} {T : TypeId} {cs : Array Value} (hb : Bx W b T cs) (hT : T ≠ 88) (x0 x1 x2 x3 : Value) : isTs ((((W.setCell ⟨b, 0, none⟩ x0).setCell ⟨b, 1, none⟩ x1).setCell ⟨b, 2, none⟩ x2).setCell ⟨b, 3, none⟩ x3) ts y :=
  isTs_put (isTs_put3 h hb hT x0 x1 x2) (((hb.set 0 x0).set 1 x1).set 2 x2) hT 3 x3
theorem own_put {W : World} {p e s n : Nat} {y : Value} {xs : List Value} (h : W.ownsRow p e s y n xs) {b : Nat} {T : TypeId} {cs : Array Value} (hb : Bx W b T cs) (hT : T ≠ e) (i : Nat) (x : Value) : (W.setCell ⟨b, i, none⟩ x).ownsRow p e s y n xs := by
  refine Vl.own_kept h (Vl.Fr.one W b i x) ?_
  intro k hk e
  subst e
  rcases h.2 with ⟨rfl, _⟩ | ⟨g, cap, cur, rfl, _, hg, _⟩
  · simp [Value.ownBlock] at hk
  · simp [Value.ownBlock] at hk
    subst hk
    have := hb.symm.trans hg
    simp only [Option.some.injEq, Obj.cells.injEq] at this
    exact hT this.2.1
theorem isLs_put {W : World} {ls : List Lit} {y : Value} (h : isLs W ls y) {b : Nat} {T : TypeId} {cs : Array Value} (hb : Bx W b T cs) (hT : T ≠ 88) (hT2 : T ≠ 57) (i : Nat) (x : Value) : isLs (W.setCell ⟨b, i, none⟩ x) ls y := by
  obtain ⟨zs, h1, h2, h3⟩ := h
  exact ⟨zs, h1, own_put h2 hb hT2 i x, fun z hz => isTs_put (h3 z hz) hb hT i x⟩
theorem isLs_put4 {W : World} {ls : List Lit} {y : Value} (h : isLs W ls y) {b : Nat} {T : TypeId} {cs : Array Value} (hb : Bx W b T cs) (hT : T ≠ 88) (hT2 : T ≠ 57) (x0 x1 x2 x3 : Value) : isLs ((((W.setCell ⟨b, 0, none⟩ x0).setCell ⟨b, 1, none⟩ x1).setCell ⟨b, 2, none⟩ x2).setCell ⟨b, 3, none⟩ x3) ls y :=
  isLs_put (isLs_put (isLs_put (isLs_put h hb hT hT2 0 x0) (hb.set 0 x0) hT hT2 1 x1) ((hb.set 0 x0).set 1 x1) hT hT2 2 x2) (((hb.set 0 x0).set 1 x1).set 2 x2) hT hT2 3 x3

/-- A clause's end, behind its head and its body. -/
def endR (h : Lit) (b : List Lit) (t : List Wd) : Re Rul := if takeB [46] t = true then .ok ((h, b), takeR [46] t) else .error false
def bodyR (h : Lit) : Re (List Lit) → Re Rul
  | .error e => .error e
  | .ok (b, r) => endR h b r
theorem clauseL_eq (ws : List Wd) : clauseL ws = (match atomL termW ws with
    | .error e => .error e
    | .ok (h, t) => if takeB [58, 45] t = true then bodyR h (listL litL 6 (takeR [58, 45] t)) else endR h [] (takeR [58, 45] t)) := by
  rw [clauseL]
  cases atomL termW ws with
  | error e => rfl
  | ok p =>
    obtain ⟨h, t⟩ := p
    simp only []
    cases hb : takeB [58, 45] t
    · simp only [takeR, hb, Bool.false_eq_true, if_false, endR]
      split <;> simp_all
    · simp only [takeR, hb, if_true]
      cases listL litL 6 t.tail with
      | error e => rfl
      | ok q =>
        obtain ⟨b, r⟩ := q
        simp only [bodyR, endR, takeR]
        split <;> simp_all

end Go.Proofs.Ytdmhajeaphnebaa.Sy
namespace Go.Proofs.Ytdmhajeaphnebaa.Sy
open Go.RowKit
open Lx (Wd tx cellsW wpList_append_run bs scanAt Sg)
open Vl (Tm Fr)

def cellsRz (zs : List (Rul × Value × Value)) : List Value := zs.flatMap fun z => [.int .i64 z.1.1.1, .string z.1.1.2.1, z.2.1, z.2.2]
theorem cellsRz_snoc (zs : List (Rul × Value × Value)) (z : Rul × Value × Value) : cellsRz (zs ++ [z]) = cellsRz zs ++ [.int .i64 z.1.1.1, .string z.1.1.2.1, z.2.1, z.2.2] := by simp [cellsRz]
/-- A row of rules. -/
def isRs (w : World) (ls : List Rul) (y : Value) : Prop := ∃ zs : List (Rul × Value × Value), zs.map (·.1) = ls ∧ w.ownsRow 0 60 4 y zs.length (cellsRz zs) ∧ ∀ z ∈ zs, isTs w z.1.1.2.2 z.2.1 ∧ isLs w z.1.2 z.2.2
theorem isRs_below {w w' : World} {ls : List Rul} {y : Value} (ht : isRs w ls y) (hb : Below w.heap.size w w') : isRs w' ls y := by
  obtain ⟨zs, h1, h2, h3⟩ := ht
  exact ⟨zs, h1, Lx.own_below h2 hb, fun z hz => ⟨isTs_below (h3 z hz).1 hb, isLs_below (h3 z hz).2 hb⟩⟩
theorem isLs_grow {W W' : World} {ls : List Lit} {y : Value} (h : isLs W ls y) {b e s n : Nat} {u : Value} {xs : List Value} (ho : W.ownsRow b e s u n xs) (he : e ≠ 88) (he2 : e ≠ 57) (hf : Fr (fun k => u.ownBlock = some k) W W') : isLs W' ls y := by
  obtain ⟨zs, h1, h2, h3⟩ := h
  exact ⟨zs, h1, Vl.own_kept h2 hf fun _ hk hk2 => Vl.own_ne ho h2 he2 hk2 hk, fun z hz => isTs_grow (h3 z hz) ho he hf⟩

def joinP (acc : List Rul) : Except Bool (List Rul) → Except Bool (List Rul)
  | .error e => .error e
  | .ok l => .ok (acc ++ l)
theorem joinP_nil (R : Except Bool (List Rul)) : joinP [] R = R := by cases R <;> rfl
theorem progL_err {n : Nat} {ws : List Wd} {e : Bool} (hw : ws ≠ []) (h : clauseL ws = .error e) : progL n ws = .error e := by
  obtain ⟨x, t, rfl⟩ := List.exists_cons_of_ne_nil hw
  cases n <;> simp [progL, h]
theorem progL_zero {ws : List Wd} {p : Rul × List Wd} (hw : ws ≠ []) (h : clauseL ws = .ok p) : progL 0 ws = .error true := by
  obtain ⟨x, t, rfl⟩ := List.exists_cons_of_ne_nil hw
  simp [progL, h]
theorem progL_more {n : Nat} {ws : List Wd} {c : Rul} {r : List Wd} (hw : ws ≠ []) (h : clauseL ws = .ok (c, r)) : progL (n + 1) ws = joinP [c] (progL n r) := by
  obtain ⟨x, t, rfl⟩ := List.exists_cons_of_ne_nil hw
  simp only [progL, h]
  cases progL n r <;> rfl
theorem progL_nil (n : Nat) : progL n [] = .ok [] := by cases n <;> rfl
theorem joinP_joinP (a b : List Rul) (R : Except Bool (List Rul)) : joinP a (joinP b R) = joinP (a ++ b) R := by
  cases R with
  | error e => rfl
  | ok p => simp [joinP]

/-- What Program gives of words. -/
def Pg (R : Except Bool (List Rul)) (w : World) (e : Ending) (w' : World) : Prop :=
  (match R with
  | .error c => e = .returned (.tuple #[.slice none 0 0, .int .i64 (if c = true then 8 else 4)])
  | .ok l => ∃ y, e = .returned (.tuple #[y, .int .i64 0]) ∧ isRs w' l y) ∧ Below w.heap.size w w'

end Go.Proofs.Ytdmhajeaphnebaa.Sy
namespace Go.Proofs.Ytdmhajeaphnebaa.Sy
open Go.RowKit
open Lx (Wd tx)
open Vl (Tm Fr prt factS Fm Pow10)

def signS (k : Int) : ByteArray := if k = 3 then ⟨#[61]⟩ else if k = 4 then ⟨#[33, 61]⟩ else if k = 5 then ⟨#[60]⟩ else if k = 6 then ⟨#[60, 61]⟩ else ⟨#[]⟩

theorem ts_of {w : World} {v : Value} {D : List Tm} (h : isTs w D v) : Vl.Ts w v D := by
  rcases Vl.own_shape h with ⟨rfl, h0⟩ | ⟨g, cap, rfl, h1, _⟩
  · exact ⟨none, 0, by rw [h0], by omega, fun hp => by omega⟩
  · refine ⟨_, cap, rfl, h1, fun hp => ⟨g, 0, rfl, fun i hi => ?_⟩⟩
    have hc := Vl.cellsT_get D i hi
    rw [Nat.zero_add]
    exact ⟨(h.cellAt _ (by omega)).trans hc.1, (h.cellAt _ (by omega)).trans hc.2.1, (h.cellAt _ (by omega)).trans hc.2.2⟩

/-- A term that was read. -/
def OkT (t : Tm) : Prop := (t.1 = 3 → -2147483648 ≤ t.2.2 ∧ t.2.2 ≤ 2147483648) ∧ t.2.1.size ≤ 16
theorem prt_small {t : Tm} (h : OkT t) : (prt t).size ≤ 100 := by
  unfold Vl.prt
  split
  · rename_i h3
    have hb := h.1 h3
    by_cases hz : t.2.2 = 0
    · rw [hz, Vl.size_list]
      simp [Lib.itoa, Lib.decDigits]
    · have hd := Vl.dg_len 20 t.2.2.natAbs (by omega)
      rw [Vl.size_list]
      show (Lib.itoa t.2.2).length ≤ 100
      rw [Vl.itoa_dg _ hz]
      split
      · rw [List.length_cons]; omega
      · omega
  · have := h.2
    omega

/-- A literal that was read. -/
structure OkL (l : Lit) : Prop where
  name : l.2.1.size ≤ 16
  few : l.2.2.length ≤ 4
  terms : ∀ t ∈ l.2.2, OkT t
  kind : 1 ≤ l.1 ∧ l.1 ≤ 6
  two : 3 ≤ l.1 → l.2.2.length = 2
def litS (l : Lit) : ByteArray :=
  if 3 ≤ l.1 then prt (l.2.2.getD 0 (0, ⟨#[]⟩, 0)) ++ ⟨#[32]⟩ ++ signS l.1 ++ ⟨#[32]⟩ ++ prt (l.2.2.getD 1 (0, ⟨#[]⟩, 0))
  else if l.1 = 2 then ⟨#[33]⟩ ++ factS l.2.1 l.2.2 else factS l.2.1 l.2.2
theorem fact_small (l : Lit) (h : OkL l) : (factS l.2.1 l.2.2).size ≤ 5000 := by
  have h1 := Vl.join_len l.2.2 (fun t ht => by have := prt_small (h.terms t ht); omega)
  have h2 := h.name
  have h3 := h.few
  rw [Vl.size_list]
  show (Vl.factL l.2.1 l.2.2).length ≤ _
  rw [Vl.size_list] at h2
  unfold Vl.factL
  split
  · omega
  · simp only [List.length_append, List.length_cons, List.length_nil]
    omega

theorem sign_small (k : Int) : (signS k).size ≤ 2 := by
  unfold signS
  repeat' split
  all_goals decide
theorem sign_some {k : Int} (h : 3 ≤ k) (h6 : k ≤ 6) : ((signS k).toList == []) = false := by
  have : k = 3 ∨ k = 4 ∨ k = 5 ∨ k = 6 := by omega
  rcases this with rfl | rfl | rfl | rfl <;> simp [signS, Lib.toList_data]
theorem sign_none {k : Int} (h : ¬ 3 ≤ k) : ((signS k).toList == []) = true := by
  simp [signS, show ¬ k = 3 by omega, show ¬ k = 4 by omega, show ¬ k = 5 by omega, show ¬ k = 6 by omega, Lib.toList_data]

end Go.Proofs.Ytdmhajeaphnebaa.Sy
namespace Go.Proofs.Ytdmhajeaphnebaa.Sy
open Go.RowKit
open Lx (Wd tx)
open Vl (Tm Fr prt factS Fm Pow10)

structure OkR (q : Rul) : Prop where
  head : OkL q.1
  body : ∀ l ∈ q.2, OkL l
  few : q.2.length ≤ 6
def litT (l : Lit) : List UInt8 := (litS l).data.toList
def ruleL (q : Rul) : List UInt8 := if q.2 = [] then litT q.1 ++ [46] else litT q.1 ++ [32, 58, 45, 32] ++ Lib.join (q.2.map litT) [44, 32] ++ [46]
def ruleS (q : Rul) : ByteArray := ⟨(ruleL q).toArray⟩
theorem lit_small {l : Lit} (h : OkL l) : (litS l).size ≤ 5001 := by
  have hf := fact_small l h
  unfold litS
  split
  · rename_i h3
    have h2 := h.two h3
    have e0 : l.2.2.getD 0 (0, ⟨#[]⟩, 0) = l.2.2[0]'(by omega) := by simp [List.getD, List.getElem?_eq_getElem (show 0 < l.2.2.length by omega)]
    have e1 : l.2.2.getD 1 (0, ⟨#[]⟩, 0) = l.2.2[1]'(by omega) := by simp [List.getD, List.getElem?_eq_getElem (show 1 < l.2.2.length by omega)]
    rw [e0, e1]
    have p0 := prt_small (h.terms _ (List.getElem_mem (show 0 < l.2.2.length by omega)))
    have p1 := prt_small (h.terms _ (List.getElem_mem (show 1 < l.2.2.length by omega)))
    have ps := sign_small l.1
    have hb : (ByteArray.mk #[32]).size = 1 := rfl
    simp only [ByteArray.size_append, hb]
    omega
  · split
    · have hb : (ByteArray.mk #[33]).size = 1 := rfl
      rw [ByteArray.size_append, hb]
      omega
    · omega
theorem tail_len2 : ∀ r : List (List UInt8), (∀ x ∈ r, x.length ≤ 5001) → (Lib.joinTail [44, 32] r).length ≤ 5003 * r.length
  | [], _ => by simp [Lib.joinTail]
  | x :: r, h => by
    have h1 := tail_len2 r (fun y hy => h y (by simp [hy]))
    have hx := h x (by simp)
    simp [Lib.joinTail] at h1 ⊢
    omega
theorem join_len2 (ls : List Lit) (h : ∀ l ∈ ls, OkL l) : (Lib.join (ls.map litT) [44, 32]).length ≤ 5003 * ls.length := by
  cases ls with
  | nil => simp [Lib.join_nil]
  | cons l r =>
    rw [List.map_cons, Lib.join_cons, List.length_append]
    have h1 := tail_len2 (r.map litT) (fun x hx => by
      obtain ⟨y, hy, rfl⟩ := List.mem_map.1 hx
      have := lit_small (h y (by simp [hy]))
      rw [Vl.size_list] at this
      exact this)
    have h2 := lit_small (h l (by simp))
    rw [Vl.size_list] at h2
    have h3 : (litT l).length ≤ 5001 := h2
    rw [List.length_map] at h1
    rw [List.length_cons]
    omega
def rowS (ls : List Lit) (k : Nat) : List Value := (ls.take k).map (fun l => .string (litS l)) ++ List.replicate (ls.length - k) (.string ⟨#[]⟩)
theorem rowS_len (ls : List Lit) (k : Nat) (h : k ≤ ls.length) : (rowS ls k).length = ls.length := by simp [rowS]; omega
theorem rowS_set (ls : List Lit) (k : Nat) (h : k < ls.length) : (rowS ls k).set k (.string (litS ls[k])) = rowS ls (k + 1) := by
  unfold rowS
  have hl : ((ls.take k).map (fun l => Value.string (litS l))).length = k := by simp; omega
  rw [List.set_append_right _ _ (by omega), hl, Nat.sub_self, List.take_succ_eq_append_getElem h, List.map_append]
  obtain ⟨m, hm⟩ : ∃ m, ls.length - k = m + 1 := ⟨ls.length - k - 1, by omega⟩
  have hm2 : ls.length - (k + 1) = m := by omega
  rw [hm, hm2, List.replicate_succ]
  simp

theorem made_rowS (ls : List Lit) : madeCells (Value.string ⟨#[]⟩).cells ls.length = (rowS ls 0).toArray := by
  apply Array.ext'
  apply List.ext_getElem?
  intro j
  by_cases hj : j < ls.length
  · simp [madeCells, rowS, hj, Value.cells, Nat.mod_one]
  · simp [madeCells, rowS, hj]
theorem make_rowS (ls : List Lit) (hl : ls.length ≤ 1000) (W : World) : (Instr.makeSlice 32 (.int .i64 (ls.length : Int)) (.int .i64 (ls.length : Int))).run Try.prog W = .ok (.slice (some ⟨W.heap.size, 0, none⟩) ls.length ls.length) (W.alloc (.cells (rowS ls 0).toArray 9)) := by
  obtain ⟨i, hi, hz, hsize, hby⟩ := info_parts Vl.Try.info9
  have h := run_make (P := Try.prog) W 32 9 i (.string ⟨#[]⟩) Try.underlying32 hi hz .i64 .i64 (ls.length : Int) (ls.length : Int) (by omega) (by omega) (by rw [hby]; omega) (by omega)
  rw [hsize, Nat.mul_one] at h
  simp only [Int.toNat_natCast] at h
  rw [made_rowS] at h
  exact h

/-- A body's row, cell by cell. -/
theorem isLs_cells {w : World} {ls : List Lit} {ao : Option Addr} {n cap : Nat} (h : isLs w ls (.slice ao n cap)) : n = ls.length ∧ (0 < ls.length → ∃ g, ao = some ⟨g, 0, none⟩ ∧ ∀ i (hi : i < ls.length), ∃ va, isTs w ls[i].2.2 va ∧ w.cell? ⟨g, i * 3, none⟩ = some (.int .i64 ls[i].1) ∧ w.cell? ⟨g, i * 3 + 1, none⟩ = some (.string ls[i].2.1) ∧ w.cell? ⟨g, i * 3 + 2, none⟩ = some va) := by
  obtain ⟨zs, rfl, h2, h3⟩ := h
  have hlm : (zs.map (·.1)).length = zs.length := List.length_map _
  refine ⟨by rw [hlm]; exact (own_len h2).1, fun hp => ?_⟩
  rcases Lx.own_shape h2 with ⟨e, h0⟩ | ⟨g, cap', e, _⟩
  · omega
  · simp only [Value.slice.injEq] at e
    obtain ⟨rfl, rfl, rfl⟩ := e
    refine ⟨g, rfl, fun i hi0 => ?_⟩
    have hi : i < zs.length := by omega
    refine ⟨zs[i].2, ?_⟩
    have e : zs = zs.take i ++ zs[i] :: zs.drop (i + 1) := by simp
    have hl : (cellsLz (zs.take i)).length = i * 3 := by
      have : ∀ q : List (Lit × Value), (cellsLz q).length = q.length * 3 := fun q => by
        induction q with
        | nil => rfl
        | cons z q ih => simp [cellsLz] at ih ⊢; omega
      rw [this]; simp; omega
    have e2 : cellsLz zs = cellsLz (zs.take i) ++ (.int .i64 zs[i].1.1 :: .string zs[i].1.2.1 :: zs[i].2 :: cellsLz (zs.drop (i + 1))) := by
      conv => lhs; rw [e]
      unfold cellsLz
      rw [List.flatMap_append, List.flatMap_cons]
      rfl
    have hc : ∀ j, j < 3 → w.cell? ⟨g, i * 3 + j, none⟩ = [.int .i64 zs[i].1.1, .string zs[i].1.2.1, zs[i].2][j]? := fun j hj => by
      rw [h2.cellAt _ (by omega), e2, List.getElem?_append_right (by omega), hl, Nat.add_sub_cancel_left]
      match j, hj with
      | 0, _ => rfl
      | 1, _ => rfl
      | 2, _ => rfl
    have hz := h3 zs[i] (List.getElem_mem _)
    simp only [List.getElem_map]
    exact ⟨hz, hc 0 (by decide), hc 1 (by decide), hc 2 (by decide)⟩

end Go.Proofs.Ytdmhajeaphnebaa.Sy
namespace Go.Proofs.Ytdmhajeaphnebaa.Sy
open Go.RowKit
open Lx (Wd tx bs Sg scanL scanAt frontL Rw cellsW)
open Vl (Tm Fr)

theorem cell_below' {w w' : World} {p : Addr} {x : Value} (h : w.cell? p = some x) (hb : Below w.heap.size w w') : w'.cell? p = some x :=
  (World.cell?_of_block (hb.block p.block (World.block_lt_of_cell? w p h))).trans h

/-- Has the beginning of so many bytes a fault, and the next longer one too? -/
def fP (S : List UInt8) (n : Nat) : Bool := !(scanL (S.take n) 0).isSome && !(scanL (S.take (n + 1)) 0).isSome

theorem ext_take (s : ByteArray) (n : Nat) : bs (s.extract 0 n) = (bs s).take n := by rw [Lx.bs_extract]; simp

end Go.Proofs.Ytdmhajeaphnebaa.Sy

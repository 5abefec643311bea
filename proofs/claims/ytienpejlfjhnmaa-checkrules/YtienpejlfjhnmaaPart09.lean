/- The walks of signOf, termText and literalText. The walk of Print. Which rules are safe, in plain mathematics; the iterator over the variables of terms: its contract. The walks of scans, good and its closure, sort.Search. -/
import Derived.Test.YtienpejlfjhnmaaPart08
import Derived.Deep.RegionHeld
import Derived.RangeFuncNested
import Derived.RangeFuncBound
import Derived.RangeFuncCalls
import Derived.RangeFuncLeaves
import Derived.Shelf.Abstract
import Derived.Shelf.RegionOpen
import Derived.WalkKit
import Derived.OwnWalkIn
import Derived.TacticsInMore
import Derived.LoopNIn
import Derived.LoopIn
import Derived.Maps.OwnIn
namespace Go.Proofs.Ytienpejlfjhnmaa.Sy
open Go.RowKit
open Lx (Wd tx)
open Vl (Tm Fr prt factS Fm Pow10)

def signS (k : Int) : ByteArray := if k = 3 then ⟨#[61]⟩ else if k = 4 then ⟨#[33, 61]⟩ else if k = 5 then ⟨#[60]⟩ else if k = 6 then ⟨#[60, 61]⟩ else ⟨#[]⟩

theorem ts_of {w : World} {v : Value} {D : List Tm} (h : isTs w D v) : Vl.Ts w v D := by
  rcases Vl.own_shape h with ⟨rfl, h0⟩ | ⟨g, cap, rfl, h1, _⟩
  · exact ⟨none, 0, by rw [h0], by omega, fun hp => by omega⟩
  · refine ⟨_, cap, rfl, h1, fun hp => ⟨g, 0, rfl, fun i hi => ?_⟩⟩
    have hc := Vl.cellsT_get D i hi
    rw [Nat.zero_add]
    exact ⟨(h.cellAt _ (by omega)).trans hc.1, (h.cellAt _ (by omega)).trans hc.2.1, (h.cellAt _ (by omega)).trans hc.2.2⟩

/-- A term that was read. -/
def OkT (t : Tm) : Prop := (t.1 = 3 → -2147483648 ≤ t.2.2 ∧ t.2.2 ≤ 2147483648) ∧ t.2.1.size ≤ 16
theorem prt_small {t : Tm} (h : OkT t) : (prt t).size ≤ 100 := by
  unfold Vl.prt
  split
  · rename_i h3
    have hb := h.1 h3
    by_cases hz : t.2.2 = 0
    · rw [hz, Vl.size_list]
      simp [Lib.itoa, Lib.decDigits]
    · have hd := Vl.dg_len 20 t.2.2.natAbs (by omega)
      rw [Vl.size_list]
      show (Lib.itoa t.2.2).length ≤ 100
      rw [Vl.itoa_dg _ hz]
      split
      · rw [List.length_cons]; omega
      · omega
  · have := h.2
    omega

/-- A literal that was read. -/
structure OkL (l : Lit) : Prop where
  name : l.2.1.size ≤ 16
  few : l.2.2.length ≤ 4
  terms : ∀ t ∈ l.2.2, OkT t
  kind : 1 ≤ l.1 ∧ l.1 ≤ 6
  two : 3 ≤ l.1 → l.2.2.length = 2
def litS (l : Lit) : ByteArray :=
  if 3 ≤ l.1 then prt (l.2.2.getD 0 (0, ⟨#[]⟩, 0)) ++ ⟨#[32]⟩ ++ signS l.1 ++ ⟨#[32]⟩ ++ prt (l.2.2.getD 1 (0, ⟨#[]⟩, 0))
  else if l.1 = 2 then ⟨#[33]⟩ ++ factS l.2.1 l.2.2 else factS l.2.1 l.2.2
theorem fact_small (l : Lit) (h : OkL l) : (factS l.2.1 l.2.2).size ≤ 5000 := by
  have h1 := Vl.join_len l.2.2 (fun t ht => by have := prt_small (h.terms t ht); omega)
  have h2 := h.name
  have h3 := h.few
  rw [Vl.size_list]
  show (Vl.factL l.2.1 l.2.2).length ≤ _
  rw [Vl.size_list] at h2
  unfold Vl.factL
  split
  · omega
  · simp only [List.length_append, List.length_cons, List.length_nil]
    omega

theorem sign_small (k : Int) : (signS k).size ≤ 2 := by
  unfold signS
  repeat' split
  all_goals decide
theorem sign_some {k : Int} (h : 3 ≤ k) (h6 : k ≤ 6) : ((signS k).toList == []) = false := by
  have : k = 3 ∨ k = 4 ∨ k = 5 ∨ k = 6 := by omega
  rcases this with rfl | rfl | rfl | rfl <;> simp [signS, Lib.toList_data]
theorem sign_none {k : Int} (h : ¬ 3 ≤ k) : ((signS k).toList == []) = true := by
  simp [signS, show ¬ k = 3 by omega, show ¬ k = 4 by omega, show ¬ k = 5 by omega, show ¬ k = 6 by omega, Lib.toList_data]

end Go.Proofs.Ytienpejlfjhnmaa.Sy
namespace Go.Proofs.Ytienpejlfjhnmaa.Sy
open Go.RowKit
open Lx (Wd tx)
open Vl (Tm Fr prt factS Fm Pow10)

structure OkR (q : Rul) : Prop where
  head : OkL q.1
  body : ∀ l ∈ q.2, OkL l
  few : q.2.length ≤ 6
def litT (l : Lit) : List UInt8 := (litS l).data.toList
def ruleL (q : Rul) : List UInt8 := if q.2 = [] then litT q.1 ++ [46] else litT q.1 ++ [32, 58, 45, 32] ++ Lib.join (q.2.map litT) [44, 32] ++ [46]
def ruleS (q : Rul) : ByteArray := ⟨(ruleL q).toArray⟩
theorem lit_small {l : Lit} (h : OkL l) : (litS l).size ≤ 5001 := by
  have hf := fact_small l h
  unfold litS
  split
  · rename_i h3
    have h2 := h.two h3
    have e0 : l.2.2.getD 0 (0, ⟨#[]⟩, 0) = l.2.2[0]'(by omega) := by simp [List.getD, List.getElem?_eq_getElem (show 0 < l.2.2.length by omega)]
    have e1 : l.2.2.getD 1 (0, ⟨#[]⟩, 0) = l.2.2[1]'(by omega) := by simp [List.getD, List.getElem?_eq_getElem (show 1 < l.2.2.length by omega)]
    rw [e0, e1]
    have p0 := prt_small (h.terms _ (List.getElem_mem (show 0 < l.2.2.length by omega)))
    have p1 := prt_small (h.terms _ (List.getElem_mem (show 1 < l.2.2.length by omega)))
    have ps := sign_small l.1
    have hb : (ByteArray.mk #[32]).size = 1 := rfl
    simp only [ByteArray.size_append, hb]
    omega
  · split
    · have hb : (ByteArray.mk #[33]).size = 1 := rfl
      rw [ByteArray.size_append, hb]
      omega
    · omega
theorem tail_len2 : ∀ r : List (List UInt8), (∀ x ∈ r, x.length ≤ 5001) → (Lib.joinTail [44, 32] r).length ≤ 5003 * r.length
  | [], _ => by simp [Lib.joinTail]
  | x :: r, h => by
    have h1 := tail_len2 r (fun y hy => h y (by simp [hy]))
    have hx := h x (by simp)
    simp [Lib.joinTail] at h1 ⊢
    omega
theorem join_len2 (ls : List Lit) (h : ∀ l ∈ ls, OkL l) : (Lib.join (ls.map litT) [44, 32]).length ≤ 5003 * ls.length := by
  cases ls with
  | nil => simp [Lib.join_nil]
  | cons l r =>
    rw [List.map_cons, Lib.join_cons, List.length_append]
    have h1 := tail_len2 (r.map litT) (fun x hx => by
      obtain ⟨y, hy, rfl⟩ := List.mem_map.1 hx
      have := lit_small (h y (by simp [hy]))
      rw [Vl.size_list] at this
      exact this)
    have h2 := lit_small (h l (by simp))
    rw [Vl.size_list] at h2
    have h3 : (litT l).length ≤ 5001 := h2
    rw [List.length_map] at h1
    rw [List.length_cons]
    omega
def rowS (ls : List Lit) (k : Nat) : List Value := (ls.take k).map (fun l => .string (litS l)) ++ List.replicate (ls.length - k) (.string ⟨#[]⟩)
theorem rowS_len (ls : List Lit) (k : Nat) (h : k ≤ ls.length) : (rowS ls k).length = ls.length := by simp [rowS]; omega
theorem rowS_set (ls : List Lit) (k : Nat) (h : k < ls.length) : (rowS ls k).set k (.string (litS ls[k])) = rowS ls (k + 1) := by
  unfold rowS
  have hl : ((ls.take k).map (fun l => Value.string (litS l))).length = k := by simp; omega
  rw [List.set_append_right _ _ (by omega), hl, Nat.sub_self, List.take_succ_eq_append_getElem h, List.map_append]
  obtain ⟨m, hm⟩ : ∃ m, ls.length - k = m + 1 := ⟨ls.length - k - 1, by omega⟩
  have hm2 : ls.length - (k + 1) = m := by omega
  rw [hm, hm2, List.replicate_succ]
  simp

theorem made_rowS (ls : List Lit) : madeCells (Value.string ⟨#[]⟩).cells ls.length = (rowS ls 0).toArray := by
  apply Array.ext'
  apply List.ext_getElem?
  intro j
  by_cases hj : j < ls.length
  · simp [madeCells, rowS, hj, Value.cells, Nat.mod_one]
  · simp [madeCells, rowS, hj]
theorem make_rowS (ls : List Lit) (hl : ls.length ≤ 1000) (W : World) : (Instr.makeSlice 37 (.int .i64 (ls.length : Int)) (.int .i64 (ls.length : Int))).run Try.prog W = .ok (.slice (some ⟨W.heap.size, 0, none⟩) ls.length ls.length) (W.alloc (.cells (rowS ls 0).toArray 9)) := by
  obtain ⟨i, hi, hz, hsize, hby⟩ := info_parts Vl.Try.info9
  have h := run_make (P := Try.prog) W 37 9 i (.string ⟨#[]⟩) Try.underlying37 hi hz .i64 .i64 (ls.length : Int) (ls.length : Int) (by omega) (by omega) (by rw [hby]; omega) (by omega)
  rw [hsize, Nat.mul_one] at h
  simp only [Int.toNat_natCast] at h
  rw [made_rowS] at h
  exact h

/-- A body's row, cell by cell. -/
theorem isLs_cells {w : World} {ls : List Lit} {ao : Option Addr} {n cap : Nat} (h : isLs w ls (.slice ao n cap)) : n = ls.length ∧ (0 < ls.length → ∃ g, ao = some ⟨g, 0, none⟩ ∧ ∀ i (hi : i < ls.length), ∃ va, isTs w ls[i].2.2 va ∧ w.cell? ⟨g, i * 3, none⟩ = some (.int .i64 ls[i].1) ∧ w.cell? ⟨g, i * 3 + 1, none⟩ = some (.string ls[i].2.1) ∧ w.cell? ⟨g, i * 3 + 2, none⟩ = some va) := by
  obtain ⟨zs, rfl, h2, h3⟩ := h
  have hlm : (zs.map (·.1)).length = zs.length := List.length_map _
  refine ⟨by rw [hlm]; exact (own_len h2).1, fun hp => ?_⟩
  rcases Lx.own_shape h2 with ⟨e, h0⟩ | ⟨g, cap', e, _⟩
  · omega
  · simp only [Value.slice.injEq] at e
    obtain ⟨rfl, rfl, rfl⟩ := e
    refine ⟨g, rfl, fun i hi0 => ?_⟩
    have hi : i < zs.length := by omega
    refine ⟨zs[i].2, ?_⟩
    have e : zs = zs.take i ++ zs[i] :: zs.drop (i + 1) := by simp
    have hl : (cellsLz (zs.take i)).length = i * 3 := by
      have : ∀ q : List (Lit × Value), (cellsLz q).length = q.length * 3 := fun q => by
        induction q with
        | nil => rfl
        | cons z q ih => simp [cellsLz] at ih ⊢; omega
      rw [this]; simp; omega
    have e2 : cellsLz zs = cellsLz (zs.take i) ++ (.int .i64 zs[i].1.1 :: .string zs[i].1.2.1 :: zs[i].2 :: cellsLz (zs.drop (i + 1))) := by
      conv => lhs; rw [e]
      unfold cellsLz
      rw [List.flatMap_append, List.flatMap_cons]
      rfl
    have hc : ∀ j, j < 3 → w.cell? ⟨g, i * 3 + j, none⟩ = [.int .i64 zs[i].1.1, .string zs[i].1.2.1, zs[i].2][j]? := fun j hj => by
      rw [h2.cellAt _ (by omega), e2, List.getElem?_append_right (by omega), hl, Nat.add_sub_cancel_left]
      match j, hj with
      | 0, _ => rfl
      | 1, _ => rfl
      | 2, _ => rfl
    have hz := h3 zs[i] (List.getElem_mem _)
    simp only [List.getElem_map]
    exact ⟨hz, hc 0 (by decide), hc 1 (by decide), hc 2 (by decide)⟩

end Go.Proofs.Ytienpejlfjhnmaa.Sy
namespace Go.Proofs.Ytienpejlfjhnmaa.Ck
open Go.RowKit Go.Shelf
open Vl (Tm Ts Fr)
open Sy

/-- A name that may be a key. -/
abbrev Nm := { x : ByteArray // x.size ≤ maxLen }
def varN (t : Tm) : Option Nm := if h : t.1 = 1 ∧ t.2.1.size ≤ maxLen then some ⟨t.2.1, h.2⟩ else none
/-- The variables of terms, from the left. -/
def varsT (ts : List Tm) : List Nm := ts.filterMap varN
theorem varsT_take {ts : List Tm} {k : Nat} (h : k < ts.length) : varsT (ts.take (k + 1)) = varsT (ts.take k) ++ (match varN ts[k] with | some x => [x] | none => []) := by
  unfold varsT
  rw [List.take_succ_eq_append_getElem h, List.filterMap_append]
  congr 1
  cases hv : varN ts[k] <;> simp [hv]
theorem varsT_pre (ts : List Tm) (k : Nat) : varsT (ts.take k) <+: varsT ts := by
  unfold varsT
  have h : ts = ts.take k ++ ts.drop k := (List.take_append_drop k ts).symm
  exact ⟨(ts.drop k).filterMap varN, by rw [← List.filterMap_append, ← h]⟩
theorem varsT_lt {ts : List Tm} {k : Nat} (h : k < ts.length) {x : Nm} (h1 : varN ts[k] = some x) : (varsT (ts.take k)).length < (varsT ts).length := by
  have h2 := (varsT_pre ts (k + 1)).length_le
  rw [varsT_take h, h1, List.length_append] at h2
  simp at h2
  omega
theorem varN_some {t : Tm} (h1 : t.1 = 1) (h2 : t.2.1.size ≤ maxLen) : varN t = some ⟨t.2.1, h2⟩ := by simp [varN, h1, h2]
theorem varN_none {t : Tm} (h1 : ¬ t.1 = 1) : varN t = none := by simp [varN, h1]

/-- Terms in memory, in a block below n₀. -/
def TsB (n₀ : Nat) (w : World) (v : Value) (L : List Tm) : Prop :=
  ∃ ao cap, v = .slice ao L.length cap ∧ L.length ≤ 1000000 ∧ (0 < L.length → ∃ g off, ao = some ⟨g, off, none⟩ ∧ g < n₀ ∧ ∀ i (h : i < L.length), w.cell? ⟨g, off + i * 3, none⟩ = some (.int .i64 L[i].1) ∧ w.cell? ⟨g, off + i * 3 + 1, none⟩ = some (.string L[i].2.1) ∧ w.cell? ⟨g, off + i * 3 + 2, none⟩ = some (.int .i64 L[i].2.2))
theorem TsB.below {n₀ : Nat} {w w' : World} {v : Value} {L : List Tm} (h : TsB n₀ w v L) (hb : Below n₀ w w') : TsB n₀ w' v L := by
  obtain ⟨ao, cap, rfl, h1, h2⟩ := h
  refine ⟨ao, cap, rfl, h1, fun hp => ?_⟩
  obtain ⟨g, off, rfl, hg, hc⟩ := h2 hp
  exact ⟨g, off, rfl, hg, fun i hi => ⟨(hb.cell (p := ⟨g, _, none⟩) hg).trans (hc i hi).1, (hb.cell (p := ⟨g, _, none⟩) hg).trans (hc i hi).2.1, (hb.cell (p := ⟨g, _, none⟩) hg).trans (hc i hi).2.2⟩⟩
theorem TsB.of {w : World} {v : Value} {L : List Tm} (h : isTs w L v) (hl : L.length ≤ 1000000) : TsB w.heap.size w v L := by
  obtain ⟨ao, cap, rfl, h1, h2⟩ := ts_of h
  refine ⟨ao, cap, rfl, hl, fun hp => ?_⟩
  obtain ⟨g, off, rfl, hc⟩ := h2 hp
  exact ⟨g, off, rfl, World.block_lt_of_cell? w _ (hc 0 hp).1, hc⟩

set_option maxRecDepth 100000 in
set_option maxHeartbeats 4000000 in
theorem vars1_in (n : Nat) (hn : 1 ≤ n) (l Bs n₀ : Nat) (sv : Value) (ts : List Tm) (hsz : ∀ t ∈ ts, t.2.1.size ≤ maxLen) (J Jx : List Nm → World → Prop) (W : World) (hJ : AbidesFrom W.heap.size J)
    (hY : ∀ pre x W1, J pre W1 → pre.length < (varsT ts).length → YieldAt Fence.wide (n - 1) Try.prog l #[.string x.1] W1 fun e W' =>
      (e = .returned (.bool true) ∧ J (pre ++ [x]) W' ∧ Below n₀ W1 W') ∨ (e = .returned (.bool false) ∧ Jx (pre ++ [x]) W'))
    (hBs : W.cell? ⟨Bs, 0, none⟩ = some sv) (hT : TsB n₀ W sv ts) (hn₀ : n₀ ≤ W.heap.size) (h0 : J [] W) :
    CallsIn Fence.wide n Try.prog 37 #[.func (.yield l) #[] #[], .pointer (some ⟨Bs, 0, none⟩)] W fun e W' => (∃ v, e = .returned v) ∧
      ((∃ ys, ys = varsT ts ∧ J ys W') ∨ (∃ pre, pre <+: varsT ts ∧ Jx pre W')) := by
  obtain ⟨ao, cap, rfl, hl, hc⟩ := hT
  have HC := hide hc
  have HY := hide hY
  clear hc hY
  refine callsIn_of_wp Try.func37 rfl trivial ?_ rfl
  simp only [Try.ntmps37, List.size_toArray, List.length_cons, List.length_nil, Nat.reduceAdd, Nat.reduceSub, Array.replicate_succ, Array.replicate_zero, List.push_toArray, List.append_toArray, List.nil_append, List.cons_append]
  gi_wp2
  gi_loopw [7] (fun i wr => ∃ k : Nat, k ≤ ts.length ∧ i = .int .i64 k ∧ J (varsT (ts.take k)) wr ∧ Below n₀ W wr) (fun i _ => ts.length - (intOf i).toNat)
  case atStart => exact ⟨0, Nat.zero_le _, rfl, h0, Below.refl _ _⟩
  case round =>
    obtain ⟨k, hk, rfl, hJs, hnx⟩ := hrel
    have HB := hide hnx
    have HJ := hide hJs
    clear hnx hJs
    by_cases hlt : k < ts.length
    · obtain ⟨g, off, rfl, hg, hcs⟩ := HC.out (by omega)
      obtain ⟨k0, k1, k2⟩ := hcs k hlt
      have k0 := (HB.out.cell (p := ⟨g, _, none⟩) hg).trans k0
      have k1 := (HB.out.cell (p := ⟨g, _, none⟩) hg).trans k1
      have k2 := (HB.out.cell (p := ⟨g, _, none⟩) hg).trans k2
      have HV := hide (varsT_take hlt)
      have HJ2 := hide fun o => hJ _ wr (wr.alloc o) none HJ.out (World.grownBy_alloc wr o none) (fun r e => by cases e)
      have HB2 := hide fun o => HB.out.alloc (Nat.le_trans hn₀ HB.out.size) o
      by_cases h1 : ts[k].1 = 1
      · obtain ⟨x, hvs, hx⟩ : ∃ x : Nm, varN ts[k] = some x ∧ ts[k].2.1 = x.1 := ⟨_, varN_some h1 (hsz _ (List.getElem_mem hlt)), rfl⟩
        have HYY := hide (HY.out _ x (wr.alloc (.cells #[.int .i64 ts[k].1, .string ts[k].2.1, .int .i64 ts[k].2.2] 46)) (HJ2.out _) (varsT_lt hlt hvs))
        rw [hvs] at HV
        simp only [] at HV
        rw [h1] at k0 HYY
        rw [hx] at k1 HYY
        clear hvs hx
        generalize ts[k] = t at *
        obtain ⟨fn, tmps, assign, body, hy, hR⟩ := HYY.out
        have HR := hide hR
        clear hR HYY h1 hcs
        gi_wp2
        refine RoundIn.mono HR.out ?_
        rintro e W3 (⟨rfl, hJ3, hk3⟩ | ⟨rfl, hJx3⟩)
        · have HJ3 := hide hJ3
          have HK3 := hide ((HB2.out _).trans hk3)
          clear hJ3 hk3
          gi_wp2
          go_roundw
          case rel => exact ⟨k + 1, by omega, by simp, by rw [HV.out]; exact HJ3.out, HK3.out⟩
          case measure => simp [intOf]; omega
        · have HJ3 := hide hJx3
          clear hJx3
          gi_wp2
          refine bodyPost_ret (results_none rfl _ _ _) rfl ?_
          exact ⟨⟨_, rfl⟩, .inr ⟨_, by rw [← HV.out]; exact varsT_pre _ _, HJ3.out⟩⟩
      · rw [varN_none h1] at HV
        simp only [List.append_nil] at HV
        have g1 : (ts[k].1 == 1) = false := by simpa using h1
        generalize ts[k] = t at *
        clear h1 hcs
        gi_wp2
        refine ⟨fun _ h => (by cases h), ?_⟩
        gi_wp2
        go_roundw
        case rel => exact ⟨k + 1, by omega, by simp, by rw [HV.out]; exact HJ2.out _, HB2.out _⟩
        case measure => simp [intOf]; omega
    · obtain rfl : k = ts.length := by omega
      have hkI : ¬ (ts.length : Int) < (ts.length : Int) := by omega
      gi_wp2
      go_end0
      exact ⟨⟨_, rfl⟩, .inl (by have := HJ.out; rwa [List.take_length] at this)⟩

/-- variables(terms): the slice is boxed; the function value captures the box. -/
theorem vars_in (n : Nat) (ao : Option Addr) (m cap : Nat) (w : World) :
    CallsIn Fence.wide n Try.prog 30 #[.slice ao m cap] w fun e w' => e = .returned (.func (.func 37) #[] #[.pointer (some ⟨w.heap.size, 0, none⟩)]) ∧ w' = w.alloc (.cells #[.slice ao m cap] 27) := by
  refine callsIn_of_wp Try.func30 rfl trivial ?_ rfl
  simp only [Try.ntmps30, List.size_toArray, List.length_cons, List.length_nil, Nat.reduceAdd, Nat.reduceSub, Array.replicate_succ, Array.replicate_zero, List.push_toArray, List.append_toArray, List.nil_append, List.cons_append]
  gi_wp2
  go_ret
  exact ⟨rfl, rfl⟩

/-- The function value that variables hands back goes through the terms' variables. -/
theorem vars_stops (n : Nat) (hn : 1 ≤ n) (Bs n₀ : Nat) (sv : Value) (ts : List Tm) (hsz : ∀ t ∈ ts, t.2.1.size ≤ maxLen) (w : World) (hBs : Bs < w.heap.size) (hn₀ : n₀ ≤ w.heap.size) (hc : w.cell? ⟨Bs, 0, none⟩ = some sv) (hT : TsB n₀ w sv ts) :
    SeqStopsK Fence.wide n Try.prog 37 #[.pointer (some ⟨Bs, 0, none⟩)] (fun x : Nm => #[Value.string x.1]) (Below n₀) (fun ys => ys = varsT ts) (fun pre => pre <+: varsT ts) (varsT ts).length w := fun l J Jx W hW hJ _ hY h0 =>
  vars1_in n hn l Bs n₀ sv ts hsz J Jx W hJ hY ((hW.cell (p := ⟨Bs, 0, none⟩) hBs).trans hc) (hT.below (hW.mono hn₀)) (Nat.le_trans hn₀ hW.size) h0
end Go.Proofs.Ytienpejlfjhnmaa.Ck
namespace Go.Proofs.Ytienpejlfjhnmaa.Sy
open Go.RowKit
open Lx (Wd tx bs Sg scanL scanAt frontL Rw cellsW)
open Vl (Tm Fr)

theorem cell_below' {w w' : World} {p : Addr} {x : Value} (h : w.cell? p = some x) (hb : Below w.heap.size w w') : w'.cell? p = some x :=
  (World.cell?_of_block (hb.block p.block (World.block_lt_of_cell? w p h))).trans h

/-- Has the beginning of so many bytes a fault, and the next longer one too? -/
def fP (S : List UInt8) (n : Nat) : Bool := !(scanL (S.take n) 0).isSome && !(scanL (S.take (n + 1)) 0).isSome

theorem ext_take (s : ByteArray) (n : Nat) : bs (s.extract 0 n) = (bs s).take n := by rw [Lx.bs_extract]; simp

end Go.Proofs.Ytienpejlfjhnmaa.Sy

/- The queue in memory; turn, Less. The queue in memory: its two rows, what a store does to them. No walk. The order of literals that wait; the queue's rows laid open. Swap. Less. -/
import Derived.Test.YtjejpjpdfdcnlaaPart12
import Derived.WalkKit
import Derived.ProofKit
import Derived.Below
import Derived.RowKit
import Derived.BigQuiet
import Derived.BigRegion
import Derived.Deep.RegionHeld3
import Derived.Test.YtjejpjpdfdcnlaaPart03
import Derived.Deep.CutRange
namespace Go.Proofs.Ytjejpjpdfdcnlaa.Qu
open Go.RowKit

theorem hide {p : Prop} (h : p) : Hid p := h
/-- A literal that waits. -/
structure Wr where
  kind : Int
  bound : Int
  free : Int
  at' : Int
def turnN (k f : Int) : Int := if k = 1 then 1 else if (2 ≤ k ∧ k ≤ 6) ∧ f = 0 then 0 else 2

set_option maxHeartbeats 1000000 in
theorem turn_any (x : Wr) (w : World) : Calls Try.prog 67 #[.agg #[.int .i64 x.kind, .int .i64 x.bound, .int .i64 x.free, .int .i64 x.at']] w fun e w' => e = .returned (.int .i64 (turnN x.kind x.free)) ∧ Below w.heap.size w w' := by
  obtain ⟨k, b, f, a⟩ := x
  dsimp only
  obtain ⟨V, hV⟩ : ∃ V : Int, turnN k f = V := ⟨_, rfl⟩
  rw [hV]
  have HV := hide hV
  clear hV
  have hc : k = 1 ∨ k = 2 ∨ k = 3 ∨ k = 4 ∨ k = 5 ∨ k = 6 ∨ (¬ k = 1 ∧ ¬ k = 2 ∧ ¬ k = 3 ∧ ¬ k = 4 ∧ ¬ k = 5 ∧ ¬ k = 6) := by omega
  have hf : f = 0 ∨ ¬ f = 0 := by omega
  rcases hf with rfl | hf
  all_goals rcases hc with rfl | rfl | rfl | rfl | rfl | rfl | ⟨h1, h2, h3, h4, h5, h6⟩
  all_goals
    go_enter Try.func67, Try.ntmps67
    go_wp2
    go_ret
    refine ⟨?_, (Below.refl _ w).alloc (Nat.le_refl _) _⟩
    rw [← HV.out]
    unfold turnN
    first
      | rfl
      | (rw [if_pos (by omega)]; rfl)
      | (rw [if_neg (by omega), if_pos (by omega)]; rfl)
      | (rw [if_neg (by omega), if_neg (by omega)]; rfl)
end Go.Proofs.Ytjejpjpdfdcnlaa.Qu
namespace Go.Proofs.Ytjejpjpdfdcnlaa.Qu
open Go.RowKit
open Vl (Fr)

/-- What a literal's turn hangs on, but for where it stands. -/
structure Kd where
  kind : Int
  bound : Int
  free : Int
def upd {α : Type} (f : Nat → α) (i : Nat) (v : α) : Nat → α := fun k => if k = i then v else f k
theorem upd_s {α : Type} (f : Nat → α) (i : Nat) (v : α) : upd f i v i = v := by simp [upd]
theorem upd_o {α : Type} (f : Nat → α) {i k : Nat} (v : α) (h : k ≠ i) : upd f i v k = f k := by simp [upd, h]

def rowP (f : Nat → Nat) (n : Nat) : List Value := (List.range n).map fun k => .int .i64 (f k : Int)
def cellW (x : Kd) (a : Int) : List Value := [.int .i64 x.kind, .int .i64 x.bound, .int .i64 x.free, .int .i64 a]
def rowW (g : Nat → Kd) (t : Nat → Int) (m : Nat) : List Value := (List.range m).flatMap fun a => cellW (g a) (t a)
theorem rowP_len (f : Nat → Nat) (n : Nat) : (rowP f n).length = n := by simp [rowP]
theorem rowP_get (f : Nat → Nat) {n k : Nat} (h : k < n) : (rowP f n)[k]? = some (.int .i64 (f k : Int)) := by simp [rowP, h]
theorem rowP_succ (f : Nat → Nat) (n : Nat) : rowP f (n + 1) = rowP f n ++ [.int .i64 (f n : Int)] := by simp [rowP, List.range_succ]
theorem rowW_succ (g : Nat → Kd) (t : Nat → Int) (m : Nat) : rowW g t (m + 1) = rowW g t m ++ cellW (g m) (t m) := by simp [rowW, List.range_succ]
theorem rowW_len (g : Nat → Kd) (t : Nat → Int) : ∀ m, (rowW g t m).length = m * 4
  | 0 => rfl
  | m + 1 => by rw [rowW_succ, List.length_append, rowW_len g t m]; simp [cellW]; omega
theorem rowW_get (g : Nat → Kd) (t : Nat → Int) : ∀ (m a i : Nat), a < m → i < 4 → (rowW g t m)[a * 4 + i]? = (cellW (g a) (t a))[i]?
  | 0, _, _, h, _ => absurd h (Nat.not_lt_zero _)
  | m + 1, a, i, h, hi => by
    have hl := rowW_len g t m
    rw [rowW_succ]
    by_cases e : a = m
    · subst e
      rw [List.getElem?_append_right (by omega), hl, Nat.add_sub_cancel_left]
    · rw [List.getElem?_append_left (by omega)]
      exact rowW_get g t m a i (by omega) hi
theorem rowP_congr {f f' : Nat → Nat} {n : Nat} (h : ∀ k, k < n → f k = f' k) : rowP f n = rowP f' n := by
  unfold rowP
  refine List.map_congr_left fun k hk => ?_
  rw [h k (List.mem_range.1 hk)]
theorem rowW_congr {g g' : Nat → Kd} {t t' : Nat → Int} : ∀ {m : Nat}, (∀ k, k < m → g k = g' k ∧ t k = t' k) → rowW g t m = rowW g' t' m
  | 0, _ => rfl
  | m + 1, h => by rw [rowW_succ, rowW_succ, rowW_congr (fun k hk => h k (by omega)), (h m (by omega)).1, (h m (by omega)).2]
theorem rowP_set (f : Nat → Nat) (n i v : Nat) : (rowP f n).set i (.int .i64 (v : Int)) = rowP (upd f i v) n := by
  apply List.ext_getElem?
  intro k
  by_cases hk : k < n
  · rw [rowP_get _ hk, List.getElem?_set]
    by_cases e : i = k
    · subst e; simp [rowP_len, hk, upd_s]
    · rw [if_neg e, rowP_get _ hk, upd_o _ _ (Ne.symm e)]
  · rw [List.getElem?_eq_none (by simp [rowP_len]; omega), List.getElem?_eq_none (by simp [rowP_len]; omega)]
theorem rowW_set3 (g : Nat → Kd) (t : Nat → Int) (m a : Nat) (v : Int) : (rowW g t m).set (a * 4 + 3) (.int .i64 v) = rowW g (upd t a v) m := by
  apply List.ext_getElem?
  intro k
  by_cases hk : k < m * 4
  · obtain ⟨b, i, hi, rfl⟩ : ∃ b i, i < 4 ∧ k = b * 4 + i := ⟨k / 4, k % 4, Nat.mod_lt _ (by omega), by omega⟩
    have hb : b < m := by omega
    rw [rowW_get _ _ _ _ _ hb hi, List.getElem?_set]
    by_cases e : a * 4 + 3 = b * 4 + i
    · have e1 : a = b := by omega
      have e2 : i = 3 := by omega
      subst e1; subst e2
      rw [if_pos rfl, if_pos (by rw [rowW_len]; omega), upd_s]
      rfl
    · rw [if_neg e, rowW_get _ _ _ _ _ hb hi]
      by_cases e1 : b = a
      · subst e1
        have h3 : i < 3 := by omega
        match i, h3 with
        | 0, _ => rfl
        | 1, _ => rfl
        | 2, _ => rfl
      · rw [upd_o _ _ e1]
  · rw [List.getElem?_eq_none (by rw [List.length_set, rowW_len]; omega), List.getElem?_eq_none (by rw [rowW_len]; omega)]
theorem rowW_set12 (g : Nat → Kd) (t : Nat → Int) (m a : Nat) (x y : Int) : ((rowW g t m).set (a * 4 + 1) (.int .i64 x)).set (a * 4 + 2) (.int .i64 y) = rowW (upd g a ⟨(g a).kind, x, y⟩) t m := by
  apply List.ext_getElem?
  intro k
  by_cases hk : k < m * 4
  · obtain ⟨b, i, hi, rfl⟩ : ∃ b i, i < 4 ∧ k = b * 4 + i := ⟨k / 4, k % 4, Nat.mod_lt _ (by omega), by omega⟩
    have hb : b < m := by omega
    rw [rowW_get _ _ _ _ _ hb hi, List.getElem?_set, List.getElem?_set]
    by_cases e1 : b = a
    · subst e1
      rw [upd_s]
      match i, hi with
      | 0, _ => rw [if_neg (by omega), if_neg (by omega), rowW_get _ _ _ _ _ hb (by omega)]; rfl
      | 1, _ => rw [if_neg (by omega), if_pos rfl, if_pos (by rw [rowW_len]; omega)]; rfl
      | 2, _ => rw [if_pos rfl, if_pos (by rw [List.length_set, rowW_len]; omega)]; rfl
      | 3, _ => rw [if_neg (by omega), if_neg (by omega), rowW_get _ _ _ _ _ hb (by omega)]; rfl
    · rw [if_neg (by omega), if_neg (by omega), rowW_get _ _ _ _ _ hb hi, upd_o _ _ e1]
  · rw [List.getElem?_eq_none (by rw [List.length_set, List.length_set, rowW_len]; omega), List.getElem?_eq_none (by rw [rowW_len]; omega)]

/-- A row of one's own, laid open. -/
theorem own_open {w : World} {e s n : Nat} {v : Value} {xs : List Value} (h : w.ownsRow 0 e s v n xs) (hn : 0 < n) : ∃ g cap, v = .slice (some ⟨g, 0, none⟩) n cap ∧ n ≤ cap ∧ cap ≤ maxLen ∧ (∀ j, j < n * s → w.cell? ⟨g, j, none⟩ = xs[j]?) ∧ (∀ j, w.frozen? ⟨g, j, none⟩ = false) := by
  rcases h.2 with ⟨_, h0⟩ | ⟨g, cap, cur, rfl, _, hg, h1, h2, h3, h4⟩
  · omega
  · refine ⟨g, cap, rfl, h1, h2, fun j hj => ?_, fun j => frozen_of_row w g j _ _ hg⟩
    rw [cell_of_row w g j _ _ _ hg, ← h4, List.getElem?_take, if_pos hj, Array.getElem?_toList]
theorem own_set {w : World} {e s n g cap j : Nat} {xs : List Value} (h : w.ownsRow 0 e s (.slice (some ⟨g, 0, none⟩) n cap) n xs) (u : Value) : (w.setCell ⟨g, j, none⟩ u).ownsRow 0 e s (.slice (some ⟨g, 0, none⟩) n cap) n (xs.set j u) := by
  refine ⟨by rw [List.length_set]; exact h.1, ?_⟩
  rcases h.2 with ⟨h0, _⟩ | ⟨g', cap', cur, hv, hb, hg, h1, h2, h3, h4⟩
  · cases h0
  · simp only [Value.slice.injEq, Option.some.injEq, Addr.mk.injEq, and_true, true_and] at hv
    obtain ⟨rfl, rfl⟩ := hv
    refine .inr ⟨g, cap, cur.setIfInBounds j u, rfl, hb, Vl.heap_set hg u, h1, h2, by simp [h3], ?_⟩
    rw [Array.toList_setIfInBounds, ← h4, List.take_set]
theorem own_cut {w : World} {e s n n' g cap : Nat} {xs xs' : List Value} (h : w.ownsRow 0 e s (.slice (some ⟨g, 0, none⟩) n cap) n xs) (hn : n' ≤ n) (hx : xs.take (n' * s) = xs') : w.ownsRow 0 e s (.slice (some ⟨g, 0, none⟩) n' cap) n' xs' := by
  have hl := h.1
  have hm : n' * s ≤ n * s := Nat.mul_le_mul_right s hn
  rcases h.2 with ⟨h0, _⟩ | ⟨g', cap', cur, hv, hb, hg, h1, h2, h3, h4⟩
  · cases h0
  · simp only [Value.slice.injEq, Option.some.injEq, Addr.mk.injEq, and_true, true_and] at hv
    obtain ⟨rfl, rfl⟩ := hv
    refine ⟨by rw [← hx, List.length_take, hl]; exact Nat.min_eq_left hm, .inr ⟨g, cap, cur, rfl, hb, hg, by omega, h2, h3, ?_⟩⟩
    rw [← hx, ← h4, List.take_take, Nat.min_eq_left hm]

/-- The queue in memory: its walk's block, its row of places, its row of literals; each that waits knows where it stands. -/
structure Q (w : World) (qb : Nat) (bv pv wv mv ov vv : Value) (f : Nat → Nat) (n : Nat) (g : Nat → Kd) (t : Nat → Int) (m : Nat) : Prop where
  b : w.heap[qb]? = some (.cells #[bv, pv, wv, mv, ov, vv] 54 (0, 0))
  p : w.ownsRow 0 3 1 pv n (rowP f n)
  x : w.ownsRow 0 76 4 wv m (rowW g t m)
  few : m ≤ 1000
  lt : ∀ k, k < n → f k < m
  at1 : ∀ k, k < n → t (f k) = (k : Int)
  at2 : ∀ a, a < m → (∀ k, k < n → f k ≠ a) → t a = -1
def FQ (pv wv : Value) : Nat → Prop := fun k => pv.ownBlock = some k ∨ wv.ownBlock = some k
variable {w w' : World} {qb : Nat} {bv pv wv mv ov vv : Value} {f : Nat → Nat} {n : Nat} {g : Nat → Kd} {t : Nat → Int} {m : Nat}
theorem Q.inj (h : Q w qb bv pv wv mv ov vv f n g t m) {i j : Nat} (hi : i < n) (hj : j < n) (e : f i = f j) : i = j := by
  have h1 := h.at1 i hi
  have h2 := h.at1 j hj
  rw [e, h2] at h1
  omega
theorem inj_card : ∀ (n m : Nat) (f : Nat → Nat), (∀ k, k < n → f k < m) → (∀ i j, i < n → j < n → f i = f j → i = j) → n ≤ m := by
  intro n m f h1 h2
  have hnd : ((List.range n).map f).Nodup := by
    rw [List.Nodup, List.pairwise_map]
    exact (List.pairwise_lt_range (n := n)).imp_of_mem (fun ha hb hlt e => by
      have := h2 _ _ (List.mem_range.1 ha) (List.mem_range.1 hb) e
      omega)
  have hs : (List.range n).map f ⊆ List.range m := by
    intro x hx
    obtain ⟨k, hk, rfl⟩ := List.mem_map.1 hx
    exact List.mem_range.2 (h1 k (List.mem_range.1 hk))
  have := List.Nodup.length_le_of_subset hnd hs
  simpa using this
theorem Q.nm (h : Q w qb bv pv wv mv ov vv f n g t m) : n ≤ m := inj_card n m f h.lt (fun _ _ hi hj e => h.inj hi hj e)
theorem own_blk {w : World} {b e s n : Nat} {v : Value} {xs : List Value} (h : w.ownsRow b e s v n xs) {k : Nat} (hk : v.ownBlock = some k) : ∃ cur, w.heap[k]? = some (.cells cur e (0, 0)) := by
  rcases h.2 with ⟨rfl, _⟩ | ⟨g, cap, cur, rfl, _, hg, _⟩
  · cases hk
  · simp [Value.ownBlock] at hk
    subst hk
    exact ⟨cur, hg⟩
theorem Q.pw (h : Q w qb bv pv wv mv ov vv f n g t m) {k : Nat} (hk : pv.ownBlock = some k) : wv.ownBlock ≠ some k := Vl.own_ne h.p h.x (by decide) hk
theorem Q.pq (h : Q w qb bv pv wv mv ov vv f n g t m) : pv.ownBlock ≠ some qb := fun e => by
  obtain ⟨c, hc⟩ := own_blk h.p e
  rw [h.b] at hc
  simp at hc
theorem Q.wq (h : Q w qb bv pv wv mv ov vv f n g t m) : wv.ownBlock ≠ some qb := fun e => by
  obtain ⟨c, hc⟩ := own_blk h.x e
  rw [h.b] at hc
  simp at hc
theorem Q.fq (h : Q w qb bv pv wv mv ov vv f n g t m) : ¬ FQ pv wv qb := fun e => e.elim h.pq h.wq
theorem Q.fr (h : Q w qb bv pv wv mv ov vv f n g t m) {F : Nat → Prop} (hf : Fr F w w') (h1 : ∀ k, FQ pv wv k → ¬ F k) (h2 : ¬ F qb) : Q w' qb bv pv wv mv ov vv f n g t m :=
  ⟨(hf.block qb (Array.getElem?_eq_some_iff.1 h.b).1 h2).trans h.b, Vl.own_kept h.p hf (fun k hk => h1 k (.inl hk)), Vl.own_kept h.x hf (fun k hk => h1 k (.inr hk)), h.few, h.lt, h.at1, h.at2⟩
theorem Q.below (h : Q w qb bv pv wv mv ov vv f n g t m) (hb : Below w.heap.size w w') : Q w' qb bv pv wv mv ov vv f n g t m := h.fr (F := fun _ => False) (Fr.of_below hb) (fun _ _ e => e) id
theorem Q.drew (h : Q w qb bv pv wv mv ov vv f n g t m) : Q w.drew qb bv pv wv mv ov vv f n g t m := h.below (Below.refl _ w).drew
end Go.Proofs.Ytjejpjpdfdcnlaa.Qu
namespace Go.Proofs.Ytjejpjpdfdcnlaa.Qu
open Go.RowKit
open Vl (Fr)
variable {w w' : World} {qb : Nat} {bv pv wv mv ov vv : Value} {f : Nat → Nat} {n : Nat} {g : Nat → Kd} {t : Nat → Int} {m : Nat}

/-- A literal's key: whose turn it is, how many of its terms are bound, its place. -/
abbrev Ky := (Int × Int) × Nat
def ltK (x y : Ky) : Bool := if x.1.1 = y.1.1 then (if x.1.1 = 1 ∧ x.1.2 ≠ y.1.2 then decide (y.1.2 < x.1.2) else decide (x.2 < y.2)) else decide (x.1.1 < y.1.1)
def kyOf (g : Nat → Kd) (a : Nat) : Ky := ((turnN (g a).kind (g a).free, (g a).bound), a)
theorem ltK_asym : ∀ a b, ltK a b = true → ltK b a = false := by
  rintro ⟨⟨t1, b1⟩, a1⟩ ⟨⟨t2, b2⟩, a2⟩
  unfold ltK
  dsimp only
  repeat' split
  all_goals simp only [decide_eq_true_eq, decide_eq_false_iff_not]
  all_goals omega
theorem ltK_ntr : ∀ a b c, ltK b a = false → ltK c b = false → ltK c a = false := by
  rintro ⟨⟨t1, b1⟩, a1⟩ ⟨⟨t2, b2⟩, a2⟩ ⟨⟨t3, b3⟩, a3⟩
  unfold ltK
  dsimp only
  repeat' split
  all_goals simp only [decide_eq_false_iff_not]
  all_goals omega
theorem ltK_ord : Hp.Ord ltK := ⟨ltK_asym, ltK_ntr⟩
theorem ltK_tot {x y : Ky} (h : x.2 ≠ y.2) (h1 : ltK x y = false) : ltK y x = true := by
  obtain ⟨⟨t1, b1⟩, a1⟩ := x
  obtain ⟨⟨t2, b2⟩, a2⟩ := y
  revert h h1
  unfold ltK
  dsimp only
  repeat' split
  all_goals simp only [decide_eq_false_iff_not, decide_eq_true_eq]
  all_goals omega

def wrOf (x : Kd) (a : Int) : Wr := ⟨x.kind, x.bound, x.free, a⟩
theorem Q.rows (h : Q w qb bv pv wv mv ov vv f n g t m) (hn : 0 < n) : ∃ gp cp gw cw, pv = .slice (some ⟨gp, 0, none⟩) n cp ∧ wv = .slice (some ⟨gw, 0, none⟩) m cw ∧ gp ≠ gw ∧ gp ≠ qb ∧ gw ≠ qb ∧
    (∀ k, k < n → w.cell? ⟨gp, k, none⟩ = some (.int .i64 (f k : Int))) ∧ (∀ a i, a < m → i < 4 → w.cell? ⟨gw, a * 4 + i, none⟩ = (cellW (g a) (t a))[i]?) ∧ (∀ j, w.frozen? ⟨gp, j, none⟩ = false) ∧ (∀ j, w.frozen? ⟨gw, j, none⟩ = false) ∧ (n : Int) ≤ 1000 ∧ (m : Int) ≤ 1000 := by
  have hm : 0 < m := by have := h.nm; omega
  obtain ⟨gp, cp, rfl, _, _, hp, hpf⟩ := own_open h.p hn
  obtain ⟨gw, cw, rfl, _, _, hw, hwf⟩ := own_open h.x hm
  refine ⟨gp, cp, gw, cw, rfl, rfl, fun e => ?_, fun e => ?_, fun e => ?_, fun k hk => ?_, fun a i ha hi => ?_, hpf, hwf, ?_, ?_⟩
  · subst e; exact h.pw (k := gp) rfl rfl
  · subst e; exact h.pq rfl
  · subst e; exact h.wq rfl
  · rw [hp k (by omega), rowP_get f hk]
  · rw [hw (a * 4 + i) (by omega), rowW_get g t m a i ha hi]
  · have := h.nm; have := h.few; omega
  · have := h.few; omega
end Go.Proofs.Ytjejpjpdfdcnlaa.Qu
namespace Go.Proofs.Ytjejpjpdfdcnlaa.Qu
open Go.RowKit
open Vl (Fr)
variable {w w' : World} {qb : Nat} {bv pv wv mv ov vv : Value} {f : Nat → Nat} {n : Nat} {g : Nat → Kd} {t : Nat → Int} {m : Nat}

theorem res0 {fn : Func} (h : fn.results = #[]) (tmps : Array Value) (w : World) : (results fn tmps).run Try.prog w = .ok (.tuple #[]) w := by
  simp [results, h]
theorem own_drew {w : World} {b e s n : Nat} {v : Value} {xs : List Value} (h : w.ownsRow b e s v n xs) : w.drew.ownsRow b e s v n xs := h
theorem fr_one (w : World) (b o : Nat) (u : Value) {F : Nat → Prop} (hb : F b) : Fr F w (w.setCell ⟨b, o, none⟩ u) := (Fr.refl F w).setCell (p := ⟨b, o, none⟩) (fun _ => hb) u
theorem own_of_cell {w : World} {b e s n : Nat} {v : Value} {xs : List Value} (h : w.ownsRow b e s v n xs) {F : Nat → Prop} {w' : World} (hf : Fr F w w') (hn : ∀ k, F k → v.ownBlock ≠ some k) : w'.ownsRow b e s v n xs := Vl.own_kept h hf (fun k hk hF => hn k hF hk)
theorem cell_same {w : World} {g i : Nat} {u v : Value} (h : w.cell? ⟨g, i, none⟩ = some v) : (w.setCell ⟨g, i, none⟩ u).cell? ⟨g, i, none⟩ = some u := by
  cases hb : w.heap[g]? with
  | none => simp [World.cell?, hb] at h
  | some ob =>
    cases ob with
    | cells cs T fr =>
      have h1 : cs[i]? = some v := by simpa [World.cell?, hb] using h
      have h2 : i < cs.size := (Array.getElem?_eq_some_iff.1 h1).1
      rw [cell_of_row _ g i _ _ _ (Vl.heap_set hb u)]
      simp [h2]
    | _ => simp [World.cell?, hb] at h
theorem cell_set2 {w : World} {g i j : Nat} {u v : Value} (hu : w.cell? ⟨g, i, none⟩ = some v) (hj : w.cell? ⟨g, j, none⟩ = some u) : (w.setCell ⟨g, i, none⟩ u).cell? ⟨g, j, none⟩ = some u := by
  by_cases e : i = j
  · subst e
    exact cell_same hu
  · exact (World.cell?_setCell_other _ _ _ _ (by first | (simp; done) | (simp; omega))).trans hj

theorem sw_at {f : Nat → Nat} {n i j : Nat} {t : Nat → Int} {m : Nat} (hi : i < n) (hj : j < n) (inj : ∀ i j, i < n → j < n → f i = f j → i = j) (a1 : ∀ k, k < n → t (f k) = (k : Int)) (a2 : ∀ a, a < m → (∀ k, k < n → f k ≠ a) → t a = -1) :
    (∀ k, k < n → (upd (upd t (f j) i) (f i) j) (Hp.sw f i j k) = (k : Int)) ∧ (∀ a, a < m → (∀ k, k < n → Hp.sw f i j k ≠ a) → (upd (upd t (f j) i) (f i) j) a = -1) := by
  refine ⟨fun k hk => ?_, fun a ha h => ?_⟩
  · by_cases e1 : k = j
    · subst e1
      rw [Hp.sw_r, upd_s]
    · by_cases e2 : k = i
      · subst e2
        rw [Hp.sw_l, upd_o _ _ (fun e => e1 (inj _ _ hj hk e).symm), upd_s]
      · rw [Hp.sw_o _ e2 e1, upd_o _ _ (fun e => e2 (inj _ _ hk hi e)), upd_o _ _ (fun e => e1 (inj _ _ hk hj e))]
        exact a1 k hk
  · have n1 : f i ≠ a := fun e => h j hj (by rw [Hp.sw_r]; exact e)
    have n2 : f j ≠ a := fun e => h i hi (by rw [Hp.sw_l]; exact e)
    rw [upd_o _ _ (Ne.symm n1), upd_o _ _ (Ne.symm n2)]
    refine a2 a ha fun k hk e => ?_
    by_cases e1 : k = j
    · subst e1; exact n2 e
    · by_cases e2 : k = i
      · subst e2; exact n1 e
      · exact h k hk (by rw [Hp.sw_o _ e2 e1]; exact e)
theorem upd_sw (f : Nat → Nat) (i j : Nat) : upd (upd f i (f j)) j (f i) = Hp.sw f i j := by
  funext k
  unfold upd Hp.sw
  by_cases h1 : k = j
  · subst h1
    by_cases h2 : k = i
    · subst h2; simp
    · simp [h2]
  · by_cases h2 : k = i
    · subst h2; simp [h1]
    · simp [h1, h2]

set_option maxHeartbeats 4000000 in
theorem swap_q (h : Q w qb bv pv wv mv ov vv f n g t m) {i j : Nat} (hi : i < n) (hj : j < n) :
    Calls Try.prog 71 #[.pointer (some ⟨qb, 1, none⟩), .int .i64 (i : Int), .int .i64 (j : Int)] w fun e w' => e = .returned (.tuple #[]) ∧ Q w' qb bv pv wv mv ov vv (Hp.sw f i j) n g (upd (upd t (f j) i) (f i) j) m ∧ Fr (FQ pv wv) w w' := by
  obtain ⟨gp, cp, gw, cw, rfl, rfl, n1, n2, n3, hp, hw, hpf, hwf, hn1, hm1⟩ := h.rows (by omega)
  have h1 : w.cell? ⟨qb, 1, none⟩ = some (.slice (some ⟨gp, 0, none⟩) n cp) := by rw [cell_of_row w qb 1 _ _ _ h.b]; rfl
  have pi := hp i hi
  have pj := hp j hj
  have fi := hpf i
  have fj := hpf j
  have li : (i : Int) < (n : Int) := by omega
  have lj : (j : Int) < (n : Int) := by omega
  have la : ((f i : Nat) : Int) < (m : Int) := by have := h.lt i hi; omega
  have lb : ((f j : Nat) : Int) < (m : Int) := by have := h.lt j hj; omega
  have pij := cell_set2 pi pj
  have HW1 : Hid (∀ u, ((w.setCell ⟨gp, i, none⟩ (.int .i64 (f j : Int))).setCell ⟨gp, j, none⟩ (.int .i64 (f i : Int))).drew = u →
      u.cell? ⟨qb, 1, none⟩ = some (.slice (some ⟨gp, 0, none⟩) n cp) ∧ u.cell? ⟨qb, 2, none⟩ = some (.slice (some ⟨gw, 0, none⟩) m cw) ∧ u.cell? ⟨gp, i, none⟩ = some (.int .i64 (f j : Int)) ∧ u.cell? ⟨gp, j, none⟩ = some (.int .i64 (f i : Int)) ∧ (∃ v, u.cell? ⟨gw, f j * 4 + 3, none⟩ = some v) ∧ u.frozen? ⟨gw, f j * 4 + 3, none⟩ = false ∧ Hid (Fr (FQ (.slice (some ⟨gp, 0, none⟩) n cp) (.slice (some ⟨gw, 0, none⟩) m cw)) w u ∧ u.ownsRow 0 3 1 (.slice (some ⟨gp, 0, none⟩) n cp) n (rowP (Hp.sw f i j) n) ∧ u.ownsRow 0 76 4 (.slice (some ⟨gw, 0, none⟩) m cw) m (rowW g t m))) := by
    rintro u rfl
    have hF : FQ (.slice (some ⟨gp, 0, none⟩) n cp) (.slice (some ⟨gw, 0, none⟩) m cw) gp := .inl rfl
    have hf : Fr (fun k => k = gp) w ((w.setCell ⟨gp, i, none⟩ (.int .i64 (f j : Int))).setCell ⟨gp, j, none⟩ (.int .i64 (f i : Int))).drew := (((Fr.refl (fun k => k = gp) w).setCell (p := ⟨gp, i, none⟩) (fun _ => rfl) _).setCell (p := ⟨gp, j, none⟩) (fun _ => rfl) _).drew
    refine ⟨hf.cell h1 (Ne.symm n2), ?_, ?_, ?_, ?_, ?_, ?_, ?_, ?_⟩
    · refine hf.cell ?_ (Ne.symm n2)
      rw [cell_of_row w qb 2 _ _ _ h.b]; rfl
    · show ((w.setCell ⟨gp, i, none⟩ _).setCell ⟨gp, j, none⟩ _).cell? _ = _
      by_cases e : j = i
      · subst e
        exact cell_same pij
      · exact (World.cell?_setCell_other _ _ _ _ (by first | (simp; done) | (simp; omega))).trans (cell_same pi)
    · exact cell_same pij
    · exact ⟨_, hf.cell (hw (f j) 3 (h.lt j hj) (by omega)) (Ne.symm n1)⟩
    · rw [hf.frozen (hw (f j) 3 (h.lt j hj) (by omega)) (Ne.symm n1)]; exact hwf _
    · exact hf.mono (fun x _ e => by subst e; exact hF)
    · have h2 := own_set (j := j) (own_set (j := i) h.p (.int .i64 (f j : Int))) (.int .i64 (f i : Int))
      rw [rowP_set, rowP_set, upd_sw] at h2
      exact h2
    · exact own_of_cell h.x hf (fun k hk e => by subst hk; simp [Value.ownBlock] at e; exact n1 e.symm)
  have HW2 : Hid (∀ u v x y, v = (u.setCell ⟨gw, f j * 4 + 3, none⟩ (.int .i64 (i : Int))).drew → u.cell? ⟨gw, f j * 4 + 3, none⟩ = some x → u.cell? ⟨qb, 1, none⟩ = some (.slice (some ⟨gp, 0, none⟩) n cp) → u.cell? ⟨gp, j, none⟩ = some y → (Fr (FQ (.slice (some ⟨gp, 0, none⟩) n cp) (.slice (some ⟨gw, 0, none⟩) m cw)) w u ∧ u.ownsRow 0 3 1 (.slice (some ⟨gp, 0, none⟩) n cp) n (rowP (Hp.sw f i j) n) ∧ u.ownsRow 0 76 4 (.slice (some ⟨gw, 0, none⟩) m cw) m (rowW g t m)) →
      v.cell? ⟨qb, 1, none⟩ = some (.slice (some ⟨gp, 0, none⟩) n cp) ∧ v.cell? ⟨gp, j, none⟩ = some y ∧ (∃ z, v.cell? ⟨gw, f i * 4 + 3, none⟩ = some z) ∧ v.frozen? ⟨gw, f i * 4 + 3, none⟩ = false ∧ Hid (Fr (FQ (.slice (some ⟨gp, 0, none⟩) n cp) (.slice (some ⟨gw, 0, none⟩) m cw)) w v ∧ v.ownsRow 0 3 1 (.slice (some ⟨gp, 0, none⟩) n cp) n (rowP (Hp.sw f i j) n) ∧ v.ownsRow 0 76 4 (.slice (some ⟨gw, 0, none⟩) m cw) m (rowW g (upd t (f j) i) m))) := by
    rintro u v x y rfl hx h1 hy ⟨k1, k2, k3⟩
    have hf : Fr (fun k => k = gw) u (u.setCell ⟨gw, f j * 4 + 3, none⟩ (.int .i64 (i : Int))).drew := ((Fr.refl (fun k => k = gw) u).setCell (p := ⟨gw, f j * 4 + 3, none⟩) (fun _ => rfl) _).drew
    have k4 := own_set (j := f j * 4 + 3) k3 (.int .i64 (i : Int))
    rw [rowW_set3] at k4
    have k4' : (u.setCell ⟨gw, f j * 4 + 3, none⟩ (.int .i64 (i : Int))).drew.ownsRow 0 76 4 (.slice (some ⟨gw, 0, none⟩) m cw) m (rowW g (upd t (f j) i) m) := k4
    obtain ⟨gw', cw', e, _, _, hc, hz⟩ := own_open k4' (by have := h.nm; omega)
    simp only [Value.slice.injEq, Option.some.injEq, Addr.mk.injEq, and_true, true_and] at e
    obtain ⟨rfl, rfl⟩ := e
    refine ⟨hf.cell h1 (Ne.symm n3), hf.cell hy n1, ⟨_, (hc _ ?_).trans (rowW_get g _ m (f i) 3 (h.lt i hi) (by omega))⟩, hz _, k1.trans hf (fun k _ e => .inr (by rw [e]; rfl)), own_of_cell k2 hf (fun k hk e => by subst hk; simp [Value.ownBlock] at e; exact n1 e), k4'⟩
    have := h.lt i hi
    omega
  have HQ := hide h
  clear hp hw hpf hwf h
  go_enter Try.func71, Try.ntmps71
  go_upto_region 0 with fail
  refine wp_region_noPanic ?_
  go_region
  refine NoPanic.normal ?_
  generalize hW : ((w.setCell ⟨gp, i, none⟩ (.int .i64 (f j : Int))).setCell ⟨gp, j, none⟩ (.int .i64 (f i : Int))).drew = w1
  obtain ⟨a1, a2, a3, a4, ⟨x, a5⟩, a6, H1⟩ := HW1.out w1 hW
  clear h1 pi pj fi fj pij HW1 hW
  go_wp2_with fail
  refine wp_region_noPanic ?_
  go_region
  refine NoPanic.normal ?_
  obtain ⟨w2, hW⟩ : ∃ w2, w2 = (w1.setCell ⟨gw, f j * 4 + 3, none⟩ (.int .i64 (i : Int))).drew := ⟨_, rfl⟩
  rw [← hW]
  obtain ⟨b1, b2, ⟨z, b3⟩, b4, H2⟩ := HW2.out w1 w2 x _ hW a5 a1 a4 H1.out
  have b5 : w2.cell? ⟨qb, 2, none⟩ = some (.slice (some ⟨gw, 0, none⟩) m cw) := by rw [hW]; exact (World.cell?_setCell_other _ _ _ _ (by first | (simp; done) | (simp; omega))).trans a2
  clear a1 a2 a3 a4 a5 a6 HW2 H1 hW
  go_wp2_with fail
  refine wp_region_noPanic ?_
  go_region
  refine NoPanic.normal ?_
  go_wp2_with fail
  refine bodyPost_end (res0 rfl _ _) rfl ?_
  obtain ⟨k1, k2, k3⟩ := H2.out
  have hf : Fr (fun k => k = gw) w2 (w2.setCell ⟨gw, f i * 4 + 3, none⟩ (.int .i64 (j : Int))).drew := ((Fr.refl (fun k => k = gw) w2).setCell (p := ⟨gw, f i * 4 + 3, none⟩) (fun _ => rfl) _).drew
  have k4 := own_set (j := f i * 4 + 3) k3 (.int .i64 (j : Int))
  rw [rowW_set3] at k4
  have hs := sw_at hi hj (fun a b ha hb => HQ.out.inj ha hb) HQ.out.at1 HQ.out.at2
  have hfr := k1.trans (G := fun k => k = gw) hf (fun k _ e => .inr (by rw [e]; rfl))
  refine ⟨rfl, ⟨(hfr.block qb (Array.getElem?_eq_some_iff.1 HQ.out.b).1 HQ.out.fq).trans HQ.out.b, own_of_cell k2 hf (fun k hk e => by subst hk; simp [Value.ownBlock] at e; exact n1 e), k4, HQ.out.few, fun k hk => ?_, hs.1, hs.2⟩, hfr⟩
  by_cases e1 : k = j
  · subst e1; rw [Hp.sw_r]; exact HQ.out.lt i hi
  · by_cases e2 : k = i
    · subst e2; rw [Hp.sw_l]; exact HQ.out.lt j hj
    · rw [Hp.sw_o _ e2 e1]; exact HQ.out.lt k hk
end Go.Proofs.Ytjejpjpdfdcnlaa.Qu
namespace Go.Proofs.Ytjejpjpdfdcnlaa.Qu
open Go.RowKit

theorem cell_alloc {w : World} {a : Addr} {v : Value} (h : w.cell? a = some v) : ∀ o, (w.alloc o).cell? a = some v := fun o => (World.cell?_of_block (((Below.refl w.heap.size w).alloc (Nat.le_refl _) o).block a.block (World.block_lt_of_cell? w a h))).trans h
theorem cell_alloc2 {w : World} {a : Addr} {v : Value} (h : w.cell? a = some v) : ∀ o o', ((w.alloc o).alloc o').cell? a = some v := fun o o' => cell_alloc (cell_alloc h o) o'
/-- Whose turn it is. -/
def lessB (x y : Wr) (a b : Nat) : Bool :=
  if turnN x.kind x.free = turnN y.kind y.free then (if turnN x.kind x.free = 1 ∧ x.bound ≠ y.bound then decide (y.bound < x.bound) else decide (a < b)) else decide (turnN x.kind x.free < turnN y.kind y.free)

/-- What Less reads. -/
structure Rd (w : World) (qb qo gp gw i j np nw cp cw a b : Nat) (x y : Wr) : Prop where
  h1 : w.cell? ⟨qb, qo, none⟩ = some (.slice (some ⟨gp, 0, none⟩) np cp)
  h2 : w.cell? ⟨qb, qo + 1, none⟩ = some (.slice (some ⟨gw, 0, none⟩) nw cw)
  pi : w.cell? ⟨gp, i, none⟩ = some (.int .i64 (a : Int))
  pj : w.cell? ⟨gp, j, none⟩ = some (.int .i64 (b : Int))
  x0 : w.cell? ⟨gw, a * 4, none⟩ = some (.int .i64 x.kind)
  x1 : w.cell? ⟨gw, a * 4 + 1, none⟩ = some (.int .i64 x.bound)
  x2 : w.cell? ⟨gw, a * 4 + 2, none⟩ = some (.int .i64 x.free)
  x3 : w.cell? ⟨gw, a * 4 + 3, none⟩ = some (.int .i64 x.at')
  y0 : w.cell? ⟨gw, b * 4, none⟩ = some (.int .i64 y.kind)
  y1 : w.cell? ⟨gw, b * 4 + 1, none⟩ = some (.int .i64 y.bound)
  y2 : w.cell? ⟨gw, b * 4 + 2, none⟩ = some (.int .i64 y.free)
  y3 : w.cell? ⟨gw, b * 4 + 3, none⟩ = some (.int .i64 y.at')
theorem cell_bel {w w' : World} {p : Addr} {x : Value} (h : w.cell? p = some x) (hb : Below w.heap.size w w') : w'.cell? p = some x :=
  (World.cell?_of_block (hb.block p.block (World.block_lt_of_cell? w p h))).trans h
abbrev Sc (u : World) (qb qo gp gw i j np nw cp cw a b : Nat) (x y : Wr) : Prop :=
  u.cell? ⟨qb, qo, none⟩ = some (.slice (some ⟨gp, 0, none⟩) np cp) ∧ u.cell? ⟨qb, qo + 1, none⟩ = some (.slice (some ⟨gw, 0, none⟩) nw cw) ∧ u.cell? ⟨gp, i, none⟩ = some (.int .i64 (a : Int)) ∧ u.cell? ⟨gp, j, none⟩ = some (.int .i64 (b : Int)) ∧
  u.cell? ⟨gw, a * 4, none⟩ = some (.int .i64 x.kind) ∧ u.cell? ⟨gw, a * 4 + 1, none⟩ = some (.int .i64 x.bound) ∧ u.cell? ⟨gw, a * 4 + 2, none⟩ = some (.int .i64 x.free) ∧ u.cell? ⟨gw, a * 4 + 3, none⟩ = some (.int .i64 x.at') ∧
  u.cell? ⟨gw, b * 4, none⟩ = some (.int .i64 y.kind) ∧ u.cell? ⟨gw, b * 4 + 1, none⟩ = some (.int .i64 y.bound) ∧ u.cell? ⟨gw, b * 4 + 2, none⟩ = some (.int .i64 y.free) ∧ u.cell? ⟨gw, b * 4 + 3, none⟩ = some (.int .i64 y.at')
theorem Rd.sc {w u : World} {qb qo gp gw i j np nw cp cw a b : Nat} {x y : Wr} (h : Rd w qb qo gp gw i j np nw cp cw a b x y) (hb : Below w.heap.size w u) : Sc u qb qo gp gw i j np nw cp cw a b x y :=
  ⟨cell_bel h.h1 hb, cell_bel h.h2 hb, cell_bel h.pi hb, cell_bel h.pj hb, cell_bel h.x0 hb, cell_bel h.x1 hb, cell_bel h.x2 hb, cell_bel h.x3 hb, cell_bel h.y0 hb, cell_bel h.y1 hb, cell_bel h.y2 hb, cell_bel h.y3 hb⟩

/-- The two that are held against one another, as Less keeps them. -/
def Tw (w : World) (p7 p8 : Nat) (x y : Wr) (u : World) : Prop := Below w.heap.size w u ∧ u.heap[p7]? = some (.cells #[.int .i64 x.kind, .int .i64 x.bound, .int .i64 x.free, .int .i64 x.at'] 76 (0, 0)) ∧ u.heap[p8]? = some (.cells #[.int .i64 y.kind, .int .i64 y.bound, .int .i64 y.free, .int .i64 y.at'] 76 (0, 0))
theorem Tw.a (w : World) (x y : Wr) : Tw w w.heap.size (w.heap.size + 1) x y ((w.alloc (.cells #[.int .i64 x.kind, .int .i64 x.bound, .int .i64 x.free, .int .i64 x.at'] 76)).alloc (.cells #[.int .i64 y.kind, .int .i64 y.bound, .int .i64 y.free, .int .i64 y.at'] 76)).drew := by
  refine ⟨(((Below.refl _ w).alloc (Nat.le_refl _) _).alloc (by simp) _).drew, ?_, ?_⟩
  · have h := heap_alloc_new w (.cells #[.int .i64 x.kind, .int .i64 x.bound, .int .i64 x.free, .int .i64 x.at'] 76)
    exact (((Below.refl (w.alloc (.cells #[.int .i64 x.kind, .int .i64 x.bound, .int .i64 x.free, .int .i64 x.at'] 76)).heap.size (w.alloc (.cells #[.int .i64 x.kind, .int .i64 x.bound, .int .i64 x.free, .int .i64 x.at'] 76))).alloc (Nat.le_refl _) (.cells #[.int .i64 y.kind, .int .i64 y.bound, .int .i64 y.free, .int .i64 y.at'] 76)).block w.heap.size (by simp)).trans h
  · have h := heap_alloc_new (w.alloc (.cells #[.int .i64 x.kind, .int .i64 x.bound, .int .i64 x.free, .int .i64 x.at'] 76)) (.cells #[.int .i64 y.kind, .int .i64 y.bound, .int .i64 y.free, .int .i64 y.at'] 76)
    rw [show (w.alloc (.cells #[.int .i64 x.kind, .int .i64 x.bound, .int .i64 x.free, .int .i64 x.at'] 76)).heap.size = w.heap.size + 1 by simp] at h
    exact h
theorem Tw.b (w : World) (x y : Wr) : Tw w (w.heap.size + 1) w.heap.size x y ((w.alloc (.cells #[.int .i64 y.kind, .int .i64 y.bound, .int .i64 y.free, .int .i64 y.at'] 76)).alloc (.cells #[.int .i64 x.kind, .int .i64 x.bound, .int .i64 x.free, .int .i64 x.at'] 76)).drew := by
  refine ⟨(((Below.refl _ w).alloc (Nat.le_refl _) _).alloc (by simp) _).drew, ?_, ?_⟩
  · have h := heap_alloc_new (w.alloc (.cells #[.int .i64 y.kind, .int .i64 y.bound, .int .i64 y.free, .int .i64 y.at'] 76)) (.cells #[.int .i64 x.kind, .int .i64 x.bound, .int .i64 x.free, .int .i64 x.at'] 76)
    rw [show (w.alloc (.cells #[.int .i64 y.kind, .int .i64 y.bound, .int .i64 y.free, .int .i64 y.at'] 76)).heap.size = w.heap.size + 1 by simp] at h
    exact h
  · have h := heap_alloc_new w (.cells #[.int .i64 y.kind, .int .i64 y.bound, .int .i64 y.free, .int .i64 y.at'] 76)
    exact (((Below.refl (w.alloc (.cells #[.int .i64 y.kind, .int .i64 y.bound, .int .i64 y.free, .int .i64 y.at'] 76)).heap.size (w.alloc (.cells #[.int .i64 y.kind, .int .i64 y.bound, .int .i64 y.free, .int .i64 y.at'] 76))).alloc (Nat.le_refl _) (.cells #[.int .i64 x.kind, .int .i64 x.bound, .int .i64 x.free, .int .i64 x.at'] 76)).block w.heap.size (by simp)).trans h

abbrev S8 (u : World) (p7 p8 : Nat) (x y : Wr) : Prop :=
  u.cell? ⟨p7, 0, none⟩ = some (.int .i64 x.kind) ∧ u.cell? ⟨p7, 1, none⟩ = some (.int .i64 x.bound) ∧ u.cell? ⟨p7, 2, none⟩ = some (.int .i64 x.free) ∧ u.cell? ⟨p7, 3, none⟩ = some (.int .i64 x.at') ∧
  u.cell? ⟨p8, 0, none⟩ = some (.int .i64 y.kind) ∧ u.cell? ⟨p8, 1, none⟩ = some (.int .i64 y.bound) ∧ u.cell? ⟨p8, 2, none⟩ = some (.int .i64 y.free) ∧ u.cell? ⟨p8, 3, none⟩ = some (.int .i64 y.at')
theorem Tw.s8 {w u : World} {p7 p8 : Nat} {x y : Wr} (h : Tw w p7 p8 x y u) : S8 u p7 p8 x y := by
  obtain ⟨_, h7, h8⟩ := h
  refine ⟨?_, ?_, ?_, ?_, ?_, ?_, ?_, ?_⟩
  · rw [cell_of_row u p7 0 _ 76 (0, 0) h7]; rfl
  · rw [cell_of_row u p7 1 _ 76 (0, 0) h7]; rfl
  · rw [cell_of_row u p7 2 _ 76 (0, 0) h7]; rfl
  · rw [cell_of_row u p7 3 _ 76 (0, 0) h7]; rfl
  · rw [cell_of_row u p8 0 _ 76 (0, 0) h8]; rfl
  · rw [cell_of_row u p8 1 _ 76 (0, 0) h8]; rfl
  · rw [cell_of_row u p8 2 _ 76 (0, 0) h8]; rfl
  · rw [cell_of_row u p8 3 _ 76 (0, 0) h8]; rfl
theorem Tw.below {w u v : World} {p7 p8 : Nat} {x y : Wr} (h : Tw w p7 p8 x y u) (hb : Below u.heap.size u v) : Tw w p7 p8 x y v :=
  ⟨h.1.trans (hb.mono h.1.size), (hb.block p7 (Array.getElem?_eq_some_iff.1 h.2.1).1).trans h.2.1, (hb.block p8 (Array.getElem?_eq_some_iff.1 h.2.2).1).trans h.2.2⟩

set_option maxHeartbeats 8000000 in
theorem less_core (qb qo gp gw i j np nw cp cw a b : Nat) (x y : Wr) (w : World) (h : Rd w qb qo gp gw i j np nw cp cw a b x y) (hi : (i : Int) < (np : Int)) (hj : (j : Int) < (np : Int)) (ha : (a : Int) < (nw : Int)) (hb : (b : Int) < (nw : Int)) :
    Calls Try.prog 68 #[.pointer (some ⟨qb, qo, none⟩), .int .i64 (i : Int), .int .i64 (j : Int)] w fun e w' => e = .returned (.bool (lessB x y a b)) ∧ Below w.heap.size w w' := by
  have HR := hide h
  have HA := hide (Tw.a w x y)
  have HB := hide (Tw.b w x y)
  clear h
  have h1 := HR.out.h1
  have h1a := cell_alloc h1
  have h1b := cell_alloc2 h1
  have h2 := HR.out.h2
  have h2a := cell_alloc h2
  have h2b := cell_alloc2 h2
  have pi := HR.out.pi
  have pia := cell_alloc pi
  have pib := cell_alloc2 pi
  have pj := HR.out.pj
  have pja := cell_alloc pj
  have pjb := cell_alloc2 pj
  have x0 := HR.out.x0
  have x0a := cell_alloc x0
  have x0b := cell_alloc2 x0
  have x1 := HR.out.x1
  have x1a := cell_alloc x1
  have x1b := cell_alloc2 x1
  have x2 := HR.out.x2
  have x2a := cell_alloc x2
  have x2b := cell_alloc2 x2
  have x3 := HR.out.x3
  have x3a := cell_alloc x3
  have x3b := cell_alloc2 x3
  have y0 := HR.out.y0
  have y0a := cell_alloc y0
  have y0b := cell_alloc2 y0
  have y1 := HR.out.y1
  have y1a := cell_alloc y1
  have y1b := cell_alloc2 y1
  have y2 := HR.out.y2
  have y2a := cell_alloc y2
  have y2b := cell_alloc2 y2
  have y3 := HR.out.y3
  have y3a := cell_alloc y3
  have y3b := cell_alloc2 y3
  go_enter Try.func68, Try.ntmps68
  go_upto_region 1 with fail
  go_cut [7, 8] from 9 to 34 (fun v7 v8 wc => ∃ p7 p8, v7 = .pointer (some ⟨p7, 0, none⟩) ∧ v8 = .pointer (some ⟨p8, 0, none⟩) ∧ Hid (Tw w p7 p8 x y wc))
  case first =>
    refine wp_region_noPanic ?_
    go_region
    all_goals
      refine NoPanic.normal ?_
      go_wp2_with fail
      go_meet
      first
        | exact ⟨w.heap.size, w.heap.size + 1, rfl, rfl, HA⟩
        | exact ⟨w.heap.size + 1, w.heap.size, rfl, rfl, HB⟩
  case rest =>
    obtain ⟨p7, p8, rfl, rfl, HT⟩ := hcut
    clear h1 h1a h1b h2 h2a h2b x0 x0a x0b x1 x1a x1b x2 x2a x2b x3 x3a x3b y0 y0a y0b y1 y1a y1b y2 y2a y2b y3 y3a y3b pi pia pib pj pja pjb HA HB
    have HLB : Hid (lessB x y a b = if turnN x.kind x.free = turnN y.kind y.free then (if turnN x.kind x.free = 1 ∧ x.bound ≠ y.bound then decide (y.bound < x.bound) else decide (a < b)) else decide (turnN x.kind x.free < turnN y.kind y.free)) := (rfl : _ = _)
    have HTX : Hid (∀ u, Tw w p7 p8 x y u → Calls Try.prog 67 #[.agg #[.int .i64 x.kind, .int .i64 x.bound, .int .i64 x.free, .int .i64 x.at']] u fun e w' => e = .returned (.int .i64 (turnN x.kind x.free)) ∧ S8 w' p7 p8 x y ∧ Hid (Tw w p7 p8 x y w')) := fun u hu => (turn_any x u).mono (by
      rintro e w' ⟨rfl, hb⟩
      exact ⟨rfl, (hu.below hb).s8, hu.below hb⟩)
    have HTY : Hid (∀ u, Tw w p7 p8 x y u → Calls Try.prog 67 #[.agg #[.int .i64 y.kind, .int .i64 y.bound, .int .i64 y.free, .int .i64 y.at']] u fun e w' => e = .returned (.int .i64 (turnN y.kind y.free)) ∧ S8 w' p7 p8 x y ∧ Hid (Tw w p7 p8 x y w')) := fun u hu => (turn_any y u).mono (by
      rintro e w' ⟨rfl, hb⟩
      exact ⟨rfl, (hu.below hb).s8, hu.below hb⟩)
    generalize turnN x.kind x.free = tx at *
    generalize turnN y.kind y.free = ty at *
    have HTd : Hid (Tw w p7 p8 x y wc.drew) := HT.out.below (Below.refl _ wc).drew
    have d0 := HTd.out.s8
    go_wp2_with fail
    refine wp_region_noPanic ?_
    go_region_held (fun u => S8 u p7 p8 x y) (first | exact d0 | exact d1 | exact d2)
      (first
        | (go_at_call 67; (with_reducible refine Calls.mono (HTX.out _ (by first | exact HW1.out | exact HTd.out)) ?_); rintro e w1 ⟨rfl, d1, HW1⟩)
        | (go_at_call 67; (with_reducible refine Calls.mono (HTY.out _ (by first | exact HW1.out | exact HTd.out)) ?_); rintro e w2 ⟨rfl, d2, HW1⟩))
    refine NoPanic.normal ?_
    clear d0 d1 d2 HTd HT
    by_cases htt : tx = ty
    · subst htt
      have HTX2 := hide (HTX.out w2 HW1.out)
      have HL2 : Hid (lessB x y a b = (if tx = 1 ∧ x.bound ≠ y.bound then decide (y.bound < x.bound) else decide (a < b))) := by
        show _ = _
        rw [HLB.out, if_pos rfl]
      clear HLB
      obtain ⟨s0, s1, s2, s3, -, s5, -, -⟩ := HW1.out.s8
      go_wp2_with fail
      refine Calls.mono HTX2.out ?_
      rintro e w3 ⟨rfl, d3, HW3⟩
      obtain ⟨z0, z1, z2, z3, y0', z5, y2', y3'⟩ := d3
      have h1 := cell_bel HR.out.h1 HW3.out.1
      have pi := cell_bel HR.out.pi HW3.out.1
      have pj := cell_bel HR.out.pj HW3.out.1
      have HBw := hide HW3.out.1
      clear HTX2 HTX HTY HW1 HW3 HR s0 s1 s2 s3 s5
      by_cases ht1 : tx = 1
      · by_cases hbb : x.bound = y.bound
        · have HL3 : Hid (lessB x y a b = decide (a < b)) := by show _ = _; rw [HL2.out, if_neg (fun h => h.2 hbb)]
          have g1 : (x.bound != y.bound) = false := by simp [hbb]
          go_wp2_with fail
          go_big_quiet (fail)
          go_wp2_with fail
          go_ret
          exact ⟨by rw [HL3.out]; rfl, HBw.out.trans ⟨rfl, rfl, rfl, Nat.le_refl _, fun _ _ => rfl⟩⟩
        · have HL3 : Hid (lessB x y a b = decide (y.bound < x.bound)) := by show _ = _; rw [HL2.out, if_pos ⟨ht1, hbb⟩]
          have g1 : (x.bound != y.bound) = true := by simpa using hbb
          go_wp2_with fail
          go_ret
          exact ⟨by rw [HL3.out]; rfl, HBw.out⟩
      · have HL3 : Hid (lessB x y a b = decide (a < b)) := by show _ = _; rw [HL2.out, if_neg (fun h => ht1 h.1)]
        go_wp2_with fail
        go_big_quiet (fail)
        go_wp2_with fail
        go_ret
        exact ⟨by rw [HL3.out]; rfl, HBw.out.trans ⟨rfl, rfl, rfl, Nat.le_refl _, fun _ _ => rfl⟩⟩
    · have HL2 : Hid (lessB x y a b = decide (tx < ty)) := by show _ = _; rw [HLB.out, if_neg htt]
      have g1 : (tx != ty) = true := by simpa using htt
      have HTd : Hid (Tw w p7 p8 x y w2.drew) := HW1.out.below (Below.refl _ w2).drew
      have d0 := HTd.out.s8
      clear HLB HW1
      go_wp2_with fail
      refine wp_region_noPanic ?_
      go_region_held (fun u => S8 u p7 p8 x y) (first | exact d0 | exact d1 | exact d2)
        (first
          | (go_at_call 67; (with_reducible refine Calls.mono (HTX.out _ (by first | exact HW1.out | exact HTd.out)) ?_); rintro e w3 ⟨rfl, d1, HW1⟩)
          | (go_at_call 67; (with_reducible refine Calls.mono (HTY.out _ (by first | exact HW1.out | exact HTd.out)) ?_); rintro e w4 ⟨rfl, d2, HW1⟩))
      refine NoPanic.normal ?_
      go_wp2_with fail
      go_ret
      exact ⟨by rw [HL2.out]; rfl, HW1.out.1⟩
end Go.Proofs.Ytjejpjpdfdcnlaa.Qu

/- A row of words in memory, and what 'append' of one word leaves; strings.Clone. The walk of the program's Scan. The walk of the reference's word, where the text begins with a small or great letter or a digit. The walk of the reference's word, where the text begins with a digit or a minus ahead of one. The walk of the reference's word, where the text begins with a sign or with what begins no word. -/
import Derived.Test.YtdmhajeaphnebaaPart01
import Derived.Maps.AppendAt
import Derived.Laws.AppendOwnNone
import Derived.Laws.Rows
import Derived.LoopN
namespace Go.Proofs.Ytdmhajeaphnebaa.Lx
open Go.RowKit

theorem wpList_append_run {P : Program} (w : World) {ops : Array Oper} {rest : List Oper} {o : Oper} {a : Act} {Q : Exit → Act → World → Prop} (hgd : o.guard = none) (d x : Operand) (dT sT : TypeId)
    (ho : o.op = .call { callee := .builtin .append, args := #[d, x], argTypes := #[dT, sT] }) (v u : Value) (hd : a.eval d = v) (hx : a.eval x = u) {v' : Value} {w' : World}
    (hr : (Builtin.append_ #[dT, sT] o.type #[v, u]).run P w = .ok v' w') (h : wpList P ops Q rest (a.put o.dst v') w') : wpList P ops Q (o :: rest) a w := by
  refine wpList_plain hgd fun _ hK => ?_
  unfold Oper.wp
  simp [execOp, ho, resolve, invoke, builtin, hd, hx, hr, Result.andThen]
  exact hK _ _ h

/-- A text out of its bytes. -/
def tx (x : List UInt8) : ByteArray := ⟨x.toArray⟩
theorem bs_tx (x : List UInt8) : bs (tx x) = x := rfl
theorem tx_bs (s : ByteArray) : tx (bs s) = s := rfl
theorem tx_size (x : List UInt8) : (tx x).size = x.length := rfl
theorem extract_tx (s : ByteArray) (a b : Nat) : s.extract a b = tx (((bs s).drop a).take (b - a)) := by
  rw [← tx_bs (s.extract a b), bs_extract]

def cellsW (L : List Wd) : List Value := L.flatMap fun t => [.int .i64 (t.1 : Int), .string (tx t.2.1), .int .i64 (t.2.2 : Int)]
theorem cellsW_len : ∀ L : List Wd, (cellsW L).length = L.length * 3
  | [] => rfl
  | t :: r => by
    have := cellsW_len r
    simp [cellsW] at this ⊢
    omega
theorem cellsW_append (a b : List Wd) : cellsW (a ++ b) = cellsW a ++ cellsW b := by simp [cellsW]
theorem cellsW_cons (t : Wd) (b : List Wd) : cellsW (t :: b) = .int .i64 (t.1 : Int) :: .string (tx t.2.1) :: .int .i64 (t.2.2 : Int) :: cellsW b := by simp [cellsW]
theorem cellsW_get (L : List Wd) (i : Nat) (h : i < L.length) : (cellsW L)[i * 3]? = some (.int .i64 (L[i].1 : Int)) ∧ (cellsW L)[i * 3 + 1]? = some (.string (tx L[i].2.1)) ∧ (cellsW L)[i * 3 + 2]? = some (.int .i64 (L[i].2.2 : Int)) := by
  have e : L = L.take i ++ L[i] :: L.drop (i + 1) := by simp
  have hl : (cellsW (L.take i)).length = i * 3 := by rw [cellsW_len]; simp; omega
  have e2 : cellsW L = cellsW (L.take i) ++ (.int .i64 (L[i].1 : Int) :: .string (tx L[i].2.1) :: .int .i64 (L[i].2.2 : Int) :: cellsW (L.drop (i + 1))) := by
    conv => lhs; rw [e]
    rw [cellsW_append, cellsW_cons]
  rw [e2]
  refine ⟨?_, ?_, ?_⟩
  · rw [List.getElem?_append_right (by omega), hl]; simp
  · rw [List.getElem?_append_right (by omega), hl, Nat.add_sub_cancel_left]; rfl
  · rw [List.getElem?_append_right (by omega), hl, Nat.add_sub_cancel_left]; rfl
theorem cellsW_one (L : List Wd) : ∀ u ∈ cellsW L, u.oneCell' = true := by
  intro u hu
  obtain ⟨t, _, hu⟩ := List.mem_flatMap.1 hu
  simp at hu
  rcases hu with rfl | rfl | rfl <;> rfl

theorem own_shape {w : World} {b e s n : Nat} {v : Value} {xs : List Value} (h : w.ownsRow b e s v n xs) : (v = .slice none 0 0 ∧ n = 0) ∨ ∃ g cap, v = .slice (some ⟨g, 0, none⟩) n cap ∧ n ≤ cap ∧ cap ≤ maxLen ∧ g < w.heap.size ∧ b ≤ g := by
  rcases h.2 with h | ⟨g, cap, cur, rfl, hb, hg, h1, h2, _⟩
  · exact .inl h
  · exact .inr ⟨g, cap, rfl, h1, h2, (Array.getElem?_eq_some_iff.1 hg).1, hb⟩
theorem own_below {w w' : World} {base e size n : Nat} {v : Value} {xs : List Value} (h : w.ownsRow base e size v n xs) (hb : Below w.heap.size w w') : w'.ownsRow base e size v n xs := by
  refine ⟨h.1, ?_⟩
  rcases h.2 with hn' | ⟨g, cap, cur, rfl, hbb, hgg, rest⟩
  · exact .inl hn'
  · refine .inr ⟨g, cap, cur, rfl, hbb, ?_, rest⟩
    rw [hb.block g (Array.getElem?_eq_some_iff.1 hgg).1]
    exact hgg
theorem below_box (w : World) (o : Obj) : Below w.heap.size w (w.alloc o) := (Below.refl _ _).alloc (Nat.le_refl _) o

/-- A row of words of the call's own, e the words' type; nothing else was turned. -/
structure Rw (e : TypeId) (w W : World) (v : Value) (L : List Wd) : Prop where
  row : W.ownsRow w.heap.size e 3 v L.length (cellsW L)
  below : Below w.heap.size w W
theorem Rw.keep {e : TypeId} {w W W' : World} {v : Value} {L : List Wd} (h : Rw e w W v L) (hb : Below W.heap.size W W') : Rw e w W' v L :=
  ⟨own_below h.row hb, h.below.trans (hb.mono h.below.size)⟩
theorem Rw.nil (e : TypeId) (w : World) : Rw e w w (.slice none 0 0) [] := ⟨⟨by simp [cellsW], .inl ⟨rfl, rfl⟩⟩, Below.refl _ _⟩
theorem Rw.slice {e : TypeId} {w W : World} {v : Value} {L : List Wd} (h : Rw e w W v L) : ∃ ao cap, v = .slice ao L.length cap ∧ (0 < L.length → ∃ g, ao = some ⟨g, 0, none⟩) := by
  rcases own_shape h.row with ⟨rfl, h0⟩ | ⟨g, cap, rfl, _⟩
  · exact ⟨none, 0, by rw [h0], fun hp => by omega⟩
  · exact ⟨_, cap, rfl, fun _ => ⟨g, rfl⟩⟩
theorem Rw.cells {e : TypeId} {w W : World} {g cap : Nat} {L : List Wd} (h : Rw e w W (.slice (some ⟨g, 0, none⟩) L.length cap) L) (i : Nat) (hi : i < L.length) :
    W.cell? ⟨g, i * 3, none⟩ = some (.int .i64 (L[i].1 : Int)) ∧ W.cell? ⟨g, i * 3 + 1, none⟩ = some (.string (tx L[i].2.1)) ∧ W.cell? ⟨g, i * 3 + 2, none⟩ = some (.int .i64 (L[i].2.2 : Int)) := by
  have hc := cellsW_get L i hi
  exact ⟨(h.row.cellAt _ (by omega)).trans hc.1, (h.row.cellAt _ (by omega)).trans hc.2.1, (h.row.cellAt _ (by omega)).trans hc.2.2⟩

theorem grown_below {w w' : World} {B : Nat} {row : Option Nat} (h : w.grownBy w' row) (hB : B ≤ w.heap.size) (hr : ∀ k, row = some k → B ≤ k) : Below B w w' :=
  ⟨h.os, h.tape, h.output, h.size, fun k hk => h.block k (by omega) (fun e => by have := hr k e.symm; omega)⟩

theorem push_any (t e : TypeId) (ht : Try.prog.underlying t = some (.slice e)) (hi : (Try.prog.info? e).map (fun i => (i.zero, i.size, i.bytes)) = some (some (.agg #[.int .i64 0, .string ⟨#[]⟩, .int .i64 0]), 3, 32))
    {w W : World} {v : Value} {L : List Wd} (h : Rw e w W v L) (x : Wd) (hl : L.length ≤ 1000000) :
    ∃ g cap w3, (∀ ty, (Builtin.append_ #[t, t] ty #[v, .slice (some ⟨W.heap.size, 0, none⟩) 1 1]).run Try.prog (W.alloc (.cells #[.int .i64 (x.1 : Int), .string (tx x.2.1), .int .i64 (x.2.2 : Int)] e)) = .ok (.slice (some ⟨g, 0, none⟩) (L.length + 1) cap) w3) ∧
      Hid (Rw e w w3 (.slice (some ⟨g, 0, none⟩) (L.length + 1) cap) (L ++ [x])) := by
  obtain ⟨i, hi, hz, hsize, hby⟩ := info_parts hi
  have ha := h.keep (below_box W (.cells #[.int .i64 (x.1 : Int), .string (tx x.2.1), .int .i64 (x.2.2 : Int)] e))
  have hsa : (W.alloc (.cells #[.int .i64 (x.1 : Int), .string (tx x.2.1), .int .i64 (x.2.2 : Int)] e)).heap.size = W.heap.size + 1 := by simp
  have hbs := h.below.size
  have H := fun ty => run_append_own_at (P := Try.prog) _ w.heap.size t ty e i _ 3 32 ht hi hz hsize hby rfl (by decide) v L.length (cellsW L) ha.row ⟨W.heap.size, 0, none⟩ 1 1 (cellsW [x]) rfl (fun j u hj => by
    rw [Addr.add_lit, Nat.zero_add, cell_of_row _ _ j _ _ _ (heap_alloc_new _ _)]
    simpa [cellsW] using hj) (cellsW_one [x]) (by simp only [maxLen]; omega) (by omega) (by omega)
  obtain ⟨v', w', hr, g1, g2, _, g4⟩ := H 0
  rw [← cellsW_append] at g1
  rcases own_shape g1 with ⟨_, h0⟩ | ⟨g', cap, rfl, _⟩
  · omega
  · refine ⟨g', cap, w', fun ty => hr, ⟨by rw [List.length_append]; exact g1, ?_⟩⟩
    refine ha.below.trans (grown_below g2 (by omega) fun k hk => ?_)
    rcases own_shape h.row with ⟨rfl, _⟩ | ⟨g0, cap0, rfl, _, _, _, hb⟩
    · simp [Value.ownBlock] at hk
    · simp [Value.ownBlock] at hk
      omega

theorem Try.info86 : (Try.prog.info? 86).map (fun i => (i.zero, i.size, i.bytes)) = some (some (.agg #[.int .i64 0, .string ⟨#[]⟩, .int .i64 0]), 3, 32) := by kernel_rfl

end Go.Proofs.Ytdmhajeaphnebaa.Lx
namespace Go.Proofs.Ytdmhajeaphnebaa.Lx
open Go.RowKit

theorem kindN_pos (n : Nat) : 1 ≤ kindN n ∧ kindN n ≤ 4 := by
  unfold kindN
  repeat' split
  all_goals omega

/-- What first says of the rest of a text, for the words from there on. -/
theorem first_says (S : List UInt8) (a : Nat) (h : a < S.length) (hb : blankN (S.getD a 0).toNat = false) (hn : (S.getD a 0).toNat ≠ 37) :
    (firstK (S.drop a) = 0 ∧ scanAt S a = none) ∨ (1 ≤ firstK (S.drop a) ∧ 1 ≤ firstN (S.drop a) ∧ firstN (S.drop a) ≤ 16 ∧ a + firstN (S.drop a) ≤ S.length ∧
      scanAt S a = (scanAt S (a + firstN (S.drop a))).map (fun r => (firstK (S.drop a), (S.drop a).take (firstN (S.drop a)), a) :: r)) := by
  by_cases hs : sizeL (S.drop a) = 0 ∨ 16 < sizeL (S.drop a)
  · left
    exact ⟨if_pos hs, scanAt_bad S a h hb hn hs⟩
  · right
    have e1 : firstK (S.drop a) = kindL (S.drop a) := if_neg hs
    have e2 : firstN (S.drop a) = sizeL (S.drop a) := if_neg hs
    have hl := sizeL_le (S.drop a)
    rw [List.length_drop] at hl
    rw [e1, e2]
    exact ⟨(kindN_pos _).1, by omega, by omega, by omega, scanAt_word S a h hb hn (by omega) (by omega)⟩

/-- What Scan gives: an error, or a row of the words. -/
def Sc (e : TypeId) (s : ByteArray) (w : World) (r : Ending) (w' : World) : Prop :=
  (∃ v L, scanAt (bs s) 0 = some L ∧ r = .returned (.tuple #[v, .int .i64 0]) ∧ Rw e w w' v L) ∨ (scanAt (bs s) 0 = none ∧ r = .returned (.tuple #[.slice none 0 0, .int .i64 4]) ∧ Below w.heap.size w w')

theorem map_snoc {α : Type} (o : Option (List α)) (L : List α) (x : α) : (o.map (fun r => x :: r)).map (fun r => L ++ r) = o.map (fun r => (L ++ [x]) ++ r) := by
  cases o <;> simp

end Go.Proofs.Ytdmhajeaphnebaa.Lx
namespace Go.Proofs.Ytdmhajeaphnebaa.Lx
open Go.RowKit

/-- What the reference's word gives. -/
def Wr (s : ByteArray) (w : World) (r : Ending) (w' : World) : Prop :=
  r = .returned (.tuple #[.int .i64 ((sizeL (bs s) : Nat) : Int), .int .i64 ((if sizeL (bs s) = 0 then 0 else kindL (bs s) : Nat) : Int)]) ∧ Below w.heap.size w w'

theorem wr_of {s : ByteArray} {w : World} {n k : Nat} (h1 : sizeL (bs s) = n) (h2 : n = 0 ∨ kindL (bs s) = k) (h3 : n = 0 → k = 0) (w' : World) (hb : Below w.heap.size w w') : Wr s w (.returned (.tuple #[.int .i64 (n : Int), .int .i64 (k : Int)])) w' := by
  refine ⟨?_, hb⟩
  rw [h1]
  by_cases h : n = 0
  · rw [if_pos h, h3 h]
  · rw [if_neg h, h2.resolve_left h]

theorem wr_of' {s : ByteArray} {w : World} {N K : Int} (n k : Nat) (hn : N = n) (hk : K = k) (h1 : sizeL (bs s) = n) (h2 : n = 0 ∨ kindL (bs s) = k) (h3 : n = 0 → k = 0) (w' : World) (hb : Below w.heap.size w w') : Wr s w (.returned (.tuple #[.int .i64 N, .int .i64 K])) w' := by
  subst hn hk
  exact wr_of h1 h2 h3 w' hb

theorem more_of {p : Nat → Bool} {s : ByteArray} {k : Nat} (h : ∀ j, j < k → p (bt s j) = true) (hk : p (bt s k) = true) : ∀ j, j < k + 1 → p (bt s j) = true := by
  intro j hj
  by_cases e : j < k
  · exact h j e
  · have : j = k := by omega
    rw [this]; exact hk

theorem start_of {p : Nat → Bool} {s : ByteArray} (h : p (bt s 0) = true) : ∀ j, j < 1 → p (bt s j) = true := by
  intro j hj
  have : j = 0 := by omega
  rw [this]; exact h

set_option maxHeartbeats 4000000 in
theorem word_small (s : ByteArray) (w : World) (h0 : 0 < s.size) (hs : s.size ≤ 4000) (hc : smallN (bt s 0) = true) :
    Calls Try.prog 37 #[.string s] w fun e w' => Wr s w e w' := by
  have b0 := bt_at s 0 h0
  have HK : Hid (kindL (bs s) = 1) := show kindL (bs s) = 1 from if_pos hc
  have HC : Hid _ := hc
  go_enter Try.func37, Try.ntmps37
  go_wp2_with (go_at_call 46; refine (rsmall_any _ _).mono ?_; rintro e w' ⟨rfl, hw⟩; have hw' := hw.symm; subst hw'; clear hw; rw [hc])
  go_loopw [4] (fun i wr => ∃ k : Nat, 1 ≤ k ∧ k ≤ s.size ∧ i = .int .i64 k ∧ Hid (∀ j, j < k → nameN (bt s j) = true) ∧ wr = w) (fun i _ => s.size - (intOf i).toNat)
  case atStart => exact ⟨1, Nat.le_refl _, h0, rfl, start_of (by simp [nameN, HC.out]), rfl⟩
  case round =>
    obtain ⟨k, hk1, hk, rfl, hh, hw⟩ := hrel
    have hw' := hw.symm
    subst hw'
    clear hc
    have done : (k = s.size ∨ nameN (bt s k) = false) → sizeL (bs s) = k := fun e => by
      rw [sizeL, if_pos HK.out]
      exact runP_eq nameN (bs s) k hk hh.out e
    have DN : Hid _ := done
    clear done
    by_cases hlt : k < s.size
    · have bk := bt_at s k hlt
      have hltI : (k : Int) < (s.size : Int) := by omega
      cases a1 : smallN (bt s k) <;> cases a2 : digitN (bt s k) <;> by_cases a3 : bt s k = 95
      all_goals (try (have a3' : ((bt s k : Int) == 95) = true := by rw [a3]; rfl))
      all_goals (try (have a3' : ((bt s k : Int) == 95) = false := by simp; omega))
      all_goals (first | (have HG : Hid (nameN (bt s k) = true) := by show nameN (bt s k) = true; simp [nameN, a1, a2, a3]) | (have HG : Hid (nameN (bt s k) = false) := by show nameN (bt s k) = false; simp [nameN, a1, a2, a3]))
      all_goals (have A3 : Hid _ := a3; clear a3)
      all_goals (go_wp2_with (first
        | (go_at_call 46; refine (rsmall_any _ _).mono ?_; rintro e w' ⟨rfl, hw⟩; have hw' := hw.symm; subst hw'; clear hw; rw [a1])
        | (go_at_call 47; refine (rdigit_any _ _).mono ?_; rintro e w' ⟨rfl, hw⟩; have hw' := hw.symm; subst hw'; clear hw; rw [a2])))
      all_goals first
        | (go_roundw
           case rel => exact ⟨k + 1, by omega, by omega, by go_num, more_of hh.out HG.out, trivial⟩
           case measure => simp [intOf]; omega)
        | (go_ret2
           exact wr_of' k 1 rfl rfl (DN.out (Or.inr HG.out)) (Or.inr HK.out) (fun h => by omega) _ (Below.refl _ _))
    · have hke : k = s.size := by omega
      subst hke
      go_wp2_with fail
      go_ret2
      exact wr_of' s.size 1 rfl rfl (DN.out (Or.inl trivial)) (Or.inr HK.out) (fun h => by omega) _ (Below.refl _ _)

set_option maxHeartbeats 4000000 in
theorem word_great (s : ByteArray) (w : World) (h0 : 0 < s.size) (hs : s.size ≤ 4000) (h1 : smallN (bt s 0) = false) (hc : greatN (bt s 0) = true) :
    Calls Try.prog 37 #[.string s] w fun e w' => Wr s w e w' := by
  have b0 := bt_at s 0 h0
  have HK : Hid (kindL (bs s) = 2) := show kindL (bs s) = 2 from (if_neg (by rw [show smallN ((bs s).getD 0 0).toNat = false from h1]; decide)).trans (if_pos hc)
  have HC : Hid _ := hc
  go_enter Try.func37, Try.ntmps37
  go_wp2_with (first
    | (go_at_call 46; refine (rsmall_any _ _).mono ?_; rintro e w' ⟨rfl, hw⟩; have hw' := hw.symm; subst hw'; clear hw; rw [h1])
    | (go_at_call 48; refine (rgreat_any _ _).mono ?_; rintro e w' ⟨rfl, hw⟩; have hw' := hw.symm; subst hw'; clear hw; rw [hc]))
  go_loopw [4] (fun i wr => ∃ k : Nat, 1 ≤ k ∧ k ≤ s.size ∧ i = .int .i64 k ∧ Hid (∀ j, j < k → varN (bt s j) = true) ∧ wr = w) (fun i _ => s.size - (intOf i).toNat)
  case atStart => exact ⟨1, Nat.le_refl _, h0, rfl, start_of (by simp [varN, HC.out]), rfl⟩
  case round =>
    obtain ⟨k, hk1, hk, rfl, hh, hw⟩ := hrel
    have hw' := hw.symm
    subst hw'
    clear hc
    have done : (k = s.size ∨ varN (bt s k) = false) → sizeL (bs s) = k := fun e => by
      rw [sizeL, if_neg (by rw [HK.out]; decide), if_pos HK.out]
      exact runP_eq varN (bs s) k hk hh.out e
    have DN : Hid _ := done
    clear done
    by_cases hlt : k < s.size
    · have bk := bt_at s k hlt
      have hltI : (k : Int) < (s.size : Int) := by omega
      cases a1 : smallN (bt s k) <;> cases a2 : digitN (bt s k) <;> cases a4 : greatN (bt s k) <;> by_cases a3 : bt s k = 95
      all_goals (try (have a3' : ((bt s k : Int) == 95) = true := by rw [a3]; rfl))
      all_goals (try (have a3' : ((bt s k : Int) == 95) = false := by simp; omega))
      all_goals (first | (have HG : Hid (varN (bt s k) = true) := by show varN (bt s k) = true; simp [varN, nameN, a1, a2, a3, a4]) | (have HG : Hid (varN (bt s k) = false) := by show varN (bt s k) = false; simp [varN, nameN, a1, a2, a3, a4]))
      all_goals (have A3 : Hid _ := a3; clear a3)
      all_goals (go_wp2_with (first
        | (go_at_call 46; refine (rsmall_any _ _).mono ?_; rintro e w' ⟨rfl, hw⟩; have hw' := hw.symm; subst hw'; clear hw; rw [a1])
        | (go_at_call 47; refine (rdigit_any _ _).mono ?_; rintro e w' ⟨rfl, hw⟩; have hw' := hw.symm; subst hw'; clear hw; rw [a2])
        | (go_at_call 48; refine (rgreat_any _ _).mono ?_; rintro e w' ⟨rfl, hw⟩; have hw' := hw.symm; subst hw'; clear hw; rw [a4])))
      all_goals first
        | (go_roundw
           case rel => exact ⟨k + 1, by omega, by omega, by go_num, more_of hh.out HG.out, trivial⟩
           case measure => simp [intOf]; omega)
        | (go_ret2
           exact wr_of' k 2 rfl rfl (DN.out (Or.inr HG.out)) (Or.inr HK.out) (fun h => by omega) _ (Below.refl _ _))
    · have hke : k = s.size := by omega
      subst hke
      go_wp2_with fail
      go_ret2
      exact wr_of' s.size 2 rfl rfl (DN.out (Or.inl trivial)) (Or.inr HK.out) (fun h => by omega) _ (Below.refl _ _)

end Go.Proofs.Ytdmhajeaphnebaa.Lx
namespace Go.Proofs.Ytdmhajeaphnebaa.Lx
open Go.RowKit

theorem kind_num {s : ByteArray} (h1 : smallN (bt s 0) = false) (h2 : greatN (bt s 0) = false) (h3 : digitN (bt s 0) = true ∨ bt s 0 = 45) : kindL (bs s) = 3 := by
  have e1 : smallN ((bs s).getD 0 0).toNat = false := h1
  have e2 : greatN ((bs s).getD 0 0).toNat = false := h2
  have e3 : digitN ((bs s).getD 0 0).toNat = true ∨ ((bs s).getD 0 0).toNat = 45 := h3
  rw [kindL, kindN, if_neg (by rw [e1]; decide), if_neg (by rw [e2]; decide), if_pos e3]

theorem size_num {s : ByteArray} (h : kindL (bs s) = 3) : sizeL (bs s) = numL (bs s) := by
  rw [sizeL, if_neg (by rw [h]; decide), if_neg (by rw [h]; decide), if_pos h]

theorem num_zero {s : ByteArray} (h0 : 0 < s.size) (h : bt s 0 = 48) : numL (bs s) = 1 := by
  have e := drop_cons (bs s) 0 h0
  rw [List.drop_zero] at e
  have h' : ((bs s).getD 0 0).toNat = 48 := h
  rw [e]
  simp only [numL, if_pos h']

/-- A number without a minus: as far as there are digits. -/
theorem num_digits {s : ByteArray} (h0 : 0 < s.size) (h : digitN (bt s 0) = true) (hz : bt s 0 ≠ 48) (k : Nat) (hk : k ≤ s.size) (hh : ∀ j, j < k → digitN (bt s j) = true) (he : k = s.size ∨ digitN (bt s k) = false) : numL (bs s) = k := by
  have e := drop_cons (bs s) 0 h0
  rw [List.drop_zero] at e
  have h1 : ¬ ((bs s).getD 0 0).toNat = 48 := hz
  have h2 : ¬ ((bs s).getD 0 0).toNat = 45 := fun x => by
    have : bt s 0 = 45 := x
    rw [this] at h; exact absurd h (by decide)
  rw [e]
  simp only [numL, if_neg h1, if_neg h2]
  rw [← e]
  exact runP_eq digitN (bs s) k hk hh he

/-- A minus and digits behind it. -/
theorem num_minus {s : ByteArray} (h0 : 1 < s.size) (h : bt s 0 = 45) (h1 : digitN (bt s 1) = true) (hz : bt s 1 ≠ 48) (k : Nat) (hk2 : 2 ≤ k) (hk : k ≤ s.size) (hh : ∀ j, 1 ≤ j → j < k → digitN (bt s j) = true) (he : k = s.size ∨ digitN (bt s k) = false) : numL (bs s) = k := by
  have e0 := drop_cons (bs s) 0 (by rw [bs_length]; omega)
  have e1 := drop_cons (bs s) 1 (by rw [bs_length]; omega)
  rw [List.drop_zero] at e0
  have g0 : ((bs s).getD 0 0).toNat = 45 := h
  have g1 : ¬ ((bs s).getD 1 0).toNat = 48 := hz
  have g2 : digitN ((bs s).getD 1 0).toNat = true := h1
  have hr : runP digitN ((bs s).drop 2) = k - 2 := by
    refine runP_eq digitN _ (k - 2) (by rw [List.length_drop, bs_length]; omega) (fun j hj => ?_) ?_
    · have := hh (j + 2) (by omega) (by omega)
      simpa [bt, List.getD, List.getElem?_drop, Nat.add_comm] using this
    · rcases he with he | he
      · left; rw [List.length_drop, bs_length]; omega
      · right
        have e : 2 + (k - 2) = k := by omega
        simpa [bt, List.getD, List.getElem?_drop, e] using he
  rw [e0, e1]
  simp only [numL]
  rw [if_neg (by rw [g0]; decide), if_pos g0, if_neg g1, if_pos g2, hr]
  omega

theorem num_nought {s : ByteArray} (h0 : 1 < s.size) (h : bt s 0 = 45) (hz : bt s 1 = 48) : numL (bs s) = 0 := by
  have e0 := drop_cons (bs s) 0 (by rw [bs_length]; omega)
  have e1 := drop_cons (bs s) 1 (by rw [bs_length]; omega)
  rw [List.drop_zero] at e0
  have g0 : ((bs s).getD 0 0).toNat = 45 := h
  have g1 : ((bs s).getD 1 0).toNat = 48 := hz
  rw [e0, e1]
  simp only [numL]
  rw [if_neg (by rw [g0]; decide), if_pos g0, if_pos g1]

set_option maxHeartbeats 4000000 in
theorem word_digit (s : ByteArray) (w : World) (h0 : 0 < s.size) (hs : s.size ≤ 4000) (h1 : smallN (bt s 0) = false) (h2 : greatN (bt s 0) = false) (hc : digitN (bt s 0) = true) :
    Calls Try.prog 37 #[.string s] w fun e w' => Wr s w e w' := by
  have b0 := bt_at s 0 h0
  have HK : Hid (kindL (bs s) = 3) := kind_num h1 h2 (Or.inl hc)
  have HC : Hid _ := hc
  have g45 : ((bt s 0 : Int) == 45) = false := by
    have : bt s 0 ≠ 45 := fun x => by rw [x] at hc; exact absurd hc (by decide)
    simp; omega
  by_cases hz : bt s 0 = 48
  · have g48 : ((bt s 0 : Int) == 48) = true := by rw [hz]; rfl
    have HZ : Hid _ := hz
    clear hz
    go_enter Try.func37, Try.ntmps37
    go_wp2_with (first
    | (go_at_call 46; refine (rsmall_any _ _).mono ?_; rintro e w' ⟨rfl, hw⟩; have hw' := hw.symm; subst hw'; clear hw; rw [h1])
    | (go_at_call 48; refine (rgreat_any _ _).mono ?_; rintro e w' ⟨rfl, hw⟩; have hw' := hw.symm; subst hw'; clear hw; rw [h2])
    | (go_at_call 47; refine (rdigit_any _ _).mono ?_; rintro e w' ⟨rfl, hw⟩; have hw' := hw.symm; subst hw'; clear hw; rw [hc]))
    go_ret2
    exact wr_of' 1 3 rfl rfl ((size_num HK.out).trans (num_zero h0 HZ.out)) (Or.inr HK.out) (fun h => by omega) _ (Below.refl _ _)
  have g48 : ((bt s 0 : Int) == 48) = false := by simp; omega
  have HZ : Hid _ := hz
  clear hz
  go_enter Try.func37, Try.ntmps37
  go_wp2_with (first
    | (go_at_call 46; refine (rsmall_any _ _).mono ?_; rintro e w' ⟨rfl, hw⟩; have hw' := hw.symm; subst hw'; clear hw; rw [h1])
    | (go_at_call 48; refine (rgreat_any _ _).mono ?_; rintro e w' ⟨rfl, hw⟩; have hw' := hw.symm; subst hw'; clear hw; rw [h2])
    | (go_at_call 47; refine (rdigit_any _ _).mono ?_; rintro e w' ⟨rfl, hw⟩; have hw' := hw.symm; subst hw'; clear hw; rw [hc]))
  go_loopw [4] (fun i wr => ∃ k : Nat, 1 ≤ k ∧ k ≤ s.size ∧ i = .int .i64 k ∧ Hid (∀ j, j < k → digitN (bt s j) = true) ∧ wr = w) (fun i _ => s.size - (intOf i).toNat)
  case atStart => exact ⟨1, Nat.le_refl _, h0, rfl, start_of HC.out, rfl⟩
  case round =>
    obtain ⟨k, hk1, hk, rfl, hh, hw⟩ := hrel
    have hw' := hw.symm
    subst hw'
    clear hc h1 h2 g45 g48
    have done : (k = s.size ∨ digitN (bt s k) = false) → sizeL (bs s) = k := fun e => by
      rw [size_num HK.out]
      exact num_digits h0 HC.out HZ.out k hk hh.out e
    have DN : Hid _ := done
    clear done
    by_cases hlt : k < s.size
    · have bk := bt_at s k hlt
      have hltI : (k : Int) < (s.size : Int) := by omega
      cases a1 : digitN (bt s k)
      all_goals (go_wp2_with (go_at_call 47; refine (rdigit_any _ _).mono ?_; rintro e w' ⟨rfl, hw⟩; have hw' := hw.symm; subst hw'; clear hw; rw [a1]))
      · go_ret2
        exact wr_of' k 3 rfl rfl (DN.out (Or.inr a1)) (Or.inr HK.out) (fun h => by omega) _ (Below.refl _ _)
      · go_roundw
        case rel => exact ⟨k + 1, by omega, by omega, by go_num, more_of hh.out a1, trivial⟩
        case measure => simp [intOf]; omega
    · have hke : k = s.size := by omega
      subst hke
      go_wp2_with fail
      go_ret2
      exact wr_of' s.size 3 rfl rfl (DN.out (Or.inl trivial)) (Or.inr HK.out) (fun h => by omega) _ (Below.refl _ _)

theorem more_from {p : Nat → Bool} {s : ByteArray} {k : Nat} (h : ∀ j, 1 ≤ j → j < k → p (bt s j) = true) (hk : p (bt s k) = true) : ∀ j, 1 ≤ j → j < k + 1 → p (bt s j) = true := by
  intro j h1 hj
  by_cases e : j < k
  · exact h j h1 e
  · have : j = k := by omega
    rw [this]; exact hk
theorem start_from {p : Nat → Bool} {s : ByteArray} (h : p (bt s 1) = true) : ∀ j, 1 ≤ j → j < 2 → p (bt s j) = true := by
  intro j h1 hj
  have : j = 1 := by omega
  rw [this]; exact h

set_option maxHeartbeats 4000000 in
theorem word_minus (s : ByteArray) (w : World) (h0 : 0 < s.size) (hl : 1 < s.size) (hs : s.size ≤ 4000) (h1 : smallN (bt s 0) = false) (h2 : greatN (bt s 0) = false) (hc : digitN (bt s 0) = false) (hm : bt s 0 = 45) (hd : digitN (bt s 1) = true) :
    Calls Try.prog 37 #[.string s] w fun e w' => Wr s w e w' := by
  have b0 := bt_at s 0 h0
  have b1 := bt_at s 1 hl
  have HK : Hid (kindL (bs s) = 3) := kind_num h1 h2 (Or.inr hm)
  have HD : Hid _ := hd
  have g45 : ((bt s 0 : Int) == 45) = true := by rw [hm]; rfl
  have gl : (1 : Int) < (s.size : Int) := by omega
  have HM : Hid _ := hm
  clear hm
  by_cases hz : bt s 1 = 48
  · have g48 : ((bt s 1 : Int) == 48) = true := by rw [hz]; rfl
    have HZ : Hid _ := hz
    clear hz
    go_enter Try.func37, Try.ntmps37
    go_wp2_with (first
    | (go_at_call 46; refine (rsmall_any _ _).mono ?_; rintro e w' ⟨rfl, hw⟩; have hw' := hw.symm; subst hw'; clear hw; rw [h1])
    | (go_at_call 48; refine (rgreat_any _ _).mono ?_; rintro e w' ⟨rfl, hw⟩; have hw' := hw.symm; subst hw'; clear hw; rw [h2])
    | (go_at_call 47; refine (rdigit_any _ _).mono ?_; rintro e w' ⟨rfl, hw⟩; have hw' := hw.symm; subst hw'; clear hw; first | rw [hc] | rw [hd]))
    go_ret2
    exact wr_of' 0 0 rfl rfl ((size_num HK.out).trans (num_nought hl HM.out HZ.out)) (Or.inl rfl) (fun _ => rfl) _ (Below.refl _ _)
  have g48 : ((bt s 1 : Int) == 48) = false := by simp; omega
  have g480 : ((bt s 0 : Int) == 48) = false := by rw [HM.out]; rfl
  have HZ : Hid _ := hz
  clear hz
  go_enter Try.func37, Try.ntmps37
  go_wp2_with (first
    | (go_at_call 46; refine (rsmall_any _ _).mono ?_; rintro e w' ⟨rfl, hw⟩; have hw' := hw.symm; subst hw'; clear hw; rw [h1])
    | (go_at_call 48; refine (rgreat_any _ _).mono ?_; rintro e w' ⟨rfl, hw⟩; have hw' := hw.symm; subst hw'; clear hw; rw [h2])
    | (go_at_call 47; refine (rdigit_any _ _).mono ?_; rintro e w' ⟨rfl, hw⟩; have hw' := hw.symm; subst hw'; clear hw; first | rw [hc] | rw [hd]))
  go_loopw [4] (fun i wr => ∃ k : Nat, 2 ≤ k ∧ k ≤ s.size ∧ i = .int .i64 k ∧ Hid (∀ j, 1 ≤ j → j < k → digitN (bt s j) = true) ∧ wr = w) (fun i _ => s.size - (intOf i).toNat)
  case atStart => exact ⟨2, Nat.le_refl _, hl, rfl, start_from HD.out, rfl⟩
  case round =>
    obtain ⟨k, hk1, hk, rfl, hh, hw⟩ := hrel
    have hw' := hw.symm
    subst hw'
    clear hc h1 h2 g45 g48 g480 hd
    have done : (k = s.size ∨ digitN (bt s k) = false) → sizeL (bs s) = k := fun e => by
      rw [size_num HK.out]
      exact num_minus hl HM.out HD.out HZ.out k hk1 hk hh.out e
    have DN : Hid _ := done
    clear done
    by_cases hlt : k < s.size
    · have bk := bt_at s k hlt
      have hltI : (k : Int) < (s.size : Int) := by omega
      cases a1 : digitN (bt s k)
      all_goals (go_wp2_with (go_at_call 47; refine (rdigit_any _ _).mono ?_; rintro e w' ⟨rfl, hw⟩; have hw' := hw.symm; subst hw'; clear hw; rw [a1]))
      · go_ret2
        exact wr_of' k 3 rfl rfl (DN.out (Or.inr a1)) (Or.inr HK.out) (fun h => by omega) _ (Below.refl _ _)
      · go_roundw
        case rel => exact ⟨k + 1, by omega, by omega, by go_num, more_from hh.out a1, trivial⟩
        case measure => simp [intOf]; omega
    · have hke : k = s.size := by omega
      subst hke
      go_wp2_with fail
      go_ret2
      exact wr_of' s.size 3 rfl rfl (DN.out (Or.inl trivial)) (Or.inr HK.out) (fun h => by omega) _ (Below.refl _ _)

end Go.Proofs.Ytdmhajeaphnebaa.Lx
namespace Go.Proofs.Ytdmhajeaphnebaa.Lx
open Go.RowKit

def oneN (n : Nat) : Bool := decide (n = 40) || decide (n = 41) || decide (n = 44) || decide (n = 46) || decide (n = 33) || decide (n = 61) || decide (n = 60)
def twoL (L : List UInt8) : Bool := [58, 45].isPrefixOf L || [33, 61].isPrefixOf L || [60, 61].isPrefixOf L

theorem sign_ref (L : List UInt8) (h : 0 < L.length) : signL L = if twoL L = true then 2 else if oneN (L.getD 0 0).toNat = true then 1 else 0 := by
  have hu : ∀ (c : UInt8) (n : Nat), n < 256 → (c.toNat = n ↔ (UInt8.ofNat n) = c) := fun c n hn => by
    constructor
    · intro e; rw [← e]; simp
    · intro e; rw [← e, UInt8.toNat_ofNat']; omega
  have ho : ∀ c : UInt8, oneN c.toNat = ((40 == c) || (41 == c) || (44 == c) || (46 == c) || (33 == c) || (61 == c) || (60 == c)) := fun c => by
    unfold oneN
    rw [Bool.eq_iff_iff]
    simp only [Bool.or_eq_true, decide_eq_true_eq, beq_iff_eq, hu c 40 (by decide), hu c 41 (by decide), hu c 44 (by decide), hu c 46 (by decide), hu c 33 (by decide), hu c 61 (by decide), hu c 60 (by decide)]
    rfl
  match L with
  | [] => simp at h
  | [c] =>
    simp only [signL, signsL, signIn, isPre1, isPre2', List.length, twoL, List.getD_cons_zero, ho]
    by_cases e1 : 40 = c
    · subst e1; rfl
    by_cases e2 : 41 = c
    · subst e2; rfl
    by_cases e3 : 44 = c
    · subst e3; rfl
    by_cases e4 : 46 = c
    · subst e4; rfl
    by_cases e6 : 61 = c
    · subst e6; rfl
    by_cases e5 : 33 = c
    · subst e5; rfl
    by_cases e7 : 60 = c
    · subst e7; rfl
    simp [e1, e2, e3, e4, e5, e6, e7]
  | c :: d :: t =>
    simp only [signL, signsL, signIn, isPre1, isPre2, List.length, twoL, List.getD_cons_zero, ho]
    by_cases e1 : 40 = c
    · subst e1; rfl
    by_cases e2 : 41 = c
    · subst e2; rfl
    by_cases e3 : 44 = c
    · subst e3; rfl
    by_cases e4 : 46 = c
    · subst e4; rfl
    by_cases e6 : 61 = c
    · subst e6; rfl
    by_cases e5 : 33 = c
    · subst e5; by_cases f : 61 = d
      · subst f; rfl
      · simp [f]
    by_cases e7 : 60 = c
    · subst e7; by_cases f : 61 = d
      · subst f; rfl
      · simp [f]
    by_cases e8 : 58 = c
    · subst e8; by_cases f : 45 = d
      · subst f; rfl
      · simp [f]
    simp [e1, e2, e3, e4, e5, e6, e7, e8]

/-- The table of signs of two bytes, as the call lays it. -/
abbrev tB (w : World) : World := w.alloc (.cells #[.string ⟨#[58, 45]⟩, .string ⟨#[33, 61]⟩, .string ⟨#[60, 61]⟩] 9)

theorem pre_two (s : ByteArray) (x y : UInt8) (h : 2 ≤ s.size) : ((s.extract 0 2).toList == [x, y]) = [x, y].isPrefixOf (bs s) := by
  have e0 := drop_cons (bs s) 0 (by rw [bs_length]; omega)
  have e1 := drop_cons (bs s) 1 (by rw [bs_length]; omega)
  rw [List.drop_zero] at e0
  have : (s.extract 0 2).toList = bs (s.extract 0 2) := Lib.toList_data _
  rw [this, bs_extract, List.drop_zero, e0, e1, isPre2]
  simp only [Nat.sub_zero, List.take_succ_cons, List.take_zero]
  rw [Bool.eq_iff_iff]
  simp only [beq_iff_eq, Bool.and_eq_true, List.cons.injEq, and_true]
  exact ⟨fun h => ⟨h.1.symm, h.2.symm⟩, fun h => ⟨h.1.symm, h.2.symm⟩⟩

theorem kind_sign {s : ByteArray} (h1 : smallN (bt s 0) = false) (h2 : greatN (bt s 0) = false) (h3 : digitN (bt s 0) = false) (hm : bt s 0 ≠ 45) : kindL (bs s) = 4 := by
  have e1 : smallN ((bs s).getD 0 0).toNat = false := h1
  have e2 : greatN ((bs s).getD 0 0).toNat = false := h2
  have e3 : digitN ((bs s).getD 0 0).toNat = false := h3
  have e4 : ¬ ((bs s).getD 0 0).toNat = 45 := hm
  rw [kindL, kindN, if_neg (by rw [e1]; decide), if_neg (by rw [e2]; decide), if_neg (fun h => h.elim (fun x => by rw [e3] at x; cases x) e4)]
theorem size_sign {s : ByteArray} (h : kindL (bs s) = 4) : sizeL (bs s) = signL (bs s) := by
  rw [sizeL, if_neg (by rw [h]; decide), if_neg (by rw [h]; decide), if_neg (by rw [h]; decide)]
theorem two_short (L : List UInt8) (h : L.length = 1) : twoL L = false := by
  match L, h with
  | [c], _ => simp [twoL, isPre2']
theorem below_tB (w : World) (n : Nat) : Below w.heap.size w ((tB w).drewN n) := ⟨rfl, rfl, rfl, by simp [World.drewN], fun k hk => (below_box w _).block k hk⟩
theorem tB_cells (w : World) (n : Nat) : ((tB w).drewN n).cell? ⟨w.heap.size, 0, none⟩ = some (.string ⟨#[58, 45]⟩) ∧ ((tB w).drewN n).cell? ⟨w.heap.size, 1, none⟩ = some (.string ⟨#[33, 61]⟩) ∧ ((tB w).drewN n).cell? ⟨w.heap.size, 2, none⟩ = some (.string ⟨#[60, 61]⟩) := by
  refine ⟨?_, ?_, ?_⟩
  · show (tB w).cell? _ = _
    rw [cell_of_row _ _ _ _ _ _ (heap_alloc_new _ _)]; rfl
  · show (tB w).cell? _ = _
    rw [cell_of_row _ _ _ _ _ _ (heap_alloc_new _ _)]; rfl
  · show (tB w).cell? _ = _
    rw [cell_of_row _ _ _ _ _ _ (heap_alloc_new _ _)]; rfl

theorem one_of {n : Nat} (h : ((n : Int) == 40) = true ∨ ((n : Int) == 41) = true ∨ ((n : Int) == 44) = true ∨ ((n : Int) == 46) = true ∨ ((n : Int) == 33) = true ∨ ((n : Int) == 61) = true ∨ ((n : Int) == 60) = true) : oneN n = true := by
  simp only [beq_iff_eq] at h
  simp [oneN]
  omega
theorem none_of {n : Nat} (h1 : ((n : Int) == 40) = false) (h2 : ((n : Int) == 41) = false) (h3 : ((n : Int) == 44) = false) (h4 : ((n : Int) == 46) = false) (h5 : ((n : Int) == 33) = false) (h6 : ((n : Int) == 61) = false) (h7 : ((n : Int) == 60) = false) : oneN n = false := by
  simp only [beq_eq_false_iff_ne, ne_eq] at h1 h2 h3 h4 h5 h6 h7
  simp [oneN]
  omega
theorem fin_two {s : ByteArray} {w : World} {b : Bool} (hk : kindL (bs s) = 4) (ht : twoL (bs s) = b) (h0 : 0 < s.size) (w' : World) (hb : Below w.heap.size w w') (hB : b = true := by rfl) : Wr s w (.returned (.tuple #[.int .i64 2, .int .i64 4])) w' :=
  wr_of' 2 4 rfl rfl (by rw [size_sign hk, sign_ref (bs s) h0, ht, hB]; rfl) (Or.inr hk) (fun h => by omega) _ hb
theorem fin_one {s : ByteArray} {w : World} {b : Bool} (hk : kindL (bs s) = 4) (ht : twoL (bs s) = b) (h0 : 0 < s.size) (ho : oneN (bt s 0) = true) (w' : World) (hb : Below w.heap.size w w') (hB : b = false := by rfl) : Wr s w (.returned (.tuple #[.int .i64 1, .int .i64 4])) w' :=
  wr_of' 1 4 rfl rfl (by rw [size_sign hk, sign_ref (bs s) h0, ht, hB, show oneN ((bs s).getD 0 0).toNat = true from ho]; rfl) (Or.inr hk) (fun h => by omega) _ hb
theorem fin_none {s : ByteArray} {w : World} {b : Bool} (hk : kindL (bs s) = 4) (ht : twoL (bs s) = b) (h0 : 0 < s.size) (ho : oneN (bt s 0) = false) (w' : World) (hb : Below w.heap.size w w') (hB : b = false := by rfl) : Wr s w (.returned (.tuple #[.int .i64 0, .int .i64 0])) w' :=
  wr_of' 0 0 rfl rfl (by rw [size_sign hk, sign_ref (bs s) h0, ht, hB, show oneN ((bs s).getD 0 0).toNat = false from ho]; rfl) (Or.inl rfl) (fun _ => rfl) _ hb

set_option maxHeartbeats 4000000 in
theorem word_sign (s : ByteArray) (w : World) (h0 : 0 < s.size) (hs : s.size ≤ 4000) (h1 : smallN (bt s 0) = false) (h2 : greatN (bt s 0) = false) (hc : digitN (bt s 0) = false) (hm : bt s 0 ≠ 45) :
    Calls Try.prog 37 #[.string s] w fun e w' => Wr s w e w' := by
  have b0 := bt_at s 0 h0
  have t0 : (w.alloc (.cells #[.string ⟨#[58, 45]⟩, .string ⟨#[33, 61]⟩, .string ⟨#[60, 61]⟩] 9)).cell? ⟨w.heap.size, 0, none⟩ = some (.string ⟨#[58, 45]⟩) := (tB_cells w 0).1
  have t1 : (w.alloc (.cells #[.string ⟨#[58, 45]⟩, .string ⟨#[33, 61]⟩, .string ⟨#[60, 61]⟩] 9)).cell? ⟨w.heap.size, 1, none⟩ = some (.string ⟨#[33, 61]⟩) := (tB_cells w 0).2.1
  have t2 : (w.alloc (.cells #[.string ⟨#[58, 45]⟩, .string ⟨#[33, 61]⟩, .string ⟨#[60, 61]⟩] 9)).cell? ⟨w.heap.size, 2, none⟩ = some (.string ⟨#[60, 61]⟩) := (tB_cells w 0).2.2
  have g45 : ((bt s 0 : Int) == 45) = false := by simp; omega
  have HK : Hid (kindL (bs s) = 4) := kind_sign h1 h2 hc hm
  clear hm
  by_cases hl : 2 ≤ s.size
  · have p0 := pre_two s 58 45 hl
    have p1 := pre_two s 33 61 hl
    have p2 := pre_two s 60 61 hl
    have HT : Hid (twoL (bs s) = ([58, 45].isPrefixOf (bs s) || [33, 61].isPrefixOf (bs s) || [60, 61].isPrefixOf (bs s))) := rfl
    generalize List.isPrefixOf [58, 45] (bs s) = q0 at *
    generalize List.isPrefixOf [33, 61] (bs s) = q1 at *
    generalize List.isPrefixOf [60, 61] (bs s) = q2 at *
    cases q0
    · cases q1
      · cases q2
        ·
          go_enter Try.func37, Try.ntmps37
          go_wp2_with (first
    | (go_at_call 46; refine (rsmall_any _ _).mono ?_; rintro e w' ⟨rfl, hw⟩; have hw' := hw.symm; subst hw'; clear hw; rw [h1])
    | (go_at_call 48; refine (rgreat_any _ _).mono ?_; rintro e w' ⟨rfl, hw⟩; have hw' := hw.symm; subst hw'; clear hw; rw [h2])
    | (go_at_call 47; refine (rdigit_any _ _).mono ?_; rintro e w' ⟨rfl, hw⟩; have hw' := hw.symm; subst hw'; clear hw; rw [hc]))
          have B0 : Hid (Below w.heap.size w (w.alloc (.cells #[.string ⟨#[58, 45]⟩, .string ⟨#[33, 61]⟩, .string ⟨#[60, 61]⟩] 9))) := below_box _ _
          generalize w.alloc (.cells #[.string ⟨#[58, 45]⟩, .string ⟨#[33, 61]⟩, .string ⟨#[60, 61]⟩] 9) = W0 at *
          refine wp_loop_rounds 4 ?_
          rw [rounds_succ]
          go_wp2_with fail
          have gd : (2 : Int) ≤ (s.size : Int) := by omega
          go_quiet (fail)
          clear gd
          have B1 : Hid (Below w.heap.size w (W0.drewN nq)) := ⟨B0.out.os, B0.out.tape, B0.out.output, B0.out.size, B0.out.block⟩
          have T0 : (W0.drewN nq).cell? ⟨w.heap.size, 0, none⟩ = some (.string ⟨#[58, 45]⟩) := t0
          have T1 : (W0.drewN nq).cell? ⟨w.heap.size, 1, none⟩ = some (.string ⟨#[33, 61]⟩) := t1
          have T2 : (W0.drewN nq).cell? ⟨w.heap.size, 2, none⟩ = some (.string ⟨#[60, 61]⟩) := t2
          clear t0 t1 t2
          have t0 := T0; have t1 := T1; have t2 := T2; clear T0 T1 T2
          clear B0
          generalize W0.drewN nq = W1 at *
          go_wp2_with fail
          rw [rounds_succ]
          go_wp2_with fail
          have gd : (2 : Int) ≤ (s.size : Int) := by omega
          go_quiet (fail)
          clear gd
          have B2 : Hid (Below w.heap.size w (W1.drewN nq)) := ⟨B1.out.os, B1.out.tape, B1.out.output, B1.out.size, B1.out.block⟩
          have T0 : (W1.drewN nq).cell? ⟨w.heap.size, 0, none⟩ = some (.string ⟨#[58, 45]⟩) := t0
          have T1 : (W1.drewN nq).cell? ⟨w.heap.size, 1, none⟩ = some (.string ⟨#[33, 61]⟩) := t1
          have T2 : (W1.drewN nq).cell? ⟨w.heap.size, 2, none⟩ = some (.string ⟨#[60, 61]⟩) := t2
          clear t0 t1 t2
          have t0 := T0; have t1 := T1; have t2 := T2; clear T0 T1 T2
          clear B1
          generalize W1.drewN nq = W2 at *
          go_wp2_with fail
          rw [rounds_succ]
          go_wp2_with fail
          have gd : (2 : Int) ≤ (s.size : Int) := by omega
          go_quiet (fail)
          clear gd
          have B3 : Hid (Below w.heap.size w (W2.drewN nq)) := ⟨B2.out.os, B2.out.tape, B2.out.output, B2.out.size, B2.out.block⟩
          have T0 : (W2.drewN nq).cell? ⟨w.heap.size, 0, none⟩ = some (.string ⟨#[58, 45]⟩) := t0
          have T1 : (W2.drewN nq).cell? ⟨w.heap.size, 1, none⟩ = some (.string ⟨#[33, 61]⟩) := t1
          have T2 : (W2.drewN nq).cell? ⟨w.heap.size, 2, none⟩ = some (.string ⟨#[60, 61]⟩) := t2
          clear t0 t1 t2
          have t0 := T0; have t1 := T1; have t2 := T2; clear T0 T1 T2
          clear B2
          generalize W2.drewN nq = W3 at *
          go_wp2_with fail
          rw [rounds_succ]
          go_wp2_with fail
          all_goals go_ret2
          all_goals first | (have ho : oneN (bt s 0) = true := one_of (by first | assumption | (left; assumption) | (right; left; assumption) | (right; right; left; assumption) | (right; right; right; left; assumption) | (right; right; right; right; left; assumption) | (right; right; right; right; right; left; assumption) | (right; right; right; right; right; right; assumption)); exact fin_one HK.out HT.out h0 ho _ B3.out) | (have ho : oneN (bt s 0) = false := none_of (by assumption) (by assumption) (by assumption) (by assumption) (by assumption) (by assumption) (by assumption); exact fin_none HK.out HT.out h0 ho _ B3.out)
        ·
          go_enter Try.func37, Try.ntmps37
          go_wp2_with (first
    | (go_at_call 46; refine (rsmall_any _ _).mono ?_; rintro e w' ⟨rfl, hw⟩; have hw' := hw.symm; subst hw'; clear hw; rw [h1])
    | (go_at_call 48; refine (rgreat_any _ _).mono ?_; rintro e w' ⟨rfl, hw⟩; have hw' := hw.symm; subst hw'; clear hw; rw [h2])
    | (go_at_call 47; refine (rdigit_any _ _).mono ?_; rintro e w' ⟨rfl, hw⟩; have hw' := hw.symm; subst hw'; clear hw; rw [hc]))
          have B0 : Hid (Below w.heap.size w (w.alloc (.cells #[.string ⟨#[58, 45]⟩, .string ⟨#[33, 61]⟩, .string ⟨#[60, 61]⟩] 9))) := below_box _ _
          generalize w.alloc (.cells #[.string ⟨#[58, 45]⟩, .string ⟨#[33, 61]⟩, .string ⟨#[60, 61]⟩] 9) = W0 at *
          refine wp_loop_rounds 4 ?_
          rw [rounds_succ]
          go_wp2_with fail
          have gd : (2 : Int) ≤ (s.size : Int) := by omega
          go_quiet (fail)
          clear gd
          have B1 : Hid (Below w.heap.size w (W0.drewN nq)) := ⟨B0.out.os, B0.out.tape, B0.out.output, B0.out.size, B0.out.block⟩
          have T0 : (W0.drewN nq).cell? ⟨w.heap.size, 0, none⟩ = some (.string ⟨#[58, 45]⟩) := t0
          have T1 : (W0.drewN nq).cell? ⟨w.heap.size, 1, none⟩ = some (.string ⟨#[33, 61]⟩) := t1
          have T2 : (W0.drewN nq).cell? ⟨w.heap.size, 2, none⟩ = some (.string ⟨#[60, 61]⟩) := t2
          clear t0 t1 t2
          have t0 := T0; have t1 := T1; have t2 := T2; clear T0 T1 T2
          clear B0
          generalize W0.drewN nq = W1 at *
          go_wp2_with fail
          rw [rounds_succ]
          go_wp2_with fail
          have gd : (2 : Int) ≤ (s.size : Int) := by omega
          go_quiet (fail)
          clear gd
          have B2 : Hid (Below w.heap.size w (W1.drewN nq)) := ⟨B1.out.os, B1.out.tape, B1.out.output, B1.out.size, B1.out.block⟩
          have T0 : (W1.drewN nq).cell? ⟨w.heap.size, 0, none⟩ = some (.string ⟨#[58, 45]⟩) := t0
          have T1 : (W1.drewN nq).cell? ⟨w.heap.size, 1, none⟩ = some (.string ⟨#[33, 61]⟩) := t1
          have T2 : (W1.drewN nq).cell? ⟨w.heap.size, 2, none⟩ = some (.string ⟨#[60, 61]⟩) := t2
          clear t0 t1 t2
          have t0 := T0; have t1 := T1; have t2 := T2; clear T0 T1 T2
          clear B1
          generalize W1.drewN nq = W2 at *
          go_wp2_with fail
          rw [rounds_succ]
          go_wp2_with fail
          have gd : (2 : Int) ≤ (s.size : Int) := by omega
          go_quiet (fail)
          clear gd
          have B3 : Hid (Below w.heap.size w (W2.drewN nq)) := ⟨B2.out.os, B2.out.tape, B2.out.output, B2.out.size, B2.out.block⟩
          have T0 : (W2.drewN nq).cell? ⟨w.heap.size, 0, none⟩ = some (.string ⟨#[58, 45]⟩) := t0
          have T1 : (W2.drewN nq).cell? ⟨w.heap.size, 1, none⟩ = some (.string ⟨#[33, 61]⟩) := t1
          have T2 : (W2.drewN nq).cell? ⟨w.heap.size, 2, none⟩ = some (.string ⟨#[60, 61]⟩) := t2
          clear t0 t1 t2
          have t0 := T0; have t1 := T1; have t2 := T2; clear T0 T1 T2
          clear B2
          generalize W2.drewN nq = W3 at *
          go_wp2_with fail
          go_ret2
          exact fin_two HK.out HT.out h0 _ B3.out
      ·
        go_enter Try.func37, Try.ntmps37
        go_wp2_with (first
    | (go_at_call 46; refine (rsmall_any _ _).mono ?_; rintro e w' ⟨rfl, hw⟩; have hw' := hw.symm; subst hw'; clear hw; rw [h1])
    | (go_at_call 48; refine (rgreat_any _ _).mono ?_; rintro e w' ⟨rfl, hw⟩; have hw' := hw.symm; subst hw'; clear hw; rw [h2])
    | (go_at_call 47; refine (rdigit_any _ _).mono ?_; rintro e w' ⟨rfl, hw⟩; have hw' := hw.symm; subst hw'; clear hw; rw [hc]))
        have B0 : Hid (Below w.heap.size w (w.alloc (.cells #[.string ⟨#[58, 45]⟩, .string ⟨#[33, 61]⟩, .string ⟨#[60, 61]⟩] 9))) := below_box _ _
        generalize w.alloc (.cells #[.string ⟨#[58, 45]⟩, .string ⟨#[33, 61]⟩, .string ⟨#[60, 61]⟩] 9) = W0 at *
        refine wp_loop_rounds 4 ?_
        rw [rounds_succ]
        go_wp2_with fail
        have gd : (2 : Int) ≤ (s.size : Int) := by omega
        go_quiet (fail)
        clear gd
        have B1 : Hid (Below w.heap.size w (W0.drewN nq)) := ⟨B0.out.os, B0.out.tape, B0.out.output, B0.out.size, B0.out.block⟩
        have T0 : (W0.drewN nq).cell? ⟨w.heap.size, 0, none⟩ = some (.string ⟨#[58, 45]⟩) := t0
        have T1 : (W0.drewN nq).cell? ⟨w.heap.size, 1, none⟩ = some (.string ⟨#[33, 61]⟩) := t1
        have T2 : (W0.drewN nq).cell? ⟨w.heap.size, 2, none⟩ = some (.string ⟨#[60, 61]⟩) := t2
        clear t0 t1 t2
        have t0 := T0; have t1 := T1; have t2 := T2; clear T0 T1 T2
        clear B0
        generalize W0.drewN nq = W1 at *
        go_wp2_with fail
        rw [rounds_succ]
        go_wp2_with fail
        have gd : (2 : Int) ≤ (s.size : Int) := by omega
        go_quiet (fail)
        clear gd
        have B2 : Hid (Below w.heap.size w (W1.drewN nq)) := ⟨B1.out.os, B1.out.tape, B1.out.output, B1.out.size, B1.out.block⟩
        have T0 : (W1.drewN nq).cell? ⟨w.heap.size, 0, none⟩ = some (.string ⟨#[58, 45]⟩) := t0
        have T1 : (W1.drewN nq).cell? ⟨w.heap.size, 1, none⟩ = some (.string ⟨#[33, 61]⟩) := t1
        have T2 : (W1.drewN nq).cell? ⟨w.heap.size, 2, none⟩ = some (.string ⟨#[60, 61]⟩) := t2
        clear t0 t1 t2
        have t0 := T0; have t1 := T1; have t2 := T2; clear T0 T1 T2
        clear B1
        generalize W1.drewN nq = W2 at *
        go_wp2_with fail
        go_ret2
        exact fin_two HK.out HT.out h0 _ B2.out
    ·
      go_enter Try.func37, Try.ntmps37
      go_wp2_with (first
    | (go_at_call 46; refine (rsmall_any _ _).mono ?_; rintro e w' ⟨rfl, hw⟩; have hw' := hw.symm; subst hw'; clear hw; rw [h1])
    | (go_at_call 48; refine (rgreat_any _ _).mono ?_; rintro e w' ⟨rfl, hw⟩; have hw' := hw.symm; subst hw'; clear hw; rw [h2])
    | (go_at_call 47; refine (rdigit_any _ _).mono ?_; rintro e w' ⟨rfl, hw⟩; have hw' := hw.symm; subst hw'; clear hw; rw [hc]))
      have B0 : Hid (Below w.heap.size w (w.alloc (.cells #[.string ⟨#[58, 45]⟩, .string ⟨#[33, 61]⟩, .string ⟨#[60, 61]⟩] 9))) := below_box _ _
      generalize w.alloc (.cells #[.string ⟨#[58, 45]⟩, .string ⟨#[33, 61]⟩, .string ⟨#[60, 61]⟩] 9) = W0 at *
      refine wp_loop_rounds 4 ?_
      rw [rounds_succ]
      go_wp2_with fail
      have gd : (2 : Int) ≤ (s.size : Int) := by omega
      go_quiet (fail)
      clear gd
      have B1 : Hid (Below w.heap.size w (W0.drewN nq)) := ⟨B0.out.os, B0.out.tape, B0.out.output, B0.out.size, B0.out.block⟩
      have T0 : (W0.drewN nq).cell? ⟨w.heap.size, 0, none⟩ = some (.string ⟨#[58, 45]⟩) := t0
      have T1 : (W0.drewN nq).cell? ⟨w.heap.size, 1, none⟩ = some (.string ⟨#[33, 61]⟩) := t1
      have T2 : (W0.drewN nq).cell? ⟨w.heap.size, 2, none⟩ = some (.string ⟨#[60, 61]⟩) := t2
      clear t0 t1 t2
      have t0 := T0; have t1 := T1; have t2 := T2; clear T0 T1 T2
      clear B0
      generalize W0.drewN nq = W1 at *
      go_wp2_with fail
      go_ret2
      exact fin_two HK.out HT.out h0 _ B1.out
  · have HT : Hid (twoL (bs s) = false) := two_short _ (by rw [bs_length]; omega)
    go_enter Try.func37, Try.ntmps37
    go_wp2_with (first
    | (go_at_call 46; refine (rsmall_any _ _).mono ?_; rintro e w' ⟨rfl, hw⟩; have hw' := hw.symm; subst hw'; clear hw; rw [h1])
    | (go_at_call 48; refine (rgreat_any _ _).mono ?_; rintro e w' ⟨rfl, hw⟩; have hw' := hw.symm; subst hw'; clear hw; rw [h2])
    | (go_at_call 47; refine (rdigit_any _ _).mono ?_; rintro e w' ⟨rfl, hw⟩; have hw' := hw.symm; subst hw'; clear hw; rw [hc]))
    have B0 : Hid (Below w.heap.size w (w.alloc (.cells #[.string ⟨#[58, 45]⟩, .string ⟨#[33, 61]⟩, .string ⟨#[60, 61]⟩] 9))) := below_box _ _
    generalize w.alloc (.cells #[.string ⟨#[58, 45]⟩, .string ⟨#[33, 61]⟩, .string ⟨#[60, 61]⟩] 9) = W0 at *
    refine wp_loop_rounds 4 ?_
    rw [rounds_succ]
    go_wp2_with fail
    have gd : decide ((2 : Int) ≤ (s.size : Int)) = false := by simp; omega
    go_quiet (fail)
    clear gd
    have B1 : Hid (Below w.heap.size w (W0.drewN nq)) := ⟨B0.out.os, B0.out.tape, B0.out.output, B0.out.size, B0.out.block⟩
    have T0 : (W0.drewN nq).cell? ⟨w.heap.size, 0, none⟩ = some (.string ⟨#[58, 45]⟩) := t0
    have T1 : (W0.drewN nq).cell? ⟨w.heap.size, 1, none⟩ = some (.string ⟨#[33, 61]⟩) := t1
    have T2 : (W0.drewN nq).cell? ⟨w.heap.size, 2, none⟩ = some (.string ⟨#[60, 61]⟩) := t2
    clear t0 t1 t2
    have t0 := T0; have t1 := T1; have t2 := T2; clear T0 T1 T2
    clear B0
    generalize W0.drewN nq = W1 at *
    go_wp2_with fail
    rw [rounds_succ]
    go_wp2_with fail
    have gd : decide ((2 : Int) ≤ (s.size : Int)) = false := by simp; omega
    go_quiet (fail)
    clear gd
    have B2 : Hid (Below w.heap.size w (W1.drewN nq)) := ⟨B1.out.os, B1.out.tape, B1.out.output, B1.out.size, B1.out.block⟩
    have T0 : (W1.drewN nq).cell? ⟨w.heap.size, 0, none⟩ = some (.string ⟨#[58, 45]⟩) := t0
    have T1 : (W1.drewN nq).cell? ⟨w.heap.size, 1, none⟩ = some (.string ⟨#[33, 61]⟩) := t1
    have T2 : (W1.drewN nq).cell? ⟨w.heap.size, 2, none⟩ = some (.string ⟨#[60, 61]⟩) := t2
    clear t0 t1 t2
    have t0 := T0; have t1 := T1; have t2 := T2; clear T0 T1 T2
    clear B1
    generalize W1.drewN nq = W2 at *
    go_wp2_with fail
    rw [rounds_succ]
    go_wp2_with fail
    have gd : decide ((2 : Int) ≤ (s.size : Int)) = false := by simp; omega
    go_quiet (fail)
    clear gd
    have B3 : Hid (Below w.heap.size w (W2.drewN nq)) := ⟨B2.out.os, B2.out.tape, B2.out.output, B2.out.size, B2.out.block⟩
    have T0 : (W2.drewN nq).cell? ⟨w.heap.size, 0, none⟩ = some (.string ⟨#[58, 45]⟩) := t0
    have T1 : (W2.drewN nq).cell? ⟨w.heap.size, 1, none⟩ = some (.string ⟨#[33, 61]⟩) := t1
    have T2 : (W2.drewN nq).cell? ⟨w.heap.size, 2, none⟩ = some (.string ⟨#[60, 61]⟩) := t2
    clear t0 t1 t2
    have t0 := T0; have t1 := T1; have t2 := T2; clear T0 T1 T2
    clear B2
    generalize W2.drewN nq = W3 at *
    go_wp2_with fail
    rw [rounds_succ]
    go_wp2_with fail
    all_goals go_ret2
    all_goals first | (have ho : oneN (bt s 0) = true := one_of (by first | assumption | (left; assumption) | (right; left; assumption) | (right; right; left; assumption) | (right; right; right; left; assumption) | (right; right; right; right; left; assumption) | (right; right; right; right; right; left; assumption) | (right; right; right; right; right; right; assumption)); exact fin_one HK.out HT.out h0 ho _ B3.out) | (have ho : oneN (bt s 0) = false := none_of (by assumption) (by assumption) (by assumption) (by assumption) (by assumption) (by assumption) (by assumption); exact fin_none HK.out HT.out h0 ho _ B3.out)

theorem fin_bare {s : ByteArray} {w : World} (hk : kindL (bs s) = 3) (hn : numL (bs s) = 0) (w' : World) (hb : Below w.heap.size w w') : Wr s w (.returned (.tuple #[.int .i64 0, .int .i64 0])) w' :=
  wr_of' 0 0 rfl rfl ((size_num hk).trans hn) (Or.inl rfl) (fun _ => rfl) _ hb
theorem num_bare {s : ByteArray} (h0 : 0 < s.size) (h : bt s 0 = 45) (hd : 1 < s.size → digitN (bt s 1) = false) : numL (bs s) = 0 := by
  have e0 := drop_cons (bs s) 0 (by rw [bs_length]; omega)
  rw [List.drop_zero] at e0
  have g0 : ((bs s).getD 0 0).toNat = 45 := h
  by_cases hl : 1 < s.size
  · have e1 := drop_cons (bs s) 1 (by rw [bs_length]; omega)
    have g2 : digitN ((bs s).getD 1 0).toNat = false := hd hl
    have g1 : ¬ ((bs s).getD 1 0).toNat = 48 := fun e => by rw [e] at g2; exact absurd g2 (by decide)
    rw [e0, e1]
    simp only [numL]
    rw [if_neg (by rw [g0]; decide), if_pos g0, if_neg g1, if_neg (by rw [g2]; decide)]
  · have e1 : (bs s).drop 1 = [] := List.drop_eq_nil_of_le (by rw [bs_length]; omega)
    rw [e0, e1]
    simp only [numL]
    rw [if_neg (by rw [g0]; decide), if_pos g0]
theorem pre_bare {s : ByteArray} (x y : UInt8) (hx : x ≠ 45) (h0 : 0 < s.size) (h : bt s 0 = 45) : [x, y].isPrefixOf (bs s) = false := by
  have e0 := drop_cons (bs s) 0 (by rw [bs_length]; omega)
  rw [List.drop_zero] at e0
  have g0 : (bs s).getD 0 0 = 45 := UInt8.toNat_inj.1 h
  rw [e0, g0]
  have : (x == 45) = false := by simpa using hx
  simp [List.isPrefixOf, this]

set_option maxHeartbeats 4000000 in
theorem word_bare (s : ByteArray) (w : World) (h0 : 0 < s.size) (hs : s.size ≤ 4000) (h1 : smallN (bt s 0) = false) (h2 : greatN (bt s 0) = false) (hc : digitN (bt s 0) = false) (hm : bt s 0 = 45) (hd : 1 < s.size → digitN (bt s 1) = false) :
    Calls Try.prog 37 #[.string s] w fun e w' => Wr s w e w' := by
  have b0 := bt_at s 0 h0
  have t0 : (w.alloc (.cells #[.string ⟨#[58, 45]⟩, .string ⟨#[33, 61]⟩, .string ⟨#[60, 61]⟩] 9)).cell? ⟨w.heap.size, 0, none⟩ = some (.string ⟨#[58, 45]⟩) := (tB_cells w 0).1
  have t1 : (w.alloc (.cells #[.string ⟨#[58, 45]⟩, .string ⟨#[33, 61]⟩, .string ⟨#[60, 61]⟩] 9)).cell? ⟨w.heap.size, 1, none⟩ = some (.string ⟨#[33, 61]⟩) := (tB_cells w 0).2.1
  have t2 : (w.alloc (.cells #[.string ⟨#[58, 45]⟩, .string ⟨#[33, 61]⟩, .string ⟨#[60, 61]⟩] 9)).cell? ⟨w.heap.size, 2, none⟩ = some (.string ⟨#[60, 61]⟩) := (tB_cells w 0).2.2
  have g45 : ((bt s 0 : Int) == 45) = true := by rw [hm]; rfl
  have f40 : ((bt s 0 : Int) == 40) = false := by rw [hm]; rfl
  have f41 : ((bt s 0 : Int) == 41) = false := by rw [hm]; rfl
  have f44 : ((bt s 0 : Int) == 44) = false := by rw [hm]; rfl
  have f46 : ((bt s 0 : Int) == 46) = false := by rw [hm]; rfl
  have f33 : ((bt s 0 : Int) == 33) = false := by rw [hm]; rfl
  have f61 : ((bt s 0 : Int) == 61) = false := by rw [hm]; rfl
  have f60 : ((bt s 0 : Int) == 60) = false := by rw [hm]; rfl
  have HK : Hid (kindL (bs s) = 3) := kind_num h1 h2 (Or.inr hm)
  have HN : Hid (numL (bs s) = 0) := num_bare h0 hm hd
  by_cases hl : 2 ≤ s.size
  · have p0 := pre_two s 58 45 hl
    have p1 := pre_two s 33 61 hl
    have p2 := pre_two s 60 61 hl
    rw [pre_bare 58 45 (by decide) h0 hm] at p0
    rw [pre_bare 33 61 (by decide) h0 hm] at p1
    rw [pre_bare 60 61 (by decide) h0 hm] at p2
    have hd1 := hd (by omega)
    have hl1 : 1 < s.size := by omega
    have b1 := bt_at s 1 hl1
    have gl : (1 : Int) < (s.size : Int) := by omega
    clear hm hd
    go_enter Try.func37, Try.ntmps37
    go_wp2_with fail
    refine (rsmall_any _ _).mono ?_
    rintro e w' ⟨rfl, hw⟩; have hw' := hw.symm; subst hw'; clear hw; rw [h1]
    go_wp2_with fail
    refine (rgreat_any _ _).mono ?_
    rintro e w' ⟨rfl, hw⟩; have hw' := hw.symm; subst hw'; clear hw; rw [h2]
    go_wp2_with fail
    refine (rdigit_any _ _).mono ?_
    rintro e w' ⟨rfl, hw⟩; have hw' := hw.symm; subst hw'; clear hw; rw [hc]
    go_wp2_with fail
    refine (rdigit_any _ _).mono ?_
    rintro e w' ⟨rfl, hw⟩; have hw' := hw.symm; subst hw'; clear hw; rw [hd1]
    go_wp2_with fail
    have B0 : Hid (Below w.heap.size w (w.alloc (.cells #[.string ⟨#[58, 45]⟩, .string ⟨#[33, 61]⟩, .string ⟨#[60, 61]⟩] 9))) := below_box _ _
    generalize w.alloc (.cells #[.string ⟨#[58, 45]⟩, .string ⟨#[33, 61]⟩, .string ⟨#[60, 61]⟩] 9) = W0 at *
    refine wp_loop_rounds 4 ?_
    rw [rounds_succ]
    go_wp2_with fail
    have gd : (2 : Int) ≤ (s.size : Int) := by omega
    go_quiet (fail)
    clear gd
    have B1 : Hid (Below w.heap.size w (W0.drewN nq)) := ⟨B0.out.os, B0.out.tape, B0.out.output, B0.out.size, B0.out.block⟩
    have T0 : (W0.drewN nq).cell? ⟨w.heap.size, 0, none⟩ = some (.string ⟨#[58, 45]⟩) := t0
    have T1 : (W0.drewN nq).cell? ⟨w.heap.size, 1, none⟩ = some (.string ⟨#[33, 61]⟩) := t1
    have T2 : (W0.drewN nq).cell? ⟨w.heap.size, 2, none⟩ = some (.string ⟨#[60, 61]⟩) := t2
    clear t0 t1 t2
    have t0 := T0; have t1 := T1; have t2 := T2; clear T0 T1 T2
    clear B0
    generalize W0.drewN nq = W1 at *
    go_wp2_with fail
    rw [rounds_succ]
    go_wp2_with fail
    have gd : (2 : Int) ≤ (s.size : Int) := by omega
    go_quiet (fail)
    clear gd
    have B2 : Hid (Below w.heap.size w (W1.drewN nq)) := ⟨B1.out.os, B1.out.tape, B1.out.output, B1.out.size, B1.out.block⟩
    have T0 : (W1.drewN nq).cell? ⟨w.heap.size, 0, none⟩ = some (.string ⟨#[58, 45]⟩) := t0
    have T1 : (W1.drewN nq).cell? ⟨w.heap.size, 1, none⟩ = some (.string ⟨#[33, 61]⟩) := t1
    have T2 : (W1.drewN nq).cell? ⟨w.heap.size, 2, none⟩ = some (.string ⟨#[60, 61]⟩) := t2
    clear t0 t1 t2
    have t0 := T0; have t1 := T1; have t2 := T2; clear T0 T1 T2
    clear B1
    generalize W1.drewN nq = W2 at *
    go_wp2_with fail
    rw [rounds_succ]
    go_wp2_with fail
    have gd : (2 : Int) ≤ (s.size : Int) := by omega
    go_quiet (fail)
    clear gd
    have B3 : Hid (Below w.heap.size w (W2.drewN nq)) := ⟨B2.out.os, B2.out.tape, B2.out.output, B2.out.size, B2.out.block⟩
    have T0 : (W2.drewN nq).cell? ⟨w.heap.size, 0, none⟩ = some (.string ⟨#[58, 45]⟩) := t0
    have T1 : (W2.drewN nq).cell? ⟨w.heap.size, 1, none⟩ = some (.string ⟨#[33, 61]⟩) := t1
    have T2 : (W2.drewN nq).cell? ⟨w.heap.size, 2, none⟩ = some (.string ⟨#[60, 61]⟩) := t2
    clear t0 t1 t2
    have t0 := T0; have t1 := T1; have t2 := T2; clear T0 T1 T2
    clear B2
    generalize W2.drewN nq = W3 at *
    go_wp2_with fail
    rw [rounds_succ]
    go_wp2_with fail
    go_ret2
    exact fin_bare HK.out HN.out _ B3.out
  · have gl : decide ((1 : Int) < (s.size : Int)) = false := by simp; omega
    clear hm hd
    go_enter Try.func37, Try.ntmps37
    go_wp2_with (first
    | (go_at_call 46; refine (rsmall_any _ _).mono ?_; rintro e w' ⟨rfl, hw⟩; have hw' := hw.symm; subst hw'; clear hw; rw [h1])
    | (go_at_call 48; refine (rgreat_any _ _).mono ?_; rintro e w' ⟨rfl, hw⟩; have hw' := hw.symm; subst hw'; clear hw; rw [h2])
    | (go_at_call 47; refine (rdigit_any _ _).mono ?_; rintro e w' ⟨rfl, hw⟩; have hw' := hw.symm; subst hw'; clear hw; rw [hc]))
    have B0 : Hid (Below w.heap.size w (w.alloc (.cells #[.string ⟨#[58, 45]⟩, .string ⟨#[33, 61]⟩, .string ⟨#[60, 61]⟩] 9))) := below_box _ _
    generalize w.alloc (.cells #[.string ⟨#[58, 45]⟩, .string ⟨#[33, 61]⟩, .string ⟨#[60, 61]⟩] 9) = W0 at *
    refine wp_loop_rounds 4 ?_
    rw [rounds_succ]
    go_wp2_with fail
    have gd : decide ((2 : Int) ≤ (s.size : Int)) = false := by simp; omega
    go_quiet (fail)
    clear gd
    have B1 : Hid (Below w.heap.size w (W0.drewN nq)) := ⟨B0.out.os, B0.out.tape, B0.out.output, B0.out.size, B0.out.block⟩
    have T0 : (W0.drewN nq).cell? ⟨w.heap.size, 0, none⟩ = some (.string ⟨#[58, 45]⟩) := t0
    have T1 : (W0.drewN nq).cell? ⟨w.heap.size, 1, none⟩ = some (.string ⟨#[33, 61]⟩) := t1
    have T2 : (W0.drewN nq).cell? ⟨w.heap.size, 2, none⟩ = some (.string ⟨#[60, 61]⟩) := t2
    clear t0 t1 t2
    have t0 := T0; have t1 := T1; have t2 := T2; clear T0 T1 T2
    clear B0
    generalize W0.drewN nq = W1 at *
    go_wp2_with fail
    rw [rounds_succ]
    go_wp2_with fail
    have gd : decide ((2 : Int) ≤ (s.size : Int)) = false := by simp; omega
    go_quiet (fail)
    clear gd
    have B2 : Hid (Below w.heap.size w (W1.drewN nq)) := ⟨B1.out.os, B1.out.tape, B1.out.output, B1.out.size, B1.out.block⟩
    have T0 : (W1.drewN nq).cell? ⟨w.heap.size, 0, none⟩ = some (.string ⟨#[58, 45]⟩) := t0
    have T1 : (W1.drewN nq).cell? ⟨w.heap.size, 1, none⟩ = some (.string ⟨#[33, 61]⟩) := t1
    have T2 : (W1.drewN nq).cell? ⟨w.heap.size, 2, none⟩ = some (.string ⟨#[60, 61]⟩) := t2
    clear t0 t1 t2
    have t0 := T0; have t1 := T1; have t2 := T2; clear T0 T1 T2
    clear B1
    generalize W1.drewN nq = W2 at *
    go_wp2_with fail
    rw [rounds_succ]
    go_wp2_with fail
    have gd : decide ((2 : Int) ≤ (s.size : Int)) = false := by simp; omega
    go_quiet (fail)
    clear gd
    have B3 : Hid (Below w.heap.size w (W2.drewN nq)) := ⟨B2.out.os, B2.out.tape, B2.out.output, B2.out.size, B2.out.block⟩
    have T0 : (W2.drewN nq).cell? ⟨w.heap.size, 0, none⟩ = some (.string ⟨#[58, 45]⟩) := t0
    have T1 : (W2.drewN nq).cell? ⟨w.heap.size, 1, none⟩ = some (.string ⟨#[33, 61]⟩) := t1
    have T2 : (W2.drewN nq).cell? ⟨w.heap.size, 2, none⟩ = some (.string ⟨#[60, 61]⟩) := t2
    clear t0 t1 t2
    have t0 := T0; have t1 := T1; have t2 := T2; clear T0 T1 T2
    clear B2
    generalize W2.drewN nq = W3 at *
    go_wp2_with fail
    rw [rounds_succ]
    go_wp2_with fail
    go_ret2
    exact fin_bare HK.out HN.out _ B3.out

end Go.Proofs.Ytdmhajeaphnebaa.Lx

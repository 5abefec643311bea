/- Rules that were read are such as may be printed: in plain mathematics. The law of rules: the document's answers and the program's are the same, in plain mathematics. The reference's pred: its contract. The reference's Preds: its contract. -/
import Derived.Test.YtienpejlfjhnmaaPart09
import Derived.Test.YtienpejlfjhnmaaPart15
import Derived.Test.YtienpejlfjhnmaaPart14
import Derived.Test.YtienpejlfjhnmaaPart13
import Derived.Test.YtienpejlfjhnmaaPart06
import Derived.BigQuiet
import Derived.OwnWalk
import Derived.Deep.RegionHeld3
namespace Go.Proofs.Ytienpejlfjhnmaa.Sy
open Go.RowKit
open Lx (Wd tx bs scanAt frontAt)
open Vl (Tm)

/-- Words that are not too long. -/
def Sh (ws : List Wd) : Prop := ∀ x ∈ ws, x.2.1.length ≤ 16
theorem Sh.tail {ws : List Wd} (h : Sh ws) : Sh ws.tail := fun x hx => h x (List.mem_of_mem_tail hx)
theorem Sh.next {ws : List Wd} (h : Sh ws) : (nextW ws).2.1.length ≤ 16 := by
  cases ws with
  | nil => simp [nextW]
  | cons x r => exact h x (by simp)
theorem tx_size (x : List UInt8) : (tx x).size = x.length := by simp [tx, ByteArray.size]
theorem term_ok {x : Wd} {t : Tm} (hx : x.2.1.length ≤ 16) (h : termW x = some t) : OkT t := by
  unfold termW at h
  split at h
  · cases h
    exact ⟨fun e => by simp at e, by rw [tx_size]; exact hx⟩
  · unfold constW at h
    split at h
    · cases h
      exact ⟨fun e => by simp at e, by rw [tx_size]; exact hx⟩
    · split at h
      · split at h
        · rename_i hb
          cases h
          exact ⟨fun _ => hb, by show (0 : Nat) ≤ 16; omega⟩
        · cases h
      · cases h
theorem termL_ok {ws : List Wd} {t : Tm} {r : List Wd} (hw : Sh ws) (h : oneL termW ws = .ok (t, r)) : OkT t ∧ Sh r := by
  unfold oneL at h
  cases hf : termW (nextW ws) with
  | none => rw [hf] at h; cases h
  | some u =>
    rw [hf] at h
    cases h
    exact ⟨term_ok hw.next hf, hw.tail⟩
theorem listL_ok {α : Type} {item : List Wd → Re α} {P : α → Prop} (hi : ∀ ws x r, Sh ws → item ws = .ok (x, r) → P x ∧ Sh r) : ∀ (n : Nat) (ws : List Wd) (l : List α) (r : List Wd), Sh ws → listL item n ws = .ok (l, r) → l.length ≤ n ∧ (∀ x ∈ l, P x) ∧ Sh r := by
  intro n
  induction n with
  | zero =>
    intro ws l r hw h
    unfold listL at h
    split at h <;> cases h
  | succ n ih =>
    intro ws l r hw h
    unfold listL at h
    split at h
    · cases h
    · rename_i x t hx
      obtain ⟨hp, ht⟩ := hi ws x t hw hx
      split at h
      · split at h
        · cases h
        · rename_i l' r' hl
          cases h
          obtain ⟨h1, h2, h3⟩ := ih _ _ _ ht.tail hl
          refine ⟨by rw [List.length_cons]; omega, fun y hy => ?_, h3⟩
          rcases List.mem_cons.1 hy with rfl | hy
          · exact hp
          · exact h2 y hy
      · cases h
        refine ⟨by simp, fun y hy => ?_, ht⟩
        rw [List.mem_singleton.1 hy]
        exact hp
theorem atomL_ok {ws : List Wd} {l : Lit} {r : List Wd} (hw : Sh ws) (h : atomL termW ws = .ok (l, r)) : OkL l ∧ l.1 = 1 ∧ Sh r := by
  unfold atomL at h
  split at h
  · split at h
    · split at h
      · cases h
      · rename_i l' r' hl
        split at h
        · cases h
          obtain ⟨h1, h2, h3⟩ := listL_ok (P := OkT) (fun ws x r hw h => termL_ok hw h) 4 _ _ _ hw.tail.tail hl
          exact ⟨⟨by rw [tx_size]; exact hw.next, h1, h2, ⟨by simp, by simp⟩, fun e => by simp at e⟩, rfl, h3.tail⟩
        · cases h
    · cases h
      exact ⟨⟨by rw [tx_size]; exact hw.next, by simp, by simp, ⟨by simp, by simp⟩, fun e => by simp at e⟩, rfl, hw.tail⟩
  · cases h
theorem kindOf_le (x : List UInt8) : kindOf x = 0 ∨ (3 ≤ kindOf x ∧ kindOf x ≤ 6) := by
  unfold kindOf
  split
  · right; omega
  · split
    · right; omega
    · split
      · right; omega
      · split
        · right; omega
        · left; rfl
theorem cmpL_ok {ws : List Wd} {l : Lit} {r : List Wd} (hw : Sh ws) (h : cmpL ws = .ok (l, r)) : OkL l ∧ Sh r := by
  unfold cmpL at h
  split at h
  · cases h
  · rename_i a t ha
    split at h
    · cases h
    · rename_i hk
      split at h
      · cases h
      · rename_i b r' hb
        cases h
        obtain ⟨h1, h2⟩ := termL_ok hw ha
        obtain ⟨h3, h4⟩ := termL_ok h2.tail hb
        rcases kindOf_le (nextW t).2.1 with h0 | ⟨h5, h6⟩
        · exact absurd h0 hk
        · refine ⟨⟨by show (0 : Nat) ≤ 16; omega, by simp, fun y hy => ?_, ⟨?_, ?_⟩, fun _ => rfl⟩, h4⟩
          · rcases List.mem_cons.1 hy with rfl | hy
            · exact h1
            · rw [List.mem_singleton.1 hy]; exact h3
          · show (1 : Int) ≤ (kindOf (nextW t).2.1 : Nat); omega
          · show ((kindOf (nextW t).2.1 : Nat) : Int) ≤ 6; omega
theorem litL_ok {ws : List Wd} {l : Lit} {r : List Wd} (hw : Sh ws) (h : litL ws = .ok (l, r)) : OkL l ∧ Sh r := by
  unfold litL at h
  split at h
  · split at h
    · cases h
    · rename_i l' r' hl
      cases h
      obtain ⟨h1, h2, h3⟩ := atomL_ok hw.tail hl
      exact ⟨⟨h1.name, h1.few, h1.terms, ⟨by simp, by simp⟩, fun e => by simp at e⟩, h3⟩
  · split at h
    · obtain ⟨h1, _, h3⟩ := atomL_ok hw h
      exact ⟨h1, h3⟩
    · exact cmpL_ok hw h
theorem clauseL_ok {ws : List Wd} {q : Rul} {r : List Wd} (hw : Sh ws) (h : clauseL ws = .ok (q, r)) : OkR q ∧ q.1.1 = 1 ∧ Sh r := by
  unfold clauseL at h
  split at h
  · cases h
  · rename_i hd t hh
    obtain ⟨h1, h2, h3⟩ := atomL_ok hw hh
    split at h
    · split at h
      · cases h
      · rename_i b r' hb
        split at h
        · cases h
          obtain ⟨k1, k2, k3⟩ := listL_ok (P := OkL) (fun ws x r hw h => litL_ok hw h) 6 _ _ _ h3.tail hb
          exact ⟨⟨h1, k2, k1⟩, h2, k3.tail⟩
        · cases h
    · split at h
      · cases h
        exact ⟨⟨h1, by simp, by simp⟩, h2, h3.tail⟩
      · cases h
theorem progL_ok : ∀ (n : Nat) (ws : List Wd) (l : List Rul), Sh ws → progL n ws = .ok l → l.length ≤ n ∧ ∀ q ∈ l, OkR q ∧ q.1.1 = 1 := by
  intro n
  induction n with
  | zero =>
    intro ws l hw h
    cases ws with
    | nil => cases h; exact ⟨Nat.le_refl _, by simp⟩
    | cons x r =>
      unfold progL at h
      split at h <;> cases h
  | succ n ih =>
    intro ws l hw h
    cases ws with
    | nil => cases h; exact ⟨by simp, by simp⟩
    | cons x t =>
      unfold progL at h
      split at h
      · cases h
      · rename_i c r hc
        obtain ⟨h1, h2, h3⟩ := clauseL_ok hw hc
        split at h
        · cases h
        · rename_i l' hl
          cases h
          obtain ⟨k1, k2⟩ := ih _ _ h3 hl
          refine ⟨by rw [List.length_cons]; omega, fun q hq => ?_⟩
          rcases List.mem_cons.1 hq with rfl | hq
          · exact ⟨h1, h2⟩
          · exact k2 q hq
theorem Sh.of {ws : List Wd} (h : ∀ x ∈ ws, OkF x) : Sh ws := fun x hx => by
  rcases h x hx with h | rfl
  · exact h.len
  · simp
end Go.Proofs.Ytienpejlfjhnmaa.Sy
namespace Go.Proofs.Ytienpejlfjhnmaa.Ck
open Go.RowKit
open Lx (tx bs)
open Vl (Tm Ts Fr)
open Sy

theorem toL (s : ByteArray) : s.toList = s.data.toList := Lib.toList_data s
/-- All terms' names are short. -/
def ShT (ts : List Tm) : Prop := ∀ t ∈ ts, t.2.1.size ≤ maxLen
theorem any_vars {ts : List Tm} (h : ShT ts) (x : Nm) : inS (varsT ts) x = ts.any (bindT x.1) := by
  induction ts with
  | nil => rfl
  | cons t r ih =>
    have hr : ShT r := fun u hu => h u (by simp [hu])
    have ht := h t (by simp)
    unfold varsT inS
    rw [List.any_cons, ← ih hr]
    by_cases h1 : t.1 = 1
    · have hv : varN t = some ⟨t.2.1, ht⟩ := by unfold varN; rw [dif_pos ⟨h1, ht⟩]
      rw [List.filterMap_cons, hv]
      simp only [List.any_cons]
      congr 1
      simp [bindT, h1, toL]
    · have hv : varN t = none := by unfold varN; rw [dif_neg (fun e => h1 e.1)]
      rw [List.filterMap_cons, hv]
      have hb : bindT x.1 t = false := by simp [bindT, h1]
      rw [hb, Bool.false_or]
      rfl
theorem any_bound {ls : List Sy.Lit} (h : ∀ l ∈ ls, ShT l.2.2) (x : Nm) : inS (boundL ls) x = bindsB ls x.1 := by
  induction ls with
  | nil => rfl
  | cons l r ih =>
    have hr := ih (fun u hu => h u (by simp [hu]))
    have hl := any_vars (h l (by simp)) x
    have e : boundL (l :: r) = (if l.1 = 1 then varsT l.2.2 else []) ++ boundL r := by simp [boundL]
    have e2 : bindsB (l :: r) x.1 = (bindL x.1 l || bindsB r x.1) := by simp [bindsB]
    rw [e, e2, ← hr]
    unfold inS
    rw [List.any_append]
    congr 1
    unfold bindL
    by_cases h1 : l.1 = 1
    · rw [if_pos h1]
      simp only [h1, decide_true, Bool.true_and]
      exact hl
    · rw [if_neg h1]
      simp [h1]
theorem all_vars {ts : List Tm} (h : ShT ts) {ls : List Sy.Lit} (hl : ∀ l ∈ ls, ShT l.2.2) : (varsT ts).all (inS (boundL ls)) = ts.all (okT ls) := by
  induction ts with
  | nil => rfl
  | cons t r ih =>
    have hr : ShT r := fun u hu => h u (by simp [hu])
    have ht := h t (by simp)
    rw [List.all_cons, ← ih hr]
    unfold varsT
    by_cases h1 : t.1 = 1
    · have hv : varN t = some ⟨t.2.1, ht⟩ := by unfold varN; rw [dif_pos ⟨h1, ht⟩]
      rw [List.filterMap_cons, hv]
      simp only [List.all_cons]
      congr 1
      rw [any_bound hl]
      simp [okT, h1]
    · have hv : varN t = none := by unfold varN; rw [dif_neg (fun e => h1 e.1)]
      rw [List.filterMap_cons, hv]
      have hb : okT ls t = true := by simp [okT, h1]
      rw [hb, Bool.true_and]
theorem safe_same {q : Rul} (h0 : ShT q.1.2.2) (hl : ∀ l ∈ q.2, ShT l.2.2) (hk : ∀ l ∈ q.2, 1 ≤ l.1 ∧ l.1 ≤ 6) : safeR q = refSafe q := by
  unfold safeR refSafe
  rw [all_vars h0 hl]
  have e0 : okL q.2 0 q.1 = q.1.2.2.all (okT q.2) := by simp [okL]
  rw [e0]
  congr 1
  refine Bool.eq_iff_iff.2 ?_
  rw [List.all_eq_true, List.all_eq_true]
  have key : ∀ l ∈ q.2, (!needK l.1 || (varsT l.2.2).all (inS (boundL q.2))) = okL q.2 1 l := fun l hm => by
    rw [all_vars (hl l hm) hl]
    have := hk l hm
    unfold okL needK
    by_cases h1 : l.1 = 1
    · simp [h1]
    · have h2 : 2 ≤ l.1 := by omega
      simp [h1, h2, this.2]
  exact ⟨fun h l hm => by rw [← key l hm]; exact h l hm, fun h l hm => by rw [key l hm]; exact h l hm⟩

/-- What holds of rules that were read. -/
theorem read_ok (s : ByteArray) : (rulesS s).length ≤ 30 ∧ ∀ q ∈ rulesS s, OkR q := by
  unfold rulesS
  have hw := Sh.of (words_ok (bs (Lx.cutS s 1200))).1
  cases h : progL 30 (wordsL (bs (Lx.cutS s 1200))) with
  | error e => exact ⟨by simp [okRs], by simp [okRs]⟩
  | ok l =>
    obtain ⟨h1, h2⟩ := progL_ok 30 _ l hw h
    exact ⟨h1, fun q hq => (h2 q hq).1⟩
theorem okT_le {t : Tm} (h : OkT t) : t.2.1.size ≤ maxLen := by
  have := h.2
  simp only [maxLen]
  omega
theorem bound_len (ls : List Sy.Lit) (h : ∀ l ∈ ls, l.2.2.length ≤ 4) : (boundL ls).length ≤ 4 * ls.length := by
  induction ls with
  | nil => simp [boundL]
  | cons l r ih =>
    have e : boundL (l :: r) = (if l.1 = 1 then varsT l.2.2 else []) ++ boundL r := by simp [boundL]
    have h1 := ih (fun u hu => h u (by simp [hu]))
    have h2 := h l (by simp)
    have h3 : (if l.1 = 1 then varsT l.2.2 else []).length ≤ 4 := by
      split
      · exact Nat.le_trans (List.length_filterMap_le _ _) h2
      · simp
    rw [e, List.length_append, List.length_cons]
    omega
theorem okR_few {q : Rul} (h : OkR q) : FewR q := by
  have hb := bound_len q.2 (fun l hl => (h.body l hl).few)
  have hf := h.few
  exact ⟨⟨by have := h.head.few; omega, fun t ht => okT_le (h.head.terms t ht)⟩, ⟨by omega, fun l hl => ⟨by have := (h.body l hl).few; omega, fun t ht => okT_le ((h.body l hl).terms t ht)⟩, by omega⟩⟩
theorem okR_same {q : Rul} (h : OkR q) : safeR q = refSafe q :=
  safe_same (fun t ht => okT_le (h.head.terms t ht)) (fun l hl t ht => okT_le ((h.body l hl).terms t ht)) (fun l hl => (h.body l hl).kind)
theorem okL_raw {l : Sy.Lit} (h : OkL l) : okP (l.2.1, l.2.2.length) := by
  have h1 := h.name
  have h2 := h.few
  refine ⟨by show l.2.1.size ≤ _; omega, ?_⟩
  show l.2.2.length ≤ maxLen
  simp only [maxLen]
  omega
theorem rawL_ok {l : Sy.Lit} (h : OkL l) : ∀ x ∈ rawL l, okP x := by
  unfold rawL
  split
  · intro x hx
    rw [List.mem_singleton.1 hx]
    exact okL_raw h
  · simp
theorem rawR_ok {q : Rul} (h : OkR q) : (∀ x ∈ rawR q, okP x) ∧ (rawR q).length ≤ 7 := by
  constructor
  · intro x hx
    rcases List.mem_cons.1 hx with rfl | hx
    · exact okL_raw h.head
    · unfold rawB at hx
      obtain ⟨l, hl, hx⟩ := List.mem_flatMap.1 hx
      exact rawL_ok (h.body l hl) x hx
  · have : ∀ ls : List Sy.Lit, (rawB ls).length ≤ ls.length := fun ls => by
      induction ls with
      | nil => simp [rawB]
      | cons l r ih =>
        have e : rawB (l :: r) = rawL l ++ rawB r := by simp [rawB]
        have h2 : (rawL l).length ≤ 1 := by unfold rawL; split <;> simp
        rw [e, List.length_append, List.length_cons]
        omega
    have h1 := this q.2
    have h2 := h.few
    simp only [rawR, List.length_cons]
    omega
theorem rawRs_ok {rs : List Rul} (h : ∀ q ∈ rs, OkR q) : (∀ x ∈ rawRs rs, okP x) ∧ (rawRs rs).length ≤ 7 * rs.length := by
  induction rs with
  | nil => simp [rawRs]
  | cons q r ih =>
    obtain ⟨h1, h2⟩ := ih (fun p hp => h p (by simp [hp]))
    obtain ⟨h3, h4⟩ := rawR_ok (h q (by simp))
    have e : rawRs (q :: r) = rawR q ++ rawRs r := by simp [rawRs]
    rw [e]
    refine ⟨fun x hx => ?_, by rw [List.length_append, List.length_cons]; omega⟩
    rcases List.mem_append.1 hx with hx | hx
    · exact h3 x hx
    · exact h1 x hx
/-- Names that were met are met once. -/
theorem wid_nodup (l : List Raw) : ∀ i (hi : i < (foldN l).1.length), widN (foldN l).1 (foldN l).1[i].1 = some (foldN l).1[i].2 := by
  have key : ∀ (l : List Raw) (st : List Raw × Bool), (∀ i (hi : i < st.1.length), widN st.1 st.1[i].1 = some st.1[i].2) → ∀ i (hi : i < (l.foldl stepN st).1.length), widN (l.foldl stepN st).1 (l.foldl stepN st).1[i].1 = some (l.foldl stepN st).1[i].2 := fun l => by
    induction l with
    | nil => exact fun st h => h
    | cons x l ih =>
      intro st h
      refine ih (stepN st x) ?_
      unfold stepN addN
      simp only
      by_cases hx : hasN st.1 x.1 = true
      · rw [if_pos hx]; exact h
      · rw [if_neg hx]
        intro i hi
        by_cases hlt : i < st.1.length
        · have e : (st.1 ++ [x])[i] = st.1[i] := List.getElem_append_left hlt
          rw [e]
          have hh := h i hlt
          unfold widN at hh ⊢
          rw [List.find?_append]
          cases hf : st.1.find? (fun y => y.1.data.toList == st.1[i].1.data.toList) with
          | none => rw [hf] at hh; cases hh
          | some y => rw [hf] at hh; exact hh
        · have hl : i = st.1.length := by simp at hi; omega
          subst hl
          have e : (st.1 ++ [x])[st.1.length] = x := by simp
          rw [e]
          have hn : st.1.find? (fun y => y.1.data.toList == x.1.data.toList) = none := by
            rw [List.find?_eq_none]
            intro y hy hyx
            refine hx ?_
            unfold hasN
            exact List.any_eq_true.2 ⟨y, hy, hyx⟩
          unfold widN
          rw [List.find?_append, hn]
          simp
  exact key l ([], true) (fun i hi => absurd hi (Nat.not_lt_zero _))
end Go.Proofs.Ytienpejlfjhnmaa.Ck
namespace Go.Proofs.Ytienpejlfjhnmaa.Ck
open Go.RowKit
open Lx (tx wpList_append_run)
open Vl (Tm Ts Fr)
open Sy

theorem Try.inf3 : (Try.prog.info? 3).map (fun i => (i.zero, i.size, i.bytes)) = some (some (.int .i64 0), 1, 8) := by kernel_rfl
theorem Try.inf9 : (Try.prog.info? 9).map (fun i => (i.zero, i.size, i.bytes)) = some (some (.string ⟨#[]⟩), 1, 16) := by kernel_rfl

def nmC (m : List Raw) : List Value := m.map fun x => .string x.1
def wdC (m : List Raw) : List Value := m.map fun x => .int .i64 (x.2 : Int)
/-- The names and the widths that were met, as two rows of one's own. -/
structure Nw (base : Nat) (w : World) (m : List Raw) (vn vw : Value) : Prop where
  nms : w.ownsRow base 9 1 vn m.length (nmC m)
  wds : w.ownsRow base 3 1 vw m.length (wdC m)
theorem Nw.below {base : Nat} {w w' : World} {m : List Raw} {vn vw : Value} (h : Nw base w m vn vw) (hb : Below w.heap.size w w') : Nw base w' m vn vw := ⟨Lx.own_below h.nms hb, Lx.own_below h.wds hb⟩
theorem own_block_ge {w : World} {b e s n : Nat} {v : Value} {xs : List Value} (h : w.ownsRow b e s v n xs) : ∀ k, v.ownBlock = some k → b ≤ k := by
  rcases h.2 with ⟨rfl, _⟩ | ⟨g, cap, cur, rfl, hb, _⟩
  · intro k hk; simp [Value.ownBlock] at hk
  · intro k hk; simp [Value.ownBlock] at hk; omega
/-- All rows of other things than names and numbers are as they were. -/
def Kt (W W' : World) : Prop := ∀ (k : Nat) (cs : Array Value) (t : TypeId) (f : Nat × Nat), W.heap[k]? = some (Obj.cells cs t f) → t ≠ 9 → t ≠ 3 → W'.heap[k]? = some (Obj.cells cs t f)
theorem Kt.refl (W : World) : Kt W W := fun _ _ _ _ h _ _ => h
theorem Kt.trans {A B C : World} (h : Kt A B) (k : Kt B C) : Kt A C := fun i _ _ _ hi h1 h2 => k i _ _ _ (h i _ _ _ hi h1 h2) h1 h2
theorem Kt.of_below {W W' : World} (h : Below W.heap.size W W') : Kt W W' := fun k _ _ _ hk _ _ => (h.block k (Array.getElem?_eq_some_iff.1 hk).1).trans hk
theorem Kt.of_fr {W W' : World} {b e s n : Nat} {v : Value} {xs : List Value} (ho : W.ownsRow b e s v n xs) (he : e = 9 ∨ e = 3) (hf : Fr (fun k => v.ownBlock = some k) W W') : Kt W W' := fun k cs t f hk h1 h2 => by
  refine (hf.block k (Array.getElem?_eq_some_iff.1 hk).1 (fun hv => ?_)).trans hk
  rcases ho.2 with ⟨rfl, _⟩ | ⟨g, cap, cur, rfl, _, hg, _⟩
  · simp [Value.ownBlock] at hv
  · simp [Value.ownBlock] at hv
    subst hv
    rw [hg] at hk
    injection hk with hk
    injection hk with _ h3 _
    subst h3
    rcases he with h | h
    · exact h1 h
    · exact h2 h
theorem own_kt {W W' : World} {b e s n : Nat} {v : Value} {xs : List Value} (h : W.ownsRow b e s v n xs) (hk : Kt W W') (h1 : e ≠ 9) (h2 : e ≠ 3) : W'.ownsRow b e s v n xs := by
  refine ⟨h.1, ?_⟩
  rcases h.2 with hn' | ⟨g, cap, cur, rfl, hb, hgg, rest⟩
  · exact .inl hn'
  · exact .inr ⟨g, cap, cur, rfl, hb, hk g _ _ _ hgg h1 h2, rest⟩
theorem isLs_kt {W W' : World} {ls : List Sy.Lit} {v : Value} (h : isLs W ls v) (hk : Kt W W') : isLs W' ls v := by
  obtain ⟨zs, h1, h2, h3⟩ := h
  exact ⟨zs, h1, own_kt h2 hk (by decide) (by decide), fun z hz => own_kt (h3 z hz) hk (by decide) (by decide)⟩
theorem Nw.push {base : Nat} {w : World} {m : List Raw} {vn vw : Value} (h : Nw base w m vn vw) (hl : m.length ≤ 100000) (hb : base ≤ w.heap.size) (x : Raw) :
    ∃ gn capn w2 gw capw w3, (∀ ty, (Builtin.append_ #[37, 37] ty #[vn, .slice (some ⟨w.heap.size, 0, none⟩) 1 1]).run Try.prog (w.alloc (.cells #[.string x.1] 9)) = .ok (.slice (some ⟨gn, 0, none⟩) (m.length + 1) capn) w2) ∧
      (∀ ty, (Builtin.append_ #[38, 38] ty #[vw, .slice (some ⟨w2.heap.size, 0, none⟩) 1 1]).run Try.prog (w2.alloc (.cells #[.int .i64 (x.2 : Int)] 3)) = .ok (.slice (some ⟨gw, 0, none⟩) (m.length + 1) capw) w3) ∧
      Hid (Nw base w3 (m ++ [x]) (.slice (some ⟨gn, 0, none⟩) (m.length + 1) capn) (.slice (some ⟨gw, 0, none⟩) (m.length + 1) capw)) ∧ Hid (Below base w w3) ∧ Hid (Kt w w3) := by
  obtain ⟨gn, capn, w2, h1, o1, f1⟩ := push_row 37 9 1 16 (.string ⟨#[]⟩) (by kernel_rfl) Try.inf9 rfl (by decide) (by decide) h.nms [.string x.1] rfl (by intro u hu; rw [List.mem_singleton.1 hu]; rfl) (by omega) hb
  have b1 : Below base w w2 := f1.out.below (own_block_ge h.nms) hb
  have ow : w2.ownsRow base 3 1 vw m.length (wdC m) := Vl.own_kept h.wds f1.out (fun k hk hk' => Vl.own_ne h.wds h.nms (by decide) hk hk')
  obtain ⟨gw, capw, w3, h2, o2, f2⟩ := push_row 38 3 1 8 (.int .i64 0) (by kernel_rfl) Try.inf3 rfl (by decide) (by decide) ow [.int .i64 (x.2 : Int)] rfl (by intro u hu; rw [List.mem_singleton.1 hu]; rfl) (by omega) (Nat.le_trans hb b1.size)
  have b2 : Below base w2 w3 := f2.out.below (own_block_ge ow) (Nat.le_trans hb b1.size)
  have on : w3.ownsRow base 9 1 (.slice (some ⟨gn, 0, none⟩) (m.length + 1) capn) (m.length + 1) (nmC m ++ [.string x.1]) := Vl.own_kept o1.out f2.out (fun k hk hk' => Vl.own_ne o1.out ow (by decide) hk hk')
  refine ⟨gn, capn, w2, gw, capw, w3, h1, h2, ⟨?_, ?_⟩, b1.trans b2, (Kt.of_fr h.nms (Or.inl rfl) f1.out).trans (Kt.of_fr ow (Or.inr rfl) f2.out)⟩
  · have e : nmC (m ++ [x]) = nmC m ++ [.string x.1] := by simp [nmC]
    rw [e, List.length_append]
    exact on
  · have e : wdC (m ++ [x]) = wdC m ++ [.int .i64 (x.2 : Int)] := by simp [wdC]
    rw [e, List.length_append]
    exact o2.out
theorem Nw.cells {base : Nat} {w : World} {m : List Raw} {vn vw : Value} (h : Nw base w m vn vw) : ∃ an cn aw cw, vn = .slice an m.length cn ∧ vw = .slice aw m.length cw ∧
    (0 < m.length → ∃ gn gw, an = some ⟨gn, 0, none⟩ ∧ aw = some ⟨gw, 0, none⟩ ∧ ∀ i (hi : i < m.length), w.cell? ⟨gn, i, none⟩ = some (.string m[i].1) ∧ w.cell? ⟨gw, i, none⟩ = some (.int .i64 (m[i].2 : Int))) := by
  have h1 := h.nms
  have h2 := h.wds
  obtain ⟨_, an, cn, rfl⟩ := own_len h1
  obtain ⟨_, aw, cw, rfl⟩ := own_len h2
  refine ⟨an, cn, aw, cw, rfl, rfl, fun hp => ?_⟩
  rcases Lx.own_shape h1 with ⟨_, h0⟩ | ⟨gn, c1, e1, _⟩
  · omega
  rcases Lx.own_shape h2 with ⟨_, h0⟩ | ⟨gw, c2, e2, _⟩
  · omega
  simp only [Value.slice.injEq, true_and] at e1 e2
  obtain ⟨rfl, rfl⟩ := e1
  obtain ⟨rfl, rfl⟩ := e2
  refine ⟨gn, gw, rfl, rfl, fun i hi => ⟨?_, ?_⟩⟩
  · rw [h1.cellAt _ (by omega)]
    simp [nmC, hi]
  · rw [h2.cellAt _ (by omega)]
    simp [wdC, hi]

def eqN (nm : ByteArray) (y : Raw) : Bool := y.1.toList == nm.toList
theorem has_eqN (m : List Raw) (nm : ByteArray) : hasN m nm = m.any (eqN nm) := by
  unfold hasN eqN
  congr 1
  funext y
  rw [Lib.toList_data, Lib.toList_data]
theorem wid_at {m : List Raw} {nm : ByteArray} {i : Nat} (hi : i < m.length) (h0 : (m.take i).any (eqN nm) = false) (h1 : eqN nm m[i] = true) : widN m nm = some m[i].2 := by
  have e : m = m.take i ++ m[i] :: m.drop (i + 1) := by simp
  have hf : (fun y : Raw => y.1.data.toList == nm.data.toList) = eqN nm := by
    funext y
    unfold eqN
    rw [Lib.toList_data, Lib.toList_data]
  have hn : (m.take i).find? (eqN nm) = none := by
    rw [List.find?_eq_none]
    intro x hx
    have := List.any_eq_false.1 h0 x hx
    simpa using this
  unfold widN
  rw [hf]
  have : m.find? (eqN nm) = some m[i] := by
    have e2 : List.find? (eqN nm) (m.take i ++ m[i] :: m.drop (i + 1)) = some m[i] := by
      rw [List.find?_append, hn, List.find?_cons, h1]
      rfl
    rwa [← e] at e2
  rw [this]
  rfl
theorem pred_found {m : List Raw} {nm : ByteArray} {i : Nat} (k : Nat) (hi : i < m.length) (h0 : (m.take i).any (eqN nm) = false) (h1 : eqN nm m[i] = true) : okN m (nm, k) = (m[i].2 == k) ∧ addN m (nm, k) = m := by
  have hw := wid_at hi h0 h1
  refine ⟨by simp only [okN, hw], ?_⟩
  unfold addN
  rw [if_pos (by rw [wid_has]; simp only [hw]; rfl)]
theorem pred_none {m : List Raw} {nm : ByteArray} (k : Nat) (h0 : m.any (eqN nm) = false) : okN m (nm, k) = true ∧ addN m (nm, k) = m ++ [(nm, k)] := by
  have hh : hasN m nm = false := by rw [has_eqN]; exact h0
  have hw : widN m nm = none := by
    have := wid_has m nm
    rw [hh] at this
    cases hq : widN m nm with
    | none => rfl
    | some j => rw [hq] at this; cases this
  refine ⟨by simp only [okN, hw], ?_⟩
  unfold addN
  simp only
  rw [if_neg (by rw [hh]; decide)]

set_option maxRecDepth 10000 in
set_option maxHeartbeats 8000000 in
theorem pred_any {base : Nat} {w : World} {m : List Raw} {vn vw : Value} (h : Nw base w m vn vw) (hb : base ≤ w.heap.size) (hl : m.length ≤ 100000) (nm : ByteArray) (k : Nat) (ok : Bool) :
    Calls Try.prog 23 #[vn, vw, .string nm, .int .i64 (k : Int), .bool ok] w fun e w' => ∃ vn' vw', e = .returned (.tuple #[vn', vw', .bool (ok && okN m (nm, k))]) ∧ Nw base w' (addN m (nm, k)) vn' vw' ∧ Below base w w' ∧ Kt w w' := by
  have HN := hide h
  obtain ⟨gn', capn', w2, gw', capw', w3, hap1, hap2, HN3, HB3, HK3⟩ := h.push hl hb (nm, k)
  obtain ⟨an, cn, aw, cw, rfl, rfl, hc⟩ := h.cells
  have HC := hide hc
  have HB := hide hb
  simp only at hap1 hap2
  clear hc h hb
  go_enter Try.func23, Try.ntmps23
  go_wp2_with fail
  go_loopw [13] (fun iv wr => ∃ i : Nat, iv = .int .i64 i ∧ i ≤ m.length ∧ Hid ((m.take i).any (eqN nm) = false) ∧ wr = w) (fun iv _ => m.length - (intOf iv).toNat)
  case atStart => exact ⟨0, rfl, Nat.zero_le _, rfl, rfl⟩
  case round =>
    obtain ⟨i, rfl, hi, HI, hwr⟩ := hrel
    have hwr' := hwr.symm
    subst hwr'
    clear hwr
    by_cases hlt : i < m.length
    · have hltI : (i : Int) < (m.length : Int) := by omega
      obtain ⟨gn, gw, rfl, rfl, hc⟩ := HC.out (by omega)
      obtain ⟨k0, k1⟩ := hc i hlt
      have HAT := hide (any_take (p := eqN nm) hlt)
      have HF : Hid (eqN nm m[i] = true → okN m (nm, k) = (m[i].2 == k) ∧ addN m (nm, k) = m) := fun h1 => pred_found k hlt HI.out h1
      have HE : Hid (eqN nm m[i] = (m[i].1.toList == nm.toList)) := rfl
      clear hc hap1 hap2 HN3 HB3 HK3
      generalize m[i] = q at *
      obtain ⟨qn, qk⟩ := q
      simp only at k0 k1 HE HF
      cases hq : (qn.toList == nm.toList)
      · rw [hq] at HE
        go_wp2_with fail
        go_roundw
        case rel => exact ⟨i + 1, by go_num, by omega, by show _ = _; rw [HAT.out, HI.out, HE.out]; rfl, by first | rfl | trivial⟩
        case measure => simp [intOf]; omega
      · rw [hq] at HE
        obtain ⟨f1, f2⟩ := HF.out HE.out
        have F1 := hide f1
        have F2 := hide f2
        clear f1 f2
        cases ok with
        | false =>
          go_wp2_with fail
          go_quiet (fail)
          go_wp2_with fail
          go_ret3
          rw [F1.out, F2.out]
          exact ⟨_, _, rfl, HN.out.below (Sy.below_drewN w nq), (Sy.below_drewN w nq).mono HB.out, Kt.of_below (Sy.below_drewN w nq)⟩
        | true =>
          obtain ⟨b, hbk⟩ : ∃ b, (qk == k) = b := ⟨_, rfl⟩
          have hbi : ((qk : Int) == (k : Int)) = b := by
            rw [← hbk]
            by_cases e : qk = k
            · subst e; simp
            · have e' : ¬ (qk : Int) = (k : Int) := by omega
              rw [beq_eq_false_iff_ne.2 e, beq_eq_false_iff_ne.2 e']
          rw [hbk] at F1
          clear hbk
          cases b with
          | false =>
            go_wp2_with fail
            go_quiet (fail)
            go_wp2_with fail
            go_ret3
            rw [F1.out, F2.out]
            exact ⟨_, _, rfl, HN.out.below (Sy.below_drewN w nq), (Sy.below_drewN w nq).mono HB.out, Kt.of_below (Sy.below_drewN w nq)⟩
          | true =>
            go_wp2_with fail
            go_quiet (fail)
            go_wp2_with fail
            go_ret3
            rw [F1.out, F2.out]
            exact ⟨_, _, rfl, HN.out.below (Sy.below_drewN w nq), (Sy.below_drewN w nq).mono HB.out, Kt.of_below (Sy.below_drewN w nq)⟩
    · have hltI : ¬ (i : Int) < (m.length : Int) := by omega
      have hie : m.take i = m := by rw [show i = m.length by omega, List.take_length]
      rw [hie] at HI
      obtain ⟨f1, f2⟩ := pred_none k HI.out
      have F1 := hide f1
      have F2 := hide f2
      clear hie f1 f2 HC
      go_wp2_with (at_builtin; first | refine wpList_append_run _ rfl (.tmp 37) (.tmp 39) 37 37 rfl _ _ rfl rfl (hap1 _) ?_ | refine wpList_append_run _ rfl (.tmp 41) (.tmp 43) 38 38 rfl _ _ rfl rfl (hap2 _) ?_)
      go_ret3
      rw [F1.out, F2.out]
      refine ⟨_, _, ?_, HN3.out, HB3.out, HK3.out⟩
      rw [Bool.and_true]
      rfl
end Go.Proofs.Ytienpejlfjhnmaa.Ck
namespace Go.Proofs.Ytienpejlfjhnmaa.Ck
open Go.RowKit
open Lx (tx wpList_append_run)
open Vl (Tm Ts Fr)
open Sy

theorem addN_len (m : List Raw) (x : Raw) : (addN m x).length ≤ m.length + 1 := by
  unfold addN
  split
  · omega
  · simp
theorem foldN_len (l : List Raw) : (foldN l).1.length ≤ l.length := by
  have key : ∀ (l : List Raw) (st : List Raw × Bool), (l.foldl stepN st).1.length ≤ st.1.length + l.length := fun l => by
    induction l with
    | nil => intro st; simp
    | cons x l ih =>
      intro st
      have h1 := ih (stepN st x)
      have h2 := addN_len st.1 x
      simp only [List.foldl_cons, List.length_cons]
      simp only [stepN] at h1 ⊢
      omega
  simpa [foldN] using key l ([], true)

/-- What stands ahead of a literal's place in its rule, its head first. -/
def preA (q : Rul) : Nat → List Raw
  | 0 => []
  | j + 1 => (q.1.2.1, q.1.2.2.length) :: rawB (q.2.take j)
theorem preA_end (q : Rul) : preA q (q.1 :: q.2).length = rawR q := by
  show (q.1.2.1, q.1.2.2.length) :: rawB (q.2.take q.2.length) = _
  rw [List.take_length]
  rfl
theorem preA_head (q : Rul) : preA q 1 = preA q 0 ++ [(q.1.2.1, q.1.2.2.length)] := rfl
theorem preA_body {q : Rul} {j : Nat} (hj : j < (q.1 :: q.2).length) (h0 : 0 < j) : preA q (j + 1) = preA q j ++ rawL (q.1 :: q.2)[j] := by
  obtain ⟨j, rfl⟩ : ∃ i, j = i + 1 := ⟨j - 1, by omega⟩
  have hj' : j < q.2.length := by simpa using hj
  show (q.1.2.1, q.1.2.2.length) :: rawB (q.2.take (j + 1)) = ((q.1.2.1, q.1.2.2.length) :: rawB (q.2.take j)) ++ rawL q.2[j]
  rw [rawB_take hj', List.cons_append]
theorem preA_len {q : Rul} {j : Nat} (hj : j ≤ (q.1 :: q.2).length) : (preA q j).length ≤ (rawR q).length := by
  cases j with
  | zero => simp [preA]
  | succ j =>
    have := (rawB_pre q.2 j).length_le
    simp only [preA, rawR, List.length_cons]
    omega

set_option maxRecDepth 10000 in
set_option maxHeartbeats 16000000 in
theorem rpreds_any {w : World} {rs : List Rul} {fs : List Raw} {vr vf : Value} (hr : isRs w rs vr) (hf : FsB w vf fs) (hl : rs.length ≤ 1000000) (hb : ∀ q ∈ rs, q.2.length ≤ 1000000) (hN : (rawRs rs ++ fs).length ≤ 100000) :
    Calls Try.prog 10 #[vr, vf] w fun e w' => ∃ vn vw, e = .returned (.tuple #[vn, vw, .bool (foldN (rawRs rs ++ fs)).2]) ∧ Nw w.heap.size w' (foldN (rawRs rs ++ fs)).1 vn vw ∧ Below w.heap.size w w' := by
  obtain ⟨ao, cap, rfl⟩ := Rp.isRs_shape hr
  have HC := hide (Rp.isRs_cells hr).2
  obtain ⟨aof, capf, rfl, hlf, hcf⟩ := hf
  have HCF := hide hcf
  have HBL := hide hb
  have HLN : Hid (∀ i, (rawRs (rs.take i)).length ≤ 100000) := fun i => by
    have h1 := (rawRs_pre rs i).length_le
    rw [List.length_append] at hN
    omega
  have HLB : Hid (∀ i (hi : i < rs.length), (rawRs (rs.take i)).length + (rawR rs[i]).length ≤ 100000) := fun i hi => by
    have h1 := (rawRs_pre rs (i + 1)).length_le
    rw [rawRs_take hi, List.length_append] at h1
    rw [List.length_append] at hN
    omega
  have HNN := hide hN
  clear hr hcf hb hN
  go_enter Try.func10, Try.ntmps10
  go_wp2_with fail
  go_loopw [7, 8, 9, 10, 11, 12] (fun vn vw vb iv _ _ wr => ∃ i : Nat, iv = .int .i64 i ∧ i ≤ rs.length ∧ (∃ b, vb = .bool b ∧ Hid (b = (foldN (rawRs (rs.take i))).2)) ∧ Hid (Nw w.heap.size wr (foldN (rawRs (rs.take i))).1 vn vw) ∧ Hid (Below w.heap.size w wr)) (fun _ _ _ iv _ _ _ => rs.length - (intOf iv).toNat)
  case atStart => exact ⟨0, rfl, Nat.zero_le _, ⟨true, rfl, rfl⟩, ⟨World.ownsRow_nil _ _ _ _, World.ownsRow_nil _ _ _ _⟩, Below.refl _ _⟩
  case round =>
    obtain ⟨i, rfl, hi, ⟨b, rfl, Hb⟩, HNw, HBw⟩ := hrel
    by_cases hlt : i < rs.length
    · have hltI : (i : Int) < (rs.length : Int) := by omega
      obtain ⟨g, rfl, hc⟩ := HC.out (by omega)
      obtain ⟨va, vb, hva, hvb, k0, k1, k2, k3⟩ := hc i hlt
      have hva := isTs_below hva HBw.out
      have hvb := isLs_below hvb HBw.out
      have k0 := cell_below' k0 HBw.out
      have k1 := cell_below' k1 HBw.out
      have k2 := cell_below' k2 HBw.out
      have k3 := cell_below' k3 HBw.out
      have HRT := hide (rawRs_take hlt)
      have HLq := hide (HLB.out i hlt)
      have hqb := HBL.out _ (List.getElem_mem hlt)
      clear hc
      generalize rs[i] = q at *
      obtain ⟨_, aoa, capa, rfl⟩ := own_len hva
      obtain ⟨aob, capb, rfl⟩ := isLs_shape hvb
      obtain ⟨ao2, cap2, w3, hap, HL, HB3⟩ := head_body (W := wr.drew) (hl := q.1) (isTs_below hva (Below.refl _ wr).drew) (isLs_below hvb (Below.refl _ wr).drew) hqb
      have hap' : ∀ ty, (Builtin.append_ #[30, 30] ty #[.slice (some ⟨wr.heap.size, 0, none⟩) 1 1, .slice aob q.2.length capb]).run Try.prog (wr.alloc (.cells #[.int .i64 q.1.1, .string q.1.2.1, .slice aoa q.1.2.2.length capa] 29)).drew = .ok (.slice ao2 (q.2.length + 1) cap2) w3 := hap
      have HBw3 : Hid (Below wr.heap.size wr w3) := (Below.refl _ wr).drew.trans HB3.out
      have k3a : ∀ o, (wr.alloc o).cell? ⟨g, i * 4 + 3, none⟩ = some (.slice aob q.2.length capb) := fun o => cell_below' k3 (Lx.below_box wr o)
      clear hap hva hvb HB3
      obtain ⟨N, hN⟩ : ∃ N, q.2.length + 1 = N := ⟨_, rfl⟩
      rw [hN] at hap' HL
      obtain ⟨A, hA⟩ : ∃ A, q.1 :: q.2 = A := ⟨_, rfl⟩
      have hAN : A.length = N := by rw [← hA, ← hN]; rfl
      have HPE : Hid (preA q A.length = rawR q) := by show _ = _; rw [← hA]; exact preA_end q
      have HP0 : Hid (∀ (h : 0 < A.length), preA q 1 = preA q 0 ++ [(A[0].2.1, A[0].2.2.length)]) := by subst hA; exact fun _ => preA_head q
      have HPB : Hid (∀ j (hj : j < A.length), 0 < j → preA q (j + 1) = preA q j ++ rawL A[j]) := by subst hA; exact fun j hj h0 => preA_body hj h0
      have HPL : Hid (∀ j, j ≤ A.length → (preA q j).length ≤ (rawR q).length) := by subst hA; exact fun j hj => preA_len hj
      rw [hA] at HL
      have hNm : N ≤ 1000001 := by omega
      clear hA hN
      have HAN := hide hAN
      clear hAN
      have HN3 := hide (HNw.out.below HBw3.out)
      have HB4 := hide (HBw.out.trans (HBw3.out.mono HBw.out.size))
      go_upto_region 7 with fail
      go_cut [11] from 20 to 31 (fun s wc => s = .slice ao2 N cap2 ∧ wc = w3)
      case first =>
        refine wp_region_noPanic ?_
        go_region_law (refine Vl.step_append_run (by rfl) (.tmp 25) (.tmp 30) 30 30 (by rfl) _ _ (by rfl) (by rfl) (hap' _) ?_)
        all_goals refine NoPanic.normal ?_
        all_goals go_wp2_with fail
        all_goals go_meet
        all_goals exact ⟨rfl, rfl⟩
      case rest =>
        obtain ⟨rfl, hwc⟩ := hcut
        have hwc' := hwc.symm
        subst hwc'
        clear hwc hap' k0 k1 k2 k3 k3a HBw3 HNw HBw
        go_wp2_with fail
        go_loopw [7, 8, 9, 12] (fun vn vw vb jv wq => ∃ j : Nat, jv = .int .i64 j ∧ j ≤ N ∧ (∃ b, vb = .bool b ∧ Hid (b = (foldN (rawRs (rs.take i) ++ preA q j)).2)) ∧ Hid (Nw w.heap.size wq (foldN (rawRs (rs.take i) ++ preA q j)).1 vn vw) ∧ Hid (Below w.heap.size w wq) ∧ Hid (Kt w3 wq)) (fun _ _ _ jv _ => N - (intOf jv).toNat)
        case atStart => exact ⟨0, rfl, Nat.zero_le _, ⟨b, rfl, by show _ = _; rw [Hb.out, preA, List.append_nil]⟩, by show Nw _ _ _ _ _; rw [preA, List.append_nil]; exact HN3.out, HB4, Kt.refl _⟩
        case round =>
          obtain ⟨j, rfl, hj, ⟨b, rfl, Hb⟩, HNq, HBq, HKq⟩ := hrel
          by_cases hjl : j < N
          · have hjlI : (j : Int) < (N : Int) := by omega
            have hjA : j < A.length := by rw [HAN.out]; exact hjl
            obtain ⟨gl, hgl, hc⟩ := (isLs_cells (isLs_kt HL.out HKq.out)).2 (by omega)
            subst hgl
            obtain ⟨u, hu, d0, d1, d2⟩ := hc j hjA
            obtain ⟨_, aou, capu, rfl⟩ := own_len hu
            have HPj := hide (HPB.out j hjA)
            have HP1 := hide (HPL.out j (by omega))
            have HPz : Hid (j = 0 → preA q (j + 1) = preA q j ++ [(A[j].2.1, A[j].2.2.length)]) := by
              rintro rfl
              exact HP0.out hjA
            have HRL : Hid (rawL A[j] = if A[j].1 = 1 ∨ A[j].1 = 2 then [(A[j].2.1, A[j].2.2.length)] else []) := rfl
            have hlen : (foldN (rawRs (rs.take i) ++ preA q j)).1.length ≤ 100000 := by
              have h1 := foldN_len (rawRs (rs.take i) ++ preA q j)
              rw [List.length_append] at h1
              have h2 := HLq.out
              have h3 := HP1.out
              omega
            have HNd : Hid (Nw w.heap.size wr.drew (foldN (rawRs (rs.take i) ++ preA q j)).1 u7 u8) := HNq.out.below (Below.refl _ wr).drew
            have HBd : Hid (Below w.heap.size w wr.drew) := HBq.out.drew
            have HPR : Hid (∀ (nm : ByteArray) (k : Nat), Calls Try.prog 23 #[u7, u8, .string nm, .int .i64 (k : Int), .bool b] wr.drew fun e w' => ∃ vn' vw', e = .returned (.tuple #[vn', vw', .bool (b && okN (foldN (rawRs (rs.take i) ++ preA q j)).1 (nm, k))]) ∧ Nw w.heap.size w' (addN (foldN (rawRs (rs.take i) ++ preA q j)).1 (nm, k)) vn' vw' ∧ Below w.heap.size wr.drew w' ∧ Kt wr.drew w') := fun nm k =>
              pred_any (w := wr.drew) HNd.out HBd.out.size hlen nm k b
            clear hc hu hlen
            generalize A[j] = l at *
            obtain ⟨lk, ln, lt⟩ := l
            simp only at d0 d1 d2 HPj HPz HRL
            have HD0 := hide d0
            obtain ⟨W0, hW0⟩ : ∃ W0, W0 = wr := ⟨_, rfl⟩
            subst hW0
            by_cases hat : j = 0 ∨ lk = 1 ∨ lk = 2
            · have HX : Hid (preA q (j + 1) = preA q j ++ [(ln, lt.length)]) := by
                show _ = _
                by_cases h0 : j = 0
                · exact HPz.out h0
                · rw [HPj.out (by omega), HRL.out, if_pos (hat.resolve_left h0)]
              have HF : Hid (foldN (rawRs (rs.take i) ++ preA q (j + 1)) = stepN (foldN (rawRs (rs.take i) ++ preA q j)) (ln, lt.length)) := by
                show _ = _
                rw [HX.out, ← List.append_assoc, foldN_snoc]
              clear HX HPj HPz HRL HP1
              go_upto_region 11 with fail
              go_cut [55] from 38 to 55 (fun s wc => s = .bool false ∧ wc = W0)
              case first =>
                by_cases h0 : j = 0
                · subst h0
                  go_wp2_with fail
                  go_meet
                  exact ⟨rfl, rfl⟩
                · have h0I : (j : Int) > 0 := by omega
                  have hk12 : lk = 1 ∨ lk = 2 := by omega
                  clear hat
                  rcases hk12 with rfl | rfl
                  · go_wp2_with fail
                    go_meet
                    exact ⟨rfl, rfl⟩
                  · go_wp2_with fail
                    go_meet
                    exact ⟨rfl, rfl⟩
              case rest =>
                obtain ⟨rfl, hwc⟩ := hcut
                have hwc' := hwc.symm
                subst hwc'
                clear hwc hat HD0
                go_upto_region 12 with fail
                refine wp_region_noPanic ?_
                go_region_with (go_at_call 23; (with_reducible refine Calls.mono (HPR.out ln lt.length) ?_); rintro e w5 ⟨vn', vw', rfl, hn5, hb5, hk5⟩)
                all_goals refine NoPanic.normal ?_
                all_goals have HN5 := hide hn5
                all_goals have HB5 := hide (HBd.out.trans hb5)
                all_goals have HK5 := hide (HKq.out.trans ((Kt.of_below (Below.refl _ W0).drew).trans hk5))
                all_goals clear hn5 hb5 hk5
                all_goals go_wp2_with fail
                all_goals go_roundw
                all_goals first
                  | exact ⟨j + 1, by go_num, by omega, ⟨_, rfl, by show _ = _; rw [HF.out, Hb.out]; rfl⟩, by rw [HF.out]; exact HN5, HB5, HK5⟩
                  | (simp [intOf]; omega)
            · have HX : Hid (preA q (j + 1) = preA q j) := by
                show _ = _
                rw [HPj.out (by omega), HRL.out, if_neg (by omega), List.append_nil]
              have h0I : (j : Int) > 0 := by omega
              have g1 : (lk != 1) = true := by simp; omega
              have g2 : (lk != 2) = true := by simp; omega
              clear hat HPj HPz HRL HP1
              go_wp2_with fail
              go_roundw
              case rel => exact ⟨j + 1, by go_num, by omega, ⟨b, rfl, by rw [HX.out]; exact Hb⟩, by rw [HX.out]; exact HNq, HBq, HKq⟩
              case measure => simp [intOf]; omega
          · have hjlI : ¬ (j : Int) < (N : Int) := by omega
            have hje : j = A.length := by rw [HAN.out]; omega
            rw [hje, HPE.out, ← HRT.out] at Hb HNq
            clear hje
            go_wp2_with fail
            go_roundw
            case rel => exact ⟨i + 1, by go_num, by omega, ⟨b, rfl, Hb⟩, HNq, HBq⟩
            case measure => simp [intOf]; omega
    · have hltI : ¬ (i : Int) < (rs.length : Int) := by omega
      have hie : rs.take i = rs := by rw [show i = rs.length by omega, List.take_length]
      rw [hie] at Hb HNw
      clear hie
      have HLF : Hid (∀ k, (rawRs rs ++ fs.take k).length ≤ 100000) := fun k => by
        have h1 := HNN.out
        rw [List.length_append] at h1 ⊢
        rw [List.length_take]
        omega
      go_wp2_with fail
      go_loopw [7, 8, 9, 13] (fun vn vw vb jv wq => ∃ j : Nat, jv = .int .i64 j ∧ j ≤ fs.length ∧ (∃ b, vb = .bool b ∧ Hid (b = (foldN (rawRs rs ++ fs.take j)).2)) ∧ Hid (Nw w.heap.size wq (foldN (rawRs rs ++ fs.take j)).1 vn vw) ∧ Hid (Below w.heap.size w wq)) (fun _ _ _ jv _ => fs.length - (intOf jv).toNat)
      case atStart => exact ⟨0, rfl, Nat.zero_le _, ⟨b, rfl, by show _ = _; rw [Hb.out, List.take_zero, List.append_nil]⟩, by show Nw _ _ _ _ _; rw [List.take_zero, List.append_nil]; exact HNw.out, HBw⟩
      case round =>
        obtain ⟨j, rfl, hj, ⟨b, rfl, Hb⟩, HNq, HBq⟩ := hrel
        by_cases hjl : j < fs.length
        · have hjlI : (j : Int) < (fs.length : Int) := by omega
          obtain ⟨gf, off, rfl, hc⟩ := HCF.out (by omega)
          obtain ⟨d0, aa, ca, d1⟩ := hc j hjl
          have d0 := cell_below' d0 HBq.out
          have d1 := cell_below' d1 HBq.out
          have HF : Hid (foldN (rawRs rs ++ fs.take (j + 1)) = stepN (foldN (rawRs rs ++ fs.take j)) fs[j]) := by
            show _ = _
            rw [List.take_succ_eq_append_getElem hjl, ← List.append_assoc, foldN_snoc]
          have hlen : (foldN (rawRs rs ++ fs.take j)).1.length ≤ 100000 := Nat.le_trans (foldN_len _) (HLF.out j)
          have HNd : Hid (Nw w.heap.size wr.drew (foldN (rawRs rs ++ fs.take j)).1 u7 u8) := HNq.out.below (Below.refl _ wr).drew
          have HBd : Hid (Below w.heap.size w wr.drew) := HBq.out.drew
          have HPR : Hid (∀ (nm : ByteArray) (k : Nat), Calls Try.prog 23 #[u7, u8, .string nm, .int .i64 (k : Int), .bool b] wr.drew fun e w' => ∃ vn' vw', e = .returned (.tuple #[vn', vw', .bool (b && okN (foldN (rawRs rs ++ fs.take j)).1 (nm, k))]) ∧ Nw w.heap.size w' (addN (foldN (rawRs rs ++ fs.take j)).1 (nm, k)) vn' vw' ∧ Below w.heap.size wr.drew w' ∧ Kt wr.drew w') := fun nm k =>
            pred_any (w := wr.drew) HNd.out HBd.out.size hlen nm k b
          clear hc hlen
          generalize fs[j] = x at *
          obtain ⟨xn, xk⟩ := x
          simp only at d0 d1
          go_upto_region 16 with fail
          refine wp_region_noPanic ?_
          go_region_with (go_at_call 23; (with_reducible refine Calls.mono (HPR.out xn xk) ?_); rintro e w5 ⟨vn', vw', rfl, hn5, hb5, hk5⟩)
          all_goals refine NoPanic.normal ?_
          all_goals have HN5 := hide hn5
          all_goals have HB5 := hide (HBd.out.trans hb5)
          all_goals clear hn5 hb5 hk5
          all_goals go_wp2_with fail
          all_goals go_roundw
          all_goals first
            | exact ⟨j + 1, by go_num, by omega, ⟨_, rfl, by show _ = _; rw [HF.out, Hb.out]; rfl⟩, by rw [HF.out]; exact HN5, HB5⟩
            | (simp [intOf]; omega)
        · have hjlI : ¬ (j : Int) < (fs.length : Int) := by omega
          have hje : fs.take j = fs := by rw [show j = fs.length by omega, List.take_length]
          rw [hje] at Hb HNq
          clear hje
          go_wp2_with fail
          go_ret3
          exact ⟨_, _, by rw [← Hb.out]; rfl, HNq.out, HBq.out⟩
end Go.Proofs.Ytienpejlfjhnmaa.Ck

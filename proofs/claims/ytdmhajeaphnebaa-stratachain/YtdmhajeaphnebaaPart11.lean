/- What is read of words does not hang on their places. A program that was read has just the words of its rules printed: in plain mathematics. The words of rules; a program that was read has just these; the printed text too: in plain mathematics. The printed text of rules has just the rules' words: in plain mathematics. The chain's text, its words and its rules: in plain mathematics. -/
import Derived.Test.YtdmhajeaphnebaaPart10
import Derived.Test.YtdmhajeaphnebaaPart07
namespace Go.Proofs.Ytdmhajeaphnebaa.Sy
open Lx (Wd tx scanL scanAt)
open Vl (Tm)

def mapZ {α : Type} : Re α → Re α
  | .error e => .error e
  | .ok (x, r) => .ok (x, r.map z)
theorem next_z (ws : List Wd) : nextW (ws.map z) = z (nextW ws) := by cases ws <;> rfl
theorem take_z (s : List UInt8) (ws : List Wd) : takeB s (ws.map z) = takeB s ws := by unfold takeB; rw [next_z]; rfl
theorem tail_z (ws : List Wd) : (ws.map z).tail = ws.tail.map z := by cases ws <;> rfl
theorem one_z (f : Wd → Option Tm) (hf : ∀ x, f (z x) = f x) (ws : List Wd) : oneL f (ws.map z) = mapZ (oneL f ws) := by
  unfold oneL
  rw [next_z, hf, tail_z]
  cases f (nextW ws) <;> rfl
theorem const_z (x : Wd) : constW (z x) = constW x := rfl
theorem term_z (x : Wd) : termW (z x) = termW x := rfl
theorem list_z {α : Type} (item : List Wd → Re α) (hi : ∀ ws, item (ws.map z) = mapZ (item ws)) (n : Nat) : ∀ ws, listL item n (ws.map z) = mapZ (listL item n ws) := by
  induction n with
  | zero =>
    intro ws
    have h := hi ws
    cases hw : item ws with
    | error e => rw [hw] at h; rw [listL_err hw, listL_err h]; rfl
    | ok p => obtain ⟨x, t⟩ := p; rw [hw] at h; rw [listL_zero hw, listL_zero h]; rfl
  | succ n ih =>
    intro ws
    have h := hi ws
    cases hw : item ws with
    | error e => rw [hw] at h; rw [listL_err hw, listL_err h]; rfl
    | ok p =>
      obtain ⟨x, t⟩ := p
      rw [hw] at h
      cases ht : takeB [44] t with
      | false =>
        rw [listL_last hw ht, listL_last h (by rw [take_z]; exact ht)]
        rfl
      | true =>
        have e : takeR [44] (t.map z) = (takeR [44] t).map z := by rw [takeR, takeR, if_pos ht, if_pos (by rw [take_z]; exact ht), tail_z]
        rw [listL_more hw ht, listL_more h (by rw [take_z]; exact ht), e, ih]
        cases listL item n (takeR [44] t) <;> rfl
theorem atom_z (f : Wd → Option Tm) (hf : ∀ x, f (z x) = f x) (ws : List Wd) : atomL f (ws.map z) = mapZ (atomL f ws) := by
  unfold atomL
  rw [next_z, tail_z, take_z, tail_z, list_z (oneL f) (one_z f hf)]
  show (if (nextW ws).1 = 1 then _ else _) = _
  by_cases h1 : (nextW ws).1 = 1
  · rw [if_pos h1, if_pos h1]
    cases ht : takeB [40] ws.tail with
    | false => rfl
    | true =>
      simp only [if_true]
      cases listL (oneL f) 4 ws.tail.tail with
      | error e => rfl
      | ok p =>
        obtain ⟨l, r⟩ := p
        simp only [mapZ]
        rw [take_z]
        cases takeB [41] r with
        | false => rfl
        | true =>
          simp only [if_true]
          rw [tail_z]
          rfl
  · rw [if_neg h1, if_neg h1]
    rfl
theorem cmp_z (ws : List Wd) : cmpL (ws.map z) = mapZ (cmpL ws) := by
  unfold cmpL termL
  rw [one_z termW term_z]
  cases oneL termW ws with
  | error e => rfl
  | ok p =>
    obtain ⟨a, t⟩ := p
    simp only [mapZ]
    rw [next_z, tail_z, one_z termW term_z]
    show (if kindOf (nextW t).2.1 = 0 then _ else _) = _
    by_cases hk : kindOf (nextW t).2.1 = 0
    · rw [if_pos hk, if_pos hk]
    · rw [if_neg hk, if_neg hk]
      cases oneL termW t.tail with
      | error e => rfl
      | ok q => rfl
theorem lit_z (ws : List Wd) : litL (ws.map z) = mapZ (litL ws) := by
  unfold litL
  rw [take_z, next_z, tail_z, next_z, atom_z termW term_z, atom_z termW term_z, cmp_z]
  cases takeB [33] ws with
  | true =>
    simp only [if_true]
    cases atomL termW ws.tail <;> rfl
  | false =>
    simp only [Bool.false_eq_true, if_false]
    show (if (nextW ws).1 = 1 ∧ kindOf (nextW ws.tail).2.1 = 0 then _ else _) = _
    by_cases hk : (nextW ws).1 = 1 ∧ kindOf (nextW ws.tail).2.1 = 0
    · rw [if_pos hk, if_pos hk]
    · rw [if_neg hk, if_neg hk]
theorem end_z (h : Lit) (b : List Lit) (t : List Wd) : endR h b (t.map z) = mapZ (endR h b t) := by
  unfold endR
  rw [take_z]
  cases ht : takeB [46] t with
  | false => rfl
  | true =>
    simp only [if_true]
    rw [takeR, takeR, if_pos ht, if_pos (by rw [take_z]; exact ht), tail_z]
    rfl
theorem clause_z (ws : List Wd) : clauseL (ws.map z) = mapZ (clauseL ws) := by
  rw [clauseL_eq, clauseL_eq, atom_z termW term_z]
  cases atomL termW ws with
  | error e => rfl
  | ok p =>
    obtain ⟨h, t⟩ := p
    simp only [mapZ]
    rw [take_z]
    have e : takeR [58, 45] (t.map z) = (takeR [58, 45] t).map z := by
      rw [takeR, takeR, take_z]
      cases takeB [58, 45] t with
      | false => rfl
      | true => simp only [if_true]; exact tail_z t
    rw [e, list_z litL lit_z, end_z]
    cases takeB [58, 45] t with
    | false => rfl
    | true =>
      simp only [if_true]
      cases listL litL 6 (takeR [58, 45] t) with
      | error e => rfl
      | ok q =>
        obtain ⟨b, r⟩ := q
        exact end_z h b r
theorem prog_z (n : Nat) : ∀ ws, progL n (ws.map z) = progL n ws := by
  induction n with
  | zero =>
    intro ws
    by_cases hw : ws = []
    · rw [hw]; rfl
    · have hw' : ws.map z ≠ [] := by simpa using hw
      have h := clause_z ws
      cases hc : clauseL ws with
      | error e => rw [hc] at h; rw [progL_err hw hc, progL_err hw' h]
      | ok p => obtain ⟨x, t⟩ := p; rw [hc] at h; rw [progL_zero hw hc, progL_zero hw' h]
  | succ n ih =>
    intro ws
    by_cases hw : ws = []
    · rw [hw]; rfl
    · have hw' : ws.map z ≠ [] := by simpa using hw
      have h := clause_z ws
      cases hc : clauseL ws with
      | error e => rw [hc] at h; rw [progL_err hw hc, progL_err hw' h]
      | ok p =>
        obtain ⟨x, t⟩ := p
        rw [hc] at h
        rw [progL_more hw hc, progL_more hw' h, ih]
/-- A text's words, as far as they are read. -/
theorem prog_K {S : List UInt8} {ws : List Wd} (h : K S = some ws) : ∃ L, scanAt S 0 = some L ∧ ∀ n, progL n (wordsL S) = progL n ws := by
  unfold K at h
  cases hs : scanL S 0 with
  | none => rw [hs] at h; cases h
  | some L =>
    rw [hs] at h
    have h' : L.map z = ws := Option.some.inj h
    have hL : scanAt S 0 = some L := hs
    refine ⟨L, hL, fun n => ?_⟩
    rw [wordsL, hL]
    simp only []
    rw [← h', prog_z]

end Go.Proofs.Ytdmhajeaphnebaa.Sy
namespace Go.Proofs.Ytdmhajeaphnebaa.Ps
open Lx (Wd tx bs scanL scanAt frontL kindN kindL sizeL nameN varN smallN greatN digitN blankN runP numL)
open Vl (Tm prt dg)
open Sy

/-- Digits without a zero ahead of them. -/
def Dig (x : List UInt8) : Prop := ∃ d r, x = d :: r ∧ digitN d.toNat = true ∧ d.toNat ≠ 48 ∧ ∀ c ∈ r, digitN c.toNat = true
/-- A number as it is printed. -/
def Can (x : List UInt8) : Prop := x = [48] ∨ Dig x ∨ ∃ y, x = 45 :: y ∧ Dig y
structure OkV (x : Wd) : Prop where
  ok : OkW x
  var : x.1 = 2 → ∀ c ∈ x.2.1, varN c.toNat = true
  can : x.1 = 3 → Can x.2.1

theorem dig_of (c : UInt8) (t : List UInt8) (h : digitN c.toNat = true) (h0 : c.toNat ≠ 48) (n : Nat) (hn : n ≤ runP digitN t) : Dig (c :: t.take n) := by
  refine ⟨c, t.take n, rfl, h, h0, fun d hd => ?_⟩
  have : t.take n = (t.take (runP digitN t)).take n := by rw [List.take_take]; congr 1; omega
  rw [this] at hd
  exact runP_mem _ _ d (List.mem_of_mem_take hd)
theorem num_can (c : UInt8) (t : List UInt8) (h0 : numL (c :: t) ≠ 0) : Can ((c :: t).take (numL (c :: t))) := by
  by_cases h1 : c.toNat = 48
  · left
    have e : numL (c :: t) = 1 := by simp [numL, h1]
    have hc : c = 48 := UInt8.toNat_inj.1 (show c.toNat = (48 : UInt8).toNat by rw [h1]; rfl)
    rw [e, hc]
    rfl
  · by_cases h2 : c.toNat = 45
    · match t with
      | [] => simp [numL, h2] at h0
      | d :: r =>
        by_cases h3 : d.toNat = 48
        · simp [numL, h2, h3] at h0
        · by_cases h4 : digitN d.toNat = true
          · right; right
            have e : numL (c :: d :: r) = runP digitN r + 2 := by simp [numL, h2, h3, h4]
            have hc : c = 45 := UInt8.toNat_inj.1 (show c.toNat = (45 : UInt8).toNat by rw [h2]; rfl)
            refine ⟨d :: r.take (runP digitN r), ?_, dig_of d r h4 h3 _ (Nat.le_refl _)⟩
            rw [e, hc]
            simp
          · simp [numL, h2, h3, h4] at h0
    · right; left
      have e : numL (c :: t) = runP digitN (c :: t) := by simp only [numL, if_neg h1, if_neg h2]
      rw [e] at h0 ⊢
      by_cases hd : digitN c.toNat = true
      · have e2 : runP digitN (c :: t) = runP digitN t + 1 := by simp [runP, hd]
        rw [e2, List.take_succ_cons]
        exact dig_of c t hd h1 _ (Nat.le_refl _)
      · simp [runP, hd] at h0
theorem okV_first (c : UInt8) (t : List UInt8) (a : Nat) (hs : ¬ (sizeL (c :: t) = 0 ∨ 16 < sizeL (c :: t))) : OkV (kindL (c :: t), (c :: t).take (sizeL (c :: t)), a) := by
  refine ⟨okW_first c t a hs, fun h => ?_, fun h => ?_⟩
  · have h2 : kindL (c :: t) = 2 := h
    have e : sizeL (c :: t) = runP varN (c :: t) := by simp [sizeL, h2]
    show ∀ d ∈ (c :: t).take (sizeL (c :: t)), _
    rw [e]
    exact runP_mem _ _
  · have h3 : kindL (c :: t) = 3 := h
    have e : sizeL (c :: t) = numL (c :: t) := by simp [sizeL, h3]
    show Can ((c :: t).take (sizeL (c :: t)))
    rw [e]
    exact num_can c t (by rw [← e]; exact fun h => hs (Or.inl h))
theorem scan_okV (n : Nat) : ∀ (L : List UInt8) (a : Nat) (m : List Wd), L.length ≤ n → scanL L a = some m → ∀ x ∈ m, OkV x := by
  induction n with
  | zero =>
    intro L a m hl h
    obtain rfl : L = [] := by cases L; rfl; simp at hl
    rw [Lx.scanL_nil] at h
    cases h
    simp
  | succ n ih =>
    intro L a m hl h
    cases L with
    | nil => rw [Lx.scanL_nil] at h; cases h; simp
    | cons c t =>
      rw [Lx.scanL_cons] at h
      simp only [List.length_cons] at hl
      split at h
      · exact ih t _ m (by omega) h
      · split at h
        · exact ih _ _ m (by rw [List.length_drop]; omega) h
        · split at h
          · cases h
          · rename_i hs
            cases hr : scanL (t.drop (sizeL (c :: t) - 1)) (a + sizeL (c :: t)) with
            | none => rw [hr] at h; cases h
            | some r =>
              rw [hr] at h
              cases h
              intro x hx
              rcases List.mem_cons.1 hx with rfl | hx
              · exact okV_first c t a hs
              · exact ih _ _ r (by rw [List.length_drop]; omega) hr x hx
theorem okV_z {x : Wd} (h : OkV x) : OkV (z x) := ⟨⟨h.ok.ne, h.ok.kind, h.ok.len, h.ok.name, h.ok.num⟩, h.var, h.can⟩

/-- The value of digits, printed. -/
theorem val_snoc (y : List UInt8) (c : UInt8) : valL 0 (y ++ [c]) = valL 0 y * 10 + (c.toNat - 48) := by
  unfold valL
  rw [List.foldl_append]
  rfl
theorem digit_back {c : UInt8} (h : digitN c.toNat = true) : UInt8.ofNat (48 + (c.toNat - 48)) = c := by
  have h1 : 48 ≤ c.toNat ∧ c.toNat ≤ 57 := by simpa [digitN] using h
  rw [show 48 + (c.toNat - 48) = c.toNat by omega]
  exact UInt8.ofNat_toNat
theorem dg_val (k : Nat) : ∀ r : List UInt8, r.length = k → ∀ d : UInt8, digitN d.toNat = true → d.toNat ≠ 48 → (∀ c ∈ r, digitN c.toNat = true) → dg (valL 0 (d :: r)) = d :: r := by
  induction k with
  | zero =>
    intro r hr d hd h0 _
    obtain rfl : r = [] := List.length_eq_zero_iff.1 hr
    have h1 : 48 ≤ d.toNat ∧ d.toNat ≤ 57 := by simpa [digitN] using hd
    have hv : valL 0 [d] = d.toNat - 48 := by simp [valL, valStep]
    rw [hv, Vl.dg_step _ (by omega), show (d.toNat - 48) / 10 = 0 by omega, show (d.toNat - 48) % 10 = d.toNat - 48 by omega, digit_back hd]
    simp [dg]
  | succ k ih =>
    intro r hr d hd h0 hc
    have hne : r ≠ [] := by intro e; rw [e] at hr; simp at hr
    have er : r = r.dropLast ++ [r.getLast hne] := (List.dropLast_concat_getLast hne).symm
    generalize hl : r.getLast hne = c at er
    generalize r.dropLast = y at er
    subst er
    have hy : y.length = k := by simpa using hr
    have h2 := ih y hy d hd h0 (fun u hu => hc u (by simp [hu]))
    have hcc := hc c (by simp)
    have h3 : 48 ≤ c.toNat ∧ c.toNat ≤ 57 := by simpa [digitN] using hcc
    rw [← List.cons_append, val_snoc]
    have hnz : valL 0 (d :: y) ≠ 0 := by intro e; rw [e] at h2; simp [dg] at h2
    rw [Vl.dg_step _ (by omega), show (valL 0 (d :: y) * 10 + (c.toNat - 48)) / 10 = valL 0 (d :: y) by omega, show (valL 0 (d :: y) * 10 + (c.toNat - 48)) % 10 = c.toNat - 48 by omega, h2, digit_back hcc]
theorem dig_val {x : List UInt8} (h : Dig x) : dg (valL 0 x) = x ∧ valL 0 x ≠ 0 := by
  obtain ⟨d, r, rfl, h1, h2, h3⟩ := h
  have := dg_val r.length r rfl d h1 h2 h3
  exact ⟨this, fun e => by rw [e] at this; simp [dg] at this⟩
theorem can_itoa {x : List UInt8} (h : Can x) : Lib.itoa (numOf x) = x := by
  rcases h with rfl | h | ⟨y, rfl, h⟩
  · have e : numOf [48] = 0 := by decide
    rw [e]
    simp [Lib.itoa, Lib.decDigits]
  · obtain ⟨h1, h2⟩ := dig_val h
    obtain ⟨d, r, rfl, hd, h0, hr⟩ := h
    have hb : 48 ≤ d.toNat ∧ d.toNat ≤ 57 := by simpa [digitN] using hd
    have e : numOf (d :: r) = ((valL 0 (d :: r) : Nat) : Int) := by
      unfold numOf
      rw [if_neg (by simp; omega)]
    rw [e, Vl.itoa_dg _ (by omega), if_neg (by omega)]
    exact h1
  · obtain ⟨h1, h2⟩ := dig_val h
    have e : numOf (45 :: y) = -((valL 0 y : Nat) : Int) := by
      unfold numOf
      rw [if_pos (by rfl)]
      rfl
    rw [e, Vl.itoa_dg _ (by omega), if_pos (by omega), show (-((valL 0 y : Nat) : Int)).natAbs = valL 0 y by omega, h1]
end Go.Proofs.Ytdmhajeaphnebaa.Ps
namespace Go.Proofs.Ytdmhajeaphnebaa.Ps
open Lx (Wd tx bs scanL scanAt frontL kindN kindL sizeL nameN varN smallN greatN digitN blankN runP numL)
open Vl (Tm prt dg)
open Sy

def sgW (x : List UInt8) : Wd := (4, x, 0)
def wT (t : Tm) : Wd := (if t.1 = 1 then 2 else if t.1 = 2 then 1 else 3, (prt t).data.toList, 0)
/-- Things with a comma between. -/
def wSep {α : Type} (f : α → List Wd) : List α → List Wd
  | [] => []
  | [x] => f x
  | x :: y :: r => f x ++ sgW [44] :: wSep f (y :: r)
def wAtom (l : Sy.Lit) : List Wd := (1, l.2.1.data.toList, 0) :: (if l.2.2 = [] then [] else sgW [40] :: (wSep (fun t => [wT t]) l.2.2 ++ [sgW [41]]))
def wLit (l : Sy.Lit) : List Wd :=
  if 3 ≤ l.1 then [wT (l.2.2.getD 0 (0, ⟨#[]⟩, 0)), sgW (signS l.1).data.toList, wT (l.2.2.getD 1 (0, ⟨#[]⟩, 0))]
  else if l.1 = 2 then sgW [33] :: wAtom l else wAtom l
def wRule (q : Rul) : List Wd := wAtom q.1 ++ ((if q.2 = [] then [] else sgW [58, 45] :: wSep wLit q.2) ++ [sgW [46]])
def wRules (rs : List Rul) : List Wd := rs.flatMap wRule

theorem wSep_cons {α : Type} (f : α → List Wd) (x : α) (r : List α) : wSep f (x :: r) = f x ++ (if r = [] then [] else sgW [44] :: wSep f r) := by
  cases r with
  | nil => simp [wSep]
  | cons y r => simp [wSep]

/-! ### what was read has these words -/
def Vs (ws : List Wd) : Prop := ∀ x ∈ ws, OkV x
theorem Vs.tail {ws : List Wd} (h : Vs ws) : Vs ws.tail := fun x hx => h x (List.mem_of_mem_tail hx)
theorem tx_list (x : List UInt8) : (tx x).data.toList = x := by simp [tx]
/-- A sign that is taken stands there. -/
theorem take_sign {ws : List Wd} {s : List UInt8} (h : Vs ws) (hs : s ≠ []) (hk : kindL s = 4) (ht : takeB s ws = true) : ws.map z = sgW s :: ws.tail.map z := by
  cases ws with
  | nil =>
    have : ([] : List UInt8) = s := by simpa [takeB, nextW] using ht
    exact absurd this.symm hs
  | cons x r =>
    have e : x.2.1 = s := of_decide_eq_true ht
    have hx := (h x (by simp)).ok.kind
    rw [e, hk] at hx
    simp [z, sgW, e, hx]
theorem term_word {x : Wd} {t : Tm} (hx : OkV x) (h : termW x = some t) : z x = wT t := by
  unfold termW at h
  split at h
  · rename_i h2
    cases h
    simp [z, wT, prt, h2, tx_list]
  · unfold constW at h
    split at h
    · rename_i h1
      cases h
      simp [z, wT, prt, h1, tx_list]
    · split at h
      · rename_i h3
        split at h
        · cases h
          have hc := can_itoa (hx.can h3)
          simp [z, wT, prt, h3, hc]
        · cases h
      · cases h
theorem nextW_nil_term : termW (0, [], 0) = none := by decide
theorem one_word {ws : List Wd} {t : Tm} {r : List Wd} (hw : Vs ws) (h : oneL termW ws = .ok (t, r)) : ws.map z = wT t :: r.map z ∧ Vs r := by
  unfold oneL at h
  cases ws with
  | nil => simp only [nextW, nextW_nil_term] at h; cases h
  | cons x s =>
    simp only [nextW] at h
    cases hf : termW x with
    | none => rw [hf] at h; cases h
    | some u =>
      rw [hf] at h
      cases h
      exact ⟨by rw [List.map_cons, term_word (hw x (by simp)) hf]; rfl, hw.tail⟩
theorem list_word {α : Type} {item : List Wd → Re α} {f : α → List Wd} (hi : ∀ ws x r, Vs ws → item ws = .ok (x, r) → ws.map z = f x ++ r.map z ∧ Vs r) : ∀ (n : Nat) (ws : List Wd) (l : List α) (r : List Wd), Vs ws → listL item n ws = .ok (l, r) → ws.map z = wSep f l ++ r.map z ∧ Vs r ∧ l ≠ [] := by
  intro n
  induction n with
  | zero =>
    intro ws l r hw h
    unfold listL at h
    split at h <;> cases h
  | succ n ih =>
    intro ws l r hw h
    unfold listL at h
    split at h
    · cases h
    · rename_i x t hx
      obtain ⟨hp, ht⟩ := hi ws x t hw hx
      split at h
      · rename_i htk
        split at h
        · cases h
        · rename_i l' r' hl
          cases h
          obtain ⟨h1, h2, h3⟩ := ih _ _ _ ht.tail hl
          refine ⟨?_, h2, by simp⟩
          rw [hp, take_sign ht (by simp) (by decide) htk, h1, wSep_cons, if_neg h3]
          simp
      · cases h
        exact ⟨by rw [hp]; simp [wSep], ht, by simp⟩
theorem next_name {ws : List Wd} (hk : (nextW ws).1 = 1) : ws.map z = (1, (nextW ws).2.1, 0) :: ws.tail.map z := by
  cases ws with
  | nil => simp [nextW] at hk
  | cons x s =>
    have hk' : x.1 = 1 := hk
    simp [z, hk', nextW]
theorem atom_word {ws : List Wd} {l : Sy.Lit} {r : List Wd} (hw : Vs ws) (h : atomL termW ws = .ok (l, r)) : ws.map z = wAtom l ++ r.map z ∧ Vs r ∧ l.1 = 1 := by
  unfold atomL at h
  split at h
  · rename_i hk
    have hx := next_name hk
    split at h
    · rename_i htk
      split at h
      · cases h
      · rename_i l' r' hl
        split at h
        · rename_i htk2
          cases h
          obtain ⟨h1, h2, h3⟩ := list_word (f := fun t => [wT t]) (fun ws t r hw h => one_word hw h) 4 _ _ _ hw.tail.tail hl
          refine ⟨?_, h2.tail, rfl⟩
          have e1 := take_sign hw.tail (by simp) (by decide) htk
          have e2 := take_sign h2 (by simp) (by decide) htk2
          rw [hx, e1, h1, e2]
          simp only [wAtom, if_neg h3, tx_list]
          simp
        · cases h
    · cases h
      refine ⟨?_, hw.tail, rfl⟩
      rw [hx]
      simp [wAtom, tx_list]
  · cases h
theorem kind_sign {x : List UInt8} (h : kindOf x ≠ 0) : x ≠ [] ∧ kindL x = 4 ∧ (signS (kindOf x : Nat)).data.toList = x := by
  unfold kindOf at h ⊢
  split at h
  · rename_i e; subst e; exact ⟨by simp, by decide, by decide⟩
  · split at h
    · rename_i e; subst e; exact ⟨by simp, by decide, by decide⟩
    · split at h
      · rename_i e; subst e; exact ⟨by simp, by decide, by decide⟩
      · split at h
        · rename_i e; subst e; exact ⟨by simp, by decide, by decide⟩
        · exact absurd rfl h
theorem cmp_word {ws : List Wd} {l : Sy.Lit} {r : List Wd} (hw : Vs ws) (h : cmpL ws = .ok (l, r)) : ws.map z = wLit l ++ r.map z ∧ Vs r := by
  unfold cmpL at h
  split at h
  · cases h
  · rename_i a t ha
    obtain ⟨h1, h2⟩ := one_word hw ha
    split at h
    · cases h
    · rename_i hk
      split at h
      · cases h
      · rename_i b r' hb
        cases h
        obtain ⟨h3, h4⟩ := one_word h2.tail hb
        obtain ⟨k1, k2, k3⟩ := kind_sign hk
        have e := take_sign (s := (nextW t).2.1) h2 k1 k2 (by simp [takeB])
        refine ⟨?_, h4⟩
        rw [h1, e, h3]
        rcases kindOf_le (nextW t).2.1 with h0 | ⟨h5, h6⟩
        · exact absurd h0 hk
        · have h7 : (3 : Int) ≤ ((kindOf (nextW t).2.1 : Nat) : Int) := by omega
          simp only [wLit, if_pos h7, k3]
          rfl
theorem lit_word {ws : List Wd} {l : Sy.Lit} {r : List Wd} (hw : Vs ws) (h : litL ws = .ok (l, r)) : ws.map z = wLit l ++ r.map z ∧ Vs r := by
  unfold litL at h
  split at h
  · rename_i htk
    split at h
    · cases h
    · rename_i l' r' hl
      cases h
      obtain ⟨h1, h2, h3⟩ := atom_word hw.tail hl
      refine ⟨?_, h2⟩
      rw [take_sign hw (by simp) (by decide) htk, h1]
      simp [wLit, wAtom]
  · split at h
    · obtain ⟨h1, h2, h3⟩ := atom_word hw h
      refine ⟨?_, h2⟩
      rw [h1]
      simp [wLit, h3]
    · exact cmp_word hw h
theorem clause_word {ws : List Wd} {q : Rul} {r : List Wd} (hw : Vs ws) (h : clauseL ws = .ok (q, r)) : ws.map z = wRule q ++ r.map z ∧ Vs r := by
  unfold clauseL at h
  split at h
  · cases h
  · rename_i hd t hh
    obtain ⟨h1, h2, h3⟩ := atom_word hw hh
    split at h
    · rename_i htk
      split at h
      · cases h
      · rename_i b r' hb
        split at h
        · rename_i htk2
          cases h
          obtain ⟨k1, k2, k3⟩ := list_word (f := wLit) (fun ws x r hw h => lit_word hw h) 6 _ _ _ h2.tail hb
          refine ⟨?_, k2.tail⟩
          rw [h1, take_sign h2 (by simp) (by decide) htk, k1, take_sign k2 (by simp) (by decide) htk2]
          simp [wRule, k3]
        · cases h
    · split at h
      · rename_i htk2
        cases h
        refine ⟨?_, h2.tail⟩
        rw [h1, take_sign h2 (by simp) (by decide) htk2]
        simp [wRule]
      · cases h
theorem prog_word : ∀ (n : Nat) (ws : List Wd) (l : List Rul), Vs ws → progL n ws = .ok l → ws.map z = wRules l := by
  intro n
  induction n with
  | zero =>
    intro ws l hw h
    cases ws with
    | nil => cases h; rfl
    | cons x r =>
      unfold progL at h
      split at h <;> cases h
  | succ n ih =>
    intro ws l hw h
    cases ws with
    | nil => cases h; rfl
    | cons x t =>
      unfold progL at h
      split at h
      · cases h
      · rename_i c r hc
        obtain ⟨h1, h2⟩ := clause_word hw hc
        split at h
        · cases h
        · rename_i l' hl
          cases h
          rw [h1, ih _ _ h2 hl]
          simp [wRules]
end Go.Proofs.Ytdmhajeaphnebaa.Ps
namespace Go.Proofs.Ytdmhajeaphnebaa.Ps
open Lx (Wd tx bs scanL scanAt frontL kindN kindL sizeL nameN varN smallN greatN digitN blankN runP numL signL)
open Vl (Tm prt dg factS)
open Sy

/-- Nothing that would make a word ahead of it longer. -/
def Nv (R : List UInt8) : Prop := R = [] ∨ varN (R.getD 0 0).toNat = false
def Sc (T : List UInt8) (W : List Wd) : Prop := ∀ R, Nv R → K (T ++ R) = (K R).map (W ++ ·)
def Sa (T : List UInt8) (W : List Wd) : Prop := ∀ R, K (T ++ R) = (K R).map (W ++ ·)
theorem map_map2 (o : Option (List Wd)) (A B : List Wd) : (o.map (B ++ ·)).map (A ++ ·) = o.map ((A ++ B) ++ ·) := by
  cases o with
  | none => rfl
  | some r => simp
theorem Sa.sc {T : List UInt8} {W : List Wd} (h : Sa T W) : Sc T W := fun R _ => h R
theorem Sa.then {T1 T2 : List UInt8} {W1 W2 : List Wd} (h1 : Sa T1 W1) (h2 : Sa T2 W2) : Sa (T1 ++ T2) (W1 ++ W2) := fun R => by
  rw [List.append_assoc, h1, h2, map_map2]
theorem Sa.then_sc {T1 T2 : List UInt8} {W1 W2 : List Wd} (h1 : Sa T1 W1) (h2 : Sc T2 W2) : Sc (T1 ++ T2) (W1 ++ W2) := fun R hR => by
  rw [List.append_assoc, h1, h2 R hR, map_map2]
theorem Sc.then_sa {T1 T2 : List UInt8} {W1 W2 : List Wd} (h1 : Sc T1 W1) (h2 : Sa T2 W2) (hn : ∀ R, Nv (T2 ++ R)) : Sa (T1 ++ T2) (W1 ++ W2) := fun R => by
  rw [List.append_assoc, h1 _ (hn R), h2, map_map2]
theorem Sc.then_sc {T1 T2 : List UInt8} {W1 W2 : List Wd} (h1 : Sc T1 W1) (h2 : Sc T2 W2) (hn : ∀ R, Nv (T2 ++ R)) : Sc (T1 ++ T2) (W1 ++ W2) := fun R hR => by
  rw [List.append_assoc, h1 _ (hn R), h2 R hR, map_map2]
theorem nv_cons (c : UInt8) (t : List UInt8) (h : varN c.toNat = false) : Nv (c :: t) := Or.inr (by simpa using h)

theorem runP_app (p : Nat → Bool) : ∀ (x R : List UInt8), (∀ c ∈ x, p c.toNat = true) → (R = [] ∨ p (R.getD 0 0).toNat = false) → runP p (x ++ R) = x.length
  | [], R, _, hR => by
    rcases hR with rfl | h
    · rfl
    · cases R with
      | nil => rfl
      | cons d r => simp at h; simp [runP, h]
  | c :: x, R, h, hR => by
    have := runP_app p x R (fun d hd => h d (by simp [hd])) hR
    simp [runP, h c (by simp), this]
theorem nv_name {R : List UInt8} (h : Nv R) : R = [] ∨ nameN (R.getD 0 0).toNat = false := by
  rcases h with h | h
  · exact Or.inl h
  · right
    unfold varN at h
    exact (Bool.or_eq_false_iff.1 h).1
theorem nv_digit {R : List UInt8} (h : Nv R) : R = [] ∨ digitN (R.getD 0 0).toNat = false := by
  rcases nv_name h with h | h
  · exact Or.inl h
  · right
    unfold nameN at h
    exact (Bool.or_eq_false_iff.1 (Bool.or_eq_false_iff.1 h).1).2
theorem dig_num {x R : List UInt8} (h : Dig x) (hR : Nv R) : numL (x ++ R) = x.length := by
  obtain ⟨d, r, rfl, h1, h2, h3⟩ := h
  have hb : 48 ≤ d.toNat ∧ d.toNat ≤ 57 := by simpa [digitN] using h1
  have hall : ∀ c ∈ d :: r, digitN c.toNat = true := by
    intro c hc
    rcases List.mem_cons.1 hc with rfl | hc
    · exact h1
    · exact h3 c hc
  have e : numL (d :: r ++ R) = runP digitN (d :: r ++ R) := by
    rw [List.cons_append]
    simp only [numL]
    rw [if_neg h2, if_neg (by omega)]
  rw [e]
  exact runP_app _ _ _ hall (nv_digit hR)
theorem can_num {x R : List UInt8} (h : Can x) (hR : Nv R) : numL (x ++ R) = x.length := by
  rcases h with rfl | h | ⟨y, rfl, h⟩
  · rfl
  · exact dig_num h hR
  · obtain ⟨d, r, rfl, h1, h2, h3⟩ := h
    have e : numL (45 :: (d :: r) ++ R) = runP digitN (r ++ R) + 2 := by
      simp [numL, h1, h2]
    rw [e, runP_app _ _ _ h3 (nv_digit hR)]
    rfl
theorem kind_word {c : UInt8} (h : kindN c.toNat ≠ 4) : blankN c.toNat = false ∧ ¬ c.toNat = 37 := by
  refine ⟨?_, fun e => h (by rw [e]; decide)⟩
  cases hb : blankN c.toNat with
  | false => rfl
  | true =>
    refine absurd ?_ h
    have h4 : c.toNat = 32 ∨ c.toNat = 9 ∨ c.toNat = 10 ∨ c.toNat = 13 := by
      unfold blankN at hb
      simp at hb
      omega
    rcases h4 with e | e | e | e <;> rw [e] <;> decide
theorem sc_word {x : Wd} (h : OkV x) (hk : x.1 = 1 ∨ x.1 = 2 ∨ x.1 = 3) : Sc x.2.1 [z x] := fun R hR => by
  obtain ⟨k, X, a⟩ := x
  simp only at hk ⊢
  cases X with
  | nil => exact absurd rfl h.ok.ne
  | cons c t =>
    have hkk : k = kindN c.toNat := h.ok.kind
    have hlen : (c :: t).length ≤ 16 := h.ok.len
    obtain ⟨h1, h2⟩ := kind_word (c := c) (by rw [← hkk]; omega)
    have hkl : kindL (c :: (t ++ R)) = k := hkk.symm
    have hs : sizeL (c :: (t ++ R)) = (c :: t).length := by
      unfold sizeL
      rw [hkl]
      rcases hk with rfl | rfl | rfl
      · rw [if_pos rfl]
        exact runP_app nameN (c :: t) R (h.ok.name rfl) (nv_name hR)
      · rw [if_neg (by decide), if_pos rfl]
        exact runP_app varN (c :: t) R (h.var rfl) hR
      · rw [if_neg (by decide), if_neg (by decide), if_pos rfl]
        exact can_num (x := c :: t) (h.can rfl) hR
    have hw := K_word c (t ++ R) (c :: t).length k (c :: t) h1 h2 hs (by simp only [List.length_cons] at hlen ⊢; omega) hkl (by rw [← List.cons_append]; exact List.take_left)
    rw [List.cons_append, hw]
    have e : (t ++ R).drop ((c :: t).length - 1) = R := by simp
    rw [e]
    rfl
theorem sa_open : Sa [40] [sgW [40]] := fun R => K_40 R
theorem sa_shut : Sa [41] [sgW [41]] := fun R => K_41 R
theorem sa_comma : Sa [44, 32] [sgW [44]] := fun R => by
  rw [show ([44, 32] : List UInt8) ++ R = 44 :: 32 :: R from rfl, K_44, K_blank 32 R (by decide)]
  rfl
theorem sa_stop : Sa [46, 10] [sgW [46]] := fun R => by
  rw [show ([46, 10] : List UInt8) ++ R = 46 :: 10 :: R from rfl, K_46, K_blank 10 R (by decide)]
  rfl
theorem sa_if : Sa [32, 58, 45, 32] [sgW [58, 45]] := fun R => by
  rw [show ([32, 58, 45, 32] : List UInt8) ++ R = 32 :: 58 :: 45 :: 32 :: R from rfl, K_blank 32 _ (by decide), K_if, K_blank 32 R (by decide)]
  rfl
theorem K_33 (c : UInt8) (t : List UInt8) (hc : c ≠ 61) : K (33 :: c :: t) = (K (c :: t)).map (fun r => sgW [33] :: r) := by
  have hs : sizeL (33 :: c :: t) = 1 := by
    have h1 : kindL (33 :: c :: t) = 4 := rfl
    have h2 : (61 == c) = false := by rw [beq_eq_false_iff_ne]; exact fun e => hc e.symm
    unfold sizeL
    rw [h1, if_neg (by decide), if_neg (by decide), if_neg (by decide)]
    simp [signL, Lx.signIn, Lx.signsL, List.isPrefixOf, h2]
  exact K_word 33 (c :: t) 1 4 [33] (by decide) (by decide) hs (by omega) rfl rfl
theorem K_60 (t : List UInt8) : K (60 :: 32 :: t) = (K (32 :: t)).map (fun r => sgW [60] :: r) :=
  K_word 60 (32 :: t) 1 4 [60] (by decide) (by decide) rfl (by omega) rfl rfl
theorem sa_sign {k : Int} (h : k = 3 ∨ k = 4 ∨ k = 5 ∨ k = 6) : Sa (32 :: ((signS k).data.toList ++ [32])) [sgW (signS k).data.toList] := fun R => by
  rcases h with rfl | rfl | rfl | rfl
  · show K (32 :: 61 :: 32 :: R) = _
    rw [K_blank 32 _ (by decide), K_word 61 (32 :: R) 1 4 [61] (by decide) (by decide) rfl (by omega) rfl rfl]
    show (K (32 :: R)).map _ = _
    rw [K_blank 32 R (by decide)]
    rfl
  · show K (32 :: 33 :: 61 :: 32 :: R) = _
    rw [K_blank 32 _ (by decide), K_word 33 (61 :: 32 :: R) 2 4 [33, 61] (by decide) (by decide) rfl (by omega) rfl rfl]
    show (K (32 :: R)).map _ = _
    rw [K_blank 32 R (by decide)]
    rfl
  · show K (32 :: 60 :: 32 :: R) = _
    rw [K_blank 32 _ (by decide), K_60, K_blank 32 R (by decide)]
    rfl
  · show K (32 :: 60 :: 61 :: 32 :: R) = _
    rw [K_blank 32 _ (by decide), K_word 60 (61 :: 32 :: R) 2 4 [60, 61] (by decide) (by decide) rfl (by omega) rfl rfl]
    show (K (32 :: R)).map _ = _
    rw [K_blank 32 R (by decide)]
    rfl
theorem sc_term {t : Tm} (h : OkV (wT t)) : Sc (prt t).data.toList [wT t] := by
  refine sc_word h ?_
  unfold wT
  simp only
  split
  · exact Or.inr (Or.inl rfl)
  · split
    · exact Or.inl rfl
    · exact Or.inr (Or.inr rfl)
theorem join_two (x y : List UInt8) (r : List (List UInt8)) (s : List UInt8) : Lib.join (x :: y :: r) s = x ++ (s ++ Lib.join (y :: r) s) := by
  rw [Lib.join_cons, Lib.join_cons]
  simp [Lib.joinTail]
theorem sc_join {α : Type} (f : α → List UInt8) (g : α → List Wd) : ∀ l : List α, l ≠ [] → (∀ x ∈ l, Sc (f x) (g x)) → Sc (Lib.join (l.map f) [44, 32]) (wSep g l)
  | [], h, _ => absurd rfl h
  | [x], _, h => by
    rw [List.map_singleton, Lib.join_one]
    exact h x (by simp)
  | x :: y :: r, _, h => by
    have ih := sc_join f g (y :: r) (by simp) (fun u hu => h u (by simp [hu]))
    rw [List.map_cons, List.map_cons, join_two]
    rw [List.map_cons] at ih
    have h2 := sa_comma.then_sc ih
    exact (h x (by simp)).then_sc h2 (fun R => nv_cons 44 _ (by decide))
theorem mem_sep {α : Type} (g : α → List Wd) : ∀ (l : List α) (x : α), x ∈ l → ∀ u ∈ g x, u ∈ wSep g l
  | [], x, h, _, _ => by simp at h
  | [y], x, h, u, hu => by rw [List.mem_singleton.1 h] at hu; exact hu
  | y :: y' :: r, x, h, u, hu => by
    simp only [wSep, List.mem_append, List.mem_cons]
    rcases List.mem_cons.1 h with rfl | h
    · exact Or.inl hu
    · exact Or.inr (Or.inr (mem_sep g (y' :: r) x h u hu))
theorem sc_atom {l : Sy.Lit} (h : Vs (wAtom l)) : Sc (factS l.2.1 l.2.2).data.toList (wAtom l) := by
  have hn : Sc l.2.1.data.toList [(1, l.2.1.data.toList, 0)] := sc_word (x := (1, l.2.1.data.toList, 0)) (h _ (by simp [wAtom])) (Or.inl rfl)
  show Sc (Vl.factL l.2.1 l.2.2) _
  unfold Vl.factL
  by_cases h0 : l.2.2 = []
  · rw [if_pos h0]
    unfold wAtom
    rw [if_pos h0]
    exact hn
  · rw [if_neg h0]
    have e : wAtom l = [(1, l.2.1.data.toList, 0)] ++ ([sgW [40]] ++ (wSep (fun t => [wT t]) l.2.2 ++ [sgW [41]])) := by
      unfold wAtom
      rw [if_neg h0]
      rfl
    have hj := sc_join (fun t => (prt t).data.toList) (fun t => [wT t]) l.2.2 h0 (fun t ht => sc_term (h _ (by
      rw [e]
      simp only [List.mem_append]
      exact Or.inr (Or.inr (Or.inl (mem_sep _ _ t ht _ (by simp)))))))
    rw [e, show l.2.1.data.toList ++ [40] ++ Lib.join (Vl.prtL l.2.2) [44, 32] ++ [41] = l.2.1.data.toList ++ ([40] ++ (Lib.join (Vl.prtL l.2.2) [44, 32] ++ [41])) by simp]
    exact (hn.then_sa (sa_open.then (hj.then_sa sa_shut (fun R => nv_cons 41 _ (by decide)))) (fun R => nv_cons 40 _ (by decide))).sc
theorem fact_first {l : Sy.Lit} (h : Vs (wAtom l)) : ∃ c t, (factS l.2.1 l.2.2).data.toList = c :: t ∧ c ≠ 61 := by
  have h1 := h (1, l.2.1.data.toList, 0) (by simp [wAtom])
  have hne : l.2.1.data.toList ≠ [] := h1.ok.ne
  have hk : 1 = kindL l.2.1.data.toList := h1.ok.kind
  show ∃ c t, Vl.factL l.2.1 l.2.2 = c :: t ∧ _
  unfold Vl.factL
  generalize l.2.1.data.toList = nm at *
  cases nm with
  | nil => exact absurd rfl hne
  | cons c t =>
    have hc : c ≠ 61 := by
      rintro rfl
      have e : kindL (61 :: t) = 4 := rfl
      rw [e] at hk
      exact absurd hk (by decide)
    split
    · exact ⟨c, t, rfl, hc⟩
    · exact ⟨c, _, rfl, hc⟩
theorem sc_lit {l : Sy.Lit} (h : Vs (wLit l)) (ho : OkL l) : Sc (litT l) (wLit l) := by
  unfold litT litS
  unfold wLit at h ⊢
  by_cases h3 : 3 ≤ l.1
  · rw [if_pos h3] at h ⊢
    rw [if_pos h3]
    have ha := sc_term (h _ (by simp : wT (l.2.2.getD 0 (0, ⟨#[]⟩, 0)) ∈ _))
    have hb := sc_term (h _ (by simp : wT (l.2.2.getD 1 (0, ⟨#[]⟩, 0)) ∈ _))
    have hk := ho.kind
    have hs := sa_sign (k := l.1) (by omega)
    have := ha.then_sc (hs.then_sc hb) (fun R => nv_cons 32 _ (by decide))
    simp only [Vl.bytes_app]
    rw [show ∀ (A B G : List UInt8), A ++ ([32] : List UInt8) ++ G ++ ([32] : List UInt8) ++ B = A ++ (32 :: (G ++ [32]) ++ B) from fun A B G => by simp]
    exact this
  · rw [if_neg h3] at h ⊢
    rw [if_neg h3]
    by_cases h2 : l.1 = 2
    · rw [if_pos h2] at h ⊢
      rw [if_pos h2]
      have hv : Vs (wAtom l) := fun x hx => h x (by simp [hx])
      have ha := sc_atom hv
      obtain ⟨c, t, e, hc⟩ := fact_first hv
      rw [Vl.bytes_app, e]
      rw [e] at ha
      intro R hR
      show K (33 :: c :: (t ++ R)) = _
      rw [K_33 c _ hc]
      have := ha R hR
      rw [List.cons_append] at this
      rw [this]
      cases K R with
      | none => rfl
      | some r => rfl
    · rw [if_neg h2] at h ⊢
      rw [if_neg h2]
      exact sc_atom h
theorem sa_rule {q : Rul} (h : Vs (wRule q)) (ho : OkR q) (h1 : q.1.1 = 1) : Sa (ruleL q ++ [10]) (wRule q) := by
  have hv : Vs (wAtom q.1) := fun x hx => h x (by simp [wRule, hx])
  have hh : Sc (litT q.1) (wAtom q.1) := by
    have e : litT q.1 = (factS q.1.2.1 q.1.2.2).data.toList := by
      unfold litT litS
      rw [if_neg (by omega), if_neg (by omega)]
    rw [e]
    exact sc_atom hv
  unfold ruleL
  by_cases h0 : q.2 = []
  · rw [if_pos h0]
    unfold wRule
    rw [if_pos h0, List.append_assoc]
    exact hh.then_sa sa_stop (fun R => nv_cons 46 _ (by decide))
  · rw [if_neg h0]
    have e : wRule q = wAtom q.1 ++ ([sgW [58, 45]] ++ (wSep wLit q.2 ++ [sgW [46]])) := by
      unfold wRule
      rw [if_neg h0]
      rfl
    have hj := sc_join litT wLit q.2 h0 (fun l hl => sc_lit (fun x hx => h x (by
      rw [e]
      simp only [List.mem_append]
      exact Or.inr (Or.inr (Or.inl (mem_sep _ _ l hl _ hx))))) (ho.body l hl))
    rw [e, show litT q.1 ++ [32, 58, 45, 32] ++ Lib.join (q.2.map litT) [44, 32] ++ [46] ++ [10] = litT q.1 ++ ([32, 58, 45, 32] ++ (Lib.join (q.2.map litT) [44, 32] ++ [46, 10])) by simp]
    exact hh.then_sa (sa_if.then (hj.then_sa sa_stop (fun R => nv_cons 46 _ (by decide)))) (fun R => nv_cons 32 _ (by decide))
/-- The text of rules, a line each. -/
def allL (rs : List Rul) : List UInt8 := rs.flatMap fun q => ruleL q ++ [10]
theorem K_all : ∀ rs : List Rul, Vs (wRules rs) → (∀ q ∈ rs, OkR q ∧ q.1.1 = 1) → K (allL rs) = some (wRules rs)
  | [], _, _ => K_nil
  | q :: rs, h, ho => by
    have e : wRules (q :: rs) = wRule q ++ wRules rs := by simp [wRules]
    have e2 : allL (q :: rs) = (ruleL q ++ [10]) ++ allL rs := by simp [allL]
    have ih := K_all rs (fun x hx => h x (by rw [e]; simp [hx])) (fun p hp => ho p (by simp [hp]))
    obtain ⟨h1, h2⟩ := ho q (by simp)
    rw [e2, sa_rule (fun x hx => h x (by rw [e]; simp [hx])) h1 h2, ih, e]
    rfl
/-- What was read is printed, and read again, the same. -/
theorem again {S : List UInt8} {rs : List Rul} (h : progL 30 (wordsL S) = .ok rs) (hs : scanAt S 0 ≠ none) : (∀ q ∈ rs, OkR q ∧ q.1.1 = 1) ∧ progL 30 (wordsL (allL rs)) = .ok rs := by
  have hw := progL_ok 30 _ _ (Sh.of (words_ok S).1) h
  refine ⟨hw.2, ?_⟩
  cases hm : scanAt S 0 with
  | none => exact absurd hm hs
  | some m =>
    have hv : Vs m := scan_okV _ _ _ m (Nat.le_refl _) hm
    have hl : wordsL S = m := by unfold wordsL; rw [hm]
    rw [hl] at h
    have e := prog_word 30 m rs hv h
    have hvz : Vs (wRules rs) := by
      rw [← e]
      intro x hx
      obtain ⟨y, hy, rfl⟩ := List.mem_map.1 hx
      exact okV_z (hv y hy)
    obtain ⟨L, _, h2⟩ := prog_K (K_all rs hvz hw.2)
    rw [h2, ← e, prog_z, h]
end Go.Proofs.Ytdmhajeaphnebaa.Ps
namespace Go.Proofs.Ytdmhajeaphnebaa.Ps
open Lx (Wd tx bs scanL scanAt frontL kindN kindL sizeL nameN varN smallN greatN digitN blankN runP numL signL)
open Vl (Tm prt dg factS)
open Sy
def nmL (i : Nat) : List UInt8 := [112, UInt8.ofNat (97 + i / 10), UInt8.ofNat (97 + i % 10)]
def nw (x : List UInt8) : Wd := (1, x, 0)
def nmS (i : Nat) : ByteArray := tx (nmL i)
theorem nm_ok : ∀ i : Fin 21, kindL (nmL i) = 1 ∧ (nmL i).all (fun c => nameN c.toNat) = true := by decide
theorem okV_nm {i : Nat} (h : i ≤ 20) : OkV (nw (nmL i)) := by
  obtain ⟨h1, h2⟩ := nm_ok ⟨i, by omega⟩
  exact ⟨⟨by simp [nw, nmL], h1.symm, by simp [nw, nmL], fun _ c hc => by simpa using List.all_eq_true.1 h2 c hc, fun e => by simp [nw] at e⟩, fun e => by simp [nw] at e, fun e => by simp [nw] at e⟩
theorem okV_base : OkV (nw [98, 97, 115, 101]) := ⟨⟨by simp [nw], by decide, by simp [nw], fun _ c hc => by revert c; decide, fun e => by simp [nw] at e⟩, fun e => by simp [nw] at e, fun e => by simp [nw] at e⟩
theorem sa_stop2 : Sa [46, 32] [sgW [46]] := fun R => by
  rw [show ([46, 32] : List UInt8) ++ R = 46 :: 32 :: R from rfl, K_46, K_blank 32 R (by decide)]
  rfl
theorem sa_stop1 : Sa [46] [sgW [46]] := fun R => by
  rw [show ([46] : List UInt8) ++ R = 46 :: R from rfl, K_46]
  rfl
theorem nv_if (T : List UInt8) : ∀ R, Nv (([32, 58, 45, 32] ++ T) ++ R) := fun R => nv_cons 32 _ (by decide)
theorem sa_one {x T : List UInt8} {W : List Wd} (h : OkV (nw x)) (hT : Sa T W) (hn : ∀ R, Nv (T ++ R)) : Sa (x ++ T) (nw x :: W) := (sc_word (x := nw x) h (Or.inl rfl)).then_sa hT hn
def clT (a : List UInt8) (b : Bool) (c e : List UInt8) : List UInt8 := a ++ ([32, 58, 45, 32] ++ ((if b = true then [33] else []) ++ (c ++ e)))
def clW (a : List UInt8) (b : Bool) (c : List UInt8) : List Wd := nw a :: sgW [58, 45] :: ((if b = true then [sgW [33]] else []) ++ [nw c, sgW [46]])
def clR (a : List UInt8) (b : Bool) (c : List UInt8) : Rul := ((1, tx a, []), [(if b = true then 2 else 1, tx c, [])])
theorem sa_cl {a c e : List UInt8} (b : Bool) (ha : OkV (nw a)) (hc : OkV (nw c)) (h1 : ∃ d t, c = d :: t ∧ d ≠ 61) (he : Sa e [sgW [46]]) (hn : ∀ R, Nv (e ++ R)) : Sa (clT a b c e) (clW a b c) := by
  have h2 : Sa (c ++ e) [nw c, sgW [46]] := sa_one hc he hn
  have h3 : Sa ((if b = true then [33] else []) ++ (c ++ e)) ((if b = true then [sgW [33]] else []) ++ [nw c, sgW [46]]) := by
    cases b with
    | false => exact h2
    | true =>
      intro R
      obtain ⟨d, t, rfl, hd⟩ := h1
      have := h2 R
      show K (33 :: d :: ((t ++ e) ++ R)) = _
      rw [K_33 d _ hd]
      have h4 : d :: ((t ++ e) ++ R) = (d :: t) ++ e ++ R := by simp
      rw [h4, this]
      cases K R <;> rfl
  exact sa_one ha (sa_if.then h3) (nv_if _)
theorem cl_read {a c : List UInt8} (b : Bool) (r : List Wd) (hc : c ≠ [33]) : clauseL (clW a b c ++ r) = .ok (clR a b c, r) := by
  cases b <;> simp [clauseL, clW, clR, atomL, nextW, takeB, litL, listL, kindOf, sgW, nw, hc]
theorem prog_cl {n : Nat} {a c : List UInt8} {b : Bool} {r : List Wd} {l : List Rul} (hc : c ≠ [33]) (h : progL n r = .ok l) : progL (n + 1) (clW a b c ++ r) = .ok (clR a b c :: l) := by
  have h1 := cl_read (a := a) b r hc
  have h2 : clW a b c ++ r = nw a :: (sgW [58, 45] :: ((if b = true then [sgW [33]] else []) ++ [nw c, sgW [46]]) ++ r) := rfl
  rw [h2] at h1 ⊢
  rw [progL, h1]
  simp only []
  rw [h]
/-- The rules of a chain: from i on. -/
def bodyT : Nat → List Bool → List UInt8
  | _, [] => []
  | i, b :: r => clT (nmL (i + 1)) b (nmL i) [46, 32] ++ bodyT (i + 1) r
def bodyW : Nat → List Bool → List Wd
  | _, [] => []
  | i, b :: r => clW (nmL (i + 1)) b (nmL i) ++ bodyW (i + 1) r
def bodyR : Nat → List Bool → List Rul
  | _, [] => []
  | i, b :: r => clR (nmL (i + 1)) b (nmL i) :: bodyR (i + 1) r
theorem nm_first (i : Nat) : ∃ d t, nmL i = d :: t ∧ d ≠ 61 := ⟨112, _, rfl, by decide⟩
theorem nm_ne (i : Nat) : nmL i ≠ [33] := by simp [nmL]
theorem nv_stop2 : ∀ R, Nv (([46, 32] : List UInt8) ++ R) := fun R => nv_cons 46 _ (by decide)
theorem nv_stop1 : ∀ R, Nv (([46] : List UInt8) ++ R) := fun R => nv_cons 46 _ (by decide)
theorem sa_nil : Sa [] [] := fun R => by cases h : K R <;> simp [h]
theorem sa_body : ∀ (sg : List Bool) (i : Nat), i + sg.length ≤ 20 → Sa (bodyT i sg) (bodyW i sg)
  | [], _, _ => sa_nil
  | b :: r, i, h => by
    simp only [List.length_cons] at h
    exact (sa_cl b (okV_nm (by omega)) (okV_nm (by omega)) (nm_first i) sa_stop2 nv_stop2).then (sa_body r (i + 1) (by omega))
theorem prog_body {r : List Wd} {l : List Rul} {m : Nat} (h : progL m r = .ok l) : ∀ (sg : List Bool) (i : Nat), progL (m + sg.length) (bodyW i sg ++ r) = .ok (bodyR i sg ++ l)
  | [], _ => h
  | b :: q, i => by
    have ih := prog_body h q (i + 1)
    show progL (m + q.length + 1) ((clW (nmL (i + 1)) b (nmL i) ++ bodyW (i + 1) q) ++ r) = _
    rw [List.append_assoc]
    exact prog_cl (nm_ne i) ih
/-- The whole chain, with or without the rule that closes it. -/
def chainT (sg : List Bool) (k : Bool) : List UInt8 := clT (nmL 0) false [98, 97, 115, 101] [46, 32] ++ (bodyT 0 sg ++ (if k = true then clT (nmL 0) false (nmL sg.length) [46] else []))
def chainR (sg : List Bool) (k : Bool) : List Rul := clR (nmL 0) false [98, 97, 115, 101] :: (bodyR 0 sg ++ (if k = true then [clR (nmL 0) false (nmL sg.length)] else []))
theorem prog_more : ∀ (n : Nat) (ws : List Wd) (l : List Rul), progL n ws = .ok l → progL (n + 1) ws = .ok l
  | _, [], l, h => by rw [progL] at h ⊢; exact h
  | 0, x :: ws, l, h => by
    rw [progL] at h
    split at h <;> cases h
  | n + 1, x :: ws, l, h => by
    rw [progL] at h ⊢
    split at h
    · cases h
    · rename_i c r hc
      split at h
      · cases h
      · rename_i l2 h2
        rw [prog_more n r l2 h2]
        exact h
theorem prog_much {n m : Nat} (hm : n ≤ m) {ws : List Wd} {l : List Rul} (h : progL n ws = .ok l) : progL m ws = .ok l := by
  induction hm with
  | refl => exact h
  | step _ ih => exact prog_more _ _ _ ih
theorem chain_read (sg : List Bool) (k : Bool) (h : sg.length ≤ 20) : progL 30 (wordsL (chainT sg k)) = .ok (chainR sg k) := by
  have h1 : Sa (if k = true then clT (nmL 0) false (nmL sg.length) [46] else []) (if k = true then clW (nmL 0) false (nmL sg.length) else []) := by
    cases k with
    | false => exact sa_nil
    | true => exact sa_cl false (okV_nm (by omega)) (okV_nm h) (nm_first _) sa_stop1 nv_stop1
  have h2 := (sa_cl false (okV_nm (i := 0) (by omega)) okV_base ⟨98, _, rfl, by decide⟩ sa_stop2 nv_stop2).then ((sa_body sg 0 (by omega)).then h1)
  have h3 := h2 []
  rw [List.append_nil, K_nil] at h3
  obtain ⟨L, _, h4⟩ := prog_K h3
  have h5 : progL 1 (if k = true then clW (nmL 0) false (nmL sg.length) else []) = .ok (if k = true then [clR (nmL 0) false (nmL sg.length)] else []) := by
    cases k with
    | false => rfl
    | true =>
      have := prog_cl (n := 0) (a := nmL 0) (c := nmL sg.length) (b := false) (r := []) (l := []) (nm_ne _) rfl
      rw [List.append_nil] at this
      exact this
  have h6 := prog_cl (a := nmL 0) (c := [98, 97, 115, 101]) (b := false) (by decide) (prog_body h5 sg 0)
  have h7 := h4 30
  simp only [List.append_nil] at h7
  exact h7.trans (prog_much (by omega) h6)
end Go.Proofs.Ytdmhajeaphnebaa.Ps

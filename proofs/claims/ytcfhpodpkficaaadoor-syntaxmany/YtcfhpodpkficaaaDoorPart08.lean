/- What is read of words does not hang on their places. The law's text, from the left and from the right; its words; what is read of them. The law of many rules: its walk. -/
import Derived.Test.YtcfhpodpkficaaaDoorPart07
import Derived.Test.YtcfhpodpkficaaaDoorPart06
namespace Go.Proofs.YtcfhpodpkficaaaDoor.Sy
open Lx (Wd tx scanL scanAt)
open Vl (Tm)

def mapZ {α : Type} : Re α → Re α
  | .error e => .error e
  | .ok (x, r) => .ok (x, r.map z)
theorem next_z (ws : List Wd) : nextW (ws.map z) = z (nextW ws) := by cases ws <;> rfl
theorem take_z (s : List UInt8) (ws : List Wd) : takeB s (ws.map z) = takeB s ws := by unfold takeB; rw [next_z]; rfl
theorem tail_z (ws : List Wd) : (ws.map z).tail = ws.tail.map z := by cases ws <;> rfl
theorem one_z (f : Wd → Option Tm) (hf : ∀ x, f (z x) = f x) (ws : List Wd) : oneL f (ws.map z) = mapZ (oneL f ws) := by
  unfold oneL
  rw [next_z, hf, tail_z]
  cases f (nextW ws) <;> rfl
theorem const_z (x : Wd) : constW (z x) = constW x := rfl
theorem term_z (x : Wd) : termW (z x) = termW x := rfl
theorem list_z {α : Type} (item : List Wd → Re α) (hi : ∀ ws, item (ws.map z) = mapZ (item ws)) (n : Nat) : ∀ ws, listL item n (ws.map z) = mapZ (listL item n ws) := by
  induction n with
  | zero =>
    intro ws
    have h := hi ws
    cases hw : item ws with
    | error e => rw [hw] at h; rw [listL_err hw, listL_err h]; rfl
    | ok p => obtain ⟨x, t⟩ := p; rw [hw] at h; rw [listL_zero hw, listL_zero h]; rfl
  | succ n ih =>
    intro ws
    have h := hi ws
    cases hw : item ws with
    | error e => rw [hw] at h; rw [listL_err hw, listL_err h]; rfl
    | ok p =>
      obtain ⟨x, t⟩ := p
      rw [hw] at h
      cases ht : takeB [44] t with
      | false =>
        rw [listL_last hw ht, listL_last h (by rw [take_z]; exact ht)]
        rfl
      | true =>
        have e : takeR [44] (t.map z) = (takeR [44] t).map z := by rw [takeR, takeR, if_pos ht, if_pos (by rw [take_z]; exact ht), tail_z]
        rw [listL_more hw ht, listL_more h (by rw [take_z]; exact ht), e, ih]
        cases listL item n (takeR [44] t) <;> rfl
theorem atom_z (f : Wd → Option Tm) (hf : ∀ x, f (z x) = f x) (ws : List Wd) : atomL f (ws.map z) = mapZ (atomL f ws) := by
  unfold atomL
  rw [next_z, tail_z, take_z, tail_z, list_z (oneL f) (one_z f hf)]
  show (if (nextW ws).1 = 1 then _ else _) = _
  by_cases h1 : (nextW ws).1 = 1
  · rw [if_pos h1, if_pos h1]
    cases ht : takeB [40] ws.tail with
    | false => rfl
    | true =>
      simp only [if_true]
      cases listL (oneL f) 4 ws.tail.tail with
      | error e => rfl
      | ok p =>
        obtain ⟨l, r⟩ := p
        simp only [mapZ]
        rw [take_z]
        cases takeB [41] r with
        | false => rfl
        | true =>
          simp only [if_true]
          rw [tail_z]
          rfl
  · rw [if_neg h1, if_neg h1]
    rfl
theorem cmp_z (ws : List Wd) : cmpL (ws.map z) = mapZ (cmpL ws) := by
  unfold cmpL termL
  rw [one_z termW term_z]
  cases oneL termW ws with
  | error e => rfl
  | ok p =>
    obtain ⟨a, t⟩ := p
    simp only [mapZ]
    rw [next_z, tail_z, one_z termW term_z]
    show (if kindOf (nextW t).2.1 = 0 then _ else _) = _
    by_cases hk : kindOf (nextW t).2.1 = 0
    · rw [if_pos hk, if_pos hk]
    · rw [if_neg hk, if_neg hk]
      cases oneL termW t.tail with
      | error e => rfl
      | ok q => rfl
theorem lit_z (ws : List Wd) : litL (ws.map z) = mapZ (litL ws) := by
  unfold litL
  rw [take_z, next_z, tail_z, next_z, atom_z termW term_z, atom_z termW term_z, cmp_z]
  cases takeB [33] ws with
  | true =>
    simp only [if_true]
    cases atomL termW ws.tail <;> rfl
  | false =>
    simp only [Bool.false_eq_true, if_false]
    show (if (nextW ws).1 = 1 ∧ kindOf (nextW ws.tail).2.1 = 0 then _ else _) = _
    by_cases hk : (nextW ws).1 = 1 ∧ kindOf (nextW ws.tail).2.1 = 0
    · rw [if_pos hk, if_pos hk]
    · rw [if_neg hk, if_neg hk]
theorem end_z (h : Lit) (b : List Lit) (t : List Wd) : endR h b (t.map z) = mapZ (endR h b t) := by
  unfold endR
  rw [take_z]
  cases ht : takeB [46] t with
  | false => rfl
  | true =>
    simp only [if_true]
    rw [takeR, takeR, if_pos ht, if_pos (by rw [take_z]; exact ht), tail_z]
    rfl
theorem clause_z (ws : List Wd) : clauseL (ws.map z) = mapZ (clauseL ws) := by
  rw [clauseL_eq, clauseL_eq, atom_z termW term_z]
  cases atomL termW ws with
  | error e => rfl
  | ok p =>
    obtain ⟨h, t⟩ := p
    simp only [mapZ]
    rw [take_z]
    have e : takeR [58, 45] (t.map z) = (takeR [58, 45] t).map z := by
      rw [takeR, takeR, take_z]
      cases takeB [58, 45] t with
      | false => rfl
      | true => simp only [if_true]; exact tail_z t
    rw [e, list_z litL lit_z, end_z]
    cases takeB [58, 45] t with
    | false => rfl
    | true =>
      simp only [if_true]
      cases listL litL 6 (takeR [58, 45] t) with
      | error e => rfl
      | ok q =>
        obtain ⟨b, r⟩ := q
        exact end_z h b r
theorem prog_z (n : Nat) : ∀ ws, progL n (ws.map z) = progL n ws := by
  induction n with
  | zero =>
    intro ws
    by_cases hw : ws = []
    · rw [hw]; rfl
    · have hw' : ws.map z ≠ [] := by simpa using hw
      have h := clause_z ws
      cases hc : clauseL ws with
      | error e => rw [hc] at h; rw [progL_err hw hc, progL_err hw' h]
      | ok p => obtain ⟨x, t⟩ := p; rw [hc] at h; rw [progL_zero hw hc, progL_zero hw' h]
  | succ n ih =>
    intro ws
    by_cases hw : ws = []
    · rw [hw]; rfl
    · have hw' : ws.map z ≠ [] := by simpa using hw
      have h := clause_z ws
      cases hc : clauseL ws with
      | error e => rw [hc] at h; rw [progL_err hw hc, progL_err hw' h]
      | ok p =>
        obtain ⟨x, t⟩ := p
        rw [hc] at h
        rw [progL_more hw hc, progL_more hw' h, ih]
/-- A text's words, as far as they are read. -/
theorem prog_K {S : List UInt8} {ws : List Wd} (h : K S = some ws) : ∃ L, scanAt S 0 = some L ∧ ∀ n, progL n (wordsL S) = progL n ws := by
  unfold K at h
  cases hs : scanL S 0 with
  | none => rw [hs] at h; cases h
  | some L =>
    rw [hs] at h
    have h' : L.map z = ws := Option.some.inj h
    have hL : scanAt S 0 = some L := hs
    refine ⟨L, hL, fun n => ?_⟩
    rw [wordsL, hL]
    simp only []
    rw [← h', prog_z]

end Go.Proofs.YtcfhpodpkficaaaDoor.Sy
namespace Go.Proofs.YtcfhpodpkficaaaDoor.Sy
open Lx (Wd tx scanL scanAt kindN kindL sizeL nameN varN smallN digitN runP blankN signL)
open Vl (Tm)

/-- The text as the law makes it: terms, a body, rules. -/
def aT : Nat → List UInt8
  | 0 => []
  | k + 1 => aT k ++ (if k = 0 then [] else [44]) ++ [97]
def bT (m : Nat) : Nat → List UInt8
  | 0 => []
  | k + 1 => bT m k ++ (if k = 0 then [32, 58, 45, 32] else [44, 32]) ++ [113, 40] ++ aT m ++ [41]
def rT (b m : Nat) : List UInt8 := [112] ++ bT m b ++ [46, 10]
def pT (b m : Nat) : Nat → List UInt8
  | 0 => []
  | k + 1 => pT b m k ++ rT b m

/-- The same from the right. -/
def cA : Nat → List UInt8 → List UInt8
  | 0, r => r
  | m + 1, r => 44 :: 97 :: cA m r
def lA (m : Nat) (r : List UInt8) : List UInt8 := 113 :: 40 :: 97 :: cA m (41 :: r)
def mA (m : Nat) : Nat → List UInt8 → List UInt8
  | 0, r => r
  | j + 1, r => 44 :: 32 :: lA m (mA m j r)
theorem cA_snoc (m : Nat) (r : List UInt8) : cA m (44 :: 97 :: r) = cA (m + 1) r := by
  induction m with
  | zero => rfl
  | succ m ih => rw [cA, ih]; rfl
theorem aT_cA (m : Nat) (r : List UInt8) : aT (m + 1) ++ r = 97 :: cA m r := by
  induction m generalizing r with
  | zero => rfl
  | succ m ih =>
    rw [aT, if_neg (by omega), List.append_assoc, List.append_assoc, ih]
    show 97 :: cA m (44 :: 97 :: r) = _
    rw [cA_snoc]
theorem lT_lA (m : Nat) (r : List UInt8) : [113, 40] ++ (aT (m + 1) ++ ([41] ++ r)) = lA m r := by
  rw [aT_cA]; rfl
theorem mA_snoc (m j : Nat) (r : List UInt8) : mA m j (44 :: 32 :: lA m r) = mA m (j + 1) r := by
  induction j with
  | zero => rfl
  | succ j ih => rw [mA, ih]; rfl
theorem bT_mA (m j : Nat) (r : List UInt8) : bT (m + 1) (j + 1) ++ r = 32 :: 58 :: 45 :: 32 :: lA m (mA m j r) := by
  induction j generalizing r with
  | zero =>
    rw [bT, if_pos rfl]
    simp only [bT, List.nil_append, List.append_assoc]
    rw [lT_lA]
    rfl
  | succ j ih =>
    rw [bT, if_neg (by omega)]
    simp only [List.append_assoc]
    rw [lT_lA, ih]
    show 32 :: 58 :: 45 :: 32 :: lA m (mA m j (44 :: 32 :: lA m r)) = _
    rw [mA_snoc]
def rA (b m : Nat) (r : List UInt8) : List UInt8 := 112 :: (bT m b ++ 46 :: 10 :: r)
def pA (b m : Nat) : Nat → List UInt8 → List UInt8
  | 0, r => r
  | k + 1, r => rA b m (pA b m k r)
theorem pA_snoc (b m k : Nat) (r : List UInt8) : pA b m k (rA b m r) = pA b m (k + 1) r := by
  induction k with
  | zero => rfl
  | succ k ih => rw [pA, ih]; rfl
theorem pT_pA (b m k : Nat) (r : List UInt8) : pT b m k ++ r = pA b m k r := by
  induction k generalizing r with
  | zero => rfl
  | succ k ih =>
    have e : rT b m ++ r = rA b m r := by simp [rT, rA]
    rw [pT, List.append_assoc, e, ih, pA_snoc]

/-- The words. -/
def cW : Nat → List Wd → List Wd
  | 0, r => r
  | m + 1, r => (4, [44], 0) :: (1, [97], 0) :: cW m r
def lW (m : Nat) (r : List Wd) : List Wd := (1, [113], 0) :: (4, [40], 0) :: (1, [97], 0) :: cW m ((4, [41], 0) :: r)
def mW (m : Nat) : Nat → List Wd → List Wd
  | 0, r => r
  | j + 1, r => (4, [44], 0) :: lW m (mW m j r)
def bW (m : Nat) : Nat → List Wd → List Wd
  | 0, r => r
  | j + 1, r => (4, [58, 45], 0) :: lW m (mW m j r)
def rW (b m : Nat) (r : List Wd) : List Wd := (1, [112], 0) :: bW m b ((4, [46], 0) :: r)
def pW (b m : Nat) : Nat → List Wd → List Wd
  | 0, r => r
  | k + 1, r => rW b m (pW b m k r)

theorem map_map' {α : Type} (o : Option α) (f g : α → α) : (o.map f).map g = o.map (fun x => g (f x)) := by cases o <;> rfl
theorem cA_head (m : Nat) (r : List UInt8) : nameN ((cA m (41 :: r)).getD 0 0).toNat = false := by cases m <;> rfl
theorem K_cA (m : Nat) (r : List UInt8) : K (cA m (41 :: r)) = (K r).map (fun x => cW m ((4, [41], 0) :: x)) := by
  induction m with
  | zero => exact K_41 r
  | succ m ih =>
    rw [cA, K_44, K_name 97 _ (by decide) (Or.inr (cA_head m r)), ih, map_map', map_map']
    rfl
theorem K_lA (m : Nat) (r : List UInt8) : K (lA m r) = (K r).map (fun x => lW m x) := by
  rw [lA, K_name 113 _ (by decide) (Or.inr rfl), K_40, K_name 97 _ (by decide) (Or.inr (cA_head m r)), K_cA, map_map', map_map', map_map']
  rfl
theorem K_mA (m j : Nat) (r : List UInt8) : K (mA m j r) = (K r).map (fun x => mW m j x) := by
  induction j with
  | zero =>
    show K r = _
    cases K r <;> rfl
  | succ j ih =>
    rw [mA, K_44, K_blank 32 _ (by decide), K_lA, ih, map_map', map_map']
    rfl
theorem K_rA (b m : Nat) (r : List UInt8) : K (rA b (m + 1) r) = (K r).map (fun x => rW b m x) := by
  have e46 : ∀ r, K (46 :: 10 :: r) = (K r).map (fun x => (4, [46], 0) :: x) := fun r => by rw [K_46, K_blank 10 _ (by decide)]
  cases b with
  | zero =>
    show K (112 :: 46 :: 10 :: r) = _
    rw [K_name 112 _ (by decide) (Or.inr rfl), e46, map_map']
    rfl
  | succ j =>
    rw [rA, bT_mA, K_name 112 _ (by decide) (Or.inr rfl), K_blank 32 _ (by decide), K_if, K_blank 32 _ (by decide), K_lA, K_mA, e46, map_map', map_map', map_map', map_map']
    rfl
theorem K_pA (b m k : Nat) (r : List UInt8) : K (pA b (m + 1) k r) = (K r).map (fun x => pW b m k x) := by
  induction k with
  | zero =>
    show K r = _
    cases K r <;> rfl
  | succ k ih =>
    rw [pA, K_rA, ih, map_map']
    rfl
theorem K_pT (b m k : Nat) : K (pT b (m + 1) k) = some (pW b m k []) := by
  have := pT_pA b (m + 1) k []
  rw [List.append_nil] at this
  rw [this, K_pA, K_nil]
  rfl

def aTm : Tm := (2, tx [97], 0)
theorem terms_cW (n : Nat) : ∀ (m : Nat) (r : List Wd), takeB [44] r = false → listL (oneL termW) n ((1, [97], 0) :: cW m r) = if m < n then Except.ok (List.replicate (m + 1) aTm, r) else Except.error true := by
  have h1 : ∀ r : List Wd, oneL termW ((1, [97], 0) :: r) = .ok (aTm, r) := fun r => rfl
  induction n with
  | zero =>
    intro m r _
    rw [if_neg (by omega), listL_zero (h1 _)]
  | succ n ih =>
    intro m r hr
    cases m with
    | zero => rw [if_pos (by omega), listL_last (h1 (cW 0 r)) hr]; rfl
    | succ m =>
      have e : takeR [44] (cW (m + 1) r) = (1, [97], 0) :: cW m r := rfl
      rw [listL_more (h1 (cW (m + 1) r)) rfl, e, ih m r hr]
      by_cases h : m < n
      · rw [if_pos h, if_pos (by omega)]
        rfl
      · rw [if_neg h, if_neg (by omega)]
        rfl
def qLit (m : Nat) : Lit := (1, tx [113], List.replicate (m + 1) aTm)
def closeR (r : Re (List Tm)) : Re Lit := match r with
  | .error e => .error e
  | .ok (l, r) => if takeB [41] r = true then .ok ((1, tx [113], l), r.tail) else .error false
theorem atom_lW0 (m : Nat) (r : List Wd) : atomL termW (lW m r) = closeR (listL (oneL termW) 4 ((1, [97], 0) :: cW m ((4, [41], 0) :: r))) := rfl
theorem atom_lW (m : Nat) (r : List Wd) : atomL termW (lW m r) = if m < 4 then Except.ok (qLit m, r) else Except.error true := by
  rw [atom_lW0, terms_cW 4 m _ rfl]
  by_cases h : m < 4
  · rw [if_pos h, if_pos h]
    rfl
  · rw [if_neg h, if_neg h]
    rfl
theorem lit_lW (m : Nat) (r : List Wd) : litL (lW m r) = if m < 4 then Except.ok (qLit m, r) else Except.error true := by
  rw [← atom_lW]
  rfl
theorem lits_mW (m : Nat) (n : Nat) : ∀ (j : Nat) (r : List Wd), takeB [44] r = false → m < 4 → listL litL n (lW m (mW m j r)) = if j < n then Except.ok (List.replicate (j + 1) (qLit m), r) else Except.error true := by
  induction n with
  | zero =>
    intro j r _ hm
    have h1 : ∀ r, litL (lW m r) = .ok (qLit m, r) := fun r => by rw [lit_lW, if_pos hm]
    rw [if_neg (by omega), listL_zero (h1 _)]
  | succ n ih =>
    intro j r hr hm
    have h1 : ∀ r, litL (lW m r) = .ok (qLit m, r) := fun r => by rw [lit_lW, if_pos hm]
    cases j with
    | zero => rw [if_pos (by omega), listL_last (h1 (mW m 0 r)) hr]; rfl
    | succ j =>
      have e : takeR [44] (mW m (j + 1) r) = lW m (mW m j r) := rfl
      rw [listL_more (h1 (mW m (j + 1) r)) rfl, e, ih j r hr hm]
      by_cases h : j < n
      · rw [if_pos h, if_pos (by omega)]
        rfl
      · rw [if_neg h, if_neg (by omega)]
        rfl
def pRul (b m : Nat) : Rul := ((1, tx [112], []), List.replicate b (qLit m))
/-- A rule of the law is read, if it is within the limits. -/
theorem clause_rW (b m : Nat) (r : List Wd) : clauseL (rW b m r) = if 6 < b ∨ (0 < b ∧ 4 ≤ m) then Except.error true else Except.ok (pRul b m, r) := by
  cases b with
  | zero =>
    rw [if_neg (by omega)]
    rfl
  | succ j =>
    have e : clauseL (rW (j + 1) m r) = bodyR (1, tx [112], []) (listL litL 6 (lW m (mW m j ((4, [46], 0) :: r)))) := by
      rw [clauseL_eq]
      rfl
    rw [e]
    by_cases hm : m < 4
    · rw [lits_mW m 6 j _ rfl hm]
      by_cases hj : j < 6
      · rw [if_pos hj, if_neg (by omega)]
        rfl
      · rw [if_neg hj, if_pos (by omega)]
        rfl
    · have : listL litL 6 (lW m (mW m j ((4, [46], 0) :: r))) = .error true := listL_err (by rw [lit_lW, if_neg hm])
      rw [this, if_pos (by omega)]
      rfl
theorem pW_ne (b m k : Nat) : pW b m (k + 1) [] ≠ [] := by
  intro h
  cases h
theorem prog_bad (b m n : Nat) (hb : 6 < b ∨ (0 < b ∧ 4 ≤ m)) (k : Nat) : progL n (pW b m (k + 1) []) = .error true :=
  progL_err (pW_ne b m k) (by rw [pW, clause_rW, if_pos hb])
theorem prog_good (b m : Nat) (hb : ¬ (6 < b ∨ (0 < b ∧ 4 ≤ m))) (n : Nat) : ∀ k, progL n (pW b m k []) = if k ≤ n then Except.ok (List.replicate k (pRul b m)) else Except.error true := by
  have hc : ∀ k, clauseL (pW b m (k + 1) []) = .ok (pRul b m, pW b m k []) := fun k => by rw [pW, clause_rW, if_neg hb]
  induction n with
  | zero =>
    intro k
    cases k with
    | zero => rfl
    | succ k => rw [if_neg (by omega), progL_zero (pW_ne b m k) (hc k)]
  | succ n ih =>
    intro k
    cases k with
    | zero => rfl
    | succ k =>
      rw [progL_more (pW_ne b m k) (hc k), ih k]
      by_cases h : k ≤ n
      · rw [if_pos h, if_pos (by omega)]
        rfl
      · rw [if_neg h, if_neg (by omega)]
        rfl

theorem aT_len (m : Nat) : (aT (m + 1)).length = 2 * m + 1 := by
  have := congrArg List.length (aT_cA m [])
  rw [List.append_nil] at this
  rw [this]
  have hc : ∀ m, (cA m []).length = 2 * m := fun m => by
    induction m with
    | zero => rfl
    | succ m ih => simp [cA, ih]; omega
  simp [hc]
theorem bT_len (m k : Nat) : (bT (m + 1) k).length ≤ k * (2 * m + 8) := by
  induction k with
  | zero => simp [bT]
  | succ k ih =>
    have e : (k + 1) * (2 * m + 8) = k * (2 * m + 8) + (2 * m + 8) := by rw [Nat.add_mul, Nat.one_mul]
    rw [bT, e]
    simp only [List.length_append, aT_len]
    have : (if k = 0 then [32, 58, 45, 32] else [44, 32] : List UInt8).length ≤ 4 := by split <;> decide
    simp only [List.length_cons, List.length_nil]
    omega
theorem pT_len (b m k : Nat) : (pT b (m + 1) k).length ≤ k * (b * (2 * m + 8) + 3) := by
  induction k with
  | zero => simp [pT]
  | succ k ih =>
    have e : (k + 1) * (b * (2 * m + 8) + 3) = k * (b * (2 * m + 8) + 3) + (b * (2 * m + 8) + 3) := by rw [Nat.add_mul, Nat.one_mul]
    have := bT_len m b
    rw [pT, e]
    simp only [rT, List.length_append, List.length_cons, List.length_nil]
    omega

end Go.Proofs.YtcfhpodpkficaaaDoor.Sy
namespace Go.Proofs.YtcfhpodpkficaaaDoor.Sy
open Go.RowKit
open Lx (Wd tx bs scanAt)
open Vl (Tm Fr)

theorem tx_app (x y : List UInt8) (s : ByteArray) (h : s.data.toList = y) : tx x ++ s = tx (x ++ y) := Vl.bytes_ext (by rw [Vl.bytes_app, h]; rfl)
theorem bT_small {m b k : Nat} (hm : m ≤ 6) (hk : k ≤ b) (hb : b ≤ 9) : (bT (m + 1) k).length ≤ 180 := by
  have := bT_len m k
  have h2 : k * (2 * m + 8) ≤ 9 * 20 := Nat.mul_le_mul (by omega) (by omega)
  omega
theorem pT_small {m b i : Nat} (hm : m ≤ 6) (hb : b ≤ 9) (hi : i ≤ 40) : (pT b (m + 1) i).length ≤ 7320 := by
  have := pT_len b m i
  have h1 : b * (2 * m + 8) ≤ 9 * 20 := Nat.mul_le_mul (by omega) (by omega)
  have h2 : i * (b * (2 * m + 8) + 3) ≤ 40 * 183 := Nat.mul_le_mul (by omega) (by omega)
  omega
theorem pT_fits {m b i : Nat} (hm : m ≤ 3) (hb : b ≤ 6) (hi : i ≤ 30) : (pT b (m + 1) i).length ≤ 4000 := by
  have := pT_len b m i
  have h1 : b * (2 * m + 8) ≤ 6 * 14 := Nat.mul_le_mul (by omega) (by omega)
  have h2 : i * (b * (2 * m + 8) + 3) ≤ 30 * 87 := Nat.mul_le_mul (by omega) (by omega)
  omega
theorem aT_small {t : Nat} (ht : t ≤ 7) : (aT t).length ≤ 14 := by
  cases t with
  | zero => simp [aT]
  | succ t => rw [aT_len]; omega

/-- What Program gives of the law's text: beyond a limit, and within all. -/
theorem many_bad (b m r : Nat) (hr1 : 1 ≤ r) (w : World) (h : Tabs w) (hbad : (6 < b ∨ (0 < b ∧ 4 ≤ m)) ∨ 30 < r) :
    Calls Tryd.prog 6 #[.string (tx (pT b (m + 1) r))] w fun e w' => e = .returned (.tuple #[.slice none 0 0, .int .i64 8]) ∧ Below w.heap.size w w' := by
  by_cases hs : 4000 < (tx (pT b (m + 1) r)).size
  · refine (program_long _ w hs).mono ?_
    rintro e w' ⟨rfl, hb⟩
    exact ⟨rfl, hb⟩
  · obtain ⟨L, hL, hp⟩ := prog_K (K_pT b m r)
    have hL' : scanAt (bs (tx (pT b (m + 1) r))) 0 = some L := hL
    have h1 := program_of (tx (pT b (m + 1) r)) w (by omega) h.syn (words_good _ w h.lex (by omega) hL')
    have e : progL 30 (wordsL (bs (tx (pT b (m + 1) r)))) = progL 30 (pW b m r []) := hp 30
    have e2 : progL 30 (pW b m r []) = .error true := by
      obtain ⟨k, rfl⟩ : ∃ k, r = k + 1 := ⟨r - 1, by omega⟩
      by_cases hb : 6 < b ∨ (0 < b ∧ 4 ≤ m)
      · exact prog_bad b m 30 hb k
      · rw [prog_good b m hb 30, if_neg (by omega)]
    rw [e, e2] at h1
    refine h1.mono ?_
    rintro e w' ⟨rfl, hb⟩
    exact ⟨rfl, hb⟩
theorem many_good (b m r : Nat) (w : World) (h : Tabs w) (hgood : ¬ ((6 < b ∨ (0 < b ∧ 4 ≤ m)) ∨ 30 < r)) :
    Calls Tryd.prog 6 #[.string (tx (pT b (m + 1) r))] w fun e w' => ∃ ao cap, e = .returned (.tuple #[.slice ao r cap, .int .i64 0]) ∧ Below w.heap.size w w' := by
  have hs : (tx (pT b (m + 1) r)).size ≤ 4000 := by
    rw [Lx.tx_size]
    by_cases h0 : b = 0
    · subst h0
      have := pT_len 0 m r
      have h2 : r * (0 * (2 * m + 8) + 3) ≤ 30 * 3 := Nat.mul_le_mul (by omega) (by omega)
      omega
    · exact pT_fits (by omega) (by omega) (by omega)
  obtain ⟨L, hL, hp⟩ := prog_K (K_pT b m r)
  have hL' : scanAt (bs (tx (pT b (m + 1) r))) 0 = some L := hL
  have h1 := program_of (tx (pT b (m + 1) r)) w hs h.syn (words_good _ w h.lex hs hL')
  have e : progL 30 (wordsL (bs (tx (pT b (m + 1) r)))) = progL 30 (pW b m r []) := hp 30
  rw [e, prog_good b m (fun h => hgood (Or.inl h)) 30, if_pos (by omega)] at h1
  refine h1.mono ?_
  rintro e w' ⟨⟨y, rfl, zs, hz, ho, _⟩, hb⟩
  have hl : zs.length = r := by
    have := congrArg List.length hz
    simpa using this
  obtain ⟨_, ao, cap, rfl⟩ := own_len ho
  rw [hl]
  exact ⟨ao, cap, rfl, hb⟩

set_option maxRecDepth 10000 in
set_option maxHeartbeats 8000000 in
theorem many_any (x y t : Int) (w : World) (h : Tabs w) :
    Calls Tryd.prog 3 #[.int .i64 x, .int .i64 y, .int .i64 t] w fun e w' => e = .returned (.bool true) ∧ Below w.heap.size w w' := by
  have HBg := hide (begun_any w h)
  have H := hide h
  clear h
  by_cases hin : 1 ≤ x ∧ x ≤ 40 ∧ 0 ≤ y ∧ y ≤ 9 ∧ 1 ≤ t ∧ t ≤ 7
  · obtain ⟨h1, h2, h3, h4, h5, h6⟩ := hin
    obtain ⟨r, rfl⟩ : ∃ r : Nat, x = r := ⟨x.toNat, by omega⟩
    obtain ⟨b, rfl⟩ : ∃ b : Nat, y = b := ⟨y.toNat, by omega⟩
    obtain ⟨M, rfl⟩ : ∃ M : Nat, t = M := ⟨t.toNat, by omega⟩
    obtain ⟨m, hM⟩ : ∃ m : Nat, Hid (M = m + 1) := ⟨M - 1, by show M = _; omega⟩
    have HPs : Hid (∀ i, i ≤ r → (pT b M i).length ≤ 7320) := fun i hi => by have := hM.out; subst this; exact pT_small (by omega) (by omega) (by omega)
    have HBs : Hid (∀ k, k ≤ b → (bT M k).length ≤ 180) := fun k hk => by have := hM.out; subst this; exact bT_small (by omega) hk (by omega)
    go_enter Tryd.func3, Tryd.ntmps3
    go_wp2_with fail
    refine Calls.mono HBg.out ?_
    rintro e w1 ⟨rfl, hb1⟩
    have HB1 := hide hb1
    clear HBg hb1
    go_wp2_with fail
    go_loopw [8, 9] (fun s i wr => ∃ (k : Nat) (u : ByteArray), s = .string u ∧ i = .int .i64 k ∧ k ≤ r ∧ Hid (u = tx (pT b M k)) ∧ wr = w1) (fun _ i _ => r - (intOf i).toNat)
    case atStart => exact ⟨0, _, rfl, rfl, Nat.zero_le _, rfl, rfl⟩
    case round =>
      obtain ⟨k, u, rfl, rfl, hk, HU, hw⟩ := hrel
      have hw' := hw.symm
      subst hw'
      clear hw
      have hus : u.size ≤ 7320 := by rw [HU.out]; exact HPs.out k hk
      by_cases hlt : k < r
      · have hltI : (k : Int) < (r : Int) := by omega
        go_wp2_with fail
        go_loopw [8, 10] (fun s i wr' => ∃ (j : Nat) (u2 : ByteArray), s = .string u2 ∧ i = .int .i64 j ∧ j ≤ b ∧ Hid (u2 = tx (pT b M k ++ [112] ++ bT M j)) ∧ wr' = w1) (fun _ i _ => b - (intOf i).toNat)
        case atStart => exact ⟨0, _, rfl, rfl, Nat.zero_le _, by rw [HU.out]; exact (tx_app _ [112] _ rfl).trans (by simp [bT]), rfl⟩
        case round =>
          obtain ⟨j, u2, rfl, rfl, hj, HU2, hw⟩ := hrel
          have hw' := hw.symm
          subst hw'
          clear hw
          have hus2 : u2.size ≤ 7600 := by
            rw [HU2.out, Lx.tx_size]
            have := HPs.out k hk
            have := HBs.out j hj
            simp only [List.length_append, List.length_cons, List.length_nil]
            omega
          clear HU hus
          by_cases hltj : j < b
          · have hltjI : (j : Int) < (b : Int) := by omega
            obtain ⟨sp, hsp⟩ : ∃ sp : List UInt8, Hid (sp = if j = 0 then [32, 58, 45, 32] else [44, 32]) := ⟨_, rfl⟩
            have hspl : sp.length ≤ 4 := by rw [hsp.out]; split <;> decide
            have HJ : Hid (∀ s : ByteArray, s.data.toList = sp → ((u2 ++ s) ++ ⟨#[113, 40]⟩) = tx (pT b M k ++ [112] ++ bT M j ++ sp ++ [113, 40] ++ aT 0)) := fun s hs => by
              rw [HU2.out, tx_app _ sp s hs, tx_app _ [113, 40] _ rfl]
              simp [aT]
            rcases Nat.eq_zero_or_pos j with hj0 | hj0
            · have g0 : ((j : Int) == 0) = true := by simp; omega
              have HJ' := hide (HJ.out ⟨#[32, 58, 45, 32]⟩ (by rw [hsp.out, if_pos hj0]))
              clear HJ hj0
              go_wp2_with fail
              go_loopw [8, 11] (fun s i wr' => ∃ (q : Nat) (u3 : ByteArray), s = .string u3 ∧ i = .int .i64 q ∧ q ≤ M ∧ Hid (u3 = tx (pT b M k ++ [112] ++ bT M j ++ sp ++ [113, 40] ++ aT q)) ∧ wr' = w1) (fun _ i _ => M - (intOf i).toNat)
              case atStart => exact ⟨0, _, rfl, rfl, Nat.zero_le _, HJ', rfl⟩
              case round =>
                obtain ⟨q, u3, rfl, rfl, hq, HU3, hw⟩ := hrel
                have hw' := hw.symm
                subst hw'
                clear hw
                have hus3 : u3.size ≤ 7700 := by
                  rw [HU3.out, Lx.tx_size]
                  have := HPs.out k hk
                  have := HBs.out j hj
                  have := aT_small (t := q) (by omega)
                  simp only [List.length_append, List.length_cons, List.length_nil]
                  omega
                clear HJ'
                by_cases hltq : q < M
                · have hltqI : (q : Int) < (M : Int) := by omega
                  rcases Nat.eq_zero_or_pos q with hq0 | hq0
                  · have gq : ¬ (0 : Int) < (q : Int) := by omega
                    have HN : Hid (u3 ++ ⟨#[97]⟩ = tx (pT b M k ++ [112] ++ bT M j ++ sp ++ [113, 40] ++ aT (q + 1))) := by
                      show _ = _
                      rw [HU3.out, tx_app _ [97] _ rfl, aT, if_pos hq0]
                      simp
                    clear HU3 hq0
                    go_wp2_with fail
                    go_roundw
                    case rel => exact ⟨q + 1, _, rfl, by go_num, by omega, HN, trivial⟩
                    case measure => simp [intOf]; omega
                  · have gq : (0 : Int) < (q : Int) := by omega
                    have HN : Hid (u3 ++ ⟨#[44]⟩ ++ ⟨#[97]⟩ = tx (pT b M k ++ [112] ++ bT M j ++ sp ++ [113, 40] ++ aT (q + 1))) := by
                      show _ = _
                      rw [HU3.out, tx_app _ [44] _ rfl, tx_app _ [97] _ rfl, aT, if_neg (by omega)]
                      simp
                    clear HU3 hq0
                    go_wp2_with fail
                    go_roundw
                    case rel => exact ⟨q + 1, _, rfl, by go_num, by omega, HN, trivial⟩
                    case measure => simp [intOf]; omega
                · have hqe : q = M := by omega
                  have HN : Hid (u3 ++ ⟨#[41]⟩ = tx (pT b M k ++ [112] ++ bT M (j + 1))) := by
                    show _ = _
                    rw [HU3.out, tx_app _ [41] _ rfl, bT, hqe, ← hsp.out]
                    simp
                  have hqI : ¬ (q : Int) < (M : Int) := by omega
                  clear HU3
                  go_wp2_with fail
                  exact ⟨⟨j + 1, _, rfl, by go_num, by omega, HN, trivial⟩, by simp [intOf]; omega⟩
            · have g0 : ((j : Int) == 0) = false := by simp; omega
              have HJ' := hide (HJ.out ⟨#[44, 32]⟩ (by rw [hsp.out, if_neg (by omega)]))
              clear HJ hj0
              go_wp2_with fail
              go_loopw [8, 11] (fun s i wr' => ∃ (q : Nat) (u3 : ByteArray), s = .string u3 ∧ i = .int .i64 q ∧ q ≤ M ∧ Hid (u3 = tx (pT b M k ++ [112] ++ bT M j ++ sp ++ [113, 40] ++ aT q)) ∧ wr' = w1) (fun _ i _ => M - (intOf i).toNat)
              case atStart => exact ⟨0, _, rfl, rfl, Nat.zero_le _, HJ', rfl⟩
              case round =>
                obtain ⟨q, u3, rfl, rfl, hq, HU3, hw⟩ := hrel
                have hw' := hw.symm
                subst hw'
                clear hw
                have hus3 : u3.size ≤ 7700 := by
                  rw [HU3.out, Lx.tx_size]
                  have := HPs.out k hk
                  have := HBs.out j hj
                  have := aT_small (t := q) (by omega)
                  simp only [List.length_append, List.length_cons, List.length_nil]
                  omega
                clear HJ'
                by_cases hltq : q < M
                · have hltqI : (q : Int) < (M : Int) := by omega
                  rcases Nat.eq_zero_or_pos q with hq0 | hq0
                  · have gq : ¬ (0 : Int) < (q : Int) := by omega
                    have HN : Hid (u3 ++ ⟨#[97]⟩ = tx (pT b M k ++ [112] ++ bT M j ++ sp ++ [113, 40] ++ aT (q + 1))) := by
                      show _ = _
                      rw [HU3.out, tx_app _ [97] _ rfl, aT, if_pos hq0]
                      simp
                    clear HU3 hq0
                    go_wp2_with fail
                    go_roundw
                    case rel => exact ⟨q + 1, _, rfl, by go_num, by omega, HN, trivial⟩
                    case measure => simp [intOf]; omega
                  · have gq : (0 : Int) < (q : Int) := by omega
                    have HN : Hid (u3 ++ ⟨#[44]⟩ ++ ⟨#[97]⟩ = tx (pT b M k ++ [112] ++ bT M j ++ sp ++ [113, 40] ++ aT (q + 1))) := by
                      show _ = _
                      rw [HU3.out, tx_app _ [44] _ rfl, tx_app _ [97] _ rfl, aT, if_neg (by omega)]
                      simp
                    clear HU3 hq0
                    go_wp2_with fail
                    go_roundw
                    case rel => exact ⟨q + 1, _, rfl, by go_num, by omega, HN, trivial⟩
                    case measure => simp [intOf]; omega
                · have hqe : q = M := by omega
                  have HN : Hid (u3 ++ ⟨#[41]⟩ = tx (pT b M k ++ [112] ++ bT M (j + 1))) := by
                    show _ = _
                    rw [HU3.out, tx_app _ [41] _ rfl, bT, hqe, ← hsp.out]
                    simp
                  have hqI : ¬ (q : Int) < (M : Int) := by omega
                  clear HU3
                  go_wp2_with fail
                  exact ⟨⟨j + 1, _, rfl, by go_num, by omega, HN, trivial⟩, by simp [intOf]; omega⟩
          · have hje : j = b := by omega
            have HN : Hid (u2 ++ ⟨#[46, 10]⟩ = tx (pT b M (k + 1))) := by
              show _ = _
              rw [HU2.out, tx_app _ [46, 10] _ rfl, pT, rT, hje]
              simp
            have hjI : ¬ (j : Int) < (b : Int) := by omega
            clear HU2
            go_wp2_with fail
            exact ⟨⟨k + 1, _, rfl, by go_num, by omega, HN, trivial⟩, by simp [intOf]; omega⟩
      · have hke : k = r := by omega
        have hkI : ¬ (k : Int) < (r : Int) := by omega
        have hu : u = tx (pT b (m + 1) r) := by rw [HU.out, hke, hM.out]
        subst hu
        have hMI := hM.out
        have HT := hide (H.out.below HB1.out)
        by_cases hbad : (6 < b ∨ (0 < b ∧ 4 ≤ m)) ∨ 30 < r
        · have HP := hide (many_bad b m r (by omega) w1 HT.out hbad)
          have hbad' : (30 : Int) < (r : Int) ∨ (6 : Int) < (b : Int) ∨ ((0 : Int) < (b : Int) ∧ (4 : Int) < (M : Int)) := by omega
          clear HU HPs HBs hbad
          go_wp2_with fail
          refine Calls.mono HP.out ?_
          rintro e w2 ⟨rfl, hb2⟩
          have HB2 := hide (HB1.out.trans (hb2.mono HB1.out.size))
          clear HP hb2
          rcases hbad' with h | h | ⟨h, h'⟩
          all_goals go_wp2_with fail
          all_goals (go_ret; exact ⟨rfl, HB2.out⟩)
        · have HP := hide (many_good b m r w1 HT.out hbad)
          have k1 : ¬ (30 : Int) < (r : Int) := by omega
          have k2 : ¬ (6 : Int) < (b : Int) := by omega
          have k3 : ¬ (0 : Int) < (b : Int) ∨ ¬ (4 : Int) < (M : Int) := by omega
          clear HU HPs HBs hbad
          go_wp2_with fail
          refine Calls.mono HP.out ?_
          rintro e w2 ⟨ao, cap, rfl, hb2⟩
          have HB2 := hide (HB1.out.trans (hb2.mono HB1.out.size))
          clear HP hb2
          rcases k3 with h | h
          all_goals go_wp2_with fail
          all_goals (go_ret; exact ⟨rfl, HB2.out⟩)
  · go_enter Tryd.func3, Tryd.ntmps3
    go_wp2_with fail
    refine Calls.mono HBg.out ?_
    rintro e w1 ⟨rfl, hb1⟩
    clear HBg
    go_wp2_with fail
    all_goals first
      | (go_ret; exact ⟨rfl, hb1⟩)
      | (exfalso; omega)
end Go.Proofs.YtcfhpodpkficaaaDoor.Sy

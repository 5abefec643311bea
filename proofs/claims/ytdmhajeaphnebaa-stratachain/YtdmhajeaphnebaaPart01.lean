/- Words of a text, in plain mathematics: how long the first word is, the words of a text, and that words printed with a blank between are the same words. The words of a text that stand ahead of its first fault, in plain mathematics. The walks of the program's small functions: kinds of bytes, run, lineSize, numberSize, signSize. The walks of signSize and numberSize. The walks of first and skip. -/
import Derived.Test.YtdmhajeaphnebaaRows
import Derived.Shelf.Strings.Builder1
import Derived.Shelf.Strings.Builder2
import Derived.Shelf.Strings.OnBuilder
import Derived.Shelf.Small.Strs
import Derived.Shelf.Strconv.Itoa0
import Derived.Shelf.Strconv.Itoa1
import Derived.Shelf.LaysM
import Derived.Shelf.Strconv.Itoa2
import Derived.Shelf.Strconv.Itoa3
import Derived.Shelf.Strconv.Itoa4
import Derived.Shelf.Strconv.ParseIntEmpty
import Derived.Shelf.Strconv.Clone
import Derived.Shelf.Strconv.SyntaxError
import Derived.Shelf.LaysC
import Derived.Shelf.Strconv.ToError
import Derived.Shelf.Strconv.Lower
import Derived.Shelf.Strconv.ParseUint10
import Derived.Shelf.Strconv.ParseUint10Empty
import Derived.Shelf.Strconv.ParseUint10Any
import Derived.Shelf.Strconv.ParseInt10
import Derived.Shelf.Strconv.RangeError
import Derived.Shelf.Strconv.ToErrorRange
import Derived.Shelf.Strconv.ParseUintEmpty
import Derived.Shelf.Strconv.ParseUint10b64
import Derived.Shelf.Strconv.ParseUint10b32
import Derived.Shelf.Strconv.ParseUint10b16
import Derived.Shelf.Strconv.ParseUint10b8
import Derived.Shelf.Strconv.ParseUint10At
import Derived.Shelf.Strconv.ParseInt10At64
import Derived.Shelf.Strconv.ParseInt10At32
import Derived.Shelf.Strconv.ParseInt10At16
import Derived.Shelf.Strconv.ParseInt10At8
import Derived.Shelf.Strconv.ParseInt10All
import Derived.Shelf.Strconv.ParseIntPublic10
import Derived.Shelf.Strings.Search1
import Derived.Shelf.Strings.Prefix
import Derived.WalkKit
import Derived.WalkSpells
import Derived.WalkLawsBesides
import Derived.BigQuiet
import Derived.Shelf.Abstract
import Derived.LoopN
namespace Go.Proofs.Ytdmhajeaphnebaa.Lx

def smallN (n : Nat) : Bool := decide (97 ≤ n) && decide (n ≤ 122)
def greatN (n : Nat) : Bool := decide (65 ≤ n) && decide (n ≤ 90)
def digitN (n : Nat) : Bool := decide (48 ≤ n) && decide (n ≤ 57)
def nameN (n : Nat) : Bool := smallN n || digitN n || decide (n = 95)
def varN (n : Nat) : Bool := nameN n || greatN n
def blankN (n : Nat) : Bool := decide (n = 32) || decide (n = 9) || decide (n = 10) || decide (n = 13)

/-- How many bytes at the beginning are all good. -/
def runP (p : Nat → Bool) : List UInt8 → Nat
  | [] => 0
  | c :: t => if p c.toNat = true then runP p t + 1 else 0

theorem runP_le (p : Nat → Bool) (L : List UInt8) : runP p L ≤ L.length := by
  induction L with
  | nil => simp [runP]
  | cons c t ih => simp only [runP]; split <;> simp; omega

/-- A run ends where a bad byte stands, or at the end. -/
theorem runP_eq (p : Nat → Bool) (L : List UInt8) (k : Nat) (hk : k ≤ L.length) (h : ∀ j, j < k → p ((L.getD j 0).toNat) = true) (he : k = L.length ∨ p ((L.getD k 0).toNat) = false) : runP p L = k := by
  induction L generalizing k with
  | nil => simp at hk; simp [runP, hk]
  | cons c t ih =>
    simp only [runP]
    cases k with
    | zero =>
      rcases he with he | he
      · simp at he
      · simp at he; simp [he]
    | succ k =>
      have h0 := h 0 (by omega)
      simp at h0
      rw [if_pos h0, ih k (by simpa using hk) (fun j hj => by simpa using h (j + 1) (by omega)) (by
        rcases he with he | he
        · left; simpa using he
        · right; simpa using he)]

/-- A run over a front and one bad byte behind it. -/
theorem runP_take (p : Nat → Bool) (L R : List UInt8) (d : UInt8) (hd : p d.toNat = false) : runP p (L.take (runP p L) ++ d :: R) = runP p L := by
  induction L with
  | nil => simp [runP, hd]
  | cons c t ih =>
    by_cases hc : p c.toNat = true
    · have e : runP p (c :: t) = runP p t + 1 := by simp [runP, hc]
      rw [e]
      simp only [List.take_succ_cons, List.cons_append]
      rw [runP, if_pos hc, ih]
    · have e : runP p (c :: t) = 0 := by simp [runP, hc]
      rw [e]
      simp [runP, hd]

def signsL : List (List UInt8) := [[40], [41], [44], [46], [58, 45], [33, 61], [33], [61], [60, 61], [60]]
def signIn : List (List UInt8) → List UInt8 → Nat
  | [], _ => 0
  | x :: r, L => if x.isPrefixOf L = true then x.length else signIn r L
def signL (L : List UInt8) : Nat := signIn signsL L

def numL : List UInt8 → Nat
  | [] => 0
  | c :: t => if c.toNat = 48 then 1 else if c.toNat = 45 then (match t with
      | [] => 0
      | d :: r => if d.toNat = 48 then 0 else if digitN d.toNat = true then runP digitN r + 2 else 0)
    else runP digitN (c :: t)

def kindN (n : Nat) : Nat := if smallN n = true then 1 else if greatN n = true then 2 else if digitN n = true ∨ n = 45 then 3 else 4
def kindL (L : List UInt8) : Nat := kindN (L.getD 0 0).toNat
/-- How long the first word is; 0: there is none. -/
def sizeL (L : List UInt8) : Nat :=
  if kindL L = 1 then runP nameN L else if kindL L = 2 then runP varN L else if kindL L = 3 then numL L else signL L

theorem signIn_le (S : List (List UInt8)) (L : List UInt8) : signIn S L ≤ L.length := by
  induction S with
  | nil => simp [signIn]
  | cons x r ih =>
    simp only [signIn]
    split
    · rename_i h
      exact (List.isPrefixOf_iff_prefix.1 h).length_le
    · exact ih

theorem numL_le (L : List UInt8) : numL L ≤ L.length := by
  unfold numL
  split
  · simp
  · split
    · simp
    · split
      · split
        · simp
        · split
          · simp
          · split
            · rename_i r _ _
              have := runP_le digitN r
              simp; omega
            · simp
      · exact runP_le _ _

theorem sizeL_le (L : List UInt8) : sizeL L ≤ L.length := by
  unfold sizeL
  split
  · exact runP_le _ _
  · split
    · exact runP_le _ _
    · split
      · exact numL_le _
      · exact signIn_le _ _

theorem signL_two (L : List UInt8) : signL L ≤ 2 := by
  simp only [signL, signsL, signIn]
  repeat' split
  all_goals simp

/-- How many bytes stand ahead of the line's end. -/
def lineL (L : List UInt8) : Nat := runP (fun n => !decide (n = 10)) L

abbrev Wd := Nat × List UInt8 × Nat

/-- The words of a text of which the first byte is the a-th; none: it is refused. -/
def scanL (L : List UInt8) (a : Nat) : Option (List Wd) :=
  match L with
  | [] => some []
  | c :: t =>
    if blankN c.toNat = true then scanL t (a + 1)
    else if c.toNat = 37 then scanL (t.drop (lineL t)) (a + 1 + lineL t)
    else if sizeL (c :: t) = 0 ∨ 16 < sizeL (c :: t) then none
    else (scanL (t.drop (sizeL (c :: t) - 1)) (a + sizeL (c :: t))).map (fun r => (kindL (c :: t), (c :: t).take (sizeL (c :: t)), a) :: r)
  termination_by L.length
  decreasing_by all_goals (simp <;> omega)

theorem scanL_nil (a : Nat) : scanL [] a = some [] := by rw [scanL]
theorem scanL_cons (c : UInt8) (t : List UInt8) (a : Nat) : scanL (c :: t) a = if blankN c.toNat = true then scanL t (a + 1)
    else if c.toNat = 37 then scanL (t.drop (lineL t)) (a + 1 + lineL t)
    else if sizeL (c :: t) = 0 ∨ 16 < sizeL (c :: t) then none
    else (scanL (t.drop (sizeL (c :: t) - 1)) (a + sizeL (c :: t))).map (fun r => (kindL (c :: t), (c :: t).take (sizeL (c :: t)), a) :: r) := by
  rw [scanL]

/-- The same, from a place of the text on. -/
def scanAt (S : List UInt8) (a : Nat) : Option (List Wd) := scanL (S.drop a) a

theorem drop_cons (S : List UInt8) (a : Nat) (h : a < S.length) : S.drop a = S.getD a 0 :: S.drop (a + 1) := by
  rw [List.drop_eq_getElem_cons h]
  simp [List.getD, List.getElem?_eq_getElem h]

theorem scanAt_end (S : List UInt8) (a : Nat) (h : S.length ≤ a) : scanAt S a = some [] := by
  rw [scanAt, List.drop_eq_nil_of_le h, scanL_nil]

theorem scanAt_blank (S : List UInt8) (a : Nat) (h : a < S.length) (hb : blankN (S.getD a 0).toNat = true) : scanAt S a = scanAt S (a + 1) := by
  rw [scanAt, drop_cons S a h, scanL_cons, if_pos hb, scanAt]

theorem line_cons (c : UInt8) (t : List UInt8) (h : c.toNat = 37) : lineL (c :: t) = lineL t + 1 := by
  simp [lineL, runP, h]

theorem scanAt_note (S : List UInt8) (a : Nat) (h : a < S.length) (hb : (S.getD a 0).toNat = 37) : scanAt S a = scanAt S (a + lineL (S.drop a)) ∧ 1 ≤ lineL (S.drop a) ∧ a + lineL (S.drop a) ≤ S.length := by
  have e := drop_cons S a h
  have hl : lineL (S.drop a) = lineL (S.drop (a + 1)) + 1 := by rw [e, line_cons _ _ hb]
  have hle : lineL (S.drop a) ≤ (S.drop a).length := runP_le _ _
  rw [List.length_drop] at hle
  refine ⟨?_, by omega, by omega⟩
  rw [scanAt, e, scanL_cons, if_neg (by rw [hb]; decide), if_pos hb, scanAt, line_cons _ _ hb, List.drop_drop]
  have e1 : a + 1 + lineL (S.drop (a + 1)) = a + (lineL (S.drop (a + 1)) + 1) := by omega
  rw [e1]

theorem scanAt_bad (S : List UInt8) (a : Nat) (h : a < S.length) (hb : blankN (S.getD a 0).toNat = false) (hn : (S.getD a 0).toNat ≠ 37) (hs : sizeL (S.drop a) = 0 ∨ 16 < sizeL (S.drop a)) : scanAt S a = none := by
  have e := drop_cons S a h
  rw [scanAt, e, scanL_cons, if_neg (by rw [hb]; decide), if_neg hn, ← e, if_pos hs]

theorem scanAt_word (S : List UInt8) (a : Nat) (h : a < S.length) (hb : blankN (S.getD a 0).toNat = false) (hn : (S.getD a 0).toNat ≠ 37) (h0 : sizeL (S.drop a) ≠ 0) (hs : sizeL (S.drop a) ≤ 16) :
    scanAt S a = (scanAt S (a + sizeL (S.drop a))).map (fun r => (kindL (S.drop a), (S.drop a).take (sizeL (S.drop a)), a) :: r) := by
  have e := drop_cons S a h
  have e2 : (S.drop (a + 1)).drop (sizeL (S.drop a) - 1) = S.drop (a + sizeL (S.drop a)) := by
    rw [List.drop_drop]
    congr 1
    omega
  rw [scanAt, e, scanL_cons, if_neg (by rw [hb]; decide), if_neg hn, ← e, if_neg (by omega), e2, scanAt]

/-- Words as they are printed, a blank behind each. -/
def joinW : List Wd → List UInt8
  | [] => []
  | (_, x, _) :: r => x ++ 32 :: joinW r
/-- The same words, at the places at which they then stand. -/
def reAt : Nat → List Wd → List Wd
  | _, [] => []
  | b, (k, x, _) :: r => (k, x, b) :: reAt (b + x.length + 1) r

theorem isPre1 (x c : UInt8) (t : List UInt8) : List.isPrefixOf [x] (c :: t) = (x == c) := by simp [List.isPrefixOf]
theorem isPre2 (x y c d : UInt8) (t : List UInt8) : List.isPrefixOf [x, y] (c :: d :: t) = (x == c && y == d) := by simp [List.isPrefixOf]
theorem isPre2' (x y c : UInt8) : List.isPrefixOf [x, y] [c] = false := by simp [List.isPrefixOf]

theorem sign_apart (L R : List UInt8) (h : signL L ≠ 0) : signL (L.take (signL L) ++ 32 :: R) = signL L := by
  match L with
  | [] => exact absurd (by rfl) h
  | [c] =>
    simp only [signL, signsL, signIn, isPre1, isPre2', List.length] at h ⊢
    by_cases e1 : c = 40 <;> by_cases e2 : c = 41 <;> by_cases e3 : c = 44 <;> by_cases e4 : c = 46 <;> by_cases e5 : c = 33 <;> by_cases e6 : c = 61 <;> by_cases e7 : c = 60
    all_goals (simp_all [isPre1, isPre2, Ne.symm])
    all_goals (revert h; repeat' split) <;> simp_all
  | c :: d :: t =>
    simp only [signL, signsL, signIn, isPre1, isPre2, List.length] at h ⊢
    by_cases e1 : 40 = c
    · subst e1; rfl
    by_cases e2 : 41 = c
    · subst e2; rfl
    by_cases e3 : 44 = c
    · subst e3; rfl
    by_cases e4 : 46 = c
    · subst e4; rfl
    by_cases e6 : 61 = c
    · subst e6; rfl
    by_cases e5 : 33 = c
    · subst e5
      by_cases f : 61 = d
      · subst f; rfl
      · simp [f, isPre1, isPre2]
    by_cases e7 : 60 = c
    · subst e7
      by_cases f : 61 = d
      · subst f; rfl
      · simp [f, isPre1, isPre2]
    by_cases e8 : 58 = c
    · subst e8
      by_cases f : 45 = d
      · subst f; rfl
      · simp [f] at h
    simp [e1, e2, e3, e4, e5, e6, e7, e8] at h

theorem num_apart (L R : List UInt8) (h : numL L ≠ 0) : numL (L.take (numL L) ++ 32 :: R) = numL L := by
  match L with
  | [] => exact absurd (by rfl) h
  | c :: t =>
    by_cases h1 : c.toNat = 48
    · have e : numL (c :: t) = 1 := by simp [numL, h1]
      rw [e]
      simp [numL, h1]
    · by_cases h2 : c.toNat = 45
      · match t with
        | [] => simp [numL, h2] at h
        | d :: r =>
          by_cases h3 : d.toNat = 48
          · simp [numL, h2, h3] at h
          · by_cases h4 : digitN d.toNat = true
            · have e : numL (c :: d :: r) = runP digitN r + 2 := by simp [numL, h2, h3, h4]
              rw [e]
              simp only [List.take_succ_cons, List.cons_append]
              simp only [numL, if_neg h1, if_pos h2, if_neg h3, if_pos h4]
              rw [runP_take _ _ _ _ (by decide)]
            · simp [numL, h2, h3, h4] at h
      · have e : numL (c :: t) = runP digitN (c :: t) := by simp only [numL, if_neg h1, if_neg h2]
        by_cases h4 : digitN c.toNat = true
        · have e2 : runP digitN (c :: t) = runP digitN t + 1 := by simp [runP, h4]
          rw [e, e2]
          simp only [List.take_succ_cons, List.cons_append]
          simp only [numL, if_neg h1, if_neg h2]
          rw [runP, if_pos h4, runP_take _ _ _ _ (by decide)]
        · rw [e] at h
          simp [runP, h4] at h

theorem kind_apart (L R : List UInt8) (n : Nat) (hn : n ≠ 0) (hle : n ≤ L.length) : kindL (L.take n ++ 32 :: R) = kindL L := by
  match L, n with
  | [], n => simp at hle; omega
  | c :: t, n + 1 => simp [kindL]
  | c :: t, 0 => exact absurd rfl hn

theorem word_apart (L R : List UInt8) (h : sizeL L ≠ 0) : sizeL (L.take (sizeL L) ++ 32 :: R) = sizeL L ∧ kindL (L.take (sizeL L) ++ 32 :: R) = kindL L := by
  have hk := kind_apart L R (sizeL L) h (sizeL_le L)
  refine ⟨?_, hk⟩
  rw [sizeL, hk]
  by_cases h1 : kindL L = 1
  · have e : sizeL L = runP nameN L := by simp [sizeL, h1]
    rw [if_pos h1, e]
    exact runP_take _ _ _ _ (by decide)
  · by_cases h2 : kindL L = 2
    · have e : sizeL L = runP varN L := by simp [sizeL, h2]
      rw [if_neg h1, if_pos h2, e]
      exact runP_take _ _ _ _ (by decide)
    · by_cases h3 : kindL L = 3
      · have e : sizeL L = numL L := by simp [sizeL, h3]
        rw [if_neg h1, if_neg h2, if_pos h3, e]
        exact num_apart _ _ (by rwa [← e])
      · have e : sizeL L = signL L := by simp [sizeL, h1, h2, h3]
        rw [if_neg h1, if_neg h2, if_neg h3, e]
        exact sign_apart _ _ (by rwa [← e])

theorem scan_apart (n : Nat) : ∀ (L : List UInt8) (a : Nat) (m : List Wd), L.length ≤ n → scanL L a = some m → (∀ b, scanL (joinW m) b = some (reAt b m)) ∧ (joinW m).length ≤ 2 * L.length ∧ m.length ≤ L.length := by
  induction n with
  | zero =>
    intro L a m hl h
    obtain rfl : L = [] := by cases L; rfl; simp at hl
    rw [scanL_nil] at h
    obtain rfl := Option.some.inj h
    exact ⟨fun b => by simp [joinW, reAt, scanL_nil], by simp [joinW], by simp⟩
  | succ n ih =>
    intro L a m hl h
    match L with
    | [] =>
      rw [scanL_nil] at h
      obtain rfl := Option.some.inj h
      exact ⟨fun b => by simp [joinW, reAt, scanL_nil], by simp [joinW], by simp⟩
    | c :: t =>
      simp only [List.length_cons] at hl
      rw [scanL_cons] at h
      by_cases hb : blankN c.toNat = true
      · rw [if_pos hb] at h
        obtain ⟨g1, g2, g3⟩ := ih t _ m (by omega) h
        exact ⟨g1, by simp only [List.length_cons]; omega, by simp only [List.length_cons]; omega⟩
      · rw [if_neg hb] at h
        by_cases hn : c.toNat = 37
        · rw [if_pos hn] at h
          obtain ⟨g1, g2, g3⟩ := ih _ _ m (by rw [List.length_drop]; omega) h
          rw [List.length_drop] at g2 g3
          exact ⟨g1, by simp only [List.length_cons]; omega, by simp only [List.length_cons]; omega⟩
        · rw [if_neg hn] at h
          by_cases hs : sizeL (c :: t) = 0 ∨ 16 < sizeL (c :: t)
          · rw [if_pos hs] at h
            cases h
          · rw [if_neg hs] at h
            have hle := sizeL_le (c :: t)
            simp only [List.length_cons] at hle
            cases hr : scanL (t.drop (sizeL (c :: t) - 1)) (a + sizeL (c :: t)) with
            | none => rw [hr] at h; cases h
            | some r =>
              rw [hr] at h
              obtain rfl := Option.some.inj h
              obtain ⟨g1, g2, g3⟩ := ih _ _ r (by rw [List.length_drop]; omega) hr
              rw [List.length_drop] at g2 g3
              have hlt : ((c :: t).take (sizeL (c :: t))).length = sizeL (c :: t) := by rw [List.length_take]; simp only [List.length_cons]; omega
              refine ⟨fun b => ?_, ?_, ?_⟩
              · obtain ⟨w1, w2⟩ := word_apart (c :: t) (joinW r) (by omega)
                simp only [joinW, reAt]
                generalize hN : sizeL (c :: t) = N at *
                obtain ⟨N', rfl⟩ : ∃ N', N = N' + 1 := ⟨N - 1, by omega⟩
                simp only [List.take_succ_cons, List.cons_append] at *
                rw [scanL_cons, if_neg hb, if_neg hn, if_neg (by rw [w1]; exact hs), w1, w2]
                have hlt' : (t.take N').length = N' := by simpa using hlt
                have e1 : (t.take N' ++ 32 :: joinW r).drop (N' + 1 - 1) = 32 :: joinW r := by
                  rw [Nat.add_sub_cancel]; exact List.drop_left' hlt'
                have e2 : (c :: (t.take N' ++ 32 :: joinW r)).take (N' + 1) = c :: t.take N' := by
                  rw [List.take_succ_cons, List.take_left' hlt']
                rw [e1, e2, scanL_cons, if_pos (by decide), g1]
                simp only [Option.map_some, List.length_cons, hlt', Nat.add_assoc]
              · simp only [joinW, List.length_append, hlt, List.length_cons]
                omega
              · simp only [List.length_cons]
                omega

theorem scan_blanks (n a : Nat) : scanL (List.replicate n 32) a = some [] := by
  induction n generalizing a with
  | zero => exact scanL_nil a
  | succ n ih => rw [List.replicate_succ, scanL_cons, if_pos (by decide), ih]

theorem runP_all (p : Nat → Bool) (c : UInt8) (hc : p c.toNat = true) (k : Nat) : runP p (List.replicate k c) = k := by
  induction k with
  | zero => rfl
  | succ k ih => rw [List.replicate_succ, runP, if_pos hc, ih]

/-- A text of one letter, again and again. -/
theorem scan_same (c : UInt8) (hc : c = 97 ∨ c = 65 ∨ c = 55) (k : Nat) (hk : 1 ≤ k) : scanL (List.replicate k c) 0 = if k ≤ 16 then some [(kindN c.toNat, List.replicate k c, 0)] else none := by
  obtain ⟨k, rfl⟩ : ∃ j, k = j + 1 := ⟨k - 1, by omega⟩
  have hs : sizeL (List.replicate (k + 1) c) = k + 1 ∧ kindL (List.replicate (k + 1) c) = kindN c.toNat := by
    have hkk : kindL (List.replicate (k + 1) c) = kindN c.toNat := by simp [kindL, List.replicate_succ]
    refine ⟨?_, hkk⟩
    rcases hc with rfl | rfl | rfl
    · have : kindL (List.replicate (k + 1) 97) = 1 := hkk
      rw [sizeL, if_pos this]; exact runP_all _ _ (by decide) _
    · have : kindL (List.replicate (k + 1) 65) = 2 := hkk
      rw [sizeL, if_neg (by omega), if_pos this]; exact runP_all _ _ (by decide) _
    · have : kindL (List.replicate (k + 1) 55) = 3 := hkk
      rw [sizeL, if_neg (by omega), if_neg (by omega), if_pos this]
      have := runP_all digitN 55 (by decide) (k + 1)
      rw [List.replicate_succ] at this ⊢
      simp only [numL]
      rw [if_neg (by decide), if_neg (by decide)]
      exact this
  rw [List.replicate_succ] at hs ⊢
  rw [scanL_cons, if_neg (by rcases hc with rfl | rfl | rfl <;> decide), if_neg (by rcases hc with rfl | rfl | rfl <;> decide), hs.1, hs.2]
  by_cases h : k + 1 ≤ 16
  · rw [if_neg (by omega), if_pos h, Nat.add_sub_cancel, List.drop_eq_nil_of_le (by simp), scanL_nil]
    simp
  · rw [if_pos (by omega), if_neg h]

end Go.Proofs.Ytdmhajeaphnebaa.Lx
namespace Go.Proofs.Ytdmhajeaphnebaa.Lx

/-- The words ahead of the first fault; all words, if there is none. -/
def frontL (L : List UInt8) (a : Nat) : List Wd :=
  match L with
  | [] => []
  | c :: t =>
    if blankN c.toNat = true then frontL t (a + 1)
    else if c.toNat = 37 then frontL (t.drop (lineL t)) (a + 1 + lineL t)
    else if sizeL (c :: t) = 0 ∨ 16 < sizeL (c :: t) then []
    else (kindL (c :: t), (c :: t).take (sizeL (c :: t)), a) :: frontL (t.drop (sizeL (c :: t) - 1)) (a + sizeL (c :: t))
  termination_by L.length
  decreasing_by all_goals (simp <;> omega)

theorem frontL_nil (a : Nat) : frontL [] a = [] := by rw [frontL]
theorem frontL_cons (c : UInt8) (t : List UInt8) (a : Nat) : frontL (c :: t) a = if blankN c.toNat = true then frontL t (a + 1)
    else if c.toNat = 37 then frontL (t.drop (lineL t)) (a + 1 + lineL t)
    else if sizeL (c :: t) = 0 ∨ 16 < sizeL (c :: t) then []
    else (kindL (c :: t), (c :: t).take (sizeL (c :: t)), a) :: frontL (t.drop (sizeL (c :: t) - 1)) (a + sizeL (c :: t)) := by
  rw [frontL]

theorem front_of_scan (n : Nat) : ∀ (L : List UInt8) (a : Nat) (m : List Wd), L.length ≤ n → scanL L a = some m → frontL L a = m := by
  induction n with
  | zero =>
    intro L a m hl h
    obtain rfl : L = [] := by cases L; rfl; simp at hl
    rw [scanL_nil] at h
    rw [frontL_nil]
    exact Option.some.inj h
  | succ n ih =>
    intro L a m hl h
    match L with
    | [] =>
      rw [scanL_nil] at h
      rw [frontL_nil]
      exact Option.some.inj h
    | c :: t =>
      simp only [List.length_cons] at hl
      rw [scanL_cons] at h
      rw [frontL_cons]
      by_cases hb : blankN c.toNat = true
      · rw [if_pos hb] at h ⊢
        exact ih t _ m (by omega) h
      · rw [if_neg hb] at h ⊢
        by_cases hn : c.toNat = 37
        · rw [if_pos hn] at h ⊢
          exact ih _ _ m (by rw [List.length_drop]; omega) h
        · rw [if_neg hn] at h ⊢
          by_cases hs : sizeL (c :: t) = 0 ∨ 16 < sizeL (c :: t)
          · rw [if_pos hs] at h
            cases h
          · rw [if_neg hs] at h ⊢
            cases hr : scanL (t.drop (sizeL (c :: t) - 1)) (a + sizeL (c :: t)) with
            | none => rw [hr] at h; cases h
            | some r =>
              rw [hr] at h
              obtain rfl := Option.some.inj h
              rw [ih _ _ r (by rw [List.length_drop]; omega) hr]

def frontAt (S : List UInt8) (a : Nat) : List Wd := frontL (S.drop a) a
theorem frontAt_of_scan {S : List UInt8} {a : Nat} {m : List Wd} (h : scanAt S a = some m) : frontAt S a = m := front_of_scan _ _ _ _ (Nat.le_refl _) h

theorem frontAt_end (S : List UInt8) (a : Nat) (h : S.length ≤ a) : frontAt S a = [] := by
  rw [frontAt, List.drop_eq_nil_of_le h, frontL_nil]
theorem frontAt_blank (S : List UInt8) (a : Nat) (h : a < S.length) (hb : blankN (S.getD a 0).toNat = true) : frontAt S a = frontAt S (a + 1) := by
  rw [frontAt, drop_cons S a h, frontL_cons, if_pos hb, frontAt]
theorem frontAt_note (S : List UInt8) (a : Nat) (h : a < S.length) (hb : (S.getD a 0).toNat = 37) : frontAt S a = frontAt S (a + lineL (S.drop a)) := by
  have e := drop_cons S a h
  rw [frontAt, e, frontL_cons, if_neg (by rw [hb]; decide), if_pos hb, frontAt, line_cons _ _ hb, List.drop_drop]
  have e1 : a + 1 + lineL (S.drop (a + 1)) = a + (lineL (S.drop (a + 1)) + 1) := by omega
  rw [e1]
theorem frontAt_bad (S : List UInt8) (a : Nat) (h : a < S.length) (hb : blankN (S.getD a 0).toNat = false) (hn : (S.getD a 0).toNat ≠ 37) (hs : sizeL (S.drop a) = 0 ∨ 16 < sizeL (S.drop a)) : frontAt S a = [] := by
  have e := drop_cons S a h
  rw [frontAt, e, frontL_cons, if_neg (by rw [hb]; decide), if_neg hn, ← e, if_pos hs]
theorem frontAt_word (S : List UInt8) (a : Nat) (h : a < S.length) (hb : blankN (S.getD a 0).toNat = false) (hn : (S.getD a 0).toNat ≠ 37) (h0 : sizeL (S.drop a) ≠ 0) (hs : sizeL (S.drop a) ≤ 16) :
    frontAt S a = (kindL (S.drop a), (S.drop a).take (sizeL (S.drop a)), a) :: frontAt S (a + sizeL (S.drop a)) := by
  have e := drop_cons S a h
  have e2 : (S.drop (a + 1)).drop (sizeL (S.drop a) - 1) = S.drop (a + sizeL (S.drop a)) := by
    rw [List.drop_drop]
    congr 1
    omega
  rw [frontAt, e, frontL_cons, if_neg (by rw [hb]; decide), if_neg hn, ← e, if_neg (by omega), e2, frontAt]

/-- How far a text has been read: the words so far, and what the rest gives. -/
def Sp (S : List UInt8) (k : Nat) (L : List Wd) : Prop := scanAt S 0 = (scanAt S k).map (fun r => L ++ r) ∧ frontAt S 0 = L ++ frontAt S k
theorem Sp.start (S : List UInt8) : Sp S 0 [] := ⟨by cases scanAt S 0 <;> simp, by simp⟩
theorem Sp.same {S : List UInt8} {k j : Nat} {L : List Wd} (h : Sp S k L) (e : scanAt S k = scanAt S j ∧ frontAt S k = frontAt S j) : Sp S j L := ⟨by rw [h.1, e.1], by rw [h.2, e.2]⟩
theorem Sp.more {S : List UInt8} {k j : Nat} {L : List Wd} {x : Wd} (h : Sp S k L) (e : scanAt S k = (scanAt S j).map (fun r => x :: r) ∧ frontAt S k = x :: frontAt S j) : Sp S j (L ++ [x]) :=
  ⟨by rw [h.1, e.1]; cases scanAt S j <;> simp, by rw [h.2, e.2]; simp⟩
theorem Sp.bad {S : List UInt8} {k : Nat} {L : List Wd} (h : Sp S k L) (e : scanAt S k = none ∧ frontAt S k = []) : scanAt S 0 = none ∧ frontAt S 0 = L := ⟨by rw [h.1, e.1]; rfl, by rw [h.2, e.2]; simp⟩
theorem Sp.good {S : List UInt8} {k : Nat} {L : List Wd} (h : Sp S k L) (e : S.length ≤ k) : scanAt S 0 = some L := by rw [h.1, scanAt_end S k e]; simp

end Go.Proofs.Ytdmhajeaphnebaa.Lx
namespace Go.Proofs.Ytdmhajeaphnebaa.Lx
open Go.RowKit

/-- A text's bytes; the byte at a place, as a number. -/
abbrev bs (s : ByteArray) : List UInt8 := s.data.toList
def bt (s : ByteArray) (j : Nat) : Nat := ((bs s).getD j 0).toNat
theorem bt_lt (s : ByteArray) (j : Nat) : bt s j < 256 := UInt8.toNat_lt _
theorem bs_length (s : ByteArray) : (bs s).length = s.size := rfl
theorem bt_at (s : ByteArray) (j : Nat) (h : j < s.size) : (s[j]'h).toNat = bt s j := by
  unfold bt bs
  rw [List.getD, Array.getElem?_toList, Array.getElem?_eq_getElem (show j < s.data.size from h)]
  rfl

theorem ret_bool {a b : Bool} (h : a = b) : Ending.returned (.bool a) = Ending.returned (.bool b) := by rw [h]
theorem ret_int {a b : Int} (h : a = b) : Ending.returned (.int .i64 a) = Ending.returned (.int .i64 b) := by rw [h]

theorem rsmall_any (n : Nat) (w : World) :
    Calls Try.prog 46 #[.int .u8 (n : Int)] w fun e w' => e = .returned (.bool (smallN n)) ∧ w' = w := by
  go_enter Try.func46, Try.ntmps46
  go_wp2
  all_goals (go_ret; refine ⟨ret_bool ?_, rfl⟩; unfold smallN; rw [Bool.eq_iff_iff]; simp; omega)

theorem rgreat_any (n : Nat) (w : World) :
    Calls Try.prog 48 #[.int .u8 (n : Int)] w fun e w' => e = .returned (.bool (greatN n)) ∧ w' = w := by
  go_enter Try.func48, Try.ntmps48
  go_wp2
  all_goals (go_ret; refine ⟨ret_bool ?_, rfl⟩; unfold greatN; rw [Bool.eq_iff_iff]; simp; omega)

theorem rdigit_any (n : Nat) (w : World) :
    Calls Try.prog 47 #[.int .u8 (n : Int)] w fun e w' => e = .returned (.bool (digitN n)) ∧ w' = w := by
  go_enter Try.func47, Try.ntmps47
  go_wp2
  all_goals (go_ret; refine ⟨ret_bool ?_, rfl⟩; unfold digitN; rw [Bool.eq_iff_iff]; simp; omega)

/-- What a function of one byte that is handed in gives. -/
def Good (f : FuncId) (p : Nat → Bool) : Prop := ∀ (n : Nat) (w : World), Calls Try.prog f #[.int .u8 (n : Int)] w fun e w' => e = .returned (.bool (p n)) ∧ w' = w

theorem indexByte_line (L : List UInt8) : (Lib.indexByte L 10 = -1 ∧ lineL L = L.length) ∨ (0 ≤ Lib.indexByte L 10 ∧ Lib.indexByte L 10 = (lineL L : Int)) := by
  induction L with
  | nil => left; exact ⟨rfl, rfl⟩
  | cons c t ih =>
    by_cases h : c = 10
    · subst h
      right
      exact ⟨by simp [Lib.indexByte], by simp [Lib.indexByte, lineL, runP]⟩
    · have hn : ¬ c.toNat = 10 := fun e => h (UInt8.toNat_inj.1 (by rw [e]; rfl))
      have e1 : lineL (c :: t) = lineL t + 1 := by simp [lineL, runP, hn]
      have e2 : Lib.indexByte (c :: t) 10 = if Lib.indexByte t 10 == -1 then -1 else Lib.indexByte t 10 + 1 := by simp [Lib.indexByte, h]
      rw [e1, e2]
      rcases ih with ⟨a, b⟩ | ⟨a, b⟩
      · left; rw [a, b]; exact ⟨rfl, by simp⟩
      · right
        have : (Lib.indexByte t 10 == -1) = false := by simp; omega
        rw [this]
        exact ⟨by simp; omega, by simp; omega⟩

end Go.Proofs.Ytdmhajeaphnebaa.Lx
namespace Go.Proofs.Ytdmhajeaphnebaa.Lx
open Go.RowKit
set_option maxRecDepth 4000

/-- The table of signs, as it lies in memory. -/
def sg (i : Nat) : ByteArray := ⟨(signsL.getD i []).toArray⟩
def Sg (w : World) : Prop := ∀ i, i < 10 → w.cell? ⟨2, i, none⟩ = some (.string (sg i))
theorem Sg.below {w w' : World} (h : Sg w) (hb : Below w.heap.size w w') : Sg w' := fun i hi =>
  (World.cell?_of_block (w := w) (a := ⟨2, i, none⟩) (hb.block 2 (World.block_lt_of_cell? w ⟨2, i, none⟩ (h i hi)))).trans (h i hi)

theorem pre_sign (L x : List UInt8) : Lib.hasPrefix L x = x.isPrefixOf L := rfl

theorem trim_minus (c : UInt8) (t : List UInt8) : Lib.trimPrefix (c :: t) [45] = if c = 45 then t else c :: t := by
  by_cases h : c = 45
  · subst h; simp [Lib.trimPrefix, Lib.hasPrefix, List.isPrefixOf]
  · have : (45 == c) = false := by simpa using fun e => h e.symm
    simp [Lib.trimPrefix, Lib.hasPrefix, List.isPrefixOf, this, h]

theorem num_cut (c : UInt8) (t X : List UInt8) (h1 : ¬ c.toNat = 48) (hX : Lib.trimPrefix (c :: t) [45] = X) :
    (Lib.hasPrefix X [48] = true → numL (c :: t) = 0) ∧ (Lib.hasPrefix X [48] = false → runP digitN X = 0 → numL (c :: t) = 0) ∧
    (Lib.hasPrefix X [48] = false → runP digitN X ≠ 0 → numL (c :: t) = t.length + 1 - X.length + runP digitN X) ∧ X.length ≤ t.length + 1 := by
  rw [trim_minus] at hX
  by_cases h2 : c = 45
  · rw [if_pos h2] at hX
    subst h2 hX
    have hp : ∀ d r, Lib.hasPrefix (d :: r) [48] = true ↔ d.toNat = 48 := fun d r => by
      rw [pre_sign, isPre1]
      simp only [beq_iff_eq]
      exact ⟨fun e => by rw [← e]; rfl, fun e => UInt8.toNat_inj.1 (by rw [e]; rfl)⟩
    match t with
    | [] => exact ⟨fun h => absurd h (by decide), fun _ _ => by decide, fun _ h => absurd rfl h, by simp⟩
    | d :: r =>
      have e : numL (45 :: d :: r) = if d.toNat = 48 then 0 else if digitN d.toNat = true then runP digitN r + 2 else 0 := by simp [numL]
      refine ⟨fun h => ?_, fun h hr => ?_, fun h hr => ?_, by simp⟩
      · rw [e, if_pos ((hp d r).1 h)]
      · rw [e]
        by_cases h4 : digitN d.toNat = true
        · simp [runP, h4] at hr
        · simp [h4]
      · have h3 : ¬ d.toNat = 48 := fun x => by rw [(hp d r).2 x] at h; cases h
        by_cases h4 : digitN d.toNat = true
        · rw [e, if_neg h3, if_pos h4]
          simp [runP, h4]
          omega
        · simp [runP, h4] at hr
  · rw [if_neg h2] at hX
    subst hX
    have h2' : ¬ c.toNat = 45 := fun e => h2 (UInt8.toNat_inj.1 (by rw [e]; rfl))
    have e : numL (c :: t) = runP digitN (c :: t) := by simp only [numL, if_neg h1, if_neg h2']
    refine ⟨fun h => ?_, fun _ hr => by rw [e, hr], fun _ _ => by rw [e]; simp, by simp⟩
    rw [pre_sign, isPre1, beq_iff_eq] at h
    exact absurd (by rw [← h]; rfl) h1

end Go.Proofs.Ytdmhajeaphnebaa.Lx
namespace Go.Proofs.Ytdmhajeaphnebaa.Lx
open Go.RowKit

theorem bs_extract (s : ByteArray) (a b : Nat) : bs (s.extract a b) = ((bs s).drop a).take (b - a) := by
  unfold bs
  rw [ByteArray.data_extract, Array.toList_extract, List.extract_eq_take_drop]

theorem bs_from (s : ByteArray) (a : Nat) : bs (s.extract a s.size) = (bs s).drop a := by
  rw [bs_extract s a s.size, List.take_of_length_le (by rw [List.length_drop, bs_length]; exact Nat.le_refl _)]

theorem size_from (s : ByteArray) (a : Nat) : (s.extract a s.size).size = s.size - a := by simp

/-- What first gives. -/
def firstK (L : List UInt8) : Nat := if sizeL L = 0 ∨ 16 < sizeL L then 0 else kindL L
def firstN (L : List UInt8) : Nat := if sizeL L = 0 ∨ 16 < sizeL L then 0 else sizeL L

theorem ret_two {a b c d : Int} (h : a = c) (g : b = d) : Ending.returned (.tuple #[.int .i64 a, .int .i64 b]) = Ending.returned (.tuple #[.int .i64 c, .int .i64 d]) := by rw [h, g]

end Go.Proofs.Ytdmhajeaphnebaa.Lx

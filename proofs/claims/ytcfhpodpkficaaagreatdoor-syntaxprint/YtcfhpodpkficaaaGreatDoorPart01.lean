/- Words of a text, in plain mathematics: how long the first word is, the words of a text, and that words printed with a blank between are the same words. The library contracts that this program uses, at its own numbers. Laid by program; no walk. The walks of the program's small functions: kinds of bytes, run, lineSize, numberSize, signSize. The walks of signSize and numberSize. -/
import Derived.WalkKit
import Derived.Shelf.Strings.Builder1
import Derived.Shelf.Strings.Builder2
import Derived.Shelf.Strings.OnBuilder
import Derived.Shelf.Small.Strs
import Derived.Shelf.Strconv.Itoa0
import Derived.Shelf.Strconv.Itoa1
import Derived.Shelf.LaysM
import Derived.Shelf.Strconv.Itoa2
import Derived.Shelf.Strconv.Itoa3
import Derived.Shelf.Strconv.Itoa4
import Derived.Shelf.Strconv.ParseIntEmpty
import Derived.Shelf.Strconv.Clone
import Derived.Shelf.Strconv.SyntaxError
import Derived.Shelf.LaysC
import Derived.Shelf.Strconv.ToError
import Derived.Shelf.Strconv.Lower
import Derived.Shelf.Strconv.ParseUint10
import Derived.Shelf.Strconv.ParseUint10Empty
import Derived.Shelf.Strconv.ParseUint10Any
import Derived.Shelf.Strconv.ParseInt10
import Derived.Shelf.Strconv.RangeError
import Derived.Shelf.Strconv.ToErrorRange
import Derived.Shelf.Strconv.ParseUintEmpty
import Derived.Shelf.Strconv.ParseUint10b64
import Derived.Shelf.Strconv.ParseUint10b32
import Derived.Shelf.Strconv.ParseUint10b16
import Derived.Shelf.Strconv.ParseUint10b8
import Derived.Shelf.Strconv.ParseUint10At
import Derived.Shelf.Strconv.ParseInt10At64
import Derived.Shelf.Strconv.ParseInt10At32
import Derived.Shelf.Strconv.ParseInt10At16
import Derived.Shelf.Strconv.ParseInt10At8
import Derived.Shelf.Strconv.ParseInt10All
import Derived.Shelf.Strconv.ParseIntPublic10
import Derived.Shelf.Strings.Search1
import Derived.Shelf.Strings.Prefix
import Derived.Test.YtcfhpodpkficaaaGreatDoorRows
import Derived.WalkSpells
import Derived.WalkLawsBesides
import Derived.BigQuiet
import Derived.Shelf.Abstract
import Derived.LoopN
namespace Go.Proofs.YtcfhpodpkficaaaGreatDoor.Lx

def smallN (n : Nat) : Bool := decide (97 ≤ n) && decide (n ≤ 122)
def greatN (n : Nat) : Bool := decide (65 ≤ n) && decide (n ≤ 90)
def digitN (n : Nat) : Bool := decide (48 ≤ n) && decide (n ≤ 57)
def nameN (n : Nat) : Bool := smallN n || digitN n || decide (n = 95)
def varN (n : Nat) : Bool := nameN n || greatN n
def blankN (n : Nat) : Bool := decide (n = 32) || decide (n = 9) || decide (n = 10) || decide (n = 13)

/-- How many bytes at the beginning are all good. -/
def runP (p : Nat → Bool) : List UInt8 → Nat
  | [] => 0
  | c :: t => if p c.toNat = true then runP p t + 1 else 0

theorem runP_le (p : Nat → Bool) (L : List UInt8) : runP p L ≤ L.length := by
  induction L with
  | nil => simp [runP]
  | cons c t ih => simp only [runP]; split <;> simp; omega

/-- A run ends where a bad byte stands, or at the end. -/
theorem runP_eq (p : Nat → Bool) (L : List UInt8) (k : Nat) (hk : k ≤ L.length) (h : ∀ j, j < k → p ((L.getD j 0).toNat) = true) (he : k = L.length ∨ p ((L.getD k 0).toNat) = false) : runP p L = k := by
  induction L generalizing k with
  | nil => simp at hk; simp [runP, hk]
  | cons c t ih =>
    simp only [runP]
    cases k with
    | zero =>
      rcases he with he | he
      · simp at he
      · simp at he; simp [he]
    | succ k =>
      have h0 := h 0 (by omega)
      simp at h0
      rw [if_pos h0, ih k (by simpa using hk) (fun j hj => by simpa using h (j + 1) (by omega)) (by
        rcases he with he | he
        · left; simpa using he
        · right; simpa using he)]

/-- A run over a front and one bad byte behind it. -/
theorem runP_take (p : Nat → Bool) (L R : List UInt8) (d : UInt8) (hd : p d.toNat = false) : runP p (L.take (runP p L) ++ d :: R) = runP p L := by
  induction L with
  | nil => simp [runP, hd]
  | cons c t ih =>
    by_cases hc : p c.toNat = true
    · have e : runP p (c :: t) = runP p t + 1 := by simp [runP, hc]
      rw [e]
      simp only [List.take_succ_cons, List.cons_append]
      rw [runP, if_pos hc, ih]
    · have e : runP p (c :: t) = 0 := by simp [runP, hc]
      rw [e]
      simp [runP, hd]

def signsL : List (List UInt8) := [[40], [41], [44], [46], [58, 45], [33, 61], [33], [61], [60, 61], [60]]
def signIn : List (List UInt8) → List UInt8 → Nat
  | [], _ => 0
  | x :: r, L => if x.isPrefixOf L = true then x.length else signIn r L
def signL (L : List UInt8) : Nat := signIn signsL L

def numL : List UInt8 → Nat
  | [] => 0
  | c :: t => if c.toNat = 48 then 1 else if c.toNat = 45 then (match t with
      | [] => 0
      | d :: r => if d.toNat = 48 then 0 else if digitN d.toNat = true then runP digitN r + 2 else 0)
    else runP digitN (c :: t)

def kindN (n : Nat) : Nat := if smallN n = true then 1 else if greatN n = true then 2 else if digitN n = true ∨ n = 45 then 3 else 4
def kindL (L : List UInt8) : Nat := kindN (L.getD 0 0).toNat
/-- How long the first word is; 0: there is none. -/
def sizeL (L : List UInt8) : Nat :=
  if kindL L = 1 then runP nameN L else if kindL L = 2 then runP varN L else if kindL L = 3 then numL L else signL L

theorem signIn_le (S : List (List UInt8)) (L : List UInt8) : signIn S L ≤ L.length := by
  induction S with
  | nil => simp [signIn]
  | cons x r ih =>
    simp only [signIn]
    split
    · rename_i h
      exact (List.isPrefixOf_iff_prefix.1 h).length_le
    · exact ih

theorem numL_le (L : List UInt8) : numL L ≤ L.length := by
  unfold numL
  split
  · simp
  · split
    · simp
    · split
      · split
        · simp
        · split
          · simp
          · split
            · rename_i r _ _
              have := runP_le digitN r
              simp; omega
            · simp
      · exact runP_le _ _

theorem sizeL_le (L : List UInt8) : sizeL L ≤ L.length := by
  unfold sizeL
  split
  · exact runP_le _ _
  · split
    · exact runP_le _ _
    · split
      · exact numL_le _
      · exact signIn_le _ _

theorem signL_two (L : List UInt8) : signL L ≤ 2 := by
  simp only [signL, signsL, signIn]
  repeat' split
  all_goals simp

/-- How many bytes stand ahead of the line's end. -/
def lineL (L : List UInt8) : Nat := runP (fun n => !decide (n = 10)) L

abbrev Wd := Nat × List UInt8 × Nat

/-- The words of a text of which the first byte is the a-th; none: it is refused. -/
def scanL (L : List UInt8) (a : Nat) : Option (List Wd) :=
  match L with
  | [] => some []
  | c :: t =>
    if blankN c.toNat = true then scanL t (a + 1)
    else if c.toNat = 37 then scanL (t.drop (lineL t)) (a + 1 + lineL t)
    else if sizeL (c :: t) = 0 ∨ 16 < sizeL (c :: t) then none
    else (scanL (t.drop (sizeL (c :: t) - 1)) (a + sizeL (c :: t))).map (fun r => (kindL (c :: t), (c :: t).take (sizeL (c :: t)), a) :: r)
  termination_by L.length
  decreasing_by all_goals (simp <;> omega)

theorem scanL_nil (a : Nat) : scanL [] a = some [] := by rw [scanL]
theorem scanL_cons (c : UInt8) (t : List UInt8) (a : Nat) : scanL (c :: t) a = if blankN c.toNat = true then scanL t (a + 1)
    else if c.toNat = 37 then scanL (t.drop (lineL t)) (a + 1 + lineL t)
    else if sizeL (c :: t) = 0 ∨ 16 < sizeL (c :: t) then none
    else (scanL (t.drop (sizeL (c :: t) - 1)) (a + sizeL (c :: t))).map (fun r => (kindL (c :: t), (c :: t).take (sizeL (c :: t)), a) :: r) := by
  rw [scanL]

/-- The same, from a place of the text on. -/
def scanAt (S : List UInt8) (a : Nat) : Option (List Wd) := scanL (S.drop a) a

theorem drop_cons (S : List UInt8) (a : Nat) (h : a < S.length) : S.drop a = S.getD a 0 :: S.drop (a + 1) := by
  rw [List.drop_eq_getElem_cons h]
  simp [List.getD, List.getElem?_eq_getElem h]

theorem scanAt_end (S : List UInt8) (a : Nat) (h : S.length ≤ a) : scanAt S a = some [] := by
  rw [scanAt, List.drop_eq_nil_of_le h, scanL_nil]

theorem scanAt_blank (S : List UInt8) (a : Nat) (h : a < S.length) (hb : blankN (S.getD a 0).toNat = true) : scanAt S a = scanAt S (a + 1) := by
  rw [scanAt, drop_cons S a h, scanL_cons, if_pos hb, scanAt]

theorem line_cons (c : UInt8) (t : List UInt8) (h : c.toNat = 37) : lineL (c :: t) = lineL t + 1 := by
  simp [lineL, runP, h]

theorem scanAt_note (S : List UInt8) (a : Nat) (h : a < S.length) (hb : (S.getD a 0).toNat = 37) : scanAt S a = scanAt S (a + lineL (S.drop a)) ∧ 1 ≤ lineL (S.drop a) ∧ a + lineL (S.drop a) ≤ S.length := by
  have e := drop_cons S a h
  have hl : lineL (S.drop a) = lineL (S.drop (a + 1)) + 1 := by rw [e, line_cons _ _ hb]
  have hle : lineL (S.drop a) ≤ (S.drop a).length := runP_le _ _
  rw [List.length_drop] at hle
  refine ⟨?_, by omega, by omega⟩
  rw [scanAt, e, scanL_cons, if_neg (by rw [hb]; decide), if_pos hb, scanAt, line_cons _ _ hb, List.drop_drop]
  have e1 : a + 1 + lineL (S.drop (a + 1)) = a + (lineL (S.drop (a + 1)) + 1) := by omega
  rw [e1]

theorem scanAt_bad (S : List UInt8) (a : Nat) (h : a < S.length) (hb : blankN (S.getD a 0).toNat = false) (hn : (S.getD a 0).toNat ≠ 37) (hs : sizeL (S.drop a) = 0 ∨ 16 < sizeL (S.drop a)) : scanAt S a = none := by
  have e := drop_cons S a h
  rw [scanAt, e, scanL_cons, if_neg (by rw [hb]; decide), if_neg hn, ← e, if_pos hs]

theorem scanAt_word (S : List UInt8) (a : Nat) (h : a < S.length) (hb : blankN (S.getD a 0).toNat = false) (hn : (S.getD a 0).toNat ≠ 37) (h0 : sizeL (S.drop a) ≠ 0) (hs : sizeL (S.drop a) ≤ 16) :
    scanAt S a = (scanAt S (a + sizeL (S.drop a))).map (fun r => (kindL (S.drop a), (S.drop a).take (sizeL (S.drop a)), a) :: r) := by
  have e := drop_cons S a h
  have e2 : (S.drop (a + 1)).drop (sizeL (S.drop a) - 1) = S.drop (a + sizeL (S.drop a)) := by
    rw [List.drop_drop]
    congr 1
    omega
  rw [scanAt, e, scanL_cons, if_neg (by rw [hb]; decide), if_neg hn, ← e, if_neg (by omega), e2, scanAt]

/-- Words as they are printed, a blank behind each. -/
def joinW : List Wd → List UInt8
  | [] => []
  | (_, x, _) :: r => x ++ 32 :: joinW r
/-- The same words, at the places at which they then stand. -/
def reAt : Nat → List Wd → List Wd
  | _, [] => []
  | b, (k, x, _) :: r => (k, x, b) :: reAt (b + x.length + 1) r

theorem isPre1 (x c : UInt8) (t : List UInt8) : List.isPrefixOf [x] (c :: t) = (x == c) := by simp [List.isPrefixOf]
theorem isPre2 (x y c d : UInt8) (t : List UInt8) : List.isPrefixOf [x, y] (c :: d :: t) = (x == c && y == d) := by simp [List.isPrefixOf]
theorem isPre2' (x y c : UInt8) : List.isPrefixOf [x, y] [c] = false := by simp [List.isPrefixOf]

theorem sign_apart (L R : List UInt8) (h : signL L ≠ 0) : signL (L.take (signL L) ++ 32 :: R) = signL L := by
  match L with
  | [] => exact absurd (by rfl) h
  | [c] =>
    simp only [signL, signsL, signIn, isPre1, isPre2', List.length] at h ⊢
    by_cases e1 : c = 40 <;> by_cases e2 : c = 41 <;> by_cases e3 : c = 44 <;> by_cases e4 : c = 46 <;> by_cases e5 : c = 33 <;> by_cases e6 : c = 61 <;> by_cases e7 : c = 60
    all_goals (simp_all [isPre1, isPre2, Ne.symm])
    all_goals (revert h; repeat' split) <;> simp_all
  | c :: d :: t =>
    simp only [signL, signsL, signIn, isPre1, isPre2, List.length] at h ⊢
    by_cases e1 : 40 = c
    · subst e1; rfl
    by_cases e2 : 41 = c
    · subst e2; rfl
    by_cases e3 : 44 = c
    · subst e3; rfl
    by_cases e4 : 46 = c
    · subst e4; rfl
    by_cases e6 : 61 = c
    · subst e6; rfl
    by_cases e5 : 33 = c
    · subst e5
      by_cases f : 61 = d
      · subst f; rfl
      · simp [f, isPre1, isPre2]
    by_cases e7 : 60 = c
    · subst e7
      by_cases f : 61 = d
      · subst f; rfl
      · simp [f, isPre1, isPre2]
    by_cases e8 : 58 = c
    · subst e8
      by_cases f : 45 = d
      · subst f; rfl
      · simp [f] at h
    simp [e1, e2, e3, e4, e5, e6, e7, e8] at h

theorem num_apart (L R : List UInt8) (h : numL L ≠ 0) : numL (L.take (numL L) ++ 32 :: R) = numL L := by
  match L with
  | [] => exact absurd (by rfl) h
  | c :: t =>
    by_cases h1 : c.toNat = 48
    · have e : numL (c :: t) = 1 := by simp [numL, h1]
      rw [e]
      simp [numL, h1]
    · by_cases h2 : c.toNat = 45
      · match t with
        | [] => simp [numL, h2] at h
        | d :: r =>
          by_cases h3 : d.toNat = 48
          · simp [numL, h2, h3] at h
          · by_cases h4 : digitN d.toNat = true
            · have e : numL (c :: d :: r) = runP digitN r + 2 := by simp [numL, h2, h3, h4]
              rw [e]
              simp only [List.take_succ_cons, List.cons_append]
              simp only [numL, if_neg h1, if_pos h2, if_neg h3, if_pos h4]
              rw [runP_take _ _ _ _ (by decide)]
            · simp [numL, h2, h3, h4] at h
      · have e : numL (c :: t) = runP digitN (c :: t) := by simp only [numL, if_neg h1, if_neg h2]
        by_cases h4 : digitN c.toNat = true
        · have e2 : runP digitN (c :: t) = runP digitN t + 1 := by simp [runP, h4]
          rw [e, e2]
          simp only [List.take_succ_cons, List.cons_append]
          simp only [numL, if_neg h1, if_neg h2]
          rw [runP, if_pos h4, runP_take _ _ _ _ (by decide)]
        · rw [e] at h
          simp [runP, h4] at h

theorem kind_apart (L R : List UInt8) (n : Nat) (hn : n ≠ 0) (hle : n ≤ L.length) : kindL (L.take n ++ 32 :: R) = kindL L := by
  match L, n with
  | [], n => simp at hle; omega
  | c :: t, n + 1 => simp [kindL]
  | c :: t, 0 => exact absurd rfl hn

theorem word_apart (L R : List UInt8) (h : sizeL L ≠ 0) : sizeL (L.take (sizeL L) ++ 32 :: R) = sizeL L ∧ kindL (L.take (sizeL L) ++ 32 :: R) = kindL L := by
  have hk := kind_apart L R (sizeL L) h (sizeL_le L)
  refine ⟨?_, hk⟩
  rw [sizeL, hk]
  by_cases h1 : kindL L = 1
  · have e : sizeL L = runP nameN L := by simp [sizeL, h1]
    rw [if_pos h1, e]
    exact runP_take _ _ _ _ (by decide)
  · by_cases h2 : kindL L = 2
    · have e : sizeL L = runP varN L := by simp [sizeL, h2]
      rw [if_neg h1, if_pos h2, e]
      exact runP_take _ _ _ _ (by decide)
    · by_cases h3 : kindL L = 3
      · have e : sizeL L = numL L := by simp [sizeL, h3]
        rw [if_neg h1, if_neg h2, if_pos h3, e]
        exact num_apart _ _ (by rwa [← e])
      · have e : sizeL L = signL L := by simp [sizeL, h1, h2, h3]
        rw [if_neg h1, if_neg h2, if_neg h3, e]
        exact sign_apart _ _ (by rwa [← e])

theorem scan_apart (n : Nat) : ∀ (L : List UInt8) (a : Nat) (m : List Wd), L.length ≤ n → scanL L a = some m → (∀ b, scanL (joinW m) b = some (reAt b m)) ∧ (joinW m).length ≤ 2 * L.length ∧ m.length ≤ L.length := by
  induction n with
  | zero =>
    intro L a m hl h
    obtain rfl : L = [] := by cases L; rfl; simp at hl
    rw [scanL_nil] at h
    obtain rfl := Option.some.inj h
    exact ⟨fun b => by simp [joinW, reAt, scanL_nil], by simp [joinW], by simp⟩
  | succ n ih =>
    intro L a m hl h
    match L with
    | [] =>
      rw [scanL_nil] at h
      obtain rfl := Option.some.inj h
      exact ⟨fun b => by simp [joinW, reAt, scanL_nil], by simp [joinW], by simp⟩
    | c :: t =>
      simp only [List.length_cons] at hl
      rw [scanL_cons] at h
      by_cases hb : blankN c.toNat = true
      · rw [if_pos hb] at h
        obtain ⟨g1, g2, g3⟩ := ih t _ m (by omega) h
        exact ⟨g1, by simp only [List.length_cons]; omega, by simp only [List.length_cons]; omega⟩
      · rw [if_neg hb] at h
        by_cases hn : c.toNat = 37
        · rw [if_pos hn] at h
          obtain ⟨g1, g2, g3⟩ := ih _ _ m (by rw [List.length_drop]; omega) h
          rw [List.length_drop] at g2 g3
          exact ⟨g1, by simp only [List.length_cons]; omega, by simp only [List.length_cons]; omega⟩
        · rw [if_neg hn] at h
          by_cases hs : sizeL (c :: t) = 0 ∨ 16 < sizeL (c :: t)
          · rw [if_pos hs] at h
            cases h
          · rw [if_neg hs] at h
            have hle := sizeL_le (c :: t)
            simp only [List.length_cons] at hle
            cases hr : scanL (t.drop (sizeL (c :: t) - 1)) (a + sizeL (c :: t)) with
            | none => rw [hr] at h; cases h
            | some r =>
              rw [hr] at h
              obtain rfl := Option.some.inj h
              obtain ⟨g1, g2, g3⟩ := ih _ _ r (by rw [List.length_drop]; omega) hr
              rw [List.length_drop] at g2 g3
              have hlt : ((c :: t).take (sizeL (c :: t))).length = sizeL (c :: t) := by rw [List.length_take]; simp only [List.length_cons]; omega
              refine ⟨fun b => ?_, ?_, ?_⟩
              · obtain ⟨w1, w2⟩ := word_apart (c :: t) (joinW r) (by omega)
                simp only [joinW, reAt]
                generalize hN : sizeL (c :: t) = N at *
                obtain ⟨N', rfl⟩ : ∃ N', N = N' + 1 := ⟨N - 1, by omega⟩
                simp only [List.take_succ_cons, List.cons_append] at *
                rw [scanL_cons, if_neg hb, if_neg hn, if_neg (by rw [w1]; exact hs), w1, w2]
                have hlt' : (t.take N').length = N' := by simpa using hlt
                have e1 : (t.take N' ++ 32 :: joinW r).drop (N' + 1 - 1) = 32 :: joinW r := by
                  rw [Nat.add_sub_cancel]; exact List.drop_left' hlt'
                have e2 : (c :: (t.take N' ++ 32 :: joinW r)).take (N' + 1) = c :: t.take N' := by
                  rw [List.take_succ_cons, List.take_left' hlt']
                rw [e1, e2, scanL_cons, if_pos (by decide), g1]
                simp only [Option.map_some, List.length_cons, hlt', Nat.add_assoc]
              · simp only [joinW, List.length_append, hlt, List.length_cons]
                omega
              · simp only [List.length_cons]
                omega

theorem scan_blanks (n a : Nat) : scanL (List.replicate n 32) a = some [] := by
  induction n generalizing a with
  | zero => exact scanL_nil a
  | succ n ih => rw [List.replicate_succ, scanL_cons, if_pos (by decide), ih]

theorem runP_all (p : Nat → Bool) (c : UInt8) (hc : p c.toNat = true) (k : Nat) : runP p (List.replicate k c) = k := by
  induction k with
  | zero => rfl
  | succ k ih => rw [List.replicate_succ, runP, if_pos hc, ih]

/-- A text of one letter, again and again. -/
theorem scan_same (c : UInt8) (hc : c = 97 ∨ c = 65 ∨ c = 55) (k : Nat) (hk : 1 ≤ k) : scanL (List.replicate k c) 0 = if k ≤ 16 then some [(kindN c.toNat, List.replicate k c, 0)] else none := by
  obtain ⟨k, rfl⟩ : ∃ j, k = j + 1 := ⟨k - 1, by omega⟩
  have hs : sizeL (List.replicate (k + 1) c) = k + 1 ∧ kindL (List.replicate (k + 1) c) = kindN c.toNat := by
    have hkk : kindL (List.replicate (k + 1) c) = kindN c.toNat := by simp [kindL, List.replicate_succ]
    refine ⟨?_, hkk⟩
    rcases hc with rfl | rfl | rfl
    · have : kindL (List.replicate (k + 1) 97) = 1 := hkk
      rw [sizeL, if_pos this]; exact runP_all _ _ (by decide) _
    · have : kindL (List.replicate (k + 1) 65) = 2 := hkk
      rw [sizeL, if_neg (by omega), if_pos this]; exact runP_all _ _ (by decide) _
    · have : kindL (List.replicate (k + 1) 55) = 3 := hkk
      rw [sizeL, if_neg (by omega), if_neg (by omega), if_pos this]
      have := runP_all digitN 55 (by decide) (k + 1)
      rw [List.replicate_succ] at this ⊢
      simp only [numL]
      rw [if_neg (by decide), if_neg (by decide)]
      exact this
  rw [List.replicate_succ] at hs ⊢
  rw [scanL_cons, if_neg (by rcases hc with rfl | rfl | rfl <;> decide), if_neg (by rcases hc with rfl | rfl | rfl <;> decide), hs.1, hs.2]
  by_cases h : k + 1 ≤ 16
  · rw [if_neg (by omega), if_pos h, Nat.add_sub_cancel, List.drop_eq_nil_of_le (by simp), scanL_nil]
    simp
  · rw [if_pos (by omega), if_neg h]

end Go.Proofs.YtcfhpodpkficaaaGreatDoor.Lx
namespace Go.Proofs.YtcfhpodpkficaaaGreatDoor
open Go.Shelf
def Tryz.lays156_ren : Go.Shelf.Ren := ⟨fun | 156 => 31 | 165 => 51 | 166 => 52 | 169 => 53 | 240 => 68 | 241 => 69 | 276 => 79 | 277 => 80 | n => n, fun | 31 => 67 | 9 => 9 | 3 => 3 | 4 => 4 | 0 => 0 | 20 => 20 | 72 => 92 | 76 => 96 | 70 => 89 | 37 => 90 | 75 => 95 | 127 => 111 | 164 => 118 | 5 => 5 | 80 => 98 | n => n, fun | n => n⟩
theorem Tryz.lays156 : Go.Proofs.Lays.n156 Tryz.prog Tryz.lays156_ren := {
  mixed := by kernel_rfl
  f156 := Tryz.func31.trans (congrArg some (by kernel_rfl))
  f165 := Tryz.func51.trans (congrArg some (by kernel_rfl))
  f166 := Tryz.func52.trans (congrArg some (by kernel_rfl))
  f169 := Tryz.func53.trans (congrArg some (by kernel_rfl))
  f240 := Tryz.func68.trans (congrArg some (by kernel_rfl))
  f241 := Tryz.func69.trans (congrArg some (by kernel_rfl))
  f276 := Tryz.func79.trans (congrArg some (by kernel_rfl))
  f277 := Tryz.func80.trans (congrArg some (by kernel_rfl))
  t0 := Tryz.underlying0
  a0 := Tryz.isAgg0
  z0 := Tryz.sizeOf0
  v0 := Tryz.zeroValue0
  t3 := Tryz.underlying3
  a3 := Tryz.isAgg3
  z3 := Tryz.sizeOf3
  v3 := Tryz.zeroValue3
  t4 := Tryz.underlying4
  a4 := Tryz.isAgg4
  z4 := Tryz.sizeOf4
  v4 := Tryz.zeroValue4
  t9 := Tryz.underlying9
  a9 := Tryz.isAgg9
  z9 := Tryz.sizeOf9
  v9 := Tryz.zeroValue9
  t20 := Tryz.underlying20
  a20 := Tryz.isAgg20
  z20 := Tryz.sizeOf20
  v20 := Tryz.zeroValue20
  t31 := Tryz.underlying67
  a31 := Tryz.isAgg67
  z31 := Tryz.sizeOf67
  v31 := Tryz.zeroValue67
  t37 := Tryz.underlying90
  a37 := Tryz.isAgg90
  z37 := Tryz.sizeOf90
  v37 := Tryz.zeroValue90
  t70 := Tryz.underlying89
  a70 := Tryz.isAgg89
  z70 := Tryz.sizeOf89
  v70 := Tryz.zeroValue89
  t72 := Tryz.underlying92
  a72 := Tryz.isAgg92
  z72 := Tryz.sizeOf92
  v72 := Tryz.zeroValue92
  t75 := Tryz.underlying95
  a75 := Tryz.isAgg95
  z75 := Tryz.sizeOf95
  v75 := Tryz.zeroValue95
  t76 := Tryz.underlying96
  a76 := Tryz.isAgg96
  z76 := Tryz.sizeOf96
  v76 := Tryz.zeroValue96
  t127 := Tryz.underlying111
  a127 := Tryz.isAgg111
  z127 := Tryz.sizeOf111
  v127 := Tryz.zeroValue111
  t164 := Tryz.underlying118
  a164 := Tryz.isAgg118
  z164 := Tryz.sizeOf118
  v164 := Tryz.zeroValue118 }
theorem Tryz.Builder_Extra_156 : Builder.Extra Tryz.prog Tryz.lays156_ren := {
  sizeBuilder := by kernel_rfl
  liesBuilder := by kernel_rfl
  t5 := Tryz.underlying5
  a5 := Tryz.isAgg5
  z5 := Tryz.sizeOf5
  v5 := Tryz.zeroValue5
  infoByte := by kernel_rfl
  cellsByte := by kernel_rfl
  sizeByte := by kernel_rfl
  neB5 := by decide }
open Go.RowKit in
theorem Tryz.strings_Join_none (a : Option Addr) (c : Nat) (sep : ByteArray) (w : World) :
    Calls Tryz.prog 31 #[.slice a 0 c, .string sep] w fun e w' => e = .returned (.string ⟨#[]⟩) ∧ w' = w := Any.strings_Join_none Tryz.lays156 Tryz.Builder_Extra_156 a c sep w
open Go.RowKit in
theorem Tryz.strings_Join (bk o c : Nat) (xs : List ByteArray) (sep : ByteArray) (w : World) (hcells : ∀ (j : Nat) x, xs[j]? = some x → w.cell? ⟨bk, o + j, none⟩ = some (.string x)) (hbk : bk < w.heap.size) (hN : xs.length ≤ 140737488355328) (hcap : xs.length ≤ c) (hlen : (Lib.join (xs.map (·.data.toList)) sep.data.toList).length ≤ 140737488355328) :
    Calls Tryz.prog 31 #[.slice (some ⟨bk, o, none⟩) xs.length c, .string sep] w fun e w' => e = .returned (.string ⟨(Lib.join (xs.map (·.data.toList)) sep.data.toList).toArray⟩) ∧ Below w.heap.size w w' := Any.strings_Join Tryz.lays156 Tryz.Builder_Extra_156 bk o c xs sep w hcells hbk hN hcap hlen
def Tryz.lays137_ren : Go.Shelf.Ren := ⟨fun | 137 => 105 | 217 => 116 | 266 => 125 | n => n, fun | 9 => 9 | 5 => 5 | 3 => 3 | n => n, fun | n => n⟩
theorem Tryz.lays137 : Go.Proofs.Lays.n137 Tryz.prog Tryz.lays137_ren := {
  mixed := by kernel_rfl
  f137 := Tryz.func105.trans (congrArg some (by kernel_rfl))
  f217 := Tryz.func116.trans (congrArg some (by kernel_rfl))
  f266 := Tryz.func125.trans (congrArg some (by kernel_rfl))
  t3 := Tryz.underlying3
  a3 := Tryz.isAgg3
  z3 := Tryz.sizeOf3
  v3 := Tryz.zeroValue3
  t5 := Tryz.underlying5
  a5 := Tryz.isAgg5
  z5 := Tryz.sizeOf5
  v5 := Tryz.zeroValue5
  t9 := Tryz.underlying9
  a9 := Tryz.isAgg9
  z9 := Tryz.sizeOf9
  v9 := Tryz.zeroValue9 }
open Go.RowKit in
theorem Tryz.strings_IndexByte (s : ByteArray) (c : Int) (w : World) :
    Calls Tryz.prog 105 #[.string s, .int .u8 c] w fun e w' => e = .returned (.int .i64 (Lib.indexByte s.data.toList c.toNat.toUInt8)) ∧ w' = w := Any.strings_IndexByte Tryz.lays137 s c w
def Tryz.laysM173_ren : Go.Shelf.Ren := ⟨fun | 173 => 78 | 246 => 99 | 283 => 108 | 284 => 109 | 285 => 110 | 286 => 111 | 129 => 120 | 317 => 119 | 318 => 121 | 319 => 122 | 320 => 123 | 337 => 126 | 338 => 127 | n => n, fun | 2 => 2 | 3 => 3 | 9 => 9 | 4 => 4 | 171 => 137 | 0 => 0 | 53 => 126 | 37 => 90 | 5 => 5 | 173 => 140 | 212 => 148 | 51 => 149 | 20 => 20 | 213 => 150 | 46 => 129 | 232 => 156 | 233 => 157 | n => n, fun | 17 => 5 | 18 => 6 | 19 => 7 | n => n⟩
theorem Tryz.laysM173 : Go.Proofs.LaysM.n173 Tryz.prog Tryz.laysM173_ren := {
  mixed := by kernel_rfl
  f129 := Tryz.func120.trans (congrArg some (by kernel_rfl))
  f173 := Tryz.func78.trans (congrArg some (by kernel_rfl))
  f246 := Tryz.func99.trans (congrArg some (by kernel_rfl))
  f283 := Tryz.func108.trans (congrArg some (by kernel_rfl))
  f284 := Tryz.func109.trans (congrArg some (by kernel_rfl))
  f285 := Tryz.func110.trans (congrArg some (by kernel_rfl))
  f286 := Tryz.func111.trans (congrArg some (by kernel_rfl))
  f317 := Tryz.func119.trans (congrArg some (by kernel_rfl))
  f318 := Tryz.func121.trans (congrArg some (by kernel_rfl))
  f319 := Tryz.func122.trans (congrArg some (by kernel_rfl))
  f320 := Tryz.func123.trans (congrArg some (by kernel_rfl))
  f337 := Tryz.func126.trans (congrArg some (by kernel_rfl))
  f338 := Tryz.func127.trans (congrArg some (by kernel_rfl))
  t0 := Tryz.underlying0
  a0 := Tryz.isAgg0
  z0 := Tryz.sizeOf0
  v0 := Tryz.zeroValue0
  t2 := Tryz.underlying2
  a2 := Tryz.isAgg2
  z2 := Tryz.sizeOf2
  v2 := Tryz.zeroValue2
  t3 := Tryz.underlying3
  a3 := Tryz.isAgg3
  z3 := Tryz.sizeOf3
  v3 := Tryz.zeroValue3
  t4 := Tryz.underlying4
  a4 := Tryz.isAgg4
  z4 := Tryz.sizeOf4
  v4 := Tryz.zeroValue4
  t5 := Tryz.underlying5
  a5 := Tryz.isAgg5
  z5 := Tryz.sizeOf5
  v5 := Tryz.zeroValue5
  t9 := Tryz.underlying9
  a9 := Tryz.isAgg9
  z9 := Tryz.sizeOf9
  v9 := Tryz.zeroValue9
  t20 := Tryz.underlying20
  a20 := Tryz.isAgg20
  z20 := Tryz.sizeOf20
  v20 := Tryz.zeroValue20
  t37 := Tryz.underlying90
  a37 := Tryz.isAgg90
  z37 := Tryz.sizeOf90
  v37 := Tryz.zeroValue90
  t46 := Tryz.underlying129
  a46 := Tryz.isAgg129
  z46 := Tryz.sizeOf129
  v46 := Tryz.zeroValue129
  t51 := Tryz.underlying149
  a51 := Tryz.isAgg149
  z51 := Tryz.sizeOf149
  v51 := Tryz.zeroValue149
  t53 := Tryz.underlying126
  a53 := Tryz.isAgg126
  z53 := Tryz.sizeOf126
  v53 := Tryz.zeroValue126
  t171 := Tryz.underlying137
  a171 := Tryz.isAgg137
  z171 := Tryz.sizeOf137
  v171 := Tryz.zeroValue137
  t173 := Tryz.underlying140
  a173 := Tryz.isAgg140
  z173 := Tryz.sizeOf140
  v173 := Tryz.zeroValue140
  t212 := Tryz.underlying148
  a212 := Tryz.isAgg148
  z212 := Tryz.sizeOf148
  v212 := Tryz.zeroValue148
  t213 := Tryz.underlying150
  a213 := Tryz.isAgg150
  z213 := Tryz.sizeOf150
  t232 := Tryz.underlying156
  a232 := Tryz.isAgg156
  z232 := Tryz.sizeOf156
  v232 := Tryz.zeroValue156
  t233 := Tryz.underlying157
  a233 := Tryz.isAgg157
  z233 := Tryz.sizeOf157
  v233 := Tryz.zeroValue157
  g17 := by kernel_rfl
  g18 := by kernel_rfl
  g19 := by kernel_rfl
  i0 := by kernel_rfl
  i2 := by kernel_rfl
  i3 := by kernel_rfl
  i4 := by kernel_rfl
  i5 := by kernel_rfl
  i9 := by kernel_rfl
  i20 := by kernel_rfl
  i37 := by kernel_rfl
  i46 := by kernel_rfl
  i51 := by kernel_rfl
  i53 := by kernel_rfl
  i171 := by kernel_rfl
  i173 := by kernel_rfl
  i212 := by kernel_rfl
  i232 := by kernel_rfl
  i233 := by kernel_rfl
  m17 := by kernel_rfl
  m18 := by kernel_rfl
  m19 := by kernel_rfl }
open Go.RowKit Go.Sort Go.Lib in
theorem Tryz.strconv_FormatInt_10 (n : Int) (h0 : -9223372036854775808 ≤ n) (h1 : n ≤ 9223372036854775807) (w : World) (htab : Lib.TabIs Tryz.prog w "internal/strconv.uint64pow10" .u64 Lib.pow10Tab) :
    Calls Tryz.prog 78 #[.int .i64 n, .int .i64 10] w fun e w' => e = .returned (.string ⟨(Lib.itoa n).toArray⟩) ∧ ∃ k os, w' = grow (w.drewN k) os := Any.strconv_FormatInt_10 Tryz.laysM173 n h0 h1 w htab
def Tryz.lays173_ren : Go.Shelf.Ren := ⟨fun | 173 => 78 | 246 => 99 | 283 => 108 | 284 => 109 | 285 => 110 | 286 => 111 | 129 => 120 | 317 => 119 | 318 => 121 | 319 => 122 | 320 => 123 | 337 => 126 | 338 => 127 | n => n, fun | 2 => 2 | 3 => 3 | 9 => 9 | 4 => 4 | 171 => 137 | 0 => 0 | 53 => 126 | 37 => 90 | 5 => 5 | 173 => 140 | 212 => 148 | 51 => 149 | 20 => 20 | 213 => 150 | 46 => 129 | 232 => 156 | 233 => 157 | n => n, fun | 17 => 5 | 18 => 6 | 19 => 7 | n => n⟩
theorem Tryz.lays173 : Go.Proofs.Lays.n173 Tryz.prog Tryz.lays173_ren := {
  mixed := by kernel_rfl
  f129 := Tryz.func120.trans (congrArg some (by kernel_rfl))
  f173 := Tryz.func78.trans (congrArg some (by kernel_rfl))
  f246 := Tryz.func99.trans (congrArg some (by kernel_rfl))
  f283 := Tryz.func108.trans (congrArg some (by kernel_rfl))
  f284 := Tryz.func109.trans (congrArg some (by kernel_rfl))
  f285 := Tryz.func110.trans (congrArg some (by kernel_rfl))
  f286 := Tryz.func111.trans (congrArg some (by kernel_rfl))
  f317 := Tryz.func119.trans (congrArg some (by kernel_rfl))
  f318 := Tryz.func121.trans (congrArg some (by kernel_rfl))
  f319 := Tryz.func122.trans (congrArg some (by kernel_rfl))
  f320 := Tryz.func123.trans (congrArg some (by kernel_rfl))
  f337 := Tryz.func126.trans (congrArg some (by kernel_rfl))
  f338 := Tryz.func127.trans (congrArg some (by kernel_rfl))
  t0 := Tryz.underlying0
  a0 := Tryz.isAgg0
  z0 := Tryz.sizeOf0
  v0 := Tryz.zeroValue0
  t2 := Tryz.underlying2
  a2 := Tryz.isAgg2
  z2 := Tryz.sizeOf2
  v2 := Tryz.zeroValue2
  t3 := Tryz.underlying3
  a3 := Tryz.isAgg3
  z3 := Tryz.sizeOf3
  v3 := Tryz.zeroValue3
  t4 := Tryz.underlying4
  a4 := Tryz.isAgg4
  z4 := Tryz.sizeOf4
  v4 := Tryz.zeroValue4
  t5 := Tryz.underlying5
  a5 := Tryz.isAgg5
  z5 := Tryz.sizeOf5
  v5 := Tryz.zeroValue5
  t9 := Tryz.underlying9
  a9 := Tryz.isAgg9
  z9 := Tryz.sizeOf9
  v9 := Tryz.zeroValue9
  t20 := Tryz.underlying20
  a20 := Tryz.isAgg20
  z20 := Tryz.sizeOf20
  v20 := Tryz.zeroValue20
  t37 := Tryz.underlying90
  a37 := Tryz.isAgg90
  z37 := Tryz.sizeOf90
  v37 := Tryz.zeroValue90
  t46 := Tryz.underlying129
  a46 := Tryz.isAgg129
  z46 := Tryz.sizeOf129
  v46 := Tryz.zeroValue129
  t51 := Tryz.underlying149
  a51 := Tryz.isAgg149
  z51 := Tryz.sizeOf149
  v51 := Tryz.zeroValue149
  t53 := Tryz.underlying126
  a53 := Tryz.isAgg126
  z53 := Tryz.sizeOf126
  v53 := Tryz.zeroValue126
  t171 := Tryz.underlying137
  a171 := Tryz.isAgg137
  z171 := Tryz.sizeOf137
  v171 := Tryz.zeroValue137
  t173 := Tryz.underlying140
  a173 := Tryz.isAgg140
  z173 := Tryz.sizeOf140
  v173 := Tryz.zeroValue140
  t212 := Tryz.underlying148
  a212 := Tryz.isAgg148
  z212 := Tryz.sizeOf148
  v212 := Tryz.zeroValue148
  t213 := Tryz.underlying150
  a213 := Tryz.isAgg150
  z213 := Tryz.sizeOf150
  t232 := Tryz.underlying156
  a232 := Tryz.isAgg156
  z232 := Tryz.sizeOf156
  v232 := Tryz.zeroValue156
  t233 := Tryz.underlying157
  a233 := Tryz.isAgg157
  z233 := Tryz.sizeOf157
  v233 := Tryz.zeroValue157
  g17 := by kernel_rfl
  g18 := by kernel_rfl
  g19 := by kernel_rfl }
open Go.RowKit Go.Sort Go.Lib in
theorem Tryz.strconv_FormatInt_10_small (i : Nat) (hi : i < 100) (w : World) :
    Calls Tryz.prog 78 #[.int .i64 i, .int .i64 10] w fun e w' => e = .returned (.string ⟨(Lib.decDigits i).toArray⟩) ∧ w' = w := Any.strconv_FormatInt_10_small Tryz.lays173 i hi w
def Tryz.laysM316_ren : Go.Shelf.Ren := ⟨fun | 316 => 95 | n => n, fun | 9 => 9 | 3 => 3 | 4 => 4 | 37 => 90 | 0 => 0 | 127 => 111 | 5 => 5 | n => n, fun | n => n⟩
theorem Tryz.laysM316 : Go.Proofs.LaysM.n316 Tryz.prog Tryz.laysM316_ren := {
  mixed := by kernel_rfl
  f316 := Tryz.func95.trans (congrArg some (by kernel_rfl))
  t0 := Tryz.underlying0
  a0 := Tryz.isAgg0
  z0 := Tryz.sizeOf0
  v0 := Tryz.zeroValue0
  t3 := Tryz.underlying3
  a3 := Tryz.isAgg3
  z3 := Tryz.sizeOf3
  v3 := Tryz.zeroValue3
  t4 := Tryz.underlying4
  a4 := Tryz.isAgg4
  z4 := Tryz.sizeOf4
  v4 := Tryz.zeroValue4
  t9 := Tryz.underlying9
  a9 := Tryz.isAgg9
  z9 := Tryz.sizeOf9
  v9 := Tryz.zeroValue9
  t37 := Tryz.underlying90
  a37 := Tryz.isAgg90
  z37 := Tryz.sizeOf90
  v37 := Tryz.zeroValue90
  t127 := Tryz.underlying111
  a127 := Tryz.isAgg111
  z127 := Tryz.sizeOf111
  v127 := Tryz.zeroValue111
  t5 := Tryz.underlying5
  a5 := Tryz.isAgg5
  z5 := Tryz.sizeOf5
  v5 := Tryz.zeroValue5
  i0 := by kernel_rfl
  i3 := by kernel_rfl
  i4 := by kernel_rfl
  i5 := by kernel_rfl
  i9 := by kernel_rfl
  i37 := by kernel_rfl
  i127 := by kernel_rfl }
open Go.RowKit in
theorem Tryz.stringslite_Clone (s : ByteArray) (w : World) (hlim : s.size ≤ 281474976710656) :
    Calls Tryz.prog 95 #[.string s] w fun e w' => e = .returned (.string s) ∧ Below w.heap.size w w' := Any.stringslite_Clone Tryz.laysM316 s w hlim
def Tryz.laysC174_ren : Go.Shelf.Ren := ⟨fun | 174 => 70 | 247 => 81 | 245 => 82 | 287 => 100 | 279 => 101 | 280 => 102 | 281 => 103 | 282 => 104 | 321 => 112 | 322 => 113 | 316 => 95 | 171 => 115 | 205 => 114 | 243 => 124 | 246 => 99 | 283 => 108 | 284 => 109 | 285 => 110 | 286 => 111 | 129 => 120 | 317 => 119 | 318 => 121 | 319 => 122 | 320 => 123 | 337 => 126 | 338 => 127 | n => n, fun | 9 => 9 | 3 => 3 | 2 => 2 | 75 => 95 | 85 => 112 | 4 => 4 | 167 => 125 | 5 => 5 | 53 => 126 | 175 => 127 | 46 => 129 | 168 => 130 | 37 => 90 | 0 => 0 | 210 => 144 | 21 => 21 | 127 => 111 | 145 => 154 | 143 => 152 | 171 => 137 | 173 => 140 | 212 => 148 | 51 => 149 | 20 => 20 | 213 => 150 | 232 => 156 | 233 => 157 | 80 => 98 | n => n, fun | 15 => 3 | 16 => 4 | 17 => 5 | 18 => 6 | 19 => 7 | n => n⟩
theorem Tryz.laysC174 : Go.Proofs.LaysC.n174 Tryz.prog Tryz.laysC174_ren := {
  mixed := by kernel_rfl
  f129 := Tryz.func120.trans (congrArg some (by kernel_rfl))
  f171 := Tryz.func115.trans (congrArg some (by kernel_rfl))
  f174 := Tryz.func70.trans (congrArg some (by kernel_rfl))
  f205 := Tryz.func114.trans (congrArg some (by kernel_rfl))
  f243 := Tryz.func124.trans (congrArg some (by kernel_rfl))
  f245 := Tryz.func82.trans (congrArg some (by kernel_rfl))
  f246 := Tryz.func99.trans (congrArg some (by kernel_rfl))
  f247 := Tryz.func81.trans (congrArg some (by kernel_rfl))
  f279 := Tryz.func101.trans (congrArg some (by kernel_rfl))
  f280 := Tryz.func102.trans (congrArg some (by kernel_rfl))
  f281 := Tryz.func103.trans (congrArg some (by kernel_rfl))
  f282 := Tryz.func104.trans (congrArg some (by kernel_rfl))
  f283 := Tryz.func108.trans (congrArg some (by kernel_rfl))
  f284 := Tryz.func109.trans (congrArg some (by kernel_rfl))
  f285 := Tryz.func110.trans (congrArg some (by kernel_rfl))
  f286 := Tryz.func111.trans (congrArg some (by kernel_rfl))
  f287 := Tryz.func100.trans (congrArg some (by kernel_rfl))
  f316 := Tryz.func95.trans (congrArg some (by kernel_rfl))
  f317 := Tryz.func119.trans (congrArg some (by kernel_rfl))
  f318 := Tryz.func121.trans (congrArg some (by kernel_rfl))
  f319 := Tryz.func122.trans (congrArg some (by kernel_rfl))
  f320 := Tryz.func123.trans (congrArg some (by kernel_rfl))
  f321 := Tryz.func112.trans (congrArg some (by kernel_rfl))
  f322 := Tryz.func113.trans (congrArg some (by kernel_rfl))
  f337 := Tryz.func126.trans (congrArg some (by kernel_rfl))
  f338 := Tryz.func127.trans (congrArg some (by kernel_rfl))
  t0 := Tryz.underlying0
  a0 := Tryz.isAgg0
  z0 := Tryz.sizeOf0
  v0 := Tryz.zeroValue0
  t2 := Tryz.underlying2
  a2 := Tryz.isAgg2
  z2 := Tryz.sizeOf2
  v2 := Tryz.zeroValue2
  t3 := Tryz.underlying3
  a3 := Tryz.isAgg3
  z3 := Tryz.sizeOf3
  v3 := Tryz.zeroValue3
  t4 := Tryz.underlying4
  a4 := Tryz.isAgg4
  z4 := Tryz.sizeOf4
  v4 := Tryz.zeroValue4
  t5 := Tryz.underlying5
  a5 := Tryz.isAgg5
  z5 := Tryz.sizeOf5
  v5 := Tryz.zeroValue5
  t9 := Tryz.underlying9
  a9 := Tryz.isAgg9
  z9 := Tryz.sizeOf9
  v9 := Tryz.zeroValue9
  t20 := Tryz.underlying20
  a20 := Tryz.isAgg20
  z20 := Tryz.sizeOf20
  v20 := Tryz.zeroValue20
  t21 := Tryz.underlying21
  a21 := Tryz.isAgg21
  z21 := Tryz.sizeOf21
  v21 := Tryz.zeroValue21
  t37 := Tryz.underlying90
  a37 := Tryz.isAgg90
  z37 := Tryz.sizeOf90
  v37 := Tryz.zeroValue90
  t46 := Tryz.underlying129
  a46 := Tryz.isAgg129
  z46 := Tryz.sizeOf129
  v46 := Tryz.zeroValue129
  t51 := Tryz.underlying149
  a51 := Tryz.isAgg149
  z51 := Tryz.sizeOf149
  v51 := Tryz.zeroValue149
  t53 := Tryz.underlying126
  a53 := Tryz.isAgg126
  z53 := Tryz.sizeOf126
  v53 := Tryz.zeroValue126
  t75 := Tryz.underlying95
  a75 := Tryz.isAgg95
  z75 := Tryz.sizeOf95
  v75 := Tryz.zeroValue95
  t85 := Tryz.underlying112
  a85 := Tryz.isAgg112
  z85 := Tryz.sizeOf112
  v85 := Tryz.zeroValue112
  t127 := Tryz.underlying111
  a127 := Tryz.isAgg111
  z127 := Tryz.sizeOf111
  v127 := Tryz.zeroValue111
  t143 := Tryz.underlying152
  a143 := Tryz.isAgg152
  z143 := Tryz.sizeOf152
  v143 := Tryz.zeroValue152
  t145 := Tryz.underlying154
  a145 := Tryz.isAgg154
  z145 := Tryz.sizeOf154
  v145 := Tryz.zeroValue154
  t167 := Tryz.underlying125
  a167 := Tryz.isAgg125
  z167 := Tryz.sizeOf125
  v167 := Tryz.zeroValue125
  t168 := Tryz.underlying130
  a168 := Tryz.isAgg130
  z168 := Tryz.sizeOf130
  v168 := Tryz.zeroValue130
  t171 := Tryz.underlying137
  a171 := Tryz.isAgg137
  z171 := Tryz.sizeOf137
  v171 := Tryz.zeroValue137
  t173 := Tryz.underlying140
  a173 := Tryz.isAgg140
  z173 := Tryz.sizeOf140
  v173 := Tryz.zeroValue140
  t175 := Tryz.underlying127
  a175 := Tryz.isAgg127
  z175 := Tryz.sizeOf127
  v175 := Tryz.zeroValue127
  t210 := Tryz.underlying144
  a210 := Tryz.isAgg144
  z210 := Tryz.sizeOf144
  v210 := Tryz.zeroValue144
  t212 := Tryz.underlying148
  a212 := Tryz.isAgg148
  z212 := Tryz.sizeOf148
  v212 := Tryz.zeroValue148
  t213 := Tryz.underlying150
  a213 := Tryz.isAgg150
  z213 := Tryz.sizeOf150
  t232 := Tryz.underlying156
  a232 := Tryz.isAgg156
  z232 := Tryz.sizeOf156
  v232 := Tryz.zeroValue156
  t233 := Tryz.underlying157
  a233 := Tryz.isAgg157
  z233 := Tryz.sizeOf157
  v233 := Tryz.zeroValue157
  g15 := by kernel_rfl
  g16 := by kernel_rfl
  g17 := by kernel_rfl
  g18 := by kernel_rfl
  g19 := by kernel_rfl
  t80 := Tryz.underlying98
  a80 := Tryz.isAgg98
  z80 := Tryz.sizeOf98
  v80 := Tryz.zeroValue98
  i0 := by kernel_rfl
  i2 := by kernel_rfl
  i3 := by kernel_rfl
  i4 := by kernel_rfl
  i5 := by kernel_rfl
  i9 := by kernel_rfl
  i20 := by kernel_rfl
  i21 := by kernel_rfl
  i37 := by kernel_rfl
  i46 := by kernel_rfl
  i51 := by kernel_rfl
  i53 := by kernel_rfl
  i75 := by kernel_rfl
  i80 := by kernel_rfl
  i85 := by kernel_rfl
  i127 := by kernel_rfl
  i143 := by kernel_rfl
  i145 := by kernel_rfl
  i167 := by kernel_rfl
  i168 := by kernel_rfl
  i171 := by kernel_rfl
  i173 := by kernel_rfl
  i175 := by kernel_rfl
  i210 := by kernel_rfl
  i212 := by kernel_rfl
  i232 := by kernel_rfl
  i233 := by kernel_rfl
  m15 := by kernel_rfl
  m16 := by kernel_rfl
  m17 := by kernel_rfl
  m18 := by kernel_rfl
  m19 := by kernel_rfl
  c0 := by kernel_rfl
  c2 := by kernel_rfl
  c3 := by kernel_rfl
  c4 := by kernel_rfl
  c5 := by kernel_rfl
  c9 := by kernel_rfl
  c20 := by kernel_rfl
  c21 := by kernel_rfl
  c37 := by kernel_rfl
  c46 := by kernel_rfl
  c51 := by kernel_rfl
  c53 := by kernel_rfl
  c75 := by kernel_rfl
  c80 := by kernel_rfl
  c85 := by kernel_rfl
  c127 := by kernel_rfl
  c143 := by kernel_rfl
  c145 := by kernel_rfl
  c167 := by kernel_rfl
  c168 := by kernel_rfl
  c171 := by kernel_rfl
  c173 := by kernel_rfl
  c175 := by kernel_rfl
  c210 := by kernel_rfl
  c212 := by kernel_rfl
  c213 := by kernel_rfl
  c232 := by kernel_rfl
  c233 := by kernel_rfl }
open Go.RowKit in
theorem Tryz.strconv_ParseInt_10_at64_ok (s : ByteArray) (hmax : s.size ≤ 9223372036854775806) (v : Int) (h : Lib.parseIntB 64 s.data.toList = .ok v) (w : World) :
    Calls Tryz.prog 70 #[.string s, .int .i64 10, .int .i64 64] w fun e w' => e = .returned (.tuple #[.int .i64 v, .nilIface]) ∧ (w' = w ∨ ∃ t, w' = Lib.bytesWorld w 5 t) := Any.strconv_ParseInt_10_at64_ok Tryz.laysC174 s hmax v h w
def Tryz.lays99_ren : Go.Shelf.Ren := ⟨fun | 99 => 107 | 206 => 118 | n => n, fun | 9 => 9 | 4 => 4 | 3 => 3 | n => n, fun | n => n⟩
theorem Tryz.lays99 : Go.Proofs.Lays.n99 Tryz.prog Tryz.lays99_ren := {
  mixed := by kernel_rfl
  f99 := Tryz.func107.trans (congrArg some (by kernel_rfl))
  f206 := Tryz.func118.trans (congrArg some (by kernel_rfl))
  t3 := Tryz.underlying3
  a3 := Tryz.isAgg3
  z3 := Tryz.sizeOf3
  v3 := Tryz.zeroValue3
  t4 := Tryz.underlying4
  a4 := Tryz.isAgg4
  z4 := Tryz.sizeOf4
  v4 := Tryz.zeroValue4
  t9 := Tryz.underlying9
  a9 := Tryz.isAgg9
  z9 := Tryz.sizeOf9
  v9 := Tryz.zeroValue9 }
open Go.RowKit Go.Lib in
theorem Tryz.strings_HasPrefix (s p : ByteArray) (w : World) :
    Calls Tryz.prog 107 #[.string s, .string p] w fun e w' => e = .returned (.bool (Lib.hasPrefix s.data.toList p.data.toList)) ∧ w' = w := Any.strings_HasPrefix Tryz.lays99 s p w
def Tryz.lays101_ren : Go.Shelf.Ren := ⟨fun | 101 => 106 | 208 => 117 | 206 => 118 | n => n, fun | 9 => 9 | 4 => 4 | 3 => 3 | n => n, fun | n => n⟩
theorem Tryz.lays101 : Go.Proofs.Lays.n101 Tryz.prog Tryz.lays101_ren := {
  mixed := by kernel_rfl
  f101 := Tryz.func106.trans (congrArg some (by kernel_rfl))
  f206 := Tryz.func118.trans (congrArg some (by kernel_rfl))
  f208 := Tryz.func117.trans (congrArg some (by kernel_rfl))
  t3 := Tryz.underlying3
  a3 := Tryz.isAgg3
  z3 := Tryz.sizeOf3
  v3 := Tryz.zeroValue3
  t4 := Tryz.underlying4
  a4 := Tryz.isAgg4
  z4 := Tryz.sizeOf4
  v4 := Tryz.zeroValue4
  t9 := Tryz.underlying9
  a9 := Tryz.isAgg9
  z9 := Tryz.sizeOf9
  v9 := Tryz.zeroValue9 }
open Go.RowKit Go.Lib in
theorem Tryz.strings_TrimPrefix (s p : ByteArray) (w : World) :
    Calls Tryz.prog 106 #[.string s, .string p] w fun e w' => e = .returned (.string ⟨(Lib.trimPrefix s.data.toList p.data.toList).toArray⟩) ∧ w' = w := Any.strings_TrimPrefix Tryz.lays101 s p w
end Go.Proofs.YtcfhpodpkficaaaGreatDoor
namespace Go.Proofs.YtcfhpodpkficaaaGreatDoor.Lx
open Go.RowKit

/-- A text's bytes; the byte at a place, as a number. -/
abbrev bs (s : ByteArray) : List UInt8 := s.data.toList
def bt (s : ByteArray) (j : Nat) : Nat := ((bs s).getD j 0).toNat
theorem bt_lt (s : ByteArray) (j : Nat) : bt s j < 256 := UInt8.toNat_lt _
theorem bs_length (s : ByteArray) : (bs s).length = s.size := rfl
theorem bt_at (s : ByteArray) (j : Nat) (h : j < s.size) : (s[j]'h).toNat = bt s j := by
  unfold bt bs
  rw [List.getD, Array.getElem?_toList, Array.getElem?_eq_getElem (show j < s.data.size from h)]
  rfl

theorem ret_bool {a b : Bool} (h : a = b) : Ending.returned (.bool a) = Ending.returned (.bool b) := by rw [h]
theorem ret_int {a b : Int} (h : a = b) : Ending.returned (.int .i64 a) = Ending.returned (.int .i64 b) := by rw [h]

theorem isSmall_any (n : Nat) (w : World) :
    Calls Tryz.prog 87 #[.int .u8 (n : Int)] w fun e w' => e = .returned (.bool (smallN n)) ∧ w' = w := by
  go_enter Tryz.func87, Tryz.ntmps87
  go_wp2
  all_goals (go_ret; refine ⟨ret_bool ?_, rfl⟩; unfold smallN; rw [Bool.eq_iff_iff]; simp; omega)

theorem isGreat_any (n : Nat) (w : World) :
    Calls Tryz.prog 90 #[.int .u8 (n : Int)] w fun e w' => e = .returned (.bool (greatN n)) ∧ w' = w := by
  go_enter Tryz.func90, Tryz.ntmps90
  go_wp2
  all_goals (go_ret; refine ⟨ret_bool ?_, rfl⟩; unfold greatN; rw [Bool.eq_iff_iff]; simp; omega)

theorem isDigit_any (n : Nat) (w : World) :
    Calls Tryz.prog 92 #[.int .u8 (n : Int)] w fun e w' => e = .returned (.bool (digitN n)) ∧ w' = w := by
  go_enter Tryz.func92, Tryz.ntmps92
  go_wp2
  all_goals (go_ret; refine ⟨ret_bool ?_, rfl⟩; unfold digitN; rw [Bool.eq_iff_iff]; simp; omega)

theorem rsmall_any (n : Nat) (w : World) :
    Calls Tryz.prog 59 #[.int .u8 (n : Int)] w fun e w' => e = .returned (.bool (smallN n)) ∧ w' = w := by
  go_enter Tryz.func59, Tryz.ntmps59
  go_wp2
  all_goals (go_ret; refine ⟨ret_bool ?_, rfl⟩; unfold smallN; rw [Bool.eq_iff_iff]; simp; omega)

theorem rgreat_any (n : Nat) (w : World) :
    Calls Tryz.prog 61 #[.int .u8 (n : Int)] w fun e w' => e = .returned (.bool (greatN n)) ∧ w' = w := by
  go_enter Tryz.func61, Tryz.ntmps61
  go_wp2
  all_goals (go_ret; refine ⟨ret_bool ?_, rfl⟩; unfold greatN; rw [Bool.eq_iff_iff]; simp; omega)

theorem rdigit_any (n : Nat) (w : World) :
    Calls Tryz.prog 60 #[.int .u8 (n : Int)] w fun e w' => e = .returned (.bool (digitN n)) ∧ w' = w := by
  go_enter Tryz.func60, Tryz.ntmps60
  go_wp2
  all_goals (go_ret; refine ⟨ret_bool ?_, rfl⟩; unfold digitN; rw [Bool.eq_iff_iff]; simp; omega)

theorem isBlank_any (n : Nat) (w : World) :
    Calls Tryz.prog 85 #[.int .u8 (n : Int)] w fun e w' => e = .returned (.bool (blankN n)) ∧ w' = w := by
  by_cases h1 : n = 32
  · subst h1
    go_enter Tryz.func85, Tryz.ntmps85
    go_wp2
    go_ret
    exact ⟨rfl, rfl⟩
  · by_cases h2 : n = 9
    · subst h2
      go_enter Tryz.func85, Tryz.ntmps85
      go_wp2
      go_ret
      exact ⟨rfl, rfl⟩
    · by_cases h3 : n = 10
      · subst h3
        go_enter Tryz.func85, Tryz.ntmps85
        go_wp2
        go_ret
        exact ⟨rfl, rfl⟩
      · have g1 : ((n : Int) == 32) = false := by simp; omega
        have g2 : ((n : Int) == 9) = false := by simp; omega
        have g3 : ((n : Int) == 10) = false := by simp; omega
        go_enter Tryz.func85, Tryz.ntmps85
        go_wp2
        all_goals (go_ret; refine ⟨ret_bool ?_, rfl⟩; unfold blankN; rw [Bool.eq_iff_iff]; simp; omega)

theorem inName_any (n : Nat) (w : World) :
    Calls Tryz.prog 89 #[.int .u8 (n : Int)] w fun e w' => e = .returned (.bool (nameN n)) ∧ w' = w := by
  cases h1 : smallN n <;> cases h2 : digitN n
  all_goals (go_enter Tryz.func89, Tryz.ntmps89)
  all_goals (go_wp2_with (first
    | (go_at_call 87; refine (isSmall_any _ _).mono ?_; rintro e w' ⟨rfl, hw⟩; have hw' := hw.symm; subst hw'; clear hw; rw [h1])
    | (go_at_call 92; refine (isDigit_any _ _).mono ?_; rintro e w' ⟨rfl, hw⟩; have hw' := hw.symm; subst hw'; clear hw; rw [h2])))
  all_goals (go_ret; refine ⟨ret_bool ?_, rfl⟩; simp [nameN, h1, h2])
  all_goals (rw [Bool.eq_iff_iff]; simp; omega)

theorem inVar_any (n : Nat) (w : World) :
    Calls Tryz.prog 91 #[.int .u8 (n : Int)] w fun e w' => e = .returned (.bool (varN n)) ∧ w' = w := by
  cases h1 : nameN n
  all_goals (go_enter Tryz.func91, Tryz.ntmps91)
  all_goals (go_wp2_with (first
    | (go_at_call 89; refine (inName_any _ _).mono ?_; rintro e w' ⟨rfl, hw⟩; have hw' := hw.symm; subst hw'; clear hw; rw [h1])
    | (go_at_call 90; refine (isGreat_any _ _).mono ?_; rintro e w' ⟨rfl, hw⟩; have hw' := hw.symm; subst hw'; clear hw)))
  all_goals (go_ret; refine ⟨ret_bool ?_, rfl⟩; simp [varN, h1])

/-- What a function of one byte that is handed in gives. -/
def Good (f : FuncId) (p : Nat → Bool) : Prop := ∀ (n : Nat) (w : World), Calls Tryz.prog f #[.int .u8 (n : Int)] w fun e w' => e = .returned (.bool (p n)) ∧ w' = w

set_option maxHeartbeats 1000000 in
theorem run_any (f : FuncId) (p : Nat → Bool) (hf : Good f p) (he : Go.Proofs.Enters Tryz.prog f) (s : ByteArray) (w : World) (hs : s.size ≤ 4611686018427387904) :
    Calls Tryz.prog 88 #[.string s, .func (.func f) #[] #[]] w fun e w' => e = .returned (.int .i64 ((runP p (bs s) : Nat) : Int)) ∧ w' = w := by
  have he' : ∀ (args : Array Value) (w : World), (callFunc f args).run Tryz.prog w = .ok (.enter f args) w := he
  go_enter Tryz.func88, Tryz.ntmps88
  go_wp2
  go_loopw [8] (fun i wr => ∃ k : Nat, k ≤ s.size ∧ i = .int .i64 k ∧ Hid (∀ j, j < k → p (bt s j) = true) ∧ wr = w) (fun i _ => s.size - (intOf i).toNat)
  case atStart => exact ⟨0, Nat.zero_le _, rfl, fun j h => absurd h (Nat.not_lt_zero _), rfl⟩
  case round =>
    obtain ⟨k, hk, rfl, hh, hw⟩ := hrel
    have hw' := hw.symm
    subst hw'
    by_cases hlt : k < s.size
    · have bk := bt_at s k hlt
      cases hp : p (bt s k)
      all_goals (go_wp2_with (go_at_fn f; refine (hf _ _).mono ?_; rintro e w' ⟨rfl, hw⟩; have hw' := hw.symm; subst hw'; clear hw; rw [hp]))
      · go_ret
        exact ⟨ret_int (by rw [runP_eq p (bs s) k hk hh.out (Or.inr hp)]), rfl⟩
      · go_roundw
        case rel =>
          refine ⟨k + 1, by omega, by go_num, fun j hj => ?_, trivial⟩
          by_cases e : j < k
          · exact hh.out j e
          · have : j = k := by omega
            rw [this]; exact hp
        case measure => simp [intOf]; omega
    · have hke : k = s.size := by omega
      subst hke
      go_wp2
      go_ret
      exact ⟨ret_int (by rw [runP_eq p (bs s) s.size (Nat.le_refl _) hh.out (Or.inl rfl)]), rfl⟩

theorem enters18 : Go.Proofs.Enters Tryz.prog 89 := Go.Proofs.enters_of Tryz.func89 (by kernel_rfl) rfl
theorem enters20 : Go.Proofs.Enters Tryz.prog 91 := Go.Proofs.enters_of Tryz.func91 (by kernel_rfl) rfl
theorem enters21 : Go.Proofs.Enters Tryz.prog 92 := Go.Proofs.enters_of Tryz.func92 (by kernel_rfl) rfl

theorem indexByte_line (L : List UInt8) : (Lib.indexByte L 10 = -1 ∧ lineL L = L.length) ∨ (0 ≤ Lib.indexByte L 10 ∧ Lib.indexByte L 10 = (lineL L : Int)) := by
  induction L with
  | nil => left; exact ⟨rfl, rfl⟩
  | cons c t ih =>
    by_cases h : c = 10
    · subst h
      right
      exact ⟨by simp [Lib.indexByte], by simp [Lib.indexByte, lineL, runP]⟩
    · have hn : ¬ c.toNat = 10 := fun e => h (UInt8.toNat_inj.1 (by rw [e]; rfl))
      have e1 : lineL (c :: t) = lineL t + 1 := by simp [lineL, runP, hn]
      have e2 : Lib.indexByte (c :: t) 10 = if Lib.indexByte t 10 == -1 then -1 else Lib.indexByte t 10 + 1 := by simp [Lib.indexByte, h]
      rw [e1, e2]
      rcases ih with ⟨a, b⟩ | ⟨a, b⟩
      · left; rw [a, b]; exact ⟨rfl, by simp⟩
      · right
        have : (Lib.indexByte t 10 == -1) = false := by simp; omega
        rw [this]
        exact ⟨by simp; omega, by simp; omega⟩

theorem lineSize_any (s : ByteArray) (w : World) (_hs : s.size ≤ 4611686018427387904) :
    Calls Tryz.prog 86 #[.string s] w fun e w' => e = .returned (.int .i64 ((lineL (bs s) : Nat) : Int)) ∧ w' = w := by
  rcases indexByte_line (bs s) with ⟨h1, h2⟩ | ⟨h1, h2⟩
  · go_enter Tryz.func86, Tryz.ntmps86
    go_wp2_with (go_at_call 105; refine (Tryz.strings_IndexByte _ _ _).mono ?_; rintro e w' ⟨rfl, hw⟩; have hw' := hw.symm; subst hw'; clear hw; rw [show Lib.indexByte (Array.toList s.data) (10 : Int).toNat.toUInt8 = -1 from h1])
    go_ret
    exact ⟨ret_int (by rw [h2]; rfl), rfl⟩
  · have hl : lineL (bs s) ≤ s.size := runP_le _ _
    go_enter Tryz.func86, Tryz.ntmps86
    go_wp2_with (go_at_call 105; refine (Tryz.strings_IndexByte _ _ _).mono ?_; rintro e w' ⟨rfl, hw⟩; have hw' := hw.symm; subst hw'; clear hw; rw [show Lib.indexByte (Array.toList s.data) (10 : Int).toNat.toUInt8 = (lineL (bs s) : Int) from h2])
    go_ret
    exact ⟨rfl, rfl⟩

end Go.Proofs.YtcfhpodpkficaaaGreatDoor.Lx
namespace Go.Proofs.YtcfhpodpkficaaaGreatDoor.Lx
open Go.RowKit
set_option maxRecDepth 4000

/-- The table of signs, as it lies in memory. -/
def sg (i : Nat) : ByteArray := ⟨(signsL.getD i []).toArray⟩
def Sg (w : World) : Prop := ∀ i, i < 10 → w.cell? ⟨2, i, none⟩ = some (.string (sg i))
theorem Sg.below {w w' : World} (h : Sg w) (hb : Below w.heap.size w w') : Sg w' := fun i hi =>
  (World.cell?_of_block (w := w) (a := ⟨2, i, none⟩) (hb.block 2 (World.block_lt_of_cell? w ⟨2, i, none⟩ (h i hi)))).trans (h i hi)

theorem pre_sign (L x : List UInt8) : Lib.hasPrefix L x = x.isPrefixOf L := rfl

theorem ix0 (w : World) : (Instr.index 136 (.agg #[.string ⟨#[40]⟩, .string ⟨#[41]⟩, .string ⟨#[44]⟩, .string ⟨#[46]⟩, .string ⟨#[58, 45]⟩, .string ⟨#[33, 61]⟩, .string ⟨#[33]⟩, .string ⟨#[61]⟩, .string ⟨#[60, 61]⟩, .string ⟨#[60]⟩]) (.int .i64 0)).run Tryz.prog w = .ok (.string ⟨#[40]⟩) w := by kernel_rfl
theorem ix1 (w : World) : (Instr.index 136 (.agg #[.string ⟨#[40]⟩, .string ⟨#[41]⟩, .string ⟨#[44]⟩, .string ⟨#[46]⟩, .string ⟨#[58, 45]⟩, .string ⟨#[33, 61]⟩, .string ⟨#[33]⟩, .string ⟨#[61]⟩, .string ⟨#[60, 61]⟩, .string ⟨#[60]⟩]) (.int .i64 1)).run Tryz.prog w = .ok (.string ⟨#[41]⟩) w := by kernel_rfl
theorem ix2 (w : World) : (Instr.index 136 (.agg #[.string ⟨#[40]⟩, .string ⟨#[41]⟩, .string ⟨#[44]⟩, .string ⟨#[46]⟩, .string ⟨#[58, 45]⟩, .string ⟨#[33, 61]⟩, .string ⟨#[33]⟩, .string ⟨#[61]⟩, .string ⟨#[60, 61]⟩, .string ⟨#[60]⟩]) (.int .i64 2)).run Tryz.prog w = .ok (.string ⟨#[44]⟩) w := by kernel_rfl
theorem ix3 (w : World) : (Instr.index 136 (.agg #[.string ⟨#[40]⟩, .string ⟨#[41]⟩, .string ⟨#[44]⟩, .string ⟨#[46]⟩, .string ⟨#[58, 45]⟩, .string ⟨#[33, 61]⟩, .string ⟨#[33]⟩, .string ⟨#[61]⟩, .string ⟨#[60, 61]⟩, .string ⟨#[60]⟩]) (.int .i64 3)).run Tryz.prog w = .ok (.string ⟨#[46]⟩) w := by kernel_rfl
theorem ix4 (w : World) : (Instr.index 136 (.agg #[.string ⟨#[40]⟩, .string ⟨#[41]⟩, .string ⟨#[44]⟩, .string ⟨#[46]⟩, .string ⟨#[58, 45]⟩, .string ⟨#[33, 61]⟩, .string ⟨#[33]⟩, .string ⟨#[61]⟩, .string ⟨#[60, 61]⟩, .string ⟨#[60]⟩]) (.int .i64 4)).run Tryz.prog w = .ok (.string ⟨#[58, 45]⟩) w := by kernel_rfl
theorem ix5 (w : World) : (Instr.index 136 (.agg #[.string ⟨#[40]⟩, .string ⟨#[41]⟩, .string ⟨#[44]⟩, .string ⟨#[46]⟩, .string ⟨#[58, 45]⟩, .string ⟨#[33, 61]⟩, .string ⟨#[33]⟩, .string ⟨#[61]⟩, .string ⟨#[60, 61]⟩, .string ⟨#[60]⟩]) (.int .i64 5)).run Tryz.prog w = .ok (.string ⟨#[33, 61]⟩) w := by kernel_rfl
theorem ix6 (w : World) : (Instr.index 136 (.agg #[.string ⟨#[40]⟩, .string ⟨#[41]⟩, .string ⟨#[44]⟩, .string ⟨#[46]⟩, .string ⟨#[58, 45]⟩, .string ⟨#[33, 61]⟩, .string ⟨#[33]⟩, .string ⟨#[61]⟩, .string ⟨#[60, 61]⟩, .string ⟨#[60]⟩]) (.int .i64 6)).run Tryz.prog w = .ok (.string ⟨#[33]⟩) w := by kernel_rfl
theorem ix7 (w : World) : (Instr.index 136 (.agg #[.string ⟨#[40]⟩, .string ⟨#[41]⟩, .string ⟨#[44]⟩, .string ⟨#[46]⟩, .string ⟨#[58, 45]⟩, .string ⟨#[33, 61]⟩, .string ⟨#[33]⟩, .string ⟨#[61]⟩, .string ⟨#[60, 61]⟩, .string ⟨#[60]⟩]) (.int .i64 7)).run Tryz.prog w = .ok (.string ⟨#[61]⟩) w := by kernel_rfl
theorem ix8 (w : World) : (Instr.index 136 (.agg #[.string ⟨#[40]⟩, .string ⟨#[41]⟩, .string ⟨#[44]⟩, .string ⟨#[46]⟩, .string ⟨#[58, 45]⟩, .string ⟨#[33, 61]⟩, .string ⟨#[33]⟩, .string ⟨#[61]⟩, .string ⟨#[60, 61]⟩, .string ⟨#[60]⟩]) (.int .i64 8)).run Tryz.prog w = .ok (.string ⟨#[60, 61]⟩) w := by kernel_rfl
theorem ix9 (w : World) : (Instr.index 136 (.agg #[.string ⟨#[40]⟩, .string ⟨#[41]⟩, .string ⟨#[44]⟩, .string ⟨#[46]⟩, .string ⟨#[58, 45]⟩, .string ⟨#[33, 61]⟩, .string ⟨#[33]⟩, .string ⟨#[61]⟩, .string ⟨#[60, 61]⟩, .string ⟨#[60]⟩]) (.int .i64 9)).run Tryz.prog w = .ok (.string ⟨#[60]⟩) w := by kernel_rfl

set_option maxHeartbeats 1000000 in
theorem signSize_any (s : ByteArray) (w : World) (h : Sg w) :
    Calls Tryz.prog 94 #[.string s] w fun e w' => e = .returned (.int .i64 ((signL (bs s) : Nat) : Int)) ∧ w' = w := by
  have c0 : w.cell? ⟨2, 0, none⟩ = some (.string ⟨#[40]⟩) := h 0 (by decide)
  have c1 : w.cell? ⟨2, 1, none⟩ = some (.string ⟨#[41]⟩) := h 1 (by decide)
  have c2 : w.cell? ⟨2, 2, none⟩ = some (.string ⟨#[44]⟩) := h 2 (by decide)
  have c3 : w.cell? ⟨2, 3, none⟩ = some (.string ⟨#[46]⟩) := h 3 (by decide)
  have c4 : w.cell? ⟨2, 4, none⟩ = some (.string ⟨#[58, 45]⟩) := h 4 (by decide)
  have c5 : w.cell? ⟨2, 5, none⟩ = some (.string ⟨#[33, 61]⟩) := h 5 (by decide)
  have c6 : w.cell? ⟨2, 6, none⟩ = some (.string ⟨#[33]⟩) := h 6 (by decide)
  have c7 : w.cell? ⟨2, 7, none⟩ = some (.string ⟨#[61]⟩) := h 7 (by decide)
  have c8 : w.cell? ⟨2, 8, none⟩ = some (.string ⟨#[60, 61]⟩) := h 8 (by decide)
  have c9 : w.cell? ⟨2, 9, none⟩ = some (.string ⟨#[60]⟩) := h 9 (by decide)
  go_enter Tryz.func94, Tryz.ntmps94
  go_wp2
  clear c0 c1 c2 c3 c4 c5 c6 c7 c8 c9
  refine wp_loop_rounds 11 ?_
  have i0 := ix0 w
  rw [rounds_succ]
  go_wp2_with (go_at_call 107; refine (Tryz.strings_HasPrefix _ _ _).mono ?_; rintro e w' ⟨rfl, hw⟩; have hw' := hw.symm; subst hw'; clear hw)
  · go_ret
    refine ⟨ret_int ?_, rfl⟩
    simp_all [signL, signsL, signIn, pre_sign]
  clear i0
  have i1 := ix1 w
  rw [rounds_succ]
  go_wp2_with (go_at_call 107; refine (Tryz.strings_HasPrefix _ _ _).mono ?_; rintro e w' ⟨rfl, hw⟩; have hw' := hw.symm; subst hw'; clear hw)
  · go_ret
    refine ⟨ret_int ?_, rfl⟩
    simp_all [signL, signsL, signIn, pre_sign]
  clear i1
  have i2 := ix2 w
  rw [rounds_succ]
  go_wp2_with (go_at_call 107; refine (Tryz.strings_HasPrefix _ _ _).mono ?_; rintro e w' ⟨rfl, hw⟩; have hw' := hw.symm; subst hw'; clear hw)
  · go_ret
    refine ⟨ret_int ?_, rfl⟩
    simp_all [signL, signsL, signIn, pre_sign]
  clear i2
  have i3 := ix3 w
  rw [rounds_succ]
  go_wp2_with (go_at_call 107; refine (Tryz.strings_HasPrefix _ _ _).mono ?_; rintro e w' ⟨rfl, hw⟩; have hw' := hw.symm; subst hw'; clear hw)
  · go_ret
    refine ⟨ret_int ?_, rfl⟩
    simp_all [signL, signsL, signIn, pre_sign]
  clear i3
  have i4 := ix4 w
  rw [rounds_succ]
  go_wp2_with (go_at_call 107; refine (Tryz.strings_HasPrefix _ _ _).mono ?_; rintro e w' ⟨rfl, hw⟩; have hw' := hw.symm; subst hw'; clear hw)
  · go_ret
    refine ⟨ret_int ?_, rfl⟩
    simp_all [signL, signsL, signIn, pre_sign]
  clear i4
  have i5 := ix5 w
  rw [rounds_succ]
  go_wp2_with (go_at_call 107; refine (Tryz.strings_HasPrefix _ _ _).mono ?_; rintro e w' ⟨rfl, hw⟩; have hw' := hw.symm; subst hw'; clear hw)
  · go_ret
    refine ⟨ret_int ?_, rfl⟩
    simp_all [signL, signsL, signIn, pre_sign]
  clear i5
  have i6 := ix6 w
  rw [rounds_succ]
  go_wp2_with (go_at_call 107; refine (Tryz.strings_HasPrefix _ _ _).mono ?_; rintro e w' ⟨rfl, hw⟩; have hw' := hw.symm; subst hw'; clear hw)
  · go_ret
    refine ⟨ret_int ?_, rfl⟩
    simp_all [signL, signsL, signIn, pre_sign]
  clear i6
  have i7 := ix7 w
  rw [rounds_succ]
  go_wp2_with (go_at_call 107; refine (Tryz.strings_HasPrefix _ _ _).mono ?_; rintro e w' ⟨rfl, hw⟩; have hw' := hw.symm; subst hw'; clear hw)
  · go_ret
    refine ⟨ret_int ?_, rfl⟩
    simp_all [signL, signsL, signIn, pre_sign]
  clear i7
  have i8 := ix8 w
  rw [rounds_succ]
  go_wp2_with (go_at_call 107; refine (Tryz.strings_HasPrefix _ _ _).mono ?_; rintro e w' ⟨rfl, hw⟩; have hw' := hw.symm; subst hw'; clear hw)
  · go_ret
    refine ⟨ret_int ?_, rfl⟩
    simp_all [signL, signsL, signIn, pre_sign]
  clear i8
  have i9 := ix9 w
  rw [rounds_succ]
  go_wp2_with (go_at_call 107; refine (Tryz.strings_HasPrefix _ _ _).mono ?_; rintro e w' ⟨rfl, hw⟩; have hw' := hw.symm; subst hw'; clear hw)
  · go_ret
    refine ⟨ret_int ?_, rfl⟩
    simp_all [signL, signsL, signIn, pre_sign]
  clear i9
  rw [rounds_succ]
  go_wp2
  go_ret
  refine ⟨ret_int ?_, rfl⟩
  simp_all [signL, signsL, signIn, pre_sign]

theorem trim_minus (c : UInt8) (t : List UInt8) : Lib.trimPrefix (c :: t) [45] = if c = 45 then t else c :: t := by
  by_cases h : c = 45
  · subst h; simp [Lib.trimPrefix, Lib.hasPrefix, List.isPrefixOf]
  · have : (45 == c) = false := by simpa using fun e => h e.symm
    simp [Lib.trimPrefix, Lib.hasPrefix, List.isPrefixOf, this, h]

theorem num_cut (c : UInt8) (t X : List UInt8) (h1 : ¬ c.toNat = 48) (hX : Lib.trimPrefix (c :: t) [45] = X) :
    (Lib.hasPrefix X [48] = true → numL (c :: t) = 0) ∧ (Lib.hasPrefix X [48] = false → runP digitN X = 0 → numL (c :: t) = 0) ∧
    (Lib.hasPrefix X [48] = false → runP digitN X ≠ 0 → numL (c :: t) = t.length + 1 - X.length + runP digitN X) ∧ X.length ≤ t.length + 1 := by
  rw [trim_minus] at hX
  by_cases h2 : c = 45
  · rw [if_pos h2] at hX
    subst h2 hX
    have hp : ∀ d r, Lib.hasPrefix (d :: r) [48] = true ↔ d.toNat = 48 := fun d r => by
      rw [pre_sign, isPre1]
      simp only [beq_iff_eq]
      exact ⟨fun e => by rw [← e]; rfl, fun e => UInt8.toNat_inj.1 (by rw [e]; rfl)⟩
    match t with
    | [] => exact ⟨fun h => absurd h (by decide), fun _ _ => by decide, fun _ h => absurd rfl h, by simp⟩
    | d :: r =>
      have e : numL (45 :: d :: r) = if d.toNat = 48 then 0 else if digitN d.toNat = true then runP digitN r + 2 else 0 := by simp [numL]
      refine ⟨fun h => ?_, fun h hr => ?_, fun h hr => ?_, by simp⟩
      · rw [e, if_pos ((hp d r).1 h)]
      · rw [e]
        by_cases h4 : digitN d.toNat = true
        · simp [runP, h4] at hr
        · simp [h4]
      · have h3 : ¬ d.toNat = 48 := fun x => by rw [(hp d r).2 x] at h; cases h
        by_cases h4 : digitN d.toNat = true
        · rw [e, if_neg h3, if_pos h4]
          simp [runP, h4]
          omega
        · simp [runP, h4] at hr
  · rw [if_neg h2] at hX
    subst hX
    have h2' : ¬ c.toNat = 45 := fun e => h2 (UInt8.toNat_inj.1 (by rw [e]; rfl))
    have e : numL (c :: t) = runP digitN (c :: t) := by simp only [numL, if_neg h1, if_neg h2']
    refine ⟨fun h => ?_, fun _ hr => by rw [e, hr], fun _ _ => by rw [e]; simp, by simp⟩
    rw [pre_sign, isPre1, beq_iff_eq] at h
    exact absurd (by rw [← h]; rfl) h1

set_option maxHeartbeats 1000000 in
theorem numberSize_any (s : ByteArray) (w : World) (h0 : 0 < s.size) (hs : s.size ≤ 4611686018427387904) :
    Calls Tryz.prog 93 #[.string s] w fun e w' => e = .returned (.int .i64 ((numL (bs s) : Nat) : Int)) ∧ w' = w := by
  have b0 := bt_at s 0 h0
  obtain ⟨c, t, hct⟩ : ∃ c t, Hid (bs s = c :: t) := by
    match h : bs s with
    | [] => have := bs_length s; rw [h] at this; simp at this; omega
    | c :: t => exact ⟨c, t, rfl⟩
  have hb0 : bt s 0 = c.toNat := by simp [bt, hct.out]
  have hlen : t.length + 1 = s.size := by have := bs_length s; rw [hct.out] at this; simpa using this
  rw [hb0] at b0
  clear hb0
  by_cases h1 : c.toNat = 48
  · rw [h1] at b0
    go_enter Tryz.func93, Tryz.ntmps93
    go_wp2
    go_ret
    exact ⟨ret_int (by rw [hct.out]; simp [numL, h1]), rfl⟩
  · have g1 : ((c.toNat : Int) == 48) = false := by simp; omega
    obtain ⟨X, hX⟩ : ∃ X, Hid (Lib.trimPrefix (c :: t) [45] = X) := ⟨_, rfl⟩
    obtain ⟨D, hD⟩ : ∃ D : ByteArray, Hid (({ data := X.toArray } : ByteArray) = D) := ⟨_, rfl⟩
    obtain ⟨n1, n2, n3, n4⟩ := num_cut c t X h1 hX.out
    have hDs : D.size = X.length := by rw [← hD.out]; simp [ByteArray.size]
    have hDb : Hid (bs D = X) := by rw [← hD.out]; rfl
    have N1 : Hid _ := n1
    have N2 : Hid _ := n2
    have N3 : Hid _ := n3
    clear n1 n2 n3
    obtain ⟨r, hr⟩ : ∃ r, Hid (runP digitN X = r) := ⟨_, rfl⟩
    have hrl : r ≤ X.length := by rw [← hr.out]; exact runP_le _ _
    by_cases hr0 : r = 0
    · cases hp : Lib.hasPrefix X [48]
      all_goals (go_enter Tryz.func93, Tryz.ntmps93)
      all_goals (go_wp2_with (first
        | (go_at_call 106; refine (Tryz.strings_TrimPrefix _ _ _).mono ?_; rintro e w' ⟨rfl, hw⟩; have hw' := hw.symm; subst hw'; clear hw; rw [show Array.toList s.data = c :: t from hct.out, show Array.toList (ByteArray.mk #[45]).data = [45] from rfl, hX.out, hD.out])
        | (go_at_call 107; refine (Tryz.strings_HasPrefix _ _ _).mono ?_; rintro e w' ⟨rfl, hw⟩; have hw' := hw.symm; subst hw'; clear hw; rw [show Array.toList D.data = X from hDb.out, show Array.toList (ByteArray.mk #[48]).data = [48] from rfl, hp])
        | (go_at_call 88; refine (run_any 92 digitN isDigit_any enters21 _ _ (by omega)).mono ?_; rintro e w' ⟨rfl, hw⟩; have hw' := hw.symm; subst hw'; clear hw; rw [hDb.out, hr.out, hr0])))
      all_goals go_ret
      · exact ⟨ret_int (by rw [hct.out, N2.out hp (by rw [hr.out, hr0])]; rfl), rfl⟩
      · exact ⟨ret_int (by rw [hct.out, N1.out hp]; rfl), rfl⟩
    · have g2 : ((r : Int) == 0) = false := by simp; omega
      have g3 : ((s.size : Int) - (D.size : Int)) = ((s.size - D.size : Nat) : Int) := by omega
      cases hp : Lib.hasPrefix X [48]
      all_goals (go_enter Tryz.func93, Tryz.ntmps93)
      all_goals (go_wp2_with (first
        | (go_at_call 106; refine (Tryz.strings_TrimPrefix _ _ _).mono ?_; rintro e w' ⟨rfl, hw⟩; have hw' := hw.symm; subst hw'; clear hw; rw [show Array.toList s.data = c :: t from hct.out, show Array.toList (ByteArray.mk #[45]).data = [45] from rfl, hX.out, hD.out])
        | (go_at_call 107; refine (Tryz.strings_HasPrefix _ _ _).mono ?_; rintro e w' ⟨rfl, hw⟩; have hw' := hw.symm; subst hw'; clear hw; rw [show Array.toList D.data = X from hDb.out, show Array.toList (ByteArray.mk #[48]).data = [48] from rfl, hp])
        | (go_at_call 88; refine (run_any 92 digitN isDigit_any enters21 _ _ (by omega)).mono ?_; rintro e w' ⟨rfl, hw⟩; have hw' := hw.symm; subst hw'; clear hw; rw [hDb.out, hr.out])))
      all_goals go_ret
      · refine ⟨ret_int ?_, rfl⟩
        rw [hct.out, N3.out hp (by rw [hr.out]; exact hr0), hr.out]
        omega
      · exact ⟨ret_int (by rw [hct.out, N1.out hp]; rfl), rfl⟩

end Go.Proofs.YtcfhpodpkficaaaGreatDoor.Lx
